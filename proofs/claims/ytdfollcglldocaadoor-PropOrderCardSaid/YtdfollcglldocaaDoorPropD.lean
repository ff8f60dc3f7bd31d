/-
  CONTRACTS OF LAYER 4 (prop), part D: the page's Parse.
-/
import Derived.Test.YtdfollcglldocaaDoorPropC
import Derived.Deep.RegionLaw
namespace Go.Proofs.YtdfollcglldocaaDoor
open Go.RowKit
set_option linter.unusedVariables false

theorem rname_bs (k : List UInt8) (w : World) (hk : k.length ≤ 1000000) : Calls Tryd.prog 20 #[.string (bs k)] w fun e w' => e = .returned (.bool (Tx.isName k)) ∧ Below w.heap.size w w' :=
  rname_any (bs k) w (by rw [bs_size]; exact hk)
theorem rsplit_eq (k : List UInt8) (w : World) (hk : k.length ≤ 1000000) : Calls Tryd.prog 19 #[.string (bs k), .int .u8 61] w (Rowed w (Pf.spl 61 k)) :=
  rsplit_any (bs k) 61 w (by rw [bs_size]; exact hk)
theorem spl_mem_len {c : UInt8} : ∀ (l : List UInt8) (p : List UInt8), p ∈ Pf.spl c l → p.length ≤ l.length
  | [], p, h => by simp [Pf.spl] at h; simp [h]
  | b :: l, p, h => by
    have ih := spl_mem_len (c := c) l
    unfold Pf.spl at h
    split at h
    · rcases List.mem_cons.1 h with rfl | h
      · simp
      · exact Nat.le_succ_of_le (ih p h)
    · rcases List.mem_cons.1 h with rfl | h
      · have := ih ((Pf.spl c l).headD []) (by rw [← Pf.head_tail (Pf.spl c l) (Pf.spl_ne c l)]; simp)
        simp only [List.length_cons]
        omega
      · exact Nat.le_succ_of_le (ih p (List.mem_of_mem_tail h))
theorem getD_mem_l {l : List (List UInt8)} {i : Nat} (h : i < l.length) : l.getD i [] ∈ l := by
  rw [List.getD_eq_getElem?_getD, List.getElem?_eq_getElem h]
  exact List.getElem_mem h
theorem drop_l {l : List (List UInt8)} {i : Nat} (h : i < l.length) : l.drop i = l.getD i [] :: l.drop (i + 1) := by
  rw [List.drop_eq_getElem_cons h, List.getD_eq_getElem?_getD, List.getElem?_eq_getElem h]
  rfl
theorem owns_below {w w' : World} {base k n : Nat} {e : TypeId} {v : Value} {xs : List Value} (h : w.ownsRow base e k v n xs) (hb : Below w.heap.size w w') : w'.ownsRow base e k v n xs := by
  refine ⟨h.1, ?_⟩
  rcases h.2 with hn | ⟨g, cap, cur, hv, hbg, hgg, rest⟩
  · exact .inl hn
  · exact .inr ⟨g, cap, cur, hv, hbg, by rw [hb.block g (Array.getElem?_eq_some_iff.1 hgg).1]; exact hgg, rest⟩
theorem owns_drew {w : World} {base k n : Nat} {e : TypeId} {v : Value} {xs : List Value} (h : w.ownsRow base e k v n xs) : w.drew.ownsRow base e k v n xs := h
theorem step_append_own {P : Program} {ops : Array Oper} {o : Oper} {a : Act} {w : World} {K : Act → World → Prop} {Q : Exit → Act → World → Prop} {E : Prop} (hg : o.guard = none) (s x : Operand) (t : TypeId)
    (ho : o.op = .call { callee := .builtin .append, args := #[s, x], argTypes := #[t, t] })
    (base : Nat) (e : TypeId) (i : TypeInfo) (z : Value) (size bytes : Nat) (ht : P.underlying t = some (.slice e)) (hi : P.info? e = some i) (hz : i.zero = some z)
    (hsize : i.size = size) (hby : i.bytes = bytes) (hzs : z.cells.size = size) (hsz : 0 < size)
    (v : Value) (n : Nat) (xs : List Value) (hs : a.eval s = v) (hown : w.ownsRow base e size v n xs)
    (ad : Addr) (m c : Nat) (news : List Value) (hx : a.eval x = .slice (some ad) m c) (hl : news.length = m * size) (hnews : ∀ j u, news[j]? = some u → w.cell? (ad.add j) = some u) (h1 : ∀ u ∈ news, u.oneCell' = true)
    (h63 : n + m ≤ maxLen) (hbytes : (n + m) * bytes ≤ 140737488355328) (hbase : base ≤ w.heap.size)
    (h : ∀ v' w', w'.ownsRow base e size v' (n + m) (xs ++ news) → w.grownBy w' v.ownBlock → (v' = .slice none 0 0 ↔ v = .slice none 0 0 ∧ m = 0) → K (a.put o.dst v') w') : if Region.wanted o (yielded ops a.tmps) = true then Oper.wp P o a w K Q else E := by
  have hw : Region.wanted o (yielded ops a.tmps) = true := by simp [Region.wanted, hg]
  rw [if_pos hw]
  exact wp_append_own w s x t ho base e i z size bytes ht hi hz hsize hby hzs hsz v n xs hs hown ad m c news hx hl hnews h1 h63 hbytes hbase h
theorem st_alloc {w : World} {g : Nat} {l : List (List UInt8)} (h : SCells w g l ∧ Tag w g 9) (o : Obj) : SCells (w.alloc o).drew g l ∧ Tag (w.alloc o).drew g 9 :=
  ⟨fun i hi => scells_grown h.1 h.2 (World.grownBy_alloc w o none) (by simp) i hi, (h.2.grown (World.grownBy_alloc w o none) (by simp) : Tag (w.alloc o) g 9)⟩
theorem two_cells (w : World) (a b : Value) (ty : TypeId) : ∀ (j : Nat) (u : Value), [a, b][j]? = some u → (w.alloc (.cells #[a, b] ty)).cell? ((⟨w.heap.size, 0, none⟩ : Addr).add j) = some u := by
  intro j u hj
  have hadd : (⟨w.heap.size, 0, none⟩ : Addr).add j = ⟨w.heap.size, j, none⟩ := by unfold Addr.add; split <;> simp_all
  rw [hadd, World.cell?_alloc_at _ _ _ _ rfl]
  match j, hj with
  | 0, hj => simpa using hj
  | 1, hj => simpa using hj
  | (j + 2), hj => simp at hj
theorem two_one (a b : ByteArray) : ∀ u ∈ [Value.string a, Value.string b], u.oneCell' = true := by
  intro u hu
  simp at hu
  rcases hu with rfl | rfl <;> rfl
theorem prow_nil (w : World) : PRow w [] (.slice none 0 0) := ⟨none, 0, rfl, fun h => absurd rfl h⟩
theorem not_empty {s : ByteArray} (h : s.data.toList ≠ []) : s.toList.isEmpty = false := by
  rw [Lib.toList_data]
  cases hs : s.data.toList with
  | nil => exact absurd hs h
  | cons _ _ => rfl
/-- what Parse answers -/
def RParsed (w : World) (r : List PR × Nat) (e : Ending) (w' : World) : Prop := ∃ v, e = .returned (.tuple #[v, .int .i64 (r.2 : Nat)]) ∧ PRow w' r.1 v ∧ Below w.heap.size w w'
theorem info_pair : (Tryd.prog.info? 39).map (fun i => (i.zero, i.size, i.bytes)) = some (some (.agg #[.string ByteArray.empty, .string ByteArray.empty]), 2, 32) := by kernel_rfl
set_option maxRecDepth 100000 in
set_option maxHeartbeats 2000000 in
theorem rparse_any (s : ByteArray) (w : World) (hs : s.size ≤ 1000000) :
    Calls Tryd.prog 8 #[.string s] w (RParsed w (Pf.par s.data.toList)) := by
  by_cases h0 : s.data.toList = []
  · have he : s = ByteArray.empty := by
      rw [← bs_data s, h0]
      rfl
    subst he
    go_enter Tryd.func8, Tryd.ntmps8
    go_wp2
    go_ret2
    exact ⟨_, rfl, ⟨_, 0, rfl, fun h => absurd rfl h⟩, (Below.refl _ _).alloc (Nat.le_refl _) _⟩
  · have hse := not_empty h0
    have hpar : Pf.par s.data.toList = if 6 < (Pf.spl 44 s.data.toList).length then ([], 9) else Pf.prs (Pf.spl 44 s.data.toList) [] := by
      unfold Pf.par
      rw [if_neg h0]
    have hpl : ∀ p ∈ Pf.spl 44 s.data.toList, p.length ≤ 1000000 := fun p hp => by
      have := spl_mem_len _ p hp
      rw [ba_len] at this
      omega
    have hsp : Calls Tryd.prog 19 #[.string s, .int .u8 44] (w.alloc (.cells #[] 39)) (Rowed (w.alloc (.cells #[] 39)) (Pf.spl 44 s.data.toList)) := rsplit_any s 44 _ hs
    obtain ⟨ps, hps⟩ : ∃ ps, Pf.spl 44 s.data.toList = ps := ⟨_, rfl⟩
    rw [hps] at hpar hpl hsp
    obtain ⟨n, hn⟩ : ∃ n, ps.length = n := ⟨_, rfl⟩
    obtain ⟨R, hR⟩ : ∃ R, Pf.par s.data.toList = R := ⟨_, rfl⟩
    rw [hR] at hpar ⊢
    rw [hn] at hpar
    have HRA : Hid (6 < n → R = ([], 9)) := Lib.hid (fun h => by rw [hpar, if_pos h])
    have HRB : Hid (¬ 6 < n → Pf.prs (ps.drop 0) [] = R) := Lib.hid (fun h => by rw [hpar, if_neg h]; rfl)
    have HN := Lib.hid hn
    clear hR hn
    have HSP := Lib.hid hsp
    have HPL := Lib.hid hpl
    clear hpar hpl hsp hps h0
    obtain ⟨i0, hi, hz0, hz1, hz2⟩ := info_parts info_pair
    have HI := Lib.hid hi
    have HZ0 := Lib.hid hz0
    have HZ1 := Lib.hid hz1
    have HZ2 := Lib.hid hz2
    clear hi hz0 hz1 hz2
    go_enter Tryd.func8, Tryd.ntmps8
    have hb00 : Below w.heap.size w (w.alloc (.cells #[] 39)) := (Below.refl _ w).alloc (Nat.le_refl _) _
    have hr00 : (w.alloc (.cells #[] 39)).ownsRow w.heap.size 39 2 (.slice (some ⟨w.heap.size, 0, none⟩) 0 0) 0 (pcells []) := World.ownsRow_made w #[] 0 (Nat.le_refl _) (by decide) rfl
    have HB00 := Lib.hid hb00
    have HR00 := Lib.hid hr00
    clear hb00 hr00
    go_wp2_with (go_at_call 19; refine HSP.out.mono ?_)
    rintro e w1 ⟨v1, rfl, ⟨g, cap, rfl, hcell, htag⟩, hb1⟩
    have hb01 : Below w.heap.size w w1 := HB00.out.trans (hb1.mono HB00.out.size)
    have hown0 : w1.ownsRow w.heap.size 39 2 (.slice (some ⟨w.heap.size, 0, none⟩) 0 0) 0 (pcells []) := owns_below HR00.out hb1
    have HOWN := Lib.hid hown0
    have HB1 := Lib.hid hb01
    have HC := Lib.hid hcell
    have HTG := Lib.hid htag
    clear hcell htag hb1 hb01 hown0 HR00 HB00 HSP
    rw [HN.out]
    by_cases h6 : 6 < n
    · have HE := Lib.hid (HRA.out h6)
      go_wp2
      go_ret2
      exact ⟨_, by rw [HE.out]; rfl, by rw [HE.out]; exact prow_nil _, HB1.out⟩
    · have HR := Lib.hid (HRB.out h6)
      go_wp2
      go_loopw [4, 6] (fun o i wr => ∃ (acc : List PR) (k : Nat), i = .int .i64 k ∧ k ≤ n ∧ acc.length = k ∧ Hid (Pf.prs (ps.drop k) acc = R) ∧ wr.ownsRow w.heap.size 39 2 o acc.length (pcells acc) ∧ Hid (SCells wr g ps ∧ Tag wr g 9) ∧ Below w.heap.size w wr) (fun _ i _ => n - (intOf i).toNat)
      case atStart => exact ⟨[], 0, rfl, Nat.zero_le _, rfl, HR, HOWN.out, Lib.hid ⟨HC.out, HTG.out⟩, HB1.out⟩
      case round =>
        obtain ⟨acc, k, rfl, hk, hak, hr, hown, hst, hb⟩ := hrel
        by_cases hlt : k < n
        · have hcell := hst.out.1 k (by rw [HN.out]; exact hlt)
          have hd := drop_l (l := ps) (i := k) (by rw [HN.out]; exact hlt)
          have hmem := HPL.out _ (getD_mem_l (l := ps) (i := k) (by rw [HN.out]; exact hlt))
          obtain ⟨p, hp⟩ : ∃ p, ps.getD k [] = p := ⟨_, rfl⟩
          rw [hp] at hcell hd hmem
          have hr2 := hr.out
          rw [hd, Pf.prs] at hr2
          have HR2 := Lib.hid hr2
          clear hr hd hp hr2
          go_wp2_with (go_at_call 19; refine (rsplit_eq p _ hmem).mono ?_)
          rintro e w2 ⟨v2, rfl, ⟨g2, cap2, rfl, hcell2, htag2⟩, hb2⟩
          have hl2 := Pf.spl_len 61 p
          have HC2 := Lib.hid hcell2
          have HT2 := Lib.hid htag2
          have hb02 := below_next hb hb2
          have hst2 : Hid (SCells w2 g ps ∧ Tag w2 g 9) := Lib.hid ⟨scells_below hst.out.1 hb2 (Nat.le_refl _), hst.out.2.below hb2 (Nat.le_refl _)⟩
          have hown2 := owns_below hown hb2
          obtain ⟨m, hm⟩ : ∃ m, (Pf.spl 61 p).length = m := ⟨_, rfl⟩
          rw [hm] at hl2 ⊢
          have HM := Lib.hid hm
          clear hcell2 htag2 hst hown hb hb2 hcell hm
          by_cases h2 : m = 2
          · have hone : p.count 61 = 1 := by omega
            have hsp := Pf.spl_one hone
            have hx0 := HC2.out 0 (by rw [HM.out]; omega)
            have hx1 := HC2.out 1 (by rw [HM.out]; omega)
            rw [hsp] at hx0 hx1
            obtain ⟨a, ha⟩ : ∃ a, Pf.ky p = a := ⟨_, rfl⟩
            obtain ⟨b, hbv⟩ : ∃ b, Pf.vl p = b := ⟨_, rfl⟩
            have hpc : Pf.pc p = if Tx.isName a && Pf.vok b then 0 else 5 := by
              unfold Pf.pc
              rw [if_neg (by omega), ha, hbv]
            have hal : a.length ≤ 1000000 := by
              rw [← ha]
              exact Nat.le_trans (List.takeWhile_sublist _).length_le hmem
            have hbl : b.length ≤ 1000000 := by
              rw [← hbv]
              exact Nat.le_trans (Nat.le_trans (List.drop_sublist _ _).length_le (List.dropWhile_sublist _).length_le) hmem
            have hy0 : w2.cell? ⟨g2, 0, none⟩ = some (.string (bs a)) := by rw [hx0]; rw [← ha]; rfl
            have hy1 : w2.cell? ⟨g2, 1, none⟩ = some (.string (bs b)) := by rw [hx1]; rw [← hbv]; rfl
            have hg2 := HT2.out.lt
            have HA := Lib.hid ha
            have HB := Lib.hid hbv
            have h2b : ((m : Int) == 2) = true := by simp; omega
            subst h2
            clear hx0 hx1 hsp hone HC2 ha hbv hl2 hmem HM
            by_cases hna : Tx.isName a = true
            · by_cases hvb : Pf.vok b = true
              · have hpc0 : Pf.pc p = 0 := by rw [hpc, hna, hvb]; rfl
                by_cases hst : b = Pf.star
                · have hsb : (b == [42]) = true := by rw [hst]; rfl
                  clear hpc hvb hst
                  go_wp2_with (go_at_call 20; refine (rname_bs a _ hal).mono ?_)
                  rintro e w4 ⟨rfl, hb4⟩
                  have hb04 := below_next hb02 hb4
                  have hst4 : Hid (SCells w4 g ps ∧ Tag w4 g 9) := Lib.hid ⟨scells_below hst2.out.1 hb4 (Nat.le_refl _), hst2.out.2.below hb4 (Nat.le_refl _)⟩
                  have hown4 := owns_below hown2 hb4
                  have hz0 : w4.cell? ⟨g2, 0, none⟩ = some (.string (bs a)) := by rw [hb4.cell (p := ⟨g2, 0, none⟩) hg2]; exact hy0
                  have hz1 : w4.cell? ⟨g2, 1, none⟩ = some (.string (bs b)) := by rw [hb4.cell (p := ⟨g2, 1, none⟩) hg2]; exact hy1
                  clear hy0 hy1 hown2 hst2 hb4 hb02
                  have HRN : Hid ((if (Pf.lk acc a).isSome = true then ([], 8) else Pf.prs (ps.drop (k + 1)) (acc ++ [(a, b)])) = R) := Lib.hid (by
                    have := HR2.out
                    rw [hpc0, if_neg (by decide)] at this
                    rw [← HA.out, ← HB.out]
                    exact this)
                  have hfind := rfind_any acc a _ w4 (prow_of hown4) (by omega)
                  have HF := Lib.hid hfind
                  clear hfind hpc0
                  by_cases hlk : (Pf.lk acc a).isSome = true
                  · have HE : Hid (R = ([], 8)) := Lib.hid (by rw [← HRN.out, if_pos hlk])
                    go_wp2_with (go_at_call 21; refine HF.out.mono ?_; rintro e w' ⟨rfl, rfl⟩)
                    go_ret2
                    exact ⟨_, by rw [HE.out]; rfl, by rw [HE.out]; exact prow_nil _, hb04⟩
                  · have hlk2 : (Pf.lk acc a).isSome = false := by simpa using hlk
                    have HE : Hid (Pf.prs (ps.drop (k + 1)) (acc ++ [(a, b)]) = R) := Lib.hid (by rw [← HRN.out, if_neg hlk])
                    clear HRN hlk
                    have hs6 : SCells ((w4.alloc (.cells #[.string (bs a), .string (bs b)] 39)).drew) g ps ∧ Tag ((w4.alloc (.cells #[.string (bs a), .string (bs b)] 39)).drew) g 9 := st_alloc hst4.out _
                    have hne5 := own_ne_tag hown4 hst4.out.2 (by decide)
                    have HST5 := Lib.hid hs6
                    have HNE := Lib.hid hne5
                    clear hs6 hne5 hst4
                    go_wp2_with (go_at_call 21; refine HF.out.mono ?_; rintro e w' ⟨rfl, rfl⟩)
                    go_region_law (refine step_append_own rfl _ _ 23 rfl w.heap.size 39 i0 (.agg #[.string ByteArray.empty, .string ByteArray.empty]) 2 32 Tryd.underlying23 HI.out HZ0.out HZ1.out HZ2.out rfl (by decide) _ _ _ rfl (owns_drew (hown4.alloc _)) ⟨w4.heap.size, 0, none⟩ 1 1 [.string (bs a), .string (bs b)] rfl rfl (two_cells w4 _ _ _) (two_one _ _) (by unfold maxLen; omega) (by omega) (by simp; have := hb04.size; omega) ?_; intro v' w6 hown6 hgrow hnil)
                    all_goals
                      have hown7 : w6.ownsRow w.heap.size 39 2 v' (acc ++ [(a, b)]).length (pcells (acc ++ [(a, b)])) := by
                        rw [← pcells_snoc, List.length_append]
                        exact hown6
                      have hb06 : Below w.heap.size w w6 := ((hb04.alloc hb04.size _).drew).grown hgrow (by simp; have := hb04.size; omega) (fun k hk => (hown4.lt k hk).1)
                      have hst6 : Hid (SCells w6 g ps ∧ Tag w6 g 9) := Lib.hid ⟨scells_grown HST5.out.1 HST5.out.2 hgrow HNE.out, HST5.out.2.grown hgrow HNE.out⟩
                      clear hnil hown6 hown4 hgrow HST5 HNE hb04
                      go_wp2
                      go_roundw
                      case rel => exact ⟨acc ++ [(a, b)], k + 1, by go_num, hlt, by simp; omega, HE, hown7, hst6, hb06⟩
                      case measure => simp [intOf]; omega
                · have hnb : Tx.isName b = true := by
                    unfold Pf.vok at hvb
                    rcases (Bool.or_eq_true _ _ ▸ hvb) with h | h
                    · exact absurd (by simpa using h) hst
                    · exact h
                  have hsb : (b == [42]) = false := by
                    rw [beq_eq_false_iff_ne]
                    exact hst
                  clear hpc hvb
                  go_wp2_with (go_at_call 20; refine (rname_bs a _ hal).mono ?_)
                  rintro e w3 ⟨rfl, hb3⟩
                  have hb03 := below_next hb02 hb3
                  have hst3 : Hid (SCells w3 g ps ∧ Tag w3 g 9) := Lib.hid ⟨scells_below hst2.out.1 hb3 (Nat.le_refl _), hst2.out.2.below hb3 (Nat.le_refl _)⟩
                  have hown3 := owns_below hown2 hb3
                  have hx0 : w3.cell? ⟨g2, 0, none⟩ = some (.string (bs a)) := by rw [hb3.cell (p := ⟨g2, 0, none⟩) hg2]; exact hy0
                  have hx1 : w3.cell? ⟨g2, 1, none⟩ = some (.string (bs b)) := by rw [hb3.cell (p := ⟨g2, 1, none⟩) hg2]; exact hy1
                  have hg3 : g2 < w3.heap.size := Nat.lt_of_lt_of_le hg2 hb3.size
                  clear hy0 hy1 hown2 hst2 hb3 hb02 hg2
                  go_wp2_with (go_at_call 20; refine (rname_bs b _ hbl).mono ?_)
                  rintro e w4 ⟨rfl, hb4⟩
                  have hb04 := below_next hb03 hb4
                  have hst4 : Hid (SCells w4 g ps ∧ Tag w4 g 9) := Lib.hid ⟨scells_below hst3.out.1 hb4 (Nat.le_refl _), hst3.out.2.below hb4 (Nat.le_refl _)⟩
                  have hown4 := owns_below hown3 hb4
                  have hz0 : w4.cell? ⟨g2, 0, none⟩ = some (.string (bs a)) := by rw [hb4.cell (p := ⟨g2, 0, none⟩) hg3]; exact hx0
                  have hz1 : w4.cell? ⟨g2, 1, none⟩ = some (.string (bs b)) := by rw [hb4.cell (p := ⟨g2, 1, none⟩) hg3]; exact hx1
                  clear hx0 hx1 hown3 hst3 hb4 hb03
                  have HRN : Hid ((if (Pf.lk acc a).isSome = true then ([], 8) else Pf.prs (ps.drop (k + 1)) (acc ++ [(a, b)])) = R) := Lib.hid (by
                    have := HR2.out
                    rw [hpc0, if_neg (by decide)] at this
                    rw [← HA.out, ← HB.out]
                    exact this)
                  have hfind := rfind_any acc a _ w4 (prow_of hown4) (by omega)
                  have HF := Lib.hid hfind
                  clear hfind hpc0
                  by_cases hlk : (Pf.lk acc a).isSome = true
                  · have HE : Hid (R = ([], 8)) := Lib.hid (by rw [← HRN.out, if_pos hlk])
                    go_wp2_with (go_at_call 21; refine HF.out.mono ?_; rintro e w' ⟨rfl, rfl⟩)
                    go_ret2
                    exact ⟨_, by rw [HE.out]; rfl, by rw [HE.out]; exact prow_nil _, hb04⟩
                  · have hlk2 : (Pf.lk acc a).isSome = false := by simpa using hlk
                    have HE : Hid (Pf.prs (ps.drop (k + 1)) (acc ++ [(a, b)]) = R) := Lib.hid (by rw [← HRN.out, if_neg hlk])
                    clear HRN hlk
                    have hs6 : SCells ((w4.alloc (.cells #[.string (bs a), .string (bs b)] 39)).drew) g ps ∧ Tag ((w4.alloc (.cells #[.string (bs a), .string (bs b)] 39)).drew) g 9 := st_alloc hst4.out _
                    have hne5 := own_ne_tag hown4 hst4.out.2 (by decide)
                    have HST5 := Lib.hid hs6
                    have HNE := Lib.hid hne5
                    clear hs6 hne5 hst4
                    go_wp2_with (go_at_call 21; refine HF.out.mono ?_; rintro e w' ⟨rfl, rfl⟩)
                    go_region_law (refine step_append_own rfl _ _ 23 rfl w.heap.size 39 i0 (.agg #[.string ByteArray.empty, .string ByteArray.empty]) 2 32 Tryd.underlying23 HI.out HZ0.out HZ1.out HZ2.out rfl (by decide) _ _ _ rfl (owns_drew (hown4.alloc _)) ⟨w4.heap.size, 0, none⟩ 1 1 [.string (bs a), .string (bs b)] rfl rfl (two_cells w4 _ _ _) (two_one _ _) (by unfold maxLen; omega) (by omega) (by simp; have := hb04.size; omega) ?_; intro v' w6 hown6 hgrow hnil)
                    all_goals
                      have hown7 : w6.ownsRow w.heap.size 39 2 v' (acc ++ [(a, b)]).length (pcells (acc ++ [(a, b)])) := by
                        rw [← pcells_snoc, List.length_append]
                        exact hown6
                      have hb06 : Below w.heap.size w w6 := ((hb04.alloc hb04.size _).drew).grown hgrow (by simp; have := hb04.size; omega) (fun k hk => (hown4.lt k hk).1)
                      have hst6 : Hid (SCells w6 g ps ∧ Tag w6 g 9) := Lib.hid ⟨scells_grown HST5.out.1 HST5.out.2 hgrow HNE.out, HST5.out.2.grown hgrow HNE.out⟩
                      clear hnil hown6 hown4 hgrow HST5 HNE hb04
                      go_wp2
                      go_roundw
                      case rel => exact ⟨acc ++ [(a, b)], k + 1, by go_num, hlt, by simp; omega, HE, hown7, hst6, hb06⟩
                      case measure => simp [intOf]; omega
              · have hnb : Tx.isName b = false := by
                  cases h : Tx.isName b with
                  | false => rfl
                  | true => exact absurd (by unfold Pf.vok; rw [h]; simp) hvb
                have hsb : (b == [42]) = false := by
                  rw [beq_eq_false_iff_ne]
                  intro e
                  exact hvb (by rw [e]; rfl)
                have HE : Hid (R = ([], 5)) := Lib.hid (by
                  have := HR2.out
                  have h5 : Pf.pc p = 5 := by rw [hpc]; simp [hvb]
                  rw [h5, if_pos (by decide)] at this
                  exact this.symm)
                clear hvb hpc
                go_wp2_with (go_at_call 20; refine (rname_bs a _ hal).mono ?_)
                rintro e w3 ⟨rfl, hb3⟩
                have hb03 := below_next hb02 hb3
                have hx1 : w3.cell? ⟨g2, 1, none⟩ = some (.string (bs b)) := by rw [hb3.cell (p := ⟨g2, 1, none⟩) hg2]; exact hy1
                clear hy0 hy1 hown2 hst2 hb3 hb02 hg2
                go_wp2_with (go_at_call 20; refine (rname_bs b _ hbl).mono ?_; rintro e w' ⟨rfl, hb4⟩)
                go_ret2
                exact ⟨_, by rw [HE.out]; rfl, by rw [HE.out]; exact prow_nil _, below_next hb03 ‹_›⟩
            · have HE : Hid (R = ([], 5)) := Lib.hid (by
                have := HR2.out
                have h5 : Pf.pc p = 5 := by rw [hpc]; simp [hna]
                rw [h5, if_pos (by decide)] at this
                exact this.symm)
              have hnf : Tx.isName a = false := by simpa using hna
              clear hna hpc
              go_wp2_with (go_at_call 20; refine (rname_bs a _ hal).mono ?_; rintro e w' ⟨rfl, hb4⟩)
              go_ret2
              exact ⟨_, by rw [HE.out]; rfl, by rw [HE.out]; exact prow_nil _, below_next hb02 ‹_›⟩
          · have hpc : Pf.pc p = 3 := by
              unfold Pf.pc
              rw [if_pos (by omega)]
            have HE : Hid (R = ([], 3)) := Lib.hid (by
              have := HR2.out
              rw [hpc, if_pos (by decide)] at this
              exact this.symm)
            clear hpc
            have h2b : ((m : Int) == 2) = false := by simp; omega
            go_wp2
            go_ret2
            exact ⟨_, by rw [HE.out]; rfl, by rw [HE.out]; exact prow_nil _, hb02⟩
        · have HE : Hid (R = (acc, 0)) := Lib.hid (by
            rw [← hr.out, List.drop_eq_nil_of_le (by rw [HN.out]; omega)]
            rfl)
          have hR := prow_of hown
          clear hr hst hown
          go_wp2
          go_ret2
          exact ⟨_, by rw [HE.out]; rfl, by rw [HE.out]; exact hR, hb⟩
end Go.Proofs.YtdfollcglldocaaDoor
