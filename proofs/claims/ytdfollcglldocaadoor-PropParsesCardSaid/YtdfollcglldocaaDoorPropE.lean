/-
  CONTRACTS OF LAYER 4 (prop), part E: the page's Canon and Match.
-/
import Derived.Test.YtdfollcglldocaaDoorPropD
namespace Go.Proofs.YtdfollcglldocaaDoor
open Go.RowKit
set_option linter.unusedVariables false

def sliceLen : Value → Nat
  | .slice _ n _ => n
  | _ => 0
theorem erase_take_lt {l : List PR} {m j : Nat} (hj : j < l.length) (h : j ≠ m) : (l.take (j + 1)).eraseIdx m = (l.take j).eraseIdx m ++ [l.getD j p0] := by
  rw [List.take_succ_eq_append_getElem hj, getD_mem hj]
  by_cases hm : m < j
  · rw [List.eraseIdx_append_of_lt_length (by rw [List.length_take]; omega)]
  · have e1 : (l.take j ++ [l[j]]).eraseIdx m = l.take j ++ [l[j]] := List.eraseIdx_of_length_le (by rw [List.length_append, List.length_take]; simp; omega)
    have e2 : (l.take j).eraseIdx m = l.take j := List.eraseIdx_of_length_le (by rw [List.length_take]; omega)
    rw [e1, e2]
theorem erase_take_eq {l : List PR} {m : Nat} (hm : m < l.length) : (l.take (m + 1)).eraseIdx m = (l.take m).eraseIdx m := by
  rw [List.take_succ_eq_append_getElem hm]
  have e2 : (l.take m).eraseIdx m = l.take m := List.eraseIdx_of_length_le (by rw [List.length_take]; omega)
  rw [e2, List.eraseIdx_append_of_length_le (by rw [List.length_take]; omega)]
  have : m - (l.take m).length = 0 := by rw [List.length_take]; omega
  rw [this]
  simp
theorem erase_len {l : List PR} {m : Nat} (hm : m < l.length) : (l.eraseIdx m).length + 1 = l.length := by
  rw [List.length_eraseIdx]
  rw [if_pos hm]
  omega
theorem own_lt {w : World} {base k n g : Nat} {e : TypeId} {v : Value} {xs : List Value} (h : w.ownsRow base e k v n xs) (hg : v.ownBlock = some g) : base ≤ g ∧ g < w.heap.size := by
  rcases h.2 with ⟨rfl, _⟩ | ⟨g', cap, cur, rfl, hbg, hgg, _⟩
  · simp [Value.ownBlock] at hg
  · simp [Value.ownBlock] at hg
    subst hg
    exact ⟨hbg, (Array.getElem?_eq_some_iff.1 hgg).1⟩
/-- an owned row of another's block stands as long as that block does -/
theorem owns_kept {w w' : World} {base k n B : Nat} {e : TypeId} {v : Value} {xs : List Value} (h : w.ownsRow base e k v n xs) (hb : Below B w w') (hB : w.heap.size ≤ B) : w'.ownsRow base e k v n xs := by
  refine ⟨h.1, ?_⟩
  rcases h.2 with hn | ⟨g, cap, cur, hv, hbg, hgg, rest⟩
  · exact .inl hn
  · exact .inr ⟨g, cap, cur, hv, hbg, by rw [hb.block g (Nat.lt_of_lt_of_le (Array.getElem?_eq_some_iff.1 hgg).1 hB)]; exact hgg, rest⟩
theorem sliceLen_own {w : World} {base k n : Nat} {e : TypeId} {v : Value} {xs : List Value} (h : w.ownsRow base e k v n xs) : sliceLen v = n := by
  rcases h.2 with ⟨rfl, h0⟩ | ⟨g, cap, cur, rfl, _⟩
  · rw [h0]; rfl
  · rfl
theorem pcells_grown {w w' : World} {g : Nat} {l : List PR} {row : Option Nat} (h : PCells w g l) (hg : w.grownBy w' row) (hne : row ≠ some g) : PCells w' g l := fun i hi => by
  obtain ⟨h1, h2⟩ := h i hi
  have hlt := World.block_lt_of_cell? w ⟨g, i * 2, none⟩ h1
  have hb := hg.block g hlt (fun e => hne e.symm)
  have e : ∀ j, w'.cell? ⟨g, j, none⟩ = w.cell? ⟨g, j, none⟩ := fun j => by simp only [World.cell?, hb]
  rw [e, e]
  exact ⟨h1, h2⟩
theorem name_len {l : List PR} (h : Pf.Good l) : (l.map fun q => q.1.length + q.2.length + 2).sum ≤ 1000000 := by
  have key : ∀ l : List PR, (∀ q ∈ l, Pf.PGood q) → (l.map fun q => q.1.length + q.2.length + 2).sum ≤ 130 * l.length := by
    intro l
    induction l with
    | nil => intro _; simp
    | cons q l ih =>
      intro h
      have h1 := ih (fun x hx => h x (List.mem_cons_of_mem _ hx))
      obtain ⟨ha, hb⟩ := h q (by simp)
      have h2 := Tx.name_short ha
      have h3 : q.2.length ≤ 64 := by
        unfold Pf.vok at hb
        rcases (Bool.or_eq_true _ _ ▸ hb) with hb | hb
        · have : q.2 = Pf.star := by simpa using hb
          rw [this]
          decide
        · exact Tx.name_short hb
      rw [List.map_cons, List.sum_cons, List.length_cons]
      omega
  have := key l h.all
  have := h.len
  omega
/-- what Canon answers -/
def RCanoned (w : World) (r : List UInt8 × Nat) (e : Ending) (w' : World) : Prop := e = .returned (.tuple #[.string (bs r.1), .int .i64 (r.2 : Nat)]) ∧ Below w.heap.size w w'
set_option maxRecDepth 100000 in
set_option maxHeartbeats 2000000 in
theorem rcanon_any (s : ByteArray) (w : World) (hs : s.size ≤ 1000000) :
    Calls Tryd.prog 10 #[.string s] w (RCanoned w (Pf.cn s.data.toList)) := by
  have hparse := rparse_any s w hs
  obtain ⟨C, hC⟩ : ∃ C, Pf.cn s.data.toList = C := ⟨_, rfl⟩
  obtain ⟨L, c, hL⟩ : ∃ L c, Pf.par s.data.toList = (L, c) := ⟨_, _, rfl⟩
  rw [hL] at hparse
  rw [hC]
  have HP := Lib.hid hparse
  clear hparse
  by_cases hc : c = 0
  · subst hc
    have hgood := (Pf.par_good hL).1
    have hfin : Hid (∀ r, Pf.Srt L r → C = (Pf.sh r, 0)) := Lib.hid (fun r hr => by
      rw [← hC]
      exact Pf.cn_of (by rw [hL]) (by rw [hL]; exact hr))
    have HG := Lib.hid hgood
    clear hC hL hgood
    obtain ⟨i0, hi, hz0, hz1, hz2⟩ := info_parts info_pair
    have HI := Lib.hid hi
    have HZ0 := Lib.hid hz0
    have HZ1 := Lib.hid hz1
    have HZ2 := Lib.hid hz2
    clear hi hz0 hz1 hz2
    go_enter Tryd.func10, Tryd.ntmps10
    go_wp2_with (go_at_call 8; refine HP.out.mono ?_)
    rintro e w1 ⟨v1, rfl, hrow, hb1⟩
    have HR := Lib.hid hrow
    have HB1 := Lib.hid hb1
    clear hrow hb1 HP
    have hr00 : (w1.alloc (.cells #[] 39)).ownsRow w1.heap.size 39 2 (.slice (some ⟨w1.heap.size, 0, none⟩) 0 0) 0 (pcells []) := World.ownsRow_made w1 #[] 0 (Nat.le_refl _) (by decide) rfl
    have HR00 := Lib.hid hr00
    clear hr00
    go_wp2
    go_loopw [4, 6] (fun l o wr => ∃ rem acc : List PR, PRow wr rem l ∧ wr.ownsRow w1.heap.size 39 2 o acc.length (pcells acc) ∧ (∀ g, rem ≠ [] → l.ownBlock = some g → o.ownBlock ≠ some g) ∧ Hid (Pf.Sel L rem acc) ∧ Below w1.heap.size w1 wr) (fun l _ _ => sliceLen l)
    case atStart =>
      refine ⟨L, [], prow_below HR.out ((Below.refl _ w1).alloc (Nat.le_refl _) _), HR00.out, ?_, Lib.hid (Pf.sel_start HG.out), (Below.refl _ w1).alloc (Nat.le_refl _) _⟩
      intro g hne hg
      obtain ⟨p, cap, hv, hp⟩ := HR.out
      obtain ⟨g', rfl, hcell⟩ := hp hne
      rw [hv] at hg
      simp [Value.ownBlock] at hg
      subst hg
      have hlt := World.block_lt_of_cell? w1 ⟨g', 0 * 2, none⟩ (hcell 0 (List.length_pos_iff.2 hne)).1
      simp only [Value.ownBlock]
      intro e
      injection e with e
      exact absurd hlt (by simp at e ⊢; omega)
    case round =>
      obtain ⟨rem, acc, ⟨p, cap, rfl, hp⟩, hown, hdif, hsel, hb⟩ := hrel
      have hlen6 : acc.length + rem.length ≤ 6 := by
        have := hsel.out.perm.length_eq
        rw [List.length_append] at this
        have := HG.out.len
        omega
      by_cases hne : rem = []
      · subst hne
        have HE := Lib.hid (hfin.out acc (Pf.sel_end hsel.out))
        have hrow := prow_of hown
        have hgood : Pf.Good acc := Pf.good_perm (Pf.sel_end hsel.out).1 HG.out
        have hsh := rshow_any acc _ wr hrow (by have := hgood.len; omega) (name_len hgood)
        have HS := Lib.hid hsh
        clear hsh hrow hsel hown hp hdif hgood
        go_wp2_with (go_at_call 26; refine HS.out.mono ?_)
        rintro e w3 ⟨rfl, hb3⟩
        go_wp2
        go_ret2
        exact ⟨by rw [HE.out]; rfl, below_next HB1.out (below_next hb hb3)⟩
      · obtain ⟨g, rfl, hcell⟩ := hp hne
        have hdg := hdif g hne rfl
        have hleast := least_any rem _ wr ⟨_, cap, rfl, fun _ => ⟨g, rfl, hcell⟩⟩ hne (by omega)
        have HC := Lib.hid hcell
        obtain ⟨n, hn⟩ : ∃ n, rem.length = n := ⟨_, rfl⟩
        have hn1 : 1 ≤ n := by rw [← hn]; exact List.length_pos_iff.2 hne
        rw [hn] at hlen6 hleast ⊢
        have HN := Lib.hid hn
        have HLE := Lib.hid hleast
        clear hp hdif hcell hleast hn hne
        go_wp2_with (go_at_call 25; refine HLE.out.mono ?_)
        rintro e w2 ⟨m, rfl, hmin, hb2⟩
        have hmn : m < n := by have := hmin.1; rw [HN.out] at this; exact this
        obtain ⟨hc1, hc2⟩ := pcells_below HC.out hb2 (Nat.le_refl _) m hmin.1
        have hstep : Hid (Pf.Sel L (rem.eraseIdx m) (acc ++ [rem.getD m p0])) := Lib.hid (by
          have h1 := hmin.1
          rw [getD_mem h1]
          refine Pf.sel_step hsel.out h1 (fun y hy => ?_)
          obtain ⟨j, hj, rfl⟩ := List.getElem_of_mem hy
          have := hmin.2 j hj
          rw [getD_mem hj, getD_mem h1] at this
          exact this)
        obtain ⟨q, hq⟩ : ∃ q, rem.getD m p0 = q := ⟨_, rfl⟩
        rw [hq] at hc1 hc2 hstep
        have hown2 := owns_below hown hb2
        have hb02 := hb.trans (hb2.mono hb.size)
        have hpc2 : PCells (w2.alloc (.cells #[.string (bs q.1), .string (bs q.2)] 39)) g rem := pcells_below HC.out (hb2.alloc hb2.size _) (Nat.le_refl _)
        have HPC2 := Lib.hid hpc2
        clear hpc2 hq hown hb hb2 hmin hsel HLE
        go_wp2_with (at_builtin; refine wpList_append_own _ rfl _ _ 23 rfl w1.heap.size 39 i0 (.agg #[.string ByteArray.empty, .string ByteArray.empty]) 2 32 Tryd.underlying23 HI.out HZ0.out HZ1.out HZ2.out rfl (by decide) _ _ _ rfl (hown2.alloc _) ⟨w2.heap.size, 0, none⟩ 1 1 [.string (bs q.1), .string (bs q.2)] rfl rfl (two_cells w2 _ _ _) (two_one _ _) (by unfold maxLen; omega) (by omega) (by simp; have := hb02.size; omega) ?_)
        intro v3 w3 hown3 hgrow hnil
        have hown4 : w3.ownsRow w1.heap.size 39 2 v3 (acc ++ [q]).length (pcells (acc ++ [q])) := by
          rw [← pcells_snoc, List.length_append]
          exact hown3
        have hpc3 := pcells_grown HPC2.out hgrow hdg
        have HPC3 := Lib.hid hpc3
        have hb03 : Below w1.heap.size w1 w3 := (hb02.alloc hb02.size _).grown hgrow (by simp; have := hb02.size; omega) (fun k hk => (hown2.lt k hk).1)
        have HOWN4 := Lib.hid hown4
        have HB03 := Lib.hid hb03
        clear hnil hown3 hown2 hgrow hpc3 hown4 hb02 hb03 HPC2 hc1 hc2 hdg
        have hr33 : (w3.alloc (.cells #[] 39)).ownsRow w3.heap.size 39 2 (.slice (some ⟨w3.heap.size, 0, none⟩) 0 0) 0 (pcells []) := World.ownsRow_made w3 #[] 0 (Nat.le_refl _) (by decide) rfl
        have HR33 := Lib.hid hr33
        clear hr33
        go_wp2
        go_loopw [8, 9] (fun r i wi => ∃ (k : Nat) (done : List PR), i = .int .i64 k ∧ k ≤ n ∧ done.length ≤ n ∧ Hid (done = (rem.take k).eraseIdx m) ∧ wi.ownsRow w3.heap.size 39 2 r done.length (pcells done) ∧ Below w3.heap.size w3 wi) (fun _ i _ => n - (intOf i).toNat)
        case atStart => exact ⟨0, [], rfl, Nat.zero_le _, Nat.zero_le _, Lib.hid (by simp), HR33.out, (Below.refl _ w3).alloc (Nat.le_refl _) _⟩
        case round =>
          obtain ⟨k, done, rfl, hk, hdl, hdone, hown, hb⟩ := hrel
          by_cases hlt : k < n
          · by_cases hkm : k = m
            · have hd2 : Hid (done = (rem.take (k + 1)).eraseIdx m) := Lib.hid (by
                rw [hdone.out, hkm, erase_take_eq (by rw [HN.out]; exact hmn)])
              have hbe : (((k : Nat) : Int) == ((m : Nat) : Int)) = true := by simp [hkm]
              clear hkm hdone
              go_wp2
              go_roundw
              case rel => exact ⟨k + 1, done, by go_num, hlt, hdl, hd2, hown, hb⟩
              case measure => simp [intOf]; omega
            · have hd2 : Hid (done ++ [rem.getD k p0] = (rem.take (k + 1)).eraseIdx m) := Lib.hid (by
                rw [hdone.out, erase_take_lt (by rw [HN.out]; exact hlt) hkm])
              have hdl2 : done.length + 1 ≤ n := by
                have := congrArg List.length hd2.out
                rw [List.length_append] at this
                have h2 := List.length_eraseIdx_le (rem.take (k + 1)) m
                have h3 : (rem.take (k + 1)).length ≤ n := by rw [List.length_take, HN.out]; omega
                by_cases hmk : m < k + 1
                · have := erase_len (l := rem.take (k + 1)) (m := m) (by rw [List.length_take, HN.out]; omega)
                  simp at *
                  omega
                · simp at *
                  omega
              have hbe : (((k : Nat) : Int) == ((m : Nat) : Int)) = false := by
                simp only [beq_eq_false_iff_ne, Ne]
                omega
              obtain ⟨hc1, hc2⟩ := pcells_below HPC3.out hb (Nat.le_refl _) k (by rw [HN.out]; exact hlt)
              obtain ⟨z, hz⟩ : ∃ z, rem.getD k p0 = z := ⟨_, rfl⟩
              rw [hz] at hc1 hc2 hd2
              clear hkm hdone hz
              go_wp2_with (at_builtin; refine wpList_append_own _ rfl _ _ 23 rfl w3.heap.size 39 i0 (.agg #[.string ByteArray.empty, .string ByteArray.empty]) 2 32 Tryd.underlying23 HI.out HZ0.out HZ1.out HZ2.out rfl (by decide) _ _ _ rfl (hown.alloc _) ⟨wr.heap.size, 0, none⟩ 1 1 [.string (bs z.1), .string (bs z.2)] rfl rfl (two_cells wr _ _ _) (two_one _ _) (by unfold maxLen; omega) (by omega) (by simp; have := hb.size; omega) ?_)
              intro v5 w5 hown5 hgrow hnil
              have hown6 : w5.ownsRow w3.heap.size 39 2 v5 (done ++ [z]).length (pcells (done ++ [z])) := by
                rw [← pcells_snoc, List.length_append]
                exact hown5
              have hb5 : Below w3.heap.size w3 w5 := (hb.alloc hb.size _).grown hgrow (by simp; have := hb.size; omega) (fun k hk => (hown.lt k hk).1)
              clear hnil hown5 hown hgrow hb hc1 hc2
              go_wp2
              go_roundw
              case rel => exact ⟨k + 1, done ++ [z], by go_num, hlt, by simp; omega, hd2, hown6, hb5⟩
              case measure => simp [intOf]; omega
          · have hdn : done = rem.eraseIdx m := by rw [hdone.out, List.take_of_length_le (by rw [HN.out]; omega)]
            have hrow := prow_of hown
            have hlr := sliceLen_own hown
            rw [hdn] at hrow hlr
            have hel := erase_len (l := rem) (m := m) (by rw [HN.out]; exact hmn)
            rw [HN.out] at hel
            have hx : ∀ g, rem.eraseIdx m ≠ [] → Value.ownBlock _ = some g → v3.ownBlock ≠ some g := fun g _ hg e => by
              have h1 := own_lt hown hg
              have h2 := own_lt HOWN4.out e
              omega
            have hown7 := owns_kept HOWN4.out hb (Nat.le_refl _)
            have hb7 := HB03.out.trans (hb.mono HB03.out.size)
            have HX := Lib.hid hx
            have HLR := Lib.hid hlr
            clear hdone hx hown hdn
            go_wp2
            go_roundw
            case rel => exact ⟨rem.eraseIdx m, acc ++ [q], hrow, hown7, HX.out, hstep, hb7⟩
            case measure =>
              rw [HLR.out]
              show _ < n
              omega
  · have hce := Pf.cn_err (s := s.data.toList) (by rw [hL]; exact hc)
    rw [hC, hL] at hce
    have HE := Lib.hid hce
    have hc2 : (((c : Nat) : Int) == 0) = false := by simp; omega
    clear hce hC hL
    go_enter Tryd.func10, Tryd.ntmps10
    go_wp2_with (go_at_call 8; refine HP.out.mono ?_)
    rintro e w1 ⟨v1, rfl, hrow, hb1⟩
    go_wp2
    go_ret2
    exact ⟨by rw [HE.out]; rfl, hb1⟩

theorem all_drop {l : List PR} {f : PR → Bool} {k : Nat} (h : k < l.length) : (l.drop k).all f = (f (l.getD k p0) && (l.drop (k + 1)).all f) := by rw [drop_pr h, List.all_cons]
theorem ask_none {l : List PR} {q : PR} (h : Pf.lk l q.1 = none) : Pf.askOk l q = false := by unfold Pf.askOk; rw [h]
theorem ask_some {l : List PR} {q : PR} {v : List UInt8} (h : Pf.lk l q.1 = some v) : Pf.askOk l q = (q.2 == v || q.2 == [42] || v == [42]) := by unfold Pf.askOk; rw [h]; rfl
set_option maxRecDepth 100000 in
set_option maxHeartbeats 2000000 in
theorem rmatch_any (s t : ByteArray) (w : World) (hs : s.size ≤ 1000000) (ht : t.size ≤ 1000000) :
    Calls Tryd.prog 15 #[.string s, .string t] w fun e w' => e = .returned (.bool (Pf.mt s.data.toList t.data.toList)) ∧ Below w.heap.size w w' := by
  obtain ⟨L, c, hL⟩ : ∃ L c, Pf.par s.data.toList = (L, c) := ⟨_, _, rfl⟩
  obtain ⟨M, d, hM⟩ : ∃ M d, Pf.par t.data.toList = (M, d) := ⟨_, _, rfl⟩
  have hp1 := fun W => rparse_any s W hs
  have hp2 := fun W => rparse_any t W ht
  rw [hL] at hp1
  rw [hM] at hp2
  obtain ⟨B, hB⟩ : ∃ B, Pf.mt s.data.toList t.data.toList = B := ⟨_, rfl⟩
  have hBe : B = if c = 0 ∧ d = 0 then M.all (Pf.askOk L) else false := by rw [← hB]; unfold Pf.mt; rw [hL, hM]
  rw [hB]
  have HP1 := Lib.hid hp1
  have HP2 := Lib.hid hp2
  by_cases hcd : c = 0 ∧ d = 0
  · rw [if_pos hcd] at hBe
    obtain ⟨rfl, rfl⟩ := hcd
    have hM6 := (Pf.par_good hM).1.len
    have hL6 := (Pf.par_good hL).1.len
    have HBE : Hid ((M.drop 0).all (Pf.askOk L) = B) := Lib.hid (by rw [hBe]; rfl)
    clear hp1 hp2 hL hM hB hBe
    go_enter Tryd.func15, Tryd.ntmps15
    go_wp2_with (go_at_call 8; refine (HP1.out _).mono ?_)
    rintro e w1 ⟨v1, rfl, hr1, hb1⟩
    have HR1 := Lib.hid hr1
    clear hr1
    go_wp2_with (go_at_call 8; refine (HP2.out _).mono ?_)
    rintro e w2 ⟨v2, rfl, ⟨p, cap, rfl, hp⟩, hb2⟩
    have hr1 := prow_below HR1.out hb2
    have HR := Lib.hid hr1
    have HPP := Lib.hid hp
    have hb02 := below_next hb1 hb2
    obtain ⟨n, hn⟩ : ∃ n, M.length = n := ⟨_, rfl⟩
    rw [hn] at hM6 ⊢
    have HN := Lib.hid hn
    clear hr1 HR1 hb1 hb2 HP1 HP2 hp hn
    by_cases hne : M = []
    · obtain rfl : n = 0 := by rw [← HN.out, hne]; rfl
      have HE : Hid (B = true) := Lib.hid (by rw [← HBE.out, hne]; rfl)
      clear hne
      go_wp2
      refine wp_loop_rounds 1 ?_
      rw [rounds_succ]
      go_wp2
      go_ret
      exact ⟨ret_bool HE.out.symm, hb02⟩
    · obtain ⟨g, rfl, hcell⟩ := HPP.out hne
      have HC := Lib.hid hcell
      clear HPP hne hcell
      go_wp2
      go_loop [9] (fun i => ∃ k : Nat, i = .int .i64 k ∧ k ≤ n ∧ Hid ((M.drop k).all (Pf.askOk L) = B)) (fun i => n - (intOf i).toNat)
      case atStart => exact ⟨0, rfl, Nat.zero_le _, HBE⟩
      case round =>
        obtain ⟨k, rfl, hk, hr⟩ := hrel
        by_cases hlt : k < n
        · obtain ⟨hc1, hc2⟩ := HC.out k (by rw [HN.out]; exact hlt)
          have hd := all_drop (l := M) (f := Pf.askOk L) (k := k) (by rw [HN.out]; exact hlt)
          have hr2 := hr.out
          rw [hd] at hr2
          obtain ⟨q, hq⟩ : ∃ q, M.getD k p0 = q := ⟨_, rfl⟩
          rw [hq] at hc1 hc2 hr2
          have hf := rfind_any L q.1 _ w2 HR.out (by omega)
          have HF := Lib.hid hf
          clear hr hd hq hf
          cases hlk : Pf.lk L q.1 with
          | none =>
            have HE : Hid (B = false) := Lib.hid (by rw [← hr2, ask_none hlk]; rfl)
            have HLK := Lib.hid hlk
            clear hr2 hlk
            go_wp2_with (go_at_call 21; refine HF.out.mono ?_; rw [HLK.out]; rintro e w' ⟨rfl, rfl⟩)
            go_ret
            exact ⟨ret_bool HE.out.symm, hb02⟩
          | some v =>
            rw [ask_some hlk] at hr2
            have HLK := Lib.hid hlk
            have h2 := Lib.hid hr2
            clear hr2 hlk
            cases h1 : (v == q.2) with
            | true =>
              have e1 : q.2 = v := by have : v = q.2 := by simpa using h1
                                      exact this.symm
              have HE : Hid ((M.drop (k + 1)).all (Pf.askOk L) = B) := Lib.hid (by rw [← h2.out, e1]; simp)
              clear h2 e1
              go_wp2_with (go_at_call 21; refine HF.out.mono ?_; rw [HLK.out]; rintro e w' ⟨rfl, rfl⟩)
              go_round
              case rel => exact ⟨k + 1, by go_num, hlt, HE⟩
              case measure => simp [intOf]; omega
            | false =>
              have e1 : (q.2 == v) = false := by
                rw [beq_eq_false_iff_ne] at h1 ⊢
                exact fun e => h1 e.symm
              cases h3 : (v == [42]) with
              | true =>
                have HE : Hid ((M.drop (k + 1)).all (Pf.askOk L) = B) := Lib.hid (by rw [← h2.out, h3]; simp)
                clear h2 e1
                go_wp2_with (go_at_call 21; refine HF.out.mono ?_; rw [HLK.out]; rintro e w' ⟨rfl, rfl⟩)
                go_round
                case rel => exact ⟨k + 1, by go_num, hlt, HE⟩
                case measure => simp [intOf]; omega
              | false =>
                cases h4 : (q.2 == [42]) with
                | true =>
                  have HE : Hid ((M.drop (k + 1)).all (Pf.askOk L) = B) := Lib.hid (by rw [← h2.out, h4]; simp)
                  clear h2 e1
                  go_wp2_with (go_at_call 21; refine HF.out.mono ?_; rw [HLK.out]; rintro e w' ⟨rfl, rfl⟩)
                  go_round
                  case rel => exact ⟨k + 1, by go_num, hlt, HE⟩
                  case measure => simp [intOf]; omega
                | false =>
                  have HE : Hid (B = false) := Lib.hid (by rw [← h2.out, e1, h3, h4]; rfl)
                  clear h2 e1
                  go_wp2_with (go_at_call 21; refine HF.out.mono ?_; rw [HLK.out]; rintro e w' ⟨rfl, rfl⟩)
                  go_ret
                  exact ⟨ret_bool HE.out.symm, hb02⟩
        · have HE : Hid (B = true) := Lib.hid (by
            rw [← hr.out, List.drop_eq_nil_of_le (by rw [HN.out]; omega)]
            rfl)
          clear hr
          go_wp2
          go_ret
          exact ⟨ret_bool HE.out.symm, hb02⟩
  · rw [if_neg hcd] at hBe
    have HE := Lib.hid hBe
    clear hp1 hp2 hL hM hB hBe
    go_enter Tryd.func15, Tryd.ntmps15
    go_wp2_with (go_at_call 8; refine (HP1.out _).mono ?_)
    rintro e w1 ⟨v1, rfl, hr1, hb1⟩
    have HR1 := Lib.hid hr1
    clear hr1
    go_wp2_with (go_at_call 8; refine (HP2.out _).mono ?_)
    rintro e w2 ⟨v2, rfl, hr2, hb2⟩
    have hb02 := below_next hb1 hb2
    clear hr2 HR1 hb1 hb2 HP1 HP2
    by_cases hc : c = 0
    · have hd : (((d : Nat) : Int) == 0) = false := by
        simp only [beq_eq_false_iff_ne, Ne]
        intro e
        exact hcd ⟨hc, by omega⟩
      subst hc
      clear hcd
      go_wp2
      go_ret
      exact ⟨ret_bool HE.out.symm, hb02⟩
    · have hc' : (((c : Nat) : Int) == 0) = false := by
        simp only [beq_eq_false_iff_ne, Ne]
        omega
      clear hcd hc
      go_wp2
      go_ret
      exact ⟨ret_bool HE.out.symm, hb02⟩
end Go.Proofs.YtdfollcglldocaaDoor
