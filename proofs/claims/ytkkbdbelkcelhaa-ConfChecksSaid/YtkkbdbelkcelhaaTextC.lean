/-
  CONTRACTS OF LAYER 3 (text), part C: the page's Runes, Name, Fold, Head.
-/
import Derived.Test.YtkkbdbelkcelhaaTextB
import Derived.Laws.Cover4
namespace Go.Proofs.Ytkkbdbelkcelhaa
open Go.RowKit
set_option linter.unusedVariables false

theorem info21 : (Try.prog.info? 21).map (fun i => (i.zero, i.size, i.bytes)) = some (some (.int .i32 0), 1, 4) := by kernel_rfl
/-- the runes l, as a row's cells -/
def rcells (l : List Nat) : List Value := l.map fun (r : Nat) => Value.int .i32 (r : Int)
theorem rcells_len (l : List Nat) : (rcells l).length = l.length := by simp [rcells]
theorem rcells_snoc (l : List Nat) (r : Nat) : rcells l ++ [.int .i32 (r : Int)] = rcells (l ++ [r]) := by simp [rcells]
/-- a slice that holds the runes l -/
def RRow (w : World) (l : List Nat) (v : Value) : Prop := ∃ g cap, v = .slice (some ⟨g, 0, none⟩) l.length cap ∧ ∀ i, i < l.length → w.cell? ⟨g, i, none⟩ = some (.int .i32 ((l.getD i 0 : Nat) : Int))
theorem rrow_of {w : World} {base : Nat} {v : Value} {l : List Nat} (h : w.ownsRow base 21 1 v l.length (rcells l)) (hne : v ≠ .slice none 0 0) : RRow w l v := by
  rcases h.2 with ⟨hv, _⟩ | ⟨g, cap, cur, hv, hbg, hg, hnc, hcm, hcs, htake⟩
  · exact absurd hv hne
  · refine ⟨g, cap, hv, fun i hi => ?_⟩
    have hc := h.cells (g := g) (by rw [hv]; rfl) i (.int .i32 ((l.getD i 0 : Nat) : Int)) (by
      unfold rcells
      rw [List.getElem?_map, List.getD_eq_getElem?_getD, List.getElem?_eq_getElem hi]
      rfl)
    have hadd : (⟨g, 0, none⟩ : Addr).add i = ⟨g, i, none⟩ := by unfold Addr.add; split <;> simp_all
    rwa [hadd] at hc
/-- what Runes answers -/
def Runed (w : World) (l : List Nat) (e : Ending) (w' : World) : Prop := ∃ v, e = .returned v ∧ RRow w' l v ∧ Below w.heap.size w w'
theorem iter_grown {w w' : World} {v : Value} {base n k : Nat} {e : TypeId} {xs : List Value} {s : ByteArray} {pos : Nat} (hg : w.grownBy w' v.ownBlock) (ho : w.ownsRow base e 1 v n xs) (hk : w.heap[k]? = some (.stringIter s pos)) : w'.heap[k]? = some (.stringIter s pos) := by
  rw [hg.block k (Array.getElem?_eq_some_iff.1 hk).1 ?_]
  · exact hk
  · intro e1
    rcases ho.2 with ⟨rfl, _⟩ | ⟨g, cap, cur, rfl, hbg, hgg, _⟩
    · simp [Value.ownBlock] at e1
    · simp [Value.ownBlock] at e1
      rw [e1, hgg] at hk
      cases hk
theorem owns_iter {w : World} {v : Value} {base n k : Nat} {e : TypeId} {xs : List Value} {s : ByteArray} {pos : Nat} (ho : w.ownsRow base e 1 v n xs) (hk : w.heap[k]? = some (.stringIter s pos)) (pos' : Nat) : (w.iterAt k s pos').ownsRow base e 1 v n xs := by
  refine ⟨ho.1, ?_⟩
  rcases ho.2 with hn | ⟨g, cap, cur, hv, hbg, hgg, rest⟩
  · exact .inl hn
  · refine .inr ⟨g, cap, cur, hv, hbg, ?_, rest⟩
    rw [Lib.iterAt_other w k g s pos' (by intro e1; rw [e1, hk] at hgg; cases hgg)]
    exact hgg
set_option maxHeartbeats 1000000 in
theorem rrunes_any (s : ByteArray) (w : World) (hs : s.size ≤ 1000000) :
    Calls Try.prog 29 #[.string s] w (Runed w (Tx.runes s.data.toList)) := by
  obtain ⟨T, hTe⟩ : ∃ T, Tx.runes s.data.toList = T := ⟨_, rfl⟩
  have HT : Hid ([] ++ rn s 0 = T) := Lib.hid (by rw [← hTe]; rfl)
  have hTl : T.length ≤ s.size := by rw [← hTe]; have := (Tx.runes_len s.data.toList).1; rwa [ba_len] at this
  rw [hTe]
  clear hTe
  obtain ⟨i0, hi, hz0, hz1, hz2⟩ := info_parts info21
  have HI := Lib.hid hi
  have HZ0 := Lib.hid hz0
  have HZ1 := Lib.hid hz1
  have HZ2 := Lib.hid hz2
  clear hi hz0 hz1 hz2
  go_enter Try.func29, Try.ntmps29
  go_wp2
  go_loopw [3] (fun v wr => ∃ (pos : Nat) (done : List Nat), wr.ownsRow w.heap.size 21 1 v done.length (rcells done) ∧ v ≠ .slice none 0 0 ∧ Hid (done ++ rn s pos = T) ∧ wr.heap[w.heap.size + 1]? = some (.stringIter s pos) ∧ Below w.heap.size w wr) (fun _ wr => s.size - wr.iterPos (w.heap.size + 1))
  case atStart =>
    refine ⟨0, [], ?_, by simp, HT, ?_, ?_⟩
    · exact (World.ownsRow_made w #[] 0 (Nat.le_refl _) (by decide) rfl).alloc _
    · have := World.iter_heap (w.alloc (.cells #[] 21)) s 0
      simpa using this
    · exact ((Below.refl _ w).alloc (Nat.le_refl _) _).alloc (by simp) _
  case round =>
    obtain ⟨pos, done, hown, hne, hd, hit, hb⟩ := hrel
    clear HT
    have hsz : w.heap.size + 1 < wr.heap.size := (Array.getElem?_eq_some_iff.1 hit).1
    by_cases hp : pos < s.size
    · have hnx : ∀ ty, (Instr.next (.pointer (some ⟨w.heap.size + 1, 0, none⟩)) true ty).run Try.prog wr = _ := fun ty => Lib.run_next_any_at wr (w.heap.size + 1) s pos ty hit hp
      have hwd := width hp
      have hd2 : Hid ((done ++ [(Utf8.decode s pos).1]) ++ rn s (pos + (Utf8.decode s pos).2) = T) := by
        have := hd.out
        rw [rn_next hp] at this
        exact Lib.hid (by rw [← this]; simp)
      have hdl : done.length + 1 ≤ T.length := by rw [← hd2.out, List.length_append, List.length_append]; simp
      have hit2 := Lib.iterAt_heap wr (w.heap.size + 1) s pos (pos + (Utf8.decode s pos).2) hit
      have hb2 := Lib.below_iterAt hb (k := w.heap.size + 1) (by omega) s (pos + (Utf8.decode s pos).2)
      have hown2 := owns_iter hown hit (pos + (Utf8.decode s pos).2)
      have hsz2 : w.heap.size ≤ (wr.iterAt (w.heap.size + 1) s (pos + (Utf8.decode s pos).2)).heap.size := by rw [Lib.iterAt_size]; omega
      obtain ⟨w2, hw2⟩ : ∃ w2, wr.iterAt (w.heap.size + 1) s (pos + (Utf8.decode s pos).2) = w2 := ⟨_, rfl⟩
      rw [hw2] at hit2 hb2 hown2 hsz2 hnx
      have HW2 := Lib.hid hw2
      clear hd hw2
      go_wp2_with (at_builtin; refine wpList_append_own _ rfl _ _ 53 rfl w.heap.size 21 i0 (.int .i32 0) 1 4 Try.underlying53 HI.out HZ0.out HZ1.out HZ2.out rfl (by decide) _ _ _ rfl (hown2.alloc _) ⟨w2.heap.size, 0, none⟩ 1 1 [.int .i32 ((Utf8.decode s pos).1 : Nat)] rfl rfl ?c1 ?c2 ?c3 ?c4 ?c5 ?_)
      case c1 =>
        intro j u hj
        match j, hj with
        | 0, hj => simp at hj; subst hj; simp [Addr.add]
        | (j + 1), hj => simp at hj
      case c2 => intro u hu; simp at hu; subst hu; rfl
      case c3 => unfold maxLen; omega
      case c4 => omega
      case c5 => simp; omega
      intro v' w3 hown3 hgrow hnil
      rw [rcells_snoc] at hown3
      have hl1 : (done ++ [(Utf8.decode s pos).1]).length = done.length + 1 := by simp
      rw [← hl1] at hown3
      have hit3 := iter_grown hgrow (hown2.alloc _) (by rw [Below.heap_alloc _ _ _ (Array.getElem?_eq_some_iff.1 hit2).1]; exact hit2)
      have hne3 : v' ≠ .slice none 0 0 := hnil
      have hb3 : Below w.heap.size w w3 := (hb2.alloc hsz2 _).grown hgrow (by simp; omega) (fun k hk => (hown2.lt k hk).1)
      have HN := Lib.hid hne3
      clear hl1 hgrow hnil hne3 hne hown hown2 hnx
      go_wp2
      go_roundw
      case rel => exact ⟨pos + (Utf8.decode s pos).2, _, hown3, HN.out, hd2, hit3, hb3⟩
      case measure =>
        simp only [World.iterPos, hit3, hit]
        omega
    · have hnx : ∀ ty, (Instr.next (.pointer (some ⟨w.heap.size + 1, 0, none⟩)) true ty).run Try.prog wr = _ := fun ty => Lib.run_next_end_at wr (w.heap.size + 1) s pos ty hit hp
      have HE : Hid (done = T) := by
        have := hd.out
        rw [rn_end hp, List.append_nil] at this
        exact Lib.hid this
      have hR := rrow_of hown hne
      rw [HE.out] at hR
      clear hd
      go_wp2
      go_ret
      exact ⟨_, rfl, hR, hb⟩

theorem nm_take_snoc {l : List Nat} {i : Nat} (h : i < l.length) : l.take (i + 1) = l.take i ++ [l.getD i 0] := by
  rw [List.take_succ_eq_append_getElem h, List.getD_eq_getElem?_getD, List.getElem?_eq_getElem h]
  rfl
theorem rcell_of {w : World} {g n : Nat} {T : List Nat} (hc : ∀ i, i < n → w.cell? ⟨g, i, none⟩ = some (.int .i32 ((T.getD i 0 : Nat) : Int))) {i : Nat} (h : i < n) : w.cell? ⟨g, i, none⟩ = some (.int .i32 ((T.getD i 0 : Nat) : Int)) := hc i h
theorem mem_getD {l : List Nat} {i : Nat} (h : i < l.length) : l.getD i 0 ∈ l := by
  rw [List.getD_eq_getElem?_getD, List.getElem?_eq_getElem h]
  exact List.getElem_mem h
theorem name_all {l : List Nat} {T : Nat} (h : (l.all fun (x : Nat) => Tx.ok x) = true) : (l.all (fun (x : Nat) => Tx.ok x) && decide (1 ≤ T) && decide (T ≤ 16)) = (decide (1 ≤ T) && decide (T ≤ 16)) := by rw [h, Bool.true_and]
set_option maxHeartbeats 1000000 in
theorem rname_any (s : ByteArray) (w : World) (hs : s.size ≤ 1000000) :
    Calls Try.prog 27 #[.string s] w fun e w' => e = .returned (.bool (Tx.isName s.data.toList)) ∧ Below w.heap.size w w' := by
  by_cases hbig : 100 < s.size
  · have hf : Tx.isName s.data.toList = false := by
      rw [Bool.eq_false_iff]
      intro h
      have := Tx.name_short h
      rw [ba_len] at this
      omega
    rw [hf]
    clear hf
    go_enter Try.func27, Try.ntmps27
    go_wp2
    go_ret
    exact ⟨rfl, Below.refl _ _⟩
  · obtain ⟨T, hTe⟩ : ∃ T, Tx.runes s.data.toList = T := ⟨_, rfl⟩
    obtain ⟨b, hbe⟩ : ∃ b, Tx.isName s.data.toList = b := ⟨_, rfl⟩
    have HB : Hid (b = (T.all (fun (x : Nat) => Tx.ok x) && decide (1 ≤ T.length) && decide (T.length ≤ 16))) := Lib.hid (by rw [← hbe, ← hTe]; rfl)
    have hTl : T.length ≤ s.size := by rw [← hTe]; have := (Tx.runes_len s.data.toList).1; rwa [ba_len] at this
    have hg : ∀ i, T.getD i 0 ≤ 1114111 := fun i => by
      by_cases h : i < T.length
      · have := Tx.runes_good s.data.toList _ (by rw [hTe]; exact mem_getD h)
        unfold Tx.good at this
        omega
      · rw [List.getD_eq_getElem?_getD, List.getElem?_eq_none (by omega)]
        exact Nat.zero_le _
    have hrun := rrunes_any s w hs
    rw [hTe] at hrun
    rw [hbe]
    have HRUN := Lib.hid hrun
    have HG := Lib.hid hg
    clear hrun hTe hbe hg
    go_enter Try.func27, Try.ntmps27
    go_wp2_with (go_at_call 29; refine HRUN.out.mono ?_)
    rintro e w1 ⟨v, rfl, ⟨g, cap, rfl, hcell⟩, hb1⟩
    have HC := Lib.hid hcell
    clear hcell
    obtain ⟨n, hn⟩ : ∃ n, T.length = n := ⟨_, rfl⟩
    rw [hn] at hTl ⊢
    have HN := Lib.hid hn
    clear hn HRUN
    go_wp2
    go_loop [4] (fun i => ∃ k : Nat, i = .int .i64 k ∧ k ≤ n ∧ Hid ((T.take k).all (fun (x : Nat) => Tx.ok x) = true)) (fun i => n - (intOf i).toNat)
    case atStart => exact ⟨0, rfl, Nat.zero_le _, by simp [Hid]⟩
    case round =>
      obtain ⟨k, rfl, hk, ha⟩ := hrel
      by_cases hlt : k < n
      · have hcell := HC.out k (by rw [HN.out]; exact hlt)
        have hr := HG.out k
        have hsn := nm_take_snoc (l := T) (i := k) (by rw [HN.out]; exact hlt)
        obtain ⟨r, hre⟩ : ∃ r, T.getD k 0 = r := ⟨_, rfl⟩
        rw [hre] at hcell hr hsn
        have HRE := Lib.hid hre
        have HSN := Lib.hid hsn
        clear hre hsn
        by_cases hok : 1 ≤ Tx.kd (r : Int) ∧ Tx.kd (r : Int) ≤ 3
        · have ha2 : Hid ((T.take (k + 1)).all (fun (x : Nat) => Tx.ok x) = true) := Lib.hid (by
            rw [HSN.out, List.all_append, ha.out, List.all_cons, (Tx.ok_iff r).2 hok]
            rfl)
          obtain ⟨hok1, hok2⟩ := hok
          go_wp2_with (go_at_call 30; refine (rkind_any _ _).mono ?_; rintro e w' ⟨rfl, rfl⟩)
          go_round
          case rel => exact ⟨k + 1, by go_num, hlt, ha2⟩
          case measure => simp [intOf]; omega
        · have hbf : Hid (b = false) := Lib.hid (by
            rw [HB.out]
            have : T.all (fun (x : Nat) => Tx.ok x) = false := by
              rw [Bool.eq_false_iff]
              intro h
              rw [List.all_eq_true] at h
              have := h (T.getD k 0) (mem_getD (by rw [HN.out]; exact hlt))
              rw [HRE.out, Tx.ok_iff] at this
              exact hok this
            rw [this]; rfl)
          have hkr := Tx.kd_range (r : Int)
          by_cases h1 : Tx.kd (r : Int) < 1
          · clear hok
            go_wp2_with (go_at_call 30; refine (rkind_any _ _).mono ?_; rintro e w' ⟨rfl, rfl⟩)
            go_ret
            exact ⟨ret_bool hbf.out.symm, hb1⟩
          · have h3 : 3 < Tx.kd (r : Int) := by omega
            clear hok
            go_wp2_with (go_at_call 30; refine (rkind_any _ _).mono ?_; rintro e w' ⟨rfl, rfl⟩)
            go_ret
            exact ⟨ret_bool hbf.out.symm, hb1⟩
      · have hbt : Hid (b = (decide (1 ≤ n) && decide (n ≤ 16))) := Lib.hid (by
          rw [HB.out, name_all, HN.out]
          have := ha.out
          rwa [List.take_of_length_le (by rw [HN.out]; omega)] at this)
        clear ha
        by_cases h1 : 1 ≤ n
        · by_cases h16 : n ≤ 16
          · go_wp2
            go_ret
            exact ⟨ret_bool (by rw [hbt.out, decide_eq_true h1, decide_eq_true h16, decide_eq_true (show (n : Int) ≤ 16 by omega)]; rfl), hb1⟩
          · go_wp2
            go_ret
            exact ⟨ret_bool (by rw [hbt.out, decide_eq_true h1, decide_eq_false h16]; first | rfl | rw [decide_eq_false (show ¬ (n : Int) ≤ 16 by omega)]; rfl), hb1⟩
        · go_wp2
          go_ret
          exact ⟨ret_bool (by rw [hbt.out, decide_eq_false h1]; rfl), hb1⟩

theorem cat_lists (a b : List UInt8) : (⟨a.toArray⟩ : ByteArray) ++ ⟨b.toArray⟩ = ⟨(a ++ b).toArray⟩ := by
  apply ByteArray.ext
  simp [ByteArray.data_append]
theorem u8_nat (x : Nat) : ((x : Int).toNat).toUInt8 = UInt8.ofNat x := rfl
theorem encode_eq {r : Nat} (h : Tx.good r) : Utf8.encode (r : Int) = ⟨(Lib.encodeRune (r : Int)).toArray⟩ := by
  unfold Tx.good at h
  have hv : Utf8.valid (r : Int) = true := by unfold Utf8.valid; simp; omega
  rw [Tx.enc_nat]
  unfold Utf8.encode
  rw [if_pos hv]
  simp only [Int.toNat_natCast]
  by_cases h1 : r ≤ 127
  · rw [Lib.encodeRuneZ_one (by omega) (by omega), if_pos (by omega)]
    rfl
  · rw [if_neg (by omega)]
    by_cases h2 : r ≤ 2047
    · rw [Lib.encodeRuneZ_two (by omega) (by omega), if_pos (by omega)]
      rfl
    · rw [if_neg (by omega)]
      by_cases h3 : r ≤ 65535
      · rw [Lib.encodeRuneZ_three (by omega), if_pos (by omega)]
        rfl
      · rw [Lib.encodeRuneZ_four (by omega) (by omega), if_neg (by omega)]
        rfl
end Go.Proofs.Ytkkbdbelkcelhaa