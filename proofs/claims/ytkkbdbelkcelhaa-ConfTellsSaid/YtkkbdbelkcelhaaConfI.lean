/-
  CONTRACTS OF LAYER 7 (conf), part I: Tenant, of the program and of the page.
-/
import Derived.Test.YtkkbdbelkcelhaaConfH
namespace Go.Proofs.Ytkkbdbelkcelhaa
open Go.RowKit Go.Maps
set_option linter.unusedVariables false

def tno (c : Cf.C) (s : ByteArray) : Int := max (Cf.tenant c s) 0
def tok (c : Cf.C) (s : ByteArray) : Bool := decide (0 ≤ Cf.tenant c s)
theorem ret_two {a b : Int} {x y : Bool} (h : a = b) (k : x = y) : Ending.returned (.tuple #[.int .i64 a, .bool x]) = .returned (.tuple #[.int .i64 b, .bool y]) := by rw [h, k]
theorem tenant_good {c : Cf.C} {s : ByteArray} (h : Cf.chk c = 0) : Cf.tenant c s = Cf.fnd s c.ten 0 := by unfold Cf.tenant; rw [if_pos h]
theorem tenant_bad {c : Cf.C} {s : ByteArray} (h : ¬ Cf.chk c = 0) : Cf.tenant c s = -1 := by unfold Cf.tenant; rw [if_neg h]
set_option maxHeartbeats 1000000 in
set_option maxRecDepth 100000 in
theorem tenant_any (c : Cf.C) (tp lp : Option Addr) (n tc m lc : Nat) (s : ByteArray) (w : World) (h : CIn w c tp n lp m) :
    Calls Try.prog 9 #[cv c tp n tc lp m lc, .string s] w fun e w' => e = .returned (.tuple #[.int .i64 (tno c s), .bool (tok c s)]) ∧ Below w.heap.size w w' := by
  have hm1 := h.n100
  have hB : Boxed w c tp n tc lp m lc := boxed h
  have hchk := check_any c tp lp n tc m lc _ hB.cin
  unfold cv at hchk ⊢
  have hn := h.hn
  have hm := h.hm
  have HB := Lib.hid hB.blk
  have HL := Lib.hid hB.bel
  have HIN := Lib.hid hB.cin
  clear hB h
  by_cases h0 : Cf.chk c = 0
  · obtain ⟨T, hT⟩ : ∃ T, Cf.fnd s c.ten 0 = T := ⟨_, rfl⟩
    have HT : Hid (Cf.tenant c s = T) := Lib.hid (by rw [tenant_good h0, hT])
    have HR : Hid (Cf.fnd s (c.ten.drop 0) 0 = T) := Lib.hid (by rw [List.drop_zero, hT])
    rw [h0] at hchk
    have HCHK := Lib.hid hchk
    clear hchk
    have HN := Lib.hid hn
    clear hn hm h0 hT
    go_enter Try.func9, Try.ntmps9
    go_wp2_with (refine ld_row (by rfl) 25 _ rfl w.heap.size rfl _ _ _ _ HB.out Try.underlying25 rfl (by kernel_rfl) ?_)
    refine HCHK.out.mono ?_
    rintro e w2 ⟨rfl, hb2⟩
    have hblk := CBlk.below (c := c) (tp := tp) (lp := lp) HB.out hb2 (Nat.le_refl _)
    have htin := HIN.out.tin.below hb2 (Nat.le_refl _)
    have HTIN := Lib.hid htin
    have HBLK := Lib.hid hblk
    obtain ⟨f0, _⟩ := hblk.cells
    have hb02 := below_next HL.out hb2
    clear hblk hb2 htin HIN HB HCHK
    go_wp2
    go_loopw [14] (fun i wr => ∃ k : Nat, i = .int .i64 k ∧ k ≤ n ∧ Hid (Cf.fnd s (c.ten.drop k) k = T) ∧ w2.heap.size ≤ wr.heap.size ∧ Below w2.heap.size w2 wr) (fun i _ => n - (intOf i).toNat)
    case atStart => exact ⟨0, rfl, Nat.zero_le _, HR, Nat.le_refl _, Below.refl _ _⟩
    case round =>
      obtain ⟨k, rfl, hk, hr, hsz, hb⟩ := hrel
      by_cases hlt : k < n
      · obtain ⟨b, off, rfl, hbl0, hd0, hd1, hd2⟩ := HTIN.out k (by rw [HN.out]; exact hlt)
        have hc0 := (hb.cell (p := ⟨b, off + k * 3, none⟩) hbl0).trans hd0
        have hc1 := (hb.cell (p := ⟨b, off + k * 3 + 1, none⟩) hbl0).trans hd1
        have hc2 := (hb.cell (p := ⟨b, off + k * 3 + 2, none⟩) hbl0).trans hd2
        have hbk := CBlk.below HBLK.out hb (Nat.le_refl _)
        obtain ⟨g0, _⟩ := hbk.cells
        have hd := Cf.drop_tn (l := c.ten) (i := k) (by rw [HN.out]; exact hlt)
        obtain ⟨⟨nm, wt, qt⟩, hq⟩ : ∃ t, c.ten.getD k Cf.t0 = t := ⟨_, rfl⟩
        rw [hq] at hc0 hc1 hc2 hd
        simp only at hc0 hc1 hc2
        have hr2 := hr.out
        rw [hd, Cf.fnd] at hr2
        simp only at hr2
        clear hd0 hd1 hd2 hbk hd hq hr f0
        by_cases heq : nm = s
        · rw [if_pos heq] at hr2
          subst heq
          have HE : Hid (tno c nm = (k : Int) ∧ tok c nm = true) := Lib.hid (by unfold tno tok; rw [HT.out, ← hr2]; exact ⟨by omega, decide_eq_true (by omega)⟩)
          clear hr2
          go_wp2
          go_ret2
          exact ⟨ret_two HE.out.1.symm HE.out.2.symm, below_next hb02 (hb.alloc hb.size _)⟩
        · rw [if_neg heq] at hr2
          have HE := Lib.hid hr2
          have heq1 : (nm.toList == s.toList) = false := Go.Lib.bytes_beq_false_iff _ _ |>.2 heq
          clear hr2 heq
          go_wp2
          go_roundw
          case rel => exact ⟨k + 1, by go_num, hlt, HE, by simp; omega, hb.alloc hb.size _⟩
          case measure => simp [intOf]; omega
      · have hr2 := hr.out
        rw [List.drop_eq_nil_of_le (by rw [HN.out]; omega), Cf.fnd] at hr2
        have HE : Hid (tno c s = 0 ∧ tok c s = false) := Lib.hid (by unfold tno tok; rw [HT.out, ← hr2]; exact ⟨rfl, rfl⟩)
        have hbk := CBlk.below HBLK.out hb (Nat.le_refl _)
        obtain ⟨g0, _⟩ := hbk.cells
        clear hr hr2 hbk f0
        go_wp2
        go_ret2
        exact ⟨ret_two HE.out.1.symm HE.out.2.symm, below_next hb02 hb⟩
  · have HE : Hid (tno c s = 0 ∧ tok c s = false) := Lib.hid (by unfold tno tok; rw [tenant_bad h0]; exact ⟨rfl, rfl⟩)
    have hne : ((Cf.chk c : Int) == 0) = false := by rw [beq_eq_false_iff_ne]; exact h0
    have hne2 : ((Cf.chk c : Int) != 0) = true := by rw [bne, hne]; rfl
    have HCHK := Lib.hid hchk
    clear hchk
    clear hn hm h0
    go_enter Try.func9, Try.ntmps9
    go_wp2_with (refine ld_row (by rfl) 25 _ rfl w.heap.size rfl _ _ _ _ HB.out Try.underlying25 rfl (by kernel_rfl) ?_)
    refine HCHK.out.mono ?_
    rintro e w2 ⟨rfl, hb2⟩
    go_wp2
    go_ret2
    exact ⟨ret_two HE.out.1.symm HE.out.2.symm, below_next HL.out hb2⟩
set_option maxHeartbeats 1000000 in
set_option maxRecDepth 100000 in
theorem rtenant_any (c : Cf.C) (tp lp : Option Addr) (n tc m lc : Nat) (s : ByteArray) (w : World) (h : CIn w c tp n lp m) :
    Calls Try.prog 10 #[cv c tp n tc lp m lc, .string s] w fun e w' => e = .returned (.int .i64 (Cf.tenant c s)) ∧ Below w.heap.size w w' := by
  have hm1 := h.n100
  have hB : Boxed w c tp n tc lp m lc := boxed h
  have hchk := right_any c tp lp n tc m lc _ hB.cin
  unfold cv at hchk ⊢
  have hn := h.hn
  have hm := h.hm
  have HB := Lib.hid hB.blk
  have HL := Lib.hid hB.bel
  have HIN := Lib.hid hB.cin
  clear hB h
  by_cases h0 : Cf.chk c = 0
  · obtain ⟨T, hT⟩ : ∃ T, Cf.fnd s c.ten 0 = T := ⟨_, rfl⟩
    have HT : Hid (Cf.tenant c s = T) := Lib.hid (by rw [tenant_good h0, hT])
    have HR : Hid (Cf.fnd s (c.ten.drop 0) 0 = T) := Lib.hid (by rw [List.drop_zero, hT])
    rw [decide_eq_true h0] at hchk
    have HCHK := Lib.hid hchk
    clear hchk
    have HN := Lib.hid hn
    clear hn hm h0 hT
    go_enter Try.func10, Try.ntmps10
    go_wp2_with (refine ld_row (by rfl) 25 _ rfl w.heap.size rfl _ _ _ _ HB.out Try.underlying25 rfl (by kernel_rfl) ?_)
    refine HCHK.out.mono ?_
    rintro e w2 ⟨rfl, hb2⟩
    have hblk := CBlk.below (c := c) (tp := tp) (lp := lp) HB.out hb2 (Nat.le_refl _)
    have htin := HIN.out.tin.below hb2 (Nat.le_refl _)
    have HTIN := Lib.hid htin
    have HBLK := Lib.hid hblk
    obtain ⟨f0, _⟩ := hblk.cells
    have hb02 := below_next HL.out hb2
    clear hblk hb2 htin HIN HB HCHK
    go_wp2
    go_loopw [5] (fun i wr => ∃ k : Nat, i = .int .i64 k ∧ k ≤ n ∧ Hid (Cf.fnd s (c.ten.drop k) k = T) ∧ w2.heap.size ≤ wr.heap.size ∧ Below w2.heap.size w2 wr) (fun i _ => n - (intOf i).toNat)
    case atStart => exact ⟨0, rfl, Nat.zero_le _, HR, Nat.le_refl _, Below.refl _ _⟩
    case round =>
      obtain ⟨k, rfl, hk, hr, hsz, hb⟩ := hrel
      by_cases hlt : k < n
      · obtain ⟨b, off, rfl, hbl0, hd0, hd1, hd2⟩ := HTIN.out k (by rw [HN.out]; exact hlt)
        have hc0 := (hb.cell (p := ⟨b, off + k * 3, none⟩) hbl0).trans hd0
        have hc1 := (hb.cell (p := ⟨b, off + k * 3 + 1, none⟩) hbl0).trans hd1
        have hc2 := (hb.cell (p := ⟨b, off + k * 3 + 2, none⟩) hbl0).trans hd2
        have hbk := CBlk.below HBLK.out hb (Nat.le_refl _)
        obtain ⟨g0, _⟩ := hbk.cells
        have hd := Cf.drop_tn (l := c.ten) (i := k) (by rw [HN.out]; exact hlt)
        obtain ⟨⟨nm, wt, qt⟩, hq⟩ : ∃ t, c.ten.getD k Cf.t0 = t := ⟨_, rfl⟩
        rw [hq] at hc0 hc1 hc2 hd
        simp only at hc0 hc1 hc2
        have hr2 := hr.out
        rw [hd, Cf.fnd] at hr2
        simp only at hr2
        clear hd0 hd1 hd2 hbk hd hq hr f0
        by_cases heq : nm = s
        · rw [if_pos heq] at hr2
          subst heq
          have HE : Hid (Cf.tenant c nm = (k : Int)) := Lib.hid (by rw [HT.out, ← hr2])
          clear hr2
          go_wp2
          go_ret
          exact ⟨ret_i64 HE.out.symm, below_next hb02 hb⟩
        · rw [if_neg heq] at hr2
          have HE := Lib.hid hr2
          have heq1 : (nm.toList == s.toList) = false := Go.Lib.bytes_beq_false_iff _ _ |>.2 heq
          clear hr2 heq
          go_wp2
          go_roundw
          case rel => exact ⟨k + 1, by go_num, hlt, HE, hsz, hb⟩
          case measure => simp [intOf]; omega
      · have hr2 := hr.out
        rw [List.drop_eq_nil_of_le (by rw [HN.out]; omega), Cf.fnd] at hr2
        have HE : Hid (Cf.tenant c s = -1) := Lib.hid (by rw [HT.out, ← hr2])
        have hbk := CBlk.below HBLK.out hb (Nat.le_refl _)
        obtain ⟨g0, _⟩ := hbk.cells
        clear hr hr2 hbk f0
        go_wp2
        go_ret
        exact ⟨ret_i64 HE.out.symm, below_next hb02 hb⟩
  · have HE : Hid (Cf.tenant c s = -1) := Lib.hid (by rw [tenant_bad h0])
    rw [decide_eq_false h0] at hchk
    have HCHK := Lib.hid hchk
    clear hchk
    clear hn hm h0
    go_enter Try.func10, Try.ntmps10
    go_wp2_with (refine ld_row (by rfl) 25 _ rfl w.heap.size rfl _ _ _ _ HB.out Try.underlying25 rfl (by kernel_rfl) ?_)
    refine HCHK.out.mono ?_
    rintro e w2 ⟨rfl, hb2⟩
    go_wp2
    go_ret
    exact ⟨ret_i64 HE.out.symm, below_next HL.out hb2⟩
end Go.Proofs.Ytkkbdbelkcelhaa
