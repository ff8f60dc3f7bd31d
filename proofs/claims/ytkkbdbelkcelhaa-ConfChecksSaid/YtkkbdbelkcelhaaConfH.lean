/-
  CONTRACTS OF LAYER 7 (conf), part H: Right, Classes, Limit, Tenant, Attempts, of the program and of the page.
-/
import Derived.Test.YtkkbdbelkcelhaaConfG
namespace Go.Proofs.Ytkkbdbelkcelhaa
open Go.RowKit Go.Maps
set_option linter.unusedVariables false

/-- what is at hand in a function that boxes its configuration and asks Check | Right of it -/
structure Boxed (w : World) (c : Cf.C) (tp : Option Addr) (n tc : Nat) (lp : Option Addr) (m lc : Nat) : Prop where
  blk : (w.alloc (.cells (ccells c tp n tc lp m lc) 25)).heap[w.heap.size]? = some (.cells (ccells c tp n tc lp m lc) 25)
  cin : CIn (w.alloc (.cells (ccells c tp n tc lp m lc) 25)) c tp n lp m
  bel : Below w.heap.size w (w.alloc (.cells (ccells c tp n tc lp m lc) 25))
theorem boxed {w : World} {c : Cf.C} {tp lp : Option Addr} {n tc m lc : Nat} (h : CIn w c tp n lp m) : Boxed w c tp n tc lp m lc :=
  ⟨heap_alloc_new w _, h.below ((Below.refl _ w).alloc (Nat.le_refl _) _) (Nat.le_refl _), (Below.refl _ w).alloc (Nat.le_refl _) _⟩
set_option maxHeartbeats 1000000 in
set_option maxRecDepth 100000 in
theorem right_any (c : Cf.C) (tp lp : Option Addr) (n tc m lc : Nat) (w : World) (h : CIn w c tp n lp m) :
    Calls Try.prog 25 #[cv c tp n tc lp m lc] w fun e w' => e = .returned (.bool (decide (Cf.chk c = 0))) ∧ Below w.heap.size w w' := by
  have hB : Boxed w c tp n tc lp m lc := boxed h
  have hchk := rcheck_any c tp lp n tc m lc _ hB.cin
  obtain ⟨R, hR⟩ : ∃ R, Cf.chk c = R := ⟨_, rfl⟩
  rw [hR] at hchk ⊢
  unfold cv at hchk ⊢
  have HB := Lib.hid hB.blk
  have HL := Lib.hid hB.bel
  have HCHK := Lib.hid hchk
  clear hB h hR hchk
  by_cases h0 : R = 0
  · subst h0
    go_enter Try.func25, Try.ntmps25
    go_wp2_with (refine ld_row (by rfl) 25 _ rfl w.heap.size rfl _ _ _ _ HB.out Try.underlying25 rfl (by kernel_rfl) ?_)
    refine HCHK.out.mono ?_
    rintro e w2 ⟨rfl, hb2⟩
    go_wp2
    go_ret
    exact ⟨ret_bool (by decide), below_next HL.out hb2⟩
  · have hd : Hid (decide (R = 0) = false) := Lib.hid (by simpa using h0)
    have hne : ((R : Int) == 0) = false := by rw [beq_eq_false_iff_ne]; exact h0
    clear h0
    go_enter Try.func25, Try.ntmps25
    go_wp2_with (refine ld_row (by rfl) 25 _ rfl w.heap.size rfl _ _ _ _ HB.out Try.underlying25 rfl (by kernel_rfl) ?_)
    refine HCHK.out.mono ?_
    rintro e w2 ⟨rfl, hb2⟩
    go_wp2
    go_ret
    exact ⟨ret_bool hd.out.symm, below_next HL.out hb2⟩
set_option maxHeartbeats 1000000 in
set_option maxRecDepth 100000 in
theorem classes_any (c : Cf.C) (tp lp : Option Addr) (n tc m lc : Nat) (w : World) (h : CIn w c tp n lp m) :
    Calls Try.prog 11 #[cv c tp n tc lp m lc] w fun e w' => e = .returned (.int .i64 (Cf.classes c)) ∧ Below w.heap.size w w' := by
  have hm1 := h.m100
  have hB : Boxed w c tp n tc lp m lc := boxed h
  have hchk := check_any c tp lp n tc m lc _ hB.cin
  unfold cv at hchk ⊢
  have hn := h.hn
  have hm := h.hm
  have HB := Lib.hid hB.blk
  have HL := Lib.hid hB.bel
  have HIN := Lib.hid hB.cin
  clear hB h
  by_cases h0 : Cf.chk c = 0
  · have HE : Hid (Cf.classes c = (m : Int) + 1) := Lib.hid (by unfold Cf.classes; rw [if_pos h0, hm])
    rw [h0] at hchk
    have HCHK := Lib.hid hchk
    clear hchk
    clear hn hm h0
    go_enter Try.func11, Try.ntmps11
    go_wp2_with (refine ld_row (by rfl) 25 _ rfl w.heap.size rfl _ _ _ _ HB.out Try.underlying25 rfl (by kernel_rfl) ?_)
    refine HCHK.out.mono ?_
    rintro e w2 ⟨rfl, hb2⟩
    have hblk := CBlk.below (c := c) (tp := tp) (lp := lp) HB.out hb2 (Nat.le_refl _)
    obtain ⟨_, f1, _⟩ := hblk.cells
    have hb02 := below_next HL.out hb2
    clear hblk hb2
    go_wp2
    go_ret
    exact ⟨ret_i64 HE.out.symm, hb02⟩
  · have HE : Hid (Cf.classes c = 0) := Lib.hid (by unfold Cf.classes; rw [if_neg h0])
    have hne : ((Cf.chk c : Int) == 0) = false := by rw [beq_eq_false_iff_ne]; exact h0
    have hne2 : ((Cf.chk c : Int) != 0) = true := by rw [bne, hne]; rfl
    have HCHK := Lib.hid hchk
    clear hchk
    clear hn hm h0
    go_enter Try.func11, Try.ntmps11
    go_wp2_with (refine ld_row (by rfl) 25 _ rfl w.heap.size rfl _ _ _ _ HB.out Try.underlying25 rfl (by kernel_rfl) ?_)
    refine HCHK.out.mono ?_
    rintro e w2 ⟨rfl, hb2⟩
    go_wp2
    go_ret
    exact ⟨ret_i64 HE.out.symm, below_next HL.out hb2⟩
set_option maxHeartbeats 1000000 in
set_option maxRecDepth 100000 in
theorem attempts_any (c : Cf.C) (tp lp : Option Addr) (n tc m lc : Nat) (w : World) (h : CIn w c tp n lp m) :
    Calls Try.prog 15 #[cv c tp n tc lp m lc] w fun e w' => e = .returned (.int .i64 (Cf.attempts c)) ∧ Below w.heap.size w w' := by
  have hB : Boxed w c tp n tc lp m lc := boxed h
  have hchk := check_any c tp lp n tc m lc _ hB.cin
  unfold cv at hchk ⊢
  have hn := h.hn
  have hm := h.hm
  have HB := Lib.hid hB.blk
  have HL := Lib.hid hB.bel
  have HIN := Lib.hid hB.cin
  clear hB h
  by_cases h0 : Cf.chk c = 0
  · have HE : Hid (Cf.attempts c = 1 + c.retries + c.preempts) := Lib.hid (by unfold Cf.attempts; rw [if_pos h0])
    obtain ⟨r0, r1, r2, r3⟩ := Cf.chk_tries h0
    rw [h0] at hchk
    have HCHK := Lib.hid hchk
    clear hchk
    clear hn hm h0
    go_enter Try.func15, Try.ntmps15
    go_wp2_with (refine ld_row (by rfl) 25 _ rfl w.heap.size rfl _ _ _ _ HB.out Try.underlying25 rfl (by kernel_rfl) ?_)
    refine HCHK.out.mono ?_
    rintro e w2 ⟨rfl, hb2⟩
    have hblk := CBlk.below (c := c) (tp := tp) (lp := lp) HB.out hb2 (Nat.le_refl _)
    obtain ⟨_, _, _, _, _, _, _, _, f8, f9, _⟩ := hblk.cells
    have hb02 := below_next HL.out hb2
    clear hblk hb2
    go_wp2
    go_ret
    exact ⟨ret_i64 HE.out.symm, hb02⟩
  · have HE : Hid (Cf.attempts c = 0) := Lib.hid (by unfold Cf.attempts; rw [if_neg h0])
    have hne : ((Cf.chk c : Int) == 0) = false := by rw [beq_eq_false_iff_ne]; exact h0
    have hne2 : ((Cf.chk c : Int) != 0) = true := by rw [bne, hne]; rfl
    have HCHK := Lib.hid hchk
    clear hchk
    clear hn hm h0
    go_enter Try.func15, Try.ntmps15
    go_wp2_with (refine ld_row (by rfl) 25 _ rfl w.heap.size rfl _ _ _ _ HB.out Try.underlying25 rfl (by kernel_rfl) ?_)
    refine HCHK.out.mono ?_
    rintro e w2 ⟨rfl, hb2⟩
    go_wp2
    go_ret
    exact ⟨ret_i64 HE.out.symm, below_next HL.out hb2⟩
set_option maxHeartbeats 1000000 in
set_option maxRecDepth 100000 in
theorem limit_any (c : Cf.C) (tp lp : Option Addr) (n tc m lc : Nat) (k : Int) (w : World) (h : CIn w c tp n lp m) :
    Calls Try.prog 13 #[cv c tp n tc lp m lc, .int .i64 k] w fun e w' => e = .returned (.int .i64 (Cf.limit c k)) ∧ Below w.heap.size w w' := by
  have hm1 := h.m100
  have hB : Boxed w c tp n tc lp m lc := boxed h
  have hchk := check_any c tp lp n tc m lc _ hB.cin
  unfold cv at hchk ⊢
  have hn := h.hn
  have hm := h.hm
  have HB := Lib.hid hB.blk
  have HL := Lib.hid hB.bel
  have HIN := Lib.hid hB.cin
  clear hB h
  by_cases h0 : Cf.chk c = 0
  · have hl : Cf.limit c k = if 0 ≤ k ∧ k < (m : Int) then c.lim.getD k.toNat 0 else 0 := by unfold Cf.limit; rw [hm]; simp [h0]
    rw [h0] at hchk
    have HCHK := Lib.hid hchk
    clear hchk
    clear hn h0
    by_cases hk0 : k < 0
    · have HE : Hid (Cf.limit c k = 0) := Lib.hid (by rw [hl, if_neg (by omega)])
      clear hl hm
      go_enter Try.func13, Try.ntmps13
      go_wp2_with (refine ld_row (by rfl) 25 _ rfl w.heap.size rfl _ _ _ _ HB.out Try.underlying25 rfl (by kernel_rfl) ?_)
      refine HCHK.out.mono ?_
      rintro e w2 ⟨rfl, hb2⟩
      have hb02 := below_next HL.out hb2
      clear hb2
      go_wp2
      go_ret
      exact ⟨ret_i64 HE.out.symm, hb02⟩
    · by_cases hk1 : k < (m : Int)
      · obtain ⟨j, rfl⟩ : ∃ j : Nat, k = (j : Int) := ⟨k.toNat, by omega⟩
        have hjm : j < m := by omega
        obtain ⟨b, off, rfl, hbl, hc⟩ := HIN.out.lin j (by rw [hm]; exact hjm)
        obtain ⟨q, hq⟩ : ∃ q, c.lim.getD j 0 = q := ⟨_, rfl⟩
        rw [hq] at hc
        have HE : Hid (Cf.limit c (j : Int) = q) := Lib.hid (by rw [hl, if_pos ⟨by omega, by omega⟩, ← hq]; rfl)
        have HC := Lib.hid hc
        clear hl hm hq hc hk0
        go_enter Try.func13, Try.ntmps13
        go_wp2_with (refine ld_row (by rfl) 25 _ rfl w.heap.size rfl _ _ _ _ HB.out Try.underlying25 rfl (by kernel_rfl) ?_)
        refine HCHK.out.mono ?_
        rintro e w2 ⟨rfl, hb2⟩
        have hblk := CBlk.below (c := c) (tp := tp) HB.out hb2 (Nat.le_refl _)
        obtain ⟨_, f1, _⟩ := hblk.cells
        have hc2 := (hb2.cell (p := ⟨b, off + j, none⟩) hbl).trans HC.out
        have hb02 := below_next HL.out hb2
        clear hblk hb2
        go_wp2
        go_ret
        exact ⟨ret_i64 HE.out.symm, hb02⟩
      · have HE : Hid (Cf.limit c k = 0) := Lib.hid (by rw [hl, if_neg (by omega)])
        have hk2 : (m : Int) ≤ k := by omega
        have hk3 : 0 ≤ k := by omega
        clear hl hm hk0 hk1
        go_enter Try.func13, Try.ntmps13
        go_wp2_with (refine ld_row (by rfl) 25 _ rfl w.heap.size rfl _ _ _ _ HB.out Try.underlying25 rfl (by kernel_rfl) ?_)
        refine HCHK.out.mono ?_
        rintro e w2 ⟨rfl, hb2⟩
        have hblk := CBlk.below (c := c) (tp := tp) (lp := lp) HB.out hb2 (Nat.le_refl _)
        obtain ⟨_, f1, _⟩ := hblk.cells
        have hb02 := below_next HL.out hb2
        clear hblk hb2
        go_wp2
        go_ret
        exact ⟨ret_i64 HE.out.symm, hb02⟩
  · have HE : Hid (Cf.limit c k = 0) := Lib.hid (by unfold Cf.limit; rw [if_neg (fun h => h0 h.1)])
    have hne : ((Cf.chk c : Int) == 0) = false := by rw [beq_eq_false_iff_ne]; exact h0
    have hne2 : ((Cf.chk c : Int) != 0) = true := by rw [bne, hne]; rfl
    have HCHK := Lib.hid hchk
    clear hchk
    clear hn hm h0
    go_enter Try.func13, Try.ntmps13
    go_wp2_with (refine ld_row (by rfl) 25 _ rfl w.heap.size rfl _ _ _ _ HB.out Try.underlying25 rfl (by kernel_rfl) ?_)
    refine HCHK.out.mono ?_
    rintro e w2 ⟨rfl, hb2⟩
    go_wp2
    go_ret
    exact ⟨ret_i64 HE.out.symm, below_next HL.out hb2⟩
set_option maxHeartbeats 1000000 in
set_option maxRecDepth 100000 in
theorem rclasses_any (c : Cf.C) (tp lp : Option Addr) (n tc m lc : Nat) (w : World) (h : CIn w c tp n lp m) :
    Calls Try.prog 12 #[cv c tp n tc lp m lc] w fun e w' => e = .returned (.int .i64 (Cf.classes c)) ∧ Below w.heap.size w w' := by
  have hm1 := h.m100
  have hB : Boxed w c tp n tc lp m lc := boxed h
  have hchk := right_any c tp lp n tc m lc _ hB.cin
  unfold cv at hchk ⊢
  have hn := h.hn
  have hm := h.hm
  have HB := Lib.hid hB.blk
  have HL := Lib.hid hB.bel
  have HIN := Lib.hid hB.cin
  clear hB h
  by_cases h0 : Cf.chk c = 0
  · have HE : Hid (Cf.classes c = (m : Int) + 1) := Lib.hid (by unfold Cf.classes; rw [if_pos h0, hm])
    rw [decide_eq_true h0] at hchk
    have HCHK := Lib.hid hchk
    clear hchk
    clear hn hm h0
    go_enter Try.func12, Try.ntmps12
    go_wp2_with (refine ld_row (by rfl) 25 _ rfl w.heap.size rfl _ _ _ _ HB.out Try.underlying25 rfl (by kernel_rfl) ?_)
    refine HCHK.out.mono ?_
    rintro e w2 ⟨rfl, hb2⟩
    have hblk := CBlk.below (c := c) (tp := tp) (lp := lp) HB.out hb2 (Nat.le_refl _)
    obtain ⟨_, f1, _⟩ := hblk.cells
    have hb02 := below_next HL.out hb2
    clear hblk hb2
    go_wp2
    go_ret
    exact ⟨ret_i64 HE.out.symm, hb02⟩
  · have HE : Hid (Cf.classes c = 0) := Lib.hid (by unfold Cf.classes; rw [if_neg h0])
    rw [decide_eq_false h0] at hchk
    have HCHK := Lib.hid hchk
    clear hchk
    clear hn hm h0
    go_enter Try.func12, Try.ntmps12
    go_wp2_with (refine ld_row (by rfl) 25 _ rfl w.heap.size rfl _ _ _ _ HB.out Try.underlying25 rfl (by kernel_rfl) ?_)
    refine HCHK.out.mono ?_
    rintro e w2 ⟨rfl, hb2⟩
    go_wp2
    go_ret
    exact ⟨ret_i64 HE.out.symm, below_next HL.out hb2⟩
set_option maxHeartbeats 1000000 in
set_option maxRecDepth 100000 in
theorem rattempts_any (c : Cf.C) (tp lp : Option Addr) (n tc m lc : Nat) (w : World) (h : CIn w c tp n lp m) :
    Calls Try.prog 16 #[cv c tp n tc lp m lc] w fun e w' => e = .returned (.int .i64 (Cf.attempts c)) ∧ Below w.heap.size w w' := by
  have hB : Boxed w c tp n tc lp m lc := boxed h
  have hchk := right_any c tp lp n tc m lc _ hB.cin
  unfold cv at hchk ⊢
  have hn := h.hn
  have hm := h.hm
  have HB := Lib.hid hB.blk
  have HL := Lib.hid hB.bel
  have HIN := Lib.hid hB.cin
  clear hB h
  by_cases h0 : Cf.chk c = 0
  · have HE : Hid (Cf.attempts c = 1 + c.retries + c.preempts) := Lib.hid (by unfold Cf.attempts; rw [if_pos h0])
    obtain ⟨r0, r1, r2, r3⟩ := Cf.chk_tries h0
    rw [decide_eq_true h0] at hchk
    have HCHK := Lib.hid hchk
    clear hchk
    clear hn hm h0
    go_enter Try.func16, Try.ntmps16
    go_wp2_with (refine ld_row (by rfl) 25 _ rfl w.heap.size rfl _ _ _ _ HB.out Try.underlying25 rfl (by kernel_rfl) ?_)
    refine HCHK.out.mono ?_
    rintro e w2 ⟨rfl, hb2⟩
    have hblk := CBlk.below (c := c) (tp := tp) (lp := lp) HB.out hb2 (Nat.le_refl _)
    obtain ⟨_, _, _, _, _, _, _, _, f8, f9, _⟩ := hblk.cells
    have hb02 := below_next HL.out hb2
    clear hblk hb2
    go_wp2
    go_ret
    exact ⟨ret_i64 HE.out.symm, hb02⟩
  · have HE : Hid (Cf.attempts c = 0) := Lib.hid (by unfold Cf.attempts; rw [if_neg h0])
    rw [decide_eq_false h0] at hchk
    have HCHK := Lib.hid hchk
    clear hchk
    clear hn hm h0
    go_enter Try.func16, Try.ntmps16
    go_wp2_with (refine ld_row (by rfl) 25 _ rfl w.heap.size rfl _ _ _ _ HB.out Try.underlying25 rfl (by kernel_rfl) ?_)
    refine HCHK.out.mono ?_
    rintro e w2 ⟨rfl, hb2⟩
    go_wp2
    go_ret
    exact ⟨ret_i64 HE.out.symm, below_next HL.out hb2⟩
set_option maxHeartbeats 1000000 in
set_option maxRecDepth 100000 in
theorem rlimit_any (c : Cf.C) (tp lp : Option Addr) (n tc m lc : Nat) (k : Int) (w : World) (h : CIn w c tp n lp m) :
    Calls Try.prog 14 #[cv c tp n tc lp m lc, .int .i64 k] w fun e w' => e = .returned (.int .i64 (Cf.limit c k)) ∧ Below w.heap.size w w' := by
  have hm1 := h.m100
  have hB : Boxed w c tp n tc lp m lc := boxed h
  have hchk := right_any c tp lp n tc m lc _ hB.cin
  unfold cv at hchk ⊢
  have hn := h.hn
  have hm := h.hm
  have HB := Lib.hid hB.blk
  have HL := Lib.hid hB.bel
  have HIN := Lib.hid hB.cin
  clear hB h
  by_cases h0 : Cf.chk c = 0
  · have hl : Cf.limit c k = if 0 ≤ k ∧ k < (m : Int) then c.lim.getD k.toNat 0 else 0 := by unfold Cf.limit; rw [hm]; simp [h0]
    rw [decide_eq_true h0] at hchk
    have HCHK := Lib.hid hchk
    clear hchk
    clear hn h0
    by_cases hk0 : k < 0
    · have HE : Hid (Cf.limit c k = 0) := Lib.hid (by rw [hl, if_neg (by omega)])
      clear hl hm
      go_enter Try.func14, Try.ntmps14
      go_wp2_with (refine ld_row (by rfl) 25 _ rfl w.heap.size rfl _ _ _ _ HB.out Try.underlying25 rfl (by kernel_rfl) ?_)
      refine HCHK.out.mono ?_
      rintro e w2 ⟨rfl, hb2⟩
      have hb02 := below_next HL.out hb2
      clear hb2
      go_wp2
      go_ret
      exact ⟨ret_i64 HE.out.symm, hb02⟩
    · by_cases hk1 : k < (m : Int)
      · obtain ⟨j, rfl⟩ : ∃ j : Nat, k = (j : Int) := ⟨k.toNat, by omega⟩
        have hjm : j < m := by omega
        obtain ⟨b, off, rfl, hbl, hc⟩ := HIN.out.lin j (by rw [hm]; exact hjm)
        obtain ⟨q, hq⟩ : ∃ q, c.lim.getD j 0 = q := ⟨_, rfl⟩
        rw [hq] at hc
        have HE : Hid (Cf.limit c (j : Int) = q) := Lib.hid (by rw [hl, if_pos ⟨by omega, by omega⟩, ← hq]; rfl)
        have HC := Lib.hid hc
        clear hl hm hq hc hk0
        go_enter Try.func14, Try.ntmps14
        go_wp2_with (refine ld_row (by rfl) 25 _ rfl w.heap.size rfl _ _ _ _ HB.out Try.underlying25 rfl (by kernel_rfl) ?_)
        refine HCHK.out.mono ?_
        rintro e w2 ⟨rfl, hb2⟩
        have hblk := CBlk.below (c := c) (tp := tp) HB.out hb2 (Nat.le_refl _)
        obtain ⟨_, f1, _⟩ := hblk.cells
        have hc2 := (hb2.cell (p := ⟨b, off + j, none⟩) hbl).trans HC.out
        have hb02 := below_next HL.out hb2
        clear hblk hb2
        go_wp2
        go_ret
        exact ⟨ret_i64 HE.out.symm, hb02⟩
      · have HE : Hid (Cf.limit c k = 0) := Lib.hid (by rw [hl, if_neg (by omega)])
        have hk2 : (m : Int) ≤ k := by omega
        have hk3 : 0 ≤ k := by omega
        clear hl hm hk0 hk1
        go_enter Try.func14, Try.ntmps14
        go_wp2_with (refine ld_row (by rfl) 25 _ rfl w.heap.size rfl _ _ _ _ HB.out Try.underlying25 rfl (by kernel_rfl) ?_)
        refine HCHK.out.mono ?_
        rintro e w2 ⟨rfl, hb2⟩
        have hblk := CBlk.below (c := c) (tp := tp) (lp := lp) HB.out hb2 (Nat.le_refl _)
        obtain ⟨_, f1, _⟩ := hblk.cells
        have hb02 := below_next HL.out hb2
        clear hblk hb2
        go_wp2
        go_ret
        exact ⟨ret_i64 HE.out.symm, hb02⟩
  · have HE : Hid (Cf.limit c k = 0) := Lib.hid (by unfold Cf.limit; rw [if_neg (fun h => h0 h.1)])
    rw [decide_eq_false h0] at hchk
    have HCHK := Lib.hid hchk
    clear hchk
    clear hn hm h0
    go_enter Try.func14, Try.ntmps14
    go_wp2_with (refine ld_row (by rfl) 25 _ rfl w.heap.size rfl _ _ _ _ HB.out Try.underlying25 rfl (by kernel_rfl) ?_)
    refine HCHK.out.mono ?_
    rintro e w2 ⟨rfl, hb2⟩
    go_wp2
    go_ret
    exact ⟨ret_i64 HE.out.symm, below_next HL.out hb2⟩
end Go.Proofs.Ytkkbdbelkcelhaa
