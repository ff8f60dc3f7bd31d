/-
  The page's example of layer 7 (conf): One, live.
-/
import Derived.Test.YtkkbdbelkcelhaaConfI
import Derived.Test.YtkkbdbelkcelhaaRegion
namespace Go.Proofs.Ytkkbdbelkcelhaa
open Go.RowKit Bt
set_option linter.unusedVariables false
namespace cnf
def one : Cf.C := ⟨[⟨⟨#[97]⟩, 1, 9⟩], [], 1, 2, 3, 2, 2, 2, 1, 0, 1, 4, 5, 2, 2, 2, 50, 2, 0⟩
def Oned (w : World) (e : Ending) (w' : World) : Prop := ∃ g, e = .returned (.agg (ccells one (some ⟨g, 0, none⟩) 1 1 none 0 0)) ∧ CIn w' one (some ⟨g, 0, none⟩) 1 none 0 ∧ Below w.heap.size w w'
theorem num_any (x : Int) (w : World) : Calls Try.prog 6 #[.int .i64 x] w fun e w' => e = .returned (.int .i64 x) ∧ w = w' := by
  go_enter Try.func6, Try.ntmps6
  go_wp2
  go_ret
  exact ⟨rfl, rfl⟩
theorem one_in {w : World} {g : Nat} (h : TBlk w g ⟨#[97]⟩ 1 9) : CIn w one (some ⟨g, 0, none⟩) 1 none 0 := by
  obtain ⟨h0, h1, h2⟩ := h.cells
  refine ⟨rfl, rfl, by decide, by decide, ?_, ?_, ?_⟩
  · intro t ht
    simp [one] at ht
    subst ht
    show 1 ≤ maxLen
    decide
  · intro i hi
    obtain rfl : i = 0 := by
      have : i < 1 := hi
      omega
    exact ⟨g, 0, rfl, h.lt, h0, h1, h2⟩
  · intro i hi
    have : i < 0 := hi
    omega
def zc : Array Value := #[.slice none 0 0, .slice none 0 0, .int .i64 0, .int .i64 0, .int .i64 0, .int .i64 0, .int .i64 0, .int .i64 0, .int .i64 0, .int .i64 0, .int .i64 0, .int .i64 0, .int .i64 0, .int .i64 0, .int .i64 0, .int .i64 0, .int .i64 0, .int .i64 0, .int .i64 0]
def tc1 : Obj := .cells #[.string ⟨#[97]⟩, .int .i64 1, .int .i64 9] 46
theorem below_setRow {B g : Nat} {w w' : World} (h : Below B w w') (hg : B ≤ g) (cs : Array Value) : Below B w (w'.setRow g cs) :=
  ⟨by rw [setRow_os]; exact h.os, by rw [setRow_tape]; exact h.tape, by rw [setRow_output]; exact h.output, by rw [setRow_size]; exact h.size, fun k hk => by rw [setRow_other _ _ _ _ (by omega)]; exact h.block k hk⟩
theorem zc_at (w : World) : ((w.alloc (.cells zc 25)).alloc tc1).heap[w.heap.size]? = some (.cells zc 25 (0, 0)) := by
  rw [Below.heap_alloc _ _ _ (by simp)]
  exact heap_alloc_new w _
set_option maxHeartbeats 2000000 in
set_option maxRecDepth 100000 in
theorem one_any (w : World) : Calls Try.prog 17 #[] w (Oned w) := by
  have hz := zc_at w
  have HZ := Lib.hid hz
  have hi : (Try.prog.info? 25).map (·.size) = some (ccells one (some ⟨w.heap.size + 1, 0, none⟩) 1 1 none 0 0).size := by kernel_rfl
  have ho : (ccells one (some ⟨w.heap.size + 1, 0, none⟩) 1 1 none 0 0).all (·.oneCell') = true := by simp [ccells, Value.oneCell']
  have HI := Lib.hid hi
  have HO := Lib.hid ho
  clear hz hi ho
  go_enter Try.func17, Try.ntmps17
  go_wp2_with (refine wpList_store_row rfl 25 _ _ rfl w.heap.size (ccells one (some ⟨w.heap.size + 1, 0, none⟩) 1 1 none 0 0) rfl rfl 25 zc HZ.out HI.out rfl HO.out ?_)
  obtain ⟨W, hW⟩ : ∃ W, (w.alloc (.cells zc 25)).alloc tc1 = W := ⟨_, rfl⟩
  have hz := HZ.out
  have hb : Below w.heap.size w W := by rw [← hW]; exact ((Below.refl _ w).alloc (Nat.le_refl _) _).alloc (by simp) _
  have ht : TBlk W (w.heap.size + 1) ⟨#[97]⟩ 1 9 := by rw [← hW]; exact heap_new_at _ _ (by simp)
  have ht2 : TBlk (W.setRow w.heap.size (ccells one (some ⟨w.heap.size + 1, 0, none⟩) 1 1 none 0 0)) (w.heap.size + 1) ⟨#[97]⟩ 1 9 := by
    unfold TBlk
    rw [setRow_other _ _ _ _ (by omega)]
    exact ht
  subst hW
  refine bodyPost_ret (v := .agg (ccells one (some ⟨w.heap.size + 1, 0, none⟩) 1 1 none 0 0)) ?_ rfl ?_
  · exact results_cell_row rfl _ _ w.heap.size _ _ _ _ rfl (setRow_heap _ _ zc _ _ _ HZ.out) Try.underlying25 rfl HI.out
  · exact ⟨_, rfl, one_in ht2, below_setRow hb (Nat.le_refl _) _⟩
theorem one_chk : Cf.chk one = 0 := by decide
theorem one_classes : Cf.classes one = 1 := by decide
theorem one_limit : Cf.limit one 0 = 0 := by decide
theorem one_attempts : Cf.attempts one = 2 := by decide
set_option maxHeartbeats 2000000 in
set_option maxRecDepth 100000 in
theorem live_any (w : World) : Calls Try.prog 5 #[] w fun e w' => e = .returned (.bool true) ∧ Below w.heap.size w w' := by
  go_enter Try.func5, Try.ntmps5
  go_wp2_with fail
  refine (one_any _).mono ?_
  rintro e w1 ⟨g, rfl, hin, hb1⟩
  have hz : (w1.alloc (.cells zc 25)).heap[w1.heap.size]? = some (.cells zc 25 (0, 0)) := heap_alloc_new w1 _
  have hi : (Try.prog.info? 25).map (·.size) = some (ccells one (some ⟨g, 0, none⟩) 1 1 none 0 0).size := by kernel_rfl
  have ho : (ccells one (some ⟨g, 0, none⟩) 1 1 none 0 0).all (·.oneCell') = true := by simp [ccells, Value.oneCell']
  have hblk := setRow_heap _ _ _ (ccells one (some ⟨g, 0, none⟩) 1 1 none 0 0) _ _ hz
  have hbw : Below w1.heap.size w1 ((w1.alloc (.cells zc 25)).setRow w1.heap.size (ccells one (some ⟨g, 0, none⟩) 1 1 none 0 0)) := below_setRow ((Below.refl _ w1).alloc (Nat.le_refl _) _) (Nat.le_refl _) _
  obtain ⟨W, hW⟩ : ∃ W, (w1.alloc (.cells zc 25)).setRow w1.heap.size (ccells one (some ⟨g, 0, none⟩) 1 1 none 0 0) = W := ⟨_, rfl⟩
  rw [hW] at hblk hbw
  have hinW := hin.below hbw (Nat.le_refl _)
  have HZ := Lib.hid hz
  have HI := Lib.hid hi
  have HO := Lib.hid ho
  unfold zc at hW
  have HW := Lib.hid hW
  have HB := Lib.hid hblk
  have HIN := Lib.hid hinW
  have hb2 := below_next hb1 hbw
  clear hz hi ho hW hblk hinW hin hbw hb1
  have c1 := fun w2 (h : CIn w2 one (some ⟨g, 0, none⟩) 1 none 0) => check_any one (some ⟨g, 0, none⟩) none 1 1 0 0 w2 h
  have c2 := fun w2 (h : CIn w2 one (some ⟨g, 0, none⟩) 1 none 0) => classes_any one (some ⟨g, 0, none⟩) none 1 1 0 0 w2 h
  have c3 := fun w2 (h : CIn w2 one (some ⟨g, 0, none⟩) 1 none 0) => limit_any one (some ⟨g, 0, none⟩) none 1 1 0 0 0 w2 h
  have c4 := fun w2 (h : CIn w2 one (some ⟨g, 0, none⟩) 1 none 0) => attempts_any one (some ⟨g, 0, none⟩) none 1 1 0 0 w2 h
  rw [one_chk] at c1
  rw [one_classes] at c2
  rw [one_limit] at c3
  rw [one_attempts] at c4
  unfold cv at c1 c2 c3 c4
  have C1 := Lib.hid c1
  have C2 := Lib.hid c2
  have C3 := Lib.hid c3
  have C4 := Lib.hid c4
  clear c1 c2 c3 c4
  go_wp2_with (first
    | (refine wpList_store_row rfl 25 _ _ rfl w1.heap.size (ccells one (some ⟨g, 0, none⟩) 1 1 none 0 0) rfl rfl 25 zc HZ.out HI.out rfl HO.out ?_; rw [HW.out])
    | (refine ld_row (by rfl) 25 _ rfl w1.heap.size rfl _ _ _ _ HB.out Try.underlying25 rfl (by kernel_rfl) ?_))
  refine (C1.out _ HIN.out).mono ?_
  rintro e w3 ⟨rfl, hb3⟩
  have HB3 := Lib.hid (CBlk.below (c := one) (tp := some ⟨g, 0, none⟩) (lp := none) HB.out hb3 (Nat.le_refl _))
  have HIN3 := Lib.hid (HIN.out.below hb3 (Nat.le_refl _))
  have hb03 := below_next hb2 hb3
  clear hb2 hb3 HZ HI HO HW HIN C1
  go_wp2_with (first
    | (go_at_call 6; refine (num_any _ _).mono ?_; rintro e w' ⟨rfl, rfl⟩)
    | (refine ld_row (by rfl) 25 _ rfl w1.heap.size rfl _ _ _ _ HB3.out Try.underlying25 rfl (by kernel_rfl) ?_))
  refine (C2.out _ HIN3.out).mono ?_
  rintro e w4 ⟨rfl, hb4⟩
  have HB4 := Lib.hid (CBlk.below (c := one) (tp := some ⟨g, 0, none⟩) (lp := none) HB3.out hb4 (Nat.le_refl _))
  have HIN4 := Lib.hid (HIN3.out.below hb4 (Nat.le_refl _))
  have hb04 := below_next hb03 hb4
  clear hb03 hb4 HB3 HIN3 C2
  go_wp2_with (refine ld_row (by rfl) 25 _ rfl w1.heap.size rfl _ _ _ _ HB4.out Try.underlying25 rfl (by kernel_rfl) ?_)
  refine (C3.out _ HIN4.out).mono ?_
  rintro e w5 ⟨rfl, hb5⟩
  have HB5 := Lib.hid (CBlk.below (c := one) (tp := some ⟨g, 0, none⟩) (lp := none) HB4.out hb5 (Nat.le_refl _))
  have HIN5 := Lib.hid (HIN4.out.below hb5 (Nat.le_refl _))
  have hb05 := below_next hb04 hb5
  clear hb04 hb5 HB4 HIN4 C3
  go_wp2_with (refine ld_row (by rfl) 25 _ rfl w1.heap.size rfl _ _ _ _ HB5.out Try.underlying25 rfl (by kernel_rfl) ?_)
  refine (C4.out _ HIN5.out).mono ?_
  rintro e w6 ⟨rfl, hb6⟩
  have hb06 := below_next hb05 hb6
  clear hb05 hb6 HB5 HIN5 C4
  go_wp2
  go_ret
  exact ⟨rfl, hb06⟩
end cnf
end Go.Proofs.Ytkkbdbelkcelhaa
