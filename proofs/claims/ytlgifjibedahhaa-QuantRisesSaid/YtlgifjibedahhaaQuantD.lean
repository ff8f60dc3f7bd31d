/-
  LAYER 11 (quant), part D: the page's examples.
-/
import Derived.Test.YtlgifjibedahhaaQuantC
import Derived.Test.YtlgifjibedahhaaHistE
namespace Go.Proofs.Ytlgifjibedahhaa
open Go.RowKit
set_option linter.unusedVariables false
/-- the runtimes 1, 1, 1, 9 -/
def gl : Nat → Int := fun i => if i = 4 then 1 else if i = 1 then 3 else 0
theorem gl_ok : Qu.ok gl 75 = true ∧ Qu.ok gl 76 = true := by decide
theorem gl_ov : Qu.ov gl 75 = 1 ∧ Qu.ov gl 76 = 15 := by decide
set_option maxRecDepth 100000 in
theorem quant_live (w : World) : Calls Try.prog 10 #[] w fun e w' => e = .returned (.bool true) ∧ Below w.heap.size w w' := by
  have c1 := fun w => of_any gl 75 w
  have c2 := fun w => of_any gl 76 w
  rw [gl_ok.1, gl_ov.1, show ((1 : Nat) : Int) = 1 from rfl] at c1
  rw [gl_ok.2, gl_ov.2, show ((15 : Nat) : Int) = 15 from rfl] at c2
  have C1 := Lib.hid c1
  have C2 := Lib.hid c2
  have HM := Lib.hid (HB.made w gl)
  have B1 := Lib.hid ((Below.refl _ w).alloc (Nat.le_refl _) (.cells (hc gl) 23))
  clear c1 c2
  go_enter Try.func10, Try.ntmps10
  go_wp2_with fail
  refine (C1.out _).mono ?_
  rintro e w2 ⟨rfl, hb⟩
  have H4 := Lib.hid (HM.out.below hb (Nat.le_refl _))
  have B4 := Lib.hid (below_next B1.out hb)
  clear hb
  go_wp2_with (refine ld_row (by rfl) 23 _ rfl w.heap.size rfl _ _ _ _ H4.out Try.underlying23 rfl (by kernel_rfl) ?_)
  refine (C2.out _).mono ?_
  rintro e w3 ⟨rfl, hb⟩
  go_wp2
  go_ret
  exact ⟨rfl, below_next B4.out hb⟩
end Go.Proofs.Ytlgifjibedahhaa
