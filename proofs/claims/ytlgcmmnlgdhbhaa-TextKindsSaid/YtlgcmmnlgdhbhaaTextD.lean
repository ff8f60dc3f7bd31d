/-
  The examples of layer 3's page.
-/
import Derived.Test.YtlgcmmnlgdhbhaaTextC
import Derived.Test.YtlgcmmnlgdhbhaaFrame
import Derived.Test.YtlgcmmnlgdhbhaaRegion
namespace Go.Proofs.Ytlgcmmnlgdhbhaa
open Go.RowKit
set_option linter.unusedVariables false
namespace tx
theorem ex_fold : Tx.fold (⟨#[195, 132, 66, 45, 49]⟩ : ByteArray).data.toList = [195, 164, 98, 45, 49] := by decide +kernel
theorem ex_name : Tx.isName (⟨#[195, 164, 98, 45, 49]⟩ : ByteArray).data.toList = true := by decide +kernel
theorem ex_none : Tx.isName (⟨#[97, 32, 98]⟩ : ByteArray).data.toList = false := by decide +kernel
set_option maxHeartbeats 400000 in
theorem live_any (w : World) : Calls Try.prog 9 #[] w fun e w' => e = .returned (.bool true) ∧ Below w.heap.size w w' := by
  have c1 := fun w => fold_any ⟨#[195, 132, 66, 45, 49]⟩ w (by decide)
  have c2 := fun w => name_any ⟨#[195, 164, 98, 45, 49]⟩ w (by decide)
  have c3 := fun w => name_any ⟨#[97, 32, 98]⟩ w (by decide)
  rw [ex_fold] at c1
  rw [ex_name] at c2
  rw [ex_none] at c3
  have C1 := Lib.hid c1
  have C2 := Lib.hid c2
  have C3 := Lib.hid c3
  clear c1 c2 c3
  go_enter Try.func9, Try.ntmps9
  go_wp2_with fail
  refine (C1.out _).mono ?_
  rintro e w1 ⟨rfl, hb1⟩
  go_wp2_with fail
  refine (C2.out _).mono ?_
  rintro e w2 ⟨rfl, hb2⟩
  go_wp2_with fail
  refine (C3.out _).mono ?_
  rintro e w3 ⟨rfl, hb3⟩
  go_wp2_with fail
  go_ret
  exact ⟨rfl, below_next hb1 (below_next hb2 hb3)⟩
end tx
end Go.Proofs.Ytlgcmmnlgdhbhaa
