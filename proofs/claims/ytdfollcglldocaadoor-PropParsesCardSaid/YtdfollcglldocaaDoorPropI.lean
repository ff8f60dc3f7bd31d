/-
  The examples of layer 4's page; what the laws' frames want.
-/
import Derived.Test.YtdfollcglldocaaDoorPropH
import Derived.Test.YtdfollcglldocaaDoorFrame
import Derived.Test.YtdfollcglldocaaDoorRegion
import Derived.Test.YtdfollcglldocaaDoorTie
import Derived.Test.YtdfollcglldocaaDoorCards
import Derived.LaidMore
import Derived.Lay
import Derived.SevenTiedAt
import Derived.Stop.Joined
namespace Go.Proofs.YtdfollcglldocaaDoor
open Go.RowKit
set_option linter.unusedVariables false
namespace pf
theorem ex_canon : Pf.cn (⟨#[111, 115, 61, 97, 44, 97, 114, 99, 104, 61, 98]⟩ : ByteArray).data.toList = ([97, 114, 99, 104, 61, 98, 44, 111, 115, 61, 97], 0) := by decide +kernel
theorem ex_yes : Pf.mt (⟨#[111, 115, 61, 97, 44, 103, 112, 117, 61, 42]⟩ : ByteArray).data.toList (⟨#[103, 112, 117, 61, 120]⟩ : ByteArray).data.toList = true := by decide +kernel
theorem ex_no : Pf.mt (⟨#[111, 115, 61, 97]⟩ : ByteArray).data.toList (⟨#[111, 115, 61, 98]⟩ : ByteArray).data.toList = false := by decide +kernel
set_option maxHeartbeats 400000 in
theorem live_any (w : World) : Calls Tryd.prog 6 #[] w fun e w' => e = .returned (.bool true) ∧ Below w.heap.size w w' := by
  have c1 := fun w => canon_any ⟨#[111, 115, 61, 97, 44, 97, 114, 99, 104, 61, 98]⟩ w (by decide)
  have c2 := fun w => match_any ⟨#[111, 115, 61, 97, 44, 103, 112, 117, 61, 42]⟩ ⟨#[103, 112, 117, 61, 120]⟩ w (by decide) (by decide)
  have c3 := fun w => match_any ⟨#[111, 115, 61, 97]⟩ ⟨#[111, 115, 61, 98]⟩ w (by decide) (by decide)
  rw [ex_canon] at c1
  rw [ex_yes] at c2
  rw [ex_no] at c3
  have C1 := Lib.hid c1
  have C2 := Lib.hid c2
  have C3 := Lib.hid c3
  clear c1 c2 c3
  go_enter Tryd.func6, Tryd.ntmps6
  go_wp2_with fail
  refine (C1.out _).mono ?_
  rintro e w1 ⟨rfl, hb1⟩
  go_wp2_with (first | (go_at_call 11; refine (num_any 0 _ (by decide) (by decide)).mono ?_; rintro e w' ⟨rfl, rfl⟩) | fail)
  refine (C2.out _).mono ?_
  rintro e w2 ⟨rfl, hb2⟩
  go_wp2_with fail
  refine (C3.out _).mono ?_
  rintro e w3 ⟨rfl, hb3⟩
  go_wp2_with fail
  go_ret
  exact ⟨rfl, below_next hb1 (below_next hb2 hb3)⟩
end pf
end Go.Proofs.YtdfollcglldocaaDoor
