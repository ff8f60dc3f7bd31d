/-
  A histogram that comes in (an array of 16 ints), opened.
-/
import Derived.Test.YtbkbopaoeehfkaaHistB
import Derived.Test.YtbkbopaoeehfkaaFrame
import Derived.Test.YtbkbopaoeehfkaaChecked
import Derived.Test.YtbkbopaoeehfkaaRegion
import Derived.Test.YtbkbopaoeehfkaaOpens
namespace Go.Proofs.Ytbkbopaoeehfkaa
open Go.RowKit Bt Go.Deep
open Go.ChangeShapes Go.WideShapes Go.ChangeAt
set_option linter.unusedVariables false
section
variable {H : Type} {enc : TypeId × Value → H} {W : World} {base : Nat} {spare : Nat → Bool} {held : Bool}
/-- a histogram that comes in -/
theorem hist_open {r : Reach} {b0 : Nat} {v : Value} {d : DataW H} {p : List MemPlace} (hv : Value.okWide Try.prog W r b0 49 v) (h : DataW.Trod enc Try.prog W base spare held 49 v d p) :
    ∃ f : Nat → Int, v = .agg (hc f) := by
  have hv2 := hv
  simp only [Value.okWide, Try.underlying49] at hv2
  obtain ⟨cs, rfl, hsz, _⟩ := hv2
  have hs16 : cs.size = 16 := hsz.trans (by kernel_rfl)
  obtain ⟨fuel, hf⟩ := h
  obtain ⟨xs, n, _, _, hl, hx, hi⟩ := DataW.trod_array Try.underlying49 hf
  have h1 : Try.prog.cellsOf 3 = 1 := by kernel_rfl
  have each : ∀ i, i < 16 → ∃ q : Int, cs[i]? = some (.int .i64 q) := fun i hil => by
    have e := hi i hil
    rw [h1, List.getElem?_eq_getElem (by omega)] at e
    obtain ⟨q, hq, _, _⟩ := DataW.trod_int Try.underlying3 e
    refine ⟨q, ?_⟩
    have h0 := congrArg (·[0]?) hq
    simp only [Value.cells, List.getElem?_take, List.getElem?_drop] at h0
    simpa using h0
  obtain ⟨f, hf2⟩ := choose_lt each
  refine ⟨f, congrArg Value.agg ?_⟩
  apply Array.ext_getElem?
  intro i
  by_cases h : i < 16
  · rw [hf2 i h, hc_get f h]
  · rw [Array.getElem?_eq_none (by omega), Array.getElem?_eq_none (by rw [hc_size]; omega)]
end
end Go.Proofs.Ytbkbopaoeehfkaa
