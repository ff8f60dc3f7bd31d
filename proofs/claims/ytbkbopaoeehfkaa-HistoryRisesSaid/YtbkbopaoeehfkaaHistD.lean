/-
  CONTRACTS OF LAYER 10 (hist), part D: halved, Add.
-/
import Derived.Test.YtbkbopaoeehfkaaHistC
namespace Go.Proofs.Ytbkbopaoeehfkaa
open Go.RowKit
set_option linter.unusedVariables false

theorem HB.frozen {w : World} {g : Nat} {f : Nat → Int} (h : HB w g f) (k : Nat) : w.frozen? ⟨g, k, none⟩ = false := by
  unfold HB at h
  simp [World.frozen?, h]
theorem HB.other {w : World} {g : Nat} {f : Nat → Int} (h : HB w g f) {a : Addr} (hk : g ≠ a.block) (u : Value) : HB (w.setCell a u) g f := by
  unfold HB
  rw [Below.heap_setCell w a u g hk]
  exact h
theorem HB.row {w : World} {g : Nat} {f : Nat → Int} (h : HB w g f) (u : Nat → Int) : HB (w.setRow g (hc u)) g u := setRow_heap _ _ _ _ _ _ h
theorem HB.row_other {w : World} {g k : Nat} {f : Nat → Int} (h : HB w g f) (hk : g ≠ k) (cs : Array Value) : HB (w.setRow k cs) g f := by
  unfold HB
  rw [setRow_other _ _ _ _ hk]
  exact h
theorem HB.up {w : World} {g : Nat} {f : Nat → Int} (h : HB w g f) {k : Nat} (hk : k < 16) {x : Int} (hx : f k + 1 = x) : HB (w.setCell ⟨g, k, none⟩ (.int .i64 x)) g (Hs.up f k) := by
  have := h.put hk x
  have e : (fun i => if i = k then x else f i) = Hs.up f k := by
    funext i
    unfold Hs.up
    by_cases e : i = k
    · subst e; simp [hx]
    · simp [e]
  rw [e] at this
  exact this
theorem below_setRow {B g : Nat} {w w' : World} (h : Below B w w') (hg : B ≤ g) (cs : Array Value) : Below B w (w'.setRow g cs) :=
  ⟨by rw [setRow_os]; exact h.os, by rw [setRow_tape]; exact h.tape, by rw [setRow_output]; exact h.output, by rw [setRow_size]; exact h.size, fun k hk => by rw [setRow_other _ _ _ _ (by omega)]; exact h.block k hk⟩
/-- two blocks, one behind the other: the argument, the result -/
theorem two_made (w : World) (f : Nat → Int) : HB ((w.alloc (.cells (hc f) 49)).alloc (.cells (hc Hs.z) 49)) w.heap.size f ∧ HB ((w.alloc (.cells (hc f) 49)).alloc (.cells (hc Hs.z) 49)) (w.heap.size + 1) Hs.z ∧
    Below w.heap.size w ((w.alloc (.cells (hc f) 49)).alloc (.cells (hc Hs.z) 49)) :=
  ⟨heap_alloc2_old w _ _, heap_alloc2_new w _ _, ((Below.refl _ w).alloc (Nat.le_refl _) _).alloc (by simp) _⟩
theorem hist_info (f : Nat → Int) : (Try.prog.info? 49).map (·.size) = some (hc f).size := by kernel_rfl

/-- halved up to j -/
def hpt (f : Nat → Int) (j : Nat) : Nat → Int := fun i => if i < j then f i / 2 else f i
theorem hpt_zero (f : Nat → Int) : hpt f 0 = f := by funext i; simp [hpt]
theorem hpt_end (f : Nat → Int) : hc (hpt f 16) = hc (Hs.hf f) := hc_congr fun i hi => by simp [hpt, Hs.hf, hi]
theorem hpt_at (f : Nat → Int) (j : Nat) : hpt f j j = f j := by simp [hpt]
theorem hpt_step (f : Nat → Int) (j : Nat) : (fun i => if i = j then f j / 2 else hpt f j i) = hpt f (j + 1) := by
  funext i
  unfold hpt
  by_cases e : i = j
  · subst e; simp
  · by_cases h : i < j
    · rw [if_neg e, if_pos h, if_pos (by omega)]
    · rw [if_neg e, if_neg h, if_neg (by omega)]
set_option maxRecDepth 100000 in
theorem halved_any (f : Nat → Int) (hf : Hs.In f) (w : World) :
    Calls Try.prog 35 #[.agg (hc f)] w fun e w' => e = .returned (.agg (hc (Hs.hf f))) ∧ Below w.heap.size w w' := by
  obtain ⟨h1, h2, h3⟩ := two_made w f
  have H1 := Lib.hid h1
  have H2 := Lib.hid h2
  have H3 := Lib.hid h3
  have HF := Lib.hid hf
  have HI := Lib.hid (hist_info (hpt f 16))
  have HO := Lib.hid (hc_one (hpt f 16))
  clear h1 h2 h3 hf
  go_enter Try.func35, Try.ntmps35
  go_wp2
  go_loopw [4] (fun i wr => ∃ j : Nat, i = .int .i64 j ∧ Hid (j ≤ 16) ∧ Hid (HB wr w.heap.size (hpt f j)) ∧ Hid (HB wr (w.heap.size + 1) Hs.z) ∧ Below w.heap.size w wr) (fun i _ => 16 - (intOf i).toNat)
  case atStart => exact ⟨0, rfl, Lib.hid (by decide), Lib.hid (by rw [hpt_zero]; exact H1.out), H2, H3.out⟩
  case round =>
    obtain ⟨j, rfl, hj, hA, hB, hb⟩ := hrel
    by_cases hlt : j < 16
    · have hx := HB.cell hA.out hlt
      rw [hpt_at] at hx
      have hz := HB.frozen hA.out j
      have hput := HB.put hA.out hlt (f j / 2)
      rw [hpt_step] at hput
      have hoth := HB.other hB.out (a := ⟨w.heap.size, j, none⟩) (by simp) (.int .i64 (f j / 2))
      have hbb := hb.setCell (p := ⟨w.heap.size, j, none⟩) (Nat.le_refl _) (.int .i64 (f j / 2))
      have hin := HF.out j hlt
      have HL := Lib.hid hlt
      obtain ⟨x, hx'⟩ : ∃ x, f j = x := ⟨_, rfl⟩
      rw [hx'] at hx hput hoth hbb hin
      have f1 : IntKind.i64.wrap (x.tdiv 2) = x / 2 := by rw [Int.tdiv_eq_ediv_of_nonneg hin.1, IntKind.wrap_i64]; omega
      have f2 : IntKind.i64.wrap ((j : Int) + 1) = ((j + 1 : Nat) : Int) := by rw [IntKind.wrap_i64]; omega
      have HP := Lib.hid hput
      have HT := Lib.hid hoth
      have HBB := Lib.hid hbb
      clear hj hx' hput hoth hbb hin
      go_wp2
      go_roundw
      case rel => exact ⟨j + 1, rfl, Lib.hid HL.out, HP, HT, HBB.out⟩
      case measure => simp [intOf]; have := HL.out; omega
    · have he : j = 16 := by have := hj.out; omega
      subst he
      clear hlt hj
      go_wp2_with (first
        | refine ld_row (by rfl) 49 _ rfl w.heap.size rfl _ _ _ _ hA.out Try.underlying49 rfl (by kernel_rfl) ?_
        | refine wpList_store_row rfl 49 _ _ rfl (w.heap.size + 1) (hc (hpt f 16)) rfl rfl 49 (hc Hs.z) hB.out HI.out rfl HO.out ?_)
      refine bodyPost_ret (v := .agg (hc (hpt f 16))) ?_ rfl ?_
      · exact results_cell_row rfl _ _ (w.heap.size + 1) _ _ _ _ rfl (HB.row hB.out _) Try.underlying49 rfl HI.out
      · exact ⟨by rw [hpt_end], below_setRow hb (by omega) _⟩
end Go.Proofs.Ytbkbopaoeehfkaa
