/-
  CONTRACTS OF LAYER 10 (hist), part C: the page's Total; Right, and the page's.
-/
import Derived.Test.YtbkbopaoeehfkaaHistB
namespace Go.Proofs.Ytbkbopaoeehfkaa
open Go.RowKit
set_option linter.unusedVariables false

set_option maxRecDepth 100000 in
theorem rtotal_any (f : Nat → Int) (hf : ∀ i, i < 16 → -1125899906842624 ≤ f i ∧ f i ≤ 1125899906842624) (w : World) :
    Calls Try.prog 28 #[.agg (hc f)] w fun e w' => e = .returned (.int .i64 (Hs.tot f)) ∧ Below w.heap.size w w' := by
  have hba : Below w.heap.size w (w.alloc (.cells (hc f) 49)) := (Below.refl _ w).alloc (Nat.le_refl _) _
  have hmk := HB.made w f
  have HBA := Lib.hid hba
  have HMK := Lib.hid hmk
  have HF := Lib.hid hf
  have E := Lib.hid (show Hs.tot f = Hs.su f 16 from rfl)
  clear hba hmk hf
  go_enter Try.func28, Try.ntmps28
  go_wp2
  go_loopw [3, 4] (fun x i wr => ∃ j : Nat, i = .int .i64 j ∧ x = .int .i64 (Hs.su f j) ∧ Hid (j ≤ 16) ∧ Hid (HB wr w.heap.size f) ∧ Below w.heap.size w wr) (fun _ i _ => 16 - (intOf i).toNat)
  case atStart => exact ⟨0, rfl, rfl, Lib.hid (by decide), HMK, HBA.out⟩
  case round =>
    obtain ⟨j, rfl, rfl, hj, hblk, hb⟩ := hrel
    by_cases hlt : j < 16
    · have hx := HB.cell hblk.out hlt
      have hs := Hs.su_small (f := f) (n := j) (fun i hi => HF.out i (by omega))
      have hk := HF.out j hlt
      have f1 : IntKind.i64.wrap (Hs.su f j + f j) = Hs.su f (j + 1) := by
        rw [IntKind.wrap_i64, Hs.su]
        omega
      have HL := Lib.hid hlt
      obtain ⟨s, hs'⟩ : ∃ s, Hs.su f j = s := ⟨_, rfl⟩
      obtain ⟨x, hx'⟩ : ∃ x, f j = x := ⟨_, rfl⟩
      rw [hs', hx'] at f1
      rw [hx'] at hx
      rw [hs']
      have f2 : IntKind.i64.wrap ((j : Int) + 1) = ((j + 1 : Nat) : Int) := by rw [IntKind.wrap_i64]; omega
      clear hs hk hj hs' hx'
      go_wp2
      go_roundw
      case rel => exact ⟨j + 1, rfl, rfl, Lib.hid HL.out, hblk, hb⟩
      case measure => simp [intOf]; have := HL.out; omega
    · have he : j = 16 := by have := hj.out; omega
      subst he
      clear hlt hj
      go_wp2
      go_ret
      exact ⟨ret_i64 E.out.symm, hb⟩

theorem In_step {f : Nat → Int} {j : Nat} (h : ∀ i, i < j → 0 ≤ f i ∧ f i ≤ 64) (h1 : 0 ≤ f j) (h2 : f j ≤ 64) : ∀ i, i < j + 1 → 0 ≤ f i ∧ f i ≤ 64 := fun i hi => by
  by_cases e : i = j
  · subst e; exact ⟨h1, h2⟩
  · exact h i (by omega)
theorem In.far {f : Nat → Int} (h : Hs.In f) : ∀ i, i < 16 → -1125899906842624 ≤ f i ∧ f i ≤ 1125899906842624 := fun i hi => by
  have := h i hi
  omega
set_option maxRecDepth 100000 in
theorem right_any (f : Nat → Int) (w : World) :
    Calls Try.prog 33 #[.agg (hc f)] w fun e w' => e = .returned (.bool (Hs.rt f)) ∧ Below w.heap.size w w' := by
  obtain ⟨R, hR⟩ : ∃ R, Hs.rt f = R := ⟨_, rfl⟩
  have E := Lib.hid hR
  have hba : Below w.heap.size w (w.alloc (.cells (hc f) 49)) := (Below.refl _ w).alloc (Nat.le_refl _) _
  have hmk := HB.made w f
  have HBA := Lib.hid hba
  have HMK := Lib.hid hmk
  have HIX := Lib.hid (fun (k : Nat) (h : k < 16) => index_hc f h)
  rw [hR]
  clear hba hmk hR
  go_enter Try.func33, Try.ntmps33
  go_wp2_with (refine ld_row (by rfl) 49 _ rfl w.heap.size rfl _ _ _ _ HMK.out Try.underlying49 rfl (by kernel_rfl) ?_)
  go_loopw [6] (fun i wr => ∃ j : Nat, i = .int .i64 j ∧ Hid (j ≤ 16) ∧ Hid (∀ i, i < j → 0 ≤ f i ∧ f i ≤ 64) ∧ Hid (HB wr w.heap.size f) ∧ Below w.heap.size w wr) (fun i _ => 16 - (intOf i).toNat)
  case atStart => exact ⟨0, rfl, Lib.hid (by decide), Lib.hid (fun i hi => absurd hi (Nat.not_lt_zero _)), HMK, HBA.out⟩
  case round =>
    obtain ⟨j, rfl, hj, hin, hblk, hb⟩ := hrel
    by_cases hlt : j < 16
    · have hx := fun w => HIX.out j hlt w
      have HL := Lib.hid hlt
      obtain ⟨x, hx'⟩ : ∃ x, f j = x := ⟨_, rfl⟩
      rw [hx'] at hx
      have HX := Lib.hid hx'
      have f2 : IntKind.i64.wrap ((j : Int) + 1) = ((j + 1 : Nat) : Int) := by rw [IntKind.wrap_i64]; omega
      clear hj hx'
      by_cases h1 : x < 0
      · have HE : Hid (R = false) := Lib.hid (by rw [← E.out]; exact Hs.rt_out fun h => by have := h j HL.out; have := HX.out; omega)
        go_wp2
        go_ret
        exact ⟨ret_bool HE.out.symm, hb⟩
      · by_cases h2 : 64 < x
        · have HE : Hid (R = false) := Lib.hid (by rw [← E.out]; exact Hs.rt_out fun h => by have := h j HL.out; have := HX.out; omega)
          go_wp2
          go_ret
          exact ⟨ret_bool HE.out.symm, hb⟩
        · go_wp2
          go_roundw
          case rel => exact ⟨j + 1, rfl, Lib.hid HL.out, Lib.hid (In_step hin.out (by have := HX.out; omega) (by have := HX.out; omega)), hblk, hb⟩
          case measure => simp [intOf]; have := HL.out; omega
    · have he : j = 16 := by have := hj.out; omega
      subst he
      have hI : Hs.In f := hin.out
      have HE : Hid (R = decide (Hs.tot f ≤ 64)) := Lib.hid (by rw [← E.out]; exact Hs.rt_in hI)
      have HT := Lib.hid (fun w => total_any f (In.far hI) w)
      obtain ⟨T, hT⟩ : ∃ T, Hs.tot f = T := ⟨_, rfl⟩
      rw [hT] at HE HT
      clear hlt hj hT
      go_wp2_with (refine ld_row (by rfl) 49 _ rfl w.heap.size rfl _ _ _ _ hblk.out Try.underlying49 rfl (by kernel_rfl) ?_)
      refine (HT.out _).mono ?_
      rintro e w' ⟨rfl, hb2⟩
      have hb3 := below_next hb hb2
      by_cases h64 : T ≤ 64
      · have HE2 : Hid (R = true) := Lib.hid (by rw [HE.out]; exact decide_eq_true h64)
        go_wp2
        go_ret
        exact ⟨ret_bool HE2.out.symm, hb3⟩
      · go_wp2
        go_ret
        exact ⟨ret_bool HE.out.symm, hb3⟩
set_option maxRecDepth 100000 in
theorem rright_any (f : Nat → Int) (w : World) :
    Calls Try.prog 27 #[.agg (hc f)] w fun e w' => e = .returned (.bool (Hs.rt f)) ∧ Below w.heap.size w w' := by
  obtain ⟨R, hR⟩ : ∃ R, Hs.rt f = R := ⟨_, rfl⟩
  have E := Lib.hid hR
  have hba : Below w.heap.size w (w.alloc (.cells (hc f) 49)) := (Below.refl _ w).alloc (Nat.le_refl _) _
  have hmk := HB.made w f
  have HBA := Lib.hid hba
  have HMK := Lib.hid hmk
  rw [hR]
  clear hba hmk hR
  go_enter Try.func27, Try.ntmps27
  go_wp2
  go_loopw [3] (fun i wr => ∃ j : Nat, i = .int .i64 j ∧ Hid (j ≤ 16) ∧ Hid (∀ i, i < j → 0 ≤ f i ∧ f i ≤ 64) ∧ Hid (HB wr w.heap.size f) ∧ Below w.heap.size w wr) (fun i _ => 16 - (intOf i).toNat)
  case atStart => exact ⟨0, rfl, Lib.hid (by decide), Lib.hid (fun i hi => absurd hi (Nat.not_lt_zero _)), HMK, HBA.out⟩
  case round =>
    obtain ⟨j, rfl, hj, hin, hblk, hb⟩ := hrel
    by_cases hlt : j < 16
    · have hx := HB.cell hblk.out hlt
      have HL := Lib.hid hlt
      obtain ⟨x, hx'⟩ : ∃ x, f j = x := ⟨_, rfl⟩
      rw [hx'] at hx
      have HX := Lib.hid hx'
      have f2 : IntKind.i64.wrap ((j : Int) + 1) = ((j + 1 : Nat) : Int) := by rw [IntKind.wrap_i64]; omega
      clear hj hx'
      by_cases h1 : x < 0
      · have HE : Hid (R = false) := Lib.hid (by rw [← E.out]; exact Hs.rt_out fun h => by have := h j HL.out; have := HX.out; omega)
        go_wp2
        go_ret
        exact ⟨ret_bool HE.out.symm, hb⟩
      · by_cases h2 : 64 < x
        · have HE : Hid (R = false) := Lib.hid (by rw [← E.out]; exact Hs.rt_out fun h => by have := h j HL.out; have := HX.out; omega)
          go_wp2
          go_ret
          exact ⟨ret_bool HE.out.symm, hb⟩
        · go_wp2
          go_roundw
          case rel => exact ⟨j + 1, rfl, Lib.hid HL.out, Lib.hid (In_step hin.out (by have := HX.out; omega) (by have := HX.out; omega)), hblk, hb⟩
          case measure => simp [intOf]; have := HL.out; omega
    · have he : j = 16 := by have := hj.out; omega
      subst he
      have hI : Hs.In f := hin.out
      have HE : Hid (R = decide (Hs.tot f ≤ 64)) := Lib.hid (by rw [← E.out]; exact Hs.rt_in hI)
      have HT := Lib.hid (fun w => rtotal_any f (In.far hI) w)
      obtain ⟨T, hT⟩ : ∃ T, Hs.tot f = T := ⟨_, rfl⟩
      rw [hT] at HE HT
      clear hlt hj hT
      go_wp2_with (refine ld_row (by rfl) 49 _ rfl w.heap.size rfl _ _ _ _ hblk.out Try.underlying49 rfl (by kernel_rfl) ?_)
      refine (HT.out _).mono ?_
      rintro e w' ⟨rfl, hb2⟩
      have hb3 := below_next hb hb2
      by_cases h64 : T ≤ 64
      · have HE2 : Hid (R = true) := Lib.hid (by rw [HE.out]; exact decide_eq_true h64)
        go_wp2
        go_ret
        exact ⟨ret_bool HE2.out.symm, hb3⟩
      · go_wp2
        go_ret
        exact ⟨ret_bool HE.out.symm, hb3⟩
end Go.Proofs.Ytbkbopaoeehfkaa
