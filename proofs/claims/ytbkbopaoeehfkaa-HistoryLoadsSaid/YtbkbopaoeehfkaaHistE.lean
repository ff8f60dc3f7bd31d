/-
  CONTRACTS OF LAYER 10 (hist), part E: Add.
-/
import Derived.Test.YtbkbopaoeehfkaaHistD
namespace Go.Proofs.Ytbkbopaoeehfkaa
open Go.RowKit
set_option linter.unusedVariables false

set_option maxHeartbeats 1000000 in
set_option maxRecDepth 100000 in
theorem add_any (f : Nat → Int) (v : Nat) (hv : v < 18446744073709551616) (w : World) :
    Calls Try.prog 17 #[.agg (hc f), .int .u64 v] w fun e w' => e = .returned (.agg (hc (Hs.ad f v))) ∧ Below w.heap.size w w' := by
  obtain ⟨h1, h2, h3⟩ := two_made w f
  have H1 := Lib.hid h1
  have H2 := Lib.hid h2
  have H3 := Lib.hid h3
  have HR := Lib.hid (fun w => right_any f w)
  have HI0 := Lib.hid (hist_info Hs.z)
  have HO0 := Lib.hid (hc_one Hs.z)
  clear h1 h2 h3
  cases hr : Hs.rt f
  · have E := Lib.hid (Hs.ad_wrong (v := v) hr)
    rw [hr] at HR
    clear hr hv
    go_enter Try.func17, Try.ntmps17
    go_wp2_with (refine ld_row (by rfl) 49 _ rfl w.heap.size rfl _ _ _ _ H1.out Try.underlying49 rfl (by kernel_rfl) ?_)
    refine (HR.out _).mono ?_
    rintro e w1 ⟨rfl, hb⟩
    have hB := H2.out.below hb (Nat.le_refl _)
    have HB2 := Lib.hid hB
    have HBB := Lib.hid (below_next H3.out hb)
    clear hB hb
    go_wp2_with (refine wpList_store_row rfl 49 _ _ rfl (w.heap.size + 1) (hc Hs.z) rfl rfl 49 (hc Hs.z) HB2.out HI0.out rfl HO0.out ?_)
    refine bodyPost_ret (v := .agg (hc Hs.z)) ?_ rfl ?_
    · exact results_cell_row rfl _ _ (w.heap.size + 1) _ _ _ _ rfl (HB.row HB2.out _) Try.underlying49 rfl HI0.out
    · exact ⟨by rw [E.out], below_setRow HBB.out (by omega) _⟩
  · obtain ⟨hin, ht64⟩ := Hs.rt_iff.1 hr
    have HIN := Lib.hid hin
    have HT := Lib.hid (fun w => total_any f (In.far hin) w)
    have BK := Lib.hid (fun w => bucket_any v hv w)
    have hk := Hs.bk_lt v
    rw [hr] at HR
    by_cases hfull : Hs.tot f = 64
    · have E := Lib.hid (Hs.ad_full (v := v) hr hfull)
      rw [hfull] at HT
      have HH := Lib.hid (fun w => halved_any f hin w)
      obtain ⟨k, hk'⟩ : ∃ k, Hs.bk v = k := ⟨_, rfl⟩
      rw [hk'] at BK E hk
      have hgk := (hin.hf) k hk
      obtain ⟨x, hx⟩ : ∃ x, Hs.hf f k = x := ⟨_, rfl⟩
      rw [hx] at hgk
      have HX := Lib.hid hx
      have HK := Lib.hid hk
      have f1 : IntKind.i64.wrap (x + 1) = x + 1 := by rw [IntKind.wrap_i64]; omega
      clear hr hv hin ht64 hfull hk' hx hgk hk
      go_enter Try.func17, Try.ntmps17
      go_wp2_with (refine ld_row (by rfl) 49 _ rfl w.heap.size rfl _ _ _ _ H1.out Try.underlying49 rfl (by kernel_rfl) ?_)
      refine (HR.out _).mono ?_
      rintro e w1 ⟨rfl, hb1⟩
      have A1 := Lib.hid (H1.out.below hb1 (Nat.le_refl _))
      have B1 := Lib.hid (H2.out.below hb1 (Nat.le_refl _))
      have L1 := Lib.hid (below_next H3.out hb1)
      clear hb1
      go_wp2_with (refine ld_row (by rfl) 49 _ rfl w.heap.size rfl _ _ _ _ A1.out Try.underlying49 rfl (by kernel_rfl) ?_)
      refine (HT.out _).mono ?_
      rintro e w2 ⟨rfl, hb2⟩
      have A2 := Lib.hid (A1.out.below hb2 (Nat.le_refl _))
      have B2 := Lib.hid (B1.out.below hb2 (Nat.le_refl _))
      have L2 := Lib.hid (below_next L1.out hb2)
      clear hb2
      go_wp2_with (refine ld_row (by rfl) 49 _ rfl w.heap.size rfl _ _ _ _ A2.out Try.underlying49 rfl (by kernel_rfl) ?_)
      refine (HH.out _).mono ?_
      rintro e w3 ⟨rfl, hb3⟩
      have A3 := Lib.hid (A2.out.below hb3 (Nat.le_refl _))
      have A4 := Lib.hid (HB.row A3.out (Hs.hf f))
      have B4 := Lib.hid ((B2.out.below hb3 (Nat.le_refl _)).row_other (k := w.heap.size) (by omega) (hc (Hs.hf f)))
      have L4 := Lib.hid (below_setRow (g := w.heap.size) (below_next L2.out hb3) (Nat.le_refl _) (hc (Hs.hf f)))
      have HI := Lib.hid (hist_info (Hs.hf f))
      have HO := Lib.hid (hc_one (Hs.hf f))
      clear hb3
      obtain ⟨w4, hw4⟩ : ∃ W, w3.setRow w.heap.size (hc (Hs.hf f)) = W := ⟨_, rfl⟩
      rw [hw4] at A4 B4 L4
      have HW := Lib.hid hw4
      clear hw4
      go_wp2_with (first
        | (refine wpList_store_row rfl 49 _ _ rfl w.heap.size (hc (Hs.hf f)) rfl rfl 49 (hc f) A3.out HI.out rfl HO.out ?_; rw [HW.out])
        | fail)
      refine (BK.out _).mono ?_
      rintro e w5 ⟨rfl, rfl⟩
      have hk16 := HK.out
      have hx := HB.cell A4.out HK.out
      rw [HX.out] at hx
      have hz := HB.frozen A4.out k
      have A5 := Lib.hid (HB.up A4.out HK.out (by rw [HX.out] : Hs.hf f k + 1 = x + 1))
      have B5 := Lib.hid (HB.other B4.out (a := ⟨w.heap.size, k, none⟩) (by simp) (.int .i64 (x + 1)))
      have L5 := Lib.hid (L4.out.setCell (p := ⟨w.heap.size, k, none⟩) (Nat.le_refl _) (.int .i64 (x + 1)))
      have HI5 := Lib.hid (hist_info (Hs.up (Hs.hf f) k))
      have HO5 := Lib.hid (hc_one (Hs.up (Hs.hf f) k))
      go_wp2_with (first
        | refine ld_row (by rfl) 49 _ rfl w.heap.size rfl _ _ _ _ A5.out Try.underlying49 rfl (by kernel_rfl) ?_
        | refine wpList_store_row rfl 49 _ _ rfl (w.heap.size + 1) (hc (Hs.up (Hs.hf f) k)) rfl rfl 49 (hc Hs.z) B5.out HI5.out rfl HO5.out ?_)
      refine bodyPost_ret (v := .agg (hc (Hs.up (Hs.hf f) k))) ?_ rfl ?_
      · exact results_cell_row rfl _ _ (w.heap.size + 1) _ _ _ _ rfl (HB.row B5.out _) Try.underlying49 rfl HI5.out
      · exact ⟨by rw [E.out], below_setRow L5.out (by omega) _⟩
    · have E := Lib.hid (Hs.ad_more (v := v) hr hfull)
      obtain ⟨t, ht⟩ : ∃ t, Hs.tot f = t := ⟨_, rfl⟩
      rw [ht] at HT
      have hne : (t == 64) = false := by rw [beq_eq_false_iff_ne, ← ht]; exact hfull
      obtain ⟨k, hk'⟩ : ∃ k, Hs.bk v = k := ⟨_, rfl⟩
      rw [hk'] at BK E hk
      have hgk := hin k hk
      obtain ⟨x, hx⟩ : ∃ x, f k = x := ⟨_, rfl⟩
      rw [hx] at hgk
      have HX := Lib.hid hx
      have HK := Lib.hid hk
      have f1 : IntKind.i64.wrap (x + 1) = x + 1 := by rw [IntKind.wrap_i64]; omega
      clear hr hv hin ht64 hfull hk' hx hgk hk ht
      go_enter Try.func17, Try.ntmps17
      go_wp2_with (refine ld_row (by rfl) 49 _ rfl w.heap.size rfl _ _ _ _ H1.out Try.underlying49 rfl (by kernel_rfl) ?_)
      refine (HR.out _).mono ?_
      rintro e w1 ⟨rfl, hb1⟩
      have A1 := Lib.hid (H1.out.below hb1 (Nat.le_refl _))
      have B1 := Lib.hid (H2.out.below hb1 (Nat.le_refl _))
      have L1 := Lib.hid (below_next H3.out hb1)
      clear hb1
      go_wp2_with (refine ld_row (by rfl) 49 _ rfl w.heap.size rfl _ _ _ _ A1.out Try.underlying49 rfl (by kernel_rfl) ?_)
      refine (HT.out _).mono ?_
      rintro e w4 ⟨rfl, hb2⟩
      have A4 := Lib.hid (A1.out.below hb2 (Nat.le_refl _))
      have B4 := Lib.hid (B1.out.below hb2 (Nat.le_refl _))
      have L4 := Lib.hid (below_next L1.out hb2)
      clear hb2
      go_wp2_with fail
      refine (BK.out _).mono ?_
      rintro e w5 ⟨rfl, rfl⟩
      have hk16 := HK.out
      have hx := HB.cell A4.out HK.out
      rw [HX.out] at hx
      have hz := HB.frozen A4.out k
      have A5 := Lib.hid (HB.up A4.out HK.out (by rw [HX.out] : f k + 1 = x + 1))
      have B5 := Lib.hid (HB.other B4.out (a := ⟨w.heap.size, k, none⟩) (by simp) (.int .i64 (x + 1)))
      have L5 := Lib.hid (L4.out.setCell (p := ⟨w.heap.size, k, none⟩) (Nat.le_refl _) (.int .i64 (x + 1)))
      have HI5 := Lib.hid (hist_info (Hs.up f k))
      have HO5 := Lib.hid (hc_one (Hs.up f k))
      go_wp2_with (first
        | refine ld_row (by rfl) 49 _ rfl w.heap.size rfl _ _ _ _ A5.out Try.underlying49 rfl (by kernel_rfl) ?_
        | refine wpList_store_row rfl 49 _ _ rfl (w.heap.size + 1) (hc (Hs.up f k)) rfl rfl 49 (hc Hs.z) B5.out HI5.out rfl HO5.out ?_)
      refine bodyPost_ret (v := .agg (hc (Hs.up f k))) ?_ rfl ?_
      · exact results_cell_row rfl _ _ (w.heap.size + 1) _ _ _ _ rfl (HB.row B5.out _) Try.underlying49 rfl HI5.out
      · exact ⟨by rw [E.out], below_setRow L5.out (by omega) _⟩
end Go.Proofs.Ytbkbopaoeehfkaa
