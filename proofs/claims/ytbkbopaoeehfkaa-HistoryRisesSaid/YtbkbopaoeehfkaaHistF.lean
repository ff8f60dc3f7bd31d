/-
  CONTRACTS OF LAYER 10 (hist), part F: the page's Add.
-/
import Derived.Test.YtbkbopaoeehfkaaHistE
namespace Go.Proofs.Ytbkbopaoeehfkaa
open Go.RowKit
set_option linter.unusedVariables false

/-- the first j counts of g -/
def pg (g : Nat → Int) (j : Nat) : Nat → Int := fun i => if i < j then g i else 0
theorem pg_zero (g : Nat → Int) : pg g 0 = Hs.z := by funext i; simp [pg, Hs.z]
theorem pg_step (g : Nat → Int) (j : Nat) : (fun i => if i = j then g j else pg g j i) = pg g (j + 1) := by
  funext i
  unfold pg
  by_cases e : i = j
  · subst e; simp
  · by_cases h : i < j
    · rw [if_neg e, if_pos h, if_pos (by omega)]
    · rw [if_neg e, if_neg h, if_neg (by omega)]
theorem pg_up (g : Nat → Int) (k : Nat) : hc (Hs.up (pg g 16) k) = hc (Hs.up g k) := hc_congr fun i hi => by simp [pg, Hs.up, hi]
theorem pg_at (g : Nat → Int) {k : Nat} (h : k < 16) : pg g 16 k = g k := by simp [pg, h]
/-- three blocks: the argument, the result, what is made -/
def W3 (w : World) (f : Nat → Int) : World := ((((w.alloc (.cells (hc f) 49)).alloc (.cells (hc Hs.z) 49)).alloc (.cells (hc Hs.z) 49)))
theorem three_made (w : World) (f : Nat → Int) : HB (W3 w f) w.heap.size f ∧ HB (W3 w f) (w.heap.size + 1) Hs.z ∧ HB (W3 w f) (w.heap.size + 2) Hs.z ∧ Below w.heap.size w (W3 w f) := by
  obtain ⟨h1, h2, h3⟩ := two_made w f
  have hs : ((w.alloc (.cells (hc f) 49)).alloc (.cells (hc Hs.z) 49)).heap.size = w.heap.size + 2 := by simp
  have hb := (Below.refl ((w.alloc (.cells (hc f) 49)).alloc (.cells (hc Hs.z) 49)).heap.size _).alloc (Nat.le_refl _) (.cells (hc Hs.z) 49)
  have hn := HB.made ((w.alloc (.cells (hc f) 49)).alloc (.cells (hc Hs.z) 49)) Hs.z
  rw [hs] at hn
  exact ⟨h1.below hb (Nat.le_refl _), h2.below hb (Nat.le_refl _), hn, h3.trans (hb.mono (by rw [hs]; omega))⟩

set_option maxHeartbeats 1000000 in
set_option maxRecDepth 100000 in
theorem radd_any (f : Nat → Int) (v : Nat) (hv : v < 18446744073709551616) (w : World) :
    Calls Try.prog 19 #[.agg (hc f), .int .u64 v] w fun e w' => e = .returned (.agg (hc (Hs.ad f v))) ∧ Below w.heap.size w w' := by
  obtain ⟨h1, h2, h3, h4⟩ := three_made w f
  have HI0 := Lib.hid (hist_info Hs.z)
  have HO0 := Lib.hid (hc_one Hs.z)
  have HR := Lib.hid (fun w => rright_any f w)
  obtain ⟨W0, hW0⟩ : ∃ W, (W3 w f).setRow (w.heap.size + 2) (hc Hs.z) = W := ⟨_, rfl⟩
  have a0 := h1.row_other (k := w.heap.size + 2) (by omega) (hc Hs.z)
  have b0 := h2.row_other (k := w.heap.size + 2) (by omega) (hc Hs.z)
  have c0 := HB.row h3 Hs.z
  have l0 := below_setRow (g := w.heap.size + 2) h4 (by omega) (hc Hs.z)
  rw [hW0] at a0 b0 c0 l0
  have A0 := Lib.hid a0
  have B0 := Lib.hid b0
  have C0 := Lib.hid c0
  have L0 := Lib.hid l0
  have HC := Lib.hid h3
  unfold W3 at hW0 HC
  have HW := Lib.hid hW0
  clear h1 h2 h3 h4 a0 b0 c0 l0 hW0
  cases hr : Hs.rt f
  · have E := Lib.hid (Hs.ad_wrong (v := v) hr)
    rw [hr] at HR
    clear hr hv
    go_enter Try.func19, Try.ntmps19
    go_wp2_with (first
      | (refine wpList_store_row rfl 49 _ _ rfl (w.heap.size + 2) (hc Hs.z) rfl rfl 49 (hc Hs.z) HC.out HI0.out rfl HO0.out ?_; with_reducible refine (cast (congrArg _ HW.out.symm) ?_))
      | refine ld_row (by rfl) 49 _ rfl w.heap.size rfl _ _ _ _ A0.out Try.underlying49 rfl (by kernel_rfl) ?_)
    refine (HR.out _).mono ?_
    rintro e w1 ⟨rfl, hb⟩
    have B1 := Lib.hid (B0.out.below hb (Nat.le_refl _))
    have C1 := Lib.hid (C0.out.below hb (Nat.le_refl _))
    have L1 := Lib.hid (below_next L0.out hb)
    clear hb
    go_wp2_with (first
      | refine ld_row (by rfl) 49 _ rfl (w.heap.size + 2) rfl _ _ _ _ C1.out Try.underlying49 rfl (by kernel_rfl) ?_
      | refine wpList_store_row rfl 49 _ _ rfl (w.heap.size + 1) (hc Hs.z) rfl rfl 49 (hc Hs.z) B1.out HI0.out rfl HO0.out ?_)
    refine bodyPost_ret (v := .agg (hc Hs.z)) ?_ rfl ?_
    · exact results_cell_row rfl _ _ (w.heap.size + 1) _ _ _ _ rfl (HB.row B1.out _) Try.underlying49 rfl HI0.out
    · exact ⟨by rw [E.out], below_setRow L1.out (by omega) _⟩
  · obtain ⟨hin, ht64⟩ := Hs.rt_iff.1 hr
    have HIN := Lib.hid hin
    have HT := Lib.hid (fun w => rtotal_any f (In.far hin) w)
    have BK := Lib.hid (fun w => rbucket_any v hv w)
    have hk := Hs.bk_lt v
    rw [hr] at HR
    by_cases hfull : Hs.tot f = 64
    · have E := Lib.hid (Hs.ad_full (v := v) hr hfull)
      rw [hfull] at HT
      obtain ⟨k, hk'⟩ : ∃ k, Hs.bk v = k := ⟨_, rfl⟩
      rw [hk'] at BK E hk
      have HG := Lib.hid (hin.hf)
      have HK := Lib.hid hk
      clear hr hv hin ht64 hfull hk' hk
      go_enter Try.func19, Try.ntmps19
      go_wp2_with (first
        | (refine wpList_store_row rfl 49 _ _ rfl (w.heap.size + 2) (hc Hs.z) rfl rfl 49 (hc Hs.z) HC.out HI0.out rfl HO0.out ?_; with_reducible refine (cast (congrArg _ HW.out.symm) ?_))
        | refine ld_row (by rfl) 49 _ rfl w.heap.size rfl _ _ _ _ A0.out Try.underlying49 rfl (by kernel_rfl) ?_)
      refine (HR.out _).mono ?_
      rintro e w1 ⟨rfl, hb⟩
      have A1 := Lib.hid (A0.out.below hb (Nat.le_refl _))
      have B1 := Lib.hid (B0.out.below hb (Nat.le_refl _))
      have C1 := Lib.hid (C0.out.below hb (Nat.le_refl _))
      have L1 := Lib.hid (below_next L0.out hb)
      clear hb A0 B0 C0 L0 HC HW
      go_wp2
      go_loopw [6] (fun i wr => ∃ j : Nat, i = .int .i64 j ∧ Hid (j ≤ 16) ∧ Hid (HB wr w.heap.size f) ∧ Hid (HB wr (w.heap.size + 1) Hs.z) ∧ Hid (HB wr (w.heap.size + 2) (pg (Hs.hf f) j)) ∧ Hid (Below w.heap.size w wr)) (fun i _ => 16 - (intOf i).toNat)
      case atStart => exact ⟨0, rfl, Lib.hid (by decide), A1, B1, Lib.hid (by rw [pg_zero]; exact C1.out), L1⟩
      case round =>
        obtain ⟨j, rfl, hj, A2, B2, C2, L2⟩ := hrel
        by_cases hlt : j < 16
        · have HL := Lib.hid hlt
          have f2 : IntKind.i64.wrap ((j : Int) + 1) = ((j + 1 : Nat) : Int) := by rw [IntKind.wrap_i64]; omega
          go_wp2_with (refine ld_row (by rfl) 49 _ rfl w.heap.size rfl _ _ _ _ A2.out Try.underlying49 rfl (by kernel_rfl) ?_)
          refine (HT.out _).mono ?_
          rintro e w3 ⟨rfl, hb⟩
          have A3 := Lib.hid (A2.out.below hb (Nat.le_refl _))
          have B3 := Lib.hid (B2.out.below hb (Nat.le_refl _))
          have C3 := Lib.hid (C2.out.below hb (Nat.le_refl _))
          have L3 := Lib.hid (below_next L2.out hb)
          clear hb
          have hx := HB.cell A3.out HL.out
          have hy := HB.cell C3.out HL.out
          have hz := HB.frozen C3.out j
          have hput := HB.put C3.out HL.out ((Hs.hf f) j)
          rw [pg_step] at hput
          have ho1 := HB.other A3.out (a := ⟨w.heap.size + 2, j, none⟩) (by simp) (.int .i64 ((Hs.hf f) j))
          have ho2 := HB.other B3.out (a := ⟨w.heap.size + 2, j, none⟩) (by simp) (.int .i64 ((Hs.hf f) j))
          have hbb := L3.out.setCell (p := ⟨w.heap.size + 2, j, none⟩) (Nat.le_add_right _ _) (.int .i64 ((Hs.hf f) j))
          have hin := HIN.out j HL.out
          obtain ⟨y, hy'⟩ : ∃ y, pg (Hs.hf f) j j = y := ⟨_, rfl⟩
          rw [hy'] at hy
          have ex : Hs.hf f j = f j / 2 := rfl
          rw [ex] at hput ho1 ho2 hbb
          obtain ⟨x, hx'⟩ : ∃ x, f j = x := ⟨_, rfl⟩
          rw [hx'] at hx hput ho1 ho2 hbb hin
          have f1 : IntKind.i64.wrap (x.tdiv 2) = x / 2 := by rw [Int.tdiv_eq_ediv_of_nonneg hin.1, IntKind.wrap_i64]; omega
          clear hx' ex
          have HP := Lib.hid hput
          have HA := Lib.hid ho1
          have HB' := Lib.hid ho2
          have HBB := Lib.hid hbb
          clear hj hput ho1 ho2 hbb hin hy'
          go_wp2
          go_roundw
          case rel => exact ⟨j + 1, rfl, Lib.hid HL.out, HA, HB', HP, HBB⟩
          case measure => simp [intOf]; have := HL.out; omega
        · have he : j = 16 := by have := hj.out; omega
          subst he
          clear hlt hj
          have hgk := HG.out k HK.out
          have hx := HB.cell C2.out HK.out
          rw [pg_at _ HK.out] at hx
          have hz := HB.frozen C2.out k
          have hup := fun x hx => HB.up (x := x) C2.out HK.out hx
          rw [pg_at _ HK.out] at hup
          have A5 := Lib.hid (hup _ rfl)
          have B5 := Lib.hid (HB.other B2.out (a := ⟨w.heap.size + 2, k, none⟩) (by simp) (.int .i64 ((Hs.hf f) k + 1)))
          have L5 := Lib.hid (L2.out.setCell (p := ⟨w.heap.size + 2, k, none⟩) (Nat.le_add_right _ _) (.int .i64 ((Hs.hf f) k + 1)))
          clear hup
          obtain ⟨x, hx'⟩ : ∃ x, (Hs.hf f) k = x := ⟨_, rfl⟩
          rw [hx'] at hx A5 B5 L5 hgk
          have f1 : IntKind.i64.wrap (x + 1) = x + 1 := by rw [IntKind.wrap_i64]; omega
          have HI5 := Lib.hid (hist_info (Hs.up (pg (Hs.hf f) 16) k))
          have HO5 := Lib.hid (hc_one (Hs.up (pg (Hs.hf f) 16) k))
          have hk16 := HK.out
          clear hx' hgk
          go_wp2_with fail
          refine (BK.out _).mono ?_
          rintro e w5 ⟨rfl, rfl⟩
          go_wp2_with fail
          refine (BK.out _).mono ?_
          rintro e w5 ⟨rfl, rfl⟩
          go_wp2_with (first
            | refine ld_row (by rfl) 49 _ rfl (w.heap.size + 2) rfl _ _ _ _ A5.out Try.underlying49 rfl (by kernel_rfl) ?_
            | refine wpList_store_row rfl 49 _ _ rfl (w.heap.size + 1) (hc (Hs.up (pg (Hs.hf f) 16) k)) rfl rfl 49 (hc Hs.z) B5.out HI5.out rfl HO5.out ?_)
          refine bodyPost_ret (v := .agg (hc (Hs.up (pg (Hs.hf f) 16) k))) ?_ rfl ?_
          · exact results_cell_row rfl _ _ (w.heap.size + 1) _ _ _ _ rfl (HB.row B5.out _) Try.underlying49 rfl HI5.out
          · exact ⟨by rw [E.out, pg_up], below_setRow L5.out (by omega) _⟩
    · have E := Lib.hid (Hs.ad_more (v := v) hr hfull)
      obtain ⟨t, ht⟩ : ∃ t, Hs.tot f = t := ⟨_, rfl⟩
      rw [ht] at HT
      have hne : (t == 64) = false := by rw [beq_eq_false_iff_ne, ← ht]; exact hfull
      clear ht
      obtain ⟨k, hk'⟩ : ∃ k, Hs.bk v = k := ⟨_, rfl⟩
      rw [hk'] at BK E hk
      have HG := Lib.hid (hin)
      have HK := Lib.hid hk
      clear hr hv hin ht64 hfull hk' hk
      go_enter Try.func19, Try.ntmps19
      go_wp2_with (first
        | (refine wpList_store_row rfl 49 _ _ rfl (w.heap.size + 2) (hc Hs.z) rfl rfl 49 (hc Hs.z) HC.out HI0.out rfl HO0.out ?_; with_reducible refine (cast (congrArg _ HW.out.symm) ?_))
        | refine ld_row (by rfl) 49 _ rfl w.heap.size rfl _ _ _ _ A0.out Try.underlying49 rfl (by kernel_rfl) ?_)
      refine (HR.out _).mono ?_
      rintro e w1 ⟨rfl, hb⟩
      have A1 := Lib.hid (A0.out.below hb (Nat.le_refl _))
      have B1 := Lib.hid (B0.out.below hb (Nat.le_refl _))
      have C1 := Lib.hid (C0.out.below hb (Nat.le_refl _))
      have L1 := Lib.hid (below_next L0.out hb)
      clear hb A0 B0 C0 L0 HC HW
      go_wp2
      go_loopw [6] (fun i wr => ∃ j : Nat, i = .int .i64 j ∧ Hid (j ≤ 16) ∧ Hid (HB wr w.heap.size f) ∧ Hid (HB wr (w.heap.size + 1) Hs.z) ∧ Hid (HB wr (w.heap.size + 2) (pg f j)) ∧ Hid (Below w.heap.size w wr)) (fun i _ => 16 - (intOf i).toNat)
      case atStart => exact ⟨0, rfl, Lib.hid (by decide), A1, B1, Lib.hid (by rw [pg_zero]; exact C1.out), L1⟩
      case round =>
        obtain ⟨j, rfl, hj, A2, B2, C2, L2⟩ := hrel
        by_cases hlt : j < 16
        · have HL := Lib.hid hlt
          have f2 : IntKind.i64.wrap ((j : Int) + 1) = ((j + 1 : Nat) : Int) := by rw [IntKind.wrap_i64]; omega
          go_wp2_with (refine ld_row (by rfl) 49 _ rfl w.heap.size rfl _ _ _ _ A2.out Try.underlying49 rfl (by kernel_rfl) ?_)
          refine (HT.out _).mono ?_
          rintro e w3 ⟨rfl, hb⟩
          have A3 := Lib.hid (A2.out.below hb (Nat.le_refl _))
          have B3 := Lib.hid (B2.out.below hb (Nat.le_refl _))
          have C3 := Lib.hid (C2.out.below hb (Nat.le_refl _))
          have L3 := Lib.hid (below_next L2.out hb)
          clear hb
          have hx := HB.cell A3.out HL.out
          have hy := HB.cell C3.out HL.out
          have hz := HB.frozen C3.out j
          have hput := HB.put C3.out HL.out (f j)
          rw [pg_step] at hput
          have ho1 := HB.other A3.out (a := ⟨w.heap.size + 2, j, none⟩) (by simp) (.int .i64 (f j))
          have ho2 := HB.other B3.out (a := ⟨w.heap.size + 2, j, none⟩) (by simp) (.int .i64 (f j))
          have hbb := L3.out.setCell (p := ⟨w.heap.size + 2, j, none⟩) (Nat.le_add_right _ _) (.int .i64 (f j))
          have hin := HIN.out j HL.out
          obtain ⟨y, hy'⟩ : ∃ y, pg f j j = y := ⟨_, rfl⟩
          rw [hy'] at hy
          obtain ⟨x, hx'⟩ : ∃ x, f j = x := ⟨_, rfl⟩
          rw [hx'] at hx hput ho1 ho2 hbb hin
          clear hx'
          have HP := Lib.hid hput
          have HA := Lib.hid ho1
          have HB' := Lib.hid ho2
          have HBB := Lib.hid hbb
          clear hj hput ho1 ho2 hbb hin hy'
          go_wp2
          go_roundw
          case rel => exact ⟨j + 1, rfl, Lib.hid HL.out, HA, HB', HP, HBB⟩
          case measure => simp [intOf]; have := HL.out; omega
        · have he : j = 16 := by have := hj.out; omega
          subst he
          clear hlt hj
          have hgk := HG.out k HK.out
          have hx := HB.cell C2.out HK.out
          rw [pg_at _ HK.out] at hx
          have hz := HB.frozen C2.out k
          have hup := fun x hx => HB.up (x := x) C2.out HK.out hx
          rw [pg_at _ HK.out] at hup
          have A5 := Lib.hid (hup _ rfl)
          have B5 := Lib.hid (HB.other B2.out (a := ⟨w.heap.size + 2, k, none⟩) (by simp) (.int .i64 (f k + 1)))
          have L5 := Lib.hid (L2.out.setCell (p := ⟨w.heap.size + 2, k, none⟩) (Nat.le_add_right _ _) (.int .i64 (f k + 1)))
          clear hup
          obtain ⟨x, hx'⟩ : ∃ x, f k = x := ⟨_, rfl⟩
          rw [hx'] at hx A5 B5 L5 hgk
          have f1 : IntKind.i64.wrap (x + 1) = x + 1 := by rw [IntKind.wrap_i64]; omega
          have HI5 := Lib.hid (hist_info (Hs.up (pg f 16) k))
          have HO5 := Lib.hid (hc_one (Hs.up (pg f 16) k))
          have hk16 := HK.out
          clear hx' hgk
          go_wp2_with fail
          refine (BK.out _).mono ?_
          rintro e w5 ⟨rfl, rfl⟩
          go_wp2_with fail
          refine (BK.out _).mono ?_
          rintro e w5 ⟨rfl, rfl⟩
          go_wp2_with (first
            | refine ld_row (by rfl) 49 _ rfl (w.heap.size + 2) rfl _ _ _ _ A5.out Try.underlying49 rfl (by kernel_rfl) ?_
            | refine wpList_store_row rfl 49 _ _ rfl (w.heap.size + 1) (hc (Hs.up (pg f 16) k)) rfl rfl 49 (hc Hs.z) B5.out HI5.out rfl HO5.out ?_)
          refine bodyPost_ret (v := .agg (hc (Hs.up (pg f 16) k))) ?_ rfl ?_
          · exact results_cell_row rfl _ _ (w.heap.size + 1) _ _ _ _ rfl (HB.row B5.out _) Try.underlying49 rfl HI5.out
          · exact ⟨by rw [E.out, pg_up], below_setRow L5.out (by omega) _⟩
end Go.Proofs.Ytbkbopaoeehfkaa
