/-
  CONTRACTS OF LAYER 11 (quant), part C: Of; the page's Place and Of.
-/
import Derived.Test.YtbkbopaoeehfkaaQuantB
namespace Go.Proofs.Ytbkbopaoeehfkaa
open Go.RowKit
set_option linter.unusedVariables false

theorem ret_of {x y : Int} {a b : Bool} (h : x = y) (k : a = b) : Ending.returned (.tuple #[.int .u64 x, .bool a]) = .returned (.tuple #[.int .u64 y, .bool b]) := by rw [h, k]

set_option maxRecDepth 100000 in
theorem of_any (f : Nat → Int) (p : Int) (w : World) :
    Calls Try.prog 29 #[.agg (hc f), .int .i64 p] w fun e w' => e = .returned (.tuple #[.int .u64 (Qu.ov f p : Nat), .bool (Qu.ok f p)]) ∧ Below w.heap.size w w' := by
  have HMK := Lib.hid (HB.made w f)
  have HBA := Lib.hid ((Below.refl _ w).alloc (Nat.le_refl _) (.cells (hc f) 49))
  have HP := Lib.hid (fun w => place_any f p w)
  obtain ⟨V, hV⟩ : ∃ V, Qu.ov f p = V := ⟨_, rfl⟩
  rw [hV]
  have EV := Lib.hid hV
  clear hV
  cases hk : Qu.ok f p
  · have V0 : Hid (V = 0) := Lib.hid (by rw [← EV.out]; exact Qu.ov_no hk)
    rw [hk] at HP
    obtain ⟨b, hb⟩ : ∃ b, Qu.pv f p = b := ⟨_, rfl⟩
    rw [hb] at HP
    clear hk hb
    go_enter Try.func29, Try.ntmps29
    go_wp2_with (refine ld_row (by rfl) 49 _ rfl w.heap.size rfl _ _ _ _ HMK.out Try.underlying49 rfl (by kernel_rfl) ?_)
    refine (HP.out _).mono ?_
    rintro e w' ⟨rfl, hb⟩
    go_wp2
    go_ret2
    exact ⟨ret_of (by rw [V0.out]; rfl) rfl, below_next HBA.out hb⟩
  · rw [hk] at HP
    have HH := Lib.hid (fun w => high_any (Qu.pv f p : Nat) w)
    have V0 : Hid (Hs.hi (Qu.pv f p : Nat) = V) := Lib.hid (by rw [← EV.out, Qu.ov_ok hk, Qu.pv_ok hk])
    obtain ⟨b, hb⟩ : ∃ b, Qu.pv f p = b := ⟨_, rfl⟩
    rw [hb] at HP HH V0
    rw [V0.out] at HH
    clear hk hb
    go_enter Try.func29, Try.ntmps29
    go_wp2_with (refine ld_row (by rfl) 49 _ rfl w.heap.size rfl _ _ _ _ HMK.out Try.underlying49 rfl (by kernel_rfl) ?_)
    refine (HP.out _).mono ?_
    rintro e w' ⟨rfl, hb⟩
    go_wp2_with fail
    refine (HH.out _).mono ?_
    rintro e w2 ⟨rfl, rfl⟩
    go_wp2
    go_ret2
    exact ⟨rfl, below_next HBA.out hb⟩

set_option maxRecDepth 100000 in
set_option maxHeartbeats 1000000 in
theorem rplace_any (f : Nat → Int) (p : Int) (w : World) :
    Calls Try.prog 38 #[.agg (hc f), .int .i64 p] w fun e w' => e = .returned (.int .i64 (Qu.pk f p)) ∧ Below w.heap.size w w' := by
  have HMK := Lib.hid (HB.made w f)
  have HBA := Lib.hid ((Below.refl _ w).alloc (Nat.le_refl _) (.cells (hc f) 49))
  have HR := Lib.hid (fun w => rright_any f w)
  obtain ⟨V, hV⟩ : ∃ V, Qu.pk f p = V := ⟨_, rfl⟩
  rw [hV]
  have EV := Lib.hid hV
  clear hV
  cases hr : Hs.rt f
  · have V0 : Hid (-1 = V) := Lib.hid (by rw [← EV.out]; exact (Qu.pk_no (Qu.ok_not fun h => by rw [hr] at h; cases h.1)).symm)
    rw [hr] at HR
    clear hr
    go_enter Try.func38, Try.ntmps38
    go_wp2_with (refine ld_row (by rfl) 49 _ rfl w.heap.size rfl _ _ _ _ HMK.out Try.underlying49 rfl (by kernel_rfl) ?_)
    refine (HR.out _).mono ?_
    rintro e w' ⟨rfl, hb⟩
    go_wp2
    go_ret
    exact ⟨ret_i64 V0.out, below_next HBA.out hb⟩
  · obtain ⟨hin, ht64⟩ := Hs.rt_iff.1 hr
    have HT := Lib.hid (fun w => rtotal_any f (In.far hin) w)
    have ht0 := Hs.In.tot hin
    have hrt := hr
    rw [hr] at HR
    clear hr
    by_cases hz : Hs.tot f = 0
    · have V0 : Hid (-1 = V) := Lib.hid (by rw [← EV.out]; exact (Qu.pk_no (Qu.ok_not fun h => by have := h.2.1; omega)).symm)
      rw [hz] at HT
      clear hin ht64 ht0 hz hrt
      go_enter Try.func38, Try.ntmps38
      go_wp2_with (refine ld_row (by rfl) 49 _ rfl w.heap.size rfl _ _ _ _ HMK.out Try.underlying49 rfl (by kernel_rfl) ?_)
      refine (HR.out _).mono ?_
      rintro e w' ⟨rfl, hb⟩
      have H2 := Lib.hid (HMK.out.below hb (Nat.le_refl _))
      have B2 := Lib.hid (below_next HBA.out hb)
      clear hb
      go_wp2_with (refine ld_row (by rfl) 49 _ rfl w.heap.size rfl _ _ _ _ H2.out Try.underlying49 rfl (by kernel_rfl) ?_)
      refine (HT.out _).mono ?_
      rintro e w2 ⟨rfl, hb⟩
      go_wp2
      go_ret
      exact ⟨ret_i64 V0.out, below_next B2.out hb⟩
    · have hok : (1 ≤ p ∧ p ≤ 100) → Qu.ok f p = true := fun h => Qu.ok_iff.2 ⟨hrt, by omega, h.1, h.2⟩
      have hno : ¬ (1 ≤ p ∧ p ≤ 100) → -1 = V := fun h => by rw [← EV.out]; exact (Qu.pk_no (Qu.ok_not fun h' => h h'.2.2)).symm
      have HIN := Lib.hid hin
      obtain ⟨T, hT⟩ : ∃ T, Hs.tot f = T := ⟨_, rfl⟩
      rw [hT] at HT ht64 ht0 hz
      have ET := Lib.hid hT
      have hne : (T == 0) = false := beq_eq_false_iff_ne.2 hz
      have HOK := Lib.hid hok
      have HNO := Lib.hid hno
      clear hin hT hz hrt hok hno
      by_cases hp1 : p < 1
      · have V0 : Hid (-1 = V) := Lib.hid (HNO.out (by omega))
        go_enter Try.func38, Try.ntmps38
        go_wp2_with (refine ld_row (by rfl) 49 _ rfl w.heap.size rfl _ _ _ _ HMK.out Try.underlying49 rfl (by kernel_rfl) ?_)
        refine (HR.out _).mono ?_
        rintro e w' ⟨rfl, hb⟩
        have H2 := Lib.hid (HMK.out.below hb (Nat.le_refl _))
        have B2 := Lib.hid (below_next HBA.out hb)
        clear hb
        go_wp2_with (refine ld_row (by rfl) 49 _ rfl w.heap.size rfl _ _ _ _ H2.out Try.underlying49 rfl (by kernel_rfl) ?_)
        refine (HT.out _).mono ?_
        rintro e w2 ⟨rfl, hb⟩
        go_wp2
        go_ret
        exact ⟨ret_i64 V0.out, below_next B2.out hb⟩
      · by_cases hp2 : 100 < p
        · have V0 : Hid (-1 = V) := Lib.hid (HNO.out (by omega))
          go_enter Try.func38, Try.ntmps38
          go_wp2_with (refine ld_row (by rfl) 49 _ rfl w.heap.size rfl _ _ _ _ HMK.out Try.underlying49 rfl (by kernel_rfl) ?_)
          refine (HR.out _).mono ?_
          rintro e w' ⟨rfl, hb⟩
          have H2 := Lib.hid (HMK.out.below hb (Nat.le_refl _))
          have B2 := Lib.hid (below_next HBA.out hb)
          clear hb
          go_wp2_with (refine ld_row (by rfl) 49 _ rfl w.heap.size rfl _ _ _ _ H2.out Try.underlying49 rfl (by kernel_rfl) ?_)
          refine (HT.out _).mono ?_
          rintro e w2 ⟨rfl, hb⟩
          go_wp2
          go_ret
          exact ⟨ret_i64 V0.out, below_next B2.out hb⟩
        · have hok := HOK.out ⟨by omega, by omega⟩
          obtain ⟨q1, q2, q3⟩ := Qu.pl_is hok
          have V0 : Hid (V = (Qu.pl f p : Nat)) := Lib.hid (by rw [← EV.out]; exact Qu.pk_ok hok)
          obtain ⟨q, hq⟩ : ∃ q, Qu.pl f p = q := ⟨_, rfl⟩
          rw [hq] at q1 q2 q3 V0
          have Q1 := Lib.hid q1
          have Q2 := Lib.hid (Qu.hit_iff.1 q2)
          have Q3 := Lib.hid (fun y h => Qu.hit_not.1 (q3 y h))
          rw [ET.out] at Q2 Q3
          obtain ⟨L, hL⟩ : ∃ L, T * p = L := ⟨_, rfl⟩
          have hl1 : 0 ≤ T * p := Int.mul_nonneg ht0 (by omega)
          have hl2 : T * p ≤ 64 * 100 := Int.mul_le_mul ht64 (by omega) (by omega) (by decide)
          rw [hL] at hl1 hl2 Q2 Q3
          have f1 : IntKind.i64.wrap (T * p) = L := by rw [hL, IntKind.wrap_i64]; omega
          clear hok q1 q2 q3 hq hL
          have h00 : (0 : Nat) < 16 := by decide
          go_enter Try.func38, Try.ntmps38
          go_wp2_with (refine ld_row (by rfl) 49 _ rfl w.heap.size rfl _ _ _ _ HMK.out Try.underlying49 rfl (by kernel_rfl) ?_)
          refine (HR.out _).mono ?_
          rintro e w' ⟨rfl, hb⟩
          have H2 := Lib.hid (HMK.out.below hb (Nat.le_refl _))
          have B2 := Lib.hid (below_next HBA.out hb)
          clear hb
          go_wp2_with (refine ld_row (by rfl) 49 _ rfl w.heap.size rfl _ _ _ _ H2.out Try.underlying49 rfl (by kernel_rfl) ?_)
          refine (HT.out _).mono ?_
          rintro e w2 ⟨rfl, hb⟩
          have H3 := Lib.hid (H2.out.below hb (Nat.le_refl _))
          have B3 := Lib.hid (below_next B2.out hb)
          have hc0 := HB.cell H3.out h00
          obtain ⟨x, hx⟩ : ∃ x, f 0 = x := ⟨_, rfl⟩
          rw [hx] at hc0
          have HX := Lib.hid hx
          clear hb hx
          go_wp2
          go_loopw [5, 6] (fun b n wr => ∃ (j : Nat) (s : Int), b = .int .i64 j ∧ n = .int .i64 s ∧ Hid (Hs.su f (j + 1) = s) ∧ Hid (j ≤ q) ∧ Hid (HB wr w.heap.size f) ∧ Hid (Below w.heap.size w wr)) (fun b _ _ => 16 - (intOf b).toNat)
          case atStart => exact ⟨0, x, rfl, rfl, Lib.hid (by rw [Hs.su, Hs.su, HX.out]; omega), Lib.hid (Nat.zero_le _), H3, B3⟩
          case round =>
            obtain ⟨j, s, rfl, rfl, hs, hj, hh, hb⟩ := hrel
            have hs1 := Hs.su_small (f := f) (B := 64) (n := j + 1) (fun i hi => by have := HIN.out i (by have := hj.out; have := Q1.out; omega); omega)
            rw [hs.out] at hs1
            have hj16 : j < 16 := by have := hj.out; have := Q1.out; omega
            have f2 : IntKind.i64.wrap (100 * s) = 100 * s := by rw [IntKind.wrap_i64]; omega
            have JL := Lib.hid hj16
            clear hs1 hj16
            by_cases hlt : 100 * s < L
            · have hjq : j < q := by
                have h1 := hj.out
                have h2 := Q2.out
                apply Nat.lt_of_le_of_ne h1
                intro e
                subst e
                rw [hs.out] at h2
                omega
              have hk16 : j + 1 < 16 := by have := Q1.out; omega
              obtain ⟨k, hk⟩ : ∃ k, j + 1 = k := ⟨_, rfl⟩
              rw [hk] at hs hk16
              have hk' := HIN.out k hk16
              obtain ⟨y, hy⟩ : ∃ y, f k = y := ⟨_, rfl⟩
              have f3 : IntKind.i64.wrap ((j : Int) + 1) = (k : Int) := by rw [IntKind.wrap_i64]; omega
              have hsk := Hs.su_small (f := f) (B := 64) (n := k + 1) (fun i hi => by have := HIN.out i (by omega); omega)
              have es : Hs.su f (k + 1) = s + y := by rw [Hs.su, hs.out, hy]
              rw [es] at hsk
              have f4 : IntKind.i64.wrap (s + y) = s + y := by rw [IntKind.wrap_i64]; omega
              have ES := Lib.hid es
              have KQ := Lib.hid (show k ≤ q by omega)
              have HK := Lib.hid hk
              have HY := Lib.hid hy
              have HK16 := Lib.hid hk16
              clear hsk es hk' hjq hk hy
              go_wp2_with (refine ld_row (by rfl) 49 _ rfl w.heap.size rfl _ _ _ _ hh.out Try.underlying49 rfl (by kernel_rfl) ?_)
              refine (HT.out _).mono ?_
              rintro e w4 ⟨rfl, hb4⟩
              have H4 := Lib.hid (hh.out.below hb4 (Nat.le_refl _))
              have B4 := Lib.hid (below_next hb.out hb4)
              have hck := HB.cell H4.out hk16
              rw [HY.out] at hck
              clear hb4
              go_wp2
              go_roundw
              case rel => exact ⟨k, s + y, rfl, rfl, ES, KQ, H4, B4⟩
              case measure => simp [intOf]; have := HK.out; have := HK16.out; omega
            · have hjq : j = q := by
                have h1 := hj.out
                apply Nat.le_antisymm h1
                apply Nat.le_of_not_lt
                intro h2
                have h3 := Q3.out j h2
                rw [hs.out] at h3
                omega
              have V1 : Hid ((j : Int) = V) := Lib.hid (by rw [V0.out, hjq])
              clear hjq
              go_wp2_with (refine ld_row (by rfl) 49 _ rfl w.heap.size rfl _ _ _ _ hh.out Try.underlying49 rfl (by kernel_rfl) ?_)
              refine (HT.out _).mono ?_
              rintro e w4 ⟨rfl, hb4⟩
              go_wp2
              go_ret
              exact ⟨ret_i64 V1.out, below_next hb.out hb4⟩

set_option maxRecDepth 100000 in
theorem rof_any (f : Nat → Int) (p : Int) (w : World) :
    Calls Try.prog 21 #[.agg (hc f), .int .i64 p] w fun e w' => e = .returned (.tuple #[.int .u64 (Qu.ov f p : Nat), .bool (Qu.ok f p)]) ∧ Below w.heap.size w w' := by
  have HMK := Lib.hid (HB.made w f)
  have HBA := Lib.hid ((Below.refl _ w).alloc (Nat.le_refl _) (.cells (hc f) 49))
  have HP := Lib.hid (fun w => rplace_any f p w)
  have HH := Lib.hid (fun w => rhigh_any (Qu.pk f p) w)
  have E := Lib.hid (Qu.pk_ge f p)
  rw [Qu.ov_hi] at HH
  obtain ⟨V, hV⟩ : ∃ V, Qu.ov f p = V := ⟨_, rfl⟩
  obtain ⟨K, hK⟩ : ∃ K, Qu.pk f p = K := ⟨_, rfl⟩
  obtain ⟨b, hb⟩ : ∃ b, Qu.ok f p = b := ⟨_, rfl⟩
  rw [hV] at HH ⊢
  rw [hK] at HH HP E
  rw [hb] at E ⊢
  clear hV hK hb
  go_enter Try.func21, Try.ntmps21
  go_wp2_with (refine ld_row (by rfl) 49 _ rfl w.heap.size rfl _ _ _ _ HMK.out Try.underlying49 rfl (by kernel_rfl) ?_)
  refine (HP.out _).mono ?_
  rintro e w' ⟨rfl, hb⟩
  go_wp2_with fail
  refine (HH.out _).mono ?_
  rintro e w2 ⟨rfl, rfl⟩
  go_wp2
  go_ret2
  exact ⟨ret_of rfl E.out, below_next HBA.out hb⟩
end Go.Proofs.Ytbkbopaoeehfkaa
