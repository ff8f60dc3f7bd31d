/-
  The law QuantRises: a greater percentage never tells less.
-/
import Derived.Test.YtlgifjibedahhaaQuantD
import Derived.Test.YtlgifjibedahhaaHistO
namespace Go.Proofs.Ytlgifjibedahhaa
open Go.RowKit Bt Go.Deep
open Go.ChangeShapes Go.WideShapes Go.ChangeAt
set_option linter.unusedVariables false
namespace quantRises
set_option maxHeartbeats 4000000 in
set_option maxRecDepth 100000 in
theorem walk (f : Nat → Int) (a : Int) (wa : (Lit.int .i64 a).wf = true) (b : Int) (wb : (Lit.int .i64 b).wf = true) (w : World) :
    Calls Try.prog 4 #[.agg (hc f), .int .i64 a, .int .i64 b] w fun e w' => e = .returned (.bool true) ∧ Below w.heap.size w w' := by
  clear wa wb
  have HM := Lib.hid (HB.made w f)
  have B1 := Lib.hid ((Below.refl _ w).alloc (Nat.le_refl _) (.cells (hc f) 23))
  have H1 := Lib.hid (fun w => of_any f a w)
  have H2 := Lib.hid (fun w => of_any f b w)
  obtain ⟨X, hX⟩ : ∃ X : Int, ((Qu.ov f a : Nat) : Int) = X := ⟨_, rfl⟩
  obtain ⟨Y, hY⟩ : ∃ Y : Int, ((Qu.ov f b : Nat) : Int) = Y := ⟨_, rfl⟩
  obtain ⟨P, hP⟩ : ∃ P, Qu.ok f a = P := ⟨_, rfl⟩
  obtain ⟨Q, hQ⟩ : ∃ Q, Qu.ok f b = Q := ⟨_, rfl⟩
  rw [hX, hP] at H1
  rw [hY, hQ] at H2
  have EX := Lib.hid hX
  have EY := Lib.hid hY
  have EP := Lib.hid hP
  have EQ := Lib.hid hQ
  clear hX hY hP hQ
  go_enter Try.func4, Try.ntmps4
  go_wp2_with (refine ld_row (by rfl) 23 _ rfl w.heap.size rfl _ _ _ _ HM.out Try.underlying23 rfl (by kernel_rfl) ?_)
  refine (H1.out _).mono ?_
  rintro e w1 ⟨rfl, hb⟩
  have M1 := Lib.hid (HM.out.below hb (Nat.le_refl _))
  have B2 := Lib.hid (below_next B1.out hb)
  clear hb
  go_wp2_with (refine ld_row (by rfl) 23 _ rfl w.heap.size rfl _ _ _ _ M1.out Try.underlying23 rfl (by kernel_rfl) ?_)
  refine (H2.out _).mono ?_
  rintro e w2 ⟨rfl, hb⟩
  have M2 := Lib.hid (M1.out.below hb (Nat.le_refl _))
  have B3 := Lib.hid (below_next B2.out hb)
  clear hb
  cases P
  · go_wp2_with fail
    refine (quant_live _).mono ?_
    rintro e w3 ⟨rfl, hb⟩
    go_wp2
    go_ret
    exact ⟨rfl, below_next B3.out hb⟩
  cases Q
  · go_wp2_with fail
    refine (quant_live _).mono ?_
    rintro e w3 ⟨rfl, hb⟩
    go_wp2
    go_ret
    exact ⟨rfl, below_next B3.out hb⟩
  by_cases hab : b < a
  · go_wp2_with fail
    refine (quant_live _).mono ?_
    rintro e w3 ⟨rfl, hb⟩
    go_wp2
    go_ret
    exact ⟨rfl, below_next B3.out hb⟩
  obtain ⟨r1, r2, r3, r4⟩ := Qu.ok_iff.1 EP.out
  obtain ⟨hin, ht64⟩ := Hs.rt_iff.1 r1
  obtain ⟨q1, q2, q3⟩ := Qu.pl_is EP.out
  obtain ⟨p1, p2, p3⟩ := Qu.pl_is EQ.out
  have hup := Qu.pl_up EP.out EQ.out (by omega)
  have hxy : X ≤ Y := by
    have h := (Qu.hi_le q1 p1).2 hup
    have h1 := EX.out
    have h2 := EY.out
    rw [Qu.ov_ok EP.out] at h1
    rw [Qu.ov_ok EQ.out] at h2
    omega
  have HX : Hid (((Hs.hi ((Qu.pl f a : Nat) : Int) : Nat) : Int) = X) := Lib.hid (by rw [← EX.out, Qu.ov_ok EP.out])
  have HT := Lib.hid (fun w => total_any f (In.far hin) w)
  have hs := Qu.hit_iff.1 q2
  obtain ⟨q, hq⟩ : ∃ q, Qu.pl f a = q := ⟨_, rfl⟩
  obtain ⟨T, hT⟩ : ∃ T, Hs.tot f = T := ⟨_, rfl⟩
  rw [hT] at HT hs ht64 r2
  rw [hq] at hs q1 HX
  obtain ⟨L, hL⟩ : ∃ L, T * a = L := ⟨_, rfl⟩
  have hl1 : 0 ≤ T * a := Int.mul_nonneg (by omega) (by omega)
  have hl2 : T * a ≤ 64 * 100 := Int.mul_le_mul ht64 (by omega) (by omega) (by decide)
  rw [hL] at hl1 hl2 hs
  have f1 : IntKind.i64.wrap (T * a) = L := by rw [hL, IntKind.wrap_i64]; omega
  have HIN := Lib.hid hin
  have HQ1 := Lib.hid q1
  have HS := Lib.hid hs
  clear r1 r2 r3 r4 hin ht64 q1 q2 q3 p1 p2 p3 hup hs hq hT hL EX EY EP EQ
  go_wp2
  go_loopw [11, 12] (fun n i wr => ∃ (j : Nat) (s : Int), i = .int .i64 j ∧ n = .int .i64 s ∧ Hid (Qu.below f q j = s) ∧ Hid (j ≤ 16) ∧ Hid (HB wr w.heap.size f) ∧ Hid (Below w.heap.size w wr)) (fun _ i _ => 16 - (intOf i).toNat)
  case atStart => exact ⟨0, 0, rfl, rfl, Lib.hid (by unfold Qu.below; rw [Nat.zero_min]; rfl), Lib.hid (by decide), M2, B3⟩
  case round =>
    obtain ⟨j, s, rfl, rfl, hs, hj, hh, hb⟩ := hrel
    by_cases hlt : j < 16
    · have HH := Lib.hid (fun w => high_any (j : Nat) w)
      have hle := Qu.hi_le hlt HQ1.out
      have hx := HX.out
      obtain ⟨o, ho⟩ : ∃ o : Int, ((Hs.hi ((j : Nat) : Int) : Nat) : Int) = o := ⟨_, rfl⟩
      rw [ho] at HH
      have hcj := HB.cell hh.out hlt
      obtain ⟨y, hy⟩ : ∃ y, f j = y := ⟨_, rfl⟩
      rw [hy] at hcj
      have f2 : IntKind.i64.wrap ((j : Int) + 1) = ((j + 1 : Nat) : Int) := by rw [IntKind.wrap_i64]; omega
      have HL := Lib.hid hlt
      by_cases hjq : j ≤ q
      · have hox : o ≤ X := by have := hle.2 hjq; omega
        have e := Qu.below_yes (f := f) hjq
        rw [hs.out, hy] at e
        have hsm := Hs.su_small (f := f) (B := 64) (n := min (j + 1) (q + 1)) (fun i hi => by have := HIN.out i (by omega); omega)
        have e2 : Hs.su f (min (j + 1) (q + 1)) = s + y := e
        rw [e2] at hsm
        have f3 : IntKind.i64.wrap (s + y) = s + y := by rw [IntKind.wrap_i64]; omega
        have E := Lib.hid e
        clear hle hx ho hjq e e2 hsm hy hj
        go_wp2_with fail
        refine (HH.out _).mono ?_
        rintro e w3 ⟨rfl, rfl⟩
        go_wp2
        go_roundw
        case rel => exact ⟨j + 1, s + y, rfl, rfl, E, Lib.hid HL.out, hh, hb⟩
        case measure => simp [intOf]; have := HL.out; omega
      · have hox : X < o := by
          have h : ¬ Hs.hi ((j : Nat) : Int) ≤ Hs.hi ((q : Nat) : Int) := fun h => hjq (hle.1 h)
          omega
        have E : Hid (Qu.below f q (j + 1) = s) := Lib.hid (by rw [Qu.below_no (by omega)]; exact hs.out)
        clear hle hx ho hjq hy hj
        go_wp2_with fail
        refine (HH.out _).mono ?_
        rintro e w3 ⟨rfl, rfl⟩
        go_wp2
        go_roundw
        case rel => exact ⟨j + 1, s, rfl, rfl, E, Lib.hid HL.out, hh, hb⟩
        case measure => simp [intOf]; have := HL.out; omega
    · have he : j = 16 := by have := hj.out; omega
      subst he
      have e := hs.out
      rw [Qu.below_all HQ1.out] at e
      have hsm := Hs.su_small (f := f) (B := 64) (n := q + 1) (fun i hi => by have := HIN.out i (by have := HQ1.out; omega); omega)
      have h100 := HS.out
      rw [e] at h100 hsm
      have f2 : IntKind.i64.wrap (100 * s) = 100 * s := by have := HQ1.out; rw [IntKind.wrap_i64]; omega
      have hge : L ≤ 100 * s := by omega
      clear e hsm h100 hlt hj
      go_wp2_with (refine ld_row (by rfl) 23 _ rfl w.heap.size rfl _ _ _ _ hh.out Try.underlying23 rfl (by kernel_rfl) ?_)
      refine (HT.out _).mono ?_
      rintro e w3 ⟨rfl, hb3⟩
      have B4 := Lib.hid (below_next hb.out hb3)
      clear hb3
      go_wp2_with fail
      refine (quant_live _).mono ?_
      rintro e w4 ⟨rfl, hb4⟩
      go_wp2
      go_ret
      exact ⟨rfl, below_next B4.out hb4⟩
theorem own : ownKnob Try.prog.godebug = none := by kernel_rfl
theorem laidOut : laidOutB Try.prog = true := by kernel_rfl
set_option maxRecDepth 100000 in
theorem contract (H : Type) (enc : TypeId × Value → H) (W : World) (base : Nat) (args : Array Value) (ds gs : List (DataW H)) (before : List MemPlace)
    (hval0 : ∀ (j : Nat) t v, Try.f4.params[j]? = some t → args[j]? = some v → Value.okWide Try.prog W .any base t v)
    (hW : DataW.Whole enc Try.prog Try.f4.params.toList Rows.quantRisesSpec.vars false W args.toList ds gs before) :
    Calls Try.prog 4 args W fun e W' => ∃ v, e = .returned v ∧ Rows.quantRisesSpec.post enc Try.prog Try.f4 false true false false W args v W' := by
  have hval : ∀ (j : Nat) t v, Try.f4.params[j]? = some t → args[j]? = some v → Value.okWide Try.prog W .any base t v := hval0
  clear hval0
  have hW' := hW
  obtain ⟨p, q, hA0, hV, rfl, hfz, hnd⟩ := hW
  have hA : DataW.TrodAll enc Try.prog W 0 (fun _ => true) true Try.f4.params.toList args.toList ds p := hA0
  rw [Try.params4] at hA hval
  obtain ⟨v0, vs0, d0, ds0, p0, q0, hargs, rfl, rfl, h0, r0⟩ := trodAll_cons hA
  obtain ⟨v1, vs1, d1, ds1, p1, q1, rfl, rfl, rfl, h1, r1⟩ := trodAll_cons r0
  obtain ⟨v2, vs2, d2, ds2, p2, q2, rfl, rfl, rfl, h2, r2⟩ := trodAll_cons r1
  obtain ⟨rfl, rfl, rfl⟩ := trodAll_nil r2
  obtain rfl : args = #[v0, v1, v2] := by cases args; simp_all
  obtain ⟨rfl, rfl⟩ := trodVars_none hV
  obtain ⟨f0, rfl⟩ := hist_open (hval 0 23 v0 rfl rfl) h0
  obtain ⟨a1, rfl, rfl, rfl, w1⟩ := open_int Try.underlying3 (hval 1 3 v1 rfl rfl) h1
  obtain ⟨a2, rfl, rfl, rfl, w2⟩ := open_int Try.underlying3 (hval 2 3 v2 rfl rfl) h2
  clear hA0
  refine (walk f0 a1 w1 a2 w2 W).mono fun e W' ⟨he, hb⟩ => ?_
  subst he
  exact ⟨_, rfl, law_post laidOut (by kernel_rfl) rfl Try.underlying4 rfl hW' rfl hb⟩

set_option maxRecDepth 100000 in
theorem lifted (os : Os) (started : os.Started) (H : Type) (enc : TypeId × Value → H) :
    ReturnsInHanded {} Try.checked os 4 .any (Rows.quantRisesSpec.pre6 enc Try.prog Try.f4 Rows.quantRisesRow.domain false) (Rows.quantRisesSpec.post enc Try.prog Try.f4 false true false false) := by
  refine returnsInHanded_of_change (C := Try.checked) own started (by kernel_rfl) Try.func4
    (ChangeSpec.witness6 (enc := enc) (C := Try.checked) false ⟨#[], #[.agg (hc Hs.z), .int .i64 0, .int .i64 0], []⟩ 8 (by kernel_rfl) (by kernel_rfl) (by kernel_rfl) (by kernel_rfl)) ?_
  intro W base args ds gs before hval0 hW _ _
  exact contract H enc W base args ds gs before hval0 hW

/-- THE STATEMENT -/
theorem proved : Rows.QuantRisesSaid :=
  OpenClaim.holds_of_wide 4 Try.f4 rfl rfl rfl rfl rfl rfl rfl ⟨rfl, rfl, rfl, rfl, rfl⟩ rfl rfl rfl rfl rfl (by kernel_rfl) Try.func4 (by kernel_rfl)
    (of_decide_eq_true (by kernel_rfl)) (by unfold Func.isWrapper; first | (rw [if_pos (by decide +kernel)]; kernel_rfl) | (rw [if_neg (by decide +kernel)]; exact ⟨rfl, rfl⟩))
    (fun os started H enc _ => lifted os started H enc)
end quantRises
end Go.Proofs.Ytlgifjibedahhaa
