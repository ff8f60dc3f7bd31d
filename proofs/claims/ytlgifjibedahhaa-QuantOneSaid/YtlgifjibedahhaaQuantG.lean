/-
  The law QuantOne: of one runtime alone what is told is its bucket's greatest one.
-/
import Derived.Test.YtlgifjibedahhaaQuantD
import Derived.Test.YtlgifjibedahhaaHistO
namespace Go.Proofs.Ytlgifjibedahhaa
open Go.RowKit Bt Go.Deep
open Go.ChangeShapes Go.WideShapes Go.ChangeAt
set_option linter.unusedVariables false
namespace quantOne
set_option maxHeartbeats 4000000 in
set_option maxRecDepth 100000 in
theorem walk (a : Int) (wa : (Lit.int .u64 a).wf = true) (p : Int) (wp : (Lit.int .i64 p).wf = true) (w : World) :
    Calls Try.prog 5 #[.int .u64 a, .int .i64 p] w fun e w' => e = .returned (.bool true) ∧ Below w.heap.size w w' := by
  obtain ⟨v, rfl, hv⟩ := u64_nat wa
  have HA := Lib.hid (fun w => add_any Hs.z v hv w)
  have HO := Lib.hid (fun w => of_any (Hs.ad Hs.z v) p w)
  have HBK := Lib.hid (fun w => bucket_any v hv w)
  have HH := Lib.hid (fun w => high_any (Hs.bk v : Nat) w)
  have hok := Qu.ok_one v p
  have hov : 1 ≤ p ∧ p ≤ 100 → Qu.ov (Hs.ad Hs.z v) p = Hs.hi (Hs.bk v : Nat) := fun h => by
    rw [Qu.ov_ok (by rw [hok]; exact decide_eq_true h), Qu.pl_one v h.1 h.2]
  have hno : ¬ (1 ≤ p ∧ p ≤ 100) → Qu.ov (Hs.ad Hs.z v) p = 0 := fun h => Qu.ov_no (by rw [hok]; exact decide_eq_false h)
  obtain ⟨V, hV⟩ : ∃ V : Int, (v : Int) = V := ⟨_, rfl⟩
  obtain ⟨k, hk⟩ : ∃ k : Int, ((Hs.bk v : Nat) : Int) = k := ⟨_, rfl⟩
  rw [hk] at HBK HH hov
  rw [hV] at HA HBK ⊢
  rw [hok] at HO
  obtain ⟨O, hO⟩ : ∃ O, Qu.ov (Hs.ad Hs.z v) p = O := ⟨_, rfl⟩
  rw [hO] at HO hov hno
  obtain ⟨g, hg⟩ : ∃ g, Hs.ad Hs.z v = g := ⟨_, rfl⟩
  rw [hg] at HA HO
  obtain ⟨m, hm⟩ : ∃ m, Hs.hi k = m := ⟨_, rfl⟩
  rw [hm] at HH hov
  have HOV := Lib.hid hov
  have HNO := Lib.hid hno
  clear hov hno hok hV hk hO hg hm hv wa wp
  by_cases h1 : p < 1
  · have e := HNO.out (by omega)
    have d : decide (1 ≤ p ∧ p ≤ 100) = false := decide_eq_false (by omega)
    subst e
    rw [d, show ((0 : Nat) : Int) = 0 from rfl] at HO
    clear d HNO HOV
    go_enter Try.func5, Try.ntmps5
    go_wp2_with fail
    refine (HA.out _).mono ?_
    rintro e w1 ⟨rfl, hb1⟩
    go_wp2_with fail
    refine (HO.out _).mono ?_
    rintro e w2 ⟨rfl, hb2⟩
    have B2 := Lib.hid (below_next hb1 hb2)
    clear hb1 hb2
    go_wp2_with fail
    refine (quant_live _).mono ?_
    rintro e w3 ⟨rfl, hb3⟩
    go_wp2
    go_ret
    exact ⟨rfl, below_next B2.out hb3⟩
  by_cases h2 : 100 < p
  · have e := HNO.out (by omega)
    have d : decide (1 ≤ p ∧ p ≤ 100) = false := decide_eq_false (by omega)
    subst e
    rw [d, show ((0 : Nat) : Int) = 0 from rfl] at HO
    clear d HNO HOV
    go_enter Try.func5, Try.ntmps5
    go_wp2_with fail
    refine (HA.out _).mono ?_
    rintro e w1 ⟨rfl, hb1⟩
    go_wp2_with fail
    refine (HO.out _).mono ?_
    rintro e w2 ⟨rfl, hb2⟩
    have B2 := Lib.hid (below_next hb1 hb2)
    clear hb1 hb2
    go_wp2_with fail
    refine (quant_live _).mono ?_
    rintro e w3 ⟨rfl, hb3⟩
    go_wp2
    go_ret
    exact ⟨rfl, below_next B2.out hb3⟩
  have e := HOV.out (by omega)
  have d : decide (1 ≤ p ∧ p ≤ 100) = true := decide_eq_true (by omega)
  subst e
  obtain ⟨M, hM⟩ : ∃ M : Int, (O : Int) = M := ⟨_, rfl⟩
  rw [d, hM] at HO
  rw [hM] at HH
  clear d HNO HOV hM
  have e1 : (M == M) = true := by simp
  go_enter Try.func5, Try.ntmps5
  go_wp2_with fail
  refine (HA.out _).mono ?_
  rintro e w1 ⟨rfl, hb1⟩
  go_wp2_with fail
  refine (HO.out _).mono ?_
  rintro e w2 ⟨rfl, hb2⟩
  have B2 := Lib.hid (below_next hb1 hb2)
  clear hb1 hb2
  go_wp2_with fail
  refine (HBK.out _).mono ?_
  rintro e w3 ⟨rfl, rfl⟩
  go_wp2_with fail
  refine (HH.out _).mono ?_
  rintro e w3 ⟨rfl, rfl⟩
  go_wp2_with fail
  refine (quant_live _).mono ?_
  rintro e w3 ⟨rfl, hb3⟩
  go_wp2
  go_ret
  exact ⟨rfl, below_next B2.out hb3⟩
theorem own : ownKnob Try.prog.godebug = none := by kernel_rfl
theorem laidOut : laidOutB Try.prog = true := by kernel_rfl
set_option maxRecDepth 100000 in
theorem contract (H : Type) (enc : TypeId × Value → H) (W : World) (base : Nat) (args : Array Value) (ds gs : List (DataW H)) (before : List MemPlace)
    (hval0 : ∀ (j : Nat) t v, Try.f5.params[j]? = some t → args[j]? = some v → Value.okWide Try.prog W .any base t v)
    (hW : DataW.Whole enc Try.prog Try.f5.params.toList Rows.quantOneSpec.vars false W args.toList ds gs before) :
    Calls Try.prog 5 args W fun e W' => ∃ v, e = .returned v ∧ Rows.quantOneSpec.post enc Try.prog Try.f5 false true false false W args v W' := by
  have hval : ∀ (j : Nat) t v, Try.f5.params[j]? = some t → args[j]? = some v → Value.okWide Try.prog W .any base t v := hval0
  clear hval0
  have hW' := hW
  obtain ⟨p, q, hA0, hV, rfl, hfz, hnd⟩ := hW
  have hA : DataW.TrodAll enc Try.prog W 0 (fun _ => true) true Try.f5.params.toList args.toList ds p := hA0
  rw [Try.params5] at hA hval
  obtain ⟨v0, vs0, d0, ds0, p0, q0, hargs, rfl, rfl, h0, r0⟩ := trodAll_cons hA
  obtain ⟨v1, vs1, d1, ds1, p1, q1, rfl, rfl, rfl, h1, r1⟩ := trodAll_cons r0
  obtain ⟨rfl, rfl, rfl⟩ := trodAll_nil r1
  obtain rfl : args = #[v0, v1] := by cases args; simp_all
  obtain ⟨rfl, rfl⟩ := trodVars_none hV
  obtain ⟨a0, rfl, rfl, rfl, w0⟩ := open_int Try.underlying27 (hval 0 27 v0 rfl rfl) h0
  obtain ⟨a1, rfl, rfl, rfl, w1⟩ := open_int Try.underlying3 (hval 1 3 v1 rfl rfl) h1
  clear hA0
  refine (walk a0 w0 a1 w1 W).mono fun e W' ⟨he, hb⟩ => ?_
  subst he
  exact ⟨_, rfl, law_post laidOut (by kernel_rfl) rfl Try.underlying4 rfl hW' rfl hb⟩

set_option maxRecDepth 100000 in
theorem lifted (os : Os) (started : os.Started) (H : Type) (enc : TypeId × Value → H) :
    ReturnsInHanded {} Try.checked os 5 .any (Rows.quantOneSpec.pre6 enc Try.prog Try.f5 Rows.quantOneRow.domain false) (Rows.quantOneSpec.post enc Try.prog Try.f5 false true false false) := by
  refine returnsInHanded_of_change (C := Try.checked) own started (by kernel_rfl) Try.func5
    (ChangeSpec.witness6 (enc := enc) (C := Try.checked) false ⟨#[], #[.int .u64 0, .int .i64 0], []⟩ 8 (by kernel_rfl) (by kernel_rfl) (by kernel_rfl) (by kernel_rfl)) ?_
  intro W base args ds gs before hval0 hW _ _
  exact contract H enc W base args ds gs before hval0 hW

/-- THE STATEMENT -/
theorem proved : Rows.QuantOneSaid :=
  OpenClaim.holds_of_wide 5 Try.f5 rfl rfl rfl rfl rfl rfl rfl ⟨rfl, rfl, rfl, rfl, rfl⟩ rfl rfl rfl rfl rfl (by kernel_rfl) Try.func5 (by kernel_rfl)
    (of_decide_eq_true (by kernel_rfl)) (by unfold Func.isWrapper; first | (rw [if_pos (by decide +kernel)]; kernel_rfl) | (rw [if_neg (by decide +kernel)]; exact ⟨rfl, rfl⟩))
    (fun os started H enc _ => lifted os started H enc)
end quantOne
end Go.Proofs.Ytlgifjibedahhaa
