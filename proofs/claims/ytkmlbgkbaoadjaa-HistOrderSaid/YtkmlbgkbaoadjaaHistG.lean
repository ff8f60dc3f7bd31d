/-
  The law HistBuckets: the bucket of every runtime, and each bucket's greatest one.
-/
import Derived.Test.YtkmlbgkbaoadjaaHistE
import Derived.Test.YtkmlbgkbaoadjaaChecked
import Derived.Test.YtkmlbgkbaoadjaaFrame
namespace Go.Proofs.Ytkmlbgkbaoadjaa
open Go.RowKit
open Go.ChangeShapes Go.WideShapes Go.ChangeAt
set_option linter.unusedVariables false
theorem bk_three : Hs.bk 3 = 2 := by decide
theorem bk_four : Hs.bk 4 = 3 := by decide
theorem hi_three : Hs.hi 3 = 7 := by decide
theorem right_nine : Hs.In (Hs.ad Hs.z 9) ∧ Hs.tot (Hs.ad Hs.z 9) = 1 := by
  have h := (Hs.rt_iff.1 (Hs.right_ad Hs.right_z 9).1).1
  refine ⟨h, ?_⟩
  rw [Hs.ad_more Hs.right_z (by decide), Hs.tot_up _ (Hs.bk_lt 9)]
  rfl
set_option maxHeartbeats 1000000 in
set_option maxRecDepth 100000 in
theorem hist_live (w : World) : Calls Try.prog 10 #[] w fun e w' => e = .returned (.bool true) ∧ Below w.heap.size w w' := by
  have c1 := fun w => bucket_any 3 (by decide) w
  have c2 := fun w => bucket_any 4 (by decide) w
  have c3 := fun w => high_any 3 w
  have c4 := fun w => high_any 15 w
  have c5 := fun w => add_any Hs.z 9 (by decide) w
  have c6 := fun w => total_any (Hs.ad Hs.z 9) (In.far right_nine.1) w
  rw [bk_three] at c1
  rw [bk_four] at c2
  rw [hi_three] at c3
  rw [Hs.hi_last] at c4
  rw [right_nine.2] at c6
  rw [show ((3 : Nat) : Int) = 3 from rfl, show ((2 : Nat) : Int) = 2 from rfl] at c1
  rw [show ((4 : Nat) : Int) = 4 from rfl, show ((3 : Nat) : Int) = 3 from rfl] at c2
  rw [show ((7 : Nat) : Int) = 7 from rfl] at c3
  rw [show ((18446744073709551615 : Nat) : Int) = 18446744073709551615 from rfl] at c4
  rw [show ((9 : Nat) : Int) = 9 from rfl] at c5
  obtain ⟨H, hH⟩ : ∃ H, Hs.ad Hs.z 9 = H := ⟨_, rfl⟩
  rw [hH] at c5 c6
  have C1 := Lib.hid c1
  have C2 := Lib.hid c2
  have C3 := Lib.hid c3
  have C4 := Lib.hid c4
  have C5 := Lib.hid c5
  have C6 := Lib.hid c6
  clear c1 c2 c3 c4 c5 c6 hH
  go_enter Try.func10, Try.ntmps10
  go_wp2_with fail
  refine (C1.out _).mono ?_
  rintro e w1 ⟨rfl, rfl⟩
  go_wp2_with fail
  refine (C2.out _).mono ?_
  rintro e w1 ⟨rfl, rfl⟩
  go_wp2_with fail
  refine (C3.out _).mono ?_
  rintro e w1 ⟨rfl, rfl⟩
  go_wp2_with fail
  refine (C4.out _).mono ?_
  rintro e w1 ⟨rfl, rfl⟩
  go_wp2_with fail
  refine (C5.out _).mono ?_
  rintro e w1 ⟨rfl, hb1⟩
  go_wp2_with fail
  refine (C6.out _).mono ?_
  rintro e w2 ⟨rfl, hb2⟩
  have hb := below_next hb1 hb2
  go_wp2
  go_ret
  exact ⟨rfl, hb⟩
namespace histBuckets
set_option maxHeartbeats 1000000 in
set_option maxRecDepth 100000 in
theorem walk (a : Int) (wa : (Lit.int .u64 a).wf = true) (b : Int) (wb : (Lit.int .i64 b).wf = true) (w : World) :
    Calls Try.prog 3 #[.int .u64 a, .int .i64 b] w fun e w' => e = .returned (.bool true) ∧ Below w.heap.size w w' := by
  obtain ⟨v, rfl, hv⟩ := u64_nat wa
  have c1 := fun w => bucket_any v hv w
  have c2 := fun w => rbucket_any v hv w
  have c3 := fun w => high_any b w
  have c4 := fun w => rhigh_any b w
  have c5 := fun w => high_any (Hs.bk v : Nat) w
  have c6 := fun w => high_any ((Hs.bk v : Nat) - 1) w
  have f1 : (v : Int) ≤ (Hs.hi (Hs.bk v : Nat) : Nat) := by have := Hs.in_hi hv; omega
  have f2 : (Hs.bk v : Int) ≠ 0 → ((Hs.hi ((Hs.bk v : Nat) - 1 : Int) : Nat) : Int) < v := fun h => by have := Hs.over_hi hv (by omega); omega
  have hk := Hs.bk_lt v
  obtain ⟨x, hx⟩ : ∃ x : Int, (v : Int) = x := ⟨_, rfl⟩
  obtain ⟨k, hk'⟩ : ∃ k : Int, (Hs.bk v : Int) = k := ⟨_, rfl⟩
  have hk0 : 0 ≤ k ∧ k < 16 := by omega
  rw [hx] at c1 c2 f1 f2 ⊢
  rw [hk'] at c1 c2 c5 c6 f1 f2
  obtain ⟨p, hp⟩ : ∃ p : Int, ((Hs.hi b : Nat) : Int) = p := ⟨_, rfl⟩
  rw [hp] at c3 c4
  obtain ⟨q, hq⟩ : ∃ q : Int, ((Hs.hi k : Nat) : Int) = q := ⟨_, rfl⟩
  rw [hq] at c5 f1
  obtain ⟨r, hr⟩ : ∃ r : Int, ((Hs.hi (k - 1) : Nat) : Int) = r := ⟨_, rfl⟩
  rw [hr] at c6 f2
  have C1 := Lib.hid c1
  have C2 := Lib.hid c2
  have C3 := Lib.hid c3
  have C4 := Lib.hid c4
  have C5 := Lib.hid c5
  have C6 := Lib.hid c6
  have f3 : IntKind.i64.wrap (k - 1) = k - 1 := by rw [IntKind.wrap_i64]; omega
  clear c1 c2 c3 c4 c5 c6 hk hx hk' hp hq hr hv wa wb hk0
  by_cases h0 : k = 0
  · subst h0
    clear f2 f3 C6
    go_enter Try.func3, Try.ntmps3
    go_wp2_with fail
    refine (C1.out _).mono ?_
    rintro e w1 ⟨rfl, rfl⟩
    go_wp2_with fail
    refine (C2.out _).mono ?_
    rintro e w1 ⟨rfl, rfl⟩
    go_wp2_with fail
    refine (C3.out _).mono ?_
    rintro e w1 ⟨rfl, rfl⟩
    go_wp2_with fail
    refine (C4.out _).mono ?_
    rintro e w1 ⟨rfl, rfl⟩
    go_wp2_with fail
    refine (C5.out _).mono ?_
    rintro e w1 ⟨rfl, rfl⟩
    go_wp2_with fail
    refine (hist_live _).mono ?_
    rintro e w1 ⟨rfl, hb⟩
    go_wp2
    go_ret
    exact ⟨rfl, hb⟩
  · have f4 := f2 h0
    have f5 : (k == 0) = false := by rw [beq_eq_false_iff_ne]; exact h0
    clear f2 h0
    go_enter Try.func3, Try.ntmps3
    go_wp2_with fail
    refine (C1.out _).mono ?_
    rintro e w1 ⟨rfl, rfl⟩
    go_wp2_with fail
    refine (C2.out _).mono ?_
    rintro e w1 ⟨rfl, rfl⟩
    go_wp2_with fail
    refine (C3.out _).mono ?_
    rintro e w1 ⟨rfl, rfl⟩
    go_wp2_with fail
    refine (C4.out _).mono ?_
    rintro e w1 ⟨rfl, rfl⟩
    go_wp2_with fail
    refine (C5.out _).mono ?_
    rintro e w1 ⟨rfl, rfl⟩
    go_wp2_with fail
    refine (C6.out _).mono ?_
    rintro e w1 ⟨rfl, rfl⟩
    go_wp2_with fail
    refine (hist_live _).mono ?_
    rintro e w1 ⟨rfl, hb⟩
    go_wp2
    go_ret
    exact ⟨rfl, hb⟩
theorem own : ownKnob Try.prog.godebug = none := by kernel_rfl
theorem laidOut : laidOutB Try.prog = true := by kernel_rfl
set_option maxRecDepth 100000 in
theorem contract (H : Type) (enc : TypeId × Value → H) (W : World) (base : Nat) (args : Array Value) (ds gs : List (DataW H)) (before : List MemPlace)
    (hval0 : ∀ (j : Nat) t v, Try.f3.params[j]? = some t → args[j]? = some v → Value.okWide Try.prog W .any base t v)
    (hW : DataW.Whole enc Try.prog Try.f3.params.toList Rows.histBucketsSpec.vars false W args.toList ds gs before) :
    Calls Try.prog 3 args W fun e W' => ∃ v, e = .returned v ∧ Rows.histBucketsSpec.post enc Try.prog Try.f3 false true false false W args v W' := by
  have hval : ∀ (j : Nat) t v, Try.f3.params[j]? = some t → args[j]? = some v → Value.okWide Try.prog W .any base t v := hval0
  clear hval0
  have hW' := hW
  obtain ⟨p, q, hA0, hV, rfl, hfz, hnd⟩ := hW
  have hA : DataW.TrodAll enc Try.prog W 0 (fun _ => true) true Try.f3.params.toList args.toList ds p := hA0
  rw [Try.params3] at hA hval
  obtain ⟨v0, vs0, d0, ds0, p0, q0, hargs, rfl, rfl, h0, r0⟩ := trodAll_cons hA
  obtain ⟨v1, vs1, d1, ds1, p1, q1, rfl, rfl, rfl, h1, r1⟩ := trodAll_cons r0
  obtain ⟨rfl, rfl, rfl⟩ := trodAll_nil r1
  obtain rfl : args = #[v0, v1] := by cases args; simp_all
  obtain ⟨rfl, rfl⟩ := trodVars_none hV
  obtain ⟨a0, rfl, rfl, rfl, w0⟩ := open_int Try.underlying22 (hval 0 22 v0 rfl rfl) h0
  obtain ⟨a1, rfl, rfl, rfl, w1⟩ := open_int Try.underlying3 (hval 1 3 v1 rfl rfl) h1
  clear hA0
  refine (walk a0 w0 a1 w1 W).mono fun e W' ⟨he, hb⟩ => ?_
  subst he
  exact ⟨_, rfl, law_post laidOut (by kernel_rfl) rfl Try.underlying4 rfl hW' rfl hb⟩

set_option maxRecDepth 100000 in
theorem lifted (os : Os) (started : os.Started) (H : Type) (enc : TypeId × Value → H) :
    ReturnsInHanded {} Try.checked os 3 .any (Rows.histBucketsSpec.pre6 enc Try.prog Try.f3 Rows.histBucketsRow.domain false) (Rows.histBucketsSpec.post enc Try.prog Try.f3 false true false false) := by
  refine returnsInHanded_of_change (C := Try.checked) own started (by kernel_rfl) Try.func3
    (ChangeSpec.witness6 (enc := enc) (C := Try.checked) false ⟨#[], #[.int .u64 0, .int .i64 0], []⟩ 8 (by kernel_rfl) (by kernel_rfl) (by kernel_rfl) (by kernel_rfl)) ?_
  intro W base args ds gs before hval0 hW _ _
  exact contract H enc W base args ds gs before hval0 hW

/-- THE STATEMENT -/
theorem proved : Rows.HistBucketsSaid :=
  OpenClaim.holds_of_wide 3 Try.f3 rfl rfl rfl rfl rfl rfl rfl ⟨rfl, rfl, rfl, rfl, rfl⟩ rfl rfl rfl rfl rfl (by kernel_rfl) Try.func3 (by kernel_rfl)
    (of_decide_eq_true (by kernel_rfl)) (by unfold Func.isWrapper; first | (rw [if_pos (by decide +kernel)]; kernel_rfl) | (rw [if_neg (by decide +kernel)]; exact ⟨rfl, rfl⟩))
    (fun os started H enc _ => lifted os started H enc)
end histBuckets
end Go.Proofs.Ytkmlbgkbaoadjaa
