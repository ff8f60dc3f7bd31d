/-
  The law TextHeads: the first runes of every text, as its bytes; what is left has the others.
-/
import Derived.Test.YtlgcmmnlgdhbhaaTextD
namespace Go.Proofs.Ytlgcmmnlgdhbhaa
open Go.RowKit Bt
open Go.ChangeShapes Go.WideShapes Go.ChangeAt
open Go.ChangeMaps (open_string shut_string)
set_option linter.unusedVariables false

namespace textHeads
set_option maxHeartbeats 400000 in
theorem walk_big (s : ByteArray) (n : Int) (h : 1000 < s.size) (hs : s.size ≤ 9223372036854775807) (w : World) :
    Calls Try.prog 5 #[.string s, .int .i64 n] w fun e w' => e = .returned (.bool true) ∧ Below w.heap.size w w' := by
  go_enter Try.func5, Try.ntmps5
  go_wp2_with (go_at_call 9; refine (tx.live_any _).mono ?_; rintro e w' ⟨rfl, hb3⟩)
  go_ret
  exact ⟨rfl, hb3⟩
theorem ext_data (s : ByteArray) (a b : Nat) : (s.extract a b).data.toList = (s.data.toList.drop a).take (b - a) := by
  rw [ByteArray.data_extract, Array.toList_extract]
set_option maxHeartbeats 1000000 in
theorem walk_small (s : ByteArray) (n : Int) (h : s.size ≤ 1000) (h0 : -9223372036854775808 ≤ n) (h1 : n ≤ 9223372036854775807) (w : World) :
    Calls Try.prog 5 #[.string s, .int .i64 n] w fun e w' => e = .returned (.bool true) ∧ Below w.heap.size w w' := by
  have c1 := fun w => head_any s n w (by omega) h0 h1
  have c2 := fun w => rhead_any s n w (by omega) h0 h1
  have hle := Tx.hdn_le n.toNat s.data.toList
  rw [ba_len] at hle
  obtain ⟨H, hH⟩ : ∃ H, Tx.hdn n.toNat s.data.toList = H := ⟨_, rfl⟩
  have ht := Tx.runes_take n.toNat s.data.toList
  have hd := Tx.runes_drop n.toNat s.data.toList
  rw [hH] at c1 c2 hle ht hd
  obtain ⟨P, hP⟩ : ∃ P, s.extract 0 H = P := ⟨_, rfl⟩
  have hPs : P.size = H := by rw [← hP, ByteArray.size_extract]; omega
  have hPd : P.data.toList = s.data.toList.take H := by rw [← hP, ext_data, List.drop_zero, Nat.sub_zero]
  obtain ⟨R, hR⟩ : ∃ R, s.extract H s.size = R := ⟨_, rfl⟩
  have hRs : R.size ≤ s.size := by rw [← hR, ByteArray.size_extract]; omega
  have hRd : R.data.toList = s.data.toList.drop H := by rw [← hR, ext_data, List.take_of_length_le (by rw [List.length_drop, ba_len]; omega)]
  have c3 := fun w => count_any P w (by omega)
  have c4 := fun w => count_any s w (by omega)
  have c5 := fun w => count_any R w (by omega)
  rw [hPd, ht, List.length_take] at c3
  rw [hRd, hd, List.length_drop] at c5
  have hT : (Tx.runes s.data.toList).length ≤ s.size := by have := (Tx.runes_len s.data.toList).1; rwa [ba_len] at this
  obtain ⟨T, hTe⟩ : ∃ T, (Tx.runes s.data.toList).length = T := ⟨_, rfl⟩
  rw [hTe] at c3 c4 c5 hT
  obtain ⟨A, hA⟩ : ∃ A, min n.toNat T = A := ⟨_, rfl⟩
  have hB : T - n.toNat = T - A := by omega
  rw [hA] at c3
  rw [hB] at c5
  obtain ⟨B, hBe⟩ : ∃ B, T - A = B := ⟨_, rfl⟩
  rw [hBe] at c5
  rw [hP] at c1 c2
  rw [← hPs] at hP hR hle
  have hmm : ((A : Int) == max 0 (min n (T : Int))) = true := by rw [beq_iff_eq]; omega
  have hsum : ((A : Int) + (B : Int) == (T : Int)) = true := by rw [beq_iff_eq]; omega
  have hA2 : A ≤ 1000 := by omega
  have hB2 : B ≤ 1000 := by omega
  have hwr : IntKind.i64.wrap ((A : Int) + (B : Int)) = (A : Int) + (B : Int) := IntWalk.i64_in _ ⟨by omega, by omega⟩
  clear hTe hd ht hPd hRd hH hPs hBe hB hA
  have C1 := Lib.hid c1
  have C2 := Lib.hid c2
  have C3 := Lib.hid c3
  have C4 := Lib.hid c4
  have C5 := Lib.hid c5
  clear c1 c2 c3 c4 c5
  go_enter Try.func5, Try.ntmps5
  go_wp2_with fail
  refine (C1.out _).mono ?_
  rintro e w1 ⟨rfl, hb1⟩
  go_wp2_with fail
  have hs2 : ∀ w, (Instr.slice 9 (.string s) none (some (.int .i64 (P.size : Int))) none).run Try.prog w = .ok (.string P) w := fun w => by go_simp
  have hs3 : ∀ w, (Instr.slice 9 (.string s) (some (.int .i64 (P.size : Int))) none none).run Try.prog w = .ok (.string R) w := fun w => by go_simp
  refine wp_region_text (S := (fun w' => Below w.heap.size w w')) (by kernel_rfl) ?_ ?_
  · repeat (first | exact Below.refl _ _ | refine below_next ?_ (by assumption) | refine Below.drew ?_)
  repeat (first
    | (refine anyR_value (v := ?_) (by kernel_rfl) (by rfl) (fun _ _ _ h => h) (fun w1 hS => ?_) ?_
       rotate_left
       · go_simp
         with_reducible rfl
       simp only [Act.put, List.setIfInBounds_toArray, List.set_cons_zero, List.set_cons_succ])
    | (refine anyR_not (by kernel_rfl) (by rfl) (fun _ _ _ h => h) ?_
       simp only [Act.put, List.setIfInBounds_toArray, List.set_cons_zero, List.set_cons_succ])
    | (refine anyR_call (v := ?_) (f := ?_) (args := ?_) (by kernel_rfl) (by rfl) (fun _ _ _ h => h) (fun w1 hS => ?_) (fun w1 hS => ?_) ?_
       rotate_left 3
       · go_simp
         (try constructor) <;> with_reducible rfl
       · first
           | (with_reducible refine ((tx.live_any _).mono ?_); rintro e w' ⟨rfl, hb⟩; refine ⟨?_, below_next hS hb⟩; with_reducible rfl)
           | (with_reducible refine ((C2.out _).mono ?_); rintro e w' ⟨rfl, hb⟩; refine ⟨?_, below_next hS hb⟩; with_reducible rfl)
           | (with_reducible refine ((C3.out _).mono ?_); rintro e w' ⟨rfl, hb⟩; refine ⟨?_, below_next hS hb⟩; with_reducible rfl)
           | (with_reducible refine ((C4.out _).mono ?_); rintro e w' ⟨rfl, hb⟩; refine ⟨?_, below_next hS hb⟩; with_reducible rfl)
           | (with_reducible refine ((C5.out _).mono ?_); rintro e w' ⟨rfl, hb⟩; refine ⟨?_, below_next hS hb⟩; with_reducible rfl)
       simp only [Act.put, List.setIfInBounds_toArray, List.set_cons_zero, List.set_cons_succ])
    | refine anyR_done (by kernel_rfl) (fun w1 hS => ?_))
  go_wp2_with fail
  go_ret
  exact ⟨rfl, hS⟩
theorem walk (a0 : ByteArray) (w0 : a0.size ≤ maxLen) (a1 : Int) (w1 : (Lit.int .i64 a1).wf = true) (w : World) :
    Calls Try.prog 5 #[.string a0, .int .i64 a1] w fun e w' => e = .returned (.bool true) ∧ Below w.heap.size w w' := by
  have hb := i64_bounds w1
  unfold maxLen at w0
  by_cases h : 1000 < a0.size
  · exact walk_big a0 a1 h w0 w
  · exact walk_small a0 a1 (by omega) hb.1 hb.2 w
theorem own : ownKnob Try.prog.godebug = none := by kernel_rfl
theorem laidOut : laidOutB Try.prog = true := by kernel_rfl
set_option maxRecDepth 100000 in
theorem contract (H : Type) (enc : TypeId × Value → H) (W : World) (base : Nat) (args : Array Value) (ds gs : List (DataW H)) (before : List MemPlace)
    (hval0 : ∀ (j : Nat) t v, Try.f5.params[j]? = some t → args[j]? = some v → Value.okWide Try.prog W .any base t v)
    (hW : DataW.Whole enc Try.prog Try.f5.params.toList Rows.textHeadsSpec.vars false W args.toList ds gs before) :
    Calls Try.prog 5 args W fun e W' => ∃ v, e = .returned v ∧ Rows.textHeadsSpec.post enc Try.prog Try.f5 false true false false W args v W' := by
  have hval : ∀ (j : Nat) t v, Try.f5.params[j]? = some t → args[j]? = some v → Value.okWide Try.prog W .any base t v := hval0
  clear hval0
  have hW' := hW
  obtain ⟨p, q, hA0, hV, rfl, hfz, hnd⟩ := hW
  have hA : DataW.TrodAll enc Try.prog W 0 (fun _ => true) true Try.f5.params.toList args.toList ds p := hA0
  rw [Try.params5] at hA hval
  obtain ⟨v0, vs0, d0, ds0, p0, q0, hargs, rfl, rfl, h0, r0⟩ := trodAll_cons hA
  obtain ⟨v1, vs1, d1, ds1, p1, q1, rfl, rfl, rfl, h1, r1⟩ := trodAll_cons r0
  obtain ⟨rfl, rfl, rfl⟩ := trodAll_nil r1
  obtain rfl : args = #[v0, v1] := by cases args; simp_all
  obtain ⟨rfl, rfl⟩ := trodVars_none hV
  obtain ⟨a0, rfl, rfl, rfl, w0⟩ := open_string Try.underlying9 (hval 0 9 v0 rfl rfl) h0
  obtain ⟨a1, rfl, rfl, rfl, w1⟩ := open_int Try.underlying3 (hval 1 3 v1 rfl rfl) h1
  clear hA0
  refine (walk a0 w0 a1 w1 W).mono fun e W' ⟨he, hb⟩ => ?_
  subst he
  exact ⟨_, rfl, law_post laidOut (by kernel_rfl) rfl Try.underlying4 rfl hW' rfl hb⟩

set_option maxRecDepth 100000 in
theorem lifted (os : Os) (started : os.Started) (H : Type) (enc : TypeId × Value → H) :
    ReturnsInHanded {} Try.checked os 5 .any (Rows.textHeadsSpec.pre6 enc Try.prog Try.f5 Rows.textHeadsRow.domain false) (Rows.textHeadsSpec.post enc Try.prog Try.f5 false true false false) := by
  refine returnsInHanded_of_change (C := Try.checked) own started (by kernel_rfl) Try.func5
    (ChangeSpec.witness6 (enc := enc) (C := Try.checked) false ⟨#[], #[.string ByteArray.empty, .int .i64 0], []⟩ 8 (by kernel_rfl) (by kernel_rfl) (by kernel_rfl) (by kernel_rfl)) ?_
  intro W base args ds gs before hval0 hW _ _
  exact contract H enc W base args ds gs before hval0 hW

/-- THE STATEMENT -/
theorem proved : Rows.TextHeadsSaid :=
  OpenClaim.holds_of_wide 5 Try.f5 rfl rfl rfl rfl rfl rfl rfl ⟨rfl, rfl, rfl, rfl, rfl⟩ rfl rfl rfl rfl rfl (by kernel_rfl) Try.func5 (by kernel_rfl)
    (of_decide_eq_true (by kernel_rfl)) (by unfold Func.isWrapper; first | (rw [if_pos (by decide +kernel)]; kernel_rfl) | (rw [if_neg (by decide +kernel)]; exact ⟨rfl, rfl⟩))
    (fun os started H enc _ => lifted os started H enc)
end textHeads
end Go.Proofs.Ytlgcmmnlgdhbhaa
