/-
  The laws OctetChains and OctetTexts: numbers as chains and texts with their lengths, written and read.
-/
import Derived.Test.YtkfcjlemneieiaaOctetF
import Derived.Test.YtkfcjlemneieiaaRegion
namespace Go.Proofs.Ytkfcjlemneieiaa
open Go.RowKit Bt
open Go.ChangeShapes Go.WideShapes Go.ChangeAt
open Go.ChangeMaps (open_string shut_string)
set_option linter.unusedVariables false

theorem ba_cat (a : List UInt8) (s : ByteArray) : ((⟨a.toArray⟩ : ByteArray) ++ s).data.toList = a ++ s.data.toList := by
  rw [ByteArray.data_append, Array.toList_append]
theorem ba_size_list (a : List UInt8) : (⟨a.toArray⟩ : ByteArray).size = a.length := by
  show a.toArray.size = _
  simp

namespace octetChains
set_option maxHeartbeats 400000 in
set_option maxRecDepth 100000 in
theorem walk_big (v : Nat) (s t : ByteArray) (h : 1000 < s.size ∨ 1000 < t.size) (hs : s.size ≤ 9223372036854775807) (ht : t.size ≤ 9223372036854775807) (w : World) :
    Calls Try.prog 4 #[.int .u64 v, .string s, .string t] w fun e w' => e = .returned (.bool true) ∧ Below w.heap.size w w' := by
  rcases h with h | h
  all_goals
    go_enter Try.func4, Try.ntmps4
    go_wp2_with (go_at_call 12; refine (live_any _).mono ?_; rintro e w' ⟨rfl, hb3⟩)
    all_goals go_ret
    all_goals exact ⟨rfl, hb3⟩
set_option maxHeartbeats 1000000 in
set_option maxRecDepth 100000 in
theorem walk_small (v : Nat) (s t : ByteArray) (hv : v < 18446744073709551616) (h1 : s.size ≤ 1000) (h2 : t.size ≤ 1000) (w : World) :
    Calls Try.prog 4 #[.int .u64 v, .string s, .string t] w fun e w' => e = .returned (.bool true) ∧ Below w.heap.size w w' := by
  have hl := chain_len64 hv
  have c1 := fun w => unchain_any s w (by omega)
  have c2 := fun w => runchain_any s w (by omega)
  have c3 := fun w => chain_any v w hv
  have c4 := fun w => rchain_any v w hv
  have c5 := fun w => unchain_any ((⟨(chain v).toArray⟩ : ByteArray) ++ t) w (by rw [ByteArray.size_append, ba_size_list]; omega)
  simp only [ba_cat, unch_chain hv] at c5
  have hbd := unch_bd s.data.toList
  obtain ⟨⟨a, n, f⟩, hu⟩ : ∃ t, unch s.data.toList = t := ⟨_, rfl⟩
  rw [hu] at c1 c2 hbd
  rw [ba_len] at hbd
  simp only at hbd
  obtain ⟨hb1, hb2, hb3, hb4⟩ := hbd
  have c6 := fun w => chain_any a w hb1
  have C1 := Lib.hid c1
  have C2 := Lib.hid c2
  have C3 := Lib.hid c3
  have C4 := Lib.hid c4
  have C5 := Lib.hid c5
  have C6 := Lib.hid c6
  have HU := Lib.hid hu
  clear c1 c2 c3 c4 c5 c6 hu
  by_cases hf : f = 0
  · subst hf
    have HB := Lib.hid (unch_back HU.out)
    go_enter Try.func4, Try.ntmps4
    go_wp2_with fail
    refine (C1.out _).mono ?_
    rintro e w1 ⟨rfl, rfl⟩
    go_wp2_with fail
    refine (C2.out _).mono ?_
    rintro e w2 ⟨rfl, rfl⟩
    go_wp2_with fail
    refine (C3.out _).mono ?_
    rintro e w3 ⟨rfl, hb3⟩
    go_wp2_with fail
    refine (C5.out _).mono ?_
    rintro e w4 ⟨rfl, rfl⟩
    go_wp2_with (first
      | (go_at_call 11; refine (num_any _ _).mono ?_; rintro e w' ⟨rfl, rfl⟩)
      | (go_at_call 15; refine (C3.out _).mono ?_; rintro e w' ⟨rfl, hb4⟩)
      | (go_at_call 16; refine (C4.out _).mono ?_; rintro e w' ⟨rfl, hb5⟩))
    have heq : s.extract 0 n = (⟨(chain a).toArray⟩ : ByteArray) := by
      have e := ba_extract s 0 n
      rw [Nat.zero_add, List.drop_zero, ← HB.out] at e
      exact e
    clear C1 C2 C3 C4 C5 HU HB hb1 hl hv h1
    refine wp_region_text (S := (fun w' => Below w.heap.size w w')) (by kernel_rfl) ?_ ?_
    · repeat (first | exact Below.refl _ _ | refine below_next ?_ (by assumption) | refine Below.drew ?_)
    repeat (first
      | (refine anyR_value (v := ?_) (by kernel_rfl) (by rfl) (fun _ _ _ h => h) (fun w1 hS => ?_) ?_
         rotate_left
         · go_simp
           with_reducible rfl
         simp only [Act.put, List.setIfInBounds_toArray, List.set_cons_zero, List.set_cons_succ])
      | (refine anyR_not (by kernel_rfl) (by rfl) (fun _ _ _ h => h) ?_
         simp only [Act.put, List.setIfInBounds_toArray, List.set_cons_zero, List.set_cons_succ])
      | (refine anyR_call (v := ?_) (f := ?_) (args := ?_) (by kernel_rfl) (by rfl) (fun _ _ _ h => h) (fun w1 hS => ?_) (fun w1 hS => ?_) ?_
         rotate_left 3
         · go_simp
           (try constructor) <;> with_reducible rfl
         · first
             | (with_reducible refine ((live_any _).mono ?_); rintro e w' ⟨rfl, hb⟩; refine ⟨?_, below_next hS hb⟩; with_reducible rfl)
             | (with_reducible refine ((C6.out _).mono ?_); rintro e w' ⟨rfl, hb⟩; refine ⟨?_, below_next hS hb⟩; with_reducible rfl)
         simp only [Act.put, List.setIfInBounds_toArray, List.set_cons_zero, List.set_cons_succ])
      | refine anyR_done (by kernel_rfl) (fun w1 hS => ?_))
    go_wp2_with fail
    go_ret
    exact ⟨rfl, hS⟩
  · have hf' : ((f : Int) != 0) = true := by rw [bne_iff_ne]; omega
    clear HU C6
    go_enter Try.func4, Try.ntmps4
    go_wp2_with fail
    refine (C1.out _).mono ?_
    rintro e w1 ⟨rfl, rfl⟩
    go_wp2_with fail
    refine (C2.out _).mono ?_
    rintro e w2 ⟨rfl, rfl⟩
    go_wp2_with fail
    refine (C3.out _).mono ?_
    rintro e w3 ⟨rfl, hb3⟩
    go_wp2_with fail
    refine (C5.out _).mono ?_
    rintro e w4 ⟨rfl, rfl⟩
    go_wp2_with (first
      | (go_at_call 11; refine (num_any _ _).mono ?_; rintro e w' ⟨rfl, rfl⟩)
      | (go_at_call 15; refine (C3.out _).mono ?_; rintro e w' ⟨rfl, hb4⟩)
      | (go_at_call 16; refine (C4.out _).mono ?_; rintro e w' ⟨rfl, hb5⟩))
    clear C1 C2 C3 C4 C5 hb1 hl hv h1
    refine wp_region_text (S := (fun w' => Below w.heap.size w w')) (by kernel_rfl) ?_ ?_
    · repeat (first | exact Below.refl _ _ | refine below_next ?_ (by assumption) | refine Below.drew ?_)
    repeat (first
      | (refine anyR_value (v := ?_) (by kernel_rfl) (by rfl) (fun _ _ _ h => h) (fun w1 hS => ?_) ?_
         rotate_left
         · go_simp
           with_reducible rfl
         simp only [Act.put, List.setIfInBounds_toArray, List.set_cons_zero, List.set_cons_succ])
      | (refine anyR_not (by kernel_rfl) (by rfl) (fun _ _ _ h => h) ?_
         simp only [Act.put, List.setIfInBounds_toArray, List.set_cons_zero, List.set_cons_succ])
      | (refine anyR_call (v := ?_) (f := ?_) (args := ?_) (by kernel_rfl) (by rfl) (fun _ _ _ h => h) (fun w1 hS => ?_) (fun w1 hS => ?_) ?_
         rotate_left 3
         · go_simp
           (try constructor) <;> with_reducible rfl
         · first
             | (with_reducible refine ((live_any _).mono ?_); rintro e w' ⟨rfl, hb⟩; refine ⟨?_, below_next hS hb⟩; with_reducible rfl)
         simp only [Act.put, List.setIfInBounds_toArray, List.set_cons_zero, List.set_cons_succ])
      | refine anyR_done (by kernel_rfl) (fun w1 hS => ?_))
    go_wp2_with fail
    go_ret
    exact ⟨rfl, hS⟩
theorem walk (a0 : Int) (w0 : (Lit.int .u64 a0).wf = true) (a1 : ByteArray) (w1 : a1.size ≤ maxLen) (a2 : ByteArray) (w2 : a2.size ≤ maxLen) (w : World) :
    Calls Try.prog 4 #[.int .u64 a0, .string a1, .string a2] w fun e w' => e = .returned (.bool true) ∧ Below w.heap.size w w' := by
  obtain ⟨v, rfl, hv⟩ := u64_nat w0
  unfold maxLen at w1 w2
  by_cases h : 1000 < a1.size ∨ 1000 < a2.size
  · exact walk_big v a1 a2 h w1 w2 w
  · exact walk_small v a1 a2 hv (by omega) (by omega) w
theorem own : ownKnob Try.prog.godebug = none := by kernel_rfl
theorem laidOut : laidOutB Try.prog = true := by kernel_rfl
set_option maxRecDepth 100000 in
theorem contract (H : Type) (enc : TypeId × Value → H) (W : World) (base : Nat) (args : Array Value) (ds gs : List (DataW H)) (before : List MemPlace)
    (hval0 : ∀ (j : Nat) t v, Try.f4.params[j]? = some t → args[j]? = some v → Value.okWide Try.prog W .any base t v)
    (hW : DataW.Whole enc Try.prog Try.f4.params.toList Rows.octetChainsSpec.vars false W args.toList ds gs before) :
    Calls Try.prog 4 args W fun e W' => ∃ v, e = .returned v ∧ Rows.octetChainsSpec.post enc Try.prog Try.f4 false true false false W args v W' := by
  have hval : ∀ (j : Nat) t v, Try.f4.params[j]? = some t → args[j]? = some v → Value.okWide Try.prog W .any base t v := hval0
  clear hval0
  have hW' := hW
  obtain ⟨p, q, hA0, hV, rfl, hfz, hnd⟩ := hW
  have hA : DataW.TrodAll enc Try.prog W 0 (fun _ => true) true Try.f4.params.toList args.toList ds p := hA0
  rw [Try.params4] at hA hval
  obtain ⟨v0, vs0, d0, ds0, p0, q0, hargs, rfl, rfl, h0, r0⟩ := trodAll_cons hA
  obtain ⟨v1, vs1, d1, ds1, p1, q1, rfl, rfl, rfl, h1, r1⟩ := trodAll_cons r0
  obtain ⟨v2, vs2, d2, ds2, p2, q2, rfl, rfl, rfl, h2, r2⟩ := trodAll_cons r1
  obtain ⟨rfl, rfl, rfl⟩ := trodAll_nil r2
  obtain rfl : args = #[v0, v1, v2] := by cases args; simp_all
  obtain ⟨rfl, rfl⟩ := trodVars_none hV
  obtain ⟨a0, rfl, rfl, rfl, w0⟩ := open_int Try.underlying22 (hval 0 22 v0 rfl rfl) h0
  obtain ⟨a1, rfl, rfl, rfl, w1⟩ := open_string Try.underlying9 (hval 1 9 v1 rfl rfl) h1
  obtain ⟨a2, rfl, rfl, rfl, w2⟩ := open_string Try.underlying9 (hval 2 9 v2 rfl rfl) h2
  clear hA0
  refine (walk a0 w0 a1 w1 a2 w2 W).mono fun e W' ⟨he, hb⟩ => ?_
  subst he
  exact ⟨_, rfl, law_post laidOut (by kernel_rfl) rfl Try.underlying4 rfl hW' rfl hb⟩

set_option maxRecDepth 100000 in
theorem lifted (os : Os) (started : os.Started) (H : Type) (enc : TypeId × Value → H) :
    ReturnsInHanded {} Try.checked os 4 .any (Rows.octetChainsSpec.pre6 enc Try.prog Try.f4 Rows.octetChainsRow.domain false) (Rows.octetChainsSpec.post enc Try.prog Try.f4 false true false false) := by
  refine returnsInHanded_of_change (C := Try.checked) own started (by kernel_rfl) Try.func4
    (ChangeSpec.witness6 (enc := enc) (C := Try.checked) false ⟨#[], #[.int .u64 0, .string ByteArray.empty, .string ByteArray.empty], []⟩ 8 (by kernel_rfl) (by kernel_rfl) (by kernel_rfl) (by kernel_rfl)) ?_
  intro W base args ds gs before hval0 hW _ _
  exact contract H enc W base args ds gs before hval0 hW

/-- THE STATEMENT -/
theorem proved : Rows.OctetChainsSaid :=
  OpenClaim.holds_of_wide 4 Try.f4 rfl rfl rfl rfl rfl rfl rfl ⟨rfl, rfl, rfl, rfl, rfl⟩ rfl rfl rfl rfl rfl (by kernel_rfl) Try.func4 (by kernel_rfl)
    (of_decide_eq_true (by kernel_rfl)) (by unfold Func.isWrapper; first | (rw [if_pos (by decide +kernel)]; kernel_rfl) | (rw [if_neg (by decide +kernel)]; exact ⟨rfl, rfl⟩))
    (fun os started H enc _ => lifted os started H enc)
end octetChains
end Go.Proofs.Ytkfcjlemneieiaa
