/-
  The law OctetFixed: any number as so many bytes, or that it is none; the number of any bytes; each is that of the other.
-/
import Derived.Test.YtkfcjlemneieiaaOctetE
import Derived.Test.YtkfcjlemneieiaaFrame
import Derived.ShutString
namespace Go.Proofs.Ytkfcjlemneieiaa
open Go.RowKit Bt
open Go.ChangeShapes Go.WideShapes Go.ChangeAt
open Go.ChangeMaps (open_string shut_string)
set_option linter.unusedVariables false

theorem number_any (s : ByteArray) (w : World) (hm : s.size ≤ 9223372036854775807) :
    Calls Try.prog 9 #[.string s] w fun e w' => e = .returned (.tuple #[.int .u64 (numR s.data.toList).1, .int .i64 (numR s.data.toList).2]) ∧ w = w' := by
  by_cases h : 1 ≤ s.size ∧ s.size ≤ 8
  · have e : numR s.data.toList = (numv s.data.toList, 0) := by unfold numR; rw [if_pos (by rw [ba_len]; exact h)]; rfl
    rw [e]; exact number_in s w h.2 h.1
  · have e : numR s.data.toList = (0, 1) := by unfold numR; rw [if_neg (by rw [ba_len]; exact h)]
    rw [e]; exact number_out s w (by omega) hm
theorem rnumber_any (s : ByteArray) (w : World) (hm : s.size ≤ 9223372036854775807) :
    Calls Try.prog 10 #[.string s] w fun e w' => e = .returned (.tuple #[.int .u64 (numR s.data.toList).1, .int .i64 (numR s.data.toList).2]) ∧ w = w' := by
  by_cases h : 1 ≤ s.size ∧ s.size ≤ 8
  · have e : numR s.data.toList = (numv s.data.toList, 0) := by unfold numR; rw [if_pos (by rw [ba_len]; exact h)]; rfl
    rw [e]; exact rnumber_in s w h.2 h.1
  · have e : numR s.data.toList = (0, 1) := by unfold numR; rw [if_neg (by rw [ba_len]; exact h)]
    rw [e]; exact rnumber_out s w (by omega) hm
/-- what Fixed tells, if it is no error, is read back -/
theorem fix_back {v : Nat} {n : Int} {F : List UInt8} {E : Nat} (h : fixR v n = (F, E)) (hE : E = 0) : numR F = (v, 0) := by
  unfold fixR at h
  split at h
  · rename_i hh
    obtain ⟨h1, h2, h3⟩ := hh
    simp only [Prod.mk.injEq] at h
    obtain ⟨rfl, _⟩ := h
    unfold numR
    rw [if_pos (by rw [fixb_len]; omega)]
    exact congrArg (fun x => (x, 0)) (numv_fixb _ _ h3)
  · simp only [Prod.mk.injEq] at h
    omega
theorem fix_len {v : Nat} {n : Int} {F : List UInt8} {E : Nat} (h : fixR v n = (F, E)) : F.length ≤ 8 := by
  unfold fixR at h
  split at h
  · rename_i hh
    simp only [Prod.mk.injEq] at h
    rw [← h.1, fixb_len]; omega
  · simp only [Prod.mk.injEq] at h
    rw [← h.1]; simp

namespace octetFixed
set_option maxHeartbeats 400000 in
set_option maxRecDepth 100000 in
theorem walk_nat (v : Nat) (n : Int) (s : ByteArray) (hv : v < 18446744073709551616) (hs : s.size ≤ 9223372036854775807) (w : World) :
    Calls Try.prog 3 #[.int .u64 v, .int .i64 n, .string s] w fun e w' => e = .returned (.bool true) ∧ Below w.heap.size w w' := by
  have c1 := fun w => fixed_any v n w hv
  have c2 := fun w => rfixed_any v n w hv
  obtain ⟨⟨F, E⟩, hF⟩ : ∃ t, fixR v n = t := ⟨_, rfl⟩
  have c3 := fun w => number_any s w hs
  have c4 := fun w => rnumber_any s w hs
  obtain ⟨⟨x, g⟩, hN⟩ : ∃ t, numR s.data.toList = t := ⟨_, rfl⟩
  rw [hF] at c1 c2
  rw [hN] at c3 c4
  have hFl := fix_len hF
  have c5 := fun w => number_any ⟨F.toArray⟩ w (by show F.toArray.size ≤ _; simp; omega)
  have hb := fun h => fix_back hF h
  have C1 := Lib.hid c1
  have C2 := Lib.hid c2
  have C3 := Lib.hid c3
  have C4 := Lib.hid c4
  have C5 := Lib.hid c5
  have HB := Lib.hid hb
  clear c1 c2 c3 c4 c5 hb hF hN hFl
  by_cases hE : E = 0
  · subst hE
    have e1 : ((0 : Nat) : Int) = 0 := rfl
    have c5 := C5.out
    simp only [HB.out rfl] at c5
    have C6 := Lib.hid c5
    clear c5 C5
    go_enter Try.func3, Try.ntmps3
    go_wp2_with fail
    refine (C1.out _).mono ?_
    rintro e w1 ⟨rfl, hb1⟩
    go_wp2_with fail
    refine (C2.out _).mono ?_
    rintro e w2 ⟨rfl, hb2⟩
    go_wp2_with fail
    refine (C3.out _).mono ?_
    rintro e w3 ⟨rfl, rfl⟩
    go_wp2_with fail
    refine (C4.out _).mono ?_
    rintro e w4 ⟨rfl, rfl⟩
    go_wp2_with (first
      | (go_at_call 11; refine (num_any _ _).mono ?_; rintro e w' ⟨rfl, rfl⟩)
      | (go_at_call 9; refine (C6.out _).mono ?_; rintro e w' ⟨rfl, rfl⟩)
      | (go_at_call 12; refine (live_any _).mono ?_; rintro e w' ⟨rfl, hb3⟩))
    go_ret
    exact ⟨rfl, below_next (below_next hb1 hb2) hb3⟩
  · have hE' : ((E : Int) == 0) = false := by rw [beq_eq_false_iff_ne]; omega
    clear hE C5 HB
    go_enter Try.func3, Try.ntmps3
    go_wp2_with fail
    refine (C1.out _).mono ?_
    rintro e w1 ⟨rfl, hb1⟩
    go_wp2_with fail
    refine (C2.out _).mono ?_
    rintro e w2 ⟨rfl, hb2⟩
    go_wp2_with fail
    refine (C3.out _).mono ?_
    rintro e w3 ⟨rfl, rfl⟩
    go_wp2_with fail
    refine (C4.out _).mono ?_
    rintro e w4 ⟨rfl, rfl⟩
    go_wp2_with (first
      | (go_at_call 11; refine (num_any _ _).mono ?_; rintro e w' ⟨rfl, rfl⟩)
      | (go_at_call 12; refine (live_any _).mono ?_; rintro e w' ⟨rfl, hb3⟩))
    go_ret
    exact ⟨rfl, below_next (below_next hb1 hb2) hb3⟩
theorem walk (a0 : Int) (w0 : (Lit.int .u64 a0).wf = true) (a1 : Int) (w1 : (Lit.int .i64 a1).wf = true) (a2 : ByteArray) (w2 : a2.size ≤ maxLen) (w : World) :
    Calls Try.prog 3 #[.int .u64 a0, .int .i64 a1, .string a2] w fun e w' => e = .returned (.bool true) ∧ Below w.heap.size w w' := by
  obtain ⟨v, rfl, hv⟩ := u64_nat w0
  unfold maxLen at w2
  exact walk_nat v a1 a2 hv w2 w
theorem own : ownKnob Try.prog.godebug = none := by kernel_rfl
theorem laidOut : laidOutB Try.prog = true := by kernel_rfl
set_option maxRecDepth 100000 in
theorem contract (H : Type) (enc : TypeId × Value → H) (W : World) (base : Nat) (args : Array Value) (ds gs : List (DataW H)) (before : List MemPlace)
    (hval0 : ∀ (j : Nat) t v, Try.f3.params[j]? = some t → args[j]? = some v → Value.okWide Try.prog W .any base t v)
    (hW : DataW.Whole enc Try.prog Try.f3.params.toList Rows.octetFixedSpec.vars false W args.toList ds gs before) :
    Calls Try.prog 3 args W fun e W' => ∃ v, e = .returned v ∧ Rows.octetFixedSpec.post enc Try.prog Try.f3 false true false false W args v W' := by
  have hval : ∀ (j : Nat) t v, Try.f3.params[j]? = some t → args[j]? = some v → Value.okWide Try.prog W .any base t v := hval0
  clear hval0
  have hW' := hW
  obtain ⟨p, q, hA0, hV, rfl, hfz, hnd⟩ := hW
  have hA : DataW.TrodAll enc Try.prog W 0 (fun _ => true) true Try.f3.params.toList args.toList ds p := hA0
  rw [Try.params3] at hA hval
  obtain ⟨v0, vs0, d0, ds0, p0, q0, hargs, rfl, rfl, h0, r0⟩ := trodAll_cons hA
  obtain ⟨v1, vs1, d1, ds1, p1, q1, rfl, rfl, rfl, h1, r1⟩ := trodAll_cons r0
  obtain ⟨v2, vs2, d2, ds2, p2, q2, rfl, rfl, rfl, h2, r2⟩ := trodAll_cons r1
  obtain ⟨rfl, rfl, rfl⟩ := trodAll_nil r2
  obtain rfl : args = #[v0, v1, v2] := by cases args; simp_all
  obtain ⟨rfl, rfl⟩ := trodVars_none hV
  obtain ⟨a0, rfl, rfl, rfl, w0⟩ := open_int Try.underlying22 (hval 0 22 v0 rfl rfl) h0
  obtain ⟨a1, rfl, rfl, rfl, w1⟩ := open_int Try.underlying3 (hval 1 3 v1 rfl rfl) h1
  obtain ⟨a2, rfl, rfl, rfl, w2⟩ := open_string Try.underlying9 (hval 2 9 v2 rfl rfl) h2
  clear hA0
  refine (walk a0 w0 a1 w1 a2 w2 W).mono fun e W' ⟨he, hb⟩ => ?_
  subst he
  exact ⟨_, rfl, law_post laidOut (by kernel_rfl) rfl Try.underlying4 rfl hW' rfl hb⟩

set_option maxRecDepth 100000 in
theorem lifted (os : Os) (started : os.Started) (H : Type) (enc : TypeId × Value → H) :
    ReturnsInHanded {} Try.checked os 3 .any (Rows.octetFixedSpec.pre6 enc Try.prog Try.f3 Rows.octetFixedRow.domain false) (Rows.octetFixedSpec.post enc Try.prog Try.f3 false true false false) := by
  refine returnsInHanded_of_change (C := Try.checked) own started (by kernel_rfl) Try.func3
    (ChangeSpec.witness6 (enc := enc) (C := Try.checked) false ⟨#[], #[.int .u64 0, .int .i64 0, .string ByteArray.empty], []⟩ 8 (by kernel_rfl) (by kernel_rfl) (by kernel_rfl) (by kernel_rfl)) ?_
  intro W base args ds gs before hval0 hW _ _
  exact contract H enc W base args ds gs before hval0 hW

/-- THE STATEMENT -/
theorem proved : Rows.OctetFixedSaid :=
  OpenClaim.holds_of_wide 3 Try.f3 rfl rfl rfl rfl rfl rfl rfl ⟨rfl, rfl, rfl, rfl, rfl⟩ rfl rfl rfl rfl rfl (by kernel_rfl) Try.func3 (by kernel_rfl)
    (of_decide_eq_true (by kernel_rfl)) (by unfold Func.isWrapper; first | (rw [if_pos (by decide +kernel)]; kernel_rfl) | (rw [if_neg (by decide +kernel)]; exact ⟨rfl, rfl⟩))
    (fun os started H enc _ => lifted os started H enc)
end octetFixed
end Go.Proofs.Ytkfcjlemneieiaa
