/-
  The law ConfTells: a configuration's classes, their limits, its tenants' numbers, and how often is tried; nothing of one that may not be.
-/
import Derived.Test.YtkkbdbelkcelhaaConfK
import Derived.Test.YtkkbdbelkcelhaaFrame
import Derived.ChangeMaps5
namespace Go.Proofs.Ytkkbdbelkcelhaa
open Go.RowKit Bt
open Go.ChangeShapes Go.WideShapes Go.ChangeAt Go.Joins
open Go.ChangeMaps (open_string shut_string)
set_option linter.unusedVariables false
namespace confTells
set_option maxHeartbeats 2000000 in
set_option maxRecDepth 100000 in
theorem walk_big (c : Cf.C) (tp : Option Addr) (n tc : Nat) (lp : Option Addr) (m lc : Nat) (k : Int) (s : ByteArray) (w : World) (h : 100 < n ∨ 100 < m) (hn : n ≤ 9223372036854775807) (hm : m ≤ 9223372036854775807) :
    Calls Try.prog 4 #[cv c tp n tc lp m lc, .int .i64 k, .string s] w fun e w' => e = .returned (.bool true) ∧ Below w.heap.size w w' := by
  unfold cv
  have c0 : (ccells c tp n tc lp m lc)[0]? = some (.slice tp n tc) := rfl
  have c1 : (ccells c tp n tc lp m lc)[1]? = some (.slice lp m lc) := rfl
  have hb0 : Below w.heap.size w (w.alloc (.cells (ccells c tp n tc lp m lc) 25)) := (Below.refl _ w).alloc (Nat.le_refl _) _
  have HB := Lib.hid hb0
  clear hb0
  rcases h with h | h
  all_goals
    go_enter Try.func4, Try.ntmps4
    go_wp2_with (go_at_call 5; refine (cnf.live_any _).mono ?_; rintro e w' ⟨rfl, hb3⟩)
    all_goals go_ret
    all_goals exact ⟨rfl, below_next HB.out hb3⟩
theorem tenant_two (c : Cf.C) (s : ByteArray) : Cf.tenant c s = -1 ∨ ∃ j : Nat, Cf.tenant c s = (j : Int) := by
  have h : -1 ≤ Cf.tenant c s := by
    unfold Cf.tenant
    split
    · rcases Cf.fnd_ge s c.ten 0 with h | ⟨_, h⟩
      · exact h.1
      · rw [h]; exact Int.le_refl _
    · exact Int.le_refl _
  by_cases h0 : 0 ≤ Cf.tenant c s
  · exact Or.inr ⟨(Cf.tenant c s).toNat, by omega⟩
  · exact Or.inl (by omega)
set_option maxHeartbeats 4000000 in
set_option maxRecDepth 100000 in
theorem walk_small (c : Cf.C) (tp : Option Addr) (n tc : Nat) (lp : Option Addr) (m lc : Nat) (k : Int) (s : ByteArray) (w : World) (h : CIn w c tp n lp m) :
    Calls Try.prog 4 #[cv c tp n tc lp m lc, .int .i64 k, .string s] w fun e w' => e = .returned (.bool true) ∧ Below w.heap.size w w' := by
  have c1 := fun w2 (h : CIn w2 c tp n lp m) => tenant_any c tp lp n tc m lc s w2 h
  have c2 := fun w2 (h : CIn w2 c tp n lp m) => rtenant_any c tp lp n tc m lc s w2 h
  have c3 := fun w2 (h : CIn w2 c tp n lp m) => classes_any c tp lp n tc m lc w2 h
  have c4 := fun w2 (h : CIn w2 c tp n lp m) => rclasses_any c tp lp n tc m lc w2 h
  have c5 := fun w2 (h : CIn w2 c tp n lp m) => limit_any c tp lp n tc m lc k w2 h
  have c6 := fun w2 (h : CIn w2 c tp n lp m) => rlimit_any c tp lp n tc m lc k w2 h
  have c7 := fun w2 (h : CIn w2 c tp n lp m) => attempts_any c tp lp n tc m lc w2 h
  have c8 := fun w2 (h : CIn w2 c tp n lp m) => rattempts_any c tp lp n tc m lc w2 h
  unfold tno tok at c1
  have ht := tenant_two c s
  obtain ⟨T, hT⟩ : ∃ R, Cf.tenant c s = R := ⟨_, rfl⟩
  obtain ⟨K, hK⟩ : ∃ R, Cf.classes c = R := ⟨_, rfl⟩
  obtain ⟨L, hL⟩ : ∃ R, Cf.limit c k = R := ⟨_, rfl⟩
  obtain ⟨A, hA⟩ : ∃ R, Cf.attempts c = R := ⟨_, rfl⟩
  rw [hT] at c1 c2 ht
  rw [hK] at c3 c4
  rw [hL] at c5 c6
  rw [hA] at c7 c8
  unfold cv at c1 c2 c3 c4 c5 c6 c7 c8 ⊢
  have C3 := Lib.hid c3
  have C4 := Lib.hid c4
  have C5 := Lib.hid c5
  have C6 := Lib.hid c6
  have C7 := Lib.hid c7
  have C8 := Lib.hid c8
  have HK := Lib.hid (cnf.keeps (tc := tc) (lc := lc) h)
  have f0 : (ccells c tp n tc lp m lc)[0]? = some (.slice tp n tc) := rfl
  have f1 : (ccells c tp n tc lp m lc)[1]? = some (.slice lp m lc) := rfl
  have hn := h.n100
  have hm := h.m100
  clear c3 c4 c5 c6 c7 c8 hT hK hL hA h
  rcases ht with rfl | ⟨j, rfl⟩
  · rw [show max (-1 : Int) 0 = 0 by decide, show decide (0 ≤ (-1 : Int)) = false by decide] at c1
    have C1 := Lib.hid c1
    have C2 := Lib.hid c2
    clear c1 c2
    go_enter Try.func4, Try.ntmps4
    go_wp2_with (refine ld_row (by rfl) 25 _ rfl w.heap.size rfl _ _ _ _ HK.out.1 Try.underlying25 rfl (by kernel_rfl) ?_)
    refine (C1.out _ HK.out.cin).mono ?_
    rintro e w2 ⟨rfl, hb2⟩
    have HK2 := Lib.hid (HK.out.next hb2)
    clear hb2 HK C1
    go_wp2_with (refine ld_row (by rfl) 25 _ rfl w.heap.size rfl _ _ _ _ HK2.out.1 Try.underlying25 rfl (by kernel_rfl) ?_)
    refine (C2.out _ HK2.out.cin).mono ?_
    rintro e w3 ⟨rfl, hb3⟩
    have HKN := Lib.hid (HK2.out.next hb3)
    clear hb3 HK2 C2
    go_wp2_with fail
    refine wp_region_text (S := (fun w' => cnf.Keeps w c tp n tc lp m lc w')) (by kernel_rfl) ?_ ?_
    · exact HKN.out.drew
    repeat (first
      | (refine anyR_value (v := ?_) (by kernel_rfl) (by rfl) (fun _ _ _ h => h) (fun w1 hS => ?_) ?_
         rotate_left
         · (refine ex_row 25 ?ex ?eh w.heap.size ?ey _ _ _ hS.1 Try.underlying25 rfl (by kernel_rfl); (case eh => rfl); (case ey => rfl))
         simp only [Act.put, List.setIfInBounds_toArray, List.set_cons_zero, List.set_cons_succ])
      | (refine anyR_value (v := ?_) (by kernel_rfl) (by rfl) (fun _ _ _ h => h) (fun w1 hS => ?_) ?_
         rotate_left
         · go_simp
           with_reducible rfl
         simp only [Act.put, List.setIfInBounds_toArray, List.set_cons_zero, List.set_cons_succ])
      | (refine anyR_not (by kernel_rfl) (by rfl) (fun _ _ _ h => h) ?_
         simp only [Act.put, List.setIfInBounds_toArray, List.set_cons_zero, List.set_cons_succ])
      | (refine anyR_call (v := ?_) (f := ?_) (args := ?_) (by kernel_rfl) (by rfl) (fun _ _ _ h => h) (fun w1 hS => ?_) (fun w1 hS => ?_) ?_
         rotate_left 3
         · go_simp
           (try constructor) <;> with_reducible rfl
         · first
             | (with_reducible refine ((C3.out _ hS.cin).mono ?_); rintro e w' ⟨rfl, hb⟩; refine ⟨?_, hS.next hb⟩; with_reducible rfl)
             | (with_reducible refine ((C4.out _ hS.cin).mono ?_); rintro e w' ⟨rfl, hb⟩; refine ⟨?_, hS.next hb⟩; with_reducible rfl)
             | (with_reducible refine ((C5.out _ hS.cin).mono ?_); rintro e w' ⟨rfl, hb⟩; refine ⟨?_, hS.next hb⟩; with_reducible rfl)
             | (with_reducible refine ((C6.out _ hS.cin).mono ?_); rintro e w' ⟨rfl, hb⟩; refine ⟨?_, hS.next hb⟩; with_reducible rfl)
             | (with_reducible refine ((C7.out _ hS.cin).mono ?_); rintro e w' ⟨rfl, hb⟩; refine ⟨?_, hS.next hb⟩; with_reducible rfl)
             | (with_reducible refine ((C8.out _ hS.cin).mono ?_); rintro e w' ⟨rfl, hb⟩; refine ⟨?_, hS.next hb⟩; with_reducible rfl)
             | (with_reducible refine ((cnf.live_any _).mono ?_); rintro e w' ⟨rfl, hb⟩; refine ⟨?_, hS.next hb⟩; with_reducible rfl)
         simp only [Act.put, List.setIfInBounds_toArray, List.set_cons_zero, List.set_cons_succ])
      | refine anyR_done (by kernel_rfl) (fun w1 hS => ?_))
    go_wp2_with fail
    go_ret
    exact ⟨rfl, hS.2.2⟩
  · rw [show max (j : Int) 0 = (j : Int) by omega, decide_eq_true (show 0 ≤ (j : Int) by omega)] at c1
    have hj0 : 0 ≤ (j : Int) := by omega
    have C1 := Lib.hid c1
    have C2 := Lib.hid c2
    clear c1 c2
    go_enter Try.func4, Try.ntmps4
    go_wp2_with (refine ld_row (by rfl) 25 _ rfl w.heap.size rfl _ _ _ _ HK.out.1 Try.underlying25 rfl (by kernel_rfl) ?_)
    refine (C1.out _ HK.out.cin).mono ?_
    rintro e w2 ⟨rfl, hb2⟩
    have HK2 := Lib.hid (HK.out.next hb2)
    clear hb2 HK C1
    go_wp2_with (refine ld_row (by rfl) 25 _ rfl w.heap.size rfl _ _ _ _ HK2.out.1 Try.underlying25 rfl (by kernel_rfl) ?_)
    refine (C2.out _ HK2.out.cin).mono ?_
    rintro e w3 ⟨rfl, hb3⟩
    have HKN := Lib.hid (HK2.out.next hb3)
    clear hb3 HK2 C2
    go_wp2_with fail
    refine wp_region_text (S := (fun w' => cnf.Keeps w c tp n tc lp m lc w')) (by kernel_rfl) ?_ ?_
    · exact HKN.out.drew
    repeat (first
      | (refine anyR_value (v := ?_) (by kernel_rfl) (by rfl) (fun _ _ _ h => h) (fun w1 hS => ?_) ?_
         rotate_left
         · (refine ex_row 25 ?ex ?eh w.heap.size ?ey _ _ _ hS.1 Try.underlying25 rfl (by kernel_rfl); (case eh => rfl); (case ey => rfl))
         simp only [Act.put, List.setIfInBounds_toArray, List.set_cons_zero, List.set_cons_succ])
      | (refine anyR_value (v := ?_) (by kernel_rfl) (by rfl) (fun _ _ _ h => h) (fun w1 hS => ?_) ?_
         rotate_left
         · go_simp
           with_reducible rfl
         simp only [Act.put, List.setIfInBounds_toArray, List.set_cons_zero, List.set_cons_succ])
      | (refine anyR_not (by kernel_rfl) (by rfl) (fun _ _ _ h => h) ?_
         simp only [Act.put, List.setIfInBounds_toArray, List.set_cons_zero, List.set_cons_succ])
      | (refine anyR_call (v := ?_) (f := ?_) (args := ?_) (by kernel_rfl) (by rfl) (fun _ _ _ h => h) (fun w1 hS => ?_) (fun w1 hS => ?_) ?_
         rotate_left 3
         · go_simp
           (try constructor) <;> with_reducible rfl
         · first
             | (with_reducible refine ((C3.out _ hS.cin).mono ?_); rintro e w' ⟨rfl, hb⟩; refine ⟨?_, hS.next hb⟩; with_reducible rfl)
             | (with_reducible refine ((C4.out _ hS.cin).mono ?_); rintro e w' ⟨rfl, hb⟩; refine ⟨?_, hS.next hb⟩; with_reducible rfl)
             | (with_reducible refine ((C5.out _ hS.cin).mono ?_); rintro e w' ⟨rfl, hb⟩; refine ⟨?_, hS.next hb⟩; with_reducible rfl)
             | (with_reducible refine ((C6.out _ hS.cin).mono ?_); rintro e w' ⟨rfl, hb⟩; refine ⟨?_, hS.next hb⟩; with_reducible rfl)
             | (with_reducible refine ((C7.out _ hS.cin).mono ?_); rintro e w' ⟨rfl, hb⟩; refine ⟨?_, hS.next hb⟩; with_reducible rfl)
             | (with_reducible refine ((C8.out _ hS.cin).mono ?_); rintro e w' ⟨rfl, hb⟩; refine ⟨?_, hS.next hb⟩; with_reducible rfl)
             | (with_reducible refine ((cnf.live_any _).mono ?_); rintro e w' ⟨rfl, hb⟩; refine ⟨?_, hS.next hb⟩; with_reducible rfl)
         simp only [Act.put, List.setIfInBounds_toArray, List.set_cons_zero, List.set_cons_succ])
      | refine anyR_done (by kernel_rfl) (fun w1 hS => ?_))
    go_wp2_with fail
    go_ret
    exact ⟨rfl, hS.2.2⟩
theorem walk (c : Cf.C) (tp : Option Addr) (n tc : Nat) (lp : Option Addr) (m lc : Nat) {W : World} (h : Came W c tp n lp m) (k : Int) (wk : (Lit.int .i64 k).wf = true) (s : ByteArray) (ws : s.size ≤ maxLen) (w : World) (hw : w = W) :
    Calls Try.prog 4 #[cv c tp n tc lp m lc, .int .i64 k, .string s] w fun e w' => e = .returned (.bool true) ∧ Below w.heap.size w w' := by
  subst hw
  have h1 := h.nl
  have h2 := h.ml
  unfold maxLen at h1 h2
  by_cases hb : 100 < n ∨ 100 < m
  · exact walk_big c tp n tc lp m lc k s w hb (by omega) (by omega)
  · exact walk_small c tp n tc lp m lc k s w (h.small (by omega) (by omega))
theorem own : ownKnob Try.prog.godebug = none := by kernel_rfl
theorem laidOut : laidOutB Try.prog = true := by kernel_rfl
set_option maxRecDepth 100000 in
theorem contract (H : Type) (enc : TypeId × Value → H) (W : World) (base : Nat) (args : Array Value) (ds gs : List (DataW H)) (before : List MemPlace)
    (hval0 : ∀ (j : Nat) t v, Try.f4.params[j]? = some t → args[j]? = some v → Value.okWide Try.prog W .any base t v)
    (hW : DataW.Whole enc Try.prog Try.f4.params.toList Rows.confTellsSpec.vars false W args.toList ds gs before) :
    Calls Try.prog 4 args W fun e W' => ∃ v, e = .returned v ∧ Rows.confTellsSpec.post enc Try.prog Try.f4 false true false false W args v W' := by
  have hval : ∀ (j : Nat) t v, Try.f4.params[j]? = some t → args[j]? = some v → Value.okWide Try.prog W .any base t v := hval0
  clear hval0
  have hW' := hW
  obtain ⟨p, q, hA0, hV, rfl, hfz, hnd⟩ := hW
  have hA : DataW.TrodAll enc Try.prog W 0 (fun _ => true) true Try.f4.params.toList args.toList ds p := hA0
  rw [Try.params4] at hA hval
  obtain ⟨v0, vs0, d0, ds0, p0, q0, hargs, rfl, rfl, h0, r0⟩ := trodAll_cons hA
  obtain ⟨v1, vs1, d1, ds1, p1, q1, rfl, rfl, rfl, h1, r1⟩ := trodAll_cons r0
  obtain ⟨v2, vs2, d2, ds2, p2, q2, rfl, rfl, rfl, h2, r2⟩ := trodAll_cons r1
  obtain ⟨rfl, rfl, rfl⟩ := trodAll_nil r2
  obtain rfl : args = #[v0, v1, v2] := by cases args; simp_all
  obtain ⟨rfl, rfl⟩ := trodVars_none hV
  obtain ⟨c0, tp0, n0, tc0, lp0, m0, lc0, rfl, came0⟩ := conf_open (hval 0 25 v0 rfl rfl) h0
  obtain ⟨a1, rfl, rfl, rfl, w1⟩ := open_int Try.underlying3 (hval 1 3 v1 rfl rfl) h1
  obtain ⟨a2, rfl, rfl, rfl, w2⟩ := open_string Try.underlying9 (hval 2 9 v2 rfl rfl) h2
  clear hA0
  refine (walk c0 tp0 n0 tc0 lp0 m0 lc0 came0 a1 w1 a2 w2 W rfl).mono fun e W' ⟨he, hb⟩ => ?_
  subst he
  exact ⟨_, rfl, law_post laidOut (by kernel_rfl) rfl Try.underlying4 rfl hW' rfl hb⟩

set_option maxRecDepth 100000 in
theorem lifted (os : Os) (started : os.Started) (H : Type) (enc : TypeId × Value → H) :
    ReturnsInHanded {} Try.checked os 4 .any (Rows.confTellsSpec.pre6 enc Try.prog Try.f4 Rows.confTellsRow.domain false) (Rows.confTellsSpec.post enc Try.prog Try.f4 false true false false) := by
  refine returnsInHanded_of_change (C := Try.checked) own started (by kernel_rfl) Try.func4
    (ChangeSpec.witness6 (enc := enc) (C := Try.checked) false ⟨#[], #[.agg #[.slice none 0 0, .slice none 0 0, .int .i64 0, .int .i64 0, .int .i64 0, .int .i64 0, .int .i64 0, .int .i64 0, .int .i64 0, .int .i64 0, .int .i64 0, .int .i64 0, .int .i64 0, .int .i64 0, .int .i64 0, .int .i64 0, .int .i64 0, .int .i64 0, .int .i64 0], .int .i64 0, .string ByteArray.empty], []⟩ 8 (by kernel_rfl) (by kernel_rfl) (by kernel_rfl) (by kernel_rfl)) ?_
  intro W base args ds gs before hval0 hW _ _
  exact contract H enc W base args ds gs before hval0 hW

/-- THE STATEMENT -/
theorem proved : Rows.ConfTellsSaid :=
  OpenClaim.holds_of_wide 4 Try.f4 rfl rfl rfl rfl rfl rfl rfl ⟨rfl, rfl, rfl, rfl, rfl⟩ rfl rfl rfl rfl rfl (by kernel_rfl) Try.func4 (by kernel_rfl)
    (of_decide_eq_true (by kernel_rfl)) (by unfold Func.isWrapper; first | (rw [if_pos (by decide +kernel)]; kernel_rfl) | (rw [if_neg (by decide +kernel)]; exact ⟨rfl, rfl⟩))
    (fun os started H enc _ => lifted os started H enc)
end confTells
end Go.Proofs.Ytkkbdbelkcelhaa
