/-
  The law ConfChecks: which configurations may be, and what is wrong with others first.
-/
import Derived.Test.YtkkbdbelkcelhaaConfK
import Derived.Test.YtkkbdbelkcelhaaFrame
namespace Go.Proofs.Ytkkbdbelkcelhaa
open Go.RowKit Bt
open Go.ChangeShapes Go.WideShapes Go.ChangeAt Go.Joins
set_option linter.unusedVariables false
namespace confChecks
set_option maxHeartbeats 2000000 in
set_option maxRecDepth 100000 in
theorem walk_big (c : Cf.C) (tp : Option Addr) (n tc : Nat) (lp : Option Addr) (m lc : Nat) (w : World) (h : 100 < n ∨ 100 < m) (hn : n ≤ 9223372036854775807) (hm : m ≤ 9223372036854775807) :
    Calls Try.prog 3 #[cv c tp n tc lp m lc] w fun e w' => e = .returned (.bool true) ∧ Below w.heap.size w w' := by
  unfold cv
  have c0 : (ccells c tp n tc lp m lc)[0]? = some (.slice tp n tc) := rfl
  have c1 : (ccells c tp n tc lp m lc)[1]? = some (.slice lp m lc) := rfl
  have hb0 : Below w.heap.size w (w.alloc (.cells (ccells c tp n tc lp m lc) 25)) := (Below.refl _ w).alloc (Nat.le_refl _) _
  have HB := Lib.hid hb0
  clear hb0
  rcases h with h | h
  all_goals
    go_enter Try.func3, Try.ntmps3
    go_wp2_with (go_at_call 5; refine (cnf.live_any _).mono ?_; rintro e w' ⟨rfl, hb3⟩)
    all_goals go_ret
    all_goals exact ⟨rfl, below_next HB.out hb3⟩
set_option maxHeartbeats 2000000 in
set_option maxRecDepth 100000 in
theorem walk_small (c : Cf.C) (tp : Option Addr) (n tc : Nat) (lp : Option Addr) (m lc : Nat) (w : World) (h : CIn w c tp n lp m) :
    Calls Try.prog 3 #[cv c tp n tc lp m lc] w fun e w' => e = .returned (.bool true) ∧ Below w.heap.size w w' := by
  have c1 := fun w2 (h : CIn w2 c tp n lp m) => check_any c tp lp n tc m lc w2 h
  have c2 := fun w2 (h : CIn w2 c tp n lp m) => rcheck_any c tp lp n tc m lc w2 h
  obtain ⟨R, hR⟩ : ∃ R, Cf.chk c = R := ⟨_, rfl⟩
  rw [hR] at c1 c2
  unfold cv at c1 c2 ⊢
  have C1 := Lib.hid c1
  have C2 := Lib.hid c2
  have HK := Lib.hid (cnf.keeps (tc := tc) (lc := lc) h)
  have f0 : (ccells c tp n tc lp m lc)[0]? = some (.slice tp n tc) := rfl
  have f1 : (ccells c tp n tc lp m lc)[1]? = some (.slice lp m lc) := rfl
  have hn := h.n100
  have hm := h.m100
  clear c1 c2 hR h
  go_enter Try.func3, Try.ntmps3
  go_wp2_with fail
  refine wp_region_text (S := (fun w' => cnf.Keeps w c tp n tc lp m lc w')) (by kernel_rfl) ?_ ?_
  · exact HK.out.drew
  repeat (first
    | (refine anyR_value (v := ?_) (by kernel_rfl) (by rfl) (fun _ _ _ h => h) (fun w1 hS => ?_) ?_
       rotate_left
       · (refine ex_row 25 ?ex ?eh w.heap.size ?ey _ _ _ hS.1 Try.underlying25 rfl (by kernel_rfl); (case eh => rfl); (case ey => rfl))
       simp only [Act.put, List.setIfInBounds_toArray, List.set_cons_zero, List.set_cons_succ])
    | (refine anyR_value (v := ?_) (by kernel_rfl) (by rfl) (fun _ _ _ h => h) (fun w1 hS => ?_) ?_
       rotate_left
       · go_simp
         with_reducible rfl
       simp only [Act.put, List.setIfInBounds_toArray, List.set_cons_zero, List.set_cons_succ])
    | (refine anyR_not (by kernel_rfl) (by rfl) (fun _ _ _ h => h) ?_
       simp only [Act.put, List.setIfInBounds_toArray, List.set_cons_zero, List.set_cons_succ])
    | (refine anyR_call (v := ?_) (f := ?_) (args := ?_) (by kernel_rfl) (by rfl) (fun _ _ _ h => h) (fun w1 hS => ?_) (fun w1 hS => ?_) ?_
       rotate_left 3
       · go_simp
         (try constructor) <;> with_reducible rfl
       · first
           | (with_reducible refine ((C1.out _ hS.cin).mono ?_); rintro e w' ⟨rfl, hb⟩; refine ⟨?_, hS.next hb⟩; with_reducible rfl)
           | (with_reducible refine ((C2.out _ hS.cin).mono ?_); rintro e w' ⟨rfl, hb⟩; refine ⟨?_, hS.next hb⟩; with_reducible rfl)
           | (with_reducible refine ((cnf.num_any _ _).mono ?_); rintro e w' ⟨rfl, rfl⟩; refine ⟨?_, hS⟩; with_reducible rfl)
           | (with_reducible refine ((cnf.live_any _).mono ?_); rintro e w' ⟨rfl, hb⟩; refine ⟨?_, hS.next hb⟩; with_reducible rfl)
       simp only [Act.put, List.setIfInBounds_toArray, List.set_cons_zero, List.set_cons_succ])
    | refine anyR_done (by kernel_rfl) (fun w1 hS => ?_))
  go_wp2_with fail
  go_ret
  exact ⟨rfl, hS.2.2⟩
theorem walk (c : Cf.C) (tp : Option Addr) (n tc : Nat) (lp : Option Addr) (m lc : Nat) {W : World} (h : Came W c tp n lp m) (w : World) (hw : w = W) :
    Calls Try.prog 3 #[cv c tp n tc lp m lc] w fun e w' => e = .returned (.bool true) ∧ Below w.heap.size w w' := by
  subst hw
  have h1 := h.nl
  have h2 := h.ml
  unfold maxLen at h1 h2
  by_cases hb : 100 < n ∨ 100 < m
  · exact walk_big c tp n tc lp m lc w hb (by omega) (by omega)
  · exact walk_small c tp n tc lp m lc w (h.small (by omega) (by omega))
theorem own : ownKnob Try.prog.godebug = none := by kernel_rfl
theorem laidOut : laidOutB Try.prog = true := by kernel_rfl
set_option maxRecDepth 100000 in
theorem contract (H : Type) (enc : TypeId × Value → H) (W : World) (base : Nat) (args : Array Value) (ds gs : List (DataW H)) (before : List MemPlace)
    (hval0 : ∀ (j : Nat) t v, Try.f3.params[j]? = some t → args[j]? = some v → Value.okWide Try.prog W .any base t v)
    (hW : DataW.Whole enc Try.prog Try.f3.params.toList Rows.confChecksSpec.vars false W args.toList ds gs before) :
    Calls Try.prog 3 args W fun e W' => ∃ v, e = .returned v ∧ Rows.confChecksSpec.post enc Try.prog Try.f3 false true false false W args v W' := by
  have hval : ∀ (j : Nat) t v, Try.f3.params[j]? = some t → args[j]? = some v → Value.okWide Try.prog W .any base t v := hval0
  clear hval0
  have hW' := hW
  obtain ⟨p, q, hA0, hV, rfl, hfz, hnd⟩ := hW
  have hA : DataW.TrodAll enc Try.prog W 0 (fun _ => true) true Try.f3.params.toList args.toList ds p := hA0
  rw [Try.params3] at hA hval
  obtain ⟨v0, vs0, d0, ds0, p0, q0, hargs, rfl, rfl, h0, r0⟩ := trodAll_cons hA
  obtain ⟨rfl, rfl, rfl⟩ := trodAll_nil r0
  obtain rfl : args = #[v0] := by cases args; simp_all
  obtain ⟨rfl, rfl⟩ := trodVars_none hV
  obtain ⟨c0, tp0, n0, tc0, lp0, m0, lc0, rfl, came0⟩ := conf_open (hval 0 25 v0 rfl rfl) h0
  clear hA0
  refine (walk c0 tp0 n0 tc0 lp0 m0 lc0 came0 W rfl).mono fun e W' ⟨he, hb⟩ => ?_
  subst he
  exact ⟨_, rfl, law_post laidOut (by kernel_rfl) rfl Try.underlying4 rfl hW' rfl hb⟩

set_option maxRecDepth 100000 in
theorem lifted (os : Os) (started : os.Started) (H : Type) (enc : TypeId × Value → H) :
    ReturnsInHanded {} Try.checked os 3 .any (Rows.confChecksSpec.pre6 enc Try.prog Try.f3 Rows.confChecksRow.domain false) (Rows.confChecksSpec.post enc Try.prog Try.f3 false true false false) := by
  refine returnsInHanded_of_change (C := Try.checked) own started (by kernel_rfl) Try.func3
    (ChangeSpec.witness6 (enc := enc) (C := Try.checked) false ⟨#[], #[.agg #[.slice none 0 0, .slice none 0 0, .int .i64 0, .int .i64 0, .int .i64 0, .int .i64 0, .int .i64 0, .int .i64 0, .int .i64 0, .int .i64 0, .int .i64 0, .int .i64 0, .int .i64 0, .int .i64 0, .int .i64 0, .int .i64 0, .int .i64 0, .int .i64 0, .int .i64 0]], []⟩ 8 (by kernel_rfl) (by kernel_rfl) (by kernel_rfl) (by kernel_rfl)) ?_
  intro W base args ds gs before hval0 hW _ _
  exact contract H enc W base args ds gs before hval0 hW

/-- THE STATEMENT -/
theorem proved : Rows.ConfChecksSaid :=
  OpenClaim.holds_of_wide 3 Try.f3 rfl rfl rfl rfl rfl rfl rfl ⟨rfl, rfl, rfl, rfl, rfl⟩ rfl rfl rfl rfl rfl (by kernel_rfl) Try.func3 (by kernel_rfl)
    (of_decide_eq_true (by kernel_rfl)) (by unfold Func.isWrapper; first | (rw [if_pos (by decide +kernel)]; kernel_rfl) | (rw [if_neg (by decide +kernel)]; exact ⟨rfl, rfl⟩))
    (fun os started H enc _ => lifted os started H enc)
end confChecks
end Go.Proofs.Ytkkbdbelkcelhaa
