/-
  The law PropParses: the pairs of every text, or why it is no platform; how it stands by rising keys.
-/
import Derived.Test.YtdfollcglldocaaDoorPropI
namespace Go.Proofs.YtdfollcglldocaaDoor
open Go.RowKit Bt
open Go.ChangeShapes Go.WideShapes Go.ChangeAt
open Go.ChangeMaps (open_string shut_string)
set_option linter.unusedVariables false

namespace propParses
set_option maxHeartbeats 400000 in
theorem walk_big (s : ByteArray) (h : 1000 < s.size) (hs : s.size ≤ 140737488355328) (w : World) :
    Calls Tryd.prog 3 #[.string s] w fun e w' => e = .returned (.bool true) ∧ Below w.heap.size w w' := by
  go_enter Tryd.func3, Tryd.ntmps3
  go_wp2_with (go_at_call 6; refine (pf.live_any _).mono ?_; rintro e w' ⟨rfl, hb3⟩)
  go_ret
  exact ⟨rfl, hb3⟩
set_option maxHeartbeats 1000000 in
theorem walk_small (l : List UInt8) (h : l.length ≤ 1000) (w : World) :
    Calls Tryd.prog 3 #[.string (bs l)] w fun e w' => e = .returned (.bool true) ∧ Below w.heap.size w w' := by
  have hz : (bs l).size ≤ 1000 := by rw [bs_size]; exact h
  have c1 := fun w => parse_any (bs l) w (by omega)
  have c2 := fun w => rparse_any (bs l) w (by omega)
  have c3 := fun w => canon_any (bs l) w (by omega)
  have c4 := fun w => rcanon_any (bs l) w (by omega)
  rw [bs_list] at c1 c2 c3 c4
  obtain ⟨L, c, hL⟩ : ∃ L c, Pf.par l = (L, c) := ⟨_, _, rfl⟩
  obtain ⟨C, d, hC⟩ : ∃ C d, Pf.cn l = (C, d) := ⟨_, _, rfl⟩
  have hc9 : c ≤ 9 := by
    have := Pf.par_code l
    rw [hL] at this
    exact this
  have hd9 : d ≤ 9 := by
    have := Pf.cn_code l
    rw [hC] at this
    exact this
  have hlen : L.length ≤ 1000000 := by
    have := Pf.par_len l
    rw [hL] at this
    have h2 : L.length ≤ 6 := this
    omega
  have hback : c = 0 → Pf.Good L ∧ Pf.sh L = l := fun e => by
    subst e
    exact Pf.par_good hL
  rw [hL] at c1 c2
  rw [hC] at c3 c4
  have C1 := Lib.hid c1
  have C2 := Lib.hid c2
  have C3 := Lib.hid c3
  have C4 := Lib.hid c4
  have HBACK := Lib.hid hback
  clear c1 c2 c3 c4 hL hC hback
  go_enter Tryd.func3, Tryd.ntmps3
  go_wp2_with fail
  refine (C1.out _).mono ?_
  rintro e w1 ⟨v1, rfl, ho1, hb1⟩
  have hr1 := prow_of ho1
  have HR1 := Lib.hid hr1
  clear hr1 ho1
  go_wp2_with fail
  refine (C2.out _).mono ?_
  rintro e w2 ⟨v2, rfl, hr2, hb2⟩
  have HR2 := Lib.hid hr2
  clear hr2
  go_wp2_with fail
  refine (C3.out _).mono ?_
  rintro e w3 ⟨rfl, hb3⟩
  go_wp2_with fail
  refine (C4.out _).mono ?_
  rintro e w4 ⟨rfl, hb4⟩
  have hq1 := prow_below (prow_below (prow_below HR1.out hb2) hb3) hb4
  have hq2 := prow_below (prow_below HR2.out hb3) hb4
  have hb04 := below_next hb1 (below_next hb2 (below_next hb3 hb4))
  have hsame := same_any L v1 v2 w4 hq1 hq2 hlen
  have HSM := Lib.hid hsame
  have HQ1 := Lib.hid hq1
  have hn1 := fun W => num_any (c : Int) W (by omega) (by omega)
  have hn2 := fun W => num_any (d : Int) W (by omega) (by omega)
  have HN1 := Lib.hid hn1
  have HN2 := Lib.hid hn2
  clear hsame hq1 hq2 hb1 hb2 hb3 hb4 HR1 HR2 hn1 hn2
  go_wp2_with (first
    | (go_at_call 11; refine (HN1.out _).mono ?_; rintro e w' ⟨rfl, rfl⟩)
    | (go_at_call 12; refine HSM.out.mono ?_))
  rintro e w5 ⟨rfl, hb5⟩
  have hb05 := below_next hb04 hb5
  by_cases hc0 : c = 0
  · obtain ⟨hg, hsh⟩ := HBACK.out hc0
    have hshow := show_any L v1 w5 (prow_below HQ1.out hb5) hlen (name_len hg)
    rw [hsh] at hshow
    have HSH := Lib.hid hshow
    subst hc0
    clear hg hsh hshow hb04 hb5
    go_wp2_with (first
      | (go_at_call 11; refine (HN2.out _).mono ?_; rintro e w' ⟨rfl, rfl⟩)
      | (go_at_call 13; refine HSH.out.mono ?_))
    rintro e w6 ⟨rfl, hb6⟩
    have hb06 := below_next hb05 hb6
    clear hb05 hb6
    go_wp2_with (go_at_call 6; refine (pf.live_any _).mono ?_)
    rintro e w7 ⟨rfl, hb7⟩
    go_wp2
    go_ret
    exact ⟨rfl, below_next hb06 hb7⟩
  · have hcb : (((c : Nat) : Int) == 0) = false := by
      simp only [beq_eq_false_iff_ne, Ne]
      omega
    clear hb04 hb5
    go_wp2_with (first
      | (go_at_call 11; refine (HN2.out _).mono ?_; rintro e w' ⟨rfl, rfl⟩)
      | (go_at_call 6; refine (pf.live_any _).mono ?_))
    rintro e w7 ⟨rfl, hb7⟩
    go_wp2
    go_ret
    exact ⟨rfl, below_next hb05 hb7⟩
theorem walk (s : ByteArray) (hs : s.size ≤ 140737488355328) (w : World) : Calls Tryd.prog 3 #[.string s] w fun e w' => e = .returned (.bool true) ∧ Below w.heap.size w w' := by
  by_cases h : 1000 < s.size
  · exact walk_big s h hs w
  · have := walk_small s.data.toList (by rw [ba_len]; omega) w
    rw [bs_data] at this
    exact this
theorem own : ownKnob Tryd.prog.godebug = none := by kernel_rfl
theorem laidOut : laidOutB Tryd.prog = true := by kernel_rfl
set_option maxRecDepth 100000 in
theorem contract (H : Type) (enc : TypeId × Value → H) (W : World) (base : Nat) (args : Array Value) (ds gs : List (DataW H)) (before : List MemPlace)
    (hval0 : ∀ (j : Nat) t v, Tryd.f3.params[j]? = some t → args[j]? = some v → Value.okWide Tryd.prog W .any base t v)
    (hW : DataW.Whole enc Tryd.prog Tryd.f3.params.toList Rows.propParsesSpec.vars false W args.toList ds gs before) (hreach : (DataW.weightsEach Tryd.prog (Tryd.f3.params.toList ++ Rows.propParsesSpec.plain.varTypes Tryd.prog) (ds ++ gs)).all (· ≤ reachBytes) = true) :
    Calls Tryd.prog 3 args W fun e W' => ∃ v, e = .returned v ∧ Rows.propParsesSpec.post enc Tryd.prog Tryd.f3 false true false false W args v W' := by
  have hval : ∀ (j : Nat) t v, Tryd.f3.params[j]? = some t → args[j]? = some v → Value.okWide Tryd.prog W .any base t v := hval0
  clear hval0
  have hW' := hW
  obtain ⟨p, q, hA0, hV, rfl, hfz, hnd⟩ := hW
  have hA : DataW.TrodAll enc Tryd.prog W 0 (fun _ => true) true Tryd.f3.params.toList args.toList ds p := hA0
  rw [Tryd.params3] at hA hval
  obtain ⟨v0, vs0, d0, ds0, p0, q0, hargs, rfl, rfl, h0, r0⟩ := trodAll_cons hA
  obtain ⟨rfl, rfl, rfl⟩ := trodAll_nil r0
  obtain rfl : args = #[v0] := by cases args; simp_all
  obtain ⟨rfl, rfl⟩ := trodVars_none hV
  obtain ⟨a0, rfl, rfl, rfl, w0⟩ := open_string Tryd.underlying9 (hval 0 9 v0 rfl rfl) h0
  have r0_ := str_reach hreach (j := 0) (t := 9) (s := a0) rfl rfl
  clear hA0
  refine (walk a0 r0_ W).mono fun e W' ⟨he, hb⟩ => ?_
  subst he
  exact ⟨_, rfl, law_post laidOut (by kernel_rfl) rfl Tryd.underlying4 rfl hW' rfl hb⟩

set_option maxRecDepth 100000 in
theorem lifted (os : Os) (started : os.Started) (H : Type) (enc : TypeId × Value → H) :
    ReturnsInHanded {} Tryd.checked os 3 .any (fun w args => (Rows.propParsesSpec.pre enc Tryd.prog Tryd.f3 Rows.propParsesRow.domain false w args ∧ laidMetH Tryd.prog Rows.propParsesRow.laid w) ∧ sizedMet enc Tryd.prog Tryd.f3 (OpenSpec.ofChange Rows.propParsesSpec) false w args)
      (Rows.propParsesSpec.post enc Tryd.prog Tryd.f3 false true false false) := by
  refine returnsInHanded_of_change_and (C := Tryd.checked) (X := fun w _ => laidMetH Tryd.prog Rows.propParsesRow.laid w) (fun _ _ _ hh h => h.of_heap hh) own started (by kernel_rfl) Tryd.func3
    (ChangeSpec.witness_shaped (enc := enc) (C := Tryd.checked) (os := os) (X := fun w _ => laidMetH Tryd.prog Rows.propParsesRow.laid w) false (World.laidAll Tryd.prog os Rows.propParsesRow.laid) #[.string ByteArray.empty] 8 (World.laidAll_os _ _ _)
      (World.shaped_of_ZipB (by kernel_rfl) (by kernel_rfl)) (by kernel_rfl) (by kernel_rfl) (by kernel_rfl)
      (by rw [MakeChecks.laidMetH_plain _ _ _ (by kernel_rfl)]; exact laidMet_laidAll _ (by kernel_rfl) (by kernel_rfl))) ?_
  intro W base args ds gs before hval0 hW _ hreach _ _
  exact contract H enc W base args ds gs before hval0 hW hreach

theorem bare : Rows.PropParsesSaid :=
  OpenClaim.holds_of_wide 3 Tryd.f3 rfl rfl rfl rfl rfl rfl rfl ⟨rfl, rfl, rfl, rfl, rfl⟩ rfl rfl rfl rfl rfl (by kernel_rfl) Tryd.func3 (by kernel_rfl)
    (of_decide_eq_true (by kernel_rfl)) (by unfold Func.isWrapper; first | (rw [if_pos (by decide +kernel)]; kernel_rfl) | (rw [if_neg (by decide +kernel)]; exact ⟨rfl, rfl⟩))
    (fun os started H enc _ => lifted os started H enc)

/-- THE STATEMENT -/
theorem proved : Rows.PropParsesCardSaid :=
  Claim7.holds_tied_plain_at .later [] Rows.propParsesCard.laidKinds true Rows.propParsesCard.stood.harness false bare (fun _ h => by cases h) (by kernel_rfl) (fun _ h => by cases h) propParses_row_tie rfl ⟨rfl, rfl⟩ (by kernel_rfl) rfl
    (fun f fn hf hfn => by
      obtain rfl : f = 3 := Option.some.inj ((show Tryd.prog.funcNamed Rows.propParsesRow.func = some 3 by kernel_rfl).symm.trans hf) |>.symm
      obtain rfl : fn = Tryd.f3 := (Option.some.inj (Tryd.func3.symm.trans hfn)).symm
      exact ⟨by kernel_rfl, fun j t ht => by
        rw [Tryd.params3] at ht
        have hm : t ∈ [9] := by simpa using Array.mem_of_getElem? ht
        have hall : ([9].all fun u => !Tryd.prog.wantsStandIn u) = true := by kernel_rfl
        exact (show Tryd.prog.wantsStandIn t = false by simpa using List.all_eq_true.1 hall t hm)⟩)
    (by kernel_rfl)
end propParses
end Go.Proofs.YtdfollcglldocaaDoor
