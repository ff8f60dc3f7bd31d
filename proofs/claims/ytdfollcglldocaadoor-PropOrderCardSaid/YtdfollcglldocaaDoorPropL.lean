/-
  The law PropOrder: what is canonical stays so; pieces that stand the other way about change neither it nor what matches.
-/
import Derived.Test.YtdfollcglldocaaDoorPropI
namespace Go.Proofs.YtdfollcglldocaaDoor
open Go.RowKit Bt
open Go.ChangeShapes Go.WideShapes Go.ChangeAt
open Go.ChangeMaps (open_string shut_string)
set_option linter.unusedVariables false

namespace propOrder
theorem rev_snoc {L : List PR} {j : Nat} (h : j < L.length) : (L.drop (j + 1)).reverse ++ [L.getD j p0] = (L.drop j).reverse := by
  rw [drop_pr h, List.reverse_cons]
/-- what is known of a platform -/
structure Known (s t : List UInt8) (L : List PR) : Prop where
  c1 : Pf.cn s = (Pf.sh (Pf.srt L), 0)
  c2 : Pf.cn (Pf.sh L.reverse) = (Pf.sh (Pf.srt L), 0)
  c3 : Pf.cn (Pf.sh (Pf.srt L)) = (Pf.sh (Pf.srt L), 0)
  m1 : Pf.mt (Pf.sh L.reverse) t = Pf.mt s t
  m2 : Pf.mt t (Pf.sh (Pf.srt L)) = Pf.mt t s
  m3 : Pf.mt s s = true
theorem known_of {s : List UInt8} {L : List PR} (h : Pf.par s = (L, 0)) (t : List UInt8) : Known s t L := by
  obtain ⟨hg, hs⟩ := Pf.par_good h
  have hsrt := Pf.srt_srt hg.keys
  have hrev : L.Perm L.reverse := L.reverse_perm.symm
  have hgr := Pf.good_perm hrev hg
  have hgs := Pf.good_perm hsrt.1 hg
  subst hs
  refine ⟨?_, ?_, ?_, ?_, ?_, ?_⟩
  · exact Pf.cn_of (by rw [h]) (by rw [h]; exact hsrt)
  · exact Pf.cn_of (by rw [Pf.par_sh hgr]) (by rw [Pf.par_sh hgr]; exact ⟨hrev.symm.trans hsrt.1, hsrt.2⟩)
  · exact Pf.cn_of (by rw [Pf.par_sh hgs]) (by rw [Pf.par_sh hgs]; exact ⟨List.Perm.refl _, hsrt.2⟩)
  · exact (Pf.mt_perm_left hrev hg t).symm
  · exact (Pf.mt_perm_right hsrt.1 hg t).symm
  · exact Pf.mt_self hg
theorem sh_short {L : List PR} (hg : Pf.Good L) : (Pf.sh L).length ≤ 1000000 := by
  have h1 := sh_len L L.length
  rw [List.take_length] at h1
  exact Nat.le_trans h1 (name_len hg)
set_option maxRecDepth 100000 in
set_option maxHeartbeats 1000000 in
theorem walk_none (l m : List UInt8) (hl : l.length ≤ 140737488355328) (hm : m.length ≤ 140737488355328) (c : Nat) (L : List PR) (hp : Pf.par l = (L, c)) (h : 1000 < l.length ∨ 1000 < m.length ∨ c ≠ 0) (w : World) :
    Calls Tryd.prog 5 #[.string (bs l), .string (bs m)] w fun e w' => e = .returned (.bool true) ∧ Below w.heap.size w w' := by
  have c1 := fun w => parse_any (bs l) w (by rw [bs_size]; exact hl)
  rw [bs_list, hp] at c1
  have hc9 : c ≤ 9 := by
    have := Pf.par_code l
    rw [hp] at this
    exact this
  have C1 := Lib.hid c1
  have hn1 := fun W => num_any (c : Int) W (by omega) (by omega)
  have HN1 := Lib.hid hn1
  clear c1 hp hn1
  by_cases h1 : 1000 < l.length
  · clear h
    go_enter Tryd.func5, Tryd.ntmps5
    go_wp2_with fail
    refine (C1.out _).mono ?_
    rintro e w1 ⟨v1, rfl, ho1, hb1⟩
    clear ho1
    go_wp2_with (go_at_call 6; refine (pf.live_any _).mono ?_; rintro e w' ⟨rfl, hb3⟩)
    go_ret
    exact ⟨rfl, below_next hb1 hb3⟩
  · by_cases h2 : 1000 < m.length
    · clear h
      go_enter Tryd.func5, Tryd.ntmps5
      go_wp2_with fail
      refine (C1.out _).mono ?_
      rintro e w1 ⟨v1, rfl, ho1, hb1⟩
      clear ho1
      go_wp2_with (go_at_call 6; refine (pf.live_any _).mono ?_; rintro e w' ⟨rfl, hb3⟩)
      go_ret
      exact ⟨rfl, below_next hb1 hb3⟩
    · have hc0 : c ≠ 0 := by
        rcases h with h | h | h
        · exact absurd h h1
        · exact absurd h h2
        · exact h
      have hcb : (((c : Nat) : Int) == 0) = false := by
        simp only [beq_eq_false_iff_ne, Ne]
        omega
      have hcn : (((c : Nat) : Int) != 0) = true := by
        rw [bne, hcb]
        rfl
      clear h
      go_enter Tryd.func5, Tryd.ntmps5
      go_wp2_with fail
      refine (C1.out _).mono ?_
      rintro e w1 ⟨v1, rfl, ho1, hb1⟩
      clear ho1
      go_wp2_with (first
        | (go_at_call 11; refine (HN1.out _).mono ?_; rintro e w' ⟨rfl, rfl⟩)
        | (go_at_call 6; refine (pf.live_any _).mono ?_; rintro e w' ⟨rfl, hb3⟩))
      go_ret
      exact ⟨rfl, below_next hb1 ‹_›⟩
set_option maxRecDepth 100000 in
set_option maxHeartbeats 2000000 in
theorem walk_small (l m : List UInt8) (hl : l.length ≤ 1000) (hm : m.length ≤ 1000) (L : List PR) (hp : Pf.par l = (L, 0)) (w : World) :
    Calls Tryd.prog 5 #[.string (bs l), .string (bs m)] w fun e w' => e = .returned (.bool true) ∧ Below w.heap.size w w' := by
  have hlz : (bs l).size ≤ 1000 := by rw [bs_size]; exact hl
  have hmz : (bs m).size ≤ 1000 := by rw [bs_size]; exact hm
  have c1 := fun w => parse_any (bs l) w (by omega)
  rw [bs_list, hp] at c1
  have hk := known_of hp m
  have hg := (Pf.par_good hp).1
  have hgr := Pf.good_perm L.reverse_perm.symm hg
  have hgs := Pf.good_perm (Pf.srt_srt hg.keys).1 hg
  obtain ⟨U, hU⟩ : ∃ U, Pf.sh L.reverse = U := ⟨_, rfl⟩
  obtain ⟨X, hX⟩ : ∃ X, Pf.sh (Pf.srt L) = X := ⟨_, rfl⟩
  have hUl : (bs U).size ≤ 1000000 := by rw [bs_size, ← hU]; exact sh_short hgr
  have hXl : (bs X).size ≤ 1000000 := by rw [bs_size, ← hX]; exact sh_short hgs
  have k1 := hk.c1
  have k2 := hk.c2
  have k3 := hk.c3
  have k4 := hk.m1
  have k5 := hk.m2
  have k6 := hk.m3
  rw [hX] at k1 k2 k3 k5
  rw [hU] at k2 k4
  obtain ⟨a, ha⟩ : ∃ a, Pf.mt l m = a := ⟨_, rfl⟩
  obtain ⟨b, hb⟩ : ∃ b, Pf.mt m l = b := ⟨_, rfl⟩
  have d1 := fun w => canon_any (bs l) w (by omega)
  have d2 := fun w => canon_any (bs U) w (by omega)
  have d3 := fun w => canon_any (bs X) w (by omega)
  have e1 := fun w => match_any (bs l) (bs m) w (by omega) (by omega)
  have e2 := fun w => match_any (bs U) (bs m) w (by omega) (by omega)
  have e3 := fun w => match_any (bs m) (bs l) w (by omega) (by omega)
  have e4 := fun w => match_any (bs m) (bs X) w (by omega) (by omega)
  have e5 := fun w => match_any (bs l) (bs l) w (by omega) (by omega)
  rw [bs_list, k1] at d1
  rw [bs_list, k2] at d2
  rw [bs_list, k3] at d3
  rw [bs_list, bs_list, ha] at e1
  rw [bs_list, bs_list, k4, ha] at e2
  rw [bs_list, bs_list, hb] at e3
  rw [bs_list, bs_list, k5, hb] at e4
  rw [bs_list, k6] at e5
  have hshow := fun v w hr => show_any L.reverse v w hr (by have := hgr.len; omega) (name_len hgr)
  rw [hU] at hshow
  have hn0 := fun W => num_any 0 W (by omega) (by omega)
  have hL6 := hg.len
  have C1 := Lib.hid c1
  have D1 := Lib.hid d1
  have D2 := Lib.hid d2
  have D3 := Lib.hid d3
  have E1 := Lib.hid e1
  have E2 := Lib.hid e2
  have E3 := Lib.hid e3
  have E4 := Lib.hid e4
  have E5 := Lib.hid e5
  have HSH := Lib.hid hshow
  have HN0 := Lib.hid hn0
  clear c1 d1 d2 d3 e1 e2 e3 e4 e5 hshow hn0 k1 k2 k3 k4 k5 k6 hk hg hgr hgs hU hX hUl hXl ha hb hp hlz hmz
  obtain ⟨i0, hi, hz0, hz1, hz2⟩ := info_parts info_pair
  have HI := Lib.hid hi
  have HZ0 := Lib.hid hz0
  have HZ1 := Lib.hid hz1
  have HZ2 := Lib.hid hz2
  clear hi hz0 hz1 hz2
  go_enter Tryd.func5, Tryd.ntmps5
  go_wp2_with fail
  refine (C1.out _).mono ?_
  rintro e w1 ⟨v1, rfl, ho1, hb1⟩
  obtain ⟨p, cap, rfl, hp⟩ := prow_of ho1
  have HPP := Lib.hid hp
  have HB1 := Lib.hid hb1
  obtain ⟨n, hn⟩ : ∃ n, L.length = n := ⟨_, rfl⟩
  rw [show (L, 0).fst.length = L.length from rfl] at *
  rw [hn] at hL6 ⊢
  have HN := Lib.hid hn
  have hr11 : (w1.alloc (.cells #[] 39)).ownsRow w1.heap.size 39 2 (.slice (some ⟨w1.heap.size, 0, none⟩) 0 0) 0 (pcells []) := World.ownsRow_made w1 #[] 0 (Nat.le_refl _) (by decide) rfl
  have HR11 := Lib.hid hr11
  clear hp ho1 hb1 hn hr11 C1
  go_wp2_with (go_at_call 11; refine (HN0.out _).mono ?_; rintro e w' ⟨rfl, hw⟩; rw [← hw]; clear hw)
  go_loopw [7, 8] (fun o i wr => ∃ (k : Nat) (z : Int) (done : List PR), i = .int .i64 z ∧ z = (k : Int) - 1 ∧ k ≤ n ∧ done.length + k = n ∧ Hid (done = (L.drop k).reverse) ∧ wr.ownsRow w1.heap.size 39 2 o done.length (pcells done) ∧ Below w1.heap.size w1 wr) (fun _ i _ => (intOf i + 1).toNat)
  case atStart => exact ⟨n, (n : Int) - 1, [], by go_num, rfl, Nat.le_refl _, by simp, Lib.hid (by rw [List.drop_eq_nil_of_le (by rw [HN.out]; omega)]; rfl), HR11.out, (Below.refl _ w1).alloc (Nat.le_refl _) _⟩
  case round =>
    obtain ⟨k, z, done, rfl, hz, hk, hdk, hdone, hown, hb⟩ := hrel
    cases k with
    | zero =>
      obtain rfl : z = -1 := by omega
      have hdn : done = L.reverse := by rw [hdone.out]; rfl
      have hrow := prow_of hown
      rw [hdn] at hrow
      have hsh := HSH.out _ wr hrow
      have HS := Lib.hid hsh
      clear hdone hdn hrow hsh hown hz
      go_wp2_with fail
      refine HS.out.mono ?_
      rintro e w3 ⟨rfl, hb3⟩
      have hb03 := below_next HB1.out (below_next hb hb3)
      clear hb hb3
      go_wp2_with fail
      refine (D1.out _).mono ?_
      rintro e w4 ⟨rfl, hb4⟩
      go_wp2_with fail
      refine (D2.out _).mono ?_
      rintro e w5 ⟨rfl, hb5⟩
      go_wp2_with fail
      refine (D3.out _).mono ?_
      rintro e w6 ⟨rfl, hb6⟩
      have hb06 := below_next hb03 (below_next hb4 (below_next hb5 hb6))
      clear hb03 hb4 hb5 hb6 D1 D2 D3
      go_wp2_with (first | (go_at_call 11; refine (HN0.out _).mono ?_; rintro e w' ⟨rfl, hw⟩; rw [← hw]; clear hw) | fail)
      refine (E1.out _).mono ?_
      rintro e w7 ⟨rfl, hb7⟩
      go_wp2_with fail
      refine (E2.out _).mono ?_
      rintro e w8 ⟨rfl, hb8⟩
      go_wp2_with fail
      refine (E3.out _).mono ?_
      rintro e w9 ⟨rfl, hb9⟩
      go_wp2_with fail
      refine (E4.out _).mono ?_
      rintro e w10 ⟨rfl, hb10⟩
      go_wp2_with fail
      refine (E5.out _).mono ?_
      rintro e w11 ⟨rfl, hb11⟩
      go_wp2_with (go_at_call 6; refine (pf.live_any _).mono ?_)
      rintro e w12 ⟨rfl, hb12⟩
      go_wp2
      go_ret
      exact ⟨rfl, below_next hb06 (below_next hb7 (below_next hb8 (below_next hb9 (below_next hb10 (below_next hb11 hb12)))))⟩
    | succ j =>
      obtain rfl : z = (j : Int) := by omega
      have hne : L ≠ [] := fun e => by
        have := HN.out
        rw [e] at this
        simp at this
        omega
      obtain ⟨g, rfl, hc⟩ := HPP.out hne
      obtain ⟨hc1, hc2⟩ := pcells_below hc hb (Nat.le_refl _) j (by rw [HN.out]; omega)
      have hd2 := rev_snoc (L := L) (j := j) (by rw [HN.out]; omega)
      rw [← hdone.out] at hd2
      obtain ⟨q, hq⟩ : ∃ q, L.getD j p0 = q := ⟨_, rfl⟩
      rw [hq] at hc1 hc2 hd2
      have HD2 := Lib.hid hd2
      have hjn : (j : Int) < (n : Int) := by omega
      clear hdone hd2 hq hne hc hz
      go_wp2_with (at_builtin; refine wpList_append_own _ rfl _ _ 23 rfl w1.heap.size 39 i0 (.agg #[.string ByteArray.empty, .string ByteArray.empty]) 2 32 Tryd.underlying23 HI.out HZ0.out HZ1.out HZ2.out rfl (by decide) _ _ _ rfl (hown.alloc _) ⟨wr.heap.size, 0, none⟩ 1 1 [.string (bs q.1), .string (bs q.2)] rfl rfl (two_cells wr _ _ _) (two_one _ _) (by unfold maxLen; omega) (by omega) (by simp; have := hb.size; omega) ?_)
      intro v5 w5 hown5 hgrow hnil
      have hown6 : w5.ownsRow w1.heap.size 39 2 v5 (done ++ [q]).length (pcells (done ++ [q])) := by
        rw [← pcells_snoc, List.length_append]
        exact hown5
      have hb5 : Below w1.heap.size w1 w5 := (hb.alloc hb.size _).grown hgrow (by simp; have := hb.size; omega) (fun k hk => (hown.lt k hk).1)
      clear hnil hown5 hown hgrow hb hc1 hc2
      go_wp2
      go_roundw
      case rel => exact ⟨j, (j : Int) - 1, done ++ [q], by go_num, rfl, by omega, by simp; omega, HD2, hown6, hb5⟩
      case measure => simp [intOf]
theorem walk (s : ByteArray) (hs : s.size ≤ 140737488355328) (t : ByteArray) (ht : t.size ≤ 140737488355328) (w : World) : Calls Tryd.prog 5 #[.string s, .string t] w fun e w' => e = .returned (.bool true) ∧ Below w.heap.size w w' := by
  obtain ⟨L, c, hL⟩ : ∃ L c, Pf.par s.data.toList = (L, c) := ⟨_, _, rfl⟩
  rw [← bs_data s, ← bs_data t]
  rw [← ba_len] at hs ht
  by_cases h : 1000 < s.data.toList.length ∨ 1000 < t.data.toList.length ∨ c ≠ 0
  · exact walk_none _ _ hs ht c L hL h w
  · have h1 : s.data.toList.length ≤ 1000 := by omega
    have h2 : t.data.toList.length ≤ 1000 := by omega
    obtain rfl : c = 0 := by omega
    exact walk_small _ _ h1 h2 L hL w
theorem own : ownKnob Tryd.prog.godebug = none := by kernel_rfl
theorem laidOut : laidOutB Tryd.prog = true := by kernel_rfl
set_option maxRecDepth 100000 in
theorem contract (H : Type) (enc : TypeId × Value → H) (W : World) (base : Nat) (args : Array Value) (ds gs : List (DataW H)) (before : List MemPlace)
    (hval0 : ∀ (j : Nat) t v, Tryd.f5.params[j]? = some t → args[j]? = some v → Value.okWide Tryd.prog W .any base t v)
    (hW : DataW.Whole enc Tryd.prog Tryd.f5.params.toList Rows.propOrderSpec.vars false W args.toList ds gs before) (hreach : (DataW.weightsEach Tryd.prog (Tryd.f5.params.toList ++ Rows.propOrderSpec.plain.varTypes Tryd.prog) (ds ++ gs)).all (· ≤ reachBytes) = true) :
    Calls Tryd.prog 5 args W fun e W' => ∃ v, e = .returned v ∧ Rows.propOrderSpec.post enc Tryd.prog Tryd.f5 false true false false W args v W' := by
  have hval : ∀ (j : Nat) t v, Tryd.f5.params[j]? = some t → args[j]? = some v → Value.okWide Tryd.prog W .any base t v := hval0
  clear hval0
  have hW' := hW
  obtain ⟨p, q, hA0, hV, rfl, hfz, hnd⟩ := hW
  have hA : DataW.TrodAll enc Tryd.prog W 0 (fun _ => true) true Tryd.f5.params.toList args.toList ds p := hA0
  rw [Tryd.params5] at hA hval
  obtain ⟨v0, vs0, d0, ds0, p0, q0, hargs, rfl, rfl, h0, r0⟩ := trodAll_cons hA
  obtain ⟨v1, vs1, d1, ds1, p1, q1, rfl, rfl, rfl, h1, r1⟩ := trodAll_cons r0
  obtain ⟨rfl, rfl, rfl⟩ := trodAll_nil r1
  obtain rfl : args = #[v0, v1] := by cases args; simp_all
  obtain ⟨rfl, rfl⟩ := trodVars_none hV
  obtain ⟨a0, rfl, rfl, rfl, w0⟩ := open_string Tryd.underlying9 (hval 0 9 v0 rfl rfl) h0
  have r0_ := str_reach hreach (j := 0) (t := 9) (s := a0) rfl rfl
  obtain ⟨a1, rfl, rfl, rfl, w1⟩ := open_string Tryd.underlying9 (hval 1 9 v1 rfl rfl) h1
  have r1_ := str_reach hreach (j := 1) (t := 9) (s := a1) rfl rfl
  clear hA0
  refine (walk a0 r0_ a1 r1_ W).mono fun e W' ⟨he, hb⟩ => ?_
  subst he
  exact ⟨_, rfl, law_post laidOut (by kernel_rfl) rfl Tryd.underlying4 rfl hW' rfl hb⟩

set_option maxRecDepth 100000 in
theorem lifted (os : Os) (started : os.Started) (H : Type) (enc : TypeId × Value → H) :
    ReturnsInHanded {} Tryd.checked os 5 .any (fun w args => (Rows.propOrderSpec.pre enc Tryd.prog Tryd.f5 Rows.propOrderRow.domain false w args ∧ laidMetH Tryd.prog Rows.propOrderRow.laid w) ∧ sizedMet enc Tryd.prog Tryd.f5 (OpenSpec.ofChange Rows.propOrderSpec) false w args)
      (Rows.propOrderSpec.post enc Tryd.prog Tryd.f5 false true false false) := by
  refine returnsInHanded_of_change_and (C := Tryd.checked) (X := fun w _ => laidMetH Tryd.prog Rows.propOrderRow.laid w) (fun _ _ _ hh h => h.of_heap hh) own started (by kernel_rfl) Tryd.func5
    (ChangeSpec.witness_shaped (enc := enc) (C := Tryd.checked) (os := os) (X := fun w _ => laidMetH Tryd.prog Rows.propOrderRow.laid w) false (World.laidAll Tryd.prog os Rows.propOrderRow.laid) #[.string ByteArray.empty, .string ByteArray.empty] 8 (World.laidAll_os _ _ _)
      (World.shaped_of_ZipB (by kernel_rfl) (by kernel_rfl)) (by kernel_rfl) (by kernel_rfl) (by kernel_rfl)
      (by rw [MakeChecks.laidMetH_plain _ _ _ (by kernel_rfl)]; exact laidMet_laidAll _ (by kernel_rfl) (by kernel_rfl))) ?_
  intro W base args ds gs before hval0 hW _ hreach _ _
  exact contract H enc W base args ds gs before hval0 hW hreach

theorem bare : Rows.PropOrderSaid :=
  OpenClaim.holds_of_wide 5 Tryd.f5 rfl rfl rfl rfl rfl rfl rfl ⟨rfl, rfl, rfl, rfl, rfl⟩ rfl rfl rfl rfl rfl (by kernel_rfl) Tryd.func5 (by kernel_rfl)
    (of_decide_eq_true (by kernel_rfl)) (by unfold Func.isWrapper; first | (rw [if_pos (by decide +kernel)]; kernel_rfl) | (rw [if_neg (by decide +kernel)]; exact ⟨rfl, rfl⟩))
    (fun os started H enc _ => lifted os started H enc)

/-- THE STATEMENT -/
theorem proved : Rows.PropOrderCardSaid :=
  Claim7.holds_tied_plain_at .later [] Rows.propOrderCard.laidKinds true Rows.propOrderCard.stood.harness false bare (fun _ h => by cases h) (by kernel_rfl) (fun _ h => by cases h) propOrder_row_tie rfl ⟨rfl, rfl⟩ (by kernel_rfl) rfl
    (fun f fn hf hfn => by
      obtain rfl : f = 5 := Option.some.inj ((show Tryd.prog.funcNamed Rows.propOrderRow.func = some 5 by kernel_rfl).symm.trans hf) |>.symm
      obtain rfl : fn = Tryd.f5 := (Option.some.inj (Tryd.func5.symm.trans hfn)).symm
      exact ⟨by kernel_rfl, fun j t ht => by
        rw [Tryd.params5] at ht
        have hm : t ∈ [9, 9] := by simpa using Array.mem_of_getElem? ht
        have hall : ([9, 9].all fun u => !Tryd.prog.wantsStandIn u) = true := by kernel_rfl
        exact (show Tryd.prog.wantsStandIn t = false by simpa using List.all_eq_true.1 hall t hm)⟩)
    (by kernel_rfl)
end propOrder
end Go.Proofs.YtdfollcglldocaaDoor
