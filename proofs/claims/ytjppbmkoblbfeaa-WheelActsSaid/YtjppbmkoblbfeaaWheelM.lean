/-
  THE LAW WheelActs.
-/
import Derived.Test.YtjppbmkoblbfeaaWheelL
import Derived.Test.YtjppbmkoblbfeaaFrame
import Derived.Deep.DeepCutAuto
namespace Go.Proofs.Ytjppbmkoblbfeaa
open Go.RowKit Wl
open Go.ChangeShapes Go.WideShapes Go.ChangeAt Go.Joins
set_option linter.unusedVariables false
namespace wheelActs
set_option maxHeartbeats 1000000 in
theorem walk_big (now : Nat) (p : Option Addr) (n cap : Nat) (w : World) (h : 200 < n) (hn : n ≤ 9223372036854775807) :
    Calls Try.prog 3 #[.int .u64 now, .slice p n cap] w fun e w' => e = .returned (.bool true) ∧ Below w.heap.size w w' := by
  go_enter Try.func3, Try.ntmps3
  go_wp2_with fail
  refine (whl.live_any _).mono ?_
  rintro e w' ⟨rfl, hb⟩
  go_wp2
  go_ret
  exact ⟨rfl, hb⟩
theorem pt_len (L : List T) (k : Int) (a : Nat) : (pt L k a).2.length ≤ L.length + 1 := by
  unfold pt
  split
  · exact Nat.le_succ _
  · split
    · exact Nat.le_succ _
    · rw [List.length_append]; exact Nat.le_refl _
set_option maxHeartbeats 4000000 in
set_option maxRecDepth 20000 in
theorem walk_small (now : Nat) (hnow : now < 2 ^ 64) (p : Option Addr) (n cap : Nat) (acts : List A) (w : World) (hn : acts.length = n) (hn2 : n ≤ 200) (haw : AW acts) (hac : AC w p acts) :
    Calls Try.prog 3 #[.int .u64 now, .slice p n cap] w fun e w' => e = .returned (.bool true) ∧ Below w.heap.size w w' := by
  have HN := Lib.hid hn
  have HAW := Lib.hid haw
  have HAC := Lib.hid hac
  have HNEW := Lib.hid (new_any now w hnow)
  have HU := Lib.hid num_any
  obtain ⟨zn, hzn⟩ : ∃ z : Int, (now : Int) = z := ⟨_, rfl⟩
  have HZN := Lib.hid hzn
  rw [hzn] at HNEW ⊢
  have hdec : decide ((200 : Int) < (n : Int)) = false := by rw [decide_eq_false_iff_not]; omega
  clear hn haw hac hzn hnow
  go_enter Try.func3, Try.ntmps3
  go_wp2_with (go_at_call 7; refine HNEW.out.mono ?_)
  rintro e w1 ⟨D1, rfl, hw1, hf1, hb1⟩
  have o1 := Own.new hw1 hf1 hb1
  obtain ⟨b, hb⟩ : ∃ b, D1.b = b := ⟨_, rfl⟩
  obtain ⟨br, hbr⟩ : ∃ br, w1.heap.size = br := ⟨_, rfl⟩
  have HBR : Hid (w.heap.size ≤ br) := Lib.hid (by rw [← hbr]; exact o1.bl.size)
  obtain ⟨W2, hW2⟩ : ∃ W2, w1.alloc (.cells #[.int .u64 zn, .slice none 0 0] 30) = W2 := ⟨_, rfl⟩
  have HBEG : Hid (∃ D v now L, D.b = b ∧ L.length ≤ 0 ∧ Both w D br v now L W2 ∧ Below w.heap.size w W2) := Lib.hid (by
    have hbl : Below w1.heap.size w1 W2 := by rw [← hW2]; exact (Below.refl _ _).alloc (Nat.le_refl _) _
    have e1 : W2.heap[br]? = some (.cells #[.int .u64 zn, .slice none 0 0] 30) := by rw [← hW2, ← hbr]; exact (MapKept.heap_alloc _ _).1
    have o2 := o1.below hbl
    refine ⟨D1, .slice none 0 0, now, [], hb, Nat.le_refl _, ⟨o2, ⟨⟨_, e1⟩, ?_, ?_, OwnT.nil _ _, List.nodup_nil, by simp⟩, HBR.out⟩, o2.bl⟩
    · simp only [World.cell?, e1]; rw [HZN.out]; rfl
    · simp only [World.cell?, e1]; rfl)
  rw [hb]
  clear hw1 hf1 hb1 o1 hb
  go_wp2
  go_loopw [7] (fun i wr => ∃ j : Nat, i = .int .i64 j ∧ j ≤ n ∧ Hid (∃ D v now L, D.b = b ∧ L.length ≤ j ∧ Both w D br v now L wr ∧ Below w.heap.size w wr)) (fun i _ => n - (intOf i).toNat)
  case atStart => exact ⟨0, rfl, Nat.zero_le _, HBEG⟩
  case round =>
    obtain ⟨j, rfl, hj, hr⟩ := hrel
    obtain ⟨D, v, nw, L, hDb, hLj, hB, hbl⟩ := hr.out
    by_cases hlt : j < n
    · obtain ⟨g0, off, rfl, hg0, hx0, hx1, hx2⟩ := (HAC.out.below hbl (Nat.le_refl _)) j (by rw [HN.out]; exact hlt)
      have HX : Hid (Mi.Wf (acts.getD j a0).id ∧ (acts.getD j a0).tick < 2 ^ 64) := Lib.hid (HAW.out.get (by rw [HN.out]; exact hlt))
      obtain ⟨x, hx⟩ : ∃ x, acts.getD j a0 = x := ⟨_, rfl⟩
      rw [hx] at hx0 hx1 hx2 HX
      have HLT : Hid (L.length < 1000) := Lib.hid (by omega)
      have hltz : (j : Int) < (n : Int) := by omega
      obtain ⟨g, hg⟩ : ∃ g, wr.heap.size = g := ⟨_, rfl⟩
      obtain ⟨W3, hW3⟩ : ∃ W3, wr.alloc (.cells #[.int .i64 x.kind, .int .i64 x.id, .int .u64 (x.tick : Nat)] 32) = W3 := ⟨_, rfl⟩
      have HPS : ∀ L1, PS w b br g x nw L L1 false false W3 := fun L1 => by
        have hbl3 : Below wr.heap.size wr W3 := by rw [← hW3]; exact (Below.refl _ _).alloc (Nat.le_refl _) _
        have hB3 := hB.below hbl3
        exact ⟨D, v, hDb, hB3.own, hB3.rw, by rw [← hW3, ← hg]; exact (MapKept.heap_alloc _ _).1⟩
      have HP3 := Lib.hid HPS
      obtain ⟨hq0, hq1, hq2⟩ := (HPS []).cells
      have HLJ := Lib.hid hLj
      clear HPS hB hbl hr hx hDb hLj
      by_cases hk0 : x.kind = 0
      · have hkb : (x.kind == 0) = true := by simpa using hk0
        clear hk0
        have hlen1 : Hid ((pt L x.id x.tick).2.length ≤ j + 1) := Lib.hid (Nat.le_trans (pt_len _ _ _) (by have := HLJ.out; omega))
        go_wp2_with fail
        refine Bz.wp_region (S := Bz.by2 5 12 (fun b1 b2 w1 => PS w b br g x nw L (pt L x.id x.tick).2 b1 b2 w1)) (by kernel_rfl) ?_ ?_
        · exact Bz.by2_start (by decide) (by decide) ((HP3.out _).drew)
        repeat (first
          | (refine Bz.anyR_value (v := ?_) (by kernel_rfl) (fun m w1 _ hS => Bz.by2_set (by decide) (by decide) m w1 hS) (by rfl) (fun _ _ _ h => h) (fun m w1 _ hS => ?_) ?_
             rotate_left
             · obtain ⟨h0, h1, h2⟩ := PS.cells hS
               go_simp
               with_reducible rfl
             simp only [Act.put, List.setIfInBounds_toArray, List.set_cons_zero, List.set_cons_succ])
          | (refine Bz.anyR_call (v := ?_) (f := ?_) (args := ?_) (by kernel_rfl) (by rfl) (fun _ _ _ h => h) (fun m w1 hm hS => ?_) (fun m w1 hm hS => ?_) ?_
             rotate_left 3
             · go_simp
               (try constructor) <;> with_reducible rfl
             · first
                 | (have hS2 := hS; unfold Bz.by2 at hS2; rw [hm.1] at hS2; with_reducible refine ((PS.put hS2 HX.out.1 HX.out.2 HLT.out).mono ?_); rintro e w' ⟨rfl, hp⟩; refine ⟨?_, Bz.by2_A (by decide) m w' hp⟩; with_reducible rfl)
                 | (have hS2 := hS; unfold Bz.by2 at hS2; rw [hm.1] at hS2; with_reducible refine ((PS.rput hS2 HBR.out HX.out.1 HLT.out).mono ?_); rintro e w' ⟨rfl, hp⟩; refine ⟨?_, Bz.by2_B (by decide) m w' hp⟩; with_reducible rfl)
                 | (with_reducible refine ((HU.out _ _).mono ?_); rintro e w' ⟨rfl, rfl⟩; refine ⟨?_, Bz.by2_set (by decide) (by decide) m _ hS⟩; with_reducible rfl)
             simp only [Act.put, List.setIfInBounds_toArray, List.set_cons_zero, List.set_cons_succ])
          | refine Bz.anyR_done (by kernel_rfl) (fun w1 hS => ?_))
        have hfin := Bz.by2_end (by decide) (by decide) (by decide) (by decide) hS
        clear hS
        obtain ⟨hq0, hq1, hq2⟩ := hfin.cells
        have HEND : Hid (∃ D' v', D'.b = b ∧ Own w D' nw (pt L x.id x.tick).2 w1 ∧ RW w1 w.heap.size br v' nw (pt L x.id x.tick).2) := Lib.hid (by
          obtain ⟨D', v', e1, e2, e3, _⟩ := hfin
          exact ⟨D', v', e1, e2, e3⟩)
        clear hfin hkb
        obtain ⟨D', v', hbD, hown', hrw'⟩ := HEND.out
        have hs := lsame_any (D := D') ⟨hown', hrw', HBR.out⟩ x.id HX.out.1
        rw [hbD] at hs
        have HSM := Lib.hid hs
        clear hs hown' hrw' hbD
        go_wp2_with fail
        refine HSM.out.mono ?_
        rintro e w6 ⟨rfl, hb6⟩
        have HN : Hid (∃ D v now L, D.b = b ∧ L.length ≤ j + 1 ∧ Both w D br v now L w6 ∧ Below w.heap.size w w6) := Lib.hid (by
          obtain ⟨D', v', hbD, hown', hrw'⟩ := HEND.out
          have hB : Both w D' br v' nw (pt L x.id x.tick).2 w1 := ⟨hown', hrw', HBR.out⟩
          exact ⟨D', v', nw, (pt L x.id x.tick).2, hbD, hlen1.out, hB.below hb6, (hB.below hb6).own.bl⟩)
        clear hb6 HSM HEND
        go_wp2
        go_roundw
        case rel => exact ⟨j + 1, by go_num, hlt, HN⟩
        case measure => simp [intOf]; omega
      · have hkb : (x.kind == 0) = false := by simpa using hk0
        by_cases hk1 : x.kind = 1
        · have hkb1 : (x.kind == 1) = true := by simpa using hk1
          clear hk0 hk1
          have hlen1 : Hid ((drp L x.id).length ≤ j + 1) := Lib.hid (by
            have h1 : (drp L x.id).length ≤ L.length := by unfold drp; exact List.length_filter_le _ _
            have := HLJ.out
            omega)
          go_wp2_with fail
          refine Bz.wp_region (S := Bz.by2 3 7 (fun b1 b2 w1 => PS w b br g x nw L (drp L x.id) b1 b2 w1)) (by kernel_rfl) ?_ ?_
          · exact Bz.by2_start (by decide) (by decide) ((HP3.out _).drew)
          repeat (first
            | (refine Bz.anyR_value (v := ?_) (by kernel_rfl) (fun m w1 _ hS => Bz.by2_set (by decide) (by decide) m w1 hS) (by rfl) (fun _ _ _ h => h) (fun m w1 _ hS => ?_) ?_
               rotate_left
               · obtain ⟨h0, h1, h2⟩ := PS.cells hS
                 go_simp
                 with_reducible rfl
               simp only [Act.put, List.setIfInBounds_toArray, List.set_cons_zero, List.set_cons_succ])
            | (refine Bz.anyR_call (v := ?_) (f := ?_) (args := ?_) (by kernel_rfl) (by rfl) (fun _ _ _ h => h) (fun m w1 hm hS => ?_) (fun m w1 hm hS => ?_) ?_
               rotate_left 3
               · go_simp
                 (try constructor) <;> with_reducible rfl
               · first
                   | (have hS2 := hS; unfold Bz.by2 at hS2; rw [hm.1] at hS2; with_reducible refine ((PS.drop hS2 HX.out.1).mono ?_); rintro e w' ⟨rfl, hp⟩; refine ⟨?_, Bz.by2_A (by decide) m w' hp⟩; with_reducible rfl)
                   | (have hS2 := hS; unfold Bz.by2 at hS2; rw [hm.1] at hS2; with_reducible refine ((PS.rdrop hS2 HBR.out).mono ?_); rintro e w' ⟨rfl, hp⟩; refine ⟨?_, Bz.by2_B (by decide) m w' hp⟩; with_reducible rfl)
               simp only [Act.put, List.setIfInBounds_toArray, List.set_cons_zero, List.set_cons_succ])
            | refine Bz.anyR_done (by kernel_rfl) (fun w1 hS => ?_))
          have hfin := Bz.by2_end (by decide) (by decide) (by decide) (by decide) hS
          clear hS
          obtain ⟨hq0, hq1, hq2⟩ := hfin.cells
          have HEND : Hid (∃ D' v', D'.b = b ∧ Own w D' nw (drp L x.id) w1 ∧ RW w1 w.heap.size br v' nw (drp L x.id)) := Lib.hid (by
            obtain ⟨D', v', e1, e2, e3, _⟩ := hfin
            exact ⟨D', v', e1, e2, e3⟩)
          clear hfin hkb hkb1
          obtain ⟨D', v', hbD, hown', hrw'⟩ := HEND.out
          have hs := lsame_any (D := D') ⟨hown', hrw', HBR.out⟩ x.id HX.out.1
          rw [hbD] at hs
          have HSM := Lib.hid hs
          clear hs hown' hrw' hbD
          go_wp2_with fail
          refine HSM.out.mono ?_
          rintro e w6 ⟨rfl, hb6⟩
          have HN : Hid (∃ D v now L, D.b = b ∧ L.length ≤ j + 1 ∧ Both w D br v now L w6 ∧ Below w.heap.size w w6) := Lib.hid (by
            obtain ⟨D', v', hbD, hown', hrw'⟩ := HEND.out
            have hB : Both w D' br v' nw (drp L x.id) w1 := ⟨hown', hrw', HBR.out⟩
            exact ⟨D', v', nw, (drp L x.id), hbD, hlen1.out, hB.below hb6, (hB.below hb6).own.bl⟩)
          clear hb6 HSM HEND
          go_wp2
          go_roundw
          case rel => exact ⟨j + 1, by go_num, hlt, HN⟩
          case measure => simp [intOf]; omega
        · have hkb1 : (x.kind == 1) = false := by simpa using hk1
          clear hk0 hk1
          have hlen1 : Hid ((hi L x.tick).length ≤ j + 1) := Lib.hid (by
            have h1 : (hi L x.tick).length ≤ L.length := by unfold hi; exact List.length_filter_le _ _
            have := HLJ.out
            omega)
          go_upto_region 10 with fail
          go_cut [39] from 30 to 39 (fun s wx => s = .bool false ∧ Hid (PS w b br g x (max nw x.tick) (hi L x.tick) (hi L x.tick) false false wx))
          case first =>
            go_region_with (first
              | (go_at_call 14; refine (PS.turn (HP3.out []).drew HX.out.2).mono ?_; rintro e wa ⟨pv, nv, cv, rfl, hm⟩; have HM := Lib.hid hm; obtain ⟨m0, m1, m2⟩ := hm.cells; clear hm)
              | (go_at_call 15; refine (HM.out.rturn HBR.out).mono ?_; rintro e wb ⟨pu, nu, cu, rfl, hm2⟩; have HM2 := Lib.hid hm2; clear hm2)
              | (go_at_call 13; refine (EndT.same HM2.out).mono ?_; rintro e wc ⟨rfl, hfin⟩))
            all_goals (go_wp2_with fail; go_meet)
            all_goals exact ⟨rfl, hfin⟩
          case rest =>
            obtain ⟨rfl, hfin0⟩ := hcut
            have hfin := hfin0.out
            clear hfin0
            obtain ⟨hq0, hq1, hq2⟩ := hfin.cells
            have HEND : Hid (∃ D' v', D'.b = b ∧ Own w D' (max nw x.tick) (hi L x.tick) wc ∧ RW wc w.heap.size br v' (max nw x.tick) (hi L x.tick)) := Lib.hid (by
              obtain ⟨D', v', e1, e2, e3, _⟩ := hfin
              exact ⟨D', v', e1, e2, e3⟩)
            clear hfin hkb hkb1
            obtain ⟨D', v', hbD, hown', hrw'⟩ := HEND.out
            have hs := lsame_any (D := D') ⟨hown', hrw', HBR.out⟩ x.id HX.out.1
            rw [hbD] at hs
            have HSM := Lib.hid hs
            clear hs hown' hrw' hbD
            go_wp2_with fail
            refine HSM.out.mono ?_
            rintro e w6 ⟨rfl, hb6⟩
            have HN : Hid (∃ D v now L, D.b = b ∧ L.length ≤ j + 1 ∧ Both w D br v now L w6 ∧ Below w.heap.size w w6) := Lib.hid (by
              obtain ⟨D', v', hbD, hown', hrw'⟩ := HEND.out
              have hB : Both w D' br v' (max nw x.tick) (hi L x.tick) wc := ⟨hown', hrw', HBR.out⟩
              exact ⟨D', v', (max nw x.tick), (hi L x.tick), hbD, hlen1.out, hB.below hb6, (hB.below hb6).own.bl⟩)
            clear hb6 HSM HEND
            go_wp2
            go_roundw
            case rel => exact ⟨j + 1, by go_num, hlt, HN⟩
            case measure => simp [intOf]; omega
    · have e1 : j = n := by omega
      subst e1
      have HBL := Lib.hid hbl
      clear hbl hB hr
      go_wp2_with fail
      refine (whl.live_any _).mono ?_
      rintro e w9 ⟨rfl, hb9⟩
      have HB9 := Lib.hid (below_next HBL.out hb9)
      clear hb9
      go_wp2
      go_ret
      exact ⟨rfl, HB9.out⟩
theorem walk (a0 : Int) (w0 : (Lit.int .u64 a0).wf = true) (p : Option Addr) (n cap : Nat) (acts : List A) (hn : acts.length = n) (hmx : n ≤ maxLen) (haw : AW acts) (w : World) (hac : AC w p acts) :
    Calls Try.prog 3 #[.int .u64 a0, .slice p n cap] w fun e w' => e = .returned (.bool true) ∧ Below w.heap.size w w' := by
  obtain ⟨a, rfl, ha⟩ := u64_nat w0
  unfold maxLen at hmx
  by_cases h : 200 < n
  · exact walk_big a p n cap w h (by omega)
  · exact walk_small a ha p n cap acts w hn (by omega) haw hac
theorem own : ownKnob Try.prog.godebug = none := by kernel_rfl
theorem laidOut : laidOutB Try.prog = true := by kernel_rfl
set_option maxRecDepth 100000 in
theorem contract (H : Type) (enc : TypeId × Value → H) (W : World) (base : Nat) (args : Array Value) (ds gs : List (DataW H)) (before : List MemPlace)
    (hval0 : ∀ (j : Nat) t v, Try.f3.params[j]? = some t → args[j]? = some v → Value.okWide Try.prog W .any base t v)
    (hW : DataW.Whole enc Try.prog Try.f3.params.toList Rows.wheelActsSpec.vars false W args.toList ds gs before) :
    Calls Try.prog 3 args W fun e W' => ∃ v, e = .returned v ∧ Rows.wheelActsSpec.post enc Try.prog Try.f3 false true false false W args v W' := by
  have hval : ∀ (j : Nat) t v, Try.f3.params[j]? = some t → args[j]? = some v → Value.okWide Try.prog W .any base t v := hval0
  clear hval0
  have hW' := hW
  obtain ⟨p, q, hA0, hV, rfl, hfz, hnd⟩ := hW
  have hA : DataW.TrodAll enc Try.prog W 0 (fun _ => true) true Try.f3.params.toList args.toList ds p := hA0
  rw [Try.params3] at hA hval
  obtain ⟨v0, vs0, d0, ds0, p0, q0, hargs, rfl, rfl, h0, r0⟩ := trodAll_cons hA
  obtain ⟨v1, vs1, d1, ds1, p1, q1, rfl, rfl, rfl, h1, r1⟩ := trodAll_cons r0
  obtain ⟨rfl, rfl, rfl⟩ := trodAll_nil r1
  obtain rfl : args = #[v0, v1] := by cases args; simp_all
  obtain ⟨rfl, rfl⟩ := trodVars_none hV
  obtain ⟨a0, rfl, rfl, rfl, w0⟩ := open_int Try.underlying22 (hval 0 22 v0 rfl rfl) h0
  obtain ⟨pp, n, cap, acts, rfl, hn, hmx, haw, hac⟩ := acts_open h1 (okWide_slice Try.underlying23 (hval 1 23 v1 rfl rfl))
  clear hA0
  refine (walk a0 w0 pp n cap acts hn hmx haw W hac).mono fun e W' ⟨he, hb⟩ => ?_
  subst he
  exact ⟨_, rfl, law_post laidOut (by kernel_rfl) rfl Try.underlying4 rfl hW' rfl hb⟩

set_option maxRecDepth 100000 in
theorem lifted (os : Os) (started : os.Started) (H : Type) (enc : TypeId × Value → H) :
    ReturnsInHanded {} Try.checked os 3 .any (Rows.wheelActsSpec.pre6 enc Try.prog Try.f3 Rows.wheelActsRow.domain false) (Rows.wheelActsSpec.post enc Try.prog Try.f3 false true false false) := by
  refine returnsInHanded_of_change (C := Try.checked) own started (by kernel_rfl) Try.func3
    (ChangeSpec.witness6 (enc := enc) (C := Try.checked) false ⟨#[], #[.int .u64 0, .slice none 0 0], []⟩ 8 (by kernel_rfl) (by kernel_rfl) (by kernel_rfl) (by kernel_rfl)) ?_
  intro W base args ds gs before hval0 hW _ _
  exact contract H enc W base args ds gs before hval0 hW

/-- THE STATEMENT -/
theorem proved : Rows.WheelActsSaid :=
  OpenClaim.holds_of_wide 3 Try.f3 rfl rfl rfl rfl rfl rfl rfl ⟨rfl, rfl, rfl, rfl, rfl⟩ rfl rfl rfl rfl rfl (by kernel_rfl) Try.func3 (by kernel_rfl)
    (of_decide_eq_true (by kernel_rfl)) (by unfold Func.isWrapper; first | (rw [if_pos (by decide +kernel)]; kernel_rfl) | (rw [if_neg (by decide +kernel)]; exact ⟨rfl, rfl⟩))
    (fun os started H enc _ => lifted os started H enc)
end wheelActs
end Go.Proofs.Ytjppbmkoblbfeaa
