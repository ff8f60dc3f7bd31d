/-
  THE LAW DueActs.
-/
import Derived.Test.YtlhajdmleefkiaaDueM
import Derived.Test.YtlhajdmleefkiaaFrame
import Derived.Deep.DeepCutAuto
namespace Go.Proofs.Ytlhajdmleefkiaa
open Go.RowKit Wl Dl Bt
open Go.ChangeShapes Go.WideShapes Go.ChangeAt
set_option linter.unusedVariables false
section
variable {w0 w w' : World} {b br now n1 n2 : Nat} {L L1 L2 : List X}
theorem pd_made {w1 : World} {P : Pd} (h1 : Du w1 P now [] []) (h2 : ∀ x, P.fp x → w.heap.size ≤ x) (h3 : Below w.heap.size w w1) : PD w P.bd w1.heap.size now [] now [] (w1.alloc (.cells #[.int .u64 (now : Nat), .slice none 0 0] 30)) := by
  have hb : Below w1.heap.size w1 (w1.alloc (.cells #[.int .u64 (now : Nat), .slice none 0 0] 30)) := (Below.refl _ _).alloc (Nat.le_refl _) _
  have e1 : (w1.alloc (.cells #[.int .u64 (now : Nat), .slice none 0 0] 30)).heap[w1.heap.size]? = some (.cells #[.int .u64 (now : Nat), .slice none 0 0] 30) := (MapKept.heap_alloc _ _).1
  refine ⟨P, [], .slice none 0 0, rfl, h1.below hb (Nat.le_refl _), ⟨⟨_, e1⟩, ?_, ?_, OwnX.nil _ _, by simp⟩, h2, fun x hx => ?_, fun x hx hr => ?_, h3.trans (hb.mono h3.size)⟩
  · simp only [World.cell?, e1]; rfl
  · simp only [World.cell?, e1]; rfl
  · rcases hx with rfl | hx
    · exact h3.size
    · cases hx
  · rcases hr with rfl | hr
    · have := h1.lt hx; omega
    · cases hr
theorem PD.at (h : PD w0 b br n1 L1 n2 L2 w) (k i : Int) : Calls Try.prog 9 #[.pointer (some ⟨b, 0, none⟩), .int .i64 k, .int .i64 i] w fun e w' => e = .returned (.tuple #[.int .u64 (tk L1 k i : Nat), .bool (ps L1 k i).isSome]) ∧ Below w.heap.size w w' := by
  obtain ⟨P, r, v, rfl, h1, _⟩ := h
  exact dat_any h1 k i
theorem PD.len (h : PD w0 b br n1 L1 n2 L2 w) : Calls Try.prog 13 #[.pointer (some ⟨b, 0, none⟩)] w fun e w' => e = .returned (.int .i64 L1.length) ∧ w' = w := by
  obtain ⟨P, r, v, rfl, h1, _⟩ := h
  exact dlen_any h1
theorem PD.clock (h : PD w0 b br n1 L1 n2 L2 w) : Calls Try.prog 14 #[.pointer (some ⟨b, 0, none⟩)] w fun e w' => e = .returned (.int .u64 n1) ∧ w' = w := by
  obtain ⟨P, r, v, rfl, h1, _⟩ := h
  exact dnow_any h1
def PDid (w0 : World) (b br n1 : Nat) (L1 : List X) (n2 : Nat) (L2 : List X) (r : Value) (e : Ending) (w' : World) : Prop := e = .returned r ∧ PD w0 b br n1 L1 n2 L2 w'
theorem PD.next (h : PD w0 b br n1 L1 n2 L2 w) {o : Option Nat} {v : Int} {c : Bool} (hn : nxt (L1.map nu) = o) (hv : ((o.getD 0 : Nat) : Int) = v) (hb : o.isSome = c) :
    Calls Try.prog 11 #[.pointer (some ⟨b, 0, none⟩)] w (PDid w0 b br n1 L1 n2 L2 (.tuple #[.int .u64 v, .bool c])) := by
  obtain ⟨P, r, v, rfl, h1, h2, h3, h4, h5, h6⟩ := h
  refine (dnext_at h1 hn hv hb).mono ?_
  rintro e w' ⟨he, r', _, hg⟩
  exact ⟨he, PD.stepD rfl h1 h2 h3 h4 h5 h6 hg⟩
theorem PD.page (h : PD w0 b br n1 L1 n2 L2 w) : ∃ p n cap, L2.length = n ∧ n ≤ 1000 ∧ RD w br (.slice p n cap) n2 L2 ∧ XC w p L2 := by
  obtain ⟨P, r, v, rfl, h1, h2, h3, h4, h5, h6⟩ := h
  obtain ⟨p, cap, hv, _, hxc⟩ := h2.own.view
  exact ⟨p, L2.length, cap, rfl, h2.len, by rw [← hv]; exact h2, hxc⟩
end
namespace dueActs
set_option maxHeartbeats 1000000 in
theorem walk_big (now : Nat) (p : Option Addr) (n cap : Nat) (w : World) (h : 200 < n) (hn : n ≤ 9223372036854775807) :
    Calls Try.prog 3 #[.int .u64 now, .slice p n cap] w fun e w' => e = .returned (.bool true) ∧ Below w.heap.size w w' := by
  go_enter Try.func3, Try.ntmps3
  go_wp2_with fail
  refine (due9.live_any _).mono ?_
  rintro e w' ⟨rfl, hb⟩
  go_wp2
  go_ret
  exact ⟨rfl, hb⟩
set_option maxHeartbeats 4000000 in
set_option maxRecDepth 20000 in
theorem walk_small (now : Nat) (hnow : now < 2 ^ 64) (p : Option Addr) (n cap : Nat) (acts : List A9) (w : World) (hn : acts.length = n) (hn2 : n ≤ 200) (haw : ∀ x ∈ acts, x.tick < 2 ^ 64) (hac : AC9 w p acts) :
    Calls Try.prog 3 #[.int .u64 now, .slice p n cap] w fun e w' => e = .returned (.bool true) ∧ Below w.heap.size w w' := by
  have HN := Lib.hid hn
  have HAW := Lib.hid haw
  have HAC := Lib.hid hac
  have HNEW := Lib.hid (dnew_any now w hnow)
  obtain ⟨zn, hzn⟩ : ∃ z : Int, (now : Int) = z := ⟨_, rfl⟩
  have HZN := Lib.hid hzn
  rw [hzn] at HNEW ⊢
  have hdec : decide ((200 : Int) < (n : Int)) = false := by rw [decide_eq_false_iff_not]; omega
  clear hn haw hac hzn hnow
  go_enter Try.func3, Try.ntmps3
  go_wp2_with (go_at_call 7; refine HNEW.out.mono ?_)
  rintro e w1 ⟨P1, rfl, hw1, hf1, hb1⟩
  have HBEG : Hid (∃ now L, L.length ≤ 0 ∧ PD w P1.bd w1.heap.size now L now L (w1.alloc (.cells #[.int .u64 zn, .slice none 0 0] 30))) := Lib.hid ⟨now, [], Nat.le_refl _, by
    have h := pd_made hw1 hf1 hb1
    rw [HZN.out] at h
    exact h⟩
  obtain ⟨b, hb⟩ : ∃ b, P1.bd = b := ⟨_, rfl⟩
  obtain ⟨br, hbr⟩ : ∃ br, w1.heap.size = br := ⟨_, rfl⟩
  rw [hb, hbr] at HBEG
  rw [hb]
  clear hw1 hf1 hb1 hb
  go_wp2
  go_loopw [7] (fun i wr => ∃ j : Nat, i = .int .i64 j ∧ j ≤ n ∧ Hid (∃ now L, L.length ≤ j ∧ PD w b br now L now L wr)) (fun i _ => n - (intOf i).toNat)
  case atStart => exact ⟨0, rfl, Nat.zero_le _, HBEG⟩
  case round =>
    obtain ⟨j, rfl, hj, hr⟩ := hrel
    obtain ⟨nw, L, hLj, hpd⟩ := hr.out
    by_cases hlt : j < n
    · obtain ⟨g0, off, rfl, hg0, hx0, hx1, hx2, hx3⟩ := (HAC.out.below hpd.bl (Nat.le_refl _)) j (by rw [HN.out]; exact hlt)
      have HXT : Hid ((acts.getD j a09).tick < 2 ^ 64) := Lib.hid (HAW.out _ (getD_mem9 (by rw [HN.out]; exact hlt)))
      obtain ⟨x, hx⟩ : ∃ x, acts.getD j a09 = x := ⟨_, rfl⟩
      rw [hx] at hx0 hx1 hx2 hx3 HXT
      have hltz : (j : Int) < (n : Int) := by omega
      have HD := Lib.hid (does_any hpd x HXT.out (by omega))
      have HXE := Lib.hid hx
      have HLJ := Lib.hid hLj
      clear hpd hr hx hLj
      go_wp2_with (go_at_call 8; refine HD.out.mono ?_)
      rintro e w2 ⟨rfl, nw2, L2, hL2, hp2⟩
      have HL2 : Hid (L2.length ≤ j + 1) := Lib.hid (by have := HLJ.out; omega)
      have HCE : Hid (∀ w', Below w2.heap.size w2 w' → w'.cell? ⟨g0, off + j * 4 + 1, none⟩ = some (.int .i64 x.kind) ∧ w'.cell? ⟨g0, off + j * 4 + 2, none⟩ = some (.int .i64 x.id)) := Lib.hid (fun w' hb => by
        obtain ⟨g1, off1, e1, _, _, q1, q2, _⟩ := (HAC.out.below (hp2.below hb).bl (Nat.le_refl _)) j (by rw [HN.out]; exact hlt)
        injection e1 with e1
        injection e1 with e1 e2
        rw [HXE.out, ← e1, ← e2] at q1 q2
        exact ⟨q1, q2⟩)
      obtain ⟨a1, ha1⟩ : ∃ z : Int, ((tk L2 x.kind x.id : Nat) : Int) = z := ⟨_, rfl⟩
      obtain ⟨o1, ho1⟩ : ∃ o, (ps L2 x.kind x.id).isSome = o := ⟨_, rfl⟩
      have HAT : Hid (∀ w', Below w2.heap.size w2 w' → Calls Try.prog 9 #[.pointer (some ⟨b, 0, none⟩), .int .i64 x.kind, .int .i64 x.id] w' fun e w'' => e = .returned (.tuple #[.int .u64 a1, .bool o1]) ∧ Below w2.heap.size w2 w'') := Lib.hid (fun w' hb => by
        have h1 := (hp2.below hb).at x.kind x.id
        rw [ha1, ho1] at h1
        exact h1.mono (fun e w'' ⟨q1, q2⟩ => ⟨q1, hb.trans (q2.mono hb.size)⟩))
      obtain ⟨pp, m, cp, hm, hm2, hrd, hxc⟩ := hp2.page
      obtain ⟨zt, hzt⟩ : ∃ z : Int, ((nw2 : Nat) : Int) = z := ⟨_, rfl⟩
      obtain ⟨k1, hk1⟩ : ∃ z : Int, pz (ps L2 x.kind x.id) = z := ⟨_, rfl⟩
      have HRC : Hid (∀ w', Below w2.heap.size w2 w' → w'.cell? ⟨br, 0, none⟩ = some (.int .u64 zt) ∧ w'.cell? ⟨br, 1, none⟩ = some (.slice pp m cp)) := Lib.hid (fun w' hb => by
        have h1 := (hrd.below hb).c0
        rw [hzt] at h1
        exact ⟨h1, (hrd.below hb).c1⟩)
      have HFD : Hid (∀ w', Below w2.heap.size w2 w' → Calls Try.prog 10 #[.agg #[.int .u64 zt, .slice pp m cp], .int .i64 x.kind, .int .i64 x.id] w' fun e w'' => e = .returned (.int .i64 k1) ∧ Below w2.heap.size w2 w'') := Lib.hid (fun w' hb => by
        have h1 := rfind_any zt pp m cp L2 x.kind x.id w' hm hm2 (hxc.below hb (Nat.le_refl _))
        rw [hk1] at h1
        exact h1.mono (fun e w'' ⟨q1, q2⟩ => ⟨q1, hb.trans (q2.mono hb.size)⟩))
      have HP2 := Lib.hid hp2
      have HA1 := Lib.hid ha1
      have HO1 := Lib.hid ho1
      have HK1 := Lib.hid hk1
      clear hp2 ha1 ho1 hk1 hrd hxc hm hzt hL2 hx0 hx1 hx2 hx3
      go_wp2_with fail
      refine wp_region_text (S := (fun w' => Below w2.heap.size w2 w')) (by kernel_rfl) ?_ ?_
      · exact (Below.refl _ _).drew
      repeat (first
        | (refine anyR_value (v := ?_) (by kernel_rfl) (by rfl) (fun _ _ _ h => h) (fun w1 hS => ?_) ?_
           rotate_left
           · obtain ⟨q0, q1⟩ := HCE.out _ hS
             go_simp
             with_reducible rfl
           simp only [Act.put, List.setIfInBounds_toArray, List.set_cons_zero, List.set_cons_succ])
        | (refine anyR_not (by kernel_rfl) (by rfl) (fun _ _ _ h => h) ?_
           simp only [Act.put, List.setIfInBounds_toArray, List.set_cons_zero, List.set_cons_succ])
        | (refine anyR_call (v := ?_) (f := ?_) (args := ?_) (by kernel_rfl) (by rfl) (fun _ _ _ h => h) (fun w1 hS => ?_) (fun w1 hS => ?_) ?_
           rotate_left 3
           · go_simp
             (try constructor) <;> with_reducible rfl
           · first
               | ((with_reducible refine ((HAT.out w1 hS).mono ?_)); rintro e w' ⟨rfl, hb⟩; refine ⟨?_, hb⟩; with_reducible rfl)
           simp only [Act.put, List.setIfInBounds_toArray, List.set_cons_zero, List.set_cons_succ])
        | refine anyR_done (by kernel_rfl) (fun w1 hS => ?_))
      have HS := Lib.hid hS
      clear hS
      go_wp2_with fail
      refine wp_region_text (S := (fun w' => Below w2.heap.size w2 w')) (by kernel_rfl) ?_ ?_
      · exact HS.out.drew
      repeat (first
        | (refine anyR_value (v := ?_) (by kernel_rfl) (by rfl) (fun _ _ _ h => h) (fun w1 hS => ?_) ?_
           rotate_left
           · obtain ⟨q0, q1⟩ := HCE.out _ hS; obtain ⟨q2, q3⟩ := HRC.out _ hS
             go_simp
             with_reducible rfl
           simp only [Act.put, List.setIfInBounds_toArray, List.set_cons_zero, List.set_cons_succ])
        | (refine anyR_not (by kernel_rfl) (by rfl) (fun _ _ _ h => h) ?_
           simp only [Act.put, List.setIfInBounds_toArray, List.set_cons_zero, List.set_cons_succ])
        | (refine anyR_call (v := ?_) (f := ?_) (args := ?_) (by kernel_rfl) (by rfl) (fun _ _ _ h => h) (fun w1 hS => ?_) (fun w1 hS => ?_) ?_
           rotate_left 3
           · go_simp
             (try constructor) <;> with_reducible rfl
           · first
               | ((with_reducible refine ((HFD.out w1 hS).mono ?_)); rintro e w' ⟨rfl, hb⟩; refine ⟨?_, hb⟩; with_reducible rfl)
           simp only [Act.put, List.setIfInBounds_toArray, List.set_cons_zero, List.set_cons_succ])
        | refine anyR_done (by kernel_rfl) (fun w1 hS => ?_))
      have hp3 := HP2.out.below hS
      obtain ⟨o, ho⟩ : ∃ o, nxt (L2.map nu) = o := ⟨_, rfl⟩
      obtain ⟨v3, hv3⟩ : ∃ v3 : Int, ((o.getD 0 : Nat) : Int) = v3 := ⟨_, rfl⟩
      obtain ⟨b3, hb3⟩ : ∃ b3, o.isSome = b3 := ⟨_, rfl⟩
      have HNX := Lib.hid (hp3.next ho hv3 hb3)
      have HO := Lib.hid ho
      have HV3 := Lib.hid hv3
      have HB3 := Lib.hid hb3
      clear hS hp3 ho hv3 hb3 HS HAT HFD HCE HRC HP2
      go_wp2_with (go_at_call 11; refine HNX.out.mono ?_)
      rintro e w4 ⟨rfl, hp4⟩
      obtain ⟨p4, m4, c4, hm4, hm42, hrd, hxc⟩ := hp4.page
      obtain ⟨z4, hz4⟩ : ∃ z : Int, ((nw2 : Nat) : Int) = z := ⟨_, rfl⟩
      have hc0 := hrd.c0
      have hc1 := hrd.c1
      rw [hz4] at hc0
      have HRN := Lib.hid (rnext9_at (z := z4) (cap := c4) hm4 hm42 hxc HO.out HV3.out HB3.out)
      have HRD := Lib.hid hrd
      have HXC := Lib.hid hxc
      have HP4 := Lib.hid hp4
      have HZ4 := Lib.hid hz4
      have HM4 := Lib.hid hm4
      clear hp4 hrd hxc hz4 hm4 HNX
      go_wp2_with (go_at_call 12; refine HRN.out.mono ?_)
      first | rintro e w5 rfl hb5 | rintro e w5 ⟨rfl, hb5⟩
      have hp5 := (HP4.out.below hb5).drew
      have hr5 := (HRD.out.below hb5).below (Below.refl _ _).drew
      have hx5 := (HXC.out.below hb5 (Nat.le_refl _)).below (Below.refl w5.heap.size w5).drew (Nat.le_refl _)
      have hd0 := hr5.c0
      have hd1 := hr5.c1
      rw [HZ4.out] at hd0
      have hlen := hp5.len
      have hnow := hp5.clock
      rw [HM4.out] at hlen
      rw [HZ4.out] at hnow
      have HLE := Lib.hid hlen
      have HNO := Lib.hid hnow
      have HREL : Hid (∃ now L, L.length ≤ j + 1 ∧ PD w b br now L now L w5.drew) := Lib.hid ⟨nw2, L2, HL2.out, hp5⟩
      cases hps : ps L2 x.kind x.id with
      | none =>
        have hk : k1 = -1 := by rw [← HK1.out, hps]; rfl
        have ho1 : o1 = false := by rw [← HO1.out, hps]; rfl
        have ha1 : a1 = 0 := by rw [← HA1.out]; unfold tk; rw [hps]; rfl
        subst hk ho1 ha1
        clear hp5 hr5 hx5 hlen hnow hb5 hc0 hc1 HRN HP4 HRD HXC hps
        go_wp2_with fail
        refine wp_region_text (S := (fun w' => w' = w5.drew)) (by kernel_rfl) ?_ ?_
        · rfl
        repeat (first
          | (refine anyR_value (v := ?_) (by kernel_rfl) (by rfl) (fun _ _ _ h => h) (fun w1 hS => ?_) ?_
             rotate_left
             · subst hS
               go_simp
               with_reducible rfl
             simp only [Act.put, List.setIfInBounds_toArray, List.set_cons_zero, List.set_cons_succ])
          | (refine anyR_not (by kernel_rfl) (by rfl) (fun _ _ _ h => h) ?_
             simp only [Act.put, List.setIfInBounds_toArray, List.set_cons_zero, List.set_cons_succ])
          | (refine anyR_call (v := ?_) (f := ?_) (args := ?_) (by kernel_rfl) (by rfl) (fun _ _ _ h => h) (fun w1 hS => ?_) (fun w1 hS => ?_) ?_
             rotate_left 3
             · go_simp
               (try constructor) <;> with_reducible rfl
             · first
                 | (subst hS; with_reducible refine (HLE.out.mono ?_); rintro e w' ⟨rfl, rfl⟩; refine ⟨?_, rfl⟩; with_reducible rfl)
                 | (subst hS; with_reducible refine (HNO.out.mono ?_); rintro e w' ⟨rfl, rfl⟩; refine ⟨?_, rfl⟩; with_reducible rfl)
             simp only [Act.put, List.setIfInBounds_toArray, List.set_cons_zero, List.set_cons_succ])
          | refine anyR_done (by kernel_rfl) (fun w1 hS => ?_))
        subst hS
        go_wp2
        go_roundw
        case rel => exact ⟨j + 1, by go_num, hlt, HREL⟩
        case measure => simp [intOf]; omega
      | some jj =>
        obtain ⟨hjl, hjk, hji⟩ := ps_some hps
        have hk : k1 = (jj : Int) := by rw [← HK1.out, hps]; rfl
        have ho1 : o1 = true := by rw [← HO1.out, hps]; rfl
        have ha1 : a1 = (((L2.getD jj x0).tick : Nat) : Int) := by rw [← HA1.out]; unfold tk; rw [hps]; rfl
        obtain ⟨g5, hp45, _, _, _, hy2⟩ := hx5 jj hjl
        rw [← ha1] at hy2
        have hjm : jj < m4 := by rw [← HM4.out]; exact hjl
        have hjz : (jj : Int) < (m4 : Int) := by omega
        have hj0 : (0 : Int) ≤ (jj : Int) := by omega
        subst hk ho1 hp45
        clear ha1 hp5 hr5 hx5 hlen hnow hb5 hc0 hc1 HRN HP4 HRD HXC hps hjl hjk hji
        go_wp2_with fail
        refine wp_region_text (S := (fun w' => w' = w5.drew)) (by kernel_rfl) ?_ ?_
        · rfl
        repeat (first
          | (refine anyR_value (v := ?_) (by kernel_rfl) (by rfl) (fun _ _ _ h => h) (fun w1 hS => ?_) ?_
             rotate_left
             · subst hS
               go_simp
               with_reducible rfl
             simp only [Act.put, List.setIfInBounds_toArray, List.set_cons_zero, List.set_cons_succ])
          | (refine anyR_not (by kernel_rfl) (by rfl) (fun _ _ _ h => h) ?_
             simp only [Act.put, List.setIfInBounds_toArray, List.set_cons_zero, List.set_cons_succ])
          | (refine anyR_call (v := ?_) (f := ?_) (args := ?_) (by kernel_rfl) (by rfl) (fun _ _ _ h => h) (fun w1 hS => ?_) (fun w1 hS => ?_) ?_
             rotate_left 3
             · go_simp
               (try constructor) <;> with_reducible rfl
             · first
                 | (subst hS; with_reducible refine (HLE.out.mono ?_); rintro e w' ⟨rfl, rfl⟩; refine ⟨?_, rfl⟩; with_reducible rfl)
                 | (subst hS; with_reducible refine (HNO.out.mono ?_); rintro e w' ⟨rfl, rfl⟩; refine ⟨?_, rfl⟩; with_reducible rfl)
             simp only [Act.put, List.setIfInBounds_toArray, List.set_cons_zero, List.set_cons_succ])
          | refine anyR_done (by kernel_rfl) (fun w1 hS => ?_))
        subst hS
        go_wp2
        go_roundw
        case rel => exact ⟨j + 1, by go_num, hlt, HREL⟩
        case measure => simp [intOf]; omega
    · have e1 : j = n := by omega
      subst e1
      have HB := Lib.hid hpd.bl
      clear hpd hr
      go_wp2_with fail
      refine (due9.live_any _).mono ?_
      rintro e w2 ⟨rfl, hb⟩
      have HF : Hid (Below w.heap.size w w2) := Lib.hid (HB.out.trans (hb.mono HB.out.size))
      clear hb
      go_wp2
      go_ret
      exact ⟨rfl, HF.out⟩
theorem walk (a0 : Int) (w0 : (Lit.int .u64 a0).wf = true) (p : Option Addr) (n cap : Nat) (acts : List A9) (hn : acts.length = n) (hmx : n ≤ maxLen) (haw : ∀ x ∈ acts, x.tick < 2 ^ 64) (w : World) (hac : AC9 w p acts) :
    Calls Try.prog 3 #[.int .u64 a0, .slice p n cap] w fun e w' => e = .returned (.bool true) ∧ Below w.heap.size w w' := by
  obtain ⟨a, rfl, ha⟩ := u64_nat w0
  unfold maxLen at hmx
  by_cases h : 200 < n
  · exact walk_big a p n cap w h (by omega)
  · exact walk_small a ha p n cap acts w hn (by omega) haw hac
theorem own : ownKnob Try.prog.godebug = none := by kernel_rfl
theorem laidOut : laidOutB Try.prog = true := by kernel_rfl
set_option maxRecDepth 100000 in
theorem contract (H : Type) (enc : TypeId × Value → H) (W : World) (base : Nat) (args : Array Value) (ds gs : List (DataW H)) (before : List MemPlace)
    (hval0 : ∀ (j : Nat) t v, Try.f3.params[j]? = some t → args[j]? = some v → Value.okWide Try.prog W .any base t v)
    (hW : DataW.Whole enc Try.prog Try.f3.params.toList Rows.dueActsSpec.vars false W args.toList ds gs before) :
    Calls Try.prog 3 args W fun e W' => ∃ v, e = .returned v ∧ Rows.dueActsSpec.post enc Try.prog Try.f3 false true false false W args v W' := by
  have hval : ∀ (j : Nat) t v, Try.f3.params[j]? = some t → args[j]? = some v → Value.okWide Try.prog W .any base t v := hval0
  clear hval0
  have hW' := hW
  obtain ⟨p, q, hA0, hV, rfl, hfz, hnd⟩ := hW
  have hA : DataW.TrodAll enc Try.prog W 0 (fun _ => true) true Try.f3.params.toList args.toList ds p := hA0
  rw [Try.params3] at hA hval
  obtain ⟨v0, vs0, d0, ds0, p0, q0, hargs, rfl, rfl, h0, r0⟩ := trodAll_cons hA
  obtain ⟨v1, vs1, d1, ds1, p1, q1, rfl, rfl, rfl, h1, r1⟩ := trodAll_cons r0
  obtain ⟨rfl, rfl, rfl⟩ := trodAll_nil r1
  obtain rfl : args = #[v0, v1] := by cases args; simp_all
  obtain ⟨rfl, rfl⟩ := trodVars_none hV
  obtain ⟨a0, rfl, rfl, rfl, w0⟩ := open_int Try.underlying22 (hval 0 22 v0 rfl rfl) h0
  obtain ⟨pp, n, cap, acts, rfl, hn, hmx, haw, hac⟩ := acts9_open h1 (okWide_slice Try.underlying23 (hval 1 23 v1 rfl rfl))
  clear hA0
  refine (walk a0 w0 pp n cap acts hn hmx haw W hac).mono fun e W' ⟨he, hb⟩ => ?_
  subst he
  exact ⟨_, rfl, law_post laidOut (by kernel_rfl) rfl Try.underlying4 rfl hW' rfl hb⟩

set_option maxRecDepth 100000 in
theorem lifted (os : Os) (started : os.Started) (H : Type) (enc : TypeId × Value → H) :
    ReturnsInHanded {} Try.checked os 3 .any (Rows.dueActsSpec.pre6 enc Try.prog Try.f3 Rows.dueActsRow.domain false) (Rows.dueActsSpec.post enc Try.prog Try.f3 false true false false) := by
  refine returnsInHanded_of_change (C := Try.checked) own started (by kernel_rfl) Try.func3
    (ChangeSpec.witness6 (enc := enc) (C := Try.checked) false ⟨#[], #[.int .u64 0, .slice none 0 0], []⟩ 8 (by kernel_rfl) (by kernel_rfl) (by kernel_rfl) (by kernel_rfl)) ?_
  intro W base args ds gs before hval0 hW _ _
  exact contract H enc W base args ds gs before hval0 hW

/-- THE STATEMENT -/
theorem proved : Rows.DueActsSaid :=
  OpenClaim.holds_of_wide 3 Try.f3 rfl rfl rfl rfl rfl rfl rfl ⟨rfl, rfl, rfl, rfl, rfl⟩ rfl rfl rfl rfl rfl (by kernel_rfl) Try.func3 (by kernel_rfl)
    (of_decide_eq_true (by kernel_rfl)) (by unfold Func.isWrapper; first | (rw [if_pos (by decide +kernel)]; kernel_rfl) | (rw [if_neg (by decide +kernel)]; exact ⟨rfl, rfl⟩))
    (fun os started H enc _ => lifted os started H enc)
end dueActs
end Go.Proofs.Ytlhajdmleefkiaa
