/-
  THE LAW FifoActs. The law FifoActs answers true at every row of acts: what the queue tells is what the page tells, act by act. Conditions: none (beyond 200 acts, the law itself asks less).
-/
import Derived.Test.YtcfmbdcklapmhaaFifoI
import Derived.Test.YtcfmbdcklapmhaaFrame
import Derived.Deep.DeepCutAuto
import Derived.Deep.CutBlock
import Derived.Deep.RegionHeld3
namespace Go.Proofs.Ytcfmbdcklapmhaa
open Go.RowKit Fq Ft Bt
open Go.ChangeShapes Go.WideShapes Go.ChangeAt
set_option linter.unusedVariables false
namespace fifoActs
set_option maxHeartbeats 1000000 in
set_option maxRecDepth 20000 in
theorem walk_big (p : Option Addr) (n cap : Nat) (w : World) (h : 200 < n) (hn : n ≤ 9223372036854775807) :
    Calls Try.prog 3 #[.slice p n cap] w fun e w' => e = .returned (.bool true) ∧ Below w.heap.size w w' := by
  go_enter Try.func3, Try.ntmps3
  go_wp2_with (go_at_call 5; refine (fifo14.live_any _).mono ?_)
  first | rintro e w8 rfl hb8 | rintro e w8 ⟨rfl, hb8⟩
  have HB8 := Lib.hid hb8
  clear hb8
  go_wp2
  go_ret
  exact ⟨rfl, HB8.out⟩
set_option maxHeartbeats 4000000 in
set_option maxRecDepth 20000 in
theorem walk_small (p : Option Addr) (n cap : Nat) (acts : List A14) (w : World) (hn : acts.length = n) (hn2 : n ≤ 200) (haw : ∀ x ∈ acts, Mi.Wf x.id) (hac : AC14 w p acts) :
    Calls Try.prog 3 #[.slice p n cap] w fun e w' => e = .returned (.bool true) ∧ Below w.heap.size w w' := by
  have HN := Lib.hid hn
  have HAW := Lib.hid haw
  have HAC := Lib.hid hac
  have HNEW := Lib.hid (oq_new w)
  have hdec : decide ((200 : Int) < (n : Int)) = false := by rw [decide_eq_false_iff_not]; omega
  clear hn haw hac
  go_enter Try.func3, Try.ntmps3
  go_wp2_with (go_at_call 6; refine HNEW.out.mono ?_)
  rintro e w1 ⟨b, rfl, o1⟩
  obtain ⟨W2, hW2⟩ : ∃ W, w1.alloc (.cells #[] 32) = W := ⟨_, rfl⟩
  have hb2 : Below w1.heap.size w1 W2 := by rw [← hW2]; exact (Below.refl _ _).alloc (Nat.le_refl _) _
  have HBEG : Hid (∃ (q : Option Addr) (m c : Nat) (L : List It), (Value.slice (some ⟨w1.heap.size, 0, none⟩) 0 0) = .slice q m c ∧ L.length ≤ 0 ∧ IR W2 q m c L ∧ OQ w b L W2) := Lib.hid ⟨_, _, _, [], rfl, Nat.le_refl _, ⟨rfl, Nat.le_refl _, fun e => (by cases e), IC.nil _ _⟩, o1.below hb2⟩
  clear o1 hb2 HNEW
  go_wp2
  go_loopw [4, 5] (fun v i wr => ∃ j : Nat, i = .int .i64 j ∧ j ≤ n ∧ Hid (∃ (q : Option Addr) (m c : Nat) (L : List It), v = .slice q m c ∧ L.length ≤ j ∧ IR wr q m c L ∧ OQ w b L wr)) (fun _ i _ => n - (intOf i).toNat)
  case atStart => exact ⟨0, rfl, Nat.zero_le _, HBEG⟩
  case round =>
    obtain ⟨j, rfl, hj, hr⟩ := hrel
    obtain ⟨q, m, c, L, hv, hLj, hir, hoq⟩ := hr.out
    subst hv
    by_cases hlt : j < n
    · obtain ⟨g0, off, rfl, hg0, hx0, hx1, hx2⟩ := (HAC.out.below hoq.bl (Nat.le_refl _)) j (by rw [HN.out]; exact hlt)
      have HXT : Hid (Mi.Wf (acts.getD j a014).id) := Lib.hid (HAW.out _ (getD_mem14 (by rw [HN.out]; exact hlt)))
      obtain ⟨x, hx⟩ : ∃ x, acts.getD j a014 = x := ⟨_, rfl⟩
      rw [hx] at hx0 hx1 hx2 HXT
      have hltz : (j : Int) < (n : Int) := by omega
      obtain ⟨W3, W4, hW3, hW4, hi3, hi4, hb4⟩ := amade wr x
      obtain ⟨g, hg⟩ : ∃ g, wr.heap.size = g := ⟨_, rfl⟩
      rw [hg] at hW4 hi3 hi4
      obtain ⟨c0, c1, c2⟩ := hi4.cells
      have HFS : Hid (FS w b g x L q m c W4) := Lib.hid ⟨hoq.below hb4, hir.below hb4 (Nat.le_refl _), hi4⟩
      have HI3 := Lib.hid hi3
      have HW4 := Lib.hid hW4
      have HI := Lib.hid (act_info x)
      have HO := Lib.hid (act_one x)
      clear hr hx hoq hir hg0 hi3 hi4 hb4 hW4
      go_upto_block 2 with (refine wpList_store_row rfl 28 _ _ rfl g (acs x) rfl rfl 28 (acs a014) HI3.out HI.out rfl HO.out ?_; rw [HW4.out])
      clear hx0 hx1 hx2 hW3 HI3 HW4 HI HO hW2 HBEG hg
      go_cut [4] from 22 to 182 (fun v wx => Hid (Sw w b g x (j + 1) v wx))
      case first =>
        by_cases hk0 : x.kind = 0
        · as_aux_lemma =>
            have hkb : (x.kind == 0) = true := by simpa using hk0
            obtain ⟨Z, hZ⟩ : ∃ Z, pe L (x.id, x.cost) = Z := ⟨_, rfl⟩
            have hml : m ≤ 100000 := by rw [← HFS.out.ir.hl]; omega
            have HP := rf_push q m c L (x.id, x.cost) W4 hml HFS.out.ir
            rw [hZ] at HP
            have HP := Lib.hid HP
            have HPL : Hid ((pu L (x.id, x.cost)).length ≤ j + 1) := Lib.hid (by have := pu_len L (x.id, x.cost); omega)
            clear hk0
            go_wp2_with (go_at_call 7; refine HP.out.mono ?_)
            rintro e w5 ⟨p5, m5, c5, rfl, hir5, hb5⟩
            have h5 := HFS.out.below hb5
            have HQ := h5.oq.push (x.id, x.cost) HXT.out (by omega)
            rw [hZ] at HQ
            have HQ := Lib.hid HQ
            obtain ⟨d0, d1, d2⟩ := h5.ab.cells
            have HF5 := Lib.hid h5
            have HIR := Lib.hid hir5
            clear hir5 hb5 h5 HP c0 c1 c2
            go_wp2_with (go_at_call 9; refine HQ.out.mono ?_)
            rintro e w6 ⟨rfl, o6, k6⟩
            have HFIN : Hid (Sw w b g x (j + 1) (.slice p5 m5 c5) w6) := Lib.hid ⟨p5, m5, c5, _, rfl, HPL.out, o6, HIR.out.keep k6, HF5.out.ab.keep k6⟩
            have hzz : (Z != Z) = false := by simp
            clear o6 k6 hZ HQ d0 d1 d2
            go_wp2_with (go_at_call 8; refine (fq_num _ _).mono ?_; rintro e w' ⟨rfl, hw⟩; rw [hw]; clear hw)
            go_meet
            exact HFIN
        · have hkb : (x.kind == 0) = false := by simpa using hk0
          by_cases hk1 : x.kind = 1
          · have hkb1 : (x.kind == 1) = true := by simpa using hk1
            have HQ := HFS.out.oq.pop
            have hml := HFS.out.ir.hl
            have hni := neq_item
            cases L with
            | nil =>
              as_aux_lemma =>
                have hpop : hv ([] : List It).head? = .tuple #[.agg #[.int .i64 0, .int .i64 0], .bool false] := rfl
                rw [hpop] at HQ
                have HQ := Lib.hid HQ
                have hm0 : m = 0 := by rw [← hml]; rfl
                have hd : decide ((0 : Int) < (m : Int)) = false := by rw [decide_eq_false_iff_not]; omega
                have hd2 : decide (0 < m) = false := by rw [decide_eq_false_iff_not]; omega
                have hn0 := hni 0 0
                clear hk0 hk1 hpop hml hni hm0
                go_wp2_with (go_at_call 10; refine HQ.out.mono ?_)
                rintro e w5 ⟨rfl, o5, k5⟩
                obtain ⟨W6, W7, hW6, hW7, hi6, hi7, hb7⟩ := made w5 it0
                have HFIN : Hid (Sw w b g x (j + 1) (.slice q m c) W7.drew) := Lib.hid ⟨q, m, c, [], rfl, by simp, (⟨o5, HFS.out.ir.keep k5, HFS.out.ab.keep k5⟩ : FS w b g x [] q m c w5).below (hb7.trans ((Below.refl W7.heap.size W7).drew.mono hb7.size))⟩
                obtain ⟨d0, d1⟩ := hi7.cells
                have d0' : W7.drew.cell? ⟨w5.heap.size, 0, none⟩ = some (.int .i64 0) := d0
                have d1' : W7.drew.cell? ⟨w5.heap.size, 1, none⟩ = some (.int .i64 0) := d1
                have HI6 := Lib.hid hi6
                have HW7 := Lib.hid hW7
                have HI := Lib.hid (item_info it0)
                have HO := Lib.hid (item_one it0)
                clear o5 k5 hi6 hi7 hb7 hW7 d0 d1 HQ c0 c1 c2
                go_wp2_with (refine wpList_store_row rfl 32 _ _ rfl w5.heap.size (ic it0) rfl rfl 32 (ic it0) HI6.out HI.out rfl HO.out ?_; rw [HW7.out])
                refine wp_region_text (S := (fun w9 => w9 = W7.drew)) (by kernel_rfl) ?_ ?_
                · rfl
                repeat (first
                  | (refine anyR_value (v := ?_) (by kernel_rfl) (by rfl) (fun _ _ _ h => h) (fun w1 hS => ?_) ?_
                     rotate_left
                     · rw [hS]
                       go_simp
                       with_reducible rfl
                     simp only [Act.put, List.setIfInBounds_toArray, List.set_cons_zero, List.set_cons_succ])
                  | (refine anyR_not (by kernel_rfl) (by rfl) (fun _ _ _ h => h) ?_
                     simp only [Act.put, List.setIfInBounds_toArray, List.set_cons_zero, List.set_cons_succ])
                  | (refine anyR_call (v := ?_) (f := ?_) (args := ?_) (by kernel_rfl) (by rfl) (fun _ _ _ h => h) (fun w1 hS => ?_) (fun w1 hS => ?_) ?_
                     rotate_left 3
                     · go_simp
                       (try constructor) <;> with_reducible rfl
                     · first
                         | (fail)
                     simp only [Act.put, List.setIfInBounds_toArray, List.set_cons_zero, List.set_cons_succ])
                  | refine anyR_done (by kernel_rfl) (fun w1 hS => ?_))
                have e9 : w1 = W7.drew := hS
                subst e9
                clear hS
                go_wp2
                go_meet
                exact HFIN
            | cons y l =>
              as_aux_lemma =>
                obtain ⟨y1, y2⟩ := y
                have hpop : hv ((y1, y2) :: l).head? = .tuple #[.agg #[.int .i64 y1, .int .i64 y2], .bool true] := rfl
                rw [hpop] at HQ
                have HQ := Lib.hid HQ
                have hm0 : 0 < m := by rw [← hml]; simp
                have hm1 : l.length + 1 = m := by rw [← hml]; simp
                have hd : decide ((0 : Int) < (m : Int)) = true := by rw [decide_eq_true_iff]; omega
                have hdz : (0 : Int) < (m : Int) := by omega
                have hn0 := hni y1 y2
                obtain ⟨g9, o9, hq9, _, _, _⟩ := HFS.out.ir.ic 0 (by simp)
                subst hq9
                have HLJ : Hid (l.length ≤ j + 1) := Lib.hid (by simp only [List.length_cons] at hLj; omega)
                have hcc := HFS.out.ir.hc
                clear hk0 hk1 hpop hml hni
                go_wp2_with (go_at_call 10; refine HQ.out.mono ?_)
                rintro e w5 ⟨rfl, o5, k5⟩
                obtain ⟨W6, W7, hW6, hW7, hi6, hi7, hb7⟩ := made w5 (y1, y2)
                have hir7 := (HFS.out.ir.keep k5).below hb7 (Nat.le_refl _)
                have hir8 : IR W7.drew (some ⟨g9, o9, none⟩) m c ((y1, y2) :: l) := hir7.below (Below.refl W7.heap.size W7).drew (Nat.le_refl _)
                have HO7 := Lib.hid ((show OQ w b l w5 from o5).below (hb7.trans ((Below.refl W7.heap.size W7).drew.mono hb7.size)))
                have HA7 := Lib.hid ((HFS.out.ab.keep k5).below (hb7.trans ((Below.refl W7.heap.size W7).drew.mono hb7.size)))
                obtain ⟨g10, o10, hq10, hk10, f0, f1⟩ := hir8.ic 0 (by simp)
                injection hq10 with hq10
                injection hq10 with e1 e2
                subst e1 e2
                have f0' : W7.drew.cell? ⟨g9, o9, none⟩ = some (.int .i64 y1) := f0
                have f1' : W7.drew.cell? ⟨g9, o9 + 1, none⟩ = some (.int .i64 y2) := f1
                have HT : Hid (IC W7.drew (some ⟨g9, o9 + 2, none⟩) l) := Lib.hid hir8.ic.tail
                obtain ⟨d0, d1⟩ := hi7.cells
                have d0' : W7.drew.cell? ⟨w5.heap.size, 0, none⟩ = some (.int .i64 y1) := d0
                have d1' : W7.drew.cell? ⟨w5.heap.size, 1, none⟩ = some (.int .i64 y2) := d1
                have HI6 := Lib.hid hi6
                have HW7 := Lib.hid hW7
                have HI := Lib.hid (item_info (y1, y2))
                have HO := Lib.hid (item_one (y1, y2))
                clear o5 k5 hi6 hi7 hb7 hW7 d0 d1 HQ c0 c1 c2 hir7 hir8 f0 f1 hk10
                go_wp2_with (refine wpList_store_row rfl 32 _ _ rfl w5.heap.size (ic (y1, y2)) rfl rfl 32 (ic it0) HI6.out HI.out rfl HO.out ?_; rw [HW7.out])
                refine wp_region_text (S := (fun w9 => w9 = W7.drew)) (by kernel_rfl) ?_ ?_
                · rfl
                repeat (first
                  | (refine anyR_value (v := ?_) (by kernel_rfl) (by rfl) (fun _ _ _ h => h) (fun w1 hS => ?_) ?_
                     rotate_left
                     · rw [hS]
                       go_simp
                       with_reducible rfl
                     simp only [Act.put, List.setIfInBounds_toArray, List.set_cons_zero, List.set_cons_succ])
                  | (refine anyR_not (by kernel_rfl) (by rfl) (fun _ _ _ h => h) ?_
                     simp only [Act.put, List.setIfInBounds_toArray, List.set_cons_zero, List.set_cons_succ])
                  | (refine anyR_call (v := ?_) (f := ?_) (args := ?_) (by kernel_rfl) (by rfl) (fun _ _ _ h => h) (fun w1 hS => ?_) (fun w1 hS => ?_) ?_
                     rotate_left 3
                     · go_simp
                       (try constructor) <;> with_reducible rfl
                     · first
                         | (fail)
                     simp only [Act.put, List.setIfInBounds_toArray, List.set_cons_zero, List.set_cons_succ])
                  | refine anyR_done (by kernel_rfl) (fun w1 hS => ?_))
                have e9 : w1 = W7.drew := hS
                subst e9
                clear hS
                by_cases hc1 : c = 1
                · have HFIN : Hid (Sw w b g x (j + 1) (.slice (some ⟨g9, o9, none⟩) (m - 1) 0) W7.drew) := Lib.hid ⟨_, _, _, l, rfl, HLJ.out, HO7.out, ⟨by omega, by omega, fun e => (by cases e), by
                    have e : l = [] := List.eq_nil_of_length_eq_zero (by omega)
                    rw [e]
                    exact IC.nil _ _⟩, HA7.out⟩
                  go_wp2
                  go_meet
                  exact HFIN
                · have HFIN : Hid (Sw w b g x (j + 1) (.slice (some ⟨g9, o9 + 2, none⟩) (m - 1) (c - 1)) W7.drew) := Lib.hid ⟨_, _, _, l, rfl, HLJ.out, HO7.out, ⟨by omega, by omega, fun e => (by cases e), HT.out⟩, HA7.out⟩
                  go_wp2
                  go_meet
                  exact HFIN
          · have hkb1 : (x.kind == 1) = false := by simpa using hk1
            have HQ := HFS.out.oq.drop x.id HXT.out
            have hml := HFS.out.ir.hl
            have hni := neq_item
            have hfx := fd_ix L x.id
            have hm1 : m ≤ 100000 := by rw [← hml]; omega
            have HDL : Hid ((drp L x.id).length ≤ j + 1) := Lib.hid (by have := drp_le L x.id; omega)
            have HFI : Hid (∀ w', IR w' q m c L → Calls Try.prog 12 #[.slice q m c, .int .i64 x.id] w' fun e w2 => e = .returned (.int .i64 (pz (ix L x.id))) ∧ w2 = w') := Lib.hid (fun w' h => rf_find q m c L x.id w' hm1 h)
            have HDR : Hid (∀ w', IR w' q m c L → Calls Try.prog 13 #[.slice q m c, .int .i64 x.id] w' (Rowi w' (drp L x.id))) := Lib.hid (fun w' h => rf_drop q m c L x.id w' hm1 h)
            cases hp : ix L x.id with
            | none =>
              as_aux_lemma =>
                rw [hp] at hfx HFI
                have hpop : hv ((fd L x.id).map fun k => (x.id, k)) = .tuple #[.agg #[.int .i64 0, .int .i64 0], .bool false] := by rw [hfx]; rfl
                rw [hpop] at HQ
                unfold pz at HFI
                have HQ := Lib.hid HQ
                have hn0 := hni 0 0
                clear hk0 hk1 hpop hml hni hfx hp hm1
                go_wp2_with fail
                refine HQ.out.mono ?_
                rintro e w5 ⟨rfl, o5, k5⟩
                obtain ⟨W6, W7, hW6, hW7, hi6, hi7, hb7⟩ := made w5 it0
                have hir7 : IR W7 q m c L := (HFS.out.ir.keep k5).below hb7 (Nat.le_refl _)
                have hab7 : AB W7 g x := (HFS.out.ab.keep k5).below hb7
                have hoq7 : OQ w b (drp L x.id) W7 := (show OQ w b (drp L x.id) w5 from o5).below hb7
                have HF7 := Lib.hid (HFI.out W7 hir7)
                have hbd : Below W7.heap.size W7 W7.drew := (Below.refl W7.heap.size W7).drew
                have HD7 := Lib.hid (HDR.out W7.drew (hir7.below hbd (Nat.le_refl _)))
                have HA7 := Lib.hid (hab7.below hbd)
                have HO7 := Lib.hid (hoq7.below hbd)
                obtain ⟨a0, a1, a2⟩ := hab7.cells
                have a1' : W7.drew.cell? ⟨g, 1, none⟩ = some (.int .i64 x.id) := a1
                obtain ⟨d0, d1⟩ := hi7.cells
                have d0' : W7.drew.cell? ⟨w5.heap.size, 0, none⟩ = some (.int .i64 0) := d0
                have d1' : W7.drew.cell? ⟨w5.heap.size, 1, none⟩ = some (.int .i64 0) := d1
                have HI6 := Lib.hid hi6
                have HW7 := Lib.hid hW7
                have HI := Lib.hid (item_info it0)
                have HO := Lib.hid (item_one it0)
                clear o5 k5 hi6 hi7 hb7 hW7 d0 d1 HQ c0 c1 c2 a0 a2 hir7 hab7 hoq7 hbd
                go_wp2_with (first
                  | (refine wpList_store_row rfl 32 _ _ rfl w5.heap.size (ic it0) rfl rfl 32 (ic it0) HI6.out HI.out rfl HO.out ?_; rw [HW7.out])
                  | (go_at_call 12; refine HF7.out.mono ?_; rintro e w' ⟨rfl, hw⟩; rw [hw]; clear hw))
                refine wp_region_text (S := (fun w9 => w9 = W7.drew)) (by kernel_rfl) ?_ ?_
                · rfl
                repeat (first
                  | (refine anyR_value (v := ?_) (by kernel_rfl) (by rfl) (fun _ _ _ h => h) (fun w1 hS => ?_) ?_
                     rotate_left
                     · rw [hS]
                       go_simp
                       with_reducible rfl
                     simp only [Act.put, List.setIfInBounds_toArray, List.set_cons_zero, List.set_cons_succ])
                  | (refine anyR_not (by kernel_rfl) (by rfl) (fun _ _ _ h => h) ?_
                     simp only [Act.put, List.setIfInBounds_toArray, List.set_cons_zero, List.set_cons_succ])
                  | (refine anyR_call (v := ?_) (f := ?_) (args := ?_) (by kernel_rfl) (by rfl) (fun _ _ _ h => h) (fun w1 hS => ?_) (fun w1 hS => ?_) ?_
                     rotate_left 3
                     · go_simp
                       (try constructor) <;> with_reducible rfl
                     · first
                         | (fail)
                     simp only [Act.put, List.setIfInBounds_toArray, List.set_cons_zero, List.set_cons_succ])
                  | refine anyR_done (by kernel_rfl) (fun w1 hS => ?_))
                have e9 : w1 = W7.drew := hS
                subst e9
                clear hS
                go_wp2_with fail
                refine HD7.out.mono ?_
                rintro e w8 ⟨p8, m8, c8, rfl, hl8, hc8, hown8, hb8⟩
                have HFIN : Hid (Sw w b g x (j + 1) (.slice p8 m8 c8) w8) := Lib.hid ⟨_, _, _, _, rfl, HDL.out, HO7.out.below hb8, hown8.read, HA7.out.below hb8⟩
                clear hl8 hc8 hown8 hb8
                go_wp2
                go_meet
                exact HFIN
            | some i =>
              as_aux_lemma =>
                rw [hp] at hfx HFI
                obtain ⟨hi, hik⟩ := ix_key hp
                obtain ⟨⟨y1, y2⟩, hy⟩ : ∃ y, L.getD i it0 = y := ⟨_, rfl⟩
                simp only [Option.map_some] at hfx
                rw [hy] at hfx hik
                simp only at hfx hik
                subst hik
                have hpop : hv ((fd L x.id).map fun k => (x.id, k)) = .tuple #[.agg #[.int .i64 x.id, .int .i64 y2], .bool true] := by rw [hfx]; rfl
                rw [hpop] at HQ
                unfold pz at HFI
                have HQ := Lib.hid HQ
                have hn0 := hni x.id y2
                have hi0 : (0 : Int) ≤ (i : Int) := by omega
                have him : (i : Int) < (m : Int) := by omega
                obtain ⟨g9, o9, hq9, _, _, _⟩ := HFS.out.ir.ic i hi
                subst hq9
                have HY := Lib.hid hy
                have HLI := Lib.hid hi
                clear hk0 hk1 hpop hml hni hfx hp hm1 hy hi
                go_wp2_with fail
                refine HQ.out.mono ?_
                rintro e w5 ⟨rfl, o5, k5⟩
                obtain ⟨W6, W7, hW6, hW7, hi6, hi7, hb7⟩ := made w5 (x.id, y2)
                have hir7 : IR W7 (some ⟨g9, o9, none⟩) m c L := (HFS.out.ir.keep k5).below hb7 (Nat.le_refl _)
                have hab7 : AB W7 g x := (HFS.out.ab.keep k5).below hb7
                have hoq7 : OQ w b (drp L x.id) W7 := (show OQ w b (drp L x.id) w5 from o5).below hb7
                have HF7 := Lib.hid (HFI.out W7 hir7)
                have hbd : Below W7.heap.size W7 W7.drew := (Below.refl W7.heap.size W7).drew
                have hir8 := hir7.below hbd (Nat.le_refl _)
                have HD7 := Lib.hid (HDR.out W7.drew hir8)
                have HA7 := Lib.hid (hab7.below hbd)
                have HO7 := Lib.hid (hoq7.below hbd)
                obtain ⟨a0, a1, a2⟩ := hab7.cells
                have a1' : W7.drew.cell? ⟨g, 1, none⟩ = some (.int .i64 x.id) := a1
                obtain ⟨d0, d1⟩ := hi7.cells
                have d0' : W7.drew.cell? ⟨w5.heap.size, 0, none⟩ = some (.int .i64 x.id) := d0
                have d1' : W7.drew.cell? ⟨w5.heap.size, 1, none⟩ = some (.int .i64 y2) := d1
                obtain ⟨g10, o10, hq10, hk10, f0, f1⟩ := hir8.ic i HLI.out
                injection hq10 with hq10
                injection hq10 with e1 e2
                subst e1 e2
                rw [HY.out] at f0 f1
                simp only at f0 f1
                have HI6 := Lib.hid hi6
                have HW7 := Lib.hid hW7
                have HI := Lib.hid (item_info (x.id, y2))
                have HO := Lib.hid (item_one (x.id, y2))
                clear o5 k5 hi6 hi7 hb7 hW7 d0 d1 HQ c0 c1 c2 a0 a2 hir7 hir8 hab7 hoq7 hbd hk10
                go_wp2_with (first
                  | (refine wpList_store_row rfl 32 _ _ rfl w5.heap.size (ic (x.id, y2)) rfl rfl 32 (ic it0) HI6.out HI.out rfl HO.out ?_; rw [HW7.out])
                  | (go_at_call 12; refine HF7.out.mono ?_; rintro e w' ⟨rfl, hw⟩; rw [hw]; clear hw))
                refine wp_region_text (S := (fun w9 => w9 = W7.drew)) (by kernel_rfl) ?_ ?_
                · rfl
                repeat (first
                  | (refine anyR_value (v := ?_) (by kernel_rfl) (by rfl) (fun _ _ _ h => h) (fun w1 hS => ?_) ?_
                     rotate_left
                     · rw [hS]
                       go_simp
                       with_reducible rfl
                     simp only [Act.put, List.setIfInBounds_toArray, List.set_cons_zero, List.set_cons_succ])
                  | (refine anyR_not (by kernel_rfl) (by rfl) (fun _ _ _ h => h) ?_
                     simp only [Act.put, List.setIfInBounds_toArray, List.set_cons_zero, List.set_cons_succ])
                  | (refine anyR_call (v := ?_) (f := ?_) (args := ?_) (by kernel_rfl) (by rfl) (fun _ _ _ h => h) (fun w1 hS => ?_) (fun w1 hS => ?_) ?_
                     rotate_left 3
                     · go_simp
                       (try constructor) <;> with_reducible rfl
                     · first
                         | (fail)
                     simp only [Act.put, List.setIfInBounds_toArray, List.set_cons_zero, List.set_cons_succ])
                  | refine anyR_done (by kernel_rfl) (fun w1 hS => ?_))
                have e9 : w1 = W7.drew := hS
                subst e9
                clear hS
                go_wp2_with fail
                refine HD7.out.mono ?_
                rintro e w8 ⟨p8, m8, c8, rfl, hl8, hc8, hown8, hb8⟩
                have HFIN : Hid (Sw w b g x (j + 1) (.slice p8 m8 c8) w8) := Lib.hid ⟨_, _, _, _, rfl, HDL.out, HO7.out.below hb8, hown8.read, HA7.out.below hb8⟩
                clear hl8 hc8 hown8 hb8
                go_wp2
                go_meet
                exact HFIN
      case rest =>
        obtain ⟨q5, m5, c5, L5, hv5, hl5, hfs5⟩ := hcut.out
        subst hv5
        have HL5 := Lib.hid hl5
        have hm5 : m5 ≤ 100000 := by rw [← hfs5.ir.hl]; omega
        have hhd := hfs5.oq.head
        obtain ⟨C, hC⟩ : ∃ C, cst L5 = C := ⟨_, rfl⟩
        obtain ⟨B, hB⟩ : ∃ B, (fd L5 x.id).isSome = B := ⟨_, rfl⟩
        obtain ⟨P, hP⟩ : ∃ P, pz (ix L5 x.id) = P := ⟨_, rfl⟩
        have hPB : decide (0 ≤ P) = B := by
          rw [← hP, ← hB, fd_ix]
          cases ix L5 x.id with
          | none => rfl
          | some i =>
            simp only [Option.map_some, Option.isSome_some]
            exact decide_eq_true (by show (0 : Int) ≤ (i : Int); omega)
        have HCST : Hid (∀ w', FS w b g x L5 q5 m5 c5 w' → Calls Try.prog 18 #[.pointer (some ⟨b, 0, none⟩)] w' fun e w2 => e = .returned (.int .i64 C) ∧ w2 = w') := Lib.hid (fun w' h => by rw [← hC]; exact h.oq.cost)
        have HRCS : Hid (∀ w', FS w b g x L5 q5 m5 c5 w' → Calls Try.prog 19 #[.slice q5 m5 c5] w' fun e w2 => e = .returned (.int .i64 C) ∧ w2 = w') := Lib.hid (fun w' h => by rw [← hC]; exact rf_cost q5 m5 c5 L5 w' hm5 h.ir h.oq.ok)
        have HHAS : Hid (∀ w', FS w b g x L5 q5 m5 c5 w' → Calls Try.prog 20 #[.pointer (some ⟨b, 0, none⟩), .int .i64 x.id] w' fun e w2 => e = .returned (.bool B) ∧ w2 = w') := Lib.hid (fun w' h => by rw [← hB]; exact h.oq.has x.id HXT.out)
        have HFND : Hid (∀ w', FS w b g x L5 q5 m5 c5 w' → Calls Try.prog 12 #[.slice q5 m5 c5, .int .i64 x.id] w' fun e w2 => e = .returned (.int .i64 P) ∧ w2 = w') := Lib.hid (fun w' h => by rw [← hP]; exact rf_find q5 m5 c5 L5 x.id w' hm5 h.ir)
        have hmm : ((m5 : Int) != (m5 : Int)) = false := by simp
        have hCC : (C != C) = false := by simp
        have hBB : (B != B) = false := by simp
        have hni := neq_item
        have hml := hfs5.ir.hl
        clear hC hB hP HFS c0 c1 c2 HXT hLj
        cases L5 with
        | nil =>
          as_aux_lemma =>
            have hpop : hv ([] : List It).head? = .tuple #[.agg #[.int .i64 0, .int .i64 0], .bool false] := rfl
            rw [hpop] at hhd
            have HHD := Lib.hid hhd
            have hm0 : m5 = 0 := by rw [← hml]; rfl
            have hd : decide ((0 : Int) < (m5 : Int)) = false := by rw [decide_eq_false_iff_not]; omega
            have hd2 : decide (0 < m5) = false := by rw [decide_eq_false_iff_not]; omega
            have HF5 := Lib.hid hfs5
            clear hpop hhd hml hni hm0 hfs5 hcut hl5
            go_wp2_with fail
            refine HHD.out.mono ?_
            rintro e w6 ⟨rfl, hb6⟩
            obtain ⟨W6, W7, hW6, hW7, hi6, hi7, hb7⟩ := made w6 it0
            have HX0 : Hid (FX w b g x [] q5 m5 c5 w6.heap.size it0 W7.drew) := Lib.hid ((⟨(HF5.out.below hb6).below hb7, hi7⟩ : FX w b g x [] q5 m5 c5 w6.heap.size it0 W7).below (Below.refl W7.heap.size W7).drew)
            have HI6 := Lib.hid hi6
            have HW7 := Lib.hid hW7
            have HI := Lib.hid (item_info it0)
            have HO := Lib.hid (item_one it0)
            clear hb6 hi6 hi7 hb7 hW7 HHD HF5
            go_wp2_with (refine wpList_store_row rfl 32 _ _ rfl w6.heap.size (ic it0) rfl rfl 32 (ic it0) HI6.out HI.out rfl HO.out ?_; rw [HW7.out])
            have HS0 : Hid (∀ w1 (k : Addr), FX w b g x [] q5 m5 c5 w6.heap.size it0 w1 → Calls Try.prog 15 #[.slice (some k) 0 0, .slice q5 m5 c5] w1 fun e w' => e = .returned (.bool true) ∧ FX w b g x [] q5 m5 c5 w6.heap.size it0 w') := Lib.hid (fun w1 k h => by
              have e0 : m5 = 0 := h.fs.ir.hl.symm
              subst e0
              exact h.same (by omega) ⟨rfl, Nat.le_refl _, (fun e => by cases e), IC.nil _ _⟩)
            refine Bz.wp_region (S := Bz.st1 [] 17 (fun bb w1 => FX w b g x [] q5 m5 c5 w6.heap.size it0 w1 ∧ (bb = false → w1 = W7.drew))) (by kernel_rfl) ?_ ?_
            · exact Bz.st1_start (by decide) ⟨HX0.out, fun _ => rfl⟩
            repeat (first
              | (refine Bz.anyR_value (v := ?_) (by kernel_rfl) (fun m w1 _ hS => Bz.st1_keep (by decide) hS) (by rfl) (fun _ _ _ h => h) (fun m w1 _ hS => ?_) ?_
                 rotate_left
                 · (obtain ⟨_, hfx, hq9⟩ := hS; clear hq9; obtain ⟨z0, z1, z2⟩ := FX.cells0 hfx)
                   go_simp
                   with_reducible rfl
                 (try simp only [Act.put, List.setIfInBounds_toArray, List.set_cons_zero, List.set_cons_succ]))
              | (refine Bz.anyR_not (by kernel_rfl) (fun m w1 _ hS => Bz.st1_keep (by decide) hS) (by rfl) (fun _ _ _ h => h) ?_
                 (try simp only [Act.put, List.setIfInBounds_toArray, List.set_cons_zero, List.set_cons_succ]))
              | (refine Bz.anyR_call (v := ?_) (f := ?_) (args := ?_) (by kernel_rfl) (by rfl) (fun _ _ _ h => h) (fun m w1 hm hS => ?_) (fun m w1 hm hS => ?_) ?_
                 rotate_left 3
                 · go_simp
                   (try constructor) <;> with_reducible rfl
                 · first
                     | ((have h1 := Bz.st1_first hm hS; have e1 := h1.2 rfl; subst e1; (with_reducible refine (h1.1.all0.mono ?_)); rintro e w' ⟨rfl, hp⟩; refine ⟨?_, Bz.st1_A (by decide) (by intro L hL; cases hL) ⟨hp, (fun e => by cases e)⟩⟩; with_reducible rfl))
                     | ((have hfx := hS.2.1; (with_reducible refine ((HS0.out w1 _ hfx).mono ?_)); rintro e w' ⟨rfl, hp⟩; refine ⟨?_, Bz.st1_go (by decide) (hm.2 ⟨17, .data⟩ (by simp) rfl) (by intro L hL; cases hL) ⟨hp, (fun e => by cases e)⟩⟩; with_reducible rfl))
                     | ((have hfx := hS.2.1; (with_reducible refine (hfx.len.mono ?_)); rintro e w' ⟨rfl, hw⟩; rw [hw]; refine ⟨?_, Bz.st1_keep (by decide) hS⟩; with_reducible rfl))
                     | ((have hfx := hS.2.1; (with_reducible refine ((HCST.out w1 hfx.fs).mono ?_)); rintro e w' ⟨rfl, hw⟩; rw [hw]; refine ⟨?_, Bz.st1_keep (by decide) hS⟩; with_reducible rfl))
                     | ((have hfx := hS.2.1; (with_reducible refine ((HRCS.out w1 hfx.fs).mono ?_)); rintro e w' ⟨rfl, hw⟩; rw [hw]; refine ⟨?_, Bz.st1_keep (by decide) hS⟩; with_reducible rfl))
                     | ((have hfx := hS.2.1; (with_reducible refine ((HHAS.out w1 hfx.fs).mono ?_)); rintro e w' ⟨rfl, hw⟩; rw [hw]; refine ⟨?_, Bz.st1_keep (by decide) hS⟩; with_reducible rfl))
                     | ((have hfx := hS.2.1; (with_reducible refine ((HFND.out w1 hfx.fs).mono ?_)); rintro e w' ⟨rfl, hw⟩; rw [hw]; refine ⟨?_, Bz.st1_keep (by decide) hS⟩; with_reducible rfl))
                 (try simp only [Act.put, List.setIfInBounds_toArray, List.set_cons_zero, List.set_cons_succ]))
              | refine Bz.anyR_done (by kernel_rfl) (fun w1 hS => ?_))
            have hfx := (Bz.st1_end (by decide) (by decide) hS).1
            have HR : Hid (∃ (q : Option Addr) (m c : Nat) (L : List It), Value.slice q5 m5 c5 = .slice q m c ∧ L.length ≤ j + 1 ∧ IR w1 q m c L ∧ OQ w b L w1) := Lib.hid ⟨q5, m5, c5, [], rfl, HL5.out, hfx.fs.ir, hfx.fs.oq⟩
            clear hfx hS
            go_wp2
            go_roundw
            case rel => exact ⟨j + 1, by go_num, hlt, HR⟩
            case measure => simp [intOf]; omega
        | cons z l =>
          as_aux_lemma =>
            obtain ⟨y1, y2⟩ := z
            have hpop : hv ((y1, y2) :: l).head? = .tuple #[.agg #[.int .i64 y1, .int .i64 y2], .bool true] := rfl
            rw [hpop] at hhd
            have HHD := Lib.hid hhd
            have hm0 : 0 < m5 := by rw [← hml]; simp
            have hd : decide ((0 : Int) < (m5 : Int)) = true := by rw [decide_eq_true_iff]; omega
            have hdz : (0 : Int) < (m5 : Int) := by omega
            have hn0 := hni y1 y2
            obtain ⟨g9, o9, hq9, _, _, _⟩ := hfs5.ir.ic 0 (by simp)
            subst hq9
            have HF5 := Lib.hid hfs5
            clear hpop hhd hml hni hfs5 hcut hl5
            go_wp2_with fail
            refine HHD.out.mono ?_
            rintro e w6 ⟨rfl, hb6⟩
            obtain ⟨W6, W7, hW6, hW7, hi6, hi7, hb7⟩ := made w6 (y1, y2)
            have HX0 : Hid (FX w b g x ((y1, y2) :: l) (some ⟨g9, o9, none⟩) m5 c5 w6.heap.size (y1, y2) W7.drew) := Lib.hid ((⟨(HF5.out.below hb6).below hb7, hi7⟩ : FX w b g x ((y1, y2) :: l) (some ⟨g9, o9, none⟩) m5 c5 w6.heap.size (y1, y2) W7).below (Below.refl W7.heap.size W7).drew)
            have HI6 := Lib.hid hi6
            have HW7 := Lib.hid hW7
            have HI := Lib.hid (item_info (y1, y2))
            have HO := Lib.hid (item_one (y1, y2))
            clear hb6 hi6 hi7 hb7 hW7 HHD HF5
            go_wp2_with (refine wpList_store_row rfl 32 _ _ rfl w6.heap.size (ic (y1, y2)) rfl rfl 32 (ic it0) HI6.out HI.out rfl HO.out ?_; rw [HW7.out])
            go_region_held3 (fun w' => w'.cell? ⟨w6.heap.size, 0, none⟩ = some (.int .i64 y1) ∧ w'.cell? ⟨w6.heap.size, 1, none⟩ = some (.int .i64 y2) ∧ w'.cell? ⟨g, 1, none⟩ = some (.int .i64 x.id) ∧ w'.cell? ⟨g9, o9, none⟩ = some (.int .i64 y1) ∧ w'.cell? ⟨g9, o9 + 1, none⟩ = some (.int .i64 y2))
              (first | exact HX0.out.cells1 | exact HX1.out.cells1 | exact HX2.out.cells1)
              (first
                | (go_at_call 16; refine HX0.out.all.mono ?_; rintro e wb ⟨p9, c9, rfl, hr9, h9⟩; have HX1 := Lib.hid h9; have HR9 := Lib.hid hr9; clear h9 hr9)
                | (go_at_call 15; refine (HX1.out.same hm5 HR9.out).mono ?_; rintro e wb ⟨rfl, h9⟩; have HX2 := Lib.hid h9; clear h9)
                | (go_at_call 17; refine HX2.out.len.mono ?_; rintro e w' ⟨rfl, hw⟩; rw [hw]; clear hw)
                | (go_at_call 18; refine (HCST.out _ HX2.out.fs).mono ?_; rintro e w' ⟨rfl, hw⟩; rw [hw]; clear hw)
                | (go_at_call 19; refine (HRCS.out _ HX2.out.fs).mono ?_; rintro e w' ⟨rfl, hw⟩; rw [hw]; clear hw)
                | (go_at_call 20; refine (HHAS.out _ HX2.out.fs).mono ?_; rintro e w' ⟨rfl, hw⟩; rw [hw]; clear hw)
                | (go_at_call 12; refine (HFND.out _ HX2.out.fs).mono ?_; rintro e w' ⟨rfl, hw⟩; rw [hw]; clear hw))
            have HR := Lib.hid (show ∃ (q : Option Addr) (m c : Nat) (L : List It), Value.slice (some ⟨g9, o9, none⟩) m5 c5 = .slice q m c ∧ L.length ≤ j + 1 ∧ IR _ q m c L ∧ OQ w b L _ from ⟨some ⟨g9, o9, none⟩, m5, c5, (y1, y2) :: l, rfl, HL5.out, HX2.out.fs.ir, HX2.out.fs.oq⟩)
            go_wp2
            go_roundw
            case rel => exact ⟨j + 1, by go_num, hlt, HR⟩
            case measure => simp [intOf]; omega
    · have e1 : j = n := by omega
      subst e1
      have HBL := Lib.hid hoq.bl
      clear hoq hir hr
      go_wp2_with fail
      refine (fifo14.live_any _).mono ?_
      rintro e w9 ⟨rfl, hb9⟩
      have HB9 := Lib.hid (below_next HBL.out hb9)
      clear hb9
      go_wp2
      go_ret
      exact ⟨rfl, HB9.out⟩
theorem walk (p : Option Addr) (n cap : Nat) (acts : List A14) (hn : acts.length = n) (hmx : n ≤ maxLen) (haw : ∀ x ∈ acts, Mi.Wf x.id) (w : World) (hac : AC14 w p acts) :
    Calls Try.prog 3 #[.slice p n cap] w fun e w' => e = .returned (.bool true) ∧ Below w.heap.size w w' := by
  unfold maxLen at hmx
  by_cases h2 : 200 < n
  · exact walk_big p n cap w h2 (by omega)
  · exact walk_small p n cap acts w hn (by omega) haw hac
theorem own : ownKnob Try.prog.godebug = none := by kernel_rfl
theorem laidOut : laidOutB Try.prog = true := by kernel_rfl
set_option maxRecDepth 100000 in
theorem contract (H : Type) (enc : TypeId × Value → H) (W : World) (base : Nat) (args : Array Value) (ds gs : List (DataW H)) (before : List MemPlace)
    (hval0 : ∀ (j : Nat) t v, Try.f3.params[j]? = some t → args[j]? = some v → Value.okWide Try.prog W .any base t v)
    (hW : DataW.Whole enc Try.prog Try.f3.params.toList Rows.fifoActsSpec.vars false W args.toList ds gs before) :
    Calls Try.prog 3 args W fun e W' => ∃ v, e = .returned v ∧ Rows.fifoActsSpec.post enc Try.prog Try.f3 false true false false W args v W' := by
  have hval : ∀ (j : Nat) t v, Try.f3.params[j]? = some t → args[j]? = some v → Value.okWide Try.prog W .any base t v := hval0
  clear hval0
  have hW' := hW
  obtain ⟨p, q, hA0, hV, rfl, hfz, hnd⟩ := hW
  have hA : DataW.TrodAll enc Try.prog W 0 (fun _ => true) true Try.f3.params.toList args.toList ds p := hA0
  rw [Try.params3] at hA hval
  obtain ⟨v0, vs0, d0, ds0, p0, q0, hargs, rfl, rfl, h0, r0⟩ := trodAll_cons hA
  obtain ⟨rfl, rfl, rfl⟩ := trodAll_nil r0
  obtain rfl : args = #[v0] := by cases args; simp_all
  obtain ⟨rfl, rfl⟩ := trodVars_none hV
  obtain ⟨pp, n, cap, acts, rfl, hn, hmx, haw, hac⟩ := acts14_open h0 (okWide_slice Try.underlying22 (hval 0 22 v0 rfl rfl))
  clear hA0
  refine (walk pp n cap acts hn hmx haw W hac).mono fun e W' ⟨he, hb⟩ => ?_
  subst he
  exact ⟨_, rfl, law_post laidOut (by kernel_rfl) rfl Try.underlying4 rfl hW' rfl hb⟩

set_option maxRecDepth 100000 in
theorem lifted (os : Os) (started : os.Started) (H : Type) (enc : TypeId × Value → H) :
    ReturnsInHanded {} Try.checked os 3 .any (Rows.fifoActsSpec.pre6 enc Try.prog Try.f3 Rows.fifoActsRow.domain false) (Rows.fifoActsSpec.post enc Try.prog Try.f3 false true false false) := by
  refine returnsInHanded_of_change (C := Try.checked) own started (by kernel_rfl) Try.func3
    (ChangeSpec.witness6 (enc := enc) (C := Try.checked) false ⟨#[], #[.slice none 0 0], []⟩ 8 (by kernel_rfl) (by kernel_rfl) (by kernel_rfl) (by kernel_rfl)) ?_
  intro W base args ds gs before hval0 hW _ _
  exact contract H enc W base args ds gs before hval0 hW

/-- THE STATEMENT -/
theorem proved : Rows.FifoActsSaid :=
  OpenClaim.holds_of_wide 3 Try.f3 rfl rfl rfl rfl rfl rfl rfl ⟨rfl, rfl, rfl, rfl, rfl⟩ rfl rfl rfl rfl rfl (by kernel_rfl) Try.func3 (by kernel_rfl)
    (of_decide_eq_true (by kernel_rfl)) (by unfold Func.isWrapper; first | (rw [if_pos (by decide +kernel)]; kernel_rfl) | (rw [if_neg (by decide +kernel)]; exact ⟨rfl, rfl⟩))
    (fun os started H enc _ => lifted os started H enc)
end fifoActs
end Go.Proofs.Ytcfmbdcklapmhaa
