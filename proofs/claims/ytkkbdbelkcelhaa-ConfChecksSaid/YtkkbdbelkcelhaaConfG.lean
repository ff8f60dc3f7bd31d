/-
  CONTRACTS OF LAYER 7 (conf), part G: the page's Check, Right.
-/
import Derived.Test.YtkkbdbelkcelhaaConfC
import Derived.Test.YtkkbdbelkcelhaaConfE
import Derived.Test.YtkkbdbelkcelhaaConfF
import Derived.Deep.DeepCutAuto
namespace Go.Proofs.Ytkkbdbelkcelhaa
open Go.RowKit Go.Maps
set_option linter.unusedVariables false

theorem val_bool {a b : Bool} (h : a = b) : Value.bool a = .bool b := by rw [h]
theorem rten_many {l : List Cf.Tn} (h : l.length < 1 ∨ 6 < l.length) : rten l = 9 := by unfold rten; rw [if_pos h]
theorem rten_some {l : List Cf.Tn} (h : ¬ (l.length < 1 ∨ 6 < l.length)) : rten l = Cf.tn [] l := by unfold rten; rw [if_neg h]
theorem chk_page (c : Cf.C) : Cf.chk c = if rten c.ten = 0 then (if 3 < c.lim.length then 9 else if (Cf.up 1 c.lim && (Cf.oka c && (Cf.okb c && Cf.okd c))) = true then 0 else 1) else rten c.ten := by
  by_cases h : c.ten.length < 1 ∨ 6 < c.ten.length
  · rw [rten_many h, Cf.chk_many h, if_neg (by decide)]
  · rw [rten_some h]
    unfold Cf.chk
    rw [if_neg h, Cf.rows_ok]
set_option maxHeartbeats 2000000 in
set_option maxRecDepth 100000 in
theorem rcheck_any (c : Cf.C) (tp lp : Option Addr) (n tc m lc : Nat) (w : World) (h : CIn w c tp n lp m) :
    Calls Try.prog 8 #[cv c tp n tc lp m lc] w fun e w' => e = .returned (.int .i64 (Cf.chk c)) ∧ Below w.heap.size w w' := by
  obtain ⟨R, hR⟩ : ∃ R, Cf.chk c = R := ⟨_, rfl⟩
  have hba : Below w.heap.size w (w.alloc (.cells (ccells c tp n tc lp m lc) 25)) := (Below.refl _ w).alloc (Nat.le_refl _) _
  have h1 := h.below hba (Nat.le_refl _)
  have hmk := CBlk.made w c tp lp n tc m lc
  have hten := rtenants_any c.ten n tp tc _ h.hn h.names h1.tin h.n100
  have hpage := chk_page c
  rw [hR] at hpage ⊢
  rw [h.hm] at hpage
  obtain ⟨T, hT⟩ : ∃ T, rten c.ten = T := ⟨_, rfl⟩
  rw [hT] at hten hpage
  have HTEN := Lib.hid hten
  have HMK := Lib.hid hmk
  have HBA := Lib.hid hba
  have HC := Lib.hid h1
  have HP := Lib.hid hpage
  have hm1 := h.m100
  clear hten hmk hba h1 hR h hpage hT
  unfold cv
  have c0 : (ccells c tp n tc lp m lc)[0]? = some (.slice tp n tc) := rfl
  have c1 : (ccells c tp n tc lp m lc)[1]? = some (.slice lp m lc) := rfl
  by_cases h0 : T = 0
  · subst h0
    by_cases h3 : 3 < m
    · have HE : Hid (R = 9) := Lib.hid (by rw [HP.out, if_pos rfl, if_pos h3])
      go_enter Try.func8, Try.ntmps8
      go_wp2_with fail
      refine HTEN.out.mono ?_
      rintro e w2 ⟨rfl, hb2⟩
      have hblk := CBlk.below HMK.out hb2 (Nat.le_refl _)
      obtain ⟨_, f1, _⟩ := hblk.cells
      have hb02 := below_next HBA.out hb2
      clear hblk hb2
      go_wp2
      go_ret
      exact ⟨ret_i64 HE.out.symm, hb02⟩
    · have HE : Hid (R = if (Cf.up 1 c.lim && (Cf.oka c && (Cf.okb c && Cf.okd c))) = true then 0 else 1) := Lib.hid (by rw [HP.out, if_pos rfl, if_neg h3])
      go_enter Try.func8, Try.ntmps8
      go_wp2_with fail
      refine HTEN.out.mono ?_
      rintro e w2 ⟨rfl, hb2⟩
      have hblk := CBlk.below HMK.out hb2 (Nat.le_refl _)
      have hc2 := HC.out.below hb2 (Nat.le_refl _)
      have hris := rises_any c.lim m lp lc w2 hc2.hm hc2.lin hc2.m100
      have HBLK := Lib.hid hblk
      have HRIS := Lib.hid hris
      have hb02 := below_next HBA.out hb2
      obtain ⟨_, f1, f2, f3, f4, f5, f6, f7, f8, f9, f10, f11, f12, f13, f14, f15, f16, f17, f18⟩ := hblk.cells
      clear hblk hb2 hc2 hris HTEN HMK HBA HC c0 c1
      go_upto_region 6 with fail
      go_cut [4] from 17 to 44 (fun s4 wx => w2 = wx ∧ s4 = .bool (Cf.oka c))
      case first =>
        go_wp2_with (go_at_call 23; refine (in_any _ _ _ _).mono ?_; rintro e w' ⟨rfl, rfl⟩)
        all_goals clear f1 f2 f3 f4 f5 f6 f7 f8 f9 f10 f11 f12 f13 f14 f15 f16 f17 f18
        all_goals go_meet
        all_goals exact ⟨rfl, val_bool (by unfold Cf.oka; simp [*])⟩
      case rest =>
        obtain ⟨rfl, rfl⟩ := hcut
        go_upto_region 7 with fail
        go_cut [5] from 45 to 69 (fun s4 wx => w2 = wx ∧ s4 = .bool (Cf.okb c))
        case first =>
          go_wp2_with (go_at_call 23; refine (in_any _ _ _ _).mono ?_; rintro e w' ⟨rfl, rfl⟩)
          all_goals clear f1 f2 f3 f4 f5 f6 f7 f8 f9 f10 f11 f12 f13 f14 f15 f16 f17 f18
          all_goals go_meet
          all_goals exact ⟨rfl, val_bool (by unfold Cf.okb; simp [*])⟩
        case rest =>
          obtain ⟨rfl, rfl⟩ := hcut
          go_upto_region 8 with fail
          go_cut [6] from 70 to 97 (fun s4 wx => w2 = wx ∧ s4 = .bool (Cf.okd c))
          case first =>
            go_wp2_with (go_at_call 23; refine (in_any _ _ _ _).mono ?_; rintro e w' ⟨rfl, rfl⟩)
            all_goals clear f1 f2 f3 f4 f5 f6 f7 f8 f9 f10 f11 f12 f13 f14 f15 f16 f17 f18
            all_goals go_meet
            all_goals exact ⟨rfl, val_bool (by unfold Cf.okd; simp [*])⟩
          case rest =>
            obtain ⟨rfl, rfl⟩ := hcut
            clear f2 f3 f4 f5 f6 f7 f8 f9 f10 f11 f12 f13 f14 f15 f16 f17 f18
            obtain ⟨A, hA⟩ : ∃ x, Cf.oka c = x := ⟨_, rfl⟩
            obtain ⟨B, hB⟩ : ∃ x, Cf.okb c = x := ⟨_, rfl⟩
            obtain ⟨D, hD⟩ : ∃ x, Cf.okd c = x := ⟨_, rfl⟩
            obtain ⟨U, hU⟩ : ∃ x, Cf.up 1 c.lim = x := ⟨_, rfl⟩
            rw [hA, hB, hD, hU] at HE
            rw [hU] at HRIS
            rw [hA, hB, hD]
            clear hA hB hD hU
            go_wp2_with fail
            refine HRIS.out.mono ?_
            rintro e w3 ⟨rfl, hb3⟩
            have hb03 := below_next hb02 hb3
            clear hb02 hb3 HRIS HBLK f1
            cases U <;> cases A <;> cases B <;> cases D
            all_goals
              have HE2 := Lib.hid HE.out
              simp only [Bool.and_true, Bool.and_false, if_true, Bool.false_eq_true, if_false] at HE2
              go_wp2
              go_ret
              exact ⟨ret_i64 HE2.out.symm, hb03⟩
  · have HE : Hid (R = T) := Lib.hid (by rw [HP.out, if_neg h0])
    have hne : ((T : Int) == 0) = false := by rw [beq_eq_false_iff_ne]; exact h0
    have hne2 : ((T : Int) != 0) = true := by rw [bne, hne]; rfl
    clear h0
    go_enter Try.func8, Try.ntmps8
    go_wp2_with fail
    refine HTEN.out.mono ?_
    rintro e w2 ⟨rfl, hb2⟩
    go_wp2
    go_ret
    exact ⟨ret_i64 HE.out.symm, below_next HBA.out hb2⟩
end Go.Proofs.Ytkkbdbelkcelhaa
