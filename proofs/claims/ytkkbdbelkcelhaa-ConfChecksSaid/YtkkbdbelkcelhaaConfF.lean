/-
  CONTRACTS OF LAYER 7 (conf), part F: Check.
-/
import Derived.Test.YtkkbdbelkcelhaaConfD
import Derived.Test.YtkkbdbelkcelhaaLoad
namespace Go.Proofs.Ytkkbdbelkcelhaa
open Go.RowKit Go.Maps
set_option linter.unusedVariables false

/-- block g is a configuration -/
def CBlk (w : World) (g : Nat) (c : Cf.C) (tp : Option Addr) (n tc : Nat) (lp : Option Addr) (m lc : Nat) : Prop := w.heap[g]? = some (.cells (ccells c tp n tc lp m lc) 25)
theorem CBlk.cells {w : World} {g : Nat} {c : Cf.C} {tp lp : Option Addr} {n tc m lc : Nat} (h : CBlk w g c tp n tc lp m lc) :
    w.cell? ⟨g, 0, none⟩ = some (.slice tp n tc) ∧ w.cell? ⟨g, 1, none⟩ = some (.slice lp m lc) ∧ w.cell? ⟨g, 2, none⟩ = some (.int .i64 c.quantum) ∧ w.cell? ⟨g, 3, none⟩ = some (.int .i64 c.cost) ∧ w.cell? ⟨g, 4, none⟩ = some (.int .i64 c.cap) ∧
    w.cell? ⟨g, 5, none⟩ = some (.int .i64 c.invs) ∧ w.cell? ⟨g, 6, none⟩ = some (.int .i64 c.weight) ∧ w.cell? ⟨g, 7, none⟩ = some (.int .i64 c.pools) ∧ w.cell? ⟨g, 8, none⟩ = some (.int .i64 c.retries) ∧ w.cell? ⟨g, 9, none⟩ = some (.int .i64 c.preempts) ∧
    w.cell? ⟨g, 10, none⟩ = some (.int .i64 c.base) ∧ w.cell? ⟨g, 11, none⟩ = some (.int .i64 c.most) ∧ w.cell? ⟨g, 12, none⟩ = some (.int .i64 c.lease) ∧ w.cell? ⟨g, 13, none⟩ = some (.int .i64 c.dead) ∧ w.cell? ⟨g, 14, none⟩ = some (.int .i64 c.keep) ∧
    w.cell? ⟨g, 15, none⟩ = some (.int .i64 c.keys) ∧ w.cell? ⟨g, 16, none⟩ = some (.int .i64 c.percent) ∧ w.cell? ⟨g, 17, none⟩ = some (.int .i64 c.workers) ∧ w.cell? ⟨g, 18, none⟩ = some (.int .i64 c.watch) := by
  unfold CBlk at h
  refine ⟨?_, ?_, ?_, ?_, ?_, ?_, ?_, ?_, ?_, ?_, ?_, ?_, ?_, ?_, ?_, ?_, ?_, ?_, ?_⟩ <;> (rw [World.cell?, h]; rfl)
theorem CBlk.lt {w : World} {g : Nat} {c : Cf.C} {tp lp : Option Addr} {n tc m lc : Nat} (h : CBlk w g c tp n tc lp m lc) : g < w.heap.size := (Array.getElem?_eq_some_iff.1 h).1
theorem CBlk.below {w w' : World} {g B : Nat} {c : Cf.C} {tp lp : Option Addr} {n tc m lc : Nat} (h : CBlk w g c tp n tc lp m lc) (hb : Below B w w') (hB : w.heap.size ≤ B) : CBlk w' g c tp n tc lp m lc := by
  unfold CBlk
  rw [hb.block g (Nat.lt_of_lt_of_le h.lt hB)]
  exact h
theorem CBlk.made (w : World) (c : Cf.C) (tp lp : Option Addr) (n tc m lc : Nat) : CBlk (w.alloc (.cells (ccells c tp n tc lp m lc) 25)) w.heap.size c tp n tc lp m lc := heap_alloc_new w _
set_option maxHeartbeats 2000000 in
set_option maxRecDepth 100000 in
theorem check_any (c : Cf.C) (tp lp : Option Addr) (n tc m lc : Nat) (w : World) (h : CIn w c tp n lp m) :
    Calls Try.prog 7 #[cv c tp n tc lp m lc] w fun e w' => e = .returned (.int .i64 (Cf.chk c)) ∧ Below w.heap.size w w' := by
  obtain ⟨R, hR⟩ : ∃ R, Cf.chk c = R := ⟨_, rfl⟩
  have hba : Below w.heap.size w (w.alloc (.cells (ccells c tp n tc lp m lc) 25)) := (Below.refl _ w).alloc (Nat.le_refl _) _
  have h1 := h.below hba (Nat.le_refl _)
  have hmk := CBlk.made w c tp lp n tc m lc
  have hten := tenants_any c.ten n tp tc _ h.hn h.names h1.tin h.n100
  rw [hR]
  have hn := h.hn
  have hm := h.hm
  have hn1 := h.n100
  have hm1 := h.m100
  have HTEN := Lib.hid hten
  have HMK := Lib.hid hmk
  have HBA := Lib.hid hba
  have HC := Lib.hid h1
  have HRR := Lib.hid hR
  clear hten hmk hba h1 hR h
  unfold cv
  have c0 : (ccells c tp n tc lp m lc)[0]? = some (.slice tp n tc) := rfl
  have c1 : (ccells c tp n tc lp m lc)[1]? = some (.slice lp m lc) := rfl
  by_cases hmany : c.ten.length < 1 ∨ 6 < c.ten.length
  · have HE : Hid (R = 9) := Lib.hid (by rw [← HRR.out, Cf.chk_many hmany])
    rw [hn] at hmany
    clear hn hm HTEN HRR
    rcases hmany with hmany | hmany
    all_goals
      go_enter Try.func7, Try.ntmps7
      go_wp2
      go_ret
      exact ⟨ret_i64 HE.out.symm, HBA.out⟩
  · have hr1 := Cf.chk_ten hmany
    have hr2 := fun h => Cf.chk_lims hmany h
    have hr3 := fun h => Cf.chk_rest hmany h
    rw [HRR.out] at hr1 hr2 hr3
    rw [hn] at hmany
    rw [hm] at hr2 hr3
    have hn0 : 1 ≤ n ∧ n ≤ 6 := by omega
    obtain ⟨T, hT⟩ : ∃ T, Cf.tn [] c.ten = T := ⟨_, rfl⟩
    rw [hT] at hr1 hr2 hr3 HTEN
    clear hn hm HRR hT hmany
    by_cases h0 : T = 0
    · subst h0
      clear hr1
      by_cases h3 : 3 < m
      · have HE := Lib.hid (hr2 rfl h3)
        clear hr2 hr3
        go_enter Try.func7, Try.ntmps7
        go_wp2_with fail
        refine HTEN.out.mono ?_
        rintro e w2 ⟨rfl, hb2⟩
        have hblk := CBlk.below HMK.out hb2 (Nat.le_refl _)
        obtain ⟨_, f1, _⟩ := hblk.cells
        have hb02 := below_next HBA.out hb2
        clear hblk hb2
        go_wp2
        go_ret
        exact ⟨ret_i64 HE.out.symm, hb02⟩
      · have HE := Lib.hid (hr3 rfl h3)
        clear hr2 hr3
        go_enter Try.func7, Try.ntmps7
        go_wp2_with fail
        refine HTEN.out.mono ?_
        rintro e w2 ⟨rfl, hb2⟩
        have hblk := CBlk.below HMK.out hb2 (Nat.le_refl _)
        have hc2 := HC.out.below hb2 (Nat.le_refl _)
        have hris := rising_any c.lim m lp lc w2 hc2.hm hc2.lin hc2.m100
        have HBLK := Lib.hid hblk
        have HRIS := Lib.hid hris
        have hb02 := below_next HBA.out hb2
        obtain ⟨_, f1, _⟩ := hblk.cells
        clear hblk hb2 hc2 hris HTEN HMK HBA HC
        obtain ⟨U, hU⟩ : ∃ U, Cf.up 1 c.lim = U := ⟨_, rfl⟩
        rw [hU] at HE HRIS
        clear hU
        cases U
        · have HE2 : Hid (R = 1) := Lib.hid (by rw [HE.out]; rfl)
          clear HE
          go_wp2_with fail
          refine HRIS.out.mono ?_
          rintro e w3 ⟨rfl, hb3⟩
          have hb03 := below_next hb02 hb3
          go_wp2
          go_ret
          exact ⟨ret_i64 HE2.out.symm, hb03⟩
        · go_wp2_with fail
          refine HRIS.out.mono ?_
          rintro e w3 ⟨rfl, hb3⟩
          have hblk3 := CBlk.below HBLK.out hb3 (Nat.le_refl _)
          have hb03 := below_next hb02 hb3
          have hnum := numbers_any c tp lp n tc m lc w3
          unfold cv at hnum
          have HNUM := Lib.hid hnum
          have HB3 : Hid (w3.heap[w.heap.size]? = some (.cells (ccells c tp n tc lp m lc) 25)) := Lib.hid hblk3
          clear hb3 hblk3 hnum hb02 HRIS HBLK f1
          obtain ⟨V, hV⟩ : ∃ V, Cf.wi (Cf.rows c) = V := ⟨_, rfl⟩
          have HV := Lib.hid hV
          rw [hV] at HE
          clear hV
          go_wp2_with (refine ld_row (by rfl) 25 _ rfl w.heap.size rfl _ _ _ _ HB3.out Try.underlying25 rfl (by kernel_rfl) ?_)
          refine HNUM.out.mono ?_
          rintro e w4 ⟨g, rfl, hrows, hb4⟩
          have hwn := within_any (Cf.rows c) 17 g w4 rfl hrows (by decide)
          rw [HV.out] at hwn
          have HW := Lib.hid hwn
          have hb04 := below_next hb03 hb4
          clear hwn hrows hb4 hb03 HNUM
          cases V
          · have HE2 : Hid (R = 1) := Lib.hid (by rw [HE.out]; rfl)
            go_wp2_with fail
            refine HW.out.mono ?_
            rintro e w5 ⟨rfl, hb5⟩
            have hb05 := below_next hb04 hb5
            go_wp2
            go_ret
            exact ⟨ret_i64 HE2.out.symm, hb05⟩
          · have HE2 : Hid (R = 0) := Lib.hid (by rw [HE.out]; rfl)
            go_wp2_with fail
            refine HW.out.mono ?_
            rintro e w5 ⟨rfl, hb5⟩
            have hb05 := below_next hb04 hb5
            go_wp2
            go_ret
            exact ⟨ret_i64 HE2.out.symm, hb05⟩
    · have HE := Lib.hid (hr1 h0)
      have hne : ((T : Int) == 0) = false := by rw [beq_eq_false_iff_ne]; exact h0
      have hne2 : ((T : Int) != 0) = true := by rw [bne, hne]; rfl
      clear hr1 hr2 hr3 h0
      go_enter Try.func7, Try.ntmps7
      go_wp2_with fail
      refine HTEN.out.mono ?_
      rintro e w2 ⟨rfl, hb2⟩
      go_wp2
      go_ret
      exact ⟨ret_i64 HE.out.symm, below_next HBA.out hb2⟩
end Go.Proofs.Ytkkbdbelkcelhaa
