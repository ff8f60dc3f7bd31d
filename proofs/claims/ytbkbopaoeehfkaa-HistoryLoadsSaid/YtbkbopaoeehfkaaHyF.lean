/-
  THE PAGE OF LAYER 13 (history), part F: Observe.
-/
import Derived.Test.YtbkbopaoeehfkaaHyE
import Derived.Test.YtbkbopaoeehfkaaHistF
import Derived.Great.BuildSlice
import Derived.Deep.DeepCutAuto
namespace Go.Proofs.Ytbkbopaoeehfkaa
open Go.RowKit Lr Ft Hy Bt
set_option linter.unusedVariables false
theorem run_bs (k : ByteArray) (f : El) (w : World) : (Instr.buildSlice 29 1 #[(0, .agg (ec k f))]).run Try.prog w = .ok (.slice (some ⟨w.heap.size, 0, none⟩) 1 1) (w.alloc (.cells (ec k f) 58)) := by
  obtain ⟨i0, hinf, hz0, hz1, hz2⟩ := info_parts info_R
  exact run_buildSlice w 29 58 1 _ (ec k f) i0 (.agg (ec ByteArray.empty Hs.z)) Try.underlying29 hinf hz0 (by rw [hz1]; omega) (by rw [hz1]; omega) (by rw [hz1]; kernel_rfl)
theorem wp_bs {P : Program} {ops : Array Oper} {rest : List Oper} {o : Oper} {a : Act} {Q : Exit → Act → World → Prop} (w : World) (hg : o.guard = none) (t : TypeId) (len : Nat) (parts : Array (Nat × Operand)) (ho : o.op = .buildSlice t len parts) (vs : Array (Nat × Value)) (hvs : (parts.map fun (i, x) => (i, a.eval x)) = vs) (V : Value) (W : World) (hr : (Instr.buildSlice t len vs).run P w = .ok V W)
    (hQ : wpList P ops Q rest (a.put o.dst V) W) : wpList P ops Q (o :: rest) a w := by
  refine wpList_plain hg fun K' hK' => ?_
  unfold Oper.wp
  simp only [execOp, ho, hvs, Sem.run_bind, hr, Result.andThen, Sem.run_pure]
  exact hK' _ _ hQ
theorem row_cells (w : World) (k : ByteArray) (f : El) (ty : TypeId) : ∀ (j : Nat) (u : Value), (ec k f).toList[j]? = some u → (w.alloc (.cells (ec k f) ty)).cell? ((⟨w.heap.size, 0, none⟩ : Addr).add j) = some u := by
  intro j u hj
  have hadd : (⟨w.heap.size, 0, none⟩ : Addr).add j = ⟨w.heap.size, j, none⟩ := by unfold Addr.add; split <;> simp_all
  rw [hadd, World.cell?_alloc_at _ _ _ _ rfl]
  rw [Array.getElem?_toList] at hj
  exact hj
namespace Hy
theorem OwnR.fits {w : World} {B n c : Nat} {a : Addr} {l : List KV} (h : OwnR w B (.slice (some a) n c) l) : l.length ≤ c := by
  rcases h.2 with ⟨hv, _⟩ | ⟨g, cap, cur, hv, _, _, hle, _⟩
  · cases hv
  · injection hv with _ _ e3
    omega
/-- v reads as these rows, in a block of rows -/
def RV (w : World) (v : Value) (P : List KV) : Prop := ∃ p cap, v = .slice p P.length cap ∧ RC w p P ∧ ∀ a, p = some a → Kd w a.block 58
/-- the page's table in memory -/
structure RPh (w : World) (br : Nat) (v : Value) (room : Nat) (P : List KV) : Prop where
  kind : Kd w br 31
  c0 : w.cell? ⟨br, 0, none⟩ = some (.int .i64 room)
  c1 : w.cell? ⟨br, 1, none⟩ = some v
  own : RV w v P
theorem RV.block {w w' : World} {v : Value} {P : List KV} (h : RV w v P) (hs : w.heap.size ≤ w'.heap.size) (hb : ∀ x, Kd w x 58 → w'.heap[x]? = w.heap[x]?) : RV w' v P := by
  obtain ⟨p, cap, e, h1, h2⟩ := h
  exact ⟨p, cap, e, h1.block hs (fun a ha _ => hb _ (h2 a ha)), fun a ha => (h2 a ha).block (hb _ (h2 a ha))⟩
theorem RPh.same {w w' : World} {br room : Nat} {v : Value} {P : List KV} (h : RPh w br v room P) (hs : w.heap.size ≤ w'.heap.size) (h0 : w'.heap[br]? = w.heap[br]?) (hb : ∀ x, Kd w x 58 → w'.heap[x]? = w.heap[x]?) : RPh w' br v room P where
  kind := h.kind.block h0
  c0 := by rw [World.cell?_of_block h0]; exact h.c0
  c1 := by rw [World.cell?_of_block h0]; exact h.c1
  own := h.own.block hs hb
theorem RPh.below {w w' : World} {br room : Nat} {v : Value} {P : List KV} (h : RPh w br v room P) (hb : Below w.heap.size w w') : RPh w' br v room P := h.same hb.size (hb.block br h.kind.lt) (fun x hk => hb.block x hk.lt)
theorem drp_take {L : List KV} {j : Nat} (h : j < L.length) (k : ByteArray) : drp (L.take (j + 1)) k = if (L.getD j kv0).1 = k then drp (L.take j) k else drp (L.take j) k ++ [L.getD j kv0] := by
  have e : L.take (j + 1) = L.take j ++ [L.getD j kv0] := by
    rw [List.take_succ_eq_append_getElem h, List.getD_eq_getElem?_getD, List.getElem?_eq_getElem h]
    rfl
  rw [e, drp_app, drp_cons]
  by_cases e1 : (L.getD j kv0).1 = k
  · rw [if_pos e1, if_pos e1]
    simp [drp]
  · rw [if_neg e1, if_neg e1]
    rfl
def RObs (w : World) (br room : Nat) (P : List KV) (e : Ending) (w' : World) : Prop := e = .returned (.tuple #[]) ∧ (∃ v', RPh w' br v' room P) ∧ Mv (fun y => y = br) w w'
theorem RObs.close {w w3 : World} {br room : Nat} {zr : Int} {v : Value} {P : List KV} (hb : Below w.heap.size w w3) (hk : Kd w3 br 31) (hz : (room : Int) = zr) (h0 : w3.cell? ⟨br, 0, none⟩ = some (.int .i64 zr)) {u : Value} (h1 : w3.cell? ⟨br, 1, none⟩ = some u) (hv : RV w3 v P) (hbr : br < w.heap.size) :
    RObs w br room P (.returned (.tuple #[])) (w3.setCell ⟨br, 1, none⟩ v) := by
  refine ⟨rfl, ⟨v, hk.set _ _, ?_, cset_same h1, hv.block (by simp [World.setCell]) (fun x hx => Below.heap_setCell _ _ _ _ (hx.ne hk (by decide)))⟩, (Mv.of_below (S := fun y => y = br) hb).trans (Mv.setCell (S := fun y => y = br) w3 ⟨br, 1, none⟩ v rfl) (fun _ _ e => e)⟩
  rw [cset_other (Or.inr (by omega)), hz]
  exact h0
theorem RC.tail {w : World} {g : Nat} {l : List KV} (h : RC w (some ⟨g, 0, none⟩) l) : RC w (some ⟨g, 17, none⟩) (l.drop 1) := fun i hi => by
  rw [List.length_drop] at hi
  obtain ⟨g2, off, e, h2, h3⟩ := h (i + 1) (by omega)
  injection e with e
  injection e with e1 e2
  subst e1 e2
  refine ⟨g, 17, rfl, h2, ?_⟩
  have e3 : (l.drop 1).getD i kv0 = l.getD (i + 1) kv0 := by
    rw [List.getD_eq_getElem?_getD, List.getD_eq_getElem?_getD, List.getElem?_drop, Nat.add_comm 1 i]
  rw [e3]
  have e4 : 17 + i * 17 = 0 + (i + 1) * 17 := by omega
  rw [e4]
  exact h3
end Hy
section
variable {w w' : World} {br room : Nat} {v : Value} {P : List KV}
set_option maxHeartbeats 2000000 in
set_option maxRecDepth 100000 in
theorem rh_obs (h : RPh w br v room P) (k : ByteArray) (x : Nat) (hx : x < 18446744073709551616) (hlen : P.length ≤ 900) :
    Calls Try.prog 9 #[.pointer (some ⟨br, 0, none⟩), .string k, .int .u64 x] w (RObs w br room (robs room P k (Hs.ad (hst P k) x))) := by
  obtain ⟨i0, hinf, hz0, hz1, hz2⟩ := info_parts info_R
  have HI := Lib.hid hinf
  have HZ0 := Lib.hid hz0
  have HZ1 := Lib.hid hz1
  have HZ2 := Lib.hid hz2
  have HH := Lib.hid h
  obtain ⟨p, cap, hv, hrc, hkd⟩ := h.own
  obtain ⟨n, hn⟩ : ∃ n, P.length = n := ⟨_, rfl⟩
  rw [hn] at hv hlen
  subst hv
  have hc0 := h.c0
  have hc1 := h.c1
  obtain ⟨zr, hzr⟩ : ∃ z : Int, (room : Int) = z := ⟨_, rfl⟩
  have HZR := Lib.hid hzr
  rw [hzr] at hc0
  have HC := Lib.hid (rh_hist zr p n cap P k w hn (by omega) hrc)
  obtain ⟨f, hf⟩ : ∃ f, hst P k = f := ⟨_, rfl⟩
  rw [hf] at HC ⊢
  have HA := Lib.hid (fun w => radd_any f x hx w)
  obtain ⟨g, hg⟩ : ∃ g, Hs.ad f x = g := ⟨_, rfl⟩
  rw [hg] at HA ⊢
  obtain ⟨z, hz⟩ : ∃ z : Int, (x : Int) = z := ⟨_, rfl⟩
  rw [hz] at HA ⊢
  have HRC := Lib.hid hrc
  have HN := Lib.hid hn
  have hbl := h.kind.lt
  have hfz := h.kind.frozen 1
  have HBL := Lib.hid hbl
  clear h hinf hz0 hz1 hz2 hrc hkd hn hzr hf hg hz hx
  go_enter Try.func9, Try.ntmps9
  go_wp2_with fail
  refine HC.out.mono ?_
  rintro e w1 ⟨rfl, hb1⟩
  go_wp2_with fail
  refine (HA.out _).mono ?_
  rintro e w2 ⟨rfl, hb2⟩
  have hb12 := below_next hb1 hb2
  obtain ⟨q, hq⟩ : ∃ q, w2.heap.size = q := ⟨_, rfl⟩
  have hwq : w.heap.size ≤ q := by rw [← hq]; exact hb12.size
  have hb3 := (Below.refl w2.heap.size w2).alloc (Nat.le_refl _) (.cells (hc Hs.z) 49)
  have H3 := Lib.hid (HB.made w2 Hs.z)
  have H4 := Lib.hid (HB.row H3.out g)
  have B4 := Lib.hid (below_setRow (g := w2.heap.size) (below_next hb12 hb3) (by rw [hq]; exact hwq) (hc g))
  have HI3 := Lib.hid (hist_info g)
  have HO3 := Lib.hid (hc_one g)
  obtain ⟨W4, hW4⟩ : ∃ W, (w2.alloc (.cells (hc Hs.z) 49)).setRow w2.heap.size (hc g) = W := ⟨_, rfl⟩
  rw [hW4] at H4 B4
  have HW4 := Lib.hid hW4
  have hs4 : W4.heap.size = q + 1 := by rw [← hW4, setRow_size, ← hq]; simp
  obtain ⟨W5, hW5⟩ : ∃ W, W4.alloc (.cells #[] 58) = W := ⟨_, rfl⟩
  have hb5 : Below W4.heap.size W4 W5 := by rw [← hW5]; exact (Below.refl _ _).alloc (Nat.le_refl _) _
  have HOWN : Hid (OwnR W5 (q + 1) (.slice (some ⟨w2.heap.size + 1, 0, none⟩) 0 0) []) := Lib.hid (by
    rw [← hW5, hq, ← hs4]
    exact World.ownsRow_made W4 #[] 0 (Nat.le_refl _) (by decide) rfl)
  have H5 := Lib.hid (H4.out.below hb5 (Nat.le_refl _))
  have B5 := Lib.hid (below_next B4.out hb5)
  have HS5 : Hid (q + 1 ≤ W5.heap.size) := Lib.hid (by have := hb5.size; omega)
  have HWQ := Lib.hid hwq
  have HQ := Lib.hid hq
  rw [hq] at H5
  clear hb1 hb2 hb12 hb3 hb5 hwq hs4 HA HC hW4 hq
  go_wp2_with (first
    | (refine wpList_store_row rfl 49 _ _ rfl w2.heap.size (hc g) rfl rfl 49 (hc Hs.z) H3.out HI3.out rfl HO3.out ?_))
  go_loopw [7, 8] (fun l i wr => ∃ j : Nat, i = .int .i64 j ∧ j ≤ n ∧ Hid (OwnR wr (q + 1) l (drp (P.take j) k)) ∧ Hid (HB wr q g) ∧ Hid (Below w.heap.size w wr) ∧ Hid (q + 1 ≤ wr.heap.size)) (fun _ i _ => n - (intOf i).toNat)
  case atStart =>
    refine ⟨0, rfl, Nat.zero_le _, ?_⟩
    show Hid (OwnR (((w2.alloc (.cells (hc Hs.z) 49)).setRow w2.heap.size (hc g)).alloc (.cells #[] 58)) (q + 1) (.slice (some ⟨w2.heap.size + 1, 0, none⟩) 0 0) (drp (P.take 0) k)) ∧ Hid (HB (((w2.alloc (.cells (hc Hs.z) 49)).setRow w2.heap.size (hc g)).alloc (.cells #[] 58)) q g) ∧ Hid (Below w.heap.size w (((w2.alloc (.cells (hc Hs.z) 49)).setRow w2.heap.size (hc g)).alloc (.cells #[] 58))) ∧ Hid (q + 1 ≤ (((w2.alloc (.cells (hc Hs.z) 49)).setRow w2.heap.size (hc g)).alloc (.cells #[] 58)).heap.size)
    rw [HW4.out, hW5]
    exact ⟨HOWN, H5, B5, HS5⟩
  case round =>
    obtain ⟨j, rfl, hj, ho, hh, hb, hs⟩ := hrel
    have hcw1 : wr.cell? ⟨br, 1, none⟩ = some (.slice p n cap) := by rw [hb.out.cell (p := ⟨br, 1, none⟩) HBL.out]; exact hc1
    by_cases hlt : j < n
    · obtain ⟨g2, off, hpg, hg2, hx0, _, hx2⟩ := (HRC.out.below hb.out (Nat.le_refl _)).at (i := j) (by rw [HN.out]; exact hlt)
      have hdt := drp_take (L := P) (j := j) (by rw [HN.out]; exact hlt) k
      obtain ⟨⟨q1, q2⟩, hqq⟩ : ∃ q, P.getD j kv0 = q := ⟨_, rfl⟩
      rw [hqq] at hx0 hx2 hdt
      simp only at hx0 hx2 hdt
      have hltz : (j : Int) < (n : Int) := by omega
      subst hpg
      by_cases e1 : q1 = k
      · rw [if_pos e1] at hdt
        have HO : Hid (OwnR wr (q + 1) u7 (drp (P.take (j + 1)) k)) := Lib.hid (by rw [hdt]; exact ho.out)
        have hb1 := str_beq e1
        clear hdt hqq hx2 e1
        go_wp2
        go_roundw
        case rel => exact ⟨j + 1, by go_num, hlt, HO, hh, hb, hs⟩
        case measure => simp [intOf]; omega
      · rw [if_neg e1] at hdt
        have hb1 := str_bne e1
        have HX2 := Lib.hid hx2
        have HDT := Lib.hid hdt
        obtain ⟨M, hM⟩ : ∃ M, (drp (P.take j) k).length = M := ⟨_, rfl⟩
        have hM2 : M ≤ 900 := by rw [← hM]; have := drp_le (P.take j) k; rw [List.length_take] at this; omega
        have HM := Lib.hid hM
        have hown := ho.out
        unfold OwnR at hown
        rw [hM] at hown
        have hbs := run_bs q1 q2
        have hsz := hs.out
        clear hdt hqq hx2 e1 hM
        go_upto_region 6 with fail
        clear hx0
        go_wp2_with (first
          | refine ld_mid (by rfl) 58 _ rfl g2 (off + j * 17) rfl (ec q1 q2) _ HX2.out Try.underlying58 rfl (by kernel_rfl) ?_
          | refine wp_bs _ rfl 29 1 _ rfl #[(0, .agg (ec q1 q2))] (by kernel_rfl) _ _ (hbs _) ?_
          | (at_builtin; refine wpList_append_own _ rfl _ _ 29 rfl (q + 1) 58 i0 (.agg (ec ByteArray.empty Hs.z)) 17 144 Try.underlying29 HI.out HZ0.out HZ1.out HZ2.out rfl (by decide) _ _ _ rfl (World.ownsRow.alloc hown _) ⟨wr.heap.size, 0, none⟩ 1 1 (ec q1 q2).toList rfl rfl (row_cells wr q1 q2 _) (ec_one q1 q2) (by unfold maxLen; omega) (by omega) (by simp; omega) ?_))
        intro v3 w3 hown3 hgrow hnil
        have HO : Hid (OwnR w3 (q + 1) v3 (drp (P.take (j + 1)) k)) := Lib.hid (by
          unfold OwnR
          rw [HDT.out, rcells_app, List.length_append, HM.out]
          exact hown3)
        have hba := (Below.refl wr.heap.size wr).alloc (Nat.le_refl _) (.cells (ec q1 q2) 58)
        have hbg : Below (q + 1) (wr.alloc (.cells (ec q1 q2) 58)) w3 := (Below.refl _ _).grown hgrow (by simp; omega) (fun x e => (ho.out.kind e).1)
        have HB3 := Lib.hid (hb.out.trans ((hba.mono hb.out.size).trans (hbg.mono (show w.heap.size ≤ q + 1 by have := HWQ.out; omega))))
        have HH3 : Hid (HB w3 q g) := Lib.hid (by
          unfold HB
          rw [hbg.block q (by omega), hba.block q hh.out.lt]
          exact hh.out)
        have HS3 : Hid (q + 1 ≤ w3.heap.size) := Lib.hid (by have h1 := hgrow.size; simp at h1; omega)
        clear hown3 hgrow hnil hown hba hbg ho hh hb hs
        go_wp2
        go_roundw
        case rel => exact ⟨j + 1, by go_num, hlt, HO, HH3, HB3, HS3⟩
        case measure => simp [intOf]; omega
    · have e9 : j = n := by omega
      subst e9
      have hown := ho.out
      rw [List.take_of_length_le (by rw [HN.out]; exact Nat.le_refl _)] at hown
      obtain ⟨L1, hL1⟩ : ∃ L1, drp P k = L1 := ⟨_, rfl⟩
      rw [hL1] at hown
      have HL1 := Lib.hid hL1
      obtain ⟨M, hM⟩ : ∃ M, L1.length = M := ⟨_, rfl⟩
      have hM2 : M ≤ 900 := by have h1 := drp_le P k; have h2 := HN.out; rw [hL1] at h1; omega
      have HM := Lib.hid hM
      have HU := Lib.hid hown
      unfold OwnR at hown
      rw [hM] at hown
      have hbs := run_bs k g
      have hbe := build_row k g
      have hsz := hs.out
      have hhc0 : wr.cell? ⟨br, 0, none⟩ = some (.int .i64 zr) := by rw [hb.out.cell (p := ⟨br, 0, none⟩) HBL.out]; exact hc0
      have HBW : Hid (HB wr w2.heap.size g) := Lib.hid (by rw [HQ.out]; exact hh.out)
      clear hM hL1 ho
      go_wp2_with (first
        | refine ld_row (by rfl) 49 _ rfl w2.heap.size rfl _ _ _ _ HBW.out Try.underlying49 rfl (by kernel_rfl) ?_
        | refine wp_build _ rfl 58 _ rfl #[(0, .string k), (1, .agg (hc g))] (by kernel_rfl) (.agg (ec k g)) hbe ?_
        | refine wp_bs _ rfl 29 1 _ rfl #[(0, .agg (ec k g))] (by kernel_rfl) _ _ (hbs _) ?_
        | (at_builtin; refine wpList_append_own _ rfl _ _ 29 rfl (q + 1) 58 i0 (.agg (ec ByteArray.empty Hs.z)) 17 144 Try.underlying29 HI.out HZ0.out HZ1.out HZ2.out rfl (by decide) _ _ _ rfl (World.ownsRow.alloc hown _) ⟨wr.heap.size, 0, none⟩ 1 1 (ec k g).toList rfl rfl (row_cells wr k g _) (ec_one k g) (by unfold maxLen; omega) (by omega) (by simp; omega) ?_))
      intro v3 w3 hown3 hgrow hnil
      have hown4 : OwnR w3 (q + 1) v3 (L1 ++ [(k, g)]) := by
        unfold OwnR
        rw [rcells_app, List.length_append, HM.out]
        exact hown3
      have hba := (Below.refl wr.heap.size wr).alloc (Nat.le_refl _) (.cells (ec k g) 58)
      have hbg : Below (q + 1) (wr.alloc (.cells (ec k g) 58)) w3 := (Below.refl _ _).grown hgrow (by simp; omega) (fun x e => (HU.out.kind e).1)
      have hb3 : Below w.heap.size w w3 := hb.out.trans ((hba.mono hb.out.size).trans (hbg.mono (show w.heap.size ≤ q + 1 by have := HWQ.out; omega)))
      have hc03 : w3.cell? ⟨br, 0, none⟩ = some (.int .i64 zr) := by rw [hb3.cell (p := ⟨br, 0, none⟩) HBL.out]; exact hc0
      have hc13 : w3.cell? ⟨br, 1, none⟩ = some (.slice p j cap) := by rw [hb3.cell (p := ⟨br, 1, none⟩) HBL.out]; exact hc1
      have hk3 : Kd w3 br 31 := HH.out.kind.block (hb3.block br HBL.out)
      have hfz3 := hk3.frozen 1
      obtain ⟨p3, c3, hv3, hmx3, hrc3, hkd3⟩ := hown4.view
      obtain ⟨N, hN⟩ : ∃ N, (L1 ++ [(k, g)]).length = N := ⟨_, rfl⟩
      have hN2 : N = M + 1 := by rw [← hN, List.length_append, HM.out]; rfl
      rw [hN] at hv3
      subst hv3
      obtain ⟨g3, off3, rfl, hg3, _⟩ := hrc3 0 (by omega)
      obtain ⟨q1, _, q3, q4⟩ := hkd3 _ rfl
      simp only at q1 q3 q4
      subst q1
      have hfit := hown4.fits
      rw [hN] at hfit
      have HRC3 := Lib.hid hrc3
      have HKD3 := Lib.hid q4
      have HB3 := Lib.hid hb3
      have HNN := Lib.hid hN
      have HK3 := Lib.hid hk3
      have HN2 := Lib.hid hN2
      have HG3 := Lib.hid hg3
      have hN3 : N ≤ 901 := by omega
      have hN0 : 1 ≤ N := by omega
      have hc3 : N ≤ c3 := hfit
      clear hown3 hgrow hnil hown hba hbg hh hb hs hown4 hb3 hmx3 hrc3 hkd3 hN hcw1 hhc0 hk3 hbs hbe q3 q4 hN2 hfit hg3
      have HROB : Hid (robs room P k g = if room < N then (L1 ++ [(k, g)]).drop 1 else L1 ++ [(k, g)]) := Lib.hid (by
        unfold robs
        rw [HL1.out, HM.out, ← HN2.out])
      by_cases hg : zr < (N : Int)
      · have hgn : room < N := by have := HZR.out; omega
        have HR : Hid (robs room P k g = (L1 ++ [(k, g)]).drop 1) := Lib.hid (by rw [HROB.out, if_pos hgn])
        have HLD : Hid ((robs room P k g).length = N - 1) := Lib.hid (by rw [HR.out, List.length_drop, HNN.out])
        clear HROB hgn
        by_cases hcap : c3 = 1
        · have HRV : Hid (RV w3 (.slice (some ⟨g3, 0, none⟩) (N - 1) 0) (robs room P k g)) := Lib.hid ⟨_, 0, by rw [HLD.out], fun i hi => by have := HLD.out; omega, fun a e => by injection e with e; subst e; exact HKD3.out⟩
          have HF := Lib.hid (RObs.close HB3.out HK3.out HZR.out hc03 hc13 HRV.out HBL.out)
          go_wp2
          first | go_ret | go_ret2 | go_end0
          exact HF.out
        · have HRV : Hid (RV w3 (.slice (some ⟨g3, 17, none⟩) (N - 1) (c3 - 1)) (robs room P k g)) := Lib.hid ⟨_, c3 - 1, by rw [HLD.out], by rw [HR.out]; exact HRC3.out.tail, fun a e => by injection e with e; subst e; exact HKD3.out⟩
          have HF := Lib.hid (RObs.close HB3.out HK3.out HZR.out hc03 hc13 HRV.out HBL.out)
          go_wp2
          first | go_ret | go_ret2 | go_end0
          exact HF.out
      · have HR : Hid (robs room P k g = L1 ++ [(k, g)]) := Lib.hid (by rw [HROB.out, if_neg (by have := HZR.out; omega)])
        have HRV : Hid (RV w3 (.slice (some ⟨g3, 0, none⟩) N c3) (robs room P k g)) := Lib.hid ⟨_, c3, by rw [HR.out, HNN.out], by rw [HR.out]; exact HRC3.out, fun a e => by injection e with e; subst e; exact HKD3.out⟩
        have HF := Lib.hid (RObs.close HB3.out HK3.out HZR.out hc03 hc13 HRV.out HBL.out)
        clear HROB
        go_wp2
        first | go_ret | go_ret2 | go_end0
        exact HF.out
end
end Go.Proofs.Ytbkbopaoeehfkaa
