/-
  CONTRACTS OF LAYER 13 (history), part D: Rows.
-/
import Derived.Test.YtbkbopaoeehfkaaHyC
namespace Go.Proofs.Ytbkbopaoeehfkaa
open Go.RowKit Lr Ft Hy
set_option linter.unusedVariables false
namespace Hy
theorem hst_mem {L : List KV} (h : Ks L) {x : KV} (hx : x ∈ L) : hst L x.1 = x.2 := by
  unfold hst
  cases hf : fd L x.1 with
  | none => exact absurd (List.mem_map.2 ⟨_, hx, rfl⟩) (fd_none.1 hf)
  | some u =>
    have hm2 : (x.1, u) ∈ L := fd_mem hf
    obtain ⟨i, hi, e1⟩ := List.mem_iff_getElem.1 hx
    obtain ⟨j, hj, e2⟩ := List.mem_iff_getElem.1 hm2
    unfold Ks at h
    have hij : i = j := by
      refine (List.getElem_inj (xs := L.map (·.1)) (h₀ := by simpa using hi) (h₁ := by simpa using hj) h).1 ?_
      rw [List.getElem_map, List.getElem_map, e1, e2]
    subst hij
    rw [e1] at e2
    rw [e2]
    rfl
/-- the first j of R, then zeros -/
def lst (R : List KV) (n j : Nat) : List KV := R.take j ++ List.replicate (n - j) (ByteArray.empty, Hs.z)
theorem lst_zero (R : List KV) (n : Nat) : lst R n 0 = List.replicate n (ByteArray.empty, Hs.z) := by unfold lst; simp
theorem lst_len {R : List KV} {n j : Nat} (h : R.length = n) (hj : j ≤ n) : (lst R n j).length = n := by
  unfold lst
  rw [List.length_append, List.length_take, List.length_replicate]
  omega
theorem lst_end {R : List KV} {n : Nat} (h : R.length = n) : lst R n n = R := by
  unfold lst
  rw [Nat.sub_self, List.take_of_length_le (by omega)]
  simp
theorem lst_set {R : List KV} {n j : Nat} (h : R.length = n) (hj : j < n) : (lst R n j).set j (R.getD j kv0) = lst R n (j + 1) := by
  unfold lst
  have e1 : n - j = (n - (j + 1)) + 1 := by omega
  rw [e1, List.replicate_succ, List.set_append_right _ _ (by rw [List.length_take]; omega), List.length_take, Nat.min_eq_left (by omega), Nat.sub_self, List.set_cons_zero]
  rw [List.take_succ_eq_append_getElem (by omega), List.append_assoc, List.getD_eq_getElem?_getD, List.getElem?_eq_getElem (by omega)]
  rfl
def HRows (w : World) (L : List KV) (e : Ending) (w' : World) : Prop := ∃ p n cap, e = .returned (.slice p n cap) ∧ L.length = n ∧ OwnR w' w.heap.size (.slice p n cap) L.reverse ∧ Below w.heap.size w w'
theorem kys_getD (L : List KV) (j : Nat) : (kys L).getD j ByteArray.empty = (L.getD j kv0).1 := by
  unfold kys
  rw [List.getD_eq_getElem?_getD, List.getD_eq_getElem?_getD, List.getElem?_map]
  cases L[j]? <;> rfl
end Hy
section
variable {w w' : World} {H room : Nat} {D : Td} {ns : List Nd}
set_option maxHeartbeats 2000000 in
set_option maxRecDepth 100000 in
theorem hy_rows (h : Hb w H D room ns) : Calls Try.prog 24 #[.pointer (some ⟨H, 0, none⟩)] w (HRows w (kvs ns)) := by
  obtain ⟨i0, hinf, hz0, hz1, hz2⟩ := info_parts info_R
  have HI := Lib.hid hinf
  have HZ0 := Lib.hid hz0
  have HZ1 := Lib.hid hz1
  have HZ2 := Lib.hid hz2
  have HH := Lib.hid h
  have HKY := Lib.hid (keys_any h.tb)
  have hlen := h.tb.len
  have hc0 := h.c0
  unfold pv at hc0
  have HKS := Lib.hid h.tb.keys
  have HWF := Lib.hid h.tb.wf
  rw [← kvs_len] at hlen
  obtain ⟨L, hL⟩ : ∃ L, kvs ns = L := ⟨_, rfl⟩
  have HL := Lib.hid hL
  rw [hL] at HKY HKS hlen HWF ⊢
  clear h hL hinf hz0 hz1 hz2
  go_enter Try.func24, Try.ntmps24
  go_wp2_with (go_at_call 40; refine HKY.out.mono ?_)
  rintro e w1 ⟨p, n, cap, rfl, hn, hown, hb1⟩
  have hLn : L.length = n := by rw [← kys_len]; exact hn
  have HREV := Lib.hid (rev_any hown hn (by omega))
  have HB1 := Lib.hid hb1
  have HLN := Lib.hid hLn
  have HSZ := Lib.hid hb1.size
  have hn2 : n ≤ 1000 := by omega
  clear hown hb1 hLn hc0 hlen hn HKY
  go_wp2_with (go_at_call 41; refine HREV.out.mono ?_)
  rintro e w2 ⟨rfl, hown2, hgr2, hb2⟩
  have hB2 := HB1.out.trans hb2
  obtain ⟨p9, c9, hv, hmx, hsc⟩ := hown2.view
  injection hv with e1 e2 e3
  subst e1
  clear e2 e3 hmx hgr2
  have HSC := Lib.hid hsc
  have HB2 := Lib.hid hB2
  clear hown2 hb2 hsc hB2 HREV
  go_wp2_with (first
    | (at_make; refine wpList_make_full _ rfl _ _ 29 rfl w.heap.size 58 i0 (.agg (ec ByteArray.empty Hs.z)) 17 Try.underlying29 HI.out HZ0.out HZ1.out _ _ _ _ n rfl rfl rfl rfl (by rw [HZ2.out]; omega) (by unfold maxLen; omega) HB2.out.size ?_))
  intro w3 hown3 hgr3
  have ho3 : OwnR w3 w.heap.size (.slice (some ⟨w2.heap.size, 0, none⟩) n n) (lst L.reverse n 0) := by
    unfold OwnR
    rw [lst_zero, List.length_replicate, ← made_rows]
    exact hown3
  have hb3 : Below w2.heap.size w2 w3 := (Below.refl _ _).grown hgr3 (Nat.le_refl _) (fun k e => by cases e)
  have HO3 := Lib.hid ho3
  have HSC3 := Lib.hid (HSC.out.below hb3 (Nat.le_refl _))
  have HB3 := Lib.hid (HB2.out.trans (hb3.mono HB2.out.size))
  have HSZ2 := Lib.hid hb3.size
  have hpl : ∀ i, i < n → ∃ g2, p = some ⟨g2, 0, none⟩ ∧ g2 < w2.heap.size := fun i hi => by
    obtain ⟨g2, q1, q2, _⟩ := HSC.out i (by rw [List.length_reverse, kys_len, HLN.out]; exact hi)
    exact ⟨g2, q1, q2⟩
  obtain ⟨g, hg⟩ : ∃ g, w2.heap.size = g := ⟨_, rfl⟩
  rw [hg] at HO3 HSZ2 hpl ⊢
  have HPL := Lib.hid hpl
  have HG := Lib.hid hg
  clear ho3 hown3 hgr3 hb3 HSC hg hpl
  go_wp2
  go_loopw [21] (fun i wr => ∃ j : Nat, i = .int .i64 j ∧ j ≤ n ∧ Hid (OwnR wr w.heap.size (.slice (some ⟨g, 0, none⟩) n n) (lst L.reverse n j)) ∧ Hid (SC wr p (kys L).reverse) ∧ Hid (Below w.heap.size w wr)) (fun i _ => n - (intOf i).toNat)
  case atStart => exact ⟨0, rfl, Nat.zero_le _, HO3, HSC3, HB3⟩
  case round =>
    obtain ⟨j, rfl, hj, ho, hsc, hb⟩ := hrel
    by_cases hlt : j < n
    · obtain ⟨g2, hpg, _, hx0⟩ := hsc.out j (by rw [List.length_reverse, kys_len, HLN.out]; exact hlt)
      have hltz : (j : Int) < (n : Int) := by omega
      obtain ⟨x, hx⟩ : ∃ x, L.reverse.getD j kv0 = x := ⟨_, rfl⟩
      have hk : (kys L).reverse.getD j ByteArray.empty = x.1 := by
        rw [← hx, ← kys_getD]
        unfold kys
        rw [List.map_reverse]
      rw [hk] at hx0
      have hmem : x ∈ L := by
        rw [← List.mem_reverse, ← hx, List.getD_eq_getElem?_getD, List.getElem?_eq_getElem (by rw [List.length_reverse, HLN.out]; exact hlt)]
        exact List.getElem_mem _
      have hh := hy_hist (HH.out.below hb.out (Nat.le_refl _)) (HWF.out x hmem)
      rw [HL.out, hst_mem HKS.out hmem] at hh
      have HHI := Lib.hid hh
      have hset := lst_set (R := L.reverse) (j := j) (by rw [List.length_reverse]; exact HLN.out) hlt
      rw [hx] at hset
      obtain ⟨k, f⟩ := x
      have HSET := Lib.hid hset
      subst hpg
      clear hx hk hmem hh hset
      simp only at hx0 HHI
      go_wp2_with fail
      refine HHI.out.mono ?_
      rintro e w5 ⟨rfl, hb5⟩
      have ho5 := ho.out.below hb5
      have hsc5 := hsc.out.below hb5 (Nat.le_refl _)
      have hbb5 := hb.out.trans (hb5.mono hb.out.size)
      obtain ⟨cur, hh5, hfit, hnew⟩ := ho5.set (lst_len (by rw [List.length_reverse]; exact HLN.out) hj) hlt (k, f)
      rw [HSET.out] at hnew
      simp only at hfit hnew
      have HI5 := Lib.hid (row_info k f)
      have HO5 := Lib.hid (ent_one k f)
      have hbe := build_row k f
      have HFIT := Lib.hid hfit
      have HH5 := Lib.hid hh5
      have HNEW := Lib.hid hnew
      have hgw : w.heap.size ≤ g := by rw [← HG.out]; exact HB2.out.size
      have HB6 := Lib.hid (below_setRow (g := g) hbb5 hgw (splice cur (j * 17) (ec k f).toList))
      have hg2 : g2 ≠ g := by
        obtain ⟨g3, q1, q2⟩ := HPL.out j hlt
        injection q1 with q1
        injection q1 with q1
        omega
      have HSC6 : Hid (SC (w5.setRow g (splice cur (j * 17) (ec k f).toList)) (some ⟨g2, 0, none⟩) (kys L).reverse) := Lib.hid (fun i hi => by
        obtain ⟨g3, q1, q2, q3⟩ := hsc5 i hi
        injection q1 with q1
        injection q1 with q1
        subst q1
        refine ⟨g2, rfl, by rw [setRow_size]; exact q2, ?_⟩
        rw [World.cell?_of_block (setRow_other _ _ _ _ hg2)]
        exact q3)
      clear ho5 hsc5 hbb5 hh5 hfit hnew hb5 hx0 hgw hg2 hsc ho hb
      go_wp2_with (first
        | refine wp_build _ rfl 58 _ rfl #[(0, .string k), (1, .agg (hc f))] (by kernel_rfl) (.agg (ec k f)) hbe ?_
        | refine st_mid rfl 58 _ _ rfl g (j * 17) (ec k f) rfl rfl 58 cur HH5.out HFIT.out HI5.out HO5.out ?_)
      go_roundw
      case rel => exact ⟨j + 1, by go_num, hlt, HNEW, HSC6, HB6⟩
      case measure => simp [intOf]; omega
    · have e9 : j = n := by omega
      subst e9
      have HFIN : Hid (HRows w L (.returned (.slice (some ⟨g, 0, none⟩) j j)) wr) := Lib.hid (by
        have h1 := ho.out
        rw [lst_end (by rw [List.length_reverse]; exact HLN.out)] at h1
        exact ⟨_, _, _, rfl, HLN.out, h1, hb.out⟩)
      clear ho hsc hb
      go_wp2
      go_ret
      exact HFIN.out
end
end Go.Proofs.Ytbkbopaoeehfkaa
