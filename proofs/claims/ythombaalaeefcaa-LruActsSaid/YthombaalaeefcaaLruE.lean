/-
  CONTRACTS OF LAYER 12 (lru), part E: Get, Put.
-/
import Derived.Test.YthombaalaeefcaaLruD
namespace Go.Proofs.Ythombaalaeefcaa
open Go.RowKit Lr Ft Bt
set_option linter.unusedVariables false
section
variable {w w' : World} {D : Td} {room : Nat} {ns : List Nd}
/-- the ring has turned, not the map -/
theorem Lr.Tb.ringed (h : Tb w D room ns) {ns' : List Nd} (hr : Ring w' D.e ns') (hm : Mv (rfp D.e ns) w w') (hf : ∀ s, fb ns' s = fb ns s) (hl : ns'.length = ns.length) (hks : Ks (kvs ns')) (hwf : ∀ y ∈ kvs ns', y ∈ kvs ns) (hsub : ∀ y, rfp D.e ns' y → rfp D.e ns y) :
    Tb w' D room ns' ∧ Gs (fp D ns) w (fp D ns') w' := by
  have hb := hm.block D.b h.kind.lt h.b_ring
  refine ⟨{
    kind := h.kind.block hb
    c0 := by rw [World.cell?_of_block hb]; exact h.c0
    c1 := by rw [World.cell?_of_block hb]; exact h.c1
    c2 := by rw [World.cell?_of_block hb]; exact h.c2
    ring := hr
    mp := by
      rw [hl]
      exact (h.mp.block (hm.block D.m h.mp.lt h.m_ring)).ext (fun s => by unfold mf; rw [hf s])
    keys := hks
    wf := fun y hy => h.wf y (hwf y hy)
    pos := h.pos
    len := by rw [hl]; exact h.len }, fun y hy => Or.inl (hy.imp id (fun h => h.imp id (hsub y))), hm.wide (fun y hy => Or.inr (Or.inr hy))⟩
theorem lget_any (h : Tb w D room ns) {k : ByteArray} (hk : Ms.Wf k) : Calls Try.prog 14 #[.pointer (some ⟨D.b, 0, none⟩), .string k] w fun e w' => e = .returned (gv (fd (kvs ns) k)) ∧ Tg w D room ns (gt (kvs ns) k) w' := by
  cases hx : fb ns k with
  | none =>
    have hf : fd (kvs ns) k = none := fd_none.2 (fb_none.1 hx)
    have HF := Lib.hid (find_none h hk hx)
    have HP := Lib.hid (peek_any h hk)
    have HG : Hid (∀ w', Below w.heap.size w w' → Tg w D room ns (gt (kvs ns) k) w') := Lib.hid (fun w' hb => by unfold gt; rw [hf]; exact (Tg.start h).below hb)
    rw [hf] at HP ⊢
    clear h hk hx hf
    unfold gv at *
    go_enter Try.func14, Try.ntmps14
    go_wp2_with (first
      | (go_at_call 23; refine HF.out.mono ?_; rintro e w' ⟨rfl, hw⟩; rw [hw]; clear hw)
      | (go_at_call 15; refine HP.out.mono ?_))
    first | rintro e w1 rfl hb1 | rintro e w1 ⟨rfl, hb1⟩
    have HT := Lib.hid (HG.out w1 hb1)
    clear hb1
    go_wp2
    go_ret2
    exact ⟨rfl, HT.out⟩
  | some x =>
    obtain ⟨A, v, B, rfl, hA⟩ := fb_split hx
    have hf := (kvs_out h.keys).2
    have hdr := (kvs_out h.keys).1
    have HF := Lib.hid (find_some h hk hx)
    obtain ⟨p, n, kx, kp, kn, c0, c1, d1, d0, hr, hm, hxp, hxn, hxr⟩ := h.ring.leave
    have HL := Lib.hid (leave_raw kx kp kn c0 c1 d1 d0)
    have ht : (lv w p n).cell? ⟨x, 2, none⟩ = some (ev (k, v)) := by rw [lv_2]; exact h.ring.th (x, (k, v)) (by simp)
    obtain ⟨n2, e1, kn2, en0, hxe, hxn2, hr2, hm2⟩ := hr.enter (kv := (k, v)) hxr (lv_kd kx) ht ⟨_, by rw [lv_0 hxn]; exact c0⟩ ⟨_, by rw [lv_1 hxp]; exact c1⟩
    have HE := Lib.hid (enter_raw (lv_kd kx) hr.ek kn2 hxe hxn2 ⟨_, by rw [lv_0 hxn]; exact c0⟩ ⟨_, by rw [lv_1 hxp]; exact c1⟩ e1 en0)
    obtain ⟨W1, hW1⟩ : ∃ W1, lv w p n = W1 := ⟨_, rfl⟩
    rw [hW1] at HL HE hm hm2 hr2
    have hc : W1.cell? ⟨D.b, 1, none⟩ = some (.pointer (some ⟨D.e, 0, none⟩)) := by
      rw [World.cell?_of_block (hm.block D.b h.kind.lt h.b_ring)]
      exact h.c1
    obtain ⟨W2, hW2⟩ : ∃ W2, er W1 x D.e n2 = W2 := ⟨_, rfl⟩
    simp only at HE
    rw [hW2] at HE hm2 hr2
    have hfull : ∀ y, rfp D.e (A ++ B) y → rfp D.e (A ++ (x, (k, v)) :: B) y := fun y hy => by
      rcases hy with hy | hy
      · exact Or.inl hy
      · refine Or.inr ?_
        rw [List.map_append, List.mem_append] at hy ⊢
        exact hy.imp id (List.mem_cons_of_mem _)
    have hxin : rfp D.e (A ++ (x, (k, v)) :: B) x := Or.inr (by simp)
    have hgt : gt (kvs (A ++ (x, (k, v)) :: B)) k = kvs ((x, (k, v)) :: (A ++ B)) := by
      unfold gt
      rw [hf, hdr]
      rfl
    have hT := h.ringed hr2 (hm.trans (hm2.wide (S' := rfp D.e (A ++ (x, (k, v)) :: B)) (fun y hy => by
        rcases hy with hy | rfl
        · exact hfull y hy
        · exact hxin)) (fun _ _ e => e)) (fun s => by
        show (if k = s then some x else fb (A ++ B) s) = _
        rw [fb_out h.keys]
        by_cases e : k = s
        · rw [if_pos e, ← e, hx]
        · rw [if_neg e, if_neg (fun e2 => e e2.symm)]) (by simp only [List.length_append, List.length_cons]; omega) (by rw [← hgt]; exact h.keys.gt k) (fun y hy => by
        unfold kvs at hy ⊢
        simp only [List.map_cons, List.map_append, List.mem_cons, List.mem_append] at hy ⊢
        rcases hy with h1 | h1 | h1
        · exact Or.inr (Or.inl h1)
        · exact Or.inl h1
        · exact Or.inr (Or.inr h1)) (fun y hy => by
        rcases hy with hy | hy
        · exact Or.inl hy
        · rw [List.map_cons, List.mem_cons] at hy
          rcases hy with rfl | hy
          · exact hxin
          · exact hfull y (Or.inr hy))
    have hpk := peek_any hT.1 hk
    rw [← hgt, fd_gt, hf] at hpk
    have HP := Lib.hid hpk
    have HG : Hid (∀ w', Below W2.heap.size W2 w' → Tg w D room (A ++ (x, (k, v)) :: B) (gt (kvs (A ++ (x, (k, v)) :: B)) k) w') := Lib.hid (fun w' hb => by
      have h1 : Tg w D room (A ++ (x, (k, v)) :: B) (gt (kvs (A ++ (x, (k, v)) :: B)) k) W2 := ⟨_, hgt.symm, hT.1, hT.2⟩
      exact h1.below hb)
    rw [hf]
    clear h hk hx hf hA hdr kx kp kn c0 c1 d1 d0 hr hm hxp hxn hxr ht e1 kn2 en0 hxe hxn2 hr2 hm2 hfull hxin hgt hT hpk hW1 hW2
    unfold gv at *
    go_enter Try.func14, Try.ntmps14
    go_wp2_with (first
      | (go_at_call 23; refine HF.out.mono ?_; rintro e w' ⟨rfl, hw⟩; rw [hw]; clear hw)
      | (go_at_call 24; refine HL.out.mono ?_; rintro e w' ⟨rfl, hw⟩; rw [hw]; clear hw)
      | (go_at_call 22; refine HE.out.mono ?_; rintro e w' ⟨rfl, hw⟩; rw [hw]; clear hw)
      | (go_at_call 15; refine HP.out.mono ?_))
    first | rintro e w1 rfl hb1 | rintro e w1 ⟨rfl, hb1⟩
    have HT := Lib.hid (HG.out w1 hb1)
    clear hb1
    go_wp2
    go_ret2
    exact ⟨rfl, HT.out⟩
theorem lget_nil (k : ByteArray) (w : World) : Calls Try.prog 14 #[.pointer none, .string k] w fun e w' => e = .returned (gv none) ∧ w' = w := by
  have HF := Lib.hid (find_nil k w)
  have HP := Lib.hid (peek_nil k w)
  unfold gv at *
  go_enter Try.func14, Try.ntmps14
  go_wp2_with (first
    | (go_at_call 23; refine HF.out.mono ?_; rintro e w' ⟨rfl, hw⟩; rw [hw]; clear hw)
    | (go_at_call 15; refine HP.out.mono ?_; rintro e w' ⟨rfl, hw⟩; rw [hw]; clear hw))
  go_ret2
  exact ⟨rfl, rfl⟩
end
end Go.Proofs.Ythombaalaeefcaa
