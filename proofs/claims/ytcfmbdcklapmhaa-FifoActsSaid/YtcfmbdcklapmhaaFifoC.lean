/-
  CONTRACTS OF LAYER 14 (fifo), part C: Drop, Pop.
-/
import Derived.Test.YtcfmbdcklapmhaaFifoB
namespace Go.Proofs.Ytcfmbdcklapmhaa
open Go.RowKit Fq Ft Bt
set_option linter.unusedVariables false
section
variable {w w' : World} {D : Fl} {ns : List Nd}
/-- one has left the ring and the map, its cost the sum -/
theorem Fq.Qb.left {W2 w3 : World} {A B : List Nd} {x N : Nat} {k c : Int} (h : Qb w D (A ++ (x, (k, c)) :: B)) (hr : Ring W2 D.e (A ++ B)) (hm : Mv (rfp D.e (A ++ (x, (k, c)) :: B)) w W2)
    (hi : Mi.Is Try.prog 3 w3 D.m (fun s => if s = k then none else mf (A ++ (x, (k, c)) :: B) s) N) (hN : N = (A ++ B).length) (hg : W2.grownBy w3 (some D.m)) :
    Qg w D (A ++ (x, (k, c)) :: B) (drp (its (A ++ (x, (k, c)) :: B)) k) (w3.drew.setCell ⟨D.b, 2, none⟩ (.int .i64 (cst (its (A ++ (x, (k, c)) :: B)) - c))) := by
  have hb : w3.heap[D.b]? = w.heap[D.b]? := (hg.block D.b (Nat.lt_of_lt_of_le h.kind.lt hm.size) (fun e => h.b_m (by injection e))).trans (hm.block D.b h.kind.lt h.b_ring)
  have hsub : ∀ y, rfp D.e (A ++ B) y → rfp D.e (A ++ (x, (k, c)) :: B) y := fun y hy => by
    rcases hy with hy | hy
    · exact Or.inl hy
    · refine Or.inr ?_
      rw [List.map_append, List.mem_append] at hy ⊢
      exact hy.imp id (List.mem_cons_of_mem _)
  have hlen : (A ++ (x, (k, c)) :: B).length = (A ++ B).length + 1 := by simp only [List.length_append, List.length_cons]; omega
  have ho : ∀ y, y ≠ D.b → (w3.drew.setCell ⟨D.b, 2, none⟩ (.int .i64 (cst (its (A ++ (x, (k, c)) :: B)) - c))).heap[y]? = w3.heap[y]? := fun y hy => Below.heap_setCell w3.drew _ _ _ hy
  have hk3 : Kd w3 D.b 53 := h.kind.block hb
  have hdrp := its_out h.keys
  have hcs := cst_drp h.keys hdrp.2
  rw [hdrp.1] at hcs
  refine ⟨A ++ B, hdrp.1.symm, {
    kind := Kd.set (w := w3.drew) _ _ hk3
    c0 := by
      rw [cset_other (Or.inr (by omega))]
      exact (World.cell?_of_block hb).trans h.c0
    c1 := by
      rw [cset_other (Or.inr (by omega))]
      exact (World.cell?_of_block hb).trans h.c1
    c2 := by
      rw [hcs]
      exact cset_same (w := w3.drew) ((World.cell?_of_block hb).trans h.c2)
    ring := hr.same (fun y hy => by
      rw [ho y (fun e => h.b_ring (hsub _ (e ▸ hy)))]
      exact hg.block y (hr.kd hy).lt (fun e => h.m_ring (by injection e with e; rw [← e]; exact hsub y hy)))
    mp := by
      rw [hN] at hi
      refine (hi.ext (fun s => by
        unfold mf
        rw [fb_out h.keys]
        by_cases e : s = k
        · rw [if_pos e, if_pos e]; rfl
        · rw [if_neg e, if_neg e])).block (ho _ (Ne.symm h.b_m))
    keys := by
      rw [← hdrp.1]
      exact h.keys.drp k
    ok := fun y hy => h.ok y (by
      rw [← hdrp.1] at hy
      exact (mem_drp.1 hy).1)
    len := by have := h.len; omega }, ⟨fun y hy => Or.inl (hy.imp id (fun h => h.imp id (hsub y))), ?_⟩⟩
  have m1 : Mv (fp D (A ++ (x, (k, c)) :: B)) w w3 := (hm.wide (S' := fp D (A ++ (x, (k, c)) :: B)) (fun y hy => Or.inr (Or.inr hy))).trans (Mv.of_grown (S := fun y => y = D.m) hg (fun y e _ => by injection e with e; exact e.symm)) (fun y _ e => Or.inr (Or.inl e))
  exact (m1.trans (Mv.drew (fp D (A ++ (x, (k, c)) :: B)) w3) (fun _ _ e => e)).trans (Mv.setCell (S := fp D (A ++ (x, (k, c)) :: B)) _ ⟨D.b, 2, none⟩ _ (Or.inl rfl)) (fun _ _ e => e)
set_option maxHeartbeats 1000000 in
theorem fq_drop (h : Qb w D ns) {k : Int} (hk : Mi.Wf k) : Calls Try.prog 11 #[.pointer (some ⟨D.b, 0, none⟩), .int .i64 k] w fun e w' => e = .returned (hv ((fd (its ns) k).map fun c => (k, c))) ∧ Qg w D ns (drp (its ns) k) w' := by
  obtain ⟨W1, hW1⟩ : ∃ W, w.alloc (.cells #[.int .i64 0, .int .i64 0] 32) = W := ⟨_, rfl⟩
  have hb1 : Below w.heap.size w W1 := by rw [← hW1]; exact (Below.refl _ _).alloc (Nat.le_refl _) _
  have h1 := h.below hb1 (Nat.le_refl _)
  have HB := Lib.hid hb1
  have hib : IB W1 w.heap.size it0 := by rw [← hW1]; exact IB.made w it0
  have hhas := fq_has h1 hk
  cases hx : fb ns k with
  | none =>
    have hf : fd (its ns) k = none := fd_none.2 (fb_none.1 hx)
    rw [hf] at hhas
    have HG : Hid (∀ w', Below w.heap.size w w' → Qg w D ns (drp (its ns) k) w') := Lib.hid (fun w' hb => by rw [drp_none (fb_none.1 hx)]; exact (Qg.start h).below hb)
    have HH := Lib.hid hhas
    have H1 := Lib.hid hib
    have HI := Lib.hid (item_info it0)
    have HO := Lib.hid (item_one it0)
    rw [hf]
    clear h hk hx hf hb1 h1 hib hhas
    go_enter Try.func11, Try.ntmps11
    go_wp2_with (first
      | (go_at_call 20; with_reducible refine HH.out.mono ?_; rintro e w' ⟨rfl, hw⟩; rw [hw]; clear hw)
      | refine wpList_store_row rfl 32 _ _ rfl w.heap.size (ic it0) rfl rfl 32 (ic it0) H1.out HI.out rfl HO.out ?_)
    refine bodyPost_ret (v := hv none) ?_ rfl ?_
    · exact results_item rfl _ _ w.heap.size it0 rfl (H1.out.row it0) rfl
    · exact ⟨rfl, HG.out _ (below_row HB.out (Nat.le_refl _) _)⟩
  | some x =>
    obtain ⟨A, c, B, rfl, hA⟩ := fb_split hx
    have hf := (its_out h.keys).2
    rw [hf] at hhas ⊢
    have HH := Lib.hid hhas
    have hd := h1.below (Below.refl W1.heap.size W1).drew (Nat.le_refl _)
    obtain ⟨p, n, kx, kp, kn, c0, c1, ⟨u1, d1⟩, ⟨u0, d0⟩, hr, hm, hxp, hxn, hxr⟩ := hd.ring.leave
    have hth := hd.ring.th (x, (k, c)) (by simp)
    have ha1 := h1.c1
    have hmp := h1.mp
    have hmf : mf (A ++ (x, (k, c)) :: B) k = some (pv x) := by unfold mf; rw [hx]; rfl
    obtain ⟨F, hF⟩ : ∃ F, mf (A ++ (x, (k, c)) :: B) = F := ⟨_, rfl⟩
    obtain ⟨N, hN⟩ : ∃ N, (A ++ (x, (k, c)) :: B).length = N := ⟨_, rfl⟩
    rw [hF, hN] at hmp
    rw [hF] at hmf
    unfold pv at hmf
    simp only at kx c0 c1 hxp hxn
    unfold pv at c0 c1
    have fp1 := kp.frozen 1
    obtain ⟨W2, hW2⟩ : ∃ W, W1.drew.setCell ⟨p, 1, none⟩ (.pointer (some ⟨n, 0, none⟩)) = W := ⟨_, rfl⟩
    have d02 : W2.cell? ⟨n, 0, none⟩ = some u0 := by rw [← hW2, cset_other (Or.inr (by omega))]; exact d0
    have fn0 : W2.frozen? ⟨n, 0, none⟩ = false := by rw [← hW2]; exact (Kd.set (w := W1.drew) 1 _ kn).frozen 0
    obtain ⟨W3, hW3⟩ : ∃ W, W2.setCell ⟨n, 0, none⟩ (.pointer (some ⟨p, 0, none⟩)) = W := ⟨_, rfl⟩
    have htw : tw W1.drew p n n p = W3 := by rw [← hW3, ← hW2]; rfl
    rw [htw] at hr hm
    have hq1 : W3.heap[D.b]? = W1.heap[D.b]? := hm.block D.b h1.kind.lt h1.b_ring
    have ha3 : W3.cell? ⟨D.b, 1, none⟩ = some (.map (some D.m)) := by rw [World.cell?_of_block hq1]; exact ha1
    have hmp3 : Mi.Is Try.prog 3 W3 D.m F N := hmp.block (hm.block D.m h1.mp.lt h1.m_ring)
    have hth3 : Th W3 x (k, c) := by rw [← htw]; exact hth.tw
    have hkx3 : Kd W3 x 50 := by rw [← htw]; exact tw_kd kx
    have hir3 : IB W3 w.heap.size it0 := hib.block (hm.block _ hib.lt (fun hy => h1.off (x := w.heap.size) ⟨_, hib⟩ (by decide) (by decide) (Or.inr (Or.inr hy))))
    have hxm : x ≠ D.m := fun e => h1.m_ring (Or.inr (by rw [← e]; simp))
    have hrm : w.heap.size ≠ D.m := fun e => by have := h.mp.lt; omega
    have hqb := hd.c2
    have HG : Hid (∀ w', Mi.Is Try.prog 3 w' D.m (fun s => if s = k then none else F s) (Mi.dn (some (.pointer (some ⟨x, 0, none⟩))) N) → W3.grownBy w' (some D.m) →
        (w'.drew.cell? ⟨D.b, 2, none⟩ = some (.int .i64 (cst (its (A ++ (x, (k, c)) :: B)))) ∧ w'.drew.cell? ⟨x, 3, none⟩ = some (.int .i64 c) ∧ w'.drew.frozen? ⟨D.b, 2, none⟩ = false ∧ ∀ V, (w'.drew.setCell ⟨D.b, 2, none⟩ V).cell? ⟨x, 2, none⟩ = some (.int .i64 k) ∧ (w'.drew.setCell ⟨D.b, 2, none⟩ V).cell? ⟨x, 3, none⟩ = some (.int .i64 c) ∧ IB (w'.drew.setCell ⟨D.b, 2, none⟩ V) w.heap.size it0) ∧
        Qg w D (A ++ (x, (k, c)) :: B) (drp (its (A ++ (x, (k, c)) :: B)) k) ((w'.drew.setCell ⟨D.b, 2, none⟩ (.int .i64 (cst (its (A ++ (x, (k, c)) :: B)) - c))).setRow w.heap.size (ic (k, c)))) := Lib.hid (fun w' hi hg => by
      have hbb : w'.heap[D.b]? = W1.heap[D.b]? := (hg.block D.b (Nat.lt_of_lt_of_le h1.kind.lt hm.size) (fun e => h1.b_m (by injection e))).trans hq1
      have hxx : w'.heap[x]? = W3.heap[x]? := hg.block x hkx3.lt (fun e => hxm (by injection e))
      have hrr : w'.heap[w.heap.size]? = W3.heap[w.heap.size]? := hg.block _ hir3.lt (fun e => hrm (by injection e))
      have hbx : D.b ≠ x := fun e => h1.b_ring (Or.inr (by rw [e]; simp))
      have hbr : w.heap.size ≠ D.b := fun e => by have := h.kind.lt; omega
      refine ⟨⟨(World.cell?_of_block hbb).trans h1.c2, (World.cell?_of_block hxx).trans hth3.2, (h1.kind.block hbb).frozen 2, fun V => ⟨?_, ?_, ?_⟩⟩, ?_⟩
      · rw [cset_other (Or.inl hbx)]; exact (World.cell?_of_block hxx).trans hth3.1
      · rw [cset_other (Or.inl hbx)]; exact (World.cell?_of_block hxx).trans hth3.2
      · exact (hir3.block hrr).block (Below.heap_setCell w'.drew _ _ _ hbr)
      · rw [← hF] at hi
        have h9 := hd.left hr hm hi (by
          rw [← hN]
          unfold Mi.dn
          simp only [Option.isSome_some, if_true, List.length_append, List.length_cons]
          omega) hg
        obtain ⟨ns', e1, q1, q2⟩ := h9
        have hsz : w.heap.size < W1.heap.size := hib.lt
        have hoff : ¬ fp D ns' w.heap.size := fun hy => by
          rcases q2.own _ hy with h8 | h8
          · have := h.lt h8; omega
          · have e : W1.drew.heap.size = W1.heap.size := rfl
            omega
        have q3 : Gs (fp D (A ++ (x, (k, c)) :: B)) w (fp D ns') (w'.drew.setCell ⟨D.b, 2, none⟩ (.int .i64 (cst (its (A ++ (x, (k, c)) :: B)) - c))) := (Gs.below (hb1.trans ((Below.refl W1.heap.size W1).drew.mono hb1.size))).trans q2
        have hms : ∀ (V : World), Mv (fun y => y = w.heap.size) V (V.setRow w.heap.size (ic (k, c))) := fun V => ⟨setRow_os _ _ _, setRow_tape _ _ _, setRow_output _ _ _, by rw [setRow_size]; exact Nat.le_refl _, fun j _ hj => setRow_other _ _ _ _ hj⟩
        refine ⟨ns', e1, q1.mv (hms _) (fun y hy e => hoff (e ▸ hy)), q3.own, ⟨(hms _).os.trans q3.mv.os, (hms _).tape.trans q3.mv.tape, (hms _).output.trans q3.mv.output, by rw [setRow_size]; exact q3.mv.size, fun j hj hn => ?_⟩⟩
        rw [setRow_other _ _ _ _ (by omega)]
        exact q3.mv.block j hj hn)
    obtain ⟨C, hC⟩ : ∃ C, cst (its (A ++ (x, (k, c)) :: B)) = C := ⟨_, rfl⟩
    have hwr : IntKind.i64.wrap (C - c) = C - c := by
      have h1 := cst_bound h.ok
      have h2 := h.len
      have h3 := h.ok (k, c) (by simp [its])
      unfold Okk at h3
      rw [its_len, hC] at h1
      simp only at h3
      rw [IntKind.wrap_i64]
      omega
    rw [hC] at HG
    have HW2 := Lib.hid hW2
    have HW3 := Lib.hid hW3
    clear h hx hf hA hb1 h1 hib hhas hd hth hr hm hxp hxn hxr kx kp kn hF hN htw hq1 hth3 hkx3 hir3 hxm hrm hqb hC hW2 hW3
    go_enter Try.func11, Try.ntmps11
    go_wp2_with (first
      | (go_at_call 20; with_reducible refine HH.out.mono ?_; rintro e w' ⟨rfl, hw⟩; rw [hw]; clear hw)
      | (at_lookup; refine Mi.wp_look _ rfl _ _ 51 3 48 rfl Try.underlying51 Try.underlying3 (.pointer none) (by kernel_rfl) D.m _ _ rfl hmp k hk rfl ?_; rw [hmf]; simp only [Option.getD_some]))
    refine Bz.wp_region (S := Bz.st2 [3, 7, 11, 15] 18 21 (fun b1 b2 w1 => w1 = cond b2 W3 (cond b1 W2 W1.drew))) (by kernel_rfl) ?_ ?_
    · exact Bz.st2_start (by decide) (by decide) rfl
    repeat (first
      | (refine Bz.anyR_value (v := ?_) (by kernel_rfl) (fun m w1 _ hS => Bz.st2_keep (by decide) (by decide) hS) (by rfl) (fun _ _ _ h => h) (fun m w1 hm hS => ?_) ?_
         rotate_left
         · (have e : w1 = W1.drew := Bz.st2_load (by decide) hm hS; rw [e]; go_simp; with_reducible rfl)
         (try simp only [Act.put, List.setIfInBounds_toArray, List.set_cons_zero, List.set_cons_succ]))
      | (refine Bz.anyR_skip (by kernel_rfl) (by rfl) (fun _ _ _ h => h) (fun m w1 hm hS => ?_) ?_
         · (have e : w1 = W1.drew := Bz.st2_first hm hS; rw [e]; refine ⟨W2, ?_, Bz.st2_A hm (by decide) (by decide) (by intro L hL; simp only [List.mem_cons, List.not_mem_nil, or_false] at hL; rcases hL with rfl | rfl | rfl | rfl <;> exact hm.2 ⟨_, .phase⟩ (by simp) rfl) hS rfl⟩; rw [← HW2.out]; go_simp)
         (try simp only [Act.put]))
      | (refine Bz.anyR_skip (by kernel_rfl) (by rfl) (fun _ _ _ h => h) (fun m w1 hm hS => ?_) ?_
         · (have e : w1 = W2 := Bz.st2_mid hm (hm.2 ⟨18, .chain⟩ (by simp) rfl) hS; rw [e]; refine ⟨_, ?_, Bz.st2_B hm (by decide) (by decide) (hm.2 ⟨18, .chain⟩ (by simp) rfl) hS rfl⟩; rw [← HW3.out]; go_simp)
         (try simp only [Act.put]))
      | (refine Bz.anyR_value (v := ?_) (by kernel_rfl) (fun m w1 _ hS => Bz.st2_keep (by decide) (by decide) hS) (by rfl) (fun _ _ _ h => h) (fun m w1 _ hS => ?_) ?_
         rotate_left
         · go_simp
           with_reducible rfl
         (try simp only [Act.put, List.setIfInBounds_toArray, List.set_cons_zero, List.set_cons_succ]))
      | (refine Bz.anyR_not (by kernel_rfl) (fun m w1 _ hS => Bz.st2_keep (by decide) (by decide) hS) (by rfl) (fun _ _ _ h => h) ?_
         (try simp only [Act.put, List.setIfInBounds_toArray, List.set_cons_zero, List.set_cons_succ]))
      | (refine Bz.anyR_call (v := ?_) (f := ?_) (args := ?_) (by kernel_rfl) (by rfl) (fun _ _ _ h => h) (fun m w1 hm hS => ?_) (fun m w1 hm hS => ?_) ?_
         rotate_left 3
         · go_simp
           (try constructor) <;> with_reducible rfl
         · first
             | (fail)
         (try simp only [Act.put, List.setIfInBounds_toArray, List.set_cons_zero, List.set_cons_succ]))
      | refine Bz.anyR_done (by kernel_rfl) (fun w1 hS => ?_))
    have e : w1 = W3 := Bz.st2_end (by decide) (by decide) (by decide) (by decide) hS
    subst e
    clear hS c0 c1 d1 d0 fp1 d02 fn0 ha1 hmp HW2 HW3
    go_wp2_with (at_delete; refine Mi.wp_del _ rfl _ _ 51 3 48 rfl Try.underlying51 Try.underlying3 D.m _ _ rfl hmp3 k hk rfl ?_)
    intro w4 hm4 hg4
    obtain ⟨⟨q0, q1, q2, q3⟩, HT⟩ := HG.out w4 hm4 hg4
    have HT := Lib.hid HT
    have HQ3 := Lib.hid q3
    clear hm4 hg4 hmp3 ha3 q3 HG
    obtain ⟨W5, hW5⟩ : ∃ W, w4.drew.setCell ⟨D.b, 2, none⟩ (.int .i64 (C - c)) = W := ⟨_, rfl⟩
    have hq3 := HQ3.out (.int .i64 (C - c))
    rw [hW5] at HT hq3
    have HW5 := Lib.hid hW5
    clear hW5
    obtain ⟨q4, q5, q6⟩ := hq3
    have H6 := Lib.hid q6
    have HI := Lib.hid (item_info (k, c))
    have HO := Lib.hid (item_one (k, c))
    clear q6 HQ3
    go_wp2_with fail
    refine Bz.wp_region (S := Bz.st1 [3, 8] 12 (fun b w1 => w1 = cond b W5 w4.drew)) (by kernel_rfl) ?_ ?_
    · exact Bz.st1_start (by decide) rfl
    repeat (first
      | (refine Bz.anyR_value (v := ?_) (by kernel_rfl) (fun m w1 _ hS => Bz.st1_keep (by decide) hS) (by rfl) (fun _ _ _ h => h) (fun m w1 hm hS => ?_) ?_
         rotate_left
         · (have e : w1 = w4.drew := Bz.st1_load (by decide) hm hS; rw [e]; go_simp; with_reducible rfl)
         (try simp only [Act.put, List.setIfInBounds_toArray, List.set_cons_zero, List.set_cons_succ]))
      | (refine Bz.anyR_skip (by kernel_rfl) (by rfl) (fun _ _ _ h => h) (fun m w1 hm hS => ?_) ?_
         · (have e : w1 = w4.drew := Bz.st1_first hm hS; rw [e]; refine ⟨W5, ?_, Bz.st1_A (by decide) (by intro L hL; simp only [List.mem_cons, List.not_mem_nil, or_false] at hL; rcases hL with rfl | rfl <;> exact hm.2 ⟨_, .phase⟩ (by simp) rfl) rfl⟩; rw [← HW5.out]; go_simp)
         (try simp only [Act.put]))
      | (refine Bz.anyR_value (v := ?_) (by kernel_rfl) (fun m w1 _ hS => Bz.st1_keep (by decide) hS) (by rfl) (fun _ _ _ h => h) (fun m w1 _ hS => ?_) ?_
         rotate_left
         · go_simp
           with_reducible rfl
         (try simp only [Act.put, List.setIfInBounds_toArray, List.set_cons_zero, List.set_cons_succ]))
      | (refine Bz.anyR_not (by kernel_rfl) (fun m w1 _ hS => Bz.st1_keep (by decide) hS) (by rfl) (fun _ _ _ h => h) ?_
         (try simp only [Act.put, List.setIfInBounds_toArray, List.set_cons_zero, List.set_cons_succ]))
      | (refine Bz.anyR_call (v := ?_) (f := ?_) (args := ?_) (by kernel_rfl) (by rfl) (fun _ _ _ h => h) (fun m w1 hm hS => ?_) (fun m w1 hm hS => ?_) ?_
         rotate_left 3
         · go_simp
           (try constructor) <;> with_reducible rfl
         · first
             | (fail)
         (try simp only [Act.put, List.setIfInBounds_toArray, List.set_cons_zero, List.set_cons_succ]))
      | refine Bz.anyR_done (by kernel_rfl) (fun w1 hS => ?_))
    have e : w1 = W5 := Bz.st1_end (by decide) (by decide) hS
    subst e
    clear hS q0 q1 q2 HW5
    go_wp2_with (refine wpList_store_row rfl 32 _ _ rfl w.heap.size (ic (k, c)) rfl rfl 32 (ic it0) H6.out HI.out rfl HO.out ?_)
    refine bodyPost_ret (v := hv (some (k, c))) ?_ rfl ?_
    · exact results_item rfl _ _ w.heap.size (k, c) rfl (H6.out.row (k, c)) rfl
    · exact ⟨rfl, HT.out⟩
theorem fq_drop_nil (k : Int) (w : World) : Calls Try.prog 11 #[.pointer none, .int .i64 k] w fun e w' => e = .returned (hv none) ∧ Below w.heap.size w w' := by
  obtain ⟨W1, hW1⟩ : ∃ W, w.alloc (.cells #[.int .i64 0, .int .i64 0] 32) = W := ⟨_, rfl⟩
  have hb1 : Below w.heap.size w W1 := by rw [← hW1]; exact (Below.refl _ _).alloc (Nat.le_refl _) _
  have HB := Lib.hid hb1
  have hib : IB W1 w.heap.size it0 := by rw [← hW1]; exact IB.made w it0
  have H1 := Lib.hid hib
  have HH := Lib.hid (fq_has_nil k W1)
  have HI := Lib.hid (item_info it0)
  have HO := Lib.hid (item_one it0)
  clear hb1 hib
  go_enter Try.func11, Try.ntmps11
  go_wp2_with (first
    | (go_at_call 20; with_reducible refine HH.out.mono ?_; rintro e w' ⟨rfl, hw⟩; rw [hw]; clear hw)
    | refine wpList_store_row rfl 32 _ _ rfl w.heap.size (ic it0) rfl rfl 32 (ic it0) H1.out HI.out rfl HO.out ?_)
  refine bodyPost_ret (v := hv none) ?_ rfl ?_
  · exact results_item rfl _ _ w.heap.size it0 rfl (H1.out.row it0) rfl
  · exact ⟨rfl, below_row HB.out (Nat.le_refl _) _⟩
/-- .. and a block of the call's own is turned -/
theorem Fq.Qg.row {W : World} {L : List It} {r : Nat} (hg : Qg W D ns L w') (hb : Below w.heap.size w W) (h : Qb w D ns) (hr : w.heap.size ≤ r) (hr2 : r < W.heap.size) (cs : Array Value) : Qg w D ns L (w'.setRow r cs) := by
  obtain ⟨ns', e1, q1, q2⟩ := hg
  have hoff : ¬ fp D ns' r := fun hy => by
    rcases q2.own _ hy with h8 | h8
    · have := h.lt h8; omega
    · omega
  have q3 : Gs (fp D ns) w (fp D ns') w' := (Gs.below hb).trans q2
  have hms : ∀ (V : World), Mv (fun y => y = r) V (V.setRow r cs) := fun V => ⟨setRow_os _ _ _, setRow_tape _ _ _, setRow_output _ _ _, by rw [setRow_size]; exact Nat.le_refl _, fun j _ hj => setRow_other _ _ _ _ hj⟩
  refine ⟨ns', e1, q1.mv (hms _) (fun y hy e => hoff (e ▸ hy)), q3.own, ⟨(hms _).os.trans q3.mv.os, (hms _).tape.trans q3.mv.tape, (hms _).output.trans q3.mv.output, by rw [setRow_size]; exact q3.mv.size, fun j hj hn => ?_⟩⟩
  rw [setRow_other _ _ _ _ (by omega)]
  exact q3.mv.block j hj hn
theorem Fq.head_facts {L : List It} (hks : Ks L) (hok : ∀ x ∈ L, Okk x) : Mi.Wf (L.head?.getD it0).1 ∧ ((fd L (L.head?.getD it0).1).map fun c => ((L.head?.getD it0).1, c)) = L.head? ∧ drp L (L.head?.getD it0).1 = L.tail := by
  cases L with
  | nil => exact ⟨rfl, rfl, rfl⟩
  | cons x l =>
    refine ⟨wf_id hok (by simp), ?_, head_drp hks⟩
    show ((if x.1 = x.1 then some x.2 else fd l x.1).map fun c => (x.1, c)) = some x
    rw [if_pos rfl]
    rfl
set_option maxHeartbeats 1000000 in
theorem fq_pop (h : Qb w D ns) : Calls Try.prog 10 #[.pointer (some ⟨D.b, 0, none⟩)] w fun e w' => e = .returned (hv (its ns).head?) ∧ Qg w D ns (its ns).tail w' := by
  obtain ⟨W1, hW1⟩ : ∃ W, w.alloc (.cells #[.int .i64 0, .int .i64 0] 32) = W := ⟨_, rfl⟩
  have hb1 : Below w.heap.size w W1 := by rw [← hW1]; exact (Below.refl _ _).alloc (Nat.le_refl _) _
  have h1 := h.below hb1 (Nat.le_refl _)
  have HB := Lib.hid hb1
  have hib : IB W1 w.heap.size it0 := by rw [← hW1]; exact IB.made w it0
  have H1 := Lib.hid hib
  obtain ⟨f1, f2, f3⟩ := head_facts h.keys h.ok
  have hhd := fq_head h1
  obtain ⟨o, ho⟩ : ∃ o, (its ns).head? = o := ⟨_, rfl⟩
  rw [ho] at f1 f2 f3 hhd
  obtain ⟨⟨p, q⟩, hpq⟩ : ∃ x, o.getD it0 = x := ⟨_, rfl⟩
  obtain ⟨b, hb⟩ : ∃ b, o.isSome = b := ⟨_, rfl⟩
  rw [hpq] at f1 f2 f3
  have hho : hv o = .tuple #[.agg #[.int .i64 p, .int .i64 q], .bool b] := by unfold hv iv; rw [hpq, hb]; rfl
  rw [hho] at hhd
  rw [ho, hho]
  have HHD := Lib.hid hhd
  have HD : Hid (∀ w2, Qb w2 D ns → Calls Try.prog 11 #[.pointer (some ⟨D.b, 0, none⟩), .int .i64 p] w2 fun e w' => e = .returned (.tuple #[.agg #[.int .i64 p, .int .i64 q], .bool b]) ∧ Qg w2 D ns (its ns).tail w') := Lib.hid (fun w2 h2 => by
    have h9 := fq_drop h2 f1
    simp only at f2 f3
    rw [f2, f3, hho] at h9
    exact h9)
  have HH := Lib.hid h
  have HQ1 := Lib.hid h1
  have HI := Lib.hid (item_info (p, q))
  have HO := Lib.hid (item_one (p, q))
  clear h h1 hb1 hib hhd f1 f2 f3 ho hpq hb hho
  go_enter Try.func10, Try.ntmps10
  go_wp2_with (go_at_call 14; with_reducible refine HHD.out.mono ?_)
  first | rintro e w2 rfl hb2 | rintro e w2 ⟨rfl, hb2⟩
  obtain ⟨W3, hW3⟩ : ∃ W, w2.alloc (.cells #[.int .i64 0, .int .i64 0] 32) = W := ⟨_, rfl⟩
  have hb3 : Below w2.heap.size w2 W3 := by rw [← hW3]; exact (Below.refl _ _).alloc (Nat.le_refl _) _
  have hi3 : IB W3 w2.heap.size it0 := by rw [← hW3]; exact IB.made w2 it0
  have hb4 : Below w2.heap.size w2 (W3.setRow w2.heap.size (ic (p, q))) := below_row hb3 (Nat.le_refl _) _
  have HI3 := Lib.hid hi3
  have H4 := Lib.hid hb4
  have hi4 := hi3.row (p, q)
  obtain ⟨W4, hW4⟩ : ∃ W, W3.setRow w2.heap.size (ic (p, q)) = W := ⟨_, rfl⟩
  have hbb : Below w.heap.size w W4 := by rw [← hW4]; exact below_next (below_next HB.out hb2) hb4
  have hq4 : Qb W4 D ns := HQ1.out.below (by rw [← hW4]; exact hb2.trans (hb4.mono hb2.size)) (Nat.le_refl _)
  rw [hW4] at hi4
  have hir4 : IB W4 w.heap.size it0 := by rw [← hW4]; exact H1.out.below (hb2.trans (hb4.mono hb2.size))
  have hlt4 : w.heap.size < W4.heap.size := hir4.lt
  obtain ⟨c0, _⟩ := hi4.cells
  have HDR := Lib.hid (HD.out W4 hq4)
  have HG : Hid (∀ w', Qg W4 D ns (its ns).tail w' → IB w' w.heap.size it0 ∧ Qg w D ns (its ns).tail (w'.setRow w.heap.size (ic (p, q)))) := Lib.hid (fun w' hg => ⟨by
    obtain ⟨ns', e1, q1, q2⟩ := id hg
    exact hir4.block (q2.mv.block _ hlt4 (fun hy => by have := HH.out.lt hy; omega)), hg.row hbb HH.out (Nat.le_refl _) hlt4 _⟩)
  have HW4 := Lib.hid hW4
  clear hb2 hb3 hi3 hb4 hi4 hbb hq4 hir4 hlt4 hW4
  go_wp2_with (first
    | (refine wpList_store_row rfl 32 _ _ rfl w2.heap.size (ic (p, q)) rfl rfl 32 (ic it0) HI3.out HI.out rfl HO.out ?_; rw [HW4.out])
    | (go_at_call 11; with_reducible refine HDR.out.mono ?_))
  rintro e w5 ⟨rfl, hg5⟩
  obtain ⟨hi5, hg6⟩ := HG.out w5 hg5
  have HI5 := Lib.hid hi5
  have HG6 := Lib.hid hg6
  clear hg5 hi5 hg6
  go_wp2_with (refine wpList_store_row rfl 32 _ _ rfl w.heap.size (ic (p, q)) rfl rfl 32 (ic it0) HI5.out HI.out rfl HO.out ?_)
  refine bodyPost_ret (v := .tuple #[iv (p, q), .bool b]) ?_ rfl ?_
  · exact results_item rfl _ _ w.heap.size (p, q) rfl (HI5.out.row (p, q)) rfl
  · exact ⟨rfl, HG6.out⟩
theorem fq_pop_nil (w : World) : Calls Try.prog 10 #[.pointer none] w fun e w' => e = .returned (hv none) ∧ Below w.heap.size w w' := by
  obtain ⟨W1, hW1⟩ : ∃ W, w.alloc (.cells #[.int .i64 0, .int .i64 0] 32) = W := ⟨_, rfl⟩
  have hb1 : Below w.heap.size w W1 := by rw [← hW1]; exact (Below.refl _ _).alloc (Nat.le_refl _) _
  have HB := Lib.hid hb1
  have hib : IB W1 w.heap.size it0 := by rw [← hW1]; exact IB.made w it0
  have H1 := Lib.hid hib
  have hho : hv none = .tuple #[.agg #[.int .i64 0, .int .i64 0], .bool false] := rfl
  have hhd := fq_head_nil W1
  rw [hho] at hhd ⊢
  have HHD := Lib.hid hhd
  have HD : Hid (∀ w2, Calls Try.prog 11 #[.pointer none, .int .i64 0] w2 fun e w' => e = .returned (.tuple #[.agg #[.int .i64 0, .int .i64 0], .bool false]) ∧ Below w2.heap.size w2 w') := Lib.hid (fun w2 => by
    have h9 := fq_drop_nil 0 w2
    rw [hho] at h9
    exact h9)
  have HI := Lib.hid (item_info it0)
  have HO := Lib.hid (item_one it0)
  clear hb1 hib hhd hho
  go_enter Try.func10, Try.ntmps10
  go_wp2_with (go_at_call 14; with_reducible refine HHD.out.mono ?_)
  first | rintro e w2 rfl hb2 | rintro e w2 ⟨rfl, hb2⟩
  obtain ⟨W3, hW3⟩ : ∃ W, w2.alloc (.cells #[.int .i64 0, .int .i64 0] 32) = W := ⟨_, rfl⟩
  have hb3 : Below w2.heap.size w2 W3 := by rw [← hW3]; exact (Below.refl _ _).alloc (Nat.le_refl _) _
  have hi3 : IB W3 w2.heap.size it0 := by rw [← hW3]; exact IB.made w2 it0
  have hb4 : Below w2.heap.size w2 (W3.setRow w2.heap.size (ic it0)) := below_row hb3 (Nat.le_refl _) _
  have HI3 := Lib.hid hi3
  have hi4 := hi3.row it0
  obtain ⟨W4, hW4⟩ : ∃ W, W3.setRow w2.heap.size (ic it0) = W := ⟨_, rfl⟩
  have hbb : Below w.heap.size w W4 := by rw [← hW4]; exact below_next (below_next HB.out hb2) hb4
  rw [hW4] at hi4
  have hir4 : IB W4 w.heap.size it0 := by rw [← hW4]; exact H1.out.below (hb2.trans (hb4.mono hb2.size))
  obtain ⟨c0, _⟩ := hi4.cells
  have c0' : W4.cell? ⟨w2.heap.size, 0, none⟩ = some (.int .i64 0) := c0
  have HDR := Lib.hid (HD.out W4)
  have HG : Hid (∀ w', Below W4.heap.size W4 w' → IB w' w.heap.size it0 ∧ Below w.heap.size w (w'.setRow w.heap.size (ic it0))) := Lib.hid (fun w' hg => ⟨hir4.below hg, below_row (below_next hbb hg) (Nat.le_refl _) _⟩)
  have HW4 := Lib.hid hW4
  clear hb2 hb3 hi3 hb4 hi4 hbb hir4 hW4 c0
  go_wp2_with (first
    | (refine wpList_store_row rfl 32 _ _ rfl w2.heap.size (ic it0) rfl rfl 32 (ic it0) HI3.out HI.out rfl HO.out ?_; rw [HW4.out])
    | (go_at_call 11; with_reducible refine HDR.out.mono ?_))
  first | rintro e w5 rfl hb5 | rintro e w5 ⟨rfl, hb5⟩
  obtain ⟨hi5, hg6⟩ := HG.out w5 hb5
  have HI5 := Lib.hid hi5
  have HG6 := Lib.hid hg6
  clear hb5 hi5 hg6
  go_wp2_with (refine wpList_store_row rfl 32 _ _ rfl w.heap.size (ic it0) rfl rfl 32 (ic it0) HI5.out HI.out rfl HO.out ?_)
  refine bodyPost_ret (v := .tuple #[iv it0, .bool false]) ?_ rfl ?_
  · exact results_item rfl _ _ w.heap.size it0 rfl (HI5.out.row it0) rfl
  · exact ⟨rfl, HG6.out⟩
end
end Go.Proofs.Ytcfmbdcklapmhaa
