/-
  CONTRACTS OF LAYER 12 (lru), part F: Put.
-/
import Derived.Test.YtbkbopaoeehfkaaLruD
import Derived.Test.YtbkbopaoeehfkaaRegion
namespace Go.Proofs.Ytbkbopaoeehfkaa
open Go.RowKit Lr Ft Bt
set_option linter.unusedVariables false
section
variable {w w' : World} {D : Td} {room : Nat} {ns : List Nd}
/-- a new one has entered the ring and the map -/
theorem Lr.Tb.entered (h : Tb w D room ns) {k : ByteArray} {v : El} (hk : Ms.Wf k) (hno : fb ns k = none) (hlen : ns.length < 1000) {w2 w3 w4 : World} {x : Nat} (hx : w.heap.size ≤ x) (h2 : Tb w2 D room ns) (hb2 : Below w.heap.size w w2) (hr : Ring w3 D.e ((x, (k, v)) :: ns)) (hm : Mv (fun y => rfp D.e ns y ∨ y = x) w2 w3)
    (hi : Ms.Is Try.prog 9 w4 D.m (fun s => if s = k then some (pv x) else mf ns s) (ns.length + 1)) (hg : w3.grownBy w4 (some D.m)) :
    Tb w4 D room ((x, (k, v)) :: ns) ∧ Gs (fp D ns) w (fp D ((x, (k, v)) :: ns)) w4 := by
  have hbx : ¬ (D.b = x) := fun e => by have := h.kind.lt; omega
  have hmx : ¬ (D.m = x) := fun e => by have := h.mp.lt; omega
  have hb3 : w3.heap[D.b]? = w2.heap[D.b]? := hm.block D.b h2.kind.lt (fun e => e.elim h2.b_ring hbx)
  have hb : w4.heap[D.b]? = w2.heap[D.b]? := (hg.block D.b (Nat.lt_of_lt_of_le h2.kind.lt hm.size) (fun e => h.b_m (by injection e))).trans hb3
  have hmr : ¬ rfp D.e ((x, (k, v)) :: ns) D.m := fun hy => by
    rcases hy with hy | hy
    · exact h.m_ring (Or.inl hy)
    · rw [List.map_cons, List.mem_cons] at hy
      rcases hy with hy | hy
      · exact hmx hy
      · exact h.m_ring (Or.inr hy)
  have hno2 : k ∉ (kvs ns).map (·.1) := fb_none.1 hno
  refine ⟨{
    kind := h2.kind.block hb
    c0 := by rw [World.cell?_of_block hb]; exact h2.c0
    c1 := by rw [World.cell?_of_block hb]; exact h2.c1
    c2 := by rw [World.cell?_of_block hb]; exact h2.c2
    ring := hr.same (fun y hy => hg.block y (hr.kd hy).lt (fun e => hmr (by injection e with e; rw [← e]; exact hy)))
    mp := hi.ext (fun s => by
      show _ = (if k = s then some x else fb ns s).map pv
      by_cases e : s = k
      · rw [if_pos e, if_pos e.symm]; rfl
      · rw [if_neg e, if_neg (fun e2 => e e2.symm)]; rfl)
    keys := by
      show Ks ((k, v) :: kvs ns)
      have h3 := h.keys.cons k v
      rw [drp_none hno2] at h3
      exact h3
    wf := fun y hy => by
      have hy2 : y ∈ (k, v) :: kvs ns := hy
      rw [List.mem_cons] at hy2
      rcases hy2 with rfl | hy2
      · exact hk
      · exact h.wf y hy2
    pos := h.pos
    len := by rw [List.length_cons]; omega }, ⟨fun y hy => ?_, ?_⟩⟩
  · rcases hy with hy | hy | hy | hy
    · exact Or.inl (Or.inl hy)
    · exact Or.inl (Or.inr (Or.inl hy))
    · exact Or.inl (Or.inr (Or.inr (Or.inl hy)))
    · rw [List.map_cons, List.mem_cons] at hy
      rcases hy with rfl | hy
      · exact Or.inr hx
      · exact Or.inl (Or.inr (Or.inr (Or.inr hy)))
  · have m1 : Mv (fp D ns) w w2 := Mv.of_below hb2
    have m2 : Mv (fun y => fp D ns y ∨ y = x) w2 w3 := hm.wide (fun y hy => hy.elim (fun h => Or.inl (Or.inr (Or.inr h))) Or.inr)
    have m3 : Mv (fp D ns) w w3 := m1.trans m2 (fun y hy h5 => h5.elim id (fun e => by omega))
    exact m3.trans (Mv.of_grown (S := fun y => y = D.m) hg (fun y e _ => by injection e with e; exact e.symm)) (fun y _ e => Or.inr (Or.inl e))
/-- the last one stands ahead of the ends -/
theorem Lr.Ring.last {e : Nat} {A : List Nd} {z : Nd} (h : Ring w e (A ++ [z])) : w.cell? ⟨e, 0, none⟩ = some (pv z.1) ∧ w.cell? ⟨z.1, 2, none⟩ = some (ev z.2) := by
  have h1 := h.ln
  have hc : cl e (A ++ [z]) = (e :: A.map (·.1)) ++ z.1 :: [e] := by
    rw [cl_app]
    rfl
  rw [hc, Ln.split] at h1
  exact ⟨h1.2.1.2, h.th z (by simp)⟩
theorem build_ent (k : ByteArray) (v : El) (w : World) : (Instr.build 74 #[(0, .string k), (1, .agg (hc v))]).run Try.prog w = .ok (.agg (ec k v)) w := by kernel_rfl
theorem wp_build {P : Program} {ops : Array Oper} {rest : List Oper} {o : Oper} {a : Act} {Q : Exit → Act → World → Prop} (w : World) (hg : o.guard = none) (t : TypeId) (parts : Array (Nat × Operand)) (ho : o.op = .build t parts) (vs : Array (Nat × Value)) (hvs : (parts.map fun (i, x) => (i, a.eval x)) = vs) (V : Value) (hr : ∀ W, (Instr.build t vs).run P W = .ok V W)
    (hQ : wpList P ops Q rest (a.put o.dst V) w) : wpList P ops Q (o :: rest) a w := by
  refine wpList_plain hg fun K' hK' => ?_
  unfold Oper.wp
  simp only [execOp, ho, hvs, Sem.run_bind, hr, Result.andThen, Sem.run_pure]
  exact hK' _ _ hQ
theorem put_prep {wa : World} {ns1 : List Nd} (h : Tb wa D room ns1) {k : ByteArray} (hk : Ms.Wf k) (hno : fb ns1 k = none) (hlen : ns1.length < 1000) (v : El) : ∃ W3 F N M,
    Hid (Calls Try.prog 31 #[.pointer (some ⟨wa.heap.size, 0, none⟩), .pointer (some ⟨D.e, 0, none⟩)] (wa.alloc (.cells #[.pointer none, .pointer none, .iface 74 (.agg (ec k v))] 68)) fun r w' => r = .returned (.tuple #[]) ∧ w' = W3) ∧
    (∀ o, (wa.alloc o).cell? ⟨D.b, 1, none⟩ = some (.pointer (some ⟨D.e, 0, none⟩))) ∧ W3.cell? ⟨D.b, 2, none⟩ = some (.map (some D.m)) ∧ Ms.Is Try.prog 9 W3 D.m F N ∧ N < maxLen ∧ Ms.up (F k) N = M ∧ M = ns1.length + 1 ∧
    Hid (∀ w4, Ms.Is Try.prog 9 w4 D.m (fun s => if s = k then some (.pointer (some ⟨wa.heap.size, 0, none⟩)) else F s) M → W3.grownBy w4 (some D.m) → Tb w4 D room ((wa.heap.size, (k, v)) :: ns1) ∧ Gs (fp D ns1) wa (fp D ((wa.heap.size, (k, v)) :: ns1)) w4) := by
  obtain ⟨W2, hW2⟩ : ∃ W2, wa.alloc (.cells #[.pointer none, .pointer none, .iface 74 (.agg (ec k v))] 68) = W2 := ⟨_, rfl⟩
  have hb2 : Below wa.heap.size wa W2 := by rw [← hW2]; exact (Below.refl _ _).alloc (Nat.le_refl _) _
  have h2 := h.below hb2 (Nat.le_refl _)
  have ex : W2.heap[wa.heap.size]? = some (.cells #[.pointer none, .pointer none, .iface 74 (.agg (ec k v))] 68) := by rw [← hW2]; exact (MapKept.heap_alloc _ _).1
  have kx : Kd W2 wa.heap.size 68 := ⟨_, ex⟩
  have hxr : ¬ rfp D.e ns1 wa.heap.size := fun hy => by have := (h.ring.kd hy).lt; omega
  have x0 : ∃ u, W2.cell? ⟨wa.heap.size, 0, none⟩ = some u := ⟨_, by simp only [World.cell?, ex]; rfl⟩
  have x1 : ∃ u, W2.cell? ⟨wa.heap.size, 1, none⟩ = some u := ⟨_, by simp only [World.cell?, ex]; rfl⟩
  have x2 : W2.cell? ⟨wa.heap.size, 2, none⟩ = some (ev (k, v)) := by simp only [World.cell?, ex]; rfl
  obtain ⟨n, e1, kn, en0, hxe, hxn, hr, hm⟩ := h2.ring.enter hxr kx x2 x0 x1
  have HE := enter_raw kx h2.ring.ek kn hxe hxn x0 x1 e1 en0
  obtain ⟨W3, hW3⟩ : ∃ W3, er W2 wa.heap.size D.e n = W3 := ⟨_, rfl⟩
  rw [hW3] at HE hr hm
  have hbx : ¬ (D.b = wa.heap.size) := fun e => by have := h.kind.lt; omega
  have hmx : ¬ (D.m = wa.heap.size) := fun e => by have := h.mp.lt; omega
  refine ⟨W3, mf ns1, ns1.length, ns1.length + 1, Lib.hid (by rw [hW2]; exact HE), fun o => ?_, ?_, ?_, by unfold maxLen; omega, by unfold Ms.up mf; rw [hno]; rfl, rfl, Lib.hid (fun w4 hi hg => ?_)⟩
  · rw [World.cell?_of_block ((MapKept.heap_alloc wa o).2 D.b h.kind.lt)]
    exact h.c1
  · have hbb : W3.heap[D.b]? = W2.heap[D.b]? := hm.block D.b h2.kind.lt (fun e => e.elim h2.b_ring hbx)
    rw [World.cell?_of_block hbb]
    exact h2.c2
  · have hmb : W3.heap[D.m]? = W2.heap[D.m]? := hm.block D.m h2.mp.lt (fun e => e.elim h2.m_ring hmx)
    exact Ms.Is.block h2.mp hmb
  · exact h.entered hk hno hlen (Nat.le_refl _) h2 hb2 hr hm hi hg
set_option maxHeartbeats 1000000 in
theorem lput_any (h : Tb w D room ns) {k : ByteArray} (hk : Ms.Wf k) (v : El) (hfit : ns.length ≤ room) (hlen : ns.length < 1000) :
    Calls Try.prog 16 #[.pointer (some ⟨D.b, 0, none⟩), .string k, .agg (hc v)] w fun e w' => e = .returned (.tuple #[.string (gk room (kvs ns) k), .bool (gb room (kvs ns) k)]) ∧ Tg w D room ns (pt room (kvs ns) k v) w' := by
  have hb0 := (Below.refl w.heap.size w).alloc (Nat.le_refl _) (.cells (hc v) 49)
  have hT0 := h.below hb0 (Nat.le_refl _)
  have HD := Lib.hid (ldrop_any hT0 hk)
  have HV0 : Hid (∀ (wa : World) (F : Nat → Prop), Gs (fp D ns) (w.alloc (.cells (hc v) 49)) F wa → HB wa w.heap.size v ∧ Gs (fp D ns) w F wa) := Lib.hid (fun wa F hg => ⟨by
    unfold HB
    rw [hg.mv.block w.heap.size (by simp) (fun hy => by have := h.lt hy; omega)]
    exact HB.made w v, (Gs.below hb0).trans hg⟩)
  have hdl := drp_le (kvs ns) k
  rw [kvs_len] at hdl
  have HH := Lib.hid h
  have HK := Lib.hid hk
  obtain ⟨zr, hzr⟩ : ∃ z : Int, (room : Int) = z := ⟨_, rfl⟩
  have HZR := Lib.hid hzr
  obtain ⟨bd, hbd⟩ : ∃ b, (fd (kvs ns) k).isSome = b := ⟨_, rfl⟩
  rw [hbd] at HD
  clear h hT0 hb0 hk hzr hbd
  have HFIT := Lib.hid hfit
  have HLEN := Lib.hid hlen
  have HDL := Lib.hid hdl
  clear hfit hlen hdl
  have hfk := field_key
  by_cases hg : (drp (kvs ns) k).length < room
  · have HG1 : Hid (gk room (kvs ns) k = ByteArray.empty ∧ gb room (kvs ns) k = false ∧ pt room (kvs ns) k v = (k, v) :: drp (kvs ns) k) := Lib.hid ⟨by unfold gk; rw [if_pos hg], by unfold gb; exact decide_eq_false (by omega), pt_fits v hg⟩
    have HLT := Lib.hid hg
    clear hg
    rw [HG1.out.1, HG1.out.2.1, HG1.out.2.2]
    go_enter Try.func16, Try.ntmps16
    go_wp2_with (go_at_call 30; refine HD.out.mono ?_)
    rintro e wa ⟨rfl, ns1, hkv, hT, hGs0⟩
    obtain ⟨hv0, hGs⟩ := HV0.out _ _ hGs0
    have HV := Lib.hid hv0
    have hbe := build_ent k v
    clear hGs0 hv0
    have hno : fb ns1 k = none := fb_none.2 (by rw [hkv]; exact not_mem_drp _ _)
    have hl1 : ns1.length = (drp (kvs ns) k).length := by rw [← kvs_len, hkv]
    obtain ⟨W3, F, N, M, HE, hc1, hc2, hmp, hN, hup, hM, HG⟩ := put_prep hT HK.out hno (by have := HDL.out; have := HLEN.out; omega) v
    have HKV := Lib.hid hkv
    have HGS := Lib.hid hGs
    have hle : (M : Int) ≤ zr := by have := HLT.out; have := HZR.out; omega
    have HM := Lib.hid hM
    have hk : Ms.Wf k := HK.out
    clear hno hl1 hkv hGs hT hM HD
    go_wp2_with (first
      | refine ld_row (by rfl) 49 _ rfl w.heap.size rfl _ _ _ _ HV.out Try.underlying49 rfl (by kernel_rfl) ?_
      | refine wp_build _ rfl 74 _ rfl #[(0, .string k), (1, .agg (hc v))] (by kernel_rfl) (.agg (ec k v)) hbe ?_
      | (go_at_call 31; refine HE.out.mono ?_; rintro e w' ⟨rfl, hw⟩; rw [hw]; clear hw)
      | (at_mapUpdate; refine Ms.wp_put _ rfl _ _ _ 69 9 66 rfl Try.underlying69 Try.underlying9 D.m N _ rfl hmp hN k hk rfl (.pointer (some ⟨wa.heap.size, 0, none⟩)) rfl ?_))
    intro w4 hm4 hg4
    obtain ⟨hT4, hG4⟩ := HG.out w4 hm4 hg4
    have hT5 := hT4.below (Below.refl w4.heap.size w4).drew (Nat.le_refl _)
    have q0 := hT5.c0
    have q2 := hT5.c2
    have q3 := hT5.mp
    rw [HZR.out] at q0
    rw [List.length_cons, ← HM.out] at q3
    have HT := Lib.hid hT4
    have HG4 := Lib.hid hG4
    clear hm4 hg4 hT4 hT5 hG4 hmp hc1 hc2 hk
    go_wp2_with fail
    refine wp_region_text (S := (fun w9 => w9 = w4.drew)) (by kernel_rfl) ?_ ?_
    · rfl
    repeat (first
      | (refine anyR_value (v := ?_) (by kernel_rfl) (by rfl) (fun _ _ _ h => h) (fun w1 hS => ?_) ?_
         rotate_left
         · (rw [hS]; refine Ms.ex_len ?qx 69 9 66 ?qh Try.underlying69 D.m M _ ?qy q3; (case qh => rfl); (case qy => rfl))
         simp only [Act.put, List.setIfInBounds_toArray, List.set_cons_zero, List.set_cons_succ])
      | (refine anyR_value (v := ?_) (by kernel_rfl) (by rfl) (fun _ _ _ h => h) (fun w1 hS => ?_) ?_
         rotate_left
         · rw [hS]
           go_simp
           with_reducible rfl
         simp only [Act.put, List.setIfInBounds_toArray, List.set_cons_zero, List.set_cons_succ])
      | (refine anyR_not (by kernel_rfl) (by rfl) (fun _ _ _ h => h) ?_
         simp only [Act.put, List.setIfInBounds_toArray, List.set_cons_zero, List.set_cons_succ])
      | (refine anyR_call (v := ?_) (f := ?_) (args := ?_) (by kernel_rfl) (by rfl) (fun _ _ _ h => h) (fun w1 hS => ?_) (fun w1 hS => ?_) ?_
         rotate_left 3
         · go_simp
           (try constructor) <;> with_reducible rfl
         · first
             | (fail)
         simp only [Act.put, List.setIfInBounds_toArray, List.set_cons_zero, List.set_cons_succ])
      | refine anyR_done (by kernel_rfl) (fun w1 hS => ?_))
    have e9 : w1 = w4.drew := hS
    subst e9
    clear hS q3
    go_wp2
    go_ret2
    have h4 := HG4.out
    refine ⟨rfl, ?_⟩
    have h5 : Tg w D room ns ((k, v) :: drp (kvs ns) k) w4 := ⟨_, by rw [← HKV.out]; rfl, HT.out, HGS.out.trans h4⟩
    exact h5.below (Below.refl _ _).drew
  · have hpl := pt_last HH.out.keys HH.out.pos (k := k) (v := v) (by rw [kvs_len]; exact HFIT.out) (by omega)
    have HG1 : Hid (gb room (kvs ns) k = true ∧ drp (kvs ns) k ≠ [] ∧ drp ((k, v) :: drp (kvs ns) k) (gk room (kvs ns) k) = pt room (kvs ns) k v ∧ gk room (kvs ns) k = ((drp (kvs ns) k).getLast?.getD kv0).1) := Lib.hid ⟨by unfold gb; exact decide_eq_true (by omega), hpl.1, hpl.2, by unfold gk; rw [if_neg hg]⟩
    have HLT : Hid (room ≤ (drp (kvs ns) k).length) := Lib.hid (by omega)
    obtain ⟨K1, hK1⟩ : ∃ K1, gk room (kvs ns) k = K1 := ⟨_, rfl⟩
    rw [HG1.out.1, hK1]
    have HK1 := Lib.hid hK1
    clear hg hpl hK1
    go_enter Try.func16, Try.ntmps16
    go_wp2_with (go_at_call 30; refine HD.out.mono ?_)
    rintro e wa ⟨rfl, ns1, hkv, hT, hGs0⟩
    obtain ⟨hv0, hGs⟩ := HV0.out _ _ hGs0
    have HV := Lib.hid hv0
    have hbe := build_ent k v
    clear hGs0 hv0
    have hno : fb ns1 k = none := fb_none.2 (by rw [hkv]; exact not_mem_drp _ _)
    have hl1 : ns1.length = (drp (kvs ns) k).length := by rw [← kvs_len, hkv]
    obtain ⟨W3, F, N, M, HE, hc1, hc2, hmp, hN, hup, hM, HG⟩ := put_prep hT HK.out hno (by have := HDL.out; have := HLEN.out; omega) v
    have HKV := Lib.hid hkv
    have HGS := Lib.hid hGs
    have hle : ¬ (M : Int) ≤ zr := by have := HLT.out; have := HZR.out; omega
    have HM := Lib.hid hM
    have hk : Ms.Wf k := HK.out
    clear hno hl1 hkv hGs hT hM HD
    go_wp2_with (first
      | refine ld_row (by rfl) 49 _ rfl w.heap.size rfl _ _ _ _ HV.out Try.underlying49 rfl (by kernel_rfl) ?_
      | refine wp_build _ rfl 74 _ rfl #[(0, .string k), (1, .agg (hc v))] (by kernel_rfl) (.agg (ec k v)) hbe ?_
      | (go_at_call 31; refine HE.out.mono ?_; rintro e w' ⟨rfl, hw⟩; rw [hw]; clear hw)
      | (at_mapUpdate; refine Ms.wp_put _ rfl _ _ _ 69 9 66 rfl Try.underlying69 Try.underlying9 D.m N _ rfl hmp hN k hk rfl (.pointer (some ⟨wa.heap.size, 0, none⟩)) rfl ?_))
    intro w4 hm4 hg4
    obtain ⟨hT4, hG4⟩ := HG.out w4 hm4 hg4
    have hT5 := hT4.below (Below.refl w4.heap.size w4).drew (Nat.le_refl _)
    obtain ⟨N5, hN5⟩ : ∃ N5, (wa.heap.size, (k, v)) :: ns1 = N5 := ⟨_, rfl⟩
    have hkv5 : kvs N5 = (k, v) :: drp (kvs ns) k := by rw [← hN5, ← HKV.out]; rfl
    have hl5 : N5.length = M := by rw [← hN5, HM.out]; rfl
    rw [hN5] at hT5 hG4
    obtain ⟨A, z, hz⟩ : ∃ A z, N5 = A ++ [z] := by
      rcases List.eq_nil_or_concat N5 with h1 | ⟨A, z, h1⟩
      · rw [h1] at hN5; cases hN5
      · exact ⟨A, z, by rw [h1, List.concat_eq_append]⟩
    obtain ⟨zx, zk, zv⟩ := z
    have hzk : zk = K1 := by
      rw [← HK1.out, HG1.out.2.2.2]
      have h1 : (kvs N5).getLast? = some (zk, zv) := by rw [hz, kvs_app]; simp [kvs]
      rw [hkv5] at h1
      obtain ⟨y, t, h2⟩ := List.exists_cons_of_ne_nil HG1.out.2.1
      rw [h2] at h1 ⊢
      rw [List.getLast?_cons_cons] at h1
      rw [h1]
      rfl
    subst hzk
    have hlast := hT5.ring
    rw [hz] at hlast
    obtain ⟨e0, e2⟩ := hlast.last
    have hzw : Ms.Wf zk := hT5.wf (zk, zv) (by rw [hz, kvs_app]; simp [kvs])
    unfold pv at e0
    simp only at e0 e2
    have q0 := hT5.c0
    have q1 := hT5.c1
    have q2 := hT5.c2
    have q3 := hT5.mp
    unfold pv at q1
    rw [HZR.out] at q0
    rw [hl5] at q3
    have HT := Lib.hid hT5
    have HG4 := Lib.hid hG4
    have HHD := Lib.hid (held_any e2)
    have HKV5 := Lib.hid hkv5
    have HZW := Lib.hid hzw
    clear hm4 hg4 hT4 hT5 hG4 hmp hc1 hc2 hk hz hlast e2 hzw hkv5 hl5 hN5
    have hfk2 := field_key zk zv
    clear hfk
    go_wp2_with fail
    refine wp_region_text (S := (fun w9 => w9 = w4.drew)) (by kernel_rfl) ?_ ?_
    · rfl
    repeat (first
      | (refine anyR_value (v := ?_) (by kernel_rfl) (by rfl) (fun _ _ _ h => h) (fun w1 hS => ?_) ?_
         rotate_left
         · (rw [hS]; refine Ms.ex_len ?qx2 69 9 66 ?qh2 Try.underlying69 D.m M _ ?qy2 q3; (case qh2 => rfl); (case qy2 => rfl))
         simp only [Act.put, List.setIfInBounds_toArray, List.set_cons_zero, List.set_cons_succ])
      | (refine anyR_value (v := ?_) (by kernel_rfl) (by rfl) (fun _ _ _ h => h) (fun w1 hS => ?_) ?_
         rotate_left
         · rw [hS]
           go_simp
           with_reducible rfl
         simp only [Act.put, List.setIfInBounds_toArray, List.set_cons_zero, List.set_cons_succ])
      | (refine anyR_not (by kernel_rfl) (by rfl) (fun _ _ _ h => h) ?_
         simp only [Act.put, List.setIfInBounds_toArray, List.set_cons_zero, List.set_cons_succ])
      | (refine anyR_call (v := ?_) (f := ?_) (args := ?_) (by kernel_rfl) (by rfl) (fun _ _ _ h => h) (fun w1 hS => ?_) (fun w1 hS => ?_) ?_
         rotate_left 3
         · go_simp
           (try constructor) <;> with_reducible rfl
         · first
             | (fail)
         simp only [Act.put, List.setIfInBounds_toArray, List.set_cons_zero, List.set_cons_succ])
      | refine anyR_done (by kernel_rfl) (fun w1 hS => ?_))
    have e9 : w1 = w4.drew := hS
    subst e9
    clear hS q3
    go_wp2_with (go_at_call 32; refine HHD.out.mono ?_)
    first | rintro e w6 rfl hb6 | rintro e w6 ⟨rfl, hb6⟩
    have hT6 := HT.out.below hb6 (Nat.le_refl _)
    have HD6 := Lib.hid (ldrop_any hT6 HZW.out)
    obtain ⟨bd6, hbd6⟩ : ∃ b, (fd (kvs N5) zk).isSome = b := ⟨_, rfl⟩
    rw [hbd6, HKV5.out, ← HK1.out, HG1.out.2.2.1, HK1.out] at HD6
    have HG6 : Hid (Gs (fp D ns) w (fp D N5) w6) := Lib.hid ((HGS.out.trans HG4.out).trans (Gs.below ((Below.refl w4.heap.size w4).drew.trans hb6)))
    clear hb6 hT6 q0 q1 q2 hbd6
    go_wp2_with (go_at_call 30; refine HD6.out.mono ?_)
    rintro e w7 ⟨rfl, ns7, hkv7, hT7, hG7⟩
    have HT7 : Hid (Tg w D room ns (pt room (kvs ns) k v) w7) := Lib.hid ⟨ns7, hkv7, hT7, HG6.out.trans hG7⟩
    clear hkv7 hT7 hG7
    go_wp2
    go_ret2
    exact ⟨rfl, HT7.out⟩
end
end Go.Proofs.Ytbkbopaoeehfkaa
