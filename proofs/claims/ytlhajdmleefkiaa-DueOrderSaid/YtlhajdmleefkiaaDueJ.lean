/-
  THE PAGE OF LAYER 9 (due), part J: First.
-/
import Derived.Test.YtlhajdmleefkiaaDueI
import Derived.Deep.RegionWith
import Derived.Deep.DeepCutAuto
namespace Go.Proofs.Ytlhajdmleefkiaa
open Go.RowKit Wl Dl Bt
set_option linter.unusedVariables false

section
variable {w w' : World} {br tick : Nat} {v : Value} {L : List X}
theorem Mv.weak {S S' : Nat → Prop} {a b : World} (h : Mv S a b) (hs : ∀ x, S x → S' x) : Mv S' a b := ⟨h.os, h.tape, h.output, h.size, fun k hk hn => h.block k hk (fun e => hn (hs k e))⟩
theorem zero_made (w : World) : Below w.heap.size w (w.alloc (.cells #[.int .i64 0, .int .i64 0, .int .u64 0] 39)) ∧ (w.alloc (.cells #[.int .i64 0, .int .i64 0, .int .u64 0] 39)).heap[w.heap.size]? = some (.cells #[.int .i64 0, .int .i64 0, .int .u64 0] 39) :=
  ⟨(Below.refl _ _).alloc (Nat.le_refl _) _, (MapKept.heap_alloc _ _).1⟩
theorem three {w : World} {g : Nat} {a b c : Value} {t : TypeId} (h : w.heap[g]? = some (.cells #[a, b, c] t)) : (w.cell? ⟨g, 0, none⟩ = some a ∧ w.cell? ⟨g, 1, none⟩ = some b ∧ w.cell? ⟨g, 2, none⟩ = some c) ∧ w.frozen? ⟨g, 0, none⟩ = false ∧ w.frozen? ⟨g, 1, none⟩ = false ∧ w.frozen? ⟨g, 2, none⟩ = false := by
  refine ⟨⟨?_, ?_, ?_⟩, ?_, ?_, ?_⟩ <;> simp [World.cell?, World.frozen?, h]
set_option maxHeartbeats 1000000 in
theorem rfirst_some (h : RD w br v tick L) (hL : Ok L) {j : Nat} {x : X} (hF : Fx L j) (hx : L.getD j x0 = x) (tq : Nat) (hle : x.tick ≤ tq) : Calls Try.prog 24 #[.pointer (some ⟨br, 0, none⟩), .int .u64 tq] w (RDid9 w br v (max tick x.tick) (.tuple #[xv x, .bool true]) (wo L x.kind x.id)) := by
  obtain ⟨hb1, hk1⟩ := zero_made w
  obtain ⟨W1, hW1⟩ : ∃ W1, w.alloc (.cells #[.int .i64 0, .int .i64 0, .int .u64 0] 39) = W1 := ⟨_, rfl⟩
  rw [hW1] at hb1 hk1
  have h1 := h.below hb1
  have HH := Lib.hid h1
  obtain ⟨p, cap, hv, hmx, hxc⟩ := h1.own.view
  have hc0 := h1.c0
  have hc1 := h1.c1
  obtain ⟨n, hn⟩ : ∃ n, L.length = n := ⟨_, rfl⟩
  rw [hn] at hv
  rw [hv] at hc1
  obtain ⟨zt, hzt⟩ : ∃ z : Int, (tick : Int) = z := ⟨_, rfl⟩
  obtain ⟨zq, hzq⟩ : ∃ z : Int, (tq : Int) = z := ⟨_, rfl⟩
  obtain ⟨zx, hzx⟩ : ∃ z : Int, (x.tick : Int) = z := ⟨_, rfl⟩
  rw [hzt] at hc0
  rw [hzq]
  have hn2 : n ≤ 1000 := by have := h.len; omega
  have hlez : ¬ zq < zx := by omega
  obtain ⟨mx, hmxx⟩ : ∃ mx, max tick x.tick = mx := ⟨_, rfl⟩
  have hmax : max zt zx = (mx : Int) := by omega
  rw [hmxx]
  have HV := Lib.hid hv
  have HZ := Lib.hid hzt
  have HZX := Lib.hid hzx
  have HN := Lib.hid hn
  have HXC := Lib.hid hxc
  have HB1 := Lib.hid hb1
  have HK1 := Lib.hid hk1
  have HLE := Lib.hid (rleast_any zt p n cap L W1 hn hn2 hxc)
  have HONE : Hid (∀ z : Int, ((L = [] ∧ z = -1) ∨ ∃ k : Nat, z = k ∧ Fx L k) → ∃ k : Nat, z = (k : Int) ∧ k < n ∧ L.getD k x0 = x ∧ wo L x.kind x.id = L.eraseIdx k) := Lib.hid (fun (z : Int) hz => by
    rcases hz with ⟨e, _⟩ | ⟨k, e, hk⟩
    · rw [e] at hF
      exact absurd hF.1 (by simp)
    · have e2 := (hk.one hL hF).trans hx
      refine ⟨k, e, by rw [← hn]; exact hk.1, e2, ?_⟩
      have h3 := ps_getD hL hk.1
      rw [e2] at h3
      unfold wo
      rw [h3])
  have hbrl := h.lt
  have hvl := fun g (hg : v.ownBlock = some g) => (h.own.kind hg).2.1
  have HBR := Lib.hid hbrl
  have HVL := Lib.hid hvl
  clear h h1 hn hv hzt hzq hzx hxc hmxx hmx hb1 hk1 hF hx hle hvl
  go_enter Try.func24, Try.ntmps24
  go_wp2_with (go_at_call 30; refine HLE.out.mono ?_)
  rintro e w2 ⟨z, rfl, hz, hb2⟩
  obtain ⟨k, hzk, hkn, hgk, hwo⟩ := HONE.out z hz
  subst hzk
  have h2 := HH.out.below hb2
  have hd0 := h2.c0
  have hd1 := h2.c1
  rw [HZ.out] at hd0
  rw [HV.out] at hd1
  obtain ⟨g, rfl, hg, hx0, hx1, hx2⟩ := (HXC.out.below hb2 (Nat.le_refl _)) k (by rw [HN.out]; exact hkn)
  rw [hgk] at hx0 hx1 hx2
  rw [HZX.out] at hx2
  obtain ⟨W3, hW3⟩ : ∃ W3, w2.alloc (.cells #[.int .i64 x.kind, .int .i64 x.id, .int .u64 zx] 39) = W3 := ⟨_, rfl⟩
  obtain ⟨g7, hg7⟩ : ∃ g7, w2.heap.size = g7 := ⟨_, rfl⟩
  have hb3 : Below w2.heap.size w2 W3 := by rw [← hW3]; exact (Below.refl _ _).alloc (Nat.le_refl _) _
  have hk3 : W3.heap[g7]? = some (.cells #[.int .i64 x.kind, .int .i64 x.id, .int .u64 zx] 39) := by rw [← hW3, ← hg7]; exact (MapKept.heap_alloc _ _).1
  have h3 := h2.below hb3
  have he0 := h3.c0
  have he1 := h3.c1
  rw [HZ.out] at he0
  rw [HV.out] at he1
  have HWO := Lib.hid (without_any zt (some ⟨g, 0, none⟩) n cap L k W3 HN.out hn2 ((HXC.out.below hb2 (Nat.le_refl _)).below hb3 (Nat.le_refl _)))
  have HK3 := Lib.hid hk3
  have HB2 := Lib.hid hb2
  have HB3 := Lib.hid hb3
  have HG7 := Lib.hid hg7
  have HWE := Lib.hid hwo
  have hkz : (k : Int) < (n : Int) := by omega
  have hk0 : ¬ ((k : Int) < 0) := by omega
  clear h2 h3 hb2 hb3 hk3 hz hgk hwo hc0 hc1 HLE HONE
  go_wp2_with (go_at_call 38; refine HWO.out.mono ?_)
  rintro e w4 ⟨p4, m, c4, rfl, hm, hown, hb4⟩
  have h4 := ((HH.out.below HB2.out).below HB3.out).below hb4
  have hf1 := h4.frozen 1
  have hd1 := h4.c1
  rw [HV.out] at hd1
  have h5 := h4.lay hown (by have h3 := (List.eraseIdx_sublist L k).length_le; have h5 := HH.out.len; omega)
  have hne7 : g7 ≠ br := by have := HG7.out; have := HB2.out.size; have := HB1.out.size; omega
  have hne0 : w.heap.size ≠ br := by omega
  have hs1 := HB1.out.size
  have hs2 := HB2.out.size
  have hs3 := HB3.out.size
  have hl0 := lt_of_some HK1.out
  have hl7 := lt_of_some HK3.out
  have hk7 : (w4.setCell ⟨br, 1, none⟩ (.slice p4 m c4)).heap[g7]? = some (.cells #[.int .i64 x.kind, .int .i64 x.id, .int .u64 zx] 39) := by
    rw [Below.heap_setCell _ _ _ _ hne7, hb4.block g7 hl7]
    exact HK3.out
  have hkz0 : (w4.setCell ⟨br, 1, none⟩ (.slice p4 m c4)).heap[w.heap.size]? = some (.cells #[.int .i64 0, .int .i64 0, .int .u64 0] 39) := by
    rw [Below.heap_setCell _ _ _ _ hne0, hb4.block _ (by omega), HB3.out.block _ (by omega), HB2.out.block _ hl0]
    exact HK1.out
  have hmv5 : Mv (fun x => x = br) w (w4.setCell ⟨br, 1, none⟩ (.slice p4 m c4)) := by
    have a1 : Mv (fun x => x = br) w W1 := Mv.of_below HB1.out
    have a2 : Mv (fun x => x = br) W1 w2 := Mv.of_below HB2.out
    have a3 : Mv (fun x => x = br) w2 W3 := Mv.of_below HB3.out
    have a4 : Mv (fun x => x = br) W3 w4 := Mv.of_below hb4
    have a5 : Mv (fun x => x = br) w4 (w4.setCell ⟨br, 1, none⟩ (.slice p4 m c4)) := Mv.setCell _ _ _ rfl
    exact (((a1.trans a2 (fun _ _ e => e)).trans a3 (fun _ _ e => e)).trans a4 (fun _ _ e => e)).trans a5 (fun _ _ e => e)
  obtain ⟨W5, hW5⟩ : ∃ W5, w4.setCell ⟨br, 1, none⟩ (.slice p4 m c4) = W5 := ⟨_, rfl⟩
  rw [hW5] at h5 hk7 hkz0 hmv5
  have hq0 := h5.c0
  rw [HZ.out] at hq0
  have hf0 := h5.frozen 0
  have hq2 := (three hk7).1.2.2
  have h6 : RD (W5.drew.setCell ⟨br, 0, none⟩ (.int .u64 (mx : Int))) br (.slice p4 m c4) mx (L.eraseIdx k) := (h5.below (Below.refl _ _).drew).clock mx
  have hk7b : (W5.drew.setCell ⟨br, 0, none⟩ (.int .u64 (mx : Int))).heap[g7]? = some (.cells #[.int .i64 x.kind, .int .i64 x.id, .int .u64 zx] 39) := by
    rw [Below.heap_setCell _ _ _ _ hne7]
    exact hk7
  have hk0b : (W5.drew.setCell ⟨br, 0, none⟩ (.int .u64 (mx : Int))).heap[w.heap.size]? = some (.cells #[.int .i64 0, .int .i64 0, .int .u64 0] 39) := by
    rw [Below.heap_setCell _ _ _ _ hne0]
    exact hkz0
  have hmv6 : Mv (fun x => x = br) w (W5.drew.setCell ⟨br, 0, none⟩ (.int .u64 (mx : Int))) := by
    have a1 : Mv (fun x => x = br) W5 W5.drew := Mv.drew _ _
    have a2 : Mv (fun x => x = br) W5.drew (W5.drew.setCell ⟨br, 0, none⟩ (.int .u64 (mx : Int))) := Mv.setCell _ _ _ rfl
    exact (hmv5.trans a1 (fun _ _ e => e)).trans a2 (fun _ _ e => e)
  have hown6 : ∀ g, (Value.slice p4 m c4).ownBlock = some g → w.heap.size < g := fun g e => by
    have := (hown.kind e).1
    omega
  have H6 := Lib.hid h6
  have HK7 := Lib.hid hk7b
  have HK0 := Lib.hid hk0b
  have HM6 := Lib.hid hmv6
  have HO6 := Lib.hid hown6
  have HN0 := Lib.hid hne0
  clear h4 h5 h6 hk7 hkz0 hmv5 hk7b hk0b hmv6 hown6 hown hb4 hne7 hne0 hs1 hs2 hs3 hl0 hl7 HWO hx0 hx1 hx2 hd0 he0 he1 hm
  go_wp2_with fail
  go_cut [] from 42 to 51 (fun wx => wx = W5.drew.setCell ⟨br, 0, none⟩ (.int .u64 (mx : Int)))
  case first =>
    go_region_with fail
    all_goals (go_wp2_with fail; go_meet)
    all_goals rfl
  case rest =>
    subst hcut
    obtain ⟨⟨e0, e1, e2⟩, _, _, _⟩ := three HK7.out
    obtain ⟨⟨c0, c1, c2⟩, f0, f1, f2⟩ := three HK0.out
    obtain ⟨W6, hW6⟩ : ∃ W6, W5.drew.setCell ⟨br, 0, none⟩ (.int .u64 (mx : Int)) = W6 := ⟨_, rfl⟩
    rw [hW6] at H6 HK7 HK0 HM6 e0 e1 e2 c0 c1 c2 f0 f1 f2 ⊢
    clear hq0 hf0 hq2 hd1 hf1 hW5 hW6
    go_wp2
    refine bodyPost_ret (v := .tuple #[xv x, .bool true]) ?_ rfl ?_
    · rw [results_cell_tmp rfl]
      go_simp
      unfold xv
      rw [HZX.out]
    · refine ⟨rfl, ?_⟩
      rw [HWE.out]
      have hm3 := mv3 W6 w.heap.size 0 1 2 (.int .i64 x.kind) (.int .i64 x.id) (.int .u64 zx)
      refine ⟨_, H6.out.mv hm3 (fun y hy e => ?_), fun y hy => ?_, (HM6.out.trans hm3 (fun y hy e => ?_)).weak (fun y e => Or.inl e)⟩
      · have e2 : y = w.heap.size := e
        rcases hy with h | h
        · exact HN0.out (e2.symm.trans h)
        · have := HO6.out y h; omega
      · rcases hy with h | h
        · exact Or.inl (Or.inl h)
        · exact Or.inr (Nat.le_of_lt (HO6.out y h))
      · have e2 : y = w.heap.size := e
        omega
set_option maxHeartbeats 1000000 in
theorem rfirst_none (h : RD w br v tick L) (tq : Nat) (hg : gob L tq = true) : Calls Try.prog 24 #[.pointer (some ⟨br, 0, none⟩), .int .u64 tq] w (RDid9 w br v tick (.tuple #[xv x0, .bool false]) L) := by
  obtain ⟨hb1, hk1⟩ := zero_made w
  obtain ⟨W1, hW1⟩ : ∃ W1, w.alloc (.cells #[.int .i64 0, .int .i64 0, .int .u64 0] 39) = W1 := ⟨_, rfl⟩
  rw [hW1] at hb1 hk1
  have h1 := h.below hb1
  have HH := Lib.hid h1
  obtain ⟨p, cap, hv, hmx, hxc⟩ := h1.own.view
  have hc0 := h1.c0
  have hc1 := h1.c1
  obtain ⟨n, hn⟩ : ∃ n, L.length = n := ⟨_, rfl⟩
  rw [hn] at hv
  rw [hv] at hc1
  obtain ⟨zt, hzt⟩ : ∃ z : Int, (tick : Int) = z := ⟨_, rfl⟩
  obtain ⟨zq, hzq⟩ : ∃ z : Int, (tq : Int) = z := ⟨_, rfl⟩
  rw [hzt] at hc0
  rw [hzq]
  have hn2 : n ≤ 1000 := by have := h.len; omega
  have HV := Lib.hid hv
  have HZ := Lib.hid hzt
  have HN := Lib.hid hn
  have HXC := Lib.hid hxc
  have HB1 := Lib.hid hb1
  have HK1 := Lib.hid hk1
  have HLE := Lib.hid (rleast_any zt p n cap L W1 hn hn2 hxc)
  have HG : Hid (∀ k : Nat, Fx L k → zq < ((L.getD k x0).tick : Int)) := Lib.hid (fun k hk => by
    have e := gob_fx (tq := tq) hk
    rw [hg] at e
    have h2 := of_decide_eq_true e.symm
    omega)
  have HFIN : Hid (∀ w2, Below W1.heap.size W1 w2 → RG w br v tick L (((w2.setCell ⟨w.heap.size, 0, none⟩ (.int .i64 0)).setCell ⟨w.heap.size, 1, none⟩ (.int .i64 0)).setCell ⟨w.heap.size, 2, none⟩ (.int .u64 0))) := Lib.hid (fun w2 hb2 => by
    have hm3 := mv3 w2 w.heap.size 0 1 2 (.int .i64 0) (.int .i64 0) (.int .u64 0)
    have h2 := h1.below hb2
    refine ⟨v, h2.mv hm3 (fun y hy e => ?_), fun y hy => Or.inl hy, ((Mv.of_below (S := rfd br v) hb1).trans (Mv.of_below (S := rfd br v) hb2) (fun _ _ e => e)).trans hm3 (fun y hy e => ?_)⟩
    · have e2 : y = w.heap.size := e
      have := h.lt_fp hy
      omega
    · have e2 : y = w.heap.size := e
      omega)
  have hl0 := Lib.hid (lt_of_some hk1)
  clear h h1 hn hv hzt hzq hxc hmx hb1 hk1 hg
  go_enter Try.func24, Try.ntmps24
  go_wp2_with (go_at_call 30; refine HLE.out.mono ?_)
  rintro e w2 ⟨z, rfl, hz, hb2⟩
  have h2 := HH.out.below hb2
  have hd0 := h2.c0
  have hd1 := h2.c1
  rw [HZ.out] at hd0
  rw [HV.out] at hd1
  have hk2 : w2.heap[w.heap.size]? = some (.cells #[.int .i64 0, .int .i64 0, .int .u64 0] 39) := (hb2.block _ hl0.out).trans HK1.out
  obtain ⟨⟨c0, c1, c2⟩, f0, f1, f2⟩ := three hk2
  have hf := HFIN.out _ hb2
  have HFI := Lib.hid hf
  rcases hz with ⟨hL, hz⟩ | ⟨k, hz, hF⟩
  · subst hz
    clear h2 hf hk2 hb2 hL hc0 hc1
    go_wp2
    refine bodyPost_ret (v := .tuple #[xv x0, .bool false]) ?_ rfl ?_
    · rw [results_cell_tmp rfl]
      go_simp
      rfl
    · exact ⟨rfl, HFI.out⟩
  · subst hz
    have hkn : k < n := by rw [← HN.out]; exact hF.1
    have hkz : (k : Int) < (n : Int) := by omega
    have hk0 : ¬ ((k : Int) < 0) := by omega
    obtain ⟨g, rfl, hg, hx0, hx1, hx2⟩ := (HXC.out.below hb2 (Nat.le_refl _)) k hF.1
    have hlt := HG.out k hF
    obtain ⟨zx, hzx⟩ : ∃ z : Int, ((L.getD k x0).tick : Int) = z := ⟨_, rfl⟩
    rw [hzx] at hx2 hlt
    clear h2 hf hk2 hb2 hF hzx hc0 hc1 hx0 hx1
    go_wp2
    refine bodyPost_ret (v := .tuple #[xv x0, .bool false]) ?_ rfl ?_
    · rw [results_cell_tmp rfl]
      go_simp
      rfl
    · exact ⟨rfl, HFI.out⟩
end
end Go.Proofs.Ytlhajdmleefkiaa
