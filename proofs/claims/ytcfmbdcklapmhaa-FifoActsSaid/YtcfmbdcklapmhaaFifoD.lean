/-
  CONTRACTS OF LAYER 14 (fifo), part D: Push.
-/
import Derived.Test.YtcfmbdcklapmhaaFifoC
namespace Go.Proofs.Ytcfmbdcklapmhaa
open Go.RowKit Fq Ft Bt
set_option linter.unusedVariables false
section
variable {w w' : World} {D : Fl} {ns : List Nd}
theorem Fq.fb_snoc {ns : List Nd} {X : Nat} {k c : Int} (h : fb ns k = none) (s : Int) : fb (ns ++ [(X, (k, c))]) s = if s = k then some X else fb ns s := by
  by_cases e : s = k
  · subst e
    rw [if_pos rfl, fb_app_none h]
    show (if s = s then _ else _) = _
    rw [if_pos rfl]
  · rw [if_neg e]
    cases hs : fb ns s with
    | some y => exact fb_app_some hs
    | none =>
      rw [fb_app_none hs]
      show (if k = s then _ else _) = _
      rw [if_neg (fun h => e h.symm)]
      rfl
/-- one has joined the ring and the map, its cost the sum -/
theorem Fq.Qb.joined {W2 W4 w5 : World} {X l N : Nat} {k c : Int} (h : Qb w D ns) (hb2 : Below w.heap.size w W2) (hX : w.heap.size ≤ X) (hr : Ring W4 D.e (ns ++ [(X, (k, c))])) (hm : Mv (fun y => y = l ∨ y = D.e) W2 W4) (hl : rfp D.e ns l)
    (hno : fb ns k = none) (hok : Okk (k, c)) (hlen : ns.length < 100000) (hi : Mi.Is Try.prog 3 w5 D.m (fun s => if s = k then some (.pointer (some ⟨X, 0, none⟩)) else mf ns s) N) (hN : N = ns.length + 1) (hg : W4.grownBy w5 (some D.m)) :
    Qg w D ns (its ns ++ [(k, c)]) (w5.drew.setCell ⟨D.b, 2, none⟩ (.int .i64 (cst (its ns) + c))) := by
  have hsz : w.heap.size ≤ W4.heap.size := Nat.le_trans hb2.size hm.size
  have hrl : ∀ y, (y = l ∨ y = D.e) → rfp D.e ns y := fun y hy => by
    rcases hy with rfl | rfl
    · exact hl
    · exact Or.inl rfl
  have hb4 : ∀ y, y < w.heap.size → ¬ rfp D.e ns y → W4.heap[y]? = w.heap[y]? := fun y hy hn => (hm.block y (Nat.lt_of_lt_of_le hy hb2.size) (fun e => hn (hrl y e))).trans (hb2.block y hy)
  have hb : w5.heap[D.b]? = w.heap[D.b]? := (hg.block D.b (Nat.lt_of_lt_of_le h.kind.lt hsz) (fun e => h.b_m (by injection e))).trans (hb4 D.b h.kind.lt h.b_ring)
  have ho : ∀ y, y ≠ D.b → (w5.drew.setCell ⟨D.b, 2, none⟩ (.int .i64 (cst (its ns) + c))).heap[y]? = w5.heap[y]? := fun y hy => Below.heap_setCell w5.drew _ _ _ hy
  have hk5 : Kd w5 D.b 53 := h.kind.block hb
  have hfn : fd (its ns) k = none := fd_none.2 (fb_none.1 hno)
  have hits : its (ns ++ [(X, (k, c))]) = its ns ++ [(k, c)] := its_app _ _
  have hnew : ∀ y, rfp D.e (ns ++ [(X, (k, c))]) y → rfp D.e ns y ∨ y = X := fun y hy => by
    rcases hy with hy | hy
    · exact Or.inl (Or.inl hy)
    · rw [List.map_append, List.mem_append] at hy
      rcases hy with hy | hy
      · exact Or.inl (Or.inr hy)
      · exact Or.inr (by simpa using hy)
  have hne_b : ∀ y, rfp D.e (ns ++ [(X, (k, c))]) y → y ≠ D.b := fun y hy e => by
    rcases hnew y hy with h1 | h1
    · exact h.b_ring (e ▸ h1)
    · have := h.kind.lt; omega
  have hne_m : ∀ y, rfp D.e (ns ++ [(X, (k, c))]) y → y ≠ D.m := fun y hy e => by
    rcases hnew y hy with h1 | h1
    · exact h.m_ring (e ▸ h1)
    · have := h.mp.lt; omega
  refine ⟨ns ++ [(X, (k, c))], hits, {
    kind := Kd.set (w := w5.drew) _ _ hk5
    c0 := by
      rw [cset_other (Or.inr (by omega))]
      exact (World.cell?_of_block hb).trans h.c0
    c1 := by
      rw [cset_other (Or.inr (by omega))]
      exact (World.cell?_of_block hb).trans h.c1
    c2 := by
      rw [hits, cst_app]
      show _ = some (Value.int .i64 (cst (its ns) + (c + 0)))
      rw [Int.add_zero]
      exact cset_same (w := w5.drew) ((World.cell?_of_block hb).trans h.c2)
    ring := hr.same (fun y hy => by
      rw [ho y (hne_b y hy)]
      exact hg.block y (hr.kd hy).lt (fun e => hne_m y hy (by injection e)))
    mp := by
      rw [hN] at hi
      have e : (ns ++ [(X, (k, c))]).length = ns.length + 1 := by simp
      rw [e]
      refine (hi.ext (fun s => by
        unfold mf
        rw [fb_snoc hno]
        by_cases e : s = k
        · rw [if_pos e, if_pos e]; rfl
        · rw [if_neg e, if_neg e])).block (ho _ (Ne.symm h.b_m))
    keys := by
      have := pu_ks h.keys (k, c)
      unfold pu at this
      unfold Okk at hok
      simp only at hok
      rw [if_neg (by omega)] at this
      simp only [hfn] at this
      rw [hits]
      exact this
    ok := fun y hy => by
      rw [hits, List.mem_append, List.mem_singleton] at hy
      rcases hy with hy | rfl
      · exact h.ok y hy
      · exact hok
    len := by simp only [List.length_append, List.length_cons, List.length_nil]; omega }, ⟨fun y hy => ?_, ?_⟩⟩
  · rcases hy with rfl | rfl | hy
    · exact Or.inl (Or.inl rfl)
    · exact Or.inl (Or.inr (Or.inl rfl))
    · rcases hnew y hy with h1 | rfl
      · exact Or.inl (Or.inr (Or.inr h1))
      · exact Or.inr hX
  · have m1 : Mv (fp D ns) w W4 := (Mv.of_below (S := fp D ns) hb2).trans hm (fun y _ hy => Or.inr (Or.inr (hrl y hy)))
    have m2 := m1.trans (Mv.of_grown (S := fun y => y = D.m) hg (fun y e _ => by injection e with e; exact e.symm)) (fun y _ e => Or.inr (Or.inl e))
    exact (m2.trans (Mv.drew (fp D ns) w5) (fun _ _ e => e)).trans (Mv.setCell (S := fp D ns) _ ⟨D.b, 2, none⟩ _ (Or.inl rfl)) (fun _ _ e => e)
theorem fq_push_nil (x : It) (w : World) : Calls Try.prog 9 #[.pointer none, .agg #[.int .i64 x.1, .int .i64 x.2]] w fun e w' => e = .returned (.int .i64 19) ∧ Below w.heap.size w w' := by
  have hb := (Below.refl w.heap.size w).alloc (Nat.le_refl _) (.cells #[.int .i64 x.1, .int .i64 x.2] 32)
  have HB := Lib.hid hb
  clear hb
  go_enter Try.func9, Try.ntmps9
  go_wp2
  go_ret
  exact ⟨rfl, HB.out⟩
/-- Push refuses -/
theorem fq_push_no (h : Qb w D ns) (p q : Int) (hw : Mi.Wf p) (hpe : pe (its ns) (p, q) ≠ 0) : Calls Try.prog 9 #[.pointer (some ⟨D.b, 0, none⟩), .agg #[.int .i64 p, .int .i64 q]] w fun e w' => e = .returned (.int .i64 (pe (its ns) (p, q))) ∧ Below w.heap.size w w' := by
  obtain ⟨W1, hW1⟩ : ∃ W, w.alloc (.cells #[.int .i64 p, .int .i64 q] 32) = W := ⟨_, rfl⟩
  have hb1 : Below w.heap.size w W1 := by rw [← hW1]; exact (Below.refl _ _).alloc (Nat.le_refl _) _
  have hib : IB W1 w.heap.size (p, q) := by rw [← hW1]; exact IB.made w (p, q)
  obtain ⟨c0, c1⟩ := hib.cells
  simp only at c0 c1
  have HB := Lib.hid hb1
  have hhas := fq_has (h.below hb1 (Nat.le_refl _)) hw
  unfold pe at hpe ⊢
  simp only at hpe ⊢
  by_cases h1 : p < 1
  · rw [if_pos (Or.inl h1)]
    clear hpe hhas h hb1 hib hw
    go_enter Try.func9, Try.ntmps9
    go_wp2
    go_ret
    exact ⟨rfl, HB.out⟩
  · by_cases h2 : q < 1
    · rw [if_pos (Or.inr (Or.inl h2))]
      clear hpe hhas h hb1 hib hw
      go_enter Try.func9, Try.ntmps9
      go_wp2
      go_ret
      exact ⟨rfl, HB.out⟩
    · by_cases h3 : 64 < q
      · rw [if_pos (Or.inr (Or.inr h3))]
        clear hpe hhas h hb1 hib hw
        go_enter Try.func9, Try.ntmps9
        go_wp2
        go_ret
        exact ⟨rfl, HB.out⟩
      · rw [if_neg (by omega)] at hpe ⊢
        have hs : (fd (its ns) p).isSome = true := by
          cases e : (fd (its ns) p).isSome
          · rw [e] at hpe; simp at hpe
          · rfl
        rw [if_pos hs]
        rw [hs] at hhas
        have HH := Lib.hid hhas
        clear hpe hhas h hb1 hib hs hw
        go_enter Try.func9, Try.ntmps9
        go_wp2_with (go_at_call 20; with_reducible refine HH.out.mono ?_; rintro e w' ⟨rfl, hw⟩; rw [hw]; clear hw)
        go_ret
        exact ⟨rfl, HB.out⟩
set_option maxHeartbeats 2000000 in
/-- Push takes -/
theorem fq_push_ok (h : Qb w D ns) (p q : Int) (hok : Okk (p, q)) (hno : fb ns p = none) (hlen : ns.length < 100000) : Calls Try.prog 9 #[.pointer (some ⟨D.b, 0, none⟩), .agg #[.int .i64 p, .int .i64 q]] w fun e w' => e = .returned (.int .i64 0) ∧ Qg w D ns (its ns ++ [(p, q)]) w' := by
  obtain ⟨W1, hW1⟩ : ∃ W, w.alloc (.cells #[.int .i64 p, .int .i64 q] 32) = W := ⟨_, rfl⟩
  have hb1 : Below w.heap.size w W1 := by rw [← hW1]; exact (Below.refl _ _).alloc (Nat.le_refl _) _
  have hib : IB W1 w.heap.size (p, q) := by rw [← hW1]; exact IB.made w (p, q)
  have hq1 := h.below hb1 (Nat.le_refl _)
  have hw : Mi.Wf p := wf_id (L := [(p, q)]) (fun x hx => by rw [List.mem_singleton] at hx; rw [hx]; exact hok) (x := (p, q)) (by simp)
  have hhas := fq_has hq1 hw
  rw [fd_none.2 (fb_none.1 hno)] at hhas
  obtain ⟨c0, c1⟩ := hib.cells
  simp only at c0 c1
  obtain ⟨l, hl0, kl, hl, ⟨ul, hl1⟩, hjoin⟩ := hq1.ring.last
  have hb0 := hq1.c0
  unfold pv at hb0 hl0
  obtain ⟨X, hX⟩ : ∃ X, W1.heap.size = X := ⟨_, rfl⟩
  have hXw : w.heap.size < X := by rw [← hX]; exact hib.lt
  obtain ⟨W2, hW2⟩ : ∃ W, W1.drew.alloc (.cells #[.pointer (some ⟨l, 0, none⟩), .pointer (some ⟨D.e, 0, none⟩), .int .i64 p, .int .i64 q] 50) = W := ⟨_, rfl⟩
  have hb12 : Below W1.heap.size W1 W2 := by rw [← hW2]; exact ((Below.refl _ _).drew).alloc (Nat.le_refl _) _
  have ex : W2.heap[X]? = some (.cells #[.pointer (some ⟨l, 0, none⟩), .pointer (some ⟨D.e, 0, none⟩), .int .i64 p, .int .i64 q] 50) := by
    rw [← hW2, ← hX]
    exact (MapKept.heap_alloc W1.drew _).1
  have hq2 := hq1.below hb12 (Nat.le_refl _)
  have kx : Kd W2 X 50 := ⟨_, ex⟩
  have x0 : W2.cell? ⟨X, 0, none⟩ = some (pv l) := by simp only [World.cell?, ex]; rfl
  have x1 : W2.cell? ⟨X, 1, none⟩ = some (pv D.e) := by simp only [World.cell?, ex]; rfl
  have x2 : Th W2 X (p, q) := ⟨by simp only [World.cell?, ex]; rfl, by simp only [World.cell?, ex]; rfl⟩
  have hxr : ¬ rfp D.e ns X := fun hy => by have := (hq1.ring.kd hy).lt; omega
  have hr2 : Ring W2.drew D.e ns := hq2.ring.same (fun _ _ => rfl)
  have hr4 := hjoin W2.drew X (p, q) hr2 hxr kx x2 x0 x1
  have kl2 : Kd W2 l 50 := kl.block (hb12.block l kl.lt)
  have ke2 : Kd W2 D.e 50 := hq2.ring.ek
  have l12 : W2.cell? ⟨l, 1, none⟩ = some ul := by rw [World.cell?_of_block (hb12.block l kl.lt)]; exact hl1
  have e02 : W2.cell? ⟨D.e, 0, none⟩ = some (.pointer (some ⟨l, 0, none⟩)) := by rw [World.cell?_of_block (hb12.block _ hq1.ring.ek.lt)]; exact hl0
  obtain ⟨W3, hW3⟩ : ∃ W, W2.drew.setCell ⟨l, 1, none⟩ (.pointer (some ⟨X, 0, none⟩)) = W := ⟨_, rfl⟩
  obtain ⟨W4, hW4⟩ : ∃ W, W3.setCell ⟨D.e, 0, none⟩ (.pointer (some ⟨X, 0, none⟩)) = W := ⟨_, rfl⟩
  have htw : tw W2.drew l D.e X X = W4 := by rw [← hW4, ← hW3]; rfl
  have hm4 : Mv (fun y => y = l ∨ y = D.e) W2.drew W4 := by rw [← htw]; exact tw_mv
  rw [htw] at hr4
  have a0 : W2.drew.cell? ⟨X, 0, none⟩ = some (.pointer (some ⟨l, 0, none⟩)) := x0
  have a1 : W2.drew.cell? ⟨X, 1, none⟩ = some (.pointer (some ⟨D.e, 0, none⟩)) := x1
  have b1 : W2.drew.cell? ⟨l, 1, none⟩ = some ul := l12
  have fl1 : W2.drew.frozen? ⟨l, 1, none⟩ = false := kl2.frozen 1
  have e03 : W3.cell? ⟨D.e, 0, none⟩ = some (.pointer (some ⟨l, 0, none⟩)) := by rw [← hW3, cset_other (Or.inr (by omega))]; exact e02
  have fe3 : W3.frozen? ⟨D.e, 0, none⟩ = false := by rw [← hW3]; exact (Kd.set (w := W2.drew) 1 _ ke2).frozen 0
  have hrl : ∀ y, (y = l ∨ y = D.e) → rfp D.e ns y := fun y hy => by
    rcases hy with rfl | rfl
    · exact hl
    · exact Or.inl rfl
  have hbd4 : W4.heap[D.b]? = W1.heap[D.b]? := (hm4.block D.b hq2.kind.lt (fun e => hq2.b_ring (hrl _ e))).trans (hb12.block _ hq1.kind.lt)
  have hgd4 : W4.heap[w.heap.size]? = W1.heap[w.heap.size]? := (hm4.block _ (Nat.lt_of_lt_of_le hib.lt hb12.size) (fun e => hq1.off (x := w.heap.size) ⟨_, hib⟩ (by decide) (by decide) (Or.inr (Or.inr (hrl _ e))))).trans (hb12.block _ hib.lt)
  have hmd4 : Mi.Is Try.prog 3 W4.drew D.m (mf ns) ns.length := (hq2.mp.block (hm4.block D.m hq2.mp.lt (fun e => hq2.m_ring (hrl _ e))))
  have m4 : W4.drew.cell? ⟨D.b, 1, none⟩ = some (.map (some D.m)) := (World.cell?_of_block hbd4).trans hq1.c1
  have g4 : W4.drew.cell? ⟨w.heap.size, 0, none⟩ = some (.int .i64 p) := (World.cell?_of_block hgd4).trans c0
  have hgm : w.heap.size ≠ D.m := fun e => by have := h.mp.lt; omega
  have hmf : mf ns p = none := by unfold mf; rw [hno]; rfl
  have hq1k := hq1.kind
  have hq1c := hq1.c2
  have HG : Hid (∀ w', Mi.Is Try.prog 3 w' D.m (fun s => if s = p then some (.pointer (some ⟨X, 0, none⟩)) else mf ns s) (Mi.up (mf ns p) ns.length) → W4.drew.grownBy w' (some D.m) →
      (w'.drew.cell? ⟨D.b, 2, none⟩ = some (.int .i64 (cst (its ns))) ∧ w'.drew.cell? ⟨w.heap.size, 1, none⟩ = some (.int .i64 q) ∧ w'.drew.frozen? ⟨D.b, 2, none⟩ = false) ∧
      Qg w D ns (its ns ++ [(p, q)]) (w'.drew.setCell ⟨D.b, 2, none⟩ (.int .i64 (cst (its ns) + q)))) := Lib.hid (fun w' hi hg => by
    have hbb : w'.heap[D.b]? = W1.heap[D.b]? := (hg.block D.b (Nat.lt_of_lt_of_le hq2.kind.lt hm4.size) (fun e => h.b_m (by injection e))).trans hbd4
    have hgg : w'.heap[w.heap.size]? = W1.heap[w.heap.size]? := (hg.block w.heap.size (Nat.lt_of_lt_of_le (Nat.lt_of_lt_of_le hib.lt hb12.size) hm4.size) (fun e => hgm (by injection e))).trans hgd4
    refine ⟨⟨(World.cell?_of_block hbb).trans hq1c, (World.cell?_of_block hgg).trans c1, (hq1k.block hbb).frozen 2⟩, ?_⟩
    exact h.joined (W2 := W2.drew) (W4 := W4.drew) (below_next hb1 (hb12.trans ((Below.refl W2.heap.size W2).drew.mono hb12.size))) (Nat.le_of_lt hXw) (hr4.same (fun _ _ => rfl)) (hm4.trans (Mv.drew (fun y => y = l ∨ y = D.e) W4) (fun _ _ e => e)) hl hno hok hlen hi (by rw [hmf]; rfl) hg)
  obtain ⟨C, hC⟩ : ∃ C, cst (its ns) = C := ⟨_, rfl⟩
  have hwr : IntKind.i64.wrap (C + q) = C + q := by
    have h1 := cst_bound h.ok
    have h2 := h.len
    unfold Okk at hok
    rw [its_len, hC] at h1
    simp only at hok
    rw [IntKind.wrap_i64]
    omega
  rw [hC] at HG
  obtain ⟨n, hn⟩ : ∃ n, ns.length = n := ⟨_, rfl⟩
  rw [hn] at HG hmd4
  have hlen2 : n < maxLen := by unfold maxLen; omega
  obtain ⟨F, hF⟩ : ∃ F, mf ns = F := ⟨_, rfl⟩
  rw [hF] at HG hmd4
  unfold Okk at hok
  simp only at hok
  obtain ⟨hp1, hp2, hq01, hq02⟩ := hok
  have hp1' : ¬ p < 1 := by omega
  have hq01' : ¬ q < 1 := by omega
  have hq02' : ¬ 64 < q := by omega
  have F0 : Hid ((W1.drew.cell? ⟨D.b, 0, none⟩ = some (.pointer (some ⟨D.e, 0, none⟩)) ∧ W1.drew.cell? ⟨D.e, 0, none⟩ = some (.pointer (some ⟨l, 0, none⟩)) ∧ W1.drew.cell? ⟨w.heap.size, 0, none⟩ = some (.int .i64 p) ∧ W1.drew.cell? ⟨w.heap.size, 1, none⟩ = some (.int .i64 q)) ∧
      W2.cell? ⟨D.b, 0, none⟩ = some (.pointer (some ⟨D.e, 0, none⟩)) ∧ W2.cell? ⟨D.e, 0, none⟩ = some (.pointer (some ⟨l, 0, none⟩)) ∧ W2.cell? ⟨w.heap.size, 0, none⟩ = some (.int .i64 p) ∧ W2.cell? ⟨w.heap.size, 1, none⟩ = some (.int .i64 q)) := Lib.hid ⟨⟨hb0, hl0, c0, c1⟩, hq2.c0, e02, (World.cell?_of_block (hb12.block _ hib.lt)).trans c0, (World.cell?_of_block (hb12.block _ hib.lt)).trans c1⟩
  have HH := Lib.hid hhas
  have HW2 := Lib.hid hW2
  have HW3 := Lib.hid hW3
  have HW4 := Lib.hid hW4
  have HMD := Lib.hid hmd4
  clear h hb1 hib hq1 hhas kl hl hjoin hb0 hl0 hl1 hXw hb12 ex hq2 kx x0 x1 x2 hxr hr2 hr4 kl2 ke2 l12 hm4 hrl hbd4 hgd4 hgm hq1k hq1c hC hn hlen hno hmf hF hp1 hp2 hq01 hq02 hmd4 htw e02 hW2 hW3 hW4
  go_enter Try.func9, Try.ntmps9
  go_wp2_with (go_at_call 20; with_reducible refine HH.out.mono ?_; rintro e w' ⟨rfl, hw⟩; rw [hw]; clear hw)
  refine Bz.wp_region (S := Bz.st1 [] 13 (fun b w1 => (w1.cell? ⟨D.b, 0, none⟩ = some (.pointer (some ⟨D.e, 0, none⟩)) ∧ w1.cell? ⟨D.e, 0, none⟩ = some (.pointer (some ⟨l, 0, none⟩)) ∧ w1.cell? ⟨w.heap.size, 0, none⟩ = some (.int .i64 p) ∧ w1.cell? ⟨w.heap.size, 1, none⟩ = some (.int .i64 q)) ∧ w1 = cond b W2 W1.drew)) (by kernel_rfl) ?_ ?_
  · exact Bz.st1_start (by decide) ⟨F0.out.1, rfl⟩
  repeat (first
    | (refine Bz.anyR_turn (v := .pointer (some ⟨X, 0, none⟩)) (by kernel_rfl) (by rfl) (fun _ _ _ h => h) (fun m w1 hm hS => ?_) ?_
       · (have e : w1 = W1.drew := (Bz.st1_first hm hS).2; rw [e]; refine ⟨W2, ?_, Bz.st1_A (by decide) (by intro L hL; cases hL) ⟨F0.out.2, rfl⟩⟩; rw [← HW2.out, ← hX]; go_simp)
       (try simp only [Act.put, List.setIfInBounds_toArray, List.set_cons_zero, List.set_cons_succ]))
    | (refine Bz.anyR_value (v := ?_) (by kernel_rfl) (fun m w1 _ hS => Bz.st1_keep (by decide) hS) (by rfl) (fun _ _ _ h => h) (fun m w1 _ hS => ?_) ?_
       rotate_left
       · (obtain ⟨_, ⟨q0, q1, q2, q3⟩, q9⟩ := hS; clear q9)
         go_simp
         with_reducible rfl
       (try simp only [Act.put, List.setIfInBounds_toArray, List.set_cons_zero, List.set_cons_succ]))
    | (refine Bz.anyR_not (by kernel_rfl) (fun m w1 _ hS => Bz.st1_keep (by decide) hS) (by rfl) (fun _ _ _ h => h) ?_
       (try simp only [Act.put, List.setIfInBounds_toArray, List.set_cons_zero, List.set_cons_succ]))
    | (refine Bz.anyR_call (v := ?_) (f := ?_) (args := ?_) (by kernel_rfl) (by rfl) (fun _ _ _ h => h) (fun m w1 hm hS => ?_) (fun m w1 hm hS => ?_) ?_
       rotate_left 3
       · go_simp
         (try constructor) <;> with_reducible rfl
       · first
           | (fail)
       (try simp only [Act.put, List.setIfInBounds_toArray, List.set_cons_zero, List.set_cons_succ]))
    | refine Bz.anyR_done (by kernel_rfl) (fun w1 hS => ?_))
  have e : w1 = W2 := (Bz.st1_end (by decide) (by decide) hS).2
  subst e
  clear hS F0 HW2 c0 c1
  go_wp2_with fail
  refine Bz.wp_region (S := Bz.st2 [3, 7] 12 15 (fun b1 b2 w2 => w2 = cond b2 W4 (cond b1 W3 w1.drew))) (by kernel_rfl) ?_ ?_
  · exact Bz.st2_start (by decide) (by decide) rfl
  repeat (first
    | (refine Bz.anyR_value (v := ?_) (by kernel_rfl) (fun m w1 _ hS => Bz.st2_keep (by decide) (by decide) hS) (by rfl) (fun _ _ _ h => h) (fun m w1 hm hS => ?_) ?_
       rotate_left
       · (have e := Bz.st2_load (by decide) hm hS; simp only [cond_false] at e; rw [e]; go_simp; with_reducible rfl)
       (try simp only [Act.put, List.setIfInBounds_toArray, List.set_cons_zero, List.set_cons_succ]))
    | (refine Bz.anyR_skip (by kernel_rfl) (by rfl) (fun _ _ _ h => h) (fun m w1 hm hS => ?_) ?_
       · (have e := Bz.st2_first hm hS; simp only [cond_false] at e; rw [e]; refine ⟨W3, ?_, Bz.st2_A hm (by decide) (by decide) (by intro L hL; simp only [List.mem_cons, List.not_mem_nil, or_false] at hL; rcases hL with rfl | rfl <;> exact hm.2 ⟨_, .phase⟩ (by simp) rfl) hS rfl⟩; rw [← HW3.out]; go_simp)
       (try simp only [Act.put]))
    | (refine Bz.anyR_skip (by kernel_rfl) (by rfl) (fun _ _ _ h => h) (fun m w1 hm hS => ?_) ?_
       · (have e := Bz.st2_mid hm (hm.2 ⟨12, .chain⟩ (by simp) rfl) hS; simp only [cond_true, cond_false] at e; rw [e]; refine ⟨_, ?_, Bz.st2_B hm (by decide) (by decide) (hm.2 ⟨12, .chain⟩ (by simp) rfl) hS rfl⟩; rw [← HW4.out]; go_simp)
       (try simp only [Act.put]))
    | (refine Bz.anyR_value (v := ?_) (by kernel_rfl) (fun m w1 _ hS => Bz.st2_keep (by decide) (by decide) hS) (by rfl) (fun _ _ _ h => h) (fun m w1 _ hS => ?_) ?_
       rotate_left
       · go_simp
         with_reducible rfl
       (try simp only [Act.put, List.setIfInBounds_toArray, List.set_cons_zero, List.set_cons_succ]))
    | (refine Bz.anyR_not (by kernel_rfl) (fun m w1 _ hS => Bz.st2_keep (by decide) (by decide) hS) (by rfl) (fun _ _ _ h => h) ?_
       (try simp only [Act.put, List.setIfInBounds_toArray, List.set_cons_zero, List.set_cons_succ]))
    | (refine Bz.anyR_call (v := ?_) (f := ?_) (args := ?_) (by kernel_rfl) (by rfl) (fun _ _ _ h => h) (fun m w1 hm hS => ?_) (fun m w1 hm hS => ?_) ?_
       rotate_left 3
       · go_simp
         (try constructor) <;> with_reducible rfl
       · first
           | (fail)
       (try simp only [Act.put, List.setIfInBounds_toArray, List.set_cons_zero, List.set_cons_succ]))
    | refine Bz.anyR_done (by kernel_rfl) (fun w1 hS => ?_))
  have e9 := Bz.st2_end (by decide) (by decide) (by decide) (by decide) hS
  simp only [cond_true] at e9
  subst e9
  clear hS HW3 HW4 a0 a1 b1 fl1 e03 fe3
  go_wp2_with fail
  refine Bz.wp_region (S := Bz.st1 [3, 5] 7 (fun b w3 => cond b (Mi.Is Try.prog 3 w3 D.m (fun s => if s = p then some (.pointer (some ⟨X, 0, none⟩)) else F s) (Mi.up (F p) n) ∧ w1.drew.grownBy w3 (some D.m)) (w3 = w1.drew))) (by kernel_rfl) ?_ ?_
  · exact Bz.st1_start (by decide) rfl
  repeat (first
    | (refine Bz.anyR_value (v := ?_) (by kernel_rfl) (fun m w1 _ hS => Bz.st1_keep (by decide) hS) (by rfl) (fun _ _ _ h => h) (fun m w1 hm hS => ?_) ?_
       rotate_left
       · (have e := Bz.st1_load (by decide) hm hS; simp only [cond_false] at e; rw [e]; go_simp; with_reducible rfl)
       (try simp only [Act.put, List.setIfInBounds_toArray, List.set_cons_zero, List.set_cons_succ]))
    | (refine Bz.anyR_skip (by kernel_rfl) (by rfl) (fun _ _ _ h => h) (fun m w1 hm hS => ?_) ?_
       · (have e := Bz.st1_first hm hS; simp only [cond_false] at e; rw [e]; refine Mi.ex_put _ _ _ _ 51 3 48 rfl Try.underlying51 Try.underlying3 D.m n F rfl HMD.out hlen2 p hw rfl (.pointer (some ⟨X, 0, none⟩)) rfl (fun w' g1 g2 => Bz.st1_A (by decide) (by intro L hL; simp only [List.mem_cons, List.not_mem_nil, or_false] at hL; rcases hL with rfl | rfl <;> exact hm.2 ⟨_, .phase⟩ (by simp) rfl) ⟨g1, g2⟩))
       (try simp only [Act.put]))
    | (refine Bz.anyR_value (v := ?_) (by kernel_rfl) (fun m w1 _ hS => Bz.st1_keep (by decide) hS) (by rfl) (fun _ _ _ h => h) (fun m w1 _ hS => ?_) ?_
       rotate_left
       · go_simp
         with_reducible rfl
       (try simp only [Act.put, List.setIfInBounds_toArray, List.set_cons_zero, List.set_cons_succ]))
    | (refine Bz.anyR_not (by kernel_rfl) (fun m w1 _ hS => Bz.st1_keep (by decide) hS) (by rfl) (fun _ _ _ h => h) ?_
       (try simp only [Act.put, List.setIfInBounds_toArray, List.set_cons_zero, List.set_cons_succ]))
    | (refine Bz.anyR_call (v := ?_) (f := ?_) (args := ?_) (by kernel_rfl) (by rfl) (fun _ _ _ h => h) (fun m w1 hm hS => ?_) (fun m w1 hm hS => ?_) ?_
       rotate_left 3
       · go_simp
         (try constructor) <;> with_reducible rfl
       · first
           | (fail)
       (try simp only [Act.put, List.setIfInBounds_toArray, List.set_cons_zero, List.set_cons_succ]))
    | refine Bz.anyR_done (by kernel_rfl) (fun w1 hS => ?_))
  have e9 := Bz.st1_end (by decide) (by decide) hS
  simp only [cond_true] at e9
  obtain ⟨hm5, hg5⟩ := e9
  obtain ⟨⟨q0, q1, q2⟩, HT⟩ := HG.out w1 hm5 hg5
  have HT := Lib.hid HT
  clear hm5 hg5 hS HMD HG m4 g4
  obtain ⟨W6, hW6⟩ : ∃ W, w1.drew.setCell ⟨D.b, 2, none⟩ (.int .i64 (C + q)) = W := ⟨_, rfl⟩
  rw [hW6] at HT
  have HW6 := Lib.hid hW6
  clear hW6
  go_wp2_with fail
  refine Bz.wp_region (S := Bz.st1 [3, 5] 9 (fun b w3 => w3 = cond b W6 w1.drew)) (by kernel_rfl) ?_ ?_
  · exact Bz.st1_start (by decide) rfl
  repeat (first
    | (refine Bz.anyR_value (v := ?_) (by kernel_rfl) (fun m w1 _ hS => Bz.st1_keep (by decide) hS) (by rfl) (fun _ _ _ h => h) (fun m w1 hm hS => ?_) ?_
       rotate_left
       · (have e := Bz.st1_load (by decide) hm hS; simp only [cond_false] at e; rw [e]; go_simp; with_reducible rfl)
       (try simp only [Act.put, List.setIfInBounds_toArray, List.set_cons_zero, List.set_cons_succ]))
    | (refine Bz.anyR_skip (by kernel_rfl) (by rfl) (fun _ _ _ h => h) (fun m w1 hm hS => ?_) ?_
       · (have e := Bz.st1_first hm hS; simp only [cond_false] at e; rw [e]; refine ⟨W6, ?_, Bz.st1_A (by decide) (by intro L hL; simp only [List.mem_cons, List.not_mem_nil, or_false] at hL; rcases hL with rfl | rfl <;> exact hm.2 ⟨_, .phase⟩ (by simp) rfl) rfl⟩; rw [← HW6.out]; go_simp)
       (try simp only [Act.put]))
    | (refine Bz.anyR_value (v := ?_) (by kernel_rfl) (fun m w1 _ hS => Bz.st1_keep (by decide) hS) (by rfl) (fun _ _ _ h => h) (fun m w1 _ hS => ?_) ?_
       rotate_left
       · go_simp
         with_reducible rfl
       (try simp only [Act.put, List.setIfInBounds_toArray, List.set_cons_zero, List.set_cons_succ]))
    | (refine Bz.anyR_not (by kernel_rfl) (fun m w1 _ hS => Bz.st1_keep (by decide) hS) (by rfl) (fun _ _ _ h => h) ?_
       (try simp only [Act.put, List.setIfInBounds_toArray, List.set_cons_zero, List.set_cons_succ]))
    | (refine Bz.anyR_call (v := ?_) (f := ?_) (args := ?_) (by kernel_rfl) (by rfl) (fun _ _ _ h => h) (fun m w1 hm hS => ?_) (fun m w1 hm hS => ?_) ?_
       rotate_left 3
       · go_simp
         (try constructor) <;> with_reducible rfl
       · first
           | (fail)
       (try simp only [Act.put, List.setIfInBounds_toArray, List.set_cons_zero, List.set_cons_succ]))
    | refine Bz.anyR_done (by kernel_rfl) (fun w1 hS => ?_))
  have e9 := Bz.st1_end (by decide) (by decide) hS
  simp only [cond_true] at e9
  subst e9
  clear hS q0 q1 q2 HW6
  go_wp2
  go_ret
  exact ⟨rfl, HT.out⟩
theorem fq_push (h : Qb w D ns) (x : It) (hw : Mi.Wf x.1) (hlen : ns.length < 100000) : Calls Try.prog 9 #[.pointer (some ⟨D.b, 0, none⟩), .agg #[.int .i64 x.1, .int .i64 x.2]] w fun e w' => e = .returned (.int .i64 (pe (its ns) x)) ∧ Qg w D ns (pu (its ns) x) w' := by
  obtain ⟨p, q⟩ := x
  simp only at hw ⊢
  by_cases h0 : pe (its ns) (p, q) = 0
  · have h9 : ¬ (p < 1 ∨ q < 1 ∨ 64 < q) ∧ fd (its ns) p = none := by
      unfold pe at h0
      simp only at h0
      by_cases h1 : p < 1 ∨ q < 1 ∨ 64 < q
      · rw [if_pos h1] at h0; omega
      · rw [if_neg h1] at h0
        refine ⟨h1, ?_⟩
        cases hf : fd (its ns) p with
        | none => rfl
        | some v => rw [hf] at h0; simp at h0
    have hpu : pu (its ns) (p, q) = its ns ++ [(p, q)] := by
      unfold pu
      simp only
      rw [if_neg h9.1, h9.2]
      rfl
    have hwp : p ≤ 9223372036854775807 := by
      unfold Mi.Wf at hw
      simp [Lit.wf, IntKind.min, IntKind.max, IntKind.signed, IntKind.bits] at hw
      omega
    rw [h0, hpu]
    exact fq_push_ok h p q ⟨by simp only; omega, hwp, by simp only; omega, by simp only; omega⟩ (fb_none.2 (fd_none.1 h9.2)) hlen
  · have hpu : pu (its ns) (p, q) = its ns := by
      unfold pe at h0
      unfold pu
      simp only at h0 ⊢
      by_cases h1 : p < 1 ∨ q < 1 ∨ 64 < q
      · rw [if_pos h1]
      · rw [if_neg h1] at h0 ⊢
        cases hf : (fd (its ns) p).isSome with
        | true => rfl
        | false => rw [hf] at h0; simp at h0
    rw [hpu]
    exact (fq_push_no h p q hw h0).mono fun e w' ⟨he, hb⟩ => ⟨he, (Qg.start h).below hb⟩
end
end Go.Proofs.Ytcfmbdcklapmhaa
