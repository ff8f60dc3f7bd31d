/-
  LAYER 9 (due), part L: one act on both.
-/
import Derived.Test.YtlhajdmleefkiaaDueK
namespace Go.Proofs.Ytlhajdmleefkiaa
open Go.RowKit Wl Dl Bt
set_option linter.unusedVariables false

structure A9 where
  act : Int
  kind : Int
  id : Int
  tick : Nat
def a09 : A9 := ⟨0, 0, 0, 0⟩
instance : Inhabited A9 := ⟨a09⟩
def acs (x : A9) : Array Value := #[.int .i64 x.act, .int .i64 x.kind, .int .i64 x.id, .int .u64 (x.tick : Nat)]
theorem num9_any (x : Int) (w : World) : Calls Try.prog 19 #[.int .i64 x] w fun e w' => e = .returned (.int .i64 x) ∧ w' = w := by
  go_enter Try.func19, Try.ntmps19
  go_wp2
  go_ret
  exact ⟨rfl, rfl⟩
def DoesD (w0 : World) (b br m : Nat) (e : Ending) (w' : World) : Prop := e = .returned (.bool true) ∧ ∃ now L, L.length ≤ m + 1 ∧ PD w0 b br now L now L w'
section
variable {w0 w w' : World} {b br g n1 n2 : Nat} {L1 L2 : List X}
theorem PS9.cells {x : A9} (h : PS9 w0 b br g (acs x) n1 L1 n2 L2 w) : w.cell? ⟨g, 0, none⟩ = some (.int .i64 x.act) ∧ w.cell? ⟨g, 1, none⟩ = some (.int .i64 x.kind) ∧ w.cell? ⟨g, 2, none⟩ = some (.int .i64 x.id) ∧ w.cell? ⟨g, 3, none⟩ = some (.int .u64 (x.tick : Nat)) := by
  have h2 := h.2
  unfold Apt acs at h2
  refine ⟨?_, ?_, ?_, ?_⟩ <;> simp only [World.cell?, h2] <;> rfl
theorem wo_len (L : List X) (k i : Int) : (wo L k i).length ≤ L.length := (wo_sub L k i).length_le
set_option maxHeartbeats 2000000 in
theorem does_any {now : Nat} {L : List X} (h : PD w0 b br now L now L w) (x : A9) (hx : x.tick < 2 ^ 64) (hlen : L.length < 1000) :
    Calls Try.prog 8 #[.pointer (some ⟨b, 0, none⟩), .pointer (some ⟨br, 0, none⟩), .agg #[.int .i64 x.act, .int .i64 x.kind, .int .i64 x.id, .int .u64 (x.tick : Nat)]] w (DoesD w0 b br L.length) := by
  obtain ⟨g, hg⟩ : ∃ g, w.heap.size = g := ⟨_, rfl⟩
  obtain ⟨W1, hW1⟩ : ∃ W1, w.alloc (.cells #[.int .i64 x.act, .int .i64 x.kind, .int .i64 x.id, .int .u64 (x.tick : Nat)] 33) = W1 := ⟨_, rfl⟩
  have hps : PS9 w0 b br g (acs x) now L now L W1 := ⟨h.below (by rw [← hW1]; exact (Below.refl _ _).alloc (Nat.le_refl _) _), by rw [← hW1, ← hg]; exact (MapKept.heap_alloc _ _).1⟩
  have HOK := Lib.hid h.ok
  have HPS := Lib.hid hps
  have HU := Lib.hid num9_any
  have HX := Lib.hid hx
  obtain ⟨c0, c1, c2, c3⟩ := hps.cells
  obtain ⟨m, hm⟩ : ∃ m, L.length = m := ⟨_, rfl⟩
  have HLEN := Lib.hid hlen
  have HM := Lib.hid hm
  rw [hm]
  clear h hps hx hm hlen
  by_cases hk0 : x.act = 0
  · have hkb : (x.act == 0) = true := by simpa using hk0
    clear hk0
    go_enter Try.func8, Try.ntmps8
    go_wp2_with fail
    refine Bz.wp_region (S := Bz.by2 7 16 (fun b1 b2 w1 => PS9 w0 b br g (acs x) now (cond b1 (st L x.kind x.id x.tick).2 L) now (cond b2 (st L x.kind x.id x.tick).2 L) w1)) (by kernel_rfl) ?_ ?_
    · exact Bz.by2_start (by decide) (by decide) HPS.out.drew
    repeat (first
      | (refine Bz.anyR_value (v := ?_) (by kernel_rfl) (fun m w1 _ hS => Bz.by2_set (by decide) (by decide) m w1 hS) (by rfl) (fun _ _ _ h => h) (fun m w1 _ hS => ?_) ?_
         rotate_left
         · obtain ⟨q0, q1, q2, q3⟩ := PS9.cells hS
           go_simp
           with_reducible rfl
         (try simp only [Act.put, List.setIfInBounds_toArray, List.set_cons_zero, List.set_cons_succ]))
      | (refine Bz.anyR_not (by kernel_rfl) (fun m w1 _ hS => Bz.by2_set (by decide) (by decide) m w1 hS) (by rfl) (fun _ _ _ h => h) ?_
         (try simp only [Act.put, List.setIfInBounds_toArray, List.set_cons_zero, List.set_cons_succ]))
      | (refine Bz.anyR_call (v := ?_) (f := ?_) (args := ?_) (by kernel_rfl) (by rfl) (fun _ _ _ h => h) (fun m w1 hm hS => ?_) (fun m w1 hm hS => ?_) ?_
         rotate_left 3
         · go_simp
           (try constructor) <;> with_reducible rfl
         · first
             | (have hS2 : PS9 w0 b br g (acs x) now L now (cond (m.getD 16 true) (st L x.kind x.id x.tick).2 L) w1 := (by have h := hS; unfold Bz.by2 at h; rw [hm.1] at h; exact h); (with_reducible refine ((hS2.set x.kind x.id x.tick HX.out HLEN.out).mono ?_)); rintro e w' ⟨rfl, hp⟩; refine ⟨?_, Bz.by2_A (by decide) m w' hp⟩; with_reducible rfl)
             | (have hS2 : PS9 w0 b br g (acs x) now (cond (m.getD 7 true) (st L x.kind x.id x.tick).2 L) now L w1 := (by have h := hS; unfold Bz.by2 at h; rw [hm.1] at h; exact h); (with_reducible refine ((hS2.rset HOK.out x.kind x.id x.tick HX.out HLEN.out).mono ?_)); rintro e w' ⟨rfl, hp⟩; refine ⟨?_, Bz.by2_B (by decide) m w' hp⟩; with_reducible rfl)
             | (with_reducible refine ((HU.out _ _).mono ?_); rintro e w' ⟨rfl, rfl⟩; refine ⟨?_, Bz.by2_set (by decide) (by decide) m _ hS⟩; with_reducible rfl)
         (try simp only [Act.put, List.setIfInBounds_toArray, List.set_cons_zero, List.set_cons_succ]))
      | refine Bz.anyR_done (by kernel_rfl) (fun w1 hS => ?_))
    have hfin := Bz.by2_end (by decide) (by decide) (by decide) (by decide) hS
    have HF : Hid (PD w0 b br now (st L x.kind x.id x.tick).2 now (st L x.kind x.id x.tick).2 w1) := Lib.hid hfin.1
    clear hS hfin
    go_wp2
    go_ret
    exact ⟨by simp, _, _, by have := st_len L x.kind x.id x.tick; rw [HM.out] at this; exact this, HF.out⟩
  · have hkb : (x.act == 0) = false := by simpa using hk0
    by_cases hk1 : x.act = 1
    · have hkb1 : (x.act == 1) = true := by simpa using hk1
      clear hk0 hk1
      go_enter Try.func8, Try.ntmps8
      go_wp2_with fail
      refine Bz.wp_region (S := Bz.by2 5 11 (fun b1 b2 w1 => PS9 w0 b br g (acs x) now (cond b1 (wo L x.kind x.id) L) now (cond b2 (wo L x.kind x.id) L) w1)) (by kernel_rfl) ?_ ?_
      · exact Bz.by2_start (by decide) (by decide) HPS.out.drew
      repeat (first
        | (refine Bz.anyR_value (v := ?_) (by kernel_rfl) (fun m w1 _ hS => Bz.by2_set (by decide) (by decide) m w1 hS) (by rfl) (fun _ _ _ h => h) (fun m w1 _ hS => ?_) ?_
           rotate_left
           · obtain ⟨q0, q1, q2, q3⟩ := PS9.cells hS
             go_simp
             with_reducible rfl
           (try simp only [Act.put, List.setIfInBounds_toArray, List.set_cons_zero, List.set_cons_succ]))
        | (refine Bz.anyR_not (by kernel_rfl) (fun m w1 _ hS => Bz.by2_set (by decide) (by decide) m w1 hS) (by rfl) (fun _ _ _ h => h) ?_
           (try simp only [Act.put, List.setIfInBounds_toArray, List.set_cons_zero, List.set_cons_succ]))
        | (refine Bz.anyR_call (v := ?_) (f := ?_) (args := ?_) (by kernel_rfl) (by rfl) (fun _ _ _ h => h) (fun m w1 hm hS => ?_) (fun m w1 hm hS => ?_) ?_
           rotate_left 3
           · go_simp
             (try constructor) <;> with_reducible rfl
           · first
               | (have hS2 : PS9 w0 b br g (acs x) now L now (cond (m.getD 11 true) (wo L x.kind x.id) L) w1 := (by have h := hS; unfold Bz.by2 at h; rw [hm.1] at h; exact h); (with_reducible refine ((hS2.clear x.kind x.id).mono ?_)); rintro e w' ⟨rfl, hp⟩; refine ⟨?_, Bz.by2_A (by decide) m w' hp⟩; with_reducible rfl)
               | (have hS2 : PS9 w0 b br g (acs x) now (cond (m.getD 5 true) (wo L x.kind x.id) L) now L w1 := (by have h := hS; unfold Bz.by2 at h; rw [hm.1] at h; exact h); (with_reducible refine ((hS2.rclear x.kind x.id).mono ?_)); rintro e w' ⟨rfl, hp⟩; refine ⟨?_, Bz.by2_B (by decide) m w' hp⟩; with_reducible rfl)
           (try simp only [Act.put, List.setIfInBounds_toArray, List.set_cons_zero, List.set_cons_succ]))
        | refine Bz.anyR_done (by kernel_rfl) (fun w1 hS => ?_))
      have hfin := Bz.by2_end (by decide) (by decide) (by decide) (by decide) hS
      have HF : Hid (PD w0 b br now (wo L x.kind x.id) now (wo L x.kind x.id) w1) := Lib.hid hfin.1
      clear hS hfin
      go_wp2
      go_ret
      exact ⟨by simp, _, _, by have := wo_len L x.kind x.id; rw [HM.out] at this; omega, HF.out⟩
    · have hkb1 : (x.act == 1) = false := by simpa using hk1
      by_cases hk2 : x.act = 2
      · have hkb2 : (x.act == 2) = true := by simpa using hk2
        clear hk0 hk1 hk2
        obtain ⟨zq, hzq⟩ : ∃ z : Int, (x.tick : Int) = z := ⟨_, rfl⟩
        cases hgb : gob L x.tick with
        | true =>
          have H1 : Hid (Calls Try.prog 16 #[.pointer (some ⟨b, 0, none⟩), .int .u64 zq] W1 fun e w' => e = .returned (.tuple #[.agg #[.int .i64 0, .int .i64 0, .int .u64 0], .bool false]) ∧ PS9 w0 b br g (acs x) (now) (L) now L w') := Lib.hid (by
            have h2 := HPS.out.firstN x.tick hgb
            rw [hzq] at h2
            exact h2)
          have HR : Hid (∀ w1 o, PS9 w0 b br g (acs x) (now) (L) now L w1 → Calls Try.prog 24 #[.pointer (some ⟨br, 0, none⟩), .int .u64 zq] (w1.alloc o) fun e w' => e = .returned (.tuple #[.agg #[.int .i64 0, .int .i64 0, .int .u64 0], .bool false]) ∧ PS9 w0 b br g (acs x) (now) (L) (now) (L) w' ∧ w'.heap[w1.heap.size]? = some o) := Lib.hid (fun w1 o h1 => by
            have h2 := h1.rfirstNA o x.tick hgb
            rw [hzq] at h2
            exact h2)
          have HE : Hid ((L).length ≤ L.length + 1) := Lib.hid (Nat.le_succ _)
          rw [hzq] at c3 hW1 ⊢
          have HZ := Lib.hid hzq
          clear hgb hzq
          go_enter Try.func8, Try.ntmps8
          go_wp2_with (go_at_call 16; refine H1.out.mono ?_)
          rintro e w1 ⟨rfl, h1⟩
          have h2 := h1.below (w' := w1.alloc (.cells #[.int .i64 0, .int .i64 0, .int .u64 0] 39)) ((Below.refl _ _).alloc (Nat.le_refl _) _)
          obtain ⟨d0, d1, d2, d3⟩ := h2.cells
          rw [HZ.out] at d3
          have H2 := Lib.hid (HR.out _ (.cells #[.int .i64 0, .int .i64 0, .int .u64 0] 39) h1)
          clear h1 h2 c0 c1 c2 c3
          go_wp2_with (go_at_call 24; refine H2.out.mono ?_)
          rintro e w3 ⟨rfl, h3, hk⟩
          have h4 := h3.below (w' := w3.alloc (.cells #[.int .i64 0, .int .i64 0, .int .u64 0] 39)) ((Below.refl _ _).alloc (Nat.le_refl _) _)
          have hk4 : (w3.alloc (.cells #[.int .i64 0, .int .i64 0, .int .u64 0] 39)).heap[w1.heap.size]? = some (.cells #[.int .i64 0, .int .i64 0, .int .u64 0] 39) := ((MapKept.heap_alloc _ _).2 _ (lt_of_some hk)).trans hk
          obtain ⟨⟨k0, k1, k2⟩, _⟩ := three hk4
          have H4 := Lib.hid h4.1
          clear h3 h4 hk hk4 d0 d1 d2 d3
          go_wp2
          go_ret
          exact ⟨rfl, _, _, by rw [← HM.out]; exact HE.out, H4.out⟩
        | false =>
          have hne : L ≠ [] := fun e => by rw [e] at hgb; cases hgb
          obtain ⟨j, hF⟩ := fx_exists L hne
          obtain ⟨y, hyq⟩ : ∃ y, L.getD j x0 = y := ⟨_, rfl⟩
          have hle : y.tick ≤ x.tick := by
            have h2 := gob_fx (tq := x.tick) hF
            rw [hgb, hyq] at h2
            have h3 := of_decide_eq_false h2.symm
            omega
          obtain ⟨zy, hzy⟩ : ∃ z : Int, (y.tick : Int) = z := ⟨_, rfl⟩
          have H1 : Hid (Calls Try.prog 16 #[.pointer (some ⟨b, 0, none⟩), .int .u64 zq] W1 fun e w' => e = .returned (.tuple #[.agg #[.int .i64 y.kind, .int .i64 y.id, .int .u64 zy], .bool true]) ∧ PS9 w0 b br g (acs x) (max now y.tick) (wo L y.kind y.id) now L w') := Lib.hid (by
            have h2 := HPS.out.first hF hyq x.tick hle HLEN.out
            rw [hzq, show xv y = .agg #[.int .i64 y.kind, .int .i64 y.id, .int .u64 zy] by unfold xv; rw [hzy]] at h2
            exact h2)
          have HR : Hid (∀ w1 o, PS9 w0 b br g (acs x) (max now y.tick) (wo L y.kind y.id) now L w1 → Calls Try.prog 24 #[.pointer (some ⟨br, 0, none⟩), .int .u64 zq] (w1.alloc o) fun e w' => e = .returned (.tuple #[.agg #[.int .i64 y.kind, .int .i64 y.id, .int .u64 zy], .bool true]) ∧ PS9 w0 b br g (acs x) (max now y.tick) (wo L y.kind y.id) (max now y.tick) (wo L y.kind y.id) w' ∧ w'.heap[w1.heap.size]? = some o) := Lib.hid (fun w1 o h1 => by
            have h2 := h1.rfirstA o HOK.out hF hyq x.tick hle
            rw [hzq, show xv y = .agg #[.int .i64 y.kind, .int .i64 y.id, .int .u64 zy] by unfold xv; rw [hzy]] at h2
            exact h2)
          have HE : Hid ((wo L y.kind y.id).length ≤ L.length + 1) := Lib.hid (Nat.le_trans (wo_len _ _ _) (Nat.le_succ _))
          rw [hzq] at c3 hW1 ⊢
          have HZ := Lib.hid hzq
          clear hgb hzq hF hyq hle hzy
          go_enter Try.func8, Try.ntmps8
          go_wp2_with (go_at_call 16; refine H1.out.mono ?_)
          rintro e w1 ⟨rfl, h1⟩
          have h2 := h1.below (w' := w1.alloc (.cells #[.int .i64 y.kind, .int .i64 y.id, .int .u64 zy] 39)) ((Below.refl _ _).alloc (Nat.le_refl _) _)
          obtain ⟨d0, d1, d2, d3⟩ := h2.cells
          rw [HZ.out] at d3
          have H2 := Lib.hid (HR.out _ (.cells #[.int .i64 y.kind, .int .i64 y.id, .int .u64 zy] 39) h1)
          clear h1 h2 c0 c1 c2 c3
          go_wp2_with (go_at_call 24; refine H2.out.mono ?_)
          rintro e w3 ⟨rfl, h3, hk⟩
          have h4 := h3.below (w' := w3.alloc (.cells #[.int .i64 y.kind, .int .i64 y.id, .int .u64 zy] 39)) ((Below.refl _ _).alloc (Nat.le_refl _) _)
          have hk4 : (w3.alloc (.cells #[.int .i64 y.kind, .int .i64 y.id, .int .u64 zy] 39)).heap[w1.heap.size]? = some (.cells #[.int .i64 y.kind, .int .i64 y.id, .int .u64 zy] 39) := ((MapKept.heap_alloc _ _).2 _ (lt_of_some hk)).trans hk
          obtain ⟨⟨k0, k1, k2⟩, _⟩ := three hk4
          have H4 := Lib.hid h4.1
          clear h3 h4 hk hk4 d0 d1 d2 d3
          go_wp2
          go_ret
          exact ⟨rfl, _, _, by rw [← HM.out]; exact HE.out, H4.out⟩
      · have hkb2 : (x.act == 2) = false := by simpa using hk2
        clear hk0 hk1 hk2
        go_enter Try.func8, Try.ntmps8
        go_wp2_with fail
        refine Bz.wp_region (S := Bz.by2 3 7 (fun b1 b2 w1 => PS9 w0 b br g (acs x) (cond b1 (cond (gob L x.tick) (max now x.tick) now) now) L (cond b2 (cond (gob L x.tick) (max now x.tick) now) now) L w1)) (by kernel_rfl) ?_ ?_
        · exact Bz.by2_start (by decide) (by decide) HPS.out.drew
        repeat (first
          | (refine Bz.anyR_value (v := ?_) (by kernel_rfl) (fun m w1 _ hS => Bz.by2_set (by decide) (by decide) m w1 hS) (by rfl) (fun _ _ _ h => h) (fun m w1 _ hS => ?_) ?_
             rotate_left
             · obtain ⟨q0, q1, q2, q3⟩ := PS9.cells hS
               go_simp
               with_reducible rfl
             (try simp only [Act.put, List.setIfInBounds_toArray, List.set_cons_zero, List.set_cons_succ]))
          | (refine Bz.anyR_not (by kernel_rfl) (fun m w1 _ hS => Bz.by2_set (by decide) (by decide) m w1 hS) (by rfl) (fun _ _ _ h => h) ?_
             (try simp only [Act.put, List.setIfInBounds_toArray, List.set_cons_zero, List.set_cons_succ]))
          | (refine Bz.anyR_call (v := ?_) (f := ?_) (args := ?_) (by kernel_rfl) (by rfl) (fun _ _ _ h => h) (fun m w1 hm hS => ?_) (fun m w1 hm hS => ?_) ?_
             rotate_left 3
             · go_simp
               (try constructor) <;> with_reducible rfl
             · first
                 | (have hS2 : PS9 w0 b br g (acs x) now L (cond (m.getD 7 true) (cond (gob L x.tick) (max now x.tick) now) now) L w1 := (by have h := hS; unfold Bz.by2 at h; rw [hm.1] at h; exact h); (with_reducible refine ((hS2.go x.tick HX.out).mono ?_)); rintro e w' ⟨rfl, hp⟩; refine ⟨?_, Bz.by2_A (by decide) m w' hp⟩; with_reducible rfl)
                 | (have hS2 : PS9 w0 b br g (acs x) (cond (m.getD 3 true) (cond (gob L x.tick) (max now x.tick) now) now) L now L w1 := (by have h := hS; unfold Bz.by2 at h; rw [hm.1] at h; exact h); (with_reducible refine ((hS2.rgo x.tick).mono ?_)); rintro e w' ⟨rfl, hp⟩; refine ⟨?_, Bz.by2_B (by decide) m w' hp⟩; with_reducible rfl)
             (try simp only [Act.put, List.setIfInBounds_toArray, List.set_cons_zero, List.set_cons_succ]))
          | refine Bz.anyR_done (by kernel_rfl) (fun w1 hS => ?_))
        have hfin := Bz.by2_end (by decide) (by decide) (by decide) (by decide) hS
        have HF : Hid (PD w0 b br (cond (gob L x.tick) (max now x.tick) now) L (cond (gob L x.tick) (max now x.tick) now) L w1) := Lib.hid hfin.1
        clear hS hfin
        go_wp2
        go_ret
        exact ⟨by simp, _, _, by rw [HM.out]; exact Nat.le_succ _, HF.out⟩
end
end Go.Proofs.Ytlhajdmleefkiaa
