/-
  LAYER 12 (lru), part K: both tables side by side; one act on both; the page's example.
-/
import Derived.Test.YthombaalaeefcaaLruF
import Derived.Test.YthombaalaeefcaaLruJ
namespace Go.Proofs.Ythombaalaeefcaa
open Go.RowKit Lr Ft Bt
set_option linter.unusedVariables false
namespace Lr
/-- the program's table at block b, made since w0 -/
def OL (w0 : World) (b room : Nat) (L : List KV) (w : World) : Prop := ∃ D ns, D.b = b ∧ Tb w D room ns ∧ kvs ns = L ∧ (∀ x, fp D ns x → w0.heap.size ≤ x) ∧ Below w0.heap.size w0 w
/-- both, made since w0 -/
def PL (w0 : World) (b br room : Nat) (L1 L2 : List KV) (w : World) : Prop :=
  ∃ D ns v, D.b = b ∧ Tb w D room ns ∧ kvs ns = L1 ∧ RP w br v room L2 ∧ (∀ x, fp D ns x → w0.heap.size ≤ x) ∧ (∀ x, rfd br v x → w0.heap.size ≤ x) ∧ (∀ x, fp D ns x → ¬ rfd br v x) ∧ Below w0.heap.size w0 w
/-- both, and an act of the call's own -/
def PS (w0 : World) (b br g : Nat) (cs : Array Value) (room : Nat) (L1 L2 : List KV) (w : World) : Prop := PL w0 b br room L1 L2 w ∧ w.heap[g]? = some (.cells cs 32)
section
variable {w0 w w' : World} {b br g room : Nat} {cs : Array Value} {L L' L1 L2 L1' L2' : List KV} {f : FuncId} {args : Array Value} {R : Value}
theorem OL.below (h : OL w0 b room L w) (hb : Below w.heap.size w w') : OL w0 b room L w' := by
  obtain ⟨D, ns, e, h1, h2, h3, h4⟩ := h
  exact ⟨D, ns, e, h1.below hb (Nat.le_refl _), h2, h3, h4.trans (hb.mono h4.size)⟩
theorem OL.call (h : OL w0 b room L w) (hc : ∀ D ns, Tb w D room ns → kvs ns = L → D.b = b → Calls Try.prog f args w fun e w' => e = .returned R ∧ Tg w D room ns L' w') : Calls Try.prog f args w fun e w' => e = .returned R ∧ OL w0 b room L' w' := by
  obtain ⟨D, ns, e, h1, h2, h3, h4⟩ := h
  refine (hc D ns h1 h2 e).mono ?_
  rintro e2 w' ⟨he, ns', q1, q2, q3⟩
  refine ⟨he, D, ns', e, q2, q1, fun x hx => ?_, h4.trans (q3.mv.below h4.size (fun k hk hf => by have := h3 k hf; omega))⟩
  rcases q3.own x hx with h7 | h7
  · exact h3 x h7
  · exact Nat.le_trans h4.size h7
theorem PL.below (h : PL w0 b br room L1 L2 w) (hb : Below w.heap.size w w') : PL w0 b br room L1 L2 w' := by
  obtain ⟨D, ns, v, e, h1, h2, h3, h4, h5, h6, h7⟩ := h
  exact ⟨D, ns, v, e, h1.below hb (Nat.le_refl _), h2, h3.below hb, h4, h5, h6, h7.trans (hb.mono h7.size)⟩
theorem PL.bl (h : PL w0 b br room L1 L2 w) : Below w0.heap.size w0 w := by
  obtain ⟨D, ns, v, e, h1, h2, h3, h4, h5, h6, h7⟩ := h
  exact h7
theorem PL.keys (h : PL w0 b br room L1 L2 w) : Ks L1 := by
  obtain ⟨D, ns, v, e, h1, h2, h3, h4, h5, h6, h7⟩ := h
  rw [← h2]
  exact h1.keys
theorem PL.pos (h : PL w0 b br room L1 L2 w) : 0 < room := by
  obtain ⟨D, ns, v, e, h1, h2, h3, h4, h5, h6, h7⟩ := h
  exact h1.pos
theorem PS.below (h : PS w0 b br g cs room L1 L2 w) (hb : Below w.heap.size w w') : PS w0 b br g cs room L1 L2 w' :=
  ⟨h.1.below hb, (hb.block g (Array.getElem?_eq_some_iff.1 h.2).1).trans h.2⟩
/-- a call that turns the program's -/
theorem PS.call (h : PS w0 b br g cs room L1 L2 w) (hc : ∀ D ns, Tb w D room ns → kvs ns = L1 → D.b = b → Calls Try.prog f args w fun e w' => e = .returned R ∧ Tg w D room ns L1' w') : Calls Try.prog f args w fun e w' => e = .returned R ∧ PS w0 b br g cs room L1' L2 w' := by
  obtain ⟨⟨D, ns, v, e, h1, h2, h3, h4, h5, h6, h7⟩, hg⟩ := h
  refine (hc D ns h1 h2 e).mono ?_
  rintro e2 w' ⟨he, ns', q1, q2, q3⟩
  refine ⟨he, ⟨D, ns', v, e, q2, q1, h3.mv q3.mv (fun x hx hf => h6 x hf hx), fun x hx => ?_, h5, fun x hx hr => ?_, h7.trans (q3.mv.below h7.size (fun k hk hf => by have := h4 k hf; omega))⟩, (q3.mv.block g (Array.getElem?_eq_some_iff.1 hg).1 (fun hf => ?_)).trans hg⟩
  · rcases q3.own x hx with h8 | h8
    · exact h4 x h8
    · exact Nat.le_trans h7.size h8
  · rcases q3.own x hx with h8 | h8
    · exact h6 x h8 hr
    · have := h3.lt_fp hr; omega
  · have hk : Kd w g 32 := ⟨_, hg⟩
    rcases hf with rfl | rfl | hf
    · exact (h1.kind.ne hk (by decide)) rfl
    · exact kd_map h1.mp hk rfl
    · exact ((h1.ring.kd hf).ne hk (by decide)) rfl
/-- a call that turns the page's -/
theorem PS.callR (h : PS w0 b br g cs room L1 L2 w) (hc : ∀ v, RP w br v room L2 → Calls Try.prog f args w fun e w' => e = .returned R ∧ RG w br v room L2' w') : Calls Try.prog f args w fun e w' => e = .returned R ∧ PS w0 b br g cs room L1 L2' w' := by
  obtain ⟨⟨D, ns, v, e, h1, h2, h3, h4, h5, h6, h7⟩, hg⟩ := h
  refine (hc v h3).mono ?_
  rintro e2 w' ⟨he, v', q2, q3⟩
  refine ⟨he, ⟨D, ns, v', e, h1.mv q3.mv h6, h2, q2, h4, fun x hx => ?_, fun x hx hr => ?_, h7.trans (q3.mv.below h7.size (fun k hk hf => by have := h5 k hf; omega))⟩, (q3.mv.block g (Array.getElem?_eq_some_iff.1 hg).1 (fun hf => ?_)).trans hg⟩
  · rcases q3.own x hx with h8 | h8
    · exact h5 x h8
    · exact Nat.le_trans h7.size h8
  · rcases q3.own x hr with h8 | h8
    · exact h6 x hx h8
    · have := h1.lt hx; omega
  · have hk : Kd w g 32 := ⟨_, hg⟩
    rcases hf with rfl | hf
    · exact (h3.kind.ne hk (by decide)) rfl
    · exact ((h3.own.kind hf).2.2.ne hk (by decide)) rfl
end
structure A12 where
  kind : Int
  key : ByteArray
  v : Int
def a012 : A12 := ⟨0, ByteArray.empty, 0⟩
instance : Inhabited A12 := ⟨a012⟩
def acs (x : A12) : Array Value := #[.int .i64 x.kind, .string x.key, .int .i64 x.v]
/-- behind an act -/
def act (room : Nat) (L : List KV) (x : A12) : List KV := if x.kind = 0 then pt room L x.key x.v else if x.kind = 1 then gt L x.key else if x.kind = 2 then L else drp L x.key
theorem act_len {L : List KV} (h : Ks L) {room : Nat} (hf : L.length ≤ room) (x : A12) : (act room L x).length ≤ room ∧ (act room L x).length ≤ L.length + 1 := by
  unfold act
  split
  · exact pt_len L room x.key x.v
  · split
    · rw [gt_len h]; omega
    · split
      · omega
      · have := drp_le L x.key; omega
theorem PS.cells {w0 w : World} {b br g room : Nat} {L1 L2 : List KV} {x : A12} (h : PS w0 b br g (acs x) room L1 L2 w) : w.cell? ⟨g, 0, none⟩ = some (.int .i64 x.kind) ∧ w.cell? ⟨g, 1, none⟩ = some (.string x.key) ∧ w.cell? ⟨g, 2, none⟩ = some (.int .i64 x.v) := by
  have h2 := h.2
  unfold acs at h2
  refine ⟨?_, ?_, ?_⟩ <;> simp only [World.cell?, h2] <;> rfl
/-- .. and where the page's row lies -/
def PRd (w0 : World) (b br g : Nat) (cs : Array Value) (room : Nat) (L : List KV) (z : Int) (p : Option Addr) (n cap : Nat) (w : World) : Prop := PS w0 b br g cs room L L w ∧ w.cell? ⟨br, 0, none⟩ = some (.int .i64 z) ∧ w.cell? ⟨br, 1, none⟩ = some (.slice p n cap)
end Lr
section
variable {w0 w w' : World} {b br g room n cap : Nat} {cs : Array Value} {L : List KV} {z : Int} {p : Option Addr}
theorem Lr.PRd.of (h : PS w0 b br g cs room L L w) : ∃ z p n cap, PRd w0 b br g cs room L z p n cap w := by
  obtain ⟨⟨D, ns, v, e, h1, _, h3, _⟩, _⟩ := id h
  obtain ⟨p, cap, hv, _, hkc⟩ := h3.own.view
  exact ⟨_, p, _, cap, h, h3.c0, by rw [← hv]; exact h3.c1⟩
theorem Lr.PRd.below (h : PRd w0 b br g cs room L z p n cap w) (hb : Below w.heap.size w w') : PRd w0 b br g cs room L z p n cap w' := by
  obtain ⟨h1, h2, h3⟩ := h
  obtain ⟨⟨D, ns, v, e, _, _, h4, _⟩, _⟩ := id h1
  have hbr := hb.block br h4.kind.lt
  exact ⟨h1.below hb, by rw [World.cell?_of_block hbr]; exact h2, by rw [World.cell?_of_block hbr]; exact h3⟩
theorem Lr.PRd.cells {x : A12} (h : PRd w0 b br g (acs x) room L z p n cap w) : w.cell? ⟨br, 0, none⟩ = some (.int .i64 z) ∧ w.cell? ⟨br, 1, none⟩ = some (.slice p n cap) ∧ w.cell? ⟨g, 0, none⟩ = some (.int .i64 x.kind) ∧ w.cell? ⟨g, 1, none⟩ = some (.string x.key) ∧ w.cell? ⟨g, 2, none⟩ = some (.int .i64 x.v) :=
  ⟨h.2.1, h.2.2, h.1.cells⟩
theorem Lr.PRd.peek (h : PRd w0 b br g cs room L z p n cap w) (k : ByteArray) : Calls Try.prog 19 #[.agg #[.int .i64 z, .slice p n cap], .string k] w fun e w' => e = .returned (gv (fd L k)) ∧ PRd w0 b br g cs room L z p n cap w' := by
  obtain ⟨⟨D, ns, v, e, h1, _, h3, _⟩, _⟩ := id h.1
  obtain ⟨p', cap', hv, _, hkc⟩ := h3.own.view
  have h4 := h3.c1
  rw [h.2.2, hv] at h4
  injection h4 with h4
  injection h4 with e1 e2 e3
  subst e1 e2 e3
  refine (rpeek_any z p L.length cap L k w rfl h3.len hkc).mono ?_
  rintro e w' ⟨he, hb⟩
  exact ⟨he, h.below hb⟩
end
section
variable {w0 w w' : World} {b br room : Nat} {L : List KV}
def Does12 (w0 : World) (b br room : Nat) (L : List KV) (e : Ending) (w' : World) : Prop := e = .returned (.bool true) ∧ PL w0 b br room L L w'
set_option maxHeartbeats 2000000 in
theorem does_any (h : PL w0 b br room L L w) (x : A12) (hk : Ms.Wf x.key) (hfit : L.length ≤ room) (hlen : L.length < 1000) :
    Calls Try.prog 8 #[.pointer (some ⟨b, 0, none⟩), .pointer (some ⟨br, 0, none⟩), .agg #[.int .i64 x.kind, .string x.key, .int .i64 x.v]] w (Does12 w0 b br room (act room L x)) := by
  obtain ⟨g, hg⟩ : ∃ g, w.heap.size = g := ⟨_, rfl⟩
  obtain ⟨W1, hW1⟩ : ∃ W1, w.alloc (.cells #[.int .i64 x.kind, .string x.key, .int .i64 x.v] 32) = W1 := ⟨_, rfl⟩
  have hps : PS w0 b br g (acs x) room L L W1 := ⟨h.below (by rw [← hW1]; exact (Below.refl _ _).alloc (Nat.le_refl _) _), by rw [← hW1, ← hg]; exact (MapKept.heap_alloc _ _).1⟩
  have HKS := Lib.hid h.keys
  have HPOS := Lib.hid h.pos
  have HPS := Lib.hid hps
  obtain ⟨c0, c1, c2⟩ := hps.cells
  have HFIT := Lib.hid hfit
  have HLEN := Lib.hid hlen
  have HK := Lib.hid hk
  clear h hps hfit hlen hk
  by_cases hk0 : x.kind = 0
  · have hact : act room L x = pt room L x.key x.v := by unfold act; rw [if_pos hk0]
    rw [hact]
    have hkb : (x.kind == 0) = true := by simpa using hk0
    obtain ⟨s, hs⟩ : ∃ s, gk room L x.key = s := ⟨_, rfl⟩
    obtain ⟨t, ht⟩ : ∃ t, gb room L x.key = t := ⟨_, rfl⟩
    have hss : (s.toList == s.toList) = true := by simp
    have htt : (t == t) = true := by simp
    have H1 : Hid (Calls Try.prog 13 #[.pointer (some ⟨b, 0, none⟩), .string x.key, .int .i64 x.v] W1 fun e w' => e = .returned (.tuple #[.string s, .bool t]) ∧ PS w0 b br g (acs x) room (pt room L x.key x.v) L w') := Lib.hid (HPS.out.call (fun D ns q1 q2 q3 => by
      have h9 := lput_any q1 HK.out x.v (by rw [← kvs_len, q2]; exact HFIT.out) (by rw [← kvs_len, q2]; exact HLEN.out)
      rw [q2, q3, hs, ht] at h9
      exact h9))
    have H2 : Hid (∀ w2, PS w0 b br g (acs x) room (pt room L x.key x.v) L w2 → Calls Try.prog 17 #[.pointer (some ⟨br, 0, none⟩), .string x.key, .int .i64 x.v] w2 fun e w' => e = .returned (.tuple #[.string s, .bool t]) ∧ PS w0 b br g (acs x) room (pt room L x.key x.v) (pt room L x.key x.v) w') := Lib.hid (fun w2 h2 => h2.callR (fun v q1 => by
      have h9 := rput_any q1 HKS.out x.key x.v HPOS.out HFIT.out HLEN.out
      rw [hs, ht] at h9
      exact h9))
    clear hk0 hact hs ht
    go_enter Try.func8, Try.ntmps8
    go_wp2_with (go_at_call 13; refine H1.out.mono ?_)
    rintro e w1 ⟨rfl, h1⟩
    obtain ⟨d0, d1, d2⟩ := h1.cells
    have H3 := Lib.hid (H2.out w1 h1)
    clear h1 c0 c1 c2 H1 H2
    go_wp2_with (go_at_call 17; refine H3.out.mono ?_)
    rintro e w2 ⟨rfl, h2⟩
    have H4 := Lib.hid h2.1
    clear h2 d0 d1 d2 H3
    go_wp2
    go_ret
    exact ⟨rfl, H4.out⟩
  · have hkb : (x.kind == 0) = false := by simpa using hk0
    by_cases hk1 : x.kind = 1
    · have hact : act room L x = gt L x.key := by unfold act; rw [if_neg hk0, if_pos hk1]
      rw [hact]
      have hkb1 : (x.kind == 1) = true := by simpa using hk1
      obtain ⟨o, ho⟩ : ∃ o, fd L x.key = o := ⟨_, rfl⟩
      obtain ⟨s, hs⟩ : ∃ s, o.getD 0 = s := ⟨_, rfl⟩
      obtain ⟨t, ht⟩ : ∃ t, o.isSome = t := ⟨_, rfl⟩
      have hgv : gv o = .tuple #[.int .i64 s, .bool t] := by unfold gv; rw [hs, ht]
      have hss : (s == s) = true := by simp
      have htt : (t == t) = true := by simp
      have H1 : Hid (Calls Try.prog 14 #[.pointer (some ⟨b, 0, none⟩), .string x.key] W1 fun e w' => e = .returned (.tuple #[.int .i64 s, .bool t]) ∧ PS w0 b br g (acs x) room (gt L x.key) L w') := Lib.hid (HPS.out.call (fun D ns q1 q2 q3 => by
        have h9 := lget_any q1 HK.out
        rw [q2, q3, ho, hgv] at h9
        exact h9))
      have H2 : Hid (∀ w2, PS w0 b br g (acs x) room (gt L x.key) L w2 → Calls Try.prog 18 #[.pointer (some ⟨br, 0, none⟩), .string x.key] w2 fun e w' => e = .returned (.tuple #[.int .i64 s, .bool t]) ∧ PS w0 b br g (acs x) room (gt L x.key) (gt L x.key) w') := Lib.hid (fun w2 h2 => h2.callR (fun v q1 => by
        have h9 := rget_any q1 HKS.out x.key HPOS.out HFIT.out HLEN.out
        rw [ho, hgv] at h9
        exact h9))
      clear hk0 hk1 hact hs ht ho hgv
      go_enter Try.func8, Try.ntmps8
      go_wp2_with (go_at_call 14; refine H1.out.mono ?_)
      rintro e w1 ⟨rfl, h1⟩
      obtain ⟨d0, d1, d2⟩ := h1.cells
      have H3 := Lib.hid (H2.out w1 h1)
      clear h1 c0 c1 c2 H1 H2
      go_wp2_with (go_at_call 18; refine H3.out.mono ?_)
      rintro e w2 ⟨rfl, h2⟩
      have H4 := Lib.hid h2.1
      clear h2 d0 d1 d2 H3
      go_wp2
      go_ret
      exact ⟨rfl, H4.out⟩
    · have hkb1 : (x.kind == 1) = false := by simpa using hk1
      by_cases hk2 : x.kind = 2
      · have hact : act room L x = L := by unfold act; rw [if_neg hk0, if_neg hk1, if_pos hk2]
        rw [hact]
        have hkb2 : (x.kind == 2) = true := by simpa using hk2
        obtain ⟨o, ho⟩ : ∃ o, fd L x.key = o := ⟨_, rfl⟩
        obtain ⟨s, hs⟩ : ∃ s, o.getD 0 = s := ⟨_, rfl⟩
        obtain ⟨t, ht⟩ : ∃ t, o.isSome = t := ⟨_, rfl⟩
        have hgv : gv o = .tuple #[.int .i64 s, .bool t] := by unfold gv; rw [hs, ht]
        have hss : (s == s) = true := by simp
        have htt : (t == t) = true := by simp
        have H1 : Hid (Calls Try.prog 15 #[.pointer (some ⟨b, 0, none⟩), .string x.key] W1 fun e w' => e = .returned (.tuple #[.int .i64 s, .bool t]) ∧ PS w0 b br g (acs x) room L L w') := Lib.hid (by
          obtain ⟨⟨D, ns, v, e, h1, h2, _⟩, _⟩ := HPS.out
          have h9 := peek_any h1 HK.out
          rw [h2, e, ho, hgv] at h9
          refine h9.mono ?_
          rintro e w' ⟨he, hb⟩
          exact ⟨he, HPS.out.below hb⟩)
        have H2 : Hid (∀ z p n cap w2, PRd w0 b br g (acs x) room L z p n cap w2 → Calls Try.prog 19 #[.agg #[.int .i64 z, .slice p n cap], .string x.key] w2 fun e w' => e = .returned (.tuple #[.int .i64 s, .bool t]) ∧ PRd w0 b br g (acs x) room L z p n cap w') := Lib.hid (fun z p n cap w2 h2 => by
          have h9 := h2.peek x.key
          rw [ho, hgv] at h9
          exact h9)
        clear hk0 hk1 hk2 hact hs ht ho hgv
        go_enter Try.func8, Try.ntmps8
        go_wp2_with (go_at_call 15; refine H1.out.mono ?_)
        rintro e w1 ⟨rfl, h1⟩
        obtain ⟨z, p, n, cap, hp⟩ := PRd.of h1
        have HP := Lib.hid (hp.below (Below.refl w1.heap.size w1).drew)
        clear h1 c0 c1 c2 H1 hp
        go_wp2_with fail
        refine wp_region_text (S := (PRd w0 b br g (acs x) room L z p n cap)) (by kernel_rfl) ?_ ?_
        · exact HP.out
        repeat (first
          | (refine anyR_value (v := ?_) (by kernel_rfl) (by rfl) (fun _ _ _ h => h) (fun w1 hS => ?_) ?_
             rotate_left
             · obtain ⟨q0, q1, q2, q3, q4⟩ := PRd.cells hS
               go_simp
               with_reducible rfl
             simp only [Act.put, List.setIfInBounds_toArray, List.set_cons_zero, List.set_cons_succ])
          | (refine anyR_not (by kernel_rfl) (by rfl) (fun _ _ _ h => h) ?_
             simp only [Act.put, List.setIfInBounds_toArray, List.set_cons_zero, List.set_cons_succ])
          | (refine anyR_call (v := ?_) (f := ?_) (args := ?_) (by kernel_rfl) (by rfl) (fun _ _ _ h => h) (fun w1 hS => ?_) (fun w1 hS => ?_) ?_
             rotate_left 3
             · go_simp
               (try constructor) <;> with_reducible rfl
             · first
                 | ((with_reducible refine ((H2.out _ _ _ _ _ hS).mono ?_)); rintro e w' ⟨rfl, hp⟩; refine ⟨?_, hp⟩; with_reducible rfl)
             simp only [Act.put, List.setIfInBounds_toArray, List.set_cons_zero, List.set_cons_succ])
          | refine anyR_done (by kernel_rfl) (fun w1 hS => ?_))
        have H4 := Lib.hid hS.1.1
        clear hS HP
        go_wp2
        go_ret
        exact ⟨rfl, H4.out⟩
      · have hact : act room L x = drp L x.key := by unfold act; rw [if_neg hk0, if_neg hk1, if_neg hk2]
        rw [hact]
        have hkb2 : (x.kind == 2) = false := by simpa using hk2
        obtain ⟨t, ht⟩ : ∃ t, (fd L x.key).isSome = t := ⟨_, rfl⟩
        have htt : (t == t) = true := by simp
        have H1 : Hid (∀ w2 M, PS w0 b br g (acs x) room L M w2 → Calls Try.prog 16 #[.pointer (some ⟨b, 0, none⟩), .string x.key] w2 fun e w' => e = .returned (.bool t) ∧ PS w0 b br g (acs x) room (drp L x.key) M w') := Lib.hid (fun w2 M h2 => h2.call (fun D ns q1 q2 q3 => by
          have h9 := ldrop_any q1 HK.out
          rw [q2, q3, ht] at h9
          exact h9))
        have H2 : Hid (∀ w2 M, PS w0 b br g (acs x) room M L w2 → Calls Try.prog 20 #[.pointer (some ⟨br, 0, none⟩), .string x.key] w2 fun e w' => e = .returned (.bool t) ∧ PS w0 b br g (acs x) room M (drp L x.key) w') := Lib.hid (fun w2 M h2 => h2.callR (fun v q1 => by
          have h9 := rdrop_any q1 HKS.out x.key
          rw [ht] at h9
          exact h9))
        clear hk0 hk1 hk2 hact ht
        go_enter Try.func8, Try.ntmps8
        go_wp2_with fail
        refine Bz.wp_region (S := Bz.by2 3 7 (fun b1 b2 w1 => PS w0 b br g (acs x) room (cond b1 (drp L x.key) L) (cond b2 (drp L x.key) L) w1)) (by kernel_rfl) ?_ ?_
        · exact Bz.by2_start (by decide) (by decide) (HPS.out.below (Below.refl _ _).drew)
        repeat (first
          | (refine Bz.anyR_value (v := ?_) (by kernel_rfl) (fun m w1 _ hS => Bz.by2_set (by decide) (by decide) m w1 hS) (by rfl) (fun _ _ _ h => h) (fun m w1 _ hS => ?_) ?_
             rotate_left
             · obtain ⟨q0, q1, q2⟩ := PS.cells hS
               go_simp
               with_reducible rfl
             (try simp only [Act.put, List.setIfInBounds_toArray, List.set_cons_zero, List.set_cons_succ]))
          | (refine Bz.anyR_not (by kernel_rfl) (fun m w1 _ hS => Bz.by2_set (by decide) (by decide) m w1 hS) (by rfl) (fun _ _ _ h => h) ?_
             (try simp only [Act.put, List.setIfInBounds_toArray, List.set_cons_zero, List.set_cons_succ]))
          | (refine Bz.anyR_call (v := ?_) (f := ?_) (args := ?_) (by kernel_rfl) (by rfl) (fun _ _ _ h => h) (fun m w1 hm hS => ?_) (fun m w1 hm hS => ?_) ?_
             rotate_left 3
             · go_simp
               (try constructor) <;> with_reducible rfl
             · first
                 | (have hS2 : PS w0 b br g (acs x) room L (cond (m.getD 7 true) (drp L x.key) L) w1 := (by have h := hS; unfold Bz.by2 at h; rw [hm.1] at h; exact h); (with_reducible refine ((H1.out _ _ hS2).mono ?_)); rintro e w' ⟨rfl, hp⟩; refine ⟨?_, Bz.by2_A (by decide) m w' hp⟩; with_reducible rfl)
                 | (have hS2 : PS w0 b br g (acs x) room (cond (m.getD 3 true) (drp L x.key) L) L w1 := (by have h := hS; unfold Bz.by2 at h; rw [hm.1] at h; exact h); (with_reducible refine ((H2.out _ _ hS2).mono ?_)); rintro e w' ⟨rfl, hp⟩; refine ⟨?_, Bz.by2_B (by decide) m w' hp⟩; with_reducible rfl)
             (try simp only [Act.put, List.setIfInBounds_toArray, List.set_cons_zero, List.set_cons_succ]))
          | refine Bz.anyR_done (by kernel_rfl) (fun w1 hS => ?_))
        have hfin := Bz.by2_end (by decide) (by decide) (by decide) (by decide) hS
        have HF : Hid (PL w0 b br room (drp L x.key) (drp L x.key) w1) := Lib.hid hfin.1
        clear hS hfin
        go_wp2
        go_ret
        exact ⟨by simp, HF.out⟩
end
end Go.Proofs.Ythombaalaeefcaa
