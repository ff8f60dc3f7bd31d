/-
  LAYER 9 (due), part M: the page's example; rows of acts and of timers that come in.
-/
import Derived.Test.YtlhajdmleefkiaaDueL
import Derived.Test.YtlhajdmleefkiaaOpens
namespace Go.Proofs.Ytlhajdmleefkiaa
open Go.RowKit Wl Dl Bt
set_option linter.unusedVariables false

theorem choose_lt {α : Type} [Inhabited α] {n : Nat} {p : Nat → α → Prop} (h : ∀ i, i < n → ∃ x, p i x) : ∃ f : Nat → α, ∀ i, i < n → p i (f i) :=
  ⟨fun i => if hi : i < n then (h i hi).choose else default, fun i hi => by simp only [dif_pos hi]; exact (h i hi).choose_spec⟩
theorem range_getD9 {α : Type} (f : Nat → α) (n i : Nat) (d : α) (h : i < n) : ((List.range n).map f).getD i d = f i := by
  rw [List.getD_eq_getElem?_getD, List.getElem?_eq_getElem (by simpa using h)]
  simp
/-- the program's timers, and a timer of the call's own in block g -/
def OB (w0 : World) (b g : Nat) (cs : Array Value) (now : Nat) (L : List X) (w : World) : Prop :=
  ∃ P r, P.bd = b ∧ Du w P now L r ∧ (∀ x, P.fp x → w0.heap.size ≤ x) ∧ ¬ P.fp g ∧ w.heap[g]? = some (.cells cs 39) ∧ w0.heap.size ≤ g ∧ Below w0.heap.size w0 w
section
variable {w0 w w' : World} {b g now : Nat} {cs : Array Value} {L : List X}
theorem OB.made (h : OD w0 b now L w) (cs : Array Value) : OB w0 b w.heap.size cs now L (w.alloc (.cells cs 39)) := by
  obtain ⟨P, r, e, h1, h2, h3⟩ := h
  have hb : Below w.heap.size w (w.alloc (.cells cs 39)) := (Below.refl _ _).alloc (Nat.le_refl _) _
  exact ⟨P, r, e, h1.below hb (Nat.le_refl _), h2, fun hf => by have := h1.lt hf; omega, (MapKept.heap_alloc _ _).1, h3.size, h3.trans (hb.mono h3.size)⟩
theorem OB.od (h : OB w0 b g cs now L w) : OD w0 b now L w := by
  obtain ⟨P, r, e, h1, h2, h3, h4, h5, h6⟩ := h
  exact ⟨P, r, e, h1, h2, h6⟩
theorem OB.below (h : OB w0 b g cs now L w) (hb : Below w.heap.size w w') : OB w0 b g cs now L w' := by
  obtain ⟨P, r, e, h1, h2, h3, h4, h5, h6⟩ := h
  exact ⟨P, r, e, h1.below hb (Nat.le_refl _), h2, h3, (hb.block g (lt_of_some h4)).trans h4, h5, h6.trans (hb.mono h6.size)⟩
theorem OB.at (h : OB w0 b g cs now L w) : w.heap[g]? = some (.cells cs 39) := by
  obtain ⟨P, r, e, h1, h2, h3, h4, h5, h6⟩ := h
  exact h4
theorem OB.call {f : FuncId} {args : Array Value} {now' : Nat} {L' : List X} {R : Value} (h : OB w0 b g cs now L w)
    (hc : ∀ P r, Du w P now L r → P.bd = b → Calls Try.prog f args w fun e w' => e = .returned R ∧ ∃ r', DG w P now' L' r' w') : Calls Try.prog f args w fun e w' => e = .returned R ∧ OB w0 b g cs now' L' w' := by
  obtain ⟨P, r, e, h1, h2, h3, h4, h5, h6⟩ := h
  refine (hc P r h1 e).mono ?_
  rintro e2 w' ⟨he, r', P', q1, q2, q3, q4⟩
  refine ⟨he, P', r', q1.trans e, q3, fun x hx => ?_, fun hf => ?_, (q4.mv.block g (lt_of_some h4) h3).trans h4, h5, h6.trans (q4.mv.below h6.size (fun k hk hf => by have := h2 k hf; omega))⟩
  · rcases q4.own x hx with h7 | h7
    · exact h2 x h7
    · exact Nat.le_trans h6.size h7
  · rcases q4.own _ hf with h7 | h7
    · exact h3 h7
    · have := lt_of_some h4; omega
theorem OB.first (h : OB w0 b g cs now L w) {j : Nat} {x : X} (hF : Fx L j) (hx : L.getD j x0 = x) (tq : Nat) (hle : x.tick ≤ tq) (hlen : L.length < 1000) :
    Calls Try.prog 16 #[.pointer (some ⟨b, 0, none⟩), .int .u64 tq] w fun e w' => e = .returned (.tuple #[xv x, .bool true]) ∧ OB w0 b g cs (max now x.tick) (wo L x.kind x.id) w' :=
  h.call fun P r h1 e => by subst e; exact dfirst_some h1 hF hx tq hle hlen
theorem OB.firstN (h : OB w0 b g cs now L w) (tq : Nat) (hg : gob L tq = true) :
    Calls Try.prog 16 #[.pointer (some ⟨b, 0, none⟩), .int .u64 tq] w fun e w' => e = .returned (.tuple #[xv x0, .bool false]) ∧ OB w0 b g cs now L w' :=
  h.call fun P r h1 e => by subst e; exact dfirst_none h1 tq hg
end
namespace due9
def l2 : List X := [⟨4, 7, 9⟩, ⟨1, 8, 9⟩]
set_option maxHeartbeats 1000000 in
theorem live_any (w : World) : Calls Try.prog 6 #[] w fun e w' => e = .returned (.bool true) ∧ Below w.heap.size w w' := by
  have HN := Lib.hid (od_new 0 w (by decide))
  have HU := Lib.hid num9_any
  go_enter Try.func6, Try.ntmps6
  go_wp2_with (go_at_call 7; refine HN.out.mono ?_)
  rintro e w1 ⟨b, rfl, o1⟩
  have P1 := Lib.hid (o1.set 4 7 9 (by decide) (by decide))
  clear o1
  go_wp2_with (go_at_call 15; refine P1.out.mono ?_)
  rintro e w2 ⟨rfl, o2⟩
  have e2 : st [] 4 7 9 = (0, [⟨4, 7, 9⟩]) := by decide
  rw [e2] at o2 ⊢
  have P2 := Lib.hid (o2.set 1 8 9 (by decide) (by decide))
  clear o2 e2 P1 HN
  go_wp2_with (go_at_call 15; refine P2.out.mono ?_)
  rintro e w3 ⟨rfl, o3⟩
  have e3 : st [⟨4, 7, 9⟩] 1 8 9 = (0, l2) := by decide
  rw [e3] at o3 ⊢
  have P3 : Hid (Calls Try.prog 16 #[.pointer (some ⟨b, 0, none⟩), .int .u64 9] w3 (ODid w b 9 [⟨4, 7, 9⟩] (.tuple #[.agg #[.int .i64 1, .int .i64 8, .int .u64 9], .bool true]))) := Lib.hid (o3.first (j := 1) (x := ⟨1, 8, 9⟩) (by unfold Fx; decide) (by decide) 9 (by decide) (by decide))
  clear o3 e3 P2
  go_wp2_with (go_at_call 16; refine P3.out.mono ?_)
  rintro e w4 ⟨rfl, o4⟩
  have o5 := OB.made o4 #[.int .i64 1, .int .i64 8, .int .u64 9]
  have P4 : Hid (Calls Try.prog 16 #[.pointer (some ⟨b, 0, none⟩), .int .u64 9] (w4.alloc (.cells #[.int .i64 1, .int .i64 8, .int .u64 9] 39)) fun e w' => e = .returned (.tuple #[.agg #[.int .i64 4, .int .i64 7, .int .u64 9], .bool true]) ∧ OB w b w4.heap.size #[.int .i64 1, .int .i64 8, .int .u64 9] 9 [] w') := Lib.hid (o5.first (j := 0) (x := ⟨4, 7, 9⟩) (by unfold Fx; decide) (by decide) 9 (by decide) (by decide))
  clear o4 o5 P3
  go_wp2_with (go_at_call 16; refine P4.out.mono ?_)
  rintro e w5 ⟨rfl, o6⟩
  have o7 := o6.below (w' := w5.alloc (.cells #[.int .i64 4, .int .i64 7, .int .u64 9] 39)) ((Below.refl _ _).alloc (Nat.le_refl _) _)
  obtain ⟨⟨k0, k1, k2⟩, _⟩ := three o7.at
  have P5 : Hid (Calls Try.prog 17 #[.pointer (some ⟨b, 0, none⟩), .int .u64 9] (w5.alloc (.cells #[.int .i64 4, .int .i64 7, .int .u64 9] 39)) (ODid w b 9 [] (.bool true))) := Lib.hid (o7.od.go 9 (by decide))
  clear o6 o7 P4
  go_wp2_with (first
    | (go_at_call 19; refine (HU.out _ _).mono ?_; rintro e w' ⟨rfl, hw⟩; rw [hw]; clear hw)
    | (go_at_call 17; refine P5.out.mono ?_))
  rintro e w6 ⟨rfl, o8⟩
  have HB := Lib.hid o8.bl
  clear o8
  go_wp2
  go_ret
  exact ⟨rfl, HB.out⟩
end due9
/-! ### rows that come in -/
def AC9 (w : World) (p : Option Addr) (l : List A9) : Prop := ∀ i, i < l.length → ∃ g off, p = some ⟨g, off, none⟩ ∧ g < w.heap.size ∧ w.cell? ⟨g, off + i * 4, none⟩ = some (.int .i64 (l.getD i a09).act) ∧ w.cell? ⟨g, off + i * 4 + 1, none⟩ = some (.int .i64 (l.getD i a09).kind) ∧ w.cell? ⟨g, off + i * 4 + 2, none⟩ = some (.int .i64 (l.getD i a09).id) ∧ w.cell? ⟨g, off + i * 4 + 3, none⟩ = some (.int .u64 ((l.getD i a09).tick : Nat))
theorem AC9.below {w w' : World} {p : Option Addr} {l : List A9} {B : Nat} (h : AC9 w p l) (hb : Below B w w') (hB : w.heap.size ≤ B) : AC9 w' p l := fun i hi => by
  obtain ⟨g, off, h1, h2, h3, h4, h5, h6⟩ := h i hi
  have e : w'.heap[g]? = w.heap[g]? := hb.block g (Nat.lt_of_lt_of_le h2 hB)
  exact ⟨g, off, h1, Nat.lt_of_lt_of_le h2 hb.size, by rw [World.cell?_of_block e]; exact h3, by rw [World.cell?_of_block e]; exact h4, by rw [World.cell?_of_block e]; exact h5, by rw [World.cell?_of_block e]; exact h6⟩
def XO (w : World) (p : Option Addr) (l : List X) : Prop := ∀ i, i < l.length → ∃ g off, p = some ⟨g, off, none⟩ ∧ g < w.heap.size ∧ w.cell? ⟨g, off + i * 3, none⟩ = some (.int .i64 (l.getD i x0).kind) ∧ w.cell? ⟨g, off + i * 3 + 1, none⟩ = some (.int .i64 (l.getD i x0).id) ∧ w.cell? ⟨g, off + i * 3 + 2, none⟩ = some (.int .u64 ((l.getD i x0).tick : Nat))
theorem XO.below {w w' : World} {p : Option Addr} {l : List X} {B : Nat} (h : XO w p l) (hb : Below B w w') (hB : w.heap.size ≤ B) : XO w' p l := fun i hi => by
  obtain ⟨g, off, h1, h2, h3, h4, h5⟩ := h i hi
  have e : w'.heap[g]? = w.heap[g]? := hb.block g (Nat.lt_of_lt_of_le h2 hB)
  exact ⟨g, off, h1, Nat.lt_of_lt_of_le h2 hb.size, by rw [World.cell?_of_block e]; exact h3, by rw [World.cell?_of_block e]; exact h4, by rw [World.cell?_of_block e]; exact h5⟩
theorem getD_mem9 {α : Type} {l : List α} {i : Nat} {d : α} (hi : i < l.length) : l.getD i d ∈ l := by
  rw [List.getD_eq_getElem?_getD, List.getElem?_eq_getElem hi]
  exact List.getElem_mem hi
section
variable {H : Type} {enc : TypeId × Value → H} {W : World} {base : Nat} {spare : Nat → Bool} {held : Bool}
theorem acts9_open {v : Value} {d : DataW H} {pl : List MemPlace} (h : DataW.Trod enc Try.prog W base spare held 23 v d pl) (hv : ∃ p n cap, v = .slice p n cap) :
    ∃ (p : Option Addr) (n cap : Nat) (l : List A9), v = .slice p n cap ∧ l.length = n ∧ n ≤ maxLen ∧ (∀ x ∈ l, x.tick < 2 ^ 64) ∧ AC9 W p l := by
  obtain ⟨p, n, cap, rfl⟩ := hv
  obtain ⟨fuel, h⟩ := h
  obtain ⟨hn, hi⟩ := open_rows Try.underlying23 Try.underlying33 (by kernel_rfl) (by kernel_rfl) (by decide) h
  have each : ∀ i, i < n → ∃ x : A9, x.tick < 2 ^ 64 ∧ ∃ g off, p = some ⟨g, off, none⟩ ∧ g < W.heap.size ∧ W.cell? ⟨g, off + i * 4, none⟩ = some (.int .i64 x.act) ∧ W.cell? ⟨g, off + i * 4 + 1, none⟩ = some (.int .i64 x.kind) ∧ W.cell? ⟨g, off + i * 4 + 2, none⟩ = some (.int .i64 x.id) ∧ W.cell? ⟨g, off + i * 4 + 3, none⟩ = some (.int .u64 (x.tick : Nat)) := fun i hil => by
    obtain ⟨b, off, hp, hb, k, hf⟩ := hi i hil
    obtain ⟨u0, y0, c0, r0⟩ := hf 0 _ rfl
    obtain ⟨u1, y1, c1, r1⟩ := hf 1 _ rfl
    obtain ⟨u2, y2, c2, r2⟩ := hf 2 _ rfl
    obtain ⟨u3, y3, c3, r3⟩ := hf 3 _ rfl
    obtain ⟨q0, hq0, _, _⟩ := DataW.trod_int Try.underlying3 r0
    obtain ⟨q1, hq1, _, _⟩ := DataW.trod_int Try.underlying3 r1
    obtain ⟨q2, hq2, _, _⟩ := DataW.trod_int Try.underlying3 r2
    obtain ⟨q3, hq3, _, w3⟩ := DataW.trod_int Try.underlying22 r3
    simp at hq0 hq1 hq2 hq3
    subst hq0 hq1 hq2 hq3
    obtain ⟨v3, rfl, hv3⟩ := u64_nat w3
    exact ⟨⟨q0, q1, q2, v3⟩, hv3, b, off, hp, hb, c0, c1, c2, c3⟩
  obtain ⟨f, hf⟩ := choose_lt each
  refine ⟨p, n, cap, (List.range n).map f, rfl, by simp, hn, ?_, ?_⟩
  · intro x hx
    obtain ⟨i, hi, rfl⟩ := List.mem_map.1 hx
    exact (hf i (List.mem_range.1 hi)).1
  · intro i hi
    have hin : i < n := by simpa using hi
    rw [range_getD9 f n i _ hin]
    exact (hf i hin).2
theorem timers_open {v : Value} {d : DataW H} {pl : List MemPlace} (h : DataW.Trod enc Try.prog W base spare held 28 v d pl) (hv : ∃ p n cap, v = .slice p n cap) :
    ∃ (p : Option Addr) (n cap : Nat) (l : List X), v = .slice p n cap ∧ l.length = n ∧ n ≤ maxLen ∧ (∀ x ∈ l, x.tick < 2 ^ 64) ∧ XO W p l := by
  obtain ⟨p, n, cap, rfl⟩ := hv
  obtain ⟨fuel, h⟩ := h
  obtain ⟨hn, hi⟩ := open_rows Try.underlying28 Try.underlying39 (by kernel_rfl) (by kernel_rfl) (by decide) h
  have each : ∀ i, i < n → ∃ x : X, x.tick < 2 ^ 64 ∧ ∃ g off, p = some ⟨g, off, none⟩ ∧ g < W.heap.size ∧ W.cell? ⟨g, off + i * 3, none⟩ = some (.int .i64 x.kind) ∧ W.cell? ⟨g, off + i * 3 + 1, none⟩ = some (.int .i64 x.id) ∧ W.cell? ⟨g, off + i * 3 + 2, none⟩ = some (.int .u64 (x.tick : Nat)) := fun i hil => by
    obtain ⟨b, off, hp, hb, k, hf⟩ := hi i hil
    obtain ⟨u0, y0, c0, r0⟩ := hf 0 _ rfl
    obtain ⟨u1, y1, c1, r1⟩ := hf 1 _ rfl
    obtain ⟨u2, y2, c2, r2⟩ := hf 2 _ rfl
    obtain ⟨q0, hq0, _, _⟩ := DataW.trod_int Try.underlying3 r0
    obtain ⟨q1, hq1, _, _⟩ := DataW.trod_int Try.underlying3 r1
    obtain ⟨q2, hq2, _, w2⟩ := DataW.trod_int Try.underlying22 r2
    simp at hq0 hq1 hq2
    subst hq0 hq1 hq2
    obtain ⟨v2, rfl, hv2⟩ := u64_nat w2
    exact ⟨⟨q0, q1, v2⟩, hv2, b, off, hp, hb, c0, c1, c2⟩
  obtain ⟨f, hf⟩ := choose_lt each
  refine ⟨p, n, cap, (List.range n).map f, rfl, by simp, hn, ?_, ?_⟩
  · intro x hx
    obtain ⟨i, hi, rfl⟩ := List.mem_map.1 hx
    exact (hf i (List.mem_range.1 hi)).1
  · intro i hi
    have hin : i < n := by simpa using hi
    rw [range_getD9 f n i _ hin]
    exact (hf i hin).2
end
end Go.Proofs.Ytlhajdmleefkiaa
