/-
  LAYER 12 (lru), part L: a table that a call has made; the page's example; acts that come in.
-/
import Derived.Test.YthombaalaeefcaaLruK
import Derived.Test.YthombaalaeefcaaOpens
namespace Go.Proofs.Ythombaalaeefcaa
open Go.RowKit Lr Ft Bt
set_option linter.unusedVariables false
namespace Lr
section
variable {w0 w w' : World} {b room : Nat} {L : List KV}
def ODid (w0 : World) (b room : Nat) (L : List KV) (r : Value) (e : Ending) (w' : World) : Prop := e = .returned r ∧ OL w0 b room L w'
theorem OL.bl (h : OL w0 b room L w) : Below w0.heap.size w0 w := by
  obtain ⟨D, ns, e, h1, h2, h3, h4⟩ := h
  exact h4
theorem OL.keys (h : OL w0 b room L w) : Ks L := by
  obtain ⟨D, ns, e, h1, h2, h3, h4⟩ := h
  rw [← h2]
  exact h1.keys
theorem OL.put (h : OL w0 b room L w) {k : ByteArray} (hk : Ms.Wf k) (v : Int) (hfit : L.length ≤ room) (hlen : L.length < 1000) {L' : List KV} {s : ByteArray} {t : Bool} (e1 : pt room L k v = L') (e2 : gk room L k = s) (e3 : gb room L k = t) :
    Calls Try.prog 13 #[.pointer (some ⟨b, 0, none⟩), .string k, .int .i64 v] w (ODid w0 b room L' (.tuple #[.string s, .bool t])) := by
  subst e1 e2 e3
  exact h.call (fun D ns q1 q2 q3 => by
    have h9 := lput_any q1 hk v (by rw [← kvs_len, q2]; exact hfit) (by rw [← kvs_len, q2]; exact hlen)
    rw [q2, q3] at h9
    exact h9)
theorem OL.get (h : OL w0 b room L w) {k : ByteArray} (hk : Ms.Wf k) {L' : List KV} {r : Value} (e1 : gt L k = L') (e2 : gv (fd L k) = r) :
    Calls Try.prog 14 #[.pointer (some ⟨b, 0, none⟩), .string k] w (ODid w0 b room L' r) := by
  subst e1 e2
  exact h.call (fun D ns q1 q2 q3 => by
    have h9 := lget_any q1 hk
    rw [q2, q3] at h9
    exact h9)
theorem OL.listed (h : OL w0 b room L w) : Calls Try.prog 10 #[.pointer (some ⟨b, 0, none⟩)] w (Keyss w (kys L)) := by
  obtain ⟨D, ns, e, h1, h2, h3, h4⟩ := h
  have h9 := keys_any h1
  rw [h2, e] at h9
  exact h9
theorem OL.peek (h : OL w0 b room L w) {k : ByteArray} (hk : Ms.Wf k) : Calls Try.prog 15 #[.pointer (some ⟨b, 0, none⟩), .string k] w fun e w' => e = .returned (gv (fd L k)) ∧ Below w.heap.size w w' := by
  obtain ⟨D, ns, e, h1, h2, h3, h4⟩ := h
  have h9 := peek_any h1 hk
  rw [h2, e] at h9
  exact h9
def OMade (w0 : World) (room : Nat) (e : Ending) (w' : World) : Prop := ∃ b, e = .returned (.pointer (some ⟨b, 0, none⟩)) ∧ OL w0 b room [] w'
end
end Lr
theorem ol_new (room : Nat) (w : World) (hr : 0 < room) : Calls Try.prog 6 #[.int .i64 room] w (OMade w room) := by
  refine (new_any room w hr).mono ?_
  rintro e w' ⟨D, he, h1, h2, h3⟩
  exact ⟨D.b, he, D, [], rfl, h1, rfl, h2, h3⟩
namespace lru12
abbrev ba : ByteArray := { data := #[97] }
abbrev bb : ByteArray := { data := #[98] }
abbrev bc : ByteArray := { data := #[99] }
theorem p1 : pt 2 [] ba 1 = [(ba, 1)] ∧ gk 2 [] ba = ByteArray.empty ∧ gb 2 [] ba = false := by decide
theorem p2 : pt 2 [(ba, 1)] bb 2 = [(bb, 2), (ba, 1)] ∧ gk 2 [(ba, 1)] bb = ByteArray.empty ∧ gb 2 [(ba, 1)] bb = false := by decide
theorem p3 : gt [(bb, 2), (ba, 1)] ba = [(ba, 1), (bb, 2)] ∧ fd [(bb, 2), (ba, 1)] ba = some 1 := by decide
theorem p4 : pt 2 [(ba, 1), (bb, 2)] bc 3 = [(bc, 3), (ba, 1)] ∧ gk 2 [(ba, 1), (bb, 2)] bc = bb ∧ gb 2 [(ba, 1), (bb, 2)] bc = true := by decide
theorem sc2 (w : World) (x y : ByteArray) : SC (w.alloc (.cells #[.string x, .string y] 9)) (some ⟨w.heap.size, 0, none⟩) [x, y] := fun i hi => by
  have e := (MapKept.heap_alloc w (.cells #[.string x, .string y] 9)).1
  refine ⟨w.heap.size, rfl, by simp, ?_⟩
  simp only [World.cell?, e]
  match i, hi with
  | 0, _ => rfl
  | 1, _ => rfl
  | (i + 2), hi => simp at hi; omega
theorem wf1 (x : UInt8) : Ms.Wf { data := #[x] } := by
  unfold Ms.Wf maxLen
  show 1 ≤ _
  omega
set_option maxHeartbeats 1000000 in
theorem live_any (w : World) : Calls Try.prog 7 #[] w fun e w' => e = .returned (.bool true) ∧ Below w.heap.size w w' := by
  have HN := Lib.hid (ol_new 2 w (by decide))
  go_enter Try.func7, Try.ntmps7
  go_wp2_with (go_at_call 6; refine HN.out.mono ?_)
  rintro e w1 ⟨b, rfl, o1⟩
  have P1 := Lib.hid (o1.put (k := ba) (wf1 _) 1 (by decide) (by decide) p1.1 p1.2.1 p1.2.2)
  clear o1 HN
  go_wp2_with (go_at_call 13; refine P1.out.mono ?_)
  rintro e w2 ⟨rfl, o2⟩
  have P2 := Lib.hid (o2.put (k := bb) (wf1 _) 2 (by decide) (by decide) p2.1 p2.2.1 p2.2.2)
  clear o2 P1
  go_wp2_with (go_at_call 13; refine P2.out.mono ?_)
  rintro e w3 ⟨rfl, o3⟩
  have P3 := Lib.hid (o3.get (k := ba) (wf1 _) (r := .tuple #[.int .i64 1, .bool true]) p3.1 (by rw [p3.2]; rfl))
  clear o3 P2
  go_wp2_with (go_at_call 14; refine P3.out.mono ?_)
  rintro e w4 ⟨rfl, o4⟩
  have P4 := Lib.hid (o4.put (k := bc) (wf1 _) 3 (by decide) (by decide) p4.1 p4.2.1 p4.2.2)
  clear o4 P3
  go_wp2_with (go_at_call 13; refine P4.out.mono ?_)
  rintro e w5 ⟨rfl, o5⟩
  have P5 := Lib.hid o5.listed
  have HB5 := Lib.hid o5.bl
  clear o5 P4
  go_wp2_with (go_at_call 10; refine P5.out.mono ?_)
  rintro e w6 ⟨p, n, cap, rfl, hn, hown, hb6⟩
  obtain ⟨p9, c9, hv, _, hsc⟩ := hown.view
  injection hv with e1 e2 e3
  subst e1 e2 e3
  have hb7 : Below w6.heap.size w6 (w6.alloc (.cells #[.string bc, .string ba] 9)) := (Below.refl _ _).alloc (Nat.le_refl _) _
  have P7 : Hid (∀ c1 c2, Calls Try.prog 9 #[.slice p 2 c1, .slice (some ⟨w6.heap.size, 0, none⟩) 2 c2] (w6.alloc (.cells #[.string bc, .string ba] 9)) fun e w' => e = .returned (.bool true) ∧ Below w.heap.size w w') := Lib.hid (fun c1 c2 => by
    refine (texts_same p (some ⟨w6.heap.size, 0, none⟩) 2 c1 c2 [bc, ba] _ rfl (by decide) (hsc.below hb7 (Nat.le_refl _)) (sc2 w6 bc ba)).mono ?_
    rintro e w' ⟨he, hb⟩
    have h1 := below_next (below_next HB5.out hb6) hb7
    exact ⟨he, below_next h1 hb⟩)
  clear hn hown hb6 hsc hb7 P5
  go_wp2_with (go_at_call 9; refine (P7.out _ _).mono ?_)
  first | rintro e w8 rfl hb8 | rintro e w8 ⟨rfl, hb8⟩
  have HB8 := Lib.hid hb8
  clear hb8
  go_wp2
  go_ret
  exact ⟨rfl, HB8.out⟩
end lru12
theorem choose_lt12 {α : Type} [Inhabited α] {n : Nat} {p : Nat → α → Prop} (h : ∀ i, i < n → ∃ x, p i x) : ∃ f : Nat → α, ∀ i, i < n → p i (f i) :=
  ⟨fun i => if hi : i < n then (h i hi).choose else default, fun i hi => by simp only [dif_pos hi]; exact (h i hi).choose_spec⟩
theorem range_getD12 {α : Type} (f : Nat → α) (n i : Nat) (d : α) (h : i < n) : ((List.range n).map f).getD i d = f i := by
  rw [List.getD_eq_getElem?_getD, List.getElem?_eq_getElem (by simpa using h)]
  simp
/-! ### acts that come in -/
def AC12 (w : World) (p : Option Addr) (l : List A12) : Prop := ∀ i, i < l.length → ∃ g off, p = some ⟨g, off, none⟩ ∧ g < w.heap.size ∧ w.cell? ⟨g, off + i * 3, none⟩ = some (.int .i64 (l.getD i a012).kind) ∧ w.cell? ⟨g, off + i * 3 + 1, none⟩ = some (.string (l.getD i a012).key) ∧ w.cell? ⟨g, off + i * 3 + 2, none⟩ = some (.int .i64 (l.getD i a012).v)
theorem AC12.below {w w' : World} {p : Option Addr} {l : List A12} {B : Nat} (h : AC12 w p l) (hb : Below B w w') (hB : w.heap.size ≤ B) : AC12 w' p l := fun i hi => by
  obtain ⟨g, off, h1, h2, h3, h4, h5⟩ := h i hi
  have e : w'.heap[g]? = w.heap[g]? := hb.block g (Nat.lt_of_lt_of_le h2 hB)
  exact ⟨g, off, h1, Nat.lt_of_lt_of_le h2 hb.size, by rw [World.cell?_of_block e]; exact h3, by rw [World.cell?_of_block e]; exact h4, by rw [World.cell?_of_block e]; exact h5⟩
section
open Go.ChangeShapes Go.WideShapes Go.Deep
variable {H : Type} {enc : TypeId × Value → H} {W : World} {base : Nat} {spare : Nat → Bool} {held : Bool}
theorem acts12_open {v : Value} {d : DataW H} {pl : List MemPlace} (h : DataW.Trod enc Try.prog W base spare held 22 v d pl) (hv : ∃ p n cap, v = .slice p n cap) :
    ∃ (p : Option Addr) (n cap : Nat) (l : List A12), v = .slice p n cap ∧ l.length = n ∧ n ≤ maxLen ∧ (∀ x ∈ l, Ms.Wf x.key) ∧ AC12 W p l := by
  obtain ⟨p, n, cap, rfl⟩ := hv
  obtain ⟨fuel, h⟩ := h
  obtain ⟨hn, hi⟩ := open_rows Try.underlying22 Try.underlying32 (by kernel_rfl) (by kernel_rfl) (by decide) h
  have each : ∀ i, i < n → ∃ x : A12, Ms.Wf x.key ∧ ∃ g off, p = some ⟨g, off, none⟩ ∧ g < W.heap.size ∧ W.cell? ⟨g, off + i * 3, none⟩ = some (.int .i64 x.kind) ∧ W.cell? ⟨g, off + i * 3 + 1, none⟩ = some (.string x.key) ∧ W.cell? ⟨g, off + i * 3 + 2, none⟩ = some (.int .i64 x.v) := fun i hil => by
    obtain ⟨b, off, hp, hb, k, hf⟩ := hi i hil
    obtain ⟨u0, y0, c0, r0⟩ := hf 0 _ rfl
    obtain ⟨u1, y1, c1, r1⟩ := hf 1 _ rfl
    obtain ⟨u2, y2, c2, r2⟩ := hf 2 _ rfl
    obtain ⟨q0, hq0, _, _⟩ := DataW.trod_int Try.underlying3 r0
    obtain ⟨q1, hq1, _, hsz⟩ := DataW.trod_string Try.underlying9 r1
    obtain ⟨q2, hq2, _, _⟩ := DataW.trod_int Try.underlying3 r2
    simp at hq0 hq1 hq2
    subst hq0 hq1 hq2
    exact ⟨⟨q0, q1, q2⟩, hsz, b, off, hp, hb, c0, c1, c2⟩
  obtain ⟨f, hf⟩ := choose_lt12 each
  refine ⟨p, n, cap, (List.range n).map f, rfl, by simp, hn, ?_, ?_⟩
  · intro x hx
    obtain ⟨i, hi, rfl⟩ := List.mem_map.1 hx
    exact (hf i (List.mem_range.1 hi)).1
  · intro i hi
    have hin : i < n := by simpa using hi
    rw [range_getD12 f n i _ hin]
    exact (hf i hin).2
theorem act12_open {b0 : Nat} {v : Value} {d : DataW H} {pl : List MemPlace} (hv : Value.okWide Try.prog W .any b0 32 v) (h : DataW.Trod enc Try.prog W base spare held 32 v d pl) :
    ∃ x : A12, v = .agg #[.int .i64 x.kind, .string x.key, .int .i64 x.v] ∧ Ms.Wf x.key := by
  obtain ⟨cs, n, rfl, hsz, hf⟩ := open_fields Try.underlying32 (by kernel_rfl) (by kernel_rfl) hv h
  obtain ⟨u0, y0, c0, r0⟩ := hf 0 _ rfl
  obtain ⟨u1, y1, c1, r1⟩ := hf 1 _ rfl
  obtain ⟨u2, y2, c2, r2⟩ := hf 2 _ rfl
  obtain ⟨q0, hq0, _, _⟩ := DataW.trod_int Try.underlying3 r0
  obtain ⟨q1, hq1, _, hwf⟩ := DataW.trod_string Try.underlying9 r1
  obtain ⟨q2, hq2, _, _⟩ := DataW.trod_int Try.underlying3 r2
  simp at hq0 hq1 hq2
  subst hq0 hq1 hq2
  refine ⟨⟨q0, q1, q2⟩, ?_, hwf⟩
  have hs3 : cs.size = 3 := hsz
  congr 1
  refine Array.ext (by rw [hs3]; rfl) (fun i h1 h2 => ?_)
  rw [hs3] at h1
  match i, h1 with
  | 0, _ => rw [Array.getElem?_eq_getElem (by omega)] at c0; injection c0
  | 1, _ => rw [Array.getElem?_eq_getElem (by omega)] at c1; injection c1
  | 2, _ => rw [Array.getElem?_eq_getElem (by omega)] at c2; injection c2
end
end Go.Proofs.Ythombaalaeefcaa
