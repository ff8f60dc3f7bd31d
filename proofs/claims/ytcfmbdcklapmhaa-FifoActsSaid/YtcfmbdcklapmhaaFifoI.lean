/-
  LAYER 14 (fifo), part I: acts that come in, an act in a block of the call's own; the queue and the page's row side by side.
-/
import Derived.Test.YtcfmbdcklapmhaaFifoG
import Derived.Test.YtcfmbdcklapmhaaOpens
namespace Go.Proofs.Ytcfmbdcklapmhaa
open Go.RowKit Fq Ft Bt
set_option linter.unusedVariables false
namespace Fq
structure A14 where
  kind : Int
  id : Int
  cost : Int
def a014 : A14 := ⟨0, 0, 0⟩
instance : Inhabited A14 := ⟨a014⟩
def acs (x : A14) : Array Value := #[.int .i64 x.kind, .int .i64 x.id, .int .i64 x.cost]
theorem act_info (x : A14) : (Try.prog.info? 28).map (·.size) = some (acs x).size := by kernel_rfl
theorem act_one (x : A14) : (acs x).all (·.oneCell') = true := by kernel_rfl
/-- block g is this act -/
def AB (w : World) (g : Nat) (x : A14) : Prop := w.heap[g]? = some (.cells (acs x) 28)
theorem AB.lt {w : World} {g : Nat} {x : A14} (h : AB w g x) : g < w.heap.size := (Array.getElem?_eq_some_iff.1 h).1
theorem AB.block {w w' : World} {g : Nat} {x : A14} (h : AB w g x) (hb : w'.heap[g]? = w.heap[g]?) : AB w' g x := by unfold AB; rw [hb]; exact h
theorem AB.below {w w' : World} {g : Nat} {x : A14} (h : AB w g x) (hb : Below w.heap.size w w') : AB w' g x := h.block (hb.block g h.lt)
theorem AB.keep {w w' : World} {g : Nat} {x : A14} (h : AB w g x) (hk : Keep w w') : AB w' g x := h.block (hk g _ (by decide) (by decide) ⟨_, h⟩)
theorem AB.cells {w : World} {g : Nat} {x : A14} (h : AB w g x) : w.cell? ⟨g, 0, none⟩ = some (.int .i64 x.kind) ∧ w.cell? ⟨g, 1, none⟩ = some (.int .i64 x.id) ∧ w.cell? ⟨g, 2, none⟩ = some (.int .i64 x.cost) := by
  unfold AB at h
  refine ⟨?_, ?_, ?_⟩ <;> simp only [World.cell?, h] <;> rfl
theorem amade (w2 : World) (x : A14) : ∃ W3 W4, w2.alloc (.cells #[.int .i64 0, .int .i64 0, .int .i64 0] 28) = W3 ∧ W3.setRow w2.heap.size (acs x) = W4 ∧ AB W3 w2.heap.size a014 ∧ AB W4 w2.heap.size x ∧ Below w2.heap.size w2 W4 :=
  ⟨_, _, rfl, rfl, (MapKept.heap_alloc w2 _).1, setRow_heap _ _ _ _ _ _ (MapKept.heap_alloc w2 _).1, below_row ((Below.refl _ _).alloc (Nat.le_refl _) _) (Nat.le_refl _) _⟩
theorem IC.keep {w w' : World} {p : Option Addr} {l : List It} (h : IC w p l) (hk : Keep w w') : IC w' p l := h.blocks fun g hg => hk g _ (by decide) (by decide) hg
theorem IR.keep {w w' : World} {p : Option Addr} {n cap : Nat} {l : List It} (h : IR w p n cap l) (hk : Keep w w') : IR w' p n cap l := ⟨h.hl, h.hc, h.h0, h.ic.keep hk⟩
theorem IB.keep {w w' : World} {g : Nat} {x : It} (h : IB w g x) (hk : Keep w w') : IB w' g x := h.block (hk g _ (by decide) (by decide) ⟨_, h⟩)
/-! ### acts that come in -/
def AC14 (w : World) (p : Option Addr) (l : List A14) : Prop := ∀ i, i < l.length → ∃ g off, p = some ⟨g, off, none⟩ ∧ g < w.heap.size ∧ w.cell? ⟨g, off + i * 3, none⟩ = some (.int .i64 (l.getD i a014).kind) ∧ w.cell? ⟨g, off + i * 3 + 1, none⟩ = some (.int .i64 (l.getD i a014).id) ∧ w.cell? ⟨g, off + i * 3 + 2, none⟩ = some (.int .i64 (l.getD i a014).cost)
theorem AC14.below {w w' : World} {p : Option Addr} {l : List A14} {B : Nat} (h : AC14 w p l) (hb : Below B w w') (hB : w.heap.size ≤ B) : AC14 w' p l := fun i hi => by
  obtain ⟨g, off, h1, h2, h3, h4, h5⟩ := h i hi
  have e : w'.heap[g]? = w.heap[g]? := hb.block g (Nat.lt_of_lt_of_le h2 hB)
  exact ⟨g, off, h1, Nat.lt_of_lt_of_le h2 hb.size, by rw [World.cell?_of_block e]; exact h3, by rw [World.cell?_of_block e]; exact h4, by rw [World.cell?_of_block e]; exact h5⟩
theorem choose_lt14 {α : Type} [Inhabited α] {n : Nat} {p : Nat → α → Prop} (h : ∀ i, i < n → ∃ x, p i x) : ∃ f : Nat → α, ∀ i, i < n → p i (f i) :=
  ⟨fun i => if hi : i < n then (h i hi).choose else default, fun i hi => by simp only [dif_pos hi]; exact (h i hi).choose_spec⟩
theorem range_getD14 {α : Type} (f : Nat → α) (n i : Nat) (d : α) (h : i < n) : ((List.range n).map f).getD i d = f i := by
  rw [List.getD_eq_getElem?_getD, List.getElem?_eq_getElem (by simpa using h)]
  simp
theorem getD_mem14 {l : List A14} {i : Nat} {d : A14} (hi : i < l.length) : l.getD i d ∈ l := by
  rw [List.getD_eq_getElem?_getD, List.getElem?_eq_getElem hi]
  exact List.getElem_mem hi
section
open Go.ChangeShapes Go.WideShapes Go.Deep
variable {H : Type} {enc : TypeId × Value → H} {W : World} {base : Nat} {spare : Nat → Bool} {held : Bool}
theorem acts14_open {v : Value} {d : DataW H} {pl : List MemPlace} (h : DataW.Trod enc Try.prog W base spare held 22 v d pl) (hv : ∃ p n cap, v = .slice p n cap) :
    ∃ (p : Option Addr) (n cap : Nat) (l : List A14), v = .slice p n cap ∧ l.length = n ∧ n ≤ maxLen ∧ (∀ x ∈ l, Mi.Wf x.id) ∧ AC14 W p l := by
  obtain ⟨p, n, cap, rfl⟩ := hv
  obtain ⟨fuel, h⟩ := h
  obtain ⟨hn, hi⟩ := open_rows Try.underlying22 Try.underlying28 (by kernel_rfl) (by kernel_rfl) (by decide) h
  have each : ∀ i, i < n → ∃ x : A14, Mi.Wf x.id ∧ ∃ g off, p = some ⟨g, off, none⟩ ∧ g < W.heap.size ∧ W.cell? ⟨g, off + i * 3, none⟩ = some (.int .i64 x.kind) ∧ W.cell? ⟨g, off + i * 3 + 1, none⟩ = some (.int .i64 x.id) ∧ W.cell? ⟨g, off + i * 3 + 2, none⟩ = some (.int .i64 x.cost) := fun i hil => by
    obtain ⟨b, off, hp, hb, k, hf⟩ := hi i hil
    obtain ⟨u0, y0, c0, r0⟩ := hf 0 _ rfl
    obtain ⟨u1, y1, c1, r1⟩ := hf 1 _ rfl
    obtain ⟨u2, y2, c2, r2⟩ := hf 2 _ rfl
    obtain ⟨q0, hq0, _, _⟩ := DataW.trod_int Try.underlying3 r0
    obtain ⟨q1, hq1, _, hwf⟩ := DataW.trod_int Try.underlying3 r1
    obtain ⟨q2, hq2, _, _⟩ := DataW.trod_int Try.underlying3 r2
    simp at hq0 hq1 hq2
    subst hq0 hq1 hq2
    exact ⟨⟨q0, q1, q2⟩, hwf, b, off, hp, hb, c0, c1, c2⟩
  obtain ⟨f, hf⟩ := choose_lt14 each
  refine ⟨p, n, cap, (List.range n).map f, rfl, by simp, hn, ?_, ?_⟩
  · intro x hx
    obtain ⟨i, hi, rfl⟩ := List.mem_map.1 hx
    exact (hf i (List.mem_range.1 hi)).1
  · intro i hi
    have hin : i < n := by simpa using hi
    rw [range_getD14 f n i _ hin]
    exact (hf i hin).2
end
/-- the queue, the page's row (at p, of m), and an act of the call's own (at g) -/
structure FS (w0 : World) (b g : Nat) (x : A14) (L : List It) (p : Option Addr) (m c : Nat) (w : World) : Prop where
  oq : OQ w0 b L w
  ir : IR w p m c L
  ab : AB w g x
section
variable {w0 w w' : World} {b g m c : Nat} {x : A14} {L : List It} {p : Option Addr}
theorem FS.below (h : FS w0 b g x L p m c w) (hb : Below w.heap.size w w') : FS w0 b g x L p m c w' := ⟨h.oq.below hb, h.ir.below hb (Nat.le_refl _), h.ab.below hb⟩
end
/-- .. and an item of the call's own (at g2) -/
structure FX (w0 : World) (b g : Nat) (x : A14) (L : List It) (p : Option Addr) (m c g2 : Nat) (y : It) (w : World) : Prop where
  fs : FS w0 b g x L p m c w
  ib : IB w g2 y
section
variable {w0 w w' : World} {b g m c g2 : Nat} {x : A14} {L : List It} {p : Option Addr} {y : It}
theorem FX.below (h : FX w0 b g x L p m c g2 y w) (hb : Below w.heap.size w w') : FX w0 b g x L p m c g2 y w' := ⟨h.fs.below hb, h.ib.below hb⟩
theorem FX.cells0 (h : FX w0 b g x L p m c g2 y w) : w.cell? ⟨g2, 0, none⟩ = some (.int .i64 y.1) ∧ w.cell? ⟨g2, 1, none⟩ = some (.int .i64 y.2) ∧ w.cell? ⟨g, 1, none⟩ = some (.int .i64 x.id) :=
  ⟨h.ib.cells.1, h.ib.cells.2, h.fs.ab.cells.2.1⟩
theorem FX.cells1 {g9 o9 : Nat} {z : It} {l : List It} (h : FX w0 b g x (z :: l) (some ⟨g9, o9, none⟩) m c g2 y w) : w.cell? ⟨g2, 0, none⟩ = some (.int .i64 y.1) ∧ w.cell? ⟨g2, 1, none⟩ = some (.int .i64 y.2) ∧ w.cell? ⟨g, 1, none⟩ = some (.int .i64 x.id) ∧ w.cell? ⟨g9, o9, none⟩ = some (.int .i64 z.1) ∧ w.cell? ⟨g9, o9 + 1, none⟩ = some (.int .i64 z.2) := by
  obtain ⟨g10, o10, hq10, hk10, f0, f1⟩ := h.fs.ir.ic 0 (by simp)
  injection hq10 with hq10
  injection hq10 with e1 e2
  subst e1 e2
  exact ⟨h.ib.cells.1, h.ib.cells.2, h.fs.ab.cells.2.1, f0, f1⟩
theorem FX.all (h : FX w0 b g x L p m c g2 y w) : Calls Try.prog 16 #[.pointer (some ⟨b, 0, none⟩)] w fun e w' => ∃ p9 c9, e = .returned (.slice p9 m c9) ∧ IR w' p9 m c9 L ∧ FX w0 b g x L p m c g2 y w' := by
  refine h.fs.oq.all.mono ?_
  rintro e w' ⟨p9, n9, c9, he, hl, hc, hown, hb⟩
  have e1 : n9 = m := hl.symm.trans h.fs.ir.hl
  subst e1
  exact ⟨p9, c9, he, hown.read, h.below hb⟩
theorem FX.all0 (h : FX w0 b g x [] p m c g2 y w) : Calls Try.prog 16 #[.pointer (some ⟨b, 0, none⟩)] w fun e w' => e = .returned (.slice (some ⟨w.heap.size, 0, none⟩) 0 0) ∧ FX w0 b g x [] p m c g2 y w' := by
  obtain ⟨D, ns, e, h1, h2, h3, h4⟩ := id h.fs.oq
  have hn : ns = [] := List.eq_nil_of_length_eq_zero (by rw [← its_len, h2]; rfl)
  subst hn
  have h9 := fq_all_empty h1
  rw [e] at h9
  exact h9.mono fun e w' ⟨he, hb⟩ => ⟨he, h.below hb⟩
theorem FX.same (h : FX w0 b g x L p m c g2 y w) (hm : m ≤ 100000) {p9 : Option Addr} {c9 : Nat} (hr : IR w p9 m c9 L) : Calls Try.prog 15 #[.slice p9 m c9, .slice p m c] w fun e w' => e = .returned (.bool true) ∧ FX w0 b g x L p m c g2 y w' :=
  (rf_same p9 p m c9 c L w hm hr h.fs.ir).mono fun e w' ⟨he, hb⟩ => ⟨he, h.below hb⟩
theorem FX.len (h : FX w0 b g x L p m c g2 y w) : Calls Try.prog 17 #[.pointer (some ⟨b, 0, none⟩)] w fun e w' => e = .returned (.int .i64 m) ∧ w' = w := by
  have h9 := h.fs.oq.len
  rw [h.fs.ir.hl] at h9
  exact h9
end
/-- behind an act: the slice v is the page's row -/
def Sw (w0 : World) (b g : Nat) (x : A14) (k : Nat) (v : Value) (wx : World) : Prop := ∃ q m c L, v = .slice q m c ∧ L.length ≤ k ∧ FS w0 b g x L q m c wx
end Fq
end Go.Proofs.Ytcfmbdcklapmhaa
