/-
  THE PAGE OF LAYER 12 (lru), part H: rows of things; Find, Peek, Keys, Drop.
-/
import Derived.Test.YthombaalaeefcaaLruG
import Derived.Maps.AppendAt
import Derived.Lib.SlicesS
namespace Go.Proofs.Ythombaalaeefcaa
open Go.RowKit Lr Ft Bt
set_option linter.unusedVariables false
namespace Lr
def kcells (l : List KV) : List Value := l.flatMap fun x => [.string x.1, .int .i64 x.2]
theorem kcells_len (l : List KV) : (kcells l).length = l.length * 2 := by
  induction l with
  | nil => rfl
  | cons x l ih =>
    show ([_, _] ++ kcells l).length = _
    rw [List.length_append, ih]
    simp only [List.length_cons, List.length_nil]
    omega
theorem kcells_app (a b : List KV) : kcells (a ++ b) = kcells a ++ kcells b := List.flatMap_append
theorem kcells_get : ∀ (l : List KV) (i : Nat), i < l.length → (kcells l)[i * 2]? = some (.string (l.getD i kv0).1) ∧ (kcells l)[i * 2 + 1]? = some (.int .i64 (l.getD i kv0).2)
  | [], i, h => by simp at h
  | x :: l, 0, _ => ⟨rfl, rfl⟩
  | x :: l, i + 1, h => by
    have ih := kcells_get l i (by simpa using h)
    have e1 : (i + 1) * 2 = i * 2 + 2 := by omega
    rw [e1]
    exact ih
/-- v is a row of these things, from block B on -/
def OwnK (w : World) (B : Nat) (v : Value) (l : List KV) : Prop := w.ownsRow B 55 2 v l.length (kcells l)
theorem OwnK.nil (w : World) (B : Nat) : OwnK w B (.slice none 0 0) [] := World.ownsRow_nil w B _ _
theorem OwnK.block {w w' : World} {B : Nat} {v : Value} {l : List KV} (h : OwnK w B v l) (hb : ∀ g, v.ownBlock = some g → w'.heap[g]? = w.heap[g]?) : OwnK w' B v l := by
  refine ⟨h.1, ?_⟩
  rcases h.2 with hn | ⟨g, cap, cur, rfl, h1, h2, rest⟩
  · exact .inl hn
  · exact .inr ⟨g, cap, cur, rfl, h1, by rw [hb g rfl]; exact h2, rest⟩
theorem OwnK.kind {w : World} {B : Nat} {v : Value} {l : List KV} (h : OwnK w B v l) {g : Nat} (hg : v.ownBlock = some g) : B ≤ g ∧ g < w.heap.size ∧ Kd w g 55 := by
  have h1 := h.lt g hg
  rcases h.2 with ⟨rfl, _⟩ | ⟨g', cap, cur, rfl, h2, h3, _⟩
  · cases hg
  · have e : g' = g := by
      have := hg
      simp only [Value.ownBlock] at this
      injection this
    subst e
    exact ⟨h1.1, h1.2, _, h3⟩
theorem OwnK.mono {w : World} {B B' : Nat} {v : Value} {l : List KV} (h : OwnK w B v l) (hb : B' ≤ B) : OwnK w B' v l := by
  refine ⟨h.1, ?_⟩
  rcases h.2 with hn | ⟨g, cap, cur, rfl, h1, rest⟩
  · exact .inl hn
  · exact .inr ⟨g, cap, cur, rfl, Nat.le_trans hb h1, rest⟩
theorem OwnK.below {w w' : World} {B : Nat} {v : Value} {l : List KV} (h : OwnK w B v l) (hb : Below w.heap.size w w') : OwnK w' B v l := h.block (fun g hg => hb.block g (h.kind hg).2.1)
/-- a slice at p holds these things -/
def KC (w : World) (p : Option Addr) (l : List KV) : Prop := ∀ i, i < l.length → ∃ g, p = some ⟨g, 0, none⟩ ∧ g < w.heap.size ∧ w.cell? ⟨g, i * 2, none⟩ = some (.string (l.getD i kv0).1) ∧ w.cell? ⟨g, i * 2 + 1, none⟩ = some (.int .i64 (l.getD i kv0).2)
theorem KC.below {w w' : World} {p : Option Addr} {l : List KV} {B : Nat} (h : KC w p l) (hb : Below B w w') (hB : w.heap.size ≤ B) : KC w' p l := fun i hi => by
  obtain ⟨g, h1, h2, h3, h4⟩ := h i hi
  have e : w'.heap[g]? = w.heap[g]? := hb.block g (Nat.lt_of_lt_of_le h2 hB)
  exact ⟨g, h1, Nat.lt_of_lt_of_le h2 hb.size, by rw [World.cell?_of_block e]; exact h3, by rw [World.cell?_of_block e]; exact h4⟩
theorem OwnK.view {w : World} {B : Nat} {v : Value} {l : List KV} (h : OwnK w B v l) : ∃ p cap, v = .slice p l.length cap ∧ l.length ≤ maxLen ∧ KC w p l := by
  rcases h.2 with ⟨rfl, h0⟩ | ⟨g, cap, cur, rfl, hbg, hgg, hle, hmx, hcs, htk⟩
  · exact ⟨none, 0, by rw [h0], by omega, fun i hi => by omega⟩
  · refine ⟨some ⟨g, 0, none⟩, cap, rfl, by omega, fun i hi => ⟨g, rfl, (Array.getElem?_eq_some_iff.1 hgg).1, ?_⟩⟩
    have hcell : ∀ j, j < l.length * 2 → w.cell? ⟨g, j, none⟩ = (kcells l)[j]? := fun j hj => by
      simp only [World.cell?, hgg]
      rw [← htk, List.getElem?_take, if_pos hj, Array.getElem?_toList]
      rfl
    obtain ⟨h1, h2⟩ := kcells_get l i hi
    exact ⟨(hcell _ (by omega)).trans h1, (hcell _ (by omega)).trans h2⟩
/-- the place of a key; -1: none -/
def pz : Option Nat → Int
  | none => -1
  | some j => j
theorem omap (o : Option Nat) (j : Nat) : (o.map (· + 1)).map (· + j) = o.map (· + (j + 1)) := by
  cases o with
  | none => rfl
  | some a => simp only [Option.map_some]; congr 1; omega
end Lr
theorem str_beq {a b : ByteArray} (h : a = b) : (a.toList == b.toList) = true := by rw [h]; simp
theorem str_bne {a b : ByteArray} (h : a ≠ b) : (a.toList == b.toList) = false := (Go.Lib.bytes_beq_false_iff _ _).2 h
set_option maxHeartbeats 1000000 in
theorem rfind_any (room : Int) (p : Option Addr) (n cap : Nat) (L : List KV) (k : ByteArray) (w : World) (hn : L.length = n) (hn2 : n ≤ 1000) (h : KC w p L) :
    Calls Try.prog 25 #[.agg #[.int .i64 room, .slice p n cap], .string k] w fun e w' => e = .returned (.int .i64 (pz (ix L k))) ∧ Below w.heap.size w w' := by
  obtain ⟨R, hR⟩ : ∃ R, ix L k = R := ⟨_, rfl⟩
  have HR : Hid ((ix (L.drop 0) k).map (· + 0) = R) := Lib.hid (by rw [List.drop_zero, hR]; cases R <;> rfl)
  rw [hR]
  have HN := Lib.hid hn
  obtain ⟨W1, hW1⟩ : ∃ W1, w.alloc (.cells #[.int .i64 room, .slice p n cap] 29) = W1 := ⟨_, rfl⟩
  have hb1 : Below w.heap.size w W1 := by rw [← hW1]; exact (Below.refl _ _).alloc (Nat.le_refl _) _
  have hc1 : W1.cell? ⟨w.heap.size, 1, none⟩ = some (.slice p n cap) := by
    have e : W1.heap[w.heap.size]? = some (.cells #[.int .i64 room, .slice p n cap] 29) := by rw [← hW1]; exact (MapKept.heap_alloc _ _).1
    simp only [World.cell?, e]
    rfl
  have HT := Lib.hid (h.below hb1 (Nat.le_refl _))
  have HB := Lib.hid hb1
  clear hR hn h hb1
  go_enter Try.func25, Try.ntmps25
  go_wp2
  go_loopw [5] (fun c wr => ∃ j : Nat, c = .int .i64 j ∧ j ≤ n ∧ Hid ((ix (L.drop j) k).map (· + j) = R) ∧ W1 = wr) (fun c _ => n - (intOf c).toNat)
  case atStart => exact ⟨0, rfl, Nat.zero_le _, HR, rfl⟩
  case round =>
    obtain ⟨j, rfl, hj, hr, rfl⟩ := hrel
    by_cases hlt : j < n
    · obtain ⟨g, rfl, hg, hx0, hx1⟩ := HT.out j (by rw [HN.out]; exact hlt)
      have hd := ix_drop (L := L) (j := j) (by rw [HN.out]; exact hlt) k
      obtain ⟨⟨q1, q2⟩, hq⟩ : ∃ q, L.getD j kv0 = q := ⟨_, rfl⟩
      rw [hq] at hx0 hd
      simp only at hx0 hd
      have hltz : (j : Int) < (n : Int) := by omega
      have HRR := hr.out
      rw [hd] at HRR
      by_cases e1 : q1 = k
      · rw [if_pos e1] at HRR
        have HF : Hid (R = some j) := Lib.hid (by rw [← HRR]; simp)
        have hb1 := str_beq e1
        clear hd hq hr hx1 HRR e1
        go_wp2
        go_ret
        exact ⟨by rw [HF.out]; rfl, HB.out⟩
      · rw [if_neg e1, omap] at HRR
        have HI := Lib.hid HRR
        have hb1 := str_bne e1
        clear hd hq hr hx1 HRR e1
        go_wp2
        go_roundw
        case rel => exact ⟨j + 1, by go_num, hlt, HI, trivial⟩
        case measure => simp [intOf]; omega
    · have e1 : j = n := by omega
      subst e1
      have HF : Hid (R = none) := Lib.hid (by rw [← hr.out, List.drop_of_length_le (by rw [HN.out]; exact Nat.le_refl _)]; rfl)
      clear hr
      go_wp2
      go_ret
      exact ⟨by rw [HF.out]; rfl, HB.out⟩
theorem rpeek_any (room : Int) (p : Option Addr) (n cap : Nat) (L : List KV) (k : ByteArray) (w : World) (hn : L.length = n) (hn2 : n ≤ 1000) (h : KC w p L) :
    Calls Try.prog 19 #[.agg #[.int .i64 room, .slice p n cap], .string k] w fun e w' => e = .returned (gv (fd L k)) ∧ Below w.heap.size w w' := by
  obtain ⟨W1, hW1⟩ : ∃ W1, w.alloc (.cells #[.int .i64 room, .slice p n cap] 29) = W1 := ⟨_, rfl⟩
  have hb1 : Below w.heap.size w W1 := by rw [← hW1]; exact (Below.refl _ _).alloc (Nat.le_refl _) _
  have hlt1 : w.heap.size < W1.heap.size := by rw [← hW1]; simp
  have e : W1.heap[w.heap.size]? = some (.cells #[.int .i64 room, .slice p n cap] 29) := by rw [← hW1]; exact (MapKept.heap_alloc _ _).1
  have hc0 : W1.cell? ⟨w.heap.size, 0, none⟩ = some (.int .i64 room) := by simp only [World.cell?, e]; rfl
  have hc1 : W1.cell? ⟨w.heap.size, 1, none⟩ = some (.slice p n cap) := by simp only [World.cell?, e]; rfl
  have h1 := h.below hb1 (Nat.le_refl _)
  have HF := Lib.hid (rfind_any room p n cap L k W1 hn hn2 h1)
  have HN := Lib.hid hn
  have HT := Lib.hid h1
  have HB := Lib.hid hb1
  have HLT := Lib.hid hlt1
  have HC1 := Lib.hid hc1
  have hfx := fd_ix L k
  clear hn h h1 hb1 hlt1 e
  unfold gv
  cases hp : ix L k with
  | none =>
    rw [hp] at HF hfx
    have HFD : Hid (fd L k = none) := Lib.hid hfx
    rw [HFD.out]
    clear hp hfx
    unfold pz at HF
    go_enter Try.func19, Try.ntmps19
    go_wp2_with (go_at_call 25; refine HF.out.mono ?_)
    first | rintro e w2 rfl hb2 | rintro e w2 ⟨rfl, hb2⟩
    have HB2 := Lib.hid (HB.out.trans (hb2.mono HB.out.size))
    clear hb2 hc0 hc1
    go_wp2
    go_ret2
    exact ⟨rfl, HB2.out⟩
  | some j =>
    rw [hp] at HF hfx
    obtain ⟨hj, _⟩ := ix_key hp
    obtain ⟨q, hq⟩ : ∃ q, (L.getD j kv0).2 = q := ⟨_, rfl⟩
    have HFD : Hid (fd L k = some q) := Lib.hid (by rw [hfx, ← hq]; rfl)
    rw [HFD.out]
    have hj0 : ¬ ((j : Int) < 0) := by omega
    have hjn : (j : Int) < (n : Int) := by rw [← HN.out]; omega
    have HJ := Lib.hid hj
    have HQ := Lib.hid hq
    clear hp hfx hj hq
    unfold pz at HF
    go_enter Try.func19, Try.ntmps19
    go_wp2_with (go_at_call 25; refine HF.out.mono ?_)
    first | rintro e w2 rfl hb2 | rintro e w2 ⟨rfl, hb2⟩
    obtain ⟨g, rfl, hg, hx0, hx1⟩ := (HT.out.below hb2 (Nat.le_refl _)) j HJ.out
    rw [HQ.out] at hx1
    have hcw := (hb2.cell (p := ⟨w.heap.size, 1, none⟩) HLT.out).trans HC1.out
    have HB2 := Lib.hid (HB.out.trans (hb2.mono HB.out.size))
    clear hb2 hc0 hc1 hx0
    go_wp2
    go_ret2
    exact ⟨rfl, HB2.out⟩
end Go.Proofs.Ythombaalaeefcaa
