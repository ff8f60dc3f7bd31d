/-
  THE PAGE OF LAYER 9 (due), part G: rows of timers of kinds; May, before, Find, least, Next.
-/
import Derived.Test.YtlhajdmleefkiaaDueB
import Derived.Maps.AppendAt
namespace Go.Proofs.Ytlhajdmleefkiaa
open Go.RowKit Wl Dl Bt
set_option linter.unusedVariables false

namespace Dl
def xcells (l : List X) : List Value := l.flatMap fun x => [.int .i64 x.kind, .int .i64 x.id, .int .u64 x.tick]
theorem xcells_len (l : List X) : (xcells l).length = l.length * 3 := by
  induction l with
  | nil => rfl
  | cons x l ih =>
    show ([_, _, _] ++ xcells l).length = _
    rw [List.length_append, ih]
    simp only [List.length_cons, List.length_nil]
    omega
theorem xcells_app (a b : List X) : xcells (a ++ b) = xcells a ++ xcells b := List.flatMap_append
theorem xcells_get : ∀ (l : List X) (i : Nat), i < l.length → (xcells l)[i * 3]? = some (.int .i64 (l.getD i x0).kind) ∧ (xcells l)[i * 3 + 1]? = some (.int .i64 (l.getD i x0).id) ∧ (xcells l)[i * 3 + 2]? = some (.int .u64 (l.getD i x0).tick)
  | [], i, h => by simp at h
  | x :: l, 0, _ => ⟨rfl, rfl, rfl⟩
  | x :: l, i + 1, h => by
    have ih := xcells_get l i (by simpa using h)
    have e1 : (i + 1) * 3 = i * 3 + 3 := by omega
    rw [e1]
    exact ih
/-- v is a row of these timers, from block B on -/
def OwnX (w : World) (B : Nat) (v : Value) (l : List X) : Prop := w.ownsRow B 39 3 v l.length (xcells l)
theorem OwnX.nil (w : World) (B : Nat) : OwnX w B (.slice none 0 0) [] := World.ownsRow_nil w B _ _
theorem OwnX.block {w w' : World} {B : Nat} {v : Value} {l : List X} (h : OwnX w B v l) (hb : ∀ g, v.ownBlock = some g → w'.heap[g]? = w.heap[g]?) : OwnX w' B v l := by
  refine ⟨h.1, ?_⟩
  rcases h.2 with hn | ⟨g, cap, cur, rfl, h1, h2, rest⟩
  · exact .inl hn
  · exact .inr ⟨g, cap, cur, rfl, h1, by rw [hb g rfl]; exact h2, rest⟩
theorem OwnX.kind {w : World} {B : Nat} {v : Value} {l : List X} (h : OwnX w B v l) {g : Nat} (hg : v.ownBlock = some g) : B ≤ g ∧ g < w.heap.size ∧ ∃ cs, w.heap[g]? = some (.cells cs 39) := by
  have h1 := h.lt g hg
  rcases h.2 with ⟨rfl, _⟩ | ⟨g', cap, cur, rfl, h2, h3, _⟩
  · cases hg
  · have e : g' = g := by
      have := hg
      simp only [Value.ownBlock] at this
      injection this
    subst e
    exact ⟨h1.1, h1.2, _, h3⟩
theorem OwnX.mono {w : World} {B B' : Nat} {v : Value} {l : List X} (h : OwnX w B v l) (hb : B' ≤ B) : OwnX w B' v l := by
  refine ⟨h.1, ?_⟩
  rcases h.2 with hn | ⟨g, cap, cur, rfl, h1, rest⟩
  · exact .inl hn
  · exact .inr ⟨g, cap, cur, rfl, Nat.le_trans hb h1, rest⟩
/-- a slice at p holds these timers -/
def XC (w : World) (p : Option Addr) (l : List X) : Prop := ∀ i, i < l.length → ∃ g, p = some ⟨g, 0, none⟩ ∧ g < w.heap.size ∧ w.cell? ⟨g, i * 3, none⟩ = some (.int .i64 (l.getD i x0).kind) ∧ w.cell? ⟨g, i * 3 + 1, none⟩ = some (.int .i64 (l.getD i x0).id) ∧ w.cell? ⟨g, i * 3 + 2, none⟩ = some (.int .u64 ((l.getD i x0).tick : Nat))
theorem XC.below {w w' : World} {p : Option Addr} {l : List X} {B : Nat} (h : XC w p l) (hb : Below B w w') (hB : w.heap.size ≤ B) : XC w' p l := fun i hi => by
  obtain ⟨g, h1, h2, h3, h4, h5⟩ := h i hi
  have e : w'.heap[g]? = w.heap[g]? := hb.block g (Nat.lt_of_lt_of_le h2 hB)
  exact ⟨g, h1, Nat.lt_of_lt_of_le h2 hb.size, by rw [World.cell?_of_block e]; exact h3, by rw [World.cell?_of_block e]; exact h4, by rw [World.cell?_of_block e]; exact h5⟩
theorem OwnX.view {w : World} {B : Nat} {v : Value} {l : List X} (h : OwnX w B v l) : ∃ p cap, v = .slice p l.length cap ∧ l.length ≤ maxLen ∧ XC w p l := by
  rcases h.2 with ⟨rfl, h0⟩ | ⟨g, cap, cur, rfl, hbg, hgg, hle, hmx, hcs, htk⟩
  · exact ⟨none, 0, by rw [h0], by omega, fun i hi => by omega⟩
  · refine ⟨some ⟨g, 0, none⟩, cap, rfl, by omega, fun i hi => ⟨g, rfl, (Array.getElem?_eq_some_iff.1 hgg).1, ?_⟩⟩
    have hcell : ∀ j, j < l.length * 3 → w.cell? ⟨g, j, none⟩ = (xcells l)[j]? := fun j hj => by
      simp only [World.cell?, hgg]
      rw [← htk, List.getElem?_take, if_pos hj, Array.getElem?_toList]
      rfl
    obtain ⟨h1, h2, h3⟩ := xcells_get l i hi
    exact ⟨(hcell _ (by omega)).trans h1, (hcell _ (by omega)).trans h2, (hcell _ (by omega)).trans h3⟩
end Dl
theorem rmay_any (k i : Int) (w : World) : Calls Try.prog 37 #[.int .i64 k, .int .i64 i] w fun e w' => e = .returned (.bool (decide (May k i))) ∧ w' = w := by
  by_cases h1 : 1 ≤ k
  · by_cases h2 : k ≤ 4
    · by_cases h3 : 0 ≤ i
      · by_cases h4 : i ≤ 1099511627776
        · rw [decide_eq_true (by unfold May; omega)]
          go_enter Try.func37, Try.ntmps37
          go_wp2
          go_ret
          exact ⟨rfl, rfl⟩
        · rw [decide_eq_false (by unfold May; omega)]
          go_enter Try.func37, Try.ntmps37
          go_wp2
          go_ret
          exact ⟨rfl, rfl⟩
      · rw [decide_eq_false (by unfold May; omega)]
        go_enter Try.func37, Try.ntmps37
        go_wp2
        go_ret
        exact ⟨rfl, rfl⟩
    · rw [decide_eq_false (by unfold May; omega)]
      go_enter Try.func37, Try.ntmps37
      go_wp2
      go_ret
      exact ⟨rfl, rfl⟩
  · rw [decide_eq_false (by unfold May; omega)]
    go_enter Try.func37, Try.ntmps37
    go_wp2
    go_ret
    exact ⟨rfl, rfl⟩
theorem before_any (x y : X) (w : World) : Calls Try.prog 40 #[xv x, xv y] w (Below1 w (decide (bef x y))) := by
  obtain ⟨a, b, c⟩ := x
  obtain ⟨a', b', c'⟩ := y
  unfold xv
  simp only
  obtain ⟨z, hz⟩ : ∃ z : Int, (c : Int) = z := ⟨_, rfl⟩
  obtain ⟨z', hz'⟩ : ∃ z : Int, (c' : Int) = z := ⟨_, rfl⟩
  rw [hz, hz']
  have hb : Hid (∀ b, Below w.heap.size w ((w.alloc (.cells #[.int .i64 a, .int .i64 b, .int .u64 z] 39)).alloc (.cells #[.int .i64 a', .int .i64 b', .int .u64 z'] 39))) := Lib.hid (fun b => ((Below.refl _ _).alloc (Nat.le_refl _) _).alloc (by simp) _)
  by_cases h1 : z = z'
  · have hcc : c = c' := by omega
    have hne : (z != z') = false := by simp [h1]
    by_cases h2 : a = a'
    · have hne2 : (a != a') = false := by simp [h2]
      rw [show decide (bef ⟨a, b, c⟩ ⟨a', b', c'⟩) = decide (b < b') by rw [decide_eq_decide]; unfold bef; simp only; omega]
      clear hcc hz hz' h1 h2
      go_enter Try.func40, Try.ntmps40
      go_wp2
      go_ret
      exact ⟨rfl, hb.out _⟩
    · have hne2 : (a != a') = true := by simpa using h2
      rw [show decide (bef ⟨a, b, c⟩ ⟨a', b', c'⟩) = decide (a < a') by rw [decide_eq_decide]; unfold bef; simp only; omega]
      clear hcc hz hz' h1 h2
      go_enter Try.func40, Try.ntmps40
      go_wp2
      go_ret
      exact ⟨rfl, hb.out _⟩
  · have hne : (z != z') = true := by simpa using h1
    rw [show decide (bef ⟨a, b, c⟩ ⟨a', b', c'⟩) = decide (z < z') by rw [decide_eq_decide]; unfold bef; simp only; omega]
    clear hz hz' h1
    go_enter Try.func40, Try.ntmps40
    go_wp2
    go_ret
    exact ⟨rfl, hb.out _⟩
/-- the place of a timer; -1: none -/
def pz : Option Nat → Int
  | none => -1
  | some j => j
theorem ps_drop {L : List X} {j : Nat} (h : j < L.length) (k i : Int) : ps (L.drop j) k i = if (L.getD j x0).kind = k ∧ (L.getD j x0).id = i then some 0 else (ps (L.drop (j + 1)) k i).map (· + 1) := by
  rw [List.drop_eq_getElem_cons h, List.getD_eq_getElem?_getD, List.getElem?_eq_getElem h]
  rfl
theorem omap (o : Option Nat) (j : Nat) : (o.map (· + 1)).map (· + j) = o.map (· + (j + 1)) := by
  cases o with
  | none => rfl
  | some a => simp only [Option.map_some]; congr 1; omega
set_option maxHeartbeats 1000000 in
theorem rfind_any (tick : Int) (p : Option Addr) (n cap : Nat) (L : List X) (k i : Int) (w : World) (hn : L.length = n) (hn2 : n ≤ 1000) (h : XC w p L) :
    Calls Try.prog 10 #[.agg #[.int .u64 tick, .slice p n cap], .int .i64 k, .int .i64 i] w fun e w' => e = .returned (.int .i64 (pz (ps L k i))) ∧ Below w.heap.size w w' := by
  obtain ⟨R, hR⟩ : ∃ R, ps L k i = R := ⟨_, rfl⟩
  have HR : Hid ((ps (L.drop 0) k i).map (· + 0) = R) := Lib.hid (by rw [List.drop_zero, hR]; cases R <;> rfl)
  rw [hR]
  have HN := Lib.hid hn
  obtain ⟨W1, hW1⟩ : ∃ W1, w.alloc (.cells #[.int .u64 tick, .slice p n cap] 30) = W1 := ⟨_, rfl⟩
  have hb1 : Below w.heap.size w W1 := by rw [← hW1]; exact (Below.refl _ _).alloc (Nat.le_refl _) _
  have hc1 : W1.cell? ⟨w.heap.size, 1, none⟩ = some (.slice p n cap) := by
    have e : W1.heap[w.heap.size]? = some (.cells #[.int .u64 tick, .slice p n cap] 30) := by rw [← hW1]; exact (MapKept.heap_alloc _ _).1
    simp only [World.cell?, e]
    rfl
  have HT := Lib.hid (h.below hb1 (Nat.le_refl _))
  have HB := Lib.hid hb1
  clear hR hn h hb1
  go_enter Try.func10, Try.ntmps10
  go_wp2
  go_loopw [7] (fun c wr => ∃ j : Nat, c = .int .i64 j ∧ j ≤ n ∧ Hid ((ps (L.drop j) k i).map (· + j) = R) ∧ W1 = wr) (fun c _ => n - (intOf c).toNat)
  case atStart => exact ⟨0, rfl, Nat.zero_le _, HR, rfl⟩
  case round =>
    obtain ⟨j, rfl, hj, hr, rfl⟩ := hrel
    by_cases hlt : j < n
    · obtain ⟨g, rfl, hg, hx0, hx1, hx2⟩ := HT.out j (by rw [HN.out]; exact hlt)
      have hd := ps_drop (L := L) (j := j) (by rw [HN.out]; exact hlt) k i
      obtain ⟨⟨q1, q2, q3⟩, hq⟩ : ∃ q, L.getD j x0 = q := ⟨_, rfl⟩
      rw [hq] at hx0 hx1 hd
      simp only at hx0 hx1 hd
      have hltz : (j : Int) < (n : Int) := by omega
      have HRR := hr.out
      rw [hd] at HRR
      by_cases e1 : q1 = k
      · by_cases e2 : q2 = i
        · rw [if_pos ⟨e1, e2⟩] at HRR
          have HF : Hid (R = some j) := Lib.hid (by rw [← HRR]; simp)
          have hb1 : (q1 == k) = true := by simpa using e1
          have hb2 : (q2 == i) = true := by simpa using e2
          clear hd hq hr hx2 HRR e1 e2
          go_wp2
          go_ret
          exact ⟨by rw [HF.out]; rfl, HB.out⟩
        · rw [if_neg (fun e => e2 e.2), omap] at HRR
          have HI := Lib.hid HRR
          have hb1 : (q1 == k) = true := by simpa using e1
          have hb2 : (q2 == i) = false := by simpa using e2
          clear hd hq hr hx2 HRR e1 e2
          go_wp2
          go_roundw
          case rel => exact ⟨j + 1, by go_num, hlt, HI, trivial⟩
          case measure => simp [intOf]; omega
      · rw [if_neg (fun e => e1 e.1), omap] at HRR
        have HI := Lib.hid HRR
        have hb1 : (q1 == k) = false := by simpa using e1
        clear hd hq hr hx2 HRR e1
        go_wp2
        go_roundw
        case rel => exact ⟨j + 1, by go_num, hlt, HI, trivial⟩
        case measure => simp [intOf]; omega
    · have e1 : j = n := by omega
      subst e1
      have HF : Hid (R = none) := Lib.hid (by rw [← hr.out, List.drop_of_length_le (by rw [HN.out]; exact Nat.le_refl _)]; rfl)
      clear hr
      go_wp2
      go_ret
      exact ⟨by rw [HF.out]; rfl, HB.out⟩
/-- z is the place of the first of the first j -/
def Fj (L : List X) (j : Nat) (z : Int) : Prop := (j = 0 ∧ z = -1) ∨ ∃ k : Nat, z = k ∧ k < j ∧ ∀ x ∈ L.take j, ¬ bef x (L.getD k x0)
theorem take_snocX {l : List X} {i : Nat} (h : i < l.length) : l.take (i + 1) = l.take i ++ [l.getD i x0] := by
  rw [List.take_succ_eq_append_getElem h, List.getD_eq_getElem?_getD, List.getElem?_eq_getElem h]
  rfl
theorem fj_zero {L : List X} (h : 0 < L.length) : Fj L 1 0 := Or.inr ⟨0, rfl, by omega, fun x hx => by
  rw [take_snocX h] at hx
  simp only [List.take_zero, List.nil_append, List.mem_singleton] at hx
  rw [hx]
  exact bef_irrefl _⟩
theorem fj_step {L : List X} {j k : Nat} (hk : k < j) (h : ∀ x ∈ L.take j, ¬ bef x (L.getD k x0)) (hj : j < L.length) : (bef (L.getD j x0) (L.getD k x0) → Fj L (j + 1) j) ∧ (¬ bef (L.getD j x0) (L.getD k x0) → Fj L (j + 1) k) := by
  constructor
  · intro hl
    refine Or.inr ⟨j, rfl, Nat.lt_succ_self _, fun x hx hlt => ?_⟩
    rw [take_snocX hj] at hx
    rcases List.mem_append.1 hx with hx | hx
    · exact h x hx (bef_trans hlt hl)
    · rw [List.mem_singleton] at hx
      rw [hx] at hlt
      exact bef_irrefl _ hlt
  · intro hl
    refine Or.inr ⟨k, rfl, Nat.lt_succ_of_lt hk, fun x hx hlt => ?_⟩
    rw [take_snocX hj] at hx
    rcases List.mem_append.1 hx with hx | hx
    · exact h x hx hlt
    · rw [List.mem_singleton] at hx
      rw [hx] at hlt
      exact hl hlt
def LeastZ (w : World) (L : List X) (e : Ending) (w' : World) : Prop := ∃ z : Int, e = .returned (.int .i64 z) ∧ ((L = [] ∧ z = -1) ∨ ∃ k : Nat, z = k ∧ Fx L k) ∧ Below w.heap.size w w'
set_option maxHeartbeats 2000000 in
theorem rleast_any (tick : Int) (p : Option Addr) (n cap : Nat) (L : List X) (w : World) (hn : L.length = n) (hn2 : n ≤ 1000) (h : XC w p L) :
    Calls Try.prog 30 #[.agg #[.int .u64 tick, .slice p n cap]] w (LeastZ w L) := by
  have HN := Lib.hid hn
  obtain ⟨W1, hW1⟩ : ∃ W1, w.alloc (.cells #[.int .u64 tick, .slice p n cap] 30) = W1 := ⟨_, rfl⟩
  have hb1 : Below w.heap.size w W1 := by rw [← hW1]; exact (Below.refl _ _).alloc (Nat.le_refl _) _
  have hlt1 : w.heap.size < W1.heap.size := by rw [← hW1]; simp
  have hc1 : W1.cell? ⟨w.heap.size, 1, none⟩ = some (.slice p n cap) := by
    have e : W1.heap[w.heap.size]? = some (.cells #[.int .u64 tick, .slice p n cap] 30) := by rw [← hW1]; exact (MapKept.heap_alloc _ _).1
    simp only [World.cell?, e]
    rfl
  have HC1 := Lib.hid hc1
  have HT := Lib.hid (h.below hb1 (Nat.le_refl _))
  have HB := Lib.hid hb1
  have HLT := Lib.hid hlt1
  clear hn h hb1 hlt1
  go_enter Try.func30, Try.ntmps30
  go_wp2
  go_loopw [3, 4] (fun v i wr => ∃ (j : Nat) (z : Int), i = .int .i64 j ∧ v = .int .i64 z ∧ j ≤ n ∧ Hid (Fj L j z) ∧ Hid (Below W1.heap.size W1 wr)) (fun _ i _ => n - (intOf i).toNat)
  case atStart => exact ⟨0, -1, rfl, rfl, Nat.zero_le _, Lib.hid (Or.inl ⟨rfl, rfl⟩), Lib.hid (Below.refl _ _)⟩
  case round =>
    obtain ⟨j, z, rfl, rfl, hj, hr, hbw⟩ := hrel
    have hcw := (hbw.out.cell (p := ⟨w.heap.size, 1, none⟩) HLT.out).trans HC1.out
    by_cases hlt : j < n
    · have hltz : (j : Int) < (n : Int) := by omega
      obtain ⟨g, rfl, hg, _⟩ := HT.out j (by rw [HN.out]; exact hlt)
      have HCJ : Hid (∀ i, i < n → ∀ w', Below W1.heap.size W1 w' → w'.cell? ⟨w.heap.size, 1, none⟩ = some (.slice (some ⟨g, 0, none⟩) n cap) ∧ w'.cell? ⟨g, i * 3, none⟩ = some (.int .i64 (L.getD i x0).kind) ∧ w'.cell? ⟨g, i * 3 + 1, none⟩ = some (.int .i64 (L.getD i x0).id) ∧ w'.cell? ⟨g, i * 3 + 2, none⟩ = some (.int .u64 ((L.getD i x0).tick : Nat))) := Lib.hid (fun i hi w' hb => by
        obtain ⟨g', e, _, h0, h1, h2⟩ := (HT.out.below hb (Nat.le_refl _)) i (by rw [HN.out]; exact hi)
        injection e with e
        injection e with e
        subst e
        exact ⟨(hb.cell (p := ⟨w.heap.size, 1, none⟩) HLT.out).trans HC1.out, h0, h1, h2⟩)
      rcases hr.out with ⟨hj0, hz⟩ | ⟨k, hz, hkj, hall⟩
      · subst hz
        have HI : Hid (Fj L (j + 1) j) := Lib.hid (by subst hj0; exact fj_zero (by rw [HN.out]; exact hlt))
        clear hr hc1
        go_wp2_with fail
        refine wp_region_text (S := (fun w' => w' = wr.drew)) (by kernel_rfl) ?_ ?_
        · rfl
        repeat (first
          | (refine anyR_value (v := ?_) (by kernel_rfl) (by rfl) (fun _ _ _ h => h) (fun w1 hS => ?_) ?_
             rotate_left
             · subst hS
               go_simp
               with_reducible rfl
             simp only [Act.put, List.setIfInBounds_toArray, List.set_cons_zero, List.set_cons_succ])
          | (refine anyR_not (by kernel_rfl) (by rfl) (fun _ _ _ h => h) ?_
             simp only [Act.put, List.setIfInBounds_toArray, List.set_cons_zero, List.set_cons_succ])
          | (refine anyR_call (v := ?_) (f := ?_) (args := ?_) (by kernel_rfl) (by rfl) (fun _ _ _ h => h) (fun w1 hS => ?_) (fun w1 hS => ?_) ?_
             rotate_left 3
             · go_simp
               (try constructor) <;> with_reducible rfl
             · first
                 | (fail)
             simp only [Act.put, List.setIfInBounds_toArray, List.set_cons_zero, List.set_cons_succ])
          | refine anyR_done (by kernel_rfl) (fun w1 hS => ?_))
        go_wp2_with fail
        subst hS
        go_wp2
        go_roundw
        case rel => exact ⟨j + 1, j, by go_num, by go_num, hlt, HI, Lib.hid hbw.out.drew⟩
        case measure => simp [intOf]; omega
      · subst hz
        obtain ⟨hs1, hs2⟩ := fj_step hkj hall (by rw [HN.out]; exact hlt)
        have hkz : (k : Int) < (n : Int) := by omega
        have hkn : k < n := by omega
        have hk0 : ¬ ((k : Int) < 0) := by omega
        have hdk : decide ((k : Int) < 0) = false := by rw [decide_eq_false_iff_not]; exact hk0
        have HBF := Lib.hid (before_any (L.getD j x0) (L.getD k x0))
        obtain ⟨⟨a, b, c⟩, hq⟩ : ∃ q, L.getD j x0 = q := ⟨_, rfl⟩
        obtain ⟨⟨a', b', c'⟩, hq'⟩ : ∃ q, L.getD k x0 = q := ⟨_, rfl⟩
        rw [hq, hq'] at HBF hs1 hs2
        obtain ⟨zc, hzc⟩ : ∃ z : Int, (c : Int) = z := ⟨_, rfl⟩
        obtain ⟨zc', hzc'⟩ : ∃ z : Int, (c' : Int) = z := ⟨_, rfl⟩
        have HCJ2 : Hid (∀ w', Below W1.heap.size W1 w' → w'.cell? ⟨w.heap.size, 1, none⟩ = some (.slice (some ⟨g, 0, none⟩) n cap) ∧ w'.cell? ⟨g, j * 3, none⟩ = some (.int .i64 a) ∧ w'.cell? ⟨g, j * 3 + 1, none⟩ = some (.int .i64 b) ∧ w'.cell? ⟨g, j * 3 + 2, none⟩ = some (.int .u64 zc) ∧ w'.cell? ⟨g, k * 3, none⟩ = some (.int .i64 a') ∧ w'.cell? ⟨g, k * 3 + 1, none⟩ = some (.int .i64 b') ∧ w'.cell? ⟨g, k * 3 + 2, none⟩ = some (.int .u64 zc')) := Lib.hid (fun w' hb => by
          obtain ⟨q0, q1, q2, q3⟩ := HCJ.out j hlt w' hb
          obtain ⟨_, q4, q5, q6⟩ := HCJ.out k hkn w' hb
          rw [hq] at q1 q2 q3
          rw [hq'] at q4 q5 q6
          simp only at q1 q2 q3 q4 q5 q6
          rw [hzc] at q3
          rw [hzc'] at q6
          exact ⟨q0, q1, q2, q3, q4, q5, q6⟩)
        unfold xv at HBF
        simp only at HBF
        rw [hzc, hzc'] at HBF
        by_cases hbf : bef ⟨a, b, c⟩ ⟨a', b', c'⟩
        · have HI := Lib.hid (hs1 hbf)
          rw [decide_eq_true hbf] at HBF
          clear hs1 hs2 hq hq' hzc hzc' hr hc1 hall hkj HCJ hbf
          go_wp2_with fail
          refine wp_region_text (S := (fun w' => Below W1.heap.size W1 w')) (by kernel_rfl) ?_ ?_
          · exact hbw.out.drew
          repeat (first
            | (refine anyR_value (v := ?_) (by kernel_rfl) (by rfl) (fun _ _ _ h => h) (fun w1 hS => ?_) ?_
               rotate_left
               · obtain ⟨q0, q1, q2, q3, q4, q5, q6⟩ := HCJ2.out _ hS
                 go_simp
                 with_reducible rfl
               simp only [Act.put, List.setIfInBounds_toArray, List.set_cons_zero, List.set_cons_succ])
            | (refine anyR_not (by kernel_rfl) (by rfl) (fun _ _ _ h => h) ?_
               simp only [Act.put, List.setIfInBounds_toArray, List.set_cons_zero, List.set_cons_succ])
            | (refine anyR_call (v := ?_) (f := ?_) (args := ?_) (by kernel_rfl) (by rfl) (fun _ _ _ h => h) (fun w1 hS => ?_) (fun w1 hS => ?_) ?_
               rotate_left 3
               · go_simp
                 (try constructor) <;> with_reducible rfl
               · first
                   | ((with_reducible refine ((HBF.out w1).mono ?_)); rintro e w' ⟨rfl, hb⟩; refine ⟨?_, hS.trans (hb.mono hS.size)⟩; with_reducible rfl)
               simp only [Act.put, List.setIfInBounds_toArray, List.set_cons_zero, List.set_cons_succ])
            | refine anyR_done (by kernel_rfl) (fun w1 hS => ?_))
          have HBW := Lib.hid hS
          clear hS
          go_wp2
          go_roundw
          case rel => exact ⟨j + 1, j, by go_num, by go_num, hlt, HI, HBW⟩
          case measure => simp [intOf]; omega
        · have HI := Lib.hid (hs2 hbf)
          rw [decide_eq_false hbf] at HBF
          clear hs1 hs2 hq hq' hzc hzc' hr hc1 hall hkj HCJ hbf
          go_wp2_with fail
          refine wp_region_text (S := (fun w' => Below W1.heap.size W1 w')) (by kernel_rfl) ?_ ?_
          · exact hbw.out.drew
          repeat (first
            | (refine anyR_value (v := ?_) (by kernel_rfl) (by rfl) (fun _ _ _ h => h) (fun w1 hS => ?_) ?_
               rotate_left
               · obtain ⟨q0, q1, q2, q3, q4, q5, q6⟩ := HCJ2.out _ hS
                 go_simp
                 with_reducible rfl
               simp only [Act.put, List.setIfInBounds_toArray, List.set_cons_zero, List.set_cons_succ])
            | (refine anyR_not (by kernel_rfl) (by rfl) (fun _ _ _ h => h) ?_
               simp only [Act.put, List.setIfInBounds_toArray, List.set_cons_zero, List.set_cons_succ])
            | (refine anyR_call (v := ?_) (f := ?_) (args := ?_) (by kernel_rfl) (by rfl) (fun _ _ _ h => h) (fun w1 hS => ?_) (fun w1 hS => ?_) ?_
               rotate_left 3
               · go_simp
                 (try constructor) <;> with_reducible rfl
               · first
                   | ((with_reducible refine ((HBF.out w1).mono ?_)); rintro e w' ⟨rfl, hb⟩; refine ⟨?_, hS.trans (hb.mono hS.size)⟩; with_reducible rfl)
               simp only [Act.put, List.setIfInBounds_toArray, List.set_cons_zero, List.set_cons_succ])
            | refine anyR_done (by kernel_rfl) (fun w1 hS => ?_))
          have HBW := Lib.hid hS
          clear hS
          go_wp2
          go_roundw
          case rel => exact ⟨j + 1, k, by go_num, by go_num, hlt, HI, HBW⟩
          case measure => simp [intOf]; omega
    · have e1 : j = n := by omega
      subst e1
      have HF : Hid ((L = [] ∧ z = -1) ∨ ∃ k : Nat, z = k ∧ Fx L k) := Lib.hid (by
        rcases hr.out with ⟨h1, h2⟩ | ⟨k, h1, h2, h3⟩
        · exact Or.inl ⟨List.eq_nil_of_length_eq_zero (HN.out.trans h1), h2⟩
        · rw [List.take_of_length_le (by rw [HN.out]; exact Nat.le_refl _)] at h3
          exact Or.inr ⟨k, h1, by rw [HN.out]; exact h2, h3⟩)
      have HBF : Hid (Below w.heap.size w wr) := Lib.hid (HB.out.trans (hbw.out.mono HB.out.size))
      clear hr hbw
      go_wp2
      go_ret
      exact ⟨z, rfl, HF.out, HBF.out⟩
end Go.Proofs.Ytlhajdmleefkiaa
