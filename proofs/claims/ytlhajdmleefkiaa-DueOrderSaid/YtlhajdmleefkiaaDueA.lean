/-
  CONTRACTS OF LAYER 9 (due), part A: timers in memory; number, New, Now, Len, At, Clear, Set, gone.
-/
import Derived.Test.YtlhajdmleefkiaaWheelE
import Derived.Test.YtlhajdmleefkiaaMDue
import Derived.Test.YtlhajdmleefkiaaRegionZ
namespace Go.Proofs.Ytlhajdmleefkiaa
open Go.RowKit Wl Dl
set_option linter.unusedVariables false

theorem Wl.Wh.perm {w : World} {D : Wd} {now : Nat} {L L' : List T} (h : Wheel w D now L) (hp : L.Perm L') : Wheel w D now L' := by
  have e0 : fd L' = fd L := funext fun k => (fd_perm h.keys hp k).symm
  have e1 : pq now L' = pq now L := by funext k; unfold pq; rw [e0]
  have e2 : df L' = df L := by funext k; unfold df; rw [e0]
  unfold Wheel
  rw [e1]
  exact { h with
    due := by rw [e2, ← hp.length_eq]; exact h.due
    pk := fun k i e => ⟨(h.pk k i e).1, (hp.map _).mem_iff.1 (h.pk k i e).2⟩
    keys := Dl.Ks.perm h.keys hp
    wf := fun x hx => h.wf x (hp.mem_iff.2 hx)
    len := by rw [← hp.length_eq]; exact h.len }
namespace Dl
/-- v is a row of these timers, at whatever place of a block of timers -/
def RT (w : World) (v : Value) (r : List T) : Prop := ∃ (p : Option Addr) (n cap : Nat), v = .slice p n cap ∧ r.length = n ∧ n ≤ cap ∧ n ≤ 1000 ∧ cap ≤ maxLen ∧
  (∀ g, v.ownBlock = some g → ∃ cs, w.heap[g]? = some (.cells cs 39)) ∧
  ∀ i, i < n → ∃ g off, p = some ⟨g, off, none⟩ ∧ w.cell? ⟨g, off + i * 3, none⟩ = some (.int .i64 0) ∧ w.cell? ⟨g, off + i * 3 + 1, none⟩ = some (.int .i64 (r.getD i t0).1) ∧ w.cell? ⟨g, off + i * 3 + 2, none⟩ = some (.int .u64 ((r.getD i t0).2 : Nat))
theorem RT.nil (w : World) : RT w (.slice none 0 0) [] := ⟨none, 0, 0, rfl, rfl, Nat.le_refl _, by omega, by unfold maxLen; omega, fun g e => (by cases e), fun i hi => (by omega)⟩
theorem RT.block {w w' : World} {v : Value} {r : List T} (h : RT w v r) (hb : ∀ g, v.ownBlock = some g → w'.heap[g]? = w.heap[g]?) : RT w' v r := by
  obtain ⟨p, n, cap, rfl, h1, h2, h3, h4, h5, h6⟩ := h
  refine ⟨p, n, cap, rfl, h1, h2, h3, h4, fun g e => by rw [hb g e]; exact h5 g e, fun i hi => ?_⟩
  obtain ⟨g, off, rfl, c0, c1, c2⟩ := h6 i hi
  have e := hb g rfl
  exact ⟨g, off, rfl, by rw [World.cell?_of_block e]; exact c0, by rw [World.cell?_of_block e]; exact c1, by rw [World.cell?_of_block e]; exact c2⟩
theorem RT.kind {w : World} {v : Value} {r : List T} (h : RT w v r) {g : Nat} (hg : v.ownBlock = some g) : ∃ cs, w.heap[g]? = some (.cells cs 39) := by
  obtain ⟨p, n, cap, rfl, h1, h2, h3, h4, h5, h6⟩ := h
  exact h5 g hg
theorem RT.of_own {w : World} {B : Nat} {v : Value} {l : List T} (h : OwnT w B v l) (hl : l.length ≤ 1000) : RT w v l := by
  rcases h.2 with ⟨rfl, h0⟩ | ⟨g, cap, cur, rfl, hbg, hgg, hle, hmx, hcs, htk⟩
  · exact ⟨none, 0, 0, rfl, h0, Nat.le_refl _, by omega, by unfold maxLen; omega, fun g e => (by cases e), fun i hi => (by omega)⟩
  · refine ⟨some ⟨g, 0, none⟩, l.length, cap, rfl, rfl, hle, hl, hmx, fun g' e => ?_, fun i hi => ⟨g, 0, rfl, ?_⟩⟩
    · have e2 : g = g' := by simpa [Value.ownBlock] using e
      subst e2
      exact ⟨_, hgg⟩
    · have hcell : ∀ j, j < l.length * 3 → w.cell? ⟨g, j, none⟩ = (tcells l)[j]? := fun j hj => by
        simp only [World.cell?, hgg]
        rw [← htk, List.getElem?_take, if_pos hj, Array.getElem?_toList]
        rfl
      obtain ⟨h1, h2, h3⟩ := tcells_get l i hi
      rw [Nat.zero_add]
      exact ⟨(hcell _ (by omega)).trans h1, (hcell _ (by omega)).trans h2, (hcell _ (by omega)).trans h3⟩
/-- a step of what lies in the blocks of F -/
structure Gs (F : Nat → Prop) (w : World) (F' : Nat → Prop) (w' : World) : Prop where
  own : ∀ x, F' x → F x ∨ w.heap.size ≤ x
  mv : Mv F w w'
theorem Gs.refl (F : Nat → Prop) (w : World) : Gs F w F w := ⟨fun x h => Or.inl h, Mv.refl _ _⟩
theorem Gs.trans {F F' F'' : Nat → Prop} {w w' w'' : World} (h : Gs F w F' w') (k : Gs F' w' F'' w'') : Gs F w F'' w'' where
  own := fun x hx => by
    rcases k.own x hx with h1 | h1
    · exact h.own x h1
    · exact Or.inr (Nat.le_trans h.mv.size h1)
  mv := h.mv.trans k.mv (fun x hx h1 => by
    rcases h.own x h1 with h2 | h2
    · exact h2
    · omega)
theorem Gs.below {F : Nat → Prop} {w w' : World} (h : Below w.heap.size w w') : Gs F w F w' := ⟨fun x h => Or.inl h, Mv.of_below h⟩
/-- where timers lie: their own block, the wheel, the row of what was found due -/
structure Pd where
  bd : Nat
  D : Wd
  v : Value
def Pd.fp (P : Pd) (x : Nat) : Prop := x = P.bd ∨ P.D.fp x ∨ P.v.ownBlock = some x
structure Du (w : World) (P : Pd) (now : Nat) (L : List X) (r : List T) : Prop where
  kind : ∃ cs, w.heap[P.bd]? = some (.cells cs 56)
  c0 : w.cell? ⟨P.bd, 0, none⟩ = some (.pointer (some ⟨P.D.b, 0, none⟩))
  c1 : w.cell? ⟨P.bd, 1, none⟩ = some P.v
  wh : Wheel w P.D now (L.map nu)
  row : RT w P.v r
  ok : Ok L
  ri : Ri (L.map nu) now r
section
variable {w w' : World} {P : Pd} {now now' : Nat} {L L' : List X} {r r' : List T} {D' : Wd} {v' : Value}
theorem RT.off_wheel {v : Value} {M : List T} {D : Wd} (h : RT w v r) (hw : Wheel w D now M) {g : Nat} (hg : v.ownBlock = some g) : ¬ D.fp g := by
  obtain ⟨cs, e⟩ := h.kind hg
  refine hw.off (fun cs' e' => ?_) (fun es c e' => ?_)
  · rw [e] at e'
    injection e' with e'
    injection e' with _ e'
    exact absurd e' (by decide)
  · rw [e] at e'; cases e'
theorem Du.off_bd (h : Du w P now L r) : ¬ P.D.fp P.bd := by
  obtain ⟨cs, e⟩ := h.kind
  refine h.wh.off (fun cs' e' => ?_) (fun es c e' => ?_)
  · rw [e] at e'
    injection e' with e'
    injection e' with _ e'
    exact absurd e' (by decide)
  · rw [e] at e'; cases e'
theorem ne_bd {v : Value} (h : RT w v r) {b : Nat} (hk : ∃ cs, w.heap[b]? = some (.cells cs 56)) {g : Nat} (hg : v.ownBlock = some g) : g ≠ b := by
  intro e2
  obtain ⟨cs, e⟩ := h.kind hg
  obtain ⟨cs', e'⟩ := hk
  rw [e2, e'] at e
  injection e with e
  injection e with _ e
  exact absurd e (by decide)
theorem lt_of_some {o : Obj} {g : Nat} (hg : w.heap[g]? = some o) : g < w.heap.size := (Array.getElem?_eq_some_iff.1 hg).1
theorem Du.lt (h : Du w P now L r) {x : Nat} (hx : P.fp x) : x < w.heap.size := by
  rcases hx with rfl | hx | hx
  · obtain ⟨cs, e⟩ := h.kind
    exact lt_of_some e
  · exact h.wh.lt hx
  · obtain ⟨cs, e⟩ := h.row.kind hx
    exact lt_of_some e
theorem Du.same (h : Du w P now L r) (hb : ∀ x, P.fp x → w'.heap[x]? = w.heap[x]?) : Du w' P now L r where
  kind := by rw [hb _ (Or.inl rfl)]; exact h.kind
  c0 := by rw [World.cell?_of_block (hb _ (Or.inl rfl))]; exact h.c0
  c1 := by rw [World.cell?_of_block (hb _ (Or.inl rfl))]; exact h.c1
  wh := h.wh.same fun x hx => hb x (Or.inr (Or.inl hx))
  row := h.row.block fun g hg => hb g (Or.inr (Or.inr hg))
  ok := h.ok
  ri := h.ri
theorem Du.mv {S : Nat → Prop} (h : Du w P now L r) (hm : Mv S w w') (hs : ∀ x, P.fp x → ¬ S x) : Du w' P now L r := h.same fun x hx => hm.block x (h.lt hx) (hs x hx)
theorem Du.below {B : Nat} (h : Du w P now L r) (hm : Below B w w') (hB : w.heap.size ≤ B) : Du w' P now L r := h.same fun x hx => hm.block x (Nat.lt_of_lt_of_le (h.lt hx) hB)
theorem Du.frozen (h : Du w P now L r) (o : Nat) : w.frozen? ⟨P.bd, o, none⟩ = false := by
  obtain ⟨cs, h1⟩ := h.kind
  simp [World.frozen?, h1]
/-- the wheel has turned -/
theorem Du.wheel (h : Du w P now L r) (hs : Step w P.D w' D') (hw : Wheel w' D' now' (L'.map nu)) (hok : Ok L') (hri : Ri (L'.map nu) now' r) : Du w' ⟨P.bd, D', P.v⟩ now' L' r ∧ Gs P.fp w (Pd.fp ⟨P.bd, D', P.v⟩) w' := by
  have hB : w'.heap[P.bd]? = w.heap[P.bd]? := hs.mv.block _ (h.lt (Or.inl rfl)) h.off_bd
  refine ⟨{
    kind := by rw [hB]; exact h.kind
    c0 := by rw [World.cell?_of_block hB, hs.b]; exact h.c0
    c1 := by rw [World.cell?_of_block hB]; exact h.c1
    wh := hw
    row := h.row.block fun g hg => hs.mv.block g (h.lt (Or.inr (Or.inr hg))) (h.row.off_wheel h.wh hg)
    ok := hok
    ri := hri }, ⟨fun x hx => ?_, ⟨hs.mv.os, hs.mv.tape, hs.mv.output, hs.mv.size, fun k hk hn => hs.mv.block k hk (fun hf => hn (Or.inr (Or.inl hf)))⟩⟩⟩
  rcases hx with hx | hx | hx
  · exact Or.inl (Or.inl hx)
  · rcases hs.own x hx with h1 | h1
    · exact Or.inl (Or.inr (Or.inl h1))
    · exact Or.inr h1
  · exact Or.inl (Or.inr (Or.inr hx))
/-- another row is laid in -/
theorem Du.lay (h : Du w P now L r) (hr : RT w v' r') (hri : Ri (L.map nu) now r') (hg : ∀ x, v'.ownBlock = some x → P.fp x) : Du (w.setCell ⟨P.bd, 1, none⟩ v') ⟨P.bd, P.D, v'⟩ now L r' ∧ Gs P.fp w (Pd.fp ⟨P.bd, P.D, v'⟩) (w.setCell ⟨P.bd, 1, none⟩ v') := by
  refine ⟨{
    kind := kind_setCell _ _ h.kind
    c0 := (cset_other (by omega)).trans h.c0
    c1 := cset_same h.c1
    wh := h.wh.mv (S := fun x => x = P.bd) (Mv.setCell _ _ _ rfl) (fun x hx e => h.off_bd (e ▸ hx))
    row := hr.block fun g e => Below.heap_setCell _ _ _ _ (ne_bd hr h.kind e)
    ok := h.ok
    ri := hri }, ⟨fun x hx => ?_, Mv.setCell _ _ _ (Or.inl rfl)⟩⟩
  rcases hx with hx | hx | hx
  · exact Or.inl (Or.inl hx)
  · exact Or.inl (Or.inr (Or.inl hx))
  · exact Or.inl (hg x hx)
end
theorem numb_wf (k i : Int) : Mi.Wf (numb k i) := by
  have := numb_bounds k i
  unfold Mi.Wf
  simp [Lit.wf, IntKind.min, IntKind.max, IntKind.signed, IntKind.bits]
  omega
theorem wf_bounds {k : Int} (h : -1 ≤ k ∧ k ≤ 5497558138884) : Mi.Wf k := by
  unfold Mi.Wf
  simp [Lit.wf, IntKind.min, IntKind.max, IntKind.signed, IntKind.bits]
  omega
end Dl
theorem number_any (k i : Int) (w : World) : Calls Try.prog 27 #[.int .i64 k, .int .i64 i] w fun e w' => e = .returned (.int .i64 (numb k i)) ∧ w' = w := by
  by_cases h1 : k < 1
  · rw [numb_not (by unfold May; omega)]
    go_enter Try.func27, Try.ntmps27
    go_wp2
    go_ret
    exact ⟨rfl, rfl⟩
  · by_cases h2 : 4 < k
    · rw [numb_not (by unfold May; omega)]
      go_enter Try.func27, Try.ntmps27
      go_wp2
      go_ret
      exact ⟨rfl, rfl⟩
    · by_cases h3 : i < 0
      · rw [numb_not (by unfold May; omega)]
        go_enter Try.func27, Try.ntmps27
        go_wp2
        go_ret
        exact ⟨rfl, rfl⟩
      · by_cases h4 : 1099511627776 < i
        · rw [numb_not (by unfold May; omega)]
          go_enter Try.func27, Try.ntmps27
          go_wp2
          go_ret
          exact ⟨rfl, rfl⟩
        · rw [numb_may (by unfold May; omega)]
          go_enter Try.func27, Try.ntmps27
          go_wp2
          go_ret
          exact ⟨rfl, rfl⟩
end Go.Proofs.Ytlhajdmleefkiaa
