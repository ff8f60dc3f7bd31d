/-
  CONTRACTS OF LAYER 8 (wheel), part E: rows of timers; empty.
-/
import Derived.Test.YtlhajdmleefkiaaWheelD
import Derived.Deep.Upon
namespace Go.Proofs.Ytlhajdmleefkiaa
open Go.RowKit Wl
set_option linter.unusedVariables false

def tcells (l : List T) : List Value := l.flatMap fun x => [.int .i64 0, .int .i64 x.1, .int .u64 x.2]
theorem tcells_len (l : List T) : (tcells l).length = l.length * 3 := by
  induction l with
  | nil => rfl
  | cons x l ih =>
    show ([_, _, _] ++ tcells l).length = _
    rw [List.length_append, ih]
    simp only [List.length_cons, List.length_nil]
    omega
theorem tcells_app (a b : List T) : tcells (a ++ b) = tcells a ++ tcells b := List.flatMap_append
def t0 : T := (0, 0)
theorem tcells_get : ∀ (l : List T) (i : Nat), i < l.length → (tcells l)[i * 3]? = some (.int .i64 0) ∧ (tcells l)[i * 3 + 1]? = some (.int .i64 (l.getD i t0).1) ∧ (tcells l)[i * 3 + 2]? = some (.int .u64 (l.getD i t0).2)
  | [], i, h => by simp at h
  | x :: l, 0, _ => ⟨rfl, rfl, rfl⟩
  | x :: l, i + 1, h => by
    have ih := tcells_get l i (by simpa using h)
    have e1 : (i + 1) * 3 = i * 3 + 3 := by omega
    rw [e1]
    exact ih
/-- v is a row of these timers, from block B on -/
def OwnT (w : World) (B : Nat) (v : Value) (l : List T) : Prop := w.ownsRow B 39 3 v l.length (tcells l)
theorem OwnT.nil (w : World) (B : Nat) : OwnT w B (.slice none 0 0) [] := World.ownsRow_nil w B _ _
theorem OwnT.block {w w' : World} {B : Nat} {v : Value} {l : List T} (h : OwnT w B v l) (hb : ∀ g, v.ownBlock = some g → w'.heap[g]? = w.heap[g]?) : OwnT w' B v l := by
  refine ⟨h.1, ?_⟩
  rcases h.2 with hn | ⟨g, cap, cur, rfl, h1, h2, rest⟩
  · exact .inl hn
  · exact .inr ⟨g, cap, cur, rfl, h1, by rw [hb g rfl]; exact h2, rest⟩
theorem OwnT.kind {w : World} {B : Nat} {v : Value} {l : List T} (h : OwnT w B v l) {g : Nat} (hg : v.ownBlock = some g) : B ≤ g ∧ g < w.heap.size ∧ ∃ cs, w.heap[g]? = some (.cells cs 39) := by
  have h1 := h.lt g hg
  rcases h.2 with ⟨rfl, _⟩ | ⟨g', cap, cur, rfl, h2, h3, _⟩
  · cases hg
  · have e : g' = g := by
      have := hg
      simp only [Value.ownBlock] at this
      injection this
    subst e
    exact ⟨h1.1, h1.2, _, h3⟩
theorem OwnT.mono {w : World} {B B' : Nat} {v : Value} {l : List T} (h : OwnT w B v l) (hb : B' ≤ B) : OwnT w B' v l := by
  refine ⟨h.1, ?_⟩
  rcases h.2 with hn | ⟨g, cap, cur, rfl, h1, rest⟩
  · exact .inl hn
  · exact .inr ⟨g, cap, cur, rfl, Nat.le_trans hb h1, rest⟩
theorem Wl.Wh.off {w : World} {D : Wd} {now : Nat} {L : List T} {p : Int → Option Nat} (h : Wh w D now L p) {x : Nat} (h1 : ∀ cs, w.heap[x]? ≠ some (.cells cs 68)) (h2 : ∀ es c, w.heap[x]? ≠ some (.map es c)) : ¬ D.fp x := by
  intro hx
  rcases hx with rfl | rfl | ⟨i, hi, hr⟩
  · obtain ⟨cs, e⟩ := h.kind
    exact h1 cs e
  · obtain ⟨es, c, e⟩ := h.due.kind
    exact h2 es c e
  · obtain ⟨N, hm⟩ := h.rows i hi x hr
    obtain ⟨es, c, e⟩ := hm.kind
    exact h2 es c e
theorem Wl.Wh.offT {w : World} {D : Wd} {now B : Nat} {L l : List T} {p : Int → Option Nat} {v : Value} (h : Wh w D now L p) (ho : OwnT w B v l) {g : Nat} (hg : v.ownBlock = some g) : ¬ D.fp g := by
  obtain ⟨_, _, cs, e⟩ := ho.kind hg
  refine h.off (fun cs' e' => ?_) (fun es c e' => ?_)
  · rw [e] at e'
    injection e' with e'
    injection e' with _ e'
    exact absurd e' (by decide)
  · rw [e] at e'; cases e'
theorem Wl.Wh.offI {w : World} {D : Wd} {now b r cnt N : Nat} {L : List T} {p : Int → Option Nat} {f : Int → Option Value} {lf : Int → Bool} (h : Wh w D now L p) (hr : Mi.Rg Try.prog 3 w b r f N lf cnt) : ¬ D.fp r := by
  obtain ⟨_, _, _, _, _, e⟩ := hr.kind
  exact h.off (fun cs' e' => by rw [e] at e'; cases e') (fun es c e' => by rw [e] at e'; cases e')
def hit (p : Int → Option Nat) (i to : Nat) (x : T) : Bool := decide (p x.1 = some i) && decide (x.2 ≤ to)
def kp (L : List T) (p : Int → Option Nat) (i to : Nat) (lf : Int → Bool) : List T := L.filter fun x => !(hit p i to x && !lf x.1)
def pl (now : Nat) (L : List T) (p : Int → Option Nat) (i to : Nat) (lf : Int → Bool) (k : Int) : Option Nat := if p k = some i then (if lf k = true then none else (fd L k).bind fun a => if a ≤ to then none else some (q now a)) else p k
theorem kp_all {L : List T} {p : Int → Option Nat} {i to : Nat} {lf : Int → Bool} (h : ∀ x ∈ L, p x.1 = some i → lf x.1 = true) : kp L p i to lf = L := by
  unfold kp
  rw [List.filter_eq_self]
  intro x hx
  unfold hit
  by_cases e : p x.1 = some i
  · rw [h x hx e]; simp
  · simp [e]
theorem kp_hit {L : List T} {p : Int → Option Nat} {i to : Nat} {lf : Int → Bool} {k : Int} {a : Nat} (hL : Ks L) (hm : (k, a) ∈ L) (hp : p k = some i) (ha : a ≤ to) : drp (kp L p i to lf) k = kp L p i to (fun z => lf z && z != k) := by
  unfold drp kp
  rw [List.filter_filter]
  refine List.filter_congr (fun x hx => ?_)
  obtain ⟨k2, a2⟩ := x
  by_cases e : k2 = k
  · subst e
    have e2 := hL.one hx hm
    subst e2
    unfold hit
    simp [hp, ha]
  · have e2 : (k2 != k) = true := by simpa using e
    simp only [e2, Bool.and_true, Bool.true_and]
theorem kp_miss {L : List T} {p : Int → Option Nat} {i to : Nat} {lf : Int → Bool} {k : Int} {a : Nat} (hL : Ks L) (hm : (k, a) ∈ L) (ha : ¬ a ≤ to) : kp L p i to lf = kp L p i to (fun z => lf z && z != k) := by
  unfold kp
  refine List.filter_congr (fun x hx => ?_)
  obtain ⟨k2, a2⟩ := x
  by_cases e : k2 = k
  · subst e
    have e2 := hL.one hx hm
    subst e2
    unfold hit
    simp [ha]
  · have e2 : (k2 != k) = true := by simpa using e
    simp only [e2, Bool.and_true]
theorem kp_fd {L : List T} {p : Int → Option Nat} {i to : Nat} {lf : Int → Bool} {k : Int} {a : Nat} (hL : Ks L) (hm : (k, a) ∈ L) (hl : lf k = true) : fd (kp L p i to lf) k = some a := by
  refine fd_of (hL.filter _) (List.mem_filter.2 ⟨hm, ?_⟩)
  simp [hl]
theorem pl_hit {now : Nat} {L : List T} {p : Int → Option Nat} {i to : Nat} {lf : Int → Bool} {k : Int} {a : Nat} (hL : Ks L) (hm : (k, a) ∈ L) (hp : p k = some i) (ha : a ≤ to) (hl : lf k = true) : pl now L p i to lf = pl now L p i to (fun z => lf z && z != k) := by
  funext x
  unfold pl
  by_cases e : x = k
  · subst e
    rw [if_pos hp, if_pos hp, if_pos hl, fd_of hL hm]
    simp [ha]
  · have e2 : (x != k) = true := by simpa using e
    simp only [e2, Bool.and_true]
theorem pl_miss {now : Nat} {L : List T} {p : Int → Option Nat} {i to : Nat} {lf : Int → Bool} {k : Int} {a : Nat} (hL : Ks L) (hm : (k, a) ∈ L) (hp : p k = some i) (ha : ¬ a ≤ to) (hl : lf k = true) : put (pl now L p i to lf) k (some (q now a)) = pl now L p i to (fun z => lf z && z != k) := by
  funext x
  unfold pl put
  by_cases e : x = k
  · subst e
    rw [if_pos rfl, if_pos hp, fd_of hL hm]
    simp [ha]
  · have e2 : (x != k) = true := by simpa using e
    simp only [e2, Bool.and_true, if_neg e]
theorem pl_left {now : Nat} {L : List T} {p : Int → Option Nat} {i to : Nat} {lf : Int → Bool} {k : Int} (hp : p k = some i) (hl : lf k = true) : pl now L p i to lf k = none := by
  unfold pl
  rw [if_pos hp, if_pos hl]
theorem pl_start {now : Nat} {L : List T} {p : Int → Option Nat} {i to : Nat} {lf : Int → Bool} (h : ∀ k, p k = some i → lf k = true) : pl now L p i to lf = fun k => if p k = some i then none else p k := by
  funext k
  unfold pl
  by_cases e : p k = some i
  · rw [if_pos e, if_pos e, if_pos (h k e)]
  · rw [if_neg e, if_neg e]
/-- a slot being emptied: lf: whose turn is yet to come -/
structure Em (w1 : World) (D1 : Wd) (B now : Nat) (L : List T) (p : Int → Option Nat) (i to : Nat) (lf : Int → Bool) (wr : World) (v : Value) (D' : Wd) (out : List T) : Prop where
  wh : Wh wr D' now (kp L p i to lf) (pl now L p i to lf)
  st : Step w1 D1 wr D'
  own : OwnT wr B v out
  nd : out.Nodup
  mem : ∀ x, x ∈ out ↔ x ∈ L ∧ hit p i to x = true ∧ lf x.1 = false
/-- a slot, emptied -/
def Emptied (w : World) (D : Wd) (now : Nat) (L : List T) (p : Int → Option Nat) (i to : Nat) (e : Ending) (w' : World) : Prop :=
  ∃ v out D', e = .returned v ∧ out.Perm (L.filter (hit p i to)) ∧ OwnT w' w.heap.size v out ∧ Wh w' D' now (kp L p i to fun _ => false) (pl now L p i to fun _ => false) ∧ Step w D w' D'
theorem Em.done {w w1 : World} {D D1 D' : Wd} {now : Nat} {L : List T} {p : Int → Option Nat} {i to : Nat} {lf : Int → Bool} {wr : World} {v : Value} {out : List T} (h : Em w1 D1 w1.heap.size now L p i to lf wr v D' out) (hL : Ks L) (hlf : ∀ k, lf k = false) (hs : Step w D w1 D1) :
    Emptied w D now L p i to (.returned v) wr := by
  have e : lf = fun _ => false := funext hlf
  subst e
  refine ⟨v, out, D', rfl, ?_, h.own.mono hs.mv.size, h.wh, hs.trans h.st⟩
  rw [List.perm_ext_iff_of_nodup h.nd (List.Pairwise.filter _ hL.nodup)]
  intro x
  rw [h.mem x, List.mem_filter]
  simp
/-- a slot that has nothing is taken out -/
theorem Wl.Wh.takeOut {w : World} {D : Wd} {now : Nat} {L : List T} {p : Int → Option Nat} (h : Wh w D now L p) {i : Nat} (hi : i < 256) :
    Wh (w.setCell ⟨D.b, 2 + i, none⟩ (.map none)) (D.set i none) now L (fun k => if p k = some i then none else p k) := by
  refine h.setRow hi none _ (fun k j hj => ?_) (fun _ k e => ?_) (fun k e => ?_) (fun r e => by cases e)
  · by_cases e : p k = some i
    · simp only [e]
      simp [Ne.symm hj]
    · simp only [if_neg e]
  · by_cases e2 : p k = some i
    · rw [if_pos e2] at e; cases e
    · rw [if_neg e2] at e; exact e2 e
  · by_cases e2 : p k = some i
    · rw [if_pos e2] at e; cases e
    · rw [if_neg e2] at e; exact absurd e e2
theorem empty_none {w : World} {D : Wd} {now : Nat} {L : List T} {p : Int → Option Nat} (h : Wh w D now L p) (l s to : Nat) (hl : l < 16) (hs : s < 16) (hr : D.row (16 * l + s) = none) :
    Calls Try.prog 44 #[.pointer (some ⟨D.b, 0, none⟩), .int .i64 l, .int .i64 s, .int .u64 to] w (Emptied w D now L p (16 * l + s) to) := by
  have hcell := h.cell rfl hl hs
  rw [hr] at hcell
  have hbare := h.bare _ (by omega) hr
  have hfz := h.frozen (2 + l * 16 + s)
  have e0 : 2 + l * 16 + s = 2 + (16 * l + s) := by omega
  obtain ⟨W1, hW1⟩ : ∃ W1, w.setCell ⟨D.b, 2 + l * 16 + s, none⟩ (.map none) = W1 := ⟨_, rfl⟩
  have hT := h.takeOut (i := 16 * l + s) (by omega)
  have hS : Step w D W1 (D.set (16 * l + s) none) := by
    rw [← hW1, e0]
    exact step_setRow _ (by omega) _ _ (by simp)
  rw [← e0, hW1] at hT
  have hA := Lib.hid (hT.alloc (.mapIter none 0 #[] 0))
  have hSA := Lib.hid (hS.trans (Step.alloc W1 _ (.mapIter none 0 #[] 0)))
  have hks := Lib.hid h.keys
  have hrg := run_range_nilMap (P := Try.prog) W1 64 3 80 Try.underlying64
  have hnx : ∀ ty, (Instr.next (.pointer (some ⟨W1.heap.size, 0, none⟩)) false ty).run Try.prog (W1.alloc (.mapIter none 0 #[] 0)) = _ := fun ty => run_next_nilMap W1 ty 0 0 #[]
  have hb := Lib.hid hbare
  clear e0 hT hS h hr hbare
  go_enter Try.func44, Try.ntmps44
  go_wp2
  refine wp_loop_rounds 1 ?_
  rw [rounds_succ]
  go_wp2
  go_ret
  have hk : kp L p (16 * l + s) to (fun _ => false) = L := kp_all (fun x _ e => absurd e (hb.out _))
  have hp : pl now L p (16 * l + s) to (fun _ => false) = fun k => if p k = some (16 * l + s) then none else p k := pl_start (fun k e => absurd e (hb.out _))
  refine ⟨.slice none 0 0, [], _, rfl, ?_, OwnT.nil _ _, ?_, hSA.out⟩
  · have : L.filter (hit p (16 * l + s) to) = [] := by
      rw [List.filter_eq_nil_iff]
      intro x hx
      unfold hit
      simp [hb.out x.1]
    rw [this]
  · rw [hk, hp]
    exact hA.out
theorem Wl.Step.late {w w' w'' : World} {D D' : Wd} {r : Nat} (h : Step w D w' D') (hg : w'.grownBy w'' (some r)) (hr : w.heap.size ≤ r) : Step w D w'' D' :=
  ⟨h.b, h.d, h.own, h.mv.trans (Mv.of_grown (S := fun x => x = r) hg (fun k e _ => by injection e with e; exact e.symm)) (fun x hx e => by omega)⟩
theorem Wl.Step.later {w w' w'' : World} {D D' : Wd} {row : Option Nat} (h : Step w D w' D') (hg : w'.grownBy w'' row) (hr : ∀ r, row = some r → w.heap.size ≤ r) : Step w D w'' D' :=
  ⟨h.b, h.d, h.own, h.mv.trans (Mv.of_grown (S := fun x => row = some x) hg (fun k e _ => e)) (fun x hx e => by have := hr x e; omega)⟩
theorem tcells3 (w : World) (a b : Int) (ty : TypeId) : ∀ (j : Nat) (u : Value), [Value.int .i64 0, .int .i64 a, .int .u64 b][j]? = some u → (w.alloc (.cells #[.int .i64 0, .int .i64 a, .int .u64 b] ty)).cell? ((⟨w.heap.size, 0, none⟩ : Addr).add j) = some u := by
  intro j u hj
  have hadd : (⟨w.heap.size, 0, none⟩ : Addr).add j = ⟨w.heap.size, j, none⟩ := by unfold Addr.add; split <;> simp_all
  rw [hadd, World.cell?_alloc_at _ _ _ _ rfl]
  match j, hj with
  | 0, hj => simpa using hj
  | 1, hj => simpa using hj
  | 2, hj => simpa using hj
  | (j + 3), hj => simp at hj
theorem one3 (a b : Int) : ∀ u ∈ [Value.int .i64 0, .int .i64 a, .int .u64 b], u.oneCell' = true := by
  intro u hu
  simp at hu
  rcases hu with rfl | rfl | rfl <;> rfl
section
variable {W1 wr w2 : World} {D1 D' : Wd} {now N r cnt : Nat} {L : List T} {p : Int → Option Nat} {i to : Nat} {lf : Int → Bool} {v : Value} {out : List T}
theorem Em.next (h : Em W1 D1 W1.heap.size now L p i to lf wr v D' out) (hr : Mi.Rg Try.prog 3 wr r W1.heap.size (rf p i) N lf cnt) (hg : wr.grownBy w2 (some W1.heap.size)) : Em W1 D1 W1.heap.size now L p i to lf w2 v D' out where
  wh := h.wh.mv (S := fun x => x = W1.heap.size) (Mv.of_grown hg (fun k e _ => by injection e with e; exact e.symm)) (fun x hx e => h.wh.offI hr (e ▸ hx))
  st := h.st.late hg (Nat.le_refl _)
  own := h.own.block (fun g e => hg.block g (h.own.kind e).2.1 (fun e2 => by
    injection e2 with e2
    obtain ⟨_, _, cs, e3⟩ := h.own.kind e
    obtain ⟨_, _, _, _, _, e4⟩ := hr.kind
    rw [e2, e4] at e3
    cases e3))
  nd := h.nd
  mem := h.mem
theorem Em.len (h : Em W1 D1 W1.heap.size now L p i to lf wr v D' out) (hl : L.length ≤ 1000) : out.length ≤ 1000 :=
  Nat.le_trans (List.Nodup.length_le_of_subset h.nd (fun x hx => ((h.mem x).1 hx).1)) hl
/-- a number that is due is told ... -/
theorem Em.told (h : Em W1 D1 W1.heap.size now L p i to lf wr v D' out) {o : Obj} {v2 : Value} {x : T} (hown : w2.ownsRow W1.heap.size 39 3 v2 (out.length + 1) (tcells out ++ [.int .i64 0, .int .i64 x.1, .int .u64 x.2])) (hg : (wr.alloc o).grownBy w2 v.ownBlock) :
    OwnT w2 W1.heap.size v2 (out ++ [x]) ∧ Wh w2 D' now (kp L p i to lf) (pl now L p i to lf) ∧ Step W1 D1 w2 D' := by
  refine ⟨?_, ?_, ?_⟩
  · unfold OwnT
    rw [tcells_app, List.length_append]
    exact hown
  · refine (h.wh.alloc o).mv (S := fun y => v.ownBlock = some y) (Mv.of_grown hg (fun k e _ => e)) (fun y hy e => ?_)
    exact h.wh.offT h.own e hy
  · exact (h.st.trans (Step.alloc _ _ o)).later hg (fun y e => (h.own.kind e).1)
/-- ... and gone -/
theorem Em.gone {w3 : World} {v2 : Value} {x : T} (h : Em W1 D1 W1.heap.size now L p i to lf wr v D' out) (ho : OwnT w2 W1.heap.size v2 (out ++ [x])) (hw : Wh w2 D' now (kp L p i to lf) (pl now L p i to lf)) (hst : Step W1 D1 w2 D') (hL : Ks L) (hx : x ∈ L) (hp : p x.1 = some i) (ha : x.2 ≤ to) (hl : lf x.1 = true)
    (hm : Mi.Is Try.prog 3 w3 D'.d (fun z => if z = x.1 then none else df (kp L p i to lf) z) (Mi.dn (df (kp L p i to lf) x.1) (kp L p i to lf).length)) (hg : w2.grownBy w3 (some D'.d)) :
    Em W1 D1 W1.heap.size now L p i to (fun z => lf z && z != x.1) w3 v2 D' (out ++ [x]) := by
  obtain ⟨k, a⟩ := x
  have hks : Ks (kp L p i to lf) := hL.filter _
  have hfd := kp_fd (p := p) (i := i) (to := to) hL hx hl
  have e1 := kp_hit (lf := lf) hL hx hp ha
  have hlen := drp_len hks hfd
  have hdf : (df (kp L p i to lf) k).isSome = true := by rw [df_isSome, hfd]; rfl
  obtain ⟨g1, g2⟩ := hw.dues (L' := drp (kp L p i to lf) k) (by
    have e2 : Mi.dn (df (kp L p i to lf) k) (kp L p i to lf).length = (drp (kp L p i to lf) k).length := by unfold Mi.dn; rw [hdf, if_pos rfl]; omega
    rw [e2] at hm
    refine hm.ext (fun z => ?_)
    unfold df
    rw [fd_drp hks]
    by_cases e : z = k
    · rw [if_pos e, if_pos e]; rfl
    · rw [if_neg e, if_neg e]) hg (hks.filter _) (fun y hy => hw.wf y (List.mem_filter.1 hy).1) (by have := hw.len; omega) (fun z j e => by
      have h1 := (hw.pk z j e).2
      obtain ⟨y, hy, e3⟩ := List.mem_map.1 h1
      refine List.mem_map.2 ⟨y, List.mem_filter.2 ⟨hy, ?_⟩, e3⟩
      simp only [bne_iff_ne, ne_eq]
      intro e4
      rw [← e3, e4, pl_left hp hl] at e
      cases e)
  rw [e1, pl_hit hL hx hp ha hl] at g1
  exact {
    wh := g1
    st := hst.trans g2
    own := ho.block (fun g e => hg.block g (ho.kind e).2.1 (fun e2 => by
      injection e2 with e2
      exact hw.offT ho e (Or.inr (Or.inl e2))))
    nd := by
      rw [List.nodup_append]
      refine ⟨h.nd, by simp, fun y hy z hz e => ?_⟩
      rw [List.mem_singleton] at hz
      rw [e, hz] at hy
      have := ((h.mem _).1 hy).2.2
      simp only at this
      rw [hl] at this
      cases this
    mem := fun y => by
      rw [List.mem_append, h.mem y, List.mem_singleton]
      constructor
      · rintro (⟨g3, g4, g5⟩ | g3)
        · exact ⟨g3, g4, by simp [g5]⟩
        · subst g3
          refine ⟨hx, by unfold hit; simp [hp, ha], by simp⟩
      · rintro ⟨g3, g4, g5⟩
        by_cases e : lf y.1 = false
        · exact Or.inl ⟨g3, g4, e⟩
        · right
          have e2 : lf y.1 = true := by simpa using e
          rw [e2] at g5
          have e3 : y.1 = k := by simpa using g5
          obtain ⟨k2, a2⟩ := y
          have e4 : k2 = k := e3
          subst e4
          rw [hL.one g3 hx] }
theorem rg_kept {wa wb : World} {S : Nat → Prop} {f : Int → Option Value} {it : Nat} (hr : Mi.Rg Try.prog 3 wa r it f N lf cnt) (hm : Mv S wa wb) (h1 : ¬ S r) (h2 : ¬ S it) : Mi.Rg Try.prog 3 wb r it f N lf cnt :=
  hr.block (hm.block r hr.lt.1 h1) (hm.block it hr.lt.2.1 h2)
theorem rg_own {wa : World} {f : Int → Option Value} {it B : Nat} {l : List T} (hr : Mi.Rg Try.prog 3 wa r it f N lf cnt) (ho : OwnT wa B v l) : v.ownBlock ≠ some r ∧ v.ownBlock ≠ some it := by
  obtain ⟨⟨es, c, e1⟩, _, _, _, _, e2⟩ := hr.kind
  constructor
  · intro e
    obtain ⟨_, _, cs, e3⟩ := ho.kind e
    rw [e1] at e3; cases e3
  · intro e
    obtain ⟨_, _, cs, e3⟩ := ho.kind e
    rw [e2] at e3; cases e3
/-- a number that is not yet due stands elsewhere -/
theorem Em.stays {x : T} (h : Em W1 D1 W1.heap.size now L p i to lf wr v D' out) (hL : Ks L) (hx : x ∈ L) (hp : p x.1 = some i) (ha : ¬ x.2 ≤ to) (hl : lf x.1 = true) {D2 : Wd} (hw : Wh w2 D2 now (kp L p i to lf) (put (pl now L p i to lf) x.1 (some (q now x.2)))) (hs : Step wr D' w2 D2) :
    Em W1 D1 W1.heap.size now L p i to (fun z => lf z && z != x.1) w2 v D2 out := by
  obtain ⟨k, a⟩ := x
  rw [pl_miss hL hx hp ha hl, kp_miss hL hx ha] at hw
  exact {
    wh := hw
    st := h.st.trans hs
    own := h.own.block (fun g e => hs.mv.block g (h.own.kind e).2.1 (h.wh.offT h.own e))
    nd := h.nd
    mem := fun y => by
      rw [h.mem y]
      constructor
      · rintro ⟨g3, g4, g5⟩
        exact ⟨g3, g4, by simp [g5]⟩
      · rintro ⟨g3, g4, g5⟩
        refine ⟨g3, g4, ?_⟩
        by_cases e : lf y.1 = false
        · exact e
        · exfalso
          have e2 : lf y.1 = true := by simpa using e
          simp only [e2, Bool.true_and] at g5
          obtain ⟨k2, a2⟩ := y
          have e3 : k2 = k := by simpa using g5
          subst e3
          rw [hL.one g3 hx] at g4
          unfold hit at g4
          simp at g4
          exact ha g4.2 }
end
def zT : Value := .agg #[.int .i64 0, .int .i64 0, .int .u64 0]
theorem info_T : (Try.prog.info? 39).map (fun i => (i.zero, i.size, i.bytes)) = some (some zT, 3, 24) := by kernel_rfl
set_option maxRecDepth 20000 in
theorem empty_some {w : World} {D : Wd} {now : Nat} {L : List T} {p : Int → Option Nat} (h : Wh w D now L p) (l s to r : Nat) (hl : l < 16) (hs : s < 16) (hto : to < 2 ^ 64) (hr : D.row (16 * l + s) = some r) :
    Calls Try.prog 44 #[.pointer (some ⟨D.b, 0, none⟩), .int .i64 l, .int .i64 s, .int .u64 to] w (Emptied w D now L p (16 * l + s) to) := by
  obtain ⟨i, hi⟩ : ∃ i, 16 * l + s = i := ⟨_, rfl⟩
  have hi2 : i < 256 := by omega
  have hcell := h.cell rfl hl hs
  rw [hi] at hr hcell ⊢
  rw [hr] at hcell
  obtain ⟨N, hrow⟩ := h.rows i hi2 r hr
  have hfz := h.frozen (2 + l * 16 + s)
  obtain ⟨D1, hD1⟩ : ∃ D1, D.set i none = D1 := ⟨_, rfl⟩
  obtain ⟨W1, hW1⟩ : ∃ W1, w.setCell ⟨D.b, 2 + l * 16 + s, none⟩ (.map none) = W1 := ⟨_, rfl⟩
  have hT := h.takeOut (i := i) hi2
  have hS : Step w D W1 (D.set i none) := by
    rw [← hW1, show 2 + l * 16 + s = 2 + i by omega]
    exact step_setRow _ hi2 _ _ (by simp)
  rw [show 2 + i = 2 + l * 16 + s by omega, hW1, hD1] at hT
  have hsz : w.heap.size ≤ W1.heap.size := hS.mv.size
  have hrW : Mi.Is Try.prog 3 W1 r (rf p i) N := by
    refine hrow.block ?_
    rw [← hW1]
    exact Below.heap_setCell _ _ _ _ (Ne.symm (h.b_ne_r hi2 hr))
  rw [hD1] at hS
  have hnr : ¬ D1.fp r := by
    rw [← hD1]
    rintro (e | e | ⟨j, hj, e⟩)
    · exact h.b_ne_r hi2 hr e.symm
    · exact h.ne i hi2 (by rw [hr, e]; rfl)
    · have e' : (if j = i then none else D.row j) = some r := e
      by_cases g : j = i
      · rw [if_pos g] at e'; cases e'
      · rw [if_neg g] at e'
        exact g (h.one j i r hj hi2 e' hr)
  have HNR := Lib.hid (show ¬ D1.fp r from hnr)
  have HRL := Lib.hid (show r < W1.heap.size from hrW.lt)
  have HT := Lib.hid hT
  have HS := Lib.hid hS
  have HSZ := Lib.hid hsz
  have HKS := Lib.hid h.keys
  have HPK := Lib.hid h.pk
  have HWF := Lib.hid h.wf
  have HLEN := Lib.hid h.len
  have HDb : Hid (D1.b = D.b ∧ D1.d = D.d) := Lib.hid ⟨hS.b, hS.d⟩
  obtain ⟨i0, hinf, hz0, hz1, hz2⟩ := info_parts info_T
  have HI := Lib.hid hinf
  have HZ0 := Lib.hid hz0
  have HZ1 := Lib.hid hz1
  have HZ2 := Lib.hid hz2
  obtain ⟨zt, hzt⟩ : ∃ z : Int, (to : Int) = z := ⟨_, rfl⟩
  have HTO := Lib.hid hzt
  rw [hzt]
  clear hinf hz0 hz1 hz2 hnr hT hS hsz h hr hrow hi hD1 hzt
  go_enter Try.func44, Try.ntmps44
  go_wp2_with (at_range; refine Mi.wp_range _ rfl _ 64 3 80 rfl Try.underlying64 Try.underlying3 r N _ rfl hrW ?_; intro w0 hrg0 hg0 hs0)
  go_frame
  have hbeg : Hid (∃ D' out, Em W1 D1 W1.heap.size now L p i to (fun s => (rf p i s).isSome) w0 (.slice none 0 0) D' out) := Lib.hid ⟨D1, [], by
    have hsome : ∀ k, p k = some i → (rf p i k).isSome = true := fun k e => by unfold rf; rw [if_pos e]; rfl
    exact {
      wh := by
        rw [kp_all (fun x _ e => hsome x.1 e), pl_start hsome]
        exact HT.out.mv (S := fun _ => False) (Mv.of_grown hg0 (fun k e _ => by cases e)) (fun _ _ e => e)
      st := (Step.refl _ _).later hg0 (fun r e => by cases e)
      own := OwnT.nil _ _
      nd := List.nodup_nil
      mem := fun x => by
        constructor
        · intro e; cases e
        · rintro ⟨g1, g2, g3⟩
          unfold hit at g2
          simp at g2
          rw [hsome _ g2.1] at g3
          cases g3 }⟩
  clear hg0 hs0 hcell hfz hW1 hrW
  go_loopw [10] (fun v wr => ∃ (lf : Int → Bool) (cnt : Nat), Mi.Rg Try.prog 3 wr r W1.heap.size (rf p i) N lf cnt ∧ Hid (∃ D' out, Em W1 D1 W1.heap.size now L p i to lf wr v D' out)) (fun _ wr => wr.rangeLeft r W1.heap.size)
  case atStart => exact ⟨_, _, hrg0, hbeg⟩
  case round =>
    obtain ⟨lf, cnt, hrg, hem⟩ := hrel
    have HRG := Lib.hid hrg
    go_wp2_with (at_next; refine Mi.wp_next _ rfl _ rfl 3 Try.underlying3 r W1.heap.size N _ _ _ rfl hrg ?_ ?_)
    · intro hall
      have hfin : Hid (∀ k, lf k = false) := Lib.hid hall
      clear hall hrg
      go_wp2
      go_ret
      obtain ⟨D', out, he⟩ := hem.out
      exact he.done HKS.out hfin.out HS.out
    · intro x c w1 cnt1 hwx hlx hfx hrg1 hlt hg1 hs1 hen
      have hx : p x = some i ∧ c = .agg #[] := by
        unfold rf at hfx
        split at hfx
        · rename_i e
          injection hfx with hfx
          exact ⟨e, hfx.symm⟩
        · cases hfx
      obtain ⟨hpx, rfl⟩ := hx
      obtain ⟨D', out, he⟩ := hem.out
      have he1 := he.next HRG.out hg1
      have hDb : D'.b = D.b := he1.st.b.trans HDb.out.1
      have hc1 := he1.wh.c1
      rw [hDb] at hc1
      have hdue := he1.wh.due
      obtain ⟨⟨x2, a⟩, hmem, e⟩ := List.mem_map.1 (HPK.out x i hpx).2
      have e2 : x2 = x := e
      subst e2
      have ha : a < 2 ^ 64 := (HWF.out _ hmem).2
      have hfd := kp_fd (p := p) (i := i) (to := to) HKS.out hmem hlx
      obtain ⟨za, hza⟩ : ∃ z : Int, (a : Int) = z := ⟨_, rfl⟩
      have hdf : (df (kp L p i to lf) x2).getD (.int .u64 0) = .int .u64 za := by rw [df_getD, hfd]; simp only [Option.getD_some]; rw [hza]
      have HE1 := Lib.hid he1
      have HR1 := Lib.hid hrg1
      have HL := Lib.hid (show cnt1 < cnt from hlt)
      have HMEM := Lib.hid hmem
      have HPX := Lib.hid hpx
      have HLX := Lib.hid hlx
      have HDB := Lib.hid hDb
      have HZA := Lib.hid hza
      have hown := he1.own
      have HOL := Lib.hid (he1.len HLEN.out)
      have HNR2 : Hid (¬ D'.fp r) := Lib.hid (fun hx => by
        rcases he1.st.own r hx with hy | hy
        · exact HNR.out hy
        · exact absurd HRL.out (Nat.not_lt.2 hy))
      by_cases hle : a ≤ to
      · have hlez : za ≤ zt := by have := HTO.out; omega
        have HLE := Lib.hid hle
        unfold OwnT at hown
        obtain ⟨n, hn⟩ : ∃ n, out.length = n := ⟨_, rfl⟩
        have HN := Lib.hid hn
        rw [hn] at hown
        have hn2 : n ≤ 1000 := by have := HOL.out; omega
        have hsz1 : W1.heap.size ≤ w1.heap.size := he1.st.mv.size
        clear hem hrg hfx hrg1 hlt hg1 hs1 he he1 hmem hfd hza hlx hpx hDb hle hn e
        go_wp2_with (first
          | (at_lookup; refine Mi.wp_look _ rfl _ _ 63 3 22 rfl Try.underlying63 Try.underlying3 (.int .u64 0) (by kernel_rfl) D'.d _ _ rfl hdue x2 hwx rfl ?_; rw [hdf])
          | (at_builtin; refine wpList_append_own _ rfl _ _ 28 rfl W1.heap.size 39 i0 zT 3 24 Try.underlying28 HI.out HZ0.out HZ1.out HZ2.out rfl (by decide) _ _ _ rfl (World.ownsRow.alloc hown _) ⟨w1.heap.size, 0, none⟩ 1 1 [.int .i64 0, .int .i64 x2, .int .u64 za] rfl rfl (tcells3 w1 _ _ _) (one3 _ _) (by unfold maxLen; omega) (by omega) (by simp; omega) ?_))
        intro v3 w3 hown3 hgrow hnil
        rw [← HN.out, ← HZA.out] at hown3
        obtain ⟨q1, q2, q3⟩ := HE1.out.told (x := (x2, a)) hown3 hgrow
        have hc3 := q2.c1
        rw [HDB.out] at hc3
        have hdue3 := q2.due
        have hro := rg_own HR1.out HE1.out.own
        have RG3 := Lib.hid (rg_kept HR1.out ((Mv.alloc (fun y => u10.ownBlock = some y) _ _).trans (Mv.of_grown (S := fun y => u10.ownBlock = some y) hgrow (fun k e _ => e)) (fun _ _ e => e)) hro.1 hro.2)
        have Q1 := Lib.hid q1
        have Q2 := Lib.hid q2
        have Q3 := Lib.hid q3
        clear hro hown3 hgrow hnil q1 q2 q3 hown hdue hc1 hdf hlez hen
        go_wp2_with (at_delete; refine Mi.wp_del _ rfl _ _ 63 3 22 rfl Try.underlying63 Try.underlying3 D'.d _ _ rfl hdue3 x2 hwx rfl ?_)
        intro w4 hm4 hg4
        have he4 := Lib.hid (HE1.out.gone Q1.out Q2.out Q3.out HKS.out HMEM.out HPX.out HLE.out HLX.out hm4 hg4)
        have hr4 := Lib.hid hg4
        clear hm4 hg4 hc3 hdue3
        go_wp2
        have hR3 : Mi.Rg Try.prog 3 w3 r W1.heap.size (rf p i) N (fun z => lf z && z != x2) cnt1 := RG3.out
        have hR4 := rg_kept hR3 (Mv.of_grown (S := fun y => D'.d = y) hr4.out (fun k e _ => by injection e)) (fun e => HNR2.out (Or.inr (Or.inl e.symm))) (fun e => Q2.out.offI hR3 (Or.inr (Or.inl e.symm)))
        exact ⟨⟨_, _, hR4, Lib.hid ⟨D', _, he4.out⟩⟩, by rw [hR4.left_eq, HRG.out.left_eq]; exact HL.out⟩
      · have hlez : zt < za := by have := HTO.out; omega
        have HLE := Lib.hid hle
        have hfd2 := Lib.hid hfd
        clear hem hrg hfx hrg1 hlt hg1 hs1 he he1 hmem hfd hza hlx hpx hDb hle e hown
        have hst := stand_any HE1.out.wh x2 a hfd2.out (pl_left HPX.out HLX.out)
        rw [HDB.out] at hst
        have HST := Lib.hid hst
        clear hst
        go_wp2_with (first
          | (at_lookup; refine Mi.wp_look _ rfl _ _ 63 3 22 rfl Try.underlying63 Try.underlying3 (.int .u64 0) (by kernel_rfl) D'.d _ _ rfl hdue x2 hwx rfl ?_; rw [hdf])
          | (go_at_call 42; refine HST.out.mono ?_))
        rintro e w2 ⟨rfl, hgoes⟩
        have HG := Lib.hid hgoes
        clear hgoes
        go_wp2
        obtain ⟨D2, g1, g2⟩ := HG.out
        have hR2 := rg_kept HR1.out g2.mv HNR2.out (HE1.out.wh.offI HR1.out)
        exact ⟨⟨_, _, hR2, Lib.hid ⟨D2, _, HE1.out.stays HKS.out HMEM.out HPX.out HLE.out HLX.out g1 g2⟩⟩, by rw [hR2.left_eq, HRG.out.left_eq]; exact HL.out⟩
theorem empty_any {w : World} {D : Wd} {now : Nat} {L : List T} {p : Int → Option Nat} (h : Wh w D now L p) (l s to : Nat) (hl : l < 16) (hs : s < 16) (hto : to < 2 ^ 64) :
    Calls Try.prog 44 #[.pointer (some ⟨D.b, 0, none⟩), .int .i64 l, .int .i64 s, .int .u64 to] w (Emptied w D now L p (16 * l + s) to) := by
  cases hr : D.row (16 * l + s) with
  | none => exact empty_none h l s to hl hs hr
  | some r => exact empty_some h l s to r hl hs hto hr
end Go.Proofs.Ytlhajdmleefkiaa
