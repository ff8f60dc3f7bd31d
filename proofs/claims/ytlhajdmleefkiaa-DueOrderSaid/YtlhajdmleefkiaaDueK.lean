/-
  LAYER 9 (due), part K: timers that a call has made; the program's and the page's side by side.
-/
import Derived.Test.YtlhajdmleefkiaaDueF
import Derived.Test.YtlhajdmleefkiaaDueJ
namespace Go.Proofs.Ytlhajdmleefkiaa
open Go.RowKit Wl Dl Bt
set_option linter.unusedVariables false

/-- the program's timers at block b, made since w0 -/
def OD (w0 : World) (b now : Nat) (L : List X) (w : World) : Prop := ∃ P r, P.bd = b ∧ Du w P now L r ∧ (∀ x, P.fp x → w0.heap.size ≤ x) ∧ Below w0.heap.size w0 w
/-- both, made since w0: the program's (n1, L1) and the page's (n2, L2) -/
def PD (w0 : World) (b br n1 : Nat) (L1 : List X) (n2 : Nat) (L2 : List X) (w : World) : Prop :=
  ∃ P r v, P.bd = b ∧ Du w P n1 L1 r ∧ RD w br v n2 L2 ∧ (∀ x, P.fp x → w0.heap.size ≤ x) ∧ (∀ x, rfd br v x → w0.heap.size ≤ x) ∧ (∀ x, P.fp x → ¬ rfd br v x) ∧ Below w0.heap.size w0 w
section
variable {w0 w w' : World} {b br now n1 n2 : Nat} {L L1 L2 : List X}
theorem OD.step {P : Pd} {r r' : List T} {now' : Nat} {L' : List X} (hb : P.bd = b) (h : Du w P now L r) (h0 : ∀ x, P.fp x → w0.heap.size ≤ x) (hbl : Below w0.heap.size w0 w) (hg : DG w P now' L' r' w') : OD w0 b now' L' w' := by
  obtain ⟨P', e1, e2, h1, h2⟩ := hg
  refine ⟨P', r', e1.trans hb, h1, fun x hx => ?_, hbl.trans (h2.mv.below hbl.size (fun k hk hf => by have := h0 k hf; omega))⟩
  rcases h2.own x hx with h3 | h3
  · exact h0 x h3
  · exact Nat.le_trans hbl.size h3
theorem OD.below (h : OD w0 b now L w) (hb : Below w.heap.size w w') : OD w0 b now L w' := by
  obtain ⟨P, r, e, h1, h2, h3⟩ := h
  exact ⟨P, r, e, h1.below hb (Nat.le_refl _), h2, h3.trans (hb.mono h3.size)⟩
theorem OD.drew (h : OD w0 b now L w) : OD w0 b now L w.drew := h.below (Below.refl _ _).drew
theorem OD.ok (h : OD w0 b now L w) : Ok L := by
  obtain ⟨P, r, e, h1, h2, h3⟩ := h
  exact h1.ok
theorem OD.bl (h : OD w0 b now L w) : Below w0.heap.size w0 w := by
  obtain ⟨P, r, e, h1, h2, h3⟩ := h
  exact h3
def OMade (w0 : World) (now : Nat) (e : Ending) (w' : World) : Prop := ∃ b, e = .returned (.pointer (some ⟨b, 0, none⟩)) ∧ OD w0 b now [] w'
theorem od_new (now : Nat) (w : World) (hn : now < 2 ^ 64) : Calls Try.prog 7 #[.int .u64 now] w (OMade w now) := by
  refine (dnew_any now w hn).mono ?_
  rintro e w' ⟨P, he, h1, h2, h3⟩
  exact ⟨P.bd, he, P, [], rfl, h1, h2, h3⟩
def ODid (w0 : World) (b now : Nat) (L : List X) (r : Value) (e : Ending) (w' : World) : Prop := e = .returned r ∧ OD w0 b now L w'
theorem OD.set (h : OD w0 b now L w) (k i : Int) (a : Nat) (ha : a < 2 ^ 64) (hlen : L.length < 1000) :
    Calls Try.prog 15 #[.pointer (some ⟨b, 0, none⟩), .int .i64 k, .int .i64 i, .int .u64 a] w (ODid w0 b now (st L k i a).2 (.int .i64 (st L k i a).1)) := by
  obtain ⟨P, r, rfl, h1, h2, h3⟩ := h
  refine (dset_any h1 k i a ha hlen).mono ?_
  rintro e w' ⟨he, hg⟩
  exact ⟨he, OD.step rfl h1 h2 h3 hg⟩
theorem OD.first (h : OD w0 b now L w) {j : Nat} {x : X} (hF : Fx L j) (hx : L.getD j x0 = x) (tq : Nat) (hle : x.tick ≤ tq) (hlen : L.length < 1000) :
    Calls Try.prog 16 #[.pointer (some ⟨b, 0, none⟩), .int .u64 tq] w (ODid w0 b (max now x.tick) (wo L x.kind x.id) (.tuple #[xv x, .bool true])) := by
  obtain ⟨P, r, rfl, h1, h2, h3⟩ := h
  refine (dfirst_some h1 hF hx tq hle hlen).mono ?_
  rintro e w' ⟨he, r', hg⟩
  exact ⟨he, OD.step rfl h1 h2 h3 hg⟩
theorem OD.firstN (h : OD w0 b now L w) (tq : Nat) (hg : gob L tq = true) :
    Calls Try.prog 16 #[.pointer (some ⟨b, 0, none⟩), .int .u64 tq] w (ODid w0 b now L (.tuple #[xv x0, .bool false])) := by
  obtain ⟨P, r, rfl, h1, h2, h3⟩ := h
  refine (dfirst_none h1 tq hg).mono ?_
  rintro e w' ⟨he, r', hg⟩
  exact ⟨he, OD.step rfl h1 h2 h3 hg⟩
theorem OD.go (h : OD w0 b now L w) (tq : Nat) (ht : tq < 2 ^ 64) :
    Calls Try.prog 17 #[.pointer (some ⟨b, 0, none⟩), .int .u64 tq] w (ODid w0 b (cond (gob L tq) (max now tq) now) L (.bool (gob L tq))) := by
  obtain ⟨P, r, rfl, h1, h2, h3⟩ := h
  refine (dgo_any h1 tq ht).mono ?_
  rintro e w' ⟨he, r', hg⟩
  exact ⟨he, OD.step rfl h1 h2 h3 hg⟩
theorem OD.next (h : OD w0 b now L w) {o : Option Nat} {v : Int} {c : Bool} (hn : nxt (L.map nu) = o) (hv : ((o.getD 0 : Nat) : Int) = v) (hb : o.isSome = c) :
    Calls Try.prog 11 #[.pointer (some ⟨b, 0, none⟩)] w (ODid w0 b now L (.tuple #[.int .u64 v, .bool c])) := by
  obtain ⟨P, r, rfl, h1, h2, h3⟩ := h
  refine (dnext_at h1 hn hv hb).mono ?_
  rintro e w' ⟨he, r', _, hg⟩
  exact ⟨he, OD.step rfl h1 h2 h3 hg⟩
theorem OD.len (h : OD w0 b now L w) : Calls Try.prog 13 #[.pointer (some ⟨b, 0, none⟩)] w fun e w' => e = .returned (.int .i64 L.length) ∧ w' = w := by
  obtain ⟨P, r, rfl, h1, h2, h3⟩ := h
  exact dlen_any h1
/-! ### both -/
theorem PD.stepD {P : Pd} {r r' : List T} {v : Value} {n1' : Nat} {L1' : List X} (hb : P.bd = b) (h : Du w P n1 L1 r) (hr : RD w br v n2 L2) (h0 : ∀ x, P.fp x → w0.heap.size ≤ x) (h0r : ∀ x, rfd br v x → w0.heap.size ≤ x) (hd : ∀ x, P.fp x → ¬ rfd br v x) (hbl : Below w0.heap.size w0 w) (hg : DG w P n1' L1' r' w') : PD w0 b br n1' L1' n2 L2 w' := by
  obtain ⟨P', e1, e2, h1, h2⟩ := hg
  refine ⟨P', r', v, e1.trans hb, h1, hr.mv h2.mv (fun x hx hf => hd x hf hx), fun x hx => ?_, h0r, fun x hx hrx => ?_, hbl.trans (h2.mv.below hbl.size (fun k hk hf => by have := h0 k hf; omega))⟩
  · rcases h2.own x hx with h3 | h3
    · exact h0 x h3
    · exact Nat.le_trans hbl.size h3
  · rcases h2.own x hx with h3 | h3
    · exact hd x h3 hrx
    · have := hr.lt_fp hrx; omega
theorem PD.stepR {P : Pd} {r : List T} {v : Value} {n2' : Nat} {L2' : List X} (hb : P.bd = b) (h : Du w P n1 L1 r) (hr : RD w br v n2 L2) (h0 : ∀ x, P.fp x → w0.heap.size ≤ x) (h0r : ∀ x, rfd br v x → w0.heap.size ≤ x) (hd : ∀ x, P.fp x → ¬ rfd br v x) (hbl : Below w0.heap.size w0 w) (hg : RG w br v n2' L2' w') : PD w0 b br n1 L1 n2' L2' w' := by
  obtain ⟨v', h1, h2⟩ := hg
  refine ⟨P, r, v', hb, h.mv h2.mv (fun x hx hf => hd x hx hf), h1, h0, fun x hx => ?_, fun x hx hrx => ?_, hbl.trans (h2.mv.below hbl.size (fun k hk hf => by have := h0r k hf; omega))⟩
  · rcases h2.own x hx with h3 | h3
    · exact h0r x h3
    · exact Nat.le_trans hbl.size h3
  · rcases h2.own x hrx with h3 | h3
    · exact hd x hx h3
    · have := h.lt hx; omega
theorem PD.below (h : PD w0 b br n1 L1 n2 L2 w) (hb : Below w.heap.size w w') : PD w0 b br n1 L1 n2 L2 w' := by
  obtain ⟨P, r, v, e, h1, h2, h3, h4, h5, h6⟩ := h
  exact ⟨P, r, v, e, h1.below hb (Nat.le_refl _), h2.below hb, h3, h4, h5, h6.trans (hb.mono h6.size)⟩
theorem PD.drew (h : PD w0 b br n1 L1 n2 L2 w) : PD w0 b br n1 L1 n2 L2 w.drew := h.below (Below.refl _ _).drew
theorem PD.ok (h : PD w0 b br n1 L1 n2 L2 w) : Ok L1 := by
  obtain ⟨P, r, v, e, h1, _⟩ := h
  exact h1.ok
theorem PD.bl (h : PD w0 b br n1 L1 n2 L2 w) : Below w0.heap.size w0 w := by
  obtain ⟨P, r, v, e, h1, h2, h3, h4, h5, h6⟩ := h
  exact h6
/-- a block of some other kind -/
def Apt (w : World) (g : Nat) (cs : Array Value) : Prop := w.heap[g]? = some (.cells cs 33)
theorem off_due {P : Pd} {r : List T} {g : Nat} {cs : Array Value} (h : Du w P n1 L1 r) (hg : Apt w g cs) : ¬ P.fp g := by
  unfold Apt at hg
  rintro (rfl | hx | hx)
  · obtain ⟨cs2, e⟩ := h.kind
    rw [hg] at e
    injection e with e
    injection e with _ e
    exact absurd e (by decide)
  · exact h.wh.off (fun cs' e' => by
      rw [hg] at e'
      injection e' with e'
      injection e' with _ e'
      exact absurd e' (by decide)) (fun es c e' => by rw [hg] at e'; cases e') hx
  · obtain ⟨cs2, e⟩ := h.row.kind hx
    rw [hg] at e
    injection e with e
    injection e with _ e
    exact absurd e (by decide)
theorem off_page {v : Value} {g : Nat} {cs : Array Value} (h : RD w br v n2 L2) (hg : Apt w g cs) : ¬ rfd br v g := by
  unfold Apt at hg
  rintro (rfl | hx)
  · obtain ⟨cs2, e⟩ := h.kind
    rw [hg] at e
    injection e with e
    injection e with _ e
    exact absurd e (by decide)
  · obtain ⟨_, _, cs2, e⟩ := h.own.kind hx
    rw [hg] at e
    injection e with e
    injection e with _ e
    exact absurd e (by decide)
/-- both, and the act at block g -/
def PS9 (w0 : World) (b br g : Nat) (cs : Array Value) (n1 : Nat) (L1 : List X) (n2 : Nat) (L2 : List X) (w : World) : Prop := PD w0 b br n1 L1 n2 L2 w ∧ Apt w g cs
variable {g : Nat} {cs : Array Value}
theorem PS9.drew (h : PS9 w0 b br g cs n1 L1 n2 L2 w) : PS9 w0 b br g cs n1 L1 n2 L2 w.drew := ⟨h.1.drew, h.2⟩
theorem PS9.below (h : PS9 w0 b br g cs n1 L1 n2 L2 w) (hb : Below w.heap.size w w') : PS9 w0 b br g cs n1 L1 n2 L2 w' := ⟨h.1.below hb, (hb.block g (lt_of_some h.2)).trans h.2⟩
/-- any call on the program's timers that ends in a step of theirs -/
theorem PS9.due {f : FuncId} {args : Array Value} {n1' : Nat} {L1' : List X} {R : Value} (h : PS9 w0 b br g cs n1 L1 n2 L2 w)
    (hc : ∀ P r, Du w P n1 L1 r → P.bd = b → Calls Try.prog f args w fun e w' => e = .returned R ∧ ∃ r', DG w P n1' L1' r' w') : Calls Try.prog f args w fun e w' => e = .returned R ∧ PS9 w0 b br g cs n1' L1' n2 L2 w' := by
  obtain ⟨⟨P, r, v, e, h1, h2, h3, h4, h5, h6⟩, h7⟩ := h
  refine (hc P r h1 e).mono ?_
  rintro e2 w' ⟨he, r', hg⟩
  have hk : w'.heap[g]? = w.heap[g]? := hg.block (lt_of_some h7) (off_due h1 h7)
  exact ⟨he, PD.stepD e h1 h2 h3 h4 h5 h6 hg, hk.trans h7⟩
theorem PS9.page {f : FuncId} {args : Array Value} {n2' : Nat} {L2' : List X} {R : Value} (h : PS9 w0 b br g cs n1 L1 n2 L2 w)
    (hc : ∀ v, RD w br v n2 L2 → Calls Try.prog f args w fun e w' => e = .returned R ∧ RG w br v n2' L2' w') : Calls Try.prog f args w fun e w' => e = .returned R ∧ PS9 w0 b br g cs n1 L1 n2' L2' w' := by
  obtain ⟨⟨P, r, v, e, h1, h2, h3, h4, h5, h6⟩, h7⟩ := h
  refine (hc v h2).mono ?_
  rintro e2 w' ⟨he, hg⟩
  have hk : w'.heap[g]? = w.heap[g]? := by
    obtain ⟨v', q1, q2⟩ := hg
    exact q2.mv.block g (lt_of_some h7) (off_page h2 h7)
  exact ⟨he, PD.stepR e h1 h2 h3 h4 h5 h6 hg, hk.trans h7⟩
theorem PS9.set (h : PS9 w0 b br g cs n1 L1 n2 L2 w) (k i : Int) (a : Nat) (ha : a < 2 ^ 64) (hlen : L1.length < 1000) :
    Calls Try.prog 15 #[.pointer (some ⟨b, 0, none⟩), .int .i64 k, .int .i64 i, .int .u64 a] w fun e w' => e = .returned (.int .i64 (st L1 k i a).1) ∧ PS9 w0 b br g cs n1 (st L1 k i a).2 n2 L2 w' :=
  h.due fun P r h1 e => by subst e; exact (dset_any h1 k i a ha hlen).mono fun e w' ⟨q1, q2⟩ => ⟨q1, _, q2⟩
theorem PS9.rset (h : PS9 w0 b br g cs n1 L1 n2 L2 w) (hL : Ok L2) (k i : Int) (a : Nat) (ha : a < 2 ^ 64) (hlen : L2.length < 1000) :
    Calls Try.prog 22 #[.pointer (some ⟨br, 0, none⟩), .int .i64 k, .int .i64 i, .int .u64 a] w fun e w' => e = .returned (.int .i64 (st L2 k i a).1) ∧ PS9 w0 b br g cs n1 L1 n2 (st L2 k i a).2 w' :=
  h.page fun v h1 => rset_any h1 hL k i a ha hlen
theorem PS9.clear (h : PS9 w0 b br g cs n1 L1 n2 L2 w) (k i : Int) :
    Calls Try.prog 20 #[.pointer (some ⟨b, 0, none⟩), .int .i64 k, .int .i64 i] w fun e w' => e = .returned (.bool (ps L1 k i).isSome) ∧ PS9 w0 b br g cs n1 (wo L1 k i) n2 L2 w' :=
  h.due fun P r h1 e => by subst e; exact (dclear_any h1 k i).mono fun e w' ⟨q1, q2⟩ => ⟨q1, _, q2⟩
theorem PS9.rclear (h : PS9 w0 b br g cs n1 L1 n2 L2 w) (k i : Int) :
    Calls Try.prog 23 #[.pointer (some ⟨br, 0, none⟩), .int .i64 k, .int .i64 i] w fun e w' => e = .returned (.bool (ps L2 k i).isSome) ∧ PS9 w0 b br g cs n1 L1 n2 (wo L2 k i) w' :=
  h.page fun v h1 => rclear_any h1 k i
theorem PS9.go (h : PS9 w0 b br g cs n1 L1 n2 L2 w) (tq : Nat) (ht : tq < 2 ^ 64) :
    Calls Try.prog 17 #[.pointer (some ⟨b, 0, none⟩), .int .u64 tq] w fun e w' => e = .returned (.bool (gob L1 tq)) ∧ PS9 w0 b br g cs (cond (gob L1 tq) (max n1 tq) n1) L1 n2 L2 w' :=
  h.due fun P r h1 e => by subst e; exact dgo_any h1 tq ht
theorem PS9.rgo (h : PS9 w0 b br g cs n1 L1 n2 L2 w) (tq : Nat) :
    Calls Try.prog 25 #[.pointer (some ⟨br, 0, none⟩), .int .u64 tq] w fun e w' => e = .returned (.bool (gob L2 tq)) ∧ PS9 w0 b br g cs n1 L1 (cond (gob L2 tq) (max n2 tq) n2) L2 w' :=
  h.page fun v h1 => rgo_any h1 tq
theorem PS9.first (h : PS9 w0 b br g cs n1 L1 n2 L2 w) {j : Nat} {x : X} (hF : Fx L1 j) (hx : L1.getD j x0 = x) (tq : Nat) (hle : x.tick ≤ tq) (hlen : L1.length < 1000) :
    Calls Try.prog 16 #[.pointer (some ⟨b, 0, none⟩), .int .u64 tq] w fun e w' => e = .returned (.tuple #[xv x, .bool true]) ∧ PS9 w0 b br g cs (max n1 x.tick) (wo L1 x.kind x.id) n2 L2 w' :=
  h.due fun P r h1 e => by subst e; exact dfirst_some h1 hF hx tq hle hlen
theorem PS9.rfirst (h : PS9 w0 b br g cs n1 L1 n2 L2 w) (hL : Ok L2) {j : Nat} {x : X} (hF : Fx L2 j) (hx : L2.getD j x0 = x) (tq : Nat) (hle : x.tick ≤ tq) :
    Calls Try.prog 24 #[.pointer (some ⟨br, 0, none⟩), .int .u64 tq] w fun e w' => e = .returned (.tuple #[xv x, .bool true]) ∧ PS9 w0 b br g cs n1 L1 (max n2 x.tick) (wo L2 x.kind x.id) w' :=
  h.page fun v h1 => rfirst_some h1 hL hF hx tq hle
theorem PS9.firstN (h : PS9 w0 b br g cs n1 L1 n2 L2 w) (tq : Nat) (hg : gob L1 tq = true) :
    Calls Try.prog 16 #[.pointer (some ⟨b, 0, none⟩), .int .u64 tq] w fun e w' => e = .returned (.tuple #[xv x0, .bool false]) ∧ PS9 w0 b br g cs n1 L1 n2 L2 w' :=
  h.due fun P r h1 e => by subst e; exact dfirst_none h1 tq hg
theorem PS9.rfirstN (h : PS9 w0 b br g cs n1 L1 n2 L2 w) (tq : Nat) (hg : gob L2 tq = true) :
    Calls Try.prog 24 #[.pointer (some ⟨br, 0, none⟩), .int .u64 tq] w fun e w' => e = .returned (.tuple #[xv x0, .bool false]) ∧ PS9 w0 b br g cs n1 L1 n2 L2 w' :=
  h.page fun v h1 => rfirst_none h1 tq hg
/-- .. a call on the page's timers behind a new block, which it leaves -/
theorem PS9.pageA {f : FuncId} {args : Array Value} {n2' : Nat} {L2' : List X} {R : Value} (o : Obj) (h : PS9 w0 b br g cs n1 L1 n2 L2 w)
    (hc : ∀ v W, RD W br v n2 L2 → Calls Try.prog f args W fun e w' => e = .returned R ∧ RG W br v n2' L2' w') : Calls Try.prog f args (w.alloc o) fun e w' => e = .returned R ∧ PS9 w0 b br g cs n1 L1 n2' L2' w' ∧ w'.heap[w.heap.size]? = some o := by
  have hb : Below w.heap.size w (w.alloc o) := (Below.refl _ _).alloc (Nat.le_refl _) _
  have hA := h.below hb
  obtain ⟨⟨P, r, v, e, h1, h2, h3, h4, h5, h6⟩, h7⟩ := h
  have h2A := h2.below hb
  have h1A := h1.below hb (Nat.le_refl _)
  refine (hc v _ h2A).mono ?_
  rintro e2 w' ⟨he, hg⟩
  have hnew : (w.alloc o).heap[w.heap.size]? = some o := (MapKept.heap_alloc _ _).1
  have hk : ∀ x, x < (w.alloc o).heap.size → ¬ rfd br v x → w'.heap[x]? = (w.alloc o).heap[x]? := by
    obtain ⟨v', q1, q2⟩ := hg
    exact fun x hx hn => q2.mv.block x hx hn
  exact ⟨he, ⟨PD.stepR e h1A h2A h3 h4 h5 (h6.trans (hb.mono h6.size)) hg, (hk g (lt_of_some hA.2) (off_page h2A hA.2)).trans hA.2⟩, (hk _ (lt_of_some hnew) (fun hf => by have := h2.lt_fp hf; omega)).trans hnew⟩
theorem PS9.rfirstA (h : PS9 w0 b br g cs n1 L1 n2 L2 w) (o : Obj) (hL : Ok L2) {j : Nat} {x : X} (hF : Fx L2 j) (hx : L2.getD j x0 = x) (tq : Nat) (hle : x.tick ≤ tq) :
    Calls Try.prog 24 #[.pointer (some ⟨br, 0, none⟩), .int .u64 tq] (w.alloc o) fun e w' => e = .returned (.tuple #[xv x, .bool true]) ∧ PS9 w0 b br g cs n1 L1 (max n2 x.tick) (wo L2 x.kind x.id) w' ∧ w'.heap[w.heap.size]? = some o :=
  h.pageA o fun v W h1 => rfirst_some h1 hL hF hx tq hle
theorem PS9.rfirstNA (h : PS9 w0 b br g cs n1 L1 n2 L2 w) (o : Obj) (tq : Nat) (hg : gob L2 tq = true) :
    Calls Try.prog 24 #[.pointer (some ⟨br, 0, none⟩), .int .u64 tq] (w.alloc o) fun e w' => e = .returned (.tuple #[xv x0, .bool false]) ∧ PS9 w0 b br g cs n1 L1 n2 L2 w' ∧ w'.heap[w.heap.size]? = some o :=
  h.pageA o fun v W h1 => rfirst_none h1 tq hg
end
end Go.Proofs.Ytlhajdmleefkiaa
