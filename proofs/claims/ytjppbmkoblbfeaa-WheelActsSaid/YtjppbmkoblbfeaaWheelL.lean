/-
  LAYER 8 (wheel), part L: one act on both wheels.
-/
import Derived.Test.YtjppbmkoblbfeaaWheelK
namespace Go.Proofs.Ytjppbmkoblbfeaa
open Go.RowKit Wl
set_option linter.unusedVariables false

/-- the two wheels, in the midst of an act: b1: the program's has done it, b2: the page's has; block g holds the act -/
def PS (w0 : World) (b br g : Nat) (x : A) (now : Nat) (L0 L1 : List T) (b1 b2 : Bool) (w : World) : Prop :=
  ∃ D v, D.b = b ∧ Own w0 D now (cond b1 L1 L0) w ∧ RW w w0.heap.size br v now (cond b2 L1 L0) ∧ w.heap[g]? = some (.cells #[.int .i64 x.kind, .int .i64 x.id, .int .u64 (x.tick : Nat)] 32)
section
variable {w0 w : World} {b br g now : Nat} {x : A} {L0 L1 : List T} {b1 b2 : Bool}
theorem PS.cells (h : PS w0 b br g x now L0 L1 b1 b2 w) : w.cell? ⟨g, 0, none⟩ = some (.int .i64 x.kind) ∧ w.cell? ⟨g, 1, none⟩ = some (.int .i64 x.id) ∧ w.cell? ⟨g, 2, none⟩ = some (.int .u64 (x.tick : Nat)) := by
  obtain ⟨D, v, _, _, _, hg⟩ := h
  refine ⟨?_, ?_, ?_⟩ <;> simp only [World.cell?, hg] <;> rfl
theorem off_rfp {now2 : Nat} {D : Wd} {v : Value} {L L' : List T} {B : Nat} (h : Wheel w D now L) (hr : RW w B br v now2 L') {y : Nat} (hy : rfp br v y) : ¬ D.fp y := by
  rcases hy with rfl | hy
  · obtain ⟨cs, e⟩ := hr.kind
    exact h.off (fun cs' e' => by
      rw [e] at e'
      injection e' with e'
      injection e' with _ e'
      exact absurd e' (by decide)) (fun es c e' => by rw [e] at e'; cases e')
  · exact h.offT hr.own hy
theorem off_act {D : Wd} {L : List T} {cs : Array Value} (h : Wheel w D now L) (hg : w.heap[g]? = some (.cells cs 32)) : ¬ D.fp g :=
  h.off (fun cs' e' => by
    rw [hg] at e'
    injection e' with e'
    injection e' with _ e'
    exact absurd e' (by decide)) (fun es c e' => by rw [hg] at e'; cases e')
theorem off_act_rfp {v : Value} {L : List T} {B : Nat} {cs : Array Value} (hr : RW w B br v now L) (hg : w.heap[g]? = some (.cells cs 32)) : ¬ rfp br v g := by
  rintro (e | e)
  · obtain ⟨cs2, e2⟩ := hr.kind
    rw [← e, hg] at e2
    injection e2 with e2
    injection e2 with _ e2
    exact absurd e2 (by decide)
  · obtain ⟨_, _, cs2, e2⟩ := hr.own.kind e
    rw [hg] at e2
    injection e2 with e2
    injection e2 with _ e2
    exact absurd e2 (by decide)
theorem glt {o : Obj} {w : World} {g : Nat} (hg : w.heap[g]? = some o) : g < w.heap.size := (Array.getElem?_eq_some_iff.1 hg).1
/-- a step of the program's wheel leaves the page's and the act -/
theorem keeps_wheel {now2 : Nat} {D D' : Wd} {v : Value} {L L' : List T} {B : Nat} {w' : World} {cs : Array Value} (h : Wheel w D now L) (hs : Step w D w' D') (hr : RW w B br v now2 L') (hg : w.heap[g]? = some (.cells cs 32)) :
    RW w' B br v now2 L' ∧ w'.heap[g]? = some (.cells cs 32) :=
  ⟨hr.mv hs.mv (fun y hy => off_rfp h hr hy), (hs.mv.block g (glt hg) (off_act h hg)).trans hg⟩
/-- a step of the page's wheel leaves the program's and the act -/
theorem keeps_page {now2 : Nat} {D : Wd} {v : Value} {L L' : List T} {w' : World} {cs : Array Value} (h : Own w0 D now L w) (hb : w0.heap.size ≤ br) (hr : RW w w0.heap.size br v now2 L') (hm : Mv (rfp br v) w w') (hg : w.heap[g]? = some (.cells cs 32)) :
    Own w0 D now L w' ∧ w'.heap[g]? = some (.cells cs 32) :=
  ⟨⟨h.wh.mv hm (fun y hy hf => off_rfp h.wh hr hf hy), h.base, h.bl.trans (hm.below h.bl.size (fun k hk hf => by
    rcases hf with e | e
    · omega
    · have := (hr.own.kind e).1; omega))⟩, (hm.block g (glt hg) (off_act_rfp hr hg)).trans hg⟩
theorem PS.drew (h : PS w0 b br g x now L0 L1 b1 b2 w) : PS w0 b br g x now L0 L1 b1 b2 w.drew := by
  obtain ⟨D, v, h1, h2, h3, h4⟩ := h
  exact ⟨D, v, h1, h2.drew, h3.below (Below.refl w.heap.size w).drew (Nat.le_refl _), h4⟩
theorem PS.put (h : PS w0 b br g x now L0 (pt L0 x.id x.tick).2 false b2 w) (hk : Mi.Wf x.id) (ha : x.tick < 2 ^ 64) (hlen : L0.length < 1000) :
    Calls Try.prog 9 #[.pointer (some ⟨b, 0, none⟩), .int .i64 x.id, .int .u64 x.tick] w fun e w' => e = .returned (.int .i64 (pt L0 x.id x.tick).1) ∧ PS w0 b br g x now L0 (pt L0 x.id x.tick).2 true b2 w' := by
  obtain ⟨D, v, rfl, h2, h3, h4⟩ := h
  refine (put_any h2.wh x.id x.tick hk ha hlen).mono ?_
  rintro e w' ⟨he, D', g1, g2⟩
  obtain ⟨q1, q2⟩ := keeps_wheel h2.wh g2 h3 h4
  exact ⟨he, D', v, g2.b, h2.step g2 g1, q1, q2⟩
theorem PS.rput (h : PS w0 b br g x now L0 (pt L0 x.id x.tick).2 b1 false w) (hb : w0.heap.size ≤ br) (hk : Mi.Wf x.id) (hlen : L0.length < 1000) :
    Calls Try.prog 10 #[.pointer (some ⟨br, 0, none⟩), .int .i64 x.id, .int .u64 x.tick] w fun e w' => e = .returned (.int .i64 (pt L0 x.id x.tick).1) ∧ PS w0 b br g x now L0 (pt L0 x.id x.tick).2 b1 true w' := by
  obtain ⟨D, v, rfl, h2, h3, h4⟩ := h
  refine (rput_any h3 h2.bl.size x.id x.tick hk hlen).mono ?_
  rintro e w' ⟨he, v', g1, g2⟩
  obtain ⟨q1, q2⟩ := keeps_page h2 hb h3 g2 h4
  exact ⟨he, D, v', rfl, q1, g1, q2⟩
theorem PS.drop (h : PS w0 b br g x now L0 (drp L0 x.id) false b2 w) (hk : Mi.Wf x.id) :
    Calls Try.prog 11 #[.pointer (some ⟨b, 0, none⟩), .int .i64 x.id] w fun e w' => e = .returned (.bool (fd L0 x.id).isSome) ∧ PS w0 b br g x now L0 (drp L0 x.id) true b2 w' := by
  obtain ⟨D, v, rfl, h2, h3, h4⟩ := h
  refine (drop_any h2.wh x.id hk).mono ?_
  rintro e w' ⟨he, D', g1, g2⟩
  obtain ⟨q1, q2⟩ := keeps_wheel h2.wh g2 h3 h4
  exact ⟨he, D', v, g2.b, h2.step g2 g1, q1, q2⟩
theorem PS.rdrop (h : PS w0 b br g x now L0 (drp L0 x.id) b1 false w) (hb : w0.heap.size ≤ br) :
    Calls Try.prog 12 #[.pointer (some ⟨br, 0, none⟩), .int .i64 x.id] w fun e w' => e = .returned (.bool (fd L0 x.id).isSome) ∧ PS w0 b br g x now L0 (drp L0 x.id) b1 true w' := by
  obtain ⟨D, v, rfl, h2, h3, h4⟩ := h
  refine (rdrop_any h3 h2.bl.size x.id).mono ?_
  rintro e w' ⟨he, v', g1, g2, _⟩
  have hm : Mv (rfp br v) w w' := ⟨g2.os, g2.tape, g2.output, g2.size, fun k hk hn => g2.block k hk (fun e => hn (Or.inl e))⟩
  obtain ⟨q1, q2⟩ := keeps_page h2 hb h3 hm h4
  exact ⟨he, D, v', rfl, q1, g1, q2⟩
/-- the program's wheel has turned, the page's not yet -/
def MidT (w0 : World) (b br g : Nat) (x : A) (now : Nat) (L : List T) (pv : Option Addr) (n cv : Nat) (w' : World) : Prop :=
  ∃ D v d s, D.b = b ∧ Own w0 D (max now x.tick) (hi L x.tick) w' ∧ RW w' w0.heap.size br v now L ∧ w'.heap[g]? = some (.cells #[.int .i64 x.kind, .int .i64 x.id, .int .u64 (x.tick : Nat)] 32) ∧ Srt (lo L x.tick) d ∧ d.length = n ∧ OwnT w' s (.slice pv n cv) d ∧ ∀ y, v.ownBlock = some y → y < s
theorem MidT.cells {pv : Option Addr} {n cv : Nat} {L : List T} (h : MidT w0 b br g x now L pv n cv w) : w.cell? ⟨g, 0, none⟩ = some (.int .i64 x.kind) ∧ w.cell? ⟨g, 1, none⟩ = some (.int .i64 x.id) ∧ w.cell? ⟨g, 2, none⟩ = some (.int .u64 (x.tick : Nat)) := by
  obtain ⟨D, v, d, s, _, _, _, hg, _⟩ := h
  refine ⟨?_, ?_, ?_⟩ <;> simp only [World.cell?, hg] <;> rfl
theorem PS.turn (h : PS w0 b br g x now L0 L1 false false w) (ha : x.tick < 2 ^ 64) :
    Calls Try.prog 14 #[.pointer (some ⟨b, 0, none⟩), .int .u64 x.tick] w fun e w' => ∃ pv n cv, e = .returned (.slice pv n cv) ∧ MidT w0 b br g x now L0 pv n cv w' := by
  obtain ⟨D, v, rfl, h2, h3, h4⟩ := h
  refine (own_turn h2 ha).mono ?_
  rintro e w' ⟨v2, d, he, hsr, hod, D', hb, ho, hst⟩
  obtain ⟨q1, q2⟩ := keeps_wheel h2.wh hst h3 h4
  obtain ⟨p, cap, hv, _, _⟩ := hod.view
  subst hv
  exact ⟨p, d.length, cap, he, D', v, d, w.heap.size, hb, ho, q1, q2, hsr, rfl, hod, fun y e => (h3.own.kind e).2.1⟩
/-- both have turned: they tell the same -/
def EndT (w0 : World) (b br g : Nat) (x : A) (now : Nat) (L : List T) (pv : Option Addr) (n : Nat) (pu : Option Addr) (m : Nat) (w : World) : Prop :=
  ∃ D v d, D.b = b ∧ Own w0 D now L w ∧ RW w w0.heap.size br v now L ∧ w.heap[g]? = some (.cells #[.int .i64 x.kind, .int .i64 x.id, .int .u64 (x.tick : Nat)] 32) ∧ d.length = n ∧ d.length = m ∧ n ≤ 100000 ∧ TC w pv d ∧ TC w pu d
theorem MidT.rturn {pv : Option Addr} {n cv : Nat} {L : List T} (h : MidT w0 b br g x now L pv n cv w) (hb : w0.heap.size ≤ br) :
    Calls Try.prog 15 #[.pointer (some ⟨br, 0, none⟩), .int .u64 x.tick] w fun e w' => ∃ pu m cu, e = .returned (.slice pu m cu) ∧ EndT w0 b br g x (max now x.tick) (hi L x.tick) pv n pu m w' := by
  obtain ⟨D, v, d, s, rfl, h2, h3, h4, hsr, hn, hod, hlt⟩ := h
  refine (rturn_any h3 h2.bl.size).mono ?_
  rintro e w' ⟨u, d2, v', he, hs2, ho2, hrw, hmv⟩
  have hdd : d = d2 := hsr.one hs2
  subst hdd
  obtain ⟨q1, q2⟩ := keeps_page h2 hb h3 hmv h4
  have hod2 : OwnT w' s (.slice pv n cv) d := hod.block (fun g e => hmv.block g (hod.kind e).2.1 (fun hf => by
    rcases hf with e2 | e2
    · obtain ⟨_, _, cs, e3⟩ := hod.kind e
      obtain ⟨cs2, e4⟩ := h3.kind
      rw [e2, e4] at e3
      injection e3 with e3
      injection e3 with _ e3
      exact absurd e3 (by decide)
    · have h5 := hlt g e2
      have h6 := (hod.kind e).1
      omega))
  obtain ⟨p, cap, hv, _, htc⟩ := ho2.view
  subst hv
  obtain ⟨p3, c3, hv3, _, htc3⟩ := hod2.view
  injection hv3 with e1 e2 e3
  subst e1
  have hlen : d.length ≤ 1000 := by
    have e4 : d.length = (lo L x.tick).length := hsr.1.length_eq
    have e5 := List.length_filter_le (fun y => decide (y.2 ≤ x.tick)) L
    have e6 := h3.len
    unfold lo at e4
    omega
  exact ⟨p, d.length, cap, he, D, v', d, rfl, q1, hrw, q2, hn, rfl, by omega, htc3, htc⟩
theorem EndT.same {pv pu : Option Addr} {n m cv cu : Nat} {L : List T} (h : EndT w0 b br g x now L pv n pu m w) :
    Calls Try.prog 13 #[.slice pv n cv, .slice pu m cu] w fun e w' => e = .returned (.bool true) ∧ Hid (PS w0 b br g x now L L false false w') := by
  obtain ⟨D, v, d, hb, ho, hr, hact, hn, hm, hle, t1, t2⟩ := h
  refine (same_any d d pv pu n m cv cu w hn hm hle (by omega) t1 t2).mono ?_
  rintro e w' ⟨he, hbl⟩
  rw [he]
  exact ⟨ret_bool' (by simp), Lib.hid ⟨D, v, hb, ho.below hbl, hr.below hbl (Nat.le_refl _), (hbl.block g (glt hact)).trans hact⟩⟩
end
end Go.Proofs.Ytjppbmkoblbfeaa
