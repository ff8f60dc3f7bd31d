/-
  LAYER 14 (fifo), part G: a queue made since w0; num; the page's example.
-/
import Derived.Test.YtcfmbdcklapmhaaFifoD
import Derived.Test.YtcfmbdcklapmhaaFifoF
namespace Go.Proofs.Ytcfmbdcklapmhaa
open Go.RowKit Fq Ft Bt
set_option linter.unusedVariables false
namespace Fq
/-- a new item is laid, and filled -/
theorem made (w2 : World) (x : It) : ∃ W3 W4, w2.alloc (.cells #[.int .i64 0, .int .i64 0] 32) = W3 ∧ W3.setRow w2.heap.size (ic x) = W4 ∧ IB W3 w2.heap.size it0 ∧ IB W4 w2.heap.size x ∧ Below w2.heap.size w2 W4 :=
  ⟨_, _, rfl, rfl, IB.made w2 it0, (IB.made w2 it0).row x, below_row ((Below.refl _ _).alloc (Nat.le_refl _) _) (Nat.le_refl _) _⟩
/-- the queue at block b, made since w0 -/
def OQ (w0 : World) (b : Nat) (L : List It) (w : World) : Prop := ∃ D ns, D.b = b ∧ Qb w D ns ∧ its ns = L ∧ (∀ x, fp D ns x → w0.heap.size ≤ x) ∧ Below w0.heap.size w0 w
def ODid (w0 : World) (b : Nat) (L : List It) (R : Value) (e : Ending) (w' : World) : Prop := e = .returned R ∧ OQ w0 b L w'
/-- blocks of other types are as they were -/
def Keep (w w' : World) : Prop := ∀ g T, T ≠ 53 → T ≠ 50 → Kd w g T → w'.heap[g]? = w.heap[g]?
section
variable {w0 w w' : World} {b : Nat} {L L' : List It} {f : FuncId} {args : Array Value} {R : Value}
theorem OQ.below (h : OQ w0 b L w) (hb : Below w.heap.size w w') : OQ w0 b L w' := by
  obtain ⟨D, ns, e, h1, h2, h3, h4⟩ := h
  exact ⟨D, ns, e, h1.below hb (Nat.le_refl _), h2, h3, h4.trans (hb.mono h4.size)⟩
theorem OQ.bl (h : OQ w0 b L w) : Below w0.heap.size w0 w := by
  obtain ⟨D, ns, e, h1, h2, h3, h4⟩ := h
  exact h4
theorem OQ.keys (h : OQ w0 b L w) : Ks L := by
  obtain ⟨D, ns, e, h1, h2, h3, h4⟩ := h
  rw [← h2]
  exact h1.keys
theorem OQ.ok (h : OQ w0 b L w) : ∀ x ∈ L, Okk x := by
  obtain ⟨D, ns, e, h1, h2, h3, h4⟩ := h
  rw [← h2]
  exact h1.ok
theorem OQ.call (h : OQ w0 b L w) (hc : ∀ D ns, Qb w D ns → its ns = L → D.b = b → Calls Try.prog f args w fun e w' => e = .returned R ∧ Qg w D ns L' w') :
    Calls Try.prog f args w fun e w' => e = .returned R ∧ OQ w0 b L' w' ∧ Keep w w' := by
  obtain ⟨D, ns, e, h1, h2, h3, h4⟩ := h
  refine (hc D ns h1 h2 e).mono ?_
  rintro e2 w' ⟨he, ns', q1, q2, q3⟩
  refine ⟨he, ⟨D, ns', e, q2, q1, fun x hx => ?_, h4.trans (q3.mv.below h4.size (fun k hk hf => by have := h3 k hf; omega))⟩, fun g T hT1 hT2 hg => q3.mv.block g hg.lt (h1.off hg hT1 hT2)⟩
  rcases q3.own x hx with h7 | h7
  · exact h3 x h7
  · exact Nat.le_trans h4.size h7
def OMade (w0 : World) (e : Ending) (w' : World) : Prop := ∃ b, e = .returned (.pointer (some ⟨b, 0, none⟩)) ∧ OQ w0 b [] w'
theorem OQ.push (h : OQ w0 b L w) (x : It) (hk : Mi.Wf x.1) (hlen : L.length < 100000) :
    Calls Try.prog 9 #[.pointer (some ⟨b, 0, none⟩), .agg #[.int .i64 x.1, .int .i64 x.2]] w fun e w' => e = .returned (.int .i64 (pe L x)) ∧ OQ w0 b (pu L x) w' ∧ Keep w w' :=
  h.call (fun D ns q1 q2 q3 => by
    have h9 := fq_push q1 x hk (by rw [← its_len, q2]; exact hlen)
    rw [q2, q3] at h9
    exact h9)
theorem OQ.drop (h : OQ w0 b L w) (k : Int) (hk : Mi.Wf k) :
    Calls Try.prog 11 #[.pointer (some ⟨b, 0, none⟩), .int .i64 k] w fun e w' => e = .returned (hv ((fd L k).map fun c => (k, c))) ∧ OQ w0 b (drp L k) w' ∧ Keep w w' :=
  h.call (fun D ns q1 q2 q3 => by
    have h9 := fq_drop q1 hk
    rw [q2, q3] at h9
    exact h9)
theorem OQ.pop (h : OQ w0 b L w) :
    Calls Try.prog 10 #[.pointer (some ⟨b, 0, none⟩)] w fun e w' => e = .returned (hv L.head?) ∧ OQ w0 b L.tail w' ∧ Keep w w' :=
  h.call (fun D ns q1 q2 q3 => by
    have h9 := fq_pop q1
    rw [q2, q3] at h9
    exact h9)
theorem OQ.head (h : OQ w0 b L w) : Calls Try.prog 14 #[.pointer (some ⟨b, 0, none⟩)] w fun e w' => e = .returned (hv L.head?) ∧ Below w.heap.size w w' := by
  obtain ⟨D, ns, e, h1, h2, h3, h4⟩ := h
  have h9 := fq_head h1
  rw [h2, e] at h9
  exact h9
theorem OQ.all (h : OQ w0 b L w) : Calls Try.prog 16 #[.pointer (some ⟨b, 0, none⟩)] w (Rowi w L) := by
  obtain ⟨D, ns, e, h1, h2, h3, h4⟩ := h
  have h9 := fq_all h1
  rw [h2, e] at h9
  exact h9
theorem OQ.len (h : OQ w0 b L w) : Calls Try.prog 17 #[.pointer (some ⟨b, 0, none⟩)] w fun e w' => e = .returned (.int .i64 L.length) ∧ w' = w := by
  obtain ⟨D, ns, e, h1, h2, h3, h4⟩ := h
  have h9 := fq_len h1
  rw [← its_len, h2, e] at h9
  exact h9
theorem OQ.cost (h : OQ w0 b L w) : Calls Try.prog 18 #[.pointer (some ⟨b, 0, none⟩)] w fun e w' => e = .returned (.int .i64 (cst L)) ∧ w' = w := by
  obtain ⟨D, ns, e, h1, h2, h3, h4⟩ := h
  have h9 := fq_cost h1
  rw [h2, e] at h9
  exact h9
theorem OQ.has (h : OQ w0 b L w) (k : Int) (hk : Mi.Wf k) : Calls Try.prog 20 #[.pointer (some ⟨b, 0, none⟩), .int .i64 k] w fun e w' => e = .returned (.bool (fd L k).isSome) ∧ w' = w := by
  obtain ⟨D, ns, e, h1, h2, h3, h4⟩ := h
  have h9 := fq_has h1 hk
  rw [h2, e] at h9
  exact h9
end
end Fq
theorem oq_new (w : World) : Calls Try.prog 6 #[] w (OMade w) := by
  refine (fq_new w).mono ?_
  rintro e w' ⟨D, he, h1, h2, h3⟩
  exact ⟨D.b, he, D, [], rfl, h1, rfl, h2, h3⟩
theorem fq_num (k : Int) (w : World) : Calls Try.prog 8 #[.int .i64 k] w fun e w' => e = .returned (.int .i64 k) ∧ w' = w := by
  go_enter Try.func8, Try.ntmps8
  go_wp2
  go_ret
  exact ⟨rfl, rfl⟩
namespace Fq
theorem binOp_eqF {P : Program} {w : World} {T : TypeId} {x y : Array Value} (h : (Op.equal T (.agg x) (.agg y)).run P w = .ok true w) : (binOp .eql T (.agg x) (.agg y)).run P w = .ok (.bool true) w := by
  simp only [binOp]
  simp [h]
/-- '==' of two items that are the same -/
theorem eql_item (p q : Int) (w : World) : (binOp .eql 32 (.agg #[.int .i64 p, .int .i64 q]) (.agg #[.int .i64 p, .int .i64 q])).run Try.prog w = .ok (.bool true) w :=
  binOp_eqF (eq_item_at 9998 (p, q) w)
theorem p1 : pe [] (1, 5) = 0 ∧ pu [] (1, 5) = [(1, 5)] := by decide
theorem p2 : pe [(1, 5)] (2, 3) = 0 ∧ pu [(1, 5)] (2, 3) = [(1, 5), (2, 3)] := by decide
theorem p3 : hv ((fd [(1, 5), (2, 3)] 1).map fun c => (1, c)) = .tuple #[.agg #[.int .i64 1, .int .i64 5], .bool true] ∧ drp [(1, 5), (2, 3)] 1 = [(2, 3)] := ⟨rfl, by decide⟩
theorem p4 : hv ([(2, 3)] : List It).head? = .tuple #[.agg #[.int .i64 2, .int .i64 3], .bool true] := rfl
end Fq
namespace fifo14
set_option maxHeartbeats 1000000 in
theorem live_any (w : World) : Calls Try.prog 5 #[] w fun e w' => e = .returned (.bool true) ∧ Below w.heap.size w w' := by
  have HN := Lib.hid (oq_new w)
  go_enter Try.func5, Try.ntmps5
  go_wp2_with (go_at_call 6; refine HN.out.mono ?_)
  rintro e w1 ⟨b, rfl, o1⟩
  have P1 := o1.push (1, 5) rfl (by decide)
  rw [p1.1, p1.2] at P1
  have HP1 := Lib.hid P1
  clear o1 HN P1
  go_wp2_with (go_at_call 9; refine HP1.out.mono ?_)
  rintro e w2 ⟨rfl, o2, _⟩
  have P2 := o2.push (2, 3) rfl (by decide)
  rw [p2.1, p2.2] at P2
  have HP2 := Lib.hid P2
  clear o2 HP1 P2
  go_wp2_with (go_at_call 9; refine HP2.out.mono ?_)
  rintro e w3 ⟨rfl, o3, _⟩
  have P3 := o3.drop 1 rfl
  rw [p3.1, p3.2] at P3
  have HP3 := Lib.hid P3
  clear o3 HP2 P3
  go_wp2_with (go_at_call 11; refine HP3.out.mono ?_)
  rintro e w4 ⟨rfl, o4, _⟩
  obtain ⟨W5, W6, hW5, hW6, hi5, hi6, hb6⟩ := made w4 (1, 5)
  have o6 := o4.below hb6
  have P4 := o6.head
  rw [p4] at P4
  have HP4 := Lib.hid P4
  have HI5 := Lib.hid hi5
  have HI6 := Lib.hid hi6
  have HW6 := Lib.hid hW6
  have HB6 := Lib.hid o6.bl
  have HI := Lib.hid (item_info (1, 5))
  have HO := Lib.hid (item_one (1, 5))
  clear o4 HP3 P4 hi5 hi6 hb6 o6 hW6
  go_wp2_with (first
    | (refine wpList_store_row rfl 32 _ _ rfl w4.heap.size (ic (1, 5)) rfl rfl 32 (ic it0) HI5.out HI.out rfl HO.out ?_; rw [HW6.out])
    | (go_at_call 14; with_reducible refine HP4.out.mono ?_))
  first | rintro e w7 rfl hb7 | rintro e w7 ⟨rfl, hb7⟩
  obtain ⟨W8, W9, hW8, hW9, hi8, hi9, hb9⟩ := made w7 (2, 3)
  obtain ⟨d0, d1⟩ := hi9.cells
  obtain ⟨g0, g1⟩ := ((HI6.out.below hb7).below hb9).cells
  have hbf := below_next (below_next HB6.out hb7) hb9
  simp only at d0 d1 g0 g1
  have HI8 := Lib.hid hi8
  have HW9 := Lib.hid hW9
  have HBF := Lib.hid hbf
  have HI' := Lib.hid (item_info (2, 3))
  have HO' := Lib.hid (item_one (2, 3))
  have HNUM := Lib.hid fq_num
  have heq := eql_item 2 3
  clear hb7 hi8 hi9 hb9 hbf hW9 HP4 HI6 HB6 hW5 HI5 HW6
  go_wp2_with (first
    | (refine wpList_store_row rfl 32 _ _ rfl w7.heap.size (ic (2, 3)) rfl rfl 32 (ic it0) HI8.out HI'.out rfl HO'.out ?_; rw [HW9.out])
    | (go_at_call 8; refine (HNUM.out _ _).mono ?_; rintro e w' ⟨rfl, hw⟩; rw [hw]; clear hw))
  go_ret
  exact ⟨rfl, HBF.out⟩
end fifo14
end Go.Proofs.Ytcfmbdcklapmhaa
