/-
  CONTRACTS OF LAYER 14 (fifo), part B: a queue in memory; New, Has, Len, Cost, Head.
-/
import Derived.Test.YtcfmbdcklapmhaaFifoA
namespace Go.Proofs.Ytcfmbdcklapmhaa
open Go.RowKit Fq Ft
set_option linter.unusedVariables false
namespace Fq
/-- where a queue lies -/
structure Fl where
  b : Nat
  e : Nat
  m : Nat
def mf (ns : List Nd) (s : Int) : Option Value := (fb ns s).map pv
structure Qb (w : World) (D : Fl) (ns : List Nd) : Prop where
  kind : Kd w D.b 53
  c0 : w.cell? ⟨D.b, 0, none⟩ = some (pv D.e)
  c1 : w.cell? ⟨D.b, 1, none⟩ = some (.map (some D.m))
  c2 : w.cell? ⟨D.b, 2, none⟩ = some (.int .i64 (cst (its ns)))
  ring : Ring w D.e ns
  mp : Mi.Is Try.prog 3 w D.m (mf ns) ns.length
  keys : Ks (its ns)
  ok : ∀ x ∈ its ns, Okk x
  len : ns.length ≤ 100000
def fp (D : Fl) (ns : List Nd) (x : Nat) : Prop := x = D.b ∨ x = D.m ∨ rfp D.e ns x
section
variable {w w' : World} {D : Fl} {ns : List Nd}
theorem Qb.lt (h : Qb w D ns) {x : Nat} (hx : fp D ns x) : x < w.heap.size := by
  rcases hx with rfl | rfl | hx
  · exact h.kind.lt
  · exact h.mp.lt
  · exact (h.ring.kd hx).lt
theorem Qb.same (h : Qb w D ns) (hb : ∀ x, fp D ns x → w'.heap[x]? = w.heap[x]?) : Qb w' D ns where
  kind := h.kind.block (hb _ (Or.inl rfl))
  c0 := by rw [World.cell?_of_block (hb _ (Or.inl rfl))]; exact h.c0
  c1 := by rw [World.cell?_of_block (hb _ (Or.inl rfl))]; exact h.c1
  c2 := by rw [World.cell?_of_block (hb _ (Or.inl rfl))]; exact h.c2
  ring := h.ring.same (fun x hx => hb x (Or.inr (Or.inr hx)))
  mp := h.mp.block (hb _ (Or.inr (Or.inl rfl)))
  keys := h.keys
  ok := h.ok
  len := h.len
theorem Qb.mv {S : Nat → Prop} (h : Qb w D ns) (hm : Mv S w w') (hs : ∀ x, fp D ns x → ¬ S x) : Qb w' D ns := h.same fun x hx => hm.block x (h.lt hx) (hs x hx)
theorem Qb.below {B : Nat} (h : Qb w D ns) (hm : Below B w w') (hB : w.heap.size ≤ B) : Qb w' D ns := h.same fun x hx => hm.block x (Nat.lt_of_lt_of_le (h.lt hx) hB)
theorem Qb.b_ring (h : Qb w D ns) : ¬ rfp D.e ns D.b := fun hx => (h.kind.ne (h.ring.kd hx) (by decide)) rfl
theorem kd_imap {P : Program} {K : TypeId} {b x N : Nat} {t : TypeId} {f : Int → Option Value} (h : Mi.Is P K w b f N) (hk : Kd w x t) : x ≠ b := by
  intro e
  obtain ⟨es, c, h1⟩ := h.kind
  obtain ⟨cs, h2⟩ := hk
  rw [e, h1] at h2
  cases h2
theorem Qb.b_m (h : Qb w D ns) : D.b ≠ D.m := kd_imap h.mp h.kind
theorem Qb.m_ring (h : Qb w D ns) : ¬ rfp D.e ns D.m := fun hx => kd_imap h.mp (h.ring.kd hx) rfl
/-- what is cells of another type is no queue's -/
theorem Qb.off (h : Qb w D ns) {x : Nat} {t : TypeId} (hk : Kd w x t) (h1 : t ≠ 53) (h2 : t ≠ 50) : ¬ fp D ns x := by
  rintro (rfl | rfl | hx)
  · exact (h.kind.ne hk (Ne.symm h1)) rfl
  · exact kd_imap h.mp hk rfl
  · exact ((h.ring.kd hx).ne hk (Ne.symm h2)) rfl
/-- a queue that has come out of another -/
def Qg (w0 : World) (D : Fl) (ns0 : List Nd) (L : List It) (w : World) : Prop := ∃ ns, its ns = L ∧ Qb w D ns ∧ Gs (fp D ns0) w0 (fp D ns) w
theorem Qg.start (h : Qb w D ns) : Qg w D ns (its ns) w := ⟨ns, rfl, h, Gs.refl _ _⟩
theorem Qg.below {w0 : World} {L : List It} (h : Qg w0 D ns L w) (hb : Below w.heap.size w w') : Qg w0 D ns L w' := by
  obtain ⟨ns', e, h1, h2⟩ := h
  exact ⟨ns', e, h1.below hb (Nat.le_refl _), h2.trans (Gs.below hb)⟩
/-- an item as a value -/
def ic (x : It) : Array Value := #[.int .i64 x.1, .int .i64 x.2]
def iv (x : It) : Value := .agg (ic x)
/-- an item, or none -/
def hv (o : Option It) : Value := .tuple #[iv (o.getD it0), .bool o.isSome]
theorem wf_id {L : List It} (h : ∀ x ∈ L, Okk x) {x : It} (hx : x ∈ L) : Mi.Wf x.1 := by
  have h1 := h x hx
  unfold Okk at h1
  unfold Mi.Wf
  simp [Lit.wf, IntKind.min, IntKind.max, IntKind.signed, IntKind.bits]
  omega
theorem wf_zero : Mi.Wf 0 := rfl
end
end Fq
def NewsQ (w : World) (e : Ending) (w' : World) : Prop := ∃ D, e = .returned (.pointer (some ⟨D.b, 0, none⟩)) ∧ Qb w' D [] ∧ (∀ x, fp D [] x → w.heap.size ≤ x) ∧ Below w.heap.size w w'
theorem fq_new (w : World) : Calls Try.prog 6 #[] w (NewsQ w) := by
  have hmm := @run_makeMap Try.prog
  go_enter Try.func6, Try.ntmps6
  go_wp2
  go_ret
  obtain ⟨W1, hW1⟩ : ∃ W1, w.alloc (.cells #[.pointer (some ⟨w.heap.size, 0, none⟩), .pointer (some ⟨w.heap.size, 0, none⟩), .int .i64 0, .int .i64 0] 50) = W1 := ⟨_, rfl⟩
  have hs1 : W1.heap.size = w.heap.size + 1 := by rw [← hW1]; simp
  have e1 : W1.heap[w.heap.size]? = some (.cells #[.pointer (some ⟨w.heap.size, 0, none⟩), .pointer (some ⟨w.heap.size, 0, none⟩), .int .i64 0, .int .i64 0] 50) := by rw [← hW1]; exact (MapKept.heap_alloc _ _).1
  have b1 : Below w.heap.size w W1 := by rw [← hW1]; exact (Below.refl _ _).alloc (Nat.le_refl _) _
  rw [hW1]
  obtain ⟨W2, hW2⟩ : ∃ W2, W1.alloc (.map #[] 0) = W2 := ⟨_, rfl⟩
  have hs2 : W2.heap.size = w.heap.size + 1 + 1 := by rw [← hW2]; simp [hs1]
  have e2 : W2.heap[w.heap.size]? = some (.cells #[.pointer (some ⟨w.heap.size, 0, none⟩), .pointer (some ⟨w.heap.size, 0, none⟩), .int .i64 0, .int .i64 0] 50) := by rw [← hW2]; exact ((MapKept.heap_alloc _ _).2 _ (by omega)).trans e1
  have m2 : Mi.Is Try.prog 3 W2 (w.heap.size + 1) (fun _ => none) 0 := by rw [← hW2, ← hs1]; exact Mi.Is.made W1
  have b2 : Below w.heap.size w W2 := by rw [← hW2]; exact b1.alloc (by omega) _
  rw [hW2]
  obtain ⟨W3, hW3⟩ : ∃ W3, W2.alloc (.cells #[.pointer (some ⟨w.heap.size, 0, none⟩), .map (some (w.heap.size + 1)), .int .i64 0] 53) = W3 := ⟨_, rfl⟩
  have e3 : W3.heap[w.heap.size]? = some (.cells #[.pointer (some ⟨w.heap.size, 0, none⟩), .pointer (some ⟨w.heap.size, 0, none⟩), .int .i64 0, .int .i64 0] 50) := by rw [← hW3]; exact ((MapKept.heap_alloc _ _).2 _ (by omega)).trans e2
  have m3 : Mi.Is Try.prog 3 W3 (w.heap.size + 1) (fun _ => none) 0 := by rw [← hW3]; exact m2.block ((MapKept.heap_alloc _ _).2 _ (by omega))
  have t3 : W3.heap[w.heap.size + 1 + 1]? = some (.cells #[.pointer (some ⟨w.heap.size, 0, none⟩), .map (some (w.heap.size + 1)), .int .i64 0] 53) := by rw [← hW3, ← hs2]; exact (MapKept.heap_alloc _ _).1
  have b3 : Below w.heap.size w W3 := by rw [← hW3]; exact b2.alloc (by omega) _
  rw [hW3]
  refine ⟨⟨w.heap.size + 1 + 1, w.heap.size, w.heap.size + 1⟩, rfl, {
    kind := ⟨_, t3⟩
    c0 := by simp only [World.cell?, t3]; rfl
    c1 := by simp only [World.cell?, t3]; rfl
    c2 := by simp only [World.cell?, t3]; rfl
    ring := {
      ek := ⟨_, e3⟩
      nk := fun n hn => by cases hn
      th := fun n hn => by cases hn
      ln := ⟨⟨by simp only [World.cell?, e3]; rfl, by simp only [World.cell?, e3]; rfl⟩, trivial⟩
      nd := by simp }
    mp := m3.ext (fun s => rfl)
    keys := List.nodup_nil
    ok := fun x hx => by cases hx
    len := by simp }, ?_, b3⟩
  intro x hx
  rcases hx with rfl | rfl | rfl | hx
  · show w.heap.size ≤ w.heap.size + 1 + 1; omega
  · show w.heap.size ≤ w.heap.size + 1; omega
  · exact Nat.le_refl _
  · cases hx
section
variable {w w' : World} {D : Fl} {ns : List Nd}
theorem fq_has (h : Qb w D ns) {k : Int} (hk : Mi.Wf k) : Calls Try.prog 20 #[.pointer (some ⟨D.b, 0, none⟩), .int .i64 k] w fun e w' => e = .returned (.bool (fd (its ns) k).isSome) ∧ w' = w := by
  have hc := h.c1
  have hm := h.mp
  have hf : mf ns k = (fb ns k).map pv := rfl
  have hs := fb_fd ns k
  clear h
  cases hx : fb ns k with
  | none =>
    rw [hx] at hf hs
    rw [← hs]
    clear hs hx
    go_enter Try.func20, Try.ntmps20
    go_wp2_with (at_lookup; (refine Mi.wp_look_w _ (by rfl) _ _ 51 3 48 rfl Try.underlying51 Try.underlying3 (.pointer none) (by kernel_rfl) D.m _ _ rfl hm k hk rfl ?_; rw [hf]; simp only [Option.map_none, Option.getD_none]))
    go_ret
    exact ⟨rfl, rfl⟩
  | some x =>
    rw [hx] at hf hs
    rw [← hs]
    unfold pv at hf
    clear hs hx
    go_enter Try.func20, Try.ntmps20
    go_wp2_with (at_lookup; (refine Mi.wp_look_w _ (by rfl) _ _ 51 3 48 rfl Try.underlying51 Try.underlying3 (.pointer none) (by kernel_rfl) D.m _ _ rfl hm k hk rfl ?_; rw [hf]; simp only [Option.map_some, Option.getD_some]))
    go_ret
    exact ⟨rfl, rfl⟩
theorem fq_has_nil (k : Int) (w : World) : Calls Try.prog 20 #[.pointer none, .int .i64 k] w fun e w' => e = .returned (.bool false) ∧ w' = w := by
  go_enter Try.func20, Try.ntmps20
  go_wp2
  go_ret
  exact ⟨rfl, rfl⟩
theorem fq_len (h : Qb w D ns) : Calls Try.prog 17 #[.pointer (some ⟨D.b, 0, none⟩)] w fun e w' => e = .returned (.int .i64 ns.length) ∧ w' = w := by
  have hc := h.c1
  have hm := h.mp
  obtain ⟨n, hn⟩ : ∃ n, ns.length = n := ⟨_, rfl⟩
  rw [hn] at hm ⊢
  clear h hn
  go_enter Try.func17, Try.ntmps17
  go_wp2_with (at_len; refine Mi.wp_len _ rfl _ 51 3 48 rfl Try.underlying51 D.m n _ rfl hm ?_)
  go_ret
  exact ⟨rfl, rfl⟩
theorem fq_len_nil (w : World) : Calls Try.prog 17 #[.pointer none] w fun e w' => e = .returned (.int .i64 0) ∧ w' = w := by
  go_enter Try.func17, Try.ntmps17
  go_wp2
  go_ret
  exact ⟨rfl, rfl⟩
theorem fq_cost (h : Qb w D ns) : Calls Try.prog 18 #[.pointer (some ⟨D.b, 0, none⟩)] w fun e w' => e = .returned (.int .i64 (cst (its ns))) ∧ w' = w := by
  have hc := h.c2
  obtain ⟨n, hn⟩ : ∃ n, cst (its ns) = n := ⟨_, rfl⟩
  rw [hn] at hc ⊢
  clear h hn
  go_enter Try.func18, Try.ntmps18
  go_wp2
  go_ret
  exact ⟨rfl, rfl⟩
theorem fq_cost_nil (w : World) : Calls Try.prog 18 #[.pointer none] w fun e w' => e = .returned (.int .i64 0) ∧ w' = w := by
  go_enter Try.func18, Try.ntmps18
  go_wp2
  go_ret
  exact ⟨rfl, rfl⟩
/-- the place in the ring -/
def Fq.pl (e : Nat) (ns : List Nd) (j : Nat) : Nat := (ns.map (·.1)).getD j e
theorem Fq.Ring.at {w : World} {e : Nat} {ns : List Nd} (h : Ring w e ns) : w.cell? ⟨e, 1, none⟩ = some (pv (pl e ns 0)) ∧ ∀ j x, ns[j]? = some x → pl e ns j = x.1 ∧ w.cell? ⟨x.1, 1, none⟩ = some (pv (pl e ns (j + 1))) := by
  have h1 := h.ln
  unfold cl at h1
  have key : ∀ (l : List Nd) (y : Nat), Ln (Rw w) (y :: (l.map (·.1) ++ [e])) → w.cell? ⟨y, 1, none⟩ = some (pv (pl e l 0)) ∧ ∀ j x, l[j]? = some x → pl e l j = x.1 ∧ w.cell? ⟨x.1, 1, none⟩ = some (pv (pl e l (j + 1))) := by
    intro l
    induction l with
    | nil => exact fun y hy => ⟨hy.1.1, fun j x hx => by simp at hx⟩
    | cons a t ih =>
      intro y hy
      rw [List.map_cons, List.cons_append] at hy
      obtain ⟨r1, r2⟩ := Ln.cons2.1 hy
      obtain ⟨i1, i2⟩ := ih a.1 r2
      refine ⟨r1.1, fun j x hx => ?_⟩
      cases j with
      | zero =>
        simp only [List.getElem?_cons_zero] at hx
        injection hx with hx
        subst hx
        exact ⟨rfl, i1⟩
      | succ j =>
        rw [List.getElem?_cons_succ] at hx
        exact i2 j x hx
  exact key ns e h1
theorem Fq.item_info (x : It) : (Try.prog.info? 32).map (·.size) = some (ic x).size := by kernel_rfl
theorem Fq.item_one (x : It) : (ic x).all (·.oneCell') = true := by kernel_rfl
theorem Fq.below_row {B g : Nat} {w w' : World} (h : Below B w w') (hg : B ≤ g) (cs : Array Value) : Below B w (w'.setRow g cs) :=
  ⟨by rw [setRow_os]; exact h.os, by rw [setRow_tape]; exact h.tape, by rw [setRow_output]; exact h.output, by rw [setRow_size]; exact h.size, fun k hk => by rw [setRow_other _ _ _ _ (by omega)]; exact h.block k hk⟩
/-- block g is this item -/
def Fq.IB (w : World) (g : Nat) (x : It) : Prop := w.heap[g]? = some (.cells (ic x) 32)
theorem Fq.IB.made (w : World) (x : It) : IB (w.alloc (.cells (ic x) 32)) w.heap.size x := (MapKept.heap_alloc w _).1
theorem Fq.IB.row {w : World} {g : Nat} {x : It} (h : IB w g x) (y : It) : IB (w.setRow g (ic y)) g y := setRow_heap _ _ _ _ _ _ h
theorem Fq.IB.block {w w' : World} {g : Nat} {x : It} (h : IB w g x) (hb : w'.heap[g]? = w.heap[g]?) : IB w' g x := by unfold IB; rw [hb]; exact h
theorem Fq.IB.lt {w : World} {g : Nat} {x : It} (h : IB w g x) : g < w.heap.size := (Array.getElem?_eq_some_iff.1 h).1
theorem Fq.IB.below {w w' : World} {g : Nat} {x : It} (h : IB w g x) (hb : Below w.heap.size w w') : IB w' g x := h.block (hb.block g h.lt)
theorem Fq.IB.cells {w : World} {g : Nat} {x : It} (h : IB w g x) : w.cell? ⟨g, 0, none⟩ = some (.int .i64 x.1) ∧ w.cell? ⟨g, 1, none⟩ = some (.int .i64 x.2) := by
  unfold IB at h
  constructor <;> simp only [World.cell?, h] <;> rfl
theorem Fq.results_item {fn : Func} {p u : Tmp} (h : fn.results = #[.cell p 32, .tmp u]) (tmps : Array Value) (w : World) (g : Nat) (x : It)
    (hp : tmps.getD p undef = .pointer (some ⟨g, 0, none⟩)) (hr : IB w g x) {b : Value} (hx : tmps.getD u undef = b) :
    (results fn tmps).run Try.prog w = .ok (.tuple #[iv x, b]) w := by
  rw [results_cell_tmp h, hp]
  simp only [asAddr, Sem.run_pure, Result.andThen_ok, run_loadVar_row w g _ _ _ _ _ hr Try.underlying32 rfl (item_info x), hx]
  rfl
theorem fq_head (h : Qb w D ns) : Calls Try.prog 14 #[.pointer (some ⟨D.b, 0, none⟩)] w fun e w' => e = .returned (hv (its ns).head?) ∧ Below w.heap.size w w' := by
  obtain ⟨W1, hW1⟩ : ∃ W, w.alloc (.cells #[.int .i64 0, .int .i64 0] 32) = W := ⟨_, rfl⟩
  have hb1 : Below w.heap.size w W1 := by rw [← hW1]; exact (Below.refl _ _).alloc (Nat.le_refl _) _
  have h1 := h.below hb1 (Nat.le_refl _)
  have HB := Lib.hid hb1
  have hib : IB W1 w.heap.size it0 := by rw [← hW1]; exact IB.made w it0
  have H1 := Lib.hid hib
  have hl := fq_len h1
  cases ns with
  | nil =>
    have HL := Lib.hid hl
    have HI := Lib.hid (item_info it0)
    have HO := Lib.hid (item_one it0)
    clear h h1 hb1 hl hib
    go_enter Try.func14, Try.ntmps14
    go_wp2_with (first
      | (go_at_call 17; with_reducible refine HL.out.mono ?_; rintro e w' ⟨rfl, hw⟩; rw [hw]; clear hw)
      | refine wpList_store_row rfl 32 _ _ rfl w.heap.size (ic it0) rfl rfl 32 (ic it0) H1.out HI.out rfl HO.out ?_)
    refine bodyPost_ret (v := hv none) ?_ rfl ?_
    · exact results_item rfl _ _ w.heap.size it0 rfl (H1.out.row it0) rfl
    · exact ⟨rfl, below_row HB.out (Nat.le_refl _) _⟩
  | cons x l =>
    obtain ⟨xb, x⟩ := x
    have h0 := h1.c0
    have he := h1.ring.at.1
    have ht := h1.ring.th (xb, x) (by simp)
    obtain ⟨t2, t3⟩ := ht
    have hp : pl D.e ((xb, x) :: l) 0 = xb := rfl
    rw [hp] at he
    unfold pv at h0 he
    simp only at t2 t3
    obtain ⟨n, hn⟩ : ∃ n, ((xb, x) :: l).length = n := ⟨_, rfl⟩
    have hn0 : ((n : Int) == 0) = false := by
      rw [beq_eq_false_iff_ne]
      rw [List.length_cons] at hn
      omega
    rw [hn] at hl
    have HL := Lib.hid hl
    have HI := Lib.hid (item_info x)
    have HO := Lib.hid (item_one x)
    clear h h1 hb1 hl hp hn hib
    go_enter Try.func14, Try.ntmps14
    go_wp2_with (first
      | (go_at_call 17; with_reducible refine HL.out.mono ?_; rintro e w' ⟨rfl, hw⟩; rw [hw]; clear hw)
      | refine wpList_store_row rfl 32 _ _ rfl w.heap.size (ic x) rfl rfl 32 (ic it0) H1.out HI.out rfl HO.out ?_)
    refine bodyPost_ret (v := hv (some x)) ?_ rfl ?_
    · exact results_item rfl _ _ w.heap.size x rfl (H1.out.row x) rfl
    · exact ⟨rfl, below_row HB.out (Nat.le_refl _) _⟩
theorem fq_head_nil (w : World) : Calls Try.prog 14 #[.pointer none] w fun e w' => e = .returned (hv none) ∧ Below w.heap.size w w' := by
  obtain ⟨W1, hW1⟩ : ∃ W, w.alloc (.cells #[.int .i64 0, .int .i64 0] 32) = W := ⟨_, rfl⟩
  have hb1 : Below w.heap.size w W1 := by rw [← hW1]; exact (Below.refl _ _).alloc (Nat.le_refl _) _
  have HB := Lib.hid hb1
  have hib : IB W1 w.heap.size it0 := by rw [← hW1]; exact IB.made w it0
  have H1 := Lib.hid hib
  have HL := Lib.hid (fq_len_nil W1)
  have HI := Lib.hid (item_info it0)
  have HO := Lib.hid (item_one it0)
  clear hb1 hib
  go_enter Try.func14, Try.ntmps14
  go_wp2_with (first
    | (go_at_call 17; with_reducible refine HL.out.mono ?_; rintro e w' ⟨rfl, hw⟩; rw [hw]; clear hw)
    | refine wpList_store_row rfl 32 _ _ rfl w.heap.size (ic it0) rfl rfl 32 (ic it0) H1.out HI.out rfl HO.out ?_)
  refine bodyPost_ret (v := hv none) ?_ rfl ?_
  · exact results_item rfl _ _ w.heap.size it0 rfl (H1.out.row it0) rfl
  · exact ⟨rfl, below_row HB.out (Nat.le_refl _) _⟩
end
end Go.Proofs.Ytcfmbdcklapmhaa
