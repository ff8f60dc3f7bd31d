/-
  CONTRACTS OF LAYER 12 (lru), part C: a table in memory; held, find, New, Len, Peek.
-/
import Derived.Test.YthombaalaeefcaaLruB
namespace Go.Proofs.Ythombaalaeefcaa
open Go.RowKit Lr Ft
set_option linter.unusedVariables false
namespace Lr
/-- where a table lies -/
structure Td where
  b : Nat
  e : Nat
  m : Nat
def mf (ns : List Nd) (s : ByteArray) : Option Value := (fb ns s).map pv
structure Tb (w : World) (D : Td) (room : Nat) (ns : List Nd) : Prop where
  kind : Kd w D.b 50
  c0 : w.cell? ⟨D.b, 0, none⟩ = some (.int .i64 room)
  c1 : w.cell? ⟨D.b, 1, none⟩ = some (pv D.e)
  c2 : w.cell? ⟨D.b, 2, none⟩ = some (.map (some D.m))
  ring : Ring w D.e ns
  mp : Ms.Is Try.prog 9 w D.m (mf ns) ns.length
  keys : Ks (kvs ns)
  wf : ∀ x ∈ kvs ns, Ms.Wf x.1
  pos : 0 < room
  len : ns.length ≤ 1000
def fp (D : Td) (ns : List Nd) (x : Nat) : Prop := x = D.b ∨ x = D.m ∨ rfp D.e ns x
section
variable {w w' : World} {D : Td} {room : Nat} {ns : List Nd}
theorem Tb.lt (h : Tb w D room ns) {x : Nat} (hx : fp D ns x) : x < w.heap.size := by
  rcases hx with rfl | rfl | hx
  · exact h.kind.lt
  · exact h.mp.lt
  · exact (h.ring.kd hx).lt
theorem Tb.same (h : Tb w D room ns) (hb : ∀ x, fp D ns x → w'.heap[x]? = w.heap[x]?) : Tb w' D room ns where
  kind := h.kind.block (hb _ (Or.inl rfl))
  c0 := by rw [World.cell?_of_block (hb _ (Or.inl rfl))]; exact h.c0
  c1 := by rw [World.cell?_of_block (hb _ (Or.inl rfl))]; exact h.c1
  c2 := by rw [World.cell?_of_block (hb _ (Or.inl rfl))]; exact h.c2
  ring := h.ring.same (fun x hx => hb x (Or.inr (Or.inr hx)))
  mp := h.mp.block (hb _ (Or.inr (Or.inl rfl)))
  keys := h.keys
  wf := h.wf
  pos := h.pos
  len := h.len
theorem Tb.mv {S : Nat → Prop} (h : Tb w D room ns) (hm : Mv S w w') (hs : ∀ x, fp D ns x → ¬ S x) : Tb w' D room ns := h.same fun x hx => hm.block x (h.lt hx) (hs x hx)
theorem Tb.below {B : Nat} (h : Tb w D room ns) (hm : Below B w w') (hB : w.heap.size ≤ B) : Tb w' D room ns := h.same fun x hx => hm.block x (Nat.lt_of_lt_of_le (h.lt hx) hB)
theorem Tb.b_ring (h : Tb w D room ns) : ¬ rfp D.e ns D.b := fun hx => (h.kind.ne (h.ring.kd hx) (by decide)) rfl
theorem kd_map {P : Program} {K : TypeId} {b x N : Nat} {t : TypeId} {f : ByteArray → Option Value} (h : Ms.Is P K w b f N) (hk : Kd w x t) : x ≠ b := by
  intro e
  obtain ⟨es, c, h1⟩ := h.kind
  obtain ⟨cs, h2⟩ := hk
  rw [e, h1] at h2
  cases h2
theorem Tb.b_m (h : Tb w D room ns) : D.b ≠ D.m := kd_map h.mp h.kind
theorem Tb.m_ring (h : Tb w D room ns) : ¬ rfp D.e ns D.m := fun hx => kd_map h.mp (h.ring.kd hx) rfl
/-- a table that has come out of another -/
def Tg (w0 : World) (D : Td) (room : Nat) (ns0 : List Nd) (L : List KV) (w : World) : Prop := ∃ ns, kvs ns = L ∧ Tb w D room ns ∧ Gs (fp D ns0) w0 (fp D ns) w
theorem Tg.start (h : Tb w D room ns) : Tg w D room ns (kvs ns) w := ⟨ns, rfl, h, Gs.refl _ _⟩
theorem Tg.below {w0 : World} {L : List KV} (h : Tg w0 D room ns L w) (hb : Below w.heap.size w w') : Tg w0 D room ns L w' := by
  obtain ⟨ns', e, h1, h2⟩ := h
  exact ⟨ns', e, h1.below hb (Nat.le_refl _), h2.trans (Gs.below hb)⟩
end
end Lr
theorem assert_entry (v : Value) (w : World) : (Instr.typeAssert (.iface 52 v) 20 52 false).run Try.prog w = .ok v w := by
  simp [Instr.typeAssert, run_underlying Try.underlying52]
theorem field_key (k : ByteArray) (v : Int) (w : World) : (Instr.field 52 (.agg #[.string k, .int .i64 v]) 0).run Try.prog w = .ok (.string k) w := by kernel_rfl
theorem field_v (k : ByteArray) (v : Int) (w : World) : (Instr.field 52 (.agg #[.string k, .int .i64 v]) 1).run Try.prog w = .ok (.int .i64 v) w := by kernel_rfl
theorem held_any {w : World} {x : Nat} {k : ByteArray} {v : Int} (t : w.cell? ⟨x, 2, none⟩ = some (ev (k, v))) :
    Calls Try.prog 21 #[.pointer (some ⟨x, 0, none⟩)] w fun e w' => e = .returned (.agg #[.string k, .int .i64 v]) ∧ Below w.heap.size w w' := by
  have ha := assert_entry
  have hx := World.block_lt_of_cell? w ⟨x, 2, none⟩ t
  have hc : ∀ o, (w.alloc o).cell? ⟨x, 2, none⟩ = some (.iface 52 (.agg #[.string k, .int .i64 v])) := fun o => by
    rw [World.cell?_of_block ((MapKept.heap_alloc w o).2 x hx)]
    exact t
  have hb := fun o => (Below.refl w.heap.size w).alloc (Nat.le_refl _) o
  have HB := Lib.hid hb
  clear t hx
  go_enter Try.func21, Try.ntmps21
  go_wp2
  refine bodyPost_ret (v := .agg #[.string k, .int .i64 v]) ?_ rfl ?_
  · exact results_cell_row rfl _ _ w.heap.size _ _ _ _ rfl (MapKept.heap_alloc w _).1 Try.underlying52 rfl (by kernel_rfl)
  exact ⟨rfl, HB.out _⟩
section
variable {w w' : World} {D : Td} {room : Nat} {ns : List Nd}
theorem find_some (h : Tb w D room ns) {k : ByteArray} (hk : Ms.Wf k) {x : Nat} (hx : fb ns k = some x) :
    Calls Try.prog 23 #[.pointer (some ⟨D.b, 0, none⟩), .string k] w fun e w' => e = .returned (.pointer (some ⟨x, 0, none⟩)) ∧ w' = w := by
  have hc := h.c2
  have hm := h.mp
  have hf : mf ns k = some (pv x) := by unfold mf; rw [hx]; rfl
  unfold pv at hf
  clear h hx
  go_enter Try.func23, Try.ntmps23
  go_wp2_with (at_lookup; refine Ms.wp_look _ rfl _ _ 48 9 45 rfl Try.underlying48 Try.underlying9 (.pointer none) (by kernel_rfl) D.m _ _ rfl hm k hk rfl ?_; rw [hf]; simp only [Option.getD_some])
  go_ret
  exact ⟨rfl, rfl⟩
theorem find_none (h : Tb w D room ns) {k : ByteArray} (hk : Ms.Wf k) (hx : fb ns k = none) :
    Calls Try.prog 23 #[.pointer (some ⟨D.b, 0, none⟩), .string k] w fun e w' => e = .returned (.pointer none) ∧ w' = w := by
  have hc := h.c2
  have hm := h.mp
  have hf : mf ns k = none := by unfold mf; rw [hx]; rfl
  clear h hx
  go_enter Try.func23, Try.ntmps23
  go_wp2_with (at_lookup; refine Ms.wp_look _ rfl _ _ 48 9 45 rfl Try.underlying48 Try.underlying9 (.pointer none) (by kernel_rfl) D.m _ _ rfl hm k hk rfl ?_; rw [hf]; simp only [Option.getD_none])
  go_ret
  exact ⟨rfl, rfl⟩
theorem find_nil (k : ByteArray) (w : World) : Calls Try.prog 23 #[.pointer none, .string k] w fun e w' => e = .returned (.pointer none) ∧ w' = w := by
  go_enter Try.func23, Try.ntmps23
  go_wp2
  go_ret
  exact ⟨rfl, rfl⟩
theorem llen_any (h : Tb w D room ns) : Calls Try.prog 12 #[.pointer (some ⟨D.b, 0, none⟩)] w fun e w' => e = .returned (.int .i64 ns.length) ∧ w' = w := by
  have hc := h.c2
  have hm := h.mp
  obtain ⟨n, hn⟩ : ∃ n, ns.length = n := ⟨_, rfl⟩
  rw [hn] at hm ⊢
  clear h hn
  go_enter Try.func12, Try.ntmps12
  go_wp2_with (at_len; refine Ms.wp_len _ rfl _ 48 9 45 rfl Try.underlying48 D.m n _ rfl hm ?_)
  go_ret
  exact ⟨rfl, rfl⟩
theorem llen_nil (w : World) : Calls Try.prog 12 #[.pointer none] w fun e w' => e = .returned (.int .i64 0) ∧ w' = w := by
  go_enter Try.func12, Try.ntmps12
  go_wp2
  go_ret
  exact ⟨rfl, rfl⟩
def gv (o : Option Int) : Value := .tuple #[.int .i64 (o.getD 0), .bool o.isSome]
theorem peek_any (h : Tb w D room ns) {k : ByteArray} (hk : Ms.Wf k) : Calls Try.prog 15 #[.pointer (some ⟨D.b, 0, none⟩), .string k] w fun e w' => e = .returned (gv (fd (kvs ns) k)) ∧ Below w.heap.size w w' := by
  cases hx : fb ns k with
  | none =>
    have hf : fd (kvs ns) k = none := fd_none.2 (fb_none.1 hx)
    have HF := Lib.hid (find_none h hk hx)
    rw [hf]
    clear h hk hx hf
    go_enter Try.func15, Try.ntmps15
    go_wp2_with (go_at_call 23; refine HF.out.mono ?_; rintro e w' ⟨rfl, hw⟩; rw [hw]; clear hw)
    go_ret2
    exact ⟨rfl, Below.refl _ _⟩
  | some x =>
    obtain ⟨A, v, B, rfl, hA⟩ := fb_split hx
    have hf := (kvs_out h.keys).2
    have ht := h.ring.th (x, (k, v)) (by simp)
    have HF := Lib.hid (find_some h hk hx)
    have HD := Lib.hid (held_any ht)
    rw [hf]
    clear h hk hx hf ht hA
    go_enter Try.func15, Try.ntmps15
    go_wp2_with (first
      | (go_at_call 23; refine HF.out.mono ?_; rintro e w' ⟨rfl, hw⟩; rw [hw]; clear hw)
      | (go_at_call 21; refine HD.out.mono ?_))
    first | rintro e w1 rfl hb1 | rintro e w1 ⟨rfl, hb1⟩
    have HB := Lib.hid hb1
    clear hb1
    have hfv := field_v k v
    go_wp2
    go_ret2
    exact ⟨rfl, HB.out⟩
theorem peek_nil (k : ByteArray) (w : World) : Calls Try.prog 15 #[.pointer none, .string k] w fun e w' => e = .returned (gv none) ∧ w' = w := by
  have HF := Lib.hid (find_nil k w)
  go_enter Try.func15, Try.ntmps15
  go_wp2_with (go_at_call 23; refine HF.out.mono ?_; rintro e w' ⟨rfl, hw⟩; rw [hw]; clear hw)
  go_ret2
  exact ⟨rfl, rfl⟩
end
end Go.Proofs.Ythombaalaeefcaa
