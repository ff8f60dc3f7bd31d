/-
  CONTRACTS OF LAYER 12 (lru), part C: a table in memory; held, find, New, Len, Peek.
-/
import Derived.Test.YtbkbopaoeehfkaaLruB
import Derived.Test.YtbkbopaoeehfkaaHistE
namespace Go.Proofs.Ytbkbopaoeehfkaa
open Go.RowKit Lr Ft
set_option linter.unusedVariables false
namespace Lr
/-- where a table lies -/
structure Td where
  b : Nat
  e : Nat
  m : Nat
def mf (ns : List Nd) (s : ByteArray) : Option Value := (fb ns s).map pv
structure Tb (w : World) (D : Td) (room : Nat) (ns : List Nd) : Prop where
  kind : Kd w D.b 71
  c0 : w.cell? ⟨D.b, 0, none⟩ = some (.int .i64 room)
  c1 : w.cell? ⟨D.b, 1, none⟩ = some (pv D.e)
  c2 : w.cell? ⟨D.b, 2, none⟩ = some (.map (some D.m))
  ring : Ring w D.e ns
  mp : Ms.Is Try.prog 9 w D.m (mf ns) ns.length
  keys : Ks (kvs ns)
  wf : ∀ x ∈ kvs ns, Ms.Wf x.1
  pos : 0 < room
  len : ns.length ≤ 1000
def fp (D : Td) (ns : List Nd) (x : Nat) : Prop := x = D.b ∨ x = D.m ∨ rfp D.e ns x
section
variable {w w' : World} {D : Td} {room : Nat} {ns : List Nd}
theorem Tb.lt (h : Tb w D room ns) {x : Nat} (hx : fp D ns x) : x < w.heap.size := by
  rcases hx with rfl | rfl | hx
  · exact h.kind.lt
  · exact h.mp.lt
  · exact (h.ring.kd hx).lt
theorem Tb.same (h : Tb w D room ns) (hb : ∀ x, fp D ns x → w'.heap[x]? = w.heap[x]?) : Tb w' D room ns where
  kind := h.kind.block (hb _ (Or.inl rfl))
  c0 := by rw [World.cell?_of_block (hb _ (Or.inl rfl))]; exact h.c0
  c1 := by rw [World.cell?_of_block (hb _ (Or.inl rfl))]; exact h.c1
  c2 := by rw [World.cell?_of_block (hb _ (Or.inl rfl))]; exact h.c2
  ring := h.ring.same (fun x hx => hb x (Or.inr (Or.inr hx)))
  mp := h.mp.block (hb _ (Or.inr (Or.inl rfl)))
  keys := h.keys
  wf := h.wf
  pos := h.pos
  len := h.len
theorem Tb.mv {S : Nat → Prop} (h : Tb w D room ns) (hm : Mv S w w') (hs : ∀ x, fp D ns x → ¬ S x) : Tb w' D room ns := h.same fun x hx => hm.block x (h.lt hx) (hs x hx)
theorem Tb.below {B : Nat} (h : Tb w D room ns) (hm : Below B w w') (hB : w.heap.size ≤ B) : Tb w' D room ns := h.same fun x hx => hm.block x (Nat.lt_of_lt_of_le (h.lt hx) hB)
theorem Tb.b_ring (h : Tb w D room ns) : ¬ rfp D.e ns D.b := fun hx => (h.kind.ne (h.ring.kd hx) (by decide)) rfl
theorem kd_map {P : Program} {K : TypeId} {b x N : Nat} {t : TypeId} {f : ByteArray → Option Value} (h : Ms.Is P K w b f N) (hk : Kd w x t) : x ≠ b := by
  intro e
  obtain ⟨es, c, h1⟩ := h.kind
  obtain ⟨cs, h2⟩ := hk
  rw [e, h1] at h2
  cases h2
theorem Tb.b_m (h : Tb w D room ns) : D.b ≠ D.m := kd_map h.mp h.kind
theorem Tb.m_ring (h : Tb w D room ns) : ¬ rfp D.e ns D.m := fun hx => kd_map h.mp (h.ring.kd hx) rfl
/-- a table that has come out of another -/
def Tg (w0 : World) (D : Td) (room : Nat) (ns0 : List Nd) (L : List KV) (w : World) : Prop := ∃ ns, kvs ns = L ∧ Tb w D room ns ∧ Gs (fp D ns0) w0 (fp D ns) w
theorem Tg.start (h : Tb w D room ns) : Tg w D room ns (kvs ns) w := ⟨ns, rfl, h, Gs.refl _ _⟩
theorem Tg.below {w0 : World} {L : List KV} (h : Tg w0 D room ns L w) (hb : Below w.heap.size w w') : Tg w0 D room ns L w' := by
  obtain ⟨ns', e, h1, h2⟩ := h
  exact ⟨ns', e, h1.below hb (Nat.le_refl _), h2.trans (Gs.below hb)⟩
end
end Lr
theorem assert_entry (v : Value) (w : World) : (Instr.typeAssert (.iface 74 v) 20 74 false).run Try.prog w = .ok v w := by
  simp [Instr.typeAssert, run_underlying Try.underlying74]
theorem field_key (k : ByteArray) (v : El) (w : World) : (Instr.field 74 (.agg (ec k v)) 0).run Try.prog w = .ok (.string k) w := by kernel_rfl
theorem field_v (k : ByteArray) (v : El) (w : World) : (Instr.field 74 (.agg (ec k v)) 1).run Try.prog w = .ok (.agg (hc v)) w := by kernel_rfl
theorem ent_info (k : ByteArray) (v : El) : (Try.prog.info? 74).map (·.size) = some (ec k v).size := by kernel_rfl
theorem ent_one (k : ByteArray) (v : El) : (ec k v).all (·.oneCell') = true := by kernel_rfl
set_option maxRecDepth 100000 in
theorem held_any {w : World} {x : Nat} {k : ByteArray} {v : El} (t : w.cell? ⟨x, 2, none⟩ = some (ev (k, v))) :
    Calls Try.prog 32 #[.pointer (some ⟨x, 0, none⟩)] w fun e w' => e = .returned (.agg (ec k v)) ∧ Below w.heap.size w w' := by
  have ha := assert_entry
  have hx := World.block_lt_of_cell? w ⟨x, 2, none⟩ t
  have h1 : (w.alloc (.cells (ec ByteArray.empty Hs.z) 74)).heap[w.heap.size]? = some (.cells (ec ByteArray.empty Hs.z) 74) := (MapKept.heap_alloc w _).1
  have hc : ∀ o, (w.alloc o).cell? ⟨x, 2, none⟩ = some (.iface 74 (.agg (ec k v))) := fun o => by
    rw [World.cell?_of_block ((MapKept.heap_alloc w o).2 x hx)]
    exact t
  have hb := (Below.refl w.heap.size w).alloc (Nat.le_refl _) (.cells (ec ByteArray.empty Hs.z) 74)
  have H1 := Lib.hid h1
  have HB := Lib.hid hb
  have HI := Lib.hid (ent_info k v)
  have HO := Lib.hid (ent_one k v)
  clear t hx h1 hb
  go_enter Try.func32, Try.ntmps32
  go_wp2_with (refine wpList_store_row rfl 74 _ _ rfl w.heap.size (ec k v) rfl rfl 74 (ec ByteArray.empty Hs.z) H1.out HI.out rfl HO.out ?_)
  refine bodyPost_ret (v := .agg (ec k v)) ?_ rfl ?_
  · exact results_cell_row rfl _ _ w.heap.size _ _ _ _ rfl (setRow_heap _ _ _ _ _ _ H1.out) Try.underlying74 rfl HI.out
  exact ⟨rfl, below_setRow HB.out (Nat.le_refl _) _⟩
section
variable {w w' : World} {D : Td} {room : Nat} {ns : List Nd}
theorem find_some (h : Tb w D room ns) {k : ByteArray} (hk : Ms.Wf k) {x : Nat} (hx : fb ns k = some x) :
    Calls Try.prog 42 #[.pointer (some ⟨D.b, 0, none⟩), .string k] w fun e w' => e = .returned (.pointer (some ⟨x, 0, none⟩)) ∧ w' = w := by
  have hc := h.c2
  have hm := h.mp
  have hf : mf ns k = some (pv x) := by unfold mf; rw [hx]; rfl
  unfold pv at hf
  clear h hx
  go_enter Try.func42, Try.ntmps42
  go_wp2_with (at_lookup; refine Ms.wp_look _ rfl _ _ 69 9 66 rfl Try.underlying69 Try.underlying9 (.pointer none) (by kernel_rfl) D.m _ _ rfl hm k hk rfl ?_; rw [hf]; simp only [Option.getD_some])
  go_ret
  exact ⟨rfl, rfl⟩
theorem find_none (h : Tb w D room ns) {k : ByteArray} (hk : Ms.Wf k) (hx : fb ns k = none) :
    Calls Try.prog 42 #[.pointer (some ⟨D.b, 0, none⟩), .string k] w fun e w' => e = .returned (.pointer none) ∧ w' = w := by
  have hc := h.c2
  have hm := h.mp
  have hf : mf ns k = none := by unfold mf; rw [hx]; rfl
  clear h hx
  go_enter Try.func42, Try.ntmps42
  go_wp2_with (at_lookup; refine Ms.wp_look _ rfl _ _ 69 9 66 rfl Try.underlying69 Try.underlying9 (.pointer none) (by kernel_rfl) D.m _ _ rfl hm k hk rfl ?_; rw [hf]; simp only [Option.getD_none])
  go_ret
  exact ⟨rfl, rfl⟩
theorem find_nil (k : ByteArray) (w : World) : Calls Try.prog 42 #[.pointer none, .string k] w fun e w' => e = .returned (.pointer none) ∧ w' = w := by
  go_enter Try.func42, Try.ntmps42
  go_wp2
  go_ret
  exact ⟨rfl, rfl⟩
def gv (o : Option El) : Value := .tuple #[.agg (hc (o.getD Hs.z)), .bool o.isSome]
theorem results_row_tmp {fn : Func} {p u : Tmp} {ty : TypeId} (h : fn.results = #[.cell p ty, .tmp u]) (tmps : Array Value) (w : World) (g : Nat) (V : Value)
    (hp : tmps.getD p undef = .pointer (some ⟨g, 0, none⟩)) (hr : (loadVar ty ⟨g, 0, none⟩).run Try.prog w = .ok V w) {x : Value} (hx : tmps.getD u undef = x) :
    (results fn tmps).run Try.prog w = .ok (.tuple #[V, x]) w := by
  rw [results_cell_tmp h, hp]
  simp only [asAddr, Sem.run_pure, Result.andThen_ok, hr, hx]
theorem load_hist {w : World} {g : Nat} {f : Nat → Int} (h : HB w g f) : (loadVar 49 ⟨g, 0, none⟩).run Try.prog w = .ok (.agg (hc f)) w := run_loadVar_row w g _ _ _ _ _ h Try.underlying49 rfl (hist_info f)
theorem gv_none : gv none = .tuple #[.agg (hc Hs.z), .bool false] := rfl
theorem gv_some (v : El) : gv (some v) = .tuple #[.agg (hc v), .bool true] := rfl
set_option maxRecDepth 100000 in
theorem peek_any (h : Tb w D room ns) {k : ByteArray} (hk : Ms.Wf k) : Calls Try.prog 25 #[.pointer (some ⟨D.b, 0, none⟩), .string k] w fun e w' => e = .returned (gv (fd (kvs ns) k)) ∧ Below w.heap.size w w' := by
  have h1 := HB.made w Hs.z
  have hb := (Below.refl w.heap.size w).alloc (Nat.le_refl _) (.cells (hc Hs.z) 49)
  obtain ⟨W1, hW1⟩ : ∃ W, w.alloc (.cells (hc Hs.z) 49) = W := ⟨_, rfl⟩
  rw [hW1] at h1 hb
  have hT := h.below hb (Nat.le_refl _)
  cases hx : fb ns k with
  | none =>
    have hf : fd (kvs ns) k = none := fd_none.2 (fb_none.1 hx)
    have HF : Hid (Calls Try.prog 42 #[.pointer (some ⟨D.b, 0, none⟩), .string k] (w.alloc (.cells (hc Hs.z) 49)) fun e w' => e = .returned (.pointer none) ∧ w' = W1) := Lib.hid (by rw [hW1]; exact find_none hT hk hx)
    have HI0 := Lib.hid (hist_info Hs.z)
    have HO0 := Lib.hid (hc_one Hs.z)
    have hb2 := (Below.refl W1.heap.size W1).alloc (Nat.le_refl _) (.cells (hc Hs.z) 49)
    have H1 := Lib.hid (h1.below hb2 (Nat.le_refl _))
    have H2 := Lib.hid (HB.made W1 Hs.z)
    have HB2 := Lib.hid (below_next hb hb2)
    rw [hf, gv_none]
    clear h hT hk hx hf h1 hb hW1 hb2
    go_enter Try.func25, Try.ntmps25
    go_wp2_with fail
    refine (HF.out).mono ?_
    rintro e w' ⟨rfl, hw⟩
    rw [hw]
    clear hw
    go_wp2_with (first
      | refine ld_row (by rfl) 49 _ rfl W1.heap.size rfl _ _ _ _ H2.out Try.underlying49 rfl (by kernel_rfl) ?_
      | refine wpList_store_row rfl 49 _ _ rfl w.heap.size (hc Hs.z) rfl rfl 49 (hc Hs.z) H1.out HI0.out rfl HO0.out ?_)
    refine bodyPost_ret (v := .tuple #[.agg (hc Hs.z), .bool false]) ?_ rfl ?_
    · exact results_row_tmp rfl _ _ w.heap.size _ rfl (load_hist (HB.row H1.out _)) rfl
    · exact ⟨rfl, below_setRow HB2.out (Nat.le_refl _) _⟩
  | some x =>
    obtain ⟨A, v, B, rfl, hA⟩ := fb_split hx
    have hf := (kvs_out h.keys).2
    have ht := hT.ring.th (x, (k, v)) (by simp)
    have HF : Hid (Calls Try.prog 42 #[.pointer (some ⟨D.b, 0, none⟩), .string k] (w.alloc (.cells (hc Hs.z) 49)) fun e w' => e = .returned (.pointer (some ⟨x, 0, none⟩)) ∧ w' = W1) := Lib.hid (by rw [hW1]; exact find_some hT hk hx)
    have HD := Lib.hid (held_any ht)
    have HI := Lib.hid (hist_info v)
    have HO := Lib.hid (hc_one v)
    have H1 := Lib.hid h1
    have HB1 := Lib.hid hb
    rw [hf, gv_some]
    clear h hT hk hx hf ht hA h1 hb hW1
    go_enter Try.func25, Try.ntmps25
    go_wp2_with fail
    refine (HF.out).mono ?_
    rintro e w' ⟨rfl, hw⟩
    rw [hw]
    clear hw
    go_wp2_with fail
    refine (HD.out).mono ?_
    rintro e w1 ⟨rfl, hb1⟩
    have H2 := Lib.hid (H1.out.below hb1 (Nat.le_refl _))
    have HB2 := Lib.hid (below_next HB1.out hb1)
    clear hb1
    have hfv := field_v k v
    go_wp2_with (refine wpList_store_row rfl 49 _ _ rfl w.heap.size (hc v) rfl rfl 49 (hc Hs.z) H2.out HI.out rfl HO.out ?_)
    refine bodyPost_ret (v := .tuple #[.agg (hc v), .bool true]) ?_ rfl ?_
    · exact results_row_tmp rfl _ _ w.heap.size _ rfl (load_hist (HB.row H2.out _)) rfl
    · exact ⟨rfl, below_setRow HB2.out (Nat.le_refl _) _⟩
end
end Go.Proofs.Ytbkbopaoeehfkaa
