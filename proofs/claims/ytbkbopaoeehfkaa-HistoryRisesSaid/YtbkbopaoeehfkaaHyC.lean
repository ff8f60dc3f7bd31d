/-
  LAYER 13 (history), part C: rows of rows (17 cells each): read, laid, stored into; loads of a histogram out of the midst of a block; Rows.
-/
import Derived.Test.YtbkbopaoeehfkaaHyA
import Derived.Test.YtbkbopaoeehfkaaRev
import Derived.Deep.MidRow
import Derived.Laws.CopyRow
namespace Go.Proofs.Ytbkbopaoeehfkaa
open Go.RowKit Lr Ft Hy
set_option linter.unusedVariables false
section
variable {P : Program} {ops : Array Oper} {rest : List Oper} {o : Oper} {a : Act} {w : World} {Q : Exit → Act → World → Prop}
/-- a load of many cells out of the midst of a block, guarded or not -/
theorem ld_mid (hw : Region.wanted o (yielded ops a.tmps) = true) (ty : TypeId) (x : Operand) (ho : o.op = .load ty x)
    (g k : Nat) (hx : a.eval x = .pointer (some ⟨g, k, none⟩)) (cs : Array Value) (d : TypeDesc) (hc : w.rangeAt g k cs.toList) (hu : P.underlying ty = some d) (hd : d.isRow = true) (hi : (P.info? ty).map (·.size) = some cs.size)
    (h : wpList P ops Q rest (a.put o.dst (.agg cs)) w) : wpList P ops Q (o :: rest) a w :=
  wpList_step fun K hK => by
    simp only [hw, if_true]
    refine wp_load_mid ty x ho g k hx cs.toList d hc hu hd (by rw [Array.length_toList]; exact hi) ?_
    rw [Array.toArray_toList]
    exact hK _ _ h
theorem ex_mid {cs : Array Value} (ty : TypeId) (x : Operand) (ho : o.op = .load ty x)
    (g k : Nat) (hx : a.eval x = .pointer (some ⟨g, k, none⟩)) (d : TypeDesc) (hc : w.rangeAt g k cs.toList) (hu : P.underlying ty = some d) (hd : d.isRow = true) (hi : (P.info? ty).map (·.size) = some cs.size) :
    (execOp a.eval o).run P w = .ok (.value (.agg cs)) w := by
  have h := run_loadVar_mid (P := P) w g k ty cs.toList d hc hu hd (by rw [Array.length_toList]; exact hi)
  rw [Array.toArray_toList] at h
  unfold execOp
  simp only [ho, hx, Instr.loadAt, Instr.sureAddr, Sem.run_bind, Sem.run_pure, Result.andThen_ok, h]
/-- a store of many cells into the midst of a row -/
def splice (cur : Array Value) (k : Nat) (vs : List Value) : Array Value := (cur.toList.take k ++ vs ++ cur.toList.drop (k + vs.length)).toArray
theorem st_mid (hg : o.guard = none) (ty : TypeId) (x y : Operand) (ho : o.op = .store ty x y) (g k : Nat) (cells : Array Value) (hx : a.eval x = .pointer (some ⟨g, k, none⟩)) (hy : a.eval y = .agg cells)
    (t : TypeId) (cur : Array Value) (hh : w.heap[g]? = some (.cells cur t (0, 0))) (hl : k + cells.size ≤ cur.size) (hi : (P.info? ty).map (·.size) = some cells.size) (h1 : cells.all (·.oneCell') = true)
    (h : wpList P ops Q rest (a.put o.dst undef) (w.setRow g (splice cur k cells.toList))) : wpList P ops Q (o :: rest) a w :=
  wpList_plain hg fun K hK => by
    have hst := run_storeCells_at P g k t cells.toList 0 cur w hh (by simpa using hl) (fun v hv => (Array.all_eq_true_iff_forall_mem.1 h1) v (by simpa using hv))
    simp only [Nat.add_zero] at hst
    have hq : ∃ i, P.info? ty = some i ∧ i.size = cells.size := by
      cases hq : P.info? ty with
      | none => simp [hq] at hi
      | some i => exact ⟨i, rfl, by simpa [hq] using hi⟩
    obtain ⟨i, hq, hs⟩ := hq
    have hsv : (storeVar ty ⟨g, k, none⟩ (.agg cells)).run P w = .ok () (w.setRow g (splice cur k cells.toList)) := by
      simp [storeVar, sizeOf, typeInfo, hq, Value.cells, hs, splice]
      simpa using hst
    unfold Oper.wp execOp
    simp only [ho, hx, hy, Instr.storeAt, Instr.sureAddr, Sem.run_bind, Sem.run_pure, Result.andThen_ok, hsv]
    exact hK _ _ h
end
namespace Hy
theorem ec_size (k : ByteArray) (f : El) : (ec k f).size = 17 := rfl
/-- a row's cells, one behind the other -/
def rcells (l : List KV) : List Value := l.flatMap fun x => (ec x.1 x.2).toList
theorem rcells_len (l : List KV) : (rcells l).length = l.length * 17 := by
  induction l with
  | nil => rfl
  | cons x l ih =>
    show ((ec x.1 x.2).toList ++ rcells l).length = _
    rw [List.length_append, ih, Array.length_toList, ec_size, List.length_cons]
    omega
theorem rcells_app (a b : List KV) : rcells (a ++ b) = rcells a ++ rcells b := List.flatMap_append
theorem rcells_get : ∀ (l : List KV) (i j : Nat), i < l.length → j < 17 → (rcells l)[i * 17 + j]? = (ec (l.getD i kv0).1 (l.getD i kv0).2)[j]?
  | [], i, j, h, _ => by simp at h
  | x :: l, 0, j, _, hj => by
    show ((ec x.1 x.2).toList ++ rcells l)[0 * 17 + j]? = _
    rw [Nat.zero_mul, Nat.zero_add, List.getElem?_append_left (by rw [Array.length_toList, ec_size]; exact hj), Array.getElem?_toList]
    rfl
  | x :: l, i + 1, j, h, hj => by
    have ih := rcells_get l i j (by simpa using h) hj
    show ((ec x.1 x.2).toList ++ rcells l)[(i + 1) * 17 + j]? = _
    rw [List.getElem?_append_right (by rw [Array.length_toList, ec_size]; omega), Array.length_toList, ec_size]
    have e1 : (i + 1) * 17 + j - 17 = i * 17 + j := by omega
    rw [e1, ih]
    rfl
theorem ec_one (k : ByteArray) (f : El) : ∀ u ∈ (ec k f).toList, u.oneCell' = true := fun u hu => (Array.all_eq_true_iff_forall_mem.1 (ent_one k f)) u (by simpa using hu)
theorem rcells_one (l : List KV) : ∀ u ∈ rcells l, u.oneCell' = true := fun u hu => by
  unfold rcells at hu
  rw [List.mem_flatMap] at hu
  obtain ⟨y, _, hy⟩ := hu
  exact ec_one _ _ u hy
/-- a slice at p holds these rows -/
def RC (w : World) (p : Option Addr) (l : List KV) : Prop := ∀ i, i < l.length → ∃ g off, p = some ⟨g, off, none⟩ ∧ g < w.heap.size ∧ w.rangeAt g (off + i * 17) (ec (l.getD i kv0).1 (l.getD i kv0).2).toList
theorem range_block {w w' : World} {g k : Nat} {cs : List Value} (h : w.rangeAt g k cs) (e : w'.heap[g]? = w.heap[g]?) : w'.rangeAt g k cs := fun j v hv => by
  rw [World.cell?_of_block e]
  exact h j v hv
theorem RC.block {w w' : World} {p : Option Addr} {l : List KV} (h : RC w p l) (hs : w.heap.size ≤ w'.heap.size) (hb : ∀ a, p = some a → a.block < w.heap.size → w'.heap[a.block]? = w.heap[a.block]?) : RC w' p l := fun i hi => by
  obtain ⟨g, off, h1, h2, h3⟩ := h i hi
  exact ⟨g, off, h1, Nat.lt_of_lt_of_le h2 hs, range_block h3 (hb _ h1 h2)⟩
theorem RC.below {w w' : World} {p : Option Addr} {l : List KV} {B : Nat} (h : RC w p l) (hb : Below B w w') (hB : w.heap.size ≤ B) : RC w' p l := h.block hb.size (fun a _ ha => hb.block _ (Nat.lt_of_lt_of_le ha hB))
/-- key and histogram of one -/
theorem RC.at {w : World} {p : Option Addr} {l : List KV} (h : RC w p l) {i : Nat} (hi : i < l.length) : ∃ g off, p = some ⟨g, off, none⟩ ∧ g < w.heap.size ∧ w.cell? ⟨g, off + i * 17, none⟩ = some (.string (l.getD i kv0).1) ∧ w.rangeAt g (off + i * 17 + 1) (hc (l.getD i kv0).2).toList ∧ w.rangeAt g (off + i * 17) (ec (l.getD i kv0).1 (l.getD i kv0).2).toList := by
  obtain ⟨g, off, h1, h2, h3⟩ := h i hi
  refine ⟨g, off, h1, h2, h3 0 _ rfl, fun j v hv => ?_, h3⟩
  rw [Nat.add_assoc]
  refine h3 (1 + j) v ?_
  rw [Nat.add_comm 1 j]
  exact hv
/-- v is a row of these, from block B on -/
def OwnR (w : World) (B : Nat) (v : Value) (l : List KV) : Prop := w.ownsRow B 58 17 v l.length (rcells l)
theorem OwnR.nil (w : World) (B : Nat) : OwnR w B (.slice none 0 0) [] := World.ownsRow_nil w B _ _
theorem OwnR.view {w : World} {B : Nat} {v : Value} {l : List KV} (h : OwnR w B v l) : ∃ p cap, v = .slice p l.length cap ∧ l.length ≤ maxLen ∧ RC w p l ∧ ∀ a, p = some a → a.off = 0 ∧ a.spot = none ∧ B ≤ a.block ∧ Kd w a.block 58 := by
  rcases h.2 with ⟨rfl, h0⟩ | ⟨g, cap, cur, rfl, hbg, hgg, hle, hmx, hcs, htk⟩
  · exact ⟨none, 0, by rw [h0], by omega, fun i hi => by omega, fun a e => by cases e⟩
  · refine ⟨some ⟨g, 0, none⟩, cap, rfl, by omega, fun i hi => ⟨g, 0, rfl, (Array.getElem?_eq_some_iff.1 hgg).1, fun j v hv => ?_⟩, fun a e => ?_⟩
    · have hj : j < 17 := by
        have := (List.getElem?_eq_some_iff.1 hv).1
        rw [Array.length_toList, ec_size] at this
        exact this
      have hr := rcells_get l i j hi hj
      simp only [World.cell?, hgg]
      rw [Array.getElem?_toList] at hv
      rw [← htk, List.getElem?_take, if_pos (by omega), Array.getElem?_toList, hv] at hr
      rw [Nat.zero_add]
      exact hr
    · injection e with e
      subst e
      exact ⟨rfl, rfl, hbg, _, hgg⟩
theorem OwnR.block {w w' : World} {B : Nat} {v : Value} {l : List KV} (h : OwnR w B v l) (hb : ∀ g, v.ownBlock = some g → w'.heap[g]? = w.heap[g]?) : OwnR w' B v l := by
  refine ⟨h.1, ?_⟩
  rcases h.2 with hn | ⟨g, cap, cur, rfl, h1, h2, rest⟩
  · exact .inl hn
  · exact .inr ⟨g, cap, cur, rfl, h1, by rw [hb g rfl]; exact h2, rest⟩
theorem OwnR.kind {w : World} {B : Nat} {v : Value} {l : List KV} (h : OwnR w B v l) {g : Nat} (hg : v.ownBlock = some g) : B ≤ g ∧ g < w.heap.size ∧ Kd w g 58 := by
  have h1 := h.lt g hg
  rcases h.2 with ⟨rfl, _⟩ | ⟨g', cap, cur, rfl, h2, h3, _⟩
  · cases hg
  · have e : g' = g := by
      have := hg
      simp only [Value.ownBlock] at this
      injection this
    subst e
    exact ⟨h1.1, h1.2, _, h3⟩
theorem OwnR.below {w w' : World} {B : Nat} {v : Value} {l : List KV} (h : OwnR w B v l) (hb : Below w.heap.size w w') : OwnR w' B v l := h.block (fun g hg => hb.block g (h.kind hg).2.1)
theorem OwnR.mono {w : World} {B B' : Nat} {v : Value} {l : List KV} (h : OwnR w B v l) (hb : B' ≤ B) : OwnR w B' v l := by
  refine ⟨h.1, ?_⟩
  rcases h.2 with hn | ⟨g, cap, cur, rfl, h1, rest⟩
  · exact .inl hn
  · exact .inr ⟨g, cap, cur, rfl, Nat.le_trans hb h1, rest⟩
theorem splice_size {cur : Array Value} {k : Nat} {vs : List Value} (h : k + vs.length ≤ cur.size) : (splice cur k vs).size = cur.size := by
  unfold splice
  simp only [List.size_toArray, List.length_append, List.length_take, List.length_drop, Array.length_toList]
  omega
theorem splice_take {cur : Array Value} {l : List KV} {i : Nat} (h : i < l.length) (x : KV) (hcs : l.length * 17 ≤ cur.size) (ht : cur.toList.take (l.length * 17) = rcells l) : (splice cur (i * 17) (ec x.1 x.2).toList).toList.take (l.length * 17) = rcells (l.set i x) := by
  have hl17 : (ec x.1 x.2).toList.length = 17 := by rw [Array.length_toList, ec_size]
  have e1 : rcells (l.set i x) = rcells (l.take i) ++ (ec x.1 x.2).toList ++ rcells (l.drop (i + 1)) := by
    rw [List.set_eq_take_append_cons_drop, if_pos h, rcells_app, List.append_assoc]
    rfl
  have e2 : rcells l = rcells (l.take i) ++ (ec (l.getD i kv0).1 (l.getD i kv0).2).toList ++ rcells (l.drop (i + 1)) := by
    have : l = l.take i ++ l.getD i kv0 :: l.drop (i + 1) := by
      rw [List.getD_eq_getElem?_getD, List.getElem?_eq_getElem h]
      show l = l.take i ++ l[i] :: l.drop (i + 1)
      rw [← List.drop_eq_getElem_cons h, List.take_append_drop]
    conv => lhs; rw [this]
    rw [rcells_app, List.append_assoc]
    rfl
  have l1 : (rcells (l.take i)).length = i * 17 := by rw [rcells_len, List.length_take]; congr 1; omega
  have l2 : (ec (l.getD i kv0).1 (l.getD i kv0).2).toList.length = 17 := by rw [Array.length_toList, ec_size]
  have l3 : (rcells (l.drop (i + 1))).length = (l.length - (i + 1)) * 17 := by rw [rcells_len, List.length_drop]
  have h1 : cur.toList.take (i * 17) = rcells (l.take i) := by
    have := congrArg (List.take (i * 17)) ht
    rw [List.take_take, Nat.min_eq_left (by omega), e2, List.append_assoc, List.take_left' l1] at this
    exact this
  have h2 : (cur.toList.take (l.length * 17)).drop (i * 17 + 17) = rcells (l.drop (i + 1)) := by
    rw [ht, e2]
    exact List.drop_left' (by rw [List.length_append, l1, l2])
  unfold splice
  rw [e1, h1, hl17, List.take_append, List.take_of_length_le (by rw [List.length_append, l1, hl17]; omega), List.length_append, l1, hl17, ← h2, List.drop_take]
/-- one is stored -/
theorem OwnR.set {w : World} {B g cap : Nat} {l : List KV} {n : Nat} (h : OwnR w B (.slice (some ⟨g, 0, none⟩) n cap) l) (hn : l.length = n) {i : Nat} (hi : i < n) (x : KV) : ∃ cur, w.heap[g]? = some (.cells cur 58 (0, 0)) ∧ i * 17 + (ec x.1 x.2).size ≤ cur.size ∧ OwnR (w.setRow g (splice cur (i * 17) (ec x.1 x.2).toList)) B (.slice (some ⟨g, 0, none⟩) n cap) (l.set i x) := by
  rcases h.2 with ⟨hv, h0⟩ | ⟨g', cap', cur, hv, hbg, hgg, hle, hmx, hcs, htk⟩
  · cases hv
  · injection hv with e1 e2 e3
    injection e1 with e1
    injection e1 with e1
    subst e1 e3
    have hfit : i * 17 + 17 ≤ cur.size := by omega
    refine ⟨cur, hgg, by rw [ec_size]; exact hfit, by rw [rcells_len], .inr ⟨g, cap, _, by rw [List.length_set, hn], hbg, setRow_heap _ _ _ _ _ _ hgg, by rw [List.length_set]; exact hle, hmx, ?_, ?_⟩⟩
    · rw [splice_size (by rw [Array.length_toList, ec_size]; exact hfit)]; exact hcs
    · rw [List.length_set]
      exact splice_take (by omega) x (by omega) htk
theorem made_rows (n : Nat) : (madeCells (ec ByteArray.empty Hs.z) (n * 17)).toList = rcells (List.replicate n (ByteArray.empty, Hs.z)) := by
  apply List.ext_getElem?
  intro j
  by_cases hj : j < n * 17
  · have e : j = j / 17 * 17 + j % 17 := by omega
    have h1 := rcells_get (List.replicate n (ByteArray.empty, Hs.z)) (j / 17) (j % 17) (by rw [List.length_replicate]; omega) (by omega)
    rw [← e] at h1
    rw [h1]
    have h2 : (List.replicate n ((ByteArray.empty, Hs.z) : KV)).getD (j / 17) kv0 = (ByteArray.empty, Hs.z) := by
      rw [List.getD_eq_getElem?_getD, List.getElem?_replicate, if_pos (by omega)]
      rfl
    rw [h2]
    unfold madeCells
    have hm : j % 17 < (ec ByteArray.empty Hs.z).size := by rw [ec_size]; omega
    simp only [Array.toList_map, List.getElem?_map, Array.toList_range, List.getElem?_range hj, Option.map_some, ec_size]
    rw [getElem!_pos _ _ (by rw [ec_size]; omega), Array.getElem?_eq_getElem hm]
  · rw [List.getElem?_eq_none (by rw [Array.length_toList, size_madeCells]; omega), List.getElem?_eq_none (by rw [rcells_len, List.length_replicate]; omega)]
end Hy
theorem info_R : (Try.prog.info? 58).map (fun i => (i.zero, i.size, i.bytes)) = some (some (.agg (ec ByteArray.empty Hs.z)), 17, 144) := by kernel_rfl
theorem row_info (k : ByteArray) (v : El) : (Try.prog.info? 58).map (·.size) = some (ec k v).size := by kernel_rfl
theorem build_row (k : ByteArray) (v : El) (w : World) : (Instr.build 58 #[(0, .string k), (1, .agg (hc v))]).run Try.prog w = .ok (.agg (ec k v)) w := by kernel_rfl
end Go.Proofs.Ytbkbopaoeehfkaa
