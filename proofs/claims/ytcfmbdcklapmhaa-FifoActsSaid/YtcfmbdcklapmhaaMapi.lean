/-
  A MAP KEYED BY WHOLE NUMBERS (int), OF WHATEVER ELEMENTS: what it has at each key, and how many keys; stored into, looked up, struck, counted, gone through. The library's ghost datum holds the values themselves.
-/
import Derived.Test.YtcfmbdcklapmhaaLib
import Derived.Maps.OwnSet
import Derived.Maps.OwnOps
import Derived.Maps.Views
import Derived.Maps.RangeWalk
namespace Go.Proofs.Ytcfmbdcklapmhaa
open Go.RowKit Go.Maps Go.WideMaps
set_option linter.unusedVariables false
namespace Mi
abbrev D0 := DataW Value
def rdr (v : Value) : Option (D0 × List MemPlace) := some (.held v, [])
def key (s : Int) : Lit := .int .i64 s
def heldOf : D0 → Option Value
  | .held v => some v
  | _ => none
theorem key_inj {a b : Int} (h : key a = key b) : a = b := by unfold key at h; injection h
def Wf (s : Int) : Prop := (Lit.int .i64 s).wf = true
/-- what the map as read has at a key -/
def look (D : D0) (s : Int) : Option Value := if Maps.has D (key s) = true then heldOf (D.atKey (key s) .nil) else none
def Reads (D : D0) (f : Int → Option Value) (N : Nat) : Prop := Maps.size D = N ∧ (∀ s, look D s = f s) ∧ ∀ s, Maps.has D (key s) = true → ∃ v, D.atKey (key s) .nil = .held v
/-- block b is a map keyed by whole numbers, of N keys, that has f -/
def Is (P : Program) (K : TypeId) (w : World) (b : Nat) (f : Int → Option Value) (N : Nat) : Prop := ∃ D : D0, w.ownsMap P K rdr b N D ∧ Reads D f N
variable {P : Program} {K T E : TypeId} {w : World} {b N : Nat} {f : Int → Option Value}
theorem tight {n : Nat} {D : D0} (h : w.ownsMap P K rdr b n D) : w.ownsMap P K rdr b (Maps.size D) D := by
  obtain ⟨es, clock, hb, F, hs, rfl⟩ := h
  exact ⟨es, clock, hb, F, by simp [Maps.size, length_sorted], rfl⟩
theorem Is.made (w : World) : Is P K (w.alloc (.map #[] 0)) w.heap.size (fun _ => none) 0 :=
  ⟨.map [], World.ownsMap_made w P K rdr, rfl, fun s => rfl, fun s h => by cases h⟩
theorem Is.lt (h : Is P K w b f N) : b < w.heap.size := by
  obtain ⟨D, hD, _⟩ := h
  exact hD.lt
theorem Is.block {w' : World} (h : Is P K w b f N) (hb : w'.heap[b]? = w.heap[b]?) : Is P K w' b f N := by
  obtain ⟨D, ⟨es, clock, hh, rest⟩, h1⟩ := h
  exact ⟨D, ⟨es, clock, by rw [hb]; exact hh, rest⟩, h1⟩
theorem Is.kind (h : Is P K w b f N) : ∃ es c, w.heap[b]? = some (.map es c) := by
  obtain ⟨D, ⟨es, clock, hh, rest⟩, h1⟩ := h
  exact ⟨es, clock, hh⟩
theorem Is.ext {g : Int → Option Value} (h : Is P K w b f N) (e : ∀ s, f s = g s) : Is P K w b g N := by
  obtain ⟨D, hD, h0, h1, h2⟩ := h
  exact ⟨D, hD, h0, fun s => (h1 s).trans (e s), h2⟩
theorem has_look {D : D0} (hr : Reads D f N) (s : Int) : Maps.has D (key s) = (f s).isSome := by
  obtain ⟨h0, h1, h2⟩ := hr
  rw [← h1 s]
  unfold look
  by_cases hh : Maps.has D (key s) = true
  · obtain ⟨v, hv⟩ := h2 s hh
    rw [if_pos hh, hh, hv]
    rfl
  · rw [if_neg hh]
    simpa using hh
theorem at_look {D : D0} (hm : IsMap D) (hr : Reads D f N) {s : Int} {v z : Value} (h : D.atKey (key s) (.held z) = .held v) : v = (f s).getD z := by
  have hf := has_look hr s
  obtain ⟨h0, h1, h2⟩ := hr
  have h3 := h1 s
  unfold look at h3
  by_cases hh : Maps.has D (key s) = true
  · obtain ⟨u, hu⟩ := h2 s hh
    have hd : D.atKey (key s) (.held z) = D.atKey (key s) .nil := by
      obtain ⟨es, rfl⟩ := hm
      rw [Maps.has_eq] at hh
      cases hf : es.find? (fun p => p.1.sameKey (key s)) with
      | some p => simp only [DataW.atKey, hf]
      | none =>
        exfalso
        rw [List.find?_eq_none] at hf
        obtain ⟨p, hp, hp2⟩ := List.any_eq_true.1 hh
        exact hf p hp hp2
    rw [hd, hu] at h
    rw [if_pos hh, hu] at h3
    injection h with h
    rw [← h3, h]
    rfl
  · have hh2 : Maps.has D (key s) = false := by simpa using hh
    rw [atKey_of_not_has hh2] at h
    injection h with h
    rw [if_neg hh] at h3
    rw [← h3, ← h]
    rfl
def up (o : Option Value) (N : Nat) : Nat := if o.isSome then N else N + 1
def dn (o : Option Value) (N : Nat) : Nat := if o.isSome then N - 1 else N
theorem reads_put {D : D0} {s : Int} {v : Value} (ht : Tidy D) (hk : WideAt.IsKeyLit (key s)) (hr : Reads D f N) :
    Reads (D.put (key s) (.held v)) (fun x => if x = s then some v else f x) (up (f s) N) := by
  have hm := ht.isMap
  have hf := has_look hr s
  obtain ⟨h0, h1, h2⟩ := hr
  refine ⟨by rw [size_put ht, hf, h0]; rfl, fun x => ?_, fun x hx => ?_⟩
  · by_cases e : x = s
    · subst e
      show look _ x = if x = x then _ else _
      rw [if_pos rfl]
      unfold look
      rw [has_put_same hm hk, if_pos rfl, atKey_put_same hm hk]
      rfl
    · show look _ x = if x = s then _ else _
      rw [if_neg e]
      have hne : key x ≠ key s := fun h => e (key_inj h)
      unfold look
      rw [has_put_other hne, atKey_put_other hne]
      exact h1 x
  · by_cases e : x = s
    · subst e
      exact ⟨v, atKey_put_same hm hk _ _⟩
    · have hne : key x ≠ key s := fun h => e (key_inj h)
      rw [has_put_other hne] at hx
      rw [atKey_put_other hne]
      exact h2 x hx
theorem reads_del {D : D0} {s : Int} (ht : Tidy D) (hr : Reads D f N) :
    Reads (D.del (key s)) (fun x => if x = s then none else f x) (dn (f s) N) := by
  have hf := has_look hr s
  obtain ⟨h0, h1, h2⟩ := hr
  have hsz := size_del (k := key s) ht
  rw [hf, h0] at hsz
  refine ⟨?_, fun x => ?_, fun x hx => ?_⟩
  · unfold dn
    cases hs : (f s).isSome <;> rw [hs] at hsz <;> simp at hsz ⊢ <;> omega
  · by_cases e : x = s
    · subst e
      show look _ x = if x = x then _ else _
      rw [if_pos rfl]
      unfold look
      rw [has_del_same]
      rfl
    · show look _ x = if x = s then _ else _
      rw [if_neg e]
      have hne : key x ≠ key s := fun h => e (key_inj h)
      unfold look
      rw [has_del_other hne, atKey_del_other hne]
      exact h1 x
  · by_cases e : x = s
    · subst e
      rw [has_del_same] at hx
      cases hx
    · have hne : key x ≠ key s := fun h => e (key_inj h)
      rw [has_del_other hne] at hx
      rw [atKey_del_other hne]
      exact h2 x hx
/-- as many keys as there are, no more than a list that holds them all is long -/
theorem Is.fin (h : Is P K w b f N) (hK : P.underlying K = some (.int .i64)) (l : List Int) (hl : ∀ s, (f s).isSome = true → s ∈ l) : N ≤ l.length := by
  obtain ⟨D, hD, hr⟩ := h
  have hf := has_look hr
  have hk := int_keyed hK
  obtain ⟨h0, h1, h2⟩ := hr
  obtain ⟨es, clock, hb, F, hs, rfl⟩ := hD
  obtain ⟨xs, hxs⟩ : ∃ xs : List Int, (es.toList.map (WideElems.rg P K rdr)).map (·.1) = xs.map key := by
    have hkeys := Maps.fit_keys F
    generalize es.toList.map (WideElems.rg P K rdr) = l at hkeys
    induction l with
    | nil => exact ⟨[], rfl⟩
    | cons p l ih =>
      obtain ⟨xs, hxs⟩ := ih (fun q hq => hkeys q (List.mem_cons_of_mem _ hq))
      obtain ⟨v, hv⟩ := hkeys p List.mem_cons_self
      obtain ⟨x, _, e2, _⟩ := Maps.keyOf_int_inv hK hv
      exact ⟨x :: xs, by rw [List.map_cons, List.map_cons, hxs, e2]; rfl⟩
  have hnd : xs.Nodup := by
    have h3 := Maps.fit_apart hk F
    have h4 : ((es.toList.map (WideElems.rg P K rdr)).map (·.1)).Nodup := by
      unfold List.Nodup
      rw [List.pairwise_map]
      exact h3
    rw [hxs] at h4
    exact List.Pairwise.of_map (f := key) (R := (· ≠ ·)) (S := (· ≠ ·)) (fun a b h e => h (by rw [e])) h4
  have hlen : xs.length = N := by
    have h5 := congrArg List.length hxs
    rw [List.length_map, List.length_map, List.length_map] at h5
    rw [← h0]
    simp only [Maps.size, length_sorted, List.length_map]
    exact h5.symm
  rw [← hlen]
  refine List.Nodup.length_le_of_subset hnd (fun x hx => ?_)
  refine hl x ?_
  rw [← hf x]
  rw [Maps.has_eq]
  have hmem : key x ∈ (es.toList.map (WideElems.rg P K rdr)).map (·.1) := by rw [hxs]; exact List.mem_map.2 ⟨x, hx, rfl⟩
  obtain ⟨p, hp, e⟩ := List.mem_map.1 hmem
  exact List.any_eq_true.2 ⟨p, mem_sorted.2 hp, by rw [e]; exact WideAt.sameKey_self trivial⟩
theorem Is.zero (h : Is P K w b f 0) (s : Int) : f s = none := by
  obtain ⟨D, hD, hr⟩ := h
  have hf := has_look hr s
  obtain ⟨es, rfl⟩ := hD.isMap
  have h0 : es = [] := List.eq_nil_of_length_eq_zero hr.1
  rw [h0] at hf
  cases hx : f s with
  | none => rfl
  | some v => rw [hx] at hf; cases hf
theorem Is.pos (h : Is P K w b f N) (hK : P.underlying K = some (.int .i64)) (hN : 0 < N) : ∃ s, (f s).isSome = true := by
  refine Classical.byContradiction (fun hn => ?_)
  have := h.fin hK [] (fun s hs => absurd ⟨s, hs⟩ hn)
  simp only [List.length_nil] at this
  omega
theorem keyOf_key (hK : P.underlying K = some (.int .i64)) {s : Int} (hs : Wf s) : keyOf P K (.int .i64 s) = some (key s) := keyOf_int_mk hK hs

/-- the map is being gone through by the iterator in block r: lf: whose turn is yet to come -/
def Rg (P : Program) (K : TypeId) (w : World) (b r : Nat) (f : Int → Option Value) (N : Nat) (lf : Int → Bool) (cnt : Nat) : Prop :=
  ∃ (D : D0) (left : Lit → Bool), w.ranges P K rdr b r N D left cnt ∧ Reads D f N ∧ (∀ s, left (key s) = lf s) ∧ ∀ s, lf s = true → (f s).isSome = true
theorem Rg.left_eq {r cnt : Nat} {lf : Int → Bool} (h : Rg P K w b r f N lf cnt) : w.rangeLeft b r = cnt := by
  obtain ⟨D, left, h1, _⟩ := h
  exact h1.left_eq
theorem Rg.block {w' : World} {r cnt : Nat} {lf : Int → Bool} (h : Rg P K w b r f N lf cnt) (hb : w'.heap[b]? = w.heap[b]?) (hr : w'.heap[r]? = w.heap[r]?) : Rg P K w' b r f N lf cnt := by
  obtain ⟨D, left, ⟨es, clock, since, seen, c0, g1, g2, g3, g4, g5, g6⟩, h1⟩ := h
  exact ⟨D, left, ⟨es, clock, since, seen, c0, hb.trans g1, g2, g3, g4, hr.trans g5, g6⟩, h1⟩
theorem Rg.lt {r cnt : Nat} {lf : Int → Bool} (h : Rg P K w b r f N lf cnt) : b < w.heap.size ∧ r < w.heap.size ∧ r ≠ b := by
  obtain ⟨D, left, h1, _⟩ := h
  exact ⟨h1.owns.lt, h1.lt, h1.ne⟩
theorem Rg.kind {r cnt : Nat} {lf : Int → Bool} (h : Rg P K w b r f N lf cnt) : (∃ es c, w.heap[b]? = some (.map es c)) ∧ ∃ a b c d, w.heap[r]? = some (.mapIter a b c d) := by
  obtain ⟨D, left, ⟨es, clock, since, seen, c0, g1, g2, g3, g4, g5, g6⟩, h1⟩ := h
  exact ⟨⟨_, _, g1⟩, _, _, _, _, g5⟩

section
variable {ops : Array Oper} {rest : List Oper} {o : Oper} {a : Act} {Q : Exit → Act → World → Prop}
/-- 'm[k] = v' -/
theorem wp_put (w : World) (hg : o.guard = none) (m x v : Operand) (T K E : TypeId) (hop : o.op = Op.mapUpdate T m x v) (hT : P.underlying T = some (.map K E)) (hK : P.underlying K = some (.int .i64)) (b N : Nat) (f : Int → Option Value)
    (hm : a.eval m = .map (some b)) (hi : Is P K w b f N) (hn : N < maxLen) (s : Int) (hs : Wf s) (hx : a.eval x = .int .i64 s) (val : Value) (hv : a.eval v = val)
    (hQ : ∀ w', Is P K w' b (fun x => if x = s then some val else f x) (up (f s) N) → w.grownBy w' (some b) → wpList P ops Q rest (a.put o.dst undef) w') : wpList P ops Q (o :: rest) a w := by
  obtain ⟨D, hD, hr⟩ := hi
  have hkey := keyOf_key hK hs
  exact wpList_mapUpdate_own w hg m x v T hop K E (int_keyed hK) hT rdr b N D hm hD hn (.int .i64 s) val (key s) hx hv hkey (.held val) [] rfl
    (fun w' hw' hgr => hQ w' ⟨_, by
      have h1 := reads_put (v := val) (hD.tidy (int_keyed hK)) ((int_keyed hK).key hkey) hr
      have h2 := tight hw'
      rw [h1.1] at h2
      exact ⟨h2, h1⟩⟩ hgr)
/-- 'm[k]' -/
theorem wp_look (w : World) (hg : o.guard = none) (m x : Operand) (T K E : TypeId) (hop : o.op = Op.lookup T m x false) (hT : P.underlying T = some (.map K E)) (hK : P.underlying K = some (.int .i64)) (z : Value) (hz : (zeroValue E).run P w = .ok z w) (b N : Nat) (f : Int → Option Value)
    (hm : a.eval m = .map (some b)) (hi : Is P K w b f N) (s : Int) (hs : Wf s) (hx : a.eval x = .int .i64 s)
    (hQ : wpList P ops Q rest (a.put o.dst ((f s).getD z)) w) : wpList P ops Q (o :: rest) a w := by
  obtain ⟨D, hD, hr⟩ := hi
  have hkey := keyOf_key hK hs
  refine wpList_plain hg fun K' hK' => ?_
  obtain ⟨v, ps, hrun, hv⟩ := hD.lookup (int_keyed hK) hT hz (zd := .held z) (zp := []) rfl hkey
  have e1 : v = (f s).getD z := by
    refine at_look hD.isMap hr ?_
    unfold rdr at hv
    injection hv with hv
    exact (congrArg Prod.fst hv).symm
  subst e1
  unfold Oper.wp
  simp [execOp, hop, hm, hx, hrun, Result.andThen]
  exact hK' _ _ hQ
/-- 'm[k]', guarded or not -/
theorem wp_look_w (w : World) (hw : Region.wanted o (yielded ops a.tmps) = true) (m x : Operand) (T K E : TypeId) (hop : o.op = Op.lookup T m x false) (hT : P.underlying T = some (.map K E)) (hK : P.underlying K = some (.int .i64)) (z : Value) (hz : (zeroValue E).run P w = .ok z w) (b N : Nat) (f : Int → Option Value)
    (hm : a.eval m = .map (some b)) (hi : Is P K w b f N) (s : Int) (hs : Wf s) (hx : a.eval x = .int .i64 s)
    (hQ : wpList P ops Q rest (a.put o.dst ((f s).getD z)) w) : wpList P ops Q (o :: rest) a w := by
  obtain ⟨D, hD, hr⟩ := hi
  have hkey := keyOf_key hK hs
  refine wpList_step fun K' hK' => ?_
  simp only [hw, if_true]
  obtain ⟨v, ps, hrun, hv⟩ := hD.lookup (int_keyed hK) hT hz (zd := .held z) (zp := []) rfl hkey
  have e1 : v = (f s).getD z := by
    refine at_look hD.isMap hr ?_
    unfold rdr at hv
    injection hv with hv
    exact (congrArg Prod.fst hv).symm
  subst e1
  unfold Oper.wp
  simp [execOp, hop, hm, hx, hrun, Result.andThen]
  exact hK' _ _ hQ
/-- 'v, ok := m[k]' -/
theorem wp_look_ok (w : World) (hg : o.guard = none) (m x : Operand) (T K E : TypeId) (hop : o.op = Op.lookup T m x true) (hT : P.underlying T = some (.map K E)) (hK : P.underlying K = some (.int .i64)) (z : Value) (hz : (zeroValue E).run P w = .ok z w) (b N : Nat) (f : Int → Option Value)
    (hm : a.eval m = .map (some b)) (hi : Is P K w b f N) (s : Int) (hs : Wf s) (hx : a.eval x = .int .i64 s)
    (hQ : wpList P ops Q rest (a.put o.dst (.tuple #[(f s).getD z, .bool (f s).isSome])) w) : wpList P ops Q (o :: rest) a w := by
  obtain ⟨D, hD, hr⟩ := hi
  have hkey := keyOf_key hK hs
  refine wpList_lookup_own_ok w hg m x T hop K E (int_keyed hK) hT rdr hz (.held z) [] rfl b N D hm hD (.int .i64 s) (key s) hx hkey (fun v ps hv => ?_)
  have e1 : v = (f s).getD z := by
    refine at_look hD.isMap hr ?_
    unfold rdr at hv
    injection hv with hv
    exact (congrArg Prod.fst hv).symm
  rw [has_look hr s, e1]
  exact hQ
/-- 'delete(m, k)' -/
theorem wp_del (w : World) (hg : o.guard = none) (m x : Operand) (T K E : TypeId) (hop : o.op = Op.call { callee := Callee.builtin Builtin.delete, args := #[m, x], argTypes := #[T, K] }) (hT : P.underlying T = some (.map K E)) (hK : P.underlying K = some (.int .i64)) (b N : Nat) (f : Int → Option Value)
    (hm : a.eval m = .map (some b)) (hi : Is P K w b f N) (s : Int) (hs : Wf s) (hx : a.eval x = .int .i64 s)
    (hQ : ∀ w', Is P K w' b (fun x => if x = s then none else f x) (dn (f s) N) → w.grownBy w' (some b) → wpList P ops Q rest (a.put o.dst (.tuple #[])) w') : wpList P ops Q (o :: rest) a w := by
  obtain ⟨D, hD, hr⟩ := hi
  have hkey := keyOf_key hK hs
  refine wpList_delete_own w hg m x T K hop E (int_keyed hK) hT rdr b N D hm hD (.int .i64 s) (key s) hx hkey (fun w' hw' hturn => ?_)
  refine hQ w' ⟨D.del (key s), ?_⟩ hturn.grown
  have h1 := reads_del (s := s) (hD.tidy (int_keyed hK)) hr
  have h2 := tight hw'
  rw [h1.1] at h2
  exact ⟨h2, h1⟩
/-- 'len(m)' -/
theorem wp_len (w : World) (hg : o.guard = none) (m : Operand) (T K E : TypeId) (hop : o.op = Op.call { callee := Callee.builtin Builtin.len, args := #[m], argTypes := #[T] }) (hT : P.underlying T = some (.map K E)) (b N : Nat) (f : Int → Option Value)
    (hm : a.eval m = .map (some b)) (hi : Is P K w b f N)
    (hQ : wpList P ops Q rest (a.put o.dst (.int .i64 N)) w) : wpList P ops Q (o :: rest) a w := by
  obtain ⟨D, hD, hr⟩ := hi
  have hrun := hD.len hT o.type
  rw [hr.1] at hrun
  refine wpList_plain hg fun K' hK' => ?_
  unfold Oper.wp
  simp [execOp, hop, resolve, invoke, builtin, hm, hrun, Result.andThen]
  exact hK' _ _ hQ
/-- 'len(m)' of a nil map -/
theorem wp_len_nil (w : World) (hg : o.guard = none) (m : Operand) (T K E : TypeId) (hop : o.op = Op.call { callee := Callee.builtin Builtin.len, args := #[m], argTypes := #[T] }) (hT : P.underlying T = some (.map K E)) (hm : a.eval m = .map none)
    (hQ : wpList P ops Q rest (a.put o.dst (.int .i64 0)) w) : wpList P ops Q (o :: rest) a w := by
  have hrun := Maps.len_nil (w := w) hT o.type
  refine wpList_plain hg fun K' hK' => ?_
  unfold Oper.wp
  simp [execOp, hop, resolve, invoke, builtin, hm, hrun, Result.andThen]
  exact hK' _ _ hQ
/-- 'range m' -/
theorem wp_range (w : World) (hg : o.guard = none) (m : Operand) (T K E : TypeId) (hop : o.op = Op.range T m) (hT : P.underlying T = some (.map K E)) (hK : P.underlying K = some (.int .i64)) (b N : Nat) (f : Int → Option Value)
    (hm : a.eval m = .map (some b)) (hi : Is P K w b f N)
    (hQ : ∀ w', Rg P K w' b w.heap.size f N (fun s => (f s).isSome) N → w.grownBy w' none → w'.heap.size = w.heap.size + 1 → wpList P ops Q rest (a.put o.dst (.pointer (some ⟨w.heap.size, 0, none⟩))) w') : wpList P ops Q (o :: rest) a w := by
  obtain ⟨D, hD, hr⟩ := hi
  refine wpList_range_own w hg m T hop K E (int_keyed hK) hT rdr b N D hm hD (fun w' h1 h2 h3 => hQ w' ⟨D, _, ?_, hr, fun s => has_look hr s, fun s h => h⟩ h2 h3)
  rw [hr.1] at h1
  exact h1
/-- the step -/
theorem wp_next (w : World) (hg : o.guard = none) (it : Operand) (hop : o.op = Op.next it false) (K : TypeId) (hK : P.underlying K = some (.int .i64)) (b r N : Nat) (f : Int → Option Value) (lf : Int → Bool) (cnt : Nat)
    (hit : a.eval it = .pointer (some ⟨r, 0, none⟩)) (h : Rg P K w b r f N lf cnt)
    (hDone : (∀ s, lf s = false) → wpList P ops Q rest (a.put o.dst (.tuple #[.bool false])) w)
    (hMore : ∀ (x : Int) (c : Value) (w' : World) (cnt' : Nat), Wf x → lf x = true → f x = some c → Rg P K w' b r f N (fun z => lf z && z != x) cnt' → cnt' < cnt → w.grownBy w' (some r) → w'.heap.size = w.heap.size →
      (Instr.entry (.pointer (some ⟨r, 0, none⟩))).run P w' = .ok (.tuple #[.int .i64 x, c]) w' → wpList P ops Q rest (a.put o.dst (.tuple #[.bool true, .int .i64 x, c])) w') : wpList P ops Q (o :: rest) a w := by
  obtain ⟨D, left, h1, hr, hl, hsub⟩ := h
  refine wpList_plain hg fun K' hK' => ?_
  unfold Oper.wp
  rcases h1.next (int_keyed hK) o.type with ⟨h0, hlf, hrun⟩ | ⟨ky, v, kl, y, w', cnt', hkey, hlk, hv, hat, hrun, hrg, hlt, hgr, hsz, hen⟩
  · simp [execOp, hop, hit, hrun, Result.andThen]
    exact hK' _ _ (hDone (fun s => by rw [← hl s]; exact hlf _))
  · obtain ⟨x, rfl, rfl, hwx⟩ := Maps.keyOf_int_inv hK hkey
    simp [execOp, hop, hit, hrun, Result.andThen]
    have hlx : lf x = true := by rw [← hl x]; exact hlk
    have hfx : f x = some v := by
      have h2 := hat (.held v)
      unfold rdr at hv
      injection hv with hv
      rw [← hv] at h2
      have h3 := at_look (z := v) h1.owns.isMap hr h2
      have h4 := hsub x hlx
      cases hf : f x with
      | none => rw [hf] at h4; cases h4
      | some u => rw [hf] at h3; rw [h3]; rfl
    refine hK' _ _ (hMore x v w' cnt' hwx hlx hfx ⟨D, _, hrg, hr, fun s => ?_, fun s hs => ?_⟩ hlt hgr hsz hen)
    · show (left (key s) && !(key s).sameKey (.int .i64 x)) = (lf s && s != x)
      rw [hl s]
      congr 1
      have e2 : (key s).sameKey (.int .i64 x) = (s == x) := by
        by_cases e : s = x
        · subst e
          rw [beq_self_eq_true]
          exact WideAt.sameKey_self trivial
        · rw [beq_eq_false_iff_ne.2 e]
          exact Maps.sameKey_ne (fun h => e (key_inj h))
      rw [e2]
      rfl
    · have h5 : (lf s && s != x) = true := hs
      rw [Bool.and_eq_true] at h5
      exact hsub s h5.1
end
end Mi
end Go.Proofs.Ytcfmbdcklapmhaa
