/-
  A MAP KEYED BY TEXTS, OF WHATEVER ELEMENTS: what it has at each key, and how many keys; stored into, looked up, struck, counted. The library's ghost datum holds the values themselves.
-/
import Derived.Test.YtbkbopaoeehfkaaLib
import Derived.Maps.OwnSet
import Derived.Maps.OwnOps
import Derived.Maps.Views
import Derived.StringKeys
namespace Go.Proofs.Ytbkbopaoeehfkaa
open Go.RowKit Go.Maps Go.WideMaps
set_option linter.unusedVariables false
namespace Ms
abbrev D0 := DataW Value
def rdr (v : Value) : Option (D0 × List MemPlace) := some (.held v, [])
def key (s : ByteArray) : Lit := .string s.data.toList
def heldOf : D0 → Option Value
  | .held v => some v
  | _ => none
theorem key_inj {a b : ByteArray} (h : key a = key b) : a = b := by
  have h2 : a.data.toList = b.data.toList := by
    unfold key at h
    injection h
  exact ByteArray.ext (Array.ext' h2)
def Wf (s : ByteArray) : Prop := s.size ≤ maxLen
/-- what the map as read has at a key -/
def look (D : D0) (s : ByteArray) : Option Value := if Maps.has D (key s) = true then heldOf (D.atKey (key s) .nil) else none
def Reads (D : D0) (f : ByteArray → Option Value) (N : Nat) : Prop := Maps.size D = N ∧ (∀ s, look D s = f s) ∧ ∀ s, Maps.has D (key s) = true → ∃ v, D.atKey (key s) .nil = .held v
/-- block b is a map keyed by whole numbers, of N keys, that has f -/
def Is (P : Program) (K : TypeId) (w : World) (b : Nat) (f : ByteArray → Option Value) (N : Nat) : Prop := ∃ D : D0, w.ownsMap P K rdr b N D ∧ Reads D f N
variable {P : Program} {K T E : TypeId} {w : World} {b N : Nat} {f : ByteArray → Option Value}
theorem tight {n : Nat} {D : D0} (h : w.ownsMap P K rdr b n D) : w.ownsMap P K rdr b (Maps.size D) D := by
  obtain ⟨es, clock, hb, F, hs, rfl⟩ := h
  exact ⟨es, clock, hb, F, by simp [Maps.size, length_sorted], rfl⟩
theorem Is.made (w : World) : Is P K (w.alloc (.map #[] 0)) w.heap.size (fun _ => none) 0 :=
  ⟨.map [], World.ownsMap_made w P K rdr, rfl, fun s => rfl, fun s h => by cases h⟩
theorem Is.lt (h : Is P K w b f N) : b < w.heap.size := by
  obtain ⟨D, hD, _⟩ := h
  exact hD.lt
theorem Is.block {w' : World} (h : Is P K w b f N) (hb : w'.heap[b]? = w.heap[b]?) : Is P K w' b f N := by
  obtain ⟨D, ⟨es, clock, hh, rest⟩, h1⟩ := h
  exact ⟨D, ⟨es, clock, by rw [hb]; exact hh, rest⟩, h1⟩
theorem Is.kind (h : Is P K w b f N) : ∃ es c, w.heap[b]? = some (.map es c) := by
  obtain ⟨D, ⟨es, clock, hh, rest⟩, h1⟩ := h
  exact ⟨es, clock, hh⟩
theorem Is.ext {g : ByteArray → Option Value} (h : Is P K w b f N) (e : ∀ s, f s = g s) : Is P K w b g N := by
  obtain ⟨D, hD, h0, h1, h2⟩ := h
  exact ⟨D, hD, h0, fun s => (h1 s).trans (e s), h2⟩
theorem has_look {D : D0} (hr : Reads D f N) (s : ByteArray) : Maps.has D (key s) = (f s).isSome := by
  obtain ⟨h0, h1, h2⟩ := hr
  rw [← h1 s]
  unfold look
  by_cases hh : Maps.has D (key s) = true
  · obtain ⟨v, hv⟩ := h2 s hh
    rw [if_pos hh, hh, hv]
    rfl
  · rw [if_neg hh]
    simpa using hh
theorem at_look {D : D0} (hm : IsMap D) (hr : Reads D f N) {s : ByteArray} {v z : Value} (h : D.atKey (key s) (.held z) = .held v) : v = (f s).getD z := by
  have hf := has_look hr s
  obtain ⟨h0, h1, h2⟩ := hr
  have h3 := h1 s
  unfold look at h3
  by_cases hh : Maps.has D (key s) = true
  · obtain ⟨u, hu⟩ := h2 s hh
    have hd : D.atKey (key s) (.held z) = D.atKey (key s) .nil := by
      obtain ⟨es, rfl⟩ := hm
      rw [Maps.has_eq] at hh
      cases hf : es.find? (fun p => p.1.sameKey (key s)) with
      | some p => simp only [DataW.atKey, hf]
      | none =>
        exfalso
        rw [List.find?_eq_none] at hf
        obtain ⟨p, hp, hp2⟩ := List.any_eq_true.1 hh
        exact hf p hp hp2
    rw [hd, hu] at h
    rw [if_pos hh, hu] at h3
    injection h with h
    rw [← h3, h]
    rfl
  · have hh2 : Maps.has D (key s) = false := by simpa using hh
    rw [atKey_of_not_has hh2] at h
    injection h with h
    rw [if_neg hh] at h3
    rw [← h3, ← h]
    rfl
def up (o : Option Value) (N : Nat) : Nat := if o.isSome then N else N + 1
def dn (o : Option Value) (N : Nat) : Nat := if o.isSome then N - 1 else N
theorem reads_put {D : D0} {s : ByteArray} {v : Value} (ht : Tidy D) (hk : WideAt.IsKeyLit (key s)) (hr : Reads D f N) :
    Reads (D.put (key s) (.held v)) (fun x => if x = s then some v else f x) (up (f s) N) := by
  have hm := ht.isMap
  have hf := has_look hr s
  obtain ⟨h0, h1, h2⟩ := hr
  refine ⟨by rw [size_put ht, hf, h0]; rfl, fun x => ?_, fun x hx => ?_⟩
  · by_cases e : x = s
    · subst e
      show look _ x = if x = x then _ else _
      rw [if_pos rfl]
      unfold look
      rw [has_put_same hm hk, if_pos rfl, atKey_put_same hm hk]
      rfl
    · show look _ x = if x = s then _ else _
      rw [if_neg e]
      have hne : key x ≠ key s := fun h => e (key_inj h)
      unfold look
      rw [has_put_other hne, atKey_put_other hne]
      exact h1 x
  · by_cases e : x = s
    · subst e
      exact ⟨v, atKey_put_same hm hk _ _⟩
    · have hne : key x ≠ key s := fun h => e (key_inj h)
      rw [has_put_other hne] at hx
      rw [atKey_put_other hne]
      exact h2 x hx
theorem reads_del {D : D0} {s : ByteArray} (ht : Tidy D) (hr : Reads D f N) :
    Reads (D.del (key s)) (fun x => if x = s then none else f x) (dn (f s) N) := by
  have hf := has_look hr s
  obtain ⟨h0, h1, h2⟩ := hr
  have hsz := size_del (k := key s) ht
  rw [hf, h0] at hsz
  refine ⟨?_, fun x => ?_, fun x hx => ?_⟩
  · unfold dn
    cases hs : (f s).isSome <;> rw [hs] at hsz <;> simp at hsz ⊢ <;> omega
  · by_cases e : x = s
    · subst e
      show look _ x = if x = x then _ else _
      rw [if_pos rfl]
      unfold look
      rw [has_del_same]
      rfl
    · show look _ x = if x = s then _ else _
      rw [if_neg e]
      have hne : key x ≠ key s := fun h => e (key_inj h)
      unfold look
      rw [has_del_other hne, atKey_del_other hne]
      exact h1 x
  · by_cases e : x = s
    · subst e
      rw [has_del_same] at hx
      cases hx
    · have hne : key x ≠ key s := fun h => e (key_inj h)
      rw [has_del_other hne] at hx
      rw [atKey_del_other hne]
      exact h2 x hx
theorem keyOf_key (hK : P.underlying K = some .string) {s : ByteArray} (hs : Wf s) : keyOf P K (.string s) = some (key s) := keyOf_string_mk hK hs

section
variable {ops : Array Oper} {rest : List Oper} {o : Oper} {a : Act} {Q : Exit → Act → World → Prop}
/-- 'm[k] = v' -/
theorem wp_put (w : World) (hg : o.guard = none) (m x v : Operand) (T K E : TypeId) (hop : o.op = Op.mapUpdate T m x v) (hT : P.underlying T = some (.map K E)) (hK : P.underlying K = some .string) (b N : Nat) (f : ByteArray → Option Value)
    (hm : a.eval m = .map (some b)) (hi : Is P K w b f N) (hn : N < maxLen) (s : ByteArray) (hs : Wf s) (hx : a.eval x = .string s) (val : Value) (hv : a.eval v = val)
    (hQ : ∀ w', Is P K w' b (fun x => if x = s then some val else f x) (up (f s) N) → w.grownBy w' (some b) → wpList P ops Q rest (a.put o.dst undef) w') : wpList P ops Q (o :: rest) a w := by
  obtain ⟨D, hD, hr⟩ := hi
  have hkey := keyOf_key hK hs
  exact wpList_mapUpdate_own w hg m x v T hop K E (string_keyed hK) hT rdr b N D hm hD hn (.string s) val (key s) hx hv hkey (.held val) [] rfl
    (fun w' hw' hgr => hQ w' ⟨_, by
      have h1 := reads_put (v := val) (hD.tidy (string_keyed hK)) ((string_keyed hK).key hkey) hr
      have h2 := tight hw'
      rw [h1.1] at h2
      exact ⟨h2, h1⟩⟩ hgr)
/-- 'm[k]' -/
theorem wp_look (w : World) (hg : o.guard = none) (m x : Operand) (T K E : TypeId) (hop : o.op = Op.lookup T m x false) (hT : P.underlying T = some (.map K E)) (hK : P.underlying K = some .string) (z : Value) (hz : (zeroValue E).run P w = .ok z w) (b N : Nat) (f : ByteArray → Option Value)
    (hm : a.eval m = .map (some b)) (hi : Is P K w b f N) (s : ByteArray) (hs : Wf s) (hx : a.eval x = .string s)
    (hQ : wpList P ops Q rest (a.put o.dst ((f s).getD z)) w) : wpList P ops Q (o :: rest) a w := by
  obtain ⟨D, hD, hr⟩ := hi
  have hkey := keyOf_key hK hs
  refine wpList_plain hg fun K' hK' => ?_
  obtain ⟨v, ps, hrun, hv⟩ := hD.lookup (string_keyed hK) hT hz (zd := .held z) (zp := []) rfl hkey
  have e1 : v = (f s).getD z := by
    refine at_look hD.isMap hr ?_
    unfold rdr at hv
    injection hv with hv
    exact (congrArg Prod.fst hv).symm
  subst e1
  unfold Oper.wp
  simp [execOp, hop, hm, hx, hrun, Result.andThen]
  exact hK' _ _ hQ
/-- 'v, ok := m[k]' -/
theorem wp_look_ok (w : World) (hg : o.guard = none) (m x : Operand) (T K E : TypeId) (hop : o.op = Op.lookup T m x true) (hT : P.underlying T = some (.map K E)) (hK : P.underlying K = some .string) (z : Value) (hz : (zeroValue E).run P w = .ok z w) (b N : Nat) (f : ByteArray → Option Value)
    (hm : a.eval m = .map (some b)) (hi : Is P K w b f N) (s : ByteArray) (hs : Wf s) (hx : a.eval x = .string s)
    (hQ : wpList P ops Q rest (a.put o.dst (.tuple #[(f s).getD z, .bool (f s).isSome])) w) : wpList P ops Q (o :: rest) a w := by
  obtain ⟨D, hD, hr⟩ := hi
  have hkey := keyOf_key hK hs
  refine wpList_lookup_own_ok w hg m x T hop K E (string_keyed hK) hT rdr hz (.held z) [] rfl b N D hm hD (.string s) (key s) hx hkey (fun v ps hv => ?_)
  have e1 : v = (f s).getD z := by
    refine at_look hD.isMap hr ?_
    unfold rdr at hv
    injection hv with hv
    exact (congrArg Prod.fst hv).symm
  rw [has_look hr s, e1]
  exact hQ
/-- 'delete(m, k)' -/
theorem wp_del (w : World) (hg : o.guard = none) (m x : Operand) (T K E : TypeId) (hop : o.op = Op.call { callee := Callee.builtin Builtin.delete, args := #[m, x], argTypes := #[T, K] }) (hT : P.underlying T = some (.map K E)) (hK : P.underlying K = some .string) (b N : Nat) (f : ByteArray → Option Value)
    (hm : a.eval m = .map (some b)) (hi : Is P K w b f N) (s : ByteArray) (hs : Wf s) (hx : a.eval x = .string s)
    (hQ : ∀ w', Is P K w' b (fun x => if x = s then none else f x) (dn (f s) N) → w.grownBy w' (some b) → wpList P ops Q rest (a.put o.dst (.tuple #[])) w') : wpList P ops Q (o :: rest) a w := by
  obtain ⟨D, hD, hr⟩ := hi
  have hkey := keyOf_key hK hs
  refine wpList_delete_own w hg m x T K hop E (string_keyed hK) hT rdr b N D hm hD (.string s) (key s) hx hkey (fun w' hw' hturn => ?_)
  refine hQ w' ⟨D.del (key s), ?_⟩ hturn.grown
  have h1 := reads_del (s := s) (hD.tidy (string_keyed hK)) hr
  have h2 := tight hw'
  rw [h1.1] at h2
  exact ⟨h2, h1⟩
/-- 'len(m)' -/
theorem wp_len (w : World) (hg : o.guard = none) (m : Operand) (T K E : TypeId) (hop : o.op = Op.call { callee := Callee.builtin Builtin.len, args := #[m], argTypes := #[T] }) (hT : P.underlying T = some (.map K E)) (b N : Nat) (f : ByteArray → Option Value)
    (hm : a.eval m = .map (some b)) (hi : Is P K w b f N)
    (hQ : wpList P ops Q rest (a.put o.dst (.int .i64 N)) w) : wpList P ops Q (o :: rest) a w := by
  obtain ⟨D, hD, hr⟩ := hi
  have hrun := hD.len hT o.type
  rw [hr.1] at hrun
  refine wpList_plain hg fun K' hK' => ?_
  unfold Oper.wp
  simp [execOp, hop, resolve, invoke, builtin, hm, hrun, Result.andThen]
  exact hK' _ _ hQ
theorem ex_len {o : Oper} {a : Act} {w : World} (m : Operand) (T K E : TypeId) (hop : o.op = Op.call { callee := Callee.builtin Builtin.len, args := #[m], argTypes := #[T] }) (hT : P.underlying T = some (.map K E)) (b N : Nat) (f : ByteArray → Option Value)
    (hm : a.eval m = .map (some b)) (hi : Is P K w b f N) : (execOp a.eval o).run P w = .ok (.value (.int .i64 N)) w := by
  obtain ⟨D, hD, hr⟩ := hi
  have hrun := hD.len hT o.type
  rw [hr.1] at hrun
  simp [execOp, hop, resolve, invoke, builtin, hm, hrun, Result.andThen]
/-- 'len(m)' of a nil map -/
theorem wp_len_nil (w : World) (hg : o.guard = none) (m : Operand) (T K E : TypeId) (hop : o.op = Op.call { callee := Callee.builtin Builtin.len, args := #[m], argTypes := #[T] }) (hT : P.underlying T = some (.map K E)) (hm : a.eval m = .map none)
    (hQ : wpList P ops Q rest (a.put o.dst (.int .i64 0)) w) : wpList P ops Q (o :: rest) a w := by
  have hrun := Maps.len_nil (w := w) hT o.type
  refine wpList_plain hg fun K' hK' => ?_
  unfold Oper.wp
  simp [execOp, hop, resolve, invoke, builtin, hm, hrun, Result.andThen]
  exact hK' _ _ hQ
end
end Ms
end Go.Proofs.Ytbkbopaoeehfkaa
