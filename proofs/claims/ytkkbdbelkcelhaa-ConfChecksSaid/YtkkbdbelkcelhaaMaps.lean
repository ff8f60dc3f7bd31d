/-
  A MAP KEYED BY TEXTS, OF WHATEVER ELEMENTS, THAT THE CALL MAKES: what it has at each key. The library's ghost datum holds the values themselves.
-/
import Derived.Test.YtkkbdbelkcelhaaLib
import Derived.Maps.OwnSet
import Derived.Maps.OwnOps
import Derived.Maps.Views
import Derived.StringKeys
namespace Go.Proofs.Ytkkbdbelkcelhaa
open Go.RowKit Go.Maps Go.WideMaps
set_option linter.unusedVariables false
namespace Mp
abbrev D0 := DataW Value
def rdr (v : Value) : Option (D0 × List MemPlace) := some (.held v, [])
def key (s : ByteArray) : Lit := .string s.data.toList
def heldOf : D0 → Option Value
  | .held v => some v
  | _ => none
theorem key_inj {a b : ByteArray} (h : key a = key b) : a = b := by
  have h2 : a.data.toList = b.data.toList := by
    unfold key at h
    injection h
  exact ByteArray.ext (Array.ext' h2)
/-- what the map as read has at a key -/
def look (D : D0) (s : ByteArray) : Option Value := if Maps.has D (key s) = true then heldOf (D.atKey (key s) .nil) else none
/-- block b is a map keyed by texts, of at most n entries, that has f -/
def Is (P : Program) (K : TypeId) (w : World) (b n : Nat) (f : ByteArray → Option Value) : Prop := ∃ D : D0, w.ownsMap P K rdr b n D ∧ (∀ s, look D s = f s) ∧ ∀ s, Maps.has D (key s) = true → ∃ v, D.atKey (key s) .nil = .held v
variable {P : Program} {K T E : TypeId} {w : World} {b n : Nat} {f : ByteArray → Option Value}
theorem Is.made (w : World) : Is P K (w.alloc (.map #[] 0)) w.heap.size 0 (fun _ => none) :=
  ⟨.map [], World.ownsMap_made w P K rdr, fun s => rfl, fun s h => by cases h⟩
theorem Is.lt (h : Is P K w b n f) : b < w.heap.size := by
  obtain ⟨D, hD, _⟩ := h
  exact hD.lt
theorem Is.kept {w' : World} {row : Option Nat} (h : Is P K w b n f) (hg : w.grownBy w' row) (hne : some b ≠ row) : Is P K w' b n f := by
  obtain ⟨D, hD, h1, h2⟩ := h
  exact ⟨D, hD.kept hg hne, h1, h2⟩
theorem Is.alloc (h : Is P K w b n f) (o : Obj) : Is P K (w.alloc o) b n f := by
  obtain ⟨D, hD, h1, h2⟩ := h
  exact ⟨D, hD.alloc o, h1, h2⟩
theorem Is.drew (h : Is P K w b n f) : Is P K w.drew b n f := by
  obtain ⟨D, hD, h1, h2⟩ := h
  exact ⟨D, hD.drew, h1, h2⟩
theorem Is.setCell (h : Is P K w b n f) {a : Addr} (ha : b ≠ a.block) (u : Value) : Is P K (w.setCell a u) b n f := by
  obtain ⟨D, hD, h1, h2⟩ := h
  exact ⟨D, hD.setCell ha u, h1, h2⟩
theorem Is.below {w' : World} {B : Nat} (h : Is P K w b n f) (hb : Below B w w') (hlt : b < B) : Is P K w' b n f := by
  obtain ⟨D, ⟨es, clock, hh, rest⟩, h1, h2⟩ := h
  exact ⟨D, ⟨es, clock, by rw [hb.block b hlt]; exact hh, rest⟩, h1, h2⟩
theorem Is.ext {g : ByteArray → Option Value} (h : Is P K w b n f) (e : ∀ s, f s = g s) : Is P K w b n g := by
  obtain ⟨D, hD, h1, h2⟩ := h
  exact ⟨D, hD, fun s => (h1 s).trans (e s), h2⟩
/-- a store -/
theorem Is.put {D : D0} {s : ByteArray} {v : Value} {w' : World} (h1 : ∀ x, look D x = f x) (h2 : ∀ x, Maps.has D (key x) = true → ∃ u, D.atKey (key x) .nil = .held u) (hm : IsMap D) (hk : WideAt.IsKeyLit (key s)) (hw : w'.ownsMap P K rdr b (n + 1) (D.put (key s) (.held v))) :
    Is P K w' b (n + 1) (fun x => if x = s then some v else f x) := by
  refine ⟨_, hw, fun x => ?_, fun x hx => ?_⟩
  · by_cases e : x = s
    · subst e
      show look _ x = if x = x then _ else _
      rw [if_pos rfl]
      unfold look
      rw [has_put_same hm hk, if_pos rfl, atKey_put_same hm hk]
      rfl
    · show look _ x = if x = s then _ else _
      rw [if_neg e]
      have hne : key x ≠ key s := fun h => e (key_inj h)
      unfold look
      rw [has_put_other hne, atKey_put_other hne]
      exact h1 x
  · by_cases e : x = s
    · subst e
      exact ⟨v, atKey_put_same hm hk _ _⟩
    · have hne : key x ≠ key s := fun h => e (key_inj h)
      rw [has_put_other hne] at hx
      rw [atKey_put_other hne]
      exact h2 x hx

section
variable {ops : Array Oper} {rest : List Oper} {o : Oper} {a : Act} {Q : Exit → Act → World → Prop}
theorem keyed_of (hK : P.underlying K = some .string) : Keyed P K := string_keyed hK
/-- 'm[k] = v' -/
theorem wp_put (w : World) (hg : o.guard = none) (m x v : Operand) (T K E : TypeId) (hop : o.op = Op.mapUpdate T m x v) (hT : P.underlying T = some (.map K E)) (hK : P.underlying K = some .string) (b n : Nat) (f : ByteArray → Option Value)
    (hm : a.eval m = .map (some b)) (hi : Is P K w b n f) (hn : n < maxLen) (s : ByteArray) (hs : s.size ≤ maxLen) (hx : a.eval x = .string s) (val : Value) (hv : a.eval v = val)
    (hQ : ∀ w', Is P K w' b (n + 1) (fun x => if x = s then some val else f x) → w.grownBy w' (some b) → wpList P ops Q rest (a.put o.dst undef) w') : wpList P ops Q (o :: rest) a w := by
  obtain ⟨D, hD, h1, h2⟩ := hi
  have hkey := keyOf_string_mk hK hs
  exact wpList_mapUpdate_own w hg m x v T hop K E (keyed_of hK) hT rdr b n D hm hD hn (.string s) val (key s) hx hv hkey (.held val) [] rfl
    (fun w' hw' hgr => hQ w' (Is.put h1 h2 hD.isMap ((keyed_of hK).key hkey) hw') hgr)
/-- 'v, ok := m[k]' -/
theorem wp_look_ok (w : World) (hg : o.guard = none) (m x : Operand) (T K E : TypeId) (hop : o.op = Op.lookup T m x true) (hT : P.underlying T = some (.map K E)) (hK : P.underlying K = some .string) (z : Value) (hz : (zeroValue E).run P w = .ok z w) (b n : Nat) (f : ByteArray → Option Value)
    (hm : a.eval m = .map (some b)) (hi : Is P K w b n f) (s : ByteArray) (hs : s.size ≤ maxLen) (hx : a.eval x = .string s)
    (hQ : wpList P ops Q rest (a.put o.dst (.tuple #[(f s).getD z, .bool (f s).isSome])) w) : wpList P ops Q (o :: rest) a w := by
  obtain ⟨D, hD, h1, h2⟩ := hi
  have hkey : keyOf P K (.string s) = some (key s) := keyOf_string_mk hK hs
  refine wpList_lookup_own_ok w hg m x T hop K E (keyed_of hK) hT rdr hz (.held z) [] rfl b n D hm hD (.string s) (key s) hx hkey (fun v ps hv => ?_)
  have hv' : (DataW.held v : D0) = D.atKey (key s) (.held z) := by
    have := hv
    unfold rdr at this
    injection this with this
    exact congrArg Prod.fst this
  have key2 : (Value.tuple #[v, .bool (Maps.has D (key s))]) = .tuple #[(f s).getD z, .bool (f s).isSome] := by
    rw [← h1 s]
    unfold look
    by_cases hh : Maps.has D (key s) = true
    · obtain ⟨u, hu⟩ := h2 s hh
      have hd : D.atKey (key s) (.held z) = D.atKey (key s) .nil := by
        obtain ⟨es, rfl⟩ := hD.isMap
        rw [Maps.has_eq] at hh
        cases hf : es.find? (fun p => p.1.sameKey (key s)) with
        | some p => simp only [DataW.atKey, hf]
        | none =>
          exfalso
          rw [List.find?_eq_none] at hf
          obtain ⟨p, hp, hp2⟩ := List.any_eq_true.1 hh
          exact hf p hp hp2
      rw [hd, hu] at hv'
      injection hv' with hv'
      subst hv'
      rw [if_pos hh, hu, hh]
      rfl
    · have hh2 : Maps.has D (key s) = false := by simpa using hh
      rw [atKey_of_not_has hh2] at hv'
      injection hv' with hv'
      subst hv'
      rw [if_neg hh, hh2]
      rfl
  rw [key2]
  exact hQ
end
end Mp
end Go.Proofs.Ytkkbdbelkcelhaa
