/-
  THE LIBRARY's CONTRACT ON slices.Reverse AT []string, LAID AT THIS DUMP BY NAMES: one application of the library's own theorem; a row of texts of the call's own, turned round.
-/
import Derived.Shelf.Slices.ReverseS
import Derived.Sort.OwnSorted
import Derived.Test.YtbkbopaoeehfkaaLruG
namespace Go.Proofs.Ytbkbopaoeehfkaa
open Go.Shelf Go.RowKit Go.Lib Go.Sort Lr
set_option linter.unusedVariables false
def sl_rev_ren : Go.Shelf.Ren := ⟨fun | 17 => 41 | n => n, fun | 0 => 0 | 3 => 3 | 4 => 4 | 9 => 9 | 24 => 81 | n => n, fun  | n => n⟩
theorem sl_rev : Go.Proofs.Lays2.n17 Try.prog sl_rev_ren := {
  mixed := by kernel_rfl
  f17 := Try.func41.trans (congrArg some (by kernel_rfl))
  t0 := Try.underlying0
  a0 := Try.isAgg0
  z0 := Try.sizeOf0
  v0 := Try.zeroValue0
  t3 := Try.underlying3
  a3 := Try.isAgg3
  z3 := Try.sizeOf3
  v3 := Try.zeroValue3
  t4 := Try.underlying4
  a4 := Try.isAgg4
  z4 := Try.sizeOf4
  v4 := Try.zeroValue4
  t9 := Try.underlying9
  a9 := Try.isAgg9
  z9 := Try.sizeOf9
  v9 := Try.zeroValue9
  t24 := Try.underlying81
  a24 := Try.isAgg81
  z24 := Try.sizeOf81
  v24 := Try.zeroValue81 }
theorem sc_enc (l : List ByteArray) : (l.map (·.data.toList)).map encStr = sc l := by
  unfold sc
  rw [List.map_map]
  refine List.map_congr_left fun s _ => ?_
  show Value.string ⟨s.data.toList.toArray⟩ = .string s
  rw [ba_self]
theorem rev_any {w : World} {B n cap : Nat} {p : Option Addr} {l : List ByteArray} (h : OwnS w B (.slice p n cap) l) (hn : l.length = n) (hm : n ≤ 1000) :
    Calls Try.prog 41 #[.slice p n cap] w fun e w' => e = .returned (.tuple #[]) ∧ OwnS w' B (.slice p n cap) l.reverse ∧ w.grownBy w' (Value.slice p n cap).ownBlock ∧ Below B w w' := by
  have hh := h
  rcases h.2 with ⟨hv, h0⟩ | ⟨g, cap', cur, hv, hbg, hgg, hle, hmx, hcs, htk⟩
  · injection hv with e1 e2 e3
    subst e1 e2 e3
    have hl : l = [] := List.eq_nil_of_length_eq_zero h0
    subst hl
    refine (Any.slices_Reverse_string_empty sl_rev none 0 w).mono ?_
    rintro e w' ⟨he, rfl⟩
    exact ⟨he, hh, World.grownBy.refl _ _, Below.refl _ _⟩
  · injection hv with e1 e2 e3
    subst e1 e3
    have hlen : (l.map (·.data.toList)).length = n := by rw [List.length_map, hn]
    have hH : Holds encStr w g 0 (l.map (·.data.toList)).toArray := holds_of_block hgg (by rw [sc_enc, List.length_map]; simpa using htk)
    have hc := Any.slices_Reverse_string sl_rev g 0 cap (l.map (·.data.toList)) w hH (by omega)
    rw [hlen] at hc
    refine hc.mono ?_
    rintro e w' ⟨he, k, hw⟩
    have hw2 : w' = grow (putRow encStr (Sort.ahead w k) g 0 (l.map (·.data.toList)).reverse.toArray) #[] := by rw [grow_empty]; exact hw
    have hgr : w.grownBy w' (some g) := by rw [hw2]; exact grownBy_sorted _
    have hor := ownsRow_sorted (w := w) (base := B) (g := g) (cap := cap) (n := k) (os := #[]) (e := 9) (cur := cur) (ss := l.map (·.data.toList)) (ts := (l.map (·.data.toList)).reverse) (by simp) hbg hgg (by rw [hlen, ← hn]; exact hle) hmx hcs
    rw [← hw2, hlen, ← List.map_reverse, sc_enc] at hor
    refine ⟨he, ?_, hgr, (Below.refl B w).grown hgr ?_ ?_⟩
    · unfold OwnS
      rw [List.length_reverse, hn]
      exact hor
    · exact Nat.le_trans hbg (Nat.le_of_lt (Array.getElem?_eq_some_iff.1 hgg).1)
    · intro x hx
      injection hx with hx
      rw [← hx]
      exact hbg
end Go.Proofs.Ytbkbopaoeehfkaa
