/-
  THE PLAIN MATHEMATICS OF LAYER 13 (history): histograms by keys; the class that is meet; rows, the one that was used last behind all.
-/
import Derived.Test.YtbkbopaoeehfkaaMLru
import Derived.Test.YtbkbopaoeehfkaaMHist
import Derived.Test.YtbkbopaoeehfkaaMQuant
namespace Go.Proofs.Ytbkbopaoeehfkaa
open Lr
set_option linter.unusedVariables false
namespace Hy
/-- the key's histogram -/
def hst (L : List KV) (k : ByteArray) : El := (fd L k).getD Hs.z
/-- behind Observe -/
def obs (room : Nat) (L : List KV) (k : ByteArray) (v : Nat) : List KV := pt room L k (Hs.ad (hst L k) v)
/-- the least class whose limit is not below x -/
def cls : List Int → Nat → Nat
  | [], _ => 0
  | l :: ls, x => if (x : Int) ≤ max l 0 then 0 else cls ls x + 1
def ca (ls : List Int) (x : Nat) (ok : Bool) : Nat := cond ok (cls ls x) 0
theorem cls_step {ls : List Int} {j : Nat} (h : j < ls.length) (x : Nat) : cls (ls.drop j) x = if (x : Int) ≤ max (ls.getD j 0) 0 then 0 else cls (ls.drop (j + 1)) x + 1 := by
  rw [List.drop_eq_getElem_cons h, List.getD_eq_getElem?_getD, List.getElem?_eq_getElem h]
  rfl
theorem cls_end (ls : List Int) (x : Nat) {n : Nat} (h : ls.length ≤ n) : cls (ls.drop n) x = 0 := by rw [List.drop_of_length_le h]; rfl
theorem cls_le (ls : List Int) (x : Nat) : cls ls x ≤ ls.length := by
  induction ls with
  | nil => exact Nat.le_refl _
  | cons l ls ih =>
    simp only [cls, List.length_cons]
    split <;> omega
theorem ca_le (ls : List Int) (x : Nat) (ok : Bool) : ca ls x ok ≤ ls.length := by
  unfold ca
  cases ok
  · exact Nat.zero_le _
  · exact cls_le ls x
/-- a greater estimate, no lower class (whatever the limits are) -/
theorem cls_mono (ls : List Int) {x y : Nat} (h : x ≤ y) : cls ls x ≤ cls ls y := by
  induction ls with
  | nil => exact Nat.le_refl _
  | cons l ls ih =>
    simp only [cls]
    by_cases e : (y : Int) ≤ max l 0
    · rw [if_pos e, if_pos (by omega)]; exact Nat.le_refl _
    · rw [if_neg e]
      split <;> omega
/-- a class that has a limit: what is estimated is not above it -/
theorem cls_in {ls : List Int} {x : Nat} (h : cls ls x < ls.length) : (x : Int) ≤ max (ls.getD (cls ls x) 0) 0 := by
  induction ls with
  | nil => simp [cls] at h
  | cons l ls ih =>
    by_cases e : (x : Int) ≤ max l 0
    · have : cls (l :: ls) x = 0 := by simp only [cls, if_pos e]
      rw [this]
      exact e
    · have e2 : cls (l :: ls) x = cls ls x + 1 := by simp only [cls, if_neg e]
      rw [e2] at h ⊢
      rw [List.getD_cons_succ]
      exact ih (by simpa using h)
theorem obs_len {L : List KV} (room : Nat) (k : ByteArray) (v : Nat) : (obs room L k v).length ≤ room ∧ (obs room L k v).length ≤ L.length + 1 := pt_len L room k _
theorem obs_keys {L : List KV} (h : Ks L) (room : Nat) (k : ByteArray) (v : Nat) : Ks (obs room L k v) := h.pt room k _
/-! the page's rows: the one that was used last behind all -/
theorem fd_rev {L : List KV} (h : Ks L) (k : ByteArray) : fd L.reverse k = fd L k := by
  cases hf : fd L k with
  | none =>
    rw [fd_none] at hf ⊢
    simpa using hf
  | some v =>
    have hm : (k, v) ∈ L.reverse := List.mem_reverse.2 (fd_mem hf)
    cases hg : fd L.reverse k with
    | none => exact absurd (List.mem_map.2 ⟨_, hm, rfl⟩) (fd_none.1 hg)
    | some u =>
      have hm2 : (k, u) ∈ L := List.mem_reverse.1 (fd_mem hg)
      have hm1 : (k, v) ∈ L := fd_mem hf
      congr 1
      obtain ⟨i, hi, e1⟩ := List.mem_iff_getElem.1 hm1
      obtain ⟨j, hj, e2⟩ := List.mem_iff_getElem.1 hm2
      unfold Ks at h
      have hij : i = j := by
        refine (List.getElem_inj (xs := L.map (·.1)) (h₀ := by simpa using hi) (h₁ := by simpa using hj) h).1 ?_
        rw [List.getElem_map, List.getElem_map, e1, e2]
      subst hij
      rw [e1] at e2
      injection e2 with _ e2
      exact e2.symm
theorem drp_rev (L : List KV) (k : ByteArray) : drp L.reverse k = (drp L k).reverse := by unfold drp; rw [List.filter_reverse]
/-- behind the page's Observe -/
def robs (room : Nat) (P : List KV) (k : ByteArray) (f : El) : List KV := if room < (drp P k).length + 1 then (drp P k ++ [(k, f)]).drop 1 else drp P k ++ [(k, f)]
theorem robs_rev {L : List KV} {room : Nat} (hr : 0 < room) (hl : L.length ≤ room) (k : ByteArray) (f : El) : robs room L.reverse k f = (pt room L k f).reverse := by
  unfold robs pt
  rw [drp_rev]
  have hd := drp_le L k
  have e : (drp L k).reverse ++ [(k, f)] = ((k, f) :: drp L k).reverse := by rw [List.reverse_cons]
  rw [e, List.length_reverse]
  by_cases h : room < (drp L k).length + 1
  · rw [if_pos h]
    have hlen : (drp L k).length = room := by omega
    rw [List.drop_reverse, List.length_cons, hlen]
    rfl
  · rw [if_neg h, List.take_of_length_le (by simp; omega)]
theorem hst_rev {L : List KV} (h : Ks L) (k : ByteArray) : hst L.reverse k = hst L k := by unfold hst; rw [fd_rev h]
end Hy
end Go.Proofs.Ytbkbopaoeehfkaa
