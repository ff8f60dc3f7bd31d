/-
  CONTRACTS OF LAYER 8 (wheel), part F: the comparison of timers, and their sort.
-/
import Derived.Test.YtlhajdmleefkiaaWheelE
import Derived.Test.YtlhajdmleefkiaaRegionS
import Derived.Test.YtlhajdmleefkiaaSortT
namespace Go.Proofs.Ytlhajdmleefkiaa
open Go.RowKit Wl Go.Sort
set_option linter.unusedVariables false

def cmpI (a b : Int) : Int := if a < b then -1 else if b < a then 1 else 0
theorem nan_u (a : Int) (w : World) : Calls Try.prog 54 #[.int .u64 a] w fun e w' => e = .returned (.bool false) ∧ w' = w := by
  go_enter Try.func54, Try.ntmps54
  go_wp2
  go_ret
  exact ⟨by simp, rfl⟩
theorem nan_i (a : Int) (w : World) : Calls Try.prog 55 #[.int .i64 a] w fun e w' => e = .returned (.bool false) ∧ w' = w := by
  go_enter Try.func55, Try.ntmps55
  go_wp2
  go_ret
  exact ⟨by simp, rfl⟩
theorem compare_u (a b : Int) (w : World) : Calls Try.prog 49 #[.int .u64 a, .int .u64 b] w fun e w' => e = .returned (.int .i64 (cmpI a b)) ∧ w' = w := by
  have H := Lib.hid nan_u
  obtain ⟨c, hc⟩ : ∃ c, cmpI a b = c := ⟨_, rfl⟩
  have HC := Lib.hid hc
  rw [hc]
  clear hc
  rcases Int.lt_trichotomy a b with h | h | h
  · go_enter Try.func49, Try.ntmps49
    go_wp2_with (go_at_call 54; refine (H.out _ _).mono ?_; rintro e w' ⟨rfl, hw⟩; rw [hw]; clear hw)
    go_ret
    exact ⟨ret_i64 (by rw [← HC.out]; unfold cmpI; rw [if_pos h]), rfl⟩
  · have h1 : ¬ a < b := by omega
    have h2 : ¬ b < a := by omega
    clear h
    go_enter Try.func49, Try.ntmps49
    go_wp2_with (go_at_call 54; refine (H.out _ _).mono ?_; rintro e w' ⟨rfl, hw⟩; rw [hw]; clear hw)
    go_ret
    exact ⟨ret_i64 (by rw [← HC.out]; unfold cmpI; rw [if_neg (by omega), if_neg (by omega)]), rfl⟩
  · have h1 : ¬ a < b := by omega
    go_enter Try.func49, Try.ntmps49
    go_wp2_with (go_at_call 54; refine (H.out _ _).mono ?_; rintro e w' ⟨rfl, hw⟩; rw [hw]; clear hw)
    go_ret
    exact ⟨ret_i64 (by rw [← HC.out]; unfold cmpI; rw [if_neg (by omega), if_pos h]), rfl⟩
theorem compare_i (a b : Int) (w : World) : Calls Try.prog 50 #[.int .i64 a, .int .i64 b] w fun e w' => e = .returned (.int .i64 (cmpI a b)) ∧ w' = w := by
  have H := Lib.hid nan_i
  obtain ⟨c, hc⟩ : ∃ c, cmpI a b = c := ⟨_, rfl⟩
  have HC := Lib.hid hc
  rw [hc]
  clear hc
  rcases Int.lt_trichotomy a b with h | h | h
  · go_enter Try.func50, Try.ntmps50
    go_wp2_with (go_at_call 55; refine (H.out _ _).mono ?_; rintro e w' ⟨rfl, hw⟩; rw [hw]; clear hw)
    go_ret
    exact ⟨ret_i64 (by rw [← HC.out]; unfold cmpI; rw [if_pos h]), rfl⟩
  · have h1 : ¬ a < b := by omega
    have h2 : ¬ b < a := by omega
    clear h
    go_enter Try.func50, Try.ntmps50
    go_wp2_with (go_at_call 55; refine (H.out _ _).mono ?_; rintro e w' ⟨rfl, hw⟩; rw [hw]; clear hw)
    go_ret
    exact ⟨ret_i64 (by rw [← HC.out]; unfold cmpI; rw [if_neg (by omega), if_neg (by omega)]), rfl⟩
  · have h1 : ¬ a < b := by omega
    go_enter Try.func50, Try.ntmps50
    go_wp2_with (go_at_call 55; refine (H.out _ _).mono ?_; rintro e w' ⟨rfl, hw⟩; rw [hw]; clear hw)
    go_ret
    exact ⟨ret_i64 (by rw [← HC.out]; unfold cmpI; rw [if_neg (by omega), if_pos h]), rfl⟩
def orI (a b : Int) : Int := if a = 0 then b else a
theorem or_any (a b : Int) (g : Nat) (w : World) (h0 : w.cell? ⟨g, 0, none⟩ = some (.int .i64 a)) (h1 : w.cell? ⟨g, 1, none⟩ = some (.int .i64 b)) : Calls Try.prog 48 #[.slice (some ⟨g, 0, none⟩) 2 2] w fun e w' => e = .returned (.int .i64 (orI a b)) ∧ w' = w := by
  obtain ⟨c, hc⟩ : ∃ c, orI a b = c := ⟨_, rfl⟩
  have HC := Lib.hid hc
  rw [hc]
  clear hc
  by_cases ha : a = 0
  · subst ha
    by_cases hb : b = 0
    · subst hb
      go_enter Try.func48, Try.ntmps48
      go_wp2
      refine wp_loop_rounds 3 ?_
      rw [rounds_succ]
      go_wp2
      rw [rounds_succ]
      go_wp2
      rw [rounds_succ]
      go_wp2
      go_ret
      exact ⟨ret_i64 (by rw [← HC.out]; rfl), rfl⟩
    · have hb2 : (b != 0) = true := by simpa using hb
      go_enter Try.func48, Try.ntmps48
      go_wp2
      refine wp_loop_rounds 2 ?_
      rw [rounds_succ]
      go_wp2
      rw [rounds_succ]
      go_wp2
      go_ret
      exact ⟨ret_i64 (by rw [← HC.out]; rfl), rfl⟩
  · have hb2 : (a != 0) = true := by simpa using ha
    go_enter Try.func48, Try.ntmps48
    go_wp2
    refine wp_loop_rounds 1 ?_
    rw [rounds_succ]
    go_wp2
    go_ret
    exact ⟨ret_i64 (by rw [← HC.out]; unfold orI; rw [if_neg ha]), rfl⟩
def tcmp (x y : T) : Int := orI (cmpI x.2 y.2) (cmpI x.1 y.1)
def tenc (x : T) : List Value := [.int .i64 0, .int .i64 x.1, .int .u64 x.2]
theorem tcmp_any (x y : T) (W : World) : Calls Try.prog 47 #[.agg (tenc x).toArray, .agg (tenc y).toArray] W fun e w' => e = .returned (.int .i64 (tcmp x y)) ∧ ∃ q os, w' = grow (W.drewN q) os := by
  obtain ⟨k1, a1⟩ := x
  obtain ⟨k2, a2⟩ := y
  obtain ⟨z1, hz1⟩ : ∃ z : Int, (a1 : Int) = z := ⟨_, rfl⟩
  obtain ⟨z2, hz2⟩ : ∃ z : Int, (a2 : Int) = z := ⟨_, rfl⟩
  show Calls Try.prog 47 #[.agg #[.int .i64 0, .int .i64 k1, .int .u64 a1], .agg #[.int .i64 0, .int .i64 k2, .int .u64 a2]] W fun e w' => e = .returned (.int .i64 (orI (cmpI a1 a2) (cmpI k1 k2))) ∧ ∃ q os, w' = grow (W.drewN q) os
  rw [hz1, hz2]
  have HU := Lib.hid (compare_u z1 z2)
  have HI := Lib.hid (compare_i k1 k2)
  obtain ⟨c1, hc1⟩ : ∃ c, cmpI z1 z2 = c := ⟨_, rfl⟩
  obtain ⟨c2, hc2⟩ : ∃ c, cmpI k1 k2 = c := ⟨_, rfl⟩
  rw [hc1] at HU
  rw [hc2] at HI
  rw [hc1, hc2]
  clear hc1 hc2 hz1 hz2
  obtain ⟨W0, hW0⟩ : ∃ W0, (W.alloc (.cells #[.int .i64 0, .int .i64 k1, .int .u64 z1] 39)).alloc (.cells #[.int .i64 0, .int .i64 k2, .int .u64 z2] 39) = W0 := ⟨_, rfl⟩
  have hgrow : Hid (∃ os, W0 = grow W os) := Lib.hid ⟨_, by rw [← hW0, alloc_eq_grow, alloc_eq_grow, grow_grow]⟩
  have hcell : ∀ w1, w1 = W0.drew ∨ w1 = (W0.alloc (.cells #[.int .i64 c1, .int .i64 c2] 3)).drew → (w1.cell? ⟨W.heap.size, 1, none⟩ = some (.int .i64 k1) ∧ w1.cell? ⟨W.heap.size, 2, none⟩ = some (.int .u64 z1)) ∧ w1.cell? ⟨W.heap.size + 1, 1, none⟩ = some (.int .i64 k2) ∧ w1.cell? ⟨W.heap.size + 1, 2, none⟩ = some (.int .u64 z2) := by
    have e0 : W0.heap[W.heap.size]? = some (.cells #[.int .i64 0, .int .i64 k1, .int .u64 z1] 39) := by
      rw [← hW0, (MapKept.heap_alloc _ _).2 _ (by simp)]
      exact (MapKept.heap_alloc _ _).1
    have e1 : W0.heap[W.heap.size + 1]? = some (.cells #[.int .i64 0, .int .i64 k2, .int .u64 z2] 39) := by
      rw [← hW0]
      have := (MapKept.heap_alloc (W.alloc (.cells #[.int .i64 0, .int .i64 k1, .int .u64 z1] 39)) (.cells #[.int .i64 0, .int .i64 k2, .int .u64 z2] 39)).1
      simpa using this
    have l0 := (Array.getElem?_eq_some_iff.1 e0).1
    have l1 := (Array.getElem?_eq_some_iff.1 e1).1
    rintro w1 (rfl | rfl)
    · have f0 : W0.drew.heap[W.heap.size]? = _ := e0
      have f1 : W0.drew.heap[W.heap.size + 1]? = _ := e1
      refine ⟨⟨?_, ?_⟩, ?_, ?_⟩ <;> simp only [World.cell?, f0, f1] <;> rfl
    · have f0 : (W0.alloc (.cells #[.int .i64 c1, .int .i64 c2] 3)).drew.heap[W.heap.size]? = _ := ((MapKept.heap_alloc W0 _).2 _ l0).trans e0
      have f1 : (W0.alloc (.cells #[.int .i64 c1, .int .i64 c2] 3)).drew.heap[W.heap.size + 1]? = _ := ((MapKept.heap_alloc W0 _).2 _ l1).trans e1
      refine ⟨⟨?_, ?_⟩, ?_, ?_⟩ <;> simp only [World.cell?, f0, f1] <;> rfl
  have HO := Lib.hid (or_any c1 c2 W0.heap.size ((W0.alloc (.cells #[.int .i64 c1, .int .i64 c2] 3)).drew) (by
    have e : (W0.alloc (.cells #[.int .i64 c1, .int .i64 c2] 3)).drew.heap[W0.heap.size]? = some (.cells #[.int .i64 c1, .int .i64 c2] 3) := (MapKept.heap_alloc W0 _).1
    simp only [World.cell?, e]
    rfl) (by
    have e : (W0.alloc (.cells #[.int .i64 c1, .int .i64 c2] 3)).drew.heap[W0.heap.size]? = some (.cells #[.int .i64 c1, .int .i64 c2] 3) := (MapKept.heap_alloc W0 _).1
    simp only [World.cell?, e]
    rfl))
  have HC := Lib.hid hcell
  clear hcell
  go_enter Try.func47, Try.ntmps47
  go_wp2
  refine Bs.wp_region (S := Bs.two 10 W0.drew ((W0.alloc (.cells #[.int .i64 c1, .int .i64 c2] 3)).drew)) (by kernel_rfl) ?_ ?_
  · exact (Bs.two_ahead (by decide) (by decide)).2 rfl
  iterate 10 (first
    | (refine Bs.anyR_value (v := ?_) (by kernel_rfl) (Bs.two_set (by decide)) (by rfl) (fun _ _ _ h => h) (fun l w1 hS => ?_) ?_
       rotate_left
       · obtain ⟨⟨h1, h2⟩, h3, h4⟩ := HC.out w1 (Bs.two_or hS)
         go_simp
         with_reducible rfl
       simp only [Act.put, List.setIfInBounds_toArray, List.set_cons_zero, List.set_cons_succ])
    | (refine Bs.anyR_call (v := ?_) (f := ?_) (args := ?_) (by kernel_rfl) (Bs.two_set (by decide)) (by rfl) (fun _ _ _ h => h) (fun l w1 hS => ?_) (fun l w1 hS => ?_) ?_
       rotate_left 3
       · go_simp
         (try constructor) <;> with_reducible rfl
       · first
           | (with_reducible refine ((HU.out _).mono ?_); rintro e w' ⟨rfl, rfl⟩; refine ⟨?_, hS⟩; with_reducible rfl)
           | (with_reducible refine ((HI.out _).mono ?_); rintro e w' ⟨rfl, rfl⟩; refine ⟨?_, hS⟩; with_reducible rfl)
       simp only [Act.put, List.setIfInBounds_toArray, List.set_cons_zero, List.set_cons_succ]))
  refine Bs.anyR_only (by kernel_rfl) (by rfl) (fun w hS => ?_)
  have hw : w = W0.drew := (Bs.two_ahead (by decide) (by decide)).1 hS
  subst hw
  go_simp
  refine ⟨(Bs.two_behind (by decide) (by decide)).2 rfl, ?_⟩
  refine Bs.anyR_only (by kernel_rfl) (by rfl) (fun w hS => ?_)
  have hw := (Bs.two_behind (by decide) (by decide)).1 hS
  subst hw
  go_simp
  refine HO.out.mono ?_
  rintro e w' ⟨rfl, rfl⟩
  refine ⟨(Bs.two_behind (by decide) (by decide)).2 rfl, ?_⟩
  (try simp only [Act.put, List.setIfInBounds_toArray, List.set_cons_zero, List.set_cons_succ])
  refine Bs.anyR_only (by kernel_rfl) (by rfl) (fun w hS => ?_)
  have hw := (Bs.two_behind (by decide) (by decide)).1 hS
  subst hw
  go_simp
  refine ⟨(Bs.two_behind (by decide) (by decide)).2 rfl, ?_⟩
  refine Bs.anyR_done (by kernel_rfl) (fun w hS => ?_)
  have hw := (Bs.two_behind (by decide) (by decide)).1 hS
  subst hw
  clear hS
  go_wp2_with fail
  go_ret
  refine ⟨rfl, ?_⟩
  obtain ⟨os, hos⟩ := hgrow.out
  refine ⟨1, os ++ #[(.cells #[.int .i64 c1, .int .i64 c2] 3)], ?_⟩
  rw [hos, alloc_eq_grow, grow_grow]
  rfl
theorem tcmp_lt (x y : T) : ltOf tcmp x y = decide (lt x y) := by
  unfold ltOf tcmp
  rw [decide_eq_decide]
  unfold lt orI cmpI
  repeat' split <;> omega
theorem tcmp_order : SWO (ltOf tcmp) where
  irrefl x := by rw [tcmp_lt]; exact decide_eq_false (lt_irrefl _)
  trans x y z h1 h2 := by
    rw [tcmp_lt, decide_eq_true_iff] at *
    exact lt_trans h1 h2
  ntrans x y z h1 h2 := by
    rw [tcmp_lt, decide_eq_false_iff_not] at *
    unfold lt at *
    omega
theorem tflat_get (l : List T) (j : Nat) (hj : j < l.length * 3) : (flatK tenc 3 l.toArray)[j]! = ((tcells l)[j]?).getD default := by
  rw [get_flatK tenc 3 l.toArray j (by simpa using hj)]
  have hi : j / 3 < l.length := by omega
  obtain ⟨h1, h2, h3⟩ := tcells_get l (j / 3) hi
  have hg : l.toArray[j / 3]! = l.getD (j / 3) t0 := by
    rw [List.getD_eq_getElem?_getD, List.getElem?_eq_getElem hi]
    simp [hi]
  rw [hg]
  have h5 : j % 3 = 0 ∨ j % 3 = 1 ∨ j % 3 = 2 := by omega
  rcases h5 with h | h | h
  · have e : j / 3 * 3 = j := by omega
    rw [e] at h1
    rw [h1, h]
    rfl
  · have e : j / 3 * 3 + 1 = j := by omega
    rw [e] at h2
    rw [h2, h]
    rfl
  · have e : j / 3 * 3 + 2 = j := by omega
    rw [e] at h3
    rw [h3, h]
    rfl
theorem tholds {w : World} {B g cap : Nat} {l : List T} (h : OwnT w B (.slice (some ⟨g, 0, none⟩) l.length cap) l) : HoldsK tenc 3 w g 0 l.toArray := by
  intro j hj
  have hj2 : j < l.length * 3 := by simpa using hj
  rcases h.2 with ⟨hv, _⟩ | ⟨g', cap', cur, hv, hbg, hgg, hle, hmx, hcs, htk⟩
  · cases hv
  · have hg : g' = g := by
      have := congrArg Value.ownBlock hv
      simp [Value.ownBlock] at this
      exact this.symm
    subst hg
    have hc : cur[j]? = (tcells l)[j]? := by
      rw [← htk, List.getElem?_take, if_pos hj2, Array.getElem?_toList]
    have hlt : j < (tcells l).length := by rw [tcells_len]; exact hj2
    rw [List.getElem?_eq_getElem hlt] at hc
    refine ⟨?_, by simp [World.frozen?, hgg]⟩
    show w.cell? ⟨g', 0 + j, none⟩ = some (id (flatK tenc 3 l.toArray)[j]!)
    rw [tflat_get l j hj2, List.getElem?_eq_getElem hlt, Nat.zero_add]
    simp only [World.cell?, hgg]
    simpa using hc
theorem two_grown (w : World) (g n : Nat) (d : Array T) (os : Array Obj) : w.grownBy (sortWorldK tenc 3 w g 0 n d os) (some g) := by
  unfold sortWorldK putRowK
  refine ⟨rfl, rfl, rfl, by simp, fun j hj hne => ?_⟩
  rw [heap_grow_old _ _ (by simpa using hj)]
  have : g ≠ j := fun e => hne (by rw [e])
  simp [putRow, mapBlock, Sort.ahead, Array.getElem?_modify, this]
theorem sort_block {w : World} {g : Nat} {cur : Array Value} {t : TypeId} (hg : w.heap[g]? = some (.cells cur t (0, 0))) (n : Nat) (d : Array T) (os : Array Obj) : ∃ cur', cur'.size = cur.size ∧ (sortWorldK tenc 3 w g 0 n d os).heap[g]? = some (.cells cur' t (0, 0)) := by
  have hlt := (Array.getElem?_eq_some_iff.1 hg).1
  refine ⟨putCells id 0 (flatK tenc 3 d) cur, by simp [putCells], ?_⟩
  unfold sortWorldK putRowK
  rw [heap_grow_old _ _ (by simpa using hlt)]
  simp [putRow, mapBlock, Sort.ahead, Array.getElem?_modify, onCells, hg]
def SortedT (w : World) (B : Nat) (v : Value) (L : List T) (e : Ending) (w' : World) : Prop := e = .returned (.tuple #[]) ∧ ∃ d : List T, Srt L d ∧ OwnT w' B v d ∧ w.grownBy w' v.ownBlock
theorem sort_timers {w : World} {B : Nat} {v : Value} {L : List T} (hk : L.Nodup) (hl : L.length ≤ 1000) (h : OwnT w B v L) :
    Calls Try.prog 46 #[v, .func (.func 47) #[] #[]] w (SortedT w B v L) := by
  rcases h.2 with ⟨rfl, h0⟩ | ⟨g, cap, cur, rfl, hbg, hgg, hle, hmx, hcs, htk⟩
  · have hL0 : L = [] := List.eq_nil_of_length_eq_zero h0
    subst hL0
    refine (sortt_none none 0 _ w).mono ?_
    rintro e w' ⟨rfl, rfl⟩
    exact ⟨rfl, [], ⟨List.Perm.refl _, by simp⟩, h, ⟨rfl, rfl, rfl, Nat.le_refl _, fun _ _ _ => rfl⟩⟩
  · have hg := (Array.getElem?_eq_some_iff.1 hgg).1
    have hH := tholds h
    have hsort := sortt_any tenc (fun _ => rfl) (fun x => one3 _ _) tcmp tcmp_order 47 #[] g 0 cap L.toArray w (enters_of Try.func47 (by kernel_rfl) rfl)
      (fun m os dk _ x y => tcmp_any x y _) hH hg (by simp; omega)
    rw [List.size_toArray] at hsort
    refine hsort.mono ?_
    rintro e w' ⟨he, d', n, os, hp, hs, hw⟩
    subst hw
    have hp2 : PermIn 0 L.toArray.size L.toArray d' := by rw [List.size_toArray]; exact hp
    have hperm : d'.toList.Perm L := by
      obtain ⟨hsz, _, hperm⟩ := hp2
      have e1 : d'.extract 0 L.toArray.size = d' := by rw [← hsz]; exact Array.extract_size
      rw [e1, Array.extract_size] at hperm
      exact hperm
    have hlen : d'.toList.length = L.length := hperm.length_eq
    have hds : d'.size = L.length := by simpa using hlen
    refine ⟨he, d'.toList, ⟨hperm, ?_⟩, ?_, two_grown _ _ _ _ _⟩
    · have hnd : d'.toList.Nodup := hperm.nodup_iff.2 hk
      unfold List.Nodup at hnd
      rw [List.pairwise_iff_getElem] at hnd ⊢
      intro i j hi hj hij
      have h1 := hnd i j hi hj hij
      have h2 := hs i j (Nat.zero_le _) hij (by rw [← hlen]; exact hj)
      rw [tcmp_lt, decide_eq_false_iff_not] at h2
      have hi' : i < d'.size := by simpa using hi
      have hj' : j < d'.size := by simpa using hj
      rw [getElem!_pos d' j hj', getElem!_pos d' i hi'] at h2
      rcases lt_total h1 with h3 | h3
      · simpa using h3
      · exact absurd (by simpa using h3) h2
    · have hH2 : HoldsK tenc 3 (sortWorldK tenc 3 w g 0 n d' os) g 0 d' := holdsK_sortWorldK_c tenc 3 w g 0 L.toArray d' n os hH hg hp2.1
      obtain ⟨cur', hc1, hc2⟩ := sort_block hgg n d' os
      refine ⟨tcells_len _, .inr ⟨g, cap, cur', by rw [hlen], hbg, hc2, by rw [hlen]; exact hle, hmx, by rw [hc1]; exact hcs, ?_⟩⟩
      apply List.ext_getElem?
      intro j
      by_cases hj : j < d'.toList.length * 3
      · rw [List.getElem?_take, if_pos hj, Array.getElem?_toList]
        have h3 := (hH2 j (by rw [size_flatK]; simpa using hj)).1
        rw [Nat.zero_add] at h3
        simp only [World.cell?, hc2] at h3
        have h4 := tflat_get d'.toList j hj
        rw [Array.toArray_toList] at h4
        have hlt : j < (tcells d'.toList).length := by rw [tcells_len]; exact hj
        rw [List.getElem?_eq_getElem hlt] at h4 ⊢
        rw [h4] at h3
        exact h3
      · rw [List.getElem?_eq_none (by rw [List.length_take]; omega), List.getElem?_eq_none (by rw [tcells_len]; omega)]
end Go.Proofs.Ytlhajdmleefkiaa
