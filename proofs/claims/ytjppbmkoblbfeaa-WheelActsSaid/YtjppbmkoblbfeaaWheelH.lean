/-
  CONTRACTS OF LAYER 8 (wheel), part H: the page's At, Next, first, Same.
-/
import Derived.Test.YtjppbmkoblbfeaaWheelG
import Derived.Test.YtjppbmkoblbfeaaRegionZ
namespace Go.Proofs.Ytjppbmkoblbfeaa
open Go.RowKit Wl Bt
set_option linter.unusedVariables false

/-- a slice at p holds these timers -/
def TC (w : World) (p : Option Addr) (l : List T) : Prop := ∀ i, i < l.length → ∃ g, p = some ⟨g, 0, none⟩ ∧ g < w.heap.size ∧ w.cell? ⟨g, i * 3, none⟩ = some (.int .i64 0) ∧ w.cell? ⟨g, i * 3 + 1, none⟩ = some (.int .i64 (l.getD i t0).1) ∧ w.cell? ⟨g, i * 3 + 2, none⟩ = some (.int .u64 ((l.getD i t0).2 : Nat))
theorem TC.below {w w' : World} {p : Option Addr} {l : List T} {B : Nat} (h : TC w p l) (hb : Below B w w') (hB : w.heap.size ≤ B) : TC w' p l := fun i hi => by
  obtain ⟨g, h1, h2, h3, h4, h5⟩ := h i hi
  have e : w'.heap[g]? = w.heap[g]? := hb.block g (Nat.lt_of_lt_of_le h2 hB)
  exact ⟨g, h1, Nat.lt_of_lt_of_le h2 hb.size, by rw [World.cell?_of_block e]; exact h3, by rw [World.cell?_of_block e]; exact h4, by rw [World.cell?_of_block e]; exact h5⟩
theorem OwnT.view {w : World} {B : Nat} {v : Value} {l : List T} (h : OwnT w B v l) : ∃ p cap, v = .slice p l.length cap ∧ l.length ≤ maxLen ∧ TC w p l := by
  rcases h.2 with ⟨rfl, h0⟩ | ⟨g, cap, cur, rfl, hbg, hgg, hle, hmx, hcs, htk⟩
  · exact ⟨none, 0, by rw [h0], by omega, fun i hi => by omega⟩
  · refine ⟨some ⟨g, 0, none⟩, cap, rfl, by omega, fun i hi => ⟨g, rfl, (Array.getElem?_eq_some_iff.1 hgg).1, ?_⟩⟩
    have hcell : ∀ j, j < l.length * 3 → w.cell? ⟨g, j, none⟩ = (tcells l)[j]? := fun j hj => by
      simp only [World.cell?, hgg]
      rw [← htk, List.getElem?_take, if_pos hj, Array.getElem?_toList]
      rfl
    obtain ⟨h1, h2, h3⟩ := tcells_get l i hi
    exact ⟨(hcell _ (by omega)).trans h1, (hcell _ (by omega)).trans h2, (hcell _ (by omega)).trans h3⟩
theorem fd_drop {l : List T} {i : Nat} (h : i < l.length) (k : Int) : fd (l.drop i) k = if (l.getD i t0).1 = k then some (l.getD i t0).2 else fd (l.drop (i + 1)) k := by
  rw [List.drop_eq_getElem_cons h, List.getD_eq_getElem?_getD, List.getElem?_eq_getElem h]
  rfl
def wv (now : Int) (v : Value) : Value := .agg #[.int .u64 now, v]
set_option maxHeartbeats 1000000 in
theorem rat_any (now : Int) (p : Option Addr) (n cap : Nat) (L : List T) (k : Int) (w : World) (hn : L.length = n) (hn2 : n ≤ 1000) (h : TC w p L) :
    Calls Try.prog 23 #[.agg #[.int .u64 now, .slice p n cap], .int .i64 k] w fun e w' => e = .returned (.tuple #[.int .u64 ((fd L k).getD 0 : Nat), .bool (fd L k).isSome]) ∧ Below w.heap.size w w' := by
  obtain ⟨R, hR⟩ : ∃ R, fd L k = R := ⟨_, rfl⟩
  have HR : Hid (fd (L.drop 0) k = R) := Lib.hid (by rw [List.drop_zero]; exact hR)
  rw [hR]
  have HN := Lib.hid hn
  obtain ⟨W1, hW1⟩ : ∃ W1, w.alloc (.cells #[.int .u64 now, .slice p n cap] 30) = W1 := ⟨_, rfl⟩
  have hb1 : Below w.heap.size w W1 := by rw [← hW1]; exact (Below.refl _ _).alloc (Nat.le_refl _) _
  have hc1 : W1.cell? ⟨w.heap.size, 1, none⟩ = some (.slice p n cap) := by
    have e : W1.heap[w.heap.size]? = some (.cells #[.int .u64 now, .slice p n cap] 30) := by rw [← hW1]; exact (MapKept.heap_alloc _ _).1
    simp only [World.cell?, e]
    rfl
  have HT := Lib.hid (h.below hb1 (Nat.le_refl _))
  have HB := Lib.hid hb1
  clear hR hn h hb1
  go_enter Try.func23, Try.ntmps23
  go_wp2
  go_loopw [6] (fun i wr => ∃ j : Nat, i = .int .i64 j ∧ j ≤ n ∧ Hid (fd (L.drop j) k = R) ∧ W1 = wr) (fun i _ => n - (intOf i).toNat)
  case atStart => exact ⟨0, rfl, Nat.zero_le _, HR, rfl⟩
  case round =>
    obtain ⟨j, rfl, hj, hr, rfl⟩ := hrel
    by_cases hlt : j < n
    · obtain ⟨g, rfl, hg, hx0, hx1, hx2⟩ := HT.out j (by rw [HN.out]; exact hlt)
      have hd := fd_drop (l := L) (i := j) (by rw [HN.out]; exact hlt) k
      obtain ⟨⟨q1, q2⟩, hq⟩ : ∃ q, L.getD j t0 = q := ⟨_, rfl⟩
      rw [hq] at hx1 hx2 hd
      simp only at hx1 hx2 hd
      obtain ⟨z2, hz2⟩ : ∃ z : Int, (q2 : Int) = z := ⟨_, rfl⟩
      rw [hz2] at hx2
      have HZ := Lib.hid hz2
      have hltz : (j : Int) < (n : Int) := by omega
      by_cases e : q1 = k
      · subst e
        rw [if_pos rfl] at hd
        have HF : Hid (R = some q2) := Lib.hid (by rw [← hr.out, hd])
        clear hd hq hz2 hr
        go_wp2
        go_ret2
        exact ⟨by rw [HF.out, ← HZ.out]; rfl, HB.out⟩
      · rw [if_neg e] at hd
        have HI : Hid (fd (L.drop (j + 1)) k = R) := Lib.hid (by rw [← hd]; exact hr.out)
        have hne : (q1 == k) = false := by simpa using e
        clear hd hq hz2 hr
        go_wp2
        go_roundw
        case rel => exact ⟨j + 1, by go_num, hlt, HI, trivial⟩
        case measure => simp [intOf]; omega
    · have e1 : j = n := by omega
      subst e1
      have HF : Hid (R = none) := Lib.hid (by rw [← hr.out, List.drop_of_length_le (by rw [HN.out]; exact Nat.le_refl _)]; rfl)
      clear hr
      go_wp2
      go_ret2
      exact ⟨by rw [HF.out]; rfl, HB.out⟩
theorem nxt_snoc : ∀ (l : List T) (x : T) (m : Nat), nxt l = some m → nxt (l ++ [x]) = some (min m x.2)
  | [], x, m, h => by cases h
  | y :: l, x, m, h => by
    unfold nxt at h
    show (match nxt (l ++ [x]) with | none => some y.2 | some m => some (min y.2 m)) = _
    cases hl : nxt l with
    | none =>
      rw [hl] at h
      have := nxt_none.1 hl
      subst this
      injection h with h
      subst h
      rfl
    | some m1 =>
      rw [hl] at h
      injection h with h
      rw [nxt_snoc l x m1 hl]
      show some (min y.2 (min m1 x.2)) = _
      congr 1
      omega
theorem take_snocT {l : List T} {i : Nat} (h : i < l.length) : l.take (i + 1) = l.take i ++ [l.getD i t0] := by
  rw [List.take_succ_eq_append_getElem h, List.getD_eq_getElem?_getD, List.getElem?_eq_getElem h]
  rfl
set_option maxHeartbeats 1000000 in
theorem rnext_any (now : Int) (p : Option Addr) (n cap : Nat) (L : List T) (w : World) (hn : L.length = n) (hn2 : n ≤ 1000) (h : TC w p L) :
    Calls Try.prog 34 #[.agg #[.int .u64 now, .slice p n cap]] w (Nexts w L) := by
  have HN := Lib.hid hn
  obtain ⟨W1, hW1⟩ : ∃ W1, w.alloc (.cells #[.int .u64 now, .slice p n cap] 30) = W1 := ⟨_, rfl⟩
  have hb1 : Below w.heap.size w W1 := by rw [← hW1]; exact (Below.refl _ _).alloc (Nat.le_refl _) _
  have hc1 : W1.cell? ⟨w.heap.size, 1, none⟩ = some (.slice p n cap) := by
    have e : W1.heap[w.heap.size]? = some (.cells #[.int .u64 now, .slice p n cap] 30) := by rw [← hW1]; exact (MapKept.heap_alloc _ _).1
    simp only [World.cell?, e]
    rfl
  have HT := Lib.hid (h.below hb1 (Nat.le_refl _))
  have HB := Lib.hid hb1
  clear hn h hb1
  by_cases h0 : n = 0
  · subst h0
    have hL : L = [] := List.eq_nil_of_length_eq_zero HN.out
    subst hL
    go_enter Try.func34, Try.ntmps34
    go_wp2
    go_ret2
    exact ⟨rfl, HB.out⟩
  · have h0' : 0 < n := by omega
    have hne0 : ((n : Int) == 0) = false := by rw [beq_eq_false_iff_ne]; omega
    obtain ⟨g, rfl, hg, hx0, hx1, hx2⟩ := HT.out 0 (by rw [HN.out]; exact h0')
    obtain ⟨q2, hq⟩ : ∃ q, (L.getD 0 t0).2 = q := ⟨_, rfl⟩
    rw [hq] at hx2
    have hbeg : Hid (nxt (L.take 1) = some q2) := Lib.hid (by
      have := take_snocT (l := L) (i := 0) (by rw [HN.out]; exact h0')
      rw [this, ← hq]
      rfl)
    obtain ⟨z, hz⟩ : ∃ z : Int, (q2 : Int) = z := ⟨_, rfl⟩
    have hx2' : W1.cell? ⟨g, 2, none⟩ = some (.int .u64 z) := by rw [← hz]; simpa using hx2
    have HZ := Lib.hid hz
    clear hx0 hx1 hx2 hq hz
    go_enter Try.func34, Try.ntmps34
    go_wp2
    go_loopw [4, 5] (fun v i wr => ∃ (j m : Nat), i = .int .i64 j ∧ v = .int .u64 m ∧ 1 ≤ j ∧ j ≤ n ∧ Hid (nxt (L.take j) = some m) ∧ W1 = wr) (fun _ i _ => n - (intOf i).toNat)
    case atStart => exact ⟨1, q2, rfl, by rw [HZ.out], Nat.le_refl _, h0', hbeg, rfl⟩
    case round =>
      obtain ⟨j, m, rfl, rfl, hj1, hj, hr, rfl⟩ := hrel
      by_cases hlt : j < n
      · obtain ⟨g', hgg, hg2, hy0, hy1, hy2⟩ := HT.out j (by rw [HN.out]; exact hlt)
        injection hgg with hgg
        injection hgg with hgg
        subst hgg
        obtain ⟨q3, hq3⟩ : ∃ q, (L.getD j t0).2 = q := ⟨_, rfl⟩
        rw [hq3] at hy2
        have HI : Hid (nxt (L.take (j + 1)) = some (min m q3)) := Lib.hid (by rw [take_snocT (by rw [HN.out]; exact hlt), ← hq3]; exact nxt_snoc _ _ _ hr.out)
        obtain ⟨z3, hz3⟩ : ∃ z : Int, (q3 : Int) = z := ⟨_, rfl⟩
        obtain ⟨zm, hzm⟩ : ∃ z : Int, (m : Int) = z := ⟨_, rfl⟩
        rw [hz3] at hy2
        have hmin : min zm z3 = ((min m q3 : Nat) : Int) := by omega
        obtain ⟨mm, hmm⟩ : ∃ mm, min m q3 = mm := ⟨_, rfl⟩
        rw [hmm] at hmin HI
        rw [hzm]
        have hltz : (j : Int) < (n : Int) := by omega
        clear hq3 hz3 hzm hr hmm hy0 hy1 hx2'
        go_wp2
        go_roundw
        case rel => exact ⟨j + 1, mm, by go_num, rfl, by omega, hlt, HI, trivial⟩
        case measure => simp [intOf]; omega
      · have e1 : j = n := by omega
        subst e1
        have HF : Hid (nxt L = some m) := Lib.hid (by
          have := hr.out
          rw [List.take_of_length_le (by rw [HN.out]; exact Nat.le_refl _)] at this
          exact this)
        clear hr
        go_wp2
        go_ret2
        refine ⟨?_, HB.out⟩
        rw [HF.out]
        rfl
/-- k is the place of what comes first of the first j -/
def Fst (L : List T) (j k : Nat) : Prop := k < j ∧ ∀ x ∈ L.take j, ¬ lt x (L.getD k t0)
theorem fst_step {L : List T} {j k : Nat} (h : Fst L j k) (hj : j < L.length) : (lt (L.getD j t0) (L.getD k t0) → Fst L (j + 1) j) ∧ (¬ lt (L.getD j t0) (L.getD k t0) → Fst L (j + 1) k) := by
  constructor
  · intro hl
    refine ⟨Nat.lt_succ_self _, fun x hx hlt => ?_⟩
    rw [take_snocT hj] at hx
    rcases List.mem_append.1 hx with hx | hx
    · exact h.2 x hx (lt_trans hlt hl)
    · rw [List.mem_singleton] at hx
      rw [hx] at hlt
      exact lt_irrefl _ hlt
  · intro hl
    refine ⟨Nat.lt_succ_of_lt h.1, fun x hx hlt => ?_⟩
    rw [take_snocT hj] at hx
    rcases List.mem_append.1 hx with hx | hx
    · exact h.2 x hx hlt
    · rw [List.mem_singleton] at hx
      rw [hx] at hlt
      exact hl hlt
def Firsts (w : World) (L : List T) (e : Ending) (w' : World) : Prop := ∃ k : Nat, e = .returned (.int .i64 k) ∧ Fst L L.length k ∧ Below w.heap.size w w'
set_option maxHeartbeats 2000000 in
theorem first_any (now : Int) (p : Option Addr) (n cap : Nat) (L : List T) (w : World) (hn : L.length = n) (hn2 : n ≤ 1000) (h0 : 0 < n) (h : TC w p L) :
    Calls Try.prog 33 #[.agg #[.int .u64 now, .slice p n cap]] w (Firsts w L) := by
  have HN := Lib.hid hn
  obtain ⟨W1, hW1⟩ : ∃ W1, w.alloc (.cells #[.int .u64 now, .slice p n cap] 30) = W1 := ⟨_, rfl⟩
  have hb1 : Below w.heap.size w W1 := by rw [← hW1]; exact (Below.refl _ _).alloc (Nat.le_refl _) _
  have hlt1 : w.heap.size < W1.heap.size := by rw [← hW1]; simp
  have hc1 : W1.cell? ⟨w.heap.size, 1, none⟩ = some (.slice p n cap) := by
    have e : W1.heap[w.heap.size]? = some (.cells #[.int .u64 now, .slice p n cap] 30) := by rw [← hW1]; exact (MapKept.heap_alloc _ _).1
    simp only [World.cell?, e]
    rfl
  have HC1 := Lib.hid hc1
  have HT := Lib.hid (h.below hb1 (Nat.le_refl _))
  have HB := Lib.hid hb1
  have HLT := Lib.hid hlt1
  have hbeg : Hid (Fst L 1 0) := Lib.hid ⟨by omega, fun x hx => by
    have := take_snocT (l := L) (i := 0) (by rw [HN.out]; exact h0)
    rw [this] at hx
    simp only [List.take_zero, List.nil_append, List.mem_singleton] at hx
    rw [hx]
    exact lt_irrefl _⟩
  clear hn h hb1 hlt1
  go_enter Try.func33, Try.ntmps33
  go_wp2
  go_loopw [3, 4] (fun v i wr => ∃ (j k : Nat), i = .int .i64 j ∧ v = .int .i64 k ∧ 1 ≤ j ∧ j ≤ n ∧ k < n ∧ Hid (Fst L j k) ∧ Below W1.heap.size W1 wr) (fun _ i _ => n - (intOf i).toNat)
  case atStart => exact ⟨1, 0, rfl, rfl, Nat.le_refl _, h0, h0, hbeg, Below.refl _ _⟩
  case round =>
    obtain ⟨j, k, rfl, rfl, hj1, hj, hk, hr, hb⟩ := hrel
    have hcw := (hb.cell (p := ⟨w.heap.size, 1, none⟩) HLT.out).trans HC1.out
    by_cases hlt : j < n
    · have hTw := HT.out.below hb (Nat.le_refl _)
      obtain ⟨g, rfl, hg, hx0, hx1, hx2⟩ := hTw j (by rw [HN.out]; exact hlt)
      obtain ⟨g', hgg, hg2, hy0, hy1, hy2⟩ := hTw k (by rw [HN.out]; exact hk)
      injection hgg with hgg
      injection hgg with hgg
      subst hgg
      obtain ⟨hs1, hs2⟩ := fst_step hr.out (by rw [HN.out]; exact hlt)
      obtain ⟨⟨q1, q2⟩, hq⟩ : ∃ q, L.getD j t0 = q := ⟨_, rfl⟩
      obtain ⟨⟨r1, r2⟩, hrr⟩ : ∃ q, L.getD k t0 = q := ⟨_, rfl⟩
      rw [hq] at hx1 hx2 hs1 hs2
      rw [hrr] at hy1 hy2 hs1 hs2
      simp only at hx1 hx2 hy1 hy2
      obtain ⟨z2, hz2⟩ : ∃ z : Int, (q2 : Int) = z := ⟨_, rfl⟩
      obtain ⟨z4, hz4⟩ : ∃ z : Int, (r2 : Int) = z := ⟨_, rfl⟩
      rw [hz2] at hx2
      rw [hz4] at hy2
      have hltz : (j : Int) < (n : Int) := by omega
      have hkz : (k : Int) < (n : Int) := by omega
      unfold lt at hs1 hs2
      simp only at hs1 hs2
      have HBr := Lib.hid hb
      by_cases e1 : z2 < z4
      · have HI : Hid (Fst L (j + 1) j) := Lib.hid (hs1 (by omega))
        clear hs1 hs2 hq hrr hz2 hz4 hb hTw hx0 hy0 hr
        go_wp2_with fail
        refine wp_region_text (S := (fun w' => w' = wr.drew)) (by kernel_rfl) ?_ ?_
        · rfl
        repeat (first
          | (refine anyR_value (v := ?_) (by kernel_rfl) (by rfl) (fun _ _ _ h => h) (fun w1 hS => ?_) ?_
             rotate_left
             · subst hS
               go_simp
               with_reducible rfl
             simp only [Act.put, List.setIfInBounds_toArray, List.set_cons_zero, List.set_cons_succ])
          | (refine anyR_not (by kernel_rfl) (by rfl) (fun _ _ _ h => h) ?_
             simp only [Act.put, List.setIfInBounds_toArray, List.set_cons_zero, List.set_cons_succ])
          | (refine anyR_call (v := ?_) (f := ?_) (args := ?_) (by kernel_rfl) (by rfl) (fun _ _ _ h => h) (fun w1 hS => ?_) (fun w1 hS => ?_) ?_
             rotate_left 3
             · go_simp
               (try constructor) <;> with_reducible rfl
             · first
                 | (fail)
             simp only [Act.put, List.setIfInBounds_toArray, List.set_cons_zero, List.set_cons_succ])
          | refine anyR_done (by kernel_rfl) (fun w1 hS => ?_))
        go_wp2_with fail
        subst hS
        go_wp2
        go_roundw
        case rel => exact ⟨j + 1, j, by go_num, by go_num, by omega, hlt, by omega, HI, HBr.out.drew⟩
        case measure => simp [intOf]; omega
      · by_cases e2 : z2 = z4
        · by_cases e3 : q1 < r1
          · have HI : Hid (Fst L (j + 1) j) := Lib.hid (hs1 (by omega))
            clear hs1 hs2 hq hrr hz2 hz4 hb hTw hx0 hy0 hr
            subst e2
            go_wp2_with fail
            refine wp_region_text (S := (fun w' => w' = wr.drew)) (by kernel_rfl) ?_ ?_
            · rfl
            repeat (first
              | (refine anyR_value (v := ?_) (by kernel_rfl) (by rfl) (fun _ _ _ h => h) (fun w1 hS => ?_) ?_
                 rotate_left
                 · subst hS
                   go_simp
                   with_reducible rfl
                 simp only [Act.put, List.setIfInBounds_toArray, List.set_cons_zero, List.set_cons_succ])
              | (refine anyR_not (by kernel_rfl) (by rfl) (fun _ _ _ h => h) ?_
                 simp only [Act.put, List.setIfInBounds_toArray, List.set_cons_zero, List.set_cons_succ])
              | (refine anyR_call (v := ?_) (f := ?_) (args := ?_) (by kernel_rfl) (by rfl) (fun _ _ _ h => h) (fun w1 hS => ?_) (fun w1 hS => ?_) ?_
                 rotate_left 3
                 · go_simp
                   (try constructor) <;> with_reducible rfl
                 · first
                     | (fail)
                 simp only [Act.put, List.setIfInBounds_toArray, List.set_cons_zero, List.set_cons_succ])
              | refine anyR_done (by kernel_rfl) (fun w1 hS => ?_))
            go_wp2_with fail
            subst hS
            go_wp2
            go_roundw
            case rel => exact ⟨j + 1, j, by go_num, by go_num, by omega, hlt, by omega, HI, HBr.out.drew⟩
            case measure => simp [intOf]; omega
          · have HI : Hid (Fst L (j + 1) k) := Lib.hid (hs2 (by omega))
            clear hs1 hs2 hq hrr hz2 hz4 hb hTw hx0 hy0 hr
            subst e2
            go_wp2_with fail
            refine wp_region_text (S := (fun w' => w' = wr.drew)) (by kernel_rfl) ?_ ?_
            · rfl
            repeat (first
              | (refine anyR_value (v := ?_) (by kernel_rfl) (by rfl) (fun _ _ _ h => h) (fun w1 hS => ?_) ?_
                 rotate_left
                 · subst hS
                   go_simp
                   with_reducible rfl
                 simp only [Act.put, List.setIfInBounds_toArray, List.set_cons_zero, List.set_cons_succ])
              | (refine anyR_not (by kernel_rfl) (by rfl) (fun _ _ _ h => h) ?_
                 simp only [Act.put, List.setIfInBounds_toArray, List.set_cons_zero, List.set_cons_succ])
              | (refine anyR_call (v := ?_) (f := ?_) (args := ?_) (by kernel_rfl) (by rfl) (fun _ _ _ h => h) (fun w1 hS => ?_) (fun w1 hS => ?_) ?_
                 rotate_left 3
                 · go_simp
                   (try constructor) <;> with_reducible rfl
                 · first
                     | (fail)
                 simp only [Act.put, List.setIfInBounds_toArray, List.set_cons_zero, List.set_cons_succ])
              | refine anyR_done (by kernel_rfl) (fun w1 hS => ?_))
            go_wp2_with fail
            subst hS
            go_wp2
            go_roundw
            case rel => exact ⟨j + 1, k, by go_num, by go_num, by omega, hlt, by omega, HI, HBr.out.drew⟩
            case measure => simp [intOf]; omega
        · have HI : Hid (Fst L (j + 1) k) := Lib.hid (hs2 (by omega))
          have hne : (z2 == z4) = false := by simpa using e2
          clear hs1 hs2 hq hrr hz2 hz4 hb hTw hx0 hy0 hr
          go_wp2_with fail
          have hd : decide (z2 < z4) = false := by simpa using e1
          refine wp_region_text (S := (fun w' => w' = wr.drew)) (by kernel_rfl) ?_ ?_
          · rfl
          repeat (first
            | (refine anyR_value (v := ?_) (by kernel_rfl) (by rfl) (fun _ _ _ h => h) (fun w1 hS => ?_) ?_
               rotate_left
               · subst hS
                 go_simp
                 with_reducible rfl
               simp only [Act.put, List.setIfInBounds_toArray, List.set_cons_zero, List.set_cons_succ])
            | (refine anyR_not (by kernel_rfl) (by rfl) (fun _ _ _ h => h) ?_
               simp only [Act.put, List.setIfInBounds_toArray, List.set_cons_zero, List.set_cons_succ])
            | (refine anyR_call (v := ?_) (f := ?_) (args := ?_) (by kernel_rfl) (by rfl) (fun _ _ _ h => h) (fun w1 hS => ?_) (fun w1 hS => ?_) ?_
               rotate_left 3
               · go_simp
                 (try constructor) <;> with_reducible rfl
               · first
                   | (fail)
               simp only [Act.put, List.setIfInBounds_toArray, List.set_cons_zero, List.set_cons_succ])
            | refine anyR_done (by kernel_rfl) (fun w1 hS => ?_))
          go_wp2_with fail
          subst hS
          go_wp2
          go_roundw
          case rel => exact ⟨j + 1, k, by go_num, by go_num, by omega, hlt, by omega, HI, HBr.out.drew⟩
          case measure => simp [intOf]; omega
    · have e1 : j = n := by omega
      subst e1
      have HF : Hid (Fst L L.length k) := Lib.hid (by rw [HN.out]; exact hr.out)
      have HBr := Lib.hid (HB.out.trans (hb.mono HB.out.size))
      clear hr hb
      go_wp2
      go_ret
      exact ⟨k, rfl, HF.out, HBr.out⟩
theorem ret_bool' {a b : Bool} (h : a = b) : Ending.returned (.bool a) = .returned (.bool b) := by rw [h]
set_option maxHeartbeats 2000000 in
theorem same_any (la lb : List T) (pa pb : Option Addr) (na nb ca cb : Nat) (w : World) (hna : la.length = na) (hnb : lb.length = nb) (h1 : na ≤ 100000) (h2 : nb ≤ 100000) (ha : TC w pa la) (hb : TC w pb lb) :
    Calls Try.prog 13 #[.slice pa na ca, .slice pb nb cb] w fun e w' => e = .returned (.bool (decide (la = lb))) ∧ Below w.heap.size w w' := by
  obtain ⟨R, hR⟩ : ∃ R, decide (la = lb) = R := ⟨_, rfl⟩
  have HR := Lib.hid hR
  rw [hR]
  by_cases hne : na = nb
  · subst hne
    have HNA := Lib.hid hna
    have HNB := Lib.hid hnb
    have HA := Lib.hid ha
    have HB := Lib.hid hb
    clear hR hna hnb ha hb
    go_enter Try.func13, Try.ntmps13
    go_wp2
    go_loopw [5] (fun i wr => ∃ j : Nat, i = .int .i64 j ∧ j ≤ na ∧ Hid (la.take j = lb.take j) ∧ Below w.heap.size w wr) (fun i _ => na - (intOf i).toNat)
    case atStart => exact ⟨0, rfl, Nat.zero_le _, Lib.hid rfl, Below.refl _ _⟩
    case round =>
      obtain ⟨j, rfl, hj, hr, hb⟩ := hrel
      by_cases hlt : j < na
      · obtain ⟨g, rfl, hg, hx0, hx1, hx2⟩ := (HA.out.below hb (Nat.le_refl _)) j (by rw [HNA.out]; exact hlt)
        obtain ⟨g', rfl, hg', hy0, hy1, hy2⟩ := (HB.out.below hb (Nat.le_refl _)) j (by rw [HNB.out]; exact hlt)
        have t1 := take_snocT (l := la) (i := j) (by rw [HNA.out]; exact hlt)
        have t2 := take_snocT (l := lb) (i := j) (by rw [HNB.out]; exact hlt)
        obtain ⟨⟨q1, q2⟩, hq⟩ : ∃ q, la.getD j t0 = q := ⟨_, rfl⟩
        obtain ⟨⟨r1, r2⟩, hrr⟩ : ∃ q, lb.getD j t0 = q := ⟨_, rfl⟩
        rw [hq] at hx1 hx2 t1
        rw [hrr] at hy1 hy2 t2
        simp only at hx1 hx2 hy1 hy2
        obtain ⟨z2, hz2⟩ : ∃ z : Int, (q2 : Int) = z := ⟨_, rfl⟩
        obtain ⟨z4, hz4⟩ : ∃ z : Int, (r2 : Int) = z := ⟨_, rfl⟩
        rw [hz2] at hx2
        rw [hz4] at hy2
        have hltz : (j : Int) < (na : Int) := by omega
        have HBr := Lib.hid hb
        by_cases e1 : q1 = r1 ∧ z2 = z4
        · obtain ⟨e1, e2⟩ := e1
          have HI : Hid (la.take (j + 1) = lb.take (j + 1)) := Lib.hid (by
            have e3 : q2 = r2 := by omega
            rw [t1, t2, hr.out, e1, e3])
          clear t1 t2 hq hrr hz2 hz4 hb hr
          subst e1
          subst e2
          go_wp2_with fail
          refine wp_region_text (S := (fun w' => w' = wr.drew)) (by kernel_rfl) ?_ ?_
          · rfl
          repeat (first
            | (refine anyR_value (v := ?_) (by kernel_rfl) (by rfl) (fun _ _ _ h => h) (fun w1 hS => ?_) ?_
               rotate_left
               · subst hS
                 go_simp
                 with_reducible rfl
               simp only [Act.put, List.setIfInBounds_toArray, List.set_cons_zero, List.set_cons_succ])
            | (refine anyR_not (by kernel_rfl) (by rfl) (fun _ _ _ h => h) ?_
               simp only [Act.put, List.setIfInBounds_toArray, List.set_cons_zero, List.set_cons_succ])
            | (refine anyR_call (v := ?_) (f := ?_) (args := ?_) (by kernel_rfl) (by rfl) (fun _ _ _ h => h) (fun w1 hS => ?_) (fun w1 hS => ?_) ?_
               rotate_left 3
               · go_simp
                 (try constructor) <;> with_reducible rfl
               · first
                   | (fail)
               simp only [Act.put, List.setIfInBounds_toArray, List.set_cons_zero, List.set_cons_succ])
            | refine anyR_done (by kernel_rfl) (fun w1 hS => ?_))
          go_wp2_with fail
          subst hS
          go_wp2
          go_roundw
          case rel => exact ⟨j + 1, by go_num, hlt, HI, HBr.out.drew⟩
          case measure => simp [intOf]; omega
        · have HF : Hid (false = R) := Lib.hid (by
            rw [← HR.out]
            symm
            rw [decide_eq_false_iff_not]
            intro e
            rw [e, hrr] at hq
            injection hq with e3 e4
            exact e1 ⟨e3.symm, by omega⟩)
          by_cases e2 : q1 = r1
          · have e3 : (z2 == z4) = false := by
              rw [beq_eq_false_iff_ne]
              exact fun e => e1 ⟨e2, e⟩
            have HE3 := Lib.hid e3
            clear t1 t2 hq hrr hz2 hz4 hb hr e1 e3
            subst e2
            go_wp2_with fail
            have e3 := HE3.out
            refine wp_region_text (S := (fun w' => w' = wr.drew)) (by kernel_rfl) ?_ ?_
            · rfl
            repeat (first
              | (refine anyR_value (v := ?_) (by kernel_rfl) (by rfl) (fun _ _ _ h => h) (fun w1 hS => ?_) ?_
                 rotate_left
                 · subst hS
                   go_simp
                   with_reducible rfl
                 simp only [Act.put, List.setIfInBounds_toArray, List.set_cons_zero, List.set_cons_succ])
              | (refine anyR_not (by kernel_rfl) (by rfl) (fun _ _ _ h => h) ?_
                 simp only [Act.put, List.setIfInBounds_toArray, List.set_cons_zero, List.set_cons_succ])
              | (refine anyR_call (v := ?_) (f := ?_) (args := ?_) (by kernel_rfl) (by rfl) (fun _ _ _ h => h) (fun w1 hS => ?_) (fun w1 hS => ?_) ?_
                 rotate_left 3
                 · go_simp
                   (try constructor) <;> with_reducible rfl
                 · first
                     | (fail)
                 simp only [Act.put, List.setIfInBounds_toArray, List.set_cons_zero, List.set_cons_succ])
              | refine anyR_done (by kernel_rfl) (fun w1 hS => ?_))
            go_wp2_with fail
            subst hS
            go_wp2
            go_ret
            exact ⟨ret_bool' HF.out, HBr.out.drew⟩
          · have e3 : (q1 == r1) = false := by
              rw [beq_eq_false_iff_ne]
              exact e2
            have HE3 := Lib.hid e3
            clear t1 t2 hq hrr hz2 hz4 hb hr e1 e3 e2
            go_wp2_with fail
            have e3 := HE3.out
            refine wp_region_text (S := (fun w' => w' = wr.drew)) (by kernel_rfl) ?_ ?_
            · rfl
            repeat (first
              | (refine anyR_value (v := ?_) (by kernel_rfl) (by rfl) (fun _ _ _ h => h) (fun w1 hS => ?_) ?_
                 rotate_left
                 · subst hS
                   go_simp
                   with_reducible rfl
                 simp only [Act.put, List.setIfInBounds_toArray, List.set_cons_zero, List.set_cons_succ])
              | (refine anyR_not (by kernel_rfl) (by rfl) (fun _ _ _ h => h) ?_
                 simp only [Act.put, List.setIfInBounds_toArray, List.set_cons_zero, List.set_cons_succ])
              | (refine anyR_call (v := ?_) (f := ?_) (args := ?_) (by kernel_rfl) (by rfl) (fun _ _ _ h => h) (fun w1 hS => ?_) (fun w1 hS => ?_) ?_
                 rotate_left 3
                 · go_simp
                   (try constructor) <;> with_reducible rfl
                 · first
                     | (fail)
                 simp only [Act.put, List.setIfInBounds_toArray, List.set_cons_zero, List.set_cons_succ])
              | refine anyR_done (by kernel_rfl) (fun w1 hS => ?_))
            go_wp2_with fail
            subst hS
            go_wp2
            go_ret
            exact ⟨ret_bool' HF.out, HBr.out.drew⟩
      · have e1 : j = na := by omega
        subst e1
        have HF : Hid (true = R) := Lib.hid (by
          have := hr.out
          rw [List.take_of_length_le (by rw [HNA.out]; exact Nat.le_refl _), List.take_of_length_le (by rw [HNB.out]; exact Nat.le_refl _)] at this
          rw [← HR.out, this]
          simp)
        clear hr
        go_wp2
        go_ret
        exact ⟨ret_bool' HF.out, hb⟩
  · have HF : Hid (false = R) := Lib.hid (by
      rw [← HR.out]
      symm
      rw [decide_eq_false_iff_not]
      intro e
      rw [e] at hna
      omega)
    have hne2 : ((na : Int) == (nb : Int)) = false := by rw [beq_eq_false_iff_ne]; omega
    have hne3 : ((na : Int) != (nb : Int)) = true := by rw [bne_iff_ne]; omega
    clear hR hna hnb ha hb
    go_enter Try.func13, Try.ntmps13
    go_wp2
    go_ret
    exact ⟨ret_bool' HF.out, Below.refl _ _⟩
end Go.Proofs.Ytjppbmkoblbfeaa
