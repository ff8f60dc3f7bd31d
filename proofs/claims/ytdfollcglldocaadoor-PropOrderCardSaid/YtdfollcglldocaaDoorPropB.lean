/-
  CONTRACTS OF LAYER 4 (prop), part B: meet, same, num, Find, least, the page's Show.
-/
import Derived.Test.YtdfollcglldocaaDoorPropA
namespace Go.Proofs.YtdfollcglldocaaDoor
open Go.RowKit
set_option linter.unusedVariables false

theorem getD_mem {l : List PR} {i : Nat} (h : i < l.length) : l.getD i p0 = l[i] := by rw [List.getD_eq_getElem?_getD, List.getElem?_eq_getElem h]; rfl
theorem drop_pr {l : List PR} {i : Nat} (h : i < l.length) : l.drop i = l.getD i p0 :: l.drop (i + 1) := by rw [List.drop_eq_getElem_cons h, getD_mem h]
theorem lk_cons (q : PR) (l : List PR) (k : List UInt8) : Pf.lk (q :: l) k = if q.1 = k then some q.2 else Pf.lk l k := by
  unfold Pf.lk
  rw [List.find?_cons]
  by_cases h : q.1 = k
  · rw [if_pos h, show (q.1 == k) = true by simpa using h]; rfl
  · rw [if_neg h, show (q.1 == k) = false by simpa using h]
theorem bs_eq (a b : List UInt8) : (bs a = bs b) ↔ a = b := ⟨bs_inj, fun h => by rw [h]⟩

set_option maxHeartbeats 1000000 in
theorem rfind_any (l : List PR) (k : List UInt8) (v : Value) (w : World) (h : PRow w l v) (hl : l.length ≤ 1000000) :
    Calls Tryd.prog 21 #[v, .string (bs k)] w fun e w' => e = .returned (.tuple #[.string (bs ((Pf.lk l k).getD [])), .bool (Pf.lk l k).isSome]) ∧ w = w' := by
  obtain ⟨p, cap, rfl, hp⟩ := h
  by_cases hne : l = []
  · subst hne
    go_enter Tryd.func21, Tryd.ntmps21
    go_wp2
    refine wp_loop_rounds 1 ?_
    rw [rounds_succ]
    go_wp2
    go_ret2
    exact ⟨rfl, rfl⟩
  · obtain ⟨g, rfl, hc⟩ := hp hne
    obtain ⟨n, hn⟩ : ∃ n, l.length = n := ⟨_, rfl⟩
    obtain ⟨R, hR⟩ : ∃ R, Pf.lk l k = R := ⟨_, rfl⟩
    have HR : Hid (Pf.lk (l.drop 0) k = R) := Lib.hid hR
    have HN := Lib.hid hn
    have HC := Lib.hid hc
    rw [hR, hn]
    rw [hn] at hl
    clear hR hc hp hne hn
    go_enter Tryd.func21, Tryd.ntmps21
    go_wp2
    go_loop [6] (fun i => ∃ j : Nat, i = .int .i64 j ∧ j ≤ n ∧ Hid (Pf.lk (l.drop j) k = R)) (fun i => n - (intOf i).toNat)
    case atStart => exact ⟨0, rfl, Nat.zero_le _, HR⟩
    case round =>
      obtain ⟨j, rfl, hj, hr⟩ := hrel
      by_cases hlt : j < n
      · obtain ⟨hc1, hc2⟩ := HC.out j (by rw [HN.out]; exact hlt)
        have hd := drop_pr (l := l) (i := j) (by rw [HN.out]; exact hlt)
        obtain ⟨q, hq⟩ : ∃ q, l.getD j p0 = q := ⟨_, rfl⟩
        rw [hq] at hc1 hc2 hd
        have hr2 := hr.out
        rw [hd, lk_cons] at hr2
        clear hr hd hq
        by_cases he : q.1 = k
        · rw [if_pos he] at hr2
          have hR := Lib.hid hr2
          have HE := Lib.hid he
          have heq : (q.1 == k) = true := by simpa using he
          clear hr2 he
          go_wp2
          go_ret2
          exact ⟨by rw [← hR.out]; rfl, rfl⟩
        · rw [if_neg he] at hr2
          have hR := Lib.hid hr2
          have heq : (q.1 == k) = false := by simpa using he
          clear hr2 he
          go_wp2
          go_round
          case rel => exact ⟨j + 1, by go_num, hlt, hR⟩
          case measure => simp [intOf]; omega
      · have hr2 := hr.out
        rw [List.drop_eq_nil_of_le (by rw [HN.out]; omega)] at hr2
        have hR := Lib.hid hr2
        clear hr hr2
        go_wp2
        go_ret2
        exact ⟨by rw [← hR.out]; rfl, rfl⟩

theorem num_any (x : Int) (w : World) (h0 : 0 ≤ x) (h1 : x ≤ 255) : Calls Tryd.prog 11 #[.int .i64 x] w fun e w' => e = .returned (.int .i64 x) ∧ w = w' := by
  go_enter Tryd.func11, Tryd.ntmps11
  go_wp2
  go_ret
  exact ⟨rfl, rfl⟩
set_option maxHeartbeats 1000000 in
theorem same_any (l : List PR) (v u : Value) (w : World) (h : PRow w l v) (h' : PRow w l u) (hl : l.length ≤ 1000000) :
    Calls Tryd.prog 12 #[v, u] w fun e w' => e = .returned (.bool true) ∧ Below w.heap.size w w' := by
  obtain ⟨p, cap, rfl, hp⟩ := h
  obtain ⟨p', cap', rfl, hp'⟩ := h'
  by_cases hne : l = []
  · subst hne
    go_enter Tryd.func12, Tryd.ntmps12
    go_wp2
    refine wp_loop_rounds 1 ?_
    rw [rounds_succ]
    go_wp2
    go_ret
    exact ⟨rfl, Below.refl _ _⟩
  · obtain ⟨g, rfl, hc⟩ := hp hne
    obtain ⟨g', rfl, hc'⟩ := hp' hne
    obtain ⟨n, hn⟩ : ∃ n, l.length = n := ⟨_, rfl⟩
    have HN := Lib.hid hn
    have HC := Lib.hid hc
    have HC' := Lib.hid hc'
    rw [hn]
    rw [hn] at hl
    clear hc hc' hp hp' hne hn
    have mixed : Tryd.prog.follows .mixedOrders = true := by kernel_rfl
    go_enter Tryd.func12, Tryd.ntmps12
    go_wp2
    go_loopw [5] (fun i wr => ∃ j : Nat, i = .int .i64 j ∧ j ≤ n ∧ Below w.heap.size w wr) (fun i _ => n - (intOf i).toNat)
    case atStart => exact ⟨0, rfl, Nat.zero_le _, Below.refl _ _⟩
    case round =>
      obtain ⟨j, rfl, hj, hb⟩ := hrel
      by_cases hlt : j < n
      · obtain ⟨hc1, hc2⟩ := pcells_below HC.out hb (Nat.le_refl _) j (by rw [HN.out]; exact hlt)
        obtain ⟨hc3, hc4⟩ := pcells_below HC'.out hb (Nat.le_refl _) j (by rw [HN.out]; exact hlt)
        obtain ⟨q, hq⟩ : ∃ q, l.getD j p0 = q := ⟨_, rfl⟩
        rw [hq] at hc1 hc2 hc3 hc4
        clear hq
        have hb2 : Below w.heap.size w wr.drew := hb.drew
        go_wp2
        go_region_o
        go_wp2
        go_roundw
        case rel => exact ⟨j + 1, by go_num, hlt, hb2⟩
        case measure => simp [intOf]; omega
      · go_wp2
        go_ret
        exact ⟨rfl, hb⟩
end Go.Proofs.YtdfollcglldocaaDoor
