/-
  CONTRACTS OF LAYER 4 (prop), part C: the page's least, Show, Canon.
-/
import Derived.Test.YtdfollcglldocaaDoorPropB
import Derived.Sort.Walk0
namespace Go.Proofs.YtdfollcglldocaaDoor
open Go.RowKit
set_option linter.unusedVariables false

theorem lt_zero (l : List PR) (k : Nat) (hk : k < 1) : ¬ (l.getD k p0).1 < (l.getD 0 p0).1 := by
  have : k = 0 := by omega
  subst this
  exact List.lt_irrefl _
def Least (l : List PR) (m : Nat) : Prop := m < l.length ∧ ∀ j, j < l.length → ¬ (l.getD j p0).1 < (l.getD m p0).1
def Leasted (w : World) (l : List PR) (e : Ending) (w' : World) : Prop := ∃ m : Nat, e = .returned (.int .i64 m) ∧ Least l m ∧ Below w.heap.size w w'
set_option maxHeartbeats 1000000 in
theorem least_any (l : List PR) (v : Value) (w : World) (h : PRow w l v) (hne : l ≠ []) (hl : l.length ≤ 1000000) :
    Calls Tryd.prog 25 #[v] w (Leasted w l) := by
  obtain ⟨p, cap, rfl, hp⟩ := h
  obtain ⟨g, rfl, hc⟩ := hp hne
  obtain ⟨n, hn⟩ : ∃ n, l.length = n := ⟨_, rfl⟩
  have hn1 : 1 ≤ n := by
    rw [← hn]
    exact List.length_pos_iff.2 hne
  have HN := Lib.hid hn
  have HC := Lib.hid hc
  have hl2 := hl
  rw [hn] at hl2 ⊢
  clear hc hp hne hn hl
  have mixed : Tryd.prog.follows .mixedOrders = true := by kernel_rfl
  go_enter Tryd.func25, Tryd.ntmps25
  go_wp2
  go_loopw [3, 4] (fun a i wr => ∃ m j : Nat, a = .int .i64 m ∧ i = .int .i64 j ∧ j ≤ n ∧ 1 ≤ j ∧ m < n ∧ Hid (∀ k, k < j → ¬ (l.getD k p0).1 < (l.getD m p0).1) ∧ Below w.heap.size w wr) (fun _ i _ => n - (intOf i).toNat)
  case atStart => exact ⟨0, 1, rfl, rfl, hn1, Nat.le_refl _, hn1, Lib.hid (fun k hk => lt_zero l k hk), Below.refl _ _⟩
  case round =>
    obtain ⟨m, j, rfl, rfl, hj, hj1, hm, hmin, hb⟩ := hrel
    by_cases hlt : j < n
    · obtain ⟨hc1, hc2⟩ := pcells_below HC.out hb (Nat.le_refl _) j (by rw [HN.out]; exact hlt)
      obtain ⟨hc3, hc4⟩ := pcells_below HC.out hb (Nat.le_refl _) m (by rw [HN.out]; exact hm)
      obtain ⟨q, hq⟩ : ∃ q, l.getD j p0 = q := ⟨_, rfl⟩
      obtain ⟨r, hr⟩ : ∃ r, l.getD m p0 = r := ⟨_, rfl⟩
      rw [hq] at hc1 hc2
      rw [hr] at hc3 hc4 hmin
      have hb2 : Below w.heap.size w wr.drew := hb.drew
      have HQ := Lib.hid hq
      have HR := Lib.hid hr
      clear hq hr
      by_cases hle : q.1 < r.1
      · have hmin2 : Hid (∀ k, k < j + 1 → ¬ (l.getD k p0).1 < (l.getD j p0).1) := Lib.hid (fun k hk hlt2 => by
          rw [HQ.out] at hlt2
          by_cases hkj : k = j
          · subst hkj
            rw [HQ.out] at hlt2
            exact List.lt_irrefl _ hlt2
          · exact hmin.out k (by omega) (List.lt_trans hlt2 hle))
        have hbl : Op.bytesLess q.1 r.1 = true := by rw [Go.Proofs.bytesLess_eq]; exact decide_eq_true hle
        clear hle
        go_wp2
        go_region_o
        go_wp2
        go_roundw
        case rel => exact ⟨j, j + 1, rfl, by go_num, hlt, by omega, hlt, hmin2, hb2⟩
        case measure => simp [intOf]; omega
      · have hmin2 : Hid (∀ k, k < j + 1 → ¬ (l.getD k p0).1 < (l.getD m p0).1) := Lib.hid (fun k hk hlt2 => by
          rw [HR.out] at hlt2
          by_cases hkj : k = j
          · subst hkj
            rw [HQ.out] at hlt2
            exact hle hlt2
          · exact hmin.out k (by omega) hlt2)
        have hbl : Op.bytesLess q.1 r.1 = false := by rw [Go.Proofs.bytesLess_eq]; exact decide_eq_false hle
        clear hle
        go_wp2
        go_region_o
        go_wp2
        go_roundw
        case rel => exact ⟨m, j + 1, rfl, by go_num, hlt, by omega, hm, hmin2, hb2⟩
        case measure => simp [intOf]; omega
    · have HM : Hid (Least l m) := Lib.hid ⟨by rw [HN.out]; exact hm, fun k hk => hmin.out k (by rw [HN.out] at hk; omega)⟩
      clear hmin
      go_wp2
      go_ret
      exact ⟨m, rfl, HM.out, hb⟩

/-! ### the page's Show -/
theorem jn_take_succ {l : List PR} {j : Nat} (h : j < l.length) : Pf.sh (l.take (j + 1)) = (if j = 0 then [] else Pf.sh (l.take j) ++ [44]) ++ Pf.pieceOf (l.getD j p0) := by
  have e : l.take (j + 1) = l.take j ++ [l.getD j p0] := by rw [List.take_succ_eq_append_getElem h, getD_mem h]
  unfold Pf.sh
  rw [e, List.map_append, List.map_cons, List.map_nil, Pf.jn_snoc]
  by_cases hj : j = 0
  · subst hj
    simp
  · rw [if_neg (by
      intro e2
      have := congrArg List.length e2
      simp at this
      rcases this with h0 | h0
      · exact hj h0
      · rw [h0] at h; simp at h), if_neg hj]
    simp
theorem sh_len (l : List PR) (j : Nat) : (Pf.sh (l.take j)).length ≤ (l.map fun q => q.1.length + q.2.length + 2).sum := by
  unfold Pf.sh
  have h1 := Pf.jn_len 44 ((l.take j).map Pf.pieceOf)
  rw [List.map_map] at h1
  have h2 : ∀ l : List PR, (l.map ((fun p => p.length + 1) ∘ Pf.pieceOf)) = l.map fun q => q.1.length + q.2.length + 2 := fun l => by
    apply List.map_congr_left
    intro q _
    simp [Pf.pieceOf]
    omega
  rw [h2] at h1
  have h3 : ((l.take j).map fun q : PR => q.1.length + q.2.length + 2).sum ≤ (l.map fun q : PR => q.1.length + q.2.length + 2).sum := by
    conv => rhs; rw [← List.take_append_drop j l, List.map_append, List.sum_append]
    omega
  omega
set_option maxHeartbeats 1000000 in
theorem rshow_any (l : List PR) (v : Value) (w : World) (h : PRow w l v) (hl : l.length ≤ 1000000) (hS : (l.map fun q => q.1.length + q.2.length + 2).sum ≤ 1000000) :
    Calls Tryd.prog 26 #[v] w fun e w' => e = .returned (.string (bs (Pf.sh l))) ∧ Below w.heap.size w w' := by
  obtain ⟨p, cap, rfl, hp⟩ := h
  by_cases hne : l = []
  · subst hne
    go_enter Tryd.func26, Tryd.ntmps26
    go_wp2
    refine wp_loop_rounds 1 ?_
    rw [rounds_succ]
    go_wp2
    go_ret
    exact ⟨rfl, Below.refl _ _⟩
  · obtain ⟨g, rfl, hc⟩ := hp hne
    obtain ⟨n, hn⟩ : ∃ n, l.length = n := ⟨_, rfl⟩
    obtain ⟨T, hT⟩ : ∃ T, Pf.sh l = T := ⟨_, rfl⟩
    have HT : Hid (Pf.sh (l.take n) = T) := Lib.hid (by rw [← hn, List.take_length]; exact hT)
    have HN := Lib.hid hn
    have HC := Lib.hid hc
    rw [hn, hT]
    rw [hn] at hl
    clear hc hp hne hn hT
    have mixed : Tryd.prog.follows .mixedOrders = true := by kernel_rfl
    go_enter Tryd.func26, Tryd.ntmps26
    go_wp2
    go_loopw [3, 4] (fun a i wr => ∃ (acc : List UInt8) (j : Nat), a = .string (bs acc) ∧ i = .int .i64 j ∧ j ≤ n ∧ Hid (acc = Pf.sh (l.take j)) ∧ Below w.heap.size w wr) (fun _ i _ => n - (intOf i).toNat)
    case atStart => exact ⟨[], 0, rfl, rfl, Nat.zero_le _, Lib.hid rfl, Below.refl _ _⟩
    case round =>
      obtain ⟨acc, j, rfl, rfl, hj, hacc, hb⟩ := hrel
      by_cases hlt : j < n
      · obtain ⟨hc1, hc2⟩ := pcells_below HC.out hb (Nat.le_refl _) j (by rw [HN.out]; exact hlt)
        have hstep := jn_take_succ (l := l) (j := j) (by rw [HN.out]; exact hlt)
        have hsl := sh_len l (j + 1)
        obtain ⟨q, hq⟩ : ∃ q, l.getD j p0 = q := ⟨_, rfl⟩
        rw [hq] at hc1 hc2 hstep
        clear hq
        have hal : acc.length + q.1.length + q.2.length + 1 ≤ 1000000 := by
          rw [hstep, List.length_append] at hsl
          have : acc.length ≤ (if j = 0 then [] else Pf.sh (l.take j) ++ [44]).length := by
            rw [hacc.out]
            split
            · next h0 => subst h0; exact Nat.le_refl _
            · rw [List.length_append]; omega
          simp only [Pf.pieceOf, List.length_append, List.length_cons] at hsl
          omega
        have hal2 : j ≠ 0 → acc.length + q.1.length + q.2.length + 2 ≤ 1000000 := fun h0 => by
          rw [hstep, List.length_append, if_neg h0, ← hacc.out] at hsl
          simp only [Pf.pieceOf, List.length_append, List.length_cons] at hsl
          simp at hsl
          omega
        clear hsl
        have hb2 : Below w.heap.size w wr.drew := hb.drew
        by_cases hj0 : j = 0
        · rw [if_pos hj0] at hstep
          have hacc2 : Hid (acc ++ q.1 ++ [61] ++ q.2 = Pf.sh (l.take (j + 1))) := Lib.hid (by
            rw [hstep, hacc.out, hj0]
            simp [Pf.pieceOf, Pf.sh, Pf.jn])
          clear hstep hacc
          clear hal2
          subst hj0
          simp only [Nat.zero_mul, Nat.zero_add] at hc1 hc2
          go_wp2
          go_region_o
          go_wp2
          go_roundw
          case rel => exact ⟨acc ++ q.1 ++ [61] ++ q.2, 1, by simp only [cat_lists], by go_num, hlt, hacc2, hb2⟩
          case measure => simp [intOf]; omega
        · rw [if_neg hj0] at hstep
          have hacc2 : Hid (acc ++ [44] ++ q.1 ++ [61] ++ q.2 = Pf.sh (l.take (j + 1))) := Lib.hid (by
            rw [hstep, hacc.out]
            simp [Pf.pieceOf])
          clear hstep hacc
          have hgt : (0 : Int) < (j : Int) := by omega
          have hal3 := hal2 hj0
          clear hal2
          go_wp2
          go_region_o
          go_wp2
          go_roundw
          case rel => exact ⟨acc ++ [44] ++ q.1 ++ [61] ++ q.2, j + 1, by simp only [cat_lists], by go_num, hlt, hacc2, hb2⟩
          case measure => simp [intOf]; omega
      · have HE : Hid (acc = T) := Lib.hid (by
          rw [hacc.out, ← HT.out]
          congr 2
          omega)
        clear hacc
        go_wp2
        go_ret
        exact ⟨by rw [HE.out]; rfl, hb⟩
end Go.Proofs.YtdfollcglldocaaDoor
