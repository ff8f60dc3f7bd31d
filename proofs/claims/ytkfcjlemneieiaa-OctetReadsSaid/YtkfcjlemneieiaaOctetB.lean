/-
  CONTRACTS OF LAYER 1 (octet), part B: Fixed, of the program and of the page.
-/
import Derived.Test.YtkfcjlemneieiaaOctetA
namespace Go.Proofs.Ytkfcjlemneieiaa
open Go.RowKit Bt
set_option linter.unusedVariables false

theorem fix_step (k u v : Nat) (h : u = v / 256 ^ k) : (⟨#[UInt8.ofNat (u % 256)]⟩ ++ ⟨(fixb k v).toArray⟩ : ByteArray) = ⟨(fixb (k + 1) v).toArray⟩ := by
  rw [fixb_head, ← h]
  have e : UInt8.ofNat (u % 256) = bt u := bt_mod u
  rw [e]
  apply ByteArray.ext
  simp [ByteArray.data_append]
theorem ret_str_0 {a b : List UInt8} {x y : Int} (h : a = b) (h2 : x = y) : Ending.returned (.tuple #[.string ⟨a.toArray⟩, .int .i64 x]) = .returned (.tuple #[.string ⟨b.toArray⟩, .int .i64 y]) := by rw [h, h2]

set_option maxHeartbeats 400000 in
theorem rfixed_in (v n : Nat) (w : World) (hv : v < 18446744073709551616) (h1 : 1 ≤ n) (h8 : n ≤ 8) :
    Calls Try.prog 8 #[.int .u64 v, .int .i64 n] w fun e w' => e = .returned (.tuple #[.string ⟨(fixR v n).1.toArray⟩, .int .i64 (fixR v n).2]) ∧ Below w.heap.size w w' := by
  have hcv := run_str_one
  go_enter Try.func8, Try.ntmps8
  go_wp2
  go_loopw [0, 6, 7] (fun x s j wr => ∃ k u : Nat, k ≤ n ∧ u < 18446744073709551616 ∧ j = .int .i64 k ∧ x = .int .u64 u ∧ Hid (u = v / 256 ^ k) ∧ s = .string ⟨(fixb k v).toArray⟩ ∧ Below w.heap.size w wr) (fun _ _ j _ => n - (intOf j).toNat)
  case atStart => exact ⟨0, v, Nat.zero_le _, hv, rfl, rfl, by simp [Hid], rfl, Below.refl _ _⟩
  case round =>
    obtain ⟨k, u, hk, hu, rfl, rfl, hU, rfl, hb⟩ := hrel
    have hlen : (fixb k v).length ≤ 8 := by rw [fixb_len]; omega
    have hst := Lib.hid (fix_step k u v hU.out)
    have hdv := Lib.hid (show u / 256 = v / 256 ^ (k + 1) by rw [hU.out, Nat.div_div_eq_div_mul, Nat.pow_succ])
    by_cases hlt : k < n
    · go_wp2
      go_roundw
      case rel => exact ⟨k + 1, u / 256, by omega, by omega, by go_num, by go_num, hdv.out, str_eq hst.out, hb.alloc hb.size _⟩
      case measure => simp [intOf]; omega
    · have hkn : Hid (k = n) := by unfold Hid; omega
      by_cases h0 : u = 0
      · have hfin := Lib.hid (fixR_in (v := v) h1 h8 (by have := hU.out; rw [h0, hkn.out] at this; have hp := Nat.pos_of_ne_zero (n := 256 ^ n) (by simp); exact (Nat.div_eq_zero_iff_lt hp).1 this.symm))
        subst h0
        go_wp2
        go_ret2
        refine ⟨ret_str_0 ?_ ?_, hb⟩
        · rw [hfin.out, hkn.out]
        · rw [hfin.out]; rfl
      · have hfin := Lib.hid (fixR_big (v := v) (n := n) (by have := hU.out; rw [hkn.out] at this; exact Nat.le_of_not_lt (fun hh => h0 (by rw [this]; exact Nat.div_eq_of_lt hh))))
        have hne : ((u : Int) != 0) = true := by rw [bne_iff_ne]; omega
        go_wp2
        go_ret2
        refine ⟨ret_str_0 (a := []) ?_ ?_, hb⟩
        · rw [hfin.out]
        · rw [hfin.out]; rfl
set_option maxHeartbeats 400000 in
theorem rfixed_out (v : Nat) (n : Int) (w : World) (h : n < 1 ∨ 8 < n) :
    Calls Try.prog 8 #[.int .u64 v, .int .i64 n] w fun e w' => e = .returned (.tuple #[.string ⟨(fixR v n).1.toArray⟩, .int .i64 (fixR v n).2]) ∧ Below w.heap.size w w' := by
  have hfin := Lib.hid (fixR_out (v := v) h)
  rcases h with h | h
  all_goals
    go_enter Try.func8, Try.ntmps8
    go_wp2
    go_ret2
    refine ⟨ret_str_0 (a := []) ?_ ?_, Below.refl _ _⟩
    · rw [hfin.out]
    · rw [hfin.out]; rfl

set_option maxHeartbeats 400000 in
theorem fixed_in (v n : Nat) (w : World) (hv : v < 18446744073709551616) (h1 : 1 ≤ n) (h8 : n ≤ 8) (h : v < 256 ^ n) :
    Calls Try.prog 7 #[.int .u64 v, .int .i64 n] w fun e w' => e = .returned (.tuple #[.string ⟨(fixR v n).1.toArray⟩, .int .i64 (fixR v n).2]) ∧ Below w.heap.size w w' := by
  have hsh : ((v : Int) / 2 ^ (8 * n) != 0) = false := by
    have e : (256 : Nat) ^ n = 2 ^ (8 * n) := by rw [Nat.pow_mul]
    have e2 : (v : Int) / 2 ^ (8 * n) = ((v / 2 ^ (8 * n) : Nat) : Int) := by simp
    rw [e2, ← e, Nat.div_eq_of_lt h]; rfl
  go_enter Try.func7, Try.ntmps7
  go_wp2
  go_loopw [7, 22] (fun _ j wr => ∃ (k : Nat) (cs : Array Value), k ≤ n ∧ j = .int .i64 k ∧ wr.heap[w.heap.size]? = some (.cells cs 63 (0, 0)) ∧ cs.size = 8 ∧ (∀ i, i < k → cs[i]? = some (.int .u8 (v / 256 ^ (n - 1 - i) % 256 : Nat))) ∧ Below w.heap.size w wr) (fun _ j _ => n - (intOf j).toNat)
  case atStart => exact ⟨0, _, Nat.zero_le _, rfl, heap_alloc_new w _, rfl, fun i hi => absurd hi (by omega), (Below.refl _ _).alloc (Nat.le_refl _) _⟩
  case round =>
    obtain ⟨k, cs, hk, rfl, hblk, hcs, hin, hb⟩ := hrel
    have hin' := Lib.hid hin
    clear hin
    have hcell : ∀ i, i < 8 → wr.cell? ⟨w.heap.size, i, none⟩ = some (cs.getD i undef) := fun i hi => by simp [World.cell?, hblk, Array.getD, hcs, hi]
    have hfz : ∀ i, wr.frozen? ⟨w.heap.size, i, none⟩ = false := fun i => by simp [World.frozen?, hblk]
    have hk8 := hcell k
    have hf8 := hfz k
    have hblk' := Lib.hid hblk
    clear hblk
    have hblk'' := hblk'.out
    by_cases hlt : k < n
    · have hk9 := hk8 (by omega)
      clear hk8 hcell hfz hblk''
      go_wp2
      go_roundw
      case rel =>
        refine ⟨k + 1, cs.set! k (.int .u8 ((v : Int) / 2 ^ (8 * (n - 1 - k)) % 256)), by omega, by go_num, ?_, by simp [hcs], fun i hi => ?_, hb.setCell (Nat.le_refl _) _⟩
        · have hbb := hblk'.out
          simp [World.setCell, Array.getElem?_modify, hbb]
        · have hh := hin'.out i
          by_cases hik : i = k
          · subst hik
            have e : (2 : Nat) ^ (8 * (n - 1 - i)) = 256 ^ (n - 1 - i) := by rw [Nat.pow_mul]
            rw [← e]
            simp [hcs, show i < 8 by omega]
          · have hlt2 : i < k := by omega
            rw [← hh hlt2]
            simp [Array.set!, Ne.symm hik]
      case measure => simp [intOf]; omega
    · have hkn : k = n := by omega
      have hcv : (convert 64 9 (.slice (some ⟨w.heap.size, 0, none⟩) n 8)).run Try.prog wr = .ok (.string ⟨(fixb n v).toArray⟩) wr :=
        run_str_row wr w.heap.size 0 8 n (fixb n v) (fixb_len n v) (fun i hi => by
          have hh := hin'.out i (by omega)
          have hg := hcell i (by omega)
          rw [Nat.zero_add, hg]
          have hfg := fixb_get n v i hi
          have e : (fixb n v).getD i 0 = bt (v / 256 ^ (n - 1 - i)) := by simp [List.getD_eq_getElem?_getD, hfg]
          rw [e, bt_toNat]
          simp only [Array.getD_eq_getD_getElem?, hh]
          rfl)
      have hkn' := Lib.hid hkn
      clear hkn hcell hfz hblk'' hk8 hf8
      go_wp2
      go_ret2
      have hfin := fixR_in (v := v) h1 h8 h
      refine ⟨ret_str_0 ?_ ?_, hb⟩
      · rw [hfin]
      · rw [hfin]; rfl
set_option maxHeartbeats 400000 in
theorem fixed_big (v n : Nat) (w : World) (hv : v < 18446744073709551616) (h1 : 1 ≤ n) (h8 : n ≤ 8) (h : 256 ^ n ≤ v) :
    Calls Try.prog 7 #[.int .u64 v, .int .i64 n] w fun e w' => e = .returned (.tuple #[.string ⟨(fixR v n).1.toArray⟩, .int .i64 (fixR v n).2]) ∧ Below w.heap.size w w' := by
  have hfin := Lib.hid (fixR_big (v := v) (n := n) h)
  have hsh : ((v : Int) / 2 ^ (8 * n) != 0) = true := by
    have e : (256 : Nat) ^ n = 2 ^ (8 * n) := by rw [Nat.pow_mul]
    have e2 : (v : Int) / 2 ^ (8 * n) = ((v / 2 ^ (8 * n) : Nat) : Int) := by simp
    have e3 := Nat.div_pos h (by rw [e]; exact Nat.pow_pos (by omega))
    rw [e2, ← e, bne_iff_ne]
    omega
  clear h
  go_enter Try.func7, Try.ntmps7
  go_wp2
  go_ret2
  refine ⟨ret_str_0 (a := []) ?_ ?_, Below.refl _ _⟩
  · rw [hfin.out]
  · rw [hfin.out]; rfl
set_option maxHeartbeats 400000 in
theorem fixed_out (v : Nat) (n : Int) (w : World) (h : n < 1 ∨ 8 < n) :
    Calls Try.prog 7 #[.int .u64 v, .int .i64 n] w fun e w' => e = .returned (.tuple #[.string ⟨(fixR v n).1.toArray⟩, .int .i64 (fixR v n).2]) ∧ Below w.heap.size w w' := by
  have hfin := Lib.hid (fixR_out (v := v) h)
  rcases h with h | h
  all_goals
    go_enter Try.func7, Try.ntmps7
    go_wp2
    go_ret2
    refine ⟨ret_str_0 (a := []) ?_ ?_, Below.refl _ _⟩
    · rw [hfin.out]
    · rw [hfin.out]; rfl
theorem fixed_any (v : Nat) (n : Int) (w : World) (hv : v < 18446744073709551616) :
    Calls Try.prog 7 #[.int .u64 v, .int .i64 n] w fun e w' => e = .returned (.tuple #[.string ⟨(fixR v n).1.toArray⟩, .int .i64 (fixR v n).2]) ∧ Below w.heap.size w w' := by
  by_cases h : n < 1 ∨ 8 < n
  · exact fixed_out v n w h
  · obtain ⟨m, rfl⟩ := Int.eq_ofNat_of_zero_le (show 0 ≤ n by omega)
    by_cases h2 : v < 256 ^ m
    · exact fixed_in v m w hv (by omega) (by omega) h2
    · exact fixed_big v m w hv (by omega) (by omega) (by omega)
theorem rfixed_any (v : Nat) (n : Int) (w : World) (hv : v < 18446744073709551616) :
    Calls Try.prog 8 #[.int .u64 v, .int .i64 n] w fun e w' => e = .returned (.tuple #[.string ⟨(fixR v n).1.toArray⟩, .int .i64 (fixR v n).2]) ∧ Below w.heap.size w w' := by
  by_cases h : n < 1 ∨ 8 < n
  · exact rfixed_out v n w h
  · obtain ⟨m, rfl⟩ := Int.eq_ofNat_of_zero_le (show 0 ≤ n by omega)
    exact rfixed_in v m w hv (by omega) (by omega)
end Go.Proofs.Ytkfcjlemneieiaa
