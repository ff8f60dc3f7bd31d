/-
  CONTRACTS OF LAYER 2 (sum), part C: Of, of the program and of the page; the page's examples.
-/
import Derived.Test.YtcpojbeikldhmaaSumB
namespace Go.Proofs.Ytcpojbeikldhmaa
open Go.RowKit Bs
set_option linter.unusedVariables false

/-- the register behind several texts -/
def crcs (r : BitVec 32) : List ByteArray → BitVec 32
  | [] => r
  | s :: l => crcs (crc r s.data.toList) l
theorem crcs_append (l m : List ByteArray) : ∀ r, crcs r (l ++ m) = crcs (crcs r l) m := by
  induction l with
  | nil => intro r; rfl
  | cons c l ih => intro r; simp only [List.cons_append, crcs]; rw [ih]
theorem crcs_take (r : BitVec 32) (l : List ByteArray) (k : Nat) (h : k < l.length) :
    crcs r (l.take (k + 1)) = crc (crcs r (l.take k)) (l.getD k ByteArray.empty).data.toList := by
  rw [List.take_succ_eq_append_getElem h, crcs_append]
  simp only [crcs, List.getD_eq_getElem?_getD, List.getElem?_eq_getElem h, Option.getD_some]
def ones : BitVec 32 := 4294967295#32

set_option maxRecDepth 100000 in
set_option maxHeartbeats 400000 in
theorem of_any (b cap : Nat) (l : List ByteArray) (w : World) (hl : l.length ≤ 100) (hz : ∀ i, i < l.length → (l.getD i ByteArray.empty).size ≤ 9223372036854775807)
    (hc : ∀ i, i < l.length → w.cell? ⟨b, i, none⟩ = some (.string (l.getD i ByteArray.empty))) :
    Calls Try.prog 8 #[.slice (some ⟨b, 0, none⟩) l.length cap] w fun e w' => e = .returned (.int .u32 ((crcs ones l).toNat : Int)) ∧ w = w' := by
  go_enter Try.func8, Try.ntmps8
  go_wp2
  go_loop [3, 5, 8] (fun v _ j => ∃ k : Nat, k ≤ l.length ∧ j = .int .i64 k ∧ v = .int .u32 ((crcs ones (l.take k)).toNat : Int)) (fun _ _ j => l.length - (intOf j).toNat)
  case atStart => exact ⟨0, Nat.zero_le _, rfl, rfl⟩
  case round =>
    obtain ⟨k, hk, rfl, rfl⟩ := hrel
    by_cases hlt : k < l.length
    · have HT := Lib.hid (crcs_take ones l k hlt)
      have hck := hc k hlt
      have hzk := hz k hlt
      obtain ⟨x, hX⟩ : ∃ x, l.getD k ByteArray.empty = x := ⟨_, rfl⟩
      rw [hX] at HT hck hzk
      have hck' : w.cell? ⟨b, 0 + k, none⟩ = some (.string x) := by rw [Nat.zero_add]; exact hck
      have C := Lib.hid (fun w => crc_any (crcs ones (l.take k)) x w hzk)
      clear hc hz hX hzk
      go_wp2_with fail
      refine (C.out _).mono ?_
      rintro e w' ⟨rfl, rfl⟩
      go_wp2
      go_round
      case rel => exact ⟨k + 1, by omega, by go_num, val_u32 (by rw [HT.out])⟩
      case measure => simp [intOf]; omega
    · go_wp2
      go_ret
      refine ⟨ret_u32 ?_, rfl⟩
      rw [List.take_of_length_le (by omega)]
set_option maxHeartbeats 400000 in
theorem of_none (w : World) :
    Calls Try.prog 8 #[.slice none 0 0] w fun e w' => e = .returned (.int .u32 (ones.toNat : Int)) ∧ w = w' := by
  go_enter Try.func8, Try.ntmps8
  go_wp2
  go_loop [3, 8] (fun v j => j = .int .i64 0 ∧ v = .int .u32 4294967295) (fun _ j => 0)
  case atStart => exact ⟨rfl, rfl⟩
  case round =>
    obtain ⟨rfl, rfl⟩ := hrel
    go_wp2
    go_ret
    exact ⟨rfl, rfl⟩
set_option maxHeartbeats 400000 in
theorem rof_any (s : ByteArray) (w : World) (hs : s.size ≤ 9223372036854775807) :
    Calls Try.prog 9 #[.string s] w fun e w' => e = .returned (.int .u32 ((crc ones s.data.toList).toNat : Int)) ∧ w = w' := by
  have C := Lib.hid (fun w => rcrc_any ones s w hs)
  go_enter Try.func9, Try.ntmps9
  go_wp2_with fail
  refine (C.out _).mono ?_
  rintro e w' ⟨rfl, rfl⟩
  go_wp2
  go_ret
  exact ⟨rfl, rfl⟩
/-- two texts in a new row -/
theorem of_two (s t : ByteArray) (w : World) (hs : s.size ≤ 9223372036854775807) (ht : t.size ≤ 9223372036854775807) :
    Calls Try.prog 8 #[.slice (some ⟨w.heap.size, 0, none⟩) 2 2] (w.alloc (.cells #[.string s, .string t] 9)) fun e w' => e = .returned (.int .u32 ((crc ones (s ++ t).data.toList).toNat : Int)) ∧ w.alloc (.cells #[.string s, .string t] 9) = w' := by
  refine (of_any w.heap.size 2 [s, t] _ (by simp) ?_ ?_).mono ?_
  · intro i hi
    match i, hi with
    | 0, _ => exact hs
    | 1, _ => exact ht
  · intro i hi
    match i, hi with
    | 0, _ => simp
    | 1, _ => simp
  · rintro e w' ⟨rfl, rfl⟩
    refine ⟨ret_u32 ?_, rfl⟩
    simp only [crcs]
    rw [ByteArray.data_append, Array.toList_append, crc_append]
theorem of_one (s : ByteArray) (w : World) (hs : s.size ≤ 9223372036854775807) :
    Calls Try.prog 8 #[.slice (some ⟨w.heap.size, 0, none⟩) 1 1] (w.alloc (.cells #[.string s] 9)) fun e w' => e = .returned (.int .u32 ((crc ones s.data.toList).toNat : Int)) ∧ w.alloc (.cells #[.string s] 9) = w' := by
  refine (of_any w.heap.size 1 [s] _ (by simp) ?_ ?_).mono ?_
  · intro i hi
    match i, hi with
    | 0, _ => exact hs
  · intro i hi
    match i, hi with
    | 0, _ => simp
  · rintro e w' ⟨rfl, rfl⟩
    exact ⟨rfl, rfl⟩
theorem of_one_at (s : ByteArray) (w : World) (b : Nat) (hb : b = w.heap.size) (hs : s.size ≤ 9223372036854775807) :
    Calls Try.prog 8 #[.slice (some ⟨b, 0, none⟩) 1 1] (w.alloc (.cells #[.string s] 9)) fun e w' => e = .returned (.int .u32 ((crc ones s.data.toList).toNat : Int)) ∧ w.alloc (.cells #[.string s] 9) = w' := by
  rw [hb]; exact of_one s w hs
set_option maxHeartbeats 400000 in
theorem live_any (w : World) :
    Calls Try.prog 5 #[] w fun e w' => e = .returned (.bool true) ∧ Below w.heap.size w w' := by
  have h : ((crc ones (ByteArray.mk #[49, 50, 51, 52, 53, 54, 55, 56, 57]).data.toList).toNat : Int) = 58124007 := by decide +kernel
  have c1 := fun w => of_one ⟨#[49, 50, 51, 52, 53, 54, 55, 56, 57]⟩ w (by decide)
  rw [h] at c1
  have c2 := of_none
  rw [show ((ones.toNat : Nat) : Int) = 4294967295 from rfl] at c2
  have C1 := Lib.hid c1
  have C2 := Lib.hid c2
  clear c1 c2 h
  go_enter Try.func5, Try.ntmps5
  go_wp2_with fail
  refine (C1.out _).mono ?_
  rintro e w' ⟨rfl, rfl⟩
  go_wp2_with fail
  refine (C2.out _).mono ?_
  rintro e w' ⟨rfl, rfl⟩
  go_wp2
  go_ret
  refine ⟨rfl, ?_⟩
  exact Below.alloc (Below.refl _ _) (Nat.le_refl _) _
end Go.Proofs.Ytcpojbeikldhmaa
