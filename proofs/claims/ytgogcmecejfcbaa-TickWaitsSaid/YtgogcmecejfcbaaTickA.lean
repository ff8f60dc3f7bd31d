/-
  CONTRACTS OF LAYER 6 (tick), part A: Add, Left; the page's.
-/
import Derived.Test.YtgogcmecejfcbaaRows
import Derived.Test.YtgogcmecejfcbaaLib
namespace Go.Proofs.Ytgogcmecejfcbaa
open Go.RowKit
set_option linter.unusedVariables false

theorem ret_u64 {a b : Int} (h : a = b) : Ending.returned (.int .u64 a) = .returned (.int .u64 b) := by rw [h]
theorem ret_i64 {a b : Int} (h : a = b) : Ending.returned (.int .i64 a) = .returned (.int .i64 b) := by rw [h]
namespace Tk
/-- the tick n behind now -/
def add (now n : Int) : Int := if n < 0 then now else min (now + n) 18446744073709551615
def left (now at_ : Int) : Int := max (at_ - now) 0
end Tk
set_option maxRecDepth 100000 in
theorem add_any (now n : Int) (h0 : 0 ≤ now) (h1 : now < 18446744073709551616) (hn : -9223372036854775808 ≤ n) (hn2 : n ≤ 9223372036854775807) (w : World) :
    Calls Try.prog 5 #[.int .u64 now, .int .i64 n] w fun e w' => e = .returned (.int .u64 (Tk.add now n)) ∧ w = w' := by
  by_cases h : n < 0
  · have e := Lib.hid (show Tk.add now n = now by unfold Tk.add; rw [if_pos h])
    go_enter Try.func5, Try.ntmps5
    go_wp2
    go_ret
    exact ⟨ret_u64 (by rw [e.out]), rfl⟩
  · have hc : IntKind.u64.wrap n = n := by rw [IntKind.wrap_u64]; omega
    have hs : IntKind.u64.wrap (18446744073709551615 - now) = 18446744073709551615 - now := by rw [IntKind.wrap_u64]; omega
    by_cases h2 : 18446744073709551615 - now < n
    · have e := Lib.hid (show Tk.add now n = 18446744073709551615 by unfold Tk.add; rw [if_neg h]; omega)
      go_enter Try.func5, Try.ntmps5
      go_wp2
      go_ret
      exact ⟨ret_u64 (by rw [e.out]), rfl⟩
    · have e := Lib.hid (show Tk.add now n = now + n by unfold Tk.add; rw [if_neg h]; omega)
      have ha : IntKind.u64.wrap (now + n) = now + n := by rw [IntKind.wrap_u64]; omega
      go_enter Try.func5, Try.ntmps5
      go_wp2
      go_ret
      exact ⟨ret_u64 (by rw [e.out]), rfl⟩
set_option maxRecDepth 100000 in
theorem radd_any (now n : Int) (h0 : 0 ≤ now) (h1 : now < 18446744073709551616) (hn : -9223372036854775808 ≤ n) (hn2 : n ≤ 9223372036854775807) (w : World) :
    Calls Try.prog 6 #[.int .u64 now, .int .i64 n] w fun e w' => e = .returned (.int .u64 (Tk.add now n)) ∧ w = w' := by
  by_cases h : n < 0
  · have e := Lib.hid (show Tk.add now n = now by unfold Tk.add; rw [if_pos h])
    go_enter Try.func6, Try.ntmps6
    go_wp2
    go_ret
    exact ⟨ret_u64 (by rw [e.out]), rfl⟩
  · have hc : IntKind.u64.wrap n = n := by rw [IntKind.wrap_u64]; omega
    obtain ⟨x, hx⟩ : ∃ x, IntKind.u64.wrap (now + n) = x := ⟨_, rfl⟩
    by_cases h2 : 18446744073709551615 < now + n
    · have e := Lib.hid (show Tk.add now n = 18446744073709551615 by unfold Tk.add; rw [if_neg h]; omega)
      have h3 : x < now := by rw [← hx, IntKind.wrap_u64]; omega
      clear h2
      go_enter Try.func6, Try.ntmps6
      go_wp2
      go_ret
      exact ⟨ret_u64 (by rw [e.out]), rfl⟩
    · have e := Lib.hid (show Tk.add now n = x by unfold Tk.add; rw [if_neg h, ← hx, IntKind.wrap_u64]; omega)
      have h3 : now ≤ x := by rw [← hx, IntKind.wrap_u64]; omega
      clear h2
      go_enter Try.func6, Try.ntmps6
      go_wp2
      go_ret
      exact ⟨ret_u64 (by rw [e.out]), rfl⟩
set_option maxRecDepth 100000 in
theorem left_any (now t : Int) (h0 : 0 ≤ now) (h1 : now < 18446744073709551616) (hn : 0 ≤ t) (hn2 : t < 18446744073709551616) (w : World) :
    Calls Try.prog 7 #[.int .u64 now, .int .u64 t] w fun e w' => e = .returned (.int .u64 (Tk.left now t)) ∧ w = w' := by
  by_cases h : t ≤ now
  · have e := Lib.hid (show Tk.left now t = 0 by unfold Tk.left; omega)
    go_enter Try.func7, Try.ntmps7
    go_wp2
    go_ret
    exact ⟨ret_u64 (by rw [e.out]), rfl⟩
  · have e := Lib.hid (show Tk.left now t = t - now by unfold Tk.left; omega)
    have hs : IntKind.u64.wrap (t - now) = t - now := by rw [IntKind.wrap_u64]; omega
    go_enter Try.func7, Try.ntmps7
    go_wp2
    go_ret
    exact ⟨ret_u64 (by rw [e.out]), rfl⟩
set_option maxRecDepth 100000 in
theorem rleft_any (now t : Int) (h0 : 0 ≤ now) (h1 : now < 18446744073709551616) (hn : 0 ≤ t) (hn2 : t < 18446744073709551616) (w : World) :
    Calls Try.prog 8 #[.int .u64 now, .int .u64 t] w fun e w' => e = .returned (.int .u64 (Tk.left now t)) ∧ w = w' := by
  by_cases h : t ≤ now
  · have e := Lib.hid (show Tk.left now t = 0 by unfold Tk.left; omega)
    go_enter Try.func8, Try.ntmps8
    go_wp2
    go_ret
    exact ⟨ret_u64 (by rw [e.out]), rfl⟩
  · have e := Lib.hid (show Tk.left now t = t - now by unfold Tk.left; omega)
    have hs : IntKind.u64.wrap (t - now) = t - now := by rw [IntKind.wrap_u64]; omega
    go_enter Try.func8, Try.ntmps8
    go_wp2
    go_ret
    exact ⟨ret_u64 (by rw [e.out]), rfl⟩
end Go.Proofs.Ytgogcmecejfcbaa
