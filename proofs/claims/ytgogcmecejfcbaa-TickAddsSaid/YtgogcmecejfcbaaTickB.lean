/-
  CONTRACTS OF LAYER 6 (tick), part B: doubled, Wait, Rounds; the page's.
-/
import Derived.Test.YtgogcmecejfcbaaTickA
import Derived.Test.YtgogcmecejfcbaaMTick
namespace Go.Proofs.Ytgogcmecejfcbaa
open Go.RowKit
set_option linter.unusedVariables false

namespace Tk
def wait (b m n : Int) : Int := if b < 1 ∨ m < 1 ∨ n < 1 then 0 else ((wt b.toNat m.toNat (n.toNat - 1) : Nat) : Int)
def pair (a b : Int) : Value := .tuple #[.int .i64 a, .int .i64 b]
theorem pair_eq {a b c d : Int} (h : a = c) (h2 : b = d) : Ending.returned (.tuple #[.int .i64 a, .int .i64 b]) = .returned (pair c d) := by rw [h, h2]; rfl
end Tk
open Tk
set_option maxRecDepth 100000 in
theorem doubled_any (b m t K : Nat) (hb : 0 < b) (hK : Need b m K) (hm : m < 9223372036854775808) (ht : t < 9223372036854775808) (w : World) :
    Calls Try.prog 14 #[.int .i64 b, .int .i64 m, .int .i64 t] w fun e w' => e = .returned (pair (wt b m t : Nat) (min K t : Nat)) ∧ w = w' := by
  obtain ⟨zb, hzb⟩ : ∃ z : Int, (b : Int) = z := ⟨_, rfl⟩
  obtain ⟨zm, hzm⟩ : ∃ z : Int, (m : Int) = z := ⟨_, rfl⟩
  obtain ⟨zt, hzt⟩ : ∃ z : Int, (t : Int) = z := ⟨_, rfl⟩
  rw [hzb, hzm, hzt]
  by_cases h : m ≤ b
  · have e1 := Lib.hid (wt_most (t := t) h)
    have e2 := Lib.hid (need_zero hK h)
    have h1 : zm ≤ zb := by omega
    have HM := Lib.hid hzm
    clear h hb hK hm ht hzb hzm hzt
    go_enter Try.func14, Try.ntmps14
    go_wp2
    go_ret2
    exact ⟨pair_eq (by rw [e1.out, ← HM.out]) (by rw [e2.out]; simp), rfl⟩
  · have h1 : zb < zm := by omega
    have HB := Lib.hid hzb
    have HM := Lib.hid hzm
    have HT := Lib.hid hzt
    have HK := Lib.hid hK
    have HS := Lib.hid (show b < m by omega)
    have LM := Lib.hid hm
    have LT := Lib.hid ht
    have LB := Lib.hid hb
    clear h hb hK hm ht hzb hzm hzt
    go_enter Try.func14, Try.ntmps14
    go_wp2_with fail
    go_loop [0, 14] (fun x n => ∃ p q : Nat, x = .int .i64 p ∧ n = .int .i64 q ∧ Hid (p = b * 2 ^ q) ∧ Hid (p < m) ∧ Hid (q ≤ t)) (fun _ n => t - (intOf n).toNat)
    case atStart => exact ⟨b, 0, by rw [HB.out], rfl, Lib.hid (by simp), HS, Lib.hid (by omega)⟩
    case round =>
      obtain ⟨p, q, rfl, rfl, hp, hl, hq⟩ := hrel
      obtain ⟨zp, hzp⟩ : ∃ z : Int, (p : Int) = z := ⟨_, rfl⟩
      obtain ⟨zq, hzq⟩ : ∃ z : Int, (q : Int) = z := ⟨_, rfl⟩
      have b0 : 0 ≤ zp ∧ zp < zm ∧ zm ≤ 9223372036854775807 := by have := hl.out; have := HM.out; have := LM.out; omega
      have q0 : 0 ≤ zq ∧ zq ≤ zt ∧ zt ≤ 9223372036854775807 := by have := hq.out; have := HT.out; have := LT.out; omega
      obtain ⟨b1, b2, b3⟩ := b0
      obtain ⟨q1, q2, q3⟩ := q0
      rw [hzp, hzq]
      have ZP := Lib.hid hzp
      have ZQ := Lib.hid hzq
      clear hzp hzq h1
      have TW := Lib.hid (twice b q)
      by_cases hlt : zq < zt
      · have s1 : IntKind.i64.wrap (zm - zp) = zm - zp := by rw [IntKind.wrap_i64]; omega
        have s2 : IntKind.i64.wrap (zq + 1) = zq + 1 := by rw [IntKind.wrap_i64]; omega
        by_cases hge : zm - zp ≤ zp
        · go_wp2
          go_ret2
          have hk := need_here (q := q) HK.out (by rw [← hp.out]; exact hl.out) (by rw [TW.out, ← hp.out]; have := HM.out; have := ZP.out; omega)
          refine ⟨pair_eq ?_ ?_, rfl⟩
          · rw [wt_reached (t := t) HK.out (by have := ZQ.out; have := HT.out; omega)]; exact HM.out.symm
          · have := ZQ.out; have := HT.out; omega
        · have s3 : IntKind.i64.wrap (zp + zp) = zp + zp := by rw [IntKind.wrap_i64]; omega
          go_wp2
          go_round
          case rel => exact ⟨p + p, q + 1, val_i64 (by have := ZP.out; omega), val_i64 (by have := ZQ.out; omega), Lib.hid (by rw [TW.out, ← hp.out]), Lib.hid (by have := HM.out; have := ZP.out; omega), Lib.hid (by have := ZQ.out; have := HT.out; omega)⟩
          case measure => have := ZQ.out; have := HT.out; simp [intOf]; omega
      · go_wp2
        go_ret2
        have hqt : q = t := by have := ZQ.out; have := HT.out; have := hq.out; omega
        subst hqt
        have hlo : b * 2 ^ q < m := by rw [← hp.out]; exact hl.out
        refine ⟨pair_eq ?_ ?_, rfl⟩
        · rw [wt_low hlo, ← hp.out]; exact ZP.out.symm
        · have := need_over HK.out hlo; have := HT.out; omega
end Go.Proofs.Ytgogcmecejfcbaa
