/-
  The law SumBursts: texts that differ within 32 bits in a row have other sums.
-/
import Derived.Test.YtcpojbeikldhmaaSumD
import Derived.Test.YtcpojbeikldhmaaBytes
namespace Go.Proofs.Ytcpojbeikldhmaa
open Go.RowKit Bs
open Go.ChangeShapes Go.WideShapes Go.ChangeAt
open Go.ChangeMaps (open_string shut_string)
set_option linter.unusedVariables false

theorem flip_val (c : UInt8) (k : Nat) : bits .xor .u8 ((c.toNat : Nat) : Int) ((2 : Int) ^ (7 - k % 8) % 256) = (((c ^^^ UInt8.ofNat (2 ^ (7 - k % 8))).toNat : Nat) : Int) := by
  have h : ∀ j : Fin 8, ((2 : Int) ^ (7 - j.val) % 256) = (((UInt8.ofNat (2 ^ (7 - j.val))).toNat : Nat) : Int) := by decide +kernel
  have hk := h ⟨k % 8, Nat.mod_lt _ (by omega)⟩
  rw [hk, u8_xor_nat _ _ c.toNat_lt (UInt8.toNat_lt _), UInt8.toNat_xor]
theorem bit_tmod (t i : Nat) : ((t : Int) / 2 ^ i).tmod 2 = ((t / 2 ^ i % 2 : Nat) : Int) := by
  have e : ((t : Int) / 2 ^ i) = ((t / 2 ^ i : Nat) : Int) := by simp
  rw [e]
  exact (Int.ofNat_tmod _ _).symm
theorem size_setCell (w : World) (a : Addr) (v : Value) : (w.setCell a v).heap.size = w.heap.size := by simp [World.setCell]
theorem size_alloc (w : World) (o : Obj) : w.heap.size + 1 = (w.alloc o).heap.size := by show w.heap.size + 1 = (w.heap.push o).size; simp
namespace sumBursts
set_option maxHeartbeats 800000 in
set_option maxRecDepth 100000 in
theorem walk_bits (s : ByteArray) (at0 : Nat) (t : Nat) (hs : s.size ≤ 2000) (hat : at0 + 32 ≤ 8 * s.size) (ht0 : t ≠ 0) (ht : t < 4294967296) (w : World) :
    Calls Try.prog 4 #[.string s, .int .i64 at0, .int .u32 t] w fun e w' => e = .returned (.bool true) ∧ Below w.heap.size w w' := by
  have ht0' : ((t : Int) == 0) = false := by rw [beq_eq_false_iff_ne]; omega
  obtain ⟨cap, w1, hconv, hB, hbel, hsz⟩ := bytes_made s w
  have HB0 := Lib.hid hB
  have HL := Lib.hid hbel
  have HZ := Lib.hid hsz
  clear hB hbel hsz
  go_enter Try.func4, Try.ntmps4
  go_wp2
  clear hconv
  go_loopw [8, 9] (fun j _ wr => ∃ (i : Nat) (l : List UInt8), i ≤ 32 ∧ j = .int .i64 i ∧ Bys wr w.heap.size l ∧ l.length = s.size ∧ crc ones l = crc ones s.data.toList ^^^ stpn (8 * s.size - at0) (burst t i) ∧ Below w.heap.size w wr ∧ w.heap.size < wr.heap.size) (fun j _ _ => 32 - (intOf j).toNat)
  case atStart => exact ⟨0, _, Nat.zero_le _, rfl, HB0.out, ba_len s, by simp only [burst]; rw [stpn_zero, BitVec.xor_zero], HL.out, HZ.out⟩
  case round =>
    obtain ⟨i, l, hi, rfl, hby, hl, hcrc, hb, hz⟩ := hrel
    have HBY := Lib.hid hby
    have HC := Lib.hid hcrc
    clear hcrc
    by_cases hlt : i < 32
    · have hq : (at0 + i) / 8 < l.length := by omega
      have hcell := hby.cell hq
      have hfz := hby.frozen hq
      have HQ := Lib.hid hq
      by_cases hbit : t / 2 ^ i % 2 = 1
      · have hT : (((t : Int) / 2 ^ i).tmod 2 == 1) = true := by rw [bit_tmod, hbit]; rfl
        have HN := Lib.hid (burst_on ones (crc ones s.data.toList) l at0 t i hlt (by omega) hbit (by rw [hl]; exact HC.out))
        clear hbit hby hq
        go_wp2
        go_roundw
        case rel =>
          refine ⟨i + 1, _, by omega, by go_num, HBY.out.set HQ.out (flip_val _ _), by rw [List.length_set]; exact hl, ?_, hb.setCell (Nat.le_refl _) _, by rw [size_setCell]; exact hz⟩
          have := HN.out
          rw [hl] at this
          exact this
        case measure => simp [intOf]; omega
      · have hT : (((t : Int) / 2 ^ i).tmod 2 == 1) = false := by rw [bit_tmod, beq_eq_false_iff_ne]; omega
        have HN := Lib.hid (burst_off t i hbit)
        clear hbit hby hcell hfz hq
        go_wp2
        go_roundw
        case rel => exact ⟨i + 1, l, by omega, by go_num, HBY.out, hl, by rw [HN.out]; exact HC.out, hb, hz⟩
        case measure => simp [intOf]; omega
    · obtain rfl : i = 32 := by omega
      have hback := hby.back s.size cap hl
      have hne := burst_other ones l s.data.toList _ t ht0 ht HC.out
      have hne' : ((crc ones l).toNat : Int) ≠ ((crc ones s.data.toList).toNat : Int) := fun e => hne (BitVec.eq_of_toNat_eq (by omega))
      have hT : (((crc ones l).toNat : Int) != ((crc ones s.data.toList).toNat : Int)) = true := by rw [bne_iff_ne]; exact hne'
      have hls : (ByteArray.mk l.toArray).size = s.size := by show l.toArray.size = _; simp [hl]
      have C1 := Lib.hid (fun w => of_one ⟨l.toArray⟩ w (by omega))
      have C2 := Lib.hid (fun w b h => of_one_at s w b h (by omega))
      clear hne hne' hls hby HBY HC
      go_wp2_with fail
      refine (C1.out wr).mono ?_
      rintro e w' ⟨rfl, rfl⟩
      go_wp2_with fail
      refine (C2.out (wr.alloc (.cells #[.string ⟨l.toArray⟩] 9)) _ (size_alloc _ _)).mono ?_
      rintro e w' ⟨rfl, rfl⟩
      go_wp2_with fail
      refine (live_any _).mono ?_
      rintro e w' ⟨rfl, hb3⟩
      go_wp2
      go_ret
      refine ⟨rfl, hb.trans ?_⟩
      have h1 := size_alloc wr (.cells #[.string ⟨l.toArray⟩] 9)
      have h2 := size_alloc (wr.alloc (.cells #[.string ⟨l.toArray⟩] 9)) (.cells #[.string s] 9)
      exact (((Below.refl _ wr).alloc (by omega) _).alloc (by omega) _).trans (hb3.mono (by omega))
set_option maxHeartbeats 800000 in
set_option maxRecDepth 100000 in
theorem walk_out (s : ByteArray) (a : Int) (t : Int) (hs : s.size ≤ 9223372036854775807) (ha : -9223372036854775808 ≤ a ∧ a ≤ 9223372036854775807) (h : (2000 < s.size) ∨ t = 0 ∨ a < 0 ∨ (8 * s.size - 32 : Int) < a) (w : World) :
    Calls Try.prog 4 #[.string s, .int .i64 a, .int .u32 t] w fun e w' => e = .returned (.bool true) ∧ Below w.heap.size w w' := by
  by_cases h1 : s.size ≤ 2000
  · by_cases h2 : t = 0
    · subst h2
      clear h
      go_enter Try.func4, Try.ntmps4
      go_wp2_with fail
      refine (live_any _).mono ?_
      rintro e w' ⟨rfl, hb3⟩
      go_wp2
      go_ret
      exact ⟨rfl, hb3⟩
    · have h2' : (t == 0) = false := by rw [beq_eq_false_iff_ne]; exact h2
      by_cases h3 : a < 0
      · clear h
        go_enter Try.func4, Try.ntmps4
        go_wp2_with fail
        refine (live_any _).mono ?_
        rintro e w' ⟨rfl, hb3⟩
        go_wp2
        go_ret
        exact ⟨rfl, hb3⟩
      · have h4 : (8 * s.size - 32 : Int) < a := by omega
        clear h
        go_enter Try.func4, Try.ntmps4
        go_wp2_with fail
        refine (live_any _).mono ?_
        rintro e w' ⟨rfl, hb3⟩
        go_wp2
        go_ret
        exact ⟨rfl, hb3⟩
  · clear h
    go_enter Try.func4, Try.ntmps4
    go_wp2_with fail
    refine (live_any _).mono ?_
    rintro e w' ⟨rfl, hb3⟩
    go_wp2
    go_ret
    exact ⟨rfl, hb3⟩
theorem walk (a0 : ByteArray) (w0 : a0.size ≤ maxLen) (a1 : Int) (w1 : (Lit.int .i64 a1).wf = true) (a2 : Int) (w2 : (Lit.int .u32 a2).wf = true) (w : World) :
    Calls Try.prog 4 #[.string a0, .int .i64 a1, .int .u32 a2] w fun e w' => e = .returned (.bool true) ∧ Below w.heap.size w w' := by
  unfold maxLen at w0
  have h1 := i64_bounds w1
  obtain ⟨x, rfl⟩ := u32_bits w2
  have hx := x.isLt
  by_cases h : (2000 < a0.size) ∨ ((x.toNat : Nat) : Int) = 0 ∨ a1 < 0 ∨ (8 * a0.size - 32 : Int) < a1
  · exact walk_out a0 a1 _ w0 h1 h w
  · have e : a1 = ((a1.toNat : Nat) : Int) := by omega
    rw [e]
    exact walk_bits a0 a1.toNat x.toNat (by omega) (by omega) (by omega) (by omega) w
theorem own : ownKnob Try.prog.godebug = none := by kernel_rfl
theorem laidOut : laidOutB Try.prog = true := by kernel_rfl
set_option maxRecDepth 100000 in
theorem contract (H : Type) (enc : TypeId × Value → H) (W : World) (base : Nat) (args : Array Value) (ds gs : List (DataW H)) (before : List MemPlace)
    (hval0 : ∀ (j : Nat) t v, Try.f4.params[j]? = some t → args[j]? = some v → Value.okWide Try.prog W .any base t v)
    (hW : DataW.Whole enc Try.prog Try.f4.params.toList Rows.sumBurstsSpec.vars false W args.toList ds gs before) :
    Calls Try.prog 4 args W fun e W' => ∃ v, e = .returned v ∧ Rows.sumBurstsSpec.post enc Try.prog Try.f4 false true false false W args v W' := by
  have hval : ∀ (j : Nat) t v, Try.f4.params[j]? = some t → args[j]? = some v → Value.okWide Try.prog W .any base t v := hval0
  clear hval0
  have hW' := hW
  obtain ⟨p, q, hA0, hV, rfl, hfz, hnd⟩ := hW
  have hA : DataW.TrodAll enc Try.prog W 0 (fun _ => true) true Try.f4.params.toList args.toList ds p := hA0
  rw [Try.params4] at hA hval
  obtain ⟨v0, vs0, d0, ds0, p0, q0, hargs, rfl, rfl, h0, r0⟩ := trodAll_cons hA
  obtain ⟨v1, vs1, d1, ds1, p1, q1, rfl, rfl, rfl, h1, r1⟩ := trodAll_cons r0
  obtain ⟨v2, vs2, d2, ds2, p2, q2, rfl, rfl, rfl, h2, r2⟩ := trodAll_cons r1
  obtain ⟨rfl, rfl, rfl⟩ := trodAll_nil r2
  obtain rfl : args = #[v0, v1, v2] := by cases args; simp_all
  obtain ⟨rfl, rfl⟩ := trodVars_none hV
  obtain ⟨a0, rfl, rfl, rfl, w0⟩ := open_string Try.underlying9 (hval 0 9 v0 rfl rfl) h0
  obtain ⟨a1, rfl, rfl, rfl, w1⟩ := open_int Try.underlying3 (hval 1 3 v1 rfl rfl) h1
  obtain ⟨a2, rfl, rfl, rfl, w2⟩ := open_int Try.underlying22 (hval 2 22 v2 rfl rfl) h2
  clear hA0
  refine (walk a0 w0 a1 w1 a2 w2 W).mono fun e W' ⟨he, hb⟩ => ?_
  subst he
  exact ⟨_, rfl, law_post laidOut (by kernel_rfl) rfl Try.underlying4 rfl hW' rfl hb⟩

set_option maxRecDepth 100000 in
theorem lifted (os : Os) (started : os.Started) (H : Type) (enc : TypeId × Value → H) :
    ReturnsInHanded {} Try.checked os 4 .any (Rows.sumBurstsSpec.pre6 enc Try.prog Try.f4 Rows.sumBurstsRow.domain false) (Rows.sumBurstsSpec.post enc Try.prog Try.f4 false true false false) := by
  refine returnsInHanded_of_change (C := Try.checked) own started (by kernel_rfl) Try.func4
    (ChangeSpec.witness6 (enc := enc) (C := Try.checked) false ⟨#[], #[.string ByteArray.empty, .int .i64 0, .int .u32 0], []⟩ 8 (by kernel_rfl) (by kernel_rfl) (by kernel_rfl) (by kernel_rfl)) ?_
  intro W base args ds gs before hval0 hW _ _
  exact contract H enc W base args ds gs before hval0 hW

/-- THE STATEMENT -/
theorem proved : Rows.SumBurstsSaid :=
  OpenClaim.holds_of_wide 4 Try.f4 rfl rfl rfl rfl rfl rfl rfl ⟨rfl, rfl, rfl, rfl, rfl⟩ rfl rfl rfl rfl rfl (by kernel_rfl) Try.func4 (by kernel_rfl)
    (of_decide_eq_true (by kernel_rfl)) (by unfold Func.isWrapper; first | (rw [if_pos (by decide +kernel)]; kernel_rfl) | (rw [if_neg (by decide +kernel)]; exact ⟨rfl, rfl⟩))
    (fun os started H enc _ => lifted os started H enc)
end sumBursts
end Go.Proofs.Ytcpojbeikldhmaa
