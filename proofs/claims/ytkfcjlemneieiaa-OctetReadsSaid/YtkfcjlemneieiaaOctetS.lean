/-
  The law OctetReads: what any reads of any bytes tell, one behind the other, up to the first error, and behind it.
-/
import Derived.Test.YtkfcjlemneieiaaOctetQ
import Derived.Test.YtkfcjlemneieiaaOctetF
import Derived.Test.YtkfcjlemneieiaaRegion
import Derived.Deep.RegionHeld3
import Derived.Deep.SlicePairs
namespace Go.Proofs.Ytkfcjlemneieiaa
open Go.RowKit Bt
open Go.ChangeShapes Go.WideShapes Go.ChangeAt
open Go.ChangeMaps (open_string shut_string)
set_option linter.unusedVariables false

namespace octetReads
/-- both readers are in one state -/
def Both (B b c : Nat) (w0 w' : World) : Prop := ∃ (s : ByteArray) (e : Nat), Rd 74 b s e w' ∧ Rd 52 c s e w' ∧ s.size ≤ 1000 ∧ Below B w0 w'

theorem cell_kept {w a w1 : World} {b : Nat} {v : Value} (h : a.cell? ⟨w.heap.size, 1, none⟩ = some v) (hg : a.grownBy w1 (some b)) (hb : b < w.heap.size) : w1.cell? ⟨w.heap.size, 1, none⟩ = some v :=
  hg.cell h (by simp; omega)
theorem both_mk {B b c : Nat} {t : ByteArray} {f : Nat} {w w1 w2 : World} (X : Obj) (hBb : B ≤ b) (hBc : B ≤ c) (hBw : B ≤ w.heap.size) (hg1 : (w.alloc X).grownBy w1 (some b)) (hr1 : Rd 74 b t f w1)
    (hg2 : w1.grownBy w2 (some c)) (hr2 : Rd 52 c t f w2) (hne : b ≠ c) (ht : t.size ≤ 1000) : Both B b c w w2 := by
  have h1 : Below B w w1 := ((Below.refl B w).alloc hBw X).trans (grown_below hg1 hBb (by simp; omega))
  exact ⟨t, f, hr1.kept hg2 hne, hr2, ht, h1.trans (grown_below hg2 hBc (by have := h1.size; omega))⟩
theorem both_mk_drew {B b c : Nat} {t : ByteArray} {f : Nat} {w w1 w2 : World} (X : Obj) (hBb : B ≤ b) (hBc : B ≤ c) (hBw : B ≤ w.heap.size) (hg1 : (w.alloc X).drew.grownBy w1 (some b)) (hr1 : Rd 74 b t f w1)
    (hg2 : w1.grownBy w2 (some c)) (hr2 : Rd 52 c t f w2) (hne : b ≠ c) (ht : t.size ≤ 1000) : Both B b c w w2 :=
  both_mk X hBb hBc hBw ⟨hg1.os, hg1.tape, hg1.output, hg1.size, hg1.block⟩ hr1 hg2 hr2 hne ht
set_option maxHeartbeats 1000000 in
theorem same_rd (B b c : Nat) (s : ByteArray) (e : Nat) (kind most : Int) (w : World) (hb : Rd 74 b s e w) (hc : Rd 52 c s e w) (hne : b ≠ c) (hBb : B ≤ b) (hBc : B ≤ c) (hs : s.size ≤ 1000)
    (hm : most ≤ 9223372036854775807) (hk0 : (Lit.int .i64 kind).wf = true) :
    Calls Try.prog 22 #[.pointer (some ⟨b, 0, none⟩), .pointer (some ⟨c, 0, none⟩), .agg #[.int .i64 kind, .int .i64 most]] w fun r w' => r = .returned (.bool true) ∧ Both B b c w w' := by
  have hs' : s.size ≤ 9223372036854775807 := by omega
  have hbl := hb.lt
  have hcl := hc.lt
  obtain ⟨⟨v, n, f⟩, hcr⟩ : ∃ t, chainR s e = t := ⟨_, rfl⟩
  obtain ⟨⟨l, m, g⟩, htr⟩ : ∃ t, textR s e most = t := ⟨_, rfl⟩
  have HB := Lib.hid hb
  have HC := Lib.hid hc
  have HN := Lib.hid hne
  have HCR := Lib.hid hcr
  have HTR := Lib.hid htr
  clear hb hc hne hcr htr
  by_cases h0 : kind = 0
  · subst h0
    go_enter Try.func22, Try.ntmps22
    go_wp2_with fail
    have hb1 := HB.out.below (w' := w.alloc (.cells #[.int .i64 0, .int .i64 most] 55)) ((Below.refl _ _).alloc (Nat.le_refl _) _) hbl
    refine (num_rd b s e _ hb1 hs' HCR.out).mono ?_
    rintro r w1 ⟨rfl, hr1, hg1⟩
    go_wp2_with fail
    refine (rnum_rd c s e _ ((HC.out.below (w' := w.alloc (.cells #[.int .i64 0, .int .i64 most] 55)) ((Below.refl _ _).alloc (Nat.le_refl _) _) hcl).kept hg1 (Ne.symm HN.out)) hs' HCR.out).mono ?_
    rintro r w2 ⟨rfl, hr2, hg2⟩
    have HF := Lib.hid (both_mk _ hBb hBc (by omega) hg1 hr1 hg2 hr2 HN.out (Nat.le_trans (tk_size _ _ _) hs))
    clear hr1 hr2 hg1 hg2 hb1
    go_wp2_with fail
    go_ret
    exact ⟨rfl, HF.out⟩
  · by_cases h1 : kind = 1
    · subst h1
      go_enter Try.func22, Try.ntmps22
      go_wp2_with fail
      have hb1 := Lib.hid (HB.out.below (w' := (w.alloc (.cells #[.int .i64 1, .int .i64 most] 55)).drew) ((Below.refl _ _).alloc (Nat.le_refl _) _).drew hbl)
      have hc1 := Lib.hid (HC.out.below (w' := (w.alloc (.cells #[.int .i64 1, .int .i64 most] 55)).drew) ((Below.refl _ _).alloc (Nat.le_refl _) _).drew hcl)
      go_region_held3 (fun w' => w'.cell? ⟨w.heap.size, 1, none⟩ = some (.int .i64 most)) (first
        | go_keep
        | exact cell_kept (by simp) hg1 hbl
        | exact cell_kept (cell_kept (by simp) hg1 hbl) hg2 hcl) (first
        | (go_at_call 28; refine (int_rd b s e most _ hb1.out hs' hm HCR.out).mono ?_; rintro r w1 ⟨rfl, hr1, hg1⟩)
        | (go_at_call 35; refine (rint_rd c s e most _ (hc1.out.kept hg1 (Ne.symm HN.out)) hs' hm HCR.out).mono ?_; rintro r w2 ⟨rfl, hr2, hg2⟩))
      have HF := Lib.hid (both_mk_drew _ hBb hBc (by omega) hg1 hr1 hg2 hr2 HN.out (Nat.le_trans (tk_size _ _ _) hs))
      clear hr1 hr2 hg1 hg2 hb1 hc1
      go_wp2_with fail
      go_ret
      exact ⟨rfl, HF.out⟩
    · by_cases h2 : kind = 2
      · subst h2
        go_enter Try.func22, Try.ntmps22
        go_wp2_with fail
        have hb1 := Lib.hid (HB.out.below (w' := (w.alloc (.cells #[.int .i64 2, .int .i64 most] 55)).drew) ((Below.refl _ _).alloc (Nat.le_refl _) _).drew hbl)
        have hc1 := Lib.hid (HC.out.below (w' := (w.alloc (.cells #[.int .i64 2, .int .i64 most] 55)).drew) ((Below.refl _ _).alloc (Nat.le_refl _) _).drew hcl)
        go_region_held3 (fun w' => w'.cell? ⟨w.heap.size, 1, none⟩ = some (.int .i64 most)) (first
          | go_keep
          | exact cell_kept (by simp) hg1 hbl
          | exact cell_kept (cell_kept (by simp) hg1 hbl) hg2 hcl) (first
          | (go_at_call 29; refine (str_rd b s e most _ hb1.out hs' hm HTR.out).mono ?_; rintro r w1 ⟨rfl, hr1, hg1⟩)
          | (go_at_call 36; refine (rstr_rd c s e most _ (hc1.out.kept hg1 (Ne.symm HN.out)) hs' hm HTR.out).mono ?_; rintro r w2 ⟨rfl, hr2, hg2⟩))
        have HF := Lib.hid (both_mk_drew _ hBb hBc (by omega) hg1 hr1 hg2 hr2 HN.out (Nat.le_trans (tk_size _ _ _) hs))
        clear hr1 hr2 hg1 hg2 hb1 hc1
        go_wp2_with fail
        go_ret
        exact ⟨rfl, HF.out⟩
      · have e0 : (kind == 0) = false := by rw [beq_eq_false_iff_ne]; exact h0
        have e1 : (kind == 1) = false := by rw [beq_eq_false_iff_ne]; exact h1
        have e2 : (kind == 2) = false := by rw [beq_eq_false_iff_ne]; exact h2
        clear h0 h1 h2
        go_enter Try.func22, Try.ntmps22
        go_wp2_with fail
        have hb1 := HB.out.below (w' := w.alloc (.cells #[.int .i64 kind, .int .i64 most] 55)) ((Below.refl _ _).alloc (Nat.le_refl _) _) hbl
        refine (flag_rd b s e _ hb1 hs' HCR.out).mono ?_
        rintro r w1 ⟨rfl, hr1, hg1⟩
        go_wp2_with fail
        refine (rflag_rd c s e _ ((HC.out.below (w' := w.alloc (.cells #[.int .i64 kind, .int .i64 most] 55)) ((Below.refl _ _).alloc (Nat.le_refl _) _) hcl).kept hg1 (Ne.symm HN.out)) hs' HCR.out).mono ?_
        rintro r w2 ⟨rfl, hr2, hg2⟩
        have HF := Lib.hid (both_mk _ hBb hBc (by omega) hg1 hr1 hg2 hr2 HN.out (Nat.le_trans (tk_size _ _ _) hs))
        clear hr1 hr2 hg1 hg2 hb1
        go_wp2_with fail
        go_ret
        exact ⟨rfl, HF.out⟩

set_option maxHeartbeats 1000000 in
set_option maxRecDepth 100000 in
theorem walk_small (s : ByteArray) (a : Option Addr) (len cap : Nat) (K M : Nat → Int) (hs : s.size ≤ 1000) (hl : len ≤ 100) (w : World)
    (hcells : ∀ i, i < len → ∃ sb off, a = some ⟨sb, off, none⟩ ∧ w.cell? ⟨sb, off + i * 2, none⟩ = some (.int .i64 (K i)) ∧ w.cell? ⟨sb, off + i * 2 + 1, none⟩ = some (.int .i64 (M i)) ∧ sb < w.heap.size ∧ (Lit.int .i64 (K i)).wf = true ∧ M i ≤ 9223372036854775807) :
    Calls Try.prog 6 #[.string s, .slice a len cap] w fun e w' => e = .returned (.bool true) ∧ Below w.heap.size w w' := by
  have HC := Lib.hid hcells
  clear hcells
  go_enter Try.func6, Try.ntmps6
  go_wp2_with fail
  refine (new_rd s _).mono ?_
  rintro r w1 ⟨rfl, hr1, hb1, hz1⟩
  have HR1 := Lib.hid hr1
  have HZ1 := Lib.hid hz1
  clear hr1 hz1
  go_wp2_with fail
  have hb2 := hb1.alloc hb1.size (.cells #[.string s, .int .i64 0] 52)
  have hB : Both w.heap.size w.heap.size w1.heap.size w (w1.alloc (.cells #[.string s, .int .i64 0] 52)) :=
    ⟨s, 0, HR1.out.below ((Below.refl _ _).alloc (Nat.le_refl _) _) (by have := HZ1.out; omega), heap_alloc_new w1 _, hs, hb2⟩
  have hlt : w.heap.size < w1.heap.size := by have := HZ1.out; omega
  clear hb1 hb2 HR1 HZ1
  go_loopw [7] (fun j wr => ∃ k : Nat, k ≤ len ∧ j = .int .i64 k ∧ Both w.heap.size w.heap.size w1.heap.size w wr) (fun j _ => len - (intOf j).toNat)
  case atStart => exact ⟨0, Nat.zero_le _, rfl, hB⟩
  case round =>
    clear hB
    obtain ⟨k, hk, rfl, s', e', hr1, hr2, hsz, hbl⟩ := hrel
    have h20 := hr2.c0
    have h21 := hr2.c1
    by_cases hlt2 : k < len
    · obtain ⟨sb, off, rfl, hc0, hc1, hsb, hkw, hmw⟩ := HC.out k hlt2
      have d0 := (hbl.cell (p := ⟨sb, off + k * 2, none⟩) hsb).trans hc0
      have d1 := (hbl.cell (p := ⟨sb, off + k * 2 + 1, none⟩) hsb).trans hc1
      obtain ⟨kk, hkk⟩ : ∃ x, K k = x := ⟨_, rfl⟩
      obtain ⟨mm, hmm⟩ : ∃ x, M k = x := ⟨_, rfl⟩
      rw [hkk] at d0 hkw
      rw [hmm] at d1 hmw
      clear hc0 hc1 HC hkk hmm
      have hr1d : Rd 74 w.heap.size s' e' wr.drew := hr1
      have hr2d : Rd 52 w1.heap.size s' e' wr.drew := hr2
      have HR1 := Lib.hid hr1d
      have HR2 := Lib.hid hr2d
      clear hr1 hr2 hr1d hr2d h20 h21
      go_wp2_with fail
      refine wp_region_world (by kernel_rfl) ?_
      repeat (refine anyW_pure (v := ?_) (by kernel_rfl) (by rfl) (fun _ _ _ h => h) (fun w9 => ?_) ?_
              rotate_left
              · go_simp
                with_reducible rfl
              simp only [Act.put, List.setIfInBounds_toArray, List.set_cons_zero, List.set_cons_succ])
      refine anyW_only (by kernel_rfl) (by rfl) ?_
      go_simp
      refine anyW_only (by kernel_rfl) (by rfl) ?_
      go_simp
      refine (same_rd w.heap.size w.heap.size w1.heap.size s' e' kk mm _ HR1.out HR2.out (by omega) (Nat.le_refl _) (by omega) hsz hmw hkw).mono ?_
      rintro r w2 ⟨rfl, s2, e2, hq1, hq2, hsz2, hbl2⟩
      have hbl3 := (hbl.drew).trans hbl2
      refine anyW_text (S := fun w' => Rd 74 w.heap.size s2 e2 w' ∧ Rd 52 w1.heap.size s2 e2 w' ∧ Below w.heap.size w w') ⟨hq1, hq2, hbl3⟩ ?_
      clear hq1 hq2 hbl3 hbl2 hbl d0 d1 HR1 HR2
      repeat (first
        | (refine anyR_value (v := ?_) (by kernel_rfl) (by rfl) (fun _ _ _ h => h) (fun w1 hS => ?_) ?_
           rotate_left
           · (have h30 := hS.2.1.c0; have h31 := hS.2.1.c1)
             go_simp
             with_reducible rfl
           simp only [Act.put, List.setIfInBounds_toArray, List.set_cons_zero, List.set_cons_succ])
        | (refine anyR_not (by kernel_rfl) (by rfl) (fun _ _ _ h => h) ?_
           simp only [Act.put, List.setIfInBounds_toArray, List.set_cons_zero, List.set_cons_succ])
        | (refine anyR_call (v := ?_) (f := ?_) (args := ?_) (by kernel_rfl) (by rfl) (fun _ _ _ h => h) (fun w1 hS => ?_) (fun w1 hS => ?_) ?_
           rotate_left 3
           · go_simp
             (try constructor) <;> with_reducible rfl
           · first
               | (with_reducible refine ((err_rd _ s2 e2 _ hS.1).mono ?_); rintro r w3 ⟨rfl, rfl⟩; refine ⟨?_, hS⟩; with_reducible rfl)
               | (with_reducible refine ((rest_rd _ s2 e2 _ hS.1).mono ?_); rintro r w3 ⟨rfl, rfl⟩; refine ⟨?_, hS⟩; with_reducible rfl)
               | (with_reducible refine ((end_rd _ s2 e2 _ hS.1).mono ?_); rintro r w3 ⟨rfl, rfl⟩; refine ⟨?_, hS⟩; with_reducible rfl)
               | (with_reducible refine ((rend_rd _ s2 e2 _ hS.2.1).mono ?_); rintro r w3 ⟨rfl, rfl⟩; refine ⟨?_, hS⟩; with_reducible rfl)
               | (with_reducible refine ((num_any _ _).mono ?_); rintro r w3 ⟨rfl, rfl⟩; refine ⟨?_, hS⟩; with_reducible rfl)
           simp only [Act.put, List.setIfInBounds_toArray, List.set_cons_zero, List.set_cons_succ])
        | refine anyR_done (by kernel_rfl) (fun w1 hS => ?_))
      go_wp2_with fail
      go_roundw
      case rel => exact ⟨k + 1, by omega, by go_num, s2, e2, hS.1, hS.2.1, hsz2, hS.2.2⟩
      case measure => simp [intOf]; omega
    · clear h20 h21 HC
      go_wp2_with (first
        | (go_at_call 27; refine (num_nil _).mono ?_; rintro r w3 ⟨rfl, rfl⟩)
        | (go_at_call 28; refine (int_nil _ _).mono ?_; rintro r w3 ⟨rfl, rfl⟩)
        | (go_at_call 29; refine (str_nil _ _).mono ?_; rintro r w3 ⟨rfl, rfl⟩)
        | (go_at_call 30; refine (flag_nil _).mono ?_; rintro r w3 ⟨rfl, rfl⟩)
        | (go_at_call 23; refine (err_nil _).mono ?_; rintro r w3 ⟨rfl, rfl⟩)
        | (go_at_call 25; refine (end_nil _).mono ?_; rintro r w3 ⟨rfl, rfl⟩)
        | (go_at_call 24; refine (rest_nil _).mono ?_; rintro r w3 ⟨rfl, rfl⟩)
        | (go_at_call 11; refine (num_any _ _).mono ?_; rintro r w3 ⟨rfl, rfl⟩)
        | (go_at_call 12; refine (live_any _).mono ?_; rintro r w3 ⟨rfl, hb9⟩))
      go_ret
      exact ⟨rfl, below_next hbl hb9⟩
set_option maxHeartbeats 400000 in
set_option maxRecDepth 100000 in
theorem walk_big (s : ByteArray) (a : Option Addr) (len cap : Nat) (h : 1000 < s.size ∨ 100 < len) (hs : s.size ≤ 9223372036854775807) (hl : len ≤ 9223372036854775807) (w : World) :
    Calls Try.prog 6 #[.string s, .slice a len cap] w fun e w' => e = .returned (.bool true) ∧ Below w.heap.size w w' := by
  rcases h with h | h
  all_goals
    go_enter Try.func6, Try.ntmps6
    go_wp2_with (go_at_call 12; refine (live_any _).mono ?_; rintro e w' ⟨rfl, hb3⟩)
    all_goals go_ret
    all_goals exact ⟨rfl, hb3⟩

theorem walk {H : Type} {enc : TypeId × Value → H} {W : World} {base : Nat} (a0 : ByteArray) (w0 : a0.size ≤ maxLen) (v1 : Value) (d1 : DataW H) (p1 : List MemPlace) (hok : Value.okWide Try.prog W .any base 47 v1)
    (hd : DataW.Trod enc Try.prog W 0 (fun _ => true) true 47 v1 d1 p1) (w : World) (hw : w = W) :
    Calls Try.prog 6 #[.string a0, v1] w fun e w' => e = .returned (.bool true) ∧ Below w.heap.size w w' := by
  subst hw
  unfold maxLen at w0
  obtain ⟨a, len, cap, rfl⟩ := okWide_slice Try.underlying47 hok
  obtain ⟨fuel, hf⟩ := hd
  rcases Go.Deep.open_slice_pairs Try.underlying47 Try.underlying55 (by kernel_rfl) rfl rfl (by kernel_rfl) (by kernel_rfl) hf with ⟨hcs, _⟩ | ⟨ad, len', cap', m, n, V0, V1, D0, D1, P0, P1, hcs, hb, hl, hm, hmm, hx, hi⟩
  · obtain ⟨rfl, rfl, rfl⟩ : a = none ∧ len = 0 ∧ cap = 0 := by simpa [Value.cells] using hcs
    by_cases h : 1000 < a0.size
    · exact walk_big a0 none 0 0 (Or.inl h) w0 (by omega) w
    · exact walk_small a0 none 0 0 (fun _ => 0) (fun _ => 0) (by omega) (by omega) w (fun i hi => by omega)
  · obtain ⟨rfl, rfl, rfl⟩ : a = some ad ∧ len = len' ∧ cap = cap' := by simpa [Value.cells] using hcs
    unfold maxLen at hm
    by_cases h : 1000 < a0.size ∨ 100 < len
    · exact walk_big a0 _ len cap h w0 (by omega) w
    · have hlm : len ≤ m := by rw [hmm]; split <;> omega
      have each : ∀ i, i < len → ∃ K M : Int, V0 i = .int .i64 K ∧ V1 i = .int .i64 M ∧ (Lit.int .i64 K).wf = true ∧ M ≤ 9223372036854775807 := fun i hil => by
        obtain ⟨_, _, h0, h1⟩ := hi i (by omega)
        obtain ⟨K, hK, _, hKw⟩ := DataW.trod_int Try.underlying3 h0
        obtain ⟨M, hM, _, hMw⟩ := DataW.trod_int Try.underlying3 h1
        simp at hK hM
        exact ⟨K, M, hK, hM, hKw, (i64_bounds hMw).2⟩
      refine walk_small a0 (some ad) len cap (fun i => match V0 i with | .int _ q => q | _ => 0) (fun i => match V1 i with | .int _ q => q | _ => 0) (by omega) (by omega) w (fun i hil => ?_)
      obtain ⟨c0, c1, _, _⟩ := hi i (by omega)
      obtain ⟨K, M, hK, hM, hKw, hMb⟩ := each i hil
      obtain ⟨bk, off, spot⟩ := ad
      have hspot : spot = none := by
        have h0 := (hi 0 (by omega)).1
        simpa [Addr.add] using World.cell?_spot h0
      subst hspot
      rw [Go.WideShapes.add_plain] at c0 c1
      refine ⟨bk, off, rfl, ?_, ?_, World.block_lt_of_cell? w _ c0, ?_, ?_⟩
      · rw [c0, hK]
      · rw [Nat.add_assoc, c1, hM]
      · simp only [hK]; exact hKw
      · simp only [hM]; exact hMb
theorem own : ownKnob Try.prog.godebug = none := by kernel_rfl
theorem laidOut : laidOutB Try.prog = true := by kernel_rfl
set_option maxRecDepth 100000 in
theorem contract (H : Type) (enc : TypeId × Value → H) (W : World) (base : Nat) (args : Array Value) (ds gs : List (DataW H)) (before : List MemPlace)
    (hval0 : ∀ (j : Nat) t v, Try.f6.params[j]? = some t → args[j]? = some v → Value.okWide Try.prog W .any base t v)
    (hW : DataW.Whole enc Try.prog Try.f6.params.toList Rows.octetReadsSpec.vars false W args.toList ds gs before) :
    Calls Try.prog 6 args W fun e W' => ∃ v, e = .returned v ∧ Rows.octetReadsSpec.post enc Try.prog Try.f6 false true false false W args v W' := by
  have hval : ∀ (j : Nat) t v, Try.f6.params[j]? = some t → args[j]? = some v → Value.okWide Try.prog W .any base t v := hval0
  clear hval0
  have hW' := hW
  obtain ⟨p, q, hA0, hV, rfl, hfz, hnd⟩ := hW
  have hA : DataW.TrodAll enc Try.prog W 0 (fun _ => true) true Try.f6.params.toList args.toList ds p := hA0
  rw [Try.params6] at hA hval
  obtain ⟨v0, vs0, d0, ds0, p0, q0, hargs, rfl, rfl, h0, r0⟩ := trodAll_cons hA
  obtain ⟨v1, vs1, d1, ds1, p1, q1, rfl, rfl, rfl, h1, r1⟩ := trodAll_cons r0
  obtain ⟨rfl, rfl, rfl⟩ := trodAll_nil r1
  obtain rfl : args = #[v0, v1] := by cases args; simp_all
  obtain ⟨rfl, rfl⟩ := trodVars_none hV
  obtain ⟨a0, rfl, rfl, rfl, w0⟩ := open_string Try.underlying9 (hval 0 9 v0 rfl rfl) h0
  clear hA0
  refine (walk a0 w0 v1 d1 p1 (hval 1 47 v1 rfl rfl) h1 W rfl).mono fun e W' ⟨he, hb⟩ => ?_
  subst he
  exact ⟨_, rfl, law_post laidOut (by kernel_rfl) rfl Try.underlying4 rfl hW' rfl hb⟩

set_option maxRecDepth 100000 in
theorem lifted (os : Os) (started : os.Started) (H : Type) (enc : TypeId × Value → H) :
    ReturnsInHanded {} Try.checked os 6 .any (Rows.octetReadsSpec.pre6 enc Try.prog Try.f6 Rows.octetReadsRow.domain false) (Rows.octetReadsSpec.post enc Try.prog Try.f6 false true false false) := by
  refine returnsInHanded_of_change (C := Try.checked) own started (by kernel_rfl) Try.func6
    (ChangeSpec.witness6 (enc := enc) (C := Try.checked) false ⟨#[], #[.string ByteArray.empty, .slice none 0 0], []⟩ 8 (by kernel_rfl) (by kernel_rfl) (by kernel_rfl) (by kernel_rfl)) ?_
  intro W base args ds gs before hval0 hW _ _
  exact contract H enc W base args ds gs before hval0 hW

/-- THE STATEMENT -/
theorem proved : Rows.OctetReadsSaid :=
  OpenClaim.holds_of_wide 6 Try.f6 rfl rfl rfl rfl rfl rfl rfl ⟨rfl, rfl, rfl, rfl, rfl⟩ rfl rfl rfl rfl rfl (by kernel_rfl) Try.func6 (by kernel_rfl)
    (of_decide_eq_true (by kernel_rfl)) (by unfold Func.isWrapper; first | (rw [if_pos (by decide +kernel)]; kernel_rfl) | (rw [if_neg (by decide +kernel)]; exact ⟨rfl, rfl⟩))
    (fun os started H enc _ => lifted os started H enc)
end octetReads
end Go.Proofs.Ytkfcjlemneieiaa
