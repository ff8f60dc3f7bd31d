/-
  CONTRACTS OF LAYER 11 (quant), part A: the iterator over the buckets that have counts.
-/
import Derived.RangeFuncNested
import Derived.RangeFuncBound
import Derived.RangeFuncCalls
import Derived.RangeFuncLeaves
import Derived.RangeFuncFrom
import Derived.Shelf.Abstract
import Derived.Shelf.RegionOpen
import Derived.WalkKit
import Derived.OwnWalkIn
import Derived.TacticsInMore
import Derived.LoopNIn
import Derived.LoopIn
import Derived.Test.YtbkbopaoeehfkaaHistC
import Derived.Test.YtbkbopaoeehfkaaMQuant
namespace Go.Proofs.Ytbkbopaoeehfkaa
open Go.RowKit Go.Shelf
set_option linter.unusedVariables false
attribute [local go_sem] Oper.semAt_some

/-- a bucket -/
abbrev B16 := { b : Nat // b < 16 }
/-- those below k that have counts, in order -/
def cnt (f : Nat → Int) (k : Nat) : List Nat := (List.range k).filter fun b => decide (0 < f b)
theorem cnt_zero (f : Nat → Int) : cnt f 0 = [] := rfl
theorem cnt_yes {f : Nat → Int} {k : Nat} (h : 0 < f k) : cnt f (k + 1) = cnt f k ++ [k] := by
  unfold cnt
  rw [List.range_succ, List.filter_append, List.filter_cons_of_pos (by simpa using h)]
  rfl
theorem cnt_no {f : Nat → Int} {k : Nat} (h : ¬ 0 < f k) : cnt f (k + 1) = cnt f k := by
  unfold cnt
  rw [List.range_succ, List.filter_append, List.filter_cons_of_neg (by simpa using h)]
  simp
theorem cnt_len (f : Nat → Int) (k : Nat) : (cnt f k).length ≤ k := by
  have := List.length_filter_le (fun b => decide (0 < f b)) (List.range k)
  rw [List.length_range] at this
  exact this
theorem mem_cnt {f : Nat → Int} {k b : Nat} : b ∈ cnt f k ↔ b < k ∧ 0 < f b := by
  unfold cnt
  rw [List.mem_filter, List.mem_range, decide_eq_true_iff]
/-- what a round is handed -/
def enq (f : Nat → Int) (x : B16) : Array Value := #[.int .i64 (x.1 : Nat), .int .i64 (Hs.su f (x.1 + 1))]

set_option maxRecDepth 100000 in
theorem sums_any (f : Nat → Int) (w : World) :
    Calls Try.prog 47 #[.agg (hc f)] w fun e w' => e = .returned (.func (.func 48) #[] #[.pointer (some ⟨w.heap.size, 0, none⟩)]) ∧ w' = w.alloc (.cells (hc f) 49) := by
  go_enter Try.func47, Try.ntmps47
  go_wp2
  go_ret
  exact ⟨rfl, rfl⟩

set_option maxRecDepth 100000 in
set_option maxHeartbeats 2000000 in
theorem sums_stops (f : Nat → Int) (hf : Hs.In f) (n g : Nat) (w : World) (hB : HB w g f) :
    SeqStopsK Fence.wide n Try.prog 48 #[.pointer (some ⟨g, 0, none⟩)] (enq f) KeepsWalks (fun xs => xs.map (·.1) = cnt f 16) (fun pre => ∃ k, k ≤ 16 ∧ pre.map (·.1) = cnt f k) 16 w := fun l J Jx W hW _ _ hY h0 => by
  have hb0 : HB W g f := by unfold HB; rw [hW.block g hB.lt]; exact hB
  have HMK := Lib.hid hb0
  have HF := Lib.hid hf
  have HY := Lib.hid hY
  have H0 := Lib.hid h0
  have HIX := Lib.hid (fun (k : Nat) (h : k < 16) => index_hc f h)
  clear hb0 hf hY h0
  refine callsIn_of_wp Try.func48 rfl trivial ?_ rfl
  simp only [Try.ntmps48, List.size_toArray, List.length_cons, List.length_nil, Nat.reduceAdd, Nat.reduceSub, Array.replicate_succ, Array.replicate_zero, List.push_toArray, List.append_toArray, List.nil_append, List.cons_append]
  refine wpIn_wide.2 ?_
  go_wp2_with (refine ld_row (by rfl) 49 _ rfl g rfl _ _ _ _ HMK.out Try.underlying49 rfl (by kernel_rfl) ?_)
  refine (wpIn_wide (n := n)).1 ?_
  gi_loopw [3, 7] (fun s p wr => ∃ (j : Nat) (pre : List B16), p = .int .i64 j ∧ s = .int .i64 (Hs.su f j) ∧ Hid (j ≤ 16) ∧ Hid (pre.map (·.1) = cnt f j) ∧ Hid (J pre wr))
    (fun _ p _ => 16 - (intOf p).toNat)
  case atStart => exact ⟨0, [], rfl, rfl, Lib.hid (by decide), Lib.hid rfl, H0⟩
  case round =>
    obtain ⟨j, pre, rfl, rfl, hj, hp, hJ⟩ := hrel
    by_cases hlt : j < 16
    · have hI := HF.out
      have hx := fun w => HIX.out j hlt w
      have hs := Hs.su_small (f := f) (B := 64) (n := j) (fun i hi => by have := hI i (by omega); omega)
      have hk := hI j hlt
      have f1 : IntKind.i64.wrap (Hs.su f j + f j) = Hs.su f (j + 1) := by
        rw [IntKind.wrap_i64, Hs.su]
        omega
      have HL := Lib.hid hlt
      have hlen : pre.length < 16 := by
        have h1 := cnt_len f j
        rw [← hp.out, List.length_map] at h1
        omega
      obtain ⟨y, hyj⟩ : ∃ y : B16, y.1 = j := ⟨⟨j, hlt⟩, rfl⟩
      by_cases hpos : 0 < f j
      · have HP1 : Hid ((pre ++ [y]).map (·.1) = cnt f (j + 1)) := Lib.hid (by rw [List.map_append, hp.out, cnt_yes hpos, List.map_cons, hyj]; rfl)
        obtain ⟨fn, tmps, assign, body, hy, hR⟩ := HY.out pre y wr hJ.out hlen
        have HR := Lib.hid hR
        unfold enq at hy
        rw [hyj] at hy
        obtain ⟨s, hs'⟩ : ∃ s, Hs.su f j = s := ⟨_, rfl⟩
        obtain ⟨t, ht'⟩ : ∃ t, Hs.su f (j + 1) = t := ⟨_, rfl⟩
        obtain ⟨x, hx'⟩ : ∃ x, f j = x := ⟨_, rfl⟩
        rw [hs', hx', ht'] at f1
        rw [ht'] at hy
        rw [hx'] at hx hpos
        rw [hs']
        have HT := Lib.hid ht'
        obtain ⟨zj, hzj⟩ : ∃ z : Int, (j : Int) = z := ⟨_, rfl⟩
        rw [hzj] at hx hy ⊢
        have hz16 : 0 ≤ zj ∧ zj < 16 := by omega
        have ZJ := Lib.hid hzj
        have f2 : IntKind.i64.wrap (zj + 1) = ((j + 1 : Nat) : Int) := by rw [← hzj, IntKind.wrap_i64]; omega
        clear hs hk hlt hj hs' hx' hzj ht' hR hlen hI hp hyj
        gi_wp2
        refine ⟨fun h => (by cases h), HR.out.mono ?_⟩
        rintro e W3 (⟨rfl, hJ3, hk3⟩ | ⟨rfl, hJx3⟩)
        · gi_wp2
          go_roundw
          case rel => exact ⟨j + 1, _, rfl, by rw [HT.out], Lib.hid HL.out, HP1, Lib.hid hJ3⟩
          case measure => simp [intOf]; have := ZJ.out; have := HL.out; omega
        · gi_wp2
          refine bodyPost_ret (results_none rfl _ _ _) rfl ?_
          exact ⟨⟨_, rfl⟩, .inr ⟨_, ⟨j + 1, HL.out, HP1.out⟩, hJx3⟩⟩
      · have HP1 : Hid (pre.map (·.1) = cnt f (j + 1)) := Lib.hid (by rw [hp.out, cnt_no hpos])
        have HT : Hid (Hs.su f (j + 1) = Hs.su f j) := Lib.hid (by rw [Hs.su]; omega)
        rw [HT.out] at f1
        obtain ⟨s, hs'⟩ : ∃ s, Hs.su f j = s := ⟨_, rfl⟩
        obtain ⟨x, hx'⟩ : ∃ x, f j = x := ⟨_, rfl⟩
        rw [hs'] at HT
        rw [hs', hx'] at f1
        rw [hx'] at hx hpos
        rw [hs']
        obtain ⟨zj, hzj⟩ : ∃ z : Int, (j : Int) = z := ⟨_, rfl⟩
        rw [hzj] at hx ⊢
        have hz16 : 0 ≤ zj ∧ zj < 16 := by omega
        have ZJ := Lib.hid hzj
        have f2 : IntKind.i64.wrap (zj + 1) = ((j + 1 : Nat) : Int) := by rw [← hzj, IntKind.wrap_i64]; omega
        clear hs hk hlt hj hs' hx' hzj hlen hI hp hyj
        gi_wp2
        refine ⟨fun _ h => (by cases h), ?_⟩
        gi_wp2
        go_roundw
        case rel => exact ⟨j + 1, _, rfl, by rw [HT.out], Lib.hid HL.out, HP1, hJ⟩
        case measure => simp [intOf]; have := ZJ.out; have := HL.out; omega
    · have he : j = 16 := by have := hj.out; omega
      subst he
      have HP := hp
      clear hlt hj
      gi_wp2
      go_end0
      exact ⟨⟨_, rfl⟩, .inl ⟨pre, HP.out, hJ.out⟩⟩
end Go.Proofs.Ytbkbopaoeehfkaa
