/-
  CONTRACTS OF LAYER 10 (hist), part B: a histogram by value and in memory; Total, Right; the page's.
-/
import Derived.Test.YtbkbopaoeehfkaaHistA
import Derived.Test.YtbkbopaoeehfkaaLoad
import Derived.ChangeKeysEq
namespace Go.Proofs.Ytbkbopaoeehfkaa
open Go.RowKit
set_option linter.unusedVariables false

/-- a histogram's cells -/
def hc (f : Nat → Int) : Array Value := #[.int .i64 (f 0), .int .i64 (f 1), .int .i64 (f 2), .int .i64 (f 3), .int .i64 (f 4), .int .i64 (f 5), .int .i64 (f 6), .int .i64 (f 7),
  .int .i64 (f 8), .int .i64 (f 9), .int .i64 (f 10), .int .i64 (f 11), .int .i64 (f 12), .int .i64 (f 13), .int .i64 (f 14), .int .i64 (f 15)]
theorem hc_size (f : Nat → Int) : (hc f).size = 16 := rfl
theorem hc_one (f : Nat → Int) : (hc f).all (·.oneCell') = true := by kernel_rfl
theorem hc_get (f : Nat → Int) {k : Nat} (h : k < 16) : (hc f)[k]? = some (.int .i64 (f k)) := by
  match k, h with
  | 0, _ => rfl
  | 1, _ => rfl
  | 2, _ => rfl
  | 3, _ => rfl
  | 4, _ => rfl
  | 5, _ => rfl
  | 6, _ => rfl
  | 7, _ => rfl
  | 8, _ => rfl
  | 9, _ => rfl
  | 10, _ => rfl
  | 11, _ => rfl
  | 12, _ => rfl
  | 13, _ => rfl
  | 14, _ => rfl
  | 15, _ => rfl
  | k + 16, h => omega
theorem hc_congr {f g : Nat → Int} (h : ∀ i, i < 16 → f i = g i) : hc f = hc g := by
  unfold hc
  rw [h 0 (by decide), h 1 (by decide), h 2 (by decide), h 3 (by decide), h 4 (by decide), h 5 (by decide), h 6 (by decide), h 7 (by decide), h 8 (by decide), h 9 (by decide), h 10 (by decide), h 11 (by decide), h 12 (by decide), h 13 (by decide), h 14 (by decide), h 15 (by decide)]
/-- one count set -/
theorem hc_set (f : Nat → Int) {k : Nat} (h : k < 16) (x : Int) : (hc f).setIfInBounds k (.int .i64 x) = hc (fun i => if i = k then x else f i) := by
  apply Array.ext_getElem?
  intro i
  by_cases hi : i < 16
  · rw [hc_get _ hi, Array.getElem?_setIfInBounds]
    by_cases e : k = i
    · subst e
      rw [if_pos rfl, if_pos (by rw [hc_size]; exact h), if_pos rfl]
    · rw [if_neg e, hc_get _ hi, if_neg (fun x => e x.symm)]
  · rw [Array.getElem?_eq_none (by rw [Array.size_setIfInBounds, hc_size]; omega), Array.getElem?_eq_none (by rw [hc_size]; omega)]
/-- h[k] of a histogram by value -/
theorem index_hc (f : Nat → Int) {k : Nat} (h : k < 16) (w : World) : (Instr.index 49 (.agg (hc f)) (.int .i64 k)).run Try.prog w = .ok (.int .i64 (f k)) w := by
  have hz : Try.prog.cellsOf 3 = 1 := by kernel_rfl
  obtain ⟨i, hi⟩ : ∃ i, Try.prog.info? 3 = some i := Option.isSome_iff_exists.1 (by kernel_rfl)
  have h1 : (0 : Int) ≤ k ∧ (k : Int) < (16 : Nat) := by omega
  have hg := hc_get f h
  simp only [Instr.index, asIntOf, Sem.run_bind, Sem.run_pure, run_underlying Try.underlying49, Result.andThen_ok, if_pos h1, run_sizeOf w hi, hz, Int.toNat_natCast, Nat.mul_one]
  simp [part, isAgg, run_underlying Try.underlying3, hg]
/-- whether two histograms are the same -/
def same (f g : Nat → Int) : Bool := (List.range 16).all fun i => f i == g i
theorem eq_hc (f g : Nat → Int) (w : World) : (Op.equalIn 10000 49 (.agg (hc f)) (.agg (hc g))).run Try.prog w = .ok (same f g) w := by
  obtain ⟨i, hi⟩ : ∃ i, Try.prog.info? 3 = some i := by
    have h : (Try.prog.info? 3).isSome = true := by kernel_rfl
    exact Option.isSome_iff_exists.1 h
  have hz : Try.prog.cellsOf 3 = 1 := by kernel_rfl
  rw [run_equalIn_array w 9999 (hc f) (hc g) Try.underlying49 hi, hz]
  have part1 : ∀ (u : Nat → Int) (k : Nat), k < 16 → (part 3 (hc u) (k * 1)).run Try.prog w = .ok (.int .i64 (u k)) w := fun u k hk => by
    have := hc_get u hk
    simp [part, isAgg, run_underlying Try.underlying3, this]
  have key : ∀ (is : List Nat), (∀ i ∈ is, i < 16) → (Op.eqItems 9999 3 1 (hc f) (hc g) is).run Try.prog w = .ok (is.all fun i => f i == g i) w := by
    intro is
    induction is with
    | nil => intro _; rfl
    | cons k is ih =>
      intro h
      have hk := h k (by simp)
      have ih := ih fun i hi => h i (by simp [hi])
      simp only [Op.eqItems, Sem.run_bind, part1 f k hk, part1 g k hk, Result.andThen_ok]
      rw [run_equalIn_int w 9998 3 .i64 .i64 (f k) (g k) Try.underlying3]
      simp only [Result.andThen_ok, List.all_cons]
      cases e : (f k == g k)
      · simp
      · simp [ih]
  rw [key _ (fun i hi => by simpa using hi)]
  rfl
theorem same_self (f : Nat → Int) : same f f = true := by unfold same; simp
/-- block g is a histogram -/
def HB (w : World) (g : Nat) (f : Nat → Int) : Prop := w.heap[g]? = some (.cells (hc f) 49)
theorem HB.cell {w : World} {g : Nat} {f : Nat → Int} (h : HB w g f) {k : Nat} (hk : k < 16) : w.cell? ⟨g, k, none⟩ = some (.int .i64 (f k)) := by
  unfold HB at h
  rw [World.cell?, h]
  exact hc_get f hk
theorem HB.lt {w : World} {g : Nat} {f : Nat → Int} (h : HB w g f) : g < w.heap.size := (Array.getElem?_eq_some_iff.1 h).1
theorem HB.below {w w' : World} {g B : Nat} {f : Nat → Int} (h : HB w g f) (hb : Below B w w') (hB : w.heap.size ≤ B) : HB w' g f := by
  unfold HB
  rw [hb.block g (Nat.lt_of_lt_of_le h.lt hB)]
  exact h
theorem HB.made (w : World) (f : Nat → Int) : HB (w.alloc (.cells (hc f) 49)) w.heap.size f := heap_alloc_new w _
theorem HB.put {w : World} {g : Nat} {f : Nat → Int} (h : HB w g f) {k : Nat} (hk : k < 16) (x : Int) : HB (w.setCell ⟨g, k, none⟩ (.int .i64 x)) g (fun i => if i = k then x else f i) := by
  unfold HB at h ⊢
  rw [setCell_eq_setRow w g k (hc f) _ _ _ h, hc_set f hk]
  exact setRow_heap w g _ _ _ _ h

set_option maxRecDepth 100000 in
theorem total_any (f : Nat → Int) (hf : ∀ i, i < 16 → -1125899906842624 ≤ f i ∧ f i ≤ 1125899906842624) (w : World) :
    Calls Try.prog 34 #[.agg (hc f)] w fun e w' => e = .returned (.int .i64 (Hs.tot f)) ∧ Below w.heap.size w w' := by
  have hba : Below w.heap.size w (w.alloc (.cells (hc f) 49)) := (Below.refl _ w).alloc (Nat.le_refl _) _
  have hmk := HB.made w f
  have HBA := Lib.hid hba
  have HMK := Lib.hid hmk
  have HF := Lib.hid hf
  have HIX := Lib.hid (fun (k : Nat) (h : k < 16) => index_hc f h)
  have E := Lib.hid (show Hs.tot f = Hs.su f 16 from rfl)
  clear hba hmk hf
  go_enter Try.func34, Try.ntmps34
  go_wp2_with (refine ld_row (by rfl) 49 _ rfl w.heap.size rfl _ _ _ _ HMK.out Try.underlying49 rfl (by kernel_rfl) ?_)
  go_loopw [3, 7] (fun x i wr => ∃ j : Nat, i = .int .i64 j ∧ x = .int .i64 (Hs.su f j) ∧ Hid (j ≤ 16) ∧ Below w.heap.size w wr) (fun _ i _ => 16 - (intOf i).toNat)
  case atStart => exact ⟨0, rfl, rfl, Lib.hid (by decide), HBA.out⟩
  case round =>
    obtain ⟨j, rfl, rfl, hj, hb⟩ := hrel
    by_cases hlt : j < 16
    · have hx := fun w => HIX.out j hlt w
      have hs := Hs.su_small (f := f) (n := j) (fun i hi => HF.out i (by omega))
      have hk := HF.out j hlt
      have f1 : IntKind.i64.wrap (Hs.su f j + f j) = Hs.su f (j + 1) := by
        rw [IntKind.wrap_i64, Hs.su]
        omega
      have HL := Lib.hid hlt
      obtain ⟨s, hs'⟩ : ∃ s, Hs.su f j = s := ⟨_, rfl⟩
      obtain ⟨x, hx'⟩ : ∃ x, f j = x := ⟨_, rfl⟩
      rw [hs', hx'] at f1
      rw [hx'] at hx
      rw [hs']
      obtain ⟨zj, hzj⟩ : ∃ z : Int, (j : Int) = z := ⟨_, rfl⟩
      rw [hzj] at hx ⊢
      have hz16 : 0 ≤ zj ∧ zj < 16 := by omega
      have ZJ := Lib.hid hzj
      have f2 : IntKind.i64.wrap (zj + 1) = ((j + 1 : Nat) : Int) := by rw [← hzj, IntKind.wrap_i64]; omega
      clear hs hk hlt hj hs' hx' hzj
      go_wp2
      go_roundw
      case rel => exact ⟨j + 1, rfl, rfl, Lib.hid HL.out, hb⟩
      case measure => simp [intOf]; have := ZJ.out; have := HL.out; omega
    · have he : j = 16 := by have := hj.out; omega
      subst he
      clear hlt hj
      go_wp2
      go_ret
      exact ⟨ret_i64 E.out.symm, hb⟩
end Go.Proofs.Ytbkbopaoeehfkaa
