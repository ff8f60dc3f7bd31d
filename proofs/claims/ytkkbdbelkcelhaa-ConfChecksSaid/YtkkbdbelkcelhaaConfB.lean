/-
  CONTRACTS OF LAYER 7 (conf), part B: a configuration in memory; numbers, rising; the page's rises.
-/
import Derived.Test.YtkkbdbelkcelhaaConfA
import Derived.Test.YtkkbdbelkcelhaaRegion
namespace Go.Proofs.Ytkkbdbelkcelhaa
open Go.RowKit Bt
set_option linter.unusedVariables false

/-- a slice of limits that came in -/
def LIn (w : World) (p : Option Addr) (l : List Int) : Prop := ∀ i, i < l.length → ∃ b off, p = some ⟨b, off, none⟩ ∧ b < w.heap.size ∧ w.cell? ⟨b, off + i, none⟩ = some (.int .i64 (l.getD i 0))
/-- a slice of tenants that came in -/
def TIn (w : World) (p : Option Addr) (l : List Cf.Tn) : Prop := ∀ i, i < l.length → ∃ b off, p = some ⟨b, off, none⟩ ∧ b < w.heap.size ∧
  w.cell? ⟨b, off + i * 3, none⟩ = some (.string (l.getD i Cf.t0).name) ∧ w.cell? ⟨b, off + i * 3 + 1, none⟩ = some (.int .i64 (l.getD i Cf.t0).weight) ∧ w.cell? ⟨b, off + i * 3 + 2, none⟩ = some (.int .i64 (l.getD i Cf.t0).quota)
theorem LIn.below {w w' : World} {p : Option Addr} {l : List Int} {B : Nat} (h : LIn w p l) (hb : Below B w w') (hB : w.heap.size ≤ B) : LIn w' p l := fun i hi => by
  obtain ⟨b, off, hp, hlt, hc⟩ := h i hi
  exact ⟨b, off, hp, Nat.lt_of_lt_of_le hlt hb.size, by rw [hb.cell (p := ⟨b, off + i, none⟩) (Nat.lt_of_lt_of_le hlt hB)]; exact hc⟩
theorem TIn.below {w w' : World} {p : Option Addr} {l : List Cf.Tn} {B : Nat} (h : TIn w p l) (hb : Below B w w') (hB : w.heap.size ≤ B) : TIn w' p l := fun i hi => by
  obtain ⟨b, off, hp, hlt, h1, h2, h3⟩ := h i hi
  have hl := Nat.lt_of_lt_of_le hlt hB
  exact ⟨b, off, hp, Nat.lt_of_lt_of_le hlt hb.size, by rw [hb.cell (p := ⟨b, off + i * 3, none⟩) hl]; exact h1, by rw [hb.cell (p := ⟨b, off + i * 3 + 1, none⟩) hl]; exact h2, by rw [hb.cell (p := ⟨b, off + i * 3 + 2, none⟩) hl]; exact h3⟩
/-- a configuration's cells: its lists' addresses and caps beside it -/
def ccells (c : Cf.C) (tp : Option Addr) (n tc : Nat) (lp : Option Addr) (m lc : Nat) : Array Value := #[.slice tp n tc, .slice lp m lc, .int .i64 c.quantum, .int .i64 c.cost, .int .i64 c.cap, .int .i64 c.invs, .int .i64 c.weight, .int .i64 c.pools, .int .i64 c.retries, .int .i64 c.preempts,
  .int .i64 c.base, .int .i64 c.most, .int .i64 c.lease, .int .i64 c.dead, .int .i64 c.keep, .int .i64 c.keys, .int .i64 c.percent, .int .i64 c.workers, .int .i64 c.watch]
def cv (c : Cf.C) (tp : Option Addr) (n tc : Nat) (lp : Option Addr) (m lc : Nat) : Value := .agg (ccells c tp n tc lp m lc)
/-- a configuration that came in -/
structure CIn (w : World) (c : Cf.C) (tp : Option Addr) (n : Nat) (lp : Option Addr) (m : Nat) : Prop where
  hn : c.ten.length = n
  hm : c.lim.length = m
  n100 : n ≤ 100
  m100 : m ≤ 100
  names : ∀ t ∈ c.ten, t.name.size ≤ maxLen
  tin : TIn w tp c.ten
  lin : LIn w lp c.lim
theorem CIn.below {w w' : World} {c : Cf.C} {tp lp : Option Addr} {n m B : Nat} (h : CIn w c tp n lp m) (hb : Below B w w') (hB : w.heap.size ≤ B) : CIn w' c tp n lp m := ⟨h.hn, h.hm, h.n100, h.m100, h.names, h.tin.below hb hB, h.lin.below hb hB⟩

theorem heap_new_at {k : Nat} (W : World) (o : Obj) (h : k = W.heap.size) : (W.alloc o).heap[k]? = some o := by
  subst h
  exact heap_alloc_new W o
/-- what numbers answers -/
def Numbered (w : World) (c : Cf.C) (e : Ending) (w' : World) : Prop := ∃ g, e = .returned (.slice (some ⟨g, 0, none⟩) 17 17) ∧ RBlk w' g (Cf.rows c) ∧ Below w.heap.size w w'
set_option maxHeartbeats 1000000 in
set_option maxRecDepth 100000 in
theorem numbers_any (c : Cf.C) (tp lp : Option Addr) (n tc m lc : Nat) (w : World) : Calls Try.prog 21 #[cv c tp n tc lp m lc] w (Numbered w c) := by
  unfold cv ccells
  go_enter Try.func21, Try.ntmps21
  go_wp2
  go_ret
  refine ⟨_, rfl, ?_, ((Below.refl _ _).alloc (Nat.le_refl _) _).alloc (by simp) _⟩
  exact heap_new_at _ (.cells (rowcells (Cf.rows c)).toArray 50) (by simp)

set_option maxHeartbeats 1000000 in
set_option maxRecDepth 100000 in
theorem rising_any (l : List Int) (n : Nat) (p : Option Addr) (cap : Nat) (w : World) (hn : l.length = n) (h : LIn w p l) (hl : n ≤ 100) :
    Calls Try.prog 19 #[.slice p n cap] w fun e w' => e = .returned (.bool (Cf.up 1 l)) ∧ Below w.heap.size w w' := by
  obtain ⟨R, hR⟩ : ∃ R, Cf.up 1 l = R := ⟨_, rfl⟩
  have HR : Hid (Cf.up 1 (l.drop 0) = R) := Lib.hid (by rw [List.drop_zero]; exact hR)
  have HN := Lib.hid hn
  have HB := Lib.hid h
  rw [hR]
  clear hR hn h
  go_enter Try.func19, Try.ntmps19
  go_wp2
  go_loopw [3, 8] (fun x i wr => ∃ (j : Nat) (low : Int), i = .int .i64 j ∧ x = .int .i64 low ∧ 1 ≤ low ∧ j ≤ n ∧ Hid (Cf.up low (l.drop j) = R) ∧ Below w.heap.size w wr) (fun _ i _ => n - (intOf i).toNat)
  case atStart => exact ⟨0, 1, rfl, rfl, by decide, Nat.zero_le _, HR, Below.refl _ _⟩
  case round =>
    obtain ⟨j, low, rfl, rfl, hlow, hj, hr, hb⟩ := hrel
    by_cases hlt : j < n
    · obtain ⟨b, off, rfl, hbl, hc⟩ := (HB.out.below hb (Nat.le_refl _)) j (by rw [HN.out]; exact hlt)
      have hd := Cf.drop_li (l := l) (i := j) (by rw [HN.out]; exact hlt)
      obtain ⟨q, hq⟩ : ∃ q, l.getD j 0 = q := ⟨_, rfl⟩
      rw [hq] at hc hd
      have hr2 := hr.out
      rw [hd, Cf.up] at hr2
      have hwn := fun w hw => within_any [(q, low, 1048576)] 1 wr.heap.size w rfl hw (by decide)
      have hwi : Cf.wi [(q, low, 1048576)] = Cf.inn q low 1048576 := by simp [Cf.wi]
      rw [hwi] at hwn
      have hblk : RBlk (wr.alloc (.cells #[.int .i64 q, .int .i64 low, .int .i64 1048576] 50)) wr.heap.size [(q, low, 1048576)] := heap_alloc_new wr _
      have HW := Lib.hid (hwn _ hblk)
      have hba := hb.alloc hb.size (.cells #[.int .i64 q, .int .i64 low, .int .i64 1048576] 50)
      clear hr hd hq hwn hwi hblk
      by_cases h1 : low ≤ q ∧ q ≤ 1048576
      · have hq0 : 1 ≤ q := by omega
        have hq1 : q ≤ 1048576 := h1.2
        have hI := Cf.inn_iff.2 h1
        rw [hI] at HW
        rw [hI, Bool.true_and] at hr2
        have HI := Lib.hid hr2
        clear hr2 hI
        go_wp2_with (go_at_call 20; refine HW.out.mono ?_; rintro e w' ⟨rfl, hb2⟩)
        have hb3 := below_next hba hb2
        clear hb2 hba
        go_wp2
        go_roundw
        case rel => exact ⟨j + 1, q + 1, by go_num, rfl, by omega, hlt, HI, hb3⟩
        case measure => simp [intOf]; omega
      · have hI := Cf.inn_no.2 h1
        rw [hI] at HW
        rw [hI, Bool.false_and] at hr2
        have HI := Lib.hid hr2
        clear hr2 hI
        go_wp2_with (go_at_call 20; refine HW.out.mono ?_; rintro e w' ⟨rfl, hb2⟩)
        go_ret
        exact ⟨ret_bool HI.out, below_next hba hb2⟩
    · have HI : Hid (R = true) := Lib.hid (by
        have := hr.out
        rw [List.drop_eq_nil_of_le (by rw [HN.out]; omega)] at this
        exact this.symm)
      clear hr
      go_wp2
      go_ret
      exact ⟨ret_bool HI.out.symm, hb⟩
end Go.Proofs.Ytkkbdbelkcelhaa
