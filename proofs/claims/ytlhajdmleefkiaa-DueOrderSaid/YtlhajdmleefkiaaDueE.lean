/-
  CONTRACTS OF LAYER 9 (due), part E: Go, First.
-/
import Derived.Test.YtlhajdmleefkiaaDueD
namespace Go.Proofs.Ytlhajdmleefkiaa
open Go.RowKit Wl Dl Bt
set_option linter.unusedVariables false

section
variable {w w0 w' w1 : World} {P : Pd} {now : Nat} {L : List X} {r : List T}
theorem DG.turn {tq : Nat} (h : DG w0 P now L r w) (hall : ∀ x ∈ L.map nu, tq < x.2) (ht : tq < 2 ^ 64) :
    Calls Try.prog 36 #[.pointer (some ⟨P.D.b, 0, none⟩), .int .u64 tq] w fun e w' => (∃ v, e = .returned v) ∧ DG w0 P (max now tq) L r w' := by
  obtain ⟨P', hbd, hb, hd, hg⟩ := h
  rw [← hb]
  refine (turn_any hd.wh ht).mono ?_
  rintro e w' ⟨v, d, D', he, hs, ho, hw, hst⟩
  have e1 : ((L.map nu).filter fun x => decide (tq < x.2)) = L.map nu := by
    rw [List.filter_eq_self]
    intro x hx
    simpa using hall x hx
  rw [e1] at hw
  obtain ⟨q1, q2⟩ := hd.wheel hst hw hd.ok (hd.ri.later (Nat.le_max_left _ _))
  exact ⟨⟨v, he⟩, ⟨P'.bd, D', P'.v⟩, hbd, hst.b.trans hb, q1, hg.trans q2⟩
def NextE (w : World) (P : Pd) (now : Nat) (L : List X) (v : Int) (b : Bool) (e : Ending) (w' : World) : Prop := e = .returned (.tuple #[.int .u64 v, .bool b]) ∧ ∃ r, Rdy L r ∧ DG w P now L r w'
theorem dnext_at (h : Du w P now L r) {o : Option Nat} {v : Int} {b : Bool} (hn : nxt (L.map nu) = o) (hv : ((o.getD 0 : Nat) : Int) = v) (hb : o.isSome = b) : Calls Try.prog 11 #[.pointer (some ⟨P.bd, 0, none⟩)] w (NextE w P now L v b) := by
  have h1 := dnext_any h
  subst hv hb hn
  exact h1
def DWent (w : World) (P : Pd) (now : Nat) (L : List X) (b : Bool) (e : Ending) (w' : World) : Prop := e = .returned (.bool b) ∧ ∃ r, DG w P now L r w'
set_option maxHeartbeats 1000000 in
theorem dgo_any (h : Du w P now L r) (tq : Nat) (ht : tq < 2 ^ 64) : Calls Try.prog 17 #[.pointer (some ⟨P.bd, 0, none⟩), .int .u64 tq] w (DWent w P (cond (gob L tq) (max now tq) now) L (gob L tq)) := by
  obtain ⟨zt, hzt⟩ : ∃ z : Int, (tq : Int) = z := ⟨_, rfl⟩
  rw [hzt]
  cases hn : nxt (L.map nu) with
  | none =>
    have HNX := Lib.hid (dnext_at h hn (v := 0) (b := false) rfl rfl)
    have hg : gob L tq = true := by unfold gob; rw [hn]
    have HT : Hid (∀ w', ∀ r, DG w P now L r w' → Calls Try.prog 36 #[.pointer (some ⟨P.D.b, 0, none⟩), .int .u64 zt] w' fun e w2 => (∃ v, e = .returned v) ∧ DG w P (max now tq) L r w2) := Lib.hid (fun w' r hd => by
      have h1 := DG.turn (tq := tq) hd (fun x hx => by rw [nxt_none.1 hn] at hx; cases hx) ht
      rw [hzt] at h1
      exact h1)
    rw [hg]
    clear h hn hg hzt ht
    go_enter Try.func17, Try.ntmps17
    go_wp2_with (go_at_call 11; refine HNX.out.mono ?_)
    rintro e w2 ⟨rfl, r2, hrd, hdg⟩
    have hc := DG.c0 hdg
    have HC := Lib.hid (HT.out _ _ hdg)
    clear hrd hdg HT HNX
    go_wp2_with (go_at_call 36; refine HC.out.mono ?_)
    rintro e w3 ⟨⟨v, rfl⟩, hdg⟩
    have HF := Lib.hid hdg
    clear hdg hc HC
    go_wp2
    go_ret
    exact ⟨rfl, r2, HF.out⟩
  | some m =>
    by_cases hlt : tq < m
    · have hg : gob L tq = true := by unfold gob; rw [hn]; simpa using hlt
      have HT : Hid (∀ w', ∀ r, DG w P now L r w' → Calls Try.prog 36 #[.pointer (some ⟨P.D.b, 0, none⟩), .int .u64 zt] w' fun e w2 => (∃ v, e = .returned v) ∧ DG w P (max now tq) L r w2) := Lib.hid (fun w' r hd => by
        have h1 := DG.turn (tq := tq) hd (fun x hx => by have := (nxt_spec hn).2 x hx; omega) ht
        rw [hzt] at h1
        exact h1)
      rw [hg]
      obtain ⟨zm, hzm⟩ : ∃ z : Int, (m : Int) = z := ⟨_, rfl⟩
      have HNX := Lib.hid (dnext_at h hn (v := zm) (b := true) hzm rfl)
      have hle : ¬ zm ≤ zt := by
        have e1 : (m : Int) = zm := hzm
        omega
      clear h hn hg hzt ht hzm hlt
      go_enter Try.func17, Try.ntmps17
      go_wp2_with (go_at_call 11; refine HNX.out.mono ?_)
      rintro e w2 ⟨rfl, r2, hrd, hdg⟩
      have hc := hdg.c0
      have HC := Lib.hid (HT.out _ _ hdg)
      clear hrd hdg HT HNX
      go_wp2_with (go_at_call 36; refine HC.out.mono ?_)
      rintro e w3 ⟨⟨v, rfl⟩, hdg⟩
      have HF := Lib.hid hdg
      clear hdg hc HC
      go_wp2
      go_ret
      exact ⟨rfl, r2, HF.out⟩
    · have hg : gob L tq = false := by unfold gob; rw [hn]; simpa using hlt
      rw [hg]
      obtain ⟨zm, hzm⟩ : ∃ z : Int, (m : Int) = z := ⟨_, rfl⟩
      have HNX := Lib.hid (dnext_at h hn (v := zm) (b := true) hzm rfl)
      have hle : zm ≤ zt := by
        have e1 : (m : Int) = zm := hzm
        omega
      clear h hn hg hzt ht hzm hlt
      go_enter Try.func17, Try.ntmps17
      go_wp2_with (go_at_call 11; refine HNX.out.mono ?_)
      rintro e w2 ⟨rfl, r2, hrd, hdg⟩
      have HF := Lib.hid hdg
      clear hrd hdg HNX
      go_wp2
      go_ret
      exact ⟨rfl, r2, HF.out⟩
/-- a new block outside of all that belongs to the timers -/
theorem DG.block {g : Nat} (h : DG w0 P now L r w) (hg : g < w0.heap.size) (hn : ¬ P.fp g) : w.heap[g]? = w0.heap[g]? := by
  obtain ⟨P', hbd, hb, hd, hg2⟩ := h
  exact hg2.mv.block g hg hn
theorem DG.out {g0 : Nat} {w2 : World} (h : DG w1 P now L r w2) (hb : Below w.heap.size w w1) (hd : ∀ x, P.fp x → x < w.heap.size) (hg : w.heap.size ≤ g0) (hg1 : g0 < w1.heap.size) (hm : Mv (fun x => x = g0) w2 w') : DG w P now L r w' := by
  obtain ⟨P', hbd, hb2, hdu, hg2⟩ := h
  have hoff : ∀ x, P'.fp x → x ≠ g0 := fun x hx e => by
    rcases hg2.own x hx with h1 | h1
    · have := hd x h1; omega
    · omega
  refine ⟨P', hbd, hb2, hdu.mv hm (fun x hx e => hoff x hx e), ⟨fun x hx => ?_, ((Mv.of_below hb).trans hg2.mv (fun x hx e => e)).trans hm (fun x hx e => ?_)⟩⟩
  · rcases hg2.own x hx with h1 | h1
    · exact Or.inl h1
    · exact Or.inr (Nat.le_trans hb.size h1)
  · have e2 : x = g0 := e
    omega
/-- what First tells: the timer x, or nothing -/

def FirstS (w : World) (P : Pd) (now : Nat) (L : List X) (x : X) (e : Ending) (w' : World) : Prop := e = .returned (.tuple #[xv x, .bool true]) ∧ ∃ r, DG w P (max now x.tick) (wo L x.kind x.id) r w'
def FirstN (w : World) (P : Pd) (now : Nat) (L : List X) (e : Ending) (w' : World) : Prop := e = .returned (.tuple #[xv x0, .bool false]) ∧ ∃ r, DG w P now L r w'
set_option maxHeartbeats 1000000 in
theorem dfirst_none (h : Du w P now L r) (tq : Nat) (hg : gob L tq = true) : Calls Try.prog 16 #[.pointer (some ⟨P.bd, 0, none⟩), .int .u64 tq] w (FirstN w P now L) := by
  obtain ⟨W1, hW1⟩ : ∃ W1, w.alloc (.cells #[.int .i64 0, .int .i64 0, .int .u64 0] 39) = W1 := ⟨_, rfl⟩
  have hb1 : Below w.heap.size w W1 := by rw [← hW1]; exact (Below.refl _ _).alloc (Nat.le_refl _) _
  have hblk : W1.heap[w.heap.size]? = some (.cells #[.int .i64 0, .int .i64 0, .int .u64 0] 39) := by rw [← hW1]; exact (MapKept.heap_alloc _ _).1
  have hd1 := h.below hb1 (Nat.le_refl _)
  have HLT := Lib.hid (fun x (hx : P.fp x) => h.lt hx)
  have HD1 := Lib.hid hd1
  have HB1 := Lib.hid hb1
  have HBLK := Lib.hid hblk
  have hg0 : Hid (w.heap.size < W1.heap.size) := Lib.hid (lt_of_some hblk)
  obtain ⟨zt, hzt⟩ : ∃ z : Int, (tq : Int) = z := ⟨_, rfl⟩
  rw [hzt]
  have key : ∀ w2 r2, DG W1 P now L r2 w2 → w2.heap[w.heap.size]? = some (.cells #[.int .i64 0, .int .i64 0, .int .u64 0] 39) := fun w2 r2 hd => by
    rw [hd.block hg0.out (fun hf => by have := HLT.out _ hf; omega)]
    exact HBLK.out
  have HK := Lib.hid key
  have hfin : ∀ w2 r2 w3, DG W1 P now L r2 w2 → Mv (fun x => x = w.heap.size) w2 w3 → DG w P now L r2 w3 := fun w2 r2 w3 hd hm => DG.out hd HB1.out HLT.out (Nat.le_refl _) hg0.out hm
  have HFI := Lib.hid hfin
  clear h hd1 hb1 hblk key hfin
  cases hn : nxt (L.map nu) with
  | none =>
    have HNX := Lib.hid (dnext_at HD1.out hn (v := 0) (b := false) rfl rfl)
    clear hg hn hzt
    go_enter Try.func16, Try.ntmps16
    go_wp2_with (go_at_call 11; refine HNX.out.mono ?_)
    rintro e w2 ⟨rfl, r2, hrd, hdg⟩
    have hk := HK.out _ _ hdg
    have hc0 : w2.cell? ⟨w.heap.size, 0, none⟩ = some (.int .i64 0) := by simp only [World.cell?, hk]; rfl
    have hc1 : w2.cell? ⟨w.heap.size, 1, none⟩ = some (.int .i64 0) := by simp only [World.cell?, hk]; rfl
    have hc2 : w2.cell? ⟨w.heap.size, 2, none⟩ = some (.int .u64 0) := by simp only [World.cell?, hk]; rfl
    have hf0 : w2.frozen? ⟨w.heap.size, 0, none⟩ = false := by simp [World.frozen?, hk]
    have hf1 : w2.frozen? ⟨w.heap.size, 1, none⟩ = false := by simp [World.frozen?, hk]
    have hf2 : w2.frozen? ⟨w.heap.size, 2, none⟩ = false := by simp [World.frozen?, hk]
    have HDG := Lib.hid hdg
    clear hdg hk hrd HNX HK
    go_wp2
    refine bodyPost_ret (v := .tuple #[xv x0, .bool false]) ?_ rfl ?_
    · rw [results_cell_tmp rfl]
      go_simp
      rfl
    · exact ⟨rfl, r2, HFI.out _ _ _ HDG.out (mv3 _ _ _ _ _ _ _ _)⟩
  | some m =>
    have hlt : tq < m := by
      unfold gob at hg
      rw [hn] at hg
      simpa using hg
    obtain ⟨zm, hzm⟩ : ∃ z : Int, (m : Int) = z := ⟨_, rfl⟩
    have HNX := Lib.hid (dnext_at HD1.out hn (v := zm) (b := true) hzm rfl)
    have hltz : zt < zm := by omega
    clear hg hn hzt hzm hlt
    go_enter Try.func16, Try.ntmps16
    go_wp2_with (go_at_call 11; refine HNX.out.mono ?_)
    rintro e w2 ⟨rfl, r2, hrd, hdg⟩
    have hk := HK.out _ _ hdg
    have hc0 : w2.cell? ⟨w.heap.size, 0, none⟩ = some (.int .i64 0) := by simp only [World.cell?, hk]; rfl
    have hc1 : w2.cell? ⟨w.heap.size, 1, none⟩ = some (.int .i64 0) := by simp only [World.cell?, hk]; rfl
    have hc2 : w2.cell? ⟨w.heap.size, 2, none⟩ = some (.int .u64 0) := by simp only [World.cell?, hk]; rfl
    have hf0 : w2.frozen? ⟨w.heap.size, 0, none⟩ = false := by simp [World.frozen?, hk]
    have hf1 : w2.frozen? ⟨w.heap.size, 1, none⟩ = false := by simp [World.frozen?, hk]
    have hf2 : w2.frozen? ⟨w.heap.size, 2, none⟩ = false := by simp [World.frozen?, hk]
    have HDG := Lib.hid hdg
    clear hdg hk hrd HNX HK
    go_wp2
    refine bodyPost_ret (v := .tuple #[xv x0, .bool false]) ?_ rfl ?_
    · rw [results_cell_tmp rfl]
      go_simp
      rfl
    · exact ⟨rfl, r2, HFI.out _ _ _ HDG.out (mv3 _ _ _ _ _ _ _ _)⟩
end
end Go.Proofs.Ytlhajdmleefkiaa
