/-
  CONTRACTS OF LAYER 9 (due), part F: First, where something is due.
-/
import Derived.Test.YtlhajdmleefkiaaDueE
namespace Go.Proofs.Ytlhajdmleefkiaa
open Go.RowKit Wl Dl Bt
set_option linter.unusedVariables false

section
variable {w w0 w' w1 : World} {P : Pd} {now : Nat} {L : List X} {r : List T}
/-- timers whose row begins with x -/
def Mid (W1 : World) (P : Pd) (now : Nat) (L : List X) (x : X) (w : World) : Prop := ∃ r', DG W1 P (max now x.tick) L (nu x :: r') w
theorem mid_of_row {W1 w2 : World} {x : X} {y : T} {r2 : List T} {j : Nat} (hd : DG W1 P now L (y :: r2) w2) (hf : (fd (L.map nu) y.1).isSome = true) (hF : Fx L j) (hx : L.getD j x0 = x) : Mid W1 P now L x w2 := by
  obtain ⟨P', hbd, hb, hdu, hg⟩ := hd
  obtain ⟨h1, h2⟩ := hdu.ri.least hf
  have e1 := hF.of_least hdu.ok h1 h2
  rw [hx] at e1
  have h3 := (hdu.ri.old y List.mem_cons_self).1
  have e2 : max now x.tick = now := by
    have : x.tick ≤ now := by rw [e1] at h3; exact h3
    omega
  rw [e1] at hdu
  refine ⟨r2, ?_⟩
  rw [e2]
  exact ⟨P', hbd, hb, hdu, hg⟩
theorem find_mid {W1 w2 : World} {x : X} {r2 : List T} {j : Nat} (hd : DG W1 P now L r2 w2) (hF : Fx L j) (hx : L.getD j x0 = x) (hnow : now < 2 ^ 64) (hlen : L.length < 1000) :
    Calls Try.prog 35 #[.pointer (some ⟨P.bd, 0, none⟩), .int .u64 (x.tick : Nat)] w2 fun e w' => e = .returned (.tuple #[]) ∧ Mid W1 P now L x w' := by
  obtain ⟨P', hbd, hb, hdu, hg⟩ := hd
  rw [← hbd]
  have hxm : x ∈ L := by rw [← hx]; exact getD_mem hF.1
  have ht := hdu.ok.tick x hxm
  refine (find_any hdu (at' := x.tick) (mt := max now x.tick) (by omega) (by omega) hlen).mono ?_
  rintro e w' ⟨he, d, hs, P2, hbd2, hb2, hd2, hg2⟩
  have hl := hF.least hdu.ok
  rw [hx] at hl
  obtain ⟨d', rfl⟩ := srt_head hs (List.mem_map.2 ⟨x, hxm, rfl⟩) (show x.tick ≤ _ by omega) hl
  exact ⟨he, d', P2, hbd2.trans hbd, hb2.trans hb, hd2, hg.trans hg2⟩
/-- the round's timer stands in its own block g -/
theorem DG.comp {W1 W5 w6 : World} {P5 : Pd} {n2 : Nat} {L2 : List X} {r2 : List T} (hbd : P5.bd = P.bd) (hb : P5.D.b = P.D.b) (hg : Gs P.fp W1 P5.fp W5) (h : DG W5 P5 n2 L2 r2 w6) : DG W1 P n2 L2 r2 w6 := by
  obtain ⟨P', h1, h2, h3, h4⟩ := h
  exact ⟨P', h1.trans hbd, h2.trans hb, h3, hg.trans h4⟩
set_option maxHeartbeats 2000000 in
theorem dfirst_some (h : Du w P now L r) {j : Nat} {x : X} (hF : Fx L j) (hx : L.getD j x0 = x) (tq : Nat) (hle : x.tick ≤ tq) (hlen : L.length < 1000) : Calls Try.prog 16 #[.pointer (some ⟨P.bd, 0, none⟩), .int .u64 tq] w (FirstS w P now L x) := by
  obtain ⟨W1, hW1⟩ : ∃ W1, w.alloc (.cells #[.int .i64 0, .int .i64 0, .int .u64 0] 39) = W1 := ⟨_, rfl⟩
  have hb1 : Below w.heap.size w W1 := by rw [← hW1]; exact (Below.refl _ _).alloc (Nat.le_refl _) _
  have hblk : W1.heap[w.heap.size]? = some (.cells #[.int .i64 0, .int .i64 0, .int .u64 0] 39) := by rw [← hW1]; exact (MapKept.heap_alloc _ _).1
  have hd1 := h.below hb1 (Nat.le_refl _)
  have HLT := Lib.hid (fun x (hx : P.fp x) => h.lt hx)
  have hn := hF.nxt
  rw [hx] at hn
  obtain ⟨zx, hzx⟩ : ∃ z : Int, (x.tick : Int) = z := ⟨_, rfl⟩
  obtain ⟨zt, hzt⟩ : ∃ z : Int, (tq : Int) = z := ⟨_, rfl⟩
  have HNX := Lib.hid (dnext_at hd1 hn (v := zx) (b := true) hzx rfl)
  have hlez : ¬ zt < zx := by omega
  have HB1 := Lib.hid hb1
  have HBLK := Lib.hid hblk
  have HOK := Lib.hid h.ok
  have hg0 : Hid (w.heap.size < W1.heap.size) := Lib.hid (lt_of_some hblk)
  have HFI : Hid (∀ w2, ∀ r2, DG W1 P now L r2 w2 → Calls Try.prog 35 #[.pointer (some ⟨P.bd, 0, none⟩), .int .u64 zx] w2 fun e w' => e = .returned (.tuple #[]) ∧ Mid W1 P now L x w') := Lib.hid (fun w2 r2 hd => by
    have h1 := find_mid hd hF hx h.wh.now_lt hlen
    rw [hzx] at h1
    exact h1)
  have HROW : Hid (∀ w2 y r2, DG W1 P now L (y :: r2) w2 → (fd (L.map nu) y.1).isSome = true → Mid W1 P now L x w2) := Lib.hid (fun w2 y r2 hd hf => mid_of_row hd hf hF hx)
  have HMAY : Hid (May x.kind x.id) := Lib.hid (h.ok.may x (by rw [← hx]; exact getD_mem hF.1))
  have HZX := Lib.hid hzx
  rw [hzt]
  clear h hd1 hb1 hblk hn hzx hzt hle hF hx
  go_enter Try.func16, Try.ntmps16
  go_upto_region 4 with (go_at_call 11; refine HNX.out.mono ?_; rintro e w2 ⟨rfl, r2, hrd, hdg⟩)
  have hdg2 := hdg
  obtain ⟨P', hbd, hb, hd, hg⟩ := hdg2
  have hc1 := hd.c1
  rw [hbd] at hc1
  obtain ⟨p, n, cap, hv, hnr, _⟩ := hd.row
  rw [hv] at hc1
  obtain ⟨b, hbn⟩ : ∃ b, ((n : Int) == 0) = b := ⟨_, rfl⟩
  have HDG := Lib.hid hdg
  have HRD := Lib.hid hrd
  have HNR := Lib.hid hnr
  have HBN := Lib.hid hbn
  clear hdg hrd hnr hd hg hv hbd hb
  go_upto_if 27 with fail
  go_cut [] from 28 to 30 (fun wx => Mid W1 P now L x wx)
  case first =>
    cases b with
    | true =>
      have hn0 : n = 0 := by have := HBN.out; rw [beq_iff_eq] at this; omega
      have hr0 : r2 = [] := List.eq_nil_of_length_eq_zero (HNR.out.trans hn0)
      have hdg := HDG.out
      rw [hr0] at hdg
      have HC := Lib.hid (HFI.out _ _ hdg)
      clear hdg HFI HROW HNX hr0 hn0 HDG HRD
      go_wp2_with (go_at_call 35; refine HC.out.mono ?_)
      rintro e w3 ⟨rfl, hm⟩
      go_wp2
      go_meet
      exact hm
    | false =>
      have hm : Mid W1 P now L x w2 := by
        rcases HRD.out with e | ⟨y2, r4, e, hf⟩
        · exfalso
          have h1 := HNR.out
          have h2 := HBN.out
          rw [e] at h1
          rw [← h1] at h2
          cases h2
        · have hdg := HDG.out
          rw [e] at hdg
          exact HROW.out _ _ _ hdg hf
      clear HFI HROW HNX HDG HRD
      go_wp2
      go_meet
      exact hm
  case rest =>
    obtain ⟨r3, hdg⟩ := hcut
    have hk : wc.heap[w.heap.size]? = some (.cells #[.int .i64 0, .int .i64 0, .int .u64 0] 39) := by
      rw [hdg.block hg0.out (fun hf => by have := HLT.out _ hf; omega)]
      exact HBLK.out
    obtain ⟨P5, hbd, hb, hd, hg⟩ := hdg
    have hc1 := hd.c1
    rw [hbd] at hc1
    obtain ⟨g, off, n, cap, hv, hn0, hncap, hn1000, hnr, hx0, hx1, hx2⟩ := hd.row.head
    rw [hv] at hc1
    have hx2' : wc.cell? ⟨g, off + 2, none⟩ = some (.int .u64 zx) := by rw [← HZX.out]; exact hx2
    obtain ⟨q, hq⟩ : ∃ q, (nu x).1 = q := ⟨_, rfl⟩
    rw [hq] at hx1
    have hltz : (0 : Int) < (n : Int) := by omega
    obtain ⟨g5, hg5⟩ : ∃ g, wc.heap.size = g := ⟨_, rfl⟩
    obtain ⟨W5, hW5⟩ : ∃ W5, wc.alloc (.cells #[.int .i64 0, .int .i64 q, .int .u64 zx] 39) = W5 := ⟨_, rfl⟩
    have hb5 : Below wc.heap.size wc W5 := by rw [← hW5]; exact (Below.refl _ _).alloc (Nat.le_refl _) _
    have hk5 : W5.heap[g5]? = some (.cells #[.int .i64 0, .int .i64 q, .int .u64 zx] 39) := by rw [← hW5, ← hg5]; exact (MapKept.heap_alloc _ _).1
    have hd5 := hd.below hb5 (Nat.le_refl _)
    have hg55 := hg.trans (Gs.below hb5)
    have hoff5 : ¬ P5.fp g5 := fun hf => by have := hd.lt hf; omega
    have hoff0 : ¬ P5.fp w.heap.size := fun hf => by
      rcases hg.own _ hf with h1 | h1
      · have := HLT.out _ h1; omega
      · have := hg0.out; omega
    have hk0 : W5.heap[w.heap.size]? = some (.cells #[.int .i64 0, .int .i64 0, .int .u64 0] 39) := (hb5.block _ (lt_of_some hk)).trans hk
    have HD5 := Lib.hid (DG.start hd5).drew
    have HCELL : Hid (∀ w1 L2 r2, DG W5 P5 (max now x.tick) L2 r2 w1 → w1.cell? ⟨P.bd, 0, none⟩ = some (.pointer (some ⟨P.D.b, 0, none⟩)) ∧ w1.cell? ⟨g5, 1, none⟩ = some (.int .i64 q) ∧ w1.cell? ⟨g5, 2, none⟩ = some (.int .u64 zx) ∧ w1.heap[w.heap.size]? = some (.cells #[.int .i64 0, .int .i64 0, .int .u64 0] 39)) := Lib.hid (fun w1 L2 r2 hd => by
      have h1 := hd.c0
      rw [hbd, hb] at h1
      have h2 := (hd.block (lt_of_some hk5) hoff5).trans hk5
      refine ⟨h1, ?_, ?_, (hd.block (lt_of_some hk0) hoff0).trans hk0⟩ <;> simp only [World.cell?, h2] <;> rfl)
    have HCALL : Hid (∀ w1, DG W5 P5 (max now x.tick) L (nu x :: r3) w1 → Calls Try.prog 33 #[.pointer (some ⟨P.D.b, 0, none⟩), .int .i64 q] w1 fun e w' => e = .returned (.bool (ps L x.kind x.id).isSome) ∧ DG W5 P5 (max now x.tick) (wo L x.kind x.id) (nu x :: r3) w') := Lib.hid (fun w1 hd => by
      have h1 := DG.drop hd x.kind x.id
      rw [hb, show numb x.kind x.id = q from hq] at h1
      exact h1)
    have HEND : Hid (∀ w1 w2, DG W5 P5 (max now x.tick) (wo L x.kind x.id) (nu x :: r3) w1 → Mv (fun y => y = w.heap.size) w1 w2 → DG w P (max now x.tick) (wo L x.kind x.id) (nu x :: r3) w2) := Lib.hid (fun w1 w2 hd hm => DG.out (DG.comp hbd hb hg55 hd) HB1.out HLT.out (Nat.le_refl _) hg0.out hm)
    obtain ⟨hqk, hqi⟩ := quo HMAY.out
    rw [show numb x.kind x.id = q from hq] at hqk hqi
    have hmay := HMAY.out
    unfold May at hmay
    clear hd hg hk hv hnr hx2 hd5 hg55 hoff5 hoff0 hk0 hk5 hb5 HFI HROW HNX hq hbd hb hbn
    go_wp2_with fail
    refine Bz.wp_region (S := Bz.by1 6 (fun b1 w1 => DG W5 P5 (max now x.tick) (cond b1 (wo L x.kind x.id) L) (nu x :: r3) w1)) (by kernel_rfl) ?_ ?_
    · exact Bz.by1_start (by decide) HD5.out
    repeat (first
      | (refine Bz.anyR_value (v := ?_) (by kernel_rfl) (fun m w1 _ hS => Bz.by1_set (by decide) m w1 hS) (by rfl) (fun _ _ _ h => h) (fun m w1 _ hS => ?_) ?_
         rotate_left
         · obtain ⟨q0, q3, q4, q5⟩ := HCELL.out _ _ _ hS
           go_simp
           with_reducible rfl
         (try simp only [Act.put, List.setIfInBounds_toArray, List.set_cons_zero, List.set_cons_succ]))
      | (refine Bz.anyR_not (by kernel_rfl) (fun m w1 _ hS => Bz.by1_set (by decide) m w1 hS) (by rfl) (fun _ _ _ h => h) ?_
         (try simp only [Act.put, List.setIfInBounds_toArray, List.set_cons_zero, List.set_cons_succ]))
      | (refine Bz.anyR_call (v := ?_) (f := ?_) (args := ?_) (by kernel_rfl) (by rfl) (fun _ _ _ h => h) (fun m w1 hm hS => ?_) (fun m w1 hm hS => ?_) ?_
         rotate_left 3
         · go_simp
           (try constructor) <;> with_reducible rfl
         · first
             | (have hS2 : DG W5 P5 (max now x.tick) L (nu x :: r3) w1 := (by have h := hS; unfold Bz.by1 at h; rw [hm.1] at h; exact h); (with_reducible refine ((HCALL.out w1 hS2).mono ?_)); rintro e w' ⟨rfl, hp⟩; refine ⟨?_, Bz.by1_A m w' hp⟩; with_reducible rfl)
         (try simp only [Act.put, List.setIfInBounds_toArray, List.set_cons_zero, List.set_cons_succ]))
      | refine Bz.anyR_done (by kernel_rfl) (fun w1 hS => ?_))
    have hfin := Bz.by1_end (by decide) (by decide) hS
    obtain ⟨q0, q3, q4, q5⟩ := HCELL.out _ _ _ hfin
    have HFIN := Lib.hid hfin
    have hc0 : w1.cell? ⟨w.heap.size, 0, none⟩ = some (.int .i64 0) := by simp only [World.cell?, q5]; rfl
    have hc1 : w1.cell? ⟨w.heap.size, 1, none⟩ = some (.int .i64 0) := by simp only [World.cell?, q5]; rfl
    have hc2 : w1.cell? ⟨w.heap.size, 2, none⟩ = some (.int .u64 0) := by simp only [World.cell?, q5]; rfl
    have hf0 : w1.frozen? ⟨w.heap.size, 0, none⟩ = false := by simp [World.frozen?, q5]
    have hf1 : w1.frozen? ⟨w.heap.size, 1, none⟩ = false := by simp [World.frozen?, q5]
    have hf2 : w1.frozen? ⟨w.heap.size, 2, none⟩ = false := by simp [World.frozen?, q5]
    clear hS hfin q5 HCELL HCALL
    go_wp2
    refine bodyPost_ret (v := .tuple #[xv x, .bool true]) ?_ rfl ?_
    · rw [results_cell_tmp rfl]
      go_simp
      unfold xv
      rw [HZX.out]
    · exact ⟨rfl, _, HEND.out _ _ HFIN.out (mv3 _ _ _ _ _ _ _ _)⟩
end
end Go.Proofs.Ytlhajdmleefkiaa
