/-
  CONTRACTS OF LAYER 8 (wheel), part I: the page's Put, Drop.
-/
import Derived.Test.YtjppbmkoblbfeaaWheelH
namespace Go.Proofs.Ytjppbmkoblbfeaa
open Go.RowKit Wl Bt
set_option linter.unusedVariables false

def rfp (br : Nat) (v : Value) (x : Nat) : Prop := x = br ∨ v.ownBlock = some x
/-- the page's wheel in memory: its two cells, its row of timers (from block B on) -/
structure RW (w : World) (B br : Nat) (v : Value) (now : Nat) (L : List T) : Prop where
  kind : ∃ cs, w.heap[br]? = some (.cells cs 30)
  c0 : w.cell? ⟨br, 0, none⟩ = some (.int .u64 now)
  c1 : w.cell? ⟨br, 1, none⟩ = some v
  own : OwnT w B v L
  keys : Ks L
  len : L.length ≤ 1000
section
variable {w w' : World} {B br now : Nat} {v : Value} {L : List T}
theorem RW.lt (h : RW w B br v now L) : br < w.heap.size := by
  obtain ⟨cs, e⟩ := h.kind
  exact (Array.getElem?_eq_some_iff.1 e).1
theorem RW.ne (h : RW w B br v now L) : v.ownBlock ≠ some br := by
  intro e
  obtain ⟨_, _, cs, e1⟩ := h.own.kind e
  obtain ⟨cs2, e2⟩ := h.kind
  rw [e1] at e2
  injection e2 with e2
  injection e2 with _ e2
  exact absurd e2 (by decide)
theorem RW.same (h : RW w B br v now L) (hb : ∀ x, rfp br v x → w'.heap[x]? = w.heap[x]?) : RW w' B br v now L where
  kind := by rw [hb _ (Or.inl rfl)]; exact h.kind
  c0 := by rw [World.cell?_of_block (hb _ (Or.inl rfl))]; exact h.c0
  c1 := by rw [World.cell?_of_block (hb _ (Or.inl rfl))]; exact h.c1
  own := h.own.block (fun g e => hb g (Or.inr e))
  keys := h.keys
  len := h.len
theorem RW.lt_fp (h : RW w B br v now L) {x : Nat} (hx : rfp br v x) : x < w.heap.size := by
  rcases hx with rfl | hx
  · exact h.lt
  · exact (h.own.kind hx).2.1
theorem RW.below {B' : Nat} (h : RW w B br v now L) (hb : Below B' w w') (hB : w.heap.size ≤ B') : RW w' B br v now L :=
  h.same fun x hx => hb.block x (Nat.lt_of_lt_of_le (h.lt_fp hx) hB)
theorem RW.mv {S : Nat → Prop} (h : RW w B br v now L) (hm : Mv S w w') (hs : ∀ x, rfp br v x → ¬ S x) : RW w' B br v now L :=
  h.same fun x hx => hm.block x (h.lt_fp hx) (hs x hx)
theorem RW.frozen (h : RW w B br v now L) (o : Nat) : w.frozen? ⟨br, o, none⟩ = false := by
  obtain ⟨cs, h1⟩ := h.kind
  simp [World.frozen?, h1]
/-- another row of timers is laid in -/
theorem RW.lay (h : RW w B br v now L) {v' : Value} {L' : List T} (ho : OwnT w B v' L') (hk : Ks L') (hl : L'.length ≤ 1000) : RW (w.setCell ⟨br, 1, none⟩ v') B br v' now L' where
  kind := kind_setCell _ _ h.kind
  c0 := (cset_other (by omega)).trans h.c0
  c1 := cset_same h.c1
  own := ho.block (fun g e => Below.heap_setCell _ _ _ _ (fun e2 => by
    obtain ⟨_, _, cs, e1⟩ := ho.kind e
    obtain ⟨cs2, e3⟩ := h.kind
    have e4 : g = br := e2
    rw [e4, e3] at e1
    injection e1 with e1
    injection e1 with _ e1
    exact absurd e1 (by decide)))
  keys := hk
  len := hl
end
def RGoes (w : World) (B br : Nat) (v : Value) (now : Nat) (L : List T) (w' : World) : Prop := ∃ v', RW w' B br v' now L ∧ Mv (rfp br v) w w'
def RDid (w : World) (B br : Nat) (v : Value) (now : Nat) (r : Int × List T) (e : Ending) (w' : World) : Prop := e = .returned (.int .i64 r.1) ∧ RGoes w B br v now r.2 w'
set_option maxHeartbeats 1000000 in
theorem rput_any {w : World} {B br now : Nat} {v : Value} {L : List T} (h : RW w B br v now L) (hB : B ≤ w.heap.size) (k : Int) (a : Nat) (hk : Mi.Wf k) (hlen : L.length < 1000) :
    Calls Try.prog 10 #[.pointer (some ⟨br, 0, none⟩), .int .i64 k, .int .u64 a] w (RDid w B br v now (pt L k a)) := by
  obtain ⟨za, hza⟩ : ∃ z : Int, (a : Int) = z := ⟨_, rfl⟩
  have HZ := Lib.hid hza
  rw [hza]
  have HH := Lib.hid h
  have hkb := i64_bounds hk
  obtain ⟨p, cap, hv, hmx, htc⟩ := h.own.view
  have hc0 := h.c0
  have hc1 := h.c1
  obtain ⟨n, hn⟩ : ∃ n, L.length = n := ⟨_, rfl⟩
  rw [hn] at hv hlen
  obtain ⟨zn, hzn⟩ : ∃ z : Int, (now : Int) = z := ⟨_, rfl⟩
  rw [hzn] at hc0
  have hat := fun W hW => rat_any zn p n cap L k W hn (by omega) hW
  have HAT := Lib.hid hat
  have HTC := Lib.hid htc
  have HN := Lib.hid hn
  have HV := Lib.hid hv
  rw [hv] at hc1
  clear h hza hzn hn hat htc hv
  by_cases h0 : k < 0
  · have he : pt L k a = (1, L) := by unfold pt; rw [if_pos h0]
    rw [he]
    clear he hkb
    go_enter Try.func10, Try.ntmps10
    go_wp2
    go_ret
    exact ⟨rfl, v, HH.out, Mv.refl _ _⟩
  · have h1 : ¬ k < 0 := h0
    by_cases hf : (fd L k).isSome = true
    · have he : pt L k a = (8, L) := by unfold pt; rw [if_neg h0, if_pos hf]
      rw [he]
      have HF := Lib.hid hf
      rw [hf] at HAT
      clear he hf
      go_enter Try.func10, Try.ntmps10
      go_wp2_with (go_at_call 23; refine (HAT.out _ HTC.out).mono ?_)
      rintro e w1 rfl hb
      go_wp2
      go_ret
      exact ⟨rfl, v, HH.out.below hb (Nat.le_refl _), Mv.of_below hb⟩
    · have hf2 : fd L k = none := by
        cases hx : fd L k with
        | none => rfl
        | some v => rw [hx] at hf; exact absurd rfl hf
      have he : pt L k a = (0, L ++ [(k, a)]) := by unfold pt; rw [if_neg h0, if_neg hf]
      rw [he]
      rw [hf2] at HAT
      simp only [Option.isSome_none, Option.getD_none] at HAT
      have HF := Lib.hid hf2
      clear he hf hf2
      obtain ⟨i0, hinf, hz0, hz1, hz2⟩ := info_parts info_T
      have HI := Lib.hid hinf
      have HZ0 := Lib.hid hz0
      have HZ1 := Lib.hid hz1
      have HZ2 := Lib.hid hz2
      clear hinf hz0 hz1 hz2
      go_enter Try.func10, Try.ntmps10
      go_wp2_with (go_at_call 23; refine (HAT.out _ HTC.out).mono ?_)
      rintro e w1 rfl hb
      have hW1 := HH.out.below hb (Nat.le_refl _)
      have hd1 := hW1.c1
      rw [HV.out] at hd1
      have hown := hW1.own
      unfold OwnT at hown
      rw [HN.out, HV.out] at hown
      have hB1 : B ≤ w1.heap.size := Nat.le_trans hB hb.size
      have HB1 := Lib.hid hb
      have HW1 := Lib.hid hW1
      clear hb hW1 hc0 hc1
      go_wp2_with (at_builtin; refine wpList_append_own _ rfl _ _ 28 rfl B 51 i0 zT 3 24 Try.underlying28 HI.out HZ0.out HZ1.out HZ2.out rfl (by decide) _ _ _ rfl (World.ownsRow.alloc hown _) ⟨w1.heap.size, 0, none⟩ 1 1 [.int .i64 0, .int .i64 k, .int .u64 za] rfl rfl (tcells3 w1 _ _ _) (one3 _ _) (by unfold maxLen; omega) (by omega) (by simp; omega) ?_)
      intro v3 w3 hown3 hgrow hnil
      have hown4 : OwnT w3 B v3 (L ++ [(k, a)]) := by
        unfold OwnT
        rw [tcells_app, List.length_append, HN.out]
        have e : tcells [(k, a)] = [.int .i64 0, .int .i64 k, .int .u64 za] := by rw [← HZ.out]; rfl
        rw [e]
        exact hown3
      obtain ⟨p3, c3, hv3, _, _⟩ := hown4.view
      obtain ⟨n3, hn3⟩ : ∃ n3, (L ++ [(k, a)]).length = n3 := ⟨_, rfl⟩
      rw [hn3] at hv3
      subst hv3
      clear hn3
      have hWa := HW1.out.mv (S := fun _ => False) (Mv.alloc _ _ (.cells #[.int .i64 0, .int .i64 k, .int .u64 za] 51)) (fun _ _ e => e)
      rw [← HV.out] at hgrow
      have hbr : w3.heap[br]? = (w1.alloc (.cells #[.int .i64 0, .int .i64 k, .int .u64 za] 51)).heap[br]? := hgrow.block br hWa.lt (fun e => hWa.ne e.symm)
      have hfz : w3.frozen? ⟨br, 1, none⟩ = false := by rw [World.frozen?_of_block hbr]; exact hWa.frozen 1
      have hd3 : w3.cell? ⟨br, 1, none⟩ = some (.slice p n cap) := by rw [World.cell?_of_block hbr, hWa.c1, HV.out]
      have hmv3 : Mv (rfp br v) w w3 := ((Mv.of_below HB1.out).trans (Mv.alloc (rfp br v) _ _) (fun _ _ e => e)).trans (Mv.of_grown (S := rfp br v) hgrow (fun x e _ => Or.inr e)) (fun _ _ e => e)
      have HRW : Hid (RW (w3.setCell ⟨br, 1, none⟩ (.slice p3 n3 c3)) B br (.slice p3 n3 c3) now (L ++ [(k, a)]) ∧ Mv (rfp br v) w (w3.setCell ⟨br, 1, none⟩ (.slice p3 n3 c3))) := Lib.hid ⟨{
        kind := kind_setCell _ _ (by rw [hbr]; exact hWa.kind)
        c0 := (cset_other (by omega)).trans (by rw [World.cell?_of_block hbr]; exact hWa.c0)
        c1 := cset_same hd3
        own := hown4.block (fun g e => Below.heap_setCell _ _ _ _ (fun e2 => by
          obtain ⟨_, _, cs, e1⟩ := hown4.kind e
          obtain ⟨cs2, e3⟩ := hWa.kind
          have e4 : g = br := e2
          rw [e4, hbr, e3] at e1
          injection e1 with e1
          injection e1 with _ e1
          exact absurd e1 (by decide)))
        keys := HW1.out.keys.snoc HF.out a
        len := by rw [List.length_append, HN.out]; simp only [List.length_cons, List.length_nil]; omega }, hmv3.trans (Mv.setCell (S := rfp br v) _ _ _ (Or.inl rfl)) (fun _ _ e => e)⟩
      clear hnil hown3 hown4 hgrow hWa hbr hmv3 hown hd1
      go_wp2
      go_ret
      exact ⟨rfl, _, HRW.out.1, HRW.out.2⟩
def RDropped (w : World) (B br : Nat) (v : Value) (now : Nat) (L : List T) (k : Int) (e : Ending) (w' : World) : Prop := e = .returned (.bool (fd L k).isSome) ∧ ∃ v', RW w' B br v' now (drp L k) ∧ Mv (fun x => x = br) w w' ∧ ∀ x, v'.ownBlock = some x → w.heap.size ≤ x
theorem drp_take {L : List T} {j : Nat} (h : j < L.length) (k : Int) : drp (L.take (j + 1)) k = if (L.getD j t0).1 = k then drp (L.take j) k else drp (L.take j) k ++ [L.getD j t0] := by
  rw [take_snocT h]
  unfold drp
  rw [List.filter_append]
  by_cases e : (L.getD j t0).1 = k
  · rw [if_pos e, List.filter_cons_of_neg (by simpa using e)]
    simp
  · rw [if_neg e, List.filter_cons_of_pos (by simpa using e)]
    simp
theorem drp_le (L : List T) (j : Nat) (k : Int) : (drp (L.take j) k).length ≤ L.length := by
  unfold drp
  refine Nat.le_trans (List.length_filter_le _ _) ?_
  rw [List.length_take]
  omega
set_option maxHeartbeats 2000000 in
theorem rdrop_any {w : World} {B br now : Nat} {v : Value} {L : List T} (h : RW w B br v now L) (hB : B ≤ w.heap.size) (k : Int) :
    Calls Try.prog 12 #[.pointer (some ⟨br, 0, none⟩), .int .i64 k] w (RDropped w B br v now L k) := by
  have HH := Lib.hid h
  obtain ⟨p, cap, hv, hmx, htc⟩ := h.own.view
  obtain ⟨n, hn⟩ : ∃ n, L.length = n := ⟨_, rfl⟩
  rw [hn] at hv
  have hn2 : n ≤ 1000 := by have := h.len; omega
  have HTC := Lib.hid htc
  have HN := Lib.hid hn
  have HV := Lib.hid hv
  obtain ⟨i0, hinf, hz0, hz1, hz2⟩ := info_parts info_T
  have HI := Lib.hid hinf
  have HZ0 := Lib.hid hz0
  have HZ1 := Lib.hid hz1
  have HZ2 := Lib.hid hz2
  obtain ⟨W1, hW1⟩ : ∃ W1, w.alloc (.cells #[] 51) = W1 := ⟨_, rfl⟩
  have hown0 : Hid (OwnT W1 w.heap.size (.slice (some ⟨w.heap.size, 0, none⟩) 0 0) []) := Lib.hid (by
    rw [← hW1]
    exact World.ownsRow_made w #[] 0 (Nat.le_refl _) (by decide) rfl)
  have hb1 : Hid (Below w.heap.size w W1) := Lib.hid (by rw [← hW1]; exact (Below.refl _ _).alloc (Nat.le_refl _) _)
  clear hinf hz0 hz1 hz2 h hn htc hv
  go_enter Try.func12, Try.ntmps12
  go_wp2
  go_loopw [5, 6] (fun l i wr => ∃ j : Nat, i = .int .i64 j ∧ j ≤ n ∧ Hid (OwnT wr w.heap.size l (drp (L.take j) k)) ∧ Hid (Below w.heap.size w wr)) (fun _ i _ => n - (intOf i).toNat)
  case atStart => exact ⟨0, rfl, Nat.zero_le _, hown0, hb1⟩
  case round =>
    obtain ⟨j, rfl, hj, ho, hb⟩ := hrel
    have hWr := HH.out.below hb.out (Nat.le_refl _)
    have hc1 := hWr.c1
    rw [HV.out] at hc1
    have HWr := Lib.hid hWr
    by_cases hlt : j < n
    · obtain ⟨g, rfl, hg, hx0, hx1, hx2⟩ := (HTC.out.below hb.out (Nat.le_refl _)) j (by rw [HN.out]; exact hlt)
      have hd := drp_take (L := L) (j := j) (by rw [HN.out]; exact hlt) k
      obtain ⟨⟨q1, q2⟩, hq⟩ : ∃ q, L.getD j t0 = q := ⟨_, rfl⟩
      rw [hq] at hx1 hx2 hd
      simp only at hx1 hx2 hd
      obtain ⟨z2, hz2⟩ : ∃ z : Int, (q2 : Int) = z := ⟨_, rfl⟩
      rw [hz2] at hx2
      have HZ := Lib.hid hz2
      have hltz : (j : Int) < (n : Int) := by omega
      by_cases e : q1 = k
      · subst e
        rw [if_pos rfl] at hd
        have HO : Hid (OwnT wr w.heap.size u5 (drp (L.take (j + 1)) q1)) := Lib.hid (by rw [hd]; exact ho.out)
        have hneq : (q1 != q1) = false := by simp
        clear hd hq hz2 ho hWr
        go_wp2
        go_roundw
        case rel => exact ⟨j + 1, by go_num, hlt, HO, hb⟩
        case measure => simp [intOf]; omega
      · rw [if_neg e] at hd
        have hneq : (q1 != k) = true := by simpa using e
        have hown := ho.out
        have hle := drp_le L j k
        obtain ⟨m, hm⟩ : ∃ m, (drp (L.take j) k).length = m := ⟨_, rfl⟩
        have HM := Lib.hid hm
        have HD := Lib.hid hd
        have hsz := hb.out.size
        unfold OwnT at hown
        rw [hm, HN.out] at hle
        rw [hm] at hown
        clear hd hq hz2 hWr hm e
        go_wp2_with (at_builtin; refine wpList_append_own _ rfl _ _ 28 rfl w.heap.size 51 i0 zT 3 24 Try.underlying28 HI.out HZ0.out HZ1.out HZ2.out rfl (by decide) _ _ _ rfl (World.ownsRow.alloc hown _) ⟨wr.heap.size, 0, none⟩ 1 1 [.int .i64 0, .int .i64 q1, .int .u64 z2] rfl rfl (tcells3 wr _ _ _) (one3 _ _) (by unfold maxLen; omega) (by omega) (by simp; omega) ?_)
        intro v3 w3 hown3 hgrow hnil
        have hown4 : OwnT w3 w.heap.size v3 (drp (L.take (j + 1)) k) := by
          unfold OwnT
          rw [HD.out, tcells_app, List.length_append, HM.out]
          have e : tcells [(q1, q2)] = [.int .i64 0, .int .i64 q1, .int .u64 z2] := by rw [← HZ.out]; rfl
          rw [e]
          exact hown3
        have HO := Lib.hid hown4
        have HB3 := Lib.hid ((hb.out.alloc hb.out.size _).grown hgrow (by simp; omega) (fun x e => (ho.out.kind e).1))
        clear hown3 hgrow hnil hown4 hown hx0 hx1 hx2 hc1
        go_wp2
        go_roundw
        case rel => exact ⟨j + 1, by go_num, hlt, HO, HB3⟩
        case measure => simp [intOf]; omega
    · have e1 : j = n := by omega
      subst e1
      have hfin := ho.out
      rw [List.take_of_length_le (by rw [HN.out]; exact Nat.le_refl _)] at hfin
      obtain ⟨p5, c5, hv5, _, _⟩ := hfin.view
      obtain ⟨m5, hm5⟩ : ∃ m, (drp L k).length = m := ⟨_, rfl⟩
      rw [hm5] at hv5
      subst hv5
      have HM5 := Lib.hid hm5
      have HFIN := Lib.hid hfin
      have hfz := hWr.frozen 1
      have hm5le : m5 ≤ j := by
        rw [← hm5]
        have := drp_le L j k
        rw [List.take_of_length_le (by rw [HN.out]; exact Nat.le_refl _), HN.out] at this
        exact this
      have hlay := hWr.lay (hfin.mono hB) (HH.out.keys.filter _) (by rw [hm5]; omega)
      have HL : Hid (RW (wr.setCell ⟨br, 1, none⟩ (.slice p5 m5 c5)) B br (.slice p5 m5 c5) now (drp L k) ∧ Mv (fun x => x = br) w (wr.setCell ⟨br, 1, none⟩ (.slice p5 m5 c5))) := Lib.hid ⟨hlay, (Mv.of_below hb.out).trans (Mv.setCell (S := fun x => x = br) _ _ _ rfl) (fun _ _ e => e)⟩
      have HFR : Hid (∀ x, (Value.slice p5 m5 c5).ownBlock = some x → w.heap.size ≤ x) := Lib.hid (fun x e => (hfin.kind e).1)
      cases hf : fd L k with
      | none =>
        have e2 : m5 = j := by rw [← HM5.out, drp_none hf, HN.out]
        have HF := Lib.hid hf
        subst e2
        clear hm5 hfin hlay hWr hf ho hb HM5 HN
        go_wp2
        go_ret
        refine ⟨?_, _, HL.out.1, HL.out.2, HFR.out⟩
        rw [HF.out]
        rfl
      | some a =>
        have e2 := drp_len HH.out.keys hf
        rw [HM5.out, HN.out] at e2
        have e3 : (m5 : Int) < (j : Int) := by omega
        have HF := Lib.hid hf
        clear hm5 hfin hlay hWr hf ho hb HM5 HN e2
        go_wp2
        go_ret
        refine ⟨?_, _, HL.out.1, HL.out.2, HFR.out⟩
        rw [HF.out]
        rfl
end Go.Proofs.Ytjppbmkoblbfeaa
