/-
  THE LAW HistoryActs. The law HistoryActs answers true at every room, every slice of runs and everything that is asked: behind each run the table tells what the page's does, and asking changes nothing. Conditions: none (beyond 200 runs or 20 limits, and at a room below 1, the law itself asks less).
-/
import Derived.Test.YtbkbopaoeehfkaaHyJ
import Derived.Test.YtbkbopaoeehfkaaFrame
namespace Go.Proofs.Ytbkbopaoeehfkaa
open Go.RowKit Lr Ft Hy Bt
open Go.ChangeShapes Go.WideShapes Go.ChangeAt
set_option linter.unusedVariables false
namespace Hy
/-- both tables, and what is asked, made since w0 -/
def PH (w0 : World) (H : Nat) (D : Td) (br b5 : Nat) (cs : Array Value) (room : Nat) (L P : List KV) (w : World) : Prop :=
  OHD w0 H D room L w ∧ (∃ v, RPh w br v room P) ∧ w0.heap.size ≤ br ∧ w.heap[b5]? = some (.cells cs 25)
section
variable {w0 w w' : World} {H br b5 room : Nat} {D : Td} {cs : Array Value} {L P : List KV}
theorem PH.below (h : PH w0 H D br b5 cs room L P w) (hb : Below w.heap.size w w') : PH w0 H D br b5 cs room L P w' := by
  obtain ⟨h1, ⟨v, h2⟩, h3, h4⟩ := h
  exact ⟨h1.below hb, ⟨v, h2.below hb⟩, h3, (hb.block _ (Array.getElem?_eq_some_iff.1 h4).1).trans h4⟩
theorem PH.obs (h : PH w0 H D br b5 cs room L P w) {k : ByteArray} (hk : Ms.Wf k) (x : Nat) (hx : x < 18446744073709551616) (hfit : L.length ≤ room) (hlen : L.length < 1000) {z : Int} (hz : (x : Int) = z) :
    Calls Try.prog 8 #[.pointer (some ⟨H, 0, none⟩), .string k, .int .u64 z] w fun e w' => e = .returned (.tuple #[]) ∧ PH w0 H D br b5 cs room (obs room L k x) P w' := by
  subst hz
  obtain ⟨⟨ns, h1, h2, h3, h4, h5⟩, ⟨v, r1⟩, r2, r3⟩ := h
  have h9 := hy_obs h1 hk x hx (by rw [← kvs_len, h2]; exact hfit) (by rw [← kvs_len, h2]; exact hlen)
  rw [h2] at h9
  refine h9.mono ?_
  rintro e w' ⟨he, hg⟩
  have hg2 := hg
  obtain ⟨ns', q1, q2, q3⟩ := hg2
  have hsz := q3.mv.size
  refine ⟨he, OHD.turn h1 h3 h4 h5 hg, ⟨v, r1.same hsz (q3.mv.block br r1.kind.lt (Hy.not_fp h1.tb r1.kind (by decide) (by decide))) (fun y hy => q3.mv.block y hy.lt (Hy.not_fp h1.tb hy (by decide) (by decide)))⟩, r2, ?_⟩
  rw [q3.mv.block b5 (Array.getElem?_eq_some_iff.1 r3).1 (Hy.not_fp h1.tb ⟨_, r3⟩ (by decide) (by decide))]
  exact r3
theorem PH.robs (h : PH w0 H D br b5 cs room L P w) (k : ByteArray) (x : Nat) (hx : x < 18446744073709551616) (hlen : P.length ≤ 900) {z : Int} (hz : (x : Int) = z) :
    Calls Try.prog 9 #[.pointer (some ⟨br, 0, none⟩), .string k, .int .u64 z] w fun e w' => e = .returned (.tuple #[]) ∧ PH w0 H D br b5 cs room L (Hy.robs room P k (Hs.ad (hst P k) x)) w' := by
  subst hz
  obtain ⟨⟨ns, h1, h2, h3, h4, h5⟩, ⟨v, r1⟩, r2, r3⟩ := h
  refine (rh_obs r1 k x hx hlen).mono ?_
  rintro e w' ⟨he, hv, hm⟩
  refine ⟨he, ⟨ns, h1.mv hm (h1.kind.ne r1.kind (by decide)) (fun y hy e => Hy.not_fp h1.tb r1.kind (by decide) (by decide) (e ▸ hy)), h2, h3, h4, h5.trans (hm.below h5.size (fun y hy e => by omega))⟩, hv, r2, ?_⟩
  have hk5 : Kd w b5 25 := ⟨_, r3⟩
  rw [hm.block b5 hk5.lt (hk5.ne r1.kind (by decide))]
  exact r3
theorem PH.bl (h : PH w0 H D br b5 cs room L P w) : Below w0.heap.size w0 w := h.1.bl
end
/-- both have the same -/
def PHe (w0 : World) (H : Nat) (D : Td) (br b5 : Nat) (cs : Array Value) (room : Nat) (L : List KV) (w : World) : Prop := PH w0 H D br b5 cs room L L.reverse w
theorem obs_rev {L : List KV} {room : Nat} (h : Ks L) (hr : 0 < room) (hl : L.length ≤ room) (k : ByteArray) (x : Nat) : Hy.robs room L.reverse k (Hs.ad (hst L.reverse k) x) = (obs room L k x).reverse := by
  rw [hst_rev h, robs_rev hr hl]
  rfl
def askc (k : ByteArray) (p : Option Addr) (n c : Nat) (q : Int) : Array Value := #[.string k, .slice p n c, .int .i64 q]
theorem PHe.look {w0 w : World} {H br b5 room nl cl : Nat} {D : Td} {L : List KV} {k : ByteArray} {pl : Option Addr} {q z : Int} {ls : List Int} (h : PHe w0 H D br b5 (askc k pl nl cl q) room L w) (hlen : L.length ≤ 900) (hz : (room : Int) = z) (hk : Ms.Wf k) (hl : ls.length = nl) (hl2 : nl ≤ 20) (hls : I64s ls) (hin : LIs w pl ls) :
    ∃ pr m capr, w.cell? ⟨br, 0, none⟩ = some (.int .i64 z) ∧ w.cell? ⟨br, 1, none⟩ = some (.slice pr m capr) ∧ w.cell? ⟨b5, 0, none⟩ = some (.string k) ∧ w.cell? ⟨b5, 1, none⟩ = some (.slice pl nl cl) ∧ w.cell? ⟨b5, 2, none⟩ = some (.int .i64 q) ∧
      Hid (Calls Try.prog 10 #[.pointer (some ⟨H, 0, none⟩), .agg #[.int .i64 z, .slice pr m capr], .agg #[.string k, .slice pl nl cl, .int .i64 q]] w fun e w' => e = .returned (.bool true) ∧ PHe w0 H D br b5 (askc k pl nl cl q) room L w') := by
  have h9 := h
  obtain ⟨h1, ⟨v, h2⟩, h3, h4⟩ := h9
  obtain ⟨pr, capr, hv, hrc, _⟩ := h2.own
  have hc1 := h2.c1
  have hc0 := h2.c0
  rw [hz] at hc0
  rw [hv] at hc1
  unfold askc at h4
  refine ⟨pr, L.reverse.length, capr, hc0, hc1, ?_, ?_, ?_, Lib.hid ?_⟩
  · simp only [World.cell?, h4]; rfl
  · simp only [World.cell?, h4]; rfl
  · simp only [World.cell?, h4]; rfl
  · have hs := same_x (w0 := w0) (x := ⟨H, D, room, L, z, pr, capr, L.reverse.length, k, pl, nl, cl, ls, q⟩) (w := w) ⟨by rw [List.length_reverse], by show L.reverse.length ≤ 900; rw [List.length_reverse]; exact hlen, h1.keys, hk, hl, by show nl ≤ 1000; omega, hls⟩ h1 hrc hin
    exact hs.mono fun e w' ⟨he, hb⟩ => ⟨he, PH.below h hb⟩
end Hy
namespace historyActs
set_option maxHeartbeats 1000000 in
theorem walk_none (room : Int) (p : Option Addr) (n cap : Nat) (k : ByteArray) (pl : Option Addr) (nl cl : Nat) (q : Int) (w : World) (h : room < 1) (hn : n ≤ 9223372036854775807) (hnl : nl ≤ 9223372036854775807) :
    Calls Try.prog 3 #[.int .i64 room, .slice p n cap, .agg #[.string k, .slice pl nl cl, .int .i64 q]] w fun e w' => e = .returned (.bool true) ∧ Below w.heap.size w w' := by
  have hba := (Below.refl w.heap.size w).alloc (Nat.le_refl _) (.cells #[.string k, .slice pl nl cl, .int .i64 q] 25)
  have HBA := Lib.hid hba
  have HN := Lib.hid (fun w => hy_small h w)
  have hnr : ¬ 1 ≤ room := by omega
  clear hba
  by_cases h1 : 200 < n
  all_goals by_cases h2 : 20 < nl
  all_goals
    go_enter Try.func3, Try.ntmps3
    go_wp2_with (first
      | (go_at_call 6; refine (HN.out _).mono ?_; rintro e w' ⟨rfl, hw⟩; rw [hw]; clear hw)
      | (go_at_call 7; refine (hy_live _).mono ?_))
    first | rintro e w8 rfl hb8 | rintro e w8 ⟨rfl, hb8⟩
    have HB8 : Hid (Below w.heap.size w w8) := Lib.hid (by first | exact below_next HBA.out hb8 | exact HBA.out.trans (hb8.mono (by omega)) | exact HBA.out.trans (hb8.mono (by simp)))
    clear hb8
    go_wp2
    go_ret
    exact ⟨rfl, HB8.out⟩
set_option maxHeartbeats 1000000 in
theorem walk_big (room : Nat) (p : Option Addr) (n cap : Nat) (k : ByteArray) (pl : Option Addr) (nl cl : Nat) (q : Int) (w : World) (hr : 0 < room) (h : 200 < n ∨ 20 < nl) (hn : n ≤ 9223372036854775807) (hnl : nl ≤ 9223372036854775807) :
    Calls Try.prog 3 #[.int .i64 room, .slice p n cap, .agg #[.string k, .slice pl nl cl, .int .i64 q]] w fun e w' => e = .returned (.bool true) ∧ Below w.heap.size w w' := by
  have hba := (Below.refl w.heap.size w).alloc (Nat.le_refl _) (.cells #[.string k, .slice pl nl cl, .int .i64 q] 25)
  have HBA := Lib.hid hba
  have h5 := (MapKept.heap_alloc w (.cells #[.string k, .slice pl nl cl, .int .i64 q] 25)).1
  have HN := Lib.hid (fun w => oh_new room w hr)
  obtain ⟨z, hz⟩ : ∃ z : Int, (room : Int) = z := ⟨_, rfl⟩
  have hz1 : 1 ≤ z := by omega
  rw [hz] at HN ⊢
  have H5 := Lib.hid h5
  clear hz hba h5 hr
  by_cases h1 : 200 < n
  · clear h
    go_enter Try.func3, Try.ntmps3
    go_wp2_with (go_at_call 6; refine (HN.out _).mono ?_)
    rintro e w1 ⟨H, D, rfl, o1⟩
    have HB1 := Lib.hid (below_next HBA.out o1.bl)
    clear o1
    go_wp2_with (go_at_call 7; refine (hy_live _).mono ?_)
    first | rintro e w8 rfl hb8 | rintro e w8 ⟨rfl, hb8⟩
    have HB8 := Lib.hid (below_next HB1.out hb8)
    clear hb8
    go_wp2
    go_ret
    exact ⟨rfl, HB8.out⟩
  · have h2 : 20 < nl := h.resolve_left h1
    clear h
    go_enter Try.func3, Try.ntmps3
    go_wp2_with (go_at_call 6; refine (HN.out _).mono ?_)
    rintro e w1 ⟨H, D, rfl, o1⟩
    have h51 := (o1.bl.block w.heap.size (by simp)).trans H5.out
    have q1 : w1.cell? ⟨w.heap.size, 1, none⟩ = some (.slice pl nl cl) := by simp only [World.cell?, h51]; rfl
    have HB1 := Lib.hid (below_next HBA.out o1.bl)
    clear o1 h51
    go_wp2_with (go_at_call 7; refine (hy_live _).mono ?_)
    first | rintro e w8 rfl hb8 | rintro e w8 ⟨rfl, hb8⟩
    have HB8 := Lib.hid (below_next HB1.out hb8)
    clear hb8
    go_wp2
    go_ret
    exact ⟨rfl, HB8.out⟩
set_option maxHeartbeats 4000000 in
set_option maxRecDepth 20000 in
theorem walk_small (room : Nat) (hr : 0 < room) (p : Option Addr) (n cap : Nat) (l : List R13) (k : ByteArray) (pl : Option Addr) (nl cl : Nat) (ls : List Int) (q : Int) (w : World) (hn : l.length = n) (hn2 : n ≤ 200) (hro : ROk l) (hri : RIn w p l) (hk : Ms.Wf k) (hl : ls.length = nl) (hl2 : nl ≤ 20) (hls : I64s ls) (hin : LIs w pl ls) :
    Calls Try.prog 3 #[.int .i64 room, .slice p n cap, .agg #[.string k, .slice pl nl cl, .int .i64 q]] w fun e w' => e = .returned (.bool true) ∧ Below w.heap.size w w' := by
  have HN := Lib.hid hn
  have HRO := Lib.hid hro
  have HRI := Lib.hid hri
  have HIN := Lib.hid hin
  have HLS := Lib.hid hls
  have HL := Lib.hid hl
  have HK := Lib.hid hk
  have HR0 := Lib.hid hr
  obtain ⟨W1, hW1⟩ : ∃ W, w.alloc (.cells #[.string k, .slice pl nl cl, .int .i64 q] 25) = W := ⟨_, rfl⟩
  have hb1 : Below w.heap.size w W1 := by rw [← hW1]; exact (Below.refl _ _).alloc (Nat.le_refl _) _
  have h5 : W1.heap[w.heap.size]? = some (.cells (askc k pl nl cl q) 25) := by rw [← hW1]; exact (MapKept.heap_alloc _ _).1
  have hNW : Hid (Calls Try.prog 6 #[.int .i64 room] (w.alloc (.cells #[.string k, .slice pl nl cl, .int .i64 q] 25)) (OMadeH W1 room)) := Lib.hid (by rw [hW1]; exact oh_new room W1 hr)
  obtain ⟨z, hz⟩ : ∃ z : Int, (room : Int) = z := ⟨_, rfl⟩
  have hz1 : ¬ z < 1 := by omega
  rw [hz] at hNW ⊢
  have HZ := Lib.hid hz
  have HB1 := Lib.hid hb1
  have H5 := Lib.hid h5
  have hdec : decide ((200 : Int) < (n : Int)) = false := by rw [decide_eq_false_iff_not]; omega
  have hdec2 : decide ((20 : Int) < (nl : Int)) = false := by rw [decide_eq_false_iff_not]; omega
  have hdec3 : decide (z < (1 : Int)) = false := by rw [decide_eq_false_iff_not]; omega
  clear hn hro hri hin hls hl hk hr hz hb1 h5 hW1
  go_enter Try.func3, Try.ntmps3
  go_wp2_with (go_at_call 6; refine hNW.out.mono ?_)
  rintro e w2 ⟨H, D, rfl, o2⟩
  have h52 := (o2.bl.block w.heap.size (Array.getElem?_eq_some_iff.1 H5.out).1).trans H5.out
  have q1 : w2.cell? ⟨w.heap.size, 1, none⟩ = some (.slice pl nl cl) := by simp only [World.cell?, h52]; rfl
  have HO2 := Lib.hid o2
  have H52 := Lib.hid h52
  clear o2 h52 hNW
  have hst : PHe W1 H D w2.heap.size w.heap.size (askc k pl nl cl q) room [] (w2.alloc (.cells #[.int .i64 z, .slice none 0 0] 31)) := by
    have hb := (Below.refl w2.heap.size w2).alloc (Nat.le_refl _) (.cells #[.int .i64 z, .slice none 0 0] 31)
    have hn := (MapKept.heap_alloc w2 (.cells #[.int .i64 z, .slice none 0 0] 31)).1
    refine ⟨HO2.out.below hb, ⟨.slice none 0 0, ⟨_, hn⟩, ?_, by simp only [World.cell?, hn]; rfl, ⟨none, 0, rfl, fun i hi => absurd hi (Nat.not_lt_zero _), fun a e => by cases e⟩⟩, HO2.out.bl.size, (hb.block _ (Array.getElem?_eq_some_iff.1 H52.out).1).trans H52.out⟩
    simp only [World.cell?, hn]
    rw [HZ.out]
    rfl
  obtain ⟨br, hbr⟩ : ∃ br, w2.heap.size = br := ⟨_, rfl⟩
  rw [hbr] at hst
  have HST := Lib.hid hst
  have HBR := Lib.hid hbr
  clear hst hbr HO2 H52
  go_wp2
  clear q1
  go_loopw [9] (fun i wr => ∃ j : Nat, i = .int .i64 j ∧ j ≤ n ∧ Hid (∃ L : List KV, L.length ≤ j ∧ L.length ≤ room ∧ PHe W1 H D br w.heap.size (askc k pl nl cl q) room L wr)) (fun i _ => n - (intOf i).toNat)
  case atStart => exact ⟨0, rfl, Nat.zero_le _, Lib.hid ⟨[], Nat.le_refl _, Nat.zero_le _, HST.out⟩⟩
  case round =>
    obtain ⟨j, rfl, hj, hr⟩ := hrel
    obtain ⟨L, hLj, hLr, hph⟩ := hr.out
    rw [HBR.out] at *
    clear HST
    have HCL : Hid (∀ L' P' w1, PH W1 H D br w.heap.size (askc k pl nl cl q) room L' P' w1 → RIn w1 p l ∧ LIs w1 pl ls) := Lib.hid (fun L' P' w1 hp => by
      have hb := below_next HB1.out hp.bl
      exact ⟨HRI.out.below hb (Nat.le_refl _), HIN.out.below hb (Nat.le_refl _)⟩)
    by_cases hlt : j < n
    · have hltz : (j : Int) < (n : Int) := by omega
      obtain ⟨g, off, rfl, _, _, _⟩ := (HCL.out _ _ _ hph).1 j (by rw [HN.out]; exact hlt)
      obtain ⟨⟨kx, tx⟩, hx⟩ : ∃ x, l.getD j r013 = x := ⟨_, rfl⟩
      have hxo := HRO.out.at (j := j) (by rw [HN.out]; exact hlt)
      rw [hx] at hxo
      simp only at hxo
      obtain ⟨tz, htz⟩ : ∃ z : Int, (tx : Int) = z := ⟨_, rfl⟩
      have HTZ := Lib.hid htz
      have HXO := Lib.hid hxo
      have HJ := Lib.hid (show j < l.length by rw [HN.out]; exact hlt)
      have HCX : Hid (∀ L' P' w1, PH W1 H D br w.heap.size (askc k pl nl cl q) room L' P' w1 → w1.cell? ⟨g, off + j * 2, none⟩ = some (.string kx) ∧ w1.cell? ⟨g, off + j * 2 + 1, none⟩ = some (.int .u64 tz)) := Lib.hid (fun L' P' w1 hp => by
        obtain ⟨g2, off2, e, _, q0, q1⟩ := (HCL.out _ _ _ hp).1 j HJ.out
        injection e with e
        injection e with e1 e2
        subst e1 e2
        rw [hx] at q0 q1
        simp only at q0 q1
        rw [htz] at q1
        exact ⟨q0, q1⟩)
      obtain ⟨L2, hL2⟩ : ∃ L2, obs room L kx tx = L2 := ⟨_, rfl⟩
      have hol := obs_len (L := L) room kx tx
      rw [hL2] at hol
      have HOL := Lib.hid hol
      have HE2 := Lib.hid hL2
      have HRV : Hid (Hy.robs room L.reverse kx (Hs.ad (hst L.reverse kx) tx) = L2.reverse) := Lib.hid (by rw [← hL2]; exact obs_rev hph.1.keys HR0.out hLr kx tx)
      have HP0 := Lib.hid hph
      have HLL : Hid (L.length ≤ j ∧ L.length ≤ room ∧ j ≤ 200) := Lib.hid ⟨hLj, hLr, by omega⟩
      clear hr hph hLj hLr hol hL2 hx hxo htz
      go_wp2_with fail
      refine Bz.wp_region (S := Bz.by1 11 (fun b1 w1 => PH W1 H D br w.heap.size (askc k pl nl cl q) room (cond b1 L2 L) L.reverse w1)) (by kernel_rfl) ?_ ?_
      · exact Bz.by1_start (by decide) (PH.below HP0.out (Below.refl _ _).drew)
      repeat (first
        | (refine Bz.anyR_value (v := ?_) (by kernel_rfl) (fun m w1 _ hS => Bz.by1_set (by decide) m w1 hS) (by rfl) (fun _ _ _ h => h) (fun m w1 _ hS => ?_) ?_
           rotate_left
           · obtain ⟨q0, q1⟩ := HCX.out _ _ _ hS
             go_simp
             with_reducible rfl
           (try simp only [Act.put, List.setIfInBounds_toArray, List.set_cons_zero, List.set_cons_succ]))
        | (refine Bz.anyR_not (by kernel_rfl) (fun m w1 _ hS => Bz.by1_set (by decide) m w1 hS) (by rfl) (fun _ _ _ h => h) ?_
           (try simp only [Act.put, List.setIfInBounds_toArray, List.set_cons_zero, List.set_cons_succ]))
        | (refine Bz.anyR_call (v := ?_) (f := ?_) (args := ?_) (by kernel_rfl) (by rfl) (fun _ _ _ h => h) (fun m w1 hm hS => ?_) (fun m w1 hm hS => ?_) ?_
           rotate_left 3
           · go_simp
             (try constructor) <;> with_reducible rfl
           · first
               | (have hS2 : PH W1 H D br w.heap.size (askc k pl nl cl q) room L L.reverse w1 := (by have h := hS; unfold Bz.by1 at h; rw [hm.1] at h; exact h); have hcall := hS2.obs HXO.out.1 tx HXO.out.2 HLL.out.2.1 (by have := HLL.out; omega) HTZ.out; rw [HE2.out] at hcall; (with_reducible refine (hcall.mono ?_)); rintro e w' ⟨rfl, hp⟩; refine ⟨?_, Bz.by1_A m w' hp⟩; with_reducible rfl)
           (try simp only [Act.put, List.setIfInBounds_toArray, List.set_cons_zero, List.set_cons_succ]))
        | refine Bz.anyR_done (by kernel_rfl) (fun w1 hS => ?_))
      have HP1 := Lib.hid (show PH W1 H D br w.heap.size (askc k pl nl cl q) room L2 L.reverse w1 from Bz.by1_end (by decide) (by decide) hS)
      clear hS HP0
      go_wp2_with fail
      refine Bz.wp_region (S := Bz.by1 10 (fun b1 w1 => PH W1 H D br w.heap.size (askc k pl nl cl q) room L2 (cond b1 L2.reverse L.reverse) w1)) (by kernel_rfl) ?_ ?_
      · exact Bz.by1_start (by decide) (PH.below HP1.out (Below.refl _ _).drew)
      repeat (first
        | (refine Bz.anyR_value (v := ?_) (by kernel_rfl) (fun m w1 _ hS => Bz.by1_set (by decide) m w1 hS) (by rfl) (fun _ _ _ h => h) (fun m w1 _ hS => ?_) ?_
           rotate_left
           · obtain ⟨q0, q1⟩ := HCX.out _ _ _ hS
             go_simp
             with_reducible rfl
           (try simp only [Act.put, List.setIfInBounds_toArray, List.set_cons_zero, List.set_cons_succ]))
        | (refine Bz.anyR_not (by kernel_rfl) (fun m w1 _ hS => Bz.by1_set (by decide) m w1 hS) (by rfl) (fun _ _ _ h => h) ?_
           (try simp only [Act.put, List.setIfInBounds_toArray, List.set_cons_zero, List.set_cons_succ]))
        | (refine Bz.anyR_call (v := ?_) (f := ?_) (args := ?_) (by kernel_rfl) (by rfl) (fun _ _ _ h => h) (fun m w1 hm hS => ?_) (fun m w1 hm hS => ?_) ?_
           rotate_left 3
           · go_simp
             (try constructor) <;> with_reducible rfl
           · first
               | (have hS2 : PH W1 H D br w.heap.size (askc k pl nl cl q) room L2 L.reverse w1 := (by have h := hS; unfold Bz.by1 at h; rw [hm.1] at h; exact h); have hcall := hS2.robs kx tx HXO.out.2 (by rw [List.length_reverse]; have := HLL.out; omega) HTZ.out; rw [HRV.out] at hcall; (with_reducible refine (hcall.mono ?_)); rintro e w' ⟨rfl, hp⟩; refine ⟨?_, Bz.by1_A m w' hp⟩; with_reducible rfl)
           (try simp only [Act.put, List.setIfInBounds_toArray, List.set_cons_zero, List.set_cons_succ]))
        | refine Bz.anyR_done (by kernel_rfl) (fun w1 hS => ?_))
      have hfin : PHe W1 H D br w.heap.size (askc k pl nl cl q) room L2 w1 := Bz.by1_end (by decide) (by decide) hS
      obtain ⟨pr, m, capr, c0, c1, c2, c3, c4, HS⟩ := hfin.look (by have := HOL.out; have := HLL.out; omega) HZ.out HK.out HL.out (by omega) HLS.out (HCL.out _ _ _ hfin).2
      clear hS HP1 hfin
      go_wp2_with (go_at_call 10; refine HS.out.mono ?_)
      first | rintro e wa rfl hpa | rintro e wa ⟨rfl, hpa⟩
      have HR2 : Hid (∃ L : List KV, L.length ≤ j + 1 ∧ L.length ≤ room ∧ PHe W1 H D br w.heap.size (askc k pl nl cl q) room L wa) := Lib.hid ⟨L2, by have := HOL.out; have := HLL.out; omega, HOL.out.1, hpa⟩
      clear hpa HS c0 c1 c2 c3 c4
      go_wp2
      go_roundw
      case rel => exact ⟨j + 1, by go_num, hlt, HR2⟩
      case measure => simp [intOf]; omega
    · have e1 : j = n := by omega
      subst e1
      obtain ⟨pr, m, capr, c0, c1, c2, c3, c4, HS⟩ := hph.look (by omega) HZ.out HK.out HL.out (by omega) HLS.out (HCL.out _ _ _ hph).2
      clear hr hph
      go_wp2_with (go_at_call 10; refine HS.out.mono ?_)
      first | rintro e wa rfl hpa | rintro e wa ⟨rfl, hpa⟩
      have HB := Lib.hid (below_next HB1.out (PH.bl hpa))
      clear hpa HS
      go_wp2_with (go_at_call 7; refine (hy_live _).mono ?_)
      first | rintro e w8 rfl hb8 | rintro e w8 ⟨rfl, hb8⟩
      have HB8 := Lib.hid (below_next HB.out hb8)
      clear hb8
      go_wp2
      go_ret
      exact ⟨rfl, HB8.out⟩
theorem walk (a0 : Int) (w0 : (Lit.int .i64 a0).wf = true) (p : Option Addr) (n cap : Nat) (l : List R13) (hn : l.length = n) (hmx : n ≤ maxLen) (hro : ROk l) (k : ByteArray) (pl : Option Addr) (nl cl : Nat) (ls : List Int) (q : Int) (hk : Ms.Wf k) (hl : ls.length = nl) (hl2 : nl ≤ maxLen) (hls : I64s ls) (w : World) (hri : RIn w p l) (hin : LIs w pl ls) :
    Calls Try.prog 3 #[.int .i64 a0, .slice p n cap, .agg #[.string k, .slice pl nl cl, .int .i64 q]] w fun e w' => e = .returned (.bool true) ∧ Below w.heap.size w w' := by
  unfold maxLen at hmx hl2
  by_cases h : a0 < 1
  · exact walk_none a0 p n cap k pl nl cl q w h (by omega) (by omega)
  · obtain ⟨r, hr⟩ : ∃ r : Nat, a0 = (r : Int) := ⟨a0.toNat, by omega⟩
    subst hr
    by_cases h2 : 200 < n ∨ 20 < nl
    · exact walk_big r p n cap k pl nl cl q w (by omega) h2 (by omega) (by omega)
    · exact walk_small r (by omega) p n cap l k pl nl cl ls q w hn (by omega) hro hri hk hl (by omega) hls hin
theorem own : ownKnob Try.prog.godebug = none := by kernel_rfl
theorem laidOut : laidOutB Try.prog = true := by kernel_rfl
set_option maxRecDepth 100000 in
theorem contract (H : Type) (enc : TypeId × Value → H) (W : World) (base : Nat) (args : Array Value) (ds gs : List (DataW H)) (before : List MemPlace)
    (hval0 : ∀ (j : Nat) t v, Try.f3.params[j]? = some t → args[j]? = some v → Value.okWide Try.prog W .any base t v)
    (hW : DataW.Whole enc Try.prog Try.f3.params.toList Rows.historyActsSpec.vars false W args.toList ds gs before) :
    Calls Try.prog 3 args W fun e W' => ∃ v, e = .returned v ∧ Rows.historyActsSpec.post enc Try.prog Try.f3 false true false false W args v W' := by
  have hval : ∀ (j : Nat) t v, Try.f3.params[j]? = some t → args[j]? = some v → Value.okWide Try.prog W .any base t v := hval0
  clear hval0
  have hW' := hW
  obtain ⟨p, q, hA0, hV, rfl, hfz, hnd⟩ := hW
  have hA : DataW.TrodAll enc Try.prog W 0 (fun _ => true) true Try.f3.params.toList args.toList ds p := hA0
  rw [Try.params3] at hA hval
  obtain ⟨v0, vs0, d0, ds0, p0, q0, hargs, rfl, rfl, h0, r0⟩ := trodAll_cons hA
  obtain ⟨v1, vs1, d1, ds1, p1, q1, rfl, rfl, rfl, h1, r1⟩ := trodAll_cons r0
  obtain ⟨v2, vs2, d2, ds2, p2, q2, rfl, rfl, rfl, h2, r2⟩ := trodAll_cons r1
  obtain ⟨rfl, rfl, rfl⟩ := trodAll_nil r2
  obtain rfl : args = #[v0, v1, v2] := by cases args; simp_all
  obtain ⟨rfl, rfl⟩ := trodVars_none hV
  obtain ⟨a0, rfl, rfl, rfl, w0⟩ := open_int Try.underlying3 (hval 0 3 v0 rfl rfl) h0
  obtain ⟨pp, n, cap, l, rfl, hn, hmx, hro, hri⟩ := runs_open h1 (okWide_slice Try.underlying22 (hval 1 22 v1 rfl rfl))
  obtain ⟨k, pl, nl, cl, ls, qq, rfl, hk, hl, hl2, hls, hin, _⟩ := ask_open (hval 2 25 v2 rfl rfl) h2
  clear hA0
  refine (walk a0 w0 pp n cap l hn hmx hro k pl nl cl ls qq hk hl hl2 hls W hri hin).mono fun e W' ⟨he, hb⟩ => ?_
  subst he
  exact ⟨_, rfl, law_post laidOut (by kernel_rfl) rfl Try.underlying4 rfl hW' rfl hb⟩

set_option maxRecDepth 100000 in
theorem lifted (os : Os) (started : os.Started) (H : Type) (enc : TypeId × Value → H) :
    ReturnsInHanded {} Try.checked os 3 .any (Rows.historyActsSpec.pre6 enc Try.prog Try.f3 Rows.historyActsRow.domain false) (Rows.historyActsSpec.post enc Try.prog Try.f3 false true false false) := by
  refine returnsInHanded_of_change (C := Try.checked) own started (by kernel_rfl) Try.func3
    (ChangeSpec.witness6 (enc := enc) (C := Try.checked) false ⟨#[], #[.int .i64 0, .slice none 0 0, .agg #[.string ByteArray.empty, .slice none 0 0, .int .i64 0]], []⟩ 8 (by kernel_rfl) (by kernel_rfl) (by kernel_rfl) (by kernel_rfl)) ?_
  intro W base args ds gs before hval0 hW _ _
  exact contract H enc W base args ds gs before hval0 hW

/-- THE STATEMENT -/
theorem proved : Rows.HistoryActsSaid :=
  OpenClaim.holds_of_wide 3 Try.f3 rfl rfl rfl rfl rfl rfl rfl ⟨rfl, rfl, rfl, rfl, rfl⟩ rfl rfl rfl rfl rfl (by kernel_rfl) Try.func3 (by kernel_rfl)
    (of_decide_eq_true (by kernel_rfl)) (by unfold Func.isWrapper; first | (rw [if_pos (by decide +kernel)]; kernel_rfl) | (rw [if_neg (by decide +kernel)]; exact ⟨rfl, rfl⟩))
    (fun os started H enc _ => lifted os started H enc)
end historyActs
end Go.Proofs.Ytbkbopaoeehfkaa
