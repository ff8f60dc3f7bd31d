/-
  THE LAW HistoryRises. The law HistoryRises answers true at every slice of runs, everything that is asked and every greater percentage: no lower class is told of it, and the estimate is not above the limit of its class. Conditions: none (beyond 100 runs or 20 limits, and where limits do not rise, the law itself asks less).
-/
import Derived.Test.YtbkbopaoeehfkaaHyJ
import Derived.Test.YtbkbopaoeehfkaaFrame
namespace Go.Proofs.Ytbkbopaoeehfkaa
open Go.RowKit Lr Ft Hy Bt
open Go.ChangeShapes Go.WideShapes Go.ChangeAt
set_option linter.unusedVariables false
namespace Hy
/-- the program's table, and what is asked -/
def PA (w0 : World) (H : Nat) (D : Td) (b5 : Nat) (cs : Array Value) (room : Nat) (L : List KV) (w : World) : Prop := OHD w0 H D room L w ∧ w.heap[b5]? = some (.cells cs 25)
def askr (k : ByteArray) (p : Option Addr) (n c : Nat) (q : Int) : Array Value := #[.string k, .slice p n c, .int .i64 q]
section
variable {w0 w w' : World} {H b5 room : Nat} {D : Td} {cs : Array Value} {L : List KV}
theorem PA.below (h : PA w0 H D b5 cs room L w) (hb : Below w.heap.size w w') : PA w0 H D b5 cs room L w' := ⟨h.1.below hb, (hb.block _ (Array.getElem?_eq_some_iff.1 h.2).1).trans h.2⟩
theorem PA.obs (h : PA w0 H D b5 cs room L w) {k : ByteArray} (hk : Ms.Wf k) (x : Nat) (hx : x < 18446744073709551616) (hfit : L.length ≤ room) (hlen : L.length < 1000) {z : Int} (hz : (x : Int) = z) :
    Calls Try.prog 8 #[.pointer (some ⟨H, 0, none⟩), .string k, .int .u64 z] w fun e w' => e = .returned (.tuple #[]) ∧ PA w0 H D b5 cs room (obs room L k x) w' := by
  subst hz
  obtain ⟨⟨ns, h1, h2, h3, h4, h5⟩, r3⟩ := h
  have h9 := hy_obs h1 hk x hx (by rw [← kvs_len, h2]; exact hfit) (by rw [← kvs_len, h2]; exact hlen)
  rw [h2] at h9
  refine h9.mono ?_
  rintro e w' ⟨he, hg⟩
  have hg2 := hg
  obtain ⟨ns', q1, q2, q3⟩ := hg2
  refine ⟨he, OHD.turn h1 h3 h4 h5 hg, ?_⟩
  rw [q3.mv.block b5 (Array.getElem?_eq_some_iff.1 r3).1 (Hy.not_fp h1.tb ⟨_, r3⟩ (by decide) (by decide))]
  exact r3
theorem askr_cells {k : ByteArray} {p : Option Addr} {n c : Nat} {q : Int} (h : w.heap[b5]? = some (.cells (askr k p n c q) 25)) : w.cell? ⟨b5, 0, none⟩ = some (.string k) ∧ w.cell? ⟨b5, 1, none⟩ = some (.slice p n c) ∧ w.cell? ⟨b5, 2, none⟩ = some (.int .i64 q) := by
  unfold askr at h
  refine ⟨?_, ?_, ?_⟩ <;> simp only [World.cell?, h] <;> rfl
end
theorem ov_up {f : Nat → Int} {a b : Int} (ha : Qu.ok f a = true) (hb : Qu.ok f b = true) (h : a ≤ b) : Qu.ov f a ≤ Qu.ov f b := by
  rw [Qu.ov_ok ha, Qu.ov_ok hb]
  exact (Qu.hi_le (Qu.pl_is ha).1 (Qu.pl_is hb).1).2 (Qu.pl_up ha hb h)
theorem ok_same {f : Nat → Int} {a b : Int} (h1 : 1 ≤ a) (h2 : a ≤ b) (h3 : b ≤ 100) : Qu.ok f a = Qu.ok f b := by
  unfold Qu.ok
  rw [decide_eq_true (show 1 ≤ a ∧ a ≤ 100 from ⟨h1, by omega⟩), decide_eq_true (show 1 ≤ b ∧ b ≤ 100 from ⟨by omega, h3⟩)]
theorem ca_up (ls : List Int) {f : Nat → Int} {a b : Int} (h1 : 1 ≤ a) (h2 : a ≤ b) (h3 : b ≤ 100) : ca ls (Qu.ov f a) (Qu.ok f a) ≤ ca ls (Qu.ov f b) (Qu.ok f b) := by
  have e := ok_same (f := f) h1 h2 h3
  unfold ca
  cases hk : Qu.ok f b
  · rw [e, hk]
    exact Nat.le_refl _
  · rw [e, hk]
    exact cls_mono ls (ov_up (e.trans hk) hk h2)
end Hy
namespace historyRises
def Bad (n nl : Nat) (q more : Int) : Prop := 100 < n ∨ 20 < nl ∨ more < q ∨ 100 < more ∨ q < 1
set_option maxHeartbeats 1000000 in
theorem walk_bad (p : Option Addr) (n cap : Nat) (k : ByteArray) (pl : Option Addr) (nl cl : Nat) (q more : Int) (w : World) (h : Bad n nl q more) (hn : n ≤ 9223372036854775807) (hnl : nl ≤ 9223372036854775807) :
    Calls Try.prog 5 #[.slice p n cap, .agg #[.string k, .slice pl nl cl, .int .i64 q], .int .i64 more] w fun e w' => e = .returned (.bool true) ∧ Below w.heap.size w w' := by
  have hba := (Below.refl w.heap.size w).alloc (Nat.le_refl _) (.cells #[.string k, .slice pl nl cl, .int .i64 q] 25)
  have HBA := Lib.hid hba
  clear hba
  unfold Bad at h
  by_cases h1 : 100 < n
  · clear h
    go_enter Try.func5, Try.ntmps5
    go_wp2_with fail
    refine (hy_live _).mono ?_
    rintro e w8 ⟨rfl, hb8⟩
    have HB8 := Lib.hid (below_next HBA.out hb8)
    clear hb8
    go_wp2
    go_ret
    exact ⟨rfl, HB8.out⟩
  by_cases h2 : 20 < nl
  · clear h
    go_enter Try.func5, Try.ntmps5
    go_wp2_with fail
    refine (hy_live _).mono ?_
    rintro e w8 ⟨rfl, hb8⟩
    have HB8 := Lib.hid (below_next HBA.out hb8)
    clear hb8
    go_wp2
    go_ret
    exact ⟨rfl, HB8.out⟩
  by_cases h3 : more < q
  · clear h
    go_enter Try.func5, Try.ntmps5
    go_wp2_with fail
    refine (hy_live _).mono ?_
    rintro e w8 ⟨rfl, hb8⟩
    have HB8 := Lib.hid (below_next HBA.out hb8)
    clear hb8
    go_wp2
    go_ret
    exact ⟨rfl, HB8.out⟩
  by_cases h4 : 100 < more
  · clear h
    go_enter Try.func5, Try.ntmps5
    go_wp2_with fail
    refine (hy_live _).mono ?_
    rintro e w8 ⟨rfl, hb8⟩
    have HB8 := Lib.hid (below_next HBA.out hb8)
    clear hb8
    go_wp2
    go_ret
    exact ⟨rfl, HB8.out⟩
  · have h5 : q < 1 := by omega
    clear h
    go_enter Try.func5, Try.ntmps5
    go_wp2_with fail
    refine (hy_live _).mono ?_
    rintro e w8 ⟨rfl, hb8⟩
    have HB8 := Lib.hid (below_next HBA.out hb8)
    clear hb8
    go_wp2
    go_ret
    exact ⟨rfl, HB8.out⟩
set_option maxHeartbeats 4000000 in
set_option maxRecDepth 20000 in
theorem walk_good (p : Option Addr) (n cap : Nat) (l : List R13) (k : ByteArray) (pl : Option Addr) (nl cl : Nat) (ls : List Int) (q more : Int) (w : World) (hbad : ¬ Bad n nl q more) (hn : l.length = n) (hro : ROk l) (hri : RIn w p l) (hk : Ms.Wf k) (hl : ls.length = nl) (hls : I64s ls) (hin : LIs w pl ls) :
    Calls Try.prog 5 #[.slice p n cap, .agg #[.string k, .slice pl nl cl, .int .i64 q], .int .i64 more] w fun e w' => e = .returned (.bool true) ∧ Below w.heap.size w w' := by
  unfold Bad at hbad
  have hn2 : n ≤ 100 := by omega
  have hl2 : nl ≤ 20 := by omega
  have hm1 : q ≤ more := by omega
  have hm2 : more ≤ 100 := by omega
  have hq1 : 1 ≤ q := by omega
  have HN := Lib.hid hn
  have HRO := Lib.hid hro
  have HRI := Lib.hid hri
  have HIN := Lib.hid hin
  have HLS := Lib.hid hls
  have HL := Lib.hid hl
  have HK := Lib.hid hk
  have HQ : Hid (1 ≤ q ∧ q ≤ more ∧ more ≤ 100) := Lib.hid ⟨hq1, hm1, hm2⟩
  obtain ⟨W1, hW1⟩ : ∃ W, w.alloc (.cells #[.string k, .slice pl nl cl, .int .i64 q] 25) = W := ⟨_, rfl⟩
  have hb1 : Below w.heap.size w W1 := by rw [← hW1]; exact (Below.refl _ _).alloc (Nat.le_refl _) _
  have h5 : W1.heap[w.heap.size]? = some (.cells (askr k pl nl cl q) 25) := by rw [← hW1]; exact (MapKept.heap_alloc _ _).1
  have HW1 := Lib.hid hW1
  have HB1 := Lib.hid hb1
  have H5 := Lib.hid h5
  have hd1 : decide ((100 : Int) < (n : Int)) = false := by rw [decide_eq_false_iff_not]; omega
  have hd2 : decide ((20 : Int) < (nl : Int)) = false := by rw [decide_eq_false_iff_not]; omega
  have hd3 : decide (more < q) = false := by rw [decide_eq_false_iff_not]; omega
  have hd4 : decide ((100 : Int) < more) = false := by rw [decide_eq_false_iff_not]; omega
  have hd5 : decide (q < (1 : Int)) = false := by rw [decide_eq_false_iff_not]; omega
  clear hbad hn hro hri hin hls hl hk hb1 h5 hW1
  go_enter Try.func5, Try.ntmps5
  go_wp2
  go_loopw [7] (fun i wr => ∃ j : Nat, i = .int .i64 j ∧ Hid (1 ≤ j ∧ j ≤ 21) ∧ Hid (Below W1.heap.size W1 wr)) (fun i _ => 21 - (intOf i).toNat)
  case atStart =>
    refine ⟨1, rfl, Lib.hid ⟨by omega, by omega⟩, Lib.hid ?_⟩
    show Below W1.heap.size W1 (w.alloc (.cells #[.string k, .slice pl nl cl, .int .i64 q] 25))
    rw [HW1.out]
    exact Below.refl _ _
  case round =>
    obtain ⟨j, rfl, hj, hb⟩ := hrel
    have h5r := (hb.out.block w.heap.size (Array.getElem?_eq_some_iff.1 H5.out).1).trans H5.out
    obtain ⟨c0, c1, c2⟩ := askr_cells h5r
    have HBR := Lib.hid (below_next HB1.out hb.out)
    have H5R := Lib.hid h5r
    clear h5r
    by_cases hlt : j < nl
    · have hltz : (j : Int) < (nl : Int) := by omega
      obtain ⟨kk, hkk⟩ : ∃ kk, j - 1 = kk := ⟨_, rfl⟩
      have hkn : kk < nl := by omega
      have hknz : (kk : Int) < (nl : Int) := by omega
      have f1 : IntKind.i64.wrap ((j : Int) - 1) = (kk : Int) := by have := hj.out; rw [IntKind.wrap_i64]; omega
      obtain ⟨g, off, rfl, _, x1⟩ := (HIN.out.below HBR.out (Nat.le_refl _)) j (by rw [HL.out]; exact hlt)
      obtain ⟨g2, off2, e2, _, x0⟩ := (HIN.out.below HBR.out (Nat.le_refl _)) kk (by rw [HL.out]; exact hkn)
      injection e2 with e2
      injection e2 with e3 e4
      subst e3 e4
      obtain ⟨v1, hv1⟩ : ∃ v, ls.getD j 0 = v := ⟨_, rfl⟩
      obtain ⟨v0, hv0⟩ : ∃ v, ls.getD kk 0 = v := ⟨_, rfl⟩
      rw [hv1] at x1
      rw [hv0] at x0
      have y0 : wr.drew.cell? ⟨g, off + kk, none⟩ = some (.int .i64 v0) := x0
      have y1 : wr.drew.cell? ⟨g, off + j, none⟩ = some (.int .i64 v1) := x1
      have y2 : wr.drew.cell? ⟨w.heap.size, 1, none⟩ = some (.slice (some ⟨g, off, none⟩) nl cl) := c1
      have HBD : Hid (Below W1.heap.size W1 wr.drew) := Lib.hid hb.out.drew
      have HBRD : Hid (Below w.heap.size w wr.drew) := Lib.hid HBR.out.drew
      have HJ2 : Hid (1 ≤ j + 1 ∧ j + 1 ≤ 21) := Lib.hid (by have := hj.out; omega)
      clear x0 x1 hv0 hv1 hkk
      by_cases hle : v1 ≤ v0
      · go_wp2_with fail
        refine wp_region_text (S := (fun w9 => w9 = wr.drew)) (by kernel_rfl) ?_ ?_
        · rfl
        repeat (first
          | (refine anyR_value (v := ?_) (by kernel_rfl) (by rfl) (fun _ _ _ h => h) (fun w1 hS => ?_) ?_
             rotate_left
             · rw [hS]
               go_simp
               with_reducible rfl
             simp only [Act.put, List.setIfInBounds_toArray, List.set_cons_zero, List.set_cons_succ])
          | (refine anyR_not (by kernel_rfl) (by rfl) (fun _ _ _ h => h) ?_
             simp only [Act.put, List.setIfInBounds_toArray, List.set_cons_zero, List.set_cons_succ])
          | (refine anyR_call (v := ?_) (f := ?_) (args := ?_) (by kernel_rfl) (by rfl) (fun _ _ _ h => h) (fun w1 hS => ?_) (fun w1 hS => ?_) ?_
             rotate_left 3
             · go_simp
               (try constructor) <;> with_reducible rfl
             · first
                 | (fail)
             simp only [Act.put, List.setIfInBounds_toArray, List.set_cons_zero, List.set_cons_succ])
          | refine anyR_done (by kernel_rfl) (fun w1 hS => ?_))
        have e9 : w1 = wr.drew := hS
        subst e9
        clear hS
        go_wp2_with (go_at_call 7; refine (hy_live _).mono ?_)
        first | rintro e w8 rfl hb8 | rintro e w8 ⟨rfl, hb8⟩
        have HB8 := Lib.hid (below_next HBRD.out hb8)
        clear hb8
        go_wp2
        go_ret
        exact ⟨rfl, HB8.out⟩
      · go_wp2_with fail
        refine wp_region_text (S := (fun w9 => w9 = wr.drew)) (by kernel_rfl) ?_ ?_
        · rfl
        repeat (first
          | (refine anyR_value (v := ?_) (by kernel_rfl) (by rfl) (fun _ _ _ h => h) (fun w1 hS => ?_) ?_
             rotate_left
             · rw [hS]
               go_simp
               with_reducible rfl
             simp only [Act.put, List.setIfInBounds_toArray, List.set_cons_zero, List.set_cons_succ])
          | (refine anyR_not (by kernel_rfl) (by rfl) (fun _ _ _ h => h) ?_
             simp only [Act.put, List.setIfInBounds_toArray, List.set_cons_zero, List.set_cons_succ])
          | (refine anyR_call (v := ?_) (f := ?_) (args := ?_) (by kernel_rfl) (by rfl) (fun _ _ _ h => h) (fun w1 hS => ?_) (fun w1 hS => ?_) ?_
             rotate_left 3
             · go_simp
               (try constructor) <;> with_reducible rfl
             · first
                 | (fail)
             simp only [Act.put, List.setIfInBounds_toArray, List.set_cons_zero, List.set_cons_succ])
          | refine anyR_done (by kernel_rfl) (fun w1 hS => ?_))
        have e9 : w1 = wr.drew := hS
        subst e9
        clear hS
        go_wp2
        go_roundw
        case rel => exact ⟨j + 1, by go_num, HJ2, HBD⟩
        case measure => simp [intOf]; omega
    · have hltz : ¬ (j : Int) < (nl : Int) := by omega
      obtain ⟨wb, hwb⟩ : ∃ wb, wb = wr := ⟨_, rfl⟩
      subst hwb
      have HNW := Lib.hid (oh_new 8 wb (by decide))
      rw [show ((8 : Nat) : Int) = 8 from rfl] at HNW
      clear hb
      go_wp2_with (go_at_call 6; refine HNW.out.mono ?_)
      rintro e w2 ⟨H, D, rfl, o2⟩
      have h52 := (o2.bl.block w.heap.size (Array.getElem?_eq_some_iff.1 H5R.out).1).trans H5R.out
      have HST : Hid (PA wb H D w.heap.size (askr k pl nl cl q) 8 [] w2) := Lib.hid ⟨o2, h52⟩
      clear o2 h52 c0 c1 c2 HNW hlt hltz
      have HCL : Hid (∀ L' w1, PA wb H D w.heap.size (askr k pl nl cl q) 8 L' w1 → RIn w1 p l ∧ LIs w1 pl ls ∧ Below w.heap.size w w1) := Lib.hid (fun L' w1 hp => by
        have hb := below_next HBR.out hp.1.bl
        exact ⟨HRI.out.below hb (Nat.le_refl _), HIN.out.below hb (Nat.le_refl _), hb⟩)
      go_wp2
      go_loopw [9] (fun i wq => ∃ j : Nat, i = .int .i64 j ∧ j ≤ n ∧ Hid (∃ L : List KV, L.length ≤ j ∧ L.length ≤ 8 ∧ PA wb H D w.heap.size (askr k pl nl cl q) 8 L wq)) (fun i _ => n - (intOf i).toNat)
      case atStart => exact ⟨0, rfl, Nat.zero_le _, Lib.hid ⟨[], Nat.le_refl _, Nat.zero_le _, HST.out⟩⟩
      case round =>
        obtain ⟨i, rfl, hi, hr⟩ := hrel
        obtain ⟨L, hLj, hLr, hph⟩ := hr.out
        by_cases hlt : i < n
        · have hltz : (i : Int) < (n : Int) := by omega
          obtain ⟨g, off, rfl, _, _, _⟩ := (HCL.out _ _ hph).1 i (by rw [HN.out]; exact hlt)
          obtain ⟨⟨kx, tx⟩, hx⟩ : ∃ x, l.getD i r013 = x := ⟨_, rfl⟩
          have hxo := HRO.out.at (j := i) (by rw [HN.out]; exact hlt)
          rw [hx] at hxo
          simp only at hxo
          obtain ⟨tz, htz⟩ : ∃ z : Int, (tx : Int) = z := ⟨_, rfl⟩
          have HTZ := Lib.hid htz
          have HXO := Lib.hid hxo
          have HJ := Lib.hid (show i < l.length by rw [HN.out]; exact hlt)
          have HCX : Hid (∀ L' w1, PA wb H D w.heap.size (askr k pl nl cl q) 8 L' w1 → w1.cell? ⟨g, off + i * 2, none⟩ = some (.string kx) ∧ w1.cell? ⟨g, off + i * 2 + 1, none⟩ = some (.int .u64 tz)) := Lib.hid (fun L' w1 hp => by
            obtain ⟨g2, off2, e, _, q0, q1⟩ := (HCL.out _ _ hp).1 i HJ.out
            injection e with e
            injection e with e1 e2
            subst e1 e2
            rw [hx] at q0 q1
            simp only at q0 q1
            rw [htz] at q1
            exact ⟨q0, q1⟩)
          obtain ⟨L2, hL2⟩ : ∃ L2, obs 8 L kx tx = L2 := ⟨_, rfl⟩
          have hol := obs_len (L := L) 8 kx tx
          rw [hL2] at hol
          have HOL := Lib.hid hol
          have HE2 := Lib.hid hL2
          have HP0 := Lib.hid hph
          have HLL : Hid (L.length ≤ i ∧ L.length ≤ 8) := Lib.hid ⟨hLj, hLr⟩
          clear hr hph hLj hLr hol hL2 hx hxo htz
          go_wp2_with fail
          refine Bz.wp_region (S := Bz.by1 11 (fun b1 w1 => PA wb H D w.heap.size (askr k pl nl cl q) 8 (cond b1 L2 L) w1)) (by kernel_rfl) ?_ ?_
          · exact Bz.by1_start (by decide) (PA.below HP0.out (Below.refl _ _).drew)
          repeat (first
            | (refine Bz.anyR_value (v := ?_) (by kernel_rfl) (fun m w1 _ hS => Bz.by1_set (by decide) m w1 hS) (by rfl) (fun _ _ _ h => h) (fun m w1 _ hS => ?_) ?_
               rotate_left
               · obtain ⟨q0, q1⟩ := HCX.out _ _ hS
                 go_simp
                 with_reducible rfl
               (try simp only [Act.put, List.setIfInBounds_toArray, List.set_cons_zero, List.set_cons_succ]))
            | (refine Bz.anyR_not (by kernel_rfl) (fun m w1 _ hS => Bz.by1_set (by decide) m w1 hS) (by rfl) (fun _ _ _ h => h) ?_
               (try simp only [Act.put, List.setIfInBounds_toArray, List.set_cons_zero, List.set_cons_succ]))
            | (refine Bz.anyR_call (v := ?_) (f := ?_) (args := ?_) (by kernel_rfl) (by rfl) (fun _ _ _ h => h) (fun m w1 hm hS => ?_) (fun m w1 hm hS => ?_) ?_
               rotate_left 3
               · go_simp
                 (try constructor) <;> with_reducible rfl
               · first
                   | (have hS2 : PA wb H D w.heap.size (askr k pl nl cl q) 8 L w1 := (by have h := hS; unfold Bz.by1 at h; rw [hm.1] at h; exact h); have hcall := hS2.obs HXO.out.1 tx HXO.out.2 HLL.out.2 (by have := HLL.out; omega) HTZ.out; rw [HE2.out] at hcall; (with_reducible refine (hcall.mono ?_)); rintro e w' ⟨rfl, hp⟩; refine ⟨?_, Bz.by1_A m w' hp⟩; with_reducible rfl)
               (try simp only [Act.put, List.setIfInBounds_toArray, List.set_cons_zero, List.set_cons_succ]))
            | refine Bz.anyR_done (by kernel_rfl) (fun w1 hS => ?_))
          have hfin : PA wb H D w.heap.size (askr k pl nl cl q) 8 L2 w1 := Bz.by1_end (by decide) (by decide) hS
          have HR2 : Hid (∃ L : List KV, L.length ≤ i + 1 ∧ L.length ≤ 8 ∧ PA wb H D w.heap.size (askr k pl nl cl q) 8 L w1) := Lib.hid ⟨L2, by have := HOL.out; have := HLL.out; omega, HOL.out.1, hfin⟩
          clear hS HP0 hfin
          go_wp2
          go_roundw
          case rel => exact ⟨i + 1, by go_num, hlt, HR2⟩
          case measure => simp [intOf]; omega
        · have e1 : i = n := by omega
          subst e1
          have HC1 := Lib.hid (fun (w1 : World) (h : PA wb H D w.heap.size (askr k pl nl cl q) 8 L w1) => ((h.1.cls HK.out pl nl cl ls q HL.out (by omega) HLS.out (HCL.out _ _ h).2.1).mono (fun e w' ⟨he, hb⟩ => ⟨he, h.below hb⟩) : Calls _ _ _ w1 fun e w' => e = .returned (.int .i64 (ca ls (Qu.ov (hst L k) q) (Qu.ok (hst L k) q) : Nat)) ∧ PA wb H D w.heap.size (askr k pl nl cl q) 8 L w'))
          have HC2 := Lib.hid (fun (w1 : World) (h : PA wb H D w.heap.size (askr k pl nl cl q) 8 L w1) => ((h.1.cls HK.out pl nl cl ls more HL.out (by omega) HLS.out (HCL.out _ _ h).2.1).mono (fun e w' ⟨he, hb⟩ => ⟨he, h.below hb⟩) : Calls _ _ _ w1 fun e w' => e = .returned (.int .i64 (ca ls (Qu.ov (hst L k) more) (Qu.ok (hst L k) more) : Nat)) ∧ PA wb H D w.heap.size (askr k pl nl cl q) 8 L w'))
          have HES := Lib.hid (fun (w1 : World) (h : PA wb H D w.heap.size (askr k pl nl cl q) 8 L w1) => ((h.1.est HK.out q).mono (fun e w' ⟨he, hb⟩ => ⟨he, h.below hb⟩) : Calls _ _ _ w1 fun e w' => e = .returned (.tuple #[.int .u64 (Qu.ov (hst L k) q : Nat), .bool (Qu.ok (hst L k) q)]) ∧ PA wb H D w.heap.size (askr k pl nl cl q) 8 L w'))
          have hup := ca_up ls (f := hst L k) HQ.out.1 HQ.out.2.1 HQ.out.2.2
          have hle2 := ca_le ls (Qu.ov (hst L k) more) (Qu.ok (hst L k) more)
          have hinl : ∀ (_ : Qu.ok (hst L k) q = true), ca ls (Qu.ov (hst L k) q) (Qu.ok (hst L k) q) < ls.length → ((Qu.ov (hst L k) q : Nat) : Int) ≤ max (ls.getD (ca ls (Qu.ov (hst L k) q) (Qu.ok (hst L k) q)) 0) 0 := fun hk2 hlt2 => by
            have e : ca ls (Qu.ov (hst L k) q) (Qu.ok (hst L k) q) = cls ls (Qu.ov (hst L k) q) := by rw [hk2]; rfl
            rw [e] at hlt2 ⊢
            exact cls_in hlt2
          obtain ⟨A, hA⟩ : ∃ A, ca ls (Qu.ov (hst L k) q) (Qu.ok (hst L k) q) = A := ⟨_, rfl⟩
          obtain ⟨B, hB⟩ : ∃ B, ca ls (Qu.ov (hst L k) more) (Qu.ok (hst L k) more) = B := ⟨_, rfl⟩
          rw [hA] at HC1 hup hinl
          rw [hB] at HC2 hup hle2
          obtain ⟨ok, hok⟩ : ∃ b, Qu.ok (hst L k) q = b := ⟨_, rfl⟩
          obtain ⟨V, hV⟩ : ∃ V : Int, (Qu.ov (hst L k) q : Int) = V := ⟨_, rfl⟩
          rw [hok, hV] at HES hinl
          rw [HL.out] at hle2 hinl
          have hab : (A : Int) ≤ (B : Int) := by omega
          have hbn : (B : Int) ≤ (nl : Int) := by omega
          have HINL := Lib.hid hinl
          have HP0 := Lib.hid hph
          clear hr hph hLj hLr hA hB hok hV hup hle2 hinl
          go_wp2_with fail
          refine wp_region_text (S := (fun w9 => PA wb H D w.heap.size (askr k pl nl cl q) 8 L w9)) (by kernel_rfl) ?_ ?_
          · exact (PA.below HP0.out (Below.refl _ _).drew)
          repeat (first
            | (refine anyR_value (v := ?_) (by kernel_rfl) (by rfl) (fun _ _ _ h => h) (fun w1 hS => ?_) ?_
               rotate_left
               · obtain ⟨q0, q1, q2⟩ := askr_cells hS.2
                 go_simp
                 with_reducible rfl
               simp only [Act.put, List.setIfInBounds_toArray, List.set_cons_zero, List.set_cons_succ])
            | (refine anyR_not (by kernel_rfl) (by rfl) (fun _ _ _ h => h) ?_
               simp only [Act.put, List.setIfInBounds_toArray, List.set_cons_zero, List.set_cons_succ])
            | (refine anyR_call (v := ?_) (f := ?_) (args := ?_) (by kernel_rfl) (by rfl) (fun _ _ _ h => h) (fun w1 hS => ?_) (fun w1 hS => ?_) ?_
               rotate_left 3
               · go_simp
                 (try constructor) <;> with_reducible rfl
               · first
                   | (((with_reducible refine ((HC1.out w1 hS).mono ?_)); rintro e w' ⟨rfl, hp⟩; refine ⟨?_, hp⟩; with_reducible rfl))
                   | (((with_reducible refine ((HC2.out w1 hS).mono ?_)); rintro e w' ⟨rfl, hp⟩; refine ⟨?_, hp⟩; with_reducible rfl))
               simp only [Act.put, List.setIfInBounds_toArray, List.set_cons_zero, List.set_cons_succ])
            | refine anyR_done (by kernel_rfl) (fun w1 hS => ?_))
          have HP1 : Hid (PA wb H D w.heap.size (askr k pl nl cl q) 8 L w1) := Lib.hid hS
          obtain ⟨q0, q1, q2⟩ := askr_cells hS.2
          clear hS HP0
          go_wp2_with (go_at_call 14; refine (HES.out _ HP1.out).mono ?_)
          first | rintro e wa rfl hpa | rintro e wa ⟨rfl, hpa⟩
          obtain ⟨r0, r1, r2⟩ := askr_cells hpa.2
          have HBA := Lib.hid (HCL.out _ _ hpa).2.2
          have HLA := Lib.hid (HCL.out _ _ hpa).2.1
          clear hpa HP1 q0 q1 q2
          cases ok with
          | false =>
            go_wp2_with (go_at_call 7; refine (hy_live _).mono ?_)
            first | rintro e w8 rfl hb8 | rintro e w8 ⟨rfl, hb8⟩
            have HB8 := Lib.hid (below_next HBA.out hb8)
            clear hb8
            go_wp2
            go_ret
            exact ⟨rfl, HB8.out⟩
          | true =>
            by_cases hal : A < nl
            · have halz : (A : Int) < (nl : Int) := by omega
              obtain ⟨g, off, rfl, _, x1⟩ := HLA.out A (by rw [HL.out]; exact hal)
              have hbd := HLS.out.at (j := A) (by rw [HL.out]; exact hal)
              have hv := HINL.out rfl hal
              obtain ⟨v, hv2⟩ : ∃ v, ls.getD A 0 = v := ⟨_, rfl⟩
              rw [hv2] at x1 hv hbd
              obtain ⟨m, hm⟩ : ∃ m, max v 0 = m := ⟨_, rfl⟩
              have f1 : IntKind.u64.wrap m = m := u64_small (by omega) (by omega)
              have hnv : ¬ m < V := by omega
              clear hv hbd hv2
              go_wp2_with (go_at_call 7; refine (hy_live _).mono ?_)
              first | rintro e w8 rfl hb8 | rintro e w8 ⟨rfl, hb8⟩
              have HB8 := Lib.hid (below_next HBA.out hb8)
              clear hb8
              go_wp2
              go_ret
              exact ⟨rfl, HB8.out⟩
            · have halz : ¬ (A : Int) < (nl : Int) := by omega
              go_wp2_with (go_at_call 7; refine (hy_live _).mono ?_)
              first | rintro e w8 rfl hb8 | rintro e w8 ⟨rfl, hb8⟩
              have HB8 := Lib.hid (below_next HBA.out hb8)
              clear hb8
              go_wp2
              go_ret
              exact ⟨rfl, HB8.out⟩
theorem walk (p : Option Addr) (n cap : Nat) (l : List R13) (hn : l.length = n) (hmx : n ≤ maxLen) (hro : ROk l) (k : ByteArray) (pl : Option Addr) (nl cl : Nat) (ls : List Int) (q : Int) (hk : Ms.Wf k) (hl : ls.length = nl) (hl2 : nl ≤ maxLen) (hls : I64s ls) (more : Int) (w : World) (hri : RIn w p l) (hin : LIs w pl ls) :
    Calls Try.prog 5 #[.slice p n cap, .agg #[.string k, .slice pl nl cl, .int .i64 q], .int .i64 more] w fun e w' => e = .returned (.bool true) ∧ Below w.heap.size w w' := by
  unfold maxLen at hmx hl2
  by_cases h : Bad n nl q more
  · exact walk_bad p n cap k pl nl cl q more w h (by omega) (by omega)
  · exact walk_good p n cap l k pl nl cl ls q more w h hn hro hri hk hl hls hin
theorem own : ownKnob Try.prog.godebug = none := by kernel_rfl
theorem laidOut : laidOutB Try.prog = true := by kernel_rfl
set_option maxRecDepth 100000 in
theorem contract (H : Type) (enc : TypeId × Value → H) (W : World) (base : Nat) (args : Array Value) (ds gs : List (DataW H)) (before : List MemPlace)
    (hval0 : ∀ (j : Nat) t v, Try.f5.params[j]? = some t → args[j]? = some v → Value.okWide Try.prog W .any base t v)
    (hW : DataW.Whole enc Try.prog Try.f5.params.toList Rows.historyRisesSpec.vars false W args.toList ds gs before) :
    Calls Try.prog 5 args W fun e W' => ∃ v, e = .returned v ∧ Rows.historyRisesSpec.post enc Try.prog Try.f5 false true false false W args v W' := by
  have hval : ∀ (j : Nat) t v, Try.f5.params[j]? = some t → args[j]? = some v → Value.okWide Try.prog W .any base t v := hval0
  clear hval0
  have hW' := hW
  obtain ⟨p, q, hA0, hV, rfl, hfz, hnd⟩ := hW
  have hA : DataW.TrodAll enc Try.prog W 0 (fun _ => true) true Try.f5.params.toList args.toList ds p := hA0
  rw [Try.params5] at hA hval
  obtain ⟨v0, vs0, d0, ds0, p0, q0, hargs, rfl, rfl, h0, r0⟩ := trodAll_cons hA
  obtain ⟨v1, vs1, d1, ds1, p1, q1, rfl, rfl, rfl, h1, r1⟩ := trodAll_cons r0
  obtain ⟨v2, vs2, d2, ds2, p2, q2, rfl, rfl, rfl, h2, r2⟩ := trodAll_cons r1
  obtain ⟨rfl, rfl, rfl⟩ := trodAll_nil r2
  obtain rfl : args = #[v0, v1, v2] := by cases args; simp_all
  obtain ⟨rfl, rfl⟩ := trodVars_none hV
  obtain ⟨a2, rfl, rfl, rfl, w2⟩ := open_int Try.underlying3 (hval 2 3 v2 rfl rfl) h2
  obtain ⟨pp, n, cap, l, rfl, hn, hmx, hro, hri⟩ := runs_open h0 (okWide_slice Try.underlying22 (hval 0 22 v0 rfl rfl))
  obtain ⟨k, pl, nl, cl, ls, qq, rfl, hk, hl, hl2, hls, hin, _⟩ := ask_open (hval 1 25 v1 rfl rfl) h1
  clear hA0
  refine (walk pp n cap l hn hmx hro k pl nl cl ls qq hk hl hl2 hls a2 W hri hin).mono fun e W' ⟨he, hb⟩ => ?_
  subst he
  exact ⟨_, rfl, law_post laidOut (by kernel_rfl) rfl Try.underlying4 rfl hW' rfl hb⟩

set_option maxRecDepth 100000 in
theorem lifted (os : Os) (started : os.Started) (H : Type) (enc : TypeId × Value → H) :
    ReturnsInHanded {} Try.checked os 5 .any (Rows.historyRisesSpec.pre6 enc Try.prog Try.f5 Rows.historyRisesRow.domain false) (Rows.historyRisesSpec.post enc Try.prog Try.f5 false true false false) := by
  refine returnsInHanded_of_change (C := Try.checked) own started (by kernel_rfl) Try.func5
    (ChangeSpec.witness6 (enc := enc) (C := Try.checked) false ⟨#[], #[.slice none 0 0, .agg #[.string ByteArray.empty, .slice none 0 0, .int .i64 0], .int .i64 0], []⟩ 8 (by kernel_rfl) (by kernel_rfl) (by kernel_rfl) (by kernel_rfl)) ?_
  intro W base args ds gs before hval0 hW _ _
  exact contract H enc W base args ds gs before hval0 hW

/-- THE STATEMENT -/
theorem proved : Rows.HistoryRisesSaid :=
  OpenClaim.holds_of_wide 5 Try.f5 rfl rfl rfl rfl rfl rfl rfl ⟨rfl, rfl, rfl, rfl, rfl⟩ rfl rfl rfl rfl rfl (by kernel_rfl) Try.func5 (by kernel_rfl)
    (of_decide_eq_true (by kernel_rfl)) (by unfold Func.isWrapper; first | (rw [if_pos (by decide +kernel)]; kernel_rfl) | (rw [if_neg (by decide +kernel)]; exact ⟨rfl, rfl⟩))
    (fun os started H enc _ => lifted os started H enc)
end historyRises
end Go.Proofs.Ytbkbopaoeehfkaa
