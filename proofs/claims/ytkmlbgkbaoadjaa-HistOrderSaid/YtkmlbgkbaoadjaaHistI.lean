/-
  The law HistOrder: of fewer than so many runtimes order changes nothing, and each is counted; of more it stays right.
-/
import Derived.Test.YtkmlbgkbaoadjaaHistG
import Derived.Test.YtkmlbgkbaoadjaaHistH
import Derived.Test.YtkmlbgkbaoadjaaRegionI
namespace Go.Proofs.Ytkmlbgkbaoadjaa
open Go.RowKit Bt Go.Deep
open Go.ChangeShapes Go.WideShapes Go.ChangeAt
set_option linter.unusedVariables false
set_option linter.unusedSimpArgs false
/-- a slice of numbers that came in -/
def NIn (w : World) (p : Option Addr) (l : List Nat) : Prop := ∀ i, i < l.length → ∃ b off, p = some ⟨b, off, none⟩ ∧ b < w.heap.size ∧ w.cell? ⟨b, off + i, none⟩ = some (.int .u64 (l.getD i 0 : Nat))
theorem NIn.below {w w' : World} {p : Option Addr} {l : List Nat} {B : Nat} (h : NIn w p l) (hb : Below B w w') (hB : w.heap.size ≤ B) : NIn w' p l := fun i hi => by
  obtain ⟨b, off, hp, hlt, hc⟩ := h i hi
  exact ⟨b, off, hp, Nat.lt_of_lt_of_le hlt hb.size, by rw [hb.cell (p := ⟨b, off + i, none⟩) (Nat.lt_of_lt_of_le hlt hB)]; exact hc⟩
section
variable {H : Type} {enc : TypeId × Value → H} {W : World} {base : Nat} {spare : Nat → Bool} {held : Bool}
theorem nums_open {r : Reach} {b0 : Nat} {v : Value} {d : DataW H} {ps : List MemPlace} (hv : Value.okWide Try.prog W r b0 33 v) (h : DataW.Trod enc Try.prog W base spare held 33 v d ps) :
    ∃ (p : Option Addr) (n cap : Nat) (l : List Nat), v = .slice p n cap ∧ l.length = n ∧ n ≤ maxLen ∧ (∀ x ∈ l, x < 18446744073709551616) ∧ NIn W p l := by
  obtain ⟨p, n, cap, rfl⟩ := okWide_slice Try.underlying33 hv
  obtain ⟨fuel, hf⟩ := h
  obtain ⟨hn, hi⟩ := open_ones Try.underlying33 (by kernel_rfl) (p := p) (n := n) (cap := cap) hf
  have each : ∀ i, i < n → ∃ q : Nat, q < 18446744073709551616 ∧ ∃ b off, p = some ⟨b, off, none⟩ ∧ b < W.heap.size ∧ W.cell? ⟨b, off + i, none⟩ = some (.int .u64 (q : Nat)) := fun i hil => by
    obtain ⟨b, off, hp, hb, k, u, y, c0, r0⟩ := hi i hil
    obtain ⟨a, ha, _, wf⟩ := DataW.trod_int Try.underlying22 r0
    simp at ha
    subst ha
    obtain ⟨q, rfl, hq⟩ := u64_nat wf
    exact ⟨q, hq, b, off, hp, hb, c0⟩
  obtain ⟨f, hf⟩ := choose_lt each
  refine ⟨p, n, cap, (List.range n).map f, rfl, by simp, hn, ?_, ?_⟩
  · intro x hx
    obtain ⟨i, hi, rfl⟩ := List.mem_map.1 hx
    exact (hf i (List.mem_range.1 hi)).1
  · intro i hi
    have hin : i < n := by simpa using hi
    have e : ((List.range n).map f).getD i 0 = f i := by
      rw [List.getD_eq_getElem?_getD, List.getElem?_eq_getElem (by simpa using hin)]
      simp
    rw [e]
    exact (hf i hin).2
end
/-- two histograms in memory -/
def Two (w : World) (fa fb : Nat → Int) (w' : World) : Prop := HB w' w.heap.size fa ∧ HB w' (w.heap.size + 1) fb ∧ Below w.heap.size w w'
theorem Two.next {w w' w'' : World} {fa fb : Nat → Int} (h : Two w fa fb w') (hb : Below w'.heap.size w' w'') : Two w fa fb w'' := ⟨h.1.below hb (Nat.le_refl _), h.2.1.below hb (Nat.le_refl _), below_next h.2.2 hb⟩
theorem Two.drew {w w' : World} {fa fb : Nat → Int} (h : Two w fa fb w') : Two w fa fb w'.drew := ⟨h.1, h.2.1, h.2.2.drew⟩
theorem Two.putA {w w' : World} {fa fb : Nat → Int} (h : Two w fa fb w') (g : Nat → Int) : Two w g fb (w'.setRow w.heap.size (hc g)) := ⟨HB.row h.1 g, h.2.1.row_other (by omega) _, below_setRow h.2.2 (Nat.le_refl _) _⟩
theorem Two.putB {w w' : World} {fa fb : Nat → Int} (h : Two w fa fb w') (g : Nat → Int) : Two w fa g (w'.setRow (w.heap.size + 1) (hc g)) := ⟨h.1.row_other (by omega) _, HB.row h.2.1 g, below_setRow h.2.2 (by omega) _⟩
theorem Two.made (w : World) : Two w Hs.z Hs.z ((w.alloc (.cells (hc Hs.z) 28)).alloc (.cells (hc Hs.z) 28)) := two_made w Hs.z
/-- one more from the front, one more from the back -/
theorem run_take {l : List Nat} {j : Nat} (h : j < l.length) : Hs.run (l.take (j + 1)) = Hs.ad (Hs.run (l.take j)) (l.getD j 0) := by
  rw [List.take_succ_eq_append_getElem h, Hs.run_snoc, List.getD_eq_getElem?_getD, List.getElem?_eq_getElem h]
  rfl
theorem run_back {l : List Nat} {j : Nat} (h : j < l.length) : Hs.run (l.reverse.take (j + 1)) = Hs.ad (Hs.run (l.reverse.take j)) (l.getD (l.length - 1 - j) 0) := by
  rw [run_take (by rw [List.length_reverse]; exact h)]
  congr 1
  rw [List.getD_eq_getElem?_getD, List.getD_eq_getElem?_getD, List.getElem?_reverse h]
theorem getD_mem10 {l : List Nat} {j : Nat} (h : j < l.length) : l.getD j 0 ∈ l := by
  rw [List.getD_eq_getElem?_getD, List.getElem?_eq_getElem h]
  exact List.getElem_mem h
namespace histOrder

set_option maxHeartbeats 4000000 in
set_option maxRecDepth 100000 in
theorem walk (l : List Nat) (n : Nat) (p : Option Addr) (cap : Nat) (hn : l.length = n) (hl : ∀ x ∈ l, x < 18446744073709551616) (w : World) (hin : NIn w p l) :
    Calls Try.prog 5 #[.slice p n cap] w fun e w' => e = .returned (.bool true) ∧ Below w.heap.size w w' := by
  by_cases hbig : 300 < n
  · clear hn hl hin
    go_enter Try.func5, Try.ntmps5
    go_wp2_with fail
    refine (hist_live _).mono ?_
    rintro e w1 ⟨rfl, hb1⟩
    go_wp2
    go_ret
    exact ⟨rfl, hb1⟩
  · have HN := Lib.hid hn
    have HLT := Lib.hid hl
    have HIN := Lib.hid hin
    have t0 := Two.made w
    have T0 := Lib.hid t0
    have T1 := Lib.hid (t0.putA Hs.z)
    have T2 := Lib.hid ((t0.putA Hs.z).putB Hs.z)
    have HI0 := Lib.hid (hist_info Hs.z)
    have HO0 := Lib.hid (hc_one Hs.z)
    clear hn hl hin t0
    go_enter Try.func5, Try.ntmps5
    go_wp2_with (first
      | (refine wpList_store_row rfl 28 _ _ rfl w.heap.size (hc Hs.z) rfl rfl 28 (hc Hs.z) T0.out.1 HI0.out rfl HO0.out ?_)
      | (refine wpList_store_row rfl 28 _ _ rfl (w.heap.size + 1) (hc Hs.z) rfl rfl 28 (hc Hs.z) T1.out.2.1 HI0.out rfl HO0.out ?_))
    go_loopw [5] (fun i wr => ∃ j : Nat, i = .int .i64 j ∧ j ≤ n ∧ Hid (Two w (Hs.run (l.take j)) (Hs.run (l.reverse.take j)) wr)) (fun i _ => n - (intOf i).toNat)
    case atStart => exact ⟨0, rfl, Nat.zero_le _, T2⟩
    case round =>
      obtain ⟨j, rfl, hj, ht⟩ := hrel
      by_cases hlt : j < n
      · obtain ⟨b, off, rfl, hbl, hc0⟩ := HIN.out j (by rw [HN.out]; exact hlt)
        obtain ⟨b2, off2, e2, _, hc1⟩ := HIN.out (n - 1 - j) (by rw [HN.out]; omega)
        injection e2 with e2
        injection e2 with e2 e3
        subst e2 e3
        obtain ⟨k, hk⟩ : ∃ k, n - 1 - j = k := ⟨_, rfl⟩
        obtain ⟨q, hq⟩ : ∃ q, n - 1 = q := ⟨_, rfl⟩
        have r1 := run_take (l := l) (j := j) (by rw [HN.out]; exact hlt)
        have r2 := run_back (l := l) (j := j) (by rw [HN.out]; exact hlt)
        have l1 := HLT.out _ (getD_mem10 (l := l) (j := j) (by rw [HN.out]; exact hlt))
        have l2 := HLT.out _ (getD_mem10 (l := l) (j := n - 1 - j) (by rw [HN.out]; omega))
        rw [HN.out, hk] at r2
        rw [hk] at hc1 l2
        obtain ⟨x, hx⟩ : ∃ x, l.getD j 0 = x := ⟨_, rfl⟩
        obtain ⟨y, hy⟩ : ∃ y, l.getD k 0 = y := ⟨_, rfl⟩
        rw [hx] at r1 l1 hc0
        rw [hy] at r2 l2 hc1
        have ht0 := ht.out
        have hTN : Hid (∀ fa fb w', Two w fa fb w' → w'.cell? ⟨b, off + j, none⟩ = some (.int .u64 (x : Nat)) ∧ w'.cell? ⟨b, off + k, none⟩ = some (.int .u64 (y : Nat))) := Lib.hid fun fa fb w' h =>
          ⟨by rw [h.2.2.cell (p := ⟨b, off + j, none⟩) hbl]; exact hc0, by rw [h.2.2.cell (p := ⟨b, off + k, none⟩) hbl]; exact hc1⟩
        obtain ⟨fa, hfa⟩ : ∃ fa, Hs.run (l.take j) = fa := ⟨_, rfl⟩
        obtain ⟨fb, hfb⟩ : ∃ fb, Hs.run (l.reverse.take j) = fb := ⟨_, rfl⟩
        rw [hfa, hfb] at ht0
        rw [hfa] at r1
        rw [hfb] at r2
        have HT := Lib.hid ht0
        have R1 := Lib.hid r1
        have R2 := Lib.hid r2
        have C1 := Lib.hid (fun w => add_any fa x l1 w)
        have C2 := Lib.hid (fun w => add_any fb y l2 w)
        obtain ⟨ga, hga⟩ : ∃ g, Hs.ad fa x = g := ⟨_, rfl⟩
        obtain ⟨gb, hgb⟩ : ∃ g, Hs.ad fb y = g := ⟨_, rfl⟩
        rw [hga] at C1 R1
        rw [hgb] at C2 R2
        have IA := Lib.hid (hist_info ga)
        have IB := Lib.hid (hist_info gb)
        have OA := Lib.hid (hc_one ga)
        have OB := Lib.hid (hc_one gb)
        have f1 : IntKind.i64.wrap ((n : Int) - 1) = (q : Int) := by rw [IntKind.wrap_i64]; omega
        have f2 : IntKind.i64.wrap ((q : Int) - (j : Int)) = (k : Int) := by rw [IntKind.wrap_i64]; omega
        have hkn : k < n := by omega
        have hltz : (j : Int) < (n : Int) := by omega
        clear hc0 hc1 r1 r2 l1 l2 hx hy hga hgb hfa hfb ht ht0 hk hq T0 T1 T2 HIN
        go_wp2_with fail
        refine Bz.wp_region (S := Bz.in3 0 5 6 (fun b1 w1 => Two w (cond b1 ga fa) fb w1)) (by kernel_rfl) ?_ ?_
        · exact Bz.in3_start (by decide) (by decide) (by decide) HT.out.drew
        repeat (first
          | (refine Bz.anyR_value (v := ?_) (by kernel_rfl) (fun m w1 _ hS => Bz.in3_keep (by decide) (by decide) hS) (by rfl) (fun _ _ _ h => h) (fun m w1 hm hS => ?_) ?_
             rotate_left
             · (refine ex_row 28 ?ax ?ah w.heap.size ?ay _ _ _ (show Two w fa fb w1 from Bz.in3_first hm hS).1 Try.underlying28 rfl (by kernel_rfl); (case ah => rfl); (case ay => rfl))
             (try simp only [Act.put, List.setIfInBounds_toArray, List.set_cons_zero, List.set_cons_succ]))
          | (refine Bz.anyR_skip (by kernel_rfl) (by rfl) (fun _ _ _ h => h) (fun m w1 hm hS => ?_) ?_
             · refine ⟨_, Bz.ex_store 28 _ _ rfl w.heap.size (hc ga) rfl rfl 28 (hc fa) (Bz.in3_last hm hS).1 IA.out rfl OA.out, ?_⟩; exact (Bz.in3_T hm (by decide) (by decide) (hm.2 ⟨5, .data⟩ (by simp) rfl) hS ((Bz.in3_last hm hS).putA ga))
             (try simp only [Act.put, List.setIfInBounds_toArray, List.set_cons_zero, List.set_cons_succ]))
          | (refine Bz.anyR_value (v := ?_) (by kernel_rfl) (fun m w1 _ hS => Bz.in3_keep (by decide) (by decide) hS) (by rfl) (fun _ _ _ h => h) (fun m w1 _ hS => ?_) ?_
             rotate_left
             · obtain ⟨q0, q1⟩ := hTN.out _ _ _ hS.2.2
               go_simp
               with_reducible rfl
             (try simp only [Act.put, List.setIfInBounds_toArray, List.set_cons_zero, List.set_cons_succ]))
          | (refine Bz.anyR_not (by kernel_rfl) (fun m w1 _ hS => Bz.in3_keep (by decide) (by decide) hS) (by rfl) (fun _ _ _ h => h) ?_
             (try simp only [Act.put, List.setIfInBounds_toArray, List.set_cons_zero, List.set_cons_succ]))
          | (refine Bz.anyR_call (v := ?_) (f := ?_) (args := ?_) (by kernel_rfl) (by rfl) (fun _ _ _ h => h) (fun m w1 hm hS => ?_) (fun m w1 hm hS => ?_) ?_
             rotate_left 3
             · go_simp
               (try constructor) <;> with_reducible rfl
             · first
                 | ((with_reducible refine ((C1.out _).mono ?_)); rintro e w' ⟨rfl, hb⟩; refine ⟨?_, Bz.in3_K hm (by decide) (by decide) (hm.2 ⟨0, .data⟩ (by simp) rfl) hS ((Bz.in3_mid hm hS).next hb)⟩; with_reducible rfl)
             (try simp only [Act.put, List.setIfInBounds_toArray, List.set_cons_zero, List.set_cons_succ]))
          | refine Bz.anyR_done (by kernel_rfl) (fun w1 hS => ?_))
        have HT2 : Hid (Two w ga fb w1) := Lib.hid (Bz.in3_end (by decide) (by decide) hS)
        clear hS HT
        go_wp2_with fail
        refine Bz.wp_region (S := Bz.in3 0 9 10 (fun b1 w1 => Two w ga (cond b1 gb fb) w1)) (by kernel_rfl) ?_ ?_
        · exact Bz.in3_start (by decide) (by decide) (by decide) HT2.out.drew
        repeat (first
          | (refine Bz.anyR_value (v := ?_) (by kernel_rfl) (fun m w1 _ hS => Bz.in3_keep (by decide) (by decide) hS) (by rfl) (fun _ _ _ h => h) (fun m w1 hm hS => ?_) ?_
             rotate_left
             · (refine ex_row 28 ?dx ?dh (w.heap.size + 1) ?dy _ _ _ (show Two w ga fb w1 from Bz.in3_first hm hS).2.1 Try.underlying28 rfl (by kernel_rfl); (case dh => rfl); (case dy => rfl))
             (try simp only [Act.put, List.setIfInBounds_toArray, List.set_cons_zero, List.set_cons_succ]))
          | (refine Bz.anyR_skip (by kernel_rfl) (by rfl) (fun _ _ _ h => h) (fun m w1 hm hS => ?_) ?_
             · refine ⟨_, Bz.ex_store 28 _ _ rfl (w.heap.size + 1) (hc gb) rfl rfl 28 (hc fb) (Bz.in3_last hm hS).2.1 IB.out rfl OB.out, ?_⟩; exact (Bz.in3_T hm (by decide) (by decide) (hm.2 ⟨9, .data⟩ (by simp) rfl) hS ((Bz.in3_last hm hS).putB gb))
             (try simp only [Act.put, List.setIfInBounds_toArray, List.set_cons_zero, List.set_cons_succ]))
          | (refine Bz.anyR_value (v := ?_) (by kernel_rfl) (fun m w1 _ hS => Bz.in3_keep (by decide) (by decide) hS) (by rfl) (fun _ _ _ h => h) (fun m w1 _ hS => ?_) ?_
             rotate_left
             · obtain ⟨q0, q1⟩ := hTN.out _ _ _ hS.2.2
               go_simp
               with_reducible rfl
             (try simp only [Act.put, List.setIfInBounds_toArray, List.set_cons_zero, List.set_cons_succ]))
          | (refine Bz.anyR_not (by kernel_rfl) (fun m w1 _ hS => Bz.in3_keep (by decide) (by decide) hS) (by rfl) (fun _ _ _ h => h) ?_
             (try simp only [Act.put, List.setIfInBounds_toArray, List.set_cons_zero, List.set_cons_succ]))
          | (refine Bz.anyR_call (v := ?_) (f := ?_) (args := ?_) (by kernel_rfl) (by rfl) (fun _ _ _ h => h) (fun m w1 hm hS => ?_) (fun m w1 hm hS => ?_) ?_
             rotate_left 3
             · go_simp
               (try constructor) <;> with_reducible rfl
             · first
                 | ((with_reducible refine ((C2.out _).mono ?_)); rintro e w' ⟨rfl, hb⟩; refine ⟨?_, Bz.in3_K hm (by decide) (by decide) (hm.2 ⟨0, .data⟩ (by simp) rfl) hS ((Bz.in3_mid hm hS).next hb)⟩; with_reducible rfl)
             (try simp only [Act.put, List.setIfInBounds_toArray, List.set_cons_zero, List.set_cons_succ]))
          | refine Bz.anyR_done (by kernel_rfl) (fun w1 hS => ?_))
        have HF : Hid (Two w (Hs.run (l.take (j + 1))) (Hs.run (l.reverse.take (j + 1))) w1) := Lib.hid (by rw [R1.out, R2.out]; exact Bz.in3_end (by decide) (by decide) hS)
        clear hS HT2
        go_wp2
        go_roundw
        case rel => exact ⟨j + 1, by go_num, hlt, HF⟩
        case measure => simp [intOf]; omega
      · have he : j = n := by omega
        subst he
        have ht0 := ht.out
        have hl1 := HN.out
        rw [List.take_of_length_le (by omega), List.take_of_length_le (by rw [List.length_reverse]; omega)] at ht0
        clear hlt hj ht hbig HIN T0 T1 T2
        by_cases h64 : 64 < j
        · have hr := Hs.right_run l
          have hsome := Hs.some_run (l := l) (by intro e; rw [e] at hl1; simp at hl1; omega)
          have c1 := fun w => right_any (Hs.run l) w
          have c2 := fun w => total_any (Hs.run l) (In.far (Hs.rt_iff.1 hr).1) w
          rw [hr] at c1
          obtain ⟨fa, hfa⟩ : ∃ fa, Hs.run l = fa := ⟨_, rfl⟩
          rw [hfa] at c1 c2 ht0 hsome
          obtain ⟨t, htt⟩ : ∃ t, Hs.tot fa = t := ⟨_, rfl⟩
          rw [htt] at c2 hsome
          have ht1 : 0 < t := by omega
          have C1 := Lib.hid c1
          have C2 := Lib.hid c2
          have HT := Lib.hid ht0
          clear c1 c2 ht0 hr hfa htt hsome hl1
          go_wp2_with (refine ld_row (by rfl) 28 _ rfl w.heap.size rfl _ _ _ _ HT.out.1 Try.underlying28 rfl (by kernel_rfl) ?_)
          refine (C1.out _).mono ?_
          rintro e w2 ⟨rfl, hb2⟩
          have HT2 := Lib.hid (HT.out.next hb2)
          clear hb2
          go_wp2_with (refine ld_row (by rfl) 28 _ rfl w.heap.size rfl _ _ _ _ HT2.out.1 Try.underlying28 rfl (by kernel_rfl) ?_)
          refine (C2.out _).mono ?_
          rintro e w3 ⟨rfl, hb3⟩
          have HT3 := Lib.hid (HT2.out.next hb3)
          clear hb3
          go_wp2_with fail
          refine (hist_live _).mono ?_
          rintro e w4 ⟨rfl, hb4⟩
          go_wp2
          go_ret
          exact ⟨rfl, below_next HT3.out.2.2 hb4⟩
        · have hr := Hs.right_run l
          have ho := Hs.run_order (l := l) (by omega)
          have hsome := Hs.run_tot (l := l) (by omega)
          have c2 := fun w => total_any (Hs.run l) (In.far (Hs.rt_iff.1 hr).1) w
          rw [hsome, hl1] at c2
          rw [← ho] at ht0
          obtain ⟨fa, hfa⟩ : ∃ fa, Hs.run l = fa := ⟨_, rfl⟩
          rw [hfa] at c2 ht0
          have C2 := Lib.hid c2
          have HT := Lib.hid ht0
          have hEQ : ∀ w, (Op.equalIn 10000 28 (.agg (hc fa)) (.agg (hc fa))).run Try.prog w = .ok true w := fun w => by rw [eq_hc, same_self]
          clear c2 ht0 hr hfa hsome hl1 ho
          go_wp2_with (first
            | refine ld_row (by rfl) 28 _ rfl w.heap.size rfl _ _ _ _ HT.out.1 Try.underlying28 rfl (by kernel_rfl) ?_
            | refine ld_row (by rfl) 28 _ rfl (w.heap.size + 1) rfl _ _ _ _ HT.out.2.1 Try.underlying28 rfl (by kernel_rfl) ?_)
          refine (C2.out _).mono ?_
          rintro e w3 ⟨rfl, hb3⟩
          have HT3 := Lib.hid (HT.out.next hb3)
          clear hb3
          go_wp2_with fail
          refine (hist_live _).mono ?_
          rintro e w4 ⟨rfl, hb4⟩
          go_wp2
          go_ret
          exact ⟨rfl, below_next HT3.out.2.2 hb4⟩
theorem own : ownKnob Try.prog.godebug = none := by kernel_rfl
theorem laidOut : laidOutB Try.prog = true := by kernel_rfl
set_option maxRecDepth 100000 in
theorem contract (H : Type) (enc : TypeId × Value → H) (W : World) (base : Nat) (args : Array Value) (ds gs : List (DataW H)) (before : List MemPlace)
    (hval0 : ∀ (j : Nat) t v, Try.f5.params[j]? = some t → args[j]? = some v → Value.okWide Try.prog W .any base t v)
    (hW : DataW.Whole enc Try.prog Try.f5.params.toList Rows.histOrderSpec.vars false W args.toList ds gs before) :
    Calls Try.prog 5 args W fun e W' => ∃ v, e = .returned v ∧ Rows.histOrderSpec.post enc Try.prog Try.f5 false true false false W args v W' := by
  have hval : ∀ (j : Nat) t v, Try.f5.params[j]? = some t → args[j]? = some v → Value.okWide Try.prog W .any base t v := hval0
  clear hval0
  have hW' := hW
  obtain ⟨p, q, hA0, hV, rfl, hfz, hnd⟩ := hW
  have hA : DataW.TrodAll enc Try.prog W 0 (fun _ => true) true Try.f5.params.toList args.toList ds p := hA0
  rw [Try.params5] at hA hval
  obtain ⟨v0, vs0, d0, ds0, p0, q0, hargs, rfl, rfl, h0, r0⟩ := trodAll_cons hA
  obtain ⟨rfl, rfl, rfl⟩ := trodAll_nil r0
  obtain rfl : args = #[v0] := by cases args; simp_all
  obtain ⟨rfl, rfl⟩ := trodVars_none hV
  clear hA0
  obtain ⟨pp, n0, cap0, l0, rfl, hn0, _, hl0, hin0⟩ := nums_open (hval 0 33 v0 rfl rfl) h0
  refine (walk l0 n0 pp cap0 hn0 hl0 W hin0).mono fun e W' ⟨he, hb⟩ => ?_
  subst he
  exact ⟨_, rfl, law_post laidOut (by kernel_rfl) rfl Try.underlying4 rfl hW' rfl hb⟩

set_option maxRecDepth 100000 in
theorem lifted (os : Os) (started : os.Started) (H : Type) (enc : TypeId × Value → H) :
    ReturnsInHanded {} Try.checked os 5 .any (Rows.histOrderSpec.pre6 enc Try.prog Try.f5 Rows.histOrderRow.domain false) (Rows.histOrderSpec.post enc Try.prog Try.f5 false true false false) := by
  refine returnsInHanded_of_change (C := Try.checked) own started (by kernel_rfl) Try.func5
    (ChangeSpec.witness6 (enc := enc) (C := Try.checked) false ⟨#[], #[.slice none 0 0], []⟩ 8 (by kernel_rfl) (by kernel_rfl) (by kernel_rfl) (by kernel_rfl)) ?_
  intro W base args ds gs before hval0 hW _ _
  exact contract H enc W base args ds gs before hval0 hW

/-- THE STATEMENT -/
theorem proved : Rows.HistOrderSaid :=
  OpenClaim.holds_of_wide 5 Try.f5 rfl rfl rfl rfl rfl rfl rfl ⟨rfl, rfl, rfl, rfl, rfl⟩ rfl rfl rfl rfl rfl (by kernel_rfl) Try.func5 (by kernel_rfl)
    (of_decide_eq_true (by kernel_rfl)) (by unfold Func.isWrapper; first | (rw [if_pos (by decide +kernel)]; kernel_rfl) | (rw [if_neg (by decide +kernel)]; exact ⟨rfl, rfl⟩))
    (fun os started H enc _ => lifted os started H enc)
end histOrder
end Go.Proofs.Ytkmlbgkbaoadjaa
