/-
  CONTRACTS OF LAYER 7 (conf), part E: the page's tenants.
-/
import Derived.Test.YtkkbdbelkcelhaaConfB
import Derived.Lib.SlicesS
namespace Go.Proofs.Ytkkbdbelkcelhaa
open Go.RowKit Go.Maps
set_option linter.unusedVariables false

def rten (l : List Cf.Tn) : Int := if l.length < 1 ∨ 6 < l.length then 9 else Cf.tn [] l
theorem rname_all (s : ByteArray) (w : World) (hs : s.size ≤ maxLen) : Calls Try.prog 27 #[.string s] w fun e w' => e = .returned (.bool (Tx.isName s.data.toList)) ∧ Below w.heap.size w w' := by
  by_cases h : s.size ≤ 1000000
  · exact rname_any s w h
  · unfold maxLen at hs
    have hf : Tx.isName s.data.toList = false := by
      rw [Bool.eq_false_iff]
      intro h
      have := Tx.name_short h
      rw [ba_len] at this
      omega
    rw [hf]
    clear hf
    go_enter Try.func27, Try.ntmps27
    go_wp2
    go_ret
    exact ⟨rfl, Below.refl _ _⟩
theorem there_more {l : List Cf.Tn} {i j : Nat} {s : ByteArray} (h : i ≤ j) (ht : Cf.there (l.take i) s = true) : Cf.there (l.take j) s = true := by
  unfold Cf.there at ht ⊢
  rw [List.any_eq_true] at ht ⊢
  obtain ⟨x, hx, hs⟩ := ht
  exact ⟨x, (List.take_sublist_take_left h).subset hx, hs⟩
set_option maxHeartbeats 2000000 in
set_option maxRecDepth 100000 in
theorem rtenants_any (l : List Cf.Tn) (n : Nat) (p : Option Addr) (cap : Nat) (w : World) (hn : l.length = n) (hnm : ∀ t ∈ l, t.name.size ≤ maxLen) (h : TIn w p l) (hl : n ≤ 100) :
    Calls Try.prog 22 #[.slice p n cap] w fun e w' => e = .returned (.int .i64 (rten l)) ∧ Below w.heap.size w w' := by
  have hin := fun w => in_any (n : Int) 1 6 w
  by_cases hmany : l.length < 1 ∨ 6 < l.length
  · have hR : Hid (rten l = 9) := Lib.hid (by unfold rten; rw [if_pos hmany])
    rw [Cf.inn_no.2 (by omega)] at hin
    have HI := Lib.hid hin
    have HN := Lib.hid hn
    clear hn hin hmany
    go_enter Try.func22, Try.ntmps22
    go_wp2_with (go_at_call 23; refine (HI.out _).mono ?_; rintro e w' ⟨rfl, rfl⟩)
    go_ret
    exact ⟨ret_i64 hR.out.symm, Below.refl _ _⟩
  · obtain ⟨R, hR⟩ : ∃ R, rten l = R := ⟨_, rfl⟩
    rw [hR]
    have HR : Hid (Cf.tn (l.take 0) (l.drop 0) = R) := Lib.hid (by rw [List.drop_zero, List.take_zero, ← hR]; unfold rten; rw [if_neg hmany])
    rw [Cf.inn_iff.2 (by omega)] at hin
    have HI := Lib.hid hin
    have hn6 : n ≤ 6 := by omega
    have HN := Lib.hid hn
    have HB := Lib.hid h
    have HNM := Lib.hid hnm
    clear hn hin hmany hR h hnm
    have mixed : Try.prog.follows .mixedOrders = true := by kernel_rfl
    go_enter Try.func22, Try.ntmps22
    go_wp2_with (go_at_call 23; refine (HI.out _).mono ?_; rintro e w' ⟨rfl, rfl⟩)
    go_loopw [3] (fun i wr => ∃ k : Nat, i = .int .i64 k ∧ k ≤ n ∧ Hid (Cf.tn (l.take k) (l.drop k) = R) ∧ Below w.heap.size w wr) (fun i _ => n - (intOf i).toNat)
    case atStart => exact ⟨0, rfl, Nat.zero_le _, HR, Below.refl _ _⟩
    case round =>
      obtain ⟨k, rfl, hk, hr, hb⟩ := hrel
      by_cases hlt : k < n
      · obtain ⟨b, off, rfl, hbl0, hd0, hd1, hd2⟩ := HB.out k (by rw [HN.out]; exact hlt)
        have hc0 := (hb.cell (p := ⟨b, off + k * 3, none⟩) hbl0).trans hd0
        have hd := Cf.drop_tn (l := l) (i := k) (by rw [HN.out]; exact hlt)
        have ht := Cf.take_tn (l := l) (i := k) (by rw [HN.out]; exact hlt)
        have hmem : l.getD k Cf.t0 ∈ l := by
          rw [List.getD_eq_getElem?_getD, List.getElem?_eq_getElem (by rw [HN.out]; exact hlt)]
          exact List.getElem_mem _
        have hsz := HNM.out _ hmem
        obtain ⟨⟨nm, wt, qt⟩, hq⟩ : ∃ t, l.getD k Cf.t0 = t := ⟨_, rfl⟩
        rw [hq] at hc0 hd0 hd1 hd2 hd ht hsz
        simp only at hc0 hd0 hd1 hd2 hsz
        have hr2 := hr.out
        rw [hd, Cf.tn] at hr2
        have HT := Lib.hid ht
        have HR2 := Lib.hid hr2
        have hnc := fun w => rname_all nm w hsz
        obtain ⟨isn, hisn⟩ : ∃ x, Tx.isName nm.data.toList = x := ⟨_, rfl⟩
        rw [hisn] at hnc
        have HNC := Lib.hid hnc
        have HISN := Lib.hid hisn
        have HQ := Lib.hid hq
        have HD0 := Lib.hid hd0
        have HD1 := Lib.hid hd1
        have HD2 := Lib.hid hd2
        clear hr hd ht hq hr2 hmem hnc hisn hd0 hd1 hd2 hsz
        cases isn
        · have HE : Hid (R = 5) := Lib.hid (by
            have := HR2.out
            rw [show Cf.t1 ⟨nm, wt, qt⟩ = 5 by unfold Cf.t1; rw [if_neg (by rw [HISN.out]; decide)], if_neg (by decide)] at this
            exact this.symm)
          go_wp2_with fail
          refine (HNC.out _).mono ?_
          rintro e w2 ⟨rfl, hb2⟩
          go_wp2
          go_ret
          exact ⟨ret_i64 HE.out.symm, below_next hb hb2⟩
        · go_wp2_with fail
          refine (HNC.out _).mono ?_
          rintro e w2 ⟨rfl, hb2⟩
          have hb02 := below_next hb hb2
          have hc1 := (hb02.cell (p := ⟨b, off + k * 3 + 1, none⟩) hbl0).trans HD1.out
          have hc2 := (hb02.cell (p := ⟨b, off + k * 3 + 2, none⟩) hbl0).trans HD2.out
          have hi1 := fun w => in_any wt 1 16 w
          have hi2 := fun w => in_any qt 1 256 w
          clear hc0 hb hb2 HNC
          have one : ∀ R0 : Int, Cf.t1 ⟨nm, wt, qt⟩ = 1 → Hid (R = 1) := fun _ h1 => Lib.hid (by
            have := HR2.out
            rw [h1, if_neg (by decide)] at this
            exact this.symm)
          have t11 : (Cf.inn wt 1 16 && Cf.inn qt 1 256) = false → Cf.t1 ⟨nm, wt, qt⟩ = 1 := fun h => by
            unfold Cf.t1
            rw [if_pos HISN.out, if_neg (by rw [h]; decide)]
          cases h1 : Cf.inn wt 1 16
          · have HE := one 0 (t11 (by rw [h1]; rfl))
            rw [h1] at hi1
            have H1 := Lib.hid hi1
            clear hi1 hi2 one t11 h1
            go_wp2_with fail
            refine (H1.out _).mono ?_
            rintro e w3 ⟨rfl, rfl⟩
            go_wp2
            go_ret
            exact ⟨ret_i64 HE.out.symm, hb02⟩
          · cases h2 : Cf.inn qt 1 256
            · have HE := one 0 (t11 (by rw [h1, h2]; rfl))
              rw [h1] at hi1
              rw [h2] at hi2
              have H1 := Lib.hid hi1
              have H2 := Lib.hid hi2
              clear hi1 hi2 one t11 h1 h2
              go_wp2_with fail
              refine (H1.out _).mono ?_
              rintro e w3 ⟨rfl, rfl⟩
              go_wp2_with fail
              refine (H2.out _).mono ?_
              rintro e w3 ⟨rfl, rfl⟩
              go_wp2
              go_ret
              exact ⟨ret_i64 HE.out.symm, hb02⟩
            · have HE0 : Hid ((if Cf.there (l.take k) nm = true then 8 else Cf.tn (l.take (k + 1)) (l.drop (k + 1))) = R) := Lib.hid (by
                have := HR2.out
                rw [show Cf.t1 ⟨nm, wt, qt⟩ = 0 by unfold Cf.t1; rw [if_pos HISN.out, if_pos (by rw [h1, h2]; rfl)], if_pos rfl] at this
                rw [HT.out]
                exact this)
              rw [h1] at hi1
              rw [h2] at hi2
              have H1 := Lib.hid hi1
              have H2 := Lib.hid hi2
              clear hi1 hi2 one t11 h1 h2 HR2 HISN
              go_wp2_with fail
              refine (H1.out _).mono ?_
              rintro e w3 ⟨rfl, rfl⟩
              go_wp2_with fail
              refine (H2.out _).mono ?_
              rintro e w3 ⟨rfl, rfl⟩
              clear hc1 hc2 H1 H2
              go_wp2
              go_loopw [4] (fun m wx => ∃ j : Nat, m = .int .i64 j ∧ j ≤ k ∧ Hid (Cf.there (l.take j) nm = false) ∧ Below w.heap.size w wx) (fun m _ => k - (intOf m).toNat)
              case atStart => exact ⟨0, rfl, Nat.zero_le _, Lib.hid rfl, hb02⟩
              case round =>
                obtain ⟨j, rfl, hj, hth, hb3⟩ := hrel
                by_cases hjk : j < k
                · obtain ⟨b2, off2, hp2, _, he0, _, _⟩ := HB.out j (by rw [HN.out]; omega)
                  obtain ⟨rfl, rfl⟩ : b = b2 ∧ off = off2 := by
                    injection hp2 with hp2
                    injection hp2 with h1 h2
                    exact ⟨h1, h2⟩
                  have hc0 := (hb3.cell (p := ⟨b, off + k * 3, none⟩) hbl0).trans HD0.out
                  have hc1 := (hb3.cell (p := ⟨b, off + j * 3, none⟩) hbl0).trans he0
                  have hjn : j < n := by omega
                  obtain ⟨nm2, hnm2⟩ : ∃ x, (l.getD j Cf.t0).name = x := ⟨_, rfl⟩
                  rw [hnm2] at hc1
                  have ht2 := Cf.take_tn (l := l) (i := j) (by rw [HN.out]; omega)
                  have hb4 := hb3.drew
                  clear hp2 he0 hb3
                  by_cases heq : nm2 = nm
                  · subst heq
                    have HE : Hid (R = 8) := Lib.hid (by
                      have h1 : Cf.there (l.take (j + 1)) nm2 = true := by rw [ht2, Cf.there_snoc, hnm2]; simp
                      have := HE0.out
                      rw [if_pos (there_more (by omega) h1)] at this
                      exact this.symm)
                    clear ht2 hnm2 hth
                    go_wp2
                    go_region_o
                    go_wp2
                    go_ret
                    exact ⟨ret_i64 HE.out.symm, hb4⟩
                  · have HTH : Hid (Cf.there (l.take (j + 1)) nm = false) := Lib.hid (by rw [ht2, Cf.there_snoc, hnm2, hth.out]; simp [heq])
                    have heq1 : (nm2.toList == nm.toList) = false := Go.Lib.bytes_beq_false_iff _ _ |>.2 heq
                    clear ht2 hnm2 hth
                    go_wp2
                    go_region_o
                    go_wp2
                    go_roundw
                    case rel => exact ⟨j + 1, by go_num, hjk, HTH, hb4⟩
                    case measure => simp [intOf]; omega
                · have HE : Hid (Cf.tn (l.take (k + 1)) (l.drop (k + 1)) = R) := Lib.hid (by
                    obtain rfl : j = k := by omega
                    have := HE0.out
                    rw [if_neg (by rw [hth.out]; decide)] at this
                    exact this)
                  clear hth HE0
                  go_wp2
                  go_roundw
                  case rel => exact ⟨k + 1, by go_num, hlt, HE, hb3⟩
                  case measure => simp [intOf]; omega
      · have HE : Hid (R = 0) := Lib.hid (by
          have := hr.out
          rw [List.drop_eq_nil_of_le (by rw [HN.out]; omega)] at this
          exact this.symm)
        clear hr
        go_wp2
        go_ret
        exact ⟨ret_i64 HE.out.symm, hb⟩
end Go.Proofs.Ytkkbdbelkcelhaa
