/-
  THE LAW WheelPieces.
-/
import Derived.Test.YtjppbmkoblbfeaaWheelO
import Derived.Test.YtjppbmkoblbfeaaFrame
namespace Go.Proofs.Ytjppbmkoblbfeaa
open Go.RowKit Wl
open Go.ChangeShapes Go.WideShapes Go.ChangeAt Go.Joins
set_option linter.unusedVariables false
/-- what a wheel of L has told when it was turned piece by piece up to lst -/
structure Pc (L : List T) (lst : Nat) (Lv out : List T) (Q : T → Bool) : Prop where
  remE : Lv = L.filter Q
  nd : out.Nodup
  mem : ∀ x, x ∈ out ↔ x ∈ L ∧ Q x = false
  srt : out.Pairwise lt
  le : ∀ x ∈ out, x.2 ≤ lst
  lo : ∀ x ∈ out, ∀ y ∈ Lv, lt x y
theorem Pc.turn {L Lv out d : List T} {lst l2 : Nat} {Q : T → Bool} (h : Pc L lst Lv out Q) (hk : Ks L) (hle : lst ≤ l2) (hd : Srt (Go.Proofs.Ytjppbmkoblbfeaa.lo Lv l2) d) : Pc L l2 (hi Lv l2) (out ++ d) (fun x => Q x && decide (l2 < x.2)) := by
  have hmd : ∀ x, x ∈ d ↔ x ∈ L ∧ Q x = true ∧ x.2 ≤ l2 := fun x => by
    rw [hd.1.mem_iff]
    unfold Go.Proofs.Ytjppbmkoblbfeaa.lo
    rw [List.mem_filter, h.remE, List.mem_filter]
    simp [and_assoc]
  have hLv : ∀ x, x ∈ Lv ↔ x ∈ L ∧ Q x = true := fun x => by rw [h.remE, List.mem_filter]
  have hhi : ∀ x, x ∈ hi Lv l2 ↔ x ∈ Lv ∧ l2 < x.2 := fun x => by unfold hi; rw [List.mem_filter]; simp
  exact {
    remE := by
      unfold hi
      rw [h.remE, List.filter_filter]
      exact List.filter_congr (fun x _ => by rw [Bool.and_comm])
    nd := by
      rw [List.nodup_append]
      have hnd : d.Nodup := hd.1.nodup_iff.2 (by rw [h.remE]; exact List.Pairwise.filter _ (List.Pairwise.filter _ hk.nodup))
      refine ⟨h.nd, hnd, fun a ha b hb e => ?_⟩
      subst e
      have h1 := ((h.mem a).1 ha).2
      have h2 := ((hmd a).1 hb).2.1
      rw [h1] at h2
      cases h2
    mem := fun x => by
      rw [List.mem_append, h.mem x, hmd x]
      constructor
      · rintro (⟨h1, h2⟩ | ⟨h1, h2, h3⟩)
        · exact ⟨h1, by rw [h2]; rfl⟩
        · refine ⟨h1, ?_⟩
          have : ¬ l2 < x.2 := by omega
          simp [this]
      · rintro ⟨h1, h2⟩
        cases hq : Q x with
        | false => exact Or.inl ⟨h1, rfl⟩
        | true =>
          rw [hq] at h2
          right
          refine ⟨h1, rfl, ?_⟩
          have : ¬ l2 < x.2 := by simpa using h2
          omega
    srt := by
      rw [List.pairwise_append]
      refine ⟨h.srt, hd.2, fun a ha b hb => ?_⟩
      obtain ⟨h1, h2, _⟩ := (hmd b).1 hb
      exact h.lo a ha b ((hLv b).2 ⟨h1, h2⟩)
    le := fun x hx => by
      rcases List.mem_append.1 hx with h1 | h1
      · exact Nat.le_trans (h.le x h1) hle
      · exact ((hmd x).1 h1).2.2
    lo := fun x hx y hy => by
      obtain ⟨hy1, hy2⟩ := (hhi y).1 hy
      rcases List.mem_append.1 hx with h1 | h1
      · exact h.lo x h1 y hy1
      · have := ((hmd x).1 h1).2.2
        exact Or.inl (by omega) }
theorem Pc.fin {L Lv out : List T} {lst : Nat} {Q : T → Bool} (h : Pc L lst Lv out Q) (hk : Ks L) (hl : ∀ x ∈ Lv, lst < x.2) : Srt (Go.Proofs.Ytjppbmkoblbfeaa.lo L lst) out ∧ Lv = hi L lst := by
  have hQ : ∀ x ∈ L, Q x = decide (lst < x.2) := fun x hx => by
    cases hq : Q x with
    | true =>
      have := hl x (by rw [h.remE]; exact List.mem_filter.2 ⟨hx, hq⟩)
      simp [this]
    | false =>
      have := h.le x ((h.mem x).2 ⟨hx, hq⟩)
      symm
      rw [decide_eq_false_iff_not]
      omega
  refine ⟨⟨?_, h.srt⟩, by rw [h.remE]; exact List.filter_congr hQ⟩
  unfold Go.Proofs.Ytjppbmkoblbfeaa.lo
  rw [List.perm_ext_iff_of_nodup h.nd (List.Pairwise.filter _ hk.nodup)]
  intro x
  rw [h.mem x, List.mem_filter]
  constructor
  · rintro ⟨h1, h2⟩
    rw [hQ x h1, decide_eq_false_iff_not] at h2
    exact ⟨h1, by simpa using (by omega : x.2 ≤ lst)⟩
  · rintro ⟨h1, h2⟩
    refine ⟨h1, ?_⟩
    rw [hQ x h1, decide_eq_false_iff_not]
    have : x.2 ≤ lst := by simpa using h2
    omega
theorem Two.grown {w0 wr w' : World} {Dw Dv : Wd} {nw nv : Nat} {Lw Lv : List T} {row : Option Nat} (h : Two w0 Dw Dv nw nv Lw Lv wr) (hg : wr.grownBy w' row) (hn : ∀ x, row = some x → ¬ Dw.fp x ∧ ¬ Dv.fp x ∧ w0.heap.size ≤ x) : Two w0 Dw Dv nw nv Lw Lv w' := by
  have hm : Mv (fun x => row = some x) wr w' := Mv.of_grown hg (fun k e _ => e)
  have hb : Below w0.heap.size w0 w' := h.1.bl.trans (hm.below h.1.bl.size (fun k hk e => by have := (hn k e).2.2; omega))
  exact ⟨⟨h.1.wh.mv hm (fun x hx e => (hn x e).1 hx), h.1.base, hb⟩, ⟨h.2.1.wh.mv hm (fun x hx e => (hn x e).2.1 hx), h.2.1.base, hb⟩, h.2.2⟩
/-- the law's loop: both wheels, what has been told -/
def PL (w0 : World) (bw bv now : Nat) (L : List T) (j lst : Nat) (ov : Value) (wr : World) : Prop :=
  ∃ Dw Dv Lv d Q, Dw.b = bw ∧ Dv.b = bv ∧ Two w0 Dw Dv now lst L Lv wr ∧ OwnT wr w0.heap.size ov d ∧ Pc L lst Lv d Q ∧ now ≤ lst ∧ (1 ≤ j → ∀ x ∈ Lv, lst < x.2)
namespace wheelPieces
set_option maxHeartbeats 1000000 in
theorem walk_big (now : Nat) (p : Option Addr) (n cap : Nat) (q : Option Addr) (m cc : Nat) (w : World) (h : 100 < n ∨ m < 1 ∨ 60 < m) (hn : n ≤ 9223372036854775807) (hm : m ≤ 9223372036854775807) :
    Calls Try.prog 4 #[.int .u64 now, .slice p n cap, .slice q m cc] w fun e w' => e = .returned (.bool true) ∧ Below w.heap.size w w' := by
  by_cases h1 : 100 < n
  · have hz : (100 : Int) < (n : Int) := by omega
    clear h
    go_enter Try.func4, Try.ntmps4
    go_wp2_with fail
    refine (whl.live_any _).mono ?_
    rintro e w' ⟨rfl, hb⟩
    go_wp2
    go_ret
    exact ⟨rfl, hb⟩
  · by_cases h2 : m < 1
    · have hz : (m : Int) < 1 := by omega
      have hz2 : ¬ ((100 : Int) < (n : Int)) := by omega
      clear h
      go_enter Try.func4, Try.ntmps4
      go_wp2_with fail
      refine (whl.live_any _).mono ?_
      rintro e w' ⟨rfl, hb⟩
      go_wp2
      go_ret
      exact ⟨rfl, hb⟩
    · have h3 : 60 < m := by omega
      have hz : ¬ ((m : Int) < 1) := by omega
      have hz2 : ¬ ((100 : Int) < (n : Int)) := by omega
      have hz3 : (60 : Int) < (m : Int) := by omega
      clear h
      go_enter Try.func4, Try.ntmps4
      go_wp2_with fail
      refine (whl.live_any _).mono ?_
      rintro e w' ⟨rfl, hb⟩
      go_wp2
      go_ret
      exact ⟨rfl, hb⟩
set_option maxHeartbeats 4000000 in
set_option maxRecDepth 20000 in
theorem walk_small (now : Nat) (hnow : now < 2 ^ 64) (p : Option Addr) (n cap : Nat) (acts : List A) (q : Option Addr) (m cc : Nat) (cuts : List Nat) (w : World) (hn : acts.length = n) (hm : cuts.length = m) (hn2 : n ≤ 100) (hm1 : 1 ≤ m) (hm2 : m ≤ 60)
    (haw : AW acts) (hcw : ∀ x ∈ cuts, x < 2 ^ 64) (hac : AC w p acts) (huc : UC w q cuts) :
    Calls Try.prog 4 #[.int .u64 now, .slice p n cap, .slice q m cc] w fun e w' => e = .returned (.bool true) ∧ Below w.heap.size w w' := by
  have HPUT := Lib.hid (fun (W : World) (D : Wd) (h : Own w D now [] W) => lput_any h p n cap acts hn hn2 haw hac)
  have HM := Lib.hid hm
  have HCW := Lib.hid hcw
  have HUC := Lib.hid huc
  have HNEW := Lib.hid (fun W => new_any now W hnow)
  have HNOW := Lib.hid hnow
  obtain ⟨L, hL⟩ : ∃ L, fill [] acts = L := ⟨_, rfl⟩
  rw [hL] at HPUT
  obtain ⟨zn, hzn⟩ : ∃ z : Int, (now : Int) = z := ⟨_, rfl⟩
  have HZN := Lib.hid hzn
  rw [hzn] at HNEW ⊢
  have hd1 : decide ((100 : Int) < (n : Int)) = false := by rw [decide_eq_false_iff_not]; omega
  have hd2 : decide ((m : Int) < 1) = false := by rw [decide_eq_false_iff_not]; omega
  have hd3 : decide ((60 : Int) < (m : Int)) = false := by rw [decide_eq_false_iff_not]; omega
  clear hn hm haw hcw hac huc hL hzn hnow
  go_enter Try.func4, Try.ntmps4
  go_wp2_with fail
  refine (HNEW.out _).mono ?_
  rintro e w1 ⟨D1, rfl, hw1, hf1, hb1⟩
  have O1 := Lib.hid (Own.new hw1 hf1 hb1)
  clear hw1 hf1 hb1
  go_wp2_with fail
  refine (HNEW.out _).mono ?_
  rintro e w2 ⟨D2, rfl, hw2, hf2, hb2⟩
  have T2 : Hid (Two w D1 D2 now now [] [] w2) := Lib.hid ⟨O1.out.below hb2, ⟨hw2, fun x hx => Nat.le_trans O1.out.bl.size (hf2 x hx), O1.out.bl.trans (hb2.mono O1.out.bl.size)⟩, fun x hx hx2 => by
    have h1 := O1.out.wh.lt hx
    have h2 := hf2 x hx2
    omega⟩
  obtain ⟨bw, hbw⟩ : ∃ b, D1.b = b := ⟨_, rfl⟩
  obtain ⟨bv, hbv⟩ : ∃ b, D2.b = b := ⟨_, rfl⟩
  have P1 := HPUT.out _ D1 T2.out.1
  have HBW := Lib.hid hbw
  have HBV := Lib.hid hbv
  rw [hbw] at P1
  have HP1 := Lib.hid P1
  rw [hbw, hbv]
  clear hw2 hf2 hb2 P1 hbw hbv
  go_wp2_with fail
  refine HP1.out.mono ?_
  rintro e w3 ⟨rfl, D3, hb3, ho3, hs3⟩
  have T3 := Lib.hid (T2.out.stepW hs3 ho3)
  have HB3 := Lib.hid (hb3.trans HBW.out)
  have P2 := HPUT.out _ D2 T3.out.2.1
  rw [HBV.out] at P2
  have HP2 := Lib.hid P2
  clear hb3 ho3 hs3 P2
  go_wp2_with fail
  refine HP2.out.mono ?_
  rintro e w4 ⟨rfl, D4, hb4, ho4, hs4⟩
  have T4 := Lib.hid (T3.out.stepV hs4 ho4)
  have HB4 := Lib.hid (hb4.trans HBV.out)
  clear hb4 ho4 hs4
  obtain ⟨W5, hW5⟩ : ∃ W5, w4.alloc (.cells #[] 51) = W5 := ⟨_, rfl⟩
  have HBEG : Hid (PL w bw bv now L 0 now (.slice (some ⟨w4.heap.size, 0, none⟩) 0 0) W5) := Lib.hid ⟨D3, D4, L, [], fun _ => true, HB3.out, HB4.out, by
    rw [← hW5]
    exact T4.out.below ((Below.refl _ _).alloc (Nat.le_refl _) _), by
    rw [← hW5]
    exact OwnT.mono (show OwnT _ w4.heap.size _ [] from World.ownsRow_made w4 #[] 0 (Nat.le_refl _) (by decide) rfl) T4.out.1.bl.size, {
      remE := by symm; rw [List.filter_eq_self]; intro x _; rfl
      nd := List.nodup_nil
      mem := fun x => by simp
      srt := List.Pairwise.nil
      le := fun x e => by cases e
      lo := fun x e => by cases e }, Nat.le_refl _, fun e => by omega⟩
  go_wp2
  go_loopw [9, 10, 11] (fun l o i wr => ∃ j lst : Nat, i = .int .i64 j ∧ l = .int .u64 lst ∧ j ≤ m ∧ lst < 2 ^ 64 ∧ Hid (PL w bw bv now L j lst o wr)) (fun _ _ i _ => m - (intOf i).toNat)
  case atStart => exact ⟨0, now, rfl, by rw [HZN.out], Nat.zero_le _, HNOW.out, HBEG⟩
  case round =>
    obtain ⟨j, lst, rfl, rfl, hj, hlst, hr⟩ := hrel
    obtain ⟨Dw, Dv, Lv, d, Q, hDw, hDv, hT, ho, hP, hnl, hst⟩ := hr.out
    by_cases hlt : j < m
    · obtain ⟨g, off, rfl, hg, hx⟩ := (HUC.out.below hT.1.bl (Nat.le_refl _)) j (by rw [HM.out]; exact hlt)
      obtain ⟨c, hc⟩ : ∃ c, cuts.getD j 0 = c := ⟨_, rfl⟩
      have hc64 : c < 2 ^ 64 := by
        rw [← hc, List.getD_eq_getElem?_getD, List.getElem?_eq_getElem (by rw [HM.out]; exact hlt)]
        exact HCW.out _ (List.getElem_mem _)
      rw [hc] at hx
      obtain ⟨l2, hl2⟩ : ∃ l2, max lst c = l2 := ⟨_, rfl⟩
      have hl64 : l2 < 2 ^ 64 := by omega
      obtain ⟨zl, hzl⟩ : ∃ z : Int, (lst : Int) = z := ⟨_, rfl⟩
      obtain ⟨zc, hzc⟩ : ∃ z : Int, (c : Int) = z := ⟨_, rfl⟩
      rw [hzc] at hx
      rw [hzl]
      have hmax : max zl zc = (l2 : Int) := by omega
      have hturn := own_turn hT.2.1 hl64
      rw [hDv] at hturn
      have HTURN := Lib.hid hturn
      have HLE := Lib.hid (show lst ≤ l2 by omega)
      have HT := Lib.hid hT
      have HO := Lib.hid ho
      have HP := Lib.hid hP
      have HNL := Lib.hid hnl
      have HDW := Lib.hid hDw
      have HDV := Lib.hid hDv
      have hltz : (j : Int) < (m : Int) := by omega
      clear hr hT ho hP hnl hst hturn hc hl2 hzl hzc hDw hDv
      go_wp2_with (go_at_call 14; refine HTURN.out.mono ?_)
      rintro e w6 ⟨v2, d2, rfl, hsr, hod2, Dv', hbv', hov', hst'⟩
      have hT6 := HT.out.stepV hst' hov'
      have hoo := HO.out.block (w' := w6) (fun g' e => hst'.mv.block g' (HO.out.kind e).2.1 (HT.out.2.1.wh.offT HO.out e))
      have hPt := HP.out.turn HT.out.1.wh.keys HLE.out hsr
      have hmxl : max lst l2 = l2 := by have := HLE.out; omega
      rw [hmxl] at hT6
      have hsum : d.length + d2.length ≤ 100000 := by
        have e1 := List.Nodup.length_le_of_subset HP.out.nd (fun x hx => ((HP.out.mem x).1 hx).1)
        have e2 : d2.length = _ := hsr.1.length_eq
        have e3 := List.length_filter_le (fun y => decide (y.2 ≤ l2)) Lv
        have e4 := HT.out.1.wh.len
        have e5 := HT.out.2.1.wh.len
        unfold lo at e2
        omega
      have hB6 : w.heap.size ≤ w6.heap.size := hT6.1.bl.size
      have HT6 := Lib.hid hT6
      have HOO := Lib.hid hoo
      have HPT := Lib.hid hPt
      have HBV' := Lib.hid (hbv'.trans HDV.out)
      clear hsr hov' hst' hT6 hPt hmxl hbv'
      go_wp2_with (at_builtin; refine wp_appendT _ rfl _ _ rfl w.heap.size wr.heap.size u10 v2 d d2 rfl rfl hoo hod2 hsum hB6 ?_)
      intro v3 w7 hown7 hg7
      have HN : Hid (PL w bw bv now L (j + 1) l2 v3 w7) := Lib.hid ⟨Dw, Dv', hi Lv l2, d ++ d2, _, HDW.out, HBV'.out, HT6.out.grown hg7 (fun x e => ⟨HT6.out.1.wh.offT HOO.out e, HT6.out.2.1.wh.offT HOO.out e, (HOO.out.kind e).1⟩), hown7, HPT.out, Nat.le_trans HNL.out HLE.out, fun _ x hx => by
        unfold hi at hx
        simpa using (List.mem_filter.1 hx).2⟩
      clear hown7 hg7 hoo hod2 hsum hB6
      go_wp2
      go_roundw
      case rel => exact ⟨j + 1, l2, by go_num, rfl, hlt, hl64, HN⟩
      case measure => simp [intOf]; omega
    · have e1 : j = m := by omega
      subst e1
      obtain ⟨hfin, hLv⟩ := hP.fin hT.1.wh.keys (hst hm1)
      subst hLv
      have hturn := own_turn hT.1 hlst
      rw [hDw] at hturn
      have HTURN := Lib.hid hturn
      have HT := Lib.hid hT
      have HO := Lib.hid ho
      have HFIN := Lib.hid hfin
      have HNL := Lib.hid hnl
      have HDV := Lib.hid hDv
      have HDW := Lib.hid hDw
      clear hr hT ho hP hnl hst hturn hfin hDv hDw
      go_wp2_with (go_at_call 14; refine HTURN.out.mono ?_)
      rintro e w6 ⟨v2, d2, rfl, hsr, hod2, Dw', hbw', how', hst'⟩
      have hdd : d2 = d := hsr.one HFIN.out
      subst hdd
      have hT6 := HT.out.stepW hst' how'
      have hoo := HO.out.block (w' := w6) (fun g' e => hst'.mv.block g' (HO.out.kind e).2.1 (HT.out.1.wh.offT HO.out e))
      obtain ⟨p1, c1, hv1, hmx1, htc1⟩ := hod2.view
      obtain ⟨p2, c2, hv2, _, htc2⟩ := hoo.view
      have hlen : d2.length ≤ 100000 := by
        have e2 : d2.length = _ := HFIN.out.1.length_eq
        have e3 := List.length_filter_le (fun y => decide (y.2 ≤ lst)) L
        have e4 := HT.out.1.wh.len
        unfold lo at e2
        omega
      obtain ⟨k, hk⟩ : ∃ k, d2.length = k := ⟨_, rfl⟩
      rw [hk] at hv1 hv2 hlen
      subst hv1
      subst hv2
      have HSAME : Hid (Calls Try.prog 13 #[.slice p1 k c1, .slice p2 k c2] w6 fun e w' => e = .returned (.bool true) ∧ Below w6.heap.size w6 w') := Lib.hid ((same_any d2 d2 p1 p2 k k c1 c2 w6 hk hk hlen hlen htc1 htc2).mono fun e w' ⟨he, hb⟩ => ⟨by rw [he]; exact ret_bool' (by simp), hb⟩)
      have hmxl : max now lst = lst := by have := HNL.out; omega
      rw [hmxl] at hT6
      have HT6 := Lib.hid hT6
      have HDW' := Lib.hid (hbw'.trans HDW.out)
      clear hsr how' hst' hT6 hmxl hbw' hod2 hoo htc1 htc2 hk
      go_wp2_with fail
      refine HSAME.out.mono ?_
      rintro e w7 ⟨rfl, hb7⟩
      have HT7 := Lib.hid (HT6.out.below hb7)
      clear hb7
      have hl1 := len_any HT7.out.1.wh
      have hl2 := len_any HT7.out.2.1.wh
      have hn1 := now_any HT7.out.1.wh
      have hn2' := now_any HT7.out.2.1.wh
      rw [HDW'.out] at hl1 hn1
      rw [HDV.out] at hl2 hn2'
      have HL1 := Lib.hid hl1
      have HL2 := Lib.hid hl2
      have HN1 := Lib.hid hn1
      have HN2 := Lib.hid hn2'
      clear hl1 hl2 hn1 hn2'
      go_wp2_with (first
        | (go_at_call 18; first | (refine HL1.out.mono ?_; rintro e w' ⟨rfl, hw⟩; rw [hw]; clear hw) | (refine HL2.out.mono ?_; rintro e w' ⟨rfl, hw⟩; rw [hw]; clear hw))
        | (go_at_call 19; first | (refine HN1.out.mono ?_; rintro e w' ⟨rfl, hw⟩; rw [hw]; clear hw) | (refine HN2.out.mono ?_; rintro e w' ⟨rfl, hw⟩; rw [hw]; clear hw)))
      refine (whl.live_any _).mono ?_
      rintro e w9 ⟨rfl, hb9⟩
      have HB9 := Lib.hid (below_next HT7.out.1.bl hb9)
      clear hb9
      go_wp2
      go_ret
      exact ⟨rfl, HB9.out⟩
theorem walk (a0 : Int) (w0 : (Lit.int .u64 a0).wf = true) (p : Option Addr) (n cap : Nat) (acts : List A) (q : Option Addr) (m cc : Nat) (cuts : List Nat) (hn : acts.length = n) (hm : cuts.length = m) (hmx : n ≤ maxLen) (hmx2 : m ≤ maxLen) (haw : AW acts) (hcw : ∀ x ∈ cuts, x < 2 ^ 64) (w : World) (hac : AC w p acts) (huc : UC w q cuts) :
    Calls Try.prog 4 #[.int .u64 a0, .slice p n cap, .slice q m cc] w fun e w' => e = .returned (.bool true) ∧ Below w.heap.size w w' := by
  obtain ⟨a, rfl, ha⟩ := u64_nat w0
  unfold maxLen at hmx hmx2
  by_cases h : 100 < n ∨ m < 1 ∨ 60 < m
  · exact walk_big a p n cap q m cc w h (by omega) (by omega)
  · exact walk_small a ha p n cap acts q m cc cuts w hn hm (by omega) (by omega) (by omega) haw hcw hac huc
theorem own : ownKnob Try.prog.godebug = none := by kernel_rfl
theorem laidOut : laidOutB Try.prog = true := by kernel_rfl
set_option maxRecDepth 100000 in
theorem contract (H : Type) (enc : TypeId × Value → H) (W : World) (base : Nat) (args : Array Value) (ds gs : List (DataW H)) (before : List MemPlace)
    (hval0 : ∀ (j : Nat) t v, Try.f4.params[j]? = some t → args[j]? = some v → Value.okWide Try.prog W .any base t v)
    (hW : DataW.Whole enc Try.prog Try.f4.params.toList Rows.wheelPiecesSpec.vars false W args.toList ds gs before) :
    Calls Try.prog 4 args W fun e W' => ∃ v, e = .returned v ∧ Rows.wheelPiecesSpec.post enc Try.prog Try.f4 false true false false W args v W' := by
  have hval : ∀ (j : Nat) t v, Try.f4.params[j]? = some t → args[j]? = some v → Value.okWide Try.prog W .any base t v := hval0
  clear hval0
  have hW' := hW
  obtain ⟨p, q, hA0, hV, rfl, hfz, hnd⟩ := hW
  have hA : DataW.TrodAll enc Try.prog W 0 (fun _ => true) true Try.f4.params.toList args.toList ds p := hA0
  rw [Try.params4] at hA hval
  obtain ⟨v0, vs0, d0, ds0, p0, q0, hargs, rfl, rfl, h0, r0⟩ := trodAll_cons hA
  obtain ⟨v1, vs1, d1, ds1, p1, q1, rfl, rfl, rfl, h1, r1⟩ := trodAll_cons r0
  obtain ⟨v2, vs2, d2, ds2, p2, q2, rfl, rfl, rfl, h2, r2⟩ := trodAll_cons r1
  obtain ⟨rfl, rfl, rfl⟩ := trodAll_nil r2
  obtain rfl : args = #[v0, v1, v2] := by cases args; simp_all
  obtain ⟨rfl, rfl⟩ := trodVars_none hV
  obtain ⟨a0, rfl, rfl, rfl, w0⟩ := open_int Try.underlying22 (hval 0 22 v0 rfl rfl) h0
  obtain ⟨pp, n, cap, acts, rfl, hn, hmx, haw, hac⟩ := acts_open h1 (okWide_slice Try.underlying23 (hval 1 23 v1 rfl rfl))
  obtain ⟨pc, m, cc, cuts, rfl, hm, hmx2, hcw, huc⟩ := cuts_open h2 (okWide_slice Try.underlying42 (hval 2 42 v2 rfl rfl))
  clear hA0
  refine (walk a0 w0 pp n cap acts pc m cc cuts hn hm hmx hmx2 haw hcw W hac huc).mono fun e W' ⟨he, hb⟩ => ?_
  subst he
  exact ⟨_, rfl, law_post laidOut (by kernel_rfl) rfl Try.underlying4 rfl hW' rfl hb⟩

set_option maxRecDepth 100000 in
theorem lifted (os : Os) (started : os.Started) (H : Type) (enc : TypeId × Value → H) :
    ReturnsInHanded {} Try.checked os 4 .any (Rows.wheelPiecesSpec.pre6 enc Try.prog Try.f4 Rows.wheelPiecesRow.domain false) (Rows.wheelPiecesSpec.post enc Try.prog Try.f4 false true false false) := by
  refine returnsInHanded_of_change (C := Try.checked) own started (by kernel_rfl) Try.func4
    (ChangeSpec.witness6 (enc := enc) (C := Try.checked) false ⟨#[], #[.int .u64 0, .slice none 0 0, .slice none 0 0], []⟩ 8 (by kernel_rfl) (by kernel_rfl) (by kernel_rfl) (by kernel_rfl)) ?_
  intro W base args ds gs before hval0 hW _ _
  exact contract H enc W base args ds gs before hval0 hW

/-- THE STATEMENT -/
theorem proved : Rows.WheelPiecesSaid :=
  OpenClaim.holds_of_wide 4 Try.f4 rfl rfl rfl rfl rfl rfl rfl ⟨rfl, rfl, rfl, rfl, rfl⟩ rfl rfl rfl rfl rfl (by kernel_rfl) Try.func4 (by kernel_rfl)
    (of_decide_eq_true (by kernel_rfl)) (by unfold Func.isWrapper; first | (rw [if_pos (by decide +kernel)]; kernel_rfl) | (rw [if_neg (by decide +kernel)]; exact ⟨rfl, rfl⟩))
    (fun os started H enc _ => lifted os started H enc)
end wheelPieces
end Go.Proofs.Ytjppbmkoblbfeaa
