/-
  CONTRACTS OF LAYER 8 (wheel), part G: Turn.
-/
import Derived.Test.YtlhajdmleefkiaaWheelF
namespace Go.Proofs.Ytlhajdmleefkiaa
open Go.RowKit Wl
set_option linter.unusedVariables false

/-- the wheel goes on to another tick; what stands, stands where it stood -/
theorem Wl.Wh.setNow {w : World} {D : Wd} {now : Nat} {L : List T} {p : Int → Option Nat} (h : Wh w D now L p) {n : Nat} (hn : n < 2 ^ 64) : Wh (w.setCell ⟨D.b, 0, none⟩ (.int .u64 n)) D n L p where
  kind := kind_setCell _ _ h.kind
  c0 := cset_same h.c0
  c1 := (cset_other (by omega)).trans h.c1
  cr := fun j hj => (cset_other (by omega)).trans (h.cr j hj)
  due := h.due.block (h.other _ _ (Ne.symm h.b_ne_d))
  rows := fun j hj r hr => by
    obtain ⟨N, h1⟩ := h.rows j hj r hr
    exact ⟨N, h1.block (h.other _ _ (Ne.symm (h.b_ne_r hj hr)))⟩
  bare := h.bare
  pk := h.pk
  one := h.one
  ne := h.ne
  keys := h.keys
  wf := h.wf
  now_lt := hn
  len := h.len
def Tl (L : List T) (now to i : Nat) : List T := L.filter fun x => decide (to < x.2) || decide (i ≤ q now x.2)
/-- the first i slots are gone through -/
structure Ts (w : World) (D : Wd) (now last to : Nat) (L : List T) (i : Nat) (wr : World) (v : Value) (D' : Wd) (out : List T) (p : Int → Option Nat) : Prop where
  wh : Wh wr D' last (Tl L now to i) p
  pp : ∀ x ∈ Tl L now to i, (to < x.2 ∧ p x.1 = some (q last x.2)) ∨ (i ≤ q now x.2 ∧ p x.1 = some (q now x.2))
  st : Step w D wr D'
  own : OwnT wr w.heap.size v out
  nd : out.Nodup
  mem : ∀ x, x ∈ out ↔ x ∈ L ∧ x.2 ≤ to ∧ q now x.2 < i
section
variable {w wr w2 w3 : World} {D D' D2 : Wd} {now last to i : Nat} {L out oi : List T} {p : Int → Option Nat} {v v3 : Value}
theorem kp_Tl (h : Ts w D now last to L i wr v D' out p) : kp (Tl L now to i) p i to (fun _ => false) = Tl L now to (i + 1) := by
  unfold kp
  have e : Tl L now to (i + 1) = (Tl L now to i).filter (fun x => decide (to < x.2) || decide (i + 1 ≤ q now x.2)) := by
    unfold Tl
    rw [List.filter_filter]
    refine List.filter_congr (fun x hx => ?_)
    by_cases h1 : to < x.2
    · simp [h1]
    · by_cases h2 : i + 1 ≤ q now x.2
      · have h3 : i ≤ q now x.2 := by omega
        simp [h2, h3]
      · simp [h1, h2]
  rw [e]
  refine List.filter_congr (fun x hx => ?_)
  unfold hit
  rcases h.pp x hx with ⟨h1, h2⟩ | ⟨h1, h2⟩
  · have h3 : ¬ x.2 ≤ to := by omega
    simp [h1, h3]
  · by_cases h3 : x.2 ≤ to
    · have h4 : ¬ to < x.2 := by omega
      by_cases h5 : q now x.2 = i
      · have h6 : ¬ i + 1 ≤ q now x.2 := by omega
        simp [h3, h4, h2, h5]
      · have h6 : i + 1 ≤ q now x.2 := by omega
        simp [h3, h4, h2, h5, h6]
    · have h4 : to < x.2 := by omega
      simp [h3, h4]
theorem Ts.step (h : Ts w D now last to L i wr v D' out p) (hL : Ks L) (hpm : oi.Perm ((Tl L now to i).filter (hit p i to))) (hw : Wh w2 D2 last (kp (Tl L now to i) p i to fun _ => false) (pl last (Tl L now to i) p i to fun _ => false)) (hs : Step wr D' w2 D2)
    (ho : OwnT w3 w.heap.size v3 (out ++ oi)) (hg : w2.grownBy w3 v.ownBlock) : Ts w D now last to L (i + 1) w3 v3 D2 (out ++ oi) (pl last (Tl L now to i) p i to fun _ => false) := by
  have hkT : Ks (Tl L now to i) := hL.filter _
  have hown2 : OwnT w2 w.heap.size v out := h.own.block (fun g e => hs.mv.block g (h.own.kind e).2.1 (h.wh.offT h.own e))
  have hmi : ∀ x, x ∈ oi ↔ x ∈ L ∧ x.2 ≤ to ∧ q now x.2 = i := fun x => by
    rw [hpm.mem_iff, List.mem_filter]
    constructor
    · rintro ⟨h1, h2⟩
      unfold hit at h2
      simp at h2
      refine ⟨(List.mem_filter.1 h1).1, h2.2, ?_⟩
      rcases h.pp x h1 with ⟨h3, h4⟩ | ⟨h3, h4⟩
      · omega
      · rw [h4] at h2
        have := h2.1
        injection this
    · rintro ⟨h1, h2, h3⟩
      have hm : x ∈ Tl L now to i := List.mem_filter.2 ⟨h1, by simp; right; omega⟩
      refine ⟨hm, ?_⟩
      unfold hit
      rcases h.pp x hm with ⟨h4, h5⟩ | ⟨h4, h5⟩
      · omega
      · simp [h5, h3, h2]
  exact {
    wh := by
      rw [kp_Tl h] at hw
      exact hw.mv (S := fun y => v.ownBlock = some y) (Mv.of_grown hg (fun k e _ => e)) (fun y hy e => hw.offT hown2 e hy)
    pp := fun x hx => by
      have hx2 : x ∈ Tl L now to i := by
        unfold Tl at hx ⊢
        rw [List.mem_filter] at hx ⊢
        refine ⟨hx.1, ?_⟩
        have := hx.2
        simp at this ⊢
        omega
      have hx3 := (List.mem_filter.1 hx).2
      simp at hx3
      unfold pl
      by_cases e : p x.1 = some i
      · rw [if_pos e, if_neg (by simp), fd_of hkT (show (x.1, x.2) ∈ _ from hx2)]
        by_cases e2 : x.2 ≤ to
        · exfalso
          rcases h.pp x hx2 with ⟨h3, h4⟩ | ⟨h3, h4⟩
          · omega
          · rw [e] at h4
            injection h4 with h4
            omega
        · left
          refine ⟨by omega, ?_⟩
          simp [e2]
      · rw [if_neg e]
        rcases h.pp x hx2 with ⟨h3, h4⟩ | ⟨h3, h4⟩
        · exact Or.inl ⟨h3, h4⟩
        · right
          refine ⟨?_, h4⟩
          have : q now x.2 ≠ i := fun e2 => e (by rw [h4, e2])
          omega
    st := (h.st.trans hs).later hg (fun r e => (h.own.kind e).1)
    own := ho
    nd := by
      rw [List.nodup_append]
      refine ⟨h.nd, hpm.nodup_iff.2 (List.Pairwise.filter _ hkT.nodup), fun y hy z hz e => ?_⟩
      subst e
      have h1 := (h.mem y).1 hy
      have h2 := (hmi y).1 hz
      omega
    mem := fun x => by
      rw [List.mem_append, h.mem x, hmi x]
      constructor
      · rintro (⟨h1, h2, h3⟩ | ⟨h1, h2, h3⟩)
        · exact ⟨h1, h2, by omega⟩
        · exact ⟨h1, h2, by omega⟩
      · rintro ⟨h1, h2, h3⟩
        by_cases e : q now x.2 = i
        · exact Or.inr ⟨h1, h2, e⟩
        · exact Or.inl ⟨h1, h2, by omega⟩ }
end
def TurnedTo (w : World) (D : Wd) (now to : Nat) (L : List T) (e : Ending) (w' : World) : Prop :=
  ∃ v d D', e = .returned v ∧ Srt (L.filter fun x => decide (x.2 ≤ to)) d ∧ OwnT w' w.heap.size v d ∧ Wheel w' D' (max now to) (L.filter fun x => decide (to < x.2)) ∧ Step w D w' D'
theorem Ts.done {w wr w3 : World} {D D' : Wd} {now last to : Nat} {L out d : List T} {p : Int → Option Nat} {v : Value} (h : Ts w D now last to L (16 * ap now last + (dg last (ap now last) + 1)) wr v D' out p) (hl : last = max now to) (hL : Ks L) (hwf : ∀ x ∈ L, x.2 < 2 ^ 64) (hlast : last < 2 ^ 64)
    (hd : Srt out d) (ho : OwnT w3 w.heap.size v d) (hg : wr.grownBy w3 v.ownBlock) : TurnedTo w D now to L (.returned v) w3 := by
  have hbey : ∀ x ∈ L, 16 * ap now last + (dg last (ap now last) + 1) ≤ q now x.2 → last < x.2 ∧ q last x.2 = q now x.2 := fun x hx hq => q_beyond (by omega) hlast (hwf x hx) (by omega)
  have e1 : Tl L now to (16 * ap now last + (dg last (ap now last) + 1)) = L.filter fun x => decide (to < x.2) := by
    unfold Tl
    refine List.filter_congr (fun x hx => ?_)
    by_cases h1 : to < x.2
    · simp [h1]
    · have h2 : ¬ 16 * ap now last + (dg last (ap now last) + 1) ≤ q now x.2 := fun hq => by have := (hbey x hx hq).1; omega
      simp [h1, h2]
  have e2 : p = pq last (L.filter fun x => decide (to < x.2)) := by
    funext k
    unfold pq
    have hks := h.wh.keys
    have hpp := h.pp
    have hpk := h.wh.pk
    rw [e1] at hks hpp hpk
    cases hf : fd (L.filter fun x => decide (to < x.2)) k with
    | none =>
      cases hp : p k with
      | none => rfl
      | some i =>
        exfalso
        exact fd_none.1 hf (hpk k i hp).2
    | some a =>
      have hm := fd_some hf
      rcases hpp _ hm with ⟨h1, h2⟩ | ⟨h1, h2⟩
      · exact h2
      · rw [h2]
        have := (hbey _ (List.mem_filter.1 hm).1 h1).2
        rw [← this]
        rfl
  have hwh := h.wh.mv (w' := w3) (S := fun y => v.ownBlock = some y) (Mv.of_grown hg (fun k e _ => e)) (fun y hy e => h.wh.offT h.own e hy)
  rw [e1, e2] at hwh
  refine ⟨v, d, D', rfl, ⟨?_, hd.2⟩, ho, by rw [← hl]; exact hwh, h.st.later hg (fun r e => (h.own.kind e).1)⟩
  refine hd.1.trans ?_
  rw [List.perm_ext_iff_of_nodup h.nd (List.Pairwise.filter _ hL.nodup)]
  intro x
  rw [h.mem x, List.mem_filter]
  constructor
  · rintro ⟨h1, h2, h3⟩
    exact ⟨h1, by simpa using h2⟩
  · rintro ⟨h1, h2⟩
    have h2' : x.2 ≤ to := by simpa using h2
    refine ⟨h1, h2', ?_⟩
    rcases Nat.lt_or_ge (q now x.2) (16 * ap now last + (dg last (ap now last) + 1)) with h3 | h3
    · exact h3
    · have := (hbey x h1 h3).1
      omega
theorem tone : ∀ (l : List T), ∀ u ∈ tcells l, u.oneCell' = true := by
  intro l u hu
  obtain ⟨x, _, hx⟩ := List.mem_flatMap.1 hu
  exact one3 _ _ u hx
/-- append(a, b...) where both are rows of timers, or nil -/
theorem wp_appendT (w : World) {ops : Array Oper} {rest : List Oper} {o : Oper} {a : Act} {Q : Exit → Act → World → Prop} (hg : o.guard = none) (s x : Operand) (ho : o.op = .call { callee := .builtin .append, args := #[s, x], argTypes := #[28, 28] })
    (B B2 : Nat) (v u : Value) (l1 l2 : List T) (hs : a.eval s = v) (hx : a.eval x = u) (hv : OwnT w B v l1) (hu : OwnT w B2 u l2) (hl : l1.length + l2.length ≤ 100000) (hB : B ≤ w.heap.size)
    (hQ : ∀ v' w', OwnT w' B v' (l1 ++ l2) → w.grownBy w' v.ownBlock → wpList Try.prog ops Q rest (a.put o.dst v') w') : wpList Try.prog ops Q (o :: rest) a w := by
  obtain ⟨i0, hinf, hz0, hz1, hz2⟩ := info_parts info_T
  rcases hu.2 with ⟨rfl, h0⟩ | ⟨g, cap, cur, rfl, hbg, hgg, hle, hmx, hcs, htk⟩
  · have e0 : l2 = [] := List.eq_nil_of_length_eq_zero h0
    subst e0
    rw [List.append_nil] at hQ
    obtain ⟨ba, n, c, rfl, hnc⟩ : ∃ ba n c, v = .slice ba n c ∧ n ≤ c := by
      rcases hv.2 with ⟨rfl, _⟩ | ⟨g, cap, cur, rfl, _, _, hle, _⟩
      · exact ⟨_, _, _, rfl, Nat.le_refl _⟩
      · exact ⟨_, _, _, rfl, hle⟩
    have hrun := run_append_nothing (P := Try.prog) w 28 28 o.type 39 i0 Try.underlying28 hinf ba n c hnc (.slice none 0 0) (Src.ofNil w Try.underlying28 0)
    refine wpList_plain hg fun K' hK' => ?_
    unfold Oper.wp
    simp [execOp, ho, resolve, invoke, builtin, hs, hx, hrun, Result.andThen]
    exact hK' _ _ (hQ _ w hv ⟨rfl, rfl, rfl, Nat.le_refl _, fun _ _ _ => rfl⟩)
  · refine wpList_append_own w hg s x 28 ho B 39 i0 zT 3 24 Try.underlying28 hinf hz0 hz1 hz2 rfl (by decide) v l1.length (tcells l1) hs hv ⟨g, 0, none⟩ l2.length cap (tcells l2) hx (tcells_len _) (fun j u' hj => ?_) (tone _) (by unfold maxLen; omega) (by omega) hB (fun v' w' h1 h2 _ => hQ v' w' ?_ h2)
    · have hlt : j < l2.length * 3 := by
        have := (List.getElem?_eq_some_iff.1 hj).1
        rw [tcells_len] at this
        exact this
      have hadd : (⟨g, 0, none⟩ : Addr).add j = ⟨g, j, none⟩ := by unfold Addr.add; split <;> simp_all
      rw [hadd]
      exact (World.ownsRow.cellAt hu j hlt).trans hj
    · unfold OwnT
      rw [tcells_app, List.length_append]
      exact h1
theorem Ts.len {w wr : World} {D D' : Wd} {now last to i : Nat} {L out : List T} {p : Int → Option Nat} {v : Value} (h : Ts w D now last to L i wr v D' out p) (hl : L.length ≤ 1000) : out.length ≤ 1000 :=
  Nat.le_trans (List.Nodup.length_le_of_subset h.nd (fun x hx => ((h.mem x).1 hx).1)) hl
theorem turn_nil (to : Int) (w : World) : Calls Try.prog 36 #[.pointer none, .int .u64 to] w fun e w' => e = .returned (.slice none 0 0) ∧ w' = w := by
  go_enter Try.func36, Try.ntmps36
  go_wp2
  go_ret
  exact ⟨rfl, rfl⟩
set_option maxHeartbeats 1000000 in
theorem turn_any {w : World} {D : Wd} {now to : Nat} {L : List T} (h : Wheel w D now L) (hto : to < 2 ^ 64) :
    Calls Try.prog 36 #[.pointer (some ⟨D.b, 0, none⟩), .int .u64 to] w (TurnedTo w D now to L) := by
  obtain ⟨last, hlast⟩ : ∃ last, max now to = last := ⟨_, rfl⟩
  have hlast2 : last < 2 ^ 64 := by have := h.now_lt; omega
  have HAP := apart_any now last w h.now_lt hlast2
  have hh := ap_lt h.now_lt hlast2
  obtain ⟨zn, hzn⟩ : ∃ z : Int, (now : Int) = z := ⟨_, rfl⟩
  obtain ⟨zt, hzt⟩ : ∃ z : Int, (to : Int) = z := ⟨_, rfl⟩
  have hmx : max zn zt = (last : Int) := by omega
  have hc0 := h.c0
  have hfz := h.frozen 0
  rw [hzn] at HAP hc0
  obtain ⟨hi, hhi⟩ : ∃ hi, ap now last = hi := ⟨_, rfl⟩
  rw [hhi] at HAP hh
  have HA := Lib.hid HAP
  obtain ⟨W1, hW1⟩ : ∃ W1, w.setCell ⟨D.b, 0, none⟩ (.int .u64 (last : Int)) = W1 := ⟨_, rfl⟩
  have hN := h.setNow hlast2
  rw [hW1] at hN
  have hbeg : Hid (∃ D' out p, Ts w D now last to L 0 W1 (.slice none 0 0) D' out p) := Lib.hid ⟨D, [], pq now L, {
    wh := by
      have e : Tl L now to 0 = L := by
        unfold Tl
        rw [List.filter_eq_self]
        intro x hx
        simp
      rw [e]
      exact hN
    pp := fun x hx => Or.inr ⟨Nat.zero_le _, by
      have hx2 := (List.mem_filter.1 hx).1
      unfold pq
      rw [fd_of h.keys (show (x.1, x.2) ∈ L from hx2)]
      rfl⟩
    st := ⟨rfl, rfl, fun x hx => Or.inl hx, by rw [← hW1]; exact Mv.setCell _ _ _ (Or.inl rfl)⟩
    own := OwnT.nil _ _
    nd := List.nodup_nil
    mem := fun x => by
      constructor
      · intro e; cases e
      · rintro ⟨_, _, e⟩; omega }⟩
  have HDG := fun W => digit_any last hi W hlast2 hh
  have hdl := dg_lt last hi
  obtain ⟨dg0, hdg⟩ : ∃ d, dg last hi = d := ⟨_, rfl⟩
  rw [hdg] at HDG hdl
  have HD := Lib.hid HDG
  have HKS := Lib.hid h.keys
  have HWF := Lib.hid (fun x hx => (h.wf x hx).2)
  have HLEN := Lib.hid h.len
  have HLA := Lib.hid hlast
  have HL2 := Lib.hid hlast2
  have HHI := Lib.hid hhi
  have HDGE := Lib.hid hdg
  have HZT := Lib.hid hzt
  have HTO := Lib.hid hto
  rw [hzt]
  clear HAP HDG hN h hzn hzt hlast hlast2 hhi hdg hto
  go_enter Try.func36, Try.ntmps36
  go_wp2_with (go_at_call 43; refine HA.out.mono ?_; rintro e w' ⟨rfl, hw⟩; rw [hw]; clear hw)
  go_loopw [7, 30] (fun v c wr => ∃ l : Nat, c = .int .i64 l ∧ l ≤ hi ∧ Hid (∃ D' out p, Ts w D now last to L (16 * l) wr v D' out p)) (fun _ c _ => hi - (intOf c).toNat)
  case atStart => exact ⟨0, rfl, Nat.zero_le _, hbeg⟩
  case round =>
    obtain ⟨l, rfl, hl, hts⟩ := hrel
    by_cases hlt : l < hi
    · have hltz : (l : Int) < (hi : Int) := by omega
      go_wp2
      go_loopw [7, 33] (fun v c wr => ∃ s : Nat, c = .int .i64 s ∧ s ≤ 16 ∧ Hid (∃ D' out p, Ts w D now last to L (16 * l + s) wr v D' out p)) (fun _ c _ => 16 - (intOf c).toNat)
      case atStart => exact ⟨0, rfl, Nat.zero_le _, hts⟩
      case round =>
        obtain ⟨s, rfl, hs, hts2⟩ := hrel
        by_cases hlt2 : s < 16
        · have hltz2 : (s : Int) < 16 := by omega
          obtain ⟨D', out, p, ts⟩ := hts2.out
          have hE := empty_any ts.wh l s to (by omega) hlt2 HTO.out
          rw [ts.st.b, HZT.out] at hE
          have HE := Lib.hid hE
          have TS := Lib.hid ts
          have hsz : w.heap.size ≤ wr.heap.size := ts.st.mv.size
          have HSZ := Lib.hid hsz
          have hol := ts.len HLEN.out
          have HOL := Lib.hid hol
          clear hE ts hts2 hsz hol
          go_wp2_with (go_at_call 44; refine HE.out.mono ?_)
          rintro e w2 ⟨u, oi, D2, rfl, hpm, hou, hw2, hs2⟩
          have hv : OwnT w2 w.heap.size u7 out := TS.out.own.block (fun g e => hs2.mv.block g (TS.out.own.kind e).2.1 (TS.out.wh.offT TS.out.own e))
          have hoi : oi.length ≤ 1000 := by
            have e1 : oi.length = _ := hpm.length_eq
            have e2 := List.length_filter_le (hit p (16 * l + s) to) (Tl L now to (16 * l + s))
            have e3 := List.length_filter_le (fun x => decide (to < x.2) || decide (16 * l + s ≤ q now x.2)) L
            have e4 := HLEN.out
            unfold Tl at *
            omega
          have hsum : out.length + oi.length ≤ 100000 := by have := HOL.out; omega
          have hB : w.heap.size ≤ w2.heap.size := Nat.le_trans HSZ.out hs2.mv.size
          have HPM := Lib.hid hpm
          have HW2 := Lib.hid hw2
          have HS2 := Lib.hid hs2
          clear hpm hw2 hs2 hoi
          go_wp2_with (at_builtin; refine wp_appendT _ rfl _ _ rfl w.heap.size wr.heap.size u7 u out oi rfl rfl hv hou hsum hB ?_)
          intro v3 w3 hown3 hg3
          have HN : Hid (∃ D' out p, Ts w D now last to L (16 * l + (s + 1)) w3 v3 D' out p) := Lib.hid ⟨_, _, _, TS.out.step HKS.out HPM.out HW2.out HS2.out hown3 hg3⟩
          clear hown3 hg3 hv hou hsum hB
          go_wp2
          go_roundw
          case rel => exact ⟨s + 1, by go_num, hlt2, HN⟩
          case measure => simp [intOf]; omega
        · have e1 : s = 16 := by omega
          subst e1
          have HN : Hid (∃ D' out p, Ts w D now last to L (16 * (l + 1)) wr u7 D' out p) := Lib.hid (by
            have e : 16 * (l + 1) = 16 * l + 16 := by omega
            rw [e]
            exact hts2.out)
          clear hts2
          go_wp2
          exact ⟨⟨l + 1, by go_num, hlt, HN⟩, by simp [intOf]; omega⟩
    · have e1 : l = hi := by omega
      subst e1
      clear hbeg hW1 hc0 hfz hmx
      go_wp2_with (go_at_call 45; refine (HD.out _).mono ?_; rintro e w' ⟨rfl, hw⟩; rw [hw]; clear hw)
      have hdz : (dg0 : Int) + 1 ≤ 16 := by omega
      go_loopw [7, 49] (fun v c wr => ∃ s : Nat, c = .int .i64 s ∧ s ≤ dg0 + 1 ∧ Hid (∃ D' out p, Ts w D now last to L (16 * l + s) wr v D' out p)) (fun _ c _ => dg0 + 1 - (intOf c).toNat)
      case atStart => exact ⟨0, rfl, Nat.zero_le _, hts⟩
      case round =>
        obtain ⟨s, rfl, hs, hts2⟩ := hrel
        by_cases hlt2 : s < dg0 + 1
        · have hltz2 : (s : Int) < (dg0 : Int) + 1 := by omega
          obtain ⟨D', out, p, ts⟩ := hts2.out
          have hE := empty_any ts.wh l s to hh (by omega) HTO.out
          rw [ts.st.b, HZT.out] at hE
          have HE := Lib.hid hE
          have TS := Lib.hid ts
          have hsz : w.heap.size ≤ wr.heap.size := ts.st.mv.size
          have HSZ := Lib.hid hsz
          have hol := ts.len HLEN.out
          have HOL := Lib.hid hol
          clear hE ts hts2 hsz hol
          go_wp2_with (go_at_call 44; refine HE.out.mono ?_)
          rintro e w2 ⟨u, oi, D2, rfl, hpm, hou, hw2, hs2⟩
          have hv : OwnT w2 w.heap.size u7 out := TS.out.own.block (fun g e => hs2.mv.block g (TS.out.own.kind e).2.1 (TS.out.wh.offT TS.out.own e))
          have hoi : oi.length ≤ 1000 := by
            have e1 : oi.length = _ := hpm.length_eq
            have e2 := List.length_filter_le (hit p (16 * l + s) to) (Tl L now to (16 * l + s))
            have e3 := List.length_filter_le (fun x => decide (to < x.2) || decide (16 * l + s ≤ q now x.2)) L
            have e4 := HLEN.out
            unfold Tl at *
            omega
          have hsum : out.length + oi.length ≤ 100000 := by have := HOL.out; omega
          have hB : w.heap.size ≤ w2.heap.size := Nat.le_trans HSZ.out hs2.mv.size
          have HPM := Lib.hid hpm
          have HW2 := Lib.hid hw2
          have HS2 := Lib.hid hs2
          clear hpm hw2 hs2 hoi
          go_wp2_with (at_builtin; refine wp_appendT _ rfl _ _ rfl w.heap.size wr.heap.size u7 u out oi rfl rfl hv hou hsum hB ?_)
          intro v3 w3 hown3 hg3
          have HN : Hid (∃ D' out p, Ts w D now last to L (16 * l + (s + 1)) w3 v3 D' out p) := Lib.hid ⟨_, _, _, TS.out.step HKS.out HPM.out HW2.out HS2.out hown3 hg3⟩
          clear hown3 hg3 hv hou hsum hB
          go_wp2
          go_roundw
          case rel => exact ⟨s + 1, by go_num, hlt2, HN⟩
          case measure => simp [intOf]; omega
        · have e1 : s = dg0 + 1 := by omega
          subst e1
          obtain ⟨D', out, p, ts⟩ := hts2.out
          have hsort := sort_timers ts.nd (ts.len HLEN.out) ts.own
          have HST := Lib.hid hsort
          have TS := Lib.hid ts
          clear hts2 ts hsort
          go_wp2_with (go_at_call 46; refine HST.out.mono ?_)
          rintro e w3 ⟨rfl, d, hsr, hod, hg3⟩
          have TS2 := TS.out
          rw [← HHI.out] at TS2
          have hdgE := HDGE.out
          rw [← HHI.out] at hdgE
          rw [← hdgE] at TS2
          have HF : Hid (TurnedTo w D now to L (.returned u7) w3) := Lib.hid (TS2.done HLA.out.symm HKS.out HWF.out HL2.out hsr hod hg3)
          clear hsr hod hg3 TS2 hdgE TS
          go_wp2
          go_ret
          exact HF.out
end Go.Proofs.Ytlhajdmleefkiaa
