/-
  THE LAW DueOrder.
-/
import Derived.Test.YtlhajdmleefkiaaDueM
import Derived.Test.YtlhajdmleefkiaaFrame
namespace Go.Proofs.Ytlhajdmleefkiaa
open Go.RowKit Wl Dl Bt
open Go.ChangeShapes Go.WideShapes Go.ChangeAt
set_option linter.unusedVariables false
theorem fx_rest {L : List X} (hL : Ok L) {j : Nat} (hF : Fx L j) : ∀ y ∈ L.eraseIdx j, bef (L.getD j x0) y := by
  intro y hy
  obtain ⟨i, hij, hi⟩ := List.mem_eraseIdx_iff_getElem?.1 hy
  have hil : i < L.length := (List.getElem?_eq_some_iff.1 hi).1
  have hyi : L.getD i x0 = y := by rw [List.getD_eq_getElem?_getD, hi]; rfl
  have hym : y ∈ L := by rw [← hyi]; exact getD_mem hil
  have h1 := hF.2 y hym
  by_cases h2 : bef (L.getD j x0) y
  · exact h2
  · exfalso
    have e := bef_total h1 h2
    have p1 := ps_getD hL hF.1
    have p2 := ps_getD hL hil
    rw [hyi, e] at p2
    rw [p1] at p2
    injection p2 with p2
    exact hij p2.symm
theorem wo_first {L : List X} (hL : Ok L) {j : Nat} {x : X} (hF : Fx L j) (hx : L.getD j x0 = x) : (wo L x.kind x.id).length + 1 = L.length ∧ ∀ y ∈ wo L x.kind x.id, bef x y := by
  have h1 := ps_getD hL hF.1
  rw [hx] at h1
  have h2 : wo L x.kind x.id = L.eraseIdx j := by unfold wo; rw [h1]
  rw [h2]
  constructor
  · rw [List.length_eraseIdx_of_lt hF.1]
    have := hF.1
    omega
  · rw [← hx]
    exact fx_rest hL hF
theorem later_any (a b : X) (w : World) (h : bef b a) : Calls Try.prog 18 #[.agg #[.int .i64 a.kind, .int .i64 a.id, .int .u64 (a.tick : Nat)], .agg #[.int .i64 b.kind, .int .i64 b.id, .int .u64 (b.tick : Nat)]] w (Below1 w true) := by
  obtain ⟨k, i, t⟩ := a
  obtain ⟨k', i', t'⟩ := b
  unfold bef at h
  simp only at h ⊢
  obtain ⟨z, hz⟩ : ∃ z : Int, (t : Int) = z := ⟨_, rfl⟩
  obtain ⟨z', hz'⟩ : ∃ z : Int, (t' : Int) = z := ⟨_, rfl⟩
  rw [hz, hz']
  have hb : Hid (Below w.heap.size w ((w.alloc (.cells #[.int .i64 k, .int .i64 i, .int .u64 z] 39)).alloc (.cells #[.int .i64 k', .int .i64 i', .int .u64 z'] 39))) := Lib.hid (((Below.refl _ _).alloc (Nat.le_refl _) _).alloc (by simp) _)
  by_cases h1 : z' < z
  · clear h hz hz'
    go_enter Try.func18, Try.ntmps18
    go_wp2
    go_ret
    exact ⟨rfl, hb.out⟩
  · have h2 : z = z' := by omega
    subst h2
    by_cases h3 : k' < k
    · clear h hz hz' h1
      go_enter Try.func18, Try.ntmps18
      go_wp2
      go_ret
      exact ⟨rfl, hb.out⟩
    · have h4 : k = k' := by omega
      have h5 : i' < i := by omega
      subst h4
      clear h hz hz' h1 h3
      go_enter Try.func18, Try.ntmps18
      go_wp2
      go_ret
      exact ⟨rfl, hb.out⟩
/-- the program's timers behind i tellings: N - i are left, the last told is y -/
def StO (w0 : World) (b g N i : Nat) (w : World) : Prop := ∃ (nw : Nat) (L : List X) (y : X), L.length + i = N ∧ OB w0 b g #[.int .i64 y.kind, .int .i64 y.id, .int .u64 (y.tick : Nat)] nw L w ∧ (i = 0 ∨ ∀ z ∈ L, bef y z)
theorem OB.put3 {w0 w : World} {b g now : Nat} {a0 b0 c0 : Value} {L : List X} (h : OB w0 b g #[a0, b0, c0] now L w) (a1 b1 c1 : Value) : OB w0 b g #[a1, b1, c1] now L (((w.setCell ⟨g, 0, none⟩ a1).setCell ⟨g, 1, none⟩ b1).setCell ⟨g, 2, none⟩ c1) := by
  obtain ⟨P, r, e, h1, h2, h3, h4, h5, h6⟩ := h
  have hm3 := mv3 w g 0 1 2 a1 b1 c1
  have e1 := Go.heap_setCell_same w g 0 _ _ a1 h4
  have e2 := Go.heap_setCell_same _ g 1 _ _ b1 e1
  have e3 := Go.heap_setCell_same _ g 2 _ _ c1 e2
  refine ⟨P, r, e, h1.mv hm3 (fun x hx e => h3 (by have e2 : x = g := e; rw [← e2]; exact hx)), h2, h3, e3, h5, h6.trans (hm3.below h6.size (fun k hk e => by have e2 : k = g := e; omega))⟩
namespace dueOrder
set_option maxHeartbeats 1000000 in
theorem walk_big (now : Nat) (p : Option Addr) (n cap : Nat) (tq : Int) (w : World) (h : 100 < n) (hn : n ≤ 9223372036854775807) :
    Calls Try.prog 4 #[.int .u64 now, .slice p n cap, .int .u64 tq] w fun e w' => e = .returned (.bool true) ∧ Below w.heap.size w w' := by
  go_enter Try.func4, Try.ntmps4
  go_wp2_with fail
  refine (due9.live_any _).mono ?_
  rintro e w' ⟨rfl, hb⟩
  go_wp2
  go_ret
  exact ⟨rfl, hb⟩
set_option maxHeartbeats 4000000 in
set_option maxRecDepth 20000 in
theorem walk_small (now : Nat) (hnow : now < 2 ^ 64) (p : Option Addr) (n cap : Nat) (l : List X) (tq : Nat) (htq : tq < 2 ^ 64) (w : World) (hn : l.length = n) (hn2 : n ≤ 100) (hlt9 : ∀ x ∈ l, x.tick < 2 ^ 64) (hxo : XO w p l) :
    Calls Try.prog 4 #[.int .u64 now, .slice p n cap, .int .u64 tq] w fun e w' => e = .returned (.bool true) ∧ Below w.heap.size w w' := by
  have HN := Lib.hid hn
  have HLT := Lib.hid hlt9
  have HXO := Lib.hid hxo
  have HTQ := Lib.hid htq
  have HNEW := Lib.hid (od_new now w hnow)
  obtain ⟨zn, hzn⟩ : ∃ z : Int, (now : Int) = z := ⟨_, rfl⟩
  obtain ⟨zq, hzq⟩ : ∃ z : Int, (tq : Int) = z := ⟨_, rfl⟩
  have HZQ := Lib.hid hzq
  rw [hzn] at HNEW ⊢
  rw [hzq]
  have hdec : decide ((100 : Int) < (n : Int)) = false := by rw [decide_eq_false_iff_not]; omega
  clear hn hlt9 hxo hzn hnow hzq htq
  go_enter Try.func4, Try.ntmps4
  go_wp2_with (go_at_call 7; refine HNEW.out.mono ?_)
  rintro e w1 ⟨b, rfl, hod⟩
  have HBEG : Hid (∃ L, L.length ≤ 0 ∧ OD w b now L w1) := Lib.hid ⟨[], Nat.le_refl _, hod⟩
  clear hod HNEW
  go_wp2
  go_loopw [8] (fun i wr => ∃ j : Nat, i = .int .i64 j ∧ j ≤ n ∧ Hid (∃ L, L.length ≤ j ∧ OD w b now L wr)) (fun i _ => n - (intOf i).toNat)
  case atStart => exact ⟨0, rfl, Nat.zero_le _, HBEG⟩
  case round =>
    obtain ⟨j, rfl, hj, hr⟩ := hrel
    obtain ⟨L, hLj, hod⟩ := hr.out
    by_cases hlt : j < n
    · obtain ⟨g, off, rfl, _, _, _, _⟩ := (HXO.out.below hod.bl (Nat.le_refl _)) j (by rw [HN.out]; exact hlt)
      have HXT : Hid ((l.getD j x0).tick < 2 ^ 64) := Lib.hid (HLT.out _ (getD_mem9 (by rw [HN.out]; exact hlt)))
      obtain ⟨x, hx⟩ : ∃ x, l.getD j x0 = x := ⟨_, rfl⟩
      rw [hx] at HXT
      have HXE := Lib.hid hx
      have hltz : (j : Int) < (n : Int) := by omega
      have HCL : Hid (∀ L w1, OD w b now L w1 → w1.cell? ⟨g, off + j * 3, none⟩ = some (.int .i64 x.kind) ∧ w1.cell? ⟨g, off + j * 3 + 1, none⟩ = some (.int .i64 x.id) ∧ w1.cell? ⟨g, off + j * 3 + 2, none⟩ = some (.int .u64 (x.tick : Nat))) := Lib.hid (fun L w1 ho => by
        obtain ⟨g2, off2, e, _, q0, q1, q2⟩ := (HXO.out.below ho.bl (Nat.le_refl _)) j (by rw [HN.out]; exact hlt)
        injection e with e
        injection e with e1 e2
        rw [HXE.out, ← e1, ← e2] at q0 q1 q2
        exact ⟨q0, q1, q2⟩)
      have HOD := Lib.hid hod
      have HLJ : Hid ((st L x.kind x.id x.tick).2.length ≤ j + 1) := Lib.hid (Nat.le_trans (st_len _ _ _ _) (by omega))
      have hlen : L.length < 1000 := by omega
      clear hod hr hx hLj
      go_wp2_with fail
      refine Bz.wp_region (S := Bz.by1 16 (fun b1 w1 => OD w b now (cond b1 (st L x.kind x.id x.tick).2 L) w1)) (by kernel_rfl) ?_ ?_
      · exact Bz.by1_start (by decide) HOD.out.drew
      repeat (first
        | (refine Bz.anyR_value (v := ?_) (by kernel_rfl) (fun m w1 _ hS => Bz.by1_set (by decide) m w1 hS) (by rfl) (fun _ _ _ h => h) (fun m w1 _ hS => ?_) ?_
           rotate_left
           · obtain ⟨q0, q1, q2⟩ := HCL.out _ _ hS
             go_simp
             with_reducible rfl
           (try simp only [Act.put, List.setIfInBounds_toArray, List.set_cons_zero, List.set_cons_succ]))
        | (refine Bz.anyR_not (by kernel_rfl) (fun m w1 _ hS => Bz.by1_set (by decide) m w1 hS) (by rfl) (fun _ _ _ h => h) ?_
           (try simp only [Act.put, List.setIfInBounds_toArray, List.set_cons_zero, List.set_cons_succ]))
        | (refine Bz.anyR_call (v := ?_) (f := ?_) (args := ?_) (by kernel_rfl) (by rfl) (fun _ _ _ h => h) (fun m w1 hm hS => ?_) (fun m w1 hm hS => ?_) ?_
           rotate_left 3
           · go_simp
             (try constructor) <;> with_reducible rfl
           · first
               | (have hS2 : OD w b now L w1 := (by have h := hS; unfold Bz.by1 at h; rw [hm.1] at h; exact h); (with_reducible refine ((hS2.set x.kind x.id x.tick HXT.out hlen).mono ?_)); rintro e w' ⟨rfl, hp⟩; refine ⟨?_, Bz.by1_A m w' hp⟩; with_reducible rfl)
           (try simp only [Act.put, List.setIfInBounds_toArray, List.set_cons_zero, List.set_cons_succ]))
        | refine Bz.anyR_done (by kernel_rfl) (fun w1 hS => ?_))
      have HF : Hid (∃ L, L.length ≤ j + 1 ∧ OD w b now L w1) := Lib.hid ⟨_, HLJ.out, Bz.by1_end (by decide) (by decide) hS⟩
      clear hS
      go_wp2
      go_roundw
      case rel => exact ⟨j + 1, by go_num, hlt, HF⟩
      case measure => simp [intOf]; omega
    · have e1 : j = n := by omega
      subst e1
      obtain ⟨N, hN⟩ : ∃ N, L.length = N := ⟨_, rfl⟩
      have hlen := hod.len
      rw [hN] at hlen hLj
      have HLE := Lib.hid hlen
      have hob := OB.made hod #[.int .i64 x0.kind, .int .i64 x0.id, .int .u64 (x0.tick : Nat)]
      obtain ⟨g, hg⟩ : ∃ g, wr.heap.size = g := ⟨_, rfl⟩
      have HOB : Hid (StO w b g N 0 (wr.alloc (.cells #[.int .i64 0, .int .i64 0, .int .u64 0] 39))) := Lib.hid ⟨now, L, x0, hN, by rw [← hg]; exact hob, Or.inl rfl⟩
      clear hod hob hN hlen hr
      go_wp2_with (go_at_call 13; refine HLE.out.mono ?_; rintro e w' ⟨rfl, hw⟩; rw [hw]; clear hw)
      go_loopw [11] (fun c wr => ∃ i : Nat, c = .int .i64 i ∧ i ≤ N ∧ Hid (StO w b g N i wr)) (fun c _ => N + 1 - (intOf c).toNat)
      case atStart => exact ⟨0, rfl, Nat.zero_le _, HOB⟩
      case round =>
        obtain ⟨i, rfl, hi, hr⟩ := hrel
        obtain ⟨nw, L, y, hLi, hob, hord⟩ := hr.out
        have hiz : (i : Int) ≤ (N : Int) := by omega
        have hlen : L.length < 1000 := by omega
        cases hgb : gob L tq with
        | true =>
          have H1 : Hid (Calls Try.prog 16 #[.pointer (some ⟨b, 0, none⟩), .int .u64 zq] wr fun e w' => e = .returned (.tuple #[.agg #[.int .i64 0, .int .i64 0, .int .u64 0], .bool false]) ∧ OB w b g #[.int .i64 y.kind, .int .i64 y.id, .int .u64 (y.tick : Nat)] nw L w') := Lib.hid (by
            have h2 := hob.firstN tq hgb
            rw [HZQ.out] at h2
            exact h2)
          have hm : ((L.length : Nat) : Int) = (N : Int) - (i : Int) := by omega
          obtain ⟨o, ho⟩ : ∃ o, nxt (L.map nu) = o := ⟨_, rfl⟩
          obtain ⟨v3, hv3⟩ : ∃ v3 : Int, ((o.getD 0 : Nat) : Int) = v3 := ⟨_, rfl⟩
          have HM := Lib.hid hm
          have HO := Lib.hid ho
          have HGB := Lib.hid hgb
          have HV3 := Lib.hid hv3
          cases o with
          | none =>
            clear hob hord hr hLi hm ho hgb hv3
            go_wp2_with (go_at_call 16; refine H1.out.mono ?_)
            rintro e w3 ⟨rfl, h3⟩
            have h4 := (h3.below (w' := w3.alloc (.cells #[.int .i64 0, .int .i64 0, .int .u64 0] 39)) ((Below.refl _ _).alloc (Nat.le_refl _) _)).od
            have H4 := Lib.hid (h4.next HO.out HV3.out rfl)
            clear h3 h4 H1
            go_wp2_with (go_at_call 11; refine H4.out.mono ?_)
            rintro e w5 ⟨rfl, o5⟩
            have hl5 := o5.len
            rw [HM.out] at hl5
            have hg5 := o5.go tq HTQ.out
            rw [HGB.out, HZQ.out] at hg5
            have HL5 := Lib.hid hl5
            have HG5 := Lib.hid hg5
            clear o5 hl5 hg5 H4
            go_wp2_with (first
              | (go_at_call 13; refine HL5.out.mono ?_; rintro e w' ⟨rfl, hw⟩; rw [hw]; clear hw)
              | (go_at_call 17; refine HG5.out.mono ?_))
            rintro e w6 ⟨rfl, o6⟩
            have HB6 := Lib.hid o6.bl
            clear o6 HG5 HL5
            go_wp2_with (go_at_call 6; refine (due9.live_any _).mono ?_)
            first | rintro e w7 rfl hb7 | rintro e w7 ⟨rfl, hb7⟩
            have HF : Hid (Below w.heap.size w w7) := Lib.hid (HB6.out.trans (hb7.mono HB6.out.size))
            clear hb7
            go_wp2
            go_ret
            exact ⟨rfl, HF.out⟩
          | some m =>
            have hltm : zq < v3 := by
              unfold gob at hgb
              rw [ho] at hgb
              have h2 := of_decide_eq_true hgb
              have e3 : (m : Int) = v3 := hv3
              have := HZQ.out
              omega
            clear hob hord hr hLi hm ho hgb hv3
            go_wp2_with (go_at_call 16; refine H1.out.mono ?_)
            rintro e w3 ⟨rfl, h3⟩
            have h4 := (h3.below (w' := w3.alloc (.cells #[.int .i64 0, .int .i64 0, .int .u64 0] 39)) ((Below.refl _ _).alloc (Nat.le_refl _) _)).od
            have H4 := Lib.hid (h4.next HO.out HV3.out rfl)
            clear h3 h4 H1
            go_wp2_with (go_at_call 11; refine H4.out.mono ?_)
            rintro e w5 ⟨rfl, o5⟩
            have hl5 := o5.len
            rw [HM.out] at hl5
            have hg5 := o5.go tq HTQ.out
            rw [HGB.out, HZQ.out] at hg5
            have HL5 := Lib.hid hl5
            have HG5 := Lib.hid hg5
            clear o5 hl5 hg5 H4
            go_wp2_with (first
              | (go_at_call 13; refine HL5.out.mono ?_; rintro e w' ⟨rfl, hw⟩; rw [hw]; clear hw)
              | (go_at_call 17; refine HG5.out.mono ?_))
            rintro e w6 ⟨rfl, o6⟩
            have HB6 := Lib.hid o6.bl
            clear o6 HG5 HL5
            go_wp2_with (go_at_call 6; refine (due9.live_any _).mono ?_)
            first | rintro e w7 rfl hb7 | rintro e w7 ⟨rfl, hb7⟩
            have HF : Hid (Below w.heap.size w w7) := Lib.hid (HB6.out.trans (hb7.mono HB6.out.size))
            clear hb7
            go_wp2
            go_ret
            exact ⟨rfl, HF.out⟩
        | false =>
          have hne : L ≠ [] := fun e => by rw [e] at hgb; cases hgb
          obtain ⟨jj, hF⟩ := fx_exists L hne
          obtain ⟨x, hxq⟩ : ∃ x, L.getD jj x0 = x := ⟨_, rfl⟩
          have hle : x.tick ≤ tq := by
            have h2 := gob_fx (tq := tq) hF
            rw [hgb, hxq] at h2
            have h3 := of_decide_eq_false h2.symm
            omega
          obtain ⟨zx, hzx⟩ : ∃ z : Int, (x.tick : Int) = z := ⟨_, rfl⟩
          obtain ⟨zy, hzy⟩ : ∃ z : Int, (y.tick : Int) = z := ⟨_, rfl⟩
          have hlez : ¬ zq < zx := by have := HZQ.out; omega
          have H1 : Hid (Calls Try.prog 16 #[.pointer (some ⟨b, 0, none⟩), .int .u64 zq] wr fun e w' => e = .returned (.tuple #[.agg #[.int .i64 x.kind, .int .i64 x.id, .int .u64 zx], .bool true]) ∧ OB w b g #[.int .i64 y.kind, .int .i64 y.id, .int .u64 zy] (max nw x.tick) (wo L x.kind x.id) w') := Lib.hid (by
            have h2 := hob.first hF hxq tq hle hlen
            rw [HZQ.out, show xv x = .agg #[.int .i64 x.kind, .int .i64 x.id, .int .u64 zx] by unfold xv; rw [hzx], hzy] at h2
            exact h2)
          obtain ⟨hwl, hwb⟩ := wo_first hob.od.ok hF hxq
          have hi1 : i + 1 ≤ N := by omega
          have HNXT : Hid (∀ w5, OB w b g #[.int .i64 y.kind, .int .i64 y.id, .int .u64 zy] (max nw x.tick) (wo L x.kind x.id) w5 → StO w b g N (i + 1) (((w5.setCell ⟨g, 0, none⟩ (.int .i64 x.kind)).setCell ⟨g, 1, none⟩ (.int .i64 x.id)).setCell ⟨g, 2, none⟩ (.int .u64 zx))) := Lib.hid (fun w5 h5 => by
            have h6 := h5.put3 (.int .i64 x.kind) (.int .i64 x.id) (.int .u64 zx)
            rw [← hzx] at h6 ⊢
            exact ⟨_, _, x, by omega, h6, Or.inr hwb⟩)
          by_cases hi0 : i = 0
          · subst hi0
            clear hob hord hr hLi hgb hF hxq hle hzx hzy hwl hwb hne
            go_wp2_with (go_at_call 16; refine H1.out.mono ?_)
            first | rintro e w3 rfl h3 | rintro e w3 ⟨rfl, h3⟩
            obtain ⟨W4, hW4⟩ : ∃ W4, w3.alloc (.cells #[.int .i64 x.kind, .int .i64 x.id, .int .u64 zx] 39) = W4 := ⟨_, rfl⟩
            obtain ⟨gx, hgx⟩ : ∃ gx, w3.heap.size = gx := ⟨_, rfl⟩
            have hkx : W4.heap[gx]? = some (.cells #[.int .i64 x.kind, .int .i64 x.id, .int .u64 zx] 39) := by rw [← hW4, ← hgx]; exact (MapKept.heap_alloc _ _).1
            have h4 := h3.below (w' := W4) (by rw [← hW4]; exact (Below.refl _ _).alloc (Nat.le_refl _) _)
            obtain ⟨⟨k0, k1, k2⟩, _⟩ := three hkx
            obtain ⟨⟨c0, c1, c2⟩, f0, f1, f2⟩ := three h4.at
            have HN5 := Lib.hid (HNXT.out _ h4)
            clear h3 h4 hkx H1 HNXT
            go_wp2
            go_roundw
            case rel => exact ⟨1, by go_num, hi1, HN5⟩
            case measure => simp [intOf]
          · have hi0' : (0 : Int) < (i : Int) := by omega
            have hbf : bef y x := by
              rcases hord with h | h
              · exact absurd h hi0
              · exact h x (by rw [← hxq]; exact getD_mem hF.1)
            have HLA : Hid (∀ w, Calls Try.prog 18 #[.agg #[.int .i64 x.kind, .int .i64 x.id, .int .u64 zx], .agg #[.int .i64 y.kind, .int .i64 y.id, .int .u64 zy]] w (Below1 w true)) := Lib.hid (fun w => by
              have h2 := later_any x y w hbf
              rw [hzx, hzy] at h2
              exact h2)
            clear hob hord hr hLi hgb hF hxq hle hzx hzy hwl hwb hne hbf
            go_wp2_with (go_at_call 16; refine H1.out.mono ?_)
            first | rintro e w3 rfl h3 | rintro e w3 ⟨rfl, h3⟩
            obtain ⟨W4, hW4⟩ : ∃ W4, w3.alloc (.cells #[.int .i64 x.kind, .int .i64 x.id, .int .u64 zx] 39) = W4 := ⟨_, rfl⟩
            obtain ⟨gx, hgx⟩ : ∃ gx, w3.heap.size = gx := ⟨_, rfl⟩
            have hkx : W4.heap[gx]? = some (.cells #[.int .i64 x.kind, .int .i64 x.id, .int .u64 zx] 39) := by rw [← hW4, ← hgx]; exact (MapKept.heap_alloc _ _).1
            have h4 := h3.below (w' := W4) (by rw [← hW4]; exact (Below.refl _ _).alloc (Nat.le_refl _) _)
            obtain ⟨⟨k0, k1, k2⟩, _⟩ := three hkx
            obtain ⟨⟨c0, c1, c2⟩, f0, f1, f2⟩ := three h4.at
            have H4 := Lib.hid h4
            have HKX := Lib.hid hkx
            clear h3 h4 hkx H1
            go_wp2_with (go_at_call 18; refine (HLA.out _).mono ?_)
            rintro e w5 ⟨rfl, hb5⟩
            have h5 := H4.out.below hb5
            have hkx5 : w5.heap[gx]? = some (.cells #[.int .i64 x.kind, .int .i64 x.id, .int .u64 zx] 39) := (hb5.block gx (lt_of_some HKX.out)).trans HKX.out
            obtain ⟨⟨l0, l1, l2⟩, _⟩ := three hkx5
            obtain ⟨⟨d0, d1, d2⟩, e0, e1, e2⟩ := three h5.at
            have HN5 := Lib.hid (HNXT.out _ h5)
            clear h5 hkx5 hb5 k0 k1 k2 c0 c1 c2 f0 f1 f2 HNXT hW4
            go_wp2
            go_roundw
            case rel => exact ⟨i + 1, by go_num, hi1, HN5⟩
            case measure => simp [intOf]; omega
theorem walk (a0 : Int) (w0 : (Lit.int .u64 a0).wf = true) (p : Option Addr) (n cap : Nat) (l : List X) (hn : l.length = n) (hmx : n ≤ maxLen) (hlt : ∀ x ∈ l, x.tick < 2 ^ 64) (a2 : Int) (w2 : (Lit.int .u64 a2).wf = true) (w : World) (hxo : XO w p l) :
    Calls Try.prog 4 #[.int .u64 a0, .slice p n cap, .int .u64 a2] w fun e w' => e = .returned (.bool true) ∧ Below w.heap.size w w' := by
  obtain ⟨a, rfl, ha⟩ := u64_nat w0
  obtain ⟨q, rfl, hq⟩ := u64_nat w2
  unfold maxLen at hmx
  by_cases h : 100 < n
  · exact walk_big a p n cap q w h (by omega)
  · exact walk_small a ha p n cap l q hq w hn (by omega) hlt hxo
theorem own : ownKnob Try.prog.godebug = none := by kernel_rfl
theorem laidOut : laidOutB Try.prog = true := by kernel_rfl
set_option maxRecDepth 100000 in
theorem contract (H : Type) (enc : TypeId × Value → H) (W : World) (base : Nat) (args : Array Value) (ds gs : List (DataW H)) (before : List MemPlace)
    (hval0 : ∀ (j : Nat) t v, Try.f4.params[j]? = some t → args[j]? = some v → Value.okWide Try.prog W .any base t v)
    (hW : DataW.Whole enc Try.prog Try.f4.params.toList Rows.dueOrderSpec.vars false W args.toList ds gs before) :
    Calls Try.prog 4 args W fun e W' => ∃ v, e = .returned v ∧ Rows.dueOrderSpec.post enc Try.prog Try.f4 false true false false W args v W' := by
  have hval : ∀ (j : Nat) t v, Try.f4.params[j]? = some t → args[j]? = some v → Value.okWide Try.prog W .any base t v := hval0
  clear hval0
  have hW' := hW
  obtain ⟨p, q, hA0, hV, rfl, hfz, hnd⟩ := hW
  have hA : DataW.TrodAll enc Try.prog W 0 (fun _ => true) true Try.f4.params.toList args.toList ds p := hA0
  rw [Try.params4] at hA hval
  obtain ⟨v0, vs0, d0, ds0, p0, q0, hargs, rfl, rfl, h0, r0⟩ := trodAll_cons hA
  obtain ⟨v1, vs1, d1, ds1, p1, q1, rfl, rfl, rfl, h1, r1⟩ := trodAll_cons r0
  obtain ⟨v2, vs2, d2, ds2, p2, q2, rfl, rfl, rfl, h2, r2⟩ := trodAll_cons r1
  obtain ⟨rfl, rfl, rfl⟩ := trodAll_nil r2
  obtain rfl : args = #[v0, v1, v2] := by cases args; simp_all
  obtain ⟨rfl, rfl⟩ := trodVars_none hV
  obtain ⟨a0, rfl, rfl, rfl, w0⟩ := open_int Try.underlying22 (hval 0 22 v0 rfl rfl) h0
  obtain ⟨a2, rfl, rfl, rfl, w2⟩ := open_int Try.underlying22 (hval 2 22 v2 rfl rfl) h2
  obtain ⟨pp, n, cap, l, rfl, hn, hmx, hlt, hxo⟩ := timers_open h1 (okWide_slice Try.underlying28 (hval 1 28 v1 rfl rfl))
  clear hA0
  refine (walk a0 w0 pp n cap l hn hmx hlt a2 w2 W hxo).mono fun e W' ⟨he, hb⟩ => ?_
  subst he
  exact ⟨_, rfl, law_post laidOut (by kernel_rfl) rfl Try.underlying4 rfl hW' rfl hb⟩

set_option maxRecDepth 100000 in
theorem lifted (os : Os) (started : os.Started) (H : Type) (enc : TypeId × Value → H) :
    ReturnsInHanded {} Try.checked os 4 .any (Rows.dueOrderSpec.pre6 enc Try.prog Try.f4 Rows.dueOrderRow.domain false) (Rows.dueOrderSpec.post enc Try.prog Try.f4 false true false false) := by
  refine returnsInHanded_of_change (C := Try.checked) own started (by kernel_rfl) Try.func4
    (ChangeSpec.witness6 (enc := enc) (C := Try.checked) false ⟨#[], #[.int .u64 0, .slice none 0 0, .int .u64 0], []⟩ 8 (by kernel_rfl) (by kernel_rfl) (by kernel_rfl) (by kernel_rfl)) ?_
  intro W base args ds gs before hval0 hW _ _
  exact contract H enc W base args ds gs before hval0 hW

/-- THE STATEMENT -/
theorem proved : Rows.DueOrderSaid :=
  OpenClaim.holds_of_wide 4 Try.f4 rfl rfl rfl rfl rfl rfl rfl ⟨rfl, rfl, rfl, rfl, rfl⟩ rfl rfl rfl rfl rfl (by kernel_rfl) Try.func4 (by kernel_rfl)
    (of_decide_eq_true (by kernel_rfl)) (by unfold Func.isWrapper; first | (rw [if_pos (by decide +kernel)]; kernel_rfl) | (rw [if_neg (by decide +kernel)]; exact ⟨rfl, rfl⟩))
    (fun os started H enc _ => lifted os started H enc)
end dueOrder
end Go.Proofs.Ytlhajdmleefkiaa
