/-
  THE PAGE OF LAYER 9 (due), part I: Clear, Set, Go, First.
-/
import Derived.Test.YtlhajdmleefkiaaDueH
namespace Go.Proofs.Ytlhajdmleefkiaa
open Go.RowKit Wl Dl Bt
set_option linter.unusedVariables false

namespace Dl
def rfd (br : Nat) (v : Value) (x : Nat) : Prop := x = br ∨ v.ownBlock = some x
/-- the page's timers in memory: two cells, a row -/
structure RD (w : World) (br : Nat) (v : Value) (tick : Nat) (L : List X) : Prop where
  kind : ∃ cs, w.heap[br]? = some (.cells cs 30)
  c0 : w.cell? ⟨br, 0, none⟩ = some (.int .u64 tick)
  c1 : w.cell? ⟨br, 1, none⟩ = some v
  own : OwnX w 0 v L
  len : L.length ≤ 1000
section
variable {w w' : World} {br tick : Nat} {v : Value} {L : List X}
theorem RD.lt (h : RD w br v tick L) : br < w.heap.size := by
  obtain ⟨cs, e⟩ := h.kind
  exact (Array.getElem?_eq_some_iff.1 e).1
theorem own_ne_br {L' : List X} {B : Nat} {v' : Value} (h : OwnX w B v' L') (hk : ∃ cs, w.heap[br]? = some (.cells cs 30)) {g : Nat} (hg : v'.ownBlock = some g) : g ≠ br := by
  intro e
  obtain ⟨_, _, cs, e1⟩ := h.kind hg
  obtain ⟨cs2, e2⟩ := hk
  rw [e, e2] at e1
  injection e1 with e1
  injection e1 with _ e1
  exact absurd e1 (by decide)
theorem RD.same (h : RD w br v tick L) (hb : ∀ x, rfd br v x → w'.heap[x]? = w.heap[x]?) : RD w' br v tick L where
  kind := by rw [hb _ (Or.inl rfl)]; exact h.kind
  c0 := by rw [World.cell?_of_block (hb _ (Or.inl rfl))]; exact h.c0
  c1 := by rw [World.cell?_of_block (hb _ (Or.inl rfl))]; exact h.c1
  own := h.own.block (fun g e => hb g (Or.inr e))
  len := h.len
theorem RD.lt_fp (h : RD w br v tick L) {x : Nat} (hx : rfd br v x) : x < w.heap.size := by
  rcases hx with rfl | hx
  · exact h.lt
  · exact (h.own.kind hx).2.1
theorem RD.below (h : RD w br v tick L) (hb : Below w.heap.size w w') : RD w' br v tick L := h.same fun x hx => hb.block x (h.lt_fp hx)
theorem RD.mv {S : Nat → Prop} (h : RD w br v tick L) (hm : Mv S w w') (hs : ∀ x, rfd br v x → ¬ S x) : RD w' br v tick L := h.same fun x hx => hm.block x (h.lt_fp hx) (hs x hx)
theorem RD.frozen (h : RD w br v tick L) (o : Nat) : w.frozen? ⟨br, o, none⟩ = false := by
  obtain ⟨cs, h1⟩ := h.kind
  simp [World.frozen?, h1]
/-- another row of timers is laid in -/
theorem RD.lay (h : RD w br v tick L) {v' : Value} {L' : List X} {B : Nat} (ho : OwnX w B v' L') (hl : L'.length ≤ 1000) : RD (w.setCell ⟨br, 1, none⟩ v') br v' tick L' where
  kind := kind_setCell _ _ h.kind
  c0 := (cset_other (by omega)).trans h.c0
  c1 := cset_same h.c1
  own := (ho.mono (Nat.zero_le _)).block (fun g e => Below.heap_setCell _ _ _ _ (own_ne_br ho h.kind e))
  len := hl
theorem RD.clock (h : RD w br v tick L) (t : Nat) : RD (w.setCell ⟨br, 0, none⟩ (.int .u64 (t : Nat))) br v t L where
  kind := kind_setCell _ _ h.kind
  c0 := cset_same h.c0
  c1 := (cset_other (by omega)).trans h.c1
  own := h.own.block (fun g e => Below.heap_setCell _ _ _ _ (own_ne_br h.own h.kind e))
  len := h.len
end
/-- the page's timers, come out of those in w0 -/
def RG (w0 : World) (br : Nat) (v0 : Value) (tick : Nat) (L : List X) (w : World) : Prop := ∃ v, RD w br v tick L ∧ Gs (rfd br v0) w0 (rfd br v) w
end Dl
section
variable {w w' : World} {br tick : Nat} {v : Value} {L : List X}
theorem RG.start (h : RD w br v tick L) : RG w br v tick L w := ⟨v, h, Gs.refl _ _⟩
def RDid9 (w : World) (br : Nat) (v : Value) (tick : Nat) (r : Value) (L : List X) (e : Ending) (w' : World) : Prop := e = .returned r ∧ RG w br v tick L w'
set_option maxHeartbeats 1000000 in
theorem rclear_any (h : RD w br v tick L) (k i : Int) : Calls Try.prog 23 #[.pointer (some ⟨br, 0, none⟩), .int .i64 k, .int .i64 i] w (RDid9 w br v tick (.bool (ps L k i).isSome) (wo L k i)) := by
  have HH := Lib.hid h
  obtain ⟨p, cap, hv, hmx, hxc⟩ := h.own.view
  have hc0 := h.c0
  have hc1 := h.c1
  obtain ⟨n, hn⟩ : ∃ n, L.length = n := ⟨_, rfl⟩
  rw [hn] at hv
  rw [hv] at hc1
  obtain ⟨zt, hzt⟩ : ∃ z : Int, (tick : Int) = z := ⟨_, rfl⟩
  rw [hzt] at hc0
  have hn2 : n ≤ 1000 := by have := h.len; omega
  have HF := Lib.hid (rfind_any zt p n cap L k i w hn hn2 hxc)
  have HN := Lib.hid hn
  have HV := Lib.hid hv
  have HZ := Lib.hid hzt
  have HXC := Lib.hid hxc
  clear h hn hv hzt hxc
  cases hp : ps L k i with
  | none =>
    rw [hp] at HF
    have hw : wo L k i = L := by unfold wo; rw [hp]
    rw [hw]
    clear hw hp
    go_enter Try.func23, Try.ntmps23
    go_wp2_with (go_at_call 10; refine HF.out.mono ?_)
    first | rintro e w1 rfl hb1 | rintro e w1 ⟨rfl, hb1⟩
    have hfin : Hid (RG w br v tick L w1) := Lib.hid ⟨v, HH.out.below hb1, Gs.below hb1⟩
    clear hb1 hc0 hc1
    unfold pz
    go_wp2
    go_ret
    exact ⟨rfl, hfin.out⟩
  | some j =>
    rw [hp] at HF
    have hw : wo L k i = L.eraseIdx j := by unfold wo; rw [hp]
    rw [hw]
    have hj0 : ¬ ((j : Int) < 0) := by omega
    unfold pz at HF
    clear hw hp
    go_enter Try.func23, Try.ntmps23
    go_wp2_with (go_at_call 10; refine HF.out.mono ?_)
    first | rintro e w1 rfl hb1 | rintro e w1 ⟨rfl, hb1⟩
    have h1 := HH.out.below hb1
    have hc0 := h1.c0
    have hc1 := h1.c1
    rw [HV.out] at hc1
    rw [HZ.out] at hc0
    have HWO := Lib.hid (without_any zt p n cap L j w1 HN.out hn2 (HXC.out.below hb1 (Nat.le_refl _)))
    have HB1 := Lib.hid hb1
    clear hb1 h1
    go_wp2_with (go_at_call 38; refine HWO.out.mono ?_)
    rintro e w2 ⟨p2, m, c2, rfl, hm, hown, hb2⟩
    have h2 := (HH.out.below HB1.out).below hb2
    have hfz := h2.frozen 1
    have hd1 := h2.c1
    have hlay := h2.lay hown (by have h3 := (List.eraseIdx_sublist L j).length_le; have h4 := HH.out.len; omega)
    have hfin : Hid (RG w br v tick (L.eraseIdx j) (w2.setCell ⟨br, 1, none⟩ (.slice p2 m c2))) := Lib.hid ⟨_, hlay, fun x hx => by
      rcases hx with hx | hx
      · exact Or.inl (Or.inl hx)
      · exact Or.inr (Nat.le_trans HB1.out.size (hown.kind hx).1), (((Mv.of_below HB1.out).trans (Mv.of_below hb2) (S := rfd br v) (S' := rfd br v) (fun _ _ e => e))).trans (Mv.setCell (S := rfd br v) _ _ _ (Or.inl rfl)) (fun _ _ e => e)⟩
    clear h2 hown hb2 hlay hm HWO
    go_wp2
    go_ret
    exact ⟨rfl, hfin.out⟩
theorem Dl.RG.below (h : RG w br v tick L w') {w2 : World} (hb : Below w'.heap.size w' w2) : RG w br v tick L w2 := by
  obtain ⟨v', h1, h2⟩ := h
  exact ⟨v', h1.below hb, h2.trans (Gs.below hb)⟩
set_option maxHeartbeats 1000000 in
theorem rset_any (h : RD w br v tick L) (hL : Ok L) (k i : Int) (a : Nat) (ha : a < 2 ^ 64) (hlen : L.length < 1000) : Calls Try.prog 22 #[.pointer (some ⟨br, 0, none⟩), .int .i64 k, .int .i64 i, .int .u64 a] w (RDid9 w br v tick (.int .i64 (st L k i a).1) (st L k i a).2) := by
  have HM := Lib.hid (rmay_any k i w)
  obtain ⟨za, hza⟩ : ∃ z : Int, (a : Int) = z := ⟨_, rfl⟩
  by_cases hm : May k i
  · rw [decide_eq_true hm] at HM
    have HCL := Lib.hid (rclear_any h k i)
    have e1 : st L k i a = (0, wo L k i ++ [⟨k, i, a⟩]) := by unfold st; rw [if_pos hm]
    have hwl := (wo_sub L k i).length_le
    rw [e1, hza]
    have HZ := Lib.hid hza
    obtain ⟨i0, hinf, hz0, hz1, hz2⟩ := info_parts info_T
    have HI := Lib.hid hinf
    have HZ0 := Lib.hid hz0
    have HZ1 := Lib.hid hz1
    have HZ2 := Lib.hid hz2
    obtain ⟨M, hM⟩ : ∃ M, wo L k i = M := ⟨_, rfl⟩
    rw [hM] at HCL hwl ⊢
    clear h hm hza hinf hz0 hz1 hz2 e1 hM
    go_enter Try.func22, Try.ntmps22
    go_wp2_with (first
      | (go_at_call 37; refine HM.out.mono ?_; rintro e w' ⟨rfl, hw⟩; rw [hw]; clear hw)
      | (go_at_call 23; refine HCL.out.mono ?_))
    rintro e w1 ⟨rfl, v1, h1, hg1⟩
    obtain ⟨p, cap, hv, hmx, hxc⟩ := h1.own.view
    have hc1 := h1.c1
    obtain ⟨n, hn⟩ : ∃ n, M.length = n := ⟨_, rfl⟩
    have hown := h1.own
    unfold OwnX at hown
    rw [hn] at hv hown hwl
    rw [hv] at hc1 hown
    have HV := Lib.hid hv
    have HN := Lib.hid hn
    have H1 := Lib.hid h1
    have HG1 := Lib.hid hg1
    clear h1 hg1 hv hn hxc hmx HCL HM
    go_wp2_with (at_builtin; refine wpList_append_own_at _ rfl _ _ 28 rfl 0 39 i0 zT 3 24 Try.underlying28 HI.out HZ0.out HZ1.out HZ2.out rfl (by decide) _ _ _ rfl (World.ownsRow.alloc hown _) ⟨w1.heap.size, 0, none⟩ 1 1 [.int .i64 k, .int .i64 i, .int .u64 za] rfl rfl (xcells3 w1 _ _ _ _) (xone _ _ _) (by unfold maxLen; omega) (by omega) (Nat.zero_le _) ?_)
    intro v3 w3 hown3 hgrow hnil hat
    have hown4 : OwnX w3 0 v3 (M ++ [⟨k, i, a⟩]) := by
      unfold OwnX
      rw [xcells_app, List.length_append, HN.out]
      have e : xcells [⟨k, i, a⟩] = [.int .i64 k, .int .i64 i, .int .u64 za] := by rw [← HZ.out]; rfl
      rw [e]
      exact hown3
    obtain ⟨p3, c3, hv3, _, _⟩ := hown4.view
    obtain ⟨n3, hn3⟩ : ∃ n3, (M ++ [(⟨k, i, a⟩ : X)]).length = n3 := ⟨_, rfl⟩
    rw [hn3] at hv3
    subst hv3
    have hlen3 : (M ++ [(⟨k, i, a⟩ : X)]).length ≤ 1000 := by rw [List.length_append, HN.out]; simp only [List.length_cons, List.length_nil]; omega
    obtain ⟨W2, hW2⟩ : ∃ W2, w1.alloc (.cells #[.int .i64 k, .int .i64 i, .int .u64 za] 39) = W2 := ⟨_, rfl⟩
    rw [hW2] at hgrow
    have hb2 : Below w1.heap.size w1 W2 := by rw [← hW2]; exact (Below.refl _ _).alloc (Nat.le_refl _) _
    have h2 := H1.out.below hb2
    rw [← HV.out] at hgrow hat
    have hne : v1.ownBlock ≠ some br := fun e => own_ne_br h2.own h2.kind e rfl
    have hbr : w3.heap[br]? = W2.heap[br]? := hgrow.block br h2.lt (fun e => hne e.symm)
    have hk3 : ∃ cs, w3.heap[br]? = some (.cells cs 30) := by rw [hbr]; exact h2.kind
    have hfz : w3.frozen? ⟨br, 1, none⟩ = false := by rw [World.frozen?_of_block hbr]; exact h2.frozen 1
    have hd3 : w3.cell? ⟨br, 1, none⟩ = some (.slice p n cap) := by rw [World.cell?_of_block hbr, h2.c1, HV.out]
    have hd0 : w3.cell? ⟨br, 0, none⟩ = some (.int .u64 (tick : Nat)) := by rw [World.cell?_of_block hbr, h2.c0]
    have hfin : Hid (RG w br v tick (M ++ [⟨k, i, a⟩]) (w3.setCell ⟨br, 1, none⟩ (.slice p3 n3 c3))) := Lib.hid ⟨.slice p3 n3 c3, {
      kind := kind_setCell _ _ hk3
      c0 := (cset_other (by omega)).trans hd0
      c1 := cset_same hd3
      own := hown4.block (fun g e => Below.heap_setCell _ _ _ _ (own_ne_br hown4 hk3 e))
      len := hlen3 }, HG1.out.trans ⟨fun x hx => by
        rcases hx with hx | hx
        · exact Or.inl (Or.inl hx)
        · rcases hat with e | e
          · rw [hx] at e; exact Or.inl (Or.inr e.symm)
          · rw [hx] at e
            injection e with e
            exact Or.inr (by omega), ((Mv.of_below (S := rfd br v1) hb2).trans (Mv.of_grown (S := rfd br v1) hgrow (fun x e _ => Or.inr e)) (fun _ _ e => e)).trans (Mv.setCell (S := rfd br v1) _ _ _ (Or.inl rfl)) (fun _ _ e => e)⟩⟩
    clear hnil hown3 hown4 hgrow hat hbr h2 hd0 hne hk3 hb2 hown hc1 hlen3 hn3
    go_wp2
    go_ret
    exact ⟨rfl, hfin.out⟩
  · rw [decide_eq_false hm] at HM
    have e1 : st L k i a = (1, L) := by unfold st; rw [if_neg hm]
    have hfin : Hid (RG w br v tick L w) := Lib.hid (RG.start h)
    rw [e1, hza]
    clear h hm hza e1
    go_enter Try.func22, Try.ntmps22
    go_wp2_with (go_at_call 37; refine HM.out.mono ?_; rintro e w' ⟨rfl, hw⟩; rw [hw]; clear hw)
    go_ret
    exact ⟨rfl, hfin.out⟩
def NextE9 (w : World) (v : Int) (b : Bool) (e : Ending) (w' : World) : Prop := e = .returned (.tuple #[.int .u64 v, .bool b]) ∧ Below w.heap.size w w'
theorem rnext9_at {z : Int} {p : Option Addr} {n cap : Nat} (hn : L.length = n) (hn2 : n ≤ 1000) (h : XC w p L) {o : Option Nat} {v : Int} {b : Bool} (ho : nxt (L.map nu) = o) (hv : ((o.getD 0 : Nat) : Int) = v) (hb : o.isSome = b) :
    Calls Try.prog 12 #[.agg #[.int .u64 z, .slice p n cap]] w (NextE9 w v b) := by
  have h1 := rnext9_any z p n cap L w hn hn2 h
  subst hv hb ho
  exact h1
theorem Dl.RG.clock (h : RG w br v tick L w') (t : Nat) : RG w br v t L (w'.setCell ⟨br, 0, none⟩ (.int .u64 (t : Nat))) := by
  obtain ⟨v', h1, h2⟩ := h
  exact ⟨v', h1.clock t, h2.trans ⟨fun x hx => Or.inl hx, Mv.setCell _ _ _ (Or.inl rfl)⟩⟩
set_option maxHeartbeats 1000000 in
theorem rgo_any (h : RD w br v tick L) (tq : Nat) : Calls Try.prog 25 #[.pointer (some ⟨br, 0, none⟩), .int .u64 tq] w (RDid9 w br v (cond (gob L tq) (max tick tq) tick) (.bool (gob L tq)) L) := by
  have HH := Lib.hid h
  obtain ⟨p, cap, hv, hmx, hxc⟩ := h.own.view
  have hc0 := h.c0
  have hc1 := h.c1
  obtain ⟨n, hn⟩ : ∃ n, L.length = n := ⟨_, rfl⟩
  rw [hn] at hv
  rw [hv] at hc1
  obtain ⟨zt, hzt⟩ : ∃ z : Int, (tick : Int) = z := ⟨_, rfl⟩
  obtain ⟨zq, hzq⟩ : ∃ z : Int, (tq : Int) = z := ⟨_, rfl⟩
  rw [hzt] at hc0
  rw [hzq]
  have hn2 : n ≤ 1000 := by have := h.len; omega
  have hmax : max zt zq = ((max tick tq : Nat) : Int) := by omega
  obtain ⟨mx, hmxx⟩ : ∃ mx, max tick tq = mx := ⟨_, rfl⟩
  rw [hmxx] at hmax ⊢
  have HV := Lib.hid hv
  have HZ := Lib.hid hzt
  cases ho : nxt (L.map nu) with
  | none =>
    have hg : gob L tq = true := by unfold gob; rw [ho]
    have HNX := Lib.hid (rnext9_at (z := zt) (cap := cap) hn hn2 hxc ho (v := 0) (b := false) rfl rfl)
    rw [hg]
    clear h hn hv hzt hzq hxc ho hg hmxx hmx
    go_enter Try.func25, Try.ntmps25
    go_wp2_with (go_at_call 12; refine HNX.out.mono ?_)
    first | rintro e w1 rfl hb1 | rintro e w1 ⟨rfl, hb1⟩
    have h1 := HH.out.below hb1
    have hc0 := h1.c0
    have hfz := h1.frozen 0
    rw [HZ.out] at hc0
    have hfin : Hid (RG w br v mx L (w1.setCell ⟨br, 0, none⟩ (.int .u64 (mx : Nat)))) := Lib.hid (((RG.start HH.out).below hb1).clock mx)
    clear h1 hb1 HNX
    go_wp2
    go_ret
    exact ⟨rfl, hfin.out⟩
  | some m =>
    obtain ⟨zm, hzm⟩ : ∃ z : Int, (m : Int) = z := ⟨_, rfl⟩
    have HNX := Lib.hid (rnext9_at (z := zt) (cap := cap) hn hn2 hxc ho (v := zm) (b := true) hzm rfl)
    by_cases hlt : tq < m
    · have hg : gob L tq = true := by unfold gob; rw [ho]; simpa using hlt
      have hle : ¬ zm ≤ zq := by omega
      rw [hg]
      clear h hn hv hzt hzq hxc ho hg hmxx hmx hzm hlt
      go_enter Try.func25, Try.ntmps25
      go_wp2_with (go_at_call 12; refine HNX.out.mono ?_)
      first | rintro e w1 rfl hb1 | rintro e w1 ⟨rfl, hb1⟩
      have h1 := HH.out.below hb1
      have hc0 := h1.c0
      have hfz := h1.frozen 0
      rw [HZ.out] at hc0
      have hfin : Hid (RG w br v mx L (w1.setCell ⟨br, 0, none⟩ (.int .u64 (mx : Nat)))) := Lib.hid (((RG.start HH.out).below hb1).clock mx)
      clear h1 hb1 HNX
      go_wp2
      go_ret
      exact ⟨rfl, hfin.out⟩
    · have hg : gob L tq = false := by unfold gob; rw [ho]; simpa using hlt
      have hle : zm ≤ zq := by omega
      rw [hg]
      clear h hn hv hzt hzq hxc ho hg hmxx hmx hzm hlt
      go_enter Try.func25, Try.ntmps25
      go_wp2_with (go_at_call 12; refine HNX.out.mono ?_)
      first | rintro e w1 rfl hb1 | rintro e w1 ⟨rfl, hb1⟩
      have hfin : Hid (RG w br v tick L w1) := Lib.hid ((RG.start HH.out).below hb1)
      clear hb1 HNX
      go_wp2
      go_ret
      exact ⟨rfl, hfin.out⟩
end
end Go.Proofs.Ytlhajdmleefkiaa
