/-
  LAYER 8 (wheel), part K: a wheel of the call's own; the law's helpers num, live, same; rows of acts that come in.
-/
import Derived.Test.YtjppbmkoblbfeaaWheelJ
import Derived.Test.YtjppbmkoblbfeaaOpens
import Derived.Lib.SmallJoins
namespace Go.Proofs.Ytjppbmkoblbfeaa
open Go.RowKit Wl Bt Go.Deep
open Go.ChangeShapes Go.WideShapes Go.Joins
set_option linter.unusedVariables false

theorem num_any (a : Int) (w : World) : Calls Try.prog 8 #[.int .i64 a] w fun e w' => e = .returned (.int .i64 a) ∧ w' = w := by
  go_enter Try.func8, Try.ntmps8
  go_wp2
  go_ret
  exact ⟨rfl, rfl⟩
/-- a wheel that the call itself has made: w0: the world when the call began -/
structure Own (w0 : World) (D : Wd) (now : Nat) (L : List T) (wr : World) : Prop where
  wh : Wheel wr D now L
  base : ∀ x, D.fp x → w0.heap.size ≤ x
  bl : Below w0.heap.size w0 wr
section
variable {w0 wr w' : World} {D D' : Wd} {now now' : Nat} {L L' : List T}
theorem Own.step (h : Own w0 D now L wr) (hs : Step wr D w' D') (hw : Wheel w' D' now' L') : Own w0 D' now' L' w' where
  wh := hw
  base := fun x hx => by
    rcases hs.own x hx with h1 | h1
    · exact h.base x h1
    · exact Nat.le_trans h.bl.size h1
  bl := h.bl.trans (hs.mv.below h.bl.size (fun k hk hf => by have := h.base k hf; omega))
theorem Own.below (h : Own w0 D now L wr) (hb : Below wr.heap.size wr w') : Own w0 D now L w' := ⟨h.wh.below hb (Nat.le_refl _), h.base, h.bl.trans (hb.mono h.bl.size)⟩
theorem Own.drew (h : Own w0 D now L wr) : Own w0 D now L wr.drew := h.below (Below.refl _ _).drew
end
theorem Own.new {w0 w' : World} {D : Wd} {now : Nat} (hw : Wheel w' D now []) (hf : Fresh w0 D) (hb : Below w0.heap.size w0 w') : Own w0 D now [] w' := ⟨hw, hf, hb⟩
def Puts (w0 : World) (D : Wd) (now : Nat) (r : Int × List T) (e : Ending) (w' : World) : Prop := e = .returned (.int .i64 r.1) ∧ ∃ D', D'.b = D.b ∧ Own w0 D' now r.2 w'
theorem own_put {w0 w : World} {D : Wd} {now : Nat} {L : List T} (h : Own w0 D now L w) (k : Int) (a : Nat) (hk : Mi.Wf k) (ha : a < 2 ^ 64) (hlen : L.length < 1000) :
    Calls Try.prog 9 #[.pointer (some ⟨D.b, 0, none⟩), .int .i64 k, .int .u64 a] w (Puts w0 D now (pt L k a)) :=
  (put_any h.wh k a hk ha hlen).mono fun e w' ⟨he, D', g1, g2⟩ => ⟨he, D', g2.b, h.step g2 g1⟩
def Drops (w0 : World) (D : Wd) (now : Nat) (L : List T) (k : Int) (e : Ending) (w' : World) : Prop := e = .returned (.bool (fd L k).isSome) ∧ ∃ D', D'.b = D.b ∧ Own w0 D' now (drp L k) w'
theorem own_drop {w0 w : World} {D : Wd} {now : Nat} {L : List T} (h : Own w0 D now L w) (k : Int) (hk : Mi.Wf k) :
    Calls Try.prog 11 #[.pointer (some ⟨D.b, 0, none⟩), .int .i64 k] w (Drops w0 D now L k) :=
  (drop_any h.wh k hk).mono fun e w' ⟨he, D', g1, g2⟩ => ⟨he, D', g2.b, h.step g2 g1⟩
def lo (L : List T) (tq : Nat) : List T := L.filter fun x => decide (x.2 ≤ tq)
def hi (L : List T) (tq : Nat) : List T := L.filter fun x => decide (tq < x.2)
def Turns (w0 w : World) (D : Wd) (now tq : Nat) (L : List T) (e : Ending) (w' : World) : Prop := ∃ v d, e = .returned v ∧ Srt (lo L tq) d ∧ OwnT w' w.heap.size v d ∧ ∃ D', D'.b = D.b ∧ Own w0 D' (max now tq) (hi L tq) w' ∧ Step w D w' D'
theorem own_turn {w0 w : World} {D : Wd} {now tq : Nat} {L : List T} (h : Own w0 D now L w) (hto : tq < 2 ^ 64) :
    Calls Try.prog 14 #[.pointer (some ⟨D.b, 0, none⟩), .int .u64 tq] w (Turns w0 w D now tq L) :=
  (turn_any h.wh hto).mono fun e w' ⟨v, d, D', he, hs, ho, hw, hst⟩ => ⟨v, d, he, hs, ho, D', hst.b, h.step hst hw, hst⟩
namespace whl
theorem wf3 : Mi.Wf 3 ∧ Mi.Wf 1 ∧ Mi.Wf 2 := by unfold Mi.Wf; decide
set_option maxHeartbeats 1000000 in
set_option maxRecDepth 20000 in
theorem live_any (w : World) : Calls Try.prog 6 #[] w fun e w' => e = .returned (.bool true) ∧ Below w.heap.size w w' := by
  have HN := Lib.hid (new_any 0 w (by decide))
  have HU := Lib.hid num_any
  go_enter Try.func6, Try.ntmps6
  go_wp2_with (go_at_call 7; refine HN.out.mono ?_)
  rintro e w1 ⟨D1, rfl, hw1, hf1, hb1⟩
  have o1 := Own.new hw1 hf1 hb1
  have P1 := Lib.hid (own_put o1 3 20 wf3.1 (by decide) (by decide))
  clear hw1 hf1 hb1 o1
  go_wp2_with (go_at_call 9; refine P1.out.mono ?_)
  rintro e w2 ⟨rfl, D2, hd2, o2⟩
  have e2 : pt [] 3 20 = (0, [(3, 20)]) := rfl
  rw [e2] at o2
  have p2 := own_put o2 1 20 wf3.2.1 (by decide) (by decide)
  rw [hd2] at p2
  have P2 := Lib.hid p2
  have E2 := Lib.hid hd2
  clear o2 p2 hd2 e2
  go_wp2_with (go_at_call 9; refine P2.out.mono ?_)
  rintro e w3 ⟨rfl, D3, hd3, o3⟩
  have e3 : pt [(3, 20)] 1 20 = (0, [(3, 20), (1, 20)]) := rfl
  rw [e3] at o3
  have p3 := own_put o3 2 5 wf3.2.2 (by decide) (by decide)
  rw [hd3, E2.out] at p3
  have P3 := Lib.hid p3
  have E3 := Lib.hid (hd3.trans E2.out)
  clear o3 p3 hd3 e3
  go_wp2_with (go_at_call 9; refine P3.out.mono ?_)
  rintro e w4 ⟨rfl, D4, hd4, o4⟩
  have e4 : pt [(3, 20), (1, 20)] 2 5 = (0, [(3, 20), (1, 20), (2, 5)]) := rfl
  rw [e4] at o4
  have p4 := own_turn o4 (tq := 20) (by decide)
  rw [hd4, E3.out] at p4
  have P4 := Lib.hid p4
  have E4 := Lib.hid (hd4.trans E3.out)
  clear o4 p4 hd4 e4
  go_wp2_with (go_at_call 14; refine P4.out.mono ?_)
  rintro e w5 ⟨v, d, rfl, hsr, hod, D5, hd5, o5, _⟩
  have hd : d = [(2, 5), (1, 20), (3, 20)] := by
    refine hsr.one ⟨?_, ?_⟩
    · rw [show lo [(3, 20), (1, 20), (2, 5)] 20 = [(3, 20), (1, 20), (2, 5)] from rfl]
      decide
    · decide
  subst hd
  obtain ⟨p, cap, hv, _, htc⟩ := hod.view
  obtain ⟨g, hp, hg, x0, x1, x2⟩ := htc 0 (by decide)
  obtain ⟨g1, hp1, _, y0, y1, y2⟩ := htc 1 (by decide)
  obtain ⟨g2, hp2, _, z0, z1, z2⟩ := htc 2 (by decide)
  subst hp
  have e1 : g1 = g := by injection hp1 with h; injection h with h; exact h.symm
  have e2 : g2 = g := by injection hp2 with h; injection h with h; exact h.symm
  subst e1 e2
  have c1 : w5.cell? ⟨g2, 1, none⟩ = some (.int .i64 2) := x1
  have c2 : w5.cell? ⟨g2, 4, none⟩ = some (.int .i64 1) := y1
  have c3 : w5.cell? ⟨g2, 7, none⟩ = some (.int .i64 3) := z1
  have hv2 : v = .slice (some ⟨g2, 0, none⟩) 3 cap := hv
  subst hv2
  have hnow := now_any o5.wh
  rw [hd5, E4.out] at hnow
  have HNOW := Lib.hid hnow
  have HB := Lib.hid o5.bl
  clear hnow hd5 o5 hsr hod htc x0 x1 x2 y0 y1 y2 z0 z1 z2 hp1 hp2 hv
  go_wp2_with (first
    | (go_at_call 8; refine (HU.out _ _).mono ?_; rintro e w' ⟨rfl, hw⟩; rw [hw]; clear hw)
    | (go_at_call 19; refine HNOW.out.mono ?_; rintro e w' ⟨rfl, hw⟩; rw [hw]; clear hw))
  go_ret
  exact ⟨rfl, HB.out⟩
end whl
/-! ### rows of acts that come in -/
structure A where
  kind : Int
  id : Int
  tick : Nat
def a0 : A := ⟨0, 0, 0⟩
instance : Inhabited A := ⟨a0⟩
def AC (w : World) (p : Option Addr) (l : List A) : Prop := ∀ i, i < l.length → ∃ g off, p = some ⟨g, off, none⟩ ∧ g < w.heap.size ∧ w.cell? ⟨g, off + i * 3, none⟩ = some (.int .i64 (l.getD i a0).kind) ∧ w.cell? ⟨g, off + i * 3 + 1, none⟩ = some (.int .i64 (l.getD i a0).id) ∧ w.cell? ⟨g, off + i * 3 + 2, none⟩ = some (.int .u64 ((l.getD i a0).tick : Nat))
def AW (l : List A) : Prop := ∀ x ∈ l, Mi.Wf x.id ∧ x.tick < 2 ^ 64
theorem AC.below {w w' : World} {p : Option Addr} {l : List A} {B : Nat} (h : AC w p l) (hb : Below B w w') (hB : w.heap.size ≤ B) : AC w' p l := fun i hi => by
  obtain ⟨g, off, h1, h2, h3, h4, h5⟩ := h i hi
  have e : w'.heap[g]? = w.heap[g]? := hb.block g (Nat.lt_of_lt_of_le h2 hB)
  exact ⟨g, off, h1, Nat.lt_of_lt_of_le h2 hb.size, by rw [World.cell?_of_block e]; exact h3, by rw [World.cell?_of_block e]; exact h4, by rw [World.cell?_of_block e]; exact h5⟩
theorem range_getD' {α : Type} (f : Nat → α) (n i : Nat) (d : α) (h : i < n) : ((List.range n).map f).getD i d = f i := by
  rw [List.getD_eq_getElem?_getD, List.getElem?_eq_getElem (by simpa using h)]
  simp
theorem AW.get {l : List A} (h : AW l) {i : Nat} (hi : i < l.length) : Mi.Wf (l.getD i a0).id ∧ (l.getD i a0).tick < 2 ^ 64 := by
  rw [List.getD_eq_getElem?_getD, List.getElem?_eq_getElem hi]
  exact h _ (List.getElem_mem hi)
section
variable {H : Type} {enc : TypeId × Value → H} {W : World} {base : Nat} {spare : Nat → Bool} {held : Bool}
theorem acts_open {v : Value} {d : DataW H} {pl : List MemPlace} (h : DataW.Trod enc Try.prog W base spare held 23 v d pl) (hv : ∃ p n cap, v = .slice p n cap) :
    ∃ (p : Option Addr) (n cap : Nat) (l : List A), v = .slice p n cap ∧ l.length = n ∧ n ≤ maxLen ∧ AW l ∧ AC W p l := by
  obtain ⟨p, n, cap, rfl⟩ := hv
  obtain ⟨fuel, h⟩ := h
  obtain ⟨hn, hi⟩ := open_rows Try.underlying23 Try.underlying32 (by kernel_rfl) (by kernel_rfl) (by decide) h
  have each : ∀ i, i < n → ∃ x : A, (Mi.Wf x.id ∧ x.tick < 2 ^ 64) ∧ ∃ g off, p = some ⟨g, off, none⟩ ∧ g < W.heap.size ∧ W.cell? ⟨g, off + i * 3, none⟩ = some (.int .i64 x.kind) ∧ W.cell? ⟨g, off + i * 3 + 1, none⟩ = some (.int .i64 x.id) ∧ W.cell? ⟨g, off + i * 3 + 2, none⟩ = some (.int .u64 (x.tick : Nat)) := fun i hil => by
    obtain ⟨b, off, hp, hb, k, hf⟩ := hi i hil
    obtain ⟨u0, y0, c0, r0⟩ := hf 0 _ rfl
    obtain ⟨u1, y1, c1, r1⟩ := hf 1 _ rfl
    obtain ⟨u2, y2, c2, r2⟩ := hf 2 _ rfl
    obtain ⟨q0, hq0, _, _⟩ := DataW.trod_int Try.underlying3 r0
    obtain ⟨q1, hq1, _, w1⟩ := DataW.trod_int Try.underlying3 r1
    obtain ⟨q2, hq2, _, w2⟩ := DataW.trod_int Try.underlying22 r2
    simp at hq0 hq1 hq2
    subst hq0 hq1 hq2
    obtain ⟨v2, rfl, hv2⟩ := u64_nat w2
    exact ⟨⟨q0, q1, v2⟩, ⟨w1, hv2⟩, b, off, hp, hb, c0, c1, c2⟩
  obtain ⟨f, hf⟩ := choose_lt each
  refine ⟨p, n, cap, (List.range n).map f, rfl, by simp, hn, ?_, ?_⟩
  · intro x hx
    obtain ⟨i, hi, rfl⟩ := List.mem_map.1 hx
    exact (hf i (List.mem_range.1 hi)).1
  · intro i hi
    have hin : i < n := by simpa using hi
    rw [range_getD' f n i _ hin]
    exact (hf i hin).2
def UC (w : World) (p : Option Addr) (l : List Nat) : Prop := ∀ i, i < l.length → ∃ g off, p = some ⟨g, off, none⟩ ∧ g < w.heap.size ∧ w.cell? ⟨g, off + i, none⟩ = some (.int .u64 (l.getD i 0 : Nat))
theorem UC.below {w w' : World} {p : Option Addr} {l : List Nat} {B : Nat} (h : UC w p l) (hb : Below B w w') (hB : w.heap.size ≤ B) : UC w' p l := fun i hi => by
  obtain ⟨g, off, h1, h2, h3⟩ := h i hi
  have e : w'.heap[g]? = w.heap[g]? := hb.block g (Nat.lt_of_lt_of_le h2 hB)
  exact ⟨g, off, h1, Nat.lt_of_lt_of_le h2 hb.size, by rw [World.cell?_of_block e]; exact h3⟩
theorem cuts_open {v : Value} {d : DataW H} {pl : List MemPlace} (h : DataW.Trod enc Try.prog W base spare held 42 v d pl) (hv : ∃ p n cap, v = .slice p n cap) :
    ∃ (p : Option Addr) (n cap : Nat) (l : List Nat), v = .slice p n cap ∧ l.length = n ∧ n ≤ maxLen ∧ (∀ x ∈ l, x < 2 ^ 64) ∧ UC W p l := by
  obtain ⟨p, n, cap, rfl⟩ := hv
  obtain ⟨fuel, h⟩ := h
  obtain ⟨hn, hi⟩ := open_ones Try.underlying42 (by kernel_rfl) h
  have each : ∀ i, i < n → ∃ q : Nat, q < 2 ^ 64 ∧ ∃ b off, p = some ⟨b, off, none⟩ ∧ b < W.heap.size ∧ W.cell? ⟨b, off + i, none⟩ = some (.int .u64 (q : Nat)) := fun i hil => by
    obtain ⟨b, off, hp, hb, k, u, y, c0, r0⟩ := hi i hil
    obtain ⟨a, ha, _, wa⟩ := DataW.trod_int Try.underlying22 r0
    simp at ha
    subst ha
    obtain ⟨v2, rfl, hv2⟩ := u64_nat wa
    exact ⟨v2, hv2, b, off, hp, hb, c0⟩
  obtain ⟨f, hf⟩ := choose_lt each
  refine ⟨p, n, cap, (List.range n).map f, rfl, by simp, hn, ?_, ?_⟩
  · intro x hx
    obtain ⟨i, hi, rfl⟩ := List.mem_map.1 hx
    exact (hf i (List.mem_range.1 hi)).1
  · intro i hi
    have hin : i < n := by simpa using hi
    rw [range_getD' f n i _ hin]
    exact (hf i hin).2
end
/-- the program's wheel and the page's, both of the call's own, alike -/
structure Both (w0 : World) (D : Wd) (br : Nat) (v : Value) (now : Nat) (L : List T) (wr : World) : Prop where
  own : Own w0 D now L wr
  rw : RW wr w0.heap.size br v now L
  brb : w0.heap.size ≤ br
theorem Both.below {w0 wr w' : World} {D : Wd} {br now : Nat} {v : Value} {L : List T} (h : Both w0 D br v now L wr) (hb : Below wr.heap.size wr w') : Both w0 D br v now L w' := ⟨h.own.below hb, h.rw.below hb (Nat.le_refl _), h.brb⟩
theorem Both.drew {w0 wr : World} {D : Wd} {br now : Nat} {v : Value} {L : List T} (h : Both w0 D br v now L wr) : Both w0 D br v now L wr.drew := h.below (Below.refl _ _).drew
set_option maxHeartbeats 1000000 in
theorem lsame_any {w0 w : World} {D : Wd} {br now : Nat} {v : Value} {L : List T} (h : Both w0 D br v now L w) (k : Int) (hk : Mi.Wf k) :
    Calls Try.prog 16 #[.pointer (some ⟨D.b, 0, none⟩), .pointer (some ⟨br, 0, none⟩), .int .i64 k] w fun e w' => e = .returned (.bool true) ∧ Below w.heap.size w w' := by
  have HH := Lib.hid h
  obtain ⟨p, cap, hv, hmx, htc⟩ := h.rw.own.view
  have hc0 := h.rw.c0
  have hc1 := h.rw.c1
  have hn2 := h.rw.len
  obtain ⟨n, hn⟩ : ∃ n, L.length = n := ⟨_, rfl⟩
  rw [hn] at hv hn2
  rw [hv] at hc1
  obtain ⟨zn, hzn⟩ : ∃ z : Int, (now : Int) = z := ⟨_, rfl⟩
  rw [hzn] at hc0
  obtain ⟨va, hva⟩ : ∃ z : Int, (((fd L k).getD 0 : Nat) : Int) = z := ⟨_, rfl⟩
  obtain ⟨oa, hoa⟩ : ∃ o, (fd L k).isSome = o := ⟨_, rfl⟩
  obtain ⟨vn, hvn⟩ : ∃ z : Int, (((nxt L).getD 0 : Nat) : Int) = z := ⟨_, rfl⟩
  obtain ⟨on, hon⟩ : ∃ o, (nxt L).isSome = o := ⟨_, rfl⟩
  have hat := at_any h.own.wh k hk
  rw [hva, hoa] at hat
  have hrat := fun W hW => rat_any zn p n cap L k W hn hn2 hW
  rw [hva, hoa] at hrat
  have hnx := fun W (hW : Both w0 D br v now L W) => next_any hW.own.wh
  unfold Nexts at hnx
  rw [hvn, hon] at hnx
  have hrnx := fun W hW => rnext_any zn p n cap L W hn hn2 hW
  unfold Nexts at hrnx
  rw [hvn, hon] at hrnx
  have hlen := fun W (hW : Both w0 D br v now L W) => len_any hW.own.wh
  rw [hn] at hlen
  have hnow := fun W (hW : Both w0 D br v now L W) => now_any hW.own.wh
  rw [hzn] at hnow
  have HAT := Lib.hid hat
  have HRAT := Lib.hid hrat
  have HNX := Lib.hid hnx
  have HRNX := Lib.hid hrnx
  have HLE := Lib.hid hlen
  have HNOW := Lib.hid hnow
  have HTC := Lib.hid htc
  have HV := Lib.hid hv
  have HZ := Lib.hid hzn
  clear hat hrat hnx hrnx hlen hnow htc hn hzn hva hoa hvn hon h hv
  go_enter Try.func16, Try.ntmps16
  go_wp2_with (go_at_call 20; refine HAT.out.mono ?_; rintro e w' ⟨rfl, hw⟩; rw [hw]; clear hw)
  refine (HRAT.out _ HTC.out).mono ?_
  rintro e w1 ⟨rfl, hb1⟩
  have B1 := Lib.hid (HH.out.below hb1)
  have L1 := Lib.hid hb1
  have T1 := Lib.hid (HTC.out.below hb1 (Nat.le_refl _))
  clear hb1 hc0 hc1
  go_wp2_with fail
  refine (HNX.out _ B1.out).mono ?_
  rintro e w2 ⟨rfl, hb2⟩
  have B2 := Lib.hid (B1.out.below hb2)
  have L2 := Lib.hid (below_next L1.out hb2)
  have T2 := Lib.hid (T1.out.below hb2 (Nat.le_refl _))
  have hc0 := B2.out.rw.c0
  have hc1 := B2.out.rw.c1
  rw [HZ.out] at hc0
  rw [HV.out] at hc1
  clear hb2
  go_wp2_with fail
  refine (HRNX.out _ T2.out).mono ?_
  rintro e w3 ⟨rfl, hb3⟩
  have B3 := Lib.hid (B2.out.below hb3).drew
  have L3 := Lib.hid (below_next L2.out hb3).drew
  have hc0 := B3.out.rw.c0
  have hc1 := B3.out.rw.c1
  rw [HZ.out] at hc0
  rw [HV.out] at hc1
  clear hb3
  go_wp2_with fail
  refine wp_region_text (S := (fun w' => w' = w3.drew)) (by kernel_rfl) ?_ ?_
  · rfl
  repeat (first
    | (refine anyR_value (v := ?_) (by kernel_rfl) (by rfl) (fun _ _ _ h => h) (fun w1 hS => ?_) ?_
       rotate_left
       · subst hS
         go_simp
         with_reducible rfl
       simp only [Act.put, List.setIfInBounds_toArray, List.set_cons_zero, List.set_cons_succ])
    | (refine anyR_not (by kernel_rfl) (by rfl) (fun _ _ _ h => h) ?_
       simp only [Act.put, List.setIfInBounds_toArray, List.set_cons_zero, List.set_cons_succ])
    | (refine anyR_call (v := ?_) (f := ?_) (args := ?_) (by kernel_rfl) (by rfl) (fun _ _ _ h => h) (fun w1 hS => ?_) (fun w1 hS => ?_) ?_
       rotate_left 3
       · go_simp
         (try constructor) <;> with_reducible rfl
       · first
           | (with_reducible refine ((HLE.out _ (hS ▸ B3.out)).mono ?_); rintro e w' ⟨rfl, rfl⟩; refine ⟨?_, hS⟩; with_reducible rfl)
           | (with_reducible refine ((HNOW.out _ (hS ▸ B3.out)).mono ?_); rintro e w' ⟨rfl, rfl⟩; refine ⟨?_, hS⟩; with_reducible rfl)
       simp only [Act.put, List.setIfInBounds_toArray, List.set_cons_zero, List.set_cons_succ])
    | refine anyR_done (by kernel_rfl) (fun w1 hS => ?_))
  go_wp2_with fail
  go_ret
  subst hS
  exact ⟨rfl, L3.out⟩
end Go.Proofs.Ytjppbmkoblbfeaa
