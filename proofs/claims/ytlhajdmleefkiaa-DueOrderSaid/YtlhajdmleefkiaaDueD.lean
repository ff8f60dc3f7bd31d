/-
  CONTRACTS OF LAYER 9 (due), part D: find.
-/
import Derived.Test.YtlhajdmleefkiaaDueC
import Derived.Test.YtlhajdmleefkiaaWheelG
import Derived.Deep.DeepCutAuto
import Derived.Deep.RegionWith
namespace Go.Proofs.Ytlhajdmleefkiaa
open Go.RowKit Wl Dl Bt
set_option linter.unusedVariables false

namespace Dl
/-- timers in memory, whose wheel has M, while M is on its way -/
structure Dm (w0 : World) (P0 : Pd) (w : World) (P : Pd) (now : Nat) (M r : List T) : Prop where
  bd : P.bd = P0.bd
  b : P.D.b = P0.D.b
  kind : ∃ cs, w.heap[P.bd]? = some (.cells cs 56)
  c0 : w.cell? ⟨P.bd, 0, none⟩ = some (.pointer (some ⟨P.D.b, 0, none⟩))
  c1 : w.cell? ⟨P.bd, 1, none⟩ = some P.v
  wh : Wheel w P.D now M
  row : RT w P.v r
  gs : Gs P0.fp w0 P.fp w
section
variable {w0 w w' : World} {P0 P : Pd} {now now' : Nat} {M M' r r' : List T} {L : List X} {D' : Wd} {v' : Value}
theorem Du.mem (h : Du w P now L r) : Dm w P w P now (L.map nu) r := ⟨rfl, rfl, h.kind, h.c0, h.c1, h.wh, h.row, Gs.refl _ _⟩
theorem Dm.du (h : Dm w0 P0 w P now (L.map nu) r) (ho : Ok L) (hr : Ri (L.map nu) now r) : DG w0 P0 now L r w := ⟨P, h.bd, h.b, ⟨h.kind, h.c0, h.c1, h.wh, h.row, ho, hr⟩, h.gs⟩
theorem Dm.perm (h : Dm w0 P0 w P now M r) (hp : M.Perm M') : Dm w0 P0 w P now M' r := ⟨h.bd, h.b, h.kind, h.c0, h.c1, h.wh.perm hp, h.row, h.gs⟩
theorem Dm.off_bd (h : Dm w0 P0 w P now M r) : ¬ P.D.fp P.bd := by
  obtain ⟨cs, e⟩ := h.kind
  refine h.wh.off (fun cs' e' => ?_) (fun es c e' => ?_)
  · rw [e] at e'
    injection e' with e'
    injection e' with _ e'
    exact absurd e' (by decide)
  · rw [e] at e'; cases e'
theorem Dm.lt (h : Dm w0 P0 w P now M r) {x : Nat} (hx : P.fp x) : x < w.heap.size := by
  rcases hx with rfl | hx | hx
  · obtain ⟨cs, e⟩ := h.kind
    exact lt_of_some e
  · exact h.wh.lt hx
  · obtain ⟨cs, e⟩ := h.row.kind hx
    exact lt_of_some e
theorem Dm.frozen (h : Dm w0 P0 w P now M r) (o : Nat) : w.frozen? ⟨P0.bd, o, none⟩ = false := by
  obtain ⟨cs, h1⟩ := h.kind
  rw [h.bd] at h1
  simp [World.frozen?, h1]
theorem Dm.cells (h : Dm w0 P0 w P now M r) : w.cell? ⟨P0.bd, 0, none⟩ = some (.pointer (some ⟨P0.D.b, 0, none⟩)) ∧ w.cell? ⟨P0.bd, 1, none⟩ = some P.v := by
  have h0 := h.c0
  have h1 := h.c1
  rw [h.bd, h.b] at h0
  rw [h.bd] at h1
  exact ⟨h0, h1⟩
theorem Dm.below (h : Dm w0 P0 w P now M r) (hm : Below w.heap.size w w') : Dm w0 P0 w' P now M r where
  bd := h.bd
  b := h.b
  kind := by rw [hm.block _ (h.lt (Or.inl rfl))]; exact h.kind
  c0 := by rw [World.cell?_of_block (hm.block _ (h.lt (Or.inl rfl)))]; exact h.c0
  c1 := by rw [World.cell?_of_block (hm.block _ (h.lt (Or.inl rfl)))]; exact h.c1
  wh := h.wh.below hm (Nat.le_refl _)
  row := h.row.block fun g hg => hm.block _ (h.lt (Or.inr (Or.inr hg)))
  gs := h.gs.trans (Gs.below hm)
theorem Dm.wheel (h : Dm w0 P0 w P now M r) (hs : Step w P.D w' D') (hw : Wheel w' D' now' M') : Dm w0 P0 w' ⟨P.bd, D', P.v⟩ now' M' r := by
  have hB : w'.heap[P.bd]? = w.heap[P.bd]? := hs.mv.block _ (h.lt (Or.inl rfl)) h.off_bd
  refine {
    bd := h.bd
    b := hs.b.trans h.b
    kind := by rw [hB]; exact h.kind
    c0 := by rw [World.cell?_of_block hB, hs.b]; exact h.c0
    c1 := by rw [World.cell?_of_block hB]; exact h.c1
    wh := hw
    row := h.row.block fun g hg => hs.mv.block g (h.lt (Or.inr (Or.inr hg))) (h.row.off_wheel h.wh hg)
    gs := h.gs.trans ⟨fun x hx => ?_, ⟨hs.mv.os, hs.mv.tape, hs.mv.output, hs.mv.size, fun k hk hn => hs.mv.block k hk (fun hf => hn (Or.inr (Or.inl hf)))⟩⟩ }
  rcases hx with hx | hx | hx
  · exact Or.inl (Or.inl hx)
  · rcases hs.own x hx with h1 | h1
    · exact Or.inl (Or.inr (Or.inl h1))
    · exact Or.inr h1
  · exact Or.inl (Or.inr (Or.inr hx))
/-- a row that is new since w1 is laid in -/
theorem Dm.lay {w1 : World} {P1 : Pd} {M1 r1 : List T} {n1 : Nat} (h1 : Dm w0 P0 w1 P1 n1 M1 r1) (h : Dm w1 P1 w P now M r) (hr : RT w v' r') (hg : ∀ x, v'.ownBlock = some x → w1.heap.size ≤ x) : Dm w0 P0 (w.setCell ⟨P.bd, 1, none⟩ v') ⟨P.bd, P.D, v'⟩ now M r' where
  bd := h.bd.trans h1.bd
  b := h.b.trans h1.b
  kind := kind_setCell _ _ h.kind
  c0 := (cset_other (by omega)).trans h.c0
  c1 := cset_same h.c1
  wh := h.wh.mv (S := fun x => x = P.bd) (Mv.setCell _ _ _ rfl) (fun x hx e => h.off_bd (e ▸ hx))
  row := hr.block fun g e => Below.heap_setCell _ _ _ _ (ne_bd hr h.kind e)
  gs := h1.gs.trans ⟨fun x hx => by
    rcases hx with hx | hx | hx
    · exact Or.inl (Or.inl (hx.trans h.bd))
    · exact h.gs.own x (Or.inr (Or.inl hx))
    · exact Or.inr (hg x hx), h.gs.mv.trans (Mv.setCell (S := fun x => x = P.bd) _ _ _ rfl) (fun x hx e => by
      have e2 : x = P.bd := e
      exact Or.inl (e2.trans h.bd))⟩
theorem Dm.put (h : Dm w0 P0 w P now M r) {k : Int} {a : Nat} (hk : Mi.Wf k) (h0 : 0 ≤ k) (ha : a < 2 ^ 64) (hlen : M.length < 1000) (hf : fd M k = none) :
    Calls Try.prog 34 #[.pointer (some ⟨P0.D.b, 0, none⟩), .int .i64 k, .int .u64 a] w fun e w' => e = .returned (.int .i64 0) ∧ (∃ D', Dm w0 P0 w' ⟨P.bd, D', P.v⟩ now (M ++ [(k, a)]) r) ∧ ∀ (g : Nat) (cs : Array Value), w.heap[g]? = some (.cells cs 39) → w'.heap[g]? = some (.cells cs 39) := by
  rw [← h.b]
  refine (put_any h.wh k a hk ha hlen).mono ?_
  rintro e w' ⟨he, D', g1, g2⟩
  have e1 : pt M k a = (0, M ++ [(k, a)]) := by
    unfold pt
    rw [if_neg (by omega), hf]
    rfl
  rw [e1] at he g1
  refine ⟨he, ⟨D', h.wheel g2 g1⟩, fun g cs hg => ?_⟩
  rw [g2.mv.block g (lt_of_some hg) (h.wh.off (fun cs' e' => by
    rw [hg] at e'
    injection e' with e'
    injection e' with _ e'
    exact absurd e' (by decide)) (fun es c e' => by rw [hg] at e'; cases e'))]
  exact hg
end
end Dl
/-- what find lays: d: the row; the wheel has the others, and the first j of d -/
def Fnd (w : World) (P : Pd) (m : Nat) (L : List X) (d : List T) (v : Value) (j : Nat) (wr : World) : Prop := ∃ D', Dm w P wr ⟨P.bd, D', v⟩ m (((L.map nu).filter fun x => decide (m < x.2)) ++ d.take j) d
def FindD (w : World) (P : Pd) (m : Nat) (L : List X) (e : Ending) (w' : World) : Prop := e = .returned (.tuple #[]) ∧ ∃ d, Srt ((L.map nu).filter fun x => decide (x.2 ≤ m)) d ∧ DG w P m L d w'
section
variable {w w' : World} {P : Pd} {now : Nat} {L : List X} {r : List T}
/-- the turn, and what stands then when the row is laid in -/
def TurnF (w : World) (P : Pd) (m : Nat) (L : List X) (e : Ending) (w' : World) : Prop := ∃ p n c u, e = .returned (.slice p n c) ∧ w'.frozen? ⟨P.bd, 1, none⟩ = false ∧ w'.cell? ⟨P.bd, 1, none⟩ = some u ∧
  Hid (∃ d, Srt ((L.map nu).filter fun x => decide (x.2 ≤ m)) d ∧ Fnd w P m L d (.slice p n c) 0 (w'.setCell ⟨P.bd, 1, none⟩ (.slice p n c)))
theorem turn_found (h : Du w P now L r) {at' m : Nat} (hm : max at' now = m) (hm2 : m < 2 ^ 64) : Calls Try.prog 36 #[.pointer (some ⟨P.D.b, 0, none⟩), .int .u64 m] w.drew (TurnF w P m L) := by
  have h1 := h.mem.below (Below.refl w.heap.size w).drew
  refine (turn_any h1.wh hm2).mono ?_
  rintro e w' ⟨v, d, D', he, hs, ho, hw, hst⟩
  have e1 : max now m = m := by omega
  rw [e1] at hw
  have hlen : d.length ≤ 1000 := by
    have g1 := hs.1.length_eq
    have g2 := List.length_filter_le (fun x : T => decide (x.2 ≤ m)) (L.map nu)
    have g3 := h.wh.len
    omega
  obtain ⟨p, n, c, hv, hrest⟩ := RT.of_own ho hlen
  have h2 := Dm.wheel (w0 := w.drew) (P0 := P) ⟨rfl, rfl, h1.kind, h1.c0, h1.c1, h1.wh, h1.row, Gs.refl _ _⟩ hst hw
  have h3 := Dm.lay h1 h2 (RT.of_own ho hlen) (fun x e => (ho.kind e).1)
  subst hv
  refine ⟨p, n, c, _, he, h2.frozen 1, h2.cells.2, Lib.hid ⟨d, hs, D', ?_⟩⟩
  rw [List.take_zero, List.append_nil]
  exact h3
theorem Fnd.cells {m j : Nat} {d : List T} {v : Value} {wr : World} (h : Fnd w P m L d v j wr) : wr.cell? ⟨P.bd, 0, none⟩ = some (.pointer (some ⟨P.D.b, 0, none⟩)) ∧ wr.cell? ⟨P.bd, 1, none⟩ = some v := by
  obtain ⟨D', h⟩ := h
  exact h.cells
theorem Fnd.below {m j : Nat} {d : List T} {v : Value} {wr : World} (h : Fnd w P m L d v j wr) (hb : Below wr.heap.size wr w') : Fnd w P m L d v j w' := by
  obtain ⟨D', h⟩ := h
  exact ⟨D', h.below hb⟩
theorem Fnd.put {m j : Nat} {d : List T} {v : Value} {wr : World} (h : Fnd w P m L d v j wr) (hL : Ok L) (hs : Srt ((L.map nu).filter fun x => decide (x.2 ≤ m)) d) (hlen : L.length < 1000) (hj : j < d.length) :
    Calls Try.prog 34 #[.pointer (some ⟨P.D.b, 0, none⟩), .int .i64 (d.getD j t0).1, .int .u64 ((d.getD j t0).2 : Nat)] wr fun e w' => e = .returned (.int .i64 0) ∧ Fnd w P m L d v (j + 1) w' ∧ ∀ (g : Nat) (cs : Array Value), wr.heap[g]? = some (.cells cs 39) → w'.heap[g]? = some (.cells cs 39) := by
  obtain ⟨D', h⟩ := h
  have hx : d.getD j t0 ∈ d := by rw [List.getD_eq_getElem?_getD, List.getElem?_eq_getElem hj]; exact List.getElem_mem hj
  have hperm := split_perm (L.map nu) d m hs.1
  have hks : Ks (((L.map nu).filter fun x => decide (m < x.2)) ++ d) := Dl.Ks.perm hL.keys hperm.symm
  have e1 : ((L.map nu).filter fun x => decide (m < x.2)) ++ d = (((L.map nu).filter fun x => decide (m < x.2)) ++ d.take j) ++ d.getD j t0 :: d.drop (j + 1) := by
    rw [List.append_assoc]
    congr 1
    rw [List.getD_eq_getElem?_getD, List.getElem?_eq_getElem hj]
    simp
  have hf : fd (((L.map nu).filter fun x => decide (m < x.2)) ++ d.take j) (d.getD j t0).1 = none := by
    rw [fd_none]
    intro hmem
    have h2 := hks
    rw [e1] at h2
    unfold Ks at h2
    rw [List.map_append, List.nodup_append] at h2
    exact h2.2.2 _ hmem _ (by simp) rfl
  have hlen2 : (((L.map nu).filter fun x => decide (m < x.2)) ++ d.take j).length < 1000 := by
    have g1 := hperm.length_eq
    rw [List.length_append, List.length_map] at g1
    rw [List.length_append, List.length_take]
    omega
  have hxl := (List.mem_filter.1 (hs.1.mem_iff.1 hx)).1
  obtain ⟨y, hy, e2⟩ := List.mem_map.1 hxl
  have h0 : 0 ≤ (d.getD j t0).1 := by rw [← e2]; exact numb_nonneg.1 (hL.may y hy)
  have hwf : Mi.Wf (d.getD j t0).1 := by rw [← e2]; exact numb_wf _ _
  have ha : (d.getD j t0).2 < 2 ^ 64 := by rw [← e2]; exact hL.tick y hy
  refine (h.put hwf h0 ha hlen2 hf).mono ?_
  rintro e w' ⟨he, ⟨D2, h2⟩, h3⟩
  refine ⟨he, ⟨D2, ?_⟩, h3⟩
  have e3 : d.take (j + 1) = d.take j ++ [((d.getD j t0).1, (d.getD j t0).2)] := by
    rw [List.take_succ_eq_append_getElem hj, List.getD_eq_getElem?_getD, List.getElem?_eq_getElem hj]
    rfl
  rw [e3, ← List.append_assoc]
  exact h2
/-- a round of find: the wheel has the first j; block g has the round's timer -/
def FX (w : World) (P : Pd) (m : Nat) (L : List X) (d : List T) (v : Value) (g : Nat) (q z : Int) (j : Nat) (wr : World) : Prop := Fnd w P m L d v j wr ∧ wr.heap[g]? = some (.cells #[.int .i64 0, .int .i64 q, .int .u64 z] 39)
theorem FX.drew {m : Nat} {d : List T} {v : Value} {g j : Nat} {q z : Int} {wr : World} (h : FX w P m L d v g q z j wr) : FX w P m L d v g q z j wr.drew := ⟨h.1.below (Below.refl _ _).drew, h.2⟩
theorem FX.cells {m : Nat} {d : List T} {v : Value} {g j : Nat} {q z : Int} {wr : World} (h : FX w P m L d v g q z j wr) : wr.cell? ⟨P.bd, 0, none⟩ = some (.pointer (some ⟨P.D.b, 0, none⟩)) ∧ wr.cell? ⟨g, 1, none⟩ = some (.int .i64 q) ∧ wr.cell? ⟨g, 2, none⟩ = some (.int .u64 z) := by
  refine ⟨h.1.cells.1, ?_, ?_⟩ <;> simp only [World.cell?, h.2] <;> rfl
theorem Fnd.done {m j : Nat} {d : List T} {v : Value} {wr : World} (h : Fnd w P m L d v j wr) (hL : Ok L) (hs : Srt ((L.map nu).filter fun x => decide (x.2 ≤ m)) d) (hj : d.length ≤ j) : DG w P m L d wr := by
  obtain ⟨D', h⟩ := h
  rw [List.take_of_length_le hj] at h
  exact (h.perm (split_perm (L.map nu) d m hs.1)).du hL (Ri.found hL.keys (fun x hx => by
    obtain ⟨y, hy, rfl⟩ := List.mem_map.1 hx
    exact ⟨hL.tick y hy, numb_bounds _ _⟩) hs)
set_option maxHeartbeats 1000000 in
theorem find_any (h : Du w P now L r) {at' mt : Nat} (hm : max at' now = mt) (hm2 : mt < 2 ^ 64) (hlen : L.length < 1000) : Calls Try.prog 35 #[.pointer (some ⟨P.bd, 0, none⟩), .int .u64 at'] w (FindD w P mt L) := by
  have HT := Lib.hid (turn_found h hm hm2)
  have HOK := Lib.hid h.ok
  have hnow := dnow_any h.drew
  have hc0 := h.drew.c0
  obtain ⟨zn, hzn⟩ : ∃ z : Int, (now : Int) = z := ⟨_, rfl⟩
  obtain ⟨za, hza⟩ : ∃ z : Int, (at' : Int) = z := ⟨_, rfl⟩
  obtain ⟨zm, hzm⟩ : ∃ z : Int, (mt : Int) = z := ⟨_, rfl⟩
  have hmx : max za zn = zm := by omega
  rw [hzn] at hnow
  rw [hzm] at HT
  rw [hza]
  have HNOW := Lib.hid hnow
  clear h hnow hzn hza hm hm2 hzm
  go_enter Try.func35, Try.ntmps35
  go_upto_region 0 with fail
  go_cut [] from 6 to 17 (fun wx => ∃ v d, Srt ((L.map nu).filter fun x => decide (x.2 ≤ mt)) d ∧ Fnd w P mt L d v 0 wx)
  case first =>
    go_region_with (first
      | (go_at_call 14; refine HNOW.out.mono ?_; rintro e w' ⟨rfl, hw⟩; rw [hw]; clear hw)
      | (go_at_call 36; refine HT.out.mono ?_; rintro e w' ⟨p, n, c, u, rfl, hfz, hcu, hF⟩))
    all_goals (go_wp2_with fail; go_meet)
    all_goals (obtain ⟨d, h1, h2⟩ := hF.out; exact ⟨_, d, h1, h2⟩)
  case rest =>
    obtain ⟨v, d, hs, hF⟩ := hcut
    have hcc := hF.cells.2
    obtain ⟨D0, hF0⟩ := hF
    obtain ⟨p, n, cap, hv, hn, hncap, hn1000, hmx2, hk, hcells⟩ := hF0.row
    have hv2 : v = .slice p n cap := hv
    subst hv2
    have HS := Lib.hid hs
    have HN := Lib.hid hn
    have HF : Hid (Fnd w P mt L d (.slice p n cap) 0 wc) := Lib.hid ⟨D0, hF0⟩
    clear hs hn hF0 hv hk hcells hmx hmx2 HT HNOW hc0
    go_wp2
    go_loopw [23] (fun i wr => ∃ j : Nat, i = .int .i64 j ∧ j ≤ n ∧ Hid (Fnd w P mt L d (.slice p n cap) j wr)) (fun i _ => n - (intOf i).toNat)
    case atStart => exact ⟨0, rfl, Nat.zero_le _, HF⟩
    case round =>
      obtain ⟨j, rfl, hj, hr⟩ := hrel
      by_cases hlt : j < n
      · have hltz : (j : Int) < (n : Int) := by omega
        have hrow : RT wr (.slice p n cap) d := by
          obtain ⟨D1, h1⟩ := hr.out
          exact h1.row
        obtain ⟨p', n', cap', hv', _, _, _, _, _, hx⟩ := hrow
        injection hv' with e1 e2 e3
        subst e1 e2 e3
        obtain ⟨g, off, rfl, x0, x1, x2⟩ := hx j hlt
        obtain ⟨⟨q1, q2⟩, hq⟩ : ∃ q, d.getD j t0 = q := ⟨_, rfl⟩
        rw [hq] at x1 x2
        simp only at x1 x2
        obtain ⟨z2, hz2⟩ : ∃ z : Int, (q2 : Int) = z := ⟨_, rfl⟩
        rw [hz2] at x2
        have HQ := Lib.hid hq
        have HZ := Lib.hid hz2
        obtain ⟨g3, hg3⟩ : ∃ g, wr.heap.size = g := ⟨_, rfl⟩
        obtain ⟨W3, hW3⟩ : ∃ W3, wr.alloc (.cells #[.int .i64 0, .int .i64 q1, .int .u64 z2] 39) = W3 := ⟨_, rfl⟩
        have hfx : FX w P mt L d (.slice (some ⟨g, off, none⟩) n cap) g3 q1 z2 j W3 := ⟨hr.out.below (by rw [← hW3]; exact (Below.refl _ _).alloc (Nat.le_refl _) _), by rw [← hW3, ← hg3]; exact (MapKept.heap_alloc _ _).1⟩
        have HFX := Lib.hid hfx.drew
        have HCALL : Hid (∀ w1, FX w P mt L d (.slice (some ⟨g, off, none⟩) n cap) g3 q1 z2 j w1 → Calls Try.prog 34 #[.pointer (some ⟨P.D.b, 0, none⟩), .int .i64 q1, .int .u64 z2] w1 fun e w' => e = .returned (.int .i64 0) ∧ FX w P mt L d (.slice (some ⟨g, off, none⟩) n cap) g3 q1 z2 (j + 1) w') := Lib.hid (fun w1 h1 => by
          have h2 := h1.1.put HOK.out HS.out hlen (by rw [HN.out]; exact hlt)
          rw [HQ.out] at h2
          simp only at h2
          rw [HZ.out] at h2
          exact h2.mono (fun e w' ⟨a, b, c⟩ => ⟨a, b, c _ _ h1.2⟩))
        clear hq hz2 hx hfx hr hcc
        go_wp2_with fail
        refine Bz.wp_region (S := Bz.by1 8 (fun b1 w1 => FX w P mt L d (.slice (some ⟨g, off, none⟩) n cap) g3 q1 z2 (cond b1 (j + 1) j) w1)) (by kernel_rfl) ?_ ?_
        · exact Bz.by1_start (by decide) HFX.out
        repeat (first
          | (refine Bz.anyR_value (v := ?_) (by kernel_rfl) (fun m w1 _ hS => Bz.by1_set (by decide) m w1 hS) (by rfl) (fun _ _ _ h => h) (fun m w1 _ hS => ?_) ?_
             rotate_left
             · obtain ⟨q0, q3, q4⟩ := FX.cells hS
               go_simp
               with_reducible rfl
             (try simp only [Act.put, List.setIfInBounds_toArray, List.set_cons_zero, List.set_cons_succ]))
          | (refine Bz.anyR_not (by kernel_rfl) (fun m w1 _ hS => Bz.by1_set (by decide) m w1 hS) (by rfl) (fun _ _ _ h => h) ?_
             (try simp only [Act.put, List.setIfInBounds_toArray, List.set_cons_zero, List.set_cons_succ]))
          | (refine Bz.anyR_call (v := ?_) (f := ?_) (args := ?_) (by kernel_rfl) (by rfl) (fun _ _ _ h => h) (fun m w1 hm hS => ?_) (fun m w1 hm hS => ?_) ?_
             rotate_left 3
             · go_simp
               (try constructor) <;> with_reducible rfl
             · first
                 | (have hS2 : FX w P mt L d (.slice (some ⟨g, off, none⟩) n cap) g3 q1 z2 j w1 := (by have h := hS; unfold Bz.by1 at h; rw [hm.1] at h; exact h); (with_reducible refine ((HCALL.out w1 hS2).mono ?_)); rintro e w' ⟨rfl, hp⟩; refine ⟨?_, Bz.by1_A m w' hp⟩; with_reducible rfl)
             (try simp only [Act.put, List.setIfInBounds_toArray, List.set_cons_zero, List.set_cons_succ]))
          | refine Bz.anyR_done (by kernel_rfl) (fun w1 hS => ?_))
        have HF1 := Lib.hid (Bz.by1_end (by decide) (by decide) hS).1
        clear hS HFX HCALL
        go_wp2
        go_roundw
        case rel => exact ⟨j + 1, by go_num, hlt, HF1⟩
        case measure => simp [intOf]; omega
      · have e1 : j = n := by omega
        subst e1
        have HF1 := Lib.hid (hr.out.done HOK.out HS.out (by rw [HN.out]; exact Nat.le_refl _))
        clear hr
        go_wp2
        go_end0
        exact ⟨rfl, d, HS.out, HF1.out⟩
end
end Go.Proofs.Ytlhajdmleefkiaa
