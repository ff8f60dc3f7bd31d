/-
  CONTRACTS OF LAYER 9 (due), part C: Next.
-/
import Derived.Test.YtlhajdmleefkiaaDueB
namespace Go.Proofs.Ytlhajdmleefkiaa
open Go.RowKit Wl Dl Bt
set_option linter.unusedVariables false

namespace Dl
theorem RT.tail {w : World} {g off n cap : Nat} {x : T} {r : List T} (h : RT w (.slice (some ⟨g, off, none⟩) n cap) (x :: r)) : RT w (.slice (some ⟨g, off + 3, none⟩) (n - 1) (cap - 1)) r := by
  obtain ⟨p, n', cap', hv, h1, h2, h3, h4, h5, h6⟩ := h
  injection hv with e1 e2 e3
  subst e1 e2 e3
  rw [List.length_cons] at h1
  refine ⟨_, _, _, rfl, by omega, by omega, by omega, by omega, fun g' e => h5 g' e, fun i hi => ?_⟩
  obtain ⟨g', off', e, c0, c1, c2⟩ := h6 (i + 1) (by omega)
  injection e with e
  injection e with e1 e2
  subst e1 e2
  have ea : off + 3 + i * 3 = off + (i + 1) * 3 := by omega
  refine ⟨g, off + 3, rfl, ?_, ?_, ?_⟩
  · rw [ea]; exact c0
  · rw [ea]; exact c1
  · rw [ea]; exact c2
theorem RT.tail0 {w : World} {p : Option Addr} {x : T} {r : List T} {n : Nat} (h : RT w (.slice p n 1) (x :: r)) : n = 1 ∧ RT w (.slice p 0 0) r := by
  obtain ⟨p', n', cap', hv, h1, h2, h3, h4, h5, h6⟩ := h
  injection hv with e1 e2 e3
  subst e1 e2 e3
  rw [List.length_cons] at h1
  exact ⟨by omega, p, 0, 0, rfl, by omega, by omega, by omega, by unfold maxLen; omega, fun g' e => h5 g' (by
    cases p with
    | none => cases e
    | some a => exact e), fun i hi => by omega⟩
theorem RT.head {w : World} {v : Value} {x : T} {r : List T} (h : RT w v (x :: r)) : ∃ g off n cap, v = .slice (some ⟨g, off, none⟩) n cap ∧ 0 < n ∧ n ≤ cap ∧ n ≤ 1000 ∧ n = r.length + 1 ∧ w.cell? ⟨g, off, none⟩ = some (.int .i64 0) ∧ w.cell? ⟨g, off + 1, none⟩ = some (.int .i64 x.1) ∧ w.cell? ⟨g, off + 2, none⟩ = some (.int .u64 (x.2 : Nat)) := by
  obtain ⟨p, n, cap, rfl, h1, h2, h3, h4, h5, h6⟩ := h
  rw [List.length_cons] at h1
  obtain ⟨g, off, rfl, c0, c1, c2⟩ := h6 0 (by omega)
  exact ⟨g, off, n, cap, rfl, by omega, h2, h3, by omega, c0, c1, c2⟩
theorem RT.empty {w : World} {v : Value} (h : RT w v []) : ∃ p cap, v = .slice p 0 cap := by
  obtain ⟨p, n, cap, rfl, h1, _⟩ := h
  have e : n = 0 := h1.symm
  subst e
  exact ⟨p, cap, rfl⟩
end Dl
/-- how long the row is that stands in the timers at block b -/
def rowLen (w : World) (b : Nat) : Nat := match w.cell? ⟨b, 1, none⟩ with
  | some (.slice _ n _) => n
  | _ => 0
theorem rowLen_of {w : World} {b n cap : Nat} {p : Option Addr} (h : w.cell? ⟨b, 1, none⟩ = some (.slice p n cap)) : rowLen w b = n := by unfold rowLen; rw [h]
/-- the row has nothing, or its first is there -/
def Rdy (L : List X) (r : List T) : Prop := r = [] ∨ ∃ x r', r = x :: r' ∧ (fd (L.map nu) x.1).isSome = true
def NextD (w : World) (P : Pd) (now : Nat) (L : List X) (e : Ending) (w' : World) : Prop := e = .returned (.tuple #[.int .u64 ((nxt (L.map nu)).getD 0 : Nat), .bool (nxt (L.map nu)).isSome]) ∧ ∃ r, Rdy L r ∧ DG w P now L r w'
theorem Dl.Ri.wf {L : List T} {now : Nat} {x : T} {r : List T} (h : Ri L now (x :: r)) : x.2 < 2 ^ 64 := (h.old x List.mem_cons_self).2.1
theorem DG.lay {w0 w : World} {P : Pd} {now : Nat} {L : List X} {r r' : List T} {v' : Value} (h : DG w0 P now L r w) (hr : RT w v' r') (hri : Ri (L.map nu) now r') (hg : ∀ x, v'.ownBlock = some x → ∃ v, w.cell? ⟨P.bd, 1, none⟩ = some v ∧ v.ownBlock = some x) : DG w0 P now L r' (w.setCell ⟨P.bd, 1, none⟩ v') := by
  obtain ⟨P', hbd, hb, hd, hg2⟩ := h
  obtain ⟨q1, q2⟩ := hd.lay hr hri (fun x e => by
    obtain ⟨v, h1, h2⟩ := hg x e
    have h3 := hd.c1
    rw [hbd] at h3
    rw [h3] at h1
    injection h1 with h1
    exact Or.inr (Or.inr (by rw [h1]; exact h2)))
  rw [← hbd]
  exact ⟨⟨P'.bd, P'.D, v'⟩, hbd, hb, q1, hg2.trans q2⟩
set_option maxHeartbeats 1000000 in
theorem dnext_any {w : World} {P : Pd} {now : Nat} {L : List X} {r : List T} (h : Du w P now L r) :
    Calls Try.prog 11 #[.pointer (some ⟨P.bd, 0, none⟩)] w (NextD w P now L) := by
  have HBEG : Hid (∃ r, DG w P now L r w) := Lib.hid ⟨r, DG.start h⟩
  clear h
  go_enter Try.func11, Try.ntmps11
  go_wp2
  go_loopw [] (fun wr => Hid (∃ r, DG w P now L r wr)) (fun wr => rowLen wr P.bd)
  case atStart => exact HBEG
  case round =>
    obtain ⟨r, hdg⟩ := hrel.out
    have HDG := Lib.hid hdg
    obtain ⟨P', hbd, hb, hd, hg⟩ := hdg
    have hc0 := hd.c0
    have hc1 := hd.c1
    rw [hbd, hb] at hc0
    rw [hbd] at hc1
    cases r with
    | nil =>
      obtain ⟨p, cap, hv⟩ := hd.row.empty
      rw [hv] at hc1
      have hnx := next_any hd.wh
      rw [hb] at hnx
      have HNX := Lib.hid hnx
      clear hnx hd hg hv hbd hb hrel
      go_wp2_with (go_at_call 29; refine HNX.out.mono ?_)
      rintro e w2 ⟨rfl, hb2⟩
      have HF : Hid (∃ r, Rdy L r ∧ DG w P now L r w2) := Lib.hid ⟨[], Or.inl rfl, HDG.out.below hb2⟩
      clear hb2
      go_wp2
      go_ret2
      exact ⟨rfl, HF.out⟩
    | cons x r2 =>
      obtain ⟨g, off, n, cap, hv, hn0, hncap, hn1000, hnr, hx0, hx1, hx2⟩ := hd.row.head
      have hgone := gone_any hd 0 x (wf_bounds (hd.ri.bnd x List.mem_cons_self))
      rw [hbd] at hgone
      have HRI := Lib.hid hd.ri
      have HROW := Lib.hid hd.row
      have HV := Lib.hid hv
      rw [hv] at hc1
      have hltz : (0 : Int) < (n : Int) := by omega
      by_cases hf : (fd (L.map nu) x.1).isSome = true
      · have e1 : (!(fd (L.map nu) x.1).isSome) = false := by rw [hf]; rfl
        rw [e1] at hgone
        have hnx := HRI.out.nxt hf
        have HF := Lib.hid hf
        obtain ⟨q1, q2⟩ := x
        simp only at hx1 hx2 hnx
        obtain ⟨z, hz⟩ : ∃ z : Int, (q2 : Int) = z := ⟨_, rfl⟩
        simp only at hgone
        rw [hz] at hgone hx2
        have HZ := Lib.hid hz
        have HNX := Lib.hid hnx
        have HGO := Lib.hid hgone
        have HD := Lib.hid hd
        have HBD := Lib.hid hbd
        clear hgone hnx hd hg hv hbd hb hrel hf e1 hz
        go_wp2_with (go_at_call 28; refine HGO.out.mono ?_)
        rintro e w2 ⟨rfl, hb2⟩
        have hd2 := HD.out.below hb2 (Nat.le_refl _)
        have hc1b := hd2.c1
        rw [HBD.out, HV.out] at hc1b
        have hrow2 := hd2.row
        obtain ⟨g', off', n', cap', hv', _, _, _, _, hy0, hy1, hy2⟩ := hrow2.head
        rw [HV.out] at hv'
        injection hv' with ea eb ec
        injection ea with ea
        injection ea with ea1 ea2
        subst ea1 ea2 eb ec
        simp only at hy2
        rw [HZ.out] at hy2
        have HFIN : Hid (∃ r, Rdy L r ∧ DG w P now L r w2) := Lib.hid ⟨_, Or.inr ⟨(q1, q2), r2, rfl, HF.out⟩, HDG.out.below hb2⟩
        clear hd2 hrow2 hb2 hc0 hc1 hx0 hx1 hx2 hy0 hy1
        go_wp2
        go_ret2
        exact ⟨by rw [HNX.out, ← HZ.out]; rfl, HFIN.out⟩
      · have hff : (fd (L.map nu) x.1).isSome = false := by simpa using hf
        have hfn : fd (L.map nu) x.1 = none := by
          cases hx : fd (L.map nu) x.1 with
          | none => rfl
          | some a => rw [hx] at hff; cases hff
        have e1 : (!(fd (L.map nu) x.1).isSome) = true := by rw [hff]; rfl
        rw [e1] at hgone
        have HRT := Lib.hid (HRI.out.tail hfn)
        obtain ⟨q1, q2⟩ := x
        simp only at hx1 hx2
        obtain ⟨z, hz⟩ : ∃ z : Int, (q2 : Int) = z := ⟨_, rfl⟩
        simp only at hgone
        rw [hz] at hgone hx2
        have HGO := Lib.hid hgone
        have HD := Lib.hid hd
        have HBD := Lib.hid hbd
        have hrl := rowLen_of hc1
        clear hgone hd hg hv hbd hb hrel hf e1 hz hff hfn hnr
        go_wp2_with (go_at_call 28; refine HGO.out.mono ?_)
        rintro e w2 ⟨rfl, hb2⟩
        have hd2 := HD.out.below hb2 (Nat.le_refl _)
        have hc1b := hd2.c1
        have hfz := hd2.frozen 1
        have hrow2 := hd2.row
        rw [HBD.out, HV.out] at hc1b
        rw [HBD.out] at hfz
        rw [HV.out] at hrow2
        have hdg2 := HDG.out.below hb2
        have HRL := Lib.hid hrl
        by_cases hcap : cap = 1
        · subst hcap
          obtain ⟨e1, ht⟩ := hrow2.tail0
          subst e1
          have hlay := hdg2.lay ht HRT.out (fun y e => ⟨_, hc1b, e⟩)
          have HN : Hid (∃ r, DG w P now L r (w2.setCell ⟨P.bd, 1, none⟩ (.slice (some ⟨g, off, none⟩) 0 0))) := Lib.hid ⟨_, hlay⟩
          have hcell : Hid (rowLen (w2.setCell ⟨P.bd, 1, none⟩ (.slice (some ⟨g, off, none⟩) 0 0)) P.bd = 0) := Lib.hid (rowLen_of (cset_same hc1b))
          clear hd2 hrow2 hdg2 hlay ht hb2 hc0 hc1 hx0 hx1 hx2
          go_wp2
          exact ⟨HN, by rw [hcell.out, HRL.out]; decide⟩
        · have ht := hrow2.tail
          have hlay := hdg2.lay ht HRT.out (fun y e => ⟨_, hc1b, e⟩)
          have HN : Hid (∃ r, DG w P now L r (w2.setCell ⟨P.bd, 1, none⟩ (.slice (some ⟨g, off + 3, none⟩) (n - 1) (cap - 1)))) := Lib.hid ⟨_, hlay⟩
          have hcell : Hid (rowLen (w2.setCell ⟨P.bd, 1, none⟩ (.slice (some ⟨g, off + 3, none⟩) (n - 1) (cap - 1))) P.bd = n - 1) := Lib.hid (rowLen_of (cset_same hc1b))
          have hone : (1 : Int) ≤ (n : Int) := by omega
          clear hd2 hrow2 hdg2 hlay ht hb2 hc0 hc1 hx0 hx1 hx2
          go_wp2
          exact ⟨HN, by rw [hcell.out, HRL.out]; omega⟩
end Go.Proofs.Ytlhajdmleefkiaa
