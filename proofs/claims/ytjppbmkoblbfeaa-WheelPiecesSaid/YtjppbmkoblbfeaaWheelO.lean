/-
  LAYER 8 (wheel), part O: two wheels; the law's helper put.
-/
import Derived.Test.YtjppbmkoblbfeaaWheelK
namespace Go.Proofs.Ytjppbmkoblbfeaa
open Go.RowKit Wl
set_option linter.unusedVariables false

/-- two wheels of the call's own, apart -/
def Two (w0 : World) (Dw Dv : Wd) (nw nv : Nat) (Lw Lv : List T) (wr : World) : Prop := Own w0 Dw nw Lw wr ∧ Own w0 Dv nv Lv wr ∧ ∀ x, Dw.fp x → ¬ Dv.fp x
section
variable {w0 wr w' : World} {Dw Dv D' : Wd} {nw nv n' : Nat} {Lw Lv L' : List T}
theorem Two.stepV (h : Two w0 Dw Dv nw nv Lw Lv wr) (hs : Step wr Dv w' D') (hv : Own w0 D' n' L' w') : Two w0 Dw D' nw n' Lw L' w' :=
  ⟨⟨h.1.wh.mv hs.mv (fun x hx hf => h.2.2 x hx hf), h.1.base, hv.bl⟩, hv, fun x hx hf => by
    rcases hs.own x hf with h1 | h1
    · exact h.2.2 x hx h1
    · have := h.1.wh.lt hx
      omega⟩
theorem Two.stepW (h : Two w0 Dw Dv nw nv Lw Lv wr) (hs : Step wr Dw w' D') (hv : Own w0 D' n' L' w') : Two w0 D' Dv n' nv L' Lv w' :=
  ⟨hv, ⟨h.2.1.wh.mv hs.mv (fun x hx hf => h.2.2 x hf hx), h.2.1.base, hv.bl⟩, fun x hx hf => by
    rcases hs.own x hx with h1 | h1
    · exact h.2.2 x h1 hf
    · have := h.2.1.wh.lt hf
      omega⟩
theorem Two.below (h : Two w0 Dw Dv nw nv Lw Lv wr) (hb : Below wr.heap.size wr w') : Two w0 Dw Dv nw nv Lw Lv w' := ⟨h.1.below hb, h.2.1.below hb, h.2.2⟩
end
def fill (L : List T) (l : List A) : List T := l.foldl (fun L x => if x.kind = 0 then (pt L x.id x.tick).2 else L) L
theorem fill_snoc (L : List T) (l : List A) (x : A) : fill L (l ++ [x]) = if x.kind = 0 then (pt (fill L l) x.id x.tick).2 else fill L l := by
  unfold fill
  rw [List.foldl_append]
  rfl
theorem pt_len2 (L : List T) (k : Int) (a : Nat) : (pt L k a).2.length ≤ L.length + 1 := by
  unfold pt
  split
  · exact Nat.le_succ _
  · split
    · exact Nat.le_succ _
    · rw [List.length_append]; exact Nat.le_refl _
theorem fill_len : ∀ (l : List A) (L : List T), (fill L l).length ≤ L.length + l.length
  | [], L => Nat.le_refl _
  | x :: l, L => by
    have h1 := fill_len l (if x.kind = 0 then (pt L x.id x.tick).2 else L)
    have h2 : (if x.kind = 0 then (pt L x.id x.tick).2 else L).length ≤ L.length + 1 := by
      split
      · exact pt_len2 _ _ _
      · exact Nat.le_succ _
    show (fill (if x.kind = 0 then (pt L x.id x.tick).2 else L) l).length ≤ _
    simp only [List.length_cons]
    omega
theorem take_snocA {l : List A} {i : Nat} (h : i < l.length) : l.take (i + 1) = l.take i ++ [l.getD i a0] := by
  rw [List.take_succ_eq_append_getElem h, List.getD_eq_getElem?_getD, List.getElem?_eq_getElem h]
  rfl
/-- the wheel in the midst of the helper put -/
def PF (w0 w : World) (D : Wd) (now : Nat) (L : List T) (wr : World) : Prop := ∃ D', D'.b = D.b ∧ Own w0 D' now L wr ∧ Step w D wr D'
theorem PF.drew {w0 w wr : World} {D : Wd} {now : Nat} {L : List T} (h : PF w0 w D now L wr) : PF w0 w D now L wr.drew := by
  obtain ⟨D', h1, h2, h3⟩ := h
  exact ⟨D', h1, h2.drew, h3.trans ⟨rfl, rfl, fun x hx => Or.inl hx, Mv.drew _ _⟩⟩
theorem PF.put {w0 w wr : World} {D : Wd} {now : Nat} {L : List T} {x : A} (h : PF w0 w D now L wr) (hk : Mi.Wf x.id) (ha : x.tick < 2 ^ 64) (hlen : L.length < 1000) :
    Calls Try.prog 9 #[.pointer (some ⟨D.b, 0, none⟩), .int .i64 x.id, .int .u64 x.tick] wr fun e w' => e = .returned (.int .i64 (pt L x.id x.tick).1) ∧ PF w0 w D now (pt L x.id x.tick).2 w' := by
  obtain ⟨D', h1, h2, h3⟩ := h
  have hp := put_any h2.wh x.id x.tick hk ha hlen
  rw [h1] at hp
  refine hp.mono ?_
  rintro e w' ⟨he, D2, g1, g2⟩
  exact ⟨he, D2, g2.b.trans h1, h2.step g2 g1, h3.trans g2⟩
set_option maxHeartbeats 2000000 in
theorem lput_any {w0 w : World} {D : Wd} {now : Nat} (h : Own w0 D now [] w) (p : Option Addr) (n cap : Nat) (acts : List A) (hn : acts.length = n) (hn2 : n ≤ 100) (haw : AW acts) (hac : AC w0 p acts) :
    Calls Try.prog 17 #[.pointer (some ⟨D.b, 0, none⟩), .slice p n cap] w fun e w' => e = .returned (.tuple #[]) ∧ PF w0 w D now (fill [] acts) w' := by
  have HN := Lib.hid hn
  have HAW := Lib.hid haw
  have HAC := Lib.hid hac
  have HBEG : Hid (PF w0 w D now (fill [] (acts.take 0)) w) := Lib.hid ⟨D, rfl, h, Step.refl _ _⟩
  clear hn haw hac h
  obtain ⟨b, hb⟩ : ∃ b, D.b = b := ⟨_, rfl⟩
  have HB := Lib.hid hb
  rw [hb]
  clear hb
  go_enter Try.func17, Try.ntmps17
  go_wp2
  go_loopw [4] (fun i wr => ∃ j : Nat, i = .int .i64 j ∧ j ≤ n ∧ Hid (PF w0 w D now (fill [] (acts.take j)) wr)) (fun i _ => n - (intOf i).toNat)
  case atStart => exact ⟨0, rfl, Nat.zero_le _, HBEG⟩
  case round =>
    obtain ⟨j, rfl, hj, hr⟩ := hrel
    have hcells : ∀ L w1, PF w0 w D now L w1 → AC w1 p acts := fun L w1 hp => by
      obtain ⟨D', _, h2, _⟩ := hp
      exact HAC.out.below h2.bl (Nat.le_refl _)
    have HCE := Lib.hid hcells
    clear hcells
    by_cases hlt : j < n
    · obtain ⟨g, off, rfl, hg, hx0, hx1, hx2⟩ := (HCE.out _ _ hr.out) j (by rw [HN.out]; exact hlt)
      have HX : Hid (Mi.Wf (acts.getD j a0).id ∧ (acts.getD j a0).tick < 2 ^ 64) := Lib.hid (HAW.out.get (by rw [HN.out]; exact hlt))
      have hsn := fill_snoc [] (acts.take j) (acts.getD j a0)
      rw [← take_snocA (by rw [HN.out]; exact hlt)] at hsn
      obtain ⟨L, hL⟩ : ∃ L, fill [] (acts.take j) = L := ⟨_, rfl⟩
      have hlen : L.length < 1000 := by
        rw [← hL]
        have := fill_len (acts.take j) []
        rw [List.length_take, List.length_nil] at this
        omega
      have HLT := Lib.hid hlen
      have HJ := Lib.hid (show j < acts.length by rw [HN.out]; exact hlt)
      obtain ⟨x, hx⟩ : ∃ x, acts.getD j a0 = x := ⟨_, rfl⟩
      rw [hx] at hx0 hx1 hx2 HX hsn
      rw [hL] at hsn hr
      have HXE := Lib.hid hx
      have hltz : (j : Int) < (n : Int) := by omega
      by_cases hk0 : x.kind = 0
      · have hkb : (x.kind == 0) = true := by simpa using hk0
        rw [if_pos hk0] at hsn
        have HSN := Lib.hid hsn
        clear hk0 hsn hx hL hlen
        go_wp2_with fail
        refine Bz.wp_region (S := Bz.by1 11 (fun b1 w1 => PF w0 w D now (cond b1 (pt L x.id x.tick).2 L) w1)) (by kernel_rfl) ?_ ?_
        · exact Bz.by1_start (by decide) hr.out.drew
        repeat (first
          | (refine Bz.anyR_value (v := ?_) (by kernel_rfl) (fun m w1 _ hS => Bz.by1_set (by decide) m w1 hS) (by rfl) (fun _ _ _ h => h) (fun m w1 _ hS => ?_) ?_
             rotate_left
             · obtain ⟨g2, off2, hp2, _, q0, q1, q2⟩ := (HCE.out _ _ hS) j HJ.out
               obtain ⟨e1, e2⟩ : g2 = g ∧ off2 = off := by
                 injection hp2 with hp2
                 injection hp2 with e1 e2
                 exact ⟨e1.symm, e2.symm⟩
               rw [e1, e2] at q0 q1 q2
               clear hp2 e1 e2
               rw [HXE.out] at q0 q1 q2
               go_simp
               with_reducible rfl
             simp only [Act.put, List.setIfInBounds_toArray, List.set_cons_zero, List.set_cons_succ])
          | (refine Bz.anyR_call (v := ?_) (f := ?_) (args := ?_) (by kernel_rfl) (by rfl) (fun _ _ _ h => h) (fun m w1 hm hS => ?_) (fun m w1 hm hS => ?_) ?_
             rotate_left 3
             · go_simp
               (try constructor) <;> with_reducible rfl
             · first
                 | (have hS2 : PF w0 w D now L w1 := (by have h := hS; unfold Bz.by1 at h; rw [hm.1] at h; exact h); have hcall := PF.put (x := x) hS2 HX.out.1 HX.out.2 HLT.out; rw [HB.out] at hcall; (with_reducible refine (hcall.mono ?_)); rintro e w' ⟨rfl, hp⟩; refine ⟨?_, Bz.by1_A m w' hp⟩; with_reducible rfl)
             (try simp only [Act.put, List.setIfInBounds_toArray, List.set_cons_zero, List.set_cons_succ]))
          | refine Bz.anyR_done (by kernel_rfl) (fun w1 hS => ?_))
        have hfin := Bz.by1_end (by decide) (by decide) hS
        have HF : Hid (PF w0 w D now (fill [] (acts.take (j + 1))) w1) := Lib.hid (by rw [HSN.out]; exact hfin)
        clear hS hfin
        go_wp2
        go_roundw
        case rel => exact ⟨j + 1, by go_num, hlt, HF⟩
        case measure => simp [intOf]; omega
      · have hkb : (x.kind == 0) = false := by simpa using hk0
        rw [if_neg hk0] at hsn
        have HF : Hid (PF w0 w D now (fill [] (acts.take (j + 1))) wr) := Lib.hid (by rw [hsn]; exact hr.out)
        clear hk0 hsn hx hL hlen
        go_wp2
        go_roundw
        case rel => exact ⟨j + 1, by go_num, hlt, HF⟩
        case measure => simp [intOf]; omega
    · have e1 : j = n := by omega
      subst e1
      have HF : Hid (PF w0 w D now (fill [] acts) wr) := Lib.hid (by
        have := hr.out
        rw [List.take_of_length_le (by rw [HN.out]; exact Nat.le_refl _)] at this
        exact this)
      clear hr
      go_wp2
      first | go_ret | go_ret2 | go_end0
      exact ⟨rfl, HF.out⟩
end Go.Proofs.Ytjppbmkoblbfeaa
