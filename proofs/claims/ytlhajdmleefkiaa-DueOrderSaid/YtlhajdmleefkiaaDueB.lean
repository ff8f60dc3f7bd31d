/-
  CONTRACTS OF LAYER 9 (due), part B: New, Now, Len, At, Clear, Set, gone.
-/
import Derived.Test.YtlhajdmleefkiaaDueA
namespace Go.Proofs.Ytlhajdmleefkiaa
open Go.RowKit Wl Dl Bt
set_option linter.unusedVariables false

def xv (x : X) : Value := .agg #[.int .i64 x.kind, .int .i64 x.id, .int .u64 (x.tick : Nat)]
theorem mv3 (w : World) (g a b c : Nat) (u v z : Value) : Mv (fun x => x = g) w (((w.setCell ⟨g, a, none⟩ u).setCell ⟨g, b, none⟩ v).setCell ⟨g, c, none⟩ z) := by
  have h1 : Mv (fun x => x = g) w (w.setCell ⟨g, a, none⟩ u) := Mv.setCell _ _ _ rfl
  have h2 : Mv (fun x => x = g) (w.setCell ⟨g, a, none⟩ u) ((w.setCell ⟨g, a, none⟩ u).setCell ⟨g, b, none⟩ v) := Mv.setCell _ _ _ rfl
  have h3 : Mv (fun x => x = g) ((w.setCell ⟨g, a, none⟩ u).setCell ⟨g, b, none⟩ v) (((w.setCell ⟨g, a, none⟩ u).setCell ⟨g, b, none⟩ v).setCell ⟨g, c, none⟩ z) := Mv.setCell _ _ _ rfl
  exact (h1.trans h2 (fun _ _ e => e)).trans h3 (fun _ _ e => e)
theorem du_made {w1 : World} {D : Wd} {now : Nat} (hw : Wheel w1 D now []) : Du (w1.alloc (.cells #[.pointer (some ⟨D.b, 0, none⟩), .slice none 0 0] 56)) ⟨w1.heap.size, D, .slice none 0 0⟩ now [] [] := by
  have e1 : (w1.alloc (.cells #[.pointer (some ⟨D.b, 0, none⟩), .slice none 0 0] 56)).heap[w1.heap.size]? = some (.cells #[.pointer (some ⟨D.b, 0, none⟩), .slice none 0 0] 56) := (MapKept.heap_alloc _ _).1
  exact {
    kind := ⟨_, e1⟩
    c0 := by simp only [World.cell?, e1]; rfl
    c1 := by simp only [World.cell?, e1]; rfl
    wh := hw.alloc _
    row := RT.nil _
    ok := Ok.nil
    ri := Ri.nil _ _ }
def NewsD (w : World) (now : Nat) (e : Ending) (w' : World) : Prop := ∃ P, e = .returned (.pointer (some ⟨P.bd, 0, none⟩)) ∧ Du w' P now [] [] ∧ (∀ x, P.fp x → w.heap.size ≤ x) ∧ Below w.heap.size w w'
theorem dnew_any (now : Nat) (w : World) (hn : now < 2 ^ 64) : Calls Try.prog 7 #[.int .u64 now] w (NewsD w now) := by
  have HNEW := Lib.hid (new_any now w hn)
  obtain ⟨z, hz⟩ : ∃ z : Int, (now : Int) = z := ⟨_, rfl⟩
  rw [hz] at HNEW ⊢
  clear hn hz
  go_enter Try.func7, Try.ntmps7
  go_wp2_with (go_at_call 21; refine HNEW.out.mono ?_)
  rintro e w1 ⟨D1, rfl, hw1, hf1, hb1⟩
  have HF : Hid (NewsD w now (.returned (.pointer (some ⟨w1.heap.size, 0, none⟩))) (w1.alloc (.cells #[.pointer (some ⟨D1.b, 0, none⟩), .slice none 0 0] 56))) := Lib.hid ⟨⟨w1.heap.size, D1, .slice none 0 0⟩, rfl, du_made hw1, (fun x hx => by
    rcases hx with hx | hx | hx
    · have e : x = w1.heap.size := hx
      rw [e]; exact hb1.size
    · exact hf1 x hx
    · cases hx), hb1.alloc hb1.size _⟩
  clear hw1 hf1 hb1
  go_wp2
  go_ret
  exact HF.out
section
variable {w w0 w' : World} {P : Pd} {now : Nat} {L : List X} {r : List T}
theorem dnow_any (h : Du w P now L r) : Calls Try.prog 14 #[.pointer (some ⟨P.bd, 0, none⟩)] w fun e w' => e = .returned (.int .u64 now) ∧ w' = w := by
  have hc := h.c0
  have HN := Lib.hid (now_any h.wh)
  clear h
  go_enter Try.func14, Try.ntmps14
  go_wp2_with (go_at_call 32; refine HN.out.mono ?_; rintro e w' ⟨rfl, hw⟩; rw [hw]; clear hw)
  go_ret
  exact ⟨rfl, rfl⟩
theorem dlen_any (h : Du w P now L r) : Calls Try.prog 13 #[.pointer (some ⟨P.bd, 0, none⟩)] w fun e w' => e = .returned (.int .i64 L.length) ∧ w' = w := by
  have hc := h.c0
  have hl := len_any h.wh
  rw [List.length_map] at hl
  have HN := Lib.hid hl
  clear h hl
  go_enter Try.func13, Try.ntmps13
  go_wp2_with (go_at_call 31; refine HN.out.mono ?_; rintro e w' ⟨rfl, hw⟩; rw [hw]; clear hw)
  go_ret
  exact ⟨rfl, rfl⟩
theorem Dl.Du.drew (h : Du w P now L r) : Du w.drew P now L r := h.below (Below.refl w.heap.size w).drew (Nat.le_refl _)
/-- when it is due -/
def tk (L : List X) (k i : Int) : Nat := ((ps L k i).map fun j => (L.getD j x0).tick).getD 0
theorem dat_any (h : Du w P now L r) (k i : Int) : Calls Try.prog 9 #[.pointer (some ⟨P.bd, 0, none⟩), .int .i64 k, .int .i64 i] w fun e w' => e = .returned (.tuple #[.int .u64 (tk L k i : Nat), .bool (ps L k i).isSome]) ∧ Below w.heap.size w w' := by
  have hc := h.drew.c0
  have hat := at_any h.drew.wh (numb k i) (numb_wf k i)
  rw [fd_nu_isSome h.ok, fd_nu h.ok] at hat
  have HAT := Lib.hid hat
  have HNU := Lib.hid (number_any k i)
  clear h hat
  go_enter Try.func9, Try.ntmps9
  go_wp2_with fail
  refine wp_region_text (S := (fun w' => w' = w.drew)) (by kernel_rfl) ?_ ?_
  · rfl
  repeat (first
    | (refine anyR_value (v := ?_) (by kernel_rfl) (by rfl) (fun _ _ _ h => h) (fun w1 hS => ?_) ?_
       rotate_left
       · subst hS
         go_simp
         with_reducible rfl
       simp only [Act.put, List.setIfInBounds_toArray, List.set_cons_zero, List.set_cons_succ])
    | (refine anyR_not (by kernel_rfl) (by rfl) (fun _ _ _ h => h) ?_
       simp only [Act.put, List.setIfInBounds_toArray, List.set_cons_zero, List.set_cons_succ])
    | (refine anyR_call (v := ?_) (f := ?_) (args := ?_) (by kernel_rfl) (by rfl) (fun _ _ _ h => h) (fun w1 hS => ?_) (fun w1 hS => ?_) ?_
       rotate_left 3
       · go_simp
         (try constructor) <;> with_reducible rfl
       · first
           | (with_reducible refine ((HNU.out _).mono ?_); rintro e w' ⟨rfl, rfl⟩; refine ⟨?_, hS⟩; with_reducible rfl)
           | (subst hS; with_reducible refine (HAT.out.mono ?_); rintro e w' ⟨rfl, rfl⟩; refine ⟨?_, rfl⟩; with_reducible rfl)
       simp only [Act.put, List.setIfInBounds_toArray, List.set_cons_zero, List.set_cons_succ])
    | refine anyR_done (by kernel_rfl) (fun w1 hS => ?_))
  go_wp2_with fail
  go_ret2
  subst hS
  exact ⟨rfl, (Below.refl _ _).drew⟩
theorem dat_nil (k i : Int) (w : World) : Calls Try.prog 9 #[.pointer none, .int .i64 k, .int .i64 i] w fun e w' => e = .returned (.tuple #[.int .u64 0, .bool false]) ∧ w' = w := by
  go_enter Try.func9, Try.ntmps9
  go_wp2
  go_ret2
  exact ⟨rfl, rfl⟩
theorem dnow_nil (w : World) : Calls Try.prog 14 #[.pointer none] w fun e w' => e = .returned (.int .u64 0) ∧ w' = w := by
  go_enter Try.func14, Try.ntmps14
  go_wp2
  go_ret
  exact ⟨rfl, rfl⟩
theorem dlen_nil (w : World) : Calls Try.prog 13 #[.pointer none] w fun e w' => e = .returned (.int .i64 0) ∧ w' = w := by
  go_enter Try.func13, Try.ntmps13
  go_wp2
  go_ret
  exact ⟨rfl, rfl⟩
theorem dset_nil (k i a : Int) (w : World) : Calls Try.prog 15 #[.pointer none, .int .i64 k, .int .i64 i, .int .u64 a] w fun e w' => e = .returned (.int .i64 19) ∧ w' = w := by
  go_enter Try.func15, Try.ntmps15
  go_wp2
  go_ret
  exact ⟨rfl, rfl⟩
theorem dclear_nil (k i : Int) (w : World) : Calls Try.prog 20 #[.pointer none, .int .i64 k, .int .i64 i] w fun e w' => e = .returned (.bool false) ∧ w' = w := by
  go_enter Try.func20, Try.ntmps20
  go_wp2
  go_ret
  exact ⟨rfl, rfl⟩
theorem dgo_nil (a : Int) (w : World) : Calls Try.prog 17 #[.pointer none, .int .u64 a] w fun e w' => e = .returned (.bool false) ∧ w' = w := by
  go_enter Try.func17, Try.ntmps17
  go_wp2
  go_ret
  exact ⟨rfl, rfl⟩
theorem dnext_nil (w : World) : Calls Try.prog 11 #[.pointer none] w fun e w' => e = .returned (.tuple #[.int .u64 0, .bool false]) ∧ w' = w := by
  go_enter Try.func11, Try.ntmps11
  go_wp2
  go_ret2
  exact ⟨rfl, rfl⟩
/-- timers that have come out of those at P in w0 by whatever steps -/
def DG (w0 : World) (P : Pd) (now : Nat) (L : List X) (r : List T) (w : World) : Prop := ∃ P', P'.bd = P.bd ∧ P'.D.b = P.D.b ∧ Du w P' now L r ∧ Gs P.fp w0 P'.fp w
theorem DG.start (h : Du w P now L r) : DG w P now L r w := ⟨P, rfl, rfl, h, Gs.refl _ _⟩
theorem DG.c0 (h : DG w0 P now L r w) : w.cell? ⟨P.bd, 0, none⟩ = some (.pointer (some ⟨P.D.b, 0, none⟩)) := by
  obtain ⟨P', h1, h2, h3, h4⟩ := h
  have := h3.c0
  rw [h1, h2] at this
  exact this
theorem DG.below (h : DG w0 P now L r w) (hb : Below w.heap.size w w') : DG w0 P now L r w' := by
  obtain ⟨P', h1, h2, h3, h4⟩ := h
  exact ⟨P', h1, h2, h3.below hb (Nat.le_refl _), h4.trans (Gs.below hb)⟩
theorem DG.drew (h : DG w0 P now L r w) : DG w0 P now L r w.drew := h.below (Below.refl _ _).drew
theorem DG.drop (h : DG w0 P now L r w) (k i : Int) : Calls Try.prog 33 #[.pointer (some ⟨P.D.b, 0, none⟩), .int .i64 (numb k i)] w fun e w' => e = .returned (.bool (ps L k i).isSome) ∧ DG w0 P now (wo L k i) r w' := by
  obtain ⟨P', hbd, hb, hd, hg⟩ := h
  rw [← hb]
  refine (drop_any hd.wh (numb k i) (numb_wf k i)).mono ?_
  rintro e w' ⟨he, D', g1, g2⟩
  rw [fd_nu_isSome hd.ok] at he
  rw [← wo_drp hd.ok] at g1
  obtain ⟨q1, q2⟩ := hd.wheel g2 g1 (hd.ok.wo k i) (by rw [wo_drp hd.ok]; exact hd.ri.drop hd.wh.keys _)
  exact ⟨he, ⟨P'.bd, D', P'.v⟩, hbd, g2.b.trans hb, q1, hg.trans q2⟩
theorem DG.put {k i : Int} {a : Nat} (h : DG w0 P now (wo L k i) [] w) (hL : Ok L) (ha : a < 2 ^ 64) (hlen : L.length < 1000) : Calls Try.prog 34 #[.pointer (some ⟨P.D.b, 0, none⟩), .int .i64 (numb k i), .int .u64 a] w fun e w' => e = .returned (.int .i64 (st L k i a).1) ∧ DG w0 P now (st L k i a).2 [] w' := by
  obtain ⟨P', hbd, hb, hd, hg⟩ := h
  rw [← hb]
  have hl := (wo_sub L k i).length_le
  refine (put_any hd.wh (numb k i) a (numb_wf k i) ha (by rw [List.length_map]; omega)).mono ?_
  rintro e w' ⟨he, D', g1, g2⟩
  have e1 : (pt ((wo L k i).map nu) (numb k i) a).1 = (st L k i a).1 ∧ (pt ((wo L k i).map nu) (numb k i) a).2 = (st L k i a).2.map nu := by
    unfold pt st
    by_cases hm : May k i
    · have h0 : ¬ numb k i < 0 := by have := numb_nonneg.1 hm; omega
      have h1 : fd ((wo L k i).map nu) (numb k i) = none := by rw [wo_drp hL, fd_drp hL.keys, if_pos rfl]
      rw [if_neg h0, h1, if_pos hm]
      refine ⟨rfl, ?_⟩
      rw [List.map_append]
      rfl
    · have h0 : numb k i < 0 := by rw [numb_not hm]; omega
      rw [if_pos h0, if_neg hm]
      refine ⟨rfl, ?_⟩
      have h1 : wo L k i = L := by
        unfold wo
        cases hp : ps L k i with
        | none => rfl
        | some j => exact absurd (ps_may hL hp) hm
      rw [h1]
  rw [e1.1] at he
  rw [e1.2] at g1
  obtain ⟨q1, q2⟩ := hd.wheel g2 g1 (hL.set ha) (Ri.nil _ _)
  exact ⟨he, ⟨P'.bd, D', P'.v⟩, hbd, g2.b.trans hb, q1, hg.trans q2⟩
theorem DG.clearRow (h : DG w0 P now L r w) : DG w0 P now L [] (w.setCell ⟨P.bd, 1, none⟩ (.slice none 0 0)) := by
  obtain ⟨P', hbd, hb, hd, hg⟩ := h
  obtain ⟨q1, q2⟩ := hd.lay (RT.nil _) (Ri.nil _ _) (fun x e => by cases e)
  rw [← hbd]
  exact ⟨⟨P'.bd, P'.D, .slice none 0 0⟩, hbd, hb, q1, hg.trans q2⟩
def DSet (w : World) (P : Pd) (now : Nat) (q : Int × List X) (e : Ending) (w' : World) : Prop := e = .returned (.int .i64 q.1) ∧ DG w P now q.2 [] w'
theorem dset_any (h : Du w P now L r) (k i : Int) (a : Nat) (ha : a < 2 ^ 64) (hlen : L.length < 1000) :
    Calls Try.prog 15 #[.pointer (some ⟨P.bd, 0, none⟩), .int .i64 k, .int .i64 i, .int .u64 a] w (DSet w P now (st L k i a)) := by
  have hc0 := h.c0
  have hc1 := h.c1
  have hfz := h.frozen 1
  have hd := (DG.start h).clearRow
  have HOK := Lib.hid h.ok
  have HDR := Lib.hid (hd.drop k i)
  have hcc := hd.c0
  have HA := Lib.hid ha
  have HNU := Lib.hid (number_any k i)
  obtain ⟨za, hza⟩ : ∃ z : Int, (a : Int) = z := ⟨_, rfl⟩
  have HZ := Lib.hid hza
  obtain ⟨v, hv⟩ : ∃ v, P.v = v := ⟨_, rfl⟩
  rw [hv] at hc1
  rw [hza]
  clear h hd hza ha hv
  go_enter Try.func15, Try.ntmps15
  go_wp2_with (first
    | (go_at_call 27; refine (HNU.out _).mono ?_; rintro e w' ⟨rfl, hw⟩; rw [hw]; clear hw)
    | (go_at_call 33; refine HDR.out.mono ?_))
  rintro e w2 ⟨rfl, hdg⟩
  have hc2 := hdg.c0
  have hp := DG.put hdg HOK.out HA.out hlen
  rw [HZ.out] at hp
  have HP := Lib.hid hp
  clear hdg hp hc0 hc1 hcc
  go_wp2_with (go_at_call 34; refine HP.out.mono ?_)
  rintro e w3 ⟨rfl, hdg⟩
  have HF := Lib.hid hdg
  clear hdg
  go_wp2
  go_ret
  exact ⟨rfl, HF.out⟩
def DDid (w : World) (P : Pd) (now : Nat) (b : Bool) (L' : List X) (r : List T) (e : Ending) (w' : World) : Prop := e = .returned (.bool b) ∧ DG w P now L' r w'
theorem dclear_any (h : Du w P now L r) (k i : Int) :
    Calls Try.prog 20 #[.pointer (some ⟨P.bd, 0, none⟩), .int .i64 k, .int .i64 i] w (DDid w P now (ps L k i).isSome (wo L k i) r) := by
  have HD := Lib.hid (DG.start h).drew
  have HNU := Lib.hid (number_any k i)
  clear h
  go_enter Try.func20, Try.ntmps20
  go_wp2_with fail
  refine Bz.wp_region (S := Bz.by1 7 (fun b1 w1 => DG w P now (cond b1 (wo L k i) L) r w1)) (by kernel_rfl) ?_ ?_
  · exact Bz.by1_start (by decide) HD.out
  repeat (first
    | (refine Bz.anyR_value (v := ?_) (by kernel_rfl) (fun m w1 _ hS => Bz.by1_set (by decide) m w1 hS) (by rfl) (fun _ _ _ h => h) (fun m w1 _ hS => ?_) ?_
       rotate_left
       · have hq0 := DG.c0 hS
         go_simp
         with_reducible rfl
       (try simp only [Act.put, List.setIfInBounds_toArray, List.set_cons_zero, List.set_cons_succ]))
    | (refine Bz.anyR_not (by kernel_rfl) (fun m w1 _ hS => Bz.by1_set (by decide) m w1 hS) (by rfl) (fun _ _ _ h => h) ?_
       (try simp only [Act.put, List.setIfInBounds_toArray, List.set_cons_zero, List.set_cons_succ]))
    | (refine Bz.anyR_call (v := ?_) (f := ?_) (args := ?_) (by kernel_rfl) (by rfl) (fun _ _ _ h => h) (fun m w1 hm hS => ?_) (fun m w1 hm hS => ?_) ?_
       rotate_left 3
       · go_simp
         (try constructor) <;> with_reducible rfl
       · first
           | (with_reducible refine ((HNU.out _).mono ?_); rintro e w' ⟨rfl, rfl⟩; refine ⟨?_, Bz.by1_set (by decide) m _ hS⟩; with_reducible rfl)
           | (have hS2 : DG w P now L r w1 := (by have h := hS; unfold Bz.by1 at h; rw [hm.1] at h; exact h); (with_reducible refine ((DG.drop hS2 k i).mono ?_)); rintro e w' ⟨rfl, hp⟩; refine ⟨?_, Bz.by1_A m w' hp⟩; with_reducible rfl)
       (try simp only [Act.put, List.setIfInBounds_toArray, List.set_cons_zero, List.set_cons_succ]))
    | refine Bz.anyR_done (by kernel_rfl) (fun w1 hS => ?_))
  have HF := Lib.hid (Bz.by1_end (by decide) (by decide) hS)
  clear hS
  go_wp2
  go_ret
  exact ⟨rfl, HF.out⟩
def Below1 (w : World) (b : Bool) (e : Ending) (w' : World) : Prop := e = .returned (.bool b) ∧ Below w.heap.size w w'
theorem gone_any (h : Du w P now L r) (k0 : Int) (x : T) (hx : Mi.Wf x.1) : Calls Try.prog 28 #[.pointer (some ⟨P.bd, 0, none⟩), .agg #[.int .i64 k0, .int .i64 x.1, .int .u64 (x.2 : Nat)]] w (Below1 w (!(fd (L.map nu) x.1).isSome)) := by
  obtain ⟨k, a⟩ := x
  obtain ⟨z, hz⟩ : ∃ z : Int, (a : Int) = z := ⟨_, rfl⟩
  simp only
  rw [hz]
  obtain ⟨W1, hW1⟩ : ∃ W1, w.alloc (.cells #[.int .i64 k0, .int .i64 k, .int .u64 z] 39) = W1 := ⟨_, rfl⟩
  have hb : Below w.heap.size w W1 := by rw [← hW1]; exact (Below.refl _ _).alloc (Nat.le_refl _) _
  have h1 := (h.below hb (Nat.le_refl _)).drew
  have hx1 : W1.cell? ⟨w.heap.size, 1, none⟩ = some (.int .i64 k) := by
    have e : W1.heap[w.heap.size]? = some (.cells #[.int .i64 k0, .int .i64 k, .int .u64 z] 39) := by rw [← hW1]; exact (MapKept.heap_alloc _ _).1
    simp only [World.cell?, e]
    rfl
  have hc := h1.c0
  have hat := at_any h1.wh k hx
  obtain ⟨b, hbb⟩ : ∃ b, (fd (L.map nu) k).isSome = b := ⟨_, rfl⟩
  obtain ⟨v, hv⟩ : ∃ v : Int, (((fd (L.map nu) k).getD 0 : Nat) : Int) = v := ⟨_, rfl⟩
  rw [hbb, hv] at hat
  rw [hbb]
  have HAT := Lib.hid hat
  have HB := Lib.hid hb
  clear h h1 hat hb hbb hv hz hx
  go_enter Try.func28, Try.ntmps28
  go_wp2_with fail
  refine wp_region_text (S := (fun w' => w' = W1.drew)) (by kernel_rfl) ?_ ?_
  · rfl
  repeat (first
    | (refine anyR_value (v := ?_) (by kernel_rfl) (by rfl) (fun _ _ _ h => h) (fun w1 hS => ?_) ?_
       rotate_left
       · subst hS
         go_simp
         with_reducible rfl
       simp only [Act.put, List.setIfInBounds_toArray, List.set_cons_zero, List.set_cons_succ])
    | (refine anyR_not (by kernel_rfl) (by rfl) (fun _ _ _ h => h) ?_
       simp only [Act.put, List.setIfInBounds_toArray, List.set_cons_zero, List.set_cons_succ])
    | (refine anyR_call (v := ?_) (f := ?_) (args := ?_) (by kernel_rfl) (by rfl) (fun _ _ _ h => h) (fun w1 hS => ?_) (fun w1 hS => ?_) ?_
       rotate_left 3
       · go_simp
         (try constructor) <;> with_reducible rfl
       · first
           | (subst hS; with_reducible refine (HAT.out.mono ?_); rintro e w' ⟨rfl, rfl⟩; refine ⟨?_, rfl⟩; with_reducible rfl)
       simp only [Act.put, List.setIfInBounds_toArray, List.set_cons_zero, List.set_cons_succ])
    | refine anyR_done (by kernel_rfl) (fun w1 hS => ?_))
  subst hS
  go_wp2
  go_ret
  exact ⟨rfl, HB.out.drew⟩
end
end Go.Proofs.Ytlhajdmleefkiaa
