/-
  CONTRACTS OF LAYER 8 (wheel), part C: New, Now, At, Len, Put, Drop.
-/
import Derived.Test.YtlhajdmleefkiaaWheelB
namespace Go.Proofs.Ytlhajdmleefkiaa
open Go.RowKit Wl
set_option linter.unusedVariables false

def zc : Array Value := #[.int .u64 0, .map none] ++ Array.replicate 256 (.map none)
def nc (a : Int) (d : Nat) : Array Value := (zc.setIfInBounds 0 (.int .u64 a)).setIfInBounds 1 (.map (some d))
theorem build_wheel (a : Int) (d : Nat) (w : World) : (Instr.build 68 #[(0, .int .u64 a), (1, .map (some d))]).run Try.prog w = .ok (.agg (nc a d)) w := by kernel_rfl
section
variable {P : Program} {ops : Array Oper} {rest : List Oper} {o : Oper} {a : Act} {Q : Exit → Act → World → Prop}
theorem wp_build (w : World) (hg : o.guard = none) (t : TypeId) (parts : Array (Nat × Operand)) (ho : o.op = .build t parts) (vs : Array (Nat × Value)) (hvs : (parts.map fun (i, x) => (i, a.eval x)) = vs) (V : Value) (hr : ∀ W, (Instr.build t vs).run P W = .ok V W)
    (hQ : wpList P ops Q rest (a.put o.dst V) w) : wpList P ops Q (o :: rest) a w := by
  refine wpList_plain hg fun K' hK' => ?_
  unfold Oper.wp
  simp only [execOp, ho, hvs, Sem.run_bind, hr, Result.andThen, Sem.run_pure]
  exact hK' _ _ hQ
theorem wp_box (w : World) (hg : o.guard = none) (t : TypeId) (x : Operand) (ho : o.op = .box t x) (cs : Array Value) (hx : a.eval x = .agg cs)
    (hQ : wpList P ops Q rest (a.put o.dst (.pointer (some ⟨w.heap.size, 0, none⟩))) (w.alloc (.cells cs t))) : wpList P ops Q (o :: rest) a w := by
  refine wpList_plain hg fun K' hK' => ?_
  unfold Oper.wp
  simp only [execOp, ho, hx, Instr.box, newVar, newRow, run_newObj_alloc, Sem.run_bind, Result.andThen, Sem.run_pure]
  exact hK' _ _ hQ
end
def Fresh (w : World) (D : Wd) : Prop := ∀ x, D.fp x → w.heap.size ≤ x
def News (w : World) (now : Nat) (e : Ending) (w' : World) : Prop := ∃ D, e = .returned (.pointer (some ⟨D.b, 0, none⟩)) ∧ Wheel w' D now [] ∧ Fresh w D ∧ Below w.heap.size w w'
theorem nc_get (z : Int) (d : Nat) : (nc z d)[0]? = some (.int .u64 z) ∧ (nc z d)[1]? = some (.map (some d)) ∧ ∀ i, i < 256 → (nc z d)[2 + i]? = some (.map none) := by
  have hs : zc.size = 258 := by unfold zc; simp
  unfold nc
  refine ⟨?_, ?_, fun i hi => ?_⟩
  · rw [Array.getElem?_setIfInBounds_ne (by omega), Array.getElem?_setIfInBounds_self_of_lt (by omega)]
  · rw [Array.getElem?_setIfInBounds_self_of_lt (by simp; omega)]
  · rw [Array.getElem?_setIfInBounds_ne (by omega), Array.getElem?_setIfInBounds_ne (by omega)]
    unfold zc
    rw [Array.getElem?_append_right (by simp)]
    simp [hi]
theorem wheel_made (w : World) {now : Nat} (hn : now < 2 ^ 64) : Wheel ((w.alloc (.map #[] 0)).alloc (.cells (nc now w.heap.size) 68)) ⟨w.heap.size + 1, w.heap.size, fun _ => none⟩ now [] := by
  have hs : (w.alloc (.map #[] 0)).heap.size = w.heap.size + 1 := by simp
  have hnew : ((w.alloc (.map #[] 0)).alloc (.cells (nc now w.heap.size) 68)).heap[w.heap.size + 1]? = some (.cells (nc now w.heap.size) 68) := by
    rw [← hs]
    exact (MapKept.heap_alloc _ _).1
  obtain ⟨n0, n1, n2⟩ := nc_get now w.heap.size
  exact {
    kind := ⟨_, hnew⟩
    c0 := by simp only [World.cell?, hnew]; exact n0
    c1 := by simp only [World.cell?, hnew]; exact n1
    cr := fun i hi => by simp only [World.cell?, hnew]; exact n2 i hi
    due := (((Mi.Is.made w).block ((MapKept.heap_alloc _ _).2 _ (by simp)))).ext (fun k => rfl)
    rows := fun i hi r hr => by cases hr
    bare := fun i hi _ k e => by cases e
    pk := fun k i e => by cases e
    one := fun i j r _ _ e => by cases e
    ne := fun i _ e => by cases e
    keys := List.nodup_nil
    wf := fun x hx => by cases hx
    now_lt := hn
    len := by simp }
theorem new_any (now : Nat) (w : World) (hn : now < 2 ^ 64) : Calls Try.prog 21 #[.int .u64 now] w (News w now) := by
  have hmm := @run_makeMap Try.prog
  obtain ⟨z, hz⟩ : ∃ z : Int, (now : Int) = z := ⟨_, rfl⟩
  have hbw := fun d W => build_wheel z d W
  have HN := Lib.hid hn
  have HZ := Lib.hid hz
  rw [hz]
  clear hn hz
  go_enter Try.func21, Try.ntmps21
  go_wp2_with (first | (refine wp_build _ rfl 68 _ rfl #[(0, .int .u64 z), (1, .map (some w.heap.size))] (by kernel_rfl) (.agg (nc z w.heap.size)) (hbw w.heap.size) ?_) | (refine wp_box _ rfl 68 _ rfl (nc z w.heap.size) rfl ?_))
  go_ret
  rw [← HZ.out]
  refine ⟨⟨w.heap.size + 1, w.heap.size, fun _ => none⟩, rfl, wheel_made w HN.out, ?_, ((Below.refl _ _).alloc (Nat.le_refl _) _).alloc (by simp) _⟩
  intro x hx
  rcases hx with h | h | ⟨i, hi, h⟩
  · rw [h]; exact Nat.le_succ _
  · rw [h]; exact Nat.le_refl _
  · cases h
theorem now_any {w : World} {D : Wd} {now : Nat} {L : List T} {p : Int → Option Nat} (h : Wh w D now L p) : Calls Try.prog 32 #[.pointer (some ⟨D.b, 0, none⟩)] w fun e w' => e = .returned (.int .u64 now) ∧ w' = w := by
  have hc := h.c0
  clear h
  go_enter Try.func32, Try.ntmps32
  go_wp2
  go_ret
  exact ⟨rfl, rfl⟩
theorem now_nil (w : World) : Calls Try.prog 32 #[.pointer none] w fun e w' => e = .returned (.int .u64 0) ∧ w' = w := by
  go_enter Try.func32, Try.ntmps32
  go_wp2
  go_ret
  exact ⟨rfl, rfl⟩
theorem len_any {w : World} {D : Wd} {now : Nat} {L : List T} {p : Int → Option Nat} (h : Wh w D now L p) : Calls Try.prog 31 #[.pointer (some ⟨D.b, 0, none⟩)] w fun e w' => e = .returned (.int .i64 L.length) ∧ w' = w := by
  have hc := h.c1
  have hdue := h.due
  obtain ⟨n, hn⟩ : ∃ n, L.length = n := ⟨_, rfl⟩
  rw [hn] at hdue ⊢
  clear h hn
  go_enter Try.func31, Try.ntmps31
  go_wp2_with (at_len; refine Mi.wp_len _ rfl _ 63 3 22 rfl Try.underlying63 D.d n _ rfl hdue ?_)
  go_ret
  exact ⟨rfl, rfl⟩
theorem len_nil (w : World) : Calls Try.prog 31 #[.pointer none] w fun e w' => e = .returned (.int .i64 0) ∧ w' = w := by
  go_enter Try.func31, Try.ntmps31
  go_wp2
  go_ret
  exact ⟨rfl, rfl⟩
theorem df_getD (L : List T) (k : Int) : (df L k).getD (.int .u64 0) = .int .u64 ((fd L k).getD 0 : Nat) := by
  unfold df
  cases fd L k <;> rfl
theorem df_isSome (L : List T) (k : Int) : (df L k).isSome = (fd L k).isSome := by
  unfold df
  cases fd L k <;> rfl
theorem at_any {w : World} {D : Wd} {now : Nat} {L : List T} {p : Int → Option Nat} (h : Wh w D now L p) (k : Int) (hk : Mi.Wf k) : Calls Try.prog 26 #[.pointer (some ⟨D.b, 0, none⟩), .int .i64 k] w fun e w' => e = .returned (.tuple #[.int .u64 ((fd L k).getD 0 : Nat), .bool (fd L k).isSome]) ∧ w' = w := by
  have hc := h.c1
  have hdue := h.due
  obtain ⟨v, hv⟩ : ∃ v, (fd L k).getD 0 = v := ⟨_, rfl⟩
  obtain ⟨o, ho⟩ : ∃ o, (fd L k).isSome = o := ⟨_, rfl⟩
  have e1 : (df L k).getD (.int .u64 0) = .int .u64 (v : Nat) := by rw [df_getD, hv]
  have e2 : (df L k).isSome = o := by rw [df_isSome, ho]
  rw [hv, ho]
  clear h hv ho
  go_enter Try.func26, Try.ntmps26
  go_wp2_with (at_lookup; refine Mi.wp_look_ok _ rfl _ _ 63 3 22 rfl Try.underlying63 Try.underlying3 (.int .u64 0) (by kernel_rfl) D.d _ _ rfl hdue k hk rfl ?_; rw [e1, e2])
  go_ret2
  exact ⟨rfl, rfl⟩
theorem at_nil (k : Int) (w : World) : Calls Try.prog 26 #[.pointer none, .int .i64 k] w fun e w' => e = .returned (.tuple #[.int .u64 0, .bool false]) ∧ w' = w := by
  go_enter Try.func26, Try.ntmps26
  go_wp2
  go_ret2
  exact ⟨rfl, rfl⟩
/-- what Put answers, and what the wheel has then -/
def pt (L : List T) (k : Int) (a : Nat) : Int × List T := if k < 0 then (1, L) else if (fd L k).isSome = true then (8, L) else (0, L ++ [(k, a)])
abbrev Turned (w : World) (D : Wd) (now : Nat) (L : List T) (w' : World) : Prop := Goes w D now L (pq now L) w'
def Did (w : World) (D : Wd) (now : Nat) (r : Int × List T) (e : Ending) (w' : World) : Prop := e = .returned (.int .i64 r.1) ∧ Turned w D now r.2 w'
theorem goes_same {w : World} {D : Wd} {now : Nat} {L : List T} {p : Int → Option Nat} (h : Wh w D now L p) : Goes w D now L p w := ⟨D, h, Step.refl _ _⟩
theorem put_any {w : World} {D : Wd} {now : Nat} {L : List T} (h : Wheel w D now L) (k : Int) (a : Nat) (hk : Mi.Wf k) (ha : a < 2 ^ 64) (hlen : L.length < 1000) :
    Calls Try.prog 34 #[.pointer (some ⟨D.b, 0, none⟩), .int .i64 k, .int .u64 a] w (Did w D now (pt L k a)) := by
  have HH := Lib.hid h
  have hc := h.c1
  have hdue := h.due
  have hkb := i64_bounds hk
  obtain ⟨za, hza⟩ : ∃ z : Int, (a : Int) = z := ⟨_, rfl⟩
  obtain ⟨n, hn⟩ : ∃ n, L.length = n := ⟨_, rfl⟩
  rw [hza]
  rw [hn] at hdue hlen
  have HZ := Lib.hid hza
  have HA := Lib.hid ha
  have HN := Lib.hid hn
  have hnl : n < maxLen := by unfold maxLen; omega
  clear h hza ha hn
  by_cases h0 : k < 0
  · have he : pt L k a = (1, L) := by unfold pt; rw [if_pos h0]
    rw [he]
    have hg := Lib.hid (goes_same HH.out)
    clear he hkb
    go_enter Try.func34, Try.ntmps34
    go_wp2
    go_ret
    exact ⟨rfl, hg.out⟩
  · have h1 : ¬ k < 0 := h0
    by_cases hf : (fd L k).isSome = true
    · have he : pt L k a = (8, L) := by unfold pt; rw [if_neg h0, if_pos hf]
      rw [he]
      have hg := Lib.hid (goes_same HH.out)
      have e1 : (df L k).isSome = true := by rw [df_isSome, hf]
      obtain ⟨v, e2⟩ : ∃ v : Nat, (df L k).getD (.int .u64 0) = .int .u64 v := ⟨_, df_getD L k⟩
      clear he hf
      go_enter Try.func34, Try.ntmps34
      go_wp2_with (at_lookup; refine Mi.wp_look_ok _ rfl _ _ 63 3 22 rfl Try.underlying63 Try.underlying3 (.int .u64 0) (by kernel_rfl) D.d _ _ rfl hdue k hk rfl ?_; rw [e1, e2])
      go_ret
      exact ⟨rfl, hg.out⟩
    · have hf2 : fd L k = none := by
        cases hx : fd L k with
        | none => rfl
        | some v => rw [hx] at hf; exact absurd rfl hf
      have he : pt L k a = (0, L ++ [(k, a)]) := by unfold pt; rw [if_neg h0, if_neg hf]
      rw [he]
      have e1 : (df L k).isSome = false := by rw [df_isSome, hf2]; rfl
      have e2 : (df L k).getD (.int .u64 0) = .int .u64 0 := by rw [df_getD, hf2]; rfl
      have HF := Lib.hid hf2
      clear he hf hf2
      have hgo : Hid (∀ w', Mi.Is Try.prog 3 w' D.d (fun x => if x = k then some (.int .u64 za) else df L x) (Mi.up (df L k) n) → w.grownBy w' (some D.d) → Wh w' D now (L ++ [(k, a)]) (pq now L) ∧ Step w D w' D) := Lib.hid (fun w' hm hg => by
        have hH := HH.out
        refine hH.dues ?_ hg (hH.keys.snoc HF.out a) (fun x hx => ?_) ?_ (fun x i e => ?_)
        · rw [show Mi.up (df L k) n = n + 1 by unfold Mi.up; rw [e1]; rfl] at hm
          rw [List.length_append, HN.out]
          refine hm.ext (fun x => ?_)
          unfold df
          rw [fd_snoc k a x HF.out]
          by_cases e : x = k
          · rw [if_pos e, if_pos e, ← HZ.out]; rfl
          · rw [if_neg e, if_neg e]
        · rcases List.mem_append.1 hx with hx | hx
          · exact hH.wf x hx
          · rw [List.mem_singleton] at hx
            subst hx
            exact ⟨hk, HA.out⟩
        · rw [List.length_append, HN.out]
          simp only [List.length_cons, List.length_nil]
          omega
        · rw [List.map_append]
          exact List.mem_append_left _ (hH.pk x i e).2)
      go_enter Try.func34, Try.ntmps34
      go_wp2_with (first
        | (at_lookup; refine Mi.wp_look_ok _ rfl _ _ 63 3 22 rfl Try.underlying63 Try.underlying3 (.int .u64 0) (by kernel_rfl) D.d _ _ rfl hdue k hk rfl ?_; rw [e1, e2])
        | (at_mapUpdate; refine Mi.wp_put _ rfl _ _ _ 63 3 22 rfl Try.underlying63 Try.underlying3 D.d n _ rfl hdue hnl k hk rfl (.int .u64 za) rfl ?_; intro w1 hm1 hg1))
      obtain ⟨hW1, hS1⟩ := hgo.out w1 hm1 hg1
      have hst := stand_any hW1 k a (by rw [fd_snoc k a k HF.out, if_pos rfl]) (by unfold pq; rw [HF.out]; rfl)
      have HS := Lib.hid hS1
      clear hW1 hS1 hm1 hg1
      refine hst.mono ?_
      rintro e w2 ⟨rfl, hgoes⟩
      have HG := Lib.hid hgoes
      clear hgoes hst
      go_wp2
      go_ret
      obtain ⟨D2, g1, g2⟩ := HG.out
      rw [pq_snoc HF.out] at g1
      exact ⟨rfl, D2, g1, HS.out.trans g2⟩
def Dropped (w : World) (D : Wd) (now : Nat) (L : List T) (k : Int) (e : Ending) (w' : World) : Prop := e = .returned (.bool (fd L k).isSome) ∧ Turned w D now (drp L k) w'
theorem drop_any {w : World} {D : Wd} {now : Nat} {L : List T} (h : Wheel w D now L) (k : Int) (hk : Mi.Wf k) :
    Calls Try.prog 33 #[.pointer (some ⟨D.b, 0, none⟩), .int .i64 k] w (Dropped w D now L k) := by
  have HAT := Lib.hid (at_any h k hk)
  cases hf : fd L k with
  | none =>
    have hg := Lib.hid (goes_same h)
    have hd := Lib.hid (drp_none hf)
    have HF := Lib.hid hf
    rw [hf] at HAT
    clear h hf
    simp only [Option.getD_none, Option.isSome_none] at HAT
    go_enter Try.func33, Try.ntmps33
    go_wp2_with (go_at_call 26; refine HAT.out.mono ?_; rintro e w' ⟨rfl, hw⟩; rw [hw]; clear hw)
    go_ret
    refine ⟨by rw [HF.out]; rfl, ?_⟩
    rw [hd.out]
    exact hg.out
  | some a =>
    rw [hf] at HAT
    simp only [Option.getD_some, Option.isSome_some] at HAT
    have ha := (h.wf _ (fd_some hf)).2
    have hpk : pq now L k = some (q now a) := by unfold pq; rw [hf]; rfl
    have hq := q_lt h.now_lt ha
    have HP := place_any D.b now a w h.now_lt ha h.c0
    have hl := ap_lt h.now_lt (b := max a now) (by have := h.now_lt; omega)
    have hs := dg_lt (max a now) (ap now (max a now))
    obtain ⟨l, s, hls, hl2, hs2, HP2⟩ : ∃ l s, q now a = 16 * l + s ∧ l < 16 ∧ s < 16 ∧ Hid (Calls Try.prog 41 #[.pointer (some ⟨D.b, 0, none⟩), .int .u64 a] w fun e w' => e = .returned (.tuple #[.int .i64 l, .int .i64 s]) ∧ w' = w) := ⟨_, _, rfl, hl, hs, Lib.hid HP⟩
    obtain ⟨r, hr⟩ : ∃ r, D.row (q now a) = some r := by
      cases hx : D.row (q now a) with
      | none => exact absurd hpk (h.bare _ hq hx k)
      | some r => exact ⟨r, rfl⟩
    obtain ⟨N, hrow⟩ := h.rows _ hq _ hr
    have hcr := h.cell hls hl2 hs2
    rw [hr] at hcr
    have hdf : (df L k).isSome = true := by rw [df_isSome, hf]; rfl
    have hgo : Hid (∀ w1 N1, Mi.Is Try.prog 3 w1 r (fun x => if x = k then none else rf (pq now L) (q now a) x) N1 → w.grownBy w1 (some r) → Wh w1 D now L (put (pq now L) k none) ∧ Step w D w1 D) :=
      Lib.hid (fun w1 N1 hm hg => h.leaves hq hpk hr hm hg)
    have hgo2 : Hid (∀ w1 w2, Wh w1 D now L (put (pq now L) k none) → Mi.Is Try.prog 3 w2 D.d (fun x => if x = k then none else df L x) (Mi.dn (df L k) L.length) → w1.grownBy w2 (some D.d) → Wh w2 D now (drp L k) (put (pq now L) k none) ∧ Step w1 D w2 D) :=
      Lib.hid (fun w1 w2 hW hm hg => by
        have hlen := drp_len h.keys hf
        refine hW.dues ?_ hg (h.keys.filter _) (fun x hx => h.wf x (List.mem_filter.1 hx).1) (by have := h.len; omega) (fun x i e => ?_)
        · have e1 : Mi.dn (df L k) L.length = (drp L k).length := by unfold Mi.dn; rw [hdf, if_pos rfl]; omega
          rw [e1] at hm
          refine hm.ext (fun x => ?_)
          unfold df
          rw [fd_drp h.keys]
          by_cases e : x = k
          · rw [if_pos e, if_pos e]; rfl
          · rw [if_neg e, if_neg e]
        · rw [pq_drp h.keys] at e
          unfold pq at e
          have : (fd (drp L k) x).isSome = true := by
            cases hx : fd (drp L k) x with
            | none => rw [hx] at e; cases e
            | some v => rfl
          exact fd_isSome.1 this)
    have HKS := Lib.hid h.keys
    have HF := Lib.hid hf
    have hc1 := h.c1
    clear HP hl hs hls hq hf hdf hpk ha h hr
    go_enter Try.func33, Try.ntmps33
    go_wp2_with (first
      | (go_at_call 26; refine HAT.out.mono ?_; rintro e w' ⟨rfl, hw⟩; rw [hw]; clear hw)
      | (go_at_call 41; refine HP2.out.mono ?_; rintro e w' ⟨rfl, hw⟩; rw [hw]; clear hw)
      | (at_delete; refine Mi.wp_del _ rfl _ _ 64 3 80 rfl Try.underlying64 Try.underlying3 r N _ rfl hrow k hk rfl ?_))
    intro w1 hm1 hg1
    obtain ⟨hW1, hS1⟩ := hgo.out w1 _ hm1 hg1
    have hc2 := hW1.c1
    have hdue2 := hW1.due
    have HW1 := Lib.hid hW1
    have HS1 := Lib.hid hS1
    clear hW1 hS1 hm1 hg1 hrow hcr hc1
    go_wp2_with (at_delete; refine Mi.wp_del _ rfl _ _ 63 3 22 rfl Try.underlying63 Try.underlying3 D.d _ _ rfl hdue2 k hk rfl ?_)
    intro w2 hm2 hg2
    have HG := Lib.hid (hgo2.out w1 w2 HW1.out hm2 hg2)
    clear hm2 hg2 hdue2 hc2
    go_wp2
    go_ret
    obtain ⟨g1, g2⟩ := HG.out
    rw [pq_drp HKS.out] at g1
    exact ⟨by rw [HF.out]; rfl, D, g1, HS1.out.trans g2⟩
theorem drop_nil (k : Int) (w : World) : Calls Try.prog 33 #[.pointer none, .int .i64 k] w fun e w' => e = .returned (.bool false) ∧ w' = w := by
  have HAT := Lib.hid (at_nil k w)
  go_enter Try.func33, Try.ntmps33
  go_wp2_with (go_at_call 26; refine HAT.out.mono ?_; rintro e w' ⟨rfl, hw⟩; rw [hw]; clear hw)
  go_ret
  exact ⟨rfl, rfl⟩
theorem put_nil (k a : Int) (w : World) : Calls Try.prog 34 #[.pointer none, .int .i64 k, .int .u64 a] w fun e w' => e = .returned (.int .i64 19) ∧ w' = w := by
  go_enter Try.func34, Try.ntmps34
  go_wp2
  go_ret
  exact ⟨rfl, rfl⟩
end Go.Proofs.Ytlhajdmleefkiaa
