/-
  CONTRACTS OF LAYER 8 (wheel), part D: least, Next.
-/
import Derived.Test.YtlhajdmleefkiaaWheelC
namespace Go.Proofs.Ytlhajdmleefkiaa
open Go.RowKit Wl
set_option linter.unusedVariables false

/-- m is no more than any tick of those that stand in slot i and are not left; and is one of them, or the greatest -/
def Lst (L : List T) (p : Int → Option Nat) (i : Nat) (lf : Int → Bool) (m : Nat) : Prop := m < 2 ^ 64 ∧ (∀ k a, (k, a) ∈ L → p k = some i → lf k = false → m ≤ a) ∧ (m = 18446744073709551615 ∨ ∃ k, (k, m) ∈ L ∧ p k = some i)
set_option maxRecDepth 100000 in
theorem least_any {w : World} {D : Wd} {now : Nat} {L : List T} {p : Int → Option Nat} (h : Wh w D now L p) {i r : Nat} (hi : i < 256) (hr : D.row i = some r) :
    Calls Try.prog 39 #[.pointer (some ⟨D.b, 0, none⟩), .map (some r)] w fun e w' => (∃ m : Nat, e = .returned (.int .u64 m) ∧ Lst L p i (fun _ => false) m) ∧ Below w.heap.size w w' := by
  obtain ⟨N, hrow⟩ := h.rows i hi r hr
  have HH := Lib.hid h
  clear h hr
  go_enter Try.func39, Try.ntmps39
  go_wp2_with (at_range; refine Mi.wp_range _ rfl _ 64 3 80 rfl Try.underlying64 Try.underlying3 r N _ rfl hrow ?_; intro w0 hrg0 hg0 hs0)
  go_frame
  have hb0 := (Below.refl w.heap.size w).grown hg0 (Nat.le_refl _) (by simp)
  clear hg0 hrow
  go_loopw [5] (fun v wr => ∃ (m : Nat) (lf : Int → Bool) (cnt : Nat), v = .int .u64 m ∧ Mi.Rg Try.prog 3 wr r w.heap.size (rf p i) N lf cnt ∧ Hid (Lst L p i lf m) ∧ Below w.heap.size w wr) (fun _ wr => wr.rangeLeft r w.heap.size)
  case atStart =>
    refine ⟨18446744073709551615, _, _, rfl, hrg0, Lib.hid ⟨by omega, fun k a hm hp hl => ?_, Or.inl rfl⟩, hb0⟩
    have hl2 : (rf p i k).isSome = false := hl
    unfold rf at hl2
    rw [if_pos hp] at hl2
    cases hl2
  case round =>
    obtain ⟨m, lf, cnt, rfl, hrg, hls, hb⟩ := hrel
    obtain ⟨z, hz⟩ : ∃ z : Int, (m : Int) = z := ⟨_, rfl⟩
    have HM := Lib.hid hz
    have hzb : 0 ≤ z ∧ z < 18446744073709551616 := by have := hls.out.1; omega
    rw [hz]
    clear hz
    have HB := Lib.hid hb
    have HRG := Lib.hid hrg
    clear hb
    go_wp2_with (at_next; refine Mi.wp_next _ rfl _ rfl 3 Try.underlying3 r w.heap.size N _ _ _ rfl hrg ?_ ?_)
    · intro hall
      have hfin : Hid (Lst L p i (fun _ => false) m) := Lib.hid ⟨hls.out.1, fun k a h1 h2 _ => hls.out.2.1 k a h1 h2 (hall k), hls.out.2.2⟩
      clear hall hrg hls
      go_wp2
      go_ret
      exact ⟨⟨m, by rw [HM.out]; rfl, hfin.out⟩, HB.out⟩
    · intro x c w1 cnt1 hwx hlx hfx hrg1 hlt hg1 hs1 hen
      have hx : p x = some i ∧ c = .agg #[] := by
        unfold rf at hfx
        split at hfx
        · rename_i e
          injection hfx with hfx
          exact ⟨e, hfx.symm⟩
        · cases hfx
      obtain ⟨hpx, rfl⟩ := hx
      have hb1 : Below w.heap.size w w1 := HB.out.grown hg1 HB.out.size (by simp)
      have hW1 := HH.out.below hb1 (Nat.le_refl _)
      have hc1 := hW1.c1
      have hdue := hW1.due
      obtain ⟨⟨x2, a⟩, hmem, e⟩ := List.mem_map.1 (HH.out.pk x i hpx).2
      have e2 : x2 = x := e
      subst e2
      have ha : a < 2 ^ 64 := (HH.out.wf _ hmem).2
      have hfd := fd_of HH.out.keys hmem
      obtain ⟨za, hza⟩ : ∃ z : Int, (a : Int) = z := ⟨_, rfl⟩
      have hdf : (df L x2).getD (.int .u64 0) = .int .u64 za := by rw [df_getD, hfd]; simp only [Option.getD_some]; rw [hza]
      have hmin : min z za = ((min m a : Nat) : Int) := by have := HM.out; omega
      obtain ⟨mm, hmm⟩ : ∃ mm, min m a = mm := ⟨_, rfl⟩
      rw [hmm] at hmin
      have hnew : Hid (Lst L p i (fun z => lf z && z != x2) mm) := Lib.hid ⟨by have := hls.out.1; omega, fun k b h1 h2 h3 => by
        rw [Bool.and_eq_false_iff] at h3
        rcases h3 with h3 | h3
        · have := hls.out.2.1 k b h1 h2 h3
          omega
        · have e3 : k = x2 := by simpa using h3
          subst e3
          have := HH.out.keys.one h1 hmem
          omega, by
        rcases Nat.le_total m a with h1 | h1
        · have e3 : mm = m := by omega
          rw [e3]
          exact hls.out.2.2
        · have e3 : mm = a := by omega
          rw [e3]
          exact Or.inr ⟨x2, hmem, hpx⟩⟩
      have HB1 := Lib.hid hb1
      have HR1 := Lib.hid hrg1
      have HL := Lib.hid (show cnt1 < cnt from hlt)
      clear hls hrg hlx hfx hg1 hs1 hW1 hb1 hmem e ha hfd hza hmm hpx hrg1 hlt
      go_wp2_with (at_lookup; refine Mi.wp_look _ rfl _ _ 63 3 22 rfl Try.underlying63 Try.underlying3 (.int .u64 0) (by kernel_rfl) D.d _ _ rfl hdue x2 hwx rfl ?_; rw [hdf])
      exact ⟨⟨mm, _, _, rfl, HR1.out, hnew, HB1.out⟩, by rw [HR1.out.left_eq, HRG.out.left_eq]; exact HL.out⟩
def Nexts (w : World) (L : List T) (e : Ending) (w' : World) : Prop := e = .returned (.tuple #[.int .u64 ((nxt L).getD 0 : Nat), .bool (nxt L).isSome]) ∧ Below w.heap.size w w'
theorem lst_nxt {now : Nat} {L : List T} {i m : Nat} (hk : Ks L) (hn : now < 2 ^ 64) (hw : ∀ x ∈ L, x.2 < 2 ^ 64) (h : Lst L (pq now L) i (fun _ => false) m) (hs : ∃ k, pq now L k = some i) (hlow : ∀ k j, pq now L k = some j → i ≤ j) : nxt L = some m := by
  have pqm : ∀ {k : Int} {a : Nat}, (k, a) ∈ L → pq now L k = some (q now a) := fun {k a} hm => by unfold pq; rw [fd_of hk hm]; rfl
  obtain ⟨k0, hk0⟩ := hs
  obtain ⟨a0, hf0, e0⟩ : ∃ a0, fd L k0 = some a0 ∧ q now a0 = i := by
    unfold pq at hk0
    cases hf : fd L k0 with
    | none => rw [hf] at hk0; cases hk0
    | some a => rw [hf] at hk0; exact ⟨a, rfl, by injection hk0⟩
  have hm0 := fd_some hf0
  have hle0 := h.2.1 k0 a0 hm0 hk0 rfl
  have hin : ∃ k, (k, m) ∈ L ∧ pq now L k = some i := by
    rcases h.2.2 with e | e
    · have := hw _ hm0
      simp only at this
      have e2 : a0 = m := by omega
      rw [← e2]
      exact ⟨k0, hm0, hk0⟩
    · exact e
  obtain ⟨k1, hm1, hk1⟩ := hin
  refine nxt_of ⟨_, hm1, rfl⟩ (fun x hx => ?_)
  obtain ⟨k, a⟩ := x
  have hpa := pqm hx
  have hge := hlow k _ hpa
  rcases Nat.lt_or_ge i (q now a) with hc | hc
  · have e1 := pqm hm1
    rw [hk1] at e1
    injection e1 with e1
    have := q_order hn (h.1) (hw _ hx) (show q now m < q now a by omega)
    simp only
    omega
  · have e1 : q now a = i := by omega
    rw [e1] at hpa
    exact h.2.1 k a hx hpa rfl
theorem next_nil (w : World) : Calls Try.prog 29 #[.pointer none] w fun e w' => e = .returned (.tuple #[.int .u64 0, .bool false]) ∧ w' = w := by
  go_enter Try.func29, Try.ntmps29
  go_wp2
  go_ret2
  exact ⟨rfl, rfl⟩
set_option maxHeartbeats 1000000 in
theorem next_any {w : World} {D : Wd} {now : Nat} {L : List T} (h : Wheel w D now L) :
    Calls Try.prog 29 #[.pointer (some ⟨D.b, 0, none⟩)] w (Nexts w L) := by
  have HH := Lib.hid h
  clear h
  go_enter Try.func29, Try.ntmps29
  go_wp2
  go_loopw [9] (fun v wr => ∃ l : Nat, v = .int .i64 l ∧ l ≤ 16 ∧ Hid (∀ k j, pq now L k = some j → 16 * l ≤ j) ∧ w = wr) (fun v _ => 16 - (intOf v).toNat)
  case atStart => exact ⟨0, rfl, Nat.zero_le _, Lib.hid (fun _ _ _ => by omega), rfl⟩
  case round =>
    obtain ⟨l, rfl, hl, hlow, rfl⟩ := hrel
    by_cases hlt : l < 16
    · have hltz : (l : Int) < 16 := by omega
      go_wp2
      go_loopw [12] (fun v wr => ∃ s : Nat, v = .int .i64 s ∧ s ≤ 16 ∧ Hid (∀ k j, pq now L k = some j → 16 * l + s ≤ j) ∧ w = wr) (fun v _ => 16 - (intOf v).toNat)
      case atStart => exact ⟨0, rfl, Nat.zero_le _, hlow, rfl⟩
      case round =>
        obtain ⟨s, rfl, hs, hlow2, rfl⟩ := hrel
        by_cases hlt2 : s < 16
        · have hltz2 : (s : Int) < 16 := by omega
          have hcell := HH.out.cell rfl hlt hlt2
          cases hr : D.row (16 * l + s) with
          | none =>
            rw [hr] at hcell
            have hb := HH.out.bare _ (by omega) hr
            have hn : Hid (∀ k j, pq now L k = some j → 16 * l + (s + 1) ≤ j) := Lib.hid (fun k j e => by
              have h1 := hlow2.out k j e
              have h2 : j ≠ 16 * l + s := fun e2 => hb k (by rw [e, e2])
              omega)
            clear hr hb
            go_wp2_with (at_len; refine Mi.wp_len_nil _ rfl _ 64 3 80 rfl Try.underlying64 rfl ?_)
            go_roundw
            case rel => exact ⟨s + 1, by go_num, hlt2, hn, trivial⟩
            case measure => simp [intOf]; omega
          | some r =>
            rw [hr] at hcell
            obtain ⟨N, hrow⟩ := HH.out.rows _ (by omega) r hr
            have hle := Lib.hid (least_any HH.out (by omega) hr)
            rcases Nat.eq_zero_or_pos N with h0 | h0
            · subst h0
              have hn : Hid (∀ k j, pq now L k = some j → 16 * l + (s + 1) ≤ j) := Lib.hid (fun k j e => by
                have h1 := hlow2.out k j e
                have h2 : j ≠ 16 * l + s := fun e2 => by
                  have h3 := hrow.zero k
                  unfold rf at h3
                  rw [if_pos (by rw [e, e2])] at h3
                  cases h3
                omega)
              clear hr hle
              go_wp2_with (at_len; refine Mi.wp_len _ rfl _ 64 3 80 rfl Try.underlying64 r 0 _ rfl hrow ?_)
              go_roundw
              case rel => exact ⟨s + 1, by go_num, hlt2, hn, trivial⟩
              case measure => simp [intOf]; omega
            · have hex : Hid (∃ k, pq now L k = some (16 * l + s)) := Lib.hid (by
                obtain ⟨k, hk⟩ := hrow.pos Try.underlying3 h0
                refine ⟨k, ?_⟩
                unfold rf at hk
                split at hk
                · assumption
                · cases hk)
              clear hr
              go_wp2_with (first
                | (at_len; refine Mi.wp_len _ rfl _ 64 3 80 rfl Try.underlying64 r N _ rfl hrow ?_)
                | (go_at_call 39; refine hle.out.mono ?_))
              rintro e w1 ⟨⟨m, rfl, hm⟩, hb⟩
              have HM := Lib.hid hm
              clear hm
              go_wp2
              go_ret2
              have hnx := lst_nxt HH.out.keys HH.out.now_lt (fun x hx => (HH.out.wf x hx).2) HM.out hex.out hlow2.out
              refine ⟨?_, hb⟩
              rw [hnx]
              rfl
        · have e1 : s = 16 := by omega
          subst e1
          have hn : Hid (∀ k j, pq now L k = some j → 16 * (l + 1) ≤ j) := Lib.hid (fun k j e => by have := hlow2.out k j e; omega)
          go_wp2
          exact ⟨⟨l + 1, rfl, hlt, hn, trivial⟩, by simp [intOf]; omega⟩
    · have e1 : l = 16 := by omega
      subst e1
      have hnil : Hid (nxt L = none) := Lib.hid (by
        rw [nxt_none]
        cases hL : L with
        | nil => rfl
        | cons x l =>
          exfalso
          have hm : x ∈ L := by rw [hL]; exact List.mem_cons_self
          have h1 : pq now L x.1 = some (q now x.2) := by unfold pq; rw [fd_of HH.out.keys hm]; rfl
          have h2 := hlow.out _ _ h1
          have h3 := (HH.out.pk _ _ h1).1
          omega)
      go_wp2
      go_ret2
      refine ⟨?_, Below.refl _ _⟩
      rw [hnil.out]
      rfl
  all_goals (simp [intOf]; omega)
end Go.Proofs.Ytlhajdmleefkiaa
