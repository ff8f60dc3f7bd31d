/-
  CONTRACTS OF LAYER 1 (octet), part Q: the page's Reader; a Reader that is nil.
-/
import Derived.Test.YtkfcjlemneieiaaOctetR
namespace Go.Proofs.Ytkfcjlemneieiaa
open Go.RowKit Bt
set_option linter.unusedVariables false

set_option maxHeartbeats 400000 in
theorem took_rd (b : Nat) (s : ByteArray) (n f : Nat) (w : World) (h : Rd 52 b s 0 w) (hn : n ≤ s.size) (hs : s.size ≤ 9223372036854775807) :
    Calls Try.prog 41 #[.pointer (some ⟨b, 0, none⟩), .int .i64 n, .int .i64 f] w fun r w' => r = .returned (.tuple #[]) ∧ Rd 52 b (tk s n f) f w' ∧ w.grownBy w' (some b) := by
  have c0 := h.c0
  have c1 := h.c1
  have f0 := h.fz 0
  have f1 := h.fz 1
  have H := Lib.hid h
  clear h
  by_cases hf : f = 0
  · subst hf
    go_enter Try.func41, Try.ntmps41
    go_wp2
    go_end0
    exact ⟨rfl, H.out.set0 _, grown_set (World.grownBy.refl _ _) _⟩
  · have hE : ((f : Int) != 0) = true := by rw [bne_iff_ne]; omega
    have ht := Lib.hid (show tk s n f = s by simp [tk, hf])
    clear hf
    go_enter Try.func41, Try.ntmps41
    go_wp2
    refine bodyPost_ret (results_none rfl _ _ _) rfl ?_
    refine ⟨rfl, ?_, grown_set (World.grownBy.refl _ _) _⟩
    rw [ht.out]
    exact H.out.set1 f

set_option maxHeartbeats 400000 in
theorem rend_rd (b : Nat) (s : ByteArray) (e : Nat) (w : World) (h : Rd 52 b s e w) :
    Calls Try.prog 26 #[.pointer (some ⟨b, 0, none⟩)] w fun r w' => r = .returned (.int .i64 (endR s e)) ∧ w = w' := by
  have c0 := h.c0
  have c1 := h.c1
  clear h
  by_cases he : e = 0
  · subst he
    by_cases hs : (!s.toList.isEmpty) = true
    · have hf := Lib.hid (show endR s 0 = 3 by unfold endR; rw [if_neg (by simp), if_pos hs])
      go_enter Try.func26, Try.ntmps26
      go_wp2
      go_ret
      exact ⟨by rw [hf.out]; rfl, rfl⟩
    · have hf := Lib.hid (show endR s 0 = 0 by unfold endR; rw [if_neg (by simp), if_neg hs])
      have hs' : (!s.toList.isEmpty) = false := by simpa using hs
      clear hs
      go_enter Try.func26, Try.ntmps26
      go_wp2
      go_ret
      exact ⟨by rw [hf.out]; rfl, rfl⟩
  · have hf := Lib.hid (show endR s e = e by simp [endR, he])
    have hE : ((e : Int) != 0) = true := by rw [bne_iff_ne]; omega
    clear he
    go_enter Try.func26, Try.ntmps26
    go_wp2
    go_ret
    exact ⟨by rw [hf.out]; rfl, rfl⟩

set_option maxHeartbeats 400000 in
theorem rnum_rd (b : Nat) (s : ByteArray) (e : Nat) (w : World) (h : Rd 52 b s e w) (hs : s.size ≤ 9223372036854775807) {v n f : Nat} (hc : chainR s e = (v, n, f)) :
    Calls Try.prog 34 #[.pointer (some ⟨b, 0, none⟩)] w fun r w' => r = .returned (.int .u64 (vz f v)) ∧ Rd 52 b (tk s n f) f w' ∧ w.grownBy w' (some b) := by
  have hbd := chainR_bd s e
  rw [hc] at hbd
  simp only at hbd
  obtain ⟨hb1, hb2⟩ := hbd
  have c0 := h.c0
  have c1 := h.c1
  by_cases he : e = 0
  · subst he
    have D := Lib.hid (took_rd b s n f w h hb2 hs)
    have hu := runchain_any s w hs
    simp only [chainR, ne_eq, not_true_eq_false, if_false] at hc
    have hz := unch_err (l := s.data.toList)
    rw [hc] at hu hz
    simp only at hz
    have HV := Lib.hid (show vz f v = v by unfold vz; split; rfl; rename_i hh; exact (hz hh).1.symm)
    have HU := Lib.hid hu
    clear hu hc h hz
    go_enter Try.func34, Try.ntmps34
    go_wp2_with fail
    refine HU.out.mono ?_
    rintro r w' ⟨rfl, rfl⟩
    go_wp2_with fail
    refine D.out.mono ?_
    rintro r w' ⟨rfl, hr, hg⟩
    have HR := Lib.hid hr
    clear hr
    go_wp2_with fail
    go_ret
    exact ⟨by rw [HV.out]; rfl, HR.out, hg⟩
  · have hE : ((e : Int) != 0) = true := by rw [bne_iff_ne]; omega
    simp only [chainR, ne_eq, he, not_false_eq_true, if_true, Prod.mk.injEq] at hc
    obtain ⟨rfl, rfl, rfl⟩ := hc
    have ht := Lib.hid (show tk s 0 e = s by simp [tk, he])
    have HV := Lib.hid (show vz e 0 = 0 by unfold vz; split <;> rfl)
    have H := Lib.hid h
    clear he h
    go_enter Try.func34, Try.ntmps34
    go_wp2_with fail
    go_ret
    exact ⟨by rw [HV.out]; rfl, by rw [ht.out]; exact H.out, World.grownBy.refl _ _⟩

set_option maxHeartbeats 400000 in
theorem rint_rd (b : Nat) (s : ByteArray) (e : Nat) (most : Int) (w : World) (h : Rd 52 b s e w) (hs : s.size ≤ 9223372036854775807) (hm : most ≤ 9223372036854775807) {v n f : Nat} (hc : chainR s e = (v, n, f)) :
    Calls Try.prog 35 #[.pointer (some ⟨b, 0, none⟩), .int .i64 most] w fun r w' => r = .returned (.int .i64 (vz (fi f v most) v)) ∧ Rd 52 b (tk s n (fi f v most)) (fi f v most) w' ∧ w.grownBy w' (some b) := by
  have hbd := chainR_bd s e
  rw [hc] at hbd
  simp only at hbd
  obtain ⟨hb1, hb2⟩ := hbd
  have c0 := h.c0
  have c1 := h.c1
  by_cases he : e = 0
  · subst he
    have D := Lib.hid (fun f => took_rd b s n f w h hb2 hs)
    have hu := runchain_any s w hs
    simp only [chainR, ne_eq, not_true_eq_false, if_false] at hc
    have hz := unch_err (l := s.data.toList)
    rw [hc] at hu hz
    simp only at hz
    have HU := Lib.hid hu
    have HZ := Lib.hid hz
    clear hu hc h hz
    by_cases hf : f = 0
    · subst hf
      by_cases hm0 : most < 0
      · have hfi := Lib.hid (show fi 0 v most = 4 by unfold fi; rw [if_pos ⟨rfl, by simp [abv, hm0]⟩])
        have HV := Lib.hid (show vz (fi 0 v most) v = 0 by rw [hfi.out]; rfl)
        have D' := Lib.hid (D.out 4)
        clear D
        go_enter Try.func35, Try.ntmps35
        go_wp2_with fail
        refine HU.out.mono ?_
        rintro r w' ⟨rfl, rfl⟩
        go_wp2_with fail
        refine D'.out.mono ?_
        rintro r w' ⟨rfl, hr, hg⟩
        have HR := Lib.hid hr
        clear hr
        go_wp2_with fail
        go_ret
        exact ⟨by rw [HV.out]; rfl, by rw [hfi.out]; exact HR.out, hg⟩
      · by_cases hmv : most < (v : Int)
        · have hfi := Lib.hid (show fi 0 v most = 4 by unfold fi; rw [if_pos ⟨rfl, by simp [abv, hmv]⟩])
          have HV := Lib.hid (show vz (fi 0 v most) v = 0 by rw [hfi.out]; rfl)
          have D' := Lib.hid (D.out 4)
          clear D
          go_enter Try.func35, Try.ntmps35
          go_wp2_with fail
          refine HU.out.mono ?_
          rintro r w' ⟨rfl, rfl⟩
          go_wp2_with fail
          refine D'.out.mono ?_
          rintro r w' ⟨rfl, hr, hg⟩
          have HR := Lib.hid hr
          clear hr
          go_wp2_with fail
          go_ret
          exact ⟨by rw [HV.out]; rfl, by rw [hfi.out]; exact HR.out, hg⟩
        · have hfi := Lib.hid (show fi 0 v most = 0 by unfold fi; rw [if_neg (by simp [abv]; omega)])
          have HV := Lib.hid (show vz (fi 0 v most) v = v by rw [hfi.out]; rfl)
          have D' := Lib.hid (D.out 0)
          clear D
          go_enter Try.func35, Try.ntmps35
          go_wp2_with fail
          refine HU.out.mono ?_
          rintro r w' ⟨rfl, rfl⟩
          go_wp2_with fail
          refine D'.out.mono ?_
          rintro r w' ⟨rfl, hr, hg⟩
          have HR := Lib.hid hr
          clear hr
          go_wp2_with fail
          go_ret
          exact ⟨by rw [HV.out]; rfl, by rw [hfi.out]; exact HR.out, hg⟩
    · have hE' : ((f : Int) == 0) = false := by rw [beq_eq_false_iff_ne]; omega
      have hfi := Lib.hid (show fi f v most = f by unfold fi; rw [if_neg (fun h => hf h.1)])
      have hv0 : v = 0 := (HZ.out hf).1
      subst hv0
      have HV := Lib.hid (show vz (fi f 0 most) 0 = 0 by unfold vz; split <;> rfl)
      have D' := Lib.hid (D.out f)
      clear D hf
      go_enter Try.func35, Try.ntmps35
      go_wp2_with fail
      refine HU.out.mono ?_
      rintro r w' ⟨rfl, rfl⟩
      go_wp2_with fail
      refine D'.out.mono ?_
      rintro r w' ⟨rfl, hr, hg⟩
      have HR := Lib.hid hr
      clear hr
      go_wp2_with fail
      go_ret
      exact ⟨by rw [HV.out]; rfl, by rw [hfi.out]; exact HR.out, hg⟩
  · have hE : ((e : Int) != 0) = true := by rw [bne_iff_ne]; omega
    simp only [chainR, ne_eq, he, not_false_eq_true, if_true, Prod.mk.injEq] at hc
    obtain ⟨rfl, rfl, rfl⟩ := hc
    have hfi := Lib.hid (show fi e 0 most = e by unfold fi; rw [if_neg (fun h => he h.1)])
    have ht := Lib.hid (show tk s 0 e = s by simp [tk, he])
    have HV := Lib.hid (show vz (fi e 0 most) 0 = 0 by unfold vz; split <;> rfl)
    have H := Lib.hid h
    clear he h
    go_enter Try.func35, Try.ntmps35
    go_wp2_with fail
    go_ret
    exact ⟨by rw [HV.out]; rfl, by rw [hfi.out, ht.out]; exact H.out, World.grownBy.refl _ _⟩

set_option maxHeartbeats 400000 in
theorem rflag_rd (b : Nat) (s : ByteArray) (e : Nat) (w : World) (h : Rd 52 b s e w) (hs : s.size ≤ 9223372036854775807) {v n f : Nat} (hc : chainR s e = (v, n, f)) :
    Calls Try.prog 37 #[.pointer (some ⟨b, 0, none⟩)] w fun r w' => r = .returned (.bool (vb (ff f v) v)) ∧ Rd 52 b (tk s n (ff f v)) (ff f v) w' ∧ w.grownBy w' (some b) := by
  have hbd := chainR_bd s e
  rw [hc] at hbd
  simp only at hbd
  obtain ⟨hb1, hb2⟩ := hbd
  have c0 := h.c0
  have c1 := h.c1
  by_cases he : e = 0
  · subst he
    have D := Lib.hid (fun f => took_rd b s n f w h hb2 hs)
    have hu := runchain_any s w hs
    simp only [chainR, ne_eq, not_true_eq_false, if_false] at hc
    rw [hc] at hu
    have HU := Lib.hid hu
    clear hu hc h
    by_cases hf : f = 0
    · subst hf
      by_cases ha : 1 < v
      · have hfi := Lib.hid (show ff 0 v = 3 by unfold ff; rw [if_pos ⟨rfl, ha⟩])
        have HV := Lib.hid (show vb (ff 0 v) v = false by rw [hfi.out]; simp [vb])
        have D' := Lib.hid (D.out 3)
        clear D
        go_enter Try.func37, Try.ntmps37
        go_wp2_with fail
        refine HU.out.mono ?_
        rintro r w' ⟨rfl, rfl⟩
        go_wp2_with fail
        refine D'.out.mono ?_
        rintro r w' ⟨rfl, hr, hg⟩
        have HR := Lib.hid hr
        clear hr
        go_wp2_with fail
        go_ret
        exact ⟨by rw [HV.out]; rfl, by rw [hfi.out]; exact HR.out, hg⟩
      · have hfi := Lib.hid (show ff 0 v = 0 by unfold ff; rw [if_neg (by omega)])
        have HV := Lib.hid (show vb (ff 0 v) v = ((v : Int) == 1) by
          rw [hfi.out, Bool.eq_iff_iff]
          simp [vb]
          omega)
        have D' := Lib.hid (D.out 0)
        clear D
        go_enter Try.func37, Try.ntmps37
        go_wp2_with fail
        refine HU.out.mono ?_
        rintro r w' ⟨rfl, rfl⟩
        go_wp2_with fail
        refine D'.out.mono ?_
        rintro r w' ⟨rfl, hr, hg⟩
        have HR := Lib.hid hr
        clear hr
        go_wp2_with fail
        go_ret
        exact ⟨by rw [HV.out]; rfl, by rw [hfi.out]; exact HR.out, hg⟩
    · have hE' : ((f : Int) == 0) = false := by rw [beq_eq_false_iff_ne]; omega
      have hfi := Lib.hid (show ff f v = f by unfold ff; rw [if_neg (fun h => hf h.1)])
      have HV := Lib.hid (show vb (ff f v) v = false by rw [hfi.out]; simp [vb, hf])
      have D' := Lib.hid (D.out f)
      clear D hf
      go_enter Try.func37, Try.ntmps37
      go_wp2_with fail
      refine HU.out.mono ?_
      rintro r w' ⟨rfl, rfl⟩
      go_wp2_with fail
      refine D'.out.mono ?_
      rintro r w' ⟨rfl, hr, hg⟩
      have HR := Lib.hid hr
      clear hr
      go_wp2_with fail
      go_ret
      exact ⟨by rw [HV.out]; rfl, by rw [hfi.out]; exact HR.out, hg⟩
  · have hE : ((e : Int) != 0) = true := by rw [bne_iff_ne]; omega
    simp only [chainR, ne_eq, he, not_false_eq_true, if_true, Prod.mk.injEq] at hc
    obtain ⟨rfl, rfl, rfl⟩ := hc
    have hfi := Lib.hid (show ff e 0 = e by unfold ff; rw [if_neg (fun h => he h.1)])
    have ht := Lib.hid (show tk s 0 e = s by simp [tk, he])
    have HV := Lib.hid (show vb (ff e 0) 0 = false by simp [vb])
    have H := Lib.hid h
    clear he h
    go_enter Try.func37, Try.ntmps37
    go_wp2_with fail
    go_ret
    exact ⟨by rw [HV.out]; rfl, by rw [hfi.out, ht.out]; exact H.out, World.grownBy.refl _ _⟩

theorem untx_err0 {l : List UInt8} {most : Int} (h : (untx l most).2.2 ≠ 0) : (untx l most).1 = [] := by
  revert h
  unfold untx
  repeat' split
  all_goals simp
set_option maxHeartbeats 400000 in
theorem rstr_rd (b : Nat) (s : ByteArray) (e : Nat) (most : Int) (w : World) (h : Rd 52 b s e w) (hs : s.size ≤ 9223372036854775807) (hm : most ≤ 9223372036854775807) {l : List UInt8} {n f : Nat} (hc : textR s e most = (l, n, f)) :
    Calls Try.prog 36 #[.pointer (some ⟨b, 0, none⟩), .int .i64 most] w fun r w' => r = .returned (.string ⟨(vt f l).toArray⟩) ∧ Rd 52 b (tk s n f) f w' ∧ w.grownBy w' (some b) := by
  have hbd := textR_bd s e most
  rw [hc] at hbd
  simp only at hbd
  have c0 := h.c0
  have c1 := h.c1
  by_cases he : e = 0
  · subst he
    have D := Lib.hid (took_rd b s n f w h hbd hs)
    have hu := runtext_any s most w hs hm
    simp only [textR, ne_eq, not_true_eq_false, if_false] at hc
    have hz := untx_err0 (l := s.data.toList) (most := most)
    rw [hc] at hu hz
    simp only at hz
    have HV := Lib.hid (show vt f l = l by unfold vt; split; rfl; rename_i hh; exact (hz hh).symm)
    have HU := Lib.hid hu
    clear hu hc h hz
    go_enter Try.func36, Try.ntmps36
    go_wp2_with fail
    refine HU.out.mono ?_
    rintro r w' ⟨rfl, rfl⟩
    go_wp2_with fail
    refine D.out.mono ?_
    rintro r w' ⟨rfl, hr, hg⟩
    have HR := Lib.hid hr
    clear hr
    go_wp2_with fail
    go_ret
    exact ⟨by rw [HV.out]; rfl, HR.out, hg⟩
  · have hE : ((e : Int) != 0) = true := by rw [bne_iff_ne]; omega
    simp only [textR, ne_eq, he, not_false_eq_true, if_true, Prod.mk.injEq] at hc
    obtain ⟨rfl, rfl, rfl⟩ := hc
    have hv := Lib.hid (show vt e [] = [] by unfold vt; split <;> rfl)
    have ht := Lib.hid (show tk s 0 e = s by simp [tk, he])
    have H := Lib.hid h
    clear he h
    go_enter Try.func36, Try.ntmps36
    go_wp2_with fail
    go_ret
    exact ⟨by rw [hv.out]; rfl, by rw [ht.out]; exact H.out, World.grownBy.refl _ _⟩

/-! ### of nil -/
set_option maxHeartbeats 400000 in
theorem end_nil (w : World) : Calls Try.prog 25 #[.pointer none] w fun r w' => r = .returned (.int .i64 1) ∧ w = w' := by
  go_enter Try.func25, Try.ntmps25
  go_wp2
  go_ret
  exact ⟨rfl, rfl⟩
set_option maxHeartbeats 400000 in
theorem chain_nil (w : World) : Calls Try.prog 38 #[.pointer none] w fun r w' => r = .returned (.tuple #[.int .u64 0, .int .i64 0, .int .i64 1]) ∧ w = w' := by
  go_enter Try.func38, Try.ntmps38
  go_wp2
  go_ret3
  exact ⟨rfl, rfl⟩
set_option maxHeartbeats 400000 in
theorem take_nil (n f : Int) (w : World) : Calls Try.prog 39 #[.pointer none, .int .i64 n, .int .i64 f] w fun r w' => r = .returned (.bool false) ∧ w = w' := by
  go_enter Try.func39, Try.ntmps39
  go_wp2
  go_ret
  exact ⟨rfl, rfl⟩
set_option maxHeartbeats 400000 in
theorem num_nil (w : World) : Calls Try.prog 27 #[.pointer none] w fun r w' => r = .returned (.int .u64 0) ∧ w = w' := by
  go_enter Try.func27, Try.ntmps27
  go_wp2_with (first
    | (go_at_call 38; refine (chain_nil _).mono ?_; rintro r w' ⟨rfl, rfl⟩)
    | (go_at_call 39; refine (take_nil _ _ _).mono ?_; rintro r w' ⟨rfl, rfl⟩))
  go_ret
  exact ⟨rfl, rfl⟩
set_option maxHeartbeats 400000 in
theorem int_nil (most : Int) (w : World) : Calls Try.prog 28 #[.pointer none, .int .i64 most] w fun r w' => r = .returned (.int .i64 0) ∧ w = w' := by
  go_enter Try.func28, Try.ntmps28
  go_wp2_with (first
    | (go_at_call 38; refine (chain_nil _).mono ?_; rintro r w' ⟨rfl, rfl⟩)
    | (go_at_call 39; refine (take_nil _ _ _).mono ?_; rintro r w' ⟨rfl, rfl⟩))
  go_ret
  exact ⟨rfl, rfl⟩
set_option maxHeartbeats 400000 in
theorem flag_nil (w : World) : Calls Try.prog 30 #[.pointer none] w fun r w' => r = .returned (.bool false) ∧ w = w' := by
  go_enter Try.func30, Try.ntmps30
  go_wp2_with (first
    | (go_at_call 38; refine (chain_nil _).mono ?_; rintro r w' ⟨rfl, rfl⟩)
    | (go_at_call 39; refine (take_nil _ _ _).mono ?_; rintro r w' ⟨rfl, rfl⟩))
  go_ret
  exact ⟨rfl, rfl⟩
set_option maxHeartbeats 400000 in
theorem str_nil (most : Int) (w : World) : Calls Try.prog 29 #[.pointer none, .int .i64 most] w fun r w' => r = .returned (.string ⟨#[]⟩) ∧ w = w' := by
  go_enter Try.func29, Try.ntmps29
  go_wp2_with (first
    | (go_at_call 23; refine (err_nil _).mono ?_; rintro r w' ⟨rfl, rfl⟩))
  go_ret
  exact ⟨rfl, rfl⟩

set_option maxHeartbeats 400000 in
theorem new_rd (s : ByteArray) (w : World) : Calls Try.prog 21 #[.string s] w fun r w' => r = .returned (.pointer (some ⟨w.heap.size, 0, none⟩)) ∧ Rd 74 w.heap.size s 0 w' ∧ Below w.heap.size w w' ∧ w'.heap.size = w.heap.size + 1 := by
  go_enter Try.func21, Try.ntmps21
  go_wp2
  go_ret
  exact ⟨rfl, heap_alloc_new w _, (Below.refl _ _).alloc (Nat.le_refl _) _, by simp⟩
end Go.Proofs.Ytkfcjlemneieiaa
