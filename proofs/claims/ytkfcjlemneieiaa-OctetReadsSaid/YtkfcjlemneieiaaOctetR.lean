/-
  CONTRACTS OF LAYER 1 (octet), part R: a Reader, of the program and of the page.
-/
import Derived.Test.YtkfcjlemneieiaaOctetE
namespace Go.Proofs.Ytkfcjlemneieiaa
open Go.RowKit Bt
set_option linter.unusedVariables false

/-- a reader in block b: what is left, and the error -/
def Rd (T : TypeId) (b : Nat) (s : ByteArray) (e : Nat) (w : World) : Prop := w.heap[b]? = some (.cells #[.string s, .int .i64 (e : Int)] T (0, 0))
theorem Rd.c0 {T : TypeId} {b : Nat} {s : ByteArray} {e : Nat} {w : World} (h : Rd T b s e w) : w.cell? ⟨b, 0, none⟩ = some (.string s) := by
  unfold Rd at h
  simp [World.cell?, h]
theorem Rd.c1 {T : TypeId} {b : Nat} {s : ByteArray} {e : Nat} {w : World} (h : Rd T b s e w) : w.cell? ⟨b, 1, none⟩ = some (.int .i64 (e : Int)) := by
  unfold Rd at h
  simp [World.cell?, h]
theorem Rd.fz {T : TypeId} {b : Nat} {s : ByteArray} {e : Nat} {w : World} (h : Rd T b s e w) (j : Nat) : w.frozen? ⟨b, j, none⟩ = false := by
  unfold Rd at h
  simp [World.frozen?, h]
theorem Rd.lt {T : TypeId} {b : Nat} {s : ByteArray} {e : Nat} {w : World} (h : Rd T b s e w) : b < w.heap.size := World.block_lt_of_cell? w _ h.c0
theorem Rd.set1 {T : TypeId} {b : Nat} {s : ByteArray} {e : Nat} {w : World} (h : Rd T b s e w) (f : Nat) : Rd T b s f (w.setCell ⟨b, 1, none⟩ (.int .i64 (f : Int))) := by
  unfold Rd at *
  simp [World.setCell, Array.getElem?_modify, h]
theorem Rd.set0 {T : TypeId} {b : Nat} {s : ByteArray} {e : Nat} {w : World} (h : Rd T b s e w) (t : ByteArray) : Rd T b t e (w.setCell ⟨b, 0, none⟩ (.string t)) := by
  unfold Rd at *
  simp [World.setCell, Array.getElem?_modify, h]
theorem Rd.kept {T : TypeId} {b c : Nat} {s : ByteArray} {e : Nat} {w w' : World} (h : Rd T b s e w) (hg : w.grownBy w' (some c)) (hne : b ≠ c) : Rd T b s e w' := by
  unfold Rd at *
  rw [hg.block b (Rd.lt (T := T) (s := s) (e := e) h) (by simpa using hne)]
  exact h
theorem Rd.below {T : TypeId} {b B : Nat} {s : ByteArray} {e : Nat} {w w' : World} (h : Rd T b s e w) (hg : Below B w w') (hlt : b < B) : Rd T b s e w' := by
  unfold Rd at *
  rw [hg.block b hlt]
  exact h
theorem grown_set {w a : World} {b j : Nat} (h : w.grownBy a (some b)) (v : Value) : w.grownBy (a.setCell ⟨b, j, none⟩ v) (some b) :=
  ⟨h.os, h.tape, h.output, by simpa [World.setCell] using h.size, fun k hk hne => (Below.heap_setCell _ _ _ _ (fun e => hne (by rw [e]))).trans (h.block k hk hne)⟩
theorem grown_below {w a : World} {b B : Nat} (h : w.grownBy a (some b)) (hB : B ≤ b) (hw : B ≤ w.heap.size) : Below B w a :=
  ⟨h.os, h.tape, h.output, h.size, fun k hk => h.block k (by omega) (by simp; omega)⟩

/-- what is read next: a chain -/
def chainR (s : ByteArray) (e : Nat) : Nat × Nat × Nat := if e ≠ 0 then (0, 0, e) else unch s.data.toList
/-- .. and what is left behind it -/
def tk (s : ByteArray) (n f : Nat) : ByteArray := if f = 0 then s.extract n s.size else s
theorem chainR_bd (s : ByteArray) (e : Nat) : (chainR s e).1 < 18446744073709551616 ∧ (chainR s e).2.1 ≤ s.size := by
  unfold chainR
  split
  · simp
  · have := unch_bd s.data.toList
    rw [ba_len] at this
    exact ⟨this.1, this.2.1⟩
theorem tk_size (s : ByteArray) (n f : Nat) : (tk s n f).size ≤ s.size := by
  unfold tk
  split
  · simp [ByteArray.size_extract]
  · omega

set_option maxHeartbeats 400000 in
theorem err_rd (b : Nat) (s : ByteArray) (e : Nat) (w : World) (h : Rd 74 b s e w) :
    Calls Try.prog 23 #[.pointer (some ⟨b, 0, none⟩)] w fun r w' => r = .returned (.int .i64 e) ∧ w = w' := by
  have c1 := h.c1
  clear h
  go_enter Try.func23, Try.ntmps23
  go_wp2
  go_ret
  exact ⟨rfl, rfl⟩
set_option maxHeartbeats 400000 in
theorem rest_rd (b : Nat) (s : ByteArray) (e : Nat) (w : World) (h : Rd 74 b s e w) :
    Calls Try.prog 24 #[.pointer (some ⟨b, 0, none⟩)] w fun r w' => r = .returned (.string s) ∧ w = w' := by
  have c0 := h.c0
  clear h
  go_enter Try.func24, Try.ntmps24
  go_wp2
  go_ret
  exact ⟨rfl, rfl⟩
set_option maxHeartbeats 400000 in
theorem err_nil (w : World) : Calls Try.prog 23 #[.pointer none] w fun r w' => r = .returned (.int .i64 1) ∧ w = w' := by
  go_enter Try.func23, Try.ntmps23
  go_wp2
  go_ret
  exact ⟨rfl, rfl⟩
set_option maxHeartbeats 400000 in
theorem rest_nil (w : World) : Calls Try.prog 24 #[.pointer none] w fun r w' => r = .returned (.string ⟨#[]⟩) ∧ w = w' := by
  go_enter Try.func24, Try.ntmps24
  go_wp2
  go_ret
  exact ⟨rfl, rfl⟩
theorem ret_i64 {a b : Int} (h : a = b) : Ending.returned (.int .i64 a) = .returned (.int .i64 b) := by rw [h]
theorem ret_u64 {a b : Int} (h : a = b) : Ending.returned (.int .u64 a) = .returned (.int .u64 b) := by rw [h]
/-- what End tells -/
def endR (s : ByteArray) (e : Nat) : Nat := if e ≠ 0 then e else if (!s.toList.isEmpty) = true then 3 else 0
set_option maxHeartbeats 400000 in
theorem end_rd (b : Nat) (s : ByteArray) (e : Nat) (w : World) (h : Rd 74 b s e w) :
    Calls Try.prog 25 #[.pointer (some ⟨b, 0, none⟩)] w fun r w' => r = .returned (.int .i64 (endR s e)) ∧ w = w' := by
  have c0 := h.c0
  have H := Lib.hid h
  clear h
  by_cases he : e = 0
  · subst he
    by_cases hs : (!s.toList.isEmpty) = true
    · have hf := Lib.hid (show endR s 0 = 3 by unfold endR; rw [if_neg (by simp), if_pos hs])
      go_enter Try.func25, Try.ntmps25
      go_wp2_with (go_at_call 23; refine (err_rd _ _ _ _ H.out).mono ?_; rintro r w' ⟨rfl, rfl⟩)
      go_ret
      exact ⟨by rw [hf.out]; rfl, rfl⟩
    · have hf := Lib.hid (show endR s 0 = 0 by unfold endR; rw [if_neg (by simp), if_neg hs])
      have hs' : (!s.toList.isEmpty) = false := by simpa using hs
      clear hs
      go_enter Try.func25, Try.ntmps25
      go_wp2_with (go_at_call 23; refine (err_rd _ _ _ _ H.out).mono ?_; rintro r w' ⟨rfl, rfl⟩)
      go_ret
      exact ⟨by rw [hf.out]; rfl, rfl⟩
  · have hf := Lib.hid (show endR s e = e by simp [endR, he])
    have hE : ((e : Int) != 0) = true := by rw [bne_iff_ne]; omega
    clear he
    go_enter Try.func25, Try.ntmps25
    go_wp2_with (go_at_call 23; refine (err_rd _ _ _ _ H.out).mono ?_; rintro r w' ⟨rfl, rfl⟩)
    go_ret
    exact ⟨by rw [hf.out]; rfl, rfl⟩
set_option maxHeartbeats 400000 in
theorem chain_rd (b : Nat) (s : ByteArray) (e : Nat) (w : World) (h : Rd 74 b s e w) (hs : s.size ≤ 9223372036854775807) {v n f : Nat} (hc : chainR s e = (v, n, f)) :
    Calls Try.prog 38 #[.pointer (some ⟨b, 0, none⟩)] w fun r w' => r = .returned (.tuple #[.int .u64 v, .int .i64 n, .int .i64 f]) ∧ w = w' := by
  have c0 := h.c0
  have H := Lib.hid h
  clear h
  by_cases he : e = 0
  · subst he
    have hu := unchain_any s w hs
    simp only [chainR, ne_eq, not_true_eq_false, if_false] at hc
    rw [hc] at hu
    have HU := Lib.hid hu
    clear hu hc
    go_enter Try.func38, Try.ntmps38
    go_wp2_with (first
      | (go_at_call 23; refine (err_rd _ _ _ _ H.out).mono ?_; rintro r w' ⟨rfl, rfl⟩)
      | (go_at_call 13; refine HU.out.mono ?_; rintro r w' ⟨rfl, rfl⟩))
    go_ret3
    exact ⟨rfl, rfl⟩
  · have hE : ((e : Int) != 0) = true := by rw [bne_iff_ne]; omega
    simp only [chainR, ne_eq, he, not_false_eq_true, if_true, Prod.mk.injEq] at hc
    obtain ⟨rfl, rfl, rfl⟩ := hc
    clear he
    go_enter Try.func38, Try.ntmps38
    go_wp2_with (go_at_call 23; refine (err_rd _ _ _ _ H.out).mono ?_; rintro r w' ⟨rfl, rfl⟩)
    go_ret3
    exact ⟨rfl, rfl⟩
set_option maxHeartbeats 400000 in
theorem take_rd (b : Nat) (s : ByteArray) (e n f : Nat) (w : World) (h : Rd 74 b s e w) (hn : n ≤ s.size) (hs : s.size ≤ 9223372036854775807) :
    Calls Try.prog 39 #[.pointer (some ⟨b, 0, none⟩), .int .i64 n, .int .i64 f] w fun r w' => r = .returned (.bool (f == 0)) ∧ Rd 74 b (tk s n f) f w' ∧ w.grownBy w' (some b) := by
  have c0 := h.c0
  have c1 := h.c1
  have f0 := h.fz 0
  have f1 := h.fz 1
  have H := Lib.hid h
  clear h
  by_cases hf : f = 0
  · subst hf
    go_enter Try.func39, Try.ntmps39
    go_wp2
    go_ret
    exact ⟨rfl, (H.out.set1 0).set0 _, grown_set (grown_set (World.grownBy.refl _ _) _) _⟩
  · have hE : ((f : Int) != 0) = true := by rw [bne_iff_ne]; omega
    have hE2 := Lib.hid (show (f == 0) = false by rw [beq_eq_false_iff_ne]; exact hf)
    have ht := Lib.hid (show tk s n f = s by simp [tk, hf])
    clear hf
    go_enter Try.func39, Try.ntmps39
    go_wp2
    go_ret
    refine ⟨by rw [hE2.out]; rfl, ?_, grown_set (World.grownBy.refl _ _) _⟩
    rw [ht.out]
    exact H.out.set1 f
/-- a value, or 0 beside an error -/
def vz (f v : Nat) : Nat := if f = 0 then v else 0
set_option maxHeartbeats 400000 in
theorem num_rd (b : Nat) (s : ByteArray) (e : Nat) (w : World) (h : Rd 74 b s e w) (hs : s.size ≤ 9223372036854775807) {v n f : Nat} (hc : chainR s e = (v, n, f)) :
    Calls Try.prog 27 #[.pointer (some ⟨b, 0, none⟩)] w fun r w' => r = .returned (.int .u64 (vz f v)) ∧ Rd 74 b (tk s n f) f w' ∧ w.grownBy w' (some b) := by
  have hbd := chainR_bd s e
  rw [hc] at hbd
  simp only at hbd
  obtain ⟨hb1, hb2⟩ := hbd
  have C := Lib.hid (chain_rd b s e w h hs hc)
  have D := Lib.hid (fun w h => take_rd b s e n f w h hb2 hs)
  have H := Lib.hid h
  clear h hc
  by_cases hf : f = 0
  · have hE := Lib.hid (show (f == 0) = true by rw [hf]; rfl)
    have hv := Lib.hid (show vz f v = v by unfold vz; rw [if_pos hf])
    clear hf
    have d := D.out w H.out
    rw [hE.out] at d
    have D' := Lib.hid d
    clear d D
    go_enter Try.func27, Try.ntmps27
    go_wp2_with fail
    refine C.out.mono ?_
    rintro r w' ⟨rfl, rfl⟩
    go_wp2_with fail
    refine D'.out.mono ?_
    rintro r w' ⟨rfl, hr, hg⟩
    have HR := Lib.hid hr
    clear hr
    go_wp2_with fail
    go_ret
    exact ⟨by rw [hv.out]; rfl, HR.out, hg⟩
  · have hE := Lib.hid (show (f == 0) = false by rw [beq_eq_false_iff_ne]; exact hf)
    have hv := Lib.hid (show vz f v = 0 by unfold vz; rw [if_neg hf])
    clear hf
    have d := D.out w H.out
    rw [hE.out] at d
    have D' := Lib.hid d
    clear d D
    go_enter Try.func27, Try.ntmps27
    go_wp2_with fail
    refine C.out.mono ?_
    rintro r w' ⟨rfl, rfl⟩
    go_wp2_with fail
    refine D'.out.mono ?_
    rintro r w' ⟨rfl, hr, hg⟩
    have HR := Lib.hid hr
    clear hr
    go_wp2_with fail
    go_ret
    exact ⟨by rw [hv.out]; rfl, HR.out, hg⟩
/-- the error of an Int, of a Flag -/
def fi (f v : Nat) (most : Int) : Nat := if f = 0 ∧ abv v most = true then 4 else f
def ff (f v : Nat) : Nat := if f = 0 ∧ 1 < v then 3 else f
set_option maxHeartbeats 400000 in
theorem int_rd (b : Nat) (s : ByteArray) (e : Nat) (most : Int) (w : World) (h : Rd 74 b s e w) (hs : s.size ≤ 9223372036854775807) (hm : most ≤ 9223372036854775807) {v n f : Nat} (hc : chainR s e = (v, n, f)) :
    Calls Try.prog 28 #[.pointer (some ⟨b, 0, none⟩), .int .i64 most] w fun r w' => r = .returned (.int .i64 (vz (fi f v most) v)) ∧ Rd 74 b (tk s n (fi f v most)) (fi f v most) w' ∧ w.grownBy w' (some b) := by
  have hbd := chainR_bd s e
  rw [hc] at hbd
  simp only at hbd
  obtain ⟨hb1, hb2⟩ := hbd
  have C := Lib.hid (chain_rd b s e w h hs hc)
  have D := Lib.hid (fun f w h => take_rd b s e n f w h hb2 hs)
  have A := Lib.hid (fun w => above_any v most w hm)
  have H := Lib.hid h
  clear h hc
  by_cases hf : f = 0
  · subst hf
    by_cases ha : abv v most = true
    · have hfi := Lib.hid (show fi 0 v most = 4 by unfold fi; rw [if_pos ⟨rfl, ha⟩])
      have a := A.out
      rw [ha] at a
      have A' := Lib.hid a
      have hv := Lib.hid (show vz (fi 0 v most) v = 0 by rw [hfi.out]; rfl)
      have d := D.out 4 w H.out
      have D' := Lib.hid d
      clear a d D A ha
      go_enter Try.func28, Try.ntmps28
      go_wp2_with fail
      refine C.out.mono ?_
      rintro r w' ⟨rfl, rfl⟩
      go_wp2_with fail
      refine (A'.out _).mono ?_
      rintro r w' ⟨rfl, rfl⟩
      go_wp2_with fail
      refine D'.out.mono ?_
      rintro r w' ⟨rfl, hr, hg⟩
      have HR := Lib.hid hr
      clear hr
      go_wp2_with fail
      go_ret
      refine ⟨by rw [hv.out]; rfl, ?_, hg⟩
      rw [hfi.out]
      exact HR.out
    · have ha' : abv v most = false := by simpa using ha
      have hfi := Lib.hid (show fi 0 v most = 0 by unfold fi; rw [if_neg (by simp [ha'])])
      have hle : (v : Int) ≤ 9223372036854775807 := by
        unfold abv at ha
        simp at ha
        omega
      have a := A.out
      rw [ha'] at a
      have A' := Lib.hid a
      have hv := Lib.hid (show vz (fi 0 v most) v = v by rw [hfi.out]; rfl)
      have d := D.out 0 w H.out
      have D' := Lib.hid d
      clear a d D A ha ha'
      go_enter Try.func28, Try.ntmps28
      go_wp2_with fail
      refine C.out.mono ?_
      rintro r w' ⟨rfl, rfl⟩
      go_wp2_with fail
      refine (A'.out _).mono ?_
      rintro r w' ⟨rfl, rfl⟩
      go_wp2_with fail
      refine D'.out.mono ?_
      rintro r w' ⟨rfl, hr, hg⟩
      have HR := Lib.hid hr
      clear hr
      go_wp2_with fail
      go_ret
      refine ⟨by rw [hv.out]; rfl, ?_, hg⟩
      rw [hfi.out]
      exact HR.out
  · have hE := Lib.hid (show (f == 0) = false by rw [beq_eq_false_iff_ne]; exact hf)
    have hE' : ((f : Int) == 0) = false := by rw [beq_eq_false_iff_ne]; omega
    have hfi := Lib.hid (show fi f v most = f by unfold fi; rw [if_neg (fun h => hf h.1)])
    have hv := Lib.hid (show vz (fi f v most) v = 0 by rw [hfi.out]; unfold vz; rw [if_neg hf])
    clear hf A
    have d := D.out f w H.out
    rw [hE.out] at d
    have D' := Lib.hid d
    clear d D
    go_enter Try.func28, Try.ntmps28
    go_wp2_with fail
    refine C.out.mono ?_
    rintro r w' ⟨rfl, rfl⟩
    go_wp2_with fail
    refine D'.out.mono ?_
    rintro r w' ⟨rfl, hr, hg⟩
    have HR := Lib.hid hr
    clear hr
    go_wp2_with fail
    go_ret
    refine ⟨by rw [hv.out]; rfl, ?_, hg⟩
    rw [hfi.out]
    exact HR.out
/-- what Flag tells -/
def vb (f v : Nat) : Bool := decide (f = 0 ∧ v = 1)
set_option maxHeartbeats 400000 in
theorem flag_rd (b : Nat) (s : ByteArray) (e : Nat) (w : World) (h : Rd 74 b s e w) (hs : s.size ≤ 9223372036854775807) {v n f : Nat} (hc : chainR s e = (v, n, f)) :
    Calls Try.prog 30 #[.pointer (some ⟨b, 0, none⟩)] w fun r w' => r = .returned (.bool (vb (ff f v) v)) ∧ Rd 74 b (tk s n (ff f v)) (ff f v) w' ∧ w.grownBy w' (some b) := by
  have hbd := chainR_bd s e
  rw [hc] at hbd
  simp only at hbd
  obtain ⟨hb1, hb2⟩ := hbd
  have C := Lib.hid (chain_rd b s e w h hs hc)
  have D := Lib.hid (fun f w h => take_rd b s e n f w h hb2 hs)
  have H := Lib.hid h
  clear h hc
  by_cases hf : f = 0
  · subst hf
    by_cases ha : 1 < v
    · have hfi := Lib.hid (show ff 0 v = 3 by unfold ff; rw [if_pos ⟨rfl, ha⟩])
      have hv := Lib.hid (show vb (ff 0 v) v = false by rw [hfi.out]; simp [vb])
      have d := D.out 3 w H.out
      have D' := Lib.hid d
      clear d D
      go_enter Try.func30, Try.ntmps30
      go_wp2_with fail
      refine C.out.mono ?_
      rintro r w' ⟨rfl, rfl⟩
      go_wp2_with fail
      refine D'.out.mono ?_
      rintro r w' ⟨rfl, hr, hg⟩
      have HR := Lib.hid hr
      clear hr
      go_wp2_with fail
      go_ret
      refine ⟨by rw [hv.out]; rfl, ?_, hg⟩
      rw [hfi.out]
      exact HR.out
    · have hfi := Lib.hid (show ff 0 v = 0 by unfold ff; rw [if_neg (by omega)])
      have hv := Lib.hid (show vb (ff 0 v) v = ((v : Int) == 1) by
        rw [hfi.out, Bool.eq_iff_iff]
        simp [vb]
        omega)
      have d := D.out 0 w H.out
      have D' := Lib.hid d
      clear d D
      go_enter Try.func30, Try.ntmps30
      go_wp2_with fail
      refine C.out.mono ?_
      rintro r w' ⟨rfl, rfl⟩
      go_wp2_with fail
      refine D'.out.mono ?_
      rintro r w' ⟨rfl, hr, hg⟩
      have HR := Lib.hid hr
      clear hr
      go_wp2_with fail
      go_ret
      refine ⟨by rw [hv.out]; rfl, ?_, hg⟩
      rw [hfi.out]
      exact HR.out
  · have hE := Lib.hid (show (f == 0) = false by rw [beq_eq_false_iff_ne]; exact hf)
    have hE' : ((f : Int) == 0) = false := by rw [beq_eq_false_iff_ne]; omega
    have hfi := Lib.hid (show ff f v = f by unfold ff; rw [if_neg (fun h => hf h.1)])
    have hv := Lib.hid (show vb (ff f v) v = false by rw [hfi.out]; simp [vb, hf])
    clear hf
    have d := D.out f w H.out
    rw [hE.out] at d
    have D' := Lib.hid d
    clear d D
    go_enter Try.func30, Try.ntmps30
    go_wp2_with fail
    refine C.out.mono ?_
    rintro r w' ⟨rfl, rfl⟩
    go_wp2_with fail
    refine D'.out.mono ?_
    rintro r w' ⟨rfl, hr, hg⟩
    have HR := Lib.hid hr
    clear hr
    go_wp2_with fail
    go_ret
    refine ⟨by rw [hv.out]; rfl, ?_, hg⟩
    rw [hfi.out]
    exact HR.out
/-- what is read next: a text -/
def textR (s : ByteArray) (e : Nat) (most : Int) : List UInt8 × Nat × Nat := if e ≠ 0 then ([], 0, e) else untx s.data.toList most
def vt (f : Nat) (l : List UInt8) : List UInt8 := if f = 0 then l else []
theorem textR_bd (s : ByteArray) (e : Nat) (most : Int) : (textR s e most).2.1 ≤ s.size := by
  unfold textR
  split
  · simp
  · have := unch_bd s.data.toList
    rw [ba_len] at this
    unfold untx
    split
    · simp
    · split
      · simp
      · split
        · simp
        · rename_i h
          rw [ba_len] at h
          simp only
          omega
set_option maxHeartbeats 400000 in
theorem str_rd (b : Nat) (s : ByteArray) (e : Nat) (most : Int) (w : World) (h : Rd 74 b s e w) (hs : s.size ≤ 9223372036854775807) (hm : most ≤ 9223372036854775807) {l : List UInt8} {n f : Nat} (hc : textR s e most = (l, n, f)) :
    Calls Try.prog 29 #[.pointer (some ⟨b, 0, none⟩), .int .i64 most] w fun r w' => r = .returned (.string ⟨(vt f l).toArray⟩) ∧ Rd 74 b (tk s n f) f w' ∧ w.grownBy w' (some b) := by
  have hbd := textR_bd s e most
  rw [hc] at hbd
  simp only at hbd
  have c0 := h.c0
  have D := Lib.hid (fun f w h => take_rd b s e n f w h hbd hs)
  have E := Lib.hid (err_rd b s e w h)
  have H := Lib.hid h
  clear h
  by_cases he : e = 0
  · subst he
    have hu := untext_any s most w hs hm
    simp only [textR, ne_eq, not_true_eq_false, if_false] at hc
    rw [hc] at hu
    have HU := Lib.hid hu
    clear hu hc
    by_cases hf : f = 0
    · subst hf
      have d := D.out 0 w H.out
      have D' := Lib.hid d
      have hv := Lib.hid (show vt 0 l = l from rfl)
      clear d D
      go_enter Try.func29, Try.ntmps29
      go_wp2_with fail
      refine E.out.mono ?_
      rintro r w' ⟨rfl, rfl⟩
      go_wp2_with fail
      refine HU.out.mono ?_
      rintro r w' ⟨rfl, rfl⟩
      go_wp2_with fail
      refine D'.out.mono ?_
      rintro r w' ⟨rfl, hr, hg⟩
      have HR := Lib.hid hr
      clear hr
      go_wp2_with fail
      go_ret
      exact ⟨by rw [hv.out]; rfl, HR.out, hg⟩
    · have hE := Lib.hid (show (f == 0) = false by rw [beq_eq_false_iff_ne]; exact hf)
      have hv := Lib.hid (show vt f l = [] by unfold vt; rw [if_neg hf])
      clear hf
      have d := D.out f w H.out
      rw [hE.out] at d
      have D' := Lib.hid d
      clear d D
      go_enter Try.func29, Try.ntmps29
      go_wp2_with fail
      refine E.out.mono ?_
      rintro r w' ⟨rfl, rfl⟩
      go_wp2_with fail
      refine HU.out.mono ?_
      rintro r w' ⟨rfl, rfl⟩
      go_wp2_with fail
      refine D'.out.mono ?_
      rintro r w' ⟨rfl, hr, hg⟩
      have HR := Lib.hid hr
      clear hr
      go_wp2_with fail
      go_ret
      exact ⟨by rw [hv.out]; rfl, HR.out, hg⟩
  · have hE : ((e : Int) != 0) = true := by rw [bne_iff_ne]; omega
    simp only [textR, ne_eq, he, not_false_eq_true, if_true, Prod.mk.injEq] at hc
    obtain ⟨rfl, rfl, rfl⟩ := hc
    have hv := Lib.hid (show vt e [] = [] by unfold vt; split <;> rfl)
    have ht := Lib.hid (show tk s 0 e = s by simp [tk, he])
    clear he D
    go_enter Try.func29, Try.ntmps29
    go_wp2_with fail
    refine E.out.mono ?_
    rintro r w' ⟨rfl, rfl⟩
    go_wp2_with fail
    go_ret
    exact ⟨by rw [hv.out]; rfl, by rw [ht.out]; exact H.out, World.grownBy.refl _ _⟩
end Go.Proofs.Ytkfcjlemneieiaa
