/-
  LAYER 13 (history), part I: the program's table and the page's, side by side: same.
-/
import Derived.Test.YtbkbopaoeehfkaaHyG
import Derived.Deep.RegionHeld3
namespace Go.Proofs.Ytbkbopaoeehfkaa
open Go.RowKit Lr Ft Hy Bt
set_option linter.unusedVariables false
namespace Hy
/-- the program's table, the page's rows, what is asked; the page's table and what is asked lie in blocks of the call's own -/
structure SMd where
  H : Nat
  D : Td
  room : Nat
  L : List KV
  zr : Int
  pr : Option Addr
  capr : Nat
  m : Nat
  k : ByteArray
  pl : Option Addr
  nl : Nat
  cl : Nat
  ls : List Int
  q : Int
structure SMx (w0 wB : World) (b4 b5 : Nat) (x : SMd) (w : World) : Prop where
  bl : Below wB.heap.size wB w
  tb : OHD w0 x.H x.D x.room x.L w
  rows : RC w x.pr x.L.reverse
  lim : LIs w x.pl x.ls
  t4 : w.heap[b4]? = some (.cells #[.int .i64 x.zr, .slice x.pr x.m x.capr] 31)
  t5 : w.heap[b5]? = some (.cells #[.string x.k, .slice x.pl x.nl x.cl, .int .i64 x.q] 25)
structure SMok (x : SMd) : Prop where
  lm : x.L.length = x.m
  lm2 : x.m ≤ 900
  ks : Ks x.L
  wf : Ms.Wf x.k
  ln : x.ls.length = x.nl
  ln2 : x.nl ≤ 1000
  i64 : I64s x.ls
section
variable {w0 wB w w' : World} {x : SMd} {b4 b5 : Nat}
theorem SMx.below (h : SMx w0 wB b4 b5 x w) (hb : Below w.heap.size w w') : SMx w0 wB b4 b5 x w' :=
  ⟨h.bl.trans (hb.mono h.bl.size), h.tb.below hb, h.rows.below hb (Nat.le_refl _), h.lim.below hb (Nat.le_refl _), (hb.block _ (Array.getElem?_eq_some_iff.1 h.t4).1).trans h.t4, (hb.block _ (Array.getElem?_eq_some_iff.1 h.t5).1).trans h.t5⟩
theorem SMx.cells (h : SMx w0 wB b4 b5 x w) : w.cell? ⟨b4, 0, none⟩ = some (.int .i64 x.zr) ∧ w.cell? ⟨b4, 1, none⟩ = some (.slice x.pr x.m x.capr) ∧ w.cell? ⟨b5, 0, none⟩ = some (.string x.k) ∧ w.cell? ⟨b5, 1, none⟩ = some (.slice x.pl x.nl x.cl) ∧ w.cell? ⟨b5, 2, none⟩ = some (.int .i64 x.q) := by
  refine ⟨?_, ?_, ?_, ?_, ?_⟩
  · simp only [World.cell?, h.t4]; rfl
  · simp only [World.cell?, h.t4]; rfl
  · simp only [World.cell?, h.t5]; rfl
  · simp only [World.cell?, h.t5]; rfl
  · simp only [World.cell?, h.t5]; rfl
theorem SMx.est (h : SMx w0 wB b4 b5 x w) (ho : SMok x) : Calls Try.prog 14 #[.pointer (some ⟨x.H, 0, none⟩), .string x.k, .int .i64 x.q] w fun e w' => e = .returned (.tuple #[.int .u64 (Qu.ov (hst x.L x.k) x.q : Nat), .bool (Qu.ok (hst x.L x.k) x.q)]) ∧ SMx w0 wB b4 b5 x w' :=
  (h.tb.est ho.wf x.q).mono fun e w' ⟨he, hb⟩ => ⟨he, h.below hb⟩
theorem SMx.hist (h : SMx w0 wB b4 b5 x w) (ho : SMok x) : Calls Try.prog 18 #[.pointer (some ⟨x.H, 0, none⟩), .string x.k] w fun e w' => e = .returned (.agg (hc (hst x.L x.k))) ∧ SMx w0 wB b4 b5 x w' :=
  (h.tb.hist ho.wf).mono fun e w' ⟨he, hb⟩ => ⟨he, h.below hb⟩
theorem SMx.cls (h : SMx w0 wB b4 b5 x w) (ho : SMok x) : Calls Try.prog 13 #[.pointer (some ⟨x.H, 0, none⟩), .string x.k, .slice x.pl x.nl x.cl, .int .i64 x.q] w fun e w' => e = .returned (.int .i64 (ca x.ls (Qu.ov (hst x.L x.k) x.q) (Qu.ok (hst x.L x.k) x.q) : Nat)) ∧ SMx w0 wB b4 b5 x w' :=
  (h.tb.cls ho.wf x.pl x.nl x.cl x.ls x.q ho.ln ho.ln2 ho.i64 h.lim).mono fun e w' ⟨he, hb⟩ => ⟨he, h.below hb⟩
theorem SMx.rhist (h : SMx w0 wB b4 b5 x w) (ho : SMok x) : Calls Try.prog 20 #[.agg #[.int .i64 x.zr, .slice x.pr x.m x.capr], .string x.k] w fun e w' => e = .returned (.agg (hc (hst x.L x.k))) ∧ SMx w0 wB b4 b5 x w' := by
  have h9 := rh_hist x.zr x.pr x.m x.capr x.L.reverse x.k w (by rw [List.length_reverse, ho.lm]) (by have := ho.lm2; omega) h.rows
  rw [hst_rev ho.ks] at h9
  exact h9.mono fun e w' ⟨he, hb⟩ => ⟨he, h.below hb⟩
theorem SMx.rcls (h : SMx w0 wB b4 b5 x w) (ho : SMok x) : Calls Try.prog 22 #[.agg #[.int .i64 x.zr, .slice x.pr x.m x.capr], .string x.k, .slice x.pl x.nl x.cl, .int .i64 x.q] w fun e w' => e = .returned (.int .i64 (ca x.ls (Qu.ov (hst x.L x.k) x.q) (Qu.ok (hst x.L x.k) x.q) : Nat)) ∧ SMx w0 wB b4 b5 x w' := by
  have h9 := rh_class x.zr x.pr x.m x.capr x.L.reverse x.k x.pl x.nl x.cl x.ls x.q w (by rw [List.length_reverse, ho.lm]) (by have := ho.lm2; omega) h.rows ho.ln ho.ln2 ho.i64 h.lim
  rw [hst_rev ho.ks] at h9
  exact h9.mono fun e w' ⟨he, hb⟩ => ⟨he, h.below hb⟩
theorem SMx.of (h : SMx w0 wB b4 b5 x w) (f : Nat → Int) (p : Int) : Calls Try.prog 21 #[.agg (hc f), .int .i64 p] w fun e w' => e = .returned (.tuple #[.int .u64 (Qu.ov f p : Nat), .bool (Qu.ok f p)]) ∧ SMx w0 wB b4 b5 x w' :=
  (rof_any f p w).mono fun e w' ⟨he, hb⟩ => ⟨he, h.below hb⟩
theorem SMx.list (h : SMx w0 wB b4 b5 x w) (ho : SMok x) : Calls Try.prog 24 #[.pointer (some ⟨x.H, 0, none⟩)] w fun e w' => ∃ p cap, e = .returned (.slice p x.m cap) ∧ RC w' p x.L.reverse ∧ SMx w0 wB b4 b5 x w' := by
  refine h.tb.rows.mono ?_
  rintro e w' ⟨p, n, cap, he, hn, hown, hb⟩
  obtain ⟨p9, c9, hv, _, hrc, _⟩ := hown.view
  injection hv with e1 _ _
  subst e1
  refine ⟨p, cap, by rw [he, ← ho.lm, hn], hrc, h.below hb⟩
end
end Hy
set_option maxHeartbeats 4000000 in
set_option maxRecDepth 20000 in
theorem same_x {w0 w : World} {x : SMd} (ho : SMok x) (hT : OHD w0 x.H x.D x.room x.L w) (hR : RC w x.pr x.L.reverse) (hl : LIs w x.pl x.ls) :
    Calls Try.prog 10 #[.pointer (some ⟨x.H, 0, none⟩), .agg #[.int .i64 x.zr, .slice x.pr x.m x.capr], .agg #[.string x.k, .slice x.pl x.nl x.cl, .int .i64 x.q]] w fun e w' => e = .returned (.bool true) ∧ Below w.heap.size w w' := by
  obtain ⟨W1, hW1⟩ : ∃ W, w.alloc (.cells #[.int .i64 x.zr, .slice x.pr x.m x.capr] 31) = W := ⟨_, rfl⟩
  have hb1 : Below w.heap.size w W1 := by rw [← hW1]; exact (Below.refl _ _).alloc (Nat.le_refl _) _
  have h1 : W1.heap[w.heap.size]? = some (.cells #[.int .i64 x.zr, .slice x.pr x.m x.capr] 31) := by rw [← hW1]; exact (MapKept.heap_alloc _ _).1
  obtain ⟨W2, hW2⟩ : ∃ W, W1.alloc (.cells #[.string x.k, .slice x.pl x.nl x.cl, .int .i64 x.q] 25) = W := ⟨_, rfl⟩
  have hb2 : Below W1.heap.size W1 W2 := by rw [← hW2]; exact (Below.refl _ _).alloc (Nat.le_refl _) _
  have hs1 : W1.heap.size = w.heap.size + 1 := by rw [← hW1]; simp
  have h2 : W2.heap[w.heap.size + 1]? = some (.cells #[.string x.k, .slice x.pl x.nl x.cl, .int .i64 x.q] 25) := by rw [← hW2, ← hs1]; exact (MapKept.heap_alloc _ _).1
  have hbb := below_next hb1 hb2
  have hsm : SMx w0 w w.heap.size (w.heap.size + 1) x W2 := ⟨hbb, hT.below hbb, hR.below hbb (Nat.le_refl _), hl.below hbb (Nat.le_refl _), (hb2.block _ (by omega)).trans h1, h2⟩
  have HO := Lib.hid ho
  have HS := Lib.hid hsm
  obtain ⟨q0, q1, q2, q3, q4⟩ := hsm.cells
  have HE := Lib.hid (hsm.est ho)
  have HE2 : Hid (Calls Try.prog 14 #[.pointer (some ⟨x.H, 0, none⟩), .string x.k, .int .i64 x.q] ((w.alloc (.cells #[.int .i64 x.zr, .slice x.pr x.m x.capr] 31)).alloc (.cells #[.string x.k, .slice x.pl x.nl x.cl, .int .i64 x.q] 25)) fun e w' => e = .returned (.tuple #[.int .u64 (Qu.ov (hst x.L x.k) x.q : Nat), .bool (Qu.ok (hst x.L x.k) x.q)]) ∧ SMx w0 w w.heap.size (w.heap.size + 1) x w') := Lib.hid (by rw [hW1, hW2]; exact HE.out)
  obtain ⟨f, hf⟩ : ∃ f, hst x.L x.k = f := ⟨_, rfl⟩
  have HOF := Lib.hid (fun (w1 : World) (h : SMx w0 w w.heap.size (w.heap.size + 1) x w1) => h.of f x.q)
  have HH := Lib.hid (fun (w1 : World) (h : SMx w0 w w.heap.size (w.heap.size + 1) x w1) => h.hist HO.out)
  have HRH := Lib.hid (fun (w1 : World) (h : SMx w0 w w.heap.size (w.heap.size + 1) x w1) => h.rhist HO.out)
  have HCL := Lib.hid (fun (w1 : World) (h : SMx w0 w w.heap.size (w.heap.size + 1) x w1) => h.cls HO.out)
  have HRC := Lib.hid (fun (w1 : World) (h : SMx w0 w w.heap.size (w.heap.size + 1) x w1) => h.rcls HO.out)
  have HLI := Lib.hid (fun (w1 : World) (h : SMx w0 w w.heap.size (w.heap.size + 1) x w1) => h.list HO.out)
  rw [hf] at HE2 HH HRH HCL HRC
  obtain ⟨C, hC⟩ : ∃ C : Int, (ca x.ls (Qu.ov f x.q) (Qu.ok f x.q) : Int) = C := ⟨_, rfl⟩
  rw [hC] at HCL HRC
  obtain ⟨V, hV⟩ : ∃ V : Int, (Qu.ov f x.q : Int) = V := ⟨_, rfl⟩
  obtain ⟨kb, hkb⟩ : ∃ b, Qu.ok f x.q = b := ⟨_, rfl⟩
  rw [hV, hkb] at HE2 HOF
  have heq := fun w => eq_hc f f w
  have hsf := same_self f
  rw [hsf] at heq
  clear ho hT hR hl hW1 hb1 h1 hW2 hb2 hs1 h2 hbb hsm HE hf hC hV hkb hsf HS
  have hVV : (V == V) = true := by simp
  have hkk : (kb == kb) = true := by simp
  have hCC : (C == C) = true := by simp
  go_enter Try.func10, Try.ntmps10
  go_wp2_with fail
  refine HE2.out.mono ?_
  rintro e wa ⟨rfl, hsm⟩
  have HSM := Lib.hid hsm
  clear HE2 q0 q1 q2 q3 q4 hsm
  go_wp2_with fail
  refine wp_region_text (S := (fun w9 => SMx w0 w w.heap.size (w.heap.size + 1) x w9)) (by kernel_rfl) ?_ ?_
  · exact (HSM.out.below (Below.refl _ _).drew)
  repeat (first
    | (refine anyR_value (v := ?_) (by kernel_rfl) (by rfl) (fun _ _ _ h => h) (fun w1 hS => ?_) ?_
       rotate_left
       · obtain ⟨q0, q1, q2, q3, q4⟩ := SMx.cells hS
         go_simp
         with_reducible rfl
       simp only [Act.put, List.setIfInBounds_toArray, List.set_cons_zero, List.set_cons_succ])
    | (refine anyR_not (by kernel_rfl) (by rfl) (fun _ _ _ h => h) ?_
       simp only [Act.put, List.setIfInBounds_toArray, List.set_cons_zero, List.set_cons_succ])
    | (refine anyR_call (v := ?_) (f := ?_) (args := ?_) (by kernel_rfl) (by rfl) (fun _ _ _ h => h) (fun w1 hS => ?_) (fun w1 hS => ?_) ?_
       rotate_left 3
       · go_simp
         (try constructor) <;> with_reducible rfl
       · first
           | (((with_reducible refine ((HRH.out w1 hS).mono ?_)); rintro e w' ⟨rfl, hp⟩; refine ⟨?_, hp⟩; with_reducible rfl))
           | (((with_reducible refine ((HOF.out w1 hS).mono ?_)); rintro e w' ⟨rfl, hp⟩; refine ⟨?_, hp⟩; with_reducible rfl))
       simp only [Act.put, List.setIfInBounds_toArray, List.set_cons_zero, List.set_cons_succ])
    | refine anyR_done (by kernel_rfl) (fun w1 hS => ?_))
  have HSM1 := Lib.hid hS
  clear hS HSM
  have HSD := Lib.hid (HSM1.out.below (Below.refl _ _).drew)
  have HN1 : Hid (x.L.reverse.length = x.m) := Lib.hid (by rw [List.length_reverse]; exact HO.out.lm)
  have HN2 : Hid (x.m ≤ 1000) := Lib.hid (by have := HO.out.lm2; omega)
  clear HSM1
  go_wp2_with fail
  go_region_held3 (fun w' => w'.cell? ⟨w.heap.size, 0, none⟩ = some (.int .i64 x.zr) ∧ w'.cell? ⟨w.heap.size, 1, none⟩ = some (.slice x.pr x.m x.capr) ∧ w'.cell? ⟨w.heap.size + 1, 0, none⟩ = some (.string x.k) ∧ w'.cell? ⟨w.heap.size + 1, 1, none⟩ = some (.slice x.pl x.nl x.cl) ∧ w'.cell? ⟨w.heap.size + 1, 2, none⟩ = some (.int .i64 x.q))
    (first | exact HSD.out.cells | exact HSM2.out.cells | exact HSM3.out.cells | exact HSM4.out.cells | exact HSM5.out.cells | exact HSM6.out.cells | exact HSM7.out.cells)
    (first
      | (go_at_call 18; refine (HH.out _ HSD.out).mono ?_; rintro e wb ⟨rfl, h9⟩; have HSM2 := Lib.hid h9; clear h9)
      | (go_at_call 20; refine (HRH.out _ HSM2.out).mono ?_; rintro e wb ⟨rfl, h9⟩; have HSM3 := Lib.hid h9; clear h9)
      | (go_at_call 13; refine (HCL.out _ HSM3.out).mono ?_; rintro e wb ⟨rfl, h9⟩; have HSM4 := Lib.hid h9; clear h9)
      | (go_at_call 22; refine (HRC.out _ HSM4.out).mono ?_; rintro e wb ⟨rfl, h9⟩; have HSM5 := Lib.hid h9; clear h9)
      | (go_at_call 24; refine (HLI.out _ HSM5.out).mono ?_; rintro e wb ⟨p9, c9, rfl, hrc9, h9⟩; have HSM6 := Lib.hid h9; have HRC9 := Lib.hid hrc9; clear h9 hrc9)
      | (go_at_call 23; refine (rh_same _ _ x.m _ _ x.L.reverse _ HN1.out HN2.out HRC9.out HSM6.out.rows).mono ?_; rintro e wb ⟨rfl, h9⟩; have HSM7 := Lib.hid (HSM6.out.below h9); clear h9))
  all_goals (go_wp2; go_ret; exact ⟨rfl, HSM7.out.bl⟩)
end Go.Proofs.Ytbkbopaoeehfkaa
