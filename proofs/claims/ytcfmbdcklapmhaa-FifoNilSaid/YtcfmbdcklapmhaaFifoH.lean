/-
  THE LAW FifoNil. The law FifoNil answers true at every item: asked of a queue that nobody made, each call tells nothing, and Push tells so. Conditions: none.
-/
import Derived.Test.YtcfmbdcklapmhaaFifoG
import Derived.Test.YtcfmbdcklapmhaaFrame
import Derived.Lib.SmallJoins
namespace Go.Proofs.Ytcfmbdcklapmhaa
open Go.RowKit Fq Ft Bt
open Go.ChangeShapes Go.WideShapes Go.ChangeAt Go.Joins
set_option linter.unusedVariables false
namespace fifoNil
set_option maxHeartbeats 2000000 in
theorem walk (p : Int) (wp : (Lit.int .i64 p).wf = true) (q : Int) (wq : (Lit.int .i64 q).wf = true) (w : World) :
    Calls Try.prog 4 #[.agg #[.int .i64 p, .int .i64 q]] w fun e w' => e = .returned (.bool true) ∧ Below w.heap.size w w' := by
  obtain ⟨W1, hW1⟩ : ∃ W, w.alloc (.cells #[.int .i64 p, .int .i64 q] 32) = W := ⟨_, rfl⟩
  have hb1 : Below w.heap.size w W1 := by rw [← hW1]; exact (Below.refl _ _).alloc (Nat.le_refl _) _
  have hib : IB W1 w.heap.size (p, q) := by rw [← hW1]; exact IB.made w (p, q)
  have hho : hv none = .tuple #[.agg #[.int .i64 0, .int .i64 0], .bool false] := rfl
  have hhd := fq_head_nil W1
  have hpp := fq_pop_nil
  have hdr := fq_drop_nil p
  rw [hho] at hhd hpp hdr
  have HHD := Lib.hid hhd
  have HPP := Lib.hid hpp
  have HDR := Lib.hid hdr
  have HB1 := Lib.hid hb1
  have HI1 := Lib.hid hib
  have HI := Lib.hid (item_info it0)
  have HO := Lib.hid (item_one it0)
  clear hb1 hib hho hhd hpp hdr wp wq
  go_enter Try.func4, Try.ntmps4
  go_wp2_with (go_at_call 14; with_reducible refine HHD.out.mono ?_)
  first | rintro e w2 rfl hb2 | rintro e w2 ⟨rfl, hb2⟩
  obtain ⟨W3, W4, hW3, hW4, hi3, _, hb4⟩ := made w2 it0
  have HI3 := Lib.hid hi3
  have HW4 := Lib.hid hW4
  have HB4 := Lib.hid (below_next (below_next HB1.out hb2) hb4)
  have HI4 := Lib.hid ((HI1.out.below hb2).below hb4)
  clear hb2 hW4 hi3 hb4 HHD
  go_wp2_with (first
    | (refine wpList_store_row rfl 32 _ _ rfl w2.heap.size (ic it0) rfl rfl 32 (ic it0) HI3.out HI.out rfl HO.out ?_; rw [HW4.out])
    | (go_at_call 10; refine (HPP.out _).mono ?_))
  first | rintro e w5 rfl hb5 | rintro e w5 ⟨rfl, hb5⟩
  obtain ⟨W6, W7, hW6, hW7, hi6, _, hb7⟩ := made w5 it0
  have HI6 := Lib.hid hi6
  have HW7 := Lib.hid hW7
  have HB7 := Lib.hid (below_next (below_next HB4.out hb5) hb7)
  have HI7 := Lib.hid ((HI4.out.below hb5).below hb7)
  obtain ⟨c0, _⟩ := HI7.out.cells
  simp only at c0
  clear hb5 hW7 hi6 hb7 HPP hW3 HW4 HI3
  go_wp2_with (first
    | (refine wpList_store_row rfl 32 _ _ rfl w5.heap.size (ic it0) rfl rfl 32 (ic it0) HI6.out HI.out rfl HO.out ?_; rw [HW7.out])
    | (go_at_call 11; refine (HDR.out _).mono ?_))
  first | rintro e w8 rfl hb8 | rintro e w8 ⟨rfl, hb8⟩
  obtain ⟨W9, W10, hW9, hW10, hi9, _, hb10⟩ := made w8 it0
  have HI9 := Lib.hid hi9
  have HW10 := Lib.hid hW10
  have HB10 := Lib.hid (below_next (below_next HB7.out hb8) hb10)
  have HI10 := Lib.hid ((HI7.out.below hb8).below hb10)
  obtain ⟨e0, e1⟩ := HI10.out.cells
  simp only at e0 e1
  have HPU := Lib.hid (fun w => fq_push_nil (p, q) w)
  simp only at HPU
  clear hb8 hW10 hi9 hb10 HDR hW6 HW7 HI6 c0
  go_wp2_with (first
    | (refine wpList_store_row rfl 32 _ _ rfl w8.heap.size (ic it0) rfl rfl 32 (ic it0) HI9.out HI.out rfl HO.out ?_; rw [HW10.out])
    | (go_at_call 9; refine (HPU.out _).mono ?_))
  first | rintro e w11 rfl hb11 | rintro e w11 ⟨rfl, hb11⟩
  have HB11 := Lib.hid (below_next HB10.out hb11)
  obtain ⟨f0, f1⟩ := (HI10.out.below hb11).cells
  simp only at f0 f1
  have HNUM := Lib.hid fq_num
  have HHAS := Lib.hid fq_has_nil
  have HLEN := Lib.hid fq_len_nil
  have HCST := Lib.hid fq_cost_nil
  have HALL := Lib.hid fq_all_nil
  have HLIV := Lib.hid fifo14.live_any
  clear hb11 HPU e0 e1 hW9 HI9 HW10
  go_wp2_with (first
    | (go_at_call 8; refine (HNUM.out _ _).mono ?_; rintro e w' ⟨rfl, hw⟩; rw [hw]; clear hw)
    | (go_at_call 20; refine (HHAS.out _ _).mono ?_; rintro e w' ⟨rfl, hw⟩; rw [hw]; clear hw)
    | (go_at_call 17; refine (HLEN.out _).mono ?_; rintro e w' ⟨rfl, hw⟩; rw [hw]; clear hw)
    | (go_at_call 18; refine (HCST.out _).mono ?_; rintro e w' ⟨rfl, hw⟩; rw [hw]; clear hw)
    | (go_at_call 16; refine (HALL.out _).mono ?_; rintro e w' ⟨rfl, hw⟩; rw [hw]; clear hw)
    | (go_at_call 5; refine (HLIV.out _).mono ?_))
  first | rintro e w12 rfl hb12 | rintro e w12 ⟨rfl, hb12⟩
  have HB12 := Lib.hid (below_next HB11.out hb12)
  clear hb12
  go_wp2
  go_ret
  exact ⟨rfl, HB12.out⟩
theorem own : ownKnob Try.prog.godebug = none := by kernel_rfl
theorem laidOut : laidOutB Try.prog = true := by kernel_rfl
set_option maxRecDepth 100000 in
theorem contract (H : Type) (enc : TypeId × Value → H) (W : World) (base : Nat) (args : Array Value) (ds gs : List (DataW H)) (before : List MemPlace)
    (hval0 : ∀ (j : Nat) t v, Try.f4.params[j]? = some t → args[j]? = some v → Value.okWide Try.prog W .any base t v)
    (hW : DataW.Whole enc Try.prog Try.f4.params.toList Rows.fifoNilSpec.vars false W args.toList ds gs before) :
    Calls Try.prog 4 args W fun e W' => ∃ v, e = .returned v ∧ Rows.fifoNilSpec.post enc Try.prog Try.f4 false true false false W args v W' := by
  have hval : ∀ (j : Nat) t v, Try.f4.params[j]? = some t → args[j]? = some v → Value.okWide Try.prog W .any base t v := hval0
  clear hval0
  have hW' := hW
  obtain ⟨p, q, hA0, hV, rfl, hfz, hnd⟩ := hW
  have hA : DataW.TrodAll enc Try.prog W 0 (fun _ => true) true Try.f4.params.toList args.toList ds p := hA0
  rw [Try.params4] at hA hval
  obtain ⟨v0, vs0, d0, ds0, p0, q0, hargs, rfl, rfl, h0, r0⟩ := trodAll_cons hA
  obtain ⟨rfl, rfl, rfl⟩ := trodAll_nil r0
  obtain rfl : args = #[v0] := by cases args; simp_all
  obtain ⟨rfl, rfl⟩ := trodVars_none hV
  obtain ⟨c0_0, c0_1, y0_0, y0_1, m0, rfl, rfl, rfl, hy0_0, hy0_1⟩ := open_agg2 Try.underlying32 (by kernel_rfl) (by kernel_rfl) (hval 0 32 v0 rfl rfl) h0
  obtain ⟨a0_0, e0_0, rfl, w0_0⟩ := DataW.trod_int Try.underlying3 hy0_0
  simp at e0_0
  subst e0_0
  obtain ⟨a0_1, e0_1, rfl, w0_1⟩ := DataW.trod_int Try.underlying3 hy0_1
  simp at e0_1
  subst e0_1
  clear hA0
  refine (walk a0_0 w0_0 a0_1 w0_1 W).mono fun e W' ⟨he, hb⟩ => ?_
  subst he
  exact ⟨_, rfl, law_post laidOut (by kernel_rfl) rfl Try.underlying4 rfl hW' rfl hb⟩

set_option maxRecDepth 100000 in
theorem lifted (os : Os) (started : os.Started) (H : Type) (enc : TypeId × Value → H) :
    ReturnsInHanded {} Try.checked os 4 .any (Rows.fifoNilSpec.pre6 enc Try.prog Try.f4 Rows.fifoNilRow.domain false) (Rows.fifoNilSpec.post enc Try.prog Try.f4 false true false false) := by
  refine returnsInHanded_of_change (C := Try.checked) own started (by kernel_rfl) Try.func4
    (ChangeSpec.witness6 (enc := enc) (C := Try.checked) false ⟨#[], #[.agg #[.int .i64 0, .int .i64 0]], []⟩ 8 (by kernel_rfl) (by kernel_rfl) (by kernel_rfl) (by kernel_rfl)) ?_
  intro W base args ds gs before hval0 hW _ _
  exact contract H enc W base args ds gs before hval0 hW

/-- THE STATEMENT -/
theorem proved : Rows.FifoNilSaid :=
  OpenClaim.holds_of_wide 4 Try.f4 rfl rfl rfl rfl rfl rfl rfl ⟨rfl, rfl, rfl, rfl, rfl⟩ rfl rfl rfl rfl rfl (by kernel_rfl) Try.func4 (by kernel_rfl)
    (of_decide_eq_true (by kernel_rfl)) (by unfold Func.isWrapper; first | (rw [if_pos (by decide +kernel)]; kernel_rfl) | (rw [if_neg (by decide +kernel)]; exact ⟨rfl, rfl⟩))
    (fun os started H enc _ => lifted os started H enc)
end fifoNil
end Go.Proofs.Ytcfmbdcklapmhaa
