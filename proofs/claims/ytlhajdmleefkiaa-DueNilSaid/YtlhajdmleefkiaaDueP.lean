/-
  THE LAW DueNil.
-/
import Derived.Test.YtlhajdmleefkiaaDueM
import Derived.Test.YtlhajdmleefkiaaFrame
import Derived.Lib.SmallJoins
namespace Go.Proofs.Ytlhajdmleefkiaa
open Go.RowKit Wl Dl Bt
open Go.ChangeShapes Go.WideShapes Go.ChangeAt Go.Joins
set_option linter.unusedVariables false
theorem dfirst_nil (tq : Int) (w : World) : Calls Try.prog 16 #[.pointer none, .int .u64 tq] w fun e w' => e = .returned (.tuple #[.agg #[.int .i64 0, .int .i64 0, .int .u64 0], .bool false]) ∧ Below w.heap.size w w' := by
  obtain ⟨hb1, hk1⟩ := zero_made w
  obtain ⟨W1, hW1⟩ : ∃ W1, w.alloc (.cells #[.int .i64 0, .int .i64 0, .int .u64 0] 39) = W1 := ⟨_, rfl⟩
  rw [hW1] at hb1 hk1
  obtain ⟨⟨c0, c1, c2⟩, f0, f1, f2⟩ := three hk1
  have HNX := Lib.hid (dnext_nil W1)
  have HB : Hid (Below w.heap.size w (((W1.setCell ⟨w.heap.size, 0, none⟩ (.int .i64 0)).setCell ⟨w.heap.size, 1, none⟩ (.int .i64 0)).setCell ⟨w.heap.size, 2, none⟩ (.int .u64 0))) := Lib.hid (by
    have hm3 := mv3 W1 w.heap.size 0 1 2 (.int .i64 0) (.int .i64 0) (.int .u64 0)
    exact hb1.trans (hm3.below hb1.size (fun k hk e => by have e2 : k = w.heap.size := e; omega)))
  clear hb1 hk1
  go_enter Try.func16, Try.ntmps16
  go_wp2_with (go_at_call 11; refine HNX.out.mono ?_; rintro e w' ⟨rfl, hw⟩; rw [hw]; clear hw)
  refine bodyPost_ret (v := .tuple #[xv x0, .bool false]) ?_ rfl ?_
  · rw [results_cell_tmp rfl]
    go_simp
    rfl
  · exact ⟨rfl, HB.out⟩
namespace dueNil
set_option maxHeartbeats 2000000 in
theorem walk (a0 : Int) (w0 : (Lit.int .i64 a0).wf = true) (a1 : Int) (w1 : (Lit.int .i64 a1).wf = true) (a2 : Int) (w2 : (Lit.int .u64 a2).wf = true) (w : World) :
    Calls Try.prog 5 #[.agg #[.int .i64 a0, .int .i64 a1, .int .u64 a2]] w fun e w' => e = .returned (.bool true) ∧ Below w.heap.size w w' := by
  obtain ⟨W1, hW1⟩ : ∃ W1, w.alloc (.cells #[.int .i64 a0, .int .i64 a1, .int .u64 a2] 39) = W1 := ⟨_, rfl⟩
  obtain ⟨g, hg⟩ : ∃ g, w.heap.size = g := ⟨_, rfl⟩
  have hb1 : Below w.heap.size w W1 := by rw [← hW1]; exact (Below.refl _ _).alloc (Nat.le_refl _) _
  have hk1 : W1.heap[g]? = some (.cells #[.int .i64 a0, .int .i64 a1, .int .u64 a2] 39) := by rw [← hW1, ← hg]; exact (MapKept.heap_alloc _ _).1
  obtain ⟨⟨c0, c1, c2⟩, _⟩ := three hk1
  have HF := Lib.hid (dfirst_nil a2 W1)
  have HA := Lib.hid (dat_nil a0 a1)
  have HNX := Lib.hid dnext_nil
  have HS := Lib.hid (dset_nil a0 a1 a2)
  have HC := Lib.hid (dclear_nil a0 a1)
  have HG := Lib.hid (dgo_nil a2)
  have HNO := Lib.hid dnow_nil
  have HL := Lib.hid dlen_nil
  have HU := Lib.hid num9_any
  have HLV := Lib.hid due9.live_any
  have HB1 := Lib.hid hb1
  have HK1 := Lib.hid hk1
  clear hb1 hk1 w0 w1 w2
  go_enter Try.func5, Try.ntmps5
  go_wp2_with (first
    | (go_at_call 9; refine (HA.out _).mono ?_; rintro e w' ⟨rfl, hw⟩; rw [hw]; clear hw)
    | (go_at_call 11; refine (HNX.out _).mono ?_; rintro e w' ⟨rfl, hw⟩; rw [hw]; clear hw)
    | (go_at_call 16; refine HF.out.mono ?_))
  first | rintro e w2 rfl hb2 | rintro e w2 ⟨rfl, hb2⟩
  have hb3 : Below w2.heap.size w2 (w2.alloc (.cells #[.int .i64 0, .int .i64 0, .int .u64 0] 39)) := (Below.refl _ _).alloc (Nat.le_refl _) _
  have hk3 : (w2.alloc (.cells #[.int .i64 0, .int .i64 0, .int .u64 0] 39)).heap[g]? = some (.cells #[.int .i64 a0, .int .i64 a1, .int .u64 a2] 39) := by
    have hl := lt_of_some HK1.out
    rw [hb3.block g (Nat.lt_of_lt_of_le hl hb2.size), hb2.block g hl]
    exact HK1.out
  obtain ⟨⟨d0, d1, d2⟩, _⟩ := three hk3
  have HB3 := Lib.hid (HB1.out.trans ((hb2.trans (hb3.mono hb2.size)).mono HB1.out.size))
  clear hb2 hb3 hk3 c0 c1 c2
  go_wp2_with (first
    | (go_at_call 19; refine (HU.out _ _).mono ?_; rintro e w' ⟨rfl, hw⟩; rw [hw]; clear hw)
    | (go_at_call 15; refine (HS.out _).mono ?_; rintro e w' ⟨rfl, hw⟩; rw [hw]; clear hw)
    | (go_at_call 20; refine (HC.out _).mono ?_; rintro e w' ⟨rfl, hw⟩; rw [hw]; clear hw)
    | (go_at_call 17; refine (HG.out _).mono ?_; rintro e w' ⟨rfl, hw⟩; rw [hw]; clear hw)
    | (go_at_call 14; refine (HNO.out _).mono ?_; rintro e w' ⟨rfl, hw⟩; rw [hw]; clear hw)
    | (go_at_call 13; refine (HL.out _).mono ?_; rintro e w' ⟨rfl, hw⟩; rw [hw]; clear hw)
    | (go_at_call 6; refine (HLV.out _).mono ?_))
  first | rintro e w4 rfl hb4 | rintro e w4 ⟨rfl, hb4⟩
  have HE := Lib.hid (HB3.out.trans (hb4.mono HB3.out.size))
  clear hb4
  go_wp2
  go_ret
  exact ⟨rfl, HE.out⟩
theorem own : ownKnob Try.prog.godebug = none := by kernel_rfl
theorem laidOut : laidOutB Try.prog = true := by kernel_rfl
set_option maxRecDepth 100000 in
theorem contract (H : Type) (enc : TypeId × Value → H) (W : World) (base : Nat) (args : Array Value) (ds gs : List (DataW H)) (before : List MemPlace)
    (hval0 : ∀ (j : Nat) t v, Try.f5.params[j]? = some t → args[j]? = some v → Value.okWide Try.prog W .any base t v)
    (hW : DataW.Whole enc Try.prog Try.f5.params.toList Rows.dueNilSpec.vars false W args.toList ds gs before) :
    Calls Try.prog 5 args W fun e W' => ∃ v, e = .returned v ∧ Rows.dueNilSpec.post enc Try.prog Try.f5 false true false false W args v W' := by
  have hval : ∀ (j : Nat) t v, Try.f5.params[j]? = some t → args[j]? = some v → Value.okWide Try.prog W .any base t v := hval0
  clear hval0
  have hW' := hW
  obtain ⟨p, q, hA0, hV, rfl, hfz, hnd⟩ := hW
  have hA : DataW.TrodAll enc Try.prog W 0 (fun _ => true) true Try.f5.params.toList args.toList ds p := hA0
  rw [Try.params5] at hA hval
  obtain ⟨v0, vs0, d0, ds0, p0, q0, hargs, rfl, rfl, h0, r0⟩ := trodAll_cons hA
  obtain ⟨rfl, rfl, rfl⟩ := trodAll_nil r0
  obtain rfl : args = #[v0] := by cases args; simp_all
  obtain ⟨rfl, rfl⟩ := trodVars_none hV
  obtain ⟨c0_0, c0_1, c0_2, y0_0, y0_1, y0_2, m0, rfl, rfl, rfl, hy0_0, hy0_1, hy0_2⟩ := open_agg3 Try.underlying39 (by kernel_rfl) (by kernel_rfl) (hval 0 39 v0 rfl rfl) h0
  obtain ⟨a0_0, e0_0, rfl, w0_0⟩ := DataW.trod_int Try.underlying3 hy0_0
  simp at e0_0
  subst e0_0
  obtain ⟨a0_1, e0_1, rfl, w0_1⟩ := DataW.trod_int Try.underlying3 hy0_1
  simp at e0_1
  subst e0_1
  obtain ⟨a0_2, e0_2, rfl, w0_2⟩ := DataW.trod_int Try.underlying22 hy0_2
  simp at e0_2
  subst e0_2
  clear hA0
  refine (walk a0_0 w0_0 a0_1 w0_1 a0_2 w0_2 W).mono fun e W' ⟨he, hb⟩ => ?_
  subst he
  exact ⟨_, rfl, law_post laidOut (by kernel_rfl) rfl Try.underlying4 rfl hW' rfl hb⟩

set_option maxRecDepth 100000 in
theorem lifted (os : Os) (started : os.Started) (H : Type) (enc : TypeId × Value → H) :
    ReturnsInHanded {} Try.checked os 5 .any (Rows.dueNilSpec.pre6 enc Try.prog Try.f5 Rows.dueNilRow.domain false) (Rows.dueNilSpec.post enc Try.prog Try.f5 false true false false) := by
  refine returnsInHanded_of_change (C := Try.checked) own started (by kernel_rfl) Try.func5
    (ChangeSpec.witness6 (enc := enc) (C := Try.checked) false ⟨#[], #[.agg #[.int .i64 0, .int .i64 0, .int .u64 0]], []⟩ 8 (by kernel_rfl) (by kernel_rfl) (by kernel_rfl) (by kernel_rfl)) ?_
  intro W base args ds gs before hval0 hW _ _
  exact contract H enc W base args ds gs before hval0 hW

/-- THE STATEMENT -/
theorem proved : Rows.DueNilSaid :=
  OpenClaim.holds_of_wide 5 Try.f5 rfl rfl rfl rfl rfl rfl rfl ⟨rfl, rfl, rfl, rfl, rfl⟩ rfl rfl rfl rfl rfl (by kernel_rfl) Try.func5 (by kernel_rfl)
    (of_decide_eq_true (by kernel_rfl)) (by unfold Func.isWrapper; first | (rw [if_pos (by decide +kernel)]; kernel_rfl) | (rw [if_neg (by decide +kernel)]; exact ⟨rfl, rfl⟩))
    (fun os started H enc _ => lifted os started H enc)
end dueNil
end Go.Proofs.Ytlhajdmleefkiaa
