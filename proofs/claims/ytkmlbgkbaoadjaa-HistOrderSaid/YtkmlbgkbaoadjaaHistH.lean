/-
  The law HistAdds: how many runtimes every histogram has, whether it may be, and what it is with one more.
-/
import Derived.Test.YtkmlbgkbaoadjaaHistF
import Derived.Test.YtkmlbgkbaoadjaaHistG
import Derived.Test.YtkmlbgkbaoadjaaRegion
import Derived.Test.YtkmlbgkbaoadjaaOpens
namespace Go.Proofs.Ytkmlbgkbaoadjaa
open Go.RowKit Bt Go.Deep
open Go.ChangeShapes Go.WideShapes Go.ChangeAt
set_option linter.unusedVariables false
section
variable {H : Type} {enc : TypeId × Value → H} {W : World} {base : Nat} {spare : Nat → Bool} {held : Bool}
/-- a histogram that comes in -/
theorem hist_open {r : Reach} {b0 : Nat} {v : Value} {d : DataW H} {p : List MemPlace} (hv : Value.okWide Try.prog W r b0 28 v) (h : DataW.Trod enc Try.prog W base spare held 28 v d p) :
    ∃ f : Nat → Int, v = .agg (hc f) := by
  have hv2 := hv
  simp only [Value.okWide, Try.underlying28] at hv2
  obtain ⟨cs, rfl, hsz, _⟩ := hv2
  have hs16 : cs.size = 16 := hsz.trans (by kernel_rfl)
  obtain ⟨fuel, hf⟩ := h
  obtain ⟨xs, n, _, _, hl, hx, hi⟩ := DataW.trod_array Try.underlying28 hf
  have h1 : Try.prog.cellsOf 3 = 1 := by kernel_rfl
  have each : ∀ i, i < 16 → ∃ q : Int, cs[i]? = some (.int .i64 q) := fun i hil => by
    have e := hi i hil
    rw [h1, List.getElem?_eq_getElem (by omega)] at e
    obtain ⟨q, hq, _, _⟩ := DataW.trod_int Try.underlying3 e
    refine ⟨q, ?_⟩
    have h0 := congrArg (·[0]?) hq
    simp only [Value.cells, List.getElem?_take, List.getElem?_drop] at h0
    simpa using h0
  obtain ⟨f, hf2⟩ := choose_lt each
  refine ⟨f, congrArg Value.agg ?_⟩
  apply Array.ext_getElem?
  intro i
  by_cases h : i < 16
  · rw [hf2 i h, hc_get f h]
  · rw [Array.getElem?_eq_none (by omega), Array.getElem?_eq_none (by rw [hc_size]; omega)]
end
/-- what the walk keeps: the histogram that came in, the one with one more -/
def HKeeps (w : World) (f : Nat → Int) (C : Nat) (g : Nat → Int) (w' : World) : Prop := HB w' w.heap.size f ∧ HB w' C g ∧ Below w.heap.size w w'
theorem HKeeps.next {w w' w'' : World} {f g : Nat → Int} {C : Nat} (h : HKeeps w f C g w') (hb : Below w'.heap.size w' w'') : HKeeps w f C g w'' := ⟨h.1.below hb (Nat.le_refl _), h.2.1.below hb (Nat.le_refl _), below_next h.2.2 hb⟩
theorem HKeeps.drew {w w' : World} {f g : Nat → Int} {C : Nat} (h : HKeeps w f C g w') : HKeeps w f C g w'.drew := ⟨h.1, h.2.1, h.2.2.drew⟩
theorem HKeeps.made {w w1 : World} {f g : Nat → Int} (hA : HB w1 w.heap.size f) (hb : Below w.heap.size w w1) : HKeeps w f w1.heap.size g ((w1.alloc (.cells (hc Hs.z) 28)).setRow w1.heap.size (hc g)) :=
  ⟨(hA.below ((Below.refl _ w1).alloc (Nat.le_refl _) _) (Nat.le_refl _)).row_other (by have := hA.lt; omega) _, HB.row (HB.made w1 Hs.z) g, below_setRow (hb.alloc hb.size _) hb.size _⟩
/-- the row of numbers is far from the ints' ends up to j -/
def Far (f : Nat → Int) (j : Nat) : Prop := ∀ i, i < j → -1125899906842624 ≤ f i ∧ f i ≤ 1125899906842624
theorem Far.step {f : Nat → Int} {j : Nat} (h : Far f j) (h1 : ¬ f j < -1125899906842624) (h2 : ¬ 1125899906842624 < f j) : Far f (j + 1) := fun i hi => by
  by_cases e : i = j
  · subst e; omega
  · exact h i (by omega)
namespace histAdds
set_option maxHeartbeats 4000000 in
set_option maxRecDepth 100000 in
theorem walk (f : Nat → Int) (a : Int) (wa : (Lit.int .u64 a).wf = true) (w : World) :
    Calls Try.prog 4 #[.agg (hc f), .int .u64 a] w fun e w' => e = .returned (.bool true) ∧ Below w.heap.size w w' := by
  obtain ⟨v, rfl, hv⟩ := u64_nat wa
  have hba : Below w.heap.size w (w.alloc (.cells (hc f) 28)) := (Below.refl _ w).alloc (Nat.le_refl _) _
  have HBA := Lib.hid hba
  have HMK := Lib.hid (HB.made w f)
  have HA := Lib.hid (fun w => add_any f v hv w)
  have HRA := Lib.hid (fun w => radd_any f v hv w)
  clear hba wa hv
  go_enter Try.func4, Try.ntmps4
  go_wp2
  go_loopw [5] (fun i wr => ∃ j : Nat, i = .int .i64 j ∧ Hid (j ≤ 16) ∧ Hid (Far f j) ∧ Hid (HB wr w.heap.size f) ∧ Hid (Below w.heap.size w wr)) (fun i _ => 16 - (intOf i).toNat)
  case atStart => exact ⟨0, rfl, Lib.hid (by decide), Lib.hid (fun i hi => absurd hi (Nat.not_lt_zero _)), HMK, HBA⟩
  case round =>
    obtain ⟨j, rfl, hj, hfar, hblk, hb⟩ := hrel
    by_cases hlt : j < 16
    · have hx := HB.cell hblk.out hlt
      have HL := Lib.hid hlt
      obtain ⟨x, hx'⟩ : ∃ x, f j = x := ⟨_, rfl⟩
      rw [hx'] at hx
      have HX := Lib.hid hx'
      have f2 : IntKind.i64.wrap ((j : Int) + 1) = ((j + 1 : Nat) : Int) := by rw [IntKind.wrap_i64]; omega
      clear hj hx'
      by_cases h1 : x < -1125899906842624
      · go_wp2_with fail
        refine (hist_live _).mono ?_
        rintro e w1 ⟨rfl, hb1⟩
        go_wp2
        go_ret
        exact ⟨rfl, below_next hb.out hb1⟩
      · by_cases h2 : 1125899906842624 < x
        · go_wp2_with fail
          refine (hist_live _).mono ?_
          rintro e w1 ⟨rfl, hb1⟩
          go_wp2
          go_ret
          exact ⟨rfl, below_next hb.out hb1⟩
        · go_wp2
          go_roundw
          case rel => exact ⟨j + 1, rfl, Lib.hid HL.out, Lib.hid (hfar.out.step (by rw [HX.out]; exact h1) (by rw [HX.out]; exact h2)), hblk, hb⟩
          case measure => simp [intOf]; have := HL.out; omega
    · have he : j = 16 := by have := hj.out; omega
      subst he
      have HT := Lib.hid (fun w => total_any f hfar.out w)
      have HRT := Lib.hid (fun w => rtotal_any f hfar.out w)
      have HR := Lib.hid (fun w => right_any f w)
      have HRR := Lib.hid (fun w => rright_any f w)
      have hg : Hs.rt f = true → (∀ w, Calls Try.prog 12 #[.agg (hc (Hs.ad f v))] w fun e w' => e = .returned (.bool true) ∧ Below w.heap.size w w') ∧
          ∃ T, 1 ≤ T ∧ ∀ w, Calls Try.prog 15 #[.agg (hc (Hs.ad f v))] w fun e w' => e = .returned (.int .i64 T) ∧ Below w.heap.size w w' := fun h => by
        obtain ⟨g1, g2⟩ := Hs.right_ad h v
        have r := fun w => right_any (Hs.ad f v) w
        rw [g1] at r
        exact ⟨r, _, g2, fun w => total_any _ (In.far (Hs.rt_iff.1 g1).1) w⟩
      obtain ⟨g, hg'⟩ : ∃ g, Hs.ad f v = g := ⟨_, rfl⟩
      rw [hg'] at hg HA HRA
      obtain ⟨R, hR⟩ : ∃ R, Hs.rt f = R := ⟨_, rfl⟩
      rw [hR] at HR HRR hg
      obtain ⟨t, ht⟩ : ∃ t, Hs.tot f = t := ⟨_, rfl⟩
      rw [ht] at HT HRT
      have HG := Lib.hid hg
      have HI := Lib.hid (hist_info g)
      have HO := Lib.hid (hc_one g)
      have hEQ : ∀ w, (Op.equalIn 10000 28 (.agg (hc g)) (.agg (hc g))).run Try.prog w = .ok true w := fun w => by rw [eq_hc, same_self]
      clear hg hg' hR ht hlt hj
      go_wp2_with (refine ld_row (by rfl) 28 _ rfl w.heap.size rfl _ _ _ _ hblk.out Try.underlying28 rfl (by kernel_rfl) ?_)
      refine (HA.out _).mono ?_
      rintro e wA ⟨rfl, hb1⟩
      have HK := Lib.hid (HKeeps.made (g := g) (hblk.out.below hb1 (Nat.le_refl _)) (below_next hb.out hb1))
      have HZ := Lib.hid (HB.made wA Hs.z)
      clear hb1
      go_wp2_with (first
        | (refine wpList_store_row rfl 28 _ _ rfl wA.heap.size (hc g) rfl rfl 28 (hc Hs.z) HZ.out HI.out rfl HO.out ?_)
        | fail)
      refine wp_region_text (S := (fun w' => HKeeps w f wA.heap.size g w')) (by kernel_rfl) ?_ ?_
      · exact HK.out.drew
      repeat (first
        | (refine anyR_value (v := ?_) (by kernel_rfl) (by rfl) (fun _ _ _ h => h) (fun w1 hS => ?_) ?_
           rotate_left
           · (refine ex_row 28 ?ex ?eh w.heap.size ?ey _ _ _ hS.1 Try.underlying28 rfl (by kernel_rfl); (case eh => rfl); (case ey => rfl))
           simp only [Act.put, List.setIfInBounds_toArray, List.set_cons_zero, List.set_cons_succ])
        | (refine anyR_value (v := ?_) (by kernel_rfl) (by rfl) (fun _ _ _ h => h) (fun w1 hS => ?_) ?_
           rotate_left
           · (refine ex_row 28 ?gx ?gh wA.heap.size ?gy _ _ _ hS.2.1 Try.underlying28 rfl (by kernel_rfl); (case gh => rfl); (case gy => rfl))
           simp only [Act.put, List.setIfInBounds_toArray, List.set_cons_zero, List.set_cons_succ])
        | (refine anyR_value (v := ?_) (by kernel_rfl) (by rfl) (fun _ _ _ h => h) (fun w1 hS => ?_) ?_
           rotate_left
           · go_simp
             with_reducible rfl
           simp only [Act.put, List.setIfInBounds_toArray, List.set_cons_zero, List.set_cons_succ])
        | (refine anyR_not (by kernel_rfl) (by rfl) (fun _ _ _ h => h) ?_
           simp only [Act.put, List.setIfInBounds_toArray, List.set_cons_zero, List.set_cons_succ])
        | (refine anyR_call (v := ?_) (f := ?_) (args := ?_) (by kernel_rfl) (by rfl) (fun _ _ _ h => h) (fun w1 hS => ?_) (fun w1 hS => ?_) ?_
           rotate_left 3
           · go_simp
             (try constructor) <;> with_reducible rfl
           · first
               | (with_reducible refine ((HR.out _).mono ?_); rintro e w' ⟨rfl, hb⟩; refine ⟨?_, hS.next hb⟩; with_reducible rfl)
               | (with_reducible refine ((HRR.out _).mono ?_); rintro e w' ⟨rfl, hb⟩; refine ⟨?_, hS.next hb⟩; with_reducible rfl)
               | (with_reducible refine ((HRA.out _).mono ?_); rintro e w' ⟨rfl, hb⟩; refine ⟨?_, hS.next hb⟩; with_reducible rfl)
               | (with_reducible refine ((HT.out _).mono ?_); rintro e w' ⟨rfl, hb⟩; refine ⟨?_, hS.next hb⟩; with_reducible rfl)
               | (with_reducible refine ((HRT.out _).mono ?_); rintro e w' ⟨rfl, hb⟩; refine ⟨?_, hS.next hb⟩; with_reducible rfl)
           simp only [Act.put, List.setIfInBounds_toArray, List.set_cons_zero, List.set_cons_succ])
        | refine anyR_done (by kernel_rfl) (fun w1 hS => ?_))
      have HK3 := Lib.hid hS
      clear hS
      cases R
      · go_wp2_with (refine ld_row (by rfl) 28 _ rfl w.heap.size rfl _ _ _ _ HK3.out.1 Try.underlying28 rfl (by kernel_rfl) ?_)
        refine (HRR.out _).mono ?_
        rintro e w4 ⟨rfl, hb4⟩
        have HK4 := Lib.hid (HK3.out.next hb4)
        clear hb4
        go_wp2_with fail
        refine (hist_live _).mono ?_
        rintro e w5 ⟨rfl, hb5⟩
        go_wp2
        go_ret
        exact ⟨rfl, below_next HK4.out.2.2 hb5⟩
      · obtain ⟨g1, T, hT, g2⟩ := HG.out rfl
        have G1 := Lib.hid g1
        have G2 := Lib.hid g2
        clear g1 g2
        go_wp2_with (refine ld_row (by rfl) 28 _ rfl w.heap.size rfl _ _ _ _ HK3.out.1 Try.underlying28 rfl (by kernel_rfl) ?_)
        refine (HRR.out _).mono ?_
        rintro e w4 ⟨rfl, hb4⟩
        have HK4 := Lib.hid (HK3.out.next hb4)
        clear hb4
        go_wp2_with (refine ld_row (by rfl) 28 _ rfl wA.heap.size rfl _ _ _ _ HK4.out.2.1 Try.underlying28 rfl (by kernel_rfl) ?_)
        refine (G1.out _).mono ?_
        rintro e w5 ⟨rfl, hb5⟩
        have HK5 := Lib.hid (HK4.out.next hb5)
        clear hb5
        go_wp2_with (refine ld_row (by rfl) 28 _ rfl wA.heap.size rfl _ _ _ _ HK5.out.2.1 Try.underlying28 rfl (by kernel_rfl) ?_)
        refine (G2.out _).mono ?_
        rintro e w6 ⟨rfl, hb6⟩
        have HK6 := Lib.hid (HK5.out.next hb6)
        clear hb6
        go_wp2_with fail
        refine (hist_live _).mono ?_
        rintro e w7 ⟨rfl, hb7⟩
        go_wp2
        go_ret
        exact ⟨rfl, below_next HK6.out.2.2 hb7⟩
theorem own : ownKnob Try.prog.godebug = none := by kernel_rfl
theorem laidOut : laidOutB Try.prog = true := by kernel_rfl
set_option maxRecDepth 100000 in
theorem contract (H : Type) (enc : TypeId × Value → H) (W : World) (base : Nat) (args : Array Value) (ds gs : List (DataW H)) (before : List MemPlace)
    (hval0 : ∀ (j : Nat) t v, Try.f4.params[j]? = some t → args[j]? = some v → Value.okWide Try.prog W .any base t v)
    (hW : DataW.Whole enc Try.prog Try.f4.params.toList Rows.histAddsSpec.vars false W args.toList ds gs before) :
    Calls Try.prog 4 args W fun e W' => ∃ v, e = .returned v ∧ Rows.histAddsSpec.post enc Try.prog Try.f4 false true false false W args v W' := by
  have hval : ∀ (j : Nat) t v, Try.f4.params[j]? = some t → args[j]? = some v → Value.okWide Try.prog W .any base t v := hval0
  clear hval0
  have hW' := hW
  obtain ⟨p, q, hA0, hV, rfl, hfz, hnd⟩ := hW
  have hA : DataW.TrodAll enc Try.prog W 0 (fun _ => true) true Try.f4.params.toList args.toList ds p := hA0
  rw [Try.params4] at hA hval
  obtain ⟨v0, vs0, d0, ds0, p0, q0, hargs, rfl, rfl, h0, r0⟩ := trodAll_cons hA
  obtain ⟨v1, vs1, d1, ds1, p1, q1, rfl, rfl, rfl, h1, r1⟩ := trodAll_cons r0
  obtain ⟨rfl, rfl, rfl⟩ := trodAll_nil r1
  obtain rfl : args = #[v0, v1] := by cases args; simp_all
  obtain ⟨rfl, rfl⟩ := trodVars_none hV
  obtain ⟨a1, rfl, rfl, rfl, w1⟩ := open_int Try.underlying22 (hval 1 22 v1 rfl rfl) h1
  clear hA0
  obtain ⟨f0, rfl⟩ := hist_open (hval 0 28 v0 rfl rfl) h0
  refine (walk f0 a1 w1 W).mono fun e W' ⟨he, hb⟩ => ?_
  subst he
  exact ⟨_, rfl, law_post laidOut (by kernel_rfl) rfl Try.underlying4 rfl hW' rfl hb⟩

set_option maxRecDepth 100000 in
theorem lifted (os : Os) (started : os.Started) (H : Type) (enc : TypeId × Value → H) :
    ReturnsInHanded {} Try.checked os 4 .any (Rows.histAddsSpec.pre6 enc Try.prog Try.f4 Rows.histAddsRow.domain false) (Rows.histAddsSpec.post enc Try.prog Try.f4 false true false false) := by
  refine returnsInHanded_of_change (C := Try.checked) own started (by kernel_rfl) Try.func4
    (ChangeSpec.witness6 (enc := enc) (C := Try.checked) false ⟨#[], #[.agg (hc Hs.z), .int .u64 0], []⟩ 8 (by kernel_rfl) (by kernel_rfl) (by kernel_rfl) (by kernel_rfl)) ?_
  intro W base args ds gs before hval0 hW _ _
  exact contract H enc W base args ds gs before hval0 hW

/-- THE STATEMENT -/
theorem proved : Rows.HistAddsSaid :=
  OpenClaim.holds_of_wide 4 Try.f4 rfl rfl rfl rfl rfl rfl rfl ⟨rfl, rfl, rfl, rfl, rfl⟩ rfl rfl rfl rfl rfl (by kernel_rfl) Try.func4 (by kernel_rfl)
    (of_decide_eq_true (by kernel_rfl)) (by unfold Func.isWrapper; first | (rw [if_pos (by decide +kernel)]; kernel_rfl) | (rw [if_neg (by decide +kernel)]; exact ⟨rfl, rfl⟩))
    (fun os started H enc _ => lifted os started H enc)
end histAdds
end Go.Proofs.Ytkmlbgkbaoadjaa
