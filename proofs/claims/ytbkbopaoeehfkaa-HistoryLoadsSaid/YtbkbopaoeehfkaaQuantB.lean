/-
  CONTRACTS OF LAYER 11 (quant), part B: Place.
-/
import Derived.Test.YtbkbopaoeehfkaaQuantA
import Derived.Test.YtbkbopaoeehfkaaHistD
namespace Go.Proofs.Ytbkbopaoeehfkaa
open Go.RowKit Go.Shelf
set_option linter.unusedVariables false
attribute [local go_sem] Oper.semAt_some

/-- what Place keeps in memory: the histogram, its two results, and what lay before -/
structure PK (w : World) (f : Nat → Int) (x : Int) (b : Bool) (w' : World) : Prop where
  hist : HB w' w.heap.size f
  num : Boxed w' (w.heap.size + 1) 3 (.int .i64 x)
  flag : Boxed w' (w.heap.size + 1 + 1) 4 (.bool b)
  low : Below w.heap.size w w'
theorem Boxed.low {w w' : World} {B k : Nat} {t : TypeId} {v : Value} (h : Boxed w k t v) (hb : Below B w w') (hB : w.heap.size ≤ B) : Boxed w' k t v := by
  unfold Boxed
  rw [hb.block k (Nat.lt_of_lt_of_le h.lt hB)]
  exact h
theorem PK.next {w w' w'' : World} {f : Nat → Int} {x : Int} {b : Bool} (h : PK w f x b w') (hb : Below w'.heap.size w' w'') : PK w f x b w'' :=
  ⟨h.hist.below hb (Nat.le_refl _), Boxed.low h.num hb (Nat.le_refl _), Boxed.low h.flag hb (Nat.le_refl _), below_next h.low hb⟩
theorem PK.drew {w w' : World} {f : Nat → Int} {x : Int} {b : Bool} (h : PK w f x b w') : PK w f x b w'.drew := ⟨h.hist, h.num, h.flag, h.low.drew⟩
theorem PK.made (w : World) (f : Nat → Int) : PK w f 0 false (((w.alloc (.cells (hc f) 49)).alloc (.cells #[.int .i64 0] 3)).alloc (.cells #[.bool false] 4)) := by
  have h1 := HB.made w f
  have h2 := Boxed.new (w.alloc (.cells (hc f) 49)) 3 (.int .i64 0)
  have h3 := Boxed.new ((w.alloc (.cells (hc f) 49)).alloc (.cells #[.int .i64 0] 3)) 4 (.bool false)
  simp only [World.size_alloc] at h2 h3
  have b1 : Below (w.alloc (.cells (hc f) 49)).heap.size (w.alloc (.cells (hc f) 49)) (((w.alloc (.cells (hc f) 49)).alloc (.cells #[.int .i64 0] 3)).alloc (.cells #[.bool false] 4)) := ((Below.refl _ _).alloc (Nat.le_refl _) _).alloc (by simp) _
  exact ⟨h1.below b1 (Nat.le_refl _), h2.alloc _, h3, (((Below.refl _ w).alloc (Nat.le_refl _) _).alloc (by simp) _).alloc (by simp; omega) _⟩
theorem PK.store {w w' : World} {f : Nat → Int} {x : Int} {b : Bool} (h : PK w f x b w') (y : Int) (c : Bool) :
    PK w f y c ((w'.setCell ⟨w.heap.size + 1, 0, none⟩ (.int .i64 y)).setCell ⟨w.heap.size + 1 + 1, 0, none⟩ (.bool c)) :=
  ⟨HB.other (HB.other h.hist (a := ⟨w.heap.size + 1, 0, none⟩) (by simp) _) (a := ⟨w.heap.size + 1 + 1, 0, none⟩) (by simp; omega) _,
    Boxed.other (Boxed.set _ h.num) (by omega) _, Boxed.set _ (Boxed.other h.flag (by omega) _),
    (h.low.setCell (p := ⟨w.heap.size + 1, 0, none⟩) (by simp) _).setCell (p := ⟨w.heap.size + 1 + 1, 0, none⟩) (by simp; omega) _⟩
theorem PK.least {w w2 : World} {f : Nat → Int} (h : PK w f 0 false w2) (L : Int) :
    PK w f 0 false (w2.alloc (.cells #[.int .i64 L] 3)) ∧ Boxed (w2.alloc (.cells #[.int .i64 L] 3)) w2.heap.size 3 (.int .i64 L) :=
  ⟨h.next ((Below.refl _ w2).alloc (Nat.le_refl _) _), Boxed.new w2 3 (.int .i64 L)⟩
theorem PK.row {w w2 w3 : World} {f : Nat → Int} {L : Int} (h : PK w f 0 false (w2.alloc (.cells #[.int .i64 L] 3)) ∧ Boxed (w2.alloc (.cells #[.int .i64 L] 3)) w2.heap.size 3 (.int .i64 L))
    (e : w3 = (w2.alloc (.cells #[.int .i64 L] 3)).alloc (.cells (hc f) 49)) :
    PK w f 0 false w3 ∧ Boxed w3 w2.heap.size 3 (.int .i64 L) ∧ HB w3 (w2.heap.size + 1) f ∧ w.heap.size ≤ w3.heap.size := by
  subst e
  have hb : Below (w2.alloc (.cells #[.int .i64 L] 3)).heap.size (w2.alloc (.cells #[.int .i64 L] 3)) ((w2.alloc (.cells #[.int .i64 L] 3)).alloc (.cells (hc f) 49)) := (Below.refl _ _).alloc (Nat.le_refl _) _
  have h4 := h.1.next hb
  have h5 := HB.made (w2.alloc (.cells #[.int .i64 L] 3)) f
  rw [World.size_alloc] at h5
  exact ⟨h4, h.2.alloc _, h5, h4.low.size⟩
/-- between two rounds: no bucket that came has the share; the cells -/
structure Going (w : World) (f : Nat → Int) (p L : Int) (g : Nat) (pre : List B16) (W : World) : Prop where
  no : ∀ y ∈ pre, Qu.hit f p y.1 = false
  bar : Boxed W g 3 (.int .i64 L)
  num : Boxed W (w.heap.size + 1) 3 (.int .i64 0)
  flag : Boxed W (w.heap.size + 1 + 1) 4 (.bool false)
theorem Going.own {w : World} {f : Nat → Int} {p L : Int} {g : Nat} : Own (Going w f p L g) := fun s A B row hs hg hr =>
  ⟨hs.no, boxed_own g _ (fun _ : Unit => _) () A B row hs.bar hg hr, boxed_own _ _ (fun _ : Unit => _) () A B row hs.num hg hr, boxed_own _ _ (fun _ : Unit => _) () A B row hs.flag hg hr⟩
/-- the loop is left: the last one that came has the share, the others do not -/
def Found (w : World) (f : Nat → Int) (p : Int) (pre : List B16) (W : World) : Prop := ∃ y ∈ pre, Qu.hit f p y.1 = true ∧ (∀ x ∈ pre, x ≠ y → Qu.hit f p x.1 = false) ∧
  Boxed W (w.heap.size + 1) 3 (.int .i64 (y.1 : Nat)) ∧ Boxed W (w.heap.size + 1 + 1) 4 (.bool true)
theorem Found.own {w : World} {f : Nat → Int} {p : Int} : Own (Found w f p) := fun s A B row ⟨y, hy, h1, h2, h3, h4⟩ hg hr =>
  ⟨y, hy, h1, h2, boxed_own _ _ (fun _ : Unit => _) () A B row h3 hg hr, boxed_own _ _ (fun _ : Unit => _) () A B row h4 hg hr⟩
theorem leave_none {fn : Func} {n : Nat} {tmps : Array Value} {R : Ending → World → Prop} {w : World} {v : Value} (hr : (results fn tmps).run Try.prog w = .ok v w) (hR : R (.returned v) w) :
    LeavesInM Fence.wide n Try.prog fn tmps R [] .returning w := ⟨v, hr, hR⟩
theorem place_results {w : World} {tmps : Array Value} {a b : Nat} {x : Int} {y : Bool} (ha : tmps[4]?.getD undef = .pointer (some ⟨a, 0, none⟩)) (hb : tmps[5]?.getD undef = .pointer (some ⟨b, 0, none⟩))
    (h1 : w.cell? ⟨a, 0, none⟩ = some (.int .i64 x)) (h2 : w.cell? ⟨b, 0, none⟩ = some (.bool y)) : (results Try.f43 tmps).run Try.prog w = .ok (.tuple #[.int .i64 x, .bool y]) w := by
  simp [results, Try.f43, go_sem, ha, hb, h1, h2]
theorem ret_pl {x y : Int} {a b : Bool} (h : x = y) (k : a = b) : Ending.returned (.tuple #[.int .i64 x, .bool a]) = .returned (.tuple #[.int .i64 y, .bool b]) := by rw [h, k]

set_option maxRecDepth 100000 in
set_option maxHeartbeats 2000000 in
theorem place_any (f : Nat → Int) (p : Int) (w : World) :
    Calls Try.prog 43 #[.agg (hc f), .int .i64 p] w fun e w' => e = .returned (.tuple #[.int .i64 (Qu.pv f p : Nat), .bool (Qu.ok f p)]) ∧ Below w.heap.size w w' := by
  have hmk := PK.made w f
  have HMK := Lib.hid hmk.hist
  have HPK := Lib.hid hmk
  have HR := Lib.hid (fun w => right_any f w)
  obtain ⟨V, hV⟩ : ∃ V, Qu.pv f p = V := ⟨_, rfl⟩
  obtain ⟨K, hK⟩ : ∃ K, Qu.ok f p = K := ⟨_, rfl⟩
  rw [hV, hK]
  have EV := Lib.hid hV
  have EK := Lib.hid hK
  clear hmk hV hK
  refine (callsIn_wide (n := 4)).1 ?_
  refine callsIn_of_wp_marks Try.func43 rfl trivial ?_ rfl
  simp only [Try.ntmps43, List.size_toArray, List.length_cons, List.length_nil, Nat.reduceAdd, Nat.reduceSub, Array.replicate_succ, Array.replicate_zero, List.push_toArray, List.append_toArray, List.nil_append, List.cons_append]
  refine wpIn_wide.2 ?_
  cases hr : Hs.rt f
  · have K0 : Hid (K = false) := Lib.hid (by rw [← EK.out]; exact Qu.ok_not fun h => by rw [hr] at h; cases h.1)
    have V0 : Hid (V = 0) := Lib.hid (by rw [← EV.out]; exact Qu.pv_no (EK.out.trans K0.out))
    rw [hr] at HR
    clear hr
    go_wp2_with (refine ld_row (by rfl) 49 _ rfl w.heap.size rfl _ _ _ _ HMK.out Try.underlying49 rfl (by kernel_rfl) ?_)
    refine (HR.out _).mono ?_
    rintro e w1 ⟨rfl, hb⟩
    have hp := HPK.out.next hb
    have c1 := hp.num.cell
    have c2 := hp.num.frozen
    have c3 := hp.flag.cell
    have c4 := hp.flag.frozen
    have HP := Lib.hid hp
    clear hp hb
    go_wp2
    have h2 := HP.out.store 0 false
    exact leave_none (place_results rfl rfl h2.num.cell h2.flag.cell) ⟨ret_pl (by rw [V0.out]; rfl) K0.out.symm, h2.low⟩
  · by_cases hp1 : p < 1
    · have K0 : Hid (K = false) := Lib.hid (by rw [← EK.out]; exact Qu.ok_not fun h => by have := h.2.2.1; omega)
      have V0 : Hid (V = 0) := Lib.hid (by rw [← EV.out]; exact Qu.pv_no (EK.out.trans K0.out))
      rw [hr] at HR
      clear hr
      go_wp2_with (refine ld_row (by rfl) 49 _ rfl w.heap.size rfl _ _ _ _ HMK.out Try.underlying49 rfl (by kernel_rfl) ?_)
      refine (HR.out _).mono ?_
      rintro e w1 ⟨rfl, hb⟩
      have hp := HPK.out.next hb
      have c1 := hp.num.cell
      have c2 := hp.num.frozen
      have c3 := hp.flag.cell
      have c4 := hp.flag.frozen
      have HP := Lib.hid hp
      clear hp hb
      go_wp2
      have h2 := HP.out.store 0 false
      exact leave_none (place_results rfl rfl h2.num.cell h2.flag.cell) ⟨ret_pl (by rw [V0.out]; rfl) K0.out.symm, h2.low⟩
    · by_cases hp2 : 100 < p
      · have K0 : Hid (K = false) := Lib.hid (by rw [← EK.out]; exact Qu.ok_not fun h => by have := h.2.2.2; omega)
        have V0 : Hid (V = 0) := Lib.hid (by rw [← EV.out]; exact Qu.pv_no (EK.out.trans K0.out))
        rw [hr] at HR
        clear hr
        go_wp2_with (refine ld_row (by rfl) 49 _ rfl w.heap.size rfl _ _ _ _ HMK.out Try.underlying49 rfl (by kernel_rfl) ?_)
        refine (HR.out _).mono ?_
        rintro e w1 ⟨rfl, hb⟩
        have hp := HPK.out.next hb
        have c1 := hp.num.cell
        have c2 := hp.num.frozen
        have c3 := hp.flag.cell
        have c4 := hp.flag.frozen
        have HP := Lib.hid hp
        clear hp hb
        go_wp2
        have h2 := HP.out.store 0 false
        exact leave_none (place_results rfl rfl h2.num.cell h2.flag.cell) ⟨ret_pl (by rw [V0.out]; rfl) K0.out.symm, h2.low⟩
      · obtain ⟨hin, ht64⟩ := Hs.rt_iff.1 hr
        have HT := Lib.hid (fun w => total_any f (In.far hin) w)
        have ht0 := Hs.In.tot hin
        obtain ⟨T, hT⟩ : ∃ T, Hs.tot f = T := ⟨_, rfl⟩
        rw [hT] at HT ht64 ht0
        have ET := Lib.hid hT
        have HIN := Lib.hid hin
        obtain ⟨L, hL⟩ : ∃ L, T * p = L := ⟨_, rfl⟩
        have hl1 : 0 ≤ T * p := Int.mul_nonneg ht0 (by omega)
        have hl2 : T * p ≤ 64 * 100 := Int.mul_le_mul ht64 (by omega) (by omega) (by decide)
        rw [hL] at hl1 hl2
        have f1 : IntKind.i64.wrap (T * p) = L := by rw [hL, IntKind.wrap_i64]; omega
        have EL := Lib.hid hL
        have HRT := Lib.hid hr
        rw [hr] at HR
        clear hr hT hin hL
        go_wp2_with (refine ld_row (by rfl) 49 _ rfl w.heap.size rfl _ _ _ _ HMK.out Try.underlying49 rfl (by kernel_rfl) ?_)
        refine (HR.out _).mono ?_
        rintro e w1 ⟨rfl, hb⟩
        have hp := HPK.out.next hb
        have c1 := hp.num.cell
        have c2 := hp.num.frozen
        have c3 := hp.flag.cell
        have c4 := hp.flag.frozen
        have HP := Lib.hid hp
        have HH := Lib.hid hp.hist
        clear hp hb
        go_wp2_with (refine ld_row (by rfl) 49 _ rfl w.heap.size rfl _ _ _ _ HH.out Try.underlying49 rfl (by kernel_rfl) ?_)
        refine (HT.out _).mono ?_
        rintro e w2 ⟨rfl, hb⟩
        clear c1 c2 c3 c4 HH
        have P3 := Lib.hid (PK.least (HP.out.next hb) L)
        have HH := Lib.hid P3.out.1.hist
        clear hb HP
        go_wp2_with (first
          | refine ld_row (by rfl) 49 _ rfl w.heap.size rfl _ _ _ _ HH.out Try.underlying49 rfl (by kernel_rfl) ?_
          | fail)
        refine (sums_any f _).mono ?_
        rintro e w3 ⟨rfl, hw3⟩
        go_wp2
        obtain ⟨hp3, hl3, hh3, hs3⟩ := PK.row P3.out hw3
        rw [← hw3]
        clear P3 HH hw3
        refine (wpIn_wide (n := 4)).1 ?_
        refine wpIn_rangeFunc_ownF rfl (by decide) (gf := 48) (lb := #[.pointer (some ⟨w2.heap.size + 1, 0, none⟩)]) rfl trivial (enters_of Try.func48 (by kernel_rfl) rfl)
          (sums_stops f HIN.out _ (w2.heap.size + 1) w3 hh3) walksK_t walksK_b (Below.refl _ _) (fun _ => rfl)
          (fun pre W => Going w f p L w2.heap.size pre W ∧ Below w.heap.size w W)
          (fun c pre W => (c = .ret ∧ Found w f p pre W) ∧ Below w.heap.size w W)
          (OwnFrom.and (Own.from Going.own _) (ownFrom_below (Nat.le_refl _) hs3))
          (fun c => OwnFrom.and (OwnFrom.and (ownFrom_pure _ _) (Own.from Found.own _)) (ownFrom_below (Nat.le_refl _) hs3))
          ⟨⟨fun y h => absurd h (List.not_mem_nil), hl3, hp3.num, hp3.flag⟩, hp3.low⟩ ?a1 ?assign ?body ?done ?stop
        case assign =>
          intro l x W K hK
          gi_wp2
          exact hK
        case body =>
          rintro l pre x W ⟨⟨hno, bL, b1, b2⟩, hB⟩ _
          have cL := bL.cell
          have c1 := b1.cell
          have c2 := b1.frozen
          have c3 := b2.cell
          have c4 := b2.frozen
          have hx16 := x.2
          have hs := Hs.su_small (f := f) (B := 64) (n := x.1 + 1) (fun i hi => by have := HIN.out i (by omega); omega)
          obtain ⟨s, hs'⟩ : ∃ s, Hs.su f (x.1 + 1) = s := ⟨_, rfl⟩
          rw [hs'] at hs
          have HS := Lib.hid hs'
          have f3 : IntKind.i64.wrap (s * 100) = s * 100 := by rw [IntKind.wrap_i64]; omega
          have HX := Lib.hid hx16
          clear hs hx16
          unfold enq
          rw [hs']
          clear hs'
          by_cases hh : L ≤ s * 100
          · gi_wp2
            refine ⟨(KeepsOthers.setCell _ _ _).trans (KeepsOthers.setCell _ _ _), ⟨rfl, x, List.mem_append_right _ (List.mem_singleton.2 rfl), Qu.hit_iff.2 (by rw [ET.out, EL.out, HS.out]; exact hh), fun z hz hne => ?_,
              Boxed.other (Boxed.set _ b1) (by omega) _, Boxed.set _ (Boxed.other b2 (by omega) _)⟩, (hB.setCell (p := ⟨w.heap.size + 1, 0, none⟩) (by simp) _).setCell (p := ⟨w.heap.size + 1 + 1, 0, none⟩) (by simp; omega) _⟩
            rcases List.mem_append.1 hz with h | h
            · exact hno z h
            · exact absurd (List.mem_singleton.1 h) hne
          · gi_wp2
            refine ⟨KeepsOthers.refl _, (KeepsOthers.refl _).walks, ⟨fun z hz => ?_, bL, b1, b2⟩, hB⟩
            rcases List.mem_append.1 hz with h | h
            · exact hno z h
            · rw [List.mem_singleton.1 h]
              exact Qu.hit_not.2 (by rw [ET.out, EL.out, HS.out]; omega)
        case done =>
          rintro D xs W hD hxs ⟨hgo, hB⟩ hK
          have c1 := hgo.num.cell
          have c2 := hgo.num.frozen
          have c3 := hgo.flag.cell
          have c4 := hgo.flag.frozen
          have K0 : Hid (K = false) := Lib.hid (by
            rw [← EK.out]
            refine Qu.ok_none HIN.out fun y hy h0 => ?_
            have hm : y ∈ xs.map (·.1) := by rw [hxs]; exact mem_cnt.2 ⟨hy, h0⟩
            obtain ⟨z, hz, rfl⟩ := List.mem_map.1 hm
            exact hgo.no z hz)
          have V0 : Hid (V = 0) := Lib.hid (by rw [← EV.out]; exact Qu.pv_no (EK.out.trans K0.out))
          go_wp2
          have hK' := ((KeepsOthers.setCell W ⟨w.heap.size + 1, 0, none⟩ (.int .i64 0)).trans (KeepsOthers.setCell _ ⟨w.heap.size + 1 + 1, 0, none⟩ (.bool false))).same D _ hK rfl
          have n1 : Boxed _ _ _ _ := boxed_own _ _ (fun _ : Unit => _) () _ _ _ (Boxed.other (Boxed.set (.int .i64 0) hgo.num) (B' := w.heap.size + 1 + 1) (by omega) (.bool false)) (grownBy_putObj' _ D (.deferred none)) (fun r e => by cases e; exact ⟨_, hK', rfl⟩)
          have n2 : Boxed _ _ _ _ := boxed_own _ _ (fun _ : Unit => _) () _ _ _ (Boxed.set (.bool false) (Boxed.other hgo.flag (B' := w.heap.size + 1) (by omega) (.int .i64 0))) (grownBy_putObj' _ D (.deferred none)) (fun r e => by cases e; exact ⟨_, hK', rfl⟩)
          refine ⟨by simp, .inl ⟨_, _, rfl, run_takeDeferred hK', leave_none (place_results rfl rfl n1.cell n2.cell) ⟨ret_pl (by rw [V0.out]; rfl) K0.out.symm, ?_⟩⟩⟩
          exact ((hB.setCell (p := ⟨w.heap.size + 1, 0, none⟩) (by simp) _).setCell (p := ⟨w.heap.size + 1 + 1, 0, none⟩) (by simp; omega) _).trans (belowK_b (w := w) (Nat.le_refl _) _ D _ _ (by omega) hK' rfl rfl)
        case stop =>
          rintro D c pre W hD ⟨k, hk, hpre⟩ ⟨⟨rfl, z, hz, hz1, hz2, b1, b2⟩, hB⟩ hK
          have hzc : z.1 ∈ cnt f k := by rw [← hpre]; exact List.mem_map.2 ⟨z, hz, rfl⟩
          obtain ⟨hzk, hz0⟩ := mem_cnt.1 hzc
          have hpl : Qu.pl f p = z.1 := Qu.pl_some HIN.out hp1 z.2 hz0 hz1 fun y hy h0 => by
            have hm : y ∈ pre.map (·.1) := by rw [hpre]; exact mem_cnt.2 ⟨by omega, h0⟩
            obtain ⟨x, hx, rfl⟩ := List.mem_map.1 hm
            exact hz2 x hx fun e => by rw [e] at hy; omega
          have K0 : Hid (K = true) := Lib.hid (by rw [← EK.out]; exact Qu.ok_some HRT.out hp1 hp2 z.2 hz0)
          have V0 : Hid (V = z.1) := Lib.hid (by rw [← EV.out, Qu.pv_ok (EK.out.trans K0.out)]; exact hpl)
          gi_wp2
          have n1 : Boxed _ _ _ _ := boxed_own _ _ (fun _ : Unit => _) () _ _ _ b1 (grownBy_putObj' _ D (.deferred none)) (fun r e => by cases e; exact ⟨_, hK, rfl⟩)
          have n2 : Boxed _ _ _ _ := boxed_own _ _ (fun _ : Unit => _) () _ _ _ b2 (grownBy_putObj' _ D (.deferred none)) (fun r e => by cases e; exact ⟨_, hK, rfl⟩)
          refine ⟨by simp, .inl ⟨_, _, rfl, run_takeDeferred hK, leave_none (place_results rfl rfl n1.cell n2.cell) ⟨ret_pl (by rw [V0.out]) K0.out.symm, ?_⟩⟩⟩
          exact hB.trans (belowK_b (w := w) (Nat.le_refl _) _ D _ _ (by omega) hK rfl rfl)
end Go.Proofs.Ytbkbopaoeehfkaa
