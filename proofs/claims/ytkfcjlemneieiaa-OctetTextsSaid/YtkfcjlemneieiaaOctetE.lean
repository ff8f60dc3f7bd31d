/-
  CONTRACTS OF LAYER 1 (octet), part E: Untext, of the program and of the page.
-/
import Derived.Test.YtkfcjlemneieiaaOctetD
namespace Go.Proofs.Ytkfcjlemneieiaa
open Go.RowKit Bt
set_option linter.unusedVariables false

/-- above: is v above most? -/
def abv (v : Nat) (most : Int) : Bool := decide (most < 0 ∨ most < (v : Int))
theorem u64_pos {m : Int} (h0 : 0 ≤ m) (h : m ≤ 9223372036854775807) : IntKind.u64.wrap m = m := u64_small h0 (by omega)
theorem ret_bool {a b : Bool} (h : a = b) : Ending.returned (.bool a) = .returned (.bool b) := by rw [h]
set_option maxHeartbeats 400000 in
theorem above_any (v : Nat) (most : Int) (w : World) (h : most ≤ 9223372036854775807) :
    Calls Try.prog 33 #[.int .u64 v, .int .i64 most] w fun e w' => e = .returned (.bool (abv v most)) ∧ w = w' := by
  by_cases hm : most < 0
  · have hf := Lib.hid (show abv v most = true by simp [abv, hm])
    go_enter Try.func33, Try.ntmps33
    go_wp2
    go_ret
    exact ⟨by rw [hf.out]; rfl, rfl⟩
  · by_cases hv : most < (v : Int)
    · have hf := Lib.hid (show abv v most = true by simp [abv, hv])
      go_enter Try.func33, Try.ntmps33
      go_wp2
      go_ret
      refine ⟨?_, rfl⟩
      rw [hf.out]
      rfl
    · have hf := Lib.hid (show abv v most = false by simp [abv]; omega)
      go_enter Try.func33, Try.ntmps33
      go_wp2
      go_ret
      refine ⟨?_, rfl⟩
      rw [hf.out]
      rfl
set_option maxHeartbeats 400000 in
theorem num_any (n : Int) (w : World) :
    Calls Try.prog 11 #[.int .i64 n] w fun e w' => e = .returned (.int .i64 n) ∧ w = w' := by
  go_enter Try.func11, Try.ntmps11
  go_wp2
  go_ret
  exact ⟨rfl, rfl⟩

theorem untx_err {l : List UInt8} {most : Int} {v n e : Nat} (hu : unch l = (v, n, e)) (he : e ≠ 0) : untx l most = ([], 0, e) := by
  unfold untx; rw [hu]; simp [he]
theorem untx_long {l : List UInt8} {most : Int} {v n e : Nat} (hu : unch l = (v, n, e)) (he : e = 0) (h : abv v most = true) : untx l most = ([], 0, 4) := by
  unfold untx; rw [hu, if_neg (by simp [he]), if_pos (of_decide_eq_true h)]
theorem untx_short {l : List UInt8} {most : Int} {v n e : Nat} (hu : unch l = (v, n, e)) (he : e = 0) (h : abv v most = false) (h2 : l.length - n < v) : untx l most = ([], 0, 2) := by
  unfold untx; rw [hu, if_neg (by simp [he]), if_neg (of_decide_eq_false h), if_pos h2]
theorem untx_ok {l : List UInt8} {most : Int} {v n e : Nat} (hu : unch l = (v, n, e)) (he : e = 0) (h : abv v most = false) (h2 : ¬ l.length - n < v) : untx l most = ((l.drop n).take v, n + v, 0) := by
  unfold untx; rw [hu, if_neg (by simp [he]), if_neg (of_decide_eq_false h), if_neg h2]
theorem ba_extract (s : ByteArray) (n v : Nat) : s.extract n (n + v) = ⟨((s.data.toList.drop n).take v).toArray⟩ := by
  apply ByteArray.ext
  simp only [ByteArray.data_extract]
  apply Array.ext'
  simp [Array.toList_extract, List.extract_eq_take_drop]
theorem ret_ut {a b : ByteArray} {x y z t : Int} (h : a = b) (h2 : x = y) (h3 : z = t) : Ending.returned (.tuple #[.string a, .int .i64 x, .int .i64 z]) = .returned (.tuple #[.string b, .int .i64 y, .int .i64 t]) := by rw [h, h2, h3]

set_option maxHeartbeats 400000 in
set_option maxRecDepth 100000 in
theorem untext_any (s : ByteArray) (most : Int) (w : World) (hs : s.size ≤ 9223372036854775807) (h : most ≤ 9223372036854775807) :
    Calls Try.prog 17 #[.string s, .int .i64 most] w fun e w' => e = .returned (.tuple #[.string ⟨(untx s.data.toList most).1.toArray⟩, .int .i64 (untx s.data.toList most).2.1, .int .i64 (untx s.data.toList most).2.2]) ∧ w = w' := by
  have hbd := unch_bd s.data.toList
  have hc := unchain_any s w hs
  obtain ⟨⟨v, n, e⟩, hu⟩ : ∃ t, unch s.data.toList = t := ⟨_, rfl⟩
  rw [hu] at hbd hc
  rw [ba_len] at hbd
  simp only at hbd hc
  obtain ⟨hb1, hb2, hb3, hb4⟩ := hbd
  have hab := above_any v most w h
  have hc' := Lib.hid hc
  have hu' := Lib.hid hu
  have hab' := Lib.hid hab
  have hlen := Lib.hid (ba_len s)
  clear hc hu hab
  by_cases he : e = 0
  · have hee := Lib.hid he
    have hE : ((e : Int) != 0) = false := by rw [he]; rfl
    clear he
    obtain ⟨b, hb⟩ : ∃ b, abv v most = b := ⟨_, rfl⟩
    have hb' := Lib.hid hb
    have hab2 := hab'.out
    rw [hb] at hab2
    have hab3 := Lib.hid hab2
    clear hb hab2 hab'
    cases b with
    | true =>
      have hf := Lib.hid (untx_long hu'.out hee.out hb'.out)
      go_enter Try.func17, Try.ntmps17
      go_wp2_with fail
      refine hc'.out.mono ?_
      rintro e w1 ⟨rfl, rfl⟩
      go_wp2_with fail
      refine hab3.out.mono ?_
      rintro e w1 ⟨rfl, rfl⟩
      go_wp2_with fail
      go_ret3
      exact ⟨by rw [hf.out]; rfl, rfl⟩
    | false =>
      by_cases hv : s.size - n < v
      · have hf := Lib.hid (untx_short hu'.out hee.out hb'.out (by rw [hlen.out]; exact hv))
        go_enter Try.func17, Try.ntmps17
        go_wp2_with fail
        refine hc'.out.mono ?_
        rintro e w1 ⟨rfl, rfl⟩
        go_wp2_with fail
        refine hab3.out.mono ?_
        rintro e w1 ⟨rfl, rfl⟩
        go_wp2_with fail
        all_goals go_ret3
        all_goals exact ⟨by rw [hf.out]; rfl, rfl⟩
      · have hf := Lib.hid (untx_ok hu'.out hee.out hb'.out (by rw [hlen.out]; exact hv))
        go_enter Try.func17, Try.ntmps17
        go_wp2_with fail
        refine hc'.out.mono ?_
        rintro e w1 ⟨rfl, rfl⟩
        go_wp2_with fail
        refine hab3.out.mono ?_
        rintro e w1 ⟨rfl, rfl⟩
        go_wp2_with fail
        all_goals go_ret3
        all_goals refine ⟨?_, rfl⟩
        all_goals rw [hf.out]
        all_goals exact ret_ut (ba_extract s n v) (by simp) rfl
  · have hee := Lib.hid he
    have hE : ((e : Int) != 0) = true := by rw [bne_iff_ne]; omega
    have hf := Lib.hid (untx_err (most := most) hu'.out he)
    clear he
    go_enter Try.func17, Try.ntmps17
    go_wp2_with fail
    refine hc'.out.mono ?_
    rintro e w1 ⟨rfl, rfl⟩
    go_wp2_with fail
    go_ret3
    exact ⟨by rw [hf.out]; rfl, rfl⟩
set_option maxHeartbeats 400000 in
set_option maxRecDepth 100000 in
theorem runtext_any (s : ByteArray) (most : Int) (w : World) (hs : s.size ≤ 9223372036854775807) (h : most ≤ 9223372036854775807) :
    Calls Try.prog 18 #[.string s, .int .i64 most] w fun e w' => e = .returned (.tuple #[.string ⟨(untx s.data.toList most).1.toArray⟩, .int .i64 (untx s.data.toList most).2.1, .int .i64 (untx s.data.toList most).2.2]) ∧ w = w' := by
  have hbd := unch_bd s.data.toList
  have hc := runchain_any s w hs
  obtain ⟨⟨v, n, e⟩, hu⟩ : ∃ t, unch s.data.toList = t := ⟨_, rfl⟩
  rw [hu] at hbd hc
  rw [ba_len] at hbd
  simp only at hbd hc
  obtain ⟨hb1, hb2, hb3, hb4⟩ := hbd
  have hc' := Lib.hid hc
  have hu' := Lib.hid hu
  have hlen := Lib.hid (ba_len s)
  clear hc hu
  by_cases he : e = 0
  · have hee := Lib.hid he
    have hE : ((e : Int) != 0) = false := by rw [he]; rfl
    clear he
    by_cases hm : most < 0
    · have hf := Lib.hid (untx_long (most := most) hu'.out hee.out (by simp [abv, hm]))
      go_enter Try.func18, Try.ntmps18
      go_wp2_with fail
      refine hc'.out.mono ?_
      rintro e w1 ⟨rfl, rfl⟩
      go_wp2_with fail
      all_goals go_ret3
      all_goals exact ⟨by rw [hf.out]; rfl, rfl⟩
    · by_cases hmv : most < (v : Int)
      · have hf := Lib.hid (untx_long (most := most) hu'.out hee.out (by simp [abv, hmv]))
        go_enter Try.func18, Try.ntmps18
        go_wp2_with fail
        refine hc'.out.mono ?_
        rintro e w1 ⟨rfl, rfl⟩
        go_wp2_with fail
        all_goals go_ret3
        all_goals exact ⟨by rw [hf.out]; rfl, rfl⟩
      · have hab : abv v most = false := by simp [abv]; omega
        by_cases hv : s.size - n < v
        · have hf := Lib.hid (untx_short hu'.out hee.out hab (by rw [hlen.out]; exact hv))
          clear hab
          go_enter Try.func18, Try.ntmps18
          go_wp2_with fail
          refine hc'.out.mono ?_
          rintro e w1 ⟨rfl, rfl⟩
          go_wp2_with fail
          all_goals go_ret3
          all_goals exact ⟨by rw [hf.out]; rfl, rfl⟩
        · have hf := Lib.hid (untx_ok hu'.out hee.out hab (by rw [hlen.out]; exact hv))
          clear hab
          go_enter Try.func18, Try.ntmps18
          go_wp2_with fail
          refine hc'.out.mono ?_
          rintro e w1 ⟨rfl, rfl⟩
          go_wp2_with fail
          all_goals go_ret3
          all_goals refine ⟨?_, rfl⟩
          all_goals rw [hf.out]
          all_goals exact ret_ut (ba_extract s n v) (by simp) rfl
  · have hee := Lib.hid he
    have hE : ((e : Int) != 0) = true := by rw [bne_iff_ne]; omega
    have hf := Lib.hid (untx_err (most := most) hu'.out he)
    clear he
    go_enter Try.func18, Try.ntmps18
    go_wp2_with fail
    refine hc'.out.mono ?_
    rintro e w1 ⟨rfl, rfl⟩
    go_wp2_with fail
    go_ret3
    exact ⟨by rw [hf.out]; rfl, rfl⟩

/-- the page's examples -/
theorem chain300 : chain 300 = [172, 2] := by
  rw [chain_hi (by omega), chain_lo (by omega)]; rfl
set_option maxHeartbeats 400000 in
set_option maxRecDepth 100000 in
theorem live_any (w : World) :
    Calls Try.prog 12 #[] w fun e w' => e = .returned (.bool true) ∧ Below w.heap.size w w' := by
  have hu := untext_any ⟨#[2, 97, 98, 99]⟩ 9 w (by decide) (by omega)
  have e1 : untx (⟨#[2, 97, 98, 99]⟩ : ByteArray).data.toList 9 = ([97, 98], 3, 0) := by decide
  rw [e1] at hu
  have hc := chain_any 300 w (by omega)
  rw [chain300] at hc
  have hu' := Lib.hid hu
  have hc' := Lib.hid hc
  clear hu hc e1
  go_enter Try.func12, Try.ntmps12
  go_wp2_with fail
  refine hu'.out.mono ?_
  rintro e w1 ⟨rfl, rfl⟩
  go_wp2_with fail
  refine hc'.out.mono ?_
  rintro e w1 ⟨rfl, hb⟩
  go_wp2_with fail
  refine (num_any _ _).mono ?_
  rintro e w2 ⟨rfl, rfl⟩
  go_wp2_with fail
  go_ret
  exact ⟨rfl, hb⟩
end Go.Proofs.Ytkfcjlemneieiaa
