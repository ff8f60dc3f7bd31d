/-
  strings.Split AND strings.Cut AT A SEPARATOR OF ONE BYTE, at every text; the pieces as lists of bytes (Pf.spl).
-/
import Derived.Test.YtdfollcglldocaaDoorSearch
import Derived.Test.YtdfollcglldocaaDoorMProp
import Derived.Test.YtdfollcglldocaaDoorLib
import Derived.Shelf.Strings.SplitCore
import Derived.Lib.IndexLaws
import Derived.IntWalk
namespace Go.Proofs.YtdfollcglldocaaDoor
open Go.RowKit
set_option linter.unusedVariables false

abbrev bs (l : List UInt8) : ByteArray := ⟨l.toArray⟩
theorem bs_size (l : List UInt8) : (bs l).size = l.length := by simp [ByteArray.size]
theorem bs_data (s : ByteArray) : bs s.data.toList = s := by cases s; rfl
theorem bs_list (l : List UInt8) : (bs l).data.toList = l := rfl
theorem bs_inj {a b : List UInt8} (h : bs a = bs b) : a = b := by
  have := congrArg (fun x : ByteArray => x.data.toList) h
  simpa using this
theorem ext_bs (s : ByteArray) (a b : Nat) : s.extract a b = bs ((s.data.toList.take b).drop a) := by
  apply ByteArray.ext
  rw [ByteArray.data_extract]
  apply Array.ext'
  rw [Array.toList_extract]
  simp [List.drop_take]
theorem ext_head (s : ByteArray) (i : Nat) : s.extract 0 i = bs (s.data.toList.take i) := by rw [ext_bs]; rfl
theorem ext_tail (s : ByteArray) (i : Nat) : s.extract i s.size = bs (s.data.toList.drop i) := by
  rw [ext_bs, List.take_of_length_le (by rw [ba_len]; exact Nat.le_refl _)]
theorem ix_cases (l : List UInt8) (c : UInt8) : (Lib.indexByte l c = -1 ∧ c ∉ l) ∨ ∃ i : Nat, Lib.indexByte l c = i ∧ i < l.length ∧ l = l.take i ++ c :: l.drop (i + 1) ∧ c ∉ l.take i := by
  have hge := Lib.indexByte_ge l c
  by_cases h : Lib.indexByte l c = -1
  · left
    refine ⟨h, fun hm => ?_⟩
    obtain ⟨k, hk⟩ := List.getElem?_of_mem hm
    exact Lib.indexByte_none h k hk
  · right
    obtain ⟨i, hi⟩ : ∃ i : Nat, Lib.indexByte l c = i := ⟨(Lib.indexByte l c).toNat, by omega⟩
    obtain ⟨h1, h2⟩ := Lib.indexByte_some hi
    have hlt : i < l.length := (List.getElem?_eq_some_iff.1 h1).1
    refine ⟨i, hi, hlt, ?_, fun hm => ?_⟩
    · have := List.take_append_drop i l
      rw [List.drop_eq_getElem_cons hlt, (List.getElem?_eq_some_iff.1 h1).2] at this
      exact this.symm
    · obtain ⟨k, hk, hk2⟩ := List.mem_take_iff_getElem.1 hm
      exact h2 k (by omega) (by rw [← hk2]; exact List.getElem?_eq_getElem _)
theorem spl_size {c : UInt8} {l : List UInt8} {k : Nat} (h : (Pf.spl c l).length = k + 1) : l.count c = k := by
  rw [Pf.spl_len] at h; omega

theorem info_str : (Tryd.prog.info? 9).map (fun i => (i.zero, i.size, i.bytes)) = some (some (.string ByteArray.empty), 1, 16) := by kernel_rfl
set_option maxHeartbeats 1000000 in
set_option maxRecDepth 100000 in
theorem gensplit_any (s : ByteArray) (c : UInt8) (w : World) (hs : s.size ≤ 140737488355328) (hc : s.data.toList.count c ≤ 1000000) :
    Calls Tryd.prog 34 #[.string s, .string ⟨#[c]⟩, .int .i64 0, .int .i64 (-1)] w fun e w' =>
      e = .returned (.slice (some ⟨w.heap.size, 0, none⟩) (Pf.spl c s.data.toList).length (Pf.spl c s.data.toList).length) ∧ w' = w.alloc (.cells (Lib.cellsOf ((Pf.spl c s.data.toList).map bs) (Pf.spl c s.data.toList).length) 9) := by
  obtain ⟨cn, hcn⟩ : ∃ cn, s.data.toList.count c = cn := ⟨_, rfl⟩
  obtain ⟨T, hT⟩ : ∃ T, (Pf.spl c s.data.toList).map bs = T := ⟨_, rfl⟩
  have hTl : T.length = cn + 1 := by rw [← hT, List.length_map, Pf.spl_len, hcn]
  have hlen : (Pf.spl c s.data.toList).length = cn + 1 := by rw [Pf.spl_len, hcn]
  rw [hT, hlen]
  have hcs : cn ≤ s.size := by rw [← hcn, ← ba_len]; exact List.count_le_length
  have hcount := sl_strings_Count_one s c w
  rw [show Lib.countByte s.data.toList c = cn from hcn] at hcount
  rw [hcn] at hc
  have eN : min ((cn : Int) + 1) ((s.size : Int) + 1) = ((cn + 1 : Nat) : Int) := by
    rw [Int.min_def]; split <;> omega
  have hmk := run_make_row' (P := Tryd.prog) 42 9 (.string ByteArray.empty) 16 Tryd.underlying42 info_str rfl .i64 .i64 (cn + 1) (by omega) (by omega)
  rw [Int.natCast_add, Int.natCast_one] at hmk eN
  have HT : Hid ([] ++ (Pf.spl c s.data.toList).map bs = T) := Lib.hid (by rw [List.nil_append]; exact hT)
  have HTL := Lib.hid hTl
  have HC := Lib.hid hcount
  clear hT hTl hlen hcn hcount
  go_enter Tryd.func34, Tryd.ntmps34
  go_wp2_with (go_at_call 16; refine HC.out.mono ?_; rintro e w' ⟨rfl, hw⟩; rw [hw]; clear hw)
  clear hmk
  go_loopw [0, 10] (fun a i wr => ∃ (done : List ByteArray) (rest : ByteArray), a = .string rest ∧ i = .int .i64 done.length ∧ done.length ≤ cn ∧ rest.size ≤ s.size ∧ Hid (done ++ (Pf.spl c rest.data.toList).map bs = T) ∧ wr = w.alloc (.cells (Lib.cellsOf done (cn + 1)) 9)) (fun _ i _ => cn - (intOf i).toNat)
  case atStart => exact ⟨[], s, rfl, rfl, Nat.zero_le _, Nat.le_refl _, HT, by rw [Lib.cellsOf_nil]⟩
  case round =>
    obtain ⟨done, rest, rfl, rfl, hd, hrs, hsp, rfl⟩ := hrel
    have hnext : (Lib.cellsOf done (cn + 1))[done.length]? = some (.string ByteArray.empty) := Lib.cellsOf_next (by omega)
    have hsl : done.length + ((Pf.spl c rest.data.toList).map bs).length = cn + 1 := by
      have := congrArg List.length hsp.out
      rwa [List.length_append, HTL.out] at this
    rw [List.length_map] at hsl
    by_cases hlt : done.length < cn
    · rcases ix_cases rest.data.toList c with ⟨hix, hno⟩ | ⟨i, hix, hi, hl, hno⟩
      · exfalso
        rw [Pf.spl_none hno] at hsl
        simp at hsl
        omega
      · have hI := sl_strings_Index_one rest c (w.alloc (.cells (Lib.cellsOf done (cn + 1)) 9))
        rw [hix] at hI
        rw [ba_len] at hi
        have c0 : ¬ ((i : Int) < 0) := by omega
        have c2 : (↑i : Int) ≤ ↑rest.size := by omega
        have c3 : (0 : Int) ≤ ↑i + 1 := by omega
        have c4 : (↑i + 1 : Int) ≤ ↑rest.size := by omega
        have hsp2 : Hid ((done ++ [rest.extract 0 i]) ++ (Pf.spl c (rest.extract (i + 1) rest.size).data.toList).map bs = T) := Lib.hid (by
          rw [← hsp.out]
          conv => rhs; rw [hl, Pf.spl_at _ hno]
          rw [ext_head, ext_tail]
          simp)
        have HI := Lib.hid hI
        have hxs : (rest.extract (i + 1) rest.size).size ≤ s.size := by rw [ByteArray.size_extract]; omega
        clear hsp hl hno hix hI
        go_wp2_with (go_at_call 33; refine HI.out.mono ?_; rintro e w' ⟨rfl, hw⟩; rw [hw]; clear hw)
        go_roundw
        case rel => exact ⟨done ++ [rest.extract 0 i], rest.extract (i + 1) rest.size, by first | rfl | simp, by simp, by simp; omega, hxs, hsp2, by rw [← Lib.cellsOf_set (by omega)]⟩
        case measure => simp [intOf]; omega
    · have hdc : done.length = cn := by omega
      have hone : (Pf.spl c rest.data.toList).length = 0 + 1 := by omega
      have hno : c ∉ rest.data.toList := List.count_eq_zero.1 (spl_size hone)
      have hfin : Hid (done ++ [rest] = T) := Lib.hid (by
        rw [← hsp.out, Pf.spl_none hno]
        simp [bs_data])
      have hset : Hid ((Lib.cellsOf done (cn + 1)).setIfInBounds done.length (.string rest) = Lib.cellsOf T (cn + 1)) := Lib.hid (by rw [Lib.cellsOf_set (by omega), hfin.out])
      rw [hdc] at hnext hset
      clear hsp hone hno hsl hfin
      go_wp2
      go_ret
      exact ⟨rfl, by rw [← hset.out]⟩
set_option maxHeartbeats 400000 in
theorem split_any (s : ByteArray) (c : UInt8) (w : World) (hs : s.size ≤ 140737488355328) (hc : s.data.toList.count c ≤ 1000000) :
    Calls Tryd.prog 17 #[.string s, .string ⟨#[c]⟩] w fun e w' =>
      e = .returned (.slice (some ⟨w.heap.size, 0, none⟩) (Pf.spl c s.data.toList).length (Pf.spl c s.data.toList).length) ∧ w' = w.alloc (.cells (Lib.cellsOf ((Pf.spl c s.data.toList).map bs) (Pf.spl c s.data.toList).length) 9) := by
  have h := Lib.hid (gensplit_any s c w hs hc)
  go_enter Tryd.func17, Tryd.ntmps17
  go_wp2_with (go_at_call 34; refine h.out.mono ?_; rintro e w' ⟨rfl, rfl⟩)
  go_ret
  exact ⟨rfl, rfl⟩
theorem ix_at {l a r : List UInt8} {c : UInt8} (h : l = a ++ c :: r) (hno : c ∉ a) : Lib.indexByte l c = a.length := by
  rcases ix_cases l c with ⟨_, h2⟩ | ⟨i, hi, hlt, hl, hni⟩
  · exact absurd (by rw [h]; simp) h2
  · rw [hi]
    have h3 : Pf.spl c l = Pf.spl c l := rfl
    conv at h3 => lhs; rw [hl, Pf.spl_at _ hni]
    conv at h3 => rhs; rw [h, Pf.spl_at _ hno]
    have h4 := (List.cons.inj h3).1
    have : i = a.length := by rw [← h4, List.length_take]; omega
    rw [this]
set_option maxHeartbeats 1000000 in
theorem cut_hit (s : ByteArray) (c : UInt8) (a r : List UInt8) (w : World) (hs : s.size ≤ 140737488355328) (h : s.data.toList = a ++ c :: r) (hno : c ∉ a) :
    Calls Tryd.prog 35 #[.string s, .string ⟨#[c]⟩] w fun e w' => e = .returned (.tuple #[.string (bs a), .string (bs r), .bool true]) ∧ Below w.heap.size w w' := by
  have hI := sl_stringslite_Index_one s c w
  rw [ix_at h hno] at hI
  obtain ⟨i, hi⟩ : ∃ i, a.length = i := ⟨_, rfl⟩
  rw [hi] at hI
  have hsz : i + 1 ≤ s.size := by rw [← ba_len, h, List.length_append, List.length_cons]; omega
  have e1 : s.extract 0 i = bs a := by rw [ext_head, h, ← hi]; simp
  have e2 : s.extract (i + 1) s.size = bs r := by rw [ext_tail, h, ← hi]; simp
  have HI := Lib.hid hI
  have E1 := Lib.hid e1
  have E2 := Lib.hid e2
  clear hI e1 e2 h hno hi
  have hcut : Calls Tryd.prog 45 #[.string s, .string ⟨#[c]⟩] w fun e w' => e = .returned (.tuple #[.string (bs a), .string (bs r), .bool true]) ∧ Below w.heap.size w w' := by
    have c1 : (0 : Int) ≤ ↑i := by omega
    have c2 : (↑i : Int) ≤ ↑s.size := by omega
    have c3 : (0 : Int) ≤ ↑i + 1 := by omega
    have c4 : (↑i + 1 : Int) ≤ ↑s.size := by omega
    have c5 : IntKind.i64.wrap ((i : Int) + 1) = (i : Int) + 1 := IntWalk.i64_in _ ⟨by omega, by omega⟩
    have mixed : Tryd.prog.follows .mixedOrders = true := by kernel_rfl
    go_enter Tryd.func45, Tryd.ntmps45
    go_wp2_with (go_at_call 43; refine HI.out.mono ?_; rintro e w' ⟨rfl, rfl⟩)
    go_region_o
    go_wp2
    go_ret3
    exact ⟨by rw [← E1.out, ← E2.out]; rfl, (Below.refl _ _).drew⟩
  have HC := Lib.hid hcut
  clear hcut HI
  go_enter Tryd.func35, Tryd.ntmps35
  go_wp2_with (go_at_call 45; refine HC.out.mono ?_)
  rintro e w1 ⟨rfl, hb⟩
  go_wp2
  go_ret3
  exact ⟨rfl, hb⟩
end Go.Proofs.YtdfollcglldocaaDoor
