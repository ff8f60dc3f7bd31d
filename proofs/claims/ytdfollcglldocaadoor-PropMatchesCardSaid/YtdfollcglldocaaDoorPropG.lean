/-
  CONTRACTS OF LAYER 4 (prop), part G: the program's Show, meet, byKeys, Match.
-/
import Derived.Test.YtdfollcglldocaaDoorPropF
namespace Go.Proofs.YtdfollcglldocaaDoor
open Go.RowKit
set_option linter.unusedVariables false
set_option linter.unusedSimpArgs false

/-- strings.Builder.WriteString, in lists -/
theorem b_str (B b : Nat) (l x : List UInt8) (w : World) (h : Lib.IsBuilderF 56 5 B b (Lib.byteCells l) w) (hlen : l.length + x.length ≤ 1000000000) (hBw : B ≤ w.heap.size) :
    Calls Tryd.prog 27 #[.pointer (some ⟨b, 0, none⟩), .string (bs x)] w fun e w' => e = .returned (.tuple #[.int .i64 (bs x).size, .nilIface]) ∧ Lib.IsBuilderF 56 5 B b (Lib.byteCells (l ++ x)) w' ∧ Below B w w' ∧ Lib.OthersKept 5 (some b) w w' :=
  (b_text_k B b _ (bs x) w h (by rw [Lib.byteCells_length, bs_size]; omega) hBw).mono fun e w' ⟨he, h1, h2, h3⟩ => ⟨he, Or.inr (by rw [Lib.byteCells_append]; exact h1), h2, h3⟩
set_option maxRecDepth 100000 in
set_option maxHeartbeats 2000000 in
theorem show_any (l : List PR) (v : Value) (w : World) (h : PRow w l v) (hl : l.length ≤ 1000000) (hS : (l.map fun q => q.1.length + q.2.length + 2).sum ≤ 1000000) :
    Calls Tryd.prog 13 #[v] w fun e w' => e = .returned (.string (bs (Pf.sh l))) ∧ Below w.heap.size w w' := by
  obtain ⟨p, cap, rfl, hp⟩ := h
  have hfresh : Lib.IsBuilderF 56 5 w.heap.size w.heap.size (Lib.byteCells []) _ := Lib.IsBuilderF.of (Lib.fresh_isBuilder 56 5 w)
  have hbA := (Below.refl _ w).alloc (Nat.le_refl _) (Obj.cells #[.pointer none, .slice none 0 0] 56)
  have HF := Lib.hid hfresh
  have HBA := Lib.hid hbA
  clear hfresh hbA
  by_cases hne : l = []
  · subst hne
    go_enter Tryd.func13, Tryd.ntmps13
    go_wp2
    refine wp_loop_rounds 1 ?_
    rw [rounds_succ]
    go_wp2_with (go_at_call 28; refine (b_string_k w.heap.size w.heap.size [] _ HF.out (by simp)).mono ?_)
    rintro e w2 ⟨rfl, _, hb2, _⟩
    go_wp2
    go_ret
    exact ⟨rfl, HBA.out.trans hb2⟩
  · obtain ⟨g, rfl, hc⟩ := hp hne
    obtain ⟨n, hn⟩ : ∃ n, l.length = n := ⟨_, rfl⟩
    obtain ⟨T, hT⟩ : ∃ T, Pf.sh l = T := ⟨_, rfl⟩
    have HT : Hid (Pf.sh (l.take n) = T) := Lib.hid (by rw [← hn, List.take_length]; exact hT)
    have HN := Lib.hid hn
    have HC := Lib.hid hc
    rw [hn, hT]
    rw [hn] at hl
    clear hc hp hne hn hT
    go_enter Tryd.func13, Tryd.ntmps13
    go_wp2
    go_loopw [8] (fun i wr => ∃ (acc : List UInt8) (j : Nat), i = .int .i64 j ∧ j ≤ n ∧ Hid (acc = Pf.sh (l.take j)) ∧ Hid (Lib.IsBuilderF 56 5 w.heap.size w.heap.size (Lib.byteCells acc) wr) ∧ Below w.heap.size w wr ∧ w.heap.size < wr.heap.size) (fun i _ => n - (intOf i).toNat)
    case atStart => exact ⟨[], 0, rfl, Nat.zero_le _, Lib.hid rfl, HF, HBA.out, by simp⟩
    case round =>
      obtain ⟨acc, j, rfl, hj, hacc, hib, hb, hws⟩ := hrel
      by_cases hlt : j < n
      · obtain ⟨hc1, hc2⟩ := pcells_below HC.out hb (Nat.le_refl _) j (by rw [HN.out]; exact hlt)
        have hstep := jn_take_succ (l := l) (j := j) (by rw [HN.out]; exact hlt)
        have hsl := sh_len l (j + 1)
        obtain ⟨q, hq⟩ : ∃ q, l.getD j p0 = q := ⟨_, rfl⟩
        rw [hq] at hc1 hc2 hstep
        clear hq
        have hI0 := hib.out.alloc (.cells #[.string (bs q.1), .string (bs q.2)] 39)
        have hbX : Below w.heap.size w (wr.alloc (.cells #[.string (bs q.1), .string (bs q.2)] 39)) := hb.alloc hb.size _
        have hsX : wr.heap.size < (wr.alloc (.cells #[.string (bs q.1), .string (bs q.2)] 39)).heap.size := by simp
        have hblk : (wr.alloc (.cells #[.string (bs q.1), .string (bs q.2)] 39)).heap[wr.heap.size]? = some (.cells #[.string (bs q.1), .string (bs q.2)] 39 (0, 0)) := (Go.MapKept.heap_alloc wr _).1
        have HI0 := Lib.hid hI0
        have HBX0 := Lib.hid hbX
        have HSX0 := Lib.hid hsX
        have HBK0 := Lib.hid hblk
        clear hI0 hbX hsX hblk hib
        have hal : acc.length + q.1.length + q.2.length + 1 ≤ 1000000 := by
          rw [hstep, List.length_append] at hsl
          have : acc.length ≤ (if j = 0 then [] else Pf.sh (l.take j) ++ [44]).length := by
            rw [hacc.out]
            split
            · next h0 => subst h0; exact Nat.le_refl _
            · rw [List.length_append]; omega
          simp only [Pf.pieceOf, List.length_append, List.length_cons] at hsl
          omega
        clear hsl
        by_cases hj0 : j = 0
        · rw [if_pos hj0] at hstep
          have hacc2 : Hid (acc ++ q.1 ++ [61] ++ q.2 = Pf.sh (l.take (j + 1))) := Lib.hid (by
            rw [hstep, hacc.out, hj0]
            simp [Pf.pieceOf, Pf.sh, Pf.jn])
          clear hstep hacc
          subst hj0
          simp only [Nat.zero_mul, Nat.zero_add] at hc1 hc2
          go_wp2_with (go_at_call 27; refine (b_str w.heap.size w.heap.size acc q.1 _ HI0.out (by (try simp only [List.length_append, List.length_cons, List.length_nil]); omega) (by have := HSX0.out; omega)).mono ?_)
          rintro e v1 ⟨rfl, hi, hbk, hok⟩
          have hblk : v1.heap[wr.heap.size]? = some (.cells #[.string (bs q.1), .string (bs q.2)] 39 (0, 0)) := hok _ _ HBK0.out (by intro e; injection e with e; omega) (by intro c fz e; simp at e)
          have hz0 : v1.cell? ⟨wr.heap.size, 0, none⟩ = some (.string (bs q.1)) := by simp [World.cell?, hblk]
          have hz1 : v1.cell? ⟨wr.heap.size, 1, none⟩ = some (.string (bs q.2)) := by simp [World.cell?, hblk]
          have hbX : Below w.heap.size w v1 := HBX0.out.trans hbk
          have hsX : wr.heap.size < v1.heap.size := (Array.getElem?_eq_some_iff.1 hblk).1
          have HI1 := Lib.hid hi
          have HBX1 := Lib.hid hbX
          have HSX1 := Lib.hid hsX
          have HBK1 := Lib.hid hblk
          clear hi hbk hok hblk hbX hsX HI0 HBX0 HSX0 HBK0
          go_wp2_with (go_at_call 27; refine (b_str w.heap.size w.heap.size (acc ++ q.1) [61] _ HI1.out (by (try simp only [List.length_append, List.length_cons, List.length_nil]); omega) (by have := HSX1.out; omega)).mono ?_)
          rintro e v2 ⟨rfl, hi, hbk, hok⟩
          have hblk : v2.heap[wr.heap.size]? = some (.cells #[.string (bs q.1), .string (bs q.2)] 39 (0, 0)) := hok _ _ HBK1.out (by intro e; injection e with e; omega) (by intro c fz e; simp at e)
          have hz0 : v2.cell? ⟨wr.heap.size, 0, none⟩ = some (.string (bs q.1)) := by simp [World.cell?, hblk]
          have hz1 : v2.cell? ⟨wr.heap.size, 1, none⟩ = some (.string (bs q.2)) := by simp [World.cell?, hblk]
          have hbX : Below w.heap.size w v2 := HBX1.out.trans hbk
          have hsX : wr.heap.size < v2.heap.size := (Array.getElem?_eq_some_iff.1 hblk).1
          have HI2 := Lib.hid hi
          have HBX2 := Lib.hid hbX
          have HSX2 := Lib.hid hsX
          have HBK2 := Lib.hid hblk
          clear hi hbk hok hblk hbX hsX HI1 HBX1 HSX1 HBK1
          go_wp2_with (go_at_call 27; refine (b_str w.heap.size w.heap.size (acc ++ q.1 ++ [61]) q.2 _ HI2.out (by (try simp only [List.length_append, List.length_cons, List.length_nil]); omega) (by have := HSX2.out; omega)).mono ?_)
          rintro e v3 ⟨rfl, hi, hbk, hok⟩
          have hblk : v3.heap[wr.heap.size]? = some (.cells #[.string (bs q.1), .string (bs q.2)] 39 (0, 0)) := hok _ _ HBK2.out (by intro e; injection e with e; omega) (by intro c fz e; simp at e)
          have hz0 : v3.cell? ⟨wr.heap.size, 0, none⟩ = some (.string (bs q.1)) := by simp [World.cell?, hblk]
          have hz1 : v3.cell? ⟨wr.heap.size, 1, none⟩ = some (.string (bs q.2)) := by simp [World.cell?, hblk]
          have hbX : Below w.heap.size w v3 := HBX2.out.trans hbk
          have hsX : wr.heap.size < v3.heap.size := (Array.getElem?_eq_some_iff.1 hblk).1
          have HI3 := Lib.hid hi
          have HBX3 := Lib.hid hbX
          have HSX3 := Lib.hid hsX
          have HBK3 := Lib.hid hblk
          clear hi hbk hok hblk hbX hsX HI2 HBX2 HSX2 HBK2
          clear hz0 hz1
          go_wp2
          go_roundw
          case rel => exact ⟨_, 1, by go_num, hlt, hacc2, HI3, HBX3.out, by have := HSX3.out; omega⟩
          case measure => simp [intOf]; omega
        · rw [if_neg hj0] at hstep
          have hacc2 : Hid (acc ++ [44] ++ q.1 ++ [61] ++ q.2 = Pf.sh (l.take (j + 1))) := Lib.hid (by
            rw [hstep, hacc.out]
            simp [Pf.pieceOf])
          clear hstep hacc
          have hgt : (0 : Int) < (j : Int) := by omega
          go_wp2_with (go_at_call 27; refine (b_str w.heap.size w.heap.size acc [44] _ HI0.out (by (try simp only [List.length_append, List.length_cons, List.length_nil]); omega) (by have := HSX0.out; omega)).mono ?_)
          rintro e v1 ⟨rfl, hi, hbk, hok⟩
          have hblk : v1.heap[wr.heap.size]? = some (.cells #[.string (bs q.1), .string (bs q.2)] 39 (0, 0)) := hok _ _ HBK0.out (by intro e; injection e with e; omega) (by intro c fz e; simp at e)
          have hz0 : v1.cell? ⟨wr.heap.size, 0, none⟩ = some (.string (bs q.1)) := by simp [World.cell?, hblk]
          have hz1 : v1.cell? ⟨wr.heap.size, 1, none⟩ = some (.string (bs q.2)) := by simp [World.cell?, hblk]
          have hbX : Below w.heap.size w v1 := HBX0.out.trans hbk
          have hsX : wr.heap.size < v1.heap.size := (Array.getElem?_eq_some_iff.1 hblk).1
          have HI1 := Lib.hid hi
          have HBX1 := Lib.hid hbX
          have HSX1 := Lib.hid hsX
          have HBK1 := Lib.hid hblk
          clear hi hbk hok hblk hbX hsX HI0 HBX0 HSX0 HBK0
          go_wp2_with (go_at_call 27; refine (b_str w.heap.size w.heap.size (acc ++ [44]) q.1 _ HI1.out (by (try simp only [List.length_append, List.length_cons, List.length_nil]); omega) (by have := HSX1.out; omega)).mono ?_)
          rintro e v2 ⟨rfl, hi, hbk, hok⟩
          have hblk : v2.heap[wr.heap.size]? = some (.cells #[.string (bs q.1), .string (bs q.2)] 39 (0, 0)) := hok _ _ HBK1.out (by intro e; injection e with e; omega) (by intro c fz e; simp at e)
          have hz0 : v2.cell? ⟨wr.heap.size, 0, none⟩ = some (.string (bs q.1)) := by simp [World.cell?, hblk]
          have hz1 : v2.cell? ⟨wr.heap.size, 1, none⟩ = some (.string (bs q.2)) := by simp [World.cell?, hblk]
          have hbX : Below w.heap.size w v2 := HBX1.out.trans hbk
          have hsX : wr.heap.size < v2.heap.size := (Array.getElem?_eq_some_iff.1 hblk).1
          have HI2 := Lib.hid hi
          have HBX2 := Lib.hid hbX
          have HSX2 := Lib.hid hsX
          have HBK2 := Lib.hid hblk
          clear hi hbk hok hblk hbX hsX HI1 HBX1 HSX1 HBK1
          go_wp2_with (go_at_call 27; refine (b_str w.heap.size w.heap.size (acc ++ [44] ++ q.1) [61] _ HI2.out (by (try simp only [List.length_append, List.length_cons, List.length_nil]); omega) (by have := HSX2.out; omega)).mono ?_)
          rintro e v3 ⟨rfl, hi, hbk, hok⟩
          have hblk : v3.heap[wr.heap.size]? = some (.cells #[.string (bs q.1), .string (bs q.2)] 39 (0, 0)) := hok _ _ HBK2.out (by intro e; injection e with e; omega) (by intro c fz e; simp at e)
          have hz0 : v3.cell? ⟨wr.heap.size, 0, none⟩ = some (.string (bs q.1)) := by simp [World.cell?, hblk]
          have hz1 : v3.cell? ⟨wr.heap.size, 1, none⟩ = some (.string (bs q.2)) := by simp [World.cell?, hblk]
          have hbX : Below w.heap.size w v3 := HBX2.out.trans hbk
          have hsX : wr.heap.size < v3.heap.size := (Array.getElem?_eq_some_iff.1 hblk).1
          have HI3 := Lib.hid hi
          have HBX3 := Lib.hid hbX
          have HSX3 := Lib.hid hsX
          have HBK3 := Lib.hid hblk
          clear hi hbk hok hblk hbX hsX HI2 HBX2 HSX2 HBK2
          go_wp2_with (go_at_call 27; refine (b_str w.heap.size w.heap.size (acc ++ [44] ++ q.1 ++ [61]) q.2 _ HI3.out (by (try simp only [List.length_append, List.length_cons, List.length_nil]); omega) (by have := HSX3.out; omega)).mono ?_)
          rintro e v4 ⟨rfl, hi, hbk, hok⟩
          have hblk : v4.heap[wr.heap.size]? = some (.cells #[.string (bs q.1), .string (bs q.2)] 39 (0, 0)) := hok _ _ HBK3.out (by intro e; injection e with e; omega) (by intro c fz e; simp at e)
          have hz0 : v4.cell? ⟨wr.heap.size, 0, none⟩ = some (.string (bs q.1)) := by simp [World.cell?, hblk]
          have hz1 : v4.cell? ⟨wr.heap.size, 1, none⟩ = some (.string (bs q.2)) := by simp [World.cell?, hblk]
          have hbX : Below w.heap.size w v4 := HBX3.out.trans hbk
          have hsX : wr.heap.size < v4.heap.size := (Array.getElem?_eq_some_iff.1 hblk).1
          have HI4 := Lib.hid hi
          have HBX4 := Lib.hid hbX
          have HSX4 := Lib.hid hsX
          have HBK4 := Lib.hid hblk
          clear hi hbk hok hblk hbX hsX HI3 HBX3 HSX3 HBK3
          clear hz0 hz1
          go_wp2
          go_roundw
          case rel => exact ⟨_, j + 1, by go_num, hlt, hacc2, HI4, HBX4.out, by have := HSX4.out; omega⟩
          case measure => simp [intOf]; omega
      · have HE : Hid (acc = T) := Lib.hid (by
          rw [hacc.out, ← HT.out]
          congr 2
          omega)
        clear hacc
        go_wp2_with (go_at_call 28; refine (b_string_k w.heap.size w.heap.size acc _ hib.out (by omega)).mono ?_)
        rintro e w2 ⟨rfl, _, hb2, _⟩
        go_wp2
        go_ret
        exact ⟨by rw [HE.out]; rfl, hb.trans hb2⟩

theorem meet_any (a b : List UInt8) (w : World) : Calls Tryd.prog 30 #[.string (bs a), .string (bs b)] w fun e w' => e = .returned (.bool (Pf.meets a b)) ∧ w = w' := by
  obtain ⟨c, hc⟩ : ∃ c, Pf.meets a b = c := ⟨_, rfl⟩
  rw [hc]
  have hc2 : c = (a == b || a == [42] || b == [42]) := hc.symm
  clear hc
  cases h1 : (a == b) with
  | true =>
    have HE : Hid (c = true) := Lib.hid (by rw [hc2, h1]; rfl)
    clear hc2
    go_enter Tryd.func30, Tryd.ntmps30
    go_wp2
    go_ret
    exact ⟨ret_bool HE.out.symm, rfl⟩
  | false =>
    cases h2 : (a == [42]) with
    | true =>
      have HE : Hid (c = true) := Lib.hid (by rw [hc2, h2]; simp)
      clear hc2
      go_enter Tryd.func30, Tryd.ntmps30
      go_wp2
      go_ret
      exact ⟨ret_bool HE.out.symm, rfl⟩
    | false =>
      cases h3 : (b == [42]) with
      | true =>
        have HE : Hid (c = true) := Lib.hid (by rw [hc2, h3]; simp)
        clear hc2
        go_enter Tryd.func30, Tryd.ntmps30
        go_wp2
        go_ret
        exact ⟨ret_bool HE.out.symm, rfl⟩
      | false =>
        have HE : Hid (c = false) := Lib.hid (by rw [hc2, h1, h2, h3]; rfl)
        clear hc2
        go_enter Tryd.func30, Tryd.ntmps30
        go_wp2
        go_ret
        exact ⟨ret_bool HE.out.symm, rfl⟩
/-- what byKeys answers -/
def Mapped (w : World) (l : List PR) (e : Ending) (w' : World) : Prop := ∃ b, e = .returned (.map (some b)) ∧ w.heap.size ≤ b ∧ Mp.Is Tryd.prog 9 w' b l.length (mpv l) ∧ Below w.heap.size w w'
theorem take_keys {l : List PR} {j : Nat} (h : j < l.length) (hk : l.Pairwise (fun a b => a.1 ≠ b.1)) : Pf.lk (l.take j) (l.getD j p0).1 = none := by
  rw [Pf.lk_none]
  intro q hq
  rw [getD_mem h]
  have h2 := hk
  rw [← List.take_append_drop j l, List.drop_eq_getElem_cons h, List.pairwise_append] at h2
  exact h2.2.2 q hq _ List.mem_cons_self
theorem take_snoc {l : List PR} {j : Nat} (h : j < l.length) : l.take (j + 1) = l.take j ++ [l.getD j p0] := by rw [List.take_succ_eq_append_getElem h, getD_mem h]
set_option maxHeartbeats 1000000 in
theorem bykeys_any (l : List PR) (v : Value) (w : World) (h : PRow w l v) (hg : Pf.Good l) : Calls Tryd.prog 29 #[v] w (Mapped w l) := by
  obtain ⟨p, cap, rfl, hp⟩ := h
  have hmm := @run_makeMap Tryd.prog
  have hk := hg.keys
  have hl6 := hg.len
  have hnm : ∀ j, j < l.length → (l.getD j p0).1.length ≤ 64 := fun j hj => by
    rw [getD_mem hj]
    exact Tx.name_short (hg.all _ (List.getElem_mem hj)).1
  have HKY := Lib.hid hk
  have HNM := Lib.hid hnm
  have hM0 : Mp.Is Tryd.prog 9 (w.alloc (.map #[] 0)) w.heap.size 0 (mpv (l.take 0)) := Mp.Is.made w
  have HM0 := Lib.hid hM0
  clear hk hnm hM0 hg
  by_cases hne : l = []
  · subst hne
    clear hp
    go_enter Tryd.func29, Tryd.ntmps29
    go_wp2
    refine wp_loop_rounds 1 ?_
    rw [rounds_succ]
    go_wp2
    go_ret
    exact ⟨_, rfl, Nat.le_refl _, HM0.out, (Below.refl _ _).alloc (Nat.le_refl _) _⟩
  · obtain ⟨g, rfl, hc⟩ := hp hne
    obtain ⟨n, hn⟩ : ∃ n, l.length = n := ⟨_, rfl⟩
    have HN := Lib.hid hn
    have HC := Lib.hid hc
    rw [hn] at hl6 ⊢
    have hK := Tryd.underlying9
    have hT := Tryd.underlying41
    have HK := Lib.hid hK
    have HTT := Lib.hid hT
    clear hc hp hne hn hK hT
    go_enter Tryd.func29, Tryd.ntmps29
    go_wp2
    clear hmm
    go_loopw [9] (fun i wr => ∃ j : Nat, i = .int .i64 j ∧ j ≤ n ∧ Hid (Mp.Is Tryd.prog 9 wr w.heap.size j (mpv (l.take j))) ∧ Below w.heap.size w wr) (fun i _ => n - (intOf i).toNat)
    case atStart => exact ⟨0, rfl, Nat.zero_le _, HM0, (Below.refl _ w).alloc (Nat.le_refl _) _⟩
    case round =>
      obtain ⟨j, rfl, hj, hmp, hb⟩ := hrel
      by_cases hlt : j < n
      · obtain ⟨hc1, hc2⟩ := pcells_below HC.out hb (Nat.le_refl _) j (by rw [HN.out]; exact hlt)
        have hlk := take_keys (l := l) (j := j) (by rw [HN.out]; exact hlt) HKY.out
        have hsn := take_snoc (l := l) (j := j) (by rw [HN.out]; exact hlt)
        have h64 := HNM.out j (by rw [HN.out]; exact hlt)
        obtain ⟨q, hq⟩ : ∃ q, l.getD j p0 = q := ⟨_, rfl⟩
        rw [hq] at hc1 hc2 hlk hsn h64
        have hks : (bs q.1).size ≤ maxLen := by rw [bs_size]; unfold maxLen; omega
        have HKS := Lib.hid hks
        have HLK := Lib.hid hlk
        have HSN := Lib.hid hsn
        clear hq hlk hsn hks h64
        go_wp2_with (at_mapUpdate; refine Mp.wp_put _ rfl _ _ _ 41 9 39 rfl HTT.out HK.out w.heap.size j (mpv (l.take j)) rfl (hmp.out.alloc _) (by unfold maxLen; omega) (bs q.1) HKS.out rfl (pv q) rfl ?_)
        intro w5 hmp5 hg5
        have hmp6 : Mp.Is Tryd.prog 9 w5 w.heap.size (j + 1) (mpv (l.take (j + 1))) := by
          rw [HSN.out]
          exact hmp5.ext (mpv_snoc HLK.out)
        have hb5 : Below w.heap.size w w5 := (hb.alloc hb.size _).grown hg5 (by simp; have := hb.size; omega) (fun k hk => by injection hk with hk; omega)
        have HM6 := Lib.hid hmp6
        clear hmp5 hg5 hmp6 hmp hb hc1 hc2
        go_wp2
        go_roundw
        case rel => exact ⟨j + 1, by go_num, hlt, HM6, hb5⟩
        case measure => simp [intOf]; omega
      · have hM : Mp.Is Tryd.prog 9 wr w.heap.size l.length (mpv l) := by
          have := hmp.out
          have hj2 : j = l.length := by rw [HN.out]; omega
          rw [hj2, List.take_length] at this
          exact this
        have HM := Lib.hid hM
        clear hmp hM
        go_wp2
        go_ret
        exact ⟨_, rfl, Nat.le_refl _, HM.out, hb⟩

set_option maxRecDepth 100000 in
set_option maxHeartbeats 2000000 in
theorem match_any (s t : ByteArray) (w : World) (hs : s.size ≤ 140737488355328) (ht : t.size ≤ 140737488355328) :
    Calls Tryd.prog 14 #[.string s, .string t] w fun e w' => e = .returned (.bool (Pf.mt s.data.toList t.data.toList)) ∧ Below w.heap.size w w' := by
  obtain ⟨L, c, hL⟩ : ∃ L c, Pf.par s.data.toList = (L, c) := ⟨_, _, rfl⟩
  obtain ⟨M, d, hM⟩ : ∃ M d, Pf.par t.data.toList = (M, d) := ⟨_, _, rfl⟩
  have hp1 := fun W => parse_any s W hs
  have hp2 := fun W => parse_any t W ht
  rw [hL] at hp1
  rw [hM] at hp2
  obtain ⟨B, hB⟩ : ∃ B, Pf.mt s.data.toList t.data.toList = B := ⟨_, rfl⟩
  have hBe : B = if c = 0 ∧ d = 0 then M.all (Pf.askOk L) else false := by rw [← hB]; unfold Pf.mt; rw [hL, hM]
  rw [hB]
  have HP1 := Lib.hid hp1
  have HP2 := Lib.hid hp2
  by_cases hc : c = 0
  · subst hc
    by_cases hd : d = 0
    · subst hd
      rw [if_pos ⟨rfl, rfl⟩] at hBe
      have hMG := (Pf.par_good hM).1
      have hLG := (Pf.par_good hL).1
      have hM6 := hMG.len
      have hL6 := hLG.len
      have HBE : Hid ((M.drop 0).all (Pf.askOk L) = B) := Lib.hid (by rw [hBe]; rfl)
      have hnm : ∀ j, j < M.length → (M.getD j p0).1.length ≤ 64 := fun j hj => by
        rw [getD_mem hj]
        exact Tx.name_short (hMG.all _ (List.getElem_mem hj)).1
      have HNM := Lib.hid hnm
      have HLG := Lib.hid hLG
      clear hp1 hp2 hL hM hB hBe hnm hMG hLG
      have hK := Tryd.underlying9
      have hT := Tryd.underlying41
      have HK := Lib.hid hK
      have HTT := Lib.hid hT
      clear hK hT
      go_enter Tryd.func14, Tryd.ntmps14
      go_wp2_with (go_at_call 7; refine (HP1.out _).mono ?_)
      rintro e w1 ⟨v1, rfl, ho1, hb1⟩
      have hr1 := prow_of ho1
      have HR1 := Lib.hid hr1
      clear hr1 ho1
      go_wp2_with (go_at_call 7; refine (HP2.out _).mono ?_)
      rintro e w2 ⟨v2, rfl, ho2, hb2⟩
      obtain ⟨p, cap, rfl, hp⟩ := prow_of ho2
      have hr1 := prow_below HR1.out hb2
      have hby := bykeys_any L v1 w2 hr1 HLG.out
      have hb02 := below_next hb1 hb2
      have HBY := Lib.hid hby
      have HPP := Lib.hid hp
      obtain ⟨n, hn⟩ : ∃ n, M.length = n := ⟨_, rfl⟩
      rw [hn] at hM6 ⊢
      have HN := Lib.hid hn
      clear hby hr1 HR1 HP1 HP2 ho2 hp hn hb1 hb2
      go_wp2_with (go_at_call 29; refine HBY.out.mono ?_)
      rintro e w3 ⟨mb, rfl, hmb, hmp, hb3⟩
      have hb03 := below_next hb02 hb3
      have HMP := Lib.hid hmp
      have hmlt : mb < w3.heap.size := hmp.lt
      by_cases hne : M = []
      · obtain rfl : n = 0 := by rw [← HN.out, hne]; rfl
        have HE : Hid (B = true) := Lib.hid (by rw [← HBE.out, hne]; rfl)
        clear hne hmp
        go_wp2
        refine wp_loop_rounds 1 ?_
        rw [rounds_succ]
        go_wp2
        go_ret
        exact ⟨ret_bool HE.out.symm, hb03⟩
      · obtain ⟨g, rfl, hcell⟩ := HPP.out hne
        have hcell3 := pcells_below hcell hb3 (Nat.le_refl _)
        have HC := Lib.hid hcell3
        clear HPP hne hcell hcell3 hmp hb3 hb02 hmb
        go_wp2
        go_loopw [31] (fun i wr => ∃ k : Nat, i = .int .i64 k ∧ k ≤ n ∧ Hid ((M.drop k).all (Pf.askOk L) = B) ∧ Below w3.heap.size w3 wr) (fun i _ => n - (intOf i).toNat)
        case atStart => exact ⟨0, rfl, Nat.zero_le _, HBE, Below.refl _ _⟩
        case round =>
          obtain ⟨k, rfl, hk, hr, hb⟩ := hrel
          have hbw : Below w.heap.size w wr := below_next hb03 hb
          by_cases hlt : k < n
          · obtain ⟨hc1, hc2⟩ := pcells_below HC.out hb (Nat.le_refl _) k (by rw [HN.out]; exact hlt)
            have hd := all_drop (l := M) (f := Pf.askOk L) (k := k) (by rw [HN.out]; exact hlt)
            have hr2 := hr.out
            rw [hd] at hr2
            have h64 := HNM.out k (by rw [HN.out]; exact hlt)
            obtain ⟨q, hq⟩ : ∃ q, M.getD k p0 = q := ⟨_, rfl⟩
            rw [hq] at hc1 hc2 hr2 h64
            have hks : (bs q.1).size ≤ maxLen := by rw [bs_size]; unfold maxLen; omega
            have HKS := Lib.hid hks
            have hmw := HMP.out.below hb hmlt
            have HMW := Lib.hid hmw
            have hb2 : Below w3.heap.size w3 (wr.alloc (.cells #[.string (bs q.1), .string (bs q.2)] 39)) := hb.alloc hb.size _
            have hbw2 : Below w.heap.size w (wr.alloc (.cells #[.string (bs q.1), .string (bs q.2)] 39)) := hbw.alloc hbw.size _
            have hsz2 : w3.heap.size ≤ (wr.alloc (.cells #[.string (bs q.1), .string (bs q.2)] 39)).heap.size := hb2.size
            have hsz3 : w.heap.size ≤ (wr.alloc (.cells #[.string (bs q.1), .string (bs q.2)] 39)).heap.size := hbw2.size
            have HBX := Lib.hid hb2
            have HBW := Lib.hid hbw2
            have HS2 := Lib.hid hsz2
            have HS3 := Lib.hid hsz3
            clear hr hd hq hks hmw h64 hb2 hbw2 hsz2 hsz3 hb hbw
            cases hlk : Pf.lk L q.1 with
            | none =>
              have HE : Hid (B = false) := Lib.hid (by rw [← hr2, ask_none hlk]; rfl)
              have HF := Lib.hid (mpv_none hlk)
              clear hr2 hlk
              go_wp2_with (at_lookup; refine Mp.wp_look_ok _ rfl _ _ 41 9 39 rfl HTT.out HK.out _ (Tryd.zeroValue39 _) mb L.length (mpv L) rfl (HMW.out.alloc _) (bs q.1) HKS.out rfl ?_; rw [HF.out]; simp only [Option.getD_none, Option.isSome_none])
              go_ret
              exact ⟨ret_bool HE.out.symm, HBW.out.alloc HS3.out _⟩
            | some v =>
              rw [ask_some hlk] at hr2
              have HF := Lib.hid (mpv_some hlk)
              have h2 := Lib.hid hr2
              clear hr2 hlk
              cases hme : Pf.meets q.2 v with
              | true =>
                have HE : Hid ((M.drop (k + 1)).all (Pf.askOk L) = B) := Lib.hid (by
                  have := h2.out
                  rw [show (q.2 == v || q.2 == [42] || v == [42]) = true from hme] at this
                  simpa using this)
                have hmeet := fun W => meet_any q.2 v W
                rw [hme] at hmeet
                have HMT := Lib.hid hmeet
                clear h2 hme hmeet
                go_wp2_with (first
                  | (at_lookup; refine Mp.wp_look_ok _ rfl _ _ 41 9 39 rfl HTT.out HK.out _ (Tryd.zeroValue39 _) mb L.length (mpv L) rfl (HMW.out.alloc _) (bs q.1) HKS.out rfl ?_; rw [HF.out]; simp only [Option.getD_some, Option.isSome_some, pv])
                  | (go_at_call 30; refine (HMT.out _).mono ?_; rintro e w' ⟨rfl, rfl⟩))
                go_roundw
                case rel => exact ⟨k + 1, by go_num, hlt, HE, HBX.out.alloc HS2.out _⟩
                case measure => simp [intOf]; omega
              | false =>
                have HE : Hid (B = false) := Lib.hid (by
                  have := h2.out
                  rw [show (q.2 == v || q.2 == [42] || v == [42]) = false from hme] at this
                  simpa using this.symm)
                have hmeet := fun W => meet_any q.2 v W
                rw [hme] at hmeet
                have HMT := Lib.hid hmeet
                clear h2 hme hmeet
                go_wp2_with (first
                  | (at_lookup; refine Mp.wp_look_ok _ rfl _ _ 41 9 39 rfl HTT.out HK.out _ (Tryd.zeroValue39 _) mb L.length (mpv L) rfl (HMW.out.alloc _) (bs q.1) HKS.out rfl ?_; rw [HF.out]; simp only [Option.getD_some, Option.isSome_some, pv])
                  | (go_at_call 30; refine (HMT.out _).mono ?_; rintro e w' ⟨rfl, rfl⟩))
                go_ret
                exact ⟨ret_bool HE.out.symm, HBW.out.alloc HS3.out _⟩
          · have HE : Hid (B = true) := Lib.hid (by
              rw [← hr.out, List.drop_eq_nil_of_le (by rw [HN.out]; omega)]
              rfl)
            clear hr
            go_wp2
            go_ret
            exact ⟨ret_bool HE.out.symm, hbw⟩
    · rw [if_neg (fun h => hd h.2)] at hBe
      have HE := Lib.hid hBe
      have hdb : (((d : Nat) : Int) == 0) = false := by
        simp only [beq_eq_false_iff_ne, Ne]
        omega
      clear hp1 hp2 hL hM hB hBe hd
      go_enter Tryd.func14, Tryd.ntmps14
      go_wp2_with (go_at_call 7; refine (HP1.out _).mono ?_)
      rintro e w1 ⟨v1, rfl, ho1, hb1⟩
      clear ho1
      go_wp2_with (go_at_call 7; refine (HP2.out _).mono ?_)
      rintro e w2 ⟨v2, rfl, ho2, hb2⟩
      clear ho2
      go_wp2
      go_ret
      exact ⟨ret_bool HE.out.symm, below_next hb1 hb2⟩
  · rw [if_neg (fun h => hc h.1)] at hBe
    have HE := Lib.hid hBe
    have hcb : (((c : Nat) : Int) == 0) = false := by
      simp only [beq_eq_false_iff_ne, Ne]
      omega
    clear hp1 hp2 hL hM hB hBe hc
    go_enter Tryd.func14, Tryd.ntmps14
    go_wp2_with (go_at_call 7; refine (HP1.out _).mono ?_)
    rintro e w1 ⟨v1, rfl, ho1, hb1⟩
    clear ho1
    go_wp2
    go_ret
    exact ⟨ret_bool HE.out.symm, hb1⟩
end Go.Proofs.YtdfollcglldocaaDoor
