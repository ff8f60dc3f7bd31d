/-
  CONTRACTS OF LAYER 4 (prop), part F: the program's pair and Parse.
-/
import Derived.Test.YtdfollcglldocaaDoorPropE
import Derived.Test.YtdfollcglldocaaDoorMaps
namespace Go.Proofs.YtdfollcglldocaaDoor
open Go.RowKit
set_option linter.unusedVariables false

theorem name_bs (k : List UInt8) (w : World) (hk : k.length ≤ 140737488355328) : Calls Tryd.prog 36 #[.string (bs k)] w fun e w' => e = .returned (.bool (Tx.isName k)) ∧ Below w.heap.size w w' :=
  name_any (bs k) w (by rw [bs_size]; omega)
/-- what a piece tells -/
def pairOf (p : List UInt8) : PR := if Pf.pc p = 0 then (Pf.ky p, Pf.vl p) else p0
def PPaired (w : World) (q : PR) (c : Nat) (e : Ending) (w' : World) : Prop := e = .returned (.tuple #[.agg #[.string (bs q.1), .string (bs q.2)], .int .i64 (c : Nat)]) ∧ Below w.heap.size w w'
set_option maxRecDepth 100000 in
set_option maxHeartbeats 2000000 in
theorem pair_any (p : List UInt8) (w : World) (hp : p.length ≤ 140737488355328) :
    Calls Tryd.prog 18 #[.string (bs p)] w (PPaired w (pairOf p) (Pf.pc p)) := by
  obtain ⟨q, hq⟩ : ∃ q, pairOf p = q := ⟨_, rfl⟩
  obtain ⟨c, hc⟩ : ∃ c, Pf.pc p = c := ⟨_, rfl⟩
  have hcount := fun W => sl_strings_Count_one (bs p) 61 W
  obtain ⟨m, hm⟩ : ∃ m, p.count 61 = m := ⟨_, rfl⟩
  rw [show Lib.countByte (bs p).data.toList 61 = m from hm] at hcount
  have HCT := Lib.hid hcount
  clear hcount
  rw [hq, hc]
  by_cases h1 : m = 1
  · subst h1
    have hmem : (61 : UInt8) ∈ p := List.count_pos_iff.1 (by omega)
    have hback := Pf.piece_back hmem
    have hcut := fun W => cut_hit (bs p) 61 (Pf.ky p) (Pf.vl p) W (by rw [bs_size]; exact hp) hback.symm (Pf.ky_free p)
    have hpc : Pf.pc p = if Tx.isName (Pf.ky p) && Pf.vok (Pf.vl p) then 0 else 5 := by
      unfold Pf.pc
      rw [if_neg (by omega)]
    obtain ⟨a, ha⟩ : ∃ a, Pf.ky p = a := ⟨_, rfl⟩
    obtain ⟨b, hb⟩ : ∃ b, Pf.vl p = b := ⟨_, rfl⟩
    have hal : a.length ≤ 140737488355328 := by
      rw [← ha]
      exact Nat.le_trans (List.takeWhile_sublist _).length_le hp
    have hbl : b.length ≤ 140737488355328 := by
      rw [← hb]
      exact Nat.le_trans (Nat.le_trans (List.drop_sublist _ _).length_le (List.dropWhile_sublist _).length_le) hp
    rw [ha, hb] at hcut hpc
    have HCUT := Lib.hid hcut
    have hq2 : pairOf p = if Pf.pc p = 0 then (a, b) else p0 := by unfold pairOf; rw [ha, hb]
    rw [hc] at hpc hq2
    rw [hq] at hq2
    clear hcut hm hq hc hmem hback ha hb
    have hbA : Below w.heap.size w (w.alloc (.cells #[.string ⟨#[]⟩, .string ⟨#[]⟩] 39)) := (Below.refl _ w).alloc (Nat.le_refl _) _
    clear hbA
    cases hna : Tx.isName a with
    | false =>
      obtain rfl : c = 5 := by rw [hpc, hna]; rfl
      obtain rfl : q = p0 := by rw [hq2]; rfl
      clear hpc hq2
      go_enter Tryd.func18, Tryd.ntmps18
      go_wp2_with (first | (go_at_call 16; refine (HCT.out _).mono ?_; rintro e w' ⟨rfl, hw⟩; rw [hw]; clear hw) | (go_at_call 35; refine (HCUT.out _).mono ?_))
      rintro e w1 ⟨rfl, hb1⟩
      go_wp2_with (go_at_call 36; refine (name_bs a _ hal).mono ?_)
      rintro e w2 ⟨rfl, hb2⟩
      rw [hna]
      have hb12 := below_next hb1 hb2
      have hblk : w2.heap[w.heap.size]? = some (.cells #[.string ⟨#[]⟩, .string ⟨#[]⟩] 39 (0, 0)) := by
        rw [hb12.block w.heap.size (by simp)]
        exact (Go.MapKept.heap_alloc w _).1
      have hx0 : w2.cell? ⟨w.heap.size, 0, none⟩ = some (.string ⟨#[]⟩) := by simp [World.cell?, hblk]
      have hx1 : w2.cell? ⟨w.heap.size, 1, none⟩ = some (.string ⟨#[]⟩) := by simp [World.cell?, hblk]
      have hf0 : w2.frozen? ⟨w.heap.size, 0, none⟩ = false := by simp [World.frozen?, hblk]
      have hf1 : w2.frozen? ⟨w.heap.size, 1, none⟩ = false := by simp [World.frozen?, hblk]
      have hbw : Below w.heap.size w w2 := ((Below.refl _ w).alloc (Nat.le_refl _) _).trans (hb12.mono (by simp))
      clear hb1 hb2 hb12 hblk
      go_wp2
      refine bodyPost_ret (v := .tuple #[.agg #[.string (bs []), .string (bs [])], .int .i64 5]) ?_ rfl ?_
      · rw [results_cell_tmp rfl]
        go_simp
      · exact ⟨rfl, by repeat (first | exact hbw | refine Below.setCell ?_ (by simp) _)⟩
    | true =>
      cases hsb : (b == [42]) with
      | true =>
        obtain rfl : c = 0 := by
          rw [hpc, hna]
          unfold Pf.vok Pf.star
          rw [hsb]
          rfl
        obtain rfl : q = (a, b) := by rw [hq2]; rfl
        clear hpc hq2
        go_enter Tryd.func18, Tryd.ntmps18
        go_wp2_with (first | (go_at_call 16; refine (HCT.out _).mono ?_; rintro e w' ⟨rfl, hw⟩; rw [hw]; clear hw) | (go_at_call 35; refine (HCUT.out _).mono ?_))
        rintro e w1 ⟨rfl, hb1⟩
        go_wp2_with (go_at_call 36; refine (name_bs a _ hal).mono ?_)
        rintro e w2 ⟨rfl, hb2⟩
        rw [hna]
        have hb12 := below_next hb1 hb2
        have hblk : w2.heap[w.heap.size]? = some (.cells #[.string ⟨#[]⟩, .string ⟨#[]⟩] 39 (0, 0)) := by
          rw [hb12.block w.heap.size (by simp)]
          exact (Go.MapKept.heap_alloc w _).1
        have hx0 : w2.cell? ⟨w.heap.size, 0, none⟩ = some (.string ⟨#[]⟩) := by simp [World.cell?, hblk]
        have hx1 : w2.cell? ⟨w.heap.size, 1, none⟩ = some (.string ⟨#[]⟩) := by simp [World.cell?, hblk]
        have hf0 : w2.frozen? ⟨w.heap.size, 0, none⟩ = false := by simp [World.frozen?, hblk]
        have hf1 : w2.frozen? ⟨w.heap.size, 1, none⟩ = false := by simp [World.frozen?, hblk]
        have hbw : Below w.heap.size w w2 := ((Below.refl _ w).alloc (Nat.le_refl _) _).trans (hb12.mono (by simp))
        clear hb1 hb2 hb12 hblk
        go_wp2
        refine bodyPost_ret (v := .tuple #[.agg #[.string (bs a), .string (bs b)], .int .i64 0]) ?_ rfl ?_
        · rw [results_cell_tmp rfl]
          go_simp
        · exact ⟨rfl, by repeat (first | exact hbw | refine Below.setCell ?_ (by simp) _)⟩
      | false =>
        cases hnb : Tx.isName b with
        | true =>
          obtain rfl : c = 0 := by
            rw [hpc, hna]
            unfold Pf.vok
            rw [hnb]
            simp
          obtain rfl : q = (a, b) := by rw [hq2]; rfl
          clear hpc hq2
          go_enter Tryd.func18, Tryd.ntmps18
          go_wp2_with (first | (go_at_call 16; refine (HCT.out _).mono ?_; rintro e w' ⟨rfl, hw⟩; rw [hw]; clear hw) | (go_at_call 35; refine (HCUT.out _).mono ?_))
          rintro e w1 ⟨rfl, hb1⟩
          go_wp2_with (go_at_call 36; refine (name_bs a _ hal).mono ?_)
          rintro e w2 ⟨rfl, hb2⟩
          rw [hna]
          have hb12 := below_next hb1 hb2
          go_wp2_with (go_at_call 36; refine (name_bs b _ hbl).mono ?_)
          rintro e w3 ⟨rfl, hb3⟩
          rw [hnb]
          have hb13 := below_next hb12 hb3
          have hblk : w3.heap[w.heap.size]? = some (.cells #[.string ⟨#[]⟩, .string ⟨#[]⟩] 39 (0, 0)) := by
            rw [hb13.block w.heap.size (by simp)]
            exact (Go.MapKept.heap_alloc w _).1
          have hx0 : w3.cell? ⟨w.heap.size, 0, none⟩ = some (.string ⟨#[]⟩) := by simp [World.cell?, hblk]
          have hx1 : w3.cell? ⟨w.heap.size, 1, none⟩ = some (.string ⟨#[]⟩) := by simp [World.cell?, hblk]
          have hf0 : w3.frozen? ⟨w.heap.size, 0, none⟩ = false := by simp [World.frozen?, hblk]
          have hf1 : w3.frozen? ⟨w.heap.size, 1, none⟩ = false := by simp [World.frozen?, hblk]
          have hbw : Below w.heap.size w w3 := ((Below.refl _ w).alloc (Nat.le_refl _) _).trans (hb13.mono (by simp))
          clear hb1 hb2 hb12 hb3 hb13 hblk
          go_wp2
          refine bodyPost_ret (v := .tuple #[.agg #[.string (bs a), .string (bs b)], .int .i64 0]) ?_ rfl ?_
          · rw [results_cell_tmp rfl]
            go_simp
          · exact ⟨rfl, by repeat (first | exact hbw | refine Below.setCell ?_ (by simp) _)⟩
        | false =>
          obtain rfl : c = 5 := by
            rw [hpc, hna]
            unfold Pf.vok Pf.star
            rw [hnb, hsb]
            rfl
          obtain rfl : q = p0 := by rw [hq2]; rfl
          clear hpc hq2
          go_enter Tryd.func18, Tryd.ntmps18
          go_wp2_with (first | (go_at_call 16; refine (HCT.out _).mono ?_; rintro e w' ⟨rfl, hw⟩; rw [hw]; clear hw) | (go_at_call 35; refine (HCUT.out _).mono ?_))
          rintro e w1 ⟨rfl, hb1⟩
          go_wp2_with (go_at_call 36; refine (name_bs a _ hal).mono ?_)
          rintro e w2 ⟨rfl, hb2⟩
          rw [hna]
          have hb12 := below_next hb1 hb2
          go_wp2_with (go_at_call 36; refine (name_bs b _ hbl).mono ?_)
          rintro e w3 ⟨rfl, hb3⟩
          rw [hnb]
          have hb13 := below_next hb12 hb3
          have hblk : w3.heap[w.heap.size]? = some (.cells #[.string ⟨#[]⟩, .string ⟨#[]⟩] 39 (0, 0)) := by
            rw [hb13.block w.heap.size (by simp)]
            exact (Go.MapKept.heap_alloc w _).1
          have hx0 : w3.cell? ⟨w.heap.size, 0, none⟩ = some (.string ⟨#[]⟩) := by simp [World.cell?, hblk]
          have hx1 : w3.cell? ⟨w.heap.size, 1, none⟩ = some (.string ⟨#[]⟩) := by simp [World.cell?, hblk]
          have hf0 : w3.frozen? ⟨w.heap.size, 0, none⟩ = false := by simp [World.frozen?, hblk]
          have hf1 : w3.frozen? ⟨w.heap.size, 1, none⟩ = false := by simp [World.frozen?, hblk]
          have hbw : Below w.heap.size w w3 := ((Below.refl _ w).alloc (Nat.le_refl _) _).trans (hb13.mono (by simp))
          clear hb1 hb2 hb12 hb3 hb13 hblk
          go_wp2
          refine bodyPost_ret (v := .tuple #[.agg #[.string (bs []), .string (bs [])], .int .i64 5]) ?_ rfl ?_
          · rw [results_cell_tmp rfl]
            go_simp
          · exact ⟨rfl, by repeat (first | exact hbw | refine Below.setCell ?_ (by simp) _)⟩
  · have hpc : c = 3 := by
      rw [← hc]
      unfold Pf.pc
      rw [if_pos (by omega)]
    have hqe : q = p0 := by
      rw [← hq]
      unfold pairOf
      rw [if_neg (by omega)]
    subst hpc hqe
    have h1b : ((m : Int) == 1) = false := by
      simp only [beq_eq_false_iff_ne, Ne]
      omega
    clear hm hq hc h1
    have hb0 : Below w.heap.size w w := Below.refl _ _
    go_enter Tryd.func18, Tryd.ntmps18
    go_wp2_with (go_at_call 16; refine (HCT.out _).mono ?_; rintro e w' ⟨rfl, rfl⟩)
    refine bodyPost_ret (v := .tuple #[.agg #[.string (bs []), .string (bs [])], .int .i64 3]) ?_ rfl ?_
    · rw [results_cell_tmp rfl]
      go_simp
    · exact ⟨rfl, (Below.refl _ _).alloc (Nat.le_refl _) _⟩

/-! ### Parse -/
def pv (q : PR) : Value := .agg #[.string (bs q.1), .string (bs q.2)]
/-- what a map of pairs by keys has -/
def mpv (acc : List PR) (s : ByteArray) : Option Value := (acc.find? fun q => q.1 == s.data.toList).map pv
theorem mpv_none {acc : List PR} {a : List UInt8} (h : Pf.lk acc a = none) : mpv acc (bs a) = none := by
  unfold mpv
  have : acc.find? (fun q => q.1 == a) = none := by simpa [Pf.lk] using h
  show (acc.find? fun q => q.1 == a).map pv = none
  rw [this]
  rfl
theorem mpv_some {acc : List PR} {a v : List UInt8} (h : Pf.lk acc a = some v) : mpv acc (bs a) = some (pv (a, v)) := by
  unfold Pf.lk at h
  cases hf : acc.find? (fun q => q.1 == a) with
  | none => rw [hf] at h; cases h
  | some q =>
    rw [hf] at h
    have hq : q.1 = a := by
      have := List.find?_some hf
      simpa using this
    have hv : q.2 = v := by simpa using h
    show (acc.find? fun q => q.1 == a).map pv = _
    rw [hf, ← hq, ← hv]
    rfl
theorem mpv_snoc {acc : List PR} {q : PR} (h : Pf.lk acc q.1 = none) (s : ByteArray) : (if s = bs q.1 then some (pv q) else mpv acc s) = mpv (acc ++ [q]) s := by
  unfold mpv
  rw [List.find?_append]
  by_cases e : s = bs q.1
  · rw [if_pos e, e]
    have : acc.find? (fun x => x.1 == q.1) = none := by simpa [Pf.lk] using h
    show _ = Option.map pv ((acc.find? (fun x => x.1 == q.1)).or _)
    rw [this]
    simp
  · rw [if_neg e]
    have hne : (q.1 == s.data.toList) = false := by
      rw [beq_eq_false_iff_ne]
      intro h2
      exact e (by rw [h2, bs_data])
    simp [hne]
theorem owns_base {w : World} {b b' k n : Nat} {e : TypeId} {v : Value} {xs : List Value} (h : w.ownsRow b e k v n xs) (hb : b' ≤ b) : w.ownsRow b' e k v n xs := by
  refine ⟨h.1, ?_⟩
  rcases h.2 with hn | ⟨g, cap, cur, hv, hbg, rest⟩
  · exact .inl hn
  · exact .inr ⟨g, cap, cur, hv, Nat.le_trans hb hbg, rest⟩
theorem own_ne_block {w : World} {base k n b : Nat} {e : TypeId} {v : Value} {xs : List Value} (h : w.ownsRow base e k v n xs) (hb : b < base) : v.ownBlock ≠ some b := fun e1 => by
  have := own_lt h e1
  omega
theorem st_al {w : World} {g : Nat} {l : List (List UInt8)} (h : SCells w g l ∧ Tag w g 9) (o : Obj) : SCells (w.alloc o) g l ∧ Tag (w.alloc o) g 9 :=
  ⟨scells_grown h.1 h.2 (World.grownBy_alloc w o none) (by simp), h.2.grown (World.grownBy_alloc w o none) (by simp)⟩
theorem st_grown {w w' : World} {g : Nat} {l : List (List UInt8)} {row : Option Nat} (h : SCells w g l ∧ Tag w g 9) (hg : w.grownBy w' row) (hne : row ≠ some g) : SCells w' g l ∧ Tag w' g 9 :=
  ⟨scells_grown h.1 h.2 hg hne, h.2.grown hg hne⟩
def Parsed (w : World) (r : List PR × Nat) (e : Ending) (w' : World) : Prop := ∃ v, e = .returned (.tuple #[v, .int .i64 (r.2 : Nat)]) ∧ w'.ownsRow w.heap.size 39 2 v r.1.length (pcells r.1) ∧ Below w.heap.size w w'
set_option maxRecDepth 100000 in
set_option maxHeartbeats 2000000 in
theorem parse_any (s : ByteArray) (w : World) (hs : s.size ≤ 140737488355328) :
    Calls Tryd.prog 7 #[.string s] w (Parsed w (Pf.par s.data.toList)) := by
  obtain ⟨R, hR⟩ : ∃ R, Pf.par s.data.toList = R := ⟨_, rfl⟩
  have hnil : ∀ W : World, W.ownsRow w.heap.size 39 2 (.slice none 0 0) 0 (pcells []) := fun W => World.ownsRow_nil _ _ _ _
  have HNIL := Lib.hid hnil
  clear hnil
  by_cases h0 : s.data.toList = []
  · have he : s = ByteArray.empty := by
      rw [← bs_data s, h0]
      rfl
    have hRE : R = ([], 0) := by rw [← hR, h0]; rfl
    rw [hR]
    have HE := Lib.hid hRE
    subst he
    clear hR h0 hRE
    go_enter Tryd.func7, Tryd.ntmps7
    go_wp2
    go_ret2
    exact ⟨_, by rw [HE.out]; rfl, by rw [HE.out]; exact HNIL.out _, Below.refl _ _⟩
  · have hse := not_empty h0
    have hpar : R = if 6 < (Pf.spl 44 s.data.toList).length then ([], 9) else Pf.prs (Pf.spl 44 s.data.toList) [] := by
      rw [← hR]
      unfold Pf.par
      rw [if_neg h0]
    rw [hR]
    have hpl : ∀ p ∈ Pf.spl 44 s.data.toList, p.length ≤ 140737488355328 := fun p hp => by
      have := spl_mem_len _ p hp
      rw [ba_len] at this
      omega
    have hlen := Pf.spl_len 44 s.data.toList
    have hcount := fun W => sl_strings_Count_one s 44 W
    have hsplit := fun W hc => split_any s 44 W hs hc
    obtain ⟨m, hm⟩ : ∃ m, s.data.toList.count 44 = m := ⟨_, rfl⟩
    rw [show Lib.countByte s.data.toList 44 = m from hm] at hcount
    rw [hm] at hsplit hlen
    obtain ⟨ps, hps⟩ : ∃ ps, Pf.spl 44 s.data.toList = ps := ⟨_, rfl⟩
    rw [hps] at hpar hpl hsplit hlen
    rw [hlen] at hpar hsplit
    have HCT := Lib.hid hcount
    by_cases h6 : 6 ≤ m
    · rw [if_pos (by omega)] at hpar
      have HE := Lib.hid hpar
      have h6' : (6 : Int) ≤ (m : Int) := by omega
      clear hR h0 hpar hpl hlen hsplit hm hps hcount
      go_enter Tryd.func7, Tryd.ntmps7
      go_wp2_with (go_at_call 16; refine (HCT.out _).mono ?_; rintro e w' ⟨rfl, rfl⟩)
      go_ret2
      exact ⟨_, by rw [HE.out]; rfl, by rw [HE.out]; exact HNIL.out _, Below.refl _ _⟩
    · rw [if_neg (by omega)] at hpar
      have HR : Hid (Pf.prs (ps.drop 0) [] = R) := Lib.hid (by rw [hpar]; rfl)
      have HPL := Lib.hid hpl
      have HSPL := Lib.hid (fun W => hsplit W (by omega))
      have h6' : (m : Int) < 6 := by omega
      obtain ⟨n, hn⟩ : ∃ n, m + 1 = n := ⟨_, rfl⟩
      have hn6 : n ≤ 6 := by omega
      have HN : Hid (ps.length = n) := Lib.hid (by rw [hlen, hn])
      rw [hn] at HSPL
      clear hR h0 hpar hpl hlen hsplit hm hps hcount
      have hmm := @run_makeMap Tryd.prog
      obtain ⟨i0, hi, hz0, hz1, hz2⟩ := info_parts info_pair
      have HI := Lib.hid hi
      have HZ0 := Lib.hid hz0
      have HZ1 := Lib.hid hz1
      have HZ2 := Lib.hid hz2
      clear hi hz0 hz1 hz2
      go_enter Tryd.func7, Tryd.ntmps7
      go_wp2_with (first | (go_at_call 16; refine (HCT.out _).mono ?_; rintro e w' ⟨rfl, hw⟩; rw [hw]; clear hw) | (go_at_call 17; refine (HSPL.out _).mono ?_))
      rintro e w1 ⟨rfl, hw1⟩
      obtain ⟨g, hg⟩ : ∃ g, (w.alloc (.map #[] 0)).heap.size = g := ⟨_, rfl⟩
      have hgs : g = w.heap.size + 1 := by rw [← hg]; simp
      have hcell : SCells w1 g ps := by
        have := scells_split (w.alloc (.map #[] 0)) ps 9
        rw [HN.out, hg] at this
        rw [hw1]
        exact this
      have htag : Tag w1 g 9 := by
        rw [hw1, ← hg]
        exact ⟨_, _, (Go.MapKept.heap_alloc (w.alloc (.map #[] 0)) _).1⟩
      have hmap : Mp.Is Tryd.prog 9 w1 w.heap.size 0 (mpv []) := by
        rw [hw1]
        exact (Mp.Is.made w).alloc _
      have hb1 : Below w.heap.size w w1 := by
        rw [hw1]
        exact ((Below.refl _ w).alloc (Nat.le_refl _) _).alloc (by simp) _
      have hs1 : w1.heap.size = w.heap.size + 2 := by rw [hw1]; simp
      rw [hg]
      have HC := Lib.hid hcell
      have HTG := Lib.hid htag
      have HMP := Lib.hid hmap
      have HB1 := Lib.hid hb1
      have HS1 := Lib.hid hs1
      have HGS := Lib.hid hgs
      clear hcell htag hmap hb1 hw1 hs1 hg hgs hmm HCT HSPL
      have hnil1 : w1.ownsRow w1.heap.size 39 2 (.slice none 0 0) 0 (pcells []) := World.ownsRow_nil _ _ _ _
      have HNIL1 := Lib.hid hnil1
      clear hnil1
      have hK := Tryd.underlying9
      have hT := Tryd.underlying41
      have HK := Lib.hid hK
      have HTT := Lib.hid hT
      clear hK hT
      go_wp2
      go_loopw [4, 21] (fun l i wr => ∃ (acc : List PR) (k : Nat), i = .int .i64 k ∧ k ≤ n ∧ acc.length = k ∧ Hid (Pf.prs (ps.drop k) acc = R) ∧ wr.ownsRow w1.heap.size 39 2 l acc.length (pcells acc) ∧ Hid (SCells wr g ps ∧ Tag wr g 9) ∧ Hid (Mp.Is Tryd.prog 9 wr w.heap.size k (mpv acc)) ∧ Below w.heap.size w wr ∧ w1.heap.size ≤ wr.heap.size) (fun _ i _ => n - (intOf i).toNat)
      case atStart => exact ⟨[], 0, rfl, Nat.zero_le _, rfl, HR, HNIL1.out, Lib.hid ⟨HC.out, HTG.out⟩, HMP, HB1.out, Nat.le_refl _⟩
      case round =>
        obtain ⟨acc, k, rfl, hk, hak, hr, hown, hst, hmp, hbw, hws⟩ := hrel
        by_cases hlt : k < n
        · have hcell := hst.out.1 k (by rw [HN.out]; exact hlt)
          have hd := drop_l (l := ps) (i := k) (by rw [HN.out]; exact hlt)
          have hmem := HPL.out _ (getD_mem_l (l := ps) (i := k) (by rw [HN.out]; exact hlt))
          obtain ⟨p, hp⟩ : ∃ p, ps.getD k [] = p := ⟨_, rfl⟩
          rw [hp] at hcell hd hmem
          have hr2 := hr.out
          rw [hd, Pf.prs] at hr2
          have HR2 := Lib.hid hr2
          clear hr hd hp hr2
          obtain ⟨c, hc⟩ : ∃ c, Pf.pc p = c := ⟨_, rfl⟩
          obtain ⟨q, hq⟩ : ∃ q, pairOf p = q := ⟨_, rfl⟩
          have hpair := pair_any p wr hmem
          rw [hc, hq] at hpair
          have HPR := Lib.hid hpair
          clear hpair
          by_cases hc0 : c = 0
          · subst hc0
            obtain ⟨hone, hgood⟩ := Pf.pc_zero.1 hc
            obtain ⟨a, ha⟩ : ∃ a, Pf.ky p = a := ⟨_, rfl⟩
            obtain ⟨b, hbv⟩ : ∃ b, Pf.vl p = b := ⟨_, rfl⟩
            have hqe : q = (a, b) := by
              rw [← hq]
              unfold pairOf
              rw [if_pos hc, ha, hbv]
            subst hqe
            rw [ha, hbv] at hgood
            have hal := Tx.name_short hgood.1
            have hks : (bs a).size ≤ maxLen := by
              have h64 : a.length ≤ 64 := hal
              rw [bs_size]; unfold maxLen; omega
            have hr3 := HR2.out
            rw [hc, if_neg (by decide), ha, hbv] at hr3
            have HR3 := Lib.hid hr3
            have HKS := Lib.hid hks
            clear hone hgood ha hbv hc hq hr3 hks HR2
            have hbl : w.heap.size < wr.heap.size := hmp.out.lt
            go_wp2_with (first | (go_at_call 18; refine HPR.out.mono ?_))
            rintro e w2 ⟨rfl, hb2⟩
            have hmp2 := hmp.out.below hb2 hbl
            have hown2 := owns_below hown hb2
            have hst2 : SCells w2 g ps ∧ Tag w2 g 9 := ⟨scells_below hst.out.1 hb2 (Nat.le_refl _), hst.out.2.below hb2 (Nat.le_refl _)⟩
            have hbw2 : Below w.heap.size w w2 := hbw.trans (hb2.mono hbw.size)
            have hws2 : w1.heap.size ≤ w2.heap.size := Nat.le_trans hws hb2.size
            have HMP2 := Lib.hid hmp2
            have HST2 := Lib.hid hst2
            clear hmp2 hst2 hmp hst hown hbw hws hb2 hbl HPR hcell
            cases hlk : Pf.lk acc a with
            | some v =>
              have hf := mpv_some hlk
              have HF := Lib.hid hf
              have HE : Hid (R = ([], 8)) := Lib.hid (by
                have := HR3.out
                rw [hlk] at this
                exact this.symm)
              clear hf hlk
              go_wp2_with (at_lookup; refine Mp.wp_look_ok _ rfl _ _ 41 9 39 rfl HTT.out HK.out _ (Tryd.zeroValue39 _) w.heap.size k (mpv acc) rfl (HMP2.out.alloc _) (bs a) HKS.out rfl ?_; rw [HF.out]; simp only [Option.getD_some, Option.isSome_some, pv])
              go_ret2
              exact ⟨_, by rw [HE.out]; rfl, by rw [HE.out]; exact HNIL.out _, (hbw2.alloc hbw2.size _).alloc (by simp; have := hbw2.size; omega) _⟩
            | none =>
              have hf := mpv_none hlk
              have HF := Lib.hid hf
              have HLK := Lib.hid hlk
              have HE : Hid (Pf.prs (ps.drop (k + 1)) (acc ++ [(a, b)]) = R) := Lib.hid (by
                have := HR3.out
                rw [hlk] at this
                exact this)
              clear hf hlk
              go_wp2_with (first
                | (at_lookup; refine Mp.wp_look_ok _ rfl _ _ 41 9 39 rfl HTT.out HK.out _ (Tryd.zeroValue39 _) w.heap.size k (mpv acc) rfl (HMP2.out.alloc _) (bs a) HKS.out rfl ?_; rw [HF.out]; simp only [Option.getD_none, Option.isSome_none])
                | (at_mapUpdate; refine Mp.wp_put _ rfl _ _ _ 41 9 39 rfl HTT.out HK.out w.heap.size k (mpv acc) rfl ((HMP2.out.alloc _).alloc _) (by unfold maxLen; omega) (bs a) HKS.out rfl (pv (a, b)) rfl ?_))
              intro w5 hmp5 hg5
              have hmb : w.heap.size < w1.heap.size ∧ g < w1.heap.size ∧ w.heap.size ≠ g := by
                have := HS1.out
                have := HGS.out
                omega
              have hs4 : ((w2.alloc (.cells #[.string (bs a), .string (bs b)] 39)).alloc (.cells #[.string ⟨#[]⟩, .string ⟨#[]⟩] 39)).heap.size = w2.heap.size + 2 := by simp
              have hblk : w5.heap[w2.heap.size]? = some (.cells #[.string (bs a), .string (bs b)] 39 (0, 0)) := by
                rw [hg5.block w2.heap.size (by rw [hs4]; omega) (by intro e; injection e with e; omega), Below.heap_alloc _ _ _ (by simp)]
                exact (Go.MapKept.heap_alloc w2 _).1
              have hz0 : w5.cell? ⟨w2.heap.size, 0, none⟩ = some (.string (bs a)) := by simp [World.cell?, hblk]
              have hz1 : w5.cell? ⟨w2.heap.size, 1, none⟩ = some (.string (bs b)) := by simp [World.cell?, hblk]
              have hne1 := own_ne_block hown2 hmb.1
              have hown5 := ((hown2.alloc (.cells #[.string (bs a), .string (bs b)] 39)).alloc (.cells #[.string ⟨#[]⟩, .string ⟨#[]⟩] 39)).kept hg5 (Or.inr hne1)
              have hst5 := st_grown (st_al (st_al HST2.out (.cells #[.string (bs a), .string (bs b)] 39)) (.cells #[.string ⟨#[]⟩, .string ⟨#[]⟩] 39)) hg5 (by intro e; injection e with e; omega)
              have hbw5 : Below w.heap.size w w5 := ((hbw2.alloc hbw2.size _).alloc (by simp; have := hbw2.size; omega) _).grown hg5 (by rw [hs4]; have := hbw2.size; omega) (fun k hk => by injection hk with hk; omega)
              have hmp6 := hmp5.ext (mpv_snoc (q := (a, b)) HLK.out)
              have hws5 : w1.heap.size ≤ w5.heap.size := by
                have := hg5.size
                rw [hs4] at this
                omega
              have HST5 := Lib.hid (st_al hst5 (.cells #[.string (bs a), .string (bs b)] 39))
              have HMP5 := Lib.hid (hmp6.alloc (.cells #[.string (bs a), .string (bs b)] 39))
              have HMB := Lib.hid hmb
              clear hg5 hmp5 hmp6 hst5 hblk hs4 hown2 hbw2 hws2 HMP2 HST2 hne1 hmb
              go_wp2_with (at_builtin; refine wpList_append_own _ rfl _ _ 23 rfl w1.heap.size 39 i0 (.agg #[.string ByteArray.empty, .string ByteArray.empty]) 2 32 Tryd.underlying23 HI.out HZ0.out HZ1.out HZ2.out rfl (by decide) _ _ _ rfl (hown5.alloc _) ⟨w5.heap.size, 0, none⟩ 1 1 [.string (bs a), .string (bs b)] rfl rfl (two_cells w5 _ _ _) (two_one _ _) (by unfold maxLen; omega) (by omega) (by simp; omega) ?_)
              intro v6 w6 hown6 hg6 hnil
              have hown7 : w6.ownsRow w1.heap.size 39 2 v6 (acc ++ [(a, b)]).length (pcells (acc ++ [(a, b)])) := by
                rw [← pcells_snoc, List.length_append]
                have hl : acc.length + 1 = k + 1 := by rw [hak]
                first | exact hown6 | (rw [show acc.length + [(a, b)].length = k + 1 from hl]; exact hown6)
              have hbw6 : Below w.heap.size w w6 := (hbw5.alloc hbw5.size _).grown hg6 (by simp; have := hbw5.size; omega) (fun j hj => by have := (own_lt hown5 hj).1; have := HMB.out.1; omega)
              have hst6 := st_grown HST5.out hg6 (own_ne_block hown5 HMB.out.2.1)
              have hmp7 := HMP5.out.kept hg6 (fun e => own_ne_block hown5 HMB.out.1 e.symm)
              have hws6 : w1.heap.size ≤ w6.heap.size := by
                have := hg6.size
                simp at this
                omega
              have HST6 := Lib.hid hst6
              have HMP6 := Lib.hid hmp7
              clear hnil hown6 hg6 hown5 hst6 hmp7 hbw5 hws5 hz0 hz1
              go_wp2
              go_roundw
              case rel => exact ⟨acc ++ [(a, b)], k + 1, by go_num, hlt, by simp; omega, HE, hown7, HST6, HMP6, hbw6, hws6⟩
              case measure => simp [intOf]; omega
          · have HE : Hid (R = ([], c)) := Lib.hid (by
              have := HR2.out
              rw [hc, if_pos hc0] at this
              exact this.symm)
            have hcb : (((c : Nat) : Int) == 0) = false := by
              simp only [beq_eq_false_iff_ne, Ne]
              omega
            clear hc hq hc0
            go_wp2_with (go_at_call 18; refine HPR.out.mono ?_; rintro e w' ⟨rfl, hb2⟩)
            go_ret2
            exact ⟨_, by rw [HE.out]; rfl, by rw [HE.out]; exact HNIL.out _, (hbw.trans (‹Below wr.heap.size wr _›.mono hbw.size)).alloc (Nat.le_trans hbw.size ‹Below wr.heap.size wr _›.size) _⟩
        · have HE : Hid (R = (acc, 0)) := Lib.hid (by
            rw [← hr.out, List.drop_eq_nil_of_le (by rw [HN.out]; omega)]
            rfl)
          have hR := owns_base hown HB1.out.size
          clear hr hst hown hmp
          go_wp2
          go_ret2
          exact ⟨_, by rw [HE.out]; rfl, by rw [HE.out]; exact hR, hbw⟩
end Go.Proofs.YtdfollcglldocaaDoor
