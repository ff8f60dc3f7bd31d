/-
  CONTRACTS OF LAYER 4 (prop), part A: rows of texts and of pairs; the page's Split; meet, same, num.
-/
import Derived.Test.YtdfollcglldocaaDoorCuts
import Derived.Test.YtdfollcglldocaaDoorTextC
import Derived.Lib.SplitLaws
namespace Go.Proofs.YtdfollcglldocaaDoor
open Go.RowKit
set_option linter.unusedVariables false

/-! ### a row of texts -/
def scells (l : List (List UInt8)) : List Value := l.map fun x => .string (bs x)
theorem scells_len (l : List (List UInt8)) : (scells l).length = l.length := by simp [scells]
theorem scells_snoc (l : List (List UInt8)) (x : List UInt8) : scells l ++ [.string (bs x)] = scells (l ++ [x]) := by simp [scells]
/-- block g's cells are the texts l -/
def SCells (w : World) (g : Nat) (l : List (List UInt8)) : Prop := ∀ i, i < l.length → w.cell? ⟨g, i, none⟩ = some (.string (bs (l.getD i [])))
/-- block g is a row of values of type ty -/
def Tag (w : World) (g : Nat) (ty : TypeId) : Prop := ∃ cur fr, w.heap[g]? = some (.cells cur ty fr)
theorem Tag.lt {w : World} {g : Nat} {ty : TypeId} (h : Tag w g ty) : g < w.heap.size := by
  obtain ⟨cur, fr, h⟩ := h
  exact (Array.getElem?_eq_some_iff.1 h).1
theorem Tag.below {w w' : World} {g B : Nat} {ty : TypeId} (h : Tag w g ty) (hb : Below B w w') (hB : w.heap.size ≤ B) : Tag w' g ty := by
  have hlt := h.lt
  obtain ⟨cur, fr, h⟩ := h
  exact ⟨cur, fr, by rw [hb.block g (by omega)]; exact h⟩
theorem Tag.grown {w w' : World} {g : Nat} {ty : TypeId} {row : Option Nat} (h : Tag w g ty) (hg : w.grownBy w' row) (hne : row ≠ some g) : Tag w' g ty := by
  have hlt := h.lt
  obtain ⟨cur, fr, h⟩ := h
  exact ⟨cur, fr, by rw [hg.block g hlt (fun e => hne e.symm)]; exact h⟩
theorem own_ne_tag {w : World} {base k n g : Nat} {e ty : TypeId} {v : Value} {xs : List Value} (ho : w.ownsRow base e k v n xs) (hg : Tag w g ty) (hne : e ≠ ty) : v.ownBlock ≠ some g := by
  obtain ⟨cur, fr, hg⟩ := hg
  rcases ho.2 with ⟨rfl, _⟩ | ⟨g', cap, cur', rfl, hbg, hgg, _⟩
  · simp [Value.ownBlock]
  · intro e1
    simp [Value.ownBlock] at e1
    subst e1
    rw [hgg] at hg
    simp at hg
    exact hne hg.2.1
theorem cells_grown {w w' : World} {g i : Nat} {ty : TypeId} {row : Option Nat} (h : Tag w g ty) (hg : w.grownBy w' row) (hne : row ≠ some g) : w'.cell? ⟨g, i, none⟩ = w.cell? ⟨g, i, none⟩ := by
  have := hg.block g h.lt (fun e => hne e.symm)
  simp only [World.cell?, this]
/-- a slice (not nil) that holds the texts l -/
def SRow (w : World) (l : List (List UInt8)) (v : Value) : Prop := ∃ g cap, v = .slice (some ⟨g, 0, none⟩) l.length cap ∧ SCells w g l ∧ Tag w g 9
theorem scells_grown {w w' : World} {g : Nat} {l : List (List UInt8)} {row : Option Nat} (h : SCells w g l) (ht : Tag w g 9) (hg : w.grownBy w' row) (hne : row ≠ some g) : SCells w' g l := fun i hi => by
  rw [cells_grown ht hg hne]
  exact h i hi
theorem scells_below {w w' : World} {B g : Nat} {l : List (List UInt8)} (h : SCells w g l) (hb : Below B w w') (hB : w.heap.size ≤ B) : SCells w' g l := fun i hi => by
  have hc := h i hi
  rw [hb.cell (p := ⟨g, i, none⟩) (Nat.lt_of_lt_of_le (World.block_lt_of_cell? w ⟨g, i, none⟩ hc) hB)]
  exact hc
theorem scells_of {w : World} {base g : Nat} {v : Value} {l : List (List UInt8)} (h : w.ownsRow base 9 1 v l.length (scells l)) (hv : v.ownBlock = some g) : SCells w g l := fun i hi => by
  have hc := h.cells (g := g) hv i (.string (bs (l.getD i []))) (by
    unfold scells
    rw [List.getElem?_map, List.getD_eq_getElem?_getD, List.getElem?_eq_getElem hi]
    rfl)
  have hadd : (⟨g, 0, none⟩ : Addr).add i = ⟨g, i, none⟩ := by unfold Addr.add; split <;> simp_all
  rwa [hadd] at hc
theorem srow_of {w : World} {base : Nat} {v : Value} {l : List (List UInt8)} (h : w.ownsRow base 9 1 v l.length (scells l)) (hne : v ≠ .slice none 0 0) : SRow w l v := by
  rcases h.2 with ⟨hv, _⟩ | ⟨g, cap, cur, hv, rest⟩
  · exact absurd hv hne
  · exact ⟨g, cap, hv, scells_of h (by rw [hv]; rfl), ⟨cur, (0, 0), rest.2.1⟩⟩
/-- what strings.Split laid -/
theorem scells_split (w : World) (l : List (List UInt8)) (ty : TypeId) : SCells (w.alloc (.cells (Lib.cellsOf (l.map bs) l.length) ty)) w.heap.size l := fun i hi => by
  rw [World.cell?_alloc_at _ _ _ _ rfl]
  have := Lib.cellsOf_full (l.map bs)
  rw [List.length_map] at this
  rw [this]
  simp only [List.map_map, List.getElem?_toArray, List.getElem?_map, List.getD_eq_getElem?_getD, List.getElem?_eq_getElem hi]
  rfl

/-! ### a row of pairs -/
abbrev PR := Pf.PR
def p0 : PR := ([], [])
def pcells (l : List PR) : List Value := l.flatMap fun q => [.string (bs q.1), .string (bs q.2)]
theorem pcells_len (l : List PR) : (pcells l).length = l.length * 2 := by
  induction l with
  | nil => rfl
  | cons q l ih => show (_ ++ pcells l).length = _; rw [List.length_append, ih]; simp; omega
theorem pcells_snoc (l : List PR) (q : PR) : pcells l ++ [.string (bs q.1), .string (bs q.2)] = pcells (l ++ [q]) := by simp [pcells]
theorem pcells_get : ∀ (l : List PR) (i : Nat), i < l.length → (pcells l)[i * 2]? = some (.string (bs (l.getD i p0).1)) ∧ (pcells l)[i * 2 + 1]? = some (.string (bs (l.getD i p0).2))
  | [], i, h => by simp at h
  | q :: l, 0, _ => ⟨rfl, rfl⟩
  | q :: l, i + 1, h => by
    have ih := pcells_get l i (by simpa using h)
    have e1 : (i + 1) * 2 = i * 2 + 2 := by omega
    rw [e1]
    exact ih
def PCells (w : World) (g : Nat) (l : List PR) : Prop := ∀ i, i < l.length → w.cell? ⟨g, i * 2, none⟩ = some (.string (bs (l.getD i p0).1)) ∧ w.cell? ⟨g, i * 2 + 1, none⟩ = some (.string (bs (l.getD i p0).2))
/-- a slice that holds the pairs l (of no pair: whatever its address) -/
def PRow (w : World) (l : List PR) (v : Value) : Prop := ∃ p cap, v = .slice p l.length cap ∧ (l ≠ [] → ∃ g, p = some ⟨g, 0, none⟩ ∧ PCells w g l)
theorem pcells_below {w w' : World} {B g : Nat} {l : List PR} (h : PCells w g l) (hb : Below B w w') (hB : w.heap.size ≤ B) : PCells w' g l := fun i hi => by
  obtain ⟨h1, h2⟩ := h i hi
  rw [hb.cell (p := ⟨g, i * 2, none⟩) (Nat.lt_of_lt_of_le (World.block_lt_of_cell? w ⟨g, i * 2, none⟩ h1) hB), hb.cell (p := ⟨g, i * 2 + 1, none⟩) (Nat.lt_of_lt_of_le (World.block_lt_of_cell? w ⟨g, i * 2 + 1, none⟩ h2) hB)]
  exact ⟨h1, h2⟩
theorem prow_below {w w' : World} {l : List PR} {v : Value} (h : PRow w l v) (hb : Below w.heap.size w w') : PRow w' l v := by
  obtain ⟨p, cap, hv, hp⟩ := h
  refine ⟨p, cap, hv, fun hne => ?_⟩
  obtain ⟨g, hg, hc⟩ := hp hne
  exact ⟨g, hg, pcells_below hc hb (Nat.le_refl _)⟩
theorem pcells_of {w : World} {base g : Nat} {v : Value} {l : List PR} (h : w.ownsRow base 39 2 v l.length (pcells l)) (hv : v.ownBlock = some g) : PCells w g l := fun i hi => by
  obtain ⟨g1, g2⟩ := pcells_get l i hi
  have c1 := h.cells (g := g) hv _ _ g1
  have c2 := h.cells (g := g) hv _ _ g2
  have hadd : ∀ j, (⟨g, 0, none⟩ : Addr).add j = ⟨g, j, none⟩ := fun j => by unfold Addr.add; split <;> simp_all
  rw [hadd] at c1 c2
  exact ⟨c1, c2⟩
theorem prow_of {w : World} {base : Nat} {v : Value} {l : List PR} (h : w.ownsRow base 39 2 v l.length (pcells l)) : PRow w l v := by
  rcases h.2 with ⟨hv, h0⟩ | ⟨g, cap, cur, hv, rest⟩
  · exact ⟨none, 0, by rw [hv, h0], fun hne => absurd (List.eq_nil_of_length_eq_zero h0) hne⟩
  · exact ⟨_, cap, hv, fun _ => ⟨g, rfl, pcells_of h (by rw [hv]; rfl)⟩⟩
/-- two cells, loaded as one pair -/
theorem load_pair {w : World} {g o : Nat} {a b : Value} (h1 : w.cell? ⟨g, o, none⟩ = some a) (h2 : w.cell? ⟨g, o + 1, none⟩ = some b) (P : Program) : (loadCells ⟨g, o, none⟩ 2).run P w = .ok #[a, b] w := by
  have := run_loadCells_list (P := P) (w := w) ⟨g, o, none⟩ [a, b] (fun j v hj => by
    have hadd : (⟨g, o, none⟩ : Addr).add j = ⟨g, o + j, none⟩ := by unfold Addr.add; split <;> simp_all
    rw [hadd]
    match j, hj with
    | 0, hj => simp at hj; subst hj; exact h1
    | 1, hj => simp at hj; subst hj; exact h2
    | (j + 2), hj => simp at hj)
  exact this

/-! ### the page's Split -/
def Rowed (w : World) (l : List (List UInt8)) (e : Ending) (w' : World) : Prop := ∃ v, e = .returned v ∧ SRow w' l v ∧ Below w.heap.size w w'
theorem spl_head_snoc {c : UInt8} (done : List (List UInt8)) {a r : List UInt8} (h : c ∉ a) : done ++ Pf.spl c (a ++ c :: r) = (done ++ [a]) ++ Pf.spl c r := by rw [Pf.spl_at _ h]; simp
theorem drop_at {s : ByteArray} {i : Nat} (h : i < s.size) {c : UInt8} (hc : s[i] = c) : s.data.toList.drop i = c :: s.data.toList.drop (i + 1) := by
  rw [List.drop_eq_getElem_cons (by rw [ba_len]; exact h)]
  congr 1
theorem mid_snoc {l : List UInt8} {j i : Nat} (hj : j ≤ i) (h : i < l.length) : (l.take (i + 1)).drop j = (l.take i).drop j ++ [l[i]] := by
  rw [List.take_succ_eq_append_getElem h, List.drop_append_of_le_length (by rw [List.length_take]; omega)]
theorem mid_split {l : List UInt8} {j i : Nat} (hj : j ≤ i) (h : i < l.length) : l.drop j = (l.take i).drop j ++ l[i] :: l.drop (i + 1) := by
  rw [← List.drop_eq_getElem_cons h]
  conv => lhs; rw [← List.take_append_drop i l]
  rw [List.drop_append_of_le_length (by rw [List.length_take]; omega)]
set_option maxRecDepth 100000 in
set_option maxHeartbeats 1000000 in
theorem rsplit_any (s : ByteArray) (c : UInt8) (w : World) (hs : s.size ≤ 1000000) :
    Calls Tryd.prog 19 #[.string s, .int .u8 (c.toNat : Nat)] w (Rowed w (Pf.spl c s.data.toList)) := by
  obtain ⟨T, hT⟩ : ∃ T, Pf.spl c s.data.toList = T := ⟨_, rfl⟩
  have HT : Hid ([] ++ Pf.spl c (s.data.toList.drop 0) = T) := Lib.hid (by rw [List.drop_zero]; exact hT)
  have hTl : T.length ≤ s.size + 1 := by
    rw [← hT, Pf.spl_len, ← ba_len]
    exact Nat.succ_le_succ List.count_le_length
  rw [hT]
  clear hT
  obtain ⟨i0, hi, hz0, hz1, hz2⟩ := info_parts info_str
  have HI := Lib.hid hi
  have HZ0 := Lib.hid hz0
  have HZ1 := Lib.hid hz1
  have HZ2 := Lib.hid hz2
  clear hi hz0 hz1 hz2
  go_enter Tryd.func19, Tryd.ntmps19
  go_wp2
  go_loopw [5, 6, 7] (fun v j i wr => ∃ (done : List (List UInt8)) (from_ k : Nat), j = .int .i64 from_ ∧ i = .int .i64 k ∧ k ≤ s.size + 1 ∧ from_ ≤ k ∧ (k ≤ s.size → Hid (c ∉ (s.data.toList.take k).drop from_ ∧ done ++ Pf.spl c (s.data.toList.drop from_) = T)) ∧ (k = s.size + 1 → Hid (done = T)) ∧ wr.ownsRow w.heap.size 9 1 v done.length (scells done) ∧ v ≠ .slice none 0 0 ∧ Below w.heap.size w wr) (fun _ _ i _ => s.size + 1 - (intOf i).toNat)
  case atStart =>
    refine ⟨[], 0, 0, rfl, rfl, by omega, by omega, fun _ => Lib.hid ⟨by simp, HT.out⟩, fun h => by omega, ?_, by simp, ?_⟩
    · exact World.ownsRow_made w #[] 0 (Nat.le_refl _) (by decide) rfl
    · exact (Below.refl _ w).alloc (Nat.le_refl _) _
  case round =>
    obtain ⟨done, fr, k, rfl, rfl, hk, hfk, hrest, hend, hown, hne, hb⟩ := hrel
    by_cases hle : k ≤ s.size
    · have hR := hrest hle
      obtain ⟨hno, hd⟩ := hR.out
      have hdl : done.length + 1 ≤ T.length := by
        rw [← hd, List.length_append]
        have := Pf.spl_len c (s.data.toList.drop fr)
        omega
      clear hrest hend
      by_cases hks : k < s.size
      · have hkl : k < s.data.toList.length := by rw [ba_len]; exact hks
        by_cases hc : s[k] = c
        · -- a piece ends here
          have hsz2 : fr ≤ s.size := by omega
          have hcut : s.data.toList.drop fr = (s.data.toList.take k).drop fr ++ c :: s.data.toList.drop (k + 1) := by
            have := mid_split hfk hkl
            rw [this]
            congr 2
          have hd2 : Hid ((done ++ [(s.data.toList.take k).drop fr]) ++ Pf.spl c (s.data.toList.drop (k + 1)) = T) := Lib.hid (by rw [← spl_head_snoc done hno, ← hcut]; exact hd)
          have hpiece : Hid (s.extract fr k = bs ((s.data.toList.take k).drop fr)) := Lib.hid (ext_bs s fr k)
          have hb8 : ((s[k].toNat : Nat) : Int) = ((c.toNat : Nat) : Int) := by rw [hc]
          have hks2 : (((k : Nat) : Int) == ((s.size : Nat) : Int)) = false := by simp; omega
          clear hR hno hd hcut hc
          go_wp2_with (at_builtin; refine wpList_append_own _ rfl _ _ 42 rfl w.heap.size 9 i0 (.string ByteArray.empty) 1 16 Tryd.underlying42 HI.out HZ0.out HZ1.out HZ2.out rfl (by decide) _ _ _ rfl (hown.alloc _) ⟨wr.heap.size, 0, none⟩ 1 1 [.string (s.extract fr k)] rfl rfl ?c1 ?c2 ?c3 ?c4 ?c5 ?_)
          case c1 =>
            intro j u hj
            match j, hj with
            | 0, hj => simp at hj; subst hj; simp [Addr.add]
            | (j + 1), hj => simp at hj
          case c2 => intro u hu; simp at hu; subst hu; rfl
          case c3 => unfold maxLen; omega
          case c4 => omega
          case c5 => simp; have := hb.size; omega
          intro v' w3 hown3 hgrow hnil
          rw [hpiece.out, scells_snoc] at hown3
          have hl1 : (done ++ [(s.data.toList.take k).drop fr]).length = done.length + 1 := by simp
          rw [← hl1] at hown3
          have hb3 : Below w.heap.size w w3 := (hb.alloc hb.size _).grown hgrow (by simp; have := hb.size; omega) (fun k hk => (hown.lt k hk).1)
          have HN := Lib.hid hnil
          clear hl1 hgrow hnil hne hown
          go_wp2
          go_roundw
          case rel => exact ⟨_, k + 1, k + 1, rfl, rfl, by omega, by omega, fun _ => Lib.hid ⟨by simp, hd2.out⟩, fun h => by omega, hown3, HN.out, hb3⟩
          case measure => simp [intOf]; omega
        · have hno2 : Hid (c ∉ (s.data.toList.take (k + 1)).drop fr ∧ done ++ Pf.spl c (s.data.toList.drop fr) = T) := Lib.hid ⟨by
            rw [mid_snoc hfk hkl]
            intro hm
            rcases List.mem_append.1 hm with e | e
            · exact hno e
            · rw [List.mem_singleton] at e; exact hc e.symm, hd⟩
          have hks2 : (((k : Nat) : Int) == ((s.size : Nat) : Int)) = false := by simp; omega
          have hb8 : (((s[k].toNat : Nat) : Int) == ((c.toNat : Nat) : Int)) = false := by
            simp only [beq_eq_false_iff_ne, Ne]
            intro e
            exact hc (UInt8.toNat_inj.1 (by omega))
          clear hR hno hd hc
          go_wp2
          go_roundw
          case rel => exact ⟨done, fr, k + 1, rfl, by go_num, by omega, by omega, fun _ => hno2, fun h => by omega, hown, hne, hb⟩
          case measure => simp [intOf]; omega
      · -- the end of the text
        obtain rfl : k = s.size := by omega
        have hd2 : Hid (done ++ [(s.data.toList.take s.size).drop fr] = T) := Lib.hid (by
          have e : (s.data.toList.take s.size).drop fr = s.data.toList.drop fr := by rw [List.take_of_length_le (by rw [ba_len]; exact Nat.le_refl _)]
          rw [e] at hno ⊢
          rw [← hd, Pf.spl_none hno])
        have hpiece : Hid (s.extract fr s.size = bs ((s.data.toList.take s.size).drop fr)) := Lib.hid (ext_bs s fr s.size)
        have hks2 : (((s.size : Nat) : Int) == ((s.size : Nat) : Int)) = true := by simp
        have hsz2 : fr ≤ s.size := hfk
        clear hR hno hd
        go_wp2_with (at_builtin; refine wpList_append_own _ rfl _ _ 42 rfl w.heap.size 9 i0 (.string ByteArray.empty) 1 16 Tryd.underlying42 HI.out HZ0.out HZ1.out HZ2.out rfl (by decide) _ _ _ rfl (hown.alloc _) ⟨wr.heap.size, 0, none⟩ 1 1 [.string (s.extract fr s.size)] rfl rfl ?c1 ?c2 ?c3 ?c4 ?c5 ?_)
        case c1 =>
          intro j u hj
          match j, hj with
          | 0, hj => simp at hj; subst hj; simp [Addr.add]
          | (j + 1), hj => simp at hj
        case c2 => intro u hu; simp at hu; subst hu; rfl
        case c3 => unfold maxLen; omega
        case c4 => omega
        case c5 => simp; have := hb.size; omega
        intro v' w3 hown3 hgrow hnil
        rw [hpiece.out, scells_snoc] at hown3
        have hl1 : (done ++ [(s.data.toList.take s.size).drop fr]).length = done.length + 1 := by simp
        rw [← hl1] at hown3
        have hb3 : Below w.heap.size w w3 := (hb.alloc hb.size _).grown hgrow (by simp; have := hb.size; omega) (fun k hk => (hown.lt k hk).1)
        have HN := Lib.hid hnil
        clear hl1 hgrow hnil hne hown
        go_wp2
        go_roundw
        case rel => exact ⟨_, s.size + 1, s.size + 1, rfl, rfl, by omega, by omega, fun h => by omega, fun _ => hd2, hown3, HN.out, hb3⟩
        case measure => (simp [intOf]; try omega)
    · have hE := hend (by omega)
      have hR := srow_of hown hne
      rw [hE.out] at hR
      clear hrest hend hown hne
      go_wp2
      go_ret
      exact ⟨_, rfl, hR, hb⟩
end Go.Proofs.YtdfollcglldocaaDoor
