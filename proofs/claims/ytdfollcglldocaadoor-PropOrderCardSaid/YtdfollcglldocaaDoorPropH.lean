/-
  CONTRACTS OF LAYER 4 (prop), part H: the program's Canon (with the library's sort).
-/
import Derived.Test.YtdfollcglldocaaDoorPropG
import Derived.Test.YtdfollcglldocaaDoorSort
namespace Go.Proofs.YtdfollcglldocaaDoor
open Go.RowKit Go.Sort
set_option linter.unusedVariables false

def kcmp (x y : PR) : Int := Lib.compareBytes x.1 y.1
def enc2 (q : PR) : List Value := [.string (bs q.1), .string (bs q.2)]
theorem cmp_lt : ∀ (a b : List UInt8), Lib.compareBytes a b < 0 ↔ a < b
  | [], [] => by simp [Lib.compareBytes]
  | [], _ :: _ => by simp [Lib.compareBytes]
  | _ :: _, [] => by simp [Lib.compareBytes]
  | a :: x, b :: y => by
    have ih := cmp_lt x y
    rw [Lib.compareBytes, List.cons_lt_cons_iff]
    by_cases h : a < b
    · simp [h]
    · rw [if_neg h]
      by_cases h2 : b < a
      · rw [if_pos h2]
        have hne : a ≠ b := fun e => by rw [e] at h2; exact absurd h2 (UInt8.lt_irrefl _)
        simp [h, hne]
      · rw [if_neg h2]
        have he : a = b := UInt8.le_antisymm (UInt8.not_lt.1 h2) (UInt8.not_lt.1 h)
        simp [he, ih]
theorem kcmp_lt (x y : PR) : ltOf kcmp x y = decide (x.1 < y.1) := by
  unfold ltOf kcmp
  rw [decide_eq_decide]
  exact cmp_lt _ _
theorem kcmp_order : SWO (ltOf kcmp) where
  irrefl x := by rw [kcmp_lt]; exact decide_eq_false (List.lt_irrefl _)
  trans x y z h1 h2 := by
    rw [kcmp_lt, decide_eq_true_iff] at *
    exact List.lt_trans h1 h2
  ntrans x y z h1 h2 := by
    rw [kcmp_lt, decide_eq_false_iff_not] at *
    rw [List.not_lt] at *
    exact List.le_trans h2 h1
theorem cmp_any (x y : PR) (W : World) : Calls Tryd.prog 23 #[.agg #[.string (bs x.1), .string (bs x.2)], .agg #[.string (bs y.1), .string (bs y.2)]] W fun e w' =>
    e = .returned (.int .i64 (kcmp x y)) ∧ w' = (W.alloc (.cells #[.string (bs x.1), .string (bs x.2)] 39)).alloc (.cells #[.string (bs y.1), .string (bs y.2)] 39) := by
  have hc := fun V => sl_strings_Compare (bs x.1) (bs y.1) V
  have HC := Lib.hid hc
  clear hc
  go_enter Tryd.func23, Tryd.ntmps23
  go_wp2_with (go_at_call 24; refine (HC.out _).mono ?_; rintro e w' ⟨rfl, hw⟩; rw [hw]; clear hw)
  go_ret
  exact ⟨rfl, rfl⟩
theorem two_grow (W : World) (a b : Obj) : (W.alloc a).alloc b = grow (W.drewN 0) #[a, b] := by
  rw [alloc_eq_grow, alloc_eq_grow, grow_grow]
  rfl
theorem grown_sorted (enc : PR → List Value) (k : Nat) (w : World) (g n : Nat) (d : Array PR) (os : Array Obj) : w.grownBy (sortWorldK enc k w g 0 n d os) (some g) := by
  unfold sortWorldK putRowK
  refine ⟨rfl, rfl, rfl, by simp, fun j hj hne => ?_⟩
  rw [heap_grow_old _ _ (by simpa using hj)]
  have : g ≠ j := fun e => hne (by rw [e])
  simp [putRow, mapBlock, Sort.ahead, Array.getElem?_modify, this]
theorem flat_get (l : List PR) (j : Nat) (hj : j < l.length * 2) : (flatK enc2 2 l.toArray)[j]! = ((pcells l)[j]?).getD default := by
  rw [get_flatK enc2 2 l.toArray j (by simpa using hj)]
  have hi : j / 2 < l.length := by omega
  obtain ⟨h1, h2⟩ := pcells_get l (j / 2) hi
  have hg : l.toArray[j / 2]! = l.getD (j / 2) p0 := by
    rw [getD_mem hi]
    simp [hi]
  rw [hg]
  rcases Nat.mod_two_eq_zero_or_one j with h | h
  · have e : j / 2 * 2 = j := by omega
    rw [e] at h1
    rw [h1, h]
    rfl
  · have e : j / 2 * 2 + 1 = j := by omega
    rw [e] at h2
    rw [h2, h]
    rfl
theorem holds_of_owns {w : World} {base g cap : Nat} {l : List PR} (h : w.ownsRow base 39 2 (.slice (some ⟨g, 0, none⟩) l.length cap) l.length (pcells l)) : HoldsK enc2 2 w g 0 l.toArray := by
  intro j hj
  have hj2 : j < l.length * 2 := by simpa using hj
  rcases h.2 with ⟨hv, _⟩ | ⟨g', cap', cur, hv, hbg, hgg, hle, hmx, hcs, htk⟩
  · cases hv
  · have hg : g' = g := by
      have := congrArg Value.ownBlock hv
      simp [Value.ownBlock] at this
      exact this.symm
    subst hg
    have hc : cur[j]? = (pcells l)[j]? := by
      rw [← htk, List.getElem?_take, if_pos hj2, Array.getElem?_toList]
    have hlt : j < (pcells l).length := by rw [pcells_len]; exact hj2
    rw [List.getElem?_eq_getElem hlt] at hc
    refine ⟨?_, by simp [World.frozen?, hgg]⟩
    show w.cell? ⟨g', 0 + j, none⟩ = some (id (flatK enc2 2 l.toArray)[j]!)
    rw [flat_get l j hj2, List.getElem?_eq_getElem hlt, Nat.zero_add]
    simp only [World.cell?, hgg]
    simpa using hc
theorem pcells_of_holds {w : World} {g : Nat} {l : List PR} (h : HoldsK enc2 2 w g 0 l.toArray) : PCells w g l := by
  intro i hi
  have h1 := (h (i * 2) (by simp; omega)).1
  have h2 := (h (i * 2 + 1) (by simp; omega)).1
  obtain ⟨g1, g2⟩ := pcells_get l i hi
  have e1 := flat_get l (i * 2) (by omega)
  have e2 := flat_get l (i * 2 + 1) (by omega)
  rw [g1] at e1
  rw [g2] at e2
  rw [e1, Nat.zero_add] at h1
  rw [e2, Nat.zero_add] at h2
  exact ⟨h1, h2⟩
theorem srt_of {L : List PR} {d' : Array PR} (hk : L.Pairwise (fun a b => a.1 ≠ b.1)) (hp : PermIn 0 L.toArray.size L.toArray d') (hs : SortedIn (ltOf kcmp) 0 L.toArray.size d') : Pf.Srt L d'.toList := by
  obtain ⟨hsz, _, hperm⟩ := hp
  have e1 : d'.extract 0 L.toArray.size = d' := by rw [← hsz]; exact Array.extract_size
  rw [e1, Array.extract_size] at hperm
  have hperm2 : L.Perm d'.toList := hperm.symm
  refine ⟨hperm2, ?_⟩
  have hk2 := Pf.keys_perm hperm2 hk
  rw [List.pairwise_iff_getElem] at hk2 ⊢
  intro i j hi hj hij
  have h1 := hk2 i j hi hj hij
  have h2 := hs i j (Nat.zero_le _) hij (by rw [← hsz]; simpa using hj)
  rw [kcmp_lt, decide_eq_false_iff_not] at h2
  have hi' : i < d'.size := by simpa using hi
  have hj' : j < d'.size := by simpa using hj
  rw [getElem!_pos d' j hj', getElem!_pos d' i hi'] at h2
  exact Pf.lt_total h2 (fun e => h1 (by simpa using e.symm))
def SortedTo (w : World) (g : Nat) (L : List PR) (e : Ending) (w' : World) : Prop := e = .returned (.tuple #[]) ∧ ∃ d : List PR, Pf.Srt L d ∧ PCells w' g d ∧ w.grownBy w' (some g)
theorem sort_pairs {w : World} {base g cap : Nat} {L : List PR} (hG : Pf.Good L) (h : w.ownsRow base 39 2 (.slice (some ⟨g, 0, none⟩) L.length cap) L.length (pcells L)) (hg : g < w.heap.size) :
    Calls Tryd.prog 22 #[.slice (some ⟨g, 0, none⟩) L.length cap, .func (.func 23) #[] #[]] w (SortedTo w g L) := by
  have hH := holds_of_owns h
  have hsort := sort_any enc2 (fun _ => rfl) (fun x => two_one _ _) kcmp kcmp_order 23 #[] g 0 cap L.toArray w (enters_of Tryd.func23 (by kernel_rfl) rfl)
    (fun m os dk _ x y => (cmp_any x y _).mono fun e w' ⟨he, hw⟩ => ⟨he, 0, #[_, _], hw.trans (two_grow _ _ _)⟩)
    hH hg (by have := hG.len; simp; omega)
  rw [List.size_toArray] at hsort
  refine hsort.mono ?_
  rintro e w' ⟨he, d', n, os, hp, hs, hw⟩
  have hp2 : PermIn 0 L.toArray.size L.toArray d' := by rw [List.size_toArray]; exact hp
  refine ⟨he, d'.toList, srt_of hG.keys hp2 (by rw [List.size_toArray]; exact hs), ?_, by rw [hw]; exact grown_sorted _ _ _ _ _ _ _⟩
  refine pcells_of_holds ?_
  rw [Array.toArray_toList, hw]
  exact holdsK_sortWorldK_c enc2 2 w g 0 L.toArray d' n os hH hg hp2.1
set_option maxRecDepth 100000 in
set_option maxHeartbeats 2000000 in
theorem canon_any (s : ByteArray) (w : World) (hs : s.size ≤ 140737488355328) :
    Calls Tryd.prog 9 #[.string s] w (RCanoned w (Pf.cn s.data.toList)) := by
  have hparse := parse_any s w hs
  obtain ⟨C, hC⟩ : ∃ C, Pf.cn s.data.toList = C := ⟨_, rfl⟩
  obtain ⟨L, c, hL⟩ : ∃ L c, Pf.par s.data.toList = (L, c) := ⟨_, _, rfl⟩
  rw [hL] at hparse
  rw [hC]
  have HP := Lib.hid hparse
  clear hparse
  by_cases hc : c = 0
  · subst hc
    have hgood := (Pf.par_good hL).1
    have hfin : Hid (∀ r, Pf.Srt L r → C = (Pf.sh r, 0)) := Lib.hid (fun r hr => by
      rw [← hC]
      exact Pf.cn_of (by rw [hL]) (by rw [hL]; exact hr))
    have HG := Lib.hid hgood
    clear hC hL hgood
    go_enter Tryd.func9, Tryd.ntmps9
    go_wp2_with (go_at_call 7; refine HP.out.mono ?_)
    rintro e w1 ⟨v1, rfl, hown, hb1⟩
    have HB1 := Lib.hid hb1
    have HOWN := Lib.hid hown
    clear hb1 HP
    rcases hown.2 with ⟨rfl, h0⟩ | ⟨g, cap, cur, rfl, hbg, hgg, hrest⟩
    · have hL0 : L = [] := List.eq_nil_of_length_eq_zero h0
      subst hL0
      have hsort := fun fv => sort_none none 0 fv w1
      have HS := Lib.hid hsort
      have hsh := show_any [] _ w1 (prow_of HOWN.out) (by simp) (by simp)
      have HSH := Lib.hid hsh
      have HE := Lib.hid (hfin.out [] ⟨List.Perm.refl _, by simp⟩)
      clear hsort hsh hown h0 hfin
      go_wp2_with (first
        | (go_at_call 22; refine (HS.out _).mono ?_; rintro e w' ⟨rfl, hw⟩; rw [hw]; clear hw)
        | (go_at_call 13; refine HSH.out.mono ?_))
      rintro e w3 ⟨rfl, hb3⟩
      go_wp2
      go_ret2
      exact ⟨by rw [HE.out]; rfl, below_next HB1.out hb3⟩
    · have hlt := (Array.getElem?_eq_some_iff.1 hgg).1
      have hsort := sort_pairs HG.out HOWN.out hlt
      have HS := Lib.hid hsort
      have HBG := Lib.hid hbg
      obtain ⟨n, hn⟩ : ∃ n, L.length = n := ⟨_, rfl⟩
      have HN := Lib.hid hn
      rw [show (L, 0).fst.length = L.length from rfl] at *
      rw [hn] at HS ⊢
      clear hsort hown hgg hrest hlt hbg hn HOWN
      go_wp2_with (go_at_call 22; refine HS.out.mono ?_)
      rintro e w2 ⟨rfl, d, hsrt, hcells, hgrow⟩
      have hdl : n = d.length := by rw [← HN.out]; exact hsrt.1.length_eq
      have hgd := Pf.good_perm hsrt.1 HG.out
      have hsh := show_any d (.slice (some ⟨g, 0, none⟩) n cap) w2 ⟨_, cap, by rw [hdl], fun _ => ⟨g, rfl, hcells⟩⟩ (by have := hgd.len; omega) (name_len hgd)
      have HSH := Lib.hid hsh
      have HE := Lib.hid (hfin.out d hsrt)
      have hb2 : RowKit.Below w.heap.size w w2 := HB1.out.grown hgrow HB1.out.size (fun k hk => by injection hk with hk; have := HBG.out; omega)
      clear hfin hsrt hcells hgrow hdl hgd hsh HS
      go_wp2_with (go_at_call 13; refine HSH.out.mono ?_)
      rintro e w3 ⟨rfl, hb3⟩
      go_wp2
      go_ret2
      exact ⟨by rw [HE.out]; rfl, below_next hb2 hb3⟩
  · have hce := Pf.cn_err (s := s.data.toList) (by rw [hL]; exact hc)
    rw [hC, hL] at hce
    have HE := Lib.hid hce
    have hc2 : (((c : Nat) : Int) == 0) = false := by
      simp only [beq_eq_false_iff_ne, Ne]
      omega
    clear hce hC hL
    go_enter Tryd.func9, Tryd.ntmps9
    go_wp2_with (go_at_call 7; refine HP.out.mono ?_)
    rintro e w1 ⟨v1, rfl, hown, hb1⟩
    go_wp2
    go_ret2
    exact ⟨by rw [HE.out]; rfl, hb1⟩
end Go.Proofs.YtdfollcglldocaaDoor
