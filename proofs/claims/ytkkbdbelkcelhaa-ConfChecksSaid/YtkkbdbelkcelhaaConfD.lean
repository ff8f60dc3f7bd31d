/-
  CONTRACTS OF LAYER 7 (conf), part D: tenants, which holds names in a map.
-/
import Derived.Test.YtkkbdbelkcelhaaConfB
import Derived.Test.YtkkbdbelkcelhaaMaps
import Derived.Test.YtkkbdbelkcelhaaTextB
namespace Go.Proofs.Ytkkbdbelkcelhaa
open Go.RowKit Go.Maps
set_option linter.unusedVariables false

def tv (t : Cf.Tn) : Value := .agg #[.string t.name, .int .i64 t.weight, .int .i64 t.quota]
/-- what the map has behind these tenants -/
def tmap (l : List Cf.Tn) : ByteArray → Option Value := l.foldl (fun f t => fun s => if s = t.name then some (tv t) else f s) (fun _ => none)
theorem tmap_snoc (l : List Cf.Tn) (t : Cf.Tn) (s : ByteArray) : tmap (l ++ [t]) s = if s = t.name then some (tv t) else tmap l s := by
  unfold tmap
  rw [List.foldl_append]
  rfl
theorem tmap_some' (l : List Cf.Tn) : ∀ (f : ByteArray → Option Value) (s : ByteArray), (l.foldl (fun f t => fun s => if s = t.name then some (tv t) else f s) f s).isSome = (Cf.there l s || (f s).isSome) := by
  induction l with
  | nil => intro f s; simp [Cf.there]
  | cons t l ih =>
    intro f s
    rw [List.foldl_cons, ih]
    by_cases h : t.name = s
    · simp [Cf.there, h]
    · have h2 : ¬ s = t.name := fun e => h e.symm
      simp [Cf.there, h, h2]
theorem tmap_some (l : List Cf.Tn) (s : ByteArray) : (tmap l s).isSome = Cf.there l s := by
  unfold tmap
  rw [tmap_some']
  simp
theorem tmap_none {l : List Cf.Tn} {s : ByteArray} (h : Cf.there l s = false) : tmap l s = none := by
  have := tmap_some l s
  rw [h] at this
  simpa using this
theorem tmap_form' (l : List Cf.Tn) : ∀ (f : ByteArray → Option Value), (∀ s v, f s = some v → ∃ t, v = tv t) → ∀ s v, l.foldl (fun f t => fun s => if s = t.name then some (tv t) else f s) f s = some v → ∃ t, v = tv t := by
  induction l with
  | nil => intro f hf s v h; exact hf s v h
  | cons t l ih =>
    intro f hf s v h
    rw [List.foldl_cons] at h
    refine ih _ (fun s v h => ?_) s v h
    split at h
    · injection h with h
      exact ⟨t, h.symm⟩
    · exact hf s v h
theorem tmap_form {l : List Cf.Tn} {s : ByteArray} (h : Cf.there l s = true) : ∃ n a b, tmap l s = some (.agg #[.string n, .int .i64 a, .int .i64 b]) := by
  obtain ⟨v, hv⟩ := Option.isSome_iff_exists.1 ((tmap_some l s).trans h)
  obtain ⟨t, rfl⟩ := tmap_form' l _ (fun _ _ h => by cases h) s v hv
  exact ⟨_, _, _, hv⟩
def TBlk (w : World) (g : Nat) (nm : ByteArray) (wt qt : Int) : Prop := w.heap[g]? = some (.cells #[.string nm, .int .i64 wt, .int .i64 qt] 46)
theorem TBlk.cells {w : World} {g : Nat} {nm : ByteArray} {wt qt : Int} (h : TBlk w g nm wt qt) : w.cell? ⟨g, 0, none⟩ = some (.string nm) ∧ w.cell? ⟨g, 1, none⟩ = some (.int .i64 wt) ∧ w.cell? ⟨g, 2, none⟩ = some (.int .i64 qt) := by
  unfold TBlk at h
  refine ⟨?_, ?_, ?_⟩ <;> simp [World.cell?, h]
theorem TBlk.lt {w : World} {g : Nat} {nm : ByteArray} {wt qt : Int} (h : TBlk w g nm wt qt) : g < w.heap.size := (Array.getElem?_eq_some_iff.1 h).1
theorem TBlk.below {w w' : World} {g B : Nat} {nm : ByteArray} {wt qt : Int} (h : TBlk w g nm wt qt) (hb : Below B w w') (hB : w.heap.size ≤ B) : TBlk w' g nm wt qt := by
  unfold TBlk
  rw [hb.block g (Nat.lt_of_lt_of_le h.lt hB)]
  exact h
theorem TBlk.alloc {w : World} {g : Nat} {nm : ByteArray} {wt qt : Int} (h : TBlk w g nm wt qt) (o : Obj) : TBlk (w.alloc o) g nm wt qt := h.below ((Below.refl _ w).alloc (Nat.le_refl _) o) (Nat.le_refl _)
set_option maxHeartbeats 2000000 in
set_option maxRecDepth 100000 in
theorem tenants_any (l : List Cf.Tn) (n : Nat) (p : Option Addr) (cap : Nat) (w : World) (hn : l.length = n) (hnm : ∀ t ∈ l, t.name.size ≤ maxLen) (h : TIn w p l) (hl : n ≤ 100) :
    Calls Try.prog 18 #[.slice p n cap] w fun e w' => e = .returned (.int .i64 (Cf.tn [] l)) ∧ Below w.heap.size w w' := by
  obtain ⟨R, hR⟩ : ∃ R, Cf.tn [] l = R := ⟨_, rfl⟩
  have HR : Hid (Cf.tn (l.take 0) (l.drop 0) = R) := Lib.hid (by rw [List.drop_zero, List.take_zero]; exact hR)
  have HN := Lib.hid hn
  have HB := Lib.hid h
  have HNM := Lib.hid hnm
  rw [hR]
  clear hR hn h hnm
  have hmm := @run_makeMap Try.prog
  have HK := Lib.hid (Try.underlying9)
  have HTT := Lib.hid (Try.underlying47)
  go_enter Try.func18, Try.ntmps18
  go_wp2
  have hm0 : Mp.Is Try.prog 9 (w.alloc (.map #[] 0)) w.heap.size 0 (tmap []) := Mp.Is.made w
  have HM0 := Lib.hid hm0
  clear hm0 hmm
  go_loopw [11] (fun i wr => ∃ k : Nat, i = .int .i64 k ∧ k ≤ n ∧ Hid (Cf.tn (l.take k) (l.drop k) = R) ∧ Hid (Mp.Is Try.prog 9 wr w.heap.size k (tmap (l.take k))) ∧ Below w.heap.size w wr) (fun i _ => n - (intOf i).toNat)
  case atStart => exact ⟨0, rfl, Nat.zero_le _, HR, Lib.hid (by rw [List.take_zero]; exact HM0.out), (Below.refl _ w).alloc (Nat.le_refl _) _⟩
  case round =>
    clear HM0
    obtain ⟨k, rfl, hk, hr, hmp, hb⟩ := hrel
    by_cases hlt : k < n
    · obtain ⟨b, off, rfl, hbl0, hd0, hd1, hd2⟩ := HB.out k (by rw [HN.out]; exact hlt)
      have hc0 := (hb.cell (p := ⟨b, off + k * 3, none⟩) hbl0).trans hd0
      have hc1 := (hb.cell (p := ⟨b, off + k * 3 + 1, none⟩) hbl0).trans hd1
      have hc2 := (hb.cell (p := ⟨b, off + k * 3 + 2, none⟩) hbl0).trans hd2
      clear hd0 hd1 hd2
      have hd := Cf.drop_tn (l := l) (i := k) (by rw [HN.out]; exact hlt)
      have ht := Cf.take_tn (l := l) (i := k) (by rw [HN.out]; exact hlt)
      have hmem : l.getD k Cf.t0 ∈ l := by
        rw [List.getD_eq_getElem?_getD, List.getElem?_eq_getElem (by rw [HN.out]; exact hlt)]
        exact List.getElem_mem _
      have hsz := HNM.out _ hmem
      obtain ⟨⟨nm, wt, qt⟩, hq⟩ : ∃ t, l.getD k Cf.t0 = t := ⟨_, rfl⟩
      rw [hq] at hc0 hc1 hc2 hd ht hsz
      simp only at hc0 hc1 hc2 hsz
      obtain ⟨A, hA⟩ : ∃ A, l.take k = A := ⟨_, rfl⟩
      rw [hA] at ht hmp
      have hr2 := hr.out
      rw [hd, hA, Cf.tn] at hr2
      have HD := Lib.hid hd
      have HT := Lib.hid ht
      have HS := Lib.hid hsz
      have HR2 := Lib.hid hr2
      have hbl : w.heap.size < wr.heap.size := hmp.out.lt
      have hnc := fun w => name_any nm w (by unfold maxLen at hsz; omega)
      obtain ⟨isn, hisn⟩ : ∃ x, Tx.isName nm.data.toList = x := ⟨_, rfl⟩
      rw [hisn] at hnc
      have HNC := Lib.hid hnc
      have HISN := Lib.hid hisn
      clear hr hd ht hq hr2 hA hsz hmem hnc hisn
      cases isn
      · have HE : Hid (R = 5) := Lib.hid (by
          have := HR2.out
          rw [show Cf.t1 ⟨nm, wt, qt⟩ = 5 by unfold Cf.t1; rw [if_neg (by rw [HISN.out]; decide)], if_neg (by decide)] at this
          exact this.symm)
        go_wp2_with fail
        refine (HNC.out _).mono ?_
        rintro e w2 ⟨rfl, hb2⟩
        go_wp2
        go_ret
        exact ⟨ret_i64 HE.out.symm, below_next (hb.alloc hb.size _) hb2⟩
      · go_wp2_with fail
        refine (HNC.out _).mono ?_
        rintro e w2 ⟨rfl, hb2⟩
        have hb02 := below_next (hb.alloc hb.size (.cells #[.string nm, .int .i64 wt, .int .i64 qt] 46)) hb2
        have htb : TBlk w2 wr.heap.size nm wt qt := TBlk.below (heap_alloc_new wr _) hb2 (Nat.le_refl _)
        obtain ⟨hk0, hk1, hk2⟩ := htb.cells
        have hkb := htb.lt
        have HTB := Lib.hid htb
        have hmp2 := Lib.hid ((hmp.out.alloc (.cells #[.string nm, .int .i64 wt, .int .i64 qt] 46)).below hb2 (by simp; omega))
        clear hmp hb2 hb hc0 hc1 hc2 htb
        have hblk : RBlk (w2.alloc (.cells #[.int .i64 wt, .int .i64 1, .int .i64 16, .int .i64 qt, .int .i64 1, .int .i64 256] 50)) w2.heap.size [(wt, 1, 16), (qt, 1, 256)] := heap_alloc_new w2 _
        have hwn := within_any [(wt, 1, 16), (qt, 1, 256)] 2 w2.heap.size _ rfl hblk (by decide)
        rw [show Cf.wi [(wt, 1, 16), (qt, 1, 256)] = (Cf.inn wt 1 16 && Cf.inn qt 1 256) by simp [Cf.wi]] at hwn
        obtain ⟨ok, hok⟩ : ∃ x, (Cf.inn wt 1 16 && Cf.inn qt 1 256) = x := ⟨_, rfl⟩
        rw [hok] at hwn
        have HOK := Lib.hid hok
        have HW := Lib.hid hwn
        have hb3 := hb02.alloc hb02.size (.cells #[.int .i64 wt, .int .i64 1, .int .i64 16, .int .i64 qt, .int .i64 1, .int .i64 256] 50)
        clear hblk hwn hok
        cases ok
        · have HE : Hid (R = 1) := Lib.hid (by
            have := HR2.out
            rw [show Cf.t1 ⟨nm, wt, qt⟩ = 1 by unfold Cf.t1; rw [if_pos HISN.out, if_neg (by rw [HOK.out]; decide)], if_neg (by decide)] at this
            exact this.symm)
          go_wp2_with fail
          refine HW.out.mono ?_
          rintro e w4 ⟨rfl, hb4⟩
          go_wp2
          go_ret
          exact ⟨ret_i64 HE.out.symm, below_next hb3 hb4⟩
        · have HE0 : Hid ((if Cf.there A nm = true then 8 else Cf.tn (A ++ [⟨nm, wt, qt⟩]) (l.drop (k + 1))) = R) := Lib.hid (by
            have := HR2.out
            rw [show Cf.t1 ⟨nm, wt, qt⟩ = 0 by unfold Cf.t1; rw [if_pos HISN.out, if_pos HOK.out], if_pos rfl] at this
            exact this)
          clear HR2 HISN HOK
          go_wp2_with fail
          refine HW.out.mono ?_
          rintro e w4 ⟨rfl, hb4⟩
          have hb04 := below_next hb3 hb4
          have hs4 := hb4.size
          have hm4 := (hmp2.out.alloc (.cells #[.int .i64 wt, .int .i64 1, .int .i64 16, .int .i64 qt, .int .i64 1, .int .i64 256] 50)).below hb4 (by simp; omega)
          have htb4 : TBlk w4 wr.heap.size nm wt qt := TBlk.below (HTB.out.alloc (.cells #[.int .i64 wt, .int .i64 1, .int .i64 16, .int .i64 qt, .int .i64 1, .int .i64 256] 50)) hb4 (Nat.le_refl _)
          obtain ⟨hq0, hq1, hq2⟩ := htb4.cells
          have hqb := htb4.lt
          have HTB4 := Lib.hid htb4
          have HM4 := Lib.hid hm4
          clear hk0 hk1 hk2 hkb HTB hb3 hb02 hb4 hs4 hm4 htb4 hmp2 HW HNC
          cases hth : Cf.there A nm with
          | true =>
            have HE : Hid (R = 8) := Lib.hid (by
              have := HE0.out
              rw [if_pos hth] at this
              exact this.symm)
            obtain ⟨n1, n2, n3, hv⟩ := tmap_form hth
            have HF := Lib.hid hv
            clear hv hth
            go_wp2_with (at_lookup; refine Mp.wp_look_ok _ rfl _ _ 47 9 46 rfl HTT.out HK.out _ (Try.zeroValue46 _) w.heap.size k (tmap A) rfl HM4.out nm HS.out rfl ?_; rw [HF.out]; simp only [Option.getD_some, Option.isSome_some])
            go_ret
            exact ⟨ret_i64 HE.out.symm, hb04.alloc hb04.size _⟩
          | false =>
            have HE : Hid (Cf.tn (A ++ [⟨nm, wt, qt⟩]) (l.drop (k + 1)) = R) := Lib.hid (by
              have := HE0.out
              rw [if_neg (by rw [hth]; decide)] at this
              exact this)
            have hf := tmap_none hth
            have HF := Lib.hid hf
            clear hf hth
            go_wp2_with (first
              | (at_lookup; refine Mp.wp_look_ok _ rfl _ _ 47 9 46 rfl HTT.out HK.out _ (Try.zeroValue46 _) w.heap.size k (tmap A) rfl HM4.out nm HS.out rfl ?_; rw [HF.out]; simp only [Option.getD_none, Option.isSome_none])
              | (at_mapUpdate; refine Mp.wp_put _ rfl _ _ _ 47 9 46 rfl HTT.out HK.out w.heap.size k (tmap A) rfl (HM4.out.alloc _) (by unfold maxLen; omega) nm HS.out rfl (tv ⟨nm, wt, qt⟩) rfl ?_))
            intro w5 hm5 hg5
            have hm6 := hm5.ext (fun s => (tmap_snoc A ⟨nm, wt, qt⟩ s).symm)
            rw [← HT.out] at hm6
            have HM6 := Lib.hid hm6
            have hs4 : (w4.alloc (.cells #[.string ⟨#[]⟩, .int .i64 0, .int .i64 0] 46)).heap.size = w4.heap.size + 1 := by simp
            have hb5 : Below w.heap.size w w5 := (hb04.alloc hb04.size _).grown hg5 (by rw [hs4]; have := hb04.size; omega) (fun j hj => by injection hj with hj; omega)
            have HE2 : Hid (Cf.tn (l.take (k + 1)) (l.drop (k + 1)) = R) := Lib.hid (by rw [HT.out]; exact HE.out)
            clear hm5 hm6 hg5 hs4 hb04 HM4 hq0 hq1 hq2 HTB4
            go_wp2
            go_roundw
            case rel => exact ⟨k + 1, by go_num, hlt, HE2, HM6, hb5⟩
            case measure => simp [intOf]; omega
    · have HE : Hid (R = 0) := Lib.hid (by
        have := hr.out
        rw [List.drop_eq_nil_of_le (by rw [HN.out]; omega)] at this
        exact this.symm)
      clear hr hmp
      go_wp2
      go_ret
      exact ⟨ret_i64 HE.out.symm, hb⟩
end Go.Proofs.Ytkkbdbelkcelhaa
