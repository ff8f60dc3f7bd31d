/-
  CONTRACTS OF LAYER 13 (history), part H: Load.
-/
import Derived.Test.YtbkbopaoeehfkaaHyG
import Derived.Deep.RegionWith
namespace Go.Proofs.Ytbkbopaoeehfkaa
open Go.RowKit Lr Ft Hy Bt
set_option linter.unusedVariables false
namespace Hy
/-- block g is a row -/
def EB (w : World) (g : Nat) (k : ByteArray) (f : El) : Prop := w.heap[g]? = some (.cells (ec k f) 58)
theorem EB.below {w w' : World} {g B : Nat} {k : ByteArray} {f : El} (h : EB w g k f) (hb : Below B w w') (hB : w.heap.size ≤ B) : EB w' g k f := by
  unfold EB
  rw [hb.block g (Nat.lt_of_lt_of_le (Array.getElem?_eq_some_iff.1 h).1 hB)]
  exact h
theorem EB.key {w : World} {g : Nat} {k : ByteArray} {f : El} (h : EB w g k f) : w.cell? ⟨g, 0, none⟩ = some (.string k) := by
  unfold EB at h
  simp only [World.cell?, h]
  rfl
theorem EB.hist {w : World} {g : Nat} {k : ByteArray} {f : El} (h : EB w g k f) : w.rangeAt g 1 (hc f).toList := fun j v hv => by
  unfold EB at h
  simp only [World.cell?, h]
  rw [Array.getElem?_toList] at hv
  rw [Nat.add_comm 1 j]
  show (ec k f)[j + 1]? = some v
  have hj : j < 16 := by
    have := (Array.getElem?_eq_some_iff.1 hv).1
    rw [hc_size] at this
    exact this
  rw [hc_get f hj] at hv
  rw [← hv]
  match j, hj with
  | 0, _ => rfl
  | 1, _ => rfl
  | 2, _ => rfl
  | 3, _ => rfl
  | 4, _ => rfl
  | 5, _ => rfl
  | 6, _ => rfl
  | 7, _ => rfl
  | 8, _ => rfl
  | 9, _ => rfl
  | 10, _ => rfl
  | 11, _ => rfl
  | 12, _ => rfl
  | 13, _ => rfl
  | 14, _ => rfl
  | 15, _ => rfl
  | j + 16, h => omega
/-- the table, and the row under way -/
def OHR (w0 : World) (H : Nat) (D : Td) (room : Nat) (g : Nat) (k : ByteArray) (f : El) (L : List KV) (w : World) : Prop := OHD w0 H D room L w ∧ EB w g k f
section
variable {w0 w w' : World} {H room g : Nat} {D : Td} {L : List KV} {k : ByteArray} {f : El}
theorem OHR.below (h : OHR w0 H D room g k f L w) (hb : Below w.heap.size w w') : OHR w0 H D room g k f L w' := ⟨h.1.below hb, h.2.below hb (Nat.le_refl _)⟩
theorem OHR.put (h : OHR w0 H D room g k f L w) (hk : Ms.Wf k) (hfit : L.length ≤ room) (hlen : L.length < 1000) {s : ByteArray} {t : Bool} (e2 : gk room L k = s) (e3 : gb room L k = t) :
    Calls Try.prog 16 #[.pointer (some ⟨D.b, 0, none⟩), .string k, .agg (hc f)] w fun e w' => e = .returned (.tuple #[.string s, .bool t]) ∧ OHR w0 H D room g k f (pt room L k f) w' := by
  obtain ⟨⟨ns, h1, h2, h3, h4, h5⟩, hg⟩ := h
  have h0 := Hg.start h1
  rw [h2] at h0
  refine (h0.put hk f hfit hlen e2 e3).mono ?_
  rintro e w' ⟨he, hgg⟩
  refine ⟨he, OHD.turn h1 h3 h4 h5 hgg, ?_⟩
  obtain ⟨ns', q1, q2, q3⟩ := hgg
  unfold EB
  rw [q3.mv.block g (Array.getElem?_eq_some_iff.1 hg).1 (Hy.not_fp h1.tb ⟨_, hg⟩ (by decide) (by decide))]
  exact hg
theorem OHR.eh {L' : List KV} {m : Array Bool} {A : Nat} (h : Bz.by1 A (fun b1 w1 => OHR w0 H D room g k f (cond b1 L' L) w1) m w) : w.rangeAt g 1 (hc f).toList := by
  unfold Bz.by1 at h
  exact h.2.hist
theorem OHR.cells {L' : List KV} {m : Array Bool} {A : Nat} (h : Bz.by1 A (fun b1 w1 => OHR w0 H D room g k f (cond b1 L' L) w1) m w) : w.cell? ⟨H, 0, none⟩ = some (.pointer (some ⟨D.b, 0, none⟩)) ∧ w.cell? ⟨g, 0, none⟩ = some (.string k) := by
  unfold Bz.by1 at h
  exact ⟨h.1.c0, h.2.key⟩
def HLoads (w : World) (room : Int) (L : List KV) (e : Ending) (w' : World) : Prop :=
  (rgt room L = true ∧ ∃ H D, e = .returned (.tuple #[.pointer (some ⟨H, 0, none⟩), .bool true]) ∧ OHD w H D room.toNat L.reverse w') ∨ (rgt room L = false ∧ e = .returned (.tuple #[.pointer none, .bool false]) ∧ Below w.heap.size w w')
end
theorem ec_z : ec ByteArray.empty Hs.z = #[.string ByteArray.empty, .int .i64 0, .int .i64 0, .int .i64 0, .int .i64 0, .int .i64 0, .int .i64 0, .int .i64 0, .int .i64 0, .int .i64 0, .int .i64 0, .int .i64 0, .int .i64 0, .int .i64 0, .int .i64 0, .int .i64 0, .int .i64 0] := rfl
end Hy
theorem store_cells {w : World} {g : Nat} {e f : Nat → Int} (h : HB w g e) : (storeCells ⟨g, 0, none⟩ (hc f).toList).run Try.prog w = .ok () (w.setRow g (hc f)) := by
  have h1 := run_storeCells_at Try.prog g 0 49 (hc f).toList 0 (hc e) w h (by simp [hc_size]) (fun v hv => (Array.all_eq_true_iff_forall_mem.1 (hc_one f)) v (by simpa using hv))
  have h2 : ((hc e).toList.take (0 + 0) ++ (hc f).toList ++ (hc e).toList.drop (0 + 0 + (hc f).toList.length)).toArray = hc f := by
    rw [List.drop_of_length_le (by simp [hc_size])]
    simp
  rw [h2] at h1
  exact h1
set_option maxHeartbeats 1000000 in
set_option maxRecDepth 100000 in
theorem hy_load (room : Int) (p : Option Addr) (n cap : Nat) (L : List KV) (w : World) (hn : L.length = n) (hn2 : n ≤ 900) (h : RC w p L) (hwf : ∀ x ∈ L, Ms.Wf x.1) :
    Calls Try.prog 11 #[.int .i64 room, .slice p n cap] w (HLoads w room L) := by
  have HN := Lib.hid hn
  have HC := Lib.hid h
  have HWF := Lib.hid hwf
  have HBAD : Hid (∀ w', ¬ (1 ≤ room ∧ (L.length : Int) ≤ room ∧ Roks L) → Below w.heap.size w w' → HLoads w room L (.returned (.tuple #[.pointer none, .bool false])) w') := Lib.hid (fun w' h hb => Or.inr ⟨rgt_false h, rfl, hb⟩)
  clear hn h hwf
  by_cases hr1 : room < 1
  · have HS := Lib.hid (fun w => hy_small hr1 w)
    have HF := Lib.hid (HBAD.out w (fun h => by omega) (Below.refl _ _))
    clear HBAD
    go_enter Try.func11, Try.ntmps11
    go_wp2_with (go_at_call 6; refine (HS.out _).mono ?_; rintro e w' ⟨rfl, hw⟩; rw [hw]; clear hw)
    go_ret2
    exact HF.out
  · obtain ⟨r, hr⟩ : ∃ r : Nat, room = r := ⟨room.toNat, by omega⟩
    have hr0 : 0 < r := by omega
    have HNW := Lib.hid (hy_new r w hr0)
    have HR := Lib.hid hr
    rw [← hr] at HNW
    clear hr
    by_cases hr2 : room < (n : Int)
    · go_enter Try.func11, Try.ntmps11
      go_wp2_with (go_at_call 6; refine HNW.out.mono ?_)
      rintro e w1 ⟨H, D, rfl, _, _, _, hb1⟩
      have HF := Lib.hid (HBAD.out w1 (fun h => by have := HN.out; omega) hb1)
      clear HBAD hb1
      go_wp2
      go_ret2
      exact HF.out
    · have HBAD2 : Hid (∀ w', ¬ Roks L → Below w.heap.size w w' → HLoads w room L (.returned (.tuple #[.pointer none, .bool false])) w') := Lib.hid (fun w' h hb => HBAD.out w' (fun h2 => h h2.2.2) hb)
      have HOK : Hid (Roks L → rgt room L = true) := Lib.hid (fun h => rgt_true.2 ⟨by omega, by have := HN.out; omega, h⟩)
      have HFIT : Hid (n ≤ r) := Lib.hid (by have := HR.out; omega)
      have hdec : decide (room < (n : Int)) = false := decide_eq_false hr2
      go_enter Try.func11, Try.ntmps11
      go_wp2_with (go_at_call 6; refine HNW.out.mono ?_)
      rintro e w1 ⟨H, D, rfl, hbT, hH, hD, hb1⟩
      have HO1 := Lib.hid (OHD.of hbT hH hD hb1)
      clear HBAD hb1 hbT hH hD HNW
      go_wp2
      go_loopw [23] (fun i wr => ∃ j : Nat, i = .int .i64 j ∧ j ≤ n ∧ Hid (Roks (L.take j)) ∧ Hid (OHD w H D r (L.take j).reverse wr)) (fun i _ => n - (intOf i).toNat)
      case atStart => exact ⟨0, rfl, Nat.zero_le _, Lib.hid Roks.nil, HO1⟩
      case round =>
        obtain ⟨j, rfl, hj, hg, ho⟩ := hrel
        by_cases hlt : j < n
        · obtain ⟨g, off, rfl, _, _, _, hx2⟩ := (HC.out.below ho.out.bl (Nat.le_refl _)).at (i := j) (by rw [HN.out]; exact hlt)
          obtain ⟨⟨k, f⟩, hx⟩ : ∃ x, L.getD j kv0 = x := ⟨_, rfl⟩
          rw [hx] at hx2
          simp only at hx2
          have hltz : (j : Int) < (n : Int) := by omega
          have HX := Lib.hid hx
          have HX2 := Lib.hid hx2
          have HLT := Lib.hid hlt
          have HK : Hid (Ms.Wf k) := Lib.hid (by
            have := HWF.out _ (getD_memK (l := L) (j := j) (by rw [HN.out]; exact hlt))
            rw [hx] at this
            exact this)
          have hz1 : (wr.alloc (.cells (ec ByteArray.empty Hs.z) 58)).heap[wr.heap.size]? = some (.cells (ec ByteArray.empty Hs.z) 58) := (MapKept.heap_alloc wr _).1
          have hba := (Below.refl wr.heap.size wr).alloc (Nat.le_refl _) (.cells (ec ByteArray.empty Hs.z) 58)
          have hbs := below_setRow (g := wr.heap.size) hba (Nat.le_refl _) (ec k f)
          obtain ⟨W2, hW2⟩ : ∃ W, (wr.alloc (.cells (ec ByteArray.empty Hs.z) 58)).setRow wr.heap.size (ec k f) = W := ⟨_, rfl⟩
          have hob : OHR w H D r wr.heap.size k f (L.take j).reverse W2 := by
            rw [← hW2]
            exact ⟨ho.out.below hbs, setRow_heap _ _ _ _ _ _ hz1⟩
          obtain ⟨b8, hb8⟩ : ∃ b, wr.heap.size = b := ⟨_, rfl⟩
          have HW2 := Lib.hid hW2
          have HB8 := Lib.hid hb8
          have HZ1 := Lib.hid hz1
          have HOB := Lib.hid hob
          have HI := Lib.hid (row_info k f)
          have HE := Lib.hid (ent_one k f)
          clear hx hx2 hz1 hba hbs hob hW2 hb8
          go_upto_region 7 with (first
            | refine ld_mid (by rfl) 58 _ rfl g (off + j * 17) rfl (ec k f) _ HX2.out Try.underlying58 rfl (by kernel_rfl) ?_
            | refine wpList_store_row rfl 58 _ _ rfl wr.heap.size (ec k f) rfl rfl 58 (ec ByteArray.empty Hs.z) HZ1.out HI.out rfl HE.out ?_)
          refine cast (congrArg (Code.wp _ _ _ _) (show _ = W2 from HW2.out)).symm ?_
          rw [HB8.out] at HOB ⊢
          obtain ⟨Lj, hLj⟩ : ∃ l, (L.take j).reverse = l := ⟨_, rfl⟩
          rw [hLj] at HOB
          have HLJ := Lib.hid hLj
          obtain ⟨f9, hf9⟩ : ∃ f9, (fd Lj k).getD Hs.z = f9 := ⟨_, rfl⟩
          obtain ⟨bt, hbt⟩ : ∃ b, (fd Lj k).isSome = b := ⟨_, rfl⟩
          have HBT := Lib.hid hbt
          have hq0 := HOB.out.1.c0
          have hq1 := HOB.out.2.key
          have hr0' : ∀ o, (W2.alloc o).cell? ⟨H, 0, none⟩ = some (.pointer (some ⟨D.b, 0, none⟩)) := fun o => (HOB.out.1.below ((Below.refl W2.heap.size W2).alloc (Nat.le_refl _) o)).c0
          have hr1' : ∀ o, (W2.alloc o).cell? ⟨b8, 0, none⟩ = some (.string k) := fun o => (HOB.out.2.below ((Below.refl W2.heap.size W2).alloc (Nat.le_refl _) o) (Nat.le_refl _)).key
          have HP : Hid (∀ W, Below W2.heap.size W2 W → (W2.heap.size < W.heap.size → HB W W2.heap.size Hs.z) → Calls Try.prog 25 #[.pointer (some ⟨D.b, 0, none⟩), .string k] W fun e w' => e = .returned (.tuple #[.agg (hc f9), .bool bt]) ∧ Hid (Below W2.heap.size W2 w') ∧ W2.heap.size ≤ w'.heap.size ∧ (W2.heap.size < W.heap.size → (storeCells ⟨W2.heap.size, 0, none⟩ (hc f9).toList).run Try.prog w' = .ok () (w'.setRow W2.heap.size (hc f9)))) := Lib.hid (fun W hW hS => by
            have h9 := (HOB.out.1.below hW).peek HK.out
            unfold gv at h9
            rw [hf9, hbt] at h9
            refine h9.mono ?_
            rintro e w' ⟨he, hb⟩
            refine ⟨he, Lib.hid (hW.trans (hb.mono hW.size)), Nat.le_trans hW.size hb.size, fun hl => ?_⟩
            exact store_cells ((hS hl).below hb (Nat.le_refl _)))
          have hst2 : Hid (∀ w' : World, (storeCells ⟨w'.heap.size, 0, none⟩ (hc f9).toList).run Try.prog (w'.alloc (.cells (hc Hs.z) 49)) = .ok () ((w'.alloc (.cells (hc Hs.z) 49)).setRow w'.heap.size (hc f9))) := Lib.hid (fun w' => store_cells (HB.made w' Hs.z))
          rw [hc_z] at hst2
          have HGJ := Lib.hid hg.out
          clear hLj hf9 hbt hg
          simp only [Act.put]
          go_cut [9, 10, 23] from 23 to 53 (fun s9 s10 s23 wx => s10 = .bool bt ∧ s23 = .int .i64 j ∧ Hid (Below W2.heap.size W2 wx))
          case first =>
            go_region_with (go_at_call 25; refine (HP.out _ (by repeat (first | exact Below.refl _ _ | refine Below.drew ?_ | refine Below.alloc ?_ (by simp) _)) (by first | (intro h; simp at h; done) | (intro _; exact heap_alloc_new W2 _))).mono ?_; rintro e w' ⟨rfl, hb, hle, hA⟩; have q2 := hst2.out w'; (try simp at hA))
            all_goals (go_wp2_with fail; go_meet)
            all_goals first | exact ⟨rfl, rfl, Lib.hid (below_setRow hb.out (Nat.le_refl _) _)⟩ | exact ⟨rfl, rfl, Lib.hid (below_setRow (hb.out.alloc hle _) hle _)⟩
          case rest =>
            obtain ⟨rfl, rfl, hbc⟩ := hcut
            have hoc := HOB.out.below hbc.out
            have HOC := Lib.hid hoc
            have HBW := Lib.hid hoc.1.bl
            have HEH := Lib.hid hoc.2.hist
            clear hq0 hq1 hr0' hr1' HP hst2 hbc hoc HOB
            cases bt with
            | true =>
              have hno : ¬ Roks L := by
                have h1 : k ∈ Lj.map (·.1) := by
                  cases hf : fd Lj k with
                  | none =>
                    have := HBT.out
                    rw [hf] at this
                    cases this
                  | some v => exact List.mem_map.2 ⟨_, fd_mem hf, rfl⟩
                rw [← HLJ.out, List.map_reverse, List.mem_reverse] at h1
                obtain ⟨x, hx, e⟩ := List.mem_map.1 h1
                obtain ⟨i, hi, e2⟩ := List.mem_iff_getElem.1 hx
                rw [List.length_take] at hi
                rw [List.getElem_take] at e2
                have hl := HLT.out
                have hn9 := HN.out
                refine Roks.twice (i := i) (j := j) (by omega) (by omega) ?_
                rw [HX.out, List.getD_eq_getElem?_getD, List.getElem?_eq_getElem (by omega)]
                show (L[i]).1 = k
                rw [e2]
                exact e
              have HF := Lib.hid (HBAD2.out wc hno HBW.out)
              clear hno
              go_wp2
              go_ret2
              exact HF.out
            | false =>
              have HSN := Lib.hid (fun w => hy_seen f w)
              obtain ⟨s, hs⟩ : ∃ s, (Hs.rt f && !(same f Hs.z)) = s := ⟨_, rfl⟩
              rw [hs] at HSN
              have HSS := Lib.hid hs
              clear hs
              go_wp2_with (refine ld_mid (by rfl) 49 _ rfl b8 1 rfl (hc f) _ HEH.out Try.underlying49 rfl (by kernel_rfl) ?_)
              refine (HSN.out _).mono ?_
              rintro e wd ⟨rfl, hbd⟩
              have HOD := Lib.hid (HOC.out.below hbd)
              have HBD := Lib.hid (HBW.out.trans (hbd.mono HBW.out.size))
              clear hbd HSN HEH
              cases s with
              | false =>
                have hno : ¬ Roks L := Roks.bad (j := j) (by rw [HN.out]; exact HLT.out) (by
                  rw [HX.out]
                  rintro ⟨h1, h2⟩
                  have h3 := HSS.out
                  have h1' : Hs.rt f = true := h1
                  rw [h1', Bool.true_and, Bool.not_eq_false'] at h3
                  exact h2 ((tot_zero h1').2 h3))
                have HF := Lib.hid (HBAD2.out wd hno HBD.out)
                clear hno
                go_wp2
                go_ret2
                exact HF.out
              | true =>
                have hok : Rok (k, f) := by
                  have h3 := HSS.out
                  rw [Bool.and_eq_true, Bool.not_eq_true'] at h3
                  refine ⟨h3.1, fun h4 => ?_⟩
                  have h5 := (tot_zero h3.1).1 h4
                  rw [h3.2] at h5
                  cases h5
                have hkn : k ∉ (L.take j).map (·.1) := by
                  have h1 : fd Lj k = none := by
                    cases hf : fd Lj k with
                    | none => rfl
                    | some v =>
                      have := HBT.out
                      rw [hf] at this
                      cases this
                  have h2 := fd_none.1 h1
                  rw [← HLJ.out, List.map_reverse, List.mem_reverse] at h2
                  exact h2
                have HG2 : Hid (Roks (L.take (j + 1))) := Lib.hid (HGJ.out.step (by rw [HN.out]; exact HLT.out) (by rw [HX.out]; exact hok) (by rw [HX.out]; exact hkn))
                have hlen : Lj.length = j := by
                  rw [← HLJ.out, List.length_reverse, List.length_take]
                  have := HN.out
                  omega
                have HLEN := Lib.hid hlen
                have HPT : Hid (pt r Lj k f = (L.take (j + 1)).reverse) := Lib.hid (by
                  have h1 : k ∉ Lj.map (·.1) := by rw [← HLJ.out, List.map_reverse, List.mem_reverse]; exact hkn
                  rw [pt_fits f (by rw [drp_none h1, hlen]; have := HFIT.out; have := HLT.out; omega), drp_none h1, take_succK (by rw [HN.out]; exact HLT.out), List.reverse_append, HX.out, HLJ.out]
                  rfl)
                obtain ⟨s1, hs1⟩ : ∃ s, gk r Lj k = s := ⟨_, rfl⟩
                obtain ⟨s2, hs2⟩ : ∃ s, gb r Lj k = s := ⟨_, rfl⟩
                have E1 := Lib.hid hs1
                have E2 := Lib.hid hs2
                have HJR : Hid (Lj.length ≤ r ∧ Lj.length < 1000) := Lib.hid (by rw [hlen]; have := HFIT.out; have := HLT.out; exact ⟨by omega, by omega⟩)
                clear hok hkn hlen hs1 hs2
                go_wp2_with fail
                refine Bz.wp_region (S := Bz.by1 8 (fun b1 w1 => OHR w H D r b8 k f (cond b1 (pt r Lj k f) Lj) w1)) (by kernel_rfl) ?_ ?_
                · exact Bz.by1_start (by decide) (HOD.out.below (Below.refl _ _).drew)
                repeat (first
                  | (refine Bz.anyR_value (v := ?_) (by kernel_rfl) (fun m w1 _ hS => Bz.by1_set (by decide) m w1 hS) (by rfl) (fun _ _ _ h => h) (fun m w1 hm hS => ?_) ?_
                     rotate_left
                     · (refine ex_mid 49 ?ax ?ah b8 1 ?ay _ (OHR.eh hS) Try.underlying49 rfl (by kernel_rfl); (case ah => rfl); (case ay => rfl))
                     (try simp only [Act.put, List.setIfInBounds_toArray, List.set_cons_zero, List.set_cons_succ]))
                  | (refine Bz.anyR_value (v := ?_) (by kernel_rfl) (fun m w1 _ hS => Bz.by1_set (by decide) m w1 hS) (by rfl) (fun _ _ _ h => h) (fun m w1 _ hS => ?_) ?_
                     rotate_left
                     · obtain ⟨q0, q1⟩ := OHR.cells hS
                       go_simp
                       with_reducible rfl
                     (try simp only [Act.put, List.setIfInBounds_toArray, List.set_cons_zero, List.set_cons_succ]))
                  | (refine Bz.anyR_not (by kernel_rfl) (fun m w1 _ hS => Bz.by1_set (by decide) m w1 hS) (by rfl) (fun _ _ _ h => h) ?_
                     (try simp only [Act.put, List.setIfInBounds_toArray, List.set_cons_zero, List.set_cons_succ]))
                  | (refine Bz.anyR_call (v := ?_) (f := ?_) (args := ?_) (by kernel_rfl) (by rfl) (fun _ _ _ h => h) (fun m w1 hm hS => ?_) (fun m w1 hm hS => ?_) ?_
                     rotate_left 3
                     · go_simp
                       (try constructor) <;> with_reducible rfl
                     · first
                         | (have hS2 : OHR w H D r b8 k f Lj w1 := (by have h := hS; unfold Bz.by1 at h; rw [hm.1] at h; exact h); (with_reducible refine ((hS2.put HK.out HJR.out.1 HJR.out.2 E1.out E2.out).mono ?_)); rintro e w' ⟨rfl, hp⟩; refine ⟨?_, Bz.by1_A m w' hp⟩; with_reducible rfl)
                     (try simp only [Act.put, List.setIfInBounds_toArray, List.set_cons_zero, List.set_cons_succ]))
                  | refine Bz.anyR_done (by kernel_rfl) (fun w1 hS => ?_))
                have hfin := Bz.by1_end (by decide) (by decide) hS
                have HF : Hid (OHD w H D r (L.take (j + 1)).reverse w1) := Lib.hid (by rw [← HPT.out]; exact hfin.1)
                clear hS hfin
                go_wp2
                go_roundw
                case rel => exact ⟨j + 1, by go_num, HLT.out, HG2, HF⟩
                case measure => simp [intOf]; have := HLT.out; omega
        · have e9 : j = n := by omega
          subst e9
          have hgl := hg.out
          have hol := ho.out
          rw [List.take_of_length_le (by rw [HN.out]; exact Nat.le_refl _)] at hgl hol
          have hrr : room.toNat = r := by have := HR.out; omega
          have HF : Hid (HLoads w room L (.returned (.tuple #[.pointer (some ⟨H, 0, none⟩), .bool true])) wr) := Lib.hid (Or.inl ⟨HOK.out hgl, H, D, rfl, by rw [hrr]; exact hol⟩)
          clear hg ho hgl hol hrr
          go_wp2
          go_ret2
          exact HF.out
end Go.Proofs.Ytbkbopaoeehfkaa
