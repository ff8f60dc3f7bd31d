/-
  CONTRACTS OF LAYER 13 (history), part A: a table in memory; New, Hist, Estimate, Class.
-/
import Derived.Test.YtbkbopaoeehfkaaMHy
import Derived.Test.YtbkbopaoeehfkaaLruF
import Derived.Test.YtbkbopaoeehfkaaLruG
import Derived.Test.YtbkbopaoeehfkaaQuantC
namespace Go.Proofs.Ytbkbopaoeehfkaa
open Go.RowKit Lr Ft Hy
set_option linter.unusedVariables false
namespace Hy
/-- a table in memory: a block that leads to lru's -/
structure Hb (w : World) (H : Nat) (D : Td) (room : Nat) (ns : List Nd) : Prop where
  kind : Kd w H 51
  c0 : w.cell? ⟨H, 0, none⟩ = some (pv D.b)
  tb : Tb w D room ns
section
variable {w w' : World} {H room : Nat} {D : Td} {ns : List Nd}
/-- what is of another kind than lru's is none of its blocks -/
theorem not_fp {x : Nat} {t : TypeId} (h : Tb w D room ns) (hk : Kd w x t) (h1 : t ≠ 71) (h2 : t ≠ 68) : ¬ fp D ns x := by
  intro hf
  rcases hf with rfl | rfl | hf
  · exact (h.kind.ne hk (Ne.symm h1)) rfl
  · exact kd_map h.mp hk rfl
  · exact ((h.ring.kd hf).ne hk (Ne.symm h2)) rfl
theorem Hb.off (h : Hb w H D room ns) : ¬ fp D ns H := not_fp h.tb h.kind (by decide) (by decide)
theorem Hb.same (h : Hb w H D room ns) (h0 : w'.heap[H]? = w.heap[H]?) (hb : ∀ x, fp D ns x → w'.heap[x]? = w.heap[x]?) : Hb w' H D room ns where
  kind := h.kind.block h0
  c0 := by rw [World.cell?_of_block h0]; exact h.c0
  tb := h.tb.same hb
theorem Hb.mv {S : Nat → Prop} (h : Hb w H D room ns) (hm : Mv S w w') (h0 : ¬ S H) (hs : ∀ x, fp D ns x → ¬ S x) : Hb w' H D room ns := h.same (hm.block H h.kind.lt h0) (fun x hx => hm.block x (h.tb.lt hx) (hs x hx))
theorem Hb.below {B : Nat} (h : Hb w H D room ns) (hm : Below B w w') (hB : w.heap.size ≤ B) : Hb w' H D room ns := h.same (hm.block H (Nat.lt_of_lt_of_le h.kind.lt hB)) (fun x hx => hm.block x (Nat.lt_of_lt_of_le (h.tb.lt hx) hB))
/-- lru's table has turned -/
theorem Hb.step (h : Hb w H D room ns) {ns' : List Nd} (ht : Tb w' D room ns') (hg : Gs (fp D ns) w (fp D ns') w') : Hb w' H D room ns' where
  kind := h.kind.block (hg.mv.block H h.kind.lt h.off)
  c0 := by rw [World.cell?_of_block (hg.mv.block H h.kind.lt h.off)]; exact h.c0
  tb := ht
/-- a table that has come out of another -/
def Hg (w0 : World) (H : Nat) (D : Td) (room : Nat) (ns0 : List Nd) (L : List KV) (w : World) : Prop := ∃ ns, kvs ns = L ∧ Hb w H D room ns ∧ Gs (fp D ns0) w0 (fp D ns) w
def HNews (w : World) (room : Nat) (e : Ending) (w' : World) : Prop := ∃ H D, e = .returned (.pointer (some ⟨H, 0, none⟩)) ∧ Hb w' H D room [] ∧ w.heap.size ≤ H ∧ (∀ x, fp D [] x → w.heap.size ≤ x) ∧ Below w.heap.size w w'
end
end Hy
theorem hy_small {room : Int} (h : room < 1) (w : World) : Calls Try.prog 6 #[.int .i64 room] w fun e w' => e = .returned (.pointer none) ∧ w' = w := by
  go_enter Try.func6, Try.ntmps6
  go_wp2
  go_ret
  exact ⟨rfl, rfl⟩
theorem hy_new (room : Nat) (w : World) (hr : 0 < room) : Calls Try.prog 6 #[.int .i64 room] w (HNews w room) := by
  have HN := Lib.hid (new_any room w hr)
  obtain ⟨z, hz⟩ : ∃ z : Int, (room : Int) = z := ⟨_, rfl⟩
  have hz1 : ¬ z < 1 := by omega
  rw [hz] at HN ⊢
  clear hz hr
  go_enter Try.func6, Try.ntmps6
  go_wp2_with (go_at_call 15; refine HN.out.mono ?_)
  rintro e w1 ⟨D, rfl, hT, hF, hb⟩
  have hb2 := (Below.refl w1.heap.size w1).alloc (Nat.le_refl _) (.cells #[.pointer (some ⟨D.b, 0, none⟩)] 51)
  have hn := heap_alloc_new w1 (.cells #[.pointer (some ⟨D.b, 0, none⟩)] 51)
  have HF : Hid (HNews w room (.returned (.pointer (some ⟨w1.heap.size, 0, none⟩))) (w1.alloc (.cells #[.pointer (some ⟨D.b, 0, none⟩)] 51))) := Lib.hid ⟨w1.heap.size, D, rfl, ⟨⟨_, hn⟩, by simp only [World.cell?, hn]; rfl, hT.below hb2 (Nat.le_refl _)⟩, hb.size, hF, below_next hb hb2⟩
  clear hT hF hb hb2 hn
  go_wp2
  go_ret
  exact HF.out
section
variable {w w' : World} {H room : Nat} {D : Td} {ns : List Nd}
set_option maxRecDepth 100000 in
theorem hy_hist (h : Hb w H D room ns) {k : ByteArray} (hk : Ms.Wf k) : Calls Try.prog 18 #[.pointer (some ⟨H, 0, none⟩), .string k] w fun e w' => e = .returned (.agg (hc (hst (kvs ns) k))) ∧ Below w.heap.size w w' := by
  have h1 := HB.made w Hs.z
  have hb := (Below.refl w.heap.size w).alloc (Nat.le_refl _) (.cells (hc Hs.z) 49)
  have h2 := h.below hb (Nat.le_refl _)
  have HP := Lib.hid (peek_any h2.tb hk)
  have hc0 : ∀ o, (w.alloc o).cell? ⟨H, 0, none⟩ = some (.pointer (some ⟨D.b, 0, none⟩)) := fun o => by
    rw [World.cell?_of_block ((MapKept.heap_alloc w o).2 H h.kind.lt)]
    exact h.c0
  unfold gv at HP
  have e1 : (fd (kvs ns) k).getD Hs.z = hst (kvs ns) k := rfl
  rw [e1] at HP
  obtain ⟨f, hf⟩ : ∃ f, hst (kvs ns) k = f := ⟨_, rfl⟩
  obtain ⟨b, hbb⟩ : ∃ b, (fd (kvs ns) k).isSome = b := ⟨_, rfl⟩
  rw [hf, hbb] at HP
  rw [hf]
  have H1 := Lib.hid h1
  have HB1 := Lib.hid hb
  have HI0 := Lib.hid (hist_info f)
  have HO0 := Lib.hid (hc_one f)
  clear h h1 h2 hb e1 hf hbb hk
  go_enter Try.func18, Try.ntmps18
  go_wp2_with fail
  refine HP.out.mono ?_
  rintro e w1 ⟨rfl, hb1⟩
  have A1 := H1.out.below hb1 (Nat.le_refl _)
  have B1 := below_next HB1.out hb1
  have hb2 := (Below.refl w1.heap.size w1).alloc (Nat.le_refl _) (.cells (hc Hs.z) 49)
  have A2 := Lib.hid (A1.below hb2 (Nat.le_refl _))
  have C2 := Lib.hid (HB.made w1 Hs.z)
  have hlt1 : w.heap.size < w1.heap.size := A1.lt
  have C3 := Lib.hid (HB.row C2.out f)
  have A3 := Lib.hid (A2.out.row_other (k := w1.heap.size) (by omega) (hc f))
  have B3 := Lib.hid (below_setRow (g := w1.heap.size) (below_next B1 hb2) (by omega) (hc f))
  clear hb1 A1 B1 hb2
  go_wp2_with (first
    | refine ld_row (by rfl) 49 _ rfl w1.heap.size rfl _ _ _ _ C3.out Try.underlying49 rfl (by kernel_rfl) ?_
    | refine wpList_store_row rfl 49 _ _ rfl w1.heap.size (hc f) rfl rfl 49 (hc Hs.z) C2.out HI0.out rfl HO0.out ?_
    | refine wpList_store_row rfl 49 _ _ rfl w.heap.size (hc f) rfl rfl 49 (hc Hs.z) A3.out HI0.out rfl HO0.out ?_)
  refine bodyPost_ret (v := .agg (hc f)) ?_ rfl ?_
  · exact results_cell_row rfl _ _ w.heap.size _ _ _ _ rfl (HB.row A3.out _) Try.underlying49 rfl HI0.out
  · exact ⟨rfl, below_setRow B3.out (Nat.le_refl _) _⟩
theorem hy_est (h : Hb w H D room ns) {k : ByteArray} (hk : Ms.Wf k) (p : Int) : Calls Try.prog 14 #[.pointer (some ⟨H, 0, none⟩), .string k, .int .i64 p] w fun e w' => e = .returned (.tuple #[.int .u64 (Qu.ov (hst (kvs ns) k) p : Nat), .bool (Qu.ok (hst (kvs ns) k) p)]) ∧ Below w.heap.size w w' := by
  have HH := Lib.hid (hy_hist h hk)
  obtain ⟨f, hf⟩ : ∃ f, hst (kvs ns) k = f := ⟨_, rfl⟩
  rw [hf] at HH
  rw [hf]
  have HO := Lib.hid (fun w => of_any f p w)
  obtain ⟨z, hz⟩ : ∃ z : Int, (Qu.ov f p : Int) = z := ⟨_, rfl⟩
  rw [hz] at HO ⊢
  clear h hk hf hz
  go_enter Try.func14, Try.ntmps14
  go_wp2_with fail
  refine HH.out.mono ?_
  rintro e w1 ⟨rfl, hb1⟩
  go_wp2_with fail
  refine (HO.out _).mono ?_
  rintro e w2 ⟨rfl, hb2⟩
  have HB2 := Lib.hid (below_next hb1 hb2)
  clear hb1 hb2
  go_wp2
  go_ret2
  exact ⟨rfl, HB2.out⟩
end
namespace Hy
/-- a slice of limits -/
def LIs (w : World) (p : Option Addr) (l : List Int) : Prop := ∀ i, i < l.length → ∃ b off, p = some ⟨b, off, none⟩ ∧ b < w.heap.size ∧ w.cell? ⟨b, off + i, none⟩ = some (.int .i64 (l.getD i 0))
theorem LIs.below {w w' : World} {p : Option Addr} {l : List Int} {B : Nat} (h : LIs w p l) (hb : Below B w w') (hB : w.heap.size ≤ B) : LIs w' p l := fun i hi => by
  obtain ⟨b, off, hp, hlt, hc⟩ := h i hi
  exact ⟨b, off, hp, Nat.lt_of_lt_of_le hlt hb.size, by rw [hb.cell (p := ⟨b, off + i, none⟩) (Nat.lt_of_lt_of_le hlt hB)]; exact hc⟩
def I64s (l : List Int) : Prop := ∀ x ∈ l, -9223372036854775808 ≤ x ∧ x ≤ 9223372036854775807
theorem I64s.at {l : List Int} (h : I64s l) {j : Nat} (hj : j < l.length) : -9223372036854775808 ≤ l.getD j 0 ∧ l.getD j 0 ≤ 9223372036854775807 := h _ (by
  rw [List.getD_eq_getElem?_getD, List.getElem?_eq_getElem hj]
  exact List.getElem_mem hj)
end Hy
section
variable {w w' : World} {H room : Nat} {D : Td} {ns : List Nd}
set_option maxHeartbeats 1000000 in
theorem hy_class (h : Hb w H D room ns) {k : ByteArray} (hk : Ms.Wf k) (p : Option Addr) (n cap : Nat) (ls : List Int) (q : Int) (hn : ls.length = n) (hn2 : n ≤ 1000) (hls : I64s ls) (hin : LIs w p ls) :
    Calls Try.prog 13 #[.pointer (some ⟨H, 0, none⟩), .string k, .slice p n cap, .int .i64 q] w fun e w' => e = .returned (.int .i64 (ca ls (Qu.ov (hst (kvs ns) k) q) (Qu.ok (hst (kvs ns) k) q) : Nat)) ∧ Below w.heap.size w w' := by
  have HE := Lib.hid (hy_est h hk q)
  obtain ⟨f, hf⟩ : ∃ f, hst (kvs ns) k = f := ⟨_, rfl⟩
  rw [hf] at HE ⊢
  obtain ⟨x, hx⟩ : ∃ x, Qu.ov f q = x := ⟨_, rfl⟩
  rw [hx] at HE ⊢
  have hin' := Lib.hid hin
  have HLS := Lib.hid hls
  have HN := Lib.hid hn
  clear h hk hf hx hin hls hn
  cases ho : Qu.ok f q
  · rw [ho] at HE
    clear ho
    obtain ⟨z, hz⟩ : ∃ z : Int, (x : Int) = z := ⟨_, rfl⟩
    rw [hz] at HE
    go_enter Try.func13, Try.ntmps13
    go_wp2_with fail
    refine HE.out.mono ?_
    rintro e w1 ⟨rfl, hb1⟩
    go_wp2
    go_ret
    exact ⟨rfl, hb1⟩
  · rw [ho] at HE
    clear ho
    have e0 : ca ls x true = cls ls x := rfl
    rw [e0]
    obtain ⟨R, hR⟩ : ∃ R, cls ls x = R := ⟨_, rfl⟩
    have HR : Hid (R = 0 + cls (ls.drop 0) x) := Lib.hid (by rw [← hR, List.drop_zero]; omega)
    rw [hR]
    clear e0 hR
    obtain ⟨z, hz⟩ : ∃ z : Int, (x : Int) = z := ⟨_, rfl⟩
    rw [hz] at HE
    have HZ := Lib.hid hz
    clear hz
    go_enter Try.func13, Try.ntmps13
    go_wp2_with fail
    refine HE.out.mono ?_
    rintro e w1 ⟨rfl, hb1⟩
    have HB1 := Lib.hid hb1
    have HL1 := Lib.hid (hin'.out.below hb1 (Nat.le_refl _))
    clear hb1
    go_wp2
    go_loopw [24] (fun i wr => ∃ j : Nat, i = .int .i64 j ∧ j ≤ n ∧ Hid (R = j + cls (ls.drop j) x) ∧ w1 = wr) (fun i _ => n - (intOf i).toNat)
    case atStart => exact ⟨0, rfl, Nat.zero_le _, HR, rfl⟩
    case round =>
      obtain ⟨j, rfl, hj, hr, rfl⟩ := hrel
      by_cases hlt : j < n
      · obtain ⟨b, off, rfl, hbl, hx0⟩ := HL1.out j (by rw [HN.out]; exact hlt)
        have hst := cls_step (ls := ls) (j := j) (by rw [HN.out]; exact hlt) x
        have hbd := HLS.out.at (j := j) (by rw [HN.out]; exact hlt)
        obtain ⟨v, hv⟩ : ∃ v, ls.getD j 0 = v := ⟨_, rfl⟩
        rw [hv] at hx0 hst hbd
        have hltz : (j : Int) < (n : Int) := by omega
        obtain ⟨m, hm⟩ : ∃ m, max v 0 = m := ⟨_, rfl⟩
        rw [hm] at hst
        have f1 : IntKind.u64.wrap m = m := u64_small (by omega) (by omega)
        have hrr := hr.out
        by_cases e1 : z ≤ m
        · rw [if_pos (by rw [HZ.out]; exact e1)] at hst
          have HF : Hid ((j : Int) = (R : Int)) := Lib.hid (by rw [hrr, hst]; rfl)
          clear hst hbd hrr hr hv
          go_wp2
          go_ret
          exact ⟨ret_i64 HF.out, HB1.out⟩
        · rw [if_neg (by rw [HZ.out]; exact e1)] at hst
          have HF : Hid (R = (j + 1) + cls (ls.drop (j + 1)) x) := Lib.hid (by omega)
          clear hst hbd hrr hr hv
          go_wp2
          go_roundw
          case rel => exact ⟨j + 1, by go_num, hlt, HF, trivial⟩
          case measure => simp [intOf]; omega
      · have e9 : j = n := by omega
        subst e9
        have HF : Hid ((j : Int) = (R : Int)) := Lib.hid (by rw [hr.out, cls_end ls x (Nat.le_of_eq HN.out)]; rfl)
        clear hr
        go_wp2
        go_ret
        exact ⟨ret_i64 HF.out, HB1.out⟩
end
end Go.Proofs.Ytbkbopaoeehfkaa
