/-
  THE PAGE OF LAYER 13 (history), part E: Hist, Class, Same.
-/
import Derived.Test.YtbkbopaoeehfkaaHyD
import Derived.Test.YtbkbopaoeehfkaaRegionZ
import Derived.Test.YtbkbopaoeehfkaaRegion
import Derived.Lib.SlicesS
namespace Go.Proofs.Ytbkbopaoeehfkaa
open Go.RowKit Lr Ft Hy Bt
set_option linter.unusedVariables false
theorem str_beq {a b : ByteArray} (h : a = b) : (a.toList == b.toList) = true := by rw [h]; simp
theorem str_bne {a b : ByteArray} (h : a ≠ b) : (a.toList == b.toList) = false := (Go.Lib.bytes_beq_false_iff _ _).2 h
namespace Hy
theorem fd_drop {L : List KV} {j : Nat} (h : j < L.length) (k : ByteArray) : fd (L.drop j) k = if (L.getD j kv0).1 = k then some (L.getD j kv0).2 else fd (L.drop (j + 1)) k := by
  rw [List.drop_eq_getElem_cons h, List.getD_eq_getElem?_getD, List.getElem?_eq_getElem h]
  rfl
end Hy
set_option maxHeartbeats 1000000 in
set_option maxRecDepth 100000 in
theorem rh_hist (room : Int) (p : Option Addr) (n cap : Nat) (L : List KV) (k : ByteArray) (w : World) (hn : L.length = n) (hn2 : n ≤ 1000) (h : RC w p L) :
    Calls Try.prog 20 #[.agg #[.int .i64 room, .slice p n cap], .string k] w fun e w' => e = .returned (.agg (hc (hst L k))) ∧ Below w.heap.size w w' := by
  obtain ⟨f, hf⟩ : ∃ f, hst L k = f := ⟨_, rfl⟩
  have HR : Hid ((fd (L.drop 0) k).getD Hs.z = f) := Lib.hid (by rw [List.drop_zero]; exact hf)
  rw [hf]
  have HN := Lib.hid hn
  obtain ⟨W1, hW1⟩ : ∃ W1, w.alloc (.cells #[.int .i64 room, .slice p n cap] 31) = W1 := ⟨_, rfl⟩
  have hb1 : Below w.heap.size w W1 := by rw [← hW1]; exact (Below.refl _ _).alloc (Nat.le_refl _) _
  have hs1 : W1.heap.size = w.heap.size + 1 := by rw [← hW1]; simp
  have e1 : W1.heap[w.heap.size]? = some (.cells #[.int .i64 room, .slice p n cap] 31) := by rw [← hW1]; exact (MapKept.heap_alloc _ _).1
  obtain ⟨W2, hW2⟩ : ∃ W2, W1.alloc (.cells (hc Hs.z) 49) = W2 := ⟨_, rfl⟩
  have hb2 : Below W1.heap.size W1 W2 := by rw [← hW2]; exact (Below.refl _ _).alloc (Nat.le_refl _) _
  have hbb := below_next hb1 hb2
  have hz2 : HB W2 (w.heap.size + 1) Hs.z := by rw [← hW2, ← hs1]; exact HB.made _ _
  have e2 : W2.heap[w.heap.size]? = some (.cells #[.int .i64 room, .slice p n cap] 31) := (hb2.block _ (by omega)).trans e1
  have hc1 : W2.cell? ⟨w.heap.size, 1, none⟩ = some (.slice p n cap) := by
    simp only [World.cell?, e2]
    rfl
  have HT := Lib.hid (h.below hbb (Nat.le_refl _))
  have HBB := Lib.hid hbb
  have HZ := Lib.hid hz2
  have HW : Hid ((w.alloc (.cells #[.int .i64 room, .slice p n cap] 31)).alloc (.cells (hc Hs.z) 49) = W2) := Lib.hid (by rw [hW1]; exact hW2)
  have HI0 := Lib.hid (hist_info f)
  have HO0 := Lib.hid (hc_one f)
  have HIZ := Lib.hid (hist_info Hs.z)
  have HOZ := Lib.hid (hc_one Hs.z)
  clear hf hn h hb1 hs1 e1 hW1 hb2 hbb hz2 e2 hW2
  go_enter Try.func20, Try.ntmps20
  go_wp2
  go_loopw [5] (fun c wr => ∃ j : Nat, c = .int .i64 j ∧ j ≤ n ∧ Hid ((fd (L.drop j) k).getD Hs.z = f) ∧ W2 = wr) (fun c _ => n - (intOf c).toNat)
  case atStart => exact ⟨0, rfl, Nat.zero_le _, HR, HW.out.symm⟩
  case round =>
    obtain ⟨j, rfl, hj, hr, rfl⟩ := hrel
    by_cases hlt : j < n
    · obtain ⟨g, off, rfl, hg, hx0, hx1, _⟩ := HT.out.at (i := j) (by rw [HN.out]; exact hlt)
      have hd := fd_drop (L := L) (j := j) (by rw [HN.out]; exact hlt) k
      obtain ⟨⟨q1, q2⟩, hq⟩ : ∃ q, L.getD j kv0 = q := ⟨_, rfl⟩
      rw [hq] at hx0 hx1 hd
      simp only at hx0 hx1 hd
      have hltz : (j : Int) < (n : Int) := by omega
      have HRR := hr.out
      rw [hd] at HRR
      by_cases e1 : q1 = k
      · rw [if_pos e1] at HRR
        have hff : q2 = f := HRR
        subst hff
        have HX1 := Lib.hid hx1
        have hb1 := str_beq e1
        clear hd hq hr hx1 HRR e1
        go_wp2_with (first
          | refine ld_mid (by rfl) 49 _ rfl g (off + j * 17 + 1) rfl (hc q2) _ HX1.out Try.underlying49 rfl (by kernel_rfl) ?_
          | refine wpList_store_row rfl 49 _ _ rfl (w.heap.size + 1) (hc q2) rfl rfl 49 (hc Hs.z) HZ.out HI0.out rfl HO0.out ?_)
        refine bodyPost_ret (v := .agg (hc q2)) ?_ rfl ?_
        · exact results_cell_row rfl _ _ (w.heap.size + 1) _ _ _ _ rfl (HB.row HZ.out _) Try.underlying49 rfl HI0.out
        · exact ⟨rfl, below_setRow HBB.out (by omega) _⟩
      · rw [if_neg e1] at HRR
        have HI := Lib.hid HRR
        have hb1 := str_bne e1
        clear hd hq hr hx1 HRR e1
        go_wp2
        go_roundw
        case rel => exact ⟨j + 1, by go_num, hlt, HI, trivial⟩
        case measure => simp [intOf]; omega
    · have e1 : j = n := by omega
      subst e1
      have HF : Hid (Hs.z = f) := Lib.hid (by rw [← hr.out, List.drop_of_length_le (by rw [HN.out]; exact Nat.le_refl _)]; rfl)
      clear hr
      go_wp2_with (first
        | refine wpList_store_row rfl 49 _ _ rfl (w.heap.size + 1) (hc Hs.z) rfl rfl 49 (hc Hs.z) HZ.out HIZ.out rfl HOZ.out ?_)
      refine bodyPost_ret (v := .agg (hc Hs.z)) ?_ rfl ?_
      · exact results_cell_row rfl _ _ (w.heap.size + 1) _ _ _ _ rfl (HB.row HZ.out _) Try.underlying49 rfl HIZ.out
      · exact ⟨by rw [HF.out], below_setRow HBB.out (by omega) _⟩
set_option maxHeartbeats 1000000 in
theorem rh_class (room : Int) (pr : Option Addr) (m capr : Nat) (L : List KV) (k : ByteArray) (p : Option Addr) (n cap : Nat) (ls : List Int) (q : Int) (w : World) (hm : L.length = m) (hm2 : m ≤ 1000) (hr : RC w pr L) (hn : ls.length = n) (hn2 : n ≤ 1000) (hls : I64s ls) (hin : LIs w p ls) :
    Calls Try.prog 22 #[.agg #[.int .i64 room, .slice pr m capr], .string k, .slice p n cap, .int .i64 q] w fun e w' => e = .returned (.int .i64 (ca ls (Qu.ov (hst L k) q) (Qu.ok (hst L k) q) : Nat)) ∧ Below w.heap.size w w' := by
  obtain ⟨W1, hW1⟩ : ∃ W1, w.alloc (.cells #[.int .i64 room, .slice pr m capr] 31) = W1 := ⟨_, rfl⟩
  have hb1 : Below w.heap.size w W1 := by rw [← hW1]; exact (Below.refl _ _).alloc (Nat.le_refl _) _
  have e1 : W1.heap[w.heap.size]? = some (.cells #[.int .i64 room, .slice pr m capr] 31) := by rw [← hW1]; exact (MapKept.heap_alloc _ _).1
  have hc0 : W1.cell? ⟨w.heap.size, 0, none⟩ = some (.int .i64 room) := by simp only [World.cell?, e1]; rfl
  have hc1 : W1.cell? ⟨w.heap.size, 1, none⟩ = some (.slice pr m capr) := by simp only [World.cell?, e1]; rfl
  have HH := Lib.hid (rh_hist room pr m capr L k W1 hm hm2 (hr.below hb1 (Nat.le_refl _)))
  obtain ⟨f, hf⟩ : ∃ f, hst L k = f := ⟨_, rfl⟩
  rw [hf] at HH ⊢
  have HO := Lib.hid (fun w => rof_any f q w)
  obtain ⟨x, hx⟩ : ∃ x, Qu.ov f q = x := ⟨_, rfl⟩
  rw [hx] at HO ⊢
  have hin' := Lib.hid (hin.below hb1 (Nat.le_refl _))
  have HLS := Lib.hid hls
  have HN := Lib.hid hn
  have HB0 := Lib.hid hb1
  clear hm hm2 hr hin hls hn hb1 e1 hf hx
  cases ho : Qu.ok f q
  · rw [ho] at HO
    clear ho
    obtain ⟨z, hz⟩ : ∃ z : Int, (x : Int) = z := ⟨_, rfl⟩
    rw [hz] at HO
    go_enter Try.func22, Try.ntmps22
    go_wp2_with fail
    refine HH.out.mono ?_
    rintro e w1 ⟨rfl, hb1⟩
    have HB1 := Lib.hid (below_next HB0.out hb1)
    clear hb1
    go_wp2_with fail
    refine (HO.out _).mono ?_
    rintro e w2 ⟨rfl, hb2⟩
    go_wp2
    go_ret
    exact ⟨rfl, below_next HB1.out hb2⟩
  · rw [ho] at HO
    clear ho
    have e0 : ca ls x true = cls ls x := rfl
    rw [e0]
    obtain ⟨R, hR⟩ : ∃ R, cls ls x = R := ⟨_, rfl⟩
    have HR : Hid (R = 0 + cls (ls.drop 0) x) := Lib.hid (by rw [← hR, List.drop_zero]; omega)
    rw [hR]
    clear e0 hR
    obtain ⟨z, hz⟩ : ∃ z : Int, (x : Int) = z := ⟨_, rfl⟩
    rw [hz] at HO
    have HZ := Lib.hid hz
    have hz0 : 0 ≤ z := by omega
    clear hz
    go_enter Try.func22, Try.ntmps22
    go_wp2_with fail
    refine HH.out.mono ?_
    rintro e w1 ⟨rfl, hb1⟩
    have HL1 := Lib.hid (hin'.out.below hb1 (Nat.le_refl _))
    have HB1 := Lib.hid (below_next HB0.out hb1)
    clear hb1
    go_wp2_with fail
    refine (HO.out _).mono ?_
    rintro e w2 ⟨rfl, hb2⟩
    have HL2 := Lib.hid (HL1.out.below hb2 (Nat.le_refl _))
    have HB2 := Lib.hid (below_next HB1.out hb2)
    clear hb2 hc0 hc1 HL1 HB1
    go_wp2
    go_loopw [11] (fun i wr => ∃ j : Nat, i = .int .i64 j ∧ j ≤ n ∧ Hid (R = j + cls (ls.drop j) x) ∧ w2 = wr) (fun i _ => n - (intOf i).toNat)
    case atStart => exact ⟨0, rfl, Nat.zero_le _, HR, rfl⟩
    case round =>
      obtain ⟨j, rfl, hj, hr, rfl⟩ := hrel
      by_cases hlt : j < n
      · obtain ⟨b, off, rfl, hbl, hx0⟩ := HL2.out j (by rw [HN.out]; exact hlt)
        have hst := cls_step (ls := ls) (j := j) (by rw [HN.out]; exact hlt) x
        have hbd := HLS.out.at (j := j) (by rw [HN.out]; exact hlt)
        obtain ⟨v, hv⟩ : ∃ v, ls.getD j 0 = v := ⟨_, rfl⟩
        rw [hv] at hx0 hst hbd
        have hltz : (j : Int) < (n : Int) := by omega
        have hrr := hr.out
        have HHIT : Hid (z ≤ max v 0 → (j : Int) = (R : Int)) := Lib.hid (fun h => by rw [if_pos (by rw [HZ.out]; exact h)] at hst; rw [hrr, hst]; rfl)
        have HGO : Hid (¬ z ≤ max v 0 → R = (j + 1) + cls (ls.drop (j + 1)) x) := Lib.hid (fun h => by rw [if_neg (by rw [HZ.out]; exact h)] at hst; omega)
        clear hst hrr hr hv
        by_cases hv0 : 0 ≤ v
        · have f1 : IntKind.u64.wrap v = v := u64_small (by omega) (by omega)
          clear hbd
          by_cases e1 : z ≤ v
          · have HF : Hid ((j : Int) = (R : Int)) := Lib.hid (HHIT.out (by omega))
            clear HHIT HGO
            go_wp2
            go_ret
            exact ⟨ret_i64 HF.out, HB2.out⟩
          · have HF : Hid (R = (j + 1) + cls (ls.drop (j + 1)) x) := Lib.hid (HGO.out (by omega))
            have ez : (z == 0) = false := by rw [beq_eq_false_iff_ne]; omega
            clear HHIT HGO
            go_wp2
            go_roundw
            case rel => exact ⟨j + 1, by go_num, hlt, HF, trivial⟩
            case measure => simp [intOf]; omega
        · clear hbd
          by_cases e1 : z = 0
          · have HF : Hid ((j : Int) = (R : Int)) := Lib.hid (HHIT.out (by omega))
            have ez : (z == 0) = true := by rw [beq_iff_eq]; exact e1
            clear HHIT HGO e1
            go_wp2
            go_ret
            exact ⟨ret_i64 HF.out, HB2.out⟩
          · have HF : Hid (R = (j + 1) + cls (ls.drop (j + 1)) x) := Lib.hid (HGO.out (by omega))
            have ez : (z == 0) = false := by rw [beq_eq_false_iff_ne]; omega
            clear HHIT HGO e1
            go_wp2
            go_roundw
            case rel => exact ⟨j + 1, by go_num, hlt, HF, trivial⟩
            case measure => simp [intOf]; omega
      · have e9 : j = n := by omega
        subst e9
        have HF : Hid ((j : Int) = (R : Int)) := Lib.hid (by rw [hr.out, cls_end ls x (Nat.le_of_eq HN.out)]; rfl)
        clear hr
        go_wp2
        go_ret
        exact ⟨ret_i64 HF.out, HB2.out⟩
theorem eq_hc_at (d : Nat) (f : Nat → Int) (w : World) : (Op.equalIn (d + 2) 49 (.agg (hc f)) (.agg (hc f))).run Try.prog w = .ok true w := by
  obtain ⟨i, hi⟩ : ∃ i, Try.prog.info? 3 = some i := by
    have h : (Try.prog.info? 3).isSome = true := by kernel_rfl
    exact Option.isSome_iff_exists.1 h
  have hz : Try.prog.cellsOf 3 = 1 := by kernel_rfl
  rw [run_equalIn_array w (d + 1) (hc f) (hc f) Try.underlying49 hi, hz]
  have part1 : ∀ (k : Nat), k < 16 → (part 3 (hc f) (k * 1)).run Try.prog w = .ok (.int .i64 (f k)) w := fun k hk => by
    have := hc_get f hk
    simp [part, isAgg, run_underlying Try.underlying3, this]
  have key : ∀ (is : List Nat), (∀ i ∈ is, i < 16) → (Op.eqItems (d + 1) 3 1 (hc f) (hc f) is).run Try.prog w = .ok true w := by
    intro is
    induction is with
    | nil => intro _; rfl
    | cons k is ih =>
      intro h
      have hk := h k (by simp)
      have ih := ih fun i hi => h i (by simp [hi])
      simp only [Op.eqItems, Sem.run_bind, part1 k hk, Result.andThen_ok]
      rw [run_equalIn_int w d 3 .i64 .i64 (f k) (f k) Try.underlying3]
      simp only [Result.andThen_ok]
      simp [ih]
  exact key _ (fun i hi => by simpa using hi)
theorem part_key (k : ByteArray) (f : El) (w : World) : (part 9 (ec k f) 0).run Try.prog w = .ok (.string k) w := by kernel_rfl
theorem part_hist (k : ByteArray) (f : El) (w : World) : (part 49 (ec k f) 1).run Try.prog w = .ok (.agg (hc f)) w := by kernel_rfl
theorem list_two {α : Type} [Inhabited α] {l : List α} (h : l.length = 2) : l = [l[0]!, l[1]!] := by
  match l, h with
  | [a, b], _ => rfl
theorem row_fields : (Try.prog.fieldsOf 58).toList.length = 2 := by kernel_rfl
theorem row_f0 : ((Try.prog.fieldsOf 58).toList[0]!.name != "_") = true ∧ (Try.prog.fieldsOf 58).toList[0]!.type = 9 ∧ (Try.prog.fieldsOf 58).toList[0]!.offset = 0 := ⟨by kernel_rfl, by kernel_rfl, by kernel_rfl⟩
theorem row_f1 : ((Try.prog.fieldsOf 58).toList[1]!.name != "_") = true ∧ (Try.prog.fieldsOf 58).toList[1]!.type = 49 ∧ (Try.prog.fieldsOf 58).toList[1]!.offset = 1 := ⟨by kernel_rfl, by kernel_rfl, by kernel_rfl⟩
theorem row_under : Try.prog.underlying 58 = some (.struct (Try.prog.fieldsOf 58)) := by kernel_rfl
theorem row_stood : Try.prog.stoodInHeld 58 = false := by kernel_rfl
theorem row_two : ∃ f0 f1 : Field, (Try.prog.fieldsOf 58).toList = [f0, f1] ∧ f0.name ≠ "_" ∧ f0.type = 9 ∧ f0.offset = 0 ∧ f1.name ≠ "_" ∧ f1.type = 49 ∧ f1.offset = 1 :=
  ⟨_, _, list_two row_fields, bne_iff_ne.1 row_f0.1, row_f0.2.1, row_f0.2.2, bne_iff_ne.1 row_f1.1, row_f1.2.1, row_f1.2.2⟩
theorem eq_fields_two {P : Program} {w : World} {D : Nat} {xs ys : Array Value} {f0 f1 : Field} {a0 b0 a1 b1 : Value} (m0 : f0.name ≠ "_") (m1 : f1.name ≠ "_") (pa0 : (part f0.type xs f0.offset).run P w = .ok a0 w) (pb0 : (part f0.type ys f0.offset).run P w = .ok b0 w) (pa1 : (part f1.type xs f1.offset).run P w = .ok a1 w) (pb1 : (part f1.type ys f1.offset).run P w = .ok b1 w)
    (h0 : (Op.equalIn D f0.type a0 b0).run P w = .ok true w) (h1 : (Op.equalIn D f1.type a1 b1).run P w = .ok true w) : (Op.eqFields D xs ys [f0, f1]).run P w = .ok true w := by
  simp [Op.eqFields, m0, m1, Sem.run_bind, pa0, pb0, pa1, pb1, h0, h1]
theorem eq_row_at (d : Nat) (k : ByteArray) (f : El) (w : World) : (Op.equalIn (d + 2 + 1) 58 (.agg (ec k f)) (.agg (ec k f))).run Try.prog w = .ok true w := by
  obtain ⟨f0, f1, hl, m0, t0, o0, m1, t1, o1⟩ := row_two
  have hs : (Op.equalIn (d + 2) 9 (.string k) (.string k)).run Try.prog w = .ok true w := by
    have h := run_equalIn_string (P := Try.prog) w (d + 1) 9 k k Try.underlying9
    have hk : (k.toList == k.toList) = true := by simp
    rw [hk] at h
    exact h
  have hh := eq_hc_at d f w
  rw [run_equalIn_struct w (d + 2) 58 _ _ row_under row_stood, hl]
  exact eq_fields_two m0 m1 (by rw [t0, o0]; exact part_key k f w) (by rw [t0, o0]; exact part_key k f w) (by rw [t1, o1]; exact part_hist k f w) (by rw [t1, o1]; exact part_hist k f w) (by rw [t0]; exact hs) (by rw [t1]; exact hh)
theorem binOp_neq {P : Program} {w : World} {T : TypeId} {x y : Array Value} (h : (Op.equal T (.agg x) (.agg y)).run P w = .ok true w) : (binOp .neq T (.agg x) (.agg y)).run P w = .ok (.bool false) w := by
  simp only [binOp]
  simp [h]
/-- '!=' of two rows of the same cells -/
theorem neq_row (k : ByteArray) (f : El) (w : World) : (binOp .neq 58 (.agg (ec k f)) (.agg (ec k f))).run Try.prog w = .ok (.bool false) w :=
  binOp_neq (eq_row_at 9997 k f w)
set_option maxHeartbeats 1000000 in
theorem rh_same (p q : Option Addr) (n c1 c2 : Nat) (L : List KV) (w : World) (hn : L.length = n) (hn2 : n ≤ 1000) (h1 : RC w p L) (h2 : RC w q L) :
    Calls Try.prog 23 #[.slice p n c1, .slice q n c2] w fun e w' => e = .returned (.bool true) ∧ Below w.heap.size w w' := by
  have HN := Lib.hid hn
  have H1 := Lib.hid h1
  have H2 := Lib.hid h2
  have hnn : ((n : Int) != (n : Int)) = false := by simp
  have hnr := neq_row
  clear hn h1 h2
  go_enter Try.func23, Try.ntmps23
  go_wp2
  go_loopw [5] (fun i wr => ∃ j : Nat, i = .int .i64 j ∧ j ≤ n ∧ Hid (Below w.heap.size w wr)) (fun i _ => n - (intOf i).toNat)
  case atStart => exact ⟨0, rfl, Nat.zero_le _, Lib.hid (Below.refl _ _)⟩
  case round =>
    obtain ⟨j, rfl, hj, hb⟩ := hrel
    by_cases hlt : j < n
    · have hltz : (j : Int) < (n : Int) := by omega
      obtain ⟨g, off, hpg, hg, _, _, e1⟩ := (H1.out.below hb.out (Nat.le_refl _)).at (i := j) (by rw [HN.out]; exact hlt)
      obtain ⟨g2, off2, hqg, hg2, _, _, e2⟩ := (H2.out.below hb.out (Nat.le_refl _)).at (i := j) (by rw [HN.out]; exact hlt)
      subst hpg hqg
      obtain ⟨⟨k, f⟩, hx⟩ : ∃ x, L.getD j kv0 = x := ⟨_, rfl⟩
      rw [hx] at e1 e2
      simp only at e1 e2
      have E1 := Lib.hid (show wr.drew.rangeAt g (off + j * 17) (ec k f).toList from e1)
      have E2 := Lib.hid (show wr.drew.rangeAt g2 (off2 + j * 17) (ec k f).toList from e2)
      have HBD : Hid (Below w.heap.size w wr.drew) := Lib.hid hb.out.drew
      have hnk := hnr k f
      clear hx hg hg2 e1 e2 hnr
      go_wp2_with fail
      refine wp_region_text (S := (fun w9 => w9 = wr.drew)) (by kernel_rfl) ?_ ?_
      · rfl
      repeat (first
        | (refine anyR_value (v := ?_) (by kernel_rfl) (by rfl) (fun _ _ _ h => h) (fun w1 hS => ?_) ?_
           rotate_left
           · (rw [hS]; refine ex_mid 58 ?ax ?ah g (off + j * 17) ?ay _ E1.out Try.underlying58 rfl (by kernel_rfl); (case ah => rfl); (case ay => rfl))
           simp only [Act.put, List.setIfInBounds_toArray, List.set_cons_zero, List.set_cons_succ])
        | (refine anyR_value (v := ?_) (by kernel_rfl) (by rfl) (fun _ _ _ h => h) (fun w1 hS => ?_) ?_
           rotate_left
           · (rw [hS]; refine ex_mid 58 ?dx ?dh g2 (off2 + j * 17) ?dy _ E2.out Try.underlying58 rfl (by kernel_rfl); (case dh => rfl); (case dy => rfl))
           simp only [Act.put, List.setIfInBounds_toArray, List.set_cons_zero, List.set_cons_succ])
        | (refine anyR_value (v := ?_) (by kernel_rfl) (by rfl) (fun _ _ _ h => h) (fun w1 hS => ?_) ?_
           rotate_left
           · rw [hS]
             go_simp
             with_reducible rfl
           simp only [Act.put, List.setIfInBounds_toArray, List.set_cons_zero, List.set_cons_succ])
        | (refine anyR_not (by kernel_rfl) (by rfl) (fun _ _ _ h => h) ?_
           simp only [Act.put, List.setIfInBounds_toArray, List.set_cons_zero, List.set_cons_succ])
        | (refine anyR_call (v := ?_) (f := ?_) (args := ?_) (by kernel_rfl) (by rfl) (fun _ _ _ h => h) (fun w1 hS => ?_) (fun w1 hS => ?_) ?_
           rotate_left 3
           · go_simp
             (try constructor) <;> with_reducible rfl
           · first
               | (fail)
           simp only [Act.put, List.setIfInBounds_toArray, List.set_cons_zero, List.set_cons_succ])
        | refine anyR_done (by kernel_rfl) (fun w1 hS => ?_))
      have e9 : w1 = wr.drew := hS
      subst e9
      clear hS
      go_wp2
      go_roundw
      case rel => exact ⟨j + 1, by go_num, hlt, HBD⟩
      case measure => simp [intOf]; omega
    · have e9 : j = n := by omega
      subst e9
      go_wp2
      go_ret
      exact ⟨rfl, hb.out⟩
end Go.Proofs.Ytbkbopaoeehfkaa
