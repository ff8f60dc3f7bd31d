/-
  THE PAGE OF LAYER 14 (fifo), part F: Find, Drop, Push, Cost, Same; items compared.
-/
import Derived.Test.YtcfmbdcklapmhaaFifoE
import Derived.Laws.AppendOwnNone
import Derived.Laws.StructEq
namespace Go.Proofs.Ytcfmbdcklapmhaa
open Go.RowKit Fq Ft Bt
set_option linter.unusedVariables false
namespace Fq
theorem part_i0 (x : It) (w : World) : (part 3 (ic x) 0).run Try.prog w = .ok (.int .i64 x.1) w := by kernel_rfl
theorem part_i1 (x : It) (w : World) : (part 3 (ic x) 1).run Try.prog w = .ok (.int .i64 x.2) w := by kernel_rfl
theorem list_twoF {α : Type} [Inhabited α] {l : List α} (h : l.length = 2) : l = [l[0]!, l[1]!] := by
  match l, h with
  | [a, b], _ => rfl
theorem item_fields : (Try.prog.fieldsOf 32).toList.length = 2 := by kernel_rfl
theorem item_f0 : ((Try.prog.fieldsOf 32).toList[0]!.name != "_") = true ∧ (Try.prog.fieldsOf 32).toList[0]!.type = 3 ∧ (Try.prog.fieldsOf 32).toList[0]!.offset = 0 := ⟨by kernel_rfl, by kernel_rfl, by kernel_rfl⟩
theorem item_f1 : ((Try.prog.fieldsOf 32).toList[1]!.name != "_") = true ∧ (Try.prog.fieldsOf 32).toList[1]!.type = 3 ∧ (Try.prog.fieldsOf 32).toList[1]!.offset = 1 := ⟨by kernel_rfl, by kernel_rfl, by kernel_rfl⟩
theorem item_under : Try.prog.underlying 32 = some (.struct (Try.prog.fieldsOf 32)) := by kernel_rfl
theorem item_stood : Try.prog.stoodInHeld 32 = false := by kernel_rfl
theorem item_two : ∃ f0 f1 : Field, (Try.prog.fieldsOf 32).toList = [f0, f1] ∧ f0.name ≠ "_" ∧ f0.type = 3 ∧ f0.offset = 0 ∧ f1.name ≠ "_" ∧ f1.type = 3 ∧ f1.offset = 1 :=
  ⟨_, _, list_twoF item_fields, bne_iff_ne.1 item_f0.1, item_f0.2.1, item_f0.2.2, bne_iff_ne.1 item_f1.1, item_f1.2.1, item_f1.2.2⟩
theorem eq_twoF {P : Program} {w : World} {D : Nat} {xs ys : Array Value} {f0 f1 : Field} {a0 b0 a1 b1 : Value} (m0 : f0.name ≠ "_") (m1 : f1.name ≠ "_") (pa0 : (part f0.type xs f0.offset).run P w = .ok a0 w) (pb0 : (part f0.type ys f0.offset).run P w = .ok b0 w) (pa1 : (part f1.type xs f1.offset).run P w = .ok a1 w) (pb1 : (part f1.type ys f1.offset).run P w = .ok b1 w)
    (h0 : (Op.equalIn D f0.type a0 b0).run P w = .ok true w) (h1 : (Op.equalIn D f1.type a1 b1).run P w = .ok true w) : (Op.eqFields D xs ys [f0, f1]).run P w = .ok true w := by
  simp [Op.eqFields, m0, m1, Sem.run_bind, pa0, pb0, pa1, pb1, h0, h1]
theorem eq_item_at (d : Nat) (x : It) (w : World) : (Op.equalIn (d + 1 + 1) 32 (.agg (ic x)) (.agg (ic x))).run Try.prog w = .ok true w := by
  obtain ⟨f0, f1, hl, m0, t0, o0, m1, t1, o1⟩ := item_two
  have hs : ∀ k : Int, (Op.equalIn (d + 1) 3 (.int .i64 k) (.int .i64 k)).run Try.prog w = .ok true w := fun k => by
    have h := run_equalIn_int (P := Try.prog) w d 3 .i64 .i64 k k Try.underlying3
    have hk : (k == k) = true := by simp
    rw [hk] at h
    exact h
  rw [run_equalIn_struct w (d + 1) 32 _ _ item_under item_stood, hl]
  exact eq_twoF m0 m1 (by rw [t0, o0]; exact part_i0 x w) (by rw [t0, o0]; exact part_i0 x w) (by rw [t1, o1]; exact part_i1 x w) (by rw [t1, o1]; exact part_i1 x w) (by rw [t0]; exact hs _) (by rw [t1]; exact hs _)
theorem binOp_neqF {P : Program} {w : World} {T : TypeId} {x y : Array Value} (h : (Op.equal T (.agg x) (.agg y)).run P w = .ok true w) : (binOp .neq T (.agg x) (.agg y)).run P w = .ok (.bool false) w := by
  simp only [binOp]
  simp [h]
/-- '!=' of two items that are the same -/
theorem neq_item (p q : Int) (w : World) : (binOp .neq 32 (.agg #[.int .i64 p, .int .i64 q]) (.agg #[.int .i64 p, .int .i64 q])).run Try.prog w = .ok (.bool false) w :=
  binOp_neqF (eq_item_at 9998 (p, q) w)
/-- a row that is read: where it lies, how long -/
structure IR (w : World) (p : Option Addr) (n cap : Nat) (L : List It) : Prop where
  hl : L.length = n
  hc : n ≤ cap
  h0 : p = none → n = 0 ∧ cap = 0
  ic : IC w p L
theorem IR.below {w w' : World} {p : Option Addr} {n cap : Nat} {L : List It} {B : Nat} (h : IR w p n cap L) (hb : Below B w w') (hB : w.heap.size ≤ B) : IR w' p n cap L := ⟨h.hl, h.hc, h.h0, h.ic.below hb hB⟩
theorem OwnI.read {w : World} {B : Nat} {p : Option Addr} {n cap : Nat} {L : List It} (h : OwnI w B (.slice p n cap) L) : IR w p n cap L := by
  obtain ⟨p9, c9, hv, h1, h2, h3⟩ := h.view
  injection hv with e1 e2 e3
  subst e1 e2 e3
  refine ⟨rfl, h1, fun e => ?_, h3⟩
  rcases h.2 with ⟨hv, h0⟩ | ⟨g, cap, cur, hv, _⟩
  · injection hv with _ e2 e3
    exact ⟨e2, e3⟩
  · injection hv with e1
    rw [e] at e1
    cases e1
theorem IC.cells {w : World} {g off : Nat} {L : List It} (h : IC w (some ⟨g, off, none⟩) L) (j : Nat) (u : Value) (hj : (icells L)[j]? = some u) : w.cell? ((⟨g, off, none⟩ : Addr).add j) = some u := by
  have hlt : j < L.length * 2 := by
    have := (List.getElem?_eq_some_iff.1 hj).1
    rw [icells_len] at this
    exact this
  have hadd : (⟨g, off, none⟩ : Addr).add j = ⟨g, off + j, none⟩ := by unfold Addr.add; split <;> simp_all
  rw [hadd]
  obtain ⟨i, hi⟩ : ∃ i, j / 2 = i := ⟨_, rfl⟩
  obtain ⟨g', off', h1, h2, h3, h4⟩ := h i (by omega)
  injection h1 with h1
  injection h1 with e1 e2
  subst e1 e2
  obtain ⟨q1, q2⟩ := icells_get L i (by omega)
  rcases Nat.mod_two_eq_zero_or_one j with e | e
  · have e3 : j = i * 2 := by omega
    rw [e3] at hj ⊢
    rw [h3, ← hj, q1]
  · have e3 : j = i * 2 + 1 := by omega
    rw [e3] at hj ⊢
    rw [← Nat.add_assoc, h4, ← hj, q2]
section
variable {ops : Array Oper} {rest : List Oper} {o : Oper} {a : Act} {Q : Exit → Act → World → Prop}
/-- append of a row that is read to one of the call's own -/
theorem wp_joinI (w : World) (hg : o.guard = none) (s x : Operand) (ho : o.op = .call { callee := .builtin .append, args := #[s, x], argTypes := #[26, 26] })
    (B : Nat) (v : Value) (l1 l2 : List It) (p : Option Addr) (n cap : Nat) (hs : a.eval s = v) (hx : a.eval x = .slice p n cap) (hv : OwnI w B v l1) (hu : IR w p n cap l2) (hlen : l1.length + l2.length ≤ 200000) (hB : B ≤ w.heap.size)
    (hQ : ∀ v' w', OwnI w' B v' (l1 ++ l2) → w.grownBy w' v.ownBlock → wpList Try.prog ops Q rest (a.put o.dst v') w') : wpList Try.prog ops Q (o :: rest) a w := by
  obtain ⟨i0, hinf, hz0, hz1, hz2⟩ := info_parts info_I
  have hl := hu.hl
  cases p with
  | none =>
    obtain ⟨e1, e2⟩ := hu.h0 rfl
    rw [e1, e2] at hx
    have hl2 : l2 = [] := List.eq_nil_of_length_eq_zero (by omega)
    subst hl2
    rw [List.append_nil] at hQ
    exact wpList_append_own_none hg s x 26 ho B 32 i0 2 Try.underlying26 hinf v l1.length (icells l1) hs hv hx (hQ v w hv ⟨rfl, rfl, rfl, Nat.le_refl _, fun _ _ _ => rfl⟩)
  | some ad =>
    refine wpList_append_own w hg s x 26 ho B 32 i0 zI 2 16 Try.underlying26 hinf hz0 hz1 hz2 rfl (by decide) v l1.length (icells l1) hs hv ad n cap (icells l2) hx (by rw [icells_len, hl]) (fun j u' hj => ?_) (fun u hu => ?_) (by unfold maxLen; omega) (by omega) hB (fun v' w' h1 h2 _ => hQ v' w' ?_ h2)
    · cases l2 with
      | nil => simp [icells] at hj
      | cons y l =>
        obtain ⟨g, off, hp, _⟩ := hu.ic 0 (by simp)
        injection hp with hp
        subst hp
        exact IC.cells hu.ic j u' hj
    · unfold icells at hu
      rw [List.mem_flatMap] at hu
      obtain ⟨y, _, hy⟩ := hu
      exact ione _ _ u hy
    · unfold OwnI
      rw [icells_app, List.length_append, hl]
      exact h1
end
/-- the place of an ID; -1: none -/
def pz : Option Nat → Int
  | none => -1
  | some j => j
theorem omap (o : Option Nat) (j : Nat) : (o.map (· + 1)).map (· + j) = o.map (· + (j + 1)) := by
  cases o with
  | none => rfl
  | some a => simp only [Option.map_some]; congr 1; omega
theorem drp_take {L : List It} {i : Nat} (h : i < L.length) (k : Int) : drp (L.take (i + 1)) k = if (L.getD i it0).1 = k then drp (L.take i) k else drp (L.take i) k ++ [L.getD i it0] := by
  rw [itake h, drp_app, drp_cons]
  by_cases e : (L.getD i it0).1 = k
  · rw [if_pos e, if_pos e]
    show drp (L.take i) k ++ [] = _
    rw [List.append_nil]
  · rw [if_neg e, if_neg e]
    rfl
end Fq
set_option maxHeartbeats 1000000 in
theorem rf_find (p : Option Addr) (n cap : Nat) (L : List It) (k : Int) (w : World) (hn2 : n ≤ 100000) (h : IR w p n cap L) :
    Calls Try.prog 12 #[.slice p n cap, .int .i64 k] w fun e w' => e = .returned (.int .i64 (pz (ix L k))) ∧ w' = w := by
  obtain ⟨R, hR⟩ : ∃ R, ix L k = R := ⟨_, rfl⟩
  have HR : Hid ((ix (L.drop 0) k).map (· + 0) = R) := Lib.hid (by rw [List.drop_zero, hR]; cases R <;> rfl)
  rw [hR]
  have HN := Lib.hid h.hl
  have HT := Lib.hid h.ic
  clear hR h
  go_enter Try.func12, Try.ntmps12
  go_wp2
  go_loopw [5] (fun c wr => ∃ j : Nat, c = .int .i64 j ∧ j ≤ n ∧ Hid ((ix (L.drop j) k).map (· + j) = R) ∧ w = wr) (fun c _ => n - (intOf c).toNat)
  case atStart => exact ⟨0, rfl, Nat.zero_le _, HR, rfl⟩
  case round =>
    obtain ⟨j, rfl, hj, hr, rfl⟩ := hrel
    by_cases hlt : j < n
    · obtain ⟨g, off, rfl, hg, hx0, hx1⟩ := HT.out j (by rw [HN.out]; exact hlt)
      have hd := ix_drop (L := L) (j := j) (by rw [HN.out]; exact hlt) k
      obtain ⟨⟨q1, q2⟩, hq⟩ : ∃ q, L.getD j it0 = q := ⟨_, rfl⟩
      rw [hq] at hx0 hd
      simp only at hx0 hd
      have hltz : (j : Int) < (n : Int) := by omega
      have HRR := hr.out
      rw [hd] at HRR
      by_cases e1 : q1 = k
      · rw [if_pos e1] at HRR
        have HF : Hid (R = some j) := Lib.hid (by rw [← HRR]; simp)
        have hb1 : (q1 == k) = true := by simpa using e1
        clear hd hq hr hx1 HRR e1 hg
        go_wp2
        go_ret
        exact ⟨by rw [HF.out]; rfl, rfl⟩
      · rw [if_neg e1, omap] at HRR
        have HI := Lib.hid HRR
        have hb1 : (q1 == k) = false := by simpa using e1
        clear hd hq hr hx1 HRR e1 hg
        go_wp2
        go_roundw
        case rel => exact ⟨j + 1, by go_num, hlt, HI, trivial⟩
        case measure => simp [intOf]; omega
    · have e1 : j = n := by omega
      subst e1
      have HF : Hid (R = none) := Lib.hid (by rw [← hr.out, List.drop_of_length_le (by rw [HN.out]; exact Nat.le_refl _)]; rfl)
      clear hr
      go_wp2
      go_ret
      exact ⟨by rw [HF.out]; rfl, rfl⟩
set_option maxHeartbeats 1000000 in
theorem rf_cost (p : Option Addr) (n cap : Nat) (L : List It) (w : World) (hn2 : n ≤ 100000) (h : IR w p n cap L) (hok : ∀ x ∈ L, Okk x) :
    Calls Try.prog 19 #[.slice p n cap] w fun e w' => e = .returned (.int .i64 (cst L)) ∧ w' = w := by
  have HOK := Lib.hid hok
  have HN := Lib.hid h.hl
  have HT := Lib.hid h.ic
  clear h hok
  go_enter Try.func19, Try.ntmps19
  go_wp2
  go_loopw [3, 4] (fun s c wr => ∃ (j : Nat) (z : Int), s = .int .i64 z ∧ c = .int .i64 j ∧ j ≤ n ∧ Hid (z = cst (L.take j)) ∧ w = wr) (fun _ c _ => n - (intOf c).toNat)
  case atStart => exact ⟨0, 0, rfl, rfl, Nat.zero_le _, Lib.hid rfl, rfl⟩
  case round =>
    obtain ⟨j, z, rfl, rfl, hj, hr, rfl⟩ := hrel
    by_cases hlt : j < n
    · obtain ⟨g, off, rfl, hg, hx0, hx1⟩ := HT.out j (by rw [HN.out]; exact hlt)
      have hct := cst_take (L := L) (j := j) (by rw [HN.out]; exact hlt)
      obtain ⟨⟨q1, q2⟩, hq⟩ : ∃ q, L.getD j it0 = q := ⟨_, rfl⟩
      rw [hq] at hx1 hct
      simp only at hx1 hct
      have hltz : (j : Int) < (n : Int) := by omega
      have hbd := cst_bound (L := L.take (j + 1)) (fun x hx => HOK.out x (List.mem_of_mem_take hx))
      have hl2 : (L.take (j + 1)).length ≤ 100000 := by rw [List.length_take, HN.out]; omega
      obtain ⟨z2, hz2⟩ : ∃ z2, z + q2 = z2 := ⟨_, rfl⟩
      have hwr : IntKind.i64.wrap (z + q2) = z2 := by
        rw [hct, ← hr.out, hz2] at hbd
        rw [IntKind.wrap_i64]
        omega
      have HI : Hid (z2 = cst (L.take (j + 1))) := Lib.hid (by rw [hct, ← hr.out, hz2])
      clear hct hq hr hx0 hbd hl2 hz2 hg
      go_wp2
      go_roundw
      case rel => exact ⟨j + 1, z2, by first | rfl | (rw [hwr]), by go_num, hlt, HI, trivial⟩
      case measure => simp [intOf]; omega
    · have e1 : j = n := by omega
      subst e1
      have HF : Hid (z = cst L) := Lib.hid (by rw [hr.out, List.take_of_length_le (by rw [HN.out]; exact Nat.le_refl _)])
      clear hr
      go_wp2
      go_ret
      exact ⟨congrArg (fun x => Ending.returned (Value.int .i64 x)) HF.out, rfl⟩
set_option maxHeartbeats 1000000 in
theorem rf_drop (p : Option Addr) (n cap : Nat) (L : List It) (k : Int) (w : World) (hn2 : n ≤ 100000) (h : IR w p n cap L) :
    Calls Try.prog 13 #[.slice p n cap, .int .i64 k] w (Rowi w (drp L k)) := by
  obtain ⟨i0, hinf, hz0, hz1, hz2⟩ := info_parts info_I
  have HI := Lib.hid hinf
  have HZ0 := Lib.hid hz0
  have HZ1 := Lib.hid hz1
  have HZ2 := Lib.hid hz2
  obtain ⟨W2, hW2⟩ : ∃ W2, w.alloc (.cells #[] 32) = W2 := ⟨_, rfl⟩
  have hb12 : Below w.heap.size w W2 := by rw [← hW2]; exact (Below.refl _ _).alloc (Nat.le_refl _) _
  have hown0 : Hid (OwnI W2 w.heap.size (.slice (some ⟨w.heap.size, 0, none⟩) 0 0) []) := Lib.hid (by
    rw [← hW2]
    exact World.ownsRow_made w #[] 0 (Nat.le_refl _) (by decide) rfl)
  have HB12 := Lib.hid hb12
  have HT := Lib.hid h.ic
  have HN := Lib.hid h.hl
  clear hinf hz0 hz1 hz2 h hb12
  go_enter Try.func13, Try.ntmps13
  go_wp2
  go_loopw [5, 6] (fun l i wr => ∃ j : Nat, i = .int .i64 j ∧ j ≤ n ∧ Hid (OwnI wr w.heap.size l (drp (L.take j) k)) ∧ Hid (Below w.heap.size w wr)) (fun _ i _ => n - (intOf i).toNat)
  case atStart => exact ⟨0, rfl, Nat.zero_le _, hown0, HB12⟩
  case round =>
    obtain ⟨j, rfl, hj, ho, hb⟩ := hrel
    by_cases hlt : j < n
    · obtain ⟨g, off, rfl, hg, hx0, hx1⟩ := (HT.out.below hb.out (Nat.le_refl _)) j (by rw [HN.out]; exact hlt)
      have hd := drp_take (L := L) (i := j) (by rw [HN.out]; exact hlt) k
      obtain ⟨⟨q1, q2⟩, hq⟩ : ∃ q, L.getD j it0 = q := ⟨_, rfl⟩
      rw [hq] at hx0 hx1 hd
      simp only at hx0 hx1 hd
      have hltz : (j : Int) < (n : Int) := by omega
      by_cases e : q1 = k
      · rw [if_pos e] at hd
        have HO : Hid (OwnI wr w.heap.size u5 (drp (L.take (j + 1)) k)) := Lib.hid (by rw [hd]; exact ho.out)
        have hneq : (q1 != k) = false := by simpa using e
        clear hd hq ho e hg
        go_wp2
        go_roundw
        case rel => exact ⟨j + 1, by go_num, hlt, HO, hb⟩
        case measure => simp [intOf]; omega
      · rw [if_neg e] at hd
        have hneq : (q1 != k) = true := by rw [bne_iff_ne]; exact e
        have hown := ho.out
        have hle : (drp (L.take j) k).length ≤ n := by
          have h1 := drp_le (L.take j) k
          rw [List.length_take] at h1
          omega
        obtain ⟨l, hl⟩ : ∃ l, (drp (L.take j) k).length = l := ⟨_, rfl⟩
        have HM := Lib.hid hl
        have HD := Lib.hid hd
        have hsz := hb.out.size
        unfold OwnI at hown
        rw [hl] at hle
        rw [hl] at hown
        clear hd hq hl e hg
        go_wp2_with (at_builtin; refine wpList_append_own _ rfl _ _ 26 rfl w.heap.size 32 i0 zI 2 16 Try.underlying26 HI.out HZ0.out HZ1.out HZ2.out rfl (by decide) _ _ _ rfl (World.ownsRow.alloc hown _) ⟨wr.heap.size, 0, none⟩ 1 1 [.int .i64 q1, .int .i64 q2] rfl rfl (icells2 wr _ _ _) (ione _ _) (by unfold maxLen; omega) (by omega) (by simp; omega) ?_)
        intro v3 w3 hown3 hgrow hnil
        have HO : Hid (OwnI w3 w.heap.size v3 (drp (L.take (j + 1)) k)) := Lib.hid (by
          unfold OwnI
          rw [HD.out, icells_app, List.length_append, HM.out]
          exact hown3)
        have HB3 := Lib.hid ((hb.out.alloc hb.out.size _).grown hgrow (by simp; omega) (fun x e => (ho.out.kind e).1))
        clear hown3 hgrow hnil hown hx0 hx1
        go_wp2
        go_roundw
        case rel => exact ⟨j + 1, by go_num, hlt, HO, HB3⟩
        case measure => simp [intOf]; omega
    · have e1 : j = n := by omega
      subst e1
      have HF : Hid (Rowi w (drp L k) (.returned u5) wr) := Lib.hid (by
        have h1 := ho.out
        rw [List.take_of_length_le (by rw [HN.out]; exact Nat.le_refl _)] at h1
        obtain ⟨p9, c9, hv9, hc9, _⟩ := OwnI.view h1
        rw [hv9] at h1
        exact ⟨p9, _, c9, by rw [hv9], rfl, hc9, h1, hb.out⟩)
      clear ho hb
      go_wp2
      go_ret
      exact HF.out
/-- a row and a code -/
def Fq.Pushed (w : World) (L : List It) (c : Int) (e : Ending) (w' : World) : Prop := ∃ p n cap, e = .returned (.tuple #[.slice p n cap, .int .i64 c]) ∧ IR w' p n cap L ∧ Below w.heap.size w w'
set_option maxHeartbeats 1000000 in
theorem rf_push (p : Option Addr) (n cap : Nat) (L : List It) (x : It) (w : World) (hn2 : n ≤ 100000) (h : IR w p n cap L) :
    Calls Try.prog 7 #[.slice p n cap, .agg #[.int .i64 x.1, .int .i64 x.2]] w (Pushed w (pu L x) (pe L x)) := by
  obtain ⟨k, q⟩ := x
  obtain ⟨W1, hW1⟩ : ∃ W, w.alloc (.cells #[.int .i64 k, .int .i64 q] 32) = W := ⟨_, rfl⟩
  have hb1 : Below w.heap.size w W1 := by rw [← hW1]; exact (Below.refl _ _).alloc (Nat.le_refl _) _
  have hib : IB W1 w.heap.size (k, q) := by rw [← hW1]; exact IB.made w (k, q)
  obtain ⟨c0, c1⟩ := hib.cells
  simp only at c0 c1
  have h1 := h.below hb1 (Nat.le_refl _)
  have HFI := Lib.hid (rf_find p n cap L k W1 hn2 h1)
  have hbad : k < 1 ∨ q < 1 ∨ 64 < q → Hid (pe L (k, q) = 1 ∧ Pushed w (pu L (k, q)) 1 (.returned (.tuple #[.slice p n cap, .int .i64 1])) W1) := fun e => Lib.hid (by
    unfold pe pu
    simp only
    rw [if_pos e, if_pos e]
    exact ⟨rfl, p, n, cap, rfl, h1, hb1⟩)
  unfold Pushed at hbad
  by_cases e1 : k < 1
  · have HR := hbad (Or.inl e1)
    rw [HR.out.1]
    clear hbad HFI h h1 hb1 hib
    go_enter Try.func7, Try.ntmps7
    go_wp2
    go_ret2
    exact HR.out.2
  · by_cases e2 : q < 1
    · have HR := hbad (Or.inr (Or.inl e2))
      rw [HR.out.1]
      clear hbad HFI h h1 hb1 hib
      go_enter Try.func7, Try.ntmps7
      go_wp2
      go_ret2
      exact HR.out.2
    · by_cases e3 : 64 < q
      · have HR := hbad (Or.inr (Or.inr e3))
        rw [HR.out.1]
        clear hbad HFI h h1 hb1 hib
        go_enter Try.func7, Try.ntmps7
        go_wp2
        go_ret2
        exact HR.out.2
      · have hfx := fd_ix L k
        have hno : ¬ (k < 1 ∨ q < 1 ∨ 64 < q) := by omega
        cases hp : ix L k with
        | some j =>
          rw [hp] at HFI hfx
          have HR : Hid (pe L (k, q) = 8 ∧ Pushed w (pu L (k, q)) 8 (.returned (.tuple #[.slice p n cap, .int .i64 8])) W1) := Lib.hid (by
            unfold pe pu
            simp only
            rw [if_neg hno, if_neg hno, hfx]
            exact ⟨rfl, p, n, cap, rfl, h1, hb1⟩)
          have hj0 : (0 : Int) ≤ (j : Int) := by omega
          rw [HR.out.1]
          unfold pz at HFI
          clear hbad h h1 hb1 hib hfx hp hno
          go_enter Try.func7, Try.ntmps7
          go_wp2_with (go_at_call 12; with_reducible refine HFI.out.mono ?_; rintro e w' ⟨rfl, hw⟩; rw [hw]; clear hw)
          go_ret2
          exact HR.out.2
        | none =>
          rw [hp] at HFI hfx
          unfold pz at HFI
          have HPU : Hid (pe L (k, q) = 0 ∧ pu L (k, q) = L ++ [(k, q)]) := Lib.hid (by
            unfold pe pu
            simp only
            rw [if_neg hno, if_neg hno, hfx]
            exact ⟨rfl, rfl⟩)
          rw [HPU.out.1, HPU.out.2]
          obtain ⟨i0, hinf, hz0, hz1, hz2⟩ := info_parts info_I
          have HI := Lib.hid hinf
          have HZ0 := Lib.hid hz0
          have HZ1 := Lib.hid hz1
          have HZ2 := Lib.hid hz2
          obtain ⟨W2, hW2⟩ : ∃ W, W1.alloc (.cells #[] 32) = W := ⟨_, rfl⟩
          have hb2 : Below W1.heap.size W1 W2 := by rw [← hW2]; exact (Below.refl _ _).alloc (Nat.le_refl _) _
          have hown0 : OwnI W2 W1.heap.size (.slice (some ⟨W1.heap.size, 0, none⟩) 0 0) [] := by
            rw [← hW2]
            exact World.ownsRow_made W1 #[] 0 (Nat.le_refl _) (by decide) rfl
          have hr2 := h1.below hb2 (Nat.le_refl _)
          have hb02 := below_next hb1 hb2
          have hs1 := hb1.size
          have hs2 := hb2.size
          have hln : ([] : List It).length + L.length ≤ 200000 := by rw [h.hl]; simp; omega
          have hi2 : IB W2 w.heap.size (k, q) := hib.below hb2
          have HLn := Lib.hid h.hl
          clear hbad h h1 hb1 hib hfx hp hno hinf hz0 hz1 hz2 hb2
          go_enter Try.func7, Try.ntmps7
          go_wp2_with (first
            | (go_at_call 12; with_reducible refine HFI.out.mono ?_; rintro e w' ⟨rfl, hw⟩; rw [hw]; clear hw)
            | (at_builtin; refine wp_joinI _ rfl _ _ rfl W1.heap.size _ [] L p n cap rfl rfl hown0 hr2 hln hs2 ?_))
          intro v3 w3 hown3 hgrow3
          have hb3 : Below w.heap.size w w3 := hb02.grown hgrow3 (by omega) (fun g e => by
            have e2 : W1.heap.size = g := by simpa [Value.ownBlock] using e
            omega)
          have hi3 : IB w3 w.heap.size (k, q) := hi2.block (hgrow3.block _ (by have := hi2.lt; omega) (fun e => by
            have e2 : W1.heap.size = w.heap.size := by simpa [Value.ownBlock] using e.symm
            have := hi2.lt
            have e3 : W1.heap.size = w.heap.size + 1 := by rw [← hW1]; simp
            omega))
          obtain ⟨d0, d1⟩ := hi3.cells
          simp only at d0 d1
          have hsz3 : W1.heap.size ≤ w3.heap.size := Nat.le_trans hs2 hgrow3.size
          have hown3' := hown3
          unfold OwnI at hown3
          rw [HLn.out] at hown3
          have HO3 := Lib.hid hown3'
          have HB3 := Lib.hid hb3
          clear hown3' hgrow3 hown0 hr2 hb02 hi2 hi3 hb3 c0 c1
          go_wp2_with (at_builtin; refine wpList_append_own _ rfl _ _ 26 rfl W1.heap.size 32 i0 zI 2 16 Try.underlying26 HI.out HZ0.out HZ1.out HZ2.out rfl (by decide) _ _ _ rfl (World.ownsRow.alloc hown3 _) ⟨w3.heap.size, 0, none⟩ 1 1 [.int .i64 k, .int .i64 q] rfl rfl (icells2 w3 _ _ _) (ione _ _) (by unfold maxLen; omega) (by omega) (by simp; omega) ?_)
          intro v4 w4 hown4 hgrow4 hnil
          have ho4 : OwnI w4 W1.heap.size v4 (L ++ [(k, q)]) := by
            unfold OwnI
            rw [icells_app, List.length_append, HLn.out]
            exact hown4
          obtain ⟨p4, c4, hv4, _⟩ := ho4.view
          subst hv4
          have HFIN : Hid (Pushed w (L ++ [(k, q)]) 0 (.returned (.tuple #[.slice p4 (L ++ [(k, q)]).length c4, .int .i64 0])) w4) := Lib.hid ⟨p4, _, c4, rfl, ho4.read, (HB3.out.alloc HB3.out.size _).grown hgrow4 (by simp; omega) (fun g e => by have := (HO3.out.kind e).1; omega)⟩
          clear hown4 hgrow4 hnil ho4 hown3
          go_wp2
          go_ret2
          exact HFIN.out
set_option maxHeartbeats 1000000 in
theorem rf_same (p q : Option Addr) (n c1 c2 : Nat) (L : List It) (w : World) (hn2 : n ≤ 100000) (h1 : IR w p n c1 L) (h2 : IR w q n c2 L) :
    Calls Try.prog 15 #[.slice p n c1, .slice q n c2] w fun e w' => e = .returned (.bool true) ∧ Below w.heap.size w w' := by
  have HN := Lib.hid h1.hl
  have H1 := Lib.hid h1.ic
  have H2 := Lib.hid h2.ic
  have hnn : ((n : Int) != (n : Int)) = false := by simp
  have hnr := neq_item
  clear h1 h2
  go_enter Try.func15, Try.ntmps15
  go_wp2
  go_loopw [5] (fun i wr => ∃ j : Nat, i = .int .i64 j ∧ j ≤ n ∧ Hid (Below w.heap.size w wr)) (fun i _ => n - (intOf i).toNat)
  case atStart => exact ⟨0, rfl, Nat.zero_le _, Lib.hid (Below.refl _ _)⟩
  case round =>
    obtain ⟨j, rfl, hj, hb⟩ := hrel
    by_cases hlt : j < n
    · have hltz : (j : Int) < (n : Int) := by omega
      obtain ⟨g, off, hpg, hg, x0, x1⟩ := (H1.out.below hb.out (Nat.le_refl _)) j (by rw [HN.out]; exact hlt)
      obtain ⟨g2, off2, hqg, hg2, y0, y1⟩ := (H2.out.below hb.out (Nat.le_refl _)) j (by rw [HN.out]; exact hlt)
      subst hpg hqg
      obtain ⟨⟨k, f⟩, hx⟩ : ∃ x, L.getD j it0 = x := ⟨_, rfl⟩
      rw [hx] at x0 x1 y0 y1
      simp only at x0 x1 y0 y1
      have HBD : Hid (Below w.heap.size w wr.drew) := Lib.hid hb.out.drew
      have hnk := hnr k f
      have x0' : wr.drew.cell? ⟨g, off + j * 2, none⟩ = some (.int .i64 k) := x0
      have x1' : wr.drew.cell? ⟨g, off + j * 2 + 1, none⟩ = some (.int .i64 f) := x1
      have y0' : wr.drew.cell? ⟨g2, off2 + j * 2, none⟩ = some (.int .i64 k) := y0
      have y1' : wr.drew.cell? ⟨g2, off2 + j * 2 + 1, none⟩ = some (.int .i64 f) := y1
      clear hx hg hg2 x0 x1 y0 y1 hnr
      go_wp2_with fail
      refine wp_region_text (S := (fun w9 => w9 = wr.drew)) (by kernel_rfl) ?_ ?_
      · rfl
      repeat (first
        | (refine anyR_value (v := ?_) (by kernel_rfl) (by rfl) (fun _ _ _ h => h) (fun w1 hS => ?_) ?_
           rotate_left
           · rw [hS]
             go_simp
             with_reducible rfl
           simp only [Act.put, List.setIfInBounds_toArray, List.set_cons_zero, List.set_cons_succ])
        | (refine anyR_not (by kernel_rfl) (by rfl) (fun _ _ _ h => h) ?_
           simp only [Act.put, List.setIfInBounds_toArray, List.set_cons_zero, List.set_cons_succ])
        | (refine anyR_call (v := ?_) (f := ?_) (args := ?_) (by kernel_rfl) (by rfl) (fun _ _ _ h => h) (fun w1 hS => ?_) (fun w1 hS => ?_) ?_
           rotate_left 3
           · go_simp
             (try constructor) <;> with_reducible rfl
           · first
               | (fail)
           simp only [Act.put, List.setIfInBounds_toArray, List.set_cons_zero, List.set_cons_succ])
        | refine anyR_done (by kernel_rfl) (fun w1 hS => ?_))
      have e9 : w1 = wr.drew := hS
      subst e9
      clear hS
      go_wp2
      go_roundw
      case rel => exact ⟨j + 1, by go_num, hlt, HBD⟩
      case measure => simp [intOf]; omega
    · have e9 : j = n := by omega
      subst e9
      go_wp2
      go_ret
      exact ⟨rfl, hb.out⟩
end Go.Proofs.Ytcfmbdcklapmhaa
