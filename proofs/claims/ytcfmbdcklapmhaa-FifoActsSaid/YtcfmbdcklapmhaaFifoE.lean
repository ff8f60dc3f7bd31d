/-
  CONTRACTS OF LAYER 14 (fifo), part E: rows of items; All.
-/
import Derived.Test.YtcfmbdcklapmhaaFifoB
import Derived.LaidEqlPtr
import Derived.Maps.AppendAt
import Derived.Lib.SlicesS
namespace Go.Proofs.Ytcfmbdcklapmhaa
open Go.RowKit Fq Ft Bt
set_option linter.unusedVariables false
namespace Fq
theorem run_neq_same {P : Program} (w : World) {tp te : TypeId} {j : TypeInfo} (a : Addr) (hp : P.underlying tp = some (.pointer te)) (hte : P.info? te = some j) :
    (binOp .neq tp (.pointer (some a)) (.pointer (some a))).run P w = .ok (.bool false) w := by
  have h : ∀ d : Nat, (Op.equalIn (d + 1) tp (.pointer (some a)) (.pointer (some a))).run P w = .ok true w := fun d => by
    simp [Op.equalIn, run_underlying hp, sizeOf, typeInfo, hte, run_sameAddr_same]
  simp only [binOp]
  simp [Op.equal, Op.maxDepth, h 9999]
theorem run_neq_other {P : Program} (w : World) {tp te : TypeId} {j : TypeInfo} {a b : Addr} {ca cb : Array Value} {ta tb : TypeId} (hp : P.underlying tp = some (.pointer te)) (hte : P.info? te = some j) (hsz : j.size ≠ 0)
    (hne : a ≠ b) (ha : w.heap[a.block]? = some (.cells ca ta (0, 0))) (hb : w.heap[b.block]? = some (.cells cb tb (0, 0))) :
    (binOp .neq tp (.pointer (some a)) (.pointer (some b))).run P w = .ok (.bool true) w := by
  have h : ∀ d : Nat, (Op.equalIn (d + 1) tp (.pointer (some a)) (.pointer (some b))).run P w = .ok false w := fun d => by
    simp [Op.equalIn, run_underlying hp, sizeOf, typeInfo, hte, hsz, run_sameAddr_other w hne ha hb]
  simp only [binOp]
  simp [Op.equal, Op.maxDepth, h 9999]
theorem info_flink : (Try.prog.info? 50).map (·.size) = some 4 := by kernel_rfl
theorem neq_same (x : Nat) (w : World) : (binOp .neq 48 (.pointer (some ⟨x, 0, none⟩)) (.pointer (some ⟨x, 0, none⟩))).run Try.prog w = .ok (.bool false) w := by
  obtain ⟨j, hj, _⟩ := Option.map_eq_some_iff.1 info_flink
  exact run_neq_same w _ Try.underlying48 hj
theorem neq_other {w : World} {x y : Nat} (hx : Kd w x 50) (hy : Kd w y 50) (hne : x ≠ y) : (binOp .neq 48 (.pointer (some ⟨x, 0, none⟩)) (.pointer (some ⟨y, 0, none⟩))).run Try.prog w = .ok (.bool true) w := by
  obtain ⟨j, hj, hs⟩ := Option.map_eq_some_iff.1 info_flink
  obtain ⟨c1, h1⟩ := hx
  obtain ⟨c2, h2⟩ := hy
  exact run_neq_other w (a := ⟨x, 0, none⟩) (b := ⟨y, 0, none⟩) Try.underlying48 hj (by omega) (fun e => hne (by injection e)) h1 h2
def zI : Value := .agg #[.int .i64 0, .int .i64 0]
theorem info_I : (Try.prog.info? 32).map (fun i => (i.zero, i.size, i.bytes)) = some (some zI, 2, 16) := by kernel_rfl
def icells (l : List It) : List Value := l.flatMap fun x => [.int .i64 x.1, .int .i64 x.2]
theorem icells_len (l : List It) : (icells l).length = l.length * 2 := by
  induction l with
  | nil => rfl
  | cons x l ih =>
    show ([_, _] ++ icells l).length = _
    rw [List.length_append, ih]
    simp only [List.length_cons, List.length_nil]
    omega
theorem icells_app (a b : List It) : icells (a ++ b) = icells a ++ icells b := List.flatMap_append
theorem icells_get : ∀ (l : List It) (i : Nat), i < l.length → (icells l)[i * 2]? = some (.int .i64 (l.getD i it0).1) ∧ (icells l)[i * 2 + 1]? = some (.int .i64 (l.getD i it0).2)
  | [], i, h => by simp at h
  | x :: l, 0, _ => ⟨rfl, rfl⟩
  | x :: l, i + 1, h => by
    have ih := icells_get l i (by simpa using h)
    have e1 : (i + 1) * 2 = i * 2 + 2 := by omega
    rw [e1]
    exact ih
/-- v is a row of these items, from block B on -/
def OwnI (w : World) (B : Nat) (v : Value) (l : List It) : Prop := w.ownsRow B 32 2 v l.length (icells l)
theorem OwnI.nil (w : World) (B : Nat) : OwnI w B (.slice none 0 0) [] := World.ownsRow_nil w B _ _
theorem OwnI.block {w w' : World} {B : Nat} {v : Value} {l : List It} (h : OwnI w B v l) (hb : ∀ g, v.ownBlock = some g → w'.heap[g]? = w.heap[g]?) : OwnI w' B v l := by
  refine ⟨h.1, ?_⟩
  rcases h.2 with hn | ⟨g, cap, cur, rfl, h1, h2, rest⟩
  · exact .inl hn
  · exact .inr ⟨g, cap, cur, rfl, h1, by rw [hb g rfl]; exact h2, rest⟩
theorem OwnI.kind {w : World} {B : Nat} {v : Value} {l : List It} (h : OwnI w B v l) {g : Nat} (hg : v.ownBlock = some g) : B ≤ g ∧ g < w.heap.size ∧ Kd w g 32 := by
  have h1 := h.lt g hg
  rcases h.2 with ⟨rfl, _⟩ | ⟨g', cap, cur, rfl, h2, h3, _⟩
  · cases hg
  · have e : g' = g := by
      have := hg
      simp only [Value.ownBlock] at this
      injection this
    subst e
    exact ⟨h1.1, h1.2, _, h3⟩
theorem OwnI.mono {w : World} {B B' : Nat} {v : Value} {l : List It} (h : OwnI w B v l) (hb : B' ≤ B) : OwnI w B' v l := by
  refine ⟨h.1, ?_⟩
  rcases h.2 with hn | ⟨g, cap, cur, rfl, h1, rest⟩
  · exact .inl hn
  · exact .inr ⟨g, cap, cur, rfl, Nat.le_trans hb h1, rest⟩
theorem OwnI.below {w w' : World} {B : Nat} {v : Value} {l : List It} (h : OwnI w B v l) (hb : Below w.heap.size w w') : OwnI w' B v l := h.block (fun g hg => hb.block g (h.kind hg).2.1)
/-- a slice at p holds these items, wherever it begins -/
def IC (w : World) (p : Option Addr) (l : List It) : Prop := ∀ i, i < l.length → ∃ g off, p = some ⟨g, off, none⟩ ∧ Kd w g 32 ∧ w.cell? ⟨g, off + i * 2, none⟩ = some (.int .i64 (l.getD i it0).1) ∧ w.cell? ⟨g, off + i * 2 + 1, none⟩ = some (.int .i64 (l.getD i it0).2)
theorem IC.nil (w : World) (p : Option Addr) : IC w p [] := fun i hi => by simp at hi
theorem IC.blocks {w w' : World} {p : Option Addr} {l : List It} (h : IC w p l) (hb : ∀ g, Kd w g 32 → w'.heap[g]? = w.heap[g]?) : IC w' p l := fun i hi => by
  obtain ⟨g, off, h1, h2, h3, h4⟩ := h i hi
  have e := hb g h2
  exact ⟨g, off, h1, h2.block e, by rw [World.cell?_of_block e]; exact h3, by rw [World.cell?_of_block e]; exact h4⟩
theorem IC.below {w w' : World} {p : Option Addr} {l : List It} {B : Nat} (h : IC w p l) (hb : Below B w w') (hB : w.heap.size ≤ B) : IC w' p l := h.blocks fun g hg => hb.block g (Nat.lt_of_lt_of_le hg.lt hB)
theorem IC.tail {w : World} {g off : Nat} {x : It} {l : List It} (h : IC w (some ⟨g, off, none⟩) (x :: l)) : IC w (some ⟨g, off + 2, none⟩) l := fun i hi => by
  obtain ⟨g', off', h1, h2, h3, h4⟩ := h (i + 1) (by simpa using hi)
  injection h1 with h1
  injection h1 with e1 e2
  subst e1 e2
  have e3 : off + 2 + i * 2 = off + (i + 1) * 2 := by omega
  exact ⟨g, off + 2, rfl, h2, by rw [e3]; exact h3, by rw [e3]; exact h4⟩
theorem OwnI.view {w : World} {B : Nat} {v : Value} {l : List It} (h : OwnI w B v l) : ∃ p cap, v = .slice p l.length cap ∧ l.length ≤ cap ∧ l.length ≤ maxLen ∧ IC w p l := by
  rcases h.2 with ⟨rfl, h0⟩ | ⟨g, cap, cur, rfl, hbg, hgg, hle, hmx, hcs, htk⟩
  · exact ⟨none, 0, by rw [h0], by omega, by omega, fun i hi => by omega⟩
  · refine ⟨some ⟨g, 0, none⟩, cap, rfl, hle, by omega, fun i hi => ⟨g, 0, rfl, ⟨_, hgg⟩, ?_⟩⟩
    have hcell : ∀ j, j < l.length * 2 → w.cell? ⟨g, j, none⟩ = (icells l)[j]? := fun j hj => by
      simp only [World.cell?, hgg]
      rw [← htk, List.getElem?_take, if_pos hj, Array.getElem?_toList]
      rfl
    obtain ⟨h1, h2⟩ := icells_get l i hi
    rw [Nat.zero_add]
    exact ⟨(hcell _ (by omega)).trans h1, (hcell _ (by omega)).trans h2⟩
theorem icells2 (w : World) (k v : Int) (ty : TypeId) : ∀ (j : Nat) (u : Value), [Value.int .i64 k, .int .i64 v][j]? = some u → (w.alloc (.cells #[.int .i64 k, .int .i64 v] ty)).cell? ((⟨w.heap.size, 0, none⟩ : Addr).add j) = some u := by
  intro j u hj
  have hadd : (⟨w.heap.size, 0, none⟩ : Addr).add j = ⟨w.heap.size, j, none⟩ := by unfold Addr.add; split <;> simp_all
  rw [hadd, World.cell?_alloc_at _ _ _ _ rfl]
  match j, hj with
  | 0, hj => simpa using hj
  | 1, hj => simpa using hj
  | (j + 2), hj => simp at hj
theorem ione (k v : Int) : ∀ u ∈ [Value.int .i64 k, .int .i64 v], u.oneCell' = true := by
  intro u hu
  simp only [List.mem_cons, List.not_mem_nil, or_false] at hu
  rcases hu with rfl | rfl <;> rfl
theorem itake {l : List It} {j : Nat} (h : j < l.length) : l.take (j + 1) = l.take j ++ [l.getD j it0] := by
  rw [List.take_succ_eq_append_getElem h, List.getD_eq_getElem?_getD, List.getElem?_eq_getElem h]
  rfl
/-- how long a slice is -/
def slen : Value → Nat
  | .slice _ n _ => n
  | _ => 0
/-- a new row of these -/
def Rowi (w : World) (l : List It) (e : Ending) (w' : World) : Prop := ∃ p n cap, e = .returned (.slice p n cap) ∧ l.length = n ∧ n ≤ cap ∧ OwnI w' w.heap.size (.slice p n cap) l ∧ Below w.heap.size w w'
end Fq
section
variable {w w' : World} {D : Fl} {ns : List Nd}
theorem fq_all_nil (w : World) : Calls Try.prog 16 #[.pointer none] w fun e w' => e = .returned (.slice none 0 0) ∧ w' = w := by
  go_enter Try.func16, Try.ntmps16
  go_wp2
  go_ret
  exact ⟨rfl, rfl⟩
set_option maxHeartbeats 1000000 in
theorem fq_all (h : Qb w D ns) : Calls Try.prog 16 #[.pointer (some ⟨D.b, 0, none⟩)] w (Rowi w (its ns)) := by
  obtain ⟨i0, hinf, hz0, hz1, hz2⟩ := info_parts info_I
  have HI := Lib.hid hinf
  have HZ0 := Lib.hid hz0
  have HZ1 := Lib.hid hz1
  have HZ2 := Lib.hid hz2
  have HH := Lib.hid h
  have hlen := h.len
  have hc0 := h.c0
  have hc1 := h.c1
  have hmp := h.mp
  unfold pv at hc0
  obtain ⟨n, hn⟩ : ∃ n, ns.length = n := ⟨_, rfl⟩
  rw [hn] at hmp hlen
  have HN := Lib.hid hn
  clear h hn hinf hz0 hz1 hz2
  go_enter Try.func16, Try.ntmps16
  go_wp2_with (first
    | (at_len; refine Mi.wp_len _ rfl _ 51 3 48 rfl Try.underlying51 D.m n _ rfl hmp ?_)
    | (at_make; refine wpList_make_own _ rfl _ _ 26 rfl w.heap.size 32 i0 zI 2 Try.underlying26 HI.out HZ0.out HZ1.out _ _ _ n rfl rfl rfl (by rw [HZ2.out]; omega) (by unfold maxLen; omega) (Nat.le_refl _) ?_))
  intro wa hown hgrow
  have hba : Below w.heap.size w wa := (Below.refl _ _).grown hgrow (Nat.le_refl _) (fun k e => by cases e)
  have ha := HH.out.below hba (Nat.le_refl _)
  have hd0 := ha.c0
  have he1 := ha.ring.at.1
  unfold pv at hd0 he1
  have HO : Hid (OwnI wa w.heap.size (.slice (some ⟨w.heap.size, 0, none⟩) 0 n) []) := Lib.hid hown
  have HB := Lib.hid hba
  clear ha hown hgrow hba hc0 hc1 hmp
  go_wp2
  go_loopw [3, 4] (fun o l wr => ∃ j : Nat, j ≤ n ∧ l = .pointer (some ⟨pl D.e ns j, 0, none⟩) ∧ Hid (OwnI wr w.heap.size o ((its ns).take j)) ∧ Hid (Below w.heap.size w wr)) (fun o _ _ => n - slen o)
  case atStart => exact ⟨0, Nat.zero_le _, rfl, HO, HB⟩
  case round =>
    obtain ⟨j, hj, hl, ho, hb⟩ := hrel
    have hr := HH.out.below hb.out (Nat.le_refl _)
    have hd0 := hr.c0
    unfold pv at hd0
    by_cases hlt : j < n
    · obtain ⟨x, hx⟩ : ∃ x, ns[j]? = some x := ⟨_, List.getElem?_eq_getElem (by rw [HN.out]; exact hlt)⟩
      obtain ⟨x, k, v⟩ := x
      obtain ⟨hp1, hp2⟩ := hr.ring.at.2 j _ hx
      have hmem : (x, (k, v)) ∈ ns := List.mem_of_getElem? hx
      simp only at hp1 hp2
      rw [hp1] at hl
      subst hl
      have hne : x ≠ D.e := fun e => (List.nodup_cons.1 HH.out.ring.nd).1 (by rw [← e]; exact List.mem_map.2 ⟨_, hmem, rfl⟩)
      have hneq := neq_other (hr.ring.nk _ hmem) hr.ring.ek hne
      obtain ⟨t2, t3⟩ := hr.ring.th _ hmem
      simp only at t2 t3
      have hkj : (its ns).take (j + 1) = (its ns).take j ++ [(k, v)] := by
        rw [itake (by rw [its_len, HN.out]; exact hlt)]
        congr 2
        rw [List.getD_eq_getElem?_getD]
        unfold its
        rw [List.getElem?_map, hx]
        rfl
      have HKJ := Lib.hid hkj
      have hlj : ((its ns).take j).length = j := by rw [List.length_take, its_len, HN.out]; omega
      have HLJ := Lib.hid hlj
      have HX := Lib.hid hx
      have hsz := hb.out.size
      have hown := ho.out
      unfold OwnI at hown
      rw [hlj] at hown
      clear hr hx hp1 hp2 hmem hne hkj hlj he1
      go_wp2_with (at_builtin; refine wpList_append_own _ rfl _ _ 26 rfl w.heap.size 32 i0 zI 2 16 Try.underlying26 HI.out HZ0.out HZ1.out HZ2.out rfl (by decide) _ _ _ rfl (World.ownsRow.alloc hown _) ⟨wr.heap.size, 0, none⟩ 1 1 [.int .i64 k, .int .i64 v] rfl rfl (icells2 wr _ _ _) (ione _ _) (by unfold maxLen; omega) (by omega) (by simp; omega) ?_)
      intro v3 w3 hown3 hgrow hnil
      have HO3 : Hid (OwnI w3 w.heap.size v3 ((its ns).take (j + 1))) := Lib.hid (by
        unfold OwnI
        rw [HKJ.out, icells_app, List.length_append, HLJ.out]
        exact hown3)
      have HLV : Hid (slen v3 = j + 1) := Lib.hid (by
        have h9 := HO3.out
        unfold OwnI at h9
        obtain ⟨p9, c9, hv9, _⟩ := OwnI.view h9
        rw [hv9]
        show _ = _
        rw [HKJ.out, List.length_append, HLJ.out]
        rfl)
      have hlvo : slen u3 = j := by
        obtain ⟨p9, c9, hv9, _⟩ := OwnI.view ho.out
        rw [hv9]
        exact HLJ.out
      have HB3 := Lib.hid ((hb.out.alloc hb.out.size _).grown hgrow (by simp; omega) (fun g e => (ho.out.kind e).1))
      clear hown3 hgrow hnil hown
      have h3 := HH.out.below HB3.out (Nat.le_refl _)
      have hn1 := (h3.ring.at.2 j _ HX.out).2
      unfold pv at hn1
      simp only at hn1
      clear h3 hneq hd0 t2 t3
      go_wp2
      go_roundw
      case rel => exact ⟨j + 1, hlt, rfl, HO3, HB3⟩
      case measure => rw [HLV.out, hlvo]; omega
    · have hjn : j = n := by omega
      subst hjn
      have hp : pl D.e ns j = D.e := by
        unfold pl
        rw [List.getD_eq_getElem?_getD, List.getElem?_eq_none (by rw [List.length_map, HN.out]; exact Nat.le_refl _)]
        rfl
      rw [hp] at hl
      subst hl
      have hneq := neq_same D.e wr
      have HFIN : Hid (Rowi w (its ns) (.returned u3) wr) := Lib.hid (by
        have h1 := ho.out
        rw [List.take_of_length_le (by rw [its_len, HN.out]; exact Nat.le_refl _)] at h1
        obtain ⟨p9, c9, hv9, hc9, _⟩ := OwnI.view h1
        rw [hv9] at h1
        exact ⟨p9, _, c9, by rw [hv9], rfl, hc9, h1, hb.out⟩)
      clear hr hp he1
      go_wp2
      go_ret
      exact HFIN.out
/-- .. of a queue that has nothing: the very value -/
theorem fq_all_empty (h : Qb w D []) : Calls Try.prog 16 #[.pointer (some ⟨D.b, 0, none⟩)] w fun e w' => e = .returned (.slice (some ⟨w.heap.size, 0, none⟩) 0 0) ∧ Below w.heap.size w w' := by
  obtain ⟨i0, hinf, hz0, hz1, hz2⟩ := info_parts info_I
  have HI := Lib.hid hinf
  have HZ0 := Lib.hid hz0
  have HZ1 := Lib.hid hz1
  have HZ2 := Lib.hid hz2
  have HH := Lib.hid h
  have hc0 := h.c0
  have hc1 := h.c1
  have hmp := h.mp
  unfold pv at hc0
  clear h hinf hz0 hz1 hz2
  go_enter Try.func16, Try.ntmps16
  go_wp2_with (first
    | (at_len; refine Mi.wp_len _ rfl _ 51 3 48 rfl Try.underlying51 D.m 0 _ rfl hmp ?_)
    | (at_make; refine wpList_make_own _ rfl _ _ 26 rfl w.heap.size 32 i0 zI 2 Try.underlying26 HI.out HZ0.out HZ1.out _ _ _ 0 rfl rfl rfl (by rw [HZ2.out]; omega) (by unfold maxLen; omega) (Nat.le_refl _) ?_))
  intro wa hown hgrow
  have hba : Below w.heap.size w wa := (Below.refl _ _).grown hgrow (Nat.le_refl _) (fun k e => by cases e)
  have ha := HH.out.below hba (Nat.le_refl _)
  have hd0 := ha.c0
  have he1 := ha.ring.at.1
  unfold pv at hd0 he1
  have hpl : pl D.e [] 0 = D.e := rfl
  rw [hpl] at he1
  have HB := Lib.hid hba
  clear ha hown hgrow hba hc0 hc1 hmp hpl
  go_wp2
  go_loopw [3, 4] (fun o l wr => o = .slice (some ⟨w.heap.size, 0, none⟩) 0 0 ∧ l = .pointer (some ⟨D.e, 0, none⟩) ∧ wa = wr) (fun _ _ _ => 0)
  case atStart => exact ⟨rfl, rfl, rfl⟩
  case round =>
    obtain ⟨rfl, rfl, rfl⟩ := hrel
    have hneq := neq_same D.e wa
    go_wp2
    go_ret
    exact ⟨rfl, HB.out⟩
end
end Go.Proofs.Ytcfmbdcklapmhaa
