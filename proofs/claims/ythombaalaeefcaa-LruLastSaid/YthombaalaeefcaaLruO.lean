/-
  THE LAW LruLast. The law LruLast answers true at every room, every row of acts and every act: what was put last is there and stands first, as many others behind it as there is room, in their order. Conditions: none (beyond 100 acts, and at a room below 1, the law itself asks less).
-/
import Derived.Test.YthombaalaeefcaaLruL
import Derived.Test.YthombaalaeefcaaFrame
namespace Go.Proofs.Ythombaalaeefcaa
open Go.RowKit Lr Ft Bt
open Go.ChangeShapes Go.WideShapes Go.ChangeAt
set_option linter.unusedVariables false
namespace Lr
/-- what is wanted, behind these keys -/
def wt (room : Nat) (k : ByteArray) (l : List ByteArray) : List ByteArray := (k :: l.filter (fun s => !decide (s = k))).take room
theorem wt_nil {room : Nat} (h : 0 < room) (k : ByteArray) : wt room k [] = [k] := by
  unfold wt
  cases room with
  | zero => omega
  | succ r => simp
theorem wt_len (room : Nat) (k : ByteArray) (l : List ByteArray) : (wt room k l).length ≤ l.length + 1 := by
  unfold wt
  have := List.length_filter_le (fun s => !decide (s = k)) l
  rw [List.length_take, List.length_cons]
  omega
theorem wt_same (room : Nat) (k : ByteArray) (l : List ByteArray) : wt room k (l ++ [k]) = wt room k l := by
  unfold wt
  rw [List.filter_append]
  simp
theorem take_snoc_lt {A : List ByteArray} {s : ByteArray} {r : Nat} : (A ++ [s]).take r = if (A.take r).length < r then A.take r ++ [s] else A.take r := by
  by_cases h : A.length < r
  · rw [if_pos (by rw [List.length_take]; omega), List.take_of_length_le (by simp; omega), List.take_of_length_le (by omega)]
  · rw [if_neg (by rw [List.length_take]; omega), List.take_append_of_le_length (by omega)]
theorem wt_other (room : Nat) {k s : ByteArray} (h : s ≠ k) (l : List ByteArray) : wt room k (l ++ [s]) = if (wt room k l).length < room then wt room k l ++ [s] else wt room k l := by
  have e : (k :: (l ++ [s]).filter (fun s => !decide (s = k))) = (k :: l.filter (fun s => !decide (s = k))) ++ [s] := by
    rw [List.filter_append]
    simp [h]
  unfold wt
  rw [e]
  exact take_snoc_lt
theorem wt_pt (room : Nat) (L : List KV) (k : ByteArray) (v : Int) : kys (pt room L k v) = wt room k (kys L) := by
  unfold pt wt kys
  rw [List.map_take, List.map_cons]
  congr 2
  unfold drp
  rw [List.filter_map]
  rfl
/-- a table, and an act of the call's own -/
def OA (w0 : World) (b g : Nat) (cs : Array Value) (room : Nat) (L : List KV) (w : World) : Prop := OL w0 b room L w ∧ w.heap[g]? = some (.cells cs 32)
section
variable {w0 w w' : World} {b g room : Nat} {cs : Array Value} {L L' : List KV}
theorem not_fp {D : Td} {ns : List Nd} (h : Tb w D room ns) {x : Nat} {t : TypeId} (hk : Kd w x t) (h1 : t ≠ 50) (h2 : t ≠ 47) : ¬ fp D ns x := by
  intro hf
  rcases hf with rfl | rfl | hf
  · exact (h.kind.ne hk (Ne.symm h1)) rfl
  · exact kd_map h.mp hk rfl
  · exact ((h.ring.kd hf).ne hk (Ne.symm h2)) rfl
theorem OA.below (h : OA w0 b g cs room L w) (hb : Below w.heap.size w w') : OA w0 b g cs room L w' :=
  ⟨h.1.below hb, (hb.block g (Array.getElem?_eq_some_iff.1 h.2).1).trans h.2⟩
theorem OA.cells {x : A12} (h : OA w0 b g (acs x) room L w) : w.cell? ⟨g, 0, none⟩ = some (.int .i64 x.kind) ∧ w.cell? ⟨g, 1, none⟩ = some (.string x.key) ∧ w.cell? ⟨g, 2, none⟩ = some (.int .i64 x.v) := by
  have h2 := h.2
  unfold acs at h2
  refine ⟨?_, ?_, ?_⟩ <;> simp only [World.cell?, h2] <;> rfl
/-- Put: what is of another kind stays -/
theorem OA.put (h : OA w0 b g cs room L w) {k : ByteArray} (hk : Ms.Wf k) (v : Int) (hfit : L.length ≤ room) (hlen : L.length < 1000) {s : ByteArray} {t : Bool} (e2 : gk room L k = s) (e3 : gb room L k = t) {S : World → Prop} (hS : ∀ w' D ns, Tb w D room ns → Mv (fp D ns) w w' → S w') :
    Calls Try.prog 13 #[.pointer (some ⟨b, 0, none⟩), .string k, .int .i64 v] w fun e w' => e = .returned (.tuple #[.string s, .bool t]) ∧ OA w0 b g cs room (pt room L k v) w' ∧ S w' := by
  subst e2 e3
  obtain ⟨⟨D, ns, e, h1, h2, h3, h4⟩, hg⟩ := h
  have h9 := lput_any h1 hk v (by rw [← kvs_len, h2]; exact hfit) (by rw [← kvs_len, h2]; exact hlen)
  rw [h2, e] at h9
  refine h9.mono ?_
  rintro e9 w' ⟨he, ns', q1, q2, q3⟩
  refine ⟨he, ⟨⟨D, ns', e, q2, q1, fun x hx => ?_, h4.trans (q3.mv.below h4.size (fun k hk hf => by have := h3 k hf; omega))⟩, (q3.mv.block g (Array.getElem?_eq_some_iff.1 hg).1 (not_fp h1 ⟨_, hg⟩ (by decide) (by decide))).trans hg⟩, hS w' D ns h1 q3.mv⟩
  rcases q3.own x hx with h7 | h7
  · exact h3 x h7
  · exact Nat.le_trans h4.size h7
theorem OwnS.mv {B : Nat} {v : Value} {l : List ByteArray} (h : OwnS w B v l) {D : Td} {ns : List Nd} (ht : Tb w D room ns) (hm : Mv (fp D ns) w w') : OwnS w' B v l :=
  h.block (fun x hx => hm.block x (h.kind hx).2.1 (not_fp ht (h.kind hx).2.2 (by decide) (by decide)))
end
theorem getD_memL {l : List A12} {i : Nat} {d : A12} (hi : i < l.length) : l.getD i d ∈ l := by
  rw [List.getD_eq_getElem?_getD, List.getElem?_eq_getElem hi]
  exact List.getElem_mem hi
end Lr
namespace lruLast
set_option maxHeartbeats 1000000 in
theorem walk_none (room : Int) (p : Option Addr) (n cap : Nat) (a : A12) (w : World) (h : room < 1) (hn : n ≤ 9223372036854775807) :
    Calls Try.prog 5 #[.int .i64 room, .slice p n cap, .agg #[.int .i64 a.kind, .string a.key, .int .i64 a.v]] w fun e w' => e = .returned (.bool true) ∧ Below w.heap.size w w' := by
  have HN := Lib.hid (new_small h)
  have hba : ∀ o, Below w.heap.size w (w.alloc o) := fun o => (Below.refl _ _).alloc (Nat.le_refl _) _
  have HBA := Lib.hid hba
  clear hba
  by_cases hb : 100 < n
  all_goals
    go_enter Try.func5, Try.ntmps5
    go_wp2_with (first
      | (go_at_call 6; refine (HN.out _).mono ?_; rintro e w' ⟨rfl, hw⟩; rw [hw]; clear hw)
      | (go_at_call 7; refine (lru12.live_any _).mono ?_))
    first | rintro e w8 rfl hb8 | rintro e w8 ⟨rfl, hb8⟩
    have HB8 := Lib.hid ((HBA.out (.cells #[.int .i64 a.kind, .string a.key, .int .i64 a.v] 32)).trans (hb8.mono (by simp)))
    clear hb8
    go_wp2
    go_ret
    exact ⟨rfl, HB8.out⟩
set_option maxHeartbeats 1000000 in
theorem walk_big (room : Nat) (p : Option Addr) (n cap : Nat) (a : A12) (w : World) (hr : 0 < room) (h : 100 < n) (hn : n ≤ 9223372036854775807) :
    Calls Try.prog 5 #[.int .i64 room, .slice p n cap, .agg #[.int .i64 a.kind, .string a.key, .int .i64 a.v]] w fun e w' => e = .returned (.bool true) ∧ Below w.heap.size w w' := by
  have HN := Lib.hid (fun w => new_any room w hr)
  have hba : ∀ o, Below w.heap.size w (w.alloc o) := fun o => (Below.refl _ _).alloc (Nat.le_refl _) _
  have HBA := Lib.hid hba
  obtain ⟨z, hz⟩ : ∃ z : Int, (room : Int) = z := ⟨_, rfl⟩
  have hz1 : 1 ≤ z := by omega
  rw [hz] at HN ⊢
  clear hr hz hba
  go_enter Try.func5, Try.ntmps5
  go_wp2_with (go_at_call 6; refine (HN.out _).mono ?_)
  rintro e w1 ⟨D, rfl, _, _, hb1⟩
  have HB1 := Lib.hid (below_next (HBA.out _) hb1)
  clear hb1
  go_wp2_with (go_at_call 7; refine (lru12.live_any _).mono ?_)
  first | rintro e w8 rfl hb8 | rintro e w8 ⟨rfl, hb8⟩
  have HB8 := Lib.hid (below_next HB1.out hb8)
  clear hb8
  go_wp2
  go_ret
  exact ⟨rfl, HB8.out⟩
set_option maxHeartbeats 4000000 in
set_option maxRecDepth 20000 in
theorem walk_small (room : Nat) (hr : 0 < room) (p : Option Addr) (n cap : Nat) (acts : List A12) (a : A12) (w : World) (hn : acts.length = n) (hn2 : n ≤ 100) (haw : ∀ x ∈ acts, Ms.Wf x.key) (hak : Ms.Wf a.key) (hac : AC12 w p acts) :
    Calls Try.prog 5 #[.int .i64 room, .slice p n cap, .agg #[.int .i64 a.kind, .string a.key, .int .i64 a.v]] w fun e w' => e = .returned (.bool true) ∧ Below w.heap.size w w' := by
  have HN := Lib.hid hn
  have HAW := Lib.hid haw
  have HAC := Lib.hid hac
  have HAK := Lib.hid hak
  obtain ⟨W1, hW1⟩ : ∃ W1, w.alloc (.cells #[.int .i64 a.kind, .string a.key, .int .i64 a.v] 32) = W1 := ⟨_, rfl⟩
  obtain ⟨g, hg⟩ : ∃ g, w.heap.size = g := ⟨_, rfl⟩
  have hb1 : Below w.heap.size w W1 := by rw [← hW1]; exact (Below.refl _ _).alloc (Nat.le_refl _) _
  have HG1 : Hid (W1.heap[g]? = some (.cells (acs a) 32)) := Lib.hid (by rw [← hW1, ← hg]; exact (MapKept.heap_alloc _ _).1)
  have HB1 := Lib.hid hb1
  have HNEW := Lib.hid (new_any room W1 hr)
  obtain ⟨z, hz⟩ : ∃ z : Int, (room : Int) = z := ⟨_, rfl⟩
  have HZ := Lib.hid hz
  have hz1 : ¬ z < 1 := by omega
  rw [hz] at HNEW ⊢
  have hdec : decide ((100 : Int) < (n : Int)) = false := by rw [decide_eq_false_iff_not]; omega
  have HR := Lib.hid hr
  clear hn haw hac hz hr hb1 hak
  go_enter Try.func5, Try.ntmps5
  go_wp2_with (go_at_call 6; refine HNEW.out.mono ?_)
  rintro e wn ⟨D, rfl, hw1, hf1, hb1⟩
  have HBEG : Hid (∃ L : List KV, L.length ≤ 0 ∧ L.length ≤ room ∧ OA w D.b g (acs a) room L wn) := Lib.hid ⟨[], Nat.le_refl _, Nat.zero_le _, ⟨D, [], rfl, hw1, rfl, fun x hx => Nat.le_trans HB1.out.size (hf1 x hx), HB1.out.trans (hb1.mono HB1.out.size)⟩, (hb1.block g (Array.getElem?_eq_some_iff.1 HG1.out).1).trans HG1.out⟩
  obtain ⟨b, hb⟩ : ∃ b, D.b = b := ⟨_, rfl⟩
  rw [hb] at HBEG
  rw [hb]
  clear hw1 hf1 hb1 hb
  go_wp2
  go_loopw [8] (fun i wr => ∃ j : Nat, i = .int .i64 j ∧ j ≤ n ∧ Hid (∃ L : List KV, L.length ≤ j ∧ L.length ≤ room ∧ OA w b g (acs a) room L wr)) (fun i _ => n - (intOf i).toNat)
  case atStart => exact ⟨0, rfl, Nat.zero_le _, HBEG⟩
  case round =>
    obtain ⟨j, rfl, hj, hr⟩ := hrel
    obtain ⟨L, hLj, hLr, hoa⟩ := hr.out
    by_cases hlt : j < n
    · have HXT : Hid (Ms.Wf (acts.getD j a012).key) := Lib.hid (HAW.out _ (getD_memL (by rw [HN.out]; exact hlt)))
      have HJ : Hid (j < acts.length) := Lib.hid (by rw [HN.out]; exact hlt)
      obtain ⟨x, hx⟩ : ∃ x, acts.getD j a012 = x := ⟨_, rfl⟩
      have HXE := Lib.hid hx
      rw [hx] at HXT
      obtain ⟨g0, off, rfl, hg0, hx0, hx1, hx2⟩ := (HAC.out.below hoa.1.bl (Nat.le_refl _)) j HJ.out
      rw [hx] at hx0 hx1 hx2
      have hltz : (j : Int) < (n : Int) := by omega
      obtain ⟨s, hs⟩ : ∃ s, gk room L x.key = s := ⟨_, rfl⟩
      obtain ⟨t, ht⟩ : ∃ t, gb room L x.key = t := ⟨_, rfl⟩
      have HCL : Hid (∀ M w1, OA w b g (acs a) room M w1 → w1.cell? ⟨g0, off + j * 3 + 1, none⟩ = some (.string x.key) ∧ w1.cell? ⟨g0, off + j * 3 + 2, none⟩ = some (.int .i64 x.v)) := Lib.hid (fun M w1 h1 => by
        obtain ⟨g2, off2, hp2, _, _, q1, q2⟩ := (HAC.out.below h1.1.bl (Nat.le_refl _)) j HJ.out
        injection hp2 with hp2
        injection hp2 with e1 e2
        rw [HXE.out, ← e1, ← e2] at q1 q2
        exact ⟨q1, q2⟩)
      have HP : Hid (∀ w1, OA w b g (acs a) room L w1 → Calls Try.prog 13 #[.pointer (some ⟨b, 0, none⟩), .string x.key, .int .i64 x.v] w1 fun e w' => e = .returned (.tuple #[.string s, .bool t]) ∧ OA w b g (acs a) room (pt room L x.key x.v) w') := Lib.hid (fun w1 h1 => by
        refine (h1.put HXT.out x.v hLr (by omega) hs ht (S := fun _ => True) (fun _ _ _ _ _ => trivial)).mono ?_
        rintro e w' ⟨he, h2, _⟩
        exact ⟨he, h2⟩)
      have hpl := pt_len L room x.key x.v
      have HPL : Hid ((pt room L x.key x.v).length ≤ j + 1 ∧ (pt room L x.key x.v).length ≤ room) := Lib.hid ⟨by omega, hpl.1⟩
      have HOA := Lib.hid hoa
      clear hoa hr hx hLj hLr hs ht hpl hx0 hx1 hx2 hg0
      go_wp2_with fail
      refine Bz.wp_region (S := Bz.by1 11 (fun b1 w1 => OA w b g (acs a) room (cond b1 (pt room L x.key x.v) L) w1)) (by kernel_rfl) ?_ ?_
      · exact Bz.by1_start (by decide) (HOA.out.below (Below.refl _ _).drew)
      repeat (first
        | (refine Bz.anyR_value (v := ?_) (by kernel_rfl) (fun m w1 _ hS => Bz.by1_set (by decide) m w1 hS) (by rfl) (fun _ _ _ h => h) (fun m w1 _ hS => ?_) ?_
           rotate_left
           · obtain ⟨q1, q2⟩ := HCL.out _ _ hS
             go_simp
             with_reducible rfl
           (try simp only [Act.put, List.setIfInBounds_toArray, List.set_cons_zero, List.set_cons_succ]))
        | (refine Bz.anyR_not (by kernel_rfl) (fun m w1 _ hS => Bz.by1_set (by decide) m w1 hS) (by rfl) (fun _ _ _ h => h) ?_
           (try simp only [Act.put, List.setIfInBounds_toArray, List.set_cons_zero, List.set_cons_succ]))
        | (refine Bz.anyR_call (v := ?_) (f := ?_) (args := ?_) (by kernel_rfl) (by rfl) (fun _ _ _ h => h) (fun m w1 hm hS => ?_) (fun m w1 hm hS => ?_) ?_
           rotate_left 3
           · go_simp
             (try constructor) <;> with_reducible rfl
           · first
               | (have hS2 : OA w b g (acs a) room L w1 := (by have h := hS; unfold Bz.by1 at h; rw [hm.1] at h; exact h); (with_reducible refine ((HP.out w1 hS2).mono ?_)); rintro e w' ⟨rfl, hp⟩; refine ⟨?_, Bz.by1_A m w' hp⟩; with_reducible rfl)
           (try simp only [Act.put, List.setIfInBounds_toArray, List.set_cons_zero, List.set_cons_succ]))
        | refine Bz.anyR_done (by kernel_rfl) (fun w1 hS => ?_))
      have hfin := Bz.by1_end (by decide) (by decide) hS
      have HF : Hid (∃ L : List KV, L.length ≤ j + 1 ∧ L.length ≤ room ∧ OA w b g (acs a) room L w1) := Lib.hid ⟨_, HPL.out.1, HPL.out.2, hfin⟩
      clear hS hfin
      go_wp2
      go_roundw
      case rel => exact ⟨j + 1, by go_num, hlt, HF⟩
      case measure => simp [intOf]; omega
    · have e1 : j = n := by omega
      subst e1
      have hLM : L.length ≤ 100 := by omega
      clear hdec HAC hj hlt
      obtain ⟨i0, hinf, hz0, hz9, hz2⟩ := info_parts info_str12
      have HI := Lib.hid hinf
      have HZ0 := Lib.hid hz0
      have HZ1 := Lib.hid hz9
      have HZ2 := Lib.hid hz2
      obtain ⟨M, hM⟩ : ∃ M, L.length = M := ⟨_, rfl⟩
      have HKM : Hid ((kys L).length = M) := Lib.hid (by rw [kys_len, hM])
      have HLR := Lib.hid hLr
      have HLM := Lib.hid hLM
      have hM1 : M ≤ 100 := by omega
      have P5 := Lib.hid hoa.1.listed
      have HOA := Lib.hid hoa
      clear hoa hr hLj hLr hLM hM hinf hz0 hz9 hz2
      go_wp2_with (go_at_call 10; refine P5.out.mono ?_)
      rintro e w2 ⟨p2, n2, c2, rfl, hn2', hown2, hb2⟩
      have hnM : n2 = M := by rw [← hn2', HKM.out]
      subst hnM
      have hoa2 := HOA.out.below hb2
      obtain ⟨d0, d1, d2⟩ := hoa2.cells
      have hown2' := hown2.mono (Nat.zero_le _)
      obtain ⟨s, hs⟩ : ∃ s, gk room L a.key = s := ⟨_, rfl⟩
      obtain ⟨t, ht⟩ : ∃ t, gb room L a.key = t := ⟨_, rfl⟩
      have HP := Lib.hid (hoa2.put HAK.out a.v HLR.out (by have := HLM.out; omega) hs ht (S := fun w' => OwnS w' 0 (.slice p2 n2 c2) (kys L)) (fun w' D ns h1 h2 => hown2'.mv h1 h2))
      clear hoa2 hown2 hown2' hb2 hn2' hs ht P5
      go_wp2_with (go_at_call 13; refine HP.out.mono ?_)
      rintro e w3 ⟨rfl, hoa3, hown3⟩
      obtain ⟨f0, f1, f2⟩ := hoa3.cells
      have hb4 : ∀ o, Below w3.heap.size w3 (w3.alloc o) := fun o => (Below.refl _ _).alloc (Nat.le_refl _) _
      have HO4 : Hid (OwnS (w3.alloc (.cells #[.string a.key] 9)) w3.heap.size (.slice (some ⟨w3.heap.size, 0, none⟩) 1 1) (wt room a.key ((kys L).take 0))) := Lib.hid (by
        rw [List.take_zero, wt_nil HR.out]
        exact World.ownsRow_lit w3 #[.string a.key] 1 (Nat.le_refl _) (by unfold maxLen; omega) rfl)
      have HB4 := Lib.hid (hb4 (.cells #[.string a.key] 9))
      have HOA3 := Lib.hid hoa3
      have HOWN3 := Lib.hid hown3
      clear hoa3 hown3 hb4 d0 d1 d2 HP HOA
      go_wp2
      go_loopw [10, 11] (fun o i wr => ∃ j : Nat, i = .int .i64 j ∧ j ≤ n2 ∧ Hid (OwnS wr w3.heap.size o (wt room a.key ((kys L).take j))) ∧ Hid (Below w3.heap.size w3 wr)) (fun _ i _ => n2 - (intOf i).toNat)
      case atStart => exact ⟨0, rfl, Nat.zero_le _, HO4, HB4⟩
      case round =>
        obtain ⟨i, rfl, hi, ho, hb⟩ := hrel
        have hoa := HOA3.out.below hb.out
        obtain ⟨d0, d1, d2⟩ := hoa.cells
        obtain ⟨p5, c5, hv5, hmx5, _⟩ := ho.out.view
        obtain ⟨m, hm⟩ : ∃ m, (wt room a.key ((kys L).take i)).length = m := ⟨_, rfl⟩
        rw [hm] at hv5
        have hml := wt_len room a.key ((kys L).take i)
        rw [List.length_take, hm] at hml
        subst hv5
        have HOAR := Lib.hid hoa
        by_cases hlt : i < n2
        · have hown := HOWN3.out.below hb.out
          obtain ⟨p9, c9, hv9, _, hsc9⟩ := hown.view
          rw [HKM.out] at hv9
          injection hv9 with e1 e2 e3
          subst e1
          obtain ⟨g2, hpg, hg2, e4⟩ := hsc9 i (by rw [HKM.out]; exact hlt)
          subst hpg
          obtain ⟨s2, hs2⟩ : ∃ s2, (kys L).getD i ByteArray.empty = s2 := ⟨_, rfl⟩
          rw [hs2] at e4
          have htk : (kys L).take (i + 1) = (kys L).take i ++ [s2] := by rw [take_getD (by rw [HKM.out]; exact hlt), hs2]
          have hltz : (i : Int) < (n2 : Int) := by omega
          have hbd : Below w3.heap.size w3 wr.drew := hb.out.drew
          have x4 : wr.drew.cell? ⟨g2, i, none⟩ = some (.string s2) := e4
          have x1 : wr.drew.cell? ⟨g, 1, none⟩ = some (.string a.key) := d1
          have HOD : Hid (OwnS wr.drew w3.heap.size (.slice p5 m c5) (wt room a.key ((kys L).take i))) := Lib.hid (ho.out.below (Below.refl _ _).drew)
          have HBD := Lib.hid hbd
          have HM5 := Lib.hid hm
          have hsz3 := hbd.size
          have hm9 : m ≤ 101 := by have := HKM.out; omega
          clear hown hsc9 e2 e3 hoa hbd hs2 hm hml hg2
          by_cases hk : s2 = a.key
          · have hneq : (s2.toList == a.key.toList) = true := str_beq hk
            have HO5 : Hid (OwnS wr.drew w3.heap.size (.slice p5 m c5) (wt room a.key ((kys L).take (i + 1)))) := Lib.hid (by
              rw [htk, hk, wt_same]
              exact HOD.out)
            clear htk hk
            go_wp2_with fail
            refine wp_region_text (S := (fun w9 => w9 = wr.drew)) (by kernel_rfl) ?_ ?_
            · rfl
            repeat (first
              | (refine anyR_value (v := ?_) (by kernel_rfl) (by rfl) (fun _ _ _ h => h) (fun w1 hS => ?_) ?_
                 rotate_left
                 · rw [hS]
                   go_simp
                   with_reducible rfl
                 simp only [Act.put, List.setIfInBounds_toArray, List.set_cons_zero, List.set_cons_succ])
              | (refine anyR_not (by kernel_rfl) (by rfl) (fun _ _ _ h => h) ?_
                 simp only [Act.put, List.setIfInBounds_toArray, List.set_cons_zero, List.set_cons_succ])
              | (refine anyR_call (v := ?_) (f := ?_) (args := ?_) (by kernel_rfl) (by rfl) (fun _ _ _ h => h) (fun w1 hS => ?_) (fun w1 hS => ?_) ?_
                 rotate_left 3
                 · go_simp
                   (try constructor) <;> with_reducible rfl
                 · first
                     | (fail)
                 simp only [Act.put, List.setIfInBounds_toArray, List.set_cons_zero, List.set_cons_succ])
              | refine anyR_done (by kernel_rfl) (fun w1 hS => ?_))
            have e9 : w1 = wr.drew := hS
            subst e9
            clear hS
            go_wp2
            go_roundw
            case rel => exact ⟨i + 1, by go_num, hlt, HO5, HBD⟩
            case measure => simp [intOf]; omega
          · have hneq : (s2.toList == a.key.toList) = false := str_bne hk
            have hwo := wt_other room hk ((kys L).take i)
            rw [← htk, HM5.out] at hwo
            by_cases hlr : m < room
            · rw [if_pos hlr] at hwo
              have HWO := Lib.hid hwo
              have hlrz : (m : Int) < z := by have := HZ.out; omega
              have hown5 := HOD.out
              unfold OwnS at hown5
              rw [HM5.out] at hown5
              clear htk hk hwo hlr
              go_wp2_with fail
              refine wp_region_text (S := (fun w9 => w9 = wr.drew)) (by kernel_rfl) ?_ ?_
              · rfl
              repeat (first
                | (refine anyR_value (v := ?_) (by kernel_rfl) (by rfl) (fun _ _ _ h => h) (fun w1 hS => ?_) ?_
                   rotate_left
                   · rw [hS]
                     go_simp
                     with_reducible rfl
                   simp only [Act.put, List.setIfInBounds_toArray, List.set_cons_zero, List.set_cons_succ])
                | (refine anyR_not (by kernel_rfl) (by rfl) (fun _ _ _ h => h) ?_
                   simp only [Act.put, List.setIfInBounds_toArray, List.set_cons_zero, List.set_cons_succ])
                | (refine anyR_call (v := ?_) (f := ?_) (args := ?_) (by kernel_rfl) (by rfl) (fun _ _ _ h => h) (fun w1 hS => ?_) (fun w1 hS => ?_) ?_
                   rotate_left 3
                   · go_simp
                     (try constructor) <;> with_reducible rfl
                   · first
                       | (fail)
                   simp only [Act.put, List.setIfInBounds_toArray, List.set_cons_zero, List.set_cons_succ])
                | refine anyR_done (by kernel_rfl) (fun w1 hS => ?_))
              have e9 : w1 = wr.drew := hS
              rw [← e9] at HOD HBD x4 x1 hown5 hsz3
              clear hS e9
              go_wp2_with (at_builtin; refine wpList_append_own _ rfl _ _ 34 rfl w3.heap.size 9 i0 (.string ByteArray.empty) 1 16 Try.underlying34 HI.out HZ0.out HZ1.out HZ2.out rfl (by decide) _ _ _ rfl (World.ownsRow.alloc hown5 _) ⟨w1.heap.size, 0, none⟩ 1 1 [.string s2] rfl rfl (scells1 w1 _ _) (sone _) (by unfold maxLen; omega) (by omega) (by simp; omega) ?_)
              intro v6 w6 hown6 hgrow hnil
              have HO6 : Hid (OwnS w6 w3.heap.size v6 (wt room a.key ((kys L).take (i + 1)))) := Lib.hid (by
                unfold OwnS
                rw [HWO.out, sc_app, List.length_append, HM5.out]
                exact hown6)
              have HB6 := Lib.hid ((HBD.out.alloc HBD.out.size _).grown hgrow (by simp; omega) (fun x e => (HOD.out.kind e).1))
              clear hown6 hgrow hnil hown5 x4 x1 e4 d0 d1 d2
              go_wp2
              go_roundw
              case rel => exact ⟨i + 1, by go_num, hlt, HO6, HB6⟩
              case measure => simp [intOf]; omega
            · rw [if_neg hlr] at hwo
              have hlrz : ¬ (m : Int) < z := by have := HZ.out; omega
              have HO5 : Hid (OwnS wr.drew w3.heap.size (.slice p5 m c5) (wt room a.key ((kys L).take (i + 1)))) := Lib.hid (by
                rw [hwo]
                exact HOD.out)
              clear htk hk hwo hlr
              go_wp2_with fail
              refine wp_region_text (S := (fun w9 => w9 = wr.drew)) (by kernel_rfl) ?_ ?_
              · rfl
              repeat (first
                | (refine anyR_value (v := ?_) (by kernel_rfl) (by rfl) (fun _ _ _ h => h) (fun w1 hS => ?_) ?_
                   rotate_left
                   · rw [hS]
                     go_simp
                     with_reducible rfl
                   simp only [Act.put, List.setIfInBounds_toArray, List.set_cons_zero, List.set_cons_succ])
                | (refine anyR_not (by kernel_rfl) (by rfl) (fun _ _ _ h => h) ?_
                   simp only [Act.put, List.setIfInBounds_toArray, List.set_cons_zero, List.set_cons_succ])
                | (refine anyR_call (v := ?_) (f := ?_) (args := ?_) (by kernel_rfl) (by rfl) (fun _ _ _ h => h) (fun w1 hS => ?_) (fun w1 hS => ?_) ?_
                   rotate_left 3
                   · go_simp
                     (try constructor) <;> with_reducible rfl
                   · first
                       | (fail)
                   simp only [Act.put, List.setIfInBounds_toArray, List.set_cons_zero, List.set_cons_succ])
                | refine anyR_done (by kernel_rfl) (fun w1 hS => ?_))
              have e9 : w1 = wr.drew := hS
              subst e9
              clear hS
              go_wp2
              go_roundw
              case rel => exact ⟨i + 1, by go_num, hlt, HO5, HBD⟩
              case measure => simp [intOf]; omega
        · have e1 : i = n2 := by omega
          subst e1
          have hlast := ho.out
          rw [List.take_of_length_le (by rw [HKM.out]; exact Nat.le_refl _), ← wt_pt room L a.key a.v] at hlast
          rw [List.take_of_length_le (by rw [HKM.out]; exact Nat.le_refl _), ← wt_pt room L a.key a.v] at hm
          have hm9 : m ≤ 101 := by have := HKM.out; omega
          obtain ⟨L2, hL2⟩ : ∃ L2, pt room L a.key a.v = L2 := ⟨_, rfl⟩
          have hfd : fd L2 a.key = some a.v := by rw [← hL2]; exact fd_pt HR.out a.key a.v
          rw [hL2] at hlast hm hoa HOAR
          have hpk := hoa.1.peek HAK.out
          rw [hfd] at hpk
          unfold gv at hpk
          simp only [Option.getD_some, Option.isSome_some] at hpk
          have HPK := Lib.hid hpk
          have HLA := Lib.hid hlast
          have HM := Lib.hid hm
          have hvv : (a.v == a.v) = true := by simp
          clear hlast hm hfd hpk hoa hml hL2 hmx5 ho
          go_wp2_with (go_at_call 15; refine HPK.out.mono ?_)
          first | rintro e w4 rfl hb5 | rintro e w4 ⟨rfl, hb5⟩
          have hoa4 := HOAR.out.below hb5
          obtain ⟨q0, q1, q2⟩ := hoa4.cells
          have HKS := Lib.hid hoa4.1.listed
          have HLA4 := Lib.hid (HLA.out.below hb5)
          have HBL := Lib.hid hoa4.1.bl
          clear hoa4 hb5 d0 d1 d2
          go_wp2_with (go_at_call 10; refine HKS.out.mono ?_)
          rintro e w5 ⟨p6, n6, c6, rfl, hn6, hown6, hb6⟩
          have hnm : n6 = m := by rw [← hn6, HM.out]
          subst hnm
          obtain ⟨p7, c7, hv7, _, hsc7⟩ := hown6.view
          injection hv7 with e1 e2 e3
          subst e1
          obtain ⟨p8, c8, hv8, _, hsc8⟩ := (HLA4.out.below hb6).view
          injection hv8 with e4 e5 e6
          subst e4
          have HT := Lib.hid (texts_same p6 p5 n6 c6 c5 (kys L2) w5 hn6 (by omega) hsc7 hsc8)
          have HB6 := Lib.hid (below_next HBL.out hb6)
          clear hn6 hown6 hb6 hsc7 hsc8 q0 q1 q2 e2 e3 e5 e6
          go_wp2_with (go_at_call 9; refine HT.out.mono ?_)
          first | rintro e w6 rfl hb7 | rintro e w6 ⟨rfl, hb7⟩
          have HB7 := Lib.hid (below_next HB6.out hb7)
          clear hb7
          go_wp2_with (go_at_call 7; refine (lru12.live_any _).mono ?_)
          first | rintro e w7 rfl hb8 | rintro e w7 ⟨rfl, hb8⟩
          have HB8 := Lib.hid (below_next HB7.out hb8)
          clear hb8
          go_wp2
          go_ret
          exact ⟨rfl, HB8.out⟩
theorem walk (a0 : Int) (w0 : (Lit.int .i64 a0).wf = true) (p : Option Addr) (n cap : Nat) (acts : List A12) (a : A12) (hn : acts.length = n) (hmx : n ≤ maxLen) (haw : ∀ x ∈ acts, Ms.Wf x.key) (hak : Ms.Wf a.key) (w : World) (hac : AC12 w p acts) :
    Calls Try.prog 5 #[.int .i64 a0, .slice p n cap, .agg #[.int .i64 a.kind, .string a.key, .int .i64 a.v]] w fun e w' => e = .returned (.bool true) ∧ Below w.heap.size w w' := by
  unfold maxLen at hmx
  by_cases h : a0 < 1
  · exact walk_none a0 p n cap a w h (by omega)
  · obtain ⟨r, hr⟩ : ∃ r : Nat, a0 = (r : Int) := ⟨a0.toNat, by omega⟩
    subst hr
    by_cases h2 : 100 < n
    · exact walk_big r p n cap a w (by omega) h2 (by omega)
    · exact walk_small r (by omega) p n cap acts a w hn (by omega) haw hak hac
theorem own : ownKnob Try.prog.godebug = none := by kernel_rfl
theorem laidOut : laidOutB Try.prog = true := by kernel_rfl
set_option maxRecDepth 100000 in
theorem contract (H : Type) (enc : TypeId × Value → H) (W : World) (base : Nat) (args : Array Value) (ds gs : List (DataW H)) (before : List MemPlace)
    (hval0 : ∀ (j : Nat) t v, Try.f5.params[j]? = some t → args[j]? = some v → Value.okWide Try.prog W .any base t v)
    (hW : DataW.Whole enc Try.prog Try.f5.params.toList Rows.lruLastSpec.vars false W args.toList ds gs before) :
    Calls Try.prog 5 args W fun e W' => ∃ v, e = .returned v ∧ Rows.lruLastSpec.post enc Try.prog Try.f5 false true false false W args v W' := by
  have hval : ∀ (j : Nat) t v, Try.f5.params[j]? = some t → args[j]? = some v → Value.okWide Try.prog W .any base t v := hval0
  clear hval0
  have hW' := hW
  obtain ⟨p, q, hA0, hV, rfl, hfz, hnd⟩ := hW
  have hA : DataW.TrodAll enc Try.prog W 0 (fun _ => true) true Try.f5.params.toList args.toList ds p := hA0
  rw [Try.params5] at hA hval
  obtain ⟨v0, vs0, d0, ds0, p0, q0, hargs, rfl, rfl, h0, r0⟩ := trodAll_cons hA
  obtain ⟨v1, vs1, d1, ds1, p1, q1, rfl, rfl, rfl, h1, r1⟩ := trodAll_cons r0
  obtain ⟨v2, vs2, d2, ds2, p2, q2, rfl, rfl, rfl, h2, r2⟩ := trodAll_cons r1
  obtain ⟨rfl, rfl, rfl⟩ := trodAll_nil r2
  obtain rfl : args = #[v0, v1, v2] := by cases args; simp_all
  obtain ⟨rfl, rfl⟩ := trodVars_none hV
  obtain ⟨a0, rfl, rfl, rfl, w0⟩ := open_int Try.underlying3 (hval 0 3 v0 rfl rfl) h0
  obtain ⟨pp, n, cap, acts, rfl, hn, hmx, haw, hac⟩ := acts12_open h1 (okWide_slice Try.underlying22 (hval 1 22 v1 rfl rfl))
  obtain ⟨x2, rfl, hx2⟩ := act12_open (hval 2 32 v2 rfl rfl) h2
  clear hA0
  refine (walk a0 w0 pp n cap acts x2 hn hmx haw hx2 W hac).mono fun e W' ⟨he, hb⟩ => ?_
  subst he
  exact ⟨_, rfl, law_post laidOut (by kernel_rfl) rfl Try.underlying4 rfl hW' rfl hb⟩

set_option maxRecDepth 100000 in
theorem lifted (os : Os) (started : os.Started) (H : Type) (enc : TypeId × Value → H) :
    ReturnsInHanded {} Try.checked os 5 .any (Rows.lruLastSpec.pre6 enc Try.prog Try.f5 Rows.lruLastRow.domain false) (Rows.lruLastSpec.post enc Try.prog Try.f5 false true false false) := by
  refine returnsInHanded_of_change (C := Try.checked) own started (by kernel_rfl) Try.func5
    (ChangeSpec.witness6 (enc := enc) (C := Try.checked) false ⟨#[], #[.int .i64 0, .slice none 0 0, .agg #[.int .i64 0, .string ByteArray.empty, .int .i64 0]], []⟩ 8 (by kernel_rfl) (by kernel_rfl) (by kernel_rfl) (by kernel_rfl)) ?_
  intro W base args ds gs before hval0 hW _ _
  exact contract H enc W base args ds gs before hval0 hW

/-- THE STATEMENT -/
theorem proved : Rows.LruLastSaid :=
  OpenClaim.holds_of_wide 5 Try.f5 rfl rfl rfl rfl rfl rfl rfl ⟨rfl, rfl, rfl, rfl, rfl⟩ rfl rfl rfl rfl rfl (by kernel_rfl) Try.func5 (by kernel_rfl)
    (of_decide_eq_true (by kernel_rfl)) (by unfold Func.isWrapper; first | (rw [if_pos (by decide +kernel)]; kernel_rfl) | (rw [if_neg (by decide +kernel)]; exact ⟨rfl, rfl⟩))
    (fun os started H enc _ => lifted os started H enc)
end lruLast
end Go.Proofs.Ythombaalaeefcaa
