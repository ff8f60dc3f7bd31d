/-
  THE PAGE OF LAYER 9 (due), part H: Next, without, Clear, Set, Go.
-/
import Derived.Test.YtlhajdmleefkiaaDueG
namespace Go.Proofs.Ytlhajdmleefkiaa
open Go.RowKit Wl Dl Bt
set_option linter.unusedVariables false

def Nexts9 (w : World) (L : List X) (e : Ending) (w' : World) : Prop := e = .returned (.tuple #[.int .u64 ((nxt (L.map nu)).getD 0 : Nat), .bool (nxt (L.map nu)).isSome]) ∧ Below w.heap.size w w'
set_option maxHeartbeats 1000000 in
theorem rnext9_any (tick : Int) (p : Option Addr) (n cap : Nat) (L : List X) (w : World) (hn : L.length = n) (hn2 : n ≤ 1000) (h : XC w p L) :
    Calls Try.prog 12 #[.agg #[.int .u64 tick, .slice p n cap]] w (Nexts9 w L) := by
  obtain ⟨W1, hW1⟩ : ∃ W1, w.alloc (.cells #[.int .u64 tick, .slice p n cap] 30) = W1 := ⟨_, rfl⟩
  have hb1 : Below w.heap.size w W1 := by rw [← hW1]; exact (Below.refl _ _).alloc (Nat.le_refl _) _
  have hlt1 : w.heap.size < W1.heap.size := by rw [← hW1]; simp
  have e : W1.heap[w.heap.size]? = some (.cells #[.int .u64 tick, .slice p n cap] 30) := by rw [← hW1]; exact (MapKept.heap_alloc _ _).1
  have hc0 : W1.cell? ⟨w.heap.size, 0, none⟩ = some (.int .u64 tick) := by simp only [World.cell?, e]; rfl
  have hc1 : W1.cell? ⟨w.heap.size, 1, none⟩ = some (.slice p n cap) := by simp only [World.cell?, e]; rfl
  have h1 := h.below hb1 (Nat.le_refl _)
  have HL := Lib.hid (rleast_any tick p n cap L W1 hn hn2 h1)
  have HN := Lib.hid hn
  have HT := Lib.hid h1
  have HB := Lib.hid hb1
  have HLT := Lib.hid hlt1
  have HC1 := Lib.hid hc1
  clear hn h h1 hb1 hlt1 e
  go_enter Try.func12, Try.ntmps12
  go_wp2_with (go_at_call 30; refine HL.out.mono ?_)
  rintro e w2 ⟨z, rfl, hz, hb2⟩
  have hcw := (hb2.cell (p := ⟨w.heap.size, 1, none⟩) HLT.out).trans HC1.out
  have HB2 := Lib.hid (HB.out.trans (hb2.mono HB.out.size))
  rcases hz with ⟨hL, hz⟩ | ⟨k, hz, hF⟩
  · subst hz
    have HF : Hid (nxt (L.map nu) = none) := Lib.hid (by rw [hL]; rfl)
    clear hL hb2 hc0 hc1 HL
    go_wp2
    go_ret2
    exact ⟨by rw [HF.out]; rfl, HB2.out⟩
  · subst hz
    have hkn : k < n := by rw [← HN.out]; exact hF.1
    have hkz : (k : Int) < (n : Int) := by omega
    obtain ⟨g, rfl, hg, hx0, hx1, hx2⟩ := (HT.out.below hb2 (Nat.le_refl _)) k hF.1
    have hnx := hF.nxt
    obtain ⟨t, ht⟩ : ∃ t, (L.getD k x0).tick = t := ⟨_, rfl⟩
    rw [ht] at hx2 hnx
    obtain ⟨zt, hzt⟩ : ∃ z : Int, (t : Int) = z := ⟨_, rfl⟩
    rw [hzt] at hx2
    have HF := Lib.hid hnx
    have HZ := Lib.hid hzt
    clear hnx hF hb2 hc0 hc1 HL ht hzt
    go_wp2
    go_ret2
    exact ⟨by rw [HF.out, ← HZ.out]; rfl, HB2.out⟩
theorem take_erase {L : List X} {i j : Nat} (h : i < L.length) : (L.take (i + 1)).eraseIdx j = if i = j then (L.take i).eraseIdx j else (L.take i).eraseIdx j ++ [L.getD i x0] := by
  rw [take_snocX h]
  have hl : (L.take i).length = i := by rw [List.length_take]; omega
  by_cases e : i = j
  · subst e
    rw [if_pos rfl, List.eraseIdx_append_of_length_le (by omega), hl, Nat.sub_self, List.eraseIdx_of_length_le (l := L.take i) (by omega)]
    simp
  · rw [if_neg e]
    rcases Nat.lt_or_ge j i with h1 | h1
    · rw [List.eraseIdx_append_of_lt_length (by omega)]
    · rw [List.eraseIdx_append_of_length_le (by omega), hl, List.eraseIdx_of_length_le (l := L.take i) (by omega), List.eraseIdx_of_length_le (l := [L.getD i x0]) (by simp; omega)]
theorem xcells3 (w : World) (a b c : Int) (ty : TypeId) : ∀ (j : Nat) (u : Value), [Value.int .i64 a, .int .i64 b, .int .u64 c][j]? = some u → (w.alloc (.cells #[.int .i64 a, .int .i64 b, .int .u64 c] ty)).cell? ((⟨w.heap.size, 0, none⟩ : Addr).add j) = some u := by
  intro j u hj
  have hadd : (⟨w.heap.size, 0, none⟩ : Addr).add j = ⟨w.heap.size, j, none⟩ := by unfold Addr.add; split <;> simp_all
  rw [hadd, World.cell?_alloc_at _ _ _ _ rfl]
  match j, hj with
  | 0, hj => simpa using hj
  | 1, hj => simpa using hj
  | 2, hj => simpa using hj
  | (j + 3), hj => simp at hj
theorem xone (a b c : Int) : ∀ u ∈ [Value.int .i64 a, .int .i64 b, .int .u64 c], u.oneCell' = true := by
  intro u hu
  simp only [List.mem_cons, List.not_mem_nil, or_false] at hu
  rcases hu with rfl | rfl | rfl <;> rfl
def Withouts (w : World) (L : List X) (j : Nat) (e : Ending) (w' : World) : Prop := ∃ p m c, e = .returned (.slice p m c) ∧ (L.eraseIdx j).length = m ∧ OwnX w' w.heap.size (.slice p m c) (L.eraseIdx j) ∧ Below w.heap.size w w'
set_option maxHeartbeats 2000000 in
theorem without_any (tick : Int) (p : Option Addr) (n cap : Nat) (L : List X) (k : Nat) (w : World) (hn : L.length = n) (hn2 : n ≤ 1000) (h : XC w p L) :
    Calls Try.prog 38 #[.agg #[.int .u64 tick, .slice p n cap], .int .i64 k] w (Withouts w L k) := by
  obtain ⟨i0, hinf, hz0, hz1, hz2⟩ := info_parts info_T
  have HI := Lib.hid hinf
  have HZ0 := Lib.hid hz0
  have HZ1 := Lib.hid hz1
  have HZ2 := Lib.hid hz2
  obtain ⟨W1, hW1⟩ : ∃ W1, w.alloc (.cells #[.int .u64 tick, .slice p n cap] 30) = W1 := ⟨_, rfl⟩
  obtain ⟨W2, hW2⟩ : ∃ W2, W1.alloc (.cells #[] 39) = W2 := ⟨_, rfl⟩
  have hs1 : W1.heap.size = w.heap.size + 1 := by rw [← hW1]; simp
  have hb1 : Below w.heap.size w W1 := by rw [← hW1]; exact (Below.refl _ _).alloc (Nat.le_refl _) _
  have hb12 : Below W1.heap.size W1 W2 := by rw [← hW2]; exact (Below.refl _ _).alloc (Nat.le_refl _) _
  have e : W1.heap[w.heap.size]? = some (.cells #[.int .u64 tick, .slice p n cap] 30) := by rw [← hW1]; exact (MapKept.heap_alloc _ _).1
  have hown0 : Hid (OwnX W2 (w.heap.size + 1) (.slice (some ⟨w.heap.size + 1, 0, none⟩) 0 0) []) := Lib.hid (by
    rw [← hW2, ← hs1]
    exact World.ownsRow_made W1 #[] 0 (Nat.le_refl _) (by decide) rfl)
  have HE := Lib.hid e
  have HS1 := Lib.hid hs1
  have HB1 := Lib.hid hb1
  have HB12 := Lib.hid hb12
  have HT := Lib.hid (h.below hb1 (Nat.le_refl _))
  have HN := Lib.hid hn
  clear hinf hz0 hz1 hz2 h hn hb1 hb12 e
  go_enter Try.func38, Try.ntmps38
  go_wp2
  go_loopw [5, 6] (fun l i wr => ∃ j : Nat, i = .int .i64 j ∧ j ≤ n ∧ Hid (OwnX wr (w.heap.size + 1) l ((L.take j).eraseIdx k)) ∧ Hid (Below W1.heap.size W1 wr)) (fun _ i _ => n - (intOf i).toNat)
  case atStart => exact ⟨0, rfl, Nat.zero_le _, hown0, HB12⟩
  case round =>
    obtain ⟨j, rfl, hj, ho, hb⟩ := hrel
    have hc1 : wr.cell? ⟨w.heap.size, 1, none⟩ = some (.slice p n cap) := by
      rw [hb.out.cell (p := ⟨w.heap.size, 1, none⟩) (by have := HS1.out; show w.heap.size < W1.heap.size; omega)]
      simp only [World.cell?, HE.out]
      rfl
    by_cases hlt : j < n
    · obtain ⟨g, rfl, hg, hx0, hx1, hx2⟩ := (HT.out.below hb.out (Nat.le_refl _)) j (by rw [HN.out]; exact hlt)
      have hd := take_erase (L := L) (i := j) (j := k) (by rw [HN.out]; exact hlt)
      obtain ⟨⟨q1, q2, q3⟩, hq⟩ : ∃ q, L.getD j x0 = q := ⟨_, rfl⟩
      rw [hq] at hx0 hx1 hx2 hd
      simp only at hx0 hx1 hx2
      obtain ⟨z3, hz3⟩ : ∃ z : Int, (q3 : Int) = z := ⟨_, rfl⟩
      rw [hz3] at hx2
      have HZ := Lib.hid hz3
      have hltz : (j : Int) < (n : Int) := by omega
      by_cases e : j = k
      · subst e
        rw [if_pos rfl] at hd
        have HO : Hid (OwnX wr (w.heap.size + 1) u5 ((L.take (j + 1)).eraseIdx j)) := Lib.hid (by rw [hd]; exact ho.out)
        have hneq : ((j : Int) != (j : Int)) = false := by simp
        clear hd hq hz3 ho
        go_wp2
        go_roundw
        case rel => exact ⟨j + 1, by go_num, hlt, HO, hb⟩
        case measure => simp [intOf]; omega
      · rw [if_neg e] at hd
        have hneq : ((j : Int) != (k : Int)) = true := by rw [bne_iff_ne]; omega
        have hown := ho.out
        have hle : ((L.take j).eraseIdx k).length ≤ n := by
          have h1 := (List.eraseIdx_sublist (L.take j) k).length_le
          rw [List.length_take] at h1
          omega
        obtain ⟨m, hm⟩ : ∃ m, ((L.take j).eraseIdx k).length = m := ⟨_, rfl⟩
        have HM := Lib.hid hm
        have HD := Lib.hid hd
        have hsz := hb.out.size
        unfold OwnX at hown
        rw [hm] at hle
        rw [hm] at hown
        clear hd hq hz3 hm e
        go_wp2_with (at_builtin; refine wpList_append_own _ rfl _ _ 28 rfl (w.heap.size + 1) 39 i0 zT 3 24 Try.underlying28 HI.out HZ0.out HZ1.out HZ2.out rfl (by decide) _ _ _ rfl (World.ownsRow.alloc hown _) ⟨wr.heap.size, 0, none⟩ 1 1 [.int .i64 q1, .int .i64 q2, .int .u64 z3] rfl rfl (xcells3 wr _ _ _ _) (xone _ _ _) (by unfold maxLen; omega) (by omega) (by simp; omega) ?_)
        intro v3 w3 hown3 hgrow hnil
        have hown4 : OwnX w3 (w.heap.size + 1) v3 ((L.take (j + 1)).eraseIdx k) := by
          unfold OwnX
          rw [HD.out, xcells_app, List.length_append, HM.out]
          have e : xcells [⟨q1, q2, q3⟩] = [.int .i64 q1, .int .i64 q2, .int .u64 z3] := by rw [← HZ.out]; rfl
          rw [e]
          exact hown3
        have HO := Lib.hid hown4
        have HB3 := Lib.hid ((hb.out.alloc hb.out.size _).grown hgrow (by simp; omega) (fun x e => by have := (ho.out.kind e).1; have := HS1.out; omega))
        clear hown3 hgrow hnil hown4 hown hx0 hx1 hx2 hc1
        go_wp2
        go_roundw
        case rel => exact ⟨j + 1, by go_num, hlt, HO, HB3⟩
        case measure => simp [intOf]; omega
    · have e1 : j = n := by omega
      subst e1
      have hfin := ho.out
      rw [List.take_of_length_le (by rw [HN.out]; exact Nat.le_refl _)] at hfin
      obtain ⟨p5, c5, hv5, _, _⟩ := hfin.view
      have HF : Hid (Withouts w L k (.returned u5) wr) := Lib.hid (by
        rw [hv5] at hfin ⊢
        exact ⟨p5, _, c5, rfl, rfl, hfin.mono (by have := HS1.out; omega), HB1.out.trans (hb.out.mono (by have := HS1.out; omega))⟩)
      clear hv5 hfin ho hb
      go_wp2
      go_ret
      exact HF.out
end Go.Proofs.Ytlhajdmleefkiaa
