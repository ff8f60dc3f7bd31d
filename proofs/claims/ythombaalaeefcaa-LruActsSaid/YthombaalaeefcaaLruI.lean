/-
  THE PAGE OF LAYER 12 (lru), part I: Keys, Drop.
-/
import Derived.Test.YthombaalaeefcaaLruH
namespace Go.Proofs.Ythombaalaeefcaa
open Go.RowKit Lr Ft Bt
set_option linter.unusedVariables false
set_option maxHeartbeats 2000000 in
theorem rkeys_any (room : Int) (p : Option Addr) (n cap : Nat) (L : List KV) (w : World) (hn : L.length = n) (hn2 : n ≤ 1000) (h : KC w p L) :
    Calls Try.prog 11 #[.agg #[.int .i64 room, .slice p n cap]] w (Keyss w (kys L)) := by
  obtain ⟨i0, hinf, hz0, hz1, hz2⟩ := info_parts info_str12
  have HI := Lib.hid hinf
  have HZ0 := Lib.hid hz0
  have HZ1 := Lib.hid hz1
  have HZ2 := Lib.hid hz2
  obtain ⟨W1, hW1⟩ : ∃ W1, w.alloc (.cells #[.int .i64 room, .slice p n cap] 29) = W1 := ⟨_, rfl⟩
  obtain ⟨W2, hW2⟩ : ∃ W2, W1.alloc (.cells #[] 9) = W2 := ⟨_, rfl⟩
  have hs1 : W1.heap.size = w.heap.size + 1 := by rw [← hW1]; simp
  have hb1 : Below w.heap.size w W1 := by rw [← hW1]; exact (Below.refl _ _).alloc (Nat.le_refl _) _
  have hb12 : Below W1.heap.size W1 W2 := by rw [← hW2]; exact (Below.refl _ _).alloc (Nat.le_refl _) _
  have e : W1.heap[w.heap.size]? = some (.cells #[.int .i64 room, .slice p n cap] 29) := by rw [← hW1]; exact (MapKept.heap_alloc _ _).1
  have hown0 : Hid (OwnS W2 (w.heap.size + 1) (.slice (some ⟨w.heap.size + 1, 0, none⟩) 0 0) []) := Lib.hid (by
    rw [← hW2, ← hs1]
    exact World.ownsRow_made W1 #[] 0 (Nat.le_refl _) (by decide) rfl)
  have HE := Lib.hid e
  have HS1 := Lib.hid hs1
  have HB1 := Lib.hid hb1
  have HB12 := Lib.hid hb12
  have HT := Lib.hid (h.below hb1 (Nat.le_refl _))
  have HN := Lib.hid hn
  clear hinf hz0 hz1 hz2 h hn hb1 hb12 e
  go_enter Try.func11, Try.ntmps11
  go_wp2
  go_loopw [3, 4] (fun l i wr => ∃ j : Nat, i = .int .i64 j ∧ j ≤ n ∧ Hid (OwnS wr (w.heap.size + 1) l ((kys L).take j)) ∧ Hid (Below W1.heap.size W1 wr)) (fun _ i _ => n - (intOf i).toNat)
  case atStart => exact ⟨0, rfl, Nat.zero_le _, hown0, HB12⟩
  case round =>
    obtain ⟨j, rfl, hj, ho, hb⟩ := hrel
    have hc1 : wr.cell? ⟨w.heap.size, 1, none⟩ = some (.slice p n cap) := by
      rw [hb.out.cell (p := ⟨w.heap.size, 1, none⟩) (by have := HS1.out; show w.heap.size < W1.heap.size; omega)]
      simp only [World.cell?, HE.out]
      rfl
    by_cases hlt : j < n
    · obtain ⟨g, rfl, hg, hx0, hx1⟩ := (HT.out.below hb.out (Nat.le_refl _)) j (by rw [HN.out]; exact hlt)
      obtain ⟨q1, hq⟩ : ∃ q, (L.getD j kv0).1 = q := ⟨_, rfl⟩
      rw [hq] at hx0
      have hkj : (kys L).take (j + 1) = (kys L).take j ++ [q1] := by
        rw [take_getD (by rw [kys_len, HN.out]; exact hlt), ← hq]
        congr 2
        unfold kys
        rw [List.getD_eq_getElem?_getD, List.getD_eq_getElem?_getD, List.getElem?_map, List.getElem?_eq_getElem (by rw [HN.out]; exact hlt)]
        rfl
      have HKJ := Lib.hid hkj
      have hlj : ((kys L).take j).length = j := by rw [List.length_take, kys_len, HN.out]; omega
      have HLJ := Lib.hid hlj
      have hltz : (j : Int) < (n : Int) := by omega
      have hown := ho.out
      unfold OwnS at hown
      rw [hlj] at hown
      have hsz := hb.out.size
      clear hkj hlj hq hx1
      go_wp2_with (at_builtin; refine wpList_append_own _ rfl _ _ 34 rfl (w.heap.size + 1) 9 i0 (.string ByteArray.empty) 1 16 Try.underlying34 HI.out HZ0.out HZ1.out HZ2.out rfl (by decide) _ _ _ rfl (World.ownsRow.alloc hown _) ⟨wr.heap.size, 0, none⟩ 1 1 [.string q1] rfl rfl (scells1 wr _ _) (sone _) (by unfold maxLen; omega) (by omega) (by simp; omega) ?_)
      intro v3 w3 hown3 hgrow hnil
      have HO : Hid (OwnS w3 (w.heap.size + 1) v3 ((kys L).take (j + 1))) := Lib.hid (by
        unfold OwnS
        rw [HKJ.out, sc_app, List.length_append, HLJ.out]
        exact hown3)
      have HB3 := Lib.hid ((hb.out.alloc hb.out.size _).grown hgrow (by simp; omega) (fun x e => by have := (ho.out.kind e).1; have := HS1.out; omega))
      clear hown3 hgrow hnil hown hx0 hc1
      go_wp2
      go_roundw
      case rel => exact ⟨j + 1, by go_num, hlt, HO, HB3⟩
      case measure => simp [intOf]; omega
    · have e1 : j = n := by omega
      subst e1
      have hfin := ho.out
      rw [List.take_of_length_le (by rw [kys_len, HN.out]; exact Nat.le_refl _)] at hfin
      obtain ⟨p5, c5, hv5, _, _⟩ := hfin.view
      have HF : Hid (Keyss w (kys L) (.returned u3) wr) := Lib.hid (by
        rw [hv5] at hfin ⊢
        exact ⟨p5, _, c5, rfl, rfl, hfin.mono (by have := HS1.out; omega), HB1.out.trans (hb.out.mono (by have := HS1.out; omega))⟩)
      clear hv5 hfin ho hb
      go_wp2
      go_ret
      exact HF.out
namespace Lr
def rfd (br : Nat) (v : Value) (x : Nat) : Prop := x = br ∨ v.ownBlock = some x
/-- the page's table in memory: two cells, a row -/
structure RP (w : World) (br : Nat) (v : Value) (room : Nat) (L : List KV) : Prop where
  kind : Kd w br 29
  c0 : w.cell? ⟨br, 0, none⟩ = some (.int .i64 room)
  c1 : w.cell? ⟨br, 1, none⟩ = some v
  own : OwnK w 0 v L
  len : L.length ≤ 1000
section
variable {w w' : World} {br room : Nat} {v : Value} {L : List KV}
theorem own_ne_br {L' : List KV} {B : Nat} {v' : Value} (h : OwnK w B v' L') (hk : Kd w br 29) {g : Nat} (hg : v'.ownBlock = some g) : g ≠ br := (h.kind hg).2.2.ne hk (by decide)
theorem RP.lt_fp (h : RP w br v room L) {x : Nat} (hx : rfd br v x) : x < w.heap.size := by
  rcases hx with rfl | hx
  · exact h.kind.lt
  · exact (h.own.kind hx).2.1
theorem RP.same (h : RP w br v room L) (hb : ∀ x, rfd br v x → w'.heap[x]? = w.heap[x]?) : RP w' br v room L where
  kind := h.kind.block (hb _ (Or.inl rfl))
  c0 := by rw [World.cell?_of_block (hb _ (Or.inl rfl))]; exact h.c0
  c1 := by rw [World.cell?_of_block (hb _ (Or.inl rfl))]; exact h.c1
  own := h.own.block (fun g e => hb g (Or.inr e))
  len := h.len
theorem RP.below (h : RP w br v room L) (hb : Below w.heap.size w w') : RP w' br v room L := h.same fun x hx => hb.block x (h.lt_fp hx)
theorem RP.mv {S : Nat → Prop} (h : RP w br v room L) (hm : Mv S w w') (hs : ∀ x, rfd br v x → ¬ S x) : RP w' br v room L := h.same fun x hx => hm.block x (h.lt_fp hx) (hs x hx)
/-- another row is laid in -/
theorem RP.lay (h : RP w br v room L) {v' : Value} {L' : List KV} {B : Nat} (ho : OwnK w B v' L') (hl : L'.length ≤ 1000) : RP (w.setCell ⟨br, 1, none⟩ v') br v' room L' where
  kind := h.kind.set _ _
  c0 := (cset_other (Or.inr (by omega))).trans h.c0
  c1 := cset_same h.c1
  own := (ho.mono (Nat.zero_le _)).block (fun g e => Below.heap_setCell _ _ _ _ (own_ne_br ho h.kind e))
  len := hl
end
/-- the page's table, come out of that in w0 -/
def RG (w0 : World) (br : Nat) (v0 : Value) (room : Nat) (L : List KV) (w : World) : Prop := ∃ v, RP w br v room L ∧ Gs (rfd br v0) w0 (rfd br v) w
theorem take_erase {L : List KV} {i j : Nat} (h : i < L.length) : (L.take (i + 1)).eraseIdx j = if i = j then (L.take i).eraseIdx j else (L.take i).eraseIdx j ++ [L.getD i kv0] := by
  have h0 : L.take (i + 1) = L.take i ++ [L.getD i kv0] := by
    rw [List.take_succ_eq_append_getElem h, List.getD_eq_getElem?_getD, List.getElem?_eq_getElem h]
    rfl
  rw [h0]
  have hl : (L.take i).length = i := by rw [List.length_take]; omega
  by_cases e : i = j
  · subst e
    rw [if_pos rfl, List.eraseIdx_append_of_length_le (by omega), hl, Nat.sub_self, List.eraseIdx_of_length_le (l := L.take i) (by omega)]
    simp
  · rw [if_neg e]
    rcases Nat.lt_or_ge j i with h1 | h1
    · rw [List.eraseIdx_append_of_lt_length (by omega)]
    · rw [List.eraseIdx_append_of_length_le (by omega), hl, List.eraseIdx_of_length_le (l := L.take i) (by omega), List.eraseIdx_of_length_le (l := [L.getD i kv0]) (by simp; omega)]
theorem kcells2 (w : World) (k : ByteArray) (v : Int) (ty : TypeId) : ∀ (j : Nat) (u : Value), [Value.string k, .int .i64 v][j]? = some u → (w.alloc (.cells #[.string k, .int .i64 v] ty)).cell? ((⟨w.heap.size, 0, none⟩ : Addr).add j) = some u := by
  intro j u hj
  have hadd : (⟨w.heap.size, 0, none⟩ : Addr).add j = ⟨w.heap.size, j, none⟩ := by unfold Addr.add; split <;> simp_all
  rw [hadd, World.cell?_alloc_at _ _ _ _ rfl]
  match j, hj with
  | 0, hj => simpa using hj
  | 1, hj => simpa using hj
  | (j + 2), hj => simp at hj
theorem kone (k : ByteArray) (v : Int) : ∀ u ∈ [Value.string k, .int .i64 v], u.oneCell' = true := by
  intro u hu
  simp only [List.mem_cons, List.not_mem_nil, or_false] at hu
  rcases hu with rfl | rfl <;> rfl
end Lr
def zK : Value := .agg #[.string ByteArray.empty, .int .i64 0]
theorem info_K : (Try.prog.info? 55).map (fun i => (i.zero, i.size, i.bytes)) = some (some zK, 2, 24) := by kernel_rfl
section
variable {w w' : World} {br room : Nat} {v : Value} {L : List KV}
theorem Lr.RG.start (h : RP w br v room L) : RG w br v room L w := ⟨v, h, Gs.refl _ _⟩
theorem Lr.RG.below (h : RG w br v room L w') {w2 : World} (hb : Below w'.heap.size w' w2) : RG w br v room L w2 := by
  obtain ⟨v', h1, h2⟩ := h
  exact ⟨v', h1.below hb, h2.trans (Gs.below hb)⟩
set_option maxHeartbeats 2000000 in
theorem rdrop_any (h : RP w br v room L) (hks : Ks L) (k : ByteArray) : Calls Try.prog 20 #[.pointer (some ⟨br, 0, none⟩), .string k] w fun e w' => e = .returned (.bool (fd L k).isSome) ∧ RG w br v room (drp L k) w' := by
  have HH := Lib.hid h
  obtain ⟨p, cap, hv, hmx, hkc⟩ := h.own.view
  have hc0 := h.c0
  have hc1 := h.c1
  obtain ⟨n, hn⟩ : ∃ n, L.length = n := ⟨_, rfl⟩
  rw [hn] at hv
  rw [hv] at hc1
  obtain ⟨zt, hzt⟩ : ∃ z : Int, (room : Int) = z := ⟨_, rfl⟩
  rw [hzt] at hc0
  have hn2 : n ≤ 1000 := by have := h.len; omega
  have HF := Lib.hid (rfind_any zt p n cap L k w hn hn2 hkc)
  have HN := Lib.hid hn
  have HV := Lib.hid hv
  have HZ := Lib.hid hzt
  have HKC := Lib.hid hkc
  have hfx := fd_ix L k
  clear h hn hv hzt hkc
  cases hp : ix L k with
  | none =>
    rw [hp] at HF hfx
    have hd : drp L k = L := drp_none (fd_none.1 hfx)
    rw [hd, hfx]
    clear hd hp hfx
    unfold pz at HF
    go_enter Try.func20, Try.ntmps20
    go_wp2_with (go_at_call 25; refine HF.out.mono ?_)
    first | rintro e w1 rfl hb1 | rintro e w1 ⟨rfl, hb1⟩
    have hfin : Hid (RG w br v room L w1) := Lib.hid ((RG.start HH.out).below hb1)
    clear hb1 hc0 hc1
    go_wp2
    go_ret
    exact ⟨rfl, hfin.out⟩
  | some j =>
    rw [hp] at HF hfx
    have hd : drp L k = L.eraseIdx j := (drp_erase hks hp).symm
    rw [hd, hfx]
    have hj0 : ¬ ((j : Int) < 0) := by omega
    unfold pz at HF
    simp only [Option.map_some, Option.isSome_some]
    clear hd hp hfx
    obtain ⟨i0, hinf, hz0, hz1, hz2⟩ := info_parts info_K
    have HI := Lib.hid hinf
    have HZ0 := Lib.hid hz0
    have HZ1 := Lib.hid hz1
    have HZ2 := Lib.hid hz2
    clear hinf hz0 hz1 hz2
    go_enter Try.func20, Try.ntmps20
    go_wp2_with (go_at_call 25; refine HF.out.mono ?_)
    first | rintro e w1 rfl hb1 | rintro e w1 ⟨rfl, hb1⟩
    have h1 := HH.out.below hb1
    obtain ⟨W2, hW2⟩ : ∃ W2, w1.alloc (.cells #[] 55) = W2 := ⟨_, rfl⟩
    have hb12 : Below w1.heap.size w1 W2 := by rw [← hW2]; exact (Below.refl _ _).alloc (Nat.le_refl _) _
    have hown0 : Hid (OwnK W2 w1.heap.size (.slice (some ⟨w1.heap.size, 0, none⟩) 0 0) []) := Lib.hid (by
      rw [← hW2]
      exact World.ownsRow_made w1 #[] 0 (Nat.le_refl _) (by decide) rfl)
    have H1 := Lib.hid h1
    have HB1 := Lib.hid hb1
    have HB12 := Lib.hid hb12
    have HK1 := Lib.hid (HKC.out.below hb1 (Nat.le_refl _))
    clear hb1 h1 hb12 hc0 hc1
    go_wp2
    go_loopw [6, 7] (fun l i wr => ∃ m : Nat, i = .int .i64 m ∧ m ≤ n ∧ Hid (OwnK wr w1.heap.size l ((L.take m).eraseIdx j)) ∧ Hid (Below w1.heap.size w1 wr)) (fun _ i _ => n - (intOf i).toNat)
    case atStart => exact ⟨0, rfl, Nat.zero_le _, hown0, HB12⟩
    case round =>
      obtain ⟨m, rfl, hm, ho, hb⟩ := hrel
      have hr := H1.out.below hb.out
      have hc1 := hr.c1
      rw [HV.out] at hc1
      have hfz := hr.kind.frozen 1
      by_cases hlt : m < n
      · obtain ⟨g, rfl, hg, hx0, hx1⟩ := (HK1.out.below hb.out (Nat.le_refl _)) m (by rw [HN.out]; exact hlt)
        have hd := take_erase (L := L) (i := m) (j := j) (by rw [HN.out]; exact hlt)
        obtain ⟨⟨q1, q2⟩, hq⟩ : ∃ q, L.getD m kv0 = q := ⟨_, rfl⟩
        rw [hq] at hx0 hx1 hd
        simp only at hx0 hx1
        have hltz : (m : Int) < (n : Int) := by omega
        by_cases e : m = j
        · subst e
          rw [if_pos rfl] at hd
          have HO : Hid (OwnK wr w1.heap.size u6 ((L.take (m + 1)).eraseIdx m)) := Lib.hid (by rw [hd]; exact ho.out)
          have hneq : ((m : Int) != (m : Int)) = false := by simp
          clear hd hq ho hr
          go_wp2
          go_roundw
          case rel => exact ⟨m + 1, by go_num, hlt, HO, hb⟩
          case measure => simp [intOf]; omega
        · rw [if_neg e] at hd
          have hneq : ((m : Int) != (j : Int)) = true := by rw [bne_iff_ne]; omega
          have hown := ho.out
          have hle : ((L.take m).eraseIdx j).length ≤ n := by
            have h1 := (List.eraseIdx_sublist (L.take m) j).length_le
            rw [List.length_take] at h1
            omega
          obtain ⟨l, hl⟩ : ∃ l, ((L.take m).eraseIdx j).length = l := ⟨_, rfl⟩
          have HM := Lib.hid hl
          have HD := Lib.hid hd
          have hsz := hb.out.size
          unfold OwnK at hown
          rw [hl] at hle
          rw [hl] at hown
          clear hd hq hl e hr
          go_wp2_with (at_builtin; refine wpList_append_own _ rfl _ _ 27 rfl w1.heap.size 55 i0 zK 2 24 Try.underlying27 HI.out HZ0.out HZ1.out HZ2.out rfl (by decide) _ _ _ rfl (World.ownsRow.alloc hown _) ⟨wr.heap.size, 0, none⟩ 1 1 [.string q1, .int .i64 q2] rfl rfl (kcells2 wr _ _ _) (kone _ _) (by unfold maxLen; omega) (by omega) (by simp; omega) ?_)
          intro v3 w3 hown3 hgrow hnil
          have HO : Hid (OwnK w3 w1.heap.size v3 ((L.take (m + 1)).eraseIdx j)) := Lib.hid (by
            unfold OwnK
            rw [HD.out, kcells_app, List.length_append, HM.out]
            exact hown3)
          have HB3 := Lib.hid ((hb.out.alloc hb.out.size _).grown hgrow (by simp; omega) (fun x e => (ho.out.kind e).1))
          clear hown3 hgrow hnil hown hx0 hx1 hc1
          go_wp2
          go_roundw
          case rel => exact ⟨m + 1, by go_num, hlt, HO, HB3⟩
          case measure => simp [intOf]; omega
      · have e1 : m = n := by omega
        subst e1
        have hfin := ho.out
        rw [List.take_of_length_le (by rw [HN.out]; exact Nat.le_refl _)] at hfin
        obtain ⟨p5, c5, hv5, _, _⟩ := hfin.view
        have hlay := hr.lay hfin (by have h3 := (List.eraseIdx_sublist L j).length_le; have h4 := HH.out.len; omega)
        have HFIN : Hid (RG w br v room (L.eraseIdx j) (wr.setCell ⟨br, 1, none⟩ u6)) := Lib.hid ⟨u6, hlay, fun x hx => by
          rcases hx with hx | hx
          · exact Or.inl (Or.inl hx)
          · exact Or.inr (Nat.le_trans HB1.out.size (hfin.kind hx).1), (((Mv.of_below HB1.out).trans (Mv.of_below hb.out) (S := rfd br v) (S' := rfd br v) (fun _ _ e => e))).trans (Mv.setCell (S := rfd br v) _ _ _ (Or.inl rfl)) (fun _ _ e => e)⟩
        rw [hv5] at HFIN ⊢
        clear hv5 hfin ho hlay hr
        go_wp2
        go_ret
        exact ⟨rfl, HFIN.out⟩
end
end Go.Proofs.Ythombaalaeefcaa
