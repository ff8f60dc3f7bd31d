/-
  THE PAGE OF LAYER 12 (lru), part J: Put, Get.
-/
import Derived.Test.YthombaalaeefcaaLruI
import Derived.Laws.AppendOwnNone
namespace Go.Proofs.Ythombaalaeefcaa
open Go.RowKit Lr Ft Bt
set_option linter.unusedVariables false
section
variable {ops : Array Oper} {rest : List Oper} {o : Oper} {a : Act} {Q : Exit → Act → World → Prop}
/-- append of one row of things to another -/
theorem wp_joinK (w : World) (hg : o.guard = none) (s x : Operand) (ho : o.op = .call { callee := .builtin .append, args := #[s, x], argTypes := #[27, 27] })
    (B : Nat) (v u : Value) (l1 l2 : List KV) (hs : a.eval s = v) (hx : a.eval x = u) (hv : OwnK w B v l1) (hu : OwnK w 0 u l2) (hlen : l1.length + l2.length ≤ 2000) (hB : B ≤ w.heap.size)
    (hQ : ∀ v' w', OwnK w' B v' (l1 ++ l2) → w.grownBy w' v.ownBlock → wpList Try.prog ops Q rest (a.put o.dst v') w') : wpList Try.prog ops Q (o :: rest) a w := by
  obtain ⟨i0, hinf, hz0, hz1, hz2⟩ := info_parts info_K
  rcases hu.2 with ⟨rfl, h0⟩ | ⟨g, cap, cur, rfl, hbg, hgg, hle, hmx, hcs, htk⟩
  · have hl2 : l2 = [] := List.eq_nil_of_length_eq_zero h0
    subst hl2
    rw [List.append_nil] at hQ
    exact wpList_append_own_none hg s x 27 ho B 55 i0 2 Try.underlying27 hinf v l1.length (kcells l1) hs hv hx (hQ v w hv ⟨rfl, rfl, rfl, Nat.le_refl _, fun _ _ _ => rfl⟩)
  · refine wpList_append_own w hg s x 27 ho B 55 i0 zK 2 24 Try.underlying27 hinf hz0 hz1 hz2 rfl (by decide) v l1.length (kcells l1) hs hv ⟨g, 0, none⟩ l2.length cap (kcells l2) hx (kcells_len _) (fun j u' hj => ?_) (fun u hu => ?_) (by unfold maxLen; omega) (by omega) hB (fun v' w' h1 h2 _ => hQ v' w' ?_ h2)
    · have hlt : j < l2.length * 2 := by
        have := (List.getElem?_eq_some_iff.1 hj).1
        rw [kcells_len] at this
        exact this
      have hadd : (⟨g, 0, none⟩ : Addr).add j = ⟨g, j, none⟩ := by unfold Addr.add; split <;> simp_all
      rw [hadd]
      exact (World.ownsRow.cellAt hu j hlt).trans hj
    · unfold kcells at hu
      rw [List.mem_flatMap] at hu
      obtain ⟨y, _, hy⟩ := hu
      exact kone _ _ u hy
    · unfold OwnK
      rw [kcells_app, List.length_append]
      exact h1
end
section
variable {w w' : World} {br room : Nat} {v : Value} {L : List KV}
set_option maxHeartbeats 2000000 in
theorem rput_any (h : RP w br v room L) (hks : Ks L) (k : ByteArray) (x : Int) (hpos : 0 < room) (hfit : L.length ≤ room) (hlen : L.length < 1000) :
    Calls Try.prog 17 #[.pointer (some ⟨br, 0, none⟩), .string k, .int .i64 x] w fun e w' => e = .returned (.tuple #[.string (gk room L k), .bool (gb room L k)]) ∧ RG w br v room (pt room L k x) w' := by
  have HD := Lib.hid (rdrop_any h hks k)
  have HLE := Lib.hid (drp_le L k)
  obtain ⟨zr, hzr⟩ : ∃ z : Int, (room : Int) = z := ⟨_, rfl⟩
  have HZR := Lib.hid hzr
  obtain ⟨bd, hbd⟩ : ∃ b, (fd L k).isSome = b := ⟨_, rfl⟩
  rw [hbd] at HD
  have HLEN := Lib.hid hlen
  have HFIT := Lib.hid hfit
  have HKS := Lib.hid hks
  have HPOS := Lib.hid hpos
  obtain ⟨L1, hL1⟩ : ∃ L1, drp L k = L1 := ⟨_, rfl⟩
  have HL1 := Lib.hid hL1
  rw [hL1] at HD HLE
  clear h hbd hlen hfit hks hpos hzr hL1
  go_enter Try.func17, Try.ntmps17
  go_wp2_with (go_at_call 20; refine HD.out.mono ?_)
  rintro e wa ⟨rfl, v1, h1, hg1⟩
  obtain ⟨W2, hW2⟩ : ∃ W2, wa.alloc (.cells #[.string k, .int .i64 x] 55) = W2 := ⟨_, rfl⟩
  have hb2 : Below wa.heap.size wa W2 := by rw [← hW2]; exact (Below.refl _ _).alloc (Nat.le_refl _) _
  have hown : OwnK W2 wa.heap.size (.slice (some ⟨wa.heap.size, 0, none⟩) 1 1) [(k, x)] := by
    rw [← hW2]
    exact World.ownsRow_lit wa #[.string k, .int .i64 x] 1 (Nat.le_refl _) (by unfold maxLen; omega) rfl
  have h2 := h1.below hb2
  have hcw := h2.c1
  have hu := h2.own
  have hl12 : [(k, x)].length + L1.length ≤ 2000 := by have := HLEN.out; have := HLE.out; simp only [List.length_cons, List.length_nil]; omega
  have hsz2 : wa.heap.size ≤ W2.heap.size := hb2.size
  have H1 := Lib.hid h1
  have HG1 := Lib.hid hg1
  have HB2 := Lib.hid hb2
  clear h1 hg1 h2 hb2 HD
  go_wp2_with (at_builtin; refine wp_joinK _ rfl _ _ rfl wa.heap.size _ _ [(k, x)] L1 rfl rfl hown hu hl12 hsz2 ?_)
  intro v3 w3 hown3 hgr3
  have hown3' : OwnK w3 wa.heap.size v3 ((k, x) :: L1) := hown3
  have hb3 : Below wa.heap.size wa w3 := HB2.out.grown hgr3 hsz2 (fun g e => Nat.le_of_eq (Option.some.inj e))
  have h3 := H1.out.below hb3
  obtain ⟨p3, c3, hv3, _, hkc3⟩ := hown3'.view
  obtain ⟨N, hN⟩ : ∃ N, ((k, x) :: L1).length = N := ⟨_, rfl⟩
  rw [hN] at hv3
  subst hv3
  obtain ⟨W4, hW4⟩ : ∃ W4, w3.setCell ⟨br, 1, none⟩ (.slice p3 N c3) = W4 := ⟨_, rfl⟩
  have h4 : RP W4 br (.slice p3 N c3) room ((k, x) :: L1) := by
    rw [← hW4]
    exact h3.lay hown3' (by have := HLEN.out; have := HLE.out; rw [List.length_cons]; omega)
  have hG4 : Gs (rfd br v) w (rfd br (.slice p3 N c3)) W4 := by
    refine HG1.out.trans ⟨fun y hy => ?_, ?_⟩
    · rcases hy with hy | hy
      · exact Or.inl (Or.inl hy)
      · exact Or.inr (hown3'.kind hy).1
    · rw [← hW4]
      exact (Mv.of_below (S := rfd br v1) hb3).trans (Mv.setCell (S := rfd br v1) _ _ _ (Or.inl rfl)) (fun _ _ e => e)
  have hfz3 := h3.kind.frozen 1
  have hd3 := h3.c1
  have hN1 : N ≤ 1000 := by rw [← hN]; exact h4.len
  have h5 := h4.below (Below.refl W4.heap.size W4).drew
  have q0 := h5.c0
  have q1 := h5.c1
  rw [HZR.out] at q0
  have HG4 := Lib.hid hG4
  have H4 := Lib.hid h4
  have HN := Lib.hid hN
  have HKC : Hid (KC W4.drew p3 ((k, x) :: L1)) := Lib.hid (by
    obtain ⟨p9, c9, e9, _, hk9⟩ := h5.own.view
    rw [hN] at e9
    injection e9 with e9 _ _
    rw [e9]
    exact hk9)
  clear hown3 hown3' hgr3 hb3 h3 hkc3 h4 hG4 h5 hown hcw hu hl12 hsz2 hN hW2
  by_cases hg : L1.length < room
  · have HR : Hid (gk room L k = ByteArray.empty ∧ gb room L k = false ∧ pt room L k x = (k, x) :: L1) := Lib.hid (by
      have h9 := HL1.out
      refine ⟨by unfold gk; rw [h9, if_pos hg], by unfold gb; rw [h9]; exact decide_eq_false (by omega), by rw [pt_fits x (by rw [h9]; exact hg), h9]⟩)
    have hle : (N : Int) ≤ zr := by have := HZR.out; have := HN.out; rw [List.length_cons] at this; omega
    have HF : Hid (RG w br v room ((k, x) :: L1) W4.drew) := Lib.hid ⟨_, H4.out.below (Below.refl _ _).drew, HG4.out.trans (Gs.below (Below.refl _ _).drew)⟩
    clear hg
    go_wp2_with fail
    refine wp_region_text (S := (fun w9 => w9 = W4.drew)) (by kernel_rfl) ?_ ?_
    · rfl
    repeat (first
      | (refine anyR_value (v := ?_) (by kernel_rfl) (by rfl) (fun _ _ _ h => h) (fun w1 hS => ?_) ?_
         rotate_left
         · rw [hS]
           go_simp
           with_reducible rfl
         simp only [Act.put, List.setIfInBounds_toArray, List.set_cons_zero, List.set_cons_succ])
      | (refine anyR_not (by kernel_rfl) (by rfl) (fun _ _ _ h => h) ?_
         simp only [Act.put, List.setIfInBounds_toArray, List.set_cons_zero, List.set_cons_succ])
      | (refine anyR_call (v := ?_) (f := ?_) (args := ?_) (by kernel_rfl) (by rfl) (fun _ _ _ h => h) (fun w1 hS => ?_) (fun w1 hS => ?_) ?_
         rotate_left 3
         · go_simp
           (try constructor) <;> with_reducible rfl
         · first
             | (fail)
         simp only [Act.put, List.setIfInBounds_toArray, List.set_cons_zero, List.set_cons_succ])
      | refine anyR_done (by kernel_rfl) (fun w1 hS => ?_))
    have e9 : w1 = W4.drew := hS
    subst e9
    clear hS
    go_wp2
    go_ret2
    rw [HR.out.1, HR.out.2.1, HR.out.2.2]
    exact ⟨rfl, HF.out⟩
  · have hpl := pt_last HKS.out HPOS.out (k := k) (v := x) HFIT.out (by rw [HL1.out]; omega)
    obtain ⟨A, z, hz⟩ : ∃ A z, L1 = A ++ [z] := by
      rcases List.eq_nil_or_concat L1 with h1 | ⟨A, z, h1⟩
      · rw [HL1.out, h1] at hpl; exact absurd rfl hpl.1
      · exact ⟨A, z, by rw [h1, List.concat_eq_append]⟩
    have hlA : A.length + 1 = L1.length := by rw [hz, List.length_append]; rfl
    have hN2 : N = A.length + 2 := by rw [← HN.out, List.length_cons, ← hlA]
    have hgk : gk room L k = z.1 := by
      unfold gk
      rw [HL1.out, if_neg hg, hz]
      simp
    have hget : ((k, x) :: L1).getD (A.length + 1) kv0 = z := by
      rw [hz, List.getD_cons_succ, List.getD_eq_getElem?_getD, List.getElem?_append_right (Nat.le_refl _)]
      simp
    obtain ⟨g3, hpg, _, hx0, hx1⟩ := HKC.out (A.length + 1) (by rw [HN.out]; omega)
    rw [hget] at hx0
    obtain ⟨j, hj⟩ : ∃ j, A.length + 1 = j := ⟨_, rfl⟩
    rw [hj] at hx0
    obtain ⟨K1, hK1⟩ : ∃ K1, z.1 = K1 := ⟨_, rfl⟩
    rw [hK1] at hgk hx0
    rw [hgk, HL1.out] at hpl
    have HPL := Lib.hid hpl.2
    have hgb : gb room L k = true := by unfold gb; rw [HL1.out]; exact decide_eq_true (by omega)
    have HGB := Lib.hid hgb
    have HGK := Lib.hid hgk
    have hle : ¬ (N : Int) ≤ zr := by have := HZR.out; omega
    have hwr : IntKind.i64.wrap ((N : Int) - 1) = (j : Int) := by rw [IntKind.wrap_i64]; omega
    have hjn : (j : Int) < (N : Int) := by omega
    have hj0 : ¬ (j : Int) < 0 := by omega
    subst hpg
    have y0 : W4.drew.drew.cell? ⟨br, 1, none⟩ = some (.slice (some ⟨g3, 0, none⟩) N c3) := q1
    have y1 : W4.drew.drew.cell? ⟨g3, j * 2, none⟩ = some (.string K1) := hx0
    clear hpl hz hlA hN2 hgk hget hx1 hj hK1 hgb hg
    go_wp2_with fail
    refine wp_region_text (S := (fun w9 => w9 = W4.drew)) (by kernel_rfl) ?_ ?_
    · rfl
    repeat (first
      | (refine anyR_value (v := ?_) (by kernel_rfl) (by rfl) (fun _ _ _ h => h) (fun w1 hS => ?_) ?_
         rotate_left
         · rw [hS]
           go_simp
           with_reducible rfl
         simp only [Act.put, List.setIfInBounds_toArray, List.set_cons_zero, List.set_cons_succ])
      | (refine anyR_not (by kernel_rfl) (by rfl) (fun _ _ _ h => h) ?_
         simp only [Act.put, List.setIfInBounds_toArray, List.set_cons_zero, List.set_cons_succ])
      | (refine anyR_call (v := ?_) (f := ?_) (args := ?_) (by kernel_rfl) (by rfl) (fun _ _ _ h => h) (fun w1 hS => ?_) (fun w1 hS => ?_) ?_
         rotate_left 3
         · go_simp
           (try constructor) <;> with_reducible rfl
         · first
             | (fail)
         simp only [Act.put, List.setIfInBounds_toArray, List.set_cons_zero, List.set_cons_succ])
      | refine anyR_done (by kernel_rfl) (fun w1 hS => ?_))
    have e9 : w1 = W4.drew := hS
    subst e9
    clear hS
    go_wp2_with fail
    refine wp_region_text (S := (fun w9 => w9 = W4.drew.drew)) (by kernel_rfl) ?_ ?_
    · rfl
    repeat (first
      | (refine anyR_value (v := ?_) (by kernel_rfl) (by rfl) (fun _ _ _ h => h) (fun w1 hS => ?_) ?_
         rotate_left
         · rw [hS]
           go_simp
           with_reducible rfl
         simp only [Act.put, List.setIfInBounds_toArray, List.set_cons_zero, List.set_cons_succ])
      | (refine anyR_not (by kernel_rfl) (by rfl) (fun _ _ _ h => h) ?_
         simp only [Act.put, List.setIfInBounds_toArray, List.set_cons_zero, List.set_cons_succ])
      | (refine anyR_call (v := ?_) (f := ?_) (args := ?_) (by kernel_rfl) (by rfl) (fun _ _ _ h => h) (fun w1 hS => ?_) (fun w1 hS => ?_) ?_
         rotate_left 3
         · go_simp
           (try constructor) <;> with_reducible rfl
         · first
             | (fail)
         simp only [Act.put, List.setIfInBounds_toArray, List.set_cons_zero, List.set_cons_succ])
      | refine anyR_done (by kernel_rfl) (fun w1 hS => ?_))
    have e9 : w1 = W4.drew.drew := hS
    subst e9
    clear hS y0 y1
    have h6 := (H4.out.below (Below.refl W4.heap.size W4).drew).below (Below.refl W4.drew.heap.size W4.drew).drew
    have hks6 : Ks ((k, x) :: L1) := by rw [← HL1.out]; exact HKS.out.cons k x
    have HD6 := Lib.hid (rdrop_any h6 hks6 K1)
    rw [HPL.out] at HD6
    obtain ⟨bd6, hbd6⟩ : ∃ b, (fd ((k, x) :: L1) K1).isSome = b := ⟨_, rfl⟩
    rw [hbd6] at HD6
    clear h6 hks6 hbd6 q0 q1
    go_wp2_with (go_at_call 20; refine HD6.out.mono ?_)
    rintro e w7 ⟨rfl, v7, h7, hg7⟩
    have HF : Hid (RG w br v room (pt room L k x) w7) := Lib.hid ⟨v7, h7, (HG4.out.trans (Gs.below ((Below.refl W4.heap.size W4).drew.drew))).trans hg7⟩
    clear h7 hg7
    go_wp2
    go_ret2
    rw [HGK.out, HGB.out]
    exact ⟨rfl, HF.out⟩
set_option maxHeartbeats 1000000 in
theorem rget_any (h : RP w br v room L) (hks : Ks L) (k : ByteArray) (hpos : 0 < room) (hfit : L.length ≤ room) (hlen : L.length < 1000) :
    Calls Try.prog 18 #[.pointer (some ⟨br, 0, none⟩), .string k] w fun e w' => e = .returned (gv (fd L k)) ∧ RG w br v room (gt L k) w' := by
  have HH := Lib.hid h
  obtain ⟨p, cap, hv, hmx, hkc⟩ := h.own.view
  have hc0 := h.c0
  have hc1 := h.c1
  obtain ⟨n, hn⟩ : ∃ n, L.length = n := ⟨_, rfl⟩
  rw [hn] at hv
  rw [hv] at hc1
  obtain ⟨zt, hzt⟩ : ∃ z : Int, (room : Int) = z := ⟨_, rfl⟩
  rw [hzt] at hc0
  have hn2 : n ≤ 1000 := by have := h.len; omega
  have HP := Lib.hid (rpeek_any zt p n cap L k w hn hn2 hkc)
  have HKS := Lib.hid hks
  have HPOS := Lib.hid hpos
  have HFIT := Lib.hid hfit
  have HLEN := Lib.hid hlen
  unfold gv at *
  cases hf : fd L k with
  | none =>
    rw [hf] at HP
    have hg : gt L k = L := by unfold gt; rw [hf]
    rw [hg]
    clear h hn hv hzt hkc hks hpos hfit hlen hg hf
    go_enter Try.func18, Try.ntmps18
    go_wp2_with (go_at_call 19; refine HP.out.mono ?_)
    first | rintro e w1 rfl hb1 | rintro e w1 ⟨rfl, hb1⟩
    have HF := Lib.hid ((RG.start HH.out).below hb1)
    clear hb1 hc0 hc1
    go_wp2
    go_ret2
    exact ⟨rfl, HF.out⟩
  | some q =>
    rw [hf] at HP
    have HG := Lib.hid (pt_gt hks hf hfit)
    clear h hn hv hzt hkc hks hpos hfit hlen hf
    go_enter Try.func18, Try.ntmps18
    go_wp2_with (go_at_call 19; refine HP.out.mono ?_)
    first | rintro e w1 rfl hb1 | rintro e w1 ⟨rfl, hb1⟩
    have HU := Lib.hid (rput_any (HH.out.below hb1) HKS.out k q HPOS.out HFIT.out HLEN.out)
    obtain ⟨s1, hs1⟩ : ∃ s, gk room L k = s := ⟨_, rfl⟩
    obtain ⟨s2, hs2⟩ : ∃ s, gb room L k = s := ⟨_, rfl⟩
    rw [hs1, hs2] at HU
    have HB1 := Lib.hid hb1
    clear hb1 hc0 hc1 hs1 hs2
    go_wp2_with (go_at_call 17; refine HU.out.mono ?_)
    rintro e w2 ⟨rfl, v2, h2, hg2⟩
    have HF : Hid (RG w br v room (gt L k) w2) := Lib.hid ⟨v2, by rw [← HG.out]; exact h2, (Gs.below HB1.out).trans hg2⟩
    clear h2 hg2
    go_wp2
    go_ret2
    exact ⟨rfl, HF.out⟩
end
end Go.Proofs.Ythombaalaeefcaa
