/-
  THE LAW LruActs. The law LruActs answers true at every room and every row of acts: what the tables tell is what the page tells, act by act, and never are there more things than room. Conditions: none (beyond 200 acts, and at a room below 1, the law itself asks less).
-/
import Derived.Test.YthombaalaeefcaaLruL
import Derived.Test.YthombaalaeefcaaFrame
import Derived.Deep.DeepCutAuto
import Derived.Deep.RegionWith
namespace Go.Proofs.Ythombaalaeefcaa
open Go.RowKit Lr Ft Bt
open Go.ChangeShapes Go.WideShapes Go.ChangeAt
set_option linter.unusedVariables false
namespace Lr
/-- both, and where the page's row lies -/
def PB (w0 : World) (b br room : Nat) (L : List KV) (z : Int) (p : Option Addr) (M cap : Nat) (w : World) : Prop := PL w0 b br room L L w ∧ L.length = M ∧ w.cell? ⟨br, 0, none⟩ = some (.int .i64 z) ∧ w.cell? ⟨br, 1, none⟩ = some (.slice p M cap)
section
variable {w0 w w' : World} {b br room M cap : Nat} {L : List KV} {z : Int} {p : Option Addr}
theorem PB.of (h : PL w0 b br room L L w) (hM : L.length = M) : ∃ z p cap, PB w0 b br room L z p M cap w := by
  obtain ⟨D, ns, v, e, h1, _, h3, _⟩ := id h
  obtain ⟨p, cap, hv, _, hkc⟩ := h3.own.view
  exact ⟨_, p, cap, h, hM, h3.c0, by rw [← hM, ← hv]; exact h3.c1⟩
theorem PB.below (h : PB w0 b br room L z p M cap w) (hb : Below w.heap.size w w') : PB w0 b br room L z p M cap w' := by
  obtain ⟨h1, hM, h2, h3⟩ := h
  obtain ⟨D, ns, v, e, _, _, h4, _⟩ := id h1
  have hbr := hb.block br h4.kind.lt
  exact ⟨h1.below hb, hM, by rw [World.cell?_of_block hbr]; exact h2, by rw [World.cell?_of_block hbr]; exact h3⟩
theorem PB.cells (h : PB w0 b br room L z p M cap w) : w.cell? ⟨br, 0, none⟩ = some (.int .i64 z) ∧ w.cell? ⟨br, 1, none⟩ = some (.slice p M cap) := ⟨h.2.2.1, h.2.2.2⟩
/-- the rows that are told -/
def Rowed12 (w0 : World) (b br room : Nat) (L : List KV) (z : Int) (p : Option Addr) (M cap : Nat) (e : Ending) (w' : World) : Prop := ∃ q c, e = .returned (.slice q M c) ∧ SC w' q (kys L) ∧ PB w0 b br room L z p M cap w' 
def Rowed2 (w0 w : World) (b br room : Nat) (L : List KV) (z : Int) (p : Option Addr) (M cap : Nat) (e : Ending) (w' : World) : Prop := ∃ q c, e = .returned (.slice q M c) ∧ SC w' q (kys L) ∧ PB w0 b br room L z p M cap w' ∧ Below w.heap.size w w'
theorem PB.keys (h : PB w0 b br room L z p M cap w) : Calls Try.prog 10 #[.pointer (some ⟨b, 0, none⟩)] w (Rowed12 w0 b br room L z p M cap) := by
  obtain ⟨D, ns, v, e, h1, h2, h3, _⟩ := id h.1
  have h9 := keys_any h1
  rw [h2, e] at h9
  refine h9.mono ?_
  rintro e w' ⟨q, n, c, rfl, hn, ho, hb⟩
  rw [kys_len, h.2.1] at hn
  subst hn
  obtain ⟨q9, c9, hv, _, hsc⟩ := ho.view
  injection hv with e1 e2 e3
  subst e1
  exact ⟨_, c, rfl, hsc, h.below hb⟩
theorem PB.rkeys (h : PB w0 b br room L z p M cap w) : Calls Try.prog 11 #[.agg #[.int .i64 z, .slice p M cap]] w (Rowed2 w0 w b br room L z p M cap) := by
  obtain ⟨D, ns, v, e, h1, _, h3, _⟩ := id h.1
  obtain ⟨p', cap', hv, _, hkc⟩ := h3.own.view
  have h4 := h3.c1
  rw [h.2.2.2, hv] at h4
  injection h4 with h4
  injection h4 with e1 e2 e3
  subst e1 e2 e3
  refine (rkeys_any z p L.length cap L w rfl h3.len hkc).mono ?_
  rintro e w' ⟨q, n, c, rfl, hn, ho, hb⟩
  rw [kys_len] at hn
  subst hn
  obtain ⟨q9, c9, hv, _, hsc⟩ := ho.view
  injection hv with e1 e2 e3
  subst e1
  exact ⟨_, c, rfl, hsc, h.below hb, hb⟩
theorem PB.len (h : PB w0 b br room L z p M cap w) : Calls Try.prog 12 #[.pointer (some ⟨b, 0, none⟩)] w fun e w' => e = .returned (.int .i64 M) ∧ w' = w := by
  obtain ⟨D, ns, v, e, h1, h2, h3, _⟩ := id h.1
  have h9 := llen_any h1
  rw [← kvs_len, h2, e, h.2.1] at h9
  exact h9
theorem pl_made {w1 : World} {D : Td} (h1 : Tb w1 D room []) (h2 : ∀ x, fp D [] x → w.heap.size ≤ x) (h3 : Below w.heap.size w w1) : PL w D.b w1.heap.size room [] [] (w1.alloc (.cells #[.int .i64 (room : Nat), .slice none 0 0] 29)) := by
  have hb : Below w1.heap.size w1 (w1.alloc (.cells #[.int .i64 (room : Nat), .slice none 0 0] 29)) := (Below.refl _ _).alloc (Nat.le_refl _) _
  have e1 : (w1.alloc (.cells #[.int .i64 (room : Nat), .slice none 0 0] 29)).heap[w1.heap.size]? = some (.cells #[.int .i64 (room : Nat), .slice none 0 0] 29) := (MapKept.heap_alloc _ _).1
  refine ⟨D, [], .slice none 0 0, rfl, h1.below hb (Nat.le_refl _), rfl, ⟨⟨_, e1⟩, ?_, ?_, OwnK.nil _ _, by simp⟩, h2, fun x hx => ?_, fun x hx hr => ?_, h3.trans (hb.mono h3.size)⟩
  · simp only [World.cell?, e1]; rfl
  · simp only [World.cell?, e1]; rfl
  · rcases hx with rfl | hx
    · exact h3.size
    · cases hx
  · rcases hr with rfl | hr
    · have := h1.lt hx; omega
    · cases hr
end
theorem getD_mem12 {l : List A12} {i : Nat} {d : A12} (hi : i < l.length) : l.getD i d ∈ l := by
  rw [List.getD_eq_getElem?_getD, List.getElem?_eq_getElem hi]
  exact List.getElem_mem hi
end Lr
namespace lruActs
set_option maxHeartbeats 1000000 in
theorem walk_none (room : Int) (p : Option Addr) (n cap : Nat) (w : World) (h : room < 1) (hn : n ≤ 9223372036854775807) :
    Calls Try.prog 3 #[.int .i64 room, .slice p n cap] w fun e w' => e = .returned (.bool true) ∧ Below w.heap.size w w' := by
  have HN := Lib.hid (new_small h w)
  have hd1 : decide (1 ≤ room) = false := decide_eq_false (by omega)
  by_cases hb : 200 < n
  all_goals
    go_enter Try.func3, Try.ntmps3
    go_wp2_with (first
      | (go_at_call 6; refine HN.out.mono ?_; rintro e w' ⟨rfl, hw⟩; rw [hw]; clear hw)
      | (go_at_call 7; refine (lru12.live_any _).mono ?_))
    first | rintro e w8 rfl hb8 | rintro e w8 ⟨rfl, hb8⟩
    have HB8 := Lib.hid hb8
    clear hb8
    go_wp2
    go_ret
    exact ⟨rfl, HB8.out⟩
set_option maxHeartbeats 1000000 in
theorem walk_big (room : Nat) (p : Option Addr) (n cap : Nat) (w : World) (hr : 0 < room) (h : 200 < n) (hn : n ≤ 9223372036854775807) :
    Calls Try.prog 3 #[.int .i64 room, .slice p n cap] w fun e w' => e = .returned (.bool true) ∧ Below w.heap.size w w' := by
  have HN := Lib.hid (new_any room w hr)
  obtain ⟨z, hz⟩ : ∃ z : Int, (room : Int) = z := ⟨_, rfl⟩
  have hz1 : 1 ≤ z := by omega
  rw [hz] at HN ⊢
  clear hr hz
  go_enter Try.func3, Try.ntmps3
  go_wp2_with (go_at_call 6; refine HN.out.mono ?_)
  rintro e w1 ⟨D, rfl, _, _, hb1⟩
  have HB1 := Lib.hid hb1
  clear hb1
  go_wp2_with (go_at_call 7; refine (lru12.live_any _).mono ?_)
  first | rintro e w8 rfl hb8 | rintro e w8 ⟨rfl, hb8⟩
  have HB8 := Lib.hid (below_next HB1.out hb8)
  clear hb8
  go_wp2
  go_ret
  exact ⟨rfl, HB8.out⟩
set_option maxHeartbeats 4000000 in
set_option maxRecDepth 20000 in
theorem walk_small (room : Nat) (hr : 0 < room) (p : Option Addr) (n cap : Nat) (acts : List A12) (w : World) (hn : acts.length = n) (hn2 : n ≤ 200) (haw : ∀ x ∈ acts, Ms.Wf x.key) (hac : AC12 w p acts) :
    Calls Try.prog 3 #[.int .i64 room, .slice p n cap] w fun e w' => e = .returned (.bool true) ∧ Below w.heap.size w w' := by
  have HN := Lib.hid hn
  have HAW := Lib.hid haw
  have HAC := Lib.hid hac
  have HNEW := Lib.hid (new_any room w hr)
  obtain ⟨z, hz⟩ : ∃ z : Int, (room : Int) = z := ⟨_, rfl⟩
  have HZ := Lib.hid hz
  have hz1 : ¬ z < 1 := by omega
  rw [hz] at HNEW ⊢
  have hdec : decide ((200 : Int) < (n : Int)) = false := by rw [decide_eq_false_iff_not]; omega
  clear hn haw hac hz hr
  go_enter Try.func3, Try.ntmps3
  go_wp2_with (go_at_call 6; refine HNEW.out.mono ?_)
  rintro e w1 ⟨D, rfl, hw1, hf1, hb1⟩
  have HBEG : Hid (∃ L : List KV, L.length ≤ 0 ∧ L.length ≤ room ∧ PL w D.b w1.heap.size room L L (w1.alloc (.cells #[.int .i64 z, .slice none 0 0] 29))) := Lib.hid ⟨[], Nat.le_refl _, Nat.zero_le _, by
    have h := pl_made hw1 hf1 hb1
    rw [HZ.out] at h
    exact h⟩
  obtain ⟨b, hb⟩ : ∃ b, D.b = b := ⟨_, rfl⟩
  obtain ⟨br, hbr⟩ : ∃ br, w1.heap.size = br := ⟨_, rfl⟩
  rw [hb, hbr] at HBEG
  rw [hb]
  clear hw1 hf1 hb1 hb
  go_wp2
  go_loopw [7] (fun i wr => ∃ j : Nat, i = .int .i64 j ∧ j ≤ n ∧ Hid (∃ L : List KV, L.length ≤ j ∧ L.length ≤ room ∧ PL w b br room L L wr)) (fun i _ => n - (intOf i).toNat)
  case atStart => exact ⟨0, rfl, Nat.zero_le _, HBEG⟩
  case round =>
    obtain ⟨j, rfl, hj, hr⟩ := hrel
    obtain ⟨L, hLj, hLr, hpl⟩ := hr.out
    by_cases hlt : j < n
    · have hpd := hpl.below (Below.refl wr.heap.size wr).drew
      obtain ⟨g0, off, rfl, hg0, hx0, hx1, hx2⟩ := (HAC.out.below hpd.bl (Nat.le_refl _)) j (by rw [HN.out]; exact hlt)
      have HXT : Hid (Ms.Wf (acts.getD j a012).key) := Lib.hid (HAW.out _ (getD_mem12 (by rw [HN.out]; exact hlt)))
      obtain ⟨x, hx⟩ : ∃ x, acts.getD j a012 = x := ⟨_, rfl⟩
      rw [hx] at hx0 hx1 hx2 HXT
      have hltz : (j : Int) < (n : Int) := by omega
      obtain ⟨L', hL'⟩ : ∃ L', act room L x = L' := ⟨_, rfl⟩
      have HD : Hid (Calls Try.prog 8 #[.pointer (some ⟨b, 0, none⟩), .pointer (some ⟨br, 0, none⟩), .agg #[.int .i64 x.kind, .string x.key, .int .i64 x.v]] wr.drew (Does12 w b br room L')) := Lib.hid (by
        rw [← hL']
        exact does_any hpd x HXT.out hLr (by omega))
      have hal := act_len hpl.keys hLr x
      rw [hL'] at hal
      obtain ⟨M, hM⟩ : ∃ M, L'.length = M := ⟨_, rfl⟩
      have HM := Lib.hid hM
      have HL' : Hid (L'.length ≤ j + 1 ∧ L'.length ≤ room) := Lib.hid ⟨by omega, hal.1⟩
      have hMz : ¬ z < (M : Int) := by have := HZ.out; omega
      have hMM : ((M : Int) != (M : Int)) = false := by simp
      have hM1 : M ≤ 1000 := by omega
      clear hpl hpd hr hx hLj hLr hL' hal hM
      go_upto_region 8 with fail
      go_cut [68] from 29 to 68 (fun s wx => s = .bool false ∧ Hid (PL w b br room L' L' wx))
      case first =>
        go_region_with (first
          | (go_at_call 8; refine HD.out.mono ?_; rintro e wa ⟨rfl, hm⟩; obtain ⟨zz, pp, cc, hpb⟩ := PB.of hm HM.out; have HB1 := Lib.hid hpb; obtain ⟨q0, q1⟩ := hpb.cells; clear hm hpb)
          | (go_at_call 10; refine HB1.out.keys.mono ?_; rintro e wb ⟨p1, c1, rfl, hs1, hpb2⟩; have HS1 := Lib.hid hs1; have HB2 := Lib.hid hpb2; obtain ⟨q2, q3⟩ := hpb2.cells; clear hs1 hpb2)
          | (go_at_call 11; refine HB2.out.rkeys.mono ?_; rintro e wc ⟨p2, c2, rfl, hs2, hpb3, hbb⟩; have HS1' := Lib.hid (HS1.out.below hbb (Nat.le_refl _)); have HS2 := Lib.hid hs2; have HB3 := Lib.hid hpb3; clear hs2 hpb3 hbb)
          | (go_at_call 9; refine (texts_same p1 p2 M c1 c2 (kys L') wc (by rw [kys_len, HM.out]) hM1 HS1'.out HS2.out).mono ?_; first | rintro e wd rfl hbd | rintro e wd ⟨rfl, hbd⟩; have HB4 := Lib.hid (HB3.out.below hbd); obtain ⟨q4, q5⟩ := HB4.out.cells; clear hbd)
          | (go_at_call 12; refine HB4.out.len.mono ?_; rintro e w' ⟨rfl, hw⟩; rw [hw]; clear hw))
        all_goals (go_wp2_with fail; go_meet)
        all_goals exact ⟨congrArg Value.bool (decide_eq_false (by omega)), Lib.hid HB4.out.1⟩
      case rest =>
        obtain ⟨rfl, hfin⟩ := hcut
        have HR : Hid (∃ L : List KV, L.length ≤ j + 1 ∧ L.length ≤ room ∧ PL w b br room L L wc) := Lib.hid ⟨L', HL'.out.1, HL'.out.2, hfin.out⟩
        clear hfin hx0 hx1 hx2
        go_wp2
        go_roundw
        case rel => exact ⟨j + 1, by go_num, hlt, HR⟩
        case measure => simp [intOf]; omega
    · have e1 : j = n := by omega
      subst e1
      have HBL := Lib.hid hpl.bl
      clear hpl hr
      go_wp2_with fail
      refine (lru12.live_any _).mono ?_
      rintro e w9 ⟨rfl, hb9⟩
      have HB9 := Lib.hid (below_next HBL.out hb9)
      clear hb9
      go_wp2
      go_ret
      exact ⟨rfl, HB9.out⟩
theorem walk (a0 : Int) (w0 : (Lit.int .i64 a0).wf = true) (p : Option Addr) (n cap : Nat) (acts : List A12) (hn : acts.length = n) (hmx : n ≤ maxLen) (haw : ∀ x ∈ acts, Ms.Wf x.key) (w : World) (hac : AC12 w p acts) :
    Calls Try.prog 3 #[.int .i64 a0, .slice p n cap] w fun e w' => e = .returned (.bool true) ∧ Below w.heap.size w w' := by
  unfold maxLen at hmx
  by_cases h : a0 < 1
  · exact walk_none a0 p n cap w h (by omega)
  · obtain ⟨r, hr⟩ : ∃ r : Nat, a0 = (r : Int) := ⟨a0.toNat, by omega⟩
    subst hr
    by_cases h2 : 200 < n
    · exact walk_big r p n cap w (by omega) h2 (by omega)
    · exact walk_small r (by omega) p n cap acts w hn (by omega) haw hac
theorem own : ownKnob Try.prog.godebug = none := by kernel_rfl
theorem laidOut : laidOutB Try.prog = true := by kernel_rfl
set_option maxRecDepth 100000 in
theorem contract (H : Type) (enc : TypeId × Value → H) (W : World) (base : Nat) (args : Array Value) (ds gs : List (DataW H)) (before : List MemPlace)
    (hval0 : ∀ (j : Nat) t v, Try.f3.params[j]? = some t → args[j]? = some v → Value.okWide Try.prog W .any base t v)
    (hW : DataW.Whole enc Try.prog Try.f3.params.toList Rows.lruActsSpec.vars false W args.toList ds gs before) :
    Calls Try.prog 3 args W fun e W' => ∃ v, e = .returned v ∧ Rows.lruActsSpec.post enc Try.prog Try.f3 false true false false W args v W' := by
  have hval : ∀ (j : Nat) t v, Try.f3.params[j]? = some t → args[j]? = some v → Value.okWide Try.prog W .any base t v := hval0
  clear hval0
  have hW' := hW
  obtain ⟨p, q, hA0, hV, rfl, hfz, hnd⟩ := hW
  have hA : DataW.TrodAll enc Try.prog W 0 (fun _ => true) true Try.f3.params.toList args.toList ds p := hA0
  rw [Try.params3] at hA hval
  obtain ⟨v0, vs0, d0, ds0, p0, q0, hargs, rfl, rfl, h0, r0⟩ := trodAll_cons hA
  obtain ⟨v1, vs1, d1, ds1, p1, q1, rfl, rfl, rfl, h1, r1⟩ := trodAll_cons r0
  obtain ⟨rfl, rfl, rfl⟩ := trodAll_nil r1
  obtain rfl : args = #[v0, v1] := by cases args; simp_all
  obtain ⟨rfl, rfl⟩ := trodVars_none hV
  obtain ⟨a0, rfl, rfl, rfl, w0⟩ := open_int Try.underlying3 (hval 0 3 v0 rfl rfl) h0
  obtain ⟨pp, n, cap, acts, rfl, hn, hmx, haw, hac⟩ := acts12_open h1 (okWide_slice Try.underlying22 (hval 1 22 v1 rfl rfl))
  clear hA0
  refine (walk a0 w0 pp n cap acts hn hmx haw W hac).mono fun e W' ⟨he, hb⟩ => ?_
  subst he
  exact ⟨_, rfl, law_post laidOut (by kernel_rfl) rfl Try.underlying4 rfl hW' rfl hb⟩

set_option maxRecDepth 100000 in
theorem lifted (os : Os) (started : os.Started) (H : Type) (enc : TypeId × Value → H) :
    ReturnsInHanded {} Try.checked os 3 .any (Rows.lruActsSpec.pre6 enc Try.prog Try.f3 Rows.lruActsRow.domain false) (Rows.lruActsSpec.post enc Try.prog Try.f3 false true false false) := by
  refine returnsInHanded_of_change (C := Try.checked) own started (by kernel_rfl) Try.func3
    (ChangeSpec.witness6 (enc := enc) (C := Try.checked) false ⟨#[], #[.int .i64 0, .slice none 0 0], []⟩ 8 (by kernel_rfl) (by kernel_rfl) (by kernel_rfl) (by kernel_rfl)) ?_
  intro W base args ds gs before hval0 hW _ _
  exact contract H enc W base args ds gs before hval0 hW

/-- THE STATEMENT -/
theorem proved : Rows.LruActsSaid :=
  OpenClaim.holds_of_wide 3 Try.f3 rfl rfl rfl rfl rfl rfl rfl ⟨rfl, rfl, rfl, rfl, rfl⟩ rfl rfl rfl rfl rfl (by kernel_rfl) Try.func3 (by kernel_rfl)
    (of_decide_eq_true (by kernel_rfl)) (by unfold Func.isWrapper; first | (rw [if_pos (by decide +kernel)]; kernel_rfl) | (rw [if_neg (by decide +kernel)]; exact ⟨rfl, rfl⟩))
    (fun os started H enc _ => lifted os started H enc)
end lruActs
end Go.Proofs.Ythombaalaeefcaa
