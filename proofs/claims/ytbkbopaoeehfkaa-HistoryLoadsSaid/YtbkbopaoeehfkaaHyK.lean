/-
  THE LAW HistoryLoads. The law HistoryLoads answers true at every room, every slice of rows and everything that is asked: a table is made of just the rows that may be one, it tells what they tell, and its rows are those. Conditions: none (beyond 60 rows or 20 limits the law itself asks less).
-/
import Derived.Test.YtbkbopaoeehfkaaHyH
import Derived.Test.YtbkbopaoeehfkaaHyJ
import Derived.Test.YtbkbopaoeehfkaaFrame
namespace Go.Proofs.Ytbkbopaoeehfkaa
open Go.RowKit Lr Ft Hy Bt
open Go.ChangeShapes Go.WideShapes Go.ChangeAt
set_option linter.unusedVariables false
namespace historyLoads
set_option maxHeartbeats 1000000 in
theorem walk_big (room : Int) (p : Option Addr) (n cap : Nat) (k : ByteArray) (pl : Option Addr) (nl cl : Nat) (q : Int) (w : World) (h : 60 < n ∨ 20 < nl) (hn : n ≤ 9223372036854775807) (hnl : nl ≤ 9223372036854775807) :
    Calls Try.prog 4 #[.int .i64 room, .slice p n cap, .agg #[.string k, .slice pl nl cl, .int .i64 q]] w fun e w' => e = .returned (.bool true) ∧ Below w.heap.size w w' := by
  have hba := (Below.refl w.heap.size w).alloc (Nat.le_refl _) (.cells #[.string k, .slice pl nl cl, .int .i64 q] 25)
  have HBA := Lib.hid hba
  clear hba
  by_cases h1 : 60 < n
  · clear h
    go_enter Try.func4, Try.ntmps4
    go_wp2_with fail
    refine (hy_live _).mono ?_
    rintro e w8 ⟨rfl, hb8⟩
    have HB8 := Lib.hid (below_next HBA.out hb8)
    clear hb8
    go_wp2
    go_ret
    exact ⟨rfl, HB8.out⟩
  · have h2 : 20 < nl := h.resolve_left h1
    clear h
    go_enter Try.func4, Try.ntmps4
    go_wp2_with fail
    refine (hy_live _).mono ?_
    rintro e w8 ⟨rfl, hb8⟩
    have HB8 := Lib.hid (below_next HBA.out hb8)
    clear hb8
    go_wp2
    go_ret
    exact ⟨rfl, HB8.out⟩
set_option maxHeartbeats 1000000 in
theorem walk_small (room : Int) (p : Option Addr) (n cap : Nat) (L : List KV) (k : ByteArray) (pl : Option Addr) (nl cl : Nat) (ls : List Int) (q : Int) (w : World) (hn : L.length = n) (hn2 : n ≤ 60) (hwf : ∀ x ∈ L, Ms.Wf x.1) (hrc : RC w p L) (hk : Ms.Wf k) (hl : ls.length = nl) (hl2 : nl ≤ 20) (hls : I64s ls) (hin : LIs w pl ls) :
    Calls Try.prog 4 #[.int .i64 room, .slice p n cap, .agg #[.string k, .slice pl nl cl, .int .i64 q]] w fun e w' => e = .returned (.bool true) ∧ Below w.heap.size w w' := by
  obtain ⟨W1, hW1⟩ : ∃ W, w.alloc (.cells #[.string k, .slice pl nl cl, .int .i64 q] 25) = W := ⟨_, rfl⟩
  have hb1 : Below w.heap.size w W1 := by rw [← hW1]; exact (Below.refl _ _).alloc (Nat.le_refl _) _
  have h1 : W1.heap[w.heap.size]? = some (.cells #[.string k, .slice pl nl cl, .int .i64 q] 25) := by rw [← hW1]; exact (MapKept.heap_alloc _ _).1
  have HL : Hid (Calls Try.prog 11 #[.int .i64 room, .slice p n cap] (w.alloc (.cells #[.string k, .slice pl nl cl, .int .i64 q] 25)) (HLoads W1 room L)) := Lib.hid (by rw [hW1]; exact hy_load room p n cap L W1 hn (by omega) (hrc.below hb1 (Nat.le_refl _)) hwf)
  have HB1 := Lib.hid hb1
  have H1 := Lib.hid h1
  have HC1 := Lib.hid (hrc.below hb1 (Nat.le_refl _))
  have HI1 := Lib.hid (hin.below hb1 (Nat.le_refl _))
  have HX : Hid (rgt room L = true → SMok ⟨0, ⟨0, 0, 0⟩, 0, L.reverse, room, p, cap, n, k, pl, nl, cl, ls, q⟩) := Lib.hid (fun h => ⟨by rw [List.length_reverse]; exact hn, by show n ≤ 900; omega, by
    have := (rgt_true.1 h).2.2.2
    unfold Ks at this ⊢
    rw [List.map_reverse]
    exact nodup_rev this, hk, hl, by show nl ≤ 1000; omega, hls⟩)
  have HN := Lib.hid hn
  clear hb1 h1 hrc hin hwf hk hls hl hW1 hn
  go_enter Try.func4, Try.ntmps4
  go_wp2_with (go_at_call 11; refine HL.out.mono ?_)
  rintro e w2 (⟨hr, H, D, rfl, ho⟩ | ⟨hr, rfl, hb2⟩)
  · have hb2 := ho.bl
    have HR := Lib.hid (rh_right room p n cap L w2 HN.out (by omega) (HC1.out.below hb2 (Nat.le_refl _)))
    rw [hr] at HR
    have HO := Lib.hid ho
    have HB2 := Lib.hid hb2
    have HOK := Lib.hid (HX.out hr)
    clear ho hb2 hr HL
    go_wp2_with fail
    refine HR.out.mono ?_
    rintro e w3 ⟨rfl, hb3⟩
    have hb13 := HB2.out.trans (hb3.mono HB2.out.size)
    have h3 : w3.heap[w.heap.size]? = some (.cells #[.string k, .slice pl nl cl, .int .i64 q] 25) := (hb13.block _ (Array.getElem?_eq_some_iff.1 H1.out).1).trans H1.out
    have q0 : w3.cell? ⟨w.heap.size, 0, none⟩ = some (.string k) := by simp only [World.cell?, h3]; rfl
    have q1 : w3.cell? ⟨w.heap.size, 1, none⟩ = some (.slice pl nl cl) := by simp only [World.cell?, h3]; rfl
    have q2 : w3.cell? ⟨w.heap.size, 2, none⟩ = some (.int .i64 q) := by simp only [World.cell?, h3]; rfl
    have HS := Lib.hid (same_x (w0 := W1) (x := ⟨H, D, room.toNat, L.reverse, room, p, cap, n, k, pl, nl, cl, ls, q⟩) (w := w3) ⟨HOK.out.lm, HOK.out.lm2, HOK.out.ks, HOK.out.wf, HOK.out.ln, HOK.out.ln2, HOK.out.i64⟩ (HO.out.below hb3) (by show RC w3 p L.reverse.reverse; rw [List.reverse_reverse]; exact HC1.out.below hb13 (Nat.le_refl _)) (HI1.out.below hb13 (Nat.le_refl _)))
    simp only at HS
    have HB3 := Lib.hid (below_next HB1.out hb13)
    clear hb3 hb13 h3 HR HO HB2 HOK
    go_wp2_with (go_at_call 10; refine HS.out.mono ?_)
    rintro e w4 ⟨rfl, hb4⟩
    have HB4 := Lib.hid (below_next HB3.out hb4)
    clear hb4 HS
    go_wp2_with fail
    refine (hy_live _).mono ?_
    rintro e w8 ⟨rfl, hb8⟩
    have HB8 := Lib.hid (below_next HB4.out hb8)
    clear hb8
    go_wp2
    go_ret
    exact ⟨rfl, HB8.out⟩
  · have HR := Lib.hid (rh_right room p n cap L w2 HN.out (by omega) (HC1.out.below hb2 (Nat.le_refl _)))
    rw [hr] at HR
    have HB2 := Lib.hid (below_next HB1.out hb2)
    clear hb2 hr HL
    go_wp2_with fail
    refine HR.out.mono ?_
    rintro e w3 ⟨rfl, hb3⟩
    have HB3 := Lib.hid (below_next HB2.out hb3)
    clear hb3 HR
    go_wp2_with fail
    refine (hy_live _).mono ?_
    rintro e w8 ⟨rfl, hb8⟩
    have HB8 := Lib.hid (below_next HB3.out hb8)
    clear hb8
    go_wp2
    go_ret
    exact ⟨rfl, HB8.out⟩
theorem walk (room : Int) (w0 : (Lit.int .i64 room).wf = true) (p : Option Addr) (n cap : Nat) (L : List KV) (hn : L.length = n) (hmx : n ≤ maxLen) (hwf : ∀ x ∈ L, Ms.Wf x.1) (k : ByteArray) (pl : Option Addr) (nl cl : Nat) (ls : List Int) (q : Int) (hk : Ms.Wf k) (hl : ls.length = nl) (hl2 : nl ≤ maxLen) (hls : I64s ls) (w : World) (hrc : RC w p L) (hin : LIs w pl ls) :
    Calls Try.prog 4 #[.int .i64 room, .slice p n cap, .agg #[.string k, .slice pl nl cl, .int .i64 q]] w fun e w' => e = .returned (.bool true) ∧ Below w.heap.size w w' := by
  unfold maxLen at hmx hl2
  by_cases h : 60 < n ∨ 20 < nl
  · exact walk_big room p n cap k pl nl cl q w h (by omega) (by omega)
  · exact walk_small room p n cap L k pl nl cl ls q w hn (by omega) hwf hrc hk hl (by omega) hls hin
theorem own : ownKnob Try.prog.godebug = none := by kernel_rfl
theorem laidOut : laidOutB Try.prog = true := by kernel_rfl
set_option maxRecDepth 100000 in
theorem contract (H : Type) (enc : TypeId × Value → H) (W : World) (base : Nat) (args : Array Value) (ds gs : List (DataW H)) (before : List MemPlace)
    (hval0 : ∀ (j : Nat) t v, Try.f4.params[j]? = some t → args[j]? = some v → Value.okWide Try.prog W .any base t v)
    (hW : DataW.Whole enc Try.prog Try.f4.params.toList Rows.historyLoadsSpec.vars false W args.toList ds gs before) :
    Calls Try.prog 4 args W fun e W' => ∃ v, e = .returned v ∧ Rows.historyLoadsSpec.post enc Try.prog Try.f4 false true false false W args v W' := by
  have hval : ∀ (j : Nat) t v, Try.f4.params[j]? = some t → args[j]? = some v → Value.okWide Try.prog W .any base t v := hval0
  clear hval0
  have hW' := hW
  obtain ⟨p, q, hA0, hV, rfl, hfz, hnd⟩ := hW
  have hA : DataW.TrodAll enc Try.prog W 0 (fun _ => true) true Try.f4.params.toList args.toList ds p := hA0
  rw [Try.params4] at hA hval
  obtain ⟨v0, vs0, d0, ds0, p0, q0, hargs, rfl, rfl, h0, r0⟩ := trodAll_cons hA
  obtain ⟨v1, vs1, d1, ds1, p1, q1, rfl, rfl, rfl, h1, r1⟩ := trodAll_cons r0
  obtain ⟨v2, vs2, d2, ds2, p2, q2, rfl, rfl, rfl, h2, r2⟩ := trodAll_cons r1
  obtain ⟨rfl, rfl, rfl⟩ := trodAll_nil r2
  obtain rfl : args = #[v0, v1, v2] := by cases args; simp_all
  obtain ⟨rfl, rfl⟩ := trodVars_none hV
  obtain ⟨a0, rfl, rfl, rfl, w0⟩ := open_int Try.underlying3 (hval 0 3 v0 rfl rfl) h0
  obtain ⟨pp, n, cap, L, rfl, hn, hmx, hwf, hrc⟩ := arows_open h1 (okWide_slice Try.underlying29 (hval 1 29 v1 rfl rfl))
  obtain ⟨k, pl, nl, cl, ls, qq, rfl, hk, hl, hl2, hls, hin, _⟩ := ask_open (hval 2 25 v2 rfl rfl) h2
  clear hA0
  refine (walk a0 w0 pp n cap L hn hmx hwf k pl nl cl ls qq hk hl hl2 hls W hrc hin).mono fun e W' ⟨he, hb⟩ => ?_
  subst he
  exact ⟨_, rfl, law_post laidOut (by kernel_rfl) rfl Try.underlying4 rfl hW' rfl hb⟩

set_option maxRecDepth 100000 in
theorem lifted (os : Os) (started : os.Started) (H : Type) (enc : TypeId × Value → H) :
    ReturnsInHanded {} Try.checked os 4 .any (Rows.historyLoadsSpec.pre6 enc Try.prog Try.f4 Rows.historyLoadsRow.domain false) (Rows.historyLoadsSpec.post enc Try.prog Try.f4 false true false false) := by
  refine returnsInHanded_of_change (C := Try.checked) own started (by kernel_rfl) Try.func4
    (ChangeSpec.witness6 (enc := enc) (C := Try.checked) false ⟨#[], #[.int .i64 0, .slice none 0 0, .agg #[.string ByteArray.empty, .slice none 0 0, .int .i64 0]], []⟩ 8 (by kernel_rfl) (by kernel_rfl) (by kernel_rfl) (by kernel_rfl)) ?_
  intro W base args ds gs before hval0 hW _ _
  exact contract H enc W base args ds gs before hval0 hW

/-- THE STATEMENT -/
theorem proved : Rows.HistoryLoadsSaid :=
  OpenClaim.holds_of_wide 4 Try.f4 rfl rfl rfl rfl rfl rfl rfl ⟨rfl, rfl, rfl, rfl, rfl⟩ rfl rfl rfl rfl rfl (by kernel_rfl) Try.func4 (by kernel_rfl)
    (of_decide_eq_true (by kernel_rfl)) (by unfold Func.isWrapper; first | (rw [if_pos (by decide +kernel)]; kernel_rfl) | (rw [if_neg (by decide +kernel)]; exact ⟨rfl, rfl⟩))
    (fun os started H enc _ => lifted os started H enc)
end historyLoads
end Go.Proofs.Ytbkbopaoeehfkaa
