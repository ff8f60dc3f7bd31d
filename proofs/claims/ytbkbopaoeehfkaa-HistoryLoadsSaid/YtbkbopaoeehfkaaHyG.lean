/-
  LAYER 13 (history), part G: a table that a call has made; which rows are a table (plain); seen; the page's Right.
-/
import Derived.Test.YtbkbopaoeehfkaaHyB
import Derived.Test.YtbkbopaoeehfkaaHyF
namespace Go.Proofs.Ytbkbopaoeehfkaa
open Go.RowKit Lr Ft Hy Bt
set_option linter.unusedVariables false
namespace Hy
/-- the program's table at block H (lru's at D), made since w0 -/
def OHD (w0 : World) (H : Nat) (D : Td) (room : Nat) (L : List KV) (w : World) : Prop := ∃ ns, Hb w H D room ns ∧ kvs ns = L ∧ w0.heap.size ≤ H ∧ (∀ x, fp D ns x → w0.heap.size ≤ x) ∧ Below w0.heap.size w0 w
section
variable {w0 w w' : World} {H room : Nat} {D : Td} {L : List KV}
theorem OHD.below (h : OHD w0 H D room L w) (hb : Below w.heap.size w w') : OHD w0 H D room L w' := by
  obtain ⟨ns, h1, h2, h3, h4, h5⟩ := h
  exact ⟨ns, h1.below hb (Nat.le_refl _), h2, h3, h4, h5.trans (hb.mono h5.size)⟩
theorem OHD.bl (h : OHD w0 H D room L w) : Below w0.heap.size w0 w := by
  obtain ⟨ns, h1, h2, h3, h4, h5⟩ := h
  exact h5
theorem OHD.keys (h : OHD w0 H D room L w) : Ks L := by
  obtain ⟨ns, h1, h2, h3, h4, h5⟩ := h
  rw [← h2]
  exact h1.tb.keys
theorem OHD.c0 (h : OHD w0 H D room L w) : w.cell? ⟨H, 0, none⟩ = some (.pointer (some ⟨D.b, 0, none⟩)) := by
  obtain ⟨ns, h1, h2, h3, h4, h5⟩ := h
  exact h1.c0
/-- lru's table turns -/
theorem OHD.turn {ns : List Nd} (h1 : Hb w H D room ns) (h3 : w0.heap.size ≤ H) (h4 : ∀ x, fp D ns x → w0.heap.size ≤ x) (h5 : Below w0.heap.size w0 w) {L' : List KV} (hg : Hg w H D room ns L' w') : OHD w0 H D room L' w' := by
  obtain ⟨ns', q1, q2, q3⟩ := hg
  refine ⟨ns', q2, q1, h3, fun x hx => ?_, h5.trans (q3.mv.below h5.size (fun k hk hf => by have := h4 k hf; omega))⟩
  rcases q3.own x hx with h7 | h7
  · exact h4 x h7
  · exact Nat.le_trans h5.size h7
theorem OHD.hist (h : OHD w0 H D room L w) {k : ByteArray} (hk : Ms.Wf k) : Calls Try.prog 18 #[.pointer (some ⟨H, 0, none⟩), .string k] w fun e w' => e = .returned (.agg (hc (hst L k))) ∧ Below w.heap.size w w' := by
  obtain ⟨ns, h1, h2, h3, h4, h5⟩ := h
  have h9 := hy_hist h1 hk
  rw [h2] at h9
  exact h9
theorem OHD.est (h : OHD w0 H D room L w) {k : ByteArray} (hk : Ms.Wf k) (p : Int) : Calls Try.prog 14 #[.pointer (some ⟨H, 0, none⟩), .string k, .int .i64 p] w fun e w' => e = .returned (.tuple #[.int .u64 (Qu.ov (hst L k) p : Nat), .bool (Qu.ok (hst L k) p)]) ∧ Below w.heap.size w w' := by
  obtain ⟨ns, h1, h2, h3, h4, h5⟩ := h
  have h9 := hy_est h1 hk p
  rw [h2] at h9
  exact h9
theorem OHD.cls (h : OHD w0 H D room L w) {k : ByteArray} (hk : Ms.Wf k) (p : Option Addr) (n cap : Nat) (ls : List Int) (q : Int) (hn : ls.length = n) (hn2 : n ≤ 1000) (hls : I64s ls) (hin : LIs w p ls) :
    Calls Try.prog 13 #[.pointer (some ⟨H, 0, none⟩), .string k, .slice p n cap, .int .i64 q] w fun e w' => e = .returned (.int .i64 (ca ls (Qu.ov (hst L k) q) (Qu.ok (hst L k) q) : Nat)) ∧ Below w.heap.size w w' := by
  obtain ⟨ns, h1, h2, h3, h4, h5⟩ := h
  have h9 := hy_class h1 hk p n cap ls q hn hn2 hls hin
  rw [h2] at h9
  exact h9
theorem OHD.rows (h : OHD w0 H D room L w) : Calls Try.prog 24 #[.pointer (some ⟨H, 0, none⟩)] w (HRows w L) := by
  obtain ⟨ns, h1, h2, h3, h4, h5⟩ := h
  have h9 := hy_rows h1
  rw [h2] at h9
  exact h9
theorem OHD.peek (h : OHD w0 H D room L w) {k : ByteArray} (hk : Ms.Wf k) : Calls Try.prog 25 #[.pointer (some ⟨D.b, 0, none⟩), .string k] w fun e w' => e = .returned (gv (fd L k)) ∧ Below w.heap.size w w' := by
  obtain ⟨ns, h1, h2, h3, h4, h5⟩ := h
  have h9 := peek_any h1.tb hk
  rw [h2] at h9
  exact h9
theorem OHD.put (h : OHD w0 H D room L w) {k : ByteArray} (hk : Ms.Wf k) (f : El) (hfit : L.length ≤ room) (hlen : L.length < 1000) {s : ByteArray} {t : Bool} (e2 : gk room L k = s) (e3 : gb room L k = t) :
    Calls Try.prog 16 #[.pointer (some ⟨D.b, 0, none⟩), .string k, .agg (hc f)] w fun e w' => e = .returned (.tuple #[.string s, .bool t]) ∧ OHD w0 H D room (pt room L k f) w' := by
  obtain ⟨ns, h1, h2, h3, h4, h5⟩ := h
  have h0 := Hg.start h1
  rw [h2] at h0
  refine (h0.put hk f hfit hlen e2 e3).mono ?_
  rintro e w' ⟨he, hg⟩
  exact ⟨he, OHD.turn h1 h3 h4 h5 hg⟩
def ODone (w0 : World) (H : Nat) (D : Td) (room : Nat) (L : List KV) (e : Ending) (w' : World) : Prop := e = .returned (.tuple #[]) ∧ OHD w0 H D room L w'
theorem OHD.obs (h : OHD w0 H D room L w) {k : ByteArray} (hk : Ms.Wf k) (v : Nat) (hv : v < 18446744073709551616) (hfit : L.length ≤ room) (hlen : L.length < 1000) :
    Calls Try.prog 8 #[.pointer (some ⟨H, 0, none⟩), .string k, .int .u64 v] w (ODone w0 H D room (obs room L k v)) := by
  obtain ⟨ns, h1, h2, h3, h4, h5⟩ := h
  have h9 := hy_obs h1 hk v hv (by rw [← kvs_len, h2]; exact hfit) (by rw [← kvs_len, h2]; exact hlen)
  rw [h2] at h9
  refine h9.mono ?_
  rintro e w' ⟨he, hg⟩
  exact ⟨he, OHD.turn h1 h3 h4 h5 hg⟩
theorem OHD.of (h : Hb w H D room []) (h1 : w0.heap.size ≤ H) (h2 : ∀ x, fp D [] x → w0.heap.size ≤ x) (h3 : Below w0.heap.size w0 w) : OHD w0 H D room [] w := ⟨[], h, rfl, h1, h2, h3⟩
end
/-! which rows are a table -/
def Rok (x : KV) : Prop := Hs.rt x.2 = true ∧ Hs.tot x.2 ≠ 0
def Roks (l : List KV) : Prop := (∀ x ∈ l, Rok x) ∧ Ks l
theorem getD_memK {l : List KV} {j : Nat} (h : j < l.length) : l.getD j kv0 ∈ l := by
  rw [List.getD_eq_getElem?_getD, List.getElem?_eq_getElem h]
  exact List.getElem_mem h
theorem Roks.nil : Roks [] := ⟨fun x h => (by cases h), List.nodup_nil⟩
theorem Roks.bad {l : List KV} {j : Nat} (h : j < l.length) (hb : ¬ Rok (l.getD j kv0)) : ¬ Roks l := fun hg => hb (hg.1 _ (getD_memK h))
theorem Roks.twice {l : List KV} {i j : Nat} (hij : i < j) (h : j < l.length) (he : (l.getD i kv0).1 = (l.getD j kv0).1) : ¬ Roks l := fun hg => by
  have h2 := hg.2
  unfold Ks at h2
  have h3 : i = j := by
    refine (List.getElem_inj (xs := l.map (·.1)) (h₀ := by simp; omega) (h₁ := by simpa using h) h2).1 ?_
    rw [List.getElem_map, List.getElem_map]
    rw [List.getD_eq_getElem?_getD, List.getD_eq_getElem?_getD, List.getElem?_eq_getElem (by omega), List.getElem?_eq_getElem h] at he
    exact he
  omega
theorem take_succK {l : List KV} {j : Nat} (h : j < l.length) : l.take (j + 1) = l.take j ++ [l.getD j kv0] := by
  rw [List.take_succ_eq_append_getElem h, List.getD_eq_getElem?_getD, List.getElem?_eq_getElem h]
  rfl
theorem Roks.step {l : List KV} {j : Nat} (h : j < l.length) (hg : Roks (l.take j)) (hx : Rok (l.getD j kv0)) (hk : (l.getD j kv0).1 ∉ (l.take j).map (·.1)) : Roks (l.take (j + 1)) := by
  rw [take_succK h]
  refine ⟨fun x hm => ?_, ?_⟩
  · rw [List.mem_append, List.mem_singleton] at hm
    rcases hm with hm | rfl
    · exact hg.1 x hm
    · exact hx
  · unfold Ks
    rw [List.map_append, List.nodup_append]
    refine ⟨hg.2, by simp, fun a ha b hb e => ?_⟩
    rw [List.map_cons, List.map_nil, List.mem_singleton] at hb
    exact hk (by rw [← hb, ← e]; exact ha)
theorem not_in_take {l : List KV} {j : Nat} (h : j ≤ l.length) {k : ByteArray} (hk : ∀ i, i < j → (l.getD i kv0).1 ≠ k) : k ∉ (l.take j).map (·.1) := fun hm => by
  obtain ⟨x, hx, e⟩ := List.mem_map.1 hm
  obtain ⟨i, hi, e2⟩ := List.mem_iff_getElem.1 hx
  rw [List.length_take] at hi
  have := hk i (by omega)
  rw [List.getElem_take] at e2
  rw [List.getD_eq_getElem?_getD, List.getElem?_eq_getElem (by omega)] at this
  exact this (by show (l[i]).1 = k; rw [e2]; exact e)
/-- the page's Right -/
noncomputable def rgt (room : Int) (l : List KV) : Bool := @decide (1 ≤ room ∧ (l.length : Int) ≤ room ∧ Roks l) (Classical.propDecidable _)
theorem rgt_true {room : Int} {l : List KV} : rgt room l = true ↔ 1 ≤ room ∧ (l.length : Int) ≤ room ∧ Roks l := by unfold rgt; exact @decide_eq_true_iff _ (Classical.propDecidable _)
theorem rgt_false {room : Int} {l : List KV} (h : ¬ (1 ≤ room ∧ (l.length : Int) ≤ room ∧ Roks l)) : rgt room l = false := by
  cases e : rgt room l
  · rfl
  · exact absurd (rgt_true.1 e) h
/-- the zero histogram has no runtimes, and no other right one has none -/
theorem tot_zero {f : Nat → Int} (h : Hs.rt f = true) : Hs.tot f = 0 ↔ same f Hs.z = true := by
  obtain ⟨hin, _⟩ := Hs.rt_iff.1 h
  constructor
  · intro ht
    unfold same
    rw [List.all_eq_true]
    intro i hi
    have hi16 : i < 16 := by simpa using hi
    have h1 := Hs.su_ge (f := f) (n := 16) (fun i hi => (hin i hi).1) i hi16
    have h2 := (hin i hi16).1
    have h3 : Hs.tot f = Hs.su f 16 := rfl
    rw [beq_iff_eq]
    show f i = 0
    omega
  · intro hs
    unfold same at hs
    rw [List.all_eq_true] at hs
    have h0 : ∀ i, i < 16 → f i = Hs.z i := fun i hi => by
      have := hs i (by simpa using hi)
      rwa [beq_iff_eq] at this
    show Hs.su f 16 = 0
    rw [Hs.su_congr h0]
    exact Hs.su_zero 16
end Hy
theorem binOp_neq2 {P : Program} {w : World} {T : TypeId} {x y : Array Value} {b : Bool} (h : (Op.equal T (.agg x) (.agg y)).run P w = .ok b w) : (binOp .neq T (.agg x) (.agg y)).run P w = .ok (.bool !b) w := by
  simp only [binOp]
  simp [h]
theorem neq_hc (f g : Nat → Int) (w : World) : (binOp .neq 49 (.agg (hc f)) (.agg (hc g))).run Try.prog w = .ok (.bool !(same f g)) w := binOp_neq2 (eq_hc f g w)
theorem hc_z : hc Hs.z = #[.int .i64 0, .int .i64 0, .int .i64 0, .int .i64 0, .int .i64 0, .int .i64 0, .int .i64 0, .int .i64 0, .int .i64 0, .int .i64 0, .int .i64 0, .int .i64 0, .int .i64 0, .int .i64 0, .int .i64 0, .int .i64 0] := rfl
set_option maxRecDepth 100000 in
theorem hy_seen (f : Nat → Int) (w : World) : Calls Try.prog 26 #[.agg (hc f)] w fun e w' => e = .returned (.bool (Hs.rt f && !(same f Hs.z))) ∧ Below w.heap.size w w' := by
  have h1 := HB.made w f
  have hb := (Below.refl w.heap.size w).alloc (Nat.le_refl _) (.cells (hc f) 49)
  have H1 := Lib.hid h1
  have HB1 := Lib.hid hb
  have HR := Lib.hid (fun w => right_any f w)
  have hnq := neq_hc f Hs.z
  clear h1 hb
  cases hr : Hs.rt f
  · rw [hr] at HR
    clear hr hnq
    go_enter Try.func26, Try.ntmps26
    go_wp2_with (refine ld_row (by rfl) 49 _ rfl w.heap.size rfl _ _ _ _ H1.out Try.underlying49 rfl (by kernel_rfl) ?_)
    refine (HR.out _).mono ?_
    rintro e w1 ⟨rfl, hb1⟩
    have HB2 := Lib.hid (below_next HB1.out hb1)
    clear hb1
    go_wp2
    go_ret
    exact ⟨rfl, HB2.out⟩
  · rw [hr] at HR
    obtain ⟨s, hs⟩ : ∃ s, same f Hs.z = s := ⟨_, rfl⟩
    rw [hs] at hnq ⊢
    rw [hc_z] at hnq
    clear hr hs
    go_enter Try.func26, Try.ntmps26
    go_wp2_with (refine ld_row (by rfl) 49 _ rfl w.heap.size rfl _ _ _ _ H1.out Try.underlying49 rfl (by kernel_rfl) ?_)
    refine (HR.out _).mono ?_
    rintro e w1 ⟨rfl, hb1⟩
    have H2 := Lib.hid (H1.out.below hb1 (Nat.le_refl _))
    have HB2 := Lib.hid (below_next HB1.out hb1)
    clear hb1
    go_wp2_with (refine ld_row (by rfl) 49 _ rfl w.heap.size rfl _ _ _ _ H2.out Try.underlying49 rfl (by kernel_rfl) ?_)
    go_ret
    exact ⟨rfl, HB2.out⟩
set_option maxHeartbeats 1000000 in
theorem rh_right (room : Int) (p : Option Addr) (n cap : Nat) (L : List KV) (w : World) (hn : L.length = n) (hn2 : n ≤ 1000) (h : RC w p L) :
    Calls Try.prog 12 #[.int .i64 room, .slice p n cap] w fun e w' => e = .returned (.bool (rgt room L)) ∧ Below w.heap.size w w' := by
  obtain ⟨R, hR⟩ : ∃ R, rgt room L = R := ⟨_, rfl⟩
  rw [hR]
  have HBAD : Hid (¬ (1 ≤ room ∧ (L.length : Int) ≤ room ∧ Roks L) → R = false) := Lib.hid (fun h => by rw [← hR]; exact rgt_false h)
  have HGOOD : Hid (1 ≤ room ∧ (L.length : Int) ≤ room ∧ Roks L → R = true) := Lib.hid (fun h => by rw [← hR]; exact rgt_true.2 h)
  have HN := Lib.hid hn
  have HC := Lib.hid h
  have HR := Lib.hid (fun f w => rright_any f w)
  have HT := Lib.hid (fun f (h : Hs.In f) w => rtotal_any f (In.far h) w)
  clear hn h hR
  by_cases hr1 : room < 1
  · have HF : Hid (R = false) := Lib.hid (HBAD.out (fun h => by omega))
    clear HBAD HGOOD
    go_enter Try.func12, Try.ntmps12
    go_wp2
    go_ret
    exact ⟨ret_bool HF.out.symm, Below.refl _ _⟩
  · by_cases hr2 : room < (n : Int)
    · have HF : Hid (R = false) := Lib.hid (HBAD.out (fun h => by have := HN.out; omega))
      clear HBAD HGOOD
      go_enter Try.func12, Try.ntmps12
      go_wp2
      go_ret
      exact ⟨ret_bool HF.out.symm, Below.refl _ _⟩
    · have HBAD2 : Hid (¬ Roks L → R = false) := Lib.hid (fun h => HBAD.out (fun h2 => h h2.2.2))
      have HGOOD2 : Hid (Roks L → R = true) := Lib.hid (fun h => HGOOD.out ⟨by omega, by have := HN.out; omega, h⟩)
      clear HBAD HGOOD
      go_enter Try.func12, Try.ntmps12
      go_wp2
      go_loopw [5] (fun i wr => ∃ j : Nat, i = .int .i64 j ∧ j ≤ n ∧ Hid (Roks (L.take j)) ∧ Hid (Below w.heap.size w wr)) (fun i _ => n - (intOf i).toNat)
      case atStart => exact ⟨0, rfl, Nat.zero_le _, Lib.hid Roks.nil, Lib.hid (Below.refl _ _)⟩
      case round =>
        obtain ⟨j, rfl, hj, hg, hb⟩ := hrel
        by_cases hlt : j < n
        · obtain ⟨g, off, rfl, _, _, hx1, _⟩ := (HC.out.below hb.out (Nat.le_refl _)).at (i := j) (by rw [HN.out]; exact hlt)
          obtain ⟨⟨k, f⟩, hx⟩ : ∃ x, L.getD j kv0 = x := ⟨_, rfl⟩
          rw [hx] at hx1
          simp only at hx1
          have hltz : (j : Int) < (n : Int) := by omega
          have HX := Lib.hid hx
          have HX1 := Lib.hid hx1
          have HLT := Lib.hid hlt
          have HRF := Lib.hid (HR.out f)
          clear hx hx1
          cases hrt : Hs.rt f
          · have HF : Hid (R = false) := Lib.hid (HBAD2.out (Roks.bad (j := j) (by rw [HN.out]; exact HLT.out) (by rw [HX.out]; intro h; have h1 : Hs.rt f = true := h.1; rw [hrt] at h1; cases h1)))
            rw [hrt] at HRF
            clear hrt
            go_wp2_with (refine ld_mid (by rfl) 49 _ rfl g (off + j * 17 + 1) rfl (hc f) _ HX1.out Try.underlying49 rfl (by kernel_rfl) ?_)
            refine (HRF.out _).mono ?_
            rintro e w1 ⟨rfl, hb1⟩
            have HB2 := Lib.hid (hb.out.trans (hb1.mono hb.out.size))
            clear hb1
            go_wp2
            go_ret
            exact ⟨ret_bool HF.out.symm, HB2.out⟩
          · have hin := (Hs.rt_iff.1 hrt).1
            have HTF := Lib.hid (HT.out f hin)
            have HRT := Lib.hid hrt
            rw [hrt] at HRF
            clear hrt hin
            obtain ⟨T, hT⟩ : ∃ T, Hs.tot f = T := ⟨_, rfl⟩
            rw [hT] at HTF
            have HTE := Lib.hid hT
            clear hT
            by_cases ht : T = 0
            · have HF : Hid (R = false) := Lib.hid (HBAD2.out (Roks.bad (j := j) (by rw [HN.out]; exact HLT.out) (by rw [HX.out]; intro h; exact h.2 (HTE.out.trans ht))))
              have htb : (T == 0) = true := by rw [beq_iff_eq]; exact ht
              clear ht
              go_wp2_with (refine ld_mid (by rfl) 49 _ rfl g (off + j * 17 + 1) rfl (hc f) _ HX1.out Try.underlying49 rfl (by kernel_rfl) ?_)
              refine (HRF.out _).mono ?_
              rintro e w1 ⟨rfl, hb1⟩
              obtain ⟨g', off', hp', _, _, hx2, _⟩ := (HC.out.below (hb.out.trans (hb1.mono hb.out.size)) (Nat.le_refl _)).at (i := j) (by rw [HN.out]; exact HLT.out)
              injection hp' with hp'
              injection hp' with e1 e2
              subst e1 e2
              rw [HX.out] at hx2
              have HX2 := Lib.hid hx2
              have HB2 := Lib.hid (hb.out.trans (hb1.mono hb.out.size))
              clear hb1 hx2
              go_wp2_with (refine ld_mid (by rfl) 49 _ rfl g (off + j * 17 + 1) rfl (hc f) _ HX2.out Try.underlying49 rfl (by kernel_rfl) ?_)
              refine (HTF.out _).mono ?_
              rintro e w2 ⟨rfl, hb2⟩
              have HB3 := Lib.hid (HB2.out.trans (hb2.mono HB2.out.size))
              clear hb2
              go_wp2
              go_ret
              exact ⟨ret_bool HF.out.symm, HB3.out⟩
            · have HGD : Hid (Rok (L.getD j kv0)) := Lib.hid (by rw [HX.out]; exact ⟨HRT.out, by rw [HTE.out]; exact ht⟩)
              have htb : (T == 0) = false := by rw [beq_eq_false_iff_ne]; exact ht
              clear ht
              go_wp2_with (refine ld_mid (by rfl) 49 _ rfl g (off + j * 17 + 1) rfl (hc f) _ HX1.out Try.underlying49 rfl (by kernel_rfl) ?_)
              refine (HRF.out _).mono ?_
              rintro e w1 ⟨rfl, hb1⟩
              obtain ⟨g', off', hp', _, _, hx2, _⟩ := (HC.out.below (hb.out.trans (hb1.mono hb.out.size)) (Nat.le_refl _)).at (i := j) (by rw [HN.out]; exact HLT.out)
              injection hp' with hp'
              injection hp' with e1 e2
              subst e1 e2
              rw [HX.out] at hx2
              have HX2 := Lib.hid hx2
              have HB2 := Lib.hid (hb.out.trans (hb1.mono hb.out.size))
              clear hb1 hx2
              go_wp2_with (refine ld_mid (by rfl) 49 _ rfl g (off + j * 17 + 1) rfl (hc f) _ HX2.out Try.underlying49 rfl (by kernel_rfl) ?_)
              refine (HTF.out _).mono ?_
              rintro e w2 ⟨rfl, hb2⟩
              have HB3 := Lib.hid (HB2.out.trans (hb2.mono HB2.out.size))
              clear hb2 HX1 HX2 HB2
              go_wp2
              go_loopw [6] (fun i wr => ∃ m : Nat, i = .int .i64 m ∧ m ≤ j ∧ Hid (∀ i, i < m → (L.getD i kv0).1 ≠ k) ∧ Hid (Below w.heap.size w wr)) (fun i _ => j - (intOf i).toNat)
              case atStart => exact ⟨0, rfl, Nat.zero_le _, Lib.hid (fun i hi => absurd hi (Nat.not_lt_zero _)), HB3⟩
              case round =>
                obtain ⟨m, rfl, hm, hne, hbq⟩ := hrel
                by_cases hmj : m < j
                · obtain ⟨g', off', hp', _, hy0, _, _⟩ := (HC.out.below hbq.out (Nat.le_refl _)).at (i := m) (by rw [HN.out]; omega)
                  injection hp' with hp'
                  injection hp' with e1 e2
                  subst e1 e2
                  obtain ⟨g', off', hp', _, hy1, _, _⟩ := (HC.out.below hbq.out (Nat.le_refl _)).at (i := j) (by rw [HN.out]; exact HLT.out)
                  injection hp' with hp'
                  injection hp' with e1 e2
                  subst e1 e2
                  rw [HX.out] at hy1
                  obtain ⟨k2, hk2⟩ : ∃ k2, (L.getD m kv0).1 = k2 := ⟨_, rfl⟩
                  rw [hk2] at hy0
                  simp only at hy1
                  have hmn : (m : Int) < (n : Int) := by omega
                  have hmj2 : (m : Int) < (j : Int) := by omega
                  have y0 : wr.drew.cell? ⟨g, off + m * 17, none⟩ = some (.string k2) := hy0
                  have y1 : wr.drew.cell? ⟨g, off + j * 17, none⟩ = some (.string k) := hy1
                  have HBD : Hid (Below w.heap.size w wr.drew) := Lib.hid hbq.out.drew
                  by_cases ek : k2 = k
                  · have HF : Hid (R = false) := Lib.hid (HBAD2.out (Roks.twice (i := m) (j := j) hmj (by rw [HN.out]; exact HLT.out) (by rw [HX.out, hk2]; exact ek)))
                    have hb9 := str_beq ek
                    clear ek hk2 hy0 hy1 hne
                    go_wp2_with fail
                    refine wp_region_text (S := (fun w9 => w9 = wr.drew)) (by kernel_rfl) ?_ ?_
                    · rfl
                    repeat (first
                      | (refine anyR_value (v := ?_) (by kernel_rfl) (by rfl) (fun _ _ _ h => h) (fun w1 hS => ?_) ?_
                         rotate_left
                         · rw [hS]
                           go_simp
                           with_reducible rfl
                         simp only [Act.put, List.setIfInBounds_toArray, List.set_cons_zero, List.set_cons_succ])
                      | (refine anyR_not (by kernel_rfl) (by rfl) (fun _ _ _ h => h) ?_
                         simp only [Act.put, List.setIfInBounds_toArray, List.set_cons_zero, List.set_cons_succ])
                      | (refine anyR_call (v := ?_) (f := ?_) (args := ?_) (by kernel_rfl) (by rfl) (fun _ _ _ h => h) (fun w1 hS => ?_) (fun w1 hS => ?_) ?_
                         rotate_left 3
                         · go_simp
                           (try constructor) <;> with_reducible rfl
                         · first
                             | (fail)
                         simp only [Act.put, List.setIfInBounds_toArray, List.set_cons_zero, List.set_cons_succ])
                      | refine anyR_done (by kernel_rfl) (fun w1 hS => ?_))
                    have e9 : w1 = wr.drew := hS
                    subst e9
                    clear hS
                    go_wp2
                    go_ret
                    exact ⟨ret_bool HF.out.symm, HBD.out⟩
                  · have HNE : Hid (∀ i, i < m + 1 → (L.getD i kv0).1 ≠ k) := Lib.hid (fun i hi => by
                      by_cases e : i = m
                      · rw [e, hk2]; exact ek
                      · exact hne.out i (by omega))
                    have hb9 := str_bne ek
                    clear ek hk2 hy0 hy1 hne
                    go_wp2_with fail
                    refine wp_region_text (S := (fun w9 => w9 = wr.drew)) (by kernel_rfl) ?_ ?_
                    · rfl
                    repeat (first
                      | (refine anyR_value (v := ?_) (by kernel_rfl) (by rfl) (fun _ _ _ h => h) (fun w1 hS => ?_) ?_
                         rotate_left
                         · rw [hS]
                           go_simp
                           with_reducible rfl
                         simp only [Act.put, List.setIfInBounds_toArray, List.set_cons_zero, List.set_cons_succ])
                      | (refine anyR_not (by kernel_rfl) (by rfl) (fun _ _ _ h => h) ?_
                         simp only [Act.put, List.setIfInBounds_toArray, List.set_cons_zero, List.set_cons_succ])
                      | (refine anyR_call (v := ?_) (f := ?_) (args := ?_) (by kernel_rfl) (by rfl) (fun _ _ _ h => h) (fun w1 hS => ?_) (fun w1 hS => ?_) ?_
                         rotate_left 3
                         · go_simp
                           (try constructor) <;> with_reducible rfl
                         · first
                             | (fail)
                         simp only [Act.put, List.setIfInBounds_toArray, List.set_cons_zero, List.set_cons_succ])
                      | refine anyR_done (by kernel_rfl) (fun w1 hS => ?_))
                    have e9 : w1 = wr.drew := hS
                    subst e9
                    clear hS
                    go_wp2
                    go_roundw
                    case rel => exact ⟨m + 1, by go_num, hmj, HNE, HBD⟩
                    case measure => simp [intOf]; omega
                · have e9 : m = j := by omega
                  subst e9
                  have HG2 : Hid (Roks (L.take (m + 1))) := Lib.hid (hg.out.step (by rw [HN.out]; exact HLT.out) HGD.out (not_in_take (by rw [HN.out]; omega) (by rw [HX.out]; exact hne.out)))
                  clear hne
                  go_wp2
                  go_roundw
                  case rel => exact ⟨m + 1, by go_num, HLT.out, HG2, hbq⟩
                  case measure => simp [intOf]; have := HLT.out; omega
        · have e9 : j = n := by omega
          subst e9
          have HF : Hid (R = true) := Lib.hid (HGOOD2.out (by
            have := hg.out
            rwa [List.take_of_length_le (by rw [HN.out]; exact Nat.le_refl _)] at this))
          clear hg
          go_wp2
          go_ret
          exact ⟨ret_bool HF.out.symm, hb.out⟩
end Go.Proofs.Ytbkbopaoeehfkaa
