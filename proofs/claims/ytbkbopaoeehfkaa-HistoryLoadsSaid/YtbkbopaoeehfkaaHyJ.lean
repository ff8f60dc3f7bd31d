/-
  LAYER 13 (history), part J: arguments that come in (runs, limits, what is asked, rows), opened; the page's example.
-/
import Derived.Test.YtbkbopaoeehfkaaHyI
import Derived.Test.YtbkbopaoeehfkaaOpens
import Derived.Test.YtbkbopaoeehfkaaHistO
namespace Go.Proofs.Ytbkbopaoeehfkaa
open Go.RowKit Lr Ft Hy Bt
open Go.ChangeShapes Go.WideShapes Go.Deep
set_option linter.unusedVariables false
namespace Hy
theorem nodup_rev {α : Type} {l : List α} (h : l.Nodup) : l.reverse.Nodup := List.pairwise_reverse.2 (List.Pairwise.imp (fun h => Ne.symm h) h)
theorem range_getD13 {α : Type} (f : Nat → α) (n i : Nat) (d : α) (h : i < n) : ((List.range n).map f).getD i d = f i := by
  rw [List.getD_eq_getElem?_getD, List.getElem?_eq_getElem (by simpa using h)]
  simp
abbrev R13 := ByteArray × Nat
def r013 : R13 := (ByteArray.empty, 0)
/-- runs that came in -/
def RIn (w : World) (p : Option Addr) (l : List R13) : Prop := ∀ i, i < l.length → ∃ g off, p = some ⟨g, off, none⟩ ∧ g < w.heap.size ∧ w.cell? ⟨g, off + i * 2, none⟩ = some (.string (l.getD i r013).1) ∧ w.cell? ⟨g, off + i * 2 + 1, none⟩ = some (.int .u64 ((l.getD i r013).2 : Nat))
theorem RIn.below {w w' : World} {p : Option Addr} {l : List R13} {B : Nat} (h : RIn w p l) (hb : Below B w w') (hB : w.heap.size ≤ B) : RIn w' p l := fun i hi => by
  obtain ⟨g, off, h1, h2, h3, h4⟩ := h i hi
  have e : w'.heap[g]? = w.heap[g]? := hb.block g (Nat.lt_of_lt_of_le h2 hB)
  exact ⟨g, off, h1, Nat.lt_of_lt_of_le h2 hb.size, by rw [World.cell?_of_block e]; exact h3, by rw [World.cell?_of_block e]; exact h4⟩
def ROk (l : List R13) : Prop := ∀ x ∈ l, Ms.Wf x.1 ∧ x.2 < 18446744073709551616
theorem ROk.at {l : List R13} (h : ROk l) {j : Nat} (hj : j < l.length) : Ms.Wf (l.getD j r013).1 ∧ (l.getD j r013).2 < 18446744073709551616 := h _ (by
  rw [List.getD_eq_getElem?_getD, List.getElem?_eq_getElem hj]
  exact List.getElem_mem hj)
section
variable {H : Type} {enc : TypeId × Value → H} {W : World} {base : Nat} {spare : Nat → Bool} {held : Bool}
theorem runs_open {v : Value} {d : DataW H} {pl : List MemPlace} (h : DataW.Trod enc Try.prog W base spare held 22 v d pl) (hv : ∃ p n cap, v = .slice p n cap) :
    ∃ (p : Option Addr) (n cap : Nat) (l : List R13), v = .slice p n cap ∧ l.length = n ∧ n ≤ maxLen ∧ ROk l ∧ RIn W p l := by
  obtain ⟨p, n, cap, rfl⟩ := hv
  obtain ⟨fuel, h⟩ := h
  obtain ⟨hn, hi⟩ := open_rows Try.underlying22 Try.underlying35 (by kernel_rfl) (by kernel_rfl) (by decide) h
  have each : ∀ i, i < n → ∃ x : R13, (Ms.Wf x.1 ∧ x.2 < 18446744073709551616) ∧ ∃ g off, p = some ⟨g, off, none⟩ ∧ g < W.heap.size ∧ W.cell? ⟨g, off + i * 2, none⟩ = some (.string x.1) ∧ W.cell? ⟨g, off + i * 2 + 1, none⟩ = some (.int .u64 (x.2 : Nat)) := fun i hil => by
    obtain ⟨b, off, hp, hb, k, hf⟩ := hi i hil
    obtain ⟨u0, y0, c0, r0⟩ := hf 0 _ rfl
    obtain ⟨u1, y1, c1, r1⟩ := hf 1 _ rfl
    obtain ⟨q0, hq0, _, hsz⟩ := DataW.trod_string Try.underlying9 r0
    obtain ⟨q1, hq1, _, wf⟩ := DataW.trod_int Try.underlying33 r1
    simp at hq0 hq1
    subst hq0 hq1
    obtain ⟨q, rfl, hq⟩ := u64_nat wf
    exact ⟨(q0, q), ⟨hsz, hq⟩, b, off, hp, hb, c0, c1⟩
  obtain ⟨f, hf⟩ := choose_lt each
  refine ⟨p, n, cap, (List.range n).map f, rfl, by simp, hn, ?_, ?_⟩
  · intro x hx
    obtain ⟨i, hi, rfl⟩ := List.mem_map.1 hx
    exact (hf i (List.mem_range.1 hi)).1
  · intro i hi
    have hin : i < n := by simpa using hi
    rw [range_getD13 f n i _ hin]
    exact (hf i hin).2
theorem lims_open {fuel : Nat} {u : Value} {x : DataW H × List MemPlace} (h : DataW.trod enc Try.prog W base spare held fuel 23 [u] = some x) :
    ∃ (p : Option Addr) (n cap : Nat) (l : List Int), u = .slice p n cap ∧ l.length = n ∧ n ≤ maxLen ∧ I64s l ∧ LIs W p l := by
  obtain ⟨p, n, cap, rfl⟩ : ∃ p n cap, u = .slice p n cap := by
    rcases open_slice1 Try.underlying23 (by kernel_rfl) h with ⟨hcs, _⟩ | ⟨a, len, cap', m, k, V, D, Pl, hcs, _⟩
    · simp at hcs
      exact ⟨_, _, _, hcs⟩
    · simp at hcs
      exact ⟨_, _, _, hcs⟩
  obtain ⟨hn, hi⟩ := open_ones Try.underlying23 (by kernel_rfl) h
  have each : ∀ i, i < n → ∃ q : Int, (-9223372036854775808 ≤ q ∧ q ≤ 9223372036854775807) ∧ ∃ b off, p = some ⟨b, off, none⟩ ∧ b < W.heap.size ∧ W.cell? ⟨b, off + i, none⟩ = some (.int .i64 q) := fun i hil => by
    obtain ⟨b, off, hp, hb, k, u, y, c0, r0⟩ := hi i hil
    obtain ⟨a, ha, _, wf⟩ := DataW.trod_int Try.underlying3 r0
    simp at ha
    subst ha
    exact ⟨a, i64_bounds wf, b, off, hp, hb, c0⟩
  obtain ⟨f, hf⟩ := choose_lt each
  refine ⟨p, n, cap, (List.range n).map f, rfl, by simp, hn, ?_, ?_⟩
  · intro x hx
    obtain ⟨i, hi, rfl⟩ := List.mem_map.1 hx
    exact (hf i (List.mem_range.1 hi)).1
  · intro i hi
    have hin : i < n := by simpa using hi
    rw [range_getD13 f n i _ hin]
    exact (hf i hin).2
theorem ask_open {b0 : Nat} {v : Value} {d : DataW H} {ps : List MemPlace} (hv : Value.okWide Try.prog W .any b0 25 v) (h : DataW.Trod enc Try.prog W base spare held 25 v d ps) :
    ∃ (k : ByteArray) (p : Option Addr) (n cap : Nat) (ls : List Int) (q : Int), v = .agg #[.string k, .slice p n cap, .int .i64 q] ∧ Ms.Wf k ∧ ls.length = n ∧ n ≤ maxLen ∧ I64s ls ∧ LIs W p ls ∧ (-9223372036854775808 ≤ q ∧ q ≤ 9223372036854775807) := by
  obtain ⟨cs, n, rfl, hsz, hf⟩ := open_fields Try.underlying25 (by kernel_rfl) (by kernel_rfl) hv h
  obtain ⟨u0, y0, c0, r0⟩ := hf 0 _ rfl
  obtain ⟨u1, y1, c1, r1⟩ := hf 1 _ rfl
  obtain ⟨u2, y2, c2, r2⟩ := hf 2 _ rfl
  obtain ⟨q0, hq0, _, hwf⟩ := DataW.trod_string Try.underlying9 r0
  obtain ⟨q2, hq2, _, wf2⟩ := DataW.trod_int Try.underlying3 r2
  obtain ⟨p, m, cap, ls, rfl, hl, hm, hls, hin⟩ := lims_open r1
  simp at hq0 hq2
  subst hq0 hq2
  refine ⟨q0, p, m, cap, ls, q2, ?_, hwf, hl, hm, hls, hin, i64_bounds wf2⟩
  have hs3 : cs.size = 3 := hsz
  congr 1
  refine Array.ext (by rw [hs3]; rfl) (fun i h1 h2 => ?_)
  rw [hs3] at h1
  match i, h1 with
  | 0, _ => rw [Array.getElem?_eq_getElem (by omega)] at c0; injection c0
  | 1, _ => rw [Array.getElem?_eq_getElem (by omega)] at c1; injection c1
  | 2, _ => rw [Array.getElem?_eq_getElem (by omega)] at c2; injection c2
theorem ec_hist (k : ByteArray) (f : El) {j : Nat} (hj : j < 16) : (ec k f)[j + 1]? = some (.int .i64 (f j)) := by
  match j, hj with
  | 0, _ => rfl
  | 1, _ => rfl
  | 2, _ => rfl
  | 3, _ => rfl
  | 4, _ => rfl
  | 5, _ => rfl
  | 6, _ => rfl
  | 7, _ => rfl
  | 8, _ => rfl
  | 9, _ => rfl
  | 10, _ => rfl
  | 11, _ => rfl
  | 12, _ => rfl
  | 13, _ => rfl
  | 14, _ => rfl
  | 15, _ => rfl
  | j + 16, h => omega
/-- the cells of a row that came in -/
theorem row_open {fuel : Nat} {cs : List Value} {x : DataW H × List MemPlace} (h : DataW.trod enc Try.prog W base spare held fuel 58 cs = some x) : ∃ (k : ByteArray) (f : El), cs = (ec k f).toList ∧ Ms.Wf k := by
  obtain ⟨xs, n, _, _, hl, hxl, hf⟩ := DataW.trod_struct Try.underlying58 h
  have hl17 : cs.length = 17 := hl.trans (by kernel_rfl)
  have hc9 : Try.prog.cellsOf 9 = 1 := by kernel_rfl
  have hcH : Try.prog.cellsOf 49 = 16 := by kernel_rfl
  have hc1 : Try.prog.cellsOf 3 = 1 := by kernel_rfl
  have h0 : DataW.trod enc Try.prog W base spare held n 9 ((cs.drop 0).take (Try.prog.cellsOf 9)) = xs[0]? := hf 0 _ rfl
  have h1 : DataW.trod enc Try.prog W base spare held n 49 ((cs.drop 1).take (Try.prog.cellsOf 49)) = xs[1]? := hf 1 _ rfl
  rw [List.getElem?_eq_getElem (by rw [hxl]; decide)] at h0 h1
  obtain ⟨k, hk, _, hwf⟩ := DataW.trod_string Try.underlying9 h0
  obtain ⟨ys, m, _, _, _, hyl, hi⟩ := DataW.trod_array Try.underlying49 h1
  have each : ∀ i, i < 16 → ∃ q : Int, cs[i + 1]? = some (.int .i64 q) := fun i hil => by
    have e := hi i hil
    rw [hc1, List.getElem?_eq_getElem (by rw [hyl]; exact hil)] at e
    obtain ⟨q, hq, _, _⟩ := DataW.trod_int Try.underlying3 e
    refine ⟨q, ?_⟩
    have h9 := congrArg (·[0]?) hq
    rw [hcH] at h9
    simp only [List.getElem?_take, List.getElem?_drop, List.getElem?_cons_zero] at h9
    have e2 : 1 + (i * 1 + 0) = i + 1 := by omega
    rw [if_pos (by omega), if_pos (by omega), e2] at h9
    exact h9
  obtain ⟨f, hff⟩ := choose_lt each
  refine ⟨k, f, ?_, hwf⟩
  apply List.ext_getElem?
  intro i
  by_cases h17 : i < 17
  · cases i with
    | zero =>
      have h9 := congrArg (·[0]?) hk
      rw [hc9] at h9
      simp only [List.getElem?_take, List.getElem?_drop, List.getElem?_cons_zero] at h9
      rw [if_pos (by omega)] at h9
      exact h9
    | succ i =>
      rw [hff i (by omega), Array.getElem?_toList]
      have hi16 : i < 16 := by omega
      exact (ec_hist k f hi16).symm
  · rw [List.getElem?_eq_none (by omega), List.getElem?_eq_none (by rw [Array.length_toList, ec_size]; omega)]
theorem arows_open {v : Value} {d : DataW H} {pl : List MemPlace} (h : DataW.Trod enc Try.prog W base spare held 29 v d pl) (hv : ∃ p n cap, v = .slice p n cap) :
    ∃ (p : Option Addr) (n cap : Nat) (l : List KV), v = .slice p n cap ∧ l.length = n ∧ n ≤ maxLen ∧ (∀ x ∈ l, Ms.Wf x.1) ∧ RC W p l := by
  obtain ⟨pv0, nv0, cv0, hvv⟩ := hv
  subst hvv
  obtain ⟨fuel, h⟩ := h
  have hC : Try.prog.cellsOf 58 = 17 := by kernel_rfl
  rcases open_slice Try.underlying29 h with ⟨hcs, _⟩ | ⟨a, len, cap, m, k, D, Pl, hcs, hb, hl, hm, hmm, hx, hi⟩
  · have hcs2 : Value.slice pv0 nv0 cv0 = .slice none 0 0 := by simpa [Value.cells] using hcs
    exact ⟨none, 0, 0, [], hcs2, rfl, Nat.zero_le _, fun x hx => (by cases hx), fun i hi => absurd hi (Nat.not_lt_zero _)⟩
  · have hcs2 : Value.slice pv0 nv0 cv0 = .slice (some a) len cap := by simpa [Value.cells] using hcs
    have hlm : len ≤ m := by rw [hmm]; split <;> omega
    rw [hC] at hi
    obtain ⟨b, off, spot⟩ := a
    have each : ∀ i, i < len → ∃ x : KV, Ms.Wf x.1 ∧ spot = none ∧ b < W.heap.size ∧ W.rangeAt b (off + i * 17) (ec x.1 x.2).toList := fun i hil => by
      obtain ⟨cs', hc, ht'⟩ := hi i (by omega)
      obtain ⟨kk, f, hcs', hwf⟩ := row_open ht'
      obtain ⟨_, hcl, hat⟩ := World.cells?_some hc
      have hspot : spot = none := by
        obtain ⟨cs0, hc0, ht0⟩ := hi 0 (by omega)
        obtain ⟨k0, f0, hcs0, _⟩ := row_open ht0
        obtain ⟨_, _, hat0⟩ := World.cells?_some hc0
        have h00 := hat0 0 (by omega)
        rw [hcs0] at h00
        simpa [Addr.add] using World.cell?_spot h00
      subst hspot
      have hcell : ∀ j, j < 17 → W.cell? ⟨b, off + (i * 17 + j), none⟩ = cs'[j]? := fun j hj => by
        have := hat j hj
        rw [Go.Deep.add_add, Go.WideShapes.add_plain] at this
        exact this
      refine ⟨(kk, f), hwf, rfl, ?_, fun j v hv => ?_⟩
      · have h0 := hcell 0 (by omega)
        rw [hcs'] at h0
        exact World.block_lt_of_cell? W _ (h0.trans rfl)
      · have hj : j < 17 := by
          have := (List.getElem?_eq_some_iff.1 hv).1
          rw [Array.length_toList, ec_size] at this
          exact this
        rw [Nat.add_assoc, hcell j hj, hcs']
        exact hv
    obtain ⟨f, hf⟩ := choose_lt each
    refine ⟨some ⟨b, off, spot⟩, len, cap, (List.range len).map f, hcs2, by simp, by omega, ?_, ?_⟩
    · intro x hx
      obtain ⟨i, hi, rfl⟩ := List.mem_map.1 hx
      exact (hf i (List.mem_range.1 hi)).1
    · intro i hi
      have hin : i < len := by simpa using hi
      obtain ⟨_, hs, hbw, hr⟩ := hf i hin
      rw [range_getD13 f len i _ hin]
      exact ⟨b, off, by rw [hs], hbw, hr⟩
end
/-! ### the page's example -/
def OMadeH (w0 : World) (room : Nat) (e : Ending) (w' : World) : Prop := ∃ H D, e = .returned (.pointer (some ⟨H, 0, none⟩)) ∧ OHD w0 H D room [] w'
theorem oh_new (room : Nat) (w : World) (hr : 0 < room) : Calls Try.prog 6 #[.int .i64 room] w (OMadeH w room) := by
  refine (hy_new room w hr).mono ?_
  rintro e w' ⟨H, D, he, h1, h2, h3, h4⟩
  exact ⟨H, D, he, OHD.of h1 h2 h3 h4⟩
abbrev ba13 : ByteArray := { data := #[97] }
abbrev bb13 : ByteArray := { data := #[98] }
theorem wf13 (x : UInt8) : Ms.Wf { data := #[x] } := by
  unfold Ms.Wf maxLen
  show 1 ≤ _
  omega
def lv13 : List KV := obs 2 (obs 2 [] ba13 3) ba13 9
theorem lv_c1 : ca [4, 20] (Qu.ov (hst lv13 ba13) 50) (Qu.ok (hst lv13 ba13) 50) = 0 := by decide
theorem lv_c2 : ca [4, 20] (Qu.ov (hst lv13 ba13) 51) (Qu.ok (hst lv13 ba13) 51) = 1 := by decide
theorem lv_c3 : ca [] (Qu.ov (hst lv13 bb13) 50) (Qu.ok (hst lv13 bb13) 50) = 0 := by decide
theorem lis_two (w : World) : LIs (w.alloc (.cells #[.int .i64 4, .int .i64 20] 3)) (some ⟨w.heap.size, 0, none⟩) [4, 20] := fun i hi => by
  have e := (MapKept.heap_alloc w (.cells #[.int .i64 4, .int .i64 20] 3)).1
  refine ⟨w.heap.size, 0, rfl, by simp, ?_⟩
  simp only [World.cell?, e]
  match i, hi with
  | 0, _ => rfl
  | 1, _ => rfl
  | (i + 2), hi => simp at hi; omega
theorem i64_two : I64s [4, 20] := fun x hx => by
  simp only [List.mem_cons, List.not_mem_nil, or_false] at hx
  omega
theorem OHD.clsO {w0 w : World} {H room : Nat} {D : Td} {L : List KV} (h : OHD w0 H D room L w) {k : ByteArray} (hk : Ms.Wf k) (p : Option Addr) (n cap : Nat) (ls : List Int) (q : Int) (hn : ls.length = n) (hn2 : n ≤ 1000) (hls : I64s ls) (hin : LIs w p ls) {c : Nat} (hc : ca ls (Qu.ov (hst L k) q) (Qu.ok (hst L k) q) = c) {C : Int} (hC : (c : Int) = C) :
    Calls Try.prog 13 #[.pointer (some ⟨H, 0, none⟩), .string k, .slice p n cap, .int .i64 q] w fun e w' => e = .returned (.int .i64 C) ∧ OHD w0 H D room L w' := by
  subst hC hc
  exact (h.cls hk p n cap ls q hn hn2 hls hin).mono fun e w' ⟨he, hb⟩ => ⟨he, h.below hb⟩
set_option maxHeartbeats 1000000 in
theorem hy_live (w : World) : Calls Try.prog 7 #[] w fun e w' => e = .returned (.bool true) ∧ Below w.heap.size w w' := by
  have HN := Lib.hid (oh_new 2 w (by decide))
  rw [show ((2 : Nat) : Int) = 2 from rfl] at HN
  go_enter Try.func7, Try.ntmps7
  go_wp2_with (go_at_call 6; refine HN.out.mono ?_)
  rintro e w1 ⟨H, D, rfl, o1⟩
  have P1 := Lib.hid (o1.obs (k := ba13) (wf13 _) 3 (by decide) (by decide) (by decide))
  rw [show ((3 : Nat) : Int) = 3 from rfl] at P1
  clear o1 HN
  go_wp2_with (go_at_call 8; refine P1.out.mono ?_)
  rintro e w2 ⟨rfl, o2⟩
  have P2 := Lib.hid (o2.obs (k := ba13) (wf13 _) 9 (by decide) (obs_len 2 ba13 3).1 (Nat.lt_of_le_of_lt (obs_len 2 ba13 3).1 (by decide)))
  rw [show ((9 : Nat) : Int) = 9 from rfl] at P2
  clear o2 P1
  go_wp2_with (go_at_call 8; refine P2.out.mono ?_)
  rintro e w3 ⟨rfl, o3⟩
  have o3' : OHD w H D 2 lv13 w3 := o3
  have hb3 := (Below.refl w3.heap.size w3).alloc (Nat.le_refl _) (.cells #[.int .i64 4, .int .i64 20] 3)
  have P3 := Lib.hid (fun c => (o3'.below hb3).clsO (k := ba13) (wf13 _) (some ⟨w3.heap.size, 0, none⟩) 2 c [4, 20] 50 rfl (by decide) i64_two (lis_two w3) lv_c1 (C := 0) rfl)
  clear o3 o3' hb3 P2
  go_wp2_with (go_at_call 13; refine (P3.out _).mono ?_)
  rintro e w4 ⟨rfl, o4⟩
  have hb4 := (Below.refl w4.heap.size w4).alloc (Nat.le_refl _) (.cells #[.int .i64 4, .int .i64 20] 3)
  have P4 := Lib.hid (fun c => (o4.below hb4).clsO (k := ba13) (wf13 _) (some ⟨w4.heap.size, 0, none⟩) 2 c [4, 20] 51 rfl (by decide) i64_two (lis_two w4) lv_c2 (C := 1) rfl)
  clear o4 hb4 P3
  go_wp2_with (go_at_call 13; refine (P4.out _).mono ?_)
  rintro e w5 ⟨rfl, o5⟩
  have P5 := Lib.hid (o5.clsO (k := bb13) (wf13 _) none 0 0 [] 50 rfl (by decide) (fun x hx => by cases hx) (fun i hi => absurd hi (Nat.not_lt_zero _)) lv_c3 (C := 0) rfl)
  clear o5 P4
  go_wp2_with (go_at_call 13; refine P5.out.mono ?_)
  rintro e w6 ⟨rfl, o6⟩
  have HB := Lib.hid o6.bl
  clear o6 P5
  go_wp2
  go_ret
  exact ⟨rfl, HB.out⟩
end Hy
end Go.Proofs.Ytbkbopaoeehfkaa
