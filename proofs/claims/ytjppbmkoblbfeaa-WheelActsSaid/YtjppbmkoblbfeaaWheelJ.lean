/-
  CONTRACTS OF LAYER 8 (wheel), part J: the page's Turn.
-/
import Derived.Test.YtjppbmkoblbfeaaWheelI
import Derived.Deep.DeepCutAuto
namespace Go.Proofs.Ytjppbmkoblbfeaa
open Go.RowKit Wl Bt
set_option linter.unusedVariables false

def lenAt (w : World) (br : Nat) : Nat := match w.cell? ⟨br, 1, none⟩ with
  | some (.slice _ n _) => n
  | _ => 0
structure RT (w : World) (B br : Nat) (v : Value) (now tq : Nat) (L : List T) (wr : World) (u v' : Value) (rem out : List T) (P : T → Bool) : Prop where
  rw : RW wr B br v' now rem
  own : OwnT wr w.heap.size u out
  mv : Mv (rfp br v) w wr
  fr : ∀ x, v'.ownBlock = some x → rfp br v x ∨ w.heap.size ≤ x
  remE : rem = L.filter P
  nd : out.Nodup
  mem : ∀ x, x ∈ out ↔ x ∈ L ∧ P x = false
  srt : out.Pairwise lt
  le : ∀ x ∈ out, x.2 ≤ tq
  lo : ∀ x ∈ out, ∀ y ∈ rem, lt x y
  dj : ∀ x, u.ownBlock = some x → v'.ownBlock ≠ some x
section
variable {w wr w2 w3 : World} {B br now tq : Nat} {v u u3 v' v2 : Value} {L rem out : List T} {P : T → Bool} {y : T}
theorem RT.lenAt (h : RT w B br v now tq L wr u v' rem out P) : lenAt wr br = rem.length := by
  obtain ⟨p, c, hv, _, _⟩ := h.rw.own.view
  unfold Go.Proofs.Ytjppbmkoblbfeaa.lenAt
  rw [h.rw.c1, hv]
/-- the least of what is left is taken out -/
theorem RT.step (h : RT w B br v now tq L wr u v' rem out P) (hk : Ks L) (hy : y ∈ rem) (hleast : ∀ x ∈ rem, ¬ lt x y) (hle : y.2 ≤ tq)
    (hrw : RW w3 B br v2 now (drp rem y.1)) (hown : OwnT w3 w.heap.size u3 (out ++ [y])) (hmv : Mv (rfp br v) w w3) (hfr : ∀ x, v2.ownBlock = some x → w.heap.size ≤ x) (hdj : ∀ x, u3.ownBlock = some x → v2.ownBlock ≠ some x) :
    RT w B br v now tq L w3 u3 v2 (drp rem y.1) (out ++ [y]) (fun x => P x && x.1 != y.1) := by
  have hyL : y ∈ L ∧ P y = true := by rw [h.remE] at hy; exact List.mem_filter.1 hy
  have hdrp : ∀ z, z ∈ drp rem y.1 ↔ z ∈ rem ∧ z.1 ≠ y.1 := fun z => by unfold drp; rw [List.mem_filter]; simp
  exact {
    rw := hrw
    own := hown
    mv := hmv
    fr := fun x e => Or.inr (hfr x e)
    remE := by
      unfold drp
      rw [h.remE, List.filter_filter]
      refine List.filter_congr (fun x _ => ?_)
      rw [Bool.and_comm]
    nd := by
      rw [List.nodup_append]
      refine ⟨h.nd, by simp, fun a ha b hb e => ?_⟩
      rw [List.mem_singleton] at hb
      rw [e, hb] at ha
      have := ((h.mem y).1 ha).2
      rw [hyL.2] at this
      cases this
    mem := fun x => by
      rw [List.mem_append, h.mem x, List.mem_singleton]
      constructor
      · rintro (⟨h1, h2⟩ | rfl)
        · exact ⟨h1, by rw [h2]; rfl⟩
        · exact ⟨hyL.1, by simp⟩
      · rintro ⟨h1, h2⟩
        rw [Bool.and_eq_false_iff] at h2
        rcases h2 with h2 | h2
        · exact Or.inl ⟨h1, h2⟩
        · right
          have e : x.1 = y.1 := by simpa using h2
          obtain ⟨a, b⟩ := x
          obtain ⟨c, d⟩ := y
          have e2 : a = c := e
          subst e2
          rw [hk.one h1 hyL.1]
    srt := by
      rw [List.pairwise_append]
      refine ⟨h.srt, by simp, fun a ha b hb => ?_⟩
      rw [List.mem_singleton] at hb
      rw [hb]
      exact h.lo a ha y hy
    le := fun x hx => by
      rcases List.mem_append.1 hx with h1 | h1
      · exact h.le x h1
      · rw [List.mem_singleton] at h1
        rw [h1]; exact hle
    lo := fun x hx z hz => by
      obtain ⟨hz1, hz2⟩ := (hdrp z).1 hz
      rcases List.mem_append.1 hx with h1 | h1
      · exact h.lo x h1 z hz1
      · rw [List.mem_singleton] at h1
        rw [h1]
        rcases lt_total (x := y) (y := z) (fun e => hz2 (by rw [e])) with h3 | h3
        · exact h3
        · exact absurd h3 (hleast z hz1)
    dj := hdj }
end
theorem RT.later {w wr wc : World} {B br now tq : Nat} {v u v' : Value} {L rem out : List T} {P : T → Bool} (h : RT w B br v now tq L wr u v' rem out P) (hb : Below wr.heap.size wr wc) : RT w B br v now tq L wc u v' rem out P where
  rw := h.rw.below hb (Nat.le_refl _)
  own := h.own.block (fun g e => hb.block g (h.own.kind e).2.1)
  mv := h.mv.trans (Mv.of_below (S := rfp br v) hb) (fun _ _ e => e)
  fr := h.fr
  remE := h.remE
  nd := h.nd
  mem := h.mem
  srt := h.srt
  le := h.le
  lo := h.lo
  dj := h.dj
def RTurned (w : World) (B br : Nat) (v : Value) (now tq : Nat) (L : List T) (e : Ending) (w' : World) : Prop :=
  ∃ u d v', e = .returned u ∧ Srt (L.filter fun x => decide (x.2 ≤ tq)) d ∧ OwnT w' w.heap.size u d ∧ RW w' B br v' (max now tq) (L.filter fun x => decide (tq < x.2)) ∧ Mv (rfp br v) w w'
theorem RT.done {w wr : World} {B br now tq : Nat} {v u v' : Value} {L rem out : List T} {P : T → Bool} (h : RT w B br v now tq L wr u v' rem out P) (hk : Ks L) (hall : ∀ x ∈ rem, tq < x.2) :
    RTurned w B br v now tq L (.returned u) (wr.setCell ⟨br, 0, none⟩ (.int .u64 (max now tq : Nat))) := by
  have hP : ∀ x ∈ L, P x = decide (tq < x.2) := fun x hx => by
    by_cases hp : P x = true
    · have := hall x (by rw [h.remE]; exact List.mem_filter.2 ⟨hx, hp⟩)
      rw [hp]
      simp [this]
    · have hp2 : P x = false := by simpa using hp
      have := h.le x ((h.mem x).2 ⟨hx, hp2⟩)
      rw [hp2]
      symm
      rw [decide_eq_false_iff_not]
      omega
  have hrem : rem = L.filter fun x => decide (tq < x.2) := by rw [h.remE]; exact List.filter_congr hP
  have hbr : ∀ g, g ≠ br → (wr.setCell ⟨br, 0, none⟩ (.int .u64 (max now tq : Nat))).heap[g]? = wr.heap[g]? := fun g hg => Below.heap_setCell _ _ _ _ hg
  have hrw := h.rw
  rw [hrem] at hrw
  refine ⟨u, out, v', rfl, ⟨?_, h.srt⟩, h.own.block (fun g e => hbr g (fun e2 => ?_)), ?_, h.mv.trans (Mv.setCell (S := rfp br v) _ _ _ (Or.inl rfl)) (fun _ _ e => e)⟩
  · rw [List.perm_ext_iff_of_nodup h.nd (List.Pairwise.filter _ hk.nodup)]
    intro x
    rw [h.mem x, List.mem_filter]
    constructor
    · rintro ⟨h1, h2⟩
      rw [hP x h1, decide_eq_false_iff_not] at h2
      exact ⟨h1, by simpa using (by omega : x.2 ≤ tq)⟩
    · rintro ⟨h1, h2⟩
      refine ⟨h1, ?_⟩
      rw [hP x h1, decide_eq_false_iff_not]
      have : x.2 ≤ tq := by simpa using h2
      omega
  · obtain ⟨_, _, cs, e1⟩ := h.own.kind e
    obtain ⟨cs2, e3⟩ := h.rw.kind
    rw [e2, e3] at e1
    injection e1 with e1
    injection e1 with _ e1
    exact absurd e1 (by decide)
  · exact {
      kind := kind_setCell _ _ hrw.kind
      c0 := cset_same hrw.c0
      c1 := (cset_other (by omega)).trans hrw.c1
      own := hrw.own.block (fun g e => hbr g (fun e2 => hrw.ne (by rw [e, e2])))
      keys := hrw.keys
      len := hrw.len }
/-- behind the region: a new variable that holds the least of what is left -/
def XCut (wr : World) (rem : List T) (s : Value) (wx : World) : Prop :=
  ∃ (g : Nat) (y : T), s = .pointer (some ⟨g, 0, none⟩) ∧ (y ∈ rem ∧ ∀ x ∈ rem, ¬ lt x y) ∧ wr.heap.size ≤ g ∧ g < wx.heap.size ∧ wx.cell? ⟨g, 0, none⟩ = some (.int .i64 0) ∧ wx.cell? ⟨g, 1, none⟩ = some (.int .i64 y.1) ∧ wx.cell? ⟨g, 2, none⟩ = some (.int .u64 (y.2 : Nat)) ∧ Below wr.heap.size wr wx
theorem fst_least {rem : List T} {k : Nat} (h : Fst rem rem.length k) : (rem[k]?.getD t0) ∈ rem ∧ ∀ x ∈ rem, ¬ lt x (rem[k]?.getD t0) := by
  obtain ⟨h1, h2⟩ := h
  rw [List.take_of_length_le (Nat.le_refl _)] at h2
  have e : rem[k]?.getD t0 = rem.getD k t0 := List.getD_eq_getElem?_getD.symm
  rw [e]
  refine ⟨?_, h2⟩
  rw [List.getD_eq_getElem?_getD, List.getElem?_eq_getElem h1]
  exact List.getElem_mem h1
theorem xcut_alloc {wr w' : World} {rem : List T} {k : Nat} (hf : Fst rem rem.length k) (hb : Below wr.heap.size wr w') :
    XCut wr rem (.pointer (some ⟨w'.heap.size, 0, none⟩)) (w'.alloc (.cells #[.int .i64 0, .int .i64 (rem[k]?.getD t0).1, .int .u64 ((rem[k]?.getD t0).2 : Nat)] 51)) := by
  have hn := (MapKept.heap_alloc w' (.cells #[.int .i64 0, .int .i64 (rem[k]?.getD t0).1, .int .u64 ((rem[k]?.getD t0).2 : Nat)] 51)).1
  refine ⟨w'.heap.size, _, rfl, fst_least hf, hb.size, by simp, ?_, ?_, ?_, hb.alloc hb.size _⟩ <;> simp only [World.cell?, hn] <;> rfl
theorem xcut_set {wr w' : World} {rem : List T} {k : Nat} (hf : Fst rem rem.length k) (hb : Below wr.heap.size wr w')
    (q0 : w'.cell? ⟨wr.heap.size, 0, none⟩ = some (.int .i64 0) ∧ w'.frozen? ⟨wr.heap.size, 0, none⟩ = false) (q1 : w'.cell? ⟨wr.heap.size, 1, none⟩ = some (.int .i64 0) ∧ w'.frozen? ⟨wr.heap.size, 1, none⟩ = false) (q2 : w'.cell? ⟨wr.heap.size, 2, none⟩ = some (.int .u64 0) ∧ w'.frozen? ⟨wr.heap.size, 2, none⟩ = false) :
    XCut wr rem (.pointer (some ⟨wr.heap.size, 0, none⟩)) (((w'.setCell ⟨wr.heap.size, 0, none⟩ (.int .i64 0)).setCell ⟨wr.heap.size, 1, none⟩ (.int .i64 (rem[k]?.getD t0).1)).setCell ⟨wr.heap.size, 2, none⟩ (.int .u64 ((rem[k]?.getD t0).2 : Nat))) := by
  have hlt : wr.heap.size < w'.heap.size := World.block_lt_of_cell? w' _ q0.1
  refine ⟨wr.heap.size, _, rfl, fst_least hf, Nat.le_refl _, by simpa [World.setCell] using hlt, ?_, ?_, ?_, ((hb.setCell (Nat.le_refl _) _).setCell (Nat.le_refl _) _).setCell (Nat.le_refl _) _⟩
  · exact (cset_other (by omega)).trans ((cset_other (by omega)).trans (cset_same q0.1))
  · exact (cset_other (by omega)).trans (cset_same ((cset_other (by omega)).trans q1.1))
  · exact cset_same ((cset_other (by omega)).trans ((cset_other (by omega)).trans q2.1))
set_option maxHeartbeats 4000000 in
theorem rturn_any {w : World} {B br now tq : Nat} {v : Value} {L : List T} (h : RW w B br v now L) (hB : B ≤ w.heap.size) :
    Calls Try.prog 15 #[.pointer (some ⟨br, 0, none⟩), .int .u64 tq] w (RTurned w B br v now tq L) := by
  have HKS := Lib.hid h.keys
  obtain ⟨W1, hW1⟩ : ∃ W1, w.alloc (.cells #[] 51) = W1 := ⟨_, rfl⟩
  have hbeg : Hid (∃ v' rem out P, RT w B br v now tq L W1 (.slice (some ⟨w.heap.size, 0, none⟩) 0 0) v' rem out P) := Lib.hid ⟨v, L, [], fun _ => true, {
    rw := by rw [← hW1]; exact h.mv (S := fun _ => False) (Mv.alloc _ _ _) (fun _ _ e => e)
    own := by rw [← hW1]; exact World.ownsRow_made w #[] 0 (Nat.le_refl _) (by decide) rfl
    mv := by rw [← hW1]; exact Mv.alloc _ _ _
    fr := fun x e => Or.inl (Or.inr e)
    remE := by symm; rw [List.filter_eq_self]; intro x _; rfl
    nd := List.nodup_nil
    mem := fun x => by simp
    srt := List.Pairwise.nil
    le := fun x e => by cases e
    lo := fun x e => by cases e
    dj := fun x e e2 => by
      have e3 : w.heap.size = x := by injection e
      have := (h.own.kind e2).2.1
      omega }⟩
  have HLEN := Lib.hid h.len
  obtain ⟨zt, hzt⟩ : ∃ z : Int, (tq : Int) = z := ⟨_, rfl⟩
  have HZT := Lib.hid hzt
  rw [hzt]
  clear h hzt
  go_enter Try.func15, Try.ntmps15
  go_wp2
  go_loopw [5] (fun u wr => ∃ (n : Nat), lenAt wr br = n ∧ Hid (∃ v' rem out P, RT w B br v now tq L wr u v' rem out P)) (fun _ wr => lenAt wr br)
  case atStart => exact ⟨_, rfl, hbeg⟩
  case round =>
    obtain ⟨nn, _, hrt⟩ := hrel
    obtain ⟨v', rem, out, P, rt⟩ := hrt.out
    obtain ⟨p, cap, hv, hmx, htc⟩ := rt.rw.own.view
    have hla := rt.lenAt
    obtain ⟨n, hn⟩ : ∃ n, rem.length = n := ⟨_, rfl⟩
    rw [hn] at hv hla
    have hc1 := rt.rw.c1
    rw [hv] at hc1
    have hc0 := rt.rw.c0
    have hn2 : n ≤ 1000 := by have := rt.rw.len; omega
    have RT0 := Lib.hid rt
    have HN := Lib.hid hn
    have HV := Lib.hid hv
    have HTC := Lib.hid htc
    have HLA := Lib.hid hla
    have hfz := rt.rw.frozen 0
    obtain ⟨zn, hzn⟩ : ∃ z : Int, (now : Int) = z := ⟨_, rfl⟩
    have HZN := Lib.hid hzn
    rw [hzn] at hc0
    by_cases h0 : n = 0
    · subst h0
      have hrem : rem = [] := List.eq_nil_of_length_eq_zero HN.out
      have hfin := rt.done HKS.out (by rw [hrem]; intro x hx; cases hx)
      have hmx2 : max zn zt = ((max now tq : Nat) : Int) := by have := HZT.out; omega
      obtain ⟨mm, hmm⟩ : ∃ mm, max now tq = mm := ⟨_, rfl⟩
      rw [hmm] at hmx2 hfin
      have HFIN := Lib.hid hfin
      clear rt hn hv htc hla hrt hzn hfin hmm hrem
      go_wp2
      go_ret
      exact HFIN.out
    · have hpos : 0 < n := by omega
      have hbr := rt.rw.lt
      have HF : Hid (∀ W, Below wr.heap.size wr W → Calls Try.prog 33 #[.agg #[.int .u64 zn, .slice p n cap]] W fun e w' => ∃ (k : Nat) (g : Nat), e = .returned (.int .i64 k) ∧ Hid (Fst rem rem.length k) ∧ (k : Int) < (n : Int) ∧ p = some ⟨g, 0, none⟩ ∧ g < w'.heap.size ∧ w'.cell? ⟨g, k * 3, none⟩ = some (.int .i64 0) ∧ w'.cell? ⟨g, k * 3 + 1, none⟩ = some (.int .i64 (rem.getD k t0).1) ∧ w'.cell? ⟨g, k * 3 + 2, none⟩ = some (.int .u64 ((rem.getD k t0).2 : Nat)) ∧ w'.cell? ⟨br, 1, none⟩ = some (.slice p n cap) ∧ br < w'.heap.size ∧ Hid (Below wr.heap.size wr w') ∧ (∀ x o, x < W.heap.size → w'.cell? ⟨x, o, none⟩ = W.cell? ⟨x, o, none⟩ ∧ w'.frozen? ⟨x, o, none⟩ = W.frozen? ⟨x, o, none⟩)) := Lib.hid (fun W hW => by
        have h1 := first_any zn p n cap rem W HN.out hn2 hpos (HTC.out.below hW (Nat.le_refl _))
        refine h1.mono ?_
        rintro e w' ⟨k, he, hf, hb⟩
        have hb2 := hW.trans (hb.mono hW.size)
        obtain ⟨g, hp, hg, hx0, hx1, hx2⟩ := (HTC.out.below hb2 (Nat.le_refl _)) k hf.1
        exact ⟨k, g, he, Lib.hid hf, by have := hf.1; have := HN.out; omega, hp, hg, hx0, hx1, hx2, (hb2.cell (p := ⟨br, 1, none⟩) hbr).trans hc1, Nat.lt_of_lt_of_le hbr hb2.size, Lib.hid hb2, fun x o hx => ⟨World.cell?_of_block (hb.block x hx), World.frozen?_of_block (hb.block x hx)⟩⟩)
      clear rt hn hv htc hla hrt hzn
      go_upto_region 3 with fail
      go_cut [6] from 14 to 23 (fun s wx => XCut wr rem s wx)
      case first =>
        go_region_with (go_at_call 33; refine (HF.out _ (by repeat (first | exact Below.refl _ _ | refine Below.drew ?_ | refine Below.alloc ?_ (by simp) _))).mono ?_; rintro e w' ⟨k, g, rfl, hf, hkn, rfl, hg, hx0, hx1, hx2, hcb, hbr2, hb, hold⟩; have q0 := hold wr.heap.size 0; have q1 := hold wr.heap.size 1; have q2 := hold wr.heap.size 2; clear hold; (try simp at q0); (try simp at q1); (try simp at q2))
        all_goals (go_wp2_with fail; go_meet)
        all_goals first | exact xcut_alloc hf.out hb.out | exact xcut_set hf.out hb.out q0 q1 q2
      case rest =>
        obtain ⟨g, y, rfl, hleast, hg1, hg2, hx0, hx1, hx2, hbx⟩ := hcut
        have RTC := Lib.hid (RT0.out.later hbx)
        have hfz2 := RTC.out.rw.frozen 0
        have hd0 := RTC.out.rw.c0
        rw [HZN.out] at hd0
        have HLEAST := Lib.hid hleast
        obtain ⟨y1, y2⟩ := y
        simp only at hx1 hx2
        obtain ⟨zy, hzy⟩ : ∃ z : Int, (y2 : Int) = z := ⟨_, rfl⟩
        rw [hzy] at hx2
        have HZY := Lib.hid hzy
        clear hleast hbx hfz hc0 hc1 HF HTC hzy hbr
        by_cases hle : zt < zy
        · have hall : ∀ x ∈ rem, tq < x.2 := fun x hx => by
            have h1 := HLEAST.out.2 x hx
            unfold lt at h1
            simp only at h1
            have := HZT.out
            have := HZY.out
            omega
          have hfin := RTC.out.done HKS.out hall
          have hmx2 : max zn zt = ((max now tq : Nat) : Int) := by have := HZT.out; have := HZN.out; omega
          obtain ⟨mm, hmm⟩ : ∃ mm, max now tq = mm := ⟨_, rfl⟩
          rw [hmm] at hmx2 hfin
          have HFIN := Lib.hid hfin
          clear hfin hmm hall
          go_wp2
          go_ret
          exact HFIN.out
        · obtain ⟨i0, hinf, hz0, hz1, hz2⟩ := info_parts info_T
          have HI := Lib.hid hinf
          have HZ0 := Lib.hid hz0
          have HZ1 := Lib.hid hz1
          have HZ2 := Lib.hid hz2
          have hown := RTC.out.own
          obtain ⟨m, hm⟩ : ∃ m, out.length = m := ⟨_, rfl⟩
          have HM := Lib.hid hm
          have hm2 : m ≤ 1000 := by
            have h1 := List.Nodup.length_le_of_subset RTC.out.nd (fun x hx => ((RTC.out.mem x).1 hx).1)
            have := HLEN.out
            omega
          unfold OwnT at hown
          rw [hm] at hown
          have hszc : w.heap.size ≤ wc.heap.size := RTC.out.mv.size
          clear hinf hz0 hz1 hz2 hm hd0 hfz2
          go_wp2_with (at_builtin; refine wpList_append_own _ rfl _ _ 28 rfl w.heap.size 51 i0 zT 3 24 Try.underlying28 HI.out HZ0.out HZ1.out HZ2.out rfl (by decide) _ _ _ rfl (World.ownsRow.alloc hown _) ⟨wc.heap.size, 0, none⟩ 1 1 [.int .i64 0, .int .i64 y1, .int .u64 zy] rfl rfl (tcells3 wc _ _ _) (one3 _ _) (by unfold maxLen; omega) (by omega) (by simp; omega) ?_)
          intro v3 w3 hown3 hgrow hnil
          have hown4 : OwnT w3 w.heap.size v3 (out ++ [(y1, y2)]) := by
            unfold OwnT
            rw [tcells_app, List.length_append, HM.out]
            have e : tcells [(y1, y2)] = [.int .i64 0, .int .i64 y1, .int .u64 zy] := by rw [← HZY.out]; rfl
            rw [e]
            exact hown3
          have hmvg : Mv (fun x => u5.ownBlock = some x) wc w3 := (Mv.alloc _ _ _).trans (Mv.of_grown (S := fun x => u5.ownBlock = some x) hgrow (fun x e _ => e)) (fun _ _ e => e)
          have hrw3 : RW w3 B br v' now rem := RTC.out.rw.mv hmvg (fun x hx e => by
            rcases hx with hx | hx
            · obtain ⟨_, _, cs, e1⟩ := RTC.out.own.kind e
              obtain ⟨cs2, e3⟩ := RTC.out.rw.kind
              rw [hx, e3] at e1
              injection e1 with e1
              injection e1 with _ e1
              exact absurd e1 (by decide)
            · exact RTC.out.dj x e hx)
          have hgne : u5.ownBlock ≠ some g := fun e => by
            have := (RT0.out.own.kind e).2.1
            omega
          have hx1' : w3.cell? ⟨g, 1, none⟩ = some (.int .i64 y1) := by rw [World.cell?_of_block (hmvg.block g hg2 hgne)]; exact hx1
          have hmv3 : Mv (rfp br v) w w3 := RTC.out.mv.trans hmvg (fun x hx e => by have := (RTC.out.own.kind e).1; omega)
          have hdrop := rdrop_any hrw3 (Nat.le_trans hB hmv3.size) y1
          have HD := Lib.hid hdrop
          have HO4 := Lib.hid hown4
          have HM3 := Lib.hid hmv3
          have HR3 := Lib.hid hrw3
          clear hown3 hgrow hnil hown4 hmvg hrw3 hgne hmv3 hdrop hown hx0 hx1 hx2
          go_wp2_with (go_at_call 12; refine HD.out.mono ?_)
          rintro e w4 ⟨rfl, v2, hrw4, hmv4, hfr4⟩
          have hy : (y1, y2) ∈ rem := HLEAST.out.1
          have hsz3 : w.heap.size ≤ w3.heap.size := HM3.out.size
          have HNEW : Hid (RT w B br v now tq L w4 v3 v2 (drp rem y1) (out ++ [(y1, y2)]) (fun x => P x && x.1 != y1)) := Lib.hid (RTC.out.step HKS.out hy HLEAST.out.2 (show y2 ≤ tq by have := HZT.out; have := HZY.out; omega) hrw4
            (HO4.out.block (fun g' e => hmv4.block g' (HO4.out.kind e).2.1 (fun e2 => by
              obtain ⟨_, _, cs, e1⟩ := HO4.out.kind e
              obtain ⟨cs2, e3⟩ := HR3.out.kind
              rw [e2, e3] at e1
              injection e1 with e1
              injection e1 with _ e1
              exact absurd e1 (by decide))))
            (HM3.out.trans hmv4 (fun x _ e => Or.inl e)) (fun x e => Nat.le_trans hsz3 (hfr4 x e))
            (fun x e e2 => by
              have h1 := (HO4.out.kind e).2.1
              have h2 := hfr4 x e2
              omega))
          have hlen : (drp rem y1).length + 1 = n := by
            rw [← HN.out]
            exact drp_len RT0.out.rw.keys (fd_of RT0.out.rw.keys hy)
          have HLEN4 := Lib.hid hlen
          clear hrw4 hmv4 hfr4 hy hsz3 hlen
          go_wp2
          exact ⟨⟨_, rfl, Lib.hid ⟨_, _, _, _, HNEW.out⟩⟩, by rw [HNEW.out.lenAt, HLA.out]; have := HLEN4.out; omega⟩
end Go.Proofs.Ytjppbmkoblbfeaa
