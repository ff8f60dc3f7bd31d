/-
  CONTRACTS OF LAYER 13 (history), part B: Observe.
-/
import Derived.Test.YtbkbopaoeehfkaaHyA
import Derived.Test.YtbkbopaoeehfkaaRegionI
namespace Go.Proofs.Ytbkbopaoeehfkaa
open Go.RowKit Lr Ft Hy Bt
set_option linter.unusedVariables false
namespace Hy
section
variable {w0 w w' : World} {H room : Nat} {D : Td} {ns0 : List Nd} {L : List KV}
theorem Hg.start {ns : List Nd} (h : Hb w H D room ns) : Hg w H D room ns (kvs ns) w := ⟨ns, rfl, h, Gs.refl _ _⟩
theorem Hg.below (h : Hg w0 H D room ns0 L w) (hb : Below w.heap.size w w') : Hg w0 H D room ns0 L w' := by
  obtain ⟨ns', e, h1, h2⟩ := h
  exact ⟨ns', e, h1.below hb (Nat.le_refl _), h2.trans (Gs.below hb)⟩
theorem Hg.c0 (h : Hg w0 H D room ns0 L w) : w.cell? ⟨H, 0, none⟩ = some (.pointer (some ⟨D.b, 0, none⟩)) := by
  obtain ⟨ns', e, h1, h2⟩ := h
  exact h1.c0
theorem Hg.hist (h : Hg w0 H D room ns0 L w) {k : ByteArray} (hk : Ms.Wf k) : Calls Try.prog 18 #[.pointer (some ⟨H, 0, none⟩), .string k] w fun e w' => e = .returned (.agg (hc (hst L k))) ∧ Hg w0 H D room ns0 L w' := by
  obtain ⟨ns', e, h1, h2⟩ := id h
  have h9 := hy_hist h1 hk
  rw [e] at h9
  refine h9.mono ?_
  rintro e9 w' ⟨he, hb⟩
  exact ⟨he, h.below hb⟩
theorem Hg.put (h : Hg w0 H D room ns0 L w) {k : ByteArray} (hk : Ms.Wf k) (f : El) (hfit : L.length ≤ room) (hlen : L.length < 1000) {s : ByteArray} {t : Bool} (e2 : gk room L k = s) (e3 : gb room L k = t) :
    Calls Try.prog 16 #[.pointer (some ⟨D.b, 0, none⟩), .string k, .agg (hc f)] w fun e w' => e = .returned (.tuple #[.string s, .bool t]) ∧ Hg w0 H D room ns0 (pt room L k f) w' := by
  subst e2 e3
  obtain ⟨ns', e, h1, h2⟩ := id h
  have h9 := lput_any h1.tb hk f (by rw [← kvs_len, e]; exact hfit) (by rw [← kvs_len, e]; exact hlen)
  rw [e] at h9
  refine h9.mono ?_
  rintro e9 w' ⟨he, ns2, q1, q2, q3⟩
  exact ⟨he, ns2, q1, h1.step q2 q3, h2.trans q3⟩
def HObs (w : World) (H : Nat) (D : Td) (room : Nat) (ns : List Nd) (L : List KV) (e : Ending) (w' : World) : Prop := e = .returned (.tuple #[]) ∧ Hg w H D room ns L w'
end
end Hy
section
variable {w w' : World} {H room : Nat} {D : Td} {ns : List Nd}
set_option maxHeartbeats 1000000 in
theorem hy_obs (h : Hb w H D room ns) {k : ByteArray} (hk : Ms.Wf k) (v : Nat) (hv : v < 18446744073709551616) (hfit : ns.length ≤ room) (hlen : ns.length < 1000) :
    Calls Try.prog 8 #[.pointer (some ⟨H, 0, none⟩), .string k, .int .u64 v] w (HObs w H D room ns (obs room (kvs ns) k v)) := by
  have HS := Lib.hid (Hg.start h)
  have HK := Lib.hid hk
  have e1 : obs room (kvs ns) k v = pt room (kvs ns) k (Hs.ad (hst (kvs ns) k) v) := rfl
  rw [e1]
  have HFIT : Hid ((kvs ns).length ≤ room) := Lib.hid (by rw [kvs_len]; exact hfit)
  have HLEN : Hid ((kvs ns).length < 1000) := Lib.hid (by rw [kvs_len]; exact hlen)
  obtain ⟨L, hL⟩ : ∃ L, kvs ns = L := ⟨_, rfl⟩
  rw [hL] at HS HFIT HLEN ⊢
  obtain ⟨f, hf⟩ : ∃ f, hst L k = f := ⟨_, rfl⟩
  rw [hf]
  have HF := Lib.hid hf
  have HA := Lib.hid (fun w => add_any f v hv w)
  obtain ⟨g, hg⟩ : ∃ g, Hs.ad f v = g := ⟨_, rfl⟩
  rw [hg] at HA ⊢
  obtain ⟨s, hs⟩ : ∃ s, gk room L k = s := ⟨_, rfl⟩
  obtain ⟨t, ht⟩ : ∃ t, gb room L k = t := ⟨_, rfl⟩
  have E2 := Lib.hid hs
  have E3 := Lib.hid ht
  obtain ⟨z, hz⟩ : ∃ z : Int, (v : Int) = z := ⟨_, rfl⟩
  rw [hz] at HA ⊢
  clear h hk e1 hfit hlen hL hf hg hs ht hz hv
  go_enter Try.func8, Try.ntmps8
  go_wp2_with fail
  refine Bz.wp_region (S := Bz.in3 7 9 10 (fun b1 w1 => Hg w H D room ns (cond b1 (pt room L k g) L) w1)) (by kernel_rfl) ?_ ?_
  · exact Bz.in3_start (by decide) (by decide) (by decide) (HS.out.below (Below.refl _ _).drew)
  repeat (first
    | (refine Bz.anyR_value (v := ?_) (by kernel_rfl) (fun m w1 _ hS => Bz.in3_keep (by decide) (by decide) hS) (by rfl) (fun _ _ _ h => h) (fun m w1 _ hS => ?_) ?_
       rotate_left
       · have q0 := Hg.c0 hS.2.2
         go_simp
         with_reducible rfl
       (try simp only [Act.put, List.setIfInBounds_toArray, List.set_cons_zero, List.set_cons_succ]))
    | (refine Bz.anyR_not (by kernel_rfl) (fun m w1 _ hS => Bz.in3_keep (by decide) (by decide) hS) (by rfl) (fun _ _ _ h => h) ?_
       (try simp only [Act.put, List.setIfInBounds_toArray, List.set_cons_zero, List.set_cons_succ]))
    | (refine Bz.anyR_call (v := ?_) (f := ?_) (args := ?_) (by kernel_rfl) (by rfl) (fun _ _ _ h => h) (fun m w1 hm hS => ?_) (fun m w1 hm hS => ?_) ?_
       rotate_left 3
       · go_simp
         (try constructor) <;> with_reducible rfl
       · first
           | ((have hS2 : Hg w H D room ns L w1 := Bz.in3_first hm hS; (have hcall := hS2.hist HK.out); rw [HF.out] at hcall; (with_reducible refine (hcall.mono ?_)); rintro e w' ⟨rfl, hp⟩; refine ⟨?_, Bz.in3_L hm (by decide) (by decide) hS hp⟩; with_reducible rfl))
           | ((have hS2 : Hg w H D room ns L w1 := Bz.in3_mid hm hS; (with_reducible refine ((HA.out w1).mono ?_)); rintro e w' ⟨rfl, hb⟩; refine ⟨?_, Bz.in3_K hm (by decide) (by decide) (hm.2 ⟨7, .data⟩ (by simp) rfl) hS (hS2.below hb)⟩; with_reducible rfl))
           | ((have hS2 : Hg w H D room ns L w1 := Bz.in3_last hm hS; (with_reducible refine ((hS2.put HK.out g HFIT.out HLEN.out E2.out E3.out).mono ?_)); rintro e w' ⟨rfl, hp⟩; refine ⟨?_, Bz.in3_T hm (by decide) (by decide) (hm.2 ⟨9, .data⟩ (by simp) rfl) hS hp⟩; with_reducible rfl))
       (try simp only [Act.put, List.setIfInBounds_toArray, List.set_cons_zero, List.set_cons_succ]))
    | refine Bz.anyR_done (by kernel_rfl) (fun w1 hS => ?_))
  have HF2 : Hid (Hg w H D room ns (pt room L k g) w1) := Lib.hid (Bz.in3_end (by decide) (by decide) hS)
  clear hS HS
  go_wp2
  first | go_ret | go_ret2 | go_end0
  exact ⟨rfl, HF2.out⟩
end
end Go.Proofs.Ytbkbopaoeehfkaa
