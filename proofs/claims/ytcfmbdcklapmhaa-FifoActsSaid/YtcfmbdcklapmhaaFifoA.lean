/-
  CONTRACTS OF LAYER 14 (fifo), part A: a store into a map in a region that draws its order; the exact world behind two links' change (tw).
-/
import Derived.Test.YtcfmbdcklapmhaaMFifo
import Derived.Test.YtcfmbdcklapmhaaFoot
import Derived.Test.YtcfmbdcklapmhaaMapi
import Derived.Test.YtcfmbdcklapmhaaRegionP
namespace Go.Proofs.Ytcfmbdcklapmhaa
open Go.RowKit Fq Ft Go.Maps Go.WideMaps
set_option linter.unusedVariables false
namespace Mi
/-- 'm[k] = v' at the operation's run -/
theorem ex_put {P : Program} {o : Oper} {a : Act} (w : World) (m x v : Operand) (T K E : TypeId) (hop : o.op = Op.mapUpdate T m x v) (hT : P.underlying T = some (.map K E)) (hK : P.underlying K = some (.int .i64)) (b N : Nat) (f : Int → Option Value)
    (hm : a.eval m = .map (some b)) (hi : Is P K w b f N) (hn : N < maxLen) (s : Int) (hs : Wf s) (hx : a.eval x = .int .i64 s) (val : Value) (hv : a.eval v = val)
    {R : World → Prop} (hR : ∀ w', Is P K w' b (fun x => if x = s then some val else f x) (up (f s) N) → w.grownBy w' (some b) → R w') :
    ∃ w', (execOp a.eval o).run P w = .ok .skip w' ∧ R w' := by
  obtain ⟨D, hD, hr⟩ := hi
  have hkey := keyOf_key hK hs
  obtain ⟨w', hrun, h1, h2⟩ := hD.store (int_keyed hK) hT hn hkey (val := val) (d := .held val) (ps := []) rfl
  refine ⟨w', ?_, hR w' ?_ h2.grown⟩
  · simp [execOp, hop, hm, hx, hv, hrun, Result.andThen]
  · have h3 := reads_put (v := val) (hD.tidy (int_keyed hK)) ((int_keyed hK).key hkey) hr
    have h4 := tight h1
    rw [h3.1] at h4
    exact ⟨_, h4, h3⟩
end Mi
namespace Fq
def pv (b : Nat) : Value := .pointer (some ⟨b, 0, none⟩)
/-- behind p now stands y, ahead of n now stands z -/
def tw (w : World) (p n y z : Nat) : World := (w.setCell ⟨p, 1, none⟩ (.pointer (some ⟨y, 0, none⟩))).setCell ⟨n, 0, none⟩ (.pointer (some ⟨z, 0, none⟩))
section
variable {w : World} {p n y z a b : Nat}
theorem tw_1 (h : a ≠ p) : (tw w p n y z).cell? ⟨a, 1, none⟩ = w.cell? ⟨a, 1, none⟩ := by
  unfold tw
  rw [cset_other (Or.inr (by omega)), cset_other (Or.inl (Ne.symm h))]
theorem tw_0 (h : a ≠ n) : (tw w p n y z).cell? ⟨a, 0, none⟩ = w.cell? ⟨a, 0, none⟩ := by
  unfold tw
  rw [cset_other (Or.inl (Ne.symm h)), cset_other (Or.inr (by omega))]
theorem tw_o {o : Nat} (h0 : o ≠ 0) (h1 : o ≠ 1) : (tw w p n y z).cell? ⟨a, o, none⟩ = w.cell? ⟨a, o, none⟩ := by
  unfold tw
  rw [cset_other (Or.inr (Ne.symm h0)), cset_other (Or.inr (Ne.symm h1))]
theorem tw_p {u : Value} (h : w.cell? ⟨p, 1, none⟩ = some u) : (tw w p n y z).cell? ⟨p, 1, none⟩ = some (pv y) := by
  unfold tw
  rw [cset_other (Or.inr (by omega))]
  exact cset_same h
theorem tw_n {u : Value} (h : w.cell? ⟨n, 0, none⟩ = some u) : (tw w p n y z).cell? ⟨n, 0, none⟩ = some (pv z) := by
  unfold tw
  refine cset_same (x := u) ?_
  rw [cset_other (Or.inr (by omega))]
  exact h
theorem tw_kd {t : TypeId} (h : Kd w b t) : Kd (tw w p n y z) b t := Kd.set _ _ (Kd.set _ _ h)
theorem tw_mv : Mv (fun x => x = p ∨ x = n) w (tw w p n y z) :=
  (Mv.setCell (S := fun x => x = p ∨ x = n) w ⟨p, 1, none⟩ (.pointer (some ⟨y, 0, none⟩)) (Or.inl rfl)).trans (Mv.setCell (S := fun x => x = p ∨ x = n) _ ⟨n, 0, none⟩ (.pointer (some ⟨z, 0, none⟩)) (Or.inr rfl)) (fun _ _ h => h)
end
/-- y stands behind x -/
def Rw (w : World) (x y : Nat) : Prop := w.cell? ⟨x, 1, none⟩ = some (pv y) ∧ w.cell? ⟨y, 0, none⟩ = some (pv x)
def rfp (e : Nat) (ns : List Nd) (x : Nat) : Prop := x = e ∨ x ∈ ns.map (·.1)
/-- block x keeps this item -/
def Th (w : World) (x : Nat) (i : It) : Prop := w.cell? ⟨x, 2, none⟩ = some (.int .i64 i.1) ∧ w.cell? ⟨x, 3, none⟩ = some (.int .i64 i.2)
structure Ring (w : World) (e : Nat) (ns : List Nd) : Prop where
  ek : Kd w e 50
  nk : ∀ n ∈ ns, Kd w n.1 50
  th : ∀ n ∈ ns, Th w n.1 n.2
  ln : Ln (Rw w) (cl e ns)
  nd : (e :: ns.map (·.1)).Nodup
section
variable {w w' : World} {e : Nat} {ns : List Nd}
theorem Th.block {x : Nat} {i : It} (h : Th w x i) (hb : w'.heap[x]? = w.heap[x]?) : Th w' x i := ⟨by rw [World.cell?_of_block hb]; exact h.1, by rw [World.cell?_of_block hb]; exact h.2⟩
theorem Th.tw {x p n y z : Nat} {i : It} (h : Th w x i) : Th (tw w p n y z) x i := ⟨(tw_o (by omega) (by omega)).trans h.1, (tw_o (by omega) (by omega)).trans h.2⟩
theorem Ring.kd (h : Ring w e ns) {x : Nat} (hx : rfp e ns x) : Kd w x 50 := by
  rcases hx with rfl | hx
  · exact h.ek
  · obtain ⟨n, hn, rfl⟩ := List.mem_map.1 hx
    exact h.nk n hn
theorem mem_cl {x : Nat} : x ∈ cl e ns ↔ rfp e ns x := by
  unfold cl rfp
  rw [List.mem_cons, List.mem_append, List.mem_singleton]
  exact ⟨fun h => h.elim Or.inl (fun h => h.elim Or.inr Or.inl), fun h => h.elim Or.inl (fun h => Or.inr (Or.inl h))⟩
theorem Ring.same (h : Ring w e ns) (hb : ∀ x, rfp e ns x → w'.heap[x]? = w.heap[x]?) : Ring w' e ns where
  ek := h.ek.block (hb _ (Or.inl rfl))
  nk := fun n hn => (h.nk n hn).block (hb _ (Or.inr (List.mem_map.2 ⟨n, hn, rfl⟩)))
  th := fun n hn => (h.th n hn).block (hb _ (Or.inr (List.mem_map.2 ⟨n, hn, rfl⟩)))
  ln := h.ln.imp (fun x hx y hy hr => by
    have e1 := hb x (mem_cl.1 ((List.dropLast_sublist _).subset hx))
    have e2 := hb y (mem_cl.1 (List.mem_of_mem_tail hy))
    exact ⟨by rw [World.cell?_of_block e1]; exact hr.1, by rw [World.cell?_of_block e2]; exact hr.2⟩)
  nd := h.nd
theorem cl_app (e : Nat) (A B : List Nd) : cl e (A ++ B) = (e :: A.map (·.1)) ++ (B.map (·.1) ++ [e]) := by
  unfold cl
  rw [List.map_append, List.append_assoc]
  rfl
/-- one leaves -/
theorem Ring.leave {A B : List Nd} {nd : Nd} (h : Ring w e (A ++ nd :: B)) : ∃ p n, Kd w nd.1 50 ∧ Kd w p 50 ∧ Kd w n 50 ∧ w.cell? ⟨nd.1, 0, none⟩ = some (pv p) ∧ w.cell? ⟨nd.1, 1, none⟩ = some (pv n) ∧ (∃ u, w.cell? ⟨p, 1, none⟩ = some u) ∧ (∃ u, w.cell? ⟨n, 0, none⟩ = some u) ∧
    Ring (tw w p n n p) e (A ++ B) ∧ Mv (rfp e (A ++ nd :: B)) w (tw w p n n p) ∧ nd.1 ≠ p ∧ nd.1 ≠ n ∧ ¬ rfp e (A ++ B) nd.1 := by
  obtain ⟨P0, p, hP⟩ : ∃ P0 p, e :: A.map (·.1) = P0 ++ [p] := by
    rcases List.eq_nil_or_concat (e :: A.map (·.1)) with h1 | ⟨P0, p, h1⟩
    · cases h1
    · exact ⟨P0, p, by rw [h1, List.concat_eq_append]⟩
  obtain ⟨n, S0, hS⟩ : ∃ n S0, B.map (·.1) ++ [e] = n :: S0 := by
    cases hB : B.map (·.1) with
    | nil => exact ⟨e, [], rfl⟩
    | cons b t => exact ⟨b, t ++ [e], rfl⟩
  have hc1 : cl e (A ++ nd :: B) = P0 ++ p :: nd.1 :: n :: S0 := by
    rw [cl_app, hP, List.map_cons, List.cons_append, hS, List.append_assoc]
    rfl
  have hc2 : cl e (A ++ B) = P0 ++ p :: n :: S0 := by
    rw [cl_app, hP, hS, List.append_assoc]
    rfl
  have hln := h.ln
  rw [hc1, Ln.split] at hln
  obtain ⟨l1, r1, r2, l2⟩ := hln
  have hnd := h.nd
  rw [List.map_append, List.map_cons, ← List.cons_append, hP] at hnd
  have hnd2 := List.nodup_append.1 hnd
  obtain ⟨n1, n2, n3⟩ := hnd2
  have n2' := List.nodup_cons.1 n2
  have hpx : nd.1 ≠ p := fun e2 => n3 p (by simp) nd.1 (by simp) e2.symm
  have hpB : p ∉ B.map (·.1) := fun hm => n3 p (by simp) p (by simp at hm ⊢; exact Or.inr hm) rfl
  have heP : e ∈ P0 ++ [p] := by rw [← hP]; simp
  have hex : e ≠ nd.1 := fun e2 => n3 e heP nd.1 (by simp) e2
  have heB : e ∉ B.map (·.1) := fun hm => n3 e heP e (List.mem_cons_of_mem _ hm) rfl
  have hnS : n ∈ B.map (·.1) ++ [e] := by rw [hS]; simp
  have hnx : nd.1 ≠ n := by
    intro e2
    rw [List.mem_append, List.mem_singleton] at hnS
    rcases hnS with h1 | h1
    · exact n2'.1 (e2 ▸ h1)
    · exact hex (by rw [e2, h1])
  have hSnd : (n :: S0).Nodup := by
    rw [← hS, List.nodup_append]
    refine ⟨n2'.2, by simp, fun a ha b hb e2 => ?_⟩
    rw [List.mem_singleton] at hb
    exact heB (by rw [← hb, ← e2]; exact ha)
  have hAnd : e ∉ A.map (·.1) := by
    have : (e :: A.map (·.1)).Nodup := by rw [hP]; exact n1
    exact (List.nodup_cons.1 this).1
  have hnA : n ∉ A.map (·.1) := by
    intro hm
    rw [List.mem_append, List.mem_singleton] at hnS
    rcases hnS with h1 | h1
    · exact n3 n (by rw [← hP]; exact List.mem_cons_of_mem _ hm) n (List.mem_cons_of_mem _ h1) rfl
    · exact hAnd (h1 ▸ hm)
  have fpP : ∀ x, x ∈ P0 ++ [p] → rfp e (A ++ nd :: B) x := fun x hx => by
    rw [← hP, List.mem_cons] at hx
    rcases hx with rfl | hx
    · exact Or.inl rfl
    · exact Or.inr (by rw [List.map_append]; exact List.mem_append_left _ hx)
  have fpS : ∀ x, x ∈ n :: S0 → rfp e (A ++ nd :: B) x := fun x hx => by
    rw [← hS, List.mem_append, List.mem_singleton] at hx
    rcases hx with hx | rfl
    · exact Or.inr (by rw [List.map_append, List.map_cons]; exact List.mem_append_right _ (List.mem_cons_of_mem _ hx))
    · exact Or.inl rfl
  have fpp := fpP p (by simp)
  have fpn := fpS n (by simp)
  refine ⟨p, n, h.kd (Or.inr (by simp)), h.kd fpp, h.kd fpn, r1.2, r2.1, ⟨_, r1.1⟩, ⟨_, r2.2⟩, ?_, ?_, hpx, hnx, ?_⟩
  · exact {
      ek := tw_kd h.ek
      nk := fun m hm => tw_kd (h.nk m (by
        rw [List.mem_append] at hm ⊢
        exact hm.imp id (List.mem_cons_of_mem _)))
      th := fun m hm => (h.th m (by
          rw [List.mem_append] at hm ⊢
          exact hm.imp id (List.mem_cons_of_mem _))).tw
      ln := by
        rw [hc2, Ln.split]
        refine ⟨l1.imp (fun a ha b hb hr => ⟨?_, ?_⟩), ⟨tw_p r1.1, tw_n r2.2⟩, l2.imp (fun a ha b hb hr => ⟨?_, ?_⟩)⟩
        · rw [tw_1]
          · exact hr.1
          · intro e2
            rw [List.dropLast_concat] at ha
            have n1' := List.nodup_append.1 n1
            exact n1'.2.2 a ha p (by simp) e2
        · rw [tw_0]
          · exact hr.2
          · intro e2
            rw [← hP, List.tail_cons] at hb
            exact hnA (e2 ▸ hb)
        · rw [tw_1]
          · exact hr.1
          · intro e2
            rw [← hS, List.dropLast_concat] at ha
            exact hpB (e2 ▸ ha)
        · rw [tw_0]
          · exact hr.2
          · intro e2
            rw [List.tail_cons] at hb
            exact (List.nodup_cons.1 hSnd).1 (e2 ▸ hb)
      nd := by
        rw [List.map_append, ← List.cons_append, hP]
        exact List.Nodup.sublist (List.Sublist.append_left (List.sublist_cons_self _ _) _) hnd }
  · exact Mv.trans (Mv.refl _ w) tw_mv (fun x _ hx => by
      rcases hx with rfl | rfl
      · exact fpp
      · exact fpn)
  · rintro (e2 | hm)
    · exact hex e2.symm
    · rw [List.map_append, List.mem_append] at hm
      rcases hm with hm | hm
      · exact n3 nd.1 (by rw [← hP]; exact List.mem_cons_of_mem _ hm) nd.1 (by simp) rfl
      · exact n2'.1 hm
/-- who stands ahead of the ends -/
theorem Ring.last (h : Ring w e ns) : ∃ p, w.cell? ⟨e, 0, none⟩ = some (pv p) ∧ Kd w p 50 ∧ rfp e ns p ∧ (∃ u, w.cell? ⟨p, 1, none⟩ = some u) ∧
    ∀ (w2 : World) (x : Nat) (i : It), Ring w2 e ns → ¬ rfp e ns x → Kd w2 x 50 → Th w2 x i → w2.cell? ⟨x, 0, none⟩ = some (pv p) → w2.cell? ⟨x, 1, none⟩ = some (pv e) → Ring (tw w2 p e x x) e (ns ++ [(x, i)]) := by
  obtain ⟨P0, p, hP⟩ : ∃ P0 p, e :: ns.map (·.1) = P0 ++ [p] := by
    rcases List.eq_nil_or_concat (e :: ns.map (·.1)) with h1 | ⟨P0, p, h1⟩
    · cases h1
    · exact ⟨P0, p, by rw [h1, List.concat_eq_append]⟩
  have hc1 : cl e ns = P0 ++ p :: [e] := by
    show (e :: ns.map (·.1)) ++ [e] = _
    rw [hP, List.append_assoc]
    rfl
  have hpm : rfp e ns p := mem_cl.1 (by rw [hc1]; simp)
  have hln := h.ln
  rw [hc1, Ln.split] at hln
  obtain ⟨l1, r1, _⟩ := hln
  have hnd := h.nd
  rw [hP] at hnd
  have hPnd := List.nodup_append.1 hnd
  have hend := List.nodup_cons.1 h.nd
  refine ⟨p, r1.2, h.kd hpm, hpm, ⟨_, r1.1⟩, fun w2 x i h2 hx kx hth c0 c1 => ?_⟩
  have hln2 := h2.ln
  rw [hc1, Ln.split] at hln2
  obtain ⟨m1, s1, _⟩ := hln2
  have hxp : x ≠ p := fun e2 => hx (e2 ▸ hpm)
  have hxe : x ≠ e := fun e2 => hx (Or.inl e2)
  have hc2 : cl e (ns ++ [(x, i)]) = P0 ++ p :: [x, e] := by
    rw [cl_app, hP, List.append_assoc]
    rfl
  exact {
    ek := tw_kd h2.ek
    nk := fun m hm => by
      rw [List.mem_append, List.mem_singleton] at hm
      rcases hm with hm | rfl
      · exact tw_kd (h2.nk m hm)
      · exact tw_kd kx
    th := fun m hm => by
      rw [List.mem_append, List.mem_singleton] at hm
      rcases hm with hm | rfl
      · exact (h2.th m hm).tw
      · exact hth.tw
    ln := by
      rw [hc2, Ln.split]
      refine ⟨m1.imp (fun a ha b hb hr => ⟨?_, ?_⟩), ⟨tw_p s1.1, ?_⟩, ⟨?_, tw_n s1.2⟩, trivial⟩
      · rw [tw_1]
        · exact hr.1
        · intro e2
          rw [List.dropLast_concat] at ha
          exact hPnd.2.2 a ha p (by simp) e2
      · rw [tw_0]
        · exact hr.2
        · intro e2
          rw [← hP, List.tail_cons] at hb
          exact hend.1 (e2 ▸ hb)
      · rw [tw_0 hxe]
        exact c0
      · rw [tw_1 hxp]
        exact c1
    nd := by
      rw [List.map_append, ← List.cons_append, List.nodup_append]
      refine ⟨h2.nd, by simp, fun a ha b hb e2 => ?_⟩
      simp only [List.map_cons, List.map_nil, List.mem_singleton] at hb
      rw [List.mem_cons] at ha
      exact hx (by
        rw [← hb, ← e2]
        exact ha) }
end
end Fq
end Go.Proofs.Ytcfmbdcklapmhaa
