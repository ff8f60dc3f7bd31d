/-
  CONTRACTS OF LAYER 12 (lru), part B: a ring in memory; a table; held, find, New, Len, Peek.
-/
import Derived.Test.YtbkbopaoeehfkaaLruA
import Derived.Test.YtbkbopaoeehfkaaMapt
namespace Go.Proofs.Ytbkbopaoeehfkaa
open Go.RowKit Lr Ft
set_option linter.unusedVariables false
namespace Lr
section
variable {w : World} {p n a b : Nat}
theorem lv_1 (h : a ≠ p) : (lv w p n).cell? ⟨a, 1, none⟩ = w.cell? ⟨a, 1, none⟩ := by
  unfold lv
  rw [cset_other (Or.inr (by omega)), cset_other (Or.inl (Ne.symm h))]
  rfl
theorem lv_0 (h : a ≠ n) : (lv w p n).cell? ⟨a, 0, none⟩ = w.cell? ⟨a, 0, none⟩ := by
  unfold lv
  rw [cset_other (Or.inl (Ne.symm h)), cset_other (Or.inr (by omega))]
  rfl
theorem lv_2 : (lv w p n).cell? ⟨a, 2, none⟩ = w.cell? ⟨a, 2, none⟩ := by
  unfold lv
  rw [cset_other (Or.inr (by omega)), cset_other (Or.inr (by omega))]
  rfl
theorem lv_p {u : Value} (h : w.cell? ⟨p, 1, none⟩ = some u) : (lv w p n).cell? ⟨p, 1, none⟩ = some (pv n) := by
  unfold lv
  rw [cset_other (Or.inr (by omega))]
  exact cset_same (w := w.drew) h
theorem lv_n {u : Value} (h : w.cell? ⟨n, 0, none⟩ = some u) : (lv w p n).cell? ⟨n, 0, none⟩ = some (pv p) := by
  unfold lv
  refine cset_same (x := u) ?_
  rw [cset_other (Or.inr (by omega))]
  exact h
theorem lv_kd {t : TypeId} (h : Kd w b t) : Kd (lv w p n) b t := Kd.set _ _ (Kd.set (w := w.drew) _ _ h)
theorem lv_mv : Mv (fun y => y = p ∨ y = n) w (lv w p n) :=
  ((Mv.drew (fun y => y = p ∨ y = n) w).trans (Mv.setCell (S := fun y => y = p ∨ y = n) w.drew ⟨p, 1, none⟩ (.pointer (some ⟨n, 0, none⟩)) (Or.inl rfl)) (fun _ _ h => h)).trans (Mv.setCell (S := fun y => y = p ∨ y = n) _ ⟨n, 0, none⟩ (.pointer (some ⟨p, 0, none⟩)) (Or.inr rfl)) (fun _ _ h => h)
variable {x e : Nat}
theorem er_1 (hx : a ≠ x) (he : a ≠ e) : (er w x e n).cell? ⟨a, 1, none⟩ = w.cell? ⟨a, 1, none⟩ := by
  unfold er
  rw [cset_other (Or.inr (by omega)), cset_other (Or.inl (Ne.symm he))]
  show World.cell? (World.setCell _ _ _) _ = _
  rw [cset_other (Or.inl (Ne.symm hx)), cset_other (Or.inr (by omega))]
theorem er_0 (hx : a ≠ x) (hn : a ≠ n) : (er w x e n).cell? ⟨a, 0, none⟩ = w.cell? ⟨a, 0, none⟩ := by
  unfold er
  rw [cset_other (Or.inl (Ne.symm hn)), cset_other (Or.inr (by omega))]
  show World.cell? (World.setCell _ _ _) _ = _
  rw [cset_other (Or.inr (by omega)), cset_other (Or.inl (Ne.symm hx))]
theorem er_2 : (er w x e n).cell? ⟨a, 2, none⟩ = w.cell? ⟨a, 2, none⟩ := by
  unfold er
  rw [cset_other (Or.inr (by omega)), cset_other (Or.inr (by omega))]
  show World.cell? (World.setCell _ _ _) _ = _
  rw [cset_other (Or.inr (by omega)), cset_other (Or.inr (by omega))]
theorem er_x0 {u : Value} (hn : x ≠ n) (h : w.cell? ⟨x, 0, none⟩ = some u) : (er w x e n).cell? ⟨x, 0, none⟩ = some (pv e) := by
  unfold er
  rw [cset_other (Or.inl (Ne.symm hn)), cset_other (Or.inr (by omega))]
  show World.cell? (World.setCell _ _ _) _ = _
  rw [cset_other (Or.inr (by omega))]
  exact cset_same h
theorem er_x1 {u : Value} (he : x ≠ e) (h : w.cell? ⟨x, 1, none⟩ = some u) : (er w x e n).cell? ⟨x, 1, none⟩ = some (pv n) := by
  unfold er
  rw [cset_other (Or.inr (by omega)), cset_other (Or.inl (Ne.symm he))]
  show World.cell? (World.setCell _ _ _) _ = _
  refine cset_same (x := u) ?_
  rw [cset_other (Or.inr (by omega))]
  exact h
theorem er_e {u : Value} (he : x ≠ e) (h : w.cell? ⟨e, 1, none⟩ = some u) : (er w x e n).cell? ⟨e, 1, none⟩ = some (pv x) := by
  unfold er
  rw [cset_other (Or.inr (by omega))]
  refine cset_same (x := u) ?_
  show World.cell? (World.setCell _ _ _) _ = _
  rw [cset_other (Or.inl he), cset_other (Or.inl he)]
  exact h
theorem er_n {u : Value} (hn : x ≠ n) (h : w.cell? ⟨n, 0, none⟩ = some u) : (er w x e n).cell? ⟨n, 0, none⟩ = some (pv x) := by
  unfold er
  refine cset_same (x := u) ?_
  rw [cset_other (Or.inr (by omega))]
  show World.cell? (World.setCell _ _ _) _ = _
  rw [cset_other (Or.inl hn), cset_other (Or.inl hn)]
  exact h
theorem er_kd {t : TypeId} (h : Kd w b t) : Kd (er w x e n) b t := Kd.set _ _ (Kd.set _ _ (Kd.set (w := w.setCell ⟨x, 0, none⟩ (.pointer (some ⟨e, 0, none⟩))) 1 _ (Kd.set _ _ h)))
theorem er_mv : Mv (fun y => y = x ∨ y = e ∨ y = n) w (er w x e n) := by
  have h1 := (Mv.setCell (S := fun y => y = x ∨ y = e ∨ y = n) w ⟨x, 0, none⟩ (.pointer (some ⟨e, 0, none⟩)) (Or.inl rfl))
  have h2 := h1.trans (Mv.setCell (S := fun y => y = x ∨ y = e ∨ y = n) _ ⟨x, 1, none⟩ (.pointer (some ⟨n, 0, none⟩)) (Or.inl rfl)) (fun _ _ h => h)
  have h3 := h2.trans (Mv.drew (fun y => y = x ∨ y = e ∨ y = n) _) (fun _ _ h => h)
  have h4 := h3.trans (Mv.setCell (S := fun y => y = x ∨ y = e ∨ y = n) _ ⟨e, 1, none⟩ (.pointer (some ⟨x, 0, none⟩)) (Or.inr (Or.inl rfl))) (fun _ _ h => h)
  exact h4.trans (Mv.setCell (S := fun y => y = x ∨ y = e ∨ y = n) _ ⟨n, 0, none⟩ (.pointer (some ⟨x, 0, none⟩)) (Or.inr (Or.inr rfl))) (fun _ _ h => h)
end
/-- y stands behind x -/
def Rw (w : World) (x y : Nat) : Prop := w.cell? ⟨x, 1, none⟩ = some (pv y) ∧ w.cell? ⟨y, 0, none⟩ = some (pv x)
def ec (k : ByteArray) (f : El) : Array Value := #[.string k, .int .i64 (f 0), .int .i64 (f 1), .int .i64 (f 2), .int .i64 (f 3), .int .i64 (f 4), .int .i64 (f 5), .int .i64 (f 6), .int .i64 (f 7),
  .int .i64 (f 8), .int .i64 (f 9), .int .i64 (f 10), .int .i64 (f 11), .int .i64 (f 12), .int .i64 (f 13), .int .i64 (f 14), .int .i64 (f 15)]
def ev (x : KV) : Value := .iface 74 (.agg (ec x.1 x.2))
def rfp (e : Nat) (ns : List Nd) (x : Nat) : Prop := x = e ∨ x ∈ ns.map (·.1)
structure Ring (w : World) (e : Nat) (ns : List Nd) : Prop where
  ek : Kd w e 68
  nk : ∀ n ∈ ns, Kd w n.1 68
  th : ∀ n ∈ ns, w.cell? ⟨n.1, 2, none⟩ = some (ev n.2)
  ln : Ln (Rw w) (cl e ns)
  nd : (e :: ns.map (·.1)).Nodup
section
variable {w w' : World} {e : Nat} {ns : List Nd}
theorem Ring.kd (h : Ring w e ns) {x : Nat} (hx : rfp e ns x) : Kd w x 68 := by
  rcases hx with rfl | hx
  · exact h.ek
  · obtain ⟨n, hn, rfl⟩ := List.mem_map.1 hx
    exact h.nk n hn
theorem mem_cl {x : Nat} : x ∈ cl e ns ↔ rfp e ns x := by
  unfold cl rfp
  rw [List.mem_cons, List.mem_append, List.mem_singleton]
  exact ⟨fun h => h.elim Or.inl (fun h => h.elim Or.inr Or.inl), fun h => h.elim Or.inl (fun h => Or.inr (Or.inl h))⟩
theorem Ring.same (h : Ring w e ns) (hb : ∀ x, rfp e ns x → w'.heap[x]? = w.heap[x]?) : Ring w' e ns where
  ek := h.ek.block (hb _ (Or.inl rfl))
  nk := fun n hn => (h.nk n hn).block (hb _ (Or.inr (List.mem_map.2 ⟨n, hn, rfl⟩)))
  th := fun n hn => by rw [World.cell?_of_block (hb _ (Or.inr (List.mem_map.2 ⟨n, hn, rfl⟩)))]; exact h.th n hn
  ln := h.ln.imp (fun x hx y hy hr => by
    have e1 := hb x (mem_cl.1 ((List.dropLast_sublist _).subset hx))
    have e2 := hb y (mem_cl.1 (List.mem_of_mem_tail hy))
    exact ⟨by rw [World.cell?_of_block e1]; exact hr.1, by rw [World.cell?_of_block e2]; exact hr.2⟩)
  nd := h.nd
theorem cl_app (e : Nat) (A B : List Nd) : cl e (A ++ B) = (e :: A.map (·.1)) ++ (B.map (·.1) ++ [e]) := by
  unfold cl
  rw [List.map_append, List.append_assoc]
  rfl
/-- one leaves -/
theorem Ring.leave {A B : List Nd} {nd : Nd} (h : Ring w e (A ++ nd :: B)) : ∃ p n, Kd w nd.1 68 ∧ Kd w p 68 ∧ Kd w n 68 ∧ w.cell? ⟨nd.1, 0, none⟩ = some (pv p) ∧ w.cell? ⟨nd.1, 1, none⟩ = some (pv n) ∧ (∃ u, w.cell? ⟨p, 1, none⟩ = some u) ∧ (∃ u, w.cell? ⟨n, 0, none⟩ = some u) ∧
    Ring (lv w p n) e (A ++ B) ∧ Mv (rfp e (A ++ nd :: B)) w (lv w p n) ∧ nd.1 ≠ p ∧ nd.1 ≠ n ∧ ¬ rfp e (A ++ B) nd.1 := by
  obtain ⟨P0, p, hP⟩ : ∃ P0 p, e :: A.map (·.1) = P0 ++ [p] := by
    rcases List.eq_nil_or_concat (e :: A.map (·.1)) with h1 | ⟨P0, p, h1⟩
    · cases h1
    · exact ⟨P0, p, by rw [h1, List.concat_eq_append]⟩
  obtain ⟨n, S0, hS⟩ : ∃ n S0, B.map (·.1) ++ [e] = n :: S0 := by
    cases hB : B.map (·.1) with
    | nil => exact ⟨e, [], rfl⟩
    | cons b t => exact ⟨b, t ++ [e], rfl⟩
  have hc1 : cl e (A ++ nd :: B) = P0 ++ p :: nd.1 :: n :: S0 := by
    rw [cl_app, hP, List.map_cons, List.cons_append, hS, List.append_assoc]
    rfl
  have hc2 : cl e (A ++ B) = P0 ++ p :: n :: S0 := by
    rw [cl_app, hP, hS, List.append_assoc]
    rfl
  have hln := h.ln
  rw [hc1, Ln.split] at hln
  obtain ⟨l1, r1, r2, l2⟩ := hln
  have hnd := h.nd
  rw [List.map_append, List.map_cons, ← List.cons_append, hP] at hnd
  have hnd2 := List.nodup_append.1 hnd
  obtain ⟨n1, n2, n3⟩ := hnd2
  have n2' := List.nodup_cons.1 n2
  have hpx : nd.1 ≠ p := fun e2 => n3 p (by simp) nd.1 (by simp) e2.symm
  have hpB : p ∉ B.map (·.1) := fun hm => n3 p (by simp) p (by simp at hm ⊢; exact Or.inr hm) rfl
  have heP : e ∈ P0 ++ [p] := by rw [← hP]; simp
  have hex : e ≠ nd.1 := fun e2 => n3 e heP nd.1 (by simp) e2
  have heB : e ∉ B.map (·.1) := fun hm => n3 e heP e (List.mem_cons_of_mem _ hm) rfl
  have hnS : n ∈ B.map (·.1) ++ [e] := by rw [hS]; simp
  have hnx : nd.1 ≠ n := by
    intro e2
    rw [List.mem_append, List.mem_singleton] at hnS
    rcases hnS with h1 | h1
    · exact n2'.1 (e2 ▸ h1)
    · exact hex (by rw [e2, h1])
  have hSnd : (n :: S0).Nodup := by
    rw [← hS, List.nodup_append]
    refine ⟨n2'.2, by simp, fun a ha b hb e2 => ?_⟩
    rw [List.mem_singleton] at hb
    exact heB (by rw [← hb, ← e2]; exact ha)
  have hAnd : e ∉ A.map (·.1) := by
    have : (e :: A.map (·.1)).Nodup := by rw [hP]; exact n1
    exact (List.nodup_cons.1 this).1
  have hnA : n ∉ A.map (·.1) := by
    intro hm
    rw [List.mem_append, List.mem_singleton] at hnS
    rcases hnS with h1 | h1
    · exact n3 n (by rw [← hP]; exact List.mem_cons_of_mem _ hm) n (List.mem_cons_of_mem _ h1) rfl
    · exact hAnd (h1 ▸ hm)
  have fpP : ∀ x, x ∈ P0 ++ [p] → rfp e (A ++ nd :: B) x := fun x hx => by
    rw [← hP, List.mem_cons] at hx
    rcases hx with rfl | hx
    · exact Or.inl rfl
    · exact Or.inr (by rw [List.map_append]; exact List.mem_append_left _ hx)
  have fpS : ∀ x, x ∈ n :: S0 → rfp e (A ++ nd :: B) x := fun x hx => by
    rw [← hS, List.mem_append, List.mem_singleton] at hx
    rcases hx with hx | rfl
    · exact Or.inr (by rw [List.map_append, List.map_cons]; exact List.mem_append_right _ (List.mem_cons_of_mem _ hx))
    · exact Or.inl rfl
  have fpp := fpP p (by simp)
  have fpn := fpS n (by simp)
  refine ⟨p, n, h.kd (Or.inr (by simp)), h.kd fpp, h.kd fpn, r1.2, r2.1, ⟨_, r1.1⟩, ⟨_, r2.2⟩, ?_, ?_, hpx, hnx, ?_⟩
  · exact {
      ek := lv_kd h.ek
      nk := fun m hm => lv_kd (h.nk m (by
        rw [List.mem_append] at hm ⊢
        exact hm.imp id (List.mem_cons_of_mem _)))
      th := fun m hm => by
        rw [lv_2]
        exact h.th m (by
          rw [List.mem_append] at hm ⊢
          exact hm.imp id (List.mem_cons_of_mem _))
      ln := by
        rw [hc2, Ln.split]
        refine ⟨l1.imp (fun a ha b hb hr => ⟨?_, ?_⟩), ⟨lv_p r1.1, lv_n r2.2⟩, l2.imp (fun a ha b hb hr => ⟨?_, ?_⟩)⟩
        · rw [lv_1]
          · exact hr.1
          · intro e2
            rw [List.dropLast_concat] at ha
            have n1' := List.nodup_append.1 n1
            exact n1'.2.2 a ha p (by simp) e2
        · rw [lv_0]
          · exact hr.2
          · intro e2
            rw [← hP, List.tail_cons] at hb
            exact hnA (e2 ▸ hb)
        · rw [lv_1]
          · exact hr.1
          · intro e2
            rw [← hS, List.dropLast_concat] at ha
            exact hpB (e2 ▸ ha)
        · rw [lv_0]
          · exact hr.2
          · intro e2
            rw [List.tail_cons] at hb
            exact (List.nodup_cons.1 hSnd).1 (e2 ▸ hb)
      nd := by
        rw [List.map_append, ← List.cons_append, hP]
        exact List.Nodup.sublist (List.Sublist.append_left (List.sublist_cons_self _ _) _) hnd }
  · exact Mv.trans (Mv.refl _ w) lv_mv (fun x _ hx => by
      rcases hx with rfl | rfl
      · exact fpp
      · exact fpn)
  · rintro (e2 | hm)
    · exact hex e2.symm
    · rw [List.map_append, List.mem_append] at hm
      rcases hm with hm | hm
      · exact n3 nd.1 (by rw [← hP]; exact List.mem_cons_of_mem _ hm) nd.1 (by simp) rfl
      · exact n2'.1 hm
/-- one enters -/
theorem Ring.enter (h : Ring w e ns) {x : Nat} {kv : KV} (hx : ¬ rfp e ns x) (kx : Kd w x 68) (t : w.cell? ⟨x, 2, none⟩ = some (ev kv)) (x0 : ∃ u, w.cell? ⟨x, 0, none⟩ = some u) (x1 : ∃ u, w.cell? ⟨x, 1, none⟩ = some u) :
    ∃ n, w.cell? ⟨e, 1, none⟩ = some (pv n) ∧ Kd w n 68 ∧ (∃ u, w.cell? ⟨n, 0, none⟩ = some u) ∧ x ≠ e ∧ x ≠ n ∧ Ring (er w x e n) e ((x, kv) :: ns) ∧ Mv (fun y => rfp e ns y ∨ y = x) w (er w x e n) := by
  obtain ⟨ux0, x0⟩ := x0
  obtain ⟨ux1, x1⟩ := x1
  obtain ⟨n, S0, hS⟩ : ∃ n S0, ns.map (·.1) ++ [e] = n :: S0 := by
    cases hB : ns.map (·.1) with
    | nil => exact ⟨e, [], rfl⟩
    | cons b t => exact ⟨b, t ++ [e], rfl⟩
  have hc1 : cl e ns = e :: n :: S0 := by unfold cl; rw [hS]
  have hc2 : cl e ((x, kv) :: ns) = e :: x :: n :: S0 := by unfold cl; rw [List.map_cons, List.cons_append, hS]
  have hln := h.ln
  rw [hc1] at hln
  obtain ⟨r1, l2⟩ := hln
  have hnd := List.nodup_cons.1 h.nd
  have hxe : x ≠ e := fun e2 => hx (Or.inl e2)
  have fpS : ∀ y, y ∈ n :: S0 → rfp e ns y := fun y hy => by
    rw [← hS, List.mem_append, List.mem_singleton] at hy
    exact hy.elim Or.inr Or.inl
  have fpn := fpS n (by simp)
  have hxn : x ≠ n := fun e2 => hx (e2 ▸ fpn)
  have hSnd : (n :: S0).Nodup := by
    rw [← hS, List.nodup_append]
    refine ⟨hnd.2, by simp, fun a ha b hb e2 => ?_⟩
    rw [List.mem_singleton] at hb
    exact hnd.1 (by rw [← hb, ← e2]; exact ha)
  refine ⟨n, r1.1, h.kd fpn, ⟨_, r1.2⟩, hxe, hxn, ?_, ?_⟩
  · exact {
      ek := er_kd h.ek
      nk := fun m hm => by
        rw [List.mem_cons] at hm
        rcases hm with rfl | hm
        · exact er_kd kx
        · exact er_kd (h.nk m hm)
      th := fun m hm => by
        rw [er_2]
        rw [List.mem_cons] at hm
        rcases hm with rfl | hm
        · exact t
        · exact h.th m hm
      ln := by
        rw [hc2]
        refine ⟨⟨er_e hxe r1.1, er_x0 hxn x0⟩, ⟨er_x1 hxe x1, er_n hxn r1.2⟩, l2.imp (fun a ha b hb hr => ⟨?_, ?_⟩)⟩
        · rw [er_1]
          · exact hr.1
          · intro e2
            exact hx (e2 ▸ fpS a ((List.dropLast_sublist _).subset ha))
          · intro e2
            rw [← hS, List.dropLast_concat] at ha
            exact hnd.1 (e2 ▸ ha)
        · rw [er_0]
          · exact hr.2
          · intro e2
            exact hx (e2 ▸ fpS b (List.mem_of_mem_tail hb))
          · intro e2
            rw [List.tail_cons] at hb
            exact (List.nodup_cons.1 hSnd).1 (e2 ▸ hb)
      nd := by
        rw [List.map_cons]
        refine List.nodup_cons.2 ⟨?_, List.nodup_cons.2 ⟨fun hm => hx (Or.inr hm), hnd.2⟩⟩
        intro hm
        rw [List.mem_cons] at hm
        rcases hm with e2 | hm
        · exact hxe e2.symm
        · exact hnd.1 hm }
  · exact Mv.trans (Mv.refl _ w) er_mv (fun y _ hy => by
      rcases hy with rfl | rfl | rfl
      · exact Or.inr rfl
      · exact Or.inl (Or.inl rfl)
      · exact Or.inl fpn)
end
end Lr
end Go.Proofs.Ytbkbopaoeehfkaa
