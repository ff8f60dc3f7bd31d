/-
  CONTRACTS OF LAYER 12 (lru), part D: New, Drop, Get, Put.
-/
import Derived.Test.YtbkbopaoeehfkaaLruC
namespace Go.Proofs.Ytbkbopaoeehfkaa
open Go.RowKit Lr Ft
set_option linter.unusedVariables false
theorem new_small {room : Int} (h : room < 1) (w : World) : Calls Try.prog 15 #[.int .i64 room] w fun e w' => e = .returned (.pointer none) ∧ w' = w := by
  go_enter Try.func15, Try.ntmps15
  go_wp2
  go_ret
  exact ⟨rfl, rfl⟩
def News (w : World) (room : Nat) (e : Ending) (w' : World) : Prop := ∃ D, e = .returned (.pointer (some ⟨D.b, 0, none⟩)) ∧ Tb w' D room [] ∧ (∀ x, fp D [] x → w.heap.size ≤ x) ∧ Below w.heap.size w w'
theorem new_any (room : Nat) (w : World) (hr : 0 < room) : Calls Try.prog 15 #[.int .i64 room] w (News w room) := by
  have hmm := @run_makeMap Try.prog
  obtain ⟨z, hz⟩ : ∃ z : Int, (room : Int) = z := ⟨_, rfl⟩
  have hz1 : ¬ z < 1 := by omega
  have HR := Lib.hid hr
  have HZ := Lib.hid hz
  rw [hz]
  clear hr hz
  go_enter Try.func15, Try.ntmps15
  go_wp2
  go_ret
  rw [← HZ.out]
  obtain ⟨W1, hW1⟩ : ∃ W1, w.alloc (.cells #[.pointer (some ⟨w.heap.size, 0, none⟩), .pointer (some ⟨w.heap.size, 0, none⟩), .nilIface] 68) = W1 := ⟨_, rfl⟩
  have hs1 : W1.heap.size = w.heap.size + 1 := by rw [← hW1]; simp
  have e1 : W1.heap[w.heap.size]? = some (.cells #[.pointer (some ⟨w.heap.size, 0, none⟩), .pointer (some ⟨w.heap.size, 0, none⟩), .nilIface] 68) := by rw [← hW1]; exact (MapKept.heap_alloc _ _).1
  have b1 : Below w.heap.size w W1 := by rw [← hW1]; exact (Below.refl _ _).alloc (Nat.le_refl _) _
  rw [hW1]
  obtain ⟨W2, hW2⟩ : ∃ W2, W1.alloc (.map #[] 0) = W2 := ⟨_, rfl⟩
  have hs2 : W2.heap.size = w.heap.size + 1 + 1 := by rw [← hW2]; simp [hs1]
  have e2 : W2.heap[w.heap.size]? = some (.cells #[.pointer (some ⟨w.heap.size, 0, none⟩), .pointer (some ⟨w.heap.size, 0, none⟩), .nilIface] 68) := by rw [← hW2]; exact ((MapKept.heap_alloc _ _).2 _ (by omega)).trans e1
  have m2 : Ms.Is Try.prog 9 W2 (w.heap.size + 1) (fun _ => none) 0 := by rw [← hW2, ← hs1]; exact Ms.Is.made W1
  have b2 : Below w.heap.size w W2 := by rw [← hW2]; exact b1.alloc (by omega) _
  rw [hW2]
  obtain ⟨W3, hW3⟩ : ∃ W3, W2.alloc (.cells #[.int .i64 (room : Nat), .pointer (some ⟨w.heap.size, 0, none⟩), .map (some (w.heap.size + 1))] 71) = W3 := ⟨_, rfl⟩
  have e3 : W3.heap[w.heap.size]? = some (.cells #[.pointer (some ⟨w.heap.size, 0, none⟩), .pointer (some ⟨w.heap.size, 0, none⟩), .nilIface] 68) := by rw [← hW3]; exact ((MapKept.heap_alloc _ _).2 _ (by omega)).trans e2
  have m3 : Ms.Is Try.prog 9 W3 (w.heap.size + 1) (fun _ => none) 0 := by rw [← hW3]; exact m2.block ((MapKept.heap_alloc _ _).2 _ (by omega))
  have t3 : W3.heap[w.heap.size + 1 + 1]? = some (.cells #[.int .i64 (room : Nat), .pointer (some ⟨w.heap.size, 0, none⟩), .map (some (w.heap.size + 1))] 71) := by rw [← hW3, ← hs2]; exact (MapKept.heap_alloc _ _).1
  have b3 : Below w.heap.size w W3 := by rw [← hW3]; exact b2.alloc (by omega) _
  rw [hW3]
  refine ⟨⟨w.heap.size + 1 + 1, w.heap.size, w.heap.size + 1⟩, rfl, {
    kind := ⟨_, t3⟩
    c0 := by simp only [World.cell?, t3]; rfl
    c1 := by simp only [World.cell?, t3]; rfl
    c2 := by simp only [World.cell?, t3]; rfl
    ring := {
      ek := ⟨_, e3⟩
      nk := fun n hn => by cases hn
      th := fun n hn => by cases hn
      ln := ⟨⟨by simp only [World.cell?, e3]; rfl, by simp only [World.cell?, e3]; rfl⟩, trivial⟩
      nd := by simp }
    mp := m3.ext (fun s => rfl)
    keys := List.nodup_nil
    wf := fun x hx => by cases hx
    pos := HR.out
    len := by simp }, ?_, b3⟩
  intro x hx
  rcases hx with rfl | rfl | rfl | hx
  · show w.heap.size ≤ w.heap.size + 1 + 1; omega
  · show w.heap.size ≤ w.heap.size + 1; omega
  · exact Nat.le_refl _
  · cases hx
section
variable {w w' : World} {D : Td} {room : Nat} {ns : List Nd}
/-- one has left the ring and the map -/
theorem Lr.Tb.leaves {A B : List Nd} {x p n N : Nat} {k : ByteArray} {v : El} (h : Tb w D room (A ++ (x, (k, v)) :: B)) (hr : Ring (lv w p n) D.e (A ++ B)) (hm : Mv (rfp D.e (A ++ (x, (k, v)) :: B)) w (lv w p n))
    (hi : Ms.Is Try.prog 9 w' D.m (fun s => if s = k then none else mf (A ++ (x, (k, v)) :: B) s) N) (hN : N = (A ++ B).length) (hg : (lv w p n).grownBy w' (some D.m)) : Tg w D room (A ++ (x, (k, v)) :: B) (drp (kvs (A ++ (x, (k, v)) :: B)) k) w' := by
  have hb : w'.heap[D.b]? = w.heap[D.b]? := (hg.block D.b (Nat.lt_of_lt_of_le h.kind.lt hm.size) (fun e => h.b_m (by injection e))).trans (hm.block D.b h.kind.lt h.b_ring)
  have hsub : ∀ y, rfp D.e (A ++ B) y → rfp D.e (A ++ (x, (k, v)) :: B) y := fun y hy => by
    rcases hy with hy | hy
    · exact Or.inl hy
    · refine Or.inr ?_
      rw [List.map_append, List.mem_append] at hy ⊢
      exact hy.imp id (List.mem_cons_of_mem _)
  have hlen : (A ++ (x, (k, v)) :: B).length = (A ++ B).length + 1 := by simp only [List.length_append, List.length_cons]; omega
  refine ⟨A ++ B, (kvs_out h.keys).1.symm, {
    kind := h.kind.block hb
    c0 := by rw [World.cell?_of_block hb]; exact h.c0
    c1 := by rw [World.cell?_of_block hb]; exact h.c1
    c2 := by rw [World.cell?_of_block hb]; exact h.c2
    ring := hr.same (fun y hy => hg.block y (hr.kd hy).lt (fun e => h.m_ring (by injection e with e; rw [← e]; exact hsub y hy)))
    mp := by
      rw [hN] at hi
      exact hi.ext (fun s => by
        unfold mf
        rw [fb_out h.keys]
        by_cases e : s = k
        · rw [if_pos e, if_pos e]; rfl
        · rw [if_neg e, if_neg e])
    keys := by
      rw [← (kvs_out h.keys).1]
      exact h.keys.drp k
    wf := fun y hy => h.wf y (by
      rw [← (kvs_out h.keys).1] at hy
      exact (mem_drp.1 hy).1)
    pos := h.pos
    len := by have := h.len; omega }, ⟨fun y hy => Or.inl (hy.imp id (fun h => h.imp id (hsub y))), (hm.wide (S' := fp D (A ++ (x, (k, v)) :: B)) (fun y hy => Or.inr (Or.inr hy))).trans (Mv.of_grown (S := fun y => y = D.m) hg (fun y e _ => by injection e with e; exact e.symm)) (fun y _ e => Or.inr (Or.inl e))⟩⟩
theorem ldrop_any (h : Tb w D room ns) {k : ByteArray} (hk : Ms.Wf k) : Calls Try.prog 30 #[.pointer (some ⟨D.b, 0, none⟩), .string k] w fun e w' => e = .returned (.bool (fd (kvs ns) k).isSome) ∧ Tg w D room ns (drp (kvs ns) k) w' := by
  cases hx : fb ns k with
  | none =>
    have hf : fd (kvs ns) k = none := fd_none.2 (fb_none.1 hx)
    have HF := Lib.hid (find_none h hk hx)
    have HG : Hid (Tg w D room ns (drp (kvs ns) k) w) := Lib.hid (by rw [drp_none (fb_none.1 hx)]; exact Tg.start h)
    rw [hf]
    clear h hk hx hf
    go_enter Try.func30, Try.ntmps30
    go_wp2_with (go_at_call 42; refine HF.out.mono ?_; rintro e w' ⟨rfl, hw⟩; rw [hw]; clear hw)
    go_ret
    exact ⟨rfl, HG.out⟩
  | some x =>
    obtain ⟨A, v, B, rfl, hA⟩ := fb_split hx
    have hf := (kvs_out h.keys).2
    have HF := Lib.hid (find_some h hk hx)
    obtain ⟨p, n, kx, kp, kn, c0, c1, d1, d0, hr, hm, _, _, _⟩ := h.ring.leave
    have HL := Lib.hid (leave_raw kx kp kn c0 c1 d1 d0)
    obtain ⟨W1, hW1⟩ : ∃ W1, lv w p n = W1 := ⟨_, rfl⟩
    have hb : W1.heap[D.b]? = w.heap[D.b]? := by rw [← hW1]; exact hm.block D.b h.kind.lt h.b_ring
    have hc : W1.cell? ⟨D.b, 2, none⟩ = some (.map (some D.m)) := by rw [World.cell?_of_block hb]; exact h.c2
    have hmp : Ms.Is Try.prog 9 W1 D.m (mf (A ++ (x, (k, v)) :: B)) (A ++ (x, (k, v)) :: B).length := by rw [← hW1]; exact h.mp.block (hm.block D.m h.mp.lt h.m_ring)
    obtain ⟨N, hN⟩ : ∃ N, (A ++ (x, (k, v)) :: B).length = N := ⟨_, rfl⟩
    obtain ⟨F, hF⟩ : ∃ F, mf (A ++ (x, (k, v)) :: B) = F := ⟨_, rfl⟩
    rw [hN, hF] at hmp
    have HG : Hid (∀ w', Ms.Is Try.prog 9 w' D.m (fun s => if s = k then none else F s) (Ms.dn (F k) N) → W1.grownBy w' (some D.m) → Tg w D room (A ++ (x, (k, v)) :: B) (drp (kvs (A ++ (x, (k, v)) :: B)) k) w') := Lib.hid (fun w' hi hg => by
      rw [← hW1] at hg
      rw [← hF] at hi
      refine h.leaves hr hm hi ?_ hg
      rw [← hN]
      unfold Ms.dn mf
      rw [hx]
      simp only [Option.map_some, Option.isSome_some, if_true, List.length_append, List.length_cons]
      omega)
    rw [hf]
    rw [hW1] at HL
    clear h hx hf hA kx kp kn c0 c1 d1 d0 hr hm hb hW1 hN hF
    go_enter Try.func30, Try.ntmps30
    go_wp2_with (first
      | (go_at_call 42; refine HF.out.mono ?_; rintro e w' ⟨rfl, hw⟩; rw [hw]; clear hw)
      | (go_at_call 45; refine HL.out.mono ?_; rintro e w' ⟨rfl, hw⟩; rw [hw]; clear hw)
      | (at_delete; refine Ms.wp_del _ rfl _ _ 69 9 66 rfl Try.underlying69 Try.underlying9 D.m _ _ rfl hmp k hk rfl ?_))
    intro w2 hm2 hg2
    have HT := Lib.hid (HG.out w2 hm2 hg2)
    clear hm2 hg2 hmp hc
    go_wp2
    go_ret
    exact ⟨rfl, HT.out⟩
theorem ldrop_nil (k : ByteArray) (w : World) : Calls Try.prog 30 #[.pointer none, .string k] w fun e w' => e = .returned (.bool false) ∧ w' = w := by
  have HF := Lib.hid (find_nil k w)
  go_enter Try.func30, Try.ntmps30
  go_wp2_with (go_at_call 42; refine HF.out.mono ?_; rintro e w' ⟨rfl, hw⟩; rw [hw]; clear hw)
  go_ret
  exact ⟨rfl, rfl⟩
end
end Go.Proofs.Ytbkbopaoeehfkaa
