/-
  CONTRACTS OF LAYER 12 (lru), part G: rows of texts; Keys; the page's Texts.
-/
import Derived.Test.YtbkbopaoeehfkaaLruC
import Derived.LaidEqlPtr
namespace Go.Proofs.Ytbkbopaoeehfkaa
open Go.RowKit Lr Ft Bt
set_option linter.unusedVariables false
theorem run_neq_ptr_same {P : Program} (w : World) {tp te : TypeId} {j : TypeInfo} (a : Addr) (hp : P.underlying tp = some (.pointer te)) (hte : P.info? te = some j) :
    (binOp .neq tp (.pointer (some a)) (.pointer (some a))).run P w = .ok (.bool false) w := by
  have h : ∀ d : Nat, (Op.equalIn (d + 1) tp (.pointer (some a)) (.pointer (some a))).run P w = .ok true w := fun d => by
    simp [Op.equalIn, run_underlying hp, sizeOf, typeInfo, hte, run_sameAddr_same]
  simp only [binOp]
  simp [Op.equal, Op.maxDepth, h 9999]
theorem run_neq_ptr_other {P : Program} (w : World) {tp te : TypeId} {j : TypeInfo} {a b : Addr} {ca cb : Array Value} {ta tb : TypeId} (hp : P.underlying tp = some (.pointer te)) (hte : P.info? te = some j) (hsz : j.size ≠ 0)
    (hne : a ≠ b) (ha : w.heap[a.block]? = some (.cells ca ta (0, 0))) (hb : w.heap[b.block]? = some (.cells cb tb (0, 0))) :
    (binOp .neq tp (.pointer (some a)) (.pointer (some b))).run P w = .ok (.bool true) w := by
  have h : ∀ d : Nat, (Op.equalIn (d + 1) tp (.pointer (some a)) (.pointer (some b))).run P w = .ok false w := fun d => by
    simp [Op.equalIn, run_underlying hp, sizeOf, typeInfo, hte, hsz, run_sameAddr_other w hne ha hb]
  simp only [binOp]
  simp [Op.equal, Op.maxDepth, h 9999]
theorem info_link : (Try.prog.info? 68).map (·.size) = some 3 := by kernel_rfl
theorem neq_same (x : Nat) (w : World) : (binOp .neq 66 (.pointer (some ⟨x, 0, none⟩)) (.pointer (some ⟨x, 0, none⟩))).run Try.prog w = .ok (.bool false) w := by
  obtain ⟨j, hj, _⟩ := Option.map_eq_some_iff.1 info_link
  exact run_neq_ptr_same w _ Try.underlying66 hj
theorem neq_other {w : World} {x y : Nat} (hx : Kd w x 68) (hy : Kd w y 68) (hne : x ≠ y) : (binOp .neq 66 (.pointer (some ⟨x, 0, none⟩)) (.pointer (some ⟨y, 0, none⟩))).run Try.prog w = .ok (.bool true) w := by
  obtain ⟨j, hj, hs⟩ := Option.map_eq_some_iff.1 info_link
  obtain ⟨c1, h1⟩ := hx
  obtain ⟨c2, h2⟩ := hy
  exact run_neq_ptr_other w (a := ⟨x, 0, none⟩) (b := ⟨y, 0, none⟩) Try.underlying66 hj (by omega) (fun e => hne (by injection e)) h1 h2
theorem info_str12 : (Try.prog.info? 9).map (fun i => (i.zero, i.size, i.bytes)) = some (some (.string ByteArray.empty), 1, 16) := by kernel_rfl
namespace Lr
def kys (L : List KV) : List ByteArray := L.map (·.1)
theorem kys_len (L : List KV) : (kys L).length = L.length := List.length_map ..
def sc (l : List ByteArray) : List Value := l.map .string
theorem sc_app (a b : List ByteArray) : sc (a ++ b) = sc a ++ sc b := List.map_append ..
/-- v is a row of these texts, from block B on -/
def OwnS (w : World) (B : Nat) (v : Value) (l : List ByteArray) : Prop := w.ownsRow B 9 1 v l.length (sc l)
/-- a slice at p holds these texts -/
def SC (w : World) (p : Option Addr) (l : List ByteArray) : Prop := ∀ i, i < l.length → ∃ g, p = some ⟨g, 0, none⟩ ∧ g < w.heap.size ∧ w.cell? ⟨g, i, none⟩ = some (.string (l.getD i ByteArray.empty))
theorem SC.below {w w' : World} {p : Option Addr} {l : List ByteArray} {B : Nat} (h : SC w p l) (hb : Below B w w') (hB : w.heap.size ≤ B) : SC w' p l := fun i hi => by
  obtain ⟨g, h1, h2, h3⟩ := h i hi
  have e : w'.heap[g]? = w.heap[g]? := hb.block g (Nat.lt_of_lt_of_le h2 hB)
  exact ⟨g, h1, Nat.lt_of_lt_of_le h2 hb.size, by rw [World.cell?_of_block e]; exact h3⟩
theorem OwnS.view {w : World} {B : Nat} {v : Value} {l : List ByteArray} (h : OwnS w B v l) : ∃ p cap, v = .slice p l.length cap ∧ l.length ≤ maxLen ∧ SC w p l := by
  rcases h.2 with ⟨rfl, h0⟩ | ⟨g, cap, cur, rfl, hbg, hgg, hle, hmx, hcs, htk⟩
  · exact ⟨none, 0, by rw [h0], by omega, fun i hi => by omega⟩
  · refine ⟨some ⟨g, 0, none⟩, cap, rfl, by omega, fun i hi => ⟨g, rfl, (Array.getElem?_eq_some_iff.1 hgg).1, ?_⟩⟩
    simp only [World.cell?, hgg]
    show cur[i]? = _
    have h1 : (sc l)[i]? = some (.string (l.getD i ByteArray.empty)) := by
      unfold sc
      rw [List.getElem?_map, List.getD_eq_getElem?_getD, List.getElem?_eq_getElem hi]
      rfl
    rw [← htk, List.getElem?_take, if_pos (by omega), Array.getElem?_toList] at h1
    exact h1
theorem OwnS.block {w w' : World} {B : Nat} {v : Value} {l : List ByteArray} (h : OwnS w B v l) (hb : ∀ g, v.ownBlock = some g → w'.heap[g]? = w.heap[g]?) : OwnS w' B v l := by
  refine ⟨h.1, ?_⟩
  rcases h.2 with hn | ⟨g, cap, cur, rfl, h1, h2, rest⟩
  · exact .inl hn
  · exact .inr ⟨g, cap, cur, rfl, h1, by rw [hb g rfl]; exact h2, rest⟩
theorem OwnS.kind {w : World} {B : Nat} {v : Value} {l : List ByteArray} (h : OwnS w B v l) {g : Nat} (hg : v.ownBlock = some g) : B ≤ g ∧ g < w.heap.size ∧ Kd w g 9 := by
  have h1 := h.lt g hg
  rcases h.2 with ⟨rfl, _⟩ | ⟨g', cap, cur, rfl, h2, h3, _⟩
  · cases hg
  · have e : g' = g := by
      have := hg
      simp only [Value.ownBlock] at this
      injection this
    subst e
    exact ⟨h1.1, h1.2, _, h3⟩
theorem OwnS.below {w w' : World} {B : Nat} {v : Value} {l : List ByteArray} (h : OwnS w B v l) (hb : Below w.heap.size w w') : OwnS w' B v l := h.block (fun g hg => hb.block g (h.kind hg).2.1)
theorem OwnS.mono {w : World} {B B' : Nat} {v : Value} {l : List ByteArray} (h : OwnS w B v l) (hb : B' ≤ B) : OwnS w B' v l := by
  refine ⟨h.1, ?_⟩
  rcases h.2 with hn | ⟨g, cap, cur, rfl, h1, rest⟩
  · exact .inl hn
  · exact .inr ⟨g, cap, cur, rfl, Nat.le_trans hb h1, rest⟩
theorem scells1 (w : World) (k : ByteArray) (ty : TypeId) : ∀ (j : Nat) (u : Value), [Value.string k][j]? = some u → (w.alloc (.cells #[.string k] ty)).cell? ((⟨w.heap.size, 0, none⟩ : Addr).add j) = some u := by
  intro j u hj
  have hadd : (⟨w.heap.size, 0, none⟩ : Addr).add j = ⟨w.heap.size, j, none⟩ := by unfold Addr.add; split <;> simp_all
  rw [hadd, World.cell?_alloc_at _ _ _ _ rfl]
  match j, hj with
  | 0, hj => simpa using hj
  | (j + 1), hj => simp at hj
theorem sone (k : ByteArray) : ∀ u ∈ [Value.string k], u.oneCell' = true := by
  intro u hu
  simp only [List.mem_cons, List.not_mem_nil, or_false] at hu
  subst hu
  rfl
theorem take_getD {l : List ByteArray} {j : Nat} (h : j < l.length) : l.take (j + 1) = l.take j ++ [l.getD j ByteArray.empty] := by
  rw [List.take_succ_eq_append_getElem h, List.getD_eq_getElem?_getD, List.getElem?_eq_getElem h]
  rfl
/-- how long a slice is -/
def slen : Value → Nat
  | .slice _ n _ => n
  | _ => 0
def Keyss (w : World) (l : List ByteArray) (e : Ending) (w' : World) : Prop := ∃ p n cap, e = .returned (.slice p n cap) ∧ l.length = n ∧ OwnS w' w.heap.size (.slice p n cap) l ∧ Below w.heap.size w w'
/-- the place in the ring -/
def pl (e : Nat) (ns : List Nd) (j : Nat) : Nat := (ns.map (·.1)).getD j e
theorem Ring.at {w : World} {e : Nat} {ns : List Nd} (h : Ring w e ns) : w.cell? ⟨e, 1, none⟩ = some (pv (pl e ns 0)) ∧ ∀ j x, ns[j]? = some x → pl e ns j = x.1 ∧ w.cell? ⟨x.1, 1, none⟩ = some (pv (pl e ns (j + 1))) := by
  have h1 := h.ln
  unfold cl at h1
  have key : ∀ (l : List Nd) (y : Nat), Ln (Rw w) (y :: (l.map (·.1) ++ [e])) → w.cell? ⟨y, 1, none⟩ = some (pv (pl e l 0)) ∧ ∀ j x, l[j]? = some x → pl e l j = x.1 ∧ w.cell? ⟨x.1, 1, none⟩ = some (pv (pl e l (j + 1))) := by
    intro l
    induction l with
    | nil => exact fun y hy => ⟨hy.1.1, fun j x hx => by simp at hx⟩
    | cons a t ih =>
      intro y hy
      rw [List.map_cons, List.cons_append] at hy
      obtain ⟨r1, r2⟩ := Ln.cons2.1 hy
      obtain ⟨i1, i2⟩ := ih a.1 r2
      refine ⟨r1.1, fun j x hx => ?_⟩
      cases j with
      | zero =>
        simp only [List.getElem?_cons_zero] at hx
        injection hx with hx
        subst hx
        exact ⟨rfl, i1⟩
      | succ j =>
        rw [List.getElem?_cons_succ] at hx
        exact i2 j x hx
  exact key ns e h1
end Lr
section
variable {w w' : World} {D : Td} {room : Nat} {ns : List Nd}
set_option maxHeartbeats 1000000 in
theorem keys_any (h : Tb w D room ns) : Calls Try.prog 40 #[.pointer (some ⟨D.b, 0, none⟩)] w (Keyss w (kys (kvs ns))) := by
  obtain ⟨i0, hinf, hz0, hz1, hz2⟩ := info_parts info_str12
  have HI := Lib.hid hinf
  have HZ0 := Lib.hid hz0
  have HZ1 := Lib.hid hz1
  have HZ2 := Lib.hid hz2
  have HH := Lib.hid h
  have hlen := h.len
  have hc1 := h.c1
  have hc2 := h.c2
  have hmp := h.mp
  unfold pv at hc1
  obtain ⟨n, hn⟩ : ∃ n, ns.length = n := ⟨_, rfl⟩
  rw [hn] at hmp hlen
  have HN := Lib.hid hn
  clear h hn hinf hz0 hz1 hz2
  go_enter Try.func40, Try.ntmps40
  go_wp2_with (first
    | (at_len; refine Ms.wp_len _ rfl _ 69 9 66 rfl Try.underlying69 D.m n _ rfl hmp ?_)
    | (at_make; refine wpList_make_own _ rfl _ _ 81 rfl w.heap.size 9 i0 (.string ByteArray.empty) 1 Try.underlying81 HI.out HZ0.out HZ1.out _ _ _ n rfl rfl rfl (by rw [HZ2.out]; omega) (by unfold maxLen; omega) (Nat.le_refl _) ?_))
  intro wa hown hgrow
  have hba : Below w.heap.size w wa := (Below.refl _ _).grown hgrow (Nat.le_refl _) (fun k e => by cases e)
  have ha := HH.out.below hba (Nat.le_refl _)
  have hd1 := ha.c1
  have he1 := ha.ring.at.1
  unfold pv at hd1 he1
  have HO : Hid (OwnS wa w.heap.size (.slice (some ⟨w.heap.size, 0, none⟩) 0 n) []) := Lib.hid hown
  have HB := Lib.hid hba
  clear ha hown hgrow hba hc1 hc2 hmp
  go_wp2
  go_loopw [3, 4] (fun o l wr => ∃ j : Nat, j ≤ n ∧ l = .pointer (some ⟨pl D.e ns j, 0, none⟩) ∧ Hid (OwnS wr w.heap.size o ((kys (kvs ns)).take j)) ∧ Hid (Below w.heap.size w wr)) (fun o _ _ => n - slen o)
  case atStart => exact ⟨0, Nat.zero_le _, rfl, HO, HB⟩
  case round =>
    obtain ⟨j, hj, hl, ho, hb⟩ := hrel
    have hr := HH.out.below hb.out (Nat.le_refl _)
    have hd1 := hr.c1
    unfold pv at hd1
    by_cases hlt : j < n
    · obtain ⟨x, hx⟩ : ∃ x, ns[j]? = some x := ⟨_, List.getElem?_eq_getElem (by rw [HN.out]; exact hlt)⟩
      obtain ⟨x, k, v⟩ := x
      obtain ⟨hp1, hp2⟩ := hr.ring.at.2 j _ hx
      have hmem : (x, (k, v)) ∈ ns := List.mem_of_getElem? hx
      simp only at hp1 hp2
      rw [hp1] at hl
      subst hl
      have hne : x ≠ D.e := fun e => (List.nodup_cons.1 HH.out.ring.nd).1 (by rw [← e]; exact List.mem_map.2 ⟨_, hmem, rfl⟩)
      have hneq := neq_other (hr.ring.nk _ hmem) hr.ring.ek hne
      have HHD := Lib.hid (held_any (hr.ring.th _ hmem))
      have hkj : (kys (kvs ns)).take (j + 1) = (kys (kvs ns)).take j ++ [k] := by
        rw [take_getD (by rw [kys_len, kvs_len, HN.out]; exact hlt)]
        congr 2
        rw [List.getD_eq_getElem?_getD]
        unfold kys kvs
        rw [List.getElem?_map, List.getElem?_map, hx]
        rfl
      have HKJ := Lib.hid hkj
      have hlj : ((kys (kvs ns)).take j).length = j := by rw [List.length_take, kys_len, kvs_len, HN.out]; omega
      have HLJ := Lib.hid hlj
      have HMEM := Lib.hid hmem
      have HX := Lib.hid hx
      have hfk := field_key k v
      have hsz := hb.out.size
      clear hr hx hp1 hp2 hmem hne hkj hlj he1
      go_wp2_with (go_at_call 32; refine HHD.out.mono ?_)
      first | rintro e wb rfl hbb | rintro e wb ⟨rfl, hbb⟩
      have hown := (ho.out.below hbb)
      unfold OwnS at hown
      rw [HLJ.out] at hown
      have HBB := Lib.hid hbb
      have hsz2 := hbb.size
      clear hbb hneq hd1
      go_wp2_with (at_builtin; refine wpList_append_own _ rfl _ _ 81 rfl w.heap.size 9 i0 (.string ByteArray.empty) 1 16 Try.underlying81 HI.out HZ0.out HZ1.out HZ2.out rfl (by decide) _ _ _ rfl (World.ownsRow.alloc hown _) ⟨wb.heap.size, 0, none⟩ 1 1 [.string k] rfl rfl (scells1 wb _ _) (sone _) (by unfold maxLen; omega) (by omega) (by simp; omega) ?_)
      intro v3 w3 hown3 hgrow hnil
      have HO3 : Hid (OwnS w3 w.heap.size v3 ((kys (kvs ns)).take (j + 1))) := Lib.hid (by
        unfold OwnS
        rw [HKJ.out, sc_app, List.length_append, HLJ.out]
        exact hown3)
      have HLV : Hid (slen v3 = j + 1) := Lib.hid (by
        have h9 := HO3.out
        unfold OwnS at h9
        obtain ⟨p9, c9, hv9, _⟩ := OwnS.view h9
        rw [hv9]
        show _ = _
        rw [HKJ.out, List.length_append, HLJ.out]
        rfl)
      have hlvo : slen u3 = j := by
        obtain ⟨p9, c9, hv9, _⟩ := OwnS.view ho.out
        rw [hv9]
        exact HLJ.out
      have hbw := (hb.out.trans (HBB.out.mono hb.out.size))
      have HB3 := Lib.hid ((hbw.alloc hbw.size _).grown hgrow (by simp; omega) (fun g e => (ho.out.kind e).1))
      clear hown3 hgrow hnil hown hbw
      have h3 := HH.out.below HB3.out (Nat.le_refl _)
      have hn1 := (h3.ring.at.2 j _ HX.out).2
      unfold pv at hn1
      simp only at hn1
      clear h3 hfk
      go_wp2
      go_roundw
      case rel => exact ⟨j + 1, hlt, rfl, HO3, HB3⟩
      case measure => rw [HLV.out, hlvo]; omega
    · have hjn : j = n := by omega
      subst hjn
      have hp : pl D.e ns j = D.e := by
        unfold pl
        rw [List.getD_eq_getElem?_getD, List.getElem?_eq_none (by rw [List.length_map, HN.out]; exact Nat.le_refl _)]
        rfl
      rw [hp] at hl
      subst hl
      have hneq := neq_same D.e wr
      have HFIN : Hid (Keyss w (kys (kvs ns)) (.returned u3) wr) := Lib.hid (by
        have h1 := ho.out
        rw [List.take_of_length_le (by rw [kys_len, kvs_len, HN.out]; exact Nat.le_refl _)] at h1
        obtain ⟨p9, c9, hv9, _⟩ := OwnS.view h1
        rw [hv9] at h1
        exact ⟨p9, _, c9, by rw [hv9], rfl, h1, hb.out⟩)
      clear hr hp he1
      go_wp2
      go_ret
      exact HFIN.out
theorem keys_nil (w : World) : Calls Try.prog 40 #[.pointer none] w fun e w' => e = .returned (.slice none 0 0) ∧ w' = w := by
  go_enter Try.func40, Try.ntmps40
  go_wp2
  go_ret
  exact ⟨rfl, rfl⟩
end
end Go.Proofs.Ytbkbopaoeehfkaa
