/-
  The law TextFolds: a name is as it is folded; what is folded stays so, and has as many runes, none of them a great letter.
-/
import Derived.Test.YtlgcmmnlgdhbhaaTextD
namespace Go.Proofs.Ytlgcmmnlgdhbhaa
open Go.RowKit Bt
open Go.ChangeShapes Go.WideShapes Go.ChangeAt
open Go.ChangeMaps (open_string shut_string)
set_option linter.unusedVariables false

namespace textFolds
set_option maxHeartbeats 400000 in
theorem walk_big (s : ByteArray) (h : 1000 < s.size) (hs : s.size ≤ 9223372036854775807) (w : World) :
    Calls Try.prog 6 #[.string s] w fun e w' => e = .returned (.bool true) ∧ Below w.heap.size w w' := by
  go_enter Try.func6, Try.ntmps6
  go_wp2_with (go_at_call 9; refine (tx.live_any _).mono ?_; rintro e w' ⟨rfl, hb3⟩)
  go_ret
  exact ⟨rfl, hb3⟩
theorem ba_of (l : List UInt8) : (⟨l.toArray⟩ : ByteArray).data.toList = l := rfl
theorem ba_size_of (l : List UInt8) : (⟨l.toArray⟩ : ByteArray).size = l.length := by simp [ByteArray.size]
theorem mem_rest {s : ByteArray} {l done rest : List Nat} {r : Nat} (h : done ++ r :: rest = l) : r ∈ l := by rw [← h]; simp
set_option maxHeartbeats 1000000 in
theorem walk_small (s : ByteArray) (h : s.size ≤ 1000) (w : World) :
    Calls Try.prog 6 #[.string s] w fun e w' => e = .returned (.bool true) ∧ Below w.heap.size w w' := by
  have c1 := fun w => fold_any s w (by omega)
  obtain ⟨F, hF⟩ : ∃ F : ByteArray, (⟨(Tx.fold s.data.toList).toArray⟩ : ByteArray) = F := ⟨_, rfl⟩
  have hFl : F.data.toList = Tx.fold s.data.toList := by rw [← hF]
  have hFs : F.size ≤ 4000 := by
    have := Tx.fold_len s.data.toList
    rw [ba_len] at this
    rw [← hF, ba_size_of]; omega
  have c2 := fun w => name_any s w (by omega)
  have c3 := fun w => fold_any F w (by omega)
  have c4 := fun w => count_any F w (by omega)
  have c5 := fun w => count_any s w (by omega)
  have hff : (⟨(Tx.fold F.data.toList).toArray⟩ : ByteArray) = F := by rw [hFl, Tx.fold_fold, hF]
  have hlen : (Tx.runes F.data.toList).length = (Tx.runes s.data.toList).length := by rw [hFl, Tx.runes_fold, List.length_map]
  have hk : ∀ r ∈ Tx.runes F.data.toList, Tx.kd (r : Nat) ≠ 4 := fun r hr => by
    rw [hFl, Tx.runes_fold] at hr
    obtain ⟨x, _, rfl⟩ := List.mem_map.1 hr
    exact Tx.fd_kind x
  rw [hF] at c1
  rw [hff] at c3
  rw [hlen] at c4
  obtain ⟨b, hb⟩ : ∃ b, Tx.isName s.data.toList = b := ⟨_, rfl⟩
  have hname : b = true → F = s := fun e => by
    rw [← hF, Tx.name_fold (hb.trans e)]
  rw [hb] at c2
  have HK := Lib.hid hk
  have HN := Lib.hid hname
  have C1 := Lib.hid c1
  have C2 := Lib.hid c2
  have C3 := Lib.hid c3
  have C4 := Lib.hid c4
  have C5 := Lib.hid c5
  clear c1 c2 c3 c4 c5 hF hFl hff hlen hk hname hb
  go_enter Try.func6, Try.ntmps6
  go_wp2_with fail
  refine (C1.out _).mono ?_
  rintro e w1 ⟨rfl, hb1⟩
  go_wp2
  go_loopw [] (fun wr => ∃ (pos : Nat) (done : List Nat), wr.heap[w1.heap.size]? = some (.stringIter F pos) ∧ Below w1.heap.size w1 wr ∧ Hid (done ++ rn F pos = Tx.runes F.data.toList)) (fun wr => F.size - wr.iterPos w1.heap.size)
  case atStart => exact ⟨0, [], World.iter_heap w1 F 0, (Below.refl _ w1).alloc (Nat.le_refl _) _, Lib.hid rfl⟩
  case round =>
    obtain ⟨pos, done, hit, hbw, hd⟩ := hrel
    by_cases hp : pos < F.size
    · have hnx : ∀ ty, (Instr.next (.pointer (some ⟨w1.heap.size, 0, none⟩)) true ty).run Try.prog wr = _ := fun ty => Lib.run_next_any_at wr w1.heap.size F pos ty hit hp
      have hw := width hp
      have hr := rune_le F pos
      have hd1 := hd.out
      rw [rn_next hp] at hd1
      have hk4 : (Tx.kd ((Utf8.decode F pos).1 : Nat) == 4) = false := by
        have := HK.out _ (by rw [← hd1]; simp : (Utf8.decode F pos).1 ∈ Tx.runes F.data.toList)
        simpa using this
      have hd2 : Hid ((done ++ [(Utf8.decode F pos).1]) ++ rn F (pos + (Utf8.decode F pos).2) = Tx.runes F.data.toList) := Lib.hid (by rw [← hd1]; simp)
      have hit2 := Lib.iterAt_heap wr w1.heap.size F pos (pos + (Utf8.decode F pos).2) hit
      have hb2 := Lib.below_iterAt hbw (k := w1.heap.size) (Nat.le_refl _) F (pos + (Utf8.decode F pos).2)
      clear hd hd1
      go_wp2_with (go_at_call 7; refine (kind_any _ _ (by omega) (by omega)).mono ?_; rintro e w' ⟨rfl, rfl⟩)
      go_roundw
      case rel => exact ⟨pos + (Utf8.decode F pos).2, _, hit2, hb2, hd2⟩
      case measure =>
        simp only [World.iterPos, hit2, hit]
        omega
    · have hnx : ∀ ty, (Instr.next (.pointer (some ⟨w1.heap.size, 0, none⟩)) true ty).run Try.prog wr = _ := fun ty => Lib.run_next_end_at wr w1.heap.size F pos ty hit hp
      clear hd
      have hbx := below_next hb1 hbw
      cases b with
      | true =>
        obtain rfl := HN.out rfl
        go_wp2_with fail
        refine (C2.out _).mono ?_
        rintro e w2 ⟨rfl, hb2⟩
        go_wp2_with fail
        refine (C3.out _).mono ?_
        rintro e w3 ⟨rfl, hb3⟩
        go_wp2_with fail
        refine (C4.out _).mono ?_
        rintro e w4 ⟨rfl, hb4⟩
        go_wp2_with fail
        refine (C5.out _).mono ?_
        rintro e w5 ⟨rfl, hb5⟩
        go_wp2_with (go_at_call 9; refine (tx.live_any _).mono ?_; rintro e w7 ⟨rfl, hb7⟩)
        go_ret
        refine ⟨rfl, ?_⟩
        repeat (first | exact hbx | refine below_next ?_ (by assumption))
      | false =>
        go_wp2_with fail
        refine (C2.out _).mono ?_
        rintro e w2 ⟨rfl, hb2⟩
        go_wp2_with fail
        refine (C3.out _).mono ?_
        rintro e w3 ⟨rfl, hb3⟩
        go_wp2_with fail
        refine (C4.out _).mono ?_
        rintro e w4 ⟨rfl, hb4⟩
        go_wp2_with fail
        refine (C5.out _).mono ?_
        rintro e w5 ⟨rfl, hb5⟩
        go_wp2_with (go_at_call 9; refine (tx.live_any _).mono ?_; rintro e w7 ⟨rfl, hb7⟩)
        go_ret
        refine ⟨rfl, ?_⟩
        repeat (first | exact hbx | refine below_next ?_ (by assumption))
theorem walk (a0 : ByteArray) (w0 : a0.size ≤ maxLen) (w : World) :
    Calls Try.prog 6 #[.string a0] w fun e w' => e = .returned (.bool true) ∧ Below w.heap.size w w' := by
  unfold maxLen at w0
  by_cases h : 1000 < a0.size
  · exact walk_big a0 h w0 w
  · exact walk_small a0 (by omega) w
theorem own : ownKnob Try.prog.godebug = none := by kernel_rfl
theorem laidOut : laidOutB Try.prog = true := by kernel_rfl
set_option maxRecDepth 100000 in
theorem contract (H : Type) (enc : TypeId × Value → H) (W : World) (base : Nat) (args : Array Value) (ds gs : List (DataW H)) (before : List MemPlace)
    (hval0 : ∀ (j : Nat) t v, Try.f6.params[j]? = some t → args[j]? = some v → Value.okWide Try.prog W .any base t v)
    (hW : DataW.Whole enc Try.prog Try.f6.params.toList Rows.textFoldsSpec.vars false W args.toList ds gs before) :
    Calls Try.prog 6 args W fun e W' => ∃ v, e = .returned v ∧ Rows.textFoldsSpec.post enc Try.prog Try.f6 false true false false W args v W' := by
  have hval : ∀ (j : Nat) t v, Try.f6.params[j]? = some t → args[j]? = some v → Value.okWide Try.prog W .any base t v := hval0
  clear hval0
  have hW' := hW
  obtain ⟨p, q, hA0, hV, rfl, hfz, hnd⟩ := hW
  have hA : DataW.TrodAll enc Try.prog W 0 (fun _ => true) true Try.f6.params.toList args.toList ds p := hA0
  rw [Try.params6] at hA hval
  obtain ⟨v0, vs0, d0, ds0, p0, q0, hargs, rfl, rfl, h0, r0⟩ := trodAll_cons hA
  obtain ⟨rfl, rfl, rfl⟩ := trodAll_nil r0
  obtain rfl : args = #[v0] := by cases args; simp_all
  obtain ⟨rfl, rfl⟩ := trodVars_none hV
  obtain ⟨a0, rfl, rfl, rfl, w0⟩ := open_string Try.underlying9 (hval 0 9 v0 rfl rfl) h0
  clear hA0
  refine (walk a0 w0 W).mono fun e W' ⟨he, hb⟩ => ?_
  subst he
  exact ⟨_, rfl, law_post laidOut (by kernel_rfl) rfl Try.underlying4 rfl hW' rfl hb⟩

set_option maxRecDepth 100000 in
theorem lifted (os : Os) (started : os.Started) (H : Type) (enc : TypeId × Value → H) :
    ReturnsInHanded {} Try.checked os 6 .any (Rows.textFoldsSpec.pre6 enc Try.prog Try.f6 Rows.textFoldsRow.domain false) (Rows.textFoldsSpec.post enc Try.prog Try.f6 false true false false) := by
  refine returnsInHanded_of_change (C := Try.checked) own started (by kernel_rfl) Try.func6
    (ChangeSpec.witness6 (enc := enc) (C := Try.checked) false ⟨#[], #[.string ByteArray.empty], []⟩ 8 (by kernel_rfl) (by kernel_rfl) (by kernel_rfl) (by kernel_rfl)) ?_
  intro W base args ds gs before hval0 hW _ _
  exact contract H enc W base args ds gs before hval0 hW

/-- THE STATEMENT -/
theorem proved : Rows.TextFoldsSaid :=
  OpenClaim.holds_of_wide 6 Try.f6 rfl rfl rfl rfl rfl rfl rfl ⟨rfl, rfl, rfl, rfl, rfl⟩ rfl rfl rfl rfl rfl (by kernel_rfl) Try.func6 (by kernel_rfl)
    (of_decide_eq_true (by kernel_rfl)) (by unfold Func.isWrapper; first | (rw [if_pos (by decide +kernel)]; kernel_rfl) | (rw [if_neg (by decide +kernel)]; exact ⟨rfl, rfl⟩))
    (fun os started H enc _ => lifted os started H enc)
end textFolds
end Go.Proofs.Ytlgcmmnlgdhbhaa
