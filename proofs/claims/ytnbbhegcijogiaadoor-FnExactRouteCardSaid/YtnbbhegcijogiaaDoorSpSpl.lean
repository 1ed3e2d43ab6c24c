import Derived.Test.YtnbbhegcijogiaaDoorLen
namespace Go.Proofs.YtnbbhegcijogiaaDoor
open Go.ChangeShapes Go.WideShapes Go.ChangeAt Go.RowKit
open Pcs

theorem pre_take {at_ s : ByteArray} {i : Nat} (h : i + at_.size ≤ s.size) : ((s.extract i (i + at_.size)).toList == at_.toList) = at_.data.toList.isPrefixOf (s.data.toList.drop i) := by
  rw [Lib.extract_toList, Lib.toList_data, Nat.add_sub_cancel_left, Lib.size_eq at_, ← Lib.occAt_iff_take _ _ _ (by rw [← Lib.size_eq, ← Lib.size_eq]; exact h)]; rfl
theorem piece_next {s : ByteArray} {f i : Nat} (h : f ≤ i) (hi : i < s.data.toList.length) : (s.extract f (i + 1)).data.toList = (s.extract f i).data.toList ++ [s.data.toList[i]] := by
  rw [Lib.extract_data, Lib.extract_data, show i + 1 - f = (i - f) + 1 by omega, List.take_add_one, List.getElem?_drop, show f + (i - f) = i by omega, List.getElem?_eq_getElem hi]; rfl
theorem piece_end {s : ByteArray} {f i : Nat} (h : f ≤ i) : (s.extract f s.size).data.toList = (s.extract f i).data.toList ++ s.data.toList.drop i := by
  rw [Lib.extract_data, Lib.extract_data, Lib.size_eq]
  rw [List.take_of_length_le (by simp)]
  conv => lhs; rw [← List.take_append_drop (i - f) (s.data.toList.drop f)]
  rw [List.drop_drop, show f + (i - f) = i by omega]
theorem piece_none {s : ByteArray} (i : Nat) : (s.extract i i).data.toList = [] := by
  rw [Lib.extract_data, Nat.sub_self, List.take_zero]

set_option maxHeartbeats 1000000 in
set_option maxRecDepth 100000 in
theorem specSplit (s sep : ByteArray) (w : World) (hs : s.size ≤ 1048576) (h1 : 1 ≤ sep.size) (h2 : sep.size ≤ 1048576) :
    Calls Tryd.prog 45 #[.string s, .string sep] w fun e w' => (∃ v, e = .returned v ∧ Strs w' w.heap.size v (pieces sep s)) ∧ Below w.heap.size w w' := by
  obtain ⟨i0, hi, hz0, hz1, hz2⟩ := info_parts infoStr
  have hne := ne_nil h1
  go_enter Tryd.func45, Tryd.ntmps45
  go_wp2
  go_loopw [5, 6, 7] (fun v fv iv wr => ∃ (f i : Nat) (acc : List ByteArray), f ≤ i ∧ i ≤ s.size ∧ fv = .int .i64 f ∧ iv = .int .i64 i ∧ acc.length ≤ f ∧ Hid (acc ++ (pcs sep.data.toList 0 (s.extract f i).data.toList (s.data.toList.drop i)).map mk = pieces sep s) ∧ Strs wr w.heap.size v acc ∧ Below w.heap.size w wr) (fun _ _ iv _ => s.size - (intOf iv).toNat)
  case atStart => exact ⟨0, 0, [], Nat.le_refl _, Nat.zero_le _, rfl, rfl, Nat.le_refl _, by show _ = _; rw [piece_none]; rfl, World.ownsRow_nil _ _ _ _, Below.refl _ _⟩
  case round =>
    obtain ⟨f, i, acc, hfi, his, rfl, rfl, hacc, HG, hown, hb⟩ := hrel
    have hzr : w.heap.size ≤ wr.heap.size := hb.size
    by_cases hA : i + sep.size ≤ s.size
    · have hAi : (i : Int) + sep.size ≤ s.size := by omega
      have hpt := pre_take hA
      have htn : ((i : Int) + (sep.size : Int)).toNat = i + sep.size := by omega
      have hlo : (0 : Int) ≤ (i : Int) + (sep.size : Int) := by omega
      have hii : (i : Int) ≤ (i : Int) + (sep.size : Int) := by omega
      have hsl0 : ∀ wx, (Instr.slice 9 (.string s) (some (.int .i64 (i : Int))) (some (.int .i64 ((i : Int) + (sep.size : Int)))) none).run Tryd.prog wx = .ok (.string (s.extract i (i + sep.size))) wx := by
        intro wx
        rw [run_slice_string wx 9 s .i64 .i64 i ((i : Int) + (sep.size : Int)) Tryd.underlying9 (by omega) (by omega) (by omega), htn]
        rfl
      by_cases hp : sep.data.toList.isPrefixOf (s.data.toList.drop i) = true
      · rw [hp] at hpt
        have HP : Hid _ := hp
        clear hp
        have hown' : wr.ownsRow w.heap.size 9 1 u5 acc.length (acc.map Value.string) := hown
        have hlos := strs_lo hown
        clear hown
        obtain ⟨p, HQ⟩ : ∃ p, Hid (s.extract f i = p) := ⟨_, rfl⟩
        have hsl : ∀ wx, (Instr.slice 9 (.string s) (some (.int .i64 (f : Int))) (some (.int .i64 (i : Int))) none).run Tryd.prog wx = .ok (.string p) wx := by
          intro wx
          rw [run_slice_string wx 9 s .i64 .i64 f i Tryd.underlying9 (by omega) (by omega) (by omega), ← HQ.out]
          rfl
        go_wp2_with (at_builtin; refine wpList_append_lies _ rfl _ _ 29 rfl w.heap.size 9 i0 (.string ⟨#[]⟩) 1 16 Tryd.underlying29 hi hz0 hz1 hz2 rfl (by decide) _ _ _ rfl (hown'.alloc _) ⟨wr.heap.size, 0, none⟩ 1 1 [.string p] rfl rfl ?c1 ?c2 ?c3 ?c4 ?c5 ?c6 (wr.heap.size + 1) ?c7 ?_)
        case c1 =>
          intro j u hj
          match j, hj with
          | 0, hj => simp at hj; subst hj; simp [Addr.add]
        case c2 => intro u hu; simp at hu; subst hu; rfl
        case c3 => decide
        case c4 => unfold maxLen; omega
        case c5 => omega
        case c6 => simp; omega
        case c7 => simp
        intro g cap w1 hown1 hgrow hat hlt
        have HS1 : Hid (Strs w1 w.heap.size (.slice (some ⟨g, 0, none⟩) (acc.length + 1) cap) (acc ++ [p])) := strs_snoc hown1
        have hb1 : Below w.heap.size w w1 := (hb.alloc hzr _).grown hgrow (by simp; omega) hlos
        clear hown1 hgrow hat hown' hlos
        go_wp2
        go_roundw
        case rel =>
          refine ⟨i + sep.size, i + sep.size, acc ++ [p], Nat.le_refl _, hA, by go_num, by go_num, by simp; omega, ?_, HS1.out, hb1⟩
          show _ = _
          have e := HG.out
          rw [pcs_hit hne HP.out, List.map_cons, List.drop_drop, ← Lib.size_eq, mk_data, HQ.out] at e
          rw [piece_none, List.append_assoc]
          exact e
        case measure => simp [intOf]; omega
      · have hpf : sep.data.toList.isPrefixOf (s.data.toList.drop i) = false := Bool.eq_false_iff.2 hp
        rw [hpf] at hpt
        have HP : Hid (sep.data.toList.isPrefixOf (s.data.toList.drop i) = false) := hpf
        clear hp hpf
        go_wp2
        go_roundw
        case rel =>
          refine ⟨f, i + 1, acc, by omega, by omega, rfl, by go_num, hacc, ?_, hown, hb⟩
          show _ = _
          have hil : i < s.data.toList.length := by rw [← Lib.size_eq]; omega
          have e := HG.out
          have e2 := HP.out
          rw [List.drop_eq_getElem_cons hil] at e e2
          rw [pcs_miss e2] at e
          rw [piece_next hfi hil]
          exact e
        case measure => simp [intOf]; omega
    · have hAi : (s.size : Int) < (i : Int) + sep.size := by omega
      have hown' : wr.ownsRow w.heap.size 9 1 u5 acc.length (acc.map Value.string) := hown
      have hlos := strs_lo hown
      clear hown
      obtain ⟨p, HQ⟩ : ∃ p, Hid (s.extract f s.size = p) := ⟨_, rfl⟩
      have hsl : ∀ wx, (Instr.slice 9 (.string s) (some (.int .i64 (f : Int))) none none).run Tryd.prog wx = .ok (.string p) wx := by
        intro wx
        rw [run_slice_string_from_if wx 9 s .i64 f Tryd.underlying9, if_pos (by omega), ← HQ.out]
        rfl
      go_wp2_with (at_builtin; refine wpList_append_lies _ rfl _ _ 29 rfl w.heap.size 9 i0 (.string ⟨#[]⟩) 1 16 Tryd.underlying29 hi hz0 hz1 hz2 rfl (by decide) _ _ _ rfl (hown'.alloc _) ⟨wr.heap.size, 0, none⟩ 1 1 [.string p] rfl rfl ?c1 ?c2 ?c3 ?c4 ?c5 ?c6 (wr.heap.size + 1) ?c7 ?_)
      case c1 =>
        intro j u hj
        match j, hj with
        | 0, hj => simp at hj; subst hj; simp [Addr.add]
      case c2 => intro u hu; simp at hu; subst hu; rfl
      case c3 => decide
      case c4 => unfold maxLen; omega
      case c5 => omega
      case c6 => simp; omega
      case c7 => simp
      intro g cap w1 hown1 hgrow hat hlt
      have HS1 : Hid (Strs w1 w.heap.size (.slice (some ⟨g, 0, none⟩) (acc.length + 1) cap) (acc ++ [p])) := strs_snoc hown1
      have hb1 : Below w.heap.size w w1 := (hb.alloc hzr _).grown hgrow (by simp; omega) hlos
      clear hown1 hgrow hat hown' hlos
      go_wp2
      go_ret
      refine ⟨⟨_, rfl, ?_⟩, hb1⟩
      have e := HG.out
      have hsh : (s.data.toList.drop i).length < sep.data.toList.length := by rw [List.length_drop, ← Lib.size_eq, ← Lib.size_eq]; omega
      rw [pcs_short hsh, ← piece_end hfi, List.map_cons, mk_data, HQ.out, List.map_nil] at e
      rw [← e]
      exact HS1.out
end Go.Proofs.YtnbbhegcijogiaaDoor
