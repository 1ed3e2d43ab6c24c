import Derived.Test.YticfnfplpccmgadDoorSpSpl
namespace Go.Proofs.YticfnfplpccmgadDoor
open Go.ChangeShapes Go.WideShapes Go.ChangeAt Go.RowKit
open Pcs

theorem occ_false_far {s p : List UInt8} {j : Nat} (hp : p ≠ []) (h : s.length < j + p.length) : Lib.occAt s p j = false := by
  rw [Bool.eq_false_iff]; intro e
  rcases Lib.occAt_room e with h1 | h1
  · omega
  · exact hp h1
set_option maxHeartbeats 1000000 in
set_option maxRecDepth 100000 in
theorem lawAt (s sep : ByteArray) (w : World) (hs : s.size ≤ 1048576) (h1 : 1 ≤ sep.size) (h2 : sep.size ≤ 1048576) :
    Calls Tryd.prog 13 #[.string s, .string sep, .int .i64 0] w fun e w' => e = .returned (.int .i64 (Lib.index s.data.toList sep.data.toList)) ∧ Below w.heap.size w w' := by
  have hne : sep.data.toList ≠ [] := ne_nil h1
  go_enter Tryd.func13, Tryd.ntmps13
  go_wp2
  go_loop [7] (fun iv => ∃ i : Nat, i ≤ s.size ∧ iv = .int .i64 i ∧ Hid (∀ j, j < i → Lib.occAt s.data.toList sep.data.toList j = false)) (fun iv => s.size - (intOf iv).toNat)
  case atStart => exact ⟨0, Nat.zero_le _, rfl, fun j hj => absurd hj (Nat.not_lt_zero _)⟩
  case round =>
    obtain ⟨i, hi, rfl, HN⟩ := hrel
    by_cases hA : i + sep.size ≤ s.size
    · have hAi : (i : Int) + sep.size ≤ s.size := by omega
      have hpt := pre_take hA
      have htn : ((i : Int) + (sep.size : Int)).toNat = i + sep.size := by omega
      have hsl0 : ∀ wx, (Instr.slice 9 (.string s) (some (.int .i64 (i : Int))) (some (.int .i64 ((i : Int) + (sep.size : Int)))) none).run Tryd.prog wx = .ok (.string (s.extract i (i + sep.size))) wx := by
        intro wx
        rw [run_slice_string wx 9 s .i64 .i64 i ((i : Int) + (sep.size : Int)) Tryd.underlying9 (by omega) (by omega) (by omega), htn]
        rfl
      by_cases hp : sep.data.toList.isPrefixOf (s.data.toList.drop i) = true
      · rw [hp] at hpt
        have G : Hid (Lib.index s.data.toList sep.data.toList = (i : Int)) := Lib.index_first (by rw [← Lib.size_eq]; omega) hp HN.out
        clear hp
        go_wp2
        go_ret
        exact ⟨by rw [G.out]; rfl, Below.refl _ _⟩
      · rw [Bool.not_eq_true] at hp
        rw [hp] at hpt
        have G : Hid (∀ j, j < i + 1 → Lib.occAt s.data.toList sep.data.toList j = false) := by
          intro j hj
          by_cases e : j = i
          · rw [e]; exact hp
          · exact HN.out j (by omega)
        clear hp
        go_wp2
        go_round
        case rel => exact ⟨i + 1, by omega, by go_num, G⟩
        case measure => simp [intOf]; omega
    · have G : Hid (Lib.index s.data.toList sep.data.toList = -1) := Lib.index_none fun j _ => by
        by_cases hj : j < i
        · exact HN.out j hj
        · exact occ_false_far hne (by rw [← Lib.size_eq, ← Lib.size_eq]; omega)
      go_wp2
      go_ret
      exact ⟨by rw [G.out]; rfl, Below.refl _ _⟩
end Go.Proofs.YticfnfplpccmgadDoor
