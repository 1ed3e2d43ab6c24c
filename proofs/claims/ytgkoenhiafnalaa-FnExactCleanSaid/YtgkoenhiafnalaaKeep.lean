import Derived.Test.YtgkoenhiafnalaaDisk
import Derived.Deep.RegionWith
namespace Go.Proofs.Ytgkoenhiafnalaa
open Go.ChangeShapes Go.WideShapes Go.ChangeAt Go.RowKit

/-- the first n bytes: none if n is less than 0, all if it is more than there are -/
def keepB (s : ByteArray) (n : Int) : ByteArray := if n < 0 then ⟨#[]⟩ else if (s.size : Int) < n then s else s.extract 0 n.toNat

set_option maxRecDepth 100000 in
theorem keepB_neg (s : ByteArray) (n : Int) (h : n < 0) : keepB s n = ⟨#[]⟩ := by rw [keepB, if_pos h]
theorem keepB_big (s : ByteArray) (n : Int) (h0 : 0 ≤ n) (h : (s.size : Int) < n) : keepB s n = s := by rw [keepB, if_neg (by omega), if_pos h]
theorem keepB_mid (s : ByteArray) (n : Int) (h0 : 0 ≤ n) (h : n ≤ (s.size : Int)) : keepB s n = s.extract 0 n.toNat := by rw [keepB, if_neg (by omega), if_neg (by omega)]
set_option maxRecDepth 100000 in
theorem keepB_size (s : ByteArray) (n : Int) : (keepB s n).size ≤ s.size := by
  by_cases h0 : n < 0
  · rw [keepB_neg s n h0]; exact Nat.zero_le _
  · by_cases h : (s.size : Int) < n
    · rw [keepB_big s n (by omega) h]; exact Nat.le_refl _
    · rw [keepB_mid s n (by omega) (by omega), ByteArray.size_extract]; omega

set_option maxRecDepth 100000 in
theorem empty_of (s : ByteArray) (h : s.size = 0) : s = ByteArray.empty := by
  apply ByteArray.ext
  exact Array.eq_empty_of_size_eq_zero h

set_option maxHeartbeats 400000 in
set_option maxRecDepth 100000 in
theorem specKeep (s : ByteArray) (n : Int) (w : World) :
    Calls Try.prog 18 #[.string s, .int .i64 n] w fun e w' => e = .returned (.string (keepB s n)) ∧ w' = w := by
  by_cases c1 : n < 0
  · go_enter Try.func18, Try.ntmps18
    go_wp2
    go_ret
    exact ⟨ret_str (keepB_neg s n c1).symm, rfl⟩
  · by_cases c2 : (s.size : Int) < n
    · go_enter Try.func18, Try.ntmps18
      go_wp2
      go_ret
      exact ⟨ret_str (keepB_big s n c1 c2).symm, rfl⟩
    · go_enter Try.func18, Try.ntmps18
      go_wp2
      go_ret
      exact ⟨ret_str (keepB_mid s n c1 c2).symm, rfl⟩
set_option maxHeartbeats 400000 in
set_option maxRecDepth 100000 in
theorem implKeep (s : ByteArray) (n : Int) (w : World) (hs : s.size ≤ 1048576) :
    Calls Try.prog 19 #[.string s, .int .i64 n] w fun e w' => e = .returned (.string (keepB s n)) ∧ w' = w := by
  by_cases c1 : n < 0
  · go_enter Try.func19, Try.ntmps19
    go_wp2
    go_ret
    exact ⟨ret_str (keepB_neg s n c1).symm, rfl⟩
  · by_cases c2 : (s.size : Int) < n
    · go_enter Try.func19, Try.ntmps19
      go_wp2
      all_goals
        go_ret
        refine ⟨ret_str ?_, rfl⟩
      · exact (keepB_big s n c1 c2).symm
      · rw [keepB_big s n c1 c2]; exact (empty_of s (by omega)).symm
    · go_enter Try.func19, Try.ntmps19
      go_wp2
      all_goals
        go_ret
        refine ⟨ret_str ?_, rfl⟩
      · exact (keepB_mid s n c1 c2).symm
      · rw [keepB_mid s n c1 c2]; exact (empty_of _ (by rw [ByteArray.size_extract]; omega)).symm
end Go.Proofs.Ytgkoenhiafnalaa
