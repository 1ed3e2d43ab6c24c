import Derived.Test.YthblkfdgibonbaaDig
namespace Go.Proofs.Ythblkfdgibonbaa
open Go.ChangeShapes Go.WideShapes Go.ChangeAt Go.RowKit
open Pcs

set_option maxHeartbeats 1000000 in
set_option maxRecDepth 100000 in
theorem implDigits (s : ByteArray) (w : World) (hs : s.size ≤ 1048576) :
    Calls Try.prog 57 #[.string s] w fun e w' => e = .returned (.bool (okAll digN s)) ∧ w' = w := by
  go_enter Try.func57, Try.ntmps57
  go_wp2
  go_loop [6] (fun i => ∃ k : Nat, k ≤ s.size ∧ i = .int .i64 k ∧ Hid (∀ j, j < k → digN (byteOf s j) = true)) (fun i => s.size - (intOf i).toNat)
  case atStart => exact ⟨0, Nat.zero_le _, rfl, fun j h => absurd h (Nat.not_lt_zero _)⟩
  case round =>
    obtain ⟨k, hk, rfl, HA⟩ := hrel
    by_cases hlt : k < s.size
    · have HB : Hid (byteOf s k = s[k].toNat) := byteOf_eq s k hlt
      cases hd : digN s[k].toNat with
      | true =>
        have G : Hid (∀ j, j < k + 1 → digN (byteOf s j) = true) := by
          intro j hj
          rcases Nat.lt_succ_iff_lt_or_eq.1 hj with hj | rfl
          · exact HA.out j hj
          · rw [HB.out]; exact hd
        go_wp2_with (go_at_call 68; refine (implDigit _ _).mono ?_; rintro e w' ⟨rfl, rfl⟩; rw [hd])
        go_round
        case rel => exact ⟨k + 1, by omega, by go_num, G.out⟩
        case measure => simp [intOf]; omega
      | false =>
        have G : Hid (okAll digN s = false) := okAll_false hlt (by rw [HB.out]; exact hd)
        go_wp2_with (go_at_call 68; refine (implDigit _ _).mono ?_; rintro e w' ⟨rfl, rfl⟩; rw [hd])
        go_ret
        exact ⟨ret_bool G.out.symm, rfl⟩
    · go_wp2
      go_ret
      exact ⟨ret_bool (okAll_true fun j hj => HA.out j (by omega)).symm, rfl⟩

/-- what the first k digits stand for -/
def numN (s : ByteArray) : Nat → Nat
  | 0 => 0
  | k + 1 => numN s k * 10 + (byteOf s k - 48)
theorem numN_lt {s : ByteArray} : ∀ {k : Nat}, k ≤ s.size → okAll digN s = true → numN s k < 10 ^ k
  | 0, _, _ => by simp [numN]
  | k + 1, hk, h => by
    have h1 := numN_lt (s := s) (k := k) (by omega) h
    have h2 := List.all_eq_true.1 h k (List.mem_range.2 (by omega))
    simp only [digN, Bool.and_eq_true, decide_eq_true_eq] at h2
    rw [numN, Nat.pow_succ]; omega

set_option maxHeartbeats 1000000 in
set_option maxRecDepth 100000 in
theorem implNumber (s : ByteArray) (w : World) (hs : s.size ≤ 10) (hd : okAll digN s = true) :
    Calls Try.prog 28 #[.string s] w fun e w' => e = .returned (.int .i64 (numN s s.size)) ∧ w' = w := by
  have HD : Hid (okAll digN s = true) := hd
  clear hd
  go_enter Try.func28, Try.ntmps28
  go_wp2
  go_loop [3, 7] (fun nv i => ∃ k : Nat, k ≤ s.size ∧ i = .int .i64 k ∧ nv = .int .i64 (numN s k)) (fun _ i => s.size - (intOf i).toNat)
  case atStart => exact ⟨0, Nat.zero_le _, rfl, rfl⟩
  case round =>
    obtain ⟨k, hk, rfl, rfl⟩ := hrel
    have hn : numN s k < 10 ^ k := numN_lt hk HD.out
    have hp : 10 ^ k ≤ 10 ^ 10 := Nat.pow_le_pow_right (by decide) (by omega)
    have hn2 : numN s k < 10000000000 := Nat.lt_of_lt_of_le hn hp
    clear hp
    by_cases hlt : k < s.size
    · have HB : Hid (byteOf s k = s[k].toNat) := byteOf_eq s k hlt
      have h2 := List.all_eq_true.1 HD.out k (List.mem_range.2 hlt)
      rw [HB.out] at h2
      simp only [digN, Bool.and_eq_true, decide_eq_true_eq] at h2
      obtain ⟨g1, g2⟩ := h2
      have g3 : (48 : Int) ≤ s[k].toNat := by omega
      have g4 : (s[k].toNat : Int) ≤ 57 := by omega
      go_wp2
      go_round
      case rel => exact ⟨k + 1, by omega, by go_num, by rw [numN, HB.out]; go_num⟩
      case measure => simp [intOf]; omega
    · obtain rfl : k = s.size := by omega
      go_wp2
      go_ret
      exact ⟨rfl, rfl⟩
end Go.Proofs.Ythblkfdgibonbaa
