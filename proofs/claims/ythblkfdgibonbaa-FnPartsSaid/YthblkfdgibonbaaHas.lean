import Derived.Test.YthblkfdgibonbaaByt
namespace Go.Proofs.Ythblkfdgibonbaa
open Go.ChangeShapes Go.WideShapes Go.ChangeAt Go.RowKit

/-- a byte of s is c -/
def hasN (s : ByteArray) (c : Nat) : Bool := !okAll (fun b => b != c) s
theorem has_yes {s : ByteArray} {c k : Nat} (hk : k < s.size) (h : byteOf s k = c) : hasN s c = true := by
  unfold hasN; rw [okAll_false hk (by rw [h]; simp)]; rfl
theorem has_no {s : ByteArray} {c : Nat} (h : ∀ k, k < s.size → byteOf s k ≠ c) : hasN s c = false := by
  unfold hasN; rw [okAll_true (f := fun b => b != c) fun k hk => bne_iff_ne.2 (h k hk)]; rfl

set_option maxHeartbeats 1000000 in
set_option maxRecDepth 100000 in
theorem specHas (s : ByteArray) (c : Nat) (w : World) (hs : s.size ≤ 1048576) :
    Calls Try.prog 31 #[.string s, .int .u8 (c : Int)] w fun e w' => e = .returned (.bool (hasN s c)) ∧ w' = w := by
  go_enter Try.func31, Try.ntmps31
  go_wp2
  go_loop [5] (fun i => ∃ k : Nat, k ≤ s.size ∧ i = .int .i64 k ∧ Hid (∀ j, j < k → byteOf s j ≠ c)) (fun i => s.size - (intOf i).toNat)
  case atStart => exact ⟨0, Nat.zero_le _, rfl, fun j h => absurd h (Nat.not_lt_zero _)⟩
  case round =>
    obtain ⟨k, hk, rfl, HA⟩ := hrel
    by_cases hlt : k < s.size
    · have HB : Hid (byteOf s k = s[k].toNat) := byteOf_eq s k hlt
      by_cases hc : (s[k].toNat : Int) = (c : Int)
      · have G : Hid (hasN s c = true) := has_yes hlt (by rw [HB.out]; omega)
        go_wp2
        go_ret
        exact ⟨ret_bool G.out.symm, rfl⟩
      · have hcb : ((s[k].toNat : Int) == (c : Int)) = false := beq_eq_false_iff_ne.2 hc
        have G : Hid (∀ j, j < k + 1 → byteOf s j ≠ c) := by
          intro j hj
          rcases Nat.lt_succ_iff_lt_or_eq.1 hj with hj | rfl
          · exact HA.out j hj
          · rw [HB.out]; omega
        go_wp2
        go_round
        case rel => exact ⟨k + 1, by omega, by go_num, G.out⟩
        case measure => simp [intOf]; omega
    · go_wp2
      go_ret
      exact ⟨ret_bool (has_no fun j hj => HA.out j (by omega)).symm, rfl⟩

theorem any_nat (l : List UInt8) {b : Nat} (hb : b < 256) : (!l.all fun x => x.toNat != b) = l.contains (UInt8.ofNat b) := by
  induction l with
  | nil => rfl
  | cons x l ih =>
    rw [List.all_cons, List.contains_cons, Bool.not_and, ih]
    congr 1
    rw [Bool.eq_iff_iff]
    simp only [bne, Bool.not_not, beq_iff_eq]
    constructor
    · rintro rfl; rw [UInt8.ofNat_toNat]
    · intro h
      rw [← h]; simp [UInt8.toNat_ofNat', Nat.mod_eq_of_lt hb]
end Go.Proofs.Ythblkfdgibonbaa
