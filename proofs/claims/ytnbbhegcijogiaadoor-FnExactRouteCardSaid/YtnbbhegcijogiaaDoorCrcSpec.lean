import Derived.Test.YtnbbhegcijogiaaDoorOwn
import Derived.Test.YtnbbhegcijogiaaDoorRows
import Derived.Test.YtnbbhegcijogiaaDoorCrc
import Derived.WalkKit
import Derived.ProofKit
import Derived.WalkLawsBesides
import Derived.Laws.BitsAllLaws
namespace Go.Proofs.YtnbbhegcijogiaaDoor
open Go.ChangeShapes Go.WideShapes Go.ChangeAt Go.RowKit


set_option maxRecDepth 100000 in
theorem xor_byte (a : Nat) (b : UInt8) (ha : a < 4294967296) : bits BinOp.xor IntKind.u32 (a : Int) ((b.toNat : Int) % 4294967296) = ((a ^^^ b.toNat : Nat) : Int) := by
  have hb := Crc.byte_lt b
  have e : (b.toNat : Int) % 4294967296 = (b.toNat : Int) := by omega
  rw [e]; exact u32_xor_nat a b.toNat ha hb
set_option maxRecDepth 100000 in
theorem bit_odd (X : Nat) (hX : X < 4294967296) (hp : ((X : Int) % 2 == 1) = true) : bits BinOp.xor IntKind.u32 ((X : Int) / 2) 3988292384 = ((Crc.bit X : Nat) : Int) := by
  have hm : X % 2 = 1 := by simp at hp; omega
  have e : (X : Int) / 2 = ((X / 2 : Nat) : Int) := by omega
  rw [e, show Crc.bit X = X / 2 ^^^ 3988292384 by simp [Crc.bit, hm]]
  exact u32_xor_nat (X / 2) 3988292384 (by omega) (by decide)
set_option maxRecDepth 100000 in
theorem bit_pair (X : Nat) (hp : ¬ ((X : Int) % 2 == 1) = true) : (X : Int) / 2 = ((Crc.bit X : Nat) : Int) := by
  have hm : ¬ X % 2 = 1 := by simp at hp; omega
  rw [show Crc.bit X = X / 2 by simp [Crc.bit]; omega]; omega

set_option maxHeartbeats 400000 in
set_option maxRecDepth 100000 in
theorem specCrc (s : ByteArray) (w : World) (hs : s.size ≤ maxLen) :
    Calls Tryd.prog 47 #[.string s] w fun e w' => e = .returned (.int .u32 (Crc.crc s.data.toList)) ∧ w' = w := by
  unfold maxLen at hs
  go_enter Tryd.func47, Tryd.ntmps47
  go_wp2
  go_loop [3, 4, 5] (fun r i _ => ∃ k : Nat, k ≤ s.size ∧ i = .int .i64 k ∧ r = .int .u32 (Crc.reg (s.data.toList.take k))) (fun _ i _ => s.size - (intOf i).toNat)
  case atStart => exact ⟨0, Nat.zero_le _, rfl, rfl⟩
  case round =>
    obtain ⟨k, hk, rfl, rfl⟩ := hrel
    have hr := Crc.reg_lt (s.data.toList.take k)
    by_cases hlt : k < s.size
    · go_wp2
      rw [xor_byte _ _ hr]
      have hx := Crc.xor_lt hr (Crc.byte_lt s[k])
      have HS : Hid (Crc.reg (s.data.toList.take (k + 1)) = Crc.bitN 8 (Crc.reg (s.data.toList.take k) ^^^ s[k].toNat)) := Crc.reg_take s k hlt
      generalize Crc.reg (s.data.toList.take k) ^^^ s[k].toNat = R at hx HS ⊢
      go_loop [3, 5] (fun r i => ∃ j : Nat, j ≤ 8 ∧ i = .int .i64 j ∧ r = .int .u32 (Crc.bitN j R)) (fun _ i => 8 - (intOf i).toNat)
      case atStart => exact ⟨0, Nat.zero_le _, rfl, rfl⟩
      case round =>
        obtain ⟨j, hj, rfl, rfl⟩ := hrel
        have hX := Crc.bitN_lt hx j
        have HB : Hid (Crc.bitN (j + 1) R = Crc.bit (Crc.bitN j R)) := rfl
        by_cases hj8 : j < 8
        · generalize Crc.bitN j R = X at hX HB ⊢
          by_cases hp : ((X : Int) % 2 == 1) = true
          · go_wp2
            go_round
            case rel => exact ⟨j + 1, by omega, by go_num, int_eq (by rw [HB.out]; exact bit_odd X hX hp)⟩
            case measure => simp [intOf]; omega
          · go_wp2
            go_round
            case rel => exact ⟨j + 1, by omega, by go_num, int_eq (by rw [HB.out]; exact bit_pair X hp)⟩
            case measure => simp [intOf]; omega
        · obtain rfl : j = 8 := by omega
          go_wp2
          go_round
          case rel => exact ⟨k + 1, by omega, by go_num, int_eq (by rw [HS.out])⟩
          case measure => simp [intOf]; omega
    · go_wp2
      go_ret
      refine ⟨ret_int ?_, rfl⟩
      rw [List.take_of_length_le (by simp; omega)]
      exact u32_xor_nat _ 4294967295 (Crc.reg_lt _) (by decide)
end Go.Proofs.YtnbbhegcijogiaaDoor
