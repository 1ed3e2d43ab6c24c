import Derived.Test.YtnbbhegcijogiaaDoorCrcSpec
namespace Go.Proofs.YtnbbhegcijogiaaDoor
open Go.ChangeShapes Go.WideShapes Go.ChangeAt Go.RowKit

/-- the checksum's table lies in its variable's cells -/
def TabIn (w : World) : Prop := ∀ i, i < 16 → w.cell? ⟨0, i, none⟩ = some (.int .u32 (Crc.tab i))

set_option maxRecDepth 100000 in
theorem and15 (X : Nat) (hX : X < 4294967296) : bits BinOp.and IntKind.u32 (X : Int) 15 = ((X % 16 : Nat) : Int) := by
  rw [← nat_mask4 X]; exact u32_and_nat X 15 hX (by decide)
theorem xor_tab (X : Nat) (hX : X < 4294967296) : bits BinOp.xor IntKind.u32 ((X : Int) / 16) (Crc.tab (X % 16)) = ((Crc.nib X : Nat) : Int) := by
  have e : (X : Int) / 16 = ((X / 16 : Nat) : Int) := by omega
  rw [e]; exact u32_xor_nat (X / 16) _ (by omega) (Crc.tab_lt _)

set_option maxHeartbeats 400000 in
set_option maxRecDepth 100000 in
theorem implCrc (s : ByteArray) (w : World) (hs : s.size ≤ maxLen) (ht : TabIn w) :
    Calls Tryd.prog 37 #[.string s] w fun e w' => e = .returned (.int .u32 (Crc.crc s.data.toList)) ∧ w' = w := by
  unfold maxLen at hs
  have HT : Hid (TabIn w) := ht
  clear ht
  go_enter Tryd.func37, Tryd.ntmps37
  go_wp2
  go_loop [3, 7] (fun r i => ∃ k : Nat, k ≤ s.size ∧ i = .int .i64 k ∧ r = .int .u32 (Crc.reg (s.data.toList.take k))) (fun _ i => s.size - (intOf i).toNat)
  case atStart => exact ⟨0, Nat.zero_le _, rfl, rfl⟩
  case round =>
    obtain ⟨k, hk, rfl, rfl⟩ := hrel
    have hr := Crc.reg_lt (s.data.toList.take k)
    by_cases hlt : k < s.size
    · have hx := Crc.xor_lt hr (Crc.byte_lt s[k])
      have h1 := xor_byte _ s[k] hr
      have HS : Hid (Crc.reg (s.data.toList.take (k + 1)) = Crc.nib (Crc.nib (Crc.reg (s.data.toList.take k) ^^^ s[k].toNat))) := by rw [← Crc.eight]; exact Crc.reg_take s k hlt
      generalize Crc.reg (s.data.toList.take k) ^^^ s[k].toNat = R at hx HS h1
      have h2 := and15 R hx
      have h3 := HT.out (R % 16) (by omega)
      have h4 := xor_tab R hx
      have hy := Crc.nib_lt hx
      generalize Crc.nib R = S at hy HS h4
      have h5 := and15 S hy
      have h6 := HT.out (S % 16) (by omega)
      have h7 := xor_tab S hy
      go_wp2
      go_round
      case rel => exact ⟨k + 1, by omega, by go_num, int_eq (by rw [HS.out])⟩
      case measure => simp [intOf]; omega
    · go_wp2
      go_ret
      refine ⟨ret_int ?_, rfl⟩
      rw [List.take_of_length_le (by simp; omega)]
      rw [show IntKind.u32.max = ((4294967295 : Nat) : Int) by decide, u32_xor_nat 4294967295 _ (by decide) (Crc.reg_lt _), Nat.xor_comm]
      rfl
end Go.Proofs.YtnbbhegcijogiaaDoor
