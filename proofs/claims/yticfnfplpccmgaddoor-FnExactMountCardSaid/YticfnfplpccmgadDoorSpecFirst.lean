import Derived.Test.YticfnfplpccmgadDoorUnMath
import Derived.Test.YticfnfplpccmgadDoorMarks
import Derived.Deep.RegionHeld3
import Derived.Deep.DrawnRows
namespace Go.Proofs.YticfnfplpccmgadDoor
open Go.ChangeShapes Go.WideShapes Go.ChangeAt Go.RowKit
attribute [local go_sem ↓] Go.wp_at_zero Go.wp_at_succ

/-- the number of the first k bytes -/
def preNum (s : ByteArray) : Nat → Nat
  | 0 => 0
  | k + 1 => preNum s k * 256 + byteAt s k
set_option maxRecDepth 100000 in
theorem preNum_lt (s : ByteArray) (k : Nat) (h : k ≤ 4) : preNum s k < 4294967296 := by
  have b := byteAt_lt s
  match k, h with
  | 0, _ => simp [preNum]
  | 1, _ => simp only [preNum]; have := b 0; omega
  | 2, _ => simp only [preNum]; have := b 0; have := b 1; omega
  | 3, _ => simp only [preNum]; have := b 0; have := b 1; have := b 2; omega
  | 4, _ => simp only [preNum]; have := b 0; have := b 1; have := b 2; have := b 3; omega
set_option maxRecDepth 100000 in
theorem preNum_four (s : ByteArray) : preNum s 4 = be4 s 0 := by simp [preNum, be4]

theorem wrap_i64 (n : Int) (h1 : -9223372036854775808 ≤ n) (h2 : n ≤ 9223372036854775807) : IntKind.i64.wrap n = n := by
  simp [IntKind.wrap, IntKind.bits, IntKind.signed]; omega

set_option maxHeartbeats 1000000 in
set_option maxRecDepth 100000 in
theorem specFirst (s : ByteArray) (w : World) (hs : s.size ≤ 1048576) :
    Calls Tryd.prog 79 #[.string s] w fun e w' => (∃ p : ByteArray, e = .returned (.tuple #[.string p, .bool (frameAt s 0).isSome]) ∧ ∀ n, frameAt s 0 = some n → p = s.extract 8 (8 + n)) ∧ Below w.heap.size w w' := by
  by_cases hA : s.size < 8
  · have hN : Hid (frameAt s 0 = none) := frameAt_short (by omega)
    go_enter Tryd.func79, Tryd.ntmps79
    go_wp2
    go_ret2
    exact ⟨⟨_, by rw [hN.out]; rfl, fun n h => by rw [hN.out] at h; cases h⟩, Below.refl _ _⟩
  · have hb4 := be4_lt s 0
    go_enter Tryd.func79, Tryd.ntmps79
    go_wp2
    go_loop [4, 5] (fun nv i => ∃ k : Nat, k ≤ 4 ∧ i = .int .i64 k ∧ nv = .int .i64 (preNum s k)) (fun _ i => 4 - (intOf i).toNat)
    case atStart => exact ⟨0, Nat.zero_le _, rfl, rfl⟩
    case round =>
      obtain ⟨k, hk, rfl, rfl⟩ := hrel
      have hp := preNum_lt s k hk
      by_cases hlt : k < 4
      · have hks : k < s.size := by omega
        have hbyte := byteAt_lt s k
        have hbt : s[k].toNat < 256 := UInt8.toNat_lt _
        have HB : Hid (byteAt s k = s[k].toNat) := byteAt_eq s k hks
        go_wp2
        go_round
        case rel => exact ⟨k + 1, by omega, by go_num, by rw [preNum, HB.out]; go_num⟩
        case measure => simp [intOf]; omega
      · obtain rfl : k = 4 := by omega
        rw [preNum_four] at *
        clear hp hk hlt
        by_cases hB : 8000 < be4 s 0
        · have hN : Hid (frameAt s 0 = none) := frameAt_long hB
          go_wp2
          go_ret2
          exact ⟨⟨_, by rw [hN.out]; rfl, fun n h => by rw [hN.out] at h; cases h⟩, Below.refl _ _⟩
        · by_cases hC : s.size < 8 + be4 s 0
          · have hN : Hid (frameAt s 0 = none) := frameAt_cut (by omega)
            have hCi : (s.size : Int) - 8 < (be4 s 0 : Int) := by omega
            go_wp2
            go_ret2
            exact ⟨⟨_, by rw [hN.out]; rfl, fun n h => by rw [hN.out] at h; cases h⟩, Below.refl _ _⟩
          · have hCi : (be4 s 0 : Int) ≤ (s.size : Int) - 8 := by omega
            have HF : Hid (((frameB (s.extract 8 (8 + be4 s 0))).toList == (s.extract 0 (8 + be4 s 0)).toList) = (frameAt s 0).isSome) := first_ok s (by omega) (by omega)
            have hBi : (be4 s 0 : Int) ≤ 8000 := by omega
            have hsl : ∀ wx, (Instr.slice 9 (.string s) (some (.int .i64 8)) (some (.int .i64 (8 + (be4 s 0 : Int)))) none).run Tryd.prog wx = .ok (.string (s.extract 8 (8 + be4 s 0))) wx := by
              intro wx
              have e : ((8 : Int) + (be4 s 0 : Int)).toNat = 8 + be4 s 0 := by omega
              rw [run_slice_string wx 9 s .i64 .i64 8 (8 + (be4 s 0 : Int)) Tryd.underlying9 (by omega) (by omega) (by omega), e]
              rfl
            have hlo : (0 : Int) ≤ 8 + (be4 s 0 : Int) := by omega
            have hhi : (8 : Int) + (be4 s 0 : Int) ≤ (s.size : Int) := by omega
            have htn : ((8 : Int) + (be4 s 0 : Int)).toNat = 8 + be4 s 0 := by omega
            have hwr : IntKind.i64.wrap (8 + (be4 s 0 : Int)) = 8 + (be4 s 0 : Int) := wrap_i64 _ (by omega) (by omega)
            have hps : (s.extract 8 (8 + be4 s 0)).size ≤ 1048576 := by rw [ByteArray.size_extract]; omega
            go_wp2_with fail
            go_region_held3 (fun _ => True) (trivial) ((go_at_call 34; refine (specFrame _ _ hps).mono ?_; rintro e w1 ⟨rfl, hb1⟩))
            clear hsl hlo hhi htn hwr hps hCi hBi
            go_wp2
            go_ret2
            refine ⟨⟨s.extract 8 (8 + be4 s 0), ?_, fun n h => ?_⟩, of_drew hb1⟩
            · rw [← HF.out]; rfl
            · rw [(frameAt_some h).2.2.1]
end Go.Proofs.YticfnfplpccmgadDoor
