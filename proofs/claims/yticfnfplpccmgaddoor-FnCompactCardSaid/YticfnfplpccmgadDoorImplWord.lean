import Derived.Test.YticfnfplpccmgadDoorUnMath
import Derived.Test.YticfnfplpccmgadDoorStrs
import Derived.Laws.BitsAllLaws
namespace Go.Proofs.YticfnfplpccmgadDoor
open Go.ChangeShapes Go.WideShapes Go.ChangeAt Go.RowKit

set_option maxRecDepth 100000 in
theorem or4 (a b c d : Nat) (ha : a < 256) (hb : b < 256) (hc : c < 256) (hd : d < 256) :
    bits BinOp.or IntKind.u32 (bits BinOp.or IntKind.u32 (bits BinOp.or IntKind.u32 ((a : Int) * 16777216) ((b : Int) * 65536)) ((c : Int) * 256)) (d : Int) = ((((a * 256 + b) * 256 + c) * 256 + d : Nat) : Int) := by
  have e1 : bits BinOp.or IntKind.u32 ((a : Int) * 16777216) ((b : Int) * 65536) = ((a * 16777216 + b * 65536 : Nat) : Int) := by
    rw [show (a : Int) * 16777216 = ((a * 16777216 : Nat) : Int) by omega, show (b : Int) * 65536 = ((b * 65536 : Nat) : Int) by omega, u32_or_nat _ _ (by omega) (by omega), nat_join 24 _ _ (by omega) (by omega)]
  have e2 : bits BinOp.or IntKind.u32 ((a * 16777216 + b * 65536 : Nat) : Int) ((c : Int) * 256) = ((a * 16777216 + b * 65536 + c * 256 : Nat) : Int) := by
    rw [show (c : Int) * 256 = ((c * 256 : Nat) : Int) by omega, u32_or_nat _ _ (by omega) (by omega), nat_join 16 _ _ (by omega) (by omega)]
  have e3 : bits BinOp.or IntKind.u32 ((a * 16777216 + b * 65536 + c * 256 : Nat) : Int) (d : Int) = ((a * 16777216 + b * 65536 + c * 256 + d : Nat) : Int) := by
    rw [u32_or_nat _ _ (by omega) (by omega), nat_join 8 _ _ (by omega) (by omega)]
  rw [e1, e2, e3]; omega

set_option maxHeartbeats 1000000 in
set_option maxRecDepth 100000 in
theorem unpack (s : ByteArray) (w : World) (hs : 4 ≤ s.size) :
    Calls Tryd.prog 80 #[.string s] w fun e w' => e = .returned (.int .u32 (be4 s 0)) ∧ ∃ n, w' = w.drewN n := by
  have h0 : (0 : Int) < (s.size : Int) := by omega
  have h1 : (1 : Int) < (s.size : Int) := by omega
  have h2 : (2 : Int) < (s.size : Int) := by omega
  have h3 : (3 : Int) < (s.size : Int) := by omega
  have n0 : 0 < s.size := by omega
  have n1 : 1 < s.size := by omega
  have n2 : 2 < s.size := by omega
  have n3 : 3 < s.size := by omega
  have b0 : s[0].toNat < 256 := UInt8.toNat_lt _
  have b1 : s[1].toNat < 256 := UInt8.toNat_lt _
  have b2 : s[2].toNat < 256 := UInt8.toNat_lt _
  have b3 : s[3].toNat < 256 := UInt8.toNat_lt _
  go_enter Tryd.func80, Tryd.ntmps80
  go_wp2
  go_quiet (fail)
  go_wp2
  go_ret
  refine ⟨ret_int ?_, nq, rfl⟩
  rw [or4 _ _ _ _ b0 b1 b2 b3, be4, byteAt_eq s _ n0, byteAt_eq s _ n1, byteAt_eq s _ n2, byteAt_eq s _ n3]
end Go.Proofs.YticfnfplpccmgadDoor
