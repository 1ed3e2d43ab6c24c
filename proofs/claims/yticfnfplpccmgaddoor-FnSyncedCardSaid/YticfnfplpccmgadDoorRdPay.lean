import Derived.Test.YticfnfplpccmgadDoorRdSome
import Derived.Test.YticfnfplpccmgadDoorRdFill
namespace Go.Proofs.YticfnfplpccmgadDoor
open Go.ChangeShapes Go.WideShapes Go.ChangeAt Go.RowKit

/-- a payload that is drawn -/
def payB (B : List UInt8) (p : Nat) : ByteArray := if 253 ≤ nx B p then ofInts (fillL (8000 + nx B p - 254)) else someB B (px B p) 20
def payP (B : List UInt8) (p : Nat) : Nat := if 253 ≤ nx B p then px B p else someP B (px B p) 20
set_option maxRecDepth 100000 in
theorem payB_size (B : List UInt8) (p : Nat) : (payB B p).size ≤ 8001 := by
  have h := nx_lt B p
  unfold payB
  split
  · rw [fill_size]; omega
  · have := someB_size B (px B p) 20; omega

set_option maxRecDepth 100000 in
set_option maxHeartbeats 1000000 in
set_option maxRecDepth 100000 in
theorem rdPay (b p : Nat) (cv : Value) (B : List UInt8) (w : World) (h : RdAt w b cv B p) :
    Calls Tryd.prog 53 #[.pointer (some ⟨b, 0, none⟩)] w fun e w' => e = .returned (.string (payB B p)) ∧ RdAt w' b cv B (payP B p) ∧ Off b w w' := by
  go_enter Tryd.func53, Tryd.ntmps53
  go_wp2_with fail
  refine (rdNext b p cv B _ h).mono ?_
  rintro e w1 ⟨rfl, h1, ho1⟩
  have HR : Hid (RdAt w1 b cv B (px B p)) := h1
  have hn := nx_lt B p
  clear h h1
  by_cases hc : 253 ≤ nx B p
  · have hci : (253 : Int) ≤ (nx B p : Int) := by omega
    go_wp2_with fail
    obtain ⟨N, HN, hN1⟩ : ∃ N : Nat, Hid (N = 8000 + nx B p - 254) ∧ N ≤ 10000 := ⟨_, rfl, by omega⟩
    have ea : (8000 : Int) + (nx B p : Int) - 254 = (N : Int) := by have := HN.out; omega
    rw [ea]
    refine (fill N _ hN1).mono ?_
    rintro e w2 ⟨rfl, hb2⟩
    go_wp2
    go_ret
    refine ⟨ret_str (by rw [payB, if_pos hc, ← HN.out]), ?_, ho1.trans (Off.of_below hb2)⟩
    rw [payP, if_pos hc]
    exact HR.out.below hb2 (Nat.le_refl _)
  · have hci : (nx B p : Int) < 253 := by omega
    go_wp2_with fail
    refine (rdSome b (px B p) 20 cv B _ HR.out (by decide)).mono ?_
    rintro e w2 ⟨rfl, h2, ho2⟩
    go_wp2
    go_ret
    refine ⟨ret_str (by rw [payB, if_neg hc]), ?_, ho1.trans ho2⟩
    rw [payP, if_neg hc]
    exact h2
end Go.Proofs.YticfnfplpccmgadDoor
