import Derived.Test.YtnbbhegcijogiaaDoorRdStr
namespace Go.Proofs.YtnbbhegcijogiaaDoor
open Go.ChangeShapes Go.WideShapes Go.ChangeAt Go.RowKit

theorem bel_drewN {B : Nat} {w wr : World} (h : Below B w wr) (n : Nat) : Below B w (wr.drewN n) := ⟨h.os, h.tape, h.output, h.size, h.block⟩
/-- one of some texts, none of them long -/
theorem pickV (L : List ByteArray) (n : Nat) (hn : ∀ x ∈ L, x.size ≤ n) (k : Nat) (hk : k < L.length) : ∃ x : ByteArray, x.size ≤ n ∧ ∀ h, (L.map Value.string)[k]'h = .string x :=
  ⟨L[k], hn _ (List.getElem_mem hk), fun h => by simp⟩
end Go.Proofs.YtnbbhegcijogiaaDoor
