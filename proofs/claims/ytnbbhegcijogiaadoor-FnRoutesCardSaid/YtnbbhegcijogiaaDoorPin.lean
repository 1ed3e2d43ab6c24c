import Derived.Test.YtnbbhegcijogiaaDoorCards
import Derived.Test.YtnbbhegcijogiaaDoorTie
import Derived.Test.YtnbbhegcijogiaaDoorOwn
import Derived.Test.YtnbbhegcijogiaaDoorSpl
import Derived.Deep.DeepHandedRow
import Derived.Lay
import Derived.HandedShaped
namespace Go.Proofs.YtnbbhegcijogiaaDoor
open Go.ChangeShapes Go.WideShapes Go.ChangeAt Go.RowKit
theorem lenIn {W : World} (h : W.ShapedOpen Tryd.prog) : LenIn W := by
  exact Tryd.laysM143.s1_3 W h
theorem read_of {α β γ : Type} {o : Option (α × β × γ)} {a : α} {b : β} (h : o.map (fun x => (x.1, x.2.1)) = some (a, b)) : ∃ c, o = some (a, b, c) := by
  obtain ⟨⟨a', b', c⟩, h1, h2⟩ := Option.map_eq_some_iff.1 h
  simp only [Prod.mk.injEq] at h2
  obtain ⟨rfl, rfl⟩ := h2
  exact ⟨c, h1⟩
end Go.Proofs.YtnbbhegcijogiaaDoor
