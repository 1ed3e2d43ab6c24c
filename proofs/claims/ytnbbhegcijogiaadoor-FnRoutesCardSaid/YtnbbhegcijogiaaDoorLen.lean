import Derived.Test.YtnbbhegcijogiaaDoorOwn
import Derived.Test.YtnbbhegcijogiaaDoorPcs
import Derived.Test.YtnbbhegcijogiaaDoorSts
import Derived.Test.YtnbbhegcijogiaaDoorShelf
import Derived.Deep.AppendLies
import Derived.HandedShaped
namespace Go.Proofs.YtnbbhegcijogiaaDoor
open Go.ChangeShapes Go.WideShapes Go.ChangeAt Go.RowKit
open Pcs

/-- internal/bytealg.MaxLen holds some int -/
def LenIn (w : World) : Prop := ∃ m, w.cell? ⟨1, 0, none⟩ = some (.int .i64 m)
theorem len_below {w w' : World} (h : LenIn w) (hb : Below w.heap.size w w') : LenIn w' := by
  obtain ⟨m, hm⟩ := h
  refine ⟨m, ?_⟩
  rw [hb.cell (p := ⟨1, 0, none⟩) (World.block_lt_of_cell? _ _ hm)]; exact hm

/-- a block of strings just laid is a slice of the call's own -/
theorem strs_new (w : World) (L : List ByteArray) (h : L.length ≤ maxLen) : Strs (w.alloc (.cells (L.map Value.string).toArray 9)) w.heap.size (.slice (some ⟨w.heap.size, 0, none⟩) L.length L.length) L := by
  refine ⟨by simp, .inr ⟨w.heap.size, L.length, (L.map Value.string).toArray, rfl, Nat.le_refl _, heap_alloc_new w _, Nat.le_refl _, h, by simp, ?_⟩⟩
  rw [Nat.mul_one]
  exact List.take_of_length_le (by simp)
end Go.Proofs.YtnbbhegcijogiaaDoor
