import Derived.Test.YtnbbhegcijogiaaDoorOwn
import Derived.WalkKit
import Derived.ProofKit
import Derived.WalkLawsBesides
import Derived.Deep.QuietTactic
import Derived.BigQuiet
import Derived.Deep.AppendLies
import Derived.Deep.RegionWith
import Derived.Deep.DrawnRows
import Derived.Laws.IdiomStrings
namespace Go.Proofs.YtnbbhegcijogiaaDoor
open Go.ChangeShapes Go.WideShapes Go.ChangeAt Go.RowKit

/-- a block that holds X, free to be written to -/
structure Blk (b : Nat) (X : Array Value) (w : World) : Prop where
  lt : b < w.heap.size
  cell : ∀ i, w.cell? ⟨b, i, none⟩ = X[i]?
  free : ∀ o, w.frozen? ⟨b, o, none⟩ = false
theorem Blk.below {b : Nat} {X : Array Value} {w w1 : World} (h : Blk b X w) (hb : Below w.heap.size w w1) : Blk b X w1 :=
  ⟨Nat.lt_of_lt_of_le h.lt hb.size, fun i => (hb.cell (p := ⟨b, i, none⟩) h.lt).trans (h.cell i), fun o => (hb.frozen (p := ⟨b, o, none⟩) h.lt).trans (h.free o)⟩
theorem Blk.other {b k i : Nat} {X : Array Value} {w : World} {v : Value} (h : Blk b X w) (hne : b ≠ k) : Blk b X (w.setCell ⟨k, i, none⟩ v) :=
  ⟨by simpa using h.lt, fun j => (World.cell?_setCell_other _ _ _ _ (by intro e; injection e with e; exact hne e.symm)).trans (h.cell j), fun o => by rw [World.frozen?_setCell]; exact h.free o⟩
theorem Blk.set {b i : Nat} {X : Array Value} {w : World} {v : Value} (h : Blk b X w) (hi : i < X.size) : Blk b (X.set i v hi) (w.setCell ⟨b, i, none⟩ v) := by
  refine ⟨by simpa using h.lt, fun j => ?_, fun o => by rw [World.frozen?_setCell]; exact h.free o⟩
  by_cases e : j = i
  · subst e
    rw [World.cell?_setCell_same _ _ _ (u := X[j]) ((h.cell j).trans (Array.getElem?_eq_getElem hi))]
    simp
  · rw [World.cell?_setCell_other _ _ _ _ (by intro e2; injection e2 with _ e2; exact e e2.symm), h.cell j, Array.getElem?_set_ne _ (fun e2 => e e2.symm)]
theorem Blk.new (w : World) (X : Array Value) (T : TypeId) : Blk w.heap.size X (w.alloc (.cells X T)) := ⟨by simp, fun i => World.cell?_alloc_mark _ _ _ _ _, fun o => World.frozen?_alloc_at _ _ _ _ rfl⟩

end Go.Proofs.YtnbbhegcijogiaaDoor
