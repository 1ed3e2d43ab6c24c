import Derived.Test.YtnbbhegcijogiaaDoorOwn
import Derived.WalkKit
import Derived.ProofKit
import Derived.WalkLawsBesides
import Derived.Laws.IdiomStrings
import Derived.Lib.ConvBytes
namespace Go.Proofs.YtnbbhegcijogiaaDoor
open Go.ChangeShapes Go.WideShapes Go.ChangeAt Go.RowKit

/-- block g begins with the bytes L, none of them frozen -/
structure BytsAt (w : World) (g : Nat) (L : List UInt8) : Prop where
  ex : ∃ C : Array Value, w.heap[g]? = some (.cells C 5 (C.size, C.size + 1)) ∧ L.length ≤ C.size ∧ ∀ j (h : j < L.length), C[j]? = some (.int .u8 (L[j].toNat : Int))
theorem BytsAt.cell {w : World} {g : Nat} {L : List UInt8} (h : BytsAt w g L) (j : Nat) (hj : j < L.length) : w.cell? ⟨g, j, none⟩ = some (.int .u8 (L[j].toNat : Int)) := by
  obtain ⟨C, h1, h2, h3⟩ := h.ex
  unfold World.cell?
  rw [h1]; exact h3 j hj
theorem BytsAt.free {w : World} {g : Nat} {L : List UInt8} (h : BytsAt w g L) (j : Nat) (hj : j < L.length) : w.frozen? ⟨g, j, none⟩ = false := by
  obtain ⟨C, h1, h2, h3⟩ := h.ex
  unfold World.frozen?
  rw [h1]
  show (decide (C.size ≤ j) && decide (j < C.size + 1)) = false
  have : decide (C.size ≤ j) = false := decide_eq_false (by omega)
  rw [this]; rfl
theorem BytsAt.set {w : World} {g : Nat} {L : List UInt8} (h : BytsAt w g L) (j : Nat) (hj : j < L.length) (c : UInt8) : BytsAt (w.setCell ⟨g, j, none⟩ (.int .u8 (c.toNat : Int))) g (L.set j c) := by
  obtain ⟨C, h1, h2, h3⟩ := h.ex
  refine ⟨⟨C.setIfInBounds j (.int .u8 (c.toNat : Int)), ?_, by simpa using h2, fun i hi => ?_⟩⟩
  · simp only [World.setCell, Array.getElem?_modify]
    rw [h1]
    simp
  · simp at hi
    rw [List.getElem_set]
    by_cases e : j = i
    · subst e
      rw [if_pos rfl, Array.getElem?_setIfInBounds_self_of_lt (by omega)]
    · rw [if_neg e, Array.getElem?_setIfInBounds_ne e]
      exact h3 i hi
theorem bytsNew (w : World) (s : ByteArray) : BytsAt (Lib.bytesWorld w 5 s) w.heap.size s.data.toList := by
  refine ⟨⟨_, Lib.bytesWorld_at_new w _ s, ?_, fun j hj => ?_⟩⟩
  · simp [Lib.bytesCells]
  · have hj' : j < s.data.size := by simpa using hj
    unfold Lib.bytesCells
    rw [Array.getElem?_append_left (by simpa using hj')]
    simp only [Array.getElem?_map, Array.getElem?_eq_getElem hj', Option.map_some, Array.getElem_toList]
theorem bytsBelow (w : World) (s : ByteArray) : Below w.heap.size w (Lib.bytesWorld w 5 s) :=
  ⟨rfl, rfl, rfl, by rw [Lib.bytesWorld_size]; omega, fun k hk => Lib.bytesWorld_at_old w _ s k hk⟩
theorem bytsBack (w : World) (g cap n : Nat) (l : List UInt8) (hn : l.length = n) (h : BytsAt w g l) :
    (convert 22 9 (.slice (some ⟨g, 0, none⟩) n cap)).run Tryd.prog w = .ok (.string ⟨l.toArray⟩) w := by
  subst hn
  exact run_convert_bytes_back (P := Tryd.prog) w _ _ _ _ cap l Tryd.underlying22 Tryd.underlying5 Tryd.underlying9 fun j hj => by
    have := h.cell j hj
    rw [add_plain, Nat.zero_add]; exact this

end Go.Proofs.YtnbbhegcijogiaaDoor
