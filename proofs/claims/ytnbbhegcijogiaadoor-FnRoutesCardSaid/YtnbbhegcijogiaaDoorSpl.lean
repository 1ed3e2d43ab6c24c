import Derived.Test.YtnbbhegcijogiaaDoorSpSpl
namespace Go.Proofs.YtnbbhegcijogiaaDoor
open Go.ChangeShapes Go.WideShapes Go.ChangeAt Go.RowKit
open Pcs

theorem implSplit (s sep : ByteArray) (w : World) (hl : LenIn w) (hs : s.size ≤ 1048576) (h1 : 1 ≤ sep.size) :
    Calls Tryd.prog 35 #[.string s, .string sep] w fun e w' => (∃ v, e = .returned v ∧ Strs w' w.heap.size v (pieces sep s)) ∧ Below w.heap.size w w' := by
  obtain ⟨m, hm⟩ := hl
  have hi : (Tryd.prog.info? 9).map (fun i => (i.zero, i.size, i.bytes)) = some (some (.string ByteArray.empty), 1, 16) := infoStr
  refine (Any.strings_Split Tryd.lays146 hi s sep m w (by omega) hm h1).mono ?_
  rintro e w' ⟨rfl, rfl⟩
  rw [splitB_pieces h1]
  have hlen : Lib.countB s sep + 1 = (pieces sep s).length := by rw [← splitB_pieces h1]; exact (Lib.splitB_all sep h1 0 _ s rfl).symm
  rw [hlen]
  exact ⟨⟨_, rfl, strs_new w _ (by have := pieces_len sep s; unfold maxLen; omega)⟩, below1 _ _⟩
end Go.Proofs.YtnbbhegcijogiaaDoor
