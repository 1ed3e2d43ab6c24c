import Derived.Test.YticfnfplpccmgacDoorCards
import Derived.Test.YticfnfplpccmgacDoorTie
import Derived.Test.YticfnfplpccmgacDoorCrcImpl
import Derived.Test.YticfnfplpccmgacDoorOwn
import Derived.Deep.DeepHandedRow
import Derived.Lib.LaidTab
namespace Go.Proofs.YticfnfplpccmgacDoor
open Go.ChangeShapes Go.WideShapes Go.ChangeAt Go.RowKit

set_option maxRecDepth 100000 in
theorem gTab : Tryd.prog.globalNamed "loop.example/s01729/impl.checksumTable" = some 0 := by kernel_rfl
theorem gTabType : (Tryd.prog.globals[0]?).map (·.type) = some 55 := by kernel_rfl
theorem cellsTab : Tryd.prog.cellsOf 55 = 16 := by kernel_rfl
set_option maxRecDepth 100000 in
theorem cellsU32 : Tryd.prog.cellsOf 49 = 1 := by kernel_rfl

theorem tab_cast (i : Nat) : (Crc.tabL.map fun n : Nat => (n : Int)).getD i 0 = (Crc.tab i : Int) := by
  unfold Crc.tab
  generalize Crc.tabL = l
  rw [List.getD_eq_getElem?_getD, List.getD_eq_getElem?_getD, List.getElem?_map]
  cases l[i]? <;> rfl

set_option maxRecDepth 100000 in
/-- what a row's list gives: the table's cells -/
theorem tableIn {W : World} (h : laidMetH Tryd.prog [("loop.example/s01729/impl.checksumTable", Rows.laid_loop_example_s01729_impl_checksumTable)] W) : TabIn W := by
  have ht : Lib.TabIs Tryd.prog W "loop.example/s01729/impl.checksumTable" .u32 (Crc.tabL.map fun n : Nat => (n : Int)) :=
    Lib.tabIs_of_head (rest := []) gTab gTabType Tryd.underlying55 Tryd.underlying49 cellsU32 cellsTab h
  intro i hi
  have h1 := ht.cell gTab i (by simpa [Crc.tabL] using hi)
  rw [tab_cast] at h1
  exact h1

set_option maxRecDepth 100000 in
/-- one named variable: one datum -/
theorem vars_one {H : Type} {enc : TypeId × Value → H} {W : World} {n : String} {gs : List (DataW H)} {q : List MemPlace} {sp : Nat → Bool} (hV : DataW.TrodVars enc Tryd.prog W sp [n] gs q) : ∃ g, gs = [g] := by
  match gs, hV with
  | [g], _ => exact ⟨g, rfl⟩
  | [], h => exact h.elim
  | _ :: _ :: _, h => obtain ⟨_, _, _, _, _, _, _, _, _, _, hs, _⟩ := h; exact hs.elim

/-- a world in which the table holds what its text lays: for the witness -/
def laidOver (w : World) : World :=
  { w with heap := w.heap.modify 0 fun
      | .cells _ t frozen => .cells (Crc.tabL.map fun n : Nat => Value.int .u32 (n : Int)).toArray t frozen
      | o => o }
set_option maxRecDepth 100000 in
theorem read_of {α β γ : Type} {o : Option (α × β × γ)} {a : α} {b : β} (h : o.map (fun x => (x.1, x.2.1)) = some (a, b)) : ∃ c, o = some (a, b, c) := by
  obtain ⟨⟨a', b', c⟩, h1, h2⟩ := Option.map_eq_some_iff.1 h
  simp only [Prod.mk.injEq] at h2
  obtain ⟨rfl, rfl⟩ := h2
  exact ⟨c, h1⟩
end Go.Proofs.YticfnfplpccmgacDoor
