import Derived.Test.YtncgihalaflpaaaDoorByt
import Derived.Test.YtncgihalaflpaaaDoorDom
namespace Go.Proofs.YtncgihalaflpaaaDoor
open Go.ChangeShapes Go.WideShapes Go.ChangeAt Go.RowKit

/-- what of the tables of folds is looked at -/
structure FoldTab (w : World) : Prop where
  a83 : w.cell? ⟨1, 83, none⟩ = some (.int .u16 115)
  a115 : w.cell? ⟨1, 115, none⟩ = some (.int .u16 383)
  a73 : w.cell? ⟨1, 73, none⟩ = some (.int .u16 105)
  a105 : w.cell? ⟨1, 105, none⟩ = some (.int .u16 73)
  a90 : w.cell? ⟨1, 90, none⟩ = some (.int .u16 122)
  a122 : w.cell? ⟨1, 122, none⟩ = some (.int .u16 90)
  a69 : w.cell? ⟨1, 69, none⟩ = some (.int .u16 101)
  a101 : w.cell? ⟨1, 101, none⟩ = some (.int .u16 69)
  orb : ∃ b off cap, w.cell? ⟨2, 0, none⟩ = some (.slice (some ⟨b, off, none⟩) 94 cap) ∧ w.cell? ⟨b, off + 94, none⟩ = some (.int .u16 966) ∧ w.cell? ⟨b, off + 46, none⟩ = some (.int .u16 837) ∧ w.cell? ⟨b, off + 22, none⟩ = some (.int .u16 452) ∧ w.cell? ⟨b, off + 10, none⟩ = some (.int .u16 197) ∧ w.cell? ⟨b, off + 16, none⟩ = some (.int .u16 304) ∧ w.cell? ⟨b, off + 20, none⟩ = some (.int .u16 383) ∧ w.cell? ⟨b, off + 18, none⟩ = some (.int .u16 305) ∧ w.cell? ⟨b, off + 21, none⟩ = some (.int .u16 83)
theorem cell_kept {w w1 : World} {b i : Nat} {v : Value} (hb : Below w.heap.size w w1) (h : w.cell? ⟨b, i, none⟩ = some v) : w1.cell? ⟨b, i, none⟩ = some v := (hb.cell (p := ⟨b, i, none⟩) (World.block_lt_of_cell? w ⟨b, i, none⟩ h)).trans h
theorem FoldTab.below {w w1 : World} (h : FoldTab w) (hb : Below w.heap.size w w1) : FoldTab w1 := by
  obtain ⟨b, off, cap, o0, o1, o2, o3, o4, o5, o6, o7, o8⟩ := h.orb
  exact ⟨cell_kept hb h.a83, cell_kept hb h.a115, cell_kept hb h.a73, cell_kept hb h.a105, cell_kept hb h.a90, cell_kept hb h.a122, cell_kept hb h.a69, cell_kept hb h.a101, b, off, cap, cell_kept hb o0, cell_kept hb o1, cell_kept hb o2, cell_kept hb o3, cell_kept hb o4, cell_kept hb o5, cell_kept hb o6, cell_kept hb o7, cell_kept hb o8⟩

set_option maxHeartbeats 1000000 in
set_option maxRecDepth 100000 in
theorem foldA (r f : Nat) (w : World) (hr : r < 128) (hf : f < 65536) (h : w.cell? ⟨1, r, none⟩ = some (.int .u16 (f : Int))) :
    Calls Tryd.prog 68 #[.int .i32 (r : Int)] w fun e w' => e = .returned (.int .i32 (f : Int)) ∧ w' = w := by
  have h1 : ¬ (r : Int) < 0 := by omega
  have h2 : ¬ (1114111 : Int) < (r : Int) := by omega
  have h3 : (r : Int) < 128 := by omega
  go_enter Tryd.func68, Tryd.ntmps68
  go_wp2
  go_ret
  exact ⟨rfl, rfl⟩

set_option maxHeartbeats 2000000 in
set_option maxRecDepth 100000 in
theorem foldO (w : World) (h : FoldTab w) :
    Calls Tryd.prog 68 #[.int .i32 383] w fun e w' => e = .returned (.int .i32 83) ∧ w' = w := by
  obtain ⟨b, off, cap, o0, o1, o2, o3, o4, o5, o6, o7, o8⟩ := h.orb
  clear h
  go_enter Tryd.func68, Tryd.ntmps68
  go_wp2
  refine wp_loop_rounds 8 ?_
  iterate 8
    rw [rounds_succ]
    go_wp2
  go_ret
  exact ⟨rfl, rfl⟩
end Go.Proofs.YtncgihalaflpaaaDoor
