import Derived.Test.YthblkfdgibonbaaVds
import Derived.Deep.AppendLies
import Derived.Laws.MakeOwn
namespace Go.Proofs.Ythblkfdgibonbaa
open Go.ChangeShapes Go.WideShapes Go.ChangeAt Go.RowKit

def vd0 : Vd := (0, 0, ⟨#[]⟩)
def zVd : Value := .agg #[.int .i64 0, .int .i64 0, .string ⟨#[]⟩]
theorem zVd_cells : zVd.cells = #[.int .i64 0, .int .i64 0, .string ⟨#[]⟩] := rfl
theorem made_size (n : Nat) : (madeCells zVd.cells (n * 3)).size = n * 3 := size_madeCells _ _
theorem vrow_made (n : Nat) : (madeCells zVd.cells (n * 3)).toList = vrow (List.replicate n vd0) := by
  refine List.ext_getElem? fun i => ?_
  by_cases hi : i < n * 3
  · have h1 : (madeCells zVd.cells (n * 3)).toList[i]? = zVd.cells[i % 3]? := by
      have hr : i % 3 = 0 ∨ i % 3 = 1 ∨ i % 3 = 2 := by omega
      rw [Array.getElem?_toList, Array.getElem?_eq_getElem (by rw [made_size]; exact hi)]
      unfold madeCells
      rw [Array.getElem_map, Array.getElem_range, zVd_cells]
      show some ((#[.int .i64 0, .int .i64 0, .string ⟨#[]⟩] : Array Value)[i % 3]!) = _
      rcases hr with h | h | h <;> rw [h] <;> rfl
    rw [h1, zVd_cells]
    have hq : i / 3 < (List.replicate n vd0).length := by simp; omega
    obtain ⟨e0, e1, e2⟩ := vrow_get (List.replicate n vd0) (i / 3) hq
    have hv : (List.replicate n vd0)[i / 3] = vd0 := by simp
    rw [hv] at e0 e1 e2
    have hr : i % 3 = 0 ∨ i % 3 = 1 ∨ i % 3 = 2 := by omega
    rcases hr with h | h | h
    · rw [h]
      have : i = i / 3 * 3 := by omega
      conv => rhs; rw [this, e0]
      rfl
    · rw [h]
      have : i = i / 3 * 3 + 1 := by omega
      conv => rhs; rw [this, e1]
      rfl
    · rw [h]
      have : i = i / 3 * 3 + 2 := by omega
      conv => rhs; rw [this, e2]
      rfl
  · rw [List.getElem?_eq_none (by rw [Array.length_toList, made_size]; omega), List.getElem?_eq_none (by rw [vrow_len]; simp; omega)]
theorem vds_made (w : World) (n : Nat) (hn : n ≤ maxLen) : Vds (w.alloc (.cells (madeCells zVd.cells (n * 3)) 109)) w.heap.size (.slice (some ⟨w.heap.size, 0, none⟩) n n) (List.replicate n vd0) := by
  refine ⟨by rw [vrow_len]; omega, .inr ⟨w.heap.size, n, madeCells zVd.cells (n * 3), by simp, Nat.le_refl _, (MapKept.heap_alloc w _).1, by simp, hn, made_size n, ?_⟩⟩
  rw [vrow_made]
  refine List.take_of_length_le ?_
  rw [vrow_len]; simp; omega
end Go.Proofs.Ythblkfdgibonbaa
