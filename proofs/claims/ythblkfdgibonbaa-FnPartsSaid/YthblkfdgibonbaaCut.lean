import Derived.Test.YthblkfdgibonbaaLen
import Derived.Shelf.Strings.Cut
namespace Go.Proofs.Ythblkfdgibonbaa
open Go.ChangeShapes Go.WideShapes Go.ChangeAt Go.RowKit
open Pcs

/-- what strings.Cut answers -/
def CutIs (s sep a b : ByteArray) (f : Bool) : Prop := mk (Lib.cut s.data.toList sep.data.toList).1 = a ∧ mk (Lib.cut s.data.toList sep.data.toList).2.1 = b ∧ (Lib.cut s.data.toList sep.data.toList).2.2 = f
theorem cut_size1 (s sep : ByteArray) : (mk (Lib.cut s.data.toList sep.data.toList).1).size ≤ s.size := by
  unfold Lib.cut; split
  · rw [mk_size, List.length_take, Lib.size_eq]; omega
  · rw [mk_size, Lib.size_eq]; exact Nat.le_refl _
theorem cut_size2 (s sep : ByteArray) : (mk (Lib.cut s.data.toList sep.data.toList).2.1).size ≤ s.size := by
  unfold Lib.cut; split
  · rw [mk_size, List.length_drop, Lib.size_eq]; omega
  · rw [mk_size]; exact Nat.zero_le _
theorem implCut (s sep : ByteArray) (w : World) (hl : LenIn w) (hs : s.size ≤ 1048576) :
    Calls Try.prog 44 #[.string s, .string sep] w fun e w' => ∃ (a b : ByteArray) (f : Bool) (n : Nat), e = .returned (.tuple #[.string a, .string b, .bool f]) ∧ w' = w.drewN n ∧ Hid (CutIs s sep a b f) ∧ a.size ≤ s.size ∧ b.size ≤ s.size := by
  obtain ⟨m, hm⟩ := hl
  refine (Any.strings_Cut Try.lays145 s sep m w (by omega) hm).mono ?_
  rintro e w' ⟨rfl, n, rfl⟩
  exact ⟨_, _, _, n, rfl, rfl, ⟨rfl, rfl, rfl⟩, cut_size1 s sep, cut_size2 s sep⟩
theorem cut_cases {s sep a b : ByteArray} {f : Bool} (h : CutIs s sep a b f) : (f = false ∧ Lib.index s.data.toList sep.data.toList = -1) ∨ (f = true ∧ ∃ i : Nat, Lib.index s.data.toList sep.data.toList = i ∧ mk (s.data.toList.take i) = a) := by
  obtain ⟨h1, _, h3⟩ := h
  have hg := Lib.index_ge s.data.toList sep.data.toList
  unfold Lib.cut at h1 h3
  split at h3
  · rename_i hp
    right
    rw [if_pos hp] at h1
    exact ⟨h3.symm, (Lib.index s.data.toList sep.data.toList).toNat, by omega, h1⟩
  · left
    exact ⟨h3.symm, by omega⟩
end Go.Proofs.Ythblkfdgibonbaa
