import Derived.Test.YthblkfdgibonbaaByt
import Derived.Test.YthblkfdgibonbaaShelf
import Derived.Laws.RangeAny
import Derived.Laws.Runes
import Derived.Shelf.Strings.IndexAnyAll
import Derived.Deep.LoopGhost
namespace Go.Proofs.Ythblkfdgibonbaa
open Go.ChangeShapes Go.WideShapes Go.ChangeAt Go.RowKit
open Pcs

theorem decode_skip (s : ByteArray) (pos : Nat) (h : pos < s.size) (ha : 128 ≤ (s[pos]'h).toNat) :
    128 ≤ (Utf8.decode s pos).1 ∧ 1 ≤ (Utf8.decode s pos).2 ∧ pos + (Utf8.decode s pos).2 ≤ s.size ∧ ∀ k, pos ≤ k → k < pos + (Utf8.decode s pos).2 → 128 ≤ byteOf s k := by
  have hg : ∀ k, pos + k < s.size → (s.get! (pos + k)).toNat = byteOf s (pos + k) := by
    intro k hk
    rw [byteOf_eq s _ hk]
    simp [ByteArray.get!, getElem!_pos, hk]
    rfl
  have h0 : (s.get! (pos + 0)).toNat = byteOf s pos := hg 0 h
  have hb0 : 128 ≤ byteOf s pos := by rw [byteOf_eq s pos h]; exact ha
  have g0 : ¬ (s.get! (pos + 0)).toNat < 128 := by omega
  obtain ⟨d1, d2⟩ := decode_high s pos h ha
  refine ⟨d1, d2, ?_⟩
  have key : (Utf8.decode s pos).2 = 1 ∨ ((Utf8.decode s pos).2 = 2 ∧ pos + 1 < s.size ∧ 128 ≤ byteOf s (pos + 1)) ∨ ((Utf8.decode s pos).2 = 3 ∧ pos + 2 < s.size ∧ 128 ≤ byteOf s (pos + 1) ∧ 128 ≤ byteOf s (pos + 2)) ∨ ((Utf8.decode s pos).2 = 4 ∧ pos + 3 < s.size ∧ 128 ≤ byteOf s (pos + 1) ∧ 128 ≤ byteOf s (pos + 2) ∧ 128 ≤ byteOf s (pos + 3)) := by
    have c : ∀ k, (decide (pos + k < s.size) && (s.get! (pos + k)).toNat / 64 == 2) = true → pos + k < s.size ∧ 128 ≤ byteOf s (pos + k) := by
      intro k hk
      simp only [Bool.and_eq_true, decide_eq_true_eq, beq_iff_eq] at hk
      have := hg k hk.1
      omega
    simp only [Utf8.decode, g0, if_false]
    split
    · rename_i h1
      simp only [Bool.and_eq_true] at h1
      have := c 1 (by simpa using h1.2)
      split
      · right; left; exact ⟨rfl, this.1, this.2⟩
      · left; rfl
    · split
      · rename_i h1
        simp only [Bool.and_eq_true] at h1
        have t1 := c 1 (by simpa using h1.1.2)
        have t2 := c 2 (by simpa using h1.2)
        split
        · right; right; left; exact ⟨rfl, t2.1, t1.2, t2.2⟩
        · left; rfl
      · split
        · rename_i h1
          simp only [Bool.and_eq_true] at h1
          have t1 := c 1 (by simpa using h1.1.1.2)
          have t2 := c 2 (by simpa using h1.1.2)
          have t3 := c 3 (by simpa using h1.2)
          split
          · right; right; right; exact ⟨rfl, t3.1, t1.2, t2.2, t3.2⟩
          · left; rfl
        · left; rfl
  rcases key with e | ⟨e, q1, q2⟩ | ⟨e, q1, q2, q3⟩ | ⟨e, q1, q2, q3, q4⟩ <;> rw [e]
  · refine ⟨by omega, fun k k1 k2 => ?_⟩
    obtain rfl : k = pos := by omega
    exact hb0
  · refine ⟨by omega, fun k k1 k2 => ?_⟩
    rcases (show k = pos ∨ k = pos + 1 by omega) with rfl | rfl
    · exact hb0
    · exact q2
  · refine ⟨by omega, fun k k1 k2 => ?_⟩
    rcases (show k = pos ∨ k = pos + 1 ∨ k = pos + 2 by omega) with rfl | rfl | rfl
    · exact hb0
    · exact q2
    · exact q3
  · refine ⟨by omega, fun k k1 k2 => ?_⟩
    rcases (show k = pos ∨ k = pos + 1 ∨ k = pos + 2 ∨ k = pos + 3 by omega) with rfl | rfl | rfl | rfl
    · exact hb0
    · exact q2
    · exact q3
    · exact q4

end Go.Proofs.Ythblkfdgibonbaa
