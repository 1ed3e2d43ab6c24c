import Derived.Test.YtlolnfpfipnfeaaGreatDoorMg35
import Derived.Test.YtlolnfpfipnfeaaGreatDoorMg32
namespace Go.Proofs.YtlolnfpfipnfeaaGreatDoor
open Go.ChangeShapes Go.WideShapes Go.ChangeAt Go.RowKit
open Pcs

theorem heap_newB (w : World) (X : Array Value) (T : TypeId) : (w.alloc (.cells X T)).heap[w.heap.size]? = some (.cells X T (0, 0)) := Array.getElem?_push_size
theorem blk_grown {b : Nat} {X : Array Value} {w w1 : World} {row : Option Nat} (h : Blk b X w) (hg : w.grownBy w1 row) (hne : some b ≠ row) : Blk b X w1 :=
  ⟨Nat.lt_of_lt_of_le h.lt hg.size, fun i => (World.cell?_of_block (w := w) (hg.block b h.lt hne)).trans (h.cell i), fun o => (World.frozen?_of_block (w := w) (hg.block b h.lt hne)).trans (h.free o)⟩
theorem fls_setO {w : World} {lo k i : Nat} {v : Value} {L : List Fl} (h : Fls w lo v L) (hne : ∀ g, v.ownBlock = some g → g ≠ k) (u : Value) : Fls (w.setCell ⟨k, i, none⟩ u) lo v L :=
  fls_off h ((Off.refl k w).setCell u) hne
theorem Blk.alloc {b : Nat} {X : Array Value} {w : World} (h : Blk b X w) (o : Obj) : Blk b X (w.alloc o) := h.below (below1 _ _)
theorem Blk.of_heap {b : Nat} {X : Array Value} {T : TypeId} {w : World} (h : w.heap[b]? = some (.cells X T (0, 0))) : Blk b X w :=
  ⟨(Array.getElem?_eq_some_iff.1 h).1, fun i => by rw [Lib.cell_of_heap h], fun o => Lib.frozen_of_heap h o⟩
theorem set4 {w : World} {fb N : Nat} {a0 a1 a2 a3 x0 x1 x2 x3 : Value} {T : TypeId} (h : w.heap[fb]? = some (.cells #[a0, a1, a2, a3] T (0, 0))) (hN : N ≤ fb) :
    Blk fb #[x0, x1, x2, x3] ((((w.setCell ⟨fb, 0, none⟩ x0).setCell ⟨fb, 1, none⟩ x1).setCell ⟨fb, 2, none⟩ x2).setCell ⟨fb, 3, none⟩ x3) ∧ Off fb w ((((w.setCell ⟨fb, 0, none⟩ x0).setCell ⟨fb, 1, none⟩ x1).setCell ⟨fb, 2, none⟩ x2).setCell ⟨fb, 3, none⟩ x3) ∧ Below N w ((((w.setCell ⟨fb, 0, none⟩ x0).setCell ⟨fb, 1, none⟩ x1).setCell ⟨fb, 2, none⟩ x2).setCell ⟨fb, 3, none⟩ x3) :=
  ⟨((((Blk.of_heap h).set (i := 0) (by simp)).set (i := 1) (by simp)).set (i := 2) (by simp)).set (i := 3) (by simp),
   ((((Off.refl fb w).setCell _).setCell _).setCell _).setCell _,
   (((((Below.refl N w).setCell (p := ⟨fb, 0, none⟩) hN _).setCell (p := ⟨fb, 1, none⟩) hN _).setCell (p := ⟨fb, 2, none⟩) hN _).setCell (p := ⟨fb, 3, none⟩) hN _)⟩
theorem hdr_takeB : ∀ M : List (List UInt8), ∃ k, hdrL M = flatL (M.take k)
  | [] => ⟨0, rfl⟩
  | m :: M => by
    by_cases h : m = []
    · exact ⟨0, by rw [hdrL, if_pos h]; rfl⟩
    · obtain ⟨k, hk⟩ := hdr_takeB M
      refine ⟨k + 1, ?_⟩
      rw [hdrL, if_neg h, hk, List.take_succ_cons, flatL_cons]
theorem head_zB {s : ByteArray} (h : s.size ≤ 4000) : (headB s).size ≤ 16020 := by
  unfold headB
  split
  · rw [mk_size]
    obtain ⟨k, hk⟩ := hdr_takeB ((pieces ⟨#[13, 10]⟩ s).dropLast.map (·.data.toList))
    have := flat_len s k
    rw [hk, ← List.map_take]
    omega
  · exact Nat.zero_le _
end Go.Proofs.YtlolnfpfipnfeaaGreatDoor
