import Derived.Test.YtnbbhegcijogiaaDoorOff
namespace Go.Proofs.YtnbbhegcijogiaaDoor
open Go.ChangeShapes Go.WideShapes Go.ChangeAt Go.RowKit

/-- all that was there but the own blocks of some slices is as it was -/
def OffL (vs : List Value) (w w1 : World) : Prop := w1.os = w.os ∧ w1.tape = w.tape ∧ w1.output = w.output ∧ w.heap.size ≤ w1.heap.size ∧ ∀ k, k < w.heap.size → (∀ v ∈ vs, v.ownBlock ≠ some k) → w1.heap[k]? = w.heap[k]?
theorem OffL.of_below {vs : List Value} {w w1 : World} (h : Below w.heap.size w w1) : OffL vs w w1 := ⟨h.os, h.tape, h.output, h.size, fun k hk _ => h.block k hk⟩
theorem OffL.ofV {vs : List Value} {v : Value} {w w1 : World} (h : OffV v w w1) (hv : v ∈ vs) : OffL vs w w1 := by
  rcases h with ⟨b, hb, ho⟩ | h
  · exact ⟨ho.os, ho.tape, ho.output, ho.size, fun k hk hne => ho.block k hk (fun e => hne v hv (by rw [hb, e]))⟩
  · exact OffL.of_below h
theorem OffL.ofGrown {vs : List Value} {v : Value} {w w1 : World} (h : w.grownBy w1 v.ownBlock) (hv : v ∈ vs) : OffL vs w w1 :=
  ⟨h.os, h.tape, h.output, h.size, fun k hk hne => h.block k hk (fun e => hne v hv e.symm)⟩
theorem OffL.trans {vs : List Value} {w w1 w2 : World} (h : OffL vs w w1) (k : OffL vs w1 w2) : OffL vs w w2 :=
  ⟨k.1.trans h.1, k.2.1.trans h.2.1, k.2.2.1.trans h.2.2.1, Nat.le_trans h.2.2.2.1 k.2.2.2.1, fun i hi hb => (k.2.2.2.2 i (Nat.lt_of_lt_of_le hi h.2.2.2.1) hb).trans (h.2.2.2.2 i hi hb)⟩
theorem OffL.size {vs : List Value} {w w1 : World} (h : OffL vs w w1) : w.heap.size ≤ w1.heap.size := h.2.2.2.1
theorem OffL.cell {vs : List Value} {w w1 : World} {k i : Nat} (h : OffL vs w w1) (hk : k < w.heap.size) (hne : ∀ v ∈ vs, v.ownBlock ≠ some k) : w1.cell? ⟨k, i, none⟩ = w.cell? ⟨k, i, none⟩ := World.cell?_of_block (w := w) (h.2.2.2.2 k hk hne)
theorem OffL.frozen {vs : List Value} {w w1 : World} {k i : Nat} (h : OffL vs w w1) (hk : k < w.heap.size) (hne : ∀ v ∈ vs, v.ownBlock ≠ some k) : w1.frozen? ⟨k, i, none⟩ = w.frozen? ⟨k, i, none⟩ := World.frozen?_of_block (w := w) (h.2.2.2.2 k hk hne)
theorem OffL.row {vs : List Value} {w w1 : World} {lo sz n : Nat} {T : TypeId} {u : Value} {xs : List Value} (h : OffL vs w w1) (hs : w.ownsRow lo T sz u n xs) (hne : ∀ g, u.ownBlock = some g → ∀ v ∈ vs, v.ownBlock ≠ some g) : w1.ownsRow lo T sz u n xs := by
  refine ⟨hs.1, ?_⟩
  rcases hs.2 with h0 | ⟨g, cap, cur, hv, hl, hg, rest⟩
  · exact .inl h0
  · refine .inr ⟨g, cap, cur, hv, hl, ?_, rest⟩
    rw [h.2.2.2.2 g (Array.getElem?_eq_some_iff.1 hg).1 (hne g (by rw [hv]; rfl))]; exact hg
theorem OffL.below {vs : List Value} {w w1 : World} {N : Nat} (h : OffL vs w w1) (hN : ∀ v ∈ vs, ∀ b, v.ownBlock = some b → N ≤ b) (hs : N ≤ w.heap.size) : Below N w w1 :=
  ⟨h.1, h.2.1, h.2.2.1, h.2.2.2.1, fun k hk => h.2.2.2.2 k (by omega) (fun v hv e => by have := hN v hv k e; omega)⟩
theorem OffL.mono {vs us : List Value} {w w1 : World} (h : OffL vs w w1) (hsub : ∀ v ∈ vs, v ∈ us) : OffL us w w1 :=
  ⟨h.1, h.2.1, h.2.2.1, h.2.2.2.1, fun k hk hne => h.2.2.2.2 k hk fun v hv => hne v (hsub v hv)⟩
end Go.Proofs.YtnbbhegcijogiaaDoor
