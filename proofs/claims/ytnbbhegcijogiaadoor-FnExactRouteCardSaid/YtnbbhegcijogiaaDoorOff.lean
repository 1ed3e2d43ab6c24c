import Derived.Test.YtnbbhegcijogiaaDoorSts
namespace Go.Proofs.YtnbbhegcijogiaaDoor
open Go.ChangeShapes Go.WideShapes Go.ChangeAt Go.RowKit

/-- all that was there but block b is as it was -/
structure Off (b : Nat) (w w' : World) : Prop where
  os : w'.os = w.os
  tape : w'.tape = w.tape
  output : w'.output = w.output
  size : w.heap.size ≤ w'.heap.size
  block : ∀ k, k < w.heap.size → k ≠ b → w'.heap[k]? = w.heap[k]?
set_option maxRecDepth 100000 in
theorem Off.refl (b : Nat) (w : World) : Off b w w := ⟨rfl, rfl, rfl, Nat.le_refl _, fun _ _ _ => rfl⟩
theorem Off.trans {b : Nat} {w w1 w2 : World} (h : Off b w w1) (k : Off b w1 w2) : Off b w w2 :=
  ⟨k.os.trans h.os, k.tape.trans h.tape, k.output.trans h.output, Nat.le_trans h.size k.size, fun i hi hb => (k.block i (Nat.lt_of_lt_of_le hi h.size) hb).trans (h.block i hi hb)⟩
set_option maxRecDepth 100000 in
theorem Off.of_below {b : Nat} {w w1 : World} (h : Below w.heap.size w w1) : Off b w w1 := ⟨h.os, h.tape, h.output, h.size, fun k hk _ => h.block k hk⟩
theorem Off.below {b : Nat} {w w1 : World} (h : Off b w w1) (hb : b ≤ w.heap.size) : Below b w w1 := ⟨h.os, h.tape, h.output, h.size, fun k hk => h.block k (by omega) (by omega)⟩
theorem Off.setCell {b i : Nat} {w w1 : World} (h : Off b w w1) (v : Value) : Off b w (w1.setCell ⟨b, i, none⟩ v) :=
  ⟨h.os, h.tape, h.output, by simpa using h.size, fun k hk hb => (Below.heap_setCell w1 ⟨b, i, none⟩ v k hb).trans (h.block k hk hb)⟩
set_option maxRecDepth 100000 in
theorem Off.drewN {b : Nat} {w w1 : World} (h : Off b w w1) (n : Nat) : Off b w (w1.drewN n) := ⟨h.os, h.tape, h.output, h.size, h.block⟩
theorem Off.cell {b k i : Nat} {w w1 : World} (h : Off b w w1) (hk : k < w.heap.size) (hb : k ≠ b) : w1.cell? ⟨k, i, none⟩ = w.cell? ⟨k, i, none⟩ := World.cell?_of_block (w := w) (h.block k hk hb)
theorem Off.frozen {b k i : Nat} {w w1 : World} (h : Off b w w1) (hk : k < w.heap.size) (hb : k ≠ b) : w1.frozen? ⟨k, i, none⟩ = w.frozen? ⟨k, i, none⟩ := World.frozen?_of_block (w := w) (h.block k hk hb)
theorem Off.belowAt {b N : Nat} {w w1 : World} (h : Off b w w1) (hN : N ≤ b) (hs : N ≤ w.heap.size) : Below N w w1 := ⟨h.os, h.tape, h.output, h.size, fun k hk => h.block k (by omega) (by omega)⟩
theorem strs_off_ne {w w1 : World} {lo b : Nat} {v : Value} {L : List ByteArray} (h : Strs w lo v L) (ho : Off b w w1) (hb : ∀ g, v.ownBlock = some g → g ≠ b) : Strs w1 lo v L := by
  refine ⟨h.1, ?_⟩
  rcases h.2 with h0 | ⟨g, cap, cur, hv, hl, hg, rest⟩
  · exact .inl h0
  · refine .inr ⟨g, cap, cur, hv, hl, ?_, rest⟩
    rw [ho.block g (Array.getElem?_eq_some_iff.1 hg).1 (hb g (by rw [hv]; rfl))]; exact hg
/-- where a block of one's own alone was written to, if there is one -/
def OffV (v : Value) (w w1 : World) : Prop := (∃ b, v.ownBlock = some b ∧ Off b w w1) ∨ Below w.heap.size w w1
theorem OffV.cell {v : Value} {w w1 : World} {k i : Nat} (h : OffV v w w1) (hk : k < w.heap.size) (hne : ∀ b, v.ownBlock = some b → k ≠ b) : w1.cell? ⟨k, i, none⟩ = w.cell? ⟨k, i, none⟩ := by
  rcases h with ⟨b, hb, ho⟩ | h
  · exact ho.cell hk (hne b hb)
  · exact h.cell (p := ⟨k, i, none⟩) hk
theorem OffV.frozen {v : Value} {w w1 : World} {k i : Nat} (h : OffV v w w1) (hk : k < w.heap.size) (hne : ∀ b, v.ownBlock = some b → k ≠ b) : w1.frozen? ⟨k, i, none⟩ = w.frozen? ⟨k, i, none⟩ := by
  rcases h with ⟨b, hb, ho⟩ | h
  · exact ho.frozen hk (hne b hb)
  · exact h.frozen (p := ⟨k, i, none⟩) hk
theorem OffV.strs {v u : Value} {w w1 : World} {lo : Nat} {L : List ByteArray} (h : OffV v w w1) (hs : Strs w lo u L) (hne : ∀ g b, u.ownBlock = some g → v.ownBlock = some b → g ≠ b) : Strs w1 lo u L := by
  rcases h with ⟨b, hb, ho⟩ | h
  · exact strs_off_ne hs ho fun g hg => hne g b hg hb
  · exact strs_below hs h (Nat.le_refl _)
theorem OffV.below {v : Value} {w w1 : World} {N : Nat} (h : OffV v w w1) (hN : ∀ b, v.ownBlock = some b → N ≤ b) (hs : N ≤ w.heap.size) : Below N w w1 := by
  rcases h with ⟨b, hb, ho⟩ | h
  · exact ho.belowAt (hN b hb) hs
  · exact h.mono hs
theorem OffV.size {v : Value} {w w1 : World} (h : OffV v w w1) : w.heap.size ≤ w1.heap.size := by
  rcases h with ⟨b, hb, ho⟩ | h
  · exact ho.size
  · exact h.size
theorem OffV.after {v : Value} {w w1 w2 : World} (h : OffV v w1 w2) (hb : Below w.heap.size w w1) : OffV v w w2 := by
  rcases h with ⟨b, hv, ho⟩ | h
  · exact .inl ⟨b, hv, (Off.of_below hb).trans ho⟩
  · exact .inr (hb.trans (h.mono hb.size))
end Go.Proofs.YtnbbhegcijogiaaDoor
