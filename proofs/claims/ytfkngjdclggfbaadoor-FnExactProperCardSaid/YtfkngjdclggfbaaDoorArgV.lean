import Derived.Test.YtfkngjdclggfbaaDoorArgS
import Derived.Test.YtfkngjdclggfbaaDoorArgVd
import Derived.Test.YtfkngjdclggfbaaDoorBls
import Derived.Deep.Slices
import Derived.Deep.SlicePairs
import Derived.Deep.Fields
namespace Go.Proofs.YtfkngjdclggfbaaDoor
open Go.ChangeShapes Go.WideShapes Go.ChangeAt Go.RowKit Go.Deep

/-- a slice of bools that can be read -/
def ArgB (w : World) (v : Value) (L : List Bool) : Prop :=
  L.length ≤ maxLen ∧ ((L = [] ∧ ∃ a c, v = .slice a 0 c) ∨ ∃ b off cap, v = .slice (some ⟨b, off, none⟩) L.length cap ∧ b < w.heap.size ∧ ∀ i (hi : i < L.length), w.cell? ⟨b, off + i, none⟩ = some (.bool L[i]))
theorem ArgB.below {w w1 : World} {v : Value} {L : List Bool} (h : ArgB w v L) (hb : Below w.heap.size w w1) : ArgB w1 v L := by
  refine ⟨h.1, ?_⟩
  rcases h.2 with h0 | ⟨b, off, cap, hv, hlt, hc⟩
  · exact .inl h0
  · exact .inr ⟨b, off, cap, hv, Nat.lt_of_lt_of_le hlt hb.size, fun i hi => (hb.cell (p := ⟨b, off + i, none⟩) hlt).trans (hc i hi)⟩
theorem ArgB.form {w : World} {v : Value} {L : List Bool} (h : ArgB w v L) : ∃ a c, v = .slice a L.length c := by
  rcases h.2 with ⟨rfl, a, c, rfl⟩ | ⟨b, off, cap, rfl, _⟩
  · exact ⟨_, _, rfl⟩
  · exact ⟨_, _, rfl⟩
set_option maxRecDepth 100000 in
theorem openBls {H : Type} {enc : TypeId × Value → H} {W : World} {n : Nat} {v : Value} {y : DataW H × List MemPlace} (h : DataW.trod enc Tryd.prog W 0 (fun _ => true) true n 24 [v] = some y) : ∃ L, ArgB W v L := by
  rcases open_slice1 Tryd.underlying24 (by kernel_rfl) h with ⟨hcs, _⟩ | ⟨a, len, cap, m, n', V, D, Pl, hcs, _, hl, hm, hmm, _, hx⟩
  · simp only [List.cons.injEq, and_true] at hcs
    subst hcs
    exact ⟨[], Nat.zero_le _, .inl ⟨rfl, _, _, rfl⟩⟩
  · simp only [List.cons.injEq, and_true] at hcs
    subst hcs
    by_cases h0 : len = 0
    · subst h0; exact ⟨[], Nat.zero_le _, .inl ⟨rfl, _, _, rfl⟩⟩
    · have hlm : len ≤ m := by rw [hmm]; simp; omega
      have hbool : ∀ i, i < m → ∃ q : Bool, V i = .bool q := by
        intro i hi
        obtain ⟨_, h2⟩ := hx i hi
        obtain ⟨q, e, _⟩ := DataW.trod_bool Tryd.underlying4 h2
        simp only [List.cons.injEq, and_true] at e
        exact ⟨q, e⟩
      obtain ⟨Q, hQ⟩ := choose_lt hbool
      obtain ⟨b, off, spot⟩ := a
      have hc0 := (hx 0 (by omega)).1
      have hspot : spot = none := by simpa [Addr.add] using World.cell?_spot hc0
      subst hspot
      have ea : ∀ i, (⟨b, off, none⟩ : Addr).add i = ⟨b, off + i, none⟩ := fun i => by by_cases hi0 : i = 0 <;> simp [Addr.add, hi0]
      rw [ea] at hc0
      refine ⟨(List.range len).map Q, by simp; omega, .inr ⟨b, off, cap, by simp, block_of hc0, fun i hi => ?_⟩⟩
      simp only [List.length_map, List.length_range] at hi
      have := (hx i (by omega)).1
      rw [ea, hQ i (by omega)] at this
      simpa using this

end Go.Proofs.YtfkngjdclggfbaaDoor
