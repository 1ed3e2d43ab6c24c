import Derived.Test.YthblkfdgibonbaaIPrs
import Derived.Test.YthblkfdgibonbaaPrsMono
import Derived.Test.YthblkfdgibonbaaSts
namespace Go.Proofs.Ythblkfdgibonbaa
open Go.ChangeShapes Go.WideShapes Go.ChangeAt Go.RowKit
open Pcs

theorem prs_lines : ∀ (k : Nat) {c : Option Nat} {acc : List ByteArray} {u : Nat} {r : List UInt8} {n : Nat} {L : List ByteArray} {m N : Nat}, prs k c acc u r = (some (some (n, L, m))) → (∀ x ∈ acc, x.size ≤ N) → r.length ≤ N → (∀ x ∈ L, x.size ≤ N) ∧ L.length ≤ acc.length + k ∧ m ≤ u + r.length
  | 0, _, _, _, _, _, _, _, _, h, _, _ => by cases h
  | k + 1, c, acc, u, r, n, L, m, N, h, ha, hr => by
    rcases Lib.index_spec r [13, 10] with ⟨e, _⟩ | ⟨j, e, hj, hocc, _⟩
    · rw [prs_cut e] at h; split at h <;> cases h
    · have hjl : j + 2 ≤ r.length := by
        rcases Lib.occAt_room hocc with h | h
        · simp only [List.length_cons, List.length_nil] at h; omega
        · cases h
      have ha2 : ∀ x ∈ acc ++ [textB (mk (r.take j))], x.size ≤ N := by
        intro x hx
        rcases List.mem_append.1 hx with h1 | h1
        · exact ha x h1
        · rw [List.mem_singleton.1 h1]
          unfold textB
          rw [ByteArray.size_extract, mk_size, List.length_take]; omega
      rw [prs_line e rfl] at h
      split at h
      · split at h
        · cases h
          exact ⟨ha2, by simp, by omega⟩
        · have := prs_lines k h ha2 (by rw [List.length_drop]; omega)
          rw [List.length_drop, List.length_append] at this
          simp only [List.length_cons, List.length_nil] at this
          exact ⟨this.1, by omega, by omega⟩
      · cases h
theorem parse_lines (s : ByteArray) : (∀ x ∈ prLines (parse s), x.size ≤ s.size) ∧ (prLines (parse s)).length ≤ 50 ∧ prUsed (parse s) ≤ s.size := by
  rcases h : parse s with _ | _ | ⟨n, L, m⟩
  · exact ⟨(fun x hx => by cases hx), Nat.zero_le _, Nat.zero_le _⟩
  · exact ⟨(fun x hx => by cases hx), Nat.zero_le _, Nat.zero_le _⟩
  · have := prs_lines 50 (N := s.size) h (fun x hx => by cases hx) (by rw [← Lib.size_eq]; exact Nat.le_refl _)
    rw [← Lib.size_eq] at this
    exact ⟨this.1, by show L.length ≤ 50; simpa using this.2.1, by show m ≤ s.size; simpa using this.2.2⟩
theorem strs_form {w : World} {lo : Nat} {v : Value} {L : List ByteArray} (h : Strs w lo v L) : ∃ a c, v = .slice a L.length c := by
  rcases h.cases with ⟨rfl, rfl⟩ | ⟨g, cap, rfl, _⟩
  · exact ⟨_, _, rfl⟩
  · exact ⟨_, _, rfl⟩
end Go.Proofs.Ythblkfdgibonbaa
