import Derived.Test.YthblkfdgibonbaaItT
namespace Go.Proofs.Ythblkfdgibonbaa
open Go.ChangeShapes Go.WideShapes Go.ChangeAt Go.RowKit
attribute [local go_sem ↓] Go.wp_at_zero Go.wp_at_succ

theorem list9 {α : Type} {l : List α} (h : l.length = 9) : ∃ a b c d e f g i j, l = [a, b, c, d, e, f, g, i, j] := by
  match l, h with
  | [a, b, c, d, e, f, g, i, j], _ => exact ⟨a, b, c, d, e, f, g, i, j, rfl⟩
theorem Rw.set9 {T : Nat} {w : World} {lo g m cap i : Nat} {C : List (List Value)} (h : Rw T 9 w lo (.slice (some ⟨g, 0, none⟩) m cap) C) (hi : i < C.length) (a0 a1 a2 a3 a4 a5 a6 a7 a8 : Value) :
    Rw T 9 (((((((((w.setCell ⟨g, i * 9, none⟩ a0).setCell ⟨g, i * 9 + 1, none⟩ a1).setCell ⟨g, i * 9 + 2, none⟩ a2).setCell ⟨g, i * 9 + 3, none⟩ a3).setCell ⟨g, i * 9 + 4, none⟩ a4).setCell ⟨g, i * 9 + 5, none⟩ a5).setCell ⟨g, i * 9 + 6, none⟩ a6).setCell ⟨g, i * 9 + 7, none⟩ a7).setCell ⟨g, i * 9 + 8, none⟩ a8) lo (.slice (some ⟨g, 0, none⟩) m cap) (C.set i [a0, a1, a2, a3, a4, a5, a6, a7, a8]) := by
  obtain ⟨b0, b1, b2, b3, b4, b5, b6, b7, b8, hc⟩ := list9 (h.2 C[i] (List.getElem_mem _))
  have h1 := h.set hi (j := 0) (by decide) a0
  have h2 := h1.set (i := i) (j := 1) (by simpa using hi) (by decide) a1
  have h3 := h2.set (i := i) (j := 2) (by simpa using hi) (by decide) a2
  have h4 := h3.set (i := i) (j := 3) (by simpa using hi) (by decide) a3
  have h5 := h4.set (i := i) (j := 4) (by simpa using hi) (by decide) a4
  have h6 := h5.set (i := i) (j := 5) (by simpa using hi) (by decide) a5
  have h7 := h6.set (i := i) (j := 6) (by simpa using hi) (by decide) a6
  have h8 := h7.set (i := i) (j := 7) (by simpa using hi) (by decide) a7
  have h9 := h8.set (i := i) (j := 8) (by simpa using hi) (by decide) a8
  simpa [List.getElem_set_self, List.set_set, hc] using h9
def nil2 : Value × Value := (.slice none 0 0, .slice none 0 0)
def zIt : Value := .agg #[.int .i64 0, .int .i64 0, .string ⟨#[]⟩, .slice none 0 0, .string ⟨#[]⟩, .slice none 0 0, .int .i64 0, .int .i64 0, .bool false]
theorem irow_rep : ∀ n, irow (List.replicate n it0) (List.replicate n nil2) = List.replicate n (ic it0 nil2)
  | 0 => rfl
  | n + 1 => by
    rw [List.replicate_succ, List.replicate_succ, List.replicate_succ, ← irow_rep n]; rfl
theorem dis_none {vs : List Value} (h : ∀ v ∈ vs, v.ownBlock = none) : Dis vs := fun i hi j hj _ a ha => by rw [h _ (List.getElem_mem _)] at ha; cases ha
theorem its_made (w : World) (n : Nat) (hn : n ≤ maxLen) : ItsP (w.alloc (.cells (madeCells zIt.cells (n * 9)) 70)) w.heap.size (.slice (some ⟨w.heap.size, 0, none⟩) n n) (List.replicate n it0) (List.replicate n nil2) := by
  refine ⟨by simp, ?_, fun i hi => ?_, fun i hi => ?_, dis_none fun v hv => ?_, dis_none fun v hv => ?_⟩
  · rw [irow_rep]; exact Rw.made 70 9 w n zIt.cells rfl (by decide) hn
  · simp only [List.getElem_replicate]; exact ⟨by rfl, .inl ⟨rfl, rfl⟩⟩
  · simp only [List.getElem_replicate]; exact ⟨by rfl, .inl ⟨rfl, rfl⟩⟩
  · simp only [List.map_replicate] at hv; rw [List.eq_of_mem_replicate hv]; rfl
  · simp only [List.map_replicate] at hv; rw [List.eq_of_mem_replicate hv]; rfl
theorem dis_set {vs : List Value} (h : Dis vs) (i : Nat) (u : Value) (hu : ∀ a, u.ownBlock = some a → ∀ j (hj : j < vs.length), j ≠ i → vs[j].ownBlock ≠ some a) : Dis (vs.set i u) := by
  intro j hj k hk hne a ha
  rw [List.length_set] at hj hk
  by_cases e1 : i = j
  · subst e1
    rw [List.getElem_set_self] at ha
    rw [List.getElem_set_ne (by omega)]
    exact hu a ha k hk (by omega)
  · rw [List.getElem_set_ne (by omega)] at ha
    by_cases e2 : i = k
    · subst e2
      rw [List.getElem_set_self]
      intro hb
      exact hu a hb j hj (by omega) ha
    · rw [List.getElem_set_ne (by omega)]
      exact h j hj k hk hne a ha
theorem TsI : (70 : Nat) ≠ 9 := by decide
theorem TvI : (70 : Nat) ≠ 109 := by decide
/-- the strings and verdicts of items stay where a cell of their row is set -/
theorem ItsP.cellN {w : World} {lo g m cap o : Nat} {L : List It} {P : List (Value × Value)} (h : ItsP w lo (.slice (some ⟨g, 0, none⟩) m cap) L P) (u : Value) :
    (∀ i (hi : i < L.length), Strs (w.setCell ⟨g, o, none⟩ u) lo (P[i]'(by have := h.len; omega)).1 L[i].R) ∧ (∀ i (hi : i < L.length), Vds (w.setCell ⟨g, o, none⟩ u) lo (P[i]'(by have := h.len; omega)).2 L[i].V) := by
  refine ⟨fun i hi => row_set_neR (h.str i hi) (fun a ha => ?_) u, fun i hi => row_set_neR (h.vds i hi) (fun a ha => ?_) u⟩
  · exact fun e => row_apart h.row.1 (h.str i hi) TsI g a rfl ha e.symm
  · exact fun e => row_apart h.row.1 (h.vds i hi) TvI g a rfl ha e.symm
theorem strs_set_ne {w : World} {lo : Nat} {v : Value} {L : List ByteArray} (h : Strs w lo v L) {a : Addr} (hne : ∀ g, v.ownBlock = some g → g ≠ a.block) (u : Value) : Strs (w.setCell a u) lo v L := row_set_neR h hne u
theorem vds_set_ne {w : World} {lo : Nat} {v : Value} {L : List Vd} (h : Vds w lo v L) {a : Addr} (hne : ∀ g, v.ownBlock = some g → g ≠ a.block) (u : Value) : Vds (w.setCell a u) lo v L := row_set_neR h hne u
theorem ItsP.set {w : World} {lo g m cap i : Nat} {L : List It} {P : List (Value × Value)} (h : ItsP w lo (.slice (some ⟨g, 0, none⟩) m cap) L P) (hi : i < L.length) (x : It) (p : Value × Value) (hs : Strs w lo p.1 x.R) (hv : Vds w lo p.2 x.V)
    (f1 : ∀ a, p.1.ownBlock = some a → ∀ j (hj : j < P.length), j ≠ i → P[j].1.ownBlock ≠ some a) (f2 : ∀ a, p.2.ownBlock = some a → ∀ j (hj : j < P.length), j ≠ i → P[j].2.ownBlock ≠ some a) :
    ItsP (((((((((w.setCell ⟨g, i * 9, none⟩ (.int .i64 x.id)).setCell ⟨g, i * 9 + 1, none⟩ (.int .i64 x.born)).setCell ⟨g, i * 9 + 2, none⟩ (.string x.fr)).setCell ⟨g, i * 9 + 3, none⟩ p.1).setCell ⟨g, i * 9 + 4, none⟩ (.string x.bo)).setCell ⟨g, i * 9 + 5, none⟩ p.2).setCell ⟨g, i * 9 + 6, none⟩ (.int .i64 x.tr)).setCell ⟨g, i * 9 + 7, none⟩ (.int .i64 x.du)).setCell ⟨g, i * 9 + 8, none⟩ (.bool x.bn)) lo (.slice (some ⟨g, 0, none⟩) m cap) (L.set i x) (P.set i p) := by
  have hl := h.len
  have n1 : ∀ {u : Value} {k : Nat} {R : List ByteArray}, k = k → Strs w lo u R → ∀ a, u.ownBlock = some a → a ≠ g := fun _ hs a ha e => row_apart h.row.1 hs TsI g a rfl ha e.symm
  have n2 : ∀ {u : Value} {R : List Vd}, Vds w lo u R → ∀ a, u.ownBlock = some a → a ≠ g := fun hs a ha e => row_apart h.row.1 hs TvI g a rfl ha e.symm
  have s9 : ∀ {u : Value} {R : List ByteArray}, Strs w lo u R → Strs (((((((((w.setCell ⟨g, i * 9, none⟩ (.int .i64 x.id)).setCell ⟨g, i * 9 + 1, none⟩ (.int .i64 x.born)).setCell ⟨g, i * 9 + 2, none⟩ (.string x.fr)).setCell ⟨g, i * 9 + 3, none⟩ p.1).setCell ⟨g, i * 9 + 4, none⟩ (.string x.bo)).setCell ⟨g, i * 9 + 5, none⟩ p.2).setCell ⟨g, i * 9 + 6, none⟩ (.int .i64 x.tr)).setCell ⟨g, i * 9 + 7, none⟩ (.int .i64 x.du)).setCell ⟨g, i * 9 + 8, none⟩ (.bool x.bn)) lo u R := by
    intro u R hs
    have hn := n1 (k := 0) rfl hs
    repeat (refine strs_set_ne ?_ hn _)
    exact hs
  have v9 : ∀ {u : Value} {R : List Vd}, Vds w lo u R → Vds (((((((((w.setCell ⟨g, i * 9, none⟩ (.int .i64 x.id)).setCell ⟨g, i * 9 + 1, none⟩ (.int .i64 x.born)).setCell ⟨g, i * 9 + 2, none⟩ (.string x.fr)).setCell ⟨g, i * 9 + 3, none⟩ p.1).setCell ⟨g, i * 9 + 4, none⟩ (.string x.bo)).setCell ⟨g, i * 9 + 5, none⟩ p.2).setCell ⟨g, i * 9 + 6, none⟩ (.int .i64 x.tr)).setCell ⟨g, i * 9 + 7, none⟩ (.int .i64 x.du)).setCell ⟨g, i * 9 + 8, none⟩ (.bool x.bn)) lo u R := by
    intro u R hs
    have hn := n2 hs
    repeat (refine vds_set_ne ?_ hn _)
    exact hs
  refine ⟨by simpa using hl, ?_, fun j hj => ?_, fun j hj => ?_, ?_, ?_⟩
  · rw [← irow_set L P i x p hl]
    exact h.row.set9 (by rw [irow_len hl]; exact hi) _ _ _ _ _ _ _ _ _
  · rw [List.length_set] at hj
    by_cases e : i = j
    · subst e; simp only [List.getElem_set_self]; exact s9 hs
    · simp only [List.getElem_set_ne e]; exact s9 (h.str j hj)
  · rw [List.length_set] at hj
    by_cases e : i = j
    · subst e; simp only [List.getElem_set_self]; exact v9 hv
    · simp only [List.getElem_set_ne e]; exact v9 (h.vds j hj)
  · rw [List.map_set]
    refine dis_set h.d1 i p.1 fun a ha j hj hne => ?_
    simp only [List.getElem_map]
    exact f1 a ha j (by simpa using hj) hne
  · rw [List.map_set]
    refine dis_set h.d2 i p.2 fun a ha j hj hne => ?_
    simp only [List.getElem_map]
    exact f2 a ha j (by simpa using hj) hne
end Go.Proofs.Ythblkfdgibonbaa
