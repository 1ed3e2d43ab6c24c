import Derived.Test.YtncgihalaflpaaaDoorBodM
namespace Go.Proofs.YtncgihalaflpaaaDoor
open Pcs

/-- a line as it goes over the wire -/
def stuffLine (l : List UInt8) : List UInt8 := (if l.head? = some 46 then [46] else []) ++ (l ++ [13, 10])
def stuffL (L : List ByteArray) : List UInt8 := (L.map fun l => stuffLine l.data.toList).flatten
/-- a body as it goes over the wire -/
def stuffB (s : ByteArray) : ByteArray := if bodyOk s then mk (stuffL (pieces ⟨#[13, 10]⟩ s).dropLast ++ [46, 13, 10]) else ⟨#[]⟩

theorem stuffL_step (L : List ByteArray) (k : Nat) (h : k < L.length) : stuffL (L.take (k + 1)) = stuffL (L.take k) ++ stuffLine L[k].data.toList := by
  unfold stuffL
  rw [List.take_add_one, List.getElem?_eq_getElem h, List.map_append, List.flatten_append]
  simp
theorem stuffLine_len (l : List UInt8) : (stuffLine l).length ≤ l.length + 3 := by
  unfold stuffLine; split <;> simp
theorem head_dot {x : ByteArray} : x.data.toList.head? = some 46 ↔ (∃ h : 0 < x.size, (x[0]'h).toNat = 46) := by
  constructor
  · intro e
    have h : 0 < x.size := by
      rw [Lib.size_eq]
      cases hx : x.data.toList with
      | nil => rw [hx] at e; cases e
      | cons a l => simp
    refine ⟨h, ?_⟩
    rw [List.head?_eq_getElem?, List.getElem?_eq_getElem (by rw [← Lib.size_eq]; exact h)] at e
    exact congrArg UInt8.toNat (Option.some.inj e)
  · rintro ⟨h, e⟩
    rw [List.head?_eq_getElem?, List.getElem?_eq_getElem (by rw [← Lib.size_eq]; exact h)]
    exact congrArg some (UInt8.toNat_inj.1 e)
theorem stuffLine_yes {l : List UInt8} (h : l.head? = some 46) : stuffLine l = 46 :: (l ++ [13, 10]) := by
  unfold stuffLine; rw [if_pos h]; rfl
theorem stuffLine_no {l : List UInt8} (h : l.head? ≠ some 46) : stuffLine l = l ++ [13, 10] := by
  unfold stuffLine; rw [if_neg h]; rfl
theorem mk_append (a : List UInt8) (s : ByteArray) : mk a ++ s = mk (a ++ s.data.toList) := by
  rw [← mk_data (mk a ++ s), ByteArray.data_append]
  simp [mk]
theorem take_sum {L : List ByteArray} (k : Nat) : (stuffL (L.take k)).length ≤ (L.map fun l => l.size + 3).sum := by
  unfold stuffL
  rw [List.length_flatten, List.map_map]
  have h1 : ∀ M : List ByteArray, (M.map (List.length ∘ fun l => stuffLine l.data.toList)).sum ≤ (M.map fun l => l.size + 3).sum := by
    intro M
    induction M with
    | nil => simp
    | cons x M ih =>
      simp only [Function.comp_def] at ih
      simp only [List.map_cons, List.sum_cons, Function.comp_def]
      have := stuffLine_len x.data.toList
      rw [← Lib.size_eq] at this
      omega
  refine Nat.le_trans (h1 _) ?_
  rw [List.map_take]
  generalize (L.map fun l => l.size + 3) = M
  induction M generalizing k with
  | nil => simp
  | cons x M ih =>
    cases k with
    | zero => simp
    | succ k => simp only [List.take_succ_cons, List.sum_cons]; have := ih k; omega
/-- all pieces together are no longer than the text -/
theorem pcs_sum {sep : List UInt8} : ∀ (l : List UInt8) (k : Nat) (acc : List UInt8), ((pcs sep k acc l).map List.length).sum ≤ acc.length + l.length
  | [], k, acc => by simp [pcs]
  | b :: l, 0, acc => by
    rw [pcs]; split
    · have := pcs_sum (sep := sep) l (sep.length - 1) []
      simp only [List.map_cons, List.sum_cons, List.length_nil, List.length_cons] at this ⊢; omega
    · have := pcs_sum (sep := sep) l 0 (acc ++ [b])
      simp only [List.length_append, List.length_cons, List.length_nil] at this ⊢; omega
  | b :: l, k + 1, acc => by
    rw [pcs]
    have := pcs_sum (sep := sep) l k acc
    simp only [List.length_cons] at this ⊢; omega
theorem stuff_len (s : ByteArray) (m k : Nat) : (stuffL (((pieces ⟨#[13, 10]⟩ s).take m).take k)).length ≤ 4 * s.size + 3 := by
  refine Nat.le_trans (take_sum k) ?_
  have h1 : (((pieces ⟨#[13, 10]⟩ s).take m).map fun l => l.size + 3).sum ≤ ((pieces ⟨#[13, 10]⟩ s).map fun l => l.size + 3).sum := by
    rw [List.map_take]
    generalize ((pieces ⟨#[13, 10]⟩ s).map fun l => l.size + 3) = M
    induction M generalizing m with
    | nil => simp
    | cons x M ih =>
      cases m with
      | zero => simp
      | succ m => simp only [List.take_succ_cons, List.sum_cons]; have := ih m; omega
  have h2 : ∀ L : List ByteArray, (L.map fun l => l.size + 3).sum = (L.map fun l => l.size).sum + 3 * L.length := by
    intro L
    induction L with
    | nil => rfl
    | cons x L ih => simp only [List.map_cons, List.sum_cons, List.length_cons]; omega
  have h3 : ((pieces ⟨#[13, 10]⟩ s).map fun l => l.size).sum ≤ s.size := by
    have := pcs_sum (sep := [13, 10]) s.data.toList 0 []
    rw [List.length_nil, Nat.zero_add, ← Lib.size_eq] at this
    refine Nat.le_trans (Nat.le_of_eq ?_) this
    show (((pcs [13, 10] 0 [] s.data.toList).map mk).map fun l => l.size).sum = _
    rw [List.map_map]
    have e : ((fun l : ByteArray => l.size) ∘ mk) = List.length := funext fun x => mk_size x
    rw [e]
  have h4 := pieces_len ⟨#[13, 10]⟩ s
  refine Nat.le_trans h1 ?_
  rw [h2]
  omega
end Go.Proofs.YtncgihalaflpaaaDoor
