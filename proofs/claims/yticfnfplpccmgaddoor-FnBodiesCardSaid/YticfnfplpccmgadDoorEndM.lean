import Derived.Test.YticfnfplpccmgadDoorUnsM
namespace Go.Proofs.YticfnfplpccmgadDoor
open Pcs

def endP : List UInt8 := [13, 10, 46, 13, 10]
def wireT (M : List (List UInt8)) : List UInt8 := [13, 10] ++ ((M.map fun m => m ++ [13, 10]).flatten ++ [46, 13, 10])
theorem wireT_cons (m : List UInt8) (M : List (List UInt8)) : wireT (m :: M) = 13 :: 10 :: (m ++ wireT M) := by
  simp [wireT]
theorem end_none : ∀ (M : List (List UInt8)), (∀ m ∈ M, (13 : UInt8) ∉ m ∧ m ≠ [46]) → ∀ j, j < (M.map fun m => m ++ [13, 10]).flatten.length → Lib.occAt (wireT M) endP j = false
  | [], _, j, h => by simp at h
  | m :: M, hM, j, h => by
    obtain ⟨h13, h46⟩ := hM m (by simp)
    rw [wireT_cons]
    unfold Lib.occAt
    match j, h with
    | 0, _ =>
      rw [List.drop_zero]
      match m, h13, h46 with
      | [], _, _ => simp [endP, wireT, List.isPrefixOf]
      | [a], _, h46 =>
        have : ((46 : UInt8) == a) = false := beq_eq_false_iff_ne.2 fun e => h46 (by rw [e])
        simp [endP, List.isPrefixOf, this]
      | a :: c :: m, h13, _ =>
        have : ((13 : UInt8) == c) = false := beq_eq_false_iff_ne.2 fun e => h13 (by rw [e]; simp)
        simp [endP, List.isPrefixOf, this]
    | 1, _ => simp [endP, List.isPrefixOf]
    | i + 2, h =>
      rw [List.drop_succ_cons, List.drop_succ_cons]
      by_cases hi : i < m.length
      · rw [List.drop_append_of_le_length (by omega), List.drop_eq_getElem_cons hi, List.cons_append]
        have : ((13 : UInt8) == m[i]) = false := beq_eq_false_iff_ne.2 fun e => h13 (by rw [e]; exact List.getElem_mem hi)
        simp [endP, List.isPrefixOf, this]
      · have e : i = m.length + (i - m.length) := by omega
        rw [e, List.drop_append]
        rw [show m.length + (i - m.length) - m.length = i - m.length by omega, List.drop_eq_nil_of_le (by omega), List.nil_append]
        refine end_none M (fun x hx => hM x (List.mem_cons_of_mem _ hx)) (i - m.length) ?_
        rw [List.map_cons, List.flatten_cons, List.length_append, List.length_append] at h
        simp only [List.length_cons, List.length_nil] at h
        omega
theorem end_at (M : List (List UInt8)) : Lib.occAt (wireT M) endP (M.map fun m => m ++ [13, 10]).flatten.length = true := by
  induction M with
  | nil => rfl
  | cons m M ih =>
    rw [wireT_cons, List.map_cons, List.flatten_cons, List.length_append, List.length_append]
    unfold Lib.occAt at *
    simp only [List.length_cons, List.length_nil]
    rw [show m.length + (0 + 1 + 1) + (M.map fun m => m ++ [13, 10]).flatten.length = (m.length + (M.map fun m => m ++ [13, 10]).flatten.length) + 2 by omega, List.drop_succ_cons, List.drop_succ_cons, ← List.drop_drop, List.drop_left]
    exact ih
theorem dotted_ne (l : List UInt8) : dotted l ≠ [46] := by
  unfold dotted; split
  · rename_i h
    cases l with
    | nil => cases h
    | cons a l => simp
  · rename_i h
    intro e; rw [e] at h; exact h rfl
/-- the end of a stuffed body stands only at the end -/
theorem end_only {b : ByteArray} (h : bodyOk b = true) : 3 ≤ (stuffB b).size ∧ Lib.index (([13, 10] : List UInt8) ++ (stuffB b).data.toList) endP = ((stuffB b).size - 3 : Nat) := by
  have hd := stuff_data0 h
  obtain ⟨L, hL⟩ : ∃ L : List (List UInt8), L = (pieces ⟨#[13, 10]⟩ b).dropLast.map (·.data.toList) := ⟨_, rfl⟩
  have hD : stuffL (pieces ⟨#[13, 10]⟩ b).dropLast = ((L.map dotted).map fun m => m ++ [13, 10]).flatten := by
    rw [hL, List.map_map, List.map_map]
    unfold stuffL
    congr 1
    refine List.map_congr_left fun x _ => ?_
    exact dotted_line _
  unfold bodyOk linesOk at h
  simp only [Bool.and_eq_true, decide_eq_true_eq] at h
  obtain ⟨_, hall, _⟩ := h
  have hok : ∀ m ∈ L.map dotted, (13 : UInt8) ∉ m ∧ m ≠ [46] := by
    intro m hm
    rw [hL, List.map_map] at hm
    obtain ⟨x, hx, rfl⟩ := List.mem_map.1 hm
    exact ⟨dotted_no13 (line_no13 (List.all_eq_true.1 hall x hx)), dotted_ne _⟩
  rw [hD] at hd
  have hsz : (stuffB b).size = ((L.map dotted).map fun m => m ++ [13, 10]).flatten.length + 3 := by
    rw [Lib.size_eq, hd, List.length_append]; rfl
  refine ⟨by omega, ?_⟩
  rw [hd, hsz, Nat.add_sub_cancel]
  show Lib.index (wireT (L.map dotted)) endP = _
  refine Lib.index_first ?_ (end_at _) (end_none _ hok)
  unfold wireT; rw [List.length_append, List.length_append]; omega
end Go.Proofs.YticfnfplpccmgadDoor
