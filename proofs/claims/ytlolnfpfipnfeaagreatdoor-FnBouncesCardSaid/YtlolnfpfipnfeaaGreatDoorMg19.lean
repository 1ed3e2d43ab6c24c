import Derived.Test.YtlolnfpfipnfeaaGreatDoorMg18
namespace Go.Proofs.YtlolnfpfipnfeaaGreatDoor
open Go.ChangeShapes Go.WideShapes Go.ChangeAt Go.RowKit
open Pcs

/-- lines with their ends -/
def flatL (M : List (List UInt8)) : List UInt8 := (M.map fun m => m ++ [13, 10]).flatten
/-- the lines ahead of the first empty one -/
def hdrL : List (List UInt8) → List UInt8
  | [] => []
  | m :: M => if m = [] then [] else m ++ [13, 10] ++ hdrL M
def headB (s : ByteArray) : ByteArray := if bodyOk s then mk (hdrL ((pieces ⟨#[13, 10]⟩ s).dropLast.map (·.data.toList))) else ⟨#[]⟩
theorem head_no {s : ByteArray} (h : bodyOk s = false) : headB s = ⟨#[]⟩ := by unfold headB; rw [h]; rfl
theorem head_ok {s : ByteArray} {L : List ByteArray} (h : bodyOk s = true) (hL : (pieces ⟨#[13, 10]⟩ s).dropLast = L) : headB s = mk (hdrL (L.map (·.data.toList))) := by unfold headB; rw [if_pos h, hL]
theorem flatL_cons (m : List UInt8) (M : List (List UInt8)) : flatL (m :: M) = m ++ [13, 10] ++ flatL M := by simp [flatL]
theorem hdr_split : ∀ (k : Nat) (M : List (List UInt8)), (∀ j (h : j < M.length), j < k → M[j] ≠ []) → hdrL M = flatL (M.take k) ++ hdrL (M.drop k)
  | 0, M, _ => by simp [flatL]
  | k + 1, [], _ => by simp [flatL, hdrL]
  | k + 1, m :: M, h => by
    have h0 : m ≠ [] := h 0 (by simp) (by omega)
    have ih := hdr_split k M fun j hj hk => h (j + 1) (by simp; omega) (by omega)
    rw [hdrL, if_neg h0, ih, List.take_succ_cons, flatL_cons, List.drop_succ_cons]
    simp
theorem hdr_stop {M : List (List UInt8)} {k : Nat} (h : ∀ j (h : j < M.length), j < k → M[j] ≠ []) (hk : k < M.length) (he : M[k] = []) : hdrL M = flatL (M.take k) := by
  rw [hdr_split k M h, List.drop_eq_getElem_cons hk, hdrL, if_pos he]; simp
theorem hdr_all {M : List (List UInt8)} (h : ∀ j (h : j < M.length), M[j] ≠ []) : hdrL M = flatL M := by
  rw [hdr_split M.length M fun j hj _ => h j hj]; simp [hdrL]

theorem idx_skip {r t : List UInt8} {c : UInt8} : ∀ (m : List UInt8), c ∉ m → Lib.index (m ++ r) (c :: t) = if Lib.index r (c :: t) = -1 then -1 else Lib.index r (c :: t) + m.length
  | [], _ => by
    by_cases h : Lib.index r (c :: t) = -1
    · rw [if_pos h]; simpa using h
    · rw [if_neg h]; simp
  | b :: m, h => by
    have hb : (c == b) = false := beq_eq_false_iff_ne.2 fun e => h (by rw [e]; exact List.mem_cons_self)
    have ih := idx_skip (r := r) (t := t) m fun hm => h (List.mem_cons_of_mem _ hm)
    have hp : (c :: t).isPrefixOf (b :: (m ++ r)) = false := by simp [List.isPrefixOf, hb]
    rw [List.cons_append, Lib.index, if_neg (by rw [hp]; decide), ih]
    by_cases hr : Lib.index r (c :: t) = -1
    · simp [hr]
    · have h0 := Lib.index_ge r (c :: t)
      rw [if_neg hr]
      have : (Lib.index r (c :: t) + (m.length : Int) == -1) = false := beq_eq_false_iff_ne.2 (by omega)
      simp only [this, if_neg hr, Bool.false_eq_true, if_false, List.length_cons]
      omega
theorem idx_miss {b : UInt8} {l p : List UInt8} (hp : p.isPrefixOf (b :: l) = false) : Lib.index (b :: l) p = if Lib.index l p = -1 then -1 else Lib.index l p + 1 := by
  rw [Lib.index, if_neg (by rw [hp]; decide)]
  by_cases h : Lib.index l p = -1
  · simp [h]
  · simp [h]
theorem hdr_idx : ∀ (M : List (List UInt8)), (∀ m ∈ M, (13 : UInt8) ∉ m) →
    (Lib.index (13 :: 10 :: flatL M) [13, 10, 13, 10] = -1 ∧ hdrL M = flatL M) ∨ ∃ i : Nat, Lib.index (13 :: 10 :: flatL M) [13, 10, 13, 10] = (i : Int) ∧ i ≤ (flatL M).length ∧ hdrL M = (flatL M).take i
  | [], _ => .inl ⟨by decide, rfl⟩
  | [] :: M, _ => .inr ⟨0, by simp [flatL_cons, Lib.index, List.isPrefixOf], Nat.zero_le _, by simp [hdrL]⟩
  | (b :: m) :: M, h => by
    have hm : (13 : UInt8) ∉ b :: m := h _ List.mem_cons_self
    have hb : ((13 : UInt8) == b) = false := beq_eq_false_iff_ne.2 fun e => hm (by rw [e]; exact List.mem_cons_self)
    have ih := hdr_idx M fun x hx => h x (List.mem_cons_of_mem _ hx)
    have e : flatL ((b :: m) :: M) = (b :: m) ++ (13 :: 10 :: flatL M) := by rw [flatL_cons]; simp
    have e2 : hdrL ((b :: m) :: M) = (b :: m) ++ (13 :: 10 :: hdrL M) := by rw [hdrL, if_neg (by simp)]; simp
    have hs := idx_skip (r := 13 :: 10 :: flatL M) (t := [10, 13, 10]) (b :: m) hm
    have p1 : ([13, 10, 13, 10] : List UInt8).isPrefixOf (13 :: 10 :: ((b :: m) ++ (13 :: 10 :: flatL M))) = false := by simp [List.isPrefixOf, hb]
    have p2 : ([13, 10, 13, 10] : List UInt8).isPrefixOf (10 :: ((b :: m) ++ (13 :: 10 :: flatL M))) = false := by simp [List.isPrefixOf]
    rw [e, e2, idx_miss p1, idx_miss p2, hs]
    rcases ih with ⟨i1, i2⟩ | ⟨i, i1, i2, i3⟩
    · left
      rw [i1, i2]; simp
    · right
      refine ⟨i + 2 + (b :: m).length, ?_, ?_, ?_⟩
      · rw [i1, if_neg (by omega), if_neg (by omega), if_neg (by omega)]
        simp; omega
      · simp; omega
      · rw [i3, show i + 2 + (b :: m).length = (b :: m).length + (i + 1 + 1) by omega, List.take_length_add_append, List.take_succ_cons, List.take_succ_cons]
theorem head_idx {s : ByteArray} (h : bodyOk s = true) :
    (Lib.index (13 :: 10 :: s.data.toList) [13, 10, 13, 10] = -1 ∧ headB s = s) ∨ ∃ i : Nat, Lib.index (13 :: 10 :: s.data.toList) [13, 10, 13, 10] = (i : Int) ∧ i ≤ s.size ∧ headB s = s.extract 0 i := by
  have h1 := h
  unfold bodyOk linesOk at h1
  simp only [Bool.and_eq_true, decide_eq_true_eq] at h1
  have hj := body_join h1.2.2
  have hm : ∀ m ∈ (pieces ⟨#[13, 10]⟩ s).dropLast.map (·.data.toList), (13 : UInt8) ∉ m := fun m hm => by
    obtain ⟨x, hx, rfl⟩ := List.mem_map.1 hm
    exact line_no13 (List.all_eq_true.1 h1.2.1 x hx)
  have hi := hdr_idx _ hm
  rw [head_ok h rfl]
  change flatL _ = _ at hj
  rw [hj] at hi
  rcases hi with ⟨i1, i2⟩ | ⟨i, i1, i2, i3⟩
  · exact .inl ⟨i1, by rw [i2]; exact mk_data s⟩
  · refine .inr ⟨i, i1, by rw [Lib.size_eq]; exact i2, ?_⟩
    rw [i3, ← mk_data (s.extract 0 i), Lib.extract_data]; simp
end Go.Proofs.YtlolnfpfipnfeaaGreatDoor
