import Derived.Test.YthblkfdgibonbaaBrk2
namespace Go.Proofs.Ythblkfdgibonbaa
open Pcs

/-- a whole line of a reply, its end aside -/
def lineR (c : ByteArray) : Bool := decide (c.size ≤ 510) && (!brkN c && (decide (3 ≤ c.size) && (digN (byteOf c 0) && (digN (byteOf c 1) && (digN (byteOf c 2) && (decide (50 ≤ byteOf c 0) && (decide (byteOf c 0 ≤ 53) && (decide (c.size = 3) || (byteOf c 3 == 32 || byteOf c 3 == 45)))))))))
def codeN (c : ByteArray) : Nat := ((byteOf c 0 - 48) * 10 + (byteOf c 1 - 48)) * 10 + (byteOf c 2 - 48)
def lastN (c : ByteArray) : Bool := decide (c.size = 3) || byteOf c 3 == 32
def textB (c : ByteArray) : ByteArray := c.extract (min 4 c.size) c.size
/-- no line yet, but it may become one -/
def moreN (r : ByteArray) : Bool := decide (r.size < 512) && !brkN (mk (Lib.trimSuffix r.data.toList [13]))

abbrev Prs := Option (Option (Nat × List ByteArray × Nat))

/-- a reply out of a text: k: how many lines it may still have; c: the code of the lines ahead; acc: their texts; u: their bytes -/
def prs : Nat → Option Nat → List ByteArray → Nat → List UInt8 → Prs
  | 0, _, _, _, _ => none
  | k + 1, c, acc, u, r =>
    if Lib.index r [13, 10] == -1 then (if moreN (mk r) then (some none) else none)
    else
      let i := (Lib.index r [13, 10]).toNat
      let l := mk (r.take i)
      if lineR l && (c == none || c == some (codeN l)) then
        (if lastN l then (some (some (codeN l, acc ++ [textB l], u + (i + 2)))) else prs k (some (codeN l)) (acc ++ [textB l]) (u + (i + 2)) (r.drop (i + 2)))
      else none
def parse (s : ByteArray) : Prs := prs 50 none [] 0 s.data.toList

theorem prs_cut {k : Nat} {c : Option Nat} {acc : List ByteArray} {u : Nat} {r : List UInt8} (h : Lib.index r [13, 10] = -1) : prs (k + 1) c acc u r = if moreN (mk r) then (some none) else none := by
  rw [prs, if_pos (beq_iff_eq.2 h)]
theorem prs_line {k : Nat} {c : Option Nat} {acc : List ByteArray} {u : Nat} {r : List UInt8} {i : Nat} {l : ByteArray} (h : Lib.index r [13, 10] = i) (hl : mk (r.take i) = l) :
    prs (k + 1) c acc u r = if lineR l && (c == none || c == some (codeN l)) then (if lastN l then (some (some (codeN l, acc ++ [textB l], u + (i + 2)))) else prs k (some (codeN l)) (acc ++ [textB l]) (u + (i + 2)) (r.drop (i + 2))) else none := by
  have hm : ¬ (Lib.index r [13, 10] == -1) = true := fun e => by have := beq_iff_eq.1 e; omega
  have e : (Lib.index r [13, 10]).toNat = i := by omega
  subst hl
  rw [prs, if_neg hm]
  simp only [e]

/-- where the end of a line stands in a front of the text -/
theorem index_take {r : List UInt8} {m : Nat} : (∃ i : Nat, Lib.index r [13, 10] = i ∧ i + 2 ≤ m ∧ Lib.index (r.take m) [13, 10] = i) ∨ ((∀ i : Nat, Lib.index r [13, 10] = i → m < i + 2) ∧ Lib.index (r.take m) [13, 10] = -1) := by
  have occ : ∀ j, j + 2 ≤ m → Lib.occAt (r.take m) [13, 10] j = Lib.occAt r [13, 10] j := by
    intro j hj
    unfold Lib.occAt
    rw [List.drop_take, Bool.eq_iff_iff, List.isPrefixOf_iff_prefix, List.isPrefixOf_iff_prefix]
    constructor
    · intro h; exact h.trans (List.take_prefix _ _)
    · rintro ⟨t, ht⟩
      refine ⟨t.take (m - j - 2), ?_⟩
      obtain ⟨q, hq⟩ : ∃ q, m - j = q + 2 := ⟨m - j - 2, by omega⟩
      rw [← ht, hq, Nat.add_sub_cancel]; rfl
  have none_ : ∀ j, m < j + 2 → Lib.occAt (r.take m) [13, 10] j = false := by
    intro j hj
    rw [Bool.eq_false_iff]; intro e
    rcases Lib.occAt_room e with h | h
    · simp only [List.length_cons, List.length_nil, List.length_take] at h; omega
    · cases h
  rcases Lib.index_spec r [13, 10] with ⟨h1, h2⟩ | ⟨i, h1, h2, h3, h4⟩
  · right
    refine ⟨fun i hi => by omega, Lib.index_none fun j _ => ?_⟩
    by_cases hj : j + 2 ≤ m
    · rw [occ j hj]
      by_cases hl : j ≤ r.length
      · exact h2 j hl
      · rw [Bool.eq_false_iff]; intro e
        rcases Lib.occAt_room e with h | h
        · omega
        · cases h
    · exact none_ j (by omega)
  · by_cases hi : i + 2 ≤ m
    · left
      refine ⟨i, h1, hi, Lib.index_first ?_ (by rw [occ i hi]; exact h3) fun j hj => by rw [occ j (by omega)]; exact h4 j hj⟩
      rcases Lib.occAt_room h3 with h | h
      · simp only [List.length_cons, List.length_nil] at h
        rw [List.length_take]; omega
      · cases h
    · right
      refine ⟨fun i' hi' => by omega, Lib.index_none fun j _ => ?_⟩
      by_cases hj : j + 2 ≤ m
      · rw [occ j hj]; exact h4 j (by omega)
      · exact none_ j (by omega)

/-- a front that is long enough is read as the whole -/
theorem prs_take : ∀ (k : Nat) (c : Option Nat) (acc : List ByteArray) (u m : Nat) (r : List UInt8), 512 * (k + 1) ≤ m → prs k c acc u (r.take m) = prs k c acc u r
  | 0, _, _, _, _, _, _ => rfl
  | k + 1, c, acc, u, m, r, hm => by
    by_cases hr : r.length ≤ m
    · rw [List.take_of_length_le hr]
    · rcases index_take (r := r) (m := m) with ⟨i, h1, h2, h3⟩ | ⟨h1, h2⟩
      · have hl : mk ((r.take m).take i) = mk (r.take i) := by rw [List.take_take, Nat.min_eq_left (by omega)]
        rw [prs_line h3 hl, prs_line h1 rfl]
        by_cases hok : (lineR (mk (r.take i)) && (c == none || c == some (codeN (mk (r.take i))))) = true
        · rw [if_pos hok, if_pos hok]
          have hsz : i ≤ 510 := by
            rw [Bool.and_eq_true] at hok
            have := hok.1
            unfold lineR at this
            rw [Bool.and_eq_true, decide_eq_true_eq, mk_size, List.length_take] at this
            have hi : i ≤ r.length := by
              rcases Lib.index_spec r [13, 10] with ⟨e, _⟩ | ⟨j, e, hj, _⟩ <;> omega
            omega
          have := prs_take k (some (codeN (mk (r.take i)))) (acc ++ [textB (mk (r.take i))]) (u + (i + 2)) (m - (i + 2)) (r.drop (i + 2)) (by omega)
          rw [List.drop_take, this]
        · rw [if_neg hok, if_neg hok]
      · rw [prs_cut h2]
        have hmo : moreN (mk (r.take m)) = false := by
          unfold moreN
          rw [mk_size, List.length_take, decide_eq_false (by omega)]; rfl
        rw [hmo, if_neg (by decide)]
        rcases Lib.index_spec r [13, 10] with ⟨e, _⟩ | ⟨j, e, hj, _⟩
        · rw [prs_cut e]
          have hmo2 : moreN (mk r) = false := by
            unfold moreN
            rw [mk_size, decide_eq_false (by omega)]; rfl
          rw [hmo2, if_neg (by decide)]
        · have hj2 := h1 j e
          rw [prs_line e rfl]
          have : lineR (mk (r.take j)) = false := by
            unfold lineR
            rw [mk_size, List.length_take, decide_eq_false (by omega)]; rfl
          rw [this]; rfl
end Go.Proofs.Ythblkfdgibonbaa
