import Derived.Test.YthblkfdgibonbaaPrsM
namespace Go.Proofs.Ythblkfdgibonbaa
open Pcs

theorem has_list (l : List UInt8) (c : Nat) : hasN (mk l) c = l.any fun b => b.toNat == c := by
  unfold hasN
  rw [okAll_list, show (mk l).data.toList = l from rfl, Bool.eq_iff_iff]
  simp
theorem brk_prefix {a b : List UInt8} (h : a <+: b) (hb : brkN (mk a) = true) : brkN (mk b) = true := by
  obtain ⟨t, rfl⟩ := h
  unfold brkN at *
  rw [has_list, has_list] at *
  rw [List.any_append, List.any_append]
  rcases Bool.or_eq_true _ _ ▸ hb with h | h
  · rw [h]; rfl
  · rw [h]; simp
theorem trim_prefix (l : List UInt8) : Lib.trimSuffix l [13] <+: l := by
  unfold Lib.trimSuffix; split
  · exact List.take_prefix _ _
  · exact List.prefix_refl _
theorem trim_ge (l : List UInt8) : l.length ≤ (Lib.trimSuffix l [13]).length + 1 := by
  unfold Lib.trimSuffix; split
  · simp only [List.length_take, List.length_cons, List.length_nil]; omega
  · omega
/-- a prefix that is not longer than another is a prefix of it -/
theorem prefix_both {a b l : List UInt8} (h1 : a <+: l) (h2 : b <+: l) (h : a.length ≤ b.length) : a <+: b := List.prefix_of_prefix_length_le h1 h2 h

theorem prs_used : ∀ (k : Nat) {c : Option Nat} {acc : List ByteArray} {u : Nat} {r : List UInt8} {n : Nat} {L : List ByteArray} {m : Nat}, prs k c acc u r = (some (some (n, L, m))) → u ≤ m
  | 0, _, _, _, _, _, _, _, h => by cases h
  | k + 1, c, acc, u, r, n, L, m, h => by
    rcases Lib.index_spec r [13, 10] with ⟨e, _⟩ | ⟨j, e, hj, _⟩
    · rw [prs_cut e] at h; split at h <;> cases h
    · rw [prs_line e rfl] at h
      split at h
      · split at h
        · cases h; omega
        · have := prs_used k h; omega
      · cases h

/-- what is read of a front of the text -/
theorem prs_mono : ∀ (k : Nat) (c : Option Nat) (acc : List ByteArray) (u m : Nat) (r : List UInt8), m ≤ r.length →
    match prs k c acc u (r.take m) with
    | none => prs k c acc u r = none
    | (some (some (n, L, x))) => prs k c acc u r = (some (some (n, L, x)))
    | (some none) => ∀ n L x, prs k c acc u r = (some (some (n, L, x))) → u + m < x
  | 0, _, _, _, _, _, _ => rfl
  | k + 1, c, acc, u, m, r, hm => by
    rcases index_take (r := r) (m := m) with ⟨i, h1, h2, h3⟩ | ⟨h1, h2⟩
    · have hl : mk ((r.take m).take i) = mk (r.take i) := by rw [List.take_take, Nat.min_eq_left (by omega)]
      rw [prs_line h3 hl, prs_line h1 rfl]
      by_cases hok : (lineR (mk (r.take i)) && (c == none || c == some (codeN (mk (r.take i))))) = true
      · rw [if_pos hok, if_pos hok]
        by_cases hla : lastN (mk (r.take i)) = true
        · rw [if_pos hla, if_pos hla]
        · rw [if_neg hla, if_neg hla]
          have := prs_mono k (some (codeN (mk (r.take i)))) (acc ++ [textB (mk (r.take i))]) (u + (i + 2)) (m - (i + 2)) (r.drop (i + 2)) (by rw [List.length_drop]; omega)
          rw [List.drop_take]
          generalize prs k (some (codeN (mk (r.take i)))) (acc ++ [textB (mk (r.take i))]) (u + (i + 2)) ((r.drop (i + 2)).take (m - (i + 2))) = A at *
          rcases A with _ | _ | ⟨n, L, x⟩
          · exact this
          · intro n L x hx
            have := this n L x hx
            omega
          · exact this
      · rw [if_neg hok, if_neg hok]
    · rw [prs_cut h2]
      by_cases hmo : moreN (mk (r.take m)) = true
      · rw [if_pos hmo]
        intro n L x hx
        rcases Lib.index_spec r [13, 10] with ⟨e, _⟩ | ⟨j, e, hj, _⟩
        · rw [prs_cut e] at hx; split at hx <;> cases hx
        · have hj2 := h1 j e
          rw [prs_line e rfl] at hx
          split at hx
          · split at hx
            · cases hx; omega
            · have := prs_used k hx; omega
          · cases hx
      · rw [if_neg hmo]
        show prs (k + 1) c acc u r = none
        have hcase : 512 ≤ m ∨ brkN (mk (Lib.trimSuffix (r.take m) [13])) = true := by
          unfold moreN at hmo
          rw [mk_size, List.length_take, Nat.min_eq_left hm, show (mk (r.take m)).data.toList = r.take m from rfl] at hmo
          by_cases h : m < 512
          · right
            rw [decide_eq_true h, Bool.true_and, Bool.not_eq_true, Bool.not_eq_false'] at hmo
            exact hmo
          · left; omega
        have hpre : Lib.trimSuffix (r.take m) [13] <+: r := (trim_prefix _).trans (List.take_prefix _ _)
        have hple : (Lib.trimSuffix (r.take m) [13]).length ≤ m := by
          have := (trim_prefix (r.take m)).length_le
          rw [List.length_take] at this; omega
        rcases Lib.index_spec r [13, 10] with ⟨e, _⟩ | ⟨j, e, hj, hocc, _⟩
        · rw [prs_cut e]
          by_cases hrm : r.length = m
          · rw [← hrm, List.take_length] at hmo
            rw [if_neg hmo]
          · have : moreN (mk r) = false := by
              unfold moreN
              rcases hcase with h | h
              · rw [mk_size, decide_eq_false (by omega)]; rfl
              · rw [show (mk r).data.toList = r from rfl, brk_prefix (prefix_both hpre (trim_prefix r) (by have := trim_ge r; omega)) h]; simp
            rw [this]; rfl
        · have hj2 := h1 j e
          have hjl : j + 2 ≤ r.length := by
            rcases Lib.occAt_room hocc with h | h
            · simp only [List.length_cons, List.length_nil] at h; omega
            · cases h
          have : lineR (mk (r.take j)) = false := by
            unfold lineR
            rcases hcase with h | h
            · rw [mk_size, List.length_take, decide_eq_false (by omega)]; rfl
            · have hlen : (Lib.trimSuffix (r.take m) [13]).length ≤ j := by
                by_cases hjm : m ≤ j
                · omega
                · have hjm' : m = j + 1 := by omega
                  subst hjm'
                  have hsuf : Lib.hasSuffix (r.take (j + 1)) [13] = true := by
                    unfold Lib.hasSuffix
                    rw [List.isSuffixOf_iff_suffix]
                    unfold Lib.occAt at hocc
                    obtain ⟨t, ht⟩ := List.isPrefixOf_iff_prefix.1 hocc
                    refine ⟨r.take j, ?_⟩
                    have hd : (r.drop j).take 1 = [13] := by rw [← ht]; rfl
                    rw [← hd, ← List.take_add]
                  unfold Lib.trimSuffix
                  rw [if_pos hsuf]
                  simp only [List.length_take, List.length_cons, List.length_nil]; omega
              rw [brk_prefix (prefix_both hpre (List.take_prefix j r) (by rw [List.length_take]; omega)) h]; simp
          rw [prs_line e rfl, this]; rfl
end Go.Proofs.Ythblkfdgibonbaa
