import Derived.Test.YtngcjlghjidnjaaGreatDoorMg5
import Derived.Test.YtngcjlghjidnjaaGreatDoorMg7
import Derived.Test.YtngcjlghjidnjaaGreatDoorMg4
namespace Go.Proofs.YtngcjlghjidnjaaGreatDoor
open Pcs

theorem has_list (l : List UInt8) (c : Nat) : hasN (mk l) c = l.any fun b => b.toNat == c := by
  unfold hasN
  rw [okAll_list, show (mk l).data.toList = l from rfl, Bool.eq_iff_iff]
  simp
theorem brk_prefix {a b : List UInt8} (h : a <+: b) (hb : brkN (mk a) = true) : brkN (mk b) = true := by
  obtain ⟨t, rfl⟩ := h
  unfold brkN at *
  rw [has_list, has_list] at *
  rw [List.any_append, List.any_append]
  rcases Bool.or_eq_true _ _ ▸ hb with h | h
  · rw [h]; rfl
  · rw [h]; simp
theorem trim_prefix (l : List UInt8) : Lib.trimSuffix l [13] <+: l := by
  unfold Lib.trimSuffix; split
  · exact List.take_prefix _ _
  · exact List.prefix_refl _
theorem trim_ge (l : List UInt8) : l.length ≤ (Lib.trimSuffix l [13]).length + 1 := by
  unfold Lib.trimSuffix; split
  · simp only [List.length_take, List.length_cons, List.length_nil]; omega
  · omega
/-- a prefix that is not longer than another is a prefix of it -/
theorem prefix_both {a b l : List UInt8} (h1 : a <+: l) (h2 : b <+: l) (h : a.length ≤ b.length) : a <+: b := List.prefix_of_prefix_length_le h1 h2 h

theorem prs_used : ∀ (k : Nat) {c : Option Nat} {acc : List ByteArray} {u : Nat} {r : List UInt8} {n : Nat} {L : List ByteArray} {m : Nat}, prs k c acc u r = (some (some (n, L, m))) → u ≤ m
  | 0, _, _, _, _, _, _, _, h => by cases h
  | k + 1, c, acc, u, r, n, L, m, h => by
    rcases Lib.index_spec r [13, 10] with ⟨e, _⟩ | ⟨j, e, hj, _⟩
    · rw [prs_cut e] at h; split at h <;> cases h
    · rw [prs_line e rfl] at h
      split at h
      · split at h
        · cases h; omega
        · have := prs_used k h; omega
      · cases h

/-- what is read of a front of the text -/
theorem prs_mono : ∀ (k : Nat) (c : Option Nat) (acc : List ByteArray) (u m : Nat) (r : List UInt8), m ≤ r.length →
    match prs k c acc u (r.take m) with
    | none => prs k c acc u r = none
    | (some (some (n, L, x))) => prs k c acc u r = (some (some (n, L, x)))
    | (some none) => ∀ n L x, prs k c acc u r = (some (some (n, L, x))) → u + m < x
  | 0, _, _, _, _, _, _ => rfl
  | k + 1, c, acc, u, m, r, hm => by
    rcases index_take (r := r) (m := m) with ⟨i, h1, h2, h3⟩ | ⟨h1, h2⟩
    · have hl : mk ((r.take m).take i) = mk (r.take i) := by rw [List.take_take, Nat.min_eq_left (by omega)]
      rw [prs_line h3 hl, prs_line h1 rfl]
      by_cases hok : (lineR (mk (r.take i)) && (c == none || c == some (codeN (mk (r.take i))))) = true
      · rw [if_pos hok, if_pos hok]
        by_cases hla : lastN (mk (r.take i)) = true
        · rw [if_pos hla, if_pos hla]
        · rw [if_neg hla, if_neg hla]
          have := prs_mono k (some (codeN (mk (r.take i)))) (acc ++ [textB (mk (r.take i))]) (u + (i + 2)) (m - (i + 2)) (r.drop (i + 2)) (by rw [List.length_drop]; omega)
          rw [List.drop_take]
          generalize prs k (some (codeN (mk (r.take i)))) (acc ++ [textB (mk (r.take i))]) (u + (i + 2)) ((r.drop (i + 2)).take (m - (i + 2))) = A at *
          rcases A with _ | _ | ⟨n, L, x⟩
          · exact this
          · intro n L x hx
            have := this n L x hx
            omega
          · exact this
      · rw [if_neg hok, if_neg hok]
    · rw [prs_cut h2]
      by_cases hmo : moreN (mk (r.take m)) = true
      · rw [if_pos hmo]
        intro n L x hx
        rcases Lib.index_spec r [13, 10] with ⟨e, _⟩ | ⟨j, e, hj, _⟩
        · rw [prs_cut e] at hx; split at hx <;> cases hx
        · have hj2 := h1 j e
          rw [prs_line e rfl] at hx
          split at hx
          · split at hx
            · cases hx; omega
            · have := prs_used k hx; omega
          · cases hx
      · rw [if_neg hmo]
        show prs (k + 1) c acc u r = none
        have hcase : 512 ≤ m ∨ brkN (mk (Lib.trimSuffix (r.take m) [13])) = true := by
          unfold moreN at hmo
          rw [mk_size, List.length_take, Nat.min_eq_left hm, show (mk (r.take m)).data.toList = r.take m from rfl] at hmo
          by_cases h : m < 512
          · right
            rw [decide_eq_true h, Bool.true_and, Bool.not_eq_true, Bool.not_eq_false'] at hmo
            exact hmo
          · left; omega
        have hpre : Lib.trimSuffix (r.take m) [13] <+: r := (trim_prefix _).trans (List.take_prefix _ _)
        have hple : (Lib.trimSuffix (r.take m) [13]).length ≤ m := by
          have := (trim_prefix (r.take m)).length_le
          rw [List.length_take] at this; omega
        rcases Lib.index_spec r [13, 10] with ⟨e, _⟩ | ⟨j, e, hj, hocc, _⟩
        · rw [prs_cut e]
          by_cases hrm : r.length = m
          · rw [← hrm, List.take_length] at hmo
            rw [if_neg hmo]
          · have : moreN (mk r) = false := by
              unfold moreN
              rcases hcase with h | h
              · rw [mk_size, decide_eq_false (by omega)]; rfl
              · rw [show (mk r).data.toList = r from rfl, brk_prefix (prefix_both hpre (trim_prefix r) (by have := trim_ge r; omega)) h]; simp
            rw [this]; rfl
        · have hj2 := h1 j e
          have hjl : j + 2 ≤ r.length := by
            rcases Lib.occAt_room hocc with h | h
            · simp only [List.length_cons, List.length_nil] at h; omega
            · cases h
          have : lineR (mk (r.take j)) = false := by
            unfold lineR
            rcases hcase with h | h
            · rw [mk_size, List.length_take, decide_eq_false (by omega)]; rfl
            · have hlen : (Lib.trimSuffix (r.take m) [13]).length ≤ j := by
                by_cases hjm : m ≤ j
                · omega
                · have hjm' : m = j + 1 := by omega
                  subst hjm'
                  have hsuf : Lib.hasSuffix (r.take (j + 1)) [13] = true := by
                    unfold Lib.hasSuffix
                    rw [List.isSuffixOf_iff_suffix]
                    unfold Lib.occAt at hocc
                    obtain ⟨t, ht⟩ := List.isPrefixOf_iff_prefix.1 hocc
                    refine ⟨r.take j, ?_⟩
                    have hd : (r.drop j).take 1 = [13] := by rw [← ht]; rfl
                    rw [← hd, ← List.take_add]
                  unfold Lib.trimSuffix
                  rw [if_pos hsuf]
                  simp only [List.length_take, List.length_cons, List.length_nil]; omega
              rw [brk_prefix (prefix_both hpre (List.take_prefix j r) (by rw [List.length_take]; omega)) h]; simp
          rw [prs_line e rfl, this]; rfl
end Go.Proofs.YtngcjlghjidnjaaGreatDoor
namespace Go.Proofs.YtngcjlghjidnjaaGreatDoor
open Go.ChangeShapes Go.WideShapes Go.ChangeAt Go.RowKit
open Pcs

theorem prs_lines : ∀ (k : Nat) {c : Option Nat} {acc : List ByteArray} {u : Nat} {r : List UInt8} {n : Nat} {L : List ByteArray} {m N : Nat}, prs k c acc u r = (some (some (n, L, m))) → (∀ x ∈ acc, x.size ≤ N) → r.length ≤ N → (∀ x ∈ L, x.size ≤ N) ∧ L.length ≤ acc.length + k ∧ m ≤ u + r.length
  | 0, _, _, _, _, _, _, _, _, h, _, _ => by cases h
  | k + 1, c, acc, u, r, n, L, m, N, h, ha, hr => by
    rcases Lib.index_spec r [13, 10] with ⟨e, _⟩ | ⟨j, e, hj, hocc, _⟩
    · rw [prs_cut e] at h; split at h <;> cases h
    · have hjl : j + 2 ≤ r.length := by
        rcases Lib.occAt_room hocc with h | h
        · simp only [List.length_cons, List.length_nil] at h; omega
        · cases h
      have ha2 : ∀ x ∈ acc ++ [textB (mk (r.take j))], x.size ≤ N := by
        intro x hx
        rcases List.mem_append.1 hx with h1 | h1
        · exact ha x h1
        · rw [List.mem_singleton.1 h1]
          unfold textB
          rw [ByteArray.size_extract, mk_size, List.length_take]; omega
      rw [prs_line e rfl] at h
      split at h
      · split at h
        · cases h
          exact ⟨ha2, by simp, by omega⟩
        · have := prs_lines k h ha2 (by rw [List.length_drop]; omega)
          rw [List.length_drop, List.length_append] at this
          simp only [List.length_cons, List.length_nil] at this
          exact ⟨this.1, by omega, by omega⟩
      · cases h
theorem parse_lines (s : ByteArray) : (∀ x ∈ prLines (parse s), x.size ≤ s.size) ∧ (prLines (parse s)).length ≤ 50 ∧ prUsed (parse s) ≤ s.size := by
  rcases h : parse s with _ | _ | ⟨n, L, m⟩
  · exact ⟨(fun x hx => by cases hx), Nat.zero_le _, Nat.zero_le _⟩
  · exact ⟨(fun x hx => by cases hx), Nat.zero_le _, Nat.zero_le _⟩
  · have := prs_lines 50 (N := s.size) h (fun x hx => by cases hx) (by rw [← Lib.size_eq]; exact Nat.le_refl _)
    rw [← Lib.size_eq] at this
    exact ⟨this.1, by show L.length ≤ 50; simpa using this.2.1, by show m ≤ s.size; simpa using this.2.2⟩
theorem strs_form {w : World} {lo : Nat} {v : Value} {L : List ByteArray} (h : Strs w lo v L) : ∃ a c, v = .slice a L.length c := by
  rcases h.cases with ⟨rfl, rfl⟩ | ⟨g, cap, rfl, _⟩
  · exact ⟨_, _, rfl⟩
  · exact ⟨_, _, rfl⟩
end Go.Proofs.YtngcjlghjidnjaaGreatDoor
namespace Go.Proofs.YtngcjlghjidnjaaGreatDoor
open Go.ChangeShapes Go.WideShapes Go.ChangeAt Go.RowKit

set_option maxHeartbeats 1000000 in
set_option maxRecDepth 100000 in
theorem specLetter (c : Nat) (w : World) :
    Calls Tryz.prog 105 #[.int .u8 (c : Int)] w fun e w' => e = .returned (.bool (letN c)) ∧ w' = w := by
  go_enter Tryz.func105, Tryz.ntmps105
  go_wp2
  all_goals go_ret
  all_goals refine ⟨ret_bool ?_, rfl⟩
  all_goals (rw [Bool.eq_iff_iff]; simp [letN, smlN, digN]; try omega)

theorem indexByte_pos (l : List UInt8) (c : UInt8) : decide (0 ≤ Lib.indexByte l c) = l.contains c := by
  induction l with
  | nil => rfl
  | cons b l ih =>
    have h1 := Lib.indexByte_ge l c
    rw [Lib.indexByte]
    by_cases h : b = c
    · subst h; simp
    · have hb : (b == c) = false := by simpa using h
      have hcb : (c == b) = false := by simpa using fun e => h e.symm
      rw [if_neg (by rw [hb]; decide), List.contains_cons, hcb, Bool.false_or, ← ih]
      split
      · rename_i h2
        rw [beq_iff_eq] at h2
        rw [h2]
      · rename_i h2
        rw [beq_iff_eq] at h2
        rw [decide_eq_decide]; omega

/-- a small letter, a digit or one of marks -/
def markN (marks : ByteArray) (b : Nat) : Bool := letN b || marks.data.toList.contains (UInt8.ofNat b)

theorem mark_ok {marks : ByteArray} {n : Nat} (h : smlN n = true ∨ digN n = true ∨ marks.data.toList.contains (UInt8.ofNat n) = true) : markN marks n = true := by
  unfold markN letN; rcases h with h | h | h <;> rw [h] <;> simp
theorem mark_no {marks : ByteArray} {n : Nat} (h1 : smlN n = false) (h2 : digN n = false) (h3 : marks.data.toList.contains (UInt8.ofNat n) = false) : markN marks n = false := by
  unfold markN letN; rw [h1, h2, h3]; rfl
theorem sml_ok {n : Nat} (h1 : 97 ≤ (n : Int)) (h2 : (n : Int) ≤ 122) : smlN n = true := by simp [smlN]; omega
theorem sml_lo {n : Nat} (h1 : (n : Int) < 97) : smlN n = false := by simp [smlN]; omega
theorem sml_hi {n : Nat} (h1 : 122 < (n : Int)) : smlN n = false := by simp [smlN]; omega
theorem idx_ok {marks : ByteArray} {n : Nat} (h : 0 ≤ Lib.indexByte marks.data.toList (n : Int).toNat.toUInt8) : marks.data.toList.contains (UInt8.ofNat n) = true := by
  rw [← indexByte_pos]; exact decide_eq_true h
theorem idx_no {marks : ByteArray} {n : Nat} (h : Lib.indexByte marks.data.toList (n : Int).toNat.toUInt8 < 0) : marks.data.toList.contains (UInt8.ofNat n) = false := by
  rw [← indexByte_pos]; exact decide_eq_false (Int.not_le.2 h)

set_option maxHeartbeats 1000000 in
set_option maxRecDepth 100000 in
theorem implMade (s marks : ByteArray) (w : World) (hs : s.size ≤ 1048576) :
    Calls Tryz.prog 107 #[.string s, .string marks] w fun e w' => e = .returned (.bool (okAll (markN marks) s)) ∧ w' = w := by
  go_enter Tryz.func107, Tryz.ntmps107
  go_wp2
  go_loop [9] (fun i => ∃ k : Nat, k ≤ s.size ∧ i = .int .i64 k ∧ Hid (∀ j, j < k → markN marks (byteOf s j) = true)) (fun i => s.size - (intOf i).toNat)
  case atStart => exact ⟨0, Nat.zero_le _, rfl, fun j h => absurd h (Nat.not_lt_zero _)⟩
  case round =>
    obtain ⟨k, hk, rfl, HA⟩ := hrel
    by_cases hlt : k < s.size
    · have HB : Hid (byteOf s k = s[k].toNat) := byteOf_eq s k hlt
      have GO : Hid ((smlN s[k].toNat = true ∨ digN s[k].toNat = true ∨ marks.data.toList.contains (UInt8.ofNat s[k].toNat) = true) → (∃ k1 : Nat, k1 ≤ s.size ∧ Value.int .i64 ((k : Int) + 1) = .int .i64 k1 ∧ Hid (∀ j, j < k1 → markN marks (byteOf s j) = true)) ∧ s.size - (intOf (.int .i64 ((k : Int) + 1))).toNat < s.size - (intOf (.int .i64 (k : Int))).toNat) := by
        intro h
        refine ⟨⟨k + 1, by omega, by go_num, fun j hj => ?_⟩, by simp [intOf]; omega⟩
        rcases Nat.lt_succ_iff_lt_or_eq.1 hj with hj | rfl
        · exact HA.out j hj
        · rw [HB.out]; exact mark_ok h
      have STOP : Hid (smlN s[k].toNat = false → digN s[k].toNat = false → marks.data.toList.contains (UInt8.ofNat s[k].toNat) = false → okAll (markN marks) s = false) :=
        fun h1 h2 h3 => okAll_false hlt (by rw [HB.out]; exact mark_no h1 h2 h3)
      by_cases hs1 : (97 : Int) ≤ s[k].toNat ∧ (s[k].toNat : Int) ≤ 122
      · obtain ⟨h1, h2⟩ := hs1
        have G := GO.out (.inl (sml_ok h1 h2))
        clear GO STOP
        go_wp2
        exact G
      · by_cases hs2 : digN s[k].toNat = true
        · have G := GO.out (.inr (.inl hs2))
          clear GO STOP
          by_cases h1 : (97 : Int) ≤ s[k].toNat
          · have h2 : ¬ (s[k].toNat : Int) ≤ 122 := fun h => hs1 ⟨h1, h⟩
            clear hs1
            go_wp2_with (go_at_call 136; refine (implDigit _ _).mono ?_; rintro e w' ⟨rfl, rfl⟩)
            exact G
          · clear hs1
            go_wp2_with (go_at_call 136; refine (implDigit _ _).mono ?_; rintro e w' ⟨rfl, rfl⟩)
            exact G
        · have hs2f : digN s[k].toNat = false := Bool.eq_false_iff.2 hs2
          clear hs2
          by_cases hx : 0 ≤ Lib.indexByte marks.data.toList s[k]
          · have G := GO.out (.inr (.inr (idx_ok (by simpa using hx))))
            clear GO STOP
            by_cases h1 : (97 : Int) ≤ s[k].toNat
            · have h2 : ¬ (s[k].toNat : Int) ≤ 122 := fun h => hs1 ⟨h1, h⟩
              clear hs1
              go_wp2_with (first
                | (go_at_call 136; refine (implDigit _ _).mono ?_; rintro e w' ⟨rfl, rfl⟩)
                | (go_at_call 137; refine (Any.strings_IndexByte Tryz.lays137 _ _ _).mono ?_; rintro e w' ⟨rfl, rfl⟩))
              exact G
            · clear hs1
              go_wp2_with (first
                | (go_at_call 136; refine (implDigit _ _).mono ?_; rintro e w' ⟨rfl, rfl⟩)
                | (go_at_call 137; refine (Any.strings_IndexByte Tryz.lays137 _ _ _).mono ?_; rintro e w' ⟨rfl, rfl⟩))
              exact G
          · have hsm : smlN s[k].toNat = false := by
              by_cases h1 : (97 : Int) ≤ s[k].toNat
              · exact sml_hi (by omega)
              · exact sml_lo (by omega)
            have G := STOP.out hsm hs2f (idx_no (by simpa using hx))
            clear GO STOP hsm
            by_cases h1 : (97 : Int) ≤ s[k].toNat
            · have h2 : ¬ (s[k].toNat : Int) ≤ 122 := fun h => hs1 ⟨h1, h⟩
              clear hs1
              go_wp2_with (first
                | (go_at_call 136; refine (implDigit _ _).mono ?_; rintro e w' ⟨rfl, rfl⟩)
                | (go_at_call 137; refine (Any.strings_IndexByte Tryz.lays137 _ _ _).mono ?_; rintro e w' ⟨rfl, rfl⟩))
              go_ret
              exact ⟨ret_bool G.symm, rfl⟩
            · clear hs1
              go_wp2_with (first
                | (go_at_call 136; refine (implDigit _ _).mono ?_; rintro e w' ⟨rfl, rfl⟩)
                | (go_at_call 137; refine (Any.strings_IndexByte Tryz.lays137 _ _ _).mono ?_; rintro e w' ⟨rfl, rfl⟩))
              go_ret
              exact ⟨ret_bool G.symm, rfl⟩
    · go_wp2
      go_ret
      exact ⟨ret_bool (okAll_true fun j hj => HA.out j (by omega)).symm, rfl⟩

/-- a label: 1 to 63 bytes, no minus at its ends, small letters, digits and minuses -/
def labOk (s : ByteArray) : Bool := decide (1 ≤ s.size) && decide (s.size ≤ 63) && (byteOf s 0 != 45) && (byteOf s (s.size - 1) != 45) && okAll (fun b => letN b || b == 45) s
theorem markMinus : okAll (markN ⟨#[45]⟩) = okAll fun b => letN b || b == 45 := by
  funext s
  refine okAll_congr fun b hb => ?_
  unfold markN
  congr 1
  rw [Bool.eq_iff_iff]
  simp only [List.contains_cons, List.contains_nil, Bool.or_false, beq_iff_eq]
  constructor
  · intro h
    have := congrArg UInt8.toNat h
    simpa [Nat.mod_eq_of_lt hb] using this
  · rintro rfl; rfl
theorem lab_empty {s : ByteArray} (h : s.size < 1) : labOk s = false := by
  unfold labOk; rw [decide_eq_false (by omega)]; simp
theorem lab_long {s : ByteArray} (h : 63 < s.size) : labOk s = false := by
  unfold labOk; rw [decide_eq_false (p := s.size ≤ 63) (by omega)]; simp
theorem lab_first {s : ByteArray} (h : byteOf s 0 = 45) : labOk s = false := by
  unfold labOk; rw [h]; simp
theorem lab_last {s : ByteArray} (h : byteOf s (s.size - 1) = 45) : labOk s = false := by
  unfold labOk; rw [h]; simp
theorem lab_rest {s : ByteArray} (h1 : 1 ≤ s.size) (h2 : s.size ≤ 63) (h3 : byteOf s 0 ≠ 45) (h4 : byteOf s (s.size - 1) ≠ 45) : labOk s = okAll (fun b => letN b || b == 45) s := by
  unfold labOk; rw [decide_eq_true h1, decide_eq_true h2, bne_iff_ne.2 h3, bne_iff_ne.2 h4]; simp

set_option maxHeartbeats 1000000 in
set_option maxRecDepth 100000 in
theorem implLabel (s : ByteArray) (w : World) (hs : s.size ≤ 1048576) :
    Calls Tryz.prog 80 #[.string s] w fun e w' => e = .returned (.bool (labOk s)) ∧ w' = w := by
  by_cases h0 : s.size < 1
  · have e0 : s = ByteArray.empty := by
      have : s.data.size = 0 := by have := h0; change s.data.size < 1 at this; omega
      obtain ⟨d⟩ := s
      simp at this; subst this; rfl
    subst e0
    go_enter Tryz.func80, Tryz.ntmps80
    go_wp2
    go_ret
    exact ⟨ret_bool (lab_empty h0).symm, rfl⟩
  · have h1 : 0 < s.size := by omega
    have h1i : (0 : Int) < s.size := by omega
    have hne : (s.toList == []) = false := by
      rw [ByteArray.toList_eq]
      rw [beq_eq_false_iff_ne]; intro e
      have := Lib.size_eq s; rw [e, List.length_nil] at this; omega
    have hl1 : s.size - 1 < s.size := by omega
    have hl2 : ((s.size : Int) - 1).toNat = s.size - 1 := by omega
    have B0 := byteOf_eq s 0 h1
    have B1 := byteOf_eq s (s.size - 1) hl1
    by_cases h63 : (63 : Int) < s.size
    · go_enter Tryz.func80, Tryz.ntmps80
      go_wp2
      go_ret
      exact ⟨ret_bool (lab_long (by omega)).symm, rfl⟩
    · by_cases hz : (s[0].toNat : Int) = 45
      · go_enter Tryz.func80, Tryz.ntmps80
        go_wp2
        go_ret
        exact ⟨ret_bool (lab_first (by omega)).symm, rfl⟩
      · have hzb : ((s[0].toNat : Int) == 45) = false := beq_eq_false_iff_ne.2 hz
        by_cases hy : (s[s.size - 1].toNat : Int) = 45
        · go_enter Tryz.func80, Tryz.ntmps80
          go_wp2
          go_ret
          exact ⟨ret_bool (lab_last (by omega)).symm, rfl⟩
        · have hyb : ((s[s.size - 1].toNat : Int) == 45) = false := beq_eq_false_iff_ne.2 hy
          have E : Hid (labOk s = okAll (markN ⟨#[45]⟩) s) := by
            show _ = _
            rw [markMinus]; exact lab_rest (by omega) (by omega) (by omega) (by omega)
          clear B0 B1 hz hy
          go_enter Tryz.func80, Tryz.ntmps80
          go_wp2_with (go_at_call 107; refine (implMade _ _ _ hs).mono ?_; rintro e w' ⟨rfl, rfl⟩)
          go_ret
          exact ⟨ret_bool E.out.symm, rfl⟩

set_option maxHeartbeats 1000000 in
set_option maxRecDepth 100000 in
theorem specLabel (s : ByteArray) (w : World) (hs : s.size ≤ 1048576) :
    Calls Tryz.prog 76 #[.string s] w fun e w' => e = .returned (.bool (labOk s)) ∧ w' = w := by
  by_cases h0 : s.size < 1
  · go_enter Tryz.func76, Tryz.ntmps76
    go_wp2
    go_ret
    exact ⟨ret_bool (lab_empty h0).symm, rfl⟩
  · have h1 : 0 < s.size := by omega
    have h1i : (0 : Int) < s.size := by omega
    have hl1 : s.size - 1 < s.size := by omega
    have hl2 : ((s.size : Int) - 1).toNat = s.size - 1 := by omega
    have B0 := byteOf_eq s 0 h1
    have B1 := byteOf_eq s (s.size - 1) hl1
    by_cases h63 : (63 : Int) < s.size
    · go_enter Tryz.func76, Tryz.ntmps76
      go_wp2
      go_ret
      exact ⟨ret_bool (lab_long (by omega)).symm, rfl⟩
    · by_cases hz : (s[0].toNat : Int) = 45
      · go_enter Tryz.func76, Tryz.ntmps76
        go_wp2
        go_ret
        exact ⟨ret_bool (lab_first (by omega)).symm, rfl⟩
      · have hzb : ((s[0].toNat : Int) == 45) = false := beq_eq_false_iff_ne.2 hz
        by_cases hy : (s[s.size - 1].toNat : Int) = 45
        · go_enter Tryz.func76, Tryz.ntmps76
          go_wp2
          go_ret
          exact ⟨ret_bool (lab_last (by omega)).symm, rfl⟩
        · have hyb : ((s[s.size - 1].toNat : Int) == 45) = false := beq_eq_false_iff_ne.2 hy
          have E : Hid (labOk s = okAll (fun b => letN b || b == 45) s) := by
            show _ = _
            exact lab_rest (by omega) (by omega) (by omega) (by omega)
          clear B0 B1 hz hy
          go_enter Tryz.func76, Tryz.ntmps76
          go_wp2
          go_loop [3] (fun i => ∃ k : Nat, k ≤ s.size ∧ i = .int .i64 k ∧ Hid (∀ j, j < k → (letN (byteOf s j) || byteOf s j == 45) = true)) (fun i => s.size - (intOf i).toNat)
          case atStart => exact ⟨0, Nat.zero_le _, rfl, fun j h => absurd h (Nat.not_lt_zero _)⟩
          case round =>
            obtain ⟨k, hk, rfl, HA⟩ := hrel
            by_cases hlt : k < s.size
            · have HB : Hid (byteOf s k = s[k].toNat) := byteOf_eq s k hlt
              have GO : Hid ((letN s[k].toNat || s[k].toNat == 45) = true → (∃ k1 : Nat, k1 ≤ s.size ∧ Value.int .i64 ((k : Int) + 1) = .int .i64 k1 ∧ Hid (∀ j, j < k1 → (letN (byteOf s j) || byteOf s j == 45) = true)) ∧ s.size - (intOf (.int .i64 ((k : Int) + 1))).toNat < s.size - (intOf (.int .i64 (k : Int))).toNat) := by
                intro h
                refine ⟨⟨k + 1, by omega, by go_num, fun j hj => ?_⟩, by simp [intOf]; omega⟩
                rcases Nat.lt_succ_iff_lt_or_eq.1 hj with hj | rfl
                · exact HA.out j hj
                · rw [HB.out]; exact h
              by_cases hl : letN s[k].toNat = true
              · have G := GO.out (by rw [hl]; rfl)
                clear GO
                go_wp2_with (go_at_call 105; refine (specLetter _ _).mono ?_; rintro e w' ⟨rfl, rfl⟩)
                exact G
              · have hlf : letN s[k].toNat = false := Bool.eq_false_iff.2 hl
                clear hl
                by_cases hm : (s[k].toNat : Int) = 45
                · have G := GO.out (by rw [hlf, show s[k].toNat = 45 by omega]; rfl)
                  clear GO
                  go_wp2_with (go_at_call 105; refine (specLetter _ _).mono ?_; rintro e w' ⟨rfl, rfl⟩)
                  exact G
                · have hmb : ((s[k].toNat : Int) != 45) = true := bne_iff_ne.2 hm
                  have G : okAll (fun b => letN b || b == 45) s = false := okAll_false hlt (by rw [HB.out, hlf, beq_eq_false_iff_ne.2 (show s[k].toNat ≠ 45 by omega)]; rfl)
                  clear GO
                  go_wp2_with (go_at_call 105; refine (specLetter _ _).mono ?_; rintro e w' ⟨rfl, rfl⟩)
                  go_ret
                  exact ⟨ret_bool (E.out.trans G).symm, rfl⟩
            · go_wp2
              go_ret
              exact ⟨ret_bool (E.out.trans (okAll_true fun j hj => HA.out j (by omega))).symm, rfl⟩
end Go.Proofs.YtngcjlghjidnjaaGreatDoor
