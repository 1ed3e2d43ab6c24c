import Derived.Test.YtlolnfpfipnfeaaGreatDoorMg15
import Derived.Test.YtlolnfpfipnfeaaGreatDoorMg16
import Derived.Test.YtlolnfpfipnfeaaGreatDoorMg14
namespace Go.Proofs.YtlolnfpfipnfeaaGreatDoor
open Go.ChangeShapes Go.WideShapes Go.ChangeAt Go.RowKit
open Pcs

/-- a domain: labels with points between, at most 100 bytes -/
def domOk (s : ByteArray) : Bool := decide (s.size ≤ 100) && (pieces ⟨#[46]⟩ s).all labOk
theorem dom_long {s : ByteArray} (h : 100 < s.size) : domOk s = false := by
  unfold domOk; rw [decide_eq_false (by omega)]; rfl
theorem dom_bad {s : ByteArray} {L : List ByteArray} (e : pieces ⟨#[46]⟩ s = L) {k : Nat} {h : k < L.length} (hl : labOk L[k] = false) : domOk s = false := by
  unfold domOk; rw [e, List.all_eq_false.2 ⟨_, List.getElem_mem h, by rw [hl]; decide⟩, Bool.and_false]
theorem dom_ok {s : ByteArray} {L : List ByteArray} (e : pieces ⟨#[46]⟩ s = L) (h : s.size ≤ 100) (hl : ∀ k (h : k < L.length), labOk L[k] = true) : domOk s = true := by
  unfold domOk; rw [e, decide_eq_true h, Bool.true_and]
  refine List.all_eq_true.2 fun x hx => ?_
  obtain ⟨k, hk, rfl⟩ := List.getElem_of_mem hx
  exact hl k hk
theorem empty_of {x : ByteArray} (h : x.size = 0) : x = ByteArray.empty := by
  obtain ⟨d⟩ := x
  change d.size = 0 at h
  rw [Array.size_eq_zero_iff] at h
  subst h; rfl
theorem list_ne {x : ByteArray} (h : x.size ≠ 0) : (x.toList == []) = false := by
  rw [ByteArray.toList_eq, beq_eq_false_iff_ne]; intro e
  have := Lib.size_eq x
  rw [e, List.length_nil] at this; omega
theorem drew_below {B : Nat} {w wr : World} (h : Below B w wr) (n : Nat) : Below B w (wr.drewN n) := ⟨h.os, h.tape, h.output, h.size, h.block⟩
theorem strs_ne {w : World} {lo : Nat} {v : Value} {L : List ByteArray} (h : Strs w lo v L) (hL : L ≠ []) : ∃ g cap, v = .slice (some ⟨g, 0, none⟩) L.length cap ∧ StrsAt w lo g cap L := by
  rcases h.cases with ⟨_, h0⟩ | h
  · exact absurd h0 hL
  · exact h

set_option maxHeartbeats 1000000 in
set_option maxRecDepth 100000 in
theorem implDomain (s : ByteArray) (w : World) (hl : LenIn w) (hs : s.size ≤ 1048576) :
    Calls Tryz.prog 32 #[.string s] w fun e w' => e = .returned (.bool (domOk s)) ∧ Below w.heap.size w w' := by
  have HL : Hid (LenIn w) := hl
  clear hl
  by_cases hA : 100 < s.size
  · go_enter Tryz.func32, Tryz.ntmps32
    go_wp2
    go_ret
    exact ⟨ret_bool (dom_long hA).symm, Below.refl _ _⟩
  · go_enter Tryz.func32, Tryz.ntmps32
    go_wp2_with fail
    refine (implSplit s _ _ HL.out hs (by decide)).mono ?_
    rintro e w1 ⟨⟨v, rfl, S1⟩, hb1⟩
    obtain ⟨g, cap, rfl, A1⟩ := strs_ne S1 (pieces_ne _ _)
    have hlen := pieces_len ⟨#[46]⟩ s
    have hsz : ∀ k (h : k < (pieces ⟨#[46]⟩ s).length), (pieces ⟨#[46]⟩ s)[k].size ≤ 1048576 := fun k h => Nat.le_trans (pieces_size (List.getElem_mem h)) hs
    generalize hLE : pieces ⟨#[46]⟩ s = L at *
    have HLE : Hid (pieces ⟨#[46]⟩ s = L) := hLE
    clear hLE
    have hcap := A1.cap
    have hlc := A1.len
    unfold maxLen at hcap
    clear S1
    go_wp2
    go_loopw [11] (fun iv wr => ∃ k n : Nat, k ≤ L.length ∧ iv = .int .i64 k ∧ Hid (∀ j (h : j < L.length), j < k → labOk L[j] = true) ∧ wr = w1.drewN n) (fun iv _ => L.length - (intOf iv).toNat)
    case atStart => exact ⟨0, 0, Nat.zero_le _, rfl, fun j _ h => absurd h (Nat.not_lt_zero _), rfl⟩
    case round =>
      obtain ⟨k, n, hk, rfl, HA, rfl⟩ := hrel
      by_cases hlt : k < L.length
      · have ec := A1.cell k hlt
        have hx := hsz k hlt
        have HB : Hid (labOk L[k] = true → ∀ j (h : j < L.length), j < k + 1 → labOk L[j] = true) := by
          intro h1 j h hj
          rcases Nat.lt_succ_iff_lt_or_eq.1 hj with hj | rfl
          · exact HA.out j h hj
          · exact h1
        have HC : Hid (labOk L[k] = false → domOk s = false) := fun h => dom_bad HLE.out h
        generalize L[k] = x at *
        cases hok : labOk x with
        | true =>
          have HD : Hid (∀ j (h : j < L.length), j < k + 1 → labOk L[j] = true) := HB.out hok
          clear HB HC
          go_wp2_with (go_at_call 55; refine (implLabel _ _ hx).mono ?_; rintro e w' ⟨rfl, rfl⟩; rw [hok])
          go_roundw
          case rel => exact ⟨k + 1, n, by omega, by go_num, HD.out, rfl⟩
          case measure => simp [intOf]; omega
        | false =>
          have HD : Hid (domOk s = false) := HC.out hok
          clear HB HC
          go_wp2_with (go_at_call 55; refine (implLabel _ _ hx).mono ?_; rintro e w' ⟨rfl, rfl⟩; rw [hok])
          go_ret
          exact ⟨ret_bool HD.out.symm, drew_below hb1 _⟩
      · go_wp2
        go_ret
        exact ⟨ret_bool (dom_ok HLE.out (by omega) fun j h => HA.out j h (by omega)).symm, drew_below hb1 _⟩

set_option maxHeartbeats 1000000 in
set_option maxRecDepth 100000 in
theorem specDomain (s : ByteArray) (w : World) (hs : s.size ≤ 1048576) :
    Calls Tryz.prog 42 #[.string s] w fun e w' => e = .returned (.bool (domOk s)) ∧ Below w.heap.size w w' := by
  by_cases hA : 100 < s.size
  · go_enter Tryz.func42, Tryz.ntmps42
    go_wp2
    go_ret
    exact ⟨ret_bool (dom_long hA).symm, Below.refl _ _⟩
  · go_enter Tryz.func42, Tryz.ntmps42
    go_wp2_with fail
    refine (specSplit s _ _ hs (by decide) (by decide)).mono ?_
    rintro e w1 ⟨⟨v, rfl, S1⟩, hb1⟩
    obtain ⟨g, cap, rfl, A1⟩ := strs_ne S1 (pieces_ne _ _)
    have hlen := pieces_len ⟨#[46]⟩ s
    have hsz : ∀ k (h : k < (pieces ⟨#[46]⟩ s).length), (pieces ⟨#[46]⟩ s)[k].size ≤ 1048576 := fun k h => Nat.le_trans (pieces_size (List.getElem_mem h)) hs
    generalize hLE : pieces ⟨#[46]⟩ s = L at *
    have HLE : Hid (pieces ⟨#[46]⟩ s = L) := hLE
    clear hLE
    have hcap := A1.cap
    have hlc := A1.len
    unfold maxLen at hcap
    clear S1
    go_wp2
    go_loopw [11] (fun iv wr => ∃ k n : Nat, k ≤ L.length ∧ iv = .int .i64 k ∧ Hid (∀ j (h : j < L.length), j < k → labOk L[j] = true) ∧ wr = w1.drewN n) (fun iv _ => L.length - (intOf iv).toNat)
    case atStart => exact ⟨0, 0, Nat.zero_le _, rfl, fun j _ h => absurd h (Nat.not_lt_zero _), rfl⟩
    case round =>
      obtain ⟨k, n, hk, rfl, HA, rfl⟩ := hrel
      by_cases hlt : k < L.length
      · have ec := A1.cell k hlt
        have hx := hsz k hlt
        have HB : Hid (labOk L[k] = true → ∀ j (h : j < L.length), j < k + 1 → labOk L[j] = true) := by
          intro h1 j h hj
          rcases Nat.lt_succ_iff_lt_or_eq.1 hj with hj | rfl
          · exact HA.out j h hj
          · exact h1
        have HC : Hid (labOk L[k] = false → domOk s = false) := fun h => dom_bad HLE.out h
        generalize L[k] = x at *
        cases hok : labOk x with
        | true =>
          have HD : Hid (∀ j (h : j < L.length), j < k + 1 → labOk L[j] = true) := HB.out hok
          clear HB HC
          go_wp2_with (go_at_call 65; refine (specLabel _ _ hx).mono ?_; rintro e w' ⟨rfl, rfl⟩; rw [hok])
          go_roundw
          case rel => exact ⟨k + 1, n, by omega, by go_num, HD.out, rfl⟩
          case measure => simp [intOf]; omega
        | false =>
          have HD : Hid (domOk s = false) := HC.out hok
          clear HB HC
          go_wp2_with (go_at_call 65; refine (specLabel _ _ hx).mono ?_; rintro e w' ⟨rfl, rfl⟩; rw [hok])
          go_ret
          exact ⟨ret_bool HD.out.symm, drew_below hb1 _⟩
      · go_wp2
        go_ret
        exact ⟨ret_bool (dom_ok HLE.out (by omega) fun j h => HA.out j h (by omega)).symm, drew_below hb1 _⟩
end Go.Proofs.YtlolnfpfipnfeaaGreatDoor
namespace Go.Proofs.YtlolnfpfipnfeaaGreatDoor
open Go.ChangeShapes Go.WideShapes Go.ChangeAt Go.RowKit
open Pcs

/-- a line of a body, without its end -/
def lineOk (l : ByteArray) : Bool := decide (l.size ≤ 998) && (!hasN l 13 && (!hasN l 10 && !hasN l 0))
/-- lines that each end, and nothing behind the last end -/
def linesOk (P : List ByteArray) : Bool := P.dropLast.all lineOk && decide ((P.getLastD ⟨#[]⟩).size = 0)
def bodyOk (s : ByteArray) : Bool := decide (s.size ≤ 3000) && linesOk (pieces ⟨#[13, 10]⟩ s)

theorem last_at {P : List ByteArray} {n : Nat} (h : P.length = n + 1) : P.getLastD ⟨#[]⟩ = P[n]'(by omega) := by
  have e : P[P.length - 1]? = some (P[n]'(by omega)) := by
    have h1 : P.length - 1 = n := by omega
    simp only [h1]
    exact List.getElem?_eq_getElem (by omega)
  rw [List.getLastD_eq_getLast?, List.getLast?_eq_getElem?, e]; rfl
theorem lines_bad {P : List ByteArray} {n k : Nat} (h : P.length = n + 1) (hk : k < n) (hb : lineOk (P[k]'(by omega)) = false) : linesOk P = false := by
  unfold linesOk
  have hd : k < P.dropLast.length := by rw [List.length_dropLast]; omega
  have e : P.dropLast[k] = P[k]'(by omega) := List.getElem_dropLast hd
  rw [List.all_eq_false.2 ⟨_, List.getElem_mem hd, by rw [e, hb]; decide⟩]; rfl
theorem lines_last {P : List ByteArray} {n : Nat} (h : P.length = n + 1) (hb : (P[n]'(by omega)).size ≠ 0) : linesOk P = false := by
  unfold linesOk; rw [last_at h, decide_eq_false hb, Bool.and_false]
theorem lines_good {P : List ByteArray} {n : Nat} (h : P.length = n + 1) (h1 : ∀ k (hk : k < n), lineOk (P[k]'(by omega)) = true) (h2 : (P[n]'(by omega)).size = 0) : linesOk P = true := by
  unfold linesOk; rw [last_at h, decide_eq_true h2, Bool.and_true]
  refine List.all_eq_true.2 fun x hx => ?_
  obtain ⟨k, hk, rfl⟩ := List.getElem_of_mem hx
  have hd : k < n := by rw [List.length_dropLast] at hk; omega
  have e : P.dropLast[k] = P[k]'(by omega) := List.getElem_dropLast hk
  rw [e]; exact h1 k hd

theorem after_len (sep : List UInt8) : ∀ L : List (List UInt8), (after sep L).length = L.length
  | [] => rfl
  | [x] => rfl
  | x :: y :: r => by rw [after, List.length_cons, after_len sep (y :: r)]; rfl
theorem after_get (sep : List UInt8) : ∀ (L : List (List UInt8)) (k : Nat), (after sep L)[k]? = L[k]?.map fun x => if k + 1 < L.length then x ++ sep else x
  | [], k => by simp [after]
  | [x], k => by
    cases k with
    | zero => simp [after]
    | succ k => simp [after]
  | x :: y :: r, k => by
    cases k with
    | zero => simp [after]
    | succ k =>
      rw [after, List.getElem?_cons_succ, after_get sep (y :: r) k, List.getElem?_cons_succ]
      have : (k + 1 < (y :: r).length) ↔ (k + 1 + 1 < (x :: y :: r).length) := by simp
      simp only [this]

/-- the last piece holds no sep -/
theorem pcs_last {sep : List UInt8} (hs : sep ≠ []) : ∀ (n : Nat) (s : List UInt8), s.length ≤ n → ∃ L x, pcs sep 0 [] s = L ++ [x] ∧ Lib.index x sep = -1
  | n, s, hn => by
    rcases pcs_index hs s [] with ⟨h1, h2⟩ | ⟨i, h1, h2, h3⟩
    · exact ⟨[], s, by rw [h2]; rfl, h1⟩
    · have hp : 0 < sep.length := List.length_pos_iff.2 hs
      match n, hn with
      | 0, hn => omega
      | n + 1, hn =>
        obtain ⟨L, x, e, h⟩ := pcs_last hs n (s.drop (i + sep.length)) (by rw [List.length_drop]; omega)
        exact ⟨_ :: L, x, by rw [h3, e]; rfl, h⟩
theorem no_suffix {x sep : List UInt8} (h : Lib.index x sep = -1) : Lib.hasSuffix x sep = false := by
  rw [Bool.eq_false_iff]; intro e
  obtain ⟨t, ht⟩ := List.isSuffixOf_iff_suffix.1 e
  rcases Lib.index_spec x sep with ⟨_, hno⟩ | ⟨i, hi, _⟩
  · have := hno t.length (by rw [← ht]; simp)
    unfold Lib.occAt at this
    rw [← ht, List.drop_left] at this
    have h2 : sep.isPrefixOf sep = true := List.isPrefixOf_iff_prefix.2 (List.prefix_refl _)
    rw [h2] at this; cases this
  · omega

/-- what the pieces with their ends are, one by one -/
theorem afterIn {s : ByteArray} {P : List ByteArray} {n : Nat} (hP : pieces ⟨#[13, 10]⟩ s = P) (h : P.length = n + 1) {k : Nat} (hk : k < n) :
    (piecesAfter ⟨#[13, 10]⟩ s)[k]? = some (mk ((P[k]'(by omega)).data.toList ++ [13, 10])) := by
  subst hP
  unfold piecesAfter
  unfold pieces at h ⊢
  rw [List.length_map] at h
  rw [List.getElem?_map, after_get, List.getElem?_eq_getElem (by show k < (pcs [13, 10] 0 [] s.data.toList).length; change (pcs [13, 10] 0 [] s.data.toList).length = n + 1 at h; omega)]
  simp only [Option.map_some, List.getElem_map, data_mk]
  rw [if_pos (by change (pcs [13, 10] 0 [] s.data.toList).length = n + 1 at h; omega)]
theorem afterLast {s : ByteArray} {P : List ByteArray} {n : Nat} (hP : pieces ⟨#[13, 10]⟩ s = P) (h : P.length = n + 1) :
    (piecesAfter ⟨#[13, 10]⟩ s)[n]? = some (P[n]'(by omega)) := by
  subst hP
  unfold piecesAfter
  unfold pieces at h ⊢
  rw [List.length_map] at h
  rw [List.getElem?_map, after_get, List.getElem?_eq_getElem (by change (pcs [13, 10] 0 [] s.data.toList).length = n + 1 at h; show n < (pcs [13, 10] 0 [] s.data.toList).length; omega)]
  simp only [Option.map_some, List.getElem_map]
  rw [if_neg (by change (pcs [13, 10] 0 [] s.data.toList).length = n + 1 at h; omega)]
theorem afterLen (s : ByteArray) : (piecesAfter ⟨#[13, 10]⟩ s).length = (pieces ⟨#[13, 10]⟩ s).length := by
  unfold piecesAfter pieces; rw [List.length_map, List.length_map, after_len]
theorem lastNo {s : ByteArray} {P : List ByteArray} {n : Nat} (hP : pieces ⟨#[13, 10]⟩ s = P) (h : P.length = n + 1) : Lib.hasSuffix (P[n]'(by omega)).data.toList [13, 10] = false := by
  subst hP
  obtain ⟨L, x, e, hx⟩ := pcs_last (sep := [13, 10]) (by simp) s.data.toList.length s.data.toList (Nat.le_refl _)
  have e2 : pieces ⟨#[13, 10]⟩ s = L.map mk ++ [mk x] := by
    show (pcs [13, 10] 0 [] s.data.toList).map mk = _
    rw [e]; simp
  have hl : L.length = n := by
    rw [e2] at h; simp at h; exact h
  have e3 : (pieces ⟨#[13, 10]⟩ s)[n]'(by omega) = mk x := by
    have : (pieces ⟨#[13, 10]⟩ s)[n]? = some (mk x) := by
      rw [e2, List.getElem?_append_right (by simp [hl])]; simp [hl]
    rw [List.getElem?_eq_getElem (by omega)] at this
    exact Option.some.inj this
  rw [e3, data_mk]
  exact no_suffix hx

theorem line_brk (l : ByteArray) : lineOk l = (decide (l.size ≤ 998) && (!brkN l && !hasN l 0)) := by
  unfold lineOk brkN
  cases hasN l 13 <;> cases hasN l 10 <;> simp
end Go.Proofs.YtlolnfpfipnfeaaGreatDoor
