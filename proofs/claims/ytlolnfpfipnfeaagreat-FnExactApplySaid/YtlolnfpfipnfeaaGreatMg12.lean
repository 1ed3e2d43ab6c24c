import Derived.Test.YtlolnfpfipnfeaaGreatMg11
import Derived.Test.YtlolnfpfipnfeaaGreatMg7
namespace Go.Proofs.YtlolnfpfipnfeaaGreat
open Go.ChangeShapes Go.WideShapes Go.ChangeAt Go.RowKit
open Pcs

/-- a line of a body, without its end -/
def lineOk (l : ByteArray) : Bool := decide (l.size ≤ 998) && (!hasN l 13 && (!hasN l 10 && !hasN l 0))
/-- lines that each end, and nothing behind the last end -/
def linesOk (P : List ByteArray) : Bool := P.dropLast.all lineOk && decide ((P.getLastD ⟨#[]⟩).size = 0)
def bodyOk (s : ByteArray) : Bool := decide (s.size ≤ 3000) && linesOk (pieces ⟨#[13, 10]⟩ s)

theorem last_at {P : List ByteArray} {n : Nat} (h : P.length = n + 1) : P.getLastD ⟨#[]⟩ = P[n]'(by omega) := by
  have e : P[P.length - 1]? = some (P[n]'(by omega)) := by
    have h1 : P.length - 1 = n := by omega
    simp only [h1]
    exact List.getElem?_eq_getElem (by omega)
  rw [List.getLastD_eq_getLast?, List.getLast?_eq_getElem?, e]; rfl
theorem lines_bad {P : List ByteArray} {n k : Nat} (h : P.length = n + 1) (hk : k < n) (hb : lineOk (P[k]'(by omega)) = false) : linesOk P = false := by
  unfold linesOk
  have hd : k < P.dropLast.length := by rw [List.length_dropLast]; omega
  have e : P.dropLast[k] = P[k]'(by omega) := List.getElem_dropLast hd
  rw [List.all_eq_false.2 ⟨_, List.getElem_mem hd, by rw [e, hb]; decide⟩]; rfl
theorem lines_last {P : List ByteArray} {n : Nat} (h : P.length = n + 1) (hb : (P[n]'(by omega)).size ≠ 0) : linesOk P = false := by
  unfold linesOk; rw [last_at h, decide_eq_false hb, Bool.and_false]
theorem lines_good {P : List ByteArray} {n : Nat} (h : P.length = n + 1) (h1 : ∀ k (hk : k < n), lineOk (P[k]'(by omega)) = true) (h2 : (P[n]'(by omega)).size = 0) : linesOk P = true := by
  unfold linesOk; rw [last_at h, decide_eq_true h2, Bool.and_true]
  refine List.all_eq_true.2 fun x hx => ?_
  obtain ⟨k, hk, rfl⟩ := List.getElem_of_mem hx
  have hd : k < n := by rw [List.length_dropLast] at hk; omega
  have e : P.dropLast[k] = P[k]'(by omega) := List.getElem_dropLast hk
  rw [e]; exact h1 k hd

theorem after_len (sep : List UInt8) : ∀ L : List (List UInt8), (after sep L).length = L.length
  | [] => rfl
  | [x] => rfl
  | x :: y :: r => by rw [after, List.length_cons, after_len sep (y :: r)]; rfl
theorem after_get (sep : List UInt8) : ∀ (L : List (List UInt8)) (k : Nat), (after sep L)[k]? = L[k]?.map fun x => if k + 1 < L.length then x ++ sep else x
  | [], k => by simp [after]
  | [x], k => by
    cases k with
    | zero => simp [after]
    | succ k => simp [after]
  | x :: y :: r, k => by
    cases k with
    | zero => simp [after]
    | succ k =>
      rw [after, List.getElem?_cons_succ, after_get sep (y :: r) k, List.getElem?_cons_succ]
      have : (k + 1 < (y :: r).length) ↔ (k + 1 + 1 < (x :: y :: r).length) := by simp
      simp only [this]

/-- the last piece holds no sep -/
theorem pcs_last {sep : List UInt8} (hs : sep ≠ []) : ∀ (n : Nat) (s : List UInt8), s.length ≤ n → ∃ L x, pcs sep 0 [] s = L ++ [x] ∧ Lib.index x sep = -1
  | n, s, hn => by
    rcases pcs_index hs s [] with ⟨h1, h2⟩ | ⟨i, h1, h2, h3⟩
    · exact ⟨[], s, by rw [h2]; rfl, h1⟩
    · have hp : 0 < sep.length := List.length_pos_iff.2 hs
      match n, hn with
      | 0, hn => omega
      | n + 1, hn =>
        obtain ⟨L, x, e, h⟩ := pcs_last hs n (s.drop (i + sep.length)) (by rw [List.length_drop]; omega)
        exact ⟨_ :: L, x, by rw [h3, e]; rfl, h⟩
theorem no_suffix {x sep : List UInt8} (h : Lib.index x sep = -1) : Lib.hasSuffix x sep = false := by
  rw [Bool.eq_false_iff]; intro e
  obtain ⟨t, ht⟩ := List.isSuffixOf_iff_suffix.1 e
  rcases Lib.index_spec x sep with ⟨_, hno⟩ | ⟨i, hi, _⟩
  · have := hno t.length (by rw [← ht]; simp)
    unfold Lib.occAt at this
    rw [← ht, List.drop_left] at this
    have h2 : sep.isPrefixOf sep = true := List.isPrefixOf_iff_prefix.2 (List.prefix_refl _)
    rw [h2] at this; cases this
  · omega

/-- what the pieces with their ends are, one by one -/
theorem afterIn {s : ByteArray} {P : List ByteArray} {n : Nat} (hP : pieces ⟨#[13, 10]⟩ s = P) (h : P.length = n + 1) {k : Nat} (hk : k < n) :
    (piecesAfter ⟨#[13, 10]⟩ s)[k]? = some (mk ((P[k]'(by omega)).data.toList ++ [13, 10])) := by
  subst hP
  unfold piecesAfter
  unfold pieces at h ⊢
  rw [List.length_map] at h
  rw [List.getElem?_map, after_get, List.getElem?_eq_getElem (by show k < (pcs [13, 10] 0 [] s.data.toList).length; change (pcs [13, 10] 0 [] s.data.toList).length = n + 1 at h; omega)]
  simp only [Option.map_some, List.getElem_map, data_mk]
  rw [if_pos (by change (pcs [13, 10] 0 [] s.data.toList).length = n + 1 at h; omega)]
theorem afterLast {s : ByteArray} {P : List ByteArray} {n : Nat} (hP : pieces ⟨#[13, 10]⟩ s = P) (h : P.length = n + 1) :
    (piecesAfter ⟨#[13, 10]⟩ s)[n]? = some (P[n]'(by omega)) := by
  subst hP
  unfold piecesAfter
  unfold pieces at h ⊢
  rw [List.length_map] at h
  rw [List.getElem?_map, after_get, List.getElem?_eq_getElem (by change (pcs [13, 10] 0 [] s.data.toList).length = n + 1 at h; show n < (pcs [13, 10] 0 [] s.data.toList).length; omega)]
  simp only [Option.map_some, List.getElem_map]
  rw [if_neg (by change (pcs [13, 10] 0 [] s.data.toList).length = n + 1 at h; omega)]
theorem afterLen (s : ByteArray) : (piecesAfter ⟨#[13, 10]⟩ s).length = (pieces ⟨#[13, 10]⟩ s).length := by
  unfold piecesAfter pieces; rw [List.length_map, List.length_map, after_len]
theorem lastNo {s : ByteArray} {P : List ByteArray} {n : Nat} (hP : pieces ⟨#[13, 10]⟩ s = P) (h : P.length = n + 1) : Lib.hasSuffix (P[n]'(by omega)).data.toList [13, 10] = false := by
  subst hP
  obtain ⟨L, x, e, hx⟩ := pcs_last (sep := [13, 10]) (by simp) s.data.toList.length s.data.toList (Nat.le_refl _)
  have e2 : pieces ⟨#[13, 10]⟩ s = L.map mk ++ [mk x] := by
    show (pcs [13, 10] 0 [] s.data.toList).map mk = _
    rw [e]; simp
  have hl : L.length = n := by
    rw [e2] at h; simp at h; exact h
  have e3 : (pieces ⟨#[13, 10]⟩ s)[n]'(by omega) = mk x := by
    have : (pieces ⟨#[13, 10]⟩ s)[n]? = some (mk x) := by
      rw [e2, List.getElem?_append_right (by simp [hl])]; simp [hl]
    rw [List.getElem?_eq_getElem (by omega)] at this
    exact Option.some.inj this
  rw [e3, data_mk]
  exact no_suffix hx

theorem line_brk (l : ByteArray) : lineOk l = (decide (l.size ≤ 998) && (!brkN l && !hasN l 0)) := by
  unfold lineOk brkN
  cases hasN l 13 <;> cases hasN l 10 <;> simp
end Go.Proofs.YtlolnfpfipnfeaaGreat
namespace Go.Proofs.YtlolnfpfipnfeaaGreat
open Go.ChangeShapes Go.WideShapes Go.ChangeAt Go.RowKit
open Pcs

theorem list_ne2 {x : ByteArray} (h : x.size ≠ 0) : x.toList.isEmpty = false := by
  rw [ByteArray.toList_eq]
  cases e : x.data.toList with
  | nil =>
    have := Lib.size_eq x
    rw [e, List.length_nil] at this; omega
  | cons a l => rfl
theorem specHasI (s : ByteArray) (c : Int) (w : World) (hc : 0 ≤ c) (hs : s.size ≤ 1048576) :
    Calls Tryz.prog 69 #[.string s, .int .u8 c] w fun e w' => e = .returned (.bool (hasN s c.toNat)) ∧ w' = w := by
  have h := specHas s c.toNat w hs
  rw [Int.toNat_of_nonneg hc] at h; exact h
/-- the front of such a slice -/
theorem strs_front {w : World} {lo g cap m : Nat} {L : List ByteArray} (h : Strs w lo (.slice (some ⟨g, 0, none⟩) L.length cap) L) (hm : m ≤ L.length) : Strs w lo (.slice (some ⟨g, 0, none⟩) m cap) (L.take m) := by
  have hl : (L.take m).length = m := by simp; omega
  unfold Strs at h ⊢
  rw [hl]
  refine ⟨by simp; omega, ?_⟩
  rcases h.2 with ⟨hv, _⟩ | ⟨g', cap', cur, hv, hb, hg, hn, hc, hs, ht⟩
  · cases hv
  · injection hv with h1 h2 h3
    injection h1 with h1
    injection h1 with h1
    subst h1 h3
    refine .inr ⟨g, cap, cur, rfl, hb, hg, by omega, hc, hs, ?_⟩
    rw [List.map_take, ← ht, List.take_take, Nat.mul_one, Nat.mul_one, Nat.min_eq_left (by omega)]

set_option maxHeartbeats 2000000 in
set_option maxRecDepth 100000 in
theorem specLines2 (s : ByteArray) (w : World) (hs : s.size ≤ 1048576) :
    Calls Tryz.prog 61 #[.string s] w fun e w' => (∃ v, e = .returned (.tuple #[v, .bool (bodyOk s)]) ∧ (bodyOk s = true → Strs w' w.heap.size v (pieces ⟨#[13, 10]⟩ s).dropLast) ∧ (bodyOk s = false → v = .slice none 0 0)) ∧ Below w.heap.size w w' := by
  by_cases hA : 3000 < s.size
  · have G : bodyOk s = false := by unfold bodyOk; rw [decide_eq_false (by omega)]; rfl
    rw [G]
    go_enter Tryz.func61, Tryz.ntmps61
    go_wp2
    go_ret2
    exact ⟨⟨_, rfl, fun h => (by cases h), fun _ => rfl⟩, Below.refl _ _⟩
  · go_enter Tryz.func61, Tryz.ntmps61
    go_wp2_with fail
    refine (specSplit s _ _ hs (by decide) (by decide)).mono ?_
    rintro e w1 ⟨⟨v, rfl, S1⟩, hb1⟩
    have hE : bodyOk s = linesOk (pieces ⟨#[13, 10]⟩ s) := by unfold bodyOk; rw [decide_eq_true (by omega)]; rfl
    obtain ⟨g, cap, rfl, A1⟩ := strs_ne S1 (pieces_ne _ _)
    obtain ⟨n, hn⟩ : ∃ n, (pieces ⟨#[13, 10]⟩ s).length = n + 1 := ⟨(pieces ⟨#[13, 10]⟩ s).length - 1, by have := List.length_pos_iff.2 (pieces_ne ⟨#[13, 10]⟩ s); omega⟩
    have hpl := pieces_len ⟨#[13, 10]⟩ s
    have hsz : ∀ k (h : k < (pieces ⟨#[13, 10]⟩ s).length), (pieces ⟨#[13, 10]⟩ s)[k].size ≤ 1048576 := fun k h => Nat.le_trans (pieces_size (List.getElem_mem h)) hs
    have HF : Hid (Strs w1 w.heap.size (.slice (some ⟨g, 0, none⟩) n cap) (pieces ⟨#[13, 10]⟩ s).dropLast) := by
      have := strs_front S1 (m := n) (by omega)
      rw [List.dropLast_eq_take, hn, Nat.add_sub_cancel]; exact this
    have hcap := A1.cap
    have hlc := A1.len
    have hgl := A1.lt
    have cell := A1.cell
    clear S1 A1
    rw [hn] at hlc ⊢
    unfold maxLen at hcap
    generalize hLE : pieces ⟨#[13, 10]⟩ s = P at *
    have HP : Hid (pieces ⟨#[13, 10]⟩ s = P) := hLE
    clear hLE
    have HE : Hid (bodyOk s = linesOk P) := hE
    clear hE
    have cN := cell n (by omega)
    have CELL : Hid (∀ i (hi : i < P.length), w1.cell? ⟨g, i, none⟩ = some (.string P[i])) := cell
    clear cell
    have hN1 : ((n : Int) + 1 - 1) = n := by omega
    by_cases hx0 : (P[n]'(by omega)).size = 0
    · have hx1 := empty_of hx0
      rw [hx1] at cN
      have HZ : Hid ((P[n]'(by omega)).size = 0) := hx0
      clear hx0 hx1
      go_wp2
      go_loop [26] (fun iv => ∃ k : Nat, k ≤ n ∧ iv = .int .i64 k ∧ Hid (∀ j (h : j < n), j < k → lineOk (P[j]'(by omega)) = true)) (fun iv => n - (intOf iv).toNat)
      case atStart => exact ⟨0, Nat.zero_le _, rfl, fun j _ h => absurd h (Nat.not_lt_zero _)⟩
      case round =>
        obtain ⟨k, hk, rfl, HA⟩ := hrel
        by_cases hlt : k < n
        · have ec := CELL.out k (by omega)
          have hx := hsz k (by omega)
          have HB : Hid (lineOk (P[k]'(by omega)) = true → ∀ j (h : j < n), j < k + 1 → lineOk (P[j]'(by omega)) = true) := by
            intro h1 j h hj
            rcases Nat.lt_succ_iff_lt_or_eq.1 hj with hj | rfl
            · exact HA.out j h hj
            · exact h1
          have HC : Hid (lineOk (P[k]'(by omega)) = false → bodyOk s = false) := fun h => by rw [HE.out]; exact lines_bad hn hlt h
          have HLB : Hid (lineOk (P[k]'(by omega)) = (decide ((P[k]'(by omega)).size ≤ 998) && (!hasN (P[k]'(by omega)) 13 && (!hasN (P[k]'(by omega)) 10 && !hasN (P[k]'(by omega)) 0)))) := rfl
          generalize P[k]'(by omega) = x at *
          by_cases h998 : (998 : Int) < x.size
          · have G : Hid (bodyOk s = false) := HC.out (by rw [HLB.out, decide_eq_false (by omega)]; rfl)
            clear HB HC
            go_wp2
            go_ret2
            exact ⟨⟨_, by rw [G.out]; rfl, fun h => (by rw [G.out] at h; cases h), fun _ => rfl⟩, hb1⟩
          · cases h13 : hasN x 13 with
            | true =>
              have G : Hid (bodyOk s = false) := HC.out (by rw [HLB.out, h13]; simp)
              clear HB HC
              have k13 : hasN x (13 : Int).toNat = true := h13
              go_wp2_with (go_at_call 69; refine (specHasI x _ _ (by decide) hx).mono ?_; rintro e w' ⟨rfl, hw⟩; rw [hw, k13])
              go_ret2
              exact ⟨⟨_, by rw [G.out]; rfl, fun h => (by rw [G.out] at h; cases h), fun _ => rfl⟩, hb1⟩
            | false =>
              cases h10 : hasN x 10 with
              | true =>
                have G : Hid (bodyOk s = false) := HC.out (by rw [HLB.out, h13, h10]; simp)
                clear HB HC
                have k13 : hasN x (13 : Int).toNat = false := h13
                have k10 : hasN x (10 : Int).toNat = true := h10
                go_wp2_with (go_at_call 69; refine (specHasI x _ _ (by decide) hx).mono ?_; rintro e w' ⟨rfl, hw⟩; rw [hw]; first | rw [k13] | rw [k10])
                go_ret2
                exact ⟨⟨_, by rw [G.out]; rfl, fun h => (by rw [G.out] at h; cases h), fun _ => rfl⟩, hb1⟩
              | false =>
                cases h0 : hasN x 0 with
                | true =>
                  have G : Hid (bodyOk s = false) := HC.out (by rw [HLB.out, h13, h10, h0]; simp)
                  clear HB HC
                  have k13 : hasN x (13 : Int).toNat = false := h13
                  have k10 : hasN x (10 : Int).toNat = false := h10
                  have k0 : hasN x (0 : Int).toNat = true := h0
                  go_wp2_with (go_at_call 69; refine (specHasI x _ _ (by decide) hx).mono ?_; rintro e w' ⟨rfl, hw⟩; rw [hw]; first | rw [k13] | rw [k10] | rw [k0])
                  go_ret2
                  exact ⟨⟨_, by rw [G.out]; rfl, fun h => (by rw [G.out] at h; cases h), fun _ => rfl⟩, hb1⟩
                | false =>
                  have G : Hid (∀ j (h : j < n), j < k + 1 → lineOk (P[j]'(by omega)) = true) := HB.out (by rw [HLB.out, h13, h10, h0, decide_eq_true (by omega)]; rfl)
                  clear HB HC
                  have k13 : hasN x (13 : Int).toNat = false := h13
                  have k10 : hasN x (10 : Int).toNat = false := h10
                  have k0 : hasN x (0 : Int).toNat = false := h0
                  go_wp2_with (go_at_call 69; refine (specHasI x _ _ (by decide) hx).mono ?_; rintro e w' ⟨rfl, hw⟩; rw [hw]; first | rw [k13] | rw [k10] | rw [k0])
                  go_round
                  case rel => exact ⟨k + 1, by omega, by go_num, G.out⟩
                  case measure => simp [intOf]; omega
        · obtain rfl : k = n := by omega
          have G : Hid (bodyOk s = true) := by
            show _ = _
            rw [HE.out]
            exact lines_good hn (fun j h => HA.out j h h) HZ.out
          go_wp2
          go_ret2
          exact ⟨⟨_, by rw [G.out]; rfl, fun _ => by rw [HP.out]; exact HF.out, fun h => by rw [G.out] at h; cases h⟩, hb1⟩
    · have G : Hid (bodyOk s = false) := by
        show _ = _
        rw [HE.out]; exact lines_last hn hx0
      have hne2 : (P[n]'(by omega)).toList.isEmpty = false := list_ne2 hx0
      clear HE HF
      generalize P[n]'(by omega) = x at *
      go_wp2
      go_ret2
      exact ⟨⟨_, by rw [G.out]; rfl, fun h => (by rw [G.out] at h; cases h), fun _ => rfl⟩, hb1⟩
theorem specLines (s : ByteArray) (w : World) (hs : s.size ≤ 1048576) :
    Calls Tryz.prog 61 #[.string s] w fun e w' => (∃ v, e = .returned (.tuple #[v, .bool (bodyOk s)]) ∧ (bodyOk s = true → Strs w' w.heap.size v (pieces ⟨#[13, 10]⟩ s).dropLast)) ∧ Below w.heap.size w w' :=
  (specLines2 s w hs).mono fun _ _ ⟨⟨v, h1, h2, _⟩, h3⟩ => ⟨⟨v, h1, h2⟩, h3⟩
end Go.Proofs.YtlolnfpfipnfeaaGreat
