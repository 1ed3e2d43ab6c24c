import Derived.Test.YtngcjlghjidnjaaGreatDoorMg10
import Derived.Test.YtngcjlghjidnjaaGreatDoorMg5
import Derived.Test.YtngcjlghjidnjaaGreatDoorMg9
namespace Go.Proofs.YtngcjlghjidnjaaGreatDoor
open Go.ChangeShapes Go.WideShapes Go.ChangeAt Go.RowKit
open Pcs

def sayB (p s q : ByteArray) : ByteArray := p ++ s ++ q
/-- the line of a command, empty if there is none -/
def cmdB (kind : Int) (s : ByteArray) : ByteArray :=
  if kind = 1 then (if domOk s then sayB ⟨#[69, 72, 76, 79, 32]⟩ s ⟨#[13, 10]⟩ else ⟨#[]⟩)
  else if kind = 2 then (if domOk s then sayB ⟨#[72, 69, 76, 79, 32]⟩ s ⟨#[13, 10]⟩ else ⟨#[]⟩)
  else if kind = 3 then (if s.size = 0 ∨ addrOk s = true then sayB ⟨#[77, 65, 73, 76, 32, 70, 82, 79, 77, 58, 60]⟩ s ⟨#[62, 13, 10]⟩ else ⟨#[]⟩)
  else if kind = 4 then (if addrOk s then sayB ⟨#[82, 67, 80, 84, 32, 84, 79, 58, 60]⟩ s ⟨#[62, 13, 10]⟩ else ⟨#[]⟩)
  else if kind = 5 then (if s.size = 0 then ⟨#[68, 65, 84, 65, 13, 10]⟩ else ⟨#[]⟩)
  else if kind = 6 then (if s.size = 0 then ⟨#[81, 85, 73, 84, 13, 10]⟩ else ⟨#[]⟩)
  else ⟨#[]⟩
theorem say_two (x : ByteArray) : x ++ (⟨#[62]⟩ : ByteArray) ++ (⟨#[13, 10]⟩ : ByteArray) = x ++ (⟨#[62, 13, 10]⟩ : ByteArray) := by
  rw [ByteArray.append_assoc]; rfl

set_option maxHeartbeats 2000000 in
set_option maxRecDepth 100000 in
theorem implCommand (kind : Int) (s : ByteArray) (w : World) (hl : LenIn w) (hs : s.size ≤ 1048576) :
    Calls Tryz.prog 12 #[.int .i64 kind, .string s] w fun e w' => e = .returned (.string (cmdB kind s)) ∧ Below w.heap.size w w' := by
  have HL : Hid (LenIn w) := hl
  clear hl
  by_cases h1 : kind = 1
  · subst h1
    cases hd : domOk s with
    | true =>
      go_enter Tryz.func12, Tryz.ntmps12
      go_wp2_with (go_at_call 32; refine (implDomain _ _ HL.out hs).mono ?_; rintro e w2 ⟨rfl, hb2⟩; rw [hd])
      go_ret
      exact ⟨ret_str (by simp [cmdB, hd, sayB]), hb2⟩
    | false =>
      go_enter Tryz.func12, Tryz.ntmps12
      go_wp2_with (go_at_call 32; refine (implDomain _ _ HL.out hs).mono ?_; rintro e w2 ⟨rfl, hb2⟩; rw [hd])
      go_ret
      exact ⟨ret_str (by simp [cmdB, hd]), hb2⟩
  · have b1 : (kind == 1) = false := beq_eq_false_iff_ne.2 h1
    by_cases h2 : kind = 2
    · subst h2
      cases hd : domOk s with
      | true =>
        go_enter Tryz.func12, Tryz.ntmps12
        go_wp2_with (go_at_call 32; refine (implDomain _ _ HL.out hs).mono ?_; rintro e w2 ⟨rfl, hb2⟩; rw [hd])
        go_ret
        exact ⟨ret_str (by simp [cmdB, hd, sayB]), hb2⟩
      | false =>
        go_enter Tryz.func12, Tryz.ntmps12
        go_wp2_with (go_at_call 32; refine (implDomain _ _ HL.out hs).mono ?_; rintro e w2 ⟨rfl, hb2⟩; rw [hd])
        go_ret
        exact ⟨ret_str (by simp [cmdB, hd]), hb2⟩
    · have b2 : (kind == 2) = false := beq_eq_false_iff_ne.2 h2
      by_cases h3 : kind = 3
      · subst h3
        by_cases h0 : s.size = 0
        · obtain rfl := empty_of h0
          go_enter Tryz.func12, Tryz.ntmps12
          go_wp2
          go_ret
          exact ⟨rfl, Below.refl _ _⟩
        · have hne := list_ne h0
          cases hd : addrOk s with
          | true =>
            go_enter Tryz.func12, Tryz.ntmps12
            go_wp2_with (go_at_call 45; refine (implAddress _ _ HL.out hs).mono ?_; rintro e w2 ⟨rfl, hb2⟩; rw [hd])
            go_ret
            exact ⟨ret_str (by simp [cmdB, hd, sayB, say_two]), hb2⟩
          | false =>
            go_enter Tryz.func12, Tryz.ntmps12
            go_wp2_with (go_at_call 45; refine (implAddress _ _ HL.out hs).mono ?_; rintro e w2 ⟨rfl, hb2⟩; rw [hd])
            go_ret
            exact ⟨ret_str (by simp [cmdB, hd, h0]), hb2⟩
      · have b3 : (kind == 3) = false := beq_eq_false_iff_ne.2 h3
        by_cases h4 : kind = 4
        · subst h4
          cases hd : addrOk s with
          | true =>
            go_enter Tryz.func12, Tryz.ntmps12
            go_wp2_with (go_at_call 45; refine (implAddress _ _ HL.out hs).mono ?_; rintro e w2 ⟨rfl, hb2⟩; rw [hd])
            go_ret
            exact ⟨ret_str (by simp [cmdB, hd, sayB, say_two]), hb2⟩
          | false =>
            go_enter Tryz.func12, Tryz.ntmps12
            go_wp2_with (go_at_call 45; refine (implAddress _ _ HL.out hs).mono ?_; rintro e w2 ⟨rfl, hb2⟩; rw [hd])
            go_ret
            exact ⟨ret_str (by simp [cmdB, hd]), hb2⟩
        · have b4 : (kind == 4) = false := beq_eq_false_iff_ne.2 h4
          by_cases h5 : kind = 5
          · subst h5
            by_cases h0 : s.size = 0
            · obtain rfl := empty_of h0
              go_enter Tryz.func12, Tryz.ntmps12
              go_wp2
              go_ret
              exact ⟨rfl, Below.refl _ _⟩
            · have hne := list_ne h0
              go_enter Tryz.func12, Tryz.ntmps12
              go_wp2
              go_ret
              exact ⟨ret_str (by simp [cmdB, h0]), Below.refl _ _⟩
          · have b5 : (kind == 5) = false := beq_eq_false_iff_ne.2 h5
            by_cases h6 : kind = 6
            · subst h6
              by_cases h0 : s.size = 0
              · obtain rfl := empty_of h0
                go_enter Tryz.func12, Tryz.ntmps12
                go_wp2
                go_ret
                exact ⟨rfl, Below.refl _ _⟩
              · have hne := list_ne h0
                go_enter Tryz.func12, Tryz.ntmps12
                go_wp2
                go_ret
                exact ⟨ret_str (by simp [cmdB, h0]), Below.refl _ _⟩
            · have b6 : (kind == 6) = false := beq_eq_false_iff_ne.2 h6
              go_enter Tryz.func12, Tryz.ntmps12
              go_wp2
              go_ret
              exact ⟨ret_str (by simp [cmdB, h1, h2, h3, h4, h5, h6]), Below.refl _ _⟩

set_option maxHeartbeats 2000000 in
set_option maxRecDepth 100000 in
theorem specCommand (kind : Int) (s : ByteArray) (w : World) (hs : s.size ≤ 1048576) :
    Calls Tryz.prog 125 #[.int .i64 kind, .string s] w fun e w' => e = .returned (.string (cmdB kind s)) ∧ Below w.heap.size w w' := by
  by_cases h1 : kind = 1
  · subst h1
    cases hd : domOk s with
    | true =>
      go_enter Tryz.func125, Tryz.ntmps125
      go_wp2_with (go_at_call 29; refine (specDomain _ _ hs).mono ?_; rintro e w2 ⟨rfl, hb2⟩; rw [hd])
      go_ret
      exact ⟨ret_str (by simp [cmdB, hd, sayB]), (hb2.trans (below1 _ _ |>.mono hb2.size))⟩
    | false =>
      go_enter Tryz.func125, Tryz.ntmps125
      go_wp2_with (go_at_call 29; refine (specDomain _ _ hs).mono ?_; rintro e w2 ⟨rfl, hb2⟩; rw [hd])
      go_ret
      exact ⟨ret_str (by simp [cmdB, hd]), hb2⟩
  · have b1 : (kind == 1) = false := beq_eq_false_iff_ne.2 h1
    by_cases h2 : kind = 2
    · subst h2
      cases hd : domOk s with
      | true =>
        go_enter Tryz.func125, Tryz.ntmps125
        go_wp2_with (go_at_call 29; refine (specDomain _ _ hs).mono ?_; rintro e w2 ⟨rfl, hb2⟩; rw [hd])
        go_ret
        exact ⟨ret_str (by simp [cmdB, hd, sayB]), (hb2.trans (below1 _ _ |>.mono hb2.size))⟩
      | false =>
        go_enter Tryz.func125, Tryz.ntmps125
        go_wp2_with (go_at_call 29; refine (specDomain _ _ hs).mono ?_; rintro e w2 ⟨rfl, hb2⟩; rw [hd])
        go_ret
        exact ⟨ret_str (by simp [cmdB, hd]), hb2⟩
    · have b2 : (kind == 2) = false := beq_eq_false_iff_ne.2 h2
      by_cases h3 : kind = 3
      · subst h3
        by_cases h0 : s.size = 0
        · obtain rfl := empty_of h0
          go_enter Tryz.func125, Tryz.ntmps125
          go_wp2
          go_ret
          exact ⟨rfl, Below.refl _ _⟩
        · have hne := list_ne h0
          cases hd : addrOk s with
          | true =>
            go_enter Tryz.func125, Tryz.ntmps125
            go_wp2_with (go_at_call 77; refine (specAddress _ _ hs).mono ?_; rintro e w2 ⟨rfl, hb2⟩; rw [hd])
            go_ret
            exact ⟨ret_str (by simp [cmdB, hd, sayB]), hb2⟩
          | false =>
            go_enter Tryz.func125, Tryz.ntmps125
            go_wp2_with (go_at_call 77; refine (specAddress _ _ hs).mono ?_; rintro e w2 ⟨rfl, hb2⟩; rw [hd])
            go_ret
            exact ⟨ret_str (by simp [cmdB, hd, h0]), hb2⟩
      · have b3 : (kind == 3) = false := beq_eq_false_iff_ne.2 h3
        by_cases h4 : kind = 4
        · subst h4
          cases hd : addrOk s with
          | true =>
            go_enter Tryz.func125, Tryz.ntmps125
            go_wp2_with (go_at_call 77; refine (specAddress _ _ hs).mono ?_; rintro e w2 ⟨rfl, hb2⟩; rw [hd])
            go_ret
            exact ⟨ret_str (by simp [cmdB, hd, sayB]), hb2⟩
          | false =>
            go_enter Tryz.func125, Tryz.ntmps125
            go_wp2_with (go_at_call 77; refine (specAddress _ _ hs).mono ?_; rintro e w2 ⟨rfl, hb2⟩; rw [hd])
            go_ret
            exact ⟨ret_str (by simp [cmdB, hd]), hb2⟩
        · have b4 : (kind == 4) = false := beq_eq_false_iff_ne.2 h4
          by_cases h5 : kind = 5
          · subst h5
            by_cases h0 : s.size = 0
            · obtain rfl := empty_of h0
              go_enter Tryz.func125, Tryz.ntmps125
              go_wp2
              go_ret
              exact ⟨rfl, below1 _ _⟩
            · have hne := list_ne h0
              go_enter Tryz.func125, Tryz.ntmps125
              go_wp2
              go_ret
              exact ⟨ret_str (by simp [cmdB, h0]), Below.refl _ _⟩
          · have b5 : (kind == 5) = false := beq_eq_false_iff_ne.2 h5
            by_cases h6 : kind = 6
            · subst h6
              by_cases h0 : s.size = 0
              · obtain rfl := empty_of h0
                go_enter Tryz.func125, Tryz.ntmps125
                go_wp2
                go_ret
                exact ⟨rfl, below1 _ _⟩
              · have hne := list_ne h0
                go_enter Tryz.func125, Tryz.ntmps125
                go_wp2
                go_ret
                exact ⟨ret_str (by simp [cmdB, h0]), Below.refl _ _⟩
            · have b6 : (kind == 6) = false := beq_eq_false_iff_ne.2 h6
              go_enter Tryz.func125, Tryz.ntmps125
              go_wp2
              go_ret
              exact ⟨ret_str (by simp [cmdB, h1, h2, h3, h4, h5, h6]), Below.refl _ _⟩
end Go.Proofs.YtngcjlghjidnjaaGreatDoor
namespace Go.Proofs.YtngcjlghjidnjaaGreatDoor
open Go.ChangeShapes Go.WideShapes Go.ChangeAt Go.RowKit
open Pcs

/-- a line of a body, without its end -/
def lineOk (l : ByteArray) : Bool := decide (l.size ≤ 998) && (!hasN l 13 && (!hasN l 10 && !hasN l 0))
/-- lines that each end, and nothing behind the last end -/
def linesOk (P : List ByteArray) : Bool := P.dropLast.all lineOk && decide ((P.getLastD ⟨#[]⟩).size = 0)
def bodyOk (s : ByteArray) : Bool := decide (s.size ≤ 3000) && linesOk (pieces ⟨#[13, 10]⟩ s)

theorem last_at {P : List ByteArray} {n : Nat} (h : P.length = n + 1) : P.getLastD ⟨#[]⟩ = P[n]'(by omega) := by
  have e : P[P.length - 1]? = some (P[n]'(by omega)) := by
    have h1 : P.length - 1 = n := by omega
    simp only [h1]
    exact List.getElem?_eq_getElem (by omega)
  rw [List.getLastD_eq_getLast?, List.getLast?_eq_getElem?, e]; rfl
theorem lines_bad {P : List ByteArray} {n k : Nat} (h : P.length = n + 1) (hk : k < n) (hb : lineOk (P[k]'(by omega)) = false) : linesOk P = false := by
  unfold linesOk
  have hd : k < P.dropLast.length := by rw [List.length_dropLast]; omega
  have e : P.dropLast[k] = P[k]'(by omega) := List.getElem_dropLast hd
  rw [List.all_eq_false.2 ⟨_, List.getElem_mem hd, by rw [e, hb]; decide⟩]; rfl
theorem lines_last {P : List ByteArray} {n : Nat} (h : P.length = n + 1) (hb : (P[n]'(by omega)).size ≠ 0) : linesOk P = false := by
  unfold linesOk; rw [last_at h, decide_eq_false hb, Bool.and_false]
theorem lines_good {P : List ByteArray} {n : Nat} (h : P.length = n + 1) (h1 : ∀ k (hk : k < n), lineOk (P[k]'(by omega)) = true) (h2 : (P[n]'(by omega)).size = 0) : linesOk P = true := by
  unfold linesOk; rw [last_at h, decide_eq_true h2, Bool.and_true]
  refine List.all_eq_true.2 fun x hx => ?_
  obtain ⟨k, hk, rfl⟩ := List.getElem_of_mem hx
  have hd : k < n := by rw [List.length_dropLast] at hk; omega
  have e : P.dropLast[k] = P[k]'(by omega) := List.getElem_dropLast hk
  rw [e]; exact h1 k hd

theorem after_len (sep : List UInt8) : ∀ L : List (List UInt8), (after sep L).length = L.length
  | [] => rfl
  | [x] => rfl
  | x :: y :: r => by rw [after, List.length_cons, after_len sep (y :: r)]; rfl
theorem after_get (sep : List UInt8) : ∀ (L : List (List UInt8)) (k : Nat), (after sep L)[k]? = L[k]?.map fun x => if k + 1 < L.length then x ++ sep else x
  | [], k => by simp [after]
  | [x], k => by
    cases k with
    | zero => simp [after]
    | succ k => simp [after]
  | x :: y :: r, k => by
    cases k with
    | zero => simp [after]
    | succ k =>
      rw [after, List.getElem?_cons_succ, after_get sep (y :: r) k, List.getElem?_cons_succ]
      have : (k + 1 < (y :: r).length) ↔ (k + 1 + 1 < (x :: y :: r).length) := by simp
      simp only [this]

/-- the last piece holds no sep -/
theorem pcs_last {sep : List UInt8} (hs : sep ≠ []) : ∀ (n : Nat) (s : List UInt8), s.length ≤ n → ∃ L x, pcs sep 0 [] s = L ++ [x] ∧ Lib.index x sep = -1
  | n, s, hn => by
    rcases pcs_index hs s [] with ⟨h1, h2⟩ | ⟨i, h1, h2, h3⟩
    · exact ⟨[], s, by rw [h2]; rfl, h1⟩
    · have hp : 0 < sep.length := List.length_pos_iff.2 hs
      match n, hn with
      | 0, hn => omega
      | n + 1, hn =>
        obtain ⟨L, x, e, h⟩ := pcs_last hs n (s.drop (i + sep.length)) (by rw [List.length_drop]; omega)
        exact ⟨_ :: L, x, by rw [h3, e]; rfl, h⟩
theorem no_suffix {x sep : List UInt8} (h : Lib.index x sep = -1) : Lib.hasSuffix x sep = false := by
  rw [Bool.eq_false_iff]; intro e
  obtain ⟨t, ht⟩ := List.isSuffixOf_iff_suffix.1 e
  rcases Lib.index_spec x sep with ⟨_, hno⟩ | ⟨i, hi, _⟩
  · have := hno t.length (by rw [← ht]; simp)
    unfold Lib.occAt at this
    rw [← ht, List.drop_left] at this
    have h2 : sep.isPrefixOf sep = true := List.isPrefixOf_iff_prefix.2 (List.prefix_refl _)
    rw [h2] at this; cases this
  · omega

/-- what the pieces with their ends are, one by one -/
theorem afterIn {s : ByteArray} {P : List ByteArray} {n : Nat} (hP : pieces ⟨#[13, 10]⟩ s = P) (h : P.length = n + 1) {k : Nat} (hk : k < n) :
    (piecesAfter ⟨#[13, 10]⟩ s)[k]? = some (mk ((P[k]'(by omega)).data.toList ++ [13, 10])) := by
  subst hP
  unfold piecesAfter
  unfold pieces at h ⊢
  rw [List.length_map] at h
  rw [List.getElem?_map, after_get, List.getElem?_eq_getElem (by show k < (pcs [13, 10] 0 [] s.data.toList).length; change (pcs [13, 10] 0 [] s.data.toList).length = n + 1 at h; omega)]
  simp only [Option.map_some, List.getElem_map, data_mk]
  rw [if_pos (by change (pcs [13, 10] 0 [] s.data.toList).length = n + 1 at h; omega)]
theorem afterLast {s : ByteArray} {P : List ByteArray} {n : Nat} (hP : pieces ⟨#[13, 10]⟩ s = P) (h : P.length = n + 1) :
    (piecesAfter ⟨#[13, 10]⟩ s)[n]? = some (P[n]'(by omega)) := by
  subst hP
  unfold piecesAfter
  unfold pieces at h ⊢
  rw [List.length_map] at h
  rw [List.getElem?_map, after_get, List.getElem?_eq_getElem (by change (pcs [13, 10] 0 [] s.data.toList).length = n + 1 at h; show n < (pcs [13, 10] 0 [] s.data.toList).length; omega)]
  simp only [Option.map_some, List.getElem_map]
  rw [if_neg (by change (pcs [13, 10] 0 [] s.data.toList).length = n + 1 at h; omega)]
theorem afterLen (s : ByteArray) : (piecesAfter ⟨#[13, 10]⟩ s).length = (pieces ⟨#[13, 10]⟩ s).length := by
  unfold piecesAfter pieces; rw [List.length_map, List.length_map, after_len]
theorem lastNo {s : ByteArray} {P : List ByteArray} {n : Nat} (hP : pieces ⟨#[13, 10]⟩ s = P) (h : P.length = n + 1) : Lib.hasSuffix (P[n]'(by omega)).data.toList [13, 10] = false := by
  subst hP
  obtain ⟨L, x, e, hx⟩ := pcs_last (sep := [13, 10]) (by simp) s.data.toList.length s.data.toList (Nat.le_refl _)
  have e2 : pieces ⟨#[13, 10]⟩ s = L.map mk ++ [mk x] := by
    show (pcs [13, 10] 0 [] s.data.toList).map mk = _
    rw [e]; simp
  have hl : L.length = n := by
    rw [e2] at h; simp at h; exact h
  have e3 : (pieces ⟨#[13, 10]⟩ s)[n]'(by omega) = mk x := by
    have : (pieces ⟨#[13, 10]⟩ s)[n]? = some (mk x) := by
      rw [e2, List.getElem?_append_right (by simp [hl])]; simp [hl]
    rw [List.getElem?_eq_getElem (by omega)] at this
    exact Option.some.inj this
  rw [e3, data_mk]
  exact no_suffix hx

theorem line_brk (l : ByteArray) : lineOk l = (decide (l.size ≤ 998) && (!brkN l && !hasN l 0)) := by
  unfold lineOk brkN
  cases hasN l 13 <;> cases hasN l 10 <;> simp
end Go.Proofs.YtngcjlghjidnjaaGreatDoor
namespace Go.Proofs.YtngcjlghjidnjaaGreatDoor
open Pcs

/-- a line as it goes over the wire -/
def stuffLine (l : List UInt8) : List UInt8 := (if l.head? = some 46 then [46] else []) ++ (l ++ [13, 10])
def stuffL (L : List ByteArray) : List UInt8 := (L.map fun l => stuffLine l.data.toList).flatten
/-- a body as it goes over the wire -/
def stuffB (s : ByteArray) : ByteArray := if bodyOk s then mk (stuffL (pieces ⟨#[13, 10]⟩ s).dropLast ++ [46, 13, 10]) else ⟨#[]⟩

theorem stuffL_step (L : List ByteArray) (k : Nat) (h : k < L.length) : stuffL (L.take (k + 1)) = stuffL (L.take k) ++ stuffLine L[k].data.toList := by
  unfold stuffL
  rw [List.take_add_one, List.getElem?_eq_getElem h, List.map_append, List.flatten_append]
  simp
theorem stuffLine_len (l : List UInt8) : (stuffLine l).length ≤ l.length + 3 := by
  unfold stuffLine; split <;> simp
theorem head_dot {x : ByteArray} : x.data.toList.head? = some 46 ↔ (∃ h : 0 < x.size, (x[0]'h).toNat = 46) := by
  constructor
  · intro e
    have h : 0 < x.size := by
      rw [Lib.size_eq]
      cases hx : x.data.toList with
      | nil => rw [hx] at e; cases e
      | cons a l => simp
    refine ⟨h, ?_⟩
    rw [List.head?_eq_getElem?, List.getElem?_eq_getElem (by rw [← Lib.size_eq]; exact h)] at e
    exact congrArg UInt8.toNat (Option.some.inj e)
  · rintro ⟨h, e⟩
    rw [List.head?_eq_getElem?, List.getElem?_eq_getElem (by rw [← Lib.size_eq]; exact h)]
    exact congrArg some (UInt8.toNat_inj.1 e)
theorem stuffLine_yes {l : List UInt8} (h : l.head? = some 46) : stuffLine l = 46 :: (l ++ [13, 10]) := by
  unfold stuffLine; rw [if_pos h]; rfl
theorem stuffLine_no {l : List UInt8} (h : l.head? ≠ some 46) : stuffLine l = l ++ [13, 10] := by
  unfold stuffLine; rw [if_neg h]; rfl
theorem mk_append (a : List UInt8) (s : ByteArray) : mk a ++ s = mk (a ++ s.data.toList) := by
  rw [← mk_data (mk a ++ s), ByteArray.data_append]
  simp [mk]
theorem take_sum {L : List ByteArray} (k : Nat) : (stuffL (L.take k)).length ≤ (L.map fun l => l.size + 3).sum := by
  unfold stuffL
  rw [List.length_flatten, List.map_map]
  have h1 : ∀ M : List ByteArray, (M.map (List.length ∘ fun l => stuffLine l.data.toList)).sum ≤ (M.map fun l => l.size + 3).sum := by
    intro M
    induction M with
    | nil => simp
    | cons x M ih =>
      simp only [Function.comp_def] at ih
      simp only [List.map_cons, List.sum_cons, Function.comp_def]
      have := stuffLine_len x.data.toList
      rw [← Lib.size_eq] at this
      omega
  refine Nat.le_trans (h1 _) ?_
  rw [List.map_take]
  generalize (L.map fun l => l.size + 3) = M
  induction M generalizing k with
  | nil => simp
  | cons x M ih =>
    cases k with
    | zero => simp
    | succ k => simp only [List.take_succ_cons, List.sum_cons]; have := ih k; omega
/-- all pieces together are no longer than the text -/
theorem pcs_sum {sep : List UInt8} : ∀ (l : List UInt8) (k : Nat) (acc : List UInt8), ((pcs sep k acc l).map List.length).sum ≤ acc.length + l.length
  | [], k, acc => by simp [pcs]
  | b :: l, 0, acc => by
    rw [pcs]; split
    · have := pcs_sum (sep := sep) l (sep.length - 1) []
      simp only [List.map_cons, List.sum_cons, List.length_nil, List.length_cons] at this ⊢; omega
    · have := pcs_sum (sep := sep) l 0 (acc ++ [b])
      simp only [List.length_append, List.length_cons, List.length_nil] at this ⊢; omega
  | b :: l, k + 1, acc => by
    rw [pcs]
    have := pcs_sum (sep := sep) l k acc
    simp only [List.length_cons] at this ⊢; omega
theorem stuff_len (s : ByteArray) (m k : Nat) : (stuffL (((pieces ⟨#[13, 10]⟩ s).take m).take k)).length ≤ 4 * s.size + 3 := by
  refine Nat.le_trans (take_sum k) ?_
  have h1 : (((pieces ⟨#[13, 10]⟩ s).take m).map fun l => l.size + 3).sum ≤ ((pieces ⟨#[13, 10]⟩ s).map fun l => l.size + 3).sum := by
    rw [List.map_take]
    generalize ((pieces ⟨#[13, 10]⟩ s).map fun l => l.size + 3) = M
    induction M generalizing m with
    | nil => simp
    | cons x M ih =>
      cases m with
      | zero => simp
      | succ m => simp only [List.take_succ_cons, List.sum_cons]; have := ih m; omega
  have h2 : ∀ L : List ByteArray, (L.map fun l => l.size + 3).sum = (L.map fun l => l.size).sum + 3 * L.length := by
    intro L
    induction L with
    | nil => rfl
    | cons x L ih => simp only [List.map_cons, List.sum_cons, List.length_cons]; omega
  have h3 : ((pieces ⟨#[13, 10]⟩ s).map fun l => l.size).sum ≤ s.size := by
    have := pcs_sum (sep := [13, 10]) s.data.toList 0 []
    rw [List.length_nil, Nat.zero_add, ← Lib.size_eq] at this
    refine Nat.le_trans (Nat.le_of_eq ?_) this
    show (((pcs [13, 10] 0 [] s.data.toList).map mk).map fun l => l.size).sum = _
    rw [List.map_map]
    have e : ((fun l : ByteArray => l.size) ∘ mk) = List.length := funext fun x => mk_size x
    rw [e]
  have h4 := pieces_len ⟨#[13, 10]⟩ s
  refine Nat.le_trans h1 ?_
  rw [h2]
  omega
end Go.Proofs.YtngcjlghjidnjaaGreatDoor
