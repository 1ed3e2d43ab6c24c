import Derived.Test.YtlolnfpfipnfeaaGreatDoorMg30
import Derived.Test.YtlolnfpfipnfeaaGreatDoorMg16
import Derived.Test.YtlolnfpfipnfeaaGreatDoorMg17
namespace Go.Proofs.YtlolnfpfipnfeaaGreatDoor
open Go.ChangeShapes Go.WideShapes Go.ChangeAt Go.RowKit
open Pcs

theorem dig3_cases {x : ByteArray} (h : dig3 x = false) : x.size = 0 ∨ (x.size ≠ 0 ∧ 3 < x.size) ∨ (x.size ≠ 0 ∧ x.size ≤ 3 ∧ okAll digN x = false) := by
  unfold dig3 at h
  by_cases h0 : x.size = 0
  · exact .inl h0
  · by_cases h3 : 3 < x.size
    · exact .inr (.inl ⟨h0, h3⟩)
    · right; right
      rw [decide_eq_true (show 1 ≤ x.size by omega), decide_eq_true (show x.size ≤ 3 by omega)] at h
      exact ⟨h0, by omega, by simpa using h⟩
theorem dig3_true {x : ByteArray} (h : dig3 x = true) : x.size ≠ 0 ∧ x.size ≤ 3 ∧ okAll digN x = true := by
  unfold dig3 at h
  simp only [Bool.and_eq_true, decide_eq_true_eq] at h
  exact ⟨by omega, h.2.1, h.2.2⟩
theorem list_ne3 {x : ByteArray} (h : x.size ≠ 0) : x.toList.isEmpty = false := by
  have : (x.toList == []) = false := strNeL (l := []) fun e => h (by rw [e]; rfl)
  simpa using this
theorem list_em3 {x : ByteArray} (h : x.size = 0) : x = ⟨#[]⟩ := empty_ofK x h

set_option maxHeartbeats 2000000 in
set_option maxRecDepth 100000 in
theorem implStatus (s : ByteArray) (w : World) (hl : LenIn w) (hs : s.size ≤ 1048576) :
    Calls Tryz.prog 58 #[.string s] w fun e w' => e = .returned (.bool (statOk s)) ∧ Below w.heap.size w w' := by
  have HP : Hid (statOk s = statP (pieces ⟨#[46]⟩ s)) := rfl
  generalize statOk s = R at *
  go_enter Tryz.func58, Tryz.ntmps58
  go_wp2_with fail
  refine (implSplit s _ _ hl hs (by decide)).mono ?_
  rintro e w1 ⟨⟨v, rfl, S1⟩, hb1⟩
  obtain ⟨g, cap, rfl, A1⟩ := strs_ne S1 (pieces_ne _ _)
  clear S1 hl
  have hz : ∀ x ∈ pieces ⟨#[46]⟩ s, x.size ≤ 1048576 := fun x hx => Nat.le_trans (pieces_size hx) hs
  have hpl := pieces_len ⟨#[46]⟩ s
  generalize pieces ⟨#[46]⟩ s = P at *
  by_cases h3 : P.length = 3
  · obtain ⟨a, b, c, rfl⟩ := three_of h3
    have hb' := hz b (by simp)
    have hc' := hz c (by simp)
    have c0 := A1.cell 0 (by simp)
    have c1 := A1.cell 1 (by simp)
    have c2 := A1.cell 2 (by simp)
    simp only [List.getElem_cons_zero, List.getElem_cons_succ] at c0 c1 c2
    have hcap := A1.len
    have hcap2 := A1.cap
    unfold maxLen at hcap2
    simp only [List.length_cons, List.length_nil, Nat.zero_add, Nat.reduceAdd] at hcap ⊢
    clear A1 hz hpl h3
    by_cases h45 : a = ⟨#[52]⟩ ∨ a = ⟨#[53]⟩
    · have E : Hid (R = (dig3 b && dig3 c)) := by show _ = _; rw [HP.out, statP_yes h45]
      clear HP
      rcases h45 with h4 | h5
      · subst h4
        go_wp2_with fail
        go_loopw [26] (fun iv wr => ∃ k : Nat, k ≤ 2 ∧ iv = .int .i64 k ∧ wr = w1 ∧ Hid (0 < k → dig3 b = true) ∧ Hid (1 < k → dig3 c = true)) (fun iv _ => 2 - (intOf iv).toNat)
        case atStart => exact ⟨0, by omega, rfl, rfl, fun h => absurd h (by omega), fun h => absurd h (by omega)⟩
        case round =>
          obtain ⟨k, hk, rfl, rfl, HK0, HK1⟩ := hrel
          rcases (show k = 0 ∨ k = 1 ∨ k = 2 by omega) with rfl | rfl | rfl
          · cases hd : dig3 b
            · have G : Hid (R = false) := by show _ = _; rw [E.out, hd]; simp
              rcases dig3_cases hd with z | ⟨z, z3⟩ | ⟨z, z3, zo⟩
              · have := list_em3 z
                subst this
                go_wp2
                go_ret
                exact ⟨ret_bool G.out.symm, hb1⟩
              · have zb := list_ne3 z
                have z3i : (3 : Int) < b.size := by omega
                go_wp2
                go_ret
                exact ⟨ret_bool G.out.symm, hb1⟩
              · have zb := list_ne3 z
                have z3i : ¬ (3 : Int) < b.size := by omega
                go_wp2_with (go_at_call 75; refine (implDigits b _ hb').mono ?_; rintro e w' ⟨rfl, rfl⟩; rw [zo])
                go_ret
                exact ⟨ret_bool G.out.symm, hb1⟩
            · obtain ⟨z, z3, zo⟩ := dig3_true hd
              have zb := list_ne3 z
              have z3i : ¬ (3 : Int) < b.size := by omega
              go_wp2_with (go_at_call 75; refine (implDigits b _ hb').mono ?_; rintro e w' ⟨rfl, rfl⟩; rw [zo])
              go_roundw
              case rel => exact ⟨1, by omega, by go_num, (by first | rfl | trivial), (fun _ => by first | exact hd | trivial), fun h => absurd h (by omega)⟩
              case measure => simp [intOf]
          · cases hd : dig3 c
            · have G : Hid (R = false) := by show _ = _; rw [E.out, hd]; simp
              rcases dig3_cases hd with z | ⟨z, z3⟩ | ⟨z, z3, zo⟩
              · have := list_em3 z
                subst this
                go_wp2
                go_ret
                exact ⟨ret_bool G.out.symm, hb1⟩
              · have zb := list_ne3 z
                have z3i : (3 : Int) < c.size := by omega
                go_wp2
                go_ret
                exact ⟨ret_bool G.out.symm, hb1⟩
              · have zb := list_ne3 z
                have z3i : ¬ (3 : Int) < c.size := by omega
                go_wp2_with (go_at_call 75; refine (implDigits c _ hc').mono ?_; rintro e w' ⟨rfl, rfl⟩; rw [zo])
                go_ret
                exact ⟨ret_bool G.out.symm, hb1⟩
            · obtain ⟨z, z3, zo⟩ := dig3_true hd
              have zb := list_ne3 z
              have z3i : ¬ (3 : Int) < c.size := by omega
              go_wp2_with (go_at_call 75; refine (implDigits c _ hc').mono ?_; rintro e w' ⟨rfl, rfl⟩; rw [zo])
              go_roundw
              case rel => exact ⟨2, by omega, by go_num, (by first | rfl | trivial), (fun _ => HK0.out (by omega)), (fun _ => by first | exact hd | trivial)⟩
              case measure => simp [intOf]
          · have G : Hid (R = true) := by show _ = _; rw [E.out, HK0.out (by omega), HK1.out (by omega)]; rfl
            go_wp2
            go_ret
            exact ⟨ret_bool G.out.symm, hb1⟩
      · subst h5
        go_wp2_with fail
        go_loopw [26] (fun iv wr => ∃ k : Nat, k ≤ 2 ∧ iv = .int .i64 k ∧ wr = w1 ∧ Hid (0 < k → dig3 b = true) ∧ Hid (1 < k → dig3 c = true)) (fun iv _ => 2 - (intOf iv).toNat)
        case atStart => exact ⟨0, by omega, rfl, rfl, fun h => absurd h (by omega), fun h => absurd h (by omega)⟩
        case round =>
          obtain ⟨k, hk, rfl, rfl, HK0, HK1⟩ := hrel
          rcases (show k = 0 ∨ k = 1 ∨ k = 2 by omega) with rfl | rfl | rfl
          · cases hd : dig3 b
            · have G : Hid (R = false) := by show _ = _; rw [E.out, hd]; simp
              rcases dig3_cases hd with z | ⟨z, z3⟩ | ⟨z, z3, zo⟩
              · have := list_em3 z
                subst this
                go_wp2
                go_ret
                exact ⟨ret_bool G.out.symm, hb1⟩
              · have zb := list_ne3 z
                have z3i : (3 : Int) < b.size := by omega
                go_wp2
                go_ret
                exact ⟨ret_bool G.out.symm, hb1⟩
              · have zb := list_ne3 z
                have z3i : ¬ (3 : Int) < b.size := by omega
                go_wp2_with (go_at_call 75; refine (implDigits b _ hb').mono ?_; rintro e w' ⟨rfl, rfl⟩; rw [zo])
                go_ret
                exact ⟨ret_bool G.out.symm, hb1⟩
            · obtain ⟨z, z3, zo⟩ := dig3_true hd
              have zb := list_ne3 z
              have z3i : ¬ (3 : Int) < b.size := by omega
              go_wp2_with (go_at_call 75; refine (implDigits b _ hb').mono ?_; rintro e w' ⟨rfl, rfl⟩; rw [zo])
              go_roundw
              case rel => exact ⟨1, by omega, by go_num, (by first | rfl | trivial), (fun _ => by first | exact hd | trivial), fun h => absurd h (by omega)⟩
              case measure => simp [intOf]
          · cases hd : dig3 c
            · have G : Hid (R = false) := by show _ = _; rw [E.out, hd]; simp
              rcases dig3_cases hd with z | ⟨z, z3⟩ | ⟨z, z3, zo⟩
              · have := list_em3 z
                subst this
                go_wp2
                go_ret
                exact ⟨ret_bool G.out.symm, hb1⟩
              · have zb := list_ne3 z
                have z3i : (3 : Int) < c.size := by omega
                go_wp2
                go_ret
                exact ⟨ret_bool G.out.symm, hb1⟩
              · have zb := list_ne3 z
                have z3i : ¬ (3 : Int) < c.size := by omega
                go_wp2_with (go_at_call 75; refine (implDigits c _ hc').mono ?_; rintro e w' ⟨rfl, rfl⟩; rw [zo])
                go_ret
                exact ⟨ret_bool G.out.symm, hb1⟩
            · obtain ⟨z, z3, zo⟩ := dig3_true hd
              have zb := list_ne3 z
              have z3i : ¬ (3 : Int) < c.size := by omega
              go_wp2_with (go_at_call 75; refine (implDigits c _ hc').mono ?_; rintro e w' ⟨rfl, rfl⟩; rw [zo])
              go_roundw
              case rel => exact ⟨2, by omega, by go_num, (by first | rfl | trivial), (fun _ => HK0.out (by omega)), (fun _ => by first | exact hd | trivial)⟩
              case measure => simp [intOf]
          · have G : Hid (R = true) := by show _ = _; rw [E.out, HK0.out (by omega), HK1.out (by omega)]; rfl
            go_wp2
            go_ret
            exact ⟨ret_bool G.out.symm, hb1⟩
    · have h4 : a ≠ ⟨#[52]⟩ := fun e => h45 (.inl e)
      have h5 : a ≠ ⟨#[53]⟩ := fun e => h45 (.inr e)
      have E : Hid (R = false) := by show _ = _; rw [HP.out, statP_no h4 h5]
      have n4 := strNeL (l := [52]) h4
      have n5 := strNeL (l := [53]) h5
      go_wp2
      go_ret
      exact ⟨ret_bool (by rw [E.out]), hb1⟩
  · have E : Hid (R = false) := by show _ = _; rw [HP.out, statP_ne h3]
    have h3i : ((P.length : Int) == 3) = false := by rw [beq_eq_false_iff_ne]; omega
    go_wp2
    go_ret
    exact ⟨ret_bool (by rw [E.out]), hb1⟩
end Go.Proofs.YtlolnfpfipnfeaaGreatDoor
namespace Go.Proofs.YtlolnfpfipnfeaaGreatDoor
open Go.ChangeShapes Go.WideShapes Go.ChangeAt Go.RowKit
open Pcs

set_option maxHeartbeats 1000000 in
set_option maxRecDepth 100000 in
theorem implSplitAfter (s sep : ByteArray) (w : World) (hl : LenIn w) (hs : s.size ≤ 1048576) (h1 : 1 ≤ sep.size) :
    Calls Tryz.prog 77 #[.string s, .string sep] w fun e w' => (∃ v, e = .returned v ∧ Strs w' w.heap.size v (piecesAfter sep s)) ∧ Below w.heap.size w w' := by
  obtain ⟨m, hm⟩ := hl
  have hi : (Tryz.prog.info? 9).map (fun i => (i.zero, i.size, i.bytes)) = some (some (.string ByteArray.empty), 1, 16) := infoStr
  have hle := Lib.countB_le sep h1 s.size s (Nat.le_refl _)
  have c := Any.strings_genSplit Tryz.lays221 hi s sep sep.size (-1) (Lib.countB s sep + 1) m w (by omega) hm h1 (Nat.le_refl _) (by decide) (by decide) (by rw [if_pos (by decide)]; omega)
  rw [Nat.add_sub_cancel, splitB_after h1] at c
  have hlen : (piecesAfter sep s).length = Lib.countB s sep + 1 := by rw [← splitB_after h1]; exact Lib.splitB_all sep h1 sep.size _ s rfl
  have e2 : Lib.cellsOf (piecesAfter sep s) (Lib.countB s sep + 1) = ((piecesAfter sep s).map Value.string).toArray := by rw [← hlen]; exact Lib.cellsOf_full _
  rw [e2, ← hlen] at c
  have hmx : (piecesAfter sep s).length ≤ maxLen := by unfold maxLen; omega
  clear hlen e2 hle
  go_enter Tryz.func77, Tryz.ntmps77
  go_wp2_with (go_at_call 72; refine c.mono ?_; rintro e w' ⟨rfl, hw⟩; rw [hw])
  go_ret
  exact ⟨⟨_, rfl, strs_new w _ hmx⟩, below1 _ _⟩

theorem implCutEnd (x : ByteArray) (w : World) (hx : x.size ≤ 1048576) :
    Calls Tryz.prog 78 #[.string (mk (x.data.toList ++ [13, 10])), .string ⟨#[13, 10]⟩] w fun e w' => e = .returned (.tuple #[.string x, .bool true]) ∧ w' = w := by
  have hsz : (mk (x.data.toList ++ [13, 10])).size ≤ 9223372036854775807 := by
    rw [mk_size, List.length_append, ← Lib.size_eq]; simp; omega
  refine (Any.strings_CutSuffix Tryz.lays104 _ _ w hsz).mono ?_
  rintro e w' ⟨rfl, rfl⟩
  have hh : Lib.hasSuffix (x.data.toList ++ [13, 10]) [13, 10] = true := List.isSuffixOf_iff_suffix.2 (List.suffix_append _ _)
  have ht : Lib.trimSuffix (x.data.toList ++ [13, 10]) [13, 10] = x.data.toList := by
    unfold Lib.trimSuffix; rw [if_pos hh]; simp
  refine ⟨?_, rfl⟩
  show Ending.returned (.tuple #[.string (mk (Lib.trimSuffix (x.data.toList ++ [13, 10]) [13, 10])), .bool (Lib.hasSuffix (x.data.toList ++ [13, 10]) [13, 10])]) = _
  rw [hh, ht, mk_data]
theorem implCutLast (x : ByteArray) (w : World) (hx : x.size ≤ 1048576) (hh : Lib.hasSuffix x.data.toList [13, 10] = false) :
    Calls Tryz.prog 78 #[.string x, .string ⟨#[13, 10]⟩] w fun e w' => e = .returned (.tuple #[.string x, .bool false]) ∧ w' = w := by
  refine (Any.strings_CutSuffix Tryz.lays104 _ _ w (by omega)).mono ?_
  rintro e w' ⟨rfl, rfl⟩
  have ht : Lib.trimSuffix x.data.toList [13, 10] = x.data.toList := by
    unfold Lib.trimSuffix; rw [if_neg (by rw [hh]; decide)]
  refine ⟨?_, rfl⟩
  show Ending.returned (.tuple #[.string (mk (Lib.trimSuffix x.data.toList [13, 10])), .bool (Lib.hasSuffix x.data.toList [13, 10])]) = _
  rw [hh, ht, mk_data]
theorem implZero (s : ByteArray) (w : World) (hl : LenIn w) (hs : s.size ≤ 1048576) :
    Calls Tryz.prog 37 #[.string s, .string ⟨#[0]⟩] w fun e w' => e = .returned (.bool (hasN s 0)) ∧ w' = w := by
  obtain ⟨m, hm⟩ := hl
  refine (Any.strings_Contains Tryz.lays144 s ⟨#[0]⟩ m w (by omega) hm).mono ?_
  rintro e w' ⟨rfl, rfl⟩
  refine ⟨ret_bool ?_, rfl⟩
  show Lib.contains s.data.toList [0] = _
  unfold hasN
  rw [okAll_list, any_nat _ (by decide)]
  generalize s.data.toList = l
  induction l with
  | nil => rfl
  | cons b l ih =>
    unfold Lib.contains at ih ⊢
    rw [Lib.index, List.contains_cons, ← ih]
    have h1 := Lib.index_ge l [0]
    by_cases h : b = 0
    · subst h
      simp [List.isPrefixOf]
    · have hb : ((0 : UInt8) == b) = false := beq_eq_false_iff_ne.2 fun e => h e.symm
      have hp : ([0] : List UInt8).isPrefixOf (b :: l) = false := by simp only [List.isPrefixOf, hb, Bool.false_and]
      rw [hp]
      have hb' : (UInt8.ofNat 0 == b) = false := hb
      rw [hb', Bool.false_or, if_neg (by decide)]
      split
      · rename_i h2
        rw [beq_iff_eq] at h2
        rw [h2]
      · rename_i h2
        rw [beq_iff_eq] at h2
        rw [decide_eq_decide]; omega

set_option maxHeartbeats 2000000 in
set_option maxRecDepth 100000 in
theorem implBody (s : ByteArray) (w : World) (hl : LenIn w) (hs : s.size ≤ 1048576) :
    Calls Tryz.prog 61 #[.string s] w fun e w' => e = .returned (.bool (bodyOk s)) ∧ Below w.heap.size w w' := by
  have HL : Hid (LenIn w) := hl
  clear hl
  by_cases hA : 3000 < s.size
  · have G : bodyOk s = false := by unfold bodyOk; rw [decide_eq_false (by omega)]; rfl
    go_enter Tryz.func61, Tryz.ntmps61
    go_wp2
    go_ret
    exact ⟨ret_bool G.symm, Below.refl _ _⟩
  · go_enter Tryz.func61, Tryz.ntmps61
    go_wp2_with fail
    refine (implSplitAfter s _ _ HL.out hs (by decide)).mono ?_
    rintro e w1 ⟨⟨v, rfl, S1⟩, hb1⟩
    have hE : bodyOk s = linesOk (pieces ⟨#[13, 10]⟩ s) := by unfold bodyOk; rw [decide_eq_true (by omega)]; rfl
    have hne : piecesAfter ⟨#[13, 10]⟩ s ≠ [] := fun e => by
      have := afterLen s
      rw [e] at this
      exact pieces_ne ⟨#[13, 10]⟩ s (List.eq_nil_of_length_eq_zero this.symm)
    obtain ⟨g, cap, rfl, A1⟩ := strs_ne S1 hne
    obtain ⟨n, hn⟩ : ∃ n, (pieces ⟨#[13, 10]⟩ s).length = n + 1 := ⟨(pieces ⟨#[13, 10]⟩ s).length - 1, by have := List.length_pos_iff.2 (pieces_ne ⟨#[13, 10]⟩ s); omega⟩
    have hkn : ∀ k, k < n → k < (pieces ⟨#[13, 10]⟩ s).length := fun k h => by omega
    have hnn : n < (pieces ⟨#[13, 10]⟩ s).length := by omega
    have hln : (piecesAfter ⟨#[13, 10]⟩ s).length = n + 1 := by rw [afterLen]; exact hn
    have hpl := pieces_len ⟨#[13, 10]⟩ s
    have hsz : ∀ k (h : k < (pieces ⟨#[13, 10]⟩ s).length), (pieces ⟨#[13, 10]⟩ s)[k].size ≤ 1048576 := fun k h => Nat.le_trans (pieces_size (List.getElem_mem h)) hs
    have cIn : ∀ k (h : k < n), w1.cell? ⟨g, k, none⟩ = some (.string (mk (((pieces ⟨#[13, 10]⟩ s)[k]'(hkn k h)).data.toList ++ [13, 10]))) := by
      intro k h
      have h2 : k < (piecesAfter ⟨#[13, 10]⟩ s).length := by omega
      rw [A1.cell k h2]
      have := afterIn rfl hn h
      rw [List.getElem?_eq_getElem h2] at this
      rw [Option.some.inj this]
    have cLast : w1.cell? ⟨g, n, none⟩ = some (.string ((pieces ⟨#[13, 10]⟩ s)[n]'hnn)) := by
      have h2 : n < (piecesAfter ⟨#[13, 10]⟩ s).length := by omega
      rw [A1.cell n h2]
      have := afterLast rfl hn
      rw [List.getElem?_eq_getElem h2] at this
      rw [Option.some.inj this]
    have hNo := lastNo rfl hn
    have hcap := A1.cap
    have hlc := A1.len
    have hgl := A1.lt
    rw [hln] at hlc ⊢
    unfold maxLen at hcap
    have HL1 : Hid (LenIn w1) := len_below HL.out hb1
    have HB1 : Hid (Below w.heap.size w w1) := hb1
    have hz1 := hb1.size
    clear S1 A1 hne hln hb1
    generalize pieces ⟨#[13, 10]⟩ s = P at *
    have HE : Hid (bodyOk s = linesOk P) := hE
    clear hE
    go_wp2
    go_loopw [13] (fun iv wr => ∃ k : Nat, k ≤ n + 1 ∧ iv = .int .i64 k ∧ Hid (∀ j (h : j < n), j < k → lineOk (P[j]'(by omega)) = true) ∧ (n < k → Hid ((P[n]'(by omega)).size = 0)) ∧ Below w1.heap.size w1 wr) (fun iv _ => n + 1 - (intOf iv).toNat)
    case atStart => exact ⟨0, Nat.zero_le _, rfl, fun j _ h => absurd h (Nat.not_lt_zero _), fun h => absurd h (Nat.not_lt_zero _), Below.refl _ _⟩
    case round =>
      obtain ⟨k, hk, rfl, HA, HZ, hbw⟩ := hrel
      have HBW : Hid (Below w.heap.size w wr) := HB1.out.trans (hbw.mono hz1)
      have HLW : Hid (LenIn wr) := len_below HL1.out hbw
      by_cases hlt : k < n
      · have ec := cIn k hlt
        rw [← (bcell hbw).1 g k hgl] at ec
        have hx := hsz k (by omega)
        have HB : Hid (lineOk (P[k]'(by omega)) = true → ∀ j (h : j < n), j < k + 1 → lineOk (P[j]'(by omega)) = true) := by
          intro h1 j h hj
          rcases Nat.lt_succ_iff_lt_or_eq.1 hj with hj | rfl
          · exact HA.out j h hj
          · exact h1
        have HC : Hid (lineOk (P[k]'(by omega)) = false → bodyOk s = false) := fun h => by rw [HE.out]; exact lines_bad hn hlt h
        clear cIn cLast HZ
        generalize P[k]'(by omega) = x at *
        obtain ⟨X, HX⟩ : ∃ X, Hid (mk (x.data.toList ++ [13, 10]) = X) := ⟨mk (x.data.toList ++ [13, 10]), rfl⟩
        rw [HX.out] at ec
        have cut : ∀ wx, Calls Tryz.prog 78 #[.string X, .string ⟨#[13, 10]⟩] wx fun e w' => e = .returned (.tuple #[.string x, .bool true]) ∧ w' = wx := by
          intro wx; rw [← HX.out]; exact implCutEnd x wx hx
        have HLB : Hid (lineOk x = (decide (x.size ≤ 998) && (!brkN x && !hasN x 0))) := line_brk x
        by_cases h998 : (998 : Int) < x.size
        · have G : Hid (bodyOk s = false) := HC.out (by rw [HLB.out, decide_eq_false (by omega)]; rfl)
          clear HB HC
          go_wp2_with (go_at_call 78; refine (cut _).mono ?_; rintro e w' ⟨rfl, hw⟩; rw [hw])
          go_ret
          exact ⟨ret_bool G.out.symm, HBW.out⟩
        · cases hbr : brkN x with
          | true =>
            have G : Hid (bodyOk s = false) := HC.out (by rw [HLB.out, hbr]; simp)
            clear HB HC
            go_wp2_with (first
              | (go_at_call 78; refine (cut _).mono ?_; rintro e w' ⟨rfl, hw⟩; rw [hw])
              | (go_at_call 79; refine (implBreak _ _ hx).mono ?_; rintro e w2 ⟨rfl, hb2⟩; rw [hbr]))
            go_ret
            exact ⟨ret_bool G.out.symm, HBW.out.trans (hb2.mono HBW.out.size)⟩
          | false =>
            cases h0 : hasN x 0 with
            | true =>
              have G : Hid (bodyOk s = false) := HC.out (by rw [HLB.out, hbr, h0]; simp)
              clear HB HC
              go_wp2_with (first
                | (go_at_call 78; refine (cut _).mono ?_; rintro e w' ⟨rfl, hw⟩; rw [hw])
                | (go_at_call 79; refine (implBreak _ _ hx).mono ?_; rintro e w2 ⟨rfl, hb2⟩; rw [hbr])
                | (go_at_call 37; refine (implZero _ _ (len_below HLW.out hb2) hx).mono ?_; rintro e w' ⟨rfl, hw⟩; rw [hw, h0]))
              go_ret
              exact ⟨ret_bool G.out.symm, HBW.out.trans (hb2.mono HBW.out.size)⟩
            | false =>
              have G : Hid (∀ j (h : j < n), j < k + 1 → lineOk (P[j]'(by omega)) = true) := HB.out (by rw [HLB.out, hbr, h0, decide_eq_true (by omega)]; rfl)
              clear HB HC
              go_wp2_with (first
                | (go_at_call 78; refine (cut _).mono ?_; rintro e w' ⟨rfl, hw⟩; rw [hw])
                | (go_at_call 79; refine (implBreak _ _ hx).mono ?_; rintro e w2 ⟨rfl, hb2⟩; rw [hbr])
                | (go_at_call 37; refine (implZero _ _ (len_below HLW.out hb2) hx).mono ?_; rintro e w' ⟨rfl, hw⟩; rw [hw, h0]))
              go_roundw
              case rel => exact ⟨k + 1, by omega, by go_num, G.out, fun h => absurd h (by omega), hbw.trans (hb2.mono hbw.size)⟩
              case measure => simp [intOf]; omega
      · by_cases hkn : k = n
        · subst hkn
          have ec := cLast
          rw [← (bcell hbw).1 g k hgl] at ec
          have hx := hsz k (by omega)
          have HZ0 : Hid (∀ e : (P[k]'(by omega)).size = 0, k < k + 1 → Hid ((P[k]'(by omega)).size = 0)) := fun e _ => e
          have HC : Hid ((P[k]'(by omega)).size ≠ 0 → bodyOk s = false) := fun h => by rw [HE.out]; exact lines_last hn h
          have HA' : Hid (∀ j (h : j < k), j < k + 1 → lineOk (P[j]'(by omega)) = true) := fun j h _ => HA.out j h (by omega)
          clear cIn cLast HZ
          by_cases hx0 : (P[k]'(by omega)).size = 0
          · have hx1 := empty_of hx0
            rw [hx1] at ec
            have cut : ∀ wx, Calls Tryz.prog 78 #[.string ByteArray.empty, .string ⟨#[13, 10]⟩] wx fun e w' => e = .returned (.tuple #[.string ByteArray.empty, .bool false]) ∧ w' = wx := by
              intro wx; exact implCutLast _ wx (by decide) rfl
            have b0 : brkN ByteArray.empty = false := rfl
            have z0 : hasN ByteArray.empty 0 = false := rfl
            clear hNo HC
            go_wp2_with (first
              | (go_at_call 78; refine (cut _).mono ?_; rintro e w' ⟨rfl, hw⟩; rw [hw])
              | (go_at_call 79; refine (implBreak _ _ (by decide)).mono ?_; rintro e w2 ⟨rfl, hb2⟩; rw [b0])
              | (go_at_call 37; refine (implZero _ _ (len_below HLW.out hb2) (by decide)).mono ?_; rintro e w' ⟨rfl, hw⟩; rw [hw, z0]))
            go_roundw
            case rel => exact ⟨k + 1, by omega, by go_num, HA'.out, HZ0.out hx0, hbw.trans (hb2.mono hbw.size)⟩
            case measure => simp [intOf]
          · have G : Hid (bodyOk s = false) := HC.out hx0
            have hne := list_ne hx0
            clear HC HZ0
            generalize P[k]'(by omega) = x at *
            go_wp2_with (go_at_call 78; refine (implCutLast _ _ hx hNo).mono ?_; rintro e w' ⟨rfl, hw⟩; rw [hw])
            go_ret
            exact ⟨ret_bool G.out.symm, HBW.out⟩
        · have hk1 : k = n + 1 := by omega
          subst hk1
          have G : Hid (bodyOk s = true) := by
            show _ = _
            rw [HE.out]
            exact lines_good hn (fun j h => HA.out j h (by omega)) (HZ (by omega)).out
          clear cIn cLast HZ
          go_wp2
          go_ret
          exact ⟨ret_bool G.out.symm, HBW.out⟩
end Go.Proofs.YtlolnfpfipnfeaaGreatDoor
