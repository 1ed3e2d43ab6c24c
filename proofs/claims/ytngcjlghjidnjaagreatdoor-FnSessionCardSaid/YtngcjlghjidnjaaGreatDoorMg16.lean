import Derived.Test.YtngcjlghjidnjaaGreatDoorMg15
import Derived.Test.YtngcjlghjidnjaaGreatDoorMg11
import Derived.Test.YtngcjlghjidnjaaGreatDoorMg12
namespace Go.Proofs.YtngcjlghjidnjaaGreatDoor
open Go.ChangeShapes Go.WideShapes Go.ChangeAt Go.RowKit
open Pcs

set_option maxHeartbeats 1000000 in
set_option maxRecDepth 100000 in
theorem specBody (s : ByteArray) (w : World) (hs : s.size ≤ 1048576) :
    Calls Tryz.prog 31 #[.string s] w fun e w' => e = .returned (.bool (bodyOk s)) ∧ Below w.heap.size w w' := by
  go_enter Tryz.func31, Tryz.ntmps31
  go_wp2_with (go_at_call 78; refine (specLines _ _ hs).mono ?_; rintro e w1 ⟨⟨v, rfl, _⟩, hb1⟩)
  go_ret
  exact ⟨rfl, hb1⟩
end Go.Proofs.YtngcjlghjidnjaaGreatDoor
namespace Go.Proofs.YtngcjlghjidnjaaGreatDoor
open Go.ChangeShapes Go.WideShapes Go.ChangeAt Go.RowKit
open Pcs

set_option maxHeartbeats 1000000 in
set_option maxRecDepth 100000 in
theorem implSplitAfter (s sep : ByteArray) (w : World) (hl : LenIn w) (hs : s.size ≤ 1048576) (h1 : 1 ≤ sep.size) :
    Calls Tryz.prog 47 #[.string s, .string sep] w fun e w' => (∃ v, e = .returned v ∧ Strs w' w.heap.size v (piecesAfter sep s)) ∧ Below w.heap.size w w' := by
  obtain ⟨m, hm⟩ := hl
  have hi : (Tryz.prog.info? 9).map (fun i => (i.zero, i.size, i.bytes)) = some (some (.string ByteArray.empty), 1, 16) := infoStr
  have hle := Lib.countB_le sep h1 s.size s (Nat.le_refl _)
  have c := Any.strings_genSplit Tryz.lays221 hi s sep sep.size (-1) (Lib.countB s sep + 1) m w (by omega) hm h1 (Nat.le_refl _) (by decide) (by decide) (by rw [if_pos (by decide)]; omega)
  rw [Nat.add_sub_cancel, splitB_after h1] at c
  have hlen : (piecesAfter sep s).length = Lib.countB s sep + 1 := by rw [← splitB_after h1]; exact Lib.splitB_all sep h1 sep.size _ s rfl
  have e2 : Lib.cellsOf (piecesAfter sep s) (Lib.countB s sep + 1) = ((piecesAfter sep s).map Value.string).toArray := by rw [← hlen]; exact Lib.cellsOf_full _
  rw [e2, ← hlen] at c
  have hmx : (piecesAfter sep s).length ≤ maxLen := by unfold maxLen; omega
  clear hlen e2 hle
  go_enter Tryz.func47, Tryz.ntmps47
  go_wp2_with (go_at_call 97; refine c.mono ?_; rintro e w' ⟨rfl, hw⟩; rw [hw])
  go_ret
  exact ⟨⟨_, rfl, strs_new w _ hmx⟩, below1 _ _⟩

theorem implCutEnd (x : ByteArray) (w : World) (hx : x.size ≤ 1048576) :
    Calls Tryz.prog 94 #[.string (mk (x.data.toList ++ [13, 10])), .string ⟨#[13, 10]⟩] w fun e w' => e = .returned (.tuple #[.string x, .bool true]) ∧ w' = w := by
  have hsz : (mk (x.data.toList ++ [13, 10])).size ≤ 9223372036854775807 := by
    rw [mk_size, List.length_append, ← Lib.size_eq]; simp; omega
  refine (Any.strings_CutSuffix Tryz.lays104 _ _ w hsz).mono ?_
  rintro e w' ⟨rfl, rfl⟩
  have hh : Lib.hasSuffix (x.data.toList ++ [13, 10]) [13, 10] = true := List.isSuffixOf_iff_suffix.2 (List.suffix_append _ _)
  have ht : Lib.trimSuffix (x.data.toList ++ [13, 10]) [13, 10] = x.data.toList := by
    unfold Lib.trimSuffix; rw [if_pos hh]; simp
  refine ⟨?_, rfl⟩
  show Ending.returned (.tuple #[.string (mk (Lib.trimSuffix (x.data.toList ++ [13, 10]) [13, 10])), .bool (Lib.hasSuffix (x.data.toList ++ [13, 10]) [13, 10])]) = _
  rw [hh, ht, mk_data]
theorem implCutLast (x : ByteArray) (w : World) (hx : x.size ≤ 1048576) (hh : Lib.hasSuffix x.data.toList [13, 10] = false) :
    Calls Tryz.prog 94 #[.string x, .string ⟨#[13, 10]⟩] w fun e w' => e = .returned (.tuple #[.string x, .bool false]) ∧ w' = w := by
  refine (Any.strings_CutSuffix Tryz.lays104 _ _ w (by omega)).mono ?_
  rintro e w' ⟨rfl, rfl⟩
  have ht : Lib.trimSuffix x.data.toList [13, 10] = x.data.toList := by
    unfold Lib.trimSuffix; rw [if_neg (by rw [hh]; decide)]
  refine ⟨?_, rfl⟩
  show Ending.returned (.tuple #[.string (mk (Lib.trimSuffix x.data.toList [13, 10])), .bool (Lib.hasSuffix x.data.toList [13, 10])]) = _
  rw [hh, ht, mk_data]
theorem implZero (s : ByteArray) (w : World) (hl : LenIn w) (hs : s.size ≤ 1048576) :
    Calls Tryz.prog 96 #[.string s, .string ⟨#[0]⟩] w fun e w' => e = .returned (.bool (hasN s 0)) ∧ w' = w := by
  obtain ⟨m, hm⟩ := hl
  refine (Any.strings_Contains Tryz.lays144 s ⟨#[0]⟩ m w (by omega) hm).mono ?_
  rintro e w' ⟨rfl, rfl⟩
  refine ⟨ret_bool ?_, rfl⟩
  show Lib.contains s.data.toList [0] = _
  unfold hasN
  rw [okAll_list, any_nat _ (by decide)]
  generalize s.data.toList = l
  induction l with
  | nil => rfl
  | cons b l ih =>
    unfold Lib.contains at ih ⊢
    rw [Lib.index, List.contains_cons, ← ih]
    have h1 := Lib.index_ge l [0]
    by_cases h : b = 0
    · subst h
      simp [List.isPrefixOf]
    · have hb : ((0 : UInt8) == b) = false := beq_eq_false_iff_ne.2 fun e => h e.symm
      have hp : ([0] : List UInt8).isPrefixOf (b :: l) = false := by simp only [List.isPrefixOf, hb, Bool.false_and]
      rw [hp]
      have hb' : (UInt8.ofNat 0 == b) = false := hb
      rw [hb', Bool.false_or, if_neg (by decide)]
      split
      · rename_i h2
        rw [beq_iff_eq] at h2
        rw [h2]
      · rename_i h2
        rw [beq_iff_eq] at h2
        rw [decide_eq_decide]; omega

set_option maxHeartbeats 2000000 in
set_option maxRecDepth 100000 in
theorem implBody (s : ByteArray) (w : World) (hl : LenIn w) (hs : s.size ≤ 1048576) :
    Calls Tryz.prog 46 #[.string s] w fun e w' => e = .returned (.bool (bodyOk s)) ∧ Below w.heap.size w w' := by
  have HL : Hid (LenIn w) := hl
  clear hl
  by_cases hA : 3000 < s.size
  · have G : bodyOk s = false := by unfold bodyOk; rw [decide_eq_false (by omega)]; rfl
    go_enter Tryz.func46, Tryz.ntmps46
    go_wp2
    go_ret
    exact ⟨ret_bool G.symm, Below.refl _ _⟩
  · go_enter Tryz.func46, Tryz.ntmps46
    go_wp2_with fail
    refine (implSplitAfter s _ _ HL.out hs (by decide)).mono ?_
    rintro e w1 ⟨⟨v, rfl, S1⟩, hb1⟩
    have hE : bodyOk s = linesOk (pieces ⟨#[13, 10]⟩ s) := by unfold bodyOk; rw [decide_eq_true (by omega)]; rfl
    have hne : piecesAfter ⟨#[13, 10]⟩ s ≠ [] := fun e => by
      have := afterLen s
      rw [e] at this
      exact pieces_ne ⟨#[13, 10]⟩ s (List.eq_nil_of_length_eq_zero this.symm)
    obtain ⟨g, cap, rfl, A1⟩ := strs_ne S1 hne
    obtain ⟨n, hn⟩ : ∃ n, (pieces ⟨#[13, 10]⟩ s).length = n + 1 := ⟨(pieces ⟨#[13, 10]⟩ s).length - 1, by have := List.length_pos_iff.2 (pieces_ne ⟨#[13, 10]⟩ s); omega⟩
    have hkn : ∀ k, k < n → k < (pieces ⟨#[13, 10]⟩ s).length := fun k h => by omega
    have hnn : n < (pieces ⟨#[13, 10]⟩ s).length := by omega
    have hln : (piecesAfter ⟨#[13, 10]⟩ s).length = n + 1 := by rw [afterLen]; exact hn
    have hpl := pieces_len ⟨#[13, 10]⟩ s
    have hsz : ∀ k (h : k < (pieces ⟨#[13, 10]⟩ s).length), (pieces ⟨#[13, 10]⟩ s)[k].size ≤ 1048576 := fun k h => Nat.le_trans (pieces_size (List.getElem_mem h)) hs
    have cIn : ∀ k (h : k < n), w1.cell? ⟨g, k, none⟩ = some (.string (mk (((pieces ⟨#[13, 10]⟩ s)[k]'(hkn k h)).data.toList ++ [13, 10]))) := by
      intro k h
      have h2 : k < (piecesAfter ⟨#[13, 10]⟩ s).length := by omega
      rw [A1.cell k h2]
      have := afterIn rfl hn h
      rw [List.getElem?_eq_getElem h2] at this
      rw [Option.some.inj this]
    have cLast : w1.cell? ⟨g, n, none⟩ = some (.string ((pieces ⟨#[13, 10]⟩ s)[n]'hnn)) := by
      have h2 : n < (piecesAfter ⟨#[13, 10]⟩ s).length := by omega
      rw [A1.cell n h2]
      have := afterLast rfl hn
      rw [List.getElem?_eq_getElem h2] at this
      rw [Option.some.inj this]
    have hNo := lastNo rfl hn
    have hcap := A1.cap
    have hlc := A1.len
    have hgl := A1.lt
    rw [hln] at hlc ⊢
    unfold maxLen at hcap
    have HL1 : Hid (LenIn w1) := len_below HL.out hb1
    have HB1 : Hid (Below w.heap.size w w1) := hb1
    have hz1 := hb1.size
    clear S1 A1 hne hln hb1
    generalize pieces ⟨#[13, 10]⟩ s = P at *
    have HE : Hid (bodyOk s = linesOk P) := hE
    clear hE
    go_wp2
    go_loopw [13] (fun iv wr => ∃ k : Nat, k ≤ n + 1 ∧ iv = .int .i64 k ∧ Hid (∀ j (h : j < n), j < k → lineOk (P[j]'(by omega)) = true) ∧ (n < k → Hid ((P[n]'(by omega)).size = 0)) ∧ Below w1.heap.size w1 wr) (fun iv _ => n + 1 - (intOf iv).toNat)
    case atStart => exact ⟨0, Nat.zero_le _, rfl, fun j _ h => absurd h (Nat.not_lt_zero _), fun h => absurd h (Nat.not_lt_zero _), Below.refl _ _⟩
    case round =>
      obtain ⟨k, hk, rfl, HA, HZ, hbw⟩ := hrel
      have HBW : Hid (Below w.heap.size w wr) := HB1.out.trans (hbw.mono hz1)
      have HLW : Hid (LenIn wr) := len_below HL1.out hbw
      by_cases hlt : k < n
      · have ec := cIn k hlt
        rw [← (bcell hbw).1 g k hgl] at ec
        have hx := hsz k (by omega)
        have HB : Hid (lineOk (P[k]'(by omega)) = true → ∀ j (h : j < n), j < k + 1 → lineOk (P[j]'(by omega)) = true) := by
          intro h1 j h hj
          rcases Nat.lt_succ_iff_lt_or_eq.1 hj with hj | rfl
          · exact HA.out j h hj
          · exact h1
        have HC : Hid (lineOk (P[k]'(by omega)) = false → bodyOk s = false) := fun h => by rw [HE.out]; exact lines_bad hn hlt h
        clear cIn cLast HZ
        generalize P[k]'(by omega) = x at *
        obtain ⟨X, HX⟩ : ∃ X, Hid (mk (x.data.toList ++ [13, 10]) = X) := ⟨mk (x.data.toList ++ [13, 10]), rfl⟩
        rw [HX.out] at ec
        have cut : ∀ wx, Calls Tryz.prog 94 #[.string X, .string ⟨#[13, 10]⟩] wx fun e w' => e = .returned (.tuple #[.string x, .bool true]) ∧ w' = wx := by
          intro wx; rw [← HX.out]; exact implCutEnd x wx hx
        have HLB : Hid (lineOk x = (decide (x.size ≤ 998) && (!brkN x && !hasN x 0))) := line_brk x
        by_cases h998 : (998 : Int) < x.size
        · have G : Hid (bodyOk s = false) := HC.out (by rw [HLB.out, decide_eq_false (by omega)]; rfl)
          clear HB HC
          go_wp2_with (go_at_call 94; refine (cut _).mono ?_; rintro e w' ⟨rfl, hw⟩; rw [hw])
          go_ret
          exact ⟨ret_bool G.out.symm, HBW.out⟩
        · cases hbr : brkN x with
          | true =>
            have G : Hid (bodyOk s = false) := HC.out (by rw [HLB.out, hbr]; simp)
            clear HB HC
            go_wp2_with (first
              | (go_at_call 94; refine (cut _).mono ?_; rintro e w' ⟨rfl, hw⟩; rw [hw])
              | (go_at_call 95; refine (implBreak _ _ hx).mono ?_; rintro e w2 ⟨rfl, hb2⟩; rw [hbr]))
            go_ret
            exact ⟨ret_bool G.out.symm, HBW.out.trans (hb2.mono HBW.out.size)⟩
          | false =>
            cases h0 : hasN x 0 with
            | true =>
              have G : Hid (bodyOk s = false) := HC.out (by rw [HLB.out, hbr, h0]; simp)
              clear HB HC
              go_wp2_with (first
                | (go_at_call 94; refine (cut _).mono ?_; rintro e w' ⟨rfl, hw⟩; rw [hw])
                | (go_at_call 95; refine (implBreak _ _ hx).mono ?_; rintro e w2 ⟨rfl, hb2⟩; rw [hbr])
                | (go_at_call 96; refine (implZero _ _ (len_below HLW.out hb2) hx).mono ?_; rintro e w' ⟨rfl, hw⟩; rw [hw, h0]))
              go_ret
              exact ⟨ret_bool G.out.symm, HBW.out.trans (hb2.mono HBW.out.size)⟩
            | false =>
              have G : Hid (∀ j (h : j < n), j < k + 1 → lineOk (P[j]'(by omega)) = true) := HB.out (by rw [HLB.out, hbr, h0, decide_eq_true (by omega)]; rfl)
              clear HB HC
              go_wp2_with (first
                | (go_at_call 94; refine (cut _).mono ?_; rintro e w' ⟨rfl, hw⟩; rw [hw])
                | (go_at_call 95; refine (implBreak _ _ hx).mono ?_; rintro e w2 ⟨rfl, hb2⟩; rw [hbr])
                | (go_at_call 96; refine (implZero _ _ (len_below HLW.out hb2) hx).mono ?_; rintro e w' ⟨rfl, hw⟩; rw [hw, h0]))
              go_roundw
              case rel => exact ⟨k + 1, by omega, by go_num, G.out, fun h => absurd h (by omega), hbw.trans (hb2.mono hbw.size)⟩
              case measure => simp [intOf]; omega
      · by_cases hkn : k = n
        · subst hkn
          have ec := cLast
          rw [← (bcell hbw).1 g k hgl] at ec
          have hx := hsz k (by omega)
          have HZ0 : Hid (∀ e : (P[k]'(by omega)).size = 0, k < k + 1 → Hid ((P[k]'(by omega)).size = 0)) := fun e _ => e
          have HC : Hid ((P[k]'(by omega)).size ≠ 0 → bodyOk s = false) := fun h => by rw [HE.out]; exact lines_last hn h
          have HA' : Hid (∀ j (h : j < k), j < k + 1 → lineOk (P[j]'(by omega)) = true) := fun j h _ => HA.out j h (by omega)
          clear cIn cLast HZ
          by_cases hx0 : (P[k]'(by omega)).size = 0
          · have hx1 := empty_of hx0
            rw [hx1] at ec
            have cut : ∀ wx, Calls Tryz.prog 94 #[.string ByteArray.empty, .string ⟨#[13, 10]⟩] wx fun e w' => e = .returned (.tuple #[.string ByteArray.empty, .bool false]) ∧ w' = wx := by
              intro wx; exact implCutLast _ wx (by decide) rfl
            have b0 : brkN ByteArray.empty = false := rfl
            have z0 : hasN ByteArray.empty 0 = false := rfl
            clear hNo HC
            go_wp2_with (first
              | (go_at_call 94; refine (cut _).mono ?_; rintro e w' ⟨rfl, hw⟩; rw [hw])
              | (go_at_call 95; refine (implBreak _ _ (by decide)).mono ?_; rintro e w2 ⟨rfl, hb2⟩; rw [b0])
              | (go_at_call 96; refine (implZero _ _ (len_below HLW.out hb2) (by decide)).mono ?_; rintro e w' ⟨rfl, hw⟩; rw [hw, z0]))
            go_roundw
            case rel => exact ⟨k + 1, by omega, by go_num, HA'.out, HZ0.out hx0, hbw.trans (hb2.mono hbw.size)⟩
            case measure => simp [intOf]
          · have G : Hid (bodyOk s = false) := HC.out hx0
            have hne := list_ne hx0
            clear HC HZ0
            generalize P[k]'(by omega) = x at *
            go_wp2_with (go_at_call 94; refine (implCutLast _ _ hx hNo).mono ?_; rintro e w' ⟨rfl, hw⟩; rw [hw])
            go_ret
            exact ⟨ret_bool G.out.symm, HBW.out⟩
        · have hk1 : k = n + 1 := by omega
          subst hk1
          have G : Hid (bodyOk s = true) := by
            show _ = _
            rw [HE.out]
            exact lines_good hn (fun j h => HA.out j h (by omega)) (HZ (by omega)).out
          clear cIn cLast HZ
          go_wp2
          go_ret
          exact ⟨ret_bool G.out.symm, HBW.out⟩
end Go.Proofs.YtngcjlghjidnjaaGreatDoor
namespace Go.Proofs.YtngcjlghjidnjaaGreatDoor
open Go.ChangeShapes Go.WideShapes Go.ChangeAt Go.RowKit

set_option maxHeartbeats 1000000 in
set_option maxRecDepth 100000 in
theorem szStrs (v : Value) (L : List ByteArray) (n : Int) (w : World) (h : ArgS w v L) (hn : 0 ≤ n) (hn2 : n ≤ 1048576) :
    Calls Tryz.prog 58 #[v, .int .i64 n] w fun e w' => ∃ r : Int, e = .returned (.int .i64 r) ∧ (r < 0 ∨ r = n - L.length - sumSz L) ∧ w' = w := by
  obtain ⟨hL, hS, hform⟩ := h
  unfold maxLen at hL
  rcases hform with ⟨rfl, a, c, rfl⟩ | ⟨b, off, cap, rfl, hlt, hc⟩
  · clear hS
    go_enter Tryz.func58, Tryz.ntmps58
    go_wp2
    refine wp_loop_rounds 1 ?_; rw [rounds_succ]
    go_wp2
    go_ret
    exact ⟨_, rfl, .inr (by simp [sumSz]), rfl⟩
  · have HS : Hid (∀ s ∈ L, s.size ≤ maxLen) := hS
    have HC : Hid (∀ i (hi : i < L.length), w.cell? ⟨b, off + i, none⟩ = some (.string L[i])) := hc
    clear hS hc
    by_cases c1 : n - (L.length : Int) < 0
    · go_enter Tryz.func58, Tryz.ntmps58
      go_wp2
      go_ret
      exact ⟨_, rfl, .inl (by decide), rfl⟩
    · go_enter Tryz.func58, Tryz.ntmps58
      go_wp2
      go_loop [1, 5] (fun lv i => ∃ k : Nat, k ≤ L.length ∧ i = .int .i64 k ∧ lv = .int .i64 (n - (L.length : Int) - (sumSz (L.take k) : Int)) ∧ (sumSz (L.take k) : Int) ≤ n - (L.length : Int)) (fun _ i => L.length - (intOf i).toNat)
      case atStart => exact ⟨0, Nat.zero_le _, rfl, int_eq (by simp [sumSz]), by simp [sumSz]; omega⟩
      case round =>
        obtain ⟨k, hk, rfl, rfl, hsum⟩ := hrel
        by_cases hk2 : k < L.length
        · have e1 := HC.out k hk2
          have hs1 : L[k].size ≤ 9223372036854775807 := by have := HS.out L[k] (List.getElem_mem _); simpa [maxLen] using this
          have HT : Hid (sumSz (L.take (k + 1)) = sumSz (L.take k) + L[k].size) := sumSz_take L k hk2
          generalize L[k] = X at e1 hs1 HT
          generalize sumSz (L.take k) = T at hsum HT ⊢
          by_cases c2 : n - (L.length : Int) - (T : Int) - (X.size : Int) < 0
          · go_wp2
            go_ret
            exact ⟨_, rfl, .inl (by decide), rfl⟩
          · go_wp2
            go_round
            case rel => exact ⟨k + 1, by omega, by go_num, int_eq (by rw [HT.out]; omega), by rw [HT.out]; omega⟩
            case measure => simp [intOf]; omega
        · obtain rfl : k = L.length := by omega
          go_wp2
          go_ret
          exact ⟨_, rfl, .inr rfl, rfl⟩

set_option maxRecDepth 100000 in
theorem int_str : (Tryz.prog.info? 9).map (fun i => (i.zero, i.size, i.bytes)) = some (some (.string ⟨#[]⟩), 1, 16) := infoStr
/-- a new row of empty strings -/
theorem strs_made (w : World) (n : Nat) (hn : n ≤ maxLen) : Strs (w.alloc (.cells (madeCells (Value.string ⟨#[]⟩).cells n) 9)) w.heap.size (.slice (some ⟨w.heap.size, 0, none⟩) n n) (List.replicate n ⟨#[]⟩) := by
  refine ⟨by simp, .inr ⟨w.heap.size, n, madeCells (Value.string ⟨#[]⟩).cells n, by simp, Nat.le_refl _, (MapKept.heap_alloc w _).1, by simp, hn, by simp [size_madeCells], ?_⟩⟩
  simp [madeCells, Value.cells, Nat.mod_one, List.take_of_length_le]
  exact List.ext_getElem (by simp) (fun i h1 h2 => by simp)

set_option maxRecDepth 100000 in
theorem fill_step (L : List ByteArray) (k : Nat) (h : k < L.length) : (L.take k ++ List.replicate (L.length - k) (⟨#[]⟩ : ByteArray)).set k L[k] = L.take (k + 1) ++ List.replicate (L.length - (k + 1)) ⟨#[]⟩ := by
  have hl : (L.take k).length = k := by simp; omega
  rw [List.set_append_right _ _ (by omega), hl, Nat.sub_self, List.take_succ_eq_append_getElem h]
  obtain ⟨n, hn⟩ : ∃ n, L.length - k = n + 1 := ⟨L.length - k - 1, by omega⟩
  rw [hn, List.replicate_succ, List.set_cons_zero, show L.length - (k + 1) = n by omega, List.append_assoc]
  rfl

set_option maxHeartbeats 1000000 in
set_option maxRecDepth 100000 in
theorem toStrs (v : Value) (L : List ByteArray) (w : World) (h : ArgS w v L) (hL : L.length ≤ 1048576) :
    Calls Tryz.prog 61 #[v] w fun e w' => ∃ v', e = .returned v' ∧ Strs w' w.heap.size v' L ∧ Below w.heap.size w w' := by
  obtain ⟨_, hS, hform⟩ := h
  obtain ⟨i0, hi, hz0, hz1, hz2⟩ := info_parts infoStr
  have hmk : (Instr.makeSlice 23 (.int .i64 (L.length : Int)) (.int .i64 (L.length : Int))).run Tryz.prog w = .ok (.slice (some ⟨w.heap.size, 0, none⟩) L.length L.length) (w.alloc (.cells (madeCells (Value.string ⟨#[]⟩).cells L.length) 9)) := by
    have e := run_make (P := Tryz.prog) w 23 9 i0 (.string ⟨#[]⟩) Tryz.underlying23 hi hz0 .i64 .i64 (L.length : Int) (L.length : Int) (by omega) (by omega) (by rw [hz2]; omega) (by omega)
    simpa [hz1] using e
  have HM : Hid (Strs (w.alloc (.cells (madeCells (Value.string ⟨#[]⟩).cells L.length) 9)) w.heap.size (.slice (some ⟨w.heap.size, 0, none⟩) L.length L.length) (L.take 0 ++ List.replicate (L.length - 0) ⟨#[]⟩)) := strs_made w L.length (by unfold maxLen; omega)
  clear hi hz0 hz1 hz2 hS
  rcases hform with ⟨rfl, a, c, rfl⟩ | ⟨b, off, cap, rfl, hlt, hc⟩
  · simp only [List.length_nil, Int.cast_ofNat_Int] at hmk
    go_enter Tryz.func61, Tryz.ntmps61
    go_wp2
    refine wp_loop_rounds 1 ?_; rw [rounds_succ]
    go_wp2
    go_ret
    exact ⟨_, rfl, HM.out, below1 _ _⟩
  · have HC : Hid (∀ i (hi : i < L.length), w.cell? ⟨b, off + i, none⟩ = some (.string L[i])) := hc
    clear hc
    obtain ⟨Z, HZ⟩ : ∃ Z, Hid (Obj.cells (madeCells (Value.string ⟨#[]⟩).cells L.length) 9 = Z) := ⟨_, rfl⟩
    rw [HZ.out] at hmk HM
    go_enter Tryz.func61, Tryz.ntmps61
    go_wp2
    go_loopw [4] (fun i wr => ∃ k : Nat, k ≤ L.length ∧ i = .int .i64 k ∧ Hid (Strs wr w.heap.size (.slice (some ⟨w.heap.size, 0, none⟩) L.length L.length) (L.take k ++ List.replicate (L.length - k) ⟨#[]⟩)) ∧ Below w.heap.size w wr) (fun i _ => L.length - (intOf i).toNat)
    case atStart => exact ⟨0, Nat.zero_le _, rfl, HM, below1 _ _⟩
    case round =>
      obtain ⟨k, hk, rfl, HS, hb⟩ := hrel
      by_cases hlt2 : k < L.length
      · have e1 := (hb.cell (p := ⟨b, off + k, none⟩) hlt).trans (HC.out k hlt2)
        have HN : Hid ((L.take k ++ List.replicate (L.length - k) (⟨#[]⟩ : ByteArray)).set k L[k] = L.take (k + 1) ++ List.replicate (L.length - (k + 1)) ⟨#[]⟩) := fill_step L k hlt2
        have hlen : (L.take k ++ List.replicate (L.length - k) (⟨#[]⟩ : ByteArray)).length = L.length := by simp; omega
        obtain ⟨x, ec⟩ : ∃ x, wr.cell? ⟨w.heap.size, k, none⟩ = some (.string x) := ⟨_, HS.out.at.1.cell k (by omega)⟩
        have ef := HS.out.at.1.free k
        clear hlen
        generalize L[k] = X at e1 HN
        go_wp2
        go_roundw
        case rel =>
          refine ⟨k + 1, by omega, by go_num, ?_, hb.setCell (Nat.le_refl _) _⟩
          show Strs _ _ _ _
          rw [← HN.out]
          exact strs_set HS.out _
        case measure => simp [intOf]; omega
      · obtain rfl : k = L.length := by omega
        go_wp2
        go_ret
        refine ⟨_, rfl, ?_, hb⟩
        have e := HS.out
        rw [List.take_length, Nat.sub_self, List.replicate_zero, List.append_nil] at e
        exact e
end Go.Proofs.YtngcjlghjidnjaaGreatDoor
