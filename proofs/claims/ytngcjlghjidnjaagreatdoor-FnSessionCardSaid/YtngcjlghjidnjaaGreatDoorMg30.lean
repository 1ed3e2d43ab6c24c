import Derived.Test.YtngcjlghjidnjaaGreatDoorMg11
import Derived.Test.YtngcjlghjidnjaaGreatDoorMg15
import Derived.Test.YtngcjlghjidnjaaGreatDoorMg16
import Derived.Test.YtngcjlghjidnjaaGreatDoorMg29
import Derived.Test.YtngcjlghjidnjaaGreatDoorMg13
namespace Go.Proofs.YtngcjlghjidnjaaGreatDoor
open Go.ChangeShapes Go.WideShapes Go.ChangeAt Go.RowKit
open Pcs

theorem cat_data (x y : ByteArray) : (x ++ y).data.toList = x.data.toList ++ y.data.toList := by
  rw [ByteArray.data_append]; simp
theorem cat_no {A : List UInt8} {O x : ByteArray} (h : O = mk A) : O ++ (x ++ (⟨#[13, 10]⟩ : ByteArray)) = mk (A ++ (x.data.toList ++ [13, 10])) := by
  rw [h, mk_append, cat_data]
theorem cat_yes {A : List UInt8} {O x : ByteArray} (h : O = mk A) : O ++ (⟨#[46]⟩ : ByteArray) ++ (x ++ (⟨#[13, 10]⟩ : ByteArray)) = mk (A ++ 46 :: (x.data.toList ++ [13, 10])) := by
  rw [h, mk_append, mk_append, cat_data]
  simp
theorem cat_end {A : List UInt8} {O : ByteArray} (h : O = mk A) : O ++ (⟨#[46, 13, 10]⟩ : ByteArray) = mk (A ++ [46, 13, 10]) := by
  rw [h, mk_append]
theorem stuff_no {s : ByteArray} (h : bodyOk s = false) : stuffB s = ⟨#[]⟩ := by unfold stuffB; rw [h]; rfl
theorem stuff_ok {s : ByteArray} {L : List ByteArray} (h : bodyOk s = true) (hL : (pieces ⟨#[13, 10]⟩ s).dropLast = L) : stuffB s = mk (stuffL L ++ [46, 13, 10]) := by
  unfold stuffB; rw [if_pos h, hL]

set_option maxHeartbeats 2000000 in
set_option maxRecDepth 100000 in
theorem specStuff (s : ByteArray) (w : World) (hs : s.size ≤ 1048576) :
    Calls Tryz.prog 128 #[.string s] w fun e w' => e = .returned (.string (stuffB s)) ∧ Below w.heap.size w w' := by
  go_enter Tryz.func128, Tryz.ntmps128
  go_wp2_with fail
  refine (specLines s _ hs).mono ?_
  rintro e w1 ⟨⟨v, rfl, HS⟩, hb1⟩
  cases hok : bodyOk s with
  | false =>
    have G : Hid (stuffB s = ⟨#[]⟩) := stuff_no hok
    clear HS hok
    go_wp2
    go_ret
    exact ⟨ret_str G.out.symm, hb1⟩
  | true =>
    have S1 := HS hok
    have hll : (pieces ⟨#[13, 10]⟩ s).dropLast.length ≤ s.size := by
      have := pieces_len ⟨#[13, 10]⟩ s
      rw [List.length_dropLast]; omega
    have G : Hid (∀ L, (pieces ⟨#[13, 10]⟩ s).dropLast = L → stuffB s = mk (stuffL L ++ [46, 13, 10])) := fun L hL => stuff_ok hok hL
    have HSZ : Hid (∀ x ∈ (pieces ⟨#[13, 10]⟩ s).dropLast, x.size ≤ 1048576) := fun x hx => Nat.le_trans (pieces_size (List.dropLast_subset _ hx)) hs
    have HLEN : Hid (∀ k, (stuffL ((pieces ⟨#[13, 10]⟩ s).dropLast.take k)).length ≤ 4194307) := fun k => by
      have := stuff_len s ((pieces ⟨#[13, 10]⟩ s).length - 1) k
      rw [← List.dropLast_eq_take] at this; omega
    clear HS hok
    generalize hLE : (pieces ⟨#[13, 10]⟩ s).dropLast = L at *
    have HG : Hid (stuffB s = mk (stuffL L ++ [46, 13, 10])) := G.out L rfl
    clear G hLE
    rcases S1.cases with ⟨rfl, rfl⟩ | ⟨g, cap, rfl, A1⟩
    · go_wp2
      refine wp_loop_rounds 1 ?_; rw [rounds_succ]
      go_wp2
      go_ret
      exact ⟨ret_str HG.out.symm, hb1⟩
    · have hcap := A1.cap
      have hlc := A1.len
      unfold maxLen at hcap
      have CELL : Hid (∀ i (hi : i < L.length), w1.cell? ⟨g, i, none⟩ = some (.string L[i])) := A1.cell
      clear A1 S1
      go_wp2
      go_loopw [5, 17] (fun ov iv wr => ∃ (k n : Nat) (O : ByteArray), k ≤ L.length ∧ iv = .int .i64 k ∧ ov = .string O ∧ Hid (O = mk (stuffL (L.take k))) ∧ wr = w1.drewN n) (fun _ iv _ => L.length - (intOf iv).toNat)
      case atStart => exact ⟨0, 0, ⟨#[]⟩, Nat.zero_le _, rfl, rfl, rfl, rfl⟩
      case round =>
        obtain ⟨k, n, O, hk, rfl, rfl, HO, rfl⟩ := hrel
        have hO : O.size ≤ 4194307 := by
          have := HLEN.out k
          rw [HO.out, mk_size]; exact this
        by_cases hlt : k < L.length
        · have ec := CELL.out k hlt
          have hx := HSZ.out _ (List.getElem_mem hlt)
          have HST : Hid (stuffL (L.take (k + 1)) = stuffL (L.take k) ++ stuffLine L[k].data.toList) := stuffL_step L k hlt
          generalize L[k] = x at *
          by_cases hx0 : 0 < x.size
          · have hx0i : (0 : Int) < x.size := by omega
            by_cases hd : ((x[0]'hx0).toNat : Int) = 46
            · have HY : Hid (stuffLine x.data.toList = 46 :: (x.data.toList ++ [13, 10])) := stuffLine_yes (head_dot.2 ⟨hx0, by omega⟩)
              go_wp2
              go_roundw
              case rel => exact ⟨k + 1, n, _, by omega, by go_num, rfl, by show _ = _; rw [HST.out, HY.out]; exact cat_yes HO.out, rfl⟩
              case measure => simp [intOf]; omega
            · have hdb : (((x[0]'hx0).toNat : Int) == 46) = false := beq_eq_false_iff_ne.2 hd
              have HY : Hid (stuffLine x.data.toList = x.data.toList ++ [13, 10]) := stuffLine_no fun e => by
                obtain ⟨h, e2⟩ := head_dot.1 e
                omega
              go_wp2
              go_roundw
              case rel => exact ⟨k + 1, n, _, by omega, by go_num, rfl, by show _ = _; rw [HST.out, HY.out]; exact cat_no HO.out, rfl⟩
              case measure => simp [intOf]; omega
          · have HY : Hid (stuffLine x.data.toList = x.data.toList ++ [13, 10]) := stuffLine_no fun e => by
              obtain ⟨h, e2⟩ := head_dot.1 e
              omega
            have hx1 : (x.size : Int) ≤ 0 := by omega
            go_wp2
            go_roundw
            case rel => exact ⟨k + 1, n, _, by omega, by go_num, rfl, by show _ = _; rw [HST.out, HY.out]; exact cat_no HO.out, rfl⟩
            case measure => simp [intOf]; omega
        · obtain rfl : k = L.length := by omega
          have HF : Hid (O ++ (⟨#[46, 13, 10]⟩ : ByteArray) = stuffB s) := by
            show _ = _
            have e := HO.out
            rw [List.take_length] at e
            rw [HG.out]; exact cat_end e
          go_wp2
          go_ret
          exact ⟨ret_str HF.out, drew_below hb1 _⟩

theorem pre_yes {x : List UInt8} (h : x.head? = some 46) : Lib.hasPrefix (x ++ [13, 10]) [46] = true := by
  cases x with
  | nil => cases h
  | cons a l => simp at h; subst h; simp [Lib.hasPrefix, List.isPrefixOf]
theorem pre_no {x : List UInt8} (h : x.head? ≠ some 46) : Lib.hasPrefix (x ++ [13, 10]) [46] = false := by
  cases x with
  | nil => rfl
  | cons a l =>
    have : ((46 : UInt8) == a) = false := beq_eq_false_iff_ne.2 fun e => h (by rw [← e]; rfl)
    simp only [Lib.hasPrefix, List.cons_append, List.isPrefixOf, this, Bool.false_and]
theorem bytes_cat (A : List UInt8) (x : ByteArray) : Lib.byteCells A ++ Lib.strCells x = Lib.byteCells (A ++ x.data.toList) := by simp [Lib.byteCells, Lib.strCells]
theorem prefixIs (X p : ByteArray) (b : Bool) (h : Lib.hasPrefix X.data.toList p.data.toList = b) (w : World) :
    Calls Tryz.prog 48 #[.string X, .string p] w fun e w' => e = .returned (.bool b) ∧ w' = w := by
  subst h; exact Any.strings_HasPrefix Tryz.lays99 X p w

set_option maxHeartbeats 2000000 in
set_option maxRecDepth 100000 in
theorem implStuff (s : ByteArray) (w : World) (hl : LenIn w) (hs : s.size ≤ 1048576) :
    Calls Tryz.prog 13 #[.string s] w fun e w' => e = .returned (.string (stuffB s)) ∧ Below w.heap.size w w' := by
  have HL : Hid (LenIn w) := hl
  clear hl
  go_enter Tryz.func13, Tryz.ntmps13
  go_wp2_with fail
  refine (implBody s _ HL.out hs).mono ?_
  rintro e w1 ⟨rfl, hb1⟩
  cases hok : bodyOk s with
  | false =>
    have G : Hid (stuffB s = ⟨#[]⟩) := stuff_no hok
    clear hok
    go_wp2
    go_ret
    exact ⟨ret_str G.out.symm, hb1⟩
  | true =>
    have HL1 : Hid (∀ o, LenIn (w1.alloc o)) := fun o => len_below (len_below HL.out hb1) (below1 _ _)
    go_wp2_with fail
    refine (implSplitAfter s _ _ (HL1.out _) hs (by decide)).mono ?_
    rintro e w2 ⟨⟨v, rfl, S2⟩, hb2⟩
    have hne : piecesAfter ⟨#[13, 10]⟩ s ≠ [] := fun e => by
      have := afterLen s
      rw [e] at this
      exact pieces_ne ⟨#[13, 10]⟩ s (List.eq_nil_of_length_eq_zero this.symm)
    obtain ⟨g, cap, rfl, A2⟩ := strs_ne S2 hne
    obtain ⟨n, hn⟩ : ∃ n, (pieces ⟨#[13, 10]⟩ s).length = n + 1 := ⟨(pieces ⟨#[13, 10]⟩ s).length - 1, by have := List.length_pos_iff.2 (pieces_ne ⟨#[13, 10]⟩ s); omega⟩
    have hkn : ∀ k, k < n → k < (pieces ⟨#[13, 10]⟩ s).length := fun k h => by omega
    have hnn : n < (pieces ⟨#[13, 10]⟩ s).length := by omega
    have hln : (piecesAfter ⟨#[13, 10]⟩ s).length = n + 1 := by rw [afterLen]; exact hn
    have hpl := pieces_len ⟨#[13, 10]⟩ s
    have HSZ : Hid (∀ k (h : k < (pieces ⟨#[13, 10]⟩ s).length), (pieces ⟨#[13, 10]⟩ s)[k].size ≤ 1048576) := fun k h => Nat.le_trans (pieces_size (List.getElem_mem h)) hs
    have CIN : Hid (∀ k (h : k < n), w2.cell? ⟨g, k, none⟩ = some (.string (mk (((pieces ⟨#[13, 10]⟩ s)[k]'(hkn k h)).data.toList ++ [13, 10])))) := by
      intro k h
      have h2 : k < (piecesAfter ⟨#[13, 10]⟩ s).length := by omega
      rw [A2.cell k h2]
      have := afterIn rfl hn h
      rw [List.getElem?_eq_getElem h2] at this
      rw [Option.some.inj this]
    have CLAST : Hid (w2.cell? ⟨g, n, none⟩ = some (.string ⟨#[]⟩)) := by
      show _ = _
      have h2 : n < (piecesAfter ⟨#[13, 10]⟩ s).length := by omega
      rw [A2.cell n h2]
      have h3 := afterLast rfl hn
      rw [List.getElem?_eq_getElem h2] at h3
      rw [Option.some.inj h3]
      have h4 : ((pieces ⟨#[13, 10]⟩ s)[n]'hnn).size = 0 := by
        by_cases h : ((pieces ⟨#[13, 10]⟩ s)[n]'hnn).size = 0
        · exact h
        · have h5 := lines_last hn h
          unfold bodyOk at hok
          rw [h5, Bool.and_false] at hok; cases hok
      rw [empty_of h4]; rfl
    have HLEN : Hid (∀ k, (stuffL ((pieces ⟨#[13, 10]⟩ s).dropLast.take k)).length ≤ 4194307) := fun k => by
      have := stuff_len s ((pieces ⟨#[13, 10]⟩ s).length - 1) k
      rw [← List.dropLast_eq_take] at this; omega
    have HG : Hid (stuffB s = mk (stuffL (pieces ⟨#[13, 10]⟩ s).dropLast ++ [46, 13, 10])) := stuff_ok hok rfl
    have HDL : Hid (∀ k (h : k < n), stuffL ((pieces ⟨#[13, 10]⟩ s).dropLast.take (k + 1)) = stuffL ((pieces ⟨#[13, 10]⟩ s).dropLast.take k) ++ stuffLine ((pieces ⟨#[13, 10]⟩ s)[k]'(hkn k h)).data.toList) := by
      intro k h
      have hd : k < (pieces ⟨#[13, 10]⟩ s).dropLast.length := by rw [List.length_dropLast]; omega
      rw [stuffL_step _ k hd, List.getElem_dropLast hd]
    have HDE : Hid (∀ k, n ≤ k → (pieces ⟨#[13, 10]⟩ s).dropLast.take k = (pieces ⟨#[13, 10]⟩ s).dropLast) := fun k h => List.take_of_length_le (by rw [List.length_dropLast]; omega)
    have hcap := A2.cap
    have hlc := A2.len
    have hgl := A2.lt
    have hglo := A2.lo
    rw [hln] at hlc ⊢
    unfold maxLen at hcap
    have hz2 := hb2.size
    simp only [World.size_alloc] at hz2 hglo
    have HB0 : Hid (BldS w2.heap.size w1.heap.size (Lib.byteCells (stuffL ((pieces ⟨#[13, 10]⟩ s).dropLast.take 0))) w2) := bldS_fresh (by
      rw [hb2.block _ (by simp)]; exact heap_alloc_new w1 _)
    have HW2 : Hid (Below w.heap.size w w2) := (hb1.trans ((below1 w1 _).mono hb1.size)).trans (hb2.mono (by simp; have := hb1.size; omega))
    have hz1 := hb1.size
    clear S2 A2 hne hln hok hb1 hb2
    generalize pieces ⟨#[13, 10]⟩ s = P at *
    go_wp2
    go_loopw [5, 12] (fun _ iv wr => ∃ k : Nat, k ≤ n + 1 ∧ iv = .int .i64 k ∧ Hid (BldS w2.heap.size w1.heap.size (Lib.byteCells (stuffL (P.dropLast.take k))) wr) ∧ Hid (Besides w2.heap.size w1.heap.size w2 wr)) (fun _ iv _ => n + 1 - (intOf iv).toNat)
    case atStart => exact ⟨0, Nat.zero_le _, rfl, HB0, Besides.refl _ _ _⟩
    case round =>
      obtain ⟨k, hk, rfl, HK, HBS⟩ := hrel
      by_cases hlt : k < n
      · have ec := CIN.out k hlt
        rw [← HBS.out.cell hgl (by omega)] at ec
        have hx := HSZ.out k (by omega)
        have hlen := HLEN.out k
        have HST := HDL.out k hlt
        generalize P[k]'(hkn k hlt) = x at *
        have HST' : Hid (stuffL (P.dropLast.take (k + 1)) = stuffL (P.dropLast.take k) ++ stuffLine x.data.toList) := HST
        clear HST
        obtain ⟨X, HX⟩ : ∃ X, Hid (mk (x.data.toList ++ [13, 10]) = X) := ⟨mk (x.data.toList ++ [13, 10]), rfl⟩
        rw [HX.out] at ec
        have hXs : X.size ≤ 1048580 := by rw [← HX.out, mk_size, List.length_append, ← Lib.size_eq]; simp; omega
        by_cases hd : x.data.toList.head? = some 46
        · have HY : Hid (stuffLine x.data.toList = 46 :: X.data.toList) := by
            show _ = _
            rw [stuffLine_yes hd, ← HX.out]; rfl
          have pf : ∀ wx, Calls Tryz.prog 48 #[.string X, .string ⟨#[46]⟩] wx fun e w' => e = .returned (.bool true) ∧ w' = wx := fun wx => prefixIs _ _ _ (by rw [← HX.out]; exact pre_yes hd) wx
          clear hd
          go_wp2_with fail
          refine (pf _).mono ?_
          rintro e w3 ⟨rfl, hw3⟩
          rw [hw3]
          go_wp2_with fail
          refine (bWrite2 _ _ _ _ _ HK.out (by rw [Lib.byteCells_length]; show _ + 1 ≤ _; omega)).mono ?_
          rintro e w4 ⟨rfl, K4, B4⟩
          rw [bytes_cat] at K4
          have HK4 : Hid (BldS w2.heap.size w1.heap.size (Lib.byteCells (stuffL (P.dropLast.take k) ++ [46])) w4) := K4
          have HB4 : Hid (Besides w2.heap.size w1.heap.size w2 w4) := HBS.out.trans B4
          clear K4 B4
          go_wp2_with fail
          refine (bWrite2 _ _ _ _ _ HK4.out (by rw [Lib.byteCells_length, List.length_append]; simp; omega)).mono ?_
          rintro e w5 ⟨rfl, K5, B5⟩
          rw [bytes_cat, List.append_assoc] at K5
          have HK5 : Hid (BldS w2.heap.size w1.heap.size (Lib.byteCells (stuffL (P.dropLast.take (k + 1)))) w5) := by
            show BldS _ _ _ _
            rw [HST'.out, HY.out]; exact K5
          have HB5 : Hid (Besides w2.heap.size w1.heap.size w2 w5) := HB4.out.trans B5
          clear K5 B5
          go_wp2
          go_roundw
          case rel => exact ⟨k + 1, by omega, by go_num, HK5, HB5⟩
          case measure => simp [intOf]; omega
        · have HY : Hid (stuffLine x.data.toList = X.data.toList) := by
            show _ = _
            rw [stuffLine_no hd, ← HX.out]; rfl
          have pf : ∀ wx, Calls Tryz.prog 48 #[.string X, .string ⟨#[46]⟩] wx fun e w' => e = .returned (.bool false) ∧ w' = wx := fun wx => prefixIs _ _ _ (by rw [← HX.out]; exact pre_no hd) wx
          clear hd
          go_wp2_with fail
          refine (pf _).mono ?_
          rintro e w3 ⟨rfl, hw3⟩
          rw [hw3]
          go_wp2_with fail
          refine (bWrite2 _ _ _ _ _ HK.out (by rw [Lib.byteCells_length]; omega)).mono ?_
          rintro e w5 ⟨rfl, K5, B5⟩
          rw [bytes_cat] at K5
          have HK5 : Hid (BldS w2.heap.size w1.heap.size (Lib.byteCells (stuffL (P.dropLast.take (k + 1)))) w5) := by
            show BldS _ _ _ _
            rw [HST'.out, HY.out]; exact K5
          have HB5 : Hid (Besides w2.heap.size w1.heap.size w2 w5) := HBS.out.trans B5
          clear K5 B5
          go_wp2
          go_roundw
          case rel => exact ⟨k + 1, by omega, by go_num, HK5, HB5⟩
          case measure => simp [intOf]; omega
      · have hlen := HLEN.out k
        have HKN : Hid (P.dropLast.take k = P.dropLast) := HDE.out k (by omega)
        by_cases hkn2 : k = n
        · subst hkn2
          have ec := CLAST.out
          rw [← HBS.out.cell hgl (by omega)] at ec
          have HKN2 : Hid (P.dropLast.take (k + 1) = P.dropLast) := HDE.out (k + 1) (by omega)
          have pf : ∀ wx, Calls Tryz.prog 48 #[.string ⟨#[]⟩, .string ⟨#[46]⟩] wx fun e w' => e = .returned (.bool false) ∧ w' = wx := fun wx => prefixIs _ _ _ rfl wx
          go_wp2_with fail
          refine (pf _).mono ?_
          rintro e w3 ⟨rfl, hw3⟩
          rw [hw3]
          go_wp2_with fail
          refine (bWrite2 _ _ _ _ _ HK.out (by rw [Lib.byteCells_length]; show _ + 0 ≤ _; omega)).mono ?_
          rintro e w5 ⟨rfl, K5, B5⟩
          rw [bytes_cat] at K5
          have HK5 : Hid (BldS w2.heap.size w1.heap.size (Lib.byteCells (stuffL (P.dropLast.take (k + 1)))) w5) := by
            show BldS _ _ _ _
            rw [HKN2.out, ← HKN.out]
            simpa using K5
          have HB5 : Hid (Besides w2.heap.size w1.heap.size w2 w5) := HBS.out.trans B5
          clear K5 B5
          go_wp2
          go_roundw
          case rel => exact ⟨k + 1, by omega, by go_num, HK5, HB5⟩
          case measure => simp [intOf]
        · have hk1 : k = n + 1 := by omega
          subst hk1
          go_wp2_with fail
          refine (bWrite2 _ _ _ _ _ HK.out (by rw [Lib.byteCells_length]; show _ + 3 ≤ _; omega)).mono ?_
          rintro e w5 ⟨rfl, K5, B5⟩
          rw [bytes_cat] at K5
          have HK5 : Hid (Lib.IsBuilder 77 5 w1.heap.size w1.heap.size (Lib.byteCells (stuffL P.dropLast ++ [46, 13, 10])) w5) := by
            show Lib.IsBuilder _ _ _ _ _ _
            refine bldS_is (B := w2.heap.size) ?_ (Nat.le_refl _)
            rw [← HKN.out]; exact K5
          have HB5 : Hid (Besides w2.heap.size w1.heap.size w2 w5) := HBS.out.trans B5
          have hz5 : w1.heap.size ≤ w5.heap.size := by have := HB5.out.size; omega
          clear K5 B5
          go_wp2_with fail
          refine (bString _ _ _ _ HK5.out hz5).mono ?_
          rintro e w6 ⟨rfl, hb6⟩
          go_wp2
          go_ret
          exact ⟨ret_str HG.out.symm, (HW2.out.trans (HB5.out.below hz1 (by omega))).trans (hb6.mono hz1)⟩
end Go.Proofs.YtngcjlghjidnjaaGreatDoor
namespace Go.Proofs.YtngcjlghjidnjaaGreatDoor
open Go.ChangeShapes Go.WideShapes Go.ChangeAt Go.RowKit
attribute [local go_sem ↓] Go.wp_at_zero Go.wp_at_succ

set_option maxHeartbeats 4000000 in
set_option maxRecDepth 100000 in
theorem takeF (buf he fr bo : ByteArray) (R : List ByteArray) (nx : Nat) (T : List Bool) (V : List Vd) (v : Value) (L : List ByteArray) (u1 u2 u3 : Value) (lo lo2 : Nat) (w : World) (hk : (⟨1, buf, he, fr, bo, R, nx, T, V⟩ : Sn).Ok) (h : SV w lo u1 u2 u3 (⟨1, buf, he, fr, bo, R, nx, T, V⟩ : Sn)) (hS : Strs w lo2 v L) (h1 : 1 ≤ L.length) (hsz : ∀ x ∈ L, x.size ≤ 1048576) :
    Calls Tryz.prog 91 #[.agg #[.int .i64 1, .string buf, .string he, .string fr, .string bo, u1, .int .i64 (nx : Int), u2, u3], .agg #[.int .i64 220, v]] w fun e w' => SQ ((⟨1, buf, he, fr, bo, R, nx, T, V⟩ : Sn).to 2, cmdB 1 he) w e w' := by
  have H : Hid (SV w lo u1 u2 u3 (⟨1, buf, he, fr, bo, R, nx, T, V⟩ : Sn)) := h
  have HK : Hid (⟨1, buf, he, fr, bo, R, nx, T, V⟩ : Sn).Ok := hk
  have HSt : Hid (Strs w lo2 v L) := hS
  have HL1 : Hid (1 ≤ L.length) := h1
  have HLs : Hid (∀ x ∈ L, x.size ≤ 1048576) := hsz
  have hhe : he.size ≤ 1048576 := by have := hk.he; dsimp only at this; omega
  have hfr : fr.size ≤ 1048576 := by have := hk.fr; dsimp only at this; omega
  have hbo : bo.size ≤ 1048576 := by have := hk.bo; dsimp only at this; omega
  obtain ⟨g1, g2, g3, k1, k2, k3, y1, y2, y3⟩ : ∃ g1 g2 g3 k1 k2 k3, u1 = .slice (some ⟨g1, 0, none⟩) R.length k1 ∧ u2 = .slice (some ⟨g2, 0, none⟩) R.length k2 ∧ u3 = .slice (some ⟨g3, 0, none⟩) R.length k3 := h.some hk
  subst y1
  subst y2
  subst y3
  clear h hk hS h1 hsz
  go_enter Tryz.func91, Tryz.ntmps91
  go_wp2_with fail
  generalize hW : World.alloc _ _ = W
  have HA : Hid (Blk w.heap.size #[.int .i64 1, .string buf, .string he, .string fr, .string bo, (.slice (some ⟨g1, 0, none⟩) R.length k1), .int .i64 (nx : Int), (.slice (some ⟨g2, 0, none⟩) R.length k2), (.slice (some ⟨g3, 0, none⟩) R.length k3)] W) := by show Blk _ _ _; rw [← hW]; exact ((blk3 w _ _ _ _ _ _).1).below (below1 _ _)
  have HR : Hid (Blk (w.heap.size + 1) #[.int .i64 220, v] W) := by show Blk _ _ _; rw [← hW]; exact ((blk3 w _ _ _ _ _ _).2.1).below (below1 _ _)
  have HZ : Hid (SB (w.heap.size + 1 + 1) sn0 (.slice none 0 0) (.slice none 0 0) (.slice none 0 0) W) := by show SB _ _ _ _ _ _; rw [← hW]; exact ((blk3 w _ _ _ _ _ _).2.2).below (below1 _ _)
  have b0 : Below w.heap.size w W := by rw [← hW]; exact (below3 _ _ _ _).trans ((below1 _ _).mono (by simp; omega))
  have z0 : w.heap.size + 3 ≤ W.heap.size := by rw [← hW]; simp
  clear hW
  obtain ⟨t0, t1, t2, t3, t4, t5, t6, t7, t8⟩ : W.cell? ⟨w.heap.size, 0, none⟩ = some (.int .i64 1) ∧ W.cell? ⟨w.heap.size, 1, none⟩ = some (.string buf) ∧ W.cell? ⟨w.heap.size, 2, none⟩ = some (.string he) ∧ W.cell? ⟨w.heap.size, 3, none⟩ = some (.string fr) ∧ W.cell? ⟨w.heap.size, 4, none⟩ = some (.string bo) ∧ W.cell? ⟨w.heap.size, 5, none⟩ = some ((.slice (some ⟨g1, 0, none⟩) R.length k1)) ∧ W.cell? ⟨w.heap.size, 6, none⟩ = some (.int .i64 (nx : Int)) ∧ W.cell? ⟨w.heap.size, 7, none⟩ = some ((.slice (some ⟨g2, 0, none⟩) R.length k2)) ∧ W.cell? ⟨w.heap.size, 8, none⟩ = some ((.slice (some ⟨g3, 0, none⟩) R.length k3)) := ⟨HA.out.cell 0, HA.out.cell 1, HA.out.cell 2, HA.out.cell 3, HA.out.cell 4, HA.out.cell 5, HA.out.cell 6, HA.out.cell 7, HA.out.cell 8⟩
  have s0 : W.cell? ⟨w.heap.size + 1, 0, none⟩ = some (.int .i64 220) := HR.out.cell 0
  have s1 : W.cell? ⟨w.heap.size + 1, 1, none⟩ = some v := HR.out.cell 1
  go_region_with (first | (go_at_call 125; refine (specCommand 1 he _ hhe).mono ?_; rintro e w7 ⟨rfl, hb7⟩; have HB7 : Hid (Below W.heap.size W w7) := ((Below.refl W.heap.size W).drew).trans hb7; have HA7 : Hid (Blk w.heap.size #[.int .i64 1, .string buf, .string he, .string fr, .string bo, (.slice (some ⟨g1, 0, none⟩) R.length k1), .int .i64 (nx : Int), (.slice (some ⟨g2, 0, none⟩) R.length k2), (.slice (some ⟨g3, 0, none⟩) R.length k3)] w7) := Blk.below HA.out HB7.out; have HR7 : Hid (Blk (w.heap.size + 1) #[.int .i64 220, v] w7) := Blk.below HR.out HB7.out; obtain ⟨j0, j1, j2, j3, j4, j5, j6, j7, j8⟩ : w7.cell? ⟨w.heap.size, 0, none⟩ = some (.int .i64 1) ∧ w7.cell? ⟨w.heap.size, 1, none⟩ = some (.string buf) ∧ w7.cell? ⟨w.heap.size, 2, none⟩ = some (.string he) ∧ w7.cell? ⟨w.heap.size, 3, none⟩ = some (.string fr) ∧ w7.cell? ⟨w.heap.size, 4, none⟩ = some (.string bo) ∧ w7.cell? ⟨w.heap.size, 5, none⟩ = some ((.slice (some ⟨g1, 0, none⟩) R.length k1)) ∧ w7.cell? ⟨w.heap.size, 6, none⟩ = some (.int .i64 (nx : Int)) ∧ w7.cell? ⟨w.heap.size, 7, none⟩ = some ((.slice (some ⟨g2, 0, none⟩) R.length k2)) ∧ w7.cell? ⟨w.heap.size, 8, none⟩ = some ((.slice (some ⟨g3, 0, none⟩) R.length k3)) := ⟨HA7.out.cell 0, HA7.out.cell 1, HA7.out.cell 2, HA7.out.cell 3, HA7.out.cell 4, HA7.out.cell 5, HA7.out.cell 6, HA7.out.cell 7, HA7.out.cell 8⟩; have o0 : w7.cell? ⟨w.heap.size + 1, 0, none⟩ = some (.int .i64 220) := HR7.out.cell 0; have o1 : w7.cell? ⟨w.heap.size + 1, 1, none⟩ = some v := HR7.out.cell 1; clear hb7) | (go_at_call 122; refine (specTo (⟨1, buf, he, fr, bo, R, nx, T, V⟩ : Sn) 2 (cmdB 1 he) _ _ _ lo _ HK.out.wf (H.out.below (b0.trans (HB7.out.mono b0.size)) (Nat.le_refl _))).mono ?_; rintro e w8 ⟨⟨v1, v2, v3, rfl, S8⟩, hb8⟩; obtain ⟨p4, p5, p6, q4, q5, q6, y4, y5, y6⟩ : ∃ p4 p5 p6 q4 q5 q6, v1 = .slice (some ⟨p4, 0, none⟩) R.length q4 ∧ v2 = .slice (some ⟨p5, 0, none⟩) R.length q5 ∧ v3 = .slice (some ⟨p6, 0, none⟩) R.length q6 := S8.someW ⟨by first | exact HK.out.t | (show (_ : List Bool).length = _; exact HK.out.t), by first | exact HK.out.v | exact (decV_len _ _).trans HK.out.v, HK.out.r1, HK.out.r20⟩; subst y4; subst y5; subst y6; have HB8 : Hid (Below W.heap.size W w8) := HB7.out.trans (hb8.mono HB7.out.size); have HZ8 : Hid (SB (w.heap.size + 1 + 1) sn0 (.slice none 0 0) (.slice none 0 0) (.slice none 0 0) w8) := SB.below HZ.out HB8.out; obtain ⟨r0, r1, r2, r3, r4, r5, r6, r7, r8⟩ := HZ8.out.zero; obtain ⟨rf0, rf1, rf2, rf3, rf4, rf5, rf6, rf7, rf8⟩ := HZ8.out.frees; have zl : w.heap.size + 1 + 1 < w8.heap.size := HZ8.out.lt; have HS8 : Hid (SV w8 w7.heap.size (.slice (some ⟨p4, 0, none⟩) R.length q4) (.slice (some ⟨p5, 0, none⟩) R.length q5) (.slice (some ⟨p6, 0, none⟩) R.length q6) ((⟨1, buf, he, fr, bo, R, nx, T, V⟩ : Sn).to 2)) := S8; clear S8 hb8))
  all_goals
    have b8 : Below w.heap.size w w8 := b0.trans (HB8.out.mono b0.size)
    have z8 : w.heap.size + 1 + 1 < w7.heap.size := Nat.lt_of_lt_of_le (Nat.lt_of_lt_of_le (by omega) z0) HB7.out.size
    dsimp only [Sn.to, Sn.dec, Sn.quit]
    go_wp2
    refine bodyPost_ret (v := .tuple #[.agg #[.int .i64 2, .string buf, .string he, .string fr, .string bo, (.slice (some ⟨p4, 0, none⟩) R.length q4), .int .i64 (nx : Int), (.slice (some ⟨p5, 0, none⟩) R.length q5), (.slice (some ⟨p6, 0, none⟩) R.length q6)], .string (cmdB 1 he)]) (by simp [results, Tryz.results91, go_sem, r0, r1, r2, r3, r4, r5, r6, r7, r8]) rfl ?_
    exact ⟨⟨_, _, _, rfl, (HS8.out.nine (b := w.heap.size + 1 + 1) z8 _ _ _ _ _ _ _ _ _).le (by omega)⟩, below_nine b8 (by omega) _ _ _ _ _ _ _ _ _⟩

set_option maxHeartbeats 4000000 in
set_option maxRecDepth 100000 in
theorem takeD (buf he fr bo : ByteArray) (R : List ByteArray) (nx : Nat) (T : List Bool) (V : List Vd) (c : Nat) (v : Value) (L : List ByteArray) (u1 u2 u3 : Value) (lo lo2 : Nat) (w : World) (hk : (⟨2, buf, he, fr, bo, R, nx, T, V⟩ : Sn).Ok) (h : SV w lo u1 u2 u3 (⟨2, buf, he, fr, bo, R, nx, T, V⟩ : Sn)) (hS : Strs w lo2 v L) (h1 : 1 ≤ L.length) (hsz : ∀ x ∈ L, x.size ≤ 1048576) (hb250 : ((c : Int) == 250) = false) (hb421 : ((c : Int) == 421) = false) (h5 : 500 ≤ c) :
    Calls Tryz.prog 91 #[.agg #[.int .i64 2, .string buf, .string he, .string fr, .string bo, u1, .int .i64 (nx : Int), u2, u3], .agg #[.int .i64 (c : Int), v]] w fun e w' => SQ ((⟨2, buf, he, fr, bo, R, nx, T, V⟩ : Sn).to 3, cmdB 2 he) w e w' := by
  have H : Hid (SV w lo u1 u2 u3 (⟨2, buf, he, fr, bo, R, nx, T, V⟩ : Sn)) := h
  have HK : Hid (⟨2, buf, he, fr, bo, R, nx, T, V⟩ : Sn).Ok := hk
  have HSt : Hid (Strs w lo2 v L) := hS
  have HL1 : Hid (1 ≤ L.length) := h1
  have HLs : Hid (∀ x ∈ L, x.size ≤ 1048576) := hsz
  have hhe : he.size ≤ 1048576 := by have := hk.he; dsimp only at this; omega
  have hfr : fr.size ≤ 1048576 := by have := hk.fr; dsimp only at this; omega
  have hbo : bo.size ≤ 1048576 := by have := hk.bo; dsimp only at this; omega
  obtain ⟨g1, g2, g3, k1, k2, k3, y1, y2, y3⟩ : ∃ g1 g2 g3 k1 k2 k3, u1 = .slice (some ⟨g1, 0, none⟩) R.length k1 ∧ u2 = .slice (some ⟨g2, 0, none⟩) R.length k2 ∧ u3 = .slice (some ⟨g3, 0, none⟩) R.length k3 := h.some hk
  subst y1
  subst y2
  subst y3
  clear h hk hS h1 hsz
  go_enter Tryz.func91, Tryz.ntmps91
  go_wp2_with fail
  generalize hW : World.alloc _ _ = W
  have HA : Hid (Blk w.heap.size #[.int .i64 2, .string buf, .string he, .string fr, .string bo, (.slice (some ⟨g1, 0, none⟩) R.length k1), .int .i64 (nx : Int), (.slice (some ⟨g2, 0, none⟩) R.length k2), (.slice (some ⟨g3, 0, none⟩) R.length k3)] W) := by show Blk _ _ _; rw [← hW]; exact ((blk3 w _ _ _ _ _ _).1).below (below1 _ _)
  have HR : Hid (Blk (w.heap.size + 1) #[.int .i64 (c : Int), v] W) := by show Blk _ _ _; rw [← hW]; exact ((blk3 w _ _ _ _ _ _).2.1).below (below1 _ _)
  have HZ : Hid (SB (w.heap.size + 1 + 1) sn0 (.slice none 0 0) (.slice none 0 0) (.slice none 0 0) W) := by show SB _ _ _ _ _ _; rw [← hW]; exact ((blk3 w _ _ _ _ _ _).2.2).below (below1 _ _)
  have b0 : Below w.heap.size w W := by rw [← hW]; exact (below3 _ _ _ _).trans ((below1 _ _).mono (by simp; omega))
  have z0 : w.heap.size + 3 ≤ W.heap.size := by rw [← hW]; simp
  clear hW
  obtain ⟨t0, t1, t2, t3, t4, t5, t6, t7, t8⟩ : W.cell? ⟨w.heap.size, 0, none⟩ = some (.int .i64 2) ∧ W.cell? ⟨w.heap.size, 1, none⟩ = some (.string buf) ∧ W.cell? ⟨w.heap.size, 2, none⟩ = some (.string he) ∧ W.cell? ⟨w.heap.size, 3, none⟩ = some (.string fr) ∧ W.cell? ⟨w.heap.size, 4, none⟩ = some (.string bo) ∧ W.cell? ⟨w.heap.size, 5, none⟩ = some ((.slice (some ⟨g1, 0, none⟩) R.length k1)) ∧ W.cell? ⟨w.heap.size, 6, none⟩ = some (.int .i64 (nx : Int)) ∧ W.cell? ⟨w.heap.size, 7, none⟩ = some ((.slice (some ⟨g2, 0, none⟩) R.length k2)) ∧ W.cell? ⟨w.heap.size, 8, none⟩ = some ((.slice (some ⟨g3, 0, none⟩) R.length k3)) := ⟨HA.out.cell 0, HA.out.cell 1, HA.out.cell 2, HA.out.cell 3, HA.out.cell 4, HA.out.cell 5, HA.out.cell 6, HA.out.cell 7, HA.out.cell 8⟩
  have s0 : W.cell? ⟨w.heap.size + 1, 0, none⟩ = some (.int .i64 (c : Int)) := HR.out.cell 0
  have s1 : W.cell? ⟨w.heap.size + 1, 1, none⟩ = some v := HR.out.cell 1
  go_region_with (first | (go_at_call 125; refine (specCommand 2 he _ hhe).mono ?_; rintro e w7 ⟨rfl, hb7⟩; have HB7 : Hid (Below W.heap.size W w7) := ((Below.refl W.heap.size W).drew).trans hb7; have HA7 : Hid (Blk w.heap.size #[.int .i64 2, .string buf, .string he, .string fr, .string bo, (.slice (some ⟨g1, 0, none⟩) R.length k1), .int .i64 (nx : Int), (.slice (some ⟨g2, 0, none⟩) R.length k2), (.slice (some ⟨g3, 0, none⟩) R.length k3)] w7) := Blk.below HA.out HB7.out; have HR7 : Hid (Blk (w.heap.size + 1) #[.int .i64 (c : Int), v] w7) := Blk.below HR.out HB7.out; obtain ⟨j0, j1, j2, j3, j4, j5, j6, j7, j8⟩ : w7.cell? ⟨w.heap.size, 0, none⟩ = some (.int .i64 2) ∧ w7.cell? ⟨w.heap.size, 1, none⟩ = some (.string buf) ∧ w7.cell? ⟨w.heap.size, 2, none⟩ = some (.string he) ∧ w7.cell? ⟨w.heap.size, 3, none⟩ = some (.string fr) ∧ w7.cell? ⟨w.heap.size, 4, none⟩ = some (.string bo) ∧ w7.cell? ⟨w.heap.size, 5, none⟩ = some ((.slice (some ⟨g1, 0, none⟩) R.length k1)) ∧ w7.cell? ⟨w.heap.size, 6, none⟩ = some (.int .i64 (nx : Int)) ∧ w7.cell? ⟨w.heap.size, 7, none⟩ = some ((.slice (some ⟨g2, 0, none⟩) R.length k2)) ∧ w7.cell? ⟨w.heap.size, 8, none⟩ = some ((.slice (some ⟨g3, 0, none⟩) R.length k3)) := ⟨HA7.out.cell 0, HA7.out.cell 1, HA7.out.cell 2, HA7.out.cell 3, HA7.out.cell 4, HA7.out.cell 5, HA7.out.cell 6, HA7.out.cell 7, HA7.out.cell 8⟩; have o0 : w7.cell? ⟨w.heap.size + 1, 0, none⟩ = some (.int .i64 (c : Int)) := HR7.out.cell 0; have o1 : w7.cell? ⟨w.heap.size + 1, 1, none⟩ = some v := HR7.out.cell 1; clear hb7) | (go_at_call 122; refine (specTo (⟨2, buf, he, fr, bo, R, nx, T, V⟩ : Sn) 3 (cmdB 2 he) _ _ _ lo _ HK.out.wf (H.out.below (b0.trans (HB7.out.mono b0.size)) (Nat.le_refl _))).mono ?_; rintro e w8 ⟨⟨v1, v2, v3, rfl, S8⟩, hb8⟩; obtain ⟨p4, p5, p6, q4, q5, q6, y4, y5, y6⟩ : ∃ p4 p5 p6 q4 q5 q6, v1 = .slice (some ⟨p4, 0, none⟩) R.length q4 ∧ v2 = .slice (some ⟨p5, 0, none⟩) R.length q5 ∧ v3 = .slice (some ⟨p6, 0, none⟩) R.length q6 := S8.someW ⟨by first | exact HK.out.t | (show (_ : List Bool).length = _; exact HK.out.t), by first | exact HK.out.v | exact (decV_len _ _).trans HK.out.v, HK.out.r1, HK.out.r20⟩; subst y4; subst y5; subst y6; have HB8 : Hid (Below W.heap.size W w8) := HB7.out.trans (hb8.mono HB7.out.size); have HZ8 : Hid (SB (w.heap.size + 1 + 1) sn0 (.slice none 0 0) (.slice none 0 0) (.slice none 0 0) w8) := SB.below HZ.out HB8.out; obtain ⟨r0, r1, r2, r3, r4, r5, r6, r7, r8⟩ := HZ8.out.zero; obtain ⟨rf0, rf1, rf2, rf3, rf4, rf5, rf6, rf7, rf8⟩ := HZ8.out.frees; have zl : w.heap.size + 1 + 1 < w8.heap.size := HZ8.out.lt; have HS8 : Hid (SV w8 w7.heap.size (.slice (some ⟨p4, 0, none⟩) R.length q4) (.slice (some ⟨p5, 0, none⟩) R.length q5) (.slice (some ⟨p6, 0, none⟩) R.length q6) ((⟨2, buf, he, fr, bo, R, nx, T, V⟩ : Sn).to 3)) := S8; clear S8 hb8))
  all_goals
    have b8 : Below w.heap.size w w8 := b0.trans (HB8.out.mono b0.size)
    have z8 : w.heap.size + 1 + 1 < w7.heap.size := Nat.lt_of_lt_of_le (Nat.lt_of_lt_of_le (by omega) z0) HB7.out.size
    dsimp only [Sn.to, Sn.dec, Sn.quit]
    go_wp2
    refine bodyPost_ret (v := .tuple #[.agg #[.int .i64 3, .string buf, .string he, .string fr, .string bo, (.slice (some ⟨p4, 0, none⟩) R.length q4), .int .i64 (nx : Int), (.slice (some ⟨p5, 0, none⟩) R.length q5), (.slice (some ⟨p6, 0, none⟩) R.length q6)], .string (cmdB 2 he)]) (by simp [results, Tryz.results91, go_sem, r0, r1, r2, r3, r4, r5, r6, r7, r8]) rfl ?_
    exact ⟨⟨_, _, _, rfl, (HS8.out.nine (b := w.heap.size + 1 + 1) z8 _ _ _ _ _ _ _ _ _).le (by omega)⟩, below_nine b8 (by omega) _ _ _ _ _ _ _ _ _⟩

set_option maxHeartbeats 4000000 in
set_option maxRecDepth 100000 in
theorem takeI (buf he fr bo : ByteArray) (R : List ByteArray) (nx : Nat) (T : List Bool) (V : List Vd) (v : Value) (L : List ByteArray) (u1 u2 u3 : Value) (lo lo2 : Nat) (w : World) (hk : (⟨6, buf, he, fr, bo, R, nx, T, V⟩ : Sn).Ok) (h : SV w lo u1 u2 u3 (⟨6, buf, he, fr, bo, R, nx, T, V⟩ : Sn)) (hS : Strs w lo2 v L) (h1 : 1 ≤ L.length) (hsz : ∀ x ∈ L, x.size ≤ 1048576) :
    Calls Tryz.prog 91 #[.agg #[.int .i64 6, .string buf, .string he, .string fr, .string bo, u1, .int .i64 (nx : Int), u2, u3], .agg #[.int .i64 354, v]] w fun e w' => SQ ((⟨6, buf, he, fr, bo, R, nx, T, V⟩ : Sn).to 7, stuffB bo) w e w' := by
  have H : Hid (SV w lo u1 u2 u3 (⟨6, buf, he, fr, bo, R, nx, T, V⟩ : Sn)) := h
  have HK : Hid (⟨6, buf, he, fr, bo, R, nx, T, V⟩ : Sn).Ok := hk
  have HSt : Hid (Strs w lo2 v L) := hS
  have HL1 : Hid (1 ≤ L.length) := h1
  have HLs : Hid (∀ x ∈ L, x.size ≤ 1048576) := hsz
  have hhe : he.size ≤ 1048576 := by have := hk.he; dsimp only at this; omega
  have hfr : fr.size ≤ 1048576 := by have := hk.fr; dsimp only at this; omega
  have hbo : bo.size ≤ 1048576 := by have := hk.bo; dsimp only at this; omega
  obtain ⟨g1, g2, g3, k1, k2, k3, y1, y2, y3⟩ : ∃ g1 g2 g3 k1 k2 k3, u1 = .slice (some ⟨g1, 0, none⟩) R.length k1 ∧ u2 = .slice (some ⟨g2, 0, none⟩) R.length k2 ∧ u3 = .slice (some ⟨g3, 0, none⟩) R.length k3 := h.some hk
  subst y1
  subst y2
  subst y3
  clear h hk hS h1 hsz
  go_enter Tryz.func91, Tryz.ntmps91
  go_wp2_with fail
  generalize hW : World.alloc _ _ = W
  have HA : Hid (Blk w.heap.size #[.int .i64 6, .string buf, .string he, .string fr, .string bo, (.slice (some ⟨g1, 0, none⟩) R.length k1), .int .i64 (nx : Int), (.slice (some ⟨g2, 0, none⟩) R.length k2), (.slice (some ⟨g3, 0, none⟩) R.length k3)] W) := by show Blk _ _ _; rw [← hW]; exact ((blk3 w _ _ _ _ _ _).1).below (below1 _ _)
  have HR : Hid (Blk (w.heap.size + 1) #[.int .i64 354, v] W) := by show Blk _ _ _; rw [← hW]; exact ((blk3 w _ _ _ _ _ _).2.1).below (below1 _ _)
  have HZ : Hid (SB (w.heap.size + 1 + 1) sn0 (.slice none 0 0) (.slice none 0 0) (.slice none 0 0) W) := by show SB _ _ _ _ _ _; rw [← hW]; exact ((blk3 w _ _ _ _ _ _).2.2).below (below1 _ _)
  have b0 : Below w.heap.size w W := by rw [← hW]; exact (below3 _ _ _ _).trans ((below1 _ _).mono (by simp; omega))
  have z0 : w.heap.size + 3 ≤ W.heap.size := by rw [← hW]; simp
  clear hW
  obtain ⟨t0, t1, t2, t3, t4, t5, t6, t7, t8⟩ : W.cell? ⟨w.heap.size, 0, none⟩ = some (.int .i64 6) ∧ W.cell? ⟨w.heap.size, 1, none⟩ = some (.string buf) ∧ W.cell? ⟨w.heap.size, 2, none⟩ = some (.string he) ∧ W.cell? ⟨w.heap.size, 3, none⟩ = some (.string fr) ∧ W.cell? ⟨w.heap.size, 4, none⟩ = some (.string bo) ∧ W.cell? ⟨w.heap.size, 5, none⟩ = some ((.slice (some ⟨g1, 0, none⟩) R.length k1)) ∧ W.cell? ⟨w.heap.size, 6, none⟩ = some (.int .i64 (nx : Int)) ∧ W.cell? ⟨w.heap.size, 7, none⟩ = some ((.slice (some ⟨g2, 0, none⟩) R.length k2)) ∧ W.cell? ⟨w.heap.size, 8, none⟩ = some ((.slice (some ⟨g3, 0, none⟩) R.length k3)) := ⟨HA.out.cell 0, HA.out.cell 1, HA.out.cell 2, HA.out.cell 3, HA.out.cell 4, HA.out.cell 5, HA.out.cell 6, HA.out.cell 7, HA.out.cell 8⟩
  have s0 : W.cell? ⟨w.heap.size + 1, 0, none⟩ = some (.int .i64 354) := HR.out.cell 0
  have s1 : W.cell? ⟨w.heap.size + 1, 1, none⟩ = some v := HR.out.cell 1
  go_region_with (first | (go_at_call 128; refine (specStuff bo _ hbo).mono ?_; rintro e w7 ⟨rfl, hb7⟩; have HB7 : Hid (Below W.heap.size W w7) := ((Below.refl W.heap.size W).drew).trans hb7; have HA7 : Hid (Blk w.heap.size #[.int .i64 6, .string buf, .string he, .string fr, .string bo, (.slice (some ⟨g1, 0, none⟩) R.length k1), .int .i64 (nx : Int), (.slice (some ⟨g2, 0, none⟩) R.length k2), (.slice (some ⟨g3, 0, none⟩) R.length k3)] w7) := Blk.below HA.out HB7.out; have HR7 : Hid (Blk (w.heap.size + 1) #[.int .i64 354, v] w7) := Blk.below HR.out HB7.out; obtain ⟨j0, j1, j2, j3, j4, j5, j6, j7, j8⟩ : w7.cell? ⟨w.heap.size, 0, none⟩ = some (.int .i64 6) ∧ w7.cell? ⟨w.heap.size, 1, none⟩ = some (.string buf) ∧ w7.cell? ⟨w.heap.size, 2, none⟩ = some (.string he) ∧ w7.cell? ⟨w.heap.size, 3, none⟩ = some (.string fr) ∧ w7.cell? ⟨w.heap.size, 4, none⟩ = some (.string bo) ∧ w7.cell? ⟨w.heap.size, 5, none⟩ = some ((.slice (some ⟨g1, 0, none⟩) R.length k1)) ∧ w7.cell? ⟨w.heap.size, 6, none⟩ = some (.int .i64 (nx : Int)) ∧ w7.cell? ⟨w.heap.size, 7, none⟩ = some ((.slice (some ⟨g2, 0, none⟩) R.length k2)) ∧ w7.cell? ⟨w.heap.size, 8, none⟩ = some ((.slice (some ⟨g3, 0, none⟩) R.length k3)) := ⟨HA7.out.cell 0, HA7.out.cell 1, HA7.out.cell 2, HA7.out.cell 3, HA7.out.cell 4, HA7.out.cell 5, HA7.out.cell 6, HA7.out.cell 7, HA7.out.cell 8⟩; have o0 : w7.cell? ⟨w.heap.size + 1, 0, none⟩ = some (.int .i64 354) := HR7.out.cell 0; have o1 : w7.cell? ⟨w.heap.size + 1, 1, none⟩ = some v := HR7.out.cell 1; clear hb7) | (go_at_call 122; refine (specTo (⟨6, buf, he, fr, bo, R, nx, T, V⟩ : Sn) 7 (stuffB bo) _ _ _ lo _ HK.out.wf (H.out.below (b0.trans (HB7.out.mono b0.size)) (Nat.le_refl _))).mono ?_; rintro e w8 ⟨⟨v1, v2, v3, rfl, S8⟩, hb8⟩; obtain ⟨p4, p5, p6, q4, q5, q6, y4, y5, y6⟩ : ∃ p4 p5 p6 q4 q5 q6, v1 = .slice (some ⟨p4, 0, none⟩) R.length q4 ∧ v2 = .slice (some ⟨p5, 0, none⟩) R.length q5 ∧ v3 = .slice (some ⟨p6, 0, none⟩) R.length q6 := S8.someW ⟨by first | exact HK.out.t | (show (_ : List Bool).length = _; exact HK.out.t), by first | exact HK.out.v | exact (decV_len _ _).trans HK.out.v, HK.out.r1, HK.out.r20⟩; subst y4; subst y5; subst y6; have HB8 : Hid (Below W.heap.size W w8) := HB7.out.trans (hb8.mono HB7.out.size); have HZ8 : Hid (SB (w.heap.size + 1 + 1) sn0 (.slice none 0 0) (.slice none 0 0) (.slice none 0 0) w8) := SB.below HZ.out HB8.out; obtain ⟨r0, r1, r2, r3, r4, r5, r6, r7, r8⟩ := HZ8.out.zero; obtain ⟨rf0, rf1, rf2, rf3, rf4, rf5, rf6, rf7, rf8⟩ := HZ8.out.frees; have zl : w.heap.size + 1 + 1 < w8.heap.size := HZ8.out.lt; have HS8 : Hid (SV w8 w7.heap.size (.slice (some ⟨p4, 0, none⟩) R.length q4) (.slice (some ⟨p5, 0, none⟩) R.length q5) (.slice (some ⟨p6, 0, none⟩) R.length q6) ((⟨6, buf, he, fr, bo, R, nx, T, V⟩ : Sn).to 7)) := S8; clear S8 hb8))
  all_goals
    have b8 : Below w.heap.size w w8 := b0.trans (HB8.out.mono b0.size)
    have z8 : w.heap.size + 1 + 1 < w7.heap.size := Nat.lt_of_lt_of_le (Nat.lt_of_lt_of_le (by omega) z0) HB7.out.size
    dsimp only [Sn.to, Sn.dec, Sn.quit]
    go_wp2
    refine bodyPost_ret (v := .tuple #[.agg #[.int .i64 7, .string buf, .string he, .string fr, .string bo, (.slice (some ⟨p4, 0, none⟩) R.length q4), .int .i64 (nx : Int), (.slice (some ⟨p5, 0, none⟩) R.length q5), (.slice (some ⟨p6, 0, none⟩) R.length q6)], .string (stuffB bo)]) (by simp [results, Tryz.results91, go_sem, r0, r1, r2, r3, r4, r5, r6, r7, r8]) rfl ?_
    exact ⟨⟨_, _, _, rfl, (HS8.out.nine (b := w.heap.size + 1 + 1) z8 _ _ _ _ _ _ _ _ _).le (by omega)⟩, below_nine b8 (by omega) _ _ _ _ _ _ _ _ _⟩
end Go.Proofs.YtngcjlghjidnjaaGreatDoor
namespace Go.Proofs.YtngcjlghjidnjaaGreatDoor
open Go.ChangeShapes Go.WideShapes Go.ChangeAt Go.RowKit
attribute [local go_sem ↓] Go.wp_at_zero Go.wp_at_succ

set_option maxHeartbeats 4000000 in
set_option maxRecDepth 100000 in
theorem takeE1 (buf he fr bo : ByteArray) (R : List ByteArray) (nx : Nat) (T : List Bool) (V : List Vd) (c : Nat) (v : Value) (L : List ByteArray) (u1 u2 u3 : Value) (lo lo2 : Nat) (w : World) (hk : (⟨1, buf, he, fr, bo, R, nx, T, V⟩ : Sn).Ok) (h : SV w lo u1 u2 u3 (⟨1, buf, he, fr, bo, R, nx, T, V⟩ : Sn)) (hS : Strs w lo2 v L) (h1 : 1 ≤ L.length) (hsz : ∀ x ∈ L, x.size ≤ 1048576) (hb220 : ((c : Int) == 220) = false) (hb421 : ((c : Int) == 421) = false) :
    Calls Tryz.prog 91 #[.agg #[.int .i64 1, .string buf, .string he, .string fr, .string bo, u1, .int .i64 (nx : Int), u2, u3], .agg #[.int .i64 (c : Int), v]] w fun e w' => SQ ((⟨1, buf, he, fr, bo, R, nx, T, V⟩ : Sn).quit (refV c (L.getD 0 ⟨#[]⟩))) w e w' := by
  have H : Hid (SV w lo u1 u2 u3 (⟨1, buf, he, fr, bo, R, nx, T, V⟩ : Sn)) := h
  have HK : Hid (⟨1, buf, he, fr, bo, R, nx, T, V⟩ : Sn).Ok := hk
  have HSt : Hid (Strs w lo2 v L) := hS
  have HL1 : Hid (1 ≤ L.length) := h1
  have HLs : Hid (∀ x ∈ L, x.size ≤ 1048576) := hsz
  have hhe : he.size ≤ 1048576 := by have := hk.he; dsimp only at this; omega
  have hfr : fr.size ≤ 1048576 := by have := hk.fr; dsimp only at this; omega
  have hbo : bo.size ≤ 1048576 := by have := hk.bo; dsimp only at this; omega
  obtain ⟨g1, g2, g3, k1, k2, k3, y1, y2, y3⟩ : ∃ g1 g2 g3 k1 k2 k3, u1 = .slice (some ⟨g1, 0, none⟩) R.length k1 ∧ u2 = .slice (some ⟨g2, 0, none⟩) R.length k2 ∧ u3 = .slice (some ⟨g3, 0, none⟩) R.length k3 := h.some hk
  subst y1
  subst y2
  subst y3
  clear h hk hS h1 hsz
  go_enter Tryz.func91, Tryz.ntmps91
  go_wp2_with fail
  generalize hW : World.alloc _ _ = W
  have HA : Hid (Blk w.heap.size #[.int .i64 1, .string buf, .string he, .string fr, .string bo, (.slice (some ⟨g1, 0, none⟩) R.length k1), .int .i64 (nx : Int), (.slice (some ⟨g2, 0, none⟩) R.length k2), (.slice (some ⟨g3, 0, none⟩) R.length k3)] W) := by show Blk _ _ _; rw [← hW]; exact ((blk3 w _ _ _ _ _ _).1).below (below1 _ _)
  have HR : Hid (Blk (w.heap.size + 1) #[.int .i64 (c : Int), v] W) := by show Blk _ _ _; rw [← hW]; exact ((blk3 w _ _ _ _ _ _).2.1).below (below1 _ _)
  have HZ : Hid (SB (w.heap.size + 1 + 1) sn0 (.slice none 0 0) (.slice none 0 0) (.slice none 0 0) W) := by show SB _ _ _ _ _ _; rw [← hW]; exact ((blk3 w _ _ _ _ _ _).2.2).below (below1 _ _)
  have b0 : Below w.heap.size w W := by rw [← hW]; exact (below3 _ _ _ _).trans ((below1 _ _).mono (by simp; omega))
  have z0 : w.heap.size + 3 ≤ W.heap.size := by rw [← hW]; simp
  clear hW
  obtain ⟨t0, t1, t2, t3, t4, t5, t6, t7, t8⟩ : W.cell? ⟨w.heap.size, 0, none⟩ = some (.int .i64 1) ∧ W.cell? ⟨w.heap.size, 1, none⟩ = some (.string buf) ∧ W.cell? ⟨w.heap.size, 2, none⟩ = some (.string he) ∧ W.cell? ⟨w.heap.size, 3, none⟩ = some (.string fr) ∧ W.cell? ⟨w.heap.size, 4, none⟩ = some (.string bo) ∧ W.cell? ⟨w.heap.size, 5, none⟩ = some ((.slice (some ⟨g1, 0, none⟩) R.length k1)) ∧ W.cell? ⟨w.heap.size, 6, none⟩ = some (.int .i64 (nx : Int)) ∧ W.cell? ⟨w.heap.size, 7, none⟩ = some ((.slice (some ⟨g2, 0, none⟩) R.length k2)) ∧ W.cell? ⟨w.heap.size, 8, none⟩ = some ((.slice (some ⟨g3, 0, none⟩) R.length k3)) := ⟨HA.out.cell 0, HA.out.cell 1, HA.out.cell 2, HA.out.cell 3, HA.out.cell 4, HA.out.cell 5, HA.out.cell 6, HA.out.cell 7, HA.out.cell 8⟩
  have s0 : W.cell? ⟨w.heap.size + 1, 0, none⟩ = some (.int .i64 (c : Int)) := HR.out.cell 0
  have s1 : W.cell? ⟨w.heap.size + 1, 1, none⟩ = some v := HR.out.cell 1
  go_region_with (first | (go_at_call 123; refine (specNo c v L lo2 _ (strs_below HSt.out (b0.trans (by repeat (first | exact Below.refl _ _ | refine Below.drew ?_))) (Nat.le_refl _)) HL1.out).mono ?_; rintro e w7 ⟨rfl, hb7⟩; have HB7 : Hid (Below W.heap.size W w7) := ((Below.refl W.heap.size W).drew).trans hb7; have HA7 : Hid (Blk w.heap.size #[.int .i64 1, .string buf, .string he, .string fr, .string bo, (.slice (some ⟨g1, 0, none⟩) R.length k1), .int .i64 (nx : Int), (.slice (some ⟨g2, 0, none⟩) R.length k2), (.slice (some ⟨g3, 0, none⟩) R.length k3)] w7) := Blk.below HA.out HB7.out; have HR7 : Hid (Blk (w.heap.size + 1) #[.int .i64 (c : Int), v] w7) := Blk.below HR.out HB7.out; obtain ⟨j0, j1, j2, j3, j4, j5, j6, j7, j8⟩ : w7.cell? ⟨w.heap.size, 0, none⟩ = some (.int .i64 1) ∧ w7.cell? ⟨w.heap.size, 1, none⟩ = some (.string buf) ∧ w7.cell? ⟨w.heap.size, 2, none⟩ = some (.string he) ∧ w7.cell? ⟨w.heap.size, 3, none⟩ = some (.string fr) ∧ w7.cell? ⟨w.heap.size, 4, none⟩ = some (.string bo) ∧ w7.cell? ⟨w.heap.size, 5, none⟩ = some ((.slice (some ⟨g1, 0, none⟩) R.length k1)) ∧ w7.cell? ⟨w.heap.size, 6, none⟩ = some (.int .i64 (nx : Int)) ∧ w7.cell? ⟨w.heap.size, 7, none⟩ = some ((.slice (some ⟨g2, 0, none⟩) R.length k2)) ∧ w7.cell? ⟨w.heap.size, 8, none⟩ = some ((.slice (some ⟨g3, 0, none⟩) R.length k3)) := ⟨HA7.out.cell 0, HA7.out.cell 1, HA7.out.cell 2, HA7.out.cell 3, HA7.out.cell 4, HA7.out.cell 5, HA7.out.cell 6, HA7.out.cell 7, HA7.out.cell 8⟩; have o0 : w7.cell? ⟨w.heap.size + 1, 0, none⟩ = some (.int .i64 (c : Int)) := HR7.out.cell 0; have o1 : w7.cell? ⟨w.heap.size + 1, 1, none⟩ = some v := HR7.out.cell 1; clear hb7) | (go_at_call 126; refine (specQuit (⟨1, buf, he, fr, bo, R, nx, T, V⟩ : Sn) (refV c (L.getD 0 ⟨#[]⟩)) _ _ _ lo _ HK.out (H.out.below (b0.trans (HB7.out.mono b0.size)) (Nat.le_refl _))).mono ?_; rintro e w8 ⟨⟨v1, v2, v3, rfl, S8⟩, hb8⟩; obtain ⟨p4, p5, p6, q4, q5, q6, y4, y5, y6⟩ : ∃ p4 p5 p6 q4 q5 q6, v1 = .slice (some ⟨p4, 0, none⟩) R.length q4 ∧ v2 = .slice (some ⟨p5, 0, none⟩) R.length q5 ∧ v3 = .slice (some ⟨p6, 0, none⟩) R.length q6 := S8.someW ⟨by first | exact HK.out.t | (show (_ : List Bool).length = _; exact HK.out.t), by first | exact HK.out.v | exact (decV_len _ _).trans HK.out.v, HK.out.r1, HK.out.r20⟩; subst y4; subst y5; subst y6; have HB8 : Hid (Below W.heap.size W w8) := HB7.out.trans (hb8.mono HB7.out.size); have HZ8 : Hid (SB (w.heap.size + 1 + 1) sn0 (.slice none 0 0) (.slice none 0 0) (.slice none 0 0) w8) := SB.below HZ.out HB8.out; obtain ⟨r0, r1, r2, r3, r4, r5, r6, r7, r8⟩ := HZ8.out.zero; obtain ⟨rf0, rf1, rf2, rf3, rf4, rf5, rf6, rf7, rf8⟩ := HZ8.out.frees; have zl : w.heap.size + 1 + 1 < w8.heap.size := HZ8.out.lt; have HS8 : Hid (SV w8 w7.heap.size (.slice (some ⟨p4, 0, none⟩) R.length q4) (.slice (some ⟨p5, 0, none⟩) R.length q5) (.slice (some ⟨p6, 0, none⟩) R.length q6) (((⟨1, buf, he, fr, bo, R, nx, T, V⟩ : Sn).quit (refV c (L.getD 0 ⟨#[]⟩))).1)) := S8; clear S8 hb8))
  all_goals
    have b8 : Below w.heap.size w w8 := b0.trans (HB8.out.mono b0.size)
    have z8 : w.heap.size + 1 + 1 < w7.heap.size := Nat.lt_of_lt_of_le (Nat.lt_of_lt_of_le (by omega) z0) HB7.out.size
    dsimp only [Sn.to, Sn.dec, Sn.quit]
    go_wp2
    refine bodyPost_ret (v := .tuple #[.agg #[.int .i64 8, .string buf, .string he, .string fr, .string bo, (.slice (some ⟨p4, 0, none⟩) R.length q4), .int .i64 (nx : Int), (.slice (some ⟨p5, 0, none⟩) R.length q5), (.slice (some ⟨p6, 0, none⟩) R.length q6)], .string tQuit]) (by simp [results, Tryz.results91, go_sem, r0, r1, r2, r3, r4, r5, r6, r7, r8, tQuit]) rfl ?_
    exact ⟨⟨_, _, _, rfl, (HS8.out.nine (b := w.heap.size + 1 + 1) z8 _ _ _ _ _ _ _ _ _).le (by omega)⟩, below_nine b8 (by omega) _ _ _ _ _ _ _ _ _⟩

set_option maxHeartbeats 4000000 in
set_option maxRecDepth 100000 in
theorem takeE3 (buf he fr bo : ByteArray) (R : List ByteArray) (nx : Nat) (T : List Bool) (V : List Vd) (c : Nat) (v : Value) (L : List ByteArray) (u1 u2 u3 : Value) (lo lo2 : Nat) (w : World) (hk : (⟨3, buf, he, fr, bo, R, nx, T, V⟩ : Sn).Ok) (h : SV w lo u1 u2 u3 (⟨3, buf, he, fr, bo, R, nx, T, V⟩ : Sn)) (hS : Strs w lo2 v L) (h1 : 1 ≤ L.length) (hsz : ∀ x ∈ L, x.size ≤ 1048576) (hb250 : ((c : Int) == 250) = false) (hb421 : ((c : Int) == 421) = false) :
    Calls Tryz.prog 91 #[.agg #[.int .i64 3, .string buf, .string he, .string fr, .string bo, u1, .int .i64 (nx : Int), u2, u3], .agg #[.int .i64 (c : Int), v]] w fun e w' => SQ ((⟨3, buf, he, fr, bo, R, nx, T, V⟩ : Sn).quit (refV c (L.getD 0 ⟨#[]⟩))) w e w' := by
  have H : Hid (SV w lo u1 u2 u3 (⟨3, buf, he, fr, bo, R, nx, T, V⟩ : Sn)) := h
  have HK : Hid (⟨3, buf, he, fr, bo, R, nx, T, V⟩ : Sn).Ok := hk
  have HSt : Hid (Strs w lo2 v L) := hS
  have HL1 : Hid (1 ≤ L.length) := h1
  have HLs : Hid (∀ x ∈ L, x.size ≤ 1048576) := hsz
  have hhe : he.size ≤ 1048576 := by have := hk.he; dsimp only at this; omega
  have hfr : fr.size ≤ 1048576 := by have := hk.fr; dsimp only at this; omega
  have hbo : bo.size ≤ 1048576 := by have := hk.bo; dsimp only at this; omega
  obtain ⟨g1, g2, g3, k1, k2, k3, y1, y2, y3⟩ : ∃ g1 g2 g3 k1 k2 k3, u1 = .slice (some ⟨g1, 0, none⟩) R.length k1 ∧ u2 = .slice (some ⟨g2, 0, none⟩) R.length k2 ∧ u3 = .slice (some ⟨g3, 0, none⟩) R.length k3 := h.some hk
  subst y1
  subst y2
  subst y3
  clear h hk hS h1 hsz
  go_enter Tryz.func91, Tryz.ntmps91
  go_wp2_with fail
  generalize hW : World.alloc _ _ = W
  have HA : Hid (Blk w.heap.size #[.int .i64 3, .string buf, .string he, .string fr, .string bo, (.slice (some ⟨g1, 0, none⟩) R.length k1), .int .i64 (nx : Int), (.slice (some ⟨g2, 0, none⟩) R.length k2), (.slice (some ⟨g3, 0, none⟩) R.length k3)] W) := by show Blk _ _ _; rw [← hW]; exact ((blk3 w _ _ _ _ _ _).1).below (below1 _ _)
  have HR : Hid (Blk (w.heap.size + 1) #[.int .i64 (c : Int), v] W) := by show Blk _ _ _; rw [← hW]; exact ((blk3 w _ _ _ _ _ _).2.1).below (below1 _ _)
  have HZ : Hid (SB (w.heap.size + 1 + 1) sn0 (.slice none 0 0) (.slice none 0 0) (.slice none 0 0) W) := by show SB _ _ _ _ _ _; rw [← hW]; exact ((blk3 w _ _ _ _ _ _).2.2).below (below1 _ _)
  have b0 : Below w.heap.size w W := by rw [← hW]; exact (below3 _ _ _ _).trans ((below1 _ _).mono (by simp; omega))
  have z0 : w.heap.size + 3 ≤ W.heap.size := by rw [← hW]; simp
  clear hW
  obtain ⟨t0, t1, t2, t3, t4, t5, t6, t7, t8⟩ : W.cell? ⟨w.heap.size, 0, none⟩ = some (.int .i64 3) ∧ W.cell? ⟨w.heap.size, 1, none⟩ = some (.string buf) ∧ W.cell? ⟨w.heap.size, 2, none⟩ = some (.string he) ∧ W.cell? ⟨w.heap.size, 3, none⟩ = some (.string fr) ∧ W.cell? ⟨w.heap.size, 4, none⟩ = some (.string bo) ∧ W.cell? ⟨w.heap.size, 5, none⟩ = some ((.slice (some ⟨g1, 0, none⟩) R.length k1)) ∧ W.cell? ⟨w.heap.size, 6, none⟩ = some (.int .i64 (nx : Int)) ∧ W.cell? ⟨w.heap.size, 7, none⟩ = some ((.slice (some ⟨g2, 0, none⟩) R.length k2)) ∧ W.cell? ⟨w.heap.size, 8, none⟩ = some ((.slice (some ⟨g3, 0, none⟩) R.length k3)) := ⟨HA.out.cell 0, HA.out.cell 1, HA.out.cell 2, HA.out.cell 3, HA.out.cell 4, HA.out.cell 5, HA.out.cell 6, HA.out.cell 7, HA.out.cell 8⟩
  have s0 : W.cell? ⟨w.heap.size + 1, 0, none⟩ = some (.int .i64 (c : Int)) := HR.out.cell 0
  have s1 : W.cell? ⟨w.heap.size + 1, 1, none⟩ = some v := HR.out.cell 1
  go_region_with (first | (go_at_call 123; refine (specNo c v L lo2 _ (strs_below HSt.out (b0.trans (by repeat (first | exact Below.refl _ _ | refine Below.drew ?_))) (Nat.le_refl _)) HL1.out).mono ?_; rintro e w7 ⟨rfl, hb7⟩; have HB7 : Hid (Below W.heap.size W w7) := ((Below.refl W.heap.size W).drew).trans hb7; have HA7 : Hid (Blk w.heap.size #[.int .i64 3, .string buf, .string he, .string fr, .string bo, (.slice (some ⟨g1, 0, none⟩) R.length k1), .int .i64 (nx : Int), (.slice (some ⟨g2, 0, none⟩) R.length k2), (.slice (some ⟨g3, 0, none⟩) R.length k3)] w7) := Blk.below HA.out HB7.out; have HR7 : Hid (Blk (w.heap.size + 1) #[.int .i64 (c : Int), v] w7) := Blk.below HR.out HB7.out; obtain ⟨j0, j1, j2, j3, j4, j5, j6, j7, j8⟩ : w7.cell? ⟨w.heap.size, 0, none⟩ = some (.int .i64 3) ∧ w7.cell? ⟨w.heap.size, 1, none⟩ = some (.string buf) ∧ w7.cell? ⟨w.heap.size, 2, none⟩ = some (.string he) ∧ w7.cell? ⟨w.heap.size, 3, none⟩ = some (.string fr) ∧ w7.cell? ⟨w.heap.size, 4, none⟩ = some (.string bo) ∧ w7.cell? ⟨w.heap.size, 5, none⟩ = some ((.slice (some ⟨g1, 0, none⟩) R.length k1)) ∧ w7.cell? ⟨w.heap.size, 6, none⟩ = some (.int .i64 (nx : Int)) ∧ w7.cell? ⟨w.heap.size, 7, none⟩ = some ((.slice (some ⟨g2, 0, none⟩) R.length k2)) ∧ w7.cell? ⟨w.heap.size, 8, none⟩ = some ((.slice (some ⟨g3, 0, none⟩) R.length k3)) := ⟨HA7.out.cell 0, HA7.out.cell 1, HA7.out.cell 2, HA7.out.cell 3, HA7.out.cell 4, HA7.out.cell 5, HA7.out.cell 6, HA7.out.cell 7, HA7.out.cell 8⟩; have o0 : w7.cell? ⟨w.heap.size + 1, 0, none⟩ = some (.int .i64 (c : Int)) := HR7.out.cell 0; have o1 : w7.cell? ⟨w.heap.size + 1, 1, none⟩ = some v := HR7.out.cell 1; clear hb7) | (go_at_call 126; refine (specQuit (⟨3, buf, he, fr, bo, R, nx, T, V⟩ : Sn) (refV c (L.getD 0 ⟨#[]⟩)) _ _ _ lo _ HK.out (H.out.below (b0.trans (HB7.out.mono b0.size)) (Nat.le_refl _))).mono ?_; rintro e w8 ⟨⟨v1, v2, v3, rfl, S8⟩, hb8⟩; obtain ⟨p4, p5, p6, q4, q5, q6, y4, y5, y6⟩ : ∃ p4 p5 p6 q4 q5 q6, v1 = .slice (some ⟨p4, 0, none⟩) R.length q4 ∧ v2 = .slice (some ⟨p5, 0, none⟩) R.length q5 ∧ v3 = .slice (some ⟨p6, 0, none⟩) R.length q6 := S8.someW ⟨by first | exact HK.out.t | (show (_ : List Bool).length = _; exact HK.out.t), by first | exact HK.out.v | exact (decV_len _ _).trans HK.out.v, HK.out.r1, HK.out.r20⟩; subst y4; subst y5; subst y6; have HB8 : Hid (Below W.heap.size W w8) := HB7.out.trans (hb8.mono HB7.out.size); have HZ8 : Hid (SB (w.heap.size + 1 + 1) sn0 (.slice none 0 0) (.slice none 0 0) (.slice none 0 0) w8) := SB.below HZ.out HB8.out; obtain ⟨r0, r1, r2, r3, r4, r5, r6, r7, r8⟩ := HZ8.out.zero; obtain ⟨rf0, rf1, rf2, rf3, rf4, rf5, rf6, rf7, rf8⟩ := HZ8.out.frees; have zl : w.heap.size + 1 + 1 < w8.heap.size := HZ8.out.lt; have HS8 : Hid (SV w8 w7.heap.size (.slice (some ⟨p4, 0, none⟩) R.length q4) (.slice (some ⟨p5, 0, none⟩) R.length q5) (.slice (some ⟨p6, 0, none⟩) R.length q6) (((⟨3, buf, he, fr, bo, R, nx, T, V⟩ : Sn).quit (refV c (L.getD 0 ⟨#[]⟩))).1)) := S8; clear S8 hb8))
  all_goals
    have b8 : Below w.heap.size w w8 := b0.trans (HB8.out.mono b0.size)
    have z8 : w.heap.size + 1 + 1 < w7.heap.size := Nat.lt_of_lt_of_le (Nat.lt_of_lt_of_le (by omega) z0) HB7.out.size
    dsimp only [Sn.to, Sn.dec, Sn.quit]
    go_wp2
    refine bodyPost_ret (v := .tuple #[.agg #[.int .i64 8, .string buf, .string he, .string fr, .string bo, (.slice (some ⟨p4, 0, none⟩) R.length q4), .int .i64 (nx : Int), (.slice (some ⟨p5, 0, none⟩) R.length q5), (.slice (some ⟨p6, 0, none⟩) R.length q6)], .string tQuit]) (by simp [results, Tryz.results91, go_sem, r0, r1, r2, r3, r4, r5, r6, r7, r8, tQuit]) rfl ?_
    exact ⟨⟨_, _, _, rfl, (HS8.out.nine (b := w.heap.size + 1 + 1) z8 _ _ _ _ _ _ _ _ _).le (by omega)⟩, below_nine b8 (by omega) _ _ _ _ _ _ _ _ _⟩

set_option maxHeartbeats 4000000 in
set_option maxRecDepth 100000 in
theorem takeE4 (buf he fr bo : ByteArray) (R : List ByteArray) (nx : Nat) (T : List Bool) (V : List Vd) (c : Nat) (v : Value) (L : List ByteArray) (u1 u2 u3 : Value) (lo lo2 : Nat) (w : World) (hk : (⟨4, buf, he, fr, bo, R, nx, T, V⟩ : Sn).Ok) (h : SV w lo u1 u2 u3 (⟨4, buf, he, fr, bo, R, nx, T, V⟩ : Sn)) (hS : Strs w lo2 v L) (h1 : 1 ≤ L.length) (hsz : ∀ x ∈ L, x.size ≤ 1048576) (hb250 : ((c : Int) == 250) = false) (hb421 : ((c : Int) == 421) = false) :
    Calls Tryz.prog 91 #[.agg #[.int .i64 4, .string buf, .string he, .string fr, .string bo, u1, .int .i64 (nx : Int), u2, u3], .agg #[.int .i64 (c : Int), v]] w fun e w' => SQ ((⟨4, buf, he, fr, bo, R, nx, T, V⟩ : Sn).quit (refV c (L.getD 0 ⟨#[]⟩))) w e w' := by
  have H : Hid (SV w lo u1 u2 u3 (⟨4, buf, he, fr, bo, R, nx, T, V⟩ : Sn)) := h
  have HK : Hid (⟨4, buf, he, fr, bo, R, nx, T, V⟩ : Sn).Ok := hk
  have HSt : Hid (Strs w lo2 v L) := hS
  have HL1 : Hid (1 ≤ L.length) := h1
  have HLs : Hid (∀ x ∈ L, x.size ≤ 1048576) := hsz
  have hhe : he.size ≤ 1048576 := by have := hk.he; dsimp only at this; omega
  have hfr : fr.size ≤ 1048576 := by have := hk.fr; dsimp only at this; omega
  have hbo : bo.size ≤ 1048576 := by have := hk.bo; dsimp only at this; omega
  obtain ⟨g1, g2, g3, k1, k2, k3, y1, y2, y3⟩ : ∃ g1 g2 g3 k1 k2 k3, u1 = .slice (some ⟨g1, 0, none⟩) R.length k1 ∧ u2 = .slice (some ⟨g2, 0, none⟩) R.length k2 ∧ u3 = .slice (some ⟨g3, 0, none⟩) R.length k3 := h.some hk
  subst y1
  subst y2
  subst y3
  clear h hk hS h1 hsz
  go_enter Tryz.func91, Tryz.ntmps91
  go_wp2_with fail
  generalize hW : World.alloc _ _ = W
  have HA : Hid (Blk w.heap.size #[.int .i64 4, .string buf, .string he, .string fr, .string bo, (.slice (some ⟨g1, 0, none⟩) R.length k1), .int .i64 (nx : Int), (.slice (some ⟨g2, 0, none⟩) R.length k2), (.slice (some ⟨g3, 0, none⟩) R.length k3)] W) := by show Blk _ _ _; rw [← hW]; exact ((blk3 w _ _ _ _ _ _).1).below (below1 _ _)
  have HR : Hid (Blk (w.heap.size + 1) #[.int .i64 (c : Int), v] W) := by show Blk _ _ _; rw [← hW]; exact ((blk3 w _ _ _ _ _ _).2.1).below (below1 _ _)
  have HZ : Hid (SB (w.heap.size + 1 + 1) sn0 (.slice none 0 0) (.slice none 0 0) (.slice none 0 0) W) := by show SB _ _ _ _ _ _; rw [← hW]; exact ((blk3 w _ _ _ _ _ _).2.2).below (below1 _ _)
  have b0 : Below w.heap.size w W := by rw [← hW]; exact (below3 _ _ _ _).trans ((below1 _ _).mono (by simp; omega))
  have z0 : w.heap.size + 3 ≤ W.heap.size := by rw [← hW]; simp
  clear hW
  obtain ⟨t0, t1, t2, t3, t4, t5, t6, t7, t8⟩ : W.cell? ⟨w.heap.size, 0, none⟩ = some (.int .i64 4) ∧ W.cell? ⟨w.heap.size, 1, none⟩ = some (.string buf) ∧ W.cell? ⟨w.heap.size, 2, none⟩ = some (.string he) ∧ W.cell? ⟨w.heap.size, 3, none⟩ = some (.string fr) ∧ W.cell? ⟨w.heap.size, 4, none⟩ = some (.string bo) ∧ W.cell? ⟨w.heap.size, 5, none⟩ = some ((.slice (some ⟨g1, 0, none⟩) R.length k1)) ∧ W.cell? ⟨w.heap.size, 6, none⟩ = some (.int .i64 (nx : Int)) ∧ W.cell? ⟨w.heap.size, 7, none⟩ = some ((.slice (some ⟨g2, 0, none⟩) R.length k2)) ∧ W.cell? ⟨w.heap.size, 8, none⟩ = some ((.slice (some ⟨g3, 0, none⟩) R.length k3)) := ⟨HA.out.cell 0, HA.out.cell 1, HA.out.cell 2, HA.out.cell 3, HA.out.cell 4, HA.out.cell 5, HA.out.cell 6, HA.out.cell 7, HA.out.cell 8⟩
  have s0 : W.cell? ⟨w.heap.size + 1, 0, none⟩ = some (.int .i64 (c : Int)) := HR.out.cell 0
  have s1 : W.cell? ⟨w.heap.size + 1, 1, none⟩ = some v := HR.out.cell 1
  go_region_with (first | (go_at_call 123; refine (specNo c v L lo2 _ (strs_below HSt.out (b0.trans (by repeat (first | exact Below.refl _ _ | refine Below.drew ?_))) (Nat.le_refl _)) HL1.out).mono ?_; rintro e w7 ⟨rfl, hb7⟩; have HB7 : Hid (Below W.heap.size W w7) := ((Below.refl W.heap.size W).drew).trans hb7; have HA7 : Hid (Blk w.heap.size #[.int .i64 4, .string buf, .string he, .string fr, .string bo, (.slice (some ⟨g1, 0, none⟩) R.length k1), .int .i64 (nx : Int), (.slice (some ⟨g2, 0, none⟩) R.length k2), (.slice (some ⟨g3, 0, none⟩) R.length k3)] w7) := Blk.below HA.out HB7.out; have HR7 : Hid (Blk (w.heap.size + 1) #[.int .i64 (c : Int), v] w7) := Blk.below HR.out HB7.out; obtain ⟨j0, j1, j2, j3, j4, j5, j6, j7, j8⟩ : w7.cell? ⟨w.heap.size, 0, none⟩ = some (.int .i64 4) ∧ w7.cell? ⟨w.heap.size, 1, none⟩ = some (.string buf) ∧ w7.cell? ⟨w.heap.size, 2, none⟩ = some (.string he) ∧ w7.cell? ⟨w.heap.size, 3, none⟩ = some (.string fr) ∧ w7.cell? ⟨w.heap.size, 4, none⟩ = some (.string bo) ∧ w7.cell? ⟨w.heap.size, 5, none⟩ = some ((.slice (some ⟨g1, 0, none⟩) R.length k1)) ∧ w7.cell? ⟨w.heap.size, 6, none⟩ = some (.int .i64 (nx : Int)) ∧ w7.cell? ⟨w.heap.size, 7, none⟩ = some ((.slice (some ⟨g2, 0, none⟩) R.length k2)) ∧ w7.cell? ⟨w.heap.size, 8, none⟩ = some ((.slice (some ⟨g3, 0, none⟩) R.length k3)) := ⟨HA7.out.cell 0, HA7.out.cell 1, HA7.out.cell 2, HA7.out.cell 3, HA7.out.cell 4, HA7.out.cell 5, HA7.out.cell 6, HA7.out.cell 7, HA7.out.cell 8⟩; have o0 : w7.cell? ⟨w.heap.size + 1, 0, none⟩ = some (.int .i64 (c : Int)) := HR7.out.cell 0; have o1 : w7.cell? ⟨w.heap.size + 1, 1, none⟩ = some v := HR7.out.cell 1; clear hb7) | (go_at_call 126; refine (specQuit (⟨4, buf, he, fr, bo, R, nx, T, V⟩ : Sn) (refV c (L.getD 0 ⟨#[]⟩)) _ _ _ lo _ HK.out (H.out.below (b0.trans (HB7.out.mono b0.size)) (Nat.le_refl _))).mono ?_; rintro e w8 ⟨⟨v1, v2, v3, rfl, S8⟩, hb8⟩; obtain ⟨p4, p5, p6, q4, q5, q6, y4, y5, y6⟩ : ∃ p4 p5 p6 q4 q5 q6, v1 = .slice (some ⟨p4, 0, none⟩) R.length q4 ∧ v2 = .slice (some ⟨p5, 0, none⟩) R.length q5 ∧ v3 = .slice (some ⟨p6, 0, none⟩) R.length q6 := S8.someW ⟨by first | exact HK.out.t | (show (_ : List Bool).length = _; exact HK.out.t), by first | exact HK.out.v | exact (decV_len _ _).trans HK.out.v, HK.out.r1, HK.out.r20⟩; subst y4; subst y5; subst y6; have HB8 : Hid (Below W.heap.size W w8) := HB7.out.trans (hb8.mono HB7.out.size); have HZ8 : Hid (SB (w.heap.size + 1 + 1) sn0 (.slice none 0 0) (.slice none 0 0) (.slice none 0 0) w8) := SB.below HZ.out HB8.out; obtain ⟨r0, r1, r2, r3, r4, r5, r6, r7, r8⟩ := HZ8.out.zero; obtain ⟨rf0, rf1, rf2, rf3, rf4, rf5, rf6, rf7, rf8⟩ := HZ8.out.frees; have zl : w.heap.size + 1 + 1 < w8.heap.size := HZ8.out.lt; have HS8 : Hid (SV w8 w7.heap.size (.slice (some ⟨p4, 0, none⟩) R.length q4) (.slice (some ⟨p5, 0, none⟩) R.length q5) (.slice (some ⟨p6, 0, none⟩) R.length q6) (((⟨4, buf, he, fr, bo, R, nx, T, V⟩ : Sn).quit (refV c (L.getD 0 ⟨#[]⟩))).1)) := S8; clear S8 hb8))
  all_goals
    have b8 : Below w.heap.size w w8 := b0.trans (HB8.out.mono b0.size)
    have z8 : w.heap.size + 1 + 1 < w7.heap.size := Nat.lt_of_lt_of_le (Nat.lt_of_lt_of_le (by omega) z0) HB7.out.size
    dsimp only [Sn.to, Sn.dec, Sn.quit]
    go_wp2
    refine bodyPost_ret (v := .tuple #[.agg #[.int .i64 8, .string buf, .string he, .string fr, .string bo, (.slice (some ⟨p4, 0, none⟩) R.length q4), .int .i64 (nx : Int), (.slice (some ⟨p5, 0, none⟩) R.length q5), (.slice (some ⟨p6, 0, none⟩) R.length q6)], .string tQuit]) (by simp [results, Tryz.results91, go_sem, r0, r1, r2, r3, r4, r5, r6, r7, r8, tQuit]) rfl ?_
    exact ⟨⟨_, _, _, rfl, (HS8.out.nine (b := w.heap.size + 1 + 1) z8 _ _ _ _ _ _ _ _ _).le (by omega)⟩, below_nine b8 (by omega) _ _ _ _ _ _ _ _ _⟩

set_option maxHeartbeats 4000000 in
set_option maxRecDepth 100000 in
theorem takeE6 (buf he fr bo : ByteArray) (R : List ByteArray) (nx : Nat) (T : List Bool) (V : List Vd) (c : Nat) (v : Value) (L : List ByteArray) (u1 u2 u3 : Value) (lo lo2 : Nat) (w : World) (hk : (⟨6, buf, he, fr, bo, R, nx, T, V⟩ : Sn).Ok) (h : SV w lo u1 u2 u3 (⟨6, buf, he, fr, bo, R, nx, T, V⟩ : Sn)) (hS : Strs w lo2 v L) (h1 : 1 ≤ L.length) (hsz : ∀ x ∈ L, x.size ≤ 1048576) (hb354 : ((c : Int) == 354) = false) (hb421 : ((c : Int) == 421) = false) :
    Calls Tryz.prog 91 #[.agg #[.int .i64 6, .string buf, .string he, .string fr, .string bo, u1, .int .i64 (nx : Int), u2, u3], .agg #[.int .i64 (c : Int), v]] w fun e w' => SQ ((⟨6, buf, he, fr, bo, R, nx, T, V⟩ : Sn).quit (refV c (L.getD 0 ⟨#[]⟩))) w e w' := by
  have H : Hid (SV w lo u1 u2 u3 (⟨6, buf, he, fr, bo, R, nx, T, V⟩ : Sn)) := h
  have HK : Hid (⟨6, buf, he, fr, bo, R, nx, T, V⟩ : Sn).Ok := hk
  have HSt : Hid (Strs w lo2 v L) := hS
  have HL1 : Hid (1 ≤ L.length) := h1
  have HLs : Hid (∀ x ∈ L, x.size ≤ 1048576) := hsz
  have hhe : he.size ≤ 1048576 := by have := hk.he; dsimp only at this; omega
  have hfr : fr.size ≤ 1048576 := by have := hk.fr; dsimp only at this; omega
  have hbo : bo.size ≤ 1048576 := by have := hk.bo; dsimp only at this; omega
  obtain ⟨g1, g2, g3, k1, k2, k3, y1, y2, y3⟩ : ∃ g1 g2 g3 k1 k2 k3, u1 = .slice (some ⟨g1, 0, none⟩) R.length k1 ∧ u2 = .slice (some ⟨g2, 0, none⟩) R.length k2 ∧ u3 = .slice (some ⟨g3, 0, none⟩) R.length k3 := h.some hk
  subst y1
  subst y2
  subst y3
  clear h hk hS h1 hsz
  go_enter Tryz.func91, Tryz.ntmps91
  go_wp2_with fail
  generalize hW : World.alloc _ _ = W
  have HA : Hid (Blk w.heap.size #[.int .i64 6, .string buf, .string he, .string fr, .string bo, (.slice (some ⟨g1, 0, none⟩) R.length k1), .int .i64 (nx : Int), (.slice (some ⟨g2, 0, none⟩) R.length k2), (.slice (some ⟨g3, 0, none⟩) R.length k3)] W) := by show Blk _ _ _; rw [← hW]; exact ((blk3 w _ _ _ _ _ _).1).below (below1 _ _)
  have HR : Hid (Blk (w.heap.size + 1) #[.int .i64 (c : Int), v] W) := by show Blk _ _ _; rw [← hW]; exact ((blk3 w _ _ _ _ _ _).2.1).below (below1 _ _)
  have HZ : Hid (SB (w.heap.size + 1 + 1) sn0 (.slice none 0 0) (.slice none 0 0) (.slice none 0 0) W) := by show SB _ _ _ _ _ _; rw [← hW]; exact ((blk3 w _ _ _ _ _ _).2.2).below (below1 _ _)
  have b0 : Below w.heap.size w W := by rw [← hW]; exact (below3 _ _ _ _).trans ((below1 _ _).mono (by simp; omega))
  have z0 : w.heap.size + 3 ≤ W.heap.size := by rw [← hW]; simp
  clear hW
  obtain ⟨t0, t1, t2, t3, t4, t5, t6, t7, t8⟩ : W.cell? ⟨w.heap.size, 0, none⟩ = some (.int .i64 6) ∧ W.cell? ⟨w.heap.size, 1, none⟩ = some (.string buf) ∧ W.cell? ⟨w.heap.size, 2, none⟩ = some (.string he) ∧ W.cell? ⟨w.heap.size, 3, none⟩ = some (.string fr) ∧ W.cell? ⟨w.heap.size, 4, none⟩ = some (.string bo) ∧ W.cell? ⟨w.heap.size, 5, none⟩ = some ((.slice (some ⟨g1, 0, none⟩) R.length k1)) ∧ W.cell? ⟨w.heap.size, 6, none⟩ = some (.int .i64 (nx : Int)) ∧ W.cell? ⟨w.heap.size, 7, none⟩ = some ((.slice (some ⟨g2, 0, none⟩) R.length k2)) ∧ W.cell? ⟨w.heap.size, 8, none⟩ = some ((.slice (some ⟨g3, 0, none⟩) R.length k3)) := ⟨HA.out.cell 0, HA.out.cell 1, HA.out.cell 2, HA.out.cell 3, HA.out.cell 4, HA.out.cell 5, HA.out.cell 6, HA.out.cell 7, HA.out.cell 8⟩
  have s0 : W.cell? ⟨w.heap.size + 1, 0, none⟩ = some (.int .i64 (c : Int)) := HR.out.cell 0
  have s1 : W.cell? ⟨w.heap.size + 1, 1, none⟩ = some v := HR.out.cell 1
  go_region_with (first | (go_at_call 123; refine (specNo c v L lo2 _ (strs_below HSt.out (b0.trans (by repeat (first | exact Below.refl _ _ | refine Below.drew ?_))) (Nat.le_refl _)) HL1.out).mono ?_; rintro e w7 ⟨rfl, hb7⟩; have HB7 : Hid (Below W.heap.size W w7) := ((Below.refl W.heap.size W).drew).trans hb7; have HA7 : Hid (Blk w.heap.size #[.int .i64 6, .string buf, .string he, .string fr, .string bo, (.slice (some ⟨g1, 0, none⟩) R.length k1), .int .i64 (nx : Int), (.slice (some ⟨g2, 0, none⟩) R.length k2), (.slice (some ⟨g3, 0, none⟩) R.length k3)] w7) := Blk.below HA.out HB7.out; have HR7 : Hid (Blk (w.heap.size + 1) #[.int .i64 (c : Int), v] w7) := Blk.below HR.out HB7.out; obtain ⟨j0, j1, j2, j3, j4, j5, j6, j7, j8⟩ : w7.cell? ⟨w.heap.size, 0, none⟩ = some (.int .i64 6) ∧ w7.cell? ⟨w.heap.size, 1, none⟩ = some (.string buf) ∧ w7.cell? ⟨w.heap.size, 2, none⟩ = some (.string he) ∧ w7.cell? ⟨w.heap.size, 3, none⟩ = some (.string fr) ∧ w7.cell? ⟨w.heap.size, 4, none⟩ = some (.string bo) ∧ w7.cell? ⟨w.heap.size, 5, none⟩ = some ((.slice (some ⟨g1, 0, none⟩) R.length k1)) ∧ w7.cell? ⟨w.heap.size, 6, none⟩ = some (.int .i64 (nx : Int)) ∧ w7.cell? ⟨w.heap.size, 7, none⟩ = some ((.slice (some ⟨g2, 0, none⟩) R.length k2)) ∧ w7.cell? ⟨w.heap.size, 8, none⟩ = some ((.slice (some ⟨g3, 0, none⟩) R.length k3)) := ⟨HA7.out.cell 0, HA7.out.cell 1, HA7.out.cell 2, HA7.out.cell 3, HA7.out.cell 4, HA7.out.cell 5, HA7.out.cell 6, HA7.out.cell 7, HA7.out.cell 8⟩; have o0 : w7.cell? ⟨w.heap.size + 1, 0, none⟩ = some (.int .i64 (c : Int)) := HR7.out.cell 0; have o1 : w7.cell? ⟨w.heap.size + 1, 1, none⟩ = some v := HR7.out.cell 1; clear hb7) | (go_at_call 126; refine (specQuit (⟨6, buf, he, fr, bo, R, nx, T, V⟩ : Sn) (refV c (L.getD 0 ⟨#[]⟩)) _ _ _ lo _ HK.out (H.out.below (b0.trans (HB7.out.mono b0.size)) (Nat.le_refl _))).mono ?_; rintro e w8 ⟨⟨v1, v2, v3, rfl, S8⟩, hb8⟩; obtain ⟨p4, p5, p6, q4, q5, q6, y4, y5, y6⟩ : ∃ p4 p5 p6 q4 q5 q6, v1 = .slice (some ⟨p4, 0, none⟩) R.length q4 ∧ v2 = .slice (some ⟨p5, 0, none⟩) R.length q5 ∧ v3 = .slice (some ⟨p6, 0, none⟩) R.length q6 := S8.someW ⟨by first | exact HK.out.t | (show (_ : List Bool).length = _; exact HK.out.t), by first | exact HK.out.v | exact (decV_len _ _).trans HK.out.v, HK.out.r1, HK.out.r20⟩; subst y4; subst y5; subst y6; have HB8 : Hid (Below W.heap.size W w8) := HB7.out.trans (hb8.mono HB7.out.size); have HZ8 : Hid (SB (w.heap.size + 1 + 1) sn0 (.slice none 0 0) (.slice none 0 0) (.slice none 0 0) w8) := SB.below HZ.out HB8.out; obtain ⟨r0, r1, r2, r3, r4, r5, r6, r7, r8⟩ := HZ8.out.zero; obtain ⟨rf0, rf1, rf2, rf3, rf4, rf5, rf6, rf7, rf8⟩ := HZ8.out.frees; have zl : w.heap.size + 1 + 1 < w8.heap.size := HZ8.out.lt; have HS8 : Hid (SV w8 w7.heap.size (.slice (some ⟨p4, 0, none⟩) R.length q4) (.slice (some ⟨p5, 0, none⟩) R.length q5) (.slice (some ⟨p6, 0, none⟩) R.length q6) (((⟨6, buf, he, fr, bo, R, nx, T, V⟩ : Sn).quit (refV c (L.getD 0 ⟨#[]⟩))).1)) := S8; clear S8 hb8))
  all_goals
    have b8 : Below w.heap.size w w8 := b0.trans (HB8.out.mono b0.size)
    have z8 : w.heap.size + 1 + 1 < w7.heap.size := Nat.lt_of_lt_of_le (Nat.lt_of_lt_of_le (by omega) z0) HB7.out.size
    dsimp only [Sn.to, Sn.dec, Sn.quit]
    go_wp2
    refine bodyPost_ret (v := .tuple #[.agg #[.int .i64 8, .string buf, .string he, .string fr, .string bo, (.slice (some ⟨p4, 0, none⟩) R.length q4), .int .i64 (nx : Int), (.slice (some ⟨p5, 0, none⟩) R.length q5), (.slice (some ⟨p6, 0, none⟩) R.length q6)], .string tQuit]) (by simp [results, Tryz.results91, go_sem, r0, r1, r2, r3, r4, r5, r6, r7, r8, tQuit]) rfl ?_
    exact ⟨⟨_, _, _, rfl, (HS8.out.nine (b := w.heap.size + 1 + 1) z8 _ _ _ _ _ _ _ _ _).le (by omega)⟩, below_nine b8 (by omega) _ _ _ _ _ _ _ _ _⟩

set_option maxHeartbeats 4000000 in
set_option maxRecDepth 100000 in
theorem takeE7 (buf he fr bo : ByteArray) (R : List ByteArray) (nx : Nat) (T : List Bool) (V : List Vd) (c : Nat) (v : Value) (L : List ByteArray) (u1 u2 u3 : Value) (lo lo2 : Nat) (w : World) (hk : (⟨7, buf, he, fr, bo, R, nx, T, V⟩ : Sn).Ok) (h : SV w lo u1 u2 u3 (⟨7, buf, he, fr, bo, R, nx, T, V⟩ : Sn)) (hS : Strs w lo2 v L) (h1 : 1 ≤ L.length) (hsz : ∀ x ∈ L, x.size ≤ 1048576) (hb250 : ((c : Int) == 250) = false) (hb421 : ((c : Int) == 421) = false) :
    Calls Tryz.prog 91 #[.agg #[.int .i64 7, .string buf, .string he, .string fr, .string bo, u1, .int .i64 (nx : Int), u2, u3], .agg #[.int .i64 (c : Int), v]] w fun e w' => SQ ((⟨7, buf, he, fr, bo, R, nx, T, V⟩ : Sn).quit (refV c (L.getD 0 ⟨#[]⟩))) w e w' := by
  have H : Hid (SV w lo u1 u2 u3 (⟨7, buf, he, fr, bo, R, nx, T, V⟩ : Sn)) := h
  have HK : Hid (⟨7, buf, he, fr, bo, R, nx, T, V⟩ : Sn).Ok := hk
  have HSt : Hid (Strs w lo2 v L) := hS
  have HL1 : Hid (1 ≤ L.length) := h1
  have HLs : Hid (∀ x ∈ L, x.size ≤ 1048576) := hsz
  have hhe : he.size ≤ 1048576 := by have := hk.he; dsimp only at this; omega
  have hfr : fr.size ≤ 1048576 := by have := hk.fr; dsimp only at this; omega
  have hbo : bo.size ≤ 1048576 := by have := hk.bo; dsimp only at this; omega
  obtain ⟨g1, g2, g3, k1, k2, k3, y1, y2, y3⟩ : ∃ g1 g2 g3 k1 k2 k3, u1 = .slice (some ⟨g1, 0, none⟩) R.length k1 ∧ u2 = .slice (some ⟨g2, 0, none⟩) R.length k2 ∧ u3 = .slice (some ⟨g3, 0, none⟩) R.length k3 := h.some hk
  subst y1
  subst y2
  subst y3
  clear h hk hS h1 hsz
  go_enter Tryz.func91, Tryz.ntmps91
  go_wp2_with fail
  generalize hW : World.alloc _ _ = W
  have HA : Hid (Blk w.heap.size #[.int .i64 7, .string buf, .string he, .string fr, .string bo, (.slice (some ⟨g1, 0, none⟩) R.length k1), .int .i64 (nx : Int), (.slice (some ⟨g2, 0, none⟩) R.length k2), (.slice (some ⟨g3, 0, none⟩) R.length k3)] W) := by show Blk _ _ _; rw [← hW]; exact ((blk3 w _ _ _ _ _ _).1).below (below1 _ _)
  have HR : Hid (Blk (w.heap.size + 1) #[.int .i64 (c : Int), v] W) := by show Blk _ _ _; rw [← hW]; exact ((blk3 w _ _ _ _ _ _).2.1).below (below1 _ _)
  have HZ : Hid (SB (w.heap.size + 1 + 1) sn0 (.slice none 0 0) (.slice none 0 0) (.slice none 0 0) W) := by show SB _ _ _ _ _ _; rw [← hW]; exact ((blk3 w _ _ _ _ _ _).2.2).below (below1 _ _)
  have b0 : Below w.heap.size w W := by rw [← hW]; exact (below3 _ _ _ _).trans ((below1 _ _).mono (by simp; omega))
  have z0 : w.heap.size + 3 ≤ W.heap.size := by rw [← hW]; simp
  clear hW
  obtain ⟨t0, t1, t2, t3, t4, t5, t6, t7, t8⟩ : W.cell? ⟨w.heap.size, 0, none⟩ = some (.int .i64 7) ∧ W.cell? ⟨w.heap.size, 1, none⟩ = some (.string buf) ∧ W.cell? ⟨w.heap.size, 2, none⟩ = some (.string he) ∧ W.cell? ⟨w.heap.size, 3, none⟩ = some (.string fr) ∧ W.cell? ⟨w.heap.size, 4, none⟩ = some (.string bo) ∧ W.cell? ⟨w.heap.size, 5, none⟩ = some ((.slice (some ⟨g1, 0, none⟩) R.length k1)) ∧ W.cell? ⟨w.heap.size, 6, none⟩ = some (.int .i64 (nx : Int)) ∧ W.cell? ⟨w.heap.size, 7, none⟩ = some ((.slice (some ⟨g2, 0, none⟩) R.length k2)) ∧ W.cell? ⟨w.heap.size, 8, none⟩ = some ((.slice (some ⟨g3, 0, none⟩) R.length k3)) := ⟨HA.out.cell 0, HA.out.cell 1, HA.out.cell 2, HA.out.cell 3, HA.out.cell 4, HA.out.cell 5, HA.out.cell 6, HA.out.cell 7, HA.out.cell 8⟩
  have s0 : W.cell? ⟨w.heap.size + 1, 0, none⟩ = some (.int .i64 (c : Int)) := HR.out.cell 0
  have s1 : W.cell? ⟨w.heap.size + 1, 1, none⟩ = some v := HR.out.cell 1
  go_region_with (first | (go_at_call 123; refine (specNo c v L lo2 _ (strs_below HSt.out (b0.trans (by repeat (first | exact Below.refl _ _ | refine Below.drew ?_))) (Nat.le_refl _)) HL1.out).mono ?_; rintro e w7 ⟨rfl, hb7⟩; have HB7 : Hid (Below W.heap.size W w7) := ((Below.refl W.heap.size W).drew).trans hb7; have HA7 : Hid (Blk w.heap.size #[.int .i64 7, .string buf, .string he, .string fr, .string bo, (.slice (some ⟨g1, 0, none⟩) R.length k1), .int .i64 (nx : Int), (.slice (some ⟨g2, 0, none⟩) R.length k2), (.slice (some ⟨g3, 0, none⟩) R.length k3)] w7) := Blk.below HA.out HB7.out; have HR7 : Hid (Blk (w.heap.size + 1) #[.int .i64 (c : Int), v] w7) := Blk.below HR.out HB7.out; obtain ⟨j0, j1, j2, j3, j4, j5, j6, j7, j8⟩ : w7.cell? ⟨w.heap.size, 0, none⟩ = some (.int .i64 7) ∧ w7.cell? ⟨w.heap.size, 1, none⟩ = some (.string buf) ∧ w7.cell? ⟨w.heap.size, 2, none⟩ = some (.string he) ∧ w7.cell? ⟨w.heap.size, 3, none⟩ = some (.string fr) ∧ w7.cell? ⟨w.heap.size, 4, none⟩ = some (.string bo) ∧ w7.cell? ⟨w.heap.size, 5, none⟩ = some ((.slice (some ⟨g1, 0, none⟩) R.length k1)) ∧ w7.cell? ⟨w.heap.size, 6, none⟩ = some (.int .i64 (nx : Int)) ∧ w7.cell? ⟨w.heap.size, 7, none⟩ = some ((.slice (some ⟨g2, 0, none⟩) R.length k2)) ∧ w7.cell? ⟨w.heap.size, 8, none⟩ = some ((.slice (some ⟨g3, 0, none⟩) R.length k3)) := ⟨HA7.out.cell 0, HA7.out.cell 1, HA7.out.cell 2, HA7.out.cell 3, HA7.out.cell 4, HA7.out.cell 5, HA7.out.cell 6, HA7.out.cell 7, HA7.out.cell 8⟩; have o0 : w7.cell? ⟨w.heap.size + 1, 0, none⟩ = some (.int .i64 (c : Int)) := HR7.out.cell 0; have o1 : w7.cell? ⟨w.heap.size + 1, 1, none⟩ = some v := HR7.out.cell 1; clear hb7) | (go_at_call 126; refine (specQuit (⟨7, buf, he, fr, bo, R, nx, T, V⟩ : Sn) (refV c (L.getD 0 ⟨#[]⟩)) _ _ _ lo _ HK.out (H.out.below (b0.trans (HB7.out.mono b0.size)) (Nat.le_refl _))).mono ?_; rintro e w8 ⟨⟨v1, v2, v3, rfl, S8⟩, hb8⟩; obtain ⟨p4, p5, p6, q4, q5, q6, y4, y5, y6⟩ : ∃ p4 p5 p6 q4 q5 q6, v1 = .slice (some ⟨p4, 0, none⟩) R.length q4 ∧ v2 = .slice (some ⟨p5, 0, none⟩) R.length q5 ∧ v3 = .slice (some ⟨p6, 0, none⟩) R.length q6 := S8.someW ⟨by first | exact HK.out.t | (show (_ : List Bool).length = _; exact HK.out.t), by first | exact HK.out.v | exact (decV_len _ _).trans HK.out.v, HK.out.r1, HK.out.r20⟩; subst y4; subst y5; subst y6; have HB8 : Hid (Below W.heap.size W w8) := HB7.out.trans (hb8.mono HB7.out.size); have HZ8 : Hid (SB (w.heap.size + 1 + 1) sn0 (.slice none 0 0) (.slice none 0 0) (.slice none 0 0) w8) := SB.below HZ.out HB8.out; obtain ⟨r0, r1, r2, r3, r4, r5, r6, r7, r8⟩ := HZ8.out.zero; obtain ⟨rf0, rf1, rf2, rf3, rf4, rf5, rf6, rf7, rf8⟩ := HZ8.out.frees; have zl : w.heap.size + 1 + 1 < w8.heap.size := HZ8.out.lt; have HS8 : Hid (SV w8 w7.heap.size (.slice (some ⟨p4, 0, none⟩) R.length q4) (.slice (some ⟨p5, 0, none⟩) R.length q5) (.slice (some ⟨p6, 0, none⟩) R.length q6) (((⟨7, buf, he, fr, bo, R, nx, T, V⟩ : Sn).quit (refV c (L.getD 0 ⟨#[]⟩))).1)) := S8; clear S8 hb8))
  all_goals
    have b8 : Below w.heap.size w w8 := b0.trans (HB8.out.mono b0.size)
    have z8 : w.heap.size + 1 + 1 < w7.heap.size := Nat.lt_of_lt_of_le (Nat.lt_of_lt_of_le (by omega) z0) HB7.out.size
    dsimp only [Sn.to, Sn.dec, Sn.quit]
    go_wp2
    refine bodyPost_ret (v := .tuple #[.agg #[.int .i64 8, .string buf, .string he, .string fr, .string bo, (.slice (some ⟨p4, 0, none⟩) R.length q4), .int .i64 (nx : Int), (.slice (some ⟨p5, 0, none⟩) R.length q5), (.slice (some ⟨p6, 0, none⟩) R.length q6)], .string tQuit]) (by simp [results, Tryz.results91, go_sem, r0, r1, r2, r3, r4, r5, r6, r7, r8, tQuit]) rfl ?_
    exact ⟨⟨_, _, _, rfl, (HS8.out.nine (b := w.heap.size + 1 + 1) z8 _ _ _ _ _ _ _ _ _).le (by omega)⟩, below_nine b8 (by omega) _ _ _ _ _ _ _ _ _⟩

set_option maxHeartbeats 4000000 in
set_option maxRecDepth 100000 in
theorem takeE2 (buf he fr bo : ByteArray) (R : List ByteArray) (nx : Nat) (T : List Bool) (V : List Vd) (c : Nat) (v : Value) (L : List ByteArray) (u1 u2 u3 : Value) (lo lo2 : Nat) (w : World) (hk : (⟨2, buf, he, fr, bo, R, nx, T, V⟩ : Sn).Ok) (h : SV w lo u1 u2 u3 (⟨2, buf, he, fr, bo, R, nx, T, V⟩ : Sn)) (hS : Strs w lo2 v L) (h1 : 1 ≤ L.length) (hsz : ∀ x ∈ L, x.size ≤ 1048576) (hb250 : ((c : Int) == 250) = false) (hb421 : ((c : Int) == 421) = false) (h5 : c < 500) :
    Calls Tryz.prog 91 #[.agg #[.int .i64 2, .string buf, .string he, .string fr, .string bo, u1, .int .i64 (nx : Int), u2, u3], .agg #[.int .i64 (c : Int), v]] w fun e w' => SQ ((⟨2, buf, he, fr, bo, R, nx, T, V⟩ : Sn).quit (refV c (L.getD 0 ⟨#[]⟩))) w e w' := by
  have H : Hid (SV w lo u1 u2 u3 (⟨2, buf, he, fr, bo, R, nx, T, V⟩ : Sn)) := h
  have HK : Hid (⟨2, buf, he, fr, bo, R, nx, T, V⟩ : Sn).Ok := hk
  have HSt : Hid (Strs w lo2 v L) := hS
  have HL1 : Hid (1 ≤ L.length) := h1
  have HLs : Hid (∀ x ∈ L, x.size ≤ 1048576) := hsz
  have hhe : he.size ≤ 1048576 := by have := hk.he; dsimp only at this; omega
  have hfr : fr.size ≤ 1048576 := by have := hk.fr; dsimp only at this; omega
  have hbo : bo.size ≤ 1048576 := by have := hk.bo; dsimp only at this; omega
  obtain ⟨g1, g2, g3, k1, k2, k3, y1, y2, y3⟩ : ∃ g1 g2 g3 k1 k2 k3, u1 = .slice (some ⟨g1, 0, none⟩) R.length k1 ∧ u2 = .slice (some ⟨g2, 0, none⟩) R.length k2 ∧ u3 = .slice (some ⟨g3, 0, none⟩) R.length k3 := h.some hk
  subst y1
  subst y2
  subst y3
  clear h hk hS h1 hsz
  go_enter Tryz.func91, Tryz.ntmps91
  go_wp2_with fail
  generalize hW : World.alloc _ _ = W
  have HA : Hid (Blk w.heap.size #[.int .i64 2, .string buf, .string he, .string fr, .string bo, (.slice (some ⟨g1, 0, none⟩) R.length k1), .int .i64 (nx : Int), (.slice (some ⟨g2, 0, none⟩) R.length k2), (.slice (some ⟨g3, 0, none⟩) R.length k3)] W) := by show Blk _ _ _; rw [← hW]; exact ((blk3 w _ _ _ _ _ _).1).below (below1 _ _)
  have HR : Hid (Blk (w.heap.size + 1) #[.int .i64 (c : Int), v] W) := by show Blk _ _ _; rw [← hW]; exact ((blk3 w _ _ _ _ _ _).2.1).below (below1 _ _)
  have HZ : Hid (SB (w.heap.size + 1 + 1) sn0 (.slice none 0 0) (.slice none 0 0) (.slice none 0 0) W) := by show SB _ _ _ _ _ _; rw [← hW]; exact ((blk3 w _ _ _ _ _ _).2.2).below (below1 _ _)
  have b0 : Below w.heap.size w W := by rw [← hW]; exact (below3 _ _ _ _).trans ((below1 _ _).mono (by simp; omega))
  have z0 : w.heap.size + 3 ≤ W.heap.size := by rw [← hW]; simp
  clear hW
  obtain ⟨t0, t1, t2, t3, t4, t5, t6, t7, t8⟩ : W.cell? ⟨w.heap.size, 0, none⟩ = some (.int .i64 2) ∧ W.cell? ⟨w.heap.size, 1, none⟩ = some (.string buf) ∧ W.cell? ⟨w.heap.size, 2, none⟩ = some (.string he) ∧ W.cell? ⟨w.heap.size, 3, none⟩ = some (.string fr) ∧ W.cell? ⟨w.heap.size, 4, none⟩ = some (.string bo) ∧ W.cell? ⟨w.heap.size, 5, none⟩ = some ((.slice (some ⟨g1, 0, none⟩) R.length k1)) ∧ W.cell? ⟨w.heap.size, 6, none⟩ = some (.int .i64 (nx : Int)) ∧ W.cell? ⟨w.heap.size, 7, none⟩ = some ((.slice (some ⟨g2, 0, none⟩) R.length k2)) ∧ W.cell? ⟨w.heap.size, 8, none⟩ = some ((.slice (some ⟨g3, 0, none⟩) R.length k3)) := ⟨HA.out.cell 0, HA.out.cell 1, HA.out.cell 2, HA.out.cell 3, HA.out.cell 4, HA.out.cell 5, HA.out.cell 6, HA.out.cell 7, HA.out.cell 8⟩
  have s0 : W.cell? ⟨w.heap.size + 1, 0, none⟩ = some (.int .i64 (c : Int)) := HR.out.cell 0
  have s1 : W.cell? ⟨w.heap.size + 1, 1, none⟩ = some v := HR.out.cell 1
  go_region_with (first | (go_at_call 123; refine (specNo c v L lo2 _ (strs_below HSt.out (b0.trans (by repeat (first | exact Below.refl _ _ | refine Below.drew ?_))) (Nat.le_refl _)) HL1.out).mono ?_; rintro e w7 ⟨rfl, hb7⟩; have HB7 : Hid (Below W.heap.size W w7) := ((Below.refl W.heap.size W).drew).trans hb7; have HA7 : Hid (Blk w.heap.size #[.int .i64 2, .string buf, .string he, .string fr, .string bo, (.slice (some ⟨g1, 0, none⟩) R.length k1), .int .i64 (nx : Int), (.slice (some ⟨g2, 0, none⟩) R.length k2), (.slice (some ⟨g3, 0, none⟩) R.length k3)] w7) := Blk.below HA.out HB7.out; have HR7 : Hid (Blk (w.heap.size + 1) #[.int .i64 (c : Int), v] w7) := Blk.below HR.out HB7.out; obtain ⟨j0, j1, j2, j3, j4, j5, j6, j7, j8⟩ : w7.cell? ⟨w.heap.size, 0, none⟩ = some (.int .i64 2) ∧ w7.cell? ⟨w.heap.size, 1, none⟩ = some (.string buf) ∧ w7.cell? ⟨w.heap.size, 2, none⟩ = some (.string he) ∧ w7.cell? ⟨w.heap.size, 3, none⟩ = some (.string fr) ∧ w7.cell? ⟨w.heap.size, 4, none⟩ = some (.string bo) ∧ w7.cell? ⟨w.heap.size, 5, none⟩ = some ((.slice (some ⟨g1, 0, none⟩) R.length k1)) ∧ w7.cell? ⟨w.heap.size, 6, none⟩ = some (.int .i64 (nx : Int)) ∧ w7.cell? ⟨w.heap.size, 7, none⟩ = some ((.slice (some ⟨g2, 0, none⟩) R.length k2)) ∧ w7.cell? ⟨w.heap.size, 8, none⟩ = some ((.slice (some ⟨g3, 0, none⟩) R.length k3)) := ⟨HA7.out.cell 0, HA7.out.cell 1, HA7.out.cell 2, HA7.out.cell 3, HA7.out.cell 4, HA7.out.cell 5, HA7.out.cell 6, HA7.out.cell 7, HA7.out.cell 8⟩; have o0 : w7.cell? ⟨w.heap.size + 1, 0, none⟩ = some (.int .i64 (c : Int)) := HR7.out.cell 0; have o1 : w7.cell? ⟨w.heap.size + 1, 1, none⟩ = some v := HR7.out.cell 1; clear hb7) | (go_at_call 126; refine (specQuit (⟨2, buf, he, fr, bo, R, nx, T, V⟩ : Sn) (refV c (L.getD 0 ⟨#[]⟩)) _ _ _ lo _ HK.out (H.out.below (b0.trans (HB7.out.mono b0.size)) (Nat.le_refl _))).mono ?_; rintro e w8 ⟨⟨v1, v2, v3, rfl, S8⟩, hb8⟩; obtain ⟨p4, p5, p6, q4, q5, q6, y4, y5, y6⟩ : ∃ p4 p5 p6 q4 q5 q6, v1 = .slice (some ⟨p4, 0, none⟩) R.length q4 ∧ v2 = .slice (some ⟨p5, 0, none⟩) R.length q5 ∧ v3 = .slice (some ⟨p6, 0, none⟩) R.length q6 := S8.someW ⟨by first | exact HK.out.t | (show (_ : List Bool).length = _; exact HK.out.t), by first | exact HK.out.v | exact (decV_len _ _).trans HK.out.v, HK.out.r1, HK.out.r20⟩; subst y4; subst y5; subst y6; have HB8 : Hid (Below W.heap.size W w8) := HB7.out.trans (hb8.mono HB7.out.size); have HZ8 : Hid (SB (w.heap.size + 1 + 1) sn0 (.slice none 0 0) (.slice none 0 0) (.slice none 0 0) w8) := SB.below HZ.out HB8.out; obtain ⟨r0, r1, r2, r3, r4, r5, r6, r7, r8⟩ := HZ8.out.zero; obtain ⟨rf0, rf1, rf2, rf3, rf4, rf5, rf6, rf7, rf8⟩ := HZ8.out.frees; have zl : w.heap.size + 1 + 1 < w8.heap.size := HZ8.out.lt; have HS8 : Hid (SV w8 w7.heap.size (.slice (some ⟨p4, 0, none⟩) R.length q4) (.slice (some ⟨p5, 0, none⟩) R.length q5) (.slice (some ⟨p6, 0, none⟩) R.length q6) (((⟨2, buf, he, fr, bo, R, nx, T, V⟩ : Sn).quit (refV c (L.getD 0 ⟨#[]⟩))).1)) := S8; clear S8 hb8))
  all_goals
    have b8 : Below w.heap.size w w8 := b0.trans (HB8.out.mono b0.size)
    have z8 : w.heap.size + 1 + 1 < w7.heap.size := Nat.lt_of_lt_of_le (Nat.lt_of_lt_of_le (by omega) z0) HB7.out.size
    dsimp only [Sn.to, Sn.dec, Sn.quit]
    go_wp2
    refine bodyPost_ret (v := .tuple #[.agg #[.int .i64 8, .string buf, .string he, .string fr, .string bo, (.slice (some ⟨p4, 0, none⟩) R.length q4), .int .i64 (nx : Int), (.slice (some ⟨p5, 0, none⟩) R.length q5), (.slice (some ⟨p6, 0, none⟩) R.length q6)], .string tQuit]) (by simp [results, Tryz.results91, go_sem, r0, r1, r2, r3, r4, r5, r6, r7, r8, tQuit]) rfl ?_
    exact ⟨⟨_, _, _, rfl, (HS8.out.nine (b := w.heap.size + 1 + 1) z8 _ _ _ _ _ _ _ _ _).le (by omega)⟩, below_nine b8 (by omega) _ _ _ _ _ _ _ _ _⟩
end Go.Proofs.YtngcjlghjidnjaaGreatDoor
