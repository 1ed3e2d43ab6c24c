import Derived.Test.YtncgihalaflpaaaDoorHdM
import Derived.Test.YtncgihalaflpaaaDoorSBod
import Derived.Test.YtncgihalaflpaaaDoorBod
namespace Go.Proofs.YtncgihalaflpaaaDoor
open Go.ChangeShapes Go.WideShapes Go.ChangeAt Go.RowKit
open Pcs

theorem flat_step (L : List ByteArray) (k : Nat) (h : k < L.length) : flatL ((L.take (k + 1)).map (·.data.toList)) = flatL ((L.take k).map (·.data.toList)) ++ (L[k].data.toList ++ [13, 10]) := by
  rw [List.take_add_one, List.getElem?_eq_getElem h]; unfold flatL; simp only [List.map_append, List.flatten_append, Option.toList_some, List.map_cons, List.map_nil, List.flatten_cons, List.flatten_nil, List.append_nil]
theorem flat_cat {A : List UInt8} {O x : ByteArray} (h : O = mk A) : O ++ (x ++ (⟨#[13, 10]⟩ : ByteArray)) = mk (A ++ (x.data.toList ++ [13, 10])) := by
  rw [h, ← mk_data (mk A ++ _), ByteArray.data_append, ByteArray.data_append]; simp [mk]
theorem flat_stuff : ∀ (L : List ByteArray), (flatL (L.map (·.data.toList))).length ≤ (stuffL L).length
  | [] => Nat.le_refl _
  | x :: L => by
    have ih := flat_stuff L
    rw [List.map_cons, flatL_cons, show stuffL (x :: L) = stuffLine x.data.toList ++ stuffL L by simp [stuffL], List.length_append, List.length_append, List.length_append]
    have : (x.data.toList ++ [13, 10]).length ≤ (stuffLine x.data.toList).length := by unfold stuffLine; simp
    rw [List.length_append] at this; omega
theorem flat_len (s : ByteArray) (k : Nat) : (flatL ((((pieces ⟨#[13, 10]⟩ s).dropLast).take k).map (·.data.toList))).length ≤ 4 * s.size + 3 := by
  refine Nat.le_trans (flat_stuff _) ?_
  rw [List.dropLast_eq_take]; exact stuff_len s _ k

set_option maxHeartbeats 2000000 in
set_option maxRecDepth 100000 in
theorem specHeaders (s : ByteArray) (w : World) (hs : s.size ≤ 1048576) :
    Calls Tryd.prog 15 #[.string s] w fun e w' => e = .returned (.string (headB s)) ∧ Below w.heap.size w w' := by
  go_enter Tryd.func15, Tryd.ntmps15
  go_wp2_with fail
  refine (specLines2 s _ hs).mono ?_
  rintro e w1 ⟨⟨v, rfl, HS, HN⟩, hb1⟩
  cases hok : bodyOk s with
  | false =>
    have G : Hid (headB s = ⟨#[]⟩) := head_no hok
    obtain rfl := HN hok
    clear HS HN hok
    go_wp2
    refine wp_loop_rounds 1 ?_; rw [rounds_succ]
    go_wp2
    go_ret
    exact ⟨ret_str G.out.symm, hb1⟩
  | true =>
    have S1 := HS hok
    have hll : (pieces ⟨#[13, 10]⟩ s).dropLast.length ≤ s.size := by
      have := pieces_len ⟨#[13, 10]⟩ s
      rw [List.length_dropLast]; omega
    have G : Hid (∀ L, (pieces ⟨#[13, 10]⟩ s).dropLast = L → headB s = mk (hdrL (L.map (·.data.toList)))) := fun L hL => head_ok hok hL
    have HSZ : Hid (∀ x ∈ (pieces ⟨#[13, 10]⟩ s).dropLast, x.size ≤ 1048576) := fun x hx => Nat.le_trans (pieces_size (List.dropLast_subset _ hx)) hs
    have HLEN : Hid (∀ k, (flatL (((pieces ⟨#[13, 10]⟩ s).dropLast.take k).map (·.data.toList))).length ≤ 8388608) := fun k => by
      have := flat_len s k
      omega
    clear HS HN hok
    generalize hLE : (pieces ⟨#[13, 10]⟩ s).dropLast = L at *
    have HG : Hid (headB s = mk (hdrL (L.map (·.data.toList)))) := G.out L rfl
    clear G hLE
    rcases S1.cases with ⟨rfl, rfl⟩ | ⟨g, cap, rfl, A1⟩
    · go_wp2
      refine wp_loop_rounds 1 ?_; rw [rounds_succ]
      go_wp2
      go_ret
      exact ⟨ret_str HG.out.symm, hb1⟩
    · have hcap := A1.cap
      have hlc := A1.len
      unfold maxLen at hcap
      have CELL : Hid (∀ i (hi : i < L.length), w1.cell? ⟨g, i, none⟩ = some (.string L[i])) := A1.cell
      clear A1 S1
      go_wp2
      go_loopw [5, 15] (fun ov iv wr => ∃ (k : Nat) (O : ByteArray), k ≤ L.length ∧ iv = .int .i64 k ∧ ov = .string O ∧ Hid (O = mk (flatL ((L.take k).map (·.data.toList)))) ∧ Hid (∀ j (h : j < L.length), j < k → L[j].data.toList ≠ []) ∧ wr = w1) (fun _ iv _ => L.length - (intOf iv).toNat)
      case atStart => exact ⟨0, ⟨#[]⟩, Nat.zero_le _, rfl, rfl, rfl, fun j _ h => absurd h (Nat.not_lt_zero _), rfl⟩
      case round =>
        obtain ⟨k, O, hk, rfl, rfl, HO, HA, rfl⟩ := hrel
        have hO : O.size ≤ 8388608 := by
          have := HLEN.out k
          rw [HO.out, mk_size]; exact this
        by_cases hlt : k < L.length
        · have ec := CELL.out k hlt
          have hx := HSZ.out _ (List.getElem_mem hlt)
          have HST := flat_step L k hlt
          have HST2 : Hid (flatL ((L.take (k + 1)).map (·.data.toList)) = flatL ((L.take k).map (·.data.toList)) ++ (L[k].data.toList ++ [13, 10])) := HST
          have HB : Hid (L[k].data.toList ≠ [] → ∀ j (h : j < L.length), j < k + 1 → L[j].data.toList ≠ []) := by
            intro h1 j h hj
            rcases Nat.lt_succ_iff_lt_or_eq.1 hj with hj | rfl
            · exact HA.out j h hj
            · exact h1
          have HE : Hid (L[k].data.toList = [] → headB s = O) := fun h => by
            rw [HG.out, HO.out]
            congr 1
            rw [List.map_take]
            exact hdr_stop (fun j hj hjk => by rw [List.getElem_map]; exact HA.out j (by simpa using hj) hjk) (by simpa using hlt) (by rw [List.getElem_map]; exact h)
          clear HST
          generalize L[k] = x at *
          by_cases hx0 : x.size = 0
          · obtain rfl := empty_of hx0
            have G : Hid (O = headB s) := (HE.out rfl).symm
            clear HB HE HST2
            go_wp2
            go_ret
            exact ⟨ret_str G.out, hb1⟩
          · have hne : x.toList.isEmpty = false := list_ne2 hx0
            have HB2 : Hid (∀ j (h : j < L.length), j < k + 1 → L[j].data.toList ≠ []) := HB.out fun e => hx0 (by rw [Lib.size_eq, e]; rfl)
            clear HB HE
            go_wp2
            go_roundw
            case rel => exact ⟨k + 1, _, by omega, by go_num, rfl, by show _ = _; rw [HST2.out]; exact flat_cat HO.out, HB2, by first | rfl | trivial⟩
            case measure => simp [intOf]; omega
        · obtain rfl : k = L.length := by omega
          have HF : Hid (O = headB s) := by
            show _ = _
            have e := HO.out
            rw [List.take_length] at e
            rw [HG.out, e]
            congr 1
            exact (hdr_all fun j hj => by rw [List.getElem_map]; exact HA.out j (by simpa using hj) (by simpa using hj)).symm
          go_wp2
          go_ret
          exact ⟨ret_str HF.out, hb1⟩

set_option maxHeartbeats 2000000 in
set_option maxRecDepth 100000 in
theorem implHeaders (s : ByteArray) (w : World) (hl : LenIn w) (hs : s.size ≤ 1048576) :
    Calls Tryd.prog 16 #[.string s] w fun e w' => e = .returned (.string (headB s)) ∧ Below w.heap.size w w' := by
  have HL : Hid (LenIn w) := hl
  clear hl
  go_enter Tryd.func16, Tryd.ntmps16
  go_wp2_with fail
  refine (implBody s _ HL.out hs).mono ?_
  rintro e w1 ⟨rfl, hb1⟩
  cases hok : bodyOk s with
  | false =>
    have G : Hid (headB s = ⟨#[]⟩) := head_no hok
    clear hok
    go_wp2
    go_ret
    exact ⟨ret_str G.out.symm, hb1⟩
  | true =>
    obtain ⟨m, hm⟩ := len_below HL.out hb1
    have HM : Hid (w1.cell? ⟨0, 0, none⟩ = some (.int .i64 m)) := hm
    have HI : Hid ((Lib.index (13 :: 10 :: s.data.toList) [13, 10, 13, 10] = -1 ∧ headB s = s) ∨ ∃ i : Nat, Lib.index (13 :: 10 :: s.data.toList) [13, 10, 13, 10] = (i : Int) ∧ i ≤ s.size ∧ headB s = s.extract 0 i) := head_idx hok
    clear hm hok
    go_wp2_with fail
    refine (Any.strings_Index Tryd.lays143 _ ⟨#[13, 10, 13, 10]⟩ m _ ?_ HM.out).mono ?_
    · rw [ByteArray.size_append]; show 2 + s.size < _; omega
    rintro e w2 ⟨rfl, rfl⟩
    have e1 : ((⟨#[13, 10]⟩ : ByteArray) ++ s).data.toList = 13 :: 10 :: s.data.toList := by rw [ByteArray.data_append]; simp
    have e2 : (⟨#[13, 10, 13, 10]⟩ : ByteArray).data.toList = [13, 10, 13, 10] := rfl
    rw [e1, e2]
    clear e1 e2
    rcases HI.out with ⟨i1, i2⟩ | ⟨i, i1, i2, i3⟩
    · rw [i1]
      have G : Hid (headB s = s) := i2
      clear i1 i2 HI
      go_wp2
      go_ret
      exact ⟨ret_str G.out.symm, hb1⟩
    · rw [i1]
      have G : Hid (headB s = s.extract 0 i) := i3
      clear i1 i3 HI
      have i2' : (i : Int) ≤ s.size := by omega
      go_wp2
      go_ret
      exact ⟨ret_str G.out.symm, hb1⟩
end Go.Proofs.YtncgihalaflpaaaDoor
