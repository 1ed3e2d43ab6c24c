import Derived.Test.YtngcjlghjidnjaaGreatDoorMg5
namespace Go.Proofs.YtngcjlghjidnjaaGreatDoor
open Go.ChangeShapes Go.WideShapes Go.ChangeAt Go.RowKit
open Pcs

set_option maxHeartbeats 1000000 in
set_option maxRecDepth 100000 in
theorem implDigits (s : ByteArray) (w : World) (hs : s.size ≤ 1048576) :
    Calls Tryz.prog 157 #[.string s] w fun e w' => e = .returned (.bool (okAll digN s)) ∧ w' = w := by
  go_enter Tryz.func157, Tryz.ntmps157
  go_wp2
  go_loop [6] (fun i => ∃ k : Nat, k ≤ s.size ∧ i = .int .i64 k ∧ Hid (∀ j, j < k → digN (byteOf s j) = true)) (fun i => s.size - (intOf i).toNat)
  case atStart => exact ⟨0, Nat.zero_le _, rfl, fun j h => absurd h (Nat.not_lt_zero _)⟩
  case round =>
    obtain ⟨k, hk, rfl, HA⟩ := hrel
    by_cases hlt : k < s.size
    · have HB : Hid (byteOf s k = s[k].toNat) := byteOf_eq s k hlt
      cases hd : digN s[k].toNat with
      | true =>
        have G : Hid (∀ j, j < k + 1 → digN (byteOf s j) = true) := by
          intro j hj
          rcases Nat.lt_succ_iff_lt_or_eq.1 hj with hj | rfl
          · exact HA.out j hj
          · rw [HB.out]; exact hd
        go_wp2_with (go_at_call 136; refine (implDigit _ _).mono ?_; rintro e w' ⟨rfl, rfl⟩; rw [hd])
        go_round
        case rel => exact ⟨k + 1, by omega, by go_num, G.out⟩
        case measure => simp [intOf]; omega
      | false =>
        have G : Hid (okAll digN s = false) := okAll_false hlt (by rw [HB.out]; exact hd)
        go_wp2_with (go_at_call 136; refine (implDigit _ _).mono ?_; rintro e w' ⟨rfl, rfl⟩; rw [hd])
        go_ret
        exact ⟨ret_bool G.out.symm, rfl⟩
    · go_wp2
      go_ret
      exact ⟨ret_bool (okAll_true fun j hj => HA.out j (by omega)).symm, rfl⟩

/-- what the first k digits stand for -/
def numN (s : ByteArray) : Nat → Nat
  | 0 => 0
  | k + 1 => numN s k * 10 + (byteOf s k - 48)
theorem numN_lt {s : ByteArray} : ∀ {k : Nat}, k ≤ s.size → okAll digN s = true → numN s k < 10 ^ k
  | 0, _, _ => by simp [numN]
  | k + 1, hk, h => by
    have h1 := numN_lt (s := s) (k := k) (by omega) h
    have h2 := List.all_eq_true.1 h k (List.mem_range.2 (by omega))
    simp only [digN, Bool.and_eq_true, decide_eq_true_eq] at h2
    rw [numN, Nat.pow_succ]; omega

set_option maxHeartbeats 1000000 in
set_option maxRecDepth 100000 in
theorem implNumber (s : ByteArray) (w : World) (hs : s.size ≤ 10) (hd : okAll digN s = true) :
    Calls Tryz.prog 111 #[.string s] w fun e w' => e = .returned (.int .i64 (numN s s.size)) ∧ w' = w := by
  have HD : Hid (okAll digN s = true) := hd
  clear hd
  go_enter Tryz.func111, Tryz.ntmps111
  go_wp2
  go_loop [3, 7] (fun nv i => ∃ k : Nat, k ≤ s.size ∧ i = .int .i64 k ∧ nv = .int .i64 (numN s k)) (fun _ i => s.size - (intOf i).toNat)
  case atStart => exact ⟨0, Nat.zero_le _, rfl, rfl⟩
  case round =>
    obtain ⟨k, hk, rfl, rfl⟩ := hrel
    have hn : numN s k < 10 ^ k := numN_lt hk HD.out
    have hp : 10 ^ k ≤ 10 ^ 10 := Nat.pow_le_pow_right (by decide) (by omega)
    have hn2 : numN s k < 10000000000 := Nat.lt_of_lt_of_le hn hp
    clear hp
    by_cases hlt : k < s.size
    · have HB : Hid (byteOf s k = s[k].toNat) := byteOf_eq s k hlt
      have h2 := List.all_eq_true.1 HD.out k (List.mem_range.2 hlt)
      rw [HB.out] at h2
      simp only [digN, Bool.and_eq_true, decide_eq_true_eq] at h2
      obtain ⟨g1, g2⟩ := h2
      have g3 : (48 : Int) ≤ s[k].toNat := by omega
      have g4 : (s[k].toNat : Int) ≤ 57 := by omega
      go_wp2
      go_round
      case rel => exact ⟨k + 1, by omega, by go_num, by rw [numN, HB.out]; go_num⟩
      case measure => simp [intOf]; omega
    · obtain rfl : k = s.size := by omega
      go_wp2
      go_ret
      exact ⟨rfl, rfl⟩
end Go.Proofs.YtngcjlghjidnjaaGreatDoor
namespace Go.Proofs.YtngcjlghjidnjaaGreatDoor
open Go.ChangeShapes Go.WideShapes Go.ChangeAt Go.RowKit
open Pcs

set_option maxHeartbeats 1000000 in
set_option maxRecDepth 100000 in
theorem implText (c : ByteArray) (w : World) (hs : c.size ≤ 1048576) :
    Calls Tryz.prog 110 #[.string c] w fun e w' => e = .returned (.string (textB c)) ∧ w' = w := by
  unfold textB
  by_cases h : 4 ≤ c.size
  · have hmi : min (4 : Int) (c.size : Int) = 4 := by omega
    rw [Nat.min_eq_left h]
    have h4 : (4 : Int) ≤ c.size := by omega
    go_enter Tryz.func110, Tryz.ntmps110
    go_wp2
    go_ret
    exact ⟨rfl, rfl⟩
  · have hmi : min (4 : Int) (c.size : Int) = c.size := by omega
    rw [Nat.min_eq_right (by omega)]
    have h4 : (c.size : Int) ≤ 4 := by omega
    go_enter Tryz.func110, Tryz.ntmps110
    go_wp2
    go_ret
    exact ⟨ret_str (by simp), rfl⟩

theorem more_long {r : ByteArray} (h : 512 ≤ r.size) : moreN r = false := by
  unfold moreN; rw [decide_eq_false (by omega)]; rfl
set_option maxHeartbeats 1000000 in
set_option maxRecDepth 100000 in
theorem implMore (r : ByteArray) (w : World) (hs : r.size ≤ 1048576) :
    Calls Tryz.prog 138 #[.string r] w fun e w' => e = .returned (.bool (moreN r)) ∧ Below w.heap.size w w' := by
  by_cases h : 512 ≤ r.size
  · have G0 : Hid (moreN r = false) := more_long h
    go_enter Tryz.func138, Tryz.ntmps138
    go_wp2
    go_ret
    exact ⟨ret_bool G0.out.symm, Below.refl _ _⟩
  · obtain ⟨X, HX⟩ : ∃ X, Hid (mk (Lib.trimSuffix r.data.toList [13]) = X) := ⟨mk (Lib.trimSuffix r.data.toList [13]), rfl⟩
    have hX : X.size ≤ 1048576 := by
      rw [← HX.out, mk_size]
      have := Lib.trimSuffix_le r.data.toList [13]
      rw [← Lib.size_eq] at this; omega
    have trim : ∀ wx, Calls Tryz.prog 156 #[.string r, .string ⟨#[13]⟩] wx fun e w' => e = .returned (.string X) ∧ w' = wx := by
      intro wx; rw [← HX.out]; exact Any.strings_TrimSuffix Tryz.lays102 r ⟨#[13]⟩ wx (by omega)
    have G : Hid (moreN r = !brkN X) := by
      show _ = _
      unfold moreN
      rw [decide_eq_true (by omega), HX.out]; rfl
    go_enter Tryz.func138, Tryz.ntmps138
    go_wp2_with (first
      | (go_at_call 156; refine (trim _).mono ?_; rintro e w' ⟨rfl, hw⟩; rw [hw])
      | (go_at_call 95; refine (implBreak _ _ hX).mono ?_; rintro e w2 ⟨rfl, hb2⟩))
    go_ret
    exact ⟨ret_bool G.out.symm, hb2⟩

theorem byte_ex (c : ByteArray) (k : Nat) (h : k < 3) (h3 : 3 ≤ c.size) : byteOf (c.extract 0 3) k = byteOf c k := by
  have hk : k < (c.extract 0 3).size := by rw [ByteArray.size_extract]; omega
  rw [byteOf_eq _ k hk, byteOf_eq c k (by omega)]
  congr 1
  rw [ByteArray.getElem_extract]; simp
theorem dig3 {c : ByteArray} (h3 : 3 ≤ c.size) : okAll digN (c.extract 0 3) = (digN (byteOf c 0) && (digN (byteOf c 1) && digN (byteOf c 2))) := by
  have hsz : (c.extract 0 3).size = 3 := by rw [ByteArray.size_extract]; omega
  unfold okAll
  rw [hsz]
  show (List.range 3).all _ = _
  simp only [show List.range 3 = [0, 1, 2] from rfl, List.all_cons, List.all_nil, Bool.and_true]
  rw [byte_ex c 0 (by decide) h3, byte_ex c 1 (by decide) h3, byte_ex c 2 (by decide) h3]
theorem lineR_rest {c : ByteArray} (h1 : c.size ≤ 510) (h2 : brkN c = false) (h3 : 3 ≤ c.size) :
    lineR c = (okAll digN (c.extract 0 3) && (decide (50 ≤ byteOf c 0) && (decide (byteOf c 0 ≤ 53) && (decide (c.size = 3) || (byteOf c 3 == 32 || byteOf c 3 == 45))))) := by
  unfold lineR
  rw [decide_eq_true h1, h2, decide_eq_true h3, dig3 h3]
  simp only [Bool.not_false, Bool.true_and, Bool.and_assoc]
theorem lineR_long {c : ByteArray} (h : 510 < c.size) : lineR c = false := by
  unfold lineR; rw [decide_eq_false (by omega)]; rfl
theorem lineR_brk {c : ByteArray} (h : brkN c = true) : lineR c = false := by
  unfold lineR; rw [h]; simp
theorem lineR_short {c : ByteArray} (h : c.size < 3) : lineR c = false := by
  unfold lineR; rw [decide_eq_false (p := 3 ≤ c.size) (by omega)]; simp
end Go.Proofs.YtngcjlghjidnjaaGreatDoor
namespace Go.Proofs.YtngcjlghjidnjaaGreatDoor
open Go.ChangeShapes Go.WideShapes Go.ChangeAt Go.RowKit
open Pcs

set_option maxHeartbeats 4000000 in
set_option maxRecDepth 100000 in
theorem implRight (c : ByteArray) (w : World) (hs : c.size ≤ 1048576) :
    Calls Tryz.prog 139 #[.string c] w fun e w' => e = .returned (.bool (lineR c)) ∧ Below w.heap.size w w' := by
  by_cases h510 : 510 < c.size
  · have G : Hid (lineR c = false) := lineR_long h510
    go_enter Tryz.func139, Tryz.ntmps139
    go_wp2
    go_ret
    exact ⟨ret_bool G.out.symm, Below.refl _ _⟩
  · go_enter Tryz.func139, Tryz.ntmps139
    go_wp2_with fail
    refine (implBreak _ _ hs).mono ?_
    rintro e w2 ⟨rfl, hb2⟩
    cases hbr : brkN c with
    | true =>
      have G : Hid (lineR c = false) := lineR_brk hbr
      clear hbr
      go_wp2
      go_ret
      exact ⟨ret_bool G.out.symm, hb2⟩
    | false =>
      by_cases h3 : c.size < 3
      · have G : Hid (lineR c = false) := lineR_short h3
        clear hbr
        go_wp2
        go_ret
        exact ⟨ret_bool G.out.symm, hb2⟩
      · have E : Hid (lineR c = (okAll digN (c.extract 0 3) && (decide (50 ≤ byteOf c 0) && (decide (byteOf c 0 ≤ 53) && (decide (c.size = 3) || (byteOf c 3 == 32 || byteOf c 3 == 45)))))) := lineR_rest (c := c) (by omega) hbr (by omega)
        clear hbr
        have h3i : (3 : Int) ≤ c.size := by omega
        have hx3 : (c.extract 0 3).size ≤ 1048576 := by rw [ByteArray.size_extract]; omega
        go_wp2_with fail
        generalize c.extract 0 3 = X at *
        refine (implDigits _ _ hx3).mono ?_
        rintro e w' ⟨rfl, hw⟩
        rw [hw]
        clear hw
        cases hdg : okAll digN X with
        | false =>
          have G : Hid (lineR c = false) := by show _ = _; rw [E.out, hdg]; rfl
          clear hdg E
          go_wp2
          go_ret
          exact ⟨ret_bool G.out.symm, hb2⟩
        | true =>
          have h0 : 0 < c.size := by omega
          have h0i : (0 : Int) < c.size := by omega
          have B0 := byteOf_eq c 0 h0
          have E1 : Hid (lineR c = (decide (50 ≤ byteOf c 0) && (decide (byteOf c 0 ≤ 53) && (decide (c.size = 3) || (byteOf c 3 == 32 || byteOf c 3 == 45))))) := by
            show _ = _
            rw [E.out, hdg]; rfl
          clear hdg E
          by_cases hlo : ((c[0]'h0).toNat : Int) < 50
          · have G : Hid (lineR c = false) := by show _ = _; rw [E1.out, decide_eq_false (p := 50 ≤ byteOf c 0) (by omega)]; rfl
            clear E1 B0
            go_wp2
            go_ret
            exact ⟨ret_bool G.out.symm, hb2⟩
          · by_cases hhi : (53 : Int) < (c[0]'h0).toNat
            · have G : Hid (lineR c = false) := by show _ = _; rw [E1.out, decide_eq_false (p := byteOf c 0 ≤ 53) (by omega)]; simp
              clear E1 B0
              go_wp2
              go_ret
              exact ⟨ret_bool G.out.symm, hb2⟩
            · have E2 : Hid (lineR c = (decide (c.size = 3) || (byteOf c 3 == 32 || byteOf c 3 == 45))) := by
                show _ = _
                rw [E1.out, decide_eq_true (p := 50 ≤ byteOf c 0) (by omega), decide_eq_true (p := byteOf c 0 ≤ 53) (by omega)]; simp
              clear E1 B0
              by_cases he3 : (c.size : Int) = 3
              · have G : Hid (lineR c = true) := by show _ = _; rw [E2.out, decide_eq_true (by omega)]; rfl
                clear E2
                go_wp2
                go_ret
                exact ⟨ret_bool G.out.symm, hb2⟩
              · have he3b : ((c.size : Int) == 3) = false := beq_eq_false_iff_ne.2 he3
                have h4 : 3 < c.size := by omega
                have h4i : (3 : Int) < c.size := by omega
                have B3 := byteOf_eq c 3 h4
                by_cases h32 : ((c[3]'h4).toNat : Int) = 32
                · have G : Hid (lineR c = true) := by show _ = _; rw [E2.out, B3, show (c[3]'h4).toNat = 32 by omega]; simp
                  clear E2 B3
                  go_wp2
                  go_ret
                  exact ⟨ret_bool G.out.symm, hb2⟩
                · have h32b : (((c[3]'h4).toNat : Int) == 32) = false := beq_eq_false_iff_ne.2 h32
                  have G : Hid (lineR c = (((c[3]'h4).toNat : Int) == 45)) := by
                    show _ = _
                    rw [E2.out, B3, decide_eq_false (by omega), beq_eq_false_iff_ne.2 (show (c[3]'h4).toNat ≠ 32 by omega), Bool.false_or, Bool.false_or, Bool.eq_iff_iff, beq_iff_eq, beq_iff_eq]
                    omega
                  clear E2 B3
                  go_wp2
                  go_ret
                  exact ⟨ret_bool G.out.symm, hb2⟩
end Go.Proofs.YtngcjlghjidnjaaGreatDoor
