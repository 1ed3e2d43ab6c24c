import Derived.Test.YthblkfdgibonbaaPrs
namespace Go.Proofs.Ythblkfdgibonbaa
open Go.ChangeShapes Go.WideShapes Go.ChangeAt Go.RowKit
open Pcs

set_option maxHeartbeats 4000000 in
set_option maxRecDepth 100000 in
theorem implRight (c : ByteArray) (w : World) (hs : c.size ≤ 1048576) :
    Calls Try.prog 46 #[.string c] w fun e w' => e = .returned (.bool (lineR c)) ∧ Below w.heap.size w w' := by
  by_cases h510 : 510 < c.size
  · have G : Hid (lineR c = false) := lineR_long h510
    go_enter Try.func46, Try.ntmps46
    go_wp2
    go_ret
    exact ⟨ret_bool G.out.symm, Below.refl _ _⟩
  · go_enter Try.func46, Try.ntmps46
    go_wp2_with fail
    refine (implBreak _ _ hs).mono ?_
    rintro e w2 ⟨rfl, hb2⟩
    cases hbr : brkN c with
    | true =>
      have G : Hid (lineR c = false) := lineR_brk hbr
      clear hbr
      go_wp2
      go_ret
      exact ⟨ret_bool G.out.symm, hb2⟩
    | false =>
      by_cases h3 : c.size < 3
      · have G : Hid (lineR c = false) := lineR_short h3
        clear hbr
        go_wp2
        go_ret
        exact ⟨ret_bool G.out.symm, hb2⟩
      · have E : Hid (lineR c = (okAll digN (c.extract 0 3) && (decide (50 ≤ byteOf c 0) && (decide (byteOf c 0 ≤ 53) && (decide (c.size = 3) || (byteOf c 3 == 32 || byteOf c 3 == 45)))))) := lineR_rest (c := c) (by omega) hbr (by omega)
        clear hbr
        have h3i : (3 : Int) ≤ c.size := by omega
        have hx3 : (c.extract 0 3).size ≤ 1048576 := by rw [ByteArray.size_extract]; omega
        go_wp2_with fail
        generalize c.extract 0 3 = X at *
        refine (implDigits _ _ hx3).mono ?_
        rintro e w' ⟨rfl, hw⟩
        rw [hw]
        clear hw
        cases hdg : okAll digN X with
        | false =>
          have G : Hid (lineR c = false) := by show _ = _; rw [E.out, hdg]; rfl
          clear hdg E
          go_wp2
          go_ret
          exact ⟨ret_bool G.out.symm, hb2⟩
        | true =>
          have h0 : 0 < c.size := by omega
          have h0i : (0 : Int) < c.size := by omega
          have B0 := byteOf_eq c 0 h0
          have E1 : Hid (lineR c = (decide (50 ≤ byteOf c 0) && (decide (byteOf c 0 ≤ 53) && (decide (c.size = 3) || (byteOf c 3 == 32 || byteOf c 3 == 45))))) := by
            show _ = _
            rw [E.out, hdg]; rfl
          clear hdg E
          by_cases hlo : ((c[0]'h0).toNat : Int) < 50
          · have G : Hid (lineR c = false) := by show _ = _; rw [E1.out, decide_eq_false (p := 50 ≤ byteOf c 0) (by omega)]; rfl
            clear E1 B0
            go_wp2
            go_ret
            exact ⟨ret_bool G.out.symm, hb2⟩
          · by_cases hhi : (53 : Int) < (c[0]'h0).toNat
            · have G : Hid (lineR c = false) := by show _ = _; rw [E1.out, decide_eq_false (p := byteOf c 0 ≤ 53) (by omega)]; simp
              clear E1 B0
              go_wp2
              go_ret
              exact ⟨ret_bool G.out.symm, hb2⟩
            · have E2 : Hid (lineR c = (decide (c.size = 3) || (byteOf c 3 == 32 || byteOf c 3 == 45))) := by
                show _ = _
                rw [E1.out, decide_eq_true (p := 50 ≤ byteOf c 0) (by omega), decide_eq_true (p := byteOf c 0 ≤ 53) (by omega)]; simp
              clear E1 B0
              by_cases he3 : (c.size : Int) = 3
              · have G : Hid (lineR c = true) := by show _ = _; rw [E2.out, decide_eq_true (by omega)]; rfl
                clear E2
                go_wp2
                go_ret
                exact ⟨ret_bool G.out.symm, hb2⟩
              · have he3b : ((c.size : Int) == 3) = false := beq_eq_false_iff_ne.2 he3
                have h4 : 3 < c.size := by omega
                have h4i : (3 : Int) < c.size := by omega
                have B3 := byteOf_eq c 3 h4
                by_cases h32 : ((c[3]'h4).toNat : Int) = 32
                · have G : Hid (lineR c = true) := by show _ = _; rw [E2.out, B3, show (c[3]'h4).toNat = 32 by omega]; simp
                  clear E2 B3
                  go_wp2
                  go_ret
                  exact ⟨ret_bool G.out.symm, hb2⟩
                · have h32b : (((c[3]'h4).toNat : Int) == 32) = false := beq_eq_false_iff_ne.2 h32
                  have G : Hid (lineR c = (((c[3]'h4).toNat : Int) == 45)) := by
                    show _ = _
                    rw [E2.out, B3, decide_eq_false (by omega), beq_eq_false_iff_ne.2 (show (c[3]'h4).toNat ≠ 32 by omega), Bool.false_or, Bool.false_or, Bool.eq_iff_iff, beq_iff_eq, beq_iff_eq]
                    omega
                  clear E2 B3
                  go_wp2
                  go_ret
                  exact ⟨ret_bool G.out.symm, hb2⟩
end Go.Proofs.Ythblkfdgibonbaa
