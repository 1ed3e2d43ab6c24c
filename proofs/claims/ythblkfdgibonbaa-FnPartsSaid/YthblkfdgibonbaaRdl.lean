import Derived.Test.YthblkfdgibonbaaRgt
import Derived.Test.YthblkfdgibonbaaCut
namespace Go.Proofs.Ythblkfdgibonbaa
open Go.ChangeShapes Go.WideShapes Go.ChangeAt Go.RowKit
open Pcs

/-- a right line whose code is that of the lines ahead, if there are such -/
def okL (l cs : ByteArray) : Bool := lineR l && (decide (cs.size = 0) || decide (l.extract 0 3 = cs))
/-- what readLine answers -/
def RdOut (r cs content : ByteArray) (st : Nat) : Prop :=
  (Lib.index r.data.toList [13, 10] = -1 ∧ st = (if moreN r then 0 else 1)) ∨
  ∃ (i : Nat) (l : ByteArray), Lib.index r.data.toList [13, 10] = i ∧ mk (r.data.toList.take i) = l ∧ ((okL l cs = false ∧ st = 1) ∨ (okL l cs = true ∧ content = l ∧ st = if lastN l then 3 else 2))
theorem drew_below' {B : Nat} {w wr : World} (h : Below B w wr) (n : Nat) : Below B w (wr.drewN n) := ⟨h.os, h.tape, h.output, h.size, h.block⟩
theorem lineR_three {l : ByteArray} (h : lineR l = true) : 3 ≤ l.size := by
  unfold lineR at h
  simp only [Bool.and_eq_true, decide_eq_true_eq] at h
  exact h.2.2.1
theorem empty_of' {x : ByteArray} (h : x.size = 0) : x = ByteArray.empty := by
  obtain ⟨d⟩ := x
  change d.size = 0 at h
  rw [Array.size_eq_zero_iff] at h
  subst h; rfl
theorem list_ne' {x : ByteArray} (h : x.size ≠ 0) : x.toList.isEmpty = false := by
  rw [ByteArray.toList_eq]
  cases e : x.data.toList with
  | nil =>
    have := Lib.size_eq x
    rw [e, List.length_nil] at this; omega
  | cons a l => rfl
theorem str_ne' {a b : ByteArray} (h : a ≠ b) : (a.toList == b.toList) = false := by
  rw [beq_eq_false_iff_ne, Lib.toList_data, Lib.toList_data]
  intro e; exact h (by rw [← mk_data a, ← mk_data b, e])

set_option maxHeartbeats 4000000 in
set_option maxRecDepth 100000 in
theorem implRead (r cs : ByteArray) (w : World) (hl : LenIn w) (hs : r.size ≤ 1048576) :
    Calls Try.prog 26 #[.string r, .string cs] w fun e w' => (∃ (content : ByteArray) (st : Nat), e = .returned (.tuple #[.string content, .int .i64 (st : Int)]) ∧ RdOut r cs content st) ∧ Below w.heap.size w w' := by
  have HL : Hid (LenIn w) := hl
  clear hl
  go_enter Try.func26, Try.ntmps26
  go_wp2_with fail
  refine (implCut r _ _ HL.out hs).mono ?_
  rintro e w1 ⟨a, b, f, n, rfl, rfl, HC, ha, hb⟩
  rcases cut_cases HC.out with ⟨rfl, hi⟩ | ⟨rfl, i, hi, hl⟩
  · have HI : Hid (Lib.index r.data.toList [13, 10] = -1) := hi
    clear hi HC
    go_wp2_with fail
    refine (implMore r _ hs).mono ?_
    rintro e w2 ⟨rfl, hb2⟩
    have HB2 : Hid (Below w.heap.size w w2) := ((drew_below' (Below.refl _ w) n)).trans hb2
    cases hm : moreN r with
    | true =>
      have G : Hid (RdOut r cs ⟨#[]⟩ 0) := .inl ⟨HI.out, by rw [hm]; rfl⟩
      clear hb2 hm
      go_wp2
      go_ret2
      exact ⟨⟨_, 0, rfl, G.out⟩, HB2.out⟩
    | false =>
      have G : Hid (RdOut r cs ⟨#[]⟩ 1) := .inl ⟨HI.out, by rw [hm]; rfl⟩
      clear hb2 hm
      go_wp2
      go_ret2
      exact ⟨⟨_, 1, rfl, G.out⟩, HB2.out⟩
  · have HI : Hid (Lib.index r.data.toList [13, 10] = i) := hi
    have HA : Hid (mk (r.data.toList.take i) = a) := hl
    have ha' : a.size ≤ 1048576 := Nat.le_trans ha hs
    clear hi hl HC
    go_wp2_with fail
    refine (implRight a _ ha').mono ?_
    rintro e w2 ⟨rfl, hb2⟩
    have HB2 : Hid (Below w.heap.size w w2) := ((drew_below' (Below.refl _ w) n)).trans hb2
    clear hb2
    have BAD : Hid (okL a cs = false → RdOut r cs ⟨#[]⟩ 1) := fun h => .inr ⟨i, a, HI.out, HA.out, .inl ⟨h, rfl⟩⟩
    have GOOD : Hid (okL a cs = true → ∀ st, st = (if lastN a then 3 else 2) → RdOut r cs a st) := fun h st hst => .inr ⟨i, a, HI.out, HA.out, .inr ⟨h, rfl, hst⟩⟩
    cases hr : lineR a with
    | false =>
      have G : Hid (RdOut r cs ⟨#[]⟩ 1) := BAD.out (by unfold okL; rw [hr]; rfl)
      clear hr BAD GOOD
      go_wp2
      go_ret2
      exact ⟨⟨_, 1, rfl, G.out⟩, HB2.out⟩
    | true =>
      have h3 := lineR_three hr
      have h3i : (3 : Int) ≤ a.size := by omega
      have key : ∀ (hok : okL a cs = true), Hid ((3 < a.size → byteOf a 3 = 45 → RdOut r cs a 2) ∧ (a.size = 3 → RdOut r cs a 3) ∧ (3 < a.size → byteOf a 3 ≠ 45 → RdOut r cs a 3)) := by
        intro hok
        refine ⟨fun h1 h2 => GOOD.out hok 2 ?_, fun h1 => GOOD.out hok 3 ?_, fun h1 h2 => GOOD.out hok 3 ?_⟩
        · have : lastN a = false := by unfold lastN; rw [decide_eq_false (by omega), h2]; rfl
          rw [this]; rfl
        · have : lastN a = true := by unfold lastN; rw [decide_eq_true h1]; rfl
          rw [this]; rfl
        · have : lastN a = true := by
            unfold lineR at hr
            simp only [Bool.and_eq_true, decide_eq_true_eq, Bool.or_eq_true, beq_iff_eq] at hr
            have h5 := hr.2.2.2.2.2.2.2.2
            unfold lastN
            rcases h5 with h5 | h5 | h5
            · rw [decide_eq_true h5]; rfl
            · rw [h5]; simp
            · exact absurd h5 h2
          rw [this]; rfl
      have fin : ∀ (hok : okL a cs = true), True := fun _ => trivial
      clear fin
      by_cases hc0 : cs.size = 0
      · obtain rfl := empty_of' hc0
        obtain K := key (by unfold okL; rw [hr, decide_eq_true hc0]; rfl)
        clear key BAD GOOD hr hc0
        by_cases he3 : (3 : Int) < a.size
        · have h4 : 3 < a.size := by omega
          have B3 := byteOf_eq a 3 h4
          by_cases h45 : ((a[3]'h4).toNat : Int) = 45
          · have G : Hid (RdOut r ByteArray.empty a 2) := K.out.1 h4 (by omega)
            clear K B3
            go_wp2
            go_ret2
            exact ⟨⟨_, 2, rfl, G.out⟩, HB2.out⟩
          · have h45b : (((a[3]'h4).toNat : Int) == 45) = false := beq_eq_false_iff_ne.2 h45
            have G : Hid (RdOut r ByteArray.empty a 3) := K.out.2.2 h4 (by omega)
            clear K B3
            go_wp2
            go_ret2
            exact ⟨⟨_, 3, rfl, G.out⟩, HB2.out⟩
        · have G : Hid (RdOut r ByteArray.empty a 3) := K.out.2.1 (by omega)
          clear K
          go_wp2
          go_ret2
          exact ⟨⟨_, 3, rfl, G.out⟩, HB2.out⟩
      · have hne := list_ne' hc0
        by_cases hq : a.extract 0 3 = cs
        · have K := key (by unfold okL; rw [hr, decide_eq_true hq]; simp)
          have Hq : Hid (a.extract 0 3 = cs) := hq
          clear key BAD GOOD hr hq
          have hsl : ∀ wx, (Instr.slice 9 (.string a) none (some (.int .i64 3)) none).run Try.prog wx = .ok (.string cs) wx := by
            intro wx
            rw [run_slice_string_to_if wx 9 a .i64 3 Try.underlying9, if_pos (by omega), ← Hq.out]
            rfl
          have hsq : (cs.toList == cs.toList) = true := by simp
          by_cases he3 : (3 : Int) < a.size
          · have h4 : 3 < a.size := by omega
            have B3 := byteOf_eq a 3 h4
            by_cases h45 : ((a[3]'h4).toNat : Int) = 45
            · have G : Hid (RdOut r cs a 2) := K.out.1 h4 (by omega)
              clear K B3
              go_wp2
              go_ret2
              exact ⟨⟨_, 2, rfl, G.out⟩, HB2.out⟩
            · have h45b : (((a[3]'h4).toNat : Int) == 45) = false := beq_eq_false_iff_ne.2 h45
              have G : Hid (RdOut r cs a 3) := K.out.2.2 h4 (by omega)
              clear K B3
              go_wp2
              go_ret2
              exact ⟨⟨_, 3, rfl, G.out⟩, HB2.out⟩
          · have G : Hid (RdOut r cs a 3) := K.out.2.1 (by omega)
            clear K
            go_wp2
            go_ret2
            exact ⟨⟨_, 3, rfl, G.out⟩, HB2.out⟩
        · have G : Hid (RdOut r cs ⟨#[]⟩ 1) := BAD.out (by unfold okL; rw [hr, decide_eq_false hc0, decide_eq_false hq]; rfl)
          have hqb := str_ne' hq
          clear key BAD GOOD hr
          have hsl : ∀ wx, (Instr.slice 9 (.string a) none (some (.int .i64 3)) none).run Try.prog wx = .ok (.string (a.extract 0 3)) wx := by
            intro wx
            rw [run_slice_string_to_if wx 9 a .i64 3 Try.underlying9, if_pos (by omega)]
            rfl
          clear hq
          generalize a.extract 0 3 = X at *
          go_wp2
          go_ret2
          exact ⟨⟨_, 1, rfl, G.out⟩, HB2.out⟩
end Go.Proofs.Ythblkfdgibonbaa
