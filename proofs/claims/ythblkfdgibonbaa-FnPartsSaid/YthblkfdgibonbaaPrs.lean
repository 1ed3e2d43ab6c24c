import Derived.Test.YthblkfdgibonbaaPrsM
import Derived.Test.YthblkfdgibonbaaDig
import Derived.Test.YthblkfdgibonbaaPrsD
namespace Go.Proofs.Ythblkfdgibonbaa
open Go.ChangeShapes Go.WideShapes Go.ChangeAt Go.RowKit
open Pcs

set_option maxHeartbeats 1000000 in
set_option maxRecDepth 100000 in
theorem implText (c : ByteArray) (w : World) (hs : c.size ≤ 1048576) :
    Calls Try.prog 27 #[.string c] w fun e w' => e = .returned (.string (textB c)) ∧ w' = w := by
  unfold textB
  by_cases h : 4 ≤ c.size
  · have hmi : min (4 : Int) (c.size : Int) = 4 := by omega
    rw [Nat.min_eq_left h]
    have h4 : (4 : Int) ≤ c.size := by omega
    go_enter Try.func27, Try.ntmps27
    go_wp2
    go_ret
    exact ⟨rfl, rfl⟩
  · have hmi : min (4 : Int) (c.size : Int) = c.size := by omega
    rw [Nat.min_eq_right (by omega)]
    have h4 : (c.size : Int) ≤ 4 := by omega
    go_enter Try.func27, Try.ntmps27
    go_wp2
    go_ret
    exact ⟨ret_str (by simp), rfl⟩

theorem more_long {r : ByteArray} (h : 512 ≤ r.size) : moreN r = false := by
  unfold moreN; rw [decide_eq_false (by omega)]; rfl
set_option maxHeartbeats 1000000 in
set_option maxRecDepth 100000 in
theorem implMore (r : ByteArray) (w : World) (hs : r.size ≤ 1048576) :
    Calls Try.prog 45 #[.string r] w fun e w' => e = .returned (.bool (moreN r)) ∧ Below w.heap.size w w' := by
  by_cases h : 512 ≤ r.size
  · have G0 : Hid (moreN r = false) := more_long h
    go_enter Try.func45, Try.ntmps45
    go_wp2
    go_ret
    exact ⟨ret_bool G0.out.symm, Below.refl _ _⟩
  · obtain ⟨X, HX⟩ : ∃ X, Hid (mk (Lib.trimSuffix r.data.toList [13]) = X) := ⟨mk (Lib.trimSuffix r.data.toList [13]), rfl⟩
    have hX : X.size ≤ 1048576 := by
      rw [← HX.out, mk_size]
      have := Lib.trimSuffix_le r.data.toList [13]
      rw [← Lib.size_eq] at this; omega
    have trim : ∀ wx, Calls Try.prog 56 #[.string r, .string ⟨#[13]⟩] wx fun e w' => e = .returned (.string X) ∧ w' = wx := by
      intro wx; rw [← HX.out]; exact Any.strings_TrimSuffix Try.lays102 r ⟨#[13]⟩ wx (by omega)
    have G : Hid (moreN r = !brkN X) := by
      show _ = _
      unfold moreN
      rw [decide_eq_true (by omega), HX.out]; rfl
    go_enter Try.func45, Try.ntmps45
    go_wp2_with (first
      | (go_at_call 56; refine (trim _).mono ?_; rintro e w' ⟨rfl, hw⟩; rw [hw])
      | (go_at_call 55; refine (implBreak _ _ hX).mono ?_; rintro e w2 ⟨rfl, hb2⟩))
    go_ret
    exact ⟨ret_bool G.out.symm, hb2⟩

theorem byte_ex (c : ByteArray) (k : Nat) (h : k < 3) (h3 : 3 ≤ c.size) : byteOf (c.extract 0 3) k = byteOf c k := by
  have hk : k < (c.extract 0 3).size := by rw [ByteArray.size_extract]; omega
  rw [byteOf_eq _ k hk, byteOf_eq c k (by omega)]
  congr 1
  rw [ByteArray.getElem_extract]; simp
theorem dig3 {c : ByteArray} (h3 : 3 ≤ c.size) : okAll digN (c.extract 0 3) = (digN (byteOf c 0) && (digN (byteOf c 1) && digN (byteOf c 2))) := by
  have hsz : (c.extract 0 3).size = 3 := by rw [ByteArray.size_extract]; omega
  unfold okAll
  rw [hsz]
  show (List.range 3).all _ = _
  simp only [show List.range 3 = [0, 1, 2] from rfl, List.all_cons, List.all_nil, Bool.and_true]
  rw [byte_ex c 0 (by decide) h3, byte_ex c 1 (by decide) h3, byte_ex c 2 (by decide) h3]
theorem lineR_rest {c : ByteArray} (h1 : c.size ≤ 510) (h2 : brkN c = false) (h3 : 3 ≤ c.size) :
    lineR c = (okAll digN (c.extract 0 3) && (decide (50 ≤ byteOf c 0) && (decide (byteOf c 0 ≤ 53) && (decide (c.size = 3) || (byteOf c 3 == 32 || byteOf c 3 == 45))))) := by
  unfold lineR
  rw [decide_eq_true h1, h2, decide_eq_true h3, dig3 h3]
  simp only [Bool.not_false, Bool.true_and, Bool.and_assoc]
theorem lineR_long {c : ByteArray} (h : 510 < c.size) : lineR c = false := by
  unfold lineR; rw [decide_eq_false (by omega)]; rfl
theorem lineR_brk {c : ByteArray} (h : brkN c = true) : lineR c = false := by
  unfold lineR; rw [h]; simp
theorem lineR_short {c : ByteArray} (h : c.size < 3) : lineR c = false := by
  unfold lineR; rw [decide_eq_false (p := 3 ≤ c.size) (by omega)]; simp
end Go.Proofs.Ythblkfdgibonbaa
