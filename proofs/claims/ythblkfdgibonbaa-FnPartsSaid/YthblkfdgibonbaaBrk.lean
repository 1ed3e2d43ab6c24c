import Derived.Test.YthblkfdgibonbaaDec
import Derived.Deep.RegionHeld3
import Derived.Deep.DrawnRows
import Derived.Deep.DeepCutAuto
namespace Go.Proofs.Ythblkfdgibonbaa
open Go.ChangeShapes Go.WideShapes Go.ChangeAt Go.RowKit
open Pcs

def crlfB : ByteArray := ⟨#[13, 10]⟩

set_option maxHeartbeats 4000000 in
set_option maxRecDepth 1000000 in
theorem runeNo (C : ByteArray) (hC : C.size = 2) (hC1 : (C[1]'(by omega)).toNat < 128) (r : Nat) (w : World) (h1 : 128 ≤ r) (h2 : r ≤ 2147483647) (he : r ≠ 65533) :
    Calls Try.prog 82 #[.string C, .int .i32 (r : Int)] w fun e w' => (∃ z : Int, e = .returned (.int .i64 z) ∧ z < 0) ∧ Below w.heap.size w w' := by
  have hlo : ¬ (r : Int) < 128 := by omega
  have heb : ((r : Int) == 65533) = false := beq_eq_false_iff_ne.2 (by omega)
  have hCi : (C.size : Int) = 2 := by omega
  cases hv : Utf8.valid (r : Int) with
  | false =>
    have hv' : Lib.validRune (r : Int) = false := (validRune_eq (r : Int)).symm.trans hv
    clear hv
    go_enter Try.func82, Try.ntmps82
    go_wp2_with (go_at_call 87; refine (Any.utf8_ValidRune Try.lays119 _ _).mono ?_; rintro e w' ⟨rfl, rfl⟩; rw [hv'])
    go_ret
    exact ⟨⟨-1, rfl, by decide⟩, Below.refl _ _⟩
  | true =>
    have hv' : Lib.validRune (r : Int) = true := (validRune_eq (r : Int)).symm.trans hv
    obtain ⟨f1, f2, f3⟩ := encode_facts (r : Int) hv (by omega)
    clear hv
    go_enter Try.func82, Try.ntmps82
    go_wp2_with (go_at_call 87; refine (Any.utf8_ValidRune Try.lays119 _ _).mono ?_; rintro e w' ⟨rfl, rfl⟩; rw [hv'])
    go_step3
    go_upto_region 2 with fail
    generalize Utf8.encode (r : Int) = E at *
    by_cases hE : E.size = 2
    · have hE1 : 1 < E.size := by omega
      have hE1i : (1 : Int) < E.size := by omega
      have hEi : (E.size : Int) = 2 := by omega
      have h128 : 128 ≤ (E[1]'hE1).toNat := by
        have := f3 (by omega)
        simpa [hE] using this
      have hD1 : 1 < C.size := by omega
      have hD1i : (1 : Int) < C.size := by omega
      have hneq : (((C[1]'hD1).toNat : Int) != ((E[1]'hE1).toNat : Int)) = true := by rw [bne_iff_ne]; omega
      clear f3 hE
      have hix1 : ∀ wx, (Instr.index 9 (.string C) (.int .i64 1)).run Try.prog wx = .ok (.int .u8 ((C[1]'hD1).toNat : Int)) wx := by
        intro wx
        rw [run_index_string wx 9 _ _ _ Try.underlying9, dif_pos ⟨by decide, hD1i⟩]
        rfl
      have hix2 : ∀ wx, (Instr.index 9 (.string E) (.int .i64 1)).run Try.prog wx = .ok (.int .u8 ((E[1]'hE1).toNat : Int)) wx := by
        intro wx
        rw [run_index_string wx 9 _ _ _ Try.underlying9, dif_pos ⟨by decide, hE1i⟩]
        rfl
      have hsl : ∀ wx, (Instr.slice 9 (.string C) (some (.int .i64 2)) none none).run Try.prog wx = .ok (.string ⟨#[]⟩) wx := by
        intro wx
        rw [run_slice_string_from_if wx 9 _ .i64 2 Try.underlying9, if_pos (by omega), hC]
        congr 2
        rw [Lib.extract_eq]; simp
      go_wp2
      refine wp_loop_rounds 1 ?_; rw [rounds_succ]
      go_wp2
      go_step3
      go_wp2
      go_quiet (fail)
      have hwr : IntKind.i64.wrap (1 + 1) = 1 + 1 := by decide
      have hwr2 : IntKind.i64.wrap 2 = 2 := by decide
      have hC2 : (2 : Int) ≤ C.size := by omega
      have hsl2 : ∀ wx, (Instr.slice 9 (.string C) (some (.int .i64 (1 + 1))) none none).run Try.prog wx = .ok (.string ⟨#[]⟩) wx := hsl
      go_upto_region 7 with fail
      go_region_held3 (fun _ => True) (trivial) ((go_at_call 86; refine (Any.strings_IndexByte Try.lays137 _ _ _).mono ?_; rintro e w1 ⟨rfl, rfl⟩))
      have hib : ∀ c, Lib.indexByte [] c = -1 := fun _ => rfl
      go_wp2
      repeat (first | rw [Exit.noGoto_ret] | show Exit.noGoto _ Exit.ret _ _)
      go_ret
      exact ⟨⟨-1, rfl, by decide⟩, ⟨rfl, rfl, rfl, Nat.le_refl _, fun _ _ => rfl⟩⟩
    · have hEi : (2 : Int) < E.size := by omega
      go_wp2
      refine wp_loop_rounds 1 ?_; rw [rounds_succ]
      go_wp2
      rw [Exit.noGoto_ret]
      go_ret
      exact ⟨⟨-1, rfl, by decide⟩, Below.refl _ _⟩

set_option maxHeartbeats 4000000 in
set_option maxRecDepth 1000000 in
theorem runeErr (C : ByteArray) (hC : ∀ k (h : k < C.size), (C[k]'h).toNat < 128) (w : World) :
    Calls Try.prog 82 #[.string C, .int .i32 65533] w fun e w' => (∃ z : Int, e = .returned (.int .i64 z) ∧ z < 0) ∧ Below w.heap.size w w' := by
  have HC : Hid (∀ k (h : k < C.size), (C[k]'h).toNat < 128) := hC
  clear hC
  go_enter Try.func82, Try.ntmps82
  go_wp2
  go_loopg [5, 6] C.size (fun g _ _ wx => ∃ i : Nat, i + g = C.size ∧ wx = w.iter C i)
  case atStart => exact ⟨0, by omega, rfl⟩
  case round =>
    obtain ⟨i, hig, rfl⟩ := hrel
    cases gk with
    | zero =>
      obtain rfl : i = C.size := by omega
      have hnx := run_next_end (P := Try.prog) w C C.size
      go_wp2
      go_ret
      exact ⟨⟨-1, rfl, by decide⟩, Below.alloc (Below.refl _ _) (Nat.le_refl _) _⟩
    | succ g =>
      have hi : i < C.size := by omega
      have hx128 := HC.out i hi
      have hnx := fun ty => run_next_ascii (P := Try.prog) w C i ty hi hx128
      have hne : ((((C[i]'hi).toNat : Int)) == 65533) = false := by rw [beq_eq_false_iff_ne]; omega
      go_wp2
      go_roundg g
      case measure => omega
      case rel => exact ⟨i + 1, by omega, rfl⟩
end Go.Proofs.Ythblkfdgibonbaa
