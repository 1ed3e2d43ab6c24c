import Derived.Test.YtngcjlghjidnjaaGreatDoorMg1
import Derived.Test.YtngcjlghjidnjaaGreatDoorShelf
import Derived.WalkKit
import Derived.ProofKit
import Derived.WalkLawsBesides
import Derived.Deep.QuietTactic
import Derived.BigQuiet
import Derived.Laws.RangeAny
import Derived.Laws.Runes
import Derived.Shelf.Strings.IndexAnyAll
import Derived.Deep.LoopGhost
import Derived.Deep.RegionHeld3
import Derived.Deep.DrawnRows
import Derived.Deep.DeepCutAuto
namespace Go.Proofs.YtngcjlghjidnjaaGreatDoor
open Go.ChangeShapes Go.WideShapes Go.ChangeAt Go.RowKit

def digN (b : Nat) : Bool := decide (48 ≤ b) && decide (b ≤ 57)
def smlN (b : Nat) : Bool := decide (97 ≤ b) && decide (b ≤ 122)
def letN (b : Nat) : Bool := smlN b || digN b
theorem ret_bool {a b : Bool} (h : a = b) : Ending.returned (.bool a) = .returned (.bool b) := by rw [h]

/-- the byte at k, 0 beyond the end -/
def byteOf (s : ByteArray) (k : Nat) : Nat := if h : k < s.size then s[k].toNat else 0
theorem byteOf_eq (s : ByteArray) (k : Nat) (h : k < s.size) : byteOf s k = s[k].toNat := dif_pos h
/-- each byte passes -/
def okAll (f : Nat → Bool) (s : ByteArray) : Bool := (List.range s.size).all fun k => f (byteOf s k)
theorem okAll_true {f : Nat → Bool} {s : ByteArray} (h : ∀ k, k < s.size → f (byteOf s k) = true) : okAll f s = true :=
  List.all_eq_true.2 fun k hk => h k (List.mem_range.1 hk)
theorem okAll_false {f : Nat → Bool} {s : ByteArray} {k : Nat} (hk : k < s.size) (h : f (byteOf s k) = false) : okAll f s = false :=
  List.all_eq_false.2 ⟨k, List.mem_range.2 hk, by rw [h]; decide⟩
theorem okAll_congr {f g : Nat → Bool} {s : ByteArray} (h : ∀ b, b < 256 → f b = g b) : okAll f s = okAll g s := by
  unfold okAll
  congr 1; funext k
  refine h _ ?_
  unfold byteOf; split
  · exact UInt8.toNat_lt _
  · decide
theorem byteOf_lt (s : ByteArray) (k : Nat) : byteOf s k < 256 := by
  unfold byteOf; split
  · exact UInt8.toNat_lt _
  · decide

theorem okAll_list (f : Nat → Bool) (s : ByteArray) : okAll f s = s.data.toList.all fun b => f b.toNat := by
  rw [Bool.eq_iff_iff]
  constructor
  · intro h
    refine List.all_eq_true.2 fun x hx => ?_
    obtain ⟨k, hk, rfl⟩ := List.getElem_of_mem hx
    have hk' : k < s.size := by rw [Lib.size_eq]; exact hk
    have := List.all_eq_true.1 h k (List.mem_range.2 hk')
    rw [byteOf_eq s k hk'] at this
    exact this
  · intro h
    refine okAll_true fun k hk => ?_
    rw [byteOf_eq s k hk]
    have hk' : k < s.data.toList.length := by rw [← Lib.size_eq]; exact hk
    exact List.all_eq_true.1 h _ (List.getElem_mem hk')
end Go.Proofs.YtngcjlghjidnjaaGreatDoor
namespace Go.Proofs.YtngcjlghjidnjaaGreatDoor
open Go.ChangeShapes Go.WideShapes Go.ChangeAt Go.RowKit
open Pcs

theorem decode_skip (s : ByteArray) (pos : Nat) (h : pos < s.size) (ha : 128 ≤ (s[pos]'h).toNat) :
    128 ≤ (Utf8.decode s pos).1 ∧ 1 ≤ (Utf8.decode s pos).2 ∧ pos + (Utf8.decode s pos).2 ≤ s.size ∧ ∀ k, pos ≤ k → k < pos + (Utf8.decode s pos).2 → 128 ≤ byteOf s k := by
  have hg : ∀ k, pos + k < s.size → (s.get! (pos + k)).toNat = byteOf s (pos + k) := by
    intro k hk
    rw [byteOf_eq s _ hk]
    simp [ByteArray.get!, getElem!_pos, hk]
    rfl
  have h0 : (s.get! (pos + 0)).toNat = byteOf s pos := hg 0 h
  have hb0 : 128 ≤ byteOf s pos := by rw [byteOf_eq s pos h]; exact ha
  have g0 : ¬ (s.get! (pos + 0)).toNat < 128 := by omega
  obtain ⟨d1, d2⟩ := decode_high s pos h ha
  refine ⟨d1, d2, ?_⟩
  have key : (Utf8.decode s pos).2 = 1 ∨ ((Utf8.decode s pos).2 = 2 ∧ pos + 1 < s.size ∧ 128 ≤ byteOf s (pos + 1)) ∨ ((Utf8.decode s pos).2 = 3 ∧ pos + 2 < s.size ∧ 128 ≤ byteOf s (pos + 1) ∧ 128 ≤ byteOf s (pos + 2)) ∨ ((Utf8.decode s pos).2 = 4 ∧ pos + 3 < s.size ∧ 128 ≤ byteOf s (pos + 1) ∧ 128 ≤ byteOf s (pos + 2) ∧ 128 ≤ byteOf s (pos + 3)) := by
    have c : ∀ k, (decide (pos + k < s.size) && (s.get! (pos + k)).toNat / 64 == 2) = true → pos + k < s.size ∧ 128 ≤ byteOf s (pos + k) := by
      intro k hk
      simp only [Bool.and_eq_true, decide_eq_true_eq, beq_iff_eq] at hk
      have := hg k hk.1
      omega
    simp only [Utf8.decode, g0, if_false]
    split
    · rename_i h1
      simp only [Bool.and_eq_true] at h1
      have := c 1 (by simpa using h1.2)
      split
      · right; left; exact ⟨rfl, this.1, this.2⟩
      · left; rfl
    · split
      · rename_i h1
        simp only [Bool.and_eq_true] at h1
        have t1 := c 1 (by simpa using h1.1.2)
        have t2 := c 2 (by simpa using h1.2)
        split
        · right; right; left; exact ⟨rfl, t2.1, t1.2, t2.2⟩
        · left; rfl
      · split
        · rename_i h1
          simp only [Bool.and_eq_true] at h1
          have t1 := c 1 (by simpa using h1.1.1.2)
          have t2 := c 2 (by simpa using h1.1.2)
          have t3 := c 3 (by simpa using h1.2)
          split
          · right; right; right; exact ⟨rfl, t3.1, t1.2, t2.2, t3.2⟩
          · left; rfl
        · left; rfl
  rcases key with e | ⟨e, q1, q2⟩ | ⟨e, q1, q2, q3⟩ | ⟨e, q1, q2, q3, q4⟩ <;> rw [e]
  · refine ⟨by omega, fun k k1 k2 => ?_⟩
    obtain rfl : k = pos := by omega
    exact hb0
  · refine ⟨by omega, fun k k1 k2 => ?_⟩
    rcases (show k = pos ∨ k = pos + 1 by omega) with rfl | rfl
    · exact hb0
    · exact q2
  · refine ⟨by omega, fun k k1 k2 => ?_⟩
    rcases (show k = pos ∨ k = pos + 1 ∨ k = pos + 2 by omega) with rfl | rfl | rfl
    · exact hb0
    · exact q2
    · exact q3
  · refine ⟨by omega, fun k k1 k2 => ?_⟩
    rcases (show k = pos ∨ k = pos + 1 ∨ k = pos + 2 ∨ k = pos + 3 by omega) with rfl | rfl | rfl | rfl
    · exact hb0
    · exact q2
    · exact q3
    · exact q4

end Go.Proofs.YtngcjlghjidnjaaGreatDoor
namespace Go.Proofs.YtngcjlghjidnjaaGreatDoor
open Go.ChangeShapes Go.WideShapes Go.ChangeAt Go.RowKit
open Pcs

def crlfB : ByteArray := ⟨#[13, 10]⟩

set_option maxHeartbeats 4000000 in
set_option maxRecDepth 1000000 in
theorem runeNo (C : ByteArray) (hC : C.size = 2) (hC1 : (C[1]'(by omega)).toNat < 128) (r : Nat) (w : World) (h1 : 128 ≤ r) (h2 : r ≤ 2147483647) (he : r ≠ 65533) :
    Calls Tryz.prog 163 #[.string C, .int .i32 (r : Int)] w fun e w' => (∃ z : Int, e = .returned (.int .i64 z) ∧ z < 0) ∧ Below w.heap.size w w' := by
  have hlo : ¬ (r : Int) < 128 := by omega
  have heb : ((r : Int) == 65533) = false := beq_eq_false_iff_ne.2 (by omega)
  have hCi : (C.size : Int) = 2 := by omega
  cases hv : Utf8.valid (r : Int) with
  | false =>
    have hv' : Lib.validRune (r : Int) = false := (validRune_eq (r : Int)).symm.trans hv
    clear hv
    go_enter Tryz.func163, Tryz.ntmps163
    go_wp2_with (go_at_call 172; refine (Any.utf8_ValidRune Tryz.lays119 _ _).mono ?_; rintro e w' ⟨rfl, rfl⟩; rw [hv'])
    go_ret
    exact ⟨⟨-1, rfl, by decide⟩, Below.refl _ _⟩
  | true =>
    have hv' : Lib.validRune (r : Int) = true := (validRune_eq (r : Int)).symm.trans hv
    obtain ⟨f1, f2, f3⟩ := encode_facts (r : Int) hv (by omega)
    clear hv
    go_enter Tryz.func163, Tryz.ntmps163
    go_wp2_with (go_at_call 172; refine (Any.utf8_ValidRune Tryz.lays119 _ _).mono ?_; rintro e w' ⟨rfl, rfl⟩; rw [hv'])
    go_step3
    go_upto_region 2 with fail
    generalize Utf8.encode (r : Int) = E at *
    by_cases hE : E.size = 2
    · have hE1 : 1 < E.size := by omega
      have hE1i : (1 : Int) < E.size := by omega
      have hEi : (E.size : Int) = 2 := by omega
      have h128 : 128 ≤ (E[1]'hE1).toNat := by
        have := f3 (by omega)
        simpa [hE] using this
      have hD1 : 1 < C.size := by omega
      have hD1i : (1 : Int) < C.size := by omega
      have hneq : (((C[1]'hD1).toNat : Int) != ((E[1]'hE1).toNat : Int)) = true := by rw [bne_iff_ne]; omega
      clear f3 hE
      have hix1 : ∀ wx, (Instr.index 9 (.string C) (.int .i64 1)).run Tryz.prog wx = .ok (.int .u8 ((C[1]'hD1).toNat : Int)) wx := by
        intro wx
        rw [run_index_string wx 9 _ _ _ Tryz.underlying9, dif_pos ⟨by decide, hD1i⟩]
        rfl
      have hix2 : ∀ wx, (Instr.index 9 (.string E) (.int .i64 1)).run Tryz.prog wx = .ok (.int .u8 ((E[1]'hE1).toNat : Int)) wx := by
        intro wx
        rw [run_index_string wx 9 _ _ _ Tryz.underlying9, dif_pos ⟨by decide, hE1i⟩]
        rfl
      have hsl : ∀ wx, (Instr.slice 9 (.string C) (some (.int .i64 2)) none none).run Tryz.prog wx = .ok (.string ⟨#[]⟩) wx := by
        intro wx
        rw [run_slice_string_from_if wx 9 _ .i64 2 Tryz.underlying9, if_pos (by omega), hC]
        congr 2
        rw [Lib.extract_eq]; simp
      go_wp2
      refine wp_loop_rounds 1 ?_; rw [rounds_succ]
      go_wp2
      go_step3
      go_wp2
      go_quiet (fail)
      have hwr : IntKind.i64.wrap (1 + 1) = 1 + 1 := by decide
      have hwr2 : IntKind.i64.wrap 2 = 2 := by decide
      have hC2 : (2 : Int) ≤ C.size := by omega
      have hsl2 : ∀ wx, (Instr.slice 9 (.string C) (some (.int .i64 (1 + 1))) none none).run Tryz.prog wx = .ok (.string ⟨#[]⟩) wx := hsl
      go_upto_region 7 with fail
      go_region_held3 (fun _ => True) (trivial) ((go_at_call 137; refine (Any.strings_IndexByte Tryz.lays137 _ _ _).mono ?_; rintro e w1 ⟨rfl, rfl⟩))
      have hib : ∀ c, Lib.indexByte [] c = -1 := fun _ => rfl
      go_wp2
      repeat (first | rw [Exit.noGoto_ret] | show Exit.noGoto _ Exit.ret _ _)
      go_ret
      exact ⟨⟨-1, rfl, by decide⟩, ⟨rfl, rfl, rfl, Nat.le_refl _, fun _ _ => rfl⟩⟩
    · have hEi : (2 : Int) < E.size := by omega
      go_wp2
      refine wp_loop_rounds 1 ?_; rw [rounds_succ]
      go_wp2
      rw [Exit.noGoto_ret]
      go_ret
      exact ⟨⟨-1, rfl, by decide⟩, Below.refl _ _⟩

set_option maxHeartbeats 4000000 in
set_option maxRecDepth 1000000 in
theorem runeErr (C : ByteArray) (hC : ∀ k (h : k < C.size), (C[k]'h).toNat < 128) (w : World) :
    Calls Tryz.prog 163 #[.string C, .int .i32 65533] w fun e w' => (∃ z : Int, e = .returned (.int .i64 z) ∧ z < 0) ∧ Below w.heap.size w w' := by
  have HC : Hid (∀ k (h : k < C.size), (C[k]'h).toNat < 128) := hC
  clear hC
  go_enter Tryz.func163, Tryz.ntmps163
  go_wp2
  go_loopg [5, 6] C.size (fun g _ _ wx => ∃ i : Nat, i + g = C.size ∧ wx = w.iter C i)
  case atStart => exact ⟨0, by omega, rfl⟩
  case round =>
    obtain ⟨i, hig, rfl⟩ := hrel
    cases gk with
    | zero =>
      obtain rfl : i = C.size := by omega
      have hnx := run_next_end (P := Tryz.prog) w C C.size
      go_wp2
      go_ret
      exact ⟨⟨-1, rfl, by decide⟩, Below.alloc (Below.refl _ _) (Nat.le_refl _) _⟩
    | succ g =>
      have hi : i < C.size := by omega
      have hx128 := HC.out i hi
      have hnx := fun ty => run_next_ascii (P := Tryz.prog) w C i ty hi hx128
      have hne : ((((C[i]'hi).toNat : Int)) == 65533) = false := by rw [beq_eq_false_iff_ne]; omega
      go_wp2
      go_roundg g
      case measure => omega
      case rel => exact ⟨i + 1, by omega, rfl⟩
end Go.Proofs.YtngcjlghjidnjaaGreatDoor
