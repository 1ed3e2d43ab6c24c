import Derived.Test.YtnbbhegcijogiaaDoorNam
import Derived.Test.YtnbbhegcijogiaaDoorSpl
namespace Go.Proofs.YtnbbhegcijogiaaDoor
open Go.ChangeShapes Go.WideShapes Go.ChangeAt Go.RowKit
open Pcs

/-- a domain: labels with points between, at most 100 bytes -/
def domOk (s : ByteArray) : Bool := decide (s.size ≤ 100) && (pieces ⟨#[46]⟩ s).all labOk
theorem dom_long {s : ByteArray} (h : 100 < s.size) : domOk s = false := by
  unfold domOk; rw [decide_eq_false (by omega)]; rfl
theorem dom_bad {s : ByteArray} {L : List ByteArray} (e : pieces ⟨#[46]⟩ s = L) {k : Nat} {h : k < L.length} (hl : labOk L[k] = false) : domOk s = false := by
  unfold domOk; rw [e, List.all_eq_false.2 ⟨_, List.getElem_mem h, by rw [hl]; decide⟩, Bool.and_false]
theorem dom_ok {s : ByteArray} {L : List ByteArray} (e : pieces ⟨#[46]⟩ s = L) (h : s.size ≤ 100) (hl : ∀ k (h : k < L.length), labOk L[k] = true) : domOk s = true := by
  unfold domOk; rw [e, decide_eq_true h, Bool.true_and]
  refine List.all_eq_true.2 fun x hx => ?_
  obtain ⟨k, hk, rfl⟩ := List.getElem_of_mem hx
  exact hl k hk
theorem empty_of {x : ByteArray} (h : x.size = 0) : x = ByteArray.empty := by
  obtain ⟨d⟩ := x
  change d.size = 0 at h
  rw [Array.size_eq_zero_iff] at h
  subst h; rfl
theorem list_ne {x : ByteArray} (h : x.size ≠ 0) : (x.toList == []) = false := by
  rw [ByteArray.toList_eq, beq_eq_false_iff_ne]; intro e
  have := Lib.size_eq x
  rw [e, List.length_nil] at this; omega
theorem drew_below {B : Nat} {w wr : World} (h : Below B w wr) (n : Nat) : Below B w (wr.drewN n) := ⟨h.os, h.tape, h.output, h.size, h.block⟩
theorem strs_ne {w : World} {lo : Nat} {v : Value} {L : List ByteArray} (h : Strs w lo v L) (hL : L ≠ []) : ∃ g cap, v = .slice (some ⟨g, 0, none⟩) L.length cap ∧ StrsAt w lo g cap L := by
  rcases h.cases with ⟨_, h0⟩ | h
  · exact absurd h0 hL
  · exact h

set_option maxHeartbeats 1000000 in
set_option maxRecDepth 100000 in
theorem implDomain (s : ByteArray) (w : World) (hl : LenIn w) (hs : s.size ≤ 1048576) :
    Calls Tryd.prog 22 #[.string s] w fun e w' => e = .returned (.bool (domOk s)) ∧ Below w.heap.size w w' := by
  have HL : Hid (LenIn w) := hl
  clear hl
  by_cases hA : 100 < s.size
  · go_enter Tryd.func22, Tryd.ntmps22
    go_wp2
    go_ret
    exact ⟨ret_bool (dom_long hA).symm, Below.refl _ _⟩
  · go_enter Tryd.func22, Tryd.ntmps22
    go_wp2_with fail
    refine (implSplit s _ _ HL.out hs (by decide)).mono ?_
    rintro e w1 ⟨⟨v, rfl, S1⟩, hb1⟩
    obtain ⟨g, cap, rfl, A1⟩ := strs_ne S1 (pieces_ne _ _)
    have hlen := pieces_len ⟨#[46]⟩ s
    have hsz : ∀ k (h : k < (pieces ⟨#[46]⟩ s).length), (pieces ⟨#[46]⟩ s)[k].size ≤ 1048576 := fun k h => Nat.le_trans (pieces_size (List.getElem_mem h)) hs
    generalize hLE : pieces ⟨#[46]⟩ s = L at *
    have HLE : Hid (pieces ⟨#[46]⟩ s = L) := hLE
    clear hLE
    have hcap := A1.cap
    have hlc := A1.len
    unfold maxLen at hcap
    clear S1
    go_wp2
    go_loopw [11] (fun iv wr => ∃ k n : Nat, k ≤ L.length ∧ iv = .int .i64 k ∧ Hid (∀ j (h : j < L.length), j < k → labOk L[j] = true) ∧ wr = w1.drewN n) (fun iv _ => L.length - (intOf iv).toNat)
    case atStart => exact ⟨0, 0, Nat.zero_le _, rfl, fun j _ h => absurd h (Nat.not_lt_zero _), rfl⟩
    case round =>
      obtain ⟨k, n, hk, rfl, HA, rfl⟩ := hrel
      by_cases hlt : k < L.length
      · have ec := A1.cell k hlt
        have hx := hsz k hlt
        have HB : Hid (labOk L[k] = true → ∀ j (h : j < L.length), j < k + 1 → labOk L[j] = true) := by
          intro h1 j h hj
          rcases Nat.lt_succ_iff_lt_or_eq.1 hj with hj | rfl
          · exact HA.out j h hj
          · exact h1
        have HC : Hid (labOk L[k] = false → domOk s = false) := fun h => dom_bad HLE.out h
        generalize L[k] = x at *
        cases hok : labOk x with
        | true =>
          have HD : Hid (∀ j (h : j < L.length), j < k + 1 → labOk L[j] = true) := HB.out hok
          clear HB HC
          go_wp2_with (go_at_call 36; refine (implLabel _ _ hx).mono ?_; rintro e w' ⟨rfl, rfl⟩; rw [hok])
          go_roundw
          case rel => exact ⟨k + 1, n, by omega, by go_num, HD.out, rfl⟩
          case measure => simp [intOf]; omega
        | false =>
          have HD : Hid (domOk s = false) := HC.out hok
          clear HB HC
          go_wp2_with (go_at_call 36; refine (implLabel _ _ hx).mono ?_; rintro e w' ⟨rfl, rfl⟩; rw [hok])
          go_ret
          exact ⟨ret_bool HD.out.symm, drew_below hb1 _⟩
      · go_wp2
        go_ret
        exact ⟨ret_bool (dom_ok HLE.out (by omega) fun j h => HA.out j h (by omega)).symm, drew_below hb1 _⟩

set_option maxHeartbeats 1000000 in
set_option maxRecDepth 100000 in
theorem specDomain (s : ByteArray) (w : World) (hs : s.size ≤ 1048576) :
    Calls Tryd.prog 27 #[.string s] w fun e w' => e = .returned (.bool (domOk s)) ∧ Below w.heap.size w w' := by
  by_cases hA : 100 < s.size
  · go_enter Tryd.func27, Tryd.ntmps27
    go_wp2
    go_ret
    exact ⟨ret_bool (dom_long hA).symm, Below.refl _ _⟩
  · go_enter Tryd.func27, Tryd.ntmps27
    go_wp2_with fail
    refine (specSplit s _ _ hs (by decide) (by decide)).mono ?_
    rintro e w1 ⟨⟨v, rfl, S1⟩, hb1⟩
    obtain ⟨g, cap, rfl, A1⟩ := strs_ne S1 (pieces_ne _ _)
    have hlen := pieces_len ⟨#[46]⟩ s
    have hsz : ∀ k (h : k < (pieces ⟨#[46]⟩ s).length), (pieces ⟨#[46]⟩ s)[k].size ≤ 1048576 := fun k h => Nat.le_trans (pieces_size (List.getElem_mem h)) hs
    generalize hLE : pieces ⟨#[46]⟩ s = L at *
    have HLE : Hid (pieces ⟨#[46]⟩ s = L) := hLE
    clear hLE
    have hcap := A1.cap
    have hlc := A1.len
    unfold maxLen at hcap
    clear S1
    go_wp2
    go_loopw [11] (fun iv wr => ∃ k n : Nat, k ≤ L.length ∧ iv = .int .i64 k ∧ Hid (∀ j (h : j < L.length), j < k → labOk L[j] = true) ∧ wr = w1.drewN n) (fun iv _ => L.length - (intOf iv).toNat)
    case atStart => exact ⟨0, 0, Nat.zero_le _, rfl, fun j _ h => absurd h (Nat.not_lt_zero _), rfl⟩
    case round =>
      obtain ⟨k, n, hk, rfl, HA, rfl⟩ := hrel
      by_cases hlt : k < L.length
      · have ec := A1.cell k hlt
        have hx := hsz k hlt
        have HB : Hid (labOk L[k] = true → ∀ j (h : j < L.length), j < k + 1 → labOk L[j] = true) := by
          intro h1 j h hj
          rcases Nat.lt_succ_iff_lt_or_eq.1 hj with hj | rfl
          · exact HA.out j h hj
          · exact h1
        have HC : Hid (labOk L[k] = false → domOk s = false) := fun h => dom_bad HLE.out h
        generalize L[k] = x at *
        cases hok : labOk x with
        | true =>
          have HD : Hid (∀ j (h : j < L.length), j < k + 1 → labOk L[j] = true) := HB.out hok
          clear HB HC
          go_wp2_with (go_at_call 46; refine (specLabel _ _ hx).mono ?_; rintro e w' ⟨rfl, rfl⟩; rw [hok])
          go_roundw
          case rel => exact ⟨k + 1, n, by omega, by go_num, HD.out, rfl⟩
          case measure => simp [intOf]; omega
        | false =>
          have HD : Hid (domOk s = false) := HC.out hok
          clear HB HC
          go_wp2_with (go_at_call 46; refine (specLabel _ _ hx).mono ?_; rintro e w' ⟨rfl, rfl⟩; rw [hok])
          go_ret
          exact ⟨ret_bool HD.out.symm, drew_below hb1 _⟩
      · go_wp2
        go_ret
        exact ⟨ret_bool (dom_ok HLE.out (by omega) fun j h => HA.out j h (by omega)).symm, drew_below hb1 _⟩
end Go.Proofs.YtnbbhegcijogiaaDoor
