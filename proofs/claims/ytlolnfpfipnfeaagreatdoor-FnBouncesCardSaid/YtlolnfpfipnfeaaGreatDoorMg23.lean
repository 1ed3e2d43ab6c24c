import Derived.Test.YtlolnfpfipnfeaaGreatDoorMg22
import Derived.Test.YtlolnfpfipnfeaaGreatDoorMg12
namespace Go.Proofs.YtlolnfpfipnfeaaGreatDoor
open Go.ChangeShapes Go.WideShapes Go.ChangeAt Go.RowKit
open Pcs

theorem loc_bad {s : ByteArray} {L : List ByteArray} (e : pieces ⟨#[46]⟩ s = L) {k : Nat} {h : k < L.length} (hl : atomOk L[k] = false) : locOk s = false := by
  unfold locOk; rw [e, List.all_eq_false.2 ⟨_, List.getElem_mem h, by rw [hl]; decide⟩, Bool.and_false]
theorem loc_ok {s : ByteArray} {L : List ByteArray} (e : pieces ⟨#[46]⟩ s = L) (h : s.size ≤ 64) (hl : ∀ k (h : k < L.length), atomOk L[k] = true) : locOk s = true := by
  unfold locOk; rw [e, decide_eq_true h, Bool.true_and]
  refine List.all_eq_true.2 fun x hx => ?_
  obtain ⟨k, hk, rfl⟩ := List.getElem_of_mem hx
  exact hl k hk
theorem atom_empty : atomOk ByteArray.empty = false := rfl
theorem atom_bad {x : ByteArray} {k : Nat} (hk : k < x.size) (h : atomN (byteOf x k) = false) : atomOk x = false := by
  unfold atomOk; rw [okAll_false hk h, Bool.and_false]
theorem atom_good {x : ByteArray} (h0 : x.size ≠ 0) (h : ∀ k, k < x.size → atomN (byteOf x k) = true) : atomOk x = true := by
  unfold atomOk; rw [okAll_true h, decide_eq_true h0]; rfl
theorem sizePlus : (⟨#[43, 95, 45]⟩ : ByteArray).size ≤ 1048576 := by decide

set_option maxHeartbeats 2000000 in
set_option maxRecDepth 100000 in
theorem specAddress (s : ByteArray) (w : World) (hs : s.size ≤ 1048576) :
    Calls Tryz.prog 43 #[.string s] w fun e w' => e = .returned (.bool (addrOk s)) ∧ Below w.heap.size w w' := by
  by_cases hA : 160 < s.size
  · go_enter Tryz.func43, Tryz.ntmps43
    go_wp2
    go_ret
    exact ⟨ret_bool (addr_long hA).symm, Below.refl _ _⟩
  · go_enter Tryz.func43, Tryz.ntmps43
    go_wp2_with fail
    refine (specSplit s _ _ hs (by decide) (by decide)).mono ?_
    rintro e w1 ⟨⟨v, rfl, S1⟩, hb1⟩
    obtain ⟨g, cap, rfl, A1⟩ := strs_ne S1 (pieces_ne _ _)
    clear S1
    rcases addr_pieces s with ⟨a, b, hp, ha, hb, he⟩ | ⟨hp, he⟩
    · have E : Hid (addrOk s = (locOk a && domOk b)) := by
        show _ = _
        rw [he, decide_eq_true (by omega)]; rfl
      rw [hp] at A1 ⊢
      have c0 := A1.cell 0 (by simp)
      have c1 := A1.cell 1 (by simp)
      simp only [List.getElem_cons_zero, List.getElem_cons_succ] at c0 c1
      have hcap := A1.len
      simp only [List.length_cons, List.length_nil] at hcap ⊢
      have hgl := A1.lt
      clear he hp A1
      have ha' : a.size ≤ 1048576 := by omega
      have hb' : b.size ≤ 1048576 := by omega
      by_cases h64 : (64 : Int) < a.size
      · go_wp2
        go_ret
        exact ⟨ret_bool (by rw [E.out, loc_long (by omega)]; rfl), hb1⟩
      · cases hd : domOk b with
        | false =>
          go_wp2_with (go_at_call 42; refine (specDomain _ _ hb').mono ?_; rintro e w2 ⟨rfl, hb2⟩; rw [hd])
          go_ret
          exact ⟨ret_bool (by rw [E.out, hd, Bool.and_false]), hb1.trans (hb2.mono hb1.size)⟩
        | true =>
          go_wp2_with (go_at_call 42; refine (specDomain _ _ hb').mono ?_; rintro e w2 ⟨rfl, hb2⟩; rw [hd]; have c0' := (bcell hb2).1 g 0 hgl; rw [c0] at c0')
          refine (specSplit a _ _ ha' (by decide) (by decide)).mono ?_
          rintro e w3 ⟨⟨v, rfl, S3⟩, hb3⟩
          obtain ⟨g3, cap3, rfl, A3⟩ := strs_ne S3 (pieces_ne _ _)
          clear S3 c0 c1
          have hlen := pieces_len ⟨#[46]⟩ a
          have hsz : ∀ k (h : k < (pieces ⟨#[46]⟩ a).length), (pieces ⟨#[46]⟩ a)[k].size ≤ 1048576 := fun k h => Nat.le_trans (pieces_size (List.getElem_mem h)) ha'
          generalize hLE : pieces ⟨#[46]⟩ a = L at *
          have HLE : Hid (pieces ⟨#[46]⟩ a = L) := hLE
          have HB3 : Hid (Below w.heap.size w w3) := (hb1.trans (hb2.mono hb1.size)).trans (hb3.mono (Nat.le_trans hb1.size hb2.size))
          have E2 : Hid (addrOk s = locOk a) := by
            show _ = _
            rw [E.out, hd, Bool.and_true]
          clear hLE hb1 hb2 hb3 E hd c0' hgl
          have hcap3 := A3.cap
          have hlc := A3.len
          unfold maxLen at hcap3
          go_wp2
          go_loopw [34] (fun iv wr => ∃ k n : Nat, k ≤ L.length ∧ iv = .int .i64 k ∧ Hid (∀ j (h : j < L.length), j < k → atomOk L[j] = true) ∧ wr = w3.drewN n) (fun iv _ => L.length - (intOf iv).toNat)
          case atStart => exact ⟨0, 0, Nat.zero_le _, rfl, fun j _ h => absurd h (Nat.not_lt_zero _), rfl⟩
          case round =>
            obtain ⟨k, n, hk, rfl, HA, rfl⟩ := hrel
            by_cases hlt : k < L.length
            · have ec := A3.cell k hlt
              have hx := hsz k hlt
              have HB : Hid (atomOk L[k] = true → ∀ j (h : j < L.length), j < k + 1 → atomOk L[j] = true) := by
                intro h1 j h hj
                rcases Nat.lt_succ_iff_lt_or_eq.1 hj with hj | rfl
                · exact HA.out j h hj
                · exact h1
              have HC : Hid (atomOk L[k] = false → addrOk s = false) := fun h => by rw [E2.out]; exact loc_bad HLE.out h
              generalize L[k] = x at *
              by_cases hx0 : x.size = 0
              · obtain rfl := empty_of hx0
                have G : Hid (addrOk s = false) := HC.out atom_empty
                clear HB HC
                go_wp2
                go_ret
                exact ⟨ret_bool G.out.symm, drew_below HB3.out _⟩
              · have hne : (x.toList == []) = false := by
                  rw [ByteArray.toList_eq, beq_eq_false_iff_ne]; intro e
                  have := Lib.size_eq x; rw [e, List.length_nil] at this; omega
                go_wp2
                go_loop [6] (fun i => ∃ m : Nat, m ≤ x.size ∧ i = .int .i64 m ∧ Hid (∀ j, j < m → atomN (byteOf x j) = true)) (fun i => x.size - (intOf i).toNat)
                case atStart => exact ⟨0, Nat.zero_le _, rfl, fun j h => absurd h (Nat.not_lt_zero _)⟩
                case round =>
                  obtain ⟨m, hm, rfl, HM⟩ := hrel
                  by_cases hmt : m < x.size
                  · have HX : Hid (byteOf x m = x[m].toNat) := byteOf_eq x m hmt
                    have GO : Hid (atomN x[m].toNat = true → (∃ k1 : Nat, k1 ≤ x.size ∧ Value.int .i64 ((m : Int) + 1) = .int .i64 k1 ∧ Hid (∀ j, j < k1 → atomN (byteOf x j) = true)) ∧ x.size - (intOf (.int .i64 ((m : Int) + 1))).toNat < x.size - (intOf (.int .i64 (m : Int))).toNat) := by
                      intro h
                      refine ⟨⟨m + 1, by omega, by go_num, fun j hj => ?_⟩, by simp [intOf]; omega⟩
                      rcases Nat.lt_succ_iff_lt_or_eq.1 hj with hj | rfl
                      · exact HM.out j hj
                      · rw [HX.out]; exact h
                    have HN : Hid (atomN x[m].toNat = (letN x[m].toNat || hasN ⟨#[43, 95, 45]⟩ x[m].toNat)) := has_marks (UInt8.toNat_lt _)
                    by_cases hl : letN x[m].toNat = true
                    · have G := GO.out (by rw [HN.out, hl]; rfl)
                      clear GO HB HC
                      go_wp2_with (go_at_call 66; refine (specLetter _ _).mono ?_; rintro e w' ⟨rfl, rfl⟩)
                      exact G
                    · have hlf : letN x[m].toNat = false := Bool.eq_false_iff.2 hl
                      clear hl
                      cases hh : hasN ⟨#[43, 95, 45]⟩ x[m].toNat with
                      | true =>
                        have G := GO.out (by rw [HN.out, hh, Bool.or_true])
                        clear GO HB HC
                        go_wp2_with (first
                          | (go_at_call 66; refine (specLetter _ _).mono ?_; rintro e w' ⟨rfl, rfl⟩)
                          | (go_at_call 67; refine (specHas _ _ _ sizePlus).mono ?_; rintro e w' ⟨rfl, rfl⟩; rw [hh]))
                        exact G
                      | false =>
                        have G : Hid (addrOk s = false) := HC.out (atom_bad hmt (by rw [HX.out, HN.out, hlf, hh]; rfl))
                        clear GO HB HC
                        go_wp2_with (first
                          | (go_at_call 66; refine (specLetter _ _).mono ?_; rintro e w' ⟨rfl, rfl⟩)
                          | (go_at_call 67; refine (specHas _ _ _ sizePlus).mono ?_; rintro e w' ⟨rfl, rfl⟩; rw [hh]))
                        go_ret
                        exact ⟨ret_bool G.out.symm, drew_below HB3.out _⟩
                  · have G : Hid (∀ j (h : j < L.length), j < k + 1 → atomOk L[j] = true) := HB.out (atom_good hx0 fun j hj => HM.out j (by omega))
                    clear HB HC
                    go_wp2
                    go_roundw
                    case rel => exact ⟨k + 1, n, by omega, by go_num, G.out, rfl⟩
                    case measure => simp [intOf]; omega
            · go_wp2
              go_ret
              exact ⟨ret_bool (by rw [E2.out]; exact (loc_ok HLE.out (by omega) fun j h => HA.out j h (by omega)).symm), drew_below HB3.out _⟩
    · have hlen := pieces_len ⟨#[64]⟩ s
      generalize pieces ⟨#[64]⟩ s = L at *
      have hpi : ((L.length : Int) != 2) = true := by rw [bne_iff_ne]; omega
      go_wp2
      go_ret
      exact ⟨ret_bool he.symm, hb1⟩
end Go.Proofs.YtlolnfpfipnfeaaGreatDoor
namespace Go.Proofs.YtlolnfpfipnfeaaGreatDoor
open Go.ChangeShapes Go.WideShapes Go.ChangeAt Go.RowKit

def codeOk (c : Int) : Bool := decide (c = 0) || (decide (200 ≤ c) && decide (c ≤ 599))

set_option maxHeartbeats 1000000 in
set_option maxRecDepth 100000 in
theorem specCode (c : Int) (w : World) : Calls Tryz.prog 45 #[.int .i64 c] w fun e w' => e = .returned (.bool (codeOk c)) ∧ Below w.heap.size w w' := by
  by_cases h0 : c = 0
  · subst h0
    go_enter Tryz.func45, Tryz.ntmps45
    go_wp2
    go_ret
    exact ⟨rfl, Below.refl _ _⟩
  · have h0b : (c == 0) = false := beq_eq_false_iff_ne.2 h0
    have G0 : Hid (codeOk c = (decide (200 ≤ c) && decide (c ≤ 599))) := by show _ = _; unfold codeOk; rw [decide_eq_false h0]; rfl
    by_cases h1 : 200 ≤ c
    · by_cases h2 : c ≤ 599
      · have G : Hid (codeOk c = true) := by show _ = _; rw [G0.out, decide_eq_true h1, decide_eq_true h2]; rfl
        go_enter Tryz.func45, Tryz.ntmps45
        go_wp2
        go_ret
        exact ⟨ret_bool G.out.symm, Below.refl _ _⟩
      · have G : Hid (codeOk c = false) := by show _ = _; rw [G0.out, decide_eq_false h2]; simp
        go_enter Tryz.func45, Tryz.ntmps45
        go_wp2
        go_ret
        exact ⟨ret_bool G.out.symm, Below.refl _ _⟩
    · have G : Hid (codeOk c = false) := by show _ = _; rw [G0.out, decide_eq_false h1]; rfl
      go_enter Tryz.func45, Tryz.ntmps45
      go_wp2
      go_ret
      exact ⟨ret_bool G.out.symm, Below.refl _ _⟩

set_option maxHeartbeats 1000000 in
set_option maxRecDepth 100000 in
theorem implCode (c : Int) (w : World) : Calls Tryz.prog 59 #[.int .i64 c] w fun e w' => e = .returned (.bool (codeOk c)) ∧ Below w.heap.size w w' := by
  by_cases h0 : c = 0
  · subst h0
    go_enter Tryz.func59, Tryz.ntmps59
    go_wp2
    go_ret
    exact ⟨rfl, Below.refl _ _⟩
  · have h0b : (c == 0) = false := beq_eq_false_iff_ne.2 h0
    have G0 : Hid (codeOk c = (decide (200 ≤ c) && decide (c ≤ 599))) := by show _ = _; unfold codeOk; rw [decide_eq_false h0]; rfl
    by_cases h1 : 200 ≤ c
    · by_cases h2 : c ≤ 599
      · have G : Hid (codeOk c = true) := by show _ = _; rw [G0.out, decide_eq_true h1, decide_eq_true h2]; rfl
        go_enter Tryz.func59, Tryz.ntmps59
        go_wp2
        go_ret
        exact ⟨ret_bool G.out.symm, Below.refl _ _⟩
      · have G : Hid (codeOk c = false) := by show _ = _; rw [G0.out, decide_eq_false h2]; simp
        go_enter Tryz.func59, Tryz.ntmps59
        go_wp2
        go_ret
        exact ⟨ret_bool G.out.symm, Below.refl _ _⟩
    · have G : Hid (codeOk c = false) := by show _ = _; rw [G0.out, decide_eq_false h1]; rfl
      go_enter Tryz.func59, Tryz.ntmps59
      go_wp2
      go_ret
      exact ⟨ret_bool G.out.symm, Below.refl _ _⟩
end Go.Proofs.YtlolnfpfipnfeaaGreatDoor
