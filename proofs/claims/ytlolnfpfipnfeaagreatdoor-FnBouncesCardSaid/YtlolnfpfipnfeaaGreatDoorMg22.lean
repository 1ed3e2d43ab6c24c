import Derived.Test.YtlolnfpfipnfeaaGreatDoorMg14
import Derived.Shelf.Strings.Cut
import Derived.Test.YtlolnfpfipnfeaaGreatDoorMg21
import Derived.Test.YtlolnfpfipnfeaaGreatDoorMg13
namespace Go.Proofs.YtlolnfpfipnfeaaGreatDoor
open Go.ChangeShapes Go.WideShapes Go.ChangeAt Go.RowKit
open Pcs

/-- what strings.Cut answers -/
def CutIs (s sep a b : ByteArray) (f : Bool) : Prop := mk (Lib.cut s.data.toList sep.data.toList).1 = a ∧ mk (Lib.cut s.data.toList sep.data.toList).2.1 = b ∧ (Lib.cut s.data.toList sep.data.toList).2.2 = f
theorem cut_size1 (s sep : ByteArray) : (mk (Lib.cut s.data.toList sep.data.toList).1).size ≤ s.size := by
  unfold Lib.cut; split
  · rw [mk_size, List.length_take, Lib.size_eq]; omega
  · rw [mk_size, Lib.size_eq]; exact Nat.le_refl _
theorem cut_size2 (s sep : ByteArray) : (mk (Lib.cut s.data.toList sep.data.toList).2.1).size ≤ s.size := by
  unfold Lib.cut; split
  · rw [mk_size, List.length_drop, Lib.size_eq]; omega
  · rw [mk_size]; exact Nat.zero_le _
theorem implCut (s sep : ByteArray) (w : World) (hl : LenIn w) (hs : s.size ≤ 1048576) :
    Calls Tryz.prog 56 #[.string s, .string sep] w fun e w' => ∃ (a b : ByteArray) (f : Bool) (n : Nat), e = .returned (.tuple #[.string a, .string b, .bool f]) ∧ w' = w.drewN n ∧ Hid (CutIs s sep a b f) ∧ a.size ≤ s.size ∧ b.size ≤ s.size := by
  obtain ⟨m, hm⟩ := hl
  refine (Any.strings_Cut Tryz.lays145 s sep m w (by omega) hm).mono ?_
  rintro e w' ⟨rfl, n, rfl⟩
  exact ⟨_, _, _, n, rfl, rfl, ⟨rfl, rfl, rfl⟩, cut_size1 s sep, cut_size2 s sep⟩
theorem cut_cases {s sep a b : ByteArray} {f : Bool} (h : CutIs s sep a b f) : (f = false ∧ Lib.index s.data.toList sep.data.toList = -1) ∨ (f = true ∧ ∃ i : Nat, Lib.index s.data.toList sep.data.toList = i ∧ mk (s.data.toList.take i) = a) := by
  obtain ⟨h1, _, h3⟩ := h
  have hg := Lib.index_ge s.data.toList sep.data.toList
  unfold Lib.cut at h1 h3
  split at h3
  · rename_i hp
    right
    rw [if_pos hp] at h1
    exact ⟨h3.symm, (Lib.index s.data.toList sep.data.toList).toNat, by omega, h1⟩
  · left
    exact ⟨h3.symm, by omega⟩
end Go.Proofs.YtlolnfpfipnfeaaGreatDoor
namespace Go.Proofs.YtlolnfpfipnfeaaGreatDoor
open Go.ChangeShapes Go.WideShapes Go.ChangeAt Go.RowKit
open Pcs

theorem has_marks {b : Nat} (hb : b < 256) : atomN b = (letN b || hasN ⟨#[43, 95, 45]⟩ b) := by
  unfold hasN atomN markN
  rw [okAll_list, any_nat _ hb]

theorem implContains (s sub : ByteArray) (w : World) (hl : LenIn w) (hs : s.size ≤ 1048576) :
    Calls Tryz.prog 37 #[.string s, .string sub] w fun e w' => e = .returned (.bool (Lib.contains s.data.toList sub.data.toList)) ∧ w' = w := by
  obtain ⟨m, hm⟩ := hl
  exact Any.strings_Contains Tryz.lays144 s sub m w (by omega) hm
set_option maxHeartbeats 1000000 in
set_option maxRecDepth 100000 in
theorem implLocal (s : ByteArray) (w : World) (hl : LenIn w) (hs : s.size ≤ 1048576) :
    Calls Tryz.prog 57 #[.string s] w fun e w' => e = .returned (.bool (locOk s)) ∧ w' = w := by
  have HL : Hid (LenIn w) := hl
  clear hl
  by_cases h0 : s.size < 1
  · have e0 : s = ByteArray.empty := by
      have : s.data.size = 0 := by have := h0; change s.data.size < 1 at this; omega
      obtain ⟨d⟩ := s
      simp at this; subst this; rfl
    subst e0
    go_enter Tryz.func57, Tryz.ntmps57
    go_wp2
    go_ret
    exact ⟨ret_bool (loc_empty h0).symm, rfl⟩
  · have h1 : 0 < s.size := by omega
    have h1i : (0 : Int) < s.size := by omega
    have hne : (s.toList == []) = false := by
      rw [ByteArray.toList_eq]
      rw [beq_eq_false_iff_ne]; intro e
      have := Lib.size_eq s; rw [e, List.length_nil] at this; omega
    have hl1 : s.size - 1 < s.size := by omega
    have hl2 : ((s.size : Int) - 1).toNat = s.size - 1 := by omega
    have B0 := byteOf_eq s 0 h1
    have B1 := byteOf_eq s (s.size - 1) hl1
    by_cases h64 : (64 : Int) < s.size
    · go_enter Tryz.func57, Tryz.ntmps57
      go_wp2
      go_ret
      exact ⟨ret_bool (loc_long (by omega)).symm, rfl⟩
    · by_cases hz : (s[0].toNat : Int) = 46
      · go_enter Tryz.func57, Tryz.ntmps57
        go_wp2
        go_ret
        exact ⟨ret_bool (loc_first h1 (by omega)).symm, rfl⟩
      · have hzb : ((s[0].toNat : Int) == 46) = false := beq_eq_false_iff_ne.2 hz
        by_cases hy : (s[s.size - 1].toNat : Int) = 46
        · go_enter Tryz.func57, Tryz.ntmps57
          go_wp2
          go_ret
          exact ⟨ret_bool (loc_last h1 (by omega)).symm, rfl⟩
        · have hyb : ((s[s.size - 1].toNat : Int) == 46) = false := beq_eq_false_iff_ne.2 hy
          have E : Hid (locOk s = (!has2 s.data.toList && okAll (markN ⟨#[46, 43, 95, 45]⟩) s)) := loc_rest h1 (by omega) (by omega) (by omega)
          clear B0 B1 hz hy
          cases hh : has2 s.data.toList with
          | true =>
            have hh' : Lib.contains s.data.toList [46, 46] = true := hh
            go_enter Tryz.func57, Tryz.ntmps57
            go_wp2_with (go_at_call 37; refine (implContains _ _ _ HL.out hs).mono ?_; rintro e w' ⟨rfl, rfl⟩; rw [hh'])
            go_ret
            exact ⟨ret_bool (by rw [E.out, hh]; rfl), rfl⟩
          | false =>
            have hh' : Lib.contains s.data.toList [46, 46] = false := hh
            go_enter Tryz.func57, Tryz.ntmps57
            go_wp2_with (first
              | (go_at_call 37; refine (implContains _ _ _ HL.out hs).mono ?_; rintro e w' ⟨rfl, rfl⟩; rw [hh'])
              | (go_at_call 73; refine (implMade _ _ _ hs).mono ?_; rintro e w' ⟨rfl, rfl⟩))
            go_ret
            exact ⟨ret_bool (by rw [E.out, hh]; rfl), rfl⟩

theorem addr_long {s : ByteArray} (h : 160 < s.size) : addrOk s = false := by
  unfold addrOk; rw [decide_eq_false (by omega)]; rfl
theorem addr_eq {s : ByteArray} {a b : ByteArray} {f : Bool} (h : s.size ≤ 160) (hc : CutIs s ⟨#[64]⟩ a b f) : addrOk s = (f && (locOk a && domOk b)) := by
  obtain ⟨h1, h2, h3⟩ := hc
  unfold addrOk
  rw [decide_eq_true h, ← h1, ← h2, ← h3]; rfl
theorem below_drew (w : World) (n : Nat) : Below w.heap.size w (w.drewN n) := drew_below (Below.refl _ _) n

set_option maxHeartbeats 1000000 in
set_option maxRecDepth 100000 in
theorem implAddress (s : ByteArray) (w : World) (hl : LenIn w) (hs : s.size ≤ 1048576) :
    Calls Tryz.prog 33 #[.string s] w fun e w' => e = .returned (.bool (addrOk s)) ∧ Below w.heap.size w w' := by
  have HL : Hid (LenIn w) := hl
  clear hl
  by_cases hA : 160 < s.size
  · go_enter Tryz.func33, Tryz.ntmps33
    go_wp2
    go_ret
    exact ⟨ret_bool (addr_long hA).symm, Below.refl _ _⟩
  · go_enter Tryz.func33, Tryz.ntmps33
    go_wp2_with fail
    refine (implCut s _ _ HL.out hs).mono ?_
    rintro e w1 ⟨a, b, f, n, rfl, rfl, HC, ha, hb⟩
    have HL1 : Hid (LenIn (w.drewN n)) := HL.out
    have E : Hid (addrOk s = (f && (locOk a && domOk b))) := addr_eq (by omega) HC.out
    have ha' : a.size ≤ 1048576 := Nat.le_trans ha hs
    have hb' : b.size ≤ 1048576 := Nat.le_trans hb hs
    cases f with
    | false =>
      go_wp2
      go_ret
      exact ⟨ret_bool (by rw [E.out]; rfl), below_drew _ _⟩
    | true =>
      cases hlo : locOk a with
      | false =>
        go_wp2_with (go_at_call 57; refine (implLocal _ _ HL1.out ha').mono ?_; rintro e w' ⟨rfl, rfl⟩; rw [hlo])
        go_ret
        exact ⟨ret_bool (by rw [E.out, hlo]; rfl), below_drew _ _⟩
      | true =>
        go_wp2_with (first
          | (go_at_call 57; refine (implLocal _ _ HL1.out ha').mono ?_; rintro e w' ⟨rfl, rfl⟩; rw [hlo])
          | (go_at_call 32; refine (implDomain _ _ HL1.out hb').mono ?_; rintro e w2 ⟨rfl, hb2⟩))
        go_ret
        exact ⟨ret_bool (by rw [E.out, hlo]; rfl), (below_drew w n).trans hb2⟩
end Go.Proofs.YtlolnfpfipnfeaaGreatDoor
