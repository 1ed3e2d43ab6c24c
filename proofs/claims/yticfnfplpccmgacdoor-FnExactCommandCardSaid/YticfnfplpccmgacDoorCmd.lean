import Derived.Test.YticfnfplpccmgacDoorSAdr
namespace Go.Proofs.YticfnfplpccmgacDoor
open Go.ChangeShapes Go.WideShapes Go.ChangeAt Go.RowKit
open Pcs

def sayB (p s q : ByteArray) : ByteArray := p ++ s ++ q
/-- the line of a command, empty if there is none -/
def cmdB (kind : Int) (s : ByteArray) : ByteArray :=
  if kind = 1 then (if domOk s then sayB ⟨#[69, 72, 76, 79, 32]⟩ s ⟨#[13, 10]⟩ else ⟨#[]⟩)
  else if kind = 2 then (if domOk s then sayB ⟨#[72, 69, 76, 79, 32]⟩ s ⟨#[13, 10]⟩ else ⟨#[]⟩)
  else if kind = 3 then (if s.size = 0 ∨ addrOk s = true then sayB ⟨#[77, 65, 73, 76, 32, 70, 82, 79, 77, 58, 60]⟩ s ⟨#[62, 13, 10]⟩ else ⟨#[]⟩)
  else if kind = 4 then (if addrOk s then sayB ⟨#[82, 67, 80, 84, 32, 84, 79, 58, 60]⟩ s ⟨#[62, 13, 10]⟩ else ⟨#[]⟩)
  else if kind = 5 then (if s.size = 0 then ⟨#[68, 65, 84, 65, 13, 10]⟩ else ⟨#[]⟩)
  else if kind = 6 then (if s.size = 0 then ⟨#[81, 85, 73, 84, 13, 10]⟩ else ⟨#[]⟩)
  else ⟨#[]⟩
theorem say_two (x : ByteArray) : x ++ (⟨#[62]⟩ : ByteArray) ++ (⟨#[13, 10]⟩ : ByteArray) = x ++ (⟨#[62, 13, 10]⟩ : ByteArray) := by
  rw [ByteArray.append_assoc]; rfl

set_option maxHeartbeats 2000000 in
set_option maxRecDepth 100000 in
theorem implCommand (kind : Int) (s : ByteArray) (w : World) (hl : LenIn w) (hs : s.size ≤ 1048576) :
    Calls Tryd.prog 25 #[.int .i64 kind, .string s] w fun e w' => e = .returned (.string (cmdB kind s)) ∧ Below w.heap.size w w' := by
  have HL : Hid (LenIn w) := hl
  clear hl
  by_cases h1 : kind = 1
  · subst h1
    cases hd : domOk s with
    | true =>
      go_enter Tryd.func25, Tryd.ntmps25
      go_wp2_with (go_at_call 34; refine (implDomain _ _ HL.out hs).mono ?_; rintro e w2 ⟨rfl, hb2⟩; rw [hd])
      go_ret
      exact ⟨ret_str (by simp [cmdB, hd, sayB]), hb2⟩
    | false =>
      go_enter Tryd.func25, Tryd.ntmps25
      go_wp2_with (go_at_call 34; refine (implDomain _ _ HL.out hs).mono ?_; rintro e w2 ⟨rfl, hb2⟩; rw [hd])
      go_ret
      exact ⟨ret_str (by simp [cmdB, hd]), hb2⟩
  · have b1 : (kind == 1) = false := beq_eq_false_iff_ne.2 h1
    by_cases h2 : kind = 2
    · subst h2
      cases hd : domOk s with
      | true =>
        go_enter Tryd.func25, Tryd.ntmps25
        go_wp2_with (go_at_call 34; refine (implDomain _ _ HL.out hs).mono ?_; rintro e w2 ⟨rfl, hb2⟩; rw [hd])
        go_ret
        exact ⟨ret_str (by simp [cmdB, hd, sayB]), hb2⟩
      | false =>
        go_enter Tryd.func25, Tryd.ntmps25
        go_wp2_with (go_at_call 34; refine (implDomain _ _ HL.out hs).mono ?_; rintro e w2 ⟨rfl, hb2⟩; rw [hd])
        go_ret
        exact ⟨ret_str (by simp [cmdB, hd]), hb2⟩
    · have b2 : (kind == 2) = false := beq_eq_false_iff_ne.2 h2
      by_cases h3 : kind = 3
      · subst h3
        by_cases h0 : s.size = 0
        · obtain rfl := empty_of h0
          go_enter Tryd.func25, Tryd.ntmps25
          go_wp2
          go_ret
          exact ⟨rfl, Below.refl _ _⟩
        · have hne := list_ne h0
          cases hd : addrOk s with
          | true =>
            go_enter Tryd.func25, Tryd.ntmps25
            go_wp2_with (go_at_call 14; refine (implAddress _ _ HL.out hs).mono ?_; rintro e w2 ⟨rfl, hb2⟩; rw [hd])
            go_ret
            exact ⟨ret_str (by simp [cmdB, hd, sayB, say_two]), hb2⟩
          | false =>
            go_enter Tryd.func25, Tryd.ntmps25
            go_wp2_with (go_at_call 14; refine (implAddress _ _ HL.out hs).mono ?_; rintro e w2 ⟨rfl, hb2⟩; rw [hd])
            go_ret
            exact ⟨ret_str (by simp [cmdB, hd, h0]), hb2⟩
      · have b3 : (kind == 3) = false := beq_eq_false_iff_ne.2 h3
        by_cases h4 : kind = 4
        · subst h4
          cases hd : addrOk s with
          | true =>
            go_enter Tryd.func25, Tryd.ntmps25
            go_wp2_with (go_at_call 14; refine (implAddress _ _ HL.out hs).mono ?_; rintro e w2 ⟨rfl, hb2⟩; rw [hd])
            go_ret
            exact ⟨ret_str (by simp [cmdB, hd, sayB, say_two]), hb2⟩
          | false =>
            go_enter Tryd.func25, Tryd.ntmps25
            go_wp2_with (go_at_call 14; refine (implAddress _ _ HL.out hs).mono ?_; rintro e w2 ⟨rfl, hb2⟩; rw [hd])
            go_ret
            exact ⟨ret_str (by simp [cmdB, hd]), hb2⟩
        · have b4 : (kind == 4) = false := beq_eq_false_iff_ne.2 h4
          by_cases h5 : kind = 5
          · subst h5
            by_cases h0 : s.size = 0
            · obtain rfl := empty_of h0
              go_enter Tryd.func25, Tryd.ntmps25
              go_wp2
              go_ret
              exact ⟨rfl, Below.refl _ _⟩
            · have hne := list_ne h0
              go_enter Tryd.func25, Tryd.ntmps25
              go_wp2
              go_ret
              exact ⟨ret_str (by simp [cmdB, h0]), Below.refl _ _⟩
          · have b5 : (kind == 5) = false := beq_eq_false_iff_ne.2 h5
            by_cases h6 : kind = 6
            · subst h6
              by_cases h0 : s.size = 0
              · obtain rfl := empty_of h0
                go_enter Tryd.func25, Tryd.ntmps25
                go_wp2
                go_ret
                exact ⟨rfl, Below.refl _ _⟩
              · have hne := list_ne h0
                go_enter Tryd.func25, Tryd.ntmps25
                go_wp2
                go_ret
                exact ⟨ret_str (by simp [cmdB, h0]), Below.refl _ _⟩
            · have b6 : (kind == 6) = false := beq_eq_false_iff_ne.2 h6
              go_enter Tryd.func25, Tryd.ntmps25
              go_wp2
              go_ret
              exact ⟨ret_str (by simp [cmdB, h1, h2, h3, h4, h5, h6]), Below.refl _ _⟩

set_option maxHeartbeats 2000000 in
set_option maxRecDepth 100000 in
theorem specCommand (kind : Int) (s : ByteArray) (w : World) (hs : s.size ≤ 1048576) :
    Calls Tryd.prog 24 #[.int .i64 kind, .string s] w fun e w' => e = .returned (.string (cmdB kind s)) ∧ Below w.heap.size w w' := by
  by_cases h1 : kind = 1
  · subst h1
    cases hd : domOk s with
    | true =>
      go_enter Tryd.func24, Tryd.ntmps24
      go_wp2_with (go_at_call 29; refine (specDomain _ _ hs).mono ?_; rintro e w2 ⟨rfl, hb2⟩; rw [hd])
      go_ret
      exact ⟨ret_str (by simp [cmdB, hd, sayB]), (hb2.trans (below1 _ _ |>.mono hb2.size))⟩
    | false =>
      go_enter Tryd.func24, Tryd.ntmps24
      go_wp2_with (go_at_call 29; refine (specDomain _ _ hs).mono ?_; rintro e w2 ⟨rfl, hb2⟩; rw [hd])
      go_ret
      exact ⟨ret_str (by simp [cmdB, hd]), hb2⟩
  · have b1 : (kind == 1) = false := beq_eq_false_iff_ne.2 h1
    by_cases h2 : kind = 2
    · subst h2
      cases hd : domOk s with
      | true =>
        go_enter Tryd.func24, Tryd.ntmps24
        go_wp2_with (go_at_call 29; refine (specDomain _ _ hs).mono ?_; rintro e w2 ⟨rfl, hb2⟩; rw [hd])
        go_ret
        exact ⟨ret_str (by simp [cmdB, hd, sayB]), (hb2.trans (below1 _ _ |>.mono hb2.size))⟩
      | false =>
        go_enter Tryd.func24, Tryd.ntmps24
        go_wp2_with (go_at_call 29; refine (specDomain _ _ hs).mono ?_; rintro e w2 ⟨rfl, hb2⟩; rw [hd])
        go_ret
        exact ⟨ret_str (by simp [cmdB, hd]), hb2⟩
    · have b2 : (kind == 2) = false := beq_eq_false_iff_ne.2 h2
      by_cases h3 : kind = 3
      · subst h3
        by_cases h0 : s.size = 0
        · obtain rfl := empty_of h0
          go_enter Tryd.func24, Tryd.ntmps24
          go_wp2
          go_ret
          exact ⟨rfl, Below.refl _ _⟩
        · have hne := list_ne h0
          cases hd : addrOk s with
          | true =>
            go_enter Tryd.func24, Tryd.ntmps24
            go_wp2_with (go_at_call 13; refine (specAddress _ _ hs).mono ?_; rintro e w2 ⟨rfl, hb2⟩; rw [hd])
            go_ret
            exact ⟨ret_str (by simp [cmdB, hd, sayB]), hb2⟩
          | false =>
            go_enter Tryd.func24, Tryd.ntmps24
            go_wp2_with (go_at_call 13; refine (specAddress _ _ hs).mono ?_; rintro e w2 ⟨rfl, hb2⟩; rw [hd])
            go_ret
            exact ⟨ret_str (by simp [cmdB, hd, h0]), hb2⟩
      · have b3 : (kind == 3) = false := beq_eq_false_iff_ne.2 h3
        by_cases h4 : kind = 4
        · subst h4
          cases hd : addrOk s with
          | true =>
            go_enter Tryd.func24, Tryd.ntmps24
            go_wp2_with (go_at_call 13; refine (specAddress _ _ hs).mono ?_; rintro e w2 ⟨rfl, hb2⟩; rw [hd])
            go_ret
            exact ⟨ret_str (by simp [cmdB, hd, sayB]), hb2⟩
          | false =>
            go_enter Tryd.func24, Tryd.ntmps24
            go_wp2_with (go_at_call 13; refine (specAddress _ _ hs).mono ?_; rintro e w2 ⟨rfl, hb2⟩; rw [hd])
            go_ret
            exact ⟨ret_str (by simp [cmdB, hd]), hb2⟩
        · have b4 : (kind == 4) = false := beq_eq_false_iff_ne.2 h4
          by_cases h5 : kind = 5
          · subst h5
            by_cases h0 : s.size = 0
            · obtain rfl := empty_of h0
              go_enter Tryd.func24, Tryd.ntmps24
              go_wp2
              go_ret
              exact ⟨rfl, below1 _ _⟩
            · have hne := list_ne h0
              go_enter Tryd.func24, Tryd.ntmps24
              go_wp2
              go_ret
              exact ⟨ret_str (by simp [cmdB, h0]), Below.refl _ _⟩
          · have b5 : (kind == 5) = false := beq_eq_false_iff_ne.2 h5
            by_cases h6 : kind = 6
            · subst h6
              by_cases h0 : s.size = 0
              · obtain rfl := empty_of h0
                go_enter Tryd.func24, Tryd.ntmps24
                go_wp2
                go_ret
                exact ⟨rfl, below1 _ _⟩
              · have hne := list_ne h0
                go_enter Tryd.func24, Tryd.ntmps24
                go_wp2
                go_ret
                exact ⟨ret_str (by simp [cmdB, h0]), Below.refl _ _⟩
            · have b6 : (kind == 6) = false := beq_eq_false_iff_ne.2 h6
              go_enter Tryd.func24, Tryd.ntmps24
              go_wp2
              go_ret
              exact ⟨ret_str (by simp [cmdB, h1, h2, h3, h4, h5, h6]), Below.refl _ _⟩
end Go.Proofs.YticfnfplpccmgacDoor
