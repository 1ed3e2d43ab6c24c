import Derived.Test.YtnbbhegcijogiaaDoorRdSpo
import Derived.Test.YtnbbhegcijogiaaDoorRdFill
import Derived.Test.YtnbbhegcijogiaaDoorSDec
namespace Go.Proofs.YtnbbhegcijogiaaDoor
open Go.ChangeShapes Go.WideShapes Go.ChangeAt Go.RowKit

def doms : List ByteArray := [⟨#[111, 110, 101, 46, 101, 120, 97, 109, 112, 108, 101]⟩, ⟨#[116, 119, 111, 46, 101, 120, 97, 109, 112, 108, 101]⟩, ⟨#[116, 104, 114, 101, 101, 46, 101, 120, 97, 109, 112, 108, 101]⟩, ⟨#[109, 120, 46, 111, 110, 101, 46, 101, 120, 97, 109, 112, 108, 101]⟩, ⟨#[97, 46, 98]⟩]
theorem dec_small {n : Nat} (h : n < 1000) : (⟨(Lib.decDigits n).toArray⟩ : ByteArray).size ≤ 3 := by
  have := dec_len 3 n h (by decide)
  simpa [ByteArray.size] using this

set_option maxHeartbeats 1000000 in
set_option maxRecDepth 100000 in
theorem rdDom (b p : Nat) (cv : Value) (B : List UInt8) (w : World) (h : RdAt w b cv B p) :
    Calls Tryd.prog 17 #[.pointer (some ⟨b, 0, none⟩)] w fun e w' => (∃ (t : ByteArray) (q : Nat), t.size ≤ 200 ∧ e = .returned (.string t) ∧ RdAt w' b cv B q) ∧ Off b w w' := by
  have H : Hid (RdAt w b cv B p) := h
  clear h
  go_enter Tryd.func17, Tryd.ntmps17
  go_wp2_with fail
  refine (rdNext b p cv B _ H.out).mono ?_
  rintro e w1 ⟨rfl, h1, ho1⟩
  have hc := nx_lt B p
  have H1 : Hid (RdAt w1 b cv B (px B p)) := h1
  clear h1
  generalize nx B p = c at *
  generalize px B p = q1 at *
  by_cases c255 : c = 255
  · subst c255
    go_wp2_with fail
    refine (fill 63 _ (by decide)).mono ?_
    rintro e w2 ⟨rfl, hb2⟩
    have hs2 := fill_size 63
    generalize ofInts (fillL 63) = F1 at *
    go_wp2_with fail
    refine (fill 36 _ (by decide)).mono ?_
    rintro e w3 ⟨rfl, hb3⟩
    have hs3 := fill_size 36
    generalize ofInts (fillL 36) = F2 at *
    have hb13 : Below w1.heap.size w1 w3 := hb2.trans (hb3.mono hb2.size)
    have e46 : (⟨#[46]⟩ : ByteArray).size = 1 := rfl
    go_wp2
    go_ret
    refine ⟨⟨_, q1, ?_, rfl, H1.out.below hb13 (Nat.le_refl _)⟩, ho1.trans (Off.of_below hb13)⟩
    simp only [ByteArray.size_append]
    omega
  · have c255b : ((c : Int) == 255) = false := beq_eq_false_iff_ne.2 (by omega)
    by_cases c254 : c = 254
    · subst c254
      go_wp2_with fail
      refine (rdNext b q1 cv B _ H1.out).mono ?_
      rintro e w2 ⟨rfl, h2, ho2⟩
      have hd := nx_lt B q1
      have H2 : Hid (RdAt w2 b cv B (px B q1)) := h2
      clear h2
      generalize nx B q1 = d at *
      go_wp2_with fail
      refine (specDec d d (Nat.le_refl _) (by omega) _).mono ?_
      rintro e w3 ⟨rfl, hb3⟩
      have hs3 := dec_small (n := d) (by omega)
      generalize (⟨(Lib.decDigits d).toArray⟩ : ByteArray) = F2 at *
      have e7 : (⟨#[97, 45, 98, 46, 57, 46, 120]⟩ : ByteArray).size = 7 := rfl
      go_wp2
      go_ret
      refine ⟨⟨_, px B q1, ?_, rfl, H2.out.below hb3 (Nat.le_refl _)⟩, (ho1.trans ho2).trans (Off.of_below hb3)⟩
      simp only [ByteArray.size_append]
      omega
    · have c254b : ((c : Int) == 254) = false := beq_eq_false_iff_ne.2 (by omega)
      obtain ⟨m, hm, hm8⟩ : ∃ m : Nat, (c : Int) % 5 = (m : Int) ∧ m < 5 := ⟨c % 5, by omega, by omega⟩
      obtain ⟨y, hy, ey⟩ := pickV doms 14 (by decide) m hm8
      simp only [doms, List.map_cons, List.map_nil] at ey
      go_wp2
      go_ret
      exact ⟨⟨_, q1, by omega, rfl, H1.out.below (below1 _ _) (Nat.le_refl _)⟩, ho1.trans (Off.of_below (below1 _ _))⟩
end Go.Proofs.YtnbbhegcijogiaaDoor
