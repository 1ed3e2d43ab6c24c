import Derived.Test.YticfnfplpccmgadDoorRdSpo
import Derived.Test.YticfnfplpccmgadDoorRdFill
import Derived.Test.YticfnfplpccmgadDoorStf
import Derived.Test.YticfnfplpccmgadDoorUnsM
import Derived.Deep.RegionWith
import Derived.Deep.DrawnRows
namespace Go.Proofs.YticfnfplpccmgadDoor
open Go.ChangeShapes Go.WideShapes Go.ChangeAt Go.RowKit
open Pcs

def heads : List ByteArray := [⟨#[83, 117, 98, 106, 101, 99, 116, 58, 32, 104, 105]⟩, ⟨#[84, 111, 58, 32, 121, 111, 117]⟩, ⟨#[]⟩, ⟨#[46]⟩, ⟨#[46, 46, 120]⟩, ⟨#[115, 111, 109, 101, 32, 119, 111, 114, 100, 115]⟩, ⟨#[45, 45, 98, 48]⟩, ⟨#[46, 101, 110, 100]⟩]
set_option maxHeartbeats 2000000 in
set_option maxRecDepth 100000 in
theorem rdBody (b p : Nat) (cv : Value) (B : List UInt8) (w : World) (h : RdAt w b cv B p) :
    Calls Tryd.prog 36 #[.pointer (some ⟨b, 0, none⟩)] w fun e w' => (∃ (s : ByteArray) (q : Nat), s.size ≤ 4000 ∧ e = .returned (.string s) ∧ RdAt w' b cv B q) ∧ Off b w w' := by
  have H : Hid (RdAt w b cv B p) := h
  clear h
  go_enter Tryd.func36, Tryd.ntmps36
  go_wp2_with fail
  refine (rdNext b p cv B _ H.out).mono ?_
  rintro e w1 ⟨rfl, h1, ho1⟩
  have hc := nx_lt B p
  have H1 : Hid (RdAt w1 b cv B (px B p)) := h1
  clear h1
  generalize nx B p = c at *
  generalize px B p = q1 at *
  by_cases c1 : c = 255
  · subst c1
    have hf : Hid (∀ wx : World, Calls Tryd.prog 70 #[.int .i64 998] wx fun e w' => (∃ y : ByteArray, y.size = 998 ∧ e = .returned (.string y)) ∧ Below wx.heap.size wx w') := by
      intro wx
      refine (fill 998 wx (by decide)).mono ?_
      rintro e w' ⟨rfl, hb⟩
      exact ⟨⟨_, fill_size 998, rfl⟩, hb⟩
    go_wp2_with fail
    refine (hf.out _).mono ?_
    rintro e w2 ⟨⟨y1, hy1, rfl⟩, hb2⟩
    have H2 : Hid (RdAt w2 b cv B q1) := H1.out.below hb2 (Nat.le_refl _)
    have ho2 : Off b w w2 := ho1.trans (Off.of_below hb2)
    clear H1 ho1 hb2
    go_wp2_with fail
    refine (hf.out _).mono ?_
    rintro e w3 ⟨⟨y2, hy2, rfl⟩, hb3⟩
    have H3 : Hid (RdAt w3 b cv B q1) := H2.out.below hb3 (Nat.le_refl _)
    have ho3 : Off b w w3 := ho2.trans (Off.of_below hb3)
    clear H2 ho2 hb3
    go_wp2_with fail
    refine (hf.out _).mono ?_
    rintro e w4 ⟨⟨y3, hy3, rfl⟩, hb4⟩
    have H4 : Hid (RdAt w4 b cv B q1) := H3.out.below hb4 (Nat.le_refl _)
    have ho4 : Off b w w4 := ho3.trans (Off.of_below hb4)
    clear H3 ho3 hb4 hf
    go_wp2
    go_ret
    refine ⟨⟨_, q1, ?_, rfl, H4.out⟩, ho4⟩
    simp only [ByteArray.size_append]
    have e2 : (⟨#[13, 10]⟩ : ByteArray).size = 2 := rfl
    omega
  · have c1i : ((c : Int) == 255) = false := by rw [beq_eq_false_iff_ne]; omega
    by_cases c2 : c = 254
    · subst c2
      go_wp2
      go_ret
      exact ⟨⟨_, q1, by simp [ByteArray.size], rfl, H1.out⟩, ho1⟩
    · have c2i : ((c : Int) == 254) = false := by rw [beq_eq_false_iff_ne]; omega
      go_wp2_with fail
      go_loopw [4, 5] (fun sv nv wr => ∃ (n q : Nat) (s : ByteArray), sv = .string s ∧ nv = .int .i64 n ∧ n ≤ 5 ∧ s.size + n * 20 ≤ 100 ∧ Hid (RdAt wr b cv B q) ∧ Off b w wr) (fun _ nv _ => (intOf nv).toNat)
      case atStart => exact ⟨c % 6, q1, ⟨#[]⟩, rfl, by go_num, by omega, by simp [ByteArray.size]; omega, H1, ho1⟩
      case round =>
        obtain ⟨n, q, s, rfl, rfl, hn3, hsz, HR, ho2⟩ := hrel
        by_cases hn : 0 < n
        · go_wp2_with fail
          refine (rdNext b q cv B _ HR.out).mono ?_
          rintro e w2 ⟨rfl, h2, ho3⟩
          have hd := nx_lt B q
          have H2 : Hid (RdAt w2 b cv B (px B q)) := h2
          clear h2
          generalize nx B q = d at *
          generalize px B q = q2 at *
          obtain ⟨m, hm, hm8⟩ : ∃ m : Nat, (d : Int) % 8 = (m : Int) ∧ m < 8 := ⟨d % 8, by omega, by omega⟩
          obtain ⟨y, hy, ey⟩ := pickV heads 11 (by decide) m hm8
          simp only [heads, List.map_cons, List.map_nil] at ey
          go_wp2_with fail
          clear ey
          generalize hW : w2.alloc _ = W2
          have hb2 : Below w2.heap.size w2 W2 := by rw [← hW]; exact below1 _ _
          have HR2 : Hid (RdAt W2 b cv B q2) := H2.out.below hb2 (Nat.le_refl _)
          have ho4 : Off b w W2 := (ho2.trans ho3).trans (Off.of_below hb2)
          clear hW hb2 H2 ho3 ho2
          go_wp2
          go_roundw
          case rel =>
            refine ⟨n - 1, q2, _, rfl, by go_num, by omega, ?_, HR2, ho4⟩
            simp only [ByteArray.size_append]
            have e2 : (⟨#[13, 10]⟩ : ByteArray).size = 2 := rfl
            omega
          case measure => simp [intOf]; omega
        · obtain rfl : n = 0 := by omega
          go_wp2
          go_ret
          exact ⟨⟨s, q, by omega, rfl, HR.out⟩, ho2⟩

set_option maxHeartbeats 2000000 in
set_option maxRecDepth 100000 in
theorem drawStuff (cv : Value) (B : List UInt8) (w : World) (hC : CodeAt w cv B) :
    Calls Tryd.prog 8 #[cv] w fun e w' => (∃ s : ByteArray, s.size ≤ 10000 ∧ e = .returned (.string s)) ∧ Below w.heap.size w w' := by
  obtain ⟨ca, cc, rfl⟩ := hC.form
  have HN : Hid (RdAt (w.alloc (.cells #[.slice ca B.length cc, .int .i64 0] 62)) w.heap.size (.slice ca B.length cc) B 0) := rd_new w _ B hC
  clear hC
  go_enter Tryd.func8, Tryd.ntmps8
  go_wp2_with fail
  refine (rdNext _ _ _ B _ HN.out).mono ?_
  rintro e w1 ⟨rfl, h1, ho1⟩
  have hc := nx_lt B 0
  have H1 : Hid (RdAt w1 w.heap.size (.slice ca B.length cc) B (px B 0)) := h1
  have hbl1 : Below w.heap.size w w1 := (below1 w _).trans (ho1.below (by simp))
  clear h1 HN ho1
  generalize nx B 0 = c at *
  generalize px B 0 = q1 at *
  go_wp2_with fail
  refine (rdBody _ _ _ B _ H1.out).mono ?_
  rintro e w2 ⟨⟨s, q2, hs, rfl, h2⟩, ho2⟩
  have H2 : Hid (RdAt w2 w.heap.size (.slice ca B.length cc) B q2) := h2
  have hbl2 : Below w.heap.size w w2 := hbl1.trans (ho2.below (hbl1.size))
  clear h2 H1 ho2 hbl1
  by_cases c4 : c % 6 = 5
  · have c4i : ((c : Int) % 6 == 5) = true := by rw [beq_iff_eq]; omega
    go_wp2_with fail
    refine (rdSpoil _ _ _ B s _ H2.out (by omega)).mono ?_
    rintro e w3 ⟨⟨t, q3, ht, rfl, h3⟩, ho3⟩
    have hbl3 : Below w.heap.size w w3 := hbl2.trans (ho3.below hbl2.size)
    clear h3 H2 ho3
    go_wp2
    go_ret
    exact ⟨⟨_, by omega, rfl⟩, hbl3⟩
  · have c4i : ((c : Int) % 6 == 5) = false := by rw [beq_eq_false_iff_ne]; omega
    go_wp2
    go_ret
    exact ⟨⟨_, by omega, rfl⟩, hbl2⟩

theorem stuffB_le (s : ByteArray) : (stuffB s).size ≤ 6003 := by
  cases h : bodyOk s with
  | true => exact stuff_size h
  | false => unfold stuffB; rw [h]; exact Nat.zero_le _

set_option maxHeartbeats 2000000 in
set_option maxRecDepth 100000 in
theorem drawUnstuff (cv : Value) (B : List UInt8) (w : World) (hC : CodeAt w cv B) :
    Calls Tryd.prog 14 #[cv] w fun e w' => (∃ s : ByteArray, s.size ≤ 10000 ∧ e = .returned (.string s)) ∧ Below w.heap.size w w' := by
  obtain ⟨ca, cc, rfl⟩ := hC.form
  have HN : Hid (RdAt (w.alloc (.cells #[.slice ca B.length cc, .int .i64 0] 62)) w.heap.size (.slice ca B.length cc) B 0) := rd_new w _ B hC
  clear hC
  go_enter Tryd.func14, Tryd.ntmps14
  go_wp2_with fail
  refine (rdNext _ _ _ B _ HN.out).mono ?_
  rintro e w1 ⟨rfl, h1, ho1⟩
  have hc := nx_lt B 0
  have H1 : Hid (RdAt w1 w.heap.size (.slice ca B.length cc) B (px B 0)) := h1
  have hbl1 : Below w.heap.size w w1 := (below1 w _).trans (ho1.below (by simp))
  clear h1 HN ho1
  generalize nx B 0 = c at *
  generalize px B 0 = q1 at *
  go_wp2_with fail
  refine (rdBody _ _ _ B _ H1.out).mono ?_
  rintro e w2 ⟨⟨s0, q2, hs0, rfl, h2⟩, ho2⟩
  have H2 : Hid (RdAt w2 w.heap.size (.slice ca B.length cc) B q2) := h2
  have hbl2 : Below w.heap.size w w2 := hbl1.trans (ho2.below (hbl1.size))
  clear h2 H1 ho2 hbl1
  go_wp2_with fail
  refine (specStuff s0 _ (by omega)).mono ?_
  rintro e w3 ⟨rfl, hb3⟩
  have hs := stuffB_le s0
  generalize stuffB s0 = s at *
  have H3 : Hid (RdAt w3 w.heap.size (.slice ca B.length cc) B q2) := H2.out.below hb3 (Nat.le_refl _)
  have hbl3 : Below w.heap.size w w3 := hbl2.trans (hb3.mono hbl2.size)
  clear H2 hb3 hbl2
  by_cases c4 : c % 4 = 3
  · have c4i : ((c : Int) % 4 == 3) = true := by rw [beq_iff_eq]; omega
    go_wp2_with fail
    refine (rdSpoil _ _ _ B s _ H3.out (by omega)).mono ?_
    rintro e w4 ⟨⟨t, q3, ht, rfl, h3⟩, ho3⟩
    have hbl4 : Below w.heap.size w w4 := hbl3.trans (ho3.below hbl3.size)
    clear h3 H3 ho3
    go_wp2
    go_ret
    exact ⟨⟨_, by omega, rfl⟩, hbl4⟩
  · have c4i : ((c : Int) % 4 == 3) = false := by rw [beq_eq_false_iff_ne]; omega
    go_wp2
    go_ret
    exact ⟨⟨_, by omega, rfl⟩, hbl3⟩
end Go.Proofs.YticfnfplpccmgadDoor
