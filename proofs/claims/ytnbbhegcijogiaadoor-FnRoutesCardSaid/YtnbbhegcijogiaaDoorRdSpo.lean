import Derived.Test.YtnbbhegcijogiaaDoorRdPck
namespace Go.Proofs.YtnbbhegcijogiaaDoor
open Go.ChangeShapes Go.WideShapes Go.ChangeAt Go.RowKit

set_option maxHeartbeats 1000000 in
set_option maxRecDepth 100000 in
theorem rdTwo (b p : Nat) (cv : Value) (B : List UInt8) (w : World) (h : RdAt w b cv B p) :
    Calls Tryd.prog 21 #[.pointer (some ⟨b, 0, none⟩)] w fun e w' => (∃ n q : Nat, n < 65536 ∧ e = .returned (.int .i64 (n : Int)) ∧ RdAt w' b cv B q) ∧ Off b w w' := by
  have H : Hid (RdAt w b cv B p) := h
  clear h
  go_enter Tryd.func21, Tryd.ntmps21
  go_wp2_with fail
  refine (rdNext b p cv B _ H.out).mono ?_
  rintro e w1 ⟨rfl, h1, ho1⟩
  have hc := nx_lt B p
  generalize nx B p = c at *
  have H1 : Hid (RdAt w1 b cv B (px B p)) := h1
  clear h1
  go_wp2_with fail
  refine (rdNext b (px B p) cv B _ H1.out).mono ?_
  rintro e w2 ⟨rfl, h2, ho2⟩
  have hd := nx_lt B (px B p)
  have H2 : Hid (RdAt w2 b cv B (px B (px B p))) := h2
  clear h2
  generalize nx B (px B p) = d at *
  go_wp2
  go_ret
  exact ⟨⟨c * 256 + d, _, by omega, by go_num, H2.out⟩, ho1.trans ho2⟩

def spoils : List ByteArray := [⟨#[]⟩, ⟨#[64]⟩, ⟨#[46]⟩, ⟨#[45]⟩, ⟨#[46, 46]⟩, ⟨#[65]⟩, ⟨#[13]⟩, ⟨#[10]⟩, ⟨#[13, 10]⟩, ⟨#[32]⟩, ⟨#[0]⟩, ⟨#[48]⟩, ⟨#[50, 53, 48, 32, 111, 107, 13, 10]⟩, ⟨#[120]⟩]
set_option maxHeartbeats 1000000 in
set_option maxRecDepth 100000 in
theorem rdSpoil (b p : Nat) (cv : Value) (B : List UInt8) (s : ByteArray) (w : World) (h : RdAt w b cv B p) (hs : s.size ≤ 1048576) :
    Calls Tryd.prog 18 #[.pointer (some ⟨b, 0, none⟩), .string s] w fun e w' => (∃ (t : ByteArray) (q : Nat), t.size ≤ s.size + 8 ∧ e = .returned (.string t) ∧ RdAt w' b cv B q) ∧ Off b w w' := by
  have H : Hid (RdAt w b cv B p) := h
  clear h
  by_cases h0 : 0 < s.size
  · go_enter Tryd.func18, Tryd.ntmps18
    go_wp2_with fail
    refine (rdTwo b p cv B _ H.out).mono ?_
    rintro e w1 ⟨⟨n, q1, hn, rfl, h1⟩, ho1⟩
    have H1 : Hid (RdAt w1 b cv B q1) := h1
    clear h1
    obtain ⟨a, ha, hal⟩ : ∃ a : Nat, (n : Int) % (s.size : Int) = (a : Int) ∧ a < s.size := ⟨n % s.size, by simp, Nat.mod_lt _ h0⟩
    go_wp2_with fail
    refine (rdNext b q1 cv B _ H1.out).mono ?_
    rintro e w2 ⟨rfl, h2, ho2⟩
    have hd := nx_lt B q1
    have H2 : Hid (RdAt w2 b cv B (px B q1)) := h2
    clear h2
    generalize nx B q1 = d at *
    generalize px B q1 = q2 at *
    obtain ⟨m, hm, hm8⟩ : ∃ m : Nat, (d : Int) % 14 = (m : Int) ∧ m < 14 := ⟨d % 14, by omega, by omega⟩
    obtain ⟨y, hy, ey⟩ := pickV spoils 8 (by decide) m hm8
    simp only [spoils, List.map_cons, List.map_nil] at ey
    obtain ⟨t, ht, ht2⟩ : ∃ t : Nat, (a : Int) + (d : Int) / 64 % 3 = (t : Int) ∧ a ≤ t := ⟨a + d / 64 % 3, by omega, by omega⟩
    by_cases htl : t ≤ s.size
    · have hti : ¬ (s.size : Int) < (t : Int) := by omega
      have hai : (a : Int) ≤ s.size := by omega
      go_wp2_with fail
      go_quiet (fail)
      go_wp2
      go_ret
      refine ⟨⟨_, q2, ?_, rfl, H2.out.below (bel_drewN (below1 _ _) _) (Nat.le_refl _)⟩, (ho1.trans ho2).trans (Off.of_below (bel_drewN (below1 _ _) _))⟩
      try simp only [ByteArray.size_append, ByteArray.size_extract]
      have e0 : (⟨#[]⟩ : ByteArray).size = 0 := rfl
      try simp only [e0]
      omega
    · have hti : (s.size : Int) < (t : Int) := by omega
      have hai : (a : Int) ≤ s.size := by omega
      go_wp2_with fail
      go_quiet (fail)
      go_wp2
      go_ret
      refine ⟨⟨_, q2, ?_, rfl, H2.out.below (bel_drewN (below1 _ _) _) (Nat.le_refl _)⟩, (ho1.trans ho2).trans (Off.of_below (bel_drewN (below1 _ _) _))⟩
      try simp only [ByteArray.size_append, ByteArray.size_extract]
      have e0 : (⟨#[]⟩ : ByteArray).size = 0 := rfl
      try simp only [e0]
      omega
  · have hs0 : s.size = 0 := by omega
    go_enter Tryd.func18, Tryd.ntmps18
    go_wp2_with fail
    refine (rdNext b p cv B _ H.out).mono ?_
    rintro e w2 ⟨rfl, h2, ho2⟩
    have hd := nx_lt B p
    have H2 : Hid (RdAt w2 b cv B (px B p)) := h2
    clear h2
    generalize nx B p = d at *
    generalize px B p = q2 at *
    obtain ⟨m, hm, hm8⟩ : ∃ m : Nat, (d : Int) % 14 = (m : Int) ∧ m < 14 := ⟨d % 14, by omega, by omega⟩
    obtain ⟨y, hy, ey⟩ := pickV spoils 8 (by decide) m hm8
    simp only [spoils, List.map_cons, List.map_nil] at ey
    obtain ⟨t, ht⟩ : ∃ t : Nat, (d : Int) / 64 % 3 = (t : Int) := ⟨d / 64 % 3, by omega⟩
    by_cases htl : t ≤ s.size
    · have hti : ¬ (s.size : Int) < (t : Int) := by omega
      have ht0 : t = 0 := by omega
      subst ht0
      have hai : (0 : Int) ≤ s.size := by omega
      go_wp2_with fail
      go_quiet (fail)
      go_wp2
      go_ret
      refine ⟨⟨_, q2, ?_, rfl, H2.out.below (bel_drewN (below1 _ _) _) (Nat.le_refl _)⟩, ho2.trans (Off.of_below (bel_drewN (below1 _ _) _))⟩
      try simp only [ByteArray.size_append, ByteArray.size_extract]
      have e0 : (⟨#[]⟩ : ByteArray).size = 0 := rfl
      try simp only [e0]
      omega
    · have hti : (s.size : Int) < (t : Int) := by omega
      have hai : (0 : Int) ≤ s.size := by omega
      go_wp2_with fail
      go_quiet (fail)
      go_wp2
      go_ret
      refine ⟨⟨_, q2, ?_, rfl, H2.out.below (bel_drewN (below1 _ _) _) (Nat.le_refl _)⟩, ho2.trans (Off.of_below (bel_drewN (below1 _ _) _))⟩
      try simp only [ByteArray.size_append, ByteArray.size_extract]
      have e0 : (⟨#[]⟩ : ByteArray).size = 0 := rfl
      try simp only [e0]
      omega
end Go.Proofs.YtnbbhegcijogiaaDoor
