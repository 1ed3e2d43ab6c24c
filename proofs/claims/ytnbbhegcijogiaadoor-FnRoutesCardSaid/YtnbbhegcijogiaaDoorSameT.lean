import Derived.Test.YtnbbhegcijogiaaDoorArgS
namespace Go.Proofs.YtnbbhegcijogiaaDoor
open Go.ChangeShapes Go.WideShapes Go.ChangeAt Go.RowKit

set_option maxHeartbeats 1000000 in
set_option maxRecDepth 100000 in
theorem sameT (v1 v2 : Value) (L : List ByteArray) (w : World) (h1 : ArgS w v1 L) (h2 : ArgS w v2 L) :
    Calls Tryd.prog 8 #[v1, v2] w fun e w' => e = .returned (.bool true) ∧ Below w.heap.size w w' := by
  obtain ⟨hL, _, hf1⟩ := h1
  obtain ⟨_, _, hf2⟩ := h2
  unfold maxLen at hL
  by_cases h0 : L = []
  · subst h0
    obtain ⟨a1, c1, rfl⟩ : ∃ a c, v1 = .slice a 0 c := by
      rcases hf1 with ⟨_, h⟩ | ⟨b, off, cap, rfl, _⟩
      · exact h
      · exact ⟨_, _, rfl⟩
    obtain ⟨a2, c2, rfl⟩ : ∃ a c, v2 = .slice a 0 c := by
      rcases hf2 with ⟨_, h⟩ | ⟨b, off, cap, rfl, _⟩
      · exact h
      · exact ⟨_, _, rfl⟩
    clear hf1 hf2
    go_enter Tryd.func8, Tryd.ntmps8
    go_wp2
    refine wp_loop_rounds 1 ?_; rw [rounds_succ]
    go_wp2
    go_ret
    exact ⟨rfl, Below.refl _ _⟩
  · obtain ⟨g1, o1, c1, hv1, hc1⟩ : ∃ b off cap, v1 = .slice (some ⟨b, off, none⟩) L.length cap ∧ ∀ i (hi : i < L.length), w.cell? ⟨b, off + i, none⟩ = some (.string L[i]) := by
      rcases hf1 with ⟨h, _⟩ | ⟨b, off, cap, hv, _, hc⟩
      · exact absurd h h0
      · exact ⟨b, off, cap, hv, hc⟩
    obtain ⟨g2, o2, c2, hv2, hc2⟩ : ∃ b off cap, v2 = .slice (some ⟨b, off, none⟩) L.length cap ∧ ∀ i (hi : i < L.length), w.cell? ⟨b, off + i, none⟩ = some (.string L[i]) := by
      rcases hf2 with ⟨h, _⟩ | ⟨b, off, cap, hv, _, hc⟩
      · exact absurd h h0
      · exact ⟨b, off, cap, hv, hc⟩
    have HC1 : Hid (∀ i (hi : i < L.length), w.cell? ⟨g1, o1 + i, none⟩ = some (.string L[i])) := hc1
    have HC2 : Hid (∀ i (hi : i < L.length), w.cell? ⟨g2, o2 + i, none⟩ = some (.string L[i])) := hc2
    subst hv1 hv2
    clear hf1 hf2 hc1 hc2
    go_enter Tryd.func8, Tryd.ntmps8
    go_wp2
    go_loop [5, 6, 14] (fun _ _ i => ∃ k : Nat, k ≤ L.length ∧ i = .int .i64 k) (fun _ _ i => L.length - (intOf i).toNat)
    case atStart => exact ⟨0, Nat.zero_le _, rfl⟩
    case round =>
      obtain ⟨k, hk, rfl⟩ := hrel
      by_cases hlt : k < L.length
      · have e1 := HC1.out k hlt
        have e2 := HC2.out k hlt
        generalize L[k] = X at e1 e2
        go_wp2
        go_round
        case rel => exact ⟨k + 1, by omega, by go_num⟩
        case measure => simp [intOf]; omega
      · go_wp2
        go_ret
        exact ⟨rfl, Below.refl _ _⟩
end Go.Proofs.YtnbbhegcijogiaaDoor
