import Derived.Test.YtnbbhegcijogiaaDoorSts
namespace Go.Proofs.YtnbbhegcijogiaaDoor
open Go.ChangeShapes Go.WideShapes Go.ChangeAt Go.RowKit

set_option maxHeartbeats 1000000 in
set_option maxRecDepth 100000 in
theorem eqStrs (v1 v2 : Value) (L : List ByteArray) (lo1 lo2 : Nat) (w : World) (h1 : Strs w lo1 v1 L) (h2 : Strs w lo2 v2 L) :
    Calls Tryd.prog 11 #[v1, v2] w fun e w' => e = .returned (.bool true) ∧ Below w.heap.size w w' := by
  by_cases h0 : L.length = 0
  · obtain ⟨a1, c1, rfl⟩ : ∃ a c, v1 = .slice a 0 c := by
      rcases h1.cases with ⟨rfl, _⟩ | ⟨g, cap, rfl, _⟩
      · exact ⟨_, _, rfl⟩
      · rw [h0]; exact ⟨_, _, rfl⟩
    obtain ⟨a2, c2, rfl⟩ : ∃ a c, v2 = .slice a 0 c := by
      rcases h2.cases with ⟨rfl, _⟩ | ⟨g, cap, rfl, _⟩
      · exact ⟨_, _, rfl⟩
      · rw [h0]; exact ⟨_, _, rfl⟩
    clear h1 h2 h0
    go_enter Tryd.func11, Tryd.ntmps11
    go_wp2
    refine wp_loop_rounds 1 ?_; rw [rounds_succ]
    go_wp2
    go_ret
    exact ⟨rfl, Below.refl _ _⟩
  · obtain ⟨g1, c1, rfl, s1⟩ : ∃ g cap, v1 = .slice (some ⟨g, 0, none⟩) L.length cap ∧ StrsAt w lo1 g cap L := by
      rcases h1.cases with ⟨_, hL⟩ | h
      · rw [hL] at h0; exact absurd rfl h0
      · exact h
    obtain ⟨g2, c2, rfl, s2⟩ : ∃ g cap, v2 = .slice (some ⟨g, 0, none⟩) L.length cap ∧ StrsAt w lo2 g cap L := by
      rcases h2.cases with ⟨_, hL⟩ | h
      · rw [hL] at h0; exact absurd rfl h0
      · exact h
    clear h1 h2
    have hl1 := s1.len
    have hm1 := s1.cap
    have hl2 := s2.len
    have hm2 := s2.cap
    unfold maxLen at hm1 hm2
    go_enter Tryd.func11, Tryd.ntmps11
    go_wp2
    go_loopw [5] (fun i wr => ∃ k j : Nat, k ≤ L.length ∧ i = .int .i64 k ∧ wr = w.drewN j) (fun i _ => L.length - (intOf i).toNat)
    case atStart => exact ⟨0, 0, Nat.zero_le _, rfl, rfl⟩
    case round =>
      obtain ⟨k, j, hk, rfl, rfl⟩ := hrel
      by_cases hlt : k < L.length
      · have e1 := s1.cell k hlt
        have e2 := s2.cell k hlt
        generalize L[k] = X at e1 e2
        go_wp2
        go_quiet (fail)
        go_wp2
        go_roundw
        case rel => exact ⟨k + 1, j + nq, by omega, by go_num, rfl⟩
        case measure => simp [intOf]; omega
      · go_wp2
        go_ret
        exact ⟨rfl, Go.Joins.below_draws _ _ _⟩
end Go.Proofs.YtnbbhegcijogiaaDoor
