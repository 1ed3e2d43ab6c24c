import Derived.Test.YtnbbhegcijogiaaDoorMarkS
namespace Go.Proofs.YtnbbhegcijogiaaDoor
open Go.ChangeShapes Go.WideShapes Go.ChangeAt Go.RowKit
attribute [local go_sem ↓] Go.wp_at_zero Go.wp_at_succ

set_option maxHeartbeats 1000000 in
set_option maxRecDepth 100000 in
theorem heldStrs (v : Value) (n lo k : Nat) (w : World) (h : Strs w lo v (marks k n)) (hk : 1 ≤ k) (hm : k + n ≤ 16777216) :
    Calls Tryd.prog 15 #[v, .int .i64 k] w fun e w' => e = .returned (.int .i64 ((k + n : Nat) : Int)) ∧ Below w.heap.size w w' := by
  by_cases h0 : n = 0
  · obtain ⟨a1, c1, hv⟩ : ∃ a c, v = .slice a 0 c := by
      rcases h.cases with ⟨rfl, _⟩ | ⟨g, cap, rfl, _⟩
      · exact ⟨_, _, rfl⟩
      · rw [marks_length, h0]; exact ⟨_, _, rfl⟩
    subst hv h0
    clear h
    go_enter Tryd.func15, Tryd.ntmps15
    go_wp2
    refine wp_loop_rounds 1 ?_; rw [rounds_succ]
    go_wp2
    go_ret
    exact ⟨rfl, Below.refl _ _⟩
  · obtain ⟨g, cap, hv, hs⟩ : ∃ g cap, v = .slice (some ⟨g, 0, none⟩) n cap ∧ StrsAt w lo g cap (marks k n) := by
      rcases h.cases with ⟨_, hL⟩ | ⟨g, cap, hv, hs⟩
      · have := congrArg List.length hL; rw [marks_length] at this; exact absurd this h0
      · rw [marks_length] at hv; exact ⟨g, cap, hv, hs⟩
    subst hv
    clear h
    have hcell : Hid (∀ j, j < n → w.cell? ⟨g, j, none⟩ = some (.string (markT (k + j)))) := by
      intro j hj
      rw [← marks_get k n j (by rw [marks_length]; exact hj)]; exact hs.cell j (by rw [marks_length]; exact hj)
    have hg := hs.lt
    clear hs
    go_enter Tryd.func15, Tryd.ntmps15
    go_wp2
    go_loopw [1, 5] (fun kv i wr => ∃ j : Nat, j ≤ n ∧ i = .int .i64 j ∧ kv = .int .i64 ((k + j : Nat) : Int) ∧ Below w.heap.size w wr) (fun _ i _ => n - (intOf i).toNat)
    case atStart => exact ⟨0, Nat.zero_le _, rfl, rfl, Below.refl _ _⟩
    case round =>
      obtain ⟨j, hj, rfl, rfl, hb⟩ := hrel
      by_cases hlt : j < n
      · have ec := (hb.cell (p := ⟨g, j, none⟩) hg).trans (hcell.out j hlt)
        have hgr : g < wr.heap.size := by have := hb.size; omega
        have hkj : ((k : Int) + (j : Int)).toNat = k + j := by omega
        go_wp2_with fail
        go_region_with (go_at_call 33; refine (markTextI _ _ (by omega) (by omega)).mono ?_; rw [hkj]; rintro e w1 ⟨rfl, hb1⟩; have ec1 := (hb1.cell (p := ⟨g, j, none⟩) hgr).trans ec)
        all_goals
          clear hkj
          go_wp2
          go_roundw
          case rel => exact ⟨j + 1, by omega, by go_num, by go_num, hb.drew.trans (hb1.mono hb.size)⟩
          case measure => simp [intOf]; omega
      · obtain rfl : j = n := by omega
        go_wp2
        go_ret
        exact ⟨rfl, hb⟩
end Go.Proofs.YtnbbhegcijogiaaDoor
