import Derived.Test.YtnbbhegcijogiaaDoorMarkS
import Derived.Test.YtnbbhegcijogiaaDoorOff
namespace Go.Proofs.YtnbbhegcijogiaaDoor
open Go.ChangeShapes Go.WideShapes Go.ChangeAt Go.RowKit

set_option maxHeartbeats 1000000 in
set_option maxRecDepth 100000 in
theorem markStrsO (v : Value) (L : List ByteArray) (lo k : Nat) (w : World) (h : Strs w lo v L) (hk : 1 ≤ k) (hm : k + L.length ≤ 16777216) :
    Calls Tryd.prog 14 #[v, .int .i64 k] w fun e w' => e = .returned (.int .i64 ((k + L.length : Nat) : Int)) ∧ Strs w' lo v (marks k L.length) ∧ OffV v w w' := by
  by_cases h0 : L.length = 0
  · have HS : Hid (Strs w lo v (marks k L.length)) := by
      rw [h0]
      have hL := List.eq_nil_of_length_eq_zero h0
      rw [hL] at h
      exact h
    have hk0 : k + L.length = k := by omega
    rw [hk0]
    obtain ⟨a1, c1, hv⟩ : ∃ a c, v = .slice a 0 c := by
      rcases h.cases with ⟨rfl, _⟩ | ⟨g, cap, rfl, _⟩
      · exact ⟨_, _, rfl⟩
      · rw [h0]; exact ⟨_, _, rfl⟩
    subst hv
    clear h h0 hk0
    go_enter Tryd.func14, Tryd.ntmps14
    go_wp2
    refine wp_loop_rounds 1 ?_; rw [rounds_succ]
    go_wp2
    go_ret
    exact ⟨rfl, HS.out, .inr (Below.refl _ _)⟩
  · obtain ⟨g, cap, hv, _⟩ : ∃ g cap, v = .slice (some ⟨g, 0, none⟩) L.length cap ∧ StrsAt w lo g cap L := by
      rcases h.cases with ⟨_, hL⟩ | h
      · rw [hL] at h0; exact absurd rfl h0
      · exact h
    subst hv
    have HI : Hid (Strs w lo (.slice (some ⟨g, 0, none⟩) L.length cap) (marks k 0 ++ L.drop 0)) := h
    clear h
    have hl1 : L.length ≤ 16777216 := by omega
    go_enter Tryd.func14, Tryd.ntmps14
    go_wp2
    go_loopw [1, 5] (fun kv i wr => ∃ j : Nat, j ≤ L.length ∧ i = .int .i64 j ∧ kv = .int .i64 ((k + j : Nat) : Int) ∧ Hid (Strs wr lo (.slice (some ⟨g, 0, none⟩) L.length cap) (marks k j ++ L.drop j)) ∧ Off g w wr) (fun _ i _ => L.length - (intOf i).toNat)
    case atStart => exact ⟨0, Nat.zero_le _, rfl, rfl, HI, Off.refl _ _⟩
    case round =>
      obtain ⟨j, hj, rfl, rfl, HS, hb⟩ := hrel
      by_cases hlt : j < L.length
      · go_wp2_with fail
        refine (markTextI _ _ (by omega) (by omega)).mono ?_
        rintro e w1 ⟨rfl, hb1⟩
        have hkj : ((k : Int) + (j : Int)).toNat = k + j := by omega
        rw [hkj]
        have HS1 : Hid (Strs w1 lo (.slice (some ⟨g, 0, none⟩) L.length cap) (marks k j ++ L.drop j)) := strs_below HS.out hb1 (Nat.le_refl _)
        have hlen : (marks k j ++ L.drop j).length = L.length := by simp [marks_length]; omega
        obtain ⟨x, ec⟩ : ∃ x, w1.cell? ⟨g, j, none⟩ = some (.string x) := ⟨_, HS1.out.at.1.cell j (by omega)⟩
        have ef := HS1.out.at.1.free j
        have hg : lo ≤ g := HS1.out.at.1.lo
        clear hkj hlen
        go_wp2
        go_roundw
        case rel =>
          refine ⟨j + 1, by omega, by go_num, by go_num, ?_, (hb.trans (Off.of_below hb1)).setCell _⟩
          show Strs _ _ _ _
          rw [← marks_step k j L hlt]
          exact strs_set HS1.out _
        case measure => simp [intOf]; omega
      · obtain rfl : j = L.length := by omega
        go_wp2
        go_ret
        refine ⟨rfl, ?_, .inl ⟨g, rfl, hb⟩⟩
        have e := HS.out
        rw [List.drop_length, List.append_nil] at e
        exact e
end Go.Proofs.YtnbbhegcijogiaaDoor
