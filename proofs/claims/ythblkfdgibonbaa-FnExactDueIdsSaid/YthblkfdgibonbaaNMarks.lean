import Derived.Test.YthblkfdgibonbaaIns
import Derived.Test.YthblkfdgibonbaaOff
namespace Go.Proofs.Ythblkfdgibonbaa
open Go.ChangeShapes Go.WideShapes Go.ChangeAt Go.RowKit

/-- the nmarks from k on -/
def nmarks (k n : Nat) : List Int := (List.range n).map fun i => ((k + i : Nat) : Int)
set_option maxRecDepth 100000 in
theorem nmarks_length (k n : Nat) : (nmarks k n).length = n := by simp [nmarks]
theorem nmarks_step (k j : Nat) (L : List Int) (hj : j < L.length) : (nmarks k j ++ L.drop j).set j ((k + j : Nat) : Int) = nmarks k (j + 1) ++ L.drop (j + 1) := by
  rw [List.set_append_right _ _ (by rw [nmarks_length]; exact Nat.le_refl _), nmarks_length, Nat.sub_self, List.drop_eq_getElem_cons hj, List.set_cons_zero]
  simp [nmarks, List.range_succ]

set_option maxHeartbeats 1000000 in
set_option maxRecDepth 100000 in
theorem markIns (v : Value) (L : List Int) (lo k : Nat) (w : World) (h : Ins w lo v L) (hk : 1 ≤ k) (hm : k + L.length ≤ 16777216) :
    Calls Try.prog 20 #[v, .int .i64 k] w fun e w' => e = .returned (.int .i64 ((k + L.length : Nat) : Int)) ∧ Ins w' lo v (nmarks k L.length) ∧ OffV v w w' := by
  by_cases h0 : L.length = 0
  · have HS : Hid (Ins w lo v (nmarks k L.length)) := by
      rw [h0]
      have hL := List.eq_nil_of_length_eq_zero h0
      rw [hL] at h
      exact h
    have hk0 : k + L.length = k := by omega
    rw [hk0]
    obtain ⟨a1, c1, hv⟩ : ∃ a c, v = .slice a 0 c := by
      rcases h.cases with ⟨rfl, _⟩ | ⟨g, cap, rfl, _⟩
      · exact ⟨_, _, rfl⟩
      · rw [h0]; exact ⟨_, _, rfl⟩
    subst hv
    clear h h0 hk0
    go_enter Try.func20, Try.ntmps20
    go_wp2
    refine wp_loop_rounds 1 ?_; rw [rounds_succ]
    go_wp2
    go_ret
    exact ⟨rfl, HS.out, .inr (Below.refl _ _)⟩
  · obtain ⟨g, cap, hv, _⟩ : ∃ g cap, v = .slice (some ⟨g, 0, none⟩) L.length cap ∧ InsAt w lo g cap L := by
      rcases h.cases with ⟨_, hL⟩ | h
      · rw [hL] at h0; exact absurd rfl h0
      · exact h
    subst hv
    have HI : Hid (Ins w lo (.slice (some ⟨g, 0, none⟩) L.length cap) (nmarks k 0 ++ L.drop 0)) := h
    clear h
    have hl1 : L.length ≤ 16777216 := by omega
    go_enter Try.func20, Try.ntmps20
    go_wp2
    go_loopw [1, 5] (fun kv i wr => ∃ j : Nat, j ≤ L.length ∧ i = .int .i64 j ∧ kv = .int .i64 ((k + j : Nat) : Int) ∧ Hid (Ins wr lo (.slice (some ⟨g, 0, none⟩) L.length cap) (nmarks k j ++ L.drop j)) ∧ Off g w wr) (fun _ i _ => L.length - (intOf i).toNat)
    case atStart => exact ⟨0, Nat.zero_le _, rfl, rfl, HI, Off.refl _ _⟩
    case round =>
      obtain ⟨j, hj, rfl, rfl, HS, hb⟩ := hrel
      by_cases hlt : j < L.length
      · have HS1 := HS
        have hlen : (nmarks k j ++ L.drop j).length = L.length := by simp [nmarks_length]; omega
        obtain ⟨x, ec⟩ : ∃ x, wr.cell? ⟨g, j, none⟩ = some (.int .i64 x) := ⟨_, HS1.out.at.1.cell j (by omega)⟩
        have ef := HS1.out.at.1.free j
        have hg : lo ≤ g := HS1.out.at.1.lo
        clear hlen
        go_wp2
        go_roundw
        case rel =>
          refine ⟨j + 1, by omega, by go_num, by go_num, ?_, hb.setCell _⟩
          show Ins _ _ _ _
          rw [← nmarks_step k j L hlt]
          exact ins_set HS1.out _
        case measure => simp [intOf]; omega
      · obtain rfl : j = L.length := by omega
        go_wp2
        go_ret
        refine ⟨rfl, ?_, .inl ⟨g, rfl, hb⟩⟩
        have e := HS.out
        rw [List.drop_length, List.append_nil] at e
        exact e

set_option maxRecDepth 100000 in
theorem nmarks_get (k n j : Nat) (h : j < (nmarks k n).length) : (nmarks k n)[j] = ((k + j : Nat) : Int) := by simp [nmarks]

set_option maxHeartbeats 1000000 in
set_option maxRecDepth 100000 in
theorem heldIns (v : Value) (n lo k : Nat) (w : World) (h : Ins w lo v (nmarks k n)) (hk : 1 ≤ k) (hm : k + n ≤ 16777216) :
    Calls Try.prog 21 #[v, .int .i64 k] w fun e w' => e = .returned (.int .i64 ((k + n : Nat) : Int)) ∧ Below w.heap.size w w' := by
  by_cases h0 : n = 0
  · obtain ⟨a1, c1, hv⟩ : ∃ a c, v = .slice a 0 c := by
      rcases h.cases with ⟨rfl, _⟩ | ⟨g, cap, rfl, _⟩
      · exact ⟨_, _, rfl⟩
      · rw [nmarks_length, h0]; exact ⟨_, _, rfl⟩
    subst hv h0
    clear h
    go_enter Try.func21, Try.ntmps21
    go_wp2
    refine wp_loop_rounds 1 ?_; rw [rounds_succ]
    go_wp2
    go_ret
    exact ⟨rfl, Below.refl _ _⟩
  · obtain ⟨g, cap, hv, hs⟩ : ∃ g cap, v = .slice (some ⟨g, 0, none⟩) n cap ∧ InsAt w lo g cap (nmarks k n) := by
      rcases h.cases with ⟨_, hL⟩ | ⟨g, cap, hv, hs⟩
      · have := congrArg List.length hL; rw [nmarks_length] at this; exact absurd this h0
      · rw [nmarks_length] at hv; exact ⟨g, cap, hv, hs⟩
    subst hv
    clear h
    have hcell : Hid (∀ j, j < n → w.cell? ⟨g, j, none⟩ = some (.int .i64 ((k + j : Nat) : Int))) := by
      intro j hj
      rw [← nmarks_get k n j (by rw [nmarks_length]; exact hj)]; exact hs.cell j (by rw [nmarks_length]; exact hj)
    have hg := hs.lt
    clear hs
    go_enter Try.func21, Try.ntmps21
    go_wp2
    go_loopw [1, 5] (fun kv i wr => ∃ j : Nat, j ≤ n ∧ i = .int .i64 j ∧ kv = .int .i64 ((k + j : Nat) : Int) ∧ Below w.heap.size w wr) (fun _ i _ => n - (intOf i).toNat)
    case atStart => exact ⟨0, Nat.zero_le _, rfl, rfl, Below.refl _ _⟩
    case round =>
      obtain ⟨j, hj, rfl, rfl, hb⟩ := hrel
      by_cases hlt : j < n
      · have ec := (hb.cell (p := ⟨g, j, none⟩) hg).trans (hcell.out j hlt)
        go_wp2
        go_roundw
        case rel => exact ⟨j + 1, by omega, by go_num, by go_num, hb⟩
        case measure => simp [intOf]; omega
      · obtain rfl : j = n := by omega
        go_wp2
        go_ret
        exact ⟨rfl, hb⟩
end Go.Proofs.Ythblkfdgibonbaa
