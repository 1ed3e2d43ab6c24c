import Derived.Test.YtngcjlghjidnjaaGreatDoorMg18
import Derived.Test.YtngcjlghjidnjaaGreatDoorMg14
namespace Go.Proofs.YtngcjlghjidnjaaGreatDoor
open Go.ChangeShapes Go.WideShapes Go.ChangeAt Go.RowKit

set_option maxHeartbeats 1000000 in
set_option maxRecDepth 100000 in
theorem markStrsO (v : Value) (L : List ByteArray) (lo k : Nat) (w : World) (h : Strs w lo v L) (hk : 1 ≤ k) (hm : k + L.length ≤ 16777216) :
    Calls Tryz.prog 67 #[v, .int .i64 k] w fun e w' => e = .returned (.int .i64 ((k + L.length : Nat) : Int)) ∧ Strs w' lo v (marks k L.length) ∧ OffV v w w' := by
  by_cases h0 : L.length = 0
  · have HS : Hid (Strs w lo v (marks k L.length)) := by
      rw [h0]
      have hL := List.eq_nil_of_length_eq_zero h0
      rw [hL] at h
      exact h
    have hk0 : k + L.length = k := by omega
    rw [hk0]
    obtain ⟨a1, c1, hv⟩ : ∃ a c, v = .slice a 0 c := by
      rcases h.cases with ⟨rfl, _⟩ | ⟨g, cap, rfl, _⟩
      · exact ⟨_, _, rfl⟩
      · rw [h0]; exact ⟨_, _, rfl⟩
    subst hv
    clear h h0 hk0
    go_enter Tryz.func67, Tryz.ntmps67
    go_wp2
    refine wp_loop_rounds 1 ?_; rw [rounds_succ]
    go_wp2
    go_ret
    exact ⟨rfl, HS.out, .inr (Below.refl _ _)⟩
  · obtain ⟨g, cap, hv, _⟩ : ∃ g cap, v = .slice (some ⟨g, 0, none⟩) L.length cap ∧ StrsAt w lo g cap L := by
      rcases h.cases with ⟨_, hL⟩ | h
      · rw [hL] at h0; exact absurd rfl h0
      · exact h
    subst hv
    have HI : Hid (Strs w lo (.slice (some ⟨g, 0, none⟩) L.length cap) (marks k 0 ++ L.drop 0)) := h
    clear h
    have hl1 : L.length ≤ 16777216 := by omega
    go_enter Tryz.func67, Tryz.ntmps67
    go_wp2
    go_loopw [1, 5] (fun kv i wr => ∃ j : Nat, j ≤ L.length ∧ i = .int .i64 j ∧ kv = .int .i64 ((k + j : Nat) : Int) ∧ Hid (Strs wr lo (.slice (some ⟨g, 0, none⟩) L.length cap) (marks k j ++ L.drop j)) ∧ Off g w wr) (fun _ i _ => L.length - (intOf i).toNat)
    case atStart => exact ⟨0, Nat.zero_le _, rfl, rfl, HI, Off.refl _ _⟩
    case round =>
      obtain ⟨j, hj, rfl, rfl, HS, hb⟩ := hrel
      by_cases hlt : j < L.length
      · go_wp2_with fail
        refine (markTextI _ _ (by omega) (by omega)).mono ?_
        rintro e w1 ⟨rfl, hb1⟩
        have hkj : ((k : Int) + (j : Int)).toNat = k + j := by omega
        rw [hkj]
        have HS1 : Hid (Strs w1 lo (.slice (some ⟨g, 0, none⟩) L.length cap) (marks k j ++ L.drop j)) := strs_below HS.out hb1 (Nat.le_refl _)
        have hlen : (marks k j ++ L.drop j).length = L.length := by simp [marks_length]; omega
        obtain ⟨x, ec⟩ : ∃ x, w1.cell? ⟨g, j, none⟩ = some (.string x) := ⟨_, HS1.out.at.1.cell j (by omega)⟩
        have ef := HS1.out.at.1.free j
        have hg : lo ≤ g := HS1.out.at.1.lo
        clear hkj hlen
        go_wp2
        go_roundw
        case rel =>
          refine ⟨j + 1, by omega, by go_num, by go_num, ?_, (hb.trans (Off.of_below hb1)).setCell _⟩
          show Strs _ _ _ _
          rw [← marks_step k j L hlt]
          exact strs_set HS1.out _
        case measure => simp [intOf]; omega
      · obtain rfl : j = L.length := by omega
        go_wp2
        go_ret
        refine ⟨rfl, ?_, .inl ⟨g, rfl, hb⟩⟩
        have e := HS.out
        rw [List.drop_length, List.append_nil] at e
        exact e
end Go.Proofs.YtngcjlghjidnjaaGreatDoor
namespace Go.Proofs.YtngcjlghjidnjaaGreatDoor
open Go.ChangeShapes Go.WideShapes Go.ChangeAt Go.RowKit
attribute [local go_sem ↓] Go.wp_at_zero Go.wp_at_succ

theorem vds_set {w : World} {lo g n cap i : Nat} {L : List Value} (h : w.ownsRow lo 37 3 (.slice (some ⟨g, 0, none⟩) n cap) n L) (x : Value) :
    (w.setCell ⟨g, i, none⟩ x).ownsRow lo 37 3 (.slice (some ⟨g, 0, none⟩) n cap) n (L.set i x) := by
  refine ⟨by simpa using h.1, ?_⟩
  rcases h.2 with ⟨hv, _⟩ | ⟨g', cap', cur, hv, hl, hg, hn, hc, hs, ht⟩
  · cases hv
  · injection hv with h1 h2 h3
    injection h1 with h1
    injection h1 with h1
    subst h1 h3
    refine .inr ⟨g, cap, cur.setIfInBounds i x, rfl, hl, Go.Joins.block_setCell hg _, hn, hc, by simpa using hs, ?_⟩
    rw [← ht]
    simp [List.take_set]
theorem vraw_below {w w' : World} {lo n : Nat} {v : Value} {L : List Value} (h : w.ownsRow lo 37 3 v n L) {B : Nat} (hb : Below B w w') (hB : w.heap.size ≤ B) : w'.ownsRow lo 37 3 v n L := by
  refine ⟨h.1, ?_⟩
  rcases h.2 with h0 | ⟨g, cap, cur, hv, hl, hg, rest⟩
  · exact .inl h0
  · refine .inr ⟨g, cap, cur, hv, hl, ?_, rest⟩
    rw [hb.block g (Nat.lt_of_lt_of_le (Array.getElem?_eq_some_iff.1 hg).1 hB)]; exact hg
theorem vrow_set : ∀ (L : List Vd) (j : Nat) (x : Vd), j < L.length → (((vrow L).set (j * 3) (.int .i64 x.1)).set (j * 3 + 1) (.int .i64 x.2.1)).set (j * 3 + 2) (.string x.2.2) = vrow (L.set j x)
  | v :: L, 0, x, _ => rfl
  | v :: L, j + 1, x, h => by
    have := vrow_set L j x (by simpa using h)
    have e : vrow (v :: L) = .int .i64 v.1 :: .int .i64 v.2.1 :: .string v.2.2 :: vrow L := rfl
    rw [List.set_cons_succ, show vrow (v :: L.set j x) = .int .i64 v.1 :: .int .i64 v.2.1 :: .string v.2.2 :: vrow (L.set j x) from rfl, ← this, e]
    rw [show (j + 1) * 3 = j * 3 + 3 by omega, show j * 3 + 3 + 1 = (j * 3 + 1) + 3 by omega, show j * 3 + 3 + 2 = (j * 3 + 2) + 3 by omega]
    rfl
def vmarks (k n : Nat) : List Vd := (List.range n).map fun i => (((k + 3 * i : Nat) : Int), ((k + 3 * i + 1 : Nat) : Int), markT (k + 3 * i + 2))
theorem vmarks_length (k n : Nat) : (vmarks k n).length = n := by simp [vmarks]
theorem vmarks_step (k j : Nat) (L : List Vd) (hj : j < L.length) : (vmarks k j ++ L.drop j).set j (((k + 3 * j : Nat) : Int), ((k + 3 * j + 1 : Nat) : Int), markT (k + 3 * j + 2)) = vmarks k (j + 1) ++ L.drop (j + 1) := by
  rw [List.set_append_right _ _ (by rw [vmarks_length]; exact Nat.le_refl _), vmarks_length, Nat.sub_self, List.drop_eq_getElem_cons hj, List.set_cons_zero]
  simp [vmarks, List.range_succ]
theorem vmarks_get (k n j : Nat) (h : j < (vmarks k n).length) : (vmarks k n)[j] = (((k + 3 * j : Nat) : Int), ((k + 3 * j + 1 : Nat) : Int), markT (k + 3 * j + 2)) := by simp [vmarks]

set_option maxHeartbeats 1000000 in
set_option maxRecDepth 100000 in
theorem markVds (v : Value) (L : List Vd) (lo k : Nat) (w : World) (h : Vds w lo v L) (hk : 1 ≤ k) (hm : k + 3 * L.length ≤ 16777216) :
    Calls Tryz.prog 69 #[v, .int .i64 k] w fun e w' => e = .returned (.int .i64 ((k + 3 * L.length : Nat) : Int)) ∧ Vds w' lo v (vmarks k L.length) ∧ OffV v w w' := by
  by_cases h0 : L.length = 0
  · have HS : Hid (Vds w lo v (vmarks k L.length)) := by
      rw [h0]
      have hL := List.eq_nil_of_length_eq_zero h0
      rw [hL] at h
      exact h
    have hk0 : k + 3 * L.length = k := by omega
    rw [hk0]
    obtain ⟨a1, c1, hv⟩ := vds_form h
    rw [h0] at hv
    subst hv
    clear h h0 hk0
    go_enter Tryz.func69, Tryz.ntmps69
    go_wp2
    refine wp_loop_rounds 1 ?_; rw [rounds_succ]
    go_wp2
    go_ret
    exact ⟨rfl, HS.out, .inr (Below.refl _ _)⟩
  · obtain ⟨g, cap, hv, _⟩ : ∃ g cap, v = .slice (some ⟨g, 0, none⟩) L.length cap ∧ VdsAt w lo g cap L := by
      rcases h.cases with ⟨_, hL⟩ | h
      · rw [hL] at h0; exact absurd rfl h0
      · exact h
    subst hv
    have HI : Hid (Vds w lo (.slice (some ⟨g, 0, none⟩) L.length cap) (vmarks k 0 ++ L.drop 0)) := h
    clear h
    have hl1 : L.length ≤ 16777216 := by omega
    go_enter Tryz.func69, Tryz.ntmps69
    go_wp2
    go_loopw [1, 5] (fun kv i wr => ∃ j : Nat, j ≤ L.length ∧ i = .int .i64 j ∧ kv = .int .i64 ((k + 3 * j : Nat) : Int) ∧ Hid (Vds wr lo (.slice (some ⟨g, 0, none⟩) L.length cap) (vmarks k j ++ L.drop j)) ∧ Off g w wr) (fun _ i _ => L.length - (intOf i).toNat)
    case atStart => exact ⟨0, Nat.zero_le _, rfl, rfl, HI, Off.refl _ _⟩
    case round =>
      obtain ⟨j, hj, rfl, rfl, HS, hb⟩ := hrel
      by_cases hlt : j < L.length
      · have hlen : (vmarks k j ++ L.drop j).length = L.length := by simp [vmarks_length]; omega
        obtain ⟨x0, x1, x2, e0, e1, e2⟩ : ∃ x0 x1 x2, wr.cell? ⟨g, j * 3, none⟩ = some (.int .i64 x0) ∧ wr.cell? ⟨g, j * 3 + 1, none⟩ = some (.int .i64 x1) ∧ wr.cell? ⟨g, j * 3 + 2, none⟩ = some (.string x2) := ⟨_, _, _, (HS.out.at.1.cell j (by omega)).1, (HS.out.at.1.cell j (by omega)).2.1, (HS.out.at.1.cell j (by omega)).2.2⟩
        have ef0 := HS.out.at.1.free (j * 3)
        have ef1 := HS.out.at.1.free (j * 3 + 1)
        have ef2 := HS.out.at.1.free (j * 3 + 2)
        have hg : lo ≤ g := HS.out.at.1.lo
        have hgl := HS.out.at.1.lt
        have HR : Hid (wr.ownsRow lo 37 3 (.slice (some ⟨g, 0, none⟩) L.length cap) L.length (vrow (vmarks k j ++ L.drop j))) := by
          have := HS.out
          unfold Vds at this
          rw [hlen] at this
          exact this
        have hkj : ((k : Int) + 3 * (j : Int) + 1 + 1).toNat = k + 3 * j + 2 := by omega
        go_wp2_with fail
        generalize hW : (wr.setCell ⟨g, j * 3, none⟩ (.int .i64 ((k : Int) + 3 * (j : Int)))).setCell ⟨g, j * 3 + 1, none⟩ (.int .i64 ((k : Int) + 3 * (j : Int) + 1)) = W
        have HW : Hid (W.ownsRow lo 37 3 (.slice (some ⟨g, 0, none⟩) L.length cap) L.length (((vrow (vmarks k j ++ L.drop j)).set (j * 3) (.int .i64 ((k : Int) + 3 * (j : Int)))).set (j * 3 + 1) (.int .i64 ((k : Int) + 3 * (j : Int) + 1)))) := by
          show World.ownsRow _ _ _ _ _ _ _
          rw [← hW]
          exact vds_set (vds_set HR.out _) _
        have hWo : Off g w W := by rw [← hW]; exact (hb.setCell _).setCell _
        have e2' : W.cell? ⟨g, j * 3 + 2, none⟩ = some (.string x2) := by
          rw [← hW, World.cell?_setCell_other _ _ _ _ (by intro e; injection e with _ e; omega), World.cell?_setCell_other _ _ _ _ (by intro e; injection e with _ e; omega)]
          exact e2
        have ef2' : W.frozen? ⟨g, j * 3 + 2, none⟩ = false := by rw [← hW]; simpa using ef2
        have hgW : g < W.heap.size := by rw [← hW]; simpa using hgl
        refine (markTextI _ _ (by omega) (by omega)).mono ?_
        rintro e w1 ⟨rfl, hb1⟩
        rw [hkj]
        have e3 := (hb1.cell (p := ⟨g, j * 3 + 2, none⟩) hgW).trans e2'
        have ef3 := (hb1.frozen (p := ⟨g, j * 3 + 2, none⟩) hgW).trans ef2'
        clear hW e0 e1 e2 ef0 ef1 ef2 e2' ef2' hkj
        go_wp2
        go_roundw
        case rel =>
          refine ⟨j + 1, by omega, by go_num, by go_num, ?_, (hWo.trans (Off.of_below hb1)).setCell _⟩
          show Vds _ _ _ _
          have e := vds_set (i := j * 3 + 2) (vraw_below HW.out hb1 (Nat.le_refl _)) (.string (markT (k + 3 * j + 2)))
          have e5 := vrow_set (vmarks k j ++ L.drop j) j (((k + 3 * j : Nat) : Int), ((k + 3 * j + 1 : Nat) : Int), markT (k + 3 * j + 2)) (by omega)
          rw [vmarks_step k j L hlt] at e5
          have hl2 : (vmarks k (j + 1) ++ L.drop (j + 1)).length = L.length := by simp [vmarks_length]; omega
          unfold Vds
          rw [hl2, ← e5]
          simpa using e
        case measure => simp [intOf]; omega
      · obtain rfl : j = L.length := by omega
        go_wp2
        go_ret
        refine ⟨rfl, ?_, .inl ⟨g, rfl, hb⟩⟩
        have e := HS.out
        rw [List.drop_length, List.append_nil] at e
        exact e

end Go.Proofs.YtngcjlghjidnjaaGreatDoor
namespace Go.Proofs.YtngcjlghjidnjaaGreatDoor
open Go.ChangeShapes Go.WideShapes Go.ChangeAt Go.RowKit
attribute [local go_sem ↓] Go.wp_at_zero Go.wp_at_succ

set_option maxHeartbeats 1000000 in
set_option maxRecDepth 100000 in
theorem heldStrs (v : Value) (n lo k : Nat) (w : World) (h : Strs w lo v (marks k n)) (hk : 1 ≤ k) (hm : k + n ≤ 16777216) :
    Calls Tryz.prog 70 #[v, .int .i64 k] w fun e w' => e = .returned (.int .i64 ((k + n : Nat) : Int)) ∧ Below w.heap.size w w' := by
  by_cases h0 : n = 0
  · obtain ⟨a1, c1, hv⟩ : ∃ a c, v = .slice a 0 c := by
      rcases h.cases with ⟨rfl, _⟩ | ⟨g, cap, rfl, _⟩
      · exact ⟨_, _, rfl⟩
      · rw [marks_length, h0]; exact ⟨_, _, rfl⟩
    subst hv h0
    clear h
    go_enter Tryz.func70, Tryz.ntmps70
    go_wp2
    refine wp_loop_rounds 1 ?_; rw [rounds_succ]
    go_wp2
    go_ret
    exact ⟨rfl, Below.refl _ _⟩
  · obtain ⟨g, cap, hv, hs⟩ : ∃ g cap, v = .slice (some ⟨g, 0, none⟩) n cap ∧ StrsAt w lo g cap (marks k n) := by
      rcases h.cases with ⟨_, hL⟩ | ⟨g, cap, hv, hs⟩
      · have := congrArg List.length hL; rw [marks_length] at this; exact absurd this h0
      · rw [marks_length] at hv; exact ⟨g, cap, hv, hs⟩
    subst hv
    clear h
    have hcell : Hid (∀ j, j < n → w.cell? ⟨g, j, none⟩ = some (.string (markT (k + j)))) := by
      intro j hj
      rw [← marks_get k n j (by rw [marks_length]; exact hj)]; exact hs.cell j (by rw [marks_length]; exact hj)
    have hg := hs.lt
    clear hs
    go_enter Tryz.func70, Tryz.ntmps70
    go_wp2
    go_loopw [1, 5] (fun kv i wr => ∃ j : Nat, j ≤ n ∧ i = .int .i64 j ∧ kv = .int .i64 ((k + j : Nat) : Int) ∧ Below w.heap.size w wr) (fun _ i _ => n - (intOf i).toNat)
    case atStart => exact ⟨0, Nat.zero_le _, rfl, rfl, Below.refl _ _⟩
    case round =>
      obtain ⟨j, hj, rfl, rfl, hb⟩ := hrel
      by_cases hlt : j < n
      · have ec := (hb.cell (p := ⟨g, j, none⟩) hg).trans (hcell.out j hlt)
        have hgr : g < wr.heap.size := by have := hb.size; omega
        have hkj : ((k : Int) + (j : Int)).toNat = k + j := by omega
        go_wp2_with fail
        go_region_with (go_at_call 104; refine (markTextI _ _ (by omega) (by omega)).mono ?_; rw [hkj]; rintro e w1 ⟨rfl, hb1⟩; have ec1 := (hb1.cell (p := ⟨g, j, none⟩) hgr).trans ec)
        all_goals
          clear hkj
          go_wp2
          go_roundw
          case rel => exact ⟨j + 1, by omega, by go_num, by go_num, hb.drew.trans (hb1.mono hb.size)⟩
          case measure => simp [intOf]; omega
      · obtain rfl : j = n := by omega
        go_wp2
        go_ret
        exact ⟨rfl, hb⟩
end Go.Proofs.YtngcjlghjidnjaaGreatDoor
