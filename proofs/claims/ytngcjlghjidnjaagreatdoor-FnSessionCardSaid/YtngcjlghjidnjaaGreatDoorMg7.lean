import Derived.Test.YtngcjlghjidnjaaGreatDoorMg6
import Derived.Deep.RegionWith
import Derived.Deep.DrawnRows
import Derived.Test.YtngcjlghjidnjaaGreatDoorMg1
import Derived.WalkKit
import Derived.ProofKit
import Derived.WalkLawsBesides
import Derived.Deep.QuietTactic
import Derived.BigQuiet
import Derived.Deep.AppendLies
namespace Go.Proofs.YtngcjlghjidnjaaGreatDoor
open Go.ChangeShapes Go.WideShapes Go.ChangeAt Go.RowKit
attribute [local go_sem ↓] Go.wp_at_zero Go.wp_at_succ

theorem vds_set {w : World} {lo g n cap i : Nat} {L : List Value} (h : w.ownsRow lo 37 3 (.slice (some ⟨g, 0, none⟩) n cap) n L) (x : Value) :
    (w.setCell ⟨g, i, none⟩ x).ownsRow lo 37 3 (.slice (some ⟨g, 0, none⟩) n cap) n (L.set i x) := by
  refine ⟨by simpa using h.1, ?_⟩
  rcases h.2 with ⟨hv, _⟩ | ⟨g', cap', cur, hv, hl, hg, hn, hc, hs, ht⟩
  · cases hv
  · injection hv with h1 h2 h3
    injection h1 with h1
    injection h1 with h1
    subst h1 h3
    refine .inr ⟨g, cap, cur.setIfInBounds i x, rfl, hl, Go.Joins.block_setCell hg _, hn, hc, by simpa using hs, ?_⟩
    rw [← ht]
    simp [List.take_set]
theorem vraw_below {w w' : World} {lo n : Nat} {v : Value} {L : List Value} (h : w.ownsRow lo 37 3 v n L) {B : Nat} (hb : Below B w w') (hB : w.heap.size ≤ B) : w'.ownsRow lo 37 3 v n L := by
  refine ⟨h.1, ?_⟩
  rcases h.2 with h0 | ⟨g, cap, cur, hv, hl, hg, rest⟩
  · exact .inl h0
  · refine .inr ⟨g, cap, cur, hv, hl, ?_, rest⟩
    rw [hb.block g (Nat.lt_of_lt_of_le (Array.getElem?_eq_some_iff.1 hg).1 hB)]; exact hg
theorem vrow_set : ∀ (L : List Vd) (j : Nat) (x : Vd), j < L.length → (((vrow L).set (j * 3) (.int .i64 x.1)).set (j * 3 + 1) (.int .i64 x.2.1)).set (j * 3 + 2) (.string x.2.2) = vrow (L.set j x)
  | v :: L, 0, x, _ => rfl
  | v :: L, j + 1, x, h => by
    have := vrow_set L j x (by simpa using h)
    have e : vrow (v :: L) = .int .i64 v.1 :: .int .i64 v.2.1 :: .string v.2.2 :: vrow L := rfl
    rw [List.set_cons_succ, show vrow (v :: L.set j x) = .int .i64 v.1 :: .int .i64 v.2.1 :: .string v.2.2 :: vrow (L.set j x) from rfl, ← this, e]
    rw [show (j + 1) * 3 = j * 3 + 3 by omega, show j * 3 + 3 + 1 = (j * 3 + 1) + 3 by omega, show j * 3 + 3 + 2 = (j * 3 + 2) + 3 by omega]
    rfl
def vmarks (k n : Nat) : List Vd := (List.range n).map fun i => (((k + 3 * i : Nat) : Int), ((k + 3 * i + 1 : Nat) : Int), markT (k + 3 * i + 2))
theorem vmarks_length (k n : Nat) : (vmarks k n).length = n := by simp [vmarks]
theorem vmarks_step (k j : Nat) (L : List Vd) (hj : j < L.length) : (vmarks k j ++ L.drop j).set j (((k + 3 * j : Nat) : Int), ((k + 3 * j + 1 : Nat) : Int), markT (k + 3 * j + 2)) = vmarks k (j + 1) ++ L.drop (j + 1) := by
  rw [List.set_append_right _ _ (by rw [vmarks_length]; exact Nat.le_refl _), vmarks_length, Nat.sub_self, List.drop_eq_getElem_cons hj, List.set_cons_zero]
  simp [vmarks, List.range_succ]
theorem vmarks_get (k n j : Nat) (h : j < (vmarks k n).length) : (vmarks k n)[j] = (((k + 3 * j : Nat) : Int), ((k + 3 * j + 1 : Nat) : Int), markT (k + 3 * j + 2)) := by simp [vmarks]

set_option maxHeartbeats 1000000 in
set_option maxRecDepth 100000 in
theorem markVds (v : Value) (L : List Vd) (lo k : Nat) (w : World) (h : Vds w lo v L) (hk : 1 ≤ k) (hm : k + 3 * L.length ≤ 16777216) :
    Calls Tryz.prog 69 #[v, .int .i64 k] w fun e w' => e = .returned (.int .i64 ((k + 3 * L.length : Nat) : Int)) ∧ Vds w' lo v (vmarks k L.length) ∧ OffV v w w' := by
  by_cases h0 : L.length = 0
  · have HS : Hid (Vds w lo v (vmarks k L.length)) := by
      rw [h0]
      have hL := List.eq_nil_of_length_eq_zero h0
      rw [hL] at h
      exact h
    have hk0 : k + 3 * L.length = k := by omega
    rw [hk0]
    obtain ⟨a1, c1, hv⟩ := vds_form h
    rw [h0] at hv
    subst hv
    clear h h0 hk0
    go_enter Tryz.func69, Tryz.ntmps69
    go_wp2
    refine wp_loop_rounds 1 ?_; rw [rounds_succ]
    go_wp2
    go_ret
    exact ⟨rfl, HS.out, .inr (Below.refl _ _)⟩
  · obtain ⟨g, cap, hv, _⟩ : ∃ g cap, v = .slice (some ⟨g, 0, none⟩) L.length cap ∧ VdsAt w lo g cap L := by
      rcases h.cases with ⟨_, hL⟩ | h
      · rw [hL] at h0; exact absurd rfl h0
      · exact h
    subst hv
    have HI : Hid (Vds w lo (.slice (some ⟨g, 0, none⟩) L.length cap) (vmarks k 0 ++ L.drop 0)) := h
    clear h
    have hl1 : L.length ≤ 16777216 := by omega
    go_enter Tryz.func69, Tryz.ntmps69
    go_wp2
    go_loopw [1, 5] (fun kv i wr => ∃ j : Nat, j ≤ L.length ∧ i = .int .i64 j ∧ kv = .int .i64 ((k + 3 * j : Nat) : Int) ∧ Hid (Vds wr lo (.slice (some ⟨g, 0, none⟩) L.length cap) (vmarks k j ++ L.drop j)) ∧ Off g w wr) (fun _ i _ => L.length - (intOf i).toNat)
    case atStart => exact ⟨0, Nat.zero_le _, rfl, rfl, HI, Off.refl _ _⟩
    case round =>
      obtain ⟨j, hj, rfl, rfl, HS, hb⟩ := hrel
      by_cases hlt : j < L.length
      · have hlen : (vmarks k j ++ L.drop j).length = L.length := by simp [vmarks_length]; omega
        obtain ⟨x0, x1, x2, e0, e1, e2⟩ : ∃ x0 x1 x2, wr.cell? ⟨g, j * 3, none⟩ = some (.int .i64 x0) ∧ wr.cell? ⟨g, j * 3 + 1, none⟩ = some (.int .i64 x1) ∧ wr.cell? ⟨g, j * 3 + 2, none⟩ = some (.string x2) := ⟨_, _, _, (HS.out.at.1.cell j (by omega)).1, (HS.out.at.1.cell j (by omega)).2.1, (HS.out.at.1.cell j (by omega)).2.2⟩
        have ef0 := HS.out.at.1.free (j * 3)
        have ef1 := HS.out.at.1.free (j * 3 + 1)
        have ef2 := HS.out.at.1.free (j * 3 + 2)
        have hg : lo ≤ g := HS.out.at.1.lo
        have hgl := HS.out.at.1.lt
        have HR : Hid (wr.ownsRow lo 37 3 (.slice (some ⟨g, 0, none⟩) L.length cap) L.length (vrow (vmarks k j ++ L.drop j))) := by
          have := HS.out
          unfold Vds at this
          rw [hlen] at this
          exact this
        have hkj : ((k : Int) + 3 * (j : Int) + 1 + 1).toNat = k + 3 * j + 2 := by omega
        go_wp2_with fail
        generalize hW : (wr.setCell ⟨g, j * 3, none⟩ (.int .i64 ((k : Int) + 3 * (j : Int)))).setCell ⟨g, j * 3 + 1, none⟩ (.int .i64 ((k : Int) + 3 * (j : Int) + 1)) = W
        have HW : Hid (W.ownsRow lo 37 3 (.slice (some ⟨g, 0, none⟩) L.length cap) L.length (((vrow (vmarks k j ++ L.drop j)).set (j * 3) (.int .i64 ((k : Int) + 3 * (j : Int)))).set (j * 3 + 1) (.int .i64 ((k : Int) + 3 * (j : Int) + 1)))) := by
          show World.ownsRow _ _ _ _ _ _ _
          rw [← hW]
          exact vds_set (vds_set HR.out _) _
        have hWo : Off g w W := by rw [← hW]; exact (hb.setCell _).setCell _
        have e2' : W.cell? ⟨g, j * 3 + 2, none⟩ = some (.string x2) := by
          rw [← hW, World.cell?_setCell_other _ _ _ _ (by intro e; injection e with _ e; omega), World.cell?_setCell_other _ _ _ _ (by intro e; injection e with _ e; omega)]
          exact e2
        have ef2' : W.frozen? ⟨g, j * 3 + 2, none⟩ = false := by rw [← hW]; simpa using ef2
        have hgW : g < W.heap.size := by rw [← hW]; simpa using hgl
        refine (markTextI _ _ (by omega) (by omega)).mono ?_
        rintro e w1 ⟨rfl, hb1⟩
        rw [hkj]
        have e3 := (hb1.cell (p := ⟨g, j * 3 + 2, none⟩) hgW).trans e2'
        have ef3 := (hb1.frozen (p := ⟨g, j * 3 + 2, none⟩) hgW).trans ef2'
        clear hW e0 e1 e2 ef0 ef1 ef2 e2' ef2' hkj
        go_wp2
        go_roundw
        case rel =>
          refine ⟨j + 1, by omega, by go_num, by go_num, ?_, (hWo.trans (Off.of_below hb1)).setCell _⟩
          show Vds _ _ _ _
          have e := vds_set (i := j * 3 + 2) (vraw_below HW.out hb1 (Nat.le_refl _)) (.string (markT (k + 3 * j + 2)))
          have e5 := vrow_set (vmarks k j ++ L.drop j) j (((k + 3 * j : Nat) : Int), ((k + 3 * j + 1 : Nat) : Int), markT (k + 3 * j + 2)) (by omega)
          rw [vmarks_step k j L hlt] at e5
          have hl2 : (vmarks k (j + 1) ++ L.drop (j + 1)).length = L.length := by simp [vmarks_length]; omega
          unfold Vds
          rw [hl2, ← e5]
          simpa using e
        case measure => simp [intOf]; omega
      · obtain rfl : j = L.length := by omega
        go_wp2
        go_ret
        refine ⟨rfl, ?_, .inl ⟨g, rfl, hb⟩⟩
        have e := HS.out
        rw [List.drop_length, List.append_nil] at e
        exact e

end Go.Proofs.YtngcjlghjidnjaaGreatDoor
namespace Go.Proofs.YtngcjlghjidnjaaGreatDoor
open Go.ChangeShapes Go.WideShapes Go.ChangeAt Go.RowKit
attribute [local go_sem ↓] Go.wp_at_zero Go.wp_at_succ

set_option maxHeartbeats 1000000 in
set_option maxRecDepth 100000 in
theorem heldStrs (v : Value) (n lo k : Nat) (w : World) (h : Strs w lo v (marks k n)) (hk : 1 ≤ k) (hm : k + n ≤ 16777216) :
    Calls Tryz.prog 70 #[v, .int .i64 k] w fun e w' => e = .returned (.int .i64 ((k + n : Nat) : Int)) ∧ Below w.heap.size w w' := by
  by_cases h0 : n = 0
  · obtain ⟨a1, c1, hv⟩ : ∃ a c, v = .slice a 0 c := by
      rcases h.cases with ⟨rfl, _⟩ | ⟨g, cap, rfl, _⟩
      · exact ⟨_, _, rfl⟩
      · rw [marks_length, h0]; exact ⟨_, _, rfl⟩
    subst hv h0
    clear h
    go_enter Tryz.func70, Tryz.ntmps70
    go_wp2
    refine wp_loop_rounds 1 ?_; rw [rounds_succ]
    go_wp2
    go_ret
    exact ⟨rfl, Below.refl _ _⟩
  · obtain ⟨g, cap, hv, hs⟩ : ∃ g cap, v = .slice (some ⟨g, 0, none⟩) n cap ∧ StrsAt w lo g cap (marks k n) := by
      rcases h.cases with ⟨_, hL⟩ | ⟨g, cap, hv, hs⟩
      · have := congrArg List.length hL; rw [marks_length] at this; exact absurd this h0
      · rw [marks_length] at hv; exact ⟨g, cap, hv, hs⟩
    subst hv
    clear h
    have hcell : Hid (∀ j, j < n → w.cell? ⟨g, j, none⟩ = some (.string (markT (k + j)))) := by
      intro j hj
      rw [← marks_get k n j (by rw [marks_length]; exact hj)]; exact hs.cell j (by rw [marks_length]; exact hj)
    have hg := hs.lt
    clear hs
    go_enter Tryz.func70, Tryz.ntmps70
    go_wp2
    go_loopw [1, 5] (fun kv i wr => ∃ j : Nat, j ≤ n ∧ i = .int .i64 j ∧ kv = .int .i64 ((k + j : Nat) : Int) ∧ Below w.heap.size w wr) (fun _ i _ => n - (intOf i).toNat)
    case atStart => exact ⟨0, Nat.zero_le _, rfl, rfl, Below.refl _ _⟩
    case round =>
      obtain ⟨j, hj, rfl, rfl, hb⟩ := hrel
      by_cases hlt : j < n
      · have ec := (hb.cell (p := ⟨g, j, none⟩) hg).trans (hcell.out j hlt)
        have hgr : g < wr.heap.size := by have := hb.size; omega
        have hkj : ((k : Int) + (j : Int)).toNat = k + j := by omega
        go_wp2_with fail
        go_region_with (go_at_call 104; refine (markTextI _ _ (by omega) (by omega)).mono ?_; rw [hkj]; rintro e w1 ⟨rfl, hb1⟩; have ec1 := (hb1.cell (p := ⟨g, j, none⟩) hgr).trans ec)
        all_goals
          clear hkj
          go_wp2
          go_roundw
          case rel => exact ⟨j + 1, by omega, by go_num, by go_num, hb.drew.trans (hb1.mono hb.size)⟩
          case measure => simp [intOf]; omega
      · obtain rfl : j = n := by omega
        go_wp2
        go_ret
        exact ⟨rfl, hb⟩
end Go.Proofs.YtngcjlghjidnjaaGreatDoor
namespace Go.Proofs.YtngcjlghjidnjaaGreatDoor
open Go.ChangeShapes Go.WideShapes Go.ChangeAt Go.RowKit
attribute [local go_sem ↓] Go.wp_at_zero Go.wp_at_succ

set_option maxHeartbeats 1000000 in
set_option maxRecDepth 100000 in
theorem heldVds (v : Value) (n lo k : Nat) (w : World) (h : Vds w lo v (vmarks k n)) (hk : 1 ≤ k) (hm : k + 3 * n ≤ 16777216) :
    Calls Tryz.prog 72 #[v, .int .i64 k] w fun e w' => e = .returned (.int .i64 ((k + 3 * n : Nat) : Int)) ∧ Below w.heap.size w w' := by
  by_cases h0 : n = 0
  · obtain ⟨a1, c1, hv⟩ := vds_form h
    rw [vmarks_length, h0] at hv
    subst hv h0
    clear h
    go_enter Tryz.func72, Tryz.ntmps72
    go_wp2
    refine wp_loop_rounds 1 ?_; rw [rounds_succ]
    go_wp2
    go_ret
    exact ⟨rfl, Below.refl _ _⟩
  · obtain ⟨g, cap, hv, hs⟩ : ∃ g cap, v = .slice (some ⟨g, 0, none⟩) n cap ∧ VdsAt w lo g cap (vmarks k n) := by
      rcases h.cases with ⟨_, hL⟩ | ⟨g, cap, hv, hs⟩
      · have := congrArg List.length hL; rw [vmarks_length] at this; exact absurd this h0
      · rw [vmarks_length] at hv; exact ⟨g, cap, hv, hs⟩
    subst hv
    clear h
    have hcell : Hid (∀ j, j < n → w.cell? ⟨g, j * 3, none⟩ = some (.int .i64 ((k + 3 * j : Nat) : Int)) ∧ w.cell? ⟨g, j * 3 + 1, none⟩ = some (.int .i64 ((k + 3 * j + 1 : Nat) : Int)) ∧ w.cell? ⟨g, j * 3 + 2, none⟩ = some (.string (markT (k + 3 * j + 2)))) := by
      intro j hj
      have := hs.cell j (by rw [vmarks_length]; exact hj)
      rw [vmarks_get k n j (by rw [vmarks_length]; exact hj)] at this
      exact this
    have hg := hs.lt
    clear hs
    go_enter Tryz.func72, Tryz.ntmps72
    go_wp2
    go_loopw [1, 5] (fun kv i wr => ∃ j : Nat, j ≤ n ∧ i = .int .i64 j ∧ kv = .int .i64 ((k + 3 * j : Nat) : Int) ∧ Below w.heap.size w wr) (fun _ i _ => n - (intOf i).toNat)
    case atStart => exact ⟨0, Nat.zero_le _, rfl, rfl, Below.refl _ _⟩
    case round =>
      obtain ⟨j, hj, rfl, rfl, hb⟩ := hrel
      by_cases hlt : j < n
      · obtain ⟨e0, e1, e2⟩ := hcell.out j hlt
        have c0 := (hb.cell (p := ⟨g, j * 3, none⟩) hg).trans e0
        have c1 := (hb.cell (p := ⟨g, j * 3 + 1, none⟩) hg).trans e1
        have c2 := (hb.cell (p := ⟨g, j * 3 + 2, none⟩) hg).trans e2
        have hgr : g < wr.heap.size := by have := hb.size; omega
        have hkj : ((k : Int) + 3 * (j : Int) + 1 + 1).toNat = k + 3 * j + 2 := by omega
        clear e0 e1 e2
        go_wp2_with fail
        go_region_with (go_at_call 104; refine (markTextI _ _ (by omega) (by omega)).mono ?_; rw [hkj]; rintro e w1 ⟨rfl, hb1⟩; have c3 := (hb1.cell (p := ⟨g, j * 3 + 2, none⟩) hgr).trans c2)
        all_goals
          clear hkj
          go_wp2
          go_roundw
          case rel => exact ⟨j + 1, by omega, by go_num, by go_num, hb.drew.trans (hb1.mono hb.size)⟩
          case measure => simp [intOf]; omega
      · obtain rfl : j = n := by omega
        go_wp2
        go_ret
        exact ⟨rfl, hb⟩
end Go.Proofs.YtngcjlghjidnjaaGreatDoor
namespace Go.Proofs.YtngcjlghjidnjaaGreatDoor
open Go.ChangeShapes Go.WideShapes Go.ChangeAt Go.RowKit

/-- a slice of strings of the call's own, in a block from lo on, that holds L -/
def Bls (w : World) (lo : Nat) (v : Value) (L : List Bool) : Prop := w.ownsRow lo 4 1 v L.length (L.map Value.bool)

/-- what such a slice is: no element; or the cells of a block -/
structure BlsAt (w : World) (lo g cap : Nat) (L : List Bool) : Prop where
  lo : lo ≤ g
  lt : g < w.heap.size
  len : L.length ≤ cap
  cap : cap ≤ maxLen
  cell : ∀ i (hi : i < L.length), w.cell? ⟨g, i, none⟩ = some (.bool L[i])
  free : ∀ o, w.frozen? ⟨g, o, none⟩ = false

theorem Bls.cases {w : World} {lo : Nat} {v : Value} {L : List Bool} (h : Bls w lo v L) :
    (v = .slice none 0 0 ∧ L = []) ∨ ∃ g cap, v = .slice (some ⟨g, 0, none⟩) L.length cap ∧ BlsAt w lo g cap L := by
  rcases h.2 with ⟨hv, h0⟩ | ⟨g, cap, cur, hv, hb, hg, hn, hc, hs, ht⟩
  · exact .inl ⟨hv, List.eq_nil_of_length_eq_zero h0⟩
  · refine .inr ⟨g, cap, hv, hb, ?_, hn, hc, ?_, ?_⟩
    · exact (Array.getElem?_eq_some_iff.1 hg).1
    · intro i hi
      have e : cur[i]? = some (Value.bool L[i]) := by
        have h1 : (cur.toList.take (L.length * 1))[i]? = (L.map Value.bool)[i]? := by rw [ht]
        rw [List.getElem?_take_of_lt (by omega), List.getElem?_map, List.getElem?_eq_getElem hi] at h1
        simpa using h1
      simp [World.cell?, hg, e]
    · intro o; simp [World.frozen?, hg]

theorem bls_below {w w' : World} {lo : Nat} {v : Value} {L : List Bool} (h : Bls w lo v L) {B : Nat} (hb : Below B w w') (hB : w.heap.size ≤ B) : Bls w' lo v L := by
  refine ⟨h.1, ?_⟩
  rcases h.2 with h0 | ⟨g, cap, cur, hv, hl, hg, rest⟩
  · exact .inl h0
  · refine .inr ⟨g, cap, cur, hv, hl, ?_, rest⟩
    rw [hb.block g (Nat.lt_of_lt_of_le (Array.getElem?_eq_some_iff.1 hg).1 hB)]; exact hg

/-- where what is written lies from hi on, and the slice below it -/
theorem bls_below_at {w w' : World} {lo hi : Nat} {v : Value} {L : List Bool} (h : Bls w lo v L) (hb : Below hi w w') (hlt : ∀ g, v.ownBlock = some g → g < hi) : Bls w' lo v L := by
  refine ⟨h.1, ?_⟩
  rcases h.2 with h0 | ⟨g, cap, cur, hv, hl, hg, rest⟩
  · exact .inl h0
  · refine .inr ⟨g, cap, cur, hv, hl, ?_, rest⟩
    rw [hb.block g (hlt g (by rw [hv]; rfl))]; exact hg
theorem bls_own {w : World} {lo : Nat} {v : Value} {L : List Bool} (h : Bls w lo v L) : ∀ g, v.ownBlock = some g → g < w.heap.size := by
  intro g hg
  rcases h.cases with ⟨rfl, _⟩ | ⟨g', cap, rfl, hs⟩
  · simp [Value.ownBlock] at hg
  · simp only [Value.ownBlock, Option.some.injEq] at hg
    subst hg; exact hs.lt


theorem Bls.at {w : World} {lo g n cap : Nat} {L : List Bool} (h : Bls w lo (.slice (some ⟨g, 0, none⟩) n cap) L) : BlsAt w lo g cap L ∧ n = L.length := by
  rcases h.cases with ⟨hv, _⟩ | ⟨g', cap', hv, hs⟩
  · cases hv
  · injection hv with h1 h2 h3
    injection h1 with h1
    injection h1 with h1
    subst h1 h2 h3
    exact ⟨hs, rfl⟩

theorem bls_set {w : World} {lo g n cap i : Nat} {L : List Bool} (h : Bls w lo (.slice (some ⟨g, 0, none⟩) n cap) L) (X : Bool) :
    Bls (w.setCell ⟨g, i, none⟩ (.bool X)) lo (.slice (some ⟨g, 0, none⟩) n cap) (L.set i X) := by
  refine ⟨by simp, ?_⟩
  rcases h.2 with ⟨hv, _⟩ | ⟨g', cap', cur, hv, hl, hg, hn, hc, hs, ht⟩
  · cases hv
  · injection hv with h1 h2 h3
    injection h1 with h1
    injection h1 with h1
    subst h1 h2 h3
    refine .inr ⟨g, cap, cur.setIfInBounds i (.bool X), by simp, hl, Go.Joins.block_setCell hg _, by simpa using hn, hc, by simpa using hs, ?_⟩
    rw [List.map_set, ← ht]
    simp [List.take_set]

theorem bls_lo {w : World} {lo : Nat} {v : Value} {L : List Bool} (h : Bls w lo v L) : ∀ g, v.ownBlock = some g → lo ≤ g := by
  intro g hg
  rcases h.cases with ⟨rfl, _⟩ | ⟨g', cap, rfl, hs⟩
  · simp [Value.ownBlock] at hg
  · simp only [Value.ownBlock, Option.some.injEq] at hg
    subst hg; exact hs.lo
theorem bls_setCell {w : World} {lo : Nat} {v : Value} {L : List Bool} (h : Bls w lo v L) {a : Addr} (ha : a.block < lo) (u : Value) : Bls (w.setCell a u) lo v L := ownsRow_setCell_below h ha u
theorem bls_le {w : World} {lo lo' : Nat} {v : Value} {L : List Bool} (h : Bls w lo v L) (hl : lo' ≤ lo) : Bls w lo' v L := Go.Joins.ownsRow_le h hl
theorem bls_snoc {w : World} {lo : Nat} {v : Value} {L : List Bool} {p : Bool} (h : w.ownsRow lo 4 1 v (L.length + 1) (L.map Value.bool ++ [.bool p])) : Bls w lo v (L ++ [p]) := by
  unfold Bls; simpa using h
theorem infoBool : (Tryz.prog.info? 4).map (fun i => (i.zero, i.size, i.bytes)) = some (some (.bool false), 1, 1) := by kernel_rfl
set_option maxHeartbeats 1000000 in
set_option maxRecDepth 100000 in
theorem eqBls (v1 v2 : Value) (L : List Bool) (lo1 lo2 : Nat) (w : World) (h1 : Bls w lo1 v1 L) (h2 : Bls w lo2 v2 L) :
    Calls Tryz.prog 65 #[v1, v2] w fun e w' => e = .returned (.bool true) ∧ Below w.heap.size w w' := by
  by_cases h0 : L.length = 0
  · obtain ⟨a1, c1, rfl⟩ : ∃ a c, v1 = .slice a 0 c := by
      rcases h1.cases with ⟨rfl, _⟩ | ⟨g, cap, rfl, _⟩
      · exact ⟨_, _, rfl⟩
      · rw [h0]; exact ⟨_, _, rfl⟩
    obtain ⟨a2, c2, rfl⟩ : ∃ a c, v2 = .slice a 0 c := by
      rcases h2.cases with ⟨rfl, _⟩ | ⟨g, cap, rfl, _⟩
      · exact ⟨_, _, rfl⟩
      · rw [h0]; exact ⟨_, _, rfl⟩
    clear h1 h2 h0
    go_enter Tryz.func65, Tryz.ntmps65
    go_wp2
    refine wp_loop_rounds 1 ?_; rw [rounds_succ]
    go_wp2
    go_ret
    exact ⟨rfl, Below.refl _ _⟩
  · obtain ⟨g1, c1, rfl, s1⟩ : ∃ g cap, v1 = .slice (some ⟨g, 0, none⟩) L.length cap ∧ BlsAt w lo1 g cap L := by
      rcases h1.cases with ⟨_, hL⟩ | h
      · rw [hL] at h0; exact absurd rfl h0
      · exact h
    obtain ⟨g2, c2, rfl, s2⟩ : ∃ g cap, v2 = .slice (some ⟨g, 0, none⟩) L.length cap ∧ BlsAt w lo2 g cap L := by
      rcases h2.cases with ⟨_, hL⟩ | h
      · rw [hL] at h0; exact absurd rfl h0
      · exact h
    clear h1 h2
    have hl1 := s1.len
    have hm1 := s1.cap
    have hl2 := s2.len
    have hm2 := s2.cap
    unfold maxLen at hm1 hm2
    go_enter Tryz.func65, Tryz.ntmps65
    go_wp2
    go_loopw [5] (fun i wr => ∃ k j : Nat, k ≤ L.length ∧ i = .int .i64 k ∧ wr = w.drewN j) (fun i _ => L.length - (intOf i).toNat)
    case atStart => exact ⟨0, 0, Nat.zero_le _, rfl, rfl⟩
    case round =>
      obtain ⟨k, j, hk, rfl, rfl⟩ := hrel
      by_cases hlt : k < L.length
      · have e1 := s1.cell k hlt
        have e2 := s2.cell k hlt
        generalize L[k] = X at e1 e2
        go_wp2
        go_quiet (fail)
        go_wp2
        go_roundw
        case rel => exact ⟨k + 1, j + nq, by omega, by go_num, rfl⟩
        case measure => simp [intOf]; omega
      · go_wp2
        go_ret
        exact ⟨rfl, Go.Joins.below_draws _ _ _⟩
end Go.Proofs.YtngcjlghjidnjaaGreatDoor
