import Derived.Test.YtngcjlghjidnjaaGreatDoorMg19
import Derived.Deep.RegionWith
import Derived.Deep.DrawnRows
import Derived.Test.YtngcjlghjidnjaaGreatDoorMg14
import Derived.Test.YtngcjlghjidnjaaGreatDoorMg18
namespace Go.Proofs.YtngcjlghjidnjaaGreatDoor
open Go.ChangeShapes Go.WideShapes Go.ChangeAt Go.RowKit
attribute [local go_sem ↓] Go.wp_at_zero Go.wp_at_succ

set_option maxHeartbeats 1000000 in
set_option maxRecDepth 100000 in
theorem heldVds (v : Value) (n lo k : Nat) (w : World) (h : Vds w lo v (vmarks k n)) (hk : 1 ≤ k) (hm : k + 3 * n ≤ 16777216) :
    Calls Tryz.prog 72 #[v, .int .i64 k] w fun e w' => e = .returned (.int .i64 ((k + 3 * n : Nat) : Int)) ∧ Below w.heap.size w w' := by
  by_cases h0 : n = 0
  · obtain ⟨a1, c1, hv⟩ := vds_form h
    rw [vmarks_length, h0] at hv
    subst hv h0
    clear h
    go_enter Tryz.func72, Tryz.ntmps72
    go_wp2
    refine wp_loop_rounds 1 ?_; rw [rounds_succ]
    go_wp2
    go_ret
    exact ⟨rfl, Below.refl _ _⟩
  · obtain ⟨g, cap, hv, hs⟩ : ∃ g cap, v = .slice (some ⟨g, 0, none⟩) n cap ∧ VdsAt w lo g cap (vmarks k n) := by
      rcases h.cases with ⟨_, hL⟩ | ⟨g, cap, hv, hs⟩
      · have := congrArg List.length hL; rw [vmarks_length] at this; exact absurd this h0
      · rw [vmarks_length] at hv; exact ⟨g, cap, hv, hs⟩
    subst hv
    clear h
    have hcell : Hid (∀ j, j < n → w.cell? ⟨g, j * 3, none⟩ = some (.int .i64 ((k + 3 * j : Nat) : Int)) ∧ w.cell? ⟨g, j * 3 + 1, none⟩ = some (.int .i64 ((k + 3 * j + 1 : Nat) : Int)) ∧ w.cell? ⟨g, j * 3 + 2, none⟩ = some (.string (markT (k + 3 * j + 2)))) := by
      intro j hj
      have := hs.cell j (by rw [vmarks_length]; exact hj)
      rw [vmarks_get k n j (by rw [vmarks_length]; exact hj)] at this
      exact this
    have hg := hs.lt
    clear hs
    go_enter Tryz.func72, Tryz.ntmps72
    go_wp2
    go_loopw [1, 5] (fun kv i wr => ∃ j : Nat, j ≤ n ∧ i = .int .i64 j ∧ kv = .int .i64 ((k + 3 * j : Nat) : Int) ∧ Below w.heap.size w wr) (fun _ i _ => n - (intOf i).toNat)
    case atStart => exact ⟨0, Nat.zero_le _, rfl, rfl, Below.refl _ _⟩
    case round =>
      obtain ⟨j, hj, rfl, rfl, hb⟩ := hrel
      by_cases hlt : j < n
      · obtain ⟨e0, e1, e2⟩ := hcell.out j hlt
        have c0 := (hb.cell (p := ⟨g, j * 3, none⟩) hg).trans e0
        have c1 := (hb.cell (p := ⟨g, j * 3 + 1, none⟩) hg).trans e1
        have c2 := (hb.cell (p := ⟨g, j * 3 + 2, none⟩) hg).trans e2
        have hgr : g < wr.heap.size := by have := hb.size; omega
        have hkj : ((k : Int) + 3 * (j : Int) + 1 + 1).toNat = k + 3 * j + 2 := by omega
        clear e0 e1 e2
        go_wp2_with fail
        go_region_with (go_at_call 104; refine (markTextI _ _ (by omega) (by omega)).mono ?_; rw [hkj]; rintro e w1 ⟨rfl, hb1⟩; have c3 := (hb1.cell (p := ⟨g, j * 3 + 2, none⟩) hgr).trans c2)
        all_goals
          clear hkj
          go_wp2
          go_roundw
          case rel => exact ⟨j + 1, by omega, by go_num, by go_num, hb.drew.trans (hb1.mono hb.size)⟩
          case measure => simp [intOf]; omega
      · obtain rfl : j = n := by omega
        go_wp2
        go_ret
        exact ⟨rfl, hb⟩
end Go.Proofs.YtngcjlghjidnjaaGreatDoor
namespace Go.Proofs.YtngcjlghjidnjaaGreatDoor
open Go.ChangeShapes Go.WideShapes Go.ChangeAt Go.RowKit

/-- the bmarks from k on -/
def bmarks (k n : Nat) : List Bool := (List.range n).map fun i => decide ((k + i) % 3 = 0)
set_option maxRecDepth 100000 in
theorem bmarks_length (k n : Nat) : (bmarks k n).length = n := by simp [bmarks]
theorem bmarks_step (k j : Nat) (L : List Bool) (hj : j < L.length) : (bmarks k j ++ L.drop j).set j (decide ((k + j) % 3 = 0)) = bmarks k (j + 1) ++ L.drop (j + 1) := by
  rw [List.set_append_right _ _ (by rw [bmarks_length]; exact Nat.le_refl _), bmarks_length, Nat.sub_self, List.drop_eq_getElem_cons hj, List.set_cons_zero]
  simp [bmarks, List.range_succ]

set_option maxHeartbeats 1000000 in
set_option maxRecDepth 100000 in
theorem markBls (v : Value) (L : List Bool) (lo k : Nat) (w : World) (h : Bls w lo v L) (hk : 1 ≤ k) (hm : k + L.length ≤ 16777216) :
    Calls Tryz.prog 68 #[v, .int .i64 k] w fun e w' => e = .returned (.int .i64 ((k + L.length : Nat) : Int)) ∧ Bls w' lo v (bmarks k L.length) ∧ OffV v w w' := by
  by_cases h0 : L.length = 0
  · have HS : Hid (Bls w lo v (bmarks k L.length)) := by
      rw [h0]
      have hL := List.eq_nil_of_length_eq_zero h0
      rw [hL] at h
      exact h
    have hk0 : k + L.length = k := by omega
    rw [hk0]
    obtain ⟨a1, c1, hv⟩ : ∃ a c, v = .slice a 0 c := by
      rcases h.cases with ⟨rfl, _⟩ | ⟨g, cap, rfl, _⟩
      · exact ⟨_, _, rfl⟩
      · rw [h0]; exact ⟨_, _, rfl⟩
    subst hv
    clear h h0 hk0
    go_enter Tryz.func68, Tryz.ntmps68
    go_wp2
    refine wp_loop_rounds 1 ?_; rw [rounds_succ]
    go_wp2
    go_ret
    exact ⟨rfl, HS.out, .inr (Below.refl _ _)⟩
  · obtain ⟨g, cap, hv, _⟩ : ∃ g cap, v = .slice (some ⟨g, 0, none⟩) L.length cap ∧ BlsAt w lo g cap L := by
      rcases h.cases with ⟨_, hL⟩ | h
      · rw [hL] at h0; exact absurd rfl h0
      · exact h
    subst hv
    have HI : Hid (Bls w lo (.slice (some ⟨g, 0, none⟩) L.length cap) (bmarks k 0 ++ L.drop 0)) := h
    clear h
    have hl1 : L.length ≤ 16777216 := by omega
    go_enter Tryz.func68, Tryz.ntmps68
    go_wp2
    go_loopw [1, 5] (fun kv i wr => ∃ j : Nat, j ≤ L.length ∧ i = .int .i64 j ∧ kv = .int .i64 ((k + j : Nat) : Int) ∧ Hid (Bls wr lo (.slice (some ⟨g, 0, none⟩) L.length cap) (bmarks k j ++ L.drop j)) ∧ Off g w wr) (fun _ i _ => L.length - (intOf i).toNat)
    case atStart => exact ⟨0, Nat.zero_le _, rfl, rfl, HI, Off.refl _ _⟩
    case round =>
      obtain ⟨j, hj, rfl, rfl, HS, hb⟩ := hrel
      by_cases hlt : j < L.length
      · have HS1 := HS
        have hlen : (bmarks k j ++ L.drop j).length = L.length := by simp [bmarks_length]; omega
        obtain ⟨x, ec⟩ : ∃ x, wr.cell? ⟨g, j, none⟩ = some (.bool x) := ⟨_, HS1.out.at.1.cell j (by omega)⟩
        have ef := HS1.out.at.1.free j
        have hg : lo ≤ g := HS1.out.at.1.lo
        have hk3 : (((k : Int) + (j : Int)) % 3 == 0) = decide ((k + j) % 3 = 0) := by rw [Bool.eq_iff_iff, beq_iff_eq, decide_eq_true_eq]; omega
        clear hlen
        go_wp2
        go_roundw
        case rel =>
          refine ⟨j + 1, by omega, by go_num, by go_num, ?_, hb.setCell _⟩
          show Bls _ _ _ _
          rw [← bmarks_step k j L hlt]
          exact bls_set HS1.out _
        case measure => simp [intOf]; omega
      · obtain rfl : j = L.length := by omega
        go_wp2
        go_ret
        refine ⟨rfl, ?_, .inl ⟨g, rfl, hb⟩⟩
        have e := HS.out
        rw [List.drop_length, List.append_nil] at e
        exact e

set_option maxRecDepth 100000 in
theorem bmarks_get (k n j : Nat) (h : j < (bmarks k n).length) : (bmarks k n)[j] = decide ((k + j) % 3 = 0) := by simp [bmarks]

set_option maxHeartbeats 1000000 in
set_option maxRecDepth 100000 in
theorem heldBls (v : Value) (n lo k : Nat) (w : World) (h : Bls w lo v (bmarks k n)) (hk : 1 ≤ k) (hm : k + n ≤ 16777216) :
    Calls Tryz.prog 71 #[v, .int .i64 k] w fun e w' => e = .returned (.int .i64 ((k + n : Nat) : Int)) ∧ Below w.heap.size w w' := by
  by_cases h0 : n = 0
  · obtain ⟨a1, c1, hv⟩ : ∃ a c, v = .slice a 0 c := by
      rcases h.cases with ⟨rfl, _⟩ | ⟨g, cap, rfl, _⟩
      · exact ⟨_, _, rfl⟩
      · rw [bmarks_length, h0]; exact ⟨_, _, rfl⟩
    subst hv h0
    clear h
    go_enter Tryz.func71, Tryz.ntmps71
    go_wp2
    refine wp_loop_rounds 1 ?_; rw [rounds_succ]
    go_wp2
    go_ret
    exact ⟨rfl, Below.refl _ _⟩
  · obtain ⟨g, cap, hv, hs⟩ : ∃ g cap, v = .slice (some ⟨g, 0, none⟩) n cap ∧ BlsAt w lo g cap (bmarks k n) := by
      rcases h.cases with ⟨_, hL⟩ | ⟨g, cap, hv, hs⟩
      · have := congrArg List.length hL; rw [bmarks_length] at this; exact absurd this h0
      · rw [bmarks_length] at hv; exact ⟨g, cap, hv, hs⟩
    subst hv
    clear h
    have hcell : Hid (∀ j, j < n → w.cell? ⟨g, j, none⟩ = some (.bool (decide ((k + j) % 3 = 0)))) := by
      intro j hj
      rw [← bmarks_get k n j (by rw [bmarks_length]; exact hj)]; exact hs.cell j (by rw [bmarks_length]; exact hj)
    have hg := hs.lt
    clear hs
    go_enter Tryz.func71, Tryz.ntmps71
    go_wp2
    go_loopw [1, 5] (fun kv i wr => ∃ j : Nat, j ≤ n ∧ i = .int .i64 j ∧ kv = .int .i64 ((k + j : Nat) : Int) ∧ Below w.heap.size w wr) (fun _ i _ => n - (intOf i).toNat)
    case atStart => exact ⟨0, Nat.zero_le _, rfl, rfl, Below.refl _ _⟩
    case round =>
      obtain ⟨j, hj, rfl, rfl, hb⟩ := hrel
      by_cases hlt : j < n
      · have ec := (hb.cell (p := ⟨g, j, none⟩) hg).trans (hcell.out j hlt)
        have hk3 : (((k : Int) + (j : Int)) % 3 == 0) = decide ((k + j) % 3 = 0) := by rw [Bool.eq_iff_iff, beq_iff_eq, decide_eq_true_eq]; omega
        generalize decide ((k + j) % 3 = 0) = X at ec hk3
        go_wp2
        go_roundw
        case rel => exact ⟨j + 1, by omega, by go_num, by go_num, hb⟩
        case measure => simp [intOf]; omega
      · obtain rfl : j = n := by omega
        go_wp2
        go_ret
        exact ⟨rfl, hb⟩
end Go.Proofs.YtngcjlghjidnjaaGreatDoor
namespace Go.Proofs.YtngcjlghjidnjaaGreatDoor
open Go.ChangeShapes Go.WideShapes Go.ChangeAt Go.RowKit

/-- all that was there but the own blocks of some slices is as it was -/
def OffL (vs : List Value) (w w1 : World) : Prop := w1.os = w.os ∧ w1.tape = w.tape ∧ w1.output = w.output ∧ w.heap.size ≤ w1.heap.size ∧ ∀ k, k < w.heap.size → (∀ v ∈ vs, v.ownBlock ≠ some k) → w1.heap[k]? = w.heap[k]?
theorem OffL.of_below {vs : List Value} {w w1 : World} (h : Below w.heap.size w w1) : OffL vs w w1 := ⟨h.os, h.tape, h.output, h.size, fun k hk _ => h.block k hk⟩
theorem OffL.ofV {vs : List Value} {v : Value} {w w1 : World} (h : OffV v w w1) (hv : v ∈ vs) : OffL vs w w1 := by
  rcases h with ⟨b, hb, ho⟩ | h
  · exact ⟨ho.os, ho.tape, ho.output, ho.size, fun k hk hne => ho.block k hk (fun e => hne v hv (by rw [hb, e]))⟩
  · exact OffL.of_below h
theorem OffL.ofGrown {vs : List Value} {v : Value} {w w1 : World} (h : w.grownBy w1 v.ownBlock) (hv : v ∈ vs) : OffL vs w w1 :=
  ⟨h.os, h.tape, h.output, h.size, fun k hk hne => h.block k hk (fun e => hne v hv e.symm)⟩
theorem OffL.trans {vs : List Value} {w w1 w2 : World} (h : OffL vs w w1) (k : OffL vs w1 w2) : OffL vs w w2 :=
  ⟨k.1.trans h.1, k.2.1.trans h.2.1, k.2.2.1.trans h.2.2.1, Nat.le_trans h.2.2.2.1 k.2.2.2.1, fun i hi hb => (k.2.2.2.2 i (Nat.lt_of_lt_of_le hi h.2.2.2.1) hb).trans (h.2.2.2.2 i hi hb)⟩
theorem OffL.size {vs : List Value} {w w1 : World} (h : OffL vs w w1) : w.heap.size ≤ w1.heap.size := h.2.2.2.1
theorem OffL.cell {vs : List Value} {w w1 : World} {k i : Nat} (h : OffL vs w w1) (hk : k < w.heap.size) (hne : ∀ v ∈ vs, v.ownBlock ≠ some k) : w1.cell? ⟨k, i, none⟩ = w.cell? ⟨k, i, none⟩ := World.cell?_of_block (w := w) (h.2.2.2.2 k hk hne)
theorem OffL.frozen {vs : List Value} {w w1 : World} {k i : Nat} (h : OffL vs w w1) (hk : k < w.heap.size) (hne : ∀ v ∈ vs, v.ownBlock ≠ some k) : w1.frozen? ⟨k, i, none⟩ = w.frozen? ⟨k, i, none⟩ := World.frozen?_of_block (w := w) (h.2.2.2.2 k hk hne)
theorem OffL.row {vs : List Value} {w w1 : World} {lo sz n : Nat} {T : TypeId} {u : Value} {xs : List Value} (h : OffL vs w w1) (hs : w.ownsRow lo T sz u n xs) (hne : ∀ g, u.ownBlock = some g → ∀ v ∈ vs, v.ownBlock ≠ some g) : w1.ownsRow lo T sz u n xs := by
  refine ⟨hs.1, ?_⟩
  rcases hs.2 with h0 | ⟨g, cap, cur, hv, hl, hg, rest⟩
  · exact .inl h0
  · refine .inr ⟨g, cap, cur, hv, hl, ?_, rest⟩
    rw [h.2.2.2.2 g (Array.getElem?_eq_some_iff.1 hg).1 (hne g (by rw [hv]; rfl))]; exact hg
theorem OffL.below {vs : List Value} {w w1 : World} {N : Nat} (h : OffL vs w w1) (hN : ∀ v ∈ vs, ∀ b, v.ownBlock = some b → N ≤ b) (hs : N ≤ w.heap.size) : Below N w w1 :=
  ⟨h.1, h.2.1, h.2.2.1, h.2.2.2.1, fun k hk => h.2.2.2.2 k (by omega) (fun v hv e => by have := hN v hv k e; omega)⟩
theorem OffL.mono {vs us : List Value} {w w1 : World} (h : OffL vs w w1) (hsub : ∀ v ∈ vs, v ∈ us) : OffL us w w1 :=
  ⟨h.1, h.2.1, h.2.2.1, h.2.2.2.1, fun k hk hne => h.2.2.2.2 k hk fun v hv => hne v (hsub v hv)⟩
end Go.Proofs.YtngcjlghjidnjaaGreatDoor
