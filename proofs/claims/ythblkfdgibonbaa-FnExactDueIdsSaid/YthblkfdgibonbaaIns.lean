import Derived.Test.YthblkfdgibonbaaOwn
import Derived.WalkKit
import Derived.ProofKit
import Derived.WalkLawsBesides
import Derived.Deep.QuietTactic
import Derived.BigQuiet
import Derived.Deep.AppendLies
namespace Go.Proofs.Ythblkfdgibonbaa
open Go.ChangeShapes Go.WideShapes Go.ChangeAt Go.RowKit

/-- a slice of strings of the call's own, in a block from lo on, that holds L -/
def Ins (w : World) (lo : Nat) (v : Value) (L : List Int) : Prop := w.ownsRow lo 3 1 v L.length (L.map (Value.int .i64))

/-- what such a slice is: no element; or the cells of a block -/
structure InsAt (w : World) (lo g cap : Nat) (L : List Int) : Prop where
  lo : lo ≤ g
  lt : g < w.heap.size
  len : L.length ≤ cap
  cap : cap ≤ maxLen
  cell : ∀ i (hi : i < L.length), w.cell? ⟨g, i, none⟩ = some (.int .i64 L[i])
  free : ∀ o, w.frozen? ⟨g, o, none⟩ = false

theorem Ins.cases {w : World} {lo : Nat} {v : Value} {L : List Int} (h : Ins w lo v L) :
    (v = .slice none 0 0 ∧ L = []) ∨ ∃ g cap, v = .slice (some ⟨g, 0, none⟩) L.length cap ∧ InsAt w lo g cap L := by
  rcases h.2 with ⟨hv, h0⟩ | ⟨g, cap, cur, hv, hb, hg, hn, hc, hs, ht⟩
  · exact .inl ⟨hv, List.eq_nil_of_length_eq_zero h0⟩
  · refine .inr ⟨g, cap, hv, hb, ?_, hn, hc, ?_, ?_⟩
    · exact (Array.getElem?_eq_some_iff.1 hg).1
    · intro i hi
      have e : cur[i]? = some (Value.int .i64 L[i]) := by
        have h1 : (cur.toList.take (L.length * 1))[i]? = (L.map (Value.int .i64))[i]? := by rw [ht]
        rw [List.getElem?_take_of_lt (by omega), List.getElem?_map, List.getElem?_eq_getElem hi] at h1
        simpa using h1
      simp [World.cell?, hg, e]
    · intro o; simp [World.frozen?, hg]

theorem ins_below {w w' : World} {lo : Nat} {v : Value} {L : List Int} (h : Ins w lo v L) {B : Nat} (hb : Below B w w') (hB : w.heap.size ≤ B) : Ins w' lo v L := by
  refine ⟨h.1, ?_⟩
  rcases h.2 with h0 | ⟨g, cap, cur, hv, hl, hg, rest⟩
  · exact .inl h0
  · refine .inr ⟨g, cap, cur, hv, hl, ?_, rest⟩
    rw [hb.block g (Nat.lt_of_lt_of_le (Array.getElem?_eq_some_iff.1 hg).1 hB)]; exact hg

/-- where what is written lies from hi on, and the slice below it -/
theorem ins_below_at {w w' : World} {lo hi : Nat} {v : Value} {L : List Int} (h : Ins w lo v L) (hb : Below hi w w') (hlt : ∀ g, v.ownBlock = some g → g < hi) : Ins w' lo v L := by
  refine ⟨h.1, ?_⟩
  rcases h.2 with h0 | ⟨g, cap, cur, hv, hl, hg, rest⟩
  · exact .inl h0
  · refine .inr ⟨g, cap, cur, hv, hl, ?_, rest⟩
    rw [hb.block g (hlt g (by rw [hv]; rfl))]; exact hg
theorem ins_own {w : World} {lo : Nat} {v : Value} {L : List Int} (h : Ins w lo v L) : ∀ g, v.ownBlock = some g → g < w.heap.size := by
  intro g hg
  rcases h.cases with ⟨rfl, _⟩ | ⟨g', cap, rfl, hs⟩
  · simp [Value.ownBlock] at hg
  · simp only [Value.ownBlock, Option.some.injEq] at hg
    subst hg; exact hs.lt


theorem Ins.at {w : World} {lo g n cap : Nat} {L : List Int} (h : Ins w lo (.slice (some ⟨g, 0, none⟩) n cap) L) : InsAt w lo g cap L ∧ n = L.length := by
  rcases h.cases with ⟨hv, _⟩ | ⟨g', cap', hv, hs⟩
  · cases hv
  · injection hv with h1 h2 h3
    injection h1 with h1
    injection h1 with h1
    subst h1 h2 h3
    exact ⟨hs, rfl⟩

theorem ins_set {w : World} {lo g n cap i : Nat} {L : List Int} (h : Ins w lo (.slice (some ⟨g, 0, none⟩) n cap) L) (X : Int) :
    Ins (w.setCell ⟨g, i, none⟩ (.int .i64 X)) lo (.slice (some ⟨g, 0, none⟩) n cap) (L.set i X) := by
  refine ⟨by simp, ?_⟩
  rcases h.2 with ⟨hv, _⟩ | ⟨g', cap', cur, hv, hl, hg, hn, hc, hs, ht⟩
  · cases hv
  · injection hv with h1 h2 h3
    injection h1 with h1
    injection h1 with h1
    subst h1 h2 h3
    refine .inr ⟨g, cap, cur.setIfInBounds i (.int .i64 X), by simp, hl, Go.Joins.block_setCell hg _, by simpa using hn, hc, by simpa using hs, ?_⟩
    rw [List.map_set, ← ht]
    simp [List.take_set]

theorem ins_lo {w : World} {lo : Nat} {v : Value} {L : List Int} (h : Ins w lo v L) : ∀ g, v.ownBlock = some g → lo ≤ g := by
  intro g hg
  rcases h.cases with ⟨rfl, _⟩ | ⟨g', cap, rfl, hs⟩
  · simp [Value.ownBlock] at hg
  · simp only [Value.ownBlock, Option.some.injEq] at hg
    subst hg; exact hs.lo
theorem ins_setCell {w : World} {lo : Nat} {v : Value} {L : List Int} (h : Ins w lo v L) {a : Addr} (ha : a.block < lo) (u : Value) : Ins (w.setCell a u) lo v L := ownsRow_setCell_below h ha u
theorem ins_le {w : World} {lo lo' : Nat} {v : Value} {L : List Int} (h : Ins w lo v L) (hl : lo' ≤ lo) : Ins w lo' v L := Go.Joins.ownsRow_le h hl
theorem ins_snoc {w : World} {lo : Nat} {v : Value} {L : List Int} {p : Int} (h : w.ownsRow lo 3 1 v (L.length + 1) (L.map (Value.int .i64) ++ [.int .i64 p])) : Ins w lo v (L ++ [p]) := by
  unfold Ins; simpa using h
theorem infoInt : (Try.prog.info? 3).map (fun i => (i.zero, i.size, i.bytes)) = some (some (.int .i64 0), 1, 8) := by kernel_rfl
set_option maxHeartbeats 1000000 in
set_option maxRecDepth 100000 in
theorem eqIns (v1 v2 : Value) (L : List Int) (lo1 lo2 : Nat) (w : World) (h1 : Ins w lo1 v1 L) (h2 : Ins w lo2 v2 L) :
    Calls Try.prog 17 #[v1, v2] w fun e w' => e = .returned (.bool true) ∧ Below w.heap.size w w' := by
  by_cases h0 : L.length = 0
  · obtain ⟨a1, c1, rfl⟩ : ∃ a c, v1 = .slice a 0 c := by
      rcases h1.cases with ⟨rfl, _⟩ | ⟨g, cap, rfl, _⟩
      · exact ⟨_, _, rfl⟩
      · rw [h0]; exact ⟨_, _, rfl⟩
    obtain ⟨a2, c2, rfl⟩ : ∃ a c, v2 = .slice a 0 c := by
      rcases h2.cases with ⟨rfl, _⟩ | ⟨g, cap, rfl, _⟩
      · exact ⟨_, _, rfl⟩
      · rw [h0]; exact ⟨_, _, rfl⟩
    clear h1 h2 h0
    go_enter Try.func17, Try.ntmps17
    go_wp2
    refine wp_loop_rounds 1 ?_; rw [rounds_succ]
    go_wp2
    go_ret
    exact ⟨rfl, Below.refl _ _⟩
  · obtain ⟨g1, c1, rfl, s1⟩ : ∃ g cap, v1 = .slice (some ⟨g, 0, none⟩) L.length cap ∧ InsAt w lo1 g cap L := by
      rcases h1.cases with ⟨_, hL⟩ | h
      · rw [hL] at h0; exact absurd rfl h0
      · exact h
    obtain ⟨g2, c2, rfl, s2⟩ : ∃ g cap, v2 = .slice (some ⟨g, 0, none⟩) L.length cap ∧ InsAt w lo2 g cap L := by
      rcases h2.cases with ⟨_, hL⟩ | h
      · rw [hL] at h0; exact absurd rfl h0
      · exact h
    clear h1 h2
    have hl1 := s1.len
    have hm1 := s1.cap
    have hl2 := s2.len
    have hm2 := s2.cap
    unfold maxLen at hm1 hm2
    go_enter Try.func17, Try.ntmps17
    go_wp2
    go_loopw [5] (fun i wr => ∃ k j : Nat, k ≤ L.length ∧ i = .int .i64 k ∧ wr = w.drewN j) (fun i _ => L.length - (intOf i).toNat)
    case atStart => exact ⟨0, 0, Nat.zero_le _, rfl, rfl⟩
    case round =>
      obtain ⟨k, j, hk, rfl, rfl⟩ := hrel
      by_cases hlt : k < L.length
      · have e1 := s1.cell k hlt
        have e2 := s2.cell k hlt
        generalize L[k] = X at e1 e2
        go_wp2
        go_quiet (fail)
        go_wp2
        go_roundw
        case rel => exact ⟨k + 1, j + nq, by omega, by go_num, rfl⟩
        case measure => simp [intOf]; omega
      · go_wp2
        go_ret
        exact ⟨rfl, Go.Joins.below_draws _ _ _⟩
end Go.Proofs.Ythblkfdgibonbaa
