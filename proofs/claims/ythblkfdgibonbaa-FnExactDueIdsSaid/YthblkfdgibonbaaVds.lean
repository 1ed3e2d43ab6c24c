import Derived.Test.YthblkfdgibonbaaOwn
import Derived.Test.YthblkfdgibonbaaVdE
import Derived.WalkKit
import Derived.ProofKit
import Derived.WalkLawsBesides
import Derived.Deep.QuietTactic
import Derived.BigQuiet
import Derived.Deep.AppendLies
import Derived.Deep.RegionWith
import Derived.Deep.DrawnRows
namespace Go.Proofs.Ythblkfdgibonbaa
open Go.ChangeShapes Go.WideShapes Go.ChangeAt Go.RowKit
attribute [local go_sem ↓] Go.wp_at_zero Go.wp_at_succ

def vcells (v : Vd) : List Value := [.int .i64 v.1, .int .i64 v.2.1, .string v.2.2]
def vrow (L : List Vd) : List Value := (L.map vcells).flatten
theorem vrow_len : ∀ L : List Vd, (vrow L).length = 3 * L.length
  | [] => rfl
  | v :: L => by
    have := vrow_len L
    unfold vrow at *
    simp only [List.map_cons, List.flatten_cons, List.length_append, List.length_cons] at *
    rw [this]; simp [vcells]; omega
theorem vrow_get : ∀ (L : List Vd) (i : Nat) (h : i < L.length), (vrow L)[i * 3]? = some (.int .i64 L[i].1) ∧ (vrow L)[i * 3 + 1]? = some (.int .i64 L[i].2.1) ∧ (vrow L)[i * 3 + 2]? = some (.string L[i].2.2)
  | v :: L, 0, _ => ⟨rfl, rfl, rfl⟩
  | v :: L, i + 1, h => by
    have := vrow_get L i (by simpa using h)
    have e : ∀ j, (vrow (v :: L))[j + 3]? = (vrow L)[j]? := fun j => rfl
    rw [show (i + 1) * 3 = i * 3 + 3 by omega, show i * 3 + 3 + 1 = (i * 3 + 1) + 3 by omega, show i * 3 + 3 + 2 = (i * 3 + 2) + 3 by omega, e, e, e]
    exact this
/-- a slice of verdicts of the call's own, in a block from lo on -/
def Vds (w : World) (lo : Nat) (v : Value) (L : List Vd) : Prop := w.ownsRow lo 109 3 v L.length (vrow L)
structure VdsAt (w : World) (lo g cap : Nat) (L : List Vd) : Prop where
  lo : lo ≤ g
  lt : g < w.heap.size
  len : L.length ≤ cap
  cap : cap ≤ maxLen
  cell : ∀ i (hi : i < L.length), w.cell? ⟨g, i * 3, none⟩ = some (.int .i64 L[i].1) ∧ w.cell? ⟨g, i * 3 + 1, none⟩ = some (.int .i64 L[i].2.1) ∧ w.cell? ⟨g, i * 3 + 2, none⟩ = some (.string L[i].2.2)
  free : ∀ o, w.frozen? ⟨g, o, none⟩ = false
theorem Vds.cases {w : World} {lo : Nat} {v : Value} {L : List Vd} (h : Vds w lo v L) :
    (v = .slice none 0 0 ∧ L = []) ∨ ∃ g cap, v = .slice (some ⟨g, 0, none⟩) L.length cap ∧ VdsAt w lo g cap L := by
  rcases h.2 with ⟨hv, h0⟩ | ⟨g, cap, cur, hv, hb, hg, hn, hc, hs, ht⟩
  · exact .inl ⟨hv, List.eq_nil_of_length_eq_zero h0⟩
  · refine .inr ⟨g, cap, hv, hb, (Array.getElem?_eq_some_iff.1 hg).1, hn, hc, ?_, ?_⟩
    · intro i hi
      have key : ∀ j, j < L.length * 3 → ∀ x, (vrow L)[j]? = some x → w.cell? ⟨g, j, none⟩ = some x := by
        intro j hj x hx
        have h1 : (cur.toList.take (L.length * 3))[j]? = some x := by rw [ht]; exact hx
        rw [List.getElem?_take_of_lt hj] at h1
        have h2 : cur[j]? = some x := by simpa using h1
        simp [World.cell?, hg, h2]
      obtain ⟨e0, e1, e2⟩ := vrow_get L i hi
      exact ⟨key _ (by omega) _ e0, key _ (by omega) _ e1, key _ (by omega) _ e2⟩
    · intro o; simp [World.frozen?, hg]
theorem vds_below {w w' : World} {lo : Nat} {v : Value} {L : List Vd} (h : Vds w lo v L) {B : Nat} (hb : Below B w w') (hB : w.heap.size ≤ B) : Vds w' lo v L := by
  refine ⟨h.1, ?_⟩
  rcases h.2 with h0 | ⟨g, cap, cur, hv, hl, hg, rest⟩
  · exact .inl h0
  · refine .inr ⟨g, cap, cur, hv, hl, ?_, rest⟩
    rw [hb.block g (Nat.lt_of_lt_of_le (Array.getElem?_eq_some_iff.1 hg).1 hB)]; exact hg
theorem vds_own {w : World} {lo : Nat} {v : Value} {L : List Vd} (h : Vds w lo v L) : ∀ g, v.ownBlock = some g → lo ≤ g ∧ g < w.heap.size := by
  intro g hg
  rcases h.cases with ⟨rfl, _⟩ | ⟨g', cap, rfl, hs⟩
  · simp [Value.ownBlock] at hg
  · simp only [Value.ownBlock, Option.some.injEq] at hg
    subst hg; exact ⟨hs.lo, hs.lt⟩
theorem vds_form {w : World} {lo : Nat} {v : Value} {L : List Vd} (h : Vds w lo v L) : ∃ a c, v = .slice a L.length c := by
  rcases h.cases with ⟨rfl, rfl⟩ | ⟨g, cap, rfl, _⟩
  · exact ⟨_, _, rfl⟩
  · exact ⟨_, _, rfl⟩
theorem Vds.at {w : World} {lo g n cap : Nat} {L : List Vd} (h : Vds w lo (.slice (some ⟨g, 0, none⟩) n cap) L) : VdsAt w lo g cap L ∧ n = L.length := by
  rcases h.cases with ⟨hv, _⟩ | ⟨g', cap', hv, hs⟩
  · cases hv
  · injection hv with h1 h2 h3
    injection h1 with h1
    injection h1 with h1
    subst h1 h2 h3
    exact ⟨hs, rfl⟩
theorem infoVd : (Try.prog.info? 109).map (fun i => (i.zero, i.size, i.bytes)) = some (some (.agg #[.int .i64 0, .int .i64 0, .string ⟨#[]⟩]), 3, 32) := by kernel_rfl

set_option maxHeartbeats 1000000 in
set_option maxRecDepth 100000 in
theorem eqVds (v1 v2 : Value) (L : List Vd) (lo1 lo2 : Nat) (w : World) (h1 : Vds w lo1 v1 L) (h2 : Vds w lo2 v2 L) :
    Calls Try.prog 64 #[v1, v2] w fun e w' => e = .returned (.bool true) ∧ Below w.heap.size w w' := by
  by_cases h0 : L.length = 0
  · obtain ⟨a1, c1, rfl⟩ := vds_form h1
    obtain ⟨a2, c2, rfl⟩ := vds_form h2
    rw [h0]
    clear h1 h2
    go_enter Try.func64, Try.ntmps64
    go_wp2
    refine wp_loop_rounds 1 ?_; rw [rounds_succ]
    go_wp2
    go_ret
    exact ⟨rfl, Below.refl _ _⟩
  · obtain ⟨g1, c1, rfl, s1⟩ : ∃ g cap, v1 = .slice (some ⟨g, 0, none⟩) L.length cap ∧ VdsAt w lo1 g cap L := by
      rcases h1.cases with ⟨_, hL⟩ | h
      · rw [hL] at h0; exact absurd rfl h0
      · exact h
    obtain ⟨g2, c2, rfl, s2⟩ : ∃ g cap, v2 = .slice (some ⟨g, 0, none⟩) L.length cap ∧ VdsAt w lo2 g cap L := by
      rcases h2.cases with ⟨_, hL⟩ | h
      · rw [hL] at h0; exact absurd rfl h0
      · exact h
    clear h1 h2
    have hl1 := s1.len
    have hm1 := s1.cap
    have hl2 := s2.len
    have hm2 := s2.cap
    have hg1 := s1.lt
    have hg2 := s2.lt
    unfold maxLen at hm1 hm2
    go_enter Try.func64, Try.ntmps64
    go_wp2
    go_loopw [5] (fun i wr => ∃ k : Nat, k ≤ L.length ∧ i = .int .i64 k ∧ Below w.heap.size w wr) (fun i _ => L.length - (intOf i).toNat)
    case atStart => exact ⟨0, Nat.zero_le _, rfl, Below.refl _ _⟩
    case round =>
      obtain ⟨k, hk, rfl, hb⟩ := hrel
      by_cases hlt : k < L.length
      · obtain ⟨a0, a1, a2⟩ := s1.cell k hlt
        obtain ⟨b0, b1, b2⟩ := s2.cell k hlt
        have x0 := (hb.cell (p := ⟨g1, k * 3, none⟩) hg1).trans a0
        have x1 := (hb.cell (p := ⟨g1, k * 3 + 1, none⟩) hg1).trans a1
        have x2 := (hb.cell (p := ⟨g1, k * 3 + 2, none⟩) hg1).trans a2
        have y0 := (hb.cell (p := ⟨g2, k * 3, none⟩) hg2).trans b0
        have y1 := (hb.cell (p := ⟨g2, k * 3 + 1, none⟩) hg2).trans b1
        have y2 := (hb.cell (p := ⟨g2, k * 3 + 2, none⟩) hg2).trans b2
        generalize L[k] = X at *
        clear a0 a1 a2 b0 b1 b2
        go_wp2_with fail
        go_region_with (go_at_call 73; refine (eqVd X _).mono ?_; rintro e w1 ⟨rfl, hb1⟩)
        all_goals
          go_wp2
          go_roundw
          case rel => exact ⟨k + 1, by omega, by go_num, hb.drew.trans (hb1.mono hb.size)⟩
          case measure => simp [intOf]; omega
      · go_wp2
        go_ret
        exact ⟨rfl, hb⟩
end Go.Proofs.Ythblkfdgibonbaa
