import Derived.Test.YtngcjlghjidnjaaGreatDoorMg1
import Derived.Test.YtngcjlghjidnjaaGreatDoorMg13
import Derived.WalkKit
import Derived.ProofKit
import Derived.WalkLawsBesides
import Derived.Deep.QuietTactic
import Derived.BigQuiet
import Derived.Deep.AppendLies
import Derived.Deep.RegionWith
import Derived.Deep.DrawnRows
import Derived.Test.YtngcjlghjidnjaaGreatDoorMg12
import Derived.Deep.Slices
import Derived.Deep.SlicePairs
import Derived.Deep.Fields
namespace Go.Proofs.YtngcjlghjidnjaaGreatDoor
open Go.ChangeShapes Go.WideShapes Go.ChangeAt Go.RowKit
attribute [local go_sem ↓] Go.wp_at_zero Go.wp_at_succ

def vcells (v : Vd) : List Value := [.int .i64 v.1, .int .i64 v.2.1, .string v.2.2]
def vrow (L : List Vd) : List Value := (L.map vcells).flatten
theorem vrow_len : ∀ L : List Vd, (vrow L).length = 3 * L.length
  | [] => rfl
  | v :: L => by
    have := vrow_len L
    unfold vrow at *
    simp only [List.map_cons, List.flatten_cons, List.length_append, List.length_cons] at *
    rw [this]; simp [vcells]; omega
theorem vrow_get : ∀ (L : List Vd) (i : Nat) (h : i < L.length), (vrow L)[i * 3]? = some (.int .i64 L[i].1) ∧ (vrow L)[i * 3 + 1]? = some (.int .i64 L[i].2.1) ∧ (vrow L)[i * 3 + 2]? = some (.string L[i].2.2)
  | v :: L, 0, _ => ⟨rfl, rfl, rfl⟩
  | v :: L, i + 1, h => by
    have := vrow_get L i (by simpa using h)
    have e : ∀ j, (vrow (v :: L))[j + 3]? = (vrow L)[j]? := fun j => rfl
    rw [show (i + 1) * 3 = i * 3 + 3 by omega, show i * 3 + 3 + 1 = (i * 3 + 1) + 3 by omega, show i * 3 + 3 + 2 = (i * 3 + 2) + 3 by omega, e, e, e]
    exact this
/-- a slice of verdicts of the call's own, in a block from lo on -/
def Vds (w : World) (lo : Nat) (v : Value) (L : List Vd) : Prop := w.ownsRow lo 37 3 v L.length (vrow L)
structure VdsAt (w : World) (lo g cap : Nat) (L : List Vd) : Prop where
  lo : lo ≤ g
  lt : g < w.heap.size
  len : L.length ≤ cap
  cap : cap ≤ maxLen
  cell : ∀ i (hi : i < L.length), w.cell? ⟨g, i * 3, none⟩ = some (.int .i64 L[i].1) ∧ w.cell? ⟨g, i * 3 + 1, none⟩ = some (.int .i64 L[i].2.1) ∧ w.cell? ⟨g, i * 3 + 2, none⟩ = some (.string L[i].2.2)
  free : ∀ o, w.frozen? ⟨g, o, none⟩ = false
theorem Vds.cases {w : World} {lo : Nat} {v : Value} {L : List Vd} (h : Vds w lo v L) :
    (v = .slice none 0 0 ∧ L = []) ∨ ∃ g cap, v = .slice (some ⟨g, 0, none⟩) L.length cap ∧ VdsAt w lo g cap L := by
  rcases h.2 with ⟨hv, h0⟩ | ⟨g, cap, cur, hv, hb, hg, hn, hc, hs, ht⟩
  · exact .inl ⟨hv, List.eq_nil_of_length_eq_zero h0⟩
  · refine .inr ⟨g, cap, hv, hb, (Array.getElem?_eq_some_iff.1 hg).1, hn, hc, ?_, ?_⟩
    · intro i hi
      have key : ∀ j, j < L.length * 3 → ∀ x, (vrow L)[j]? = some x → w.cell? ⟨g, j, none⟩ = some x := by
        intro j hj x hx
        have h1 : (cur.toList.take (L.length * 3))[j]? = some x := by rw [ht]; exact hx
        rw [List.getElem?_take_of_lt hj] at h1
        have h2 : cur[j]? = some x := by simpa using h1
        simp [World.cell?, hg, h2]
      obtain ⟨e0, e1, e2⟩ := vrow_get L i hi
      exact ⟨key _ (by omega) _ e0, key _ (by omega) _ e1, key _ (by omega) _ e2⟩
    · intro o; simp [World.frozen?, hg]
theorem vds_below {w w' : World} {lo : Nat} {v : Value} {L : List Vd} (h : Vds w lo v L) {B : Nat} (hb : Below B w w') (hB : w.heap.size ≤ B) : Vds w' lo v L := by
  refine ⟨h.1, ?_⟩
  rcases h.2 with h0 | ⟨g, cap, cur, hv, hl, hg, rest⟩
  · exact .inl h0
  · refine .inr ⟨g, cap, cur, hv, hl, ?_, rest⟩
    rw [hb.block g (Nat.lt_of_lt_of_le (Array.getElem?_eq_some_iff.1 hg).1 hB)]; exact hg
theorem vds_own {w : World} {lo : Nat} {v : Value} {L : List Vd} (h : Vds w lo v L) : ∀ g, v.ownBlock = some g → lo ≤ g ∧ g < w.heap.size := by
  intro g hg
  rcases h.cases with ⟨rfl, _⟩ | ⟨g', cap, rfl, hs⟩
  · simp [Value.ownBlock] at hg
  · simp only [Value.ownBlock, Option.some.injEq] at hg
    subst hg; exact ⟨hs.lo, hs.lt⟩
theorem vds_form {w : World} {lo : Nat} {v : Value} {L : List Vd} (h : Vds w lo v L) : ∃ a c, v = .slice a L.length c := by
  rcases h.cases with ⟨rfl, rfl⟩ | ⟨g, cap, rfl, _⟩
  · exact ⟨_, _, rfl⟩
  · exact ⟨_, _, rfl⟩
theorem Vds.at {w : World} {lo g n cap : Nat} {L : List Vd} (h : Vds w lo (.slice (some ⟨g, 0, none⟩) n cap) L) : VdsAt w lo g cap L ∧ n = L.length := by
  rcases h.cases with ⟨hv, _⟩ | ⟨g', cap', hv, hs⟩
  · cases hv
  · injection hv with h1 h2 h3
    injection h1 with h1
    injection h1 with h1
    subst h1 h2 h3
    exact ⟨hs, rfl⟩
theorem infoVd : (Tryz.prog.info? 37).map (fun i => (i.zero, i.size, i.bytes)) = some (some (.agg #[.int .i64 0, .int .i64 0, .string ⟨#[]⟩]), 3, 32) := by kernel_rfl

set_option maxHeartbeats 1000000 in
set_option maxRecDepth 100000 in
theorem eqVds (v1 v2 : Value) (L : List Vd) (lo1 lo2 : Nat) (w : World) (h1 : Vds w lo1 v1 L) (h2 : Vds w lo2 v2 L) :
    Calls Tryz.prog 66 #[v1, v2] w fun e w' => e = .returned (.bool true) ∧ Below w.heap.size w w' := by
  by_cases h0 : L.length = 0
  · obtain ⟨a1, c1, rfl⟩ := vds_form h1
    obtain ⟨a2, c2, rfl⟩ := vds_form h2
    rw [h0]
    clear h1 h2
    go_enter Tryz.func66, Tryz.ntmps66
    go_wp2
    refine wp_loop_rounds 1 ?_; rw [rounds_succ]
    go_wp2
    go_ret
    exact ⟨rfl, Below.refl _ _⟩
  · obtain ⟨g1, c1, rfl, s1⟩ : ∃ g cap, v1 = .slice (some ⟨g, 0, none⟩) L.length cap ∧ VdsAt w lo1 g cap L := by
      rcases h1.cases with ⟨_, hL⟩ | h
      · rw [hL] at h0; exact absurd rfl h0
      · exact h
    obtain ⟨g2, c2, rfl, s2⟩ : ∃ g cap, v2 = .slice (some ⟨g, 0, none⟩) L.length cap ∧ VdsAt w lo2 g cap L := by
      rcases h2.cases with ⟨_, hL⟩ | h
      · rw [hL] at h0; exact absurd rfl h0
      · exact h
    clear h1 h2
    have hl1 := s1.len
    have hm1 := s1.cap
    have hl2 := s2.len
    have hm2 := s2.cap
    have hg1 := s1.lt
    have hg2 := s2.lt
    unfold maxLen at hm1 hm2
    go_enter Tryz.func66, Tryz.ntmps66
    go_wp2
    go_loopw [5] (fun i wr => ∃ k : Nat, k ≤ L.length ∧ i = .int .i64 k ∧ Below w.heap.size w wr) (fun i _ => L.length - (intOf i).toNat)
    case atStart => exact ⟨0, Nat.zero_le _, rfl, Below.refl _ _⟩
    case round =>
      obtain ⟨k, hk, rfl, hb⟩ := hrel
      by_cases hlt : k < L.length
      · obtain ⟨a0, a1, a2⟩ := s1.cell k hlt
        obtain ⟨b0, b1, b2⟩ := s2.cell k hlt
        have x0 := (hb.cell (p := ⟨g1, k * 3, none⟩) hg1).trans a0
        have x1 := (hb.cell (p := ⟨g1, k * 3 + 1, none⟩) hg1).trans a1
        have x2 := (hb.cell (p := ⟨g1, k * 3 + 2, none⟩) hg1).trans a2
        have y0 := (hb.cell (p := ⟨g2, k * 3, none⟩) hg2).trans b0
        have y1 := (hb.cell (p := ⟨g2, k * 3 + 1, none⟩) hg2).trans b1
        have y2 := (hb.cell (p := ⟨g2, k * 3 + 2, none⟩) hg2).trans b2
        generalize L[k] = X at *
        clear a0 a1 a2 b0 b1 b2
        go_wp2_with fail
        go_region_with (go_at_call 103; refine (eqVd X _).mono ?_; rintro e w1 ⟨rfl, hb1⟩)
        all_goals
          go_wp2
          go_roundw
          case rel => exact ⟨k + 1, by omega, by go_num, hb.drew.trans (hb1.mono hb.size)⟩
          case measure => simp [intOf]; omega
      · go_wp2
        go_ret
        exact ⟨rfl, hb⟩
end Go.Proofs.YtngcjlghjidnjaaGreatDoor
namespace Go.Proofs.YtngcjlghjidnjaaGreatDoor
open Go.ChangeShapes Go.WideShapes Go.ChangeAt Go.RowKit Go.Deep

theorem array9 {α : Type} {cs : Array α} (h : cs.size = 9) : ∃ c0 c1 c2 c3 c4 c5 c6 c7 c8, cs = #[c0, c1, c2, c3, c4, c5, c6, c7, c8] := by
  obtain ⟨l⟩ := cs
  match l, h with
  | [c0, c1, c2, c3, c4, c5, c6, c7, c8], _ => exact ⟨c0, c1, c2, c3, c4, c5, c6, c7, c8, rfl⟩
theorem open_agg9 {H : Type} {enc : TypeId × Value → H} {P : Program} {w : World} {base : Nat} {spare : Nat → Bool} {held : Bool} {r : Reach} {b0 : Nat} {t : TypeId} {f0 f1 f2 f3 f4 f5 f6 f7 f8 : Field} {v : Value} {d : DataW H} {p : List MemPlace}
    (hs : P.underlying t = some (.struct #[f0, f1, f2, f3, f4, f5, f6, f7, f8])) (hone : oneCellFields P #[f0, f1, f2, f3, f4, f5, f6, f7, f8] = true) (hC : P.cellsOf t = 9)
    (hv : Value.okWide P w r b0 t v) (h : DataW.Trod enc P w base spare held t v d p) :
    ∃ (v0 v1 v2 v3 v4 v5 v6 v7 v8 : Value) (y0 y1 y2 y3 y4 y5 y6 y7 y8 : DataW H × List MemPlace) (n : Nat), v = .agg #[v0, v1, v2, v3, v4, v5, v6, v7, v8] ∧
      DataW.trod enc P w base spare held n f0.type [v0] = some y0 ∧ DataW.trod enc P w base spare held n f1.type [v1] = some y1 ∧ DataW.trod enc P w base spare held n f2.type [v2] = some y2 ∧ DataW.trod enc P w base spare held n f3.type [v3] = some y3 ∧ DataW.trod enc P w base spare held n f4.type [v4] = some y4 ∧ DataW.trod enc P w base spare held n f5.type [v5] = some y5 ∧ DataW.trod enc P w base spare held n f6.type [v6] = some y6 ∧ DataW.trod enc P w base spare held n f7.type [v7] = some y7 ∧ DataW.trod enc P w base spare held n f8.type [v8] = some y8 := by
  obtain ⟨cs, rfl, hsz⟩ := okWide_struct hs hv
  obtain ⟨c0, c1, c2, c3, c4, c5, c6, c7, c8, rfl⟩ := array9 (hsz.trans hC)
  obtain ⟨fuel, hf⟩ := h
  obtain ⟨xs, n, _, hx, hl, hlen, hf⟩ := DataW.trod_struct hs hf
  obtain ⟨o0, k0⟩ := hone_of hone 0 f0 rfl
  obtain ⟨o1, k1⟩ := hone_of hone 1 f1 rfl
  obtain ⟨o2, k2⟩ := hone_of hone 2 f2 rfl
  obtain ⟨o3, k3⟩ := hone_of hone 3 f3 rfl
  obtain ⟨o4, k4⟩ := hone_of hone 4 f4 rfl
  obtain ⟨o5, k5⟩ := hone_of hone 5 f5 rfl
  obtain ⟨o6, k6⟩ := hone_of hone 6 f6 rfl
  obtain ⟨o7, k7⟩ := hone_of hone 7 f7 rfl
  obtain ⟨o8, k8⟩ := hone_of hone 8 f8 rfl
  match xs, hlen with
  | [y0, y1, y2, y3, y4, y5, y6, y7, y8], _ =>
    have g0 := hf 0 f0 rfl
    have g1 := hf 1 f1 rfl
    have g2 := hf 2 f2 rfl
    have g3 := hf 3 f3 rfl
    have g4 := hf 4 f4 rfl
    have g5 := hf 5 f5 rfl
    have g6 := hf 6 f6 rfl
    have g7 := hf 7 f7 rfl
    have g8 := hf 8 f8 rfl
    exact ⟨c0, c1, c2, c3, c4, c5, c6, c7, c8, y0, y1, y2, y3, y4, y5, y6, y7, y8, n, rfl, by simpa [Value.cells, o0, k0] using g0, by simpa [Value.cells, o1, k1] using g1, by simpa [Value.cells, o2, k2] using g2, by simpa [Value.cells, o3, k3] using g3, by simpa [Value.cells, o4, k4] using g4, by simpa [Value.cells, o5, k5] using g5, by simpa [Value.cells, o6, k6] using g6, by simpa [Value.cells, o7, k7] using g7, by simpa [Value.cells, o8, k8] using g8⟩

/-- a slice of verdicts that can be read -/
def ArgV (w : World) (v : Value) (L : List Vd) : Prop :=
  L.length ≤ maxLen ∧ (∀ x ∈ L, x.2.2.size ≤ maxLen) ∧ ((L = [] ∧ ∃ a c, v = .slice a 0 c) ∨ ∃ b off cap, v = .slice (some ⟨b, off, none⟩) L.length cap ∧ b < w.heap.size ∧ ∀ i (hi : i < L.length), w.cell? ⟨b, off + i * 3, none⟩ = some (.int .i64 L[i].1) ∧ w.cell? ⟨b, off + i * 3 + 1, none⟩ = some (.int .i64 L[i].2.1) ∧ w.cell? ⟨b, off + i * 3 + 2, none⟩ = some (.string L[i].2.2))
theorem ArgV.below {w w1 : World} {v : Value} {L : List Vd} (h : ArgV w v L) (hb : Below w.heap.size w w1) : ArgV w1 v L := by
  refine ⟨h.1, h.2.1, ?_⟩
  rcases h.2.2 with h0 | ⟨b, off, cap, hv, hlt, hc⟩
  · exact .inl h0
  · exact .inr ⟨b, off, cap, hv, Nat.lt_of_lt_of_le hlt hb.size, fun i hi => ⟨(hb.cell (p := ⟨b, off + i * 3, none⟩) hlt).trans (hc i hi).1, (hb.cell (p := ⟨b, off + i * 3 + 1, none⟩) hlt).trans (hc i hi).2.1, (hb.cell (p := ⟨b, off + i * 3 + 2, none⟩) hlt).trans (hc i hi).2.2⟩⟩
theorem ArgV.form {w : World} {v : Value} {L : List Vd} (h : ArgV w v L) : ∃ a c, v = .slice a L.length c := by
  rcases h.2.2 with ⟨rfl, a, c, rfl⟩ | ⟨b, off, cap, rfl, _⟩
  · exact ⟨_, _, rfl⟩
  · exact ⟨_, _, rfl⟩
theorem block_of {W : World} {b off : Nat} {v : Value} (h : W.cell? ⟨b, off, none⟩ = some v) : b < W.heap.size := World.block_lt_of_cell? W ⟨b, off, none⟩ h

set_option maxRecDepth 100000 in
theorem openVds {H : Type} {enc : TypeId × Value → H} {W : World} {n : Nat} {v : Value} {y : DataW H × List MemPlace} (h : DataW.trod enc Tryz.prog W 0 (fun _ => true) true n 46 [v] = some y) : ∃ L, ArgV W v L := by
  rcases open_slice Tryz.underlying46 h with ⟨hcs, _⟩ | ⟨a, len, cap, m, n', D, Pl, hcs, _, hl, hm, hmm, _, hx⟩
  · simp only [List.cons.injEq, and_true] at hcs
    subst hcs
    exact ⟨[], Nat.zero_le _, (fun x hx => by cases hx), .inl ⟨rfl, _, _, rfl⟩⟩
  · simp only [List.cons.injEq, and_true] at hcs
    subst hcs
    by_cases h0 : len = 0
    · subst h0; exact ⟨[], Nat.zero_le _, (fun x hx => by cases hx), .inl ⟨rfl, _, _, rfl⟩⟩
    · have hlm : len ≤ m := by rw [hmm]; simp; omega
      have ce : Tryz.prog.cellsOf 117 = 3 := by kernel_rfl
      have hvd : ∀ i, i < m → ∃ q : Vd, q.2.2.size ≤ maxLen ∧ W.cell? (a.add (i * 3)) = some (.int .i64 q.1) ∧ W.cell? (a.add (i * 3 + 1)) = some (.int .i64 q.2.1) ∧ W.cell? (a.add (i * 3 + 2)) = some (.string q.2.2) := by
        intro i hi
        obtain ⟨cs', h1, h2⟩ := hx i hi
        rw [ce] at h1
        obtain ⟨_, hlen, hcell⟩ := World.cells?_some h1
        obtain ⟨xs, k, hk, hxy, _, hxl, hf⟩ := DataW.trod_struct Tryz.underlying117 h2
        match xs, hxl, cs', hlen with
        | [y0, y1, y2], _, [u0, u1, u2], _ =>
          have g0 := hf 0 _ rfl
          have g1 := hf 1 _ rfl
          have g2 := hf 2 _ rfl
          have cI : Tryz.prog.cellsOf 3 = 1 := by kernel_rfl
          have cS : Tryz.prog.cellsOf 9 = 1 := by kernel_rfl
          simp [cI, cS] at g0 g1 g2
          obtain ⟨n0, e0, _⟩ := DataW.trod_int Tryz.underlying3 g0
          obtain ⟨n1, e1, _⟩ := DataW.trod_int Tryz.underlying3 g1
          obtain ⟨s2, e2, _, hs2⟩ := DataW.trod_string Tryz.underlying9 g2
          simp only [List.cons.injEq, and_true] at e0 e1 e2
          have q0 := hcell 0 (by omega)
          have q1 := hcell 1 (by omega)
          have q2 := hcell 2 (by omega)
          rw [add_add] at q0 q1 q2
          refine ⟨(n0, n1, s2), hs2, by simpa [e0] using q0, by simpa [e1] using q1, by simpa [e2] using q2⟩
      obtain ⟨Q, hQ⟩ := choose_lt hvd
      obtain ⟨b, off, spot⟩ := a
      have hc0 := (hQ 0 (by omega)).2.1
      have hspot : spot = none := by simpa [Addr.add] using World.cell?_spot hc0
      subst hspot
      have ea : ∀ i, (⟨b, off, none⟩ : Addr).add i = ⟨b, off + i, none⟩ := fun i => by by_cases hi0 : i = 0 <;> simp [Addr.add, hi0]
      rw [ea] at hc0
      refine ⟨(List.range len).map Q, by simp; omega, ?_, .inr ⟨b, off, cap, by simp, block_of hc0, fun i hi => ?_⟩⟩
      · intro x hx'
        obtain ⟨i, hi, rfl⟩ := List.mem_map.1 hx'
        exact (hQ i (by have := List.mem_range.1 hi; omega)).1
      · simp only [List.length_map, List.length_range] at hi
        have := hQ i (by omega)
        rw [ea, ea, ea] at this
        simpa [Nat.add_assoc] using this.2
end Go.Proofs.YtngcjlghjidnjaaGreatDoor
namespace Go.Proofs.YtngcjlghjidnjaaGreatDoor
open Go.ChangeShapes Go.WideShapes Go.ChangeAt Go.RowKit

/-- a slice of strings of the call's own, in a block from lo on, that holds L -/
def Bls (w : World) (lo : Nat) (v : Value) (L : List Bool) : Prop := w.ownsRow lo 4 1 v L.length (L.map Value.bool)

/-- what such a slice is: no element; or the cells of a block -/
structure BlsAt (w : World) (lo g cap : Nat) (L : List Bool) : Prop where
  lo : lo ≤ g
  lt : g < w.heap.size
  len : L.length ≤ cap
  cap : cap ≤ maxLen
  cell : ∀ i (hi : i < L.length), w.cell? ⟨g, i, none⟩ = some (.bool L[i])
  free : ∀ o, w.frozen? ⟨g, o, none⟩ = false

theorem Bls.cases {w : World} {lo : Nat} {v : Value} {L : List Bool} (h : Bls w lo v L) :
    (v = .slice none 0 0 ∧ L = []) ∨ ∃ g cap, v = .slice (some ⟨g, 0, none⟩) L.length cap ∧ BlsAt w lo g cap L := by
  rcases h.2 with ⟨hv, h0⟩ | ⟨g, cap, cur, hv, hb, hg, hn, hc, hs, ht⟩
  · exact .inl ⟨hv, List.eq_nil_of_length_eq_zero h0⟩
  · refine .inr ⟨g, cap, hv, hb, ?_, hn, hc, ?_, ?_⟩
    · exact (Array.getElem?_eq_some_iff.1 hg).1
    · intro i hi
      have e : cur[i]? = some (Value.bool L[i]) := by
        have h1 : (cur.toList.take (L.length * 1))[i]? = (L.map Value.bool)[i]? := by rw [ht]
        rw [List.getElem?_take_of_lt (by omega), List.getElem?_map, List.getElem?_eq_getElem hi] at h1
        simpa using h1
      simp [World.cell?, hg, e]
    · intro o; simp [World.frozen?, hg]

theorem bls_below {w w' : World} {lo : Nat} {v : Value} {L : List Bool} (h : Bls w lo v L) {B : Nat} (hb : Below B w w') (hB : w.heap.size ≤ B) : Bls w' lo v L := by
  refine ⟨h.1, ?_⟩
  rcases h.2 with h0 | ⟨g, cap, cur, hv, hl, hg, rest⟩
  · exact .inl h0
  · refine .inr ⟨g, cap, cur, hv, hl, ?_, rest⟩
    rw [hb.block g (Nat.lt_of_lt_of_le (Array.getElem?_eq_some_iff.1 hg).1 hB)]; exact hg

/-- where what is written lies from hi on, and the slice below it -/
theorem bls_below_at {w w' : World} {lo hi : Nat} {v : Value} {L : List Bool} (h : Bls w lo v L) (hb : Below hi w w') (hlt : ∀ g, v.ownBlock = some g → g < hi) : Bls w' lo v L := by
  refine ⟨h.1, ?_⟩
  rcases h.2 with h0 | ⟨g, cap, cur, hv, hl, hg, rest⟩
  · exact .inl h0
  · refine .inr ⟨g, cap, cur, hv, hl, ?_, rest⟩
    rw [hb.block g (hlt g (by rw [hv]; rfl))]; exact hg
theorem bls_own {w : World} {lo : Nat} {v : Value} {L : List Bool} (h : Bls w lo v L) : ∀ g, v.ownBlock = some g → g < w.heap.size := by
  intro g hg
  rcases h.cases with ⟨rfl, _⟩ | ⟨g', cap, rfl, hs⟩
  · simp [Value.ownBlock] at hg
  · simp only [Value.ownBlock, Option.some.injEq] at hg
    subst hg; exact hs.lt


theorem Bls.at {w : World} {lo g n cap : Nat} {L : List Bool} (h : Bls w lo (.slice (some ⟨g, 0, none⟩) n cap) L) : BlsAt w lo g cap L ∧ n = L.length := by
  rcases h.cases with ⟨hv, _⟩ | ⟨g', cap', hv, hs⟩
  · cases hv
  · injection hv with h1 h2 h3
    injection h1 with h1
    injection h1 with h1
    subst h1 h2 h3
    exact ⟨hs, rfl⟩

theorem bls_set {w : World} {lo g n cap i : Nat} {L : List Bool} (h : Bls w lo (.slice (some ⟨g, 0, none⟩) n cap) L) (X : Bool) :
    Bls (w.setCell ⟨g, i, none⟩ (.bool X)) lo (.slice (some ⟨g, 0, none⟩) n cap) (L.set i X) := by
  refine ⟨by simp, ?_⟩
  rcases h.2 with ⟨hv, _⟩ | ⟨g', cap', cur, hv, hl, hg, hn, hc, hs, ht⟩
  · cases hv
  · injection hv with h1 h2 h3
    injection h1 with h1
    injection h1 with h1
    subst h1 h2 h3
    refine .inr ⟨g, cap, cur.setIfInBounds i (.bool X), by simp, hl, Go.Joins.block_setCell hg _, by simpa using hn, hc, by simpa using hs, ?_⟩
    rw [List.map_set, ← ht]
    simp [List.take_set]

theorem bls_lo {w : World} {lo : Nat} {v : Value} {L : List Bool} (h : Bls w lo v L) : ∀ g, v.ownBlock = some g → lo ≤ g := by
  intro g hg
  rcases h.cases with ⟨rfl, _⟩ | ⟨g', cap, rfl, hs⟩
  · simp [Value.ownBlock] at hg
  · simp only [Value.ownBlock, Option.some.injEq] at hg
    subst hg; exact hs.lo
theorem bls_setCell {w : World} {lo : Nat} {v : Value} {L : List Bool} (h : Bls w lo v L) {a : Addr} (ha : a.block < lo) (u : Value) : Bls (w.setCell a u) lo v L := ownsRow_setCell_below h ha u
theorem bls_le {w : World} {lo lo' : Nat} {v : Value} {L : List Bool} (h : Bls w lo v L) (hl : lo' ≤ lo) : Bls w lo' v L := Go.Joins.ownsRow_le h hl
theorem bls_snoc {w : World} {lo : Nat} {v : Value} {L : List Bool} {p : Bool} (h : w.ownsRow lo 4 1 v (L.length + 1) (L.map Value.bool ++ [.bool p])) : Bls w lo v (L ++ [p]) := by
  unfold Bls; simpa using h
theorem infoBool : (Tryz.prog.info? 4).map (fun i => (i.zero, i.size, i.bytes)) = some (some (.bool false), 1, 1) := by kernel_rfl
set_option maxHeartbeats 1000000 in
set_option maxRecDepth 100000 in
theorem eqBls (v1 v2 : Value) (L : List Bool) (lo1 lo2 : Nat) (w : World) (h1 : Bls w lo1 v1 L) (h2 : Bls w lo2 v2 L) :
    Calls Tryz.prog 65 #[v1, v2] w fun e w' => e = .returned (.bool true) ∧ Below w.heap.size w w' := by
  by_cases h0 : L.length = 0
  · obtain ⟨a1, c1, rfl⟩ : ∃ a c, v1 = .slice a 0 c := by
      rcases h1.cases with ⟨rfl, _⟩ | ⟨g, cap, rfl, _⟩
      · exact ⟨_, _, rfl⟩
      · rw [h0]; exact ⟨_, _, rfl⟩
    obtain ⟨a2, c2, rfl⟩ : ∃ a c, v2 = .slice a 0 c := by
      rcases h2.cases with ⟨rfl, _⟩ | ⟨g, cap, rfl, _⟩
      · exact ⟨_, _, rfl⟩
      · rw [h0]; exact ⟨_, _, rfl⟩
    clear h1 h2 h0
    go_enter Tryz.func65, Tryz.ntmps65
    go_wp2
    refine wp_loop_rounds 1 ?_; rw [rounds_succ]
    go_wp2
    go_ret
    exact ⟨rfl, Below.refl _ _⟩
  · obtain ⟨g1, c1, rfl, s1⟩ : ∃ g cap, v1 = .slice (some ⟨g, 0, none⟩) L.length cap ∧ BlsAt w lo1 g cap L := by
      rcases h1.cases with ⟨_, hL⟩ | h
      · rw [hL] at h0; exact absurd rfl h0
      · exact h
    obtain ⟨g2, c2, rfl, s2⟩ : ∃ g cap, v2 = .slice (some ⟨g, 0, none⟩) L.length cap ∧ BlsAt w lo2 g cap L := by
      rcases h2.cases with ⟨_, hL⟩ | h
      · rw [hL] at h0; exact absurd rfl h0
      · exact h
    clear h1 h2
    have hl1 := s1.len
    have hm1 := s1.cap
    have hl2 := s2.len
    have hm2 := s2.cap
    unfold maxLen at hm1 hm2
    go_enter Tryz.func65, Tryz.ntmps65
    go_wp2
    go_loopw [5] (fun i wr => ∃ k j : Nat, k ≤ L.length ∧ i = .int .i64 k ∧ wr = w.drewN j) (fun i _ => L.length - (intOf i).toNat)
    case atStart => exact ⟨0, 0, Nat.zero_le _, rfl, rfl⟩
    case round =>
      obtain ⟨k, j, hk, rfl, rfl⟩ := hrel
      by_cases hlt : k < L.length
      · have e1 := s1.cell k hlt
        have e2 := s2.cell k hlt
        generalize L[k] = X at e1 e2
        go_wp2
        go_quiet (fail)
        go_wp2
        go_roundw
        case rel => exact ⟨k + 1, j + nq, by omega, by go_num, rfl⟩
        case measure => simp [intOf]; omega
      · go_wp2
        go_ret
        exact ⟨rfl, Go.Joins.below_draws _ _ _⟩
end Go.Proofs.YtngcjlghjidnjaaGreatDoor
