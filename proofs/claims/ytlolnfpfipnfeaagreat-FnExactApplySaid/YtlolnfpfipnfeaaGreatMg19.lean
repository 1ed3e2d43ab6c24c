import Derived.Test.YtlolnfpfipnfeaaGreatMg1
import Derived.Test.YtlolnfpfipnfeaaGreatMg18
import Derived.WalkKit
import Derived.ProofKit
import Derived.WalkLawsBesides
import Derived.Deep.QuietTactic
import Derived.BigQuiet
import Derived.Deep.AppendLies
import Derived.Deep.RegionWith
import Derived.Deep.DrawnRows
import Derived.Test.YtlolnfpfipnfeaaGreatMg5
namespace Go.Proofs.YtlolnfpfipnfeaaGreat
open Go.ChangeShapes Go.WideShapes Go.ChangeAt Go.RowKit
attribute [local go_sem ↓] Go.wp_at_zero Go.wp_at_succ

def vcells (v : Vd) : List Value := [.int .i64 v.1, .int .i64 v.2.1, .string v.2.2]
def vrow (L : List Vd) : List Value := (L.map vcells).flatten
theorem vrow_len : ∀ L : List Vd, (vrow L).length = 3 * L.length
  | [] => rfl
  | v :: L => by
    have := vrow_len L
    unfold vrow at *
    simp only [List.map_cons, List.flatten_cons, List.length_append, List.length_cons] at *
    rw [this]; simp [vcells]; omega
theorem vrow_get : ∀ (L : List Vd) (i : Nat) (h : i < L.length), (vrow L)[i * 3]? = some (.int .i64 L[i].1) ∧ (vrow L)[i * 3 + 1]? = some (.int .i64 L[i].2.1) ∧ (vrow L)[i * 3 + 2]? = some (.string L[i].2.2)
  | v :: L, 0, _ => ⟨rfl, rfl, rfl⟩
  | v :: L, i + 1, h => by
    have := vrow_get L i (by simpa using h)
    have e : ∀ j, (vrow (v :: L))[j + 3]? = (vrow L)[j]? := fun j => rfl
    rw [show (i + 1) * 3 = i * 3 + 3 by omega, show i * 3 + 3 + 1 = (i * 3 + 1) + 3 by omega, show i * 3 + 3 + 2 = (i * 3 + 2) + 3 by omega, e, e, e]
    exact this
/-- a slice of verdicts of the call's own, in a block from lo on -/
def Vds (w : World) (lo : Nat) (v : Value) (L : List Vd) : Prop := w.ownsRow lo 41 3 v L.length (vrow L)
structure VdsAt (w : World) (lo g cap : Nat) (L : List Vd) : Prop where
  lo : lo ≤ g
  lt : g < w.heap.size
  len : L.length ≤ cap
  cap : cap ≤ maxLen
  cell : ∀ i (hi : i < L.length), w.cell? ⟨g, i * 3, none⟩ = some (.int .i64 L[i].1) ∧ w.cell? ⟨g, i * 3 + 1, none⟩ = some (.int .i64 L[i].2.1) ∧ w.cell? ⟨g, i * 3 + 2, none⟩ = some (.string L[i].2.2)
  free : ∀ o, w.frozen? ⟨g, o, none⟩ = false
theorem Vds.cases {w : World} {lo : Nat} {v : Value} {L : List Vd} (h : Vds w lo v L) :
    (v = .slice none 0 0 ∧ L = []) ∨ ∃ g cap, v = .slice (some ⟨g, 0, none⟩) L.length cap ∧ VdsAt w lo g cap L := by
  rcases h.2 with ⟨hv, h0⟩ | ⟨g, cap, cur, hv, hb, hg, hn, hc, hs, ht⟩
  · exact .inl ⟨hv, List.eq_nil_of_length_eq_zero h0⟩
  · refine .inr ⟨g, cap, hv, hb, (Array.getElem?_eq_some_iff.1 hg).1, hn, hc, ?_, ?_⟩
    · intro i hi
      have key : ∀ j, j < L.length * 3 → ∀ x, (vrow L)[j]? = some x → w.cell? ⟨g, j, none⟩ = some x := by
        intro j hj x hx
        have h1 : (cur.toList.take (L.length * 3))[j]? = some x := by rw [ht]; exact hx
        rw [List.getElem?_take_of_lt hj] at h1
        have h2 : cur[j]? = some x := by simpa using h1
        simp [World.cell?, hg, h2]
      obtain ⟨e0, e1, e2⟩ := vrow_get L i hi
      exact ⟨key _ (by omega) _ e0, key _ (by omega) _ e1, key _ (by omega) _ e2⟩
    · intro o; simp [World.frozen?, hg]
theorem vds_below {w w' : World} {lo : Nat} {v : Value} {L : List Vd} (h : Vds w lo v L) {B : Nat} (hb : Below B w w') (hB : w.heap.size ≤ B) : Vds w' lo v L := by
  refine ⟨h.1, ?_⟩
  rcases h.2 with h0 | ⟨g, cap, cur, hv, hl, hg, rest⟩
  · exact .inl h0
  · refine .inr ⟨g, cap, cur, hv, hl, ?_, rest⟩
    rw [hb.block g (Nat.lt_of_lt_of_le (Array.getElem?_eq_some_iff.1 hg).1 hB)]; exact hg
theorem vds_own {w : World} {lo : Nat} {v : Value} {L : List Vd} (h : Vds w lo v L) : ∀ g, v.ownBlock = some g → lo ≤ g ∧ g < w.heap.size := by
  intro g hg
  rcases h.cases with ⟨rfl, _⟩ | ⟨g', cap, rfl, hs⟩
  · simp [Value.ownBlock] at hg
  · simp only [Value.ownBlock, Option.some.injEq] at hg
    subst hg; exact ⟨hs.lo, hs.lt⟩
theorem vds_form {w : World} {lo : Nat} {v : Value} {L : List Vd} (h : Vds w lo v L) : ∃ a c, v = .slice a L.length c := by
  rcases h.cases with ⟨rfl, rfl⟩ | ⟨g, cap, rfl, _⟩
  · exact ⟨_, _, rfl⟩
  · exact ⟨_, _, rfl⟩
theorem Vds.at {w : World} {lo g n cap : Nat} {L : List Vd} (h : Vds w lo (.slice (some ⟨g, 0, none⟩) n cap) L) : VdsAt w lo g cap L ∧ n = L.length := by
  rcases h.cases with ⟨hv, _⟩ | ⟨g', cap', hv, hs⟩
  · cases hv
  · injection hv with h1 h2 h3
    injection h1 with h1
    injection h1 with h1
    subst h1 h2 h3
    exact ⟨hs, rfl⟩
theorem infoVd : (Tryz.prog.info? 41).map (fun i => (i.zero, i.size, i.bytes)) = some (some (.agg #[.int .i64 0, .int .i64 0, .string ⟨#[]⟩]), 3, 32) := by kernel_rfl

set_option maxHeartbeats 1000000 in
set_option maxRecDepth 100000 in
theorem eqVds (v1 v2 : Value) (L : List Vd) (lo1 lo2 : Nat) (w : World) (h1 : Vds w lo1 v1 L) (h2 : Vds w lo2 v2 L) :
    Calls Tryz.prog 65 #[v1, v2] w fun e w' => e = .returned (.bool true) ∧ Below w.heap.size w w' := by
  by_cases h0 : L.length = 0
  · obtain ⟨a1, c1, rfl⟩ := vds_form h1
    obtain ⟨a2, c2, rfl⟩ := vds_form h2
    rw [h0]
    clear h1 h2
    go_enter Tryz.func65, Tryz.ntmps65
    go_wp2
    refine wp_loop_rounds 1 ?_; rw [rounds_succ]
    go_wp2
    go_ret
    exact ⟨rfl, Below.refl _ _⟩
  · obtain ⟨g1, c1, rfl, s1⟩ : ∃ g cap, v1 = .slice (some ⟨g, 0, none⟩) L.length cap ∧ VdsAt w lo1 g cap L := by
      rcases h1.cases with ⟨_, hL⟩ | h
      · rw [hL] at h0; exact absurd rfl h0
      · exact h
    obtain ⟨g2, c2, rfl, s2⟩ : ∃ g cap, v2 = .slice (some ⟨g, 0, none⟩) L.length cap ∧ VdsAt w lo2 g cap L := by
      rcases h2.cases with ⟨_, hL⟩ | h
      · rw [hL] at h0; exact absurd rfl h0
      · exact h
    clear h1 h2
    have hl1 := s1.len
    have hm1 := s1.cap
    have hl2 := s2.len
    have hm2 := s2.cap
    have hg1 := s1.lt
    have hg2 := s2.lt
    unfold maxLen at hm1 hm2
    go_enter Tryz.func65, Tryz.ntmps65
    go_wp2
    go_loopw [5] (fun i wr => ∃ k : Nat, k ≤ L.length ∧ i = .int .i64 k ∧ Below w.heap.size w wr) (fun i _ => L.length - (intOf i).toNat)
    case atStart => exact ⟨0, Nat.zero_le _, rfl, Below.refl _ _⟩
    case round =>
      obtain ⟨k, hk, rfl, hb⟩ := hrel
      by_cases hlt : k < L.length
      · obtain ⟨a0, a1, a2⟩ := s1.cell k hlt
        obtain ⟨b0, b1, b2⟩ := s2.cell k hlt
        have x0 := (hb.cell (p := ⟨g1, k * 3, none⟩) hg1).trans a0
        have x1 := (hb.cell (p := ⟨g1, k * 3 + 1, none⟩) hg1).trans a1
        have x2 := (hb.cell (p := ⟨g1, k * 3 + 2, none⟩) hg1).trans a2
        have y0 := (hb.cell (p := ⟨g2, k * 3, none⟩) hg2).trans b0
        have y1 := (hb.cell (p := ⟨g2, k * 3 + 1, none⟩) hg2).trans b1
        have y2 := (hb.cell (p := ⟨g2, k * 3 + 2, none⟩) hg2).trans b2
        generalize L[k] = X at *
        clear a0 a1 a2 b0 b1 b2
        go_wp2_with fail
        go_region_with (go_at_call 31; refine (eqVd X _).mono ?_; rintro e w1 ⟨rfl, hb1⟩)
        all_goals
          go_wp2
          go_roundw
          case rel => exact ⟨k + 1, by omega, by go_num, hb.drew.trans (hb1.mono hb.size)⟩
          case measure => simp [intOf]; omega
      · go_wp2
        go_ret
        exact ⟨rfl, hb⟩
end Go.Proofs.YtlolnfpfipnfeaaGreat
namespace Go.Proofs.YtlolnfpfipnfeaaGreat
open Go.ChangeShapes Go.WideShapes Go.ChangeAt Go.RowKit

/-- an item of the queue -/
structure It where
  id : Int
  born : Int
  fr : ByteArray
  R : List ByteArray
  bo : ByteArray
  V : List Vd
  tr : Int
  du : Int
  bn : Bool
def it0 : It := ⟨0, 0, ⟨#[]⟩, [], ⟨#[]⟩, [], 0, 0, false⟩
/-- its cells, with its two slices -/
def ic (x : It) (p : Value × Value) : List Value := [.int .i64 x.id, .int .i64 x.born, .string x.fr, p.1, .string x.bo, p.2, .int .i64 x.tr, .int .i64 x.du, .bool x.bn]
def irow (L : List It) (P : List (Value × Value)) : List (List Value) := List.zipWith ic L P
theorem ic_len (x : It) (p : Value × Value) : (ic x p).length = 9 := rfl
theorem irow_len {L : List It} {P : List (Value × Value)} (h : P.length = L.length) : (irow L P).length = L.length := by unfold irow; rw [List.length_zipWith]; omega
theorem irow_nine : ∀ (L : List It) (P : List (Value × Value)), ∀ c ∈ irow L P, c.length = 9
  | [], _, c, hc => by simp [irow] at hc
  | _ :: _, [], c, hc => by simp [irow] at hc
  | x :: L, p :: P, c, hc => by
    have e : irow (x :: L) (p :: P) = ic x p :: irow L P := rfl
    rw [e] at hc
    rcases List.mem_cons.1 hc with rfl | hc
    · rfl
    · exact irow_nine L P c hc
theorem irow_get {L : List It} {P : List (Value × Value)} (h : P.length = L.length) (i : Nat) (hi : i < L.length) : (irow L P)[i]'(by rw [irow_len h]; exact hi) = ic L[i] (P[i]'(by omega)) := by unfold irow; rw [List.getElem_zipWith]
theorem irow_set : ∀ (L : List It) (P : List (Value × Value)) (i : Nat) (x : It) (p : Value × Value), P.length = L.length → (irow L P).set i (ic x p) = irow (L.set i x) (P.set i p)
  | [], [], _, _, _, _ => rfl
  | y :: L, q :: P, 0, x, p, _ => rfl
  | y :: L, q :: P, i + 1, x, p, h => by
    have := irow_set L P i x p (by simpa using h)
    show ic y q :: (irow L P).set i (ic x p) = ic y q :: irow (L.set i x) (P.set i p)
    rw [this]
/-- no two of them have one block -/
def Dis (vs : List Value) : Prop := ∀ i (hi : i < vs.length) j (hj : j < vs.length), i ≠ j → ∀ a, vs[i].ownBlock = some a → vs[j].ownBlock ≠ some a
structure ItsP (w : World) (lo : Nat) (v : Value) (L : List It) (P : List (Value × Value)) : Prop where
  len : P.length = L.length
  row : Rw 57 9 w lo v (irow L P)
  str : ∀ i (hi : i < L.length), Strs w lo (P[i]'(by omega)).1 L[i].R
  vds : ∀ i (hi : i < L.length), Vds w lo (P[i]'(by omega)).2 L[i].V
  d1 : Dis (P.map (·.1))
  d2 : Dis (P.map (·.2))
def Its (w : World) (lo : Nat) (v : Value) (L : List It) : Prop := ∃ P, ItsP w lo v L P
theorem ItsP.below {w w' : World} {lo B : Nat} {v : Value} {L : List It} {P : List (Value × Value)} (h : ItsP w lo v L P) (hb : Below B w w') (hB : w.heap.size ≤ B) : ItsP w' lo v L P :=
  ⟨h.len, h.row.below hb hB, fun i hi => strs_below (h.str i hi) hb hB, fun i hi => vds_below (h.vds i hi) hb hB, h.d1, h.d2⟩
theorem Its.below {w w' : World} {lo B : Nat} {v : Value} {L : List It} (h : Its w lo v L) (hb : Below B w w') (hB : w.heap.size ≤ B) : Its w' lo v L := by
  obtain ⟨P, h⟩ := h; exact ⟨P, h.below hb hB⟩
theorem ItsP.le {w : World} {lo lo' : Nat} {v : Value} {L : List It} {P : List (Value × Value)} (h : ItsP w lo v L P) (hl : lo' ≤ lo) : ItsP w lo' v L P :=
  ⟨h.len, h.row.le hl, fun i hi => row_le (h.str i hi) hl, fun i hi => row_le (h.vds i hi) hl, h.d1, h.d2⟩
theorem Its.le {w : World} {lo lo' : Nat} {v : Value} {L : List It} (h : Its w lo v L) (hl : lo' ≤ lo) : Its w lo' v L := by
  obtain ⟨P, h⟩ := h; exact ⟨P, h.le hl⟩
theorem ItsP.form {w : World} {lo : Nat} {v : Value} {L : List It} {P : List (Value × Value)} (h : ItsP w lo v L P) : ∃ a c, v = .slice a L.length c := by
  obtain ⟨a, c, e⟩ := h.row.form
  rw [irow_len h.len] at e
  exact ⟨a, c, e⟩
theorem Its.form {w : World} {lo : Nat} {v : Value} {L : List It} (h : Its w lo v L) : ∃ a c, v = .slice a L.length c := by obtain ⟨P, h⟩ := h; exact h.form
theorem ItsP.setB {w : World} {lo : Nat} {v : Value} {L : List It} {P : List (Value × Value)} (h : ItsP w lo v L P) {a : Addr} (ha : a.block < lo) (u : Value) : ItsP (w.setCell a u) lo v L P :=
  ⟨h.len, h.row.set_below ha u, fun i hi => strs_setCell (h.str i hi) ha u, fun i hi => row_set_neR (h.vds i hi) (fun g hg => by have := (row_lt (h.vds i hi) g hg).1; omega) u, h.d1, h.d2⟩
theorem Its.setB {w : World} {lo : Nat} {v : Value} {L : List It} (h : Its w lo v L) {a : Addr} (ha : a.block < lo) (u : Value) : Its (w.setCell a u) lo v L := by
  obtain ⟨P, h⟩ := h; exact ⟨P, h.setB ha u⟩
/-- all blocks of a queue's items lie from lo on -/
theorem ItsP.out {w w' : World} {lo : Nat} {v : Value} {L : List It} {P : List (Value × Value)} (h : ItsP w lo v L P) (hb : ∀ k, lo ≤ k → k < w.heap.size → w'.heap[k]? = w.heap[k]?) : ItsP w' lo v L P := by
  have key : ∀ {T k n : Nat} {u : Value} {xs : List Value}, w.ownsRow lo T k u n xs → w'.ownsRow lo T k u n xs := by
    intro T k n u xs hr
    refine ⟨hr.1, ?_⟩
    rcases hr.2 with h0 | ⟨g, cap, cur, hv, hl, hg, rest⟩
    · exact .inl h0
    · exact .inr ⟨g, cap, cur, hv, hl, by rw [hb g hl (Array.getElem?_eq_some_iff.1 hg).1]; exact hg, rest⟩
  exact ⟨h.len, ⟨key h.row.1, h.row.2⟩, fun i hi => key (h.str i hi), fun i hi => key (h.vds i hi), h.d1, h.d2⟩
theorem Its.out {w w' : World} {lo : Nat} {v : Value} {L : List It} (h : Its w lo v L) (hb : ∀ k, lo ≤ k → k < w.heap.size → w'.heap[k]? = w.heap[k]?) : Its w' lo v L := by
  obtain ⟨P, h⟩ := h; exact ⟨P, h.out hb⟩
theorem infoIt : (Tryz.prog.info? 57).map (fun i => (i.zero, i.size, i.bytes)) = some (some (.agg #[.int .i64 0, .int .i64 0, .string ⟨#[]⟩, .slice none 0 0, .string ⟨#[]⟩, .slice none 0 0, .int .i64 0, .int .i64 0, .bool false]), 9, 120) := by kernel_rfl
end Go.Proofs.YtlolnfpfipnfeaaGreat
