import Derived.Test.YtngcjlghjidnjaaGreatDoorMg1
import Derived.Test.YtngcjlghjidnjaaGreatDoorMg5
import Derived.WalkKit
import Derived.ProofKit
import Derived.WalkLawsBesides
import Derived.Deep.QuietTactic
import Derived.BigQuiet
import Derived.Deep.AppendLies
import Derived.Deep.RegionWith
import Derived.Deep.DrawnRows
import Derived.Laws.BytesString
namespace Go.Proofs.YtngcjlghjidnjaaGreatDoor
open Go.ChangeShapes Go.WideShapes Go.ChangeAt Go.RowKit
attribute [local go_sem ↓] Go.wp_at_zero Go.wp_at_succ

def vcells (v : Vd) : List Value := [.int .i64 v.1, .int .i64 v.2.1, .string v.2.2]
def vrow (L : List Vd) : List Value := (L.map vcells).flatten
theorem vrow_len : ∀ L : List Vd, (vrow L).length = 3 * L.length
  | [] => rfl
  | v :: L => by
    have := vrow_len L
    unfold vrow at *
    simp only [List.map_cons, List.flatten_cons, List.length_append, List.length_cons] at *
    rw [this]; simp [vcells]; omega
theorem vrow_get : ∀ (L : List Vd) (i : Nat) (h : i < L.length), (vrow L)[i * 3]? = some (.int .i64 L[i].1) ∧ (vrow L)[i * 3 + 1]? = some (.int .i64 L[i].2.1) ∧ (vrow L)[i * 3 + 2]? = some (.string L[i].2.2)
  | v :: L, 0, _ => ⟨rfl, rfl, rfl⟩
  | v :: L, i + 1, h => by
    have := vrow_get L i (by simpa using h)
    have e : ∀ j, (vrow (v :: L))[j + 3]? = (vrow L)[j]? := fun j => rfl
    rw [show (i + 1) * 3 = i * 3 + 3 by omega, show i * 3 + 3 + 1 = (i * 3 + 1) + 3 by omega, show i * 3 + 3 + 2 = (i * 3 + 2) + 3 by omega, e, e, e]
    exact this
/-- a slice of verdicts of the call's own, in a block from lo on -/
def Vds (w : World) (lo : Nat) (v : Value) (L : List Vd) : Prop := w.ownsRow lo 37 3 v L.length (vrow L)
structure VdsAt (w : World) (lo g cap : Nat) (L : List Vd) : Prop where
  lo : lo ≤ g
  lt : g < w.heap.size
  len : L.length ≤ cap
  cap : cap ≤ maxLen
  cell : ∀ i (hi : i < L.length), w.cell? ⟨g, i * 3, none⟩ = some (.int .i64 L[i].1) ∧ w.cell? ⟨g, i * 3 + 1, none⟩ = some (.int .i64 L[i].2.1) ∧ w.cell? ⟨g, i * 3 + 2, none⟩ = some (.string L[i].2.2)
  free : ∀ o, w.frozen? ⟨g, o, none⟩ = false
theorem Vds.cases {w : World} {lo : Nat} {v : Value} {L : List Vd} (h : Vds w lo v L) :
    (v = .slice none 0 0 ∧ L = []) ∨ ∃ g cap, v = .slice (some ⟨g, 0, none⟩) L.length cap ∧ VdsAt w lo g cap L := by
  rcases h.2 with ⟨hv, h0⟩ | ⟨g, cap, cur, hv, hb, hg, hn, hc, hs, ht⟩
  · exact .inl ⟨hv, List.eq_nil_of_length_eq_zero h0⟩
  · refine .inr ⟨g, cap, hv, hb, (Array.getElem?_eq_some_iff.1 hg).1, hn, hc, ?_, ?_⟩
    · intro i hi
      have key : ∀ j, j < L.length * 3 → ∀ x, (vrow L)[j]? = some x → w.cell? ⟨g, j, none⟩ = some x := by
        intro j hj x hx
        have h1 : (cur.toList.take (L.length * 3))[j]? = some x := by rw [ht]; exact hx
        rw [List.getElem?_take_of_lt hj] at h1
        have h2 : cur[j]? = some x := by simpa using h1
        simp [World.cell?, hg, h2]
      obtain ⟨e0, e1, e2⟩ := vrow_get L i hi
      exact ⟨key _ (by omega) _ e0, key _ (by omega) _ e1, key _ (by omega) _ e2⟩
    · intro o; simp [World.frozen?, hg]
theorem vds_below {w w' : World} {lo : Nat} {v : Value} {L : List Vd} (h : Vds w lo v L) {B : Nat} (hb : Below B w w') (hB : w.heap.size ≤ B) : Vds w' lo v L := by
  refine ⟨h.1, ?_⟩
  rcases h.2 with h0 | ⟨g, cap, cur, hv, hl, hg, rest⟩
  · exact .inl h0
  · refine .inr ⟨g, cap, cur, hv, hl, ?_, rest⟩
    rw [hb.block g (Nat.lt_of_lt_of_le (Array.getElem?_eq_some_iff.1 hg).1 hB)]; exact hg
theorem vds_own {w : World} {lo : Nat} {v : Value} {L : List Vd} (h : Vds w lo v L) : ∀ g, v.ownBlock = some g → lo ≤ g ∧ g < w.heap.size := by
  intro g hg
  rcases h.cases with ⟨rfl, _⟩ | ⟨g', cap, rfl, hs⟩
  · simp [Value.ownBlock] at hg
  · simp only [Value.ownBlock, Option.some.injEq] at hg
    subst hg; exact ⟨hs.lo, hs.lt⟩
theorem vds_form {w : World} {lo : Nat} {v : Value} {L : List Vd} (h : Vds w lo v L) : ∃ a c, v = .slice a L.length c := by
  rcases h.cases with ⟨rfl, rfl⟩ | ⟨g, cap, rfl, _⟩
  · exact ⟨_, _, rfl⟩
  · exact ⟨_, _, rfl⟩
theorem Vds.at {w : World} {lo g n cap : Nat} {L : List Vd} (h : Vds w lo (.slice (some ⟨g, 0, none⟩) n cap) L) : VdsAt w lo g cap L ∧ n = L.length := by
  rcases h.cases with ⟨hv, _⟩ | ⟨g', cap', hv, hs⟩
  · cases hv
  · injection hv with h1 h2 h3
    injection h1 with h1
    injection h1 with h1
    subst h1 h2 h3
    exact ⟨hs, rfl⟩
theorem infoVd : (Tryz.prog.info? 37).map (fun i => (i.zero, i.size, i.bytes)) = some (some (.agg #[.int .i64 0, .int .i64 0, .string ⟨#[]⟩]), 3, 32) := by kernel_rfl

set_option maxHeartbeats 1000000 in
set_option maxRecDepth 100000 in
theorem eqVds (v1 v2 : Value) (L : List Vd) (lo1 lo2 : Nat) (w : World) (h1 : Vds w lo1 v1 L) (h2 : Vds w lo2 v2 L) :
    Calls Tryz.prog 66 #[v1, v2] w fun e w' => e = .returned (.bool true) ∧ Below w.heap.size w w' := by
  by_cases h0 : L.length = 0
  · obtain ⟨a1, c1, rfl⟩ := vds_form h1
    obtain ⟨a2, c2, rfl⟩ := vds_form h2
    rw [h0]
    clear h1 h2
    go_enter Tryz.func66, Tryz.ntmps66
    go_wp2
    refine wp_loop_rounds 1 ?_; rw [rounds_succ]
    go_wp2
    go_ret
    exact ⟨rfl, Below.refl _ _⟩
  · obtain ⟨g1, c1, rfl, s1⟩ : ∃ g cap, v1 = .slice (some ⟨g, 0, none⟩) L.length cap ∧ VdsAt w lo1 g cap L := by
      rcases h1.cases with ⟨_, hL⟩ | h
      · rw [hL] at h0; exact absurd rfl h0
      · exact h
    obtain ⟨g2, c2, rfl, s2⟩ : ∃ g cap, v2 = .slice (some ⟨g, 0, none⟩) L.length cap ∧ VdsAt w lo2 g cap L := by
      rcases h2.cases with ⟨_, hL⟩ | h
      · rw [hL] at h0; exact absurd rfl h0
      · exact h
    clear h1 h2
    have hl1 := s1.len
    have hm1 := s1.cap
    have hl2 := s2.len
    have hm2 := s2.cap
    have hg1 := s1.lt
    have hg2 := s2.lt
    unfold maxLen at hm1 hm2
    go_enter Tryz.func66, Tryz.ntmps66
    go_wp2
    go_loopw [5] (fun i wr => ∃ k : Nat, k ≤ L.length ∧ i = .int .i64 k ∧ Below w.heap.size w wr) (fun i _ => L.length - (intOf i).toNat)
    case atStart => exact ⟨0, Nat.zero_le _, rfl, Below.refl _ _⟩
    case round =>
      obtain ⟨k, hk, rfl, hb⟩ := hrel
      by_cases hlt : k < L.length
      · obtain ⟨a0, a1, a2⟩ := s1.cell k hlt
        obtain ⟨b0, b1, b2⟩ := s2.cell k hlt
        have x0 := (hb.cell (p := ⟨g1, k * 3, none⟩) hg1).trans a0
        have x1 := (hb.cell (p := ⟨g1, k * 3 + 1, none⟩) hg1).trans a1
        have x2 := (hb.cell (p := ⟨g1, k * 3 + 2, none⟩) hg1).trans a2
        have y0 := (hb.cell (p := ⟨g2, k * 3, none⟩) hg2).trans b0
        have y1 := (hb.cell (p := ⟨g2, k * 3 + 1, none⟩) hg2).trans b1
        have y2 := (hb.cell (p := ⟨g2, k * 3 + 2, none⟩) hg2).trans b2
        generalize L[k] = X at *
        clear a0 a1 a2 b0 b1 b2
        go_wp2_with fail
        go_region_with (go_at_call 103; refine (eqVd X _).mono ?_; rintro e w1 ⟨rfl, hb1⟩)
        all_goals
          go_wp2
          go_roundw
          case rel => exact ⟨k + 1, by omega, by go_num, hb.drew.trans (hb1.mono hb.size)⟩
          case measure => simp [intOf]; omega
      · go_wp2
        go_ret
        exact ⟨rfl, hb⟩
end Go.Proofs.YtngcjlghjidnjaaGreatDoor
namespace Go.Proofs.YtngcjlghjidnjaaGreatDoor
open Go.ChangeShapes Go.WideShapes Go.ChangeAt Go.RowKit

set_option maxHeartbeats 1000000 in
set_option maxRecDepth 100000 in
theorem eqStrs (v1 v2 : Value) (L : List ByteArray) (lo1 lo2 : Nat) (w : World) (h1 : Strs w lo1 v1 L) (h2 : Strs w lo2 v2 L) :
    Calls Tryz.prog 64 #[v1, v2] w fun e w' => e = .returned (.bool true) ∧ Below w.heap.size w w' := by
  by_cases h0 : L.length = 0
  · obtain ⟨a1, c1, rfl⟩ : ∃ a c, v1 = .slice a 0 c := by
      rcases h1.cases with ⟨rfl, _⟩ | ⟨g, cap, rfl, _⟩
      · exact ⟨_, _, rfl⟩
      · rw [h0]; exact ⟨_, _, rfl⟩
    obtain ⟨a2, c2, rfl⟩ : ∃ a c, v2 = .slice a 0 c := by
      rcases h2.cases with ⟨rfl, _⟩ | ⟨g, cap, rfl, _⟩
      · exact ⟨_, _, rfl⟩
      · rw [h0]; exact ⟨_, _, rfl⟩
    clear h1 h2 h0
    go_enter Tryz.func64, Tryz.ntmps64
    go_wp2
    refine wp_loop_rounds 1 ?_; rw [rounds_succ]
    go_wp2
    go_ret
    exact ⟨rfl, Below.refl _ _⟩
  · obtain ⟨g1, c1, rfl, s1⟩ : ∃ g cap, v1 = .slice (some ⟨g, 0, none⟩) L.length cap ∧ StrsAt w lo1 g cap L := by
      rcases h1.cases with ⟨_, hL⟩ | h
      · rw [hL] at h0; exact absurd rfl h0
      · exact h
    obtain ⟨g2, c2, rfl, s2⟩ : ∃ g cap, v2 = .slice (some ⟨g, 0, none⟩) L.length cap ∧ StrsAt w lo2 g cap L := by
      rcases h2.cases with ⟨_, hL⟩ | h
      · rw [hL] at h0; exact absurd rfl h0
      · exact h
    clear h1 h2
    have hl1 := s1.len
    have hm1 := s1.cap
    have hl2 := s2.len
    have hm2 := s2.cap
    unfold maxLen at hm1 hm2
    go_enter Tryz.func64, Tryz.ntmps64
    go_wp2
    go_loopw [5] (fun i wr => ∃ k j : Nat, k ≤ L.length ∧ i = .int .i64 k ∧ wr = w.drewN j) (fun i _ => L.length - (intOf i).toNat)
    case atStart => exact ⟨0, 0, Nat.zero_le _, rfl, rfl⟩
    case round =>
      obtain ⟨k, j, hk, rfl, rfl⟩ := hrel
      by_cases hlt : k < L.length
      · have e1 := s1.cell k hlt
        have e2 := s2.cell k hlt
        generalize L[k] = X at e1 e2
        go_wp2
        go_quiet (fail)
        go_wp2
        go_roundw
        case rel => exact ⟨k + 1, j + nq, by omega, by go_num, rfl⟩
        case measure => simp [intOf]; omega
      · go_wp2
        go_ret
        exact ⟨rfl, Go.Joins.below_draws _ _ _⟩
end Go.Proofs.YtngcjlghjidnjaaGreatDoor
namespace Go.Proofs.YtngcjlghjidnjaaGreatDoor
open Go.ChangeShapes Go.WideShapes Go.ChangeAt Go.RowKit
attribute [local go_sem ↓] Go.wp_at_zero Go.wp_at_succ

/-- the decimal digits of k ahead of o -/
def markGo : Nat → Nat → List UInt8 → List UInt8
  | 0, _, o => o
  | f + 1, k, o => if k = 0 then o else markGo f (k / 10) ((48 + UInt8.ofNat (k % 10)) :: o)
def markT (k : Nat) : ByteArray := ⟨(109 :: markGo k k []).toArray⟩
set_option maxRecDepth 100000 in
theorem markGo_zero (f : Nat) (o : List UInt8) : markGo f 0 o = o := by cases f <;> simp [markGo]
theorem markGo_step (f k : Nat) (o : List UInt8) (hk : 0 < k) (hf : k ≤ f) : markGo f k o = markGo (f - 1) (k / 10) ((48 + UInt8.ofNat (k % 10)) :: o) := by
  obtain ⟨g, rfl⟩ : ∃ g, f = g + 1 := ⟨f - 1, by omega⟩
  rw [markGo, if_neg (by omega)]; rfl

set_option maxRecDepth 100000 in
theorem str_cons (a : UInt8) (o : List UInt8) : Value.string ({ data := #[a] } ++ { data := o.toArray }) = Value.string ⟨(a :: o).toArray⟩ := by
  have := ByteArray.mk_append_mk [a] o
  exact congrArg Value.string this
set_option maxRecDepth 100000 in
/-- one byte cell of a new block as a string -/
theorem run_one (w : World) (n : Int) :
    (convert 22 9 (.slice (some ⟨w.heap.size, 0, none⟩) 1 1)).run Tryz.prog (w.alloc (.cells #[.int .u8 n] 5)) =
      .ok (.string ⟨#[UInt8.ofNat n.toNat]⟩) (w.alloc (.cells #[.int .u8 n] 5)) := by
  have hl : (loadCells ⟨w.heap.size, 0, none⟩ 1).run Tryz.prog (w.alloc (.cells #[.int .u8 n] 5)) = .ok (([n] : List Int).map (Value.int .u8)).toArray (w.alloc (.cells #[.int .u8 n] 5)) := by
    refine run_loadCells_list (P := Tryz.prog) _ ⟨w.heap.size, 0, none⟩ [.int .u8 n] ?_
    intro j v hj
    rw [← hj]
    have ea : (⟨w.heap.size, 0, none⟩ : Addr).add j = ⟨w.heap.size, j, none⟩ := by simp [Addr.add]; omega
    rw [ea, World.cell?_alloc_mark]
    simp
  rw [run_convert_bytes_string _ 22 9 5 _ _ _ Tryz.underlying22 Tryz.underlying5 Tryz.underlying9, run_bytesToString _ _ _ _ _ hl]
  rfl

set_option maxHeartbeats 1000000 in
set_option maxRecDepth 100000 in
theorem markText (k : Nat) (w : World) (h1 : 1 ≤ k) (h2 : k ≤ 16777216) :
    Calls Tryz.prog 104 #[.int .i64 k] w fun e w' => e = .returned (.string (markT k)) ∧ Below w.heap.size w w' := by
  go_enter Tryz.func104, Tryz.ntmps104
  go_wp2
  go_loopw [0, 3] (fun kv ov wr => ∃ (j f : Nat) (o : List UInt8), kv = .int .i64 j ∧ ov = .string ⟨o.toArray⟩ ∧ j ≤ f ∧ o.length + j ≤ k ∧ Hid (markGo f j o = markGo k k []) ∧ Below w.heap.size w wr) (fun kv _ _ => (intOf kv).toNat)
  case atStart => exact ⟨k, k, [], rfl, rfl, Nat.le_refl _, by simp, rfl, Below.refl _ _⟩
  case round =>
    obtain ⟨j, f, o, rfl, rfl, hf, hl, HG, hb⟩ := hrel
    by_cases hj : 0 < j
    · have hc := run_one wr (48 + (j : Int) % 10)
      go_wp2
      go_roundw
      case rel => exact ⟨j / 10, f - 1, _, by go_num, str_cons _ o, by omega, by simp; omega, by rw [Hid, ← markGo_step f j o hj hf]; exact HG.out, hb.alloc hb.size _⟩
      case measure => simp [intOf]; omega
    · obtain rfl : j = 0 := by omega
      go_wp2
      go_ret
      refine ⟨?_, hb⟩
      have e := HG.out
      rw [markGo_zero] at e
      rw [markT, ← e]
      exact congrArg Ending.returned (str_cons 109 o)

set_option maxRecDepth 100000 in
/-- the same at whatever int -/
theorem markTextI (n : Int) (w : World) (h1 : 1 ≤ n) (h2 : n ≤ 16777216) :
    Calls Tryz.prog 104 #[.int .i64 n] w fun e w' => e = .returned (.string (markT n.toNat)) ∧ Below w.heap.size w w' := by
  obtain ⟨k, rfl⟩ := Int.eq_ofNat_of_zero_le (show 0 ≤ n by omega)
  exact markText k w (by omega) (by omega)

/-- the marks from k on -/
def marks (k n : Nat) : List ByteArray := (List.range n).map fun i => markT (k + i)
set_option maxRecDepth 100000 in
theorem marks_length (k n : Nat) : (marks k n).length = n := by simp [marks]
theorem marks_step (k j : Nat) (L : List ByteArray) (hj : j < L.length) : (marks k j ++ L.drop j).set j (markT (k + j)) = marks k (j + 1) ++ L.drop (j + 1) := by
  rw [List.set_append_right _ _ (by rw [marks_length]; exact Nat.le_refl _), marks_length, Nat.sub_self, List.drop_eq_getElem_cons hj, List.set_cons_zero]
  simp [marks, List.range_succ]

set_option maxHeartbeats 1000000 in
set_option maxRecDepth 100000 in
theorem markStrs (v : Value) (L : List ByteArray) (lo k : Nat) (w : World) (h : Strs w lo v L) (hlo : lo ≤ w.heap.size) (hk : 1 ≤ k) (hm : k + L.length ≤ 16777216) :
    Calls Tryz.prog 67 #[v, .int .i64 k] w fun e w' => e = .returned (.int .i64 ((k + L.length : Nat) : Int)) ∧ Strs w' lo v (marks k L.length) ∧ Below lo w w' := by
  by_cases h0 : L.length = 0
  · have HS : Hid (Strs w lo v (marks k L.length)) := by
      rw [h0]
      have hL := List.eq_nil_of_length_eq_zero h0
      rw [hL] at h
      exact h
    have hk0 : k + L.length = k := by omega
    rw [hk0]
    obtain ⟨a1, c1, hv⟩ : ∃ a c, v = .slice a 0 c := by
      rcases h.cases with ⟨rfl, _⟩ | ⟨g, cap, rfl, _⟩
      · exact ⟨_, _, rfl⟩
      · rw [h0]; exact ⟨_, _, rfl⟩
    subst hv
    clear h h0 hk0
    go_enter Tryz.func67, Tryz.ntmps67
    go_wp2
    refine wp_loop_rounds 1 ?_; rw [rounds_succ]
    go_wp2
    go_ret
    exact ⟨rfl, HS.out, Below.refl _ _⟩
  · obtain ⟨g, cap, hv, _⟩ : ∃ g cap, v = .slice (some ⟨g, 0, none⟩) L.length cap ∧ StrsAt w lo g cap L := by
      rcases h.cases with ⟨_, hL⟩ | h
      · rw [hL] at h0; exact absurd rfl h0
      · exact h
    subst hv
    have HI : Hid (Strs w lo (.slice (some ⟨g, 0, none⟩) L.length cap) (marks k 0 ++ L.drop 0)) := h
    clear h
    have hl1 : L.length ≤ 16777216 := by omega
    go_enter Tryz.func67, Tryz.ntmps67
    go_wp2
    go_loopw [1, 5] (fun kv i wr => ∃ j : Nat, j ≤ L.length ∧ i = .int .i64 j ∧ kv = .int .i64 ((k + j : Nat) : Int) ∧ Hid (Strs wr lo (.slice (some ⟨g, 0, none⟩) L.length cap) (marks k j ++ L.drop j)) ∧ Below lo w wr) (fun _ i _ => L.length - (intOf i).toNat)
    case atStart => exact ⟨0, Nat.zero_le _, rfl, rfl, HI, Below.refl _ _⟩
    case round =>
      obtain ⟨j, hj, rfl, rfl, HS, hb⟩ := hrel
      by_cases hlt : j < L.length
      · go_wp2_with fail
        refine (markTextI _ _ (by omega) (by omega)).mono ?_
        rintro e w1 ⟨rfl, hb1⟩
        have hkj : ((k : Int) + (j : Int)).toNat = k + j := by omega
        rw [hkj]
        have HS1 : Hid (Strs w1 lo (.slice (some ⟨g, 0, none⟩) L.length cap) (marks k j ++ L.drop j)) := strs_below HS.out hb1 (Nat.le_refl _)
        have hlw : lo ≤ wr.heap.size := by have := hb.size; omega
        have hlen : (marks k j ++ L.drop j).length = L.length := by simp [marks_length]; omega
        obtain ⟨x, ec⟩ : ∃ x, w1.cell? ⟨g, j, none⟩ = some (.string x) := ⟨_, HS1.out.at.1.cell j (by omega)⟩
        have ef := HS1.out.at.1.free j
        have hg : lo ≤ g := HS1.out.at.1.lo
        clear hkj hlen
        go_wp2
        go_roundw
        case rel =>
          refine ⟨j + 1, by omega, by go_num, by go_num, ?_, (hb.trans (hb1.mono hlw)).setCell hg _⟩
          show Strs _ _ _ _
          rw [← marks_step k j L hlt]
          exact strs_set HS1.out _
        case measure => simp [intOf]; omega
      · obtain rfl : j = L.length := by omega
        go_wp2
        go_ret
        refine ⟨rfl, ?_, hb⟩
        have e := HS.out
        rw [List.drop_length, List.append_nil] at e
        exact e

set_option maxRecDepth 100000 in
theorem marks_get (k n j : Nat) (h : j < (marks k n).length) : (marks k n)[j] = markT (k + j) := by simp [marks]

end Go.Proofs.YtngcjlghjidnjaaGreatDoor
namespace Go.Proofs.YtngcjlghjidnjaaGreatDoor
open Go.ChangeShapes Go.WideShapes Go.ChangeAt Go.RowKit

set_option maxHeartbeats 1000000 in
set_option maxRecDepth 100000 in
theorem markStrsO (v : Value) (L : List ByteArray) (lo k : Nat) (w : World) (h : Strs w lo v L) (hk : 1 ≤ k) (hm : k + L.length ≤ 16777216) :
    Calls Tryz.prog 67 #[v, .int .i64 k] w fun e w' => e = .returned (.int .i64 ((k + L.length : Nat) : Int)) ∧ Strs w' lo v (marks k L.length) ∧ OffV v w w' := by
  by_cases h0 : L.length = 0
  · have HS : Hid (Strs w lo v (marks k L.length)) := by
      rw [h0]
      have hL := List.eq_nil_of_length_eq_zero h0
      rw [hL] at h
      exact h
    have hk0 : k + L.length = k := by omega
    rw [hk0]
    obtain ⟨a1, c1, hv⟩ : ∃ a c, v = .slice a 0 c := by
      rcases h.cases with ⟨rfl, _⟩ | ⟨g, cap, rfl, _⟩
      · exact ⟨_, _, rfl⟩
      · rw [h0]; exact ⟨_, _, rfl⟩
    subst hv
    clear h h0 hk0
    go_enter Tryz.func67, Tryz.ntmps67
    go_wp2
    refine wp_loop_rounds 1 ?_; rw [rounds_succ]
    go_wp2
    go_ret
    exact ⟨rfl, HS.out, .inr (Below.refl _ _)⟩
  · obtain ⟨g, cap, hv, _⟩ : ∃ g cap, v = .slice (some ⟨g, 0, none⟩) L.length cap ∧ StrsAt w lo g cap L := by
      rcases h.cases with ⟨_, hL⟩ | h
      · rw [hL] at h0; exact absurd rfl h0
      · exact h
    subst hv
    have HI : Hid (Strs w lo (.slice (some ⟨g, 0, none⟩) L.length cap) (marks k 0 ++ L.drop 0)) := h
    clear h
    have hl1 : L.length ≤ 16777216 := by omega
    go_enter Tryz.func67, Tryz.ntmps67
    go_wp2
    go_loopw [1, 5] (fun kv i wr => ∃ j : Nat, j ≤ L.length ∧ i = .int .i64 j ∧ kv = .int .i64 ((k + j : Nat) : Int) ∧ Hid (Strs wr lo (.slice (some ⟨g, 0, none⟩) L.length cap) (marks k j ++ L.drop j)) ∧ Off g w wr) (fun _ i _ => L.length - (intOf i).toNat)
    case atStart => exact ⟨0, Nat.zero_le _, rfl, rfl, HI, Off.refl _ _⟩
    case round =>
      obtain ⟨j, hj, rfl, rfl, HS, hb⟩ := hrel
      by_cases hlt : j < L.length
      · go_wp2_with fail
        refine (markTextI _ _ (by omega) (by omega)).mono ?_
        rintro e w1 ⟨rfl, hb1⟩
        have hkj : ((k : Int) + (j : Int)).toNat = k + j := by omega
        rw [hkj]
        have HS1 : Hid (Strs w1 lo (.slice (some ⟨g, 0, none⟩) L.length cap) (marks k j ++ L.drop j)) := strs_below HS.out hb1 (Nat.le_refl _)
        have hlen : (marks k j ++ L.drop j).length = L.length := by simp [marks_length]; omega
        obtain ⟨x, ec⟩ : ∃ x, w1.cell? ⟨g, j, none⟩ = some (.string x) := ⟨_, HS1.out.at.1.cell j (by omega)⟩
        have ef := HS1.out.at.1.free j
        have hg : lo ≤ g := HS1.out.at.1.lo
        clear hkj hlen
        go_wp2
        go_roundw
        case rel =>
          refine ⟨j + 1, by omega, by go_num, by go_num, ?_, (hb.trans (Off.of_below hb1)).setCell _⟩
          show Strs _ _ _ _
          rw [← marks_step k j L hlt]
          exact strs_set HS1.out _
        case measure => simp [intOf]; omega
      · obtain rfl : j = L.length := by omega
        go_wp2
        go_ret
        refine ⟨rfl, ?_, .inl ⟨g, rfl, hb⟩⟩
        have e := HS.out
        rw [List.drop_length, List.append_nil] at e
        exact e
end Go.Proofs.YtngcjlghjidnjaaGreatDoor
