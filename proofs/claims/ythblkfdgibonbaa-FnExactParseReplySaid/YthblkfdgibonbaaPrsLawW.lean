import Derived.Test.YthblkfdgibonbaaSPar
import Derived.Test.YthblkfdgibonbaaPrsL
import Derived.Test.YthblkfdgibonbaaMarksO
import Derived.Test.YthblkfdgibonbaaMarks
namespace Go.Proofs.Ythblkfdgibonbaa
open Go.ChangeShapes Go.WideShapes Go.ChangeAt Go.RowKit
open Pcs

set_option maxHeartbeats 1000000 in
set_option maxRecDepth 100000 in
theorem eqReply (c : Int) (v1 v2 : Value) (L : List ByteArray) (lo1 lo2 : Nat) (w : World) (h1 : Strs w lo1 v1 L) (h2 : Strs w lo2 v2 L) :
    Calls Try.prog 10 #[.agg #[.int .i64 c, v1], .agg #[.int .i64 c, v2]] w fun e w' => e = .returned (.bool true) ∧ Below w.heap.size w w' := by
  obtain ⟨a1, c1, rfl⟩ := strs_form h1
  obtain ⟨a2, c2, rfl⟩ := strs_form h2
  have H1 : Hid (Strs w lo1 (.slice a1 L.length c1) L) := h1
  have H2 : Hid (Strs w lo2 (.slice a2 L.length c2) L) := h2
  clear h1 h2
  go_enter Try.func10, Try.ntmps10
  go_wp2_with fail
  have q := below2 w (.cells #[.int .i64 c, .slice a1 L.length c1] 26) (.cells #[.int .i64 c, .slice a2 L.length c2] 26)
  refine (eqStrs _ _ L _ _ _ (strs_below H1.out q (Nat.le_refl _)) (strs_below H2.out q (Nat.le_refl _))).mono ?_
  rintro e w1 ⟨rfl, hb1⟩
  have qz := q.size
  clear q
  go_wp2
  go_ret
  exact ⟨rfl, (below2 _ _ _).trans (hb1.mono qz)⟩

set_option maxHeartbeats 1000000 in
set_option maxRecDepth 100000 in
theorem markReply (c : Int) (v : Value) (L : List ByteArray) (lo k : Nat) (w : World) (h : Strs w lo v L) (hk : 1 ≤ k) (hm : k + L.length ≤ 16777216) :
    Calls Try.prog 11 #[.agg #[.int .i64 c, v], .int .i64 k] w fun e w' => e = .returned (.int .i64 ((k + L.length : Nat) : Int)) ∧ Strs w' lo v (marks k L.length) ∧ OffV v w w' := by
  obtain ⟨a1, c1, rfl⟩ := strs_form h
  have H : Hid (Strs w lo (.slice a1 L.length c1) L) := h
  clear h
  go_enter Try.func11, Try.ntmps11
  go_wp2_with fail
  have q := below1 w (.cells #[.int .i64 c, .slice a1 L.length c1] 26)
  refine (markStrsO _ L lo k _ (strs_below H.out q (Nat.le_refl _)) hk hm).mono ?_
  rintro e w1 ⟨rfl, S1, hb1⟩
  have HS : Hid (Strs w1 lo (.slice a1 L.length c1) (marks k L.length)) := S1
  clear q S1
  go_wp2
  go_ret
  exact ⟨rfl, HS.out, hb1.after (below1 _ _)⟩

set_option maxHeartbeats 1000000 in
set_option maxRecDepth 100000 in
theorem heldReply (c : Int) (v : Value) (n lo k : Nat) (w : World) (h : Strs w lo v (marks k n)) (hk : 1 ≤ k) (hm : k + n ≤ 16777216) :
    Calls Try.prog 12 #[.agg #[.int .i64 c, v], .int .i64 k] w fun e w' => e = .returned (.int .i64 ((k + n : Nat) : Int)) ∧ Below w.heap.size w w' := by
  obtain ⟨a1, c1, rfl⟩ := strs_form h
  have H : Hid (Strs w lo (.slice a1 (marks k n).length c1) (marks k n)) := h
  clear h
  go_enter Try.func12, Try.ntmps12
  go_wp2_with fail
  have q := below1 w (.cells #[.int .i64 c, .slice a1 (marks k n).length c1] 26)
  refine (heldStrs _ n lo k _ (strs_below H.out q (Nat.le_refl _)) hk hm).mono ?_
  rintro e w1 ⟨rfl, hb1⟩
  have qz := q.size
  clear q
  go_wp2
  go_ret
  exact ⟨rfl, (below1 _ _).trans (hb1.mono qz)⟩

set_option maxHeartbeats 4000000 in
set_option maxRecDepth 100000 in
theorem parseLaw (s : ByteArray) (w : World) (hs : s.size ≤ maxLen) (hl : LenIn w) :
    Calls Try.prog 4 #[.string s] w fun e w' => e = .returned (.bool true) ∧ Below w.heap.size w w' := by
  have HL : Hid (LenIn w) := hl
  unfold maxLen at hs
  clear hl
  by_cases hbig : 1048576 < s.size
  · go_enter Try.func4, Try.ntmps4
    go_wp2
    go_ret
    exact ⟨rfl, Below.refl _ _⟩
  · have hs1 : s.size ≤ 1048576 := by omega
    have hlen : 1 + (prLines (parse s)).length ≤ 16777216 := by have := parse_lines s; omega
    go_enter Try.func4, Try.ntmps4
    go_wp2_with fail
    refine (specParse s _ hs1).mono ?_
    obtain ⟨P, HP⟩ : ∃ P, Hid (parse s = P) := ⟨_, rfl⟩
    rw [HP.out]
    rw [HP.out] at hlen
    rintro e w1 ⟨⟨v1, rfl, S1⟩, hb1⟩
    obtain ⟨a1, c1, rfl⟩ := strs_form S1
    have HS1 : Hid (Strs w1 w.heap.size (.slice a1 (prLines P).length c1) (prLines P)) := S1
    have HO1 := strs_own S1
    clear S1
    go_wp2_with fail
    refine (implParse s _ (len_below HL.out (hb1.trans ((below1 w1 _).mono hb1.size))) hs1).mono ?_
    rw [HP.out]
    rintro e w2 ⟨⟨v2, rfl, S2⟩, hb2⟩
    obtain ⟨a2, c2, rfl⟩ := strs_form S2
    obtain ⟨f0, f1, _⟩ := resAt (w := w1) (by simpa using hb2)
    have hz12 : w1.heap.size < w2.heap.size := by have := hb2.size; simp at this; omega
    have b2 : Below w.heap.size w w2 := hb1.trans (((below1 w1 _).trans (hb2.mono (by simp))).mono hb1.size)
    have HS12 : Hid (Strs w2 w.heap.size (.slice a1 (prLines P).length c1) (prLines P)) := strs_below HS1.out ((below1 w1 _).trans (hb2.mono (by simp))) (Nat.le_refl _)
    have HS2 : Hid (Strs w2 (w1.heap.size + 1) (.slice a2 (prLines P).length c2) (prLines P)) := by
      show Strs _ _ _ _
      simpa using S2
    clear S2 hb2 HS1
    go_wp2_with fail
    refine (eqReply _ _ _ (prLines P) _ _ _ (strs_below HS2.out (below1 _ _) (Nat.le_refl _)) (strs_below HS12.out (below1 _ _) (Nat.le_refl _))).mono ?_
    rintro e w3 ⟨rfl, hb3⟩
    obtain ⟨g0, g1, _⟩ := resAt (w := w2) (by simpa using hb3)
    have b23 : Below w2.heap.size w2 w3 := (below1 w2 _).trans (hb3.mono (by simp))
    have hz23 : w2.heap.size < w3.heap.size := by have := hb3.size; simp at this; omega
    have f0' := (b23.cell (p := ⟨w1.heap.size, 0, none⟩) (by show w1.heap.size < _; omega)).trans f0
    have f1' := (b23.cell (p := ⟨w1.heap.size, 1, none⟩) (by show w1.heap.size < _; omega)).trans f1
    have b3 : Below w.heap.size w w3 := b2.trans (b23.mono b2.size)
    have HS13 : Hid (Strs w3 w.heap.size (.slice a1 (prLines P).length c1) (prLines P)) := strs_below HS12.out b23 (Nat.le_refl _)
    have HS23 : Hid (Strs w3 (w1.heap.size + 1) (.slice a2 (prLines P).length c2) (prLines P)) := strs_below HS2.out b23 (Nat.le_refl _)
    have O1 : Hid (∀ g, (Value.slice a1 (prLines P).length c1).ownBlock = some g → g < w1.heap.size) := HO1
    have O2 : Hid (∀ g, (Value.slice a2 (prLines P).length c2).ownBlock = some g → w1.heap.size + 1 ≤ g ∧ g < w2.heap.size) := fun g hg => ⟨strs_lo HS2.out g hg, strs_own HS2.out g hg⟩
    have hz1 := hb1.size
    clear f0 f1 hb3 b23 HS12 HS2 HO1
    go_wp2_with fail
    refine (markReply _ _ (prLines P) _ 1 _ HS23.out (Nat.le_refl _) hlen).mono ?_
    rintro e w4 ⟨rfl, S4, hv4⟩
    have HS4 : Hid (Strs w4 (w1.heap.size + 1) (.slice a2 (prLines P).length c2) (marks 1 (prLines P).length)) := S4
    have i0 := (hv4.cell (k := w1.heap.size) (i := 0) (by omega) (fun b hb => by have := O2.out b hb; omega)).trans f0'
    have i1 := (hv4.cell (k := w1.heap.size) (i := 1) (by omega) (fun b hb => by have := O2.out b hb; omega)).trans f1'
    have j0 := (hv4.cell (k := w2.heap.size) (i := 0) (by omega) (fun b hb => by have := O2.out b hb; omega)).trans g0
    have j1 := (hv4.cell (k := w2.heap.size) (i := 1) (by omega) (fun b hb => by have := O2.out b hb; omega)).trans g1
    have hz34 := hv4.size
    have b4 : Below w.heap.size w w4 := b3.trans (hv4.below (fun b hb => by have := O2.out b hb; omega) b3.size)
    have HS14 : Hid (Strs w4 w.heap.size (.slice a1 (prLines P).length c1) (prLines P)) := hv4.strs HS13.out (fun g b hg hb => by have := O1.out g hg; have := O2.out b hb; omega)
    clear S4 f0' f1' g0 g1 hv4 HS13 HS23
    go_wp2_with fail
    refine (heldReply _ _ (prLines P).length _ 1 _ HS4.out (Nat.le_refl _) hlen).mono ?_
    rintro e w5 ⟨rfl, hb5⟩
    have k0 := (hb5.cell (p := ⟨w1.heap.size, 0, none⟩) (by show w1.heap.size < _; omega)).trans i0
    have k1 := (hb5.cell (p := ⟨w1.heap.size, 1, none⟩) (by show w1.heap.size < _; omega)).trans i1
    have b5 : Below w.heap.size w w5 := b4.trans (hb5.mono b4.size)
    have HS15 : Hid (Strs w5 w.heap.size (.slice a1 (prLines P).length c1) (prLines P)) := strs_below HS14.out hb5 (Nat.le_refl _)
    have hz45 := hb5.size
    clear i0 i1 j0 j1 hb5 HS14
    go_wp2_with fail
    refine (implParse s _ (len_below HL.out b5) hs1).mono ?_
    rw [HP.out]
    rintro e w6 ⟨⟨v6, rfl, S6⟩, hb6⟩
    obtain ⟨a6, c6, rfl⟩ := strs_form S6
    have HS6 : Hid (Strs w6 w5.heap.size (.slice a6 (prLines P).length c6) (prLines P)) := S6
    have l0 := (hb6.cell (p := ⟨w1.heap.size, 0, none⟩) (by show w1.heap.size < _; omega)).trans k0
    have l1 := (hb6.cell (p := ⟨w1.heap.size, 1, none⟩) (by show w1.heap.size < _; omega)).trans k1
    have b6 : Below w.heap.size w w6 := b5.trans (hb6.mono b5.size)
    have hz56 := hb6.size
    have HS16 : Hid (Strs w6 w.heap.size (.slice a1 (prLines P).length c1) (prLines P)) := strs_below HS15.out hb6 (Nat.le_refl _)
    have hz16 : w1.heap.size < w6.heap.size := by omega
    clear S6 k0 k1 hb6 HS15
    go_wp2_with fail
    refine (eqReply _ _ _ (prLines P) _ _ _ (strs_below HS6.out (below1 _ _) (Nat.le_refl _)) (strs_below HS16.out (below1 _ _) (Nat.le_refl _))).mono ?_
    rintro e w7 ⟨rfl, hb7⟩
    go_wp2
    go_ret
    exact ⟨rfl, b6.trans (((below1 w6 _).trans (hb7.mono (by simp))).mono b6.size)⟩
end Go.Proofs.Ythblkfdgibonbaa
