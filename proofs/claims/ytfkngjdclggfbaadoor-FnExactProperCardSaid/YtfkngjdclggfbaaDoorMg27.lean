import Derived.Test.YtfkngjdclggfbaaDoorMg1
import Derived.WalkKit
import Derived.ProofKit
import Derived.WalkLawsBesides
import Derived.Deep.QuietTactic
import Derived.BigQuiet
import Derived.Deep.AppendLies
import Derived.Deep.RegionWith
import Derived.Deep.DrawnRows
import Derived.Laws.IdiomStrings
import Derived.Test.YtfkngjdclggfbaaDoorMg26
import Derived.Test.YtfkngjdclggfbaaDoorMg17
namespace Go.Proofs.YtfkngjdclggfbaaDoor
open Go.ChangeShapes Go.WideShapes Go.ChangeAt Go.RowKit

/-- a block that holds X, free to be written to -/
structure Blk (b : Nat) (X : Array Value) (w : World) : Prop where
  lt : b < w.heap.size
  cell : ∀ i, w.cell? ⟨b, i, none⟩ = X[i]?
  free : ∀ o, w.frozen? ⟨b, o, none⟩ = false
theorem Blk.below {b : Nat} {X : Array Value} {w w1 : World} (h : Blk b X w) (hb : Below w.heap.size w w1) : Blk b X w1 :=
  ⟨Nat.lt_of_lt_of_le h.lt hb.size, fun i => (hb.cell (p := ⟨b, i, none⟩) h.lt).trans (h.cell i), fun o => (hb.frozen (p := ⟨b, o, none⟩) h.lt).trans (h.free o)⟩
theorem Blk.other {b k i : Nat} {X : Array Value} {w : World} {v : Value} (h : Blk b X w) (hne : b ≠ k) : Blk b X (w.setCell ⟨k, i, none⟩ v) :=
  ⟨by simpa using h.lt, fun j => (World.cell?_setCell_other _ _ _ _ (by intro e; injection e with e; exact hne e.symm)).trans (h.cell j), fun o => by rw [World.frozen?_setCell]; exact h.free o⟩
theorem Blk.set {b i : Nat} {X : Array Value} {w : World} {v : Value} (h : Blk b X w) (hi : i < X.size) : Blk b (X.set i v hi) (w.setCell ⟨b, i, none⟩ v) := by
  refine ⟨by simpa using h.lt, fun j => ?_, fun o => by rw [World.frozen?_setCell]; exact h.free o⟩
  by_cases e : j = i
  · subst e
    rw [World.cell?_setCell_same _ _ _ (u := X[j]) ((h.cell j).trans (Array.getElem?_eq_getElem hi))]
    simp
  · rw [World.cell?_setCell_other _ _ _ _ (by intro e2; injection e2 with _ e2; exact e e2.symm), h.cell j, Array.getElem?_set_ne _ (fun e2 => e e2.symm)]
theorem Blk.new (w : World) (X : Array Value) (T : TypeId) : Blk w.heap.size X (w.alloc (.cells X T)) := ⟨by simp, fun i => World.cell?_alloc_mark _ _ _ _ _, fun o => World.frozen?_alloc_at _ _ _ _ rfl⟩

end Go.Proofs.YtfkngjdclggfbaaDoor
namespace Go.Proofs.YtfkngjdclggfbaaDoor
open Go.ChangeShapes Go.WideShapes Go.ChangeAt Go.RowKit
attribute [local go_sem ↓] Go.wp_at_zero Go.wp_at_succ

set_option maxHeartbeats 2000000 in
set_option maxRecDepth 100000 in
theorem toSess (ph nx : Int) (buf he fr bo : ByteArray) (v5 v7 v8 : Value) (R : List ByteArray) (T : List Bool) (V : List Vd) (w : World) (h5 : ArgS w v5 R) (h7 : ArgB w v7 T) (h8 : ArgV w v8 V) (hR : R.length ≤ 1048576) (hT : T.length ≤ 1048576) (hV : V.length ≤ 1048576) :
    Calls Tryd.prog 16 #[.agg #[.int .i64 ph, .string buf, .string he, .string fr, .string bo, v5, .int .i64 nx, v7, v8]] w fun e w' => (∃ u1 u2 u3, e = .returned (.agg #[.int .i64 ph, .string buf, .string he, .string fr, .string bo, u1, .int .i64 nx, u2, u3]) ∧ (Strs w' w.heap.size u1 R ∧ Bls w' w.heap.size u2 T ∧ Vds w' w.heap.size u3 V) ∧ Apart3 u1 u2 u3) ∧ Below w.heap.size w w' := by
  have H5 : Hid (ArgS w v5 R) := h5
  have H7 : Hid (ArgB w v7 T) := h7
  have H8 : Hid (ArgV w v8 V) := h8
  obtain ⟨a5, c5, rfl⟩ := h5.form
  obtain ⟨a7, c7, rfl⟩ := h7.form
  obtain ⟨a8, c8, rfl⟩ := h8.form
  clear h5 h7 h8
  go_enter Tryd.func16, Tryd.ntmps16
  go_wp2_with fail
  generalize hW : ((w.alloc _).alloc _).alloc _ = W
  have hA : Hid (Blk w.heap.size #[.int .i64 ph, .string buf, .string he, .string fr, .string bo, .slice a5 R.length c5, .int .i64 nx, .slice a7 T.length c7, .slice a8 V.length c8] W) := by
    show Blk _ _ _
    rw [← hW]
    exact ((Blk.new w #[.int .i64 ph, .string buf, .string he, .string fr, .string bo, .slice a5 R.length c5, .int .i64 nx, .slice a7 T.length c7, .slice a8 V.length c8] 36).below (below1 _ _)).below (below1 _ _)
  have hRb : Hid (Blk (w.heap.size + 1) #[.int .i64 0, .string ⟨#[]⟩, .string ⟨#[]⟩, .string ⟨#[]⟩, .string ⟨#[]⟩, .slice none 0 0, .int .i64 0, .slice none 0 0, .slice none 0 0] W) := by
    show Blk _ _ _
    rw [← hW]
    have := (Blk.new (w.alloc (.cells #[.int .i64 ph, .string buf, .string he, .string fr, .string bo, .slice a5 R.length c5, .int .i64 nx, .slice a7 T.length c7, .slice a8 V.length c8] 36)) #[.int .i64 0, .string ⟨#[]⟩, .string ⟨#[]⟩, .string ⟨#[]⟩, .string ⟨#[]⟩, .slice none 0 0, .int .i64 0, .slice none 0 0, .slice none 0 0] 27).below (below1 _ (.cells #[.int .i64 ph, .string buf, .string he, .string fr, .string bo, .slice none 0 0, .int .i64 0, .slice none 0 0, .slice none 0 0] 27))
    simpa using this
  have hO : Hid (Blk (w.heap.size + 1 + 1) #[.int .i64 ph, .string buf, .string he, .string fr, .string bo, .slice none 0 0, .int .i64 0, .slice none 0 0, .slice none 0 0] W) := by
    show Blk _ _ _
    rw [← hW]
    have := Blk.new ((w.alloc (.cells #[.int .i64 ph, .string buf, .string he, .string fr, .string bo, .slice a5 R.length c5, .int .i64 nx, .slice a7 T.length c7, .slice a8 V.length c8] 36)).alloc (.cells #[.int .i64 0, .string ⟨#[]⟩, .string ⟨#[]⟩, .string ⟨#[]⟩, .string ⟨#[]⟩, .slice none 0 0, .int .i64 0, .slice none 0 0, .slice none 0 0] 27)) #[.int .i64 ph, .string buf, .string he, .string fr, .string bo, .slice none 0 0, .int .i64 0, .slice none 0 0, .slice none 0 0] 27
    simpa using this
  have bw : Below w.heap.size w W := by
    rw [← hW]
    exact (below2 w _ _).trans ((below1 _ _).mono (by simp; omega))
  have hWz : w.heap.size + 3 ≤ W.heap.size := by rw [← hW]; simp
  clear hW
  refine (toStrs _ R _ (H5.out.below bw) hR).mono ?_
  rintro e w1 ⟨u1, rfl, S1, hb1⟩
  obtain ⟨p1, q1, hu1⟩ := strs_form2 S1
  subst hu1
  have hA1 : Hid _ := hA.out.below hb1
  have hRb1 : Hid _ := hRb.out.below hb1
  have hO1 : Hid _ := hO.out.below hb1
  have bw1 : Below w.heap.size w w1 := bw.trans (hb1.mono bw.size)
  have hz1 := hb1.size
  have HS1 : Hid (Strs w1 W.heap.size (.slice p1 R.length q1) R) := S1
  have x6 : w1.cell? ⟨w.heap.size, 6, none⟩ = some (.int .i64 nx) := hA1.out.cell 6
  have x7 : w1.cell? ⟨w.heap.size, 7, none⟩ = some (.slice a7 T.length c7) := hA1.out.cell 7
  have o5 : w1.cell? ⟨w.heap.size + 1 + 1, 5, none⟩ = some (.slice none 0 0) := hO1.out.cell 5
  have o6 : w1.cell? ⟨w.heap.size + 1 + 1, 6, none⟩ = some (.int .i64 0) := hO1.out.cell 6
  have f5 := hO1.out.free 5
  have f6 := hO1.out.free 6
  clear hA hRb hO hb1 S1 bw
  go_wp2_with fail
  generalize hW1 : World.setCell _ ⟨w.heap.size + 1 + 1, 6, none⟩ _ = W1
  have hA2 : Hid (Blk w.heap.size #[.int .i64 ph, .string buf, .string he, .string fr, .string bo, .slice a5 R.length c5, .int .i64 nx, .slice a7 T.length c7, .slice a8 V.length c8] W1) := by show Blk _ _ _; rw [← hW1]; exact (hA1.out.other (by omega)).other (by omega)
  have hRb2 : Hid (Blk (w.heap.size + 1) #[.int .i64 0, .string ⟨#[]⟩, .string ⟨#[]⟩, .string ⟨#[]⟩, .string ⟨#[]⟩, .slice none 0 0, .int .i64 0, .slice none 0 0, .slice none 0 0] W1) := by show Blk _ _ _; rw [← hW1]; exact (hRb1.out.other (by omega)).other (by omega)
  have hO2 : Hid (Blk (w.heap.size + 1 + 1) #[.int .i64 ph, .string buf, .string he, .string fr, .string bo, (.slice p1 R.length q1), .int .i64 nx, .slice none 0 0, .slice none 0 0] W1) := by show Blk _ _ _; rw [← hW1]; exact (hO1.out.set (i := 5) (by simp)).set (i := 6) (by simp)
  have HS2 : Hid (Strs W1 W.heap.size (.slice p1 R.length q1) R) := by show Strs _ _ _ _; rw [← hW1]; exact strs_setCell (strs_setCell HS1.out (by dsimp only; omega) _) (by dsimp only; omega) _
  have bW1 : Below w.heap.size w W1 := by rw [← hW1]; exact (bw1.setCell (by dsimp only; omega) _).setCell (by dsimp only; omega) _
  have hz2 : W1.heap.size = w1.heap.size := by rw [← hW1]; simp
  clear hW1 hA1 hRb1 hO1 HS1 bw1 x6 x7 o5 o6 f5 f6
  refine (toBls _ T _ (H7.out.below bW1) hT).mono ?_
  rintro e w2 ⟨u2, rfl, S2, hb2⟩
  obtain ⟨p2, q2, hu2⟩ := bls_form S2
  subst hu2
  have hA3 : Hid _ := hA2.out.below hb2
  have hRb3 : Hid _ := hRb2.out.below hb2
  have hO3 : Hid _ := hO2.out.below hb2
  have bw2 : Below w.heap.size w w2 := bW1.trans (hb2.mono bW1.size)
  have hz3 := hb2.size
  have HS3 : Hid (Strs w2 W.heap.size (.slice p1 R.length q1) R) := strs_below HS2.out hb2 (Nat.le_refl _)
  have HT3 : Hid (Bls w2 W1.heap.size (.slice p2 T.length q2) T) := S2
  have HG1 : Hid (∀ g, (Value.slice p1 R.length q1).ownBlock = some g → g < W1.heap.size) := strs_own HS2.out
  have x8 : w2.cell? ⟨w.heap.size, 8, none⟩ = some (.slice a8 V.length c8) := hA3.out.cell 8
  have o7 : w2.cell? ⟨w.heap.size + 1 + 1, 7, none⟩ = some (.slice none 0 0) := hO3.out.cell 7
  have f7 := hO3.out.free 7
  clear hA2 hRb2 hO2 hb2 S2 bW1 HS2
  go_wp2_with fail
  generalize hW2 : World.setCell w2 _ _ = W2
  have hRb4 : Hid (Blk (w.heap.size + 1) #[.int .i64 0, .string ⟨#[]⟩, .string ⟨#[]⟩, .string ⟨#[]⟩, .string ⟨#[]⟩, .slice none 0 0, .int .i64 0, .slice none 0 0, .slice none 0 0] W2) := by show Blk _ _ _; rw [← hW2]; exact hRb3.out.other (by omega)
  have hO4 : Hid (Blk (w.heap.size + 1 + 1) #[.int .i64 ph, .string buf, .string he, .string fr, .string bo, (.slice p1 R.length q1), .int .i64 nx, (.slice p2 T.length q2), .slice none 0 0] W2) := by show Blk _ _ _; rw [← hW2]; exact hO3.out.set (i := 7) (by simp)
  have HS4 : Hid (Strs W2 W.heap.size (.slice p1 R.length q1) R) := by show Strs _ _ _ _; rw [← hW2]; exact strs_setCell HS3.out (by dsimp only; omega) _
  have HT4 : Hid (Bls W2 W1.heap.size (.slice p2 T.length q2) T) := by show Bls _ _ _ _; rw [← hW2]; exact bls_setCell HT3.out (by dsimp only; omega) _
  have bW2 : Below w.heap.size w W2 := by rw [← hW2]; exact bw2.setCell (by dsimp only; omega) _
  have hz4 : W2.heap.size = w2.heap.size := by rw [← hW2]; simp
  clear hW2 hA3 hRb3 hO3 HS3 HT3 bw2 x8 o7 f7
  refine (toVds _ V _ (H8.out.below bW2) hV).mono ?_
  rintro e w3 ⟨u3, rfl, S3, hb3⟩
  obtain ⟨p3, q3, hu3⟩ := vds_form S3
  subst hu3
  have hRb5 : Hid _ := hRb4.out.below hb3
  have hO5 : Hid _ := hO4.out.below hb3
  have bw3 : Below w.heap.size w w3 := bW2.trans (hb3.mono bW2.size)
  have HS5 : Hid (Strs w3 W.heap.size (.slice p1 R.length q1) R) := strs_below HS4.out hb3 (Nat.le_refl _)
  have HT5 : Hid (Bls w3 W1.heap.size (.slice p2 T.length q2) T) := bls_below HT4.out hb3 (Nat.le_refl _)
  have HV5 : Hid (Vds w3 W2.heap.size (.slice p3 V.length q3) V) := S3
  have HG2 : Hid (∀ g, (Value.slice p2 T.length q2).ownBlock = some g → W1.heap.size ≤ g ∧ g < W2.heap.size) := fun g hg => ⟨bls_lo HT4.out g hg, bls_own HT4.out g hg⟩
  have HG3 : Hid (∀ g, (Value.slice p3 V.length q3).ownBlock = some g → W2.heap.size ≤ g) := fun g hg => (vds_own S3 g hg).1
  have o0 : w3.cell? ⟨w.heap.size + 1 + 1, 0, none⟩ = some (.int .i64 ph) := hO5.out.cell 0
  have o1 : w3.cell? ⟨w.heap.size + 1 + 1, 1, none⟩ = some (.string buf) := hO5.out.cell 1
  have o2 : w3.cell? ⟨w.heap.size + 1 + 1, 2, none⟩ = some (.string he) := hO5.out.cell 2
  have o3 : w3.cell? ⟨w.heap.size + 1 + 1, 3, none⟩ = some (.string fr) := hO5.out.cell 3
  have o4 : w3.cell? ⟨w.heap.size + 1 + 1, 4, none⟩ = some (.string bo) := hO5.out.cell 4
  have o5 : w3.cell? ⟨w.heap.size + 1 + 1, 5, none⟩ = some (.slice p1 R.length q1) := hO5.out.cell 5
  have o6 : w3.cell? ⟨w.heap.size + 1 + 1, 6, none⟩ = some (.int .i64 nx) := hO5.out.cell 6
  have o7 : w3.cell? ⟨w.heap.size + 1 + 1, 7, none⟩ = some (.slice p2 T.length q2) := hO5.out.cell 7
  have o8 : w3.cell? ⟨w.heap.size + 1 + 1, 8, none⟩ = some (.slice none 0 0) := hO5.out.cell 8
  have f8 := hO5.out.free 8
  have r0 : w3.cell? ⟨w.heap.size + 1, 0, none⟩ = some (.int .i64 0) := hRb5.out.cell 0
  have rf0 := hRb5.out.free 0
  have r1 : w3.cell? ⟨w.heap.size + 1, 1, none⟩ = some (.string ⟨#[]⟩) := hRb5.out.cell 1
  have rf1 := hRb5.out.free 1
  have r2 : w3.cell? ⟨w.heap.size + 1, 2, none⟩ = some (.string ⟨#[]⟩) := hRb5.out.cell 2
  have rf2 := hRb5.out.free 2
  have r3 : w3.cell? ⟨w.heap.size + 1, 3, none⟩ = some (.string ⟨#[]⟩) := hRb5.out.cell 3
  have rf3 := hRb5.out.free 3
  have r4 : w3.cell? ⟨w.heap.size + 1, 4, none⟩ = some (.string ⟨#[]⟩) := hRb5.out.cell 4
  have rf4 := hRb5.out.free 4
  have r5 : w3.cell? ⟨w.heap.size + 1, 5, none⟩ = some (.slice none 0 0) := hRb5.out.cell 5
  have rf5 := hRb5.out.free 5
  have r6 : w3.cell? ⟨w.heap.size + 1, 6, none⟩ = some (.int .i64 0) := hRb5.out.cell 6
  have rf6 := hRb5.out.free 6
  have r7 : w3.cell? ⟨w.heap.size + 1, 7, none⟩ = some (.slice none 0 0) := hRb5.out.cell 7
  have rf7 := hRb5.out.free 7
  have r8 : w3.cell? ⟨w.heap.size + 1, 8, none⟩ = some (.slice none 0 0) := hRb5.out.cell 8
  have rf8 := hRb5.out.free 8
  clear hRb4 hO4 hb3 S3 bW2 HS4 HT4 hRb5 hO5
  go_wp2
  refine bodyPost_ret (v := .agg #[.int .i64 ph, .string buf, .string he, .string fr, .string bo, .slice p1 R.length q1, .int .i64 nx, .slice p2 T.length q2, .slice p3 V.length q3]) (by simp [results, Tryd.results16, go_sem, r0, r1, r2, r3, r4, r5, r6, r7, r8]) rfl ?_
  generalize hWf : World.setCell _ ⟨w.heap.size + 1, 8, none⟩ _ = F
  refine ⟨⟨_, _, _, rfl, ⟨?_, ?_, ?_⟩, ⟨fun a b ha hb => ?_, fun a b ha hb => ?_, fun a b ha hb => ?_⟩⟩, ?_⟩
  · rw [← hWf]
    refine strs_le (lo := W.heap.size) ?_ (by omega)
    repeat (refine strs_setCell ?_ (by dsimp only; omega) _)
    exact HS5.out
  · rw [← hWf]
    refine Go.Joins.ownsRow_le (base := W1.heap.size) ?_ (by omega)
    repeat (refine row_set_below ?_ (by dsimp only; omega) _)
    exact HT5.out
  · rw [← hWf]
    refine Go.Joins.ownsRow_le (base := W2.heap.size) ?_ (by omega)
    repeat (refine row_set_below ?_ (by dsimp only; omega) _)
    exact HV5.out
  · have := HG1.out a ha; have := HG2.out b hb; omega
  · have := HG1.out a ha; have := HG3.out b hb; omega
  · have := HG2.out a ha; have := HG3.out b hb; omega
  · rw [← hWf]
    repeat (refine Below.setCell ?_ (by dsimp only; omega) _)
    exact bw3
end Go.Proofs.YtfkngjdclggfbaaDoor
