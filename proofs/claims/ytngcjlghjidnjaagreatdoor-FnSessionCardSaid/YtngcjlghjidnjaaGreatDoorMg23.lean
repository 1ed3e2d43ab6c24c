import Derived.Test.YtngcjlghjidnjaaGreatDoorMg1
import Derived.WalkKit
import Derived.ProofKit
import Derived.WalkLawsBesides
import Derived.Deep.QuietTactic
import Derived.BigQuiet
import Derived.Deep.AppendLies
import Derived.Deep.RegionWith
import Derived.Deep.DrawnRows
import Derived.Laws.IdiomStrings
import Derived.Test.YtngcjlghjidnjaaGreatDoorMg22
import Derived.Test.YtngcjlghjidnjaaGreatDoorMg16
namespace Go.Proofs.YtngcjlghjidnjaaGreatDoor
open Go.ChangeShapes Go.WideShapes Go.ChangeAt Go.RowKit

/-- a block that holds X, free to be written to -/
structure Blk (b : Nat) (X : Array Value) (w : World) : Prop where
  lt : b < w.heap.size
  cell : ∀ i, w.cell? ⟨b, i, none⟩ = X[i]?
  free : ∀ o, w.frozen? ⟨b, o, none⟩ = false
theorem Blk.below {b : Nat} {X : Array Value} {w w1 : World} (h : Blk b X w) (hb : Below w.heap.size w w1) : Blk b X w1 :=
  ⟨Nat.lt_of_lt_of_le h.lt hb.size, fun i => (hb.cell (p := ⟨b, i, none⟩) h.lt).trans (h.cell i), fun o => (hb.frozen (p := ⟨b, o, none⟩) h.lt).trans (h.free o)⟩
theorem Blk.other {b k i : Nat} {X : Array Value} {w : World} {v : Value} (h : Blk b X w) (hne : b ≠ k) : Blk b X (w.setCell ⟨k, i, none⟩ v) :=
  ⟨by simpa using h.lt, fun j => (World.cell?_setCell_other _ _ _ _ (by intro e; injection e with e; exact hne e.symm)).trans (h.cell j), fun o => by rw [World.frozen?_setCell]; exact h.free o⟩
theorem Blk.set {b i : Nat} {X : Array Value} {w : World} {v : Value} (h : Blk b X w) (hi : i < X.size) : Blk b (X.set i v hi) (w.setCell ⟨b, i, none⟩ v) := by
  refine ⟨by simpa using h.lt, fun j => ?_, fun o => by rw [World.frozen?_setCell]; exact h.free o⟩
  by_cases e : j = i
  · subst e
    rw [World.cell?_setCell_same _ _ _ (u := X[j]) ((h.cell j).trans (Array.getElem?_eq_getElem hi))]
    simp
  · rw [World.cell?_setCell_other _ _ _ _ (by intro e2; injection e2 with _ e2; exact e e2.symm), h.cell j, Array.getElem?_set_ne _ (fun e2 => e e2.symm)]
theorem Blk.new (w : World) (X : Array Value) (T : TypeId) : Blk w.heap.size X (w.alloc (.cells X T)) := ⟨by simp, fun i => World.cell?_alloc_mark _ _ _ _ _, fun o => World.frozen?_alloc_at _ _ _ _ rfl⟩

end Go.Proofs.YtngcjlghjidnjaaGreatDoor
namespace Go.Proofs.YtngcjlghjidnjaaGreatDoor
open Go.ChangeShapes Go.WideShapes Go.ChangeAt Go.RowKit
attribute [local go_sem ↓] Go.wp_at_zero Go.wp_at_succ

set_option maxHeartbeats 2000000 in
set_option maxRecDepth 100000 in
theorem toSess (ph nx : Int) (buf he fr bo : ByteArray) (v5 v7 v8 : Value) (R : List ByteArray) (T : List Bool) (V : List Vd) (w : World) (h5 : ArgS w v5 R) (h7 : ArgB w v7 T) (h8 : ArgV w v8 V) (hR : R.length ≤ 1048576) (hT : T.length ≤ 1048576) (hV : V.length ≤ 1048576) :
    Calls Tryz.prog 19 #[.agg #[.int .i64 ph, .string buf, .string he, .string fr, .string bo, v5, .int .i64 nx, v7, v8]] w fun e w' => (∃ u1 u2 u3, e = .returned (.agg #[.int .i64 ph, .string buf, .string he, .string fr, .string bo, u1, .int .i64 nx, u2, u3]) ∧ (Strs w' w.heap.size u1 R ∧ Bls w' w.heap.size u2 T ∧ Vds w' w.heap.size u3 V) ∧ Apart3 u1 u2 u3) ∧ Below w.heap.size w w' := by
  have H5 : Hid (ArgS w v5 R) := h5
  have H7 : Hid (ArgB w v7 T) := h7
  have H8 : Hid (ArgV w v8 V) := h8
  obtain ⟨a5, c5, rfl⟩ := h5.form
  obtain ⟨a7, c7, rfl⟩ := h7.form
  obtain ⟨a8, c8, rfl⟩ := h8.form
  clear h5 h7 h8
  go_enter Tryz.func19, Tryz.ntmps19
  go_wp2_with fail
  generalize hW : ((w.alloc _).alloc _).alloc _ = W
  have hA : Hid (Blk w.heap.size #[.int .i64 ph, .string buf, .string he, .string fr, .string bo, .slice a5 R.length c5, .int .i64 nx, .slice a7 T.length c7, .slice a8 V.length c8] W) := by
    show Blk _ _ _
    rw [← hW]
    exact ((Blk.new w #[.int .i64 ph, .string buf, .string he, .string fr, .string bo, .slice a5 R.length c5, .int .i64 nx, .slice a7 T.length c7, .slice a8 V.length c8] 48).below (below1 _ _)).below (below1 _ _)
  have hRb : Hid (Blk (w.heap.size + 1) #[.int .i64 0, .string ⟨#[]⟩, .string ⟨#[]⟩, .string ⟨#[]⟩, .string ⟨#[]⟩, .slice none 0 0, .int .i64 0, .slice none 0 0, .slice none 0 0] W) := by
    show Blk _ _ _
    rw [← hW]
    have := (Blk.new (w.alloc (.cells #[.int .i64 ph, .string buf, .string he, .string fr, .string bo, .slice a5 R.length c5, .int .i64 nx, .slice a7 T.length c7, .slice a8 V.length c8] 48)) #[.int .i64 0, .string ⟨#[]⟩, .string ⟨#[]⟩, .string ⟨#[]⟩, .string ⟨#[]⟩, .slice none 0 0, .int .i64 0, .slice none 0 0, .slice none 0 0] 29).below (below1 _ (.cells #[.int .i64 ph, .string buf, .string he, .string fr, .string bo, .slice none 0 0, .int .i64 0, .slice none 0 0, .slice none 0 0] 29))
    simpa using this
  have hO : Hid (Blk (w.heap.size + 1 + 1) #[.int .i64 ph, .string buf, .string he, .string fr, .string bo, .slice none 0 0, .int .i64 0, .slice none 0 0, .slice none 0 0] W) := by
    show Blk _ _ _
    rw [← hW]
    have := Blk.new ((w.alloc (.cells #[.int .i64 ph, .string buf, .string he, .string fr, .string bo, .slice a5 R.length c5, .int .i64 nx, .slice a7 T.length c7, .slice a8 V.length c8] 48)).alloc (.cells #[.int .i64 0, .string ⟨#[]⟩, .string ⟨#[]⟩, .string ⟨#[]⟩, .string ⟨#[]⟩, .slice none 0 0, .int .i64 0, .slice none 0 0, .slice none 0 0] 29)) #[.int .i64 ph, .string buf, .string he, .string fr, .string bo, .slice none 0 0, .int .i64 0, .slice none 0 0, .slice none 0 0] 29
    simpa using this
  have bw : Below w.heap.size w W := by
    rw [← hW]
    exact (below2 w _ _).trans ((below1 _ _).mono (by simp; omega))
  have hWz : w.heap.size + 3 ≤ W.heap.size := by rw [← hW]; simp
  clear hW
  refine (toStrs _ R _ (H5.out.below bw) hR).mono ?_
  rintro e w1 ⟨u1, rfl, S1, hb1⟩
  obtain ⟨p1, q1, hu1⟩ := strs_form2 S1
  subst hu1
  have hA1 : Hid _ := hA.out.below hb1
  have hRb1 : Hid _ := hRb.out.below hb1
  have hO1 : Hid _ := hO.out.below hb1
  have bw1 : Below w.heap.size w w1 := bw.trans (hb1.mono bw.size)
  have hz1 := hb1.size
  have HS1 : Hid (Strs w1 W.heap.size (.slice p1 R.length q1) R) := S1
  have x6 : w1.cell? ⟨w.heap.size, 6, none⟩ = some (.int .i64 nx) := hA1.out.cell 6
  have x7 : w1.cell? ⟨w.heap.size, 7, none⟩ = some (.slice a7 T.length c7) := hA1.out.cell 7
  have o5 : w1.cell? ⟨w.heap.size + 1 + 1, 5, none⟩ = some (.slice none 0 0) := hO1.out.cell 5
  have o6 : w1.cell? ⟨w.heap.size + 1 + 1, 6, none⟩ = some (.int .i64 0) := hO1.out.cell 6
  have f5 := hO1.out.free 5
  have f6 := hO1.out.free 6
  clear hA hRb hO hb1 S1 bw
  go_wp2_with fail
  generalize hW1 : World.setCell _ ⟨w.heap.size + 1 + 1, 6, none⟩ _ = W1
  have hA2 : Hid (Blk w.heap.size #[.int .i64 ph, .string buf, .string he, .string fr, .string bo, .slice a5 R.length c5, .int .i64 nx, .slice a7 T.length c7, .slice a8 V.length c8] W1) := by show Blk _ _ _; rw [← hW1]; exact (hA1.out.other (by omega)).other (by omega)
  have hRb2 : Hid (Blk (w.heap.size + 1) #[.int .i64 0, .string ⟨#[]⟩, .string ⟨#[]⟩, .string ⟨#[]⟩, .string ⟨#[]⟩, .slice none 0 0, .int .i64 0, .slice none 0 0, .slice none 0 0] W1) := by show Blk _ _ _; rw [← hW1]; exact (hRb1.out.other (by omega)).other (by omega)
  have hO2 : Hid (Blk (w.heap.size + 1 + 1) #[.int .i64 ph, .string buf, .string he, .string fr, .string bo, (.slice p1 R.length q1), .int .i64 nx, .slice none 0 0, .slice none 0 0] W1) := by show Blk _ _ _; rw [← hW1]; exact (hO1.out.set (i := 5) (by simp)).set (i := 6) (by simp)
  have HS2 : Hid (Strs W1 W.heap.size (.slice p1 R.length q1) R) := by show Strs _ _ _ _; rw [← hW1]; exact strs_setCell (strs_setCell HS1.out (by dsimp only; omega) _) (by dsimp only; omega) _
  have bW1 : Below w.heap.size w W1 := by rw [← hW1]; exact (bw1.setCell (by dsimp only; omega) _).setCell (by dsimp only; omega) _
  have hz2 : W1.heap.size = w1.heap.size := by rw [← hW1]; simp
  clear hW1 hA1 hRb1 hO1 HS1 bw1 x6 x7 o5 o6 f5 f6
  refine (toBls _ T _ (H7.out.below bW1) hT).mono ?_
  rintro e w2 ⟨u2, rfl, S2, hb2⟩
  obtain ⟨p2, q2, hu2⟩ := bls_form S2
  subst hu2
  have hA3 : Hid _ := hA2.out.below hb2
  have hRb3 : Hid _ := hRb2.out.below hb2
  have hO3 : Hid _ := hO2.out.below hb2
  have bw2 : Below w.heap.size w w2 := bW1.trans (hb2.mono bW1.size)
  have hz3 := hb2.size
  have HS3 : Hid (Strs w2 W.heap.size (.slice p1 R.length q1) R) := strs_below HS2.out hb2 (Nat.le_refl _)
  have HT3 : Hid (Bls w2 W1.heap.size (.slice p2 T.length q2) T) := S2
  have HG1 : Hid (∀ g, (Value.slice p1 R.length q1).ownBlock = some g → g < W1.heap.size) := strs_own HS2.out
  have x8 : w2.cell? ⟨w.heap.size, 8, none⟩ = some (.slice a8 V.length c8) := hA3.out.cell 8
  have o7 : w2.cell? ⟨w.heap.size + 1 + 1, 7, none⟩ = some (.slice none 0 0) := hO3.out.cell 7
  have f7 := hO3.out.free 7
  clear hA2 hRb2 hO2 hb2 S2 bW1 HS2
  go_wp2_with fail
  generalize hW2 : World.setCell w2 _ _ = W2
  have hRb4 : Hid (Blk (w.heap.size + 1) #[.int .i64 0, .string ⟨#[]⟩, .string ⟨#[]⟩, .string ⟨#[]⟩, .string ⟨#[]⟩, .slice none 0 0, .int .i64 0, .slice none 0 0, .slice none 0 0] W2) := by show Blk _ _ _; rw [← hW2]; exact hRb3.out.other (by omega)
  have hO4 : Hid (Blk (w.heap.size + 1 + 1) #[.int .i64 ph, .string buf, .string he, .string fr, .string bo, (.slice p1 R.length q1), .int .i64 nx, (.slice p2 T.length q2), .slice none 0 0] W2) := by show Blk _ _ _; rw [← hW2]; exact hO3.out.set (i := 7) (by simp)
  have HS4 : Hid (Strs W2 W.heap.size (.slice p1 R.length q1) R) := by show Strs _ _ _ _; rw [← hW2]; exact strs_setCell HS3.out (by dsimp only; omega) _
  have HT4 : Hid (Bls W2 W1.heap.size (.slice p2 T.length q2) T) := by show Bls _ _ _ _; rw [← hW2]; exact bls_setCell HT3.out (by dsimp only; omega) _
  have bW2 : Below w.heap.size w W2 := by rw [← hW2]; exact bw2.setCell (by dsimp only; omega) _
  have hz4 : W2.heap.size = w2.heap.size := by rw [← hW2]; simp
  clear hW2 hA3 hRb3 hO3 HS3 HT3 bw2 x8 o7 f7
  refine (toVds _ V _ (H8.out.below bW2) hV).mono ?_
  rintro e w3 ⟨u3, rfl, S3, hb3⟩
  obtain ⟨p3, q3, hu3⟩ := vds_form S3
  subst hu3
  have hRb5 : Hid _ := hRb4.out.below hb3
  have hO5 : Hid _ := hO4.out.below hb3
  have bw3 : Below w.heap.size w w3 := bW2.trans (hb3.mono bW2.size)
  have HS5 : Hid (Strs w3 W.heap.size (.slice p1 R.length q1) R) := strs_below HS4.out hb3 (Nat.le_refl _)
  have HT5 : Hid (Bls w3 W1.heap.size (.slice p2 T.length q2) T) := bls_below HT4.out hb3 (Nat.le_refl _)
  have HV5 : Hid (Vds w3 W2.heap.size (.slice p3 V.length q3) V) := S3
  have HG2 : Hid (∀ g, (Value.slice p2 T.length q2).ownBlock = some g → W1.heap.size ≤ g ∧ g < W2.heap.size) := fun g hg => ⟨bls_lo HT4.out g hg, bls_own HT4.out g hg⟩
  have HG3 : Hid (∀ g, (Value.slice p3 V.length q3).ownBlock = some g → W2.heap.size ≤ g) := fun g hg => (vds_own S3 g hg).1
  have o0 : w3.cell? ⟨w.heap.size + 1 + 1, 0, none⟩ = some (.int .i64 ph) := hO5.out.cell 0
  have o1 : w3.cell? ⟨w.heap.size + 1 + 1, 1, none⟩ = some (.string buf) := hO5.out.cell 1
  have o2 : w3.cell? ⟨w.heap.size + 1 + 1, 2, none⟩ = some (.string he) := hO5.out.cell 2
  have o3 : w3.cell? ⟨w.heap.size + 1 + 1, 3, none⟩ = some (.string fr) := hO5.out.cell 3
  have o4 : w3.cell? ⟨w.heap.size + 1 + 1, 4, none⟩ = some (.string bo) := hO5.out.cell 4
  have o5 : w3.cell? ⟨w.heap.size + 1 + 1, 5, none⟩ = some (.slice p1 R.length q1) := hO5.out.cell 5
  have o6 : w3.cell? ⟨w.heap.size + 1 + 1, 6, none⟩ = some (.int .i64 nx) := hO5.out.cell 6
  have o7 : w3.cell? ⟨w.heap.size + 1 + 1, 7, none⟩ = some (.slice p2 T.length q2) := hO5.out.cell 7
  have o8 : w3.cell? ⟨w.heap.size + 1 + 1, 8, none⟩ = some (.slice none 0 0) := hO5.out.cell 8
  have f8 := hO5.out.free 8
  have r0 : w3.cell? ⟨w.heap.size + 1, 0, none⟩ = some (.int .i64 0) := hRb5.out.cell 0
  have rf0 := hRb5.out.free 0
  have r1 : w3.cell? ⟨w.heap.size + 1, 1, none⟩ = some (.string ⟨#[]⟩) := hRb5.out.cell 1
  have rf1 := hRb5.out.free 1
  have r2 : w3.cell? ⟨w.heap.size + 1, 2, none⟩ = some (.string ⟨#[]⟩) := hRb5.out.cell 2
  have rf2 := hRb5.out.free 2
  have r3 : w3.cell? ⟨w.heap.size + 1, 3, none⟩ = some (.string ⟨#[]⟩) := hRb5.out.cell 3
  have rf3 := hRb5.out.free 3
  have r4 : w3.cell? ⟨w.heap.size + 1, 4, none⟩ = some (.string ⟨#[]⟩) := hRb5.out.cell 4
  have rf4 := hRb5.out.free 4
  have r5 : w3.cell? ⟨w.heap.size + 1, 5, none⟩ = some (.slice none 0 0) := hRb5.out.cell 5
  have rf5 := hRb5.out.free 5
  have r6 : w3.cell? ⟨w.heap.size + 1, 6, none⟩ = some (.int .i64 0) := hRb5.out.cell 6
  have rf6 := hRb5.out.free 6
  have r7 : w3.cell? ⟨w.heap.size + 1, 7, none⟩ = some (.slice none 0 0) := hRb5.out.cell 7
  have rf7 := hRb5.out.free 7
  have r8 : w3.cell? ⟨w.heap.size + 1, 8, none⟩ = some (.slice none 0 0) := hRb5.out.cell 8
  have rf8 := hRb5.out.free 8
  clear hRb4 hO4 hb3 S3 bW2 HS4 HT4 hRb5 hO5
  go_wp2
  refine bodyPost_ret (v := .agg #[.int .i64 ph, .string buf, .string he, .string fr, .string bo, .slice p1 R.length q1, .int .i64 nx, .slice p2 T.length q2, .slice p3 V.length q3]) (by simp [results, Tryz.results19, go_sem, r0, r1, r2, r3, r4, r5, r6, r7, r8]) rfl ?_
  generalize hWf : World.setCell _ ⟨w.heap.size + 1, 8, none⟩ _ = F
  refine ⟨⟨_, _, _, rfl, ⟨?_, ?_, ?_⟩, ⟨fun a b ha hb => ?_, fun a b ha hb => ?_, fun a b ha hb => ?_⟩⟩, ?_⟩
  · rw [← hWf]
    refine strs_le (lo := W.heap.size) ?_ (by omega)
    repeat (refine strs_setCell ?_ (by dsimp only; omega) _)
    exact HS5.out
  · rw [← hWf]
    refine Go.Joins.ownsRow_le (base := W1.heap.size) ?_ (by omega)
    repeat (refine row_set_below ?_ (by dsimp only; omega) _)
    exact HT5.out
  · rw [← hWf]
    refine Go.Joins.ownsRow_le (base := W2.heap.size) ?_ (by omega)
    repeat (refine row_set_below ?_ (by dsimp only; omega) _)
    exact HV5.out
  · have := HG1.out a ha; have := HG2.out b hb; omega
  · have := HG1.out a ha; have := HG3.out b hb; omega
  · have := HG2.out a ha; have := HG3.out b hb; omega
  · rw [← hWf]
    repeat (refine Below.setCell ?_ (by dsimp only; omega) _)
    exact bw3
end Go.Proofs.YtngcjlghjidnjaaGreatDoor
namespace Go.Proofs.YtngcjlghjidnjaaGreatDoor
open Go.ChangeShapes Go.WideShapes Go.ChangeAt Go.RowKit

/-- all parts of a session that a law looks at are small -/
def Small9 (buf he fr bo : ByteArray) (R : List ByteArray) (T : List Bool) (V : List Vd) : Prop :=
  buf.size ≤ 1048576 ∧ he.size ≤ 1048576 ∧ fr.size ≤ 1048576 ∧ bo.size ≤ 1048576 ∧ R.length ≤ 1048576 ∧ (∀ s ∈ R, s.size ≤ 1048576) ∧ T.length ≤ 1048576 ∧ V.length ≤ 1048576 ∧ ∀ x ∈ V, x.2.2.size ≤ 1048576
theorem sum_all {L : List ByteArray} {n : Nat} (h : sumSz L ≤ n) : ∀ s ∈ L, s.size ≤ n := by
  intro s hs
  obtain ⟨k, hk, rfl⟩ := List.getElem_of_mem hs
  have := sumSz_take L k hk
  have := sumSz_take_le L (k + 1)
  omega

set_option maxHeartbeats 2000000 in
set_option maxRecDepth 100000 in
theorem szSess (ph nx : Int) (buf he fr bo : ByteArray) (v5 v7 v8 : Value) (R : List ByteArray) (T : List Bool) (V : List Vd) (w : World) (h5 : ArgS w v5 R) (h7 : ArgB w v7 T) (h8 : ArgV w v8 V) (m1 : buf.size ≤ maxLen) (m2 : he.size ≤ maxLen) (m3 : fr.size ≤ maxLen) (m4 : bo.size ≤ maxLen) :
    Calls Tryz.prog 17 #[.agg #[.int .i64 ph, .string buf, .string he, .string fr, .string bo, v5, .int .i64 nx, v7, v8], .int .i64 1048576] w fun e w' => (∃ r : Int, e = .returned (.int .i64 r) ∧ (r < 0 ∨ (0 ≤ r ∧ r ≤ 1048576 ∧ Small9 buf he fr bo R T V))) ∧ Below w.heap.size w w' := by
  unfold maxLen at m1 m2 m3 m4
  have H5 : Hid (ArgS w v5 R) := h5
  have H7 : Hid (ArgB w v7 T) := h7
  have H8 : Hid (ArgV w v8 V) := h8
  obtain ⟨a5, c5, rfl⟩ := h5.form
  obtain ⟨a7, c7, rfl⟩ := h7.form
  obtain ⟨a8, c8, rfl⟩ := h8.form
  clear h5 h7 h8
  by_cases d1 : (1048576 : Int) - buf.size < 0
  · go_enter Tryz.func17, Tryz.ntmps17
    go_wp2
    go_ret
    exact ⟨⟨_, rfl, .inl (by decide)⟩, below1 _ _⟩
  by_cases d2 : (1048576 : Int) - buf.size - he.size < 0
  · go_enter Tryz.func17, Tryz.ntmps17
    go_wp2
    go_ret
    exact ⟨⟨_, rfl, .inl (by decide)⟩, below1 _ _⟩
  by_cases d3 : (1048576 : Int) - buf.size - he.size - fr.size < 0
  · go_enter Tryz.func17, Tryz.ntmps17
    go_wp2
    go_ret
    exact ⟨⟨_, rfl, .inl (by decide)⟩, below1 _ _⟩
  by_cases d4 : (1048576 : Int) - buf.size - he.size - fr.size - bo.size < 0
  · go_enter Tryz.func17, Tryz.ntmps17
    go_wp2
    go_ret
    exact ⟨⟨_, rfl, .inl (by decide)⟩, below1 _ _⟩
  go_enter Tryz.func17, Tryz.ntmps17
  go_wp2_with fail
  generalize hW : w.alloc _ = W
  have hA : Hid (Blk w.heap.size #[.int .i64 ph, .string buf, .string he, .string fr, .string bo, .slice a5 R.length c5, .int .i64 nx, .slice a7 T.length c7, .slice a8 V.length c8] W) := by show Blk _ _ _; rw [← hW]; exact Blk.new w _ _
  have bw : Below w.heap.size w W := by rw [← hW]; exact below1 _ _
  clear hW
  refine (szStrs _ R ((1048576 : Int) - buf.size - he.size - fr.size - bo.size) _ (H5.out.below bw) (by omega) (by omega)).mono ?_
  rintro e wz ⟨r, rfl, hr, hwz⟩
  rw [hwz]
  clear hwz
  by_cases hr0 : r < 0
  · go_wp2
    go_ret
    exact ⟨⟨_, rfl, .inl (by decide)⟩, bw⟩
  have hR1 : R.length ≤ 1048576 ∧ sumSz R ≤ 1048576 ∧ r ≤ 1048576 := by rcases hr with h | h <;> first | omega | exact ⟨by omega, by omega, by omega⟩
  clear hr
  have x7 : W.cell? ⟨w.heap.size, 7, none⟩ = some (.slice a7 T.length c7) := hA.out.cell 7
  go_wp2_with fail
  refine (szBls _ T r _ (H7.out.below bw) (by omega) (by omega)).mono ?_
  rintro e w1 ⟨⟨r1, rfl, hr1⟩, hb1⟩
  have b1 : Below w.heap.size w w1 := bw.trans (hb1.mono bw.size)
  have hA1 : Hid _ := hA.out.below hb1
  clear hb1 x7 hA
  by_cases hr2 : r1 < 0
  · go_wp2
    go_ret
    exact ⟨⟨_, rfl, .inl (by decide)⟩, b1⟩
  have hT1 : 0 ≤ r1 ∧ r1 ≤ r ∧ (T.length : Int) ≤ r := by rcases hr1 with h | h <;> first | omega | exact h
  clear hr1
  have x8 : w1.cell? ⟨w.heap.size, 8, none⟩ = some (.slice a8 V.length c8) := hA1.out.cell 8
  go_wp2_with fail
  refine (szVds _ V r1 _ (H8.out.below b1) (by omega) (by omega)).mono ?_
  rintro e w2 ⟨⟨r2, rfl, hr3⟩, hb2⟩
  have b2 : Below w.heap.size w w2 := b1.trans (hb2.mono b1.size)
  clear hb2 x8 hA1
  by_cases hr4 : r2 < 0
  · go_wp2
    go_ret
    exact ⟨⟨_, rfl, .inl (by decide)⟩, b2⟩
  have HV1 : Hid (0 ≤ r2 ∧ r2 ≤ r1 ∧ (V.length : Int) ≤ r1 ∧ ∀ x ∈ V, (x.2.2.size : Int) ≤ r1) := by obtain ⟨h1, h2, h3, h4⟩ := hr3.resolve_left hr4; exact ⟨h1, by omega, h3, h4⟩
  clear hr3
  go_wp2
  go_ret
  refine ⟨⟨r2, rfl, .inr ⟨by omega, by have := HV1.out.2.1; omega, ?_⟩⟩, b2⟩
  have h3 := HV1.out.2.2.1
  exact ⟨by omega, by omega, by omega, by omega, by omega, sum_all hR1.2.1, by omega, by omega, fun x hx => by have := HV1.out.2.2.2 x hx; omega⟩

set_option maxRecDepth 100000 in
theorem openStrsT {H : Type} {enc : TypeId × Value → H} {W : World} {fuel : Nat} {v : Value} {y : DataW H × List MemPlace} (hf : DataW.trod enc Tryz.prog W 0 (fun _ => true) true fuel 23 [v] = some y) : ∃ L, ArgS W v L := by
  rcases open_strings Tryz.underlying23 Tryz.underlying9 (by kernel_rfl) hf with ⟨hcs, _⟩ | ⟨a, len, cap, ss, hcs, _, hl, hm, hz, _, hcell, hws⟩
  · simp only [List.cons.injEq, and_true] at hcs
    subst hcs
    exact ⟨[], Nat.zero_le _, (fun s hs => by cases hs), .inl ⟨rfl, _, _, rfl⟩⟩
  · simp only [List.cons.injEq, and_true] at hcs
    subst hcs
    have hz' : ss.length = cap := by simpa using hz
    by_cases h0 : len = 0
    · subst h0
      exact ⟨[], Nat.zero_le _, (fun s hs => by cases hs), .inl ⟨rfl, _, _, rfl⟩⟩
    · obtain ⟨b, off, spot⟩ := a
      have hc0 := hcell 0 (by omega)
      have hspot : spot = none := by simpa [Addr.add] using World.cell?_spot hc0
      subst hspot
      have hlt : (ss.take len).length = len := by simp; omega
      have ea : ∀ i, (⟨b, off, none⟩ : Addr).add i = ⟨b, off + i, none⟩ := fun i => by by_cases hi0 : i = 0 <;> simp [Addr.add, hi0]
      rw [ea] at hc0
      refine ⟨ss.take len, by rw [hlt]; omega, fun s hs => hws s (List.mem_of_mem_take hs), .inr ⟨b, off, cap, by rw [hlt], block_of hc0, fun i hi => ?_⟩⟩
      rw [hlt] at hi
      have hci := hcell i (by omega)
      rw [ea] at hci
      rw [hci]
      congr 2
      rw [List.getD_eq_getElem?_getD, List.getElem?_eq_getElem (by omega)]
      simp

set_option maxRecDepth 100000 in
theorem openSess {H : Type} {enc : TypeId × Value → H} {W : World} {b0 : Nat} {v : Value} {d : DataW H} {p : List MemPlace} (hv : Value.okWide Tryz.prog W .any b0 48 v) (h : DataW.Trod enc Tryz.prog W 0 (fun _ => true) true 48 v d p) :
    ∃ (ph nx : Int) (buf he fr bo : ByteArray) (v5 v7 v8 : Value) (R : List ByteArray) (T : List Bool) (V : List Vd), v = .agg #[.int .i64 ph, .string buf, .string he, .string fr, .string bo, v5, .int .i64 nx, v7, v8] ∧ (ArgS W v5 R ∧ ArgB W v7 T ∧ ArgV W v8 V) ∧ buf.size ≤ maxLen ∧ he.size ≤ maxLen ∧ fr.size ≤ maxLen ∧ bo.size ≤ maxLen := by
  obtain ⟨v0, v1, v2, v3, v4, v5, v6, v7, v8, y0, y1, y2, y3, y4, y5, y6, y7, y8, n, rfl, h0, h1, h2, h3, h4, h5, h6, h7, h8⟩ := open_agg9 Tryz.underlying48 (by kernel_rfl) (by kernel_rfl) hv h
  obtain ⟨ph, e0, _⟩ := DataW.trod_int Tryz.underlying3 h0
  obtain ⟨buf, e1, _, s1⟩ := DataW.trod_string Tryz.underlying9 h1
  obtain ⟨he, e2, _, s2⟩ := DataW.trod_string Tryz.underlying9 h2
  obtain ⟨fr, e3, _, s3⟩ := DataW.trod_string Tryz.underlying9 h3
  obtain ⟨bo, e4, _, s4⟩ := DataW.trod_string Tryz.underlying9 h4
  obtain ⟨nx, e6, _⟩ := DataW.trod_int Tryz.underlying3 h6
  obtain ⟨R, hR⟩ := openStrsT h5
  obtain ⟨T, hT⟩ := openBls h7
  obtain ⟨V, hV⟩ := openVds h8
  simp only [List.cons.injEq, and_true] at e0 e1 e2 e3 e4 e6
  subst e0 e1 e2 e3 e4 e6
  exact ⟨ph, nx, buf, he, fr, bo, v5, v7, v8, R, T, V, rfl, ⟨hR, hT, hV⟩, s1, s2, s3, s4⟩
end Go.Proofs.YtngcjlghjidnjaaGreatDoor
