import Derived.Test.YthblkfdgibonbaaItL
namespace Go.Proofs.Ythblkfdgibonbaa
open Go.ChangeShapes Go.WideShapes Go.ChangeAt Go.RowKit
attribute [local go_sem ↓] Go.wp_at_zero Go.wp_at_succ

set_option maxHeartbeats 4000000 in
set_option maxRecDepth 100000 in
theorem toIt (x : It) (rv vv : Value) (w : World) (h : ArgIt w x rv vv) (hs : SmallI x) :
    Calls Try.prog 49 #[.agg #[.int .i64 x.id, .int .i64 x.born, .string x.fr, rv, .string x.bo, vv, .int .i64 x.tr, .int .i64 x.du, .bool x.bn]] w fun e w' => (∃ u1 u2, e = .returned (.agg #[.int .i64 x.id, .int .i64 x.born, .string x.fr, u1, .string x.bo, u2, .int .i64 x.tr, .int .i64 x.du, .bool x.bn]) ∧ Strs w' w.heap.size u1 x.R ∧ Vds w' w.heap.size u2 x.V) ∧ Below w.heap.size w w' := by
  obtain ⟨h3, h5, _, _⟩ := h
  obtain ⟨_, _, hR, _, hV, _⟩ := hs
  have H3 : Hid (ArgS w rv x.R) := h3
  have H5 : Hid (ArgV w vv x.V) := h5
  obtain ⟨a3, c3, rfl⟩ := args_formM h3
  obtain ⟨a5, c5, rfl⟩ := h5.form
  clear h3 h5
  go_enter Try.func49, Try.ntmps49
  go_wp2_with fail
  generalize hW : ((w.alloc _).alloc _).alloc _ = W
  have hA : Hid (Blk w.heap.size #[.int .i64 x.id, .int .i64 x.born, .string x.fr, .slice a3 x.R.length c3, .string x.bo, .slice a5 x.V.length c5, .int .i64 x.tr, .int .i64 x.du, .bool x.bn] W) := by
    show Blk _ _ _
    rw [← hW]
    exact ((Blk.new w _ _).below (below1 _ _)).below (below1 _ _)
  have hRb : Hid (Blk (w.heap.size + 1) #[.int .i64 0, .int .i64 0, .string ⟨#[]⟩, .slice none 0 0, .string ⟨#[]⟩, .slice none 0 0, .int .i64 0, .int .i64 0, .bool false] W) := by
    show Blk _ _ _
    rw [← hW]
    have := (Blk.new (w.alloc (.cells #[.int .i64 x.id, .int .i64 x.born, .string x.fr, .slice a3 x.R.length c3, .string x.bo, .slice a5 x.V.length c5, .int .i64 x.tr, .int .i64 x.du, .bool x.bn] 87)) #[.int .i64 0, .int .i64 0, .string ⟨#[]⟩, .slice none 0 0, .string ⟨#[]⟩, .slice none 0 0, .int .i64 0, .int .i64 0, .bool false] 70).below (below1 _ (.cells #[.int .i64 0, .int .i64 0, .string ⟨#[]⟩, .slice none 0 0, .string ⟨#[]⟩, .slice none 0 0, .int .i64 0, .int .i64 0, .bool false] 70))
    simpa using this
  have hO : Hid (Blk (w.heap.size + 1 + 1) #[.int .i64 0, .int .i64 0, .string ⟨#[]⟩, .slice none 0 0, .string ⟨#[]⟩, .slice none 0 0, .int .i64 0, .int .i64 0, .bool false] W) := by
    show Blk _ _ _
    rw [← hW]
    have := Blk.new ((w.alloc (.cells #[.int .i64 x.id, .int .i64 x.born, .string x.fr, .slice a3 x.R.length c3, .string x.bo, .slice a5 x.V.length c5, .int .i64 x.tr, .int .i64 x.du, .bool x.bn] 87)).alloc (.cells #[.int .i64 0, .int .i64 0, .string ⟨#[]⟩, .slice none 0 0, .string ⟨#[]⟩, .slice none 0 0, .int .i64 0, .int .i64 0, .bool false] 70)) #[.int .i64 0, .int .i64 0, .string ⟨#[]⟩, .slice none 0 0, .string ⟨#[]⟩, .slice none 0 0, .int .i64 0, .int .i64 0, .bool false] 70
    simpa using this
  have bw : Below w.heap.size w W := by
    rw [← hW]
    exact (below2 w _ _).trans ((below1 _ _).mono (by simp; omega))
  have hWz : w.heap.size + 3 ≤ W.heap.size := by rw [← hW]; simp
  clear hW
  refine (toMsg x.id x.born x.fr x.bo x.R _ _ (H3.out.below bw) hR).mono ?_
  rintro e w1 ⟨⟨u1, rfl, S1⟩, hb1⟩
  obtain ⟨p1, q1, hu1⟩ := strs_formR S1
  subst hu1
  have hA1 : Hid _ := hA.out.below hb1
  have hRb1 : Hid _ := hRb.out.below hb1
  have hO1 : Hid _ := hO.out.below hb1
  have bw1 : Below w.heap.size w w1 := bw.trans (hb1.mono bw.size)
  have hz1 := hb1.size
  have HS1 : Hid (Strs w1 W.heap.size (.slice p1 x.R.length q1) x.R) := S1
  have x5 : w1.cell? ⟨w.heap.size, 5, none⟩ = some (.slice a5 x.V.length c5) := hA1.out.cell 5
  have o0 : w1.cell? ⟨w.heap.size + 1 + 1, 0, none⟩ = some (.int .i64 0) := hO1.out.cell 0
  have f0 := hO1.out.free 0
  have o1 : w1.cell? ⟨w.heap.size + 1 + 1, 1, none⟩ = some (.int .i64 0) := hO1.out.cell 1
  have f1 := hO1.out.free 1
  have o2 : w1.cell? ⟨w.heap.size + 1 + 1, 2, none⟩ = some (.string ⟨#[]⟩) := hO1.out.cell 2
  have f2 := hO1.out.free 2
  have o3 : w1.cell? ⟨w.heap.size + 1 + 1, 3, none⟩ = some (.slice none 0 0) := hO1.out.cell 3
  have f3 := hO1.out.free 3
  have o4 : w1.cell? ⟨w.heap.size + 1 + 1, 4, none⟩ = some (.string ⟨#[]⟩) := hO1.out.cell 4
  have f4 := hO1.out.free 4
  clear hA hRb hO hb1 S1 bw
  go_wp2_with fail
  generalize hW1 : World.setCell (World.setCell (World.setCell (World.setCell (World.setCell w1 _ _) _ _) _ _) _ _) _ _ = W1
  have hA2 : Hid (Blk w.heap.size #[.int .i64 x.id, .int .i64 x.born, .string x.fr, .slice a3 x.R.length c3, .string x.bo, .slice a5 x.V.length c5, .int .i64 x.tr, .int .i64 x.du, .bool x.bn] W1) := by show Blk _ _ _; rw [← hW1]; exact ((((hA1.out.other (by omega)).other (by omega)).other (by omega)).other (by omega)).other (by omega)
  have hRb2 : Hid (Blk (w.heap.size + 1) #[.int .i64 0, .int .i64 0, .string ⟨#[]⟩, .slice none 0 0, .string ⟨#[]⟩, .slice none 0 0, .int .i64 0, .int .i64 0, .bool false] W1) := by show Blk _ _ _; rw [← hW1]; exact ((((hRb1.out.other (by omega)).other (by omega)).other (by omega)).other (by omega)).other (by omega)
  have hO2 : Hid (Blk (w.heap.size + 1 + 1) #[.int .i64 x.id, .int .i64 x.born, .string x.fr, .slice p1 x.R.length q1, .string x.bo, .slice none 0 0, .int .i64 0, .int .i64 0, .bool false] W1) := by show Blk _ _ _; rw [← hW1]; exact ((((hO1.out.set (i := 0) (by simp)).set (i := 1) (by simp)).set (i := 2) (by simp)).set (i := 3) (by simp)).set (i := 4) (by simp)
  have HS2 : Hid (Strs W1 W.heap.size (.slice p1 x.R.length q1) x.R) := by show Strs _ _ _ _; rw [← hW1]; exact strs_setCell (strs_setCell (strs_setCell (strs_setCell (strs_setCell (HS1.out) (by dsimp only; omega) _) (by dsimp only; omega) _) (by dsimp only; omega) _) (by dsimp only; omega) _) (by dsimp only; omega) _
  have bW1 : Below w.heap.size w W1 := by rw [← hW1]; exact ((((bw1.setCell (by dsimp only; omega) _).setCell (by dsimp only; omega) _).setCell (by dsimp only; omega) _).setCell (by dsimp only; omega) _).setCell (by dsimp only; omega) _
  have hz2 : W1.heap.size = w1.heap.size := by rw [← hW1]; simp
  clear hW1 hA1 hRb1 hO1 HS1 bw1 x5 o0 o1 o2 o3 o4 f0 f1 f2 f3 f4
  refine (toVds _ x.V _ (H5.out.below bW1) hV).mono ?_
  rintro e w2 ⟨u2, rfl, V2, hb2⟩
  obtain ⟨p2, q2, hu2⟩ := vds_form V2
  subst hu2
  have hA3 : Hid _ := hA2.out.below hb2
  have hRb3 : Hid _ := hRb2.out.below hb2
  have hO3 : Hid _ := hO2.out.below hb2
  have bw2 : Below w.heap.size w w2 := bW1.trans (hb2.mono bW1.size)
  have hz3 := hb2.size
  have HS3 : Hid (Strs w2 W.heap.size (.slice p1 x.R.length q1) x.R) := strs_below HS2.out hb2 (Nat.le_refl _)
  have HV3 : Hid (Vds w2 W1.heap.size (.slice p2 x.V.length q2) x.V) := V2
  have x6 : w2.cell? ⟨w.heap.size, 6, none⟩ = some (.int .i64 x.tr) := hA3.out.cell 6
  have x7 : w2.cell? ⟨w.heap.size, 7, none⟩ = some (.int .i64 x.du) := hA3.out.cell 7
  have x8 : w2.cell? ⟨w.heap.size, 8, none⟩ = some (.bool x.bn) := hA3.out.cell 8
  have o0 : w2.cell? ⟨w.heap.size + 1 + 1, 0, none⟩ = some (.int .i64 x.id) := hO3.out.cell 0
  have o1 : w2.cell? ⟨w.heap.size + 1 + 1, 1, none⟩ = some (.int .i64 x.born) := hO3.out.cell 1
  have o2 : w2.cell? ⟨w.heap.size + 1 + 1, 2, none⟩ = some (.string x.fr) := hO3.out.cell 2
  have o3 : w2.cell? ⟨w.heap.size + 1 + 1, 3, none⟩ = some (.slice p1 x.R.length q1) := hO3.out.cell 3
  have o4 : w2.cell? ⟨w.heap.size + 1 + 1, 4, none⟩ = some (.string x.bo) := hO3.out.cell 4
  have o5 : w2.cell? ⟨w.heap.size + 1 + 1, 5, none⟩ = some (.slice none 0 0) := hO3.out.cell 5
  have o6 : w2.cell? ⟨w.heap.size + 1 + 1, 6, none⟩ = some (.int .i64 0) := hO3.out.cell 6
  have o7 : w2.cell? ⟨w.heap.size + 1 + 1, 7, none⟩ = some (.int .i64 0) := hO3.out.cell 7
  have o8 : w2.cell? ⟨w.heap.size + 1 + 1, 8, none⟩ = some (.bool false) := hO3.out.cell 8
  have f5 := hO3.out.free 5
  have f6 := hO3.out.free 6
  have f7 := hO3.out.free 7
  have f8 := hO3.out.free 8
  have r0 : w2.cell? ⟨w.heap.size + 1, 0, none⟩ = some (.int .i64 0) := hRb3.out.cell 0
  have rf0 := hRb3.out.free 0
  have r1 : w2.cell? ⟨w.heap.size + 1, 1, none⟩ = some (.int .i64 0) := hRb3.out.cell 1
  have rf1 := hRb3.out.free 1
  have r2 : w2.cell? ⟨w.heap.size + 1, 2, none⟩ = some (.string ⟨#[]⟩) := hRb3.out.cell 2
  have rf2 := hRb3.out.free 2
  have r3 : w2.cell? ⟨w.heap.size + 1, 3, none⟩ = some (.slice none 0 0) := hRb3.out.cell 3
  have rf3 := hRb3.out.free 3
  have r4 : w2.cell? ⟨w.heap.size + 1, 4, none⟩ = some (.string ⟨#[]⟩) := hRb3.out.cell 4
  have rf4 := hRb3.out.free 4
  have r5 : w2.cell? ⟨w.heap.size + 1, 5, none⟩ = some (.slice none 0 0) := hRb3.out.cell 5
  have rf5 := hRb3.out.free 5
  have r6 : w2.cell? ⟨w.heap.size + 1, 6, none⟩ = some (.int .i64 0) := hRb3.out.cell 6
  have rf6 := hRb3.out.free 6
  have r7 : w2.cell? ⟨w.heap.size + 1, 7, none⟩ = some (.int .i64 0) := hRb3.out.cell 7
  have rf7 := hRb3.out.free 7
  have r8 : w2.cell? ⟨w.heap.size + 1, 8, none⟩ = some (.bool false) := hRb3.out.cell 8
  have rf8 := hRb3.out.free 8
  clear hA2 hRb2 hO2 hb2 bW1 HS2 hA3 hRb3 hO3 V2
  go_wp2
  refine bodyPost_ret (v := .agg #[.int .i64 x.id, .int .i64 x.born, .string x.fr, .slice p1 x.R.length q1, .string x.bo, .slice p2 x.V.length q2, .int .i64 x.tr, .int .i64 x.du, .bool x.bn]) (by simp [results, Try.results49, go_sem, r0, r1, r2, r3, r4, r5, r6, r7, r8]) rfl ?_
  refine ⟨⟨_, _, rfl, ?_, ?_⟩, ?_⟩
  · refine strs_le (lo := W.heap.size) ?_ (by omega)
    repeat (refine strs_setCell ?_ (by dsimp only; omega) _)
    exact HS3.out
  · refine row_le (lo := W1.heap.size) ?_ (by omega)
    repeat (refine row_set_neR ?_ (fun g hg => by have := (row_lt HV3.out g hg).1; dsimp only; omega) _)
    exact HV3.out
  · repeat (refine Below.setCell ?_ (by dsimp only; omega) _)
    exact bw2
end Go.Proofs.Ythblkfdgibonbaa
