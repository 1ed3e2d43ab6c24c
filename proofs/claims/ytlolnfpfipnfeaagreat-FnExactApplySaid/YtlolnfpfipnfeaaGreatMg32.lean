import Derived.Test.YtlolnfpfipnfeaaGreatMg16
import Derived.Test.YtlolnfpfipnfeaaGreatMg22
import Derived.Test.YtlolnfpfipnfeaaGreatMg25
import Derived.Test.YtlolnfpfipnfeaaGreatMg24
import Derived.Test.YtlolnfpfipnfeaaGreatMg21
import Derived.Test.YtlolnfpfipnfeaaGreatMg18
import Derived.Test.YtlolnfpfipnfeaaGreatMg14
import Derived.Test.YtlolnfpfipnfeaaGreatMg1
import Derived.WalkKit
import Derived.ProofKit
import Derived.WalkLawsBesides
import Derived.Laws.IdiomStrings
import Derived.Lib.ConvBytes
namespace Go.Proofs.YtlolnfpfipnfeaaGreat
open Go.ChangeShapes Go.WideShapes Go.ChangeAt Go.RowKit
attribute [local go_sem ↓] Go.wp_at_zero Go.wp_at_succ

/-- all parts of a record that a law looks at are small -/
def SmallR (r : Rec) : Prop := r.fr.size ≤ 1048576 ∧ r.bo.size ≤ 1048576 ∧ r.vt.size ≤ 1048576 ∧ r.R.length ≤ 1048576 ∧ ∀ s ∈ r.R, s.size ≤ 1048576
set_option maxHeartbeats 4000000 in
set_option maxRecDepth 100000 in
theorem szRec (r : Rec) (v3 : Value) (n : Int) (w : World) (h3 : ArgS w v3 r.R) (m1 : r.fr.size ≤ maxLen) (m2 : r.bo.size ≤ maxLen) (m3 : r.vt.size ≤ maxLen) (hn : 0 ≤ n) (hn2 : n ≤ 1048576) :
    Calls Tryz.prog 5 #[.agg #[.int .i64 r.kind, .int .i64 r.mid, .int .i64 r.born, .string r.fr, v3, .string r.bo, .int .i64 r.id, .int .i64 r.rc, .int .i64 r.vk, .int .i64 r.vc, .string r.vt, .int .i64 r.tr, .int .i64 r.due], .int .i64 n] w fun e w' => (∃ q : Int, e = .returned (.int .i64 q) ∧ (q < 0 ∨ (0 ≤ q ∧ q + (r.R.length : Int) ≤ n ∧ SmallR r))) ∧ Below w.heap.size w w' := by
  have H3 : Hid (ArgS w v3 r.R) := h3
  obtain ⟨a3, c3, rfl⟩ := args_formM h3
  clear h3
  go_enter Tryz.func5, Tryz.ntmps5
  go_wp2_with fail
  generalize hW : w.alloc _ = W
  have hA : Hid (Blk w.heap.size #[.int .i64 r.kind, .int .i64 r.mid, .int .i64 r.born, .string r.fr, .slice a3 r.R.length c3, .string r.bo, .int .i64 r.id, .int .i64 r.rc, .int .i64 r.vk, .int .i64 r.vc, .string r.vt, .int .i64 r.tr, .int .i64 r.due] W) := by show Blk _ _ _; rw [← hW]; exact Blk.new w _ _
  have bw : Below w.heap.size w W := by rw [← hW]; exact below1 _ _
  clear hW
  refine (szMsg r.mid r.born r.fr r.bo r.R _ n _ (H3.out.below bw) m1 m2 hn hn2).mono ?_
  rintro e w1 ⟨⟨q, rfl, hq⟩, hb1⟩
  have b1 : Below w.heap.size w w1 := bw.trans (hb1.mono bw.size)
  have hA1 : Hid _ := hA.out.below hb1
  clear hb1 hA bw
  by_cases hq0 : q < 0
  · go_wp2
    go_ret
    exact ⟨⟨_, rfl, .inl (by decide)⟩, b1⟩
  have HQ : Hid (0 ≤ q ∧ q + (r.R.length : Int) ≤ n ∧ (r.fr.size : Int) ≤ n ∧ (r.bo.size : Int) ≤ n ∧ (r.R.length : Int) ≤ n ∧ (sumSz r.R : Int) ≤ n) := hq.resolve_left hq0
  have hq1 : q ≤ n := by have := HQ.out.2.1; omega
  clear hq
  have x8 : w1.cell? ⟨w.heap.size, 8, none⟩ = some (.int .i64 r.vk) := hA1.out.cell 8
  have x9 : w1.cell? ⟨w.heap.size, 9, none⟩ = some (.int .i64 r.vc) := hA1.out.cell 9
  have x10 : w1.cell? ⟨w.heap.size, 10, none⟩ = some (.string r.vt) := hA1.out.cell 10
  go_wp2_with fail
  refine (szVd (r.vk, r.vc, r.vt) q _ m3 (by omega) (by omega)).mono ?_
  rintro e w2 ⟨⟨q2, rfl, hq2⟩, hb2⟩
  have b2 : Below w.heap.size w w2 := b1.trans (hb2.mono b1.size)
  clear hb2 x8 x9 x10 hA1
  by_cases hq3 : q2 < 0
  · go_wp2
    go_ret
    exact ⟨⟨_, rfl, .inl (by decide)⟩, b2⟩
  have HV : Hid (0 ≤ q2 ∧ q2 ≤ q ∧ (r.vt.size : Int) ≤ q) := hq2.resolve_left hq3
  clear hq2
  go_wp2
  go_ret
  refine ⟨⟨q2, rfl, .inr ⟨by omega, by have := HQ.out.2.1; have := HV.out.2.1; omega, ?_⟩⟩, b2⟩
  have h1 := HQ.out
  have h2 := HV.out
  exact ⟨by omega, by omega, by omega, by omega, sum_allR (by omega)⟩

set_option maxHeartbeats 4000000 in
set_option maxRecDepth 100000 in
theorem toRec (r : Rec) (v3 : Value) (w : World) (h3 : ArgS w v3 r.R) (hR : r.R.length ≤ 1048576) :
    Calls Tryz.prog 8 #[.agg #[.int .i64 r.kind, .int .i64 r.mid, .int .i64 r.born, .string r.fr, v3, .string r.bo, .int .i64 r.id, .int .i64 r.rc, .int .i64 r.vk, .int .i64 r.vc, .string r.vt, .int .i64 r.tr, .int .i64 r.due]] w fun e w' => (∃ u, e = .returned (.agg #[.int .i64 r.kind, .int .i64 r.mid, .int .i64 r.born, .string r.fr, u, .string r.bo, .int .i64 r.id, .int .i64 r.rc, .int .i64 r.vk, .int .i64 r.vc, .string r.vt, .int .i64 r.tr, .int .i64 r.due]) ∧ Strs w' w.heap.size u r.R) ∧ Below w.heap.size w w' := by
  have H3 : Hid (ArgS w v3 r.R) := h3
  obtain ⟨a3, c3, rfl⟩ := args_formM h3
  clear h3
  go_enter Tryz.func8, Tryz.ntmps8
  go_wp2_with fail
  generalize hW : ((w.alloc _).alloc _).alloc _ = W
  have hA : Hid (Blk w.heap.size #[.int .i64 r.kind, .int .i64 r.mid, .int .i64 r.born, .string r.fr, .slice a3 r.R.length c3, .string r.bo, .int .i64 r.id, .int .i64 r.rc, .int .i64 r.vk, .int .i64 r.vc, .string r.vt, .int .i64 r.tr, .int .i64 r.due] W) := by
    show Blk _ _ _
    rw [← hW]
    exact ((Blk.new w _ _).below (below1 _ _)).below (below1 _ _)
  have hRb : Hid (Blk (w.heap.size + 1) #[.int .i64 0, .int .i64 0, .int .i64 0, .string ⟨#[]⟩, .slice none 0 0, .string ⟨#[]⟩, .int .i64 0, .int .i64 0, .int .i64 0, .int .i64 0, .string ⟨#[]⟩, .int .i64 0, .int .i64 0] W) := by
    show Blk _ _ _
    rw [← hW]
    have := (Blk.new (w.alloc (.cells #[.int .i64 r.kind, .int .i64 r.mid, .int .i64 r.born, .string r.fr, .slice a3 r.R.length c3, .string r.bo, .int .i64 r.id, .int .i64 r.rc, .int .i64 r.vk, .int .i64 r.vc, .string r.vt, .int .i64 r.tr, .int .i64 r.due] 31)) #[.int .i64 0, .int .i64 0, .int .i64 0, .string ⟨#[]⟩, .slice none 0 0, .string ⟨#[]⟩, .int .i64 0, .int .i64 0, .int .i64 0, .int .i64 0, .string ⟨#[]⟩, .int .i64 0, .int .i64 0] 43).below (below1 _ (.cells #[.int .i64 r.kind, .int .i64 0, .int .i64 0, .string ⟨#[]⟩, .slice none 0 0, .string ⟨#[]⟩, .int .i64 0, .int .i64 0, .int .i64 0, .int .i64 0, .string ⟨#[]⟩, .int .i64 0, .int .i64 0] 43))
    simpa using this
  have hO : Hid (Blk (w.heap.size + 1 + 1) #[.int .i64 r.kind, .int .i64 0, .int .i64 0, .string ⟨#[]⟩, .slice none 0 0, .string ⟨#[]⟩, .int .i64 0, .int .i64 0, .int .i64 0, .int .i64 0, .string ⟨#[]⟩, .int .i64 0, .int .i64 0] W) := by
    show Blk _ _ _
    rw [← hW]
    have := Blk.new ((w.alloc (.cells #[.int .i64 r.kind, .int .i64 r.mid, .int .i64 r.born, .string r.fr, .slice a3 r.R.length c3, .string r.bo, .int .i64 r.id, .int .i64 r.rc, .int .i64 r.vk, .int .i64 r.vc, .string r.vt, .int .i64 r.tr, .int .i64 r.due] 31)).alloc (.cells #[.int .i64 0, .int .i64 0, .int .i64 0, .string ⟨#[]⟩, .slice none 0 0, .string ⟨#[]⟩, .int .i64 0, .int .i64 0, .int .i64 0, .int .i64 0, .string ⟨#[]⟩, .int .i64 0, .int .i64 0] 43)) #[.int .i64 r.kind, .int .i64 0, .int .i64 0, .string ⟨#[]⟩, .slice none 0 0, .string ⟨#[]⟩, .int .i64 0, .int .i64 0, .int .i64 0, .int .i64 0, .string ⟨#[]⟩, .int .i64 0, .int .i64 0] 43
    simpa using this
  have bw : Below w.heap.size w W := by
    rw [← hW]
    exact (below2 w _ _).trans ((below1 _ _).mono (by simp; omega))
  have hWz : w.heap.size + 3 ≤ W.heap.size := by rw [← hW]; simp
  clear hW
  refine (toMsg r.mid r.born r.fr r.bo r.R _ _ (H3.out.below bw) hR).mono ?_
  rintro e w1 ⟨⟨u1, rfl, S1⟩, hb1⟩
  obtain ⟨p1, q1, hu1⟩ := strs_formR S1
  subst hu1
  have hA1 : Hid _ := hA.out.below hb1
  have hRb1 : Hid _ := hRb.out.below hb1
  have hO1 : Hid _ := hO.out.below hb1
  have bw1 : Below w.heap.size w w1 := bw.trans (hb1.mono bw.size)
  have hz1 := hb1.size
  have HS1 : Hid (Strs w1 W.heap.size (.slice p1 r.R.length q1) r.R) := S1
  have x6 : w1.cell? ⟨w.heap.size, 6, none⟩ = some (.int .i64 r.id) := hA1.out.cell 6
  have x7 : w1.cell? ⟨w.heap.size, 7, none⟩ = some (.int .i64 r.rc) := hA1.out.cell 7
  have x8 : w1.cell? ⟨w.heap.size, 8, none⟩ = some (.int .i64 r.vk) := hA1.out.cell 8
  have x9 : w1.cell? ⟨w.heap.size, 9, none⟩ = some (.int .i64 r.vc) := hA1.out.cell 9
  have x10 : w1.cell? ⟨w.heap.size, 10, none⟩ = some (.string r.vt) := hA1.out.cell 10
  have o1 : w1.cell? ⟨w.heap.size + 1 + 1, 1, none⟩ = some (.int .i64 0) := hO1.out.cell 1
  have f1 := hO1.out.free 1
  have o2 : w1.cell? ⟨w.heap.size + 1 + 1, 2, none⟩ = some (.int .i64 0) := hO1.out.cell 2
  have f2 := hO1.out.free 2
  have o3 : w1.cell? ⟨w.heap.size + 1 + 1, 3, none⟩ = some (.string ⟨#[]⟩) := hO1.out.cell 3
  have f3 := hO1.out.free 3
  have o4 : w1.cell? ⟨w.heap.size + 1 + 1, 4, none⟩ = some (.slice none 0 0) := hO1.out.cell 4
  have f4 := hO1.out.free 4
  have o5 : w1.cell? ⟨w.heap.size + 1 + 1, 5, none⟩ = some (.string ⟨#[]⟩) := hO1.out.cell 5
  have f5 := hO1.out.free 5
  have o6 : w1.cell? ⟨w.heap.size + 1 + 1, 6, none⟩ = some (.int .i64 0) := hO1.out.cell 6
  have f6 := hO1.out.free 6
  have o7 : w1.cell? ⟨w.heap.size + 1 + 1, 7, none⟩ = some (.int .i64 0) := hO1.out.cell 7
  have f7 := hO1.out.free 7
  clear hA hRb hO hb1 S1 bw
  go_wp2_with fail
  generalize hW1 : World.setCell (World.setCell (World.setCell (World.setCell (World.setCell (World.setCell (World.setCell w1 _ _) _ _) _ _) _ _) _ _) _ _) _ _ = W1
  have hA2 : Hid (Blk w.heap.size #[.int .i64 r.kind, .int .i64 r.mid, .int .i64 r.born, .string r.fr, .slice a3 r.R.length c3, .string r.bo, .int .i64 r.id, .int .i64 r.rc, .int .i64 r.vk, .int .i64 r.vc, .string r.vt, .int .i64 r.tr, .int .i64 r.due] W1) := by show Blk _ _ _; rw [← hW1]; exact ((((((hA1.out.other (by omega)).other (by omega)).other (by omega)).other (by omega)).other (by omega)).other (by omega)).other (by omega)
  have hRb2 : Hid (Blk (w.heap.size + 1) #[.int .i64 0, .int .i64 0, .int .i64 0, .string ⟨#[]⟩, .slice none 0 0, .string ⟨#[]⟩, .int .i64 0, .int .i64 0, .int .i64 0, .int .i64 0, .string ⟨#[]⟩, .int .i64 0, .int .i64 0] W1) := by show Blk _ _ _; rw [← hW1]; exact ((((((hRb1.out.other (by omega)).other (by omega)).other (by omega)).other (by omega)).other (by omega)).other (by omega)).other (by omega)
  have hO2 : Hid (Blk (w.heap.size + 1 + 1) #[.int .i64 r.kind, .int .i64 r.mid, .int .i64 r.born, .string r.fr, .slice p1 r.R.length q1, .string r.bo, .int .i64 r.id, .int .i64 r.rc, .int .i64 0, .int .i64 0, .string ⟨#[]⟩, .int .i64 0, .int .i64 0] W1) := by show Blk _ _ _; rw [← hW1]; exact ((((((hO1.out.set (i := 1) (by simp)).set (i := 2) (by simp)).set (i := 3) (by simp)).set (i := 4) (by simp)).set (i := 5) (by simp)).set (i := 6) (by simp)).set (i := 7) (by simp)
  have HS2 : Hid (Strs W1 W.heap.size (.slice p1 r.R.length q1) r.R) := by show Strs _ _ _ _; rw [← hW1]; exact strs_setCell (strs_setCell (strs_setCell (strs_setCell (strs_setCell (strs_setCell (strs_setCell (HS1.out) (by dsimp only; omega) _) (by dsimp only; omega) _) (by dsimp only; omega) _) (by dsimp only; omega) _) (by dsimp only; omega) _) (by dsimp only; omega) _) (by dsimp only; omega) _
  have bW1 : Below w.heap.size w W1 := by rw [← hW1]; exact ((((((bw1.setCell (by dsimp only; omega) _).setCell (by dsimp only; omega) _).setCell (by dsimp only; omega) _).setCell (by dsimp only; omega) _).setCell (by dsimp only; omega) _).setCell (by dsimp only; omega) _).setCell (by dsimp only; omega) _
  have hz2 : W1.heap.size = w1.heap.size := by rw [← hW1]; simp
  clear hW1 hA1 hRb1 hO1 HS1 bw1 x6 x7 x8 x9 x10 o1 f1 o2 f2 o3 f3 o4 f4 o5 f5 o6 f6 o7 f7
  refine (toVd (r.vk, r.vc, r.vt) _).mono ?_
  rintro e w2 ⟨rfl, hb2⟩
  have hA3 : Hid _ := hA2.out.below hb2
  have hRb3 : Hid _ := hRb2.out.below hb2
  have hO3 : Hid _ := hO2.out.below hb2
  have bw2 : Below w.heap.size w w2 := bW1.trans (hb2.mono bW1.size)
  have hz3 := hb2.size
  have HS3 : Hid (Strs w2 W.heap.size (.slice p1 r.R.length q1) r.R) := strs_below HS2.out hb2 (Nat.le_refl _)
  have x11 : w2.cell? ⟨w.heap.size, 11, none⟩ = some (.int .i64 r.tr) := hA3.out.cell 11
  have x12 : w2.cell? ⟨w.heap.size, 12, none⟩ = some (.int .i64 r.due) := hA3.out.cell 12
  have o0 : w2.cell? ⟨w.heap.size + 1 + 1, 0, none⟩ = some (.int .i64 r.kind) := hO3.out.cell 0
  have o1 : w2.cell? ⟨w.heap.size + 1 + 1, 1, none⟩ = some (.int .i64 r.mid) := hO3.out.cell 1
  have o2 : w2.cell? ⟨w.heap.size + 1 + 1, 2, none⟩ = some (.int .i64 r.born) := hO3.out.cell 2
  have o3 : w2.cell? ⟨w.heap.size + 1 + 1, 3, none⟩ = some (.string r.fr) := hO3.out.cell 3
  have o4 : w2.cell? ⟨w.heap.size + 1 + 1, 4, none⟩ = some (.slice p1 r.R.length q1) := hO3.out.cell 4
  have o5 : w2.cell? ⟨w.heap.size + 1 + 1, 5, none⟩ = some (.string r.bo) := hO3.out.cell 5
  have o6 : w2.cell? ⟨w.heap.size + 1 + 1, 6, none⟩ = some (.int .i64 r.id) := hO3.out.cell 6
  have o7 : w2.cell? ⟨w.heap.size + 1 + 1, 7, none⟩ = some (.int .i64 r.rc) := hO3.out.cell 7
  have o8 : w2.cell? ⟨w.heap.size + 1 + 1, 8, none⟩ = some (.int .i64 0) := hO3.out.cell 8
  have o9 : w2.cell? ⟨w.heap.size + 1 + 1, 9, none⟩ = some (.int .i64 0) := hO3.out.cell 9
  have o10 : w2.cell? ⟨w.heap.size + 1 + 1, 10, none⟩ = some (.string ⟨#[]⟩) := hO3.out.cell 10
  have o11 : w2.cell? ⟨w.heap.size + 1 + 1, 11, none⟩ = some (.int .i64 0) := hO3.out.cell 11
  have o12 : w2.cell? ⟨w.heap.size + 1 + 1, 12, none⟩ = some (.int .i64 0) := hO3.out.cell 12
  have f8 := hO3.out.free 8
  have f9 := hO3.out.free 9
  have f10 := hO3.out.free 10
  have f11 := hO3.out.free 11
  have f12 := hO3.out.free 12
  have r0 : w2.cell? ⟨w.heap.size + 1, 0, none⟩ = some (.int .i64 0) := hRb3.out.cell 0
  have rf0 := hRb3.out.free 0
  have r1 : w2.cell? ⟨w.heap.size + 1, 1, none⟩ = some (.int .i64 0) := hRb3.out.cell 1
  have rf1 := hRb3.out.free 1
  have r2 : w2.cell? ⟨w.heap.size + 1, 2, none⟩ = some (.int .i64 0) := hRb3.out.cell 2
  have rf2 := hRb3.out.free 2
  have r3 : w2.cell? ⟨w.heap.size + 1, 3, none⟩ = some (.string ⟨#[]⟩) := hRb3.out.cell 3
  have rf3 := hRb3.out.free 3
  have r4 : w2.cell? ⟨w.heap.size + 1, 4, none⟩ = some (.slice none 0 0) := hRb3.out.cell 4
  have rf4 := hRb3.out.free 4
  have r5 : w2.cell? ⟨w.heap.size + 1, 5, none⟩ = some (.string ⟨#[]⟩) := hRb3.out.cell 5
  have rf5 := hRb3.out.free 5
  have r6 : w2.cell? ⟨w.heap.size + 1, 6, none⟩ = some (.int .i64 0) := hRb3.out.cell 6
  have rf6 := hRb3.out.free 6
  have r7 : w2.cell? ⟨w.heap.size + 1, 7, none⟩ = some (.int .i64 0) := hRb3.out.cell 7
  have rf7 := hRb3.out.free 7
  have r8 : w2.cell? ⟨w.heap.size + 1, 8, none⟩ = some (.int .i64 0) := hRb3.out.cell 8
  have rf8 := hRb3.out.free 8
  have r9 : w2.cell? ⟨w.heap.size + 1, 9, none⟩ = some (.int .i64 0) := hRb3.out.cell 9
  have rf9 := hRb3.out.free 9
  have r10 : w2.cell? ⟨w.heap.size + 1, 10, none⟩ = some (.string ⟨#[]⟩) := hRb3.out.cell 10
  have rf10 := hRb3.out.free 10
  have r11 : w2.cell? ⟨w.heap.size + 1, 11, none⟩ = some (.int .i64 0) := hRb3.out.cell 11
  have rf11 := hRb3.out.free 11
  have r12 : w2.cell? ⟨w.heap.size + 1, 12, none⟩ = some (.int .i64 0) := hRb3.out.cell 12
  have rf12 := hRb3.out.free 12
  clear hA2 hRb2 hO2 hb2 bW1 HS2 hA3 hRb3 hO3
  go_wp2
  refine bodyPost_ret (v := .agg #[.int .i64 r.kind, .int .i64 r.mid, .int .i64 r.born, .string r.fr, .slice p1 r.R.length q1, .string r.bo, .int .i64 r.id, .int .i64 r.rc, .int .i64 r.vk, .int .i64 r.vc, .string r.vt, .int .i64 r.tr, .int .i64 r.due]) (by simp [results, Tryz.results8, go_sem, r0, r1, r2, r3, r4, r5, r6, r7, r8, r9, r10, r11, r12]) rfl ?_
  refine ⟨⟨_, rfl, ?_⟩, ?_⟩
  · refine strs_le (lo := W.heap.size) ?_ (by omega)
    repeat (refine strs_setCell ?_ (by dsimp only; omega) _)
    exact HS3.out
  · repeat (refine Below.setCell ?_ (by dsimp only; omega) _)
    exact bw2

set_option maxHeartbeats 4000000 in
set_option maxRecDepth 100000 in
theorem eqRec (r : Rec) (v1 v2 : Value) (lo1 lo2 : Nat) (w : World) (h1 : Strs w lo1 v1 r.R) (h2 : Strs w lo2 v2 r.R) :
    Calls Tryz.prog 11 #[.agg #[.int .i64 r.kind, .int .i64 r.mid, .int .i64 r.born, .string r.fr, v1, .string r.bo, .int .i64 r.id, .int .i64 r.rc, .int .i64 r.vk, .int .i64 r.vc, .string r.vt, .int .i64 r.tr, .int .i64 r.due], .agg #[.int .i64 r.kind, .int .i64 r.mid, .int .i64 r.born, .string r.fr, v2, .string r.bo, .int .i64 r.id, .int .i64 r.rc, .int .i64 r.vk, .int .i64 r.vc, .string r.vt, .int .i64 r.tr, .int .i64 r.due]] w fun e w' => e = .returned (.bool true) ∧ Below w.heap.size w w' := by
  obtain ⟨p1, q1, rfl⟩ := strs_formR h1
  obtain ⟨p2, q2, rfl⟩ := strs_formR h2
  have H1 : Hid (Strs w lo1 (.slice p1 r.R.length q1) r.R) := h1
  have H2 : Hid (Strs w lo2 (.slice p2 r.R.length q2) r.R) := h2
  clear h1 h2
  go_enter Tryz.func11, Tryz.ntmps11
  go_wp2_with fail
  generalize hW : (w.alloc _).alloc _ = W
  have hA : Hid (Blk w.heap.size #[.int .i64 r.kind, .int .i64 r.mid, .int .i64 r.born, .string r.fr, .slice p1 r.R.length q1, .string r.bo, .int .i64 r.id, .int .i64 r.rc, .int .i64 r.vk, .int .i64 r.vc, .string r.vt, .int .i64 r.tr, .int .i64 r.due] W) := by show Blk _ _ _; rw [← hW]; exact (Blk.new w _ _).below (below1 _ _)
  have hB : Hid (Blk (w.heap.size + 1) #[.int .i64 r.kind, .int .i64 r.mid, .int .i64 r.born, .string r.fr, .slice p2 r.R.length q2, .string r.bo, .int .i64 r.id, .int .i64 r.rc, .int .i64 r.vk, .int .i64 r.vc, .string r.vt, .int .i64 r.tr, .int .i64 r.due] W) := by
    show Blk _ _ _
    rw [← hW]
    have := Blk.new (w.alloc (.cells #[.int .i64 r.kind, .int .i64 r.mid, .int .i64 r.born, .string r.fr, .slice p1 r.R.length q1, .string r.bo, .int .i64 r.id, .int .i64 r.rc, .int .i64 r.vk, .int .i64 r.vc, .string r.vt, .int .i64 r.tr, .int .i64 r.due] 43)) #[.int .i64 r.kind, .int .i64 r.mid, .int .i64 r.born, .string r.fr, .slice p2 r.R.length q2, .string r.bo, .int .i64 r.id, .int .i64 r.rc, .int .i64 r.vk, .int .i64 r.vc, .string r.vt, .int .i64 r.tr, .int .i64 r.due] 43
    simpa using this
  have bw : Below w.heap.size w W := by rw [← hW]; exact below2 _ _ _
  clear hW
  refine (eqMsg r.mid r.born r.fr r.bo r.R _ _ _ _ _ (strs_below H1.out bw (Nat.le_refl _)) (strs_below H2.out bw (Nat.le_refl _))).mono ?_
  rintro e w1 ⟨rfl, hb1⟩
  have hA1 : Hid _ := hA.out.below hb1
  have hB1 : Hid _ := hB.out.below hb1
  have bw1 : Below w.heap.size w w1 := bw.trans (hb1.mono bw.size)
  clear hA hB hb1
  have a6 : w1.cell? ⟨w.heap.size, 6, none⟩ = some (.int .i64 r.id) := hA1.out.cell 6
  have b6 : w1.cell? ⟨w.heap.size + 1, 6, none⟩ = some (.int .i64 r.id) := hB1.out.cell 6
  have a7 : w1.cell? ⟨w.heap.size, 7, none⟩ = some (.int .i64 r.rc) := hA1.out.cell 7
  have b7 : w1.cell? ⟨w.heap.size + 1, 7, none⟩ = some (.int .i64 r.rc) := hB1.out.cell 7
  have a8 : w1.cell? ⟨w.heap.size, 8, none⟩ = some (.int .i64 r.vk) := hA1.out.cell 8
  have b8 : w1.cell? ⟨w.heap.size + 1, 8, none⟩ = some (.int .i64 r.vk) := hB1.out.cell 8
  have a9 : w1.cell? ⟨w.heap.size, 9, none⟩ = some (.int .i64 r.vc) := hA1.out.cell 9
  have b9 : w1.cell? ⟨w.heap.size + 1, 9, none⟩ = some (.int .i64 r.vc) := hB1.out.cell 9
  have a10 : w1.cell? ⟨w.heap.size, 10, none⟩ = some (.string r.vt) := hA1.out.cell 10
  have b10 : w1.cell? ⟨w.heap.size + 1, 10, none⟩ = some (.string r.vt) := hB1.out.cell 10
  go_wp2_with fail
  refine (eqVd (r.vk, r.vc, r.vt) _).mono ?_
  rintro e w2 ⟨rfl, hb2⟩
  have bw2 : Below w.heap.size w w2 := bw1.trans (hb2.mono bw1.size)
  have a11 : w2.cell? ⟨w.heap.size, 11, none⟩ = some (.int .i64 r.tr) := (hA1.out.below hb2).cell 11
  have b11 : w2.cell? ⟨w.heap.size + 1, 11, none⟩ = some (.int .i64 r.tr) := (hB1.out.below hb2).cell 11
  have a12 : w2.cell? ⟨w.heap.size, 12, none⟩ = some (.int .i64 r.due) := (hA1.out.below hb2).cell 12
  have b12 : w2.cell? ⟨w.heap.size + 1, 12, none⟩ = some (.int .i64 r.due) := (hB1.out.below hb2).cell 12
  clear hA1 hB1 hb2 a6 b6 a7 b7 a8 b8 a9 b9 a10 b10
  go_wp2
  go_ret
  exact ⟨rfl, bw2⟩

set_option maxHeartbeats 2000000 in
set_option maxRecDepth 100000 in
theorem markMsgR (mid born : Int) (fr bo : ByteArray) (R : List ByteArray) (v : Value) (lo k : Nat) (w : World) (h : Strs w lo v R) (hk : 1 ≤ k) (hm : k + R.length ≤ 16777216) :
    Calls Tryz.prog 33 #[.agg #[.int .i64 mid, .int .i64 born, .string fr, v, .string bo], .int .i64 k] w fun e w' => e = .returned (.int .i64 ((k + R.length : Nat) : Int)) ∧ OffV v w w' := by
  have H : Hid (Strs w lo v R) := h
  obtain ⟨p1, q1, rfl⟩ := strs_formR h
  clear h
  go_enter Tryz.func33, Tryz.ntmps33
  go_wp2_with fail
  generalize hW : w.alloc _ = W
  have bw : Below w.heap.size w W := by rw [← hW]; exact below1 _ _
  clear hW
  refine (markStrsO _ R lo k _ (strs_below H.out bw (Nat.le_refl _)) hk hm).mono ?_
  rintro e w1 ⟨rfl, _, ho⟩
  go_wp2
  go_ret
  exact ⟨rfl, ho.after bw⟩

set_option maxHeartbeats 2000000 in
set_option maxRecDepth 100000 in
theorem markRec (r : Rec) (v : Value) (lo k : Nat) (w : World) (h : Strs w lo v r.R) (hk : 1 ≤ k) (hm : k + r.R.length ≤ 16777216) :
    Calls Tryz.prog 13 #[.agg #[.int .i64 r.kind, .int .i64 r.mid, .int .i64 r.born, .string r.fr, v, .string r.bo, .int .i64 r.id, .int .i64 r.rc, .int .i64 r.vk, .int .i64 r.vc, .string r.vt, .int .i64 r.tr, .int .i64 r.due], .int .i64 k] w fun e w' => e = .returned (.int .i64 ((k + r.R.length : Nat) : Int)) ∧ OffV v w w' := by
  have H : Hid (Strs w lo v r.R) := h
  obtain ⟨p1, q1, rfl⟩ := strs_formR h
  clear h
  go_enter Tryz.func13, Tryz.ntmps13
  go_wp2_with fail
  generalize hW : w.alloc _ = W
  have bw : Below w.heap.size w W := by rw [← hW]; exact below1 _ _
  clear hW
  refine (markMsgR r.mid r.born r.fr r.bo r.R _ lo k _ (strs_below H.out bw (Nat.le_refl _)) hk hm).mono ?_
  rintro e w1 ⟨rfl, ho⟩
  go_wp2
  go_ret
  exact ⟨rfl, ho.after bw⟩
end Go.Proofs.YtlolnfpfipnfeaaGreat
namespace Go.Proofs.YtlolnfpfipnfeaaGreat
open Go.ChangeShapes Go.WideShapes Go.ChangeAt Go.RowKit

/-- block g begins with the bytes L, none of them frozen -/
structure BytsAt (w : World) (g : Nat) (L : List UInt8) : Prop where
  ex : ∃ C : Array Value, w.heap[g]? = some (.cells C 5 (C.size, C.size + 1)) ∧ L.length ≤ C.size ∧ ∀ j (h : j < L.length), C[j]? = some (.int .u8 (L[j].toNat : Int))
theorem BytsAt.cell {w : World} {g : Nat} {L : List UInt8} (h : BytsAt w g L) (j : Nat) (hj : j < L.length) : w.cell? ⟨g, j, none⟩ = some (.int .u8 (L[j].toNat : Int)) := by
  obtain ⟨C, h1, h2, h3⟩ := h.ex
  unfold World.cell?
  rw [h1]; exact h3 j hj
theorem BytsAt.free {w : World} {g : Nat} {L : List UInt8} (h : BytsAt w g L) (j : Nat) (hj : j < L.length) : w.frozen? ⟨g, j, none⟩ = false := by
  obtain ⟨C, h1, h2, h3⟩ := h.ex
  unfold World.frozen?
  rw [h1]
  show (decide (C.size ≤ j) && decide (j < C.size + 1)) = false
  have : decide (C.size ≤ j) = false := decide_eq_false (by omega)
  rw [this]; rfl
theorem BytsAt.set {w : World} {g : Nat} {L : List UInt8} (h : BytsAt w g L) (j : Nat) (hj : j < L.length) (c : UInt8) : BytsAt (w.setCell ⟨g, j, none⟩ (.int .u8 (c.toNat : Int))) g (L.set j c) := by
  obtain ⟨C, h1, h2, h3⟩ := h.ex
  refine ⟨⟨C.setIfInBounds j (.int .u8 (c.toNat : Int)), ?_, by simpa using h2, fun i hi => ?_⟩⟩
  · simp only [World.setCell, Array.getElem?_modify]
    rw [h1]
    simp
  · simp at hi
    rw [List.getElem_set]
    by_cases e : j = i
    · subst e
      rw [if_pos rfl, Array.getElem?_setIfInBounds_self_of_lt (by omega)]
    · rw [if_neg e, Array.getElem?_setIfInBounds_ne e]
      exact h3 i hi
theorem bytsNew (w : World) (s : ByteArray) : BytsAt (Lib.bytesWorld w 5 s) w.heap.size s.data.toList := by
  refine ⟨⟨_, Lib.bytesWorld_at_new w _ s, ?_, fun j hj => ?_⟩⟩
  · simp [Lib.bytesCells]
  · have hj' : j < s.data.size := by simpa using hj
    unfold Lib.bytesCells
    rw [Array.getElem?_append_left (by simpa using hj')]
    simp only [Array.getElem?_map, Array.getElem?_eq_getElem hj', Option.map_some, Array.getElem_toList]
theorem bytsBelow (w : World) (s : ByteArray) : Below w.heap.size w (Lib.bytesWorld w 5 s) :=
  ⟨rfl, rfl, rfl, by rw [Lib.bytesWorld_size]; omega, fun k hk => Lib.bytesWorld_at_old w _ s k hk⟩
theorem bytsBack (w : World) (g cap n : Nat) (l : List UInt8) (hn : l.length = n) (h : BytsAt w g l) :
    (convert 100 9 (.slice (some ⟨g, 0, none⟩) n cap)).run Tryz.prog w = .ok (.string ⟨l.toArray⟩) w := by
  subst hn
  exact run_convert_bytes_back (P := Tryz.prog) w _ _ _ _ cap l Tryz.underlying100 Tryz.underlying5 Tryz.underlying9 fun j hj => by
    have := h.cell j hj
    rw [add_plain, Nat.zero_add]; exact this

end Go.Proofs.YtlolnfpfipnfeaaGreat
