import Derived.Test.YthblkfdgibonbaaVdT
import Derived.Test.YthblkfdgibonbaaVdE
import Derived.Test.YthblkfdgibonbaaBlk
import Derived.Test.YthblkfdgibonbaaArgSz
import Derived.Test.YthblkfdgibonbaaStrs
namespace Go.Proofs.Ythblkfdgibonbaa
open Go.ChangeShapes Go.WideShapes Go.ChangeAt Go.RowKit
attribute [local go_sem ↓] Go.wp_at_zero Go.wp_at_succ

theorem sum_allR {L : List ByteArray} {n : Nat} (h : sumSz L ≤ n) : ∀ s ∈ L, s.size ≤ n := by
  intro s hs
  obtain ⟨k, hk, rfl⟩ := List.getElem_of_mem hs
  have := sumSz_take L k hk
  have := sumSz_take_le L (k + 1)
  omega
theorem strs_formR {w : World} {lo : Nat} {v : Value} {L : List ByteArray} (h : Strs w lo v L) : ∃ a c, v = .slice a L.length c := by
  rcases h.cases with ⟨rfl, rfl⟩ | ⟨g, cap, rfl, _⟩
  · exact ⟨_, _, rfl⟩
  · exact ⟨_, _, rfl⟩

theorem args_formM {w : World} {v : Value} {L : List ByteArray} (h : ArgS w v L) : ∃ a c, v = .slice a L.length c := by
  rcases h.2.2 with ⟨rfl, a, c, rfl⟩ | ⟨b, off, cap, rfl, _⟩
  · exact ⟨_, _, rfl⟩
  · exact ⟨_, _, rfl⟩
set_option maxHeartbeats 4000000 in
set_option maxRecDepth 100000 in
theorem szMsg (mid born : Int) (fr bo : ByteArray) (R : List ByteArray) (v3 : Value) (n : Int) (w : World) (h3 : ArgS w v3 R) (m1 : fr.size ≤ maxLen) (m2 : bo.size ≤ maxLen) (hn : 0 ≤ n) (hn2 : n ≤ 1048576) :
    Calls Try.prog 58 #[.agg #[.int .i64 mid, .int .i64 born, .string fr, v3, .string bo], .int .i64 n] w fun e w' => (∃ q : Int, e = .returned (.int .i64 q) ∧ (q < 0 ∨ (0 ≤ q ∧ q + (R.length : Int) ≤ n ∧ (fr.size : Int) ≤ n ∧ (bo.size : Int) ≤ n ∧ (R.length : Int) ≤ n ∧ (sumSz R : Int) ≤ n))) ∧ Below w.heap.size w w' := by
  unfold maxLen at m1 m2
  have H3 : Hid (ArgS w v3 R) := h3
  obtain ⟨a3, c3, rfl⟩ := args_formM h3
  clear h3
  by_cases d1 : n - (fr.size : Int) < 0
  · go_enter Try.func58, Try.ntmps58
    go_wp2
    go_ret
    exact ⟨⟨_, rfl, .inl (by decide)⟩, below1 _ _⟩
  go_enter Try.func58, Try.ntmps58
  go_wp2_with fail
  generalize hW : w.alloc _ = W
  have hA : Hid (Blk w.heap.size #[.int .i64 mid, .int .i64 born, .string fr, .slice a3 R.length c3, .string bo] W) := by show Blk _ _ _; rw [← hW]; exact Blk.new w _ _
  have bw : Below w.heap.size w W := by rw [← hW]; exact below1 _ _
  clear hW
  refine (szStrs _ R (n - (fr.size : Int)) _ (H3.out.below bw) (by omega) (by omega)).mono ?_
  rintro e wz ⟨q, rfl, hq, hwz⟩
  rw [hwz]
  clear hwz
  by_cases hq0 : q < 0
  · go_wp2
    go_ret
    exact ⟨⟨_, rfl, .inl (by decide)⟩, bw⟩
  have hR1 : (R.length : Int) ≤ n ∧ (sumSz R : Int) ≤ n ∧ q + (R.length : Int) ≤ n - (fr.size : Int) := by rcases hq with h | h <;> first | omega | exact ⟨by omega, by omega, by omega⟩
  clear hq
  have x4 : W.cell? ⟨w.heap.size, 4, none⟩ = some (.string bo) := hA.out.cell 4
  by_cases d2 : q - (bo.size : Int) < 0
  · go_wp2
    go_ret
    exact ⟨⟨_, rfl, .inl (by decide)⟩, bw⟩
  go_wp2
  go_ret
  exact ⟨⟨_, rfl, .inr ⟨by omega, by omega, by omega, by omega, hR1.1, hR1.2.1⟩⟩, bw⟩

set_option maxHeartbeats 4000000 in
set_option maxRecDepth 100000 in
theorem toMsg (mid born : Int) (fr bo : ByteArray) (R : List ByteArray) (v3 : Value) (w : World) (h3 : ArgS w v3 R) (hR : R.length ≤ 1048576) :
    Calls Try.prog 60 #[.agg #[.int .i64 mid, .int .i64 born, .string fr, v3, .string bo]] w fun e w' => (∃ u, e = .returned (.agg #[.int .i64 mid, .int .i64 born, .string fr, u, .string bo]) ∧ Strs w' w.heap.size u R) ∧ Below w.heap.size w w' := by
  have H3 : Hid (ArgS w v3 R) := h3
  obtain ⟨a3, c3, rfl⟩ := args_formM h3
  clear h3
  go_enter Try.func60, Try.ntmps60
  go_wp2_with fail
  generalize hW : ((w.alloc _).alloc _).alloc _ = W
  have hA : Hid (Blk w.heap.size #[.int .i64 mid, .int .i64 born, .string fr, .slice a3 R.length c3, .string bo] W) := by
    show Blk _ _ _
    rw [← hW]
    exact ((Blk.new w _ _).below (below1 _ _)).below (below1 _ _)
  have hRb : Hid (Blk (w.heap.size + 1) #[.int .i64 0, .int .i64 0, .string ⟨#[]⟩, .slice none 0 0, .string ⟨#[]⟩] W) := by
    show Blk _ _ _
    rw [← hW]
    have := (Blk.new (w.alloc (.cells #[.int .i64 mid, .int .i64 born, .string fr, .slice a3 R.length c3, .string bo] 84)) #[.int .i64 0, .int .i64 0, .string ⟨#[]⟩, .slice none 0 0, .string ⟨#[]⟩] 67).below (below1 _ (.cells #[.int .i64 mid, .int .i64 born, .string fr, .slice none 0 0, .string ⟨#[]⟩] 67))
    simpa using this
  have hO : Hid (Blk (w.heap.size + 1 + 1) #[.int .i64 mid, .int .i64 born, .string fr, .slice none 0 0, .string ⟨#[]⟩] W) := by
    show Blk _ _ _
    rw [← hW]
    have := Blk.new ((w.alloc (.cells #[.int .i64 mid, .int .i64 born, .string fr, .slice a3 R.length c3, .string bo] 84)).alloc (.cells #[.int .i64 0, .int .i64 0, .string ⟨#[]⟩, .slice none 0 0, .string ⟨#[]⟩] 67)) #[.int .i64 mid, .int .i64 born, .string fr, .slice none 0 0, .string ⟨#[]⟩] 67
    simpa using this
  have bw : Below w.heap.size w W := by
    rw [← hW]
    exact (below2 w _ _).trans ((below1 _ _).mono (by simp; omega))
  have hWz : w.heap.size + 3 ≤ W.heap.size := by rw [← hW]; simp
  clear hW
  refine (toStrs _ R _ (H3.out.below bw) hR).mono ?_
  rintro e w1 ⟨u1, rfl, S1, hb1⟩
  obtain ⟨p1, q1, hu1⟩ := strs_formR S1
  subst hu1
  have hA1 : Hid _ := hA.out.below hb1
  have hRb1 : Hid _ := hRb.out.below hb1
  have hO1 : Hid _ := hO.out.below hb1
  have bw1 : Below w.heap.size w w1 := bw.trans (hb1.mono bw.size)
  have hz1 := hb1.size
  have HS1 : Hid (Strs w1 W.heap.size (.slice p1 R.length q1) R) := S1
  have x4 : w1.cell? ⟨w.heap.size, 4, none⟩ = some (.string bo) := hA1.out.cell 4
  have o0 : w1.cell? ⟨w.heap.size + 1 + 1, 0, none⟩ = some (.int .i64 mid) := hO1.out.cell 0
  have o1 : w1.cell? ⟨w.heap.size + 1 + 1, 1, none⟩ = some (.int .i64 born) := hO1.out.cell 1
  have o2 : w1.cell? ⟨w.heap.size + 1 + 1, 2, none⟩ = some (.string fr) := hO1.out.cell 2
  have o3 : w1.cell? ⟨w.heap.size + 1 + 1, 3, none⟩ = some (.slice none 0 0) := hO1.out.cell 3
  have o4 : w1.cell? ⟨w.heap.size + 1 + 1, 4, none⟩ = some (.string ⟨#[]⟩) := hO1.out.cell 4
  have f3 := hO1.out.free 3
  have f4 := hO1.out.free 4
  have r0 : w1.cell? ⟨w.heap.size + 1, 0, none⟩ = some (.int .i64 0) := hRb1.out.cell 0
  have rf0 := hRb1.out.free 0
  have r1 : w1.cell? ⟨w.heap.size + 1, 1, none⟩ = some (.int .i64 0) := hRb1.out.cell 1
  have rf1 := hRb1.out.free 1
  have r2 : w1.cell? ⟨w.heap.size + 1, 2, none⟩ = some (.string ⟨#[]⟩) := hRb1.out.cell 2
  have rf2 := hRb1.out.free 2
  have r3 : w1.cell? ⟨w.heap.size + 1, 3, none⟩ = some (.slice none 0 0) := hRb1.out.cell 3
  have rf3 := hRb1.out.free 3
  have r4 : w1.cell? ⟨w.heap.size + 1, 4, none⟩ = some (.string ⟨#[]⟩) := hRb1.out.cell 4
  have rf4 := hRb1.out.free 4
  clear hA hRb hO hb1 S1 bw hA1 hRb1 hO1
  go_wp2
  refine bodyPost_ret (v := .agg #[.int .i64 mid, .int .i64 born, .string fr, .slice p1 R.length q1, .string bo]) (by simp [results, Try.results60, go_sem, r0, r1, r2, r3, r4]) rfl ?_
  refine ⟨⟨_, rfl, ?_⟩, ?_⟩
  · refine strs_le (lo := W.heap.size) ?_ (by omega)
    repeat (refine strs_setCell ?_ (by dsimp only; omega) _)
    exact HS1.out
  · repeat (refine Below.setCell ?_ (by dsimp only; omega) _)
    exact bw1

set_option maxHeartbeats 4000000 in
set_option maxRecDepth 100000 in
theorem eqMsg (mid born : Int) (fr bo : ByteArray) (R : List ByteArray) (v1 v2 : Value) (lo1 lo2 : Nat) (w : World) (h1 : Strs w lo1 v1 R) (h2 : Strs w lo2 v2 R) :
    Calls Try.prog 63 #[.agg #[.int .i64 mid, .int .i64 born, .string fr, v1, .string bo], .agg #[.int .i64 mid, .int .i64 born, .string fr, v2, .string bo]] w fun e w' => e = .returned (.bool true) ∧ Below w.heap.size w w' := by
  obtain ⟨p1, q1, rfl⟩ := strs_formR h1
  obtain ⟨p2, q2, rfl⟩ := strs_formR h2
  have H1 : Hid (Strs w lo1 (.slice p1 R.length q1) R) := h1
  have H2 : Hid (Strs w lo2 (.slice p2 R.length q2) R) := h2
  clear h1 h2
  go_enter Try.func63, Try.ntmps63
  go_wp2_with fail
  generalize hW : (w.alloc _).alloc _ = W
  have hA : Hid (Blk w.heap.size #[.int .i64 mid, .int .i64 born, .string fr, .slice p1 R.length q1, .string bo] W) := by show Blk _ _ _; rw [← hW]; exact (Blk.new w _ _).below (below1 _ _)
  have hB : Hid (Blk (w.heap.size + 1) #[.int .i64 mid, .int .i64 born, .string fr, .slice p2 R.length q2, .string bo] W) := by
    show Blk _ _ _
    rw [← hW]
    have := Blk.new (w.alloc (.cells #[.int .i64 mid, .int .i64 born, .string fr, .slice p1 R.length q1, .string bo] 67)) #[.int .i64 mid, .int .i64 born, .string fr, .slice p2 R.length q2, .string bo] 67
    simpa using this
  have bw : Below w.heap.size w W := by rw [← hW]; exact below2 _ _ _
  clear hW
  refine (eqStrs _ _ R _ _ _ (strs_below H1.out bw (Nat.le_refl _)) (strs_below H2.out bw (Nat.le_refl _))).mono ?_
  rintro e w1 ⟨rfl, hb1⟩
  have a4 : w1.cell? ⟨w.heap.size, 4, none⟩ = some (.string bo) := (hA.out.below hb1).cell 4
  have b4 : w1.cell? ⟨w.heap.size + 1, 4, none⟩ = some (.string bo) := (hB.out.below hb1).cell 4
  have bw1 : Below w.heap.size w w1 := bw.trans (hb1.mono bw.size)
  clear hA hB hb1
  go_wp2
  go_ret
  exact ⟨rfl, bw1⟩

end Go.Proofs.Ythblkfdgibonbaa
