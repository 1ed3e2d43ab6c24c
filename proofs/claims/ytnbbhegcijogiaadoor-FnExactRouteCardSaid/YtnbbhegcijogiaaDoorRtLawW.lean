import Derived.Test.YtnbbhegcijogiaaDoorSRt
import Derived.Test.YtnbbhegcijogiaaDoorMxT
namespace Go.Proofs.YtnbbhegcijogiaaDoor
open Go.ChangeShapes Go.WideShapes Go.ChangeAt Go.RowKit
attribute [local go_sem ↓] Go.wp_at_zero Go.wp_at_succ

theorem row_set_below2 {w : World} {lo : Nat} {v : Value} {L : List Mx} (h : Mxs w lo v L) {a : Addr} (ha : a.block < lo) (u : Value) : Mxs (w.setCell a u) lo v L := ownsRow_setCell_below h ha u

set_option maxHeartbeats 1000000 in
set_option maxRecDepth 100000 in
theorem szZone (kind addr : Int) (v : Value) (L : List Mx) (w : World) (h : ArgM w v L) :
    Calls Tryd.prog 9 #[.agg #[.int .i64 kind, v, .int .i64 addr], .int .i64 1048576] w fun e w' => (∃ r : Int, e = .returned (.int .i64 r) ∧ (r < 0 ∨ (L.length ≤ 1048576 ∧ ∀ x ∈ L, x.2.size ≤ 1048576))) ∧ Below w.heap.size w w' := by
  have H : Hid (ArgM w v L) := h
  obtain ⟨a, c, rfl⟩ := h.form
  clear h
  go_enter Tryd.func9, Tryd.ntmps9
  go_wp2_with fail
  generalize hW : w.alloc _ = W
  have bw : Below w.heap.size w W := by rw [← hW]; exact below1 _ _
  clear hW
  refine (szMxs _ L 1048576 _ (H.out.below bw) (by decide) (by decide)).mono ?_
  rintro e w1 ⟨⟨r, rfl, hr⟩, hb1⟩
  have b1 : Below w.heap.size w w1 := bw.trans (hb1.mono bw.size)
  have HR : Hid (r < 0 ∨ (0 ≤ r ∧ r ≤ 1048576 ∧ (L.length : Int) ≤ 1048576 ∧ ∀ x ∈ L, (x.2.size : Int) ≤ 1048576)) := hr
  clear hr hb1
  by_cases hr0 : r < 0
  · go_wp2
    go_ret
    exact ⟨⟨_, rfl, .inl (by decide)⟩, b1⟩
  · go_wp2
    go_ret
    refine ⟨⟨_, rfl, .inr ?_⟩, b1⟩
    obtain ⟨_, _, h3, h4⟩ := HR.out.resolve_left (by omega)
    exact ⟨by omega, fun x hx => by have := h4 x hx; omega⟩

set_option maxHeartbeats 2000000 in
set_option maxRecDepth 100000 in
theorem toZone (kind addr : Int) (v : Value) (L : List Mx) (w : World) (h : ArgM w v L) (hL : L.length ≤ 1048576) :
    Calls Tryd.prog 10 #[.agg #[.int .i64 kind, v, .int .i64 addr]] w fun e w' => (∃ a c, e = .returned (.agg #[.int .i64 kind, .slice a L.length c, .int .i64 addr]) ∧ Mxs w' w.heap.size (.slice a L.length c) L) ∧ Below w.heap.size w w' := by
  have H : Hid (ArgM w v L) := h
  obtain ⟨a, c, rfl⟩ := h.form
  clear h
  go_enter Tryd.func10, Tryd.ntmps10
  go_wp2_with fail
  generalize hW : ((w.alloc _).alloc _).alloc _ = W
  have hA : Hid (Blk w.heap.size #[.int .i64 kind, .slice a L.length c, .int .i64 addr] W) := by
    show Blk _ _ _
    rw [← hW]
    exact ((Blk.new w _ _).below (below1 _ _)).below (below1 _ _)
  have hRb : Hid (Blk (w.heap.size + 1) #[.int .i64 0, .slice none 0 0, .int .i64 0] W) := by
    show Blk _ _ _
    rw [← hW]
    have := (Blk.new (w.alloc (.cells #[.int .i64 kind, .slice a L.length c, .int .i64 addr] 38)) #[.int .i64 0, .slice none 0 0, .int .i64 0] 25).below (below1 _ (.cells #[.int .i64 kind, .slice none 0 0, .int .i64 0] 25))
    simpa using this
  have hO : Hid (Blk (w.heap.size + 1 + 1) #[.int .i64 kind, .slice none 0 0, .int .i64 0] W) := by
    show Blk _ _ _
    rw [← hW]
    have := Blk.new ((w.alloc (.cells #[.int .i64 kind, .slice a L.length c, .int .i64 addr] 38)).alloc (.cells #[.int .i64 0, .slice none 0 0, .int .i64 0] 25)) #[.int .i64 kind, .slice none 0 0, .int .i64 0] 25
    simpa using this
  have bw : Below w.heap.size w W := by
    rw [← hW]
    exact (below2 w _ _).trans ((below1 _ _).mono (by simp; omega))
  have hWz : w.heap.size + 3 ≤ W.heap.size := by rw [← hW]; simp
  clear hW
  refine (toMxs _ L _ (H.out.below bw) hL).mono ?_
  rintro e w1 ⟨u1, rfl, S1, hb1⟩
  obtain ⟨p1, q1, hu1⟩ := mxs_form S1
  subst hu1
  have hA1 : Hid _ := hA.out.below hb1
  have hRb1 : Hid _ := hRb.out.below hb1
  have hO1 : Hid _ := hO.out.below hb1
  have bw1 : Below w.heap.size w w1 := bw.trans (hb1.mono bw.size)
  have hz1 := hb1.size
  have HS1 : Hid (Mxs w1 W.heap.size (.slice p1 L.length q1) L) := S1
  have x2 : w1.cell? ⟨w.heap.size, 2, none⟩ = some (.int .i64 addr) := hA1.out.cell 2
  have o0 : w1.cell? ⟨w.heap.size + 1 + 1, 0, none⟩ = some (.int .i64 kind) := hO1.out.cell 0
  have o1 : w1.cell? ⟨w.heap.size + 1 + 1, 1, none⟩ = some (.slice none 0 0) := hO1.out.cell 1
  have o2 : w1.cell? ⟨w.heap.size + 1 + 1, 2, none⟩ = some (.int .i64 0) := hO1.out.cell 2
  have f1 := hO1.out.free 1
  have f2 := hO1.out.free 2
  have r0 : w1.cell? ⟨w.heap.size + 1, 0, none⟩ = some (.int .i64 0) := hRb1.out.cell 0
  have rf0 := hRb1.out.free 0
  have r1 : w1.cell? ⟨w.heap.size + 1, 1, none⟩ = some (.slice none 0 0) := hRb1.out.cell 1
  have rf1 := hRb1.out.free 1
  have r2 : w1.cell? ⟨w.heap.size + 1, 2, none⟩ = some (.int .i64 0) := hRb1.out.cell 2
  have rf2 := hRb1.out.free 2
  clear hA hRb hO hb1 S1 bw hA1 hRb1 hO1
  go_wp2
  refine bodyPost_ret (v := .agg #[.int .i64 kind, .slice p1 L.length q1, .int .i64 addr]) (by simp [results, Tryd.results10, go_sem, r0, r1, r2]) rfl ?_
  refine ⟨⟨_, _, rfl, ?_⟩, ?_⟩
  · refine mxs_le (lo := W.heap.size) ?_ (by omega)
    repeat (refine row_set_below2 ?_ (by dsimp only; omega) _)
    exact HS1.out
  · repeat (refine Below.setCell ?_ (by dsimp only; omega) _)
    exact bw1

set_option maxHeartbeats 1000000 in
set_option maxRecDepth 100000 in
theorem eqZone (kind addr : Int) (v1 v2 : Value) (L : List Mx) (lo1 lo2 : Nat) (w : World) (h1 : Mxs w lo1 v1 L) (h2 : Mxs w lo2 v2 L) :
    Calls Tryd.prog 12 #[.agg #[.int .i64 kind, v1, .int .i64 addr], .agg #[.int .i64 kind, v2, .int .i64 addr]] w fun e w' => e = .returned (.bool true) ∧ Below w.heap.size w w' := by
  obtain ⟨p1, q1, rfl⟩ := mxs_form h1
  obtain ⟨p2, q2, rfl⟩ := mxs_form h2
  have H1 : Hid (Mxs w lo1 (.slice p1 L.length q1) L) := h1
  have H2 : Hid (Mxs w lo2 (.slice p2 L.length q2) L) := h2
  clear h1 h2
  go_enter Tryd.func12, Tryd.ntmps12
  go_wp2_with fail
  generalize hW : (w.alloc _).alloc _ = W
  have hA : Hid (Blk w.heap.size #[.int .i64 kind, .slice p1 L.length q1, .int .i64 addr] W) := by show Blk _ _ _; rw [← hW]; exact (Blk.new w _ _).below (below1 _ _)
  have hB : Hid (Blk (w.heap.size + 1) #[.int .i64 kind, .slice p2 L.length q2, .int .i64 addr] W) := by
    show Blk _ _ _
    rw [← hW]
    have := Blk.new (w.alloc (.cells #[.int .i64 kind, .slice p1 L.length q1, .int .i64 addr] 25)) #[.int .i64 kind, .slice p2 L.length q2, .int .i64 addr] 25
    simpa using this
  have bw : Below w.heap.size w W := by rw [← hW]; exact below2 _ _ _
  clear hW
  refine (eqMxs _ _ L _ _ _ (mxs_below H1.out bw (Nat.le_refl _)) (mxs_below H2.out bw (Nat.le_refl _))).mono ?_
  rintro e w1 ⟨rfl, hb1⟩
  have a2 : w1.cell? ⟨w.heap.size, 2, none⟩ = some (.int .i64 addr) := (hA.out.below hb1).cell 2
  have b2 : w1.cell? ⟨w.heap.size + 1, 2, none⟩ = some (.int .i64 addr) := (hB.out.below hb1).cell 2
  have bw1 : Below w.heap.size w w1 := bw.trans (hb1.mono bw.size)
  clear hA hB hb1
  go_wp2
  go_ret
  exact ⟨rfl, bw1⟩

set_option maxHeartbeats 1000000 in
set_option maxRecDepth 100000 in
theorem markZone (kind addr : Int) (v : Value) (L : List Mx) (lo : Nat) (w : World) (h : Mxs w lo v L) (hm : L.length ≤ 1048576) :
    Calls Tryd.prog 13 #[.agg #[.int .i64 kind, v, .int .i64 addr], .int .i64 1] w fun e w' => e = .returned (.int .i64 ((1 + 2 * L.length : Nat) : Int)) ∧ OffV v w w' := by
  obtain ⟨p1, q1, rfl⟩ := mxs_form h
  have H : Hid (Mxs w lo (.slice p1 L.length q1) L) := h
  clear h
  go_enter Tryd.func13, Tryd.ntmps13
  go_wp2_with fail
  generalize hW : w.alloc _ = W
  have bw : Below w.heap.size w W := by rw [← hW]; exact below1 _ _
  clear hW
  refine (markMxs _ L lo 1 _ (mxs_below H.out bw (Nat.le_refl _)) (by decide) (by omega)).mono ?_
  rintro e w1 ⟨rfl, ho⟩
  have HO : Hid (OffV (.slice p1 L.length q1) w w1) := ho.after bw
  clear ho
  go_wp2
  go_ret
  exact ⟨rfl, HO.out⟩
end Go.Proofs.YtnbbhegcijogiaaDoor
