import Derived.Test.YthblkfdgibonbaaItQ
namespace Go.Proofs.Ythblkfdgibonbaa
open Go.ChangeShapes Go.WideShapes Go.ChangeAt Go.RowKit
attribute [local go_sem ↓] Go.wp_at_zero Go.wp_at_succ

set_option maxHeartbeats 2000000 in
set_option maxRecDepth 100000 in
theorem toQu (v : Value) (nx : Int) (L : List It) (w : World) (h : ArgI w v L) (hL : L.length ≤ 1048576) (hsm : ∀ x ∈ L, SmallI x) :
    Calls Try.prog 15 #[.agg #[v, .int .i64 nx]] w fun e w' => (∃ a c, e = .returned (.agg #[.slice a L.length c, .int .i64 nx]) ∧ Its w' w.heap.size (.slice a L.length c) L) ∧ Below w.heap.size w w' := by
  have H : Hid (ArgI w v L) := h
  have HSm : Hid (∀ x ∈ L, SmallI x) := hsm
  obtain ⟨a, c, rfl⟩ := h.form
  clear h hsm
  go_enter Try.func15, Try.ntmps15
  go_wp2_with fail
  generalize hW : ((w.alloc _).alloc _).alloc _ = W
  have hA : Hid (Blk w.heap.size #[.slice a L.length c, .int .i64 nx] W) := by
    show Blk _ _ _
    rw [← hW]
    exact ((Blk.new w _ _).below (below1 _ _)).below (below1 _ _)
  have hRb : Hid (Blk (w.heap.size + 1) #[.slice none 0 0, .int .i64 0] W) := by
    show Blk _ _ _
    rw [← hW]
    have := (Blk.new (w.alloc (.cells #[.slice a L.length c, .int .i64 nx] 36)) #[.slice none 0 0, .int .i64 0] 42).below (below1 _ (.cells #[.slice none 0 0, .int .i64 0] 42))
    simpa using this
  have hO : Hid (Blk (w.heap.size + 1 + 1) #[.slice none 0 0, .int .i64 0] W) := by
    show Blk _ _ _
    rw [← hW]
    have := Blk.new ((w.alloc (.cells #[.slice a L.length c, .int .i64 nx] 36)).alloc (.cells #[.slice none 0 0, .int .i64 0] 42)) #[.slice none 0 0, .int .i64 0] 42
    simpa using this
  have bw : Below w.heap.size w W := by
    rw [← hW]
    exact (below2 w _ _).trans ((below1 _ _).mono (by simp; omega))
  have hWz : w.heap.size + 3 ≤ W.heap.size := by rw [← hW]; simp
  clear hW
  refine (toIts _ L _ (H.out.below bw) hL HSm.out).mono ?_
  rintro e w1 ⟨u1, rfl, S1, hb1⟩
  obtain ⟨p1, q1, hu1⟩ := S1.form
  subst hu1
  have hA1 : Hid _ := hA.out.below hb1
  have hRb1 : Hid _ := hRb.out.below hb1
  have hO1 : Hid _ := hO.out.below hb1
  have bw1 : Below w.heap.size w w1 := bw.trans (hb1.mono bw.size)
  have hz1 := hb1.size
  have HS1 : Hid (Its w1 W.heap.size (.slice p1 L.length q1) L) := S1
  have x1 : w1.cell? ⟨w.heap.size, 1, none⟩ = some (.int .i64 nx) := hA1.out.cell 1
  have o0 : w1.cell? ⟨w.heap.size + 1 + 1, 0, none⟩ = some (.slice none 0 0) := hO1.out.cell 0
  have o1 : w1.cell? ⟨w.heap.size + 1 + 1, 1, none⟩ = some (.int .i64 0) := hO1.out.cell 1
  have f0 := hO1.out.free 0
  have f1 := hO1.out.free 1
  have r0 : w1.cell? ⟨w.heap.size + 1, 0, none⟩ = some (.slice none 0 0) := hRb1.out.cell 0
  have r1 : w1.cell? ⟨w.heap.size + 1, 1, none⟩ = some (.int .i64 0) := hRb1.out.cell 1
  have rf0 := hRb1.out.free 0
  have rf1 := hRb1.out.free 1
  clear hA hRb hO hb1 S1 bw hA1 hRb1 hO1
  go_wp2
  refine bodyPost_ret (v := .agg #[.slice p1 L.length q1, .int .i64 nx]) (by simp [results, Try.results15, go_sem, r0, r1]) rfl ?_
  refine ⟨⟨_, _, rfl, ?_⟩, ?_⟩
  · refine Its.le (lo := W.heap.size) ?_ (by omega)
    repeat (refine Its.setB ?_ (by dsimp only; omega) _)
    exact HS1.out
  · repeat (refine Below.setCell ?_ (by dsimp only; omega) _)
    exact bw1

set_option maxHeartbeats 4000000 in
set_option maxRecDepth 100000 in
theorem eqIt (x : It) (r1 v1 r2 v2 : Value) (lo1 lo2 : Nat) (w : World) (h1 : Strs w lo1 r1 x.R) (k1 : Vds w lo1 v1 x.V) (h2 : Strs w lo2 r2 x.R) (k2 : Vds w lo2 v2 x.V) :
    Calls Try.prog 52 #[.agg #[.int .i64 x.id, .int .i64 x.born, .string x.fr, r1, .string x.bo, v1, .int .i64 x.tr, .int .i64 x.du, .bool x.bn], .agg #[.int .i64 x.id, .int .i64 x.born, .string x.fr, r2, .string x.bo, v2, .int .i64 x.tr, .int .i64 x.du, .bool x.bn]] w fun e w' => e = .returned (.bool true) ∧ Below w.heap.size w w' := by
  obtain ⟨p1, q1, rfl⟩ := strs_formR h1
  obtain ⟨p2, q2, rfl⟩ := strs_formR h2
  obtain ⟨s1, t1, rfl⟩ := vds_form k1
  obtain ⟨s2, t2, rfl⟩ := vds_form k2
  have H1 : Hid (Strs w lo1 (.slice p1 x.R.length q1) x.R) := h1
  have H2 : Hid (Strs w lo2 (.slice p2 x.R.length q2) x.R) := h2
  have K1 : Hid (Vds w lo1 (.slice s1 x.V.length t1) x.V) := k1
  have K2 : Hid (Vds w lo2 (.slice s2 x.V.length t2) x.V) := k2
  clear h1 h2 k1 k2
  go_enter Try.func52, Try.ntmps52
  go_wp2_with fail
  generalize hW : (w.alloc _).alloc _ = W
  have hA : Hid (Blk w.heap.size #[.int .i64 x.id, .int .i64 x.born, .string x.fr, .slice p1 x.R.length q1, .string x.bo, .slice s1 x.V.length t1, .int .i64 x.tr, .int .i64 x.du, .bool x.bn] W) := by show Blk _ _ _; rw [← hW]; exact (Blk.new w _ _).below (below1 _ _)
  have hB : Hid (Blk (w.heap.size + 1) #[.int .i64 x.id, .int .i64 x.born, .string x.fr, .slice p2 x.R.length q2, .string x.bo, .slice s2 x.V.length t2, .int .i64 x.tr, .int .i64 x.du, .bool x.bn] W) := by
    show Blk _ _ _
    rw [← hW]
    have := Blk.new (w.alloc (.cells #[.int .i64 x.id, .int .i64 x.born, .string x.fr, .slice p1 x.R.length q1, .string x.bo, .slice s1 x.V.length t1, .int .i64 x.tr, .int .i64 x.du, .bool x.bn] 70)) #[.int .i64 x.id, .int .i64 x.born, .string x.fr, .slice p2 x.R.length q2, .string x.bo, .slice s2 x.V.length t2, .int .i64 x.tr, .int .i64 x.du, .bool x.bn] 70
    simpa using this
  have bw : Below w.heap.size w W := by rw [← hW]; exact below2 _ _ _
  clear hW
  refine (eqMsg x.id x.born x.fr x.bo x.R _ _ _ _ _ (strs_below H1.out bw (Nat.le_refl _)) (strs_below H2.out bw (Nat.le_refl _))).mono ?_
  rintro e w1 ⟨rfl, hb1⟩
  have hA1 : Hid _ := hA.out.below hb1
  have hB1 : Hid _ := hB.out.below hb1
  have b1 : Below w.heap.size w w1 := bw.trans (hb1.mono bw.size)
  have a5 : w1.cell? ⟨w.heap.size, 5, none⟩ = some (.slice s1 x.V.length t1) := hA1.out.cell 5
  have b5 : w1.cell? ⟨w.heap.size + 1, 5, none⟩ = some (.slice s2 x.V.length t2) := hB1.out.cell 5
  clear hA hB hb1 bw
  go_wp2_with fail
  refine (eqVds _ _ x.V _ _ _ (vds_below K1.out b1 (Nat.le_refl _)) (vds_below K2.out b1 (Nat.le_refl _))).mono ?_
  rintro e w2 ⟨rfl, hb2⟩
  have hA2 := hA1.out.below hb2
  have hB2 := hB1.out.below hb2
  have b2 : Below w.heap.size w w2 := b1.trans (hb2.mono b1.size)
  have a6 : w2.cell? ⟨w.heap.size, 6, none⟩ = some (.int .i64 x.tr) := hA2.cell 6
  have b6 : w2.cell? ⟨w.heap.size + 1, 6, none⟩ = some (.int .i64 x.tr) := hB2.cell 6
  have a7 : w2.cell? ⟨w.heap.size, 7, none⟩ = some (.int .i64 x.du) := hA2.cell 7
  have b7 : w2.cell? ⟨w.heap.size + 1, 7, none⟩ = some (.int .i64 x.du) := hB2.cell 7
  have a8 : w2.cell? ⟨w.heap.size, 8, none⟩ = some (.bool x.bn) := hA2.cell 8
  have b8 : w2.cell? ⟨w.heap.size + 1, 8, none⟩ = some (.bool x.bn) := hB2.cell 8
  clear hA1 hB1 hb2 hA2 hB2 a5 b5
  go_wp2
  go_ret
  exact ⟨rfl, b2⟩

/-- the cells of an item of a row -/
theorem ItsP.cells {w : World} {lo g m cap : Nat} {L : List It} {P : List (Value × Value)} (h : ItsP w lo (.slice (some ⟨g, 0, none⟩) m cap) L P) (k : Nat) (hk : k < L.length) : ItC w g (k * 9) L[k] (P[k]'(by have := h.len; omega)).1 (P[k]'(by have := h.len; omega)).2 := by
  have hl := h.len
  have hkr : k < (irow L P).length := by rw [irow_len hl]; exact hk
  have cl : ∀ j, j < 9 → w.cell? ⟨g, k * 9 + j, none⟩ = (ic L[k] (P[k]'(by omega)))[j]? := fun j hj => by
    rw [h.row.at.1.cell k hkr j hj, irow_get hl k hk]
  exact ⟨cl 0 (by decide), cl 1 (by decide), cl 2 (by decide), cl 3 (by decide), cl 4 (by decide), cl 5 (by decide), cl 6 (by decide), cl 7 (by decide), cl 8 (by decide)⟩

set_option maxHeartbeats 4000000 in
set_option maxRecDepth 100000 in
theorem eqIts (v1 v2 : Value) (L : List It) (lo1 lo2 : Nat) (w : World) (h1 : Its w lo1 v1 L) (h2 : Its w lo2 v2 L) :
    Calls Try.prog 41 #[v1, v2] w fun e w' => e = .returned (.bool true) ∧ Below w.heap.size w w' := by
  obtain ⟨P1, h1⟩ := h1
  obtain ⟨P2, h2⟩ := h2
  by_cases h0 : L.length = 0
  · obtain ⟨a1, c1, rfl⟩ := h1.form
    obtain ⟨a2, c2, rfl⟩ := h2.form
    rw [h0]
    clear h1 h2
    go_enter Try.func41, Try.ntmps41
    go_wp2
    refine wp_loop_rounds 1 ?_; rw [rounds_succ]
    go_wp2
    go_ret
    exact ⟨rfl, Below.refl _ _⟩
  · obtain ⟨g1, c1, hv1, s1⟩ : ∃ g cap, v1 = .slice (some ⟨g, 0, none⟩) L.length cap ∧ RwAt 9 w lo1 g cap (irow L P1) := by
      rcases h1.row.cases with ⟨_, hL⟩ | ⟨g, cap, hv, hs⟩
      · have := congrArg List.length hL; rw [irow_len h1.len] at this; exact absurd this h0
      · rw [irow_len h1.len] at hv; exact ⟨g, cap, hv, hs⟩
    obtain ⟨g2, c2, hv2, s2⟩ : ∃ g cap, v2 = .slice (some ⟨g, 0, none⟩) L.length cap ∧ RwAt 9 w lo2 g cap (irow L P2) := by
      rcases h2.row.cases with ⟨_, hL⟩ | ⟨g, cap, hv, hs⟩
      · have := congrArg List.length hL; rw [irow_len h2.len] at this; exact absurd this h0
      · rw [irow_len h2.len] at hv; exact ⟨g, cap, hv, hs⟩
    subst hv1 hv2
    have hl1 := s1.len
    have hm1 := s1.capm
    have hl2 := s2.len
    have hm2 := s2.capm
    have hg1 := s1.lt
    have hg2 := s2.lt
    rw [irow_len h1.len] at hl1
    rw [irow_len h2.len] at hl2
    unfold maxLen at hm1 hm2
    have H1 : Hid (ItsP w lo1 (.slice (some ⟨g1, 0, none⟩) L.length c1) L P1) := h1
    have H2 : Hid (ItsP w lo2 (.slice (some ⟨g2, 0, none⟩) L.length c2) L P2) := h2
    clear h1 h2 s1 s2
    go_enter Try.func41, Try.ntmps41
    go_wp2
    go_loopw [5] (fun i wr => ∃ k : Nat, k ≤ L.length ∧ i = .int .i64 k ∧ Below w.heap.size w wr) (fun i _ => L.length - (intOf i).toNat)
    case atStart => exact ⟨0, Nat.zero_le _, rfl, Below.refl _ _⟩
    case round =>
      obtain ⟨k, hk, rfl, hb⟩ := hrel
      by_cases hlt : k < L.length
      · obtain ⟨x0, x1, x2, x3, x4, x5, x6, x7, x8⟩ := (H1.out.cells k hlt).below hb hg1
        obtain ⟨y0, y1, y2, y3, y4, y5, y6, y7, y8⟩ := (H2.out.cells k hlt).below hb hg2
        have HE : Hid (∀ wx, Below w.heap.size w wx → Calls Try.prog 52 #[.agg #[.int .i64 L[k].id, .int .i64 L[k].born, .string L[k].fr, (P1[k]'(by have := H1.out.len; omega)).1, .string L[k].bo, (P1[k]'(by have := H1.out.len; omega)).2, .int .i64 L[k].tr, .int .i64 L[k].du, .bool L[k].bn], .agg #[.int .i64 L[k].id, .int .i64 L[k].born, .string L[k].fr, (P2[k]'(by have := H2.out.len; omega)).1, .string L[k].bo, (P2[k]'(by have := H2.out.len; omega)).2, .int .i64 L[k].tr, .int .i64 L[k].du, .bool L[k].bn]] wx fun e w' => e = .returned (.bool true) ∧ Below wx.heap.size wx w') := fun wx hx =>
          eqIt L[k] _ _ _ _ _ _ _ (strs_below (H1.out.str k hlt) hx (Nat.le_refl _)) (vds_below (H1.out.vds k hlt) hx (Nat.le_refl _)) (strs_below (H2.out.str k hlt) hx (Nat.le_refl _)) (vds_below (H2.out.vds k hlt) hx (Nat.le_refl _))
        obtain ⟨p1, q1, e1⟩ := strs_formR (H1.out.str k hlt)
        obtain ⟨p2, q2, e2⟩ := strs_formR (H2.out.str k hlt)
        obtain ⟨s1, t1, e3⟩ := vds_form (H1.out.vds k hlt)
        obtain ⟨s2, t2, e4⟩ := vds_form (H2.out.vds k hlt)
        rw [e1] at x3 HE
        rw [e3] at x5 HE
        rw [e2] at y3 HE
        rw [e4] at y5 HE
        clear e1 e2 e3 e4
        generalize L[k] = X at *
        have k1 : (0 : Int) ≤ (k : Int) := by omega
        have k2 : (k : Int) < (L.length : Int) := by omega
        have hbr : Hid (Below w.heap.size w wr) := hb
        go_wp2_with fail
        go_region_held3 (fun w' => w'.cell? ⟨g1, k * 9, none⟩ = some (.int .i64 X.id) ∧ w'.cell? ⟨g1, k * 9 + 1, none⟩ = some (.int .i64 X.born) ∧ w'.cell? ⟨g1, k * 9 + 2, none⟩ = some (.string X.fr) ∧ w'.cell? ⟨g1, k * 9 + 3, none⟩ = some (.slice p1 X.R.length q1) ∧ w'.cell? ⟨g1, k * 9 + 4, none⟩ = some (.string X.bo) ∧ w'.cell? ⟨g1, k * 9 + 5, none⟩ = some (.slice s1 X.V.length t1) ∧ w'.cell? ⟨g1, k * 9 + 6, none⟩ = some (.int .i64 X.tr) ∧ w'.cell? ⟨g1, k * 9 + 7, none⟩ = some (.int .i64 X.du) ∧ w'.cell? ⟨g1, k * 9 + 8, none⟩ = some (.bool X.bn) ∧ w'.cell? ⟨g2, k * 9, none⟩ = some (.int .i64 X.id) ∧ w'.cell? ⟨g2, k * 9 + 1, none⟩ = some (.int .i64 X.born) ∧ w'.cell? ⟨g2, k * 9 + 2, none⟩ = some (.string X.fr) ∧ w'.cell? ⟨g2, k * 9 + 3, none⟩ = some (.slice p2 X.R.length q2) ∧ w'.cell? ⟨g2, k * 9 + 4, none⟩ = some (.string X.bo) ∧ w'.cell? ⟨g2, k * 9 + 5, none⟩ = some (.slice s2 X.V.length t2) ∧ w'.cell? ⟨g2, k * 9 + 6, none⟩ = some (.int .i64 X.tr) ∧ w'.cell? ⟨g2, k * 9 + 7, none⟩ = some (.int .i64 X.du) ∧ w'.cell? ⟨g2, k * 9 + 8, none⟩ = some (.bool X.bn)) (first | (exact hkeep) | go_keep) ((go_at_call 52; refine (HE.out _ (by exact hbr.out.drew)).mono ?_; rintro e w1 ⟨rfl, hb1⟩; have hb2 : Below wr.heap.size wr w1 := ((Below.refl wr.heap.size wr).drew.trans (by simpa using hb1)); have hg1r : g1 < wr.heap.size := Nat.lt_of_lt_of_le hg1 hbr.out.size; have hg2r : g2 < wr.heap.size := Nat.lt_of_lt_of_le hg2 hbr.out.size; have hkeep := And.intro ((hb2.cell (p := ⟨g1, k * 9, none⟩) hg1r).trans x0) (And.intro ((hb2.cell (p := ⟨g1, k * 9 + 1, none⟩) hg1r).trans x1) (And.intro ((hb2.cell (p := ⟨g1, k * 9 + 2, none⟩) hg1r).trans x2) (And.intro ((hb2.cell (p := ⟨g1, k * 9 + 3, none⟩) hg1r).trans x3) (And.intro ((hb2.cell (p := ⟨g1, k * 9 + 4, none⟩) hg1r).trans x4) (And.intro ((hb2.cell (p := ⟨g1, k * 9 + 5, none⟩) hg1r).trans x5) (And.intro ((hb2.cell (p := ⟨g1, k * 9 + 6, none⟩) hg1r).trans x6) (And.intro ((hb2.cell (p := ⟨g1, k * 9 + 7, none⟩) hg1r).trans x7) (And.intro ((hb2.cell (p := ⟨g1, k * 9 + 8, none⟩) hg1r).trans x8) (And.intro ((hb2.cell (p := ⟨g2, k * 9, none⟩) hg2r).trans y0) (And.intro ((hb2.cell (p := ⟨g2, k * 9 + 1, none⟩) hg2r).trans y1) (And.intro ((hb2.cell (p := ⟨g2, k * 9 + 2, none⟩) hg2r).trans y2) (And.intro ((hb2.cell (p := ⟨g2, k * 9 + 3, none⟩) hg2r).trans y3) (And.intro ((hb2.cell (p := ⟨g2, k * 9 + 4, none⟩) hg2r).trans y4) (And.intro ((hb2.cell (p := ⟨g2, k * 9 + 5, none⟩) hg2r).trans y5) (And.intro ((hb2.cell (p := ⟨g2, k * 9 + 6, none⟩) hg2r).trans y6) (And.intro ((hb2.cell (p := ⟨g2, k * 9 + 7, none⟩) hg2r).trans y7) ((hb2.cell (p := ⟨g2, k * 9 + 8, none⟩) hg2r).trans y8)))))))))))))))))))
        all_goals
          clear hkeep x0 x1 x2 x3 x4 x5 x6 x7 x8 y0 y1 y2 y3 y4 y5 y6 y7 y8
          go_wp2
          go_roundw
          case rel => exact ⟨k + 1, by omega, by go_num, hb.trans (hb2.mono hb.size)⟩
          case measure => simp [intOf]; omega
      · go_wp2
        go_ret
        exact ⟨rfl, hb⟩

set_option maxHeartbeats 2000000 in
set_option maxRecDepth 100000 in
theorem eqQu (v1 v2 : Value) (nx : Int) (L : List It) (lo1 lo2 : Nat) (w : World) (h1 : Its w lo1 v1 L) (h2 : Its w lo2 v2 L) :
    Calls Try.prog 18 #[.agg #[v1, .int .i64 nx], .agg #[v2, .int .i64 nx]] w fun e w' => e = .returned (.bool true) ∧ Below w.heap.size w w' := by
  have H1 : Hid (Its w lo1 v1 L) := h1
  have H2 : Hid (Its w lo2 v2 L) := h2
  obtain ⟨a1, c1, rfl⟩ := h1.form
  obtain ⟨a2, c2, rfl⟩ := h2.form
  clear h1 h2
  go_enter Try.func18, Try.ntmps18
  go_wp2_with fail
  generalize hW : (w.alloc _).alloc _ = W
  have hA : Hid (Blk w.heap.size #[.slice a1 L.length c1, .int .i64 nx] W) := by show Blk _ _ _; rw [← hW]; exact (Blk.new w _ _).below (below1 _ _)
  have hB : Hid (Blk (w.heap.size + 1) #[.slice a2 L.length c2, .int .i64 nx] W) := by
    show Blk _ _ _
    rw [← hW]
    have := Blk.new (w.alloc (.cells #[.slice a1 L.length c1, .int .i64 nx] 42)) #[.slice a2 L.length c2, .int .i64 nx] 42
    simpa using this
  have bw : Below w.heap.size w W := by rw [← hW]; exact below2 _ _ _
  clear hW
  refine (eqIts _ _ L _ _ _ (H1.out.below bw (Nat.le_refl _)) (H2.out.below bw (Nat.le_refl _))).mono ?_
  rintro e w1 ⟨rfl, hb1⟩
  have a4 : w1.cell? ⟨w.heap.size, 1, none⟩ = some (.int .i64 nx) := (hA.out.below hb1).cell 1
  have b4 : w1.cell? ⟨w.heap.size + 1, 1, none⟩ = some (.int .i64 nx) := (hB.out.below hb1).cell 1
  have b1 : Below w.heap.size w w1 := bw.trans (hb1.mono bw.size)
  clear hA hB hb1 bw
  go_wp2
  go_ret
  exact ⟨rfl, b1⟩
end Go.Proofs.Ythblkfdgibonbaa
