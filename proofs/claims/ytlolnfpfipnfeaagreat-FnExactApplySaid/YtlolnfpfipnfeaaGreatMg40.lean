import Derived.Test.YtlolnfpfipnfeaaGreatMg31
namespace Go.Proofs.YtlolnfpfipnfeaaGreat
open Go.ChangeShapes Go.WideShapes Go.ChangeAt Go.RowKit
attribute [local go_sem ↓] Go.wp_at_zero Go.wp_at_succ

theorem blk2I (w : World) (X Y : Array Value) (S T : TypeId) : Blk w.heap.size X ((w.alloc (.cells X S)).alloc (.cells Y T)) ∧ Blk (w.heap.size + 1) Y ((w.alloc (.cells X S)).alloc (.cells Y T)) := by
  refine ⟨(Blk.new w _ _).below (below1 _ _), ?_⟩
  have := Blk.new (w.alloc (.cells X S)) Y T
  simpa using this
set_option maxHeartbeats 4000000 in
set_option maxRecDepth 100000 in
theorem implCopyMsg (mid born : Int) (fr bo : ByteArray) (R : List ByteArray) (v : Value) (lo : Nat) (w : World) (h : Strs w lo v R) (hR : R.length ≤ 1048576) :
    Calls Tryz.prog 48 #[.agg #[.int .i64 mid, .int .i64 born, .string fr, v, .string bo]] w fun e w' => (∃ u, e = .returned (.agg #[.int .i64 mid, .int .i64 born, .string fr, u, .string bo]) ∧ Strs w' w.heap.size u R) ∧ Below w.heap.size w w' := by
  obtain ⟨a3, c3, rfl⟩ := row_formA h
  have H : Hid (w.ownsRow lo 9 1 (.slice a3 R.length c3) R.length (R.map Value.string)) := h
  clear h
  go_enter Tryz.func48, Tryz.ntmps48
  go_wp2_with fail
  generalize hW : World.alloc _ _ = W0
  have HA0 : Hid (Blk w.heap.size #[.int .i64 mid, .int .i64 born, .string fr, .slice a3 R.length c3, .string bo] W0) := by show Blk _ _ _; rw [← hW]; exact (blk2I w _ _ _ _).1
  have HZ0 : Hid (Blk (w.heap.size + 1) #[.int .i64 0, .int .i64 0, .string ⟨#[]⟩, .slice none 0 0, .string ⟨#[]⟩] W0) := by show Blk _ _ _; rw [← hW]; exact (blk2I w _ _ _ _).2
  have b0 : Below w.heap.size w W0 := by rw [← hW]; exact below2 _ _ _
  have z0 : w.heap.size + 2 ≤ W0.heap.size := by rw [← hW]; simp
  clear hW
  refine (cloneStr _ R.length _ lo _ (row_below H.out b0) (str_one _) hR).mono ?_
  rintro e w1 ⟨u, rfl, S1, hb1⟩
  obtain ⟨p1, q1, hu⟩ := row_formA S1
  subst hu
  have HS1 : Hid (w1.ownsRow W0.heap.size 9 1 (.slice p1 R.length q1) R.length (R.map Value.string)) := S1
  have HA1 : Hid _ := HA0.out.below hb1
  have HZ1 : Hid _ := HZ0.out.below hb1
  have b1 : Below w.heap.size w w1 := b0.trans (hb1.mono b0.size)
  have z1 := hb1.size
  clear hb1 HA0 HZ0 b0 S1
  have x0 : w1.cell? ⟨w.heap.size, 0, none⟩ = some (.int .i64 mid) := HA1.out.cell 0
  have x1 : w1.cell? ⟨w.heap.size, 1, none⟩ = some (.int .i64 born) := HA1.out.cell 1
  have x2 : w1.cell? ⟨w.heap.size, 2, none⟩ = some (.string fr) := HA1.out.cell 2
  have x3 : w1.cell? ⟨w.heap.size, 3, none⟩ = some (.slice a3 R.length c3) := HA1.out.cell 3
  have x4 : w1.cell? ⟨w.heap.size, 4, none⟩ = some (.string bo) := HA1.out.cell 4
  have r0 : w1.cell? ⟨w.heap.size + 1, 0, none⟩ = some (.int .i64 0) := HZ1.out.cell 0
  have g0 := HZ1.out.free 0
  have r1 : w1.cell? ⟨w.heap.size + 1, 1, none⟩ = some (.int .i64 0) := HZ1.out.cell 1
  have g1 := HZ1.out.free 1
  have r2 : w1.cell? ⟨w.heap.size + 1, 2, none⟩ = some (.string ⟨#[]⟩) := HZ1.out.cell 2
  have g2 := HZ1.out.free 2
  have r3 : w1.cell? ⟨w.heap.size + 1, 3, none⟩ = some (.slice none 0 0) := HZ1.out.cell 3
  have g3 := HZ1.out.free 3
  have r4 : w1.cell? ⟨w.heap.size + 1, 4, none⟩ = some (.string ⟨#[]⟩) := HZ1.out.cell 4
  have g4 := HZ1.out.free 4
  have f3 := HA1.out.free 3
  clear HA1 HZ1
  go_wp2
  refine bodyPost_ret (v := .agg #[.int .i64 mid, .int .i64 born, .string fr, .slice p1 R.length q1, .string bo]) (by simp [results, Tryz.results48, go_sem, r0, r1, r2, r3, r4]) rfl ?_
  refine ⟨⟨_, rfl, ?_⟩, ?_⟩
  · refine row_le (lo := W0.heap.size) ?_ (by omega)
    repeat (refine row_setA ?_ (by dsimp only; omega) _)
    exact HS1.out
  · repeat (refine Below.setCell ?_ (by dsimp only; omega) _)
    exact b1

/-- the copies of the first k, the old ones behind -/
structure Cpy (N k : Nat) (P Q : List (Value × Value)) : Prop where
  new : ∀ j (hj : j < Q.length), j < k → (∀ a, Q[j].1.ownBlock = some a → N ≤ a) ∧ ∀ a, Q[j].2.ownBlock = some a → N ≤ a
  old : ∀ j (hj : j < Q.length) (hj2 : j < P.length), k ≤ j → Q[j] = P[j]
theorem Cpy.step {N k : Nat} {P Q : List (Value × Value)} (h : Cpy N k P Q) (p : Value × Value) (h1 : ∀ a, p.1.ownBlock = some a → N ≤ a) (h2 : ∀ a, p.2.ownBlock = some a → N ≤ a) : Cpy N (k + 1) P (Q.set k p) := by
  refine ⟨fun j hj hjk => ?_, fun j hj hj2 hjk => ?_⟩
  · by_cases e : j = k
    · subst e; rw [List.getElem_set_self]; exact ⟨h1, h2⟩
    · rw [List.getElem_set_ne (Ne.symm e)]; exact h.new j (by simpa using hj) (by omega)
  · rw [List.getElem_set_ne (by omega)]; exact h.old j (by simpa using hj) hj2 (by omega)

set_option maxHeartbeats 8000000 in
set_option maxRecDepth 100000 in
theorem implCopyQ (v : Value) (nx : Int) (L : List It) (P : List (Value × Value)) (lo : Nat) (w : World) (h : ItsP w lo v L P) (hlo : lo ≤ w.heap.size) (hL : L.length ≤ 1048576) (hs : ∀ x ∈ L, SmallI x) :
    Calls Tryz.prog 27 #[.agg #[v, .int .i64 nx]] w fun e w' => (∃ u P', e = .returned (.agg #[u, .int .i64 nx]) ∧ ItsP w' w.heap.size u L P') ∧ Below w.heap.size w w' := by
  obtain ⟨a1, c1, rfl⟩ := h.form
  have H : Hid (ItsP w lo (.slice a1 L.length c1) L P) := h
  have HPB : Hid (PB w.heap.size P) := PB.of h
  have HS : Hid (∀ x ∈ L, SmallI x) := hs
  have hPl := h.len
  clear h hs
  go_enter Tryz.func27, Tryz.ntmps27
  go_wp2_with fail
  generalize hW : World.alloc _ _ = W0
  have HA0 : Hid (Blk w.heap.size #[.slice a1 L.length c1, .int .i64 nx] W0) := by show Blk _ _ _; rw [← hW]; exact (blk2I w _ _ _ _).1
  have HZ0 : Hid (Blk (w.heap.size + 1) #[.slice none 0 0, .int .i64 0] W0) := by show Blk _ _ _; rw [← hW]; exact (blk2I w _ _ _ _).2
  have b0 : Below w.heap.size w W0 := by rw [← hW]; exact below2 _ _ _
  have z0 : w.heap.size + 2 ≤ W0.heap.size := by rw [← hW]; simp
  clear hW
  have hrow : W0.ownsRow lo 57 9 (.slice a1 L.length c1) L.length (irow L P).flatten := by
    have := (H.out.below b0 (Nat.le_refl _)).row.1
    rw [irow_len hPl] at this
    exact this
  refine (cloneIt _ L.length _ lo _ hrow (irow_one H.out) hL).mono ?_
  clear hrow
  rintro e w1 ⟨u, rfl, S1, hb1⟩
  obtain ⟨p1, q1, hu⟩ := row_formA S1
  subst hu
  have b1 : Below w.heap.size w w1 := b0.trans (hb1.mono b0.size)
  have z1 := hb1.size
  have HA1 : Hid _ := HA0.out.below hb1
  have HZ1 : Hid _ := HZ0.out.below hb1
  have HI1 : Hid (ItsP w1 lo (.slice p1 L.length q1) L P) := by
    have hk := H.out.below b1 (Nat.le_refl _)
    refine ⟨hPl, ⟨?_, irow_nine L P⟩, hk.str, hk.vds, hk.d1, hk.d2⟩
    rw [irow_len hPl]
    exact row_le S1 (by omega)
  have HVO : Hid (∀ g, (Value.slice p1 L.length q1).ownBlock = some g → w.heap.size + 2 ≤ g) := fun g hg => by have := (row_lt S1 g hg).1; omega
  clear hb1 HA0 HZ0 b0 S1
  go_wp2_with fail
  go_loopw [10] (fun iv wr => ∃ (k : Nat) (Q : List (Value × Value)), k ≤ L.length ∧ iv = .int .i64 k ∧ Hid (ItsP wr lo (.slice p1 L.length q1) L Q) ∧ Hid (Cpy (w.heap.size + 2) k P Q) ∧ Hid (Blk w.heap.size #[.slice a1 L.length c1, .int .i64 nx] wr) ∧ Hid (Blk (w.heap.size + 1) #[.slice none 0 0, .int .i64 0] wr) ∧ Hid (Below w.heap.size w wr) ∧ w.heap.size + 2 ≤ wr.heap.size) (fun iv _ => L.length - (intOf iv).toNat)
  case atStart => exact ⟨0, P, Nat.zero_le _, rfl, HI1, ⟨fun j _ hj => absurd hj (Nat.not_lt_zero _), fun _ _ _ _ => rfl⟩, HA1, HZ1, b1, by omega⟩
  case round =>
    obtain ⟨k, Q, hk, rfl, HI, HC, HA, HZ, HB, hzr⟩ := hrel
    by_cases hlt : k < L.length
    · obtain ⟨g1, rfl⟩ : ∃ g, p1 = some ⟨g, 0, none⟩ := by
        rcases HI.out.row.cases with ⟨_, hL0⟩ | ⟨g, cap, hv, hs⟩
        · have := congrArg List.length hL0; rw [irow_len HI.out.len] at this; simp only [List.length_nil] at this; omega
        · injection hv with h1; exact ⟨g, h1⟩
      have hglo : w.heap.size + 2 ≤ g1 := HVO.out g1 rfl
      have hQl := HI.out.len
      have hg1 : g1 < wr.heap.size := HI.out.row.at.1.lt
      have hQk : Q[k]'(by omega) = P[k]'(by omega) := HC.out.old k (by omega) (by omega) (Nat.le_refl _)
      obtain ⟨x0, x1, x2, x3, x4, x5, x6, x7, x8⟩ := HI.out.cells k hlt
      have hS := HI.out.str k hlt
      have hV := HI.out.vds k hlt
      obtain ⟨p3, q3, e1⟩ := strs_formR hS
      obtain ⟨p5, q5, e2⟩ := vds_form hV
      have hsm := HS.out L[k] (List.getElem_mem _)
      rw [e1] at x3 hS
      rw [e2] at x5 hV
      have HS1 : Hid (Strs wr lo (.slice p3 L[k].R.length q3) L[k].R) := hS
      have HV1 : Hid (Vds wr lo (.slice p5 L[k].V.length q5) L[k].V) := hV
      have m1 : L[k].R.length ≤ 1048576 := hsm.2.2.1
      have m2 : L[k].V.length ≤ 1048576 := hsm.2.2.2.2.1
      have HE : Hid ((Q[k]'(by omega)).2 = .slice p5 L[k].V.length q5) := e2
      clear hS hV hsm e1 e2 hQk
      obtain ⟨X, HX⟩ : ∃ X, Hid (L[k] = X) := ⟨L[k], rfl⟩
      rw [HX.out] at x0 x1 x2 x3 x4 x5 x6 x7 x8 HS1 HV1 m1 m2 HE
      have k1 : (0 : Int) ≤ (k : Int) := by omega
      have k2 : (k : Int) < (L.length : Int) := by omega
      go_wp2_with fail
      refine (implCopyMsg X.id X.born X.fr X.bo X.R _ lo _ HS1.out m1).mono ?_
      rintro e w2 ⟨⟨u1, rfl, S2⟩, hb2⟩
      obtain ⟨s1, t1, hu1⟩ := row_formA S2
      subst hu1
      have BW2 : Hid (Below w.heap.size w w2) := HB.out.trans (hb2.mono HB.out.size)
      have HI2 : Hid (ItsP w2 lo (.slice (some ⟨g1, 0, none⟩) L.length q1) L Q) := HI.out.below hb2 (Nat.le_refl _)
      have HA2 : Hid _ := HA.out.below hb2
      have HZ2 : Hid _ := HZ.out.below hb2
      have HU2 : Hid (Strs w2 wr.heap.size (.slice s1 X.R.length t1) X.R) := S2
      have HV2 : Hid (Vds w2 lo (.slice p5 X.V.length q5) X.V) := vds_below HV1.out hb2 (Nat.le_refl _)
      have z2 := hb2.size
      have hPQ := PB.of HI.out
      have HPQ : Hid (PB wr.heap.size Q) := hPQ
      clear hb2 S2 HI HA HZ hPQ x0 x1 x2 x3 x4 x5 x6 x7 x8 HV1 HS1
      have hg2 : g1 < w2.heap.size := by omega
      obtain ⟨x0, x1, x2, x3, x4, x5, x6, x7, x8⟩ := HI2.out.cells k hlt
      rw [HE.out] at x5
      rw [HX.out] at x0 x1 x2 x4 x6 x7 x8
      have fz : ∀ o, w2.frozen? ⟨g1, o, none⟩ = false := HI2.out.row.at.1.free
      obtain ⟨y3, hy3⟩ : ∃ y, (Q[k]'(by omega)).1 = y := ⟨_, rfl⟩
      rw [hy3] at x3
      go_wp2_with fail
      generalize hW : World.setCell (World.setCell (World.setCell (World.setCell (World.setCell w2 _ _) _ _) _ _) _ _) _ _ = W3
      have hu1 : ∀ a, (Value.slice s1 X.R.length t1).ownBlock = some a → ∀ j (hj : j < Q.length), j ≠ k → Q[j].1.ownBlock ≠ some a := fun a ha j hj _ e => by
        have h1 := (row_lt HU2.out a ha).1
        have h2 := (HPQ.out _ (List.getElem_mem hj)).1 a e
        omega
      have HI3 : Hid (ItsP W3 lo (.slice (some ⟨g1, 0, none⟩) L.length q1) L (Q.set k (.slice s1 X.R.length t1, .slice p5 X.V.length q5))) := by
        show ItsP _ _ _ _ _
        rw [← hW]
        have s0 := HI2.out.same hlt (i := 0) (by decide) (.int .i64 X.id) (by rw [HX.out]; rfl)
        have s1' := s0.same hlt (i := 1) (by decide) (.int .i64 X.born) (by rw [HX.out]; rfl)
        have s2' := s1'.same hlt (i := 2) (by decide) (.string X.fr) (by rw [HX.out]; rfl)
        have hstr : Strs (((w2.setCell ⟨g1, k * 9 + 0, none⟩ (.int .i64 X.id)).setCell ⟨g1, k * 9 + 1, none⟩ (.int .i64 X.born)).setCell ⟨g1, k * 9 + 2, none⟩ (.string X.fr)) lo (.slice s1 X.R.length t1) L[k].R := by
          rw [HX.out]
          exact row_le (row_setA (row_setA (row_setA HU2.out (a := ⟨g1, k * 9 + 0, none⟩) (by show g1 < _; omega) (.int .i64 X.id)) (a := ⟨g1, k * 9 + 1, none⟩) (by show g1 < _; omega) (.int .i64 X.born)) (a := ⟨g1, k * 9 + 2, none⟩) (by show g1 < _; omega) (.string X.fr)) (by omega)
        have s3 := s2'.ptr1 hlt _ hstr hu1
        rw [HE.out] at s3
        exact s3.same hlt (i := 4) (by decide) (.string X.bo) (by rw [HX.out]; rfl)
      have BW3 : Hid (Below w.heap.size w W3) := by
        show Below _ _ _
        rw [← hW]
        repeat (refine Below.setCell ?_ (by dsimp only; omega) _)
        exact BW2.out
      have HA3 : Hid (Blk w.heap.size #[.slice a1 L.length c1, .int .i64 nx] W3) := by show Blk _ _ _; rw [← hW]; exact ((((HA2.out.other (by omega)).other (by omega)).other (by omega)).other (by omega)).other (by omega)
      have HZ3 : Hid (Blk (w.heap.size + 1) #[.slice none 0 0, .int .i64 0] W3) := by show Blk _ _ _; rw [← hW]; exact ((((HZ2.out.other (by omega)).other (by omega)).other (by omega)).other (by omega)).other (by omega)
      have z3 : w2.heap.size = W3.heap.size := by rw [← hW]; simp
      clear hW hu1 HA2 HZ2 x0 x1 x2 x3 x4 x5 x6 x7 x8 fz HI2 BW2
      have hV3 := HI3.out.vds k hlt
      rw [List.getElem_set_self, HX.out] at hV3
      have HV3 : Hid (Vds W3 lo (.slice p5 X.V.length q5) X.V) := hV3
      have HPB3 : Hid (PB W3.heap.size (Q.set k (.slice s1 X.R.length t1, .slice p5 X.V.length q5))) := PB.of HI3.out
      clear hV3
      refine (cloneVd _ X.V.length _ lo _ HV3.out (vrow_oneA _) m2).mono ?_
      rintro e w4 ⟨u2, rfl, S4, hb4⟩
      obtain ⟨s2, t2, hu2⟩ := row_formA S4
      subst hu2
      have HU4 : Hid (w4.ownsRow W3.heap.size 41 3 (.slice s2 X.V.length t2) X.V.length (vrow X.V)) := S4
      have BW4 : Hid (Below w.heap.size w w4) := BW3.out.trans (hb4.mono BW3.out.size)
      have HI4 : Hid (ItsP w4 lo (.slice (some ⟨g1, 0, none⟩) L.length q1) L (Q.set k (.slice s1 X.R.length t1, .slice p5 X.V.length q5))) := HI3.out.below hb4 (Nat.le_refl _)
      have HA4 : Hid _ := HA3.out.below hb4
      have HZ4 : Hid _ := HZ3.out.below hb4
      have z4 := hb4.size
      have HU1 : Hid (∀ a, (Value.slice s1 X.R.length t1).ownBlock = some a → w.heap.size + 2 ≤ a) := fun a ha => by have := (row_lt HU2.out a ha).1; have := HB.out.size; omega
      clear hb4 S4 HI3 HA3 HZ3 BW3 HV3 HU2
      obtain ⟨x0, x1, x2, x3, x4, x5, x6, x7, x8⟩ := HI4.out.cells k hlt
      simp only [List.getElem_set_self] at x5
      have fz : ∀ o, w4.frozen? ⟨g1, o, none⟩ = false := HI4.out.row.at.1.free
      clear x0 x1 x2 x3 x4 x6 x7 x8
      go_wp2
      go_roundw
      case rel =>
        have hQs : (Q.set k (.slice s1 X.R.length t1, .slice p5 X.V.length q5)).length = Q.length := by simp
        have hvds : Vds w4 lo (.slice s2 X.V.length t2) L[k].V := by rw [HX.out]; exact row_le HU4.out (by have := BW4.out.size; omega)
        have s5 := HI4.out.ptr2 hlt (.slice s2 X.V.length t2) hvds (fun a ha j hj _ e => by
          have h1 := (row_lt HU4.out a ha).1
          have h2 := (HPB3.out _ (List.getElem_mem hj)).2 a e
          omega)
        rw [List.getElem_set_self, List.set_set] at s5
        refine ⟨k + 1, _, by omega, by go_num, s5, HC.out.step _ HU1.out (fun a ha => ?_), HA4.out.other (by omega), HZ4.out.other (by omega), BW4.out.setCell (by show _ ≤ g1; omega) _, by simp; omega⟩
        have h1 := (row_lt HU4.out a ha).1
        have := HB.out.size
        omega
      case measure => simp [intOf]; omega
    · obtain rfl : k = L.length := by omega
      have o0 : wr.cell? ⟨w.heap.size, 0, none⟩ = some (.slice a1 L.length c1) := HA.out.cell 0
      have o1 : wr.cell? ⟨w.heap.size, 1, none⟩ = some (.int .i64 nx) := HA.out.cell 1
      have f0 := HA.out.free 0
      have r0 : wr.cell? ⟨w.heap.size + 1, 0, none⟩ = some (.slice none 0 0) := HZ.out.cell 0
      have r1 : wr.cell? ⟨w.heap.size + 1, 1, none⟩ = some (.int .i64 0) := HZ.out.cell 1
      have g0 := HZ.out.free 0
      have g1 := HZ.out.free 1
      have HF : Hid (ItsP wr (w.heap.size + 2) (.slice p1 L.length q1) L Q) := HI.out.raise HVO.out (fun p hp => by
        obtain ⟨j, hj, rfl⟩ := List.getElem_of_mem hp
        exact HC.out.new j hj (by have := HI.out.len; omega))
      clear HA HZ
      go_wp2
      refine bodyPost_ret (v := .agg #[.slice p1 L.length q1, .int .i64 nx]) (by simp [results, Tryz.results27, go_sem, r0, r1]) rfl ?_
      refine ⟨⟨_, Q, rfl, ?_⟩, ?_⟩
      · refine ItsP.le ?_ (Nat.le_add_right _ 2)
        repeat (refine ItsP.setB ?_ (by dsimp only; omega) _)
        exact HF.out
      · repeat (refine Below.setCell ?_ (by dsimp only; omega) _)
        exact HB.out
end Go.Proofs.YtlolnfpfipnfeaaGreat
namespace Go.Proofs.YtlolnfpfipnfeaaGreat
open Go.ChangeShapes Go.WideShapes Go.ChangeAt Go.RowKit
attribute [local go_sem ↓] Go.wp_at_zero Go.wp_at_succ

set_option maxHeartbeats 1000000 in
set_option maxRecDepth 100000 in
theorem implPend (v : Vd) (w : World) : Calls Tryz.prog 137 #[.agg #[.int .i64 v.1, .int .i64 v.2.1, .string v.2.2]] w fun e w' => e = .returned (.bool (v.1 == 0 || v.1 == 2)) ∧ Below w.heap.size w w' := by
  by_cases c0 : v.1 = 0
  · rw [show (v.1 == 0 || v.1 == 2) = true by simp [c0]]
    go_enter Tryz.func137, Tryz.ntmps137
    go_wp2
    go_ret
    exact ⟨rfl, below1 _ _⟩
  · go_enter Tryz.func137, Tryz.ntmps137
    go_wp2
    go_ret
    exact ⟨rfl, below1 _ _⟩

set_option maxHeartbeats 1000000 in
set_option maxRecDepth 100000 in
theorem cloId (X : It) (a1 a2 : Option Addr) (n1 n2 c1 c2 bi : Nat) (id : Int) (w : World) (hb : bi < w.heap.size) (hc : w.cell? ⟨bi, 0, none⟩ = some (.int .i64 id)) :
    Calls Tryz.prog 142 #[.agg #[.int .i64 X.id, .int .i64 X.born, .string X.fr, .slice a1 n1 c1, .string X.bo, .slice a2 n2 c2, .int .i64 X.tr, .int .i64 X.du, .bool X.bn], .pointer (some ⟨bi, 0, none⟩)] w fun e w' => e = .returned (.bool (X.id == id)) ∧ Below w.heap.size w w' := by
  go_enter Tryz.func142, Tryz.ntmps142
  go_wp2
  go_ret
  exact ⟨rfl, below1 _ _⟩

set_option maxHeartbeats 4000000 in
set_option maxRecDepth 100000 in
theorem idxIts (v : Value) (L : List It) (P : List (Value × Value)) (lo bi : Nat) (id : Int) (w : World) (h : ItsP w lo v L P) (hL : L.length ≤ 1048576) (hb : bi < w.heap.size) (hc : w.cell? ⟨bi, 0, none⟩ = some (.int .i64 id)) :
    Calls Tryz.prog 141 #[v, .func (.func 142) #[] #[.pointer (some ⟨bi, 0, none⟩)]] w fun e w' => e = .returned (.int .i64 (placeI id L)) ∧ Below w.heap.size w w' := by
  obtain ⟨a1, c1, rfl⟩ := h.form
  have H : Hid (ItsP w lo (.slice a1 L.length c1) L P) := h
  have HBI : Hid (bi < w.heap.size) := hb
  have HCI : Hid (w.cell? ⟨bi, 0, none⟩ = some (.int .i64 id)) := hc
  clear h hb hc
  go_enter Tryz.func141, Tryz.ntmps141
  go_wp2_with fail
  go_loopw [8] (fun iv wr => ∃ k : Nat, k ≤ L.length ∧ iv = .int .i64 k ∧ Hid (findI id L 0 = findI id (L.drop k) k) ∧ Hid (Below w.heap.size w wr)) (fun iv _ => L.length - (intOf iv).toNat)
  case atStart => exact ⟨0, Nat.zero_le _, rfl, rfl, Below.refl _ _⟩
  case round =>
    obtain ⟨k, hk, rfl, HF, HB⟩ := hrel
    by_cases hlt : k < L.length
    · obtain ⟨g1, rfl, hg1⟩ : ∃ g, a1 = some ⟨g, 0, none⟩ ∧ g < w.heap.size := by
        rcases H.out.row.cases with ⟨_, hL0⟩ | ⟨g, cap, hv, hs⟩
        · have := congrArg List.length hL0; rw [irow_len H.out.len] at this; simp only [List.length_nil] at this; omega
        · injection hv with h1; exact ⟨g, h1, hs.lt⟩
      obtain ⟨x0, x1, x2, x3, x4, x5, x6, x7, x8⟩ := (H.out.cells k hlt).below HB.out hg1
      obtain ⟨p1, q1, e1⟩ := strs_formR (H.out.str k hlt)
      obtain ⟨p2, q2, e2⟩ := vds_form (H.out.vds k hlt)
      rw [e1] at x3
      rw [e2] at x5
      clear e1 e2
      have HN : Hid (L[k].id ≠ id → findI id L 0 = findI id (L.drop (k + 1)) (k + 1)) := fun h => HF.out.trans (find_no hlt h)
      have HY : Hid (L[k].id = id → findI id L 0 = some k) := fun h => HF.out.trans (find_yes hlt h)
      generalize L[k] = X at *
      have k1 : (0 : Int) ≤ (k : Int) := by omega
      have k2 : (k : Int) < (L.length : Int) := by omega
      have hci := (HB.out.cell (p := ⟨bi, 0, none⟩) HBI.out).trans HCI.out
      have hbi : bi < wr.heap.size := Nat.lt_of_lt_of_le HBI.out HB.out.size
      have HCL : Hid (Calls Tryz.prog 142 #[.agg #[.int .i64 X.id, .int .i64 X.born, .string X.fr, .slice p1 X.R.length q1, .string X.bo, .slice p2 X.V.length q2, .int .i64 X.tr, .int .i64 X.du, .bool X.bn], .pointer (some ⟨bi, 0, none⟩)] wr fun e w' => e = .returned (.bool (X.id == id)) ∧ Below wr.heap.size wr w') := cloId X p1 p2 _ _ q1 q2 bi id wr hbi hci
      clear hci hbi
      go_wp2_with fail
      refine HCL.out.mono ?_
      rintro e w1 ⟨rfl, hb1⟩
      have B1 : Hid (Below w.heap.size w w1) := HB.out.trans (hb1.mono HB.out.size)
      clear hb1 x0 x1 x2 x3 x4 x5 x6 x7 x8 HCL
      by_cases hid : X.id = id
      · have hy := HY.out hid
        have HP : Hid (placeI id L = (k : Int)) := by show placeI id L = _; unfold placeI; rw [hy]
        have hb : (X.id == id) = true := beq_iff_eq.2 hid
        clear hy HY HN hid
        go_wp2
        go_ret
        rw [HP.out]
        exact ⟨rfl, B1.out⟩
      · have HN2 : Hid (findI id L 0 = findI id (L.drop (k + 1)) (k + 1)) := HN.out hid
        have hb : (X.id == id) = false := beq_eq_false_iff_ne.2 hid
        clear HY HN hid
        go_wp2
        go_roundw
        case rel => exact ⟨k + 1, by omega, by go_num, HN2, B1⟩
        case measure => simp [intOf]; omega
    · obtain rfl : k = L.length := by omega
      have HP : Hid (placeI id L = -1) := by
        have h1 := HF.out
        rw [List.drop_length] at h1
        show placeI id L = _
        unfold placeI
        rw [h1]; rfl
      clear HF
      go_wp2
      go_ret
      rw [HP.out]
      exact ⟨rfl, HB.out⟩

set_option maxHeartbeats 2000000 in
set_option maxRecDepth 100000 in
theorem implPlace (b : Nat) (v : Value) (nx id : Int) (L : List It) (P : List (Value × Value)) (lo : Nat) (w : World) (hB : Blk b #[v, .int .i64 nx] w) (h : ItsP w lo v L P) (hL : L.length ≤ 1048576) :
    Calls Tryz.prog 139 #[.pointer (some ⟨b, 0, none⟩), .int .i64 id] w fun e w' => e = .returned (.int .i64 (placeI id L)) ∧ Below w.heap.size w w' := by
  obtain ⟨a1, c1, rfl⟩ := h.form
  have H : Hid (ItsP w lo (.slice a1 L.length c1) L P) := h
  have y0 : w.cell? ⟨b, 0, none⟩ = some (.slice a1 L.length c1) := hB.cell 0
  have lb := hB.lt
  clear h hB
  go_enter Tryz.func139, Tryz.ntmps139
  go_wp2_with fail
  generalize hW : World.alloc _ _ = W0
  have HA0 : Hid (Blk w.heap.size #[.int .i64 id] W0) := by show Blk _ _ _; rw [← hW]; exact Blk.new w _ _
  have b0 : Below w.heap.size w W0 := by rw [← hW]; exact below1 _ _
  clear hW
  refine (idxIts _ L P lo w.heap.size id _ (H.out.below b0 (Nat.le_refl _)) hL HA0.out.lt (HA0.out.cell 0)).mono ?_
  rintro e w1 ⟨rfl, hb1⟩
  go_wp2
  go_ret
  exact ⟨rfl, b0.trans (hb1.mono b0.size)⟩

theorem placeI_some {id : Int} {L : List It} {i : Nat} (h : findI id L 0 = some i) : placeI id L = (i : Int) ∧ ∃ hi : i < L.length, L[i].id = id := by
  obtain ⟨h1, h2, h3⟩ := findI_some h
  refine ⟨by unfold placeI; rw [h], by omega, ?_⟩
  simpa using h3
theorem placeI_none {id : Int} {L : List It} (h : findI id L 0 = none) : placeI id L = -1 := by unfold placeI; rw [h]

set_option maxHeartbeats 2000000 in
set_option maxRecDepth 100000 in
theorem implItemNo (b : Nat) (v : Value) (nx id : Int) (L : List It) (P : List (Value × Value)) (lo : Nat) (w : World) (hB : Blk b #[v, .int .i64 nx] w) (h : ItsP w lo v L P) (hL : L.length ≤ 1048576) (hf : findI id L 0 = none) :
    Calls Tryz.prog 136 #[.pointer (some ⟨b, 0, none⟩), .int .i64 id] w fun e w' => e = .returned (.pointer none) ∧ Below w.heap.size w w' := by
  have HP : Hid (placeI id L = -1) := placeI_none hf
  have HC : Hid (Calls Tryz.prog 139 #[.pointer (some ⟨b, 0, none⟩), .int .i64 id] w fun e w' => e = .returned (.int .i64 (placeI id L)) ∧ Below w.heap.size w w') := implPlace b v nx id L P lo w hB h hL
  clear hB h hf
  go_enter Tryz.func136, Tryz.ntmps136
  go_wp2_with fail
  refine HC.out.mono ?_
  rw [HP.out]
  rintro e w1 ⟨rfl, hb1⟩
  go_wp2
  go_ret
  exact ⟨rfl, hb1⟩

set_option maxHeartbeats 2000000 in
set_option maxRecDepth 100000 in
theorem implItemYes (b g cap i : Nat) (nx id : Int) (L : List It) (P : List (Value × Value)) (lo : Nat) (w : World) (hB : Blk b #[.slice (some ⟨g, 0, none⟩) L.length cap, .int .i64 nx] w) (h : ItsP w lo (.slice (some ⟨g, 0, none⟩) L.length cap) L P) (hL : L.length ≤ 1048576) (hf : findI id L 0 = some i) :
    Calls Tryz.prog 136 #[.pointer (some ⟨b, 0, none⟩), .int .i64 id] w fun e w' => e = .returned (.pointer (some ⟨g, i * 9, none⟩)) ∧ Below w.heap.size w w' := by
  obtain ⟨hp, hi, _⟩ := placeI_some hf
  have HP : Hid (placeI id L = (i : Int)) := hp
  have HC : Hid (Calls Tryz.prog 139 #[.pointer (some ⟨b, 0, none⟩), .int .i64 id] w fun e w' => e = .returned (.int .i64 (placeI id L)) ∧ Below w.heap.size w w') := implPlace b _ nx id L P lo w hB h hL
  have HB : Hid (Blk b #[.slice (some ⟨g, 0, none⟩) L.length cap, .int .i64 nx] w) := hB
  clear hB h hf hp
  have k1 : (0 : Int) ≤ (i : Int) := by omega
  have k2 : (i : Int) < (L.length : Int) := by omega
  have k3 : ¬ (i : Int) < 0 := by omega
  go_enter Tryz.func136, Tryz.ntmps136
  go_wp2_with fail
  refine HC.out.mono ?_
  rw [HP.out]
  rintro e w1 ⟨rfl, hb1⟩
  have y0 : w1.cell? ⟨b, 0, none⟩ = some (.slice (some ⟨g, 0, none⟩) L.length cap) := (HB.out.below hb1).cell 0
  go_wp2
  go_ret
  exact ⟨rfl, hb1⟩

set_option maxHeartbeats 4000000 in
set_option maxRecDepth 100000 in
theorem idxVds (v : Value) (V : List Vd) (lo : Nat) (w : World) (h : Vds w lo v V) (hL : V.length ≤ 1048576) :
    Calls Tryz.prog 157 #[v, .func (.func 137) #[] #[]] w fun e w' => (∃ r : Int, e = .returned (.int .i64 r) ∧ decide (0 ≤ r) = V.any pend) ∧ Below w.heap.size w w' := by
  obtain ⟨a1, c1, rfl⟩ := row_formA h
  have H : Hid (Vds w lo (.slice a1 V.length c1) V) := h
  clear h
  go_enter Tryz.func157, Tryz.ntmps157
  go_wp2_with fail
  go_loopw [8] (fun iv wr => ∃ k : Nat, k ≤ V.length ∧ iv = .int .i64 k ∧ Hid (V.any pend = (V.drop k).any pend) ∧ Hid (Below w.heap.size w wr)) (fun iv _ => V.length - (intOf iv).toNat)
  case atStart => exact ⟨0, Nat.zero_le _, rfl, rfl, Below.refl _ _⟩
  case round =>
    obtain ⟨k, hk, rfl, HF, HB⟩ := hrel
    by_cases hlt : k < V.length
    · obtain ⟨g1, rfl, hg1, hC⟩ : ∃ g, a1 = some ⟨g, 0, none⟩ ∧ g < w.heap.size ∧ VdsAt w lo g c1 V := by
        rcases H.out.cases with ⟨_, hL0⟩ | ⟨g, cap, hv, hs⟩
        · rw [hL0] at hlt; exact absurd hlt (Nat.not_lt_zero _)
        · injection hv with h1 h2 h3; subst h3; exact ⟨g, h1, hs.lt, hs⟩
      obtain ⟨y0, y1, y2⟩ := hC.cell k hlt
      have x0 := (HB.out.cell (p := ⟨g1, k * 3, none⟩) hg1).trans y0
      have x1 := (HB.out.cell (p := ⟨g1, k * 3 + 1, none⟩) hg1).trans y1
      have x2 := (HB.out.cell (p := ⟨g1, k * 3 + 2, none⟩) hg1).trans y2
      have HN : Hid (pend V[k] = false → V.any pend = (V.drop (k + 1)).any pend) := fun h => HF.out.trans (any_no hlt h)
      have HY : Hid (pend V[k] = true → V.any pend = true) := fun h => HF.out.trans (any_yes hlt h)
      clear y0 y1 y2 hC
      generalize V[k] = X at *
      obtain ⟨X1, X2, X3⟩ := X
      dsimp only at x0 x1 x2
      have k1 : (0 : Int) ≤ (k : Int) := by omega
      have k2 : (k : Int) < (V.length : Int) := by omega
      go_wp2_with fail
      refine (implPend (X1, X2, X3) _).mono ?_
      rintro e w1 ⟨rfl, hb1⟩
      have B1 : Hid (Below w.heap.size w w1) := HB.out.trans (hb1.mono HB.out.size)
      clear hb1 x0 x1 x2
      cases hp : pend (X1, X2, X3)
      · have HN3 : Hid (V.any pend = (V.drop (k + 1)).any pend) := HN.out hp
        have hp2 : (X1 == 0 || X1 == 2) = false := hp
        clear HN HY hp
        go_wp2
        go_roundw
        case rel => exact ⟨k + 1, by omega, by go_num, HN3, B1⟩
        case measure => simp [intOf]; omega
      · have HY3 : Hid (V.any pend = true) := HY.out hp
        have hp2 : (X1 == 0 || X1 == 2) = true := hp
        clear HN HY hp
        go_wp2
        go_ret
        exact ⟨⟨_, rfl, by rw [HY3.out]; simp⟩, B1.out⟩
    · obtain rfl : k = V.length := by omega
      have HP : Hid (V.any pend = false) := by
        have h1 := HF.out
        rw [List.drop_length] at h1
        exact h1
      clear HF
      go_wp2
      go_ret
      exact ⟨⟨_, rfl, by rw [HP.out]; rfl⟩, HB.out⟩

set_option maxHeartbeats 2000000 in
set_option maxRecDepth 100000 in
theorem implAnyP (v : Value) (V : List Vd) (lo : Nat) (w : World) (h : Vds w lo v V) (hL : V.length ≤ 1048576) :
    Calls Tryz.prog 155 #[v, .func (.func 137) #[] #[]] w fun e w' => e = .returned (.bool (V.any pend)) ∧ Below w.heap.size w w' := by
  obtain ⟨a1, c1, rfl⟩ := row_formA h
  have HC : Hid (Calls Tryz.prog 157 #[.slice a1 V.length c1, .func (.func 137) #[] #[]] w fun e w' => (∃ r : Int, e = .returned (.int .i64 r) ∧ decide (0 ≤ r) = V.any pend) ∧ Below w.heap.size w w') := idxVds _ V lo w h hL
  clear h
  go_enter Tryz.func155, Tryz.ntmps155
  go_wp2_with fail
  refine HC.out.mono ?_
  rintro e w1 ⟨⟨r, rfl, hr⟩, hb1⟩
  have HR : Hid (decide (0 ≤ r) = V.any pend) := hr
  clear hr
  go_wp2
  go_ret
  exact ⟨ret_bool HR.out, hb1⟩
end Go.Proofs.YtlolnfpfipnfeaaGreat
