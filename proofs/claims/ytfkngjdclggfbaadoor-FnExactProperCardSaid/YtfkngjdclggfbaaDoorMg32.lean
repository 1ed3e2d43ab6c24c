import Derived.Test.YtfkngjdclggfbaaDoorMg30
import Derived.Test.YtfkngjdclggfbaaDoorMg31
import Derived.Test.YtfkngjdclggfbaaDoorCards
import Derived.Test.YtfkngjdclggfbaaDoorTie
import Derived.Test.YtfkngjdclggfbaaDoorMg1
import Derived.Test.YtfkngjdclggfbaaDoorMg10
import Derived.Deep.DeepHandedRow
import Derived.Lay
import Derived.HandedShaped
namespace Go.Proofs.YtfkngjdclggfbaaDoor
open Go.ChangeShapes Go.WideShapes Go.ChangeAt Go.RowKit
attribute [local go_sem ↓] Go.wp_at_zero Go.wp_at_succ

set_option maxHeartbeats 4000000 in
set_option maxRecDepth 100000 in
theorem properLaw (ph nx : Int) (buf he fr bo : ByteArray) (v5 v7 v8 : Value) (R : List ByteArray) (T : List Bool) (V : List Vd) (w : World) (h5 : ArgS w v5 R) (h7 : ArgB w v7 T) (h8 : ArgV w v8 V) (m1 : buf.size ≤ maxLen) (m2 : he.size ≤ maxLen) (m3 : fr.size ≤ maxLen) (m4 : bo.size ≤ maxLen) (hl : LenIn w) :
    Calls Tryd.prog 4 #[.agg #[.int .i64 ph, .string buf, .string he, .string fr, .string bo, v5, .int .i64 nx, v7, v8]] w fun e w' => e = .returned (.bool true) ∧ Below w.heap.size w w' := by
  have HL : Hid (LenIn w) := hl
  have H5 : Hid (ArgS w v5 R) := h5
  have H7 : Hid (ArgB w v7 T) := h7
  have H8 : Hid (ArgV w v8 V) := h8
  have HM : Hid (buf.size ≤ maxLen ∧ he.size ≤ maxLen ∧ fr.size ≤ maxLen ∧ bo.size ≤ maxLen) := ⟨m1, m2, m3, m4⟩
  obtain ⟨a5, c5, rfl⟩ := h5.form
  obtain ⟨a7, c7, rfl⟩ := h7.form
  obtain ⟨a8, c8, rfl⟩ := h8.form
  clear h5 h7 h8 hl m1 m2 m3 m4
  go_enter Tryd.func4, Tryd.ntmps4
  go_wp2_with fail
  generalize hW : w.alloc _ = W
  have hA : Hid (Blk w.heap.size #[.int .i64 ph, .string buf, .string he, .string fr, .string bo, .slice a5 R.length c5, .int .i64 nx, .slice a7 T.length c7, .slice a8 V.length c8] W) := by show Blk _ _ _; rw [← hW]; exact Blk.new w _ _
  have bw : Below w.heap.size w W := by rw [← hW]; exact below1 _ _
  clear hW
  refine (szSess ph nx buf he fr bo _ _ _ R T V _ (H5.out.below bw) (H7.out.below bw) (H8.out.below bw) HM.out.1 HM.out.2.1 HM.out.2.2.1 HM.out.2.2.2).mono ?_
  rintro e w1 ⟨⟨r, rfl, hr⟩, hb1⟩
  have b1 : Below w.heap.size w w1 := bw.trans (hb1.mono bw.size)
  have hA1 : Hid _ := hA.out.below hb1
  clear hb1 hA bw
  by_cases hr0 : r < 0
  · go_wp2
    go_ret
    exact ⟨rfl, b1⟩
  have HSM : Hid (Small9 buf he fr bo R T V) := (hr.resolve_left hr0).2.2
  clear hr HM
  have mR : R.length ≤ 1048576 := HSM.out.2.2.2.2.1
  have mT : T.length ≤ 1048576 := HSM.out.2.2.2.2.2.2.1
  have mV : V.length ≤ 1048576 := HSM.out.2.2.2.2.2.2.2.1
  have x0 : w1.cell? ⟨w.heap.size, 0, none⟩ = some (.int .i64 ph) := hA1.out.cell 0
  have x1 : w1.cell? ⟨w.heap.size, 1, none⟩ = some (.string buf) := hA1.out.cell 1
  have x2 : w1.cell? ⟨w.heap.size, 2, none⟩ = some (.string he) := hA1.out.cell 2
  have x3 : w1.cell? ⟨w.heap.size, 3, none⟩ = some (.string fr) := hA1.out.cell 3
  have x4 : w1.cell? ⟨w.heap.size, 4, none⟩ = some (.string bo) := hA1.out.cell 4
  have x5 : w1.cell? ⟨w.heap.size, 5, none⟩ = some (.slice a5 R.length c5) := hA1.out.cell 5
  have x6 : w1.cell? ⟨w.heap.size, 6, none⟩ = some (.int .i64 nx) := hA1.out.cell 6
  have x7 : w1.cell? ⟨w.heap.size, 7, none⟩ = some (.slice a7 T.length c7) := hA1.out.cell 7
  have x8 : w1.cell? ⟨w.heap.size, 8, none⟩ = some (.slice a8 V.length c8) := hA1.out.cell 8
  go_wp2_with fail
  refine (toSess ph nx buf he fr bo _ _ _ R T V _ (H5.out.below b1) (H7.out.below b1) (H8.out.below b1) mR mT mV).mono ?_
  rintro e w2 ⟨⟨u1, u2, u3, rfl, ⟨r1, r2, r3⟩, _⟩, hb2⟩
  have b2 : Below w.heap.size w w2 := b1.trans (hb2.mono b1.size)
  have hA2 : Hid _ := hA1.out.below hb2
  clear hb2 hA1 b1 x0 x1 x2 x3 x4 x5 x6 x7 x8
  go_wp2_with fail
  refine (specProper ph nx buf he fr bo _ _ _ R T V _ _ r1 r2 r3 HSM.out).mono ?_
  rintro e w3 ⟨rfl, hb3⟩
  have b3 : Below w.heap.size w w3 := b2.trans (hb3.mono b2.size)
  have hA3 : Hid _ := hA2.out.below hb3
  generalize hPN : properN ph nx buf he fr bo R T V = PN
  have HPN : Hid (properN ph nx buf he fr bo R T V = PN) := hPN
  clear hb3 hA2 b2 r1 r2 r3 hPN
  have x0 : w3.cell? ⟨w.heap.size, 0, none⟩ = some (.int .i64 ph) := hA3.out.cell 0
  have x1 : w3.cell? ⟨w.heap.size, 1, none⟩ = some (.string buf) := hA3.out.cell 1
  have x2 : w3.cell? ⟨w.heap.size, 2, none⟩ = some (.string he) := hA3.out.cell 2
  have x3 : w3.cell? ⟨w.heap.size, 3, none⟩ = some (.string fr) := hA3.out.cell 3
  have x4 : w3.cell? ⟨w.heap.size, 4, none⟩ = some (.string bo) := hA3.out.cell 4
  have x5 : w3.cell? ⟨w.heap.size, 5, none⟩ = some (.slice a5 R.length c5) := hA3.out.cell 5
  have x6 : w3.cell? ⟨w.heap.size, 6, none⟩ = some (.int .i64 nx) := hA3.out.cell 6
  have x7 : w3.cell? ⟨w.heap.size, 7, none⟩ = some (.slice a7 T.length c7) := hA3.out.cell 7
  have x8 : w3.cell? ⟨w.heap.size, 8, none⟩ = some (.slice a8 V.length c8) := hA3.out.cell 8
  go_wp2_with fail
  refine (toSess ph nx buf he fr bo _ _ _ R T V _ (H5.out.below b3) (H7.out.below b3) (H8.out.below b3) mR mT mV).mono ?_
  rintro e w4 ⟨⟨y1, y2, y3, rfl, ⟨r1, r2, r3⟩, _⟩, hb4⟩
  have b4 : Below w.heap.size w w4 := b3.trans (hb4.mono b3.size)
  have hA4 : Hid _ := hA3.out.below hb4
  obtain ⟨p1, q1, hu1⟩ := strs_form2 r1
  obtain ⟨p2, q2, hu2⟩ := bls_form r2
  obtain ⟨p3, q3, hu3⟩ := vds_form r3
  subst hu1 hu2 hu3
  have N0 := SesB.new (ph := ph) (nx := nx) (buf := buf) (he := he) (fr := fr) (bo := bo) r1 r2 r3
  have S0 : Hid _ := N0
  have hA4' : Hid _ := hA4.out.below (below1 w4 (.cells #[.int .i64 ph, .string buf, .string he, .string fr, .string bo, .slice p1 R.length q1, .int .i64 nx, .slice p2 T.length q2, .slice p3 V.length q3] 27))
  have b4' := b4.trans ((below1 w4 (.cells #[.int .i64 ph, .string buf, .string he, .string fr, .string bo, .slice p1 R.length q1, .int .i64 nx, .slice p2 T.length q2, .slice p3 V.length q3] 27)).mono b4.size)
  clear hb4 hA3 b3 x0 x1 x2 x3 x4 x5 x6 x7 x8 N0 r1 r2 r3
  go_wp2_with fail
  generalize hW4 : w4.alloc _ = W4 at *
  generalize w4.heap.size = B0 at *
  clear hW4 b4 hA4
  refine (implProper ph nx buf he fr bo _ _ _ R T V _ _ S0.out.s1 S0.out.s2 S0.out.s3 HSM.out (len_below HL.out b4')).mono ?_
  rw [HPN.out]
  rintro e w5 ⟨rfl, hb5⟩
  have b5 : Below w.heap.size w w5 := b4'.trans (hb5.mono b4'.size)
  have S5 : Hid _ := S0.out.below hb5
  have hA5 : Hid _ := hA4'.out.below hb5
  clear hb5 S0 hA4' b4'
  have x0 : w5.cell? ⟨w.heap.size, 0, none⟩ = some (.int .i64 ph) := hA5.out.cell 0
  have x1 : w5.cell? ⟨w.heap.size, 1, none⟩ = some (.string buf) := hA5.out.cell 1
  have x2 : w5.cell? ⟨w.heap.size, 2, none⟩ = some (.string he) := hA5.out.cell 2
  have x3 : w5.cell? ⟨w.heap.size, 3, none⟩ = some (.string fr) := hA5.out.cell 3
  have x4 : w5.cell? ⟨w.heap.size, 4, none⟩ = some (.string bo) := hA5.out.cell 4
  have x5 : w5.cell? ⟨w.heap.size, 5, none⟩ = some (.slice a5 R.length c5) := hA5.out.cell 5
  have x6 : w5.cell? ⟨w.heap.size, 6, none⟩ = some (.int .i64 nx) := hA5.out.cell 6
  have x7 : w5.cell? ⟨w.heap.size, 7, none⟩ = some (.slice a7 T.length c7) := hA5.out.cell 7
  have x8 : w5.cell? ⟨w.heap.size, 8, none⟩ = some (.slice a8 V.length c8) := hA5.out.cell 8
  obtain ⟨l0, d0, d1, d2, d3, d4, d5, d6, d7, d8, _, _, _⟩ := S5.out
  have HTS : Hid (∀ wx : World, Below w5.heap.size w5 wx → Calls Tryd.prog 16 #[.agg #[.int .i64 ph, .string buf, .string he, .string fr, .string bo, .slice a5 R.length c5, .int .i64 nx, .slice a7 T.length c7, .slice a8 V.length c8]] wx fun e w' => ∃ z1 o1 z2 o2 z3 o3, e = .returned (.agg #[.int .i64 ph, .string buf, .string he, .string fr, .string bo, .slice z1 R.length o1, .int .i64 nx, .slice z2 T.length o2, .slice z3 V.length o3]) ∧ (Strs w' wx.heap.size (.slice z1 R.length o1) R ∧ Bls w' wx.heap.size (.slice z2 T.length o2) T ∧ Vds w' wx.heap.size (.slice z3 V.length o3) V) ∧ (Below w5.heap.size w5 w')) := by
    intro wx hx
    have hbx : Below w.heap.size w wx := b5.trans (hx.mono b5.size)
    refine (toSess ph nx buf he fr bo _ _ _ R T V _ (H5.out.below hbx) (H7.out.below hbx) (H8.out.below hbx) mR mT mV).mono ?_
    rintro e w' ⟨⟨z1, z2, z3, rfl, ⟨r1, r2, r3⟩, _⟩, hb⟩
    obtain ⟨k1, o1, hu1⟩ := strs_form2 r1
    obtain ⟨k2, o2, hu2⟩ := bls_form r2
    obtain ⟨k3, o3, hu3⟩ := vds_form r3
    subst hu1 hu2 hu3
    exact ⟨k1, o1, k2, o2, k3, o3, rfl, ⟨r1, r2, r3⟩, hx.trans (hb.mono hx.size)⟩
  have HRW : Hid (∀ wx : World, Below w5.heap.size w5 wx → Strs wx _ (.slice p1 R.length q1) R ∧ Bls wx _ (.slice p2 T.length q2) T ∧ Vds wx _ (.slice p3 V.length q3) V) := fun wx hx => ⟨(S5.out.below hx).s1, (S5.out.below hx).s2, (S5.out.below hx).s3⟩
  have HCE : Hid (∀ wx : World, Below w5.heap.size w5 wx → wx.cell? ⟨B0, 0, none⟩ = some (.int .i64 ph) ∧ wx.cell? ⟨B0, 1, none⟩ = some (.string buf) ∧ wx.cell? ⟨B0, 2, none⟩ = some (.string he) ∧ wx.cell? ⟨B0, 3, none⟩ = some (.string fr) ∧ wx.cell? ⟨B0, 4, none⟩ = some (.string bo) ∧ wx.cell? ⟨B0, 5, none⟩ = some (.slice p1 R.length q1) ∧ wx.cell? ⟨B0, 6, none⟩ = some (.int .i64 nx) ∧ wx.cell? ⟨B0, 7, none⟩ = some (.slice p2 T.length q2) ∧ wx.cell? ⟨B0, 8, none⟩ = some (.slice p3 V.length q3)) := fun wx hx => by
    have h := S5.out.below hx
    exact ⟨h.c0, h.c1, h.c2, h.c3, h.c4, h.c5, h.c6, h.c7, h.c8⟩
  clear S5
  go_wp2_with fail
  go_region_with (first | (go_at_call 16; refine (HTS.out _ (by repeat (first | exact Below.refl _ _ | refine Below.drew ?_))).mono ?_; rintro e w6 ⟨z1, o1, z2, o2, z3, o3, rfl, R6, b56⟩; obtain ⟨g0, g1, g2, g3, g4, g5, g6, g7, g8⟩ := HCE.out w6 b56) | (go_at_call 9; refine (eqSess ph nx buf he fr bo _ _ _ _ _ _ R T V _ _ _ (HRW.out _ (by first | exact b56 | exact b56.drew)).1 (HRW.out _ (by first | exact b56 | exact b56.drew)).2.1 (HRW.out _ (by first | exact b56 | exact b56.drew)).2.2 R6.1 R6.2.1 R6.2.2).mono ?_; rintro e w7 ⟨rfl, hb7⟩))
  all_goals
    have b6 : Below w.heap.size w w6 := b5.trans (b56.mono b5.size)
    go_wp2
    go_ret
    exact ⟨rfl, by first | exact b6.trans (hb7.mono b6.size) | exact b6.drew.trans (hb7.mono b6.size)⟩
end Go.Proofs.YtfkngjdclggfbaaDoor
namespace Go.Proofs.YtfkngjdclggfbaaDoor
open Go.ChangeShapes Go.WideShapes Go.ChangeAt Go.RowKit
theorem lenIn {W : World} (h : W.ShapedOpen Tryd.prog) : LenIn W := by
  exact Tryd.laysM143.s1_3 W h
theorem read_of {α β γ : Type} {o : Option (α × β × γ)} {a : α} {b : β} (h : o.map (fun x => (x.1, x.2.1)) = some (a, b)) : ∃ c, o = some (a, b, c) := by
  obtain ⟨⟨a', b', c⟩, h1, h2⟩ := Option.map_eq_some_iff.1 h
  simp only [Prod.mk.injEq] at h2
  obtain ⟨rfl, rfl⟩ := h2
  exact ⟨c, h1⟩
end Go.Proofs.YtfkngjdclggfbaaDoor
