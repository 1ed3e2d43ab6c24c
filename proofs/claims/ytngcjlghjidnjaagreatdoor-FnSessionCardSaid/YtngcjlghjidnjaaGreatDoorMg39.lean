import Derived.Test.YtngcjlghjidnjaaGreatDoorMg38
import Derived.Test.YtngcjlghjidnjaaGreatDoorMg33
namespace Go.Proofs.YtngcjlghjidnjaaGreatDoor
open Go.ChangeShapes Go.WideShapes Go.ChangeAt Go.RowKit
attribute [local go_sem ↓] Go.wp_at_zero Go.wp_at_succ

theorem nine_ne {w : World} {lo : Nat} {u1 u2 u3 : Value} {s : Sn} (h : SV w lo u1 u2 u3 s) {b : Nat} (h1 : ∀ g, u1.ownBlock = some g → g ≠ b) (h2 : ∀ g, u2.ownBlock = some g → g ≠ b) (h3 : ∀ g, u3.ownBlock = some g → g ≠ b) (x0 x1 x2 x3 x4 x5 x6 x7 x8 : Value) : SV (nine w b x0 x1 x2 x3 x4 x5 x6 x7 x8) lo u1 u2 u3 s :=
  ((((((((h.set_ne (a := ⟨b, 0, none⟩) h1 h2 h3 x0).set_ne (a := ⟨b, 1, none⟩) h1 h2 h3 x1).set_ne (a := ⟨b, 2, none⟩) h1 h2 h3 x2).set_ne (a := ⟨b, 3, none⟩) h1 h2 h3 x3).set_ne (a := ⟨b, 4, none⟩) h1 h2 h3 x4).set_ne (a := ⟨b, 5, none⟩) h1 h2 h3 x5).set_ne (a := ⟨b, 6, none⟩) h1 h2 h3 x6).set_ne (a := ⟨b, 7, none⟩) h1 h2 h3 x7).set_ne (a := ⟨b, 8, none⟩) h1 h2 h3 x8
theorem sv_nil (w : World) (lo : Nat) : SV w lo (.slice none 0 0) (.slice none 0 0) (.slice none 0 0) snDone := ⟨⟨rfl, .inl ⟨rfl, rfl⟩⟩, ⟨rfl, .inl ⟨rfl, rfl⟩⟩, ⟨rfl, .inl ⟨rfl, rfl⟩⟩⟩

set_option maxHeartbeats 4000000 in
set_option maxRecDepth 100000 in
theorem implFeedNo (ph nx : Int) (buf he fr bo : ByteArray) (u1 u2 u3 : Value) (R : List ByteArray) (T : List Bool) (V : List Vd) (kind : Int) (d : ByteArray) (lo : Nat) (w : World) (s1 : Strs w lo u1 R) (s2 : Bls w lo u2 T) (s3 : Vds w lo u3 V) (hsm : Small9 buf he fr bo R T V) (hl : LenIn w) (hp : properN ph nx buf he fr bo R T V = false) :
    Calls Tryz.prog 10 #[.agg #[.int .i64 ph, .string buf, .string he, .string fr, .string bo, u1, .int .i64 nx, u2, u3], .agg #[.int .i64 kind, .string d]] w fun e w' => SQ (snDone, ⟨#[]⟩) w e w' := by
  obtain ⟨a1, c1, rfl⟩ := strs_form2 s1
  obtain ⟨a2, c2, rfl⟩ := bls_form s2
  obtain ⟨a3, c3, rfl⟩ : ∃ a c, u3 = .slice a V.length c := by
    rcases s3.cases with ⟨e, e0⟩ | ⟨g, k, e, _⟩
    · exact ⟨none, 0, by rw [e, e0]; rfl⟩
    · exact ⟨_, _, e⟩
  have HPr : Hid (∀ wx, Below w.heap.size w wx → Calls Tryz.prog 37 #[.agg #[.int .i64 ph, .string buf, .string he, .string fr, .string bo, .slice a1 R.length c1, .int .i64 nx, .slice a2 T.length c2, .slice a3 V.length c3]] wx fun e w' => e = .returned (.bool false) ∧ Below wx.heap.size wx w') := fun wx hb => by
    have := implProper ph nx buf he fr bo _ _ _ R T V lo wx (strs_below s1 hb (Nat.le_refl _)) (bls_below s2 hb (Nat.le_refl _)) (vds_below s3 hb (Nat.le_refl _)) hsm (len_below hl hb)
    rw [hp] at this
    exact this
  clear s1 s2 s3 hsm hl hp
  go_enter Tryz.func10, Tryz.ntmps10
  go_wp2_with fail
  generalize hW : World.alloc _ _ = W
  have HZ : Hid (SB (w.heap.size + 1 + 1) sn0 (.slice none 0 0) (.slice none 0 0) (.slice none 0 0) W) := by show SB _ _ _ _ _ _; rw [← hW]; exact (blk3 w _ _ _ _ _ _).2.2
  have b0 : Below w.heap.size w W := by rw [← hW]; exact below3 _ _ _ _
  clear hW
  refine (HPr.out W b0).mono ?_
  rintro e w1 ⟨rfl, hb1⟩
  have HZ1 : Hid (SB (w.heap.size + 1 + 1) sn0 (.slice none 0 0) (.slice none 0 0) (.slice none 0 0) w1) := SB.below HZ.out hb1
  have b1 : Below w.heap.size w w1 := b0.trans (hb1.mono b0.size)
  clear HZ b0 hb1 HPr
  obtain ⟨r0, r1, r2, r3, r4, r5, r6, r7, r8⟩ := HZ1.out.zero
  obtain ⟨rf0, rf1, rf2, rf3, rf4, rf5, rf6, rf7, rf8⟩ := HZ1.out.frees
  go_wp2
  refine bodyPost_ret (v := .tuple #[.agg #[.int .i64 9, .string ⟨#[]⟩, .string ⟨#[]⟩, .string ⟨#[]⟩, .string ⟨#[]⟩, (.slice none 0 0), .int .i64 0, (.slice none 0 0), (.slice none 0 0)], .string ⟨#[]⟩]) (by simp [results, Tryz.results10, go_sem, r0, r1, r2, r3, r4, r5, r6, r7, r8]) rfl ?_
  exact ⟨⟨_, _, _, rfl, sv_nil _ _⟩, below_nine b1 (by omega) _ _ _ _ _ _ _ _ _⟩

set_option maxHeartbeats 4000000 in
set_option maxRecDepth 100000 in
theorem implFeedYes (ph : Int) (n : Nat) (buf he fr bo : ByteArray) (u1 u2 u3 : Value) (R : List ByteArray) (T : List Bool) (V : List Vd) (kind : Int) (d : ByteArray) (lo : Nat) (w : World) (hk : (⟨ph, buf, he, fr, bo, R, n, T, V⟩ : Sn).Ok) (s1 : Strs w lo u1 R) (s2 : Bls w lo u2 T) (s3 : Vds w lo u3 V) (hsm : Small9 buf he fr bo R T V) (hl : LenIn w) (hf : FoldAt w) (hd : d.size ≤ 1048576) (hp : properN ph (n : Int) buf he fr bo R T V = true) :
    Calls Tryz.prog 10 #[.agg #[.int .i64 ph, .string buf, .string he, .string fr, .string bo, u1, .int .i64 (n : Int), u2, u3], .agg #[.int .i64 kind, .string d]] w fun e w' => SQ ((⟨ph, buf, he, fr, bo, R, n, T, V⟩ : Sn).feed true kind d) w e w' := by
  have H : Hid (SV w lo u1 u2 u3 (⟨ph, buf, he, fr, bo, R, n, T, V⟩ : Sn)) := ⟨s1, s2, s3⟩
  have HK : Hid (⟨ph, buf, he, fr, bo, R, n, T, V⟩ : Sn).Ok := hk
  obtain ⟨g1, g2, g3, k1, k2, k3, y1, y2, y3⟩ : ∃ g1 g2 g3 k1 k2 k3, u1 = .slice (some ⟨g1, 0, none⟩) R.length k1 ∧ u2 = .slice (some ⟨g2, 0, none⟩) R.length k2 ∧ u3 = .slice (some ⟨g3, 0, none⟩) R.length k3 := H.out.some hk
  subst y1
  subst y2
  subst y3
  have HPr : Hid (∀ wx, Below w.heap.size w wx → Calls Tryz.prog 37 #[.agg #[.int .i64 ph, .string buf, .string he, .string fr, .string bo, (.slice (some ⟨g1, 0, none⟩) R.length k1), .int .i64 (n : Int), (.slice (some ⟨g2, 0, none⟩) R.length k2), (.slice (some ⟨g3, 0, none⟩) R.length k3)]] wx fun e w' => e = .returned (.bool true) ∧ Below wx.heap.size wx w') := fun wx hb => by
    have := implProper ph (n : Int) buf he fr bo _ _ _ R T V lo wx (strs_below s1 hb (Nat.le_refl _)) (bls_below s2 hb (Nat.le_refl _)) (vds_below s3 hb (Nat.le_refl _)) hsm (len_below hl hb)
    rw [hp] at this
    exact this
  clear s1 s2 s3 hsm hp hk
  go_enter Tryz.func10, Tryz.ntmps10
  go_wp2_with fail
  generalize hW : World.alloc _ _ = W
  have HA : Hid (Blk w.heap.size #[.int .i64 ph, .string buf, .string he, .string fr, .string bo, (.slice (some ⟨g1, 0, none⟩) R.length k1), .int .i64 (n : Int), (.slice (some ⟨g2, 0, none⟩) R.length k2), (.slice (some ⟨g3, 0, none⟩) R.length k3)] W) := by show Blk _ _ _; rw [← hW]; exact (blk3 w _ _ _ _ _ _).1
  have HE : Hid (Blk (w.heap.size + 1) #[.int .i64 kind, .string d] W) := by show Blk _ _ _; rw [← hW]; exact (blk3 w _ _ _ _ _ _).2.1
  have HZ : Hid (SB (w.heap.size + 1 + 1) sn0 (.slice none 0 0) (.slice none 0 0) (.slice none 0 0) W) := by show SB _ _ _ _ _ _; rw [← hW]; exact (blk3 w _ _ _ _ _ _).2.2
  have b0 : Below w.heap.size w W := by rw [← hW]; exact below3 _ _ _ _
  have z0 : w.heap.size + 3 ≤ W.heap.size := by rw [← hW]; simp
  clear hW
  refine (HPr.out W b0).mono ?_
  rintro e w1 ⟨rfl, hb1⟩
  have HA1 : Hid (Blk w.heap.size #[.int .i64 ph, .string buf, .string he, .string fr, .string bo, (.slice (some ⟨g1, 0, none⟩) R.length k1), .int .i64 (n : Int), (.slice (some ⟨g2, 0, none⟩) R.length k2), (.slice (some ⟨g3, 0, none⟩) R.length k3)] w1) := Blk.below HA.out hb1
  have HE1 : Hid (Blk (w.heap.size + 1) #[.int .i64 kind, .string d] w1) := Blk.below HE.out hb1
  have HZ1 : Hid (SB (w.heap.size + 1 + 1) sn0 (.slice none 0 0) (.slice none 0 0) (.slice none 0 0) w1) := SB.below HZ.out hb1
  have b1 : Below w.heap.size w w1 := b0.trans (hb1.mono b0.size)
  have z1 : w.heap.size + 3 ≤ w1.heap.size := Nat.le_trans z0 hb1.size
  clear HA HE HZ b0 hb1 HPr z0
  obtain ⟨t0, t1, t2, t3, t4, t5, t6, t7, t8⟩ : w1.cell? ⟨w.heap.size, 0, none⟩ = some (.int .i64 ph) ∧ w1.cell? ⟨w.heap.size, 1, none⟩ = some (.string buf) ∧ w1.cell? ⟨w.heap.size, 2, none⟩ = some (.string he) ∧ w1.cell? ⟨w.heap.size, 3, none⟩ = some (.string fr) ∧ w1.cell? ⟨w.heap.size, 4, none⟩ = some (.string bo) ∧ w1.cell? ⟨w.heap.size, 5, none⟩ = some (.slice (some ⟨g1, 0, none⟩) R.length k1) ∧ w1.cell? ⟨w.heap.size, 6, none⟩ = some (.int .i64 (n : Int)) ∧ w1.cell? ⟨w.heap.size, 7, none⟩ = some (.slice (some ⟨g2, 0, none⟩) R.length k2) ∧ w1.cell? ⟨w.heap.size, 8, none⟩ = some (.slice (some ⟨g3, 0, none⟩) R.length k3) := ⟨HA1.out.cell 0, HA1.out.cell 1, HA1.out.cell 2, HA1.out.cell 3, HA1.out.cell 4, HA1.out.cell 5, HA1.out.cell 6, HA1.out.cell 7, HA1.out.cell 8⟩
  go_wp2_with fail
  refine (implCopy (⟨ph, buf, he, fr, bo, R, n, T, V⟩ : Sn) _ _ _ lo w1 HK.out.wf (H.out.below b1 (Nat.le_refl _))).mono ?_
  rintro e w2 ⟨⟨v1, v2, v3, rfl, S2⟩, hb2⟩
  obtain ⟨p1, p2, p3, q1, q2, q3, y1, y2, y3⟩ : ∃ g1 g2 g3 k1 k2 k3, v1 = .slice (some ⟨g1, 0, none⟩) R.length k1 ∧ v2 = .slice (some ⟨g2, 0, none⟩) R.length k2 ∧ v3 = .slice (some ⟨g3, 0, none⟩) R.length k3 := S2.some HK.out
  subst y1
  subst y2
  subst y3
  have HSV : Hid (SV w2 w1.heap.size (.slice (some ⟨p1, 0, none⟩) R.length q1) (.slice (some ⟨p2, 0, none⟩) R.length q2) (.slice (some ⟨p3, 0, none⟩) R.length q3) (⟨ph, buf, he, fr, bo, R, n, T, V⟩ : Sn)) := S2
  have HA2 : Hid (Blk w.heap.size #[.int .i64 ph, .string buf, .string he, .string fr, .string bo, (.slice (some ⟨g1, 0, none⟩) R.length k1), .int .i64 (n : Int), (.slice (some ⟨g2, 0, none⟩) R.length k2), (.slice (some ⟨g3, 0, none⟩) R.length k3)] w2) := Blk.below HA1.out hb2
  have HE2 : Hid (Blk (w.heap.size + 1) #[.int .i64 kind, .string d] w2) := Blk.below HE1.out hb2
  have HZ2 : Hid (SB (w.heap.size + 1 + 1) sn0 (.slice none 0 0) (.slice none 0 0) (.slice none 0 0) w2) := SB.below HZ1.out hb2
  have b2 : Below w.heap.size w w2 := b1.trans (hb2.mono b1.size)
  have z2 := hb2.size
  clear HA1 HE1 HZ1 b1 S2 hb2 t0 t1 t2 t3 t4 t5 t6 t7 t8
  dsimp only
  go_upto_region 5 with fail
  generalize hW3 : World.alloc _ _ = W3
  have b3' : Below w2.heap.size w2 W3 := by rw [← hW3]; exact below1 _ _
  have HBd : Hid (Blk w2.heap.size (c10 (⟨ph, buf, he, fr, bo, R, n, T, V⟩ : Sn) (.slice (some ⟨p1, 0, none⟩) R.length q1) (.slice (some ⟨p2, 0, none⟩) R.length q2) (.slice (some ⟨p3, 0, none⟩) R.length q3) ⟨#[]⟩) W3) := by show Blk _ _ _; rw [← hW3]; exact Blk.new _ _ _
  have HZ3 : Hid (SB (w.heap.size + 1 + 1) sn0 (.slice none 0 0) (.slice none 0 0) (.slice none 0 0) W3) := SB.below HZ2.out b3'
  have HA3 : Hid (Blk w.heap.size #[.int .i64 ph, .string buf, .string he, .string fr, .string bo, (.slice (some ⟨g1, 0, none⟩) R.length k1), .int .i64 (n : Int), (.slice (some ⟨g2, 0, none⟩) R.length k2), (.slice (some ⟨g3, 0, none⟩) R.length k3)] W3) := Blk.below HA2.out b3'
  have HE3 : Hid (Blk (w.heap.size + 1) #[.int .i64 kind, .string d] W3) := Blk.below HE2.out b3'
  have HD3 : Hid (DB w2.heap.size w (.slice (some ⟨p1, 0, none⟩) R.length q1) (.slice (some ⟨p2, 0, none⟩) R.length q2) (.slice (some ⟨p3, 0, none⟩) R.length q3) (⟨ph, buf, he, fr, bo, R, n, T, V⟩ : Sn) ⟨#[]⟩ W3) := by
    have o := HSV.out.own
    refine ⟨HBd.out, (HSV.out.below b3' (Nat.le_refl _)).le (by omega), fun e => ?_, fun e => ?_, fun e => ?_, by omega, b2.trans (b3'.mono b2.size)⟩
    · have := (o.1 _ e).2; omega
    · have := (o.2.1 _ e).2; omega
    · have := (o.2.2 _ e).2; omega
  have z3 : w2.heap.size < W3.heap.size := HBd.out.lt
  have x0 : W3.cell? ⟨w.heap.size, 0, none⟩ = some (.int .i64 ph) := HA3.out.cell 0
  have y0 : W3.cell? ⟨w.heap.size + 1, 0, none⟩ = some (.int .i64 kind) := HE3.out.cell 0
  have y1 : W3.cell? ⟨w.heap.size + 1, 1, none⟩ = some (.string d) := HE3.out.cell 1
  clear hW3 b3' HA2 HE2 HZ2 HBd b2
  by_cases e9 : ph = 9
  · have HF : Hid ((⟨ph, buf, he, fr, bo, R, n, T, V⟩ : Sn).feed true kind d = ((⟨ph, buf, he, fr, bo, R, n, T, V⟩ : Sn), ⟨#[]⟩)) := by
      show _ = _
      unfold Sn.feed
      rw [if_neg (by decide), if_pos e9]
    rw [e9] at x0
    obtain ⟨w4, hw4⟩ : ∃ w4, w4 = W3 := ⟨_, rfl⟩
    have HD4 : Hid (DB w2.heap.size w (.slice (some ⟨p1, 0, none⟩) R.length q1) (.slice (some ⟨p2, 0, none⟩) R.length q2) (.slice (some ⟨p3, 0, none⟩) R.length q3) (⟨ph, buf, he, fr, bo, R, n, T, V⟩ : Sn) ⟨#[]⟩ w4) := by rw [hw4]; exact HD3
    have HO4 : Hid (DO w2.heap.size (.slice (some ⟨p2, 0, none⟩) R.length q2) (.slice (some ⟨p3, 0, none⟩) R.length q3) W3 w4) := by rw [hw4]; exact (DO.of_below (Below.refl _ _) : DO _ _ _ _ _)
    clear e9
    go_upto_region 10 with fail
    rw [← hw4]
    clear hw4
    have hp1 := (HSV.out.own.1 p1 rfl)
    have hp2 := (HSV.out.own.2.1 p2 rfl)
    have hp3 := (HSV.out.own.2.2 p3 rfl)
    obtain ⟨x0, x1, x2, x3, x4, x5, x6, x7, x8, x9⟩ := HD4.out.cells
    have bl4 : w2.heap.size < w4.heap.size := HD4.out.blk.lt
    have HZ4 : Hid (SB (w.heap.size + 1 + 1) sn0 (.slice none 0 0) (.slice none 0 0) (.slice none 0 0) w4) := DO.blk HO4.out HZ3.out (by omega) (fun e => by injection e with e; dsimp only at e; omega) (fun e => by injection e with e; dsimp only at e; omega)
    obtain ⟨r0, r1, r2, r3, r4, r5, r6, r7, r8⟩ := HZ4.out.zero
    obtain ⟨rf0, rf1, rf2, rf3, rf4, rf5, rf6, rf7, rf8⟩ := HZ4.out.frees
    have zl : w.heap.size + 1 + 1 < w4.heap.size := HZ4.out.lt
    go_region
    go_wp2
    refine bodyPost_ret (v := .tuple #[.agg #[.int .i64 (⟨ph, buf, he, fr, bo, R, n, T, V⟩ : Sn).ph, .string (⟨ph, buf, he, fr, bo, R, n, T, V⟩ : Sn).buf, .string (⟨ph, buf, he, fr, bo, R, n, T, V⟩ : Sn).he, .string (⟨ph, buf, he, fr, bo, R, n, T, V⟩ : Sn).fr, .string (⟨ph, buf, he, fr, bo, R, n, T, V⟩ : Sn).bo, (.slice (some ⟨p1, 0, none⟩) R.length q1), .int .i64 ((⟨ph, buf, he, fr, bo, R, n, T, V⟩ : Sn).nx : Int), (.slice (some ⟨p2, 0, none⟩) R.length q2), (.slice (some ⟨p3, 0, none⟩) R.length q3)], .string ⟨#[]⟩]) (by simp [results, Tryz.results10, go_sem, r0, r1, r2, r3, r4, r5, r6, r7, r8]) rfl ?_
    rw [HF.out]
    refine ⟨⟨_, _, _, rfl, ?_⟩, ?_⟩
    · exact (nine_ne (b := w.heap.size + 1 + 1) HD4.out.sv (fun g hg => by injection hg with hg; dsimp only at hg; omega) (fun g hg => by injection hg with hg; dsimp only at hg; omega) (fun g hg => by injection hg with hg; dsimp only at hg; omega) _ _ _ _ _ _ _ _ _).below (Below.refl _ _).drew (Nat.le_refl _)
    · exact (below_nine HD4.out.bel (by omega) _ _ _ _ _ _ _ _ _).drew
  · have hb9 : (ph == 9) = false := beq_eq_false_iff_ne.2 e9
    have H9 : Hid (ph ≠ 9) := e9
    clear e9
    by_cases e1 : kind = 1
    · have HF : Hid ((⟨ph, buf, he, fr, bo, R, n, T, V⟩ : Sn).feed true kind d = (if 40000 < buf.size + d.size then ((⟨ph, buf, he, fr, bo, R, n, T, V⟩ : Sn).lost tBad, (⟨#[]⟩ : ByteArray)) else Sn.rep (buf.size + d.size + 1) { (⟨ph, buf, he, fr, bo, R, n, T, V⟩ : Sn) with buf := buf ++ d })) := by
        show _ = _
        unfold Sn.feed
        rw [if_neg (by decide), if_neg H9.out, if_neg (by omega), if_neg (by omega)]
      rw [e1] at y0
      clear e1
      go_wp2_with fail
      refine (implHear w2.heap.size w _ _ _ (⟨ph, buf, he, fr, bo, R, n, T, V⟩ : Sn) d W3 hl hf HK.out H9.out hd HD3.out).mono ?_
      rintro e w4 ⟨rfl, D4, O4⟩
      generalize hP : (if 40000 < (⟨ph, buf, he, fr, bo, R, n, T, V⟩ : Sn).buf.size + d.size then ((⟨ph, buf, he, fr, bo, R, n, T, V⟩ : Sn).lost tBad, (⟨#[]⟩ : ByteArray)) else Sn.rep ((⟨ph, buf, he, fr, bo, R, n, T, V⟩ : Sn).buf.size + d.size + 1) { (⟨ph, buf, he, fr, bo, R, n, T, V⟩ : Sn) with buf := (⟨ph, buf, he, fr, bo, R, n, T, V⟩ : Sn).buf ++ d }) = P at D4
      have HP : Hid ((⟨ph, buf, he, fr, bo, R, n, T, V⟩ : Sn).feed true kind d = P) := HF.out.trans hP
      have HD4 : Hid (DB w2.heap.size w (.slice (some ⟨p1, 0, none⟩) R.length q1) (.slice (some ⟨p2, 0, none⟩) R.length q2) (.slice (some ⟨p3, 0, none⟩) R.length q3) P.1 P.2 w4) := D4
      have HO4 : Hid (DO w2.heap.size (.slice (some ⟨p2, 0, none⟩) R.length q2) (.slice (some ⟨p3, 0, none⟩) R.length q3) W3 w4) := O4
      clear D4 O4 hP HF
      go_upto_region 10 with fail
      have hp1 := (HSV.out.own.1 p1 rfl)
      have hp2 := (HSV.out.own.2.1 p2 rfl)
      have hp3 := (HSV.out.own.2.2 p3 rfl)
      obtain ⟨x0, x1, x2, x3, x4, x5, x6, x7, x8, x9⟩ := HD4.out.cells
      have bl4 : w2.heap.size < w4.heap.size := HD4.out.blk.lt
      have HZ4 : Hid (SB (w.heap.size + 1 + 1) sn0 (.slice none 0 0) (.slice none 0 0) (.slice none 0 0) w4) := DO.blk HO4.out HZ3.out (by omega) (fun e => by injection e with e; dsimp only at e; omega) (fun e => by injection e with e; dsimp only at e; omega)
      obtain ⟨r0, r1, r2, r3, r4, r5, r6, r7, r8⟩ := HZ4.out.zero
      obtain ⟨rf0, rf1, rf2, rf3, rf4, rf5, rf6, rf7, rf8⟩ := HZ4.out.frees
      have zl : w.heap.size + 1 + 1 < w4.heap.size := HZ4.out.lt
      go_region
      go_wp2
      refine bodyPost_ret (v := .tuple #[.agg #[.int .i64 P.1.ph, .string P.1.buf, .string P.1.he, .string P.1.fr, .string P.1.bo, (.slice (some ⟨p1, 0, none⟩) R.length q1), .int .i64 (P.1.nx : Int), (.slice (some ⟨p2, 0, none⟩) R.length q2), (.slice (some ⟨p3, 0, none⟩) R.length q3)], .string P.2]) (by simp [results, Tryz.results10, go_sem, r0, r1, r2, r3, r4, r5, r6, r7, r8]) rfl ?_
      rw [HP.out]
      refine ⟨⟨_, _, _, rfl, ?_⟩, ?_⟩
      · exact (nine_ne (b := w.heap.size + 1 + 1) HD4.out.sv (fun g hg => by injection hg with hg; dsimp only at hg; omega) (fun g hg => by injection hg with hg; dsimp only at hg; omega) (fun g hg => by injection hg with hg; dsimp only at hg; omega) _ _ _ _ _ _ _ _ _).below (Below.refl _ _).drew (Nat.le_refl _)
      · exact (below_nine HD4.out.bel (by omega) _ _ _ _ _ _ _ _ _).drew
    · have hb1 : (kind == 1) = false := beq_eq_false_iff_ne.2 e1
      have H1 : Hid (kind ≠ 1) := e1
      clear e1
      by_cases e3 : kind = 3
      · have HF : Hid ((⟨ph, buf, he, fr, bo, R, n, T, V⟩ : Sn).feed true kind d = ((⟨ph, buf, he, fr, bo, R, n, T, V⟩ : Sn).lost ⟨#[116, 105, 109, 101, 111, 117, 116]⟩, ⟨#[]⟩)) := by
          show _ = _
          unfold Sn.feed
          rw [if_neg (by decide), if_neg H9.out, if_pos e3]
        rw [e3] at y0 hb1
        clear e3
        go_wp2_with fail
        refine (implLose w2.heap.size w _ _ _ (⟨ph, buf, he, fr, bo, R, n, T, V⟩ : Sn) ⟨#[]⟩ ⟨#[116, 105, 109, 101, 111, 117, 116]⟩ W3 HK.out HD3.out).mono ?_
        rintro e w4 ⟨rfl, D4, O4⟩
        generalize hP : (⟨ph, buf, he, fr, bo, R, n, T, V⟩ : Sn).lost ⟨#[116, 105, 109, 101, 111, 117, 116]⟩ = P at D4
        have HP : Hid ((⟨ph, buf, he, fr, bo, R, n, T, V⟩ : Sn).feed true kind d = (P, ⟨#[]⟩)) := by show _ = _; rw [HF.out, hP]
        have HD4 : Hid (DB w2.heap.size w (.slice (some ⟨p1, 0, none⟩) R.length q1) (.slice (some ⟨p2, 0, none⟩) R.length q2) (.slice (some ⟨p3, 0, none⟩) R.length q3) P ⟨#[]⟩ w4) := D4
        have HO4 : Hid (DO w2.heap.size (.slice (some ⟨p2, 0, none⟩) R.length q2) (.slice (some ⟨p3, 0, none⟩) R.length q3) W3 w4) := O4
        clear D4 O4 hP HF
        go_upto_region 10 with fail
        have hp1 := (HSV.out.own.1 p1 rfl)
        have hp2 := (HSV.out.own.2.1 p2 rfl)
        have hp3 := (HSV.out.own.2.2 p3 rfl)
        obtain ⟨x0, x1, x2, x3, x4, x5, x6, x7, x8, x9⟩ := HD4.out.cells
        have bl4 : w2.heap.size < w4.heap.size := HD4.out.blk.lt
        have HZ4 : Hid (SB (w.heap.size + 1 + 1) sn0 (.slice none 0 0) (.slice none 0 0) (.slice none 0 0) w4) := DO.blk HO4.out HZ3.out (by omega) (fun e => by injection e with e; dsimp only at e; omega) (fun e => by injection e with e; dsimp only at e; omega)
        obtain ⟨r0, r1, r2, r3, r4, r5, r6, r7, r8⟩ := HZ4.out.zero
        obtain ⟨rf0, rf1, rf2, rf3, rf4, rf5, rf6, rf7, rf8⟩ := HZ4.out.frees
        have zl : w.heap.size + 1 + 1 < w4.heap.size := HZ4.out.lt
        go_region
        go_wp2
        refine bodyPost_ret (v := .tuple #[.agg #[.int .i64 P.ph, .string P.buf, .string P.he, .string P.fr, .string P.bo, (.slice (some ⟨p1, 0, none⟩) R.length q1), .int .i64 (P.nx : Int), (.slice (some ⟨p2, 0, none⟩) R.length q2), (.slice (some ⟨p3, 0, none⟩) R.length q3)], .string ⟨#[]⟩]) (by simp [results, Tryz.results10, go_sem, r0, r1, r2, r3, r4, r5, r6, r7, r8]) rfl ?_
        rw [HP.out]
        refine ⟨⟨_, _, _, rfl, ?_⟩, ?_⟩
        · exact (nine_ne (b := w.heap.size + 1 + 1) HD4.out.sv (fun g hg => by injection hg with hg; dsimp only at hg; omega) (fun g hg => by injection hg with hg; dsimp only at hg; omega) (fun g hg => by injection hg with hg; dsimp only at hg; omega) _ _ _ _ _ _ _ _ _).below (Below.refl _ _).drew (Nat.le_refl _)
        · exact (below_nine HD4.out.bel (by omega) _ _ _ _ _ _ _ _ _).drew
      · have hb3 : (kind == 3) = false := beq_eq_false_iff_ne.2 e3
        have HF : Hid ((⟨ph, buf, he, fr, bo, R, n, T, V⟩ : Sn).feed true kind d = ((⟨ph, buf, he, fr, bo, R, n, T, V⟩ : Sn).lost ⟨#[99, 108, 111, 115, 101, 100]⟩, ⟨#[]⟩)) := by
          show _ = _
          unfold Sn.feed
          rw [if_neg (by decide), if_neg H9.out, if_neg e3, if_pos H1.out]
        clear e3
        go_wp2_with fail
        refine (implLose w2.heap.size w _ _ _ (⟨ph, buf, he, fr, bo, R, n, T, V⟩ : Sn) ⟨#[]⟩ ⟨#[99, 108, 111, 115, 101, 100]⟩ W3 HK.out HD3.out).mono ?_
        rintro e w4 ⟨rfl, D4, O4⟩
        generalize hP : (⟨ph, buf, he, fr, bo, R, n, T, V⟩ : Sn).lost ⟨#[99, 108, 111, 115, 101, 100]⟩ = P at D4
        have HP : Hid ((⟨ph, buf, he, fr, bo, R, n, T, V⟩ : Sn).feed true kind d = (P, ⟨#[]⟩)) := by show _ = _; rw [HF.out, hP]
        have HD4 : Hid (DB w2.heap.size w (.slice (some ⟨p1, 0, none⟩) R.length q1) (.slice (some ⟨p2, 0, none⟩) R.length q2) (.slice (some ⟨p3, 0, none⟩) R.length q3) P ⟨#[]⟩ w4) := D4
        have HO4 : Hid (DO w2.heap.size (.slice (some ⟨p2, 0, none⟩) R.length q2) (.slice (some ⟨p3, 0, none⟩) R.length q3) W3 w4) := O4
        clear D4 O4 hP HF
        go_upto_region 10 with fail
        have hp1 := (HSV.out.own.1 p1 rfl)
        have hp2 := (HSV.out.own.2.1 p2 rfl)
        have hp3 := (HSV.out.own.2.2 p3 rfl)
        obtain ⟨x0, x1, x2, x3, x4, x5, x6, x7, x8, x9⟩ := HD4.out.cells
        have bl4 : w2.heap.size < w4.heap.size := HD4.out.blk.lt
        have HZ4 : Hid (SB (w.heap.size + 1 + 1) sn0 (.slice none 0 0) (.slice none 0 0) (.slice none 0 0) w4) := DO.blk HO4.out HZ3.out (by omega) (fun e => by injection e with e; dsimp only at e; omega) (fun e => by injection e with e; dsimp only at e; omega)
        obtain ⟨r0, r1, r2, r3, r4, r5, r6, r7, r8⟩ := HZ4.out.zero
        obtain ⟨rf0, rf1, rf2, rf3, rf4, rf5, rf6, rf7, rf8⟩ := HZ4.out.frees
        have zl : w.heap.size + 1 + 1 < w4.heap.size := HZ4.out.lt
        go_region
        go_wp2
        refine bodyPost_ret (v := .tuple #[.agg #[.int .i64 P.ph, .string P.buf, .string P.he, .string P.fr, .string P.bo, (.slice (some ⟨p1, 0, none⟩) R.length q1), .int .i64 (P.nx : Int), (.slice (some ⟨p2, 0, none⟩) R.length q2), (.slice (some ⟨p3, 0, none⟩) R.length q3)], .string ⟨#[]⟩]) (by simp [results, Tryz.results10, go_sem, r0, r1, r2, r3, r4, r5, r6, r7, r8]) rfl ?_
        rw [HP.out]
        refine ⟨⟨_, _, _, rfl, ?_⟩, ?_⟩
        · exact (nine_ne (b := w.heap.size + 1 + 1) HD4.out.sv (fun g hg => by injection hg with hg; dsimp only at hg; omega) (fun g hg => by injection hg with hg; dsimp only at hg; omega) (fun g hg => by injection hg with hg; dsimp only at hg; omega) _ _ _ _ _ _ _ _ _).below (Below.refl _ _).drew (Nat.le_refl _)
        · exact (below_nine HD4.out.bel (by omega) _ _ _ _ _ _ _ _ _).drew
end Go.Proofs.YtngcjlghjidnjaaGreatDoor
namespace Go.Proofs.YtngcjlghjidnjaaGreatDoor
open Go.ChangeShapes Go.WideShapes Go.ChangeAt Go.RowKit
attribute [local go_sem ↓] Go.wp_at_zero Go.wp_at_succ

def SQL (lo : Nat) (p : Sn × ByteArray) (w : World) (e : Ending) (w' : World) : Prop :=
  (∃ u1 u2 u3, e = .returned (.tuple #[.agg #[.int .i64 p.1.ph, .string p.1.buf, .string p.1.he, .string p.1.fr, .string p.1.bo, u1, .int .i64 (p.1.nx : Int), u2, u3], .string p.2]) ∧ SV w' lo u1 u2 u3 p.1) ∧ Below w.heap.size w w'
theorem rep_size : ∀ (k : Nat) (s : Sn), s.Ok → (Sn.rep k s).2.size ≤ 20000 * s.buf.size
  | 0, s, _ => Nat.zero_le _
  | k + 1, s, hk => by
    rcases hp : parse s.buf with _ | _ | ⟨c, L, u⟩
    · rw [rep_bad hp]; exact Nat.zero_le _
    · rw [rep_more hp]; exact Nat.zero_le _
    · obtain ⟨hu2, hus, _, _, _⟩ := parse_ok hp
      have hkc := hk.cut u
      have h1 := hkc.said c L
      have h2 := rep_size k _ (hkc.take c L)
      rw [take_buf] at h2
      have hsz : (s.buf.extract u s.buf.size).size = s.buf.size - u := by rw [ByteArray.size_extract]; omega
      have h2' : (Sn.rep k (Sn.take { s with buf := s.buf.extract u s.buf.size } c L).1).2.size ≤ 20000 * (s.buf.size - u) := by rw [← hsz]; exact h2
      have h3 : s.buf.size - u + 1 ≤ s.buf.size := by omega
      have h4 := Nat.mul_le_mul_left 20000 h3
      rw [rep_ok hp]
      split
      · show (Sn.take { s with buf := s.buf.extract u s.buf.size } c L).2.size ≤ _; omega
      · show ((Sn.take { s with buf := s.buf.extract u s.buf.size } c L).2 ++ (Sn.rep k (Sn.take { s with buf := s.buf.extract u s.buf.size } c L).1).2).size ≤ _; rw [ByteArray.size_append]; omega
theorem rep_okS : ∀ (k : Nat) (s : Sn), s.Ok → (Sn.rep k s).1.Wf
  | 0, s, hk => hk.wf
  | k + 1, s, hk => by
    rcases hp : parse s.buf with _ | _ | ⟨c, L, u⟩
    · rw [rep_bad hp]; exact ⟨hk.t, (decV_len _ _).trans hk.v, hk.r1, hk.r20⟩
    · rw [rep_more hp]; exact hk.wf
    · have hkt := (hk.cut u).take c L
      rw [rep_ok hp]
      split
      · exact ⟨hkt.t, hkt.v, hkt.r1, hkt.r20⟩
      · exact rep_okS k _ hkt

set_option maxHeartbeats 4000000 in
set_option maxRecDepth 100000 in
theorem specReplies : ∀ (k : Nat) (s : Sn) (u1 u2 u3 : Value) (lo : Nat) (w : World), lo ≤ w.heap.size → s.Ok → s.ph ≠ 9 → s.buf.size < k → SV w lo u1 u2 u3 s →
    Calls Tryz.prog 44 #[.agg #[.int .i64 s.ph, .string s.buf, .string s.he, .string s.fr, .string s.bo, u1, .int .i64 (s.nx : Int), u2, u3]] w fun e w' => SQL lo (Sn.rep k s) w e w'
  | 0, s, _, _, _, _, _, _, _, _, hb, _ => absurd hb (Nat.not_lt_zero _)
  | k + 1, s, u1, u2, u3, lo, w, hlo, hk, h9, hbk, h => by
    have IH := fun s u1 u2 u3 lo w => specReplies k s u1 u2 u3 lo w
    have HIH : Hid (∀ (s : Sn) (u1 u2 u3 : Value) (lo : Nat) (w : World), lo ≤ w.heap.size → s.Ok → s.ph ≠ 9 → s.buf.size < k → SV w lo u1 u2 u3 s → Calls Tryz.prog 44 #[.agg #[.int .i64 s.ph, .string s.buf, .string s.he, .string s.fr, .string s.bo, u1, .int .i64 (s.nx : Int), u2, u3]] w fun e w' => SQL lo (Sn.rep k s) w e w') := IH
    clear IH
    have H : Hid (SV w lo u1 u2 u3 s) := h
    have HK : Hid s.Ok := hk
    have H9 : Hid (s.ph ≠ 9) := h9
    obtain ⟨g1, g2, g3, k1, k2, k3, rfl, rfl, rfl⟩ := h.some hk
    have hbf : s.buf.size ≤ 40000 := hk.bf
    have og1 := (h.own.1 g1 rfl).2
    have og2 := (h.own.2.1 g2 rfl).2
    have og3 := (h.own.2.2 g3 rfl).2
    clear h hk h9
    go_enter Tryz.func44, Tryz.ntmps44
    go_wp2_with fail
    generalize hW : World.alloc _ _ = W
    have HA : Hid (SB w.heap.size s (.slice (some ⟨g1, 0, none⟩) s.R.length k1) (.slice (some ⟨g2, 0, none⟩) s.R.length k2) (.slice (some ⟨g3, 0, none⟩) s.R.length k3) W) := by show SB _ _ _ _ _ _; rw [← hW]; exact (blk2 w _ _ _ _).1
    have HZ : Hid (SB (w.heap.size + 1) sn0 (.slice none 0 0) (.slice none 0 0) (.slice none 0 0) W) := by show SB _ _ _ _ _ _; rw [← hW]; exact (blk2 w _ _ _ _).2
    have b0 : Below w.heap.size w W := by rw [← hW]; exact below2 _ _ _
    have z0 : w.heap.size + 2 ≤ W.heap.size := by rw [← hW]; simp
    clear hW
    refine (specParse s.buf W (by omega)).mono ?_
    rintro e w1 ⟨⟨v, rfl, hS⟩, hb1⟩
    obtain ⟨va, vc, rfl⟩ := strs_form2 hS
    have HS : Hid (Strs w1 W.heap.size (.slice va (prLines (parse s.buf)).length vc) (prLines (parse s.buf))) := hS
    have HA1 : Hid (SB w.heap.size s (.slice (some ⟨g1, 0, none⟩) s.R.length k1) (.slice (some ⟨g2, 0, none⟩) s.R.length k2) (.slice (some ⟨g3, 0, none⟩) s.R.length k3) w1) := SB.below HA.out hb1
    have HZ1 : Hid (SB (w.heap.size + 1) sn0 (.slice none 0 0) (.slice none 0 0) (.slice none 0 0) w1) := SB.below HZ.out hb1
    have b1 : Below w.heap.size w w1 := b0.trans (hb1.mono b0.size)
    have z1 : w.heap.size + 2 ≤ w1.heap.size := Nat.le_trans z0 hb1.size
    have zA : w.heap.size < w1.heap.size := by omega
    have zl : w.heap.size + 1 < w1.heap.size := by omega
    clear hS HA HZ b0 hb1
    obtain ⟨t0, t1, t2, t3, t4, t5, t6, t7, t8⟩ := HA1.out.cells
    rcases hp : parse s.buf with _ | _ | ⟨c, L, u⟩
    · rw [hp] at HS
      have HE : Hid (Sn.rep (k + 1) s = (s.lost tBad, ⟨#[]⟩)) := rep_bad hp
      dsimp only [prCode, prLines, prUsed, prSt]
      clear hp
      go_wp2_with fail
      refine (specLost s tBad _ _ _ lo _ HK.out (H.out.below (b1.trans ((below1 _ _).mono b1.size)) (Nat.le_refl _))).mono ?_
      rintro e w2 ⟨⟨v1, v2, v3, rfl, S2⟩, hb2⟩
      obtain ⟨p1, p2, p3, q1, q2, q3, y1, y2, y3⟩ : ∃ g1 g2 g3 k1 k2 k3, v1 = .slice (some ⟨g1, 0, none⟩) s.R.length k1 ∧ v2 = .slice (some ⟨g2, 0, none⟩) s.R.length k2 ∧ v3 = .slice (some ⟨g3, 0, none⟩) s.R.length k3 := S2.someW ⟨HK.out.t, (decV_len _ _).trans HK.out.v, HK.out.r1, HK.out.r20⟩
      subst y1
      subst y2
      subst y3
      have b2 : Below w.heap.size w w2 := (b1.trans ((below1 _ _).mono b1.size)).trans (hb2.mono (by simp; omega))
      have HS2 : Hid (SV w2 w1.heap.size (.slice (some ⟨p1, 0, none⟩) s.R.length q1) (.slice (some ⟨p2, 0, none⟩) s.R.length q2) (.slice (some ⟨p3, 0, none⟩) s.R.length q3) (s.lost tBad)) := S2.le (by simp)
      have HZ2 : Hid (SB (w.heap.size + 1) sn0 (.slice none 0 0) (.slice none 0 0) (.slice none 0 0) w2) := SB.below (SB.below HZ1.out (below1 _ _)) hb2
      obtain ⟨r0, r1, r2, r3, r4, r5, r6, r7, r8⟩ := HZ2.out.zero
      obtain ⟨rf0, rf1, rf2, rf3, rf4, rf5, rf6, rf7, rf8⟩ := HZ2.out.frees
      clear S2 hb2
      dsimp only [Sn.lost, Sn.to, Sn.dec]
      go_wp2
      refine bodyPost_ret (v := .tuple #[.agg #[.int .i64 9, .string ⟨#[]⟩, .string s.he, .string s.fr, .string s.bo, (.slice (some ⟨p1, 0, none⟩) s.R.length q1), .int .i64 (s.nx : Int), (.slice (some ⟨p2, 0, none⟩) s.R.length q2), (.slice (some ⟨p3, 0, none⟩) s.R.length q3)], .string ⟨#[]⟩]) (by simp [results, Tryz.results44, go_sem, r0, r1, r2, r3, r4, r5, r6, r7, r8]) rfl ?_
      rw [HE.out]
      exact ⟨⟨_, _, _, rfl, (HS2.out.nine (b := w.heap.size + 1) (by omega) _ _ _ _ _ _ _ _ _).le (by omega)⟩, below_nine b2 (by omega) _ _ _ _ _ _ _ _ _⟩
    · rw [hp] at HS
      have HE : Hid (Sn.rep (k + 1) s = (s, ⟨#[]⟩)) := rep_more hp
      obtain ⟨r0, r1, r2, r3, r4, r5, r6, r7, r8⟩ := HZ1.out.zero
      obtain ⟨rf0, rf1, rf2, rf3, rf4, rf5, rf6, rf7, rf8⟩ := HZ1.out.frees
      dsimp only [prCode, prLines, prUsed, prSt]
      clear hp
      go_wp2
      refine bodyPost_ret (v := .tuple #[.agg #[.int .i64 s.ph, .string s.buf, .string s.he, .string s.fr, .string s.bo, (.slice (some ⟨g1, 0, none⟩) s.R.length k1), .int .i64 (s.nx : Int), (.slice (some ⟨g2, 0, none⟩) s.R.length k2), (.slice (some ⟨g3, 0, none⟩) s.R.length k3)], .string ⟨#[]⟩]) (by simp [results, Tryz.results44, go_sem, r0, r1, r2, r3, r4, r5, r6, r7, r8, zl]) rfl ?_
      rw [HE.out]
      refine ⟨⟨_, _, _, rfl, ?_⟩, ?_⟩
      · exact (nine_ne (b := w.heap.size + 1) (H.out.below b1 (Nat.le_refl _)) (fun g hg => by injection hg with hg; dsimp only at hg; omega) (fun g hg => by injection hg with hg; dsimp only at hg; omega) (fun g hg => by injection hg with hg; dsimp only at hg; omega) _ _ _ _ _ _ _ _ _).below (below1 _ _) (Nat.le_refl _)
      · exact (below_nine b1 (by omega) _ _ _ _ _ _ _ _ _).alloc (by simp [nine]; exact b1.size) _
    · rw [hp] at HS
      obtain ⟨hu2, hus, hL1, hL50, hLs⟩ := parse_ok hp
      have HP : Hid (parse s.buf = (some (some (c, L, u)))) := hp
      have HLs : Hid (∀ y ∈ L, y.size ≤ 1048576) := fun y hy => by have := hLs y hy; omega
      dsimp only [prCode, prLines, prUsed, prSt]
      clear hp hLs
      go_wp2_with fail
      generalize hW2 : World.alloc _ _ = W2
      have hbb : Below w1.heap.size w1 W2 := by rw [← hW2]; exact below1 _ _
      have HR2 : Hid (Blk w1.heap.size #[.int .i64 (c : Int), .slice va L.length vc] W2) := by show Blk _ _ _; rw [← hW2]; exact Blk.new _ _ _
      have HA2 : Hid (SB w.heap.size s (.slice (some ⟨g1, 0, none⟩) s.R.length k1) (.slice (some ⟨g2, 0, none⟩) s.R.length k2) (.slice (some ⟨g3, 0, none⟩) s.R.length k3) W2) := SB.below HA1.out hbb
      have HZ2 : Hid (SB (w.heap.size + 1) sn0 (.slice none 0 0) (.slice none 0 0) (.slice none 0 0) W2) := SB.below HZ1.out hbb
      have b2 : Below w.heap.size w W2 := b1.trans (hbb.mono b1.size)
      have HL2 : Hid (Strs W2 W.heap.size (.slice va L.length vc) L) := strs_below HS.out hbb (Nat.le_refl _)
      have z2 : w1.heap.size < W2.heap.size := HR2.out.lt
      clear hW2 hbb HA1 HZ1 HS b1 t0 t1 t2 t3 t4 t5 t6 t7 t8
      refine (specCopy s _ _ _ lo W2 HK.out.wf (H.out.below b2 (Nat.le_refl _))).mono ?_
      rintro e w3 ⟨⟨v1, v2, v3, rfl, S3⟩, hb3⟩
      obtain ⟨p1, p2, p3, q1, q2, q3, rfl, rfl, rfl⟩ := S3.some HK.out
      have HS3 : Hid (SV w3 W2.heap.size (.slice (some ⟨p1, 0, none⟩) s.R.length q1) (.slice (some ⟨p2, 0, none⟩) s.R.length q2) (.slice (some ⟨p3, 0, none⟩) s.R.length q3) s) := S3
      have HR3 : Hid (Blk w1.heap.size #[.int .i64 (c : Int), .slice va L.length vc] w3) := Blk.below HR2.out hb3
      have HA3 : Hid (SB w.heap.size s (.slice (some ⟨g1, 0, none⟩) s.R.length k1) (.slice (some ⟨g2, 0, none⟩) s.R.length k2) (.slice (some ⟨g3, 0, none⟩) s.R.length k3) w3) := SB.below HA2.out hb3
      have HZ3 : Hid (SB (w.heap.size + 1) sn0 (.slice none 0 0) (.slice none 0 0) (.slice none 0 0) w3) := SB.below HZ2.out hb3
      have HL3 : Hid (Strs w3 W.heap.size (.slice va L.length vc) L) := strs_below HL2.out hb3 (Nat.le_refl _)
      have b3 : Below w.heap.size w w3 := b2.trans (hb3.mono b2.size)
      have z3 := hb3.size
      have y1 : w3.cell? ⟨w.heap.size, 1, none⟩ = some (.string s.buf) := HA3.out.cell 1
      have y2 : w3.cell? ⟨w1.heap.size, 0, none⟩ = some (.int .i64 (c : Int)) := HR3.out.cell 0
      have y3 : w3.cell? ⟨w1.heap.size, 1, none⟩ = some (.slice va L.length vc) := HR3.out.cell 1
      have zA3 : w.heap.size < w3.heap.size := by omega
      have zB3 : w1.heap.size < w3.heap.size := by omega
      clear S3 hb3 HA2 HZ2 HL2 b2 HR2
      go_wp2_with fail
      generalize hW4 : World.alloc _ _ = W4
      have hbb : Below w3.heap.size w3 W4 := by rw [← hW4]; exact below1 _ _
      have ht1 : w.heap.size + 1 < w3.heap.size := by omega
      have HT4 : Hid (SB w3.heap.size ({ s with buf := s.buf.extract u s.buf.size } : Sn) (.slice (some ⟨p1, 0, none⟩) s.R.length q1) (.slice (some ⟨p2, 0, none⟩) s.R.length q2) (.slice (some ⟨p3, 0, none⟩) s.R.length q3) W4) := by show SB _ _ _ _ _ _; rw [← hW4]; exact Blk.new _ _ _
      have HS4 : Hid (SV W4 W2.heap.size (.slice (some ⟨p1, 0, none⟩) s.R.length q1) (.slice (some ⟨p2, 0, none⟩) s.R.length q2) (.slice (some ⟨p3, 0, none⟩) s.R.length q3) ({ s with buf := s.buf.extract u s.buf.size } : Sn)) := HS3.out.below hbb (Nat.le_refl _)
      have HZ4 : Hid (SB (w.heap.size + 1) sn0 (.slice none 0 0) (.slice none 0 0) (.slice none 0 0) W4) := SB.below HZ3.out hbb
      have HL4 : Hid (Strs W4 W.heap.size (.slice va L.length vc) L) := strs_below HL3.out hbb (Nat.le_refl _)
      have b4 : Below w.heap.size w W4 := b3.trans (hbb.mono b3.size)
      have z4 : w3.heap.size < W4.heap.size := HT4.out.lt
      clear hW4 hbb HS3 HR3 HA3 HZ3 HL3 b3 y1 y2 y3
      have hokP : (Sn.take { s with buf := s.buf.extract u s.buf.size } c L).1.Ok := (HK.out.cut u).take c L
      have hszP : (Sn.take { s with buf := s.buf.extract u s.buf.size } c L).1.buf.size < s.buf.size := by rw [take_buf]; show (s.buf.extract u s.buf.size).size < _; rw [ByteArray.size_extract]; omega
      have hsdP : (Sn.take { s with buf := s.buf.extract u s.buf.size } c L).2.size ≤ 20000 := (HK.out.cut u).said c L
      have HE : Hid (Sn.rep (k + 1) s = if ((Sn.take { s with buf := s.buf.extract u s.buf.size } c L).1).ph = 9 then ({ (Sn.take { s with buf := s.buf.extract u s.buf.size } c L).1 with buf := ⟨#[]⟩ }, (Sn.take { s with buf := s.buf.extract u s.buf.size } c L).2) else ((Sn.rep k (Sn.take { s with buf := s.buf.extract u s.buf.size } c L).1).1, (Sn.take { s with buf := s.buf.extract u s.buf.size } c L).2 ++ (Sn.rep k (Sn.take { s with buf := s.buf.extract u s.buf.size } c L).1).2)) := rep_ok HP.out
      refine (specTake { s with buf := s.buf.extract u s.buf.size } c (.slice va L.length vc) L _ _ _ W2.heap.size W.heap.size W4 (HK.out.cut u) H9.out HS4.out HL4.out hL1 hL50 HLs.out).mono ?_
      generalize (Sn.take { s with buf := s.buf.extract u s.buf.size } c L) = P at *
      rintro e w5 ⟨⟨v4, v5, v6, rfl, S5⟩, hb5⟩
      obtain ⟨a1, a2, a3, c1, c2, c3, rfl, rfl, rfl⟩ := S5.some hokP
      have HOk : Hid P.1.Ok := hokP
      have HS5 : Hid (SV w5 W4.heap.size (.slice (some ⟨a1, 0, none⟩) P.1.R.length c1) (.slice (some ⟨a2, 0, none⟩) P.1.R.length c2) (.slice (some ⟨a3, 0, none⟩) P.1.R.length c3) P.1) := S5
      have HT5 : Hid (SB w3.heap.size ({ s with buf := s.buf.extract u s.buf.size } : Sn) (.slice (some ⟨p1, 0, none⟩) s.R.length q1) (.slice (some ⟨p2, 0, none⟩) s.R.length q2) (.slice (some ⟨p3, 0, none⟩) s.R.length q3) w5) := SB.below HT4.out hb5
      have HZ5 : Hid (SB (w.heap.size + 1) sn0 (.slice none 0 0) (.slice none 0 0) (.slice none 0 0) w5) := SB.below HZ4.out hb5
      have b5 : Below w.heap.size w w5 := b4.trans (hb5.mono b4.size)
      have z5 := hb5.size
      have tl : w3.heap.size < w5.heap.size := by omega
      clear S5 hb5 HT4 HS4 HZ4 HL4 b4 hokP
      obtain ⟨t0, t1, t2, t3, t4, t5, t6, t7, t8⟩ := HT5.out.cells
      obtain ⟨tf0, tf1, tf2, tf3, tf4, tf5, tf6, tf7, tf8⟩ := HT5.out.frees
      go_upto_region 10 with fail
      generalize hW6 : World.setCell _ ⟨w3.heap.size, 8, none⟩ _ = W6
      have HT6 : Hid (SB w3.heap.size P.1 (.slice (some ⟨a1, 0, none⟩) P.1.R.length c1) (.slice (some ⟨a2, 0, none⟩) P.1.R.length c2) (.slice (some ⟨a3, 0, none⟩) P.1.R.length c3) W6) := by show SB _ _ _ _ _ _; rw [← hW6]; exact blk_nine HT5.out _ _ _ _ _ _ _ _ _
      have HZ6 : Hid (SB (w.heap.size + 1) sn0 (.slice none 0 0) (.slice none 0 0) (.slice none 0 0) W6) := by show SB _ _ _ _ _ _; rw [← hW6]; exact sb_nine HZ5.out (by omega) _ _ _ _ _ _ _ _ _
      have HS6 : Hid (SV W6 W4.heap.size (.slice (some ⟨a1, 0, none⟩) P.1.R.length c1) (.slice (some ⟨a2, 0, none⟩) P.1.R.length c2) (.slice (some ⟨a3, 0, none⟩) P.1.R.length c3) P.1) := by show SV _ _ _ _ _ _; rw [← hW6]; exact HS5.out.nine z4 _ _ _ _ _ _ _ _ _
      have b6 : Below w.heap.size w W6 := by rw [← hW6]; exact below_nine b5 (by omega) _ _ _ _ _ _ _ _ _
      have z6 : w5.heap.size ≤ W6.heap.size := by rw [← hW6]; simp
      clear hW6 HT5 HZ5 HS5 b5 tl t0 t1 t2 t3 t4 t5 t6 t7 t8 tf0 tf1 tf2 tf3 tf4 tf5 tf6 tf7 tf8
      obtain ⟨t0, t1, t2, t3, t4, t5, t6, t7, t8⟩ := HT6.out.cells
      have tf1 : W6.frozen? ⟨w3.heap.size, 1, none⟩ = false := HT6.out.free 1
      have tl : w3.heap.size < W6.heap.size := HT6.out.lt
      by_cases q9 : P.1.ph = 9
      · have HE2 : Hid (Sn.rep (k + 1) s = ({ P.1 with buf := ⟨#[]⟩ }, P.2)) := by show _ = _; rw [HE.out, if_pos q9]
        have HQ : Hid (P.1.ph = 9) := q9
        rw [q9] at t0
        obtain ⟨r0, r1, r2, r3, r4, r5, r6, r7, r8⟩ := HZ6.out.zero
        obtain ⟨rf0, rf1, rf2, rf3, rf4, rf5, rf6, rf7, rf8⟩ := HZ6.out.frees
        have zl6 : w.heap.size + 1 < W6.heap.size := HZ6.out.lt
        have n1 : ¬ w3.heap.size = w.heap.size + 1 := by omega
        have n2 : ¬ w.heap.size + 1 = w3.heap.size := by omega
        clear q9
        go_wp2
        refine bodyPost_ret (v := .tuple #[.agg #[.int .i64 9, .string ⟨#[]⟩, .string P.1.he, .string P.1.fr, .string P.1.bo, (.slice (some ⟨a1, 0, none⟩) P.1.R.length c1), .int .i64 (P.1.nx : Int), (.slice (some ⟨a2, 0, none⟩) P.1.R.length c2), (.slice (some ⟨a3, 0, none⟩) P.1.R.length c3)], .string P.2]) (by simp [results, Tryz.results44, go_sem, r0, r1, r2, r3, r4, r5, r6, r7, r8]) rfl ?_
        rw [HE2.out]
        refine ⟨⟨_, _, _, by dsimp only; rw [HQ.out], ?_⟩, ?_⟩
        · exact ((HS6.out.set (a := ⟨w3.heap.size, 1, none⟩) z4 _).nine (b := w.heap.size + 1) (by omega) _ _ _ _ _ _ _ _ _).le (by omega)
        · exact below_nine (b6.setCell (p := ⟨w3.heap.size, 1, none⟩) (by dsimp only; omega) _) (by omega) _ _ _ _ _ _ _ _ _
      · have hb9 : (P.1.ph == 9) = false := beq_eq_false_iff_ne.2 q9
        have HE2 : Hid (Sn.rep (k + 1) s = ((Sn.rep k P.1).1, P.2 ++ (Sn.rep k P.1).2)) := by show _ = _; rw [HE.out, if_neg q9]
        have HQ9 : Hid (P.1.ph ≠ 9) := q9
        have hsz := rep_size k P.1 HOk.out
        have hb6 : P.1.buf.size ≤ 40000 := HOk.out.bf
        have hwf := rep_okS k P.1 HOk.out
        clear q9
        go_wp2_with fail
        refine (HIH.out P.1 _ _ _ W4.heap.size W6 (by omega) HOk.out HQ9.out (by omega) HS6.out).mono ?_
        rintro e w7 ⟨⟨v7, v8, v9, rfl, S7⟩, hb7⟩
        generalize Sn.rep k P.1 = Q at *
        obtain ⟨d1, d2, d3, e1, e2, e3, rfl, rfl, rfl⟩ := S7.someW hwf
        have HS7 : Hid (SV w7 W4.heap.size (.slice (some ⟨d1, 0, none⟩) Q.1.R.length e1) (.slice (some ⟨d2, 0, none⟩) Q.1.R.length e2) (.slice (some ⟨d3, 0, none⟩) Q.1.R.length e3) Q.1) := S7
        have HZ7 : Hid (SB (w.heap.size + 1) sn0 (.slice none 0 0) (.slice none 0 0) (.slice none 0 0) w7) := SB.below HZ6.out hb7
        have b7 : Below w.heap.size w w7 := b6.trans (hb7.mono b6.size)
        have zl7 : w.heap.size + 1 < w7.heap.size := HZ7.out.lt
        have hadd : ∀ wx : World, (Op.stringOp .add P.2 Q.2).run Tryz.prog wx = .ok (.string (P.2 ++ Q.2)) wx := fun wx => run_string_add_sum wx P.2 Q.2 (by omega)
        obtain ⟨r0, r1, r2, r3, r4, r5, r6, r7, r8⟩ := HZ7.out.zero
        obtain ⟨rf0, rf1, rf2, rf3, rf4, rf5, rf6, rf7, rf8⟩ := HZ7.out.frees
        clear S7 hb7 hwf HT6 HZ6 HS6 b6 t0 t1 t2 t3 t4 t5 t6 t7 t8 tf1 tl hsz
        go_wp2
        refine bodyPost_ret (v := .tuple #[.agg #[.int .i64 Q.1.ph, .string Q.1.buf, .string Q.1.he, .string Q.1.fr, .string Q.1.bo, (.slice (some ⟨d1, 0, none⟩) Q.1.R.length e1), .int .i64 (Q.1.nx : Int), (.slice (some ⟨d2, 0, none⟩) Q.1.R.length e2), (.slice (some ⟨d3, 0, none⟩) Q.1.R.length e3)], .string (P.2 ++ Q.2)]) (by simp [results, Tryz.results44, go_sem, r0, r1, r2, r3, r4, r5, r6, r7, r8, zl7]) rfl ?_
        rw [HE2.out]
        have E := fun x0 x1 x2 x3 x4 x5 x6 x7 x8 o => nine_end HS7.out b7 (b := w.heap.size + 1) (by omega) (by omega) x0 x1 x2 x3 x4 x5 x6 x7 x8 o b7.size
        exact ⟨⟨_, _, _, rfl, (E _ _ _ _ _ _ _ _ _ _).1.le hlo⟩, (E _ _ _ _ _ _ _ _ _ _).2⟩
end Go.Proofs.YtngcjlghjidnjaaGreatDoor
namespace Go.Proofs.YtngcjlghjidnjaaGreatDoor
open Go.ChangeShapes Go.WideShapes Go.ChangeAt Go.RowKit
attribute [local go_sem ↓] Go.wp_at_zero Go.wp_at_succ

set_option maxHeartbeats 4000000 in
set_option maxRecDepth 100000 in
theorem specFeedNo (ph nx : Int) (buf he fr bo : ByteArray) (u1 u2 u3 : Value) (R : List ByteArray) (T : List Bool) (V : List Vd) (kind : Int) (d : ByteArray) (lo : Nat) (w : World) (s1 : Strs w lo u1 R) (s2 : Bls w lo u2 T) (s3 : Vds w lo u3 V) (hsm : Small9 buf he fr bo R T V) (hp : properN ph nx buf he fr bo R T V = false) :
    Calls Tryz.prog 11 #[.agg #[.int .i64 ph, .string buf, .string he, .string fr, .string bo, u1, .int .i64 nx, u2, u3], .agg #[.int .i64 kind, .string d]] w fun e w' => SQ (snDone, ⟨#[]⟩) w e w' := by
  obtain ⟨a1, c1, rfl⟩ := strs_form2 s1
  obtain ⟨a2, c2, rfl⟩ := bls_form s2
  obtain ⟨a3, c3, rfl⟩ : ∃ a c, u3 = .slice a V.length c := by
    rcases s3.cases with ⟨e, e0⟩ | ⟨g, k, e, _⟩
    · exact ⟨none, 0, by rw [e, e0]; rfl⟩
    · exact ⟨_, _, e⟩
  have HPr : Hid (∀ wx, Below w.heap.size w wx → Calls Tryz.prog 41 #[.agg #[.int .i64 ph, .string buf, .string he, .string fr, .string bo, .slice a1 R.length c1, .int .i64 nx, .slice a2 T.length c2, .slice a3 V.length c3]] wx fun e w' => e = .returned (.bool false) ∧ Below wx.heap.size wx w') := fun wx hb => by
    have := specProper ph nx buf he fr bo _ _ _ R T V lo wx (strs_below s1 hb (Nat.le_refl _)) (bls_below s2 hb (Nat.le_refl _)) (vds_below s3 hb (Nat.le_refl _)) hsm
    rw [hp] at this
    exact this
  clear s1 s2 s3 hsm hp
  go_enter Tryz.func11, Tryz.ntmps11
  go_wp2_with fail
  generalize hW : World.alloc _ _ = W
  have HZ : Hid (SB (w.heap.size + 1 + 1) sn0 (.slice none 0 0) (.slice none 0 0) (.slice none 0 0) W) := by show SB _ _ _ _ _ _; rw [← hW]; exact (blk3 w _ _ _ _ _ _).2.2
  have b0 : Below w.heap.size w W := by rw [← hW]; exact below3 _ _ _ _
  clear hW
  refine (HPr.out W b0).mono ?_
  rintro e w1 ⟨rfl, hb1⟩
  have HZ1 : Hid (SB (w.heap.size + 1 + 1) sn0 (.slice none 0 0) (.slice none 0 0) (.slice none 0 0) w1) := SB.below HZ.out hb1
  have b1 : Below w.heap.size w w1 := b0.trans (hb1.mono b0.size)
  clear HZ b0 hb1 HPr
  obtain ⟨r0, r1, r2, r3, r4, r5, r6, r7, r8⟩ := HZ1.out.zero
  obtain ⟨rf0, rf1, rf2, rf3, rf4, rf5, rf6, rf7, rf8⟩ := HZ1.out.frees
  go_wp2
  refine bodyPost_ret (v := .tuple #[.agg #[.int .i64 9, .string ⟨#[]⟩, .string ⟨#[]⟩, .string ⟨#[]⟩, .string ⟨#[]⟩, (.slice none 0 0), .int .i64 0, (.slice none 0 0), (.slice none 0 0)], .string ⟨#[]⟩]) (by simp [results, Tryz.results11, go_sem, r0, r1, r2, r3, r4, r5, r6, r7, r8]) rfl ?_
  exact ⟨⟨_, _, _, rfl, sv_nil _ _⟩, below_nine b1 (by omega) _ _ _ _ _ _ _ _ _⟩

set_option maxHeartbeats 4000000 in
set_option maxRecDepth 100000 in
theorem specFeedYes (ph : Int) (n : Nat) (buf he fr bo : ByteArray) (u1 u2 u3 : Value) (R : List ByteArray) (T : List Bool) (V : List Vd) (kind : Int) (d : ByteArray) (lo : Nat) (w : World) (hk : (⟨ph, buf, he, fr, bo, R, n, T, V⟩ : Sn).Ok) (s1 : Strs w lo u1 R) (s2 : Bls w lo u2 T) (s3 : Vds w lo u3 V) (hsm : Small9 buf he fr bo R T V) (hd : d.size ≤ 1048576) (hp : properN ph (n : Int) buf he fr bo R T V = true) :
    Calls Tryz.prog 11 #[.agg #[.int .i64 ph, .string buf, .string he, .string fr, .string bo, u1, .int .i64 (n : Int), u2, u3], .agg #[.int .i64 kind, .string d]] w fun e w' => SQ ((⟨ph, buf, he, fr, bo, R, n, T, V⟩ : Sn).feed true kind d) w e w' := by
  have H : Hid (SV w lo u1 u2 u3 (⟨ph, buf, he, fr, bo, R, n, T, V⟩ : Sn)) := ⟨s1, s2, s3⟩
  have HK : Hid (⟨ph, buf, he, fr, bo, R, n, T, V⟩ : Sn).Ok := hk
  obtain ⟨g1, g2, g3, k1, k2, k3, y1, y2, y3⟩ : ∃ g1 g2 g3 k1 k2 k3, u1 = .slice (some ⟨g1, 0, none⟩) R.length k1 ∧ u2 = .slice (some ⟨g2, 0, none⟩) R.length k2 ∧ u3 = .slice (some ⟨g3, 0, none⟩) R.length k3 := H.out.some hk
  subst y1
  subst y2
  subst y3
  have hbf : buf.size ≤ 40000 := hk.bf
  have HPr : Hid (∀ wx, Below w.heap.size w wx → Calls Tryz.prog 41 #[.agg #[.int .i64 ph, .string buf, .string he, .string fr, .string bo, (.slice (some ⟨g1, 0, none⟩) R.length k1), .int .i64 (n : Int), (.slice (some ⟨g2, 0, none⟩) R.length k2), (.slice (some ⟨g3, 0, none⟩) R.length k3)]] wx fun e w' => e = .returned (.bool true) ∧ Below wx.heap.size wx w') := fun wx hb => by
    have := specProper ph (n : Int) buf he fr bo _ _ _ R T V lo wx (strs_below s1 hb (Nat.le_refl _)) (bls_below s2 hb (Nat.le_refl _)) (vds_below s3 hb (Nat.le_refl _)) hsm
    rw [hp] at this
    exact this
  clear s1 s2 s3 hsm hp hk
  go_enter Tryz.func11, Tryz.ntmps11
  go_wp2_with fail
  generalize hW : World.alloc _ _ = W
  have HA : Hid (Blk w.heap.size #[.int .i64 ph, .string buf, .string he, .string fr, .string bo, (.slice (some ⟨g1, 0, none⟩) R.length k1), .int .i64 (n : Int), (.slice (some ⟨g2, 0, none⟩) R.length k2), (.slice (some ⟨g3, 0, none⟩) R.length k3)] W) := by show Blk _ _ _; rw [← hW]; exact (blk3 w _ _ _ _ _ _).1
  have HE : Hid (Blk (w.heap.size + 1) #[.int .i64 kind, .string d] W) := by show Blk _ _ _; rw [← hW]; exact (blk3 w _ _ _ _ _ _).2.1
  have HZ : Hid (SB (w.heap.size + 1 + 1) sn0 (.slice none 0 0) (.slice none 0 0) (.slice none 0 0) W) := by show SB _ _ _ _ _ _; rw [← hW]; exact (blk3 w _ _ _ _ _ _).2.2
  have b0 : Below w.heap.size w W := by rw [← hW]; exact below3 _ _ _ _
  have z0 : w.heap.size + 3 ≤ W.heap.size := by rw [← hW]; simp
  clear hW
  refine (HPr.out W b0).mono ?_
  rintro e w1 ⟨rfl, hb1⟩
  have HA1 : Hid (Blk w.heap.size #[.int .i64 ph, .string buf, .string he, .string fr, .string bo, (.slice (some ⟨g1, 0, none⟩) R.length k1), .int .i64 (n : Int), (.slice (some ⟨g2, 0, none⟩) R.length k2), (.slice (some ⟨g3, 0, none⟩) R.length k3)] w1) := Blk.below HA.out hb1
  have HE1 : Hid (Blk (w.heap.size + 1) #[.int .i64 kind, .string d] w1) := Blk.below HE.out hb1
  have HZ1 : Hid (SB (w.heap.size + 1 + 1) sn0 (.slice none 0 0) (.slice none 0 0) (.slice none 0 0) w1) := SB.below HZ.out hb1
  have b1 : Below w.heap.size w w1 := b0.trans (hb1.mono b0.size)
  have z1 : w.heap.size + 3 ≤ w1.heap.size := Nat.le_trans z0 hb1.size
  clear HA HE HZ b0 hb1 HPr z0
  obtain ⟨t0, t1, t2, t3, t4, t5, t6, t7, t8⟩ : w1.cell? ⟨w.heap.size, 0, none⟩ = some (.int .i64 ph) ∧ w1.cell? ⟨w.heap.size, 1, none⟩ = some (.string buf) ∧ w1.cell? ⟨w.heap.size, 2, none⟩ = some (.string he) ∧ w1.cell? ⟨w.heap.size, 3, none⟩ = some (.string fr) ∧ w1.cell? ⟨w.heap.size, 4, none⟩ = some (.string bo) ∧ w1.cell? ⟨w.heap.size, 5, none⟩ = some (.slice (some ⟨g1, 0, none⟩) R.length k1) ∧ w1.cell? ⟨w.heap.size, 6, none⟩ = some (.int .i64 (n : Int)) ∧ w1.cell? ⟨w.heap.size, 7, none⟩ = some (.slice (some ⟨g2, 0, none⟩) R.length k2) ∧ w1.cell? ⟨w.heap.size, 8, none⟩ = some (.slice (some ⟨g3, 0, none⟩) R.length k3) := ⟨HA1.out.cell 0, HA1.out.cell 1, HA1.out.cell 2, HA1.out.cell 3, HA1.out.cell 4, HA1.out.cell 5, HA1.out.cell 6, HA1.out.cell 7, HA1.out.cell 8⟩
  have y0 : w1.cell? ⟨w.heap.size + 1, 0, none⟩ = some (.int .i64 kind) := HE1.out.cell 0
  have y1 : w1.cell? ⟨w.heap.size + 1, 1, none⟩ = some (.string d) := HE1.out.cell 1
  by_cases e9 : ph = 9
  · have HF : Hid ((⟨ph, buf, he, fr, bo, R, n, T, V⟩ : Sn).feed true kind d = ((⟨ph, buf, he, fr, bo, R, n, T, V⟩ : Sn), ⟨#[]⟩)) := by
      show _ = _
      unfold Sn.feed
      rw [if_neg (by decide), if_pos e9]
    subst e9
    go_wp2_with fail
    refine (specCopy (⟨9, buf, he, fr, bo, R, n, T, V⟩ : Sn) _ _ _ lo w1 HK.out.wf (H.out.below b1 (Nat.le_refl _))).mono ?_
    rintro e w8 ⟨⟨v1, v2, v3, rfl, S8⟩, hb8⟩
    obtain ⟨p1, p2, p3, q1, q2, q3, y4, y5, y6⟩ : ∃ p1 p2 p3 q1 q2 q3, v1 = .slice (some ⟨p1, 0, none⟩) R.length q1 ∧ v2 = .slice (some ⟨p2, 0, none⟩) R.length q2 ∧ v3 = .slice (some ⟨p3, 0, none⟩) R.length q3 := S8.someW HK.out.wf
    subst y4
    subst y5
    subst y6
    have HS8 : Hid (SV w8 w1.heap.size (.slice (some ⟨p1, 0, none⟩) R.length q1) (.slice (some ⟨p2, 0, none⟩) R.length q2) (.slice (some ⟨p3, 0, none⟩) R.length q3) (⟨9, buf, he, fr, bo, R, n, T, V⟩ : Sn)) := S8
    have HZ8 : Hid (SB (w.heap.size + 1 + 1) sn0 (.slice none 0 0) (.slice none 0 0) (.slice none 0 0) w8) := SB.below HZ1.out hb8
    have b8 : Below w.heap.size w w8 := b1.trans (hb8.mono b1.size)
    obtain ⟨r0, r1, r2, r3, r4, r5, r6, r7, r8⟩ := HZ8.out.zero
    obtain ⟨rf0, rf1, rf2, rf3, rf4, rf5, rf6, rf7, rf8⟩ := HZ8.out.frees
    clear S8 hb8
    dsimp only
    go_wp2
    refine bodyPost_ret (v := .tuple #[.agg #[.int .i64 9, .string buf, .string he, .string fr, .string bo, (.slice (some ⟨p1, 0, none⟩) R.length q1), .int .i64 (n : Int), (.slice (some ⟨p2, 0, none⟩) R.length q2), (.slice (some ⟨p3, 0, none⟩) R.length q3)], .string ⟨#[]⟩]) (by simp [results, Tryz.results11, go_sem, r0, r1, r2, r3, r4, r5, r6, r7, r8]) rfl ?_
    rw [HF.out]
    exact ⟨⟨_, _, _, rfl, (HS8.out.nine (b := w.heap.size + 1 + 1) (by omega) _ _ _ _ _ _ _ _ _).le (by omega)⟩, below_nine b8 (by omega) _ _ _ _ _ _ _ _ _⟩
  · have hb9 : (ph == 9) = false := beq_eq_false_iff_ne.2 e9
    have H9 : Hid (ph ≠ 9) := e9
    clear e9
    by_cases e3 : kind = 3
    · have HF : Hid ((⟨ph, buf, he, fr, bo, R, n, T, V⟩ : Sn).feed true kind d = ((⟨ph, buf, he, fr, bo, R, n, T, V⟩ : Sn).lost ⟨#[116, 105, 109, 101, 111, 117, 116]⟩, ⟨#[]⟩)) := by
        show _ = _
        unfold Sn.feed
        rw [if_neg (by decide), if_neg H9.out, if_pos e3]
      rw [e3] at y0
      clear e3
      go_wp2_with fail
      refine (specLost (⟨ph, buf, he, fr, bo, R, n, T, V⟩ : Sn) ⟨#[116, 105, 109, 101, 111, 117, 116]⟩ _ _ _ lo w1 HK.out (H.out.below b1 (Nat.le_refl _))).mono ?_
      rintro e w8 ⟨⟨v1, v2, v3, rfl, S8⟩, hb8⟩
      obtain ⟨p1, p2, p3, q1, q2, q3, y4, y5, y6⟩ : ∃ p1 p2 p3 q1 q2 q3, v1 = .slice (some ⟨p1, 0, none⟩) R.length q1 ∧ v2 = .slice (some ⟨p2, 0, none⟩) R.length q2 ∧ v3 = .slice (some ⟨p3, 0, none⟩) R.length q3 := S8.someW ⟨HK.out.t, (decV_len _ _).trans HK.out.v, HK.out.r1, HK.out.r20⟩
      subst y4
      subst y5
      subst y6
      have HS8 : Hid (SV w8 w1.heap.size (.slice (some ⟨p1, 0, none⟩) R.length q1) (.slice (some ⟨p2, 0, none⟩) R.length q2) (.slice (some ⟨p3, 0, none⟩) R.length q3) ((⟨ph, buf, he, fr, bo, R, n, T, V⟩ : Sn).lost ⟨#[116, 105, 109, 101, 111, 117, 116]⟩)) := S8
      have HZ8 : Hid (SB (w.heap.size + 1 + 1) sn0 (.slice none 0 0) (.slice none 0 0) (.slice none 0 0) w8) := SB.below HZ1.out hb8
      have b8 : Below w.heap.size w w8 := b1.trans (hb8.mono b1.size)
      obtain ⟨r0, r1, r2, r3, r4, r5, r6, r7, r8⟩ := HZ8.out.zero
      obtain ⟨rf0, rf1, rf2, rf3, rf4, rf5, rf6, rf7, rf8⟩ := HZ8.out.frees
      clear S8 hb8
      dsimp only [Sn.lost, Sn.to, Sn.dec]
      go_wp2
      refine bodyPost_ret (v := .tuple #[.agg #[.int .i64 9, .string ⟨#[]⟩, .string he, .string fr, .string bo, (.slice (some ⟨p1, 0, none⟩) R.length q1), .int .i64 (n : Int), (.slice (some ⟨p2, 0, none⟩) R.length q2), (.slice (some ⟨p3, 0, none⟩) R.length q3)], .string ⟨#[]⟩]) (by simp [results, Tryz.results11, go_sem, r0, r1, r2, r3, r4, r5, r6, r7, r8]) rfl ?_
      rw [HF.out]
      exact ⟨⟨_, _, _, rfl, (HS8.out.nine (b := w.heap.size + 1 + 1) (by omega) _ _ _ _ _ _ _ _ _).le (by omega)⟩, below_nine b8 (by omega) _ _ _ _ _ _ _ _ _⟩
    · have hb3 : (kind == 3) = false := beq_eq_false_iff_ne.2 e3
      have H3 : Hid (kind ≠ 3) := e3
      clear e3
      by_cases e1 : kind = 1
      · rw [e1] at y0 hb3
        by_cases hbig : 40000 < buf.size + d.size
        · have HF : Hid ((⟨ph, buf, he, fr, bo, R, n, T, V⟩ : Sn).feed true kind d = ((⟨ph, buf, he, fr, bo, R, n, T, V⟩ : Sn).lost tBad, ⟨#[]⟩)) := by
            show _ = _
            unfold Sn.feed
            rw [if_neg (by decide), if_neg H9.out, if_neg H3.out, if_neg (by omega), if_pos hbig]
          clear e1
          go_wp2_with fail
          refine (specLost (⟨ph, buf, he, fr, bo, R, n, T, V⟩ : Sn) tBad _ _ _ lo w1 HK.out (H.out.below b1 (Nat.le_refl _))).mono ?_
          rintro e w8 ⟨⟨v1, v2, v3, rfl, S8⟩, hb8⟩
          obtain ⟨p1, p2, p3, q1, q2, q3, y4, y5, y6⟩ : ∃ p1 p2 p3 q1 q2 q3, v1 = .slice (some ⟨p1, 0, none⟩) R.length q1 ∧ v2 = .slice (some ⟨p2, 0, none⟩) R.length q2 ∧ v3 = .slice (some ⟨p3, 0, none⟩) R.length q3 := S8.someW ⟨HK.out.t, (decV_len _ _).trans HK.out.v, HK.out.r1, HK.out.r20⟩
          subst y4
          subst y5
          subst y6
          have HS8 : Hid (SV w8 w1.heap.size (.slice (some ⟨p1, 0, none⟩) R.length q1) (.slice (some ⟨p2, 0, none⟩) R.length q2) (.slice (some ⟨p3, 0, none⟩) R.length q3) ((⟨ph, buf, he, fr, bo, R, n, T, V⟩ : Sn).lost tBad)) := S8
          have HZ8 : Hid (SB (w.heap.size + 1 + 1) sn0 (.slice none 0 0) (.slice none 0 0) (.slice none 0 0) w8) := SB.below HZ1.out hb8
          have b8 : Below w.heap.size w w8 := b1.trans (hb8.mono b1.size)
          obtain ⟨r0, r1, r2, r3, r4, r5, r6, r7, r8⟩ := HZ8.out.zero
          obtain ⟨rf0, rf1, rf2, rf3, rf4, rf5, rf6, rf7, rf8⟩ := HZ8.out.frees
          clear S8 hb8
          dsimp only [Sn.lost, Sn.to, Sn.dec]
          go_wp2
          refine bodyPost_ret (v := .tuple #[.agg #[.int .i64 9, .string ⟨#[]⟩, .string he, .string fr, .string bo, (.slice (some ⟨p1, 0, none⟩) R.length q1), .int .i64 (n : Int), (.slice (some ⟨p2, 0, none⟩) R.length q2), (.slice (some ⟨p3, 0, none⟩) R.length q3)], .string ⟨#[]⟩]) (by simp [results, Tryz.results11, go_sem, r0, r1, r2, r3, r4, r5, r6, r7, r8]) rfl ?_
          rw [HF.out]
          exact ⟨⟨_, _, _, rfl, (HS8.out.nine (b := w.heap.size + 1 + 1) (by omega) _ _ _ _ _ _ _ _ _).le (by omega)⟩, below_nine b8 (by omega) _ _ _ _ _ _ _ _ _⟩
        · have HF : Hid ((⟨ph, buf, he, fr, bo, R, n, T, V⟩ : Sn).feed true kind d = Sn.rep (buf.size + d.size + 1) { (⟨ph, buf, he, fr, bo, R, n, T, V⟩ : Sn) with buf := buf ++ d }) := by
            show _ = _
            unfold Sn.feed
            rw [if_neg (by decide), if_neg H9.out, if_neg H3.out, if_neg (by omega), if_neg hbig]
          clear e1
          have hadd : ∀ wx : World, (Op.stringOp .add buf d).run Tryz.prog wx = .ok (.string (buf ++ d)) wx := fun wx => run_string_add_sum wx buf d (by omega)
          have HKb : Hid ({ (⟨ph, buf, he, fr, bo, R, n, T, V⟩ : Sn) with buf := buf ++ d } : Sn).Ok := ⟨HK.out.p1, HK.out.p9, HK.out.t, HK.out.v, HK.out.r1, HK.out.r20, HK.out.n, HK.out.n5, HK.out.he, HK.out.fr, HK.out.bo, HK.out.rs, by show (buf ++ d).size ≤ _; rw [ByteArray.size_append]; omega⟩
          go_wp2_with fail
          refine (specCopy (⟨ph, buf, he, fr, bo, R, n, T, V⟩ : Sn) _ _ _ lo w1 HK.out.wf (H.out.below b1 (Nat.le_refl _))).mono ?_
          rintro e w2 ⟨⟨v1, v2, v3, rfl, S2⟩, hb2⟩
          obtain ⟨p1, p2, p3, q1, q2, q3, y4, y5, y6⟩ : ∃ p1 p2 p3 q1 q2 q3, v1 = .slice (some ⟨p1, 0, none⟩) R.length q1 ∧ v2 = .slice (some ⟨p2, 0, none⟩) R.length q2 ∧ v3 = .slice (some ⟨p3, 0, none⟩) R.length q3 := S2.someW HK.out.wf
          subst y4
          subst y5
          subst y6
          have HS2 : Hid (SV w2 w1.heap.size (.slice (some ⟨p1, 0, none⟩) R.length q1) (.slice (some ⟨p2, 0, none⟩) R.length q2) (.slice (some ⟨p3, 0, none⟩) R.length q3) (⟨ph, buf, he, fr, bo, R, n, T, V⟩ : Sn)) := S2
          have HZ2 : Hid (SB (w.heap.size + 1 + 1) sn0 (.slice none 0 0) (.slice none 0 0) (.slice none 0 0) w2) := SB.below HZ1.out hb2
          have HE2 : Hid (Blk (w.heap.size + 1) #[.int .i64 kind, .string d] w2) := Blk.below HE1.out hb2
          have y2 : w2.cell? ⟨w.heap.size + 1, 1, none⟩ = some (.string d) := HE2.out.cell 1
          have b2 : Below w.heap.size w w2 := b1.trans (hb2.mono b1.size)
          have z2 := hb2.size
          have zE : w.heap.size + 1 < w2.heap.size := by omega
          clear S2 hb2 HA1 HE1 HZ1 b1 t0 t1 t2 t3 t4 t5 t6 t7 t8 y0 y1
          dsimp only
          go_wp2_with fail
          generalize hW4 : World.alloc _ _ = W4
          have hbb : Below w2.heap.size w2 W4 := by rw [← hW4]; exact below1 _ _
          have HZ4 : Hid (SB (w.heap.size + 1 + 1) sn0 (.slice none 0 0) (.slice none 0 0) (.slice none 0 0) W4) := SB.below HZ2.out hbb
          have b4 : Below w.heap.size w W4 := b2.trans (hbb.mono b2.size)
          have HS4 : Hid (SV W4 w1.heap.size (.slice (some ⟨p1, 0, none⟩) R.length q1) (.slice (some ⟨p2, 0, none⟩) R.length q2) (.slice (some ⟨p3, 0, none⟩) R.length q3) ({ (⟨ph, buf, he, fr, bo, R, n, T, V⟩ : Sn) with buf := buf ++ d } : Sn)) := HS2.out.below hbb (Nat.le_refl _)
          have z4 : w2.heap.size ≤ W4.heap.size := hbb.size
          have hszb : (buf ++ d).size < buf.size + d.size + 1 := by rw [ByteArray.size_append]; omega
          have hwf := rep_okS (buf.size + d.size + 1) { (⟨ph, buf, he, fr, bo, R, n, T, V⟩ : Sn) with buf := buf ++ d } HKb.out
          clear hW4 hbb
          refine (specReplies (buf.size + d.size + 1) { (⟨ph, buf, he, fr, bo, R, n, T, V⟩ : Sn) with buf := buf ++ d } _ _ _ w1.heap.size W4 (by omega) HKb.out H9.out hszb HS4.out).mono ?_
          generalize hQ : Sn.rep (buf.size + d.size + 1) { (⟨ph, buf, he, fr, bo, R, n, T, V⟩ : Sn) with buf := buf ++ d } = Q at *
          rintro e w8 ⟨⟨v4, v5, v6, rfl, S8⟩, hb8⟩
          obtain ⟨d1, d2, d3, e1, e2, e3, rfl, rfl, rfl⟩ := S8.someW hwf
          have HS8 : Hid (SV w8 w1.heap.size (.slice (some ⟨d1, 0, none⟩) Q.1.R.length e1) (.slice (some ⟨d2, 0, none⟩) Q.1.R.length e2) (.slice (some ⟨d3, 0, none⟩) Q.1.R.length e3) Q.1) := S8
          have HZ8 : Hid (SB (w.heap.size + 1 + 1) sn0 (.slice none 0 0) (.slice none 0 0) (.slice none 0 0) w8) := SB.below HZ4.out hb8
          have b8 : Below w.heap.size w w8 := b4.trans (hb8.mono b4.size)
          have HF2 : Hid ((⟨ph, buf, he, fr, bo, R, n, T, V⟩ : Sn).feed true kind d = Q) := HF.out
          obtain ⟨r0, r1, r2, r3, r4, r5, r6, r7, r8⟩ := HZ8.out.zero
          obtain ⟨rf0, rf1, rf2, rf3, rf4, rf5, rf6, rf7, rf8⟩ := HZ8.out.frees
          clear S8 hb8 hQ HF hwf hszb
          go_wp2
          refine bodyPost_ret (v := .tuple #[.agg #[.int .i64 Q.1.ph, .string Q.1.buf, .string Q.1.he, .string Q.1.fr, .string Q.1.bo, (.slice (some ⟨d1, 0, none⟩) Q.1.R.length e1), .int .i64 (Q.1.nx : Int), (.slice (some ⟨d2, 0, none⟩) Q.1.R.length e2), (.slice (some ⟨d3, 0, none⟩) Q.1.R.length e3)], .string Q.2]) (by simp [results, Tryz.results11, go_sem, r0, r1, r2, r3, r4, r5, r6, r7, r8]) rfl ?_
          rw [HF2.out]
          exact ⟨⟨_, _, _, rfl, (HS8.out.nine (b := w.heap.size + 1 + 1) (by omega) _ _ _ _ _ _ _ _ _).le (by omega)⟩, below_nine b8 (by omega) _ _ _ _ _ _ _ _ _⟩
      · have hb1 : (kind == 1) = false := beq_eq_false_iff_ne.2 e1
        have HF : Hid ((⟨ph, buf, he, fr, bo, R, n, T, V⟩ : Sn).feed true kind d = ((⟨ph, buf, he, fr, bo, R, n, T, V⟩ : Sn).lost ⟨#[99, 108, 111, 115, 101, 100]⟩, ⟨#[]⟩)) := by
          show _ = _
          unfold Sn.feed
          rw [if_neg (by decide), if_neg H9.out, if_neg H3.out, if_pos e1]
        clear e1
        go_wp2_with fail
        refine (specLost (⟨ph, buf, he, fr, bo, R, n, T, V⟩ : Sn) ⟨#[99, 108, 111, 115, 101, 100]⟩ _ _ _ lo w1 HK.out (H.out.below b1 (Nat.le_refl _))).mono ?_
        rintro e w8 ⟨⟨v1, v2, v3, rfl, S8⟩, hb8⟩
        obtain ⟨p1, p2, p3, q1, q2, q3, y4, y5, y6⟩ : ∃ p1 p2 p3 q1 q2 q3, v1 = .slice (some ⟨p1, 0, none⟩) R.length q1 ∧ v2 = .slice (some ⟨p2, 0, none⟩) R.length q2 ∧ v3 = .slice (some ⟨p3, 0, none⟩) R.length q3 := S8.someW ⟨HK.out.t, (decV_len _ _).trans HK.out.v, HK.out.r1, HK.out.r20⟩
        subst y4
        subst y5
        subst y6
        have HS8 : Hid (SV w8 w1.heap.size (.slice (some ⟨p1, 0, none⟩) R.length q1) (.slice (some ⟨p2, 0, none⟩) R.length q2) (.slice (some ⟨p3, 0, none⟩) R.length q3) ((⟨ph, buf, he, fr, bo, R, n, T, V⟩ : Sn).lost ⟨#[99, 108, 111, 115, 101, 100]⟩)) := S8
        have HZ8 : Hid (SB (w.heap.size + 1 + 1) sn0 (.slice none 0 0) (.slice none 0 0) (.slice none 0 0) w8) := SB.below HZ1.out hb8
        have b8 : Below w.heap.size w w8 := b1.trans (hb8.mono b1.size)
        obtain ⟨r0, r1, r2, r3, r4, r5, r6, r7, r8⟩ := HZ8.out.zero
        obtain ⟨rf0, rf1, rf2, rf3, rf4, rf5, rf6, rf7, rf8⟩ := HZ8.out.frees
        clear S8 hb8
        dsimp only [Sn.lost, Sn.to, Sn.dec]
        go_wp2
        refine bodyPost_ret (v := .tuple #[.agg #[.int .i64 9, .string ⟨#[]⟩, .string he, .string fr, .string bo, (.slice (some ⟨p1, 0, none⟩) R.length q1), .int .i64 (n : Int), (.slice (some ⟨p2, 0, none⟩) R.length q2), (.slice (some ⟨p3, 0, none⟩) R.length q3)], .string ⟨#[]⟩]) (by simp [results, Tryz.results11, go_sem, r0, r1, r2, r3, r4, r5, r6, r7, r8]) rfl ?_
        rw [HF.out]
        exact ⟨⟨_, _, _, rfl, (HS8.out.nine (b := w.heap.size + 1 + 1) (by omega) _ _ _ _ _ _ _ _ _).le (by omega)⟩, below_nine b8 (by omega) _ _ _ _ _ _ _ _ _⟩
end Go.Proofs.YtngcjlghjidnjaaGreatDoor
