import Derived.Test.YtfkngjdclggfbaaDoorMg29
import Derived.Test.YtfkngjdclggfbaaDoorMg26
namespace Go.Proofs.YtfkngjdclggfbaaDoor
open Go.ChangeShapes Go.WideShapes Go.ChangeAt Go.RowKit

set_option maxHeartbeats 4000000 in
set_option maxRecDepth 100000 in
theorem implProper (ph nx : Int) (buf he fr bo : ByteArray) (u1 u2 u3 : Value) (R : List ByteArray) (T : List Bool) (V : List Vd) (lo : Nat) (w : World) (s1 : Strs w lo u1 R) (s2 : Bls w lo u2 T) (s3 : Vds w lo u3 V) (hsm : Small9 buf he fr bo R T V) (hl : LenIn w) :
    Calls Tryd.prog 17 #[.agg #[.int .i64 ph, .string buf, .string he, .string fr, .string bo, u1, .int .i64 nx, u2, u3]] w fun e w' => e = .returned (.bool (properN ph nx buf he fr bo R T V)) ∧ Below w.heap.size w w' := by
  have HL : Hid (LenIn w) := hl
  obtain ⟨m1, m2, m3, m4, m5, m6, m7, m8, m9⟩ := hsm
  have HR : Hid (ArgS w u1 R) := strs_args s1 (by unfold maxLen; omega) (fun s hs => by have := m6 s hs; unfold maxLen; omega)
  have HM6 : Hid (∀ s ∈ R, s.size ≤ 1048576) := m6
  have HV : Hid (Vds w lo u3 V) := s3
  obtain ⟨p1, q1, rfl⟩ := strs_form2 s1
  obtain ⟨p2, q2, rfl⟩ := bls_form s2
  obtain ⟨p3, q3, rfl⟩ := vds_form s3
  have HX9 : Hid (∀ x ∈ V, x.2.2.size ≤ 1048576) := m9
  have HF : Hid (¬ (1 ≤ ph ∧ ph ≤ 9 ∧ buf.size ≤ 40000 ∧ domOk he = true ∧ whomN fr R = true ∧ bodyOk bo = true ∧ T.length = R.length ∧ V.length = R.length ∧ 0 ≤ nx ∧ nx ≤ (R.length : Int) ∧ ¬ (nx = (R.length : Int) ∧ ph = 5)) → properN ph nx buf he fr bo R T V = false) := proper_head
  have HB : Hid (∀ k (hk : k < V.length), vdOk V[k] = false → properN ph nx buf he fr bo R T V = false) := fun k hk h => proper_bad hk h
  have HGd : Hid ((1 ≤ ph ∧ ph ≤ 9 ∧ buf.size ≤ 40000 ∧ domOk he = true ∧ whomN fr R = true ∧ bodyOk bo = true ∧ T.length = R.length ∧ V.length = R.length ∧ 0 ≤ nx ∧ nx ≤ (R.length : Int) ∧ ¬ (nx = (R.length : Int) ∧ ph = 5)) → (∀ k (hk : k < V.length), vdOk V[k] = true) → properN ph nx buf he fr bo R T V = true) := proper_good
  generalize properN ph nx buf he fr bo R T V = PN at *
  clear s1 s2 s3 m6 m9 hl
  by_cases c1 : ph < 1
  · have G : Hid (PN = false) := HF.out (fun h => by omega)
    go_enter Tryd.func17, Tryd.ntmps17
    go_wp2
    go_ret
    exact ⟨ret_bool G.out.symm, below1 _ _⟩
  by_cases c2 : 9 < ph
  · have G : Hid (PN = false) := HF.out (fun h => by omega)
    go_enter Tryd.func17, Tryd.ntmps17
    go_wp2
    go_ret
    exact ⟨ret_bool G.out.symm, below1 _ _⟩
  by_cases c3 : 40000 < buf.size
  · have G : Hid (PN = false) := HF.out (fun h => by omega)
    have c3i : (40000 : Int) < buf.size := by omega
    go_enter Tryd.func17, Tryd.ntmps17
    go_wp2
    go_ret
    exact ⟨ret_bool G.out.symm, below1 _ _⟩
  have c3i : ¬ (40000 : Int) < buf.size := by omega
  go_enter Tryd.func17, Tryd.ntmps17
  go_wp2_with fail
  generalize hW : w.alloc _ = W
  have hA : Hid (Blk w.heap.size #[.int .i64 ph, .string buf, .string he, .string fr, .string bo, .slice p1 R.length q1, .int .i64 nx, .slice p2 T.length q2, .slice p3 V.length q3] W) := by show Blk _ _ _; rw [← hW]; exact Blk.new w _ _
  have bw : Below w.heap.size w W := by rw [← hW]; exact below1 _ _
  clear hW
  refine (implDomain he _ (len_below HL.out bw) m2).mono ?_
  rintro e w1 ⟨rfl, hb1⟩
  have b1 : Below w.heap.size w w1 := bw.trans (hb1.mono bw.size)
  have hA1 : Hid _ := hA.out.below hb1
  clear hb1 hA bw
  have x3 : w1.cell? ⟨w.heap.size, 3, none⟩ = some (.string fr) := hA1.out.cell 3
  have x4 : w1.cell? ⟨w.heap.size, 4, none⟩ = some (.string bo) := hA1.out.cell 4
  have x5 : w1.cell? ⟨w.heap.size, 5, none⟩ = some (.slice p1 R.length q1) := hA1.out.cell 5
  have hd : domOk he = false ∨ domOk he = true := by cases domOk he <;> simp
  rcases hd with hd | hd
  · have G : Hid (PN = false) := HF.out (fun h => by rw [hd] at h; simp at h)
    rw [hd]
    go_wp2
    go_ret
    exact ⟨ret_bool G.out.symm, b1⟩
  rw [hd]
  go_wp2_with fail
  refine (implMail fr bo _ R _ (HR.out.below b1) m3 HM6.out m4 (len_below HL.out b1)).mono ?_
  rintro e w3 ⟨rfl, hb3⟩
  have b3 : Below w.heap.size w w3 := b1.trans (hb3.mono b1.size)
  have hA3 : Hid _ := hA1.out.below hb3
  clear hb3 hA1 b1 x3 x4 x5
  have hw : (whomN fr R && bodyOk bo) = false ∨ (whomN fr R = true ∧ bodyOk bo = true) := by cases whomN fr R <;> cases bodyOk bo <;> simp
  rcases hw with hw | ⟨hw, hbd⟩
  · have G : Hid (PN = false) := HF.out (fun h => by rw [h.2.2.2.2.1, h.2.2.2.2.2.1] at hw; simp at hw)
    rw [hw]
    go_wp2
    go_ret
    exact ⟨ret_bool G.out.symm, b3⟩
  rw [hw, hbd]
  have x0 : w3.cell? ⟨w.heap.size, 0, none⟩ = some (.int .i64 ph) := hA3.out.cell 0
  have x1 : w3.cell? ⟨w.heap.size, 1, none⟩ = some (.string buf) := hA3.out.cell 1
  have x2 : w3.cell? ⟨w.heap.size, 2, none⟩ = some (.string he) := hA3.out.cell 2
  have x3 : w3.cell? ⟨w.heap.size, 3, none⟩ = some (.string fr) := hA3.out.cell 3
  have x4 : w3.cell? ⟨w.heap.size, 4, none⟩ = some (.string bo) := hA3.out.cell 4
  have x5 : w3.cell? ⟨w.heap.size, 5, none⟩ = some (.slice p1 R.length q1) := hA3.out.cell 5
  have x6 : w3.cell? ⟨w.heap.size, 6, none⟩ = some (.int .i64 nx) := hA3.out.cell 6
  have x7 : w3.cell? ⟨w.heap.size, 7, none⟩ = some (.slice p2 T.length q2) := hA3.out.cell 7
  have x8 : w3.cell? ⟨w.heap.size, 8, none⟩ = some (.slice p3 V.length q3) := hA3.out.cell 8
  by_cases t1 : T.length = R.length
  rotate_left
  · have G : Hid (PN = false) := HF.out (fun h => t1 h.2.2.2.2.2.2.1)
    have tb : ((T.length : Int) != (R.length : Int)) = true := by rw [bne_iff_ne]; omega
    go_wp2
    go_ret
    exact ⟨ret_bool G.out.symm, b3⟩
  have tb : ((T.length : Int) != (R.length : Int)) = false := by simp [t1]
  by_cases t2 : V.length = R.length
  rotate_left
  · have G : Hid (PN = false) := HF.out (fun h => t2 h.2.2.2.2.2.2.2.1)
    have tb2 : ((V.length : Int) != (R.length : Int)) = true := by rw [bne_iff_ne]; omega
    go_wp2
    go_ret
    exact ⟨ret_bool G.out.symm, b3⟩
  have tb2 : ((V.length : Int) != (R.length : Int)) = false := by simp [t2]
  have HT1 : Hid (T.length = R.length) := t1
  have HT2 : Hid (V.length = R.length) := t2
  clear t1 t2
  go_wp2_with fail
  refine (implNext ph nx buf he fr bo p1 p2 p3 q1 q2 q3 R.length _ _ _).mono ?_
  rintro e w4 ⟨rfl, hb4⟩
  have b4 : Below w.heap.size w w4 := b3.trans (hb4.mono b3.size)
  have hA4 : Hid _ := hA3.out.below hb4
  clear hb4 hA3 b3 x0 x1 x2 x3 x4 x5 x6 x7 x8
  have x8 : w4.cell? ⟨w.heap.size, 8, none⟩ = some (.slice p3 V.length q3) := hA4.out.cell 8
  have hnn : nextN ph nx R.length = false ∨ nextN ph nx R.length = true := by cases nextN ph nx R.length <;> simp
  rcases hnn with hnn | hnn
  · have G : Hid (PN = false) := HF.out (fun h => by
      have := of_decide_eq_false hnn
      exact this ⟨h.2.2.2.2.2.2.2.2.1, h.2.2.2.2.2.2.2.2.2.1, h.2.2.2.2.2.2.2.2.2.2⟩)
    rw [hnn]
    go_wp2
    go_ret
    exact ⟨ret_bool G.out.symm, b4⟩
  have hnx := of_decide_eq_true hnn
  have HG2 := HGd.out ⟨by omega, by omega, by omega, hd, hw, hbd, HT1.out, HT2.out, hnx.1, hnx.2.1, hnx.2.2⟩
  rw [hnn]
  go_wp2_with fail
  clear x8 tb tb2 hd hw hbd hA4 hnn hnx
  have b3 := b4
  go_loopw [57] (fun iv wr => ∃ k : Nat, k ≤ V.length ∧ iv = .int .i64 k ∧ Below w.heap.size w wr ∧ Hid (∀ j (hj : j < V.length), j < k → vdOk V[j] = true)) (fun iv _ => V.length - (intOf iv).toNat)
  case atStart => exact ⟨0, Nat.zero_le _, rfl, b3, fun j _ hj => absurd hj (Nat.not_lt_zero _)⟩
  case round =>
    obtain ⟨k, hk, rfl, hb, HK⟩ := hrel
    by_cases hlt : k < V.length
    · obtain ⟨g, cap, hv, hs⟩ : ∃ g cap, Value.slice p3 V.length q3 = .slice (some ⟨g, 0, none⟩) V.length cap ∧ VdsAt w lo g cap V := by
        rcases HV.out.cases with ⟨_, h0⟩ | h
        · rw [h0] at hlt; exact absurd hlt (by simp)
        · exact h
      injection hv with hv1 _ hv3
      subst hv1 hv3
      obtain ⟨a0, a1, a2⟩ := hs.cell k hlt
      have y0 := (hb.cell (p := ⟨g, k * 3, none⟩) hs.lt).trans a0
      have y1 := (hb.cell (p := ⟨g, k * 3 + 1, none⟩) hs.lt).trans a1
      have y2 := (hb.cell (p := ⟨g, k * 3 + 2, none⟩) hs.lt).trans a2
      have hbz := hb.size
      have HBk : Hid (vdOk V[k] = false → PN = false) := HB.out k hlt
      have HKk : Hid (vdOk V[k] = true → ∀ j (hj : j < V.length), j < k + 1 → vdOk V[j] = true) := by
        intro h j hj hj2
        by_cases e : j = k
        · subst e; exact h
        · exact HK.out j hj (by omega)
      have hx9 := HX9.out V[k] (List.getElem_mem hlt)
      clear a0 a1 a2 hs HK
      generalize V[k] = X at *
      have bq : Below w.heap.size w (wr.alloc (.cells #[.int .i64 X.1, .int .i64 X.2.1, .string X.2.2] 44)) := hb.trans ((below1 wr _).mono hb.size)
      by_cases d1 : X.1 < 0
      · have G : Hid (PN = false) := HBk.out (vd_bad1 d1)
        go_wp2
        go_ret
        exact ⟨ret_bool G.out.symm, bq⟩
      by_cases d2 : 3 < X.1
      · have G : Hid (PN = false) := HBk.out (vd_bad2 d2)
        go_wp2
        go_ret
        exact ⟨ret_bool G.out.symm, bq⟩
      go_wp2_with fail
      refine (implReason X _ hx9).mono ?_
      rintro e w5 ⟨rfl, hb5⟩
      have b5 : Below w.heap.size w w5 := bq.trans (hb5.mono bq.size)
      clear hb5 bq y0 y1 y2
      have hcd : (codeOk X.2.1 && decide (X.2.2.size ≤ 512)) = false ∨ (codeOk X.2.1 && decide (X.2.2.size ≤ 512)) = true := by cases (codeOk X.2.1 && decide (X.2.2.size ≤ 512)) <;> simp
      rcases hcd with hcd | hcd
      · have G : Hid (PN = false) := HBk.out (by unfold vdOk; rw [hcd]; simp)
        rw [hcd]
        go_wp2
        go_ret
        exact ⟨ret_bool G.out.symm, b5⟩
      have HK2 : Hid (∀ j (hj : j < V.length), j < k + 1 → vdOk V[j] = true) := HKk.out (by
        unfold vdOk
        rw [hcd, decide_eq_true (show 0 ≤ X.1 by omega), decide_eq_true (show X.1 ≤ 3 by omega)]; rfl)
      rw [hcd]
      clear HKk HBk hcd
      go_wp2
      go_roundw
      case rel => exact ⟨k + 1, by omega, by go_num, b5, HK2⟩
      case measure => simp [intOf]; omega
    · obtain rfl : k = V.length := by omega
      have G : Hid (PN = true) := HG2 fun j hj => HK.out j hj hj
      go_wp2
      go_ret
      exact ⟨ret_bool G.out.symm, hb⟩
end Go.Proofs.YtfkngjdclggfbaaDoor
namespace Go.Proofs.YtfkngjdclggfbaaDoor
open Go.ChangeShapes Go.WideShapes Go.ChangeAt Go.RowKit

theorem vrow_snoc (L : List Vd) (v : Vd) : vrow (L ++ [v]) = vrow L ++ vcells v := by unfold vrow; simp

set_option maxHeartbeats 4000000 in
set_option maxRecDepth 100000 in
theorem specOpen (he fr bo : ByteArray) (v : Value) (L : List ByteArray) (w : World) (h : ArgS w v L) (hh : he.size ≤ 1048576) (hf : fr.size ≤ 1048576) (hs : ∀ s ∈ L, s.size ≤ 1048576) (hbo : bo.size ≤ 1048576) :
    Calls Tryd.prog 6 #[.string he, .string fr, v, .string bo] w fun e w' => OpenPost he fr bo L w e w' := by
  have HA : Hid (ArgS w v L) := h
  have HS : Hid (∀ s ∈ L, s.size ≤ 1048576) := hs
  obtain ⟨a, c, rfl⟩ := h.form
  clear h hs
  have hd : domOk he = false ∨ domOk he = true := by cases domOk he <;> simp
  rcases hd with hd | hd
  · go_enter Tryd.func6, Tryd.ntmps6
    go_wp2_with fail
    refine (specDomain he _ hh).mono ?_
    rw [hd]
    rintro e w1 ⟨rfl, hb1⟩
    obtain ⟨g0, g1, g2, g3, g4, g5, g6, g7, g8, f0, f1, f2, f3, f4, f5, f6, f7, f8, hrz⟩ := resZ_of (by simpa using hb1)
    go_wp2
    refine bodyPost_ret (v := .agg #[.int .i64 9, .string ⟨#[]⟩, .string ⟨#[]⟩, .string ⟨#[]⟩, .string ⟨#[]⟩, .slice none 0 0, .int .i64 0, .slice none 0 0, .slice none 0 0]) (by simp [results, Tryd.results6, go_sem, g0, g1, g2, g3, g4, g5, g6, g7, g8]) rfl (open_no (by unfold openOk; rw [hd]; rfl) ?_)
    repeat (refine Below.setCell ?_ (by simp) _)
    exact (below1 w _).trans (hb1.mono (by simp))
  · go_enter Tryd.func6, Tryd.ntmps6
    go_wp2_with fail
    refine (specDomain he _ hh).mono ?_
    rw [hd]
    rintro e w1 ⟨rfl, hb1⟩
    have b1 : Below w.heap.size w w1 := (below1 w _).trans (hb1.mono (by simp))
    go_wp2_with fail
    refine (specWhom fr _ L _ (HA.out.below b1) hf HS.out).mono ?_
    rintro e w2 ⟨rfl, hb2⟩
    have b2 : Below w.heap.size w w2 := b1.trans (hb2.mono b1.size)
    have b02 := hb1.trans (hb2.mono hb1.size)
    clear hb1 hb2 b1
    cases hm : whomN fr L
    · obtain ⟨g0, g1, g2, g3, g4, g5, g6, g7, g8, f0, f1, f2, f3, f4, f5, f6, f7, f8, hrz⟩ := resZ_of (by simpa using b02)
      go_wp2
      refine bodyPost_ret (v := .agg #[.int .i64 9, .string ⟨#[]⟩, .string ⟨#[]⟩, .string ⟨#[]⟩, .string ⟨#[]⟩, .slice none 0 0, .int .i64 0, .slice none 0 0, .slice none 0 0]) (by simp [results, Tryd.results6, go_sem, g0, g1, g2, g3, g4, g5, g6, g7, g8]) rfl (open_no (by unfold openOk; rw [hm]; simp) ?_)
      repeat (refine Below.setCell ?_ (by simp) _)
      exact b2
    · go_wp2_with fail
      refine (specBody bo _ hbo).mono ?_
      rintro e w3 ⟨rfl, hb3⟩
      have b3 : Below w.heap.size w w3 := b2.trans (hb3.mono b2.size)
      have b03 := b02.trans (hb3.mono b02.size)
      have hrz3 := resZ_of (by simpa using b03)
      clear hb3 b2 b02
      cases hbk : bodyOk bo
      · obtain ⟨g0, g1, g2, g3, g4, g5, g6, g7, g8, f0, f1, f2, f3, f4, f5, f6, f7, f8, hrz⟩ := hrz3
        go_wp2
        refine bodyPost_ret (v := .agg #[.int .i64 9, .string ⟨#[]⟩, .string ⟨#[]⟩, .string ⟨#[]⟩, .string ⟨#[]⟩, .slice none 0 0, .int .i64 0, .slice none 0 0, .slice none 0 0]) (by simp [results, Tryd.results6, go_sem, g0, g1, g2, g3, g4, g5, g6, g7, g8]) rfl (open_no (by unfold openOk; rw [hbk]; simp) ?_)
        repeat (refine Below.setCell ?_ (by simp) _)
        exact b3
      · have hw : 1 ≤ L.length ∧ L.length ≤ 20 := by
          unfold whomN at hm
          simp only [Bool.and_eq_true, decide_eq_true_eq] at hm
          exact ⟨hm.2.1, hm.2.2.1⟩
        obtain ⟨b, off, cap, hv, hbw, hcell⟩ := HA.out.some hw.1
        injection hv with hv1 hv2 hv3
        subst hv1 hv3
        have HC : Hid (∀ i (hi : i < L.length), w.cell? ⟨b, off + i, none⟩ = some (.string L[i])) := hcell
        have hOK : openOk he fr bo L = true := by unfold openOk; rw [hd, hm, hbk]; rfl
        obtain ⟨i0, hi, hz0, hz1, hz2⟩ := info_parts infoStr
        obtain ⟨j0, hj, hy0, hy1, hy2⟩ := info_parts infoBool
        obtain ⟨k0, hk, hx0, hx1, hx2⟩ := info_parts infoVd
        have hlw : w.heap.size < w3.heap.size := by have := b03.size; simp at this; omega
        have HI : Hid (SpO w w3.heap.size he fr bo (.slice none 0 0) (.slice none 0 0) (.slice none 0 0) [] [] [] (w3.alloc (.cells #[.int .i64 1, .string ⟨#[]⟩, .string he, .string fr, .string bo, .slice none 0 0, .int .i64 0, .slice none 0 0, .slice none 0 0] 27))) := by
          have c : ∀ i, (w3.alloc (.cells #[.int .i64 1, .string ⟨#[]⟩, .string he, .string fr, .string bo, .slice none 0 0, .int .i64 0, .slice none 0 0, .slice none 0 0] 27)).cell? ⟨w3.heap.size, i, none⟩ = (#[.int .i64 1, .string ⟨#[]⟩, .string he, .string fr, .string bo, .slice none 0 0, .int .i64 0, .slice none 0 0, .slice none 0 0] : Array Value)[i]? := fun i => World.cell?_alloc_mark _ _ _ _ _
          exact ⟨hrz3.off (OffL.of_below (vs := []) (below1 w3 _)) hlw (fun v hv => by cases hv), hlw, by simp, c 0, c 1, c 2, c 3, c 4, c 5, c 6, c 7, c 8, fun o => World.frozen?_alloc_at _ _ _ _ rfl, World.ownsRow_nil _ _ _ _, World.ownsRow_nil _ _ _ _, World.ownsRow_nil _ _ _ _, by simp [Apart3, Value.ownBlock], b3.trans ((below1 w3 _).mono b3.size)⟩
        clear hcell hd hm hbk hrz3
        go_wp2_with fail
        generalize hW0 : w3.alloc _ = W0 at *
        generalize w3.heap.size = sb at *
        clear hW0
        go_loopw [33] (fun iv wr => ∃ (k : Nat) (a1 a2 a3 : Option Addr) (c1 c2 c3 : Nat), k ≤ L.length ∧ iv = .int .i64 k ∧ Hid (SpO w sb he fr bo (.slice a1 k c1) (.slice a2 k c2) (.slice a3 k c3) (L.take k) (List.replicate k false) (List.replicate k vd0) wr)) (fun iv _ => L.length - (intOf iv).toNat)
        case atStart => exact ⟨0, none, none, none, 0, 0, 0, Nat.zero_le _, rfl, HI⟩
        case round =>
          obtain ⟨k, a1, a2, a3, c1, c2, c3, hkl, rfl, H⟩ := hrel
          by_cases hlt : k < L.length
          · have H0 := H
            have ec := (H.out.bel.cell (p := ⟨b, off + k, none⟩) hbw).trans (HC.out k hlt)
            have HT1 : Hid (L.take (k + 1) = L.take k ++ [L[k]]) := by show _ = _; rw [List.take_succ_eq_append_getElem hlt]
            have HT2 : Hid ((L.take k).length = k) := by show _ = _; rw [List.length_take]; omega
            generalize L[k] = X at *
            have hown1 : wr.ownsRow (sb + 1) 9 1 (.slice a1 k c1) k ((L.take k).map Value.string) := by
              have := H0.out.s1
              unfold Strs at this
              rw [HT2.out] at this
              exact this
            have hl1 : sb < wr.heap.size := H0.out.lt
            have e1 := H0.out.c5
            go_wp2_with (at_builtin; refine wpList_append_lies _ rfl _ _ 22 rfl (sb + 1) 9 i0 (.string ⟨#[]⟩) 1 16 Tryd.underlying22 hi hz0 hz1 hz2 rfl (by decide) _ _ _ rfl (hown1.alloc _) ⟨wr.heap.size, 0, none⟩ 1 1 [.string X] rfl rfl ?c1 ?c2 ?c3 ?c4 ?c5 ?c6 (wr.heap.size + 1) ?c7 ?_)
            case c1 =>
              intro j u hj
              match j, hj with
              | 0, hj => simp at hj; subst hj; simp [Addr.add]
            case c2 => intro u hu; simp at hu; subst hu; rfl
            case c3 => decide
            case c4 => unfold maxLen; omega
            case c5 => omega
            case c6 => simp; omega
            case c7 => simp
            intro p1 q1 w1 hown1' hgrow1 hat1 hlt1
            have ho1 : OffL [(.slice a1 k c1)] wr w1 := (OffL.of_below (below1 wr _)).trans (OffL.ofGrown hgrow1 (by simp))
            have hlo1 : ∀ v ∈ ([(.slice a1 k c1)] : List Value), v.ownBlock ≠ some sb := fun v hv e => by
              rw [List.mem_singleton.1 hv] at e
              have := (hown1.lt sb e).1
              omega
            have e1' := (ho1.cell hl1 hlo1).trans e1
            have f1' := (ho1.frozen (i := 5) hl1 hlo1).trans (H0.out.fz 5)
            have H1' := H0.out.step1 (v' := .slice (some ⟨p1, 0, none⟩) (k + 1) q1) (R' := L.take (k + 1)) ho1 (by
              rcases hat1 with h | h
              · left; rw [h]; rfl
              · right; exact ⟨p1, rfl, by omega⟩) (by
              unfold Strs
              rw [HT1.out, List.length_append, HT2.out, List.map_append]
              simpa using hown1')
            clear hown1 hown1' hgrow1 hat1 ho1 hlo1
            go_upto_region 8 with fail
            generalize hW1 : World.setCell w1 _ _ = W1 at *
            have H1 : Hid _ := H1'
            clear e1' f1' H1' hW1 e1 H0
            have hown2 : W1.ownsRow (sb + 1) 4 1 (.slice a2 k c2) k ((List.replicate k false).map Value.bool) := by
              have := H1.out.s2
              unfold Bls at this
              rw [List.length_replicate] at this
              exact this
            have hl2 : sb < W1.heap.size := H1.out.lt
            have e2 := H1.out.c7
            go_wp2_with (at_builtin; refine wpList_append_lies _ rfl _ _ 24 rfl (sb + 1) 4 j0 (.bool false) 1 1 Tryd.underlying24 hj hy0 hy1 hy2 rfl (by decide) _ _ _ rfl (hown2.alloc _) ⟨W1.heap.size, 0, none⟩ 1 1 [.bool false] rfl rfl ?c1 ?c2 ?c3 ?c4 ?c5 ?c6 (W1.heap.size + 1) ?c7 ?_)
            case c1 =>
              intro j u hj
              match j, hj with
              | 0, hj => simp at hj; subst hj; simp [Addr.add]
            case c2 => intro u hu; simp at hu; subst hu; rfl
            case c3 => decide
            case c4 => unfold maxLen; omega
            case c5 => omega
            case c6 => simp; omega
            case c7 => simp
            intro p2 q2 w2 hown2' hgrow2 hat2 hlt2
            have ho2 : OffL [(.slice a2 k c2)] W1 w2 := (OffL.of_below (below1 W1 _)).trans (OffL.ofGrown hgrow2 (by simp))
            have hlo2 : ∀ v ∈ ([(.slice a2 k c2)] : List Value), v.ownBlock ≠ some sb := fun v hv e => by
              rw [List.mem_singleton.1 hv] at e
              have := (hown2.lt sb e).1
              omega
            have e2' := (ho2.cell hl2 hlo2).trans e2
            have f2' := (ho2.frozen (i := 7) hl2 hlo2).trans (H1.out.fz 7)
            have H2' := H1.out.step2 (v' := .slice (some ⟨p2, 0, none⟩) (k + 1) q2) (R' := List.replicate (k + 1) false) ho2 (by
              rcases hat2 with h | h
              · left; rw [h]; rfl
              · right; exact ⟨p2, rfl, by omega⟩) (by
              unfold Bls
              rw [List.length_replicate, List.replicate_succ', List.map_append]
              simpa using hown2')
            clear hown2 hown2' hgrow2 hat2 ho2 hlo2
            go_upto_region 9 with fail
            generalize hW2 : World.setCell w2 _ _ = W2 at *
            have H2 : Hid _ := H2'
            clear e2' f2' H2' hW2 e2 H1
            have hown3 : W2.ownsRow (sb + 1) 44 3 (.slice a3 k c3) k (vrow (List.replicate k vd0)) := by
              have := H2.out.s3
              unfold Vds at this
              rw [List.length_replicate] at this
              exact this
            have hl3 : sb < W2.heap.size := H2.out.lt
            have e3 := H2.out.c8
            go_wp2_with (at_builtin; refine wpList_append_lies _ rfl _ _ 25 rfl (sb + 1) 44 k0 (.agg #[.int .i64 0, .int .i64 0, .string ⟨#[]⟩]) 3 32 Tryd.underlying25 hk hx0 hx1 hx2 rfl (by decide) _ _ _ rfl (hown3.alloc _) ⟨W2.heap.size, 0, none⟩ 1 1 [.int .i64 0, .int .i64 0, .string ⟨#[]⟩] rfl rfl ?c1 ?c2 ?c3 ?c4 ?c5 ?c6 (W2.heap.size + 1) ?c7 ?_)
            case c1 =>
              intro j u hj
              exact World.news_of_block (lk_new _ _ _ rfl) j u (by simpa using hj)
            case c2 => intro u hu; simp at hu; rcases hu with rfl | rfl | rfl <;> rfl
            case c3 => decide
            case c4 => unfold maxLen; omega
            case c5 => omega
            case c6 => simp; omega
            case c7 => simp
            intro p3 q3 w3 hown3' hgrow3 hat3 hlt3
            have ho3 : OffL [(.slice a3 k c3)] W2 w3 := (OffL.of_below (below1 W2 _)).trans (OffL.ofGrown hgrow3 (by simp))
            have hlo3 : ∀ v ∈ ([(.slice a3 k c3)] : List Value), v.ownBlock ≠ some sb := fun v hv e => by
              rw [List.mem_singleton.1 hv] at e
              have := (hown3.lt sb e).1
              omega
            have e3' := (ho3.cell hl3 hlo3).trans e3
            have f3' := (ho3.frozen (i := 8) hl3 hlo3).trans (H2.out.fz 8)
            have H3' := H2.out.step3 (v' := .slice (some ⟨p3, 0, none⟩) (k + 1) q3) (R' := List.replicate (k + 1) vd0) ho3 (by
              rcases hat3 with h | h
              · left; rw [h]; rfl
              · right; exact ⟨p3, rfl, by omega⟩) (by
              unfold Vds
              rw [List.length_replicate, List.replicate_succ', vrow_snoc]
              exact hown3')
            clear hown3 hown3' hgrow3 hat3 ho3 hlo3
            go_upto_region 10 with fail
            generalize hW3 : World.setCell w3 _ _ = W3 at *
            have H3 : Hid _ := H3'
            clear e3' f3' H3' hW3 e3 H2
            go_wp2
            go_roundw
            case rel => exact ⟨k + 1, some ⟨p1, 0, none⟩, some ⟨p2, 0, none⟩, some ⟨p3, 0, none⟩, q1, q2, q3, by omega, by go_num, H3⟩
            case measure => simp [intOf]; omega
          · obtain rfl : k = L.length := by omega
            have HF := H.out
            obtain ⟨r0, r1, r2, r3, r4, r5, r6, r7, r8, f0, f1, f2, f3, f4, f5, f6, f7, f8, hrz⟩ := HF.res
            have d0 := HF.c0
            have d1 := HF.c1
            have d2 := HF.c2
            have d3 := HF.c3
            have d4 := HF.c4
            have d5 := HF.c5
            have d6 := HF.c6
            have d7 := HF.c7
            have d8 := HF.c8
            have hsl := HF.lo
            have HH : Hid _ := HF
            clear HF H HC HS HA
            go_wp2
            refine bodyPost_ret (v := .agg #[.int .i64 1, .string ⟨#[]⟩, .string he, .string fr, .string bo, .slice a1 L.length c1, .int .i64 0, .slice a2 L.length c2, .slice a3 L.length c3]) (by simp [results, Tryd.results6, go_sem, r0, r1, r2, r3, r4, r5, r6, r7, r8]) rfl ?_
            generalize hW : World.setCell _ ⟨w.heap.size, 8, none⟩ _ = W3
            unfold OpenPost
            rw [hOK]
            have hl1 : w.heap.size < sb + 1 := by omega
            refine ⟨⟨_, _, _, rfl, ⟨?_, ?_, ?_⟩, HH.out.ap⟩, ?_⟩
            · rw [← hW]
              have := HH.out.s1
              rw [List.take_length] at this
              refine strs_le ?_ (Nat.le_of_lt hl1)
              repeat (refine row_set_below ?_ hl1 _)
              exact this
            · rw [← hW]
              refine Go.Joins.ownsRow_le ?_ (Nat.le_of_lt hl1)
              repeat (refine row_set_below ?_ hl1 _)
              exact HH.out.s2
            · rw [← hW]
              refine Go.Joins.ownsRow_le ?_ (Nat.le_of_lt hl1)
              repeat (refine row_set_below ?_ hl1 _)
              exact HH.out.s3
            · rw [← hW]
              repeat (refine Below.setCell ?_ (by simp) _)
              exact HH.out.bel
end Go.Proofs.YtfkngjdclggfbaaDoor
