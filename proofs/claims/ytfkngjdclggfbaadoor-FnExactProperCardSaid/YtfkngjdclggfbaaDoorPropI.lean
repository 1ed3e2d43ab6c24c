import Derived.Test.YtfkngjdclggfbaaDoorPropR
namespace Go.Proofs.YtfkngjdclggfbaaDoor
open Go.ChangeShapes Go.WideShapes Go.ChangeAt Go.RowKit

set_option maxHeartbeats 4000000 in
set_option maxRecDepth 100000 in
theorem implProper (ph nx : Int) (buf he fr bo : ByteArray) (u1 u2 u3 : Value) (R : List ByteArray) (T : List Bool) (V : List Vd) (lo : Nat) (w : World) (s1 : Strs w lo u1 R) (s2 : Bls w lo u2 T) (s3 : Vds w lo u3 V) (hsm : Small9 buf he fr bo R T V) (hl : LenIn w) :
    Calls Tryd.prog 17 #[.agg #[.int .i64 ph, .string buf, .string he, .string fr, .string bo, u1, .int .i64 nx, u2, u3]] w fun e w' => e = .returned (.bool (properN ph nx buf he fr bo R T V)) ∧ Below w.heap.size w w' := by
  have HL : Hid (LenIn w) := hl
  obtain ⟨m1, m2, m3, m4, m5, m6, m7, m8, m9⟩ := hsm
  have HR : Hid (ArgS w u1 R) := strs_args s1 (by unfold maxLen; omega) (fun s hs => by have := m6 s hs; unfold maxLen; omega)
  have HM6 : Hid (∀ s ∈ R, s.size ≤ 1048576) := m6
  have HV : Hid (Vds w lo u3 V) := s3
  obtain ⟨p1, q1, rfl⟩ := strs_form2 s1
  obtain ⟨p2, q2, rfl⟩ := bls_form s2
  obtain ⟨p3, q3, rfl⟩ := vds_form s3
  have HX9 : Hid (∀ x ∈ V, x.2.2.size ≤ 1048576) := m9
  have HF : Hid (¬ (1 ≤ ph ∧ ph ≤ 9 ∧ buf.size ≤ 40000 ∧ domOk he = true ∧ whomN fr R = true ∧ bodyOk bo = true ∧ T.length = R.length ∧ V.length = R.length ∧ 0 ≤ nx ∧ nx ≤ (R.length : Int) ∧ ¬ (nx = (R.length : Int) ∧ ph = 5)) → properN ph nx buf he fr bo R T V = false) := proper_head
  have HB : Hid (∀ k (hk : k < V.length), vdOk V[k] = false → properN ph nx buf he fr bo R T V = false) := fun k hk h => proper_bad hk h
  have HGd : Hid ((1 ≤ ph ∧ ph ≤ 9 ∧ buf.size ≤ 40000 ∧ domOk he = true ∧ whomN fr R = true ∧ bodyOk bo = true ∧ T.length = R.length ∧ V.length = R.length ∧ 0 ≤ nx ∧ nx ≤ (R.length : Int) ∧ ¬ (nx = (R.length : Int) ∧ ph = 5)) → (∀ k (hk : k < V.length), vdOk V[k] = true) → properN ph nx buf he fr bo R T V = true) := proper_good
  generalize properN ph nx buf he fr bo R T V = PN at *
  clear s1 s2 s3 m6 m9 hl
  by_cases c1 : ph < 1
  · have G : Hid (PN = false) := HF.out (fun h => by omega)
    go_enter Tryd.func17, Tryd.ntmps17
    go_wp2
    go_ret
    exact ⟨ret_bool G.out.symm, below1 _ _⟩
  by_cases c2 : 9 < ph
  · have G : Hid (PN = false) := HF.out (fun h => by omega)
    go_enter Tryd.func17, Tryd.ntmps17
    go_wp2
    go_ret
    exact ⟨ret_bool G.out.symm, below1 _ _⟩
  by_cases c3 : 40000 < buf.size
  · have G : Hid (PN = false) := HF.out (fun h => by omega)
    have c3i : (40000 : Int) < buf.size := by omega
    go_enter Tryd.func17, Tryd.ntmps17
    go_wp2
    go_ret
    exact ⟨ret_bool G.out.symm, below1 _ _⟩
  have c3i : ¬ (40000 : Int) < buf.size := by omega
  go_enter Tryd.func17, Tryd.ntmps17
  go_wp2_with fail
  generalize hW : w.alloc _ = W
  have hA : Hid (Blk w.heap.size #[.int .i64 ph, .string buf, .string he, .string fr, .string bo, .slice p1 R.length q1, .int .i64 nx, .slice p2 T.length q2, .slice p3 V.length q3] W) := by show Blk _ _ _; rw [← hW]; exact Blk.new w _ _
  have bw : Below w.heap.size w W := by rw [← hW]; exact below1 _ _
  clear hW
  refine (implDomain he _ (len_below HL.out bw) m2).mono ?_
  rintro e w1 ⟨rfl, hb1⟩
  have b1 : Below w.heap.size w w1 := bw.trans (hb1.mono bw.size)
  have hA1 : Hid _ := hA.out.below hb1
  clear hb1 hA bw
  have x3 : w1.cell? ⟨w.heap.size, 3, none⟩ = some (.string fr) := hA1.out.cell 3
  have x4 : w1.cell? ⟨w.heap.size, 4, none⟩ = some (.string bo) := hA1.out.cell 4
  have x5 : w1.cell? ⟨w.heap.size, 5, none⟩ = some (.slice p1 R.length q1) := hA1.out.cell 5
  have hd : domOk he = false ∨ domOk he = true := by cases domOk he <;> simp
  rcases hd with hd | hd
  · have G : Hid (PN = false) := HF.out (fun h => by rw [hd] at h; simp at h)
    rw [hd]
    go_wp2
    go_ret
    exact ⟨ret_bool G.out.symm, b1⟩
  rw [hd]
  go_wp2_with fail
  refine (implMail fr bo _ R _ (HR.out.below b1) m3 HM6.out m4 (len_below HL.out b1)).mono ?_
  rintro e w3 ⟨rfl, hb3⟩
  have b3 : Below w.heap.size w w3 := b1.trans (hb3.mono b1.size)
  have hA3 : Hid _ := hA1.out.below hb3
  clear hb3 hA1 b1 x3 x4 x5
  have hw : (whomN fr R && bodyOk bo) = false ∨ (whomN fr R = true ∧ bodyOk bo = true) := by cases whomN fr R <;> cases bodyOk bo <;> simp
  rcases hw with hw | ⟨hw, hbd⟩
  · have G : Hid (PN = false) := HF.out (fun h => by rw [h.2.2.2.2.1, h.2.2.2.2.2.1] at hw; simp at hw)
    rw [hw]
    go_wp2
    go_ret
    exact ⟨ret_bool G.out.symm, b3⟩
  rw [hw, hbd]
  have x0 : w3.cell? ⟨w.heap.size, 0, none⟩ = some (.int .i64 ph) := hA3.out.cell 0
  have x1 : w3.cell? ⟨w.heap.size, 1, none⟩ = some (.string buf) := hA3.out.cell 1
  have x2 : w3.cell? ⟨w.heap.size, 2, none⟩ = some (.string he) := hA3.out.cell 2
  have x3 : w3.cell? ⟨w.heap.size, 3, none⟩ = some (.string fr) := hA3.out.cell 3
  have x4 : w3.cell? ⟨w.heap.size, 4, none⟩ = some (.string bo) := hA3.out.cell 4
  have x5 : w3.cell? ⟨w.heap.size, 5, none⟩ = some (.slice p1 R.length q1) := hA3.out.cell 5
  have x6 : w3.cell? ⟨w.heap.size, 6, none⟩ = some (.int .i64 nx) := hA3.out.cell 6
  have x7 : w3.cell? ⟨w.heap.size, 7, none⟩ = some (.slice p2 T.length q2) := hA3.out.cell 7
  have x8 : w3.cell? ⟨w.heap.size, 8, none⟩ = some (.slice p3 V.length q3) := hA3.out.cell 8
  by_cases t1 : T.length = R.length
  rotate_left
  · have G : Hid (PN = false) := HF.out (fun h => t1 h.2.2.2.2.2.2.1)
    have tb : ((T.length : Int) != (R.length : Int)) = true := by rw [bne_iff_ne]; omega
    go_wp2
    go_ret
    exact ⟨ret_bool G.out.symm, b3⟩
  have tb : ((T.length : Int) != (R.length : Int)) = false := by simp [t1]
  by_cases t2 : V.length = R.length
  rotate_left
  · have G : Hid (PN = false) := HF.out (fun h => t2 h.2.2.2.2.2.2.2.1)
    have tb2 : ((V.length : Int) != (R.length : Int)) = true := by rw [bne_iff_ne]; omega
    go_wp2
    go_ret
    exact ⟨ret_bool G.out.symm, b3⟩
  have tb2 : ((V.length : Int) != (R.length : Int)) = false := by simp [t2]
  have HT1 : Hid (T.length = R.length) := t1
  have HT2 : Hid (V.length = R.length) := t2
  clear t1 t2
  go_wp2_with fail
  refine (implNext ph nx buf he fr bo p1 p2 p3 q1 q2 q3 R.length _ _ _).mono ?_
  rintro e w4 ⟨rfl, hb4⟩
  have b4 : Below w.heap.size w w4 := b3.trans (hb4.mono b3.size)
  have hA4 : Hid _ := hA3.out.below hb4
  clear hb4 hA3 b3 x0 x1 x2 x3 x4 x5 x6 x7 x8
  have x8 : w4.cell? ⟨w.heap.size, 8, none⟩ = some (.slice p3 V.length q3) := hA4.out.cell 8
  have hnn : nextN ph nx R.length = false ∨ nextN ph nx R.length = true := by cases nextN ph nx R.length <;> simp
  rcases hnn with hnn | hnn
  · have G : Hid (PN = false) := HF.out (fun h => by
      have := of_decide_eq_false hnn
      exact this ⟨h.2.2.2.2.2.2.2.2.1, h.2.2.2.2.2.2.2.2.2.1, h.2.2.2.2.2.2.2.2.2.2⟩)
    rw [hnn]
    go_wp2
    go_ret
    exact ⟨ret_bool G.out.symm, b4⟩
  have hnx := of_decide_eq_true hnn
  have HG2 := HGd.out ⟨by omega, by omega, by omega, hd, hw, hbd, HT1.out, HT2.out, hnx.1, hnx.2.1, hnx.2.2⟩
  rw [hnn]
  go_wp2_with fail
  clear x8 tb tb2 hd hw hbd hA4 hnn hnx
  have b3 := b4
  go_loopw [57] (fun iv wr => ∃ k : Nat, k ≤ V.length ∧ iv = .int .i64 k ∧ Below w.heap.size w wr ∧ Hid (∀ j (hj : j < V.length), j < k → vdOk V[j] = true)) (fun iv _ => V.length - (intOf iv).toNat)
  case atStart => exact ⟨0, Nat.zero_le _, rfl, b3, fun j _ hj => absurd hj (Nat.not_lt_zero _)⟩
  case round =>
    obtain ⟨k, hk, rfl, hb, HK⟩ := hrel
    by_cases hlt : k < V.length
    · obtain ⟨g, cap, hv, hs⟩ : ∃ g cap, Value.slice p3 V.length q3 = .slice (some ⟨g, 0, none⟩) V.length cap ∧ VdsAt w lo g cap V := by
        rcases HV.out.cases with ⟨_, h0⟩ | h
        · rw [h0] at hlt; exact absurd hlt (by simp)
        · exact h
      injection hv with hv1 _ hv3
      subst hv1 hv3
      obtain ⟨a0, a1, a2⟩ := hs.cell k hlt
      have y0 := (hb.cell (p := ⟨g, k * 3, none⟩) hs.lt).trans a0
      have y1 := (hb.cell (p := ⟨g, k * 3 + 1, none⟩) hs.lt).trans a1
      have y2 := (hb.cell (p := ⟨g, k * 3 + 2, none⟩) hs.lt).trans a2
      have hbz := hb.size
      have HBk : Hid (vdOk V[k] = false → PN = false) := HB.out k hlt
      have HKk : Hid (vdOk V[k] = true → ∀ j (hj : j < V.length), j < k + 1 → vdOk V[j] = true) := by
        intro h j hj hj2
        by_cases e : j = k
        · subst e; exact h
        · exact HK.out j hj (by omega)
      have hx9 := HX9.out V[k] (List.getElem_mem hlt)
      clear a0 a1 a2 hs HK
      generalize V[k] = X at *
      have bq : Below w.heap.size w (wr.alloc (.cells #[.int .i64 X.1, .int .i64 X.2.1, .string X.2.2] 44)) := hb.trans ((below1 wr _).mono hb.size)
      by_cases d1 : X.1 < 0
      · have G : Hid (PN = false) := HBk.out (vd_bad1 d1)
        go_wp2
        go_ret
        exact ⟨ret_bool G.out.symm, bq⟩
      by_cases d2 : 3 < X.1
      · have G : Hid (PN = false) := HBk.out (vd_bad2 d2)
        go_wp2
        go_ret
        exact ⟨ret_bool G.out.symm, bq⟩
      go_wp2_with fail
      refine (implReason X _ hx9).mono ?_
      rintro e w5 ⟨rfl, hb5⟩
      have b5 : Below w.heap.size w w5 := bq.trans (hb5.mono bq.size)
      clear hb5 bq y0 y1 y2
      have hcd : (codeOk X.2.1 && decide (X.2.2.size ≤ 512)) = false ∨ (codeOk X.2.1 && decide (X.2.2.size ≤ 512)) = true := by cases (codeOk X.2.1 && decide (X.2.2.size ≤ 512)) <;> simp
      rcases hcd with hcd | hcd
      · have G : Hid (PN = false) := HBk.out (by unfold vdOk; rw [hcd]; simp)
        rw [hcd]
        go_wp2
        go_ret
        exact ⟨ret_bool G.out.symm, b5⟩
      have HK2 : Hid (∀ j (hj : j < V.length), j < k + 1 → vdOk V[j] = true) := HKk.out (by
        unfold vdOk
        rw [hcd, decide_eq_true (show 0 ≤ X.1 by omega), decide_eq_true (show X.1 ≤ 3 by omega)]; rfl)
      rw [hcd]
      clear HKk HBk hcd
      go_wp2
      go_roundw
      case rel => exact ⟨k + 1, by omega, by go_num, b5, HK2⟩
      case measure => simp [intOf]; omega
    · obtain rfl : k = V.length := by omega
      have G : Hid (PN = true) := HG2 fun j hj => HK.out j hj hj
      go_wp2
      go_ret
      exact ⟨ret_bool G.out.symm, hb⟩
end Go.Proofs.YtfkngjdclggfbaaDoor
