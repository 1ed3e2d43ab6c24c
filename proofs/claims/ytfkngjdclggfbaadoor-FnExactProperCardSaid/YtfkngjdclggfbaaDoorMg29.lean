import Derived.Test.YtfkngjdclggfbaaDoorMg28
import Derived.Test.YtfkngjdclggfbaaDoorMg18
namespace Go.Proofs.YtfkngjdclggfbaaDoor
open Go.ChangeShapes Go.WideShapes Go.ChangeAt Go.RowKit

def vdOk (v : Vd) : Bool := decide (0 ≤ v.1) && (decide (v.1 ≤ 3) && (codeOk v.2.1 && decide (v.2.2.size ≤ 512)))
def properN (ph nx : Int) (buf he fr bo : ByteArray) (R : List ByteArray) (T : List Bool) (V : List Vd) : Bool :=
  decide (1 ≤ ph ∧ ph ≤ 9 ∧ buf.size ≤ 40000 ∧ domOk he = true ∧ whomN fr R = true ∧ bodyOk bo = true ∧ T.length = R.length ∧ V.length = R.length ∧ 0 ≤ nx ∧ nx ≤ (R.length : Int) ∧ ¬ (nx = (R.length : Int) ∧ ph = 5)) && V.all vdOk
theorem proper_head {ph nx : Int} {buf he fr bo : ByteArray} {R : List ByteArray} {T : List Bool} {V : List Vd} (h : ¬ (1 ≤ ph ∧ ph ≤ 9 ∧ buf.size ≤ 40000 ∧ domOk he = true ∧ whomN fr R = true ∧ bodyOk bo = true ∧ T.length = R.length ∧ V.length = R.length ∧ 0 ≤ nx ∧ nx ≤ (R.length : Int) ∧ ¬ (nx = (R.length : Int) ∧ ph = 5))) : properN ph nx buf he fr bo R T V = false := by
  unfold properN; rw [decide_eq_false h]; rfl
theorem proper_bad {ph nx : Int} {buf he fr bo : ByteArray} {R : List ByteArray} {T : List Bool} {V : List Vd} {k : Nat} (hk : k < V.length) (h : vdOk V[k] = false) : properN ph nx buf he fr bo R T V = false := by
  unfold properN
  rw [List.all_eq_false.2 ⟨V[k], List.getElem_mem hk, by rw [h]; decide⟩]; simp
theorem proper_good {ph nx : Int} {buf he fr bo : ByteArray} {R : List ByteArray} {T : List Bool} {V : List Vd} (h : (1 ≤ ph ∧ ph ≤ 9 ∧ buf.size ≤ 40000 ∧ domOk he = true ∧ whomN fr R = true ∧ bodyOk bo = true ∧ T.length = R.length ∧ V.length = R.length ∧ 0 ≤ nx ∧ nx ≤ (R.length : Int) ∧ ¬ (nx = (R.length : Int) ∧ ph = 5))) (h2 : ∀ k (hk : k < V.length), vdOk V[k] = true) : properN ph nx buf he fr bo R T V = true := by
  unfold properN
  rw [decide_eq_true h, List.all_eq_true.2 (fun x hx => by obtain ⟨k, hk, rfl⟩ := List.getElem_of_mem hx; exact h2 k hk)]; rfl

theorem vd_bad1 {x : Vd} (h : x.1 < 0) : vdOk x = false := by unfold vdOk; rw [decide_eq_false (by omega)]; rfl
theorem vd_bad2 {x : Vd} (h : 3 < x.1) : vdOk x = false := by unfold vdOk; rw [decide_eq_false (show ¬ x.1 ≤ 3 by omega)]; simp
theorem vd_bad3 {x : Vd} (h : codeOk x.2.1 = false) : vdOk x = false := by unfold vdOk; rw [h]; simp
theorem vd_bad4 {x : Vd} (h : 512 < x.2.2.size) : vdOk x = false := by unfold vdOk; rw [decide_eq_false (show ¬ x.2.2.size ≤ 512 by omega)]; simp
theorem vd_good {x : Vd} (h1 : ¬ x.1 < 0) (h2 : ¬ 3 < x.1) (h3 : codeOk x.2.1 = true) (h4 : ¬ 512 < x.2.2.size) : vdOk x = true := by
  unfold vdOk; rw [decide_eq_true (show 0 ≤ x.1 by omega), decide_eq_true (show x.1 ≤ 3 by omega), h3, decide_eq_true (show x.2.2.size ≤ 512 by omega)]; rfl

set_option maxHeartbeats 4000000 in
set_option maxRecDepth 100000 in
theorem specProper (ph nx : Int) (buf he fr bo : ByteArray) (u1 u2 u3 : Value) (R : List ByteArray) (T : List Bool) (V : List Vd) (lo : Nat) (w : World) (s1 : Strs w lo u1 R) (s2 : Bls w lo u2 T) (s3 : Vds w lo u3 V) (hsm : Small9 buf he fr bo R T V) :
    Calls Tryd.prog 15 #[.agg #[.int .i64 ph, .string buf, .string he, .string fr, .string bo, u1, .int .i64 nx, u2, u3]] w fun e w' => e = .returned (.bool (properN ph nx buf he fr bo R T V)) ∧ Below w.heap.size w w' := by
  obtain ⟨m1, m2, m3, m4, m5, m6, m7, m8, m9⟩ := hsm
  have HR : Hid (ArgS w u1 R) := strs_args s1 (by unfold maxLen; omega) (fun s hs => by have := m6 s hs; unfold maxLen; omega)
  have HM6 : Hid (∀ s ∈ R, s.size ≤ 1048576) := m6
  have HV : Hid (Vds w lo u3 V) := s3
  obtain ⟨p1, q1, rfl⟩ := strs_form2 s1
  obtain ⟨p2, q2, rfl⟩ := bls_form s2
  obtain ⟨p3, q3, rfl⟩ := vds_form s3
  have HX9 : Hid (∀ x ∈ V, x.2.2.size ≤ 1048576) := m9
  have HF : Hid (¬ (1 ≤ ph ∧ ph ≤ 9 ∧ buf.size ≤ 40000 ∧ domOk he = true ∧ whomN fr R = true ∧ bodyOk bo = true ∧ T.length = R.length ∧ V.length = R.length ∧ 0 ≤ nx ∧ nx ≤ (R.length : Int) ∧ ¬ (nx = (R.length : Int) ∧ ph = 5)) → properN ph nx buf he fr bo R T V = false) := proper_head
  have HB : Hid (∀ k (hk : k < V.length), vdOk V[k] = false → properN ph nx buf he fr bo R T V = false) := fun k hk h => proper_bad hk h
  have HGd : Hid ((1 ≤ ph ∧ ph ≤ 9 ∧ buf.size ≤ 40000 ∧ domOk he = true ∧ whomN fr R = true ∧ bodyOk bo = true ∧ T.length = R.length ∧ V.length = R.length ∧ 0 ≤ nx ∧ nx ≤ (R.length : Int) ∧ ¬ (nx = (R.length : Int) ∧ ph = 5)) → (∀ k (hk : k < V.length), vdOk V[k] = true) → properN ph nx buf he fr bo R T V = true) := proper_good
  generalize properN ph nx buf he fr bo R T V = PN at *
  clear s1 s2 s3 m6 m9
  by_cases c1 : ph < 1
  · have G : Hid (PN = false) := HF.out (fun h => by omega)
    go_enter Tryd.func15, Tryd.ntmps15
    go_wp2
    go_ret
    exact ⟨ret_bool G.out.symm, below1 _ _⟩
  by_cases c2 : 9 < ph
  · have G : Hid (PN = false) := HF.out (fun h => by omega)
    go_enter Tryd.func15, Tryd.ntmps15
    go_wp2
    go_ret
    exact ⟨ret_bool G.out.symm, below1 _ _⟩
  go_enter Tryd.func15, Tryd.ntmps15
  go_wp2_with fail
  generalize hW : w.alloc _ = W
  have hA : Hid (Blk w.heap.size #[.int .i64 ph, .string buf, .string he, .string fr, .string bo, .slice p1 R.length q1, .int .i64 nx, .slice p2 T.length q2, .slice p3 V.length q3] W) := by show Blk _ _ _; rw [← hW]; exact Blk.new w _ _
  have bw : Below w.heap.size w W := by rw [← hW]; exact below1 _ _
  clear hW
  refine (specDomain he _ m2).mono ?_
  rintro e w1 ⟨rfl, hb1⟩
  have b1 : Below w.heap.size w w1 := bw.trans (hb1.mono bw.size)
  have hA1 : Hid _ := hA.out.below hb1
  clear hb1 hA bw
  have x3 : w1.cell? ⟨w.heap.size, 3, none⟩ = some (.string fr) := hA1.out.cell 3
  have x5 : w1.cell? ⟨w.heap.size, 5, none⟩ = some (.slice p1 R.length q1) := hA1.out.cell 5
  have hd : domOk he = false ∨ domOk he = true := by cases domOk he <;> simp
  rcases hd with hd | hd
  · have G : Hid (PN = false) := HF.out (fun h => by rw [hd] at h; simp at h)
    rw [hd]
    go_wp2
    go_ret
    exact ⟨ret_bool G.out.symm, b1⟩
  rw [hd]
  go_wp2_with fail
  refine (specWhom fr _ R _ (HR.out.below b1) m3 HM6.out).mono ?_
  rintro e w2 ⟨rfl, hb2⟩
  have b2 : Below w.heap.size w w2 := b1.trans (hb2.mono b1.size)
  have hA2 : Hid _ := hA1.out.below hb2
  clear hb2 hA1 b1 x3 x5
  have x4 : w2.cell? ⟨w.heap.size, 4, none⟩ = some (.string bo) := hA2.out.cell 4
  have hw : whomN fr R = false ∨ whomN fr R = true := by cases whomN fr R <;> simp
  rcases hw with hw | hw
  · have G : Hid (PN = false) := HF.out (fun h => by rw [hw] at h; simp at h)
    rw [hw]
    go_wp2
    go_ret
    exact ⟨ret_bool G.out.symm, b2⟩
  rw [hw]
  go_wp2_with fail
  refine (specBody bo _ m4).mono ?_
  rintro e w3 ⟨rfl, hb3⟩
  have b3 : Below w.heap.size w w3 := b2.trans (hb3.mono b2.size)
  have hA3 : Hid _ := hA2.out.below hb3
  clear hb3 hA2 b2 x4
  have hbd : bodyOk bo = false ∨ bodyOk bo = true := by cases bodyOk bo <;> simp
  rcases hbd with hbd | hbd
  · have G : Hid (PN = false) := HF.out (fun h => by rw [hbd] at h; simp at h)
    rw [hbd]
    go_wp2
    go_ret
    exact ⟨ret_bool G.out.symm, b3⟩
  rw [hbd]
  have x0 : w3.cell? ⟨w.heap.size, 0, none⟩ = some (.int .i64 ph) := hA3.out.cell 0
  have x1 : w3.cell? ⟨w.heap.size, 1, none⟩ = some (.string buf) := hA3.out.cell 1
  have x6 : w3.cell? ⟨w.heap.size, 6, none⟩ = some (.int .i64 nx) := hA3.out.cell 6
  have x7 : w3.cell? ⟨w.heap.size, 7, none⟩ = some (.slice p2 T.length q2) := hA3.out.cell 7
  have x8 : w3.cell? ⟨w.heap.size, 8, none⟩ = some (.slice p3 V.length q3) := hA3.out.cell 8
  by_cases t1 : T.length = R.length
  rotate_left
  · have G : Hid (PN = false) := HF.out (fun h => t1 h.2.2.2.2.2.2.1)
    have tb : ((T.length : Int) != (R.length : Int)) = true := by rw [bne_iff_ne]; omega
    go_wp2
    go_ret
    exact ⟨ret_bool G.out.symm, b3⟩
  have tb : ((T.length : Int) != (R.length : Int)) = false := by simp [t1]
  by_cases t2 : V.length = R.length
  rotate_left
  · have G : Hid (PN = false) := HF.out (fun h => t2 h.2.2.2.2.2.2.2.1)
    have tb2 : ((V.length : Int) != (R.length : Int)) = true := by rw [bne_iff_ne]; omega
    go_wp2
    go_ret
    exact ⟨ret_bool G.out.symm, b3⟩
  have tb2 : ((V.length : Int) != (R.length : Int)) = false := by simp [t2]
  by_cases t3 : nx < 0
  · have G : Hid (PN = false) := HF.out (fun h => by omega)
    go_wp2
    go_ret
    exact ⟨ret_bool G.out.symm, b3⟩
  by_cases t4 : (R.length : Int) < nx
  · have G : Hid (PN = false) := HF.out (fun h => by omega)
    go_wp2
    go_ret
    exact ⟨ret_bool G.out.symm, b3⟩
  have hcase : (nx = (R.length : Int) ∧ ph = 5) ∨ (nx = (R.length : Int) ∧ ph ≠ 5) ∨ nx ≠ (R.length : Int) := by omega
  rcases hcase with ⟨t5, t6⟩ | ⟨t5, t6⟩ | t5
  · have G : Hid (PN = false) := HF.out (fun h => by omega)
    have tb5 : (nx == (R.length : Int)) = true := beq_iff_eq.2 t5
    have tb6 : (ph == 5) = true := beq_iff_eq.2 t6
    go_wp2
    go_ret
    exact ⟨ret_bool G.out.symm, b3⟩
  focus
    have tb5 : (nx == (R.length : Int)) = true := beq_iff_eq.2 t5
    have tb6 : (ph == 5) = false := beq_eq_false_iff_ne.2 t6
    have t56 : ¬ (nx = (R.length : Int) ∧ ph = 5) := by omega
    by_cases t7 : 40000 < buf.size
    · have G : Hid (PN = false) := HF.out (fun h => by omega)
      have t7i : (40000 : Int) < buf.size := by omega
      go_wp2
      go_ret
      exact ⟨ret_bool G.out.symm, b3⟩
    have t7i : ¬ (40000 : Int) < buf.size := by omega
    go_wp2_with fail
  rotate_left
  focus
    have tb5 : (nx == (R.length : Int)) = false := beq_eq_false_iff_ne.2 t5
    have t56 : ¬ (nx = (R.length : Int) ∧ ph = 5) := by omega
    by_cases t7 : 40000 < buf.size
    · have G : Hid (PN = false) := HF.out (fun h => by omega)
      have t7i : (40000 : Int) < buf.size := by omega
      go_wp2
      go_ret
      exact ⟨ret_bool G.out.symm, b3⟩
    have t7i : ¬ (40000 : Int) < buf.size := by omega
    go_wp2_with fail
  all_goals
    have HG2 := HGd.out ⟨by omega, by omega, by omega, hd, hw, hbd, t1, t2, by omega, by omega, t56⟩
    clear x0 x1 x6 x7 x8 tb tb2 tb5 t7i hd hw hbd hA3
    go_loopw [80] (fun iv wr => ∃ k : Nat, k ≤ V.length ∧ iv = .int .i64 k ∧ Below w.heap.size w wr ∧ Hid (∀ j (hj : j < V.length), j < k → vdOk V[j] = true)) (fun iv _ => V.length - (intOf iv).toNat)
    case atStart => exact ⟨0, Nat.zero_le _, rfl, b3, fun j _ hj => absurd hj (Nat.not_lt_zero _)⟩
    case round =>
      obtain ⟨k, hk, rfl, hb, HK⟩ := hrel
      by_cases hlt : k < V.length
      · obtain ⟨g, cap, hv, hs⟩ : ∃ g cap, Value.slice p3 V.length q3 = .slice (some ⟨g, 0, none⟩) V.length cap ∧ VdsAt w lo g cap V := by
          rcases HV.out.cases with ⟨_, h0⟩ | h
          · rw [h0] at hlt; exact absurd hlt (by simp)
          · exact h
        injection hv with hv1 _ hv3
        subst hv1 hv3
        obtain ⟨a0, a1, a2⟩ := hs.cell k hlt
        have y0 := (hb.cell (p := ⟨g, k * 3, none⟩) hs.lt).trans a0
        have y1 := (hb.cell (p := ⟨g, k * 3 + 1, none⟩) hs.lt).trans a1
        have y2 := (hb.cell (p := ⟨g, k * 3 + 2, none⟩) hs.lt).trans a2
        have hbz := hb.size
        have HBk : Hid (vdOk V[k] = false → PN = false) := HB.out k hlt
        have HKk : Hid (vdOk V[k] = true → ∀ j (hj : j < V.length), j < k + 1 → vdOk V[j] = true) := by
          intro h j hj hj2
          by_cases e : j = k
          · subst e; exact h
          · exact HK.out j hj (by omega)
        have hx9 := HX9.out V[k] (List.getElem_mem hlt)
        clear a0 a1 a2 hs HK
        generalize V[k] = X at *
        have bq : Below w.heap.size w (wr.alloc (.cells #[.int .i64 X.1, .int .i64 X.2.1, .string X.2.2] 44)) := hb.trans ((below1 wr _).mono hb.size)
        by_cases d1 : X.1 < 0
        · have G : Hid (PN = false) := HBk.out (vd_bad1 d1)
          go_wp2
          go_ret
          exact ⟨ret_bool G.out.symm, bq⟩
        by_cases d2 : 3 < X.1
        · have G : Hid (PN = false) := HBk.out (vd_bad2 d2)
          go_wp2
          go_ret
          exact ⟨ret_bool G.out.symm, bq⟩
        go_wp2_with fail
        refine (specCode X.2.1 _).mono ?_
        rintro e w5 ⟨rfl, hb5⟩
        have b5 : Below w.heap.size w w5 := bq.trans (hb5.mono bq.size)
        have z2 : w5.cell? ⟨wr.heap.size, 2, none⟩ = some (.string X.2.2) := (hb5.cell (p := ⟨wr.heap.size, 2, none⟩) (by simp)).trans (World.cell?_alloc_mark _ _ _ _ _)
        clear hb5 bq y0 y1 y2
        have hcd : codeOk X.2.1 = false ∨ codeOk X.2.1 = true := by cases codeOk X.2.1 <;> simp
        rcases hcd with hcd | hcd
        · have G : Hid (PN = false) := HBk.out (vd_bad3 hcd)
          rw [hcd]
          go_wp2
          go_ret
          exact ⟨ret_bool G.out.symm, b5⟩
        rw [hcd]
        by_cases d4 : 512 < X.2.2.size
        · have G : Hid (PN = false) := HBk.out (vd_bad4 d4)
          have d4i : (512 : Int) < X.2.2.size := by omega
          go_wp2
          go_ret
          exact ⟨ret_bool G.out.symm, b5⟩
        have d4i : ¬ (512 : Int) < X.2.2.size := by omega
        have HK2 : Hid (∀ j (hj : j < V.length), j < k + 1 → vdOk V[j] = true) := HKk.out (vd_good (by omega) (by omega) hcd (by omega))
        clear HKk HBk hcd
        go_wp2
        go_roundw
        case rel => exact ⟨k + 1, by omega, by go_num, b5, HK2⟩
        case measure => simp [intOf]; omega
      · obtain rfl : k = V.length := by omega
        have G : Hid (PN = true) := HG2 fun j hj => HK.out j hj hj
        go_wp2
        go_ret
        exact ⟨ret_bool G.out.symm, hb⟩
end Go.Proofs.YtfkngjdclggfbaaDoor
namespace Go.Proofs.YtfkngjdclggfbaaDoor
open Go.ChangeShapes Go.WideShapes Go.ChangeAt Go.RowKit

def nextN (ph nx : Int) (n : Nat) : Bool := decide (0 ≤ nx ∧ nx ≤ (n : Int) ∧ ¬ (nx = (n : Int) ∧ ph = 5))
set_option maxHeartbeats 1000000 in
set_option maxRecDepth 100000 in
theorem implNext (ph nx : Int) (buf he fr bo : ByteArray) (p1 p2 p3 : Option Addr) (q1 q2 q3 n1 n2 n3 : Nat) (w : World) :
    Calls Tryd.prog 37 #[.agg #[.int .i64 ph, .string buf, .string he, .string fr, .string bo, .slice p1 n1 q1, .int .i64 nx, .slice p2 n2 q2, .slice p3 n3 q3]] w fun e w' => e = .returned (.bool (nextN ph nx n1)) ∧ Below w.heap.size w w' := by
  have HN : Hid (nextN ph nx n1 = decide (0 ≤ nx ∧ nx ≤ (n1 : Int) ∧ ¬ (nx = (n1 : Int) ∧ ph = 5))) := rfl
  generalize nextN ph nx n1 = B at *
  have hc : (ph = 5 ∧ nx = (n1 : Int)) ∨ (ph = 5 ∧ nx ≠ (n1 : Int)) ∨ ph ≠ 5 := by omega
  rcases hc with ⟨t1, t2⟩ | ⟨t1, t2⟩ | t1
  · have tb1 : (ph == 5) = true := beq_iff_eq.2 t1
    have tb2 : (nx == (n1 : Int)) = true := beq_iff_eq.2 t2
    have G : Hid (B = false) := by show _ = _; rw [HN.out]; exact decide_eq_false (by omega)
    go_enter Tryd.func37, Tryd.ntmps37
    go_wp2
    go_ret
    exact ⟨ret_bool G.out.symm, below1 _ _⟩
  focus
    have tb1 : (ph == 5) = true := beq_iff_eq.2 t1
    have tb2 : (nx == (n1 : Int)) = false := beq_eq_false_iff_ne.2 t2
    have hno : ¬ (nx = (n1 : Int) ∧ ph = 5) := by omega
    skip
  rotate_left
  focus
    have tb1 : (ph == 5) = false := beq_eq_false_iff_ne.2 t1
    have hno : ¬ (nx = (n1 : Int) ∧ ph = 5) := by omega
    skip
  all_goals
    by_cases t3 : 0 ≤ nx
    · by_cases t4 : nx ≤ (n1 : Int)
      · have G : Hid (B = true) := by show _ = _; rw [HN.out]; exact decide_eq_true ⟨t3, t4, hno⟩
        clear HN
        go_enter Tryd.func37, Tryd.ntmps37
        go_wp2
        go_ret
        exact ⟨ret_bool G.out.symm, below1 _ _⟩
      · have G : Hid (B = false) := by show _ = _; rw [HN.out]; exact decide_eq_false (by omega)
        clear HN
        go_enter Tryd.func37, Tryd.ntmps37
        go_wp2
        go_ret
        exact ⟨ret_bool G.out.symm, below1 _ _⟩
    · have G : Hid (B = false) := by show _ = _; rw [HN.out]; exact decide_eq_false (by omega)
      clear HN
      go_enter Tryd.func37, Tryd.ntmps37
      go_wp2
      go_ret
      exact ⟨ret_bool G.out.symm, below1 _ _⟩

end Go.Proofs.YtfkngjdclggfbaaDoor
