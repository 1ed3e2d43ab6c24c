import Derived.Test.YtngcjlghjidnjaaGreatDoorMg24
import Derived.Test.YtngcjlghjidnjaaGreatDoorMg37
import Derived.Test.YtngcjlghjidnjaaGreatDoorMg17
import Derived.Test.YtngcjlghjidnjaaGreatDoorMg25
namespace Go.Proofs.YtngcjlghjidnjaaGreatDoor
open Go.ChangeShapes Go.WideShapes Go.ChangeAt Go.RowKit

def nextN (ph nx : Int) (n : Nat) : Bool := decide (0 ≤ nx ∧ nx ≤ (n : Int) ∧ ¬ (nx = (n : Int) ∧ ph = 5))
set_option maxHeartbeats 1000000 in
set_option maxRecDepth 100000 in
theorem implNext (ph nx : Int) (buf he fr bo : ByteArray) (p1 p2 p3 : Option Addr) (q1 q2 q3 n1 n2 n3 : Nat) (w : World) :
    Calls Tryz.prog 81 #[.agg #[.int .i64 ph, .string buf, .string he, .string fr, .string bo, .slice p1 n1 q1, .int .i64 nx, .slice p2 n2 q2, .slice p3 n3 q3]] w fun e w' => e = .returned (.bool (nextN ph nx n1)) ∧ Below w.heap.size w w' := by
  have HN : Hid (nextN ph nx n1 = decide (0 ≤ nx ∧ nx ≤ (n1 : Int) ∧ ¬ (nx = (n1 : Int) ∧ ph = 5))) := rfl
  generalize nextN ph nx n1 = B at *
  have hc : (ph = 5 ∧ nx = (n1 : Int)) ∨ (ph = 5 ∧ nx ≠ (n1 : Int)) ∨ ph ≠ 5 := by omega
  rcases hc with ⟨t1, t2⟩ | ⟨t1, t2⟩ | t1
  · have tb1 : (ph == 5) = true := beq_iff_eq.2 t1
    have tb2 : (nx == (n1 : Int)) = true := beq_iff_eq.2 t2
    have G : Hid (B = false) := by show _ = _; rw [HN.out]; exact decide_eq_false (by omega)
    go_enter Tryz.func81, Tryz.ntmps81
    go_wp2
    go_ret
    exact ⟨ret_bool G.out.symm, below1 _ _⟩
  focus
    have tb1 : (ph == 5) = true := beq_iff_eq.2 t1
    have tb2 : (nx == (n1 : Int)) = false := beq_eq_false_iff_ne.2 t2
    have hno : ¬ (nx = (n1 : Int) ∧ ph = 5) := by omega
    skip
  rotate_left
  focus
    have tb1 : (ph == 5) = false := beq_eq_false_iff_ne.2 t1
    have hno : ¬ (nx = (n1 : Int) ∧ ph = 5) := by omega
    skip
  all_goals
    by_cases t3 : 0 ≤ nx
    · by_cases t4 : nx ≤ (n1 : Int)
      · have G : Hid (B = true) := by show _ = _; rw [HN.out]; exact decide_eq_true ⟨t3, t4, hno⟩
        clear HN
        go_enter Tryz.func81, Tryz.ntmps81
        go_wp2
        go_ret
        exact ⟨ret_bool G.out.symm, below1 _ _⟩
      · have G : Hid (B = false) := by show _ = _; rw [HN.out]; exact decide_eq_false (by omega)
        clear HN
        go_enter Tryz.func81, Tryz.ntmps81
        go_wp2
        go_ret
        exact ⟨ret_bool G.out.symm, below1 _ _⟩
    · have G : Hid (B = false) := by show _ = _; rw [HN.out]; exact decide_eq_false (by omega)
      clear HN
      go_enter Tryz.func81, Tryz.ntmps81
      go_wp2
      go_ret
      exact ⟨ret_bool G.out.symm, below1 _ _⟩

end Go.Proofs.YtngcjlghjidnjaaGreatDoor
namespace Go.Proofs.YtngcjlghjidnjaaGreatDoor
open Go.ChangeShapes Go.WideShapes Go.ChangeAt Go.RowKit

set_option maxHeartbeats 4000000 in
set_option maxRecDepth 100000 in
theorem implProper (ph nx : Int) (buf he fr bo : ByteArray) (u1 u2 u3 : Value) (R : List ByteArray) (T : List Bool) (V : List Vd) (lo : Nat) (w : World) (s1 : Strs w lo u1 R) (s2 : Bls w lo u2 T) (s3 : Vds w lo u3 V) (hsm : Small9 buf he fr bo R T V) (hl : LenIn w) :
    Calls Tryz.prog 37 #[.agg #[.int .i64 ph, .string buf, .string he, .string fr, .string bo, u1, .int .i64 nx, u2, u3]] w fun e w' => e = .returned (.bool (properN ph nx buf he fr bo R T V)) ∧ Below w.heap.size w w' := by
  have HL : Hid (LenIn w) := hl
  obtain ⟨m1, m2, m3, m4, m5, m6, m7, m8, m9⟩ := hsm
  have HR : Hid (ArgS w u1 R) := strs_args s1 (by unfold maxLen; omega) (fun s hs => by have := m6 s hs; unfold maxLen; omega)
  have HM6 : Hid (∀ s ∈ R, s.size ≤ 1048576) := m6
  have HV : Hid (Vds w lo u3 V) := s3
  obtain ⟨p1, q1, rfl⟩ := strs_form2 s1
  obtain ⟨p2, q2, rfl⟩ := bls_form s2
  obtain ⟨p3, q3, rfl⟩ := vds_form s3
  have HX9 : Hid (∀ x ∈ V, x.2.2.size ≤ 1048576) := m9
  have HF : Hid (¬ (1 ≤ ph ∧ ph ≤ 9 ∧ buf.size ≤ 40000 ∧ domOk he = true ∧ whomN fr R = true ∧ bodyOk bo = true ∧ T.length = R.length ∧ V.length = R.length ∧ 0 ≤ nx ∧ nx ≤ (R.length : Int) ∧ ¬ (nx = (R.length : Int) ∧ ph = 5)) → properN ph nx buf he fr bo R T V = false) := proper_head
  have HB : Hid (∀ k (hk : k < V.length), vdOk V[k] = false → properN ph nx buf he fr bo R T V = false) := fun k hk h => proper_bad hk h
  have HGd : Hid ((1 ≤ ph ∧ ph ≤ 9 ∧ buf.size ≤ 40000 ∧ domOk he = true ∧ whomN fr R = true ∧ bodyOk bo = true ∧ T.length = R.length ∧ V.length = R.length ∧ 0 ≤ nx ∧ nx ≤ (R.length : Int) ∧ ¬ (nx = (R.length : Int) ∧ ph = 5)) → (∀ k (hk : k < V.length), vdOk V[k] = true) → properN ph nx buf he fr bo R T V = true) := proper_good
  generalize properN ph nx buf he fr bo R T V = PN at *
  clear s1 s2 s3 m6 m9 hl
  by_cases c1 : ph < 1
  · have G : Hid (PN = false) := HF.out (fun h => by omega)
    go_enter Tryz.func37, Tryz.ntmps37
    go_wp2
    go_ret
    exact ⟨ret_bool G.out.symm, below1 _ _⟩
  by_cases c2 : 9 < ph
  · have G : Hid (PN = false) := HF.out (fun h => by omega)
    go_enter Tryz.func37, Tryz.ntmps37
    go_wp2
    go_ret
    exact ⟨ret_bool G.out.symm, below1 _ _⟩
  by_cases c3 : 40000 < buf.size
  · have G : Hid (PN = false) := HF.out (fun h => by omega)
    have c3i : (40000 : Int) < buf.size := by omega
    go_enter Tryz.func37, Tryz.ntmps37
    go_wp2
    go_ret
    exact ⟨ret_bool G.out.symm, below1 _ _⟩
  have c3i : ¬ (40000 : Int) < buf.size := by omega
  go_enter Tryz.func37, Tryz.ntmps37
  go_wp2_with fail
  generalize hW : w.alloc _ = W
  have hA : Hid (Blk w.heap.size #[.int .i64 ph, .string buf, .string he, .string fr, .string bo, .slice p1 R.length q1, .int .i64 nx, .slice p2 T.length q2, .slice p3 V.length q3] W) := by show Blk _ _ _; rw [← hW]; exact Blk.new w _ _
  have bw : Below w.heap.size w W := by rw [← hW]; exact below1 _ _
  clear hW
  refine (implDomain he _ (len_below HL.out bw) m2).mono ?_
  rintro e w1 ⟨rfl, hb1⟩
  have b1 : Below w.heap.size w w1 := bw.trans (hb1.mono bw.size)
  have hA1 : Hid _ := hA.out.below hb1
  clear hb1 hA bw
  have x3 : w1.cell? ⟨w.heap.size, 3, none⟩ = some (.string fr) := hA1.out.cell 3
  have x4 : w1.cell? ⟨w.heap.size, 4, none⟩ = some (.string bo) := hA1.out.cell 4
  have x5 : w1.cell? ⟨w.heap.size, 5, none⟩ = some (.slice p1 R.length q1) := hA1.out.cell 5
  have hd : domOk he = false ∨ domOk he = true := by cases domOk he <;> simp
  rcases hd with hd | hd
  · have G : Hid (PN = false) := HF.out (fun h => by rw [hd] at h; simp at h)
    rw [hd]
    go_wp2
    go_ret
    exact ⟨ret_bool G.out.symm, b1⟩
  rw [hd]
  go_wp2_with fail
  refine (implMail fr bo _ R _ (HR.out.below b1) m3 HM6.out m4 (len_below HL.out b1)).mono ?_
  rintro e w3 ⟨rfl, hb3⟩
  have b3 : Below w.heap.size w w3 := b1.trans (hb3.mono b1.size)
  have hA3 : Hid _ := hA1.out.below hb3
  clear hb3 hA1 b1 x3 x4 x5
  have hw : (whomN fr R && bodyOk bo) = false ∨ (whomN fr R = true ∧ bodyOk bo = true) := by cases whomN fr R <;> cases bodyOk bo <;> simp
  rcases hw with hw | ⟨hw, hbd⟩
  · have G : Hid (PN = false) := HF.out (fun h => by rw [h.2.2.2.2.1, h.2.2.2.2.2.1] at hw; simp at hw)
    rw [hw]
    go_wp2
    go_ret
    exact ⟨ret_bool G.out.symm, b3⟩
  rw [hw, hbd]
  have x0 : w3.cell? ⟨w.heap.size, 0, none⟩ = some (.int .i64 ph) := hA3.out.cell 0
  have x1 : w3.cell? ⟨w.heap.size, 1, none⟩ = some (.string buf) := hA3.out.cell 1
  have x2 : w3.cell? ⟨w.heap.size, 2, none⟩ = some (.string he) := hA3.out.cell 2
  have x3 : w3.cell? ⟨w.heap.size, 3, none⟩ = some (.string fr) := hA3.out.cell 3
  have x4 : w3.cell? ⟨w.heap.size, 4, none⟩ = some (.string bo) := hA3.out.cell 4
  have x5 : w3.cell? ⟨w.heap.size, 5, none⟩ = some (.slice p1 R.length q1) := hA3.out.cell 5
  have x6 : w3.cell? ⟨w.heap.size, 6, none⟩ = some (.int .i64 nx) := hA3.out.cell 6
  have x7 : w3.cell? ⟨w.heap.size, 7, none⟩ = some (.slice p2 T.length q2) := hA3.out.cell 7
  have x8 : w3.cell? ⟨w.heap.size, 8, none⟩ = some (.slice p3 V.length q3) := hA3.out.cell 8
  by_cases t1 : T.length = R.length
  rotate_left
  · have G : Hid (PN = false) := HF.out (fun h => t1 h.2.2.2.2.2.2.1)
    have tb : ((T.length : Int) != (R.length : Int)) = true := by rw [bne_iff_ne]; omega
    go_wp2
    go_ret
    exact ⟨ret_bool G.out.symm, b3⟩
  have tb : ((T.length : Int) != (R.length : Int)) = false := by simp [t1]
  by_cases t2 : V.length = R.length
  rotate_left
  · have G : Hid (PN = false) := HF.out (fun h => t2 h.2.2.2.2.2.2.2.1)
    have tb2 : ((V.length : Int) != (R.length : Int)) = true := by rw [bne_iff_ne]; omega
    go_wp2
    go_ret
    exact ⟨ret_bool G.out.symm, b3⟩
  have tb2 : ((V.length : Int) != (R.length : Int)) = false := by simp [t2]
  have HT1 : Hid (T.length = R.length) := t1
  have HT2 : Hid (V.length = R.length) := t2
  clear t1 t2
  go_wp2_with fail
  refine (implNext ph nx buf he fr bo p1 p2 p3 q1 q2 q3 R.length _ _ _).mono ?_
  rintro e w4 ⟨rfl, hb4⟩
  have b4 : Below w.heap.size w w4 := b3.trans (hb4.mono b3.size)
  have hA4 : Hid _ := hA3.out.below hb4
  clear hb4 hA3 b3 x0 x1 x2 x3 x4 x5 x6 x7 x8
  have x8 : w4.cell? ⟨w.heap.size, 8, none⟩ = some (.slice p3 V.length q3) := hA4.out.cell 8
  have hnn : nextN ph nx R.length = false ∨ nextN ph nx R.length = true := by cases nextN ph nx R.length <;> simp
  rcases hnn with hnn | hnn
  · have G : Hid (PN = false) := HF.out (fun h => by
      have := of_decide_eq_false hnn
      exact this ⟨h.2.2.2.2.2.2.2.2.1, h.2.2.2.2.2.2.2.2.2.1, h.2.2.2.2.2.2.2.2.2.2⟩)
    rw [hnn]
    go_wp2
    go_ret
    exact ⟨ret_bool G.out.symm, b4⟩
  have hnx := of_decide_eq_true hnn
  have HG2 := HGd.out ⟨by omega, by omega, by omega, hd, hw, hbd, HT1.out, HT2.out, hnx.1, hnx.2.1, hnx.2.2⟩
  rw [hnn]
  go_wp2_with fail
  clear x8 tb tb2 hd hw hbd hA4 hnn hnx
  have b3 := b4
  go_loopw [57] (fun iv wr => ∃ k : Nat, k ≤ V.length ∧ iv = .int .i64 k ∧ Below w.heap.size w wr ∧ Hid (∀ j (hj : j < V.length), j < k → vdOk V[j] = true)) (fun iv _ => V.length - (intOf iv).toNat)
  case atStart => exact ⟨0, Nat.zero_le _, rfl, b3, fun j _ hj => absurd hj (Nat.not_lt_zero _)⟩
  case round =>
    obtain ⟨k, hk, rfl, hb, HK⟩ := hrel
    by_cases hlt : k < V.length
    · obtain ⟨g, cap, hv, hs⟩ : ∃ g cap, Value.slice p3 V.length q3 = .slice (some ⟨g, 0, none⟩) V.length cap ∧ VdsAt w lo g cap V := by
        rcases HV.out.cases with ⟨_, h0⟩ | h
        · rw [h0] at hlt; exact absurd hlt (by simp)
        · exact h
      injection hv with hv1 _ hv3
      subst hv1 hv3
      obtain ⟨a0, a1, a2⟩ := hs.cell k hlt
      have y0 := (hb.cell (p := ⟨g, k * 3, none⟩) hs.lt).trans a0
      have y1 := (hb.cell (p := ⟨g, k * 3 + 1, none⟩) hs.lt).trans a1
      have y2 := (hb.cell (p := ⟨g, k * 3 + 2, none⟩) hs.lt).trans a2
      have hbz := hb.size
      have HBk : Hid (vdOk V[k] = false → PN = false) := HB.out k hlt
      have HKk : Hid (vdOk V[k] = true → ∀ j (hj : j < V.length), j < k + 1 → vdOk V[j] = true) := by
        intro h j hj hj2
        by_cases e : j = k
        · subst e; exact h
        · exact HK.out j hj (by omega)
      have hx9 := HX9.out V[k] (List.getElem_mem hlt)
      clear a0 a1 a2 hs HK
      generalize V[k] = X at *
      have bq : Below w.heap.size w (wr.alloc (.cells #[.int .i64 X.1, .int .i64 X.2.1, .string X.2.2] 37)) := hb.trans ((below1 wr _).mono hb.size)
      by_cases d1 : X.1 < 0
      · have G : Hid (PN = false) := HBk.out (vd_bad1 d1)
        go_wp2
        go_ret
        exact ⟨ret_bool G.out.symm, bq⟩
      by_cases d2 : 3 < X.1
      · have G : Hid (PN = false) := HBk.out (vd_bad2 d2)
        go_wp2
        go_ret
        exact ⟨ret_bool G.out.symm, bq⟩
      go_wp2_with fail
      refine (implReason X _ hx9).mono ?_
      rintro e w5 ⟨rfl, hb5⟩
      have b5 : Below w.heap.size w w5 := bq.trans (hb5.mono bq.size)
      clear hb5 bq y0 y1 y2
      have hcd : (codeOk X.2.1 && decide (X.2.2.size ≤ 512)) = false ∨ (codeOk X.2.1 && decide (X.2.2.size ≤ 512)) = true := by cases (codeOk X.2.1 && decide (X.2.2.size ≤ 512)) <;> simp
      rcases hcd with hcd | hcd
      · have G : Hid (PN = false) := HBk.out (by unfold vdOk; rw [hcd]; simp)
        rw [hcd]
        go_wp2
        go_ret
        exact ⟨ret_bool G.out.symm, b5⟩
      have HK2 : Hid (∀ j (hj : j < V.length), j < k + 1 → vdOk V[j] = true) := HKk.out (by
        unfold vdOk
        rw [hcd, decide_eq_true (show 0 ≤ X.1 by omega), decide_eq_true (show X.1 ≤ 3 by omega)]; rfl)
      rw [hcd]
      clear HKk HBk hcd
      go_wp2
      go_roundw
      case rel => exact ⟨k + 1, by omega, by go_num, b5, HK2⟩
      case measure => simp [intOf]; omega
    · obtain rfl : k = V.length := by omega
      have G : Hid (PN = true) := HG2 fun j hj => HK.out j hj hj
      go_wp2
      go_ret
      exact ⟨ret_bool G.out.symm, hb⟩
end Go.Proofs.YtngcjlghjidnjaaGreatDoor
namespace Go.Proofs.YtngcjlghjidnjaaGreatDoor
open Go.ChangeShapes Go.WideShapes Go.ChangeAt Go.RowKit
attribute [local go_sem ↓] Go.wp_at_zero Go.wp_at_succ

set_option maxHeartbeats 4000000 in
set_option maxRecDepth 100000 in
theorem cloneB (g k : Nat) (n : Nat) (xs : List Value) (lo : Nat) (w : World) (h : w.ownsRow lo 4 1 (.slice (some ⟨g, 0, none⟩) n k) n xs) (h1 : ∀ u ∈ xs, u.oneCell' = true) (hn : n ≤ 20) :
    Calls Tryz.prog 83 #[.slice (some ⟨g, 0, none⟩) n k] w fun e w' => ∃ v', e = .returned v' ∧ w'.ownsRow w.heap.size 4 1 v' n xs ∧ Below w.heap.size w w' := by
  obtain ⟨i0, hi, hz0, hz1, hz2⟩ := info_parts infoBool
  have HN : Hid (∀ j u, xs[j]? = some u → w.cell? ((⟨g, 0, none⟩ : Addr).add j) = some u) := row_news h
  have HX : Hid (xs.length = n * 1) := h.1
  have H1 : Hid (∀ u ∈ xs, u.oneCell' = true) := h1
  have q24 : ∀ (w : World) (a : Option Addr) (n c n' c' : Nat), (binOp .eql 26 (.slice a n c) (.slice none n' c')).run Tryz.prog w = .ok (.bool a.isNone) w := fun w a n c n' c' => Lib.run_eql_slice_nil w _ _ a n c n' c' Tryz.underlying26
  clear h h1
  go_enter Tryz.func83, Tryz.ntmps83
  go_wp2_with (at_builtin; refine wpList_append_own _ rfl _ _ 26 rfl w.heap.size 4 i0 (.bool false) 1 1 Tryz.underlying26 hi hz0 hz1 hz2 rfl (by decide) _ _ _ rfl (World.ownsRow_made w #[] 0 (Nat.le_refl _) (Nat.zero_le _) rfl) ⟨g, 0, none⟩ n k xs rfl ?qc1 ?qc2 ?qc3 ?qc4 ?qc5 ?qc6 ?_)
  case qc1 => exact HX.out
  case qc2 =>
    intro j u hj
    have := HN.out j u hj
    rw [Addr.add_lit] at this ⊢
    exact Lib.cell?_alloc_some _ this
  case qc3 => exact H1.out
  case qc4 => unfold maxLen; omega
  case qc5 => omega
  case qc6 => simp
  intro v' w1 hown hgrow hnil
  go_wp2
  go_ret
  refine ⟨v', rfl, ?_, ?_⟩
  · simpa using hown
  · exact ((Below.refl _ w).alloc (Nat.le_refl _) _).grown hgrow (by simp) (by intro k hk; simp [Value.ownBlock] at hk; omega)

set_option maxHeartbeats 4000000 in
set_option maxRecDepth 100000 in
theorem cloneV (g k : Nat) (n : Nat) (xs : List Value) (lo : Nat) (w : World) (h : w.ownsRow lo 37 3 (.slice (some ⟨g, 0, none⟩) n k) n xs) (h1 : ∀ u ∈ xs, u.oneCell' = true) (hn : n ≤ 20) :
    Calls Tryz.prog 84 #[.slice (some ⟨g, 0, none⟩) n k] w fun e w' => ∃ v', e = .returned v' ∧ w'.ownsRow w.heap.size 37 3 v' n xs ∧ Below w.heap.size w w' := by
  obtain ⟨i0, hi, hz0, hz1, hz2⟩ := info_parts infoVd
  have HN : Hid (∀ j u, xs[j]? = some u → w.cell? ((⟨g, 0, none⟩ : Addr).add j) = some u) := row_news h
  have HX : Hid (xs.length = n * 3) := h.1
  have H1 : Hid (∀ u ∈ xs, u.oneCell' = true) := h1
  have q24 : ∀ (w : World) (a : Option Addr) (n c n' c' : Nat), (binOp .eql 27 (.slice a n c) (.slice none n' c')).run Tryz.prog w = .ok (.bool a.isNone) w := fun w a n c n' c' => Lib.run_eql_slice_nil w _ _ a n c n' c' Tryz.underlying27
  clear h h1
  go_enter Tryz.func84, Tryz.ntmps84
  go_wp2_with (at_builtin; refine wpList_append_own _ rfl _ _ 27 rfl w.heap.size 37 i0 (.agg #[.int .i64 0, .int .i64 0, .string ⟨#[]⟩]) 3 32 Tryz.underlying27 hi hz0 hz1 hz2 rfl (by decide) _ _ _ rfl (World.ownsRow_made w #[] 0 (Nat.le_refl _) (Nat.zero_le _) rfl) ⟨g, 0, none⟩ n k xs rfl ?qc1 ?qc2 ?qc3 ?qc4 ?qc5 ?qc6 ?_)
  case qc1 => exact HX.out
  case qc2 =>
    intro j u hj
    have := HN.out j u hj
    rw [Addr.add_lit] at this ⊢
    exact Lib.cell?_alloc_some _ this
  case qc3 => exact H1.out
  case qc4 => unfold maxLen; omega
  case qc5 => omega
  case qc6 => simp
  intro v' w1 hown hgrow hnil
  go_wp2
  go_ret
  refine ⟨v', rfl, ?_, ?_⟩
  · simpa using hown
  · exact ((Below.refl _ w).alloc (Nat.le_refl _) _).grown hgrow (by simp) (by intro k hk; simp [Value.ownBlock] at hk; omega)

set_option maxHeartbeats 4000000 in
set_option maxRecDepth 100000 in
theorem cloneT (g k : Nat) (n : Nat) (xs : List Value) (lo : Nat) (w : World) (h : w.ownsRow lo 9 1 (.slice (some ⟨g, 0, none⟩) n k) n xs) (h1 : ∀ u ∈ xs, u.oneCell' = true) (hn : n ≤ 20) :
    Calls Tryz.prog 34 #[.slice (some ⟨g, 0, none⟩) n k] w fun e w' => ∃ v', e = .returned v' ∧ w'.ownsRow w.heap.size 9 1 v' n xs ∧ Below w.heap.size w w' := by
  obtain ⟨i0, hi, hz0, hz1, hz2⟩ := info_parts infoStr
  have HN : Hid (∀ j u, xs[j]? = some u → w.cell? ((⟨g, 0, none⟩ : Addr).add j) = some u) := row_news h
  have HX : Hid (xs.length = n * 1) := h.1
  have H1 : Hid (∀ u ∈ xs, u.oneCell' = true) := h1
  have q24 : ∀ (w : World) (a : Option Addr) (n c n' c' : Nat), (binOp .eql 23 (.slice a n c) (.slice none n' c')).run Tryz.prog w = .ok (.bool a.isNone) w := fun w a n c n' c' => Lib.run_eql_slice_nil w _ _ a n c n' c' Tryz.underlying23
  clear h h1
  go_enter Tryz.func34, Tryz.ntmps34
  go_wp2_with (at_builtin; refine wpList_append_own _ rfl _ _ 23 rfl w.heap.size 9 i0 (.string ⟨#[]⟩) 1 16 Tryz.underlying23 hi hz0 hz1 hz2 rfl (by decide) _ _ _ rfl (World.ownsRow_made w #[] 0 (Nat.le_refl _) (Nat.zero_le _) rfl) ⟨g, 0, none⟩ n k xs rfl ?qc1 ?qc2 ?qc3 ?qc4 ?qc5 ?qc6 ?_)
  case qc1 => exact HX.out
  case qc2 =>
    intro j u hj
    have := HN.out j u hj
    rw [Addr.add_lit] at this ⊢
    exact Lib.cell?_alloc_some _ this
  case qc3 => exact H1.out
  case qc4 => unfold maxLen; omega
  case qc5 => omega
  case qc6 => simp
  intro v' w1 hown hgrow hnil
  go_wp2
  go_ret
  refine ⟨v', rfl, ?_, ?_⟩
  · simpa using hown
  · exact ((Below.refl _ w).alloc (Nat.le_refl _) _).grown hgrow (by simp) (by intro k hk; simp [Value.ownBlock] at hk; omega)

set_option maxHeartbeats 4000000 in
set_option maxRecDepth 100000 in
theorem implCopy (s : Sn) (u1 u2 u3 : Value) (lo : Nat) (w : World) (hk : s.Wf) (h : SV w lo u1 u2 u3 s) :
    Calls Tryz.prog 38 #[.agg #[.int .i64 s.ph, .string s.buf, .string s.he, .string s.fr, .string s.bo, u1, .int .i64 (s.nx : Int), u2, u3]] w fun e w' => SP s w e w' := by
  have H : Hid (SV w lo u1 u2 u3 s) := h
  have HK : Hid s.Wf := hk
  obtain ⟨g1, g2, g3, k1, k2, k3, rfl, rfl, rfl⟩ := h.someW hk
  have hr20 : s.R.length ≤ 20 := hk.r20
  have hr1 : 1 ≤ s.R.length := hk.r1
  have HT : Hid (s.T.length = s.R.length) := hk.t
  have HV : Hid (s.V.length = s.R.length) := hk.v
  clear h hk
  go_enter Tryz.func38, Tryz.ntmps38
  go_wp2_with fail
  generalize hW : World.alloc _ _ = W
  have HA : Hid (SB w.heap.size s (.slice (some ⟨g1, 0, none⟩) s.R.length k1) (.slice (some ⟨g2, 0, none⟩) s.R.length k2) (.slice (some ⟨g3, 0, none⟩) s.R.length k3) W) := by show SB _ _ _ _ _ _; rw [← hW]; exact (blk2 w _ _ _ _).1
  have HZ : Hid (SB (w.heap.size + 1) sn0 (.slice none 0 0) (.slice none 0 0) (.slice none 0 0) W) := by show SB _ _ _ _ _ _; rw [← hW]; exact (blk2 w _ _ _ _).2
  have b0 : Below w.heap.size w W := by rw [← hW]; exact below2 _ _ _
  have z0 : w.heap.size + 2 ≤ W.heap.size := by rw [← hW]; simp
  clear hW
  refine (cloneT g1 k1 _ _ lo W (H.out.below b0 (Nat.le_refl _)).1 (by intro u hu; obtain ⟨y, _, rfl⟩ := List.mem_map.1 hu; rfl) hr20).mono ?_
  rintro e w1 ⟨v1, rfl, S1, hb1⟩
  obtain ⟨p1, q1, rfl⟩ := row_form S1 hr1
  have HS1 : Hid (w1.ownsRow W.heap.size 9 1 (.slice (some ⟨p1, 0, none⟩) s.R.length q1) s.R.length (s.R.map Value.string)) := S1
  have HA1 : Hid (SB w.heap.size s (.slice (some ⟨g1, 0, none⟩) s.R.length k1) (.slice (some ⟨g2, 0, none⟩) s.R.length k2) (.slice (some ⟨g3, 0, none⟩) s.R.length k3) w1) := SB.below HA.out hb1
  have HZ1 : Hid (SB (w.heap.size + 1) sn0 (.slice none 0 0) (.slice none 0 0) (.slice none 0 0) w1) := SB.below HZ.out hb1
  have b1 : Below w.heap.size w w1 := b0.trans (hb1.mono b0.size)
  have z1 := hb1.size
  clear S1 hb1 HA HZ b0
  obtain ⟨t0, t1, t2, t3, t4, t5, t6, t7, t8⟩ := HA1.out.cells
  have f5 : w1.frozen? ⟨w.heap.size, 5, none⟩ = false := HA1.out.free 5
  go_wp2_with fail
  generalize hW2 : World.setCell w1 _ _ = W2
  have HA2 : Hid (SB w.heap.size s (.slice (some ⟨p1, 0, none⟩) s.R.length q1) (.slice (some ⟨g2, 0, none⟩) s.R.length k2) (.slice (some ⟨g3, 0, none⟩) s.R.length k3) W2) := by show SB _ _ _ _ _ _; rw [← hW2]; exact Blk.set HA1.out (i := 5) (by simp [c9])
  have HZ2 : Hid (SB (w.heap.size + 1) sn0 (.slice none 0 0) (.slice none 0 0) (.slice none 0 0) W2) := by show SB _ _ _ _ _ _; rw [← hW2]; exact Blk.other HZ1.out (by omega)
  have HS2 : Hid (W2.ownsRow W.heap.size 9 1 (.slice (some ⟨p1, 0, none⟩) s.R.length q1) s.R.length (s.R.map Value.string)) := by show World.ownsRow _ _ _ _ _ _ _; rw [← hW2]; exact row_set_below HS1.out (by dsimp only; omega) _
  have b2 : Below w.heap.size w W2 := by rw [← hW2]; exact b1.setCell (Nat.le_refl _) _
  have z2 : w1.heap.size ≤ W2.heap.size := by rw [← hW2]; simp
  clear hW2 HA1 HZ1 HS1 b1 t0 t1 t2 t3 t4 t5 t6 t7 t8 f5
  have HB2 : Hid (W2.ownsRow lo 4 1 (.slice (some ⟨g2, 0, none⟩) s.R.length k2) s.R.length (s.T.map Value.bool)) := by
    have := (H.out.below b2 (Nat.le_refl _)).2.1
    unfold Bls at this
    rw [HT.out] at this
    exact this
  refine (cloneB g2 k2 _ _ lo W2 HB2.out (by intro u hu; obtain ⟨y, _, rfl⟩ := List.mem_map.1 hu; rfl) hr20).mono ?_
  rintro e w3 ⟨v3, rfl, S3, hb3⟩
  obtain ⟨p2, q2, rfl⟩ := row_form S3 hr1
  have HS3 : Hid (w3.ownsRow W2.heap.size 4 1 (.slice (some ⟨p2, 0, none⟩) s.R.length q2) s.R.length (s.T.map Value.bool)) := S3
  have HR3 : Hid (w3.ownsRow W.heap.size 9 1 (.slice (some ⟨p1, 0, none⟩) s.R.length q1) s.R.length (s.R.map Value.string)) := row_belowB HS2.out hb3 (fun g hg => (row_lt HS2.out g hg).2)
  have HA3 : Hid (SB w.heap.size s (.slice (some ⟨p1, 0, none⟩) s.R.length q1) (.slice (some ⟨g2, 0, none⟩) s.R.length k2) (.slice (some ⟨g3, 0, none⟩) s.R.length k3) w3) := SB.below HA2.out hb3
  have HZ3 : Hid (SB (w.heap.size + 1) sn0 (.slice none 0 0) (.slice none 0 0) (.slice none 0 0) w3) := SB.below HZ2.out hb3
  have b3 : Below w.heap.size w w3 := b2.trans (hb3.mono b2.size)
  have z3 := hb3.size
  clear S3 hb3 HA2 HZ2 HS2 b2 HB2
  obtain ⟨t0, t1, t2, t3, t4, t5, t6, t7, t8⟩ := HA3.out.cells
  have f7 : w3.frozen? ⟨w.heap.size, 7, none⟩ = false := HA3.out.free 7
  go_wp2_with fail
  generalize hW4 : World.setCell w3 _ _ = W4
  have HA4 : Hid (SB w.heap.size s (.slice (some ⟨p1, 0, none⟩) s.R.length q1) (.slice (some ⟨p2, 0, none⟩) s.R.length q2) (.slice (some ⟨g3, 0, none⟩) s.R.length k3) W4) := by show SB _ _ _ _ _ _; rw [← hW4]; exact Blk.set HA3.out (i := 7) (by simp [c9])
  have HZ4 : Hid (SB (w.heap.size + 1) sn0 (.slice none 0 0) (.slice none 0 0) (.slice none 0 0) W4) := by show SB _ _ _ _ _ _; rw [← hW4]; exact Blk.other HZ3.out (by omega)
  have HR4 : Hid (W4.ownsRow W.heap.size 9 1 (.slice (some ⟨p1, 0, none⟩) s.R.length q1) s.R.length (s.R.map Value.string)) := by show World.ownsRow _ _ _ _ _ _ _; rw [← hW4]; exact row_set_below HR3.out (by dsimp only; omega) _
  have HS4 : Hid (W4.ownsRow W2.heap.size 4 1 (.slice (some ⟨p2, 0, none⟩) s.R.length q2) s.R.length (s.T.map Value.bool)) := by show World.ownsRow _ _ _ _ _ _ _; rw [← hW4]; exact row_set_below HS3.out (by dsimp only; omega) _
  have b4 : Below w.heap.size w W4 := by rw [← hW4]; exact b3.setCell (Nat.le_refl _) _
  have z4 : w3.heap.size ≤ W4.heap.size := by rw [← hW4]; simp
  clear hW4 HA3 HZ3 HR3 HS3 b3 t0 t1 t2 t3 t4 t5 t6 t7 t8 f7
  have HB4 : Hid (W4.ownsRow lo 37 3 (.slice (some ⟨g3, 0, none⟩) s.R.length k3) s.R.length (vrow s.V)) := by
    have := (H.out.below b4 (Nat.le_refl _)).2.2
    unfold Vds at this
    rw [HV.out] at this
    exact this
  refine (cloneV g3 k3 _ _ lo W4 HB4.out (vrow_one _) hr20).mono ?_
  rintro e w5 ⟨v5, rfl, S5, hb5⟩
  obtain ⟨p3, q3, rfl⟩ := row_form S5 hr1
  have HS5 : Hid (w5.ownsRow W4.heap.size 37 3 (.slice (some ⟨p3, 0, none⟩) s.R.length q3) s.R.length (vrow s.V)) := S5
  have HR5 : Hid (w5.ownsRow W.heap.size 9 1 (.slice (some ⟨p1, 0, none⟩) s.R.length q1) s.R.length (s.R.map Value.string)) := row_belowB HR4.out hb5 (fun g hg => (row_lt HR4.out g hg).2)
  have HQ5 : Hid (w5.ownsRow W2.heap.size 4 1 (.slice (some ⟨p2, 0, none⟩) s.R.length q2) s.R.length (s.T.map Value.bool)) := row_belowB HS4.out hb5 (fun g hg => (row_lt HS4.out g hg).2)
  have HA5 : Hid (SB w.heap.size s (.slice (some ⟨p1, 0, none⟩) s.R.length q1) (.slice (some ⟨p2, 0, none⟩) s.R.length q2) (.slice (some ⟨g3, 0, none⟩) s.R.length k3) w5) := SB.below HA4.out hb5
  have HZ5 : Hid (SB (w.heap.size + 1) sn0 (.slice none 0 0) (.slice none 0 0) (.slice none 0 0) w5) := SB.below HZ4.out hb5
  have b5 : Below w.heap.size w w5 := b4.trans (hb5.mono b4.size)
  have z5 := hb5.size
  have HSV : Hid (SV w5 W.heap.size (.slice (some ⟨p1, 0, none⟩) s.R.length q1) (.slice (some ⟨p2, 0, none⟩) s.R.length q2) (.slice (some ⟨p3, 0, none⟩) s.R.length q3) s) := by
    refine ⟨HR5.out, row_le ?_ (by omega : W.heap.size ≤ W2.heap.size), row_le ?_ (by omega : W.heap.size ≤ W4.heap.size)⟩
    · have := HQ5.out
      rw [← HT.out] at this
      rw [← HT.out]
      exact this
    · have := HS5.out
      rw [← HV.out] at this
      rw [← HV.out]
      exact this
  clear S5 hb5 HA4 HZ4 HS4 HR4 b4 HB4 HS5 HR5 HQ5
  obtain ⟨t0, t1, t2, t3, t4, t5, t6, t7, t8⟩ := HA5.out.cells
  have f8 : w5.frozen? ⟨w.heap.size, 8, none⟩ = false := HA5.out.free 8
  obtain ⟨r0, r1, r2, r3, r4, r5, r6, r7, r8⟩ := HZ5.out.zero
  obtain ⟨rf0, rf1, rf2, rf3, rf4, rf5, rf6, rf7, rf8⟩ := HZ5.out.frees
  have zl : w.heap.size + 1 < w5.heap.size := HZ5.out.lt
  go_wp2
  refine bodyPost_ret (v := .agg #[.int .i64 s.ph, .string s.buf, .string s.he, .string s.fr, .string s.bo, (.slice (some ⟨p1, 0, none⟩) s.R.length q1), .int .i64 (s.nx : Int), (.slice (some ⟨p2, 0, none⟩) s.R.length q2), (.slice (some ⟨p3, 0, none⟩) s.R.length q3)]) (by simp [results, Tryz.results38, go_sem, r0, r1, r2, r3, r4, r5, r6, r7, r8]) rfl ?_
  refine ⟨⟨_, _, _, rfl, ?_⟩, ?_⟩
  · exact ((HSV.out.set (a := ⟨w.heap.size, 8, none⟩) (by dsimp only; omega) _).nine (b := w.heap.size + 1) (by omega) _ _ _ _ _ _ _ _ _).le (by omega)
  · exact below_nine (b5.setCell (p := ⟨w.heap.size, 8, none⟩) (Nat.le_refl _) _) (by omega) _ _ _ _ _ _ _ _ _
end Go.Proofs.YtngcjlghjidnjaaGreatDoor
