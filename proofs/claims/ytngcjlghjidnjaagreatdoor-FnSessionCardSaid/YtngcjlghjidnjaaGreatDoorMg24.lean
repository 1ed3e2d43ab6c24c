import Derived.Test.YtngcjlghjidnjaaGreatDoorMg13
import Derived.Test.YtngcjlghjidnjaaGreatDoorMg3
import Derived.Test.YtngcjlghjidnjaaGreatDoorMg23
import Derived.Test.YtngcjlghjidnjaaGreatDoorMg17
import Derived.Test.YtngcjlghjidnjaaGreatDoorMg8
import Derived.Test.YtngcjlghjidnjaaGreatDoorMg11
namespace Go.Proofs.YtngcjlghjidnjaaGreatDoor
open Go.ChangeShapes Go.WideShapes Go.ChangeAt Go.RowKit

def codeOk (c : Int) : Bool := decide (c = 0) || (decide (200 ≤ c) && decide (c ≤ 599))

set_option maxHeartbeats 1000000 in
set_option maxRecDepth 100000 in
theorem specCode (c : Int) (w : World) : Calls Tryz.prog 88 #[.int .i64 c] w fun e w' => e = .returned (.bool (codeOk c)) ∧ Below w.heap.size w w' := by
  by_cases h0 : c = 0
  · subst h0
    go_enter Tryz.func88, Tryz.ntmps88
    go_wp2
    go_ret
    exact ⟨rfl, Below.refl _ _⟩
  · have h0b : (c == 0) = false := beq_eq_false_iff_ne.2 h0
    have G0 : Hid (codeOk c = (decide (200 ≤ c) && decide (c ≤ 599))) := by show _ = _; unfold codeOk; rw [decide_eq_false h0]; rfl
    by_cases h1 : 200 ≤ c
    · by_cases h2 : c ≤ 599
      · have G : Hid (codeOk c = true) := by show _ = _; rw [G0.out, decide_eq_true h1, decide_eq_true h2]; rfl
        go_enter Tryz.func88, Tryz.ntmps88
        go_wp2
        go_ret
        exact ⟨ret_bool G.out.symm, Below.refl _ _⟩
      · have G : Hid (codeOk c = false) := by show _ = _; rw [G0.out, decide_eq_false h2]; simp
        go_enter Tryz.func88, Tryz.ntmps88
        go_wp2
        go_ret
        exact ⟨ret_bool G.out.symm, Below.refl _ _⟩
    · have G : Hid (codeOk c = false) := by show _ = _; rw [G0.out, decide_eq_false h1]; rfl
      go_enter Tryz.func88, Tryz.ntmps88
      go_wp2
      go_ret
      exact ⟨ret_bool G.out.symm, Below.refl _ _⟩

set_option maxHeartbeats 1000000 in
set_option maxRecDepth 100000 in
theorem implCode (c : Int) (w : World) : Calls Tryz.prog 108 #[.int .i64 c] w fun e w' => e = .returned (.bool (codeOk c)) ∧ Below w.heap.size w w' := by
  by_cases h0 : c = 0
  · subst h0
    go_enter Tryz.func108, Tryz.ntmps108
    go_wp2
    go_ret
    exact ⟨rfl, Below.refl _ _⟩
  · have h0b : (c == 0) = false := beq_eq_false_iff_ne.2 h0
    have G0 : Hid (codeOk c = (decide (200 ≤ c) && decide (c ≤ 599))) := by show _ = _; unfold codeOk; rw [decide_eq_false h0]; rfl
    by_cases h1 : 200 ≤ c
    · by_cases h2 : c ≤ 599
      · have G : Hid (codeOk c = true) := by show _ = _; rw [G0.out, decide_eq_true h1, decide_eq_true h2]; rfl
        go_enter Tryz.func108, Tryz.ntmps108
        go_wp2
        go_ret
        exact ⟨ret_bool G.out.symm, Below.refl _ _⟩
      · have G : Hid (codeOk c = false) := by show _ = _; rw [G0.out, decide_eq_false h2]; simp
        go_enter Tryz.func108, Tryz.ntmps108
        go_wp2
        go_ret
        exact ⟨ret_bool G.out.symm, Below.refl _ _⟩
    · have G : Hid (codeOk c = false) := by show _ = _; rw [G0.out, decide_eq_false h1]; rfl
      go_enter Tryz.func108, Tryz.ntmps108
      go_wp2
      go_ret
      exact ⟨ret_bool G.out.symm, Below.refl _ _⟩

set_option maxHeartbeats 1000000 in
set_option maxRecDepth 100000 in
theorem implReason (x : Vd) (w : World) (hx : x.2.2.size ≤ 1048576) :
    Calls Tryz.prog 82 #[.agg #[.int .i64 x.1, .int .i64 x.2.1, .string x.2.2]] w fun e w' => e = .returned (.bool (codeOk x.2.1 && decide (x.2.2.size ≤ 512))) ∧ Below w.heap.size w w' := by
  have H1 : Hid (codeOk x.2.1 = false → (codeOk x.2.1 && decide (x.2.2.size ≤ 512)) = false) := fun h => by rw [h]; rfl
  have H2 : Hid (codeOk x.2.1 = true → (codeOk x.2.1 && decide (x.2.2.size ≤ 512)) = decide (x.2.2.size ≤ 512)) := fun h => by rw [h]; rfl
  generalize (codeOk x.2.1 && decide (x.2.2.size ≤ 512)) = BB at *
  go_enter Tryz.func82, Tryz.ntmps82
  go_wp2_with fail
  refine (implCode x.2.1 _).mono ?_
  rintro e w1 ⟨rfl, hb1⟩
  have b1 : Below w.heap.size w w1 := (below1 w _).trans (hb1.mono (by simp))
  have z2 : w1.cell? ⟨w.heap.size, 2, none⟩ = some (.string x.2.2) := (hb1.cell (p := ⟨w.heap.size, 2, none⟩) (by simp)).trans (World.cell?_alloc_mark _ _ _ _ _)
  clear hb1
  have hcd : codeOk x.2.1 = false ∨ codeOk x.2.1 = true := by cases codeOk x.2.1 <;> simp
  rcases hcd with hcd | hcd
  · have G : Hid (BB = false) := H1.out hcd
    rw [hcd]
    go_wp2
    go_ret
    exact ⟨ret_bool G.out.symm, b1⟩
  · rw [hcd]
    by_cases d : x.2.2.size ≤ 512
    · have di : (x.2.2.size : Int) ≤ 512 := by omega
      have G : Hid (BB = true) := (H2.out hcd).trans (decide_eq_true d)
      clear H1 H2
      go_wp2
      go_ret
      exact ⟨ret_bool G.out.symm, b1⟩
    · have di : ¬ (x.2.2.size : Int) ≤ 512 := by omega
      have G : Hid (BB = false) := (H2.out hcd).trans (decide_eq_false d)
      clear H1 H2
      go_wp2
      go_ret
      exact ⟨ret_bool (by rw [G.out]; exact decide_eq_false (by omega)), b1⟩
end Go.Proofs.YtngcjlghjidnjaaGreatDoor
namespace Go.Proofs.YtngcjlghjidnjaaGreatDoor
open Go.ChangeShapes Go.WideShapes Go.ChangeAt Go.RowKit

def vdOk (v : Vd) : Bool := decide (0 ≤ v.1) && (decide (v.1 ≤ 3) && (codeOk v.2.1 && decide (v.2.2.size ≤ 512)))
def properN (ph nx : Int) (buf he fr bo : ByteArray) (R : List ByteArray) (T : List Bool) (V : List Vd) : Bool :=
  decide (1 ≤ ph ∧ ph ≤ 9 ∧ buf.size ≤ 40000 ∧ domOk he = true ∧ whomN fr R = true ∧ bodyOk bo = true ∧ T.length = R.length ∧ V.length = R.length ∧ 0 ≤ nx ∧ nx ≤ (R.length : Int) ∧ ¬ (nx = (R.length : Int) ∧ ph = 5)) && V.all vdOk
theorem proper_head {ph nx : Int} {buf he fr bo : ByteArray} {R : List ByteArray} {T : List Bool} {V : List Vd} (h : ¬ (1 ≤ ph ∧ ph ≤ 9 ∧ buf.size ≤ 40000 ∧ domOk he = true ∧ whomN fr R = true ∧ bodyOk bo = true ∧ T.length = R.length ∧ V.length = R.length ∧ 0 ≤ nx ∧ nx ≤ (R.length : Int) ∧ ¬ (nx = (R.length : Int) ∧ ph = 5))) : properN ph nx buf he fr bo R T V = false := by
  unfold properN; rw [decide_eq_false h]; rfl
theorem proper_bad {ph nx : Int} {buf he fr bo : ByteArray} {R : List ByteArray} {T : List Bool} {V : List Vd} {k : Nat} (hk : k < V.length) (h : vdOk V[k] = false) : properN ph nx buf he fr bo R T V = false := by
  unfold properN
  rw [List.all_eq_false.2 ⟨V[k], List.getElem_mem hk, by rw [h]; decide⟩]; simp
theorem proper_good {ph nx : Int} {buf he fr bo : ByteArray} {R : List ByteArray} {T : List Bool} {V : List Vd} (h : (1 ≤ ph ∧ ph ≤ 9 ∧ buf.size ≤ 40000 ∧ domOk he = true ∧ whomN fr R = true ∧ bodyOk bo = true ∧ T.length = R.length ∧ V.length = R.length ∧ 0 ≤ nx ∧ nx ≤ (R.length : Int) ∧ ¬ (nx = (R.length : Int) ∧ ph = 5))) (h2 : ∀ k (hk : k < V.length), vdOk V[k] = true) : properN ph nx buf he fr bo R T V = true := by
  unfold properN
  rw [decide_eq_true h, List.all_eq_true.2 (fun x hx => by obtain ⟨k, hk, rfl⟩ := List.getElem_of_mem hx; exact h2 k hk)]; rfl

theorem vd_bad1 {x : Vd} (h : x.1 < 0) : vdOk x = false := by unfold vdOk; rw [decide_eq_false (by omega)]; rfl
theorem vd_bad2 {x : Vd} (h : 3 < x.1) : vdOk x = false := by unfold vdOk; rw [decide_eq_false (show ¬ x.1 ≤ 3 by omega)]; simp
theorem vd_bad3 {x : Vd} (h : codeOk x.2.1 = false) : vdOk x = false := by unfold vdOk; rw [h]; simp
theorem vd_bad4 {x : Vd} (h : 512 < x.2.2.size) : vdOk x = false := by unfold vdOk; rw [decide_eq_false (show ¬ x.2.2.size ≤ 512 by omega)]; simp
theorem vd_good {x : Vd} (h1 : ¬ x.1 < 0) (h2 : ¬ 3 < x.1) (h3 : codeOk x.2.1 = true) (h4 : ¬ 512 < x.2.2.size) : vdOk x = true := by
  unfold vdOk; rw [decide_eq_true (show 0 ≤ x.1 by omega), decide_eq_true (show x.1 ≤ 3 by omega), h3, decide_eq_true (show x.2.2.size ≤ 512 by omega)]; rfl

set_option maxHeartbeats 4000000 in
set_option maxRecDepth 100000 in
theorem specProper (ph nx : Int) (buf he fr bo : ByteArray) (u1 u2 u3 : Value) (R : List ByteArray) (T : List Bool) (V : List Vd) (lo : Nat) (w : World) (s1 : Strs w lo u1 R) (s2 : Bls w lo u2 T) (s3 : Vds w lo u3 V) (hsm : Small9 buf he fr bo R T V) :
    Calls Tryz.prog 41 #[.agg #[.int .i64 ph, .string buf, .string he, .string fr, .string bo, u1, .int .i64 nx, u2, u3]] w fun e w' => e = .returned (.bool (properN ph nx buf he fr bo R T V)) ∧ Below w.heap.size w w' := by
  obtain ⟨m1, m2, m3, m4, m5, m6, m7, m8, m9⟩ := hsm
  have HR : Hid (ArgS w u1 R) := strs_args s1 (by unfold maxLen; omega) (fun s hs => by have := m6 s hs; unfold maxLen; omega)
  have HM6 : Hid (∀ s ∈ R, s.size ≤ 1048576) := m6
  have HV : Hid (Vds w lo u3 V) := s3
  obtain ⟨p1, q1, rfl⟩ := strs_form2 s1
  obtain ⟨p2, q2, rfl⟩ := bls_form s2
  obtain ⟨p3, q3, rfl⟩ := vds_form s3
  have HX9 : Hid (∀ x ∈ V, x.2.2.size ≤ 1048576) := m9
  have HF : Hid (¬ (1 ≤ ph ∧ ph ≤ 9 ∧ buf.size ≤ 40000 ∧ domOk he = true ∧ whomN fr R = true ∧ bodyOk bo = true ∧ T.length = R.length ∧ V.length = R.length ∧ 0 ≤ nx ∧ nx ≤ (R.length : Int) ∧ ¬ (nx = (R.length : Int) ∧ ph = 5)) → properN ph nx buf he fr bo R T V = false) := proper_head
  have HB : Hid (∀ k (hk : k < V.length), vdOk V[k] = false → properN ph nx buf he fr bo R T V = false) := fun k hk h => proper_bad hk h
  have HGd : Hid ((1 ≤ ph ∧ ph ≤ 9 ∧ buf.size ≤ 40000 ∧ domOk he = true ∧ whomN fr R = true ∧ bodyOk bo = true ∧ T.length = R.length ∧ V.length = R.length ∧ 0 ≤ nx ∧ nx ≤ (R.length : Int) ∧ ¬ (nx = (R.length : Int) ∧ ph = 5)) → (∀ k (hk : k < V.length), vdOk V[k] = true) → properN ph nx buf he fr bo R T V = true) := proper_good
  generalize properN ph nx buf he fr bo R T V = PN at *
  clear s1 s2 s3 m6 m9
  by_cases c1 : ph < 1
  · have G : Hid (PN = false) := HF.out (fun h => by omega)
    go_enter Tryz.func41, Tryz.ntmps41
    go_wp2
    go_ret
    exact ⟨ret_bool G.out.symm, below1 _ _⟩
  by_cases c2 : 9 < ph
  · have G : Hid (PN = false) := HF.out (fun h => by omega)
    go_enter Tryz.func41, Tryz.ntmps41
    go_wp2
    go_ret
    exact ⟨ret_bool G.out.symm, below1 _ _⟩
  go_enter Tryz.func41, Tryz.ntmps41
  go_wp2_with fail
  generalize hW : w.alloc _ = W
  have hA : Hid (Blk w.heap.size #[.int .i64 ph, .string buf, .string he, .string fr, .string bo, .slice p1 R.length q1, .int .i64 nx, .slice p2 T.length q2, .slice p3 V.length q3] W) := by show Blk _ _ _; rw [← hW]; exact Blk.new w _ _
  have bw : Below w.heap.size w W := by rw [← hW]; exact below1 _ _
  clear hW
  refine (specDomain he _ m2).mono ?_
  rintro e w1 ⟨rfl, hb1⟩
  have b1 : Below w.heap.size w w1 := bw.trans (hb1.mono bw.size)
  have hA1 : Hid _ := hA.out.below hb1
  clear hb1 hA bw
  have x3 : w1.cell? ⟨w.heap.size, 3, none⟩ = some (.string fr) := hA1.out.cell 3
  have x5 : w1.cell? ⟨w.heap.size, 5, none⟩ = some (.slice p1 R.length q1) := hA1.out.cell 5
  have hd : domOk he = false ∨ domOk he = true := by cases domOk he <;> simp
  rcases hd with hd | hd
  · have G : Hid (PN = false) := HF.out (fun h => by rw [hd] at h; simp at h)
    rw [hd]
    go_wp2
    go_ret
    exact ⟨ret_bool G.out.symm, b1⟩
  rw [hd]
  go_wp2_with fail
  refine (specWhom fr _ R _ (HR.out.below b1) m3 HM6.out).mono ?_
  rintro e w2 ⟨rfl, hb2⟩
  have b2 : Below w.heap.size w w2 := b1.trans (hb2.mono b1.size)
  have hA2 : Hid _ := hA1.out.below hb2
  clear hb2 hA1 b1 x3 x5
  have x4 : w2.cell? ⟨w.heap.size, 4, none⟩ = some (.string bo) := hA2.out.cell 4
  have hw : whomN fr R = false ∨ whomN fr R = true := by cases whomN fr R <;> simp
  rcases hw with hw | hw
  · have G : Hid (PN = false) := HF.out (fun h => by rw [hw] at h; simp at h)
    rw [hw]
    go_wp2
    go_ret
    exact ⟨ret_bool G.out.symm, b2⟩
  rw [hw]
  go_wp2_with fail
  refine (specBody bo _ m4).mono ?_
  rintro e w3 ⟨rfl, hb3⟩
  have b3 : Below w.heap.size w w3 := b2.trans (hb3.mono b2.size)
  have hA3 : Hid _ := hA2.out.below hb3
  clear hb3 hA2 b2 x4
  have hbd : bodyOk bo = false ∨ bodyOk bo = true := by cases bodyOk bo <;> simp
  rcases hbd with hbd | hbd
  · have G : Hid (PN = false) := HF.out (fun h => by rw [hbd] at h; simp at h)
    rw [hbd]
    go_wp2
    go_ret
    exact ⟨ret_bool G.out.symm, b3⟩
  rw [hbd]
  have x0 : w3.cell? ⟨w.heap.size, 0, none⟩ = some (.int .i64 ph) := hA3.out.cell 0
  have x1 : w3.cell? ⟨w.heap.size, 1, none⟩ = some (.string buf) := hA3.out.cell 1
  have x6 : w3.cell? ⟨w.heap.size, 6, none⟩ = some (.int .i64 nx) := hA3.out.cell 6
  have x7 : w3.cell? ⟨w.heap.size, 7, none⟩ = some (.slice p2 T.length q2) := hA3.out.cell 7
  have x8 : w3.cell? ⟨w.heap.size, 8, none⟩ = some (.slice p3 V.length q3) := hA3.out.cell 8
  by_cases t1 : T.length = R.length
  rotate_left
  · have G : Hid (PN = false) := HF.out (fun h => t1 h.2.2.2.2.2.2.1)
    have tb : ((T.length : Int) != (R.length : Int)) = true := by rw [bne_iff_ne]; omega
    go_wp2
    go_ret
    exact ⟨ret_bool G.out.symm, b3⟩
  have tb : ((T.length : Int) != (R.length : Int)) = false := by simp [t1]
  by_cases t2 : V.length = R.length
  rotate_left
  · have G : Hid (PN = false) := HF.out (fun h => t2 h.2.2.2.2.2.2.2.1)
    have tb2 : ((V.length : Int) != (R.length : Int)) = true := by rw [bne_iff_ne]; omega
    go_wp2
    go_ret
    exact ⟨ret_bool G.out.symm, b3⟩
  have tb2 : ((V.length : Int) != (R.length : Int)) = false := by simp [t2]
  by_cases t3 : nx < 0
  · have G : Hid (PN = false) := HF.out (fun h => by omega)
    go_wp2
    go_ret
    exact ⟨ret_bool G.out.symm, b3⟩
  by_cases t4 : (R.length : Int) < nx
  · have G : Hid (PN = false) := HF.out (fun h => by omega)
    go_wp2
    go_ret
    exact ⟨ret_bool G.out.symm, b3⟩
  have hcase : (nx = (R.length : Int) ∧ ph = 5) ∨ (nx = (R.length : Int) ∧ ph ≠ 5) ∨ nx ≠ (R.length : Int) := by omega
  rcases hcase with ⟨t5, t6⟩ | ⟨t5, t6⟩ | t5
  · have G : Hid (PN = false) := HF.out (fun h => by omega)
    have tb5 : (nx == (R.length : Int)) = true := beq_iff_eq.2 t5
    have tb6 : (ph == 5) = true := beq_iff_eq.2 t6
    go_wp2
    go_ret
    exact ⟨ret_bool G.out.symm, b3⟩
  focus
    have tb5 : (nx == (R.length : Int)) = true := beq_iff_eq.2 t5
    have tb6 : (ph == 5) = false := beq_eq_false_iff_ne.2 t6
    have t56 : ¬ (nx = (R.length : Int) ∧ ph = 5) := by omega
    by_cases t7 : 40000 < buf.size
    · have G : Hid (PN = false) := HF.out (fun h => by omega)
      have t7i : (40000 : Int) < buf.size := by omega
      go_wp2
      go_ret
      exact ⟨ret_bool G.out.symm, b3⟩
    have t7i : ¬ (40000 : Int) < buf.size := by omega
    go_wp2_with fail
  rotate_left
  focus
    have tb5 : (nx == (R.length : Int)) = false := beq_eq_false_iff_ne.2 t5
    have t56 : ¬ (nx = (R.length : Int) ∧ ph = 5) := by omega
    by_cases t7 : 40000 < buf.size
    · have G : Hid (PN = false) := HF.out (fun h => by omega)
      have t7i : (40000 : Int) < buf.size := by omega
      go_wp2
      go_ret
      exact ⟨ret_bool G.out.symm, b3⟩
    have t7i : ¬ (40000 : Int) < buf.size := by omega
    go_wp2_with fail
  all_goals
    have HG2 := HGd.out ⟨by omega, by omega, by omega, hd, hw, hbd, t1, t2, by omega, by omega, t56⟩
    clear x0 x1 x6 x7 x8 tb tb2 tb5 t7i hd hw hbd hA3
    go_loopw [80] (fun iv wr => ∃ k : Nat, k ≤ V.length ∧ iv = .int .i64 k ∧ Below w.heap.size w wr ∧ Hid (∀ j (hj : j < V.length), j < k → vdOk V[j] = true)) (fun iv _ => V.length - (intOf iv).toNat)
    case atStart => exact ⟨0, Nat.zero_le _, rfl, b3, fun j _ hj => absurd hj (Nat.not_lt_zero _)⟩
    case round =>
      obtain ⟨k, hk, rfl, hb, HK⟩ := hrel
      by_cases hlt : k < V.length
      · obtain ⟨g, cap, hv, hs⟩ : ∃ g cap, Value.slice p3 V.length q3 = .slice (some ⟨g, 0, none⟩) V.length cap ∧ VdsAt w lo g cap V := by
          rcases HV.out.cases with ⟨_, h0⟩ | h
          · rw [h0] at hlt; exact absurd hlt (by simp)
          · exact h
        injection hv with hv1 _ hv3
        subst hv1 hv3
        obtain ⟨a0, a1, a2⟩ := hs.cell k hlt
        have y0 := (hb.cell (p := ⟨g, k * 3, none⟩) hs.lt).trans a0
        have y1 := (hb.cell (p := ⟨g, k * 3 + 1, none⟩) hs.lt).trans a1
        have y2 := (hb.cell (p := ⟨g, k * 3 + 2, none⟩) hs.lt).trans a2
        have hbz := hb.size
        have HBk : Hid (vdOk V[k] = false → PN = false) := HB.out k hlt
        have HKk : Hid (vdOk V[k] = true → ∀ j (hj : j < V.length), j < k + 1 → vdOk V[j] = true) := by
          intro h j hj hj2
          by_cases e : j = k
          · subst e; exact h
          · exact HK.out j hj (by omega)
        have hx9 := HX9.out V[k] (List.getElem_mem hlt)
        clear a0 a1 a2 hs HK
        generalize V[k] = X at *
        have bq : Below w.heap.size w (wr.alloc (.cells #[.int .i64 X.1, .int .i64 X.2.1, .string X.2.2] 37)) := hb.trans ((below1 wr _).mono hb.size)
        by_cases d1 : X.1 < 0
        · have G : Hid (PN = false) := HBk.out (vd_bad1 d1)
          go_wp2
          go_ret
          exact ⟨ret_bool G.out.symm, bq⟩
        by_cases d2 : 3 < X.1
        · have G : Hid (PN = false) := HBk.out (vd_bad2 d2)
          go_wp2
          go_ret
          exact ⟨ret_bool G.out.symm, bq⟩
        go_wp2_with fail
        refine (specCode X.2.1 _).mono ?_
        rintro e w5 ⟨rfl, hb5⟩
        have b5 : Below w.heap.size w w5 := bq.trans (hb5.mono bq.size)
        have z2 : w5.cell? ⟨wr.heap.size, 2, none⟩ = some (.string X.2.2) := (hb5.cell (p := ⟨wr.heap.size, 2, none⟩) (by simp)).trans (World.cell?_alloc_mark _ _ _ _ _)
        clear hb5 bq y0 y1 y2
        have hcd : codeOk X.2.1 = false ∨ codeOk X.2.1 = true := by cases codeOk X.2.1 <;> simp
        rcases hcd with hcd | hcd
        · have G : Hid (PN = false) := HBk.out (vd_bad3 hcd)
          rw [hcd]
          go_wp2
          go_ret
          exact ⟨ret_bool G.out.symm, b5⟩
        rw [hcd]
        by_cases d4 : 512 < X.2.2.size
        · have G : Hid (PN = false) := HBk.out (vd_bad4 d4)
          have d4i : (512 : Int) < X.2.2.size := by omega
          go_wp2
          go_ret
          exact ⟨ret_bool G.out.symm, b5⟩
        have d4i : ¬ (512 : Int) < X.2.2.size := by omega
        have HK2 : Hid (∀ j (hj : j < V.length), j < k + 1 → vdOk V[j] = true) := HKk.out (vd_good (by omega) (by omega) hcd (by omega))
        clear HKk HBk hcd
        go_wp2
        go_roundw
        case rel => exact ⟨k + 1, by omega, by go_num, b5, HK2⟩
        case measure => simp [intOf]; omega
      · obtain rfl : k = V.length := by omega
        have G : Hid (PN = true) := HG2 fun j hj => HK.out j hj hj
        go_wp2
        go_ret
        exact ⟨ret_bool G.out.symm, hb⟩
end Go.Proofs.YtngcjlghjidnjaaGreatDoor
namespace Go.Proofs.YtngcjlghjidnjaaGreatDoor
open Pcs

/-- a session -/
structure Sn where
  ph : Int
  buf : ByteArray
  he : ByteArray
  fr : ByteArray
  bo : ByteArray
  R : List ByteArray
  nx : Nat
  T : List Bool
  V : List Vd

def dec1 (v x : Vd) : Vd := if x.1 = 0 then v else x
def decV (v : Vd) (V : List Vd) : List Vd := V.map (dec1 v)
def Sn.dec (s : Sn) (v : Vd) : Sn := { s with V := decV v s.V }
def Sn.to (s : Sn) (ph : Int) : Sn := { s with ph := ph }
def refV (c : Nat) (t : ByteArray) : Vd := (if 500 ≤ c then 3 else 2, (c : Int), t)
def tQuit : ByteArray := cmdB 6 ⟨#[]⟩
def Sn.quit (s : Sn) (v : Vd) : Sn × ByteArray := ((s.dec v).to 8, tQuit)
def Sn.lost (s : Sn) (t : ByteArray) : Sn := { (s.dec (2, 0, t)).to 9 with buf := ⟨#[]⟩ }
def tooBig (L : List ByteArray) (n : Nat) : Bool := match szLim L with
  | some k => decide (0 < k ∧ k < n)
  | none => false
/-- one recipient's reply -/
def Sn.mark (s : Sn) (c : Nat) (t : ByteArray) : Sn :=
  if c = 250 ∨ c = 251 then { s with T := s.T.set s.nx true, nx := s.nx + 1 } else { s with V := s.V.set s.nx (refV c t), nx := s.nx + 1 }
def Sn.next (s : Sn) : Sn × ByteArray :=
  if s.nx < s.R.length then (s, cmdB 4 (s.R.getD s.nx ⟨#[]⟩))
  else if true ∈ s.T then (s.to 6, cmdB 5 ⟨#[]⟩) else (s.to 8, tQuit)
def Sn.take (s : Sn) (c : Nat) (L : List ByteArray) : Sn × ByteArray :=
  if s.ph = 8 then (s.to 9, ⟨#[]⟩)
  else if c = 421 then ((s.dec (refV c (L.getD 0 ⟨#[]⟩))).to 9, ⟨#[]⟩)
  else if s.ph = 5 then (s.mark c (L.getD 0 ⟨#[]⟩)).next
  else if s.ph = 1 then (if c = 220 then (s.to 2, cmdB 1 s.he) else s.quit (refV c (L.getD 0 ⟨#[]⟩)))
  else if s.ph = 2 then (if c = 250 then (if tooBig L s.bo.size then s.quit (3, 552, ⟨#[115, 105, 122, 101]⟩) else (s.to 4, cmdB 3 s.fr))
    else if 500 ≤ c then (s.to 3, cmdB 2 s.he) else s.quit (refV c (L.getD 0 ⟨#[]⟩)))
  else if s.ph = 3 then (if c = 250 then (s.to 4, cmdB 3 s.fr) else s.quit (refV c (L.getD 0 ⟨#[]⟩)))
  else if s.ph = 4 then (if c = 250 then ({ s.to 5 with nx := 0 }, cmdB 4 (s.R.getD 0 ⟨#[]⟩)) else s.quit (refV c (L.getD 0 ⟨#[]⟩)))
  else if s.ph = 6 then (if c = 354 then (s.to 7, stuffB s.bo) else s.quit (refV c (L.getD 0 ⟨#[]⟩)))
  else (if c = 250 then s.quit (1, 250, L.getD 0 ⟨#[]⟩) else s.quit (refV c (L.getD 0 ⟨#[]⟩)))
def tBad : ByteArray := ⟨#[98, 97, 100, 32, 114, 101, 112, 108, 121]⟩
def Sn.rep : Nat → Sn → Sn × ByteArray
  | 0, s => (s, ⟨#[]⟩)
  | k + 1, s => match parse s.buf with
    | (some none) => (s, ⟨#[]⟩)
    | none => (s.lost tBad, ⟨#[]⟩)
    | (some (some (c, L, u))) =>
      if ((Sn.take { s with buf := s.buf.extract u s.buf.size } c L).1).ph = 9 then ({ (Sn.take { s with buf := s.buf.extract u s.buf.size } c L).1 with buf := ⟨#[]⟩ }, (Sn.take { s with buf := s.buf.extract u s.buf.size } c L).2)
      else ((Sn.rep k (Sn.take { s with buf := s.buf.extract u s.buf.size } c L).1).1, (Sn.take { s with buf := s.buf.extract u s.buf.size } c L).2 ++ (Sn.rep k (Sn.take { s with buf := s.buf.extract u s.buf.size } c L).1).2)
def snDone : Sn := ⟨9, ⟨#[]⟩, ⟨#[]⟩, ⟨#[]⟩, ⟨#[]⟩, [], 0, [], []⟩
/-- an event: its kind and its data -/
def Sn.feed (s : Sn) (ok : Bool) (kind : Int) (d : ByteArray) : Sn × ByteArray :=
  if ok = false then (snDone, ⟨#[]⟩)
  else if s.ph = 9 then (s, ⟨#[]⟩)
  else if kind = 3 then (s.lost ⟨#[116, 105, 109, 101, 111, 117, 116]⟩, ⟨#[]⟩)
  else if kind ≠ 1 then (s.lost ⟨#[99, 108, 111, 115, 101, 100]⟩, ⟨#[]⟩)
  else if 40000 < s.buf.size + d.size then (s.lost tBad, ⟨#[]⟩)
  else Sn.rep (s.buf.size + d.size + 1) { s with buf := s.buf ++ d }

/-- what a dialogue keeps to -/
structure Sn.Ok (s : Sn) : Prop where
  p1 : 1 ≤ s.ph
  p9 : s.ph ≤ 9
  t : s.T.length = s.R.length
  v : s.V.length = s.R.length
  r1 : 1 ≤ s.R.length
  r20 : s.R.length ≤ 20
  n : s.nx ≤ s.R.length
  n5 : s.ph = 5 → s.nx < s.R.length
  he : s.he.size ≤ 100
  fr : s.fr.size ≤ 160
  bo : s.bo.size ≤ 3000
  rs : ∀ x ∈ s.R, x.size ≤ 160
  bf : s.buf.size ≤ 40000
/-- its rows have their lengths -/
structure Sn.Wf (s : Sn) : Prop where
  t : s.T.length = s.R.length
  v : s.V.length = s.R.length
  r1 : 1 ≤ s.R.length
  r20 : s.R.length ≤ 20
theorem Sn.Ok.wf {s : Sn} (h : s.Ok) : s.Wf := ⟨h.t, h.v, h.r1, h.r20⟩
theorem decV_len (v : Vd) (V : List Vd) : (decV v V).length = V.length := by simp [decV]
theorem Sn.Ok.dec {s : Sn} (h : s.Ok) (v : Vd) : (s.dec v).Ok := ⟨h.p1, h.p9, h.t, by show (decV v s.V).length = _; rw [decV_len]; exact h.v, h.r1, h.r20, h.n, h.n5, h.he, h.fr, h.bo, h.rs, h.bf⟩
theorem Sn.Ok.to {s : Sn} (h : s.Ok) {ph : Int} (h1 : 1 ≤ ph) (h9 : ph ≤ 9) (h5 : ph ≠ 5) : (s.to ph).Ok := ⟨h1, h9, h.t, h.v, h.r1, h.r20, h.n, fun e => absurd e h5, h.he, h.fr, h.bo, h.rs, h.bf⟩
theorem Sn.Ok.quit {s : Sn} (h : s.Ok) (v : Vd) : (s.quit v).1.Ok := (h.dec v).to (by decide) (by decide) (by decide)
theorem Sn.Ok.mark {s : Sn} (h : s.Ok) (c : Nat) (t : ByteArray) (h5 : s.ph = 5) : (s.mark c t).T.length = s.R.length ∧ (s.mark c t).V.length = s.R.length ∧ (s.mark c t).nx = s.nx + 1 ∧ (s.mark c t).ph = 5 ∧ (s.mark c t).R = s.R ∧ (s.mark c t).he = s.he ∧ (s.mark c t).fr = s.fr ∧ (s.mark c t).bo = s.bo ∧ (s.mark c t).buf = s.buf := by
  unfold Sn.mark
  split
  · exact ⟨by simp [h.t], h.v, rfl, h5, rfl, rfl, rfl, rfl, rfl⟩
  · exact ⟨h.t, by simp [h.v], rfl, h5, rfl, rfl, rfl, rfl, rfl⟩
theorem Sn.Ok.rcpt {s : Sn} (h : s.Ok) (c : Nat) (t : ByteArray) (h5 : s.ph = 5) : (s.mark c t).next.1.Ok := by
  obtain ⟨m1, m2, m3, m4, m5, m6, m7, m8, m9⟩ := h.mark c t h5
  have hn := h.n5 h5
  have A : ∀ ph : Int, 1 ≤ ph → ph ≤ 9 → (ph = 5 → (s.mark c t).nx < (s.mark c t).R.length) → ((s.mark c t).to ph).Ok := fun ph h1 h9 hp =>
    ⟨h1, h9, by show (s.mark c t).T.length = (s.mark c t).R.length; rw [m1, m5], by show (s.mark c t).V.length = (s.mark c t).R.length; rw [m2, m5], by show 1 ≤ (s.mark c t).R.length; rw [m5]; exact h.r1, by show (s.mark c t).R.length ≤ 20; rw [m5]; exact h.r20, by show (s.mark c t).nx ≤ (s.mark c t).R.length; rw [m3, m5]; omega, hp, by show (s.mark c t).he.size ≤ _; rw [m6]; exact h.he, by show (s.mark c t).fr.size ≤ _; rw [m7]; exact h.fr, by show (s.mark c t).bo.size ≤ _; rw [m8]; exact h.bo, by show ∀ x ∈ (s.mark c t).R, _; rw [m5]; exact h.rs, by show (s.mark c t).buf.size ≤ _; rw [m9]; exact h.bf⟩
  unfold Sn.next
  split
  · rename_i hl
    have := A 5 (by decide) (by decide) (fun _ => hl)
    have e : (s.mark c t).to 5 = s.mark c t := by unfold Sn.to; rw [← m4]
    rw [e] at this
    exact this
  · split
    · exact A 6 (by decide) (by decide) (fun e => absurd e (by decide))
    · exact A 8 (by decide) (by decide) (fun e => absurd e (by decide))
theorem Sn.Ok.take {s : Sn} (h : s.Ok) (c : Nat) (L : List ByteArray) : (s.take c L).1.Ok := by
  unfold Sn.take
  repeat' split
  all_goals first
    | exact h.to (by decide) (by decide) (by decide)
    | exact (h.dec _).to (by decide) (by decide) (by decide)
    | exact h.quit _
    | exact h.rcpt _ _ ‹_›
    | exact ⟨(by decide : (1 : Int) ≤ 5), (by decide : (5 : Int) ≤ 9), h.t, h.v, h.r1, h.r20, Nat.zero_le _, fun _ => h.r1, h.he, h.fr, h.bo, h.rs, h.bf⟩
theorem take_buf (s : Sn) (c : Nat) (L : List ByteArray) : (s.take c L).1.buf = s.buf := by
  have hm : ∀ t, (s.mark c t).buf = s.buf := fun t => by unfold Sn.mark; split <;> rfl
  have hn : ∀ x : Sn, x.next.1.buf = x.buf := fun x => by unfold Sn.next; repeat' split <;> try rfl
  unfold Sn.take
  repeat' split
  all_goals first
    | rfl
    | exact (hn _).trans (hm _)

theorem prs_two : ∀ (k : Nat) {c : Option Nat} {acc : List ByteArray} {u : Nat} {r : List UInt8} {n : Nat} {L : List ByteArray} {m : Nat}, prs k c acc u r = (some (some (n, L, m))) → u + 2 ≤ m ∧ 1 ≤ L.length
  | 0, _, _, _, _, _, _, _, h => by cases h
  | k + 1, c, acc, u, r, n, L, m, h => by
    rcases Lib.index_spec r [13, 10] with ⟨e, _⟩ | ⟨j, e, hj, _⟩
    · rw [prs_cut e] at h; split at h <;> cases h
    · rw [prs_line e rfl] at h
      split at h
      · split at h
        · cases h; exact ⟨by omega, by simp⟩
        · have := prs_two k h; exact ⟨by omega, this.2⟩
      · cases h
theorem parse_ok {s : ByteArray} {c : Nat} {L : List ByteArray} {u : Nat} (h : parse s = (some (some (c, L, u)))) : 2 ≤ u ∧ u ≤ s.size ∧ 1 ≤ L.length ∧ L.length ≤ 50 ∧ ∀ x ∈ L, x.size ≤ s.size := by
  have h1 := prs_two 50 h
  have h2 := parse_lines s
  rw [h] at h2
  exact ⟨by omega, h2.2.2, h1.2, h2.2.1, h2.1⟩
theorem Sn.Ok.cut {s : Sn} (h : s.Ok) (u : Nat) : Sn.Ok { s with buf := s.buf.extract u s.buf.size } :=
  ⟨h.p1, h.p9, h.t, h.v, h.r1, h.r20, h.n, h.n5, h.he, h.fr, h.bo, h.rs, by have := h.bf; show (s.buf.extract u s.buf.size).size ≤ _; rw [ByteArray.size_extract]; omega⟩
theorem cmd_size (kind : Int) (s : ByteArray) : (cmdB kind s).size ≤ s.size + 20 := by
  have hs : ∀ p q : ByteArray, p.size + q.size ≤ 20 → (sayB p s q).size ≤ s.size + 20 := fun p q h => by
    unfold sayB; rw [ByteArray.size_append, ByteArray.size_append]; omega
  have hz : ∀ x : ByteArray, x.size ≤ 20 → x.size ≤ s.size + 20 := fun x h => by omega
  unfold cmdB
  repeat' split
  all_goals first
    | exact hs _ _ (by decide)
    | exact hz _ (by decide)
theorem stuff_size (s : ByteArray) : (stuffB s).size ≤ 4 * s.size + 6 := by
  unfold stuffB
  split
  · rw [mk_size, List.length_append]
    have := stuff_len s ((pieces ⟨#[13, 10]⟩ s).length - 1) ((pieces ⟨#[13, 10]⟩ s).length)
    rw [List.take_of_length_le (by simp), ← List.dropLast_eq_take] at this
    simp only [List.length_cons, List.length_nil]; omega
  · show 0 ≤ _; omega
set_option maxHeartbeats 2000000 in
theorem Sn.Ok.said {s : Sn} (h : s.Ok) (c : Nat) (L : List ByteArray) : (s.take c L).2.size ≤ 20000 := by
  have g : ∀ (R : List ByteArray) (i : Nat), (∀ x ∈ R, x.size ≤ 160) → (R.getD i ⟨#[]⟩).size ≤ 160 := fun R i hR => by
    rw [List.getD_eq_getElem?_getD]
    cases e : R[i]? with
    | none => show 0 ≤ _; omega
    | some x => exact hR x (List.mem_of_getElem? e)
  have h1 := cmd_size 1 s.he
  have h2 := cmd_size 2 s.he
  have h3 := cmd_size 3 s.fr
  have h4 := cmd_size 4 (s.R.getD 0 ⟨#[]⟩)
  have g0 := g s.R 0 h.rs
  have h5 := stuff_size s.bo
  have := h.he
  have := h.fr
  have := h.bo
  have h6 : tQuit.size ≤ 20 := cmd_size 6 ⟨#[]⟩
  have e0 : (⟨#[]⟩ : ByteArray).size = 0 := rfl
  have hn : s.ph = 5 → ((s.mark c (L.getD 0 ⟨#[]⟩)).next).2.size ≤ 20000 := fun hp => by
    obtain ⟨m1, m2, m3, m4, m5, m6, m7, m8, m9⟩ := h.mark c (L.getD 0 ⟨#[]⟩) hp
    have a1 := cmd_size 4 ((s.mark c (L.getD 0 ⟨#[]⟩)).R.getD (s.mark c (L.getD 0 ⟨#[]⟩)).nx ⟨#[]⟩)
    have g1 := g (s.mark c (L.getD 0 ⟨#[]⟩)).R (s.mark c (L.getD 0 ⟨#[]⟩)).nx (by rw [m5]; exact h.rs)
    have a2 := cmd_size 5 ⟨#[]⟩
    generalize s.mark c (L.getD 0 ⟨#[]⟩) = x at *
    unfold Sn.next
    split
    · dsimp only; omega
    · split
      · dsimp only; omega
      · dsimp only; omega
  unfold Sn.take
  repeat' split
  all_goals first
    | exact hn ‹_›
    | (dsimp only [Sn.quit]; omega)
theorem ok_of {ph nx : Int} {buf he fr bo : ByteArray} {R : List ByteArray} {T : List Bool} {V : List Vd} (h : properN ph nx buf he fr bo R T V = true) : ∃ n : Nat, nx = (n : Int) ∧ Sn.Ok ⟨ph, buf, he, fr, bo, R, n, T, V⟩ := by
  unfold properN at h
  rw [Bool.and_eq_true, decide_eq_true_eq] at h
  obtain ⟨⟨h1, h2, h3, h4, h5, h6, h7, h8, h9, h10, h11⟩, _⟩ := h
  have h4' : he.size ≤ 100 := by unfold domOk at h4; rw [Bool.and_eq_true, decide_eq_true_eq] at h4; exact h4.1
  have h6' : bo.size ≤ 3000 := by unfold bodyOk at h6; rw [Bool.and_eq_true, decide_eq_true_eq] at h6; exact h6.1
  have ha : ∀ x : ByteArray, addrOk x = true → x.size ≤ 160 := fun x hx => by unfold addrOk at hx; rw [Bool.and_eq_true, decide_eq_true_eq] at hx; exact hx.1
  unfold whomN at h5
  simp only [Bool.and_eq_true, Bool.or_eq_true, decide_eq_true_eq, List.all_eq_true] at h5
  obtain ⟨f1, f2, f3, f4⟩ := h5
  refine ⟨nx.toNat, by omega, h1, h2, h7, h8, f2, f3, by show nx.toNat ≤ R.length; omega, fun e => by
    show nx.toNat < R.length
    have e' : ph = 5 := e
    have : ¬ nx = (R.length : Int) := fun e2 => h11 ⟨e2, e'⟩
    omega, h4', ?_, h6', fun x hx => ha x (f4 x hx), h3⟩
  rcases f1 with e | e
  · show fr.size ≤ 160; omega
  · exact ha fr e
end Go.Proofs.YtngcjlghjidnjaaGreatDoor
