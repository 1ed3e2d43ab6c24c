import Derived.Test.YtngcjlghjidnjaaGreatDoorMg20
import Derived.Test.YtngcjlghjidnjaaGreatDoorMg18
import Derived.Test.YtngcjlghjidnjaaGreatDoorMg14
import Derived.Deep.AppendLies
import Derived.Laws.MakeOwn
import Derived.Test.YtngcjlghjidnjaaGreatDoorMg17
import Derived.Deep.RegionWith
import Derived.Deep.DrawnRows
namespace Go.Proofs.YtngcjlghjidnjaaGreatDoor
open Go.ChangeShapes Go.WideShapes Go.ChangeAt Go.RowKit

theorem strs_form2 {w : World} {lo : Nat} {v : Value} {L : List ByteArray} (h : Strs w lo v L) : ∃ a c, v = .slice a L.length c := by
  rcases h.cases with ⟨rfl, rfl⟩ | ⟨g, cap, rfl, _⟩
  · exact ⟨_, _, rfl⟩
  · exact ⟨_, _, rfl⟩
theorem bls_form {w : World} {lo : Nat} {v : Value} {L : List Bool} (h : Bls w lo v L) : ∃ a c, v = .slice a L.length c := by
  rcases h.cases with ⟨rfl, rfl⟩ | ⟨g, cap, rfl, _⟩
  · exact ⟨_, _, rfl⟩
  · exact ⟨_, _, rfl⟩

/-- the cells of a session -/
def sc (ph nx : Int) (buf he fr bo : ByteArray) (v1 v2 v3 : Value) : Array Value := #[.int .i64 ph, .string buf, .string he, .string fr, .string bo, v1, .int .i64 nx, v2, v3]

set_option maxHeartbeats 2000000 in
set_option maxRecDepth 100000 in
theorem eqSess (ph nx : Int) (buf he fr bo : ByteArray) (u1 u2 u3 v1 v2 v3 : Value) (R : List ByteArray) (T : List Bool) (V : List Vd) (lo lo' : Nat) (w : World)
    (h1 : Strs w lo u1 R) (h2 : Bls w lo u2 T) (h3 : Vds w lo u3 V) (k1 : Strs w lo' v1 R) (k2 : Bls w lo' v2 T) (k3 : Vds w lo' v3 V) :
    Calls Tryz.prog 21 #[.agg #[.int .i64 ph, .string buf, .string he, .string fr, .string bo, u1, .int .i64 nx, u2, u3], .agg #[.int .i64 ph, .string buf, .string he, .string fr, .string bo, v1, .int .i64 nx, v2, v3]] w fun e w' => e = .returned (.bool true) ∧ Below w.heap.size w w' := by
  obtain ⟨p1, q1, rfl⟩ := strs_form2 h1
  obtain ⟨p2, q2, rfl⟩ := bls_form h2
  obtain ⟨p3, q3, rfl⟩ := vds_form h3
  obtain ⟨r1, s1, rfl⟩ := strs_form2 k1
  obtain ⟨r2, s2, rfl⟩ := bls_form k2
  obtain ⟨r3, s3, rfl⟩ := vds_form k3
  have H1 : Hid (Strs w lo (.slice p1 R.length q1) R ∧ Bls w lo (.slice p2 T.length q2) T ∧ Vds w lo (.slice p3 V.length q3) V) := ⟨h1, h2, h3⟩
  have K1 : Hid (Strs w lo' (.slice r1 R.length s1) R ∧ Bls w lo' (.slice r2 T.length s2) T ∧ Vds w lo' (.slice r3 V.length s3) V) := ⟨k1, k2, k3⟩
  clear h1 h2 h3 k1 k2 k3
  go_enter Tryz.func21, Tryz.ntmps21
  go_wp2_with fail
  generalize hW : (w.alloc _).alloc _ = W
  have bw : Below w.heap.size w W := by rw [← hW]; exact below2 _ _ _
  have hWz : w.heap.size + 1 < W.heap.size := by rw [← hW]; simp
  have HX : Hid (∀ i, i = 6 ∨ i = 7 ∨ i = 8 → W.cell? ⟨w.heap.size, i, none⟩ = (#[.int .i64 ph, .string buf, .string he, .string fr, .string bo, .slice p1 R.length q1, .int .i64 nx, .slice p2 T.length q2, .slice p3 V.length q3] : Array Value)[i]? ∧ W.cell? ⟨w.heap.size + 1, i, none⟩ = (#[.int .i64 ph, .string buf, .string he, .string fr, .string bo, .slice r1 R.length s1, .int .i64 nx, .slice r2 T.length s2, .slice r3 V.length s3] : Array Value)[i]?) := by
    intro i hi
    rw [← hW]
    exact ⟨World.cell?_alloc2_first _ _ _ _, World.cell?_alloc2_new _ _ _ _⟩
  clear hW
  have step : ∀ (w1 : World), Below W.heap.size W w1 → Hid ((∀ i, i = 6 ∨ i = 7 ∨ i = 8 → w1.cell? ⟨w.heap.size, i, none⟩ = W.cell? ⟨w.heap.size, i, none⟩ ∧ w1.cell? ⟨w.heap.size + 1, i, none⟩ = W.cell? ⟨w.heap.size + 1, i, none⟩)) := by
    intro w1 hb i _
    exact ⟨hb.cell (p := ⟨w.heap.size, i, none⟩) (by show w.heap.size < _; omega), hb.cell (p := ⟨w.heap.size + 1, i, none⟩) hWz⟩
  have HST : Hid (∀ (w1 : World), Below W.heap.size W w1 → Hid ((∀ i, i = 6 ∨ i = 7 ∨ i = 8 → w1.cell? ⟨w.heap.size, i, none⟩ = W.cell? ⟨w.heap.size, i, none⟩ ∧ w1.cell? ⟨w.heap.size + 1, i, none⟩ = W.cell? ⟨w.heap.size + 1, i, none⟩))) := step
  clear step
  refine (eqStrs _ _ R _ _ _ (strs_below H1.out.1 bw (Nat.le_refl _)) (strs_below K1.out.1 bw (Nat.le_refl _))).mono ?_
  rintro e w1 ⟨rfl, hb1⟩
  have a6 := ((HST.out w1 hb1).out 6 (by simp)).1.trans (HX.out 6 (by simp)).1
  have b6 := ((HST.out w1 hb1).out 6 (by simp)).2.trans (HX.out 6 (by simp)).2
  have a7 := ((HST.out w1 hb1).out 7 (by simp)).1.trans (HX.out 7 (by simp)).1
  have b7 := ((HST.out w1 hb1).out 7 (by simp)).2.trans (HX.out 7 (by simp)).2
  simp only [List.getElem?_toArray, List.getElem?_cons_succ, List.getElem?_cons_zero] at a6 b6 a7 b7
  go_wp2_with fail
  have bw1 : Below w.heap.size w w1 := bw.trans (hb1.mono bw.size)
  refine (eqBls _ _ T _ _ _ (bls_below H1.out.2.1 bw1 (Nat.le_refl _)) (bls_below K1.out.2.1 bw1 (Nat.le_refl _))).mono ?_
  rintro e w2 ⟨rfl, hb2⟩
  have hbW2 : Below W.heap.size W w2 := hb1.trans (hb2.mono hb1.size)
  have a8 := ((HST.out w2 hbW2).out 8 (by simp)).1.trans (HX.out 8 (by simp)).1
  have b8 := ((HST.out w2 hbW2).out 8 (by simp)).2.trans (HX.out 8 (by simp)).2
  simp only [List.getElem?_toArray, List.getElem?_cons_succ, List.getElem?_cons_zero] at a8 b8
  clear a6 b6 a7 b7
  go_wp2_with fail
  have bw2 : Below w.heap.size w w2 := bw1.trans (hb2.mono bw1.size)
  refine (eqVds _ _ V _ _ _ (vds_below H1.out.2.2 bw2 (Nat.le_refl _)) (vds_below K1.out.2.2 bw2 (Nat.le_refl _))).mono ?_
  rintro e w3 ⟨rfl, hb3⟩
  go_wp2
  go_ret
  exact ⟨rfl, bw2.trans (hb3.mono bw2.size)⟩

/-- three slices in blocks that are not the same -/
def Apart3 (u1 u2 u3 : Value) : Prop := (∀ a b, u1.ownBlock = some a → u2.ownBlock = some b → a ≠ b) ∧ (∀ a b, u1.ownBlock = some a → u3.ownBlock = some b → a ≠ b) ∧ ∀ a b, u2.ownBlock = some a → u3.ownBlock = some b → a ≠ b

set_option maxHeartbeats 2000000 in
set_option maxRecDepth 100000 in
theorem markSess (ph nx : Int) (buf he fr bo : ByteArray) (u1 u2 u3 : Value) (R : List ByteArray) (T : List Bool) (V : List Vd) (lo k : Nat) (w : World)
    (h1 : Strs w lo u1 R) (h2 : Bls w lo u2 T) (h3 : Vds w lo u3 V) (hap : Apart3 u1 u2 u3) (hk : 1 ≤ k) (hm : k + R.length + T.length + 3 * V.length ≤ 16777216) :
    Calls Tryz.prog 22 #[.agg #[.int .i64 ph, .string buf, .string he, .string fr, .string bo, u1, .int .i64 nx, u2, u3], .int .i64 k] w fun e w' => e = .returned (.int .i64 ((k + R.length + T.length + 3 * V.length : Nat) : Int)) ∧
      (Strs w' lo u1 (marks k R.length) ∧ Bls w' lo u2 (bmarks (k + R.length) T.length) ∧ Vds w' lo u3 (vmarks (k + R.length + T.length) V.length)) ∧ OffL [u1, u2, u3] w w' := by
  have HO : Hid ((∀ g, u1.ownBlock = some g → g < w.heap.size) ∧ (∀ g, u2.ownBlock = some g → g < w.heap.size) ∧ ∀ g, u3.ownBlock = some g → g < w.heap.size) := ⟨strs_own h1, bls_own h2, fun g hg => (vds_own h3 g hg).2⟩
  have HA : Hid (Apart3 u1 u2 u3) := hap
  obtain ⟨p1, q1, rfl⟩ := strs_form2 h1
  obtain ⟨p2, q2, rfl⟩ := bls_form h2
  obtain ⟨p3, q3, rfl⟩ := vds_form h3
  have H1 : Hid (Strs w lo (.slice p1 R.length q1) R ∧ Bls w lo (.slice p2 T.length q2) T ∧ Vds w lo (.slice p3 V.length q3) V) := ⟨h1, h2, h3⟩
  clear h1 h2 h3 hap
  go_enter Tryz.func22, Tryz.ntmps22
  go_wp2_with fail
  generalize hW : w.alloc _ = W
  have bw : Below w.heap.size w W := by rw [← hW]; exact below1 _ _
  have hWz : w.heap.size < W.heap.size := by rw [← hW]; simp
  have HX : Hid (W.cell? ⟨w.heap.size, 7, none⟩ = some (.slice p2 T.length q2) ∧ W.cell? ⟨w.heap.size, 8, none⟩ = some (.slice p3 V.length q3)) := by
    rw [← hW]
    exact ⟨by rw [World.cell?_alloc_mark]; rfl, by rw [World.cell?_alloc_mark]; rfl⟩
  clear hW
  generalize hU1 : Value.slice p1 R.length q1 = U1 at *
  generalize hU2 : Value.slice p2 T.length q2 = U2 at *
  generalize hU3 : Value.slice p3 V.length q3 = U3 at *
  refine (markStrsO _ R lo k _ (strs_below H1.out.1 bw (Nat.le_refl _)) hk (by omega)).mono ?_
  rintro e w1 ⟨rfl, S1, hv1⟩
  have o1 : OffL [U1, U2, U3] W w1 := OffL.ofV hv1 (by simp)
  have r2 : Bls w1 lo U2 T := by
    rcases hv1 with ⟨b, hb, ho⟩ | hb
    · exact (OffL.ofV (vs := [U1]) (.inl ⟨b, hb, ho⟩) (by simp)).row (bls_below H1.out.2.1 bw (Nat.le_refl _)) (fun g hg v hv e => by
        rw [List.mem_singleton.1 hv] at e
        exact HA.out.1 g g e hg rfl)
    · exact bls_below (bls_below H1.out.2.1 bw (Nat.le_refl _)) hb (Nat.le_refl _)
  have r3 : Vds w1 lo U3 V := (OffL.ofV (vs := [U1]) hv1 (by simp)).row (vds_below H1.out.2.2 bw (Nat.le_refl _)) (fun g hg v hv e => by
        rw [List.mem_singleton.1 hv] at e
        exact HA.out.2.1 g g e hg rfl)
  have a7 := (o1.cell (k := w.heap.size) (i := 7) hWz (fun v hv e => by
    simp only [List.mem_cons, List.mem_nil_iff, or_false] at hv
    rcases hv with rfl | rfl | rfl
    · exact absurd (HO.out.1 _ e) (by omega)
    · exact absurd (HO.out.2.1 _ e) (by omega)
    · exact absurd (HO.out.2.2 _ e) (by omega))).trans HX.out.1
  have a8 := (o1.cell (k := w.heap.size) (i := 8) hWz (fun v hv e => by
    simp only [List.mem_cons, List.mem_nil_iff, or_false] at hv
    rcases hv with rfl | rfl | rfl
    · exact absurd (HO.out.1 _ e) (by omega)
    · exact absurd (HO.out.2.1 _ e) (by omega)
    · exact absurd (HO.out.2.2 _ e) (by omega))).trans HX.out.2
  have HS1 : Hid (Strs w1 lo U1 (marks k R.length)) := S1
  have HR : Hid (Bls w1 lo U2 T ∧ Vds w1 lo U3 V) := ⟨r2, r3⟩
  have hz1 : w.heap.size < w1.heap.size := by have := o1.size; omega
  have HOF1 : Hid (OffL [U1, U2, U3] W w1) := o1
  clear S1 r2 r3 o1 hv1 HX
  subst hU1 hU2 hU3
  go_wp2_with fail
  generalize hU1 : Value.slice p1 R.length q1 = U1 at *
  generalize hU2 : Value.slice p2 T.length q2 = U2 at *
  generalize hU3 : Value.slice p3 V.length q3 = U3 at *
  rw [show (k : Int) + (R.length : Int) = ((k + R.length : Nat) : Int) by omega]
  refine (markBls _ T lo (k + R.length) _ HR.out.1 (by omega) (by omega)).mono ?_
  rintro e w2 ⟨rfl, S2, hv2⟩
  have o2 : OffL [U1, U2, U3] w1 w2 := OffL.ofV hv2 (by simp)
  have r1 : Strs w2 lo U1 (marks k R.length) := (OffL.ofV (vs := [U2]) hv2 (by simp)).row HS1.out (fun g hg v hv e => by
        rw [List.mem_singleton.1 hv] at e
        exact HA.out.1 g g hg e rfl)
  have r3 : Vds w2 lo U3 V := (OffL.ofV (vs := [U2]) hv2 (by simp)).row HR.out.2 (fun g hg v hv e => by
        rw [List.mem_singleton.1 hv] at e
        exact HA.out.2.2 g g e hg rfl)
  have b8 := (o2.cell (k := w.heap.size) (i := 8) hz1 (fun v hv e => by
    simp only [List.mem_cons, List.mem_nil_iff, or_false] at hv
    rcases hv with rfl | rfl | rfl
    · exact absurd (HO.out.1 _ e) (by omega)
    · exact absurd (HO.out.2.1 _ e) (by omega)
    · exact absurd (HO.out.2.2 _ e) (by omega))).trans a8
  have HS2 : Hid (Strs w2 lo U1 (marks k R.length) ∧ Bls w2 lo U2 (bmarks (k + R.length) T.length)) := ⟨r1, S2⟩
  have HR3 : Hid (Vds w2 lo U3 V) := r3
  have hz2 : w.heap.size < w2.heap.size := by have := o2.size; omega
  have HOF2 : Hid (OffL [U1, U2, U3] W w2) := HOF1.out.trans o2
  clear S2 r1 r3 o2 hv2 HOF1 HS1 HR a7 a8
  subst hU1 hU2 hU3
  go_wp2_with fail
  generalize hU1 : Value.slice p1 R.length q1 = U1 at *
  generalize hU2 : Value.slice p2 T.length q2 = U2 at *
  generalize hU3 : Value.slice p3 V.length q3 = U3 at *
  rw [show (k : Int) + (R.length : Int) + (T.length : Int) = ((k + R.length + T.length : Nat) : Int) by omega]
  refine (markVds _ V lo (k + R.length + T.length) _ HR3.out (by omega) (by omega)).mono ?_
  rintro e w3 ⟨rfl, S3, hv3⟩
  have o3 : OffL [U1, U2, U3] w2 w3 := OffL.ofV hv3 (by simp)
  have HF : Hid ((Strs w3 lo U1 (marks k R.length) ∧ Bls w3 lo U2 (bmarks (k + R.length) T.length) ∧ Vds w3 lo U3 (vmarks (k + R.length + T.length) V.length)) ∧ OffL [U1, U2, U3] w w3) :=
    ⟨⟨(OffL.ofV (vs := [U3]) hv3 (by simp)).row HS2.out.1 (fun g hg v hv e => by
        rw [List.mem_singleton.1 hv] at e
        exact HA.out.2.1 g g hg e rfl), (OffL.ofV (vs := [U3]) hv3 (by simp)).row HS2.out.2 (fun g hg v hv e => by
        rw [List.mem_singleton.1 hv] at e
        exact HA.out.2.2 g g hg e rfl), S3⟩, (OffL.of_below bw).trans (HOF2.out.trans o3)⟩
  clear S3 hv3 o3 HOF2 HS2 HR3
  subst hU1 hU2 hU3
  go_wp2
  go_ret
  exact ⟨rfl, HF.out.1, HF.out.2⟩

set_option maxHeartbeats 2000000 in
set_option maxRecDepth 100000 in
theorem heldSess (ph nx : Int) (buf he fr bo : ByteArray) (u1 u2 u3 : Value) (n1 n2 n3 lo k : Nat) (w : World)
    (h1 : Strs w lo u1 (marks k n1)) (h2 : Bls w lo u2 (bmarks (k + n1) n2)) (h3 : Vds w lo u3 (vmarks (k + n1 + n2) n3)) (hk : 1 ≤ k) (hm : k + n1 + n2 + 3 * n3 ≤ 16777216) :
    Calls Tryz.prog 23 #[.agg #[.int .i64 ph, .string buf, .string he, .string fr, .string bo, u1, .int .i64 nx, u2, u3], .int .i64 k] w fun e w' => e = .returned (.int .i64 ((k + n1 + n2 + 3 * n3 : Nat) : Int)) ∧ Below w.heap.size w w' := by
  obtain ⟨p1, q1, hp1⟩ := strs_form2 h1
  obtain ⟨p2, q2, hp2⟩ := bls_form h2
  obtain ⟨p3, q3, hp3⟩ := vds_form h3
  have H1 : Hid (Strs w lo u1 (marks k n1) ∧ Bls w lo u2 (bmarks (k + n1) n2) ∧ Vds w lo u3 (vmarks (k + n1 + n2) n3)) := ⟨h1, h2, h3⟩
  rw [marks_length] at hp1
  rw [bmarks_length] at hp2
  rw [vmarks_length] at hp3
  clear h1 h2 h3
  subst hp1 hp2 hp3
  go_enter Tryz.func23, Tryz.ntmps23
  go_wp2_with fail
  generalize hW : w.alloc _ = W
  have bw : Below w.heap.size w W := by rw [← hW]; exact below1 _ _
  have hWz : w.heap.size < W.heap.size := by rw [← hW]; simp
  have HX : Hid (W.cell? ⟨w.heap.size, 7, none⟩ = some (.slice p2 n2 q2) ∧ W.cell? ⟨w.heap.size, 8, none⟩ = some (.slice p3 n3 q3)) := by
    rw [← hW]
    exact ⟨by rw [World.cell?_alloc_mark]; rfl, by rw [World.cell?_alloc_mark]; rfl⟩
  clear hW
  refine (heldStrs _ n1 lo k _ (strs_below H1.out.1 bw (Nat.le_refl _)) hk (by omega)).mono ?_
  rintro e w1 ⟨rfl, hb1⟩
  have a7 := (hb1.cell (p := ⟨w.heap.size, 7, none⟩) hWz).trans HX.out.1
  have a8 := (hb1.cell (p := ⟨w.heap.size, 8, none⟩) hWz).trans HX.out.2
  have bw1 : Below w.heap.size w w1 := bw.trans (hb1.mono bw.size)
  have hz1 : w.heap.size < w1.heap.size := by have := hb1.size; omega
  clear HX hb1
  go_wp2_with fail
  rw [show (k : Int) + (n1 : Int) = ((k + n1 : Nat) : Int) by omega]
  refine (heldBls _ n2 lo (k + n1) _ (bls_below H1.out.2.1 bw1 (Nat.le_refl _)) (by omega) (by omega)).mono ?_
  rintro e w2 ⟨rfl, hb2⟩
  have b8 := (hb2.cell (p := ⟨w.heap.size, 8, none⟩) hz1).trans a8
  have bw2 : Below w.heap.size w w2 := bw1.trans (hb2.mono bw1.size)
  clear a7 a8 hb2
  go_wp2_with fail
  rw [show (k : Int) + (n1 : Int) + (n2 : Int) = ((k + n1 + n2 : Nat) : Int) by omega]
  refine (heldVds _ n3 lo (k + n1 + n2) _ (vds_below H1.out.2.2 bw2 (Nat.le_refl _)) (by omega) (by omega)).mono ?_
  rintro e w3 ⟨rfl, hb3⟩
  go_wp2
  go_ret
  exact ⟨rfl, bw2.trans (hb3.mono bw2.size)⟩
end Go.Proofs.YtngcjlghjidnjaaGreatDoor
namespace Go.Proofs.YtngcjlghjidnjaaGreatDoor
open Go.ChangeShapes Go.WideShapes Go.ChangeAt Go.RowKit

def vd0 : Vd := (0, 0, ⟨#[]⟩)
def zVd : Value := .agg #[.int .i64 0, .int .i64 0, .string ⟨#[]⟩]
theorem zVd_cells : zVd.cells = #[.int .i64 0, .int .i64 0, .string ⟨#[]⟩] := rfl
theorem made_size (n : Nat) : (madeCells zVd.cells (n * 3)).size = n * 3 := size_madeCells _ _
theorem vrow_made (n : Nat) : (madeCells zVd.cells (n * 3)).toList = vrow (List.replicate n vd0) := by
  refine List.ext_getElem? fun i => ?_
  by_cases hi : i < n * 3
  · have h1 : (madeCells zVd.cells (n * 3)).toList[i]? = zVd.cells[i % 3]? := by
      have hr : i % 3 = 0 ∨ i % 3 = 1 ∨ i % 3 = 2 := by omega
      rw [Array.getElem?_toList, Array.getElem?_eq_getElem (by rw [made_size]; exact hi)]
      unfold madeCells
      rw [Array.getElem_map, Array.getElem_range, zVd_cells]
      show some ((#[.int .i64 0, .int .i64 0, .string ⟨#[]⟩] : Array Value)[i % 3]!) = _
      rcases hr with h | h | h <;> rw [h] <;> rfl
    rw [h1, zVd_cells]
    have hq : i / 3 < (List.replicate n vd0).length := by simp; omega
    obtain ⟨e0, e1, e2⟩ := vrow_get (List.replicate n vd0) (i / 3) hq
    have hv : (List.replicate n vd0)[i / 3] = vd0 := by simp
    rw [hv] at e0 e1 e2
    have hr : i % 3 = 0 ∨ i % 3 = 1 ∨ i % 3 = 2 := by omega
    rcases hr with h | h | h
    · rw [h]
      have : i = i / 3 * 3 := by omega
      conv => rhs; rw [this, e0]
      rfl
    · rw [h]
      have : i = i / 3 * 3 + 1 := by omega
      conv => rhs; rw [this, e1]
      rfl
    · rw [h]
      have : i = i / 3 * 3 + 2 := by omega
      conv => rhs; rw [this, e2]
      rfl
  · rw [List.getElem?_eq_none (by rw [Array.length_toList, made_size]; omega), List.getElem?_eq_none (by rw [vrow_len]; simp; omega)]
theorem vds_made (w : World) (n : Nat) (hn : n ≤ maxLen) : Vds (w.alloc (.cells (madeCells zVd.cells (n * 3)) 37)) w.heap.size (.slice (some ⟨w.heap.size, 0, none⟩) n n) (List.replicate n vd0) := by
  refine ⟨by rw [vrow_len]; omega, .inr ⟨w.heap.size, n, madeCells zVd.cells (n * 3), by simp, Nat.le_refl _, (MapKept.heap_alloc w _).1, by simp, hn, made_size n, ?_⟩⟩
  rw [vrow_made]
  refine List.take_of_length_le ?_
  rw [vrow_len]; simp; omega
end Go.Proofs.YtngcjlghjidnjaaGreatDoor
namespace Go.Proofs.YtngcjlghjidnjaaGreatDoor
open Go.ChangeShapes Go.WideShapes Go.ChangeAt Go.RowKit
attribute [local go_sem ↓] Go.wp_at_zero Go.wp_at_succ

/-- what Open makes -/
def openOk (he fr bo : ByteArray) (L : List ByteArray) : Bool := domOk he && (whomN fr L && bodyOk bo)
theorem bls_made (w : World) (n : Nat) (hn : n ≤ maxLen) : Bls (w.alloc (.cells (madeCells (Value.bool false).cells n) 4)) w.heap.size (.slice (some ⟨w.heap.size, 0, none⟩) n n) (List.replicate n false) := by
  refine ⟨by simp, .inr ⟨w.heap.size, n, madeCells (Value.bool false).cells n, by simp, Nat.le_refl _, (MapKept.heap_alloc w _).1, by simp, hn, by simp [size_madeCells], ?_⟩⟩
  simp [madeCells, Value.cells, Nat.mod_one, List.take_of_length_le]
  exact List.ext_getElem (by simp) (fun i h1 h2 => by simp)
theorem sessAt {w wr : World} {Z : Array Value} {T : TypeId} (hb : Below (w.heap.size + 1) (w.alloc (.cells Z T)) wr) :
    (∀ i, wr.cell? ⟨w.heap.size, i, none⟩ = Z[i]?) ∧ (∀ o, wr.frozen? ⟨w.heap.size, o, none⟩ = false) := by
  refine ⟨fun i => ?_, fun o => ?_⟩
  · rw [hb.cell (p := ⟨w.heap.size, i, none⟩) (by show w.heap.size < _; omega), World.cell?_alloc_mark]
  · rw [hb.frozen (p := ⟨w.heap.size, o, none⟩) (by show w.heap.size < _; omega)]
    exact World.frozen?_alloc_at _ _ _ _ rfl

/-- a session of zeros in block b -/
def ResZ (b : Nat) (w : World) : Prop := w.cell? ⟨b, 0, none⟩ = some (.int .i64 0) ∧ w.cell? ⟨b, 1, none⟩ = some (.string ⟨#[]⟩) ∧ w.cell? ⟨b, 2, none⟩ = some (.string ⟨#[]⟩) ∧ w.cell? ⟨b, 3, none⟩ = some (.string ⟨#[]⟩) ∧ w.cell? ⟨b, 4, none⟩ = some (.string ⟨#[]⟩) ∧ w.cell? ⟨b, 5, none⟩ = some (.slice none 0 0) ∧ w.cell? ⟨b, 6, none⟩ = some (.int .i64 0) ∧ w.cell? ⟨b, 7, none⟩ = some (.slice none 0 0) ∧ w.cell? ⟨b, 8, none⟩ = some (.slice none 0 0) ∧ w.frozen? ⟨b, 0, none⟩ = false ∧ w.frozen? ⟨b, 1, none⟩ = false ∧ w.frozen? ⟨b, 2, none⟩ = false ∧ w.frozen? ⟨b, 3, none⟩ = false ∧ w.frozen? ⟨b, 4, none⟩ = false ∧ w.frozen? ⟨b, 5, none⟩ = false ∧ w.frozen? ⟨b, 6, none⟩ = false ∧ w.frozen? ⟨b, 7, none⟩ = false ∧ w.frozen? ⟨b, 8, none⟩ = false ∧ b < w.heap.size
theorem resZ_of {w wr : World} (hb : Below (w.heap.size + 1) (w.alloc (.cells #[.int .i64 0, .string ⟨#[]⟩, .string ⟨#[]⟩, .string ⟨#[]⟩, .string ⟨#[]⟩, .slice none 0 0, .int .i64 0, .slice none 0 0, .slice none 0 0] 29)) wr) : ResZ w.heap.size wr := by
  obtain ⟨g, gf⟩ := sessAt hb
  exact ⟨g 0, g 1, g 2, g 3, g 4, g 5, g 6, g 7, g 8, gf 0, gf 1, gf 2, gf 3, gf 4, gf 5, gf 6, gf 7, gf 8, by have := hb.size; simp at this; omega⟩

def oPh (b : Bool) : Int := if b then 1 else 9
def oS (b : Bool) (s : ByteArray) : ByteArray := if b then s else ⟨#[]⟩
def oL (b : Bool) (L : List ByteArray) : List ByteArray := if b then L else []
/-- what Open hands back -/
def OpenPost (he fr bo : ByteArray) (L : List ByteArray) (w : World) (e : Ending) (w' : World) : Prop :=
  (∃ v1 v2 v3, e = .returned (.agg #[.int .i64 (oPh (openOk he fr bo L)), .string ⟨#[]⟩, .string (oS (openOk he fr bo L) he), .string (oS (openOk he fr bo L) fr), .string (oS (openOk he fr bo L) bo), v1, .int .i64 0, v2, v3]) ∧
    (Strs w' w.heap.size v1 (oL (openOk he fr bo L) L) ∧ Bls w' w.heap.size v2 (List.replicate (oL (openOk he fr bo L) L).length false) ∧ Vds w' w.heap.size v3 (List.replicate (oL (openOk he fr bo L) L).length vd0)) ∧ Apart3 v1 v2 v3) ∧ Below w.heap.size w w'
theorem open_no {he fr bo : ByteArray} {L : List ByteArray} (h : openOk he fr bo L = false) {w w' : World} (hb : Below w.heap.size w w') :
    OpenPost he fr bo L w (.returned (.agg #[.int .i64 9, .string ⟨#[]⟩, .string ⟨#[]⟩, .string ⟨#[]⟩, .string ⟨#[]⟩, .slice none 0 0, .int .i64 0, .slice none 0 0, .slice none 0 0])) w' := by
  unfold OpenPost
  rw [h]
  exact ⟨⟨_, _, _, rfl, ⟨World.ownsRow_nil _ _ _ _, World.ownsRow_nil _ _ _ _, World.ownsRow_nil _ _ _ _⟩, by simp [Apart3, Value.ownBlock]⟩, hb⟩
theorem bls_at {W : World} {k n lo : Nat} (h : W.heap[k]? = some (.cells (madeCells (Value.bool false).cells n) 4 (0, 0))) (hlo : lo ≤ k) (hn : n ≤ maxLen) : Bls W lo (.slice (some ⟨k, 0, none⟩) n n) (List.replicate n false) := by
  refine ⟨by simp, .inr ⟨k, n, madeCells (Value.bool false).cells n, by simp, hlo, h, by simp, hn, by simp [size_madeCells], ?_⟩⟩
  simp [madeCells, Value.cells, Nat.mod_one, List.take_of_length_le]
  exact List.ext_getElem (by simp) (fun i h1 h2 => by simp)
theorem vds_at {W : World} {k n lo : Nat} (h : W.heap[k]? = some (.cells (madeCells zVd.cells (n * 3)) 37 (0, 0))) (hlo : lo ≤ k) (hn : n ≤ maxLen) : Vds W lo (.slice (some ⟨k, 0, none⟩) n n) (List.replicate n vd0) := by
  refine ⟨by rw [vrow_len]; omega, .inr ⟨k, n, madeCells zVd.cells (n * 3), by simp, hlo, h, by simp, hn, made_size n, ?_⟩⟩
  rw [vrow_made]
  refine List.take_of_length_le ?_
  rw [vrow_len]; simp; omega
theorem lk_new (W : World) (o : Obj) (k : Nat) (hk : k = W.heap.size) : (W.alloc o).heap[k]? = some o := by subst hk; exact (MapKept.heap_alloc W o).1
theorem lk_old (W : World) (o : Obj) (k : Nat) (hk : k < W.heap.size) : (W.alloc o).heap[k]? = W.heap[k]? := by
  show (W.heap.push o)[k]? = _
  rw [Array.getElem?_push_lt hk, Array.getElem?_eq_getElem hk]
theorem open_yes {CB CV : Array Value} {n : Nat} (hCB : madeCells (Value.bool false).cells n = CB) (hCV : madeCells zVd.cells (n * 3) = CV) {he fr bo : ByteArray} {L : List ByteArray} (h : openOk he fr bo L = true) (hn : L.length = n) (hn2 : n ≤ 20) {w F : World} {kB kV c3 : Nat} {a3 : Option Addr}
    (hS : Strs F (w.heap.size + 1) (.slice a3 n c3) L) (hkB : w.heap.size ≤ kB) (hkV : w.heap.size ≤ kV) (hne : kB ≠ kV) (hgB : (Value.slice a3 n c3).ownBlock ≠ some kB) (hgV : (Value.slice a3 n c3).ownBlock ≠ some kV)
    (hB : F.heap[kB]? = some (.cells CB 4 (0, 0))) (hV : F.heap[kV]? = some (.cells CV 37 (0, 0))) (hb : Below w.heap.size w F) :
    OpenPost he fr bo L w (.returned (.agg #[.int .i64 1, .string ⟨#[]⟩, .string he, .string fr, .string bo, .slice a3 n c3, .int .i64 0, .slice (some ⟨kB, 0, none⟩) n n, .slice (some ⟨kV, 0, none⟩) n n])) F := by
  subst hCB hCV
  unfold OpenPost
  rw [h]
  have hm : n ≤ maxLen := by unfold maxLen; omega
  refine ⟨⟨_, _, _, rfl, ⟨strs_le hS (Nat.le_succ _), ?_, ?_⟩, ?_⟩, hb⟩
  · show Bls _ _ _ (List.replicate L.length false)
    rw [hn]; exact bls_at hB hkB hm
  · show Vds _ _ _ (List.replicate L.length vd0)
    rw [hn]; exact vds_at hV hkV hm
  · refine ⟨fun a b ha hb => ?_, fun a b ha hb => ?_, fun a b ha hb => ?_⟩
    · intro e; subst e; simp only [Value.ownBlock, Option.some.injEq] at hb; subst hb; exact hgB ha
    · intro e; subst e; simp only [Value.ownBlock, Option.some.injEq] at hb; subst hb; exact hgV ha
    · simp only [Value.ownBlock, Option.some.injEq] at ha hb; omega
end Go.Proofs.YtngcjlghjidnjaaGreatDoor
