import Derived.Test.YtfkngjdclggfbaaDoorMg25
import Derived.Test.YtfkngjdclggfbaaDoorMg30
import Derived.Test.YtfkngjdclggfbaaDoorMg21
namespace Go.Proofs.YtfkngjdclggfbaaDoor
open Go.ChangeShapes Go.WideShapes Go.ChangeAt Go.RowKit
attribute [local go_sem ↓] Go.wp_at_zero Go.wp_at_succ


set_option maxHeartbeats 2000000 in
set_option maxRecDepth 100000 in
theorem implOpen (he fr bo : ByteArray) (v : Value) (L : List ByteArray) (w : World) (h : ArgS w v L) (hh : he.size ≤ 1048576) (hf : fr.size ≤ 1048576) (hs : ∀ s ∈ L, s.size ≤ 1048576) (hbo : bo.size ≤ 1048576) (hl : LenIn w) :
    Calls Tryd.prog 8 #[.string he, .string fr, v, .string bo] w fun e w' => OpenPost he fr bo L w e w' := by
  have HL : Hid (LenIn w) := hl
  have HA : Hid (ArgS w v L) := h
  have HS : Hid (∀ s ∈ L, s.size ≤ 1048576) := hs
  obtain ⟨a, c, rfl⟩ := h.form
  clear h hs hl
  have hd : domOk he = false ∨ domOk he = true := by cases domOk he <;> simp
  rcases hd with hd | hd
  · go_enter Tryd.func8, Tryd.ntmps8
    go_wp2_with fail
    refine (implDomain he _ (len_below HL.out (below1 _ _)) hh).mono ?_
    rw [hd]
    rintro e w1 ⟨rfl, hb1⟩
    obtain ⟨g0, g1, g2, g3, g4, g5, g6, g7, g8, f0, f1, f2, f3, f4, f5, f6, f7, f8, hrz⟩ := resZ_of (by simpa using hb1)
    go_wp2
    refine bodyPost_ret (v := .agg #[.int .i64 9, .string ⟨#[]⟩, .string ⟨#[]⟩, .string ⟨#[]⟩, .string ⟨#[]⟩, .slice none 0 0, .int .i64 0, .slice none 0 0, .slice none 0 0]) (by simp [results, Tryd.results8, go_sem, g0, g1, g2, g3, g4, g5, g6, g7, g8]) rfl (open_no (by unfold openOk; rw [hd]; rfl) ?_)
    repeat (refine Below.setCell ?_ (by simp) _)
    exact (below1 w _).trans (hb1.mono (by simp))
  · go_enter Tryd.func8, Tryd.ntmps8
    go_wp2_with fail
    refine (implDomain he _ (len_below HL.out (below1 _ _)) hh).mono ?_
    rw [hd]
    rintro e w1 ⟨rfl, hb1⟩
    have b1 : Below w.heap.size w w1 := (below1 w _).trans (hb1.mono (by simp))
    go_wp2_with fail
    refine (implMail fr bo _ L _ (HA.out.below b1) hf HS.out hbo (len_below HL.out b1)).mono ?_
    rintro e w2 ⟨rfl, hb2⟩
    have b2 : Below w.heap.size w w2 := b1.trans (hb2.mono b1.size)
    have b02 := hb1.trans (hb2.mono hb1.size)
    cases hm : (whomN fr L && bodyOk bo)
    · obtain ⟨g0, g1, g2, g3, g4, g5, g6, g7, g8, f0, f1, f2, f3, f4, f5, f6, f7, f8, hrz⟩ := resZ_of (by simpa using b02)
      go_wp2
      refine bodyPost_ret (v := .agg #[.int .i64 9, .string ⟨#[]⟩, .string ⟨#[]⟩, .string ⟨#[]⟩, .string ⟨#[]⟩, .slice none 0 0, .int .i64 0, .slice none 0 0, .slice none 0 0]) (by simp [results, Tryd.results8, go_sem, g0, g1, g2, g3, g4, g5, g6, g7, g8]) rfl (open_no (by unfold openOk; rw [hm, Bool.and_false]) ?_)
      repeat (refine Below.setCell ?_ (by simp) _)
      exact b2
    · have hw : 1 ≤ L.length ∧ L.length ≤ 20 := by
        unfold whomN at hm
        simp only [Bool.and_eq_true, decide_eq_true_eq] at hm
        exact ⟨hm.1.2.1, hm.1.2.2.1⟩
      obtain ⟨b, off, cap, hv, hbw, hcell⟩ := HA.out.some hw.1
      injection hv with hv1 hv2 hv3
      subst hv1 hv3
      obtain ⟨j0, hj, hy0, hy1, hy2⟩ := info_parts infoBool
      obtain ⟨k0, hk, hx0, hx1, hx2⟩ := info_parts infoVd
      obtain ⟨n, hn⟩ : ∃ n, L.length = n := ⟨_, rfl⟩
      have hmkB : ∀ wx : World, (Instr.makeSlice 24 (.int .i64 (n : Int)) (.int .i64 (n : Int))).run Tryd.prog wx = .ok (.slice (some ⟨wx.heap.size, 0, none⟩) n n) (wx.alloc (.cells (madeCells (Value.bool false).cells n) 4)) := by
        intro wx
        have e := run_make (P := Tryd.prog) wx 24 4 j0 (.bool false) Tryd.underlying24 hj hy0 .i64 .i64 (n : Int) (n : Int) (by omega) (by omega) (by rw [hy2]; omega) (by omega)
        simpa [hy1] using e
      have hmkV : ∀ wx : World, (Instr.makeSlice 25 (.int .i64 (n : Int)) (.int .i64 (n : Int))).run Tryd.prog wx = .ok (.slice (some ⟨wx.heap.size, 0, none⟩) n n) (wx.alloc (.cells (madeCells zVd.cells (n * 3)) 44)) := by
        intro wx
        have e := run_make (P := Tryd.prog) wx 25 44 k0 zVd Tryd.underlying25 hk hx0 .i64 .i64 (n : Int) (n : Int) (by omega) (by omega) (by rw [hx2]; omega) (by omega)
        simpa [hx1] using e
      obtain ⟨CB, HCB⟩ : ∃ CB, Hid (madeCells (Value.bool false).cells n = CB) := ⟨_, rfl⟩
      obtain ⟨CV, HCV⟩ : ∃ CV, Hid (madeCells zVd.cells (n * 3) = CV) := ⟨_, rfl⟩
      rw [HCB.out] at hmkB
      rw [HCV.out] at hmkV
      have hOK : openOk he fr bo L = true := by unfold openOk; rw [hd, hm]; rfl
      clear hj hk hy0 hy1 hy2 hx0 hx1 hx2 hd hm
      rw [hn]
      have b02' : Below (w.heap.size + 1) (w.alloc (.cells #[.int .i64 0, .string ⟨#[]⟩, .string ⟨#[]⟩, .string ⟨#[]⟩, .string ⟨#[]⟩, .slice none 0 0, .int .i64 0, .slice none 0 0, .slice none 0 0] 27)) w2 := by simpa using b02
      have HCL : Hid (∀ wx : World, Below w2.heap.size w2 wx → Calls Tryd.prog 23 #[.slice (some ⟨b, off, none⟩) n c] wx fun e w' => ∃ a' c', e = .returned (.slice a' n c') ∧ (Strs w' wx.heap.size (.slice a' n c') L ∧ Below wx.heap.size wx w' ∧ Below w2.heap.size w2 w') ∧ ResZ w.heap.size w') := by
        intro wx hx
        have hbx : Below w.heap.size w wx := b2.trans (hx.mono b2.size)
        have := cloneStrs b off c L wx (by omega) (fun i hi => (hbx.cell (p := ⟨b, off + i, none⟩) hbw).trans (hcell i hi))
        rw [hn] at this
        refine this.mono ?_
        rintro e w' ⟨v', rfl, hS, hB⟩
        obtain ⟨a', c', rfl⟩ := strs_form2 hS
        rw [hn] at *
        have hz2 : w.heap.size + 1 ≤ w2.heap.size := by have := b02'.size; simp at this; omega
        exact ⟨a', c', rfl, ⟨hS, hB, hx.trans (hB.mono hx.size)⟩, resZ_of ((b02'.trans (hx.mono hz2)).trans (hB.mono (by have := hx.size; omega)))⟩
      clear hcell
      go_wp2_with fail
      go_region_with (go_at_call 23; refine (HCL.out _ (by repeat (first | exact Below.refl _ _ | refine Below.drew ?_ | refine Below.alloc ?_ (by simp) _))).mono ?_; rintro e w3 ⟨a3, c3, rfl, HS3, g0, g1, g2, g3, g4, g5, g6, g7, g8, f0, f1, f2, f3, f4, f5, f6, f7, f8, hrz⟩)
      all_goals
        obtain ⟨S3, hb3, b23⟩ := HS3
        have hz3 := hb3.size
        have hw2 : w.heap.size + 1 ≤ w2.heap.size := by have := b02'.size; simp at this; omega
        have hown := strs_own S3
        have hlow := strs_lo S3
        simp at hz3 hlow
        have hlo : w.heap.size + 1 ≤ w3.heap.size := by omega
        have S3' := strs_le (lo' := w.heap.size + 1) S3 (by simp; omega)
        have b3 : Below w.heap.size w w3 := b2.trans (b23.mono b2.size)
        clear S3
        go_wp2
      · refine bodyPost_ret (v := .agg #[.int .i64 1, .string ⟨#[]⟩, .string he, .string fr, .string bo, .slice a3 n c3, .int .i64 0, .slice (some ⟨w3.heap.size, 0, none⟩) n n, .slice (some ⟨w3.heap.size + 1, 0, none⟩) n n]) (by simp [results, Tryd.results8, go_sem, hrz, g0, g1, g2, g3, g4, g5, g6, g7, g8]) rfl ?_
        generalize hW : World.setCell _ ⟨w.heap.size, 8, none⟩ _ = W3
        have hsz : W3.heap.size = w3.heap.size := by rw [← hW]; simp
        have hblk : ∀ k, k ≠ w.heap.size → W3.heap[k]? = w3.heap[k]? := by
          intro k hk
          rw [← hW]
          repeat rw [Below.heap_setCell _ _ _ _ hk]
        have hS : Strs W3 (w.heap.size + 1) (.slice a3 n c3) L := by
          rw [← hW]
          repeat (refine strs_setCell ?_ (by simp) _)
          exact S3'
        have hbW : Below w.heap.size w W3 := by
          rw [← hW]
          repeat (refine Below.setCell ?_ (by simp) _)
          exact b3
        clear hW
        have hB := show (((W3.alloc (.cells CB 4)).alloc (.cells CV 44))).heap[w3.heap.size]? = some _ from (lk_old _ _ _ (by simp; omega)).trans (lk_new _ _ _ hsz.symm)
        have hV := show (((W3.alloc (.cells CB 4)).alloc (.cells CV 44))).heap[w3.heap.size + 1]? = some _ from lk_new _ _ _ (by simp; omega)
        exact open_yes HCB.out HCV.out hOK hn (by omega) (strs_below hS (below2 W3 _ _) (Nat.le_refl _)) (by omega) (by omega) (by omega) (fun e => by have := hown _ e; have := hlow _ e; omega) (fun e => by have := hown _ e; have := hlow _ e; omega) hB hV (hbW.trans ((below2 W3 _ _).mono hbW.size))
      · refine bodyPost_ret (v := .agg #[.int .i64 1, .string ⟨#[]⟩, .string he, .string fr, .string bo, .slice a3 n c3, .int .i64 0, .slice (some ⟨w3.heap.size + 1, 0, none⟩) n n, .slice (some ⟨w3.heap.size, 0, none⟩) n n]) (by simp [results, Tryd.results8, go_sem, hrz, g0, g1, g2, g3, g4, g5, g6, g7, g8]) rfl ?_
        generalize hW : World.setCell _ ⟨w.heap.size, 8, none⟩ _ = W3
        have hsz : W3.heap.size = w3.heap.size := by rw [← hW]; simp
        have hblk : ∀ k, k ≠ w.heap.size → W3.heap[k]? = w3.heap[k]? := by
          intro k hk
          rw [← hW]
          repeat rw [Below.heap_setCell _ _ _ _ hk]
        have hS : Strs W3 (w.heap.size + 1) (.slice a3 n c3) L := by
          rw [← hW]
          repeat (refine strs_setCell ?_ (by simp) _)
          exact S3'
        have hbW : Below w.heap.size w W3 := by
          rw [← hW]
          repeat (refine Below.setCell ?_ (by simp) _)
          exact b3
        clear hW
        have hB := show (((W3.alloc (.cells CV 44)).alloc (.cells CB 4))).heap[w3.heap.size + 1]? = some _ from lk_new _ _ _ (by simp; omega)
        have hV := show (((W3.alloc (.cells CV 44)).alloc (.cells CB 4))).heap[w3.heap.size]? = some _ from (lk_old _ _ _ (by simp; omega)).trans (lk_new _ _ _ hsz.symm)
        exact open_yes HCB.out HCV.out hOK hn (by omega) (strs_below hS (below2 W3 _ _) (Nat.le_refl _)) (by omega) (by omega) (by omega) (fun e => by have := hown _ e; have := hlow _ e; omega) (fun e => by have := hown _ e; have := hlow _ e; omega) hB hV (hbW.trans ((below2 W3 _ _).mono hbW.size))
      · refine bodyPost_ret (v := .agg #[.int .i64 1, .string ⟨#[]⟩, .string he, .string fr, .string bo, .slice a3 n c3, .int .i64 0, .slice (some ⟨w2.heap.size, 0, none⟩) n n, .slice (some ⟨w3.heap.size, 0, none⟩) n n]) (by simp [results, Tryd.results8, go_sem, hrz, g0, g1, g2, g3, g4, g5, g6, g7, g8]) rfl ?_
        generalize hW : World.setCell _ ⟨w.heap.size, 8, none⟩ _ = W3
        have hsz : W3.heap.size = w3.heap.size := by rw [← hW]; simp
        have hblk : ∀ k, k ≠ w.heap.size → W3.heap[k]? = w3.heap[k]? := by
          intro k hk
          rw [← hW]
          repeat rw [Below.heap_setCell _ _ _ _ hk]
        have hS : Strs W3 (w.heap.size + 1) (.slice a3 n c3) L := by
          rw [← hW]
          repeat (refine strs_setCell ?_ (by simp) _)
          exact S3'
        have hbW : Below w.heap.size w W3 := by
          rw [← hW]
          repeat (refine Below.setCell ?_ (by simp) _)
          exact b3
        clear hW
        have hB := show ((W3.alloc (.cells CV 44))).heap[w2.heap.size]? = some _ from (lk_old _ _ _ (by omega)).trans ((hblk _ (by omega)).trans ((hb3.block _ (by simp)).trans (lk_new w2 _ _ rfl)))
        have hV := show ((W3.alloc (.cells CV 44))).heap[w3.heap.size]? = some _ from lk_new _ _ _ hsz.symm
        exact open_yes HCB.out HCV.out hOK hn (by omega) (strs_below hS (below1 W3 _) (Nat.le_refl _)) (by omega) (by omega) (by omega) (fun e => by have := hown _ e; have := hlow _ e; omega) (fun e => by have := hown _ e; have := hlow _ e; omega) hB hV (hbW.trans ((below1 W3 _).mono hbW.size))
      · refine bodyPost_ret (v := .agg #[.int .i64 1, .string ⟨#[]⟩, .string he, .string fr, .string bo, .slice a3 n c3, .int .i64 0, .slice (some ⟨w2.heap.size, 0, none⟩) n n, .slice (some ⟨w2.heap.size + 1, 0, none⟩) n n]) (by simp [results, Tryd.results8, go_sem, g0, g1, g2, g3, g4, g5, g6, g7, g8]) rfl ?_
        generalize hW : World.setCell _ ⟨w.heap.size, 8, none⟩ _ = W3
        have hsz : W3.heap.size = w3.heap.size := by rw [← hW]; simp
        have hblk : ∀ k, k ≠ w.heap.size → W3.heap[k]? = w3.heap[k]? := by
          intro k hk
          rw [← hW]
          repeat rw [Below.heap_setCell _ _ _ _ hk]
        have hS : Strs W3 (w.heap.size + 1) (.slice a3 n c3) L := by
          rw [← hW]
          repeat (refine strs_setCell ?_ (by simp) _)
          exact S3'
        have hbW : Below w.heap.size w W3 := by
          rw [← hW]
          repeat (refine Below.setCell ?_ (by simp) _)
          exact b3
        clear hW
        have hB := show (W3).heap[w2.heap.size]? = some _ from (hblk _ (by omega)).trans ((hb3.block _ (by simp; omega)).trans ((lk_old (w2.alloc _) _ _ (by simp)).trans (lk_new w2 _ _ rfl)))
        have hV := show (W3).heap[w2.heap.size + 1]? = some _ from (hblk _ (by omega)).trans ((hb3.block _ (by simp)).trans (lk_new (w2.alloc _) _ _ (by simp)))
        exact open_yes HCB.out HCV.out hOK hn (by omega) (strs_below hS (Below.refl _ W3) (Nat.le_refl _)) (by omega) (by omega) (by omega) (fun e => by have := hown _ e; have := hlow _ e; omega) (fun e => by have := hown _ e; have := hlow _ e; omega) hB hV (hbW.trans ((Below.refl _ W3).mono hbW.size))
      · refine bodyPost_ret (v := .agg #[.int .i64 1, .string ⟨#[]⟩, .string he, .string fr, .string bo, .slice a3 n c3, .int .i64 0, .slice (some ⟨w3.heap.size, 0, none⟩) n n, .slice (some ⟨w2.heap.size, 0, none⟩) n n]) (by simp [results, Tryd.results8, go_sem, hrz, g0, g1, g2, g3, g4, g5, g6, g7, g8]) rfl ?_
        generalize hW : World.setCell _ ⟨w.heap.size, 8, none⟩ _ = W3
        have hsz : W3.heap.size = w3.heap.size := by rw [← hW]; simp
        have hblk : ∀ k, k ≠ w.heap.size → W3.heap[k]? = w3.heap[k]? := by
          intro k hk
          rw [← hW]
          repeat rw [Below.heap_setCell _ _ _ _ hk]
        have hS : Strs W3 (w.heap.size + 1) (.slice a3 n c3) L := by
          rw [← hW]
          repeat (refine strs_setCell ?_ (by simp) _)
          exact S3'
        have hbW : Below w.heap.size w W3 := by
          rw [← hW]
          repeat (refine Below.setCell ?_ (by simp) _)
          exact b3
        clear hW
        have hB := show ((W3.alloc (.cells CB 4))).heap[w3.heap.size]? = some _ from lk_new _ _ _ hsz.symm
        have hV := show ((W3.alloc (.cells CB 4))).heap[w2.heap.size]? = some _ from (lk_old _ _ _ (by omega)).trans ((hblk _ (by omega)).trans ((hb3.block _ (by simp)).trans (lk_new w2 _ _ rfl)))
        exact open_yes HCB.out HCV.out hOK hn (by omega) (strs_below hS (below1 W3 _) (Nat.le_refl _)) (by omega) (by omega) (by omega) (fun e => by have := hown _ e; have := hlow _ e; omega) (fun e => by have := hown _ e; have := hlow _ e; omega) hB hV (hbW.trans ((below1 W3 _).mono hbW.size))
      · refine bodyPost_ret (v := .agg #[.int .i64 1, .string ⟨#[]⟩, .string he, .string fr, .string bo, .slice a3 n c3, .int .i64 0, .slice (some ⟨w2.heap.size + 1, 0, none⟩) n n, .slice (some ⟨w2.heap.size, 0, none⟩) n n]) (by simp [results, Tryd.results8, go_sem, g0, g1, g2, g3, g4, g5, g6, g7, g8]) rfl ?_
        generalize hW : World.setCell _ ⟨w.heap.size, 8, none⟩ _ = W3
        have hsz : W3.heap.size = w3.heap.size := by rw [← hW]; simp
        have hblk : ∀ k, k ≠ w.heap.size → W3.heap[k]? = w3.heap[k]? := by
          intro k hk
          rw [← hW]
          repeat rw [Below.heap_setCell _ _ _ _ hk]
        have hS : Strs W3 (w.heap.size + 1) (.slice a3 n c3) L := by
          rw [← hW]
          repeat (refine strs_setCell ?_ (by simp) _)
          exact S3'
        have hbW : Below w.heap.size w W3 := by
          rw [← hW]
          repeat (refine Below.setCell ?_ (by simp) _)
          exact b3
        clear hW
        have hB := show (W3).heap[w2.heap.size + 1]? = some _ from (hblk _ (by omega)).trans ((hb3.block _ (by simp)).trans (lk_new (w2.alloc _) _ _ (by simp)))
        have hV := show (W3).heap[w2.heap.size]? = some _ from (hblk _ (by omega)).trans ((hb3.block _ (by simp; omega)).trans ((lk_old (w2.alloc _) _ _ (by simp)).trans (lk_new w2 _ _ rfl)))
        exact open_yes HCB.out HCV.out hOK hn (by omega) (strs_below hS (Below.refl _ W3) (Nat.le_refl _)) (by omega) (by omega) (by omega) (fun e => by have := hown _ e; have := hlow _ e; omega) (fun e => by have := hown _ e; have := hlow _ e; omega) hB hV (hbW.trans ((Below.refl _ W3).mono hbW.size))
end Go.Proofs.YtfkngjdclggfbaaDoor
namespace Go.Proofs.YtfkngjdclggfbaaDoor
open Go.ChangeShapes Go.WideShapes Go.ChangeAt Go.RowKit

/-- a session in block b, its rows in blocks from lo on -/
structure SesB (b lo : Nat) (ph nx : Int) (buf he fr bo : ByteArray) (v1 v2 v3 : Value) (R : List ByteArray) (T : List Bool) (V : List Vd) (w : World) : Prop where
  lt : b < w.heap.size
  c0 : w.cell? ⟨b, 0, none⟩ = some (.int .i64 ph)
  c1 : w.cell? ⟨b, 1, none⟩ = some (.string buf)
  c2 : w.cell? ⟨b, 2, none⟩ = some (.string he)
  c3 : w.cell? ⟨b, 3, none⟩ = some (.string fr)
  c4 : w.cell? ⟨b, 4, none⟩ = some (.string bo)
  c5 : w.cell? ⟨b, 5, none⟩ = some v1
  c6 : w.cell? ⟨b, 6, none⟩ = some (.int .i64 nx)
  c7 : w.cell? ⟨b, 7, none⟩ = some v2
  c8 : w.cell? ⟨b, 8, none⟩ = some v3
  s1 : Strs w lo v1 R
  s2 : Bls w lo v2 T
  s3 : Vds w lo v3 V
theorem SesB.off {b lo : Nat} {ph nx : Int} {buf he fr bo : ByteArray} {v1 v2 v3 : Value} {R : List ByteArray} {T : List Bool} {V : List Vd} {w w1 : World} {vs : List Value} (h : SesB b lo ph nx buf he fr bo v1 v2 v3 R T V w) (ho : OffL vs w w1) (hb : ∀ v ∈ vs, v.ownBlock ≠ some b)
    (h1 : ∀ u ∈ [v1, v2, v3], ∀ g, u.ownBlock = some g → ∀ v ∈ vs, v.ownBlock ≠ some g) : SesB b lo ph nx buf he fr bo v1 v2 v3 R T V w1 :=
  ⟨Nat.lt_of_lt_of_le h.lt ho.size, (ho.cell h.lt hb).trans h.c0, (ho.cell h.lt hb).trans h.c1, (ho.cell h.lt hb).trans h.c2, (ho.cell h.lt hb).trans h.c3, (ho.cell h.lt hb).trans h.c4, (ho.cell h.lt hb).trans h.c5, (ho.cell h.lt hb).trans h.c6, (ho.cell h.lt hb).trans h.c7, (ho.cell h.lt hb).trans h.c8, ho.row h.s1 (h1 v1 (by simp)), ho.row h.s2 (h1 v2 (by simp)), ho.row h.s3 (h1 v3 (by simp))⟩
theorem SesB.below {b lo : Nat} {ph nx : Int} {buf he fr bo : ByteArray} {v1 v2 v3 : Value} {R : List ByteArray} {T : List Bool} {V : List Vd} {w w1 : World} (h : SesB b lo ph nx buf he fr bo v1 v2 v3 R T V w) (hb : Below w.heap.size w w1) : SesB b lo ph nx buf he fr bo v1 v2 v3 R T V w1 :=
  h.off (OffL.of_below (vs := []) hb) (fun v hv => by cases hv) (fun u _ g _ v hv => by cases hv)
theorem SesB.new {lo : Nat} {ph nx : Int} {buf he fr bo : ByteArray} {v1 v2 v3 : Value} {R : List ByteArray} {T : List Bool} {V : List Vd} {w : World} (s1 : Strs w lo v1 R) (s2 : Bls w lo v2 T) (s3 : Vds w lo v3 V) : SesB w.heap.size lo ph nx buf he fr bo v1 v2 v3 R T V (w.alloc (.cells #[.int .i64 ph, .string buf, .string he, .string fr, .string bo, v1, .int .i64 nx, v2, v3] 27)) := by
  have c := fun i => World.cell?_alloc_mark w (#[.int .i64 ph, .string buf, .string he, .string fr, .string bo, v1, .int .i64 nx, v2, v3] : Array Value) 27 (0, 0) i
  exact ⟨by simp, c 0, c 1, c 2, c 3, c 4, c 5, c 6, c 7, c 8, strs_below s1 (below1 w _) (Nat.le_refl _), bls_below s2 (below1 w _) (Nat.le_refl _), vds_below s3 (below1 w _) (Nat.le_refl _)⟩
theorem SesB.own {b lo : Nat} {ph nx : Int} {buf he fr bo : ByteArray} {v1 v2 v3 : Value} {R : List ByteArray} {T : List Bool} {V : List Vd} {w : World} (h : SesB b lo ph nx buf he fr bo v1 v2 v3 R T V w) : ∀ u ∈ [v1, v2, v3], ∀ g, u.ownBlock = some g → lo ≤ g ∧ g < w.heap.size := by
  intro u hu g hg
  simp only [List.mem_cons, List.mem_nil_iff, or_false] at hu
  rcases hu with rfl | rfl | rfl
  · exact ⟨strs_lo h.s1 g hg, strs_own h.s1 g hg⟩
  · exact ⟨bls_lo h.s2 g hg, bls_own h.s2 g hg⟩
  · exact vds_own h.s3 g hg
theorem open_len {he fr bo : ByteArray} {L : List ByteArray} : (oL (openOk he fr bo L) L).length ≤ 20 := by
  cases h : openOk he fr bo L
  · simp [oL]
  · unfold openOk whomN at h
    simp only [Bool.and_eq_true, decide_eq_true_eq] at h
    simpa [oL] using h.2.1.2.2.1

set_option maxHeartbeats 4000000 in
set_option maxRecDepth 100000 in
theorem openLaw (he fr bo : ByteArray) (v : Value) (L : List ByteArray) (w : World) (hh : he.size ≤ maxLen) (hf : fr.size ≤ maxLen) (hbo : bo.size ≤ maxLen) (hA : ArgS w v L) (hl : LenIn w) :
    Calls Tryd.prog 3 #[.string he, .string fr, v, .string bo] w fun e w' => e = .returned (.bool true) ∧ Below w.heap.size w w' := by
  have HL : Hid (LenIn w) := hl
  have HA : Hid (ArgS w v L) := hA
  unfold maxLen at hh hf hbo
  obtain ⟨a, c, rfl⟩ := hA.form
  clear hl hA
  by_cases h1 : 1048576 < he.size
  · have h1i : (1048576 : Int) < he.size := by omega
    go_enter Tryd.func3, Tryd.ntmps3
    go_wp2
    go_ret
    exact ⟨rfl, Below.refl _ _⟩
  by_cases h2 : 1048576 < fr.size
  · have h1i : ¬ (1048576 : Int) < he.size := by omega
    have h2i : (1048576 : Int) < fr.size := by omega
    go_enter Tryd.func3, Tryd.ntmps3
    go_wp2
    go_ret
    exact ⟨rfl, Below.refl _ _⟩
  by_cases h3 : 1048576 < bo.size
  · have h1i : ¬ (1048576 : Int) < he.size := by omega
    have h2i : ¬ (1048576 : Int) < fr.size := by omega
    have h3i : (1048576 : Int) < bo.size := by omega
    go_enter Tryd.func3, Tryd.ntmps3
    go_wp2
    go_ret
    exact ⟨rfl, Below.refl _ _⟩
  have h1i : ¬ (1048576 : Int) < he.size := by omega
  have h2i : ¬ (1048576 : Int) < fr.size := by omega
  have h3i : ¬ (1048576 : Int) < bo.size := by omega
  go_enter Tryd.func3, Tryd.ntmps3
  go_wp2_with fail
  refine (szStrs _ L 1048576 _ HA.out (by decide) (by decide)).mono ?_
  rintro e wz ⟨r, rfl, hr, hwz⟩
  rw [hwz]
  clear hwz wz
  by_cases hr0 : r < 0
  · go_wp2
    go_ret
    exact ⟨rfl, Below.refl _ _⟩
  have hLL : L.length ≤ 1048576 := by rcases hr with h | h <;> omega
  have hsum : sumSz L ≤ 1048576 := by rcases hr with h | h <;> omega
  have HS : Hid (∀ s ∈ L, s.size ≤ 1048576) := by
    intro s hs
    obtain ⟨k, hk, rfl⟩ := List.getElem_of_mem hs
    have := sumSz_take L k hk
    have := sumSz_take_le L (k + 1)
    omega
  have HSM : Hid (L.length ≤ maxLen ∧ ∀ s ∈ L, s.size ≤ maxLen) := ⟨by unfold maxLen; omega, fun s hs => by have := HS.out s hs; unfold maxLen; omega⟩
  clear hr hsum
  go_wp2_with fail
  refine (toStrs _ L _ HA.out hLL).mono ?_
  rintro e w1 ⟨t1, rfl, S1, hb1⟩
  go_wp2_with fail
  refine (specOpen he fr bo _ L _ (strs_args S1 HSM.out.1 HSM.out.2) (by omega) (by omega) HS.out (by omega)).mono ?_
  have hR20 : (oL (openOk he fr bo L) L).length ≤ 20 := open_len
  rintro e w2 ⟨⟨v1, v2, v3, rfl, ⟨r1, r2, r3⟩, _⟩, hb2⟩
  have b2 : Below w.heap.size w w2 := hb1.trans (hb2.mono hb1.size)
  have HI2 : Hid (∀ wx : World, LenIn wx → ∀ (y : Value), ArgS wx y L → Calls Tryd.prog 8 #[.string he, .string fr, y, .string bo] wx fun e w' => OpenPost he fr bo L wx e w') := fun wx hlx y hy => implOpen he fr bo y L wx hy (by omega) (by omega) HS.out (by omega) hlx
  unfold OpenPost at HI2
  generalize oPh (openOk he fr bo L) = PH at *
  generalize oS (openOk he fr bo L) he = HE at *
  generalize oS (openOk he fr bo L) fr = FR at *
  generalize oS (openOk he fr bo L) bo = BO at *
  generalize oL (openOk he fr bo L) L = R at *
  obtain ⟨p1, q1, rfl⟩ := strs_form2 r1
  obtain ⟨p2, q2, rfl⟩ := bls_form r2
  obtain ⟨p3, q3, rfl⟩ := vds_form r3
  rw [List.length_replicate] at *
  have N0 := SesB.new (ph := PH) (nx := 0) (buf := ⟨#[]⟩) (he := HE) (fr := FR) (bo := BO) r1 r2 r3
  have S0 : Hid _ := N0
  have hz2 : w1.heap.size ≤ w2.heap.size := hb2.size
  have hzw : w.heap.size ≤ w1.heap.size := hb1.size
  have b2' : Below w.heap.size w (w2.alloc (.cells #[.int .i64 PH, .string ⟨#[]⟩, .string HE, .string FR, .string BO, .slice p1 R.length q1, .int .i64 0, .slice p2 R.length q2, .slice p3 R.length q3] 27)) := b2.trans ((below1 w2 _).mono b2.size)
  clear N0 r1 r2 r3 S1 hb1 hb2
  go_wp2_with fail
  have hW2z : w2.heap.size < (w2.alloc (.cells #[.int .i64 PH, .string ⟨#[]⟩, .string HE, .string FR, .string BO, .slice p1 R.length q1, .int .i64 0, .slice p2 R.length q2, .slice p3 R.length q3] 27)).heap.size := by simp
  generalize hW2 : w2.alloc _ = W2 at *
  generalize w2.heap.size = B0 at *
  clear hW2 b2
  refine (toStrs _ L _ (HA.out.below b2') hLL).mono ?_
  rintro e w3 ⟨x2, rfl, X3, hb3⟩
  have b3 : Below w.heap.size w w3 := b2'.trans (hb3.mono b2'.size)
  have S03 : Hid _ := S0.out.below hb3
  have hB03 : W2.heap.size ≤ w3.heap.size := hb3.size
  have hB0 : B0 < W2.heap.size := S0.out.lt
  have HX : Hid (∀ g, x2.ownBlock = some g → W2.heap.size ≤ g ∧ g < w3.heap.size) := fun g hg => ⟨strs_lo X3 g hg, strs_own X3 g hg⟩
  have HO0 : Hid (∀ u ∈ ([.slice p1 R.length q1, .slice p2 R.length q2, .slice p3 R.length q3] : List Value), ∀ g, u.ownBlock = some g → g < W2.heap.size) := fun u hu g hg => (S0.out.own u hu g hg).2
  have HX3 : Hid (Strs w3 W2.heap.size x2 L) := X3
  clear hb3 X3 b2' S0
  obtain ⟨ax, cx, hx2⟩ := strs_form2 HX3.out
  subst hx2
  go_wp2_with fail
  refine (HI2.out _ (len_below HL.out b3) _ (strs_args HX3.out HSM.out.1 HSM.out.2)).mono ?_
  rintro e w4 ⟨⟨u1, u2, u3, rfl, ⟨y1, y2, y3⟩, hap⟩, hb4⟩
  have b4 : Below w.heap.size w w4 := b3.trans (hb4.mono b3.size)
  have S04 : Hid _ := S03.out.below hb4
  have HX4 : Hid (Strs w4 W2.heap.size (.slice ax L.length cx) L) := strs_below HX3.out hb4 (Nat.le_refl _)
  have hz4 : w3.heap.size ≤ w4.heap.size := hb4.size
  have HAP : Hid (Apart3 u1 u2 u3) := hap
  obtain ⟨a1, k1, hu1⟩ := strs_form2 y1
  obtain ⟨a2, k2, hu2⟩ := bls_form y2
  obtain ⟨a3, k3, hu3⟩ := vds_form y3
  rw [List.length_replicate] at hu2 hu3
  subst hu1 hu2 hu3
  have NG := SesB.new (ph := PH) (nx := 0) (buf := ⟨#[]⟩) (he := HE) (fr := FR) (bo := BO) y1 y2 y3
  have SG : Hid _ := NG
  obtain ⟨l0, d0, d1, d2, d3, d4, d5, d6, d7, d8, _, _, _⟩ := S04.out
  have S04' : Hid _ := S04.out.below (below1 w4 (.cells #[.int .i64 PH, .string ⟨#[]⟩, .string HE, .string FR, .string BO, .slice a1 R.length k1, .int .i64 0, .slice a2 R.length k2, .slice a3 R.length k3] 27))
  have HX4' : Hid _ := strs_below HX4.out (below1 w4 (.cells #[.int .i64 PH, .string ⟨#[]⟩, .string HE, .string FR, .string BO, .slice a1 R.length k1, .int .i64 0, .slice a2 R.length k2, .slice a3 R.length k3] 27)) (Nat.le_refl _)
  have b4' := b4.trans ((below1 w4 (.cells #[.int .i64 PH, .string ⟨#[]⟩, .string HE, .string FR, .string BO, .slice a1 R.length k1, .int .i64 0, .slice a2 R.length k2, .slice a3 R.length k3] 27)).mono b4.size)
  have HOG : Hid (∀ u ∈ ([.slice a1 R.length k1, .slice a2 R.length k2, .slice a3 R.length k3] : List Value), ∀ g, u.ownBlock = some g → w3.heap.size ≤ g ∧ g < w4.heap.size) := by
    intro u hu g hg
    simp only [List.mem_cons, List.mem_nil_iff, or_false] at hu
    rcases hu with rfl | rfl | rfl
    · exact ⟨strs_lo y1 g hg, strs_own y1 g hg⟩
    · exact ⟨bls_lo y2 g hg, bls_own y2 g hg⟩
    · exact vds_own y3 g hg
  clear NG y1 y2 y3 hap hb4 S04 HX4 S03 HX3
  go_wp2_with fail
  generalize hW4 : w4.alloc _ = W4 at *
  have hBG : w4.heap.size < W4.heap.size := SG.out.lt
  generalize w4.heap.size = BG at *
  clear hW4 b4 d0 d1 d2 d3 d4 d5 d6 d7 d8
  refine (eqSess PH 0 ⟨#[]⟩ HE FR BO _ _ _ _ _ _ R (List.replicate R.length false) (List.replicate R.length vd0) _ _ _ SG.out.s1 SG.out.s2 SG.out.s3 S04'.out.s1 S04'.out.s2 S04'.out.s3).mono ?_
  rintro e w5 ⟨rfl, hb5⟩
  have b5 : Below w.heap.size w w5 := b4'.trans (hb5.mono b4'.size)
  have S05 : Hid _ := S04'.out.below hb5
  have SG5 : Hid _ := SG.out.below hb5
  have HX5 : Hid (Strs w5 W2.heap.size (.slice ax L.length cx) L) := strs_below HX4'.out hb5 (Nat.le_refl _)
  have hz5 : W4.heap.size ≤ w5.heap.size := hb5.size
  clear hb5 S04' SG HX4' b4'
  go_wp2_with fail
  refine (toStrs _ L _ (HA.out.below b5) hLL).mono ?_
  rintro e w6 ⟨x6, rfl, X6, hb6⟩
  have b6 : Below w.heap.size w w6 := b5.trans (hb6.mono b5.size)
  have S06 : Hid _ := S05.out.below hb6
  have SG6 : Hid _ := SG5.out.below hb6
  have HX6 : Hid (Strs w6 W2.heap.size (.slice ax L.length cx) L) := strs_below HX5.out hb6 (Nat.le_refl _)
  have HY6 : Hid (Strs w6 w5.heap.size x6 L) := X6
  have hz6 : w5.heap.size ≤ w6.heap.size := hb6.size
  clear hb6 S05 SG5 HX5 X6 b5
  go_wp2_with fail
  refine (eqStrs _ _ L _ _ _ HX6.out HY6.out).mono ?_
  rintro e w7 ⟨rfl, hb7⟩
  have b7 : Below w.heap.size w w7 := b6.trans (hb7.mono b6.size)
  have S07 : Hid _ := S06.out.below hb7
  have SG7 : Hid _ := SG6.out.below hb7
  have HX7 : Hid (Strs w7 W2.heap.size (.slice ax L.length cx) L) := strs_below HX6.out hb7 (Nat.le_refl _)
  have hz7 : w6.heap.size ≤ w7.heap.size := hb7.size
  clear hb7 S06 SG6 HX6 HY6 b6
  go_wp2_with fail
  refine (markStrsO _ L _ 1 _ HX7.out (by omega) (by omega)).mono ?_
  rintro e w8 ⟨rfl, _, hv8⟩
  have o8 : OffL [.slice ax L.length cx] w7 w8 := OffL.ofV hv8 (by simp)
  have hxv : ∀ v ∈ ([.slice ax L.length cx] : List Value), ∀ g, v.ownBlock = some g → W2.heap.size ≤ g ∧ g < w3.heap.size := fun v hv g hg => by rw [List.mem_singleton.1 hv] at hg; exact HX.out g hg
  have b8 : Below w.heap.size w w8 := b7.trans (o8.below (fun v hv g hg => by have := hxv v hv g hg; omega) b7.size)
  have S08 : Hid _ := S07.out.off o8 (fun v hv e => by have := hxv v hv _ e; omega) (fun u hu g hg v hv e => by have := hxv v hv _ e; have := HO0.out u hu g hg; omega)
  have SG8 : Hid _ := SG7.out.off o8 (fun v hv e => by have := hxv v hv _ e; omega) (fun u hu g hg v hv e => by have := hxv v hv _ e; have := HOG.out u hu g hg; omega)
  have hz8 : w7.heap.size ≤ w8.heap.size := o8.size
  clear hv8 o8 S07 SG7 HX7 b7 hxv
  obtain ⟨l0, d0, d1, d2, d3, d4, d5, d6, d7, d8, _, _, _⟩ := S08.out
  obtain ⟨lg, e0, e1, e2, e3, e4, e5, e6, e7, e8, _, _, _⟩ := SG8.out
  go_wp2_with fail
  refine (eqSess PH 0 ⟨#[]⟩ HE FR BO _ _ _ _ _ _ R (List.replicate R.length false) (List.replicate R.length vd0) _ _ _ SG8.out.s1 SG8.out.s2 SG8.out.s3 S08.out.s1 S08.out.s2 S08.out.s3).mono ?_
  clear l0 d0 d1 d2 d3 d4 d5 d6 d7 d8 lg e0 e1 e2 e3 e4 e5 e6 e7 e8
  rintro e w9 ⟨rfl, hb9⟩
  have b9 : Below w.heap.size w w9 := b8.trans (hb9.mono b8.size)
  have S09 : Hid _ := S08.out.below hb9
  have SG9 : Hid _ := SG8.out.below hb9
  have hz9 : w8.heap.size ≤ w9.heap.size := hb9.size
  clear hb9 S08 SG8 b8
  obtain ⟨lg, e0, e1, e2, e3, e4, e5, e6, e7, e8, _, _, _⟩ := SG9.out
  go_wp2_with fail
  have hmS := markSess PH 0 ⟨#[]⟩ HE FR BO _ _ _ R (List.replicate R.length false) (List.replicate R.length vd0) _ 1 _ SG9.out.s1 SG9.out.s2 SG9.out.s3 HAP.out (by omega) (by simp only [List.length_replicate]; omega)
  simp only [List.length_replicate] at hmS
  refine hmS.mono ?_
  clear hmS
  rintro e w10 ⟨rfl, hm3, o10⟩
  have HM : Hid _ := hm3
  have e0' := (o10.cell (i := 0) lg (fun v hv e => by have := HOG.out v hv _ e; omega)).trans e0
  have e1' := (o10.cell (i := 1) lg (fun v hv e => by have := HOG.out v hv _ e; omega)).trans e1
  have e2' := (o10.cell (i := 2) lg (fun v hv e => by have := HOG.out v hv _ e; omega)).trans e2
  have e3' := (o10.cell (i := 3) lg (fun v hv e => by have := HOG.out v hv _ e; omega)).trans e3
  have e4' := (o10.cell (i := 4) lg (fun v hv e => by have := HOG.out v hv _ e; omega)).trans e4
  have e5' := (o10.cell (i := 5) lg (fun v hv e => by have := HOG.out v hv _ e; omega)).trans e5
  have e6' := (o10.cell (i := 6) lg (fun v hv e => by have := HOG.out v hv _ e; omega)).trans e6
  have e7' := (o10.cell (i := 7) lg (fun v hv e => by have := HOG.out v hv _ e; omega)).trans e7
  have e8' := (o10.cell (i := 8) lg (fun v hv e => by have := HOG.out v hv _ e; omega)).trans e8
  have b10 : Below w.heap.size w w10 := b9.trans (o10.below (fun v hv g hg => by have := HOG.out v hv g hg; omega) b9.size)
  have S010 : Hid _ := S09.out.off o10 (fun v hv e => by have := HOG.out v hv _ e; omega) (fun u hu g hg v hv e => by have := HOG.out v hv _ e; have := HO0.out u hu g hg; omega)
  have hz10 : w9.heap.size ≤ w10.heap.size := o10.size
  clear hm3 o10 S09 SG9 b9 e0 e1 e2 e3 e4 e5 e6 e7 e8 lg
  go_wp2_with fail
  refine (heldSess PH 0 ⟨#[]⟩ HE FR BO _ _ _ R.length R.length R.length _ 1 _ HM.out.1 HM.out.2.1 HM.out.2.2 (by omega) (by omega)).mono ?_
  rintro e w11 ⟨rfl, hb11⟩
  have b11 : Below w.heap.size w w11 := b10.trans (hb11.mono b10.size)
  have S011 : Hid _ := S010.out.below hb11
  have hz11 : w10.heap.size ≤ w11.heap.size := hb11.size
  clear hb11 S010 b10 HM e0' e1' e2' e3' e4' e5' e6' e7' e8'
  go_wp2_with fail
  refine (toStrs _ L _ (HA.out.below b11) hLL).mono ?_
  rintro e w12 ⟨x12, rfl, X12, hb12⟩
  have b12 : Below w.heap.size w w12 := b11.trans (hb12.mono b11.size)
  have S012 : Hid _ := S011.out.below hb12
  have HX12 : Hid (Strs w12 w11.heap.size x12 L) := X12
  clear hb12 S011 b11 X12
  obtain ⟨ay, cy, hy2⟩ := strs_form2 HX12.out
  subst hy2
  go_wp2_with fail
  refine (HI2.out _ (len_below HL.out b12) _ (strs_args HX12.out HSM.out.1 HSM.out.2)).mono ?_
  rintro e w13 ⟨⟨t1', t2', t3', rfl, ⟨y1, y2, y3⟩, _⟩, hb13⟩
  have b13 : Below w.heap.size w w13 := b12.trans (hb13.mono b12.size)
  have S013 : Hid _ := S012.out.below hb13
  obtain ⟨z1, o1, hu1⟩ := strs_form2 y1
  obtain ⟨z2, o2, hu2⟩ := bls_form y2
  obtain ⟨z3, o3, hu3⟩ := vds_form y3
  rw [List.length_replicate] at hu2 hu3
  subst hu1 hu2 hu3
  have NG := SesB.new (ph := PH) (nx := 0) (buf := ⟨#[]⟩) (he := HE) (fr := FR) (bo := BO) y1 y2 y3
  have SH : Hid _ := NG
  obtain ⟨l0, d0, d1, d2, d3, d4, d5, d6, d7, d8, _, _, _⟩ := S013.out
  have S013' : Hid _ := S013.out.below (below1 w13 (.cells #[.int .i64 PH, .string ⟨#[]⟩, .string HE, .string FR, .string BO, .slice z1 R.length o1, .int .i64 0, .slice z2 R.length o2, .slice z3 R.length o3] 27))
  have b13' := b13.trans ((below1 w13 (.cells #[.int .i64 PH, .string ⟨#[]⟩, .string HE, .string FR, .string BO, .slice z1 R.length o1, .int .i64 0, .slice z2 R.length o2, .slice z3 R.length o3] 27)).mono b13.size)
  clear NG y1 y2 y3 hb13 S012 HX12 S013
  go_wp2_with fail
  generalize hW13 : w13.alloc _ = W13 at *
  clear hW13
  refine (eqSess PH 0 ⟨#[]⟩ HE FR BO _ _ _ _ _ _ R (List.replicate R.length false) (List.replicate R.length vd0) _ _ _ SH.out.s1 SH.out.s2 SH.out.s3 S013'.out.s1 S013'.out.s2 S013'.out.s3).mono ?_
  rintro e w14 ⟨rfl, hb14⟩
  go_wp2
  go_ret
  exact ⟨rfl, b13'.trans (hb14.mono b13'.size)⟩
end Go.Proofs.YtfkngjdclggfbaaDoor
