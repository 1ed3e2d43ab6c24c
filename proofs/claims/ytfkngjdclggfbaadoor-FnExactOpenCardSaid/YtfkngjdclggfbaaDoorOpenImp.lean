import Derived.Test.YtfkngjdclggfbaaDoorOpenPs
namespace Go.Proofs.YtfkngjdclggfbaaDoor
open Go.ChangeShapes Go.WideShapes Go.ChangeAt Go.RowKit
attribute [local go_sem ↓] Go.wp_at_zero Go.wp_at_succ


set_option maxHeartbeats 2000000 in
set_option maxRecDepth 100000 in
theorem implOpen (he fr bo : ByteArray) (v : Value) (L : List ByteArray) (w : World) (h : ArgS w v L) (hh : he.size ≤ 1048576) (hf : fr.size ≤ 1048576) (hs : ∀ s ∈ L, s.size ≤ 1048576) (hbo : bo.size ≤ 1048576) (hl : LenIn w) :
    Calls Tryd.prog 8 #[.string he, .string fr, v, .string bo] w fun e w' => OpenPost he fr bo L w e w' := by
  have HL : Hid (LenIn w) := hl
  have HA : Hid (ArgS w v L) := h
  have HS : Hid (∀ s ∈ L, s.size ≤ 1048576) := hs
  obtain ⟨a, c, rfl⟩ := h.form
  clear h hs hl
  have hd : domOk he = false ∨ domOk he = true := by cases domOk he <;> simp
  rcases hd with hd | hd
  · go_enter Tryd.func8, Tryd.ntmps8
    go_wp2_with fail
    refine (implDomain he _ (len_below HL.out (below1 _ _)) hh).mono ?_
    rw [hd]
    rintro e w1 ⟨rfl, hb1⟩
    obtain ⟨g0, g1, g2, g3, g4, g5, g6, g7, g8, f0, f1, f2, f3, f4, f5, f6, f7, f8, hrz⟩ := resZ_of (by simpa using hb1)
    go_wp2
    refine bodyPost_ret (v := .agg #[.int .i64 9, .string ⟨#[]⟩, .string ⟨#[]⟩, .string ⟨#[]⟩, .string ⟨#[]⟩, .slice none 0 0, .int .i64 0, .slice none 0 0, .slice none 0 0]) (by simp [results, Tryd.results8, go_sem, g0, g1, g2, g3, g4, g5, g6, g7, g8]) rfl (open_no (by unfold openOk; rw [hd]; rfl) ?_)
    repeat (refine Below.setCell ?_ (by simp) _)
    exact (below1 w _).trans (hb1.mono (by simp))
  · go_enter Tryd.func8, Tryd.ntmps8
    go_wp2_with fail
    refine (implDomain he _ (len_below HL.out (below1 _ _)) hh).mono ?_
    rw [hd]
    rintro e w1 ⟨rfl, hb1⟩
    have b1 : Below w.heap.size w w1 := (below1 w _).trans (hb1.mono (by simp))
    go_wp2_with fail
    refine (implMail fr bo _ L _ (HA.out.below b1) hf HS.out hbo (len_below HL.out b1)).mono ?_
    rintro e w2 ⟨rfl, hb2⟩
    have b2 : Below w.heap.size w w2 := b1.trans (hb2.mono b1.size)
    have b02 := hb1.trans (hb2.mono hb1.size)
    cases hm : (whomN fr L && bodyOk bo)
    · obtain ⟨g0, g1, g2, g3, g4, g5, g6, g7, g8, f0, f1, f2, f3, f4, f5, f6, f7, f8, hrz⟩ := resZ_of (by simpa using b02)
      go_wp2
      refine bodyPost_ret (v := .agg #[.int .i64 9, .string ⟨#[]⟩, .string ⟨#[]⟩, .string ⟨#[]⟩, .string ⟨#[]⟩, .slice none 0 0, .int .i64 0, .slice none 0 0, .slice none 0 0]) (by simp [results, Tryd.results8, go_sem, g0, g1, g2, g3, g4, g5, g6, g7, g8]) rfl (open_no (by unfold openOk; rw [hm, Bool.and_false]) ?_)
      repeat (refine Below.setCell ?_ (by simp) _)
      exact b2
    · have hw : 1 ≤ L.length ∧ L.length ≤ 20 := by
        unfold whomN at hm
        simp only [Bool.and_eq_true, decide_eq_true_eq] at hm
        exact ⟨hm.1.2.1, hm.1.2.2.1⟩
      obtain ⟨b, off, cap, hv, hbw, hcell⟩ := HA.out.some hw.1
      injection hv with hv1 hv2 hv3
      subst hv1 hv3
      obtain ⟨j0, hj, hy0, hy1, hy2⟩ := info_parts infoBool
      obtain ⟨k0, hk, hx0, hx1, hx2⟩ := info_parts infoVd
      obtain ⟨n, hn⟩ : ∃ n, L.length = n := ⟨_, rfl⟩
      have hmkB : ∀ wx : World, (Instr.makeSlice 24 (.int .i64 (n : Int)) (.int .i64 (n : Int))).run Tryd.prog wx = .ok (.slice (some ⟨wx.heap.size, 0, none⟩) n n) (wx.alloc (.cells (madeCells (Value.bool false).cells n) 4)) := by
        intro wx
        have e := run_make (P := Tryd.prog) wx 24 4 j0 (.bool false) Tryd.underlying24 hj hy0 .i64 .i64 (n : Int) (n : Int) (by omega) (by omega) (by rw [hy2]; omega) (by omega)
        simpa [hy1] using e
      have hmkV : ∀ wx : World, (Instr.makeSlice 25 (.int .i64 (n : Int)) (.int .i64 (n : Int))).run Tryd.prog wx = .ok (.slice (some ⟨wx.heap.size, 0, none⟩) n n) (wx.alloc (.cells (madeCells zVd.cells (n * 3)) 44)) := by
        intro wx
        have e := run_make (P := Tryd.prog) wx 25 44 k0 zVd Tryd.underlying25 hk hx0 .i64 .i64 (n : Int) (n : Int) (by omega) (by omega) (by rw [hx2]; omega) (by omega)
        simpa [hx1] using e
      obtain ⟨CB, HCB⟩ : ∃ CB, Hid (madeCells (Value.bool false).cells n = CB) := ⟨_, rfl⟩
      obtain ⟨CV, HCV⟩ : ∃ CV, Hid (madeCells zVd.cells (n * 3) = CV) := ⟨_, rfl⟩
      rw [HCB.out] at hmkB
      rw [HCV.out] at hmkV
      have hOK : openOk he fr bo L = true := by unfold openOk; rw [hd, hm]; rfl
      clear hj hk hy0 hy1 hy2 hx0 hx1 hx2 hd hm
      rw [hn]
      have b02' : Below (w.heap.size + 1) (w.alloc (.cells #[.int .i64 0, .string ⟨#[]⟩, .string ⟨#[]⟩, .string ⟨#[]⟩, .string ⟨#[]⟩, .slice none 0 0, .int .i64 0, .slice none 0 0, .slice none 0 0] 27)) w2 := by simpa using b02
      have HCL : Hid (∀ wx : World, Below w2.heap.size w2 wx → Calls Tryd.prog 23 #[.slice (some ⟨b, off, none⟩) n c] wx fun e w' => ∃ a' c', e = .returned (.slice a' n c') ∧ (Strs w' wx.heap.size (.slice a' n c') L ∧ Below wx.heap.size wx w' ∧ Below w2.heap.size w2 w') ∧ ResZ w.heap.size w') := by
        intro wx hx
        have hbx : Below w.heap.size w wx := b2.trans (hx.mono b2.size)
        have := cloneStrs b off c L wx (by omega) (fun i hi => (hbx.cell (p := ⟨b, off + i, none⟩) hbw).trans (hcell i hi))
        rw [hn] at this
        refine this.mono ?_
        rintro e w' ⟨v', rfl, hS, hB⟩
        obtain ⟨a', c', rfl⟩ := strs_form2 hS
        rw [hn] at *
        have hz2 : w.heap.size + 1 ≤ w2.heap.size := by have := b02'.size; simp at this; omega
        exact ⟨a', c', rfl, ⟨hS, hB, hx.trans (hB.mono hx.size)⟩, resZ_of ((b02'.trans (hx.mono hz2)).trans (hB.mono (by have := hx.size; omega)))⟩
      clear hcell
      go_wp2_with fail
      go_region_with (go_at_call 23; refine (HCL.out _ (by repeat (first | exact Below.refl _ _ | refine Below.drew ?_ | refine Below.alloc ?_ (by simp) _))).mono ?_; rintro e w3 ⟨a3, c3, rfl, HS3, g0, g1, g2, g3, g4, g5, g6, g7, g8, f0, f1, f2, f3, f4, f5, f6, f7, f8, hrz⟩)
      all_goals
        obtain ⟨S3, hb3, b23⟩ := HS3
        have hz3 := hb3.size
        have hw2 : w.heap.size + 1 ≤ w2.heap.size := by have := b02'.size; simp at this; omega
        have hown := strs_own S3
        have hlow := strs_lo S3
        simp at hz3 hlow
        have hlo : w.heap.size + 1 ≤ w3.heap.size := by omega
        have S3' := strs_le (lo' := w.heap.size + 1) S3 (by simp; omega)
        have b3 : Below w.heap.size w w3 := b2.trans (b23.mono b2.size)
        clear S3
        go_wp2
      · refine bodyPost_ret (v := .agg #[.int .i64 1, .string ⟨#[]⟩, .string he, .string fr, .string bo, .slice a3 n c3, .int .i64 0, .slice (some ⟨w3.heap.size, 0, none⟩) n n, .slice (some ⟨w3.heap.size + 1, 0, none⟩) n n]) (by simp [results, Tryd.results8, go_sem, hrz, g0, g1, g2, g3, g4, g5, g6, g7, g8]) rfl ?_
        generalize hW : World.setCell _ ⟨w.heap.size, 8, none⟩ _ = W3
        have hsz : W3.heap.size = w3.heap.size := by rw [← hW]; simp
        have hblk : ∀ k, k ≠ w.heap.size → W3.heap[k]? = w3.heap[k]? := by
          intro k hk
          rw [← hW]
          repeat rw [Below.heap_setCell _ _ _ _ hk]
        have hS : Strs W3 (w.heap.size + 1) (.slice a3 n c3) L := by
          rw [← hW]
          repeat (refine strs_setCell ?_ (by simp) _)
          exact S3'
        have hbW : Below w.heap.size w W3 := by
          rw [← hW]
          repeat (refine Below.setCell ?_ (by simp) _)
          exact b3
        clear hW
        have hB := show (((W3.alloc (.cells CB 4)).alloc (.cells CV 44))).heap[w3.heap.size]? = some _ from (lk_old _ _ _ (by simp; omega)).trans (lk_new _ _ _ hsz.symm)
        have hV := show (((W3.alloc (.cells CB 4)).alloc (.cells CV 44))).heap[w3.heap.size + 1]? = some _ from lk_new _ _ _ (by simp; omega)
        exact open_yes HCB.out HCV.out hOK hn (by omega) (strs_below hS (below2 W3 _ _) (Nat.le_refl _)) (by omega) (by omega) (by omega) (fun e => by have := hown _ e; have := hlow _ e; omega) (fun e => by have := hown _ e; have := hlow _ e; omega) hB hV (hbW.trans ((below2 W3 _ _).mono hbW.size))
      · refine bodyPost_ret (v := .agg #[.int .i64 1, .string ⟨#[]⟩, .string he, .string fr, .string bo, .slice a3 n c3, .int .i64 0, .slice (some ⟨w3.heap.size + 1, 0, none⟩) n n, .slice (some ⟨w3.heap.size, 0, none⟩) n n]) (by simp [results, Tryd.results8, go_sem, hrz, g0, g1, g2, g3, g4, g5, g6, g7, g8]) rfl ?_
        generalize hW : World.setCell _ ⟨w.heap.size, 8, none⟩ _ = W3
        have hsz : W3.heap.size = w3.heap.size := by rw [← hW]; simp
        have hblk : ∀ k, k ≠ w.heap.size → W3.heap[k]? = w3.heap[k]? := by
          intro k hk
          rw [← hW]
          repeat rw [Below.heap_setCell _ _ _ _ hk]
        have hS : Strs W3 (w.heap.size + 1) (.slice a3 n c3) L := by
          rw [← hW]
          repeat (refine strs_setCell ?_ (by simp) _)
          exact S3'
        have hbW : Below w.heap.size w W3 := by
          rw [← hW]
          repeat (refine Below.setCell ?_ (by simp) _)
          exact b3
        clear hW
        have hB := show (((W3.alloc (.cells CV 44)).alloc (.cells CB 4))).heap[w3.heap.size + 1]? = some _ from lk_new _ _ _ (by simp; omega)
        have hV := show (((W3.alloc (.cells CV 44)).alloc (.cells CB 4))).heap[w3.heap.size]? = some _ from (lk_old _ _ _ (by simp; omega)).trans (lk_new _ _ _ hsz.symm)
        exact open_yes HCB.out HCV.out hOK hn (by omega) (strs_below hS (below2 W3 _ _) (Nat.le_refl _)) (by omega) (by omega) (by omega) (fun e => by have := hown _ e; have := hlow _ e; omega) (fun e => by have := hown _ e; have := hlow _ e; omega) hB hV (hbW.trans ((below2 W3 _ _).mono hbW.size))
      · refine bodyPost_ret (v := .agg #[.int .i64 1, .string ⟨#[]⟩, .string he, .string fr, .string bo, .slice a3 n c3, .int .i64 0, .slice (some ⟨w2.heap.size, 0, none⟩) n n, .slice (some ⟨w3.heap.size, 0, none⟩) n n]) (by simp [results, Tryd.results8, go_sem, hrz, g0, g1, g2, g3, g4, g5, g6, g7, g8]) rfl ?_
        generalize hW : World.setCell _ ⟨w.heap.size, 8, none⟩ _ = W3
        have hsz : W3.heap.size = w3.heap.size := by rw [← hW]; simp
        have hblk : ∀ k, k ≠ w.heap.size → W3.heap[k]? = w3.heap[k]? := by
          intro k hk
          rw [← hW]
          repeat rw [Below.heap_setCell _ _ _ _ hk]
        have hS : Strs W3 (w.heap.size + 1) (.slice a3 n c3) L := by
          rw [← hW]
          repeat (refine strs_setCell ?_ (by simp) _)
          exact S3'
        have hbW : Below w.heap.size w W3 := by
          rw [← hW]
          repeat (refine Below.setCell ?_ (by simp) _)
          exact b3
        clear hW
        have hB := show ((W3.alloc (.cells CV 44))).heap[w2.heap.size]? = some _ from (lk_old _ _ _ (by omega)).trans ((hblk _ (by omega)).trans ((hb3.block _ (by simp)).trans (lk_new w2 _ _ rfl)))
        have hV := show ((W3.alloc (.cells CV 44))).heap[w3.heap.size]? = some _ from lk_new _ _ _ hsz.symm
        exact open_yes HCB.out HCV.out hOK hn (by omega) (strs_below hS (below1 W3 _) (Nat.le_refl _)) (by omega) (by omega) (by omega) (fun e => by have := hown _ e; have := hlow _ e; omega) (fun e => by have := hown _ e; have := hlow _ e; omega) hB hV (hbW.trans ((below1 W3 _).mono hbW.size))
      · refine bodyPost_ret (v := .agg #[.int .i64 1, .string ⟨#[]⟩, .string he, .string fr, .string bo, .slice a3 n c3, .int .i64 0, .slice (some ⟨w2.heap.size, 0, none⟩) n n, .slice (some ⟨w2.heap.size + 1, 0, none⟩) n n]) (by simp [results, Tryd.results8, go_sem, g0, g1, g2, g3, g4, g5, g6, g7, g8]) rfl ?_
        generalize hW : World.setCell _ ⟨w.heap.size, 8, none⟩ _ = W3
        have hsz : W3.heap.size = w3.heap.size := by rw [← hW]; simp
        have hblk : ∀ k, k ≠ w.heap.size → W3.heap[k]? = w3.heap[k]? := by
          intro k hk
          rw [← hW]
          repeat rw [Below.heap_setCell _ _ _ _ hk]
        have hS : Strs W3 (w.heap.size + 1) (.slice a3 n c3) L := by
          rw [← hW]
          repeat (refine strs_setCell ?_ (by simp) _)
          exact S3'
        have hbW : Below w.heap.size w W3 := by
          rw [← hW]
          repeat (refine Below.setCell ?_ (by simp) _)
          exact b3
        clear hW
        have hB := show (W3).heap[w2.heap.size]? = some _ from (hblk _ (by omega)).trans ((hb3.block _ (by simp; omega)).trans ((lk_old (w2.alloc _) _ _ (by simp)).trans (lk_new w2 _ _ rfl)))
        have hV := show (W3).heap[w2.heap.size + 1]? = some _ from (hblk _ (by omega)).trans ((hb3.block _ (by simp)).trans (lk_new (w2.alloc _) _ _ (by simp)))
        exact open_yes HCB.out HCV.out hOK hn (by omega) (strs_below hS (Below.refl _ W3) (Nat.le_refl _)) (by omega) (by omega) (by omega) (fun e => by have := hown _ e; have := hlow _ e; omega) (fun e => by have := hown _ e; have := hlow _ e; omega) hB hV (hbW.trans ((Below.refl _ W3).mono hbW.size))
      · refine bodyPost_ret (v := .agg #[.int .i64 1, .string ⟨#[]⟩, .string he, .string fr, .string bo, .slice a3 n c3, .int .i64 0, .slice (some ⟨w3.heap.size, 0, none⟩) n n, .slice (some ⟨w2.heap.size, 0, none⟩) n n]) (by simp [results, Tryd.results8, go_sem, hrz, g0, g1, g2, g3, g4, g5, g6, g7, g8]) rfl ?_
        generalize hW : World.setCell _ ⟨w.heap.size, 8, none⟩ _ = W3
        have hsz : W3.heap.size = w3.heap.size := by rw [← hW]; simp
        have hblk : ∀ k, k ≠ w.heap.size → W3.heap[k]? = w3.heap[k]? := by
          intro k hk
          rw [← hW]
          repeat rw [Below.heap_setCell _ _ _ _ hk]
        have hS : Strs W3 (w.heap.size + 1) (.slice a3 n c3) L := by
          rw [← hW]
          repeat (refine strs_setCell ?_ (by simp) _)
          exact S3'
        have hbW : Below w.heap.size w W3 := by
          rw [← hW]
          repeat (refine Below.setCell ?_ (by simp) _)
          exact b3
        clear hW
        have hB := show ((W3.alloc (.cells CB 4))).heap[w3.heap.size]? = some _ from lk_new _ _ _ hsz.symm
        have hV := show ((W3.alloc (.cells CB 4))).heap[w2.heap.size]? = some _ from (lk_old _ _ _ (by omega)).trans ((hblk _ (by omega)).trans ((hb3.block _ (by simp)).trans (lk_new w2 _ _ rfl)))
        exact open_yes HCB.out HCV.out hOK hn (by omega) (strs_below hS (below1 W3 _) (Nat.le_refl _)) (by omega) (by omega) (by omega) (fun e => by have := hown _ e; have := hlow _ e; omega) (fun e => by have := hown _ e; have := hlow _ e; omega) hB hV (hbW.trans ((below1 W3 _).mono hbW.size))
      · refine bodyPost_ret (v := .agg #[.int .i64 1, .string ⟨#[]⟩, .string he, .string fr, .string bo, .slice a3 n c3, .int .i64 0, .slice (some ⟨w2.heap.size + 1, 0, none⟩) n n, .slice (some ⟨w2.heap.size, 0, none⟩) n n]) (by simp [results, Tryd.results8, go_sem, g0, g1, g2, g3, g4, g5, g6, g7, g8]) rfl ?_
        generalize hW : World.setCell _ ⟨w.heap.size, 8, none⟩ _ = W3
        have hsz : W3.heap.size = w3.heap.size := by rw [← hW]; simp
        have hblk : ∀ k, k ≠ w.heap.size → W3.heap[k]? = w3.heap[k]? := by
          intro k hk
          rw [← hW]
          repeat rw [Below.heap_setCell _ _ _ _ hk]
        have hS : Strs W3 (w.heap.size + 1) (.slice a3 n c3) L := by
          rw [← hW]
          repeat (refine strs_setCell ?_ (by simp) _)
          exact S3'
        have hbW : Below w.heap.size w W3 := by
          rw [← hW]
          repeat (refine Below.setCell ?_ (by simp) _)
          exact b3
        clear hW
        have hB := show (W3).heap[w2.heap.size + 1]? = some _ from (hblk _ (by omega)).trans ((hb3.block _ (by simp)).trans (lk_new (w2.alloc _) _ _ (by simp)))
        have hV := show (W3).heap[w2.heap.size]? = some _ from (hblk _ (by omega)).trans ((hb3.block _ (by simp; omega)).trans ((lk_old (w2.alloc _) _ _ (by simp)).trans (lk_new w2 _ _ rfl)))
        exact open_yes HCB.out HCV.out hOK hn (by omega) (strs_below hS (Below.refl _ W3) (Nat.le_refl _)) (by omega) (by omega) (by omega) (fun e => by have := hown _ e; have := hlow _ e; omega) (fun e => by have := hown _ e; have := hlow _ e; omega) hB hV (hbW.trans ((Below.refl _ W3).mono hbW.size))
end Go.Proofs.YtfkngjdclggfbaaDoor
