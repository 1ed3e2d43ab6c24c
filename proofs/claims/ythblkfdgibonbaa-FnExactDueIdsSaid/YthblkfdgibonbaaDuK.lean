import Derived.Test.YthblkfdgibonbaaDuJ
namespace Go.Proofs.Ythblkfdgibonbaa
open Go.ChangeShapes Go.WideShapes Go.ChangeAt Go.RowKit
attribute [local go_sem ↓] Go.wp_at_zero Go.wp_at_succ

set_option maxHeartbeats 4000000 in
set_option maxRecDepth 100000 in
theorem heapFirst (b g cap m : Nat) (D : List Du) (w : World) (h : HpV w b (.slice (some ⟨g, 0, none⟩) D.length cap) D) (hh : HeapD D.length D) (hm : D.length = m + 1) (hL : D.length ≤ 1048577) :
    Calls Try.prog 40 #[.pointer (some ⟨b, 0, none⟩)] w fun e w' => e = .returned (.agg #[.int .i64 (gD D 0).1, .int .i64 (gD D 0).2]) ∧ (∃ D', HpV w' b (.slice (some ⟨g, 0, none⟩) m cap) D' ∧ D'.length = m ∧ HeapD D'.length D' ∧ sortD D = gD D 0 :: sortD D') ∧ OffL [.slice (some ⟨b, 0, none⟩) 0 0, .slice (some ⟨g, 0, none⟩) 0 0] w w' := by
  have H : Hid (HpV w b (.slice (some ⟨g, 0, none⟩) D.length cap) D) := h
  have HH : Hid (HeapD D.length D) := hh
  have hgb : b < g := by have := (row_lt h.row.1 g rfl).1; omega
  have hgl := (Rw.at h.row).1.lt
  have hbl := h.lt
  clear h hh
  go_enter Try.func40, Try.ntmps40
  go_wp2_with fail
  generalize hW : w.alloc _ = W
  have hbW : Below w.heap.size w W := by rw [← hW]; exact below1 _ _
  have hRb : Hid (Blk w.heap.size #[.int .i64 0, .int .i64 0] W) := by show Blk _ _ _; rw [← hW]; exact Blk.new w _ _
  clear hW
  refine (heapPop b g cap m D W (H.out.off hbW) HH.out hm hL).mono ?_
  rintro e w1 ⟨rfl, ⟨D', h1, hl1, hf1, hs1⟩, ho1⟩
  have hta := fun w => tDue (gD D 0).1 (gD D 0).2 w
  have r0 : w1.cell? ⟨w.heap.size, 0, none⟩ = some (.int .i64 0) := (ho1.cell hRb.out.lt (by intro v hv; simp at hv; rcases hv with rfl | rfl <;> simp [Value.ownBlock] <;> omega)).trans (hRb.out.cell 0)
  have r1 : w1.cell? ⟨w.heap.size, 1, none⟩ = some (.int .i64 0) := (ho1.cell hRb.out.lt (by intro v hv; simp at hv; rcases hv with rfl | rfl <;> simp [Value.ownBlock] <;> omega)).trans (hRb.out.cell 1)
  have rf : ∀ o, w1.frozen? ⟨w.heap.size, o, none⟩ = false := fun o => (ho1.frozen hRb.out.lt (by intro v hv; simp at hv; rcases hv with rfl | rfl <;> simp [Value.ownBlock] <;> omega)).trans (hRb.out.free o)
  have HV1 : Hid (HpV w1 b (.slice (some ⟨g, 0, none⟩) m cap) D') := h1
  have HO1 : Hid (OffL [.slice (some ⟨b, 0, none⟩) 0 0, .slice (some ⟨g, 0, none⟩) 0 0] w w1) := (OffL.of_below hbW).trans ho1
  clear h1 ho1 hRb hbW
  obtain ⟨⟨x1, x2⟩, hx⟩ : ∃ x, gD D 0 = x := ⟨_, rfl⟩
  have HX : Hid (gD D 0 = (x1, x2)) := hx
  rw [hx] at hta
  rw [hx]
  clear hx
  dsimp only at *
  go_wp2
  refine bodyPost_ret (v := .agg #[.int .i64 x1, .int .i64 x2]) (by simp [results, Try.results40, go_sem, r0, r1]) rfl ?_
  have hne : w.heap.size ≠ b := by omega
  have hne2 : w.heap.size ≠ g := by omega
  refine ⟨by rw [HX.out], ⟨D', ⟨?_, ?_, ?_, ?_⟩, hl1, hf1, hs1⟩, ?_⟩
  · exact (World.cell?_setCell_other _ _ _ _ (by intro e; injection e with e2; exact hne e2)).trans ((World.cell?_setCell_other _ _ _ _ (by intro e; injection e with e2; exact hne e2)).trans HV1.out.c)
  · rw [World.frozen?_setCell, World.frozen?_setCell]; exact HV1.out.f
  · simpa using HV1.out.lt
  · refine Rw.set_ne (Rw.set_ne HV1.out.row ?_ _) ?_ _
    · intro a ha; cases ha; show g ≠ w.heap.size; omega
    · intro a ha; cases ha; show g ≠ w.heap.size; omega
  · exact (offL_set (offL_set HO1.out (Nat.le_refl _)) (Nat.le_refl _))
end Go.Proofs.Ythblkfdgibonbaa
