import Derived.Test.YthblkfdgibonbaaDuI
namespace Go.Proofs.Ythblkfdgibonbaa
open Go.ChangeShapes Go.WideShapes Go.ChangeAt Go.RowKit
attribute [local go_sem ↓] Go.wp_at_zero Go.wp_at_succ

set_option maxHeartbeats 4000000 in
set_option maxRecDepth 100000 in
theorem heapPop (b g cap m : Nat) (D : List Du) (w : World) (h : HpV w b (.slice (some ⟨g, 0, none⟩) D.length cap) D) (hh : HeapD D.length D) (hm : D.length = m + 1) (hL : D.length ≤ 1048577) :
    Calls Try.prog 51 #[.iface 75 (.pointer (some ⟨b, 0, none⟩))] w fun e w' => e = .returned (.iface 77 (.agg #[.int .i64 (gD D 0).1, .int .i64 (gD D 0).2])) ∧ (∃ D', HpV w' b (.slice (some ⟨g, 0, none⟩) m cap) D' ∧ D'.length = m ∧ HeapD D'.length D' ∧ sortD D = gD D 0 :: sortD D') ∧ OffL [.slice (some ⟨b, 0, none⟩) 0 0, .slice (some ⟨g, 0, none⟩) 0 0] w w' := by
  have H : Hid (HpV w b (.slice (some ⟨g, 0, none⟩) D.length cap) D) := h
  have HH : Hid (HeapD D.length D) := hh
  have hml := fun n => mLen n b w _ _ _ h.c
  have hms := fun n => mSwap n b w _ _ _ h.c
  have hgb : b < g := by have := (row_lt h.row.1 g rfl).1; omega
  clear h hh
  go_enter Try.func51, Try.ntmps51
  go_wp2_with fail
  refine (hpLen _ _ _ _).mono ?_
  rintro e w0 ⟨rfl, hw0⟩
  rw [hw0]
  clear hw0 w0
  have hm1 : ((D.length : Nat) : Int) - 1 = (m : Int) := by omega
  go_wp2_with fail
  have HL := hpSwap g cap 0 m (b + 1) D w H.out.row (by omega) (by omega)
  rw [hm, show ((0 : Nat) : Int) = 0 from rfl] at HL
  refine HL.mono ?_
  clear HL
  rintro e w1 ⟨rfl, hh1, ho1⟩
  have hl1 := swD_len D 0 m
  have HV1 : Hid (HpV w1 b (.slice (some ⟨g, 0, none⟩) (swD D 0 m).length cap) (swD D 0 m)) := by
    rw [hl1, hm]
    exact ⟨(ho1.cell H.out.lt (by omega)).trans (by rw [← hm]; exact H.out.c), (ho1.frozen H.out.lt (by omega)).trans H.out.f, Nat.lt_of_lt_of_le H.out.lt ho1.size, hh1⟩
  have HO1 : Hid (OffL [.slice (some ⟨b, 0, none⟩) 0 0, .slice (some ⟨g, 0, none⟩) 0 0] w w1) := OffL.ofV (v := .slice (some ⟨g, 0, none⟩) 0 0) (.inl ⟨g, rfl, ho1⟩) (by simp)
  clear hh1 ho1 hml hms
  go_wp2_with fail
  have HL := heapDown b g cap m (swD D 0 m) w1 HV1.out (dn_start hm (by rw [← hm]; exact HH.out)) (by omega) (by omega)
  refine HL.mono ?_
  clear HL
  rintro e w2 ⟨⟨r, rfl⟩, ⟨D2, h2, hp2, hh2, ht2⟩, ho2⟩
  have hl2 : D2.length = D.length := by rw [hp2.length_eq, hl1]
  have HV2 : Hid (HpV w2 b (.slice (some ⟨g, 0, none⟩) D2.length cap) D2) := by rw [hl2, ← hl1]; exact h2
  have HO2 : Hid (OffL [.slice (some ⟨b, 0, none⟩) 0 0, .slice (some ⟨g, 0, none⟩) 0 0] w w2) := HO1.out.trans (offL_same ho2)
  have hmp := fun n => mPop n ⟨b, 0, none⟩ w2
  have hlast : gD D2 m = gD D 0 := by rw [ht2 m (Nat.le_refl _), swD_j (by omega) (by omega)]
  have HS : Hid (sortD D = gD D 0 :: sortD (D2.take m)) := pop_sort hm (by rw [← hm]; exact HH.out) (hp2.trans (swD_perm (by omega) (by omega))) hlast
  have HF : Hid (HeapD (D2.take m).length (D2.take m)) := heap_take hh2 (by omega)
  have HL : Hid (gD D2 m = gD D 0) := hlast
  clear h2 hp2 hh2 ht2 ho2 hlast HV1 HO1
  go_wp2_with fail
  refine (hpPop b g cap m D2 w2 HV2.out (by omega) (by omega)).mono ?_
  rw [HL.out]
  rintro e w3 ⟨rfl, h3, ho3⟩
  have HV3 : Hid (HpV w3 b (.slice (some ⟨g, 0, none⟩) m cap) (D2.take m)) := h3
  have HO3 : Hid (OffL [.slice (some ⟨b, 0, none⟩) 0 0, .slice (some ⟨g, 0, none⟩) 0 0] w w3) := HO2.out.trans (OffL.ofV (v := .slice (some ⟨b, 0, none⟩) 0 0) (.inl ⟨b, rfl, ho3⟩) (by simp))
  clear h3 ho3 hmp
  go_wp2
  go_ret
  exact ⟨rfl, ⟨D2.take m, HV3.out, by simp; omega, HF.out, HS.out⟩, HO3.out⟩

end Go.Proofs.Ythblkfdgibonbaa
