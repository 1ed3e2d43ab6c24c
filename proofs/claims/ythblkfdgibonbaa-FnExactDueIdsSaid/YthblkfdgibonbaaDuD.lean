import Derived.Test.YthblkfdgibonbaaDuU
namespace Go.Proofs.Ythblkfdgibonbaa
open Go.ChangeShapes Go.WideShapes Go.ChangeAt Go.RowKit
attribute [local go_sem ↓] Go.wp_at_zero Go.wp_at_succ

/-- j is the least of i's children below n -/
theorem child_least {E : List Du} {n i j : Nat} (h : (j = 2 * i + 1 ∧ (2 * i + 2 < n → ¬ dLt (gD E (2 * i + 2)) (gD E (2 * i + 1)))) ∨ (j = 2 * i + 2 ∧ dLt (gD E (2 * i + 2)) (gD E (2 * i + 1)))) : ∀ k, k < n → 0 < k → (k - 1) / 2 = i → dLe (gD E j) (gD E k) = true := by
  intro k hk h0 hp
  have hk2 : k = 2 * i + 1 ∨ k = 2 * i + 2 := by omega
  rcases h with ⟨rfl, hn⟩ | ⟨rfl, hd⟩
  · rcases hk2 with rfl | rfl
    · exact dLe_refl _
    · exact dLe_iff.2 (hn hk)
  · rcases hk2 with rfl | rfl
    · exact dLt_le hd
    · exact dLe_refl _
/-- what stands from n on stays -/
def Tail (n : Nat) (E D : List Du) : Prop := ∀ k, n ≤ k → gD E k = gD D k

set_option maxHeartbeats 4000000 in
set_option maxRecDepth 100000 in
theorem heapDown (b g cap n : Nat) (D : List Du) (w : World) (h : HpV w b (.slice (some ⟨g, 0, none⟩) D.length cap) D) (hd : DnD D n 0) (hn : n ≤ D.length) (hL : D.length ≤ 1048577) :
    Calls Try.prog 62 #[.iface 75 (.pointer (some ⟨b, 0, none⟩)), .int .i64 0, .int .i64 n] w fun e w' => (∃ r, e = .returned (.bool r)) ∧ (∃ D', HpV w' b (.slice (some ⟨g, 0, none⟩) D.length cap) D' ∧ D'.Perm D ∧ HeapD n D' ∧ Tail n D' D) ∧ OffL [.slice (some ⟨g, 0, none⟩) D.length cap] w w' := by
  have H : Hid (HpV w b (.slice (some ⟨g, 0, none⟩) D.length cap) D) := h
  have HD : Hid (DnD D n 0) := hd
  clear h hd
  go_enter Try.func62, Try.ntmps62
  go_wp2_with fail
  go_loopw [7] (fun iv wr => ∃ (k : Nat) (E : List Du), k ≤ n ∧ iv = .int .i64 k ∧ E.length = D.length ∧ Hid (HpV wr b (.slice (some ⟨g, 0, none⟩) D.length cap) E) ∧ Hid (DnD E n k) ∧ Hid (E.Perm D) ∧ Hid (Tail n E D) ∧ Hid (OffL [.slice (some ⟨g, 0, none⟩) D.length cap] w wr)) (fun iv _ => n - (intOf iv).toNat)
  case atStart => exact ⟨0, D, Nat.zero_le _, rfl, rfl, H, HD, List.Perm.refl _, fun _ _ => rfl, OffL.of_below (Below.refl _ _)⟩
  case round =>
    obtain ⟨k, E, hk, rfl, hE, HV, HK, HP, HT, HO⟩ := hrel
    have hml := fun n => mLess n b wr _ _ _ HV.out.c
    by_cases h1 : n ≤ 2 * k + 1
    · have h1i : (n : Int) ≤ 2 * (k : Int) + 1 := by omega
      have HF : Hid (HeapD n E) := dn_end HK.out (fun j hj h0 hp => by omega)
      go_wp2
      go_ret
      exact ⟨⟨_, rfl⟩, ⟨E, HV.out, HP.out, HF.out, HT.out⟩, HO.out⟩
    · have h1i : ¬ (n : Int) ≤ 2 * (k : Int) + 1 := by omega
      have h1j : ¬ 2 * (k : Int) + 1 < 0 := by omega
      go_upto_region 6 with fail
      go_cut [33] (fun bv wx => ∃ r : Bool, bv = .bool r ∧ Hid (Below wr.heap.size wr wx) ∧ Hid ((r = true → 2 * k + 2 < n ∧ dLt (gD E (2 * k + 2)) (gD E (2 * k + 1))) ∧ (r = false → 2 * k + 2 < n → ¬ dLt (gD E (2 * k + 2)) (gD E (2 * k + 1)))))
      case first =>
        by_cases h2 : 2 * k + 2 < n
        · have h2i : 2 * (k : Int) + 1 + 1 < (n : Int) := by omega
          go_wp2_with fail
          have HL := hpLess g cap (2 * k + 2) (2 * k + 1) (b + 1) E wr (by rw [hE]; exact HV.out.row) (by omega) (by omega)
          rw [hE] at HL
          rw [show (2 * (k : Int) + 1 + 1) = ((2 * k + 2 : Nat) : Int) by omega, show (2 * (k : Int) + 1) = ((2 * k + 1 : Nat) : Int) by omega]
          refine HL.mono ?_
          clear HL
          rintro e w1 ⟨rfl, hb1⟩
          have HB1 : Hid (Below wr.heap.size wr w1) := hb1
          clear hb1
          go_wp2_with fail
          go_meet
          exact ⟨_, rfl, HB1, fun hr => ⟨h2, by simpa using hr⟩, fun hr _ => by simpa using hr⟩
        · have h2i : ¬ 2 * (k : Int) + 1 + 1 < (n : Int) := by omega
          go_wp2_with fail
          go_meet
          exact ⟨false, rfl, Below.refl _ _, ⟨fun hr => (by cases hr), fun _ hr => absurd hr h2⟩⟩
      case rest =>
      obtain ⟨r, rfl, HB1, HR⟩ := hcut
      obtain ⟨wx, hwx⟩ : ∃ wx, wc = wx := ⟨_, rfl⟩
      rw [hwx] at HB1
      rw [hwx]
      clear hwx wc hml
      have HV1 : Hid (HpV wx b (.slice (some ⟨g, 0, none⟩) D.length cap) E) := HV.out.off HB1.out
      have HO1 : Hid (OffL [.slice (some ⟨g, 0, none⟩) D.length cap] w wx) := HO.out.trans (OffL.of_below HB1.out)
      have hml := fun n => mLess n b wx _ _ _ HV1.out.c
      clear HV HO HB1
      cases r with
      | true =>
        obtain ⟨h2, h3⟩ := HR.out.1 rfl
        have H3 : Hid (dLt (gD E (2 * k + 2)) (gD E (2 * k + 1))) := h3
        clear h3
        have HC : Hid (∀ j, j < n → 0 < j → (j - 1) / 2 = k → dLe (gD E (2 * k + 2)) (gD E j) = true) := child_least (E := E) (n := n) (i := k) (j := 2 * k + 2) (.inr ⟨rfl, H3.out⟩)
        go_wp2_with fail
        have HL := hpLess g cap (2 * k + 2) k (b + 1) E wx (by rw [hE]; exact HV1.out.row) (by omega) (by omega)
        rw [hE] at HL
        rw [show (2 * (k : Int) + 1 + 1 : Int) = ((2 * k + 2 : Nat) : Int) by omega]
        refine HL.mono ?_
        clear HL
        rintro e w1 ⟨rfl, hb1⟩
        have HV2 : Hid (HpV w1 b (.slice (some ⟨g, 0, none⟩) D.length cap) E) := HV1.out.off hb1
        have HO2 : Hid (OffL [.slice (some ⟨g, 0, none⟩) D.length cap] w w1) := HO1.out.trans (OffL.of_below hb1)
        have hms := fun n => mSwap n b w1 _ _ _ HV2.out.c
        clear hb1 HV1 HO1 hml
        by_cases hlt2 : dLt (gD E (2 * k + 2)) (gD E k)
        · have hd : decide (dLt (gD E (2 * k + 2)) (gD E k)) = true := decide_eq_true hlt2
          have HU2 : Hid (DnD (swD E k (2 * k + 2)) n (2 * k + 2)) := dn_step HK.out (by omega) (by omega) (by omega) ⟨by omega, by omega⟩ HC.out hlt2
          have HP2 : Hid ((swD E k (2 * k + 2)).Perm D) := (swD_perm (by omega) (by omega)).trans HP.out
          have HT2 : Hid (Tail n (swD E k (2 * k + 2)) D) := fun q hq => (swD_other (by omega) (by omega) (by omega) (by omega)).trans (HT.out q hq)
          have hl2 := swD_len E k (2 * k + 2)
          clear hlt2
          go_wp2_with fail
          have HL := hpSwap g cap k (2 * k + 2) (b + 1) E w1 (by rw [hE]; exact HV2.out.row) (by omega) (by omega)
          rw [hE] at HL
          try rw [show (2 * (k : Int) + 1 + 1 : Int) = ((2 * k + 2 : Nat) : Int) by omega]
          refine HL.mono ?_
          clear HL
          rintro e w2 ⟨rfl, hh2, ho2⟩
          have hne : b ≠ g := by
            have := (row_lt HV2.out.row.1 g rfl).1
            omega
          have HV3 : Hid (HpV w2 b (.slice (some ⟨g, 0, none⟩) D.length cap) (swD E k (2 * k + 2))) := ⟨(ho2.cell HV2.out.lt hne).trans HV2.out.c, (ho2.frozen HV2.out.lt hne).trans HV2.out.f, Nat.lt_of_lt_of_le HV2.out.lt ho2.size, hh2⟩
          have HO3 : Hid (OffL [.slice (some ⟨g, 0, none⟩) D.length cap] w w2) := HO2.out.trans (OffL.ofV (v := .slice (some ⟨g, 0, none⟩) D.length cap) (.inl ⟨g, rfl, ho2⟩) (by simp))
          clear hh2 ho2
          go_wp2
          go_roundw
          case rel => exact ⟨2 * k + 2, swD E k (2 * k + 2), by omega, by go_num, by omega, HV3, HU2, HP2, HT2, HO3⟩
          case measure => simp [intOf]; omega
        · have hd : decide (dLt (gD E (2 * k + 2)) (gD E k)) = false := decide_eq_false hlt2
          have HF : Hid (HeapD n E) := dn_end HK.out (fun j hj h0 hp => dLe_trans _ _ _ (dLe_iff.2 hlt2) (HC.out j hj h0 hp))
          clear hlt2
          go_wp2
          go_ret
          exact ⟨⟨_, rfl⟩, ⟨E, HV2.out, HP.out, HF.out, HT.out⟩, HO2.out⟩
      | false =>
        have H3 : Hid (2 * k + 2 < n → ¬ dLt (gD E (2 * k + 2)) (gD E (2 * k + 1))) := HR.out.2 rfl
        have HC : Hid (∀ j, j < n → 0 < j → (j - 1) / 2 = k → dLe (gD E (2 * k + 1)) (gD E j) = true) := child_least (E := E) (n := n) (i := k) (j := 2 * k + 1) (.inl ⟨rfl, H3.out⟩)
        go_wp2_with fail
        have HL := hpLess g cap (2 * k + 1) k (b + 1) E wx (by rw [hE]; exact HV1.out.row) (by omega) (by omega)
        rw [hE] at HL
        rw [show (2 * (k : Int) + 1 : Int) = ((2 * k + 1 : Nat) : Int) by omega]
        refine HL.mono ?_
        clear HL
        rintro e w1 ⟨rfl, hb1⟩
        have HV2 : Hid (HpV w1 b (.slice (some ⟨g, 0, none⟩) D.length cap) E) := HV1.out.off hb1
        have HO2 : Hid (OffL [.slice (some ⟨g, 0, none⟩) D.length cap] w w1) := HO1.out.trans (OffL.of_below hb1)
        have hms := fun n => mSwap n b w1 _ _ _ HV2.out.c
        clear hb1 HV1 HO1 hml
        by_cases hlt2 : dLt (gD E (2 * k + 1)) (gD E k)
        · have hd : decide (dLt (gD E (2 * k + 1)) (gD E k)) = true := decide_eq_true hlt2
          have HU2 : Hid (DnD (swD E k (2 * k + 1)) n (2 * k + 1)) := dn_step HK.out (by omega) (by omega) (by omega) ⟨by omega, by omega⟩ HC.out hlt2
          have HP2 : Hid ((swD E k (2 * k + 1)).Perm D) := (swD_perm (by omega) (by omega)).trans HP.out
          have HT2 : Hid (Tail n (swD E k (2 * k + 1)) D) := fun q hq => (swD_other (by omega) (by omega) (by omega) (by omega)).trans (HT.out q hq)
          have hl2 := swD_len E k (2 * k + 1)
          clear hlt2
          go_wp2_with fail
          have HL := hpSwap g cap k (2 * k + 1) (b + 1) E w1 (by rw [hE]; exact HV2.out.row) (by omega) (by omega)
          rw [hE] at HL
          try rw [show (2 * (k : Int) + 1 : Int) = ((2 * k + 1 : Nat) : Int) by omega]
          refine HL.mono ?_
          clear HL
          rintro e w2 ⟨rfl, hh2, ho2⟩
          have hne : b ≠ g := by
            have := (row_lt HV2.out.row.1 g rfl).1
            omega
          have HV3 : Hid (HpV w2 b (.slice (some ⟨g, 0, none⟩) D.length cap) (swD E k (2 * k + 1))) := ⟨(ho2.cell HV2.out.lt hne).trans HV2.out.c, (ho2.frozen HV2.out.lt hne).trans HV2.out.f, Nat.lt_of_lt_of_le HV2.out.lt ho2.size, hh2⟩
          have HO3 : Hid (OffL [.slice (some ⟨g, 0, none⟩) D.length cap] w w2) := HO2.out.trans (OffL.ofV (v := .slice (some ⟨g, 0, none⟩) D.length cap) (.inl ⟨g, rfl, ho2⟩) (by simp))
          clear hh2 ho2
          go_wp2
          go_roundw
          case rel => exact ⟨2 * k + 1, swD E k (2 * k + 1), by omega, by go_num, by omega, HV3, HU2, HP2, HT2, HO3⟩
          case measure => simp [intOf]; omega
        · have hd : decide (dLt (gD E (2 * k + 1)) (gD E k)) = false := decide_eq_false hlt2
          have HF : Hid (HeapD n E) := dn_end HK.out (fun j hj h0 hp => dLe_trans _ _ _ (dLe_iff.2 hlt2) (HC.out j hj h0 hp))
          clear hlt2
          go_wp2
          go_ret
          exact ⟨⟨_, rfl⟩, ⟨E, HV2.out, HP.out, HF.out, HT.out⟩, HO2.out⟩
end Go.Proofs.Ythblkfdgibonbaa
