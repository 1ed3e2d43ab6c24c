import Derived.Test.YticfnfplpccmgadDoorDraws
import Derived.Test.YticfnfplpccmgadDoorSameT
import Derived.Test.YticfnfplpccmgadDoorUnFrames
import Derived.Test.YticfnfplpccmgadDoorICrash
import Derived.Test.YticfnfplpccmgadDoorICompact
import Derived.Test.YticfnfplpccmgadDoorMount
import Derived.Test.YticfnfplpccmgadDoorEqD
import Derived.Test.YticfnfplpccmgadDoorDoor
import Derived.Test.YticfnfplpccmgadDoorOpB
namespace Go.Proofs.YticfnfplpccmgadDoor
open Go.ChangeShapes Go.WideShapes Go.ChangeAt Go.RowKit

set_option maxRecDepth 100000 in
theorem keepB_zero (s : ByteArray) : keepB s 0 = ⟨#[]⟩ := by
  rw [keepB_mid s 0 (by decide) (by omega)]
  apply ByteArray.ext
  simp
set_option maxRecDepth 100000 in
theorem append_none (s : ByteArray) : s ++ (⟨#[]⟩ : ByteArray) = s := by
  apply ByteArray.ext
  simp
set_option maxRecDepth 100000 in
theorem drawnSteps_bound (B : List UInt8) : -1 ≤ drawnSteps B ∧ drawnSteps B ≤ 4 := by unfold drawnSteps; omega

set_option maxRecDepth 100000 in
set_option maxHeartbeats 4000000 in
set_option maxRecDepth 100000 in
theorem fnCompactLaw (cv : Value) (B : List UInt8) (w : World) (hB : BytesArg w cv B) (tb : TabIn w) :
    Calls Tryd.prog 5 #[cv] w fun e w' => e = .returned (.bool true) ∧ Below w.heap.size w w' := by
  have HT : Hid (TabIn w) := tb
  obtain ⟨ca, cc, hcv⟩ : ∃ a c, cv = .slice a B.length c := by
    rcases hB.2 with ⟨rfl, a, c, rfl⟩ | ⟨g, off, cap, rfl, _⟩
    · exact ⟨_, _, rfl⟩
    · exact ⟨_, _, rfl⟩
  have hBm := hB.1
  unfold maxLen at hBm
  clear tb
  by_cases hbig : 1048576 < B.length
  · subst hcv
    clear hB
    go_enter Tryd.func5, Tryd.ntmps5
    go_wp2
    go_ret
    exact ⟨rfl, Below.refl _ _⟩
  · have HC : Hid (CodeAt w cv B) := ⟨by omega, hB.2⟩
    subst hcv
    clear hB
    have hrb := recs_bound B
    obtain ⟨n, Hn⟩ : ∃ n, Hid (drawnSteps B = n) := ⟨_, rfl⟩
    have hnb := drawnSteps_bound B
    rw [Hn.out] at hnb
    obtain ⟨R, HR⟩ : ∃ R, Hid (recs B = R) := ⟨_, rfl⟩
    rw [HR.out] at hrb
    obtain ⟨m, Hm⟩ : ∃ m, Hid ((jR B 0).1 = m) := ⟨_, rfl⟩
    obtain ⟨l, Hl⟩ : ∃ l, Hid ((dLoose B 0).1 = l) := ⟨_, rfl⟩
    obtain ⟨h, Hh⟩ : ∃ h, Hid (dHas B 0 = h) := ⟨_, rfl⟩
    obtain ⟨t, Ht⟩ : ∃ t, Hid (dTemp B 0 = t) := ⟨_, rfl⟩
    obtain ⟨x, Hx⟩ : ∃ x, Hid ((dTL B 0).1 = x) := ⟨_, rfl⟩
    have sm : m.size ≤ 40132 := by rw [← Hm.out]; exact jR_size _ _
    have sl : l.size ≤ 40132 := by rw [← Hl.out]; exact dLoose_size _ _
    have st : t.size ≤ 40132 := by rw [← Ht.out]; exact dTemp_size _ _
    have sx : x.size ≤ 40132 := by rw [← Hx.out]; exact dTL_size _ _
    have hRl : R.length ≤ 20 := hrb.1
    have hRsz : sumSz R ≤ 160020 := sumSz_le R 8001 20 hrb.1 hrb.2
    have HRm : Hid (∀ s ∈ R, s.size ≤ maxLen) := fun s hs => by have := hrb.2 s hs; unfold maxLen; omega
    clear hrb
    go_enter Tryd.func5, Tryd.ntmps5
    go_wp2_with fail
    refine (drawCompact _ B _ HC.out).mono ?_
    rw [Hm.out, Hl.out, Hh.out, Ht.out, Hx.out, Hn.out, HR.out]
    rintro e w1 ⟨⟨v1, rfl, S1⟩, hb1⟩
    have hz1 := hb1.size
    have q1 := below1 w1 (.cells #[.string m, .string l, .bool h, .string t, .string x] 33)
    go_wp2_with fail
    refine (specMount m l t x h _ (by omega)).mono ?_
    rintro e w2 ⟨⟨v2, rfl, S2⟩, hb2⟩
    have hz2 : w1.heap.size < w2.heap.size := by have := hb2.size; simp at this; omega
    have q12 : Below w1.heap.size w1 w2 := q1.trans (hb2.mono (by simp))
    have D2 : Hid (DiskAt w2 w1.heap.size m l h t x ∧ ∀ o, w2.frozen? ⟨w1.heap.size, o, none⟩ = false) :=
      ⟨(diskAt_new w1 m l h t x _).below hb2 (by simp), fun o => (hb2.frozen (p := ⟨w1.heap.size, o, none⟩) (by simp)).trans (World.frozen?_alloc_at _ _ _ _ rfl)⟩
    have S2' : Strs w2 (w1.heap.size + 1) v2 (unfr m).1 := by simpa using S2
    have g2 : Below w.heap.size w w2 := hb1.trans (q12.mono (by omega))
    have S12 : Strs w2 w.heap.size v1 R := strs_below S1 q12 (Nat.le_refl _)
    have own1 := strs_own S1
    obtain ⟨Mm, HMm⟩ : ∃ Mm, Hid (m.extract 0 (unfr m).2 = Mm) := ⟨_, rfl⟩
    rw [HMm.out]
    have q2 := below1 w2 (.cells #[.string Mm, .string ⟨#[]⟩, .bool false, .string ⟨#[]⟩, .string ⟨#[]⟩] 33)
    clear S1 S2 hb2 q1
    go_wp2_with fail
    refine (drawCompact _ B _ (HC.out.below (g2.trans (q2.mono (by omega))))).mono ?_
    rw [Hm.out, Hl.out, Hh.out, Ht.out, Hx.out, Hn.out, HR.out]
    rintro e w3 ⟨⟨v3, rfl, _⟩, hb3⟩
    have hz3 : w2.heap.size < w3.heap.size := by have := hb3.size; simp at this; omega
    have q23 : Below w2.heap.size w2 w3 := q2.trans (hb3.mono (by simp))
    have D3 : Hid (DiskAt w3 w1.heap.size m l h t x ∧ ∀ o, w3.frozen? ⟨w1.heap.size, o, none⟩ = false) :=
      ⟨D2.out.1.below q23 hz2, fun o => (q23.frozen (p := ⟨w1.heap.size, o, none⟩) hz2).trans (D2.out.2 o)⟩
    have q34 : Below w1.heap.size w3 (set5 w3 w1.heap.size m l h t x) := by
      unfold set5
      repeat (refine Below.setCell ?_ (by simp) _)
      exact Below.refl _ _
    have g3 : Below w.heap.size w w3 := g2.trans (q23.mono (by omega))
    have g4 : Below w.heap.size w (set5 w3 w1.heap.size m l h t x) := g3.trans (q34.mono (by omega))
    have S14 : Strs (set5 w3 w1.heap.size m l h t x) w.heap.size v1 R := strs_below_at (strs_below S12 q23 (Nat.le_refl _)) q34 own1
    have S24 : Strs (set5 w3 w1.heap.size m l h t x) (w1.heap.size + 1) v2 (unfr m).1 := by
      have e := strs_below S2' q23 (Nat.le_refl _)
      unfold set5
      repeat (refine strs_setCell ?_ (by show w1.heap.size < _; omega) _)
      exact e
    have hz4 : (set5 w3 w1.heap.size m l h t x).heap.size = w3.heap.size := by simp [set5]
    have A14 : Hid (ArgS (set5 w3 w1.heap.size m l h t x) v1 R) := strs_args S14 (by unfold maxLen; omega) HRm.out
    have T4 : Hid (TabIn (set5 w3 w1.heap.size m l h t x)) := tab_below HT.out g4
    obtain ⟨⟨c0, c1, c2, c3, c4⟩, f0⟩ := D3.out
    clear hb3 q2 D2 S2' S12
    obtain ⟨F, HF⟩ : ∃ F, Hid (framesB R = F) := ⟨_, rfl⟩
    go_wp2_with fail
    clear c0 c1 c2 c3 c4 f0
    obtain ⟨w4, H4⟩ : ∃ w4, Hid (set5 w3 w1.heap.size m l h t x = w4) := ⟨_, rfl⟩
    have hw4 : set5 w3 w1.heap.size m l h t x = w4 := H4.out
    rw [hw4] at A14 T4 S24 S14 g4 hz4 q34
    have e4 : (((((w3.setCell ⟨w1.heap.size, 0, none⟩ (.string m)).setCell ⟨w1.heap.size, 1, none⟩ (.string l)).setCell ⟨w1.heap.size, 2, none⟩ (.bool h)).setCell ⟨w1.heap.size, 3, none⟩ (.string t)).setCell ⟨w1.heap.size, 4, none⟩ (.string x)) = w4 := hw4
    rw [e4]
    clear e4 hw4 H4
    have HS2 : Hid (Strs w4 (w1.heap.size + 1) v2 (unfr m).1) := S24
    have HS1 : Hid (Strs w4 w.heap.size v1 R) := S14
    have hz4' : w1.heap.size + 1 < w4.heap.size := by omega
    clear q34 S24 S14 hz4 D3 q23 q12 g3 hz3
    obtain ⟨k, Hk⟩ : ∃ k, Hid (stepsN n = k) := ⟨_, rfl⟩
    refine (implCompact m l t x F h v1 R n _ HF.out A14.out (by omega) T4.out).mono ?_
    rw [Hk.out]
    rintro e w5 ⟨rfl, hb5⟩
    have hFs : F.size ≤ 160180 := by have := framesB_size R; rw [HF.out] at this; omega
    have sM : (cM F m k).size ≤ 160180 := by unfold cM; split <;> omega
    have sL : (cL l k).size ≤ 160180 := by unfold cL; split <;> first | omega | exact Nat.zero_le _
    have sT : (cT F t k).size ≤ 160180 := by unfold cT; split <;> (try split) <;> first | omega | exact Nat.zero_le _
    have sX : (cX F x k).size ≤ 160180 := by unfold cX; split <;> (try split) <;> first | omega | exact Nat.zero_le _
    go_wp2_with fail
    refine (implCrash (cM F m k) (cL l k) (cT F t k) (cX F x k) (cH h k) _ _ _ (by omega) (by omega) (by omega) (by omega)).mono ?_
    rw [keepB_zero, append_none]
    rintro e w6 ⟨rfl, hb6⟩
    have q46 : Below w4.heap.size w4 w6 := hb5.trans (hb6.mono hb5.size)
    have hz6 : w4.heap.size ≤ w6.heap.size := q46.size
    have HKm : Hid (n < 3 → cM F m k = m) := fun hn => by
      have : k < 3 := by rw [← Hk.out]; unfold stepsN; split <;> (try split) <;> omega
      unfold cM; rw [if_neg (by omega)]
    have HKF : Hid (3 ≤ n → cM F m k = F) := fun hn => by
      have : k = 3 := by rw [← Hk.out]; unfold stepsN; rw [if_neg (by omega), if_neg (by omega)]
      unfold cM; rw [if_pos (by omega)]
    obtain ⟨K, HK⟩ : ∃ K, Hid (cM F m k = K) := ⟨_, rfl⟩
    obtain ⟨Tk, HTk⟩ : ∃ Tk, Hid (cT F t k ++ keepB (cX F x k) (B.length : Int) = Tk) := ⟨_, rfl⟩
    obtain ⟨hk', Hhk⟩ : ∃ hk', Hid (cH h k = hk') := ⟨_, rfl⟩
    rw [HK.out, HTk.out, Hhk.out]
    have sK : K.size ≤ 160180 := by rw [← HK.out]; exact sM
    have q6 := below1 w6 (.cells #[.string K, .string ⟨#[]⟩, .bool hk', .string Tk, .string ⟨#[]⟩] 33)
    have g6 : Below w.heap.size w (w6.alloc (.cells #[.string K, .string ⟨#[]⟩, .bool hk', .string Tk, .string ⟨#[]⟩] 33)) := g4.trans ((q46.trans (q6.mono hz6)).mono g4.size)
    go_wp2_with fail
    refine (implMount K ⟨#[]⟩ Tk ⟨#[]⟩ hk' _ (by omega) (tab_below HT.out g6)).mono ?_
    rintro e w7 ⟨⟨v7, rfl, S7⟩, hb7⟩
    have hz7 : w6.heap.size < w7.heap.size := by have := hb7.size; simp at this; omega
    have q67 : Below w6.heap.size w6 w7 := q6.trans (hb7.mono (by simp))
    have q47 : Below w4.heap.size w4 w7 := q46.trans (q67.mono hz6)
    have E7 : Hid (DiskAt w7 w6.heap.size K ⟨#[]⟩ hk' Tk ⟨#[]⟩) := (diskAt_new w6 K ⟨#[]⟩ hk' Tk ⟨#[]⟩ _).below hb7 (by simp)
    obtain ⟨N, HN⟩ : ∃ N, Hid (K.extract 0 (unfr K).2 = N) := ⟨_, rfl⟩
    obtain ⟨L7, HL7⟩ : ∃ L7, Hid ((unfr K).1 = L7) := ⟨_, rfl⟩
    rw [HN.out]
    rw [HL7.out] at S7
    have S7' : Hid (Strs w7 (w6.heap.size + 1) v7 L7) := by have := S7; simp at this; exact this
    clear S7 hb7 q6 hb5 hb6 g6 q46
    have HA7 : Hid (ArgS w7 v7 L7) := strs_args S7'.out (by have := unfr_len K; rw [HL7.out] at this; unfold maxLen; omega) (by have := unfr_sizes K; rw [HL7.out] at this; intro s hs; have := this s hs; unfold maxLen; omega)
    have q7 := below1 w7 (.cells #[.string N, .string ⟨#[]⟩, .bool false, .string ⟨#[]⟩, .string ⟨#[]⟩] 33)
    by_cases hn3 : n < 3
    · have HA2 : Hid (ArgS w7 v2 L7) := by
        have e : (unfr m).1 = L7 := by rw [← HL7.out, ← HK.out, HKm.out hn3]
        have h2 := HS2.out
        rw [e] at h2
        exact (strs_args h2 HA7.out.1 HA7.out.2.1).below q47
      go_wp2_with fail
      refine (sameT v7 v2 L7 _ (HA7.out.below q7) (HA2.out.below q7)).mono ?_
      rintro e w8 ⟨rfl, hb8⟩
      obtain ⟨d0, d1, d2, d3, d4⟩ := (diskAt_new w7 N ⟨#[]⟩ false ⟨#[]⟩ ⟨#[]⟩ 33).below hb8 (by simp)
      have g8 : Below w.heap.size w w8 := (g4.trans (q47.mono g4.size)).trans ((q7.trans (hb8.mono (by simp))).mono (by omega))
      go_wp2
      go_ret
      exact ⟨rfl, g8⟩
    · have HKF' : Hid (F = K) := by show F = K; rw [← HK.out]; exact (HKF.out (by omega)).symm
      have HL7' : Hid (R.filter (fun p => p.size ≤ 8000) = L7) := by show _ = _; rw [← HL7.out, ← HKF'.out, ← HF.out, unfr_framesB]
      have HN' : Hid (K = N) := by show K = N; rw [← HN.out, ← HKF'.out, ← HF.out, unfr_framesB, extract_all]
      obtain ⟨a1, c1, hv1, hc1⟩ : ∃ a c, v1 = .slice a R.length c ∧ ∀ i (hi : i < R.length), ∃ g, a = some ⟨g, 0, none⟩ ∧ g < w4.heap.size ∧ w4.cell? ⟨g, i, none⟩ = some (.string R[i]) := by
        rcases HS1.out.cases with ⟨rfl, hR0⟩ | ⟨g, cap, rfl, hg⟩
        · rw [hR0]; exact ⟨_, _, rfl, fun i hi => absurd hi (by simp)⟩
        · exact ⟨_, _, rfl, fun i hi => ⟨g, rfl, hg.lt, hg.cell i hi⟩⟩
      have Hc1 : Hid (∀ i (hi : i < R.length), ∃ g, a1 = some ⟨g, 0, none⟩ ∧ g < w4.heap.size ∧ w4.cell? ⟨g, i, none⟩ = some (.string R[i])) := hc1
      subst hv1
      clear hc1
      obtain ⟨i0, hi, hz0, hz1, hz2⟩ := info_parts infoStr
      obtain ⟨W, HW⟩ : ∃ W, Hid (w7.alloc (.cells #[.string N, .string ⟨#[]⟩, .bool false, .string ⟨#[]⟩, .string ⟨#[]⟩] 33) = W) := ⟨_, rfl⟩
      have HDW : Hid (DiskAt W w7.heap.size N ⟨#[]⟩ false ⟨#[]⟩ ⟨#[]⟩) := by rw [← HW.out]; exact diskAt_new w7 N ⟨#[]⟩ false ⟨#[]⟩ ⟨#[]⟩ 33
      have HzW : Hid (W.heap.size = w7.heap.size + 1) := by show _ = _; rw [← HW.out]; simp
      have hzW1 : w7.heap.size < W.heap.size := by rw [HzW.out]; omega
      rw [HW.out] at q7
      have q4W : Below w4.heap.size w4 W := q47.trans (q7.mono (by omega))
      have gW : Below w.heap.size w W := g4.trans (q4W.mono g4.size)
      go_wp2_with fail
      rw [HW.out]
      go_wp2
      go_loopw [11, 13, 58] (fun v _ i wr => ∃ k : Nat, k ≤ R.length ∧ i = .int .i64 k ∧ Hid (Strs wr W.heap.size v ((R.take k).filter (fun p => p.size ≤ 8000))) ∧ Below W.heap.size W wr) (fun _ _ i _ => R.length - (intOf i).toNat)
      case atStart => exact ⟨0, Nat.zero_le _, rfl, World.ownsRow_nil _ _ _ _, Below.refl _ _⟩
      case round =>
        obtain ⟨j, hj, rfl, HSj, hbj⟩ := hrel
        by_cases hjl : j < R.length
        · obtain ⟨g, rfl, hg4, hgc⟩ := Hc1.out j hjl
          have hcj : wr.cell? ⟨g, j, none⟩ = some (.string R[j]) := ((q4W.trans (hbj.mono q4W.size)).cell (p := ⟨g, j, none⟩) hg4).trans hgc
          have HT1 : Hid ((R.take (j + 1)).filter (fun p => p.size ≤ 8000) = (R.take j).filter (fun p => p.size ≤ 8000) ++ [R[j]].filter (fun p => p.size ≤ 8000)) := by
            show _ = _
            rw [List.take_succ_eq_append_getElem hjl, List.filter_append]
          generalize R[j] = Y at hcj HT1
          obtain ⟨acc, HAc⟩ : ∃ acc, Hid ((R.take j).filter (fun p => p.size ≤ 8000) = acc) := ⟨_, rfl⟩
          have hS := HSj.out
          have hacl : acc.length ≤ 20 := by rw [← HAc.out]; exact Nat.le_trans (List.length_filter_le _ _) (by simp; omega)
          rw [HAc.out] at hS
          have hzr : W.heap.size ≤ wr.heap.size := hbj.size
          have hown0 : wr.ownsRow W.heap.size 9 1 u11 acc.length (acc.map Value.string) := hS
          have hlos := strs_lo hS
          clear hS HSj
          by_cases hY : Y.size ≤ 8000
          · have HT2 : Hid ((R.take (j + 1)).filter (fun p => p.size ≤ 8000) = acc ++ [Y]) := by
              show _ = _
              rw [HT1.out, HAc.out]; simp [hY]
            have hYi : (Y.size : Int) ≤ 8000 := by omega
            go_wp2_with (at_builtin; refine wpList_append_lies _ rfl _ _ 34 rfl W.heap.size 9 i0 (.string ⟨#[]⟩) 1 16 Tryd.underlying34 hi hz0 hz1 hz2 rfl (by decide) _ _ _ rfl (hown0.alloc _) ⟨wr.heap.size, 0, none⟩ 1 1 [.string Y] rfl rfl ?c1 ?c2 ?c3 ?c4 ?c5 ?c6 (wr.heap.size + 1) ?c7 ?_)
            case c1 =>
              intro j u hj
              match j, hj with
              | 0, hj =>
                simp at hj; subst hj
                simp only [Addr.add, if_pos]
                exact World.cell?_alloc_mark wr _ _ _ 0
            case c2 => intro u hu; simp at hu; subst hu; rfl
            case c3 => decide
            case c4 => unfold maxLen; omega
            case c5 => omega
            case c6 => simp; omega
            case c7 => simp
            intro g' cap' w8 hown8 hgrow hat hlt8
            have HS8 : Hid (Strs w8 W.heap.size (.slice (some ⟨g', 0, none⟩) (acc.length + 1) cap') (acc ++ [Y])) := strs_snoc hown8
            have hb8 : Below W.heap.size wr w8 := ((Below.refl _ wr).alloc (by omega) _).grown hgrow (by simp; omega) hlos
            clear hown8 hgrow hat hown0 hlos
            go_wp2
            go_roundw
            case rel => exact ⟨j + 1, by omega, by go_num, by rw [HT2.out]; exact HS8, hbj.trans hb8⟩
            case measure => simp [intOf]; omega
          · have HT2 : Hid ((R.take (j + 1)).filter (fun p => p.size ≤ 8000) = acc) := by
              show _ = _
              rw [HT1.out, HAc.out]; simp [hY]
            have hYi : ¬ (Y.size : Int) ≤ 8000 := by omega
            go_wp2
            go_roundw
            case rel => exact ⟨j + 1, by omega, by go_num, by rw [HT2.out]; exact hown0, hbj⟩
            case measure => simp [intOf]; omega
        · have HSe : Hid (Strs wr W.heap.size u11 L7) := by
            have e := HSj.out
            rw [List.take_of_length_le (by omega), HL7'.out] at e
            exact e
          clear HSj
          have q7r : Below w7.heap.size w7 wr := q7.trans (hbj.mono q7.size)
          go_wp2_with fail
          refine (sameT v7 u11 L7 _ (HA7.out.below q7r) (strs_args HSe.out HA7.out.1 HA7.out.2.1)).mono ?_
          rintro e w8 ⟨rfl, hb8⟩
          have qW8 : Below W.heap.size W w8 := hbj.trans (hb8.mono hbj.size)
          have HR8 : Hid (Below w.heap.size w w8) := gW.trans (qW8.mono gW.size)
          obtain ⟨d0, d1, d2, d3, d4⟩ := HDW.out.below qW8 (by omega)
          obtain ⟨e0, e1, e2, e3, e4⟩ := E7.out.below (q7.trans (qW8.mono q7.size)) hz7
          rw [HN'.out] at e0
          go_wp2
          go_ret
          exact ⟨rfl, HR8.out⟩
end Go.Proofs.YticfnfplpccmgadDoor
