import Derived.Test.YticfnfplpccmgadDoorDraws
import Derived.Test.YticfnfplpccmgadDoorSameT
import Derived.Test.YticfnfplpccmgadDoorSyncSt
import Derived.Test.YticfnfplpccmgadDoorIAppend
import Derived.Test.YticfnfplpccmgadDoorISync
import Derived.Test.YticfnfplpccmgadDoorICrash
import Derived.Test.YticfnfplpccmgadDoorMount
import Derived.Test.YticfnfplpccmgadDoorEqD
import Derived.Test.YticfnfplpccmgadDoorFnComp
import Derived.Deep.CutBlock
namespace Go.Proofs.YticfnfplpccmgadDoor
open Go.ChangeShapes Go.WideShapes Go.ChangeAt Go.RowKit

set_option maxRecDepth 100000 in
theorem BytesArg.form {w : World} {v : Value} {B : List UInt8} (h : BytesArg w v B) : ∃ a c, v = .slice a B.length c := by
  rcases h.2 with ⟨rfl, a, c, rfl⟩ | ⟨g, off, cap, rfl, _⟩
  · exact ⟨_, _, rfl⟩
  · exact ⟨_, _, rfl⟩
set_option maxRecDepth 100000 in
theorem strs_argsU {w : World} {lo : Nat} {v : Value} {s : ByteArray} (h : Strs w lo v (unfr s).1) (hs : s.size ≤ 1048576) : ArgS w v (unfr s).1 :=
  strs_args h (by have := unfr_len s; unfold maxLen; omega) (fun p hp => by have := unfr_sizes s p hp; unfold maxLen; omega)

set_option maxRecDepth 100000 in
set_option maxHeartbeats 4000000 in
set_option maxRecDepth 100000 in
theorem fnSyncedLaw (cv dv : Value) (B D : List UInt8) (w : World) (hB : BytesArg w cv B) (hD : BytesArg w dv D) (tb : TabIn w) :
    Calls Tryd.prog 7 #[cv, dv] w fun e w' => e = .returned (.bool true) ∧ Below w.heap.size w w' := by
  have HT : Hid (TabIn w) := tb
  obtain ⟨ca, cc, hcv⟩ := hB.form
  obtain ⟨da, dc, hdv⟩ := hD.form
  have hBm := hB.1
  have hDm := hD.1
  unfold maxLen at hBm hDm
  clear tb
  by_cases hbig : 1048576 < B.length
  · subst hcv hdv
    clear hB hD
    go_enter Tryd.func7, Tryd.ntmps7
    go_wp2
    go_ret
    exact ⟨rfl, Below.refl _ _⟩
  by_cases hbig2 : 1048576 < D.length
  · subst hcv hdv
    clear hB hD
    go_enter Tryd.func7, Tryd.ntmps7
    go_wp2
    go_ret
    exact ⟨rfl, Below.refl _ _⟩
  by_cases hbig3 : 1048576 < B.length + D.length
  · subst hcv hdv
    clear hB hD
    have hbig3i : (1048576 : Int) < (B.length : Int) + (D.length : Int) := by omega
    go_enter Tryd.func7, Tryd.ntmps7
    go_wp2
    go_ret
    exact ⟨rfl, Below.refl _ _⟩
  have HC : Hid (CodeAt w cv B) := ⟨by omega, hB.2⟩
  have HD : Hid (CodeAt w dv D) := ⟨by omega, hD.2⟩
  subst hcv hdv
  clear hB hD
  have hbig3i : ¬ (1048576 : Int) < (B.length : Int) + (D.length : Int) := by omega
  have hrb := recs_bound D
  obtain ⟨n0, Hn⟩ : ∃ n, Hid (drawnSteps D = n) := ⟨_, rfl⟩
  have hnb := drawnSteps_bound D
  rw [Hn.out] at hnb
  obtain ⟨R, HR⟩ : ∃ R, Hid (recs D = R) := ⟨_, rfl⟩
  rw [HR.out] at hrb
  obtain ⟨m, Hm⟩ : ∃ m, Hid ((jR B 0).1 = m) := ⟨_, rfl⟩
  obtain ⟨l, Hl⟩ : ∃ l, Hid ((dLoose B 0).1 = l) := ⟨_, rfl⟩
  obtain ⟨h, Hh⟩ : ∃ h, Hid (dHas B 0 = h) := ⟨_, rfl⟩
  obtain ⟨t, Ht⟩ : ∃ t, Hid (dTemp B 0 = t) := ⟨_, rfl⟩
  obtain ⟨x, Hx⟩ : ∃ x, Hid ((dTL B 0).1 = x) := ⟨_, rfl⟩
  have sm : m.size ≤ 40132 := by rw [← Hm.out]; exact jR_size _ _
  have hRl : R.length ≤ 20 := hrb.1
  have HRs : Hid (∀ s ∈ R, s.size ≤ 8001) := hrb.2
  obtain ⟨m2, l2, h2, t2, x2, HD2⟩ : ∃ m2 l2 h2 t2 x2, Hid ((jR D 0).1 = m2 ∧ (dLoose D 0).1 = l2 ∧ dHas D 0 = h2 ∧ dTemp D 0 = t2 ∧ (dTL D 0).1 = x2) := ⟨_, _, _, _, _, rfl, rfl, rfl, rfl, rfl⟩
  clear hrb
  go_enter Tryd.func7, Tryd.ntmps7
  go_wp2_with fail
  refine (drawMount _ B _ HC.out).mono ?_
  rw [Hm.out, Hl.out, Hh.out, Ht.out, Hx.out]
  rintro e w1 ⟨rfl, hb1⟩
  have hz1 := hb1.size
  clear hbig hbig2 hbig3
  go_wp2_with fail
  refine (implMount m l t x h _ (by omega) (tab_below HT.out hb1)).mono ?_
  rintro e w2 ⟨⟨v2, rfl, S2⟩, hb2⟩
  have hz2 := hb2.size
  have g2 : Below w.heap.size w w2 := hb1.trans (hb2.mono (by omega))
  obtain ⟨P, HP⟩ : ∃ P, Hid (m.extract 0 (unfr m).2 = P) := ⟨_, rfl⟩
  rw [HP.out]
  have HS2 : Hid (Strs w2 w1.heap.size v2 (unfr m).1) := S2
  obtain ⟨w2', HW2⟩ : ∃ W, Hid (w2.alloc (.cells #[.string P, .string ⟨#[]⟩, .bool false, .string ⟨#[]⟩, .string ⟨#[]⟩] 33) = W) := ⟨_, rfl⟩
  have q2 : Below w2.heap.size w2 w2' := by rw [← HW2.out]; exact below1 w2 _
  have HDf : Hid (DiskAt w2' w2.heap.size P ⟨#[]⟩ false ⟨#[]⟩ ⟨#[]⟩) := by rw [← HW2.out]; exact diskAt_new w2 _ _ _ _ _ _
  have hz2' : w2.heap.size < w2'.heap.size := by rw [← HW2.out]; simp
  have g2' : Below w.heap.size w w2' := g2.trans (q2.mono (by omega))
  clear S2
  go_wp2_with fail
  rw [HW2.out]
  refine (drawMount _ B _ (HC.out.below g2')).mono ?_
  rw [Hm.out, Hl.out, Hh.out, Ht.out, Hx.out]
  rintro e w3 ⟨rfl, hb3⟩
  have hz3 := hb3.size
  go_wp2_with fail
  refine (specMount m l t x h _ (by omega)).mono ?_
  rintro e w4 ⟨⟨v4, rfl, S4⟩, hb4⟩
  have hz4 := hb4.size
  rw [HP.out]
  have q24 : Below w2'.heap.size w2' w4 := hb3.trans (hb4.mono hz3)
  obtain ⟨w4', HW4⟩ : ∃ W, Hid (w4.alloc (.cells #[.string P, .string ⟨#[]⟩, .bool false, .string ⟨#[]⟩, .string ⟨#[]⟩] 33) = W) := ⟨_, rfl⟩
  have q4 : Below w4.heap.size w4 w4' := by rw [← HW4.out]; exact below1 w4 _
  have q24' : Below w2'.heap.size w2' w4' := q24.trans (q4.mono q24.size)
  have HA2 : Hid (ArgS w4' v2 (unfr m).1) := ((strs_argsU HS2.out (by omega)).below q2).below q24'
  have HA4 : Hid (ArgS w4' v4 (unfr m).1) := (strs_argsU S4 (by omega)).below q4
  clear S4
  go_wp2_with fail
  rw [HW4.out]
  refine (sameT v2 v4 (unfr m).1 _ HA2.out HA4.out).mono ?_
  rintro e w5 ⟨rfl, hb5⟩
  have q25 : Below w2'.heap.size w2' w5 := q24'.trans (hb5.mono q24'.size)
  have hz5 := q25.size
  have g5 : Below w.heap.size w w5 := g2'.trans (q25.mono g2'.size)
  clear q24 q24' hb3 hb4 hb5 q4 HA2 HA4 hz3 hz4
  go_wp2_with fail
  refine (drawCompact _ D _ (HD.out.below g5)).mono ?_
  rw [HD2.out.1, HD2.out.2.1, HD2.out.2.2.1, HD2.out.2.2.2.1, HD2.out.2.2.2.2, Hn.out, HR.out]
  rintro e w6 ⟨⟨v6, rfl, S6⟩, hb6⟩
  have q26 : Below w2'.heap.size w2' w6 := q25.trans (hb6.mono q25.size)
  have hz6 := hb6.size
  have g6 : Below w.heap.size w w6 := g5.trans (hb6.mono g5.size)
  have HS6 : Hid (Strs w6 w5.heap.size v6 R) := S6
  obtain ⟨w6', HW6⟩ : ∃ W, Hid (w6.alloc (.cells #[.string m2, .string l2, .bool h2, .string t2, .string x2] 33) = W) := ⟨_, rfl⟩
  have q6 : Below w6.heap.size w6 w6' := by rw [← HW6.out]; exact below1 w6 _
  have hz6' : w6'.heap.size = w6.heap.size + 1 := by rw [← HW6.out]; simp
  have q26' : Below w2'.heap.size w2' w6' := q26.trans (q6.mono q26.size)
  clear S6
  obtain ⟨aR, cR, hv6, hc6⟩ : ∃ a c, v6 = .slice a R.length c ∧ ∀ i (hi : i < R.length), ∃ g, a = some ⟨g, 0, none⟩ ∧ w5.heap.size ≤ g ∧ g < w6.heap.size ∧ w6.cell? ⟨g, i, none⟩ = some (.string R[i]) := by
    rcases HS6.out.cases with ⟨rfl, hR0⟩ | ⟨g, cap, rfl, hg⟩
    · rw [hR0]; exact ⟨_, _, rfl, fun i hi => absurd hi (by simp)⟩
    · exact ⟨_, _, rfl, fun i hi => ⟨g, rfl, hg.lo, hg.lt, hg.cell i hi⟩⟩
  subst hv6
  obtain ⟨W, HW⟩ : ∃ W, Hid (w6'.alloc (.cells #[.string P, .string ⟨#[]⟩, .bool false, .string ⟨#[]⟩, .string ⟨#[]⟩] 33) = W) := ⟨_, rfl⟩
  have qW : Below w6'.heap.size w6' W := by rw [← HW.out]; exact below1 w6' _
  have hzW : W.heap.size = w6'.heap.size + 1 := by rw [← HW.out]; simp
  have q2W : Below w2'.heap.size w2' W := q26'.trans (qW.mono q26'.size)
  have HST : Hid (∀ n, SynSt w w1.heap.size w2.heap.size w6'.heap.size W.heap.size aR R W v2 (mK P R n 0) (oK R n 0) (wK (unfr m).1 R n 0)) := by
    intro n
    obtain ⟨e1, e2, e3⟩ := start_K P (unfr m).1 R n
    rw [e1, e2, e3]
    refine ⟨g2'.trans (q2W.mono g2'.size), hz1, ⟨by omega, by omega, hz2⟩, by rw [← HW.out]; exact diskAt_new w6' _ _ _ _ _ _, fun o => by rw [← HW.out]; exact World.frozen?_alloc_at _ _ _ _ rfl, fun i hi => ?_, strs_below HS2.out (q2.trans (q2W.mono q2.size)) (Nat.le_refl _), fun g hg => .inl (strs_own HS2.out g hg), Nat.le_refl _⟩
    obtain ⟨g, k1, k2, k3, k4⟩ := hc6 i hi
    exact ⟨g, k1, by omega, by omega, by omega, ((q6.trans (qW.mono q6.size)).cell (p := ⟨g, i, none⟩) k3).trans k4⟩
  clear hc6 HS6 HS2 hb6 q25 hz5 g5 hb1 hb2
  go_upto_if 63 with fail
  rw [HW6.out]
  go_cut [11] (fun nv wx => ∃ nn : Nat, nn ≤ 4 ∧ nv = .int .i64 nn ∧ wx = w6')
  case first =>
    by_cases hn : n0 < 0
    · go_wp2_with fail
      go_meet
      exact ⟨0, by decide, rfl, rfl⟩
    · go_wp2_with fail
      go_meet
      refine ⟨n0.toNat, by omega, ?_, rfl⟩
      rw [Int.toNat_of_nonneg (by omega)]
  case rest =>
  obtain ⟨n, hn4, rfl, hwc⟩ := hcut
  rw [hwc]
  clear hwc
  have HST0 : Hid (SynSt w w1.heap.size w2.heap.size w6'.heap.size W.heap.size aR R W v2 (mK P R n 0) (oK R n 0) (wK (unfr m).1 R n 0)) := HST.out n
  clear HST Hn hnb
  obtain ⟨c0, c1, c2, c3, c4⟩ := HDf.out.below q26' hz2'
  clear hzW hz6'
  go_wp2_with fail
  clear c0 c1 c2 c3 c4
  rw [HW.out]
  obtain ⟨i0, hi, hz0, hz1', hz2t⟩ := info_parts infoStr
  have hPs : P.size ≤ 40132 := by rw [← HP.out, ByteArray.size_extract]; omega
  have hul : (unfr m).1.length ≤ 40132 := by have := unfr_len m; omega
  obtain ⟨old, HOld⟩ : ∃ old, Hid ((unfr m).1 = old) := ⟨_, rfl⟩
  rw [HOld.out] at HST0 hul
  obtain ⟨lo, p, bd, z, HN⟩ : ∃ lo p bd z, Hid (w1.heap.size = lo ∧ w2.heap.size = p ∧ w6'.heap.size = bd ∧ W.heap.size = z) := ⟨_, _, _, _, rfl, rfl, rfl, rfl⟩
  rw [HN.out.1, HN.out.2.1, HN.out.2.2.1, HN.out.2.2.2] at HST0
  rw [HN.out.2.2.1]
  go_loopw [12, 15, 16, 68] (fun v _ _ i wr => ∃ k : Nat, k ≤ R.length ∧ i = .int .i64 k ∧ Hid (SynSt w lo p bd z aR R wr v (mK P R n k) (oK R n k) (wK old R n k))) (fun _ _ _ i _ => R.length - (intOf i).toNat)
  case atStart => exact ⟨0, Nat.zero_le _, rfl, HST0⟩
  case round =>
    obtain ⟨k, hk, rfl, HS⟩ := hrel
    have hwl : (wK old R n k).length ≤ 40160 := by
      unfold wK
      have h1 : ((R.take (min k n)).filter (fun p => p.size ≤ 8000)).length ≤ 20 := Nat.le_trans (List.length_filter_le _ _) (by simp; omega)
      rw [List.length_append]; omega
    by_cases hkl : k < R.length
    · have sM : (mK P R n k).size ≤ 200400 := by
        have h1 := framesB_le R (aN n k) hRl HRs.out 0
        rw [List.drop_zero] at h1
        unfold mK; rw [ByteArray.size_append]; omega
      have sO : (oK R n k).size ≤ 160180 := framesB_le R k hRl HRs.out (aN n k)
      have sY : R[k].size ≤ 8001 := HRs.out _ (List.getElem_mem hkl)
      have HE1 := oK_app R n k hkl
      have HE2 : Hid (k + 1 = n → mK P R n k ++ framesB ((R.take (k + 1)).drop (aN n k)) = mK P R n (k + 1) ∧ oK R n (k + 1) = ⟨#[]⟩) := step_sync P R n k
      have HE3 : Hid (k + 1 ≠ n → mK P R n (k + 1) = mK P R n k ∧ oK R n (k + 1) = framesB ((R.take (k + 1)).drop (aN n k))) := step_plain P R n k
      have HE4 : Hid (k < n → R[k].size ≤ 8000 → wK old R n (k + 1) = wK old R n k ++ [R[k]]) := wK_yes old R n k hkl
      have HE5 : Hid (n ≤ k ∨ 8000 < R[k].size → wK old R n (k + 1) = wK old R n k) := wK_no old R n k hkl
      have sO1 : (framesB ((R.take (k + 1)).drop (aN n k))).size ≤ 160180 := framesB_le R (k + 1) hRl HRs.out (aN n k)
      obtain ⟨g, hag, _, _, _, hgc⟩ := HS.out.recs k hkl
      obtain ⟨M0, HM0⟩ : ∃ M0, Hid (mK P R n k = M0) := ⟨_, rfl⟩
      obtain ⟨O0, HO0⟩ : ∃ O0, Hid (oK R n k = O0) := ⟨_, rfl⟩
      obtain ⟨O1, HO1⟩ : ∃ O1, Hid (framesB ((R.take (k + 1)).drop (aN n k)) = O1) := ⟨_, rfl⟩
      obtain ⟨acc, HAc⟩ : ∃ acc, Hid (wK old R n k = acc) := ⟨_, rfl⟩
      rw [HM0.out] at sM HE2 HE3 HS
      rw [HO0.out] at sO HE1 HS
      rw [HAc.out] at HS HE4 HE5 hwl
      rw [HO1.out] at sO1 HE1 HE2 HE3
      generalize R[k] = Y at sY HE1 HE4 HE5 hgc
      have HE1' : Hid (O0 ++ frameB Y = O1) := HE1
      clear HE1
      obtain ⟨c0, c1, c2, c3, c4⟩ := HS.out.dsk
      subst hag
      go_wp2_with fail
      clear c0 c1 c2 c3 c4
      refine (implAppend M0 O0 ⟨#[]⟩ ⟨#[]⟩ Y false _ (by omega) (by omega) (tab_below HT.out HS.out.bel)).mono ?_
      rw [HE1'.out]
      rintro e w8 ⟨rfl, hb8⟩
      have HS8 : Hid (SynSt w lo p bd z (some ⟨g, 0, none⟩) R w8 u12 M0 O0 acc) := HS.out.call hb8
      have HS9 : Hid (SynSt w lo p bd z (some ⟨g, 0, none⟩) R (set5 w8 bd M0 O1 false ⟨#[]⟩ ⟨#[]⟩) u12 M0 O1 acc) := HS8.out.set5 M0 O1
      clear hgc HS
      obtain ⟨c0, c1, c2, c3, c4⟩ := HS8.out.dsk
      have f0 := HS8.out.fr
      go_upto_region 17 with fail
      clear c0 c1 c2 c3 c4 f0
      obtain ⟨w9, H9⟩ : ∃ w9, Hid (set5 w8 bd M0 O1 false ⟨#[]⟩ ⟨#[]⟩ = w9) := ⟨_, rfl⟩
      have hw9 : set5 w8 bd M0 O1 false ⟨#[]⟩ ⟨#[]⟩ = w9 := H9.out
      rw [hw9] at HS9
      unfold set5 at hw9
      rw [hw9]
      clear hw9 H9 HS8 hb8
      by_cases hkn : k < n
      · have hkni : (k : Int) < (n : Int) := by omega
        by_cases hY : Y.size ≤ 8000
        · have hYi : (Y.size : Int) ≤ 8000 := by omega
          have hown0 : w9.ownsRow lo 9 1 u12 acc.length (acc.map Value.string) := HS9.out.own
          have hlo9 : lo ≤ w9.heap.size := by have := HS9.out.hbd; have := HS9.out.sz; omega
          go_upto_region 18 with fail
          go_wp2_with (at_builtin; refine wpList_append_lies _ rfl _ _ 34 rfl lo 9 i0 (.string ⟨#[]⟩) 1 16 Tryd.underlying34 hi hz0 hz1' hz2t rfl (by decide) _ _ _ rfl (hown0.alloc _) ⟨w9.heap.size, 0, none⟩ 1 1 [.string Y] rfl rfl ?c1 ?c2 ?c3 ?c4 ?c5 ?c6 (w9.heap.size + 1) ?c7 ?_)
          case c1 =>
            intro j u hj
            match j, hj with
            | 0, hj =>
              simp at hj; subst hj
              simp only [Addr.add, if_pos]
              exact World.cell?_alloc_mark w9 _ _ _ 0
          case c2 => intro u hu; simp at hu; subst hu; rfl
          case c3 => decide
          case c4 => unfold maxLen; omega
          case c5 => omega
          case c6 => simp; omega
          case c7 => simp
          intro g' cap' w10 hown hgrow hat hlt10
          have HS10 : Hid (SynSt w lo p bd z (some ⟨g, 0, none⟩) R w10 (.slice (some ⟨g', 0, none⟩) (acc.length + 1) cap') M0 O1 (acc ++ [Y])) := HS9.out.grow hown hgrow hat
          clear hown hgrow hat hlt10 hown0
          by_cases hs : k + 1 = n
          · have hsi : (k : Int) = (n : Int) - 1 := by omega
            obtain ⟨c0, c1, c2, c3, c4⟩ := HS10.out.dsk
            go_wp2_with fail
            clear c0 c1 c2 c3 c4
            refine (implSync M0 O1 ⟨#[]⟩ ⟨#[]⟩ false _ (by omega) (by omega)).mono ?_
            rintro e w11 ⟨rfl, hb11⟩
            have HS11 : Hid (SynSt w lo p bd z (some ⟨g, 0, none⟩) R w11 (.slice (some ⟨g', 0, none⟩) (acc.length + 1) cap') M0 O1 (acc ++ [Y])) := HS10.out.call hb11
            have HS12 : Hid (SynSt w lo p bd z (some ⟨g, 0, none⟩) R (set5 w11 bd (M0 ++ O1) ⟨#[]⟩ false ⟨#[]⟩ ⟨#[]⟩) (.slice (some ⟨g', 0, none⟩) (acc.length + 1) cap') (M0 ++ O1) ⟨#[]⟩ (acc ++ [Y])) := HS11.out.set5 (M0 ++ O1) ⟨#[]⟩
            obtain ⟨c0, c1, c2, c3, c4⟩ := HS11.out.dsk
            have f0 := HS11.out.fr
            go_wp2
            go_roundw
            case rel => exact ⟨k + 1, by omega, by go_num, by rw [← (HE2.out hs).1, (HE2.out hs).2, HE4.out hkn hY]; exact HS12⟩
            case measure => simp [intOf]; omega
          · have hsi : ¬ (k : Int) = (n : Int) - 1 := by omega
            go_wp2
            go_roundw
            case rel => exact ⟨k + 1, by omega, by go_num, by rw [(HE3.out hs).1, (HE3.out hs).2, HE4.out hkn hY]; exact HS10⟩
            case measure => simp [intOf]; omega
        · have hYi : ¬ (Y.size : Int) ≤ 8000 := by omega
          by_cases hs : k + 1 = n
          · have hsi : (k : Int) = (n : Int) - 1 := by omega
            obtain ⟨c0, c1, c2, c3, c4⟩ := HS9.out.dsk
            go_wp2_with fail
            clear c0 c1 c2 c3 c4
            refine (implSync M0 O1 ⟨#[]⟩ ⟨#[]⟩ false _ (by omega) (by omega)).mono ?_
            rintro e w11 ⟨rfl, hb11⟩
            have HS11 : Hid (SynSt w lo p bd z (some ⟨g, 0, none⟩) R w11 u12 M0 O1 acc) := HS9.out.call hb11
            have HS12 : Hid (SynSt w lo p bd z (some ⟨g, 0, none⟩) R (set5 w11 bd (M0 ++ O1) ⟨#[]⟩ false ⟨#[]⟩ ⟨#[]⟩) u12 (M0 ++ O1) ⟨#[]⟩ acc) := HS11.out.set5 (M0 ++ O1) ⟨#[]⟩
            obtain ⟨c0, c1, c2, c3, c4⟩ := HS11.out.dsk
            have f0 := HS11.out.fr
            go_wp2
            go_roundw
            case rel => exact ⟨k + 1, by omega, by go_num, by rw [← (HE2.out hs).1, (HE2.out hs).2, HE5.out (.inr (by omega))]; exact HS12⟩
            case measure => simp [intOf]; omega
          · have hsi : ¬ (k : Int) = (n : Int) - 1 := by omega
            go_wp2
            go_roundw
            case rel => exact ⟨k + 1, by omega, by go_num, by rw [(HE3.out hs).1, (HE3.out hs).2, HE5.out (.inr (by omega))]; exact HS9⟩
            case measure => simp [intOf]; omega
      · have hkni : ¬ (k : Int) < (n : Int) := by omega
        have hs : k + 1 ≠ n := by omega
        have hsi : ¬ (k : Int) = (n : Int) - 1 := by omega
        go_wp2
        go_roundw
        case rel => exact ⟨k + 1, by omega, by go_num, by rw [(HE3.out hs).1, (HE3.out hs).2, HE5.out (.inl (by omega))]; exact HS9⟩
        case measure => simp [intOf]; omega
    · obtain rfl : k = R.length := by omega
      have sM : (mK P R n R.length).size ≤ 200400 := by
        have h1 := framesB_le R (aN n R.length) hRl HRs.out 0
        rw [List.drop_zero] at h1
        unfold mK; rw [ByteArray.size_append]; omega
      have sO : (oK R n R.length).size ≤ 160180 := framesB_le R R.length hRl HRs.out (aN n R.length)
      have HE6 : Hid (n ≤ R.length → mK P R n R.length = P ++ framesB (R.take n) ∧ oK R n R.length = framesB (R.drop n)) := end_plain P R n
      have HE7 : Hid (R.length < n → mK P R n R.length ++ oK R n R.length = P ++ framesB (R.take n) ∧ framesB (R.drop n) = ⟨#[]⟩) := end_sync P R n
      rw [wK_end] at HS hwl
      obtain ⟨M0, HM0⟩ : ∃ M0, Hid (mK P R n R.length = M0) := ⟨_, rfl⟩
      obtain ⟨O0, HO0⟩ : ∃ O0, Hid (oK R n R.length = O0) := ⟨_, rfl⟩
      obtain ⟨acc, HAc⟩ : ∃ acc, Hid (old ++ (R.take n).filter (fun p => p.size ≤ 8000) = acc) := ⟨_, rfl⟩
      rw [HM0.out] at sM HE6 HE7 HS
      rw [HO0.out] at sO HE6 HE7 HS
      rw [HAc.out] at HS hwl
      go_upto_if 98 with fail
      go_cut [] (fun wx => Hid (SynSt w lo p bd z aR R wx u12 (P ++ framesB (R.take n)) (framesB (R.drop n)) acc))
      case first =>
        by_cases hnl : R.length < n
        · have hnli : (R.length : Int) < (n : Int) := by omega
          obtain ⟨c0, c1, c2, c3, c4⟩ := HS.out.dsk
          go_wp2_with fail
          clear c0 c1 c2 c3 c4
          refine (implSync M0 O0 ⟨#[]⟩ ⟨#[]⟩ false _ (by omega) (by omega)).mono ?_
          rintro e w11 ⟨rfl, hb11⟩
          have HS11 : Hid (SynSt w lo p bd z aR R w11 u12 M0 O0 acc) := HS.out.call hb11
          have HS12 : Hid (SynSt w lo p bd z aR R (set5 w11 bd (M0 ++ O0) ⟨#[]⟩ false ⟨#[]⟩ ⟨#[]⟩) u12 (M0 ++ O0) ⟨#[]⟩ acc) := HS11.out.set5 (M0 ++ O0) ⟨#[]⟩
          obtain ⟨c0, c1, c2, c3, c4⟩ := HS11.out.dsk
          have f0 := HS11.out.fr
          go_wp2_with fail
          go_meet
          rw [← (HE7.out hnl).1, (HE7.out hnl).2]
          exact HS12
        · have hnli : ¬ (R.length : Int) < (n : Int) := by omega
          go_wp2_with fail
          go_meet
          rw [← (HE6.out (by omega)).1, ← (HE6.out (by omega)).2]
          exact HS
      case rest =>
      have HSr : Hid (SynSt w lo p bd z aR R wc u12 (P ++ framesB (R.take n)) (framesB (R.drop n)) acc) := hcut
      obtain ⟨wm, hwm⟩ : ∃ wm, wc = wm := ⟨_, rfl⟩
      rw [hwm] at HSr
      rw [hwm]
      clear hcut hwm wc
      go_upto_if 103 with fail
      go_cut [17] (fun kv wx => ∃ q : Nat, q ≤ 255 ∧ kv = .int .i64 q ∧ wx = wm)
      case first =>
        by_cases hDn : D = []
        · subst hDn
          go_wp2_with fail
          go_meet
          exact ⟨0, by decide, rfl, rfl⟩
        · have hD0 : ¬ D.length = 0 := fun e => hDn (List.eq_nil_of_length_eq_zero e)
          have hD0i : (0 : Int) < (D.length : Int) := by omega
          obtain ⟨gd, od, had, hgd, hcd⟩ : ∃ gd od, da = some ⟨gd, od, none⟩ ∧ gd < w.heap.size ∧ w.cell? ⟨gd, od + (D.length - 1), none⟩ = some (.int .u8 (D[D.length - 1]'(by omega)).toNat) := by
            rcases HD.out.2 with ⟨h0, _⟩ | ⟨gd, od, cap, hv, hlt, hc⟩
            · exact absurd (by rw [h0]; rfl) hD0
            · simp only [Value.slice.injEq] at hv
              exact ⟨gd, od, hv.1, hlt, hc (D.length - 1) (by omega)⟩
          subst had
          have hcd' : wm.cell? ⟨gd, od + (D.length - 1), none⟩ = some (.int .u8 (D[D.length - 1]'(by omega)).toNat) := (HSr.out.bel.cell (p := ⟨gd, od + (D.length - 1), none⟩) hgd).trans hcd
          have hby := (D[D.length - 1]'(by omega)).toNat_lt
          generalize (D[D.length - 1]'(by omega)).toNat = q at hcd' hcd hby
          go_wp2_with fail
          go_meet
          exact ⟨q, by omega, rfl, rfl⟩
      case rest =>
      obtain ⟨q, hq, rfl, hwc⟩ := hcut
      rw [hwc]
      clear hwc
      go_upto_block 2 with fail
      obtain ⟨R2, HR2⟩ : ∃ R2, Hid (R.drop n = R2) := ⟨_, rfl⟩
      have hR2l : R2.length = R.length - n := by rw [← HR2.out, List.length_drop]
      have HR2g : Hid (∀ c (h : c < R2.length) (h2 : n + c < R.length), R[n + c] = R2[c]) := by
        intro c h h2
        have e := HR2.out
        subst e
        rw [List.getElem_drop]
      go_cut [12, 14, 18, 19] (fun v _ _ _ wx => ∃ j : Nat, Hid (KeepEnd R2 q j) ∧ Hid (SynSt w lo p bd z aR R wx v (P ++ framesB (R.take n)) (framesB (R.drop n)) (wK acc R2 R2.length j)))
      case first =>
        go_wp2_with fail
        go_loopw [12, 14, 18, 19] (fun v kp i _ wr => ∃ c t K : Nat, c ≤ R2.length ∧ Hid (t = n + c) ∧ Hid ((framesL (R2.take c)).length = K) ∧ K ≤ q ∧ i = .int .i64 (t : Int) ∧ kp = .int .i64 (K : Int) ∧ Hid (SynSt w lo p bd z aR R wr v (P ++ framesB (R.take n)) (framesB (R.drop n)) (wK acc R2 R2.length c))) (fun _ _ i _ _ => R.length - (intOf i).toNat)
        case atStart => exact ⟨0, n, 0, Nat.zero_le _, rfl, rfl, Nat.zero_le _, rfl, rfl, by rw [(start_K P acc R2 R2.length).2.2]; exact HSr⟩
        case round =>
          obtain ⟨c, t, K, hc, Htc, HK, hKq, rfl, rfl, HSc⟩ := hrel
          have htc := Htc.out
          by_cases htl : t < R.length
          · have hcl : c < R2.length := by omega
            have hYe : R[t] = R2[c] := by
              have e := HR2g.out c hcl (by omega)
              rw [← e]
              congr 1
            obtain ⟨g, hag, _, _, _, hgc⟩ := HSc.out.recs t htl
            have sY : R[t].size ≤ 8001 := HRs.out _ (List.getElem_mem htl)
            have HM1 : Hid ((framesL (R2.take (c + 1))).length = (framesL (R2.take c)).length + (frameB R2[c]).size) := framesL_more R2 c hcl
            have HM2 : Hid (q < (framesL (R2.take c)).length + (frameB R2[c]).size → KeepEnd R2 q c) := fun hq2 => ⟨hc, by rw [HK.out]; exact hKq, .inr ⟨hcl, by rw [← frameB_len]; exact hq2⟩⟩
            have HM4 : Hid (c < R2.length → R2[c].size ≤ 8000 → wK acc R2 R2.length (c + 1) = wK acc R2 R2.length c ++ [R2[c]]) := wK_yes acc R2 R2.length c hcl
            have HM5 : Hid (R2.length ≤ c ∨ 8000 < R2[c].size → wK acc R2 R2.length (c + 1) = wK acc R2 R2.length c) := wK_no acc R2 R2.length c hcl
            have hwl2 : (wK acc R2 R2.length c).length ≤ 40180 := by
              unfold wK
              have h1 : ((R2.take (min c R2.length)).filter (fun p => p.size ≤ 8000)).length ≤ 20 := Nat.le_trans (List.length_filter_le _ _) (by simp; omega)
              rw [List.length_append]; omega
            rw [← hYe, HK.out] at HM1 HM2
            rw [← hYe] at HM4 HM5
            obtain ⟨acc2, HAc2⟩ : ∃ acc2, Hid (wK acc R2 R2.length c = acc2) := ⟨_, rfl⟩
            rw [HAc2.out] at HSc HM4 HM5 hwl2
            generalize R[t] = Y at sY HM1 HM2 HM4 HM5 hgc hYe
            have hpos := frameB_pos Y
            obtain ⟨F, HFe⟩ : ∃ F, Hid ((frameB Y).size = F) := ⟨_, rfl⟩
            have hFs : F ≤ 1048576 := by
              have h1 := frame_le Y.data.toList
              have h2 : Y.data.toList.length = Y.size := rfl
              rw [← HFe.out, frameB_len]; omega
            rw [HFe.out] at hpos HM1 HM2
            have HM4' : Hid (0 < F → wK acc R2 R2.length (c + 1) = acc2 ++ [Y]) := fun h0 => HM4.out hcl (hpos.1 h0)
            have HM5' : Hid (¬ 0 < F → wK acc R2 R2.length (c + 1) = acc2) := fun h0 => HM5.out (.inr (by have := mt hpos.2 h0; omega))
            have HtN : Hid (t + 1 = n + (c + 1)) := by show _ = _; omega
            subst hag
            clear hYe hpos HM4 HM5 htc
            go_wp2_with fail
            refine (specFrame Y _ (by omega)).mono ?_
            rintro e w8 ⟨rfl, hb8⟩
            have HS8 : Hid (SynSt w lo p bd z (some ⟨g, 0, none⟩) R w8 u12 (P ++ framesB (R.take n)) (framesB (R.drop n)) acc2) := HSc.out.call hb8
            have hgc8 : w8.cell? ⟨g, t, none⟩ = some (.string Y) := (hb8.cell (p := ⟨g, t, none⟩) (World.block_lt_of_cell? _ _ hgc)).trans hgc
            clear hgc hb8 HSc
            obtain ⟨fY, HfY⟩ : ∃ fY, Hid (frameB Y = fY) := ⟨_, rfl⟩
            rw [HfY.out] at HFe ⊢
            have hfF : fY.size = F := HFe.out
            by_cases hbr : q < K + F
            · have hbri : (q : Int) < (K : Int) + (F : Int) := by omega
              have HKE : Hid (KeepEnd R2 q c) := HM2.out hbr
              clear hR2l
              go_wp2_with fail
              go_meet
              exact ⟨c, HKE, by rw [HAc2.out]; exact HS8⟩
            · have hbri : ¬ (q : Int) < (K : Int) + (F : Int) := by omega
              by_cases hF0 : 0 < F
              · have hF0i : (0 : Int) < (F : Int) := by omega
                have hown0 : w8.ownsRow lo 9 1 u12 acc2.length (acc2.map Value.string) := HS8.out.own
                have hlo8 : lo ≤ w8.heap.size := by have := HS8.out.hbd; have := HS8.out.sz; omega
                go_wp2_with (at_builtin; refine wpList_append_lies _ rfl _ _ 34 rfl lo 9 i0 (.string ⟨#[]⟩) 1 16 Tryd.underlying34 hi hz0 hz1' hz2t rfl (by decide) _ _ _ rfl (hown0.alloc _) ⟨w8.heap.size, 0, none⟩ 1 1 [.string Y] rfl rfl ?c1 ?c2 ?c3 ?c4 ?c5 ?c6 (w8.heap.size + 1) ?c7 ?_)
                case c1 =>
                  intro j u hj
                  match j, hj with
                  | 0, hj =>
                    simp at hj; subst hj
                    simp only [Addr.add, if_pos]
                    exact World.cell?_alloc_mark w8 _ _ _ 0
                case c2 => intro u hu; simp at hu; subst hu; rfl
                case c3 => decide
                case c4 => unfold maxLen; omega
                case c5 => omega
                case c6 => simp; omega
                case c7 => simp
                intro g' cap' w10 hown hgrow hat hlt10
                have HS10 : Hid (SynSt w lo p bd z (some ⟨g, 0, none⟩) R w10 (.slice (some ⟨g', 0, none⟩) (acc2.length + 1) cap') (P ++ framesB (R.take n)) (framesB (R.drop n)) (acc2 ++ [Y])) := HS8.out.grow hown hgrow hat
                clear hown hgrow hat hlt10 hown0 hgc8
                go_wp2
                go_roundw
                case rel => exact ⟨c + 1, t + 1, K + F, by omega, HtN, HM1.out, by omega, by go_num, by go_num, by rw [HM4'.out hF0]; exact HS10⟩
                case measure => simp [intOf]; omega
              · have hF0i : ¬ (0 : Int) < (F : Int) := by omega
                go_wp2
                go_roundw
                case rel => exact ⟨c + 1, t + 1, K + F, by omega, HtN, HM1.out, by omega, by go_num, by go_num, by rw [HM5'.out hF0]; exact HS8⟩
                case measure => simp [intOf]; omega
          · have hce : c = R2.length := by omega
            have HKE : Hid (KeepEnd R2 q c) := ⟨hc, by rw [HK.out]; exact hKq, .inl hce⟩
            clear htc hce hR2l
            go_wp2_with fail
            go_meet
            exact ⟨c, HKE, HSc⟩
      case rest =>
      obtain ⟨j, HKE, HSe⟩ := hcut
      have hcr := crashed m R n q j (by rw [HR2.out]; exact HKE.out)
      rw [HP.out, HOld.out, HAc.out, HR2.out] at hcr
      have sM2 : (P ++ framesB (R.take n)).size ≤ 200400 := by
        have h1 := framesB_le R n hRl HRs.out 0
        rw [List.drop_zero] at h1
        rw [ByteArray.size_append]; omega
      have sO2 : (framesB R2).size ≤ 160180 := by
        have h1 := framesB_le R R.length hRl HRs.out n
        rw [List.take_length, HR2.out] at h1
        exact h1
      rw [HR2.out] at HSe
      obtain ⟨M1, HM1⟩ : ∃ M1, Hid (P ++ framesB (R.take n) = M1) := ⟨_, rfl⟩
      obtain ⟨O1, HO1⟩ : ∃ O1, Hid (framesB R2 = O1) := ⟨_, rfl⟩
      obtain ⟨Lw, HLw⟩ : ∃ Lw, Hid (wK acc R2 R2.length j = Lw) := ⟨_, rfl⟩
      rw [HM1.out] at HSe hcr sM2
      rw [HO1.out] at HSe hcr sO2
      rw [HLw.out] at HSe hcr
      have sk := keepB_size O1 (q : Int)
      obtain ⟨S, HSs⟩ : ∃ S, Hid (M1 ++ keepB O1 (q : Int) = S) := ⟨_, rfl⟩
      have sS : S.size ≤ 400000 := by rw [← HSs.out, ByteArray.size_append]; omega
      rw [HSs.out] at hcr
      obtain ⟨E, HEe⟩ : ∃ E, Hid (framesB (old ++ R.take n ++ R2.take j) = E) := ⟨_, rfl⟩
      have hue := unfr_framesB (old ++ R.take n ++ R2.take j)
      rw [hcr.2.2, HEe.out] at hue
      rw [HEe.out] at hcr
      have HU : Hid ((unfr S).1 = Lw ∧ S.extract 0 (unfr S).2 = E) := ⟨hcr.1, hcr.2.1⟩
      have HU2 : Hid ((unfr E).1 = Lw ∧ E.extract 0 (unfr E).2 = E) := ⟨by rw [hue], by rw [hue]; exact extract_all E⟩
      have sE : E.size ≤ 400000 := by rw [← HU.out.2, ByteArray.size_extract]; omega
      have HLs : Hid (Lw.length ≤ maxLen ∧ ∀ s ∈ Lw, s.size ≤ maxLen) := by
        rw [← HU.out.1]
        exact ⟨by have := unfr_len S; unfold maxLen; omega, fun p hp => by have := unfr_sizes S p hp; unfold maxLen; omega⟩
      clear hcr hue sk hR2l
      obtain ⟨c0, c1, c2, c3, c4⟩ := HSe.out.dsk
      go_wp2_with fail
      clear c0 c1 c2 c3 c4
      refine (implCrash M1 O1 ⟨#[]⟩ ⟨#[]⟩ false _ _ _ (by omega) (by omega) (Nat.zero_le _) (Nat.zero_le _)).mono ?_
      rw [keepB_zero, append_none, HSs.out]
      rintro e w9 ⟨rfl, hb9⟩
      have HS9 : Hid (SynSt w lo p bd z aR R w9 u12 M1 O1 Lw) := HSe.out.call hb9
      clear hb9
      go_wp2_with fail
      refine (implMount S ⟨#[]⟩ ⟨#[]⟩ ⟨#[]⟩ false _ (by omega) (tab_below HT.out HS9.out.bel)).mono ?_
      rw [HU.out.1, HU.out.2]
      rintro e w10 ⟨⟨v10, rfl, S10⟩, hb10⟩
      have HS10 : Hid (SynSt w lo p bd z aR R w10 u12 M1 O1 Lw) := HS9.out.call hb10
      have HA10 : Hid (ArgS w10 v10 Lw) := strs_args S10 HLs.out.1 HLs.out.2
      have HW10 : Hid (ArgS w10 u12 Lw) := strs_args HS10.out.own HLs.out.1 HLs.out.2
      have HB10 : Hid (Below w.heap.size w w10) := HS10.out.bel
      clear S10 hb10
      obtain ⟨W10, HWa⟩ : ∃ W, Hid (w10.alloc (.cells #[.string E, .string ⟨#[]⟩, .bool false, .string ⟨#[]⟩, .string ⟨#[]⟩] 33) = W) := ⟨_, rfl⟩
      have q10 : Below w10.heap.size w10 W10 := by rw [← HWa.out]; exact below1 w10 _
      have HDa : Hid (DiskAt W10 w10.heap.size E ⟨#[]⟩ false ⟨#[]⟩ ⟨#[]⟩) := by rw [← HWa.out]; exact diskAt_new w10 _ _ _ _ _ _
      have hz10 : w10.heap.size < W10.heap.size := by rw [← HWa.out]; simp
      have HBa : Hid (Below w.heap.size w W10) := HB10.out.trans (q10.mono HB10.out.size)
      go_upto_region 36 with fail
      rw [HWa.out]
      obtain ⟨c0, c1, c2, c3, c4⟩ := HDa.out
      go_wp2_with fail
      clear c0 c1 c2 c3 c4
      refine (implMount E ⟨#[]⟩ ⟨#[]⟩ ⟨#[]⟩ false _ (by omega) (tab_below HT.out HBa.out)).mono ?_
      rw [HU2.out.1, HU2.out.2]
      rintro e w11 ⟨⟨v11, rfl, S11⟩, hb11⟩
      have q11 : Below w10.heap.size w10 w11 := q10.trans (hb11.mono q10.size)
      have HA11 : Hid (ArgS w11 v11 Lw) := strs_args S11 HLs.out.1 HLs.out.2
      have HD11 : Hid (DiskAt w11 w10.heap.size E ⟨#[]⟩ false ⟨#[]⟩ ⟨#[]⟩) := HDa.out.below hb11 hz10
      have hz11 : w10.heap.size < w11.heap.size := Nat.lt_of_lt_of_le hz10 hb11.size
      obtain ⟨W11, HWb⟩ : ∃ W, Hid (w11.alloc (.cells #[.string E, .string ⟨#[]⟩, .bool false, .string ⟨#[]⟩, .string ⟨#[]⟩] 33) = W) := ⟨_, rfl⟩
      have q11' : Below w11.heap.size w11 W11 := by rw [← HWb.out]; exact below1 w11 _
      have HDb : Hid (DiskAt W11 w11.heap.size E ⟨#[]⟩ false ⟨#[]⟩ ⟨#[]⟩) := by rw [← HWb.out]; exact diskAt_new w11 _ _ _ _ _ _
      have hz11' : w11.heap.size < W11.heap.size := by rw [← HWb.out]; simp
      have q1W : Below w10.heap.size w10 W11 := q11.trans (q11'.mono q11.size)
      have HX1 : Hid (ArgS W11 v10 Lw) := HA10.out.below q1W
      have HX2 : Hid (ArgS W11 u12 Lw) := HW10.out.below q1W
      have HX3 : Hid (ArgS W11 v11 Lw) := HA11.out.below q11'
      clear S11 hb11
      go_upto_region 37 with fail
      rw [HWb.out]
      go_wp2_with fail
      refine (sameT v10 u12 Lw _ HX1.out HX2.out).mono ?_
      rintro e w12 ⟨rfl, hb12⟩
      go_wp2_with fail
      refine (sameT v11 u12 Lw _ (HX3.out.below hb12) (HX2.out.below hb12)).mono ?_
      rintro e w13 ⟨rfl, hb13⟩
      have q13 : Below W11.heap.size W11 w13 := hb12.trans (hb13.mono hb12.size)
      have HR13 : Hid (Below w.heap.size w w13) := HB10.out.trans ((q1W.trans (q13.mono q1W.size)).mono HB10.out.size)
      obtain ⟨c0, c1, c2, c3, c4⟩ := HD11.out.below (q11'.trans (q13.mono q11'.size)) hz11
      obtain ⟨d0, d1, d2, d3, d4⟩ := HDb.out.below q13 hz11'
      go_wp2
      go_ret
      exact ⟨rfl, HR13.out⟩
end Go.Proofs.YticfnfplpccmgadDoor
