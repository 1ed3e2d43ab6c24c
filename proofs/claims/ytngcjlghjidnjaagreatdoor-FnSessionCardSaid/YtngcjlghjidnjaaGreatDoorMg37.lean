import Derived.Test.YtngcjlghjidnjaaGreatDoorMg36
import Derived.Test.YtngcjlghjidnjaaGreatDoorMg35
import Derived.Test.YtngcjlghjidnjaaGreatDoorMg32
import Derived.Test.YtngcjlghjidnjaaGreatDoorMg7
namespace Go.Proofs.YtngcjlghjidnjaaGreatDoor
open Go.ChangeShapes Go.WideShapes Go.ChangeAt Go.RowKit
attribute [local go_sem ↓] Go.wp_at_zero Go.wp_at_succ

set_option maxHeartbeats 4000000 in
set_option maxRecDepth 100000 in
theorem implRcptN (b : Nat) (w0 : World) (u1 u2 u3 : Value) (s : Sn) (t : ByteArray) (c : Nat) (v : Value) (L : List ByteArray) (lo : Nat) (w : World) (hl : LenIn w0) (hk : s.Ok) (h5 : s.ph = 5) (hz : t.size ≤ 700000000) (hS : Strs w lo v L) (h1 : 1 ≤ L.length) (h : DB b w0 u1 u2 u3 s t w) (hc : ¬ (c = 250 ∨ c = 251)) (hb1 : ((c : Int) == 250) = false) (hb2 : ((c : Int) == 251) = false) :
    Calls Tryz.prog 117 #[.pointer (some ⟨b, 0, none⟩), .agg #[.int .i64 (c : Int), v]] w fun e w' => DP b w0 u1 u2 u3 ((s.mark c (L.getD 0 ⟨#[]⟩)).next).1 (t ++ ((s.mark c (L.getD 0 ⟨#[]⟩)).next).2) w e w' := by
  have H : Hid (DB b w0 u1 u2 u3 s t w) := h
  obtain ⟨g1, g2, g3, k1, k2, k3, rfl, rfl, rfl⟩ := h.sv.some hk
  have HKo : Hid s.Ok := hk
  have mO : Hid ((s.mark c (L.getD 0 ⟨#[]⟩)).next.1.Ok) := hk.rcpt _ _ h5
  obtain ⟨m1, m2, m3, m4, m5, m6, m7, m8, m9⟩ := hk.mark c (L.getD 0 ⟨#[]⟩) h5
  have hn : s.nx < s.R.length := hk.n5 h5
  have hr20 : s.R.length ≤ 20 := hk.r20
  have hr1 : 1 ≤ s.R.length := hk.r1
  have HM0 : Hid ({ ({ s with V := s.V.set s.nx (refV c (L.getD 0 ⟨#[]⟩)) } : Sn) with nx := s.nx + 1 } = s.mark c (L.getD 0 ⟨#[]⟩)) := by
    show _ = _
    rw [Sn.mark, if_neg hc]
  have HN : Hid (∀ wx, Below w.heap.size w wx → Calls Tryz.prog 112 #[.agg #[.int .i64 (c : Int), v]] wx fun e w' => e = .returned (.agg #[.int .i64 (refV c (L.getD 0 ⟨#[]⟩)).1, .int .i64 (refV c (L.getD 0 ⟨#[]⟩)).2.1, .string (refV c (L.getD 0 ⟨#[]⟩)).2.2]) ∧ Below wx.heap.size wx w') := fun wx hb => implNo c v L lo wx (strs_below hS hb (Nat.le_refl _)) h1
  generalize hMe : s.mark c (L.getD 0 ⟨#[]⟩) = M at *
  generalize refV c (L.getD 0 ⟨#[]⟩) = Z at *
  have HM : Hid ({ ({ s with V := s.V.set s.nx Z } : Sn) with nx := s.nx + 1 } = M) := HM0
  have mR : Hid (M.R = s.R) := m5
  have mT : Hid (M.T.length = s.R.length) := m1
  have mP : Hid (M.ph = 5) := m4
  have HL : Hid (s.V.length = s.R.length) := hk.v
  have gb : g3 ≠ b := own_ne h.a3 g3 rfl
  have gl0 : g3 < w.heap.size := (h.sv.own.2.2 g3 rfl).2
  have bl : b < w.heap.size := h.blk.lt
  clear m1 m2 m3 m4 m5 m6 m7 m8 m9 hMe HM0 h hk h5 hS h1 hc
  have i0 : (0 : Int) ≤ (s.nx : Int) := by omega
  have i1 : (s.nx : Int) < (s.R.length : Int) := by omega
  go_enter Tryz.func117, Tryz.ntmps117
  go_upto_region 4 with fail
  generalize hW : World.alloc _ _ = W
  have b0 : Below w.heap.size w W := by rw [← hW]; exact below1 _ _
  have HB : Hid (Blk w.heap.size #[.int .i64 (c : Int), v] W) := by show Blk _ _ _; rw [← hW]; exact Blk.new _ _ _
  have HD : Hid (DB b w0 (.slice (some ⟨g1, 0, none⟩) s.R.length k1) (.slice (some ⟨g2, 0, none⟩) s.R.length k2) (.slice (some ⟨g3, 0, none⟩) s.R.length k3) s t W) := H.out.below b0
  have x8 : W.cell? ⟨b, 8, none⟩ = some (.slice (some ⟨g3, 0, none⟩) s.R.length k3) := HD.out.blk.cell 8
  have x6 : W.cell? ⟨b, 6, none⟩ = some (.int .i64 (s.nx : Int)) := HD.out.blk.cell 6
  have y0 : W.cell? ⟨w.heap.size, 0, none⟩ = some (.int .i64 (c : Int)) := HB.out.cell 0
  have y1 : W.cell? ⟨w.heap.size, 1, none⟩ = some v := HB.out.cell 1
  have n1 : ¬ b = g3 := fun e => gb e.symm
  have n2 : ¬ w.heap.size = g3 := by omega
  have n3 : ¬ g3 = b := gb
  have n4 : ¬ g3 = w.heap.size := by omega
  clear hW
  go_region_held3 (fun w' => w'.cell? ⟨b, 8, none⟩ = some (.slice (some ⟨g3, 0, none⟩) s.R.length k3) ∧ w'.cell? ⟨b, 6, none⟩ = some (.int .i64 (s.nx : Int)) ∧ w'.cell? ⟨w.heap.size, 0, none⟩ = some (.int .i64 (c : Int)) ∧ w'.cell? ⟨w.heap.size, 1, none⟩ = some v) (first | (simp only [e0, e1, e2, e3, and_self]; done) | go_keep) (first | (go_at_call 112; refine (HN.out _ (b0.trans (by repeat (first | exact Below.refl _ _ | refine Below.drew ?_)))).mono ?_; rintro e w3 ⟨rfl, hb3⟩; have HB3 : Hid (Below W.heap.size W w3) := ((Below.refl W.heap.size W).drew).trans hb3; have HD3 : Hid (DB b w0 (.slice (some ⟨g1, 0, none⟩) s.R.length k1) (.slice (some ⟨g2, 0, none⟩) s.R.length k2) (.slice (some ⟨g3, 0, none⟩) s.R.length k3) s t w3) := HD.out.below HB3.out; have e0 : w3.cell? ⟨b, 8, none⟩ = some (.slice (some ⟨g3, 0, none⟩) s.R.length k3) := HD3.out.blk.cell 8; have e1 : w3.cell? ⟨b, 6, none⟩ = some (.int .i64 (s.nx : Int)) := HD3.out.blk.cell 6; have e2 : w3.cell? ⟨w.heap.size, 0, none⟩ = some (.int .i64 (c : Int)) := (Blk.below HB.out HB3.out).cell 0; have e3 : w3.cell? ⟨w.heap.size, 1, none⟩ = some v := (Blk.below HB.out HB3.out).cell 1; obtain ⟨d0, d1, d2⟩ := HD3.out.sv.2.2.at.1.cell s.nx (by rw [HL.out]; exact hn); have f0 := HD3.out.sv.2.2.at.1.free (s.nx * 3); have f1 := HD3.out.sv.2.2.at.1.free (s.nx * 3 + 1); have f2 := HD3.out.sv.2.2.at.1.free (s.nx * 3 + 2); have pl3 := HD3.out.sv.2.2.at.1.lt; clear hb3))
  generalize hW5 : World.setCell (World.setCell (World.setCell w3 _ _) _ _) _ _ = W5
  have HD5 : Hid (DB b w0 (.slice (some ⟨g1, 0, none⟩) s.R.length k1) (.slice (some ⟨g2, 0, none⟩) s.R.length k2) (.slice (some ⟨g3, 0, none⟩) s.R.length k3) ({ s with V := s.V.set s.nx Z } : Sn) t W5) := by show DB _ _ _ _ _ _ _ _; rw [← hW5]; exact HD3.out.verd s.nx (by rw [HL.out]; exact hn) Z
  have HO5 : Hid (DO b (.slice (some ⟨g2, 0, none⟩) s.R.length k2) (.slice (some ⟨g3, 0, none⟩) s.R.length k3) w W5) := by show DO _ _ _ _ _; rw [← hW5]; exact ((((DO.of_below b0).trans (DO.of_below HB3.out)).trans (DO.put3 _ _)).trans (DO.put3 _ _)).trans (DO.put3 _ _)
  clear hW5 x8 x6 y0 y1 HD HB b0 e0 e1 e2 e3 d0 d1 d2 f0 f1 f2 pl3 HD3 HB3 HN n1 n2 n3 n4
  obtain ⟨c0, c1, c2, c3, c4, c5, c6, c7, c8, c9⟩ := HD5.out.cells
  obtain ⟨f0, f1, f6, f9⟩ := HD5.out.frees
  go_upto_region 7 with fail
  generalize hW6 : World.setCell W5 _ _ = W6
  clear c0 c1 c2 c3 c4 c5 c6 c7 c8 c9 f0 f1 f6 f9
  have HDM : Hid (DB b w0 (.slice (some ⟨g1, 0, none⟩) s.R.length k1) (.slice (some ⟨g2, 0, none⟩) s.R.length k2) (.slice (some ⟨g3, 0, none⟩) s.R.length k3) M t W6) := by
    show DB _ _ _ _ _ _ _ _
    rw [← hW6, ← HM.out]
    have := HD5.out.nx (s.nx + 1)
    rw [show ((s.nx : Int) + 1) = ((s.nx + 1 : Nat) : Int) from by omega]
    exact this
  have HO6 : Hid (DO b (.slice (some ⟨g2, 0, none⟩) s.R.length k2) (.slice (some ⟨g3, 0, none⟩) s.R.length k3) w W6) := by show DO _ _ _ _ _; rw [← hW6]; exact HO5.out.put 6 _
  clear hW6 HD5 HO5 HM
  have bl6 : b < W6.heap.size := HDM.out.blk.lt
  obtain ⟨c0, c1, c2, c3, c4, c5, c6, c7, c8, c9⟩ := HDM.out.cells
  by_cases hlt : M.nx < s.R.length
  · have HE : Hid (M.next = (M, cmdB 4 (M.R.getD M.nx ⟨#[]⟩)) ∧ M = M.to 5) := by
      refine ⟨?_, ?_⟩
      · unfold Sn.next; rw [mR.out, if_pos hlt]
      · unfold Sn.to; rw [← mP.out]
    have hkM : Hid M.Ok := by
      have := mO.out
      rw [HE.out.1] at this
      exact this
    have hlt' : Hid (M.nx < M.R.length) := by show _ < _; rw [mR.out]; exact hlt
    go_region
    go_wp2_with fail
    refine (implAsk b w0 _ _ _ M t _ hl hkM.out hlt'.out (by omega) (HDM.out.below (by repeat (first | exact Below.refl _ _ | refine Below.drew ?_)))).mono ?_
    rintro e w8 ⟨rfl, D8, O8⟩
    go_wp2
    refine bodyPost_ret (v := .tuple #[]) (by simp [results, Tryz.results117, go_sem]) rfl ?_
    show DP _ _ _ _ _ M.next.1 (t ++ M.next.2) _ _ _
    rw [HE.out.1]
    refine ⟨rfl, ?_, (HO6.out.trans (DO.of_below (by repeat (first | exact Below.refl _ _ | refine Below.drew ?_)))).trans O8⟩
    rw [← HE.out.2] at D8
    exact D8
  · go_region
    go_wp2_with fail
    refine (containsB M.T _ w0.heap.size _ (bls_below HDM.out.sv.2.1 (by repeat (first | exact Below.refl _ _ | refine Below.drew ?_)) (Nat.le_refl _)) (by rw [mT.out]; exact hr20) (by rw [mT.out]; exact hr1)).mono ?_
    rintro e w7 ⟨rfl, hw7⟩
    have b7 : Below W6.heap.size W6 w7 := by rw [hw7]; repeat (first | exact Below.refl _ _ | refine Below.drew ?_)
    have HD7 : Hid (DB b w0 (.slice (some ⟨g1, 0, none⟩) s.R.length k1) (.slice (some ⟨g2, 0, none⟩) s.R.length k2) (.slice (some ⟨g3, 0, none⟩) s.R.length k3) M t w7) := HDM.out.below b7
    clear hw7
    by_cases hm : true ∈ M.T
    · rw [decide_eq_true hm]
      have HE : Hid (M.next = (M.to 6, cmdB 5 ⟨#[]⟩)) := by
        show _ = _
        unfold Sn.next; rw [mR.out, if_neg hlt, if_pos hm]
      go_wp2_with fail
      refine (implCommand 5 ⟨#[]⟩ _ (len_below hl HD7.out.bel) (by decide)).mono ?_
      rintro e w8 ⟨rfl, hb8⟩
      have hX := cmd_size 5 ⟨#[]⟩
      have e0 : (⟨#[]⟩ : ByteArray).size = 0 := rfl
      have HC := implSay b w0 _ _ _ M t (cmdB 5 ⟨#[]⟩) 6 w8 (by omega) (HD7.out.below hb8)
      clear hX e0
      go_wp2_with fail
      refine HC.mono ?_
      rintro e w9 ⟨rfl, D9, O9⟩
      go_wp2
      refine bodyPost_ret (v := .tuple #[]) (by simp [results, Tryz.results117, go_sem]) rfl ?_
      show DP _ _ _ _ _ M.next.1 (t ++ M.next.2) _ _ _
      rw [HE.out]
      exact ⟨rfl, D9, ((HO6.out.trans (DO.of_below b7)).trans (DO.of_below hb8)).trans O9⟩
    · rw [decide_eq_false hm]
      have HE : Hid (M.next = (M.to 8, tQuit)) := by
        show _ = _
        unfold Sn.next; rw [mR.out, if_neg hlt, if_neg hm]
      go_wp2_with fail
      refine (implQuit b w0 _ _ _ M t w7 hl (by omega) HD7.out).mono ?_
      rintro e w9 ⟨rfl, D9, O9⟩
      go_wp2
      refine bodyPost_ret (v := .tuple #[]) (by simp [results, Tryz.results117, go_sem]) rfl ?_
      show DP _ _ _ _ _ M.next.1 (t ++ M.next.2) _ _ _
      rw [HE.out]
      exact ⟨rfl, D9, (HO6.out.trans (DO.of_below b7)).trans O9⟩
end Go.Proofs.YtngcjlghjidnjaaGreatDoor
namespace Go.Proofs.YtngcjlghjidnjaaGreatDoor
open Go.ChangeShapes Go.WideShapes Go.ChangeAt Go.RowKit
attribute [local go_sem ↓] Go.wp_at_zero Go.wp_at_succ

theorem implTake (b : Nat) (w0 : World) (u1 u2 u3 : Value) (s : Sn) (t : ByteArray) (c : Nat) (v : Value) (L : List ByteArray) (lo : Nat) (w : World) (hl : LenIn w0) (hf : FoldAt w0) (hk : s.Ok) (h9 : s.ph ≠ 9) (hz : t.size ≤ 700000000) (hS : Strs w lo v L) (h1 : 1 ≤ L.length) (hL : L.length ≤ 50) (hsz : ∀ x ∈ L, x.size ≤ 1048576) (h : DB b w0 u1 u2 u3 s t w) :
    Calls Tryz.prog 86 #[.pointer (some ⟨b, 0, none⟩), .agg #[.int .i64 (c : Int), v]] w fun e w' => DP b w0 u1 u2 u3 (s.take c L).1 (t ++ (s.take c L).2) w e w' := by
  by_cases e8 : s.ph = 8
  · rw [take_8 e8]
    refine implTake8 b w0 u1 u2 u3 s t c v (s.to 9, ⟨#[]⟩) w e8 h fun wx hb => ?_
    have := implTQuit b w0 u1 u2 u3 s t (c : Int) v wx (h.below hb)
    show Calls _ _ _ _ fun e w' => DP b w0 u1 u2 u3 (s.to 9) (t ++ ⟨#[]⟩) wx e w'
    rw [cat_nil]
    exact this
  by_cases ec : c = 421
  · subst ec
    rw [take_421 e8]
    have := implTake421 b w0 u1 u2 u3 s t v L lo w hk (beq_eq_false_iff_ne.2 e8) hS h1 h
    show Calls _ _ _ _ fun e w' => DP b w0 u1 u2 u3 ((s.dec (refV 421 (L.getD 0 ⟨#[]⟩))).to 9) (t ++ ⟨#[]⟩) w e w'
    rw [cat_nil]
    exact this
  have hb : ((c : Int) == 421) = false := beq_eq_false_iff_ne.2 (by omega)
  have hp1 := hk.p1
  have hp9 := hk.p9
  have SB' := fun wx (hb : Below w.heap.size w wx) => strs_below (lo := lo) hS hb (Nat.le_refl _)
  have hcase : s.ph = 1 ∨ s.ph = 2 ∨ s.ph = 3 ∨ s.ph = 4 ∨ s.ph = 5 ∨ s.ph = 6 ∨ s.ph = 7 := by omega
  rcases hcase with e | e | e | e | e | e | e
  · rw [take_1 e ec]
    refine implTake1 b w0 u1 u2 u3 s t c v _ w e h hb fun wx hbx => ?_
    refine implGreet b w0 u1 u2 u3 s t c v L lo _ wx hl hk hz (SB' wx hbx) h1 (h.below hbx) ?_
    by_cases q : c = 220
    · exact .inl ⟨by omega, by rw [if_pos q]⟩
    · exact .inr ⟨by omega, by rw [if_neg q]⟩
  · rw [take_2 e ec]
    refine implTake2 b w0 u1 u2 u3 s t c v _ w e h hb fun wx hbx => ?_
    refine implEhlo b w0 u1 u2 u3 s t c v L lo ((szLim L).getD 0) (szLim L).isSome _ wx hl hk hz (SB' wx hbx) h1 (h.below hbx) ?_ ?_
    · intro wy hby
      have hD := (h.below hbx).below hby
      exact implSize v L wy (strs_args (strs_below (SB' wx hbx) hby (Nat.le_refl _)) (by unfold maxLen; omega) (fun x hx => by have := hsz x hx; unfold maxLen; omega)) hsz (len_below hl hD.bel) (hf.below hD.bel)
    · by_cases q : c = 250
      · rcases big_cases L s.bo.size with ⟨hB, hh⟩ | ⟨hB, hh⟩
        · exact .inr (.inr (.inl ⟨q, hh, by rw [if_pos q, if_pos hB]⟩))
        · exact .inr (.inr (.inr ⟨q, hh, by rw [if_pos q, if_neg (by rw [hB]; decide)]⟩))
      · by_cases q5 : 500 ≤ c
        · exact .inl ⟨q5, by rw [if_neg q, if_pos q5]⟩
        · exact .inr (.inl ⟨by omega, q, by rw [if_neg q, if_neg q5]⟩)
  · rw [take_3 e ec]
    refine implTake3 b w0 u1 u2 u3 s t c v _ w e h hb fun wx hbx => ?_
    refine implHelo b w0 u1 u2 u3 s t c v L lo _ wx hl hk hz (SB' wx hbx) h1 (h.below hbx) ?_
    by_cases q : c = 250
    · exact .inl ⟨by omega, by rw [if_pos q]⟩
    · exact .inr ⟨by omega, by rw [if_neg q]⟩
  · rw [take_4 e ec]
    refine implTake4 b w0 u1 u2 u3 s t c v _ w e h hb fun wx hbx => ?_
    refine implTMail b w0 u1 u2 u3 s t c v L lo _ wx hl hk hz (SB' wx hbx) h1 (h.below hbx) ?_
    by_cases q : c = 250
    · exact .inl ⟨q, by rw [if_pos q]⟩
    · exact .inr ⟨q, by rw [if_neg q]⟩
  · rw [take_5 e ec]
    refine implTake5 b w0 u1 u2 u3 s t c v _ w e h hb fun wx hbx => ?_
    by_cases q : c = 250 ∨ c = 251
    · exact implRcptY b w0 u1 u2 u3 s t c v L wx hl hk e hz (h.below hbx) q
    · exact implRcptN b w0 u1 u2 u3 s t c v L lo wx hl hk e hz (SB' wx hbx) h1 (h.below hbx) q (beq_eq_false_iff_ne.2 (by omega)) (beq_eq_false_iff_ne.2 (by omega))
  · rw [take_6 e ec]
    refine implTake6 b w0 u1 u2 u3 s t c v _ w e h hb fun wx hbx => ?_
    refine implData b w0 u1 u2 u3 s t c v L lo _ wx hl hk hz (SB' wx hbx) h1 (h.below hbx) ?_
    by_cases q : c = 354
    · exact .inl ⟨by omega, by rw [if_pos q]⟩
    · exact .inr ⟨by omega, by rw [if_neg q]⟩
  · rw [take_7 e ec]
    refine implTake7 b w0 u1 u2 u3 s t c v _ w e h hb fun wx hbx => ?_
    refine implDot b w0 u1 u2 u3 s t c v L lo _ wx hl hk hz (SB' wx hbx) h1 (h.below hbx) ?_
    by_cases q : c = 250
    · exact .inl ⟨q, by rw [if_pos q]⟩
    · exact .inr ⟨q, by rw [if_neg q]⟩
end Go.Proofs.YtngcjlghjidnjaaGreatDoor
namespace Go.Proofs.YtngcjlghjidnjaaGreatDoor
open Go.ChangeShapes Go.WideShapes Go.ChangeAt Go.RowKit
attribute [local go_sem ↓] Go.wp_at_zero Go.wp_at_succ

/-- what is heard: replies, as long as there are any -/
theorem rep_more {k : Nat} {s : Sn} (h : parse s.buf = (some none)) : Sn.rep (k + 1) s = (s, ⟨#[]⟩) := by unfold Sn.rep; rw [h]
theorem rep_bad {k : Nat} {s : Sn} (h : parse s.buf = none) : Sn.rep (k + 1) s = (s.lost tBad, ⟨#[]⟩) := by unfold Sn.rep; rw [h]
theorem rep_ok {k : Nat} {s : Sn} {c u : Nat} {L : List ByteArray} (h : parse s.buf = (some (some (c, L, u)))) : Sn.rep (k + 1) s = if ((Sn.take { s with buf := s.buf.extract u s.buf.size } c L).1).ph = 9 then ({ (Sn.take { s with buf := s.buf.extract u s.buf.size } c L).1 with buf := ⟨#[]⟩ }, (Sn.take { s with buf := s.buf.extract u s.buf.size } c L).2) else ((Sn.rep k (Sn.take { s with buf := s.buf.extract u s.buf.size } c L).1).1, (Sn.take { s with buf := s.buf.extract u s.buf.size } c L).2 ++ (Sn.rep k (Sn.take { s with buf := s.buf.extract u s.buf.size } c L).1).2) := by rw [Sn.rep, h]

/-- the loop's state: what is still to be heard makes the whole -/
def HR (b : Nat) (w0 : World) (u1 u2 u3 : Value) (P : Sn × ByteArray) (N : Nat) (wr : World) (s : Sn) (t : ByteArray) : Prop :=
  DB b w0 u1 u2 u3 s t wr ∧ s.Ok ∧ t.size ≤ 10000 * (N - s.buf.size) ∧ s.buf.size ≤ N ∧
    ((s.ph = 9 ∧ P.1 = { s with buf := ⟨#[]⟩ } ∧ P.2 = t) ∨ (s.ph ≠ 9 ∧ ∃ k, s.buf.size < k ∧ P.1 = (Sn.rep k s).1 ∧ P.2 = t ++ (Sn.rep k s).2))
def bufSz (b : Nat) (w : World) : Nat := match w.cell? ⟨b, 1, none⟩ with
  | some (.string x) => x.size
  | _ => 0
theorem buf_sz {b : Nat} {w0 : World} {u1 u2 u3 : Value} {s : Sn} {t : ByteArray} {w : World} (h : DB b w0 u1 u2 u3 s t w) : bufSz b w = s.buf.size := by
  have : w.cell? ⟨b, 1, none⟩ = some (.string s.buf) := h.blk.cell 1
  unfold bufSz
  rw [this]
/-- behind a reply -/
theorem HR.step {b : Nat} {w0 : World} {u1 u2 u3 : Value} {P : Sn × ByteArray} {N : Nat} {w w2 : World} {s : Sn} {t : ByteArray} (h : HR b w0 u1 u2 u3 P N w s t) (h9 : s.ph ≠ 9) {c u : Nat} {L : List ByteArray} (hp : parse s.buf = (some (some (c, L, u))))
    (hD : DB b w0 u1 u2 u3 (Sn.take { s with buf := s.buf.extract u s.buf.size } c L).1 (t ++ (Sn.take { s with buf := s.buf.extract u s.buf.size } c L).2) w2) : HR b w0 u1 u2 u3 P N w2 (Sn.take { s with buf := s.buf.extract u s.buf.size } c L).1 (t ++ (Sn.take { s with buf := s.buf.extract u s.buf.size } c L).2) ∧ (Sn.take { s with buf := s.buf.extract u s.buf.size } c L).1.buf.size < s.buf.size := by
  obtain ⟨_, hk, ht, hN, hc⟩ := h
  obtain ⟨hu2, hus, _, _, _⟩ := parse_ok hp
  have hkc := hk.cut u
  have hsaid := hkc.said c L
  have hbuf : (Sn.take { s with buf := s.buf.extract u s.buf.size } c L).1.buf = s.buf.extract u s.buf.size := take_buf _ c L
  have hsz : (Sn.take { s with buf := s.buf.extract u s.buf.size } c L).1.buf.size = s.buf.size - u := by rw [hbuf, ByteArray.size_extract]; omega
  refine ⟨⟨hD, hkc.take c L, ?_, by omega, ?_⟩, by omega⟩
  · rw [ByteArray.size_append, hsz]
    have : N - s.buf.size + 2 ≤ N - (s.buf.size - u) := by omega
    have := Nat.mul_le_mul_left 10000 this
    omega
  · rcases hc with ⟨e, _⟩ | ⟨_, k, hk1, e1, e2⟩
    · exact absurd e h9
    · obtain ⟨k, rfl⟩ : ∃ j, k = j + 1 := ⟨k - 1, by omega⟩
      rw [rep_ok hp] at e1 e2
      by_cases q : ((Sn.take { s with buf := s.buf.extract u s.buf.size } c L).1).ph = 9
      · rw [if_pos q] at e1 e2
        exact .inl ⟨q, e1, e2⟩
      · rw [if_neg q] at e1 e2
        refine .inr ⟨q, k, by omega, e1, ?_⟩
        rw [e2, ByteArray.append_assoc]

set_option maxHeartbeats 4000000 in
set_option maxRecDepth 100000 in
theorem implHear (b : Nat) (w0 : World) (u1 u2 u3 : Value) (s : Sn) (d : ByteArray) (w : World) (hl : LenIn w0) (hf : FoldAt w0) (hk : s.Ok) (h9 : s.ph ≠ 9) (hd : d.size ≤ 1048576) (h : DB b w0 u1 u2 u3 s ⟨#[]⟩ w) :
    Calls Tryz.prog 39 #[.pointer (some ⟨b, 0, none⟩), .string d] w fun e w' => DP b w0 u1 u2 u3 (if 40000 < s.buf.size + d.size then (s.lost tBad, (⟨#[]⟩ : ByteArray)) else Sn.rep (s.buf.size + d.size + 1) { s with buf := s.buf ++ d }).1 (if 40000 < s.buf.size + d.size then (s.lost tBad, (⟨#[]⟩ : ByteArray)) else Sn.rep (s.buf.size + d.size + 1) { s with buf := s.buf ++ d }).2 w e w' := by
  have H : Hid (DB b w0 u1 u2 u3 s ⟨#[]⟩ w) := h
  have HK : Hid s.Ok := hk
  have c1 : w.cell? ⟨b, 1, none⟩ = some (.string s.buf) := h.blk.cell 1
  have f1 : w.frozen? ⟨b, 1, none⟩ = false := h.blk.free 1
  have bl : b < w.heap.size := h.blk.lt
  have hbf : s.buf.size ≤ 40000 := hk.bf
  clear h hk
  by_cases hbig : 40000 < s.buf.size + d.size
  · rw [if_pos hbig]
    go_enter Tryz.func39, Tryz.ntmps39
    go_wp2_with fail
    refine (implLose b w0 u1 u2 u3 s ⟨#[]⟩ tBad _ HK.out H.out).mono ?_
    rintro e w2 ⟨rfl, D2, O2⟩
    go_wp2
    refine bodyPost_ret (v := .tuple #[]) (by simp [results, Tryz.results39, go_sem]) rfl ?_
    exact ⟨rfl, D2, O2⟩
  · rw [if_neg hbig]
    generalize hP : Sn.rep (s.buf.size + d.size + 1) { s with buf := s.buf ++ d } = P
    have HP : Hid (Sn.rep (s.buf.size + d.size + 1) { s with buf := s.buf ++ d } = P) := hP
    clear hP
    have hadd : ∀ wx : World, (Op.stringOp .add s.buf d).run Tryz.prog wx = .ok (.string (s.buf ++ d)) wx := fun wx => run_string_add_sum wx s.buf d (by omega)
    go_enter Tryz.func39, Tryz.ntmps39
    go_upto_region 4 with fail
    generalize hW : World.setCell w _ _ = W
    have HD : Hid (DB b w0 u1 u2 u3 { s with buf := s.buf ++ d } ⟨#[]⟩ W) := by show DB _ _ _ _ _ _ _ _; rw [← hW]; exact H.out.buf _
    have HO : Hid (DO b u2 u3 w W) := by show DO _ _ _ _ _; rw [← hW]; exact (DO.of_below (Below.refl _ _)).put 1 _
    have HH : Hid (HR b w0 u1 u2 u3 P (s.buf.size + d.size) W { s with buf := s.buf ++ d } ⟨#[]⟩) := by
      refine ⟨HD.out, ⟨HK.out.p1, HK.out.p9, HK.out.t, HK.out.v, HK.out.r1, HK.out.r20, HK.out.n, HK.out.n5, HK.out.he, HK.out.fr, HK.out.bo, HK.out.rs, ?_⟩, Nat.zero_le _, ?_, .inr ⟨h9, s.buf.size + d.size + 1, ?_, by rw [HP.out], by rw [HP.out]; exact (ByteArray.ext (by simp)).symm⟩⟩
      · show (s.buf ++ d).size ≤ _; rw [ByteArray.size_append]; omega
      · show (s.buf ++ d).size ≤ _; rw [ByteArray.size_append]; omega
      · show (s.buf ++ d).size < _; rw [ByteArray.size_append]; omega
    clear hW c1 f1 hadd HP HD
    generalize s.buf.size + d.size = N at *
    have hN : N ≤ 40000 := by omega
    go_loopw [] (fun wr => ∃ (x : Sn) (t : ByteArray), Hid (HR b w0 u1 u2 u3 P N wr x t) ∧ Hid (DO b u2 u3 w wr)) (fun wr => bufSz b wr)
    case atStart => exact ⟨_, _, HH, HO⟩
    case round =>
      obtain ⟨x, t, HX, HOx⟩ := hrel
      have HDx : Hid (DB b w0 u1 u2 u3 x t wr) := HX.out.1
      have HKx : Hid x.Ok := HX.out.2.1
      have hts : t.size ≤ 400000000 := by
        have h1 := HX.out.2.2.1
        have h2 : N - x.buf.size ≤ 40000 := by omega
        have := Nat.mul_le_mul_left 10000 h2
        omega
      have hbx : x.buf.size ≤ 40000 := HKx.out.bf
      have c0 : wr.cell? ⟨b, 0, none⟩ = some (.int .i64 x.ph) := HDx.out.blk.cell 0
      have c1 : wr.cell? ⟨b, 1, none⟩ = some (.string x.buf) := HDx.out.blk.cell 1
      have f1 : wr.frozen? ⟨b, 1, none⟩ = false := HDx.out.blk.free 1
      have blr : b < wr.heap.size := HDx.out.blk.lt
      by_cases e9 : x.ph = 9
      · have HE : Hid (P.1 = { x with buf := ⟨#[]⟩ } ∧ P.2 = t) := by
          rcases HX.out.2.2.2.2 with ⟨_, e⟩ | ⟨e, _⟩
          · exact e
          · exact absurd e9 e
        rw [e9] at c0
        clear e9
        go_wp2
        refine bodyPost_ret (v := .tuple #[]) (by simp [results, Tryz.results39, go_sem]) rfl ?_
        exact ⟨rfl, by rw [HE.out.1, HE.out.2]; exact HDx.out.buf ⟨#[]⟩, HOx.out.put 1 _⟩
      · have HE : Hid (∃ k, x.buf.size < k ∧ P.1 = (Sn.rep k x).1 ∧ P.2 = t ++ (Sn.rep k x).2) := by
          rcases HX.out.2.2.2.2 with ⟨e, _⟩ | ⟨_, e⟩
          · exact absurd e e9
          · exact e
        have hb9 : (x.ph == 9) = false := beq_eq_false_iff_ne.2 e9
        have H9 : Hid (x.ph ≠ 9) := e9
        clear e9
        go_wp2_with fail
        refine (implParse x.buf wr (len_below hl HDx.out.bel) (by omega)).mono ?_
        rintro e w1 ⟨⟨v, rfl, hS⟩, hb1⟩
        obtain ⟨va, vc, rfl⟩ := strs_form2 hS
        have HS : Hid (Strs w1 wr.heap.size (.slice va (prLines (parse x.buf)).length vc) (prLines (parse x.buf))) := hS
        have HB1 : Hid (Below wr.heap.size wr w1) := hb1
        have HD1 : Hid (DB b w0 u1 u2 u3 x t w1) := HDx.out.below hb1
        have d1 : w1.cell? ⟨b, 1, none⟩ = some (.string x.buf) := HD1.out.blk.cell 1
        have g1 : w1.frozen? ⟨b, 1, none⟩ = false := HD1.out.blk.free 1
        have bl1 : b < w1.heap.size := HD1.out.blk.lt
        clear hS hb1 c0 c1 f1
        rcases hp : parse x.buf with _ | _ | ⟨c, L, u⟩
        · rw [hp] at HS
          have HE2 : Hid (P.1 = x.lost tBad ∧ P.2 = t) := by
            obtain ⟨k, hk1, e1, e2⟩ := HE.out
            obtain ⟨k, rfl⟩ : ∃ j, k = j + 1 := ⟨k - 1, by omega⟩
            rw [rep_bad hp] at e1 e2
            exact ⟨e1, by rw [e2, cat_nil]⟩
          dsimp only [prCode, prLines, prUsed, prSt]
          clear hp
          go_wp2_with fail
          refine (implLose b w0 u1 u2 u3 x t tBad _ HKx.out (HD1.out.below (below1 _ _))).mono ?_
          rintro e w2 ⟨rfl, D2, O2⟩
          go_wp2
          refine bodyPost_ret (v := .tuple #[]) (by simp [results, Tryz.results39, go_sem]) rfl ?_
          exact ⟨rfl, by rw [HE2.out.1, HE2.out.2]; exact D2, ((HOx.out.trans (DO.of_below HB1.out)).trans (DO.of_below (below1 _ _))).trans O2⟩
        · rw [hp] at HS
          have HE2 : Hid (P.1 = x ∧ P.2 = t) := by
            obtain ⟨k, hk1, e1, e2⟩ := HE.out
            obtain ⟨k, rfl⟩ : ∃ j, k = j + 1 := ⟨k - 1, by omega⟩
            rw [rep_more hp] at e1 e2
            exact ⟨e1, by rw [e2, cat_nil]⟩
          dsimp only [prCode, prLines, prUsed, prSt]
          clear hp
          go_wp2
          refine bodyPost_ret (v := .tuple #[]) (by simp [results, Tryz.results39, go_sem]) rfl ?_
          exact ⟨rfl, by rw [HE2.out.1, HE2.out.2]; exact HD1.out.below (below1 _ _), (HOx.out.trans (DO.of_below HB1.out)).trans (DO.of_below (below1 _ _))⟩
        · rw [hp] at HS
          obtain ⟨hu2, hus, hL1, hL50, hLs⟩ := parse_ok hp
          have HP : Hid (parse x.buf = (some (some (c, L, u)))) := hp
          have HLs : Hid (∀ y ∈ L, y.size ≤ 1048576) := fun y hy => by have := hLs y hy; omega
          dsimp only [prCode, prLines, prUsed, prSt]
          clear hp hLs
          go_wp2_with fail
          refine (implTake b w0 u1 u2 u3 { x with buf := x.buf.extract u x.buf.size } t c (.slice va L.length vc) L wr.heap.size _ hl hf (HKx.out.cut u) H9.out (by omega) (strs_below (row_set_below HS.out (a := ⟨b, 1, none⟩) blr _) (below1 _ _) (Nat.le_refl _)) hL1 hL50 HLs.out ((HD1.out.buf _).below (below1 _ _))).mono ?_
          rintro e w2 ⟨rfl, D2, O2⟩
          have ST := HX.out.step H9.out HP.out D2
          have HST : Hid (HR b w0 u1 u2 u3 P N w2 (Sn.take { x with buf := x.buf.extract u x.buf.size } c L).1 (t ++ (Sn.take { x with buf := x.buf.extract u x.buf.size } c L).2)) := ST.1
          have HME : Hid (bufSz b w2 < bufSz b wr) := by
            show _ < _
            rw [buf_sz D2, buf_sz HDx.out]
            exact ST.2
          have HO2 : Hid (DO b u2 u3 w w2) := (((HOx.out.trans (DO.of_below HB1.out)).put 1 _).trans (DO.of_below (below1 _ _))).trans O2
          clear ST D2 O2
          go_wp2
          go_roundw
          case rel => exact ⟨_, _, HST, HO2⟩
          case measure => exact HME.out
end Go.Proofs.YtngcjlghjidnjaaGreatDoor
