import Derived.Test.YtngcjlghjidnjaaGreatDoorMg28
import Derived.Test.YtngcjlghjidnjaaGreatDoorMg1
import Derived.WalkKit
import Derived.ProofKit
import Derived.WalkLawsBesides
import Derived.Shelf.Strings.Builder1
namespace Go.Proofs.YtngcjlghjidnjaaGreatDoor
open Go.ChangeShapes Go.WideShapes Go.ChangeAt Go.RowKit
attribute [local go_sem ↓] Go.wp_at_zero Go.wp_at_succ

set_option maxHeartbeats 4000000 in
set_option maxRecDepth 100000 in
theorem specRcptN (s : Sn) (c : Nat) (L : List ByteArray) (v : Value) (u1 u2 u3 : Value) (lo lo2 : Nat) (w : World) (hk : s.Ok) (h5 : s.ph = 5) (h : SV w lo u1 u2 u3 s) (hS : Strs w lo2 v L) (h1 : 1 ≤ L.length) (hc : ¬ (c = 250 ∨ c = 251)) :
    Calls Tryz.prog 124 #[.agg #[.int .i64 s.ph, .string s.buf, .string s.he, .string s.fr, .string s.bo, u1, .int .i64 (s.nx : Int), u2, u3], .agg #[.int .i64 (c : Int), v], .bool false] w fun e w' => SQ ((s.mark c (L.getD 0 ⟨#[]⟩)).next) w e w' := by
  have H : Hid (SV w lo u1 u2 u3 s) := h
  have HK : Hid s.Ok := hk
  obtain ⟨g1, g2, g3, k1, k2, k3, rfl, rfl, rfl⟩ := h.some hk
  clear h hk
  obtain ⟨m1, m2, m3, m4, m5, m6, m7, m8, m9⟩ := HK.out.mark c (L.getD 0 ⟨#[]⟩) h5
  have hn : s.nx < s.R.length := HK.out.n5 h5
  have HL : Hid (s.V.length = s.R.length) := HK.out.v
  have HN : Hid (∀ wx, Below w.heap.size w wx → Calls Tryz.prog 123 #[.agg #[.int .i64 (c : Int), v]] wx fun e w' => e = .returned (.agg #[.int .i64 (refV c (L.getD 0 ⟨#[]⟩)).1, .int .i64 (refV c (L.getD 0 ⟨#[]⟩)).2.1, .string (refV c (L.getD 0 ⟨#[]⟩)).2.2]) ∧ Below wx.heap.size wx w') := fun wx hb => specNo c v L lo2 wx (strs_below hS hb (Nat.le_refl _)) h1
  have hM0 : s.mark c (L.getD 0 ⟨#[]⟩) = { s with V := s.V.set s.nx (refV c (L.getD 0 ⟨#[]⟩)), nx := s.nx + 1 } := by rw [Sn.mark, if_neg hc]
  generalize hM : s.mark c (L.getD 0 ⟨#[]⟩) = M at *
  generalize refV c (L.getD 0 ⟨#[]⟩) = Z at *
  clear hS h1
  have mN : Hid (M.nx = s.nx + 1) := m3
  have mR : Hid (M.R = s.R) := m5
  have mT : Hid (M.T.length = s.R.length) := m1
  have mW : Hid M.Wf := ⟨by rw [m1, m5], by rw [m2, m5], by rw [m5]; exact HK.out.r1, by rw [m5]; exact HK.out.r20⟩
  have HM : Hid ({ ({ s with V := s.V.set s.nx Z } : Sn) with nx := s.nx + 1 } = M) := by
    show _ = _
    exact hM0.symm
  have hr20 : s.R.length ≤ 20 := HK.out.r20
  clear m1 m2 m3 m4 m5 m6 m7 m8 m9 hM hc h5 hM0
  go_enter Tryz.func124, Tryz.ntmps124
  go_wp2_with fail
  generalize hW : World.alloc _ _ = W
  have HA : Hid (SB w.heap.size s (.slice (some ⟨g1, 0, none⟩) s.R.length k1) (.slice (some ⟨g2, 0, none⟩) s.R.length k2) (.slice (some ⟨g3, 0, none⟩) s.R.length k3) W) := by show SB _ _ _ _ _ _; rw [← hW]; exact (blk3 w _ _ _ _ _ _).1
  have HR : Hid (Blk (w.heap.size + 1) #[.int .i64 (c : Int), v] W) := by show Blk _ _ _; rw [← hW]; exact (blk3 w _ _ _ _ _ _).2.1
  have HZ : Hid (SB (w.heap.size + 1 + 1) sn0 (.slice none 0 0) (.slice none 0 0) (.slice none 0 0) W) := by show SB _ _ _ _ _ _; rw [← hW]; exact (blk3 w _ _ _ _ _ _).2.2
  have b0 : Below w.heap.size w W := by rw [← hW]; exact below3 _ _ _ _
  have z0 : w.heap.size + 3 ≤ W.heap.size := by rw [← hW]; simp
  clear hW
  refine (specCopy s _ _ _ lo W HK.out.wf (H.out.below b0 (Nat.le_refl _))).mono ?_
  rintro e w1 ⟨⟨v1, v2, v3, rfl, S1⟩, hb1⟩
  obtain ⟨p1, p2, p3, q1, q2, q3, rfl, rfl, rfl⟩ := S1.some HK.out
  have b1 : Below w.heap.size w w1 := b0.trans (hb1.mono b0.size)
  have HA1 : Hid (SB w.heap.size s (.slice (some ⟨g1, 0, none⟩) s.R.length k1) (.slice (some ⟨g2, 0, none⟩) s.R.length k2) (.slice (some ⟨g3, 0, none⟩) s.R.length k3) w1) := SB.below HA.out hb1
  have HR1 : Hid (Blk (w.heap.size + 1) #[.int .i64 (c : Int), v] w1) := Blk.below HR.out hb1
  have HZ1 : Hid (SB (w.heap.size + 1 + 1) sn0 (.slice none 0 0) (.slice none 0 0) (.slice none 0 0) w1) := SB.below HZ.out hb1
  have HS1 : Hid (SV w1 W.heap.size (.slice (some ⟨p1, 0, none⟩) s.R.length q1) (.slice (some ⟨p2, 0, none⟩) s.R.length q2) (.slice (some ⟨p3, 0, none⟩) s.R.length q3) s) := S1
  have z1 := hb1.size
  clear S1 hb1 HA HZ HR b0
  go_upto_region 2 with fail
  generalize hW2 : World.alloc _ _ = W2
  have hbb : Below w1.heap.size w1 W2 := by rw [← hW2]; exact below1 _ _
  obtain ⟨tb, htb⟩ : ∃ tb, tb = w1.heap.size := ⟨_, rfl⟩
  have HT2 : Hid (SB tb s (.slice (some ⟨p1, 0, none⟩) s.R.length q1) (.slice (some ⟨p2, 0, none⟩) s.R.length q2) (.slice (some ⟨p3, 0, none⟩) s.R.length q3) W2) := by show SB _ _ _ _ _ _; rw [← hW2, htb]; exact Blk.new w1 _ _
  have HA2 : Hid (SB w.heap.size s (.slice (some ⟨g1, 0, none⟩) s.R.length k1) (.slice (some ⟨g2, 0, none⟩) s.R.length k2) (.slice (some ⟨g3, 0, none⟩) s.R.length k3) W2) := SB.below HA1.out hbb
  have HR2 : Hid (Blk (w.heap.size + 1) #[.int .i64 (c : Int), v] W2) := Blk.below HR1.out hbb
  have HZ2 : Hid (SB (w.heap.size + 1 + 1) sn0 (.slice none 0 0) (.slice none 0 0) (.slice none 0 0) W2) := SB.below HZ1.out hbb
  have HS2 : Hid (SV W2 W.heap.size (.slice (some ⟨p1, 0, none⟩) s.R.length q1) (.slice (some ⟨p2, 0, none⟩) s.R.length q2) (.slice (some ⟨p3, 0, none⟩) s.R.length q3) s) := HS1.out.below hbb (Nat.le_refl _)
  have b2 : Below w.heap.size w W2 := b1.trans (hbb.mono b1.size)
  have z2 : w1.heap.size + 1 ≤ W2.heap.size := by rw [← hW2]; simp
  have hp1 := (HS1.out.own.1 p1 rfl)
  have hp2 := (HS1.out.own.2.1 p2 rfl)
  have hp3 := (HS1.out.own.2.2 p3 rfl)
  clear hW2 hbb HA1 HZ1 HR1 HS1 b1
  rw [← htb] at *
  have t8 : W2.cell? ⟨tb, 8, none⟩ = some (.slice (some ⟨p3, 0, none⟩) s.R.length q3) := HT2.out.cell 8
  have x6 : W2.cell? ⟨w.heap.size, 6, none⟩ = some (.int .i64 (s.nx : Int)) := HA2.out.cell 6
  have y0 : W2.cell? ⟨w.heap.size + 1, 0, none⟩ = some (.int .i64 (c : Int)) := HR2.out.cell 0
  have y1 : W2.cell? ⟨w.heap.size + 1, 1, none⟩ = some v := HR2.out.cell 1
  have i0 : (0 : Int) ≤ (s.nx : Int) := by omega
  have i1 : (s.nx : Int) < (s.R.length : Int) := by omega
  have n1 : ¬ tb = p3 := by omega
  have n2 : ¬ w.heap.size = p3 := by omega
  have n3 : ¬ w.heap.size + 1 = p3 := by omega
  have n4 : ¬ p3 = tb := by omega
  have n5 : ¬ p3 = w.heap.size := by omega
  have n6 : ¬ p3 = w.heap.size + 1 := by omega
  go_upto_region 4 with fail
  go_region_held3 (fun w' => w'.cell? ⟨tb, 8, none⟩ = some (.slice (some ⟨p3, 0, none⟩) s.R.length q3) ∧ w'.cell? ⟨w.heap.size, 6, none⟩ = some (.int .i64 (s.nx : Int)) ∧ w'.cell? ⟨w.heap.size + 1, 0, none⟩ = some (.int .i64 (c : Int)) ∧ w'.cell? ⟨w.heap.size + 1, 1, none⟩ = some v) (first | (simp only [e0, e1, e2, e3, and_self]; done) | go_keep) (first | (go_at_call 123; refine (HN.out _ (b2.trans (by repeat (first | exact Below.refl _ _ | refine Below.drew ?_)))).mono ?_; rintro e w3 ⟨rfl, hb3⟩; have HB3 : Hid (Below W2.heap.size W2 w3) := ((Below.refl W2.heap.size W2).drew).trans hb3; have HT3 : Hid (SB tb s (.slice (some ⟨p1, 0, none⟩) s.R.length q1) (.slice (some ⟨p2, 0, none⟩) s.R.length q2) (.slice (some ⟨p3, 0, none⟩) s.R.length q3) w3) := SB.below HT2.out HB3.out; have HS3 : Hid (SV w3 W.heap.size (.slice (some ⟨p1, 0, none⟩) s.R.length q1) (.slice (some ⟨p2, 0, none⟩) s.R.length q2) (.slice (some ⟨p3, 0, none⟩) s.R.length q3) s) := HS2.out.below HB3.out (Nat.le_refl _); have e0 : w3.cell? ⟨tb, 8, none⟩ = some (.slice (some ⟨p3, 0, none⟩) s.R.length q3) := HT3.out.cell 8; have e1 : w3.cell? ⟨w.heap.size, 6, none⟩ = some (.int .i64 (s.nx : Int)) := (Blk.below HA2.out HB3.out).cell 6; have e2 : w3.cell? ⟨w.heap.size + 1, 0, none⟩ = some (.int .i64 (c : Int)) := (Blk.below HR2.out HB3.out).cell 0; have e3 : w3.cell? ⟨w.heap.size + 1, 1, none⟩ = some v := (Blk.below HR2.out HB3.out).cell 1; obtain ⟨d0, d1, d2⟩ := HS3.out.2.2.at.1.cell s.nx (by rw [HL.out]; exact hn); have f0 := HS3.out.2.2.at.1.free (s.nx * 3); have f1 := HS3.out.2.2.at.1.free (s.nx * 3 + 1); have f2 := HS3.out.2.2.at.1.free (s.nx * 3 + 2); have pl3 := HS3.out.2.2.at.1.lt; clear hb3))
  go_upto_region 5 with fail
  have HZ3 : Hid (SB (w.heap.size + 1 + 1) sn0 (.slice none 0 0) (.slice none 0 0) (.slice none 0 0) w3) := SB.below HZ2.out HB3.out
  have b3 : Below w.heap.size w w3 := b2.trans (HB3.out.mono b2.size)
  have z3 : W2.heap.size ≤ w3.heap.size := HB3.out.size
  generalize hW5 : World.setCell (World.setCell (World.setCell w3 _ _) _ _) _ _ = W5
  have ap := HS3.out.apart
  have HT5 : Hid (SB tb ({ s with V := s.V.set s.nx Z } : Sn) (.slice (some ⟨p1, 0, none⟩) s.R.length q1) (.slice (some ⟨p2, 0, none⟩) s.R.length q2) (.slice (some ⟨p3, 0, none⟩) s.R.length q3) W5) := by show SB _ _ _ _ _ _; rw [← hW5]; exact Blk.other (Blk.other (Blk.other HT3.out (by omega)) (by omega)) (by omega)
  have HZ5 : Hid (SB (w.heap.size + 1 + 1) sn0 (.slice none 0 0) (.slice none 0 0) (.slice none 0 0) W5) := by show SB _ _ _ _ _ _; rw [← hW5]; exact Blk.other (Blk.other (Blk.other HZ3.out (by omega)) (by omega)) (by omega)
  have HS5 : Hid (SV W5 W.heap.size (.slice (some ⟨p1, 0, none⟩) s.R.length q1) (.slice (some ⟨p2, 0, none⟩) s.R.length q2) (.slice (some ⟨p3, 0, none⟩) s.R.length q3) ({ s with V := s.V.set s.nx Z } : Sn)) := by
    show SV _ _ _ _ _ _
    rw [← hW5]
    refine ⟨row_set_neR (row_set_neR (row_set_neR HS3.out.1 (fun g hg => ap.2.1 g p3 hg rfl) _) (fun g hg => ap.2.1 g p3 hg rfl) _) (fun g hg => ap.2.1 g p3 hg rfl) _, row_set_neR (row_set_neR (row_set_neR HS3.out.2.1 (fun g hg => ap.2.2 g p3 hg rfl) _) (fun g hg => ap.2.2 g p3 hg rfl) _) (fun g hg => ap.2.2 g p3 hg rfl) _, ?_⟩
    exact vds_put HS3.out.2.2 (by rw [HL.out]; exact hn) Z
  have b5 : Below w.heap.size w W5 := by rw [← hW5]; exact ((b3.setCell (p := ⟨p3, _, none⟩) (by dsimp only; omega) _).setCell (p := ⟨p3, _, none⟩) (by dsimp only; omega) _).setCell (p := ⟨p3, _, none⟩) (by dsimp only; omega) _
  have z5 : W2.heap.size ≤ W5.heap.size := by rw [← hW5]; simp; omega
  clear hW5 HT2 HA2 HR2 HZ2 HS2 b2 t8 x6 y0 y1 ap HT3 HS3 HZ3 b3 e0 e1 e2 e3 d0 d1 d2 f0 f1 f2 pl3 HN HB3 i0 i1 n1 n2 n3 n4 n5 n6
  have e6 : Hid (((s.nx : Int) + 1) = ((s.nx + 1 : Nat) : Int)) := by show _ = _; omega
  obtain ⟨t0, t1, t2, t3, t4, t5, t6, t7, t8⟩ := HT5.out.cells
  have tf6 : W5.frozen? ⟨tb, 6, none⟩ = false := HT5.out.free 6
  have tl5 : tb < W5.heap.size := HT5.out.lt
  go_upto_region 6 with fail
  rw [e6.out]
  generalize hW6 : World.setCell W5 _ _ = W6
  have HT6 : Hid (SB tb M (.slice (some ⟨p1, 0, none⟩) s.R.length q1) (.slice (some ⟨p2, 0, none⟩) s.R.length q2) (.slice (some ⟨p3, 0, none⟩) s.R.length q3) W6) := by
    show SB _ _ _ _ _ _
    rw [← hW6, ← HM.out]
    exact Blk.set HT5.out (i := 6) (by simp [c9])
  have HZ6 : Hid (SB (w.heap.size + 1 + 1) sn0 (.slice none 0 0) (.slice none 0 0) (.slice none 0 0) W6) := by show SB _ _ _ _ _ _; rw [← hW6]; exact Blk.other HZ5.out (by omega)
  have HS6 : Hid (SV W6 W.heap.size (.slice (some ⟨p1, 0, none⟩) s.R.length q1) (.slice (some ⟨p2, 0, none⟩) s.R.length q2) (.slice (some ⟨p3, 0, none⟩) s.R.length q3) M) := by
    show SV _ _ _ _ _ _
    rw [← hW6, ← HM.out]
    exact SV.set_ne (a := ⟨tb, 6, none⟩) HS5.out (fun g hg => by cases hg; dsimp only; omega) (fun g hg => by cases hg; dsimp only; omega) (fun g hg => by cases hg; dsimp only; omega) _
  have b6 : Below w.heap.size w W6 := by rw [← hW6]; exact b5.setCell (by dsimp only; omega) _
  have z6 : W5.heap.size ≤ W6.heap.size := by rw [← hW6]; simp
  clear hW6 HT5 HZ5 HS5 b5 HM t0 t1 t2 t3 t4 t5 t6 t7 t8 tf6 tl5 e6
  obtain ⟨t0, t1, t2, t3, t4, t5, t6, t7, t8⟩ := HT6.out.cells
  have tl6 : tb < W6.heap.size := HT6.out.lt
  have rl6 : w.heap.size + 1 + 1 < W6.heap.size := HZ6.out.lt
  have SA := HS6.out.1.at.1
  have BA := HS6.out.2.1.at.1
  by_cases hlt : M.nx < s.R.length
  · have c1 : W6.cell? ⟨p1, M.nx, none⟩ = some (.string (s.R.getD (M.nx) ⟨#[]⟩)) := by
      have := SA.cell (M.nx) (by rw [mR.out]; exact hlt)
      rw [this]
      simp only [mR.out]
      rw [List.getD_eq_getElem?_getD, List.getElem?_eq_getElem hlt]; rfl
    have HE : Hid (M.next = (M, cmdB 4 (s.R.getD (M.nx) ⟨#[]⟩))) := by
      show _ = _
      unfold Sn.next
      rw [mR.out, if_pos hlt]
    have hx : (s.R.getD (M.nx) ⟨#[]⟩).size ≤ 1048576 := by
      rw [List.getD_eq_getElem?_getD, List.getElem?_eq_getElem hlt]
      have := HK.out.rs _ (List.getElem_mem hlt)
      show (s.R[M.nx]).size ≤ _
      omega
    have pl1 : p1 < W6.heap.size := SA.lt
    generalize s.R.getD (M.nx) ⟨#[]⟩ = X at *
    clear SA BA
    go_upto_region 7 with fail
    go_region_with (first | (go_at_call 125; refine (specCommand 4 X _ hx).mono ?_; rintro e w7 ⟨rfl, hb7⟩; have HB7 : Hid (Below W6.heap.size W6 w7) := ((Below.refl W6.heap.size W6).drew).trans hb7; have HT7 : Hid (SB tb M (.slice (some ⟨p1, 0, none⟩) s.R.length q1) (.slice (some ⟨p2, 0, none⟩) s.R.length q2) (.slice (some ⟨p3, 0, none⟩) s.R.length q3) w7) := SB.below HT6.out HB7.out; obtain ⟨k0, k1, k2, k3, k4, k5, k6, k7, k8⟩ := HT7.out.cells; have k9 := (HB7.out.cell (p := ⟨p1, M.nx, none⟩) pl1).trans c1; have HZ7 : Hid (SB (w.heap.size + 1 + 1) sn0 (.slice none 0 0) (.slice none 0 0) (.slice none 0 0) w7) := SB.below HZ6.out HB7.out; obtain ⟨r0, r1, r2, r3, r4, r5, r6, r7, r8⟩ := HZ7.out.zero; obtain ⟨rf0, rf1, rf2, rf3, rf4, rf5, rf6, rf7, rf8⟩ := HZ7.out.frees; have zl : w.heap.size + 1 + 1 < w7.heap.size := HZ7.out.lt; clear hb7))
    all_goals
      have HS7 : Hid (SV w7 W.heap.size (.slice (some ⟨p1, 0, none⟩) s.R.length q1) (.slice (some ⟨p2, 0, none⟩) s.R.length q2) (.slice (some ⟨p3, 0, none⟩) s.R.length q3) M) := HS6.out.below HB7.out (Nat.le_refl _)
      have b7 : Below w.heap.size w w7 := b6.trans (HB7.out.mono b6.size)
      go_wp2
      refine bodyPost_ret (v := .tuple #[.agg #[.int .i64 M.ph, .string M.buf, .string M.he, .string M.fr, .string M.bo, (.slice (some ⟨p1, 0, none⟩) s.R.length q1), .int .i64 (M.nx : Int), (.slice (some ⟨p2, 0, none⟩) s.R.length q2), (.slice (some ⟨p3, 0, none⟩) s.R.length q3)], .string (cmdB 4 X)]) (by simp [results, Tryz.results124, go_sem, r0, r1, r2, r3, r4, r5, r6, r7, r8]) rfl ?_
      show SQ M.next _ _ _
      rw [HE.out]
      exact ⟨⟨_, _, _, rfl, (HS7.out.nine (b := w.heap.size + 1 + 1) (by omega) _ _ _ _ _ _ _ _ _).le (by omega)⟩, below_nine b7 (by omega) _ _ _ _ _ _ _ _ _⟩
  · have HF0 : Hid (∀ j, j < 0 → M.T[j]? = some false) := fun j hj => by omega
    have pl2 : p2 < W6.heap.size := BA.lt
    clear SA BA
    go_upto_region 9 with fail
    go_loopw [47] (fun kv wr => ∃ k : Nat, k ≤ s.R.length ∧ kv = .int .i64 k ∧ wr = W6 ∧ Hid (∀ j, j < k → M.T[j]? = some false)) (fun kv _ => s.R.length - (intOf kv).toNat)
    case atStart => exact ⟨0, Nat.zero_le _, rfl, rfl, HF0⟩
    case round =>
      obtain ⟨k, hk, rfl, hwr, HF⟩ := hrel
      have hwr2 := hwr.symm
      subst hwr2
      by_cases hlt2 : k < s.R.length
      · have hkt : k < M.T.length := by rw [mT.out]; exact hlt2
        have y0 := HS6.out.2.1.at.1.cell k hkt
        cases hb : M.T[k] with
        | true =>
          rw [hb] at y0
          have HE : Hid (M.next = (M.to 6, cmdB 5 ⟨#[]⟩)) := by
            show _ = _
            unfold Sn.next
            rw [mR.out, if_neg hlt, if_pos (hb ▸ List.getElem_mem hkt)]
          go_upto_region 12 with fail
          go_region_with (first | (go_at_call 125; refine (specCommand 5 ⟨#[]⟩ _ (by decide)).mono ?_; rintro e w7 ⟨rfl, hb7⟩; have HB7 : Hid (Below W6.heap.size W6 w7) := ((Below.refl W6.heap.size W6).drew).trans hb7; have HT7 : Hid (SB tb M (.slice (some ⟨p1, 0, none⟩) s.R.length q1) (.slice (some ⟨p2, 0, none⟩) s.R.length q2) (.slice (some ⟨p3, 0, none⟩) s.R.length q3) w7) := SB.below HT6.out HB7.out; obtain ⟨k0, k1, k2, k3, k4, k5, k6, k7, k8⟩ := HT7.out.cells; clear hb7) | (go_at_call 122; refine (specTo M 6 (cmdB 5 ⟨#[]⟩) _ _ _ W.heap.size _ mW.out (HS6.out.below HB7.out (Nat.le_refl _))).mono ?_; rintro e w8 ⟨⟨v1, v2, v3, rfl, S8⟩, hb8⟩; obtain ⟨p4, p5, p6, q4, q5, q6, y1, y2, y3⟩ : ∃ p4 p5 p6 q4 q5 q6, v1 = .slice (some ⟨p4, 0, none⟩) M.R.length q4 ∧ v2 = .slice (some ⟨p5, 0, none⟩) M.R.length q5 ∧ v3 = .slice (some ⟨p6, 0, none⟩) M.R.length q6 := S8.someW ⟨mW.out.t, mW.out.v, mW.out.r1, mW.out.r20⟩; subst y1; subst y2; subst y3; have HB8 : Hid (Below W6.heap.size W6 w8) := HB7.out.trans (hb8.mono HB7.out.size); have HZ8 : Hid (SB (w.heap.size + 1 + 1) sn0 (.slice none 0 0) (.slice none 0 0) (.slice none 0 0) w8) := SB.below HZ6.out HB8.out; obtain ⟨r0, r1, r2, r3, r4, r5, r6, r7, r8⟩ := HZ8.out.zero; obtain ⟨rf0, rf1, rf2, rf3, rf4, rf5, rf6, rf7, rf8⟩ := HZ8.out.frees; have zl : w.heap.size + 1 + 1 < w8.heap.size := HZ8.out.lt; have HS8 : Hid (SV w8 w7.heap.size (.slice (some ⟨p4, 0, none⟩) M.R.length q4) (.slice (some ⟨p5, 0, none⟩) M.R.length q5) (.slice (some ⟨p6, 0, none⟩) M.R.length q6) (M.to 6)) := S8; clear S8 hb8))
          all_goals
            have b8 : Below w.heap.size w w8 := b6.trans (HB8.out.mono b6.size)
            have z8 : w.heap.size + 1 + 1 < w7.heap.size := Nat.lt_of_lt_of_le rl6 HB7.out.size
            go_wp2
            refine bodyPost_ret (v := .tuple #[.agg #[.int .i64 6, .string M.buf, .string M.he, .string M.fr, .string M.bo, (.slice (some ⟨p4, 0, none⟩) M.R.length q4), .int .i64 (M.nx : Int), (.slice (some ⟨p5, 0, none⟩) M.R.length q5), (.slice (some ⟨p6, 0, none⟩) M.R.length q6)], .string (cmdB 5 ⟨#[]⟩)]) (by simp [results, Tryz.results124, go_sem, r0, r1, r2, r3, r4, r5, r6, r7, r8, Sn.to]) rfl ?_
            show SQ M.next _ _ _
            rw [HE.out]
            exact ⟨⟨_, _, _, rfl, (HS8.out.nine (b := w.heap.size + 1 + 1) z8 _ _ _ _ _ _ _ _ _).le (by omega)⟩, below_nine b8 (by omega) _ _ _ _ _ _ _ _ _⟩
        | false =>
          rw [hb] at y0
          have HF2 : Hid (∀ j, j < k + 1 → M.T[j]? = some false) := fun j hj => by
            by_cases e : j < k
            · exact HF.out j e
            · obtain rfl : j = k := by omega
              rw [List.getElem?_eq_getElem hkt, hb]
          go_wp2
          go_roundw
          case rel => exact ⟨k + 1, by omega, by go_num, by first | rfl | trivial, HF2⟩
          case measure => simp [intOf]; omega
      · obtain rfl : k = s.R.length := by omega
        have HE : Hid (M.next = (M.to 8, cmdB 6 ⟨#[]⟩)) := by
          show _ = _
          unfold Sn.next
          have hno : ¬ true ∈ M.T := fun hm => by
            obtain ⟨j, hj, e⟩ := List.getElem_of_mem hm
            have := HF.out j (by rw [← mT.out]; exact hj)
            rw [List.getElem?_eq_getElem hj, e] at this
            cases this
          rw [mR.out, if_neg hlt, if_neg hno]
          rfl
        go_upto_region 14 with fail
        go_region_with (first | (go_at_call 125; refine (specCommand 6 ⟨#[]⟩ _ (by decide)).mono ?_; rintro e w7 ⟨rfl, hb7⟩; have HB7 : Hid (Below W6.heap.size W6 w7) := ((Below.refl W6.heap.size W6).drew).trans hb7; have HT7 : Hid (SB tb M (.slice (some ⟨p1, 0, none⟩) s.R.length q1) (.slice (some ⟨p2, 0, none⟩) s.R.length q2) (.slice (some ⟨p3, 0, none⟩) s.R.length q3) w7) := SB.below HT6.out HB7.out; obtain ⟨k0, k1, k2, k3, k4, k5, k6, k7, k8⟩ := HT7.out.cells; clear hb7) | (go_at_call 122; refine (specTo M 8 (cmdB 6 ⟨#[]⟩) _ _ _ W.heap.size _ mW.out (HS6.out.below HB7.out (Nat.le_refl _))).mono ?_; rintro e w8 ⟨⟨v1, v2, v3, rfl, S8⟩, hb8⟩; obtain ⟨p4, p5, p6, q4, q5, q6, y1, y2, y3⟩ : ∃ p4 p5 p6 q4 q5 q6, v1 = .slice (some ⟨p4, 0, none⟩) M.R.length q4 ∧ v2 = .slice (some ⟨p5, 0, none⟩) M.R.length q5 ∧ v3 = .slice (some ⟨p6, 0, none⟩) M.R.length q6 := S8.someW ⟨mW.out.t, mW.out.v, mW.out.r1, mW.out.r20⟩; subst y1; subst y2; subst y3; have HB8 : Hid (Below W6.heap.size W6 w8) := HB7.out.trans (hb8.mono HB7.out.size); have HZ8 : Hid (SB (w.heap.size + 1 + 1) sn0 (.slice none 0 0) (.slice none 0 0) (.slice none 0 0) w8) := SB.below HZ6.out HB8.out; obtain ⟨r0, r1, r2, r3, r4, r5, r6, r7, r8⟩ := HZ8.out.zero; obtain ⟨rf0, rf1, rf2, rf3, rf4, rf5, rf6, rf7, rf8⟩ := HZ8.out.frees; have zl : w.heap.size + 1 + 1 < w8.heap.size := HZ8.out.lt; have HS8 : Hid (SV w8 w7.heap.size (.slice (some ⟨p4, 0, none⟩) M.R.length q4) (.slice (some ⟨p5, 0, none⟩) M.R.length q5) (.slice (some ⟨p6, 0, none⟩) M.R.length q6) (M.to 8)) := S8; clear S8 hb8))
        all_goals
          have b8 : Below w.heap.size w w8 := b6.trans (HB8.out.mono b6.size)
          have z8 : w.heap.size + 1 + 1 < w7.heap.size := Nat.lt_of_lt_of_le rl6 HB7.out.size
          go_wp2
          refine bodyPost_ret (v := .tuple #[.agg #[.int .i64 8, .string M.buf, .string M.he, .string M.fr, .string M.bo, (.slice (some ⟨p4, 0, none⟩) M.R.length q4), .int .i64 (M.nx : Int), (.slice (some ⟨p5, 0, none⟩) M.R.length q5), (.slice (some ⟨p6, 0, none⟩) M.R.length q6)], .string (cmdB 6 ⟨#[]⟩)]) (by simp [results, Tryz.results124, go_sem, r0, r1, r2, r3, r4, r5, r6, r7, r8, Sn.to]) rfl ?_
          show SQ M.next _ _ _
          rw [HE.out]
          exact ⟨⟨_, _, _, rfl, (HS8.out.nine (b := w.heap.size + 1 + 1) z8 _ _ _ _ _ _ _ _ _).le (by omega)⟩, below_nine b8 (by omega) _ _ _ _ _ _ _ _ _⟩

end Go.Proofs.YtngcjlghjidnjaaGreatDoor
namespace Go.Proofs.YtngcjlghjidnjaaGreatDoor
open Go.ChangeShapes Go.WideShapes Go.ChangeAt Go.RowKit

set_option maxRecDepth 100000 in
theorem sizeBuilder : (Tryz.prog.info? 77).map (·.size) = some 2 := by kernel_rfl
theorem liesBuilder : liesAt Tryz.prog Tryz.prog.depth 77 (2 / Tryz.prog.cellsOf 77) 0 77 1 = true := by kernel_rfl
theorem infoByte : (Tryz.prog.info? 5).map (fun i => (i.zero, i.size, i.bytes)) = some (some (.int .u8 0), 1, 1) := by kernel_rfl

set_option maxHeartbeats 1000000 in
set_option maxRecDepth 100000 in
theorem bUsed (b : Nat) (w : World) (h0 : w.cell? ⟨b, 0, none⟩ = some (.pointer (some ⟨b, 0, none⟩))) :
    Calls Tryz.prog 99 #[.pointer (some ⟨b, 0, none⟩)] w fun e w' => e = .returned (.tuple #[]) ∧ w' = w := by
  obtain ⟨j, hj, _⟩ := Option.map_eq_some_iff.1 sizeBuilder
  have hne := Lib.run_neq_ptr_same (P := Tryz.prog) w ⟨b, 0, none⟩ Tryz.underlying75 hj
  go_enter Tryz.func99, Tryz.ntmps99
  go_wp2
  go_end0
  exact ⟨rfl, rfl⟩

set_option maxHeartbeats 1000000 in
set_option maxRecDepth 100000 in
theorem bFresh (b : Nat) (w : World) (h0 : w.cell? ⟨b, 0, none⟩ = some (.pointer none)) (hsh : w.shape? b = some (77, 2)) (hfz : w.frozen? ⟨b, 0, none⟩ = false) :
    Calls Tryz.prog 99 #[.pointer (some ⟨b, 0, none⟩)] w fun e w' => e = .returned (.tuple #[]) ∧ w' = w.setCell ⟨b, 0, none⟩ (.pointer (some ⟨b, 0, none⟩)) := by
  obtain ⟨j, hj, hjs⟩ := Option.map_eq_some_iff.1 sizeBuilder
  have hto := Lib.run_to_unsafe (P := Tryz.prog) w ⟨b, 0, none⟩ Tryz.underlying75 Tryz.underlying137 hj (by rw [hjs]; decide) hsh (Nat.zero_lt_succ 1)
  have hfr := Lib.run_from_unsafe (P := Tryz.prog) w ⟨b, 0, none⟩ Tryz.underlying137 Tryz.underlying75 hj hsh liesBuilder
  have hx := run_callFunc_extern (P := Tryz.prog) Tryz.func135 (by kernel_rfl) (by kernel_rfl) (by kernel_rfl) (e := Extern.AbiNoEscape.same) (by kernel_rfl) #[.pointer (some ⟨b, 0, none⟩)] w
  rw [Lib.run_noEscape] at hx
  simp only [Result.andThen] at hx
  go_enter Tryz.func99, Tryz.ntmps99
  go_wp2
  go_end0
  exact ⟨rfl, rfl⟩

set_option maxRecDepth 100000 in
theorem bCheck (B b : Nat) (bs : List Value) (w : World) (h : Lib.IsBuilder 77 5 B b bs w) :
    Calls Tryz.prog 99 #[.pointer (some ⟨b, 0, none⟩)] w fun e w' => e = .returned (.tuple #[]) ∧ Lib.BuilderAt 77 5 B b (.pointer (some ⟨b, 0, none⟩)) bs w' ∧ Below B w w' := by
  rcases h with h | h
  · refine (bFresh b w h.cell0 h.shape h.frozen0).mono ?_
    rintro e w' ⟨rfl, rfl⟩
    exact ⟨rfl, h.used _, (Below.refl B w).setCell (p := ⟨b, 0, none⟩) h.1 _⟩
  · refine (bUsed b w h.cell0).mono ?_
    rintro e w' ⟨rfl, rfl⟩
    exact ⟨rfl, h, Below.refl B _⟩

set_option maxHeartbeats 1000000 in
set_option maxRecDepth 100000 in
theorem bWrite (B b : Nat) (bs : List Value) (s : ByteArray) (w : World) (h : Lib.IsBuilder 77 5 B b bs w) (hlen : bs.length + s.size ≤ 140737488355328) (hBw : B ≤ w.heap.size) :
    Calls Tryz.prog 49 #[.pointer (some ⟨b, 0, none⟩), .string s] w fun e w' => e = .returned (.tuple #[.int .i64 s.size, .nilIface]) ∧ Lib.BuilderAt 77 5 B b (.pointer (some ⟨b, 0, none⟩)) (bs ++ Lib.strCells s) w' ∧ Below B w w' := by
  obtain ⟨i0, hi, hz0, hz1, hz2⟩ := info_parts infoByte
  go_enter Tryz.func49, Tryz.ntmps49
  go_wp2_with fail
  refine (bCheck B b bs _ h).mono ?_
  rintro e w1 ⟨rfl, h1, hb1⟩
  obtain ⟨hB, v, hbk, hown, hne⟩ := h1
  have c0 : w1.cell? ⟨b, 0, none⟩ = some (.pointer (some ⟨b, 0, none⟩)) := by rw [Lib.cell_of_heap hbk]; rfl
  have c1 : w1.cell? ⟨b, 1, none⟩ = some v := by rw [Lib.cell_of_heap hbk]; rfl
  go_wp2_with (at_builtin; refine Lib.wpList_append_own_string _ rfl _ _ 22 9 rfl B 5 i0 Tryz.underlying22 Tryz.underlying9 hi hz0 hz1 hz2 _ _ _ rfl hown s rfl ?c3 ?c4 ?c5 ?_)
  case c3 => unfold maxLen; omega
  case c4 => omega
  case c5 => have := hb1.size; omega
  intro v' w2 hown' hgrow _
  have hlt : b < w1.heap.size := (Array.getElem?_eq_some_iff.1 hbk).1
  have hb2 : w2.heap[b]? = some (.cells #[.pointer (some ⟨b, 0, none⟩), v] 77 (0, 0)) := by
    rw [hgrow.block b hlt (fun e => hne e.symm)]
    exact hbk
  have d0 : w2.cell? ⟨b, 0, none⟩ = some (.pointer (some ⟨b, 0, none⟩)) := by rw [Lib.cell_of_heap hb2]; rfl
  have d1 : w2.cell? ⟨b, 1, none⟩ = some v := by rw [Lib.cell_of_heap hb2]; rfl
  have f1 : w2.frozen? ⟨b, 1, none⟩ = false := Lib.frozen_of_heap hb2 1
  obtain ⟨ao, n', cap, rfl⟩ : ∃ ao n' cap, v' = .slice ao n' cap := by
    rcases hown'.2 with ⟨hv, _⟩ | ⟨g, cap, cur, hv, _⟩
    · exact ⟨_, _, _, hv⟩
    · exact ⟨_, _, _, hv⟩
  go_wp2
  go_ret2
  refine ⟨rfl, ?_, ?_⟩
  · exact Lib.BuilderAt.put (T := 77) (e := 5) hB hb2 (bs' := bs ++ Lib.strCells s) (by simpa [Lib.strCells_length] using hown') (by decide)
  · exact (hb1.grown hgrow (by have := hb1.size; omega) (fun k hk => (hown.lt k hk).1)).setCell (p := ⟨b, 1, none⟩) hB _

/-- String's numbers in this program -/
def renString : Go.Shelf.Ren := ⟨fun | 169 => 50 | n => n, fun | 70 => 75 | 9 => 9 | 0 => 0 | 72 => 77 | 37 => 22 | 127 => 115 | 3 => 3 | 5 => 5 | n => n, fun | n => n⟩
set_option maxRecDepth 100000 in
theorem laysString : Go.Proofs.Lays.n169 Tryz.prog renString := {
  mixed := by kernel_rfl
  f169 := Tryz.func50.trans (congrArg some (by kernel_rfl))
  t0 := Tryz.underlying0
  a0 := Tryz.isAgg0
  z0 := Tryz.sizeOf0
  v0 := Tryz.zeroValue0
  t3 := Tryz.underlying3
  a3 := Tryz.isAgg3
  z3 := Tryz.sizeOf3
  v3 := Tryz.zeroValue3
  t9 := Tryz.underlying9
  a9 := Tryz.isAgg9
  z9 := Tryz.sizeOf9
  v9 := Tryz.zeroValue9
  t37 := Tryz.underlying22
  a37 := Tryz.isAgg22
  z37 := Tryz.sizeOf22
  v37 := Tryz.zeroValue22
  t70 := Tryz.underlying75
  a70 := Tryz.isAgg75
  z70 := Tryz.sizeOf75
  v70 := Tryz.zeroValue75
  t72 := Tryz.underlying77
  a72 := Tryz.isAgg77
  z72 := Tryz.sizeOf77
  v72 := Tryz.zeroValue77
  t127 := Tryz.underlying115
  a127 := Tryz.isAgg115
  z127 := Tryz.sizeOf115
  v127 := Tryz.zeroValue115 }
set_option maxRecDepth 100000 in
theorem extraString : Go.Proofs.Builder.Extra Tryz.prog renString := {
  sizeBuilder := by kernel_rfl
  liesBuilder := by kernel_rfl
  t5 := Tryz.underlying5
  a5 := Tryz.isAgg5
  z5 := Tryz.sizeOf5
  v5 := Tryz.zeroValue5
  infoByte := by kernel_rfl
  cellsByte := by kernel_rfl
  sizeByte := by kernel_rfl
  neB5 := by decide }
set_option maxRecDepth 100000 in
theorem bString (B b : Nat) (l : List UInt8) (w : World) (h : Lib.IsBuilder 77 5 B b (Lib.byteCells l) w) (hBw : B ≤ w.heap.size) :
    Calls Tryz.prog 50 #[.pointer (some ⟨b, 0, none⟩)] w fun e w' => e = .returned (.string ⟨l.toArray⟩) ∧ Below B w w' := Go.Proofs.Any.Builder_String_any laysString extraString B b l w h hBw
end Go.Proofs.YtngcjlghjidnjaaGreatDoor
namespace Go.Proofs.YtngcjlghjidnjaaGreatDoor
open Go.ChangeShapes Go.WideShapes Go.ChangeAt Go.RowKit

/-- a builder in block b whose bytes lie from B on, B behind b -/
def BldS (B b : Nat) (bs : List Value) (w : World) : Prop :=
  ∃ p v, (p = .pointer none ∨ p = .pointer (some ⟨b, 0, none⟩)) ∧ w.heap[b]? = some (.cells #[p, v] 77 (0, 0)) ∧ w.ownsRow B 5 1 v bs.length bs ∧ b < B ∧ B ≤ w.heap.size
/-- below B all but block b stands as it stood -/
structure Besides (B b : Nat) (w w' : World) : Prop where
  os : w'.os = w.os
  tape : w'.tape = w.tape
  output : w'.output = w.output
  size : w.heap.size ≤ w'.heap.size
  block : ∀ k, k < B → k ≠ b → w'.heap[k]? = w.heap[k]?
theorem Besides.refl (B b : Nat) (w : World) : Besides B b w w := ⟨rfl, rfl, rfl, Nat.le_refl _, fun _ _ _ => rfl⟩
theorem Besides.trans {B b : Nat} {w w1 w2 : World} (h : Besides B b w w1) (k : Besides B b w1 w2) : Besides B b w w2 :=
  ⟨k.os.trans h.os, k.tape.trans h.tape, k.output.trans h.output, Nat.le_trans h.size k.size, fun j h1 h2 => (k.block j h1 h2).trans (h.block j h1 h2)⟩
theorem Besides.below {B b lo : Nat} {w w' : World} (h : Besides B b w w') (h1 : lo ≤ b) (h2 : lo ≤ B) : Below lo w w' :=
  ⟨h.os, h.tape, h.output, h.size, fun k hk => h.block k (by omega) (by omega)⟩
theorem Besides.cell {B b : Nat} {w w' : World} (h : Besides B b w w') {g o : Nat} (h1 : g < B) (h2 : g ≠ b) : w'.cell? ⟨g, o, none⟩ = w.cell? ⟨g, o, none⟩ := by
  simp only [World.cell?]; rw [h.block g h1 h2]
theorem Besides.strs {B b lo : Nat} {w w' : World} (h : Besides B b w w') {v : Value} {L : List ByteArray} (hv : w.ownsRow lo 9 1 v L.length (L.map Value.string)) (hlt : ∀ g, v.ownBlock = some g → g < B ∧ g ≠ b) : w'.ownsRow lo 9 1 v L.length (L.map Value.string) := by
  refine ⟨hv.1, ?_⟩
  rcases hv.2 with h0 | ⟨g, cap, cur, e, hl, hg, rest⟩
  · exact .inl h0
  · refine .inr ⟨g, cap, cur, e, hl, ?_, rest⟩
    have := hlt g (by rw [e]; rfl)
    rw [h.block g this.1 this.2]; exact hg

theorem bldS_is {B b lo : Nat} {bs : List Value} {w : World} (h : BldS B b bs w) (hl : lo ≤ b) : Lib.IsBuilder 77 5 lo b bs w := by
  obtain ⟨p, v, hp, hb, hown, h1, h2⟩ := h
  have hne : v.ownBlock ≠ some b := Lib.ownBlock_ne hown hb (by decide)
  have hown' : w.ownsRow lo 5 1 v bs.length bs := Go.Joins.ownsRow_le hown (by omega)
  rcases hp with rfl | rfl
  · exact .inl ⟨hl, v, hb, hown', hne⟩
  · exact .inr ⟨hl, v, hb, hown', hne⟩
theorem bldS_below {B b : Nat} {bs : List Value} {w w1 : World} (h : BldS B b bs w) (hb1 : Below w.heap.size w w1) : BldS B b bs w1 := by
  obtain ⟨p, v, hp, hb, hown, h1, h2⟩ := h
  refine ⟨p, v, hp, by rw [hb1.block b (Array.getElem?_eq_some_iff.1 hb).1]; exact hb, ⟨hown.1, ?_⟩, h1, Nat.le_trans h2 hb1.size⟩
  rcases hown.2 with h0 | ⟨g, cap, cur, hv, hl, hg, rest⟩
  · exact .inl h0
  · refine .inr ⟨g, cap, cur, hv, hl, ?_, rest⟩
    rw [hb1.block g (Array.getElem?_eq_some_iff.1 hg).1]; exact hg
/-- a fresh builder, with whatever was laid behind it -/
theorem bldS_fresh {w w1 : World} (hb : w1.heap[w.heap.size]? = some (.cells #[.pointer none, .slice none 0 0] 77 (0, 0))) : BldS w1.heap.size w.heap.size [] w1 :=
  ⟨_, _, .inl rfl, hb, World.ownsRow_nil _ _ _ _, (Array.getElem?_eq_some_iff.1 hb).1, Nat.le_refl _⟩

theorem bCheck2 (B b : Nat) (bs : List Value) (w : World) (h : BldS B b bs w) :
    Calls Tryz.prog 99 #[.pointer (some ⟨b, 0, none⟩)] w fun e w' => e = .returned (.tuple #[]) ∧ (∃ v, w'.heap[b]? = some (.cells #[.pointer (some ⟨b, 0, none⟩), v] 77 (0, 0)) ∧ w'.ownsRow B 5 1 v bs.length bs) ∧ Besides B b w w' := by
  have hI := bldS_is h (Nat.zero_le b)
  obtain ⟨p, v, hp, hb, hown, h1, h2⟩ := h
  rcases hp with rfl | rfl
  · have hI0 : Lib.BuilderAt 77 5 0 b (.pointer none) bs w := by
      rcases hI with h | h
      · exact h
      · obtain ⟨_, v', hb', _⟩ := h
        rw [hb] at hb'; simp at hb'
    refine (bFresh b w hI0.cell0 hI0.shape hI0.frozen0).mono ?_
    rintro e w' ⟨rfl, rfl⟩
    refine ⟨rfl, ⟨v, ?_, ownsRow_setCell_below hown (by show b < B; exact h1) _⟩, ⟨rfl, rfl, rfl, by simp, fun k _ hk => Below.heap_setCell _ _ _ _ hk⟩⟩
    rw [heap_setCell_same w b 0 _ _ _ hb]; rfl
  · refine (bUsed b w (by simp [World.cell?, hb])).mono ?_
    rintro e w' ⟨rfl, rfl⟩
    exact ⟨rfl, ⟨v, hb, hown⟩, Besides.refl _ _ _⟩

set_option maxHeartbeats 1000000 in
set_option maxRecDepth 100000 in
theorem bWrite2 (B b : Nat) (bs : List Value) (s : ByteArray) (w : World) (h : BldS B b bs w) (hlen : bs.length + s.size ≤ 140737488355328) :
    Calls Tryz.prog 49 #[.pointer (some ⟨b, 0, none⟩), .string s] w fun e w' => e = .returned (.tuple #[.int .i64 s.size, .nilIface]) ∧ BldS B b (bs ++ Lib.strCells s) w' ∧ Besides B b w w' := by
  obtain ⟨i0, hi, hz0, hz1, hz2⟩ := info_parts infoByte
  obtain ⟨hbB, hBw⟩ : b < B ∧ B ≤ w.heap.size := ⟨h.choose_spec.choose_spec.2.2.2.1, h.choose_spec.choose_spec.2.2.2.2⟩
  go_enter Tryz.func49, Tryz.ntmps49
  go_wp2_with fail
  refine (bCheck2 B b bs _ h).mono ?_
  rintro e w1 ⟨rfl, ⟨v, hbk, hown⟩, hb1⟩
  have hne : v.ownBlock ≠ some b := Lib.ownBlock_ne hown hbk (by decide)
  have c0 : w1.cell? ⟨b, 0, none⟩ = some (.pointer (some ⟨b, 0, none⟩)) := by rw [Lib.cell_of_heap hbk]; rfl
  have c1 : w1.cell? ⟨b, 1, none⟩ = some v := by rw [Lib.cell_of_heap hbk]; rfl
  go_wp2_with (at_builtin; refine Lib.wpList_append_own_string _ rfl _ _ 22 9 rfl B 5 i0 Tryz.underlying22 Tryz.underlying9 hi hz0 hz1 hz2 _ _ _ rfl hown s rfl ?c3 ?c4 ?c5 ?_)
  case c3 => unfold maxLen; omega
  case c4 => omega
  case c5 => have := hb1.size; omega
  intro v' w2 hown' hgrow _
  have hlt : b < w1.heap.size := (Array.getElem?_eq_some_iff.1 hbk).1
  have hb2 : w2.heap[b]? = some (.cells #[.pointer (some ⟨b, 0, none⟩), v] 77 (0, 0)) := by
    rw [hgrow.block b hlt (fun e => hne e.symm)]
    exact hbk
  have d0 : w2.cell? ⟨b, 0, none⟩ = some (.pointer (some ⟨b, 0, none⟩)) := by rw [Lib.cell_of_heap hb2]; rfl
  have d1 : w2.cell? ⟨b, 1, none⟩ = some v := by rw [Lib.cell_of_heap hb2]; rfl
  have f1 : w2.frozen? ⟨b, 1, none⟩ = false := Lib.frozen_of_heap hb2 1
  obtain ⟨ao, n', cap, rfl⟩ : ∃ ao n' cap, v' = .slice ao n' cap := by
    rcases hown'.2 with ⟨hv, _⟩ | ⟨g, cap, cur, hv, _⟩
    · exact ⟨_, _, _, hv⟩
    · exact ⟨_, _, _, hv⟩
  have hlo := fun k hk => (hown.lt k hk).1
  go_wp2
  go_ret2
  have hbs : Besides B b w1 w2 := ⟨hgrow.os, hgrow.tape, hgrow.output, hgrow.size, fun k hk _ => by
    by_cases hk2 : k < w1.heap.size
    · exact hgrow.block k hk2 (fun e => by have := hlo k e.symm; omega)
    · have := hb1.size; omega⟩
  refine ⟨rfl, ⟨.pointer (some ⟨b, 0, none⟩), .slice ao n' cap, .inr rfl, ?_, ?_, hbB, by simp; have := hb1.size; have := hbs.size; omega⟩, (hb1.trans hbs).trans ⟨rfl, rfl, rfl, by simp, fun k _ hk => Below.heap_setCell _ _ _ _ hk⟩⟩
  · rw [heap_setCell_same w2 b 1 _ _ _ hb2]; rfl
  · have h5 : w2.ownsRow B 5 1 (.slice ao n' cap) (bs ++ Lib.strCells s).length (bs ++ Lib.strCells s) := by simpa [Lib.strCells_length] using hown'
    exact ownsRow_setCell_below h5 (by show b < B; exact hbB) _
end Go.Proofs.YtngcjlghjidnjaaGreatDoor
