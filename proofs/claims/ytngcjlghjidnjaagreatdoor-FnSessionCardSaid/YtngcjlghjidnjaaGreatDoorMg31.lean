import Derived.Test.YtngcjlghjidnjaaGreatDoorMg29
import Derived.Test.YtngcjlghjidnjaaGreatDoorMg30
import Derived.Test.YtngcjlghjidnjaaGreatDoorMg13
namespace Go.Proofs.YtngcjlghjidnjaaGreatDoor
open Go.ChangeShapes Go.WideShapes Go.ChangeAt Go.RowKit
attribute [local go_sem ↓] Go.wp_at_zero Go.wp_at_succ

set_option maxHeartbeats 4000000 in
set_option maxRecDepth 100000 in
theorem takeA (buf he fr bo : ByteArray) (R : List ByteArray) (nx : Nat) (T : List Bool) (V : List Vd) (c : Nat) (v : Value) (L : List ByteArray) (u1 u2 u3 : Value) (lo lo2 : Nat) (w : World) (hk : (⟨8, buf, he, fr, bo, R, nx, T, V⟩ : Sn).Ok) (h : SV w lo u1 u2 u3 (⟨8, buf, he, fr, bo, R, nx, T, V⟩ : Sn)) (hS : Strs w lo2 v L) (h1 : 1 ≤ L.length) (hsz : ∀ x ∈ L, x.size ≤ 1048576) :
    Calls Tryz.prog 91 #[.agg #[.int .i64 8, .string buf, .string he, .string fr, .string bo, u1, .int .i64 (nx : Int), u2, u3], .agg #[.int .i64 (c : Int), v]] w fun e w' => SQ ((⟨8, buf, he, fr, bo, R, nx, T, V⟩ : Sn).to 9, ⟨#[]⟩) w e w' := by
  have H : Hid (SV w lo u1 u2 u3 (⟨8, buf, he, fr, bo, R, nx, T, V⟩ : Sn)) := h
  have HK : Hid (⟨8, buf, he, fr, bo, R, nx, T, V⟩ : Sn).Ok := hk
  have HSt : Hid (Strs w lo2 v L) := hS
  have HL1 : Hid (1 ≤ L.length) := h1
  have HLs : Hid (∀ x ∈ L, x.size ≤ 1048576) := hsz
  have hhe : he.size ≤ 1048576 := by have := hk.he; dsimp only at this; omega
  have hfr : fr.size ≤ 1048576 := by have := hk.fr; dsimp only at this; omega
  have hbo : bo.size ≤ 1048576 := by have := hk.bo; dsimp only at this; omega
  obtain ⟨g1, g2, g3, k1, k2, k3, y1, y2, y3⟩ : ∃ g1 g2 g3 k1 k2 k3, u1 = .slice (some ⟨g1, 0, none⟩) R.length k1 ∧ u2 = .slice (some ⟨g2, 0, none⟩) R.length k2 ∧ u3 = .slice (some ⟨g3, 0, none⟩) R.length k3 := h.some hk
  subst y1
  subst y2
  subst y3
  clear h hk hS h1 hsz
  go_enter Tryz.func91, Tryz.ntmps91
  go_wp2_with fail
  generalize hW : World.alloc _ _ = W
  have HA : Hid (Blk w.heap.size #[.int .i64 8, .string buf, .string he, .string fr, .string bo, (.slice (some ⟨g1, 0, none⟩) R.length k1), .int .i64 (nx : Int), (.slice (some ⟨g2, 0, none⟩) R.length k2), (.slice (some ⟨g3, 0, none⟩) R.length k3)] W) := by show Blk _ _ _; rw [← hW]; exact (blk3 w _ _ _ _ _ _).1
  have HR : Hid (Blk (w.heap.size + 1) #[.int .i64 (c : Int), v] W) := by show Blk _ _ _; rw [← hW]; exact (blk3 w _ _ _ _ _ _).2.1
  have HZ : Hid (SB (w.heap.size + 1 + 1) sn0 (.slice none 0 0) (.slice none 0 0) (.slice none 0 0) W) := by show SB _ _ _ _ _ _; rw [← hW]; exact (blk3 w _ _ _ _ _ _).2.2
  have b0 : Below w.heap.size w W := by rw [← hW]; exact below3 _ _ _ _
  have z0 : w.heap.size + 3 ≤ W.heap.size := by rw [← hW]; simp
  clear hW
  refine (specTo (⟨8, buf, he, fr, bo, R, nx, T, V⟩ : Sn) 9 ⟨#[]⟩ _ _ _ lo W HK.out.wf (H.out.below b0 (Nat.le_refl _))).mono ?_
  rintro e w8 ⟨⟨v1, v2, v3, rfl, S8⟩, hb8⟩
  (obtain ⟨p4, p5, p6, q4, q5, q6, y4, y5, y6⟩ : ∃ p4 p5 p6 q4 q5 q6, v1 = .slice (some ⟨p4, 0, none⟩) R.length q4 ∧ v2 = .slice (some ⟨p5, 0, none⟩) R.length q5 ∧ v3 = .slice (some ⟨p6, 0, none⟩) R.length q6 := S8.someW ⟨by first | exact HK.out.t | (show (_ : List Bool).length = _; exact HK.out.t), by first | exact HK.out.v | exact (decV_len _ _).trans HK.out.v, HK.out.r1, HK.out.r20⟩; subst y4; subst y5; subst y6; have HB8 : Hid (Below W.heap.size W w8) := hb8; have HZ8 : Hid (SB (w.heap.size + 1 + 1) sn0 (.slice none 0 0) (.slice none 0 0) (.slice none 0 0) w8) := SB.below HZ.out HB8.out; obtain ⟨r0, r1, r2, r3, r4, r5, r6, r7, r8⟩ := HZ8.out.zero; obtain ⟨rf0, rf1, rf2, rf3, rf4, rf5, rf6, rf7, rf8⟩ := HZ8.out.frees; have zl : w.heap.size + 1 + 1 < w8.heap.size := HZ8.out.lt; have HS8 : Hid (SV w8 W.heap.size (.slice (some ⟨p4, 0, none⟩) R.length q4) (.slice (some ⟨p5, 0, none⟩) R.length q5) (.slice (some ⟨p6, 0, none⟩) R.length q6) ((⟨8, buf, he, fr, bo, R, nx, T, V⟩ : Sn).to 9)) := S8; clear S8 hb8)
  have b8 : Below w.heap.size w w8 := b0.trans (HB8.out.mono b0.size)
  have z8 : w.heap.size + 1 + 1 < W.heap.size := Nat.lt_of_lt_of_le (Nat.lt_of_lt_of_le (by omega) z0) (Nat.le_refl _)
  dsimp only [Sn.to, Sn.dec, Sn.quit]
  go_wp2
  refine bodyPost_ret (v := .tuple #[.agg #[.int .i64 9, .string buf, .string he, .string fr, .string bo, (.slice (some ⟨p4, 0, none⟩) R.length q4), .int .i64 (nx : Int), (.slice (some ⟨p5, 0, none⟩) R.length q5), (.slice (some ⟨p6, 0, none⟩) R.length q6)], .string ⟨#[]⟩]) (by simp [results, Tryz.results91, go_sem, r0, r1, r2, r3, r4, r5, r6, r7, r8]) rfl ?_
  exact ⟨⟨_, _, _, rfl, (HS8.out.nine (b := w.heap.size + 1 + 1) z8 _ _ _ _ _ _ _ _ _).le (by omega)⟩, below_nine b8 (by omega) _ _ _ _ _ _ _ _ _⟩

set_option maxHeartbeats 4000000 in
set_option maxRecDepth 100000 in
theorem takeB (ph : Int) (buf he fr bo : ByteArray) (R : List ByteArray) (nx : Nat) (T : List Bool) (V : List Vd) (v : Value) (L : List ByteArray) (u1 u2 u3 : Value) (lo lo2 : Nat) (w : World) (hk : (⟨ph, buf, he, fr, bo, R, nx, T, V⟩ : Sn).Ok) (h : SV w lo u1 u2 u3 (⟨ph, buf, he, fr, bo, R, nx, T, V⟩ : Sn)) (hS : Strs w lo2 v L) (h1 : 1 ≤ L.length) (hsz : ∀ x ∈ L, x.size ≤ 1048576) (hb8 : (ph == 8) = false) :
    Calls Tryz.prog 91 #[.agg #[.int .i64 ph, .string buf, .string he, .string fr, .string bo, u1, .int .i64 (nx : Int), u2, u3], .agg #[.int .i64 421, v]] w fun e w' => SQ (((⟨ph, buf, he, fr, bo, R, nx, T, V⟩ : Sn).dec (refV 421 (L.getD 0 ⟨#[]⟩))).to 9, ⟨#[]⟩) w e w' := by
  have H : Hid (SV w lo u1 u2 u3 (⟨ph, buf, he, fr, bo, R, nx, T, V⟩ : Sn)) := h
  have HK : Hid (⟨ph, buf, he, fr, bo, R, nx, T, V⟩ : Sn).Ok := hk
  have HSt : Hid (Strs w lo2 v L) := hS
  have HL1 : Hid (1 ≤ L.length) := h1
  have HLs : Hid (∀ x ∈ L, x.size ≤ 1048576) := hsz
  have hhe : he.size ≤ 1048576 := by have := hk.he; dsimp only at this; omega
  have hfr : fr.size ≤ 1048576 := by have := hk.fr; dsimp only at this; omega
  have hbo : bo.size ≤ 1048576 := by have := hk.bo; dsimp only at this; omega
  obtain ⟨g1, g2, g3, k1, k2, k3, y1, y2, y3⟩ : ∃ g1 g2 g3 k1 k2 k3, u1 = .slice (some ⟨g1, 0, none⟩) R.length k1 ∧ u2 = .slice (some ⟨g2, 0, none⟩) R.length k2 ∧ u3 = .slice (some ⟨g3, 0, none⟩) R.length k3 := h.some hk
  subst y1
  subst y2
  subst y3
  clear h hk hS h1 hsz
  go_enter Tryz.func91, Tryz.ntmps91
  go_wp2_with fail
  generalize hW : World.alloc _ _ = W
  have HA : Hid (Blk w.heap.size #[.int .i64 ph, .string buf, .string he, .string fr, .string bo, (.slice (some ⟨g1, 0, none⟩) R.length k1), .int .i64 (nx : Int), (.slice (some ⟨g2, 0, none⟩) R.length k2), (.slice (some ⟨g3, 0, none⟩) R.length k3)] W) := by show Blk _ _ _; rw [← hW]; exact (blk3 w _ _ _ _ _ _).1
  have HR : Hid (Blk (w.heap.size + 1) #[.int .i64 421, v] W) := by show Blk _ _ _; rw [← hW]; exact (blk3 w _ _ _ _ _ _).2.1
  have HZ : Hid (SB (w.heap.size + 1 + 1) sn0 (.slice none 0 0) (.slice none 0 0) (.slice none 0 0) W) := by show SB _ _ _ _ _ _; rw [← hW]; exact (blk3 w _ _ _ _ _ _).2.2
  have b0 : Below w.heap.size w W := by rw [← hW]; exact below3 _ _ _ _
  have z0 : w.heap.size + 3 ≤ W.heap.size := by rw [← hW]; simp
  clear hW
  obtain ⟨t0, t1, t2, t3, t4, t5, t6, t7, t8⟩ : W.cell? ⟨w.heap.size, 0, none⟩ = some (.int .i64 ph) ∧ W.cell? ⟨w.heap.size, 1, none⟩ = some (.string buf) ∧ W.cell? ⟨w.heap.size, 2, none⟩ = some (.string he) ∧ W.cell? ⟨w.heap.size, 3, none⟩ = some (.string fr) ∧ W.cell? ⟨w.heap.size, 4, none⟩ = some (.string bo) ∧ W.cell? ⟨w.heap.size, 5, none⟩ = some ((.slice (some ⟨g1, 0, none⟩) R.length k1)) ∧ W.cell? ⟨w.heap.size, 6, none⟩ = some (.int .i64 (nx : Int)) ∧ W.cell? ⟨w.heap.size, 7, none⟩ = some ((.slice (some ⟨g2, 0, none⟩) R.length k2)) ∧ W.cell? ⟨w.heap.size, 8, none⟩ = some ((.slice (some ⟨g3, 0, none⟩) R.length k3)) := ⟨HA.out.cell 0, HA.out.cell 1, HA.out.cell 2, HA.out.cell 3, HA.out.cell 4, HA.out.cell 5, HA.out.cell 6, HA.out.cell 7, HA.out.cell 8⟩
  have s0 : W.cell? ⟨w.heap.size + 1, 0, none⟩ = some (.int .i64 421) := HR.out.cell 0
  have s1 : W.cell? ⟨w.heap.size + 1, 1, none⟩ = some v := HR.out.cell 1
  go_region_with (first | (go_at_call 123; refine (specNo 421 v L lo2 _ (strs_below HSt.out (b0.trans (by repeat (first | exact Below.refl _ _ | refine Below.drew ?_))) (Nat.le_refl _)) HL1.out).mono ?_; rintro e w7 ⟨rfl, hb7⟩; have HB7 : Hid (Below W.heap.size W w7) := ((Below.refl W.heap.size W).drew).trans hb7; have HA7 : Hid (Blk w.heap.size #[.int .i64 ph, .string buf, .string he, .string fr, .string bo, (.slice (some ⟨g1, 0, none⟩) R.length k1), .int .i64 (nx : Int), (.slice (some ⟨g2, 0, none⟩) R.length k2), (.slice (some ⟨g3, 0, none⟩) R.length k3)] w7) := Blk.below HA.out HB7.out; have HR7 : Hid (Blk (w.heap.size + 1) #[.int .i64 421, v] w7) := Blk.below HR.out HB7.out; obtain ⟨j0, j1, j2, j3, j4, j5, j6, j7, j8⟩ : w7.cell? ⟨w.heap.size, 0, none⟩ = some (.int .i64 ph) ∧ w7.cell? ⟨w.heap.size, 1, none⟩ = some (.string buf) ∧ w7.cell? ⟨w.heap.size, 2, none⟩ = some (.string he) ∧ w7.cell? ⟨w.heap.size, 3, none⟩ = some (.string fr) ∧ w7.cell? ⟨w.heap.size, 4, none⟩ = some (.string bo) ∧ w7.cell? ⟨w.heap.size, 5, none⟩ = some ((.slice (some ⟨g1, 0, none⟩) R.length k1)) ∧ w7.cell? ⟨w.heap.size, 6, none⟩ = some (.int .i64 (nx : Int)) ∧ w7.cell? ⟨w.heap.size, 7, none⟩ = some ((.slice (some ⟨g2, 0, none⟩) R.length k2)) ∧ w7.cell? ⟨w.heap.size, 8, none⟩ = some ((.slice (some ⟨g3, 0, none⟩) R.length k3)) := ⟨HA7.out.cell 0, HA7.out.cell 1, HA7.out.cell 2, HA7.out.cell 3, HA7.out.cell 4, HA7.out.cell 5, HA7.out.cell 6, HA7.out.cell 7, HA7.out.cell 8⟩; have o0 : w7.cell? ⟨w.heap.size + 1, 0, none⟩ = some (.int .i64 421) := HR7.out.cell 0; have o1 : w7.cell? ⟨w.heap.size + 1, 1, none⟩ = some v := HR7.out.cell 1; clear hb7) | (go_at_call 89; refine (specDecide (⟨ph, buf, he, fr, bo, R, nx, T, V⟩ : Sn) (refV 421 (L.getD 0 ⟨#[]⟩)) _ _ _ lo _ HK.out (H.out.below (b0.trans (HB7.out.mono b0.size)) (Nat.le_refl _))).mono ?_; rintro e w9 ⟨⟨x1, x2, x3, rfl, S9⟩, hb9⟩; obtain ⟨a4, a5, a6, c4, c5, c6, y4, y5, y6⟩ : ∃ a4 a5 a6 c4 c5 c6, x1 = .slice (some ⟨a4, 0, none⟩) R.length c4 ∧ x2 = .slice (some ⟨a5, 0, none⟩) R.length c5 ∧ x3 = .slice (some ⟨a6, 0, none⟩) R.length c6 := S9.someW ⟨HK.out.t, (decV_len _ _).trans HK.out.v, HK.out.r1, HK.out.r20⟩; subst y4; subst y5; subst y6; have HB9 : Hid (Below W.heap.size W w9) := HB7.out.trans (hb9.mono HB7.out.size); have HS9 : Hid (SV w9 w7.heap.size (.slice (some ⟨a4, 0, none⟩) R.length c4) (.slice (some ⟨a5, 0, none⟩) R.length c5) (.slice (some ⟨a6, 0, none⟩) R.length c6) ((⟨ph, buf, he, fr, bo, R, nx, T, V⟩ : Sn).dec (refV 421 (L.getD 0 ⟨#[]⟩)))) := S9; clear S9 hb9) | (go_at_call 122; refine (specTo ((⟨ph, buf, he, fr, bo, R, nx, T, V⟩ : Sn).dec (refV 421 (L.getD 0 ⟨#[]⟩))) 9 ⟨#[]⟩ _ _ _ w7.heap.size _ ⟨HK.out.t, (decV_len _ _).trans HK.out.v, HK.out.r1, HK.out.r20⟩ HS9.out).mono ?_; rintro e w8 ⟨⟨v1, v2, v3, rfl, S8⟩, hb8⟩; obtain ⟨p4, p5, p6, q4, q5, q6, y4, y5, y6⟩ : ∃ p4 p5 p6 q4 q5 q6, v1 = .slice (some ⟨p4, 0, none⟩) R.length q4 ∧ v2 = .slice (some ⟨p5, 0, none⟩) R.length q5 ∧ v3 = .slice (some ⟨p6, 0, none⟩) R.length q6 := S8.someW ⟨by first | exact HK.out.t | (show (_ : List Bool).length = _; exact HK.out.t), by first | exact HK.out.v | exact (decV_len _ _).trans HK.out.v, HK.out.r1, HK.out.r20⟩; subst y4; subst y5; subst y6; have HB8 : Hid (Below W.heap.size W w8) := HB9.out.trans (hb8.mono HB9.out.size); have HZ8 : Hid (SB (w.heap.size + 1 + 1) sn0 (.slice none 0 0) (.slice none 0 0) (.slice none 0 0) w8) := SB.below HZ.out HB8.out; obtain ⟨r0, r1, r2, r3, r4, r5, r6, r7, r8⟩ := HZ8.out.zero; obtain ⟨rf0, rf1, rf2, rf3, rf4, rf5, rf6, rf7, rf8⟩ := HZ8.out.frees; have zl : w.heap.size + 1 + 1 < w8.heap.size := HZ8.out.lt; have HS8 : Hid (SV w8 w9.heap.size (.slice (some ⟨p4, 0, none⟩) R.length q4) (.slice (some ⟨p5, 0, none⟩) R.length q5) (.slice (some ⟨p6, 0, none⟩) R.length q6) (((⟨ph, buf, he, fr, bo, R, nx, T, V⟩ : Sn).dec (refV 421 (L.getD 0 ⟨#[]⟩))).to 9)) := S8; clear S8 hb8))
  all_goals
    have b8 : Below w.heap.size w w8 := b0.trans (HB8.out.mono b0.size)
    have z8 : w.heap.size + 1 + 1 < w9.heap.size := Nat.lt_of_lt_of_le (Nat.lt_of_lt_of_le (by omega) z0) HB9.out.size
    dsimp only [Sn.to, Sn.dec, Sn.quit]
    go_wp2
    refine bodyPost_ret (v := .tuple #[.agg #[.int .i64 9, .string buf, .string he, .string fr, .string bo, (.slice (some ⟨p4, 0, none⟩) R.length q4), .int .i64 (nx : Int), (.slice (some ⟨p5, 0, none⟩) R.length q5), (.slice (some ⟨p6, 0, none⟩) R.length q6)], .string ⟨#[]⟩]) (by simp [results, Tryz.results91, go_sem, r0, r1, r2, r3, r4, r5, r6, r7, r8]) rfl ?_
    exact ⟨⟨_, _, _, rfl, (HS8.out.nine (b := w.heap.size + 1 + 1) z8 _ _ _ _ _ _ _ _ _).le (by omega)⟩, below_nine b8 (by omega) _ _ _ _ _ _ _ _ _⟩
end Go.Proofs.YtngcjlghjidnjaaGreatDoor
namespace Go.Proofs.YtngcjlghjidnjaaGreatDoor
open Go.ChangeShapes Go.WideShapes Go.ChangeAt Go.RowKit
attribute [local go_sem ↓] Go.wp_at_zero Go.wp_at_succ

set_option maxHeartbeats 4000000 in
set_option maxRecDepth 100000 in
theorem takeC250 (buf he fr bo : ByteArray) (R : List ByteArray) (nx : Nat) (T : List Bool) (V : List Vd) (v : Value) (L : List ByteArray) (u1 u2 u3 : Value) (lo lo2 : Nat) (w : World) (hk : (⟨5, buf, he, fr, bo, R, nx, T, V⟩ : Sn).Ok) (h : SV w lo u1 u2 u3 (⟨5, buf, he, fr, bo, R, nx, T, V⟩ : Sn)) (hS : Strs w lo2 v L) (h1 : 1 ≤ L.length) (hsz : ∀ x ∈ L, x.size ≤ 1048576) :
    Calls Tryz.prog 91 #[.agg #[.int .i64 5, .string buf, .string he, .string fr, .string bo, u1, .int .i64 (nx : Int), u2, u3], .agg #[.int .i64 250, v]] w fun e w' => SQ (((⟨5, buf, he, fr, bo, R, nx, T, V⟩ : Sn).mark 250 (L.getD 0 ⟨#[]⟩)).next) w e w' := by
  have H : Hid (SV w lo u1 u2 u3 (⟨5, buf, he, fr, bo, R, nx, T, V⟩ : Sn)) := h
  have HK : Hid (⟨5, buf, he, fr, bo, R, nx, T, V⟩ : Sn).Ok := hk
  have HSt : Hid (Strs w lo2 v L) := hS
  have HL1 : Hid (1 ≤ L.length) := h1
  have HLs : Hid (∀ x ∈ L, x.size ≤ 1048576) := hsz
  have hhe : he.size ≤ 1048576 := by have := hk.he; dsimp only at this; omega
  have hfr : fr.size ≤ 1048576 := by have := hk.fr; dsimp only at this; omega
  have hbo : bo.size ≤ 1048576 := by have := hk.bo; dsimp only at this; omega
  obtain ⟨g1, g2, g3, k1, k2, k3, y1, y2, y3⟩ : ∃ g1 g2 g3 k1 k2 k3, u1 = .slice (some ⟨g1, 0, none⟩) R.length k1 ∧ u2 = .slice (some ⟨g2, 0, none⟩) R.length k2 ∧ u3 = .slice (some ⟨g3, 0, none⟩) R.length k3 := h.some hk
  subst y1
  subst y2
  subst y3
  have HP : Hid ((((⟨5, buf, he, fr, bo, R, nx, T, V⟩ : Sn).mark 250 (L.getD 0 ⟨#[]⟩)).next).1.Ok) := hk.rcpt _ _ rfl
  clear h hk hS h1 hsz
  go_enter Tryz.func91, Tryz.ntmps91
  go_wp2_with fail
  generalize hW : World.alloc _ _ = W
  have HA : Hid (Blk w.heap.size #[.int .i64 5, .string buf, .string he, .string fr, .string bo, (.slice (some ⟨g1, 0, none⟩) R.length k1), .int .i64 (nx : Int), (.slice (some ⟨g2, 0, none⟩) R.length k2), (.slice (some ⟨g3, 0, none⟩) R.length k3)] W) := by show Blk _ _ _; rw [← hW]; exact ((blk3 w _ _ _ _ _ _).1).below (below1 _ _)
  have HR : Hid (Blk (w.heap.size + 1) #[.int .i64 250, v] W) := by show Blk _ _ _; rw [← hW]; exact ((blk3 w _ _ _ _ _ _).2.1).below (below1 _ _)
  have HZ : Hid (SB (w.heap.size + 1 + 1) sn0 (.slice none 0 0) (.slice none 0 0) (.slice none 0 0) W) := by show SB _ _ _ _ _ _; rw [← hW]; exact ((blk3 w _ _ _ _ _ _).2.2).below (below1 _ _)
  have b0 : Below w.heap.size w W := by rw [← hW]; exact (below3 _ _ _ _).trans ((below1 _ _).mono (by simp; omega))
  have z0 : w.heap.size + 3 ≤ W.heap.size := by rw [← hW]; simp
  clear hW
  refine (specRcptY (⟨5, buf, he, fr, bo, R, nx, T, V⟩ : Sn) 250 (L.getD 0 ⟨#[]⟩) v _ _ _ lo W HK.out rfl (H.out.below b0 (Nat.le_refl _)) (by decide)).mono ?_
  rintro e w8 ⟨⟨v1, v2, v3, rfl, S8⟩, hb8⟩
  generalize hPe : ((⟨5, buf, he, fr, bo, R, nx, T, V⟩ : Sn).mark 250 (L.getD 0 ⟨#[]⟩)).next = P at *
  have HPe : Hid (((⟨5, buf, he, fr, bo, R, nx, T, V⟩ : Sn).mark 250 (L.getD 0 ⟨#[]⟩)).next = P) := hPe
  clear hPe
  (obtain ⟨p4, p5, p6, q4, q5, q6, y4, y5, y6⟩ : ∃ p4 p5 p6 q4 q5 q6, v1 = .slice (some ⟨p4, 0, none⟩) P.1.R.length q4 ∧ v2 = .slice (some ⟨p5, 0, none⟩) P.1.R.length q5 ∧ v3 = .slice (some ⟨p6, 0, none⟩) P.1.R.length q6 := S8.someW HP.out.wf; subst y4; subst y5; subst y6)
  have HZ8 : Hid (SB (w.heap.size + 1 + 1) sn0 (.slice none 0 0) (.slice none 0 0) (.slice none 0 0) w8) := SB.below HZ.out hb8
  obtain ⟨r0, r1, r2, r3, r4, r5, r6, r7, r8⟩ := HZ8.out.zero
  obtain ⟨rf0, rf1, rf2, rf3, rf4, rf5, rf6, rf7, rf8⟩ := HZ8.out.frees
  have zl : w.heap.size + 1 + 1 < w8.heap.size := HZ8.out.lt
  have HS8 : Hid (SV w8 W.heap.size (.slice (some ⟨p4, 0, none⟩) P.1.R.length q4) (.slice (some ⟨p5, 0, none⟩) P.1.R.length q5) (.slice (some ⟨p6, 0, none⟩) P.1.R.length q6) P.1) := S8
  have b8 : Below w.heap.size w w8 := b0.trans (hb8.mono b0.size)
  clear S8 hb8
  go_wp2
  refine bodyPost_ret (v := .tuple #[.agg #[.int .i64 P.1.ph, .string P.1.buf, .string P.1.he, .string P.1.fr, .string P.1.bo, (.slice (some ⟨p4, 0, none⟩) P.1.R.length q4), .int .i64 (P.1.nx : Int), (.slice (some ⟨p5, 0, none⟩) P.1.R.length q5), (.slice (some ⟨p6, 0, none⟩) P.1.R.length q6)], .string P.2]) (by simp [results, Tryz.results91, go_sem, r0, r1, r2, r3, r4, r5, r6, r7, r8]) rfl ?_
  rw [HPe.out]
  exact ⟨⟨_, _, _, rfl, (HS8.out.nine (b := w.heap.size + 1 + 1) (by omega) _ _ _ _ _ _ _ _ _).le (by omega)⟩, below_nine b8 (by omega) _ _ _ _ _ _ _ _ _⟩

set_option maxHeartbeats 4000000 in
set_option maxRecDepth 100000 in
theorem takeC251 (buf he fr bo : ByteArray) (R : List ByteArray) (nx : Nat) (T : List Bool) (V : List Vd) (v : Value) (L : List ByteArray) (u1 u2 u3 : Value) (lo lo2 : Nat) (w : World) (hk : (⟨5, buf, he, fr, bo, R, nx, T, V⟩ : Sn).Ok) (h : SV w lo u1 u2 u3 (⟨5, buf, he, fr, bo, R, nx, T, V⟩ : Sn)) (hS : Strs w lo2 v L) (h1 : 1 ≤ L.length) (hsz : ∀ x ∈ L, x.size ≤ 1048576) :
    Calls Tryz.prog 91 #[.agg #[.int .i64 5, .string buf, .string he, .string fr, .string bo, u1, .int .i64 (nx : Int), u2, u3], .agg #[.int .i64 251, v]] w fun e w' => SQ (((⟨5, buf, he, fr, bo, R, nx, T, V⟩ : Sn).mark 251 (L.getD 0 ⟨#[]⟩)).next) w e w' := by
  have H : Hid (SV w lo u1 u2 u3 (⟨5, buf, he, fr, bo, R, nx, T, V⟩ : Sn)) := h
  have HK : Hid (⟨5, buf, he, fr, bo, R, nx, T, V⟩ : Sn).Ok := hk
  have HSt : Hid (Strs w lo2 v L) := hS
  have HL1 : Hid (1 ≤ L.length) := h1
  have HLs : Hid (∀ x ∈ L, x.size ≤ 1048576) := hsz
  have hhe : he.size ≤ 1048576 := by have := hk.he; dsimp only at this; omega
  have hfr : fr.size ≤ 1048576 := by have := hk.fr; dsimp only at this; omega
  have hbo : bo.size ≤ 1048576 := by have := hk.bo; dsimp only at this; omega
  obtain ⟨g1, g2, g3, k1, k2, k3, y1, y2, y3⟩ : ∃ g1 g2 g3 k1 k2 k3, u1 = .slice (some ⟨g1, 0, none⟩) R.length k1 ∧ u2 = .slice (some ⟨g2, 0, none⟩) R.length k2 ∧ u3 = .slice (some ⟨g3, 0, none⟩) R.length k3 := h.some hk
  subst y1
  subst y2
  subst y3
  have HP : Hid ((((⟨5, buf, he, fr, bo, R, nx, T, V⟩ : Sn).mark 251 (L.getD 0 ⟨#[]⟩)).next).1.Ok) := hk.rcpt _ _ rfl
  clear h hk hS h1 hsz
  go_enter Tryz.func91, Tryz.ntmps91
  go_wp2_with fail
  generalize hW : World.alloc _ _ = W
  have HA : Hid (Blk w.heap.size #[.int .i64 5, .string buf, .string he, .string fr, .string bo, (.slice (some ⟨g1, 0, none⟩) R.length k1), .int .i64 (nx : Int), (.slice (some ⟨g2, 0, none⟩) R.length k2), (.slice (some ⟨g3, 0, none⟩) R.length k3)] W) := by show Blk _ _ _; rw [← hW]; exact ((blk3 w _ _ _ _ _ _).1).below (below1 _ _)
  have HR : Hid (Blk (w.heap.size + 1) #[.int .i64 251, v] W) := by show Blk _ _ _; rw [← hW]; exact ((blk3 w _ _ _ _ _ _).2.1).below (below1 _ _)
  have HZ : Hid (SB (w.heap.size + 1 + 1) sn0 (.slice none 0 0) (.slice none 0 0) (.slice none 0 0) W) := by show SB _ _ _ _ _ _; rw [← hW]; exact ((blk3 w _ _ _ _ _ _).2.2).below (below1 _ _)
  have b0 : Below w.heap.size w W := by rw [← hW]; exact (below3 _ _ _ _).trans ((below1 _ _).mono (by simp; omega))
  have z0 : w.heap.size + 3 ≤ W.heap.size := by rw [← hW]; simp
  clear hW
  refine (specRcptY (⟨5, buf, he, fr, bo, R, nx, T, V⟩ : Sn) 251 (L.getD 0 ⟨#[]⟩) v _ _ _ lo W HK.out rfl (H.out.below b0 (Nat.le_refl _)) (by decide)).mono ?_
  rintro e w8 ⟨⟨v1, v2, v3, rfl, S8⟩, hb8⟩
  generalize hPe : ((⟨5, buf, he, fr, bo, R, nx, T, V⟩ : Sn).mark 251 (L.getD 0 ⟨#[]⟩)).next = P at *
  have HPe : Hid (((⟨5, buf, he, fr, bo, R, nx, T, V⟩ : Sn).mark 251 (L.getD 0 ⟨#[]⟩)).next = P) := hPe
  clear hPe
  (obtain ⟨p4, p5, p6, q4, q5, q6, y4, y5, y6⟩ : ∃ p4 p5 p6 q4 q5 q6, v1 = .slice (some ⟨p4, 0, none⟩) P.1.R.length q4 ∧ v2 = .slice (some ⟨p5, 0, none⟩) P.1.R.length q5 ∧ v3 = .slice (some ⟨p6, 0, none⟩) P.1.R.length q6 := S8.someW HP.out.wf; subst y4; subst y5; subst y6)
  have HZ8 : Hid (SB (w.heap.size + 1 + 1) sn0 (.slice none 0 0) (.slice none 0 0) (.slice none 0 0) w8) := SB.below HZ.out hb8
  obtain ⟨r0, r1, r2, r3, r4, r5, r6, r7, r8⟩ := HZ8.out.zero
  obtain ⟨rf0, rf1, rf2, rf3, rf4, rf5, rf6, rf7, rf8⟩ := HZ8.out.frees
  have zl : w.heap.size + 1 + 1 < w8.heap.size := HZ8.out.lt
  have HS8 : Hid (SV w8 W.heap.size (.slice (some ⟨p4, 0, none⟩) P.1.R.length q4) (.slice (some ⟨p5, 0, none⟩) P.1.R.length q5) (.slice (some ⟨p6, 0, none⟩) P.1.R.length q6) P.1) := S8
  have b8 : Below w.heap.size w w8 := b0.trans (hb8.mono b0.size)
  clear S8 hb8
  go_wp2
  refine bodyPost_ret (v := .tuple #[.agg #[.int .i64 P.1.ph, .string P.1.buf, .string P.1.he, .string P.1.fr, .string P.1.bo, (.slice (some ⟨p4, 0, none⟩) P.1.R.length q4), .int .i64 (P.1.nx : Int), (.slice (some ⟨p5, 0, none⟩) P.1.R.length q5), (.slice (some ⟨p6, 0, none⟩) P.1.R.length q6)], .string P.2]) (by simp [results, Tryz.results91, go_sem, r0, r1, r2, r3, r4, r5, r6, r7, r8]) rfl ?_
  rw [HPe.out]
  exact ⟨⟨_, _, _, rfl, (HS8.out.nine (b := w.heap.size + 1 + 1) (by omega) _ _ _ _ _ _ _ _ _).le (by omega)⟩, below_nine b8 (by omega) _ _ _ _ _ _ _ _ _⟩

set_option maxHeartbeats 4000000 in
set_option maxRecDepth 100000 in
theorem takeCN (buf he fr bo : ByteArray) (R : List ByteArray) (nx : Nat) (T : List Bool) (V : List Vd) (c : Nat) (v : Value) (L : List ByteArray) (u1 u2 u3 : Value) (lo lo2 : Nat) (w : World) (hk : (⟨5, buf, he, fr, bo, R, nx, T, V⟩ : Sn).Ok) (h : SV w lo u1 u2 u3 (⟨5, buf, he, fr, bo, R, nx, T, V⟩ : Sn)) (hS : Strs w lo2 v L) (h1 : 1 ≤ L.length) (hsz : ∀ x ∈ L, x.size ≤ 1048576) (hc : ¬ (c = 250 ∨ c = 251)) (hb250 : ((c : Int) == 250) = false) (hb251 : ((c : Int) == 251) = false) (hb421 : ((c : Int) == 421) = false) :
    Calls Tryz.prog 91 #[.agg #[.int .i64 5, .string buf, .string he, .string fr, .string bo, u1, .int .i64 (nx : Int), u2, u3], .agg #[.int .i64 (c : Int), v]] w fun e w' => SQ (((⟨5, buf, he, fr, bo, R, nx, T, V⟩ : Sn).mark c (L.getD 0 ⟨#[]⟩)).next) w e w' := by
  have H : Hid (SV w lo u1 u2 u3 (⟨5, buf, he, fr, bo, R, nx, T, V⟩ : Sn)) := h
  have HK : Hid (⟨5, buf, he, fr, bo, R, nx, T, V⟩ : Sn).Ok := hk
  have HSt : Hid (Strs w lo2 v L) := hS
  have HL1 : Hid (1 ≤ L.length) := h1
  have HLs : Hid (∀ x ∈ L, x.size ≤ 1048576) := hsz
  have hhe : he.size ≤ 1048576 := by have := hk.he; dsimp only at this; omega
  have hfr : fr.size ≤ 1048576 := by have := hk.fr; dsimp only at this; omega
  have hbo : bo.size ≤ 1048576 := by have := hk.bo; dsimp only at this; omega
  obtain ⟨g1, g2, g3, k1, k2, k3, y1, y2, y3⟩ : ∃ g1 g2 g3 k1 k2 k3, u1 = .slice (some ⟨g1, 0, none⟩) R.length k1 ∧ u2 = .slice (some ⟨g2, 0, none⟩) R.length k2 ∧ u3 = .slice (some ⟨g3, 0, none⟩) R.length k3 := h.some hk
  subst y1
  subst y2
  subst y3
  have HP : Hid ((((⟨5, buf, he, fr, bo, R, nx, T, V⟩ : Sn).mark c (L.getD 0 ⟨#[]⟩)).next).1.Ok) := hk.rcpt _ _ rfl
  have HC : Hid (¬ (c = 250 ∨ c = 251)) := hc
  clear h hk hS h1 hsz hc
  go_enter Tryz.func91, Tryz.ntmps91
  go_wp2_with fail
  generalize hW : World.alloc _ _ = W
  have HA : Hid (Blk w.heap.size #[.int .i64 5, .string buf, .string he, .string fr, .string bo, (.slice (some ⟨g1, 0, none⟩) R.length k1), .int .i64 (nx : Int), (.slice (some ⟨g2, 0, none⟩) R.length k2), (.slice (some ⟨g3, 0, none⟩) R.length k3)] W) := by show Blk _ _ _; rw [← hW]; exact ((blk3 w _ _ _ _ _ _).1).below (below1 _ _)
  have HR : Hid (Blk (w.heap.size + 1) #[.int .i64 (c : Int), v] W) := by show Blk _ _ _; rw [← hW]; exact ((blk3 w _ _ _ _ _ _).2.1).below (below1 _ _)
  have HZ : Hid (SB (w.heap.size + 1 + 1) sn0 (.slice none 0 0) (.slice none 0 0) (.slice none 0 0) W) := by show SB _ _ _ _ _ _; rw [← hW]; exact ((blk3 w _ _ _ _ _ _).2.2).below (below1 _ _)
  have b0 : Below w.heap.size w W := by rw [← hW]; exact (below3 _ _ _ _).trans ((below1 _ _).mono (by simp; omega))
  have z0 : w.heap.size + 3 ≤ W.heap.size := by rw [← hW]; simp
  clear hW
  refine (specRcptN (⟨5, buf, he, fr, bo, R, nx, T, V⟩ : Sn) c L v _ _ _ lo lo2 W HK.out rfl (H.out.below b0 (Nat.le_refl _)) (strs_below HSt.out b0 (Nat.le_refl _)) HL1.out HC.out).mono ?_
  rintro e w8 ⟨⟨v1, v2, v3, rfl, S8⟩, hb8⟩
  generalize hPe : ((⟨5, buf, he, fr, bo, R, nx, T, V⟩ : Sn).mark c (L.getD 0 ⟨#[]⟩)).next = P at *
  have HPe : Hid (((⟨5, buf, he, fr, bo, R, nx, T, V⟩ : Sn).mark c (L.getD 0 ⟨#[]⟩)).next = P) := hPe
  clear hPe
  (obtain ⟨p4, p5, p6, q4, q5, q6, y4, y5, y6⟩ : ∃ p4 p5 p6 q4 q5 q6, v1 = .slice (some ⟨p4, 0, none⟩) P.1.R.length q4 ∧ v2 = .slice (some ⟨p5, 0, none⟩) P.1.R.length q5 ∧ v3 = .slice (some ⟨p6, 0, none⟩) P.1.R.length q6 := S8.someW HP.out.wf; subst y4; subst y5; subst y6)
  have HZ8 : Hid (SB (w.heap.size + 1 + 1) sn0 (.slice none 0 0) (.slice none 0 0) (.slice none 0 0) w8) := SB.below HZ.out hb8
  obtain ⟨r0, r1, r2, r3, r4, r5, r6, r7, r8⟩ := HZ8.out.zero
  obtain ⟨rf0, rf1, rf2, rf3, rf4, rf5, rf6, rf7, rf8⟩ := HZ8.out.frees
  have zl : w.heap.size + 1 + 1 < w8.heap.size := HZ8.out.lt
  have HS8 : Hid (SV w8 W.heap.size (.slice (some ⟨p4, 0, none⟩) P.1.R.length q4) (.slice (some ⟨p5, 0, none⟩) P.1.R.length q5) (.slice (some ⟨p6, 0, none⟩) P.1.R.length q6) P.1) := S8
  have b8 : Below w.heap.size w w8 := b0.trans (hb8.mono b0.size)
  clear S8 hb8
  go_wp2
  refine bodyPost_ret (v := .tuple #[.agg #[.int .i64 P.1.ph, .string P.1.buf, .string P.1.he, .string P.1.fr, .string P.1.bo, (.slice (some ⟨p4, 0, none⟩) P.1.R.length q4), .int .i64 (P.1.nx : Int), (.slice (some ⟨p5, 0, none⟩) P.1.R.length q5), (.slice (some ⟨p6, 0, none⟩) P.1.R.length q6)], .string P.2]) (by simp [results, Tryz.results91, go_sem, r0, r1, r2, r3, r4, r5, r6, r7, r8]) rfl ?_
  rw [HPe.out]
  exact ⟨⟨_, _, _, rfl, (HS8.out.nine (b := w.heap.size + 1 + 1) (by omega) _ _ _ _ _ _ _ _ _).le (by omega)⟩, below_nine b8 (by omega) _ _ _ _ _ _ _ _ _⟩
end Go.Proofs.YtngcjlghjidnjaaGreatDoor
namespace Go.Proofs.YtngcjlghjidnjaaGreatDoor
open Go.ChangeShapes Go.WideShapes Go.ChangeAt Go.RowKit
attribute [local go_sem ↓] Go.wp_at_zero Go.wp_at_succ

set_option maxHeartbeats 4000000 in
set_option maxRecDepth 100000 in
theorem takeG1 (buf he fr bo : ByteArray) (R : List ByteArray) (nx : Nat) (T : List Bool) (V : List Vd) (v : Value) (L : List ByteArray) (u1 u2 u3 : Value) (lo lo2 : Nat) (w : World) (hk : (⟨2, buf, he, fr, bo, R, nx, T, V⟩ : Sn).Ok) (h : SV w lo u1 u2 u3 (⟨2, buf, he, fr, bo, R, nx, T, V⟩ : Sn)) (hS : Strs w lo2 v L) (h1 : 1 ≤ L.length) (hsz : ∀ x ∈ L, x.size ≤ 1048576) (K : Nat) (Q : Bool) (hSz : ∀ wx, Below w.heap.size w wx → Calls Tryz.prog 127 #[v] wx fun e w' => e = .returned (.tuple #[.int .i64 (K : Int), .bool Q]) ∧ Below wx.heap.size wx w') (hQ : Q = true) (hK0 : 0 < K) (hK1 : K < bo.size) :
    Calls Tryz.prog 91 #[.agg #[.int .i64 2, .string buf, .string he, .string fr, .string bo, u1, .int .i64 (nx : Int), u2, u3], .agg #[.int .i64 250, v]] w fun e w' => SQ ((⟨2, buf, he, fr, bo, R, nx, T, V⟩ : Sn).quit (3, 552, ⟨#[115, 105, 122, 101]⟩)) w e w' := by
  have H : Hid (SV w lo u1 u2 u3 (⟨2, buf, he, fr, bo, R, nx, T, V⟩ : Sn)) := h
  have HK : Hid (⟨2, buf, he, fr, bo, R, nx, T, V⟩ : Sn).Ok := hk
  have HSt : Hid (Strs w lo2 v L) := hS
  have HL1 : Hid (1 ≤ L.length) := h1
  have HLs : Hid (∀ x ∈ L, x.size ≤ 1048576) := hsz
  have hhe : he.size ≤ 1048576 := by have := hk.he; dsimp only at this; omega
  have hfr : fr.size ≤ 1048576 := by have := hk.fr; dsimp only at this; omega
  have hbo : bo.size ≤ 1048576 := by have := hk.bo; dsimp only at this; omega
  obtain ⟨g1, g2, g3, k1, k2, k3, y1, y2, y3⟩ : ∃ g1 g2 g3 k1 k2 k3, u1 = .slice (some ⟨g1, 0, none⟩) R.length k1 ∧ u2 = .slice (some ⟨g2, 0, none⟩) R.length k2 ∧ u3 = .slice (some ⟨g3, 0, none⟩) R.length k3 := h.some hk
  subst y1
  subst y2
  subst y3
  have HSz : Hid (∀ wx, Below w.heap.size w wx → Calls Tryz.prog 127 #[v] wx fun e w' => e = .returned (.tuple #[.int .i64 (K : Int), .bool Q]) ∧ Below wx.heap.size wx w') := hSz
  clear h hk hS h1 hsz hSz
  subst hQ
  go_enter Tryz.func91, Tryz.ntmps91
  go_wp2_with fail
  generalize hW : World.alloc _ _ = W
  have HA : Hid (Blk w.heap.size #[.int .i64 2, .string buf, .string he, .string fr, .string bo, (.slice (some ⟨g1, 0, none⟩) R.length k1), .int .i64 (nx : Int), (.slice (some ⟨g2, 0, none⟩) R.length k2), (.slice (some ⟨g3, 0, none⟩) R.length k3)] W) := by show Blk _ _ _; rw [← hW]; exact ((blk3 w _ _ _ _ _ _).1).below (below1 _ _)
  have HR : Hid (Blk (w.heap.size + 1) #[.int .i64 250, v] W) := by show Blk _ _ _; rw [← hW]; exact ((blk3 w _ _ _ _ _ _).2.1).below (below1 _ _)
  have HZ : Hid (SB (w.heap.size + 1 + 1) sn0 (.slice none 0 0) (.slice none 0 0) (.slice none 0 0) W) := by show SB _ _ _ _ _ _; rw [← hW]; exact ((blk3 w _ _ _ _ _ _).2.2).below (below1 _ _)
  have b0 : Below w.heap.size w W := by rw [← hW]; exact (below3 _ _ _ _).trans ((below1 _ _).mono (by simp; omega))
  have z0 : w.heap.size + 3 ≤ W.heap.size := by rw [← hW]; simp
  clear hW
  refine (HSz.out _ b0).mono ?_
  rintro e w1 ⟨rfl, hb1⟩
  have HA1 : Hid (Blk w.heap.size #[.int .i64 2, .string buf, .string he, .string fr, .string bo, (.slice (some ⟨g1, 0, none⟩) R.length k1), .int .i64 (nx : Int), (.slice (some ⟨g2, 0, none⟩) R.length k2), (.slice (some ⟨g3, 0, none⟩) R.length k3)] w1) := Blk.below HA.out hb1
  have HR1 : Hid (Blk (w.heap.size + 1) #[.int .i64 250, v] w1) := Blk.below HR.out hb1
  have HZ1 : Hid (SB (w.heap.size + 1 + 1) sn0 (.slice none 0 0) (.slice none 0 0) (.slice none 0 0) w1) := SB.below HZ.out hb1
  have b1 : Below w.heap.size w w1 := b0.trans (hb1.mono b0.size)
  have z1 : w.heap.size + 3 ≤ w1.heap.size := Nat.le_trans z0 hb1.size
  clear HA HR HZ b0 hb1 HSz z0
  obtain ⟨t0, t1, t2, t3, t4, t5, t6, t7, t8⟩ : w1.cell? ⟨w.heap.size, 0, none⟩ = some (.int .i64 2) ∧ w1.cell? ⟨w.heap.size, 1, none⟩ = some (.string buf) ∧ w1.cell? ⟨w.heap.size, 2, none⟩ = some (.string he) ∧ w1.cell? ⟨w.heap.size, 3, none⟩ = some (.string fr) ∧ w1.cell? ⟨w.heap.size, 4, none⟩ = some (.string bo) ∧ w1.cell? ⟨w.heap.size, 5, none⟩ = some ((.slice (some ⟨g1, 0, none⟩) R.length k1)) ∧ w1.cell? ⟨w.heap.size, 6, none⟩ = some (.int .i64 (nx : Int)) ∧ w1.cell? ⟨w.heap.size, 7, none⟩ = some ((.slice (some ⟨g2, 0, none⟩) R.length k2)) ∧ w1.cell? ⟨w.heap.size, 8, none⟩ = some ((.slice (some ⟨g3, 0, none⟩) R.length k3)) := ⟨HA1.out.cell 0, HA1.out.cell 1, HA1.out.cell 2, HA1.out.cell 3, HA1.out.cell 4, HA1.out.cell 5, HA1.out.cell 6, HA1.out.cell 7, HA1.out.cell 8⟩
  have s0 : w1.cell? ⟨w.heap.size + 1, 0, none⟩ = some (.int .i64 250) := HR1.out.cell 0
  have s1 : w1.cell? ⟨w.heap.size + 1, 1, none⟩ = some v := HR1.out.cell 1
  go_wp2_with fail
  refine (specQuit (⟨2, buf, he, fr, bo, R, nx, T, V⟩ : Sn) (3, 552, ⟨#[115, 105, 122, 101]⟩) _ _ _ lo w1 HK.out (H.out.below b1 (Nat.le_refl _))).mono ?_
  rintro e w8 ⟨⟨v1, v2, v3, rfl, S8⟩, hb8⟩
  (obtain ⟨p4, p5, p6, q4, q5, q6, y4, y5, y6⟩ : ∃ p4 p5 p6 q4 q5 q6, v1 = .slice (some ⟨p4, 0, none⟩) R.length q4 ∧ v2 = .slice (some ⟨p5, 0, none⟩) R.length q5 ∧ v3 = .slice (some ⟨p6, 0, none⟩) R.length q6 := S8.someW ⟨by first | exact HK.out.t | (show (_ : List Bool).length = _; exact HK.out.t), by first | exact HK.out.v | exact (decV_len _ _).trans HK.out.v, HK.out.r1, HK.out.r20⟩; subst y4; subst y5; subst y6; have HB8 : Hid (Below w1.heap.size w1 w8) := hb8; have HZ8 : Hid (SB (w.heap.size + 1 + 1) sn0 (.slice none 0 0) (.slice none 0 0) (.slice none 0 0) w8) := SB.below HZ1.out HB8.out; obtain ⟨r0, r1, r2, r3, r4, r5, r6, r7, r8⟩ := HZ8.out.zero; obtain ⟨rf0, rf1, rf2, rf3, rf4, rf5, rf6, rf7, rf8⟩ := HZ8.out.frees; have zl : w.heap.size + 1 + 1 < w8.heap.size := HZ8.out.lt; have HS8 : Hid (SV w8 w1.heap.size (.slice (some ⟨p4, 0, none⟩) R.length q4) (.slice (some ⟨p5, 0, none⟩) R.length q5) (.slice (some ⟨p6, 0, none⟩) R.length q6) (((⟨2, buf, he, fr, bo, R, nx, T, V⟩ : Sn).quit (3, 552, ⟨#[115, 105, 122, 101]⟩)).1)) := S8; clear S8 hb8)
  have b8 : Below w.heap.size w w8 := b1.trans (HB8.out.mono b1.size)
  have z8 : w.heap.size + 1 + 1 < w1.heap.size := Nat.lt_of_lt_of_le (Nat.lt_of_lt_of_le (by omega) z1) (Nat.le_refl _)
  dsimp only [Sn.to, Sn.dec, Sn.quit]
  go_wp2
  refine bodyPost_ret (v := .tuple #[.agg #[.int .i64 8, .string buf, .string he, .string fr, .string bo, (.slice (some ⟨p4, 0, none⟩) R.length q4), .int .i64 (nx : Int), (.slice (some ⟨p5, 0, none⟩) R.length q5), (.slice (some ⟨p6, 0, none⟩) R.length q6)], .string tQuit]) (by simp [results, Tryz.results91, go_sem, r0, r1, r2, r3, r4, r5, r6, r7, r8, tQuit]) rfl ?_
  exact ⟨⟨_, _, _, rfl, (HS8.out.nine (b := w.heap.size + 1 + 1) z8 _ _ _ _ _ _ _ _ _).le (by omega)⟩, below_nine b8 (by omega) _ _ _ _ _ _ _ _ _⟩

set_option maxHeartbeats 4000000 in
set_option maxRecDepth 100000 in
theorem takeG2 (buf he fr bo : ByteArray) (R : List ByteArray) (nx : Nat) (T : List Bool) (V : List Vd) (v : Value) (L : List ByteArray) (u1 u2 u3 : Value) (lo lo2 : Nat) (w : World) (hk : (⟨2, buf, he, fr, bo, R, nx, T, V⟩ : Sn).Ok) (h : SV w lo u1 u2 u3 (⟨2, buf, he, fr, bo, R, nx, T, V⟩ : Sn)) (hS : Strs w lo2 v L) (h1 : 1 ≤ L.length) (hsz : ∀ x ∈ L, x.size ≤ 1048576) (K : Nat) (Q : Bool) (hSz : ∀ wx, Below w.heap.size w wx → Calls Tryz.prog 127 #[v] wx fun e w' => e = .returned (.tuple #[.int .i64 (K : Int), .bool Q]) ∧ Below wx.heap.size wx w') (hQ : Q = false ∨ K = 0 ∨ bo.size ≤ K) :
    Calls Tryz.prog 91 #[.agg #[.int .i64 2, .string buf, .string he, .string fr, .string bo, u1, .int .i64 (nx : Int), u2, u3], .agg #[.int .i64 250, v]] w fun e w' => SQ ((⟨2, buf, he, fr, bo, R, nx, T, V⟩ : Sn).to 4, cmdB 3 fr) w e w' := by
  have H : Hid (SV w lo u1 u2 u3 (⟨2, buf, he, fr, bo, R, nx, T, V⟩ : Sn)) := h
  have HK : Hid (⟨2, buf, he, fr, bo, R, nx, T, V⟩ : Sn).Ok := hk
  have HSt : Hid (Strs w lo2 v L) := hS
  have HL1 : Hid (1 ≤ L.length) := h1
  have HLs : Hid (∀ x ∈ L, x.size ≤ 1048576) := hsz
  have hhe : he.size ≤ 1048576 := by have := hk.he; dsimp only at this; omega
  have hfr : fr.size ≤ 1048576 := by have := hk.fr; dsimp only at this; omega
  have hbo : bo.size ≤ 1048576 := by have := hk.bo; dsimp only at this; omega
  obtain ⟨g1, g2, g3, k1, k2, k3, y1, y2, y3⟩ : ∃ g1 g2 g3 k1 k2 k3, u1 = .slice (some ⟨g1, 0, none⟩) R.length k1 ∧ u2 = .slice (some ⟨g2, 0, none⟩) R.length k2 ∧ u3 = .slice (some ⟨g3, 0, none⟩) R.length k3 := h.some hk
  subst y1
  subst y2
  subst y3
  have HSz : Hid (∀ wx, Below w.heap.size w wx → Calls Tryz.prog 127 #[v] wx fun e w' => e = .returned (.tuple #[.int .i64 (K : Int), .bool Q]) ∧ Below wx.heap.size wx w') := hSz
  clear h hk hS h1 hsz hSz
  go_enter Tryz.func91, Tryz.ntmps91
  go_wp2_with fail
  generalize hW : World.alloc _ _ = W
  have HA : Hid (Blk w.heap.size #[.int .i64 2, .string buf, .string he, .string fr, .string bo, (.slice (some ⟨g1, 0, none⟩) R.length k1), .int .i64 (nx : Int), (.slice (some ⟨g2, 0, none⟩) R.length k2), (.slice (some ⟨g3, 0, none⟩) R.length k3)] W) := by show Blk _ _ _; rw [← hW]; exact ((blk3 w _ _ _ _ _ _).1).below (below1 _ _)
  have HR : Hid (Blk (w.heap.size + 1) #[.int .i64 250, v] W) := by show Blk _ _ _; rw [← hW]; exact ((blk3 w _ _ _ _ _ _).2.1).below (below1 _ _)
  have HZ : Hid (SB (w.heap.size + 1 + 1) sn0 (.slice none 0 0) (.slice none 0 0) (.slice none 0 0) W) := by show SB _ _ _ _ _ _; rw [← hW]; exact ((blk3 w _ _ _ _ _ _).2.2).below (below1 _ _)
  have b0 : Below w.heap.size w W := by rw [← hW]; exact (below3 _ _ _ _).trans ((below1 _ _).mono (by simp; omega))
  have z0 : w.heap.size + 3 ≤ W.heap.size := by rw [← hW]; simp
  clear hW
  refine (HSz.out _ b0).mono ?_
  rintro e w1 ⟨rfl, hb1⟩
  have HA1 : Hid (Blk w.heap.size #[.int .i64 2, .string buf, .string he, .string fr, .string bo, (.slice (some ⟨g1, 0, none⟩) R.length k1), .int .i64 (nx : Int), (.slice (some ⟨g2, 0, none⟩) R.length k2), (.slice (some ⟨g3, 0, none⟩) R.length k3)] w1) := Blk.below HA.out hb1
  have HR1 : Hid (Blk (w.heap.size + 1) #[.int .i64 250, v] w1) := Blk.below HR.out hb1
  have HZ1 : Hid (SB (w.heap.size + 1 + 1) sn0 (.slice none 0 0) (.slice none 0 0) (.slice none 0 0) w1) := SB.below HZ.out hb1
  have b1 : Below w.heap.size w w1 := b0.trans (hb1.mono b0.size)
  have z1 : w.heap.size + 3 ≤ w1.heap.size := Nat.le_trans z0 hb1.size
  clear HA HR HZ b0 hb1 HSz z0
  obtain ⟨t0, t1, t2, t3, t4, t5, t6, t7, t8⟩ : w1.cell? ⟨w.heap.size, 0, none⟩ = some (.int .i64 2) ∧ w1.cell? ⟨w.heap.size, 1, none⟩ = some (.string buf) ∧ w1.cell? ⟨w.heap.size, 2, none⟩ = some (.string he) ∧ w1.cell? ⟨w.heap.size, 3, none⟩ = some (.string fr) ∧ w1.cell? ⟨w.heap.size, 4, none⟩ = some (.string bo) ∧ w1.cell? ⟨w.heap.size, 5, none⟩ = some ((.slice (some ⟨g1, 0, none⟩) R.length k1)) ∧ w1.cell? ⟨w.heap.size, 6, none⟩ = some (.int .i64 (nx : Int)) ∧ w1.cell? ⟨w.heap.size, 7, none⟩ = some ((.slice (some ⟨g2, 0, none⟩) R.length k2)) ∧ w1.cell? ⟨w.heap.size, 8, none⟩ = some ((.slice (some ⟨g3, 0, none⟩) R.length k3)) := ⟨HA1.out.cell 0, HA1.out.cell 1, HA1.out.cell 2, HA1.out.cell 3, HA1.out.cell 4, HA1.out.cell 5, HA1.out.cell 6, HA1.out.cell 7, HA1.out.cell 8⟩
  have s0 : w1.cell? ⟨w.heap.size + 1, 0, none⟩ = some (.int .i64 250) := HR1.out.cell 0
  have s1 : w1.cell? ⟨w.heap.size + 1, 1, none⟩ = some v := HR1.out.cell 1
  rcases hQ with rfl | rfl | hQ
  · skip
    go_wp2_with fail
    go_region_with (first | (go_at_call 125; refine (specCommand 3 fr _ hfr).mono ?_; rintro e w7 ⟨rfl, hb7⟩; have HB7 : Hid (Below w1.heap.size w1 w7) := ((Below.refl w1.heap.size w1).drew).trans hb7; have HA7 : Hid (Blk w.heap.size #[.int .i64 2, .string buf, .string he, .string fr, .string bo, (.slice (some ⟨g1, 0, none⟩) R.length k1), .int .i64 (nx : Int), (.slice (some ⟨g2, 0, none⟩) R.length k2), (.slice (some ⟨g3, 0, none⟩) R.length k3)] w7) := Blk.below HA1.out HB7.out; have HR7 : Hid (Blk (w.heap.size + 1) #[.int .i64 250, v] w7) := Blk.below HR1.out HB7.out; obtain ⟨j0, j1, j2, j3, j4, j5, j6, j7, j8⟩ : w7.cell? ⟨w.heap.size, 0, none⟩ = some (.int .i64 2) ∧ w7.cell? ⟨w.heap.size, 1, none⟩ = some (.string buf) ∧ w7.cell? ⟨w.heap.size, 2, none⟩ = some (.string he) ∧ w7.cell? ⟨w.heap.size, 3, none⟩ = some (.string fr) ∧ w7.cell? ⟨w.heap.size, 4, none⟩ = some (.string bo) ∧ w7.cell? ⟨w.heap.size, 5, none⟩ = some ((.slice (some ⟨g1, 0, none⟩) R.length k1)) ∧ w7.cell? ⟨w.heap.size, 6, none⟩ = some (.int .i64 (nx : Int)) ∧ w7.cell? ⟨w.heap.size, 7, none⟩ = some ((.slice (some ⟨g2, 0, none⟩) R.length k2)) ∧ w7.cell? ⟨w.heap.size, 8, none⟩ = some ((.slice (some ⟨g3, 0, none⟩) R.length k3)) := ⟨HA7.out.cell 0, HA7.out.cell 1, HA7.out.cell 2, HA7.out.cell 3, HA7.out.cell 4, HA7.out.cell 5, HA7.out.cell 6, HA7.out.cell 7, HA7.out.cell 8⟩; have o0 : w7.cell? ⟨w.heap.size + 1, 0, none⟩ = some (.int .i64 250) := HR7.out.cell 0; have o1 : w7.cell? ⟨w.heap.size + 1, 1, none⟩ = some v := HR7.out.cell 1; clear hb7) | (go_at_call 122; refine (specTo (⟨2, buf, he, fr, bo, R, nx, T, V⟩ : Sn) 4 (cmdB 3 fr) _ _ _ lo _ HK.out.wf (H.out.below (b1.trans (HB7.out.mono b1.size)) (Nat.le_refl _))).mono ?_; rintro e w8 ⟨⟨v1, v2, v3, rfl, S8⟩, hb8⟩; obtain ⟨p4, p5, p6, q4, q5, q6, y4, y5, y6⟩ : ∃ p4 p5 p6 q4 q5 q6, v1 = .slice (some ⟨p4, 0, none⟩) R.length q4 ∧ v2 = .slice (some ⟨p5, 0, none⟩) R.length q5 ∧ v3 = .slice (some ⟨p6, 0, none⟩) R.length q6 := S8.someW ⟨by first | exact HK.out.t | (show (_ : List Bool).length = _; exact HK.out.t), by first | exact HK.out.v | exact (decV_len _ _).trans HK.out.v, HK.out.r1, HK.out.r20⟩; subst y4; subst y5; subst y6; have HB8 : Hid (Below w1.heap.size w1 w8) := HB7.out.trans (hb8.mono HB7.out.size); have HZ8 : Hid (SB (w.heap.size + 1 + 1) sn0 (.slice none 0 0) (.slice none 0 0) (.slice none 0 0) w8) := SB.below HZ1.out HB8.out; obtain ⟨r0, r1, r2, r3, r4, r5, r6, r7, r8⟩ := HZ8.out.zero; obtain ⟨rf0, rf1, rf2, rf3, rf4, rf5, rf6, rf7, rf8⟩ := HZ8.out.frees; have zl : w.heap.size + 1 + 1 < w8.heap.size := HZ8.out.lt; have HS8 : Hid (SV w8 w7.heap.size (.slice (some ⟨p4, 0, none⟩) R.length q4) (.slice (some ⟨p5, 0, none⟩) R.length q5) (.slice (some ⟨p6, 0, none⟩) R.length q6) ((⟨2, buf, he, fr, bo, R, nx, T, V⟩ : Sn).to 4)) := S8; clear S8 hb8))
    all_goals
      have b8 : Below w.heap.size w w8 := b1.trans (HB8.out.mono b1.size)
      have z8 : w.heap.size + 1 + 1 < w7.heap.size := Nat.lt_of_lt_of_le (Nat.lt_of_lt_of_le (by omega) z1) HB7.out.size
      dsimp only [Sn.to, Sn.dec, Sn.quit]
      go_wp2
      refine bodyPost_ret (v := .tuple #[.agg #[.int .i64 4, .string buf, .string he, .string fr, .string bo, (.slice (some ⟨p4, 0, none⟩) R.length q4), .int .i64 (nx : Int), (.slice (some ⟨p5, 0, none⟩) R.length q5), (.slice (some ⟨p6, 0, none⟩) R.length q6)], .string (cmdB 3 fr)]) (by simp [results, Tryz.results91, go_sem, r0, r1, r2, r3, r4, r5, r6, r7, r8]) rfl ?_
      exact ⟨⟨_, _, _, rfl, (HS8.out.nine (b := w.heap.size + 1 + 1) z8 _ _ _ _ _ _ _ _ _).le (by omega)⟩, below_nine b8 (by omega) _ _ _ _ _ _ _ _ _⟩
  · cases Q
    · skip
      go_wp2_with fail
      go_region_with (first | (go_at_call 125; refine (specCommand 3 fr _ hfr).mono ?_; rintro e w7 ⟨rfl, hb7⟩; have HB7 : Hid (Below w1.heap.size w1 w7) := ((Below.refl w1.heap.size w1).drew).trans hb7; have HA7 : Hid (Blk w.heap.size #[.int .i64 2, .string buf, .string he, .string fr, .string bo, (.slice (some ⟨g1, 0, none⟩) R.length k1), .int .i64 (nx : Int), (.slice (some ⟨g2, 0, none⟩) R.length k2), (.slice (some ⟨g3, 0, none⟩) R.length k3)] w7) := Blk.below HA1.out HB7.out; have HR7 : Hid (Blk (w.heap.size + 1) #[.int .i64 250, v] w7) := Blk.below HR1.out HB7.out; obtain ⟨j0, j1, j2, j3, j4, j5, j6, j7, j8⟩ : w7.cell? ⟨w.heap.size, 0, none⟩ = some (.int .i64 2) ∧ w7.cell? ⟨w.heap.size, 1, none⟩ = some (.string buf) ∧ w7.cell? ⟨w.heap.size, 2, none⟩ = some (.string he) ∧ w7.cell? ⟨w.heap.size, 3, none⟩ = some (.string fr) ∧ w7.cell? ⟨w.heap.size, 4, none⟩ = some (.string bo) ∧ w7.cell? ⟨w.heap.size, 5, none⟩ = some ((.slice (some ⟨g1, 0, none⟩) R.length k1)) ∧ w7.cell? ⟨w.heap.size, 6, none⟩ = some (.int .i64 (nx : Int)) ∧ w7.cell? ⟨w.heap.size, 7, none⟩ = some ((.slice (some ⟨g2, 0, none⟩) R.length k2)) ∧ w7.cell? ⟨w.heap.size, 8, none⟩ = some ((.slice (some ⟨g3, 0, none⟩) R.length k3)) := ⟨HA7.out.cell 0, HA7.out.cell 1, HA7.out.cell 2, HA7.out.cell 3, HA7.out.cell 4, HA7.out.cell 5, HA7.out.cell 6, HA7.out.cell 7, HA7.out.cell 8⟩; have o0 : w7.cell? ⟨w.heap.size + 1, 0, none⟩ = some (.int .i64 250) := HR7.out.cell 0; have o1 : w7.cell? ⟨w.heap.size + 1, 1, none⟩ = some v := HR7.out.cell 1; clear hb7) | (go_at_call 122; refine (specTo (⟨2, buf, he, fr, bo, R, nx, T, V⟩ : Sn) 4 (cmdB 3 fr) _ _ _ lo _ HK.out.wf (H.out.below (b1.trans (HB7.out.mono b1.size)) (Nat.le_refl _))).mono ?_; rintro e w8 ⟨⟨v1, v2, v3, rfl, S8⟩, hb8⟩; obtain ⟨p4, p5, p6, q4, q5, q6, y4, y5, y6⟩ : ∃ p4 p5 p6 q4 q5 q6, v1 = .slice (some ⟨p4, 0, none⟩) R.length q4 ∧ v2 = .slice (some ⟨p5, 0, none⟩) R.length q5 ∧ v3 = .slice (some ⟨p6, 0, none⟩) R.length q6 := S8.someW ⟨by first | exact HK.out.t | (show (_ : List Bool).length = _; exact HK.out.t), by first | exact HK.out.v | exact (decV_len _ _).trans HK.out.v, HK.out.r1, HK.out.r20⟩; subst y4; subst y5; subst y6; have HB8 : Hid (Below w1.heap.size w1 w8) := HB7.out.trans (hb8.mono HB7.out.size); have HZ8 : Hid (SB (w.heap.size + 1 + 1) sn0 (.slice none 0 0) (.slice none 0 0) (.slice none 0 0) w8) := SB.below HZ1.out HB8.out; obtain ⟨r0, r1, r2, r3, r4, r5, r6, r7, r8⟩ := HZ8.out.zero; obtain ⟨rf0, rf1, rf2, rf3, rf4, rf5, rf6, rf7, rf8⟩ := HZ8.out.frees; have zl : w.heap.size + 1 + 1 < w8.heap.size := HZ8.out.lt; have HS8 : Hid (SV w8 w7.heap.size (.slice (some ⟨p4, 0, none⟩) R.length q4) (.slice (some ⟨p5, 0, none⟩) R.length q5) (.slice (some ⟨p6, 0, none⟩) R.length q6) ((⟨2, buf, he, fr, bo, R, nx, T, V⟩ : Sn).to 4)) := S8; clear S8 hb8))
      all_goals
        have b8 : Below w.heap.size w w8 := b1.trans (HB8.out.mono b1.size)
        have z8 : w.heap.size + 1 + 1 < w7.heap.size := Nat.lt_of_lt_of_le (Nat.lt_of_lt_of_le (by omega) z1) HB7.out.size
        dsimp only [Sn.to, Sn.dec, Sn.quit]
        go_wp2
        refine bodyPost_ret (v := .tuple #[.agg #[.int .i64 4, .string buf, .string he, .string fr, .string bo, (.slice (some ⟨p4, 0, none⟩) R.length q4), .int .i64 (nx : Int), (.slice (some ⟨p5, 0, none⟩) R.length q5), (.slice (some ⟨p6, 0, none⟩) R.length q6)], .string (cmdB 3 fr)]) (by simp [results, Tryz.results91, go_sem, r0, r1, r2, r3, r4, r5, r6, r7, r8]) rfl ?_
        exact ⟨⟨_, _, _, rfl, (HS8.out.nine (b := w.heap.size + 1 + 1) z8 _ _ _ _ _ _ _ _ _).le (by omega)⟩, below_nine b8 (by omega) _ _ _ _ _ _ _ _ _⟩
    · skip
      go_wp2_with fail
      go_region_with (first | (go_at_call 125; refine (specCommand 3 fr _ hfr).mono ?_; rintro e w7 ⟨rfl, hb7⟩; have HB7 : Hid (Below w1.heap.size w1 w7) := ((Below.refl w1.heap.size w1).drew).trans hb7; have HA7 : Hid (Blk w.heap.size #[.int .i64 2, .string buf, .string he, .string fr, .string bo, (.slice (some ⟨g1, 0, none⟩) R.length k1), .int .i64 (nx : Int), (.slice (some ⟨g2, 0, none⟩) R.length k2), (.slice (some ⟨g3, 0, none⟩) R.length k3)] w7) := Blk.below HA1.out HB7.out; have HR7 : Hid (Blk (w.heap.size + 1) #[.int .i64 250, v] w7) := Blk.below HR1.out HB7.out; obtain ⟨j0, j1, j2, j3, j4, j5, j6, j7, j8⟩ : w7.cell? ⟨w.heap.size, 0, none⟩ = some (.int .i64 2) ∧ w7.cell? ⟨w.heap.size, 1, none⟩ = some (.string buf) ∧ w7.cell? ⟨w.heap.size, 2, none⟩ = some (.string he) ∧ w7.cell? ⟨w.heap.size, 3, none⟩ = some (.string fr) ∧ w7.cell? ⟨w.heap.size, 4, none⟩ = some (.string bo) ∧ w7.cell? ⟨w.heap.size, 5, none⟩ = some ((.slice (some ⟨g1, 0, none⟩) R.length k1)) ∧ w7.cell? ⟨w.heap.size, 6, none⟩ = some (.int .i64 (nx : Int)) ∧ w7.cell? ⟨w.heap.size, 7, none⟩ = some ((.slice (some ⟨g2, 0, none⟩) R.length k2)) ∧ w7.cell? ⟨w.heap.size, 8, none⟩ = some ((.slice (some ⟨g3, 0, none⟩) R.length k3)) := ⟨HA7.out.cell 0, HA7.out.cell 1, HA7.out.cell 2, HA7.out.cell 3, HA7.out.cell 4, HA7.out.cell 5, HA7.out.cell 6, HA7.out.cell 7, HA7.out.cell 8⟩; have o0 : w7.cell? ⟨w.heap.size + 1, 0, none⟩ = some (.int .i64 250) := HR7.out.cell 0; have o1 : w7.cell? ⟨w.heap.size + 1, 1, none⟩ = some v := HR7.out.cell 1; clear hb7) | (go_at_call 122; refine (specTo (⟨2, buf, he, fr, bo, R, nx, T, V⟩ : Sn) 4 (cmdB 3 fr) _ _ _ lo _ HK.out.wf (H.out.below (b1.trans (HB7.out.mono b1.size)) (Nat.le_refl _))).mono ?_; rintro e w8 ⟨⟨v1, v2, v3, rfl, S8⟩, hb8⟩; obtain ⟨p4, p5, p6, q4, q5, q6, y4, y5, y6⟩ : ∃ p4 p5 p6 q4 q5 q6, v1 = .slice (some ⟨p4, 0, none⟩) R.length q4 ∧ v2 = .slice (some ⟨p5, 0, none⟩) R.length q5 ∧ v3 = .slice (some ⟨p6, 0, none⟩) R.length q6 := S8.someW ⟨by first | exact HK.out.t | (show (_ : List Bool).length = _; exact HK.out.t), by first | exact HK.out.v | exact (decV_len _ _).trans HK.out.v, HK.out.r1, HK.out.r20⟩; subst y4; subst y5; subst y6; have HB8 : Hid (Below w1.heap.size w1 w8) := HB7.out.trans (hb8.mono HB7.out.size); have HZ8 : Hid (SB (w.heap.size + 1 + 1) sn0 (.slice none 0 0) (.slice none 0 0) (.slice none 0 0) w8) := SB.below HZ1.out HB8.out; obtain ⟨r0, r1, r2, r3, r4, r5, r6, r7, r8⟩ := HZ8.out.zero; obtain ⟨rf0, rf1, rf2, rf3, rf4, rf5, rf6, rf7, rf8⟩ := HZ8.out.frees; have zl : w.heap.size + 1 + 1 < w8.heap.size := HZ8.out.lt; have HS8 : Hid (SV w8 w7.heap.size (.slice (some ⟨p4, 0, none⟩) R.length q4) (.slice (some ⟨p5, 0, none⟩) R.length q5) (.slice (some ⟨p6, 0, none⟩) R.length q6) ((⟨2, buf, he, fr, bo, R, nx, T, V⟩ : Sn).to 4)) := S8; clear S8 hb8))
      all_goals
        have b8 : Below w.heap.size w w8 := b1.trans (HB8.out.mono b1.size)
        have z8 : w.heap.size + 1 + 1 < w7.heap.size := Nat.lt_of_lt_of_le (Nat.lt_of_lt_of_le (by omega) z1) HB7.out.size
        dsimp only [Sn.to, Sn.dec, Sn.quit]
        go_wp2
        refine bodyPost_ret (v := .tuple #[.agg #[.int .i64 4, .string buf, .string he, .string fr, .string bo, (.slice (some ⟨p4, 0, none⟩) R.length q4), .int .i64 (nx : Int), (.slice (some ⟨p5, 0, none⟩) R.length q5), (.slice (some ⟨p6, 0, none⟩) R.length q6)], .string (cmdB 3 fr)]) (by simp [results, Tryz.results91, go_sem, r0, r1, r2, r3, r4, r5, r6, r7, r8]) rfl ?_
        exact ⟨⟨_, _, _, rfl, (HS8.out.nine (b := w.heap.size + 1 + 1) z8 _ _ _ _ _ _ _ _ _).le (by omega)⟩, below_nine b8 (by omega) _ _ _ _ _ _ _ _ _⟩
  · cases Q
    · skip
      go_wp2_with fail
      go_region_with (first | (go_at_call 125; refine (specCommand 3 fr _ hfr).mono ?_; rintro e w7 ⟨rfl, hb7⟩; have HB7 : Hid (Below w1.heap.size w1 w7) := ((Below.refl w1.heap.size w1).drew).trans hb7; have HA7 : Hid (Blk w.heap.size #[.int .i64 2, .string buf, .string he, .string fr, .string bo, (.slice (some ⟨g1, 0, none⟩) R.length k1), .int .i64 (nx : Int), (.slice (some ⟨g2, 0, none⟩) R.length k2), (.slice (some ⟨g3, 0, none⟩) R.length k3)] w7) := Blk.below HA1.out HB7.out; have HR7 : Hid (Blk (w.heap.size + 1) #[.int .i64 250, v] w7) := Blk.below HR1.out HB7.out; obtain ⟨j0, j1, j2, j3, j4, j5, j6, j7, j8⟩ : w7.cell? ⟨w.heap.size, 0, none⟩ = some (.int .i64 2) ∧ w7.cell? ⟨w.heap.size, 1, none⟩ = some (.string buf) ∧ w7.cell? ⟨w.heap.size, 2, none⟩ = some (.string he) ∧ w7.cell? ⟨w.heap.size, 3, none⟩ = some (.string fr) ∧ w7.cell? ⟨w.heap.size, 4, none⟩ = some (.string bo) ∧ w7.cell? ⟨w.heap.size, 5, none⟩ = some ((.slice (some ⟨g1, 0, none⟩) R.length k1)) ∧ w7.cell? ⟨w.heap.size, 6, none⟩ = some (.int .i64 (nx : Int)) ∧ w7.cell? ⟨w.heap.size, 7, none⟩ = some ((.slice (some ⟨g2, 0, none⟩) R.length k2)) ∧ w7.cell? ⟨w.heap.size, 8, none⟩ = some ((.slice (some ⟨g3, 0, none⟩) R.length k3)) := ⟨HA7.out.cell 0, HA7.out.cell 1, HA7.out.cell 2, HA7.out.cell 3, HA7.out.cell 4, HA7.out.cell 5, HA7.out.cell 6, HA7.out.cell 7, HA7.out.cell 8⟩; have o0 : w7.cell? ⟨w.heap.size + 1, 0, none⟩ = some (.int .i64 250) := HR7.out.cell 0; have o1 : w7.cell? ⟨w.heap.size + 1, 1, none⟩ = some v := HR7.out.cell 1; clear hb7) | (go_at_call 122; refine (specTo (⟨2, buf, he, fr, bo, R, nx, T, V⟩ : Sn) 4 (cmdB 3 fr) _ _ _ lo _ HK.out.wf (H.out.below (b1.trans (HB7.out.mono b1.size)) (Nat.le_refl _))).mono ?_; rintro e w8 ⟨⟨v1, v2, v3, rfl, S8⟩, hb8⟩; obtain ⟨p4, p5, p6, q4, q5, q6, y4, y5, y6⟩ : ∃ p4 p5 p6 q4 q5 q6, v1 = .slice (some ⟨p4, 0, none⟩) R.length q4 ∧ v2 = .slice (some ⟨p5, 0, none⟩) R.length q5 ∧ v3 = .slice (some ⟨p6, 0, none⟩) R.length q6 := S8.someW ⟨by first | exact HK.out.t | (show (_ : List Bool).length = _; exact HK.out.t), by first | exact HK.out.v | exact (decV_len _ _).trans HK.out.v, HK.out.r1, HK.out.r20⟩; subst y4; subst y5; subst y6; have HB8 : Hid (Below w1.heap.size w1 w8) := HB7.out.trans (hb8.mono HB7.out.size); have HZ8 : Hid (SB (w.heap.size + 1 + 1) sn0 (.slice none 0 0) (.slice none 0 0) (.slice none 0 0) w8) := SB.below HZ1.out HB8.out; obtain ⟨r0, r1, r2, r3, r4, r5, r6, r7, r8⟩ := HZ8.out.zero; obtain ⟨rf0, rf1, rf2, rf3, rf4, rf5, rf6, rf7, rf8⟩ := HZ8.out.frees; have zl : w.heap.size + 1 + 1 < w8.heap.size := HZ8.out.lt; have HS8 : Hid (SV w8 w7.heap.size (.slice (some ⟨p4, 0, none⟩) R.length q4) (.slice (some ⟨p5, 0, none⟩) R.length q5) (.slice (some ⟨p6, 0, none⟩) R.length q6) ((⟨2, buf, he, fr, bo, R, nx, T, V⟩ : Sn).to 4)) := S8; clear S8 hb8))
      all_goals
        have b8 : Below w.heap.size w w8 := b1.trans (HB8.out.mono b1.size)
        have z8 : w.heap.size + 1 + 1 < w7.heap.size := Nat.lt_of_lt_of_le (Nat.lt_of_lt_of_le (by omega) z1) HB7.out.size
        dsimp only [Sn.to, Sn.dec, Sn.quit]
        go_wp2
        refine bodyPost_ret (v := .tuple #[.agg #[.int .i64 4, .string buf, .string he, .string fr, .string bo, (.slice (some ⟨p4, 0, none⟩) R.length q4), .int .i64 (nx : Int), (.slice (some ⟨p5, 0, none⟩) R.length q5), (.slice (some ⟨p6, 0, none⟩) R.length q6)], .string (cmdB 3 fr)]) (by simp [results, Tryz.results91, go_sem, r0, r1, r2, r3, r4, r5, r6, r7, r8]) rfl ?_
        exact ⟨⟨_, _, _, rfl, (HS8.out.nine (b := w.heap.size + 1 + 1) z8 _ _ _ _ _ _ _ _ _).le (by omega)⟩, below_nine b8 (by omega) _ _ _ _ _ _ _ _ _⟩
    · by_cases hK : 0 < K
      · skip
        go_wp2_with fail
        go_region_with (first | (go_at_call 125; refine (specCommand 3 fr _ hfr).mono ?_; rintro e w7 ⟨rfl, hb7⟩; have HB7 : Hid (Below w1.heap.size w1 w7) := ((Below.refl w1.heap.size w1).drew).trans hb7; have HA7 : Hid (Blk w.heap.size #[.int .i64 2, .string buf, .string he, .string fr, .string bo, (.slice (some ⟨g1, 0, none⟩) R.length k1), .int .i64 (nx : Int), (.slice (some ⟨g2, 0, none⟩) R.length k2), (.slice (some ⟨g3, 0, none⟩) R.length k3)] w7) := Blk.below HA1.out HB7.out; have HR7 : Hid (Blk (w.heap.size + 1) #[.int .i64 250, v] w7) := Blk.below HR1.out HB7.out; obtain ⟨j0, j1, j2, j3, j4, j5, j6, j7, j8⟩ : w7.cell? ⟨w.heap.size, 0, none⟩ = some (.int .i64 2) ∧ w7.cell? ⟨w.heap.size, 1, none⟩ = some (.string buf) ∧ w7.cell? ⟨w.heap.size, 2, none⟩ = some (.string he) ∧ w7.cell? ⟨w.heap.size, 3, none⟩ = some (.string fr) ∧ w7.cell? ⟨w.heap.size, 4, none⟩ = some (.string bo) ∧ w7.cell? ⟨w.heap.size, 5, none⟩ = some ((.slice (some ⟨g1, 0, none⟩) R.length k1)) ∧ w7.cell? ⟨w.heap.size, 6, none⟩ = some (.int .i64 (nx : Int)) ∧ w7.cell? ⟨w.heap.size, 7, none⟩ = some ((.slice (some ⟨g2, 0, none⟩) R.length k2)) ∧ w7.cell? ⟨w.heap.size, 8, none⟩ = some ((.slice (some ⟨g3, 0, none⟩) R.length k3)) := ⟨HA7.out.cell 0, HA7.out.cell 1, HA7.out.cell 2, HA7.out.cell 3, HA7.out.cell 4, HA7.out.cell 5, HA7.out.cell 6, HA7.out.cell 7, HA7.out.cell 8⟩; have o0 : w7.cell? ⟨w.heap.size + 1, 0, none⟩ = some (.int .i64 250) := HR7.out.cell 0; have o1 : w7.cell? ⟨w.heap.size + 1, 1, none⟩ = some v := HR7.out.cell 1; clear hb7) | (go_at_call 122; refine (specTo (⟨2, buf, he, fr, bo, R, nx, T, V⟩ : Sn) 4 (cmdB 3 fr) _ _ _ lo _ HK.out.wf (H.out.below (b1.trans (HB7.out.mono b1.size)) (Nat.le_refl _))).mono ?_; rintro e w8 ⟨⟨v1, v2, v3, rfl, S8⟩, hb8⟩; obtain ⟨p4, p5, p6, q4, q5, q6, y4, y5, y6⟩ : ∃ p4 p5 p6 q4 q5 q6, v1 = .slice (some ⟨p4, 0, none⟩) R.length q4 ∧ v2 = .slice (some ⟨p5, 0, none⟩) R.length q5 ∧ v3 = .slice (some ⟨p6, 0, none⟩) R.length q6 := S8.someW ⟨by first | exact HK.out.t | (show (_ : List Bool).length = _; exact HK.out.t), by first | exact HK.out.v | exact (decV_len _ _).trans HK.out.v, HK.out.r1, HK.out.r20⟩; subst y4; subst y5; subst y6; have HB8 : Hid (Below w1.heap.size w1 w8) := HB7.out.trans (hb8.mono HB7.out.size); have HZ8 : Hid (SB (w.heap.size + 1 + 1) sn0 (.slice none 0 0) (.slice none 0 0) (.slice none 0 0) w8) := SB.below HZ1.out HB8.out; obtain ⟨r0, r1, r2, r3, r4, r5, r6, r7, r8⟩ := HZ8.out.zero; obtain ⟨rf0, rf1, rf2, rf3, rf4, rf5, rf6, rf7, rf8⟩ := HZ8.out.frees; have zl : w.heap.size + 1 + 1 < w8.heap.size := HZ8.out.lt; have HS8 : Hid (SV w8 w7.heap.size (.slice (some ⟨p4, 0, none⟩) R.length q4) (.slice (some ⟨p5, 0, none⟩) R.length q5) (.slice (some ⟨p6, 0, none⟩) R.length q6) ((⟨2, buf, he, fr, bo, R, nx, T, V⟩ : Sn).to 4)) := S8; clear S8 hb8))
        all_goals
          have b8 : Below w.heap.size w w8 := b1.trans (HB8.out.mono b1.size)
          have z8 : w.heap.size + 1 + 1 < w7.heap.size := Nat.lt_of_lt_of_le (Nat.lt_of_lt_of_le (by omega) z1) HB7.out.size
          dsimp only [Sn.to, Sn.dec, Sn.quit]
          go_wp2
          refine bodyPost_ret (v := .tuple #[.agg #[.int .i64 4, .string buf, .string he, .string fr, .string bo, (.slice (some ⟨p4, 0, none⟩) R.length q4), .int .i64 (nx : Int), (.slice (some ⟨p5, 0, none⟩) R.length q5), (.slice (some ⟨p6, 0, none⟩) R.length q6)], .string (cmdB 3 fr)]) (by simp [results, Tryz.results91, go_sem, r0, r1, r2, r3, r4, r5, r6, r7, r8]) rfl ?_
          exact ⟨⟨_, _, _, rfl, (HS8.out.nine (b := w.heap.size + 1 + 1) z8 _ _ _ _ _ _ _ _ _).le (by omega)⟩, below_nine b8 (by omega) _ _ _ _ _ _ _ _ _⟩
      · obtain rfl : K = 0 := by omega
        go_wp2_with fail
        go_region_with (first | (go_at_call 125; refine (specCommand 3 fr _ hfr).mono ?_; rintro e w7 ⟨rfl, hb7⟩; have HB7 : Hid (Below w1.heap.size w1 w7) := ((Below.refl w1.heap.size w1).drew).trans hb7; have HA7 : Hid (Blk w.heap.size #[.int .i64 2, .string buf, .string he, .string fr, .string bo, (.slice (some ⟨g1, 0, none⟩) R.length k1), .int .i64 (nx : Int), (.slice (some ⟨g2, 0, none⟩) R.length k2), (.slice (some ⟨g3, 0, none⟩) R.length k3)] w7) := Blk.below HA1.out HB7.out; have HR7 : Hid (Blk (w.heap.size + 1) #[.int .i64 250, v] w7) := Blk.below HR1.out HB7.out; obtain ⟨j0, j1, j2, j3, j4, j5, j6, j7, j8⟩ : w7.cell? ⟨w.heap.size, 0, none⟩ = some (.int .i64 2) ∧ w7.cell? ⟨w.heap.size, 1, none⟩ = some (.string buf) ∧ w7.cell? ⟨w.heap.size, 2, none⟩ = some (.string he) ∧ w7.cell? ⟨w.heap.size, 3, none⟩ = some (.string fr) ∧ w7.cell? ⟨w.heap.size, 4, none⟩ = some (.string bo) ∧ w7.cell? ⟨w.heap.size, 5, none⟩ = some ((.slice (some ⟨g1, 0, none⟩) R.length k1)) ∧ w7.cell? ⟨w.heap.size, 6, none⟩ = some (.int .i64 (nx : Int)) ∧ w7.cell? ⟨w.heap.size, 7, none⟩ = some ((.slice (some ⟨g2, 0, none⟩) R.length k2)) ∧ w7.cell? ⟨w.heap.size, 8, none⟩ = some ((.slice (some ⟨g3, 0, none⟩) R.length k3)) := ⟨HA7.out.cell 0, HA7.out.cell 1, HA7.out.cell 2, HA7.out.cell 3, HA7.out.cell 4, HA7.out.cell 5, HA7.out.cell 6, HA7.out.cell 7, HA7.out.cell 8⟩; have o0 : w7.cell? ⟨w.heap.size + 1, 0, none⟩ = some (.int .i64 250) := HR7.out.cell 0; have o1 : w7.cell? ⟨w.heap.size + 1, 1, none⟩ = some v := HR7.out.cell 1; clear hb7) | (go_at_call 122; refine (specTo (⟨2, buf, he, fr, bo, R, nx, T, V⟩ : Sn) 4 (cmdB 3 fr) _ _ _ lo _ HK.out.wf (H.out.below (b1.trans (HB7.out.mono b1.size)) (Nat.le_refl _))).mono ?_; rintro e w8 ⟨⟨v1, v2, v3, rfl, S8⟩, hb8⟩; obtain ⟨p4, p5, p6, q4, q5, q6, y4, y5, y6⟩ : ∃ p4 p5 p6 q4 q5 q6, v1 = .slice (some ⟨p4, 0, none⟩) R.length q4 ∧ v2 = .slice (some ⟨p5, 0, none⟩) R.length q5 ∧ v3 = .slice (some ⟨p6, 0, none⟩) R.length q6 := S8.someW ⟨by first | exact HK.out.t | (show (_ : List Bool).length = _; exact HK.out.t), by first | exact HK.out.v | exact (decV_len _ _).trans HK.out.v, HK.out.r1, HK.out.r20⟩; subst y4; subst y5; subst y6; have HB8 : Hid (Below w1.heap.size w1 w8) := HB7.out.trans (hb8.mono HB7.out.size); have HZ8 : Hid (SB (w.heap.size + 1 + 1) sn0 (.slice none 0 0) (.slice none 0 0) (.slice none 0 0) w8) := SB.below HZ1.out HB8.out; obtain ⟨r0, r1, r2, r3, r4, r5, r6, r7, r8⟩ := HZ8.out.zero; obtain ⟨rf0, rf1, rf2, rf3, rf4, rf5, rf6, rf7, rf8⟩ := HZ8.out.frees; have zl : w.heap.size + 1 + 1 < w8.heap.size := HZ8.out.lt; have HS8 : Hid (SV w8 w7.heap.size (.slice (some ⟨p4, 0, none⟩) R.length q4) (.slice (some ⟨p5, 0, none⟩) R.length q5) (.slice (some ⟨p6, 0, none⟩) R.length q6) ((⟨2, buf, he, fr, bo, R, nx, T, V⟩ : Sn).to 4)) := S8; clear S8 hb8))
        all_goals
          have b8 : Below w.heap.size w w8 := b1.trans (HB8.out.mono b1.size)
          have z8 : w.heap.size + 1 + 1 < w7.heap.size := Nat.lt_of_lt_of_le (Nat.lt_of_lt_of_le (by omega) z1) HB7.out.size
          dsimp only [Sn.to, Sn.dec, Sn.quit]
          go_wp2
          refine bodyPost_ret (v := .tuple #[.agg #[.int .i64 4, .string buf, .string he, .string fr, .string bo, (.slice (some ⟨p4, 0, none⟩) R.length q4), .int .i64 (nx : Int), (.slice (some ⟨p5, 0, none⟩) R.length q5), (.slice (some ⟨p6, 0, none⟩) R.length q6)], .string (cmdB 3 fr)]) (by simp [results, Tryz.results91, go_sem, r0, r1, r2, r3, r4, r5, r6, r7, r8]) rfl ?_
          exact ⟨⟨_, _, _, rfl, (HS8.out.nine (b := w.heap.size + 1 + 1) z8 _ _ _ _ _ _ _ _ _).le (by omega)⟩, below_nine b8 (by omega) _ _ _ _ _ _ _ _ _⟩

set_option maxHeartbeats 4000000 in
set_option maxRecDepth 100000 in
theorem takeG3 (buf he fr bo : ByteArray) (R : List ByteArray) (nx : Nat) (T : List Bool) (V : List Vd) (v : Value) (L : List ByteArray) (u1 u2 u3 : Value) (lo lo2 : Nat) (w : World) (hk : (⟨3, buf, he, fr, bo, R, nx, T, V⟩ : Sn).Ok) (h : SV w lo u1 u2 u3 (⟨3, buf, he, fr, bo, R, nx, T, V⟩ : Sn)) (hS : Strs w lo2 v L) (h1 : 1 ≤ L.length) (hsz : ∀ x ∈ L, x.size ≤ 1048576) (K : Nat) (Q : Bool) (hSz : ∀ wx, Below w.heap.size w wx → Calls Tryz.prog 127 #[v] wx fun e w' => e = .returned (.tuple #[.int .i64 (K : Int), .bool Q]) ∧ Below wx.heap.size wx w') :
    Calls Tryz.prog 91 #[.agg #[.int .i64 3, .string buf, .string he, .string fr, .string bo, u1, .int .i64 (nx : Int), u2, u3], .agg #[.int .i64 250, v]] w fun e w' => SQ ((⟨3, buf, he, fr, bo, R, nx, T, V⟩ : Sn).to 4, cmdB 3 fr) w e w' := by
  have H : Hid (SV w lo u1 u2 u3 (⟨3, buf, he, fr, bo, R, nx, T, V⟩ : Sn)) := h
  have HK : Hid (⟨3, buf, he, fr, bo, R, nx, T, V⟩ : Sn).Ok := hk
  have HSt : Hid (Strs w lo2 v L) := hS
  have HL1 : Hid (1 ≤ L.length) := h1
  have HLs : Hid (∀ x ∈ L, x.size ≤ 1048576) := hsz
  have hhe : he.size ≤ 1048576 := by have := hk.he; dsimp only at this; omega
  have hfr : fr.size ≤ 1048576 := by have := hk.fr; dsimp only at this; omega
  have hbo : bo.size ≤ 1048576 := by have := hk.bo; dsimp only at this; omega
  obtain ⟨g1, g2, g3, k1, k2, k3, y1, y2, y3⟩ : ∃ g1 g2 g3 k1 k2 k3, u1 = .slice (some ⟨g1, 0, none⟩) R.length k1 ∧ u2 = .slice (some ⟨g2, 0, none⟩) R.length k2 ∧ u3 = .slice (some ⟨g3, 0, none⟩) R.length k3 := h.some hk
  subst y1
  subst y2
  subst y3
  have HSz : Hid (∀ wx, Below w.heap.size w wx → Calls Tryz.prog 127 #[v] wx fun e w' => e = .returned (.tuple #[.int .i64 (K : Int), .bool Q]) ∧ Below wx.heap.size wx w') := hSz
  clear h hk hS h1 hsz hSz
  go_enter Tryz.func91, Tryz.ntmps91
  go_wp2_with fail
  generalize hW : World.alloc _ _ = W
  have HA : Hid (Blk w.heap.size #[.int .i64 3, .string buf, .string he, .string fr, .string bo, (.slice (some ⟨g1, 0, none⟩) R.length k1), .int .i64 (nx : Int), (.slice (some ⟨g2, 0, none⟩) R.length k2), (.slice (some ⟨g3, 0, none⟩) R.length k3)] W) := by show Blk _ _ _; rw [← hW]; exact ((blk3 w _ _ _ _ _ _).1).below (below1 _ _)
  have HR : Hid (Blk (w.heap.size + 1) #[.int .i64 250, v] W) := by show Blk _ _ _; rw [← hW]; exact ((blk3 w _ _ _ _ _ _).2.1).below (below1 _ _)
  have HZ : Hid (SB (w.heap.size + 1 + 1) sn0 (.slice none 0 0) (.slice none 0 0) (.slice none 0 0) W) := by show SB _ _ _ _ _ _; rw [← hW]; exact ((blk3 w _ _ _ _ _ _).2.2).below (below1 _ _)
  have b0 : Below w.heap.size w W := by rw [← hW]; exact (below3 _ _ _ _).trans ((below1 _ _).mono (by simp; omega))
  have z0 : w.heap.size + 3 ≤ W.heap.size := by rw [← hW]; simp
  clear hW
  refine (HSz.out _ b0).mono ?_
  rintro e w1 ⟨rfl, hb1⟩
  have HA1 : Hid (Blk w.heap.size #[.int .i64 3, .string buf, .string he, .string fr, .string bo, (.slice (some ⟨g1, 0, none⟩) R.length k1), .int .i64 (nx : Int), (.slice (some ⟨g2, 0, none⟩) R.length k2), (.slice (some ⟨g3, 0, none⟩) R.length k3)] w1) := Blk.below HA.out hb1
  have HR1 : Hid (Blk (w.heap.size + 1) #[.int .i64 250, v] w1) := Blk.below HR.out hb1
  have HZ1 : Hid (SB (w.heap.size + 1 + 1) sn0 (.slice none 0 0) (.slice none 0 0) (.slice none 0 0) w1) := SB.below HZ.out hb1
  have b1 : Below w.heap.size w w1 := b0.trans (hb1.mono b0.size)
  have z1 : w.heap.size + 3 ≤ w1.heap.size := Nat.le_trans z0 hb1.size
  clear HA HR HZ b0 hb1 HSz z0
  obtain ⟨t0, t1, t2, t3, t4, t5, t6, t7, t8⟩ : w1.cell? ⟨w.heap.size, 0, none⟩ = some (.int .i64 3) ∧ w1.cell? ⟨w.heap.size, 1, none⟩ = some (.string buf) ∧ w1.cell? ⟨w.heap.size, 2, none⟩ = some (.string he) ∧ w1.cell? ⟨w.heap.size, 3, none⟩ = some (.string fr) ∧ w1.cell? ⟨w.heap.size, 4, none⟩ = some (.string bo) ∧ w1.cell? ⟨w.heap.size, 5, none⟩ = some ((.slice (some ⟨g1, 0, none⟩) R.length k1)) ∧ w1.cell? ⟨w.heap.size, 6, none⟩ = some (.int .i64 (nx : Int)) ∧ w1.cell? ⟨w.heap.size, 7, none⟩ = some ((.slice (some ⟨g2, 0, none⟩) R.length k2)) ∧ w1.cell? ⟨w.heap.size, 8, none⟩ = some ((.slice (some ⟨g3, 0, none⟩) R.length k3)) := ⟨HA1.out.cell 0, HA1.out.cell 1, HA1.out.cell 2, HA1.out.cell 3, HA1.out.cell 4, HA1.out.cell 5, HA1.out.cell 6, HA1.out.cell 7, HA1.out.cell 8⟩
  have s0 : w1.cell? ⟨w.heap.size + 1, 0, none⟩ = some (.int .i64 250) := HR1.out.cell 0
  have s1 : w1.cell? ⟨w.heap.size + 1, 1, none⟩ = some v := HR1.out.cell 1
  skip
  go_wp2_with fail
  go_region_with (first | (go_at_call 125; refine (specCommand 3 fr _ hfr).mono ?_; rintro e w7 ⟨rfl, hb7⟩; have HB7 : Hid (Below w1.heap.size w1 w7) := ((Below.refl w1.heap.size w1).drew).trans hb7; have HA7 : Hid (Blk w.heap.size #[.int .i64 3, .string buf, .string he, .string fr, .string bo, (.slice (some ⟨g1, 0, none⟩) R.length k1), .int .i64 (nx : Int), (.slice (some ⟨g2, 0, none⟩) R.length k2), (.slice (some ⟨g3, 0, none⟩) R.length k3)] w7) := Blk.below HA1.out HB7.out; have HR7 : Hid (Blk (w.heap.size + 1) #[.int .i64 250, v] w7) := Blk.below HR1.out HB7.out; obtain ⟨j0, j1, j2, j3, j4, j5, j6, j7, j8⟩ : w7.cell? ⟨w.heap.size, 0, none⟩ = some (.int .i64 3) ∧ w7.cell? ⟨w.heap.size, 1, none⟩ = some (.string buf) ∧ w7.cell? ⟨w.heap.size, 2, none⟩ = some (.string he) ∧ w7.cell? ⟨w.heap.size, 3, none⟩ = some (.string fr) ∧ w7.cell? ⟨w.heap.size, 4, none⟩ = some (.string bo) ∧ w7.cell? ⟨w.heap.size, 5, none⟩ = some ((.slice (some ⟨g1, 0, none⟩) R.length k1)) ∧ w7.cell? ⟨w.heap.size, 6, none⟩ = some (.int .i64 (nx : Int)) ∧ w7.cell? ⟨w.heap.size, 7, none⟩ = some ((.slice (some ⟨g2, 0, none⟩) R.length k2)) ∧ w7.cell? ⟨w.heap.size, 8, none⟩ = some ((.slice (some ⟨g3, 0, none⟩) R.length k3)) := ⟨HA7.out.cell 0, HA7.out.cell 1, HA7.out.cell 2, HA7.out.cell 3, HA7.out.cell 4, HA7.out.cell 5, HA7.out.cell 6, HA7.out.cell 7, HA7.out.cell 8⟩; have o0 : w7.cell? ⟨w.heap.size + 1, 0, none⟩ = some (.int .i64 250) := HR7.out.cell 0; have o1 : w7.cell? ⟨w.heap.size + 1, 1, none⟩ = some v := HR7.out.cell 1; clear hb7) | (go_at_call 122; refine (specTo (⟨3, buf, he, fr, bo, R, nx, T, V⟩ : Sn) 4 (cmdB 3 fr) _ _ _ lo _ HK.out.wf (H.out.below (b1.trans (HB7.out.mono b1.size)) (Nat.le_refl _))).mono ?_; rintro e w8 ⟨⟨v1, v2, v3, rfl, S8⟩, hb8⟩; obtain ⟨p4, p5, p6, q4, q5, q6, y4, y5, y6⟩ : ∃ p4 p5 p6 q4 q5 q6, v1 = .slice (some ⟨p4, 0, none⟩) R.length q4 ∧ v2 = .slice (some ⟨p5, 0, none⟩) R.length q5 ∧ v3 = .slice (some ⟨p6, 0, none⟩) R.length q6 := S8.someW ⟨by first | exact HK.out.t | (show (_ : List Bool).length = _; exact HK.out.t), by first | exact HK.out.v | exact (decV_len _ _).trans HK.out.v, HK.out.r1, HK.out.r20⟩; subst y4; subst y5; subst y6; have HB8 : Hid (Below w1.heap.size w1 w8) := HB7.out.trans (hb8.mono HB7.out.size); have HZ8 : Hid (SB (w.heap.size + 1 + 1) sn0 (.slice none 0 0) (.slice none 0 0) (.slice none 0 0) w8) := SB.below HZ1.out HB8.out; obtain ⟨r0, r1, r2, r3, r4, r5, r6, r7, r8⟩ := HZ8.out.zero; obtain ⟨rf0, rf1, rf2, rf3, rf4, rf5, rf6, rf7, rf8⟩ := HZ8.out.frees; have zl : w.heap.size + 1 + 1 < w8.heap.size := HZ8.out.lt; have HS8 : Hid (SV w8 w7.heap.size (.slice (some ⟨p4, 0, none⟩) R.length q4) (.slice (some ⟨p5, 0, none⟩) R.length q5) (.slice (some ⟨p6, 0, none⟩) R.length q6) ((⟨3, buf, he, fr, bo, R, nx, T, V⟩ : Sn).to 4)) := S8; clear S8 hb8))
  all_goals
    have b8 : Below w.heap.size w w8 := b1.trans (HB8.out.mono b1.size)
    have z8 : w.heap.size + 1 + 1 < w7.heap.size := Nat.lt_of_lt_of_le (Nat.lt_of_lt_of_le (by omega) z1) HB7.out.size
    dsimp only [Sn.to, Sn.dec, Sn.quit]
    go_wp2
    refine bodyPost_ret (v := .tuple #[.agg #[.int .i64 4, .string buf, .string he, .string fr, .string bo, (.slice (some ⟨p4, 0, none⟩) R.length q4), .int .i64 (nx : Int), (.slice (some ⟨p5, 0, none⟩) R.length q5), (.slice (some ⟨p6, 0, none⟩) R.length q6)], .string (cmdB 3 fr)]) (by simp [results, Tryz.results91, go_sem, r0, r1, r2, r3, r4, r5, r6, r7, r8]) rfl ?_
    exact ⟨⟨_, _, _, rfl, (HS8.out.nine (b := w.heap.size + 1 + 1) z8 _ _ _ _ _ _ _ _ _).le (by omega)⟩, below_nine b8 (by omega) _ _ _ _ _ _ _ _ _⟩
end Go.Proofs.YtngcjlghjidnjaaGreatDoor
