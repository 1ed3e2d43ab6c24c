import Derived.Test.YtngcjlghjidnjaaGreatDoorMg29
import Derived.Test.YtngcjlghjidnjaaGreatDoorMg30
import Derived.Test.YtngcjlghjidnjaaGreatDoorMg13
import Derived.Deep.RegionHeld3
import Derived.Test.YtngcjlghjidnjaaGreatDoorMg24
namespace Go.Proofs.YtngcjlghjidnjaaGreatDoor
open Go.ChangeShapes Go.WideShapes Go.ChangeAt Go.RowKit
attribute [local go_sem ↓] Go.wp_at_zero Go.wp_at_succ

set_option maxHeartbeats 4000000 in
set_option maxRecDepth 100000 in
theorem takeJ (buf he fr bo : ByteArray) (R : List ByteArray) (nx : Nat) (T : List Bool) (V : List Vd) (v : Value) (L : List ByteArray) (u1 u2 u3 : Value) (lo lo2 : Nat) (w : World) (hk : (⟨7, buf, he, fr, bo, R, nx, T, V⟩ : Sn).Ok) (h : SV w lo u1 u2 u3 (⟨7, buf, he, fr, bo, R, nx, T, V⟩ : Sn)) (hS : Strs w lo2 v L) (h1 : 1 ≤ L.length) (hsz : ∀ x ∈ L, x.size ≤ 1048576) :
    Calls Tryz.prog 91 #[.agg #[.int .i64 7, .string buf, .string he, .string fr, .string bo, u1, .int .i64 (nx : Int), u2, u3], .agg #[.int .i64 250, v]] w fun e w' => SQ ((⟨7, buf, he, fr, bo, R, nx, T, V⟩ : Sn).quit (1, 250, L.getD 0 ⟨#[]⟩)) w e w' := by
  have H : Hid (SV w lo u1 u2 u3 (⟨7, buf, he, fr, bo, R, nx, T, V⟩ : Sn)) := h
  have HK : Hid (⟨7, buf, he, fr, bo, R, nx, T, V⟩ : Sn).Ok := hk
  have HSt : Hid (Strs w lo2 v L) := hS
  have HL1 : Hid (1 ≤ L.length) := h1
  have HLs : Hid (∀ x ∈ L, x.size ≤ 1048576) := hsz
  have hhe : he.size ≤ 1048576 := by have := hk.he; dsimp only at this; omega
  have hfr : fr.size ≤ 1048576 := by have := hk.fr; dsimp only at this; omega
  have hbo : bo.size ≤ 1048576 := by have := hk.bo; dsimp only at this; omega
  obtain ⟨g1, g2, g3, k1, k2, k3, y1, y2, y3⟩ : ∃ g1 g2 g3 k1 k2 k3, u1 = .slice (some ⟨g1, 0, none⟩) R.length k1 ∧ u2 = .slice (some ⟨g2, 0, none⟩) R.length k2 ∧ u3 = .slice (some ⟨g3, 0, none⟩) R.length k3 := h.some hk
  subst y1
  subst y2
  subst y3
  clear h hk hS h1 hsz
  obtain ⟨g, kk, y, h0, hg, _⟩ := first_str2 HSt.out HL1.out
  subst y
  have hl0 : 0 < L.length := HL1.out
  generalize hXe : L.getD 0 ⟨#[]⟩ = X at *
  have HXe : Hid (L.getD 0 ⟨#[]⟩ = X) := hXe
  clear hXe
  go_enter Tryz.func91, Tryz.ntmps91
  go_wp2_with fail
  generalize hW : World.alloc _ _ = W
  have HA : Hid (Blk w.heap.size #[.int .i64 7, .string buf, .string he, .string fr, .string bo, (.slice (some ⟨g1, 0, none⟩) R.length k1), .int .i64 (nx : Int), (.slice (some ⟨g2, 0, none⟩) R.length k2), (.slice (some ⟨g3, 0, none⟩) R.length k3)] W) := by show Blk _ _ _; rw [← hW]; exact ((blk3 w _ _ _ _ _ _).1).below (below1 _ _)
  have HR : Hid (Blk (w.heap.size + 1) #[.int .i64 250, (.slice (some ⟨g, 0, none⟩) L.length kk)] W) := by show Blk _ _ _; rw [← hW]; exact ((blk3 w _ _ _ _ _ _).2.1).below (below1 _ _)
  have HZ : Hid (SB (w.heap.size + 1 + 1) sn0 (.slice none 0 0) (.slice none 0 0) (.slice none 0 0) W) := by show SB _ _ _ _ _ _; rw [← hW]; exact ((blk3 w _ _ _ _ _ _).2.2).below (below1 _ _)
  have b0 : Below w.heap.size w W := by rw [← hW]; exact (below3 _ _ _ _).trans ((below1 _ _).mono (by simp; omega))
  have z0 : w.heap.size + 3 ≤ W.heap.size := by rw [← hW]; simp
  clear hW
  obtain ⟨t0, t1, t2, t3, t4, t5, t6, t7, t8⟩ : W.cell? ⟨w.heap.size, 0, none⟩ = some (.int .i64 7) ∧ W.cell? ⟨w.heap.size, 1, none⟩ = some (.string buf) ∧ W.cell? ⟨w.heap.size, 2, none⟩ = some (.string he) ∧ W.cell? ⟨w.heap.size, 3, none⟩ = some (.string fr) ∧ W.cell? ⟨w.heap.size, 4, none⟩ = some (.string bo) ∧ W.cell? ⟨w.heap.size, 5, none⟩ = some ((.slice (some ⟨g1, 0, none⟩) R.length k1)) ∧ W.cell? ⟨w.heap.size, 6, none⟩ = some (.int .i64 (nx : Int)) ∧ W.cell? ⟨w.heap.size, 7, none⟩ = some ((.slice (some ⟨g2, 0, none⟩) R.length k2)) ∧ W.cell? ⟨w.heap.size, 8, none⟩ = some ((.slice (some ⟨g3, 0, none⟩) R.length k3)) := ⟨HA.out.cell 0, HA.out.cell 1, HA.out.cell 2, HA.out.cell 3, HA.out.cell 4, HA.out.cell 5, HA.out.cell 6, HA.out.cell 7, HA.out.cell 8⟩
  have s0 : W.cell? ⟨w.heap.size + 1, 0, none⟩ = some (.int .i64 250) := HR.out.cell 0
  have s1 : W.cell? ⟨w.heap.size + 1, 1, none⟩ = some (.slice (some ⟨g, 0, none⟩) L.length kk) := HR.out.cell 1
  have x0 : W.cell? ⟨g, 0, none⟩ = some (.string X) := (b0.cell (p := ⟨g, 0, none⟩) hg).trans h0
  have gl : g < W.heap.size := by omega
  clear h0 hg
  go_region_with (first | (go_at_call 126; refine (specQuit (⟨7, buf, he, fr, bo, R, nx, T, V⟩ : Sn) (1, 250, X) _ _ _ lo _ HK.out (H.out.below (b0.trans (by repeat (first | exact Below.refl _ _ | refine Below.drew ?_))) (Nat.le_refl _))).mono ?_; rintro e w8 ⟨⟨v1, v2, v3, rfl, S8⟩, hb8⟩; have HBx : Hid (Below W.heap.size W w8) := ((Below.refl W.heap.size W).drew).trans hb8; obtain ⟨p4, p5, p6, q4, q5, q6, y4, y5, y6⟩ : ∃ p4 p5 p6 q4 q5 q6, v1 = .slice (some ⟨p4, 0, none⟩) R.length q4 ∧ v2 = .slice (some ⟨p5, 0, none⟩) R.length q5 ∧ v3 = .slice (some ⟨p6, 0, none⟩) R.length q6 := S8.someW ⟨by first | exact HK.out.t | (show (_ : List Bool).length = _; exact HK.out.t), by first | exact HK.out.v | exact (decV_len _ _).trans HK.out.v, HK.out.r1, HK.out.r20⟩; subst y4; subst y5; subst y6; have HB8 : Hid (Below W.heap.size W w8) := HBx.out; have HZ8 : Hid (SB (w.heap.size + 1 + 1) sn0 (.slice none 0 0) (.slice none 0 0) (.slice none 0 0) w8) := SB.below HZ.out HB8.out; obtain ⟨r0, r1, r2, r3, r4, r5, r6, r7, r8⟩ := HZ8.out.zero; obtain ⟨rf0, rf1, rf2, rf3, rf4, rf5, rf6, rf7, rf8⟩ := HZ8.out.frees; have zl : w.heap.size + 1 + 1 < w8.heap.size := HZ8.out.lt; have HS8 : Hid (SV w8 W.heap.size (.slice (some ⟨p4, 0, none⟩) R.length q4) (.slice (some ⟨p5, 0, none⟩) R.length q5) (.slice (some ⟨p6, 0, none⟩) R.length q6) (((⟨7, buf, he, fr, bo, R, nx, T, V⟩ : Sn).quit (1, 250, X)).1)) := S8; clear S8 hb8))
  all_goals
    have b8 : Below w.heap.size w w8 := b0.trans (HB8.out.mono b0.size)
    have z8 : w.heap.size + 1 + 1 < W.heap.size := Nat.lt_of_lt_of_le (Nat.lt_of_lt_of_le (by omega) z0) (Nat.le_refl _)
    dsimp only [Sn.to, Sn.dec, Sn.quit]
    go_wp2
    refine bodyPost_ret (v := .tuple #[.agg #[.int .i64 8, .string buf, .string he, .string fr, .string bo, (.slice (some ⟨p4, 0, none⟩) R.length q4), .int .i64 (nx : Int), (.slice (some ⟨p5, 0, none⟩) R.length q5), (.slice (some ⟨p6, 0, none⟩) R.length q6)], .string tQuit]) (by simp [results, Tryz.results91, go_sem, r0, r1, r2, r3, r4, r5, r6, r7, r8, tQuit]) rfl ?_
    exact ⟨⟨_, _, _, rfl, (HS8.out.nine (b := w.heap.size + 1 + 1) z8 _ _ _ _ _ _ _ _ _).le (by omega)⟩, below_nine b8 (by omega) _ _ _ _ _ _ _ _ _⟩
end Go.Proofs.YtngcjlghjidnjaaGreatDoor
namespace Go.Proofs.YtngcjlghjidnjaaGreatDoor
open Go.ChangeShapes Go.WideShapes Go.ChangeAt Go.RowKit
attribute [local go_sem ↓] Go.wp_at_zero Go.wp_at_succ
theorem blk_nine {a : Nat} {y0 y1 y2 y3 y4 y5 y6 y7 y8 : Value} {w : World} (h : Blk a #[y0, y1, y2, y3, y4, y5, y6, y7, y8] w) (x0 x1 x2 x3 x4 x5 x6 x7 x8 : Value) : Blk a #[x0, x1, x2, x3, x4, x5, x6, x7, x8] (nine w a x0 x1 x2 x3 x4 x5 x6 x7 x8) :=
  ((((((((h.set (i := 0) (v := x0) (by simp)).set (i := 1) (v := x1) (by simp)).set (i := 2) (v := x2) (by simp)).set (i := 3) (v := x3) (by simp)).set (i := 4) (v := x4) (by simp)).set (i := 5) (v := x5) (by simp)).set (i := 6) (v := x6) (by simp)).set (i := 7) (v := x7) (by simp)).set (i := 8) (v := x8) (by simp)
theorem sb_nine {a b : Nat} {s : Sn} {u1 u2 u3 : Value} {w : World} (h : SB b s u1 u2 u3 w) (hne : b ≠ a) (x0 x1 x2 x3 x4 x5 x6 x7 x8 : Value) : SB b s u1 u2 u3 (nine w a x0 x1 x2 x3 x4 x5 x6 x7 x8) :=
  Blk.other (Blk.other (Blk.other (Blk.other (Blk.other (Blk.other (Blk.other (Blk.other (Blk.other h hne) hne) hne) hne) hne) hne) hne) hne) hne

set_option maxHeartbeats 20000000 in
set_option maxRecDepth 100000 in
theorem takeH (buf he fr bo : ByteArray) (R : List ByteArray) (nx : Nat) (T : List Bool) (V : List Vd) (v : Value) (L : List ByteArray) (u1 u2 u3 : Value) (lo lo2 : Nat) (w : World) (hk : (⟨4, buf, he, fr, bo, R, nx, T, V⟩ : Sn).Ok) (h : SV w lo u1 u2 u3 (⟨4, buf, he, fr, bo, R, nx, T, V⟩ : Sn)) (hS : Strs w lo2 v L) (h1 : 1 ≤ L.length) (hsz : ∀ x ∈ L, x.size ≤ 1048576) :
    Calls Tryz.prog 91 #[.agg #[.int .i64 4, .string buf, .string he, .string fr, .string bo, u1, .int .i64 (nx : Int), u2, u3], .agg #[.int .i64 250, v]] w fun e w' => SQ (({ (⟨4, buf, he, fr, bo, R, nx, T, V⟩ : Sn).to 5 with nx := 0 } : Sn), cmdB 4 (R.getD 0 ⟨#[]⟩)) w e w' := by
  have H : Hid (SV w lo u1 u2 u3 (⟨4, buf, he, fr, bo, R, nx, T, V⟩ : Sn)) := h
  have HK : Hid (⟨4, buf, he, fr, bo, R, nx, T, V⟩ : Sn).Ok := hk
  have HSt : Hid (Strs w lo2 v L) := hS
  have HL1 : Hid (1 ≤ L.length) := h1
  have HLs : Hid (∀ x ∈ L, x.size ≤ 1048576) := hsz
  have hhe : he.size ≤ 1048576 := by have := hk.he; dsimp only at this; omega
  have hfr : fr.size ≤ 1048576 := by have := hk.fr; dsimp only at this; omega
  have hbo : bo.size ≤ 1048576 := by have := hk.bo; dsimp only at this; omega
  obtain ⟨g1, g2, g3, k1, k2, k3, y1, y2, y3⟩ : ∃ g1 g2 g3 k1 k2 k3, u1 = .slice (some ⟨g1, 0, none⟩) R.length k1 ∧ u2 = .slice (some ⟨g2, 0, none⟩) R.length k2 ∧ u3 = .slice (some ⟨g3, 0, none⟩) R.length k3 := h.some hk
  subst y1
  subst y2
  subst y3
  have hr1 : 0 < R.length := hk.r1
  have hc0 : w.cell? ⟨g1, 0, none⟩ = some (.string (R.getD 0 ⟨#[]⟩)) := by
    have := h.1.at.1.cell 0 hr1
    rw [this, List.getD_eq_getElem?_getD, List.getElem?_eq_getElem hr1]
    rfl
  have hgl : g1 < w.heap.size := h.1.at.1.lt
  have hX : (R.getD 0 ⟨#[]⟩).size ≤ 1048576 := by
    rw [List.getD_eq_getElem?_getD, List.getElem?_eq_getElem hr1]
    have := hk.rs _ (List.getElem_mem hr1)
    show (R[0]).size ≤ _
    omega
  generalize hXe : R.getD 0 ⟨#[]⟩ = X at *
  clear h hk hS h1 hsz hXe
  go_enter Tryz.func91, Tryz.ntmps91
  go_wp2_with fail
  generalize hW : World.alloc _ _ = W
  have HA : Hid (Blk w.heap.size #[.int .i64 4, .string buf, .string he, .string fr, .string bo, (.slice (some ⟨g1, 0, none⟩) R.length k1), .int .i64 (nx : Int), (.slice (some ⟨g2, 0, none⟩) R.length k2), (.slice (some ⟨g3, 0, none⟩) R.length k3)] W) := by show Blk _ _ _; rw [← hW]; exact ((blk3 w _ _ _ _ _ _).1).below (below1 _ _)
  have HR : Hid (Blk (w.heap.size + 1) #[.int .i64 250, v] W) := by show Blk _ _ _; rw [← hW]; exact ((blk3 w _ _ _ _ _ _).2.1).below (below1 _ _)
  have HZ : Hid (SB (w.heap.size + 1 + 1) sn0 (.slice none 0 0) (.slice none 0 0) (.slice none 0 0) W) := by show SB _ _ _ _ _ _; rw [← hW]; exact ((blk3 w _ _ _ _ _ _).2.2).below (below1 _ _)
  have b0 : Below w.heap.size w W := by rw [← hW]; exact (below3 _ _ _ _).trans ((below1 _ _).mono (by simp; omega))
  have z0 : w.heap.size + 3 ≤ W.heap.size := by rw [← hW]; simp
  clear hW
  obtain ⟨t0, t1, t2, t3, t4, t5, t6, t7, t8⟩ : W.cell? ⟨w.heap.size, 0, none⟩ = some (.int .i64 4) ∧ W.cell? ⟨w.heap.size, 1, none⟩ = some (.string buf) ∧ W.cell? ⟨w.heap.size, 2, none⟩ = some (.string he) ∧ W.cell? ⟨w.heap.size, 3, none⟩ = some (.string fr) ∧ W.cell? ⟨w.heap.size, 4, none⟩ = some (.string bo) ∧ W.cell? ⟨w.heap.size, 5, none⟩ = some ((.slice (some ⟨g1, 0, none⟩) R.length k1)) ∧ W.cell? ⟨w.heap.size, 6, none⟩ = some (.int .i64 (nx : Int)) ∧ W.cell? ⟨w.heap.size, 7, none⟩ = some ((.slice (some ⟨g2, 0, none⟩) R.length k2)) ∧ W.cell? ⟨w.heap.size, 8, none⟩ = some ((.slice (some ⟨g3, 0, none⟩) R.length k3)) := ⟨HA.out.cell 0, HA.out.cell 1, HA.out.cell 2, HA.out.cell 3, HA.out.cell 4, HA.out.cell 5, HA.out.cell 6, HA.out.cell 7, HA.out.cell 8⟩
  have s0 : W.cell? ⟨w.heap.size + 1, 0, none⟩ = some (.int .i64 250) := HR.out.cell 0
  have s1 : W.cell? ⟨w.heap.size + 1, 1, none⟩ = some v := HR.out.cell 1
  have x0 : W.cell? ⟨g1, 0, none⟩ = some (.string X) := (b0.cell (p := ⟨g1, 0, none⟩) hgl).trans hc0
  have gl : g1 < W.heap.size := by omega
  have zA : w.heap.size < W.heap.size := by omega
  have zB : w.heap.size + 1 < W.heap.size := by omega
  clear hc0 hgl
  go_cut [10, 11] (fun pv xv wx => ∃ a p4 p5 p6 q4 q5 q6, pv = .pointer (some ⟨a, 0, none⟩) ∧ xv = .string (cmdB 4 X) ∧ w.heap.size + 1 + 1 < a ∧ Hid (a ≠ p4 ∧ a ≠ p5 ∧ a ≠ p6) ∧ Hid (Blk a #[.int .i64 5, .string buf, .string he, .string fr, .string bo, (.slice (some ⟨p4, 0, none⟩) R.length q4), .int .i64 (nx : Int), (.slice (some ⟨p5, 0, none⟩) R.length q5), (.slice (some ⟨p6, 0, none⟩) R.length q6)] wx) ∧ Hid (SV wx (w.heap.size + 1 + 1 + 1) (.slice (some ⟨p4, 0, none⟩) R.length q4) (.slice (some ⟨p5, 0, none⟩) R.length q5) (.slice (some ⟨p6, 0, none⟩) R.length q6) ((⟨4, buf, he, fr, bo, R, nx, T, V⟩ : Sn).to 5)) ∧ Hid (SB (w.heap.size + 1 + 1) sn0 (.slice none 0 0) (.slice none 0 0) (.slice none 0 0) wx) ∧ Hid (Below w.heap.size w wx))
  case first =>
    go_region_with (first | (go_at_call 125; refine (specCommand 4 X _ hX).mono ?_; rintro e w7 ⟨rfl, hb7⟩; (try have HN7 : Hid (Blk W.heap.size #[.int .i64 0, .string ⟨#[]⟩, .string ⟨#[]⟩, .string ⟨#[]⟩, .string ⟨#[]⟩, .slice none 0 0, .int .i64 0, .slice none 0 0, .slice none 0 0] w7) := Blk.below (Blk.new W _ _) (of_drew hb7)); have HB7 : Hid (Below W.heap.size W w7) := Below.trans (by repeat (first | exact Below.refl _ _ | refine Below.drew ?_ | refine Below.alloc ?_ (by simp) _)) (hb7.mono (by simp)); have HA7 : Hid (Blk w.heap.size #[.int .i64 4, .string buf, .string he, .string fr, .string bo, (.slice (some ⟨g1, 0, none⟩) R.length k1), .int .i64 (nx : Int), (.slice (some ⟨g2, 0, none⟩) R.length k2), (.slice (some ⟨g3, 0, none⟩) R.length k3)] w7) := Blk.below HA.out HB7.out; have HR7 : Hid (Blk (w.heap.size + 1) #[.int .i64 250, v] w7) := Blk.below HR.out HB7.out; obtain ⟨j0, j1, j2, j3, j4, j5, j6, j7, j8⟩ : w7.cell? ⟨w.heap.size, 0, none⟩ = some (.int .i64 4) ∧ w7.cell? ⟨w.heap.size, 1, none⟩ = some (.string buf) ∧ w7.cell? ⟨w.heap.size, 2, none⟩ = some (.string he) ∧ w7.cell? ⟨w.heap.size, 3, none⟩ = some (.string fr) ∧ w7.cell? ⟨w.heap.size, 4, none⟩ = some (.string bo) ∧ w7.cell? ⟨w.heap.size, 5, none⟩ = some ((.slice (some ⟨g1, 0, none⟩) R.length k1)) ∧ w7.cell? ⟨w.heap.size, 6, none⟩ = some (.int .i64 (nx : Int)) ∧ w7.cell? ⟨w.heap.size, 7, none⟩ = some ((.slice (some ⟨g2, 0, none⟩) R.length k2)) ∧ w7.cell? ⟨w.heap.size, 8, none⟩ = some ((.slice (some ⟨g3, 0, none⟩) R.length k3)) := ⟨HA7.out.cell 0, HA7.out.cell 1, HA7.out.cell 2, HA7.out.cell 3, HA7.out.cell 4, HA7.out.cell 5, HA7.out.cell 6, HA7.out.cell 7, HA7.out.cell 8⟩; have o0 : w7.cell? ⟨w.heap.size + 1, 0, none⟩ = some (.int .i64 250) := HR7.out.cell 0; have o1 : w7.cell? ⟨w.heap.size + 1, 1, none⟩ = some v := HR7.out.cell 1; have o2 : w7.cell? ⟨g1, 0, none⟩ = some (.string X) := (HB7.out.cell (p := ⟨g1, 0, none⟩) gl).trans x0; have zs7 := HB7.out.size; have zA7 : w.heap.size < w7.heap.size := (by omega); have zB7 : w.heap.size + 1 < w7.heap.size := (by omega); have gl7 : g1 < w7.heap.size := (by omega); clear hb7) | (go_at_call 122; refine (specTo (⟨4, buf, he, fr, bo, R, nx, T, V⟩ : Sn) 5 (cmdB 4 X) _ _ _ lo _ HK.out.wf (H.out.below (b0.trans ((HB7.out.mono b0.size).trans (by repeat (first | exact Below.refl _ _ | refine Below.drew ?_ | refine Below.alloc ?_ (by have := HB7.out.size; have := b0.size; omega) _)))) (Nat.le_refl _))).mono ?_; rintro e w8 ⟨⟨v1, v2, v3, rfl, S8⟩, hb8⟩; (try (have HN8 : Hid (Blk w7.heap.size #[.int .i64 0, .string ⟨#[]⟩, .string ⟨#[]⟩, .string ⟨#[]⟩, .string ⟨#[]⟩, .slice none 0 0, .int .i64 0, .slice none 0 0, .slice none 0 0] w8) := Blk.below (Blk.new w7 _ _) hb8; obtain ⟨n0, n1, n2, n3, n4, n5, n6, n7, n8⟩ : w8.cell? ⟨w7.heap.size, 0, none⟩ = some (.int .i64 0) ∧ w8.cell? ⟨w7.heap.size, 1, none⟩ = some (.string ⟨#[]⟩) ∧ w8.cell? ⟨w7.heap.size, 2, none⟩ = some (.string ⟨#[]⟩) ∧ w8.cell? ⟨w7.heap.size, 3, none⟩ = some (.string ⟨#[]⟩) ∧ w8.cell? ⟨w7.heap.size, 4, none⟩ = some (.string ⟨#[]⟩) ∧ w8.cell? ⟨w7.heap.size, 5, none⟩ = some (.slice none 0 0) ∧ w8.cell? ⟨w7.heap.size, 6, none⟩ = some (.int .i64 0) ∧ w8.cell? ⟨w7.heap.size, 7, none⟩ = some (.slice none 0 0) ∧ w8.cell? ⟨w7.heap.size, 8, none⟩ = some (.slice none 0 0) := ⟨HN8.out.cell 0, HN8.out.cell 1, HN8.out.cell 2, HN8.out.cell 3, HN8.out.cell 4, HN8.out.cell 5, HN8.out.cell 6, HN8.out.cell 7, HN8.out.cell 8⟩; obtain ⟨m0, m1, m2, m3, m4, m5, m6, m7, m8⟩ : w8.frozen? ⟨w7.heap.size, 0, none⟩ = false ∧ w8.frozen? ⟨w7.heap.size, 1, none⟩ = false ∧ w8.frozen? ⟨w7.heap.size, 2, none⟩ = false ∧ w8.frozen? ⟨w7.heap.size, 3, none⟩ = false ∧ w8.frozen? ⟨w7.heap.size, 4, none⟩ = false ∧ w8.frozen? ⟨w7.heap.size, 5, none⟩ = false ∧ w8.frozen? ⟨w7.heap.size, 6, none⟩ = false ∧ w8.frozen? ⟨w7.heap.size, 7, none⟩ = false ∧ w8.frozen? ⟨w7.heap.size, 8, none⟩ = false := ⟨HN8.out.free 0, HN8.out.free 1, HN8.out.free 2, HN8.out.free 3, HN8.out.free 4, HN8.out.free 5, HN8.out.free 6, HN8.out.free 7, HN8.out.free 8⟩)); (try (have HN8 : Hid (Blk W.heap.size #[.int .i64 0, .string ⟨#[]⟩, .string ⟨#[]⟩, .string ⟨#[]⟩, .string ⟨#[]⟩, .slice none 0 0, .int .i64 0, .slice none 0 0, .slice none 0 0] w8) := Blk.below HN7.out hb8; obtain ⟨n0, n1, n2, n3, n4, n5, n6, n7, n8⟩ : w8.cell? ⟨W.heap.size, 0, none⟩ = some (.int .i64 0) ∧ w8.cell? ⟨W.heap.size, 1, none⟩ = some (.string ⟨#[]⟩) ∧ w8.cell? ⟨W.heap.size, 2, none⟩ = some (.string ⟨#[]⟩) ∧ w8.cell? ⟨W.heap.size, 3, none⟩ = some (.string ⟨#[]⟩) ∧ w8.cell? ⟨W.heap.size, 4, none⟩ = some (.string ⟨#[]⟩) ∧ w8.cell? ⟨W.heap.size, 5, none⟩ = some (.slice none 0 0) ∧ w8.cell? ⟨W.heap.size, 6, none⟩ = some (.int .i64 0) ∧ w8.cell? ⟨W.heap.size, 7, none⟩ = some (.slice none 0 0) ∧ w8.cell? ⟨W.heap.size, 8, none⟩ = some (.slice none 0 0) := ⟨HN8.out.cell 0, HN8.out.cell 1, HN8.out.cell 2, HN8.out.cell 3, HN8.out.cell 4, HN8.out.cell 5, HN8.out.cell 6, HN8.out.cell 7, HN8.out.cell 8⟩; obtain ⟨m0, m1, m2, m3, m4, m5, m6, m7, m8⟩ : w8.frozen? ⟨W.heap.size, 0, none⟩ = false ∧ w8.frozen? ⟨W.heap.size, 1, none⟩ = false ∧ w8.frozen? ⟨W.heap.size, 2, none⟩ = false ∧ w8.frozen? ⟨W.heap.size, 3, none⟩ = false ∧ w8.frozen? ⟨W.heap.size, 4, none⟩ = false ∧ w8.frozen? ⟨W.heap.size, 5, none⟩ = false ∧ w8.frozen? ⟨W.heap.size, 6, none⟩ = false ∧ w8.frozen? ⟨W.heap.size, 7, none⟩ = false ∧ w8.frozen? ⟨W.heap.size, 8, none⟩ = false := ⟨HN8.out.free 0, HN8.out.free 1, HN8.out.free 2, HN8.out.free 3, HN8.out.free 4, HN8.out.free 5, HN8.out.free 6, HN8.out.free 7, HN8.out.free 8⟩)); obtain ⟨p4, p5, p6, q4, q5, q6, y4, y5, y6⟩ : ∃ p4 p5 p6 q4 q5 q6, v1 = .slice (some ⟨p4, 0, none⟩) R.length q4 ∧ v2 = .slice (some ⟨p5, 0, none⟩) R.length q5 ∧ v3 = .slice (some ⟨p6, 0, none⟩) R.length q6 := S8.someW ⟨by first | exact HK.out.t | (show (_ : List Bool).length = _; exact HK.out.t), by first | exact HK.out.v | exact (decV_len _ _).trans HK.out.v, HK.out.r1, HK.out.r20⟩; subst y4; subst y5; subst y6; have HB8 : Hid (Below W.heap.size W w8) := HB7.out.trans (Below.trans (by repeat (first | exact Below.refl _ _ | refine Below.drew ?_ | refine Below.alloc ?_ (by have := HB7.out.size; have := b0.size; omega) _)) (hb8.mono (Nat.le_trans HB7.out.size (Below.size (B := W.heap.size) (by repeat (first | exact Below.refl _ _ | refine Below.drew ?_ | refine Below.alloc ?_ (by have := HB7.out.size; have := b0.size; omega) _)))))); have HZ8 : Hid (SB (w.heap.size + 1 + 1) sn0 (.slice none 0 0) (.slice none 0 0) (.slice none 0 0) w8) := SB.below HZ.out HB8.out; obtain ⟨r0, r1, r2, r3, r4, r5, r6, r7, r8⟩ := HZ8.out.zero; obtain ⟨rf0, rf1, rf2, rf3, rf4, rf5, rf6, rf7, rf8⟩ := HZ8.out.frees; have zl : w.heap.size + 1 + 1 < w8.heap.size := HZ8.out.lt; have HS8 : Hid (SV w8 w7.heap.size (.slice (some ⟨p4, 0, none⟩) R.length q4) (.slice (some ⟨p5, 0, none⟩) R.length q5) (.slice (some ⟨p6, 0, none⟩) R.length q6) ((⟨4, buf, he, fr, bo, R, nx, T, V⟩ : Sn).to 5)) := (by first | exact S8 | exact S8.le (by simp)); (try have HS9 : Hid (SV w8 (w7.heap.size + 1) (.slice (some ⟨p4, 0, none⟩) R.length q4) (.slice (some ⟨p5, 0, none⟩) R.length q5) (.slice (some ⟨p6, 0, none⟩) R.length q6) ((⟨4, buf, he, fr, bo, R, nx, T, V⟩ : Sn).to 5)) := S8.le (by simp)); clear S8 hb8; dsimp only [Sn.to]))
    all_goals
      have b8 : Below w.heap.size w w8 := b0.trans (HB8.out.mono b0.size)
      have z8 : w.heap.size + 1 + 1 < w7.heap.size := Nat.lt_of_lt_of_le (Nat.lt_of_lt_of_le (by omega) z0) HB7.out.size
      have e8 := HB8.out.size
      go_wp2_with fail
      go_meet
      first
        | (have zW7 : W.heap.size < w7.heap.size := HN7.out.lt
           have o4 := (HS8.out.own.1 p4 rfl).1
           have o5 := (HS8.out.own.2.1 p5 rfl).1
           have o6 := (HS8.out.own.2.2 p6 rfl).1
           refine ⟨_, p4, p5, p6, q4, q5, q6, rfl, rfl, by omega, ⟨by omega, by omega, by omega⟩, blk_nine HN8.out _ _ _ _ _ _ _ _ _, ?_, ?_, below_nine b8 (by omega) _ _ _ _ _ _ _ _ _⟩
           · exact (HS8.out.nine zW7 _ _ _ _ _ _ _ _ _).le (by omega)
           · exact sb_nine HZ8.out (by omega) _ _ _ _ _ _ _ _ _)
        | (have zW7 : w7.heap.size < w8.heap.size := HN8.out.lt
           have o4 := (HS9.out.own.1 p4 rfl).1
           have o5 := (HS9.out.own.2.1 p5 rfl).1
           have o6 := (HS9.out.own.2.2 p6 rfl).1
           refine ⟨_, p4, p5, p6, q4, q5, q6, rfl, rfl, by omega, ⟨by omega, by omega, by omega⟩, blk_nine HN8.out _ _ _ _ _ _ _ _ _, ?_, ?_, below_nine b8 (by omega) _ _ _ _ _ _ _ _ _⟩
           · exact (HS9.out.nine (Nat.lt_succ_self _) _ _ _ _ _ _ _ _ _).le (by omega)
           · exact sb_nine HZ8.out (by omega) _ _ _ _ _ _ _ _ _)
        | (have o4 := (HS8.out.own.1 p4 rfl).2
           have o5 := (HS8.out.own.2.1 p5 rfl).2
           have o6 := (HS8.out.own.2.2 p6 rfl).2
           exact ⟨_, p4, p5, p6, q4, q5, q6, rfl, rfl, by omega, ⟨by omega, by omega, by omega⟩, Blk.new w8 _ _, (HS8.out.below (below1 _ _) (Nat.le_refl _)).le (by omega), SB.below HZ8.out (below1 _ _), b8.trans ((below1 _ _).mono b8.size)⟩)
  case rest =>
    obtain ⟨a, p4, p5, p6, q4, q5, q6, rfl, rfl, ha, hne, HBa, HSa, HZa, HBw⟩ := hcut
    obtain ⟨hn4, hn5, hn6⟩ := hne.out
    obtain ⟨n0, n1, n2, n3, n4, n5, n6, n7, n8⟩ : wc.cell? ⟨a, 0, none⟩ = some (.int .i64 5) ∧ wc.cell? ⟨a, 1, none⟩ = some (.string buf) ∧ wc.cell? ⟨a, 2, none⟩ = some (.string he) ∧ wc.cell? ⟨a, 3, none⟩ = some (.string fr) ∧ wc.cell? ⟨a, 4, none⟩ = some (.string bo) ∧ wc.cell? ⟨a, 5, none⟩ = some ((.slice (some ⟨p4, 0, none⟩) R.length q4)) ∧ wc.cell? ⟨a, 6, none⟩ = some (.int .i64 (nx : Int)) ∧ wc.cell? ⟨a, 7, none⟩ = some ((.slice (some ⟨p5, 0, none⟩) R.length q5)) ∧ wc.cell? ⟨a, 8, none⟩ = some ((.slice (some ⟨p6, 0, none⟩) R.length q6)) := ⟨HBa.out.cell 0, HBa.out.cell 1, HBa.out.cell 2, HBa.out.cell 3, HBa.out.cell 4, HBa.out.cell 5, HBa.out.cell 6, HBa.out.cell 7, HBa.out.cell 8⟩
    have m6 : wc.frozen? ⟨a, 6, none⟩ = false := HBa.out.free 6
    have al : a < wc.heap.size := HBa.out.lt
    obtain ⟨r0, r1, r2, r3, r4, r5, r6, r7, r8⟩ := HZa.out.zero
    obtain ⟨rf0, rf1, rf2, rf3, rf4, rf5, rf6, rf7, rf8⟩ := HZa.out.frees
    have zl : w.heap.size + 1 + 1 < wc.heap.size := HZa.out.lt
    have e1 : ¬ a = w.heap.size + 1 + 1 := by omega
    have e2 : ¬ w.heap.size + 1 + 1 = a := by omega
    go_wp2
    refine bodyPost_ret (v := .tuple #[.agg #[.int .i64 5, .string buf, .string he, .string fr, .string bo, (.slice (some ⟨p4, 0, none⟩) R.length q4), .int .i64 0, (.slice (some ⟨p5, 0, none⟩) R.length q5), (.slice (some ⟨p6, 0, none⟩) R.length q6)], .string (cmdB 4 X)]) (by simp [results, Tryz.results91, go_sem, r0, r1, r2, r3, r4, r5, r6, r7, r8]) rfl ?_
    refine ⟨⟨_, _, _, rfl, ?_⟩, ?_⟩
    · exact ((HSa.out.set_ne (a := ⟨a, 6, none⟩) (fun g hg => by cases hg; exact hn4.symm) (fun g hg => by cases hg; exact hn5.symm) (fun g hg => by cases hg; exact hn6.symm) _).nine (b := w.heap.size + 1 + 1) (Nat.lt_succ_self _) _ _ _ _ _ _ _ _ _).le (by omega)
    · exact below_nine (HBw.out.setCell (p := ⟨a, 6, none⟩) (by dsimp only; omega) _) (by omega) _ _ _ _ _ _ _ _ _
end Go.Proofs.YtngcjlghjidnjaaGreatDoor
namespace Go.Proofs.YtngcjlghjidnjaaGreatDoor
open Pcs
theorem cat_nil (t : ByteArray) : t ++ (⟨#[]⟩ : ByteArray) = t := by
  apply ByteArray.ext
  simp
theorem take_8 {s : Sn} (h : s.ph = 8) (c : Nat) (L : List ByteArray) : s.take c L = (s.to 9, ⟨#[]⟩) := by unfold Sn.take; rw [if_pos h]
theorem take_421 {s : Sn} (h : s.ph ≠ 8) (L : List ByteArray) : s.take 421 L = ((s.dec (refV 421 (L.getD 0 ⟨#[]⟩))).to 9, ⟨#[]⟩) := by unfold Sn.take; rw [if_neg h, if_pos rfl]
theorem take_5 {s : Sn} (h : s.ph = 5) {c : Nat} (hc : c ≠ 421) (L : List ByteArray) : s.take c L = (s.mark c (L.getD 0 ⟨#[]⟩)).next := by unfold Sn.take; rw [if_neg (by omega), if_neg hc, if_pos h]
theorem take_1 {s : Sn} (h : s.ph = 1) {c : Nat} (hc : c ≠ 421) (L : List ByteArray) : s.take c L = if c = 220 then (s.to 2, cmdB 1 s.he) else s.quit (refV c (L.getD 0 ⟨#[]⟩)) := by unfold Sn.take; rw [if_neg (by omega), if_neg hc, if_neg (by omega), if_pos h]
theorem take_2 {s : Sn} (h : s.ph = 2) {c : Nat} (hc : c ≠ 421) (L : List ByteArray) : s.take c L = if c = 250 then (if tooBig L s.bo.size then s.quit (3, 552, ⟨#[115, 105, 122, 101]⟩) else (s.to 4, cmdB 3 s.fr)) else if 500 ≤ c then (s.to 3, cmdB 2 s.he) else s.quit (refV c (L.getD 0 ⟨#[]⟩)) := by unfold Sn.take; rw [if_neg (by omega), if_neg hc, if_neg (by omega), if_neg (by omega), if_pos h]
theorem take_3 {s : Sn} (h : s.ph = 3) {c : Nat} (hc : c ≠ 421) (L : List ByteArray) : s.take c L = if c = 250 then (s.to 4, cmdB 3 s.fr) else s.quit (refV c (L.getD 0 ⟨#[]⟩)) := by unfold Sn.take; rw [if_neg (by omega), if_neg hc, if_neg (by omega), if_neg (by omega), if_neg (by omega), if_pos h]
theorem take_4 {s : Sn} (h : s.ph = 4) {c : Nat} (hc : c ≠ 421) (L : List ByteArray) : s.take c L = if c = 250 then ({ s.to 5 with nx := 0 }, cmdB 4 (s.R.getD 0 ⟨#[]⟩)) else s.quit (refV c (L.getD 0 ⟨#[]⟩)) := by unfold Sn.take; rw [if_neg (by omega), if_neg hc, if_neg (by omega), if_neg (by omega), if_neg (by omega), if_neg (by omega), if_pos h]
theorem take_6 {s : Sn} (h : s.ph = 6) {c : Nat} (hc : c ≠ 421) (L : List ByteArray) : s.take c L = if c = 354 then (s.to 7, stuffB s.bo) else s.quit (refV c (L.getD 0 ⟨#[]⟩)) := by unfold Sn.take; rw [if_neg (by omega), if_neg hc, if_neg (by omega), if_neg (by omega), if_neg (by omega), if_neg (by omega), if_neg (by omega), if_pos h]
theorem take_7 {s : Sn} (h : s.ph = 7) {c : Nat} (hc : c ≠ 421) (L : List ByteArray) : s.take c L = if c = 250 then s.quit (1, 250, L.getD 0 ⟨#[]⟩) else s.quit (refV c (L.getD 0 ⟨#[]⟩)) := by unfold Sn.take; rw [if_neg (by omega), if_neg hc, if_neg (by omega), if_neg (by omega), if_neg (by omega), if_neg (by omega), if_neg (by omega), if_neg (by omega)]
theorem big_cases (L : List ByteArray) (n : Nat) : (tooBig L n = true ∧ ((szLim L).isSome = true ∧ 0 < (szLim L).getD 0 ∧ (szLim L).getD 0 < n)) ∨ (tooBig L n = false ∧ ((szLim L).isSome = false ∨ (szLim L).getD 0 = 0 ∨ n ≤ (szLim L).getD 0)) := by
  unfold tooBig
  cases szLim L with
  | none => exact .inr ⟨rfl, .inl rfl⟩
  | some k =>
    by_cases h : 0 < k ∧ k < n
    · exact .inl ⟨decide_eq_true h, rfl, h⟩
    · refine .inr ⟨decide_eq_false h, .inr ?_⟩
      show k = 0 ∨ n ≤ k
      omega
end Go.Proofs.YtngcjlghjidnjaaGreatDoor
