import Derived.Test.YtngcjlghjidnjaaGreatDoorMg33
import Derived.Test.YtngcjlghjidnjaaGreatDoorMg28
import Derived.Test.YtngcjlghjidnjaaGreatDoorMg30
import Derived.Deep.RegionHeld3
import Derived.Test.YtngcjlghjidnjaaGreatDoorMg13
import Derived.Test.YtngcjlghjidnjaaGreatDoorMg7
namespace Go.Proofs.YtngcjlghjidnjaaGreatDoor
open Go.ChangeShapes Go.WideShapes Go.ChangeAt Go.RowKit
attribute [local go_sem ↓] Go.wp_at_zero Go.wp_at_succ

set_option maxHeartbeats 4000000 in
set_option maxRecDepth 100000 in
theorem implNoK (K : Int) (c : Nat) (t : ByteArray) (g n k : Nat) (w : World) (h0 : w.cell? ⟨g, 0, none⟩ = some (.string t)) (hg : g < w.heap.size) (hn : 0 < n) (hK : (500 ≤ c ∧ K = 3) ∨ (c < 500 ∧ K = 2)) :
    Calls Tryz.prog 112 #[.agg #[.int .i64 (c : Int), .slice (some ⟨g, 0, none⟩) n k]] w fun e w' => e = .returned (.agg #[.int .i64 K, .int .i64 (c : Int), .string t]) ∧ Below w.heap.size w w' := by
  rcases hK with ⟨hc, rfl⟩ | ⟨hc, rfl⟩
  · go_enter Tryz.func112, Tryz.ntmps112
    go_wp2_with fail
    generalize hW : World.alloc _ _ = W
    have b0 : Below w.heap.size w W := by rw [← hW]; exact below2 _ _ _
    have HZ : Hid (Blk (w.heap.size + 1) #[.int .i64 0, .int .i64 0, .string ⟨#[]⟩] W) := by show Blk _ _ _; rw [← hW]; exact (blk2 w _ _ _ _).2
    have HR : Hid (Blk w.heap.size #[.int .i64 (c : Int), .slice (some ⟨g, 0, none⟩) n k] W) := by show Blk _ _ _; rw [← hW]; exact (blk2 w _ _ _ _).1
    have z0 : w.heap.size + 1 < W.heap.size := HZ.out.lt
    have zr : w.heap.size < W.heap.size := by omega
    have gl : g < W.heap.size := by omega
    have x0 : W.cell? ⟨w.heap.size, 0, none⟩ = some (.int .i64 (c : Int)) := HR.out.cell 0
    have x1 : W.cell? ⟨w.heap.size, 1, none⟩ = some (.slice (some ⟨g, 0, none⟩) n k) := HR.out.cell 1
    have y0 : W.cell? ⟨g, 0, none⟩ = some (.string t) := (b0.cell (p := ⟨g, 0, none⟩) hg).trans h0
    have r0 : W.cell? ⟨w.heap.size + 1, 0, none⟩ = some (.int .i64 0) := HZ.out.cell 0
    have r1 : W.cell? ⟨w.heap.size + 1, 1, none⟩ = some (.int .i64 0) := HZ.out.cell 1
    have r2 : W.cell? ⟨w.heap.size + 1, 2, none⟩ = some (.string ⟨#[]⟩) := HZ.out.cell 2
    have f0 : W.frozen? ⟨w.heap.size + 1, 0, none⟩ = false := HZ.out.free 0
    have f1 : W.frozen? ⟨w.heap.size + 1, 1, none⟩ = false := HZ.out.free 1
    have f2 : W.frozen? ⟨w.heap.size + 1, 2, none⟩ = false := HZ.out.free 2
    clear hW h0 hg HR
    go_region
    go_wp2
    refine bodyPost_ret (v := .agg #[.int .i64 3, .int .i64 (c : Int), .string t]) (by simp [results, Tryz.results112, go_sem, r0, r1, r2]) rfl ?_
    refine ⟨rfl, ?_⟩
    exact (((b0.setCell (p := ⟨w.heap.size + 1, 0, none⟩) (by dsimp only; omega) _).setCell (p := ⟨w.heap.size + 1, 1, none⟩) (by dsimp only; omega) _).setCell (p := ⟨w.heap.size + 1, 2, none⟩) (by dsimp only; omega) _).drew
  · go_enter Tryz.func112, Tryz.ntmps112
    go_wp2_with fail
    generalize hW : World.alloc _ _ = W
    have b0 : Below w.heap.size w W := by rw [← hW]; exact below2 _ _ _
    have HZ : Hid (Blk (w.heap.size + 1) #[.int .i64 0, .int .i64 0, .string ⟨#[]⟩] W) := by show Blk _ _ _; rw [← hW]; exact (blk2 w _ _ _ _).2
    have HR : Hid (Blk w.heap.size #[.int .i64 (c : Int), .slice (some ⟨g, 0, none⟩) n k] W) := by show Blk _ _ _; rw [← hW]; exact (blk2 w _ _ _ _).1
    have z0 : w.heap.size + 1 < W.heap.size := HZ.out.lt
    have zr : w.heap.size < W.heap.size := by omega
    have gl : g < W.heap.size := by omega
    have x0 : W.cell? ⟨w.heap.size, 0, none⟩ = some (.int .i64 (c : Int)) := HR.out.cell 0
    have x1 : W.cell? ⟨w.heap.size, 1, none⟩ = some (.slice (some ⟨g, 0, none⟩) n k) := HR.out.cell 1
    have y0 : W.cell? ⟨g, 0, none⟩ = some (.string t) := (b0.cell (p := ⟨g, 0, none⟩) hg).trans h0
    have r0 : W.cell? ⟨w.heap.size + 1, 0, none⟩ = some (.int .i64 0) := HZ.out.cell 0
    have r1 : W.cell? ⟨w.heap.size + 1, 1, none⟩ = some (.int .i64 0) := HZ.out.cell 1
    have r2 : W.cell? ⟨w.heap.size + 1, 2, none⟩ = some (.string ⟨#[]⟩) := HZ.out.cell 2
    have f0 : W.frozen? ⟨w.heap.size + 1, 0, none⟩ = false := HZ.out.free 0
    have f1 : W.frozen? ⟨w.heap.size + 1, 1, none⟩ = false := HZ.out.free 1
    have f2 : W.frozen? ⟨w.heap.size + 1, 2, none⟩ = false := HZ.out.free 2
    clear hW h0 hg HR
    go_region
    go_wp2
    refine bodyPost_ret (v := .agg #[.int .i64 2, .int .i64 (c : Int), .string t]) (by simp [results, Tryz.results112, go_sem, r0, r1, r2]) rfl ?_
    refine ⟨rfl, ?_⟩
    exact (((b0.setCell (p := ⟨w.heap.size + 1, 0, none⟩) (by dsimp only; omega) _).setCell (p := ⟨w.heap.size + 1, 1, none⟩) (by dsimp only; omega) _).setCell (p := ⟨w.heap.size + 1, 2, none⟩) (by dsimp only; omega) _).drew

theorem first_str {w : World} {lo : Nat} {v : Value} {L : List ByteArray} (h : Strs w lo v L) (h1 : 1 ≤ L.length) : ∃ g k, v = .slice (some ⟨g, 0, none⟩) L.length k ∧ w.cell? ⟨g, 0, none⟩ = some (.string (L.getD 0 ⟨#[]⟩)) ∧ g < w.heap.size ∧ lo ≤ g := by
  obtain ⟨g, k, rfl, ha⟩ := strs_ne2 h (by intro e; rw [e] at h1; simp at h1)
  refine ⟨g, k, rfl, ?_, ha.lt, ha.lo⟩
  have := ha.cell 0 h1
  rw [this]
  cases L with
  | nil => simp at h1
  | cons x L => rfl
theorem refV_is (c : Nat) (x : ByteArray) : (500 ≤ c ∧ (refV c x).1 = 3) ∨ (c < 500 ∧ (refV c x).1 = 2) := by
  unfold refV
  by_cases h : 500 ≤ c
  · exact .inl ⟨h, by dsimp only; rw [if_pos h]⟩
  · exact .inr ⟨by omega, by dsimp only; rw [if_neg h]⟩
theorem implNo (c : Nat) (v : Value) (L : List ByteArray) (lo : Nat) (w : World) (hS : Strs w lo v L) (h1 : 1 ≤ L.length) :
    Calls Tryz.prog 112 #[.agg #[.int .i64 (c : Int), v]] w fun e w' => e = .returned (.agg #[.int .i64 (refV c (L.getD 0 ⟨#[]⟩)).1, .int .i64 (refV c (L.getD 0 ⟨#[]⟩)).2.1, .string (refV c (L.getD 0 ⟨#[]⟩)).2.2]) ∧ Below w.heap.size w w' := by
  obtain ⟨g, k, rfl, h0, hg, _⟩ := first_str hS h1
  exact implNoK _ c _ g _ k w h0 hg h1 (refV_is c _)

set_option maxHeartbeats 4000000 in
set_option maxRecDepth 100000 in
theorem implBehind (b : Nat) (w0 : World) (u1 u2 u3 : Value) (s : Sn) (t : ByteArray) (code : Int) (c : Nat) (v : Value) (L : List ByteArray) (lo : Nat) (x : ByteArray) (p : Int) (P : Sn × ByteArray) (w : World) (hl : LenIn w0) (hk : s.Ok) (hz : t.size + x.size ≤ 800000000) (hS : Strs w lo v L) (h1 : 1 ≤ L.length) (h : DB b w0 u1 u2 u3 s t w)
    (hP : ((c : Int) = code ∧ P = (s.to p, x)) ∨ ((c : Int) ≠ code ∧ P = s.quit (refV c (L.getD 0 ⟨#[]⟩)))) :
    Calls Tryz.prog 140 #[.pointer (some ⟨b, 0, none⟩), .int .i64 code, .agg #[.int .i64 (c : Int), v], .string x, .int .i64 p] w fun e w' => DP b w0 u1 u2 u3 P.1 (t ++ P.2) w e w' := by
  have H : Hid (DB b w0 u1 u2 u3 s t w) := h
  have HK : Hid s.Ok := hk
  have HS : Hid (Strs w lo v L) := hS
  clear h hk hS
  rcases hP with ⟨hc, rfl⟩ | ⟨hc, rfl⟩
  · subst hc
    go_enter Tryz.func140, Tryz.ntmps140
    go_wp2_with fail
    refine (implSay b w0 u1 u2 u3 s t x p _ (by omega) (H.out.below (below1 _ _))).mono ?_
    rintro e w2 ⟨rfl, D2, O2⟩
    go_wp2
    refine bodyPost_ret (v := .tuple #[]) (by simp [results, Tryz.results140, go_sem]) rfl ?_
    exact ⟨rfl, D2, (DO.of_below (below1 _ _)).trans O2⟩
  · have hcb : ((c : Int) == code) = false := beq_eq_false_iff_ne.2 hc
    clear hc
    go_enter Tryz.func140, Tryz.ntmps140
    go_wp2_with fail
    refine (implNo c v L lo _ (strs_below HS.out (below1 _ _) (Nat.le_refl _)) h1).mono ?_
    rintro e w1 ⟨rfl, hb1⟩
    have b1 : Below w.heap.size w w1 := (below1 w _).trans (hb1.mono (by simp))
    go_wp2_with fail
    refine (implGive b w0 u1 u2 u3 s t _ w1 hl HK.out (by omega) (H.out.below b1)).mono ?_
    rintro e w2 ⟨rfl, D2, O2⟩
    go_wp2
    refine bodyPost_ret (v := .tuple #[]) (by simp [results, Tryz.results140, go_sem]) rfl ?_
    exact ⟨rfl, D2, (DO.of_below b1).trans O2⟩

set_option maxHeartbeats 4000000 in
set_option maxRecDepth 100000 in
theorem implGreet (b : Nat) (w0 : World) (u1 u2 u3 : Value) (s : Sn) (t : ByteArray) (c : Nat) (v : Value) (L : List ByteArray) (lo : Nat) (P : Sn × ByteArray) (w : World) (hl : LenIn w0) (hk : s.Ok) (hz : t.size ≤ 700000000) (hS : Strs w lo v L) (h1 : 1 ≤ L.length) (h : DB b w0 u1 u2 u3 s t w)
    (hP : ((c : Int) = 220 ∧ P = (s.to 2, cmdB 1 s.he)) ∨ ((c : Int) ≠ 220 ∧ P = s.quit (refV c (L.getD 0 ⟨#[]⟩)))) :
    Calls Tryz.prog 113 #[.pointer (some ⟨b, 0, none⟩), .agg #[.int .i64 (c : Int), v]] w fun e w' => DP b w0 u1 u2 u3 P.1 (t ++ P.2) w e w' := by
  have H : Hid (DB b w0 u1 u2 u3 s t w) := h
  have bl : b < w.heap.size := h.blk.lt
  have hX : (cmdB 1 s.he).size ≤ 20000 := by
    have := hk.he
    have := hk.fr
    have := hk.bo
    have h1 := cmd_size 1 s.he
    omega
  have HCX : Hid (∀ wx, Below w.heap.size w wx → Calls Tryz.prog 12 #[.int .i64 1, .string s.he] wx fun e w' => e = .returned (.string (cmdB 1 s.he)) ∧ Below wx.heap.size wx w') := fun wx hb => implCommand 1 s.he wx (len_below hl (h.bel.trans (hb.mono h.bel.size))) (by have := hk.he; omega)
  have HBH : Hid (∀ wx, Below w.heap.size w wx → Calls Tryz.prog 140 #[.pointer (some ⟨b, 0, none⟩), .int .i64 220, .agg #[.int .i64 (c : Int), v], .string (cmdB 1 s.he), .int .i64 2] wx fun e w' => DP b w0 u1 u2 u3 P.1 (t ++ P.2) wx e w') := fun wx hb => implBehind b w0 u1 u2 u3 s t 220 c v L lo (cmdB 1 s.he) 2 P wx hl hk (by omega) (strs_below hS hb (Nat.le_refl _)) h1 (h.below hb) hP
  have hF : P.1.he = s.he := by rcases hP with ⟨_, rfl⟩ | ⟨_, rfl⟩ <;> rfl
  have hw2 : u2.ownBlock ≠ some w.heap.size := fun e => by have := (h.sv.own.2.1 _ e).2; omega
  have hw3 : u3.ownBlock ≠ some w.heap.size := fun e => by have := (h.sv.own.2.2 _ e).2; omega
  clear h hk hS hP h1 hX
  generalize cmdB 1 s.he = X at *
  go_enter Tryz.func113, Tryz.ntmps113
  go_upto_region 1 with fail
  generalize hW : World.alloc _ _ = W
  have b0 : Below w.heap.size w W := by rw [← hW]; exact below1 _ _
  have HB : Hid (Blk w.heap.size #[.int .i64 (c : Int), v] W) := by show Blk _ _ _; rw [← hW]; exact Blk.new _ _ _
  have z0 : w.heap.size < W.heap.size := HB.out.lt
  have x0 : W.cell? ⟨w.heap.size, 0, none⟩ = some (.int .i64 (c : Int)) := HB.out.cell 0
  have x1 : W.cell? ⟨w.heap.size, 1, none⟩ = some v := HB.out.cell 1
  have x2 : W.cell? ⟨b, 2, none⟩ = some (.string s.he) := (H.out.below b0).blk.cell 2
  clear hW
  go_region_held3 (fun w' => w'.cell? ⟨w.heap.size, 0, none⟩ = some (.int .i64 (c : Int)) ∧ w'.cell? ⟨w.heap.size, 1, none⟩ = some v ∧ w'.cell? ⟨b, 2, none⟩ = some (.string s.he)) (first | assumption | (exact ⟨k0, k1, k2⟩) | (exact ⟨l0, l1, l2⟩) | go_keep) (first | (go_at_call 12; refine (HCX.out _ (b0.trans (by repeat (first | exact Below.refl _ _ | refine Below.drew ?_)))).mono ?_; rintro e w1 ⟨rfl, hb1⟩; have HB1 : Hid (Below W.heap.size W w1) := ((Below.refl W.heap.size W).drew).trans hb1; have k0 := (HB1.out.cell (p := ⟨w.heap.size, 0, none⟩) z0).trans x0; have k1 := (HB1.out.cell (p := ⟨w.heap.size, 1, none⟩) z0).trans x1; have k2 := (HB1.out.cell (p := ⟨b, 2, none⟩) (by show b < _; omega)).trans x2; clear hb1) | (go_at_call 140; refine (HBH.out _ (b0.trans (HB1.out.mono b0.size))).mono ?_; rintro e w2 ⟨rfl, D2, O2⟩; have HD2 : Hid (DB b w0 u1 u2 u3 P.1 (t ++ P.2) w2) := D2; have HX2 : Hid (Blk w.heap.size #[.int .i64 (c : Int), v] w2) := DO.blk O2 (Blk.below HB.out HB1.out) (by omega) hw2 hw3; have l0 : w2.cell? ⟨w.heap.size, 0, none⟩ = some (.int .i64 (c : Int)) := HX2.out.cell 0; have l1 : w2.cell? ⟨w.heap.size, 1, none⟩ = some v := HX2.out.cell 1; have l2 : w2.cell? ⟨b, 2, none⟩ = some (.string s.he) := (HD2.out.blk.cell 2).trans (by rw [← hF]; rfl); have HO2 : Hid (DO b u2 u3 w w2) := (DO.of_below (b0.trans (HB1.out.mono b0.size))).trans O2; clear D2 O2))
  all_goals
    go_wp2
    refine bodyPost_ret (v := .tuple #[]) (by simp [results, Tryz.results113, go_sem]) rfl ?_
    exact ⟨rfl, HD2.out, HO2.out⟩
end Go.Proofs.YtngcjlghjidnjaaGreatDoor
namespace Go.Proofs.YtngcjlghjidnjaaGreatDoor
open Go.ChangeShapes Go.WideShapes Go.ChangeAt Go.RowKit
attribute [local go_sem ↓] Go.wp_at_zero Go.wp_at_succ

set_option maxHeartbeats 4000000 in
set_option maxRecDepth 100000 in
theorem implHelo (b : Nat) (w0 : World) (u1 u2 u3 : Value) (s : Sn) (t : ByteArray) (c : Nat) (v : Value) (L : List ByteArray) (lo : Nat) (P : Sn × ByteArray) (w : World) (hl : LenIn w0) (hk : s.Ok) (hz : t.size ≤ 700000000) (hS : Strs w lo v L) (h1 : 1 ≤ L.length) (h : DB b w0 u1 u2 u3 s t w)
    (hP : ((c : Int) = 250 ∧ P = (s.to 4, cmdB 3 s.fr)) ∨ ((c : Int) ≠ 250 ∧ P = s.quit (refV c (L.getD 0 ⟨#[]⟩)))) :
    Calls Tryz.prog 115 #[.pointer (some ⟨b, 0, none⟩), .agg #[.int .i64 (c : Int), v]] w fun e w' => DP b w0 u1 u2 u3 P.1 (t ++ P.2) w e w' := by
  have H : Hid (DB b w0 u1 u2 u3 s t w) := h
  have bl : b < w.heap.size := h.blk.lt
  have hX : (cmdB 3 s.fr).size ≤ 20000 := by
    have := hk.he
    have := hk.fr
    have := hk.bo
    have h1 := cmd_size 3 s.fr
    omega
  have HCX : Hid (∀ wx, Below w.heap.size w wx → Calls Tryz.prog 12 #[.int .i64 3, .string s.fr] wx fun e w' => e = .returned (.string (cmdB 3 s.fr)) ∧ Below wx.heap.size wx w') := fun wx hb => implCommand 3 s.fr wx (len_below hl (h.bel.trans (hb.mono h.bel.size))) (by have := hk.fr; omega)
  have HBH : Hid (∀ wx, Below w.heap.size w wx → Calls Tryz.prog 140 #[.pointer (some ⟨b, 0, none⟩), .int .i64 250, .agg #[.int .i64 (c : Int), v], .string (cmdB 3 s.fr), .int .i64 4] wx fun e w' => DP b w0 u1 u2 u3 P.1 (t ++ P.2) wx e w') := fun wx hb => implBehind b w0 u1 u2 u3 s t 250 c v L lo (cmdB 3 s.fr) 4 P wx hl hk (by omega) (strs_below hS hb (Nat.le_refl _)) h1 (h.below hb) hP
  have hF : P.1.fr = s.fr := by rcases hP with ⟨_, rfl⟩ | ⟨_, rfl⟩ <;> rfl
  have hw2 : u2.ownBlock ≠ some w.heap.size := fun e => by have := (h.sv.own.2.1 _ e).2; omega
  have hw3 : u3.ownBlock ≠ some w.heap.size := fun e => by have := (h.sv.own.2.2 _ e).2; omega
  clear h hk hS hP h1 hX
  generalize cmdB 3 s.fr = X at *
  go_enter Tryz.func115, Tryz.ntmps115
  go_upto_region 1 with fail
  generalize hW : World.alloc _ _ = W
  have b0 : Below w.heap.size w W := by rw [← hW]; exact below1 _ _
  have HB : Hid (Blk w.heap.size #[.int .i64 (c : Int), v] W) := by show Blk _ _ _; rw [← hW]; exact Blk.new _ _ _
  have z0 : w.heap.size < W.heap.size := HB.out.lt
  have x0 : W.cell? ⟨w.heap.size, 0, none⟩ = some (.int .i64 (c : Int)) := HB.out.cell 0
  have x1 : W.cell? ⟨w.heap.size, 1, none⟩ = some v := HB.out.cell 1
  have x2 : W.cell? ⟨b, 3, none⟩ = some (.string s.fr) := (H.out.below b0).blk.cell 3
  clear hW
  go_region_held3 (fun w' => w'.cell? ⟨w.heap.size, 0, none⟩ = some (.int .i64 (c : Int)) ∧ w'.cell? ⟨w.heap.size, 1, none⟩ = some v ∧ w'.cell? ⟨b, 3, none⟩ = some (.string s.fr)) (first | assumption | (exact ⟨k0, k1, k2⟩) | (exact ⟨l0, l1, l2⟩) | go_keep) (first | (go_at_call 12; refine (HCX.out _ (b0.trans (by repeat (first | exact Below.refl _ _ | refine Below.drew ?_)))).mono ?_; rintro e w1 ⟨rfl, hb1⟩; have HB1 : Hid (Below W.heap.size W w1) := ((Below.refl W.heap.size W).drew).trans hb1; have k0 := (HB1.out.cell (p := ⟨w.heap.size, 0, none⟩) z0).trans x0; have k1 := (HB1.out.cell (p := ⟨w.heap.size, 1, none⟩) z0).trans x1; have k2 := (HB1.out.cell (p := ⟨b, 3, none⟩) (by show b < _; omega)).trans x2; clear hb1) | (go_at_call 140; refine (HBH.out _ (b0.trans (HB1.out.mono b0.size))).mono ?_; rintro e w2 ⟨rfl, D2, O2⟩; have HD2 : Hid (DB b w0 u1 u2 u3 P.1 (t ++ P.2) w2) := D2; have HX2 : Hid (Blk w.heap.size #[.int .i64 (c : Int), v] w2) := DO.blk O2 (Blk.below HB.out HB1.out) (by omega) hw2 hw3; have l0 : w2.cell? ⟨w.heap.size, 0, none⟩ = some (.int .i64 (c : Int)) := HX2.out.cell 0; have l1 : w2.cell? ⟨w.heap.size, 1, none⟩ = some v := HX2.out.cell 1; have l2 : w2.cell? ⟨b, 3, none⟩ = some (.string s.fr) := (HD2.out.blk.cell 3).trans (by rw [← hF]; rfl); have HO2 : Hid (DO b u2 u3 w w2) := (DO.of_below (b0.trans (HB1.out.mono b0.size))).trans O2; clear D2 O2))
  all_goals
    go_wp2
    refine bodyPost_ret (v := .tuple #[]) (by simp [results, Tryz.results115, go_sem]) rfl ?_
    exact ⟨rfl, HD2.out, HO2.out⟩

set_option maxHeartbeats 4000000 in
set_option maxRecDepth 100000 in
theorem implData (b : Nat) (w0 : World) (u1 u2 u3 : Value) (s : Sn) (t : ByteArray) (c : Nat) (v : Value) (L : List ByteArray) (lo : Nat) (P : Sn × ByteArray) (w : World) (hl : LenIn w0) (hk : s.Ok) (hz : t.size ≤ 700000000) (hS : Strs w lo v L) (h1 : 1 ≤ L.length) (h : DB b w0 u1 u2 u3 s t w)
    (hP : ((c : Int) = 354 ∧ P = (s.to 7, stuffB s.bo)) ∨ ((c : Int) ≠ 354 ∧ P = s.quit (refV c (L.getD 0 ⟨#[]⟩)))) :
    Calls Tryz.prog 118 #[.pointer (some ⟨b, 0, none⟩), .agg #[.int .i64 (c : Int), v]] w fun e w' => DP b w0 u1 u2 u3 P.1 (t ++ P.2) w e w' := by
  have H : Hid (DB b w0 u1 u2 u3 s t w) := h
  have bl : b < w.heap.size := h.blk.lt
  have hX : (stuffB s.bo).size ≤ 20000 := by
    have := hk.he
    have := hk.fr
    have := hk.bo
    have h1 := stuff_size s.bo
    omega
  have HCX : Hid (∀ wx, Below w.heap.size w wx → Calls Tryz.prog 13 #[.string s.bo] wx fun e w' => e = .returned (.string (stuffB s.bo)) ∧ Below wx.heap.size wx w') := fun wx hb => implStuff s.bo wx (len_below hl (h.bel.trans (hb.mono h.bel.size))) (by have := hk.bo; omega)
  have HBH : Hid (∀ wx, Below w.heap.size w wx → Calls Tryz.prog 140 #[.pointer (some ⟨b, 0, none⟩), .int .i64 354, .agg #[.int .i64 (c : Int), v], .string (stuffB s.bo), .int .i64 7] wx fun e w' => DP b w0 u1 u2 u3 P.1 (t ++ P.2) wx e w') := fun wx hb => implBehind b w0 u1 u2 u3 s t 354 c v L lo (stuffB s.bo) 7 P wx hl hk (by omega) (strs_below hS hb (Nat.le_refl _)) h1 (h.below hb) hP
  have hF : P.1.bo = s.bo := by rcases hP with ⟨_, rfl⟩ | ⟨_, rfl⟩ <;> rfl
  have hw2 : u2.ownBlock ≠ some w.heap.size := fun e => by have := (h.sv.own.2.1 _ e).2; omega
  have hw3 : u3.ownBlock ≠ some w.heap.size := fun e => by have := (h.sv.own.2.2 _ e).2; omega
  clear h hk hS hP h1 hX
  generalize stuffB s.bo = X at *
  go_enter Tryz.func118, Tryz.ntmps118
  go_upto_region 1 with fail
  generalize hW : World.alloc _ _ = W
  have b0 : Below w.heap.size w W := by rw [← hW]; exact below1 _ _
  have HB : Hid (Blk w.heap.size #[.int .i64 (c : Int), v] W) := by show Blk _ _ _; rw [← hW]; exact Blk.new _ _ _
  have z0 : w.heap.size < W.heap.size := HB.out.lt
  have x0 : W.cell? ⟨w.heap.size, 0, none⟩ = some (.int .i64 (c : Int)) := HB.out.cell 0
  have x1 : W.cell? ⟨w.heap.size, 1, none⟩ = some v := HB.out.cell 1
  have x2 : W.cell? ⟨b, 4, none⟩ = some (.string s.bo) := (H.out.below b0).blk.cell 4
  clear hW
  go_region_held3 (fun w' => w'.cell? ⟨w.heap.size, 0, none⟩ = some (.int .i64 (c : Int)) ∧ w'.cell? ⟨w.heap.size, 1, none⟩ = some v ∧ w'.cell? ⟨b, 4, none⟩ = some (.string s.bo)) (first | assumption | (exact ⟨k0, k1, k2⟩) | (exact ⟨l0, l1, l2⟩) | go_keep) (first | (go_at_call 13; refine (HCX.out _ (b0.trans (by repeat (first | exact Below.refl _ _ | refine Below.drew ?_)))).mono ?_; rintro e w1 ⟨rfl, hb1⟩; have HB1 : Hid (Below W.heap.size W w1) := ((Below.refl W.heap.size W).drew).trans hb1; have k0 := (HB1.out.cell (p := ⟨w.heap.size, 0, none⟩) z0).trans x0; have k1 := (HB1.out.cell (p := ⟨w.heap.size, 1, none⟩) z0).trans x1; have k2 := (HB1.out.cell (p := ⟨b, 4, none⟩) (by show b < _; omega)).trans x2; clear hb1) | (go_at_call 140; refine (HBH.out _ (b0.trans (HB1.out.mono b0.size))).mono ?_; rintro e w2 ⟨rfl, D2, O2⟩; have HD2 : Hid (DB b w0 u1 u2 u3 P.1 (t ++ P.2) w2) := D2; have HX2 : Hid (Blk w.heap.size #[.int .i64 (c : Int), v] w2) := DO.blk O2 (Blk.below HB.out HB1.out) (by omega) hw2 hw3; have l0 : w2.cell? ⟨w.heap.size, 0, none⟩ = some (.int .i64 (c : Int)) := HX2.out.cell 0; have l1 : w2.cell? ⟨w.heap.size, 1, none⟩ = some v := HX2.out.cell 1; have l2 : w2.cell? ⟨b, 4, none⟩ = some (.string s.bo) := (HD2.out.blk.cell 4).trans (by rw [← hF]; rfl); have HO2 : Hid (DO b u2 u3 w w2) := (DO.of_below (b0.trans (HB1.out.mono b0.size))).trans O2; clear D2 O2))
  all_goals
    go_wp2
    refine bodyPost_ret (v := .tuple #[]) (by simp [results, Tryz.results118, go_sem]) rfl ?_
    exact ⟨rfl, HD2.out, HO2.out⟩
end Go.Proofs.YtngcjlghjidnjaaGreatDoor
namespace Go.Proofs.YtngcjlghjidnjaaGreatDoor
open Pcs

/-- a byte with a small letter made great -/
def upU (b : UInt8) : UInt8 := UInt8.ofNat (upI (b.toNat : Int)).toNat
theorem ofInts_list (ns : List Int) : (ofInts ns).data.toList = ns.map fun n => UInt8.ofNat n.toNat := by
  unfold ofInts
  suffices h : ∀ (ns : List Int) (s : ByteArray), (ns.foldl (fun r n => r.push (UInt8.ofNat n.toNat)) s).data.toList = s.data.toList ++ ns.map fun n => UInt8.ofNat n.toNat by
    have := h ns ByteArray.empty
    simpa using this
  intro ns
  induction ns with
  | nil => intro s; simp
  | cons n ns ih => intro s; rw [List.foldl_cons, ih]; simp [ByteArray.push]
theorem upB_list (s : ByteArray) : (upB s).data.toList = s.data.toList.map upU := by
  unfold upB bytesI
  rw [ofInts_list, List.map_map, List.map_map]
  rfl
theorem upU_cases (b : UInt8) : (97 ≤ b.toNat ∧ b.toNat ≤ 122 ∧ (upU b).toNat = b.toNat - 32) ∨ upU b = b := by
  unfold upU upI
  by_cases h : (97 : Int) ≤ b.toNat ∧ (b.toNat : Int) ≤ 122
  · left
    refine ⟨by omega, by omega, ?_⟩
    rw [if_pos h, show ((b.toNat : Int) - 32).toNat = b.toNat - 32 by omega, UInt8.toNat_ofNat']
    have := UInt8.toNat_lt b
    omega
  · right
    rw [if_neg h, Int.toNat_natCast]
    exact UInt8.ofNat_toNat
theorem upU_blank {b : UInt8} : upU b = 32 ↔ b = 32 := by
  rcases upU_cases b with ⟨h1, h2, h3⟩ | h
  · constructor
    · intro e; rw [e] at h3; have : (32 : UInt8).toNat = 32 := rfl; omega
    · intro e; rw [e] at h1; have : (32 : UInt8).toNat = 32 := rfl; omega
  · rw [h]
theorem upU_ne {b x : UInt8} (h : upU b = x) (hx : x ≠ 32) : b ≠ 32 := fun e => hx (by rw [← h]; exact upU_blank.2 e)

/-- four bytes that are SIZE in whatever letters -/
def foldN (s : ByteArray) : Bool := s.data.toList.map upU == [83, 73, 90, 69]
theorem szHead_list (X : ByteArray) : szHead X = ((X.data.toList.take 5).map upU == [83, 73, 90, 69, 32]) := by
  unfold szHead
  rw [ByteArray.toList_eq, ByteArray.toList_eq, upB_list, Lib.extract_data]
  by_cases h : 5 ≤ X.size
  · rw [decide_eq_true h]; rfl
  · rw [decide_eq_false h]
    symm
    rw [Bool.false_and, beq_eq_false_iff_ne]
    intro e
    have := congrArg List.length e
    rw [List.length_map, List.length_take, ← Lib.size_eq] at this
    simp only [List.length_cons, List.length_nil] at this
    omega

/-- where the first blank stands behind four bytes -/
theorem index_blank {l : List UInt8} {i : Nat} (h : Lib.index l [32] = i) : l[i]? = some 32 ∧ ∀ j, j < i → l[j]? ≠ some 32 := by
  rcases Lib.index_spec l [32] with ⟨e, _⟩ | ⟨k, e, hk, hocc, hno⟩
  · omega
  · have hki : k = i := by omega
    subst hki
    have occ : ∀ j, Lib.occAt l [32] j = true ↔ l[j]? = some 32 := by
      intro j
      unfold Lib.occAt
      rw [List.isPrefixOf_iff_prefix]
      constructor
      · rintro ⟨t, ht⟩
        have : (l.drop j)[0]? = some 32 := by rw [← ht]; rfl
        simpa using this
      · intro hj
        obtain ⟨hl, he⟩ := List.getElem?_eq_some_iff.1 hj
        rw [List.drop_eq_getElem_cons hl, he]
        exact ⟨_, rfl⟩
    exact ⟨(occ k).1 hocc, fun j hj e => by have := hno j hj; rw [(occ j).2 e] at this; cases this⟩
theorem index_of_blank {l : List UInt8} {i : Nat} (h1 : l[i]? = some 32) (h2 : ∀ j, j < i → l[j]? ≠ some 32) : Lib.index l [32] = i := by
  have occ : ∀ j, Lib.occAt l [32] j = true ↔ l[j]? = some 32 := by
    intro j
    unfold Lib.occAt
    rw [List.isPrefixOf_iff_prefix]
    constructor
    · rintro ⟨t, ht⟩
      have : (l.drop j)[0]? = some 32 := by rw [← ht]; rfl
      simpa using this
    · intro hj
      obtain ⟨hl, he⟩ := List.getElem?_eq_some_iff.1 hj
      rw [List.drop_eq_getElem_cons hl, he]
      exact ⟨_, rfl⟩
  refine Lib.index_first ?_ ((occ i).2 h1) fun j hj => ?_
  · have := (List.getElem?_eq_some_iff.1 h1).1; omega
  · cases e : Lib.occAt l [32] j
    · rfl
    · exact absurd ((occ j).1 e) (h2 j hj)

/-- the line's head by its first blank -/
theorem head_cut {X a b : ByteArray} {f : Bool} (h : CutIs X ⟨#[32]⟩ a b f) : szHead X = (f && (decide (a.size = 4) && foldN a)) ∧ (szHead X = true → b = X.extract 5 X.size) := by
  have hcc := cut_cases h
  obtain ⟨h1, h2, h3⟩ := h
  have hd : (⟨#[32]⟩ : ByteArray).data.toList = [32] := rfl
  rw [hd] at h1 h2 h3 hcc
  have key : szHead X = true → Lib.index X.data.toList [32] = (4 : Nat) := by
    intro e
    rw [szHead_list, beq_iff_eq] at e
    generalize X.data.toList = l at *
    match l, e with
    | [], e => simp at e
    | [_], e => simp at e
    | [_, _], e => simp at e
    | [_, _, _], e => simp at e
    | [_, _, _, _], e => simp at e
    | b0 :: b1 :: b2 :: b3 :: b4 :: r, e =>
      simp only [List.take_succ_cons, List.take_zero, List.map_cons, List.map_nil, List.cons.injEq, and_true] at e
      obtain ⟨e0, e1, e2, e3, e4⟩ := e
      refine index_of_blank (by simp [upU_blank.1 e4]) ?_
      intro j hj
      match j, hj with
      | 0, _ => simpa using upU_ne e0 (by decide)
      | 1, _ => simpa using upU_ne e1 (by decide)
      | 2, _ => simpa using upU_ne e2 (by decide)
      | 3, _ => simpa using upU_ne e3 (by decide)
  constructor
  · rcases hcc with ⟨hf, hi⟩ | ⟨hf, i, hi, ha⟩
    · rw [hf, Bool.false_and, Bool.eq_false_iff]
      intro e
      have := key e
      omega
    · rw [hf, Bool.true_and]
      by_cases h4 : i = 4
      · subst h4
        have hb := index_blank hi
        have hl5 : 5 ≤ X.data.toList.length := (List.getElem?_eq_some_iff.1 hb.1).1
        have hsz : a.size = 4 := by rw [← ha, mk_size, List.length_take]; omega
        rw [decide_eq_true hsz, Bool.true_and, szHead_list]
        unfold foldN
        rw [← ha, show (mk (X.data.toList.take 4)).data.toList = X.data.toList.take 4 from rfl]
        have ht : X.data.toList.take 5 = X.data.toList.take 4 ++ [32] := by
          rw [List.take_add_one, hb.1]; rfl
        rw [ht, List.map_append, Bool.eq_iff_iff, beq_iff_eq, beq_iff_eq]
        have hu : ([32] : List UInt8).map upU = [32] := by simp [upU_blank.2 rfl]
        rw [hu]
        constructor
        · intro e
          exact List.append_cancel_right (bs := [32]) (by simpa using e)
        · intro e; rw [e]; rfl
      · have hno : szHead X = false := by
          rw [Bool.eq_false_iff]; intro e; have := key e; omega
        rw [hno]
        have hil : i ≤ X.data.toList.length := by have := (List.getElem?_eq_some_iff.1 (index_blank hi).1).1; omega
        rw [decide_eq_false (show ¬ a.size = 4 by rw [← ha, mk_size, List.length_take]; omega)]; rfl
  · intro e
    have hi := key e
    unfold Lib.cut at h2
    rw [hi] at h2
    simp at h2
    rw [← h2]
    apply ByteArray.ext
    rw [← Array.toList_inj, Lib.extract_data]
    rw [List.take_of_length_le (by rw [List.length_drop, ← Lib.size_eq]; omega)]
    rfl
end Go.Proofs.YtngcjlghjidnjaaGreatDoor
