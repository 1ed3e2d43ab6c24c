import Derived.Test.YtngcjlghjidnjaaGreatDoorMg26
import Derived.Deep.RegionWith
import Derived.Deep.RegionHeld3
import Derived.Test.YtngcjlghjidnjaaGreatDoorMg7
import Derived.Deep.DrawnRows
namespace Go.Proofs.YtngcjlghjidnjaaGreatDoor
open Go.ChangeShapes Go.WideShapes Go.ChangeAt Go.RowKit
attribute [local go_sem ↓] Go.wp_at_zero Go.wp_at_succ

set_option maxHeartbeats 4000000 in
set_option maxRecDepth 100000 in
theorem specNoK (K : Int) (c : Nat) (t : ByteArray) (g n k : Nat) (w : World) (h0 : w.cell? ⟨g, 0, none⟩ = some (.string t)) (hg : g < w.heap.size) (hn : 0 < n) (hK : (500 ≤ c ∧ K = 3) ∨ (c < 500 ∧ K = 2)) :
    Calls Tryz.prog 123 #[.agg #[.int .i64 (c : Int), .slice (some ⟨g, 0, none⟩) n k]] w fun e w' => e = .returned (.agg #[.int .i64 K, .int .i64 (c : Int), .string t]) ∧ Below w.heap.size w w' := by
  rcases hK with ⟨hc, rfl⟩ | ⟨hc, rfl⟩
  · go_enter Tryz.func123, Tryz.ntmps123
    go_wp2_with fail
    generalize hW : World.alloc _ _ = W
    have b0 : Below w.heap.size w W := by rw [← hW]; exact below2 _ _ _
    have HZ : Hid (Blk (w.heap.size + 1) #[.int .i64 0, .int .i64 0, .string ⟨#[]⟩] W) := by show Blk _ _ _; rw [← hW]; exact (blk2 w _ _ _ _).2
    have HR : Hid (Blk w.heap.size #[.int .i64 (c : Int), .slice (some ⟨g, 0, none⟩) n k] W) := by show Blk _ _ _; rw [← hW]; exact (blk2 w _ _ _ _).1
    have z0 : w.heap.size + 1 < W.heap.size := HZ.out.lt
    have zr : w.heap.size < W.heap.size := by omega
    have gl : g < W.heap.size := by omega
    have x0 : W.cell? ⟨w.heap.size, 0, none⟩ = some (.int .i64 (c : Int)) := HR.out.cell 0
    have x1 : W.cell? ⟨w.heap.size, 1, none⟩ = some (.slice (some ⟨g, 0, none⟩) n k) := HR.out.cell 1
    have y0 : W.cell? ⟨g, 0, none⟩ = some (.string t) := (b0.cell (p := ⟨g, 0, none⟩) hg).trans h0
    have r0 : W.cell? ⟨w.heap.size + 1, 0, none⟩ = some (.int .i64 0) := HZ.out.cell 0
    have r1 : W.cell? ⟨w.heap.size + 1, 1, none⟩ = some (.int .i64 0) := HZ.out.cell 1
    have r2 : W.cell? ⟨w.heap.size + 1, 2, none⟩ = some (.string ⟨#[]⟩) := HZ.out.cell 2
    have f0 : W.frozen? ⟨w.heap.size + 1, 0, none⟩ = false := HZ.out.free 0
    have f1 : W.frozen? ⟨w.heap.size + 1, 1, none⟩ = false := HZ.out.free 1
    have f2 : W.frozen? ⟨w.heap.size + 1, 2, none⟩ = false := HZ.out.free 2
    clear hW h0 hg HR
    go_region
    go_wp2
    refine bodyPost_ret (v := .agg #[.int .i64 3, .int .i64 (c : Int), .string t]) (by simp [results, Tryz.results123, go_sem, r0, r1, r2, z0]) rfl ?_
    refine ⟨rfl, ?_⟩
    exact ((((b0.setCell (p := ⟨w.heap.size + 1, 0, none⟩) (by dsimp only; omega) _).setCell (p := ⟨w.heap.size + 1, 1, none⟩) (by dsimp only; omega) _).setCell (p := ⟨w.heap.size + 1, 2, none⟩) (by dsimp only; omega) _).alloc (by simp; omega) _).drew
  · go_enter Tryz.func123, Tryz.ntmps123
    go_wp2_with fail
    generalize hW : World.alloc _ _ = W
    have b0 : Below w.heap.size w W := by rw [← hW]; exact below2 _ _ _
    have HZ : Hid (Blk (w.heap.size + 1) #[.int .i64 0, .int .i64 0, .string ⟨#[]⟩] W) := by show Blk _ _ _; rw [← hW]; exact (blk2 w _ _ _ _).2
    have HR : Hid (Blk w.heap.size #[.int .i64 (c : Int), .slice (some ⟨g, 0, none⟩) n k] W) := by show Blk _ _ _; rw [← hW]; exact (blk2 w _ _ _ _).1
    have z0 : w.heap.size + 1 < W.heap.size := HZ.out.lt
    have zr : w.heap.size < W.heap.size := by omega
    have gl : g < W.heap.size := by omega
    have x0 : W.cell? ⟨w.heap.size, 0, none⟩ = some (.int .i64 (c : Int)) := HR.out.cell 0
    have x1 : W.cell? ⟨w.heap.size, 1, none⟩ = some (.slice (some ⟨g, 0, none⟩) n k) := HR.out.cell 1
    have y0 : W.cell? ⟨g, 0, none⟩ = some (.string t) := (b0.cell (p := ⟨g, 0, none⟩) hg).trans h0
    have r0 : W.cell? ⟨w.heap.size + 1, 0, none⟩ = some (.int .i64 0) := HZ.out.cell 0
    have r1 : W.cell? ⟨w.heap.size + 1, 1, none⟩ = some (.int .i64 0) := HZ.out.cell 1
    have r2 : W.cell? ⟨w.heap.size + 1, 2, none⟩ = some (.string ⟨#[]⟩) := HZ.out.cell 2
    have f0 : W.frozen? ⟨w.heap.size + 1, 0, none⟩ = false := HZ.out.free 0
    have f1 : W.frozen? ⟨w.heap.size + 1, 1, none⟩ = false := HZ.out.free 1
    have f2 : W.frozen? ⟨w.heap.size + 1, 2, none⟩ = false := HZ.out.free 2
    clear hW h0 hg HR
    go_region
    go_wp2
    refine bodyPost_ret (v := .agg #[.int .i64 2, .int .i64 (c : Int), .string t]) (by simp [results, Tryz.results123, go_sem, r0, r1, r2, z0]) rfl ?_
    refine ⟨rfl, ?_⟩
    exact ((((b0.setCell (p := ⟨w.heap.size + 1, 0, none⟩) (by dsimp only; omega) _).setCell (p := ⟨w.heap.size + 1, 1, none⟩) (by dsimp only; omega) _).setCell (p := ⟨w.heap.size + 1, 2, none⟩) (by dsimp only; omega) _).alloc (by simp; omega) _).drew
end Go.Proofs.YtngcjlghjidnjaaGreatDoor
namespace Go.Proofs.YtngcjlghjidnjaaGreatDoor
open Go.ChangeShapes Go.WideShapes Go.ChangeAt Go.RowKit
attribute [local go_sem ↓] Go.wp_at_zero Go.wp_at_succ

set_option maxHeartbeats 4000000 in
set_option maxRecDepth 100000 in
theorem specQuit (s : Sn) (v : Vd) (u1 u2 u3 : Value) (lo : Nat) (w : World) (hk : s.Ok) (h : SV w lo u1 u2 u3 s) :
    Calls Tryz.prog 126 #[.agg #[.int .i64 s.ph, .string s.buf, .string s.he, .string s.fr, .string s.bo, u1, .int .i64 (s.nx : Int), u2, u3], .agg #[.int .i64 v.1, .int .i64 v.2.1, .string v.2.2]] w fun e w' => SQ (s.quit v) w e w' := by
  have H : Hid (SV w lo u1 u2 u3 s) := h
  have HK : Hid s.Ok := hk
  obtain ⟨g1, g2, g3, k1, k2, k3, rfl, rfl, rfl⟩ := h.some hk
  clear h hk
  go_enter Tryz.func126, Tryz.ntmps126
  go_wp2_with fail
  generalize hW : World.alloc _ _ = W
  have HZ : Hid (SB (w.heap.size + 1 + 1) sn0 (.slice none 0 0) (.slice none 0 0) (.slice none 0 0) W) := by show SB _ _ _ _ _ _; rw [← hW]; exact (blk3 w _ _ _ _ _ _).2.2
  have b0 : Below w.heap.size w W := by rw [← hW]; exact below3 _ _ _ _
  have z0 : w.heap.size + 3 ≤ W.heap.size := by rw [← hW]; simp
  clear hW
  refine (specDecide s v _ _ _ lo W HK.out (H.out.below b0 (Nat.le_refl _))).mono ?_
  rintro e w1 ⟨⟨v1, v2, v3, rfl, S1⟩, hb1⟩
  obtain ⟨p1, p2, p3, q1, q2, q3, rfl, rfl, rfl⟩ := S1.some (HK.out.dec _)
  have b1 : Below w.heap.size w w1 := b0.trans (hb1.mono b0.size)
  have HZ1 : Hid (SB (w.heap.size + 1 + 1) sn0 (.slice none 0 0) (.slice none 0 0) (.slice none 0 0) w1) := SB.below HZ.out hb1
  have HS1 : Hid (SV w1 W.heap.size (.slice (some ⟨p1, 0, none⟩) s.R.length q1) (.slice (some ⟨p2, 0, none⟩) s.R.length q2) (.slice (some ⟨p3, 0, none⟩) s.R.length q3) (s.dec v)) := S1
  have z1 := hb1.size
  clear S1 hb1 HZ b0
  dsimp only [Sn.dec]
  go_wp2_with fail
  generalize hW2 : World.alloc _ _ = W2
  have hbb : Below w1.heap.size w1 W2 := by rw [← hW2]; exact below1 _ _
  have HT2 : Hid (SB w1.heap.size (s.to 8) (.slice (some ⟨p1, 0, none⟩) s.R.length q1) (.slice (some ⟨p2, 0, none⟩) s.R.length q2) (.slice (some ⟨p3, 0, none⟩) s.R.length q3) W2) := by show SB _ _ _ _ _ _; rw [← hW2]; exact Blk.new w1 _ _
  have HZ2 : Hid (SB (w.heap.size + 1 + 1) sn0 (.slice none 0 0) (.slice none 0 0) (.slice none 0 0) W2) := SB.below HZ1.out hbb
  have HS2 : Hid (SV W2 W.heap.size (.slice (some ⟨p1, 0, none⟩) s.R.length q1) (.slice (some ⟨p2, 0, none⟩) s.R.length q2) (.slice (some ⟨p3, 0, none⟩) s.R.length q3) (s.dec v)) := HS1.out.below hbb (Nat.le_refl _)
  have b2 : Below w.heap.size w W2 := b1.trans (hbb.mono b1.size)
  have z2 : w1.heap.size + 1 ≤ W2.heap.size := by rw [← hW2]; simp
  clear hW2 hbb HZ1 HS1 b1
  obtain ⟨t0, t1, t2, t3, t4, t5, t6, t7, t8⟩ : W2.cell? ⟨w1.heap.size, 0, none⟩ = some (.int .i64 8) ∧ W2.cell? ⟨w1.heap.size, 1, none⟩ = some (.string s.buf) ∧ W2.cell? ⟨w1.heap.size, 2, none⟩ = some (.string s.he) ∧ W2.cell? ⟨w1.heap.size, 3, none⟩ = some (.string s.fr) ∧ W2.cell? ⟨w1.heap.size, 4, none⟩ = some (.string s.bo) ∧ W2.cell? ⟨w1.heap.size, 5, none⟩ = some ((.slice (some ⟨p1, 0, none⟩) s.R.length q1)) ∧ W2.cell? ⟨w1.heap.size, 6, none⟩ = some (.int .i64 (s.nx : Int)) ∧ W2.cell? ⟨w1.heap.size, 7, none⟩ = some ((.slice (some ⟨p2, 0, none⟩) s.R.length q2)) ∧ W2.cell? ⟨w1.heap.size, 8, none⟩ = some ((.slice (some ⟨p3, 0, none⟩) s.R.length q3)) := HT2.out.cells
  go_region_with (first | (go_at_call 125; refine (specCommand 6 ⟨#[]⟩ _ (by decide)).mono ?_; rintro e w4 ⟨rfl, hb4⟩; have HB4 : Hid (Below W2.heap.size W2 w4) := ((Below.refl W2.heap.size W2).drew).trans hb4; have HT4 : Hid (SB w1.heap.size (s.to 8) (.slice (some ⟨p1, 0, none⟩) s.R.length q1) (.slice (some ⟨p2, 0, none⟩) s.R.length q2) (.slice (some ⟨p3, 0, none⟩) s.R.length q3) w4) := SB.below HT2.out HB4.out; obtain ⟨k0, k1, k2, k3, k4, k5, k6, k7, k8⟩ : w4.cell? ⟨w1.heap.size, 0, none⟩ = some (.int .i64 8) ∧ w4.cell? ⟨w1.heap.size, 1, none⟩ = some (.string s.buf) ∧ w4.cell? ⟨w1.heap.size, 2, none⟩ = some (.string s.he) ∧ w4.cell? ⟨w1.heap.size, 3, none⟩ = some (.string s.fr) ∧ w4.cell? ⟨w1.heap.size, 4, none⟩ = some (.string s.bo) ∧ w4.cell? ⟨w1.heap.size, 5, none⟩ = some ((.slice (some ⟨p1, 0, none⟩) s.R.length q1)) ∧ w4.cell? ⟨w1.heap.size, 6, none⟩ = some (.int .i64 (s.nx : Int)) ∧ w4.cell? ⟨w1.heap.size, 7, none⟩ = some ((.slice (some ⟨p2, 0, none⟩) s.R.length q2)) ∧ w4.cell? ⟨w1.heap.size, 8, none⟩ = some ((.slice (some ⟨p3, 0, none⟩) s.R.length q3)) := HT4.out.cells; have HZ4 : Hid (SB (w.heap.size + 1 + 1) sn0 (.slice none 0 0) (.slice none 0 0) (.slice none 0 0) w4) := SB.below HZ2.out HB4.out; obtain ⟨r0, r1, r2, r3, r4, r5, r6, r7, r8⟩ := HZ4.out.zero; obtain ⟨rf0, rf1, rf2, rf3, rf4, rf5, rf6, rf7, rf8⟩ := HZ4.out.frees; have zl : w.heap.size + 1 + 1 < w4.heap.size := HZ4.out.lt; clear hb4))
  all_goals
    have HS4 : Hid (SV w4 W.heap.size (.slice (some ⟨p1, 0, none⟩) s.R.length q1) (.slice (some ⟨p2, 0, none⟩) s.R.length q2) (.slice (some ⟨p3, 0, none⟩) s.R.length q3) (s.dec v)) := HS2.out.below HB4.out (Nat.le_refl _)
    have b4 : Below w.heap.size w w4 := b2.trans (HB4.out.mono b2.size)
    go_wp2
    refine bodyPost_ret (v := .tuple #[.agg #[.int .i64 8, .string s.buf, .string s.he, .string s.fr, .string s.bo, (.slice (some ⟨p1, 0, none⟩) s.R.length q1), .int .i64 (s.nx : Int), (.slice (some ⟨p2, 0, none⟩) s.R.length q2), (.slice (some ⟨p3, 0, none⟩) s.R.length q3)], .string (cmdB 6 ⟨#[]⟩)]) (by simp [results, Tryz.results126, go_sem, r0, r1, r2, r3, r4, r5, r6, r7, r8]) rfl ?_
    exact ⟨⟨_, _, _, rfl, (HS4.out.nine (b := w.heap.size + 1 + 1) (by omega) _ _ _ _ _ _ _ _ _).le (by omega)⟩, below_nine b4 (by omega) _ _ _ _ _ _ _ _ _⟩
end Go.Proofs.YtngcjlghjidnjaaGreatDoor
namespace Go.Proofs.YtngcjlghjidnjaaGreatDoor
open Go.ChangeShapes Go.WideShapes Go.ChangeAt Go.RowKit
open Pcs

theorem specHasJ (s : ByteArray) (c : Int) (w : World) (hc : 0 ≤ c) (hs : s.size ≤ 1048576) :
    Calls Tryz.prog 106 #[.string s, .int .u8 c] w fun e w' => e = .returned (.bool (hasN s c.toNat)) ∧ w' = w := by
  have h := specHas s c.toNat w hs
  rw [Int.toNat_of_nonneg hc] at h; exact h

/-- what l2line answers -/
def LinOut (s : ByteArray) (code : Int) (last : Bool) (text : ByteArray) (ok : Bool) : Prop := ok = lineR s ∧ (lineR s = true → code = codeN s ∧ last = lastN s ∧ text = textB s)
def LinRes (s : ByteArray) (e : Ending) : Prop := ∃ (code : Int) (last : Bool) (text : ByteArray) (ok : Bool), e = .returned (.tuple #[.int .i64 code, .bool last, .string text, .bool ok]) ∧ LinOut s code last text ok
theorem lin_no {s : ByteArray} (h : lineR s = false) (c : Int) (l : Bool) (t : ByteArray) : LinOut s c l t false := ⟨h.symm, fun e => by rw [h] at e; cases e⟩
theorem numN_three (s : ByteArray) : numN s 3 = codeN s := by simp [numN, codeN]
theorem lineR_nodig {s : ByteArray} {k : Nat} (hk : k < 3) (h : digN (byteOf s k) = false) : lineR s = false := by
  unfold lineR
  match k, hk with
  | 0, _ => rw [h]; simp
  | 1, _ => rw [h]; simp
  | 2, _ => rw [h]; simp
theorem lineR_rest2 {c : ByteArray} (h1 : c.size ≤ 510) (h2 : brkN c = false) (h3 : 3 ≤ c.size) (hd : ∀ j, j < 3 → digN (byteOf c j) = true) :
    lineR c = (decide (50 ≤ byteOf c 0) && (decide (byteOf c 0 ≤ 53) && (decide (c.size = 3) || (byteOf c 3 == 32 || byteOf c 3 == 45)))) := by
  rw [lineR_rest h1 h2 h3, dig3 h3, hd 0 (by decide), hd 1 (by decide), hd 2 (by decide)]; simp

set_option maxHeartbeats 4000000 in
set_option maxRecDepth 100000 in
theorem specLine (s : ByteArray) (w : World) (hs : s.size ≤ 1048576) :
    Calls Tryz.prog 121 #[.string s] w fun e w' => LinRes s e ∧ Below w.heap.size w w' := by
  have k13 : hasN s (13 : Int).toNat = hasN s 13 := rfl
  have k10 : hasN s (10 : Int).toNat = hasN s 10 := rfl
  by_cases hno : brkN s = true ∨ 510 < s.size ∨ s.size < 3
  · have G : Hid (∀ c l t, LinOut s c l t false) := fun c l t => lin_no (by
      rcases hno with h | h | h
      · exact lineR_brk h
      · exact lineR_long h
      · exact lineR_short h) c l t
    have HB : Hid (brkN s = (hasN s 13 || hasN s 10)) := rfl
    go_enter Tryz.func121, Tryz.ntmps121
    go_wp2_with fail
    refine (specHasJ s _ _ (by decide) hs).mono ?_
    rintro e w' ⟨rfl, hw⟩
    rw [hw, k13]
    clear hw
    cases h13 : hasN s 13 with
    | true =>
      clear hno
      go_wp2
      exact bodyPost_ret (v := .tuple #[.int .i64 0, .bool false, .string ⟨#[]⟩, .bool false]) (by simp [results, Tryz.results121, go_sem]) rfl ⟨⟨_, _, _, _, rfl, G.out _ _ _⟩, Below.refl _ _⟩
    | false =>
      go_wp2_with fail
      refine (specHasJ s _ _ (by decide) hs).mono ?_
      rintro e w' ⟨rfl, hw⟩
      rw [hw, k10]
      clear hw
      cases h10 : hasN s 10 with
      | true =>
        clear hno
        go_wp2
        exact bodyPost_ret (v := .tuple #[.int .i64 0, .bool false, .string ⟨#[]⟩, .bool false]) (by simp [results, Tryz.results121, go_sem]) rfl ⟨⟨_, _, _, _, rfl, G.out _ _ _⟩, Below.refl _ _⟩
      | false =>
        have hno2 : 510 < s.size ∨ s.size < 3 := by
          rcases hno with h | h
          · rw [HB.out, h13, h10] at h; cases h
          · exact h
        clear hno
        by_cases hbig : 510 < s.size
        · go_wp2
          exact bodyPost_ret (v := .tuple #[.int .i64 0, .bool false, .string ⟨#[]⟩, .bool false]) (by simp [results, Tryz.results121, go_sem]) rfl ⟨⟨_, _, _, _, rfl, G.out _ _ _⟩, Below.refl _ _⟩
        · have hsm : s.size < 3 := by omega
          go_wp2
          exact bodyPost_ret (v := .tuple #[.int .i64 0, .bool false, .string ⟨#[]⟩, .bool false]) (by simp [results, Tryz.results121, go_sem]) rfl ⟨⟨_, _, _, _, rfl, G.out _ _ _⟩, Below.refl _ _⟩
  · have hb : brkN s = false := by
      cases h : brkN s with
      | true => exact absurd (.inl h) hno
      | false => rfl
    have h510 : s.size ≤ 510 := by omega
    have h3 : 3 ≤ s.size := by omega
    have h13 : hasN s 13 = false := by
      cases h : hasN s 13 with
      | true => unfold brkN at hb; rw [h] at hb; cases hb
      | false => rfl
    have h10 : hasN s 10 = false := by
      cases h : hasN s 10 with
      | true => unfold brkN at hb; rw [h, Bool.or_true] at hb; cases hb
      | false => rfl
    have HR2 : Hid ((∀ j, j < 3 → digN (byteOf s j) = true) → lineR s = (decide (50 ≤ byteOf s 0) && (decide (byteOf s 0 ≤ 53) && (decide (s.size = 3) || (byteOf s 3 == 32 || byteOf s 3 == 45))))) := fun h => lineR_rest2 h510 hb h3 h
    clear hno hb
    go_enter Tryz.func121, Tryz.ntmps121
    go_wp2_with (go_at_call 106; refine (specHasJ s _ _ (by decide) hs).mono ?_; rintro e w' ⟨rfl, hw⟩; rw [hw]; first | rw [k13, h13] | rw [k10, h10])
    clear k13 k10 h13 h10
    go_loop [6, 7] (fun nv i => ∃ k : Nat, k ≤ 3 ∧ i = .int .i64 k ∧ nv = .int .i64 (numN s k) ∧ Hid (∀ j, j < k → digN (byteOf s j) = true)) (fun _ i => 3 - (intOf i).toNat)
    case atStart => exact ⟨0, Nat.zero_le _, rfl, rfl, fun j h => absurd h (Nat.not_lt_zero _)⟩
    case round =>
      obtain ⟨k, hk, rfl, rfl, HD⟩ := hrel
      have hn : numN s k < 1000 := by
        have b : ∀ j, j < k → byteOf s j - 48 ≤ 9 := fun j hj => by
          have := HD.out j hj
          simp only [digN, Bool.and_eq_true, decide_eq_true_eq] at this; omega
        match k, hk with
        | 0, _ => simp [numN]
        | 1, _ => simp only [numN]; have := b 0 (by decide); omega
        | 2, _ => simp only [numN]; have := b 0 (by decide); have := b 1 (by decide); omega
        | 3, _ => simp only [numN]; have := b 0 (by decide); have := b 1 (by decide); have := b 2 (by decide); omega
      by_cases hlt : k < 3
      · have hks : k < s.size := by omega
        have hksi : (k : Int) < s.size := by omega
        have HB : Hid (byteOf s k = s[k].toNat) := byteOf_eq s k hks
        by_cases hlo : (s[k].toNat : Int) < 48
        · have G : Hid (∀ c l t, LinOut s c l t false) := fun c l t => lin_no (lineR_nodig hlt (by rw [HB.out]; simp [digN]; omega)) c l t
          go_wp2
          exact bodyPost_ret (v := .tuple #[.int .i64 0, .bool false, .string ⟨#[]⟩, .bool false]) (by simp [results, Tryz.results121, go_sem]) rfl ⟨⟨_, _, _, _, rfl, G.out _ _ _⟩, Below.refl _ _⟩
        · by_cases hhi : (57 : Int) < s[k].toNat
          · have G : Hid (∀ c l t, LinOut s c l t false) := fun c l t => lin_no (lineR_nodig hlt (by rw [HB.out]; simp [digN]; omega)) c l t
            have g3 : (48 : Int) ≤ s[k].toNat := by omega
            clear hlo HR2 hn
            go_wp2
            exact bodyPost_ret (v := .tuple #[.int .i64 0, .bool false, .string ⟨#[]⟩, .bool false]) (by simp [results, Tryz.results121, go_sem]) rfl ⟨⟨_, _, _, _, rfl, G.out _ _ _⟩, Below.refl _ _⟩
          · have G : Hid (∀ j, j < k + 1 → digN (byteOf s j) = true) := by
              intro j hj
              rcases Nat.lt_succ_iff_lt_or_eq.1 hj with hj | rfl
              · exact HD.out j hj
              · rw [HB.out]; simp [digN]; omega
            have g3 : (48 : Int) ≤ s[k].toNat := by omega
            have g4 : (s[k].toNat : Int) ≤ 57 := by omega
            clear hlo hhi HR2
            go_wp2
            go_round
            case rel => exact ⟨k + 1, by omega, by go_num, by rw [numN, HB.out]; go_num, G.out⟩
            case measure => simp [intOf]; omega
      · obtain rfl : k = 3 := by omega
        have HR := HR2.out HD.out
        have HCN : Hid (numN s 3 = codeN s) := numN_three s
        have b0 := HD.out 0 (by decide)
        have b1 := HD.out 1 (by decide)
        have b2 := HD.out 2 (by decide)
        simp only [digN, Bool.and_eq_true, decide_eq_true_eq] at b0 b1 b2
        have hnum : numN s 3 = ((byteOf s 0 - 48) * 10 + (byteOf s 1 - 48)) * 10 + (byteOf s 2 - 48) := numN_three s
        have HLO : Hid (numN s 3 < 200 → lineR s = false) := fun h => by rw [HR, decide_eq_false (p := 50 ≤ byteOf s 0) (by omega)]; rfl
        have HHI : Hid (599 < numN s 3 → lineR s = false) := fun h => by rw [HR, decide_eq_false (p := byteOf s 0 ≤ 53) (by omega)]; simp
        have HMID : Hid (200 ≤ numN s 3 → numN s 3 ≤ 599 → lineR s = (decide (s.size = 3) || (byteOf s 3 == 32 || byteOf s 3 == 45))) := fun h1 h2 => by
          rw [HR, decide_eq_true (p := 50 ≤ byteOf s 0) (by omega), decide_eq_true (p := byteOf s 0 ≤ 53) (by omega)]; simp
        clear HR HR2 b0 b1 b2 hnum HD hlt
        generalize numN s 3 = N at *
        by_cases hlo : N < 200
        · have G : Hid (∀ c l t, LinOut s c l t false) := fun c l t => lin_no (HLO.out hlo) c l t
          go_wp2
          exact bodyPost_ret (v := .tuple #[.int .i64 0, .bool false, .string ⟨#[]⟩, .bool false]) (by simp [results, Tryz.results121, go_sem]) rfl ⟨⟨_, _, _, _, rfl, G.out _ _ _⟩, Below.refl _ _⟩
        · by_cases hhi : 599 < N
          · have G : Hid (∀ c l t, LinOut s c l t false) := fun c l t => lin_no (HHI.out hhi) c l t
            go_wp2
            exact bodyPost_ret (v := .tuple #[.int .i64 0, .bool false, .string ⟨#[]⟩, .bool false]) (by simp [results, Tryz.results121, go_sem]) rfl ⟨⟨_, _, _, _, rfl, G.out _ _ _⟩, Below.refl _ _⟩
          · have HM := HMID.out (by omega) (by omega)
            clear HLO HHI HMID
            by_cases he : (s.size : Int) = 3
            · have G : Hid (LinOut s N true ⟨#[]⟩ true) := by
                have e1 : lineR s = true := by rw [HM, decide_eq_true (by omega)]; rfl
                refine ⟨e1.symm, fun _ => ⟨by rw [HCN.out], ?_, ?_⟩⟩
                · unfold lastN; rw [decide_eq_true (by omega)]; rfl
                · unfold textB; rw [Nat.min_eq_right (by omega)]; simp; rfl
              clear HM
              go_wp2
              exact bodyPost_ret (v := .tuple #[.int .i64 (N : Int), .bool true, .string ⟨#[]⟩, .bool true]) (by simp [results, Tryz.results121, go_sem]) rfl ⟨⟨_, _, _, _, rfl, G.out⟩, Below.refl _ _⟩
            · have heb : ((s.size : Int) == 3) = false := beq_eq_false_iff_ne.2 he
              have h4 : 3 < s.size := by omega
              have h4i : (3 : Int) < s.size := by omega
              have h4j : (4 : Int) ≤ s.size := by omega
              have B3 := byteOf_eq s 3 h4
              have G : Hid (LinOut s N (((s[3]'h4).toNat : Int) == 32) (s.extract 4 s.size) ((((s[3]'h4).toNat : Int) == 32) || (((s[3]'h4).toNat : Int) == 45))) := by
                have q32 : (((s[3]'h4).toNat : Int) == 32) = (byteOf s 3 == 32) := by rw [B3, Bool.eq_iff_iff, beq_iff_eq, beq_iff_eq]; omega
                have q45 : (((s[3]'h4).toNat : Int) == 45) = (byteOf s 3 == 45) := by rw [B3, Bool.eq_iff_iff, beq_iff_eq, beq_iff_eq]; omega
                rw [q32, q45]
                refine ⟨?_, fun _ => ⟨by rw [HCN.out], ?_, ?_⟩⟩
                · rw [HM, decide_eq_false (by omega)]; rfl
                · unfold lastN; rw [decide_eq_false (by omega)]; rfl
                · unfold textB; rw [Nat.min_eq_left (by omega)]
              clear HM B3
              have hix : ∀ wx, (Instr.index 9 (.string s) (.int .i64 3)).run Tryz.prog wx = .ok (.int .u8 ((s[3]'h4).toNat : Int)) wx := by
                intro wx
                rw [run_index_string wx 9 _ _ _ Tryz.underlying9, dif_pos ⟨by decide, h4i⟩]
                rfl
              have hsl : ∀ wx, (Instr.slice 9 (.string s) (some (.int .i64 4)) none none).run Tryz.prog wx = .ok (.string (s.extract 4 s.size)) wx := by
                intro wx
                rw [run_slice_string_from_if wx 9 s .i64 4 Tryz.underlying9, if_pos (by omega)]
                rfl
              by_cases h32 : ((s[3]'h4).toNat : Int) = 32
              · have h32b : (((s[3]'h4).toNat : Int) == 32) = true := beq_iff_eq.2 h32
                have G' : Hid (LinOut s N true (s.extract 4 s.size) true) := by
                  have := G.out
                  rw [h32b] at this; exact this
                rw [h32] at hix
                clear G h32 h32b
                go_upto_region 14 with fail
                go_quiet (fail)
                go_wp2
                exact bodyPost_ret (v := .tuple #[.int .i64 (N : Int), .bool true, .string (s.extract 4 s.size), .bool true]) (by simp [results, Tryz.results121, go_sem]) rfl ⟨⟨_, _, _, _, rfl, G'.out⟩, drew_below' (Below.refl _ _) _⟩
              · have h32b : (((s[3]'h4).toNat : Int) == 32) = false := beq_eq_false_iff_ne.2 h32
                have G' : Hid (LinOut s N false (s.extract 4 s.size) (((s[3]'h4).toNat : Int) == 45)) := by
                  have := G.out
                  rw [h32b, Bool.false_or] at this; exact this
                clear G
                go_upto_region 14 with fail
                go_quiet (fail)
                go_wp2
                exact bodyPost_ret (v := .tuple #[.int .i64 (N : Int), .bool false, .string (s.extract 4 s.size), .bool (((s[3]'h4).toNat : Int) == 45)]) (by simp [results, Tryz.results121, go_sem]) rfl ⟨⟨_, _, _, _, rfl, G'.out⟩, drew_below' (Below.refl _ _) _⟩
end Go.Proofs.YtngcjlghjidnjaaGreatDoor
