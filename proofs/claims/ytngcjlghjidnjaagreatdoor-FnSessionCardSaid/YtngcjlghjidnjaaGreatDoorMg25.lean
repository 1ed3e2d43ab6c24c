import Derived.Test.YtngcjlghjidnjaaGreatDoorMg24
import Derived.Deep.RegionHeld3
import Derived.Test.YtngcjlghjidnjaaGreatDoorMg14
import Derived.Deep.DrawnRows
import Derived.Test.YtngcjlghjidnjaaGreatDoorMg15
import Derived.Deep.AppendLies
namespace Go.Proofs.YtngcjlghjidnjaaGreatDoor
open Go.ChangeShapes Go.WideShapes Go.ChangeAt Go.RowKit
attribute [local go_sem ↓] Go.wp_at_zero Go.wp_at_succ

set_option maxHeartbeats 4000000 in
set_option maxRecDepth 100000 in
theorem specQuit (s : Sn) (v : Vd) (u1 u2 u3 : Value) (lo : Nat) (w : World) (hk : s.Ok) (h : SV w lo u1 u2 u3 s) :
    Calls Tryz.prog 126 #[.agg #[.int .i64 s.ph, .string s.buf, .string s.he, .string s.fr, .string s.bo, u1, .int .i64 (s.nx : Int), u2, u3], .agg #[.int .i64 v.1, .int .i64 v.2.1, .string v.2.2]] w fun e w' => SQ (s.quit v) w e w' := by
  have H : Hid (SV w lo u1 u2 u3 s) := h
  have HK : Hid s.Ok := hk
  obtain ⟨g1, g2, g3, k1, k2, k3, rfl, rfl, rfl⟩ := h.some hk
  clear h hk
  go_enter Tryz.func126, Tryz.ntmps126
  go_wp2_with fail
  generalize hW : World.alloc _ _ = W
  have HZ : Hid (SB (w.heap.size + 1 + 1) sn0 (.slice none 0 0) (.slice none 0 0) (.slice none 0 0) W) := by show SB _ _ _ _ _ _; rw [← hW]; exact (blk3 w _ _ _ _ _ _).2.2
  have b0 : Below w.heap.size w W := by rw [← hW]; exact below3 _ _ _ _
  have z0 : w.heap.size + 3 ≤ W.heap.size := by rw [← hW]; simp
  clear hW
  refine (specDecide s v _ _ _ lo W HK.out (H.out.below b0 (Nat.le_refl _))).mono ?_
  rintro e w1 ⟨⟨v1, v2, v3, rfl, S1⟩, hb1⟩
  obtain ⟨p1, p2, p3, q1, q2, q3, rfl, rfl, rfl⟩ := S1.some (HK.out.dec _)
  have b1 : Below w.heap.size w w1 := b0.trans (hb1.mono b0.size)
  have HZ1 : Hid (SB (w.heap.size + 1 + 1) sn0 (.slice none 0 0) (.slice none 0 0) (.slice none 0 0) w1) := SB.below HZ.out hb1
  have HS1 : Hid (SV w1 W.heap.size (.slice (some ⟨p1, 0, none⟩) s.R.length q1) (.slice (some ⟨p2, 0, none⟩) s.R.length q2) (.slice (some ⟨p3, 0, none⟩) s.R.length q3) (s.dec v)) := S1
  have z1 := hb1.size
  clear S1 hb1 HZ b0
  dsimp only [Sn.dec]
  go_wp2_with fail
  generalize hW2 : World.alloc _ _ = W2
  have hbb : Below w1.heap.size w1 W2 := by rw [← hW2]; exact below1 _ _
  have HT2 : Hid (SB w1.heap.size (s.to 8) (.slice (some ⟨p1, 0, none⟩) s.R.length q1) (.slice (some ⟨p2, 0, none⟩) s.R.length q2) (.slice (some ⟨p3, 0, none⟩) s.R.length q3) W2) := by show SB _ _ _ _ _ _; rw [← hW2]; exact Blk.new w1 _ _
  have HZ2 : Hid (SB (w.heap.size + 1 + 1) sn0 (.slice none 0 0) (.slice none 0 0) (.slice none 0 0) W2) := SB.below HZ1.out hbb
  have HS2 : Hid (SV W2 W.heap.size (.slice (some ⟨p1, 0, none⟩) s.R.length q1) (.slice (some ⟨p2, 0, none⟩) s.R.length q2) (.slice (some ⟨p3, 0, none⟩) s.R.length q3) (s.dec v)) := HS1.out.below hbb (Nat.le_refl _)
  have b2 : Below w.heap.size w W2 := b1.trans (hbb.mono b1.size)
  have z2 : w1.heap.size + 1 ≤ W2.heap.size := by rw [← hW2]; simp
  clear hW2 hbb HZ1 HS1 b1
  obtain ⟨t0, t1, t2, t3, t4, t5, t6, t7, t8⟩ : W2.cell? ⟨w1.heap.size, 0, none⟩ = some (.int .i64 8) ∧ W2.cell? ⟨w1.heap.size, 1, none⟩ = some (.string s.buf) ∧ W2.cell? ⟨w1.heap.size, 2, none⟩ = some (.string s.he) ∧ W2.cell? ⟨w1.heap.size, 3, none⟩ = some (.string s.fr) ∧ W2.cell? ⟨w1.heap.size, 4, none⟩ = some (.string s.bo) ∧ W2.cell? ⟨w1.heap.size, 5, none⟩ = some ((.slice (some ⟨p1, 0, none⟩) s.R.length q1)) ∧ W2.cell? ⟨w1.heap.size, 6, none⟩ = some (.int .i64 (s.nx : Int)) ∧ W2.cell? ⟨w1.heap.size, 7, none⟩ = some ((.slice (some ⟨p2, 0, none⟩) s.R.length q2)) ∧ W2.cell? ⟨w1.heap.size, 8, none⟩ = some ((.slice (some ⟨p3, 0, none⟩) s.R.length q3)) := HT2.out.cells
  go_region_with (first | (go_at_call 125; refine (specCommand 6 ⟨#[]⟩ _ (by decide)).mono ?_; rintro e w4 ⟨rfl, hb4⟩; have HB4 : Hid (Below W2.heap.size W2 w4) := ((Below.refl W2.heap.size W2).drew).trans hb4; have HT4 : Hid (SB w1.heap.size (s.to 8) (.slice (some ⟨p1, 0, none⟩) s.R.length q1) (.slice (some ⟨p2, 0, none⟩) s.R.length q2) (.slice (some ⟨p3, 0, none⟩) s.R.length q3) w4) := SB.below HT2.out HB4.out; obtain ⟨k0, k1, k2, k3, k4, k5, k6, k7, k8⟩ : w4.cell? ⟨w1.heap.size, 0, none⟩ = some (.int .i64 8) ∧ w4.cell? ⟨w1.heap.size, 1, none⟩ = some (.string s.buf) ∧ w4.cell? ⟨w1.heap.size, 2, none⟩ = some (.string s.he) ∧ w4.cell? ⟨w1.heap.size, 3, none⟩ = some (.string s.fr) ∧ w4.cell? ⟨w1.heap.size, 4, none⟩ = some (.string s.bo) ∧ w4.cell? ⟨w1.heap.size, 5, none⟩ = some ((.slice (some ⟨p1, 0, none⟩) s.R.length q1)) ∧ w4.cell? ⟨w1.heap.size, 6, none⟩ = some (.int .i64 (s.nx : Int)) ∧ w4.cell? ⟨w1.heap.size, 7, none⟩ = some ((.slice (some ⟨p2, 0, none⟩) s.R.length q2)) ∧ w4.cell? ⟨w1.heap.size, 8, none⟩ = some ((.slice (some ⟨p3, 0, none⟩) s.R.length q3)) := HT4.out.cells; have HZ4 : Hid (SB (w.heap.size + 1 + 1) sn0 (.slice none 0 0) (.slice none 0 0) (.slice none 0 0) w4) := SB.below HZ2.out HB4.out; obtain ⟨r0, r1, r2, r3, r4, r5, r6, r7, r8⟩ := HZ4.out.zero; obtain ⟨rf0, rf1, rf2, rf3, rf4, rf5, rf6, rf7, rf8⟩ := HZ4.out.frees; have zl : w.heap.size + 1 + 1 < w4.heap.size := HZ4.out.lt; clear hb4))
  all_goals
    have HS4 : Hid (SV w4 W.heap.size (.slice (some ⟨p1, 0, none⟩) s.R.length q1) (.slice (some ⟨p2, 0, none⟩) s.R.length q2) (.slice (some ⟨p3, 0, none⟩) s.R.length q3) (s.dec v)) := HS2.out.below HB4.out (Nat.le_refl _)
    have b4 : Below w.heap.size w w4 := b2.trans (HB4.out.mono b2.size)
    go_wp2
    refine bodyPost_ret (v := .tuple #[.agg #[.int .i64 8, .string s.buf, .string s.he, .string s.fr, .string s.bo, (.slice (some ⟨p1, 0, none⟩) s.R.length q1), .int .i64 (s.nx : Int), (.slice (some ⟨p2, 0, none⟩) s.R.length q2), (.slice (some ⟨p3, 0, none⟩) s.R.length q3)], .string (cmdB 6 ⟨#[]⟩)]) (by simp [results, Tryz.results126, go_sem, r0, r1, r2, r3, r4, r5, r6, r7, r8]) rfl ?_
    exact ⟨⟨_, _, _, rfl, (HS4.out.nine (b := w.heap.size + 1 + 1) (by omega) _ _ _ _ _ _ _ _ _).le (by omega)⟩, below_nine b4 (by omega) _ _ _ _ _ _ _ _ _⟩
end Go.Proofs.YtngcjlghjidnjaaGreatDoor
namespace Go.Proofs.YtngcjlghjidnjaaGreatDoor
open Go.ChangeShapes Go.WideShapes Go.ChangeAt Go.RowKit
open Pcs

theorem specHasJ (s : ByteArray) (c : Int) (w : World) (hc : 0 ≤ c) (hs : s.size ≤ 1048576) :
    Calls Tryz.prog 106 #[.string s, .int .u8 c] w fun e w' => e = .returned (.bool (hasN s c.toNat)) ∧ w' = w := by
  have h := specHas s c.toNat w hs
  rw [Int.toNat_of_nonneg hc] at h; exact h

/-- what l2line answers -/
def LinOut (s : ByteArray) (code : Int) (last : Bool) (text : ByteArray) (ok : Bool) : Prop := ok = lineR s ∧ (lineR s = true → code = codeN s ∧ last = lastN s ∧ text = textB s)
def LinRes (s : ByteArray) (e : Ending) : Prop := ∃ (code : Int) (last : Bool) (text : ByteArray) (ok : Bool), e = .returned (.tuple #[.int .i64 code, .bool last, .string text, .bool ok]) ∧ LinOut s code last text ok
theorem lin_no {s : ByteArray} (h : lineR s = false) (c : Int) (l : Bool) (t : ByteArray) : LinOut s c l t false := ⟨h.symm, fun e => by rw [h] at e; cases e⟩
theorem numN_three (s : ByteArray) : numN s 3 = codeN s := by simp [numN, codeN]
theorem lineR_nodig {s : ByteArray} {k : Nat} (hk : k < 3) (h : digN (byteOf s k) = false) : lineR s = false := by
  unfold lineR
  match k, hk with
  | 0, _ => rw [h]; simp
  | 1, _ => rw [h]; simp
  | 2, _ => rw [h]; simp
theorem lineR_rest2 {c : ByteArray} (h1 : c.size ≤ 510) (h2 : brkN c = false) (h3 : 3 ≤ c.size) (hd : ∀ j, j < 3 → digN (byteOf c j) = true) :
    lineR c = (decide (50 ≤ byteOf c 0) && (decide (byteOf c 0 ≤ 53) && (decide (c.size = 3) || (byteOf c 3 == 32 || byteOf c 3 == 45)))) := by
  rw [lineR_rest h1 h2 h3, dig3 h3, hd 0 (by decide), hd 1 (by decide), hd 2 (by decide)]; simp

set_option maxHeartbeats 4000000 in
set_option maxRecDepth 100000 in
theorem specLine (s : ByteArray) (w : World) (hs : s.size ≤ 1048576) :
    Calls Tryz.prog 121 #[.string s] w fun e w' => LinRes s e ∧ Below w.heap.size w w' := by
  have k13 : hasN s (13 : Int).toNat = hasN s 13 := rfl
  have k10 : hasN s (10 : Int).toNat = hasN s 10 := rfl
  by_cases hno : brkN s = true ∨ 510 < s.size ∨ s.size < 3
  · have G : Hid (∀ c l t, LinOut s c l t false) := fun c l t => lin_no (by
      rcases hno with h | h | h
      · exact lineR_brk h
      · exact lineR_long h
      · exact lineR_short h) c l t
    have HB : Hid (brkN s = (hasN s 13 || hasN s 10)) := rfl
    go_enter Tryz.func121, Tryz.ntmps121
    go_wp2_with fail
    refine (specHasJ s _ _ (by decide) hs).mono ?_
    rintro e w' ⟨rfl, hw⟩
    rw [hw, k13]
    clear hw
    cases h13 : hasN s 13 with
    | true =>
      clear hno
      go_wp2
      exact bodyPost_ret (v := .tuple #[.int .i64 0, .bool false, .string ⟨#[]⟩, .bool false]) (by simp [results, Tryz.results121, go_sem]) rfl ⟨⟨_, _, _, _, rfl, G.out _ _ _⟩, Below.refl _ _⟩
    | false =>
      go_wp2_with fail
      refine (specHasJ s _ _ (by decide) hs).mono ?_
      rintro e w' ⟨rfl, hw⟩
      rw [hw, k10]
      clear hw
      cases h10 : hasN s 10 with
      | true =>
        clear hno
        go_wp2
        exact bodyPost_ret (v := .tuple #[.int .i64 0, .bool false, .string ⟨#[]⟩, .bool false]) (by simp [results, Tryz.results121, go_sem]) rfl ⟨⟨_, _, _, _, rfl, G.out _ _ _⟩, Below.refl _ _⟩
      | false =>
        have hno2 : 510 < s.size ∨ s.size < 3 := by
          rcases hno with h | h
          · rw [HB.out, h13, h10] at h; cases h
          · exact h
        clear hno
        by_cases hbig : 510 < s.size
        · go_wp2
          exact bodyPost_ret (v := .tuple #[.int .i64 0, .bool false, .string ⟨#[]⟩, .bool false]) (by simp [results, Tryz.results121, go_sem]) rfl ⟨⟨_, _, _, _, rfl, G.out _ _ _⟩, Below.refl _ _⟩
        · have hsm : s.size < 3 := by omega
          go_wp2
          exact bodyPost_ret (v := .tuple #[.int .i64 0, .bool false, .string ⟨#[]⟩, .bool false]) (by simp [results, Tryz.results121, go_sem]) rfl ⟨⟨_, _, _, _, rfl, G.out _ _ _⟩, Below.refl _ _⟩
  · have hb : brkN s = false := by
      cases h : brkN s with
      | true => exact absurd (.inl h) hno
      | false => rfl
    have h510 : s.size ≤ 510 := by omega
    have h3 : 3 ≤ s.size := by omega
    have h13 : hasN s 13 = false := by
      cases h : hasN s 13 with
      | true => unfold brkN at hb; rw [h] at hb; cases hb
      | false => rfl
    have h10 : hasN s 10 = false := by
      cases h : hasN s 10 with
      | true => unfold brkN at hb; rw [h, Bool.or_true] at hb; cases hb
      | false => rfl
    have HR2 : Hid ((∀ j, j < 3 → digN (byteOf s j) = true) → lineR s = (decide (50 ≤ byteOf s 0) && (decide (byteOf s 0 ≤ 53) && (decide (s.size = 3) || (byteOf s 3 == 32 || byteOf s 3 == 45))))) := fun h => lineR_rest2 h510 hb h3 h
    clear hno hb
    go_enter Tryz.func121, Tryz.ntmps121
    go_wp2_with (go_at_call 106; refine (specHasJ s _ _ (by decide) hs).mono ?_; rintro e w' ⟨rfl, hw⟩; rw [hw]; first | rw [k13, h13] | rw [k10, h10])
    clear k13 k10 h13 h10
    go_loop [6, 7] (fun nv i => ∃ k : Nat, k ≤ 3 ∧ i = .int .i64 k ∧ nv = .int .i64 (numN s k) ∧ Hid (∀ j, j < k → digN (byteOf s j) = true)) (fun _ i => 3 - (intOf i).toNat)
    case atStart => exact ⟨0, Nat.zero_le _, rfl, rfl, fun j h => absurd h (Nat.not_lt_zero _)⟩
    case round =>
      obtain ⟨k, hk, rfl, rfl, HD⟩ := hrel
      have hn : numN s k < 1000 := by
        have b : ∀ j, j < k → byteOf s j - 48 ≤ 9 := fun j hj => by
          have := HD.out j hj
          simp only [digN, Bool.and_eq_true, decide_eq_true_eq] at this; omega
        match k, hk with
        | 0, _ => simp [numN]
        | 1, _ => simp only [numN]; have := b 0 (by decide); omega
        | 2, _ => simp only [numN]; have := b 0 (by decide); have := b 1 (by decide); omega
        | 3, _ => simp only [numN]; have := b 0 (by decide); have := b 1 (by decide); have := b 2 (by decide); omega
      by_cases hlt : k < 3
      · have hks : k < s.size := by omega
        have hksi : (k : Int) < s.size := by omega
        have HB : Hid (byteOf s k = s[k].toNat) := byteOf_eq s k hks
        by_cases hlo : (s[k].toNat : Int) < 48
        · have G : Hid (∀ c l t, LinOut s c l t false) := fun c l t => lin_no (lineR_nodig hlt (by rw [HB.out]; simp [digN]; omega)) c l t
          go_wp2
          exact bodyPost_ret (v := .tuple #[.int .i64 0, .bool false, .string ⟨#[]⟩, .bool false]) (by simp [results, Tryz.results121, go_sem]) rfl ⟨⟨_, _, _, _, rfl, G.out _ _ _⟩, Below.refl _ _⟩
        · by_cases hhi : (57 : Int) < s[k].toNat
          · have G : Hid (∀ c l t, LinOut s c l t false) := fun c l t => lin_no (lineR_nodig hlt (by rw [HB.out]; simp [digN]; omega)) c l t
            have g3 : (48 : Int) ≤ s[k].toNat := by omega
            clear hlo HR2 hn
            go_wp2
            exact bodyPost_ret (v := .tuple #[.int .i64 0, .bool false, .string ⟨#[]⟩, .bool false]) (by simp [results, Tryz.results121, go_sem]) rfl ⟨⟨_, _, _, _, rfl, G.out _ _ _⟩, Below.refl _ _⟩
          · have G : Hid (∀ j, j < k + 1 → digN (byteOf s j) = true) := by
              intro j hj
              rcases Nat.lt_succ_iff_lt_or_eq.1 hj with hj | rfl
              · exact HD.out j hj
              · rw [HB.out]; simp [digN]; omega
            have g3 : (48 : Int) ≤ s[k].toNat := by omega
            have g4 : (s[k].toNat : Int) ≤ 57 := by omega
            clear hlo hhi HR2
            go_wp2
            go_round
            case rel => exact ⟨k + 1, by omega, by go_num, by rw [numN, HB.out]; go_num, G.out⟩
            case measure => simp [intOf]; omega
      · obtain rfl : k = 3 := by omega
        have HR := HR2.out HD.out
        have HCN : Hid (numN s 3 = codeN s) := numN_three s
        have b0 := HD.out 0 (by decide)
        have b1 := HD.out 1 (by decide)
        have b2 := HD.out 2 (by decide)
        simp only [digN, Bool.and_eq_true, decide_eq_true_eq] at b0 b1 b2
        have hnum : numN s 3 = ((byteOf s 0 - 48) * 10 + (byteOf s 1 - 48)) * 10 + (byteOf s 2 - 48) := numN_three s
        have HLO : Hid (numN s 3 < 200 → lineR s = false) := fun h => by rw [HR, decide_eq_false (p := 50 ≤ byteOf s 0) (by omega)]; rfl
        have HHI : Hid (599 < numN s 3 → lineR s = false) := fun h => by rw [HR, decide_eq_false (p := byteOf s 0 ≤ 53) (by omega)]; simp
        have HMID : Hid (200 ≤ numN s 3 → numN s 3 ≤ 599 → lineR s = (decide (s.size = 3) || (byteOf s 3 == 32 || byteOf s 3 == 45))) := fun h1 h2 => by
          rw [HR, decide_eq_true (p := 50 ≤ byteOf s 0) (by omega), decide_eq_true (p := byteOf s 0 ≤ 53) (by omega)]; simp
        clear HR HR2 b0 b1 b2 hnum HD hlt
        generalize numN s 3 = N at *
        by_cases hlo : N < 200
        · have G : Hid (∀ c l t, LinOut s c l t false) := fun c l t => lin_no (HLO.out hlo) c l t
          go_wp2
          exact bodyPost_ret (v := .tuple #[.int .i64 0, .bool false, .string ⟨#[]⟩, .bool false]) (by simp [results, Tryz.results121, go_sem]) rfl ⟨⟨_, _, _, _, rfl, G.out _ _ _⟩, Below.refl _ _⟩
        · by_cases hhi : 599 < N
          · have G : Hid (∀ c l t, LinOut s c l t false) := fun c l t => lin_no (HHI.out hhi) c l t
            go_wp2
            exact bodyPost_ret (v := .tuple #[.int .i64 0, .bool false, .string ⟨#[]⟩, .bool false]) (by simp [results, Tryz.results121, go_sem]) rfl ⟨⟨_, _, _, _, rfl, G.out _ _ _⟩, Below.refl _ _⟩
          · have HM := HMID.out (by omega) (by omega)
            clear HLO HHI HMID
            by_cases he : (s.size : Int) = 3
            · have G : Hid (LinOut s N true ⟨#[]⟩ true) := by
                have e1 : lineR s = true := by rw [HM, decide_eq_true (by omega)]; rfl
                refine ⟨e1.symm, fun _ => ⟨by rw [HCN.out], ?_, ?_⟩⟩
                · unfold lastN; rw [decide_eq_true (by omega)]; rfl
                · unfold textB; rw [Nat.min_eq_right (by omega)]; simp; rfl
              clear HM
              go_wp2
              exact bodyPost_ret (v := .tuple #[.int .i64 (N : Int), .bool true, .string ⟨#[]⟩, .bool true]) (by simp [results, Tryz.results121, go_sem]) rfl ⟨⟨_, _, _, _, rfl, G.out⟩, Below.refl _ _⟩
            · have heb : ((s.size : Int) == 3) = false := beq_eq_false_iff_ne.2 he
              have h4 : 3 < s.size := by omega
              have h4i : (3 : Int) < s.size := by omega
              have h4j : (4 : Int) ≤ s.size := by omega
              have B3 := byteOf_eq s 3 h4
              have G : Hid (LinOut s N (((s[3]'h4).toNat : Int) == 32) (s.extract 4 s.size) ((((s[3]'h4).toNat : Int) == 32) || (((s[3]'h4).toNat : Int) == 45))) := by
                have q32 : (((s[3]'h4).toNat : Int) == 32) = (byteOf s 3 == 32) := by rw [B3, Bool.eq_iff_iff, beq_iff_eq, beq_iff_eq]; omega
                have q45 : (((s[3]'h4).toNat : Int) == 45) = (byteOf s 3 == 45) := by rw [B3, Bool.eq_iff_iff, beq_iff_eq, beq_iff_eq]; omega
                rw [q32, q45]
                refine ⟨?_, fun _ => ⟨by rw [HCN.out], ?_, ?_⟩⟩
                · rw [HM, decide_eq_false (by omega)]; rfl
                · unfold lastN; rw [decide_eq_false (by omega)]; rfl
                · unfold textB; rw [Nat.min_eq_left (by omega)]
              clear HM B3
              have hix : ∀ wx, (Instr.index 9 (.string s) (.int .i64 3)).run Tryz.prog wx = .ok (.int .u8 ((s[3]'h4).toNat : Int)) wx := by
                intro wx
                rw [run_index_string wx 9 _ _ _ Tryz.underlying9, dif_pos ⟨by decide, h4i⟩]
                rfl
              have hsl : ∀ wx, (Instr.slice 9 (.string s) (some (.int .i64 4)) none none).run Tryz.prog wx = .ok (.string (s.extract 4 s.size)) wx := by
                intro wx
                rw [run_slice_string_from_if wx 9 s .i64 4 Tryz.underlying9, if_pos (by omega)]
                rfl
              by_cases h32 : ((s[3]'h4).toNat : Int) = 32
              · have h32b : (((s[3]'h4).toNat : Int) == 32) = true := beq_iff_eq.2 h32
                have G' : Hid (LinOut s N true (s.extract 4 s.size) true) := by
                  have := G.out
                  rw [h32b] at this; exact this
                rw [h32] at hix
                clear G h32 h32b
                go_upto_region 14 with fail
                go_quiet (fail)
                go_wp2
                exact bodyPost_ret (v := .tuple #[.int .i64 (N : Int), .bool true, .string (s.extract 4 s.size), .bool true]) (by simp [results, Tryz.results121, go_sem]) rfl ⟨⟨_, _, _, _, rfl, G'.out⟩, drew_below' (Below.refl _ _) _⟩
              · have h32b : (((s[3]'h4).toNat : Int) == 32) = false := beq_eq_false_iff_ne.2 h32
                have G' : Hid (LinOut s N false (s.extract 4 s.size) (((s[3]'h4).toNat : Int) == 45)) := by
                  have := G.out
                  rw [h32b, Bool.false_or] at this; exact this
                clear G
                go_upto_region 14 with fail
                go_quiet (fail)
                go_wp2
                exact bodyPost_ret (v := .tuple #[.int .i64 (N : Int), .bool false, .string (s.extract 4 s.size), .bool (((s[3]'h4).toNat : Int) == 45)]) (by simp [results, Tryz.results121, go_sem]) rfl ⟨⟨_, _, _, _, rfl, G'.out⟩, drew_below' (Below.refl _ _) _⟩
end Go.Proofs.YtngcjlghjidnjaaGreatDoor
namespace Go.Proofs.YtngcjlghjidnjaaGreatDoor
open Go.ChangeShapes Go.WideShapes Go.ChangeAt Go.RowKit
open Pcs

/-- below B all but block b stands as it stood -/
structure Bes (B b : Nat) (w w' : World) : Prop where
  os : w'.os = w.os
  tape : w'.tape = w.tape
  output : w'.output = w.output
  size : w.heap.size ≤ w'.heap.size
  block : ∀ k, k < B → k ≠ b → w'.heap[k]? = w.heap[k]?
theorem Bes.refl (B b : Nat) (w : World) : Bes B b w w := ⟨rfl, rfl, rfl, Nat.le_refl _, fun _ _ _ => rfl⟩
theorem Bes.trans {B b : Nat} {w w1 w2 : World} (h : Bes B b w w1) (k : Bes B b w1 w2) : Bes B b w w2 :=
  ⟨k.os.trans h.os, k.tape.trans h.tape, k.output.trans h.output, Nat.le_trans h.size k.size, fun j h1 h2 => (k.block j h1 h2).trans (h.block j h1 h2)⟩
theorem Bes.below {B b lo : Nat} {w w' : World} (h : Bes B b w w') (h1 : lo ≤ b) (h2 : lo ≤ B) : Below lo w w' :=
  ⟨h.os, h.tape, h.output, h.size, fun k hk => h.block k (by omega) (by omega)⟩
theorem Bes.of {B b lo : Nat} {w w' : World} (h : Below lo w w') (h1 : B ≤ lo) : Bes B b w w' :=
  ⟨h.os, h.tape, h.output, h.size, fun k hk _ => h.block k (by omega)⟩
theorem Bes.cell {B b : Nat} {w w' : World} (h : Bes B b w w') {g o : Nat} (h1 : g < B) (h2 : g ≠ b) : w'.cell? ⟨g, o, none⟩ = w.cell? ⟨g, o, none⟩ := by
  simp only [World.cell?]; rw [h.block g h1 h2]
theorem Bes.frozen {B b : Nat} {w w' : World} (h : Bes B b w w') {g o : Nat} (h1 : g < B) (h2 : g ≠ b) : w'.frozen? ⟨g, o, none⟩ = w.frozen? ⟨g, o, none⟩ := by
  simp only [World.frozen?]; rw [h.block g h1 h2]

set_option maxHeartbeats 1000000 in
set_option maxRecDepth 100000 in
theorem keepN (s : ByteArray) (n : Nat) (w : World) :
    Calls Tryz.prog 55 #[.string s, .int .i64 (n : Int)] w fun e w' => (∃ K : ByteArray, e = .returned (.string K) ∧ Hid (K.data.toList = s.data.toList.take n) ∧ K.size ≤ s.size) ∧ w' = w := by
  by_cases h : n ≤ s.size
  · have hi : (n : Int) ≤ s.size := by omega
    have E : Hid ((s.extract 0 n).data.toList = s.data.toList.take n) := by
      show _ = _
      rw [Lib.extract_data, List.drop_zero, Nat.sub_zero]
    have E2 : (s.extract 0 n).size ≤ s.size := by rw [ByteArray.size_extract]; omega
    go_enter Tryz.func55, Tryz.ntmps55
    go_wp2
    go_ret
    exact ⟨⟨_, rfl, E, E2⟩, rfl⟩
  · have E : Hid (s.data.toList = s.data.toList.take n) := by
      show _ = _
      rw [List.take_of_length_le (by rw [← Lib.size_eq]; omega)]
    have hi : (s.size : Int) < n := by omega
    go_enter Tryz.func55, Tryz.ntmps55
    go_wp2
    go_ret
    exact ⟨⟨_, rfl, E, Nat.le_refl _⟩, rfl⟩
theorem keepIs (s : ByteArray) (w : World) :
    Calls Tryz.prog 55 #[.string s, .int .i64 26112] w fun e w' => (∃ K : ByteArray, e = .returned (.string K) ∧ Hid (K.data.toList = s.data.toList.take 26112) ∧ K.size ≤ s.size) ∧ w' = w := keepN s 26112 w

/-- the pieces that are left, one by one -/
theorem left_last {r : List UInt8} {x : ByteArray} (h : [x] = (pcs [13, 10] 0 [] r).map mk) : Lib.index r [13, 10] = -1 ∧ mk r = x := by
  rcases pcs_index (sep := [13, 10]) (by simp) r [] with ⟨h1, h2⟩ | ⟨i, h1, h2, h3⟩
  · rw [h2] at h
    simp at h
    exact ⟨h1, h.symm⟩
  · rw [h3] at h
    have := congrArg List.length h
    have h0 : 0 < (pcs [13, 10] 0 [] (r.drop (i + ([13, 10] : List UInt8).length))).length := List.length_pos_iff.2 (pcs_ne _ _ _ _)
    rw [List.length_cons, List.length_nil, List.map_cons, List.length_cons, List.length_map] at this
    omega
theorem left_more {r : List UInt8} {x y : ByteArray} {L : List ByteArray} (h : x :: y :: L = (pcs [13, 10] 0 [] r).map mk) : ∃ i : Nat, Lib.index r [13, 10] = i ∧ mk (r.take i) = x ∧ y :: L = (pcs [13, 10] 0 [] (r.drop (i + 2))).map mk := by
  rcases pcs_index (sep := [13, 10]) (by simp) r [] with ⟨h1, h2⟩ | ⟨i, h1, h2, h3⟩
  · rw [h2] at h; simp at h
  · rw [h3, List.map_cons, List.nil_append] at h
    injection h with e1 e2
    exact ⟨i, h1, e1.symm, e2⟩
theorem trim_cr {x : ByteArray} (h : 0 < x.size) (hd : (x[x.size - 1]'(by omega)).toNat = 13) : mk (Lib.trimSuffix x.data.toList [13]) = x.extract 0 (x.size - 1) := by
  have hl : x.size - 1 < x.data.toList.length := by rw [← Lib.size_eq]; omega
  have hs : Lib.hasSuffix x.data.toList [13] = true := by
    refine List.isSuffixOf_iff_suffix.2 ⟨x.data.toList.take (x.size - 1), ?_⟩
    have e : x.data.toList[x.size - 1] = 13 := UInt8.toNat_inj.1 hd
    have : x.data.toList.drop (x.size - 1) = [13] := by
      rw [List.drop_eq_getElem_cons hl, e, List.drop_of_length_le (by rw [← Lib.size_eq]; omega)]
    rw [← this, List.take_append_drop]
  unfold Lib.trimSuffix
  rw [if_pos hs, ← mk_data (x.extract 0 (x.size - 1)), Lib.extract_data, List.drop_zero, Lib.size_eq]; rfl
theorem trim_nocr {x : ByteArray} (hd : ∀ h : 0 < x.size, (x[x.size - 1]'(by omega)).toNat ≠ 13) : mk (Lib.trimSuffix x.data.toList [13]) = x := by
  have hs : Lib.hasSuffix x.data.toList [13] = false := by
    rw [Bool.eq_false_iff]; intro e
    obtain ⟨t, ht⟩ := List.isSuffixOf_iff_suffix.1 e
    have hz : x.size = t.length + 1 := by rw [Lib.size_eq, ← ht]; simp
    have h0 : 0 < x.size := by omega
    refine hd h0 ?_
    have : x.data.toList[x.size - 1]? = some 13 := by rw [← ht, hz]; simp
    have hl : x.size - 1 < x.data.toList.length := by rw [← Lib.size_eq]; omega
    rw [List.getElem?_eq_getElem hl] at this
    exact congrArg UInt8.toNat (Option.some.inj this)
  unfold Lib.trimSuffix
  rw [if_neg (by rw [hs]; decide), mk_data]
theorem more_trim {x y : ByteArray} (h : mk (Lib.trimSuffix x.data.toList [13]) = y) : moreN x = (decide (x.size < 512) && !(hasN y 13 || hasN y 10)) := by
  unfold moreN; rw [h]; rfl

/-- what stands in memory behind i lines: the answer's block, r's block, the lines -/
structure PrSt (w w2 wr : World) (lv : Value) (cd : Int) (acc : List ByteArray) : Prop where
  res : w2.heap[w.heap.size]? = some (.cells #[.int .i64 0, .slice none 0 0] 102 (0, 0))
  blk : wr.heap[w.heap.size + 1]? = some (.cells #[.int .i64 cd, lv] 102 (0, 0))
  own : Strs wr w2.heap.size lv acc
  bes : Bes w2.heap.size (w.heap.size + 1) w2 wr
  le : w.heap.size + 2 ≤ w2.heap.size
theorem PrSt.facts {w w2 wr : World} {lv : Value} {cd : Int} {acc : List ByteArray} (h : PrSt w w2 wr lv cd acc) :
    wr.cell? ⟨w.heap.size, 0, none⟩ = some (.int .i64 0) ∧ wr.cell? ⟨w.heap.size, 1, none⟩ = some (.slice none 0 0) ∧ (∀ o, wr.frozen? ⟨w.heap.size, o, none⟩ = false) ∧
    wr.cell? ⟨w.heap.size + 1, 0, none⟩ = some (.int .i64 cd) ∧ wr.cell? ⟨w.heap.size + 1, 1, none⟩ = some lv ∧ (∀ o, wr.frozen? ⟨w.heap.size + 1, o, none⟩ = false) := by
  have hle := h.le
  have hr : wr.heap[w.heap.size]? = some (.cells #[.int .i64 0, .slice none 0 0] 102 (0, 0)) := by rw [h.bes.block _ (by omega) (by omega)]; exact h.res
  refine ⟨by simp [World.cell?, hr], by simp [World.cell?, hr], fun o => by simp [World.frozen?, hr], by simp [World.cell?, h.blk], by simp [World.cell?, h.blk], fun o => by simp [World.frozen?, h.blk]⟩
theorem PrSt.after {w w2 wr w3 : World} {lv : Value} {cd : Int} {acc : List ByteArray} (h : PrSt w w2 wr lv cd acc) (hb : Below wr.heap.size wr w3) : PrSt w w2 w3 lv cd acc := by
  have hle := h.le
  have hz := h.bes.size
  exact ⟨h.res, by rw [hb.block _ (by omega)]; exact h.blk, strs_below h.own hb (Nat.le_refl _), h.bes.trans (Bes.of hb hz), hle⟩
end Go.Proofs.YtngcjlghjidnjaaGreatDoor
namespace Go.Proofs.YtngcjlghjidnjaaGreatDoor
open Go.ChangeShapes Go.WideShapes Go.ChangeAt Go.RowKit
open Pcs

theorem strs_ne2 {w : World} {lo : Nat} {v : Value} {L : List ByteArray} (h : Strs w lo v L) (hL : L ≠ []) : ∃ g cap, v = .slice (some ⟨g, 0, none⟩) L.length cap ∧ StrsAt w lo g cap L := by
  rcases h.cases with ⟨_, h0⟩ | h
  · exact absurd h0 hL
  · exact h

set_option maxHeartbeats 4000000 in
set_option maxRecDepth 100000 in
theorem specParse (s : ByteArray) (w : World) (hs : s.size ≤ 1048576) :
    Calls Tryz.prog 90 #[.string s] w fun e w' => (∃ v, e = .returned (.tuple #[.agg #[.int .i64 (prCode (parse s) : Int), v], .int .i64 (prUsed (parse s) : Int), .int .i64 (prSt (parse s) : Int)]) ∧ Strs w' w.heap.size v (prLines (parse s))) ∧ Below w.heap.size w w' := by
  obtain ⟨i0, hi, hz0, hz1, hz2⟩ := info_parts infoStr
  go_enter Tryz.func90, Tryz.ntmps90
  go_wp2_with fail
  refine (keepIs s _).mono ?_
  rintro e w' ⟨⟨K, rfl, HK, hKs⟩, hw⟩
  rw [hw]
  clear hw
  go_wp2_with fail
  refine (specSplit K _ _ (by omega) (by decide) (by decide)).mono ?_
  rintro e w2 ⟨⟨v, rfl, S2⟩, hb2⟩
  obtain ⟨g, cap, rfl, A2⟩ := strs_ne2 S2 (pieces_ne _ _)
  obtain ⟨n, hn⟩ : ∃ n, (pieces ⟨#[13, 10]⟩ K).length = n + 1 := ⟨(pieces ⟨#[13, 10]⟩ K).length - 1, by have := List.length_pos_iff.2 (pieces_ne ⟨#[13, 10]⟩ K); omega⟩
  have hpl := pieces_len ⟨#[13, 10]⟩ K
  have HSZ : Hid (∀ k (h : k < (pieces ⟨#[13, 10]⟩ K).length), (pieces ⟨#[13, 10]⟩ K)[k].size ≤ 1048576) := fun k h => Nat.le_trans (pieces_size (List.getElem_mem h)) (by omega)
  have CELL : Hid (∀ i (hi : i < (pieces ⟨#[13, 10]⟩ K).length), w2.cell? ⟨g, i, none⟩ = some (.string (pieces ⟨#[13, 10]⟩ K)[i])) := A2.cell
  have HP0 : Hid ((pieces ⟨#[13, 10]⟩ K).drop 0 = (pcs [13, 10] 0 [] (K.data.toList.drop 0)).map mk) := rfl
  have HR0 : Hid (prs 50 none [] 0 (K.data.toList.drop 0) = parse s) := by
    show _ = _
    rw [List.drop_zero, HK.out]
    exact prs_take 50 none [] 0 26112 s.data.toList (by decide)
  have hcap := A2.cap
  have hlc := A2.len
  have hgl := A2.lt
  have hglo := A2.lo
  have hz2' := hb2.size
  simp only [World.size_alloc] at hz2' hglo
  rw [hn] at hlc ⊢
  unfold maxLen at hcap
  have HW2 : Hid (Below w.heap.size w w2) := (below2 w _ _).trans (hb2.mono (by simp; omega))
  have HS0 : Hid (PrSt w w2 w2 (.slice none 0 0) 0 []) := by
    refine ⟨?_, ?_, World.ownsRow_nil _ _ _ _, Bes.refl _ _ _, by omega⟩
    · rw [hb2.block _ (by simp; omega), Below.heap_alloc _ _ _ (by simp)]; exact heap_alloc_new w _
    · rw [hb2.block _ (by simp)]
      have := heap_alloc_new (w.alloc (.cells #[.int .i64 0, .slice none 0 0] 102)) (.cells #[.int .i64 0, .slice none 0 0] 102)
      simpa using this
  have HKL : Hid (K.data.toList.length ≤ 1048576) := by
    show _ ≤ _
    rw [← Lib.size_eq]; omega
  clear S2 A2 hb2 HK
  generalize pieces ⟨#[13, 10]⟩ K = P at *
  go_wp2
  go_loopw [6, 20] (fun uv iv wr => ∃ (i u : Nat) (acc : List ByteArray) (c : Option Nat) (cd : Int) (lv : Value), i ≤ n ∧ iv = .int .i64 i ∧ uv = .int .i64 u ∧ u ≤ K.size ∧ acc.length = i ∧ i ≤ 50 ∧ Hid (prs (50 - i) c acc u (K.data.toList.drop u) = parse s) ∧ Hid (P.drop i = (pcs [13, 10] 0 [] (K.data.toList.drop u)).map mk) ∧ ((i = 0 ∧ c = none) ∨ (0 < i ∧ ∃ m : Nat, c = some m ∧ cd = m)) ∧ Hid (PrSt w w2 wr lv cd acc)) (fun _ iv _ => n + 1 - (intOf iv).toNat)
  case atStart => exact ⟨0, 0, [], none, 0, .slice none 0 0, Nat.zero_le _, rfl, rfl, Nat.zero_le _, rfl, Nat.zero_le _, HR0, HP0, .inl ⟨rfl, rfl⟩, HS0⟩
  case round =>
    obtain ⟨i, u, acc, c, cd, lv, hin, rfl, rfl, huK, hal, hi50, HR, HD, hcc, HS⟩ := hrel
    have hal1 : acc.length ≤ i := by omega
    have hal2 : i ≤ acc.length := by omega
    clear hal
    obtain ⟨a0, a1, af, b0, b1, bf⟩ := HS.out.facts
    have af0 := af 0
    have af1 := af 1
    have bf0 := bf 0
    have bf1 := bf 1
    have hle := HS.out.le
    have HBW : Hid (Below w.heap.size w wr) := HW2.out.trans (HS.out.bes.below (by omega) (by omega))
    have hzw : w2.heap.size ≤ wr.heap.size := HS.out.bes.size
    clear af bf
    have ec := CELL.out i (by omega)
    rw [← HS.out.bes.cell hgl (by omega)] at ec
    have hx := HSZ.out i (by omega)
    by_cases h50 : i = 50
    · subst h50
      have G : Hid (parse s = .bad) := by
        show _ = _
        rw [← HR.out]; rfl
      generalize P[50]'(by omega) = x at *
      go_wp2
      refine bodyPost_ret (v := .tuple #[.agg #[.int .i64 0, .slice none 0 0], .int .i64 0, .int .i64 3]) (by simp [results, Tryz.results90, go_sem, a0, a1]) rfl ⟨⟨_, by rw [G.out]; rfl, by rw [G.out]; exact World.ownsRow_nil _ _ _ _⟩, ?_⟩
      repeat (refine Below.setCell ?_ (by simp) _)
      exact HBW.out
    · have h50b : ((i : Int) == 50) = false := beq_eq_false_iff_ne.2 (by omega)
      obtain ⟨q, hq⟩ : ∃ q, 50 - i = q + 1 := ⟨49 - i, by omega⟩
      by_cases hil : i = n
      · subst hil
        have hdr : P.drop i = [P[i]'(by omega)] := by
          rw [List.drop_eq_getElem_cons (by omega), List.drop_of_length_le (by omega)]
        have hd := HD.out
        rw [hdr] at hd
        obtain ⟨hidx, hmk⟩ := left_last hd
        have G : Hid (parse s = if moreN (P[i]'(by omega)) then .more else .bad) := by
          show _ = _
          rw [← HR.out, hq, prs_cut hidx, hmk]
        have hnb : ((i : Int) == (i : Int) + 1 - 1) = true := beq_iff_eq.2 (by omega)
        clear hdr hd hidx hmk HD HR hq
        generalize P[i]'(by omega) = x at *
        -- the two ends
        have key : ∀ (y : ByteArray), mk (Lib.trimSuffix x.data.toList [13]) = y → Hid ((512 ≤ x.size → parse s = .bad) ∧ (hasN y 13 = true → parse s = .bad) ∧ (hasN y 10 = true → parse s = .bad) ∧ (x.size < 512 → hasN y 13 = false → hasN y 10 = false → parse s = .more)) := by
          intro y hy
          have e := more_trim hy
          refine ⟨fun h => ?_, fun h => ?_, fun h => ?_, fun h1 h2 h3 => ?_⟩
          · rw [G.out, e, decide_eq_false (by omega)]; rfl
          · rw [G.out, e, h]; simp
          · rw [G.out, e, h]; simp
          · rw [G.out, e, decide_eq_true h1, h2, h3]; rfl
        clear G
        have fin : ∀ (wz : World) (y : ByteArray) (hy : y.size ≤ 1048576), True := fun _ _ _ => trivial
        clear fin
        by_cases hcr : ∃ h : 0 < x.size, (x[x.size - 1]'(by omega)).toNat = 13
        · obtain ⟨hx0, hd13⟩ := hcr
          have HT : Hid (mk (Lib.trimSuffix x.data.toList [13]) = x.extract 0 (x.size - 1)) := trim_cr hx0 hd13
          have K := key _ HT.out
          have hx0i : (0 : Int) < x.size := by omega
          have hl1 : x.size - 1 < x.size := by omega
          have hl2 : ((x.size : Int) - 1).toNat = x.size - 1 := by omega
          have hlo : (0 : Int) ≤ (x.size : Int) - 1 := by omega
          have hhi : (x.size : Int) - 1 ≤ x.size := by omega
          have hd13i : ((x[x.size - 1]'hl1).toNat : Int) = 13 := by omega
          have hys : (x.extract 0 (x.size - 1)).size ≤ 1048576 := by rw [ByteArray.size_extract]; omega
          clear key HT hd13
          go_upto_region 13 with fail
          generalize x.extract 0 (x.size - 1) = y at *
          have k13 : hasN y (13 : Int).toNat = hasN y 13 := rfl
          have k10 : hasN y (10 : Int).toNat = hasN y 10 := rfl
          by_cases h512 : x.size < 512
          · go_wp2_with fail
            refine (specHasJ y _ _ (by decide) hys).mono ?_
            rintro e w' ⟨rfl, hw⟩
            rw [hw, k13]
            clear hw
            cases h13 : hasN y 13 with
            | true =>
              have G : Hid (parse s = .bad) := K.out.2.1 h13
              clear K h13
              go_wp2
              refine bodyPost_ret (v := .tuple #[.agg #[.int .i64 0, .slice none 0 0], .int .i64 0, .int .i64 3]) (by simp [results, Tryz.results90, go_sem, a0, a1]) rfl ⟨⟨_, by rw [G.out]; rfl, by rw [G.out]; exact World.ownsRow_nil _ _ _ _⟩, ?_⟩
              repeat (refine Below.setCell ?_ (by simp) _)
              exact HBW.out
            | false =>
              go_wp2_with fail
              refine (specHasJ y _ _ (by decide) hys).mono ?_
              rintro e w' ⟨rfl, hw⟩
              rw [hw, k10]
              clear hw
              cases h10 : hasN y 10 with
              | true =>
                have G : Hid (parse s = .bad) := K.out.2.2.1 h10
                clear K h10 h13
                go_wp2
                refine bodyPost_ret (v := .tuple #[.agg #[.int .i64 0, .slice none 0 0], .int .i64 0, .int .i64 3]) (by simp [results, Tryz.results90, go_sem, a0, a1]) rfl ⟨⟨_, by rw [G.out]; rfl, by rw [G.out]; exact World.ownsRow_nil _ _ _ _⟩, ?_⟩
                repeat (refine Below.setCell ?_ (by simp) _)
                exact HBW.out
              | false =>
                have G : Hid (parse s = .more) := K.out.2.2.2 h512 h13 h10
                clear K h10 h13
                go_wp2
                refine bodyPost_ret (v := .tuple #[.agg #[.int .i64 0, .slice none 0 0], .int .i64 0, .int .i64 1]) (by simp [results, Tryz.results90, go_sem, a0, a1]) rfl ⟨⟨_, by rw [G.out]; rfl, by rw [G.out]; exact World.ownsRow_nil _ _ _ _⟩, ?_⟩
                repeat (refine Below.setCell ?_ (by simp) _)
                exact HBW.out
          · have h512i : ¬ (x.size : Int) < 512 := by omega
            have G : Hid (parse s = .bad) := K.out.1 (by omega)
            clear K
            go_wp2
            refine bodyPost_ret (v := .tuple #[.agg #[.int .i64 0, .slice none 0 0], .int .i64 0, .int .i64 3]) (by simp [results, Tryz.results90, go_sem, a0, a1]) rfl ⟨⟨_, by rw [G.out]; rfl, by rw [G.out]; exact World.ownsRow_nil _ _ _ _⟩, ?_⟩
            repeat (refine Below.setCell ?_ (by simp) _)
            exact HBW.out
        · have HT : Hid (mk (Lib.trimSuffix x.data.toList [13]) = x) := trim_nocr fun h e => hcr ⟨h, e⟩
          have K := key _ HT.out
          obtain ⟨y, Hy⟩ : ∃ y, Hid (x = y) := ⟨x, rfl⟩
          have K : Hid ((512 ≤ x.size → parse s = .bad) ∧ (hasN x 13 = true → parse s = .bad) ∧ (hasN x 10 = true → parse s = .bad) ∧ (x.size < 512 → hasN x 13 = false → hasN x 10 = false → parse s = .more)) := K
          have hys := hx
          by_cases hx0 : 0 < x.size
          · have hx0i : (0 : Int) < x.size := by omega
            have hl1 : x.size - 1 < x.size := by omega
            have hl2 : ((x.size : Int) - 1).toNat = x.size - 1 := by omega
            have hlo : (0 : Int) ≤ (x.size : Int) - 1 := by omega
            have hne : (((x[x.size - 1]'hl1).toNat : Int) == 13) = false := beq_eq_false_iff_ne.2 fun e => hcr ⟨hx0, by omega⟩
            clear key HT hcr Hy
            go_upto_region 13 with fail
            clear hne
            have k13 : hasN x (13 : Int).toNat = hasN x 13 := rfl
            have k10 : hasN x (10 : Int).toNat = hasN x 10 := rfl
            by_cases h512 : x.size < 512
            · go_wp2_with fail
              refine (specHasJ x _ _ (by decide) hys).mono ?_
              rintro e w' ⟨rfl, hw⟩
              rw [hw, k13]
              clear hw
              cases h13 : hasN x 13 with
              | true =>
                have G : Hid (parse s = .bad) := K.out.2.1 h13
                clear K h13
                go_wp2
                refine bodyPost_ret (v := .tuple #[.agg #[.int .i64 0, .slice none 0 0], .int .i64 0, .int .i64 3]) (by simp [results, Tryz.results90, go_sem, a0, a1]) rfl ⟨⟨_, by rw [G.out]; rfl, by rw [G.out]; exact World.ownsRow_nil _ _ _ _⟩, ?_⟩
                repeat (refine Below.setCell ?_ (by simp) _)
                exact HBW.out
              | false =>
                go_wp2_with fail
                refine (specHasJ x _ _ (by decide) hys).mono ?_
                rintro e w' ⟨rfl, hw⟩
                rw [hw, k10]
                clear hw
                cases h10 : hasN x 10 with
                | true =>
                  have G : Hid (parse s = .bad) := K.out.2.2.1 h10
                  clear K h10 h13
                  go_wp2
                  refine bodyPost_ret (v := .tuple #[.agg #[.int .i64 0, .slice none 0 0], .int .i64 0, .int .i64 3]) (by simp [results, Tryz.results90, go_sem, a0, a1]) rfl ⟨⟨_, by rw [G.out]; rfl, by rw [G.out]; exact World.ownsRow_nil _ _ _ _⟩, ?_⟩
                  repeat (refine Below.setCell ?_ (by simp) _)
                  exact HBW.out
                | false =>
                  have G : Hid (parse s = .more) := K.out.2.2.2 h512 h13 h10
                  clear K h10 h13
                  go_wp2
                  refine bodyPost_ret (v := .tuple #[.agg #[.int .i64 0, .slice none 0 0], .int .i64 0, .int .i64 1]) (by simp [results, Tryz.results90, go_sem, a0, a1]) rfl ⟨⟨_, by rw [G.out]; rfl, by rw [G.out]; exact World.ownsRow_nil _ _ _ _⟩, ?_⟩
                  repeat (refine Below.setCell ?_ (by simp) _)
                  exact HBW.out
            · have h512i : ¬ (x.size : Int) < 512 := by omega
              have G : Hid (parse s = .bad) := K.out.1 (by omega)
              clear K
              go_wp2
              refine bodyPost_ret (v := .tuple #[.agg #[.int .i64 0, .slice none 0 0], .int .i64 0, .int .i64 3]) (by simp [results, Tryz.results90, go_sem, a0, a1]) rfl ⟨⟨_, by rw [G.out]; rfl, by rw [G.out]; exact World.ownsRow_nil _ _ _ _⟩, ?_⟩
              repeat (refine Below.setCell ?_ (by simp) _)
              exact HBW.out
          · have hx1 : (x.size : Int) ≤ 0 := by omega
            clear key HT hcr Hy
            go_upto_region 13 with fail
            have k13 : hasN x (13 : Int).toNat = hasN x 13 := rfl
            have k10 : hasN x (10 : Int).toNat = hasN x 10 := rfl
            by_cases h512 : x.size < 512
            · go_wp2_with fail
              refine (specHasJ x _ _ (by decide) hys).mono ?_
              rintro e w' ⟨rfl, hw⟩
              rw [hw, k13]
              clear hw
              cases h13 : hasN x 13 with
              | true =>
                have G : Hid (parse s = .bad) := K.out.2.1 h13
                clear K h13
                go_wp2
                refine bodyPost_ret (v := .tuple #[.agg #[.int .i64 0, .slice none 0 0], .int .i64 0, .int .i64 3]) (by simp [results, Tryz.results90, go_sem, a0, a1]) rfl ⟨⟨_, by rw [G.out]; rfl, by rw [G.out]; exact World.ownsRow_nil _ _ _ _⟩, ?_⟩
                repeat (refine Below.setCell ?_ (by simp) _)
                exact HBW.out
              | false =>
                go_wp2_with fail
                refine (specHasJ x _ _ (by decide) hys).mono ?_
                rintro e w' ⟨rfl, hw⟩
                rw [hw, k10]
                clear hw
                cases h10 : hasN x 10 with
                | true =>
                  have G : Hid (parse s = .bad) := K.out.2.2.1 h10
                  clear K h10 h13
                  go_wp2
                  refine bodyPost_ret (v := .tuple #[.agg #[.int .i64 0, .slice none 0 0], .int .i64 0, .int .i64 3]) (by simp [results, Tryz.results90, go_sem, a0, a1]) rfl ⟨⟨_, by rw [G.out]; rfl, by rw [G.out]; exact World.ownsRow_nil _ _ _ _⟩, ?_⟩
                  repeat (refine Below.setCell ?_ (by simp) _)
                  exact HBW.out
                | false =>
                  have G : Hid (parse s = .more) := K.out.2.2.2 h512 h13 h10
                  clear K h10 h13
                  go_wp2
                  refine bodyPost_ret (v := .tuple #[.agg #[.int .i64 0, .slice none 0 0], .int .i64 0, .int .i64 1]) (by simp [results, Tryz.results90, go_sem, a0, a1]) rfl ⟨⟨_, by rw [G.out]; rfl, by rw [G.out]; exact World.ownsRow_nil _ _ _ _⟩, ?_⟩
                  repeat (refine Below.setCell ?_ (by simp) _)
                  exact HBW.out
            · exact absurd h512 (by omega)
      · have hlt : i < n := by omega
        have hnb : ((i : Int) == (n : Int) + 1 - 1) = false := beq_eq_false_iff_ne.2 (by omega)
        have hnb2 : ((i : Int) == (n : Int)) = false := beq_eq_false_iff_ne.2 (by omega)
        have hdr : P.drop i = P[i]'(by omega) :: P[i + 1]'(by omega) :: P.drop (i + 1 + 1) := by
          rw [List.drop_eq_getElem_cons (by omega), List.drop_eq_getElem_cons (by omega)]
        have hdr2 : P.drop (i + 1) = P[i + 1]'(by omega) :: P.drop (i + 1 + 1) := by
          rw [List.drop_eq_getElem_cons (by omega)]
        have hd := HD.out
        rw [hdr] at hd
        obtain ⟨j, hidx, hmk, hrest⟩ := left_more hd
        rw [← hdr2] at hrest
        have hroom := Lib.index_room (K.data.toList.drop u) [13, 10] (by omega)
        rw [hidx, List.length_drop] at hroom
        have hroom2 : u + (j + 2) ≤ K.size := by
          rw [Lib.size_eq] at huK ⊢
          simp only [List.length_cons, List.length_nil] at hroom; omega
        have hxs : (P[i]'(by omega)).size = j := by
          rw [← hmk, mk_size, List.length_take, List.length_drop, ← Lib.size_eq]; omega
        have HG : Hid (parse s = if lineR (P[i]'(by omega)) && (c == none || c == some (codeN (P[i]'(by omega)))) then (if lastN (P[i]'(by omega)) then .ok (codeN (P[i]'(by omega))) (acc ++ [textB (P[i]'(by omega))]) (u + ((P[i]'(by omega)).size + 2)) else prs q (some (codeN (P[i]'(by omega)))) (acc ++ [textB (P[i]'(by omega))]) (u + ((P[i]'(by omega)).size + 2)) (K.data.toList.drop (u + ((P[i]'(by omega)).size + 2)))) else .bad) := by
          show _ = _
          rw [← HR.out, hq, prs_line hidx hmk, hxs, List.drop_drop]
        have HD2 : Hid (P.drop (i + 1) = (pcs [13, 10] 0 [] (K.data.toList.drop (u + ((P[i]'(by omega)).size + 2)))).map mk) := by
          show _ = _
          rw [hrest, hxs, List.drop_drop]
        have hu2 : u + ((P[i]'(by omega)).size + 2) ≤ K.size := by rw [hxs]; exact hroom2
        clear hdr hdr2 hd hidx hmk hrest hroom hroom2 hxs HD HR
        generalize P[i]'(by omega) = x at *
        clear a0 a1 b0 b1 af0 af1 bf0 bf1
        go_wp2_with fail
        refine (specLine x _ hx).mono ?_
        rintro e w3 ⟨⟨code, last, text, ok, rfl, hok, hgood⟩, hb3⟩
        have HS3 : Hid (PrSt w w2 w3 lv cd acc) := HS.out.after hb3
        have HB3 : Hid (Below w.heap.size w w3) := HBW.out.trans (hb3.mono (by omega))
        have hz3 := hb3.size
        obtain ⟨a0, a1, af, b0, b1, bf⟩ := HS3.out.facts
        have af0 := af 0
        have af1 := af 1
        have bf0 := bf 0
        have bf1 := bf 1
        clear af bf hb3
        cases hlr : lineR x with
        | false =>
          rw [hlr] at hok
          subst hok
          have G : Hid (parse s = .bad) := by
            show _ = _
            rw [HG.out, hlr]; rfl
          clear HG hgood hlr
          go_wp2
          refine bodyPost_ret (v := .tuple #[.agg #[.int .i64 0, .slice none 0 0], .int .i64 0, .int .i64 3]) (by simp [results, Tryz.results90, go_sem, a0, a1]) rfl ⟨⟨_, by rw [G.out]; rfl, by rw [G.out]; exact World.ownsRow_nil _ _ _ _⟩, ?_⟩
          repeat (refine Below.setCell ?_ (by simp) _)
          exact HB3.out
        | true =>
          rw [hlr] at hok
          subst hok
          obtain ⟨rfl, rfl, rfl⟩ := hgood hlr
          clear hgood
          rcases hcc with ⟨hi0, rfl⟩ | ⟨hpos, m, rfl, rfl⟩
          · have hii : ¬ (0 : Int) < i := by omega
            clear hi0
            have HG2 : Hid (parse s = if lastN x then .ok (codeN x) (acc ++ [textB x]) (u + (x.size + 2)) else prs q (some (codeN x)) (acc ++ [textB x]) (u + (x.size + 2)) (K.data.toList.drop (u + (x.size + 2)))) := by
              show _ = _
              rw [HG.out, hlr]; rfl
            clear HG hlr
            have hown' : ∀ ob, ((w3.setCell ⟨w.heap.size + 1, 0, none⟩ (.int .i64 (codeN x : Int))).alloc ob).ownsRow w2.heap.size 9 1 lv acc.length (acc.map Value.string) := fun ob => (ownsRow_setCell_below (show w3.ownsRow w2.heap.size 9 1 lv acc.length (acc.map Value.string) from HS3.out.own) (by show w.heap.size + 1 < _; omega) _).alloc ob
            have hlos := strs_lo HS3.out.own
            generalize textB x = TX at *
            go_wp2_with (at_builtin; refine wpList_append_lies _ rfl _ _ 23 rfl w2.heap.size 9 i0 (.string ⟨#[]⟩) 1 16 Tryz.underlying23 hi hz0 hz1 hz2 rfl (by decide) _ _ _ rfl (hown' _) ⟨w3.heap.size, 0, none⟩ 1 1 [.string TX] rfl rfl ?c1 ?c2 ?c3 ?c4 ?c5 ?c6 (w3.heap.size + 1) ?c7 ?_)
            case c1 =>
              intro j u hj
              match j, hj with
              | 0, hj =>
                simp at hj; subst hj
                rw [show (⟨w3.heap.size, 0, none⟩ : Addr).add 0 = ⟨w3.heap.size, 0, none⟩ from rfl, World.cell?_alloc_at _ _ _ _ (by simp)]; rfl
            case c2 => intro u hu; simp at hu; subst hu; rfl
            case c3 => decide
            case c4 => unfold maxLen; omega
            case c5 => omega
            case c6 => simp; omega
            case c7 => simp
            intro g' cap' w4 hown4 hgrow hat hlt4
            have HS4 : Hid (Strs w4 w2.heap.size (.slice (some ⟨g', 0, none⟩) (acc.length + 1) cap') (acc ++ [TX])) := strs_snoc hown4
            have hob : ∀ k, k < w2.heap.size → some k ≠ lv.ownBlock := fun k hk e => by have := hlos k e.symm; omega
            have blk4 : w4.heap[w.heap.size + 1]? = some (.cells #[.int .i64 (codeN x : Int), lv] 102 (0, 0)) := by
              rw [hgrow.block _ (by simp; omega) (hob _ (by omega)), Below.heap_alloc _ _ _ (by simp; omega), heap_setCell_same w3 (w.heap.size + 1) 0 _ _ _ HS3.out.blk]; rfl
            have bes4 : Bes w2.heap.size (w.heap.size + 1) w2 w4 := HS3.out.bes.trans ⟨hgrow.os, hgrow.tape, hgrow.output, by have := hgrow.size; simp at this; omega, fun k hk hne => by
              rw [hgrow.block k (by simp; omega) (hob k hk), Below.heap_alloc _ _ _ (by simp; omega), heap_setCell_other _ _ _ _ (by show k ≠ w.heap.size + 1; exact hne)]⟩
            have res4 : w4.heap[w.heap.size]? = some (.cells #[.int .i64 0, .slice none 0 0] 102 (0, 0)) := by rw [bes4.block _ (by omega) (by omega)]; exact HS3.out.res
            have c0 : w4.cell? ⟨w.heap.size, 0, none⟩ = some (.int .i64 0) := by simp [World.cell?, res4]
            have c1 : w4.cell? ⟨w.heap.size, 1, none⟩ = some (.slice none 0 0) := by simp [World.cell?, res4]
            have f0 : ∀ k, w4.frozen? ⟨w.heap.size, k, none⟩ = false := fun k => by simp [World.frozen?, res4]
            have e0 : w4.cell? ⟨w.heap.size + 1, 0, none⟩ = some (.int .i64 (codeN x : Int)) := by simp [World.cell?, blk4]
            have e1 : w4.cell? ⟨w.heap.size + 1, 1, none⟩ = some lv := by simp [World.cell?, blk4]
            have f1 : ∀ k, w4.frozen? ⟨w.heap.size + 1, k, none⟩ = false := fun k => by simp [World.frozen?, blk4]
            have f00 := f0 0
            have f01 := f0 1
            have f10 := f1 0
            have f11 := f1 1
            have HBS : Hid (Bes w2.heap.size (w.heap.size + 1) w2 w4) := bes4
            have HBK : Hid (w4.heap[w.heap.size + 1]? = some (.cells #[.int .i64 (codeN x : Int), lv] 102 (0, 0))) := blk4
            have HRS : Hid (w2.heap[w.heap.size]? = some (.cells #[.int .i64 0, .slice none 0 0] 102 (0, 0))) := HS3.out.res
            have HB4 : Hid (Below w.heap.size w w4) := HW2.out.trans (bes4.below (by omega) (by omega))
            clear hown4 hgrow hat hown' hlos hob blk4 bes4 res4 f0 f1 a0 a1 b0 b1 af0 af1 bf0 bf1
            cases hla : lastN x with
            | true =>
              have G : Hid (parse s = .ok (codeN x) (acc ++ [TX]) (u + (x.size + 2))) := by
                show _ = _
                rw [HG2.out, hla]; rfl
              clear HG2 hla
              go_wp2
              refine bodyPost_ret (v := .tuple #[.agg #[.int .i64 (codeN x : Int), .slice (some ⟨g', 0, none⟩) (acc.length + 1) cap'], .int .i64 ((u : Int) + ((x.size : Int) + 2)), .int .i64 2]) (by simp [results, Tryz.results90, go_sem, c0, c1]) rfl ⟨⟨.slice (some ⟨g', 0, none⟩) (acc.length + 1) cap', by rw [G.out]; simp [prCode, prUsed, prSt], ?_⟩, ?_⟩
              · rw [G.out]
                show Strs _ w.heap.size _ (acc ++ [TX])
                refine strs_le ?_ (show w.heap.size ≤ w2.heap.size by omega)
                repeat (refine strs_setCell ?_ (by simp; omega) _)
                exact HS4.out
              · repeat (refine Below.setCell ?_ (by simp) _)
                exact HB4.out
            | false =>
              have G : Hid (prs (50 - (i + 1)) (some (codeN x)) (acc ++ [TX]) (u + (x.size + 2)) (K.data.toList.drop (u + (x.size + 2))) = parse s) := by
                show _ = _
                rw [HG2.out, hla, show 50 - (i + 1) = q by omega]; rfl
              clear HG2 hla
              go_wp2
              go_roundw
              case rel =>
                refine ⟨i + 1, u + (x.size + 2), acc ++ [TX], some (codeN x), codeN x, .slice (some ⟨g', 0, none⟩) (acc.length + 1) cap', by omega, by go_num, by go_num, hu2, by simp; omega, by omega, G, HD2, .inr ⟨by omega, codeN x, rfl, rfl⟩, ⟨HRS.out, ?_, ?_, ?_, by omega⟩⟩
                · rw [heap_setCell_same w4 (w.heap.size + 1) 1 _ _ _ HBK.out]; rfl
                · exact strs_setCell HS4.out (by show w.heap.size + 1 < _; omega) _
                · exact HBS.out.trans ⟨rfl, rfl, rfl, by simp, fun k _ hne => heap_setCell_other _ _ _ _ hne⟩
              case measure => simp [intOf]; omega
          · have hii : (0 : Int) < i := by omega
            by_cases hm : m = codeN x
            · subst hm
              have HG2 : Hid (parse s = if lastN x then .ok (codeN x) (acc ++ [textB x]) (u + (x.size + 2)) else prs q (some (codeN x)) (acc ++ [textB x]) (u + (x.size + 2)) (K.data.toList.drop (u + (x.size + 2)))) := by
                show _ = _
                rw [HG.out, hlr]; simp
              clear HG hlr
              have hown' : ∀ ob, ((w3.setCell ⟨w.heap.size + 1, 0, none⟩ (.int .i64 (codeN x : Int))).alloc ob).ownsRow w2.heap.size 9 1 lv acc.length (acc.map Value.string) := fun ob => (ownsRow_setCell_below (show w3.ownsRow w2.heap.size 9 1 lv acc.length (acc.map Value.string) from HS3.out.own) (by show w.heap.size + 1 < _; omega) _).alloc ob
              have hlos := strs_lo HS3.out.own
              generalize textB x = TX at *
              go_wp2_with (at_builtin; refine wpList_append_lies _ rfl _ _ 23 rfl w2.heap.size 9 i0 (.string ⟨#[]⟩) 1 16 Tryz.underlying23 hi hz0 hz1 hz2 rfl (by decide) _ _ _ rfl (hown' _) ⟨w3.heap.size, 0, none⟩ 1 1 [.string TX] rfl rfl ?c1 ?c2 ?c3 ?c4 ?c5 ?c6 (w3.heap.size + 1) ?c7 ?_)
              case c1 =>
                intro j u hj
                match j, hj with
                | 0, hj =>
                simp at hj; subst hj
                rw [show (⟨w3.heap.size, 0, none⟩ : Addr).add 0 = ⟨w3.heap.size, 0, none⟩ from rfl, World.cell?_alloc_at _ _ _ _ (by simp)]; rfl
              case c2 => intro u hu; simp at hu; subst hu; rfl
              case c3 => decide
              case c4 => unfold maxLen; omega
              case c5 => omega
              case c6 => simp; omega
              case c7 => simp
              intro g' cap' w4 hown4 hgrow hat hlt4
              have HS4 : Hid (Strs w4 w2.heap.size (.slice (some ⟨g', 0, none⟩) (acc.length + 1) cap') (acc ++ [TX])) := strs_snoc hown4
              have hob : ∀ k, k < w2.heap.size → some k ≠ lv.ownBlock := fun k hk e => by have := hlos k e.symm; omega
              have blk4 : w4.heap[w.heap.size + 1]? = some (.cells #[.int .i64 (codeN x : Int), lv] 102 (0, 0)) := by
                rw [hgrow.block _ (by simp; omega) (hob _ (by omega)), Below.heap_alloc _ _ _ (by simp; omega), heap_setCell_same w3 (w.heap.size + 1) 0 _ _ _ HS3.out.blk]; rfl
              have bes4 : Bes w2.heap.size (w.heap.size + 1) w2 w4 := HS3.out.bes.trans ⟨hgrow.os, hgrow.tape, hgrow.output, by have := hgrow.size; simp at this; omega, fun k hk hne => by
                rw [hgrow.block k (by simp; omega) (hob k hk), Below.heap_alloc _ _ _ (by simp; omega), heap_setCell_other _ _ _ _ (by show k ≠ w.heap.size + 1; exact hne)]⟩
              have res4 : w4.heap[w.heap.size]? = some (.cells #[.int .i64 0, .slice none 0 0] 102 (0, 0)) := by rw [bes4.block _ (by omega) (by omega)]; exact HS3.out.res
              have c0 : w4.cell? ⟨w.heap.size, 0, none⟩ = some (.int .i64 0) := by simp [World.cell?, res4]
              have c1 : w4.cell? ⟨w.heap.size, 1, none⟩ = some (.slice none 0 0) := by simp [World.cell?, res4]
              have f0 : ∀ k, w4.frozen? ⟨w.heap.size, k, none⟩ = false := fun k => by simp [World.frozen?, res4]
              have e0 : w4.cell? ⟨w.heap.size + 1, 0, none⟩ = some (.int .i64 (codeN x : Int)) := by simp [World.cell?, blk4]
              have e1 : w4.cell? ⟨w.heap.size + 1, 1, none⟩ = some lv := by simp [World.cell?, blk4]
              have f1 : ∀ k, w4.frozen? ⟨w.heap.size + 1, k, none⟩ = false := fun k => by simp [World.frozen?, blk4]
              have f00 := f0 0
              have f01 := f0 1
              have f10 := f1 0
              have f11 := f1 1
              have HBS : Hid (Bes w2.heap.size (w.heap.size + 1) w2 w4) := bes4
              have HBK : Hid (w4.heap[w.heap.size + 1]? = some (.cells #[.int .i64 (codeN x : Int), lv] 102 (0, 0))) := blk4
              have HRS : Hid (w2.heap[w.heap.size]? = some (.cells #[.int .i64 0, .slice none 0 0] 102 (0, 0))) := HS3.out.res
              have HB4 : Hid (Below w.heap.size w w4) := HW2.out.trans (bes4.below (by omega) (by omega))
              clear hown4 hgrow hat hown' hlos hob blk4 bes4 res4 f0 f1 a0 a1 b0 b1 af0 af1 bf0 bf1
              cases hla : lastN x with
              | true =>
                have G : Hid (parse s = .ok (codeN x) (acc ++ [TX]) (u + (x.size + 2))) := by
                  show _ = _
                  rw [HG2.out, hla]; rfl
                clear HG2 hla
                go_wp2
                refine bodyPost_ret (v := .tuple #[.agg #[.int .i64 (codeN x : Int), .slice (some ⟨g', 0, none⟩) (acc.length + 1) cap'], .int .i64 ((u : Int) + ((x.size : Int) + 2)), .int .i64 2]) (by simp [results, Tryz.results90, go_sem, c0, c1]) rfl ⟨⟨.slice (some ⟨g', 0, none⟩) (acc.length + 1) cap', by rw [G.out]; simp [prCode, prUsed, prSt], ?_⟩, ?_⟩
                · rw [G.out]
                  show Strs _ w.heap.size _ (acc ++ [TX])
                  refine strs_le ?_ (show w.heap.size ≤ w2.heap.size by omega)
                  repeat (refine strs_setCell ?_ (by simp; omega) _)
                  exact HS4.out
                · repeat (refine Below.setCell ?_ (by simp) _)
                  exact HB4.out
              | false =>
                have G : Hid (prs (50 - (i + 1)) (some (codeN x)) (acc ++ [TX]) (u + (x.size + 2)) (K.data.toList.drop (u + (x.size + 2))) = parse s) := by
                  show _ = _
                  rw [HG2.out, hla, show 50 - (i + 1) = q by omega]; rfl
                clear HG2 hla
                go_wp2
                go_roundw
                case rel =>
                  refine ⟨i + 1, u + (x.size + 2), acc ++ [TX], some (codeN x), codeN x, .slice (some ⟨g', 0, none⟩) (acc.length + 1) cap', by omega, by go_num, by go_num, hu2, by simp; omega, by omega, G, HD2, .inr ⟨by omega, codeN x, rfl, rfl⟩, ⟨HRS.out, ?_, ?_, ?_, by omega⟩⟩
                  · rw [heap_setCell_same w4 (w.heap.size + 1) 1 _ _ _ HBK.out]; rfl
                  · exact strs_setCell HS4.out (by show w.heap.size + 1 < _; omega) _
                  · exact HBS.out.trans ⟨rfl, rfl, rfl, by simp, fun k _ hne => heap_setCell_other _ _ _ _ hne⟩
                case measure => simp [intOf]; omega
            · have hneq : ((codeN x : Int) != (m : Int)) = true := by rw [bne_iff_ne]; omega
              have G : Hid (parse s = .bad) := by
                show _ = _
                rw [HG.out, hlr]; simp [hm]
              clear HG hlr
              go_wp2
              refine bodyPost_ret (v := .tuple #[.agg #[.int .i64 0, .slice none 0 0], .int .i64 0, .int .i64 3]) (by simp [results, Tryz.results90, go_sem, a0, a1]) rfl ⟨⟨_, by rw [G.out]; rfl, by rw [G.out]; exact World.ownsRow_nil _ _ _ _⟩, ?_⟩
              repeat (refine Below.setCell ?_ (by simp) _)
              exact HB3.out
end Go.Proofs.YtngcjlghjidnjaaGreatDoor
