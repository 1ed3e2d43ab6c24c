import Derived.Test.YthblkfdgibonbaaIPrs
import Derived.Deep.RegionHeld3
import Derived.Deep.DrawnRows
namespace Go.Proofs.Ythblkfdgibonbaa
open Go.ChangeShapes Go.WideShapes Go.ChangeAt Go.RowKit
open Pcs

theorem specHasJ (s : ByteArray) (c : Int) (w : World) (hc : 0 ≤ c) (hs : s.size ≤ 1048576) :
    Calls Try.prog 31 #[.string s, .int .u8 c] w fun e w' => e = .returned (.bool (hasN s c.toNat)) ∧ w' = w := by
  have h := specHas s c.toNat w hs
  rw [Int.toNat_of_nonneg hc] at h; exact h

/-- what l2line answers -/
def LinOut (s : ByteArray) (code : Int) (last : Bool) (text : ByteArray) (ok : Bool) : Prop := ok = lineR s ∧ (lineR s = true → code = codeN s ∧ last = lastN s ∧ text = textB s)
def LinRes (s : ByteArray) (e : Ending) : Prop := ∃ (code : Int) (last : Bool) (text : ByteArray) (ok : Bool), e = .returned (.tuple #[.int .i64 code, .bool last, .string text, .bool ok]) ∧ LinOut s code last text ok
theorem lin_no {s : ByteArray} (h : lineR s = false) (c : Int) (l : Bool) (t : ByteArray) : LinOut s c l t false := ⟨h.symm, fun e => by rw [h] at e; cases e⟩
theorem numN_three (s : ByteArray) : numN s 3 = codeN s := by simp [numN, codeN]
theorem lineR_nodig {s : ByteArray} {k : Nat} (hk : k < 3) (h : digN (byteOf s k) = false) : lineR s = false := by
  unfold lineR
  match k, hk with
  | 0, _ => rw [h]; simp
  | 1, _ => rw [h]; simp
  | 2, _ => rw [h]; simp
theorem lineR_rest2 {c : ByteArray} (h1 : c.size ≤ 510) (h2 : brkN c = false) (h3 : 3 ≤ c.size) (hd : ∀ j, j < 3 → digN (byteOf c j) = true) :
    lineR c = (decide (50 ≤ byteOf c 0) && (decide (byteOf c 0 ≤ 53) && (decide (c.size = 3) || (byteOf c 3 == 32 || byteOf c 3 == 45)))) := by
  rw [lineR_rest h1 h2 h3, dig3 h3, hd 0 (by decide), hd 1 (by decide), hd 2 (by decide)]; simp

set_option maxHeartbeats 4000000 in
set_option maxRecDepth 100000 in
theorem specLine (s : ByteArray) (w : World) (hs : s.size ≤ 1048576) :
    Calls Try.prog 32 #[.string s] w fun e w' => LinRes s e ∧ Below w.heap.size w w' := by
  have k13 : hasN s (13 : Int).toNat = hasN s 13 := rfl
  have k10 : hasN s (10 : Int).toNat = hasN s 10 := rfl
  by_cases hno : brkN s = true ∨ 510 < s.size ∨ s.size < 3
  · have G : Hid (∀ c l t, LinOut s c l t false) := fun c l t => lin_no (by
      rcases hno with h | h | h
      · exact lineR_brk h
      · exact lineR_long h
      · exact lineR_short h) c l t
    have HB : Hid (brkN s = (hasN s 13 || hasN s 10)) := rfl
    go_enter Try.func32, Try.ntmps32
    go_wp2_with fail
    refine (specHasJ s _ _ (by decide) hs).mono ?_
    rintro e w' ⟨rfl, hw⟩
    rw [hw, k13]
    clear hw
    cases h13 : hasN s 13 with
    | true =>
      clear hno
      go_wp2
      exact bodyPost_ret (v := .tuple #[.int .i64 0, .bool false, .string ⟨#[]⟩, .bool false]) (by simp [results, Try.results32, go_sem]) rfl ⟨⟨_, _, _, _, rfl, G.out _ _ _⟩, Below.refl _ _⟩
    | false =>
      go_wp2_with fail
      refine (specHasJ s _ _ (by decide) hs).mono ?_
      rintro e w' ⟨rfl, hw⟩
      rw [hw, k10]
      clear hw
      cases h10 : hasN s 10 with
      | true =>
        clear hno
        go_wp2
        exact bodyPost_ret (v := .tuple #[.int .i64 0, .bool false, .string ⟨#[]⟩, .bool false]) (by simp [results, Try.results32, go_sem]) rfl ⟨⟨_, _, _, _, rfl, G.out _ _ _⟩, Below.refl _ _⟩
      | false =>
        have hno2 : 510 < s.size ∨ s.size < 3 := by
          rcases hno with h | h
          · rw [HB.out, h13, h10] at h; cases h
          · exact h
        clear hno
        by_cases hbig : 510 < s.size
        · go_wp2
          exact bodyPost_ret (v := .tuple #[.int .i64 0, .bool false, .string ⟨#[]⟩, .bool false]) (by simp [results, Try.results32, go_sem]) rfl ⟨⟨_, _, _, _, rfl, G.out _ _ _⟩, Below.refl _ _⟩
        · have hsm : s.size < 3 := by omega
          go_wp2
          exact bodyPost_ret (v := .tuple #[.int .i64 0, .bool false, .string ⟨#[]⟩, .bool false]) (by simp [results, Try.results32, go_sem]) rfl ⟨⟨_, _, _, _, rfl, G.out _ _ _⟩, Below.refl _ _⟩
  · have hb : brkN s = false := by
      cases h : brkN s with
      | true => exact absurd (.inl h) hno
      | false => rfl
    have h510 : s.size ≤ 510 := by omega
    have h3 : 3 ≤ s.size := by omega
    have h13 : hasN s 13 = false := by
      cases h : hasN s 13 with
      | true => unfold brkN at hb; rw [h] at hb; cases hb
      | false => rfl
    have h10 : hasN s 10 = false := by
      cases h : hasN s 10 with
      | true => unfold brkN at hb; rw [h, Bool.or_true] at hb; cases hb
      | false => rfl
    have HR2 : Hid ((∀ j, j < 3 → digN (byteOf s j) = true) → lineR s = (decide (50 ≤ byteOf s 0) && (decide (byteOf s 0 ≤ 53) && (decide (s.size = 3) || (byteOf s 3 == 32 || byteOf s 3 == 45))))) := fun h => lineR_rest2 h510 hb h3 h
    clear hno hb
    go_enter Try.func32, Try.ntmps32
    go_wp2_with (go_at_call 31; refine (specHasJ s _ _ (by decide) hs).mono ?_; rintro e w' ⟨rfl, hw⟩; rw [hw]; first | rw [k13, h13] | rw [k10, h10])
    clear k13 k10 h13 h10
    go_loop [6, 7] (fun nv i => ∃ k : Nat, k ≤ 3 ∧ i = .int .i64 k ∧ nv = .int .i64 (numN s k) ∧ Hid (∀ j, j < k → digN (byteOf s j) = true)) (fun _ i => 3 - (intOf i).toNat)
    case atStart => exact ⟨0, Nat.zero_le _, rfl, rfl, fun j h => absurd h (Nat.not_lt_zero _)⟩
    case round =>
      obtain ⟨k, hk, rfl, rfl, HD⟩ := hrel
      have hn : numN s k < 1000 := by
        have b : ∀ j, j < k → byteOf s j - 48 ≤ 9 := fun j hj => by
          have := HD.out j hj
          simp only [digN, Bool.and_eq_true, decide_eq_true_eq] at this; omega
        match k, hk with
        | 0, _ => simp [numN]
        | 1, _ => simp only [numN]; have := b 0 (by decide); omega
        | 2, _ => simp only [numN]; have := b 0 (by decide); have := b 1 (by decide); omega
        | 3, _ => simp only [numN]; have := b 0 (by decide); have := b 1 (by decide); have := b 2 (by decide); omega
      by_cases hlt : k < 3
      · have hks : k < s.size := by omega
        have hksi : (k : Int) < s.size := by omega
        have HB : Hid (byteOf s k = s[k].toNat) := byteOf_eq s k hks
        by_cases hlo : (s[k].toNat : Int) < 48
        · have G : Hid (∀ c l t, LinOut s c l t false) := fun c l t => lin_no (lineR_nodig hlt (by rw [HB.out]; simp [digN]; omega)) c l t
          go_wp2
          exact bodyPost_ret (v := .tuple #[.int .i64 0, .bool false, .string ⟨#[]⟩, .bool false]) (by simp [results, Try.results32, go_sem]) rfl ⟨⟨_, _, _, _, rfl, G.out _ _ _⟩, Below.refl _ _⟩
        · by_cases hhi : (57 : Int) < s[k].toNat
          · have G : Hid (∀ c l t, LinOut s c l t false) := fun c l t => lin_no (lineR_nodig hlt (by rw [HB.out]; simp [digN]; omega)) c l t
            have g3 : (48 : Int) ≤ s[k].toNat := by omega
            clear hlo HR2 hn
            go_wp2
            exact bodyPost_ret (v := .tuple #[.int .i64 0, .bool false, .string ⟨#[]⟩, .bool false]) (by simp [results, Try.results32, go_sem]) rfl ⟨⟨_, _, _, _, rfl, G.out _ _ _⟩, Below.refl _ _⟩
          · have G : Hid (∀ j, j < k + 1 → digN (byteOf s j) = true) := by
              intro j hj
              rcases Nat.lt_succ_iff_lt_or_eq.1 hj with hj | rfl
              · exact HD.out j hj
              · rw [HB.out]; simp [digN]; omega
            have g3 : (48 : Int) ≤ s[k].toNat := by omega
            have g4 : (s[k].toNat : Int) ≤ 57 := by omega
            clear hlo hhi HR2
            go_wp2
            go_round
            case rel => exact ⟨k + 1, by omega, by go_num, by rw [numN, HB.out]; go_num, G.out⟩
            case measure => simp [intOf]; omega
      · obtain rfl : k = 3 := by omega
        have HR := HR2.out HD.out
        have HCN : Hid (numN s 3 = codeN s) := numN_three s
        have b0 := HD.out 0 (by decide)
        have b1 := HD.out 1 (by decide)
        have b2 := HD.out 2 (by decide)
        simp only [digN, Bool.and_eq_true, decide_eq_true_eq] at b0 b1 b2
        have hnum : numN s 3 = ((byteOf s 0 - 48) * 10 + (byteOf s 1 - 48)) * 10 + (byteOf s 2 - 48) := numN_three s
        have HLO : Hid (numN s 3 < 200 → lineR s = false) := fun h => by rw [HR, decide_eq_false (p := 50 ≤ byteOf s 0) (by omega)]; rfl
        have HHI : Hid (599 < numN s 3 → lineR s = false) := fun h => by rw [HR, decide_eq_false (p := byteOf s 0 ≤ 53) (by omega)]; simp
        have HMID : Hid (200 ≤ numN s 3 → numN s 3 ≤ 599 → lineR s = (decide (s.size = 3) || (byteOf s 3 == 32 || byteOf s 3 == 45))) := fun h1 h2 => by
          rw [HR, decide_eq_true (p := 50 ≤ byteOf s 0) (by omega), decide_eq_true (p := byteOf s 0 ≤ 53) (by omega)]; simp
        clear HR HR2 b0 b1 b2 hnum HD hlt
        generalize numN s 3 = N at *
        by_cases hlo : N < 200
        · have G : Hid (∀ c l t, LinOut s c l t false) := fun c l t => lin_no (HLO.out hlo) c l t
          go_wp2
          exact bodyPost_ret (v := .tuple #[.int .i64 0, .bool false, .string ⟨#[]⟩, .bool false]) (by simp [results, Try.results32, go_sem]) rfl ⟨⟨_, _, _, _, rfl, G.out _ _ _⟩, Below.refl _ _⟩
        · by_cases hhi : 599 < N
          · have G : Hid (∀ c l t, LinOut s c l t false) := fun c l t => lin_no (HHI.out hhi) c l t
            go_wp2
            exact bodyPost_ret (v := .tuple #[.int .i64 0, .bool false, .string ⟨#[]⟩, .bool false]) (by simp [results, Try.results32, go_sem]) rfl ⟨⟨_, _, _, _, rfl, G.out _ _ _⟩, Below.refl _ _⟩
          · have HM := HMID.out (by omega) (by omega)
            clear HLO HHI HMID
            by_cases he : (s.size : Int) = 3
            · have G : Hid (LinOut s N true ⟨#[]⟩ true) := by
                have e1 : lineR s = true := by rw [HM, decide_eq_true (by omega)]; rfl
                refine ⟨e1.symm, fun _ => ⟨by rw [HCN.out], ?_, ?_⟩⟩
                · unfold lastN; rw [decide_eq_true (by omega)]; rfl
                · unfold textB; rw [Nat.min_eq_right (by omega)]; simp; rfl
              clear HM
              go_wp2
              exact bodyPost_ret (v := .tuple #[.int .i64 (N : Int), .bool true, .string ⟨#[]⟩, .bool true]) (by simp [results, Try.results32, go_sem]) rfl ⟨⟨_, _, _, _, rfl, G.out⟩, Below.refl _ _⟩
            · have heb : ((s.size : Int) == 3) = false := beq_eq_false_iff_ne.2 he
              have h4 : 3 < s.size := by omega
              have h4i : (3 : Int) < s.size := by omega
              have h4j : (4 : Int) ≤ s.size := by omega
              have B3 := byteOf_eq s 3 h4
              have G : Hid (LinOut s N (((s[3]'h4).toNat : Int) == 32) (s.extract 4 s.size) ((((s[3]'h4).toNat : Int) == 32) || (((s[3]'h4).toNat : Int) == 45))) := by
                have q32 : (((s[3]'h4).toNat : Int) == 32) = (byteOf s 3 == 32) := by rw [B3, Bool.eq_iff_iff, beq_iff_eq, beq_iff_eq]; omega
                have q45 : (((s[3]'h4).toNat : Int) == 45) = (byteOf s 3 == 45) := by rw [B3, Bool.eq_iff_iff, beq_iff_eq, beq_iff_eq]; omega
                rw [q32, q45]
                refine ⟨?_, fun _ => ⟨by rw [HCN.out], ?_, ?_⟩⟩
                · rw [HM, decide_eq_false (by omega)]; rfl
                · unfold lastN; rw [decide_eq_false (by omega)]; rfl
                · unfold textB; rw [Nat.min_eq_left (by omega)]
              clear HM B3
              have hix : ∀ wx, (Instr.index 9 (.string s) (.int .i64 3)).run Try.prog wx = .ok (.int .u8 ((s[3]'h4).toNat : Int)) wx := by
                intro wx
                rw [run_index_string wx 9 _ _ _ Try.underlying9, dif_pos ⟨by decide, h4i⟩]
                rfl
              have hsl : ∀ wx, (Instr.slice 9 (.string s) (some (.int .i64 4)) none none).run Try.prog wx = .ok (.string (s.extract 4 s.size)) wx := by
                intro wx
                rw [run_slice_string_from_if wx 9 s .i64 4 Try.underlying9, if_pos (by omega)]
                rfl
              by_cases h32 : ((s[3]'h4).toNat : Int) = 32
              · have h32b : (((s[3]'h4).toNat : Int) == 32) = true := beq_iff_eq.2 h32
                have G' : Hid (LinOut s N true (s.extract 4 s.size) true) := by
                  have := G.out
                  rw [h32b] at this; exact this
                rw [h32] at hix
                clear G h32 h32b
                go_upto_region 14 with fail
                go_quiet (fail)
                go_wp2
                exact bodyPost_ret (v := .tuple #[.int .i64 (N : Int), .bool true, .string (s.extract 4 s.size), .bool true]) (by simp [results, Try.results32, go_sem]) rfl ⟨⟨_, _, _, _, rfl, G'.out⟩, drew_below' (Below.refl _ _) _⟩
              · have h32b : (((s[3]'h4).toNat : Int) == 32) = false := beq_eq_false_iff_ne.2 h32
                have G' : Hid (LinOut s N false (s.extract 4 s.size) (((s[3]'h4).toNat : Int) == 45)) := by
                  have := G.out
                  rw [h32b, Bool.false_or] at this; exact this
                clear G
                go_upto_region 14 with fail
                go_quiet (fail)
                go_wp2
                exact bodyPost_ret (v := .tuple #[.int .i64 (N : Int), .bool false, .string (s.extract 4 s.size), .bool (((s[3]'h4).toNat : Int) == 45)]) (by simp [results, Try.results32, go_sem]) rfl ⟨⟨_, _, _, _, rfl, G'.out⟩, drew_below' (Below.refl _ _) _⟩
end Go.Proofs.Ythblkfdgibonbaa
