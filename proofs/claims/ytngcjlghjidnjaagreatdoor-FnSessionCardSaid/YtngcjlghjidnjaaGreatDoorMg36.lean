import Derived.Test.YtngcjlghjidnjaaGreatDoorMg17
import Derived.Test.YtngcjlghjidnjaaGreatDoorMg8
import Derived.Test.YtngcjlghjidnjaaGreatDoorMg23
import Derived.Test.YtngcjlghjidnjaaGreatDoorMg15
import Derived.Test.YtngcjlghjidnjaaGreatDoorMg35
namespace Go.Proofs.YtngcjlghjidnjaaGreatDoor
open Go.ChangeShapes Go.WideShapes Go.ChangeAt Go.RowKit

set_option maxHeartbeats 1000000 in
set_option maxRecDepth 100000 in
theorem sameT (v1 v2 : Value) (L : List ByteArray) (w : World) (h1 : ArgS w v1 L) (h2 : ArgS w v2 L) :
    Calls Tryz.prog 35 #[v1, v2] w fun e w' => e = .returned (.bool true) ∧ Below w.heap.size w w' := by
  obtain ⟨hL, _, hf1⟩ := h1
  obtain ⟨_, _, hf2⟩ := h2
  unfold maxLen at hL
  by_cases h0 : L = []
  · subst h0
    obtain ⟨a1, c1, rfl⟩ : ∃ a c, v1 = .slice a 0 c := by
      rcases hf1 with ⟨_, h⟩ | ⟨b, off, cap, rfl, _⟩
      · exact h
      · exact ⟨_, _, rfl⟩
    obtain ⟨a2, c2, rfl⟩ : ∃ a c, v2 = .slice a 0 c := by
      rcases hf2 with ⟨_, h⟩ | ⟨b, off, cap, rfl, _⟩
      · exact h
      · exact ⟨_, _, rfl⟩
    clear hf1 hf2
    go_enter Tryz.func35, Tryz.ntmps35
    go_wp2
    refine wp_loop_rounds 1 ?_; rw [rounds_succ]
    go_wp2
    go_ret
    exact ⟨rfl, Below.refl _ _⟩
  · obtain ⟨g1, o1, c1, hv1, hc1⟩ : ∃ b off cap, v1 = .slice (some ⟨b, off, none⟩) L.length cap ∧ ∀ i (hi : i < L.length), w.cell? ⟨b, off + i, none⟩ = some (.string L[i]) := by
      rcases hf1 with ⟨h, _⟩ | ⟨b, off, cap, hv, _, hc⟩
      · exact absurd h h0
      · exact ⟨b, off, cap, hv, hc⟩
    obtain ⟨g2, o2, c2, hv2, hc2⟩ : ∃ b off cap, v2 = .slice (some ⟨b, off, none⟩) L.length cap ∧ ∀ i (hi : i < L.length), w.cell? ⟨b, off + i, none⟩ = some (.string L[i]) := by
      rcases hf2 with ⟨h, _⟩ | ⟨b, off, cap, hv, _, hc⟩
      · exact absurd h h0
      · exact ⟨b, off, cap, hv, hc⟩
    have HC1 : Hid (∀ i (hi : i < L.length), w.cell? ⟨g1, o1 + i, none⟩ = some (.string L[i])) := hc1
    have HC2 : Hid (∀ i (hi : i < L.length), w.cell? ⟨g2, o2 + i, none⟩ = some (.string L[i])) := hc2
    subst hv1 hv2
    clear hf1 hf2 hc1 hc2
    go_enter Tryz.func35, Tryz.ntmps35
    go_wp2
    go_loop [5, 6, 14] (fun _ _ i => ∃ k : Nat, k ≤ L.length ∧ i = .int .i64 k) (fun _ _ i => L.length - (intOf i).toNat)
    case atStart => exact ⟨0, Nat.zero_le _, rfl⟩
    case round =>
      obtain ⟨k, hk, rfl⟩ := hrel
      by_cases hlt : k < L.length
      · have e1 := HC1.out k hlt
        have e2 := HC2.out k hlt
        generalize L[k] = X at e1 e2
        go_wp2
        go_round
        case rel => exact ⟨k + 1, by omega, by go_num⟩
        case measure => simp [intOf]; omega
      · go_wp2
        go_ret
        exact ⟨rfl, Below.refl _ _⟩
end Go.Proofs.YtngcjlghjidnjaaGreatDoor
namespace Go.Proofs.YtngcjlghjidnjaaGreatDoor
open Go.ChangeShapes Go.WideShapes Go.ChangeAt Go.RowKit
attribute [local go_sem ↓] Go.wp_at_zero Go.wp_at_succ

theorem bel_drewS {B : Nat} {w wr : World} (h : Below B w wr) (n : Nat) : Below B w (wr.drewN n) := ⟨h.os, h.tape, h.output, h.size, h.block⟩
theorem vds_form4 {w : World} {lo : Nat} {v : Value} {L : List Vd} (h : Vds w lo v L) : ∃ a c, v = .slice a L.length c := by
  rcases h.cases with ⟨e, e0⟩ | ⟨g, k, e, _⟩
  · exact ⟨none, 0, by rw [e, e0]; rfl⟩
  · exact ⟨_, _, e⟩
set_option maxHeartbeats 2000000 in
set_option maxRecDepth 100000 in
theorem sameV (v1 v2 : Value) (L : List Vd) (lo lo' : Nat) (w : World) (h1 : Vds w lo v1 L) (h2 : Vds w lo' v2 L) (hL : L.length ≤ 1048576) :
    Calls Tryz.prog 36 #[v1, v2] w fun e w' => e = .returned (.bool true) ∧ Below w.heap.size w w' := by
  by_cases h0 : L = []
  · subst h0
    obtain ⟨a1, c1, rfl⟩ : ∃ a c, v1 = .slice a 0 c := by
      rcases h1.cases with ⟨e, _⟩ | ⟨g, cap, e, _⟩
      · exact ⟨_, _, e⟩
      · exact ⟨_, _, e⟩
    obtain ⟨a2, c2, rfl⟩ : ∃ a c, v2 = .slice a 0 c := by
      rcases h2.cases with ⟨e, _⟩ | ⟨g, cap, e, _⟩
      · exact ⟨_, _, e⟩
      · exact ⟨_, _, e⟩
    clear h1 h2
    go_enter Tryz.func36, Tryz.ntmps36
    go_wp2
    refine wp_loop_rounds 1 ?_; rw [rounds_succ]
    go_wp2
    go_ret
    exact ⟨rfl, Below.refl _ _⟩
  · obtain ⟨g1, c1, hv1, VA⟩ : ∃ g cap, v1 = .slice (some ⟨g, 0, none⟩) L.length cap ∧ VdsAt w lo g cap L := by
      rcases h1.cases with ⟨_, e⟩ | h
      · exact absurd e h0
      · exact h
    obtain ⟨g2, c2, hv2, VB⟩ : ∃ g cap, v2 = .slice (some ⟨g, 0, none⟩) L.length cap ∧ VdsAt w lo' g cap L := by
      rcases h2.cases with ⟨_, e⟩ | h
      · exact absurd e h0
      · exact h
    have HA : Hid (Vds w lo v1 L) := h1
    have HB : Hid (Vds w lo' v2 L) := h2
    subst hv1 hv2
    clear h1 h2 VA VB
    go_enter Tryz.func36, Tryz.ntmps36
    go_wp2
    go_loopw [5, 6, 14] (fun _ _ i wr => ∃ k : Nat, k ≤ L.length ∧ i = .int .i64 k ∧ Below w.heap.size w wr) (fun _ _ i _ => L.length - (intOf i).toNat)
    case atStart => exact ⟨0, Nat.zero_le _, rfl, Below.refl _ _⟩
    case round =>
      obtain ⟨k, hk, rfl, hb⟩ := hrel
      by_cases hlt : k < L.length
      · have VA := (vds_below HA.out hb (Nat.le_refl _)).at.1
        have VB := (vds_below HB.out hb (Nat.le_refl _)).at.1
        obtain ⟨d0, d1, d2⟩ := VA.cell k hlt
        obtain ⟨e0, e1, e2⟩ := VB.cell k hlt
        have l1 := VA.lt
        have l2 := VB.lt
        generalize L[k] = X at d0 d1 d2 e0 e1 e2
        clear VA VB
        go_wp2_with fail
        go_quiet (fail)
        go_wp2
        go_roundw
        case rel => exact ⟨k + 1, by omega, by go_num, bel_drewS (hb.alloc hb.size _) _⟩
        case measure => simp [intOf]; omega
      · go_wp2
        go_ret
        exact ⟨rfl, hb⟩
set_option maxHeartbeats 4000000 in
set_option maxRecDepth 100000 in
theorem sameSess (s : Sn) (u1 u2 u3 v1 v2 v3 : Value) (lo lo' : Nat) (w : World) (h : SV w lo u1 u2 u3 s) (k : SV w lo' v1 v2 v3 s) (hR : s.R.length ≤ 20) (hT : s.T.length ≤ 20) (hV : s.V.length ≤ 20) (hs : ∀ x ∈ s.R, x.size ≤ 1048576) :
    Calls Tryz.prog 9 #[.agg #[.int .i64 s.ph, .string s.buf, .string s.he, .string s.fr, .string s.bo, u1, .int .i64 (s.nx : Int), u2, u3], .agg #[.int .i64 s.ph, .string s.buf, .string s.he, .string s.fr, .string s.bo, v1, .int .i64 (s.nx : Int), v2, v3]] w fun e w' => e = .returned (.bool true) ∧ Below w.heap.size w w' := by
  obtain ⟨p1, q1, hp1⟩ := strs_form2 h.1
  obtain ⟨p2, q2, hp2⟩ := bls_form h.2.1
  obtain ⟨p3, q3, hp3⟩ := vds_form4 h.2.2
  obtain ⟨r1, t1, hr1⟩ := strs_form2 k.1
  obtain ⟨r2, t2, hr2⟩ := bls_form k.2.1
  obtain ⟨r3, t3, hr3⟩ := vds_form4 k.2.2
  subst hp1 hp2 hp3 hr1 hr2 hr3
  have H : Hid (SV w lo _ _ _ s) := h
  have K : Hid (SV w lo' _ _ _ s) := k
  have HS : Hid (∀ x ∈ s.R, x.size ≤ maxLen) := fun x hx => by have := hs x hx; unfold maxLen; omega
  clear h k hs
  go_enter Tryz.func9, Tryz.ntmps9
  go_wp2_with fail
  generalize hW : World.alloc _ _ = W
  have HA : Hid (SB w.heap.size s (.slice p1 s.R.length q1) (.slice p2 s.T.length q2) (.slice p3 s.V.length q3) W) := by show SB _ _ _ _ _ _; rw [← hW]; exact (blk2 w _ _ _ _).1
  have HB : Hid (SB (w.heap.size + 1) s (.slice r1 s.R.length t1) (.slice r2 s.T.length t2) (.slice r3 s.V.length t3) W) := by show SB _ _ _ _ _ _; rw [← hW]; exact (blk2 w _ _ _ _).2
  have b0 : Below w.heap.size w W := by rw [← hW]; exact below2 _ _ _
  clear hW
  obtain ⟨d0, d1, d2, d3, d4, d5, d6, d7, d8⟩ := HA.out.cells
  obtain ⟨e0, e1, e2, e3, e4, e5, e6, e7, e8⟩ := HB.out.cells
  go_loop [5, 6, 59] (fun _ _ i => ∃ k : Nat, k ≤ s.T.length ∧ i = .int .i64 k) (fun _ _ i => s.T.length - (intOf i).toNat)
  case atStart => exact ⟨0, Nat.zero_le _, rfl⟩
  case round =>
    obtain ⟨k, hk, rfl⟩ := hrel
    by_cases hlt : k < s.T.length
    · have TA0 := bls_below H.out.2.1 b0 (Nat.le_refl _)
      have TB0 := bls_below K.out.2.1 b0 (Nat.le_refl _)
      obtain ⟨g1, rfl⟩ : ∃ g, p2 = some ⟨g, 0, none⟩ := by
        rcases TA0.cases with ⟨_, e⟩ | ⟨g, cap, e, _⟩
        · rw [e] at hlt; exact absurd hlt (by simp)
        · injection e with e _; exact ⟨g, e⟩
      obtain ⟨g2, rfl⟩ : ∃ g, r2 = some ⟨g, 0, none⟩ := by
        rcases TB0.cases with ⟨_, e⟩ | ⟨g, cap, e, _⟩
        · rw [e] at hlt; exact absurd hlt (by simp)
        · injection e with e _; exact ⟨g, e⟩
      have c1 := TA0.at.1.cell k hlt
      have c2 := TB0.at.1.cell k hlt
      generalize s.T[k] = X at c1 c2
      clear TA0 TB0
      go_wp2
      go_round
      case rel => exact ⟨k + 1, by omega, by go_num⟩
      case measure => simp [intOf]; omega
    · go_wp2_with fail
      refine (sameT _ _ s.R W (strs_args (strs_below H.out.1 b0 (Nat.le_refl _)) (by unfold maxLen; omega) HS.out) (strs_args (strs_below K.out.1 b0 (Nat.le_refl _)) (by unfold maxLen; omega) HS.out)).mono ?_
      rintro e w1 ⟨rfl, hb1⟩
      have b1 : Below w.heap.size w w1 := b0.trans (hb1.mono b0.size)
      clear d0 d1 d2 d3 d4 d5 d6 d7 d8 e0 e1 e2 e3 e4 e5 e6 e7 e8
      obtain ⟨_, _, _, _, _, _, _, _, d8⟩ := (SB.below HA.out hb1).cells
      obtain ⟨_, _, _, _, _, _, _, _, e8⟩ := (SB.below HB.out hb1).cells
      go_wp2_with fail
      refine (sameV _ _ s.V lo lo' w1 (vds_below H.out.2.2 b1 (Nat.le_refl _)) (vds_below K.out.2.2 b1 (Nat.le_refl _)) (by omega)).mono ?_
      rintro e w2 ⟨rfl, hb2⟩
      go_wp2
      go_ret
      exact ⟨rfl, b1.trans (hb2.mono b1.size)⟩
end Go.Proofs.YtngcjlghjidnjaaGreatDoor
namespace Go.Proofs.YtngcjlghjidnjaaGreatDoor
open Go.ChangeShapes Go.WideShapes Go.ChangeAt Go.RowKit
open Pcs

theorem occ_false_far {s p : List UInt8} {j : Nat} (hp : p ≠ []) (h : s.length < j + p.length) : Lib.occAt s p j = false := by
  rw [Bool.eq_false_iff]; intro e
  rcases Lib.occAt_room e with h1 | h1
  · omega
  · exact hp h1
set_option maxHeartbeats 1000000 in
set_option maxRecDepth 100000 in
theorem lawAt (s sep : ByteArray) (w : World) (hs : s.size ≤ 1048576) (h1 : 1 ≤ sep.size) (h2 : sep.size ≤ 1048576) :
    Calls Tryz.prog 51 #[.string s, .string sep, .int .i64 0] w fun e w' => e = .returned (.int .i64 (Lib.index s.data.toList sep.data.toList)) ∧ Below w.heap.size w w' := by
  have hne : sep.data.toList ≠ [] := ne_nil h1
  go_enter Tryz.func51, Tryz.ntmps51
  go_wp2
  go_loop [7] (fun iv => ∃ i : Nat, i ≤ s.size ∧ iv = .int .i64 i ∧ Hid (∀ j, j < i → Lib.occAt s.data.toList sep.data.toList j = false)) (fun iv => s.size - (intOf iv).toNat)
  case atStart => exact ⟨0, Nat.zero_le _, rfl, fun j hj => absurd hj (Nat.not_lt_zero _)⟩
  case round =>
    obtain ⟨i, hi, rfl, HN⟩ := hrel
    by_cases hA : i + sep.size ≤ s.size
    · have hAi : (i : Int) + sep.size ≤ s.size := by omega
      have hpt := pre_take hA
      have htn : ((i : Int) + (sep.size : Int)).toNat = i + sep.size := by omega
      have hsl0 : ∀ wx, (Instr.slice 9 (.string s) (some (.int .i64 (i : Int))) (some (.int .i64 ((i : Int) + (sep.size : Int)))) none).run Tryz.prog wx = .ok (.string (s.extract i (i + sep.size))) wx := by
        intro wx
        rw [run_slice_string wx 9 s .i64 .i64 i ((i : Int) + (sep.size : Int)) Tryz.underlying9 (by omega) (by omega) (by omega), htn]
        rfl
      by_cases hp : sep.data.toList.isPrefixOf (s.data.toList.drop i) = true
      · rw [hp] at hpt
        have G : Hid (Lib.index s.data.toList sep.data.toList = (i : Int)) := Lib.index_first (by rw [← Lib.size_eq]; omega) hp HN.out
        clear hp
        go_wp2
        go_ret
        exact ⟨by rw [G.out]; rfl, Below.refl _ _⟩
      · rw [Bool.not_eq_true] at hp
        rw [hp] at hpt
        have G : Hid (∀ j, j < i + 1 → Lib.occAt s.data.toList sep.data.toList j = false) := by
          intro j hj
          by_cases e : j = i
          · rw [e]; exact hp
          · exact HN.out j (by omega)
        clear hp
        go_wp2
        go_round
        case rel => exact ⟨i + 1, by omega, by go_num, G⟩
        case measure => simp [intOf]; omega
    · have G : Hid (Lib.index s.data.toList sep.data.toList = -1) := Lib.index_none fun j _ => by
        by_cases hj : j < i
        · exact HN.out j hj
        · exact occ_false_far hne (by rw [← Lib.size_eq, ← Lib.size_eq]; omega)
      go_wp2
      go_ret
      exact ⟨by rw [G.out]; rfl, Below.refl _ _⟩
end Go.Proofs.YtngcjlghjidnjaaGreatDoor
namespace Go.Proofs.YtngcjlghjidnjaaGreatDoor
open Go.ChangeShapes Go.WideShapes Go.ChangeAt Go.RowKit
attribute [local go_sem ↓] Go.wp_at_zero Go.wp_at_succ

set_option maxHeartbeats 1000000 in
set_option maxRecDepth 100000 in
theorem lawBegins (s t : ByteArray) (w : World) : Calls Tryz.prog 14 #[.string s, .string t] w fun e w' => e = .returned (.bool (begB s t)) ∧ w' = w := by
  by_cases h : t.size ≤ s.size
  · have hi : (t.size : Int) ≤ s.size := by omega
    by_cases h2 : s.extract 0 t.size = t
    · have e : begB s t = true := decide_eq_true ⟨h, h2⟩
      rw [e]
      go_enter Tryz.func14, Tryz.ntmps14
      go_wp2
      go_ret
      exact ⟨rfl, rfl⟩
    · have e : begB s t = false := decide_eq_false (fun c => h2 c.2)
      have hb : ((s.extract 0 t.size).toList == t.toList) = false := str_ne' h2
      rw [e]
      go_enter Tryz.func14, Tryz.ntmps14
      go_wp2
      go_ret
      exact ⟨rfl, rfl⟩
  · have hi : ¬ (t.size : Int) ≤ s.size := by omega
    have e : begB s t = false := decide_eq_false (fun c => h c.1)
    rw [e]
    go_enter Tryz.func14, Tryz.ntmps14
    go_wp2
    go_ret
    exact ⟨rfl, rfl⟩
set_option maxHeartbeats 4000000 in
set_option maxRecDepth 100000 in
theorem lawAllOk (s : Sn) (u1 u2 u3 rv : Value) (L : List ByteArray) (sent line : ByteArray) (lo : Nat) (w : World) (h : SV w lo u1 u2 u3 s) (hA : ArgS w rv L) (hl : LenIn w) (hV : s.V.length = s.R.length) (hT : s.T.length = s.R.length) (hR : s.R = L) (h20 : L.length ≤ 20) (hLs : ∀ x ∈ L, x.size ≤ 1000)
    (hz : line.size ≤ 1048576) (hok : ∀ i (hi : i < L.length), (s.V.getD i vd0).1 = 1 → sent = line ∧ s.T.getD i false = true ∧ Lib.index line.data.toList (cmdB 4 L[i]).data.toList ≠ -1 ∧ 1 ≤ (cmdB 4 L[i]).size) :
    Calls Tryz.prog 15 #[.agg #[.int .i64 s.ph, .string s.buf, .string s.he, .string s.fr, .string s.bo, u1, .int .i64 (s.nx : Int), u2, u3], rv, .string sent, .string line] w fun e w' => e = .returned (.bool true) ∧ Below w.heap.size w w' := by
  obtain ⟨p1, q1, hp1⟩ := strs_form2 h.1
  obtain ⟨p2, q2, hp2⟩ := bls_form h.2.1
  obtain ⟨p3, q3, hp3⟩ := vds_form4 h.2.2
  obtain ⟨ra, rc, hrv⟩ := hA.form
  subst hp1 hp2 hp3 hrv
  have H : Hid (SV w lo _ _ _ s) := h
  have HA : Hid (ArgS w (.slice ra L.length rc) L) := hA
  have HL : Hid (LenIn w) := hl
  have HOK : Hid _ := hok
  have HLs : Hid (∀ x ∈ L, x.size ≤ 1000) := hLs
  have hVl : s.V.length = L.length := by rw [hV, hR]
  have hTl : s.T.length = L.length := by rw [hT, hR]
  have HVl : Hid (s.V.length = L.length) := hVl
  have HTl : Hid (s.T.length = L.length) := hTl
  have hV20 : s.V.length ≤ 20 := by omega
  clear h hA hl hok hLs hV hT hR hVl hTl
  go_enter Tryz.func15, Tryz.ntmps15
  go_wp2_with fail
  generalize hW : World.alloc _ _ = W
  have HB : Hid (SB w.heap.size s (.slice p1 s.R.length q1) (.slice p2 s.T.length q2) (.slice p3 s.V.length q3) W) := by show SB _ _ _ _ _ _; rw [← hW]; exact Blk.new w _ _
  have b0 : Below w.heap.size w W := by rw [← hW]; exact below1 _ _
  clear hW
  obtain ⟨_, _, _, _, _, _, _, d7, d8⟩ := HB.out.cells
  clear d7
  go_loopw [9, 10, 14] (fun _ _ iv wr => ∃ k : Nat, k ≤ s.V.length ∧ iv = .int .i64 k ∧ Hid (Below W.heap.size W wr)) (fun _ _ iv _ => s.V.length - (intOf iv).toNat)
  case atStart => exact ⟨0, Nat.zero_le _, rfl, (Below.refl _ _ : Below _ _ _)⟩
  case round =>
    obtain ⟨k, hk, rfl, HBr⟩ := hrel
    clear d8
    have br : Below w.heap.size w wr := b0.trans (HBr.out.mono b0.size)
    by_cases hlt : k < s.V.length
    · have TA0 := vds_below H.out.2.2 br (Nat.le_refl _)
      obtain ⟨g3, rfl⟩ : ∃ g, p3 = some ⟨g, 0, none⟩ := by
        rcases TA0.cases with ⟨_, e⟩ | ⟨g, cap, e, _⟩
        · rw [e] at hlt; exact absurd hlt (by simp)
        · injection e with e _; exact ⟨g, e⟩
      have VA := TA0.at.1
      obtain ⟨c0, c1, c2⟩ := VA.cell k hlt
      have l3 := VA.lt
      have hkL : k < L.length := by rw [← HVl.out]; exact hlt
      by_cases h1 : s.V[k].1 = 1
      · obtain ⟨e1, e2, e3, e4⟩ := HOK.out k hkL (by rw [List.getD_eq_getElem?_getD, List.getElem?_eq_getElem hlt]; exact h1)
        subst e1
        rw [h1] at c0
        have hkT : k < s.T.length := by rw [HTl.out]; exact hkL
        have TB0 := bls_below H.out.2.1 br (Nat.le_refl _)
        obtain ⟨g2, rfl⟩ : ∃ g, p2 = some ⟨g, 0, none⟩ := by
          rcases TB0.cases with ⟨_, e⟩ | ⟨g, cap, e, _⟩
          · rw [e] at hkT; exact absurd hkT (by simp)
          · injection e with e _; exact ⟨g, e⟩
        have ct := TB0.at.1.cell k hkT
        have l2 := TB0.at.1.lt
        have e5 : s.T[k] = true := by rw [List.getD_eq_getElem?_getD, List.getElem?_eq_getElem hkT] at e2; exact e2
        rw [e5] at ct
        obtain ⟨gr, off, rfl, lr, cr⟩ : ∃ gr off : Nat, ra = some ⟨gr, off, none⟩ ∧ gr < wr.heap.size ∧ wr.cell? ⟨gr, off + k, none⟩ = some (.string L[k]) := by
          rcases (HA.out.below br).2.2 with ⟨e, _⟩ | ⟨b, off, cap, e, hlt2, hc⟩
          · rw [e] at hkL; exact absurd hkL (by simp)
          · injection e with e _; exact ⟨b, off, e, hlt2, hc k hkL⟩
        have hls := HLs.out L[k] (List.getElem_mem hkL)
        have HIX : Hid (Lib.index sent.data.toList (cmdB 4 L[k]).data.toList ≠ -1) := e3
        have hge := Lib.index_ge sent.data.toList (cmdB 4 L[k]).data.toList
        obtain ⟨_, _, _, _, _, _, _, d7, _⟩ := (SB.below HB.out HBr.out).cells
        have lb : w.heap.size < wr.heap.size := (SB.below HB.out HBr.out).lt
        have hkTi : (k : Int) < s.T.length := by omega
        have hkLi : (k : Int) < L.length := by omega
        have hcs := cmd_size 4 L[k]
        have HCm : Hid (∀ wx, Below w.heap.size w wx → Calls Tryz.prog 12 #[.int .i64 4, .string L[k]] wx fun e w' => e = .returned (.string (cmdB 4 L[k])) ∧ Below wx.heap.size wx w') := fun wx hb => implCommand 4 _ wx (len_below HL.out hb) (by omega)
        generalize s.V[k] = X at c0 c1 c2 h1
        generalize L[k] = Y at cr e4 HIX hge hls hcs HCm
        clear VA TA0 TB0 e2 e3 h1 e5
        go_wp2_with fail
        generalize hW1 : World.alloc _ _ = W1
        have b1 : Below wr.heap.size wr W1 := by rw [← hW1]; exact below1 _ _
        have bw1 : Below w.heap.size w W1 := br.trans (b1.mono br.size)
        refine (HCm.out W1 bw1).mono ?_
        rintro e w2 ⟨rfl, hb2⟩
        generalize cmdB 4 Y = C at e4 HIX hge hcs ⊢
        go_wp2_with fail
        refine (lawAt sent C w2 hz e4 (by omega)).mono ?_
        rintro e w3 ⟨rfl, hb3⟩
        have hnn : ¬ Lib.index sent.data.toList C.data.toList < 0 := by have := HIX.out; omega
        generalize Lib.index sent.data.toList C.data.toList = J at hnn
        clear HIX hge
        go_wp2
        go_roundw
        case rel =>
          have b13 : Below wr.heap.size wr w3 := (b1.trans (hb2.mono b1.size)).trans (hb3.mono (Nat.le_trans b1.size hb2.size))
          exact ⟨k + 1, by omega, by go_num, HBr.out.trans (b13.mono HBr.out.size)⟩
        case measure => simp [intOf]; omega
      · have h1b : (s.V[k].1 == 1) = false := beq_eq_false_iff_ne.2 h1
        generalize s.V[k] = X at c0 c1 c2 h1 h1b
        clear VA TA0
        go_wp2
        go_roundw
        case rel => exact ⟨k + 1, by omega, by go_num, HBr.out.alloc HBr.out.size _⟩
        case measure => simp [intOf]; omega
    · go_wp2
      go_ret
      exact ⟨rfl, br⟩
end Go.Proofs.YtngcjlghjidnjaaGreatDoor
