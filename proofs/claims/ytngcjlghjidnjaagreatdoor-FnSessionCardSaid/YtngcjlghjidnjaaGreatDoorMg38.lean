import Derived.Test.YtngcjlghjidnjaaGreatDoorMg11
import Derived.Test.YtngcjlghjidnjaaGreatDoorMg15
import Derived.Test.YtngcjlghjidnjaaGreatDoorMg30
import Derived.Test.YtngcjlghjidnjaaGreatDoorMg12
import Derived.ScopeJumps
import Derived.WalkMore
import Derived.Deep.LoopGhost
import Derived.Shelf.Strings.Fold
import Derived.Test.YtngcjlghjidnjaaGreatDoorMg19
import Derived.Test.YtngcjlghjidnjaaGreatDoorMg6
import Derived.Test.YtngcjlghjidnjaaGreatDoorCards
import Derived.Test.YtngcjlghjidnjaaGreatDoorTie
import Derived.Deep.SlicePairs
import Derived.Lib.LaidTab
namespace Go.Proofs.YtngcjlghjidnjaaGreatDoor
open Go.ChangeShapes Go.WideShapes Go.ChangeAt Go.RowKit

/-- what of the tables of folds is looked at -/
structure FoldTab (w : World) : Prop where
  a83 : w.cell? ⟨3, 83, none⟩ = some (.int .u16 115)
  a115 : w.cell? ⟨3, 115, none⟩ = some (.int .u16 383)
  a73 : w.cell? ⟨3, 73, none⟩ = some (.int .u16 105)
  a105 : w.cell? ⟨3, 105, none⟩ = some (.int .u16 73)
  a90 : w.cell? ⟨3, 90, none⟩ = some (.int .u16 122)
  a122 : w.cell? ⟨3, 122, none⟩ = some (.int .u16 90)
  a69 : w.cell? ⟨3, 69, none⟩ = some (.int .u16 101)
  a101 : w.cell? ⟨3, 101, none⟩ = some (.int .u16 69)
  orb : ∃ b off cap, w.cell? ⟨4, 0, none⟩ = some (.slice (some ⟨b, off, none⟩) 94 cap) ∧ w.cell? ⟨b, off + 94, none⟩ = some (.int .u16 966) ∧ w.cell? ⟨b, off + 46, none⟩ = some (.int .u16 837) ∧ w.cell? ⟨b, off + 22, none⟩ = some (.int .u16 452) ∧ w.cell? ⟨b, off + 10, none⟩ = some (.int .u16 197) ∧ w.cell? ⟨b, off + 16, none⟩ = some (.int .u16 304) ∧ w.cell? ⟨b, off + 20, none⟩ = some (.int .u16 383) ∧ w.cell? ⟨b, off + 18, none⟩ = some (.int .u16 305) ∧ w.cell? ⟨b, off + 21, none⟩ = some (.int .u16 83)
theorem cell_kept {w w1 : World} {b i : Nat} {v : Value} (hb : Below w.heap.size w w1) (h : w.cell? ⟨b, i, none⟩ = some v) : w1.cell? ⟨b, i, none⟩ = some v := (hb.cell (p := ⟨b, i, none⟩) (World.block_lt_of_cell? w ⟨b, i, none⟩ h)).trans h
theorem FoldTab.below {w w1 : World} (h : FoldTab w) (hb : Below w.heap.size w w1) : FoldTab w1 := by
  obtain ⟨b, off, cap, o0, o1, o2, o3, o4, o5, o6, o7, o8⟩ := h.orb
  exact ⟨cell_kept hb h.a83, cell_kept hb h.a115, cell_kept hb h.a73, cell_kept hb h.a105, cell_kept hb h.a90, cell_kept hb h.a122, cell_kept hb h.a69, cell_kept hb h.a101, b, off, cap, cell_kept hb o0, cell_kept hb o1, cell_kept hb o2, cell_kept hb o3, cell_kept hb o4, cell_kept hb o5, cell_kept hb o6, cell_kept hb o7, cell_kept hb o8⟩

set_option maxHeartbeats 1000000 in
set_option maxRecDepth 100000 in
theorem foldA (r f : Nat) (w : World) (hr : r < 128) (hf : f < 65536) (h : w.cell? ⟨3, r, none⟩ = some (.int .u16 (f : Int))) :
    Calls Tryz.prog 173 #[.int .i32 (r : Int)] w fun e w' => e = .returned (.int .i32 (f : Int)) ∧ w' = w := by
  have h1 : ¬ (r : Int) < 0 := by omega
  have h2 : ¬ (1114111 : Int) < (r : Int) := by omega
  have h3 : (r : Int) < 128 := by omega
  go_enter Tryz.func173, Tryz.ntmps173
  go_wp2
  go_ret
  exact ⟨rfl, rfl⟩

set_option maxHeartbeats 2000000 in
set_option maxRecDepth 100000 in
theorem foldO (w : World) (h : FoldTab w) :
    Calls Tryz.prog 173 #[.int .i32 383] w fun e w' => e = .returned (.int .i32 83) ∧ w' = w := by
  obtain ⟨b, off, cap, o0, o1, o2, o3, o4, o5, o6, o7, o8⟩ := h.orb
  clear h
  go_enter Tryz.func173, Tryz.ntmps173
  go_wp2
  refine wp_loop_rounds 8 ?_
  iterate 8
    rw [rounds_succ]
    go_wp2
  go_ret
  exact ⟨rfl, rfl⟩
end Go.Proofs.YtngcjlghjidnjaaGreatDoor
namespace Go.Proofs.YtngcjlghjidnjaaGreatDoor
open Go.ChangeShapes Go.WideShapes Go.ChangeAt Go.RowKit
open Pcs

set_option maxHeartbeats 1000000 in
set_option maxRecDepth 100000 in
theorem decAscii (s : ByteArray) (w : World) (h : 0 < s.size) (hx : (s[0]'h).toNat < 128) :
    Calls Tryz.prog 153 #[.string s] w fun e w' => e = .returned (.tuple #[.int .i32 ((s[0]'h).toNat : Int), .int .i64 1]) ∧ w' = w := by
  have hln := list_ne (x := s) (by omega)
  have hi : (0 : Int) < s.size := by omega
  have hx1 : ((s[0]'h).toNat : Int) < 128 := by omega
  go_enter Tryz.func153, Tryz.ntmps153
  go_wp2
  refine bodyPost_ret (v := .tuple #[.int .i32 ((s[0]'h).toNat : Int), .int .i64 1]) (by simp [results, Tryz.results153, go_sem]) rfl ⟨rfl, rfl⟩
theorem decode_two {s : ByteArray} {pos : Nat} (h : pos < s.size) (ha : 128 ≤ (s[pos]'h).toNat) (hr : (Utf8.decode s pos).1 = 383) : 2 ≤ (Utf8.decode s pos).2 := by
  obtain ⟨_, d2, _, _⟩ := decode_skip s pos h ha
  rcases Nat.lt_or_ge (Utf8.decode s pos).2 2 with h1 | h1
  · exfalso
    have h2 : (Utf8.decode s pos).2 = 1 := by omega
    have hb : ∀ k, (s.get! (pos + k)).toNat < 256 := fun k => (s.get! (pos + k)).toNat_lt
    have g0 : ¬ (s.get! (pos + 0)).toNat < 128 := by
      simp [ByteArray.get!, getElem!_pos, h]
      have : (s[pos]'h).toNat = s.data[pos].toNat := rfl
      omega
    revert hr h2
    simp only [Utf8.decode, g0, if_false]
    repeat' split
    all_goals (intro hr h2; first | (simp at h2; done) | exact absurd hr (by decide))
  · exact h1

theorem decode_any (s : ByteArray) (pos : Nat) (h : pos < s.size) : 1 ≤ (Utf8.decode s pos).2 ∧ pos + (Utf8.decode s pos).2 ≤ s.size ∧ ((Utf8.decode s pos).1 = 383 → 2 ≤ (Utf8.decode s pos).2) ∧ (128 ≤ (s[pos]'h).toNat → 128 ≤ (Utf8.decode s pos).1) := by
  by_cases ha : 128 ≤ (s[pos]'h).toNat
  · obtain ⟨d1, d2, d3, _⟩ := decode_skip s pos h ha
    exact ⟨d2, d3, decode_two h ha, fun _ => d1⟩
  · have g0 : (s.get! (pos + 0)).toNat < 128 := by
      simp [ByteArray.get!, getElem!_pos, h]
      have : (s[pos]'h).toNat = s.data[pos].toNat := rfl
      omega
    have e : Utf8.decode s pos = ((s.get! (pos + 0)).toNat, 1) := by simp only [Utf8.decode, g0, if_true]
    rw [e]
    exact ⟨Nat.le_refl _, by show pos + 1 ≤ _; omega, fun h3 => by have : (s.get! (pos + 0)).toNat = 383 := h3; omega, fun h3 => absurd h3 ha⟩

set_option maxHeartbeats 8000000 in
set_option maxRecDepth 1000000 in
theorem foldHigh (s t : ByteArray) (w : World) (hs : s.size = 4) (ht : t.size = 4) (htb : ∀ j (h : j < t.size), (t[j]'h).toNat = 83 ∨ (t[j]'h).toNat = 73 ∨ (t[j]'h).toNat = 90 ∨ (t[j]'h).toNat = 69) (hft : FoldTab w) (i0 : Nat) (hi0 : i0 < s.size) (hhi : 128 ≤ (s[i0]'hi0).toNat) :
    Calls Tryz.prog 170 #[.string s, .string t] w fun e w' => e = .returned (.bool false) ∧ Below w.heap.size w w' := by
  have hsi : (s.size : Int) = 4 := by omega
  have hti : (t.size : Int) = 4 := by omega
  have HTB : Hid (∀ j (h : j < t.size), (t[j]'h).toNat < 128) := fun j h => by have := htb j h; omega
  have HTC : Hid (∀ j (h : j < t.size), (t[j]'h).toNat = 83 ∨ (t[j]'h).toNat = 73 ∨ (t[j]'h).toNat = 90 ∨ (t[j]'h).toNat = 69) := htb
  have HHI : Hid (128 ≤ byteOf s i0) := by show _ ≤ _; rw [byteOf_eq s i0 hi0]; exact hhi
  have HFT : Hid (FoldTab w) := hft
  clear htb hhi hft
  go_enter Tryz.func170, Tryz.ntmps170
  go_wp2
  refine wp_scope_jumps 0 (fun a' w' => w' = w ∧ ∃ (i : Nat), i < 4 ∧ 128 ≤ byteOf s i ∧ ∃ (u4 u6 u7 u8 u14 u15 u16 u17 u18 u19 u20 u21 u22 u23 u24 u25 u26 u27 u28 u29 u30 u31 u32 u33 u34 u35 u36 u37 u38 u39 u40 u41 u42 u43 u44 u45 u46 u47 u48 u49 u50 u51 u52 u53 u54 : Value), a' = { tmps := #[.string s, .string t, undef, undef, u4, .int .i64 (i : Int), u6, u7, u8, undef, undef, undef, undef, undef, u14, u15, u16, u17, u18, u19, u20, u21, u22, u23, u24, u25, u26, u27, u28, u29, u30, u31, u32, u33, u34, u35, u36, u37, u38, u39, u40, u41, u42, u43, u44, u45, u46, u47, u48, u49, u50, u51, u52, u53, u54, undef, undef, undef, undef, undef, undef, undef, undef, undef, undef, undef, undef, undef, undef, undef, undef, undef, undef, undef, undef, undef, undef, undef, undef, undef, undef, undef, undef, undef, undef, undef, undef, undef, undef, undef, undef, undef, undef, undef, undef, undef, undef, undef, undef, undef, undef, undef, undef, undef, undef, undef, undef, undef, undef, undef, undef, undef, undef, undef, undef, undef, undef, undef, undef, undef, undef, undef, undef], defers := [] }) (fun _ _ => 0) rfl ?_ ?_
  · go_wp2
    go_loop [5] (fun iv => ∃ i : Nat, i ≤ i0 ∧ iv = .int .i64 i) (fun iv => 4 - (intOf iv).toNat)
    case atStart => exact ⟨0, Nat.zero_le _, rfl⟩
    case round =>
      obtain ⟨i, hii, rfl⟩ := hrel
      have hisz : (i : Int) < (s.size : Int) := by omega
      have hitz : (i : Int) < (t.size : Int) := by omega
      have hiM : (i : Int) < 4 := by omega
      have HX : Hid (byteOf s i = (s[i]'(by omega)).toNat) := byteOf_eq s i (by omega)
      have hy128 := HTB.out i (by omega)
      have hx256 : (s[i]'(by omega)).toNat < 256 := UInt8.toNat_lt _
      obtain ⟨x, hx⟩ : ∃ x : UInt8, s[i]'(by omega) = x := ⟨_, rfl⟩
      obtain ⟨y, hy⟩ : ∃ y : UInt8, t[i]'(by omega) = y := ⟨_, rfl⟩
      rw [hx] at HX hx256
      rw [hy] at hy128
      have hor : bits .or .u8 (x.toNat : Int) (y.toNat : Int) = ((x.toNat ||| y.toNat : Nat) : Int) := u8_or_nat _ _ (by omega) (by omega)
      by_cases hx128 : x.toNat < 128
      · have hor128 : ¬ ((128 : Int) ≤ ((x.toNat ||| y.toNat : Nat) : Int)) := by have := Nat.or_lt_two_pow (n := 7) hx128 hy128; omega
        have hne : i < i0 := by
          rcases Nat.lt_or_ge i i0 with h | h
          · exact h
          · have : i = i0 := by omega
            subst this
            have := HHI.out; rw [HX.out] at this; omega
        go_wp2
        all_goals (try simp only [beq_iff_eq, beq_eq_false_iff_ne, ne_eq] at *)
        all_goals first
          | (go_round
             case measure => simp [intOf]; omega
             case rel => exact ⟨i + 1, by omega, by go_num⟩)
          | (simp only [Exit.jump]
             go_ret
             exact ⟨rfl, Below.refl _ _⟩)
      · have hor128 : (128 : Int) ≤ ((x.toNat ||| y.toNat : Nat) : Int) := by have : x.toNat ≤ x.toNat ||| y.toNat := Nat.left_le_or; omega
        have hb128 : 128 ≤ byteOf s i := by rw [HX.out]; omega
        go_wp2
        go_step3
        exact ⟨rfl, rfl, i, by omega, hb128, _, _, _, _, _, _, _, _, _, _, _, _, _, _, _, _, _, _, _, _, _, _, _, _, _, _, _, _, _, _, _, _, _, _, _, _, _, _, _, _, _, _, _, _, _, rfl⟩
  · rintro a' w' ⟨rfl, i, hi4, hb128, u4, u6, u7, u8, u14, u15, u16, u17, u18, u19, u20, u21, u22, u23, u24, u25, u26, u27, u28, u29, u30, u31, u32, u33, u34, u35, u36, u37, u38, u39, u40, u41, u42, u43, u44, u45, u46, u47, u48, u49, u50, u51, u52, u53, u54, rfl⟩
    have hi2 : (i : Int) ≤ 4 := by omega
    clear HHI hi0
    have hS : (s.extract i 4).size = 4 - i := by rw [ByteArray.size_extract]; omega
    have HS0 : Hid (∀ (h : 0 < (s.extract i 4).size), 128 ≤ ((s.extract i 4)[0]'h).toNat) := by
      intro h
      rw [byteOf_eq s i (by omega)] at hb128
      simpa [ByteArray.getElem_extract] using hb128
    go_wp2_with fail
    generalize s.extract i 4 = S at *
    go_loopg [1] S.size (fun g tv wx => ∃ (p j : Nat), p + g = S.size ∧ tv = .string (t.extract j 4) ∧ j ≤ 4 ∧ wx.heap[w'.heap.size]? = some (.stringIter S p) ∧ Below w'.heap.size w' wx ∧ ((p = 0 ∧ j = i) ∨ S.size - p < 4 - j))
    case atStart => exact ⟨0, i, by omega, rfl, by omega, World.iter_heap w' S 0, below1 _ _, .inl ⟨rfl, rfl⟩⟩
    case round =>
      obtain ⟨p, j, hpg, rfl, hj4, hit, hbw, hinv⟩ := hrel
      by_cases hp : p < S.size
      · obtain ⟨d1, d2, d3, d4⟩ := decode_any S p hp
        have hp0 : p = 0 → 128 ≤ (Utf8.decode S p).1 := fun e => by
          subst e
          exact d4 (HS0.out hp)
        have hnx := fun ty => Lib.run_next_any_at (P := Tryz.prog) wr w'.heap.size S p ty hit hp
        have HI : Hid (∀ q, (wr.iterAt w'.heap.size S q).heap[w'.heap.size]? = some (.stringIter S q)) := fun q => Lib.iterAt_heap wr _ S p q hit
        have HBI : Hid (∀ q, Below w'.heap.size w' (wr.iterAt w'.heap.size S q)) := fun q => below_iter hbw
        have d5 := decode_le S p
        obtain ⟨r, Hr⟩ : ∃ r, Hid ((Utf8.decode S p).1 = r) := ⟨_, rfl⟩
        obtain ⟨m, Hm⟩ : ∃ m, Hid ((Utf8.decode S p).2 = m) := ⟨_, rfl⟩
        rw [Hr.out] at hp0 d5 d3 hnx
        rw [Hm.out] at d1 d2 d3 hnx
        clear hit hbw d4
        by_cases hj : j = 4
        · have hts : (t.extract j 4).size = 0 := by rw [ByteArray.size_extract]; omega
          have hte : (((t.extract j 4).size : Int) == 0) = true := by rw [hts]; rfl
          go_wp2
          simp only [Exit.jump]
          go_ret
          exact ⟨rfl, HBI.out _⟩
        have hts : (t.extract j 4).size = 4 - j := by rw [ByteArray.size_extract]; omega
        have hte : (((t.extract j 4).size : Int) == 0) = false := by rw [beq_eq_false_iff_ne]; omega
        have ht0 : 0 < (t.extract j 4).size := by omega
        have hgx : (t.extract j 4)[0]'ht0 = t[j]'(by omega) := by simp [ByteArray.getElem_extract]
        have hyc := HTC.out j (by omega)
        have hsl : ∀ wx, (Instr.slice 9 (.string (t.extract j 4)) (some (.int .i64 1)) none none).run Tryz.prog wx = .ok (.string (t.extract (j + 1) 4)) wx := by
          intro wx
          rw [run_slice_string_from_if wx 9 _ .i64 1 Tryz.underlying9, if_pos (by omega), hts]
          have e : (t.extract j 4).extract (1 : Int).toNat (4 - j) = t.extract (j + 1) 4 := by
            apply ByteArray.ext
            rw [← Array.toList_inj, Lib.extract_data, Lib.extract_data, Lib.extract_data]
            show ((List.drop 1 (List.take (4 - j) (List.drop j t.data.toList))).take (4 - j - 1)) = _
            rw [List.drop_take, List.take_take, List.drop_drop, show min (4 - j - 1) (4 - j - 1) = 4 - (j + 1) by omega]
          rw [e]
        have hdec := fun wx => decAscii (t.extract j 4) wx ht0 (by rw [hgx]; omega)
        simp only [hgx] at hdec
        generalize t[j]'(by omega) = yb at *
        have hy128 : yb.toNat < 128 := by omega
        go_wp2_with fail
        refine (hdec _).mono ?_
        rintro e w2 ⟨rfl, hw2⟩
        rw [hw2]
        have hWi := HI.out (p + m)
        have hWb := HBI.out (p + m)
        generalize wr.iterAt w'.heap.size S (p + m) = W at *
        clear hw2 hdec hnx HI HBI hgx
        have HWi : Hid (W.heap[w'.heap.size]? = some (.stringIter S (p + m))) := hWi
        clear hWi
        by_cases e : r = yb.toNat
        · have hpp : p ≠ 0 := fun e0 => by have := hp0 e0; omega
          have hee : ((yb.toNat : Int) == (r : Int)) = true := by rw [beq_iff_eq]; omega
          go_wp2
          go_roundg (S.size - (p + m))
          case measure => omega
          case rel => exact ⟨p + m, j + 1, by omega, rfl, by omega, HWi.out, hWb, .inr (by omega)⟩
        have hee : ((yb.toNat : Int) == (r : Int)) = false := by rw [beq_eq_false_iff_ne]; omega
        by_cases r128 : r < 128
        · have hpp : p ≠ 0 := fun e0 => by have := hp0 e0; omega
          go_wp2
          all_goals (try simp only [beq_iff_eq, beq_eq_false_iff_ne, ne_eq] at *)
          all_goals first
            | (go_roundg (S.size - (p + m))
               case measure => omega
               case rel => exact ⟨p + m, j + 1, by omega, rfl, by omega, HWi.out, hWb, .inr (by omega)⟩)
            | (simp only [Exit.jump]
               go_ret
               exact ⟨rfl, hWb⟩)
        have hlt : (yb.toNat : Int) < (r : Int) := by omega
        have hr128 : ¬ (r : Int) < 128 := by omega
        have FT := HFT.out.below hWb
        clear e hee
        rcases hyc with hy | hy | hy | hy
        · have hyi : (yb.toNat : Int) = 83 := by omega
          go_wp2_with fail
          refine (foldA 83 115 _ (by decide) (by decide) FT.a83).mono ?_
          rintro e w3 ⟨rfl, hw3⟩
          rw [hw3]
          clear hw3
          have hr115 : (115 : Int) < (r : Int) := by omega
          go_wp2_with fail
          refine wp_loop_rounds 3 ?_
          rw [rounds_succ]
          go_wp2_with fail
          refine (foldA 115 383 _ (by decide) (by decide) FT.a115).mono ?_
          rintro e w4 ⟨rfl, hw4⟩
          rw [hw4]
          clear hw4
          go_wp2_with fail
          rw [rounds_succ]
          by_cases hr383 : 383 < r
          · have hr383i : (383 : Int) < (r : Int) := by omega
            have hr83 : ((83 : Int) == (r : Int)) = false := by rw [beq_eq_false_iff_ne]; omega
            go_wp2_with fail
            refine (foldO _ FT).mono ?_
            rintro e w5 ⟨rfl, hw5⟩
            rw [hw5]
            clear hw5
            go_wp2_with fail
            rw [rounds_succ]
            go_wp2
            simp only [Exit.jump]
            go_ret
            exact ⟨rfl, hWb⟩
          · have hr383i : ¬ (383 : Int) < (r : Int) := by omega
            by_cases hreq : r = 383
            · have hreqb : ((383 : Int) == (r : Int)) = true := by rw [beq_iff_eq]; omega
              have hm2 := d3 hreq
              go_wp2
              go_roundg (S.size - (p + m))
              case measure => omega
              case rel => exact ⟨p + m, j + 1, by omega, rfl, by omega, HWi.out, hWb, .inr (by omega)⟩
            · have hreqb : ((383 : Int) == (r : Int)) = false := by rw [beq_eq_false_iff_ne]; omega
              go_wp2
              simp only [Exit.jump]
              go_ret
              exact ⟨rfl, hWb⟩
        · have hyi : (yb.toNat : Int) = 73 := by omega
          go_wp2_with fail
          refine (foldA 73 105 _ (by decide) (by decide) FT.a73).mono ?_
          rintro e w3 ⟨rfl, hw3⟩
          rw [hw3]
          clear hw3
          have hr115 : (105 : Int) < (r : Int) := by omega
          have hrne : ((73 : Int) == (r : Int)) = false := by rw [beq_eq_false_iff_ne]; omega
          go_wp2_with fail
          refine wp_loop_rounds 3 ?_
          rw [rounds_succ]
          go_wp2_with fail
          refine (foldA 105 73 _ (by decide) (by decide) FT.a105).mono ?_
          rintro e w4 ⟨rfl, hw4⟩
          rw [hw4]
          clear hw4
          go_wp2_with fail
          rw [rounds_succ]
          go_wp2
          simp only [Exit.jump]
          go_ret
          exact ⟨rfl, hWb⟩
        · have hyi : (yb.toNat : Int) = 90 := by omega
          go_wp2_with fail
          refine (foldA 90 122 _ (by decide) (by decide) FT.a90).mono ?_
          rintro e w3 ⟨rfl, hw3⟩
          rw [hw3]
          clear hw3
          have hr115 : (122 : Int) < (r : Int) := by omega
          have hrne : ((90 : Int) == (r : Int)) = false := by rw [beq_eq_false_iff_ne]; omega
          go_wp2_with fail
          refine wp_loop_rounds 3 ?_
          rw [rounds_succ]
          go_wp2_with fail
          refine (foldA 122 90 _ (by decide) (by decide) FT.a122).mono ?_
          rintro e w4 ⟨rfl, hw4⟩
          rw [hw4]
          clear hw4
          go_wp2_with fail
          rw [rounds_succ]
          go_wp2
          simp only [Exit.jump]
          go_ret
          exact ⟨rfl, hWb⟩
        · have hyi : (yb.toNat : Int) = 69 := by omega
          go_wp2_with fail
          refine (foldA 69 101 _ (by decide) (by decide) FT.a69).mono ?_
          rintro e w3 ⟨rfl, hw3⟩
          rw [hw3]
          clear hw3
          have hr115 : (101 : Int) < (r : Int) := by omega
          have hrne : ((69 : Int) == (r : Int)) = false := by rw [beq_eq_false_iff_ne]; omega
          go_wp2_with fail
          refine wp_loop_rounds 3 ?_
          rw [rounds_succ]
          go_wp2_with fail
          refine (foldA 101 69 _ (by decide) (by decide) FT.a101).mono ?_
          rintro e w4 ⟨rfl, hw4⟩
          rw [hw4]
          clear hw4
          go_wp2_with fail
          rw [rounds_succ]
          go_wp2
          simp only [Exit.jump]
          go_ret
          exact ⟨rfl, hWb⟩
      · have hnx := fun ty => Lib.run_next_end_at (P := Tryz.prog) wr w'.heap.size S p ty hit hp
        have hts : (t.extract j 4).size = 4 - j := by rw [ByteArray.size_extract]; omega
        have hte : (((4 - j : Nat) : Int) == 0) = false := by rw [beq_eq_false_iff_ne]; omega
        clear hit
        go_wp2
        simp only [Exit.jump]
        go_ret
        exact ⟨by first | rfl | (rw [hte]; rfl), hbw⟩
end Go.Proofs.YtngcjlghjidnjaaGreatDoor
namespace Go.Proofs.YtngcjlghjidnjaaGreatDoor
open Go.ChangeShapes Go.WideShapes Go.ChangeAt Go.RowKit
open Pcs

def sizeB : ByteArray := ⟨#[83, 73, 90, 69]⟩
theorem up_eq {x y : UInt8} (hy : y.toNat = 83 ∨ y.toNat = 73 ∨ y.toNat = 90 ∨ y.toNat = 69) : upU x = y ↔ (x.toNat = y.toNat ∨ x.toNat = y.toNat + 32) := by
  rw [← UInt8.toNat_inj]
  rcases upU_cases x with ⟨h1, h2, h3⟩ | h
  · rw [h3]; omega
  · rw [h]
    constructor
    · intro e; exact .inl e
    · rintro (e | e)
      · exact e
      · exfalso
        have h4 : 97 ≤ x.toNat ∧ x.toNat ≤ 122 := by omega
        have h5 := congrArg UInt8.toNat h
        unfold upU upI at h5
        rw [if_pos (by omega), show ((x.toNat : Int) - 32).toNat = x.toNat - 32 by omega, UInt8.toNat_ofNat'] at h5
        omega
theorem size_at (j : Nat) (h : j < sizeB.size) : (sizeB[j]'h).toNat = 83 ∨ (sizeB[j]'h).toNat = 73 ∨ (sizeB[j]'h).toNat = 90 ∨ (sizeB[j]'h).toNat = 69 := by
  have h4 : j < 4 := h
  match j, h4 with
  | 0, _ => exact .inl rfl
  | 1, _ => exact .inr (.inl rfl)
  | 2, _ => exact .inr (.inr (.inl rfl))
  | 3, _ => exact .inr (.inr (.inr rfl))
theorem fold_no {s : ByteArray} (hs : s.size = 4) {i : Nat} (hi : i < s.size) (h : upU (s[i]'hi) ≠ sizeB[i]'(by rw [hs] at hi; exact hi)) : foldN s = false := by
  unfold foldN
  rw [beq_eq_false_iff_ne]
  intro e
  apply h
  have hl : i < s.data.toList.length := by rw [← Lib.size_eq]; exact hi
  have h1 : (s.data.toList.map upU)[i]? = some (upU (s[i]'hi)) := by
    rw [List.getElem?_map, List.getElem?_eq_getElem hl]; rfl
  rw [e] at h1
  have h2 : ([83, 73, 90, 69] : List UInt8)[i]? = some (sizeB[i]'(by rw [hs] at hi; exact hi)) := List.getElem?_eq_getElem (by rw [hs] at hi; exact hi)
  rw [h2] at h1
  exact (Option.some.inj h1).symm
theorem fold_yes {s : ByteArray} (hs : s.size = 4) (h : ∀ i (hi : i < s.size), upU (s[i]'hi) = sizeB[i]'(by rw [hs] at hi; exact hi)) : foldN s = true := by
  unfold foldN
  rw [beq_iff_eq]
  refine List.ext_getElem (by rw [List.length_map, ← Lib.size_eq, hs]; rfl) fun i h1 h2 => ?_
  have hi : i < s.size := by rw [List.length_map, ← Lib.size_eq] at h1; exact h1
  rw [List.getElem_map]
  exact h i hi
theorem fold_high {s : ByteArray} (hs : s.size = 4) {i : Nat} (hi : i < s.size) (h : 128 ≤ (s[i]'hi).toNat) : foldN s = false := by
  refine fold_no hs hi fun e => ?_
  have := (up_eq (size_at i (by rw [hs] at hi; exact hi))).1 e
  have := size_at i (by rw [hs] at hi; exact hi)
  omega

set_option maxHeartbeats 4000000 in
set_option maxRecDepth 1000000 in
theorem foldLow (s : ByteArray) (w : World) (hs : s.size = 4) (hlow : ∀ j (h : j < s.size), (s[j]'h).toNat < 128) :
    Calls Tryz.prog 170 #[.string s, .string sizeB] w fun e w' => e = .returned (.bool (foldN s)) ∧ Below w.heap.size w w' := by
  have hsi : (s.size : Int) = 4 := by omega
  have ht : sizeB.size = 4 := rfl
  have hti : (sizeB.size : Int) = 4 := by omega
  have HLO : Hid (∀ j (h : j < s.size), (s[j]'h).toNat < 128) := hlow
  have HSZ : Hid (∀ j (h : j < sizeB.size), (sizeB[j]'h).toNat = 83 ∨ (sizeB[j]'h).toNat = 73 ∨ (sizeB[j]'h).toNat = 90 ∨ (sizeB[j]'h).toNat = 69) := size_at
  have HNO : Hid (∀ i (hi : i < s.size) (hi2 : i < sizeB.size), upU (s[i]'hi) ≠ sizeB[i]'hi2 → foldN s = false) := fun i hi _ h => fold_no hs hi h
  have HYS : Hid ((∀ i (hi : i < s.size) (hi2 : i < sizeB.size), upU (s[i]'hi) = sizeB[i]'hi2) → foldN s = true) := fun h => fold_yes hs fun i hi => h i hi _
  clear hlow
  generalize foldN s = FN at *
  generalize sizeB = t at *
  go_enter Tryz.func170, Tryz.ntmps170
  go_wp2
  go_step3
  go_wp2
  go_loop [5] (fun iv => ∃ i : Nat, i ≤ 4 ∧ iv = .int .i64 i ∧ Hid (∀ j (hj : j < s.size) (hj2 : j < t.size), j < i → upU (s[j]'hj) = t[j]'hj2)) (fun iv => 4 - (intOf iv).toNat)
  case atStart => exact ⟨0, by omega, rfl, fun j _ _ h => absurd h (Nat.not_lt_zero _)⟩
  case round =>
    obtain ⟨i, hii, rfl, HK⟩ := hrel
    by_cases hi4 : i < 4
    · have hisz : (i : Int) < (s.size : Int) := by omega
      have hitz : (i : Int) < (t.size : Int) := by omega
      have hiM : (i : Int) < 4 := by omega
      have hx128 := HLO.out i (by omega)
      have hyc := HSZ.out i (by omega)
      have HG1 : Hid (upU (s[i]'(by omega)) = t[i]'(by omega) → ∀ j (hj : j < s.size) (hj2 : j < t.size), j < i + 1 → upU (s[j]'hj) = t[j]'hj2) := by
        intro e j hj hj2 hji
        by_cases e2 : j = i
        · subst e2; exact e
        · exact HK.out j hj hj2 (by omega)
      have HG2 : Hid (upU (s[i]'(by omega)) ≠ t[i]'(by omega) → FN = false) := HNO.out i (by omega) (by omega)
      obtain ⟨x, hx⟩ : ∃ x : UInt8, s[i]'(by omega) = x := ⟨_, rfl⟩
      obtain ⟨y, hy⟩ : ∃ y : UInt8, t[i]'(by omega) = y := ⟨_, rfl⟩
      rw [hx] at hx128 HG1 HG2
      rw [hy] at hyc HG1 HG2
      have HUE : Hid (upU x = y ↔ (x.toNat = y.toNat ∨ x.toNat = y.toNat + 32)) := up_eq hyc
      have hy128 : y.toNat < 128 := by omega
      have hor : bits .or .u8 (x.toNat : Int) (y.toNat : Int) = ((x.toNat ||| y.toNat : Nat) : Int) := u8_or_nat _ _ (by omega) (by omega)
      have hor128 : ¬ ((128 : Int) ≤ ((x.toNat ||| y.toNat : Nat) : Int)) := by have := Nat.or_lt_two_pow (n := 7) hx128 hy128; omega
      clear HK HNO HYS HLO HSZ
      go_wp2
      all_goals (try simp only [beq_iff_eq, beq_eq_false_iff_ne, ne_eq] at *)
      all_goals first
        | (go_round
           case measure => simp [intOf]; omega
           case rel => exact ⟨i + 1, by omega, by go_num, HG1.out (HUE.out.2 (by omega))⟩)
        | (have G : Hid (FN = false) := HG2.out (fun e => by have := HUE.out.1 e; omega)
           go_ret
           exact ⟨ret_bool G.out.symm, Below.refl _ _⟩)
    · obtain rfl : i = 4 := by omega
      have G : Hid (FN = true) := HYS.out fun j hj hj2 => HK.out j hj hj2 (by omega)
      go_wp2
      go_ret
      exact ⟨ret_bool G.out.symm, Below.refl _ _⟩

/-- strings.EqualFold at SIZE -/
theorem fold_at {w : World} (h : FoldTab w) : FoldAt w := by
  intro wx s hs hx
  by_cases hlow : ∀ j (h : j < s.size), (s[j]'h).toNat < 128
  · exact foldLow s wx hs hlow
  · obtain ⟨i0, hi0, hhi⟩ : ∃ i0, ∃ h : i0 < s.size, 128 ≤ (s[i0]'h).toNat := by
      simp only [Classical.not_forall, Nat.not_lt] at hlow
      exact hlow
    rw [fold_high hs hi0 hhi]
    exact foldHigh s sizeB wx hs rfl size_at (h.below hx) i0 hi0 hhi
end Go.Proofs.YtngcjlghjidnjaaGreatDoor
namespace Go.Proofs.YtngcjlghjidnjaaGreatDoor
open Go.ChangeShapes Go.WideShapes Go.ChangeAt Go.RowKit

set_option maxRecDepth 100000 in
theorem gAf : Tryz.prog.globalNamed "unicode.asciiFold" = some 3 := by kernel_rfl
theorem gAfT : (Tryz.prog.globals[3]?).map (·.type) = some 168 := by kernel_rfl
set_option maxRecDepth 100000 in
theorem gCo : Tryz.prog.globalNamed "unicode.caseOrbit" = some 4 := by kernel_rfl
theorem gCoT : (Tryz.prog.globals[4]?).map (·.type) = some 169 := by kernel_rfl
theorem cAf : Tryz.prog.cellsOf 168 = 128 := by kernel_rfl
theorem cU16 : Tryz.prog.cellsOf 167 = 1 := by kernel_rfl
theorem cFp : Tryz.prog.cellsOf 171 = 2 := by kernel_rfl

def afZ {H : Type} : DataW H → List Int
  | .agg l => l.map fun | .lit (.int _ z) => z | _ => 0
  | _ => []
def coL {H : Type} : DataW H → List (Int × Int)
  | .slice l _ => l.map fun | .agg [.lit (.int _ a), .lit (.int _ b)] => (a, b) | _ => (0, 0)
  | _ => []
set_option maxRecDepth 100000 in
theorem af_eq : (Rows.laid_unicode_asciiFold : DataW Unit) = Lib.tabData .u16 (afZ (Rows.laid_unicode_asciiFold : DataW Unit)) := by kernel_rfl
set_option maxRecDepth 100000 in
theorem co_eq : (Rows.laid_unicode_caseOrbit : DataW Unit) = .slice ((coL (Rows.laid_unicode_caseOrbit : DataW Unit)).map fun p => .agg [.lit (.int .u16 p.1), .lit (.int .u16 p.2)]) [] := by kernel_rfl

set_option maxRecDepth 100000 in
theorem co_len : (coL (Rows.laid_unicode_caseOrbit : DataW Unit)).length = 94 := by kernel_rfl

set_option maxHeartbeats 1000000 in
set_option maxRecDepth 100000 in
theorem afIn {W : World} {r : List (String × DataW Unit)} {ps : List MemPlace} (h : DataW.LaidVars Tryz.prog W (("unicode.asciiFold", Rows.laid_unicode_asciiFold) :: r) ps) (i : Nat) (z : Int) (hi : (afZ (Rows.laid_unicode_asciiFold : DataW Unit))[i]? = some z) : W.cell? ⟨3, i, none⟩ = some (.int .u16 z) := by
  obtain ⟨g, t, cs, fuel, p, q, hg, ht, hv, hd, _, _⟩ := h
  obtain rfl := Option.some.inj (gAf.symm.trans hg)
  obtain rfl := Option.some.inj (gAfT.symm.trans ht)
  rw [af_eq] at hd
  have hc := Lib.cells_of_tab Tryz.underlying168 Tryz.underlying167 cU16 cAf hd
  rw [World.var?_cell hg hv i, ← Array.getElem?_toList, hc, List.getElem?_map, hi]
  rfl

set_option maxHeartbeats 1000000 in
set_option maxRecDepth 100000 in
theorem coIn {W : World} {r : List (String × DataW Unit)} {ps : List MemPlace} (h : DataW.LaidVars Tryz.prog W (("unicode.caseOrbit", Rows.laid_unicode_caseOrbit) :: r) ps) :
    ∃ b off cap, W.cell? ⟨4, 0, none⟩ = some (.slice (some ⟨b, off, none⟩) (coL (Rows.laid_unicode_caseOrbit : DataW Unit)).length cap) ∧ ∀ i x y, (coL (Rows.laid_unicode_caseOrbit : DataW Unit))[i]? = some (x, y) → W.cell? ⟨b, off + i * 2, none⟩ = some (.int .u16 x) ∧ W.cell? ⟨b, off + (i * 2 + 1), none⟩ = some (.int .u16 y) := by
  obtain ⟨g, t, cs, fuel, p, q, hg, ht, hv, hd, _, _⟩ := h
  obtain rfl := Option.some.inj (gCo.symm.trans hg)
  obtain rfl := Option.some.inj (gCoT.symm.trans ht)
  rw [co_eq] at hd
  have hlen0 : 0 < (coL (Rows.laid_unicode_caseOrbit : DataW Unit)).length := by rw [co_len]; decide
  generalize coL (Rows.laid_unicode_caseOrbit : DataW Unit) = L at *
  rcases Deep.open_slice_pairs Tryz.underlying169 Tryz.underlying171 cFp rfl rfl cU16 cU16 hd with ⟨_, hx⟩ | ⟨a, len, cap, m, k, V0, V1, D0, D1, P0, P1, hc, _, hl, hm, hmm, hx, hall⟩
  · cases hx
  · have hxl := (DataW.slice.inj (Prod.mk.inj hx).1).1
    have hlen : len = L.length := by
      have := congrArg List.length hxl
      simpa using this.symm
    subst hlen
    have hmle : L.length ≤ m := by rw [hmm]; split <;> omega
    have hel : ∀ i x y, L[i]? = some (x, y) → W.cell? (a.add (i * 2)) = some (.int .u16 x) ∧ W.cell? (a.add (i * 2 + 1)) = some (.int .u16 y) := by
      intro i x y hi
      have hiL : i < L.length := (List.getElem?_eq_some_iff.1 hi).1
      obtain ⟨c0, c1, t0, t1⟩ := hall i (by omega)
      have h1 := congrArg (·[i]?) hxl
      simp only [List.getElem?_map, hi, List.getElem?_range hiL, Option.map_some, Option.some.injEq, DataW.agg.injEq, List.cons.injEq, and_true] at h1
      obtain ⟨n0, e0, f0, _⟩ := DataW.trod_int Tryz.underlying167 t0
      obtain ⟨n1, e1, f1, _⟩ := DataW.trod_int Tryz.underlying167 t1
      have g0 := (Prod.mk.inj f0).1
      have g1 := (Prod.mk.inj f1).1
      rw [g0, g1] at h1
      simp only [DataW.lit.injEq, Lit.int.injEq, true_and, List.cons.injEq, and_true] at h1 e0 e1
      obtain ⟨rfl, rfl⟩ := h1
      rw [c0, c1, e0, e1]
      exact ⟨rfl, rfl⟩
    obtain ⟨b, off, spot⟩ := a
    have hspot : spot = none := by
      obtain ⟨⟨x, y⟩, hxy⟩ : ∃ z, L[0]? = some z := ⟨L[0], List.getElem?_eq_getElem hlen0⟩
      simpa [Addr.add] using World.cell?_spot (hel 0 x y hxy).1
    subst hspot
    refine ⟨b, off, cap, ?_, fun i x y hi => ?_⟩
    rotate_left
    · have h := hel i x y hi
      by_cases h0 : i = 0
      · subst h0
        simpa [Addr.add] using h
      · have h1 : ¬ i * 2 = 0 := by omega
        simpa [Addr.add, h1] using h
    rw [World.var?_cell hg hv 0, ← Array.getElem?_toList, hc]
    rfl

set_option maxHeartbeats 1000000 in
set_option maxRecDepth 100000 in
theorem foldIn {W : World} {d0 : DataW Unit} {n0 : String} {r : List (String × DataW Unit)} (h : laidMet Tryz.prog ((n0, d0) :: ("unicode.asciiFold", Rows.laid_unicode_asciiFold) :: ("unicode.caseOrbit", Rows.laid_unicode_caseOrbit) :: r) W) : FoldTab W := by
  obtain ⟨ps, ⟨_, _, _, _, _, q, _, _, _, _, h1, _⟩, _⟩ := h
  have h2 := h1
  obtain ⟨_, _, _, _, _, q2, _, _, _, _, h3, _⟩ := h2
  have A := afIn h1
  obtain ⟨b, off, cap, C0, C⟩ := coIn h3
  refine ⟨A 83 115 (by kernel_rfl), A 115 383 (by kernel_rfl), A 73 105 (by kernel_rfl), A 105 73 (by kernel_rfl), A 90 122 (by kernel_rfl), A 122 90 (by kernel_rfl), A 69 101 (by kernel_rfl), A 101 69 (by kernel_rfl), b, off, cap, ?_, (C 47 966 981 (by kernel_rfl)).1, (C 23 837 921 (by kernel_rfl)).1, (C 11 452 453 (by kernel_rfl)).1, (C 5 197 229 (by kernel_rfl)).1, (C 8 304 304 (by kernel_rfl)).1, (C 10 383 83 (by kernel_rfl)).1, (C 9 305 305 (by kernel_rfl)).1, (C 10 383 83 (by kernel_rfl)).2⟩
  rw [C0, co_len]
end Go.Proofs.YtngcjlghjidnjaaGreatDoor
