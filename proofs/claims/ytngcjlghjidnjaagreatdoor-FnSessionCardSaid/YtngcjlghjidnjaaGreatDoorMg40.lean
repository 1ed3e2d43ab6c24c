import Derived.Test.YtngcjlghjidnjaaGreatDoorMg39
import Derived.Test.YtngcjlghjidnjaaGreatDoorMg3
import Derived.Test.YtngcjlghjidnjaaGreatDoorMg9
import Derived.Test.YtngcjlghjidnjaaGreatDoorMg35
import Derived.Test.YtngcjlghjidnjaaGreatDoorMg5
import Derived.ScopeJumps
import Derived.WalkMore
import Derived.Deep.LoopGhost
import Derived.Shelf.Strings.Fold
namespace Go.Proofs.YtngcjlghjidnjaaGreatDoor
open Go.ChangeShapes Go.WideShapes Go.ChangeAt Go.RowKit
attribute [local go_sem ↓] Go.wp_at_zero Go.wp_at_succ

/-- what Feed answers -/
def feedN (ph nx : Int) (buf he fr bo : ByteArray) (R : List ByteArray) (T : List Bool) (V : List Vd) (kind : Int) (d : ByteArray) : Sn × ByteArray :=
  if properN ph nx buf he fr bo R T V then (⟨ph, buf, he, fr, bo, R, nx.toNat, T, V⟩ : Sn).feed true kind d else (snDone, ⟨#[]⟩)
theorem implFeed (ph nx : Int) (buf he fr bo : ByteArray) (u1 u2 u3 : Value) (R : List ByteArray) (T : List Bool) (V : List Vd) (kind : Int) (d : ByteArray) (lo : Nat) (w : World) (s1 : Strs w lo u1 R) (s2 : Bls w lo u2 T) (s3 : Vds w lo u3 V) (hsm : Small9 buf he fr bo R T V) (hl : LenIn w) (hf : FoldAt w) (hd : d.size ≤ 1048576) :
    Calls Tryz.prog 10 #[.agg #[.int .i64 ph, .string buf, .string he, .string fr, .string bo, u1, .int .i64 nx, u2, u3], .agg #[.int .i64 kind, .string d]] w fun e w' => SQ (feedN ph nx buf he fr bo R T V kind d) w e w' := by
  unfold feedN
  cases hp : properN ph nx buf he fr bo R T V with
  | false => exact implFeedNo ph nx buf he fr bo u1 u2 u3 R T V kind d lo w s1 s2 s3 hsm hl hp
  | true =>
    obtain ⟨n, rfl, hk⟩ := ok_of hp
    exact implFeedYes ph n buf he fr bo u1 u2 u3 R T V kind d lo w hk s1 s2 s3 hsm hl hf hd hp
theorem specFeed (ph nx : Int) (buf he fr bo : ByteArray) (u1 u2 u3 : Value) (R : List ByteArray) (T : List Bool) (V : List Vd) (kind : Int) (d : ByteArray) (lo : Nat) (w : World) (s1 : Strs w lo u1 R) (s2 : Bls w lo u2 T) (s3 : Vds w lo u3 V) (hsm : Small9 buf he fr bo R T V) (hd : d.size ≤ 1048576) :
    Calls Tryz.prog 11 #[.agg #[.int .i64 ph, .string buf, .string he, .string fr, .string bo, u1, .int .i64 nx, u2, u3], .agg #[.int .i64 kind, .string d]] w fun e w' => SQ (feedN ph nx buf he fr bo R T V kind d) w e w' := by
  unfold feedN
  cases hp : properN ph nx buf he fr bo R T V with
  | false => exact specFeedNo ph nx buf he fr bo u1 u2 u3 R T V kind d lo w s1 s2 s3 hsm hp
  | true =>
    obtain ⟨n, rfl, hk⟩ := ok_of hp
    exact specFeedYes ph n buf he fr bo u1 u2 u3 R T V kind d lo w hk s1 s2 s3 hsm hd hp

set_option maxRecDepth 100000 in
theorem szEv (kind : Int) (d : ByteArray) (n : Int) (w : World) (hn : 0 ≤ n) (hn2 : n ≤ 1048576) (hd : d.size ≤ maxLen) :
    Calls Tryz.prog 18 #[.agg #[.int .i64 kind, .string d], .int .i64 n] w fun e w' => (∃ r : Int, e = .returned (.int .i64 r) ∧ (r < 0 ∨ (0 ≤ r ∧ d.size ≤ 1048576))) ∧ Below w.heap.size w w' := by
  have hd2 : d.size ≤ 9223372036854775807 := by unfold maxLen at hd; omega
  clear hd
  by_cases h : n - (d.size : Int) < 0
  · go_enter Tryz.func18, Tryz.ntmps18
    go_wp2
    go_ret
    exact ⟨⟨_, rfl, .inl (by decide)⟩, below1 _ _⟩
  · go_enter Tryz.func18, Tryz.ntmps18
    go_wp2
    go_ret
    exact ⟨⟨_, rfl, .inr ⟨by omega, by omega⟩⟩, below1 _ _⟩
set_option maxRecDepth 100000 in
theorem toEv (kind : Int) (d : ByteArray) (w : World) :
    Calls Tryz.prog 20 #[.agg #[.int .i64 kind, .string d]] w fun e w' => e = .returned (.agg #[.int .i64 kind, .string d]) ∧ Below w.heap.size w w' := by
  go_enter Tryz.func20, Tryz.ntmps20
  go_wp2
  refine bodyPost_ret (v := .agg #[.int .i64 kind, .string d]) (by simp [results, Tryz.results20, go_sem]) rfl ?_
  exact ⟨rfl, below3 _ _ _ _⟩
end Go.Proofs.YtngcjlghjidnjaaGreatDoor
namespace Go.Proofs.YtngcjlghjidnjaaGreatDoor
open Go.ChangeShapes Go.WideShapes Go.ChangeAt Go.RowKit

/-- what of the tables of folds is looked at -/
structure FoldTab (w : World) : Prop where
  a83 : w.cell? ⟨3, 83, none⟩ = some (.int .u16 115)
  a115 : w.cell? ⟨3, 115, none⟩ = some (.int .u16 383)
  a73 : w.cell? ⟨3, 73, none⟩ = some (.int .u16 105)
  a105 : w.cell? ⟨3, 105, none⟩ = some (.int .u16 73)
  a90 : w.cell? ⟨3, 90, none⟩ = some (.int .u16 122)
  a122 : w.cell? ⟨3, 122, none⟩ = some (.int .u16 90)
  a69 : w.cell? ⟨3, 69, none⟩ = some (.int .u16 101)
  a101 : w.cell? ⟨3, 101, none⟩ = some (.int .u16 69)
  orb : ∃ b off cap, w.cell? ⟨4, 0, none⟩ = some (.slice (some ⟨b, off, none⟩) 94 cap) ∧ w.cell? ⟨b, off + 94, none⟩ = some (.int .u16 966) ∧ w.cell? ⟨b, off + 46, none⟩ = some (.int .u16 837) ∧ w.cell? ⟨b, off + 22, none⟩ = some (.int .u16 452) ∧ w.cell? ⟨b, off + 10, none⟩ = some (.int .u16 197) ∧ w.cell? ⟨b, off + 16, none⟩ = some (.int .u16 304) ∧ w.cell? ⟨b, off + 20, none⟩ = some (.int .u16 383) ∧ w.cell? ⟨b, off + 18, none⟩ = some (.int .u16 305) ∧ w.cell? ⟨b, off + 21, none⟩ = some (.int .u16 83)
theorem cell_kept {w w1 : World} {b i : Nat} {v : Value} (hb : Below w.heap.size w w1) (h : w.cell? ⟨b, i, none⟩ = some v) : w1.cell? ⟨b, i, none⟩ = some v := (hb.cell (p := ⟨b, i, none⟩) (World.block_lt_of_cell? w ⟨b, i, none⟩ h)).trans h
theorem FoldTab.below {w w1 : World} (h : FoldTab w) (hb : Below w.heap.size w w1) : FoldTab w1 := by
  obtain ⟨b, off, cap, o0, o1, o2, o3, o4, o5, o6, o7, o8⟩ := h.orb
  exact ⟨cell_kept hb h.a83, cell_kept hb h.a115, cell_kept hb h.a73, cell_kept hb h.a105, cell_kept hb h.a90, cell_kept hb h.a122, cell_kept hb h.a69, cell_kept hb h.a101, b, off, cap, cell_kept hb o0, cell_kept hb o1, cell_kept hb o2, cell_kept hb o3, cell_kept hb o4, cell_kept hb o5, cell_kept hb o6, cell_kept hb o7, cell_kept hb o8⟩

set_option maxHeartbeats 1000000 in
set_option maxRecDepth 100000 in
theorem foldA (r f : Nat) (w : World) (hr : r < 128) (hf : f < 65536) (h : w.cell? ⟨3, r, none⟩ = some (.int .u16 (f : Int))) :
    Calls Tryz.prog 173 #[.int .i32 (r : Int)] w fun e w' => e = .returned (.int .i32 (f : Int)) ∧ w' = w := by
  have h1 : ¬ (r : Int) < 0 := by omega
  have h2 : ¬ (1114111 : Int) < (r : Int) := by omega
  have h3 : (r : Int) < 128 := by omega
  go_enter Tryz.func173, Tryz.ntmps173
  go_wp2
  go_ret
  exact ⟨rfl, rfl⟩

set_option maxHeartbeats 2000000 in
set_option maxRecDepth 100000 in
theorem foldO (w : World) (h : FoldTab w) :
    Calls Tryz.prog 173 #[.int .i32 383] w fun e w' => e = .returned (.int .i32 83) ∧ w' = w := by
  obtain ⟨b, off, cap, o0, o1, o2, o3, o4, o5, o6, o7, o8⟩ := h.orb
  clear h
  go_enter Tryz.func173, Tryz.ntmps173
  go_wp2
  refine wp_loop_rounds 8 ?_
  iterate 8
    rw [rounds_succ]
    go_wp2
  go_ret
  exact ⟨rfl, rfl⟩
end Go.Proofs.YtngcjlghjidnjaaGreatDoor
namespace Go.Proofs.YtngcjlghjidnjaaGreatDoor
open Go.ChangeShapes Go.WideShapes Go.ChangeAt Go.RowKit
open Pcs

set_option maxHeartbeats 1000000 in
set_option maxRecDepth 100000 in
theorem decAscii (s : ByteArray) (w : World) (h : 0 < s.size) (hx : (s[0]'h).toNat < 128) :
    Calls Tryz.prog 153 #[.string s] w fun e w' => e = .returned (.tuple #[.int .i32 ((s[0]'h).toNat : Int), .int .i64 1]) ∧ w' = w := by
  have hln := list_ne (x := s) (by omega)
  have hi : (0 : Int) < s.size := by omega
  have hx1 : ((s[0]'h).toNat : Int) < 128 := by omega
  go_enter Tryz.func153, Tryz.ntmps153
  go_wp2
  refine bodyPost_ret (v := .tuple #[.int .i32 ((s[0]'h).toNat : Int), .int .i64 1]) (by simp [results, Tryz.results153, go_sem]) rfl ⟨rfl, rfl⟩
theorem decode_two {s : ByteArray} {pos : Nat} (h : pos < s.size) (ha : 128 ≤ (s[pos]'h).toNat) (hr : (Utf8.decode s pos).1 = 383) : 2 ≤ (Utf8.decode s pos).2 := by
  obtain ⟨_, d2, _, _⟩ := decode_skip s pos h ha
  rcases Nat.lt_or_ge (Utf8.decode s pos).2 2 with h1 | h1
  · exfalso
    have h2 : (Utf8.decode s pos).2 = 1 := by omega
    have hb : ∀ k, (s.get! (pos + k)).toNat < 256 := fun k => (s.get! (pos + k)).toNat_lt
    have g0 : ¬ (s.get! (pos + 0)).toNat < 128 := by
      simp [ByteArray.get!, getElem!_pos, h]
      have : (s[pos]'h).toNat = s.data[pos].toNat := rfl
      omega
    revert hr h2
    simp only [Utf8.decode, g0, if_false]
    repeat' split
    all_goals (intro hr h2; first | (simp at h2; done) | exact absurd hr (by decide))
  · exact h1

theorem decode_any (s : ByteArray) (pos : Nat) (h : pos < s.size) : 1 ≤ (Utf8.decode s pos).2 ∧ pos + (Utf8.decode s pos).2 ≤ s.size ∧ ((Utf8.decode s pos).1 = 383 → 2 ≤ (Utf8.decode s pos).2) ∧ (128 ≤ (s[pos]'h).toNat → 128 ≤ (Utf8.decode s pos).1) := by
  by_cases ha : 128 ≤ (s[pos]'h).toNat
  · obtain ⟨d1, d2, d3, _⟩ := decode_skip s pos h ha
    exact ⟨d2, d3, decode_two h ha, fun _ => d1⟩
  · have g0 : (s.get! (pos + 0)).toNat < 128 := by
      simp [ByteArray.get!, getElem!_pos, h]
      have : (s[pos]'h).toNat = s.data[pos].toNat := rfl
      omega
    have e : Utf8.decode s pos = ((s.get! (pos + 0)).toNat, 1) := by simp only [Utf8.decode, g0, if_true]
    rw [e]
    exact ⟨Nat.le_refl _, by show pos + 1 ≤ _; omega, fun h3 => by have : (s.get! (pos + 0)).toNat = 383 := h3; omega, fun h3 => absurd h3 ha⟩

set_option maxHeartbeats 8000000 in
set_option maxRecDepth 1000000 in
theorem foldHigh (s t : ByteArray) (w : World) (hs : s.size = 4) (ht : t.size = 4) (htb : ∀ j (h : j < t.size), (t[j]'h).toNat = 83 ∨ (t[j]'h).toNat = 73 ∨ (t[j]'h).toNat = 90 ∨ (t[j]'h).toNat = 69) (hft : FoldTab w) (i0 : Nat) (hi0 : i0 < s.size) (hhi : 128 ≤ (s[i0]'hi0).toNat) :
    Calls Tryz.prog 170 #[.string s, .string t] w fun e w' => e = .returned (.bool false) ∧ Below w.heap.size w w' := by
  have hsi : (s.size : Int) = 4 := by omega
  have hti : (t.size : Int) = 4 := by omega
  have HTB : Hid (∀ j (h : j < t.size), (t[j]'h).toNat < 128) := fun j h => by have := htb j h; omega
  have HTC : Hid (∀ j (h : j < t.size), (t[j]'h).toNat = 83 ∨ (t[j]'h).toNat = 73 ∨ (t[j]'h).toNat = 90 ∨ (t[j]'h).toNat = 69) := htb
  have HHI : Hid (128 ≤ byteOf s i0) := by show _ ≤ _; rw [byteOf_eq s i0 hi0]; exact hhi
  have HFT : Hid (FoldTab w) := hft
  clear htb hhi hft
  go_enter Tryz.func170, Tryz.ntmps170
  go_wp2
  refine wp_scope_jumps 0 (fun a' w' => w' = w ∧ ∃ (i : Nat), i < 4 ∧ 128 ≤ byteOf s i ∧ ∃ (u4 u6 u7 u8 u14 u15 u16 u17 u18 u19 u20 u21 u22 u23 u24 u25 u26 u27 u28 u29 u30 u31 u32 u33 u34 u35 u36 u37 u38 u39 u40 u41 u42 u43 u44 u45 u46 u47 u48 u49 u50 u51 u52 u53 u54 : Value), a' = { tmps := #[.string s, .string t, undef, undef, u4, .int .i64 (i : Int), u6, u7, u8, undef, undef, undef, undef, undef, u14, u15, u16, u17, u18, u19, u20, u21, u22, u23, u24, u25, u26, u27, u28, u29, u30, u31, u32, u33, u34, u35, u36, u37, u38, u39, u40, u41, u42, u43, u44, u45, u46, u47, u48, u49, u50, u51, u52, u53, u54, undef, undef, undef, undef, undef, undef, undef, undef, undef, undef, undef, undef, undef, undef, undef, undef, undef, undef, undef, undef, undef, undef, undef, undef, undef, undef, undef, undef, undef, undef, undef, undef, undef, undef, undef, undef, undef, undef, undef, undef, undef, undef, undef, undef, undef, undef, undef, undef, undef, undef, undef, undef, undef, undef, undef, undef, undef, undef, undef, undef, undef, undef, undef, undef, undef, undef, undef, undef], defers := [] }) (fun _ _ => 0) rfl ?_ ?_
  · go_wp2
    go_loop [5] (fun iv => ∃ i : Nat, i ≤ i0 ∧ iv = .int .i64 i) (fun iv => 4 - (intOf iv).toNat)
    case atStart => exact ⟨0, Nat.zero_le _, rfl⟩
    case round =>
      obtain ⟨i, hii, rfl⟩ := hrel
      have hisz : (i : Int) < (s.size : Int) := by omega
      have hitz : (i : Int) < (t.size : Int) := by omega
      have hiM : (i : Int) < 4 := by omega
      have HX : Hid (byteOf s i = (s[i]'(by omega)).toNat) := byteOf_eq s i (by omega)
      have hy128 := HTB.out i (by omega)
      have hx256 : (s[i]'(by omega)).toNat < 256 := UInt8.toNat_lt _
      obtain ⟨x, hx⟩ : ∃ x : UInt8, s[i]'(by omega) = x := ⟨_, rfl⟩
      obtain ⟨y, hy⟩ : ∃ y : UInt8, t[i]'(by omega) = y := ⟨_, rfl⟩
      rw [hx] at HX hx256
      rw [hy] at hy128
      have hor : bits .or .u8 (x.toNat : Int) (y.toNat : Int) = ((x.toNat ||| y.toNat : Nat) : Int) := u8_or_nat _ _ (by omega) (by omega)
      by_cases hx128 : x.toNat < 128
      · have hor128 : ¬ ((128 : Int) ≤ ((x.toNat ||| y.toNat : Nat) : Int)) := by have := Nat.or_lt_two_pow (n := 7) hx128 hy128; omega
        have hne : i < i0 := by
          rcases Nat.lt_or_ge i i0 with h | h
          · exact h
          · have : i = i0 := by omega
            subst this
            have := HHI.out; rw [HX.out] at this; omega
        go_wp2
        all_goals (try simp only [beq_iff_eq, beq_eq_false_iff_ne, ne_eq] at *)
        all_goals first
          | (go_round
             case measure => simp [intOf]; omega
             case rel => exact ⟨i + 1, by omega, by go_num⟩)
          | (simp only [Exit.jump]
             go_ret
             exact ⟨rfl, Below.refl _ _⟩)
      · have hor128 : (128 : Int) ≤ ((x.toNat ||| y.toNat : Nat) : Int) := by have : x.toNat ≤ x.toNat ||| y.toNat := Nat.left_le_or; omega
        have hb128 : 128 ≤ byteOf s i := by rw [HX.out]; omega
        go_wp2
        go_step3
        exact ⟨rfl, rfl, i, by omega, hb128, _, _, _, _, _, _, _, _, _, _, _, _, _, _, _, _, _, _, _, _, _, _, _, _, _, _, _, _, _, _, _, _, _, _, _, _, _, _, _, _, _, _, _, _, _, rfl⟩
  · rintro a' w' ⟨rfl, i, hi4, hb128, u4, u6, u7, u8, u14, u15, u16, u17, u18, u19, u20, u21, u22, u23, u24, u25, u26, u27, u28, u29, u30, u31, u32, u33, u34, u35, u36, u37, u38, u39, u40, u41, u42, u43, u44, u45, u46, u47, u48, u49, u50, u51, u52, u53, u54, rfl⟩
    have hi2 : (i : Int) ≤ 4 := by omega
    clear HHI hi0
    have hS : (s.extract i 4).size = 4 - i := by rw [ByteArray.size_extract]; omega
    have HS0 : Hid (∀ (h : 0 < (s.extract i 4).size), 128 ≤ ((s.extract i 4)[0]'h).toNat) := by
      intro h
      rw [byteOf_eq s i (by omega)] at hb128
      simpa [ByteArray.getElem_extract] using hb128
    go_wp2_with fail
    generalize s.extract i 4 = S at *
    go_loopg [1] S.size (fun g tv wx => ∃ (p j : Nat), p + g = S.size ∧ tv = .string (t.extract j 4) ∧ j ≤ 4 ∧ wx.heap[w'.heap.size]? = some (.stringIter S p) ∧ Below w'.heap.size w' wx ∧ ((p = 0 ∧ j = i) ∨ S.size - p < 4 - j))
    case atStart => exact ⟨0, i, by omega, rfl, by omega, World.iter_heap w' S 0, below1 _ _, .inl ⟨rfl, rfl⟩⟩
    case round =>
      obtain ⟨p, j, hpg, rfl, hj4, hit, hbw, hinv⟩ := hrel
      by_cases hp : p < S.size
      · obtain ⟨d1, d2, d3, d4⟩ := decode_any S p hp
        have hp0 : p = 0 → 128 ≤ (Utf8.decode S p).1 := fun e => by
          subst e
          exact d4 (HS0.out hp)
        have hnx := fun ty => Lib.run_next_any_at (P := Tryz.prog) wr w'.heap.size S p ty hit hp
        have HI : Hid (∀ q, (wr.iterAt w'.heap.size S q).heap[w'.heap.size]? = some (.stringIter S q)) := fun q => Lib.iterAt_heap wr _ S p q hit
        have HBI : Hid (∀ q, Below w'.heap.size w' (wr.iterAt w'.heap.size S q)) := fun q => below_iter hbw
        have d5 := decode_le S p
        obtain ⟨r, Hr⟩ : ∃ r, Hid ((Utf8.decode S p).1 = r) := ⟨_, rfl⟩
        obtain ⟨m, Hm⟩ : ∃ m, Hid ((Utf8.decode S p).2 = m) := ⟨_, rfl⟩
        rw [Hr.out] at hp0 d5 d3 hnx
        rw [Hm.out] at d1 d2 d3 hnx
        clear hit hbw d4
        by_cases hj : j = 4
        · have hts : (t.extract j 4).size = 0 := by rw [ByteArray.size_extract]; omega
          have hte : (((t.extract j 4).size : Int) == 0) = true := by rw [hts]; rfl
          go_wp2
          simp only [Exit.jump]
          go_ret
          exact ⟨rfl, HBI.out _⟩
        have hts : (t.extract j 4).size = 4 - j := by rw [ByteArray.size_extract]; omega
        have hte : (((t.extract j 4).size : Int) == 0) = false := by rw [beq_eq_false_iff_ne]; omega
        have ht0 : 0 < (t.extract j 4).size := by omega
        have hgx : (t.extract j 4)[0]'ht0 = t[j]'(by omega) := by simp [ByteArray.getElem_extract]
        have hyc := HTC.out j (by omega)
        have hsl : ∀ wx, (Instr.slice 9 (.string (t.extract j 4)) (some (.int .i64 1)) none none).run Tryz.prog wx = .ok (.string (t.extract (j + 1) 4)) wx := by
          intro wx
          rw [run_slice_string_from_if wx 9 _ .i64 1 Tryz.underlying9, if_pos (by omega), hts]
          have e : (t.extract j 4).extract (1 : Int).toNat (4 - j) = t.extract (j + 1) 4 := by
            apply ByteArray.ext
            rw [← Array.toList_inj, Lib.extract_data, Lib.extract_data, Lib.extract_data]
            show ((List.drop 1 (List.take (4 - j) (List.drop j t.data.toList))).take (4 - j - 1)) = _
            rw [List.drop_take, List.take_take, List.drop_drop, show min (4 - j - 1) (4 - j - 1) = 4 - (j + 1) by omega]
          rw [e]
        have hdec := fun wx => decAscii (t.extract j 4) wx ht0 (by rw [hgx]; omega)
        simp only [hgx] at hdec
        generalize t[j]'(by omega) = yb at *
        have hy128 : yb.toNat < 128 := by omega
        go_wp2_with fail
        refine (hdec _).mono ?_
        rintro e w2 ⟨rfl, hw2⟩
        rw [hw2]
        have hWi := HI.out (p + m)
        have hWb := HBI.out (p + m)
        generalize wr.iterAt w'.heap.size S (p + m) = W at *
        clear hw2 hdec hnx HI HBI hgx
        have HWi : Hid (W.heap[w'.heap.size]? = some (.stringIter S (p + m))) := hWi
        clear hWi
        by_cases e : r = yb.toNat
        · have hpp : p ≠ 0 := fun e0 => by have := hp0 e0; omega
          have hee : ((yb.toNat : Int) == (r : Int)) = true := by rw [beq_iff_eq]; omega
          go_wp2
          go_roundg (S.size - (p + m))
          case measure => omega
          case rel => exact ⟨p + m, j + 1, by omega, rfl, by omega, HWi.out, hWb, .inr (by omega)⟩
        have hee : ((yb.toNat : Int) == (r : Int)) = false := by rw [beq_eq_false_iff_ne]; omega
        by_cases r128 : r < 128
        · have hpp : p ≠ 0 := fun e0 => by have := hp0 e0; omega
          go_wp2
          all_goals (try simp only [beq_iff_eq, beq_eq_false_iff_ne, ne_eq] at *)
          all_goals first
            | (go_roundg (S.size - (p + m))
               case measure => omega
               case rel => exact ⟨p + m, j + 1, by omega, rfl, by omega, HWi.out, hWb, .inr (by omega)⟩)
            | (simp only [Exit.jump]
               go_ret
               exact ⟨rfl, hWb⟩)
        have hlt : (yb.toNat : Int) < (r : Int) := by omega
        have hr128 : ¬ (r : Int) < 128 := by omega
        have FT := HFT.out.below hWb
        clear e hee
        rcases hyc with hy | hy | hy | hy
        · have hyi : (yb.toNat : Int) = 83 := by omega
          go_wp2_with fail
          refine (foldA 83 115 _ (by decide) (by decide) FT.a83).mono ?_
          rintro e w3 ⟨rfl, hw3⟩
          rw [hw3]
          clear hw3
          have hr115 : (115 : Int) < (r : Int) := by omega
          go_wp2_with fail
          refine wp_loop_rounds 3 ?_
          rw [rounds_succ]
          go_wp2_with fail
          refine (foldA 115 383 _ (by decide) (by decide) FT.a115).mono ?_
          rintro e w4 ⟨rfl, hw4⟩
          rw [hw4]
          clear hw4
          go_wp2_with fail
          rw [rounds_succ]
          by_cases hr383 : 383 < r
          · have hr383i : (383 : Int) < (r : Int) := by omega
            have hr83 : ((83 : Int) == (r : Int)) = false := by rw [beq_eq_false_iff_ne]; omega
            go_wp2_with fail
            refine (foldO _ FT).mono ?_
            rintro e w5 ⟨rfl, hw5⟩
            rw [hw5]
            clear hw5
            go_wp2_with fail
            rw [rounds_succ]
            go_wp2
            simp only [Exit.jump]
            go_ret
            exact ⟨rfl, hWb⟩
          · have hr383i : ¬ (383 : Int) < (r : Int) := by omega
            by_cases hreq : r = 383
            · have hreqb : ((383 : Int) == (r : Int)) = true := by rw [beq_iff_eq]; omega
              have hm2 := d3 hreq
              go_wp2
              go_roundg (S.size - (p + m))
              case measure => omega
              case rel => exact ⟨p + m, j + 1, by omega, rfl, by omega, HWi.out, hWb, .inr (by omega)⟩
            · have hreqb : ((383 : Int) == (r : Int)) = false := by rw [beq_eq_false_iff_ne]; omega
              go_wp2
              simp only [Exit.jump]
              go_ret
              exact ⟨rfl, hWb⟩
        · have hyi : (yb.toNat : Int) = 73 := by omega
          go_wp2_with fail
          refine (foldA 73 105 _ (by decide) (by decide) FT.a73).mono ?_
          rintro e w3 ⟨rfl, hw3⟩
          rw [hw3]
          clear hw3
          have hr115 : (105 : Int) < (r : Int) := by omega
          have hrne : ((73 : Int) == (r : Int)) = false := by rw [beq_eq_false_iff_ne]; omega
          go_wp2_with fail
          refine wp_loop_rounds 3 ?_
          rw [rounds_succ]
          go_wp2_with fail
          refine (foldA 105 73 _ (by decide) (by decide) FT.a105).mono ?_
          rintro e w4 ⟨rfl, hw4⟩
          rw [hw4]
          clear hw4
          go_wp2_with fail
          rw [rounds_succ]
          go_wp2
          simp only [Exit.jump]
          go_ret
          exact ⟨rfl, hWb⟩
        · have hyi : (yb.toNat : Int) = 90 := by omega
          go_wp2_with fail
          refine (foldA 90 122 _ (by decide) (by decide) FT.a90).mono ?_
          rintro e w3 ⟨rfl, hw3⟩
          rw [hw3]
          clear hw3
          have hr115 : (122 : Int) < (r : Int) := by omega
          have hrne : ((90 : Int) == (r : Int)) = false := by rw [beq_eq_false_iff_ne]; omega
          go_wp2_with fail
          refine wp_loop_rounds 3 ?_
          rw [rounds_succ]
          go_wp2_with fail
          refine (foldA 122 90 _ (by decide) (by decide) FT.a122).mono ?_
          rintro e w4 ⟨rfl, hw4⟩
          rw [hw4]
          clear hw4
          go_wp2_with fail
          rw [rounds_succ]
          go_wp2
          simp only [Exit.jump]
          go_ret
          exact ⟨rfl, hWb⟩
        · have hyi : (yb.toNat : Int) = 69 := by omega
          go_wp2_with fail
          refine (foldA 69 101 _ (by decide) (by decide) FT.a69).mono ?_
          rintro e w3 ⟨rfl, hw3⟩
          rw [hw3]
          clear hw3
          have hr115 : (101 : Int) < (r : Int) := by omega
          have hrne : ((69 : Int) == (r : Int)) = false := by rw [beq_eq_false_iff_ne]; omega
          go_wp2_with fail
          refine wp_loop_rounds 3 ?_
          rw [rounds_succ]
          go_wp2_with fail
          refine (foldA 101 69 _ (by decide) (by decide) FT.a101).mono ?_
          rintro e w4 ⟨rfl, hw4⟩
          rw [hw4]
          clear hw4
          go_wp2_with fail
          rw [rounds_succ]
          go_wp2
          simp only [Exit.jump]
          go_ret
          exact ⟨rfl, hWb⟩
      · have hnx := fun ty => Lib.run_next_end_at (P := Tryz.prog) wr w'.heap.size S p ty hit hp
        have hts : (t.extract j 4).size = 4 - j := by rw [ByteArray.size_extract]; omega
        have hte : (((4 - j : Nat) : Int) == 0) = false := by rw [beq_eq_false_iff_ne]; omega
        clear hit
        go_wp2
        simp only [Exit.jump]
        go_ret
        exact ⟨by first | rfl | (rw [hte]; rfl), hbw⟩
end Go.Proofs.YtngcjlghjidnjaaGreatDoor
