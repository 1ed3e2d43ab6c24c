import Derived.Test.YtlolnfpfipnfeaaGreatDoorMg7
import Derived.Test.YtlolnfpfipnfeaaGreatDoorMg8
import Derived.Test.YtlolnfpfipnfeaaGreatDoorMg4
namespace Go.Proofs.YtlolnfpfipnfeaaGreatDoor
open Go.ChangeShapes Go.WideShapes Go.ChangeAt Go.RowKit

set_option maxHeartbeats 1000000 in
set_option maxRecDepth 100000 in
theorem rdTwoX (b p : Nat) (cv : Value) (B : List UInt8) (w : World) (h : RdAt w b cv B p) :
    Calls Tryz.prog 53 #[.pointer (some ⟨b, 0, none⟩)] w fun e w' => e = .returned (.int .i64 ((nx B p * 256 + nx B (px B p) : Nat) : Int)) ∧ RdAt w' b cv B (px B (px B p)) ∧ Off b w w' := by
  have H : Hid (RdAt w b cv B p) := h
  clear h
  go_enter Tryz.func53, Tryz.ntmps53
  go_wp2_with fail
  refine (rdNext b p cv B _ H.out).mono ?_
  rintro e w1 ⟨rfl, h1, ho1⟩
  have hc := nx_lt B p
  generalize hcE : nx B p = c at hc ⊢
  have HC : Hid (nx B p = c) := hcE
  have H1 : Hid (RdAt w1 b cv B (px B p)) := h1
  clear h1 hcE
  go_wp2_with fail
  refine (rdNext b (px B p) cv B _ H1.out).mono ?_
  rintro e w2 ⟨rfl, h2, ho2⟩
  have hd := nx_lt B (px B p)
  have H2 : Hid (RdAt w2 b cv B (px B (px B p))) := h2
  clear h2
  generalize hdE : nx B (px B p) = d at hd ⊢
  have HD : Hid (nx B (px B p) = d) := hdE
  clear hdE
  go_wp2
  go_ret
  rw [HC.out, HD.out]
  exact ⟨by go_num, H2.out, ho1.trans ho2⟩

/-- a text with one place changed -/
def spoAt (s : ByteArray) (a d : Nat) : ByteArray := s.extract 0 a ++ spoils.getD (d % 14) ⟨#[]⟩ ++ s.extract (if a + d / 64 % 3 ≤ s.size then a + d / 64 % 3 else s.size) s.size
def spoF (B : List UInt8) (p : Nat) (s : ByteArray) : ByteArray × Nat :=
  if 0 < s.size then (spoAt s ((nx B p * 256 + nx B (px B p)) % s.size) (nx B (px B (px B p))), px B (px B (px B p))) else (spoAt s 0 (nx B p), px B p)
theorem spo_nil {s : ByteArray} (h : s.size = 0) (y : ByteArray) (i j : Nat) : s.extract 0 0 ++ y ++ s.extract i j = y := by
  rw [empty_ofK s h]
  apply ByteArray.ext
  simp
theorem spo_end (s x : ByteArray) : x ++ s.extract s.size s.size = x := by
  apply ByteArray.ext
  simp
theorem spoAt_size (s : ByteArray) (a d : Nat) : (spoAt s a d).size ≤ 2 * s.size + 8 := by
  unfold spoAt
  have h2 := getD_le (L := spoils) (n := 8) (by decide) (d % 14)
  simp only [ByteArray.size_append, ByteArray.size_extract]
  omega
theorem spoF_size (B : List UInt8) (p : Nat) (s : ByteArray) : (spoF B p s).1.size ≤ 2 * s.size + 8 := by
  unfold spoF
  split
  · exact spoAt_size _ _ _
  · exact spoAt_size _ _ _
set_option maxHeartbeats 1000000 in
set_option maxRecDepth 100000 in
theorem rdSpoilX (b p : Nat) (cv : Value) (B : List UInt8) (s : ByteArray) (w : World) (h : RdAt w b cv B p) (hs : s.size ≤ 1048576) :
    Calls Tryz.prog 21 #[.pointer (some ⟨b, 0, none⟩), .string s] w fun e w' => e = .returned (.string (spoF B p s).1) ∧ RdAt w' b cv B (spoF B p s).2 ∧ Off b w w' := by
  have H : Hid (RdAt w b cv B p) := h
  clear h
  by_cases h0 : 0 < s.size
  · have HE : Hid (spoF B p s = (spoAt s ((nx B p * 256 + nx B (px B p)) % s.size) (nx B (px B (px B p))), px B (px B (px B p)))) := by show spoF B p s = _; unfold spoF; rw [if_pos h0]
    go_enter Tryz.func21, Tryz.ntmps21
    go_wp2_with fail
    refine (rdTwoX b p cv B _ H.out).mono ?_
    rintro e w1 ⟨rfl, h1, ho1⟩
    have hn1 := nx_lt B p
    have hn2 := nx_lt B (px B p)
    generalize hn : nx B p * 256 + nx B (px B p) = n at HE ⊢
    generalize hq1 : px B (px B p) = q1 at HE h1
    have hn3 : n < 65536 := by omega
    clear hn hq1 hn1 hn2
    have H1 : Hid (RdAt w1 b cv B q1) := h1
    clear h1
    obtain ⟨a, ha0, ha, hal⟩ : ∃ a : Nat, n % s.size = a ∧ (n : Int) % (s.size : Int) = (a : Int) ∧ a < s.size := ⟨n % s.size, rfl, by simp, Nat.mod_lt _ h0⟩
    rw [ha0] at HE
    clear ha0
    go_wp2_with fail
    refine (rdNext b q1 cv B _ H1.out).mono ?_
    rintro e w2 ⟨rfl, h2, ho2⟩
    have hd := nx_lt B q1
    have H2 : Hid (RdAt w2 b cv B (px B q1)) := h2
    clear h2
    generalize nx B q1 = d at *
    generalize px B q1 = q2 at *
    obtain ⟨m, hm0, hm, hm8⟩ : ∃ m : Nat, d % 14 = m ∧ (d : Int) % 14 = (m : Int) ∧ m < 14 := ⟨d % 14, rfl, by omega, by omega⟩
    have hys := getD_le (L := spoils) (n := 8) (by decide) m
    obtain ⟨y, hy, ey⟩ := pickE spoils m hm8
    rw [← hy] at hys
    simp only [spoils, List.map_cons, List.map_nil] at ey
    obtain ⟨t, ht0, ht, ht2⟩ : ∃ t : Nat, a + d / 64 % 3 = t ∧ (a : Int) + (d : Int) / 64 % 3 = (t : Int) ∧ a ≤ t := ⟨a + d / 64 % 3, rfl, by omega, by omega⟩
    have HA : Hid (spoAt s a d = s.extract 0 a ++ y ++ s.extract (if t ≤ s.size then t else s.size) s.size) := by show spoAt s a d = _; unfold spoAt; rw [hm0, ht0, ← hy]
    clear hm0 hy ht0
    by_cases htl : t ≤ s.size
    · have hti : ¬ (s.size : Int) < (t : Int) := by omega
      have hai : (a : Int) ≤ s.size := by omega
      go_wp2_with fail
      go_quiet (fail)
      go_wp2
      go_ret
      refine ⟨?_, by rw [HE.out]; exact H2.out.below (bel_drewN (below1 _ _) _) (Nat.le_refl _), (ho1.trans ho2).trans (Off.of_below (bel_drewN (below1 _ _) _))⟩
      rw [HE.out, HA.out, if_pos htl]
      rfl
    · have hti : (s.size : Int) < (t : Int) := by omega
      have hai : (a : Int) ≤ s.size := by omega
      go_wp2_with fail
      go_quiet (fail)
      go_wp2
      go_ret
      refine ⟨?_, by rw [HE.out]; exact H2.out.below (bel_drewN (below1 _ _) _) (Nat.le_refl _), (ho1.trans ho2).trans (Off.of_below (bel_drewN (below1 _ _) _))⟩
      rw [HE.out, HA.out, if_neg htl]
      first
        | rfl
        | (show Ending.returned (Value.string (s.extract 0 a ++ y)) = _; rw [spo_end])
  · have hs0 : s.size = 0 := by omega
    have HE : Hid (spoF B p s = (spoAt s 0 (nx B p), px B p)) := by show spoF B p s = _; unfold spoF; rw [if_neg h0]
    go_enter Tryz.func21, Tryz.ntmps21
    go_wp2_with fail
    refine (rdNext b p cv B _ H.out).mono ?_
    rintro e w2 ⟨rfl, h2, ho2⟩
    have hd := nx_lt B p
    have H2 : Hid (RdAt w2 b cv B (px B p)) := h2
    clear h2
    generalize nx B p = d at *
    generalize px B p = q2 at *
    obtain ⟨m, hm0, hm, hm8⟩ : ∃ m : Nat, d % 14 = m ∧ (d : Int) % 14 = (m : Int) ∧ m < 14 := ⟨d % 14, rfl, by omega, by omega⟩
    have hys := getD_le (L := spoils) (n := 8) (by decide) m
    obtain ⟨y, hy, ey⟩ := pickE spoils m hm8
    rw [← hy] at hys
    simp only [spoils, List.map_cons, List.map_nil] at ey
    obtain ⟨t, ht0, ht⟩ : ∃ t : Nat, 0 + d / 64 % 3 = t ∧ (d : Int) / 64 % 3 = (t : Int) := ⟨0 + d / 64 % 3, rfl, by omega⟩
    have HA : Hid (spoAt s 0 d = s.extract 0 0 ++ y ++ s.extract (if t ≤ s.size then t else s.size) s.size) := by show spoAt s 0 d = _; unfold spoAt; rw [hm0, ht0, ← hy]
    clear hm0 hy ht0
    by_cases htl : t ≤ s.size
    · have hti : ¬ (s.size : Int) < (t : Int) := by omega
      have ht0 : t = 0 := by omega
      subst ht0
      have hai : (0 : Int) ≤ s.size := by omega
      go_wp2_with fail
      go_quiet (fail)
      go_wp2
      go_ret
      refine ⟨?_, by rw [HE.out]; exact H2.out.below (bel_drewN (below1 _ _) _) (Nat.le_refl _), ho2.trans (Off.of_below (bel_drewN (below1 _ _) _))⟩
      rw [HE.out, HA.out, spo_nil hs0]
      rfl
    · have hti : (s.size : Int) < (t : Int) := by omega
      have hai : (0 : Int) ≤ s.size := by omega
      go_wp2_with fail
      go_quiet (fail)
      go_wp2
      go_ret
      refine ⟨?_, by rw [HE.out]; exact H2.out.below (bel_drewN (below1 _ _) _) (Nat.le_refl _), ho2.trans (Off.of_below (bel_drewN (below1 _ _) _))⟩
      rw [HE.out, HA.out, spo_nil hs0]
      rfl

def bHeads : List ByteArray := [⟨#[83, 117, 98, 106, 101, 99, 116, 58, 32, 104, 105]⟩, ⟨#[84, 111, 58, 32, 121, 111, 117]⟩, ⟨#[]⟩, ⟨#[46]⟩, ⟨#[46, 46, 120]⟩, ⟨#[115, 111, 109, 101, 32, 119, 111, 114, 100, 115]⟩, ⟨#[45, 45, 98, 48]⟩, ⟨#[46, 101, 110, 100]⟩]
/-- a drawn body -/
def bodGo : Nat → List UInt8 → Nat → ByteArray → ByteArray × Nat
  | 0, _, p, acc => (acc, p)
  | n + 1, B, p, acc => bodGo n B (px B p) (acc ++ (bHeads.getD (nx B p % 8) ⟨#[]⟩ ++ ⟨#[13, 10]⟩))
def bigBody (y : ByteArray) : ByteArray := y ++ ⟨#[13, 10]⟩ ++ y ++ ⟨#[13, 10]⟩ ++ y ++ ⟨#[13, 10]⟩
def bodF (B : List UInt8) (p : Nat) : ByteArray × Nat :=
  if nx B p = 255 then (bigBody (ofInts (fillL 998)), px B p) else if nx B p = 254 then (⟨#[]⟩, px B p) else bodGo (nx B p % 6) B (px B p) ⟨#[]⟩
theorem bodGo_size : ∀ (n : Nat) (B : List UInt8) (p : Nat) (acc : ByteArray), (bodGo n B p acc).1.size ≤ acc.size + n * 20
  | 0, _, _, _ => by simp [bodGo]
  | n + 1, B, p, acc => by
    rw [bodGo]
    have h1 := bodGo_size n B (px B p) (acc ++ (bHeads.getD (nx B p % 8) ⟨#[]⟩ ++ ⟨#[13, 10]⟩))
    have h2 := getD_le (L := bHeads) (n := 11) (by decide) (nx B p % 8)
    have e2 : (⟨#[13, 10]⟩ : ByteArray).size = 2 := rfl
    simp only [ByteArray.size_append] at h1
    omega
theorem bodF_size (B : List UInt8) (p : Nat) : (bodF B p).1.size ≤ 4000 := by
  unfold bodF
  split
  · have h := fill_size 998
    generalize ofInts (fillL 998) = y at *
    unfold bigBody
    have e2 : (⟨#[13, 10]⟩ : ByteArray).size = 2 := rfl
    simp only [ByteArray.size_append]
    omega
  · split
    · exact Nat.zero_le _
    · have h1 := bodGo_size (nx B p % 6) B (px B p) ⟨#[]⟩
      have e0 : (⟨#[]⟩ : ByteArray).size = 0 := rfl
      have : nx B p % 6 ≤ 5 := by omega
      omega
set_option maxHeartbeats 2000000 in
set_option maxRecDepth 100000 in
theorem rdBodyX (b p : Nat) (cv : Value) (B : List UInt8) (w : World) (h : RdAt w b cv B p) :
    Calls Tryz.prog 31 #[.pointer (some ⟨b, 0, none⟩)] w fun e w' => e = .returned (.string (bodF B p).1) ∧ RdAt w' b cv B (bodF B p).2 ∧ Off b w w' := by
  have H : Hid (RdAt w b cv B p) := h
  clear h
  go_enter Tryz.func31, Tryz.ntmps31
  go_wp2_with fail
  refine (rdNext b p cv B _ H.out).mono ?_
  rintro e w1 ⟨rfl, h1, ho1⟩
  have hc := nx_lt B p
  have H1 : Hid (RdAt w1 b cv B (px B p)) := h1
  clear h1
  generalize hcE : nx B p = c at hc ⊢
  generalize hqE : px B p = q1 at H1
  have HC : Hid (nx B p = c) := hcE
  have HP : Hid (px B p = q1) := hqE
  clear hcE hqE
  by_cases c1 : c = 255
  · subst c1
    obtain ⟨y, hyE, hys⟩ : ∃ y : ByteArray, ofInts (fillL 998) = y ∧ y.size = 998 := ⟨_, rfl, fill_size 998⟩
    have hf : Hid (∀ wx : World, Calls Tryz.prog 12 #[.int .i64 998] wx fun e w' => e = .returned (.string y) ∧ Below wx.heap.size wx w') := by
      intro wx
      refine (fill 998 wx (by decide)).mono ?_
      rintro e w' ⟨rfl, hb⟩
      exact ⟨by rw [hyE], hb⟩
    have HE : Hid (bodF B p = (bigBody y, q1)) := by show bodF B p = _; unfold bodF; rw [HC.out, HP.out, if_pos rfl, hyE]
    clear hyE
    go_wp2_with fail
    refine (hf.out _).mono ?_
    rintro e w2 ⟨rfl, hb2⟩
    have H2 : Hid (RdAt w2 b cv B q1) := H1.out.below hb2 (Nat.le_refl _)
    have ho2 : Off b w w2 := ho1.trans (Off.of_below hb2)
    clear H1 ho1 hb2
    go_wp2_with fail
    refine (hf.out _).mono ?_
    rintro e w3 ⟨rfl, hb3⟩
    have H3 : Hid (RdAt w3 b cv B q1) := H2.out.below hb3 (Nat.le_refl _)
    have ho3 : Off b w w3 := ho2.trans (Off.of_below hb3)
    clear H2 ho2 hb3
    go_wp2_with fail
    refine (hf.out _).mono ?_
    rintro e w4 ⟨rfl, hb4⟩
    have H4 : Hid (RdAt w4 b cv B q1) := H3.out.below hb4 (Nat.le_refl _)
    have ho4 : Off b w w4 := ho3.trans (Off.of_below hb4)
    clear H3 ho3 hb4 hf
    have e2 : (⟨#[13, 10]⟩ : ByteArray).size = 2 := rfl
    go_wp2
    go_ret
    rw [HE.out]
    exact ⟨rfl, H4.out, ho4⟩
  · have c1i : ((c : Int) == 255) = false := by rw [beq_eq_false_iff_ne]; omega
    by_cases c2 : c = 254
    · subst c2
      have HE : Hid (bodF B p = (⟨#[]⟩, q1)) := by show bodF B p = _; unfold bodF; rw [HC.out, HP.out, if_neg c1, if_pos rfl]
      go_wp2
      go_ret
      rw [HE.out]
      exact ⟨rfl, H1.out, ho1⟩
    · have c2i : ((c : Int) == 254) = false := by rw [beq_eq_false_iff_ne]; omega
      obtain ⟨Z, hZ, HE⟩ : ∃ Z, bodGo (c % 6) B q1 ⟨#[]⟩ = Z ∧ Hid (bodF B p = Z) := ⟨_, rfl, by show bodF B p = _; unfold bodF; rw [HC.out, HP.out, if_neg c1, if_neg c2]⟩
      go_wp2_with fail
      go_loopw [4, 5] (fun sv nv wr => ∃ (n q : Nat) (s : ByteArray), sv = .string s ∧ nv = .int .i64 n ∧ n ≤ 5 ∧ s.size + n * 20 ≤ 100 ∧ Hid (bodGo n B q s = Z) ∧ Hid (RdAt wr b cv B q) ∧ Off b w wr) (fun _ nv _ => (intOf nv).toNat)
      case atStart => exact ⟨c % 6, q1, ⟨#[]⟩, rfl, by go_num, by omega, by simp [ByteArray.size]; omega, hZ, H1, ho1⟩
      case round =>
        obtain ⟨n, q, s, rfl, rfl, hn3, hsz, HZ, HR, ho2⟩ := hrel
        by_cases hn : 0 < n
        · go_wp2_with fail
          refine (rdNext b q cv B _ HR.out).mono ?_
          rintro e w2 ⟨rfl, h2, ho3⟩
          have hd := nx_lt B q
          have H2 : Hid (RdAt w2 b cv B (px B q)) := h2
          clear h2
          obtain ⟨k, rfl⟩ : ∃ k, n = k + 1 := ⟨n - 1, by omega⟩
          have HY : Hid (bodGo k B (px B q) (s ++ (bHeads.getD (nx B q % 8) ⟨#[]⟩ ++ ⟨#[13, 10]⟩)) = Z) := HZ.out
          clear HZ
          generalize nx B q = d at *
          generalize px B q = q2 at *
          obtain ⟨m, hm0, hm, hm8⟩ : ∃ m : Nat, d % 8 = m ∧ (d : Int) % 8 = (m : Int) ∧ m < 8 := ⟨d % 8, rfl, by omega, by omega⟩
          rw [hm0] at HY
          have hy := getD_le (L := bHeads) (n := 11) (by decide) m
          obtain ⟨y, hye, ey⟩ := pickE bHeads m hm8
          rw [← hye] at HY hy
          simp only [bHeads, List.map_cons, List.map_nil] at ey
          clear hye hm0
          go_wp2_with fail
          clear ey
          generalize hW : w2.alloc _ = W2
          have hb2 : Below w2.heap.size w2 W2 := by rw [← hW]; exact below1 _ _
          have HR2 : Hid (RdAt W2 b cv B q2) := H2.out.below hb2 (Nat.le_refl _)
          have ho4 : Off b w W2 := (ho2.trans ho3).trans (Off.of_below hb2)
          clear hW hb2 H2 ho3 ho2
          go_wp2
          go_roundw
          case rel =>
            refine ⟨k, q2, _, rfl, by go_num, by omega, ?_, HY, HR2, ho4⟩
            simp only [ByteArray.size_append]
            have e2 : (⟨#[13, 10]⟩ : ByteArray).size = 2 := rfl
            omega
          case measure => simp [intOf]
        · obtain rfl : n = 0 := by omega
          obtain rfl : Z = (s, q) := HZ.out.symm
          go_wp2
          go_ret
          rw [HE.out]
          exact ⟨rfl, HR.out, ho2⟩
end Go.Proofs.YtlolnfpfipnfeaaGreatDoor
namespace Go.Proofs.YtlolnfpfipnfeaaGreatDoor
open Go.ChangeShapes Go.WideShapes Go.ChangeAt Go.RowKit

/-- the numbers of m bytes more -/
def someGo : Nat → List UInt8 → Nat → List Int → List Int × Nat
  | 0, _, p, acc => (acc, p)
  | m + 1, B, p, acc => someGo m B (px B p) (acc ++ [((nx B p : Nat) : Int)])
def someV (B : List UInt8) (p n : Nat) : List Int × Nat := someGo (nx B p % (n + 1)) B (px B p) []
def someB (B : List UInt8) (p n : Nat) : ByteArray := ofInts (someV B p n).1
def someP (B : List UInt8) (p n : Nat) : Nat := (someV B p n).2
set_option maxRecDepth 100000 in
theorem someGo_len : ∀ (m : Nat) (B : List UInt8) (p : Nat) (acc : List Int), (someGo m B p acc).1.length = acc.length + m
  | 0, _, _, _ => rfl
  | m + 1, B, p, acc => by rw [someGo, someGo_len]; simp; omega
set_option maxRecDepth 100000 in
theorem someB_size (B : List UInt8) (p n : Nat) : (someB B p n).size ≤ n := by
  rw [someB, ofInts_size, someV, someGo_len]
  have := Nat.mod_lt (nx B p) (show 0 < n + 1 by omega)
  simp; omega

set_option maxHeartbeats 2000000 in
set_option maxRecDepth 100000 in
theorem rdSome (b p n : Nat) (cv : Value) (B : List UInt8) (w : World) (h : RdAt w b cv B p) (hn : n ≤ 1000) :
    Calls Tryz.prog 29 #[.pointer (some ⟨b, 0, none⟩), .int .i64 n] w fun e w' => e = .returned (.string (someB B p n)) ∧ RdAt w' b cv B (someP B p n) ∧ Off b w w' := by
  have H : Hid (RdAt w b cv B p) := h
  have hbw : b < w.heap.size := h.2.2.2.1
  obtain ⟨i0, hi, hz0, hz1, hz2⟩ := info_parts infoU8
  clear h
  go_enter Tryz.func29, Tryz.ntmps29
  go_wp2_with fail
  refine (rdNext b p cv B _ H.out).mono ?_
  rintro e w1 ⟨rfl, h1, ho1⟩
  have hnx := nx_lt B p
  have hml : nx B p % (n + 1) ≤ n := by have := Nat.mod_lt (nx B p) (show 0 < n + 1 by omega); omega
  have HR1 : Hid (RdAt w1 b cv B (px B p)) := h1
  clear h1
  go_wp2
  go_loopw [5, 6] (fun v mv wr => ∃ (m q : Nat) (acc : List Int), mv = .int .i64 m ∧ wr.ownsRow w.heap.size 5 1 v acc.length (acc.map (Value.int .u8)) ∧ Hid (RdAt wr b cv B q) ∧ Off b w wr ∧ Hid (someGo m B q acc = someV B p n) ∧ acc.length + m ≤ 1000) (fun _ mv _ => (intOf mv).toNat)
  case atStart => exact ⟨nx B p % (n + 1), px B p, [], by go_num, World.ownsRow_nil _ _ _ _, HR1, ho1, rfl, by simp; omega⟩
  case round =>
    obtain ⟨m, q, acc, rfl, hown, HR, ho, HG, hlen⟩ := hrel
    by_cases hm : 0 < m
    · go_wp2_with fail
      refine (rdNext b q cv B _ HR.out).mono ?_
      rintro e w2 ⟨rfl, h2, ho2⟩
      have HR2 : Hid (RdAt w2 b cv B (px B q)) := h2
      have hnq := nx_lt B q
      have hzw := ho.size
      have hsz2 := ho2.size
      have hown2 : w2.ownsRow w.heap.size 5 1 u5 acc.length (acc.map (Value.int .u8)) := by
        refine ⟨hown.1, ?_⟩
        rcases hown.2 with h0 | ⟨g, cap, cur, hv, hl, hg, rest⟩
        · exact .inl h0
        · refine .inr ⟨g, cap, cur, hv, hl, ?_, rest⟩
          rw [ho2.block g (Array.getElem?_eq_some_iff.1 hg).1 (by omega)]; exact hg
      have hlos : ∀ k, u5.ownBlock = some k → w.heap.size ≤ k := fun k hk => (hown2.lt k hk).1
      have HG2 : Hid (someGo (m - 1) B (px B q) (acc ++ [((nx B q : Nat) : Int)]) = someV B p n) := by
        show _ = _
        rw [← HG.out]
        obtain ⟨m', rfl⟩ : ∃ m', m = m' + 1 := ⟨m - 1, by omega⟩
        rfl
      have ho02 : Off b w w2 := ho.trans ho2
      clear h2 hown ho ho2 HR HG
      generalize nx B q = X at hnq HG2 ⊢
      go_wp2_with (at_builtin; refine wpList_append_lies _ rfl _ _ 22 rfl w.heap.size 5 i0 (.int .u8 0) 1 1 Tryz.underlying22 hi hz0 hz1 hz2 rfl (by decide) _ _ _ rfl (hown2.alloc _) ⟨w2.heap.size, 0, none⟩ 1 1 [.int .u8 (X : Int)] rfl rfl ?c1 ?c2 ?c3 ?c4 ?c5 ?c6 (w2.heap.size + 1) ?c7 ?_)
      case c1 =>
        intro j u hj
        match j, hj with
        | 0, hj =>
          simp at hj; subst hj
          simp only [Addr.add, if_pos]
          exact World.cell?_alloc_mark w2 _ _ _ 0
      case c2 => intro u hu; simp at hu; subst hu; rfl
      case c3 => decide
      case c4 => unfold maxLen; omega
      case c5 => omega
      case c6 => simp; omega
      case c7 => simp
      intro g cap w3 hown3 hgrow hat hlt3
      have hown3' : w3.ownsRow w.heap.size 5 1 (.slice (some ⟨g, 0, none⟩) (acc.length + 1) cap) (acc ++ [(X : Int)]).length ((acc ++ [(X : Int)]).map (Value.int .u8)) := by simpa using hown3
      have hb3 : Below w.heap.size w2 w3 := ((Below.refl _ w2).alloc (by omega) _).grown hgrow (by simp; omega) hlos
      have HR3 : Hid (RdAt w3 b cv B (px B q)) := H.out.carry HR2.out hb3
      clear hown3 hgrow hat hown2 hlos
      go_wp2
      go_roundw
      case rel => exact ⟨m - 1, px B q, acc ++ [(X : Int)], by go_num, by simpa using hown3', HR3, ho02.carry hb3 (Nat.le_refl _), HG2, by simp; omega⟩
      case measure => simp [intOf]; omega
    · obtain rfl : m = 0 := by omega
      have hcv := run_row_str hown
      have HE : Hid ((acc, q) = someV B p n) := HG.out
      go_wp2
      go_ret
      refine ⟨?_, ?_, ho⟩
      · rw [someB, ← HE.out]; rfl
      · rw [someP, ← HE.out]; exact HR.out
end Go.Proofs.YtlolnfpfipnfeaaGreatDoor
