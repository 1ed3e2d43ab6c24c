import Derived.Test.YtlolnfpfipnfeaaGreatDoorMg40
import Derived.Test.YtlolnfpfipnfeaaGreatDoorMg41
import Derived.Test.YtlolnfpfipnfeaaGreatDoorMg42
import Derived.Test.YtlolnfpfipnfeaaGreatDoorMg43
import Derived.Test.YtlolnfpfipnfeaaGreatDoorMg44
import Derived.Test.YtlolnfpfipnfeaaGreatDoorCards
import Derived.Test.YtlolnfpfipnfeaaGreatDoorTie
import Derived.Test.YtlolnfpfipnfeaaGreatDoorMg1
import Derived.Test.YtlolnfpfipnfeaaGreatDoorMg16
import Derived.Deep.DeepHandedRow
import Derived.Lay
import Derived.HandedShaped
namespace Go.Proofs.YtlolnfpfipnfeaaGreatDoor
open Go.ChangeShapes Go.WideShapes Go.ChangeAt Go.RowKit
open Pcs

theorem bArg_form {w : World} {cv : Value} {B : List UInt8} (hB : BytesArg w cv B) : ∃ a c, cv = .slice a B.length c := by
  rcases hB.2 with ⟨rfl, a, c, rfl⟩ | ⟨g, off, cap, rfl, _⟩
  · exact ⟨_, _, rfl⟩
  · exact ⟨_, _, rfl⟩
theorem bArg_code {w : World} {cv : Value} {B : List UInt8} (hB : BytesArg w cv B) (h : B.length ≤ 1048576) : CodeAt w cv B := ⟨h, hB.2⟩
theorem make_ne {b : Bn} (h : makeI b ≠ ⟨#[]⟩) : bnOk b = true := by
  cases hb : bnOk b
  · exact absurd (make_no hb).1 h
  · rfl
theorem rd_made {b : Bn} {s : ByteArray} {lo : Nat} {e : Ending} {w' : World} (hs : makeI b = s) (hn : s ≠ ⟨#[]⟩) (h : RdOk s lo e w') : ∃ fv, e = .returned (.tuple #[bnV b fv, .bool true]) ∧ Fls w' lo fv b.fs := by
  have hb : bnOk b = true := make_ne (by rw [hs]; exact hn)
  have hr : readI s.data.toList = b := by rw [← hs]; exact readBack hb
  have ho : okI s = true := by
    unfold okI
    rw [hr, decide_eq_true hs, Bool.and_true, decide_eq_true_eq]
    exact fun hz => hn (empty_ofK s hz)
  rcases h with ⟨_, fv, he, hf, _⟩ | ⟨h0, _⟩
  · rw [hr] at he hf
    exact ⟨fv, he, hf⟩
  · rw [ho] at h0
    cases h0
theorem ok_same {t : ByteArray} (h : TxY t) : okI t = okS t := okI_okS h.cw
theorem ok_made {t : ByteArray} (h : okI t = true) : makeI (readI t.data.toList) = t := by
  unfold okI at h
  simp only [Bool.and_eq_true, decide_eq_true_eq] at h
  exact h.2

set_option maxHeartbeats 4000000 in
set_option maxRecDepth 100000 in
theorem bouncesLaw (cv mv : Value) (B M : List UInt8) (w : World) (hB : BytesArg w cv B) (hM : BytesArg w mv M) (hE : Env w) :
    Calls Tryz.prog 3 #[cv, mv] w fun e w' => e = .returned (.bool true) ∧ Below w.heap.size w w' := by
  have HE : Hid (Env w) := hE
  obtain ⟨ca, cc, hcv⟩ := bArg_form hB
  obtain ⟨ma, mc, hmv⟩ := bArg_form hM
  have hBm := hB.1
  have hMm := hM.1
  unfold maxLen at hBm hMm
  clear hE
  by_cases h1 : 1048576 < B.length
  · subst hcv hmv
    clear hB hM
    go_enter Tryz.func3, Tryz.ntmps3
    go_wp2
    go_ret
    exact ⟨rfl, Below.refl _ _⟩
  by_cases h2 : 1048576 < M.length
  · subst hcv hmv
    clear hB hM
    have h1i : ¬ (1048576 : Int) < B.length := by omega
    have h2i : (1048576 : Int) < M.length := by omega
    go_enter Tryz.func3, Tryz.ntmps3
    go_wp2
    go_ret
    exact ⟨rfl, Below.refl _ _⟩
  by_cases h3 : 1048576 < B.length + M.length
  · subst hcv hmv
    clear hB hM
    have h1i : ¬ (1048576 : Int) < B.length := by omega
    have h2i : ¬ (1048576 : Int) < M.length := by omega
    have h3i : (1048576 : Int) < B.length + M.length := by omega
    go_enter Tryz.func3, Tryz.ntmps3
    go_wp2
    go_ret
    exact ⟨rfl, Below.refl _ _⟩
  have h1i : ¬ (1048576 : Int) < B.length := by omega
  have h2i : ¬ (1048576 : Int) < M.length := by omega
  have h3i : ¬ (1048576 : Int) < B.length + M.length := by omega
  have HCB : Hid (CodeAt w cv B) := bArg_code hB (by omega)
  have HCM : Hid (CodeAt w mv M) := bArg_code hM (by omega)
  clear hB hM
  subst hcv hmv
  have HY := mkbF_y B
  have hsm := mk_small (mkbF_s B)
  have HDM : Hid (∀ wx : World, Below w.heap.size w wx → Calls Tryz.prog 4 #[.slice ca B.length cc] wx fun e w' => (∃ fv, e = .returned (bnV (mkbF B) fv) ∧ Fls w' wx.heap.size fv (mkbF B).fs) ∧ Below wx.heap.size wx w') := fun wx hx => drawMake _ B wx (HCB.out.below hx)
  generalize mkbF B = X at *
  obtain ⟨he, tw, L, hd⟩ := X
  have HSA : Hid (makeS ⟨he, tw, L, hd⟩ = makeI ⟨he, tw, L, hd⟩) := makeSame HY.cw
  have HZ : Hid (BnZ ⟨he, tw, L, hd⟩) := HY.z
  have hLn : L.length ≤ 1048576 := HY.z.n
  obtain ⟨s, hs⟩ : ∃ s, makeI ⟨he, tw, L, hd⟩ = s := ⟨_, rfl⟩
  rw [hs] at HSA
  have HS : Hid (makeI ⟨he, tw, L, hd⟩ = s) := hs
  have zs0 : s.size ≤ 30000 := by rw [HSA.out] at hsm; exact hsm
  clear HY hs hsm
  go_enter Tryz.func3, Tryz.ntmps3
  go_wp2_with fail
  refine (HDM.out _ (Below.refl _ _)).mono ?_
  rintro e w1 ⟨⟨fv, rfl, hF⟩, b1⟩
  obtain ⟨a, cp, rfl⟩ := fls_form hF
  try dsimp only at hF
  have F1 : Hid (Fls w1 w.heap.size (.slice a L.length cp) L) := hF
  unfold bnV
  try dsimp only
  clear hF
  go_wp2_with fail
  generalize hV : w1.alloc _ = V1
  obtain ⟨b5, hb5⟩ : ∃ b5, b5 = w1.heap.size := ⟨_, rfl⟩
  have bV : Below w1.heap.size w1 V1 := by rw [← hV]; exact below1 _ _
  have Q1 : Hid (Blk b5 #[.string he, .string tw, (.slice a L.length cp), .string hd] V1) := by show Blk _ _ _; rw [← hV, hb5]; exact Blk.new _ _ _
  have B1 : Hid (Below w.heap.size w V1) := b1.trans (bV.mono b1.size)
  have F2 : Hid (Fls V1 w.heap.size (.slice a L.length cp) L) := fls_below F1.out bV (Nat.le_refl _)
  have lb5 : w.heap.size ≤ b5 := by rw [hb5]; exact b1.size
  rw [← hb5]
  clear hV bV hb5 F1 b1
  refine (HDM.out _ B1.out).mono ?_
  rintro e w2 ⟨⟨fv2, rfl, hF⟩, b2⟩
  obtain ⟨a3, cp3, rfl⟩ := fls_form hF
  try dsimp only at hF
  have F3 : Hid (Fls w2 V1.heap.size (.slice a3 L.length cp3) L) := hF
  have Q2 : Hid (Blk b5 #[.string he, .string tw, (.slice a L.length cp), .string hd] w2) := Q1.out.below b2
  have F4 : Hid (Fls w2 w.heap.size (.slice a L.length cp) L) := fls_below F2.out b2 (Nat.le_refl _)
  have B2 : Hid (Below w.heap.size w w2) := B1.out.trans (b2.mono B1.out.size)
  have HMI : Hid (Calls Tryz.prog 5 #[.agg #[.string he, .string tw, .slice a3 L.length cp3, .string hd]] w2 fun e w' => e = .returned (.string s) ∧ Below w2.heap.size w2 w') := by
    have := implMake ⟨he, tw, L, hd⟩ (.slice a3 L.length cp3) _ w2 (HE.out.below B2.out) F3.out HZ.out
    rw [HS.out] at this
    exact this
  unfold bnV
  try dsimp only
  clear hF b2 Q1 F2 B1 F3 HDM
  go_wp2_with fail
  refine HMI.out.mono ?_
  rintro e w3 ⟨rfl, b3⟩
  have Q3 : Hid (Blk b5 #[.string he, .string tw, (.slice a L.length cp), .string hd] w3) := Q2.out.below b3
  have F5 : Hid (Fls w3 w.heap.size (.slice a L.length cp) L) := fls_below F4.out b3 (Nat.le_refl _)
  have B3 : Hid (Below w.heap.size w w3) := B2.out.trans (b3.mono B2.out.size)
  have HMS : Hid (Calls Tryz.prog 6 #[.agg #[.string he, .string tw, (.slice a L.length cp), .string hd]] w3 fun e w' => e = .returned (.string s) ∧ Below w3.heap.size w3 w') := by
    have := specMake ⟨he, tw, L, hd⟩ (.slice a L.length cp) _ w3 F5.out HZ.out
    rw [HSA.out] at this
    exact this
  have x0 : w3.cell? ⟨b5, 0, none⟩ = some (.string he) := Q3.out.cell 0
  have x1 : w3.cell? ⟨b5, 1, none⟩ = some (.string tw) := Q3.out.cell 1
  have x2 : w3.cell? ⟨b5, 2, none⟩ = some (.slice a L.length cp) := Q3.out.cell 2
  have x3 : w3.cell? ⟨b5, 3, none⟩ = some (.string hd) := Q3.out.cell 3
  clear b3 Q2 F4 B2 HMI
  go_wp2_with fail
  refine HMS.out.mono ?_
  rintro e w4 ⟨rfl, b4⟩
  have Q4 : Hid (Blk b5 #[.string he, .string tw, (.slice a L.length cp), .string hd] w4) := Q3.out.below b4
  have F6 : Hid (Fls w4 w.heap.size (.slice a L.length cp) L) := fls_below F5.out b4 (Nat.le_refl _)
  have B4 : Hid (Below w.heap.size w w4) := B3.out.trans (b4.mono B3.out.size)
  clear b4 Q3 F5 B3 HMS x0 x1 x2 x3 HSA
  by_cases hsn : s = ⟨#[]⟩
  · have hse : s.toList.isEmpty = true := by rw [hsn, Lib.toList_data]; rfl
    have Br := B4
    clear hsn Q4 F6 B4 HS HZ
    go_wp2_with fail
    refine (drawRead _ M _ (HCM.out.below Br.out)).mono ?_
    rintro e w6 ⟨⟨t, rfl, hT⟩, b6⟩
    have B6 : Hid (Below w.heap.size w w6) := Br.out.trans (b6.mono Br.out.size)
    have HT : Hid (TxY t) := hT
    have zt : t.size ≤ 20000 := hT.le
    clear hT b6 Br
    go_wp2_with fail
    refine (implRead t _ (HE.out.below B6.out) (by omega)).mono ?_
    rintro e w7 ⟨hrd, b7'⟩
    have B7 : Hid (Below w.heap.size w w7) := B6.out.trans (b7'.mono B6.out.size)
    have HSR : Hid (∀ wx : World, Calls Tryz.prog 9 #[.string t] wx fun e w' => (∃ (x0 x1 x3 : ByteArray) (a : Option Addr) (n c : Nat), e = .returned (.tuple #[.agg #[.string x0, .string x1, .slice a n c, .string x3], .bool (okI t)])) ∧ Below wx.heap.size wx w') := fun wx => by rw [ok_same HT.out]; exact specReadS t wx zt
    rcases hrd with ⟨hok, fz, rfl, hG, hz⟩ | ⟨hok, rfl⟩
    · rw [hok] at HSR
      have HMD : Hid (makeI (readI t.data.toList) = t) := ok_made hok
      generalize readI t.data.toList = Y at *
      obtain ⟨ye, yt, YL, yh⟩ := Y
      obtain ⟨az, cz, rfl⟩ := fls_form hG
      try dsimp only at hG
      have G7 : Hid (Fls w7 w6.heap.size (.slice az YL.length cz) YL) := hG
      have HZ7 : Hid (BnZ ⟨ye, yt, YL, yh⟩) := hz
      unfold bnV
      try dsimp only
      clear hG hz b7' B6 hok
      go_wp2_with fail
      generalize hV : w7.alloc _ = V7
      obtain ⟨b12, hb12⟩ : ∃ b12, b12 = w7.heap.size := ⟨_, rfl⟩
      have bV : Below w7.heap.size w7 V7 := by rw [← hV]; exact below1 _ _
      have Q8 : Hid (Blk b12 #[.string ye, .string yt, .slice az YL.length cz, .string yh] V7) := by show Blk _ _ _; rw [← hV, hb12]; exact Blk.new _ _ _
      have G8 : Hid (Fls V7 w6.heap.size (.slice az YL.length cz) YL) := fls_below G7.out bV (Nat.le_refl _)
      have B8 : Hid (Below w.heap.size w V7) := B7.out.trans (bV.mono B7.out.size)
      rw [← hb12]
      clear hV bV hb12 G7 B7
      refine (HSR.out _).mono ?_
      rintro e w8 ⟨⟨r0, r1, r3, ra, rn, rc, rfl⟩, b8⟩
      have Q9 : Hid (Blk b12 #[.string ye, .string yt, .slice az YL.length cz, .string yh] w8) := Q8.out.below b8
      have G9 : Hid (Fls w8 w6.heap.size (.slice az YL.length cz) YL) := fls_below G8.out b8 (Nat.le_refl _)
      have B9 : Hid (Below w.heap.size w w8) := B8.out.trans (b8.mono B8.out.size)
      clear b8 Q8 G8 B8 HSR
      go_upto_region 20 with fail
      generalize hV : w8.alloc _ = V8
      have bV : Below w8.heap.size w8 V8 := by rw [← hV]; exact below1 _ _
      have Qa : Hid (Blk b12 #[.string ye, .string yt, .slice az YL.length cz, .string yh] V8) := Q9.out.below bV
      have Ga : Hid (Fls V8 w6.heap.size (.slice az YL.length cz) YL) := fls_below G9.out bV (Nat.le_refl _)
      have Ba : Hid (Below w.heap.size w V8) := B9.out.trans (bV.mono B9.out.size)
      clear hV bV Q9 G9 B9
      have HMI : Hid (Calls Tryz.prog 5 #[.agg #[.string ye, .string yt, .slice az YL.length cz, .string yh]] V8 fun e w' => e = .returned (.string t) ∧ Below V8.heap.size V8 w') := by
        have := implMake ⟨ye, yt, YL, yh⟩ (.slice az YL.length cz) _ V8 (HE.out.below Ba.out) Ga.out HZ7.out
        rw [HMD.out] at this
        exact this
      have x0 : V8.cell? ⟨b12, 0, none⟩ = some (.string ye) := Qa.out.cell 0
      have x1 : V8.cell? ⟨b12, 1, none⟩ = some (.string yt) := Qa.out.cell 1
      have x2 : V8.cell? ⟨b12, 2, none⟩ = some (.slice az YL.length cz) := Qa.out.cell 2
      have x3 : V8.cell? ⟨b12, 3, none⟩ = some (.string yh) := Qa.out.cell 3
      go_wp2_with fail
      refine HMI.out.mono ?_
      rintro e w9 ⟨rfl, b9⟩
      have Bz : Below w.heap.size w w9 := Ba.out.trans (b9.mono Ba.out.size)
      clear b9 HMI x0 x1 x2 x3
      go_wp2
      go_ret
      exact ⟨rfl, Bz⟩
    · rw [hok] at HSR
      clear hok b7' B6
      unfold bnV bn0
      try dsimp only
      go_wp2_with fail
      generalize hV : w7.alloc _ = V7
      have bV : Below w7.heap.size w7 V7 := by rw [← hV]; exact below1 _ _
      have B8 : Hid (Below w.heap.size w V7) := B7.out.trans (bV.mono B7.out.size)
      clear hV bV B7
      refine (HSR.out _).mono ?_
      rintro e w8 ⟨⟨r0, r1, r3, ra, rn, rc, rfl⟩, b8⟩
      have B9 : Hid (Below w.heap.size w w8) := B8.out.trans (b8.mono B8.out.size)
      clear b8 B8 HSR
      go_upto_region 20 with fail
      generalize hV : w8.alloc _ = V8
      have Bz : Below w.heap.size w V8 := by rw [← hV]; exact B9.out.trans ((below1 _ _).mono B9.out.size)
      clear hV B9
      go_wp2
      go_ret
      exact ⟨rfl, Bz⟩
  · have hse : s.toList.isEmpty = false := by
      rw [Lib.toList_data]
      cases h : s.data.toList with
      | nil => exact absurd (empty_ofK s (by rw [Lib.size_eq, h]; rfl)) hsn
      | cons _ _ => rfl
    have zs : s.size ≤ 1048576 := by omega
    have HRD : Hid (∀ e w', RdOk s w4.heap.size e w' → ∃ fv, e = .returned (.tuple #[bnV ⟨he, tw, L, hd⟩ fv, .bool true]) ∧ Fls w' w4.heap.size fv L) := fun e w' h => rd_made HS.out hsn h
    clear hsn HS
    go_wp2_with fail
    refine (implRead s _ (HE.out.below B4.out) zs).mono ?_
    rintro e w5 ⟨hrd, b5'⟩
    obtain ⟨fw, rfl, hG⟩ := HRD.out _ _ hrd
    obtain ⟨a2, cp2, rfl⟩ := fls_form hG
    have G5 : Hid (Fls w5 w4.heap.size (.slice a2 L.length cp2) L) := hG
    have Q5 : Hid (Blk b5 #[.string he, .string tw, (.slice a L.length cp), .string hd] w5) := Q4.out.below b5'
    have F7 : Hid (Fls w5 w.heap.size (.slice a L.length cp) L) := fls_below F6.out b5' (Nat.le_refl _)
    have B5 : Hid (Below w.heap.size w w5) := B4.out.trans (b5'.mono B4.out.size)
    unfold bnV
    try dsimp only
    clear hrd b5' hG Q4 F6 B4 HRD
    go_upto_region 9 with fail
    generalize hV : w5.alloc _ = V
    obtain ⟨b7, hb7⟩ : ∃ b7, b7 = w5.heap.size := ⟨_, rfl⟩
    have bV : Below w5.heap.size w5 V := by rw [← hV]; exact below1 _ _
    have R6 : Hid (Blk b7 #[.string he, .string tw, (.slice a2 L.length cp2), .string hd] V) := by show Blk _ _ _; rw [← hV, hb7]; exact Blk.new _ _ _
    have Q6 : Hid (Blk b5 #[.string he, .string tw, (.slice a L.length cp), .string hd] V) := Q5.out.below bV
    have F8 : Hid (Fls V w.heap.size (.slice a L.length cp) L) := fls_below F7.out bV (Nat.le_refl _)
    have G6 : Hid (Fls V w4.heap.size (.slice a2 L.length cp2) L) := fls_below G5.out bV (Nat.le_refl _)
    have B6 : Hid (Below w.heap.size w V) := B5.out.trans (bV.mono B5.out.size)
    rw [← hb7]
    clear hV bV hb7 Q5 F7 G5 B5
    have x0 : V.cell? ⟨b5, 0, none⟩ = some (.string he) := Q6.out.cell 0
    have x1 : V.cell? ⟨b5, 1, none⟩ = some (.string tw) := Q6.out.cell 1
    have x2 : V.cell? ⟨b5, 2, none⟩ = some (.slice a L.length cp) := Q6.out.cell 2
    have x3 : V.cell? ⟨b5, 3, none⟩ = some (.string hd) := Q6.out.cell 3
    have y0 : V.cell? ⟨b7, 0, none⟩ = some (.string he) := R6.out.cell 0
    have y1 : V.cell? ⟨b7, 1, none⟩ = some (.string tw) := R6.out.cell 1
    have y2 : V.cell? ⟨b7, 2, none⟩ = some (.slice a2 L.length cp2) := R6.out.cell 2
    have y3 : V.cell? ⟨b7, 3, none⟩ = some (.string hd) := R6.out.cell 3
    go_wp2_with fail
    clear x0 x1 x2 x3 y0 y1 y2 y3
    go_loopw [83] (fun iv wr => ∃ k : Nat, iv = .int .i64 k ∧ k ≤ L.length ∧ Hid (Blk b7 #[.string he, .string tw, (.slice a2 L.length cp2), .string hd] wr) ∧ Hid (Fls wr w.heap.size (.slice a L.length cp) L) ∧ Hid (Fls wr w4.heap.size (.slice a2 L.length cp2) L) ∧ Hid (Below w.heap.size w wr)) (fun iv _ => L.length - (intOf iv).toNat)
    case atStart => exact ⟨0, rfl, Nat.zero_le _, R6, F8, G6, B6⟩
    case round =>
      obtain ⟨k, rfl, hk, Rr, Fr, Gr, Br⟩ := hrel
      clear R6 F8 G6 B6 Q6
      by_cases hlt : k < L.length
      · have hlti : (k : Int) < (L.length : Int) := by omega
        obtain ⟨g, rfl⟩ : ∃ g, a = some ⟨g, 0, none⟩ := by
          rcases Fr.out.cases with ⟨_, h⟩ | ⟨g, cap, hv, _⟩
          · rw [h] at hlt; exact absurd hlt (Nat.not_lt_zero _)
          · injection hv with h1 _ _; exact ⟨g, h1⟩
        obtain ⟨g2, rfl⟩ : ∃ g, a2 = some ⟨g, 0, none⟩ := by
          rcases Gr.out.cases with ⟨_, h⟩ | ⟨g, cap, hv, _⟩
          · rw [h] at hlt; exact absurd hlt (Nat.not_lt_zero _)
          · injection hv with h1 _ _; exact ⟨g, h1⟩
        obtain ⟨u0, u1, u2, u3⟩ := Fr.out.at.1.cell k hlt
        obtain ⟨v0, v1, v2, v3⟩ := Gr.out.at.1.cell k hlt
        have lg2 := Gr.out.at.1.lt
        generalize L[k] = f at *
        go_upto_region 14 with fail
        generalize hV : wr.alloc _ = V2
        obtain ⟨fb, hfb⟩ : ∃ fb, fb = wr.heap.size := ⟨_, rfl⟩
        have bV : Below wr.heap.size wr V2 := by rw [← hV]; exact below1 _ _
        have Nf : Hid (Blk fb #[.string f.rc, .string f.st, .int .i64 f.cd, .string f.tx] V2) := by show Blk _ _ _; rw [← hV, hfb]; exact Blk.new _ _ _
        have Rv : Hid (Blk b7 #[.string he, .string tw, (.slice (some ⟨g2, 0, none⟩) L.length cp2), .string hd] V2) := Rr.out.below bV
        have Fv : Hid (Fls V2 w.heap.size (.slice (some ⟨g, 0, none⟩) L.length cp) L) := fls_below Fr.out bV (Nat.le_refl _)
        have Gv : Hid (Fls V2 w4.heap.size (.slice (some ⟨g2, 0, none⟩) L.length cp2) L) := fls_below Gr.out bV (Nat.le_refl _)
        have Bv : Hid (Below w.heap.size w V2) := Br.out.trans (bV.mono Br.out.size)
        have c0 := (bV.cell (p := ⟨g2, k * 4, none⟩) lg2).trans v0
        have c1 := (bV.cell (p := ⟨g2, k * 4 + 1, none⟩) lg2).trans v1
        have c2 := (bV.cell (p := ⟨g2, k * 4 + 2, none⟩) lg2).trans v2
        have c3 := (bV.cell (p := ⟨g2, k * 4 + 3, none⟩) lg2).trans v3
        rw [← hfb]
        clear hV bV hfb u0 u1 u2 u3 v0 v1 v2 v3 Rr Fr Gr Br
        have y2 : V2.cell? ⟨b7, 2, none⟩ = some (.slice (some ⟨g2, 0, none⟩) L.length cp2) := Rv.out.cell 2
        have n0 : V2.cell? ⟨fb, 0, none⟩ = some (.string f.rc) := Nf.out.cell 0
        have n1 : V2.cell? ⟨fb, 1, none⟩ = some (.string f.st) := Nf.out.cell 1
        have n2 : V2.cell? ⟨fb, 2, none⟩ = some (.int .i64 f.cd) := Nf.out.cell 2
        have n3 : V2.cell? ⟨fb, 3, none⟩ = some (.string f.tx) := Nf.out.cell 3
        go_quiet (fail)
        go_wp2
        go_roundw
        case rel => exact ⟨k + 1, by go_num, by omega, Rv.out.below (drew_below (Below.refl _ _) _), fls_below Fv.out (drew_below (Below.refl V2.heap.size V2) _) (Nat.le_refl _), fls_below Gv.out (drew_below (Below.refl V2.heap.size V2) _) (Nat.le_refl _), drew_below Bv.out _⟩
        case measure => simp [intOf]; omega
      · have hlti : ¬ (k : Int) < (L.length : Int) := by omega
        clear Rr Fr Gr
        go_wp2_with fail
        refine (drawRead _ M _ (HCM.out.below Br.out)).mono ?_
        rintro e w6 ⟨⟨t, rfl, hT⟩, b6⟩
        have B6 : Hid (Below w.heap.size w w6) := Br.out.trans (b6.mono Br.out.size)
        have HT : Hid (TxY t) := hT
        have zt : t.size ≤ 20000 := hT.le
        clear hT b6 Br
        go_wp2_with fail
        refine (implRead t _ (HE.out.below B6.out) (by omega)).mono ?_
        rintro e w7 ⟨hrd, b7'⟩
        have B7 : Hid (Below w.heap.size w w7) := B6.out.trans (b7'.mono B6.out.size)
        have HSR : Hid (∀ wx : World, Calls Tryz.prog 9 #[.string t] wx fun e w' => (∃ (x0 x1 x3 : ByteArray) (a : Option Addr) (n c : Nat), e = .returned (.tuple #[.agg #[.string x0, .string x1, .slice a n c, .string x3], .bool (okI t)])) ∧ Below wx.heap.size wx w') := fun wx => by rw [ok_same HT.out]; exact specReadS t wx zt
        rcases hrd with ⟨hok, fz, rfl, hG, hz⟩ | ⟨hok, rfl⟩
        · rw [hok] at HSR
          have HMD : Hid (makeI (readI t.data.toList) = t) := ok_made hok
          generalize readI t.data.toList = Y at *
          obtain ⟨ye, yt, YL, yh⟩ := Y
          obtain ⟨az, cz, rfl⟩ := fls_form hG
          try dsimp only at hG
          have G7 : Hid (Fls w7 w6.heap.size (.slice az YL.length cz) YL) := hG
          have HZ7 : Hid (BnZ ⟨ye, yt, YL, yh⟩) := hz
          unfold bnV
          try dsimp only
          clear hG hz b7' B6 hok
          go_wp2_with fail
          generalize hV : w7.alloc _ = V7
          obtain ⟨b12, hb12⟩ : ∃ b12, b12 = w7.heap.size := ⟨_, rfl⟩
          have bV : Below w7.heap.size w7 V7 := by rw [← hV]; exact below1 _ _
          have Q8 : Hid (Blk b12 #[.string ye, .string yt, .slice az YL.length cz, .string yh] V7) := by show Blk _ _ _; rw [← hV, hb12]; exact Blk.new _ _ _
          have G8 : Hid (Fls V7 w6.heap.size (.slice az YL.length cz) YL) := fls_below G7.out bV (Nat.le_refl _)
          have B8 : Hid (Below w.heap.size w V7) := B7.out.trans (bV.mono B7.out.size)
          rw [← hb12]
          clear hV bV hb12 G7 B7
          refine (HSR.out _).mono ?_
          rintro e w8 ⟨⟨r0, r1, r3, ra, rn, rc, rfl⟩, b8⟩
          have Q9 : Hid (Blk b12 #[.string ye, .string yt, .slice az YL.length cz, .string yh] w8) := Q8.out.below b8
          have G9 : Hid (Fls w8 w6.heap.size (.slice az YL.length cz) YL) := fls_below G8.out b8 (Nat.le_refl _)
          have B9 : Hid (Below w.heap.size w w8) := B8.out.trans (b8.mono B8.out.size)
          clear b8 Q8 G8 B8 HSR
          go_upto_region 20 with fail
          generalize hV : w8.alloc _ = V8
          have bV : Below w8.heap.size w8 V8 := by rw [← hV]; exact below1 _ _
          have Qa : Hid (Blk b12 #[.string ye, .string yt, .slice az YL.length cz, .string yh] V8) := Q9.out.below bV
          have Ga : Hid (Fls V8 w6.heap.size (.slice az YL.length cz) YL) := fls_below G9.out bV (Nat.le_refl _)
          have Ba : Hid (Below w.heap.size w V8) := B9.out.trans (bV.mono B9.out.size)
          clear hV bV Q9 G9 B9
          have HMI : Hid (Calls Tryz.prog 5 #[.agg #[.string ye, .string yt, .slice az YL.length cz, .string yh]] V8 fun e w' => e = .returned (.string t) ∧ Below V8.heap.size V8 w') := by
            have := implMake ⟨ye, yt, YL, yh⟩ (.slice az YL.length cz) _ V8 (HE.out.below Ba.out) Ga.out HZ7.out
            rw [HMD.out] at this
            exact this
          have x0 : V8.cell? ⟨b12, 0, none⟩ = some (.string ye) := Qa.out.cell 0
          have x1 : V8.cell? ⟨b12, 1, none⟩ = some (.string yt) := Qa.out.cell 1
          have x2 : V8.cell? ⟨b12, 2, none⟩ = some (.slice az YL.length cz) := Qa.out.cell 2
          have x3 : V8.cell? ⟨b12, 3, none⟩ = some (.string yh) := Qa.out.cell 3
          go_wp2_with fail
          refine HMI.out.mono ?_
          rintro e w9 ⟨rfl, b9⟩
          have Bz : Below w.heap.size w w9 := Ba.out.trans (b9.mono Ba.out.size)
          clear b9 HMI x0 x1 x2 x3
          go_wp2
          go_ret
          exact ⟨rfl, Bz⟩
        · rw [hok] at HSR
          clear hok b7' B6
          unfold bnV bn0
          try dsimp only
          go_wp2_with fail
          generalize hV : w7.alloc _ = V7
          have bV : Below w7.heap.size w7 V7 := by rw [← hV]; exact below1 _ _
          have B8 : Hid (Below w.heap.size w V7) := B7.out.trans (bV.mono B7.out.size)
          clear hV bV B7
          refine (HSR.out _).mono ?_
          rintro e w8 ⟨⟨r0, r1, r3, ra, rn, rc, rfl⟩, b8⟩
          have B9 : Hid (Below w.heap.size w w8) := B8.out.trans (b8.mono B8.out.size)
          clear b8 B8 HSR
          go_upto_region 20 with fail
          generalize hV : w8.alloc _ = V8
          have Bz : Below w.heap.size w V8 := by rw [← hV]; exact B9.out.trans ((below1 _ _).mono B9.out.size)
          clear hV B9
          go_wp2
          go_ret
          exact ⟨rfl, Bz⟩
end Go.Proofs.YtlolnfpfipnfeaaGreatDoor
namespace Go.Proofs.YtlolnfpfipnfeaaGreatDoor
open Go.ChangeShapes Go.WideShapes Go.ChangeAt Go.RowKit
theorem lenIn {W : World} (h : W.ShapedOpen Tryz.prog) : LenIn W := by
  exact Tryz.laysM143.s1_3 W h
theorem read_of {α β γ : Type} {o : Option (α × β × γ)} {a : α} {b : β} (h : o.map (fun x => (x.1, x.2.1)) = some (a, b)) : ∃ c, o = some (a, b, c) := by
  obtain ⟨⟨a', b', c⟩, h1, h2⟩ := Option.map_eq_some_iff.1 h
  simp only [Prod.mk.injEq] at h2
  obtain ⟨rfl, rfl⟩ := h2
  exact ⟨c, h1⟩
end Go.Proofs.YtlolnfpfipnfeaaGreatDoor
