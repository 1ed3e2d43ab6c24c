import Derived.Test.YtngcjlghjidnjaaGreatDoorMg50
import Derived.Test.YtngcjlghjidnjaaGreatDoorMg47
import Derived.Test.YtngcjlghjidnjaaGreatDoorMg48
import Derived.Test.YtngcjlghjidnjaaGreatDoorMg41
import Derived.Deep.DeepWitnessRowRef
namespace Go.Proofs.YtngcjlghjidnjaaGreatDoor
open Go.ChangeShapes Go.WideShapes Go.ChangeAt Go.RowKit
attribute [local go_sem ↓] Go.wp_at_zero Go.wp_at_succ
theorem feedN_told (ph nx : Int) (buf he fr bo : ByteArray) (R : List ByteArray) (T : List Bool) (V : List Vd) (kind : Int) (d : ByteArray) : (feedN ph nx buf he fr bo R T V kind d).2.size ≤ 800000000 := by
  unfold feedN
  cases hp : properN ph nx buf he fr bo R T V with
  | false => exact Nat.zero_le _
  | true =>
    obtain ⟨n, rfl, hk⟩ := ok_of hp
    show (Sn.feed ⟨ph, buf, he, fr, bo, R, n, T, V⟩ true kind d).2.size ≤ _
    unfold Sn.feed
    rw [if_neg (by decide)]
    split
    · exact Nat.zero_le _
    · split
      · exact Nat.zero_le _
      · split
        · exact Nat.zero_le _
        · split
          · exact Nat.zero_le _
          · rename_i hz
            dsimp only at hz
            have hb : (buf ++ d).size = buf.size + d.size := ByteArray.size_append
            have := rep_size (buf.size + d.size + 1) { (⟨ph, buf, he, fr, bo, R, n, T, V⟩ : Sn) with buf := buf ++ d } ⟨hk.p1, hk.p9, hk.t, hk.v, hk.r1, hk.r20, hk.n, hk.n5, hk.he, hk.fr, hk.bo, hk.rs, by show (buf ++ d).size ≤ _; omega⟩
            refine Nat.le_trans this ?_
            show 20000 * (buf ++ d).size ≤ _
            omega

/-- what stands at the loop's head -/
structure SnM (w W5 : World) (N BW BS : Nat) (s : Sn) (x1 x2 x3 u1 u2 u3 : Value) (wr : World) : Prop where
  wt : Ses N BW s x1 x2 x3 wr
  st : Ses N BS s u1 u2 u3 wr
  bel : Below w.heap.size w wr
  bl5 : W5.heap.size ≤ wr.heap.size
theorem SnM.below {w W5 : World} {N BW BS : Nat} {s : Sn} {x1 x2 x3 u1 u2 u3 : Value} {wr w1 : World} (h : SnM w W5 N BW BS s x1 x2 x3 u1 u2 u3 wr) (hb : Below wr.heap.size wr w1) : SnM w W5 N BW BS s x1 x2 x3 u1 u2 u3 w1 :=
  ⟨h.wt.below hb, h.st.below hb, h.bel.trans (hb.mono h.bel.size), Nat.le_trans h.bl5 hb.size⟩
theorem Same.refl (s : Sn) : Same s s := ⟨rfl, rfl, rfl, rfl⟩
theorem feedS_eq {s : Sn} (h : s.Pr) (kind : Int) (d : ByteArray) : feedS s kind d = s.feed true kind d := by
  unfold feedS feedN
  rw [show properN s.ph (s.nx : Int) s.buf s.he s.fr s.bo s.R s.T s.V = true from h]
  rfl
theorem openN_yes {he fr bo : ByteArray} {L : List ByteArray} (h : openOk he fr bo L = true) : (openN he fr bo L).Pr ∧ Hist (openN he fr bo L) ⟨#[]⟩ ∧ (openN he fr bo L).ph = 1 ∧ (openN he fr bo L).he = he ∧ (openN he fr bo L).fr = fr ∧ (openN he fr bo L).bo = bo ∧ (openN he fr bo L).R = L := by
  have e : openN he fr bo L = ⟨1, ⟨#[]⟩, he, fr, bo, L, 0, List.replicate L.length false, List.replicate L.length vd0⟩ := by unfold openN; rw [h]; rfl
  have hf := open_fine he fr bo L
  rw [e] at *
  refine ⟨?_, ⟨false, .inl ⟨?_, .inl ⟨rfl, rfl, rfl⟩⟩⟩, rfl, rfl, rfl, rfl, rfl⟩
  · rcases hf with h | h
    · exact h
    · exact absurd (congrArg Sn.ph h) (by show ¬ (1 : Int) = 9; decide)
  · intro v hv
    rw [List.eq_of_mem_replicate hv]
    decide
theorem SnM.put {w W5 : World} {N BW BS lo lo' : Nat} {s t : Sn} {x1 x2 x3 u1 u2 u3 v1 v2 v3 y1 y2 y3 : Value} {wr : World} (h : SnM w W5 N BW BS s x1 x2 x3 u1 u2 u3 wr) (hne : BW ≠ BS) (ht : SV wr lo v1 v2 v3 t) (hx : SV wr lo' y1 y2 y3 t) (l1 : W5.heap.size ≤ lo) (l2 : W5.heap.size ≤ lo') (hW : BW < W5.heap.size) (hS : BS < W5.heap.size) (hw : w.heap.size ≤ N) :
    SnM w W5 N BW BS t y1 y2 y3 v1 v2 v3 (nine (nine wr BS (.int .i64 t.ph) (.string t.buf) (.string t.he) (.string t.fr) (.string t.bo) v1 (.int .i64 (t.nx : Int)) v2 v3) BW (.int .i64 t.ph) (.string t.buf) (.string t.he) (.string t.fr) (.string t.bo) y1 (.int .i64 (t.nx : Int)) y2 y3) := by
  have hN : N ≤ BW := h.wt.le
  have hN2 : N ≤ BS := h.st.le
  refine ⟨⟨hN, blk_nine (sb_nine h.wt.sb hne _ _ _ _ _ _ _ _ _) _ _ _ _ _ _ _ _ _, (((hx.nine (by omega) _ _ _ _ _ _ _ _ _).nine (by omega) _ _ _ _ _ _ _ _ _).le (by omega)), ?_, ?_, ?_⟩, ⟨hN2, sb_nine (blk_nine h.st.sb _ _ _ _ _ _ _ _ _) (Ne.symm hne) _ _ _ _ _ _ _ _ _, (((ht.nine (by omega) _ _ _ _ _ _ _ _ _).nine (by omega) _ _ _ _ _ _ _ _ _).le (by omega)), ?_, ?_, ?_⟩, below_nine (below_nine h.bel (by omega) _ _ _ _ _ _ _ _ _) (by omega) _ _ _ _ _ _ _ _ _, by simpa [nine] using h.bl5⟩
  · exact fun e => by have := (hx.own.1 _ e).1; omega
  · exact fun e => by have := (hx.own.2.1 _ e).1; omega
  · exact fun e => by have := (hx.own.2.2 _ e).1; omega
  · exact fun e => by have := (ht.own.1 _ e).1; omega
  · exact fun e => by have := (ht.own.2.1 _ e).1; omega
  · exact fun e => by have := (ht.own.2.2 _ e).1; omega
def hopes : List ByteArray := [⟨#[]⟩, ⟨#[50, 50, 48, 32, 104, 105, 13, 10]⟩, ⟨#[50, 53, 48, 32, 111, 107, 13, 10]⟩, ⟨#[50, 53, 48, 32, 111, 107, 13, 10]⟩, ⟨#[50, 53, 48, 32, 111, 107, 13, 10]⟩, ⟨#[50, 53, 48, 32, 111, 107, 13, 10]⟩, ⟨#[51, 53, 52, 32, 103, 111, 13, 10]⟩, ⟨#[50, 53, 48, 32, 116, 97, 107, 101, 110, 13, 10]⟩, ⟨#[50, 50, 49, 32, 98, 121, 101, 13, 10]⟩]
def bads : List ByteArray := [⟨#[52, 53, 49, 32, 110, 111, 13, 10]⟩, ⟨#[53, 53, 48, 32, 110, 111, 13, 10]⟩, ⟨#[50, 53, 49, 32, 121, 101, 115, 13, 10]⟩, ⟨#[52, 50, 49, 32, 98, 121, 101, 13, 10]⟩, ⟨#[50, 53, 48, 45, 120, 13, 10, 50, 53, 48, 32, 83, 73, 90, 69, 32, 49, 48, 13, 10]⟩]
theorem rcpt_size {r : ByteArray} (h : addrOk r = true) : 1 ≤ (cmdB 4 r).size := by
  have e : cmdB 4 r = (⟨#[82, 67, 80, 84, 32, 84, 79, 58, 60]⟩ : ByteArray) ++ r ++ ⟨#[62, 13, 10]⟩ := by
    unfold cmdB
    rw [if_neg (by decide), if_neg (by decide), if_neg (by decide), if_pos rfl, if_pos h]
    rfl
  have e9 : (⟨#[82, 67, 80, 84, 32, 84, 79, 58, 60]⟩ : ByteArray).size = 9 := rfl
  rw [e, ByteArray.size_append, ByteArray.size_append]
  omega
theorem allOk_hyp {s : Sn} {sent : ByteArray} {b : Bool} (h : Fin s sent b) (hk : s.Pr) {L : List ByteArray} (hR : s.R = L) : ∀ i (hi : i < L.length), (s.V.getD i vd0).1 = 1 → bareB (lineB s b) sent = lineB s b ∧ s.T.getD i false = true ∧ Lib.index (lineB s b).data.toList (cmdB 4 L[i]).data.toList ≠ -1 ∧ 1 ≤ (cmdB 4 L[i]).size := by
  subst hR
  intro i hi h1
  have hv : i < s.V.length := by rw [hk.ok.v]; exact hi
  exact ⟨(bare_full h hv h1).1, (bare_full h hv h1).2, rcpt_in hi, rcpt_size (hk.parts.2.2 _ (List.getElem_mem hi))⟩
theorem bare_no {line sent : ByteArray} (h : endsQ sent = false) : bareB line sent = sent := by unfold bareB; rw [if_neg (by rw [h]; simp)]
theorem bare_beg {line sent : ByteArray} (h : begB line sent = true) : bareB line sent = sent := by unfold bareB; rw [if_neg (by rw [h]; simp)]
theorem bare_cut {line sent : ByteArray} (h : endsQ sent = true) (h2 : begB line sent = false) : bareB line sent = sent.extract 0 (sent.size - 6) := by unfold bareB; rw [if_pos ⟨h, h2⟩]
theorem feed_close2 (s : Sn) (d : ByteArray) : (s.feed true 2 d).2 = ⟨#[]⟩ := by
  unfold Sn.feed
  rw [if_neg (by decide)]
  split
  · rfl
  · rw [if_neg (by decide), if_pos (by decide)]

set_option maxHeartbeats 20000000 in
set_option maxRecDepth 100000 in
theorem sessionLaw (cv mv : Value) (B M : List UInt8) (w : World) (hB : BytesArg w cv B) (hM : BytesArg w mv M) (hl : LenIn w) (hf : FoldAt w) :
    Calls Tryz.prog 3 #[cv, mv] w fun e w' => e = .returned (.bool true) ∧ Below w.heap.size w w' := by
  have HL : Hid (LenIn w) := hl
  have HFo : Hid (FoldAt w) := hf
  obtain ⟨ca, cc, hcv⟩ : ∃ a c, cv = .slice a B.length c := by
    rcases hB.2 with ⟨rfl, a, c, rfl⟩ | ⟨g, off, cap, rfl, _⟩
    · exact ⟨_, _, rfl⟩
    · exact ⟨_, _, rfl⟩
  obtain ⟨ma, mc, hmv⟩ : ∃ a c, mv = .slice a M.length c := by
    rcases hM.2 with ⟨rfl, a, c, rfl⟩ | ⟨g, off, cap, rfl, _⟩
    · exact ⟨_, _, rfl⟩
    · exact ⟨_, _, rfl⟩
  have hBm := hB.1
  have hMm := hM.1
  unfold maxLen at hBm hMm
  clear hl hf
  by_cases h1 : 1048576 < B.length
  · subst hcv hmv
    clear hB hM
    go_enter Tryz.func3, Tryz.ntmps3
    go_wp2
    go_ret
    exact ⟨rfl, Below.refl _ _⟩
  by_cases h2 : 1048576 < M.length
  · subst hcv hmv
    clear hB hM
    have h1i : ¬ (1048576 : Int) < B.length := by omega
    have h2i : (1048576 : Int) < M.length := by omega
    go_enter Tryz.func3, Tryz.ntmps3
    go_wp2
    go_ret
    exact ⟨rfl, Below.refl _ _⟩
  have h1i : ¬ (1048576 : Int) < B.length := by omega
  have h2i : ¬ (1048576 : Int) < M.length := by omega
  by_cases h3 : 1048576 < B.length + M.length
  · subst hcv hmv
    clear hB hM
    have h3i : (1048576 : Int) < (B.length : Int) + (M.length : Int) := by omega
    go_enter Tryz.func3, Tryz.ntmps3
    go_wp2
    go_ret
    exact ⟨rfl, Below.refl _ _⟩
  have h3i : ¬ (1048576 : Int) < (B.length : Int) + (M.length : Int) := by omega
  have HC : Hid (CodeAt w cv B) := ⟨by omega, hB.2⟩
  have HMo : Hid (CodeAt w mv M) := ⟨by omega, hM.2⟩
  subst hcv hmv
  clear hB hM
  go_enter Tryz.func3, Tryz.ntmps3
  go_wp2_with fail
  refine (drawOpen _ B w HC.out).mono ?_
  rintro e w1 ⟨⟨he, fr, bo, la, lk, L, zhe, zfr, zbo, zL, zLs, rfl, hS1⟩, hb1⟩
  have HLs : Hid (∀ s ∈ L, s.size ≤ 300) := zLs
  have HS1 : Hid (Strs w1 w.heap.size (.slice la L.length lk) L) := hS1
  have HB1 : Hid (Below w.heap.size w w1) := hb1
  have HArg : Hid (∀ wx, Below w1.heap.size w1 wx → ArgS wx (.slice la L.length lk) L) := fun wx hx => strs_args (strs_below HS1.out hx (Nat.le_refl _)) (by unfold maxLen; omega) (fun s hs => by have := HLs.out s hs; unfold maxLen; omega)
  obtain ⟨s0, hs0⟩ : ∃ s0, openN he fr bo L = s0 := ⟨_, rfl⟩
  have HS0 : Hid (openN he fr bo L = s0) := hs0
  have HLs2 : Hid (∀ s ∈ L, s.size ≤ 1048576) := fun s hs => by have := HLs.out s hs; omega
  have z1 := hb1.size
  clear hS1 hb1 zLs hs0
  go_wp2_with fail
  refine (specOpen he fr bo _ L w1 (HArg.out w1 (Below.refl _ _)) (by omega) (by omega) HLs2.out (by omega)).mono ?_
  rintro e w2 ⟨⟨f1, f2, f3, he0, hr0, _⟩, hb2⟩
  have he2 : e = .returned (.agg #[.int .i64 s0.ph, .string s0.buf, .string s0.he, .string s0.fr, .string s0.bo, f1, .int .i64 (s0.nx : Int), f2, f3]) := by rw [← HS0.out]; exact he0
  have S2 : SV w2 w1.heap.size f1 f2 f3 s0 := by rw [← HS0.out]; exact hr0
  subst he2
  obtain ⟨x1, k1, e1⟩ := strs_form2 S2.1
  obtain ⟨x2, k2, e2⟩ := bls_form S2.2.1
  obtain ⟨x3, k3, e3⟩ := vds_formD S2.2.2
  subst e1 e2 e3
  have HV2 : Hid (SV w2 w1.heap.size (.slice x1 s0.R.length k1) (.slice x2 s0.T.length k2) (.slice x3 s0.V.length k3) s0) := S2
  have HB2 : Hid (Below w1.heap.size w1 w2) := hb2
  have z2 := hb2.size
  clear S2 hb2 he0 hr0
  go_wp2_with fail
  generalize hW3 : World.alloc _ _ = W3
  have HW3 : Hid (Ses w1.heap.size w2.heap.size s0 (.slice x1 s0.R.length k1) (.slice x2 s0.T.length k2) (.slice x3 s0.V.length k3) W3) := by show Ses _ _ _ _ _ _ _; rw [← hW3]; exact Ses.new _ HV2.out HB2.out.size
  have b13 : Below w1.heap.size w1 W3 := by rw [← hW3]; exact HB2.out.trans ((below1 _ _).mono HB2.out.size)
  have z3 : w2.heap.size < W3.heap.size := HW3.out.sb.lt
  clear hW3
  refine (implOpen he fr bo _ L W3 (HArg.out W3 b13) (by omega) (by omega) HLs2.out (by omega) (len_below HL.out (HB1.out.trans (b13.mono HB1.out.size)))).mono ?_
  rintro e w4 ⟨⟨f1, f2, f3, he0, hr0, _⟩, hb4⟩
  have he2 : e = .returned (.agg #[.int .i64 s0.ph, .string s0.buf, .string s0.he, .string s0.fr, .string s0.bo, f1, .int .i64 (s0.nx : Int), f2, f3]) := by rw [← HS0.out]; exact he0
  have S4 : SV w4 W3.heap.size f1 f2 f3 s0 := by rw [← HS0.out]; exact hr0
  subst he2
  obtain ⟨u1, j1, e1⟩ := strs_form2 S4.1
  obtain ⟨u2, j2, e2⟩ := bls_form S4.2.1
  obtain ⟨u3, j3, e3⟩ := vds_formD S4.2.2
  subst e1 e2 e3
  have HV4 : Hid (SV w4 W3.heap.size (.slice u1 s0.R.length j1) (.slice u2 s0.T.length j2) (.slice u3 s0.V.length j3) s0) := S4
  have HB4 : Hid (Below W3.heap.size W3 w4) := hb4
  have HW4 : Hid (Ses w1.heap.size w2.heap.size s0 (.slice x1 s0.R.length k1) (.slice x2 s0.T.length k2) (.slice x3 s0.V.length k3) w4) := HW3.out.below hb4
  have b14 : Below w1.heap.size w1 w4 := b13.trans (hb4.mono b13.size)
  have z4 := hb4.size
  clear S4 hb4 he0 hr0 HW3 b13
  obtain ⟨i0, i1, i2, i3, i4, i5, i6, i7, i8⟩ := HW4.out.sb.cells
  have lw : w2.heap.size < w4.heap.size := HW4.out.sb.lt
  go_wp2_with fail
  generalize hW5 : World.alloc _ _ = W5
  have hb5 : Below w4.heap.size w4 W5 := by rw [← hW5]; exact below1 _ _
  have HS5 : Hid (Ses w1.heap.size w4.heap.size s0 (.slice u1 s0.R.length j1) (.slice u2 s0.T.length j2) (.slice u3 s0.V.length j3) W5) := by show Ses _ _ _ _ _ _ _; rw [← hW5]; exact Ses.new _ (HV4.out.le (by omega)) (by omega)
  have M5 : SnM w W5 w1.heap.size w2.heap.size w4.heap.size s0 (.slice x1 s0.R.length k1) (.slice x2 s0.T.length k2) (.slice x3 s0.V.length k3) (.slice u1 s0.R.length j1) (.slice u2 s0.T.length j2) (.slice u3 s0.V.length j3) W5 := ⟨HW4.out.below hb5, HS5.out, HB1.out.trans ((b14.trans (hb5.mono b14.size)).mono HB1.out.size), Nat.le_refl _⟩
  have HM5 : Hid _ := M5
  have b15 : Below w1.heap.size w1 W5 := b14.trans (hb5.mono b14.size)
  have HB15 : Hid (Below w1.heap.size w1 W5) := b15
  have z5 : w4.heap.size < W5.heap.size := HS5.out.sb.lt
  clear hW5 hb5 M5 HS5 HW4 HV4 HB4 HV2 HB2 b14 b15
  have hfin0 : Fine s0 := by rw [← HS0.out]; exact open_fine _ _ _ _
  have HF0 : Hid (Fine s0) := hfin0
  clear hfin0
  refine (sameSess s0 _ _ _ _ _ _ _ _ W5 HM5.out.st.sv HM5.out.wt.sv HF0.out.small.2.2.1 HF0.out.small.2.2.2.1 HF0.out.small.2.2.2.2 HF0.out.small.1.2.2.2.2.2.1).mono ?_
  rintro e w6 ⟨rfl, hb6⟩
  clear i0 i1 i2 i3 i4 i5 i6 i7 i8
  have HM6 : Hid (SnM w W5 w1.heap.size w2.heap.size w4.heap.size s0 (.slice x1 s0.R.length k1) (.slice x2 s0.T.length k2) (.slice x3 s0.V.length k3) (.slice u1 s0.R.length j1) (.slice u2 s0.T.length j2) (.slice u3 s0.V.length j3) w6) := HM5.out.below hb6
  have HB16 : Hid (Below w1.heap.size w1 w6) := HB15.out.trans (hb6.mono HB15.out.size)
  have z6 := hb6.size
  clear hb6 HM5
  obtain ⟨i0, _, _, _, _, _, _, _, _⟩ := HM6.out.wt.sb.cells
  by_cases hok : openOk he fr bo L = true
  · obtain ⟨yPr, yH, yph, yhe, yfr, ybo, yR⟩ := openN_yes hok
    rw [HS0.out] at yPr yH yph yhe yfr ybo yR
    have HP0 : Hid (s0.Pr ∧ Hist s0 ⟨#[]⟩) := ⟨yPr, yH⟩
    have HE0 : Hid (s0.he = he ∧ s0.fr = fr ∧ s0.bo = bo ∧ s0.R = L) := ⟨yhe, yfr, ybo, yR⟩
    rw [yph] at i0
    clear yPr yH yhe yfr ybo yR
    go_wp2_with fail
    clear i0
    go_loopw [11, 12] (fun sv iv wr => ∃ (i : Nat) (s : Sn) (sent : ByteArray) (x1 x2 x3 u1 u2 u3 : Option Addr) (k1 k2 k3 j1 j2 j3 : Nat), sv = .string sent ∧ iv = .int .i64 i ∧ i ≤ 30 ∧ sent.size ≤ i * 800000000 ∧ Hid (s.Pr ∧ Hist s sent) ∧ Hid (Same s0 s) ∧ Hid (SnM w W5 w1.heap.size w2.heap.size w4.heap.size s (.slice x1 s.R.length k1) (.slice x2 s.T.length k2) (.slice x3 s.V.length k3) (.slice u1 s.R.length j1) (.slice u2 s.T.length j2) (.slice u3 s.V.length j3) wr) ∧ Hid (Below w1.heap.size w1 wr)) (fun _ iv _ => 30 - (intOf iv).toNat)
    case atStart => exact ⟨0, s0, ⟨#[]⟩, _, _, _, _, _, _, _, _, _, _, _, _, rfl, rfl, by decide, Nat.zero_le _, HP0, Same.refl _, HM6, HB16⟩
    case round =>
      obtain ⟨i, s, sent, x1, x2, x3, u1, u2, u3, k1, k2, k3, j1, j2, j3, rfl, rfl, hi30, hsz, HPr, HSm, HMr, HGr⟩ := hrel
      have hph := (Fine.ph (.inl HPr.out.1) : 1 ≤ s.ph ∧ s.ph ≤ 9)
      obtain ⟨d0, d1, d2, d3, d4, d5, d6, d7, d8⟩ := HMr.out.st.sb.cells
      have ls : w4.heap.size < wr.heap.size := HMr.out.st.sb.lt
      by_cases hgo : i < 30 ∧ s.ph ≠ 9
      · obtain ⟨hi, h9⟩ := hgo
        have hii : (i : Int) < 30 := by omega
        have h9b : (s.ph == 9) = false := beq_eq_false_iff_ne.2 h9
        have hm9 : s.ph.toNat < 9 := by omega
        have hm0 : 0 ≤ s.ph := by omega
        have hm1 : s.ph < 9 := by omega
        have hYs := getD_le (L := hopes) (n := 11) (by decide) s.ph.toNat
        obtain ⟨Y, hy, ey⟩ := pickE hopes s.ph.toNat hm9
        rw [← hy] at hYs
        simp only [hopes, List.map_cons, List.map_nil] at ey
        clear hy
        by_cases hiM : i < M.length
        · have hiMi : (i : Int) < M.length := by omega
          obtain ⟨g, off, y, rfl, hy, cy, hgl⟩ : ∃ g off y : Nat, ma = some ⟨g, off, none⟩ ∧ y < 256 ∧ wr.cell? ⟨g, off + i, none⟩ = some (.int .u8 (y : Int)) ∧ g < wr.heap.size := by
            rcases (HMo.out.below HMr.out.bel).2 with ⟨e, _⟩ | ⟨g, off, cap, e, hlt, hc⟩
            · rw [e] at hiM; exact absurd hiM (by simp)
            · injection e with e1 e2 e3
              exact ⟨g, off, _, e1, UInt8.toNat_lt _, hc i hiM, hlt⟩
          by_cases hy4 : y % 5 = 4
          · have hy4i : (y : Int) % 5 = 4 := by omega
            obtain ⟨n, hn, hn5⟩ : ∃ n : Nat, (y : Int) / 5 % 5 = (n : Int) ∧ n < 5 := ⟨y / 5 % 5, by omega, by omega⟩
            have hZs := getD_le (L := bads) (n := 20) (by decide) n
            obtain ⟨Z, hz, ez⟩ := pickE bads n hn5
            rw [← hz] at hZs
            simp only [bads, List.map_cons, List.map_nil] at ez
            clear hz
            go_wp2_with fail
            clear ey ez
            generalize hWd : World.alloc _ _ = Wd
            have bd : Below wr.heap.size wr Wd := by rw [← hWd]; first | exact below1 _ _ | exact below2 _ _ _
            have HMd : Hid (SnM w W5 w1.heap.size w2.heap.size w4.heap.size s (.slice x1 s.R.length k1) (.slice x2 s.T.length k2) (.slice x3 s.V.length k3) (.slice u1 s.R.length j1) (.slice u2 s.T.length j2) (.slice u3 s.V.length j3) Wd) := HMr.out.below bd
            have HGd : Hid (Below w1.heap.size w1 Wd) := HGr.out.trans (bd.mono HGr.out.size)
            clear hWd bd
            have HQp := hist_feed HPr.out.1 HPr.out.2 1 Z
            have HQr := feed_pr HPr.out.1 1 Z
            rw [← feedS_eq HPr.out.1] at HQp HQr
            have hsaid : (feedS s 1 Z).2.size ≤ 800000000 := feedN_told _ _ _ _ _ _ _ _ _ _ _
            refine (implFeed s.ph (s.nx : Int) s.buf s.he s.fr s.bo _ _ _ s.R s.T s.V 1 Z w1.heap.size Wd HMd.out.st.sv.1 HMd.out.st.sv.2.1 HMd.out.st.sv.2.2 (Fine.small (.inl HPr.out.1)).1 (len_below HL.out HMd.out.bel) (HFo.out.below HMd.out.bel) (by omega)).mono ?_
            rintro e w7 ⟨⟨f1, f2, f3, rfl, S7⟩, hb7⟩
            have HSp : Hid (∀ (wx : World) (y1 y2 y3 : Value), SV wx w1.heap.size y1 y2 y3 s → Calls Tryz.prog 11 #[.agg #[.int .i64 s.ph, .string s.buf, .string s.he, .string s.fr, .string s.bo, y1, .int .i64 (s.nx : Int), y2, y3], .agg #[.int .i64 1, .string Z]] wx fun e w' => SQ (feedS s 1 Z) wx e w') := fun wx y1 y2 y3 hx => specFeed s.ph (s.nx : Int) s.buf s.he s.fr s.bo _ _ _ s.R s.T s.V 1 Z w1.heap.size wx hx.1 hx.2.1 hx.2.2 (Fine.small (.inl HPr.out.1)).1 (by omega)
            have HQ1 : Hid ((feedS s 1 Z).1.Pr ∧ Hist (feedS s 1 Z).1 (sent ++ (feedS s 1 Z).2) ∧ Same s (feedS s 1 Z).1) := ⟨HQr, HQp.1, HQp.2⟩
            change SV w7 Wd.heap.size f1 f2 f3 (feedS s 1 Z).1 at S7
            clear HQp HQr
            generalize hQ : feedS s 1 Z = Q at S7 HSp HQ1 hsaid
            have eQ : feedN s.ph (s.nx : Int) s.buf s.he s.fr s.bo s.R s.T s.V 1 Z = Q := hQ
            rw [eQ]
            clear eQ hQ
            obtain ⟨g1, a1, e1⟩ := strs_form2 S7.1
            obtain ⟨g2, a2, e2⟩ := bls_form S7.2.1
            obtain ⟨g3, a3, e3⟩ := vds_formD S7.2.2
            subst e1 e2 e3
            have HS7 : Hid (SV w7 Wd.heap.size (.slice g1 Q.1.R.length a1) (.slice g2 Q.1.T.length a2) (.slice g3 Q.1.V.length a3) Q.1) := S7
            have HB7 : Hid (Below Wd.heap.size Wd w7) := hb7
            have HM7 : Hid (SnM w W5 w1.heap.size w2.heap.size w4.heap.size s (.slice x1 s.R.length k1) (.slice x2 s.T.length k2) (.slice x3 s.V.length k3) (.slice u1 s.R.length j1) (.slice u2 s.T.length j2) (.slice u3 s.V.length j3) w7) := HMd.out.below hb7
            obtain ⟨i0, i1, i2, i3, i4, i5, i6, i7, i8⟩ := HM7.out.wt.sb.cells
            have lw7 : w2.heap.size < w7.heap.size := HM7.out.wt.sb.lt
            have zd : W5.heap.size ≤ Wd.heap.size := HMd.out.bl5
            have z7 := hb7.size
            have HG7 : Hid (Below w1.heap.size w1 w7) := HGd.out.trans (hb7.mono HGd.out.size)
            clear S7 hb7 HMd d0 d1 d2 d3 d4 d5 d6 d7 d8
            go_wp2_with fail
            generalize hW8 : World.alloc _ _ = W8
            have hb8 : Below w7.heap.size w7 W8 := by rw [← hW8]; exact below1 _ _
            have HT8 : Hid (Ses Wd.heap.size w7.heap.size Q.1 (.slice g1 Q.1.R.length a1) (.slice g2 Q.1.T.length a2) (.slice g3 Q.1.V.length a3) W8) := by show Ses _ _ _ _ _ _ _; rw [← hW8]; exact Ses.new _ HS7.out HB7.out.size
            have HM8 : Hid (SnM w W5 w1.heap.size w2.heap.size w4.heap.size s (.slice x1 s.R.length k1) (.slice x2 s.T.length k2) (.slice x3 s.V.length k3) (.slice u1 s.R.length j1) (.slice u2 s.T.length j2) (.slice u3 s.V.length j3) W8) := HM7.out.below hb8
            have z8 : w7.heap.size < W8.heap.size := HT8.out.sb.lt
            have HG8 : Hid (Below w1.heap.size w1 W8) := HG7.out.trans (hb8.mono HG7.out.size)
            clear hW8 hb8 HS7 HB7 HM7 i0 i1 i2 i3 i4 i5 i6 i7 i8 lw7
            refine (HSp.out W8 _ _ _ HM8.out.wt.sv).mono ?_
            rintro e w9 ⟨⟨f1, f2, f3, rfl, S9⟩, hb9⟩
            obtain ⟨h1, b1, e1⟩ := strs_form2 S9.1
            obtain ⟨h2, b2, e2⟩ := bls_form S9.2.1
            obtain ⟨h3, b3, e3⟩ := vds_formD S9.2.2
            subst e1 e2 e3
            have HS9 : Hid (SV w9 W8.heap.size (.slice h1 Q.1.R.length b1) (.slice h2 Q.1.T.length b2) (.slice h3 Q.1.V.length b3) Q.1) := S9
            have HB9 : Hid (Below W8.heap.size W8 w9) := hb9
            have HT9 : Hid (Ses Wd.heap.size w7.heap.size Q.1 (.slice g1 Q.1.R.length a1) (.slice g2 Q.1.T.length a2) (.slice g3 Q.1.V.length a3) w9) := HT8.out.below hb9
            have HM9 : Hid (SnM w W5 w1.heap.size w2.heap.size w4.heap.size s (.slice x1 s.R.length k1) (.slice x2 s.T.length k2) (.slice x3 s.V.length k3) (.slice u1 s.R.length j1) (.slice u2 s.T.length j2) (.slice u3 s.V.length j3) w9) := HM8.out.below hb9
            obtain ⟨i0, i1, i2, i3, i4, i5, i6, i7, i8⟩ := HT9.out.sb.cells
            have lw9 : w7.heap.size < w9.heap.size := HT9.out.sb.lt
            have z9 := hb9.size
            have HG9 : Hid (Below w1.heap.size w1 w9) := HG8.out.trans (hb9.mono HG8.out.size)
            clear S9 hb9 HM8 HT8
            go_wp2_with fail
            generalize hW10 : World.alloc _ _ = W10
            have hb10 : Below w9.heap.size w9 W10 := by rw [← hW10]; exact below1 _ _
            have HX10 : Hid (Ses W8.heap.size w9.heap.size Q.1 (.slice h1 Q.1.R.length b1) (.slice h2 Q.1.T.length b2) (.slice h3 Q.1.V.length b3) W10) := by show Ses _ _ _ _ _ _ _; rw [← hW10]; exact Ses.new _ HS9.out HB9.out.size
            have HT10 : Hid (Ses Wd.heap.size w7.heap.size Q.1 (.slice g1 Q.1.R.length a1) (.slice g2 Q.1.T.length a2) (.slice g3 Q.1.V.length a3) W10) := HT9.out.below hb10
            have HM10 : Hid (SnM w W5 w1.heap.size w2.heap.size w4.heap.size s (.slice x1 s.R.length k1) (.slice x2 s.T.length k2) (.slice x3 s.V.length k3) (.slice u1 s.R.length j1) (.slice u2 s.T.length j2) (.slice u3 s.V.length j3) W10) := HM9.out.below hb10
            have HG10 : Hid (Below w1.heap.size w1 W10) := HG9.out.trans (hb10.mono HG9.out.size)
            clear hW10 hb10 HS9 HB9 HM9 HT9 i0 i1 i2 i3 i4 i5 i6 i7 i8 lw9
            have HFQ : Hid (Fine Q.1) := .inl HQ1.out.1
            refine (sameSess Q.1 _ _ _ _ _ _ _ _ W10 HT10.out.sv HX10.out.sv HFQ.out.small.2.2.1 HFQ.out.small.2.2.2.1 HFQ.out.small.2.2.2.2 HFQ.out.small.1.2.2.2.2.2.1).mono ?_
            rintro e w11 ⟨rfl, hb11⟩
            have HX11 : Hid (Ses W8.heap.size w9.heap.size Q.1 (.slice h1 Q.1.R.length b1) (.slice h2 Q.1.T.length b2) (.slice h3 Q.1.V.length b3) w11) := HX10.out.below hb11
            have HT11 : Hid (Ses Wd.heap.size w7.heap.size Q.1 (.slice g1 Q.1.R.length a1) (.slice g2 Q.1.T.length a2) (.slice g3 Q.1.V.length a3) w11) := HT10.out.below hb11
            have HM11 : Hid (SnM w W5 w1.heap.size w2.heap.size w4.heap.size s (.slice x1 s.R.length k1) (.slice x2 s.T.length k2) (.slice x3 s.V.length k3) (.slice u1 s.R.length j1) (.slice u2 s.T.length j2) (.slice u3 s.V.length j3) w11) := HM10.out.below hb11
            have HG11 : Hid (Below w1.heap.size w1 w11) := HG10.out.trans (hb11.mono HG10.out.size)
            clear hb11 HX10 HT10 HM10
            obtain ⟨i0, i1, i2, i3, i4, i5, i6, i7, i8⟩ := HT11.out.sb.cells
            obtain ⟨c0, c1, c2, c3, c4, c5, c6, c7, c8⟩ := HX11.out.sb.cells
            obtain ⟨d0, d1, d2, d3, d4, d5, d6, d7, d8⟩ := HM11.out.st.sb.cells
            obtain ⟨df0, df1, df2, df3, df4, df5, df6, df7, df8⟩ := HM11.out.st.sb.frees
            obtain ⟨v0, v1, v2, v3, v4, v5, v6, v7, v8⟩ := HM11.out.wt.sb.cells
            obtain ⟨vf0, vf1, vf2, vf3, vf4, vf5, vf6, vf7, vf8⟩ := HM11.out.wt.sb.frees
            have q1 : ¬ w9.heap.size = w4.heap.size := by omega
            have q2 : ¬ w4.heap.size = w9.heap.size := by omega
            have q3 : ¬ w2.heap.size = w4.heap.size := by omega
            have q4 : ¬ w4.heap.size = w2.heap.size := by omega
            have q5 : ¬ w9.heap.size = w2.heap.size := by omega
            have q6 : ¬ w2.heap.size = w9.heap.size := by omega
            have q7 : ¬ w7.heap.size = w4.heap.size := by omega
            have q8 : ¬ w4.heap.size = w7.heap.size := by omega
            have l1 : w4.heap.size < w11.heap.size := HM11.out.st.sb.lt
            have l2 : w2.heap.size < w11.heap.size := HM11.out.wt.sb.lt
            have l3 : w7.heap.size < w11.heap.size := HT11.out.sb.lt
            have l4 : w9.heap.size < w11.heap.size := HX11.out.sb.lt
            have hcat : sent.size + Q.2.size ≤ (i + 1) * 800000000 := by omega
            go_wp2
            go_roundw
            case rel => exact ⟨i + 1, Q.1, sent ++ Q.2, _, _, _, _, _, _, _, _, _, _, _, _, rfl, by go_num, by omega, by rw [ByteArray.size_append]; exact hcat, ⟨HQ1.out.1, HQ1.out.2.1⟩, HSm.out.trans HQ1.out.2.2, HM11.out.put (by omega) HT11.out.sv HX11.out.sv (by omega) (by omega) (by omega) (by omega) (by omega), below_nine (below_nine HG11.out (by omega) _ _ _ _ _ _ _ _ _) (by omega) _ _ _ _ _ _ _ _ _⟩
            case measure => simp [intOf]; omega
          · have hy4b : ((y : Int) % 5 == 4) = false := beq_eq_false_iff_ne.2 (by omega)
            go_wp2_with fail
            generalize hWd : World.alloc _ _ = Wd
            have bd : Below wr.heap.size wr Wd := by rw [← hWd]; first | exact below1 _ _ | exact below2 _ _ _
            have HMd : Hid (SnM w W5 w1.heap.size w2.heap.size w4.heap.size s (.slice x1 s.R.length k1) (.slice x2 s.T.length k2) (.slice x3 s.V.length k3) (.slice u1 s.R.length j1) (.slice u2 s.T.length j2) (.slice u3 s.V.length j3) Wd) := HMr.out.below bd
            have HGd : Hid (Below w1.heap.size w1 Wd) := HGr.out.trans (bd.mono HGr.out.size)
            clear hWd bd
            have HQp := hist_feed HPr.out.1 HPr.out.2 1 Y
            have HQr := feed_pr HPr.out.1 1 Y
            rw [← feedS_eq HPr.out.1] at HQp HQr
            have hsaid : (feedS s 1 Y).2.size ≤ 800000000 := feedN_told _ _ _ _ _ _ _ _ _ _ _
            refine (implFeed s.ph (s.nx : Int) s.buf s.he s.fr s.bo _ _ _ s.R s.T s.V 1 Y w1.heap.size Wd HMd.out.st.sv.1 HMd.out.st.sv.2.1 HMd.out.st.sv.2.2 (Fine.small (.inl HPr.out.1)).1 (len_below HL.out HMd.out.bel) (HFo.out.below HMd.out.bel) (by omega)).mono ?_
            rintro e w7 ⟨⟨f1, f2, f3, rfl, S7⟩, hb7⟩
            have HSp : Hid (∀ (wx : World) (y1 y2 y3 : Value), SV wx w1.heap.size y1 y2 y3 s → Calls Tryz.prog 11 #[.agg #[.int .i64 s.ph, .string s.buf, .string s.he, .string s.fr, .string s.bo, y1, .int .i64 (s.nx : Int), y2, y3], .agg #[.int .i64 1, .string Y]] wx fun e w' => SQ (feedS s 1 Y) wx e w') := fun wx y1 y2 y3 hx => specFeed s.ph (s.nx : Int) s.buf s.he s.fr s.bo _ _ _ s.R s.T s.V 1 Y w1.heap.size wx hx.1 hx.2.1 hx.2.2 (Fine.small (.inl HPr.out.1)).1 (by omega)
            have HQ1 : Hid ((feedS s 1 Y).1.Pr ∧ Hist (feedS s 1 Y).1 (sent ++ (feedS s 1 Y).2) ∧ Same s (feedS s 1 Y).1) := ⟨HQr, HQp.1, HQp.2⟩
            change SV w7 Wd.heap.size f1 f2 f3 (feedS s 1 Y).1 at S7
            clear HQp HQr
            generalize hQ : feedS s 1 Y = Q at S7 HSp HQ1 hsaid
            have eQ : feedN s.ph (s.nx : Int) s.buf s.he s.fr s.bo s.R s.T s.V 1 Y = Q := hQ
            rw [eQ]
            clear eQ hQ
            obtain ⟨g1, a1, e1⟩ := strs_form2 S7.1
            obtain ⟨g2, a2, e2⟩ := bls_form S7.2.1
            obtain ⟨g3, a3, e3⟩ := vds_formD S7.2.2
            subst e1 e2 e3
            have HS7 : Hid (SV w7 Wd.heap.size (.slice g1 Q.1.R.length a1) (.slice g2 Q.1.T.length a2) (.slice g3 Q.1.V.length a3) Q.1) := S7
            have HB7 : Hid (Below Wd.heap.size Wd w7) := hb7
            have HM7 : Hid (SnM w W5 w1.heap.size w2.heap.size w4.heap.size s (.slice x1 s.R.length k1) (.slice x2 s.T.length k2) (.slice x3 s.V.length k3) (.slice u1 s.R.length j1) (.slice u2 s.T.length j2) (.slice u3 s.V.length j3) w7) := HMd.out.below hb7
            obtain ⟨i0, i1, i2, i3, i4, i5, i6, i7, i8⟩ := HM7.out.wt.sb.cells
            have lw7 : w2.heap.size < w7.heap.size := HM7.out.wt.sb.lt
            have zd : W5.heap.size ≤ Wd.heap.size := HMd.out.bl5
            have z7 := hb7.size
            have HG7 : Hid (Below w1.heap.size w1 w7) := HGd.out.trans (hb7.mono HGd.out.size)
            clear S7 hb7 HMd d0 d1 d2 d3 d4 d5 d6 d7 d8
            go_wp2_with fail
            generalize hW8 : World.alloc _ _ = W8
            have hb8 : Below w7.heap.size w7 W8 := by rw [← hW8]; exact below1 _ _
            have HT8 : Hid (Ses Wd.heap.size w7.heap.size Q.1 (.slice g1 Q.1.R.length a1) (.slice g2 Q.1.T.length a2) (.slice g3 Q.1.V.length a3) W8) := by show Ses _ _ _ _ _ _ _; rw [← hW8]; exact Ses.new _ HS7.out HB7.out.size
            have HM8 : Hid (SnM w W5 w1.heap.size w2.heap.size w4.heap.size s (.slice x1 s.R.length k1) (.slice x2 s.T.length k2) (.slice x3 s.V.length k3) (.slice u1 s.R.length j1) (.slice u2 s.T.length j2) (.slice u3 s.V.length j3) W8) := HM7.out.below hb8
            have z8 : w7.heap.size < W8.heap.size := HT8.out.sb.lt
            have HG8 : Hid (Below w1.heap.size w1 W8) := HG7.out.trans (hb8.mono HG7.out.size)
            clear hW8 hb8 HS7 HB7 HM7 i0 i1 i2 i3 i4 i5 i6 i7 i8 lw7
            refine (HSp.out W8 _ _ _ HM8.out.wt.sv).mono ?_
            rintro e w9 ⟨⟨f1, f2, f3, rfl, S9⟩, hb9⟩
            obtain ⟨h1, b1, e1⟩ := strs_form2 S9.1
            obtain ⟨h2, b2, e2⟩ := bls_form S9.2.1
            obtain ⟨h3, b3, e3⟩ := vds_formD S9.2.2
            subst e1 e2 e3
            have HS9 : Hid (SV w9 W8.heap.size (.slice h1 Q.1.R.length b1) (.slice h2 Q.1.T.length b2) (.slice h3 Q.1.V.length b3) Q.1) := S9
            have HB9 : Hid (Below W8.heap.size W8 w9) := hb9
            have HT9 : Hid (Ses Wd.heap.size w7.heap.size Q.1 (.slice g1 Q.1.R.length a1) (.slice g2 Q.1.T.length a2) (.slice g3 Q.1.V.length a3) w9) := HT8.out.below hb9
            have HM9 : Hid (SnM w W5 w1.heap.size w2.heap.size w4.heap.size s (.slice x1 s.R.length k1) (.slice x2 s.T.length k2) (.slice x3 s.V.length k3) (.slice u1 s.R.length j1) (.slice u2 s.T.length j2) (.slice u3 s.V.length j3) w9) := HM8.out.below hb9
            obtain ⟨i0, i1, i2, i3, i4, i5, i6, i7, i8⟩ := HT9.out.sb.cells
            have lw9 : w7.heap.size < w9.heap.size := HT9.out.sb.lt
            have z9 := hb9.size
            have HG9 : Hid (Below w1.heap.size w1 w9) := HG8.out.trans (hb9.mono HG8.out.size)
            clear S9 hb9 HM8 HT8
            go_wp2_with fail
            generalize hW10 : World.alloc _ _ = W10
            have hb10 : Below w9.heap.size w9 W10 := by rw [← hW10]; exact below1 _ _
            have HX10 : Hid (Ses W8.heap.size w9.heap.size Q.1 (.slice h1 Q.1.R.length b1) (.slice h2 Q.1.T.length b2) (.slice h3 Q.1.V.length b3) W10) := by show Ses _ _ _ _ _ _ _; rw [← hW10]; exact Ses.new _ HS9.out HB9.out.size
            have HT10 : Hid (Ses Wd.heap.size w7.heap.size Q.1 (.slice g1 Q.1.R.length a1) (.slice g2 Q.1.T.length a2) (.slice g3 Q.1.V.length a3) W10) := HT9.out.below hb10
            have HM10 : Hid (SnM w W5 w1.heap.size w2.heap.size w4.heap.size s (.slice x1 s.R.length k1) (.slice x2 s.T.length k2) (.slice x3 s.V.length k3) (.slice u1 s.R.length j1) (.slice u2 s.T.length j2) (.slice u3 s.V.length j3) W10) := HM9.out.below hb10
            have HG10 : Hid (Below w1.heap.size w1 W10) := HG9.out.trans (hb10.mono HG9.out.size)
            clear hW10 hb10 HS9 HB9 HM9 HT9 i0 i1 i2 i3 i4 i5 i6 i7 i8 lw9
            have HFQ : Hid (Fine Q.1) := .inl HQ1.out.1
            refine (sameSess Q.1 _ _ _ _ _ _ _ _ W10 HT10.out.sv HX10.out.sv HFQ.out.small.2.2.1 HFQ.out.small.2.2.2.1 HFQ.out.small.2.2.2.2 HFQ.out.small.1.2.2.2.2.2.1).mono ?_
            rintro e w11 ⟨rfl, hb11⟩
            have HX11 : Hid (Ses W8.heap.size w9.heap.size Q.1 (.slice h1 Q.1.R.length b1) (.slice h2 Q.1.T.length b2) (.slice h3 Q.1.V.length b3) w11) := HX10.out.below hb11
            have HT11 : Hid (Ses Wd.heap.size w7.heap.size Q.1 (.slice g1 Q.1.R.length a1) (.slice g2 Q.1.T.length a2) (.slice g3 Q.1.V.length a3) w11) := HT10.out.below hb11
            have HM11 : Hid (SnM w W5 w1.heap.size w2.heap.size w4.heap.size s (.slice x1 s.R.length k1) (.slice x2 s.T.length k2) (.slice x3 s.V.length k3) (.slice u1 s.R.length j1) (.slice u2 s.T.length j2) (.slice u3 s.V.length j3) w11) := HM10.out.below hb11
            have HG11 : Hid (Below w1.heap.size w1 w11) := HG10.out.trans (hb11.mono HG10.out.size)
            clear hb11 HX10 HT10 HM10
            obtain ⟨i0, i1, i2, i3, i4, i5, i6, i7, i8⟩ := HT11.out.sb.cells
            obtain ⟨c0, c1, c2, c3, c4, c5, c6, c7, c8⟩ := HX11.out.sb.cells
            obtain ⟨d0, d1, d2, d3, d4, d5, d6, d7, d8⟩ := HM11.out.st.sb.cells
            obtain ⟨df0, df1, df2, df3, df4, df5, df6, df7, df8⟩ := HM11.out.st.sb.frees
            obtain ⟨v0, v1, v2, v3, v4, v5, v6, v7, v8⟩ := HM11.out.wt.sb.cells
            obtain ⟨vf0, vf1, vf2, vf3, vf4, vf5, vf6, vf7, vf8⟩ := HM11.out.wt.sb.frees
            have q1 : ¬ w9.heap.size = w4.heap.size := by omega
            have q2 : ¬ w4.heap.size = w9.heap.size := by omega
            have q3 : ¬ w2.heap.size = w4.heap.size := by omega
            have q4 : ¬ w4.heap.size = w2.heap.size := by omega
            have q5 : ¬ w9.heap.size = w2.heap.size := by omega
            have q6 : ¬ w2.heap.size = w9.heap.size := by omega
            have q7 : ¬ w7.heap.size = w4.heap.size := by omega
            have q8 : ¬ w4.heap.size = w7.heap.size := by omega
            have l1 : w4.heap.size < w11.heap.size := HM11.out.st.sb.lt
            have l2 : w2.heap.size < w11.heap.size := HM11.out.wt.sb.lt
            have l3 : w7.heap.size < w11.heap.size := HT11.out.sb.lt
            have l4 : w9.heap.size < w11.heap.size := HX11.out.sb.lt
            have hcat : sent.size + Q.2.size ≤ (i + 1) * 800000000 := by omega
            go_wp2
            go_roundw
            case rel => exact ⟨i + 1, Q.1, sent ++ Q.2, _, _, _, _, _, _, _, _, _, _, _, _, rfl, by go_num, by omega, by rw [ByteArray.size_append]; exact hcat, ⟨HQ1.out.1, HQ1.out.2.1⟩, HSm.out.trans HQ1.out.2.2, HM11.out.put (by omega) HT11.out.sv HX11.out.sv (by omega) (by omega) (by omega) (by omega) (by omega), below_nine (below_nine HG11.out (by omega) _ _ _ _ _ _ _ _ _) (by omega) _ _ _ _ _ _ _ _ _⟩
            case measure => simp [intOf]; omega
        · have hiMi : ¬ (i : Int) < M.length := by omega
          go_wp2_with fail
          generalize hWd : World.alloc _ _ = Wd
          have bd : Below wr.heap.size wr Wd := by rw [← hWd]; first | exact below1 _ _ | exact below2 _ _ _
          have HMd : Hid (SnM w W5 w1.heap.size w2.heap.size w4.heap.size s (.slice x1 s.R.length k1) (.slice x2 s.T.length k2) (.slice x3 s.V.length k3) (.slice u1 s.R.length j1) (.slice u2 s.T.length j2) (.slice u3 s.V.length j3) Wd) := HMr.out.below bd
          have HGd : Hid (Below w1.heap.size w1 Wd) := HGr.out.trans (bd.mono HGr.out.size)
          clear hWd bd
          have HQp := hist_feed HPr.out.1 HPr.out.2 1 Y
          have HQr := feed_pr HPr.out.1 1 Y
          rw [← feedS_eq HPr.out.1] at HQp HQr
          have hsaid : (feedS s 1 Y).2.size ≤ 800000000 := feedN_told _ _ _ _ _ _ _ _ _ _ _
          refine (implFeed s.ph (s.nx : Int) s.buf s.he s.fr s.bo _ _ _ s.R s.T s.V 1 Y w1.heap.size Wd HMd.out.st.sv.1 HMd.out.st.sv.2.1 HMd.out.st.sv.2.2 (Fine.small (.inl HPr.out.1)).1 (len_below HL.out HMd.out.bel) (HFo.out.below HMd.out.bel) (by omega)).mono ?_
          rintro e w7 ⟨⟨f1, f2, f3, rfl, S7⟩, hb7⟩
          have HSp : Hid (∀ (wx : World) (y1 y2 y3 : Value), SV wx w1.heap.size y1 y2 y3 s → Calls Tryz.prog 11 #[.agg #[.int .i64 s.ph, .string s.buf, .string s.he, .string s.fr, .string s.bo, y1, .int .i64 (s.nx : Int), y2, y3], .agg #[.int .i64 1, .string Y]] wx fun e w' => SQ (feedS s 1 Y) wx e w') := fun wx y1 y2 y3 hx => specFeed s.ph (s.nx : Int) s.buf s.he s.fr s.bo _ _ _ s.R s.T s.V 1 Y w1.heap.size wx hx.1 hx.2.1 hx.2.2 (Fine.small (.inl HPr.out.1)).1 (by omega)
          have HQ1 : Hid ((feedS s 1 Y).1.Pr ∧ Hist (feedS s 1 Y).1 (sent ++ (feedS s 1 Y).2) ∧ Same s (feedS s 1 Y).1) := ⟨HQr, HQp.1, HQp.2⟩
          change SV w7 Wd.heap.size f1 f2 f3 (feedS s 1 Y).1 at S7
          clear HQp HQr
          generalize hQ : feedS s 1 Y = Q at S7 HSp HQ1 hsaid
          have eQ : feedN s.ph (s.nx : Int) s.buf s.he s.fr s.bo s.R s.T s.V 1 Y = Q := hQ
          rw [eQ]
          clear eQ hQ
          obtain ⟨g1, a1, e1⟩ := strs_form2 S7.1
          obtain ⟨g2, a2, e2⟩ := bls_form S7.2.1
          obtain ⟨g3, a3, e3⟩ := vds_formD S7.2.2
          subst e1 e2 e3
          have HS7 : Hid (SV w7 Wd.heap.size (.slice g1 Q.1.R.length a1) (.slice g2 Q.1.T.length a2) (.slice g3 Q.1.V.length a3) Q.1) := S7
          have HB7 : Hid (Below Wd.heap.size Wd w7) := hb7
          have HM7 : Hid (SnM w W5 w1.heap.size w2.heap.size w4.heap.size s (.slice x1 s.R.length k1) (.slice x2 s.T.length k2) (.slice x3 s.V.length k3) (.slice u1 s.R.length j1) (.slice u2 s.T.length j2) (.slice u3 s.V.length j3) w7) := HMd.out.below hb7
          obtain ⟨i0, i1, i2, i3, i4, i5, i6, i7, i8⟩ := HM7.out.wt.sb.cells
          have lw7 : w2.heap.size < w7.heap.size := HM7.out.wt.sb.lt
          have zd : W5.heap.size ≤ Wd.heap.size := HMd.out.bl5
          have z7 := hb7.size
          have HG7 : Hid (Below w1.heap.size w1 w7) := HGd.out.trans (hb7.mono HGd.out.size)
          clear S7 hb7 HMd d0 d1 d2 d3 d4 d5 d6 d7 d8
          go_wp2_with fail
          generalize hW8 : World.alloc _ _ = W8
          have hb8 : Below w7.heap.size w7 W8 := by rw [← hW8]; exact below1 _ _
          have HT8 : Hid (Ses Wd.heap.size w7.heap.size Q.1 (.slice g1 Q.1.R.length a1) (.slice g2 Q.1.T.length a2) (.slice g3 Q.1.V.length a3) W8) := by show Ses _ _ _ _ _ _ _; rw [← hW8]; exact Ses.new _ HS7.out HB7.out.size
          have HM8 : Hid (SnM w W5 w1.heap.size w2.heap.size w4.heap.size s (.slice x1 s.R.length k1) (.slice x2 s.T.length k2) (.slice x3 s.V.length k3) (.slice u1 s.R.length j1) (.slice u2 s.T.length j2) (.slice u3 s.V.length j3) W8) := HM7.out.below hb8
          have z8 : w7.heap.size < W8.heap.size := HT8.out.sb.lt
          have HG8 : Hid (Below w1.heap.size w1 W8) := HG7.out.trans (hb8.mono HG7.out.size)
          clear hW8 hb8 HS7 HB7 HM7 i0 i1 i2 i3 i4 i5 i6 i7 i8 lw7
          refine (HSp.out W8 _ _ _ HM8.out.wt.sv).mono ?_
          rintro e w9 ⟨⟨f1, f2, f3, rfl, S9⟩, hb9⟩
          obtain ⟨h1, b1, e1⟩ := strs_form2 S9.1
          obtain ⟨h2, b2, e2⟩ := bls_form S9.2.1
          obtain ⟨h3, b3, e3⟩ := vds_formD S9.2.2
          subst e1 e2 e3
          have HS9 : Hid (SV w9 W8.heap.size (.slice h1 Q.1.R.length b1) (.slice h2 Q.1.T.length b2) (.slice h3 Q.1.V.length b3) Q.1) := S9
          have HB9 : Hid (Below W8.heap.size W8 w9) := hb9
          have HT9 : Hid (Ses Wd.heap.size w7.heap.size Q.1 (.slice g1 Q.1.R.length a1) (.slice g2 Q.1.T.length a2) (.slice g3 Q.1.V.length a3) w9) := HT8.out.below hb9
          have HM9 : Hid (SnM w W5 w1.heap.size w2.heap.size w4.heap.size s (.slice x1 s.R.length k1) (.slice x2 s.T.length k2) (.slice x3 s.V.length k3) (.slice u1 s.R.length j1) (.slice u2 s.T.length j2) (.slice u3 s.V.length j3) w9) := HM8.out.below hb9
          obtain ⟨i0, i1, i2, i3, i4, i5, i6, i7, i8⟩ := HT9.out.sb.cells
          have lw9 : w7.heap.size < w9.heap.size := HT9.out.sb.lt
          have z9 := hb9.size
          have HG9 : Hid (Below w1.heap.size w1 w9) := HG8.out.trans (hb9.mono HG8.out.size)
          clear S9 hb9 HM8 HT8
          go_wp2_with fail
          generalize hW10 : World.alloc _ _ = W10
          have hb10 : Below w9.heap.size w9 W10 := by rw [← hW10]; exact below1 _ _
          have HX10 : Hid (Ses W8.heap.size w9.heap.size Q.1 (.slice h1 Q.1.R.length b1) (.slice h2 Q.1.T.length b2) (.slice h3 Q.1.V.length b3) W10) := by show Ses _ _ _ _ _ _ _; rw [← hW10]; exact Ses.new _ HS9.out HB9.out.size
          have HT10 : Hid (Ses Wd.heap.size w7.heap.size Q.1 (.slice g1 Q.1.R.length a1) (.slice g2 Q.1.T.length a2) (.slice g3 Q.1.V.length a3) W10) := HT9.out.below hb10
          have HM10 : Hid (SnM w W5 w1.heap.size w2.heap.size w4.heap.size s (.slice x1 s.R.length k1) (.slice x2 s.T.length k2) (.slice x3 s.V.length k3) (.slice u1 s.R.length j1) (.slice u2 s.T.length j2) (.slice u3 s.V.length j3) W10) := HM9.out.below hb10
          have HG10 : Hid (Below w1.heap.size w1 W10) := HG9.out.trans (hb10.mono HG9.out.size)
          clear hW10 hb10 HS9 HB9 HM9 HT9 i0 i1 i2 i3 i4 i5 i6 i7 i8 lw9
          have HFQ : Hid (Fine Q.1) := .inl HQ1.out.1
          refine (sameSess Q.1 _ _ _ _ _ _ _ _ W10 HT10.out.sv HX10.out.sv HFQ.out.small.2.2.1 HFQ.out.small.2.2.2.1 HFQ.out.small.2.2.2.2 HFQ.out.small.1.2.2.2.2.2.1).mono ?_
          rintro e w11 ⟨rfl, hb11⟩
          have HX11 : Hid (Ses W8.heap.size w9.heap.size Q.1 (.slice h1 Q.1.R.length b1) (.slice h2 Q.1.T.length b2) (.slice h3 Q.1.V.length b3) w11) := HX10.out.below hb11
          have HT11 : Hid (Ses Wd.heap.size w7.heap.size Q.1 (.slice g1 Q.1.R.length a1) (.slice g2 Q.1.T.length a2) (.slice g3 Q.1.V.length a3) w11) := HT10.out.below hb11
          have HM11 : Hid (SnM w W5 w1.heap.size w2.heap.size w4.heap.size s (.slice x1 s.R.length k1) (.slice x2 s.T.length k2) (.slice x3 s.V.length k3) (.slice u1 s.R.length j1) (.slice u2 s.T.length j2) (.slice u3 s.V.length j3) w11) := HM10.out.below hb11
          have HG11 : Hid (Below w1.heap.size w1 w11) := HG10.out.trans (hb11.mono HG10.out.size)
          clear hb11 HX10 HT10 HM10
          obtain ⟨i0, i1, i2, i3, i4, i5, i6, i7, i8⟩ := HT11.out.sb.cells
          obtain ⟨c0, c1, c2, c3, c4, c5, c6, c7, c8⟩ := HX11.out.sb.cells
          obtain ⟨d0, d1, d2, d3, d4, d5, d6, d7, d8⟩ := HM11.out.st.sb.cells
          obtain ⟨df0, df1, df2, df3, df4, df5, df6, df7, df8⟩ := HM11.out.st.sb.frees
          obtain ⟨v0, v1, v2, v3, v4, v5, v6, v7, v8⟩ := HM11.out.wt.sb.cells
          obtain ⟨vf0, vf1, vf2, vf3, vf4, vf5, vf6, vf7, vf8⟩ := HM11.out.wt.sb.frees
          have q1 : ¬ w9.heap.size = w4.heap.size := by omega
          have q2 : ¬ w4.heap.size = w9.heap.size := by omega
          have q3 : ¬ w2.heap.size = w4.heap.size := by omega
          have q4 : ¬ w4.heap.size = w2.heap.size := by omega
          have q5 : ¬ w9.heap.size = w2.heap.size := by omega
          have q6 : ¬ w2.heap.size = w9.heap.size := by omega
          have q7 : ¬ w7.heap.size = w4.heap.size := by omega
          have q8 : ¬ w4.heap.size = w7.heap.size := by omega
          have l1 : w4.heap.size < w11.heap.size := HM11.out.st.sb.lt
          have l2 : w2.heap.size < w11.heap.size := HM11.out.wt.sb.lt
          have l3 : w7.heap.size < w11.heap.size := HT11.out.sb.lt
          have l4 : w9.heap.size < w11.heap.size := HX11.out.sb.lt
          have hcat : sent.size + Q.2.size ≤ (i + 1) * 800000000 := by omega
          go_wp2
          go_roundw
          case rel => exact ⟨i + 1, Q.1, sent ++ Q.2, _, _, _, _, _, _, _, _, _, _, _, _, rfl, by go_num, by omega, by rw [ByteArray.size_append]; exact hcat, ⟨HQ1.out.1, HQ1.out.2.1⟩, HSm.out.trans HQ1.out.2.2, HM11.out.put (by omega) HT11.out.sv HX11.out.sv (by omega) (by omega) (by omega) (by omega) (by omega), below_nine (below_nine HG11.out (by omega) _ _ _ _ _ _ _ _ _) (by omega) _ _ _ _ _ _ _ _ _⟩
          case measure => simp [intOf]; omega
      · have hx : (¬ (i : Int) < 30) ∨ ((i : Int) < 30 ∧ (s.ph == 9) = true) := by
          by_cases hi : i < 30
          · refine .inr ⟨by omega, ?_⟩
            have h9 : s.ph = 9 := Classical.byContradiction fun h => hgo ⟨hi, h⟩
            rw [h9]; rfl
          · exact .inl (by omega)
        clear hgo
        rcases hx with hii | ⟨hii, h9b⟩
        all_goals
          go_wp2_with fail
          have HQp := hist_feed HPr.out.1 HPr.out.2 2 ⟨#[]⟩
          rw [feed_close2, cat_nil] at HQp
          have HQr := feed_pr HPr.out.1 2 ⟨#[]⟩
          have HQ9 := feed_close s ⟨#[]⟩
          rw [← feedS_eq HPr.out.1] at HQp HQr HQ9
          have HQh : Hid ((feedS s 2 ⟨#[]⟩).1.ph = 9) := HQ9
          clear HQ9
          have HQ1 : Hid ((feedS s 2 ⟨#[]⟩).1.Pr ∧ Hist (feedS s 2 ⟨#[]⟩).1 sent ∧ Same s0 (feedS s 2 ⟨#[]⟩).1) := ⟨HQr, HQp.1, HSm.out.trans HQp.2⟩
          refine (implFeed s.ph (s.nx : Int) s.buf s.he s.fr s.bo _ _ _ s.R s.T s.V 2 ⟨#[]⟩ w1.heap.size wr HMr.out.st.sv.1 HMr.out.st.sv.2.1 HMr.out.st.sv.2.2 (Fine.small (.inl HPr.out.1)).1 (len_below HL.out HMr.out.bel) (HFo.out.below HMr.out.bel) (by decide)).mono ?_
          rintro e w7 ⟨⟨f1, f2, f3, rfl, S7⟩, hb7⟩
          change SV w7 wr.heap.size f1 f2 f3 (feedS s 2 ⟨#[]⟩).1 at S7
          clear HQp HQr d0 d1 d2 d3 d4 d5 d6 d7 d8
          generalize hQ : feedS s 2 ⟨#[]⟩ = Q at S7 HQ1 HQh
          have eQ : feedN s.ph (s.nx : Int) s.buf s.he s.fr s.bo s.R s.T s.V 2 ⟨#[]⟩ = Q := hQ
          rw [eQ]
          clear eQ hQ
          obtain ⟨g1, a1, e1⟩ := strs_form2 S7.1
          obtain ⟨g2, a2, e2⟩ := bls_form S7.2.1
          obtain ⟨g3, a3, e3⟩ := vds_formD S7.2.2
          subst e1 e2 e3
          have HP8 : Hid _ := HMr.out.st.put hb7 S7
          have HB7 : Hid (Below wr.heap.size wr w7) := hb7
          have HM7 : Hid (SnM w W5 w1.heap.size w2.heap.size w4.heap.size s (.slice x1 s.R.length k1) (.slice x2 s.T.length k2) (.slice x3 s.V.length k3) (.slice u1 s.R.length j1) (.slice u2 s.T.length j2) (.slice u3 s.V.length j3) w7) := HMr.out.below hb7
          obtain ⟨d0, d1, d2, d3, d4, d5, d6, d7, d8⟩ := HM7.out.st.sb.cells
          obtain ⟨df0, df1, df2, df3, df4, df5, df6, df7, df8⟩ := HM7.out.st.sb.frees
          have l1 : w4.heap.size < w7.heap.size := HM7.out.st.sb.lt
          clear S7 hb7
          go_upto_region 25 with fail
          generalize hW8 : World.setCell _ _ _ = W8
          have HS8 : Hid (Ses w1.heap.size w4.heap.size Q.1 (.slice g1 Q.1.R.length a1) (.slice g2 Q.1.T.length a2) (.slice g3 Q.1.V.length a3) W8) := by show Ses _ _ _ _ _ _ _; rw [← hW8]; exact HP8.out
          have HB8 : Hid (Below w.heap.size w W8) := by show Below _ _ _; rw [← hW8]; exact below_nine HM7.out.bel (by omega) _ _ _ _ _ _ _ _ _
          have HG8 : Hid (Below w1.heap.size w1 W8) := by show Below _ _ _; rw [← hW8]; exact below_nine (HGr.out.trans (HB7.out.mono HGr.out.size)) (by omega) _ _ _ _ _ _ _ _ _
          clear hW8 HP8 HB7 HM7 d0 d1 d2 d3 d4 d5 d6 d7 d8 df0 df1 df2 df3 df4 df5 df6 df7 df8 l1 HMr HPr
          have HQ9 : Hid (Q.1.ph = 9) := HQh
          obtain ⟨bb, hfin⟩ := HQ1.out.2.1.done HQ9.out
          have HFn : Hid (Fin Q.1 sent bb) := hfin
          have HV0 : Hid (∀ v ∈ Q.1.V, v.1 ≠ 0) := hfin.2.1
          have HSame : Hid (Q.1.he = he ∧ Q.1.fr = fr ∧ Q.1.bo = bo ∧ Q.1.R = L) := ⟨HQ1.out.2.2.1.trans HE0.out.1, HQ1.out.2.2.2.1.trans HE0.out.2.1, HQ1.out.2.2.2.2.1.trans HE0.out.2.2.1, HQ1.out.2.2.2.2.2.trans HE0.out.2.2.2⟩
          clear hfin
          obtain ⟨_, _, _, _, _, _, _, _, d8⟩ := HS8.out.sb.cells
          have hV20 : Q.1.V.length ≤ 20 := (Fine.small (.inl HQ1.out.1)).2.2.2.2
          have HVR : Hid (Q.1.V.length = Q.1.R.length ∧ Q.1.T.length = Q.1.R.length ∧ Q.1.R.length ≤ 20) := ⟨HQ1.out.1.ok.v, HQ1.out.1.ok.t, HQ1.out.1.ok.r20⟩
          go_wp2_with fail
          clear d8
          go_loopw [19, 140] (fun _ iv wy => ∃ k : Nat, k ≤ Q.1.V.length ∧ iv = .int .i64 k ∧ Hid (Below W8.heap.size W8 wy)) (fun _ iv _ => Q.1.V.length - (intOf iv).toNat)
          case atStart => exact ⟨0, Nat.zero_le _, rfl, (Below.refl _ _ : Below _ _ _)⟩
          case round =>
            obtain ⟨k, hk, rfl, HBy⟩ := hrel
            by_cases hlt : k < Q.1.V.length
            · have TA0 := vds_below HS8.out.sv.2.2 HBy.out (Nat.le_refl _)
              obtain ⟨gv, hgv⟩ : ∃ g, g3 = some ⟨g, 0, none⟩ := by
                rcases TA0.cases with ⟨_, e⟩ | ⟨g, cap, e, _⟩
                · rw [e] at hlt; exact absurd hlt (by simp)
                · injection e with e _; exact ⟨g, e⟩
              subst hgv
              have VA := TA0.at.1
              obtain ⟨c0, c1, c2⟩ := VA.cell k hlt
              have lv := VA.lt
              have hne := HV0.out Q.1.V[k] (List.getElem_mem hlt)
              have hneb : (Q.1.V[k].1 == 0) = false := beq_eq_false_iff_ne.2 hne
              generalize Q.1.V[k] = X at c0 c1 c2 hneb
              clear VA TA0 hne
              go_wp2
              go_roundw
              case rel => exact ⟨k + 1, by omega, by go_num, HBy.out.alloc HBy.out.size _⟩
              case measure => simp [intOf]; omega
            · obtain ⟨W9, hW9⟩ : ∃ W9 : World, W9 = wr := ⟨wr, rfl⟩
              subst hW9
              have HS9 : Hid (Ses w1.heap.size w4.heap.size Q.1 (.slice g1 Q.1.R.length a1) (.slice g2 Q.1.T.length a2) (.slice g3 Q.1.V.length a3) W9) := HS8.out.below HBy.out
              have HB9 : Hid (Below w.heap.size w W9) := HB8.out.trans (HBy.out.mono HB8.out.size)
              have HG9 : Hid (Below w1.heap.size w1 W9) := HG8.out.trans (HBy.out.mono HG8.out.size)
              clear HS8 HB8 HG8 HBy
              obtain ⟨d0, _, _, _, _, _, _, _, _⟩ := HS9.out.sb.cells
              rw [HQ9.out] at d0
              go_wp2_with fail
              clear d0
              refine (implCommand 3 fr W9 (len_below HL.out HB9.out) (by omega)).mono ?_
              rintro e w10 ⟨rfl, hb10⟩
              have z3c := cmd_size 3 fr
              obtain ⟨C3, hC3⟩ : ∃ C3, cmdB 3 fr = C3 := ⟨_, rfl⟩
              have HC3 : Hid (cmdB 3 fr = C3) := hC3
              rw [hC3] at z3c ⊢
              have HB10 : Hid (Below w.heap.size w w10) := HB9.out.trans (hb10.mono HB9.out.size)
              have HG10 : Hid (Below w1.heap.size w1 w10) := HG9.out.trans (hb10.mono HG9.out.size)
              have HS10 : Hid (Ses w1.heap.size w4.heap.size Q.1 (.slice g1 Q.1.R.length a1) (.slice g2 Q.1.T.length a2) (.slice g3 Q.1.V.length a3) w10) := HS9.out.below hb10
              clear hC3 hb10 HB9 HG9 HS9
              go_wp2_with fail
              go_loopw [20, 22, 155] (fun av _ iv wy => ∃ (k : Nat) (acc : ByteArray), k ≤ L.length ∧ iv = .int .i64 k ∧ av = .string acc ∧ acc.size ≤ 400 + k * 400 ∧ Hid (acc = accR C3 (L.take k)) ∧ Hid (Below w10.heap.size w10 wy)) (fun _ _ iv _ => L.length - (intOf iv).toNat)
              case atStart => exact ⟨0, C3, Nat.zero_le _, rfl, rfl, by omega, rfl, (Below.refl _ _ : Below _ _ _)⟩
              case round =>
                obtain ⟨k, acc, hk, rfl, rfl, hacc, HAc, HBz⟩ := hrel
                obtain ⟨Wz, hWz⟩ : ∃ Wz : World, Wz = wr := ⟨wr, rfl⟩
                subst hWz
                have HBw : Hid (Below w.heap.size w Wz) := HB10.out.trans (HBz.out.mono HB10.out.size)
                have HGw : Hid (Below w1.heap.size w1 Wz) := HG10.out.trans (HBz.out.mono HG10.out.size)
                by_cases hlt : k < L.length
                · obtain ⟨gr, off, hra, lr, cr⟩ : ∃ gr off : Nat, la = some ⟨gr, off, none⟩ ∧ gr < Wz.heap.size ∧ Wz.cell? ⟨gr, off + k, none⟩ = some (.string L[k]) := by
                    rcases (HArg.out Wz HGw.out).2.2 with ⟨e, _⟩ | ⟨b, off, cap, e, hlt2, hc⟩
                    · rw [e] at hlt; exact absurd hlt (by simp)
                    · injection e with e _; exact ⟨b, off, e, hlt2, hc k hlt⟩
                  subst hra
                  have hls := HLs.out L[k] (List.getElem_mem hlt)
                  have hcs := cmd_size 4 L[k]
                  have HAn : Hid (acc ++ cmdB 4 L[k] = accR C3 (L.take (k + 1))) := by
                    show _ = _
                    rw [List.take_add_one, List.getElem?_eq_getElem hlt]
                    show _ = accR C3 (_ ++ [L[k]])
                    rw [accR_snoc, ← HAc.out]
                  have HCm : Hid (∀ wx, Below w.heap.size w wx → Calls Tryz.prog 12 #[.int .i64 4, .string L[k]] wx fun e w' => e = .returned (.string (cmdB 4 L[k])) ∧ Below wx.heap.size wx w') := fun wx hb => implCommand 4 _ wx (len_below HL.out hb) (by omega)
                  generalize L[k] = Y at cr hls hcs HAn HCm
                  go_wp2_with fail
                  refine (HCm.out Wz HBw.out).mono ?_
                  rintro e w11 ⟨rfl, hb11⟩
                  generalize cmdB 4 Y = C at hcs HAn ⊢
                  go_wp2
                  go_roundw
                  case rel => exact ⟨k + 1, acc ++ C, by omega, by go_num, rfl, by rw [ByteArray.size_append]; omega, HAn, HBz.out.trans (hb11.mono HBz.out.size)⟩
                  case measure => simp [intOf]; omega
                · have HAl : Hid (acc = accR C3 L) := by show acc = _; rw [HAc.out, List.take_of_length_le (by omega)]
                  have HSz : Hid (Ses w1.heap.size w4.heap.size Q.1 (.slice g1 Q.1.R.length a1) (.slice g2 Q.1.T.length a2) (.slice g3 Q.1.V.length a3) Wz) := HS10.out.below HBz.out
                  clear HAc HBz HB10 HG10 HS10
                  have HBWz : Hid (Below w.heap.size w Wz) := HBw
                  have HGWz : Hid (Below w1.heap.size w1 Wz) := HGw
                  have HSWz : Hid (Ses w1.heap.size w4.heap.size Q.1 (.slice g1 Q.1.R.length a1) (.slice g2 Q.1.T.length a2) (.slice g3 Q.1.V.length a3) Wz) := HSz
                  clear HBw HGw HSz
                  go_wp2_with fail
                  refine (implCommand 5 ⟨#[]⟩ Wz (len_below HL.out HBWz.out) (by decide)).mono ?_
                  rintro e w12 ⟨rfl, hb⟩
                  obtain ⟨C5, hC⟩ : ∃ C5, cmdB 5 ⟨#[]⟩ = C5 := ⟨_, rfl⟩
                  have HC5 : Hid (cmdB 5 ⟨#[]⟩ = C5) := hC
                  have zC5 : C5.size ≤ 20 := by rw [← hC]; exact cmd_size 5 ⟨#[]⟩
                  rw [hC]
                  have HBw12 : Hid (Below w.heap.size w w12) := HBWz.out.trans (hb.mono HBWz.out.size)
                  have HGw12 : Hid (Below w1.heap.size w1 w12) := HGWz.out.trans (hb.mono HGWz.out.size)
                  have HSw12 : Hid (Ses w1.heap.size w4.heap.size Q.1 (.slice g1 Q.1.R.length a1) (.slice g2 Q.1.T.length a2) (.slice g3 Q.1.V.length a3) w12) := HSWz.out.below hb
                  clear hC hb HBWz HGWz HSWz
                  go_wp2_with fail
                  refine (implStuff bo w12 (len_below HL.out HBw12.out) (by omega)).mono ?_
                  rintro e w13 ⟨rfl, hb⟩
                  obtain ⟨St, hC⟩ : ∃ St, stuffB bo = St := ⟨_, rfl⟩
                  have HSt : Hid (stuffB bo = St) := hC
                  have zSt : St.size ≤ 20000 := by rw [← hC]; have := stuff_size bo; omega
                  rw [hC]
                  have HBw13 : Hid (Below w.heap.size w w13) := HBw12.out.trans (hb.mono HBw12.out.size)
                  have HGw13 : Hid (Below w1.heap.size w1 w13) := HGw12.out.trans (hb.mono HGw12.out.size)
                  have HSw13 : Hid (Ses w1.heap.size w4.heap.size Q.1 (.slice g1 Q.1.R.length a1) (.slice g2 Q.1.T.length a2) (.slice g3 Q.1.V.length a3) w13) := HSw12.out.below hb
                  clear hC hb HBw12 HGw12 HSw12
                  go_wp2_with fail
                  refine (implCommand 6 ⟨#[]⟩ w13 (len_below HL.out HBw13.out) (by decide)).mono ?_
                  rintro e w14 ⟨rfl, hb⟩
                  obtain ⟨T6, hC⟩ : ∃ T6, cmdB 6 ⟨#[]⟩ = T6 := ⟨_, rfl⟩
                  have HT6 : Hid (cmdB 6 ⟨#[]⟩ = T6) := hC
                  have zT6 : T6.size ≤ 20 := by rw [← hC]; exact cmd_size 6 ⟨#[]⟩
                  rw [hC]
                  have HBw14 : Hid (Below w.heap.size w w14) := HBw13.out.trans (hb.mono HBw13.out.size)
                  have HGw14 : Hid (Below w1.heap.size w1 w14) := HGw13.out.trans (hb.mono HGw13.out.size)
                  have HSw14 : Hid (Ses w1.heap.size w4.heap.size Q.1 (.slice g1 Q.1.R.length a1) (.slice g2 Q.1.T.length a2) (.slice g3 Q.1.V.length a3) w14) := HSw13.out.below hb
                  clear hC hb HBw13 HGw13 HSw13
                  go_wp2_with fail
                  refine (implCommand 1 he w14 (len_below HL.out HBw14.out) (by omega)).mono ?_
                  rintro e w15 ⟨rfl, hb⟩
                  obtain ⟨C1, hC⟩ : ∃ C1, cmdB 1 he = C1 := ⟨_, rfl⟩
                  have HC1 : Hid (cmdB 1 he = C1) := hC
                  have zC1 : C1.size ≤ 300 := by rw [← hC]; have := cmd_size 1 he; omega
                  rw [hC]
                  have HBw15 : Hid (Below w.heap.size w w15) := HBw14.out.trans (hb.mono HBw14.out.size)
                  have HGw15 : Hid (Below w1.heap.size w1 w15) := HGw14.out.trans (hb.mono HGw14.out.size)
                  have HSw15 : Hid (Ses w1.heap.size w4.heap.size Q.1 (.slice g1 Q.1.R.length a1) (.slice g2 Q.1.T.length a2) (.slice g3 Q.1.V.length a3) w15) := HSw14.out.below hb
                  clear hC hb HBw14 HGw14 HSw14
                  go_wp2_with fail
                  have h1c := implCommand 1 he w15 (len_below HL.out HBw15.out) (by omega)
                  rw [HC1.out] at h1c
                  refine h1c.mono ?_
                  clear h1c
                  rintro e w16 ⟨rfl, hb⟩
                  have HBw16 : Hid (Below w.heap.size w w16) := HBw15.out.trans (hb.mono HBw15.out.size)
                  have HGw16 : Hid (Below w1.heap.size w1 w16) := HGw15.out.trans (hb.mono HGw15.out.size)
                  have HSw16 : Hid (Ses w1.heap.size w4.heap.size Q.1 (.slice g1 Q.1.R.length a1) (.slice g2 Q.1.T.length a2) (.slice g3 Q.1.V.length a3) w16) := HSw15.out.below hb
                  clear hb HBw15 HGw15 HSw15
                  go_wp2_with fail
                  refine (implCommand 2 he w16 (len_below HL.out HBw16.out) (by omega)).mono ?_
                  rintro e w17 ⟨rfl, hb⟩
                  obtain ⟨C2, hC⟩ : ∃ C2, cmdB 2 he = C2 := ⟨_, rfl⟩
                  have HC2 : Hid (cmdB 2 he = C2) := hC
                  have zC2 : C2.size ≤ 300 := by rw [← hC]; have := cmd_size 2 he; omega
                  rw [hC]
                  have HBw17 : Hid (Below w.heap.size w w17) := HBw16.out.trans (hb.mono HBw16.out.size)
                  have HGw17 : Hid (Below w1.heap.size w1 w17) := HGw16.out.trans (hb.mono HGw16.out.size)
                  have HSw17 : Hid (Ses w1.heap.size w4.heap.size Q.1 (.slice g1 Q.1.R.length a1) (.slice g2 Q.1.T.length a2) (.slice g3 Q.1.V.length a3) w17) := HSw16.out.below hb
                  clear hC hb HBw16 HGw16 HSw16
                  have hT6 : T6.size = 6 := by rw [← HT6.out]; decide
                  go_wp2_with fail
                  generalize hW18 : World.alloc _ _ = W18
                  have hb18 : Below w17.heap.size w17 W18 := by rw [← hW18]; exact below1 _ _
                  have HHd : Hid (Blk w17.heap.size #[.string C1, .string (C1 ++ C2)] W18) := by show Blk _ _ _; rw [← hW18]; exact Blk.new w17 _ _
                  have HB18 : Hid (Below w.heap.size w W18) := HBw17.out.trans (hb18.mono HBw17.out.size)
                  have HG18 : Hid (Below w1.heap.size w1 W18) := HGw17.out.trans (hb18.mono HGw17.out.size)
                  have HS18 : Hid (Ses w1.heap.size w4.heap.size Q.1 (.slice g1 Q.1.R.length a1) (.slice g2 Q.1.T.length a2) (.slice g3 Q.1.V.length a3) W18) := HSw17.out.below hb18
                  clear hW18 hb18 HBw17 HGw17 HSw17
                  obtain ⟨AL, hAL⟩ : ∃ AL, acc ++ (C5 ++ St) = AL := ⟨_, rfl⟩
                  have zAL : AL.size ≤ 40000 := by rw [← hAL, ByteArray.size_append, ByteArray.size_append]; omega
                  have HAL : Hid (allB fr bo L = AL) := by show _ = _; unfold allB; rw [HC3.out, HC5.out, HSt.out, ← HAl.out]; exact hAL
                  rw [hAL]
                  clear hAL
                  go_loopw [25, 26, 27, 180] (fun _ _ _ iv wy => ∃ k : Nat, k ≤ 1 ∧ iv = .int .i64 k ∧ Hid (k = 1 → bb = true) ∧ Hid (Below W18.heap.size W18 wy)) (fun _ _ _ iv _ => 2 - (intOf iv).toNat)
                  case atStart => exact ⟨0, by decide, rfl, (fun e => absurd e (by decide)), (Below.refl _ _ : Below _ _ _)⟩
                  case round =>
                    obtain ⟨k, hk, rfl, HK, HBy⟩ := hrel
                    obtain ⟨Wy, hWy⟩ : ∃ Wy : World, Wy = wr := ⟨wr, rfl⟩
                    subst hWy
                    obtain ⟨kb, hdv, HDv, zdv, cdv, HRt⟩ : ∃ (kb : Bool) (hdv : ByteArray), Hid (hdB kb he = hdv) ∧ hdv.size ≤ 700 ∧ Wy.cell? ⟨w17.heap.size, k, none⟩ = some (.string hdv) ∧ Hid (kb = bb ∨ (k = 0 ∧ kb = false ∧ bb = true)) := by
                      have hc := Blk.below HHd.out HBy.out
                      rcases (show k = 0 ∨ k = 1 by omega) with rfl | rfl
                      · refine ⟨false, C1, by show hdB false he = C1; rw [← HC1.out]; rfl, by omega, hc.cell 0, ?_⟩
                        cases bb with
                        | false => exact .inl rfl
                        | true => exact .inr ⟨rfl, rfl, rfl⟩
                      · exact ⟨true, C1 ++ C2, by show hdB true he = _; rw [← HC1.out, ← HC2.out]; rfl, by rw [ByteArray.size_append]; omega, hc.cell 1, .inl (HK.out rfl).symm⟩
                    have lhd : w17.heap.size < Wy.heap.size := (Blk.below HHd.out HBy.out).lt
                    have HBz2 : Hid (Below w.heap.size w Wy) := HB18.out.trans (HBy.out.mono HB18.out.size)
                    have HGz2 : Hid (Below w1.heap.size w1 Wy) := HG18.out.trans (HBy.out.mono HG18.out.size)
                    have HSz2 : Hid (Ses w1.heap.size w4.heap.size Q.1 (.slice g1 Q.1.R.length a1) (.slice g2 Q.1.T.length a2) (.slice g3 Q.1.V.length a3) Wy) := HS18.out.below HBy.out
                    have HLn : Hid (lineB Q.1 kb = hdv ++ AL) := by show lineB Q.1 kb = _; unfold lineB; rw [HSame.out.1, HSame.out.2.1, HSame.out.2.2.1, HSame.out.2.2.2, HDv.out, HAL.out]
                    have hki : (k : Int) < 2 := by omega
                    have zln : (hdv ++ AL).size ≤ 1048576 := by rw [ByteArray.size_append]; omega
                    by_cases hs6 : 6 ≤ sent.size
                    · obtain ⟨n, hn0, hn⟩ : ∃ n : Nat, sent.size - 6 = n ∧ (sent.size : Int) - (T6.size : Int) = (n : Int) := ⟨sent.size - 6, rfl, by omega⟩
                      have hge : (T6.size : Int) ≤ sent.size := by omega
                      have hnl : (n : Int) ≤ sent.size := by omega
                      by_cases hx6 : sent.extract n sent.size = T6
                      · have HE6 : Hid (endsQ sent = true) := by show endsQ sent = true; unfold endsQ; rw [decide_eq_true_eq]; exact ⟨hs6, by rw [hn0, hx6, ← HT6.out]; rfl⟩
                        go_wp2_with fail
                        refine (lawBegins (hdv ++ AL) sent Wy).mono ?_
                        rintro e wz ⟨rfl, hwz⟩
                        rw [hwz]
                        clear hwz wz
                        cases hbg : begB (hdv ++ AL) sent with
                        | true =>
                          have HBB : Hid (bareB (lineB Q.1 kb) sent = sent) := bare_beg (by rw [HLn.out]; exact hbg)
                          clear hbg
                          go_wp2_with fail
                          refine (lawBegins (hdv ++ AL) sent Wy).mono ?_
                          rintro e wz ⟨rfl, hwz⟩
                          rw [hwz]
                          clear hwz wz
                          rcases HRt.out with hr | ⟨rfl, rfl, hr⟩
                          · subst hr
                            have hbt : begB (hdv ++ AL) sent = true := by have := bare_right HFn.out; rw [HBB.out, HLn.out] at this; exact this
                            rw [hbt]
                            clear hbt
                            obtain ⟨d0, d1, d2, d3, d4, d5, d6, d7, d8⟩ := HSz2.out.sb.cells
                            go_wp2_with fail
                            refine (lawAllOk Q.1 _ _ _ _ L sent (hdv ++ AL) w1.heap.size Wy HSz2.out.sv (HArg.out Wy HGz2.out) (len_below HL.out HBz2.out) HVR.out.1 HVR.out.2.1 HSame.out.2.2.2 (by have := HVR.out.2.2; rw [HSame.out.2.2.2] at this; exact this) (fun x hx => by have := HLs.out x hx; omega) zln (by have := allOk_hyp HFn.out HQ1.out.1 HSame.out.2.2.2; rw [HBB.out, HLn.out] at this; exact this)).mono ?_
                            rintro e wn ⟨rfl, hbn⟩
                            clear d0 d1 d2 d3 d4 d5 d6 d7 d8
                            go_wp2
                            go_ret
                            exact ⟨rfl, HBz2.out.trans (hbn.mono HBz2.out.size)⟩
                          · subst hr
                            have hbf : begB (hdv ++ AL) sent = false := by have := bare_wrong HQ1.out.1 HFn.out; rw [HBB.out, HLn.out] at this; exact this
                            rw [hbf]
                            clear hbf
                            go_wp2
                            go_roundw
                            case rel => exact ⟨1, by decide, by go_num, (fun _ => by first | trivial | rfl), HBy⟩
                            case measure => simp [intOf]
                        | false =>
                          have HBB : Hid (bareB (lineB Q.1 kb) sent = sent.extract 0 n) := by show _ = _; rw [← hn0]; exact bare_cut HE6.out (by rw [HLn.out]; exact hbg)
                          clear hbg
                          go_wp2_with fail
                          refine (lawBegins (hdv ++ AL) (sent.extract 0 n) Wy).mono ?_
                          rintro e wz ⟨rfl, hwz⟩
                          rw [hwz]
                          clear hwz wz
                          rcases HRt.out with hr | ⟨rfl, rfl, hr⟩
                          · subst hr
                            have hbt : begB (hdv ++ AL) (sent.extract 0 n) = true := by have := bare_right HFn.out; rw [HBB.out, HLn.out] at this; exact this
                            rw [hbt]
                            clear hbt
                            obtain ⟨d0, d1, d2, d3, d4, d5, d6, d7, d8⟩ := HSz2.out.sb.cells
                            go_wp2_with fail
                            refine (lawAllOk Q.1 _ _ _ _ L (sent.extract 0 n) (hdv ++ AL) w1.heap.size Wy HSz2.out.sv (HArg.out Wy HGz2.out) (len_below HL.out HBz2.out) HVR.out.1 HVR.out.2.1 HSame.out.2.2.2 (by have := HVR.out.2.2; rw [HSame.out.2.2.2] at this; exact this) (fun x hx => by have := HLs.out x hx; omega) zln (by have := allOk_hyp HFn.out HQ1.out.1 HSame.out.2.2.2; rw [HBB.out, HLn.out] at this; exact this)).mono ?_
                            rintro e wn ⟨rfl, hbn⟩
                            clear d0 d1 d2 d3 d4 d5 d6 d7 d8
                            go_wp2
                            go_ret
                            exact ⟨rfl, HBz2.out.trans (hbn.mono HBz2.out.size)⟩
                          · subst hr
                            have hbf : begB (hdv ++ AL) (sent.extract 0 n) = false := by have := bare_wrong HQ1.out.1 HFn.out; rw [HBB.out, HLn.out] at this; exact this
                            rw [hbf]
                            clear hbf
                            go_wp2
                            go_roundw
                            case rel => exact ⟨1, by decide, by go_num, (fun _ => by first | trivial | rfl), HBy⟩
                            case measure => simp [intOf]
                      · have hx6b : ((sent.extract n sent.size).toList == T6.toList) = false := str_ne' hx6
                        have HBB : Hid (bareB (lineB Q.1 kb) sent = sent) := by
                          refine bare_no ?_
                          unfold endsQ
                          rw [decide_eq_false]
                          rintro ⟨_, e⟩
                          exact hx6 (by rw [← hn0, e, ← HT6.out]; rfl)
                        go_wp2_with fail
                        refine (lawBegins (hdv ++ AL) sent Wy).mono ?_
                        rintro e wz ⟨rfl, hwz⟩
                        rw [hwz]
                        clear hwz wz
                        rcases HRt.out with hr | ⟨rfl, rfl, hr⟩
                        · subst hr
                          have hbt : begB (hdv ++ AL) sent = true := by have := bare_right HFn.out; rw [HBB.out, HLn.out] at this; exact this
                          rw [hbt]
                          clear hbt
                          obtain ⟨d0, d1, d2, d3, d4, d5, d6, d7, d8⟩ := HSz2.out.sb.cells
                          go_wp2_with fail
                          refine (lawAllOk Q.1 _ _ _ _ L sent (hdv ++ AL) w1.heap.size Wy HSz2.out.sv (HArg.out Wy HGz2.out) (len_below HL.out HBz2.out) HVR.out.1 HVR.out.2.1 HSame.out.2.2.2 (by have := HVR.out.2.2; rw [HSame.out.2.2.2] at this; exact this) (fun x hx => by have := HLs.out x hx; omega) zln (by have := allOk_hyp HFn.out HQ1.out.1 HSame.out.2.2.2; rw [HBB.out, HLn.out] at this; exact this)).mono ?_
                          rintro e wn ⟨rfl, hbn⟩
                          clear d0 d1 d2 d3 d4 d5 d6 d7 d8
                          go_wp2
                          go_ret
                          exact ⟨rfl, HBz2.out.trans (hbn.mono HBz2.out.size)⟩
                        · subst hr
                          have hbf : begB (hdv ++ AL) sent = false := by have := bare_wrong HQ1.out.1 HFn.out; rw [HBB.out, HLn.out] at this; exact this
                          rw [hbf]
                          clear hbf
                          go_wp2
                          go_roundw
                          case rel => exact ⟨1, by decide, by go_num, (fun _ => by first | trivial | rfl), HBy⟩
                          case measure => simp [intOf]
                    · have hge : ¬ (T6.size : Int) ≤ sent.size := by omega
                      have HBB : Hid (bareB (lineB Q.1 kb) sent = sent) := by
                        refine bare_no ?_
                        unfold endsQ
                        rw [decide_eq_false]
                        rintro ⟨e, _⟩
                        exact hs6 e
                      go_wp2_with fail
                      refine (lawBegins (hdv ++ AL) sent Wy).mono ?_
                      rintro e wz ⟨rfl, hwz⟩
                      rw [hwz]
                      clear hwz wz
                      rcases HRt.out with hr | ⟨rfl, rfl, hr⟩
                      · subst hr
                        have hbt : begB (hdv ++ AL) sent = true := by have := bare_right HFn.out; rw [HBB.out, HLn.out] at this; exact this
                        rw [hbt]
                        clear hbt
                        obtain ⟨d0, d1, d2, d3, d4, d5, d6, d7, d8⟩ := HSz2.out.sb.cells
                        go_wp2_with fail
                        refine (lawAllOk Q.1 _ _ _ _ L sent (hdv ++ AL) w1.heap.size Wy HSz2.out.sv (HArg.out Wy HGz2.out) (len_below HL.out HBz2.out) HVR.out.1 HVR.out.2.1 HSame.out.2.2.2 (by have := HVR.out.2.2; rw [HSame.out.2.2.2] at this; exact this) (fun x hx => by have := HLs.out x hx; omega) zln (by have := allOk_hyp HFn.out HQ1.out.1 HSame.out.2.2.2; rw [HBB.out, HLn.out] at this; exact this)).mono ?_
                        rintro e wn ⟨rfl, hbn⟩
                        clear d0 d1 d2 d3 d4 d5 d6 d7 d8
                        go_wp2
                        go_ret
                        exact ⟨rfl, HBz2.out.trans (hbn.mono HBz2.out.size)⟩
                      · subst hr
                        have hbf : begB (hdv ++ AL) sent = false := by have := bare_wrong HQ1.out.1 HFn.out; rw [HBB.out, HLn.out] at this; exact this
                        rw [hbf]
                        clear hbf
                        go_wp2
                        go_roundw
                        case rel => exact ⟨1, by decide, by go_num, (fun _ => by first | trivial | rfl), HBy⟩
                        case measure => simp [intOf]
  · have hph : s0.ph = 9 := by
      rw [← HS0.out]
      unfold openN
      rw [Bool.eq_false_iff.2 hok]
      rfl
    rw [hph] at i0
    go_wp2
    go_ret
    exact ⟨rfl, HM6.out.bel⟩
end Go.Proofs.YtngcjlghjidnjaaGreatDoor
namespace Go.Proofs.YtngcjlghjidnjaaGreatDoor
open Go.ChangeShapes Go.WideShapes Go.ChangeAt Go.RowKit

set_option maxRecDepth 100000 in
theorem sessionFold {W : World} (h : laidMetH Tryz.prog Rows.fnSessionRow.laid W) : FoldAt W := fold_at (foldIn (show laidMet Tryz.prog _ W from h))

set_option maxRecDepth 100000 in
theorem sessionContract (H : Type) (enc : TypeId × Value → H) (W : World) (base : Nat) (args : Array Value) (ds gs : List (DataW H)) (before : List MemPlace)
    (hval : ∀ (j : Nat) t v, Tryz.f3.params[j]? = some t → args[j]? = some v → Value.okWide Tryz.prog W .any base t v)
    (hW : DataW.Whole enc Tryz.prog Tryz.f3.params.toList Rows.fnSessionSpec.vars false W args.toList ds gs before) (hL : laidMetH Tryz.prog Rows.fnSessionRow.laid W) (hSh : W.ShapedOpen Tryz.prog) :
    Calls Tryz.prog 3 args W fun e W' => ∃ v, e = .returned v ∧ Rows.fnSessionSpec.post enc Tryz.prog Tryz.f3 false true false false W args v W' := by
  have hW' := hW
  obtain ⟨p, q, hA0, hV, rfl, hfz, hnd⟩ := hW
  have hA : DataW.TrodAll enc Tryz.prog W 0 (fun _ => true) true Tryz.f3.params.toList args.toList ds p := hA0
  rw [Tryz.params3] at hA hval
  obtain ⟨v0, vs0, d0, ds0, p0, q0, hargs, rfl, rfl, h0, r0⟩ := trodAll_cons hA
  obtain ⟨v1, vs1, d1, ds1, p1, q1, rfl, rfl, rfl, h1, r1⟩ := trodAll_cons r0
  obtain ⟨rfl, rfl, rfl⟩ := trodAll_nil r1
  obtain rfl : args = #[v0, v1] := by cases args; simp_all
  obtain ⟨B, hB⟩ := openBytes (hval 0 22 v0 rfl rfl) h0
  obtain ⟨D, hD⟩ := openBytes (hval 1 22 v1 rfl rfl) h1
  obtain ⟨rfl, rfl⟩ := trodVars_none hV
  clear hA0
  refine (sessionLaw v0 v1 B D W hB hD (lenIn hSh) (sessionFold hL)).mono fun e W' ⟨he, hb⟩ => ?_
  subst he
  exact ⟨_, rfl, LawBase.lawPost 4 laidOut (by kernel_rfl) (by kernel_rfl) (by kernel_rfl) Tryz.underlying4 hW' rfl hb⟩

set_option maxRecDepth 100000 in
theorem sessionMet (os : Os) : laidMet Tryz.prog Rows.fnSessionRow.laid ((World.laidAll Tryz.prog os Rows.fnSessionRow.laid).forCall (fun _ _ => 0) ⟨#[], #[.slice none 0 0, .slice none 0 0], []⟩).memory :=
  laidMet_laidAll _ (by kernel_rfl) (by kernel_rfl)
set_option maxRecDepth 100000 in
theorem sessionReads (os : Os) {H : Type} (enc : TypeId × Value → H) : ∃ places, DataW.whole enc Tryz.prog ((World.laidAll Tryz.prog os Rows.fnSessionRow.laid).forCall (fun _ _ => 0) ⟨#[], #[.slice none 0 0, .slice none 0 0], []⟩).memory Tryz.f3.params.toList Rows.fnSessionSpec.vars false (#[.slice none 0 0, .slice none 0 0] : Array Value).toList 8 = some ([.nil, .nil], [], places) :=
  read_of (by kernel_rfl)

set_option maxRecDepth 100000 in
theorem sessionLifted (os : Os) (started : os.Started) (H : Type) (enc : TypeId × Value → H) (F : Stop.Interp) :
    ReturnsInHanded {} Tryz.checked os 3 .any ((OpenSpec.ofChange Rows.fnSessionSpec).preRow enc Tryz.prog Tryz.f3 Rows.fnSessionRow.domain false Rows.fnSessionRow.laid) (((OpenSpec.ofChange Rows.fnSessionSpec).at F).post enc Tryz.prog Tryz.f3 false true false false) := by
  obtain ⟨places, hx⟩ := sessionReads os enc
  refine returnsInHanded_of_row (C := Tryz.checked) (s := OpenSpec.ofChange Rows.fnSessionSpec) own started (by kernel_rfl) Tryz.func3
    (witness_row_atRef (enc := enc) (C := Tryz.checked) false (World.laidAll Tryz.prog os Rows.fnSessionRow.laid) #[.slice none 0 0, .slice none 0 0] (World.laidAll_os _ _ _) (by kernel_rfl) (by kernel_rfl) (by kernel_rfl)
      (OpenSpec.preRow_of_cond 8 hx (by kernel_rfl) (fun k hk => by cases hk) (by kernel_rfl) (sessionMet os))) ?_
  intro W base args ds gs before hval hW _ _ _ hL hSh _
  exact sessionContract H enc W base args ds gs before hval hW hL hSh

set_option maxRecDepth 100000 in
theorem sessionSaid : Rows.FnSessionSaid :=
  OpenClaim.holds_of_cond 3 Tryz.f3 rfl rfl rfl rfl rfl rfl rfl ⟨rfl, rfl, rfl, rfl, rfl⟩ rfl rfl rfl rfl rfl (by kernel_rfl) Tryz.func3 (by kernel_rfl)
    (of_decide_eq_true (by kernel_rfl)) (by unfold Func.isWrapper; first | (rw [if_pos (by decide +kernel)]; kernel_rfl) | (rw [if_neg (by decide +kernel)]; exact ⟨rfl, rfl⟩))
    (fun os started H enc _ F => by rw [OpenClaim.pre_eq_preRow]; exact sessionLifted os started H enc F)

set_option maxRecDepth 100000 in
theorem sessionPlain (f : FuncId) (fn : Func) (hf : Tryz.pinned.checked.prog.funcNamed "loop.example/s01729/laws.FnSession" = some f) (hfn : Tryz.pinned.checked.prog.funcs[f]? = some fn) :
    false = Tryz.pinned.checked.prog.looks [] ∧ ∀ (j : Nat) t, fn.params[j]? = some t → Tryz.pinned.checked.prog.wantsStandIn t = false := by
  obtain rfl : f = 3 := Option.some.inj ((show Tryz.prog.funcNamed "loop.example/s01729/laws.FnSession" = some 3 by kernel_rfl).symm.trans hf) |>.symm
  obtain rfl : fn = Tryz.f3 := (Option.some.inj (Tryz.func3.symm.trans hfn)).symm
  refine ⟨by kernel_rfl, fun j t ht => ?_⟩
  rw [Tryz.params3] at ht
  have hall : ∀ t ∈ ([22, 22] : List TypeId), Tryz.prog.wantsStandIn t = false := fun t h => by
    have h2 : ([22, 22] : List TypeId).all (fun t => !Tryz.prog.wantsStandIn t) = true := by kernel_rfl
    simpa using List.all_eq_true.1 h2 t h
  exact hall t (by simpa using Array.mem_of_getElem? ht)

set_option maxRecDepth 100000 in
theorem sessionCard : Rows.FnSessionCardSaid :=
  Claim7.holds_tied_plain_at .later [] _ _ _ _ sessionSaid (fun _ h => by cases h) (by kernel_rfl) (fun _ h => by cases h) fnSession_row_tie rfl ⟨rfl, rfl⟩ (by kernel_rfl) rfl sessionPlain (by kernel_rfl)
#print axioms sessionCard
end Go.Proofs.YtngcjlghjidnjaaGreatDoor
