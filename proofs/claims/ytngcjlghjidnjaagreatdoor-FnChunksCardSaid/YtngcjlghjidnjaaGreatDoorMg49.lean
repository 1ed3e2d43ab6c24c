import Derived.Test.YtngcjlghjidnjaaGreatDoorMg47
import Derived.Deep.RegionHeld3
import Derived.Test.YtngcjlghjidnjaaGreatDoorMg48
namespace Go.Proofs.YtngcjlghjidnjaaGreatDoor
open Go.ChangeShapes Go.WideShapes Go.ChangeAt Go.RowKit
attribute [local go_sem ↓] Go.wp_at_zero Go.wp_at_succ
theorem rd_drewX {w : World} {b p : Nat} {cv : Value} {B : List UInt8} (h : RdAt w b cv B p) : RdAt w.drew b cv B p := h
theorem SV.drewX {w : World} {lo : Nat} {u1 u2 u3 : Value} {s : Sn} (h : SV w lo u1 u2 u3 s) : SV w.drew lo u1 u2 u3 s := h
set_option maxHeartbeats 2000000 in
set_option maxRecDepth 100000 in
theorem fillX (n : Nat) (w : World) (hn : n ≤ 100000) :
    Calls Tryz.prog 57 #[.int .i64 n] w fun e w' => e = .returned (.string (ofInts (fillL n))) ∧ Below w.heap.size w w' := by
  obtain ⟨i0, hi, hz0, hz1, hz2⟩ := info_parts infoU8
  have hmk : (Instr.makeSlice 22 (.int .i64 (n : Int)) (.int .i64 (n : Int))).run Tryz.prog w = .ok (.slice (some ⟨w.heap.size, 0, none⟩) n n) (w.alloc (.cells (madeCells (Value.int .u8 0).cells n) 5)) := by
    have e := run_make (P := Tryz.prog) w 22 5 i0 (.int .u8 0) Tryz.underlying22 hi hz0 .i64 .i64 (n : Int) (n : Int) (by omega) (by omega) (by rw [hz2]; omega) (by omega)
    simpa [hz1] using e
  have HM : Hid (Byts (w.alloc (.cells (madeCells (Value.int .u8 0).cells n) 5)) w.heap.size (.slice (some ⟨w.heap.size, 0, none⟩) n n) (fillL 0 ++ List.replicate (n - 0) 0)) := byts_made w n (by unfold maxLen; omega)
  clear hi hz0 hz1 hz2
  obtain ⟨Z, HZ⟩ : ∃ Z, Hid (Obj.cells (madeCells (Value.int .u8 0).cells n) 5 = Z) := ⟨_, rfl⟩
  rw [HZ.out] at hmk HM
  go_enter Tryz.func57, Tryz.ntmps57
  go_wp2
  go_loopw [4, 11] (fun _ i wr => ∃ k : Nat, k ≤ n ∧ i = .int .i64 k ∧ Hid (Byts wr w.heap.size (.slice (some ⟨w.heap.size, 0, none⟩) n n) (fillL k ++ List.replicate (n - k) 0)) ∧ Below w.heap.size w wr) (fun _ i _ => n - (intOf i).toNat)
  case atStart => exact ⟨0, Nat.zero_le _, rfl, HM, below1 _ _⟩
  case round =>
    obtain ⟨k, hk, rfl, HS, hb⟩ := hrel
    by_cases hlt : k < n
    · have hlen : (fillL k ++ List.replicate (n - k) (0 : Int)).length = n := by simp [fillL]; omega
      obtain ⟨y, ec⟩ : ∃ y, wr.cell? ⟨w.heap.size, k, none⟩ = some (.int .u8 y) := ⟨_, HS.out.cell.1 k (by omega)⟩
      have ef := HS.out.cell.2.1 k
      clear hlen
      go_wp2
      go_roundw
      case rel =>
        refine ⟨k + 1, by omega, by go_num, ?_, hb.setCell (Nat.le_refl _) _⟩
        show Byts _ _ _ _
        rw [← fillL_step n k hlt]
        exact byts_set HS.out _
      case measure => simp [intOf]; omega
    · obtain rfl : k = n := by omega
      have hcv : (convert 22 9 (.slice (some ⟨w.heap.size, 0, none⟩) k k)).run Tryz.prog wr = .ok (.string (ofInts (fillL k))) wr := by
        have e := run_row_str HS.out
        rw [Nat.sub_self, List.replicate_zero, List.append_nil] at e
        exact e
      go_wp2
      go_ret
      exact ⟨rfl, hb⟩

def tAnd : ByteArray := ⟨#[50, 53, 48, 32, 97, 110, 100]⟩
/-- some replies, one behind another -/
def rpGo : Nat → List UInt8 → Nat → ByteArray → ByteArray × Nat
  | 0, _, p, acc => (acc, p)
  | n + 1, B, p, acc => rpGo n B (repF B p).2 (acc ++ (repF B p).1)
theorem rpGo_size : ∀ (n : Nat) (B : List UInt8) (p : Nat) (acc : ByteArray), (rpGo n B p acc).1.size ≤ acc.size + n * 200
  | 0, _, _, _ => by simp [rpGo]
  | n + 1, B, p, acc => by
    rw [rpGo]
    have h1 := rpGo_size n B (repF B p).2 (acc ++ (repF B p).1)
    have h2 := repF_size B p
    rw [ByteArray.size_append] at h1
    omega
/-- a drawn session's waiting bytes, and a drawn event -/
def drwD (B : List UInt8) (c : Nat) (s : Sn) (q : Nat) : ByteArray × Int × ByteArray :=
  if c % 10 = 0 then (s.buf, 2 + (c : Int) / 10 % 3, if c = 250 then ofInts (fillL 40001) else ⟨#[]⟩)
  else if c % 10 = 1 ∨ c % 10 = 2 then (s.buf, 1, (repF B q).1 ++ tAnd)
  else if c % 10 = 3 then (s.buf, 1, (spoF B (repF B q).2 (repF B q).1).1)
  else if c % 10 = 4 then (s.buf, 1, keepB (repF B q).1 ((c : Int) / 10))
  else if c % 10 = 5 then (s.buf, 1, (rpGo 3 B q ⟨#[]⟩).1)
  else if c % 10 = 6 then (keepB (goodF s.ph) ((c : Int) / 10 % 8), 1, (goodF s.ph).extract (keepB (goodF s.ph) ((c : Int) / 10 % 8)).size (goodF s.ph).size)
  else (s.buf, 1, goodF s.ph)
def drS (B : List UInt8) : Sn := (sesF B (px B 0)).1
def drD (B : List UInt8) : ByteArray × Int × ByteArray := drwD B (nx B 0) (sesF B (px B 0)).1 (sesF B (px B 0)).2
def drX (B : List UInt8) : Int := if nx B 0 % 31 = 30 then -1 else ((drS B).nx : Int)
theorem drwD_size (B : List UInt8) (c : Nat) (s : Sn) (q : Nat) (h : s.buf.size ≤ 40000) : (drwD B c s q).1.size ≤ 40000 ∧ (drwD B c s q).2.2.size ≤ 40001 := by
  unfold drwD
  have g := goodF_size s.ph
  have r := repF_size B q
  have e0 : (⟨#[]⟩ : ByteArray).size = 0 := rfl
  have e7 : tAnd.size = 7 := rfl
  split
  · refine ⟨h, ?_⟩
    dsimp only
    split
    · rw [fill_size]; decide
    · exact Nat.zero_le _
  · split
    · refine ⟨h, ?_⟩
      dsimp only
      rw [ByteArray.size_append]
      omega
    · split
      · have := spoF_size B (repF B q).2 (repF B q).1
        refine ⟨h, ?_⟩
        dsimp only
        omega
      · split
        · have := keepB_size (repF B q).1 ((c : Int) / 10)
          refine ⟨h, ?_⟩
          dsimp only
          omega
        · split
          · have := rpGo_size 3 B q ⟨#[]⟩
            refine ⟨h, ?_⟩
            dsimp only
            omega
          · split
            · have := keepB_size (goodF s.ph) ((c : Int) / 10 % 8)
              refine ⟨?_, ?_⟩
              · dsimp only; omega
              · dsimp only; rw [ByteArray.size_extract]; omega
            · exact ⟨h, by dsimp only; omega⟩

set_option maxHeartbeats 8000000 in
set_option maxRecDepth 100000 in
theorem drawFeedX (cv : Value) (B : List UInt8) (w : World) (hC : CodeAt w cv B) :
    Calls Tryz.prog 16 #[cv] w fun e w' => (∃ u1 u2 u3, e = .returned (.tuple #[.agg #[.int .i64 (drS B).ph, .string (drD B).1, .string (drS B).he, .string (drS B).fr, .string (drS B).bo, u1, .int .i64 (drX B), u2, u3], .agg #[.int .i64 (drD B).2.1, .string (drD B).2.2]]) ∧ SV w' w.heap.size u1 u2 u3 (drS B)) ∧ Below w.heap.size w w' := by
  obtain ⟨ca, cc, hcv⟩ := hC.form
  have HCo : Hid (CodeAt w cv B) := hC
  subst hcv
  clear hC
  go_enter Tryz.func16, Tryz.ntmps16
  go_wp2_with fail
  generalize hW : World.alloc _ _ = W
  have HZS_W : Hid (SB w.heap.size sn0 (.slice none 0 0) (.slice none 0 0) (.slice none 0 0) W) := by show SB _ _ _ _ _ _; rw [← hW]; exact (blk3 w _ _ _ _ _ _).1
  have HZE_W : Hid (Blk (w.heap.size + 1) #[.int .i64 0, .string ⟨#[]⟩] W) := by show Blk _ _ _; rw [← hW]; exact (blk3 w _ _ _ _ _ _).2.1
  have b_W : Below w.heap.size w W := by rw [← hW]; exact below3 _ _ _ _
  have H0 : Hid (RdAt W (w.heap.size + 1 + 1) (.slice ca B.length cc) B 0) := by
    show RdAt _ _ _ _ _
    rw [← hW]
    have e := rd_new ((w.alloc (.cells #[.int .i64 0, .string ⟨#[]⟩, .string ⟨#[]⟩, .string ⟨#[]⟩, .string ⟨#[]⟩, .slice none 0 0, .int .i64 0, .slice none 0 0, .slice none 0 0] 29)).alloc (.cells #[.int .i64 0, .string ⟨#[]⟩] 35)) (.slice ca B.length cc) B (HCo.out.below (below2 w _ _))
    simpa using e
  have z_W : w.heap.size + 2 < W.heap.size := by rw [← hW]; simp
  clear hW
  refine (rdNext _ 0 _ B W H0.out).mono ?_
  rintro e w1 ⟨rfl, h1, ho1⟩
  have hc := nx_lt B 0
  generalize hcE : nx B 0 = c at hc ⊢
  generalize hqE : px B 0 = q1 at h1
  have HC : Hid (nx B 0 = c) := hcE
  have HP : Hid (px B 0 = q1) := hqE
  have H1 : Hid (RdAt w1 (w.heap.size + 1 + 1) (.slice ca B.length cc) B q1) := h1
  have HZS_w1 : Hid (SB w.heap.size sn0 (.slice none 0 0) (.slice none 0 0) (.slice none 0 0) w1) := Blk.offR HZS_W.out ho1 (by omega)
  have HZE_w1 : Hid (Blk (w.heap.size + 1) #[.int .i64 0, .string ⟨#[]⟩] w1) := Blk.offR HZE_W.out ho1 (by omega)
  have b_w1 : Below w.heap.size w w1 := b_W.trans ((ho1.belowAt (N := w.heap.size) (by omega) (by omega)).mono (Nat.le_refl _))
  have z_w1 := ho1.size
  clear hcE hqE h1 ho1 H0 HZS_W HZE_W
  go_wp2_with fail
  refine (rdSessX _ q1 _ B w1 H1.out).mono ?_
  rintro e w2 ⟨⟨u1, u2, u3, rfl, S2⟩, h2, ho2⟩
  have hfin := sesF_fine B q1
  obtain ⟨s, q2, hSF⟩ : ∃ s q2, sesF B q1 = (s, q2) := ⟨_, _, rfl⟩
  rw [hSF] at S2 h2 hfin ⊢
  have HSF : Hid (sesF B q1 = (s, q2)) := hSF
  have HFi : Hid (Fine s) := hfin
  have hph := hfin.ph
  have H2 : Hid (RdAt w2 (w.heap.size + 1 + 1) (.slice ca B.length cc) B q2) := h2
  obtain ⟨y1, k1, hx1⟩ := strs_form2 S2.1
  obtain ⟨y2, k2, hx2⟩ := bls_form S2.2.1
  obtain ⟨y3, k3, hx3⟩ := vds_formD S2.2.2
  subst hx1 hx2 hx3
  have HV2 : Hid (SV w2 w1.heap.size (.slice y1 s.R.length k1) (.slice y2 s.T.length k2) (.slice y3 s.V.length k3) s) := S2
  have HZS_w2 : Hid (SB w.heap.size sn0 (.slice none 0 0) (.slice none 0 0) (.slice none 0 0) w2) := Blk.offR HZS_w1.out ho2 (by omega)
  have HZE_w2 : Hid (Blk (w.heap.size + 1) #[.int .i64 0, .string ⟨#[]⟩] w2) := Blk.offR HZE_w1.out ho2 (by omega)
  have b_w2 : Below w.heap.size w w2 := b_w1.trans ((ho2.belowAt (N := w.heap.size) (by omega) (by omega)).mono (Nat.le_refl _))
  have z_w2 := ho2.size
  clear hSF S2 h2 ho2 hfin H1 HZS_w1 HZE_w1
  have HW3 : Hid (∀ W3, W3 = (w2.alloc (.cells (c9 s (.slice y1 s.R.length k1) (.slice y2 s.T.length k2) (.slice y3 s.V.length k3)) 29)).alloc (.cells #[.int .i64 1, .string ⟨#[]⟩] 35) → Below w2.heap.size w2 W3 ∧ SB w2.heap.size s (.slice y1 s.R.length k1) (.slice y2 s.T.length k2) (.slice y3 s.V.length k3) W3 ∧ Blk (w2.heap.size + 1) #[.int .i64 1, .string ⟨#[]⟩] W3 ∧ w2.heap.size + 2 ≤ W3.heap.size) := by
    rintro W3 rfl
    exact ⟨below2 _ _ _, (blk2 w2 _ _ _ _).1, (blk2 w2 _ _ _ _).2, by simp⟩
  have HdS : Hid (drS B = s) := by show drS B = s; unfold drS; rw [HP.out, HSF.out]
  have HN : Hid (∀ (wx : World) (a : Addr) (u : Value), (w2.heap.size ≤ a.block ∨ a.block < w1.heap.size) → SV wx w1.heap.size (.slice y1 s.R.length k1) (.slice y2 s.T.length k2) (.slice y3 s.V.length k3) s → SV (wx.setCell a u) w1.heap.size (.slice y1 s.R.length k1) (.slice y2 s.T.length k2) (.slice y3 s.V.length k3) s) := by
    intro wx a u hor hx
    have o := HV2.out.own
    exact SV.set_ne hx (fun g hg => by have := o.1 g hg; omega) (fun g hg => by have := o.2.1 g hg; omega) (fun g hg => by have := o.2.2 g hg; omega) u
  obtain ⟨m, hm0, hm, hm10⟩ : ∃ m : Nat, c % 10 = m ∧ (c : Int) % 10 = (m : Int) ∧ m < 10 := ⟨c % 10, rfl, by omega, by omega⟩
  go_upto_region 5 with fail
  generalize hW3 : World.alloc _ _ = W3
  obtain ⟨hb3, hs3, he3, z3⟩ := HW3.out W3 hW3.symm
  have HSb_W3 : Hid (SB w2.heap.size s (.slice y1 s.R.length k1) (.slice y2 s.T.length k2) (.slice y3 s.V.length k3) W3) := hs3
  have HEv_W3 : Hid (Blk (w2.heap.size + 1) #[.int .i64 1, .string ⟨#[]⟩] W3) := he3
  have HV_W3 : Hid (SV W3 w1.heap.size (.slice y1 s.R.length k1) (.slice y2 s.T.length k2) (.slice y3 s.V.length k3) s) := HV2.out.below hb3 (Nat.le_refl _)
  have H3 : Hid (RdAt W3 (w.heap.size + 1 + 1) (.slice ca B.length cc) B q2) := H2.out.below hb3 (Nat.le_refl _)
  have HZS_W3 : Hid (SB w.heap.size sn0 (.slice none 0 0) (.slice none 0 0) (.slice none 0 0) W3) := SB.below HZS_w2.out hb3
  have HZE_W3 : Hid (Blk (w.heap.size + 1) #[.int .i64 0, .string ⟨#[]⟩] W3) := Blk.below HZE_w2.out hb3
  have b_W3 : Below w.heap.size w W3 := b_w2.trans (hb3.mono b_w2.size)
  have z_W3 := hb3.size
  clear hW3 hb3 hs3 he3 HW3 HV2 HZS_w2 HZE_w2
  by_cases m7 : 7 ≤ m
  · have a0 : ((m : Int) == 0) = false := beq_eq_false_iff_ne.2 (by omega)
    have a1 : ((m : Int) == 1) = false := beq_eq_false_iff_ne.2 (by omega)
    have a2 : ((m : Int) == 2) = false := beq_eq_false_iff_ne.2 (by omega)
    have a3 : ((m : Int) == 3) = false := beq_eq_false_iff_ne.2 (by omega)
    have a4 : ((m : Int) == 4) = false := beq_eq_false_iff_ne.2 (by omega)
    have a5 : ((m : Int) == 5) = false := beq_eq_false_iff_ne.2 (by omega)
    have a6 : ((m : Int) == 6) = false := beq_eq_false_iff_ne.2 (by omega)
    have c250 : ((c : Int) == 250) = false := beq_eq_false_iff_ne.2 (by omega)
    obtain ⟨t0, t1, t2, t3, t4, t5, t6, t7, t8⟩ := HSb_W3.out.cells
    go_wp2_with fail
    clear t0 t1 t2 t3 t4 t5 t6 t7 t8
    refine (specGood s.ph W3 (by omega) (by omega)).mono ?_
    rintro e w4 ⟨rfl, hb4⟩
    have hgs := goodF_size s.ph
    have HDD : Hid (drD B = (s.buf, 1, goodF s.ph)) := by show drD B = _; unfold drD drwD; rw [HP.out, HC.out, HSF.out, if_neg (by omega), if_neg (by omega), if_neg (by omega), if_neg (by omega), if_neg (by omega), if_neg (by omega)]
    have HZS_w4 : Hid (SB w.heap.size sn0 (.slice none 0 0) (.slice none 0 0) (.slice none 0 0) w4) := SB.below HZS_W3.out hb4
    have HZE_w4 : Hid (Blk (w.heap.size + 1) #[.int .i64 0, .string ⟨#[]⟩] w4) := Blk.below HZE_W3.out hb4
    have b_w4 : Below w.heap.size w w4 := b_W3.trans (hb4.mono b_W3.size)
    have z_w4 := hb4.size
    have HSb_w4 : Hid (SB w2.heap.size s (.slice y1 s.R.length k1) (.slice y2 s.T.length k2) (.slice y3 s.V.length k3) w4) := SB.below HSb_W3.out hb4
    have HEv_w4 : Hid (Blk (w2.heap.size + 1) #[.int .i64 1, .string ⟨#[]⟩] w4) := Blk.below HEv_W3.out hb4
    have HV_w4 : Hid (SV w4 w1.heap.size (.slice y1 s.R.length k1) (.slice y2 s.T.length k2) (.slice y3 s.V.length k3) s) := HV_W3.out.below hb4 (Nat.le_refl _)
    generalize goodF s.ph = Y at HDD hgs ⊢
    clear hb4
    obtain ⟨t0, t1, t2, t3, t4, t5, t6, t7, t8⟩ := HSb_w4.out.cells
    obtain ⟨tf0, tf1, tf2, tf3, tf4, tf5, tf6, tf7, tf8⟩ := HSb_w4.out.frees
    have v0 := HEv_w4.out.cell 0
    have v1 := HEv_w4.out.cell 1
    simp only [List.getElem?_toArray, List.getElem?_cons_succ, List.getElem?_cons_zero] at v0 v1
    have vf0 := HEv_w4.out.free 0
    have vf1 := HEv_w4.out.free 1
    have n3 : ¬ w2.heap.size + 1 = w2.heap.size := by omega
    have n4 : ¬ w2.heap.size = w2.heap.size + 1 := by omega
    by_cases h31 : c % 31 = 30
    · have h31i : (c : Int) % 31 = 30 := by omega
      have HXn : Hid (drX B = -1) := by show drX B = -1; unfold drX; rw [HC.out, if_pos h31]
      go_wp2_with fail
      generalize hW9 : World.setCell _ _ _ = W9
      have HS9 : Hid (Blk w2.heap.size #[.int .i64 s.ph, .string s.buf, .string s.he, .string s.fr, .string s.bo, .slice y1 s.R.length k1, .int .i64 (-1), .slice y2 s.T.length k2, .slice y3 s.V.length k3] W9) := by show Blk _ _ _; rw [← hW9]; exact (Blk.set (Blk.other HSb_w4.out (by omega)) (i := 6) (v := .int .i64 (-1)) (show 6 < 9 by decide))
      have HE9 : Hid (Blk (w2.heap.size + 1) #[.int .i64 1, .string Y] W9) := by show Blk _ _ _; rw [← hW9]; exact (Blk.other (Blk.set HEv_w4.out (i := 1) (v := .string Y) (show 1 < 2 by decide)) (by omega))
      have HZ9 : Hid (SB w.heap.size sn0 (.slice none 0 0) (.slice none 0 0) (.slice none 0 0) W9) := by show SB _ _ _ _ _ _; rw [← hW9]; exact (Blk.other (Blk.other HZS_w4.out (by omega)) (by omega))
      have HY9 : Hid (Blk (w.heap.size + 1) #[.int .i64 0, .string ⟨#[]⟩] W9) := by show Blk _ _ _; rw [← hW9]; exact (Blk.other (Blk.other HZE_w4.out (by omega)) (by omega))
      have HV9 : Hid (SV W9 w1.heap.size (.slice y1 s.R.length k1) (.slice y2 s.T.length k2) (.slice y3 s.V.length k3) s) := by show SV _ _ _ _ _ _; rw [← hW9]; exact (HN.out _ _ _ (.inl (by show w2.heap.size ≤ w2.heap.size; omega)) (HN.out _ _ _ (.inl (by show w2.heap.size ≤ w2.heap.size + 1; omega)) HV_w4.out))
      have b9 : Below w.heap.size w W9 := by rw [← hW9]; exact (Below.setCell (Below.setCell b_w4 (by show w.heap.size ≤ w2.heap.size + 1; omega) _) (by show w.heap.size ≤ w2.heap.size; omega) _)
      clear hW9 HSb_w4 HEv_w4 HZS_w4 HZE_w4 HV_w4 b_w4
      clear t0 t1 t2 t3 t4 t5 t6 t7 t8 tf0 tf1 tf2 tf3 tf4 tf5 tf6 tf7 tf8 v0 v1 vf0 vf1
      have t0 : W9.cell? ⟨w2.heap.size, 0, none⟩ = some (.int .i64 s.ph) := HS9.out.cell 0
      have t1 : W9.cell? ⟨w2.heap.size, 1, none⟩ = some (.string s.buf) := HS9.out.cell 1
      have t2 : W9.cell? ⟨w2.heap.size, 2, none⟩ = some (.string s.he) := HS9.out.cell 2
      have t3 : W9.cell? ⟨w2.heap.size, 3, none⟩ = some (.string s.fr) := HS9.out.cell 3
      have t4 : W9.cell? ⟨w2.heap.size, 4, none⟩ = some (.string s.bo) := HS9.out.cell 4
      have t5 : W9.cell? ⟨w2.heap.size, 5, none⟩ = some (.slice y1 s.R.length k1) := HS9.out.cell 5
      have t6 : W9.cell? ⟨w2.heap.size, 6, none⟩ = some (.int .i64 (-1)) := HS9.out.cell 6
      have t7 : W9.cell? ⟨w2.heap.size, 7, none⟩ = some (.slice y2 s.T.length k2) := HS9.out.cell 7
      have t8 : W9.cell? ⟨w2.heap.size, 8, none⟩ = some (.slice y3 s.V.length k3) := HS9.out.cell 8
      have v0 : W9.cell? ⟨w2.heap.size + 1, 0, none⟩ = some (.int .i64 1) := HE9.out.cell 0
      have v1 : W9.cell? ⟨w2.heap.size + 1, 1, none⟩ = some (.string Y) := HE9.out.cell 1
      obtain ⟨r0, r1, r2, r3, r4, r5, r6, r7, r8⟩ := HZ9.out.zero
      obtain ⟨rf0, rf1, rf2, rf3, rf4, rf5, rf6, rf7, rf8⟩ := HZ9.out.frees
      have x0 : W9.cell? ⟨w.heap.size + 1, 0, none⟩ = some (.int .i64 0) := HY9.out.cell 0
      have x1 : W9.cell? ⟨w.heap.size + 1, 1, none⟩ = some (.string ⟨#[]⟩) := HY9.out.cell 1
      have xf0 := HY9.out.free 0
      have xf1 := HY9.out.free 1
      have la : w2.heap.size < W9.heap.size := HS9.out.lt
      have lb : w2.heap.size + 1 < W9.heap.size := HE9.out.lt
      have lc : w.heap.size < W9.heap.size := HZ9.out.lt
      have ld : w.heap.size + 1 < W9.heap.size := HY9.out.lt
      have h1 : w.heap.size < w1.heap.size := by omega
      have h2 : w.heap.size + 1 < w1.heap.size := by omega
      go_region
      all_goals
        go_wp2
        refine bodyPost_ret (v := .tuple #[.agg #[.int .i64 s.ph, .string s.buf, .string s.he, .string s.fr, .string s.bo, .slice y1 s.R.length k1, .int .i64 (-1), .slice y2 s.T.length k2, .slice y3 s.V.length k3], .agg #[.int .i64 1, .string Y]]) (by simp [results, Tryz.results16, go_sem, r0, r1, r2, r3, r4, r5, r6, r7, r8, x0, x1]) rfl ?_
        rw [HDD.out, HXn.out, HdS.out]
        refine ⟨⟨_, _, _, rfl, ?_⟩, ?_⟩
        · exact SV.le (SV.drewX (HN.out _ _ _ (.inr h2) (HN.out _ _ _ (.inr h2) (SV.nine HV9.out h1 _ _ _ _ _ _ _ _ _)))) (Nat.le_of_lt h1)
        · exact Below.drew (Below.setCell (Below.setCell (below_nine b9 (Nat.le_refl _) _ _ _ _ _ _ _ _ _) (Nat.le_succ _) _) (Nat.le_succ _) _)
    · have h31i : ¬ (c : Int) % 31 = 30 := by omega
      have HXn : Hid (drX B = (s.nx : Int)) := by show drX B = _; unfold drX; rw [HC.out, if_neg h31, HdS.out]
      go_wp2_with fail
      generalize hW9 : World.setCell _ _ _ = W9
      have HS9 : Hid (Blk w2.heap.size #[.int .i64 s.ph, .string s.buf, .string s.he, .string s.fr, .string s.bo, .slice y1 s.R.length k1, .int .i64 (s.nx : Int), .slice y2 s.T.length k2, .slice y3 s.V.length k3] W9) := by show Blk _ _ _; rw [← hW9]; exact (Blk.other HSb_w4.out (by omega))
      have HE9 : Hid (Blk (w2.heap.size + 1) #[.int .i64 1, .string Y] W9) := by show Blk _ _ _; rw [← hW9]; exact (Blk.set HEv_w4.out (i := 1) (v := .string Y) (show 1 < 2 by decide))
      have HZ9 : Hid (SB w.heap.size sn0 (.slice none 0 0) (.slice none 0 0) (.slice none 0 0) W9) := by show SB _ _ _ _ _ _; rw [← hW9]; exact (Blk.other HZS_w4.out (by omega))
      have HY9 : Hid (Blk (w.heap.size + 1) #[.int .i64 0, .string ⟨#[]⟩] W9) := by show Blk _ _ _; rw [← hW9]; exact (Blk.other HZE_w4.out (by omega))
      have HV9 : Hid (SV W9 w1.heap.size (.slice y1 s.R.length k1) (.slice y2 s.T.length k2) (.slice y3 s.V.length k3) s) := by show SV _ _ _ _ _ _; rw [← hW9]; exact (HN.out _ _ _ (.inl (by show w2.heap.size ≤ w2.heap.size + 1; omega)) HV_w4.out)
      have b9 : Below w.heap.size w W9 := by rw [← hW9]; exact (Below.setCell b_w4 (by show w.heap.size ≤ w2.heap.size + 1; omega) _)
      clear hW9 HSb_w4 HEv_w4 HZS_w4 HZE_w4 HV_w4 b_w4
      clear t0 t1 t2 t3 t4 t5 t6 t7 t8 tf0 tf1 tf2 tf3 tf4 tf5 tf6 tf7 tf8 v0 v1 vf0 vf1
      have t0 : W9.cell? ⟨w2.heap.size, 0, none⟩ = some (.int .i64 s.ph) := HS9.out.cell 0
      have t1 : W9.cell? ⟨w2.heap.size, 1, none⟩ = some (.string s.buf) := HS9.out.cell 1
      have t2 : W9.cell? ⟨w2.heap.size, 2, none⟩ = some (.string s.he) := HS9.out.cell 2
      have t3 : W9.cell? ⟨w2.heap.size, 3, none⟩ = some (.string s.fr) := HS9.out.cell 3
      have t4 : W9.cell? ⟨w2.heap.size, 4, none⟩ = some (.string s.bo) := HS9.out.cell 4
      have t5 : W9.cell? ⟨w2.heap.size, 5, none⟩ = some (.slice y1 s.R.length k1) := HS9.out.cell 5
      have t6 : W9.cell? ⟨w2.heap.size, 6, none⟩ = some (.int .i64 (s.nx : Int)) := HS9.out.cell 6
      have t7 : W9.cell? ⟨w2.heap.size, 7, none⟩ = some (.slice y2 s.T.length k2) := HS9.out.cell 7
      have t8 : W9.cell? ⟨w2.heap.size, 8, none⟩ = some (.slice y3 s.V.length k3) := HS9.out.cell 8
      have v0 : W9.cell? ⟨w2.heap.size + 1, 0, none⟩ = some (.int .i64 1) := HE9.out.cell 0
      have v1 : W9.cell? ⟨w2.heap.size + 1, 1, none⟩ = some (.string Y) := HE9.out.cell 1
      obtain ⟨r0, r1, r2, r3, r4, r5, r6, r7, r8⟩ := HZ9.out.zero
      obtain ⟨rf0, rf1, rf2, rf3, rf4, rf5, rf6, rf7, rf8⟩ := HZ9.out.frees
      have x0 : W9.cell? ⟨w.heap.size + 1, 0, none⟩ = some (.int .i64 0) := HY9.out.cell 0
      have x1 : W9.cell? ⟨w.heap.size + 1, 1, none⟩ = some (.string ⟨#[]⟩) := HY9.out.cell 1
      have xf0 := HY9.out.free 0
      have xf1 := HY9.out.free 1
      have la : w2.heap.size < W9.heap.size := HS9.out.lt
      have lb : w2.heap.size + 1 < W9.heap.size := HE9.out.lt
      have lc : w.heap.size < W9.heap.size := HZ9.out.lt
      have ld : w.heap.size + 1 < W9.heap.size := HY9.out.lt
      have h1 : w.heap.size < w1.heap.size := by omega
      have h2 : w.heap.size + 1 < w1.heap.size := by omega
      go_region
      all_goals
        go_wp2
        refine bodyPost_ret (v := .tuple #[.agg #[.int .i64 s.ph, .string s.buf, .string s.he, .string s.fr, .string s.bo, .slice y1 s.R.length k1, .int .i64 (s.nx : Int), .slice y2 s.T.length k2, .slice y3 s.V.length k3], .agg #[.int .i64 1, .string Y]]) (by simp [results, Tryz.results16, go_sem, r0, r1, r2, r3, r4, r5, r6, r7, r8, x0, x1]) rfl ?_
        rw [HDD.out, HXn.out, HdS.out]
        refine ⟨⟨_, _, _, rfl, ?_⟩, ?_⟩
        · exact SV.le (SV.drewX (HN.out _ _ _ (.inr h2) (HN.out _ _ _ (.inr h2) (SV.nine HV9.out h1 _ _ _ _ _ _ _ _ _)))) (Nat.le_of_lt h1)
        · exact Below.drew (Below.setCell (Below.setCell (below_nine b9 (Nat.le_refl _) _ _ _ _ _ _ _ _ _) (Nat.le_succ _) _) (Nat.le_succ _) _)
  · have mm : m = 0 ∨ m = 3 ∨ m = 4 ∨ m = 5 ∨ m = 6 ∨ (m = 1 ∨ m = 2) := by omega
    rcases mm with rfl | rfl | rfl | rfl | rfl | h12
    · have hmk : (c : Int) % 10 = 0 := by omega
      clear hm
      by_cases c25 : c = 250
      · have HDD : Hid (drD B = (s.buf, 3, ofInts (fillL 40001))) := by show drD B = _; unfold drD drwD; rw [HP.out, HC.out, HSF.out, if_pos (by omega), if_pos c25, c25]; rfl
        have c25i : (c : Int) = 250 := by omega
        obtain ⟨t0, t1, t2, t3, t4, t5, t6, t7, t8⟩ := HSb_W3.out.cells
        have v0 : W3.cell? ⟨w2.heap.size + 1, 0, none⟩ = some (.int .i64 1) := HEv_W3.out.cell 0
        have vf0 := HEv_W3.out.free 0
        have la : w2.heap.size + 1 < W3.heap.size := HEv_W3.out.lt
        go_wp2_with fail
        generalize hW5 : World.setCell _ _ _ = W5
        have HSb_W5 : Hid (SB w2.heap.size s (.slice y1 s.R.length k1) (.slice y2 s.T.length k2) (.slice y3 s.V.length k3) W5) := by show SB _ _ _ _ _ _; rw [← hW5]; exact Blk.other HSb_W3.out (by omega)
        have HEv_W5 : Hid (Blk (w2.heap.size + 1) #[.int .i64 3, .string ⟨#[]⟩] W5) := by show Blk _ _ _; rw [← hW5]; exact Blk.set HEv_W3.out (i := 0) (v := .int .i64 3) (show 0 < 2 by decide)
        have HZS_W5 : Hid (SB w.heap.size sn0 (.slice none 0 0) (.slice none 0 0) (.slice none 0 0) W5) := by show SB _ _ _ _ _ _; rw [← hW5]; exact Blk.other HZS_W3.out (by omega)
        have HZE_W5 : Hid (Blk (w.heap.size + 1) #[.int .i64 0, .string ⟨#[]⟩] W5) := by show Blk _ _ _; rw [← hW5]; exact Blk.other HZE_W3.out (by omega)
        have HV_W5 : Hid (SV W5 w1.heap.size (.slice y1 s.R.length k1) (.slice y2 s.T.length k2) (.slice y3 s.V.length k3) s) := by show SV _ _ _ _ _ _; rw [← hW5]; exact HN.out _ _ _ (.inl (by show w2.heap.size ≤ w2.heap.size + 1; omega)) HV_W3.out
        have b_W5 : Below w.heap.size w W5 := by rw [← hW5]; exact Below.setCell b_W3 (by show w.heap.size ≤ w2.heap.size + 1; omega) _
        have z_W5 : W3.heap.size ≤ W5.heap.size := by rw [← hW5]; simp
        clear hW5 t0 t1 t2 t3 t4 t5 t6 t7 t8 v0 vf0
        refine (fillX 40001 _ (by decide)).mono ?_
        rintro e w6 ⟨rfl, hb6⟩
        have hys := fill_size 40001
        have HZS_w6 : Hid (SB w.heap.size sn0 (.slice none 0 0) (.slice none 0 0) (.slice none 0 0) w6) := SB.below HZS_W5.out hb6
        have HZE_w6 : Hid (Blk (w.heap.size + 1) #[.int .i64 0, .string ⟨#[]⟩] w6) := Blk.below HZE_W5.out hb6
        have b_w6 : Below w.heap.size w w6 := b_W5.trans (hb6.mono b_W5.size)
        have z_w6 := hb6.size
        have HSb_w6 : Hid (SB w2.heap.size s (.slice y1 s.R.length k1) (.slice y2 s.T.length k2) (.slice y3 s.V.length k3) w6) := SB.below HSb_W5.out hb6
        have HEv_w6 : Hid (Blk (w2.heap.size + 1) #[.int .i64 3, .string ⟨#[]⟩] w6) := Blk.below HEv_W5.out hb6
        have HV_w6 : Hid (SV w6 w1.heap.size (.slice y1 s.R.length k1) (.slice y2 s.T.length k2) (.slice y3 s.V.length k3) s) := HV_W5.out.below hb6 (Nat.le_refl _)
        generalize ofInts (fillL 40001) = Y at HDD hys ⊢
        clear hb6
        obtain ⟨t0, t1, t2, t3, t4, t5, t6, t7, t8⟩ := HSb_w6.out.cells
        obtain ⟨tf0, tf1, tf2, tf3, tf4, tf5, tf6, tf7, tf8⟩ := HSb_w6.out.frees
        have v0 := HEv_w6.out.cell 0
        have v1 := HEv_w6.out.cell 1
        simp only [List.getElem?_toArray, List.getElem?_cons_succ, List.getElem?_cons_zero] at v0 v1
        have vf0 := HEv_w6.out.free 0
        have vf1 := HEv_w6.out.free 1
        have n3 : ¬ w2.heap.size + 1 = w2.heap.size := by omega
        have n4 : ¬ w2.heap.size = w2.heap.size + 1 := by omega
        have h31 : ¬ c % 31 = 30 := by omega
        have h31i : ¬ (c : Int) % 31 = 30 := by omega
        have HXn : Hid (drX B = (s.nx : Int)) := by show drX B = _; unfold drX; rw [HC.out, if_neg h31, HdS.out]
        go_wp2_with fail
        generalize hW9 : World.setCell _ _ _ = W9
        have HS9 : Hid (Blk w2.heap.size #[.int .i64 s.ph, .string s.buf, .string s.he, .string s.fr, .string s.bo, .slice y1 s.R.length k1, .int .i64 (s.nx : Int), .slice y2 s.T.length k2, .slice y3 s.V.length k3] W9) := by show Blk _ _ _; rw [← hW9]; exact (Blk.other HSb_w6.out (by omega))
        have HE9 : Hid (Blk (w2.heap.size + 1) #[.int .i64 3, .string Y] W9) := by show Blk _ _ _; rw [← hW9]; exact (Blk.set HEv_w6.out (i := 1) (v := .string Y) (show 1 < 2 by decide))
        have HZ9 : Hid (SB w.heap.size sn0 (.slice none 0 0) (.slice none 0 0) (.slice none 0 0) W9) := by show SB _ _ _ _ _ _; rw [← hW9]; exact (Blk.other HZS_w6.out (by omega))
        have HY9 : Hid (Blk (w.heap.size + 1) #[.int .i64 0, .string ⟨#[]⟩] W9) := by show Blk _ _ _; rw [← hW9]; exact (Blk.other HZE_w6.out (by omega))
        have HV9 : Hid (SV W9 w1.heap.size (.slice y1 s.R.length k1) (.slice y2 s.T.length k2) (.slice y3 s.V.length k3) s) := by show SV _ _ _ _ _ _; rw [← hW9]; exact (HN.out _ _ _ (.inl (by show w2.heap.size ≤ w2.heap.size + 1; omega)) HV_w6.out)
        have b9 : Below w.heap.size w W9 := by rw [← hW9]; exact (Below.setCell b_w6 (by show w.heap.size ≤ w2.heap.size + 1; omega) _)
        clear hW9 HSb_w6 HEv_w6 HZS_w6 HZE_w6 HV_w6 b_w6
        clear t0 t1 t2 t3 t4 t5 t6 t7 t8 tf0 tf1 tf2 tf3 tf4 tf5 tf6 tf7 tf8 v0 v1 vf0 vf1
        have t0 : W9.cell? ⟨w2.heap.size, 0, none⟩ = some (.int .i64 s.ph) := HS9.out.cell 0
        have t1 : W9.cell? ⟨w2.heap.size, 1, none⟩ = some (.string s.buf) := HS9.out.cell 1
        have t2 : W9.cell? ⟨w2.heap.size, 2, none⟩ = some (.string s.he) := HS9.out.cell 2
        have t3 : W9.cell? ⟨w2.heap.size, 3, none⟩ = some (.string s.fr) := HS9.out.cell 3
        have t4 : W9.cell? ⟨w2.heap.size, 4, none⟩ = some (.string s.bo) := HS9.out.cell 4
        have t5 : W9.cell? ⟨w2.heap.size, 5, none⟩ = some (.slice y1 s.R.length k1) := HS9.out.cell 5
        have t6 : W9.cell? ⟨w2.heap.size, 6, none⟩ = some (.int .i64 (s.nx : Int)) := HS9.out.cell 6
        have t7 : W9.cell? ⟨w2.heap.size, 7, none⟩ = some (.slice y2 s.T.length k2) := HS9.out.cell 7
        have t8 : W9.cell? ⟨w2.heap.size, 8, none⟩ = some (.slice y3 s.V.length k3) := HS9.out.cell 8
        have v0 : W9.cell? ⟨w2.heap.size + 1, 0, none⟩ = some (.int .i64 3) := HE9.out.cell 0
        have v1 : W9.cell? ⟨w2.heap.size + 1, 1, none⟩ = some (.string Y) := HE9.out.cell 1
        obtain ⟨r0, r1, r2, r3, r4, r5, r6, r7, r8⟩ := HZ9.out.zero
        obtain ⟨rf0, rf1, rf2, rf3, rf4, rf5, rf6, rf7, rf8⟩ := HZ9.out.frees
        have x0 : W9.cell? ⟨w.heap.size + 1, 0, none⟩ = some (.int .i64 0) := HY9.out.cell 0
        have x1 : W9.cell? ⟨w.heap.size + 1, 1, none⟩ = some (.string ⟨#[]⟩) := HY9.out.cell 1
        have xf0 := HY9.out.free 0
        have xf1 := HY9.out.free 1
        have la : w2.heap.size < W9.heap.size := HS9.out.lt
        have lb : w2.heap.size + 1 < W9.heap.size := HE9.out.lt
        have lc : w.heap.size < W9.heap.size := HZ9.out.lt
        have ld : w.heap.size + 1 < W9.heap.size := HY9.out.lt
        have h1 : w.heap.size < w1.heap.size := by omega
        have h2 : w.heap.size + 1 < w1.heap.size := by omega
        go_region
        all_goals
          go_wp2
          refine bodyPost_ret (v := .tuple #[.agg #[.int .i64 s.ph, .string s.buf, .string s.he, .string s.fr, .string s.bo, .slice y1 s.R.length k1, .int .i64 (s.nx : Int), .slice y2 s.T.length k2, .slice y3 s.V.length k3], .agg #[.int .i64 3, .string Y]]) (by simp [results, Tryz.results16, go_sem, r0, r1, r2, r3, r4, r5, r6, r7, r8, x0, x1]) rfl ?_
          rw [HDD.out, HXn.out, HdS.out]
          refine ⟨⟨_, _, _, rfl, ?_⟩, ?_⟩
          · exact SV.le (SV.drewX (HN.out _ _ _ (.inr h2) (HN.out _ _ _ (.inr h2) (SV.nine HV9.out h1 _ _ _ _ _ _ _ _ _)))) (Nat.le_of_lt h1)
          · exact Below.drew (Below.setCell (Below.setCell (below_nine b9 (Nat.le_refl _) _ _ _ _ _ _ _ _ _) (Nat.le_succ _) _) (Nat.le_succ _) _)
      · have HDD : Hid (drD B = (s.buf, (2 + (c : Int) / 10 % 3), ⟨#[]⟩)) := by show drD B = _; unfold drD drwD; rw [HP.out, HC.out, HSF.out, if_pos (by omega), if_neg c25]
        have c250 : ((c : Int) == 250) = false := beq_eq_false_iff_ne.2 (by omega)
        obtain ⟨t0, t1, t2, t3, t4, t5, t6, t7, t8⟩ := HSb_W3.out.cells
        obtain ⟨tf0, tf1, tf2, tf3, tf4, tf5, tf6, tf7, tf8⟩ := HSb_W3.out.frees
        have v0 := HEv_W3.out.cell 0
        have v1 := HEv_W3.out.cell 1
        simp only [List.getElem?_toArray, List.getElem?_cons_succ, List.getElem?_cons_zero] at v0 v1
        have vf0 := HEv_W3.out.free 0
        have vf1 := HEv_W3.out.free 1
        have n3 : ¬ w2.heap.size + 1 = w2.heap.size := by omega
        have n4 : ¬ w2.heap.size = w2.heap.size + 1 := by omega
        by_cases h31 : c % 31 = 30
        · have h31i : (c : Int) % 31 = 30 := by omega
          have HXn : Hid (drX B = -1) := by show drX B = -1; unfold drX; rw [HC.out, if_pos h31]
          go_wp2_with fail
          generalize hW9 : World.setCell _ _ _ = W9
          have HS9 : Hid (Blk w2.heap.size #[.int .i64 s.ph, .string s.buf, .string s.he, .string s.fr, .string s.bo, .slice y1 s.R.length k1, .int .i64 (-1), .slice y2 s.T.length k2, .slice y3 s.V.length k3] W9) := by show Blk _ _ _; rw [← hW9]; exact (Blk.set (Blk.other HSb_W3.out (by omega)) (i := 6) (v := .int .i64 (-1)) (show 6 < 9 by decide))
          have HE9 : Hid (Blk (w2.heap.size + 1) #[.int .i64 (2 + (c : Int) / 10 % 3), .string ⟨#[]⟩] W9) := by show Blk _ _ _; rw [← hW9]; exact (Blk.other (Blk.set HEv_W3.out (i := 0) (v := .int .i64 (2 + (c : Int) / 10 % 3)) (show 0 < 2 by decide)) (by omega))
          have HZ9 : Hid (SB w.heap.size sn0 (.slice none 0 0) (.slice none 0 0) (.slice none 0 0) W9) := by show SB _ _ _ _ _ _; rw [← hW9]; exact (Blk.other (Blk.other HZS_W3.out (by omega)) (by omega))
          have HY9 : Hid (Blk (w.heap.size + 1) #[.int .i64 0, .string ⟨#[]⟩] W9) := by show Blk _ _ _; rw [← hW9]; exact (Blk.other (Blk.other HZE_W3.out (by omega)) (by omega))
          have HV9 : Hid (SV W9 w1.heap.size (.slice y1 s.R.length k1) (.slice y2 s.T.length k2) (.slice y3 s.V.length k3) s) := by show SV _ _ _ _ _ _; rw [← hW9]; exact (HN.out _ _ _ (.inl (by show w2.heap.size ≤ w2.heap.size; omega)) (HN.out _ _ _ (.inl (by show w2.heap.size ≤ w2.heap.size + 1; omega)) HV_W3.out))
          have b9 : Below w.heap.size w W9 := by rw [← hW9]; exact (Below.setCell (Below.setCell b_W3 (by show w.heap.size ≤ w2.heap.size + 1; omega) _) (by show w.heap.size ≤ w2.heap.size; omega) _)
          clear hW9 HSb_W3 HEv_W3 HZS_W3 HZE_W3 HV_W3 b_W3
          clear t0 t1 t2 t3 t4 t5 t6 t7 t8 tf0 tf1 tf2 tf3 tf4 tf5 tf6 tf7 tf8 v0 v1 vf0 vf1
          have t0 : W9.cell? ⟨w2.heap.size, 0, none⟩ = some (.int .i64 s.ph) := HS9.out.cell 0
          have t1 : W9.cell? ⟨w2.heap.size, 1, none⟩ = some (.string s.buf) := HS9.out.cell 1
          have t2 : W9.cell? ⟨w2.heap.size, 2, none⟩ = some (.string s.he) := HS9.out.cell 2
          have t3 : W9.cell? ⟨w2.heap.size, 3, none⟩ = some (.string s.fr) := HS9.out.cell 3
          have t4 : W9.cell? ⟨w2.heap.size, 4, none⟩ = some (.string s.bo) := HS9.out.cell 4
          have t5 : W9.cell? ⟨w2.heap.size, 5, none⟩ = some (.slice y1 s.R.length k1) := HS9.out.cell 5
          have t6 : W9.cell? ⟨w2.heap.size, 6, none⟩ = some (.int .i64 (-1)) := HS9.out.cell 6
          have t7 : W9.cell? ⟨w2.heap.size, 7, none⟩ = some (.slice y2 s.T.length k2) := HS9.out.cell 7
          have t8 : W9.cell? ⟨w2.heap.size, 8, none⟩ = some (.slice y3 s.V.length k3) := HS9.out.cell 8
          have v0 : W9.cell? ⟨w2.heap.size + 1, 0, none⟩ = some (.int .i64 (2 + (c : Int) / 10 % 3)) := HE9.out.cell 0
          have v1 : W9.cell? ⟨w2.heap.size + 1, 1, none⟩ = some (.string ⟨#[]⟩) := HE9.out.cell 1
          obtain ⟨r0, r1, r2, r3, r4, r5, r6, r7, r8⟩ := HZ9.out.zero
          obtain ⟨rf0, rf1, rf2, rf3, rf4, rf5, rf6, rf7, rf8⟩ := HZ9.out.frees
          have x0 : W9.cell? ⟨w.heap.size + 1, 0, none⟩ = some (.int .i64 0) := HY9.out.cell 0
          have x1 : W9.cell? ⟨w.heap.size + 1, 1, none⟩ = some (.string ⟨#[]⟩) := HY9.out.cell 1
          have xf0 := HY9.out.free 0
          have xf1 := HY9.out.free 1
          have la : w2.heap.size < W9.heap.size := HS9.out.lt
          have lb : w2.heap.size + 1 < W9.heap.size := HE9.out.lt
          have lc : w.heap.size < W9.heap.size := HZ9.out.lt
          have ld : w.heap.size + 1 < W9.heap.size := HY9.out.lt
          have h1 : w.heap.size < w1.heap.size := by omega
          have h2 : w.heap.size + 1 < w1.heap.size := by omega
          go_region
          all_goals
            go_wp2
            refine bodyPost_ret (v := .tuple #[.agg #[.int .i64 s.ph, .string s.buf, .string s.he, .string s.fr, .string s.bo, .slice y1 s.R.length k1, .int .i64 (-1), .slice y2 s.T.length k2, .slice y3 s.V.length k3], .agg #[.int .i64 (2 + (c : Int) / 10 % 3), .string ⟨#[]⟩]]) (by simp [results, Tryz.results16, go_sem, r0, r1, r2, r3, r4, r5, r6, r7, r8, x0, x1]) rfl ?_
            rw [HDD.out, HXn.out, HdS.out]
            refine ⟨⟨_, _, _, rfl, ?_⟩, ?_⟩
            · exact SV.le (SV.drewX (HN.out _ _ _ (.inr h2) (HN.out _ _ _ (.inr h2) (SV.nine HV9.out h1 _ _ _ _ _ _ _ _ _)))) (Nat.le_of_lt h1)
            · exact Below.drew (Below.setCell (Below.setCell (below_nine b9 (Nat.le_refl _) _ _ _ _ _ _ _ _ _) (Nat.le_succ _) _) (Nat.le_succ _) _)
        · have h31i : ¬ (c : Int) % 31 = 30 := by omega
          have HXn : Hid (drX B = (s.nx : Int)) := by show drX B = _; unfold drX; rw [HC.out, if_neg h31, HdS.out]
          go_wp2_with fail
          generalize hW9 : World.setCell _ _ _ = W9
          have HS9 : Hid (Blk w2.heap.size #[.int .i64 s.ph, .string s.buf, .string s.he, .string s.fr, .string s.bo, .slice y1 s.R.length k1, .int .i64 (s.nx : Int), .slice y2 s.T.length k2, .slice y3 s.V.length k3] W9) := by show Blk _ _ _; rw [← hW9]; exact (Blk.other HSb_W3.out (by omega))
          have HE9 : Hid (Blk (w2.heap.size + 1) #[.int .i64 (2 + (c : Int) / 10 % 3), .string ⟨#[]⟩] W9) := by show Blk _ _ _; rw [← hW9]; exact (Blk.set HEv_W3.out (i := 0) (v := .int .i64 (2 + (c : Int) / 10 % 3)) (show 0 < 2 by decide))
          have HZ9 : Hid (SB w.heap.size sn0 (.slice none 0 0) (.slice none 0 0) (.slice none 0 0) W9) := by show SB _ _ _ _ _ _; rw [← hW9]; exact (Blk.other HZS_W3.out (by omega))
          have HY9 : Hid (Blk (w.heap.size + 1) #[.int .i64 0, .string ⟨#[]⟩] W9) := by show Blk _ _ _; rw [← hW9]; exact (Blk.other HZE_W3.out (by omega))
          have HV9 : Hid (SV W9 w1.heap.size (.slice y1 s.R.length k1) (.slice y2 s.T.length k2) (.slice y3 s.V.length k3) s) := by show SV _ _ _ _ _ _; rw [← hW9]; exact (HN.out _ _ _ (.inl (by show w2.heap.size ≤ w2.heap.size + 1; omega)) HV_W3.out)
          have b9 : Below w.heap.size w W9 := by rw [← hW9]; exact (Below.setCell b_W3 (by show w.heap.size ≤ w2.heap.size + 1; omega) _)
          clear hW9 HSb_W3 HEv_W3 HZS_W3 HZE_W3 HV_W3 b_W3
          clear t0 t1 t2 t3 t4 t5 t6 t7 t8 tf0 tf1 tf2 tf3 tf4 tf5 tf6 tf7 tf8 v0 v1 vf0 vf1
          have t0 : W9.cell? ⟨w2.heap.size, 0, none⟩ = some (.int .i64 s.ph) := HS9.out.cell 0
          have t1 : W9.cell? ⟨w2.heap.size, 1, none⟩ = some (.string s.buf) := HS9.out.cell 1
          have t2 : W9.cell? ⟨w2.heap.size, 2, none⟩ = some (.string s.he) := HS9.out.cell 2
          have t3 : W9.cell? ⟨w2.heap.size, 3, none⟩ = some (.string s.fr) := HS9.out.cell 3
          have t4 : W9.cell? ⟨w2.heap.size, 4, none⟩ = some (.string s.bo) := HS9.out.cell 4
          have t5 : W9.cell? ⟨w2.heap.size, 5, none⟩ = some (.slice y1 s.R.length k1) := HS9.out.cell 5
          have t6 : W9.cell? ⟨w2.heap.size, 6, none⟩ = some (.int .i64 (s.nx : Int)) := HS9.out.cell 6
          have t7 : W9.cell? ⟨w2.heap.size, 7, none⟩ = some (.slice y2 s.T.length k2) := HS9.out.cell 7
          have t8 : W9.cell? ⟨w2.heap.size, 8, none⟩ = some (.slice y3 s.V.length k3) := HS9.out.cell 8
          have v0 : W9.cell? ⟨w2.heap.size + 1, 0, none⟩ = some (.int .i64 (2 + (c : Int) / 10 % 3)) := HE9.out.cell 0
          have v1 : W9.cell? ⟨w2.heap.size + 1, 1, none⟩ = some (.string ⟨#[]⟩) := HE9.out.cell 1
          obtain ⟨r0, r1, r2, r3, r4, r5, r6, r7, r8⟩ := HZ9.out.zero
          obtain ⟨rf0, rf1, rf2, rf3, rf4, rf5, rf6, rf7, rf8⟩ := HZ9.out.frees
          have x0 : W9.cell? ⟨w.heap.size + 1, 0, none⟩ = some (.int .i64 0) := HY9.out.cell 0
          have x1 : W9.cell? ⟨w.heap.size + 1, 1, none⟩ = some (.string ⟨#[]⟩) := HY9.out.cell 1
          have xf0 := HY9.out.free 0
          have xf1 := HY9.out.free 1
          have la : w2.heap.size < W9.heap.size := HS9.out.lt
          have lb : w2.heap.size + 1 < W9.heap.size := HE9.out.lt
          have lc : w.heap.size < W9.heap.size := HZ9.out.lt
          have ld : w.heap.size + 1 < W9.heap.size := HY9.out.lt
          have h1 : w.heap.size < w1.heap.size := by omega
          have h2 : w.heap.size + 1 < w1.heap.size := by omega
          go_region
          all_goals
            go_wp2
            refine bodyPost_ret (v := .tuple #[.agg #[.int .i64 s.ph, .string s.buf, .string s.he, .string s.fr, .string s.bo, .slice y1 s.R.length k1, .int .i64 (s.nx : Int), .slice y2 s.T.length k2, .slice y3 s.V.length k3], .agg #[.int .i64 (2 + (c : Int) / 10 % 3), .string ⟨#[]⟩]]) (by simp [results, Tryz.results16, go_sem, r0, r1, r2, r3, r4, r5, r6, r7, r8, x0, x1]) rfl ?_
            rw [HDD.out, HXn.out, HdS.out]
            refine ⟨⟨_, _, _, rfl, ?_⟩, ?_⟩
            · exact SV.le (SV.drewX (HN.out _ _ _ (.inr h2) (HN.out _ _ _ (.inr h2) (SV.nine HV9.out h1 _ _ _ _ _ _ _ _ _)))) (Nat.le_of_lt h1)
            · exact Below.drew (Below.setCell (Below.setCell (below_nine b9 (Nat.le_refl _) _ _ _ _ _ _ _ _ _) (Nat.le_succ _) _) (Nat.le_succ _) _)
    · have hmk : (c : Int) % 10 = 3 := by omega
      clear hm
      have c250 : ((c : Int) == 250) = false := beq_eq_false_iff_ne.2 (by omega)
      go_wp2_with fail
      refine (rdReplyX _ q2 _ B W3 H3.out).mono ?_
      rintro e w4 ⟨rfl, h4, ho4⟩
      have hrs := repF_size B q2
      have HDD : Hid (drD B = (s.buf, 1, (spoF B (repF B q2).2 (repF B q2).1).1)) := by show drD B = _; unfold drD drwD; rw [HP.out, HC.out, HSF.out, if_neg (by omega), if_neg (by omega), if_pos (by omega)]
      have HZS_w4 : Hid (SB w.heap.size sn0 (.slice none 0 0) (.slice none 0 0) (.slice none 0 0) w4) := Blk.offR HZS_W3.out ho4 (by omega)
      have HZE_w4 : Hid (Blk (w.heap.size + 1) #[.int .i64 0, .string ⟨#[]⟩] w4) := Blk.offR HZE_W3.out ho4 (by omega)
      have b_w4 : Below w.heap.size w w4 := b_W3.trans ((ho4.belowAt (N := w.heap.size) (by omega) (by omega)).mono (Nat.le_refl _))
      have z_w4 := ho4.size
      have HSb_w4 : Hid (SB w2.heap.size s (.slice y1 s.R.length k1) (.slice y2 s.T.length k2) (.slice y3 s.V.length k3) w4) := Blk.offR HSb_W3.out ho4 (by omega)
      have HEv_w4 : Hid (Blk (w2.heap.size + 1) #[.int .i64 1, .string ⟨#[]⟩] w4) := Blk.offR HEv_W3.out ho4 (by omega)
      have HV_w4 : Hid (SV w4 w1.heap.size (.slice y1 s.R.length k1) (.slice y2 s.T.length k2) (.slice y3 s.V.length k3) s) := HV_W3.out.offR ho4 (by omega)
      have H4 : Hid (RdAt w4 (w.heap.size + 1 + 1) (.slice ca B.length cc) B (repF B q2).2) := h4
      generalize repF B q2 = Y at HDD hrs H4 ⊢
      clear h4 ho4
      go_wp2_with fail
      refine (rdSpoilX _ Y.2 _ B Y.1 w4 H4.out (by omega)).mono ?_
      rintro e w5 ⟨rfl, h5, ho5⟩
      have HZS_w5 : Hid (SB w.heap.size sn0 (.slice none 0 0) (.slice none 0 0) (.slice none 0 0) w5) := Blk.offR HZS_w4.out ho5 (by omega)
      have HZE_w5 : Hid (Blk (w.heap.size + 1) #[.int .i64 0, .string ⟨#[]⟩] w5) := Blk.offR HZE_w4.out ho5 (by omega)
      have b_w5 : Below w.heap.size w w5 := b_w4.trans ((ho5.belowAt (N := w.heap.size) (by omega) (by omega)).mono (Nat.le_refl _))
      have z_w5 := ho5.size
      have HSb_w5 : Hid (SB w2.heap.size s (.slice y1 s.R.length k1) (.slice y2 s.T.length k2) (.slice y3 s.V.length k3) w5) := Blk.offR HSb_w4.out ho5 (by omega)
      have HEv_w5 : Hid (Blk (w2.heap.size + 1) #[.int .i64 1, .string ⟨#[]⟩] w5) := Blk.offR HEv_w4.out ho5 (by omega)
      have HV_w5 : Hid (SV w5 w1.heap.size (.slice y1 s.R.length k1) (.slice y2 s.T.length k2) (.slice y3 s.V.length k3) s) := HV_w4.out.offR ho5 (by omega)
      generalize spoF B Y.2 Y.1 = X at HDD ⊢
      clear h5 ho5
      obtain ⟨t0, t1, t2, t3, t4, t5, t6, t7, t8⟩ := HSb_w5.out.cells
      obtain ⟨tf0, tf1, tf2, tf3, tf4, tf5, tf6, tf7, tf8⟩ := HSb_w5.out.frees
      have v0 := HEv_w5.out.cell 0
      have v1 := HEv_w5.out.cell 1
      simp only [List.getElem?_toArray, List.getElem?_cons_succ, List.getElem?_cons_zero] at v0 v1
      have vf0 := HEv_w5.out.free 0
      have vf1 := HEv_w5.out.free 1
      have n3 : ¬ w2.heap.size + 1 = w2.heap.size := by omega
      have n4 : ¬ w2.heap.size = w2.heap.size + 1 := by omega
      by_cases h31 : c % 31 = 30
      · have h31i : (c : Int) % 31 = 30 := by omega
        have HXn : Hid (drX B = -1) := by show drX B = -1; unfold drX; rw [HC.out, if_pos h31]
        go_wp2_with fail
        generalize hW9 : World.setCell _ _ _ = W9
        have HS9 : Hid (Blk w2.heap.size #[.int .i64 s.ph, .string s.buf, .string s.he, .string s.fr, .string s.bo, .slice y1 s.R.length k1, .int .i64 (-1), .slice y2 s.T.length k2, .slice y3 s.V.length k3] W9) := by show Blk _ _ _; rw [← hW9]; exact (Blk.set (Blk.other HSb_w5.out (by omega)) (i := 6) (v := .int .i64 (-1)) (show 6 < 9 by decide))
        have HE9 : Hid (Blk (w2.heap.size + 1) #[.int .i64 1, .string X.1] W9) := by show Blk _ _ _; rw [← hW9]; exact (Blk.other (Blk.set HEv_w5.out (i := 1) (v := .string X.1) (show 1 < 2 by decide)) (by omega))
        have HZ9 : Hid (SB w.heap.size sn0 (.slice none 0 0) (.slice none 0 0) (.slice none 0 0) W9) := by show SB _ _ _ _ _ _; rw [← hW9]; exact (Blk.other (Blk.other HZS_w5.out (by omega)) (by omega))
        have HY9 : Hid (Blk (w.heap.size + 1) #[.int .i64 0, .string ⟨#[]⟩] W9) := by show Blk _ _ _; rw [← hW9]; exact (Blk.other (Blk.other HZE_w5.out (by omega)) (by omega))
        have HV9 : Hid (SV W9 w1.heap.size (.slice y1 s.R.length k1) (.slice y2 s.T.length k2) (.slice y3 s.V.length k3) s) := by show SV _ _ _ _ _ _; rw [← hW9]; exact (HN.out _ _ _ (.inl (by show w2.heap.size ≤ w2.heap.size; omega)) (HN.out _ _ _ (.inl (by show w2.heap.size ≤ w2.heap.size + 1; omega)) HV_w5.out))
        have b9 : Below w.heap.size w W9 := by rw [← hW9]; exact (Below.setCell (Below.setCell b_w5 (by show w.heap.size ≤ w2.heap.size + 1; omega) _) (by show w.heap.size ≤ w2.heap.size; omega) _)
        clear hW9 HSb_w5 HEv_w5 HZS_w5 HZE_w5 HV_w5 b_w5
        clear t0 t1 t2 t3 t4 t5 t6 t7 t8 tf0 tf1 tf2 tf3 tf4 tf5 tf6 tf7 tf8 v0 v1 vf0 vf1
        have t0 : W9.cell? ⟨w2.heap.size, 0, none⟩ = some (.int .i64 s.ph) := HS9.out.cell 0
        have t1 : W9.cell? ⟨w2.heap.size, 1, none⟩ = some (.string s.buf) := HS9.out.cell 1
        have t2 : W9.cell? ⟨w2.heap.size, 2, none⟩ = some (.string s.he) := HS9.out.cell 2
        have t3 : W9.cell? ⟨w2.heap.size, 3, none⟩ = some (.string s.fr) := HS9.out.cell 3
        have t4 : W9.cell? ⟨w2.heap.size, 4, none⟩ = some (.string s.bo) := HS9.out.cell 4
        have t5 : W9.cell? ⟨w2.heap.size, 5, none⟩ = some (.slice y1 s.R.length k1) := HS9.out.cell 5
        have t6 : W9.cell? ⟨w2.heap.size, 6, none⟩ = some (.int .i64 (-1)) := HS9.out.cell 6
        have t7 : W9.cell? ⟨w2.heap.size, 7, none⟩ = some (.slice y2 s.T.length k2) := HS9.out.cell 7
        have t8 : W9.cell? ⟨w2.heap.size, 8, none⟩ = some (.slice y3 s.V.length k3) := HS9.out.cell 8
        have v0 : W9.cell? ⟨w2.heap.size + 1, 0, none⟩ = some (.int .i64 1) := HE9.out.cell 0
        have v1 : W9.cell? ⟨w2.heap.size + 1, 1, none⟩ = some (.string X.1) := HE9.out.cell 1
        obtain ⟨r0, r1, r2, r3, r4, r5, r6, r7, r8⟩ := HZ9.out.zero
        obtain ⟨rf0, rf1, rf2, rf3, rf4, rf5, rf6, rf7, rf8⟩ := HZ9.out.frees
        have x0 : W9.cell? ⟨w.heap.size + 1, 0, none⟩ = some (.int .i64 0) := HY9.out.cell 0
        have x1 : W9.cell? ⟨w.heap.size + 1, 1, none⟩ = some (.string ⟨#[]⟩) := HY9.out.cell 1
        have xf0 := HY9.out.free 0
        have xf1 := HY9.out.free 1
        have la : w2.heap.size < W9.heap.size := HS9.out.lt
        have lb : w2.heap.size + 1 < W9.heap.size := HE9.out.lt
        have lc : w.heap.size < W9.heap.size := HZ9.out.lt
        have ld : w.heap.size + 1 < W9.heap.size := HY9.out.lt
        have h1 : w.heap.size < w1.heap.size := by omega
        have h2 : w.heap.size + 1 < w1.heap.size := by omega
        go_region
        all_goals
          go_wp2
          refine bodyPost_ret (v := .tuple #[.agg #[.int .i64 s.ph, .string s.buf, .string s.he, .string s.fr, .string s.bo, .slice y1 s.R.length k1, .int .i64 (-1), .slice y2 s.T.length k2, .slice y3 s.V.length k3], .agg #[.int .i64 1, .string X.1]]) (by simp [results, Tryz.results16, go_sem, r0, r1, r2, r3, r4, r5, r6, r7, r8, x0, x1]) rfl ?_
          rw [HDD.out, HXn.out, HdS.out]
          refine ⟨⟨_, _, _, rfl, ?_⟩, ?_⟩
          · exact SV.le (SV.drewX (HN.out _ _ _ (.inr h2) (HN.out _ _ _ (.inr h2) (SV.nine HV9.out h1 _ _ _ _ _ _ _ _ _)))) (Nat.le_of_lt h1)
          · exact Below.drew (Below.setCell (Below.setCell (below_nine b9 (Nat.le_refl _) _ _ _ _ _ _ _ _ _) (Nat.le_succ _) _) (Nat.le_succ _) _)
      · have h31i : ¬ (c : Int) % 31 = 30 := by omega
        have HXn : Hid (drX B = (s.nx : Int)) := by show drX B = _; unfold drX; rw [HC.out, if_neg h31, HdS.out]
        go_wp2_with fail
        generalize hW9 : World.setCell _ _ _ = W9
        have HS9 : Hid (Blk w2.heap.size #[.int .i64 s.ph, .string s.buf, .string s.he, .string s.fr, .string s.bo, .slice y1 s.R.length k1, .int .i64 (s.nx : Int), .slice y2 s.T.length k2, .slice y3 s.V.length k3] W9) := by show Blk _ _ _; rw [← hW9]; exact (Blk.other HSb_w5.out (by omega))
        have HE9 : Hid (Blk (w2.heap.size + 1) #[.int .i64 1, .string X.1] W9) := by show Blk _ _ _; rw [← hW9]; exact (Blk.set HEv_w5.out (i := 1) (v := .string X.1) (show 1 < 2 by decide))
        have HZ9 : Hid (SB w.heap.size sn0 (.slice none 0 0) (.slice none 0 0) (.slice none 0 0) W9) := by show SB _ _ _ _ _ _; rw [← hW9]; exact (Blk.other HZS_w5.out (by omega))
        have HY9 : Hid (Blk (w.heap.size + 1) #[.int .i64 0, .string ⟨#[]⟩] W9) := by show Blk _ _ _; rw [← hW9]; exact (Blk.other HZE_w5.out (by omega))
        have HV9 : Hid (SV W9 w1.heap.size (.slice y1 s.R.length k1) (.slice y2 s.T.length k2) (.slice y3 s.V.length k3) s) := by show SV _ _ _ _ _ _; rw [← hW9]; exact (HN.out _ _ _ (.inl (by show w2.heap.size ≤ w2.heap.size + 1; omega)) HV_w5.out)
        have b9 : Below w.heap.size w W9 := by rw [← hW9]; exact (Below.setCell b_w5 (by show w.heap.size ≤ w2.heap.size + 1; omega) _)
        clear hW9 HSb_w5 HEv_w5 HZS_w5 HZE_w5 HV_w5 b_w5
        clear t0 t1 t2 t3 t4 t5 t6 t7 t8 tf0 tf1 tf2 tf3 tf4 tf5 tf6 tf7 tf8 v0 v1 vf0 vf1
        have t0 : W9.cell? ⟨w2.heap.size, 0, none⟩ = some (.int .i64 s.ph) := HS9.out.cell 0
        have t1 : W9.cell? ⟨w2.heap.size, 1, none⟩ = some (.string s.buf) := HS9.out.cell 1
        have t2 : W9.cell? ⟨w2.heap.size, 2, none⟩ = some (.string s.he) := HS9.out.cell 2
        have t3 : W9.cell? ⟨w2.heap.size, 3, none⟩ = some (.string s.fr) := HS9.out.cell 3
        have t4 : W9.cell? ⟨w2.heap.size, 4, none⟩ = some (.string s.bo) := HS9.out.cell 4
        have t5 : W9.cell? ⟨w2.heap.size, 5, none⟩ = some (.slice y1 s.R.length k1) := HS9.out.cell 5
        have t6 : W9.cell? ⟨w2.heap.size, 6, none⟩ = some (.int .i64 (s.nx : Int)) := HS9.out.cell 6
        have t7 : W9.cell? ⟨w2.heap.size, 7, none⟩ = some (.slice y2 s.T.length k2) := HS9.out.cell 7
        have t8 : W9.cell? ⟨w2.heap.size, 8, none⟩ = some (.slice y3 s.V.length k3) := HS9.out.cell 8
        have v0 : W9.cell? ⟨w2.heap.size + 1, 0, none⟩ = some (.int .i64 1) := HE9.out.cell 0
        have v1 : W9.cell? ⟨w2.heap.size + 1, 1, none⟩ = some (.string X.1) := HE9.out.cell 1
        obtain ⟨r0, r1, r2, r3, r4, r5, r6, r7, r8⟩ := HZ9.out.zero
        obtain ⟨rf0, rf1, rf2, rf3, rf4, rf5, rf6, rf7, rf8⟩ := HZ9.out.frees
        have x0 : W9.cell? ⟨w.heap.size + 1, 0, none⟩ = some (.int .i64 0) := HY9.out.cell 0
        have x1 : W9.cell? ⟨w.heap.size + 1, 1, none⟩ = some (.string ⟨#[]⟩) := HY9.out.cell 1
        have xf0 := HY9.out.free 0
        have xf1 := HY9.out.free 1
        have la : w2.heap.size < W9.heap.size := HS9.out.lt
        have lb : w2.heap.size + 1 < W9.heap.size := HE9.out.lt
        have lc : w.heap.size < W9.heap.size := HZ9.out.lt
        have ld : w.heap.size + 1 < W9.heap.size := HY9.out.lt
        have h1 : w.heap.size < w1.heap.size := by omega
        have h2 : w.heap.size + 1 < w1.heap.size := by omega
        go_region
        all_goals
          go_wp2
          refine bodyPost_ret (v := .tuple #[.agg #[.int .i64 s.ph, .string s.buf, .string s.he, .string s.fr, .string s.bo, .slice y1 s.R.length k1, .int .i64 (s.nx : Int), .slice y2 s.T.length k2, .slice y3 s.V.length k3], .agg #[.int .i64 1, .string X.1]]) (by simp [results, Tryz.results16, go_sem, r0, r1, r2, r3, r4, r5, r6, r7, r8, x0, x1]) rfl ?_
          rw [HDD.out, HXn.out, HdS.out]
          refine ⟨⟨_, _, _, rfl, ?_⟩, ?_⟩
          · exact SV.le (SV.drewX (HN.out _ _ _ (.inr h2) (HN.out _ _ _ (.inr h2) (SV.nine HV9.out h1 _ _ _ _ _ _ _ _ _)))) (Nat.le_of_lt h1)
          · exact Below.drew (Below.setCell (Below.setCell (below_nine b9 (Nat.le_refl _) _ _ _ _ _ _ _ _ _) (Nat.le_succ _) _) (Nat.le_succ _) _)
    · have hmk : (c : Int) % 10 = 4 := by omega
      clear hm
      have c250 : ((c : Int) == 250) = false := beq_eq_false_iff_ne.2 (by omega)
      go_wp2_with fail
      refine (rdReplyX _ q2 _ B W3 H3.out).mono ?_
      rintro e w4 ⟨rfl, h4, ho4⟩
      have hrs := repF_size B q2
      have HDD : Hid (drD B = (s.buf, 1, keepB (repF B q2).1 ((c : Int) / 10))) := by show drD B = _; unfold drD drwD; rw [HP.out, HC.out, HSF.out, if_neg (by omega), if_neg (by omega), if_neg (by omega), if_pos (by omega)]
      have HZS_w4 : Hid (SB w.heap.size sn0 (.slice none 0 0) (.slice none 0 0) (.slice none 0 0) w4) := Blk.offR HZS_W3.out ho4 (by omega)
      have HZE_w4 : Hid (Blk (w.heap.size + 1) #[.int .i64 0, .string ⟨#[]⟩] w4) := Blk.offR HZE_W3.out ho4 (by omega)
      have b_w4 : Below w.heap.size w w4 := b_W3.trans ((ho4.belowAt (N := w.heap.size) (by omega) (by omega)).mono (Nat.le_refl _))
      have z_w4 := ho4.size
      have HSb_w4 : Hid (SB w2.heap.size s (.slice y1 s.R.length k1) (.slice y2 s.T.length k2) (.slice y3 s.V.length k3) w4) := Blk.offR HSb_W3.out ho4 (by omega)
      have HEv_w4 : Hid (Blk (w2.heap.size + 1) #[.int .i64 1, .string ⟨#[]⟩] w4) := Blk.offR HEv_W3.out ho4 (by omega)
      have HV_w4 : Hid (SV w4 w1.heap.size (.slice y1 s.R.length k1) (.slice y2 s.T.length k2) (.slice y3 s.V.length k3) s) := HV_W3.out.offR ho4 (by omega)
      have H4 : Hid (RdAt w4 (w.heap.size + 1 + 1) (.slice ca B.length cc) B (repF B q2).2) := h4
      generalize repF B q2 = Y at HDD hrs H4 ⊢
      clear h4 ho4
      go_wp2_with fail
      refine (specKeep Y.1 ((c : Int) / 10) w4).mono ?_
      rintro e w5 ⟨rfl, hw5⟩
      rw [hw5]
      clear hw5 w5
      generalize keepB Y.1 ((c : Int) / 10) = X at HDD ⊢
      obtain ⟨t0, t1, t2, t3, t4, t5, t6, t7, t8⟩ := HSb_w4.out.cells
      obtain ⟨tf0, tf1, tf2, tf3, tf4, tf5, tf6, tf7, tf8⟩ := HSb_w4.out.frees
      have v0 := HEv_w4.out.cell 0
      have v1 := HEv_w4.out.cell 1
      simp only [List.getElem?_toArray, List.getElem?_cons_succ, List.getElem?_cons_zero] at v0 v1
      have vf0 := HEv_w4.out.free 0
      have vf1 := HEv_w4.out.free 1
      have n3 : ¬ w2.heap.size + 1 = w2.heap.size := by omega
      have n4 : ¬ w2.heap.size = w2.heap.size + 1 := by omega
      by_cases h31 : c % 31 = 30
      · have h31i : (c : Int) % 31 = 30 := by omega
        have HXn : Hid (drX B = -1) := by show drX B = -1; unfold drX; rw [HC.out, if_pos h31]
        go_wp2_with fail
        generalize hW9 : World.setCell _ _ _ = W9
        have HS9 : Hid (Blk w2.heap.size #[.int .i64 s.ph, .string s.buf, .string s.he, .string s.fr, .string s.bo, .slice y1 s.R.length k1, .int .i64 (-1), .slice y2 s.T.length k2, .slice y3 s.V.length k3] W9) := by show Blk _ _ _; rw [← hW9]; exact (Blk.set (Blk.other HSb_w4.out (by omega)) (i := 6) (v := .int .i64 (-1)) (show 6 < 9 by decide))
        have HE9 : Hid (Blk (w2.heap.size + 1) #[.int .i64 1, .string X] W9) := by show Blk _ _ _; rw [← hW9]; exact (Blk.other (Blk.set HEv_w4.out (i := 1) (v := .string X) (show 1 < 2 by decide)) (by omega))
        have HZ9 : Hid (SB w.heap.size sn0 (.slice none 0 0) (.slice none 0 0) (.slice none 0 0) W9) := by show SB _ _ _ _ _ _; rw [← hW9]; exact (Blk.other (Blk.other HZS_w4.out (by omega)) (by omega))
        have HY9 : Hid (Blk (w.heap.size + 1) #[.int .i64 0, .string ⟨#[]⟩] W9) := by show Blk _ _ _; rw [← hW9]; exact (Blk.other (Blk.other HZE_w4.out (by omega)) (by omega))
        have HV9 : Hid (SV W9 w1.heap.size (.slice y1 s.R.length k1) (.slice y2 s.T.length k2) (.slice y3 s.V.length k3) s) := by show SV _ _ _ _ _ _; rw [← hW9]; exact (HN.out _ _ _ (.inl (by show w2.heap.size ≤ w2.heap.size; omega)) (HN.out _ _ _ (.inl (by show w2.heap.size ≤ w2.heap.size + 1; omega)) HV_w4.out))
        have b9 : Below w.heap.size w W9 := by rw [← hW9]; exact (Below.setCell (Below.setCell b_w4 (by show w.heap.size ≤ w2.heap.size + 1; omega) _) (by show w.heap.size ≤ w2.heap.size; omega) _)
        clear hW9 HSb_w4 HEv_w4 HZS_w4 HZE_w4 HV_w4 b_w4
        clear t0 t1 t2 t3 t4 t5 t6 t7 t8 tf0 tf1 tf2 tf3 tf4 tf5 tf6 tf7 tf8 v0 v1 vf0 vf1
        have t0 : W9.cell? ⟨w2.heap.size, 0, none⟩ = some (.int .i64 s.ph) := HS9.out.cell 0
        have t1 : W9.cell? ⟨w2.heap.size, 1, none⟩ = some (.string s.buf) := HS9.out.cell 1
        have t2 : W9.cell? ⟨w2.heap.size, 2, none⟩ = some (.string s.he) := HS9.out.cell 2
        have t3 : W9.cell? ⟨w2.heap.size, 3, none⟩ = some (.string s.fr) := HS9.out.cell 3
        have t4 : W9.cell? ⟨w2.heap.size, 4, none⟩ = some (.string s.bo) := HS9.out.cell 4
        have t5 : W9.cell? ⟨w2.heap.size, 5, none⟩ = some (.slice y1 s.R.length k1) := HS9.out.cell 5
        have t6 : W9.cell? ⟨w2.heap.size, 6, none⟩ = some (.int .i64 (-1)) := HS9.out.cell 6
        have t7 : W9.cell? ⟨w2.heap.size, 7, none⟩ = some (.slice y2 s.T.length k2) := HS9.out.cell 7
        have t8 : W9.cell? ⟨w2.heap.size, 8, none⟩ = some (.slice y3 s.V.length k3) := HS9.out.cell 8
        have v0 : W9.cell? ⟨w2.heap.size + 1, 0, none⟩ = some (.int .i64 1) := HE9.out.cell 0
        have v1 : W9.cell? ⟨w2.heap.size + 1, 1, none⟩ = some (.string X) := HE9.out.cell 1
        obtain ⟨r0, r1, r2, r3, r4, r5, r6, r7, r8⟩ := HZ9.out.zero
        obtain ⟨rf0, rf1, rf2, rf3, rf4, rf5, rf6, rf7, rf8⟩ := HZ9.out.frees
        have x0 : W9.cell? ⟨w.heap.size + 1, 0, none⟩ = some (.int .i64 0) := HY9.out.cell 0
        have x1 : W9.cell? ⟨w.heap.size + 1, 1, none⟩ = some (.string ⟨#[]⟩) := HY9.out.cell 1
        have xf0 := HY9.out.free 0
        have xf1 := HY9.out.free 1
        have la : w2.heap.size < W9.heap.size := HS9.out.lt
        have lb : w2.heap.size + 1 < W9.heap.size := HE9.out.lt
        have lc : w.heap.size < W9.heap.size := HZ9.out.lt
        have ld : w.heap.size + 1 < W9.heap.size := HY9.out.lt
        have h1 : w.heap.size < w1.heap.size := by omega
        have h2 : w.heap.size + 1 < w1.heap.size := by omega
        go_region
        all_goals
          go_wp2
          refine bodyPost_ret (v := .tuple #[.agg #[.int .i64 s.ph, .string s.buf, .string s.he, .string s.fr, .string s.bo, .slice y1 s.R.length k1, .int .i64 (-1), .slice y2 s.T.length k2, .slice y3 s.V.length k3], .agg #[.int .i64 1, .string X]]) (by simp [results, Tryz.results16, go_sem, r0, r1, r2, r3, r4, r5, r6, r7, r8, x0, x1]) rfl ?_
          rw [HDD.out, HXn.out, HdS.out]
          refine ⟨⟨_, _, _, rfl, ?_⟩, ?_⟩
          · exact SV.le (SV.drewX (HN.out _ _ _ (.inr h2) (HN.out _ _ _ (.inr h2) (SV.nine HV9.out h1 _ _ _ _ _ _ _ _ _)))) (Nat.le_of_lt h1)
          · exact Below.drew (Below.setCell (Below.setCell (below_nine b9 (Nat.le_refl _) _ _ _ _ _ _ _ _ _) (Nat.le_succ _) _) (Nat.le_succ _) _)
      · have h31i : ¬ (c : Int) % 31 = 30 := by omega
        have HXn : Hid (drX B = (s.nx : Int)) := by show drX B = _; unfold drX; rw [HC.out, if_neg h31, HdS.out]
        go_wp2_with fail
        generalize hW9 : World.setCell _ _ _ = W9
        have HS9 : Hid (Blk w2.heap.size #[.int .i64 s.ph, .string s.buf, .string s.he, .string s.fr, .string s.bo, .slice y1 s.R.length k1, .int .i64 (s.nx : Int), .slice y2 s.T.length k2, .slice y3 s.V.length k3] W9) := by show Blk _ _ _; rw [← hW9]; exact (Blk.other HSb_w4.out (by omega))
        have HE9 : Hid (Blk (w2.heap.size + 1) #[.int .i64 1, .string X] W9) := by show Blk _ _ _; rw [← hW9]; exact (Blk.set HEv_w4.out (i := 1) (v := .string X) (show 1 < 2 by decide))
        have HZ9 : Hid (SB w.heap.size sn0 (.slice none 0 0) (.slice none 0 0) (.slice none 0 0) W9) := by show SB _ _ _ _ _ _; rw [← hW9]; exact (Blk.other HZS_w4.out (by omega))
        have HY9 : Hid (Blk (w.heap.size + 1) #[.int .i64 0, .string ⟨#[]⟩] W9) := by show Blk _ _ _; rw [← hW9]; exact (Blk.other HZE_w4.out (by omega))
        have HV9 : Hid (SV W9 w1.heap.size (.slice y1 s.R.length k1) (.slice y2 s.T.length k2) (.slice y3 s.V.length k3) s) := by show SV _ _ _ _ _ _; rw [← hW9]; exact (HN.out _ _ _ (.inl (by show w2.heap.size ≤ w2.heap.size + 1; omega)) HV_w4.out)
        have b9 : Below w.heap.size w W9 := by rw [← hW9]; exact (Below.setCell b_w4 (by show w.heap.size ≤ w2.heap.size + 1; omega) _)
        clear hW9 HSb_w4 HEv_w4 HZS_w4 HZE_w4 HV_w4 b_w4
        clear t0 t1 t2 t3 t4 t5 t6 t7 t8 tf0 tf1 tf2 tf3 tf4 tf5 tf6 tf7 tf8 v0 v1 vf0 vf1
        have t0 : W9.cell? ⟨w2.heap.size, 0, none⟩ = some (.int .i64 s.ph) := HS9.out.cell 0
        have t1 : W9.cell? ⟨w2.heap.size, 1, none⟩ = some (.string s.buf) := HS9.out.cell 1
        have t2 : W9.cell? ⟨w2.heap.size, 2, none⟩ = some (.string s.he) := HS9.out.cell 2
        have t3 : W9.cell? ⟨w2.heap.size, 3, none⟩ = some (.string s.fr) := HS9.out.cell 3
        have t4 : W9.cell? ⟨w2.heap.size, 4, none⟩ = some (.string s.bo) := HS9.out.cell 4
        have t5 : W9.cell? ⟨w2.heap.size, 5, none⟩ = some (.slice y1 s.R.length k1) := HS9.out.cell 5
        have t6 : W9.cell? ⟨w2.heap.size, 6, none⟩ = some (.int .i64 (s.nx : Int)) := HS9.out.cell 6
        have t7 : W9.cell? ⟨w2.heap.size, 7, none⟩ = some (.slice y2 s.T.length k2) := HS9.out.cell 7
        have t8 : W9.cell? ⟨w2.heap.size, 8, none⟩ = some (.slice y3 s.V.length k3) := HS9.out.cell 8
        have v0 : W9.cell? ⟨w2.heap.size + 1, 0, none⟩ = some (.int .i64 1) := HE9.out.cell 0
        have v1 : W9.cell? ⟨w2.heap.size + 1, 1, none⟩ = some (.string X) := HE9.out.cell 1
        obtain ⟨r0, r1, r2, r3, r4, r5, r6, r7, r8⟩ := HZ9.out.zero
        obtain ⟨rf0, rf1, rf2, rf3, rf4, rf5, rf6, rf7, rf8⟩ := HZ9.out.frees
        have x0 : W9.cell? ⟨w.heap.size + 1, 0, none⟩ = some (.int .i64 0) := HY9.out.cell 0
        have x1 : W9.cell? ⟨w.heap.size + 1, 1, none⟩ = some (.string ⟨#[]⟩) := HY9.out.cell 1
        have xf0 := HY9.out.free 0
        have xf1 := HY9.out.free 1
        have la : w2.heap.size < W9.heap.size := HS9.out.lt
        have lb : w2.heap.size + 1 < W9.heap.size := HE9.out.lt
        have lc : w.heap.size < W9.heap.size := HZ9.out.lt
        have ld : w.heap.size + 1 < W9.heap.size := HY9.out.lt
        have h1 : w.heap.size < w1.heap.size := by omega
        have h2 : w.heap.size + 1 < w1.heap.size := by omega
        go_region
        all_goals
          go_wp2
          refine bodyPost_ret (v := .tuple #[.agg #[.int .i64 s.ph, .string s.buf, .string s.he, .string s.fr, .string s.bo, .slice y1 s.R.length k1, .int .i64 (s.nx : Int), .slice y2 s.T.length k2, .slice y3 s.V.length k3], .agg #[.int .i64 1, .string X]]) (by simp [results, Tryz.results16, go_sem, r0, r1, r2, r3, r4, r5, r6, r7, r8, x0, x1]) rfl ?_
          rw [HDD.out, HXn.out, HdS.out]
          refine ⟨⟨_, _, _, rfl, ?_⟩, ?_⟩
          · exact SV.le (SV.drewX (HN.out _ _ _ (.inr h2) (HN.out _ _ _ (.inr h2) (SV.nine HV9.out h1 _ _ _ _ _ _ _ _ _)))) (Nat.le_of_lt h1)
          · exact Below.drew (Below.setCell (Below.setCell (below_nine b9 (Nat.le_refl _) _ _ _ _ _ _ _ _ _) (Nat.le_succ _) _) (Nat.le_succ _) _)
    · have hmk : (c : Int) % 10 = 5 := by omega
      clear hm
      have c250 : ((c : Int) == 250) = false := beq_eq_false_iff_ne.2 (by omega)
      go_wp2_with fail
      obtain ⟨Z, hZ, HDD⟩ : ∃ Z, rpGo 3 B q2 ⟨#[]⟩ = Z ∧ Hid (drD B = (s.buf, 1, Z.1)) := ⟨_, rfl, by show drD B = _; unfold drD drwD; rw [HP.out, HC.out, HSF.out, if_neg (by omega), if_neg (by omega), if_neg (by omega), if_neg (by omega), if_pos (by omega)]⟩
      clear hmk
      go_loopw [8] (fun iv wr => ∃ (i q : Nat) (acc : ByteArray), iv = .int .i64 i ∧ i ≤ 3 ∧ acc.size ≤ i * 200 ∧ Hid (rpGo (3 - i) B q acc = Z) ∧ Hid (SB w2.heap.size s (.slice y1 s.R.length k1) (.slice y2 s.T.length k2) (.slice y3 s.V.length k3) wr) ∧ Hid (Blk (w2.heap.size + 1) #[.int .i64 1, .string acc] wr) ∧ Hid (SB w.heap.size sn0 (.slice none 0 0) (.slice none 0 0) (.slice none 0 0) wr) ∧ Hid (Blk (w.heap.size + 1) #[.int .i64 0, .string ⟨#[]⟩] wr) ∧ Hid (SV wr w1.heap.size (.slice y1 s.R.length k1) (.slice y2 s.T.length k2) (.slice y3 s.V.length k3) s) ∧ Hid (RdAt wr (w.heap.size + 1 + 1) (.slice ca B.length cc) B q) ∧ Below w.heap.size w wr ∧ W3.heap.size ≤ wr.heap.size) (fun iv _ => 3 - (intOf iv).toNat)
      case atStart => exact ⟨0, q2, ⟨#[]⟩, rfl, by decide, Nat.zero_le _, hZ, HSb_W3, HEv_W3, HZS_W3, HZE_W3, HV_W3, H3, b_W3, Nat.le_refl _⟩
      case round =>
        obtain ⟨i, q, acc, rfl, hi3, hacc, HG, HSb_wr, HEv_wr, HZS_wr, HZE_wr, HV_wr, HR, b_wr, z_wr⟩ := hrel
        clear HSb_W3 HEv_W3 HZS_W3 HZE_W3 HV_W3 H3 b_W3
        by_cases hi : i < 3
        · obtain ⟨k, hk⟩ : ∃ k, 3 - i = k + 1 := ⟨3 - i - 1, by omega⟩
          have HG2 : Hid (rpGo k B (repF B q).2 (acc ++ (repF B q).1) = Z) := by show _ = _; rw [← HG.out, hk, rpGo]
          have hrs := repF_size B q
          have HRP : Hid (∀ wx, RdAt wx (w.heap.size + 1 + 1) (.slice ca B.length cc) B q → Calls Tryz.prog 53 #[.pointer (some ⟨w.heap.size + 1 + 1, 0, none⟩)] wx fun e w' => e = .returned (.string (repF B q).1) ∧ RdAt w' (w.heap.size + 1 + 1) (.slice ca B.length cc) B (repF B q).2 ∧ Off (w.heap.size + 1 + 1) wx w') := fun wx hx => rdReplyX _ q _ B wx hx
          generalize repF B q = Y at HG2 hrs HRP
          have hadd : ∀ wx : World, (Op.stringOp .add acc Y.1).run Tryz.prog wx = .ok (.string (acc ++ Y.1)) wx := fun wx => run_string_add_sum wx acc Y.1 (by omega)
          have v1 : wr.cell? ⟨w2.heap.size + 1, 1, none⟩ = some (.string acc) := HEv_wr.out.cell 1
          have la : w2.heap.size + 1 < wr.heap.size := HEv_wr.out.lt
          go_wp2_with fail
          go_region_with (first | (go_at_call 53; refine (HRP.out _ (by first | exact HR.out | exact rd_drewX HR.out)).mono ?_; rintro e w4 ⟨rfl, h4, ho4⟩; have HO4 : Hid (Off (w.heap.size + 1 + 1) wr w4) := (by first | exact ho4 | exact (Off.of_below ((Below.refl _ wr).drew)).trans ho4); have HR4 : Hid (RdAt w4 (w.heap.size + 1 + 1) (.slice ca B.length cc) B Y.2) := h4; have HEv_w4 : Hid (Blk (w2.heap.size + 1) #[.int .i64 1, .string acc] w4) := Blk.offR HEv_wr.out HO4.out (by omega); have ey1 : w4.cell? ⟨w2.heap.size + 1, 1, none⟩ = some (.string acc) := HEv_w4.out.cell 1; have yf1 := HEv_w4.out.free 1; have yl : w2.heap.size + 1 < w4.heap.size := HEv_w4.out.lt; clear h4 ho4))
          all_goals
            go_wp2
            go_roundw
            case rel =>
              have hz4 := HO4.out.size
              refine ⟨i + 1, Y.2, acc ++ Y.1, by go_num, by omega, by rw [ByteArray.size_append]; omega, (by show rpGo (3 - (i + 1)) _ _ _ = Z; rw [show 3 - (i + 1) = k by omega]; exact HG2.out), Blk.other (Blk.offR HSb_wr.out HO4.out (by omega)) (by omega), Blk.set HEv_w4.out (i := 1) (v := .string (acc ++ Y.1)) (show 1 < 2 by decide), Blk.other (Blk.offR HZS_wr.out HO4.out (by omega)) (by omega), Blk.other (Blk.offR HZE_wr.out HO4.out (by omega)) (by omega), HN.out _ _ _ (.inl (by show w2.heap.size ≤ w2.heap.size + 1; omega)) (HV_wr.out.offR HO4.out (by omega)), H2.out.carry HR4.out (Below.setCell (Below.refl _ _) (by show w2.heap.size ≤ w2.heap.size + 1; omega) _), Below.setCell (b_wr.trans (HO4.out.belowAt (N := w.heap.size) (by omega) (by omega))) (by show w.heap.size ≤ w2.heap.size + 1; omega) _, ?_⟩
              simp
              omega
            case measure => simp [intOf]; omega
        · obtain rfl : i = 3 := by omega
          obtain rfl : Z = (acc, q) := HG.out.symm
          dsimp only at HDD
          obtain ⟨t0, t1, t2, t3, t4, t5, t6, t7, t8⟩ := HSb_wr.out.cells
          obtain ⟨tf0, tf1, tf2, tf3, tf4, tf5, tf6, tf7, tf8⟩ := HSb_wr.out.frees
          have v0 := HEv_wr.out.cell 0
          have v1 := HEv_wr.out.cell 1
          simp only [List.getElem?_toArray, List.getElem?_cons_succ, List.getElem?_cons_zero] at v0 v1
          have vf0 := HEv_wr.out.free 0
          have vf1 := HEv_wr.out.free 1
          have n3 : ¬ w2.heap.size + 1 = w2.heap.size := by omega
          have n4 : ¬ w2.heap.size = w2.heap.size + 1 := by omega
          by_cases h31 : c % 31 = 30
          · have h31i : (c : Int) % 31 = 30 := by omega
            have HXn : Hid (drX B = -1) := by show drX B = -1; unfold drX; rw [HC.out, if_pos h31]
            go_wp2_with fail
            generalize hW9 : World.setCell _ _ _ = W9
            have HS9 : Hid (Blk w2.heap.size #[.int .i64 s.ph, .string s.buf, .string s.he, .string s.fr, .string s.bo, .slice y1 s.R.length k1, .int .i64 (-1), .slice y2 s.T.length k2, .slice y3 s.V.length k3] W9) := by show Blk _ _ _; rw [← hW9]; exact (Blk.set HSb_wr.out (i := 6) (v := .int .i64 (-1)) (show 6 < 9 by decide))
            have HE9 : Hid (Blk (w2.heap.size + 1) #[.int .i64 1, .string acc] W9) := by show Blk _ _ _; rw [← hW9]; exact (Blk.other HEv_wr.out (by omega))
            have HZ9 : Hid (SB w.heap.size sn0 (.slice none 0 0) (.slice none 0 0) (.slice none 0 0) W9) := by show SB _ _ _ _ _ _; rw [← hW9]; exact (Blk.other HZS_wr.out (by omega))
            have HY9 : Hid (Blk (w.heap.size + 1) #[.int .i64 0, .string ⟨#[]⟩] W9) := by show Blk _ _ _; rw [← hW9]; exact (Blk.other HZE_wr.out (by omega))
            have HV9 : Hid (SV W9 w1.heap.size (.slice y1 s.R.length k1) (.slice y2 s.T.length k2) (.slice y3 s.V.length k3) s) := by show SV _ _ _ _ _ _; rw [← hW9]; exact (HN.out _ _ _ (.inl (by show w2.heap.size ≤ w2.heap.size; omega)) HV_wr.out)
            have b9 : Below w.heap.size w W9 := by rw [← hW9]; exact (Below.setCell b_wr (by show w.heap.size ≤ w2.heap.size; omega) _)
            clear hW9 HSb_wr HEv_wr HZS_wr HZE_wr HV_wr b_wr
            clear t0 t1 t2 t3 t4 t5 t6 t7 t8 tf0 tf1 tf2 tf3 tf4 tf5 tf6 tf7 tf8 v0 v1 vf0 vf1
            have t0 : W9.cell? ⟨w2.heap.size, 0, none⟩ = some (.int .i64 s.ph) := HS9.out.cell 0
            have t1 : W9.cell? ⟨w2.heap.size, 1, none⟩ = some (.string s.buf) := HS9.out.cell 1
            have t2 : W9.cell? ⟨w2.heap.size, 2, none⟩ = some (.string s.he) := HS9.out.cell 2
            have t3 : W9.cell? ⟨w2.heap.size, 3, none⟩ = some (.string s.fr) := HS9.out.cell 3
            have t4 : W9.cell? ⟨w2.heap.size, 4, none⟩ = some (.string s.bo) := HS9.out.cell 4
            have t5 : W9.cell? ⟨w2.heap.size, 5, none⟩ = some (.slice y1 s.R.length k1) := HS9.out.cell 5
            have t6 : W9.cell? ⟨w2.heap.size, 6, none⟩ = some (.int .i64 (-1)) := HS9.out.cell 6
            have t7 : W9.cell? ⟨w2.heap.size, 7, none⟩ = some (.slice y2 s.T.length k2) := HS9.out.cell 7
            have t8 : W9.cell? ⟨w2.heap.size, 8, none⟩ = some (.slice y3 s.V.length k3) := HS9.out.cell 8
            have v0 : W9.cell? ⟨w2.heap.size + 1, 0, none⟩ = some (.int .i64 1) := HE9.out.cell 0
            have v1 : W9.cell? ⟨w2.heap.size + 1, 1, none⟩ = some (.string acc) := HE9.out.cell 1
            obtain ⟨r0, r1, r2, r3, r4, r5, r6, r7, r8⟩ := HZ9.out.zero
            obtain ⟨rf0, rf1, rf2, rf3, rf4, rf5, rf6, rf7, rf8⟩ := HZ9.out.frees
            have x0 : W9.cell? ⟨w.heap.size + 1, 0, none⟩ = some (.int .i64 0) := HY9.out.cell 0
            have x1 : W9.cell? ⟨w.heap.size + 1, 1, none⟩ = some (.string ⟨#[]⟩) := HY9.out.cell 1
            have xf0 := HY9.out.free 0
            have xf1 := HY9.out.free 1
            have la : w2.heap.size < W9.heap.size := HS9.out.lt
            have lb : w2.heap.size + 1 < W9.heap.size := HE9.out.lt
            have lc : w.heap.size < W9.heap.size := HZ9.out.lt
            have ld : w.heap.size + 1 < W9.heap.size := HY9.out.lt
            have h1 : w.heap.size < w1.heap.size := by omega
            have h2 : w.heap.size + 1 < w1.heap.size := by omega
            go_region
            all_goals
              go_wp2
              refine bodyPost_ret (v := .tuple #[.agg #[.int .i64 s.ph, .string s.buf, .string s.he, .string s.fr, .string s.bo, .slice y1 s.R.length k1, .int .i64 (-1), .slice y2 s.T.length k2, .slice y3 s.V.length k3], .agg #[.int .i64 1, .string acc]]) (by simp [results, Tryz.results16, go_sem, r0, r1, r2, r3, r4, r5, r6, r7, r8, x0, x1]) rfl ?_
              rw [HDD.out, HXn.out, HdS.out]
              refine ⟨⟨_, _, _, rfl, ?_⟩, ?_⟩
              · exact SV.le (SV.drewX (HN.out _ _ _ (.inr h2) (HN.out _ _ _ (.inr h2) (SV.nine HV9.out h1 _ _ _ _ _ _ _ _ _)))) (Nat.le_of_lt h1)
              · exact Below.drew (Below.setCell (Below.setCell (below_nine b9 (Nat.le_refl _) _ _ _ _ _ _ _ _ _) (Nat.le_succ _) _) (Nat.le_succ _) _)
          · have h31i : ¬ (c : Int) % 31 = 30 := by omega
            have HXn : Hid (drX B = (s.nx : Int)) := by show drX B = _; unfold drX; rw [HC.out, if_neg h31, HdS.out]
            go_wp2_with fail
            obtain ⟨W9, hW9⟩ : ∃ W9 : World, wr = W9 := ⟨_, rfl⟩
            rw [hW9]
            have HS9 : Hid (Blk w2.heap.size #[.int .i64 s.ph, .string s.buf, .string s.he, .string s.fr, .string s.bo, .slice y1 s.R.length k1, .int .i64 (s.nx : Int), .slice y2 s.T.length k2, .slice y3 s.V.length k3] W9) := by show Blk _ _ _; rw [← hW9]; exact HSb_wr.out
            have HE9 : Hid (Blk (w2.heap.size + 1) #[.int .i64 1, .string acc] W9) := by show Blk _ _ _; rw [← hW9]; exact HEv_wr.out
            have HZ9 : Hid (SB w.heap.size sn0 (.slice none 0 0) (.slice none 0 0) (.slice none 0 0) W9) := by show SB _ _ _ _ _ _; rw [← hW9]; exact HZS_wr.out
            have HY9 : Hid (Blk (w.heap.size + 1) #[.int .i64 0, .string ⟨#[]⟩] W9) := by show Blk _ _ _; rw [← hW9]; exact HZE_wr.out
            have HV9 : Hid (SV W9 w1.heap.size (.slice y1 s.R.length k1) (.slice y2 s.T.length k2) (.slice y3 s.V.length k3) s) := by show SV _ _ _ _ _ _; rw [← hW9]; exact HV_wr.out
            have b9 : Below w.heap.size w W9 := by rw [← hW9]; exact b_wr
            clear hW9 HSb_wr HEv_wr HZS_wr HZE_wr HV_wr b_wr
            clear t0 t1 t2 t3 t4 t5 t6 t7 t8 tf0 tf1 tf2 tf3 tf4 tf5 tf6 tf7 tf8 v0 v1 vf0 vf1
            have t0 : W9.cell? ⟨w2.heap.size, 0, none⟩ = some (.int .i64 s.ph) := HS9.out.cell 0
            have t1 : W9.cell? ⟨w2.heap.size, 1, none⟩ = some (.string s.buf) := HS9.out.cell 1
            have t2 : W9.cell? ⟨w2.heap.size, 2, none⟩ = some (.string s.he) := HS9.out.cell 2
            have t3 : W9.cell? ⟨w2.heap.size, 3, none⟩ = some (.string s.fr) := HS9.out.cell 3
            have t4 : W9.cell? ⟨w2.heap.size, 4, none⟩ = some (.string s.bo) := HS9.out.cell 4
            have t5 : W9.cell? ⟨w2.heap.size, 5, none⟩ = some (.slice y1 s.R.length k1) := HS9.out.cell 5
            have t6 : W9.cell? ⟨w2.heap.size, 6, none⟩ = some (.int .i64 (s.nx : Int)) := HS9.out.cell 6
            have t7 : W9.cell? ⟨w2.heap.size, 7, none⟩ = some (.slice y2 s.T.length k2) := HS9.out.cell 7
            have t8 : W9.cell? ⟨w2.heap.size, 8, none⟩ = some (.slice y3 s.V.length k3) := HS9.out.cell 8
            have v0 : W9.cell? ⟨w2.heap.size + 1, 0, none⟩ = some (.int .i64 1) := HE9.out.cell 0
            have v1 : W9.cell? ⟨w2.heap.size + 1, 1, none⟩ = some (.string acc) := HE9.out.cell 1
            obtain ⟨r0, r1, r2, r3, r4, r5, r6, r7, r8⟩ := HZ9.out.zero
            obtain ⟨rf0, rf1, rf2, rf3, rf4, rf5, rf6, rf7, rf8⟩ := HZ9.out.frees
            have x0 : W9.cell? ⟨w.heap.size + 1, 0, none⟩ = some (.int .i64 0) := HY9.out.cell 0
            have x1 : W9.cell? ⟨w.heap.size + 1, 1, none⟩ = some (.string ⟨#[]⟩) := HY9.out.cell 1
            have xf0 := HY9.out.free 0
            have xf1 := HY9.out.free 1
            have la : w2.heap.size < W9.heap.size := HS9.out.lt
            have lb : w2.heap.size + 1 < W9.heap.size := HE9.out.lt
            have lc : w.heap.size < W9.heap.size := HZ9.out.lt
            have ld : w.heap.size + 1 < W9.heap.size := HY9.out.lt
            have h1 : w.heap.size < w1.heap.size := by omega
            have h2 : w.heap.size + 1 < w1.heap.size := by omega
            go_region
            all_goals
              go_wp2
              refine bodyPost_ret (v := .tuple #[.agg #[.int .i64 s.ph, .string s.buf, .string s.he, .string s.fr, .string s.bo, .slice y1 s.R.length k1, .int .i64 (s.nx : Int), .slice y2 s.T.length k2, .slice y3 s.V.length k3], .agg #[.int .i64 1, .string acc]]) (by simp [results, Tryz.results16, go_sem, r0, r1, r2, r3, r4, r5, r6, r7, r8, x0, x1]) rfl ?_
              rw [HDD.out, HXn.out, HdS.out]
              refine ⟨⟨_, _, _, rfl, ?_⟩, ?_⟩
              · exact SV.le (SV.drewX (HN.out _ _ _ (.inr h2) (HN.out _ _ _ (.inr h2) (SV.nine HV9.out h1 _ _ _ _ _ _ _ _ _)))) (Nat.le_of_lt h1)
              · exact Below.drew (Below.setCell (Below.setCell (below_nine b9 (Nat.le_refl _) _ _ _ _ _ _ _ _ _) (Nat.le_succ _) _) (Nat.le_succ _) _)
    · have hmk : (c : Int) % 10 = 6 := by omega
      clear hm
      have c250 : ((c : Int) == 250) = false := beq_eq_false_iff_ne.2 (by omega)
      obtain ⟨t0, t1, t2, t3, t4, t5, t6, t7, t8⟩ := HSb_W3.out.cells
      go_wp2_with fail
      clear t0 t1 t2 t3 t4 t5 t6 t7 t8
      refine (specGood s.ph W3 (by omega) (by omega)).mono ?_
      rintro e w4 ⟨rfl, hb4⟩
      have hgs := goodF_size s.ph
      have hks := keepB_size (goodF s.ph) ((c : Int) / 10 % 8)
      have HDD : Hid (drD B = (keepB (goodF s.ph) ((c : Int) / 10 % 8), 1, (goodF s.ph).extract (keepB (goodF s.ph) ((c : Int) / 10 % 8)).size (goodF s.ph).size)) := by show drD B = _; unfold drD drwD; rw [HP.out, HC.out, HSF.out, if_neg (by omega), if_neg (by omega), if_neg (by omega), if_neg (by omega), if_neg (by omega), if_pos (by omega)]
      have HZS_w4 : Hid (SB w.heap.size sn0 (.slice none 0 0) (.slice none 0 0) (.slice none 0 0) w4) := SB.below HZS_W3.out hb4
      have HZE_w4 : Hid (Blk (w.heap.size + 1) #[.int .i64 0, .string ⟨#[]⟩] w4) := Blk.below HZE_W3.out hb4
      have b_w4 : Below w.heap.size w w4 := b_W3.trans (hb4.mono b_W3.size)
      have z_w4 := hb4.size
      have HSb_w4 : Hid (SB w2.heap.size s (.slice y1 s.R.length k1) (.slice y2 s.T.length k2) (.slice y3 s.V.length k3) w4) := SB.below HSb_W3.out hb4
      have HEv_w4 : Hid (Blk (w2.heap.size + 1) #[.int .i64 1, .string ⟨#[]⟩] w4) := Blk.below HEv_W3.out hb4
      have HV_w4 : Hid (SV w4 w1.heap.size (.slice y1 s.R.length k1) (.slice y2 s.T.length k2) (.slice y3 s.V.length k3) s) := HV_W3.out.below hb4 (Nat.le_refl _)
      generalize goodF s.ph = Y at HDD hgs hks ⊢
      clear hb4
      go_wp2_with fail
      refine (specKeep Y ((c : Int) / 10 % 8) w4).mono ?_
      rintro e w5 ⟨rfl, hw5⟩
      rw [hw5]
      clear hw5 w5
      generalize keepB Y ((c : Int) / 10 % 8) = X at HDD hks ⊢
      have hksi : (X.size : Int) ≤ Y.size := by omega
      obtain ⟨t0, t1, t2, t3, t4, t5, t6, t7, t8⟩ := HSb_w4.out.cells
      obtain ⟨tf0, tf1, tf2, tf3, tf4, tf5, tf6, tf7, tf8⟩ := HSb_w4.out.frees
      have v0 := HEv_w4.out.cell 0
      have v1 := HEv_w4.out.cell 1
      simp only [List.getElem?_toArray, List.getElem?_cons_succ, List.getElem?_cons_zero] at v0 v1
      have vf0 := HEv_w4.out.free 0
      have vf1 := HEv_w4.out.free 1
      have n3 : ¬ w2.heap.size + 1 = w2.heap.size := by omega
      have n4 : ¬ w2.heap.size = w2.heap.size + 1 := by omega
      by_cases h31 : c % 31 = 30
      · have h31i : (c : Int) % 31 = 30 := by omega
        have HXn : Hid (drX B = -1) := by show drX B = -1; unfold drX; rw [HC.out, if_pos h31]
        go_wp2_with fail
        generalize hW9 : World.setCell _ _ _ = W9
        have HS9 : Hid (Blk w2.heap.size #[.int .i64 s.ph, .string X, .string s.he, .string s.fr, .string s.bo, .slice y1 s.R.length k1, .int .i64 (-1), .slice y2 s.T.length k2, .slice y3 s.V.length k3] W9) := by show Blk _ _ _; rw [← hW9]; exact (Blk.set (Blk.other (Blk.set HSb_w4.out (i := 1) (v := .string X) (show 1 < 9 by decide)) (by omega)) (i := 6) (v := .int .i64 (-1)) (show 6 < 9 by decide))
        have HE9 : Hid (Blk (w2.heap.size + 1) #[.int .i64 1, .string (Y.extract X.size Y.size)] W9) := by show Blk _ _ _; rw [← hW9]; exact (Blk.other (Blk.set (Blk.other HEv_w4.out (by omega)) (i := 1) (v := .string (Y.extract X.size Y.size)) (show 1 < 2 by decide)) (by omega))
        have HZ9 : Hid (SB w.heap.size sn0 (.slice none 0 0) (.slice none 0 0) (.slice none 0 0) W9) := by show SB _ _ _ _ _ _; rw [← hW9]; exact (Blk.other (Blk.other (Blk.other HZS_w4.out (by omega)) (by omega)) (by omega))
        have HY9 : Hid (Blk (w.heap.size + 1) #[.int .i64 0, .string ⟨#[]⟩] W9) := by show Blk _ _ _; rw [← hW9]; exact (Blk.other (Blk.other (Blk.other HZE_w4.out (by omega)) (by omega)) (by omega))
        have HV9 : Hid (SV W9 w1.heap.size (.slice y1 s.R.length k1) (.slice y2 s.T.length k2) (.slice y3 s.V.length k3) s) := by show SV _ _ _ _ _ _; rw [← hW9]; exact (HN.out _ _ _ (.inl (by show w2.heap.size ≤ w2.heap.size; omega)) (HN.out _ _ _ (.inl (by show w2.heap.size ≤ w2.heap.size + 1; omega)) (HN.out _ _ _ (.inl (by show w2.heap.size ≤ w2.heap.size; omega)) HV_w4.out)))
        have b9 : Below w.heap.size w W9 := by rw [← hW9]; exact (Below.setCell (Below.setCell (Below.setCell b_w4 (by show w.heap.size ≤ w2.heap.size; omega) _) (by show w.heap.size ≤ w2.heap.size + 1; omega) _) (by show w.heap.size ≤ w2.heap.size; omega) _)
        clear hW9 HSb_w4 HEv_w4 HZS_w4 HZE_w4 HV_w4 b_w4
        clear t0 t1 t2 t3 t4 t5 t6 t7 t8 tf0 tf1 tf2 tf3 tf4 tf5 tf6 tf7 tf8 v0 v1 vf0 vf1
        have t0 : W9.cell? ⟨w2.heap.size, 0, none⟩ = some (.int .i64 s.ph) := HS9.out.cell 0
        have t1 : W9.cell? ⟨w2.heap.size, 1, none⟩ = some (.string X) := HS9.out.cell 1
        have t2 : W9.cell? ⟨w2.heap.size, 2, none⟩ = some (.string s.he) := HS9.out.cell 2
        have t3 : W9.cell? ⟨w2.heap.size, 3, none⟩ = some (.string s.fr) := HS9.out.cell 3
        have t4 : W9.cell? ⟨w2.heap.size, 4, none⟩ = some (.string s.bo) := HS9.out.cell 4
        have t5 : W9.cell? ⟨w2.heap.size, 5, none⟩ = some (.slice y1 s.R.length k1) := HS9.out.cell 5
        have t6 : W9.cell? ⟨w2.heap.size, 6, none⟩ = some (.int .i64 (-1)) := HS9.out.cell 6
        have t7 : W9.cell? ⟨w2.heap.size, 7, none⟩ = some (.slice y2 s.T.length k2) := HS9.out.cell 7
        have t8 : W9.cell? ⟨w2.heap.size, 8, none⟩ = some (.slice y3 s.V.length k3) := HS9.out.cell 8
        have v0 : W9.cell? ⟨w2.heap.size + 1, 0, none⟩ = some (.int .i64 1) := HE9.out.cell 0
        have v1 : W9.cell? ⟨w2.heap.size + 1, 1, none⟩ = some (.string (Y.extract X.size Y.size)) := HE9.out.cell 1
        obtain ⟨r0, r1, r2, r3, r4, r5, r6, r7, r8⟩ := HZ9.out.zero
        obtain ⟨rf0, rf1, rf2, rf3, rf4, rf5, rf6, rf7, rf8⟩ := HZ9.out.frees
        have x0 : W9.cell? ⟨w.heap.size + 1, 0, none⟩ = some (.int .i64 0) := HY9.out.cell 0
        have x1 : W9.cell? ⟨w.heap.size + 1, 1, none⟩ = some (.string ⟨#[]⟩) := HY9.out.cell 1
        have xf0 := HY9.out.free 0
        have xf1 := HY9.out.free 1
        have la : w2.heap.size < W9.heap.size := HS9.out.lt
        have lb : w2.heap.size + 1 < W9.heap.size := HE9.out.lt
        have lc : w.heap.size < W9.heap.size := HZ9.out.lt
        have ld : w.heap.size + 1 < W9.heap.size := HY9.out.lt
        have h1 : w.heap.size < w1.heap.size := by omega
        have h2 : w.heap.size + 1 < w1.heap.size := by omega
        go_region
        all_goals
          go_wp2
          refine bodyPost_ret (v := .tuple #[.agg #[.int .i64 s.ph, .string X, .string s.he, .string s.fr, .string s.bo, .slice y1 s.R.length k1, .int .i64 (-1), .slice y2 s.T.length k2, .slice y3 s.V.length k3], .agg #[.int .i64 1, .string (Y.extract X.size Y.size)]]) (by simp [results, Tryz.results16, go_sem, r0, r1, r2, r3, r4, r5, r6, r7, r8, x0, x1]) rfl ?_
          rw [HDD.out, HXn.out, HdS.out]
          refine ⟨⟨_, _, _, rfl, ?_⟩, ?_⟩
          · exact SV.le (SV.drewX (HN.out _ _ _ (.inr h2) (HN.out _ _ _ (.inr h2) (SV.nine HV9.out h1 _ _ _ _ _ _ _ _ _)))) (Nat.le_of_lt h1)
          · exact Below.drew (Below.setCell (Below.setCell (below_nine b9 (Nat.le_refl _) _ _ _ _ _ _ _ _ _) (Nat.le_succ _) _) (Nat.le_succ _) _)
      · have h31i : ¬ (c : Int) % 31 = 30 := by omega
        have HXn : Hid (drX B = (s.nx : Int)) := by show drX B = _; unfold drX; rw [HC.out, if_neg h31, HdS.out]
        go_wp2_with fail
        generalize hW9 : World.setCell _ _ _ = W9
        have HS9 : Hid (Blk w2.heap.size #[.int .i64 s.ph, .string X, .string s.he, .string s.fr, .string s.bo, .slice y1 s.R.length k1, .int .i64 (s.nx : Int), .slice y2 s.T.length k2, .slice y3 s.V.length k3] W9) := by show Blk _ _ _; rw [← hW9]; exact (Blk.other (Blk.set HSb_w4.out (i := 1) (v := .string X) (show 1 < 9 by decide)) (by omega))
        have HE9 : Hid (Blk (w2.heap.size + 1) #[.int .i64 1, .string (Y.extract X.size Y.size)] W9) := by show Blk _ _ _; rw [← hW9]; exact (Blk.set (Blk.other HEv_w4.out (by omega)) (i := 1) (v := .string (Y.extract X.size Y.size)) (show 1 < 2 by decide))
        have HZ9 : Hid (SB w.heap.size sn0 (.slice none 0 0) (.slice none 0 0) (.slice none 0 0) W9) := by show SB _ _ _ _ _ _; rw [← hW9]; exact (Blk.other (Blk.other HZS_w4.out (by omega)) (by omega))
        have HY9 : Hid (Blk (w.heap.size + 1) #[.int .i64 0, .string ⟨#[]⟩] W9) := by show Blk _ _ _; rw [← hW9]; exact (Blk.other (Blk.other HZE_w4.out (by omega)) (by omega))
        have HV9 : Hid (SV W9 w1.heap.size (.slice y1 s.R.length k1) (.slice y2 s.T.length k2) (.slice y3 s.V.length k3) s) := by show SV _ _ _ _ _ _; rw [← hW9]; exact (HN.out _ _ _ (.inl (by show w2.heap.size ≤ w2.heap.size + 1; omega)) (HN.out _ _ _ (.inl (by show w2.heap.size ≤ w2.heap.size; omega)) HV_w4.out))
        have b9 : Below w.heap.size w W9 := by rw [← hW9]; exact (Below.setCell (Below.setCell b_w4 (by show w.heap.size ≤ w2.heap.size; omega) _) (by show w.heap.size ≤ w2.heap.size + 1; omega) _)
        clear hW9 HSb_w4 HEv_w4 HZS_w4 HZE_w4 HV_w4 b_w4
        clear t0 t1 t2 t3 t4 t5 t6 t7 t8 tf0 tf1 tf2 tf3 tf4 tf5 tf6 tf7 tf8 v0 v1 vf0 vf1
        have t0 : W9.cell? ⟨w2.heap.size, 0, none⟩ = some (.int .i64 s.ph) := HS9.out.cell 0
        have t1 : W9.cell? ⟨w2.heap.size, 1, none⟩ = some (.string X) := HS9.out.cell 1
        have t2 : W9.cell? ⟨w2.heap.size, 2, none⟩ = some (.string s.he) := HS9.out.cell 2
        have t3 : W9.cell? ⟨w2.heap.size, 3, none⟩ = some (.string s.fr) := HS9.out.cell 3
        have t4 : W9.cell? ⟨w2.heap.size, 4, none⟩ = some (.string s.bo) := HS9.out.cell 4
        have t5 : W9.cell? ⟨w2.heap.size, 5, none⟩ = some (.slice y1 s.R.length k1) := HS9.out.cell 5
        have t6 : W9.cell? ⟨w2.heap.size, 6, none⟩ = some (.int .i64 (s.nx : Int)) := HS9.out.cell 6
        have t7 : W9.cell? ⟨w2.heap.size, 7, none⟩ = some (.slice y2 s.T.length k2) := HS9.out.cell 7
        have t8 : W9.cell? ⟨w2.heap.size, 8, none⟩ = some (.slice y3 s.V.length k3) := HS9.out.cell 8
        have v0 : W9.cell? ⟨w2.heap.size + 1, 0, none⟩ = some (.int .i64 1) := HE9.out.cell 0
        have v1 : W9.cell? ⟨w2.heap.size + 1, 1, none⟩ = some (.string (Y.extract X.size Y.size)) := HE9.out.cell 1
        obtain ⟨r0, r1, r2, r3, r4, r5, r6, r7, r8⟩ := HZ9.out.zero
        obtain ⟨rf0, rf1, rf2, rf3, rf4, rf5, rf6, rf7, rf8⟩ := HZ9.out.frees
        have x0 : W9.cell? ⟨w.heap.size + 1, 0, none⟩ = some (.int .i64 0) := HY9.out.cell 0
        have x1 : W9.cell? ⟨w.heap.size + 1, 1, none⟩ = some (.string ⟨#[]⟩) := HY9.out.cell 1
        have xf0 := HY9.out.free 0
        have xf1 := HY9.out.free 1
        have la : w2.heap.size < W9.heap.size := HS9.out.lt
        have lb : w2.heap.size + 1 < W9.heap.size := HE9.out.lt
        have lc : w.heap.size < W9.heap.size := HZ9.out.lt
        have ld : w.heap.size + 1 < W9.heap.size := HY9.out.lt
        have h1 : w.heap.size < w1.heap.size := by omega
        have h2 : w.heap.size + 1 < w1.heap.size := by omega
        go_region
        all_goals
          go_wp2
          refine bodyPost_ret (v := .tuple #[.agg #[.int .i64 s.ph, .string X, .string s.he, .string s.fr, .string s.bo, .slice y1 s.R.length k1, .int .i64 (s.nx : Int), .slice y2 s.T.length k2, .slice y3 s.V.length k3], .agg #[.int .i64 1, .string (Y.extract X.size Y.size)]]) (by simp [results, Tryz.results16, go_sem, r0, r1, r2, r3, r4, r5, r6, r7, r8, x0, x1]) rfl ?_
          rw [HDD.out, HXn.out, HdS.out]
          refine ⟨⟨_, _, _, rfl, ?_⟩, ?_⟩
          · exact SV.le (SV.drewX (HN.out _ _ _ (.inr h2) (HN.out _ _ _ (.inr h2) (SV.nine HV9.out h1 _ _ _ _ _ _ _ _ _)))) (Nat.le_of_lt h1)
          · exact Below.drew (Below.setCell (Below.setCell (below_nine b9 (Nat.le_refl _) _ _ _ _ _ _ _ _ _) (Nat.le_succ _) _) (Nat.le_succ _) _)
    · rcases (show ((c : Int) % 10 = 1) ∨ ((c : Int) % 10 = 2) by omega) with hmk | hmk
      all_goals
        clear hm
        have c250 : ((c : Int) == 250) = false := beq_eq_false_iff_ne.2 (by omega)
        go_wp2_with fail
        refine (rdReplyX _ q2 _ B W3 H3.out).mono ?_
        rintro e w4 ⟨rfl, h4, ho4⟩
        have hrs := repF_size B q2
        have HDD : Hid (drD B = (s.buf, 1, (repF B q2).1 ++ (⟨#[50, 53, 48, 32, 97, 110, 100]⟩ : ByteArray))) := by show drD B = _; unfold drD drwD tAnd; rw [HP.out, HC.out, HSF.out, if_neg (by omega), if_pos (by omega)]
        have e7 : (⟨#[50, 53, 48, 32, 97, 110, 100]⟩ : ByteArray).size = 7 := rfl
        have HZS_w4 : Hid (SB w.heap.size sn0 (.slice none 0 0) (.slice none 0 0) (.slice none 0 0) w4) := Blk.offR HZS_W3.out ho4 (by omega)
        have HZE_w4 : Hid (Blk (w.heap.size + 1) #[.int .i64 0, .string ⟨#[]⟩] w4) := Blk.offR HZE_W3.out ho4 (by omega)
        have b_w4 : Below w.heap.size w w4 := b_W3.trans ((ho4.belowAt (N := w.heap.size) (by omega) (by omega)).mono (Nat.le_refl _))
        have z_w4 := ho4.size
        have HSb_w4 : Hid (SB w2.heap.size s (.slice y1 s.R.length k1) (.slice y2 s.T.length k2) (.slice y3 s.V.length k3) w4) := Blk.offR HSb_W3.out ho4 (by omega)
        have HEv_w4 : Hid (Blk (w2.heap.size + 1) #[.int .i64 1, .string ⟨#[]⟩] w4) := Blk.offR HEv_W3.out ho4 (by omega)
        have HV_w4 : Hid (SV w4 w1.heap.size (.slice y1 s.R.length k1) (.slice y2 s.T.length k2) (.slice y3 s.V.length k3) s) := HV_W3.out.offR ho4 (by omega)
        have H4 : Hid (RdAt w4 (w.heap.size + 1 + 1) (.slice ca B.length cc) B (repF B q2).2) := h4
        generalize repF B q2 = Y at HDD hrs H4 ⊢
        clear h4 ho4
        obtain ⟨t0, t1, t2, t3, t4, t5, t6, t7, t8⟩ := HSb_w4.out.cells
        obtain ⟨tf0, tf1, tf2, tf3, tf4, tf5, tf6, tf7, tf8⟩ := HSb_w4.out.frees
        have v0 := HEv_w4.out.cell 0
        have v1 := HEv_w4.out.cell 1
        simp only [List.getElem?_toArray, List.getElem?_cons_succ, List.getElem?_cons_zero] at v0 v1
        have vf0 := HEv_w4.out.free 0
        have vf1 := HEv_w4.out.free 1
        have n3 : ¬ w2.heap.size + 1 = w2.heap.size := by omega
        have n4 : ¬ w2.heap.size = w2.heap.size + 1 := by omega
        by_cases h31 : c % 31 = 30
        · have h31i : (c : Int) % 31 = 30 := by omega
          have HXn : Hid (drX B = -1) := by show drX B = -1; unfold drX; rw [HC.out, if_pos h31]
          go_wp2_with fail
          generalize hW9 : World.setCell _ _ _ = W9
          have HS9 : Hid (Blk w2.heap.size #[.int .i64 s.ph, .string s.buf, .string s.he, .string s.fr, .string s.bo, .slice y1 s.R.length k1, .int .i64 (-1), .slice y2 s.T.length k2, .slice y3 s.V.length k3] W9) := by show Blk _ _ _; rw [← hW9]; exact (Blk.set (Blk.other HSb_w4.out (by omega)) (i := 6) (v := .int .i64 (-1)) (show 6 < 9 by decide))
          have HE9 : Hid (Blk (w2.heap.size + 1) #[.int .i64 1, .string (Y.1 ++ (⟨#[50, 53, 48, 32, 97, 110, 100]⟩ : ByteArray))] W9) := by show Blk _ _ _; rw [← hW9]; exact (Blk.other (Blk.set HEv_w4.out (i := 1) (v := .string (Y.1 ++ (⟨#[50, 53, 48, 32, 97, 110, 100]⟩ : ByteArray))) (show 1 < 2 by decide)) (by omega))
          have HZ9 : Hid (SB w.heap.size sn0 (.slice none 0 0) (.slice none 0 0) (.slice none 0 0) W9) := by show SB _ _ _ _ _ _; rw [← hW9]; exact (Blk.other (Blk.other HZS_w4.out (by omega)) (by omega))
          have HY9 : Hid (Blk (w.heap.size + 1) #[.int .i64 0, .string ⟨#[]⟩] W9) := by show Blk _ _ _; rw [← hW9]; exact (Blk.other (Blk.other HZE_w4.out (by omega)) (by omega))
          have HV9 : Hid (SV W9 w1.heap.size (.slice y1 s.R.length k1) (.slice y2 s.T.length k2) (.slice y3 s.V.length k3) s) := by show SV _ _ _ _ _ _; rw [← hW9]; exact (HN.out _ _ _ (.inl (by show w2.heap.size ≤ w2.heap.size; omega)) (HN.out _ _ _ (.inl (by show w2.heap.size ≤ w2.heap.size + 1; omega)) HV_w4.out))
          have b9 : Below w.heap.size w W9 := by rw [← hW9]; exact (Below.setCell (Below.setCell b_w4 (by show w.heap.size ≤ w2.heap.size + 1; omega) _) (by show w.heap.size ≤ w2.heap.size; omega) _)
          clear hW9 HSb_w4 HEv_w4 HZS_w4 HZE_w4 HV_w4 b_w4
          clear t0 t1 t2 t3 t4 t5 t6 t7 t8 tf0 tf1 tf2 tf3 tf4 tf5 tf6 tf7 tf8 v0 v1 vf0 vf1
          have t0 : W9.cell? ⟨w2.heap.size, 0, none⟩ = some (.int .i64 s.ph) := HS9.out.cell 0
          have t1 : W9.cell? ⟨w2.heap.size, 1, none⟩ = some (.string s.buf) := HS9.out.cell 1
          have t2 : W9.cell? ⟨w2.heap.size, 2, none⟩ = some (.string s.he) := HS9.out.cell 2
          have t3 : W9.cell? ⟨w2.heap.size, 3, none⟩ = some (.string s.fr) := HS9.out.cell 3
          have t4 : W9.cell? ⟨w2.heap.size, 4, none⟩ = some (.string s.bo) := HS9.out.cell 4
          have t5 : W9.cell? ⟨w2.heap.size, 5, none⟩ = some (.slice y1 s.R.length k1) := HS9.out.cell 5
          have t6 : W9.cell? ⟨w2.heap.size, 6, none⟩ = some (.int .i64 (-1)) := HS9.out.cell 6
          have t7 : W9.cell? ⟨w2.heap.size, 7, none⟩ = some (.slice y2 s.T.length k2) := HS9.out.cell 7
          have t8 : W9.cell? ⟨w2.heap.size, 8, none⟩ = some (.slice y3 s.V.length k3) := HS9.out.cell 8
          have v0 : W9.cell? ⟨w2.heap.size + 1, 0, none⟩ = some (.int .i64 1) := HE9.out.cell 0
          have v1 : W9.cell? ⟨w2.heap.size + 1, 1, none⟩ = some (.string (Y.1 ++ (⟨#[50, 53, 48, 32, 97, 110, 100]⟩ : ByteArray))) := HE9.out.cell 1
          obtain ⟨r0, r1, r2, r3, r4, r5, r6, r7, r8⟩ := HZ9.out.zero
          obtain ⟨rf0, rf1, rf2, rf3, rf4, rf5, rf6, rf7, rf8⟩ := HZ9.out.frees
          have x0 : W9.cell? ⟨w.heap.size + 1, 0, none⟩ = some (.int .i64 0) := HY9.out.cell 0
          have x1 : W9.cell? ⟨w.heap.size + 1, 1, none⟩ = some (.string ⟨#[]⟩) := HY9.out.cell 1
          have xf0 := HY9.out.free 0
          have xf1 := HY9.out.free 1
          have la : w2.heap.size < W9.heap.size := HS9.out.lt
          have lb : w2.heap.size + 1 < W9.heap.size := HE9.out.lt
          have lc : w.heap.size < W9.heap.size := HZ9.out.lt
          have ld : w.heap.size + 1 < W9.heap.size := HY9.out.lt
          have h1 : w.heap.size < w1.heap.size := by omega
          have h2 : w.heap.size + 1 < w1.heap.size := by omega
          go_region
          all_goals
            go_wp2
            refine bodyPost_ret (v := .tuple #[.agg #[.int .i64 s.ph, .string s.buf, .string s.he, .string s.fr, .string s.bo, .slice y1 s.R.length k1, .int .i64 (-1), .slice y2 s.T.length k2, .slice y3 s.V.length k3], .agg #[.int .i64 1, .string (Y.1 ++ (⟨#[50, 53, 48, 32, 97, 110, 100]⟩ : ByteArray))]]) (by simp [results, Tryz.results16, go_sem, r0, r1, r2, r3, r4, r5, r6, r7, r8, x0, x1]) rfl ?_
            rw [HDD.out, HXn.out, HdS.out]
            refine ⟨⟨_, _, _, rfl, ?_⟩, ?_⟩
            · exact SV.le (SV.drewX (HN.out _ _ _ (.inr h2) (HN.out _ _ _ (.inr h2) (SV.nine HV9.out h1 _ _ _ _ _ _ _ _ _)))) (Nat.le_of_lt h1)
            · exact Below.drew (Below.setCell (Below.setCell (below_nine b9 (Nat.le_refl _) _ _ _ _ _ _ _ _ _) (Nat.le_succ _) _) (Nat.le_succ _) _)
        · have h31i : ¬ (c : Int) % 31 = 30 := by omega
          have HXn : Hid (drX B = (s.nx : Int)) := by show drX B = _; unfold drX; rw [HC.out, if_neg h31, HdS.out]
          go_wp2_with fail
          generalize hW9 : World.setCell _ _ _ = W9
          have HS9 : Hid (Blk w2.heap.size #[.int .i64 s.ph, .string s.buf, .string s.he, .string s.fr, .string s.bo, .slice y1 s.R.length k1, .int .i64 (s.nx : Int), .slice y2 s.T.length k2, .slice y3 s.V.length k3] W9) := by show Blk _ _ _; rw [← hW9]; exact (Blk.other HSb_w4.out (by omega))
          have HE9 : Hid (Blk (w2.heap.size + 1) #[.int .i64 1, .string (Y.1 ++ (⟨#[50, 53, 48, 32, 97, 110, 100]⟩ : ByteArray))] W9) := by show Blk _ _ _; rw [← hW9]; exact (Blk.set HEv_w4.out (i := 1) (v := .string (Y.1 ++ (⟨#[50, 53, 48, 32, 97, 110, 100]⟩ : ByteArray))) (show 1 < 2 by decide))
          have HZ9 : Hid (SB w.heap.size sn0 (.slice none 0 0) (.slice none 0 0) (.slice none 0 0) W9) := by show SB _ _ _ _ _ _; rw [← hW9]; exact (Blk.other HZS_w4.out (by omega))
          have HY9 : Hid (Blk (w.heap.size + 1) #[.int .i64 0, .string ⟨#[]⟩] W9) := by show Blk _ _ _; rw [← hW9]; exact (Blk.other HZE_w4.out (by omega))
          have HV9 : Hid (SV W9 w1.heap.size (.slice y1 s.R.length k1) (.slice y2 s.T.length k2) (.slice y3 s.V.length k3) s) := by show SV _ _ _ _ _ _; rw [← hW9]; exact (HN.out _ _ _ (.inl (by show w2.heap.size ≤ w2.heap.size + 1; omega)) HV_w4.out)
          have b9 : Below w.heap.size w W9 := by rw [← hW9]; exact (Below.setCell b_w4 (by show w.heap.size ≤ w2.heap.size + 1; omega) _)
          clear hW9 HSb_w4 HEv_w4 HZS_w4 HZE_w4 HV_w4 b_w4
          clear t0 t1 t2 t3 t4 t5 t6 t7 t8 tf0 tf1 tf2 tf3 tf4 tf5 tf6 tf7 tf8 v0 v1 vf0 vf1
          have t0 : W9.cell? ⟨w2.heap.size, 0, none⟩ = some (.int .i64 s.ph) := HS9.out.cell 0
          have t1 : W9.cell? ⟨w2.heap.size, 1, none⟩ = some (.string s.buf) := HS9.out.cell 1
          have t2 : W9.cell? ⟨w2.heap.size, 2, none⟩ = some (.string s.he) := HS9.out.cell 2
          have t3 : W9.cell? ⟨w2.heap.size, 3, none⟩ = some (.string s.fr) := HS9.out.cell 3
          have t4 : W9.cell? ⟨w2.heap.size, 4, none⟩ = some (.string s.bo) := HS9.out.cell 4
          have t5 : W9.cell? ⟨w2.heap.size, 5, none⟩ = some (.slice y1 s.R.length k1) := HS9.out.cell 5
          have t6 : W9.cell? ⟨w2.heap.size, 6, none⟩ = some (.int .i64 (s.nx : Int)) := HS9.out.cell 6
          have t7 : W9.cell? ⟨w2.heap.size, 7, none⟩ = some (.slice y2 s.T.length k2) := HS9.out.cell 7
          have t8 : W9.cell? ⟨w2.heap.size, 8, none⟩ = some (.slice y3 s.V.length k3) := HS9.out.cell 8
          have v0 : W9.cell? ⟨w2.heap.size + 1, 0, none⟩ = some (.int .i64 1) := HE9.out.cell 0
          have v1 : W9.cell? ⟨w2.heap.size + 1, 1, none⟩ = some (.string (Y.1 ++ (⟨#[50, 53, 48, 32, 97, 110, 100]⟩ : ByteArray))) := HE9.out.cell 1
          obtain ⟨r0, r1, r2, r3, r4, r5, r6, r7, r8⟩ := HZ9.out.zero
          obtain ⟨rf0, rf1, rf2, rf3, rf4, rf5, rf6, rf7, rf8⟩ := HZ9.out.frees
          have x0 : W9.cell? ⟨w.heap.size + 1, 0, none⟩ = some (.int .i64 0) := HY9.out.cell 0
          have x1 : W9.cell? ⟨w.heap.size + 1, 1, none⟩ = some (.string ⟨#[]⟩) := HY9.out.cell 1
          have xf0 := HY9.out.free 0
          have xf1 := HY9.out.free 1
          have la : w2.heap.size < W9.heap.size := HS9.out.lt
          have lb : w2.heap.size + 1 < W9.heap.size := HE9.out.lt
          have lc : w.heap.size < W9.heap.size := HZ9.out.lt
          have ld : w.heap.size + 1 < W9.heap.size := HY9.out.lt
          have h1 : w.heap.size < w1.heap.size := by omega
          have h2 : w.heap.size + 1 < w1.heap.size := by omega
          go_region
          all_goals
            go_wp2
            refine bodyPost_ret (v := .tuple #[.agg #[.int .i64 s.ph, .string s.buf, .string s.he, .string s.fr, .string s.bo, .slice y1 s.R.length k1, .int .i64 (s.nx : Int), .slice y2 s.T.length k2, .slice y3 s.V.length k3], .agg #[.int .i64 1, .string (Y.1 ++ (⟨#[50, 53, 48, 32, 97, 110, 100]⟩ : ByteArray))]]) (by simp [results, Tryz.results16, go_sem, r0, r1, r2, r3, r4, r5, r6, r7, r8, x0, x1]) rfl ?_
            rw [HDD.out, HXn.out, HdS.out]
            refine ⟨⟨_, _, _, rfl, ?_⟩, ?_⟩
            · exact SV.le (SV.drewX (HN.out _ _ _ (.inr h2) (HN.out _ _ _ (.inr h2) (SV.nine HV9.out h1 _ _ _ _ _ _ _ _ _)))) (Nat.le_of_lt h1)
            · exact Below.drew (Below.setCell (Below.setCell (below_nine b9 (Nat.le_refl _) _ _ _ _ _ _ _ _ _) (Nat.le_succ _) _) (Nat.le_succ _) _)
end Go.Proofs.YtngcjlghjidnjaaGreatDoor
namespace Go.Proofs.YtngcjlghjidnjaaGreatDoor
open Go.ChangeShapes Go.WideShapes Go.ChangeAt Go.RowKit
attribute [local go_sem ↓] Go.wp_at_zero Go.wp_at_succ

open Pcs
theorem ext_parts (d : ByteArray) (k : Nat) : d.extract 0 k ++ d.extract k d.size = d := by
  have h1 : d.size = d.data.toList.length := by rw [Array.length_toList]; rfl
  apply ByteArray.ext
  apply Array.ext'
  rw [cat_list, ByteArray.data_extract, ByteArray.data_extract, Array.toList_extract, Array.toList_extract, List.extract_eq_take_drop, List.extract_eq_take_drop, h1, List.drop_zero, Nat.sub_zero, List.take_of_length_le (i := _ - _) (by simp only [List.length_drop]; omega)]
  exact List.take_append_drop _ _
/-- all at once, or in two parts -/
theorem chunk_pure (ph nx : Int) (buf he fr bo : ByteArray) (R : List ByteArray) (T : List Bool) (V : List Vd) (d : ByteArray) (k : Nat) (hz : buf.size + d.size ≤ 40000) :
    feedN ph nx buf he fr bo R T V 1 d = ((feedS (feedN ph nx buf he fr bo R T V 1 (d.extract 0 k)).1 1 (d.extract k d.size)).1, (feedN ph nx buf he fr bo R T V 1 (d.extract 0 k)).2 ++ (feedS (feedN ph nx buf he fr bo R T V 1 (d.extract 0 k)).1 1 (d.extract k d.size)).2) := by
  cases hp : properN ph nx buf he fr bo R T V with
  | false =>
    have e : ∀ x, feedN ph nx buf he fr bo R T V 1 x = (snDone, ⟨#[]⟩) := fun x => by unfold feedN; rw [hp]; rfl
    have e2 : ∀ x, feedS snDone 1 x = (snDone, ⟨#[]⟩) := fun x => by
      unfold feedS feedN
      rw [proper_head (by rintro ⟨_, _, _, h, _⟩; exact absurd h (by decide))]
      rfl
    rw [e, e]
    dsimp only
    rw [e2]
    rfl
  | true =>
    obtain ⟨n, rfl, _⟩ := ok_of hp
    have hPr : Sn.Pr ⟨ph, buf, he, fr, bo, R, n, T, V⟩ := hp
    have e : ∀ x, feedN ph (n : Int) buf he fr bo R T V 1 x = Sn.feed ⟨ph, buf, he, fr, bo, R, n, T, V⟩ true 1 x := fun x => by unfold feedN; rw [hp]; rfl
    have e2 : ∀ (s : Sn), s.Pr → ∀ x, feedS s 1 x = s.feed true 1 x := fun s h x => by
      unfold feedS feedN
      rw [show properN s.ph (s.nx : Int) s.buf s.he s.fr s.bo s.R s.T s.V = true from h]
      rfl
    have hd : (d.extract 0 k).size + (d.extract k d.size).size = d.size := by rw [← ByteArray.size_append, ext_parts d k]
    rw [e, e, e2 _ (feed_pr hPr 1 _)]
    have := feed_parts hPr (d.extract 0 k) (d.extract k d.size) (by show buf.size + _ ≤ _; omega)
    rw [ext_parts d k] at this
    exact this
theorem feedN_said (ph nx : Int) (buf he fr bo : ByteArray) (R : List ByteArray) (T : List Bool) (V : List Vd) (kind : Int) (d : ByteArray) : (feedN ph nx buf he fr bo R T V kind d).2.size ≤ 800000000 := by
  unfold feedN
  cases hp : properN ph nx buf he fr bo R T V with
  | false => exact Nat.zero_le _
  | true =>
    obtain ⟨n, rfl, hk⟩ := ok_of hp
    show (Sn.feed ⟨ph, buf, he, fr, bo, R, n, T, V⟩ true kind d).2.size ≤ _
    unfold Sn.feed
    rw [if_neg (by decide)]
    split
    · exact Nat.zero_le _
    · split
      · exact Nat.zero_le _
      · split
        · exact Nat.zero_le _
        · split
          · exact Nat.zero_le _
          · rename_i hz
            dsimp only at hz
            have hb : (buf ++ d).size = buf.size + d.size := ByteArray.size_append
            have := rep_size (buf.size + d.size + 1) { (⟨ph, buf, he, fr, bo, R, n, T, V⟩ : Sn) with buf := buf ++ d } ⟨hk.p1, hk.p9, hk.t, hk.v, hk.r1, hk.r20, hk.n, hk.n5, hk.he, hk.fr, hk.bo, hk.rs, by show (buf ++ d).size ≤ _; omega⟩
            refine Nat.le_trans this ?_
            show 20000 * (buf ++ d).size ≤ _
            omega
/-- a drawn session and a drawn event -/
theorem drawnX (cv : Value) (B : List UInt8) : ∃ (ph nx : Int) (buf he fr bo : ByteArray) (R : List ByteArray) (T : List Bool) (V : List Vd) (kind : Int) (d : ByteArray), (∀ wx : World, CodeAt wx cv B → Calls Tryz.prog 16 #[cv] wx fun e w' => (∃ n1 l1 n2 l2 n3 l3, e = .returned (.tuple #[.agg #[.int .i64 ph, .string buf, .string he, .string fr, .string bo, .slice n1 R.length l1, .int .i64 nx, .slice n2 T.length l2, .slice n3 V.length l3], .agg #[.int .i64 kind, .string d]]) ∧ SV w' wx.heap.size (.slice n1 R.length l1) (.slice n2 T.length l2) (.slice n3 V.length l3) ⟨ph, buf, he, fr, bo, R, 0, T, V⟩) ∧ Below wx.heap.size wx w') ∧ Small9 buf he fr bo R T V ∧ buf.size ≤ 40000 ∧ d.size ≤ 40001 := by
  have hs := (sesF_fine B (px B 0)).small
  have hz := drwD_size B (nx B 0) (sesF B (px B 0)).1 (sesF B (px B 0)).2 hs.2.1
  refine ⟨(drS B).ph, drX B, (drD B).1, (drS B).he, (drS B).fr, (drS B).bo, (drS B).R, (drS B).T, (drS B).V, (drD B).2.1, (drD B).2.2, ?_, ?_, hz.1, hz.2⟩
  · intro wx hC
    refine (drawFeedX cv B wx hC).mono ?_
    rintro e w' ⟨⟨u1, u2, u3, rfl, S⟩, hb⟩
    obtain ⟨n1, l1, e1⟩ := strs_form2 S.1
    obtain ⟨n2, l2, e2⟩ := bls_form S.2.1
    obtain ⟨n3, l3, e3⟩ := vds_formD S.2.2
    subst e1 e2 e3
    exact ⟨⟨_, _, _, _, _, _, rfl, S⟩, hb⟩
  · obtain ⟨_, h2, h3, h4, h5, h6, h7, h8, h9⟩ := hs.1
    exact ⟨by have : (drD B).1.size ≤ 40000 := hz.1; omega, h2, h3, h4, h5, h6, h7, h8, h9⟩
end Go.Proofs.YtngcjlghjidnjaaGreatDoor
namespace Go.Proofs.YtngcjlghjidnjaaGreatDoor
open Go.ChangeShapes Go.WideShapes Go.ChangeAt Go.RowKit
attribute [local go_sem ↓] Go.wp_at_zero Go.wp_at_succ

/-- a session that a Feed has answered with, in a variable of the law's -/
def FRc (N B : Nat) (Q : Sn) (u1 u2 u3 : Value) (w0 w : World) : Prop := N ≤ B ∧ SB B Q u1 u2 u3 w ∧ SV w N u1 u2 u3 Q ∧ Below N w0 w
theorem Blk.nineO {a b : Nat} {X : Array Value} {w : World} (h : Blk b X w) (hne : b ≠ a) (x0 x1 x2 x3 x4 x5 x6 x7 x8 : Value) : Blk b X (nine w a x0 x1 x2 x3 x4 x5 x6 x7 x8) :=
  Blk.other (Blk.other (Blk.other (Blk.other (Blk.other (Blk.other (Blk.other (Blk.other (Blk.other h hne) hne) hne) hne) hne) hne) hne) hne) hne
/-- what stands behind the second draw -/
structure ChM (w W2 W4 : World) (S2 : Array Value) (B2 B3 : Nat) (kind : Int) (d : ByteArray) (Q : Sn) (q1 q2 q3 v1 v2 v3 : Value) (s : Sn) (wx : World) : Prop where
  sb : Blk B2 S2 wx
  ev : Blk (B2 + 1) #[.int .i64 kind, .string d] wx
  want : SB B3 Q q1 q2 q3 wx
  wrows : SV wx W2.heap.size q1 q2 q3 Q
  rows : SV wx W4.heap.size v1 v2 v3 s
  bel : Below w.heap.size w wx
  lt : W4.heap.size ≤ wx.heap.size
theorem ext_none (d : ByteArray) : d.extract 0 0 = ByteArray.empty := by apply ByteArray.ext; simp
theorem ext_all (d : ByteArray) : d.extract 0 d.size = d := by apply ByteArray.ext; simp
theorem Blk.drewN {b : Nat} {X : Array Value} {w : World} (h : Blk b X w) (n : Nat) : Blk b X (w.drewN n) := ⟨h.lt, h.cell, h.free⟩
theorem ChM.drewN {w W2 W4 : World} {S2 : Array Value} {B2 B3 : Nat} {kind : Int} {d : ByteArray} {Q : Sn} {q1 q2 q3 v1 v2 v3 : Value} {s : Sn} {wx : World} (h : ChM w W2 W4 S2 B2 B3 kind d Q q1 q2 q3 v1 v2 v3 s wx) (n : Nat) : ChM w W2 W4 S2 B2 B3 kind d Q q1 q2 q3 v1 v2 v3 s (wx.drewN n) :=
  ⟨h.sb.drewN n, h.ev.drewN n, Blk.drewN h.want n, h.wrows, h.rows, bel_drewS h.bel n, h.lt⟩

set_option maxHeartbeats 20000000 in
set_option maxRecDepth 100000 in
theorem chunksLaw (cv : Value) (B : List UInt8) (w : World) (hB : BytesArg w cv B) (hl : LenIn w) (hf : FoldAt w) :
    Calls Tryz.prog 4 #[cv] w fun e w' => e = .returned (.bool true) ∧ Below w.heap.size w w' := by
  have HL : Hid (LenIn w) := hl
  have HFo : Hid (FoldAt w) := hf
  obtain ⟨ca, cc, hcv⟩ : ∃ a c, cv = .slice a B.length c := by
    rcases hB.2 with ⟨rfl, a, c, rfl⟩ | ⟨g, off, cap, rfl, _⟩
    · exact ⟨_, _, rfl⟩
    · exact ⟨_, _, rfl⟩
  have hBm := hB.1
  unfold maxLen at hBm
  clear hl hf
  by_cases hbig : 1048576 < B.length
  · subst hcv
    clear hB
    go_enter Tryz.func4, Tryz.ntmps4
    go_wp2
    go_ret
    exact ⟨rfl, Below.refl _ _⟩
  have HC : Hid (CodeAt w cv B) := ⟨by omega, hB.2⟩
  obtain ⟨ph, nx, buf, he, fr, bo, R, T, V, kind, d, hdr, hsm, hbz, hdz⟩ := drawnX cv B
  have HDr : Hid _ := hdr
  have HSM : Hid (Small9 buf he fr bo R T V) := hsm
  subst hcv
  clear hB hdr hsm
  obtain ⟨Q, hQ⟩ : ∃ Q, feedN ph nx buf he fr bo R T V kind d = Q := ⟨_, rfl⟩
  have HQ : Hid (feedN ph nx buf he fr bo R T V kind d = Q) := hQ
  have HFq : Hid (Fine Q.1) := by show Fine Q.1; rw [← hQ]; exact feedN_fine _ _ _ _ _ _ _ _ _ _ _
  have hqs : Q.2.size ≤ 800000000 := by rw [← hQ]; exact feedN_said _ _ _ _ _ _ _ _ _ _ _
  clear hQ
  have HSp : Hid (∀ (wx : World) (lo : Nat) (x1 x2 x3 : Value), SV wx lo x1 x2 x3 ⟨ph, buf, he, fr, bo, R, 0, T, V⟩ → Calls Tryz.prog 11 #[.agg #[.int .i64 ph, .string buf, .string he, .string fr, .string bo, x1, .int .i64 nx, x2, x3], .agg #[.int .i64 kind, .string d]] wx fun e w' => SQ Q wx e w') := fun wx lo x1 x2 x3 h => by rw [← HQ.out]; exact specFeed ph nx buf he fr bo x1 x2 x3 R T V kind d lo wx h.1 h.2.1 h.2.2 HSM.out (by omega)
  have HIm : Hid (∀ (wx : World) (lo : Nat) (x1 x2 x3 : Value) (kd : Int) (dt : ByteArray), Below w.heap.size w wx → dt.size ≤ 1048576 → SV wx lo x1 x2 x3 ⟨ph, buf, he, fr, bo, R, 0, T, V⟩ → Calls Tryz.prog 10 #[.agg #[.int .i64 ph, .string buf, .string he, .string fr, .string bo, x1, .int .i64 nx, x2, x3], .agg #[.int .i64 kd, .string dt]] wx fun e w' => SQ (feedN ph nx buf he fr bo R T V kd dt) wx e w') := fun wx lo x1 x2 x3 kd dt hb hz h => implFeed ph nx buf he fr bo x1 x2 x3 R T V kd dt lo wx h.1 h.2.1 h.2.2 HSM.out (len_below HL.out hb) (HFo.out.below hb) hz
  go_enter Tryz.func4, Tryz.ntmps4
  go_wp2_with fail
  refine (HDr.out w HC.out).mono ?_
  rintro e w1 ⟨⟨a5, c5, a7, c7, a8, c8, rfl, r1⟩, hb1⟩
  have HR1 : Hid (SV w1 w.heap.size (.slice a5 R.length c5) (.slice a7 T.length c7) (.slice a8 V.length c8) ⟨ph, buf, he, fr, bo, R, 0, T, V⟩) := r1
  have z1 := hb1.size
  clear r1
  go_wp2_with fail
  generalize hW2 : World.alloc _ _ = W2
  have hA2 : Hid (Blk (w1.heap.size) #[.int .i64 ph, .string buf, .string he, .string fr, .string bo, .slice a5 R.length c5, .int .i64 nx, .slice a7 T.length c7, .slice a8 V.length c8] W2) := by show Blk _ _ _; rw [← hW2]; exact (blk2 w1 _ _ _ _).1
  have hE2 : Hid (Blk (w1.heap.size + 1) #[.int .i64 kind, .string d] W2) := by show Blk _ _ _; rw [← hW2]; exact (blk2 w1 _ _ _ _).2
  have b12 : Below w1.heap.size w1 W2 := by rw [← hW2]; exact below2 _ _ _
  have b2 : Below w.heap.size w W2 := hb1.trans (b12.mono hb1.size)
  have z2 : w1.heap.size + 2 ≤ W2.heap.size := by rw [← hW2]; simp
  clear hW2
  refine (HSp.out W2 w.heap.size _ _ _ (HR1.out.below b12 (Nat.le_refl _))).mono ?_
  rintro e w3 ⟨⟨f1, f2, f3, rfl, S3⟩, hb3⟩
  obtain ⟨n1, l1, e1⟩ := strs_form2 S3.1
  obtain ⟨n2, l2, e2⟩ := bls_form S3.2.1
  obtain ⟨n3, l3, e3⟩ := vds_formD S3.2.2
  subst e1 e2 e3
  have HS3 : Hid (SV w3 W2.heap.size (.slice n1 Q.1.R.length l1) (.slice n2 Q.1.T.length l2) (.slice n3 Q.1.V.length l3) Q.1) := S3
  have hA3 : Hid (Blk (w1.heap.size) #[.int .i64 ph, .string buf, .string he, .string fr, .string bo, .slice a5 R.length c5, .int .i64 nx, .slice a7 T.length c7, .slice a8 V.length c8] w3) := Blk.below hA2.out hb3
  have hE3 : Hid (Blk (w1.heap.size + 1) #[.int .i64 kind, .string d] w3) := Blk.below hE2.out hb3
  have b3 : Below w.heap.size w w3 := b2.trans (hb3.mono b2.size)
  have z3 := hb3.size
  clear S3 hb3 hA2 hE2 b12 b2 HR1 hb1
  go_wp2_with fail
  generalize hW4 : World.alloc _ _ = W4
  have hb4 : Below w3.heap.size w3 W4 := by rw [← hW4]; exact below1 _ _
  have HW4 : Hid (SB w3.heap.size Q.1 (.slice n1 Q.1.R.length l1) (.slice n2 Q.1.T.length l2) (.slice n3 Q.1.V.length l3) W4) := by show SB _ _ _ _ _ _; rw [← hW4]; exact Blk.new w3 _ _
  have HS4 : Hid (SV W4 W2.heap.size (.slice n1 Q.1.R.length l1) (.slice n2 Q.1.T.length l2) (.slice n3 Q.1.V.length l3) Q.1) := HS3.out.below hb4 (Nat.le_refl _)
  have hA4 : Hid (Blk (w1.heap.size) #[.int .i64 ph, .string buf, .string he, .string fr, .string bo, .slice a5 R.length c5, .int .i64 nx, .slice a7 T.length c7, .slice a8 V.length c8] W4) := Blk.below hA3.out hb4
  have hE4 : Hid (Blk (w1.heap.size + 1) #[.int .i64 kind, .string d] W4) := Blk.below hE3.out hb4
  have b4 : Below w.heap.size w W4 := b3.trans (hb4.mono b3.size)
  have z4 := hb4.size
  clear hW4 hb4 HS3 hA3 hE3 b3
  refine (HDr.out W4 (HC.out.below b4)).mono ?_
  rintro e w5 ⟨⟨m5, o5, m7, o7, m8, o8, rfl, r5⟩, hb5⟩
  have HR5 : Hid (SV w5 W4.heap.size (.slice m5 R.length o5) (.slice m7 T.length o7) (.slice m8 V.length o8) ⟨ph, buf, he, fr, bo, R, 0, T, V⟩) := r5
  have HW5 : Hid (SB w3.heap.size Q.1 (.slice n1 Q.1.R.length l1) (.slice n2 Q.1.T.length l2) (.slice n3 Q.1.V.length l3) w5) := SB.below HW4.out hb5
  have HS5 : Hid (SV w5 W2.heap.size (.slice n1 Q.1.R.length l1) (.slice n2 Q.1.T.length l2) (.slice n3 Q.1.V.length l3) Q.1) := HS4.out.below hb5 (Nat.le_refl _)
  have hA5 : Hid (Blk (w1.heap.size) #[.int .i64 ph, .string buf, .string he, .string fr, .string bo, .slice a5 R.length c5, .int .i64 nx, .slice a7 T.length c7, .slice a8 V.length c8] w5) := Blk.below hA4.out hb5
  have hE5 : Hid (Blk (w1.heap.size + 1) #[.int .i64 kind, .string d] w5) := Blk.below hE4.out hb5
  have b5 : Below w.heap.size w w5 := b4.trans (hb5.mono b4.size)
  have z5 := hb5.size
  clear r5 hb5 HW4 HS4 hA4 hE4 b4
  obtain ⟨t0, t1, t2, t3, t4, t5, t6, t7, t8⟩ : w5.cell? ⟨w1.heap.size, 0, none⟩ = some (.int .i64 ph) ∧ w5.cell? ⟨w1.heap.size, 1, none⟩ = some (.string buf) ∧ w5.cell? ⟨w1.heap.size, 2, none⟩ = some (.string he) ∧ w5.cell? ⟨w1.heap.size, 3, none⟩ = some (.string fr) ∧ w5.cell? ⟨w1.heap.size, 4, none⟩ = some (.string bo) ∧ w5.cell? ⟨w1.heap.size, 5, none⟩ = some (.slice a5 R.length c5) ∧ w5.cell? ⟨w1.heap.size, 6, none⟩ = some (.int .i64 nx) ∧ w5.cell? ⟨w1.heap.size, 7, none⟩ = some (.slice a7 T.length c7) ∧ w5.cell? ⟨w1.heap.size, 8, none⟩ = some (.slice a8 V.length c8) := ⟨hA5.out.cell 0, hA5.out.cell 1, hA5.out.cell 2, hA5.out.cell 3, hA5.out.cell 4, hA5.out.cell 5, hA5.out.cell 6, hA5.out.cell 7, hA5.out.cell 8⟩
  obtain ⟨tf0, tf1, tf2, tf3, tf4, tf5, tf6, tf7, tf8⟩ : w5.frozen? ⟨w1.heap.size, 0, none⟩ = false ∧ w5.frozen? ⟨w1.heap.size, 1, none⟩ = false ∧ w5.frozen? ⟨w1.heap.size, 2, none⟩ = false ∧ w5.frozen? ⟨w1.heap.size, 3, none⟩ = false ∧ w5.frozen? ⟨w1.heap.size, 4, none⟩ = false ∧ w5.frozen? ⟨w1.heap.size, 5, none⟩ = false ∧ w5.frozen? ⟨w1.heap.size, 6, none⟩ = false ∧ w5.frozen? ⟨w1.heap.size, 7, none⟩ = false ∧ w5.frozen? ⟨w1.heap.size, 8, none⟩ = false := ⟨hA5.out.free 0, hA5.out.free 1, hA5.out.free 2, hA5.out.free 3, hA5.out.free 4, hA5.out.free 5, hA5.out.free 6, hA5.out.free 7, hA5.out.free 8⟩
  have v0 : w5.cell? ⟨w1.heap.size + 1, 0, none⟩ = some (.int .i64 kind) := hE5.out.cell 0
  have v1 : w5.cell? ⟨w1.heap.size + 1, 1, none⟩ = some (.string d) := hE5.out.cell 1
  have vf0 : w5.frozen? ⟨w1.heap.size + 1, 0, none⟩ = false := hE5.out.free 0
  have vf1 : w5.frozen? ⟨w1.heap.size + 1, 1, none⟩ = false := hE5.out.free 1
  have la : w1.heap.size < w5.heap.size := hA5.out.lt
  have lb : w1.heap.size + 1 < w5.heap.size := hE5.out.lt
  go_upto_region 6 with fail
  generalize hW6 : World.setCell _ _ _ = W6
  have M6 : ChM w W2 W4 #[.int .i64 ph, .string buf, .string he, .string fr, .string bo, .slice m5 R.length o5, .int .i64 nx, .slice m7 T.length o7, .slice m8 V.length o8] (w1.heap.size) w3.heap.size kind d Q.1 (.slice n1 Q.1.R.length l1) (.slice n2 Q.1.T.length l2) (.slice n3 Q.1.V.length l3) (.slice m5 R.length o5) (.slice m7 T.length o7) (.slice m8 V.length o8) ⟨ph, buf, he, fr, bo, R, 0, T, V⟩ W6 := by
    rw [← hW6]
    exact ⟨Blk.other (Blk.other (blk_nine hA5.out _ _ _ _ _ _ _ _ _) (by omega)) (by omega), Blk.set (Blk.set (Blk.nineO hE5.out (by omega) _ _ _ _ _ _ _ _ _) (i := 0) (v := .int .i64 kind) (show 0 < 2 by decide)) (i := 1) (v := .string d) (show 1 < 2 by decide), Blk.other (Blk.other (Blk.nineO HW5.out (by omega) _ _ _ _ _ _ _ _ _) (by omega)) (by omega), SV.set (SV.set (HS5.out.nine (by omega) _ _ _ _ _ _ _ _ _) (by show w1.heap.size + 1 < _; omega) _) (by show w1.heap.size + 1 < _; omega) _, SV.set (SV.set (HR5.out.nine (by omega) _ _ _ _ _ _ _ _ _) (by show w1.heap.size + 1 < _; omega) _) (by show w1.heap.size + 1 < _; omega) _, Below.setCell (Below.setCell (below_nine b5 (by omega) _ _ _ _ _ _ _ _ _) (by show w.heap.size ≤ w1.heap.size + 1; omega) _) (by show w.heap.size ≤ w1.heap.size + 1; omega) _, by simp; omega⟩
  have HM : Hid _ := M6
  clear hW6 M6 hA5 hE5 HW5 HS5 HR5 b5 t0 t1 t2 t3 t4 t5 t6 t7 t8 tf0 tf1 tf2 tf3 tf4 tf5 tf6 tf7 tf8 v0 v1 vf0 vf1 la lb
  have v0 : W6.cell? ⟨w1.heap.size + 1, 0, none⟩ = some (.int .i64 kind) := HM.out.ev.cell 0
  have v1 : W6.cell? ⟨w1.heap.size + 1, 1, none⟩ = some (.string d) := HM.out.ev.cell 1
  obtain ⟨t0, t1, t2, t3, t4, t5, t6, t7, t8⟩ : W6.cell? ⟨w1.heap.size, 0, none⟩ = some (.int .i64 ph) ∧ W6.cell? ⟨w1.heap.size, 1, none⟩ = some (.string buf) ∧ W6.cell? ⟨w1.heap.size, 2, none⟩ = some (.string he) ∧ W6.cell? ⟨w1.heap.size, 3, none⟩ = some (.string fr) ∧ W6.cell? ⟨w1.heap.size, 4, none⟩ = some (.string bo) ∧ W6.cell? ⟨w1.heap.size, 5, none⟩ = some (.slice m5 R.length o5) ∧ W6.cell? ⟨w1.heap.size, 6, none⟩ = some (.int .i64 nx) ∧ W6.cell? ⟨w1.heap.size, 7, none⟩ = some (.slice m7 T.length o7) ∧ W6.cell? ⟨w1.heap.size, 8, none⟩ = some (.slice m8 V.length o8) := ⟨HM.out.sb.cell 0, HM.out.sb.cell 1, HM.out.sb.cell 2, HM.out.sb.cell 3, HM.out.sb.cell 4, HM.out.sb.cell 5, HM.out.sb.cell 6, HM.out.sb.cell 7, HM.out.sb.cell 8⟩
  by_cases hk1 : kind = 1
  · subst hk1
    by_cases hbp : 0 < B.length ∧ 0 < d.size
    · obtain ⟨hb0, hd0⟩ := hbp
      have hb0i : (0 : Int) < B.length := by omega
      have hd0i : (0 : Int) < d.size := by omega
      obtain ⟨g, off, j, y, rfl, hj, hy, cy, hgl⟩ : ∃ g off j y : Nat, ca = some ⟨g, off, none⟩ ∧ B.length = j + 1 ∧ y < 256 ∧ W6.cell? ⟨g, off + j, none⟩ = some (.int .u8 (y : Int)) ∧ g < W6.heap.size := by
        rcases (HC.out.below HM.out.bel).2 with ⟨e, _⟩ | ⟨g, off, cap, e, hlt, hc⟩
        · rw [e] at hb0; exact absurd hb0 (by simp)
        · injection e with e1 e2 e3
          exact ⟨g, off, B.length - 1, _, e1, by omega, UInt8.toNat_lt _, hc (B.length - 1) (by omega), hlt⟩
      have hj1 : (B.length : Int) - 1 = (j : Int) := by omega
      have hj2 : (j : Int) < B.length := by omega
      have hj3 : j < B.length := by omega
      clear hj
      obtain ⟨k, hk0, hkd⟩ : ∃ k : Nat, (y : Int) % ((d.size : Int) + 1) = (k : Int) ∧ k ≤ d.size := ⟨y % (d.size + 1), rfl, by have := Nat.mod_lt y (show 0 < d.size + 1 by omega); omega⟩
      have hkdi : (k : Int) ≤ d.size := by omega
      by_cases hz : buf.size + d.size ≤ 40000
      · go_wp2_with fail
        go_quiet (fail)
        go_upto_region 12 with fail
        generalize hW7 : World.drewN _ _ = W7
        rw [hk0]
        clear hk0
        have HM7 : Hid (ChM w W2 W4 #[.int .i64 ph, .string buf, .string he, .string fr, .string bo, .slice m5 R.length o5, .int .i64 nx, .slice m7 T.length o7, .slice m8 V.length o8] (w1.heap.size) w3.heap.size 1 d Q.1 (.slice n1 Q.1.R.length l1) (.slice n2 Q.1.T.length l2) (.slice n3 Q.1.V.length l3) (.slice m5 R.length o5) (.slice m7 T.length o7) (.slice m8 V.length o8) ⟨ph, buf, he, fr, bo, R, 0, T, V⟩ W7) := by show ChM _ _ _ _ _ _ _ _ _ _ _ _ _ _ _ _ _; rw [← hW7]; exact ChM.drewN HM.out _
        clear hW7 t0 t1 t2 t3 t4 t5 t6 t7 t8 v0 v1
        have v1 : W7.cell? ⟨w1.heap.size + 1, 1, none⟩ = some (.string d) := HM7.out.ev.cell 1
        obtain ⟨t0, t1, t2, t3, t4, t5, t6, t7, t8⟩ : W7.cell? ⟨w1.heap.size, 0, none⟩ = some (.int .i64 ph) ∧ W7.cell? ⟨w1.heap.size, 1, none⟩ = some (.string buf) ∧ W7.cell? ⟨w1.heap.size, 2, none⟩ = some (.string he) ∧ W7.cell? ⟨w1.heap.size, 3, none⟩ = some (.string fr) ∧ W7.cell? ⟨w1.heap.size, 4, none⟩ = some (.string bo) ∧ W7.cell? ⟨w1.heap.size, 5, none⟩ = some (.slice m5 R.length o5) ∧ W7.cell? ⟨w1.heap.size, 6, none⟩ = some (.int .i64 nx) ∧ W7.cell? ⟨w1.heap.size, 7, none⟩ = some (.slice m7 T.length o7) ∧ W7.cell? ⟨w1.heap.size, 8, none⟩ = some (.slice m8 V.length o8) := ⟨HM7.out.sb.cell 0, HM7.out.sb.cell 1, HM7.out.sb.cell 2, HM7.out.sb.cell 3, HM7.out.sb.cell 4, HM7.out.sb.cell 5, HM7.out.sb.cell 6, HM7.out.sb.cell 7, HM7.out.sb.cell 8⟩
        obtain ⟨Q1, hQ1⟩ : ∃ Q1, feedN ph nx buf he fr bo R T V 1 (d.extract 0 k) = Q1 := ⟨_, rfl⟩
        obtain ⟨Q2, hQ2⟩ : ∃ Q2, feedS Q1.1 1 (d.extract k d.size) = Q2 := ⟨_, rfl⟩
        have hpure := chunk_pure ph nx buf he fr bo R T V d k hz
        rw [HQ.out, hQ1, hQ2] at hpure
        have HF1 : Hid (Fine Q1.1) := by show Fine Q1.1; rw [← hQ1]; exact feedN_fine _ _ _ _ _ _ _ _ _ _ _
        have HPu : Hid (Q2.1 = Q.1 ∧ Q1.2 ++ Q2.2 = Q.2) := by show _ ∧ _; rw [hpure]; exact ⟨rfl, rfl⟩
        have hs1 : Q1.2.size ≤ 800000000 := by rw [← hQ1]; exact feedN_said _ _ _ _ _ _ _ _ _ _ _
        have hs2 : Q2.2.size ≤ 800000000 := by rw [← hQ2]; exact feedN_said _ _ _ _ _ _ _ _ _ _ _
        have HC1 : Hid (∀ wx : World, Below W7.heap.size W7 wx → Calls Tryz.prog 10 #[.agg #[.int .i64 ph, .string buf, .string he, .string fr, .string bo, .slice m5 R.length o5, .int .i64 nx, .slice m7 T.length o7, .slice m8 V.length o8], .agg #[.int .i64 1, .string (d.extract 0 k)]] wx fun e w' => SQ Q1 wx e w') := fun wx hx => by
          rw [← hQ1]
          exact HIm.out wx W4.heap.size _ _ _ 1 (d.extract 0 k) (HM7.out.bel.trans (hx.mono HM7.out.bel.size)) (by rw [ByteArray.size_extract]; omega) (HM7.out.rows.below hx (Nat.le_refl _))
        have HQ2 : Hid (feedS Q1.1 1 (d.extract k d.size) = Q2) := hQ2
        clear hpure hQ1 hQ2
        have hzi : ¬ (40000 : Int) < (buf.size : Int) + (d.size : Int) := by omega
        go_upto_region 14 with fail
        have HSk : Hid (Blk (w1.heap.size) #[.int .i64 ph, .string buf, .string he, .string fr, .string bo, .slice m5 R.length o5, .int .i64 nx, .slice m7 T.length o7, .slice m8 V.length o8] W7) := HM7.out.sb
        have HEk : Hid (Blk (w1.heap.size + 1) #[.int .i64 1, .string d] W7) := HM7.out.ev
        go_cut [10, 11] (fun pv xv wx => ∃ B u1 u2 u3, pv = .pointer (some ⟨B, 0, none⟩) ∧ xv = .string Q1.2 ∧ Hid (FRc W7.heap.size B Q1.1 u1 u2 u3 W7 wx))
        case first =>
          have HBc : Hid (Below W7.heap.size W7 W7) := (Below.refl _ _ : Below _ _ _)
          have zA : w1.heap.size < W7.heap.size := HSk.out.lt
          have zB : w1.heap.size + 1 < W7.heap.size := HEk.out.lt
          go_region_held3 (fun w' => w'.cell? ⟨w1.heap.size, 0, none⟩ = some (.int .i64 ph) ∧ w'.cell? ⟨w1.heap.size, 1, none⟩ = some (.string buf) ∧ w'.cell? ⟨w1.heap.size, 2, none⟩ = some (.string he) ∧ w'.cell? ⟨w1.heap.size, 3, none⟩ = some (.string fr) ∧ w'.cell? ⟨w1.heap.size, 4, none⟩ = some (.string bo) ∧ w'.cell? ⟨w1.heap.size, 5, none⟩ = some (.slice m5 R.length o5) ∧ w'.cell? ⟨w1.heap.size, 6, none⟩ = some (.int .i64 nx) ∧ w'.cell? ⟨w1.heap.size, 7, none⟩ = some (.slice m7 T.length o7) ∧ w'.cell? ⟨w1.heap.size, 8, none⟩ = some (.slice m8 V.length o8) ∧ w'.cell? ⟨w1.heap.size + 1, 1, none⟩ = some (.string d)) (first | (simp only [j0, j1, j2, j3, j4, j5, j6, j7, j8, i1, and_self]; done) | go_keep) (first | (go_at_call 10; refine (HC1.out _ (by repeat (first | exact HBc.out | refine Below.drew ?_ | refine Below.alloc ?_ HBc.out.size _))).mono ?_; rintro e w8 ⟨⟨f1, f2, f3, rfl, S8⟩, hb⟩; obtain ⟨n1, l1, e1⟩ := strs_form2 S8.1; obtain ⟨n2, l2, e2⟩ := bls_form S8.2.1; obtain ⟨n3, l3, e3⟩ := vds_formD S8.2.2; subst e1; subst e2; subst e3; have HOW : ∀ g, ((Value.slice n1 Q1.1.R.length l1).ownBlock = some g ∨ (Value.slice n2 Q1.1.T.length l2).ownBlock = some g ∨ (Value.slice n3 Q1.1.V.length l3).ownBlock = some g) → _ ≤ g := fun g h => h.elim (fun e => (S8.own.1 g e).1) (fun h => h.elim (fun e => (S8.own.2.1 g e).1) (fun e => (S8.own.2.2 g e).1)); (first | (have HAP : Hid (∀ g, ((Value.slice n1 Q1.1.R.length l1).ownBlock = some g ∨ (Value.slice n2 Q1.1.T.length l2).ownBlock = some g ∨ (Value.slice n3 Q1.1.V.length l3).ownBlock = some g) → g ≠ W7.heap.size) := fun g h => (by have hh := HOW g h; simp at hh; omega)) | skip); clear HOW; have HS8 : Hid (SV w8 W7.heap.size (.slice n1 Q1.1.R.length l1) (.slice n2 Q1.1.T.length l2) (.slice n3 Q1.1.V.length l3) Q1.1) := S8.le (Below.size (B := W7.heap.size) (by repeat (first | exact HBc.out | refine Below.drew ?_ | refine Below.alloc ?_ HBc.out.size _))); (first | (have HNz : Hid (W7.heap.size ≤ _ ∧ Blk _ #[.int .i64 0, .string ⟨#[]⟩, .string ⟨#[]⟩, .string ⟨#[]⟩, .string ⟨#[]⟩, .slice none 0 0, .int .i64 0, .slice none 0 0, .slice none 0 0] w8) := ⟨HNz.out.1, Blk.below HNz.out.2 (of_drew hb)⟩) | (have HNz : Hid (W7.heap.size ≤ _ ∧ Blk _ #[.int .i64 0, .string ⟨#[]⟩, .string ⟨#[]⟩, .string ⟨#[]⟩, .string ⟨#[]⟩, .slice none 0 0, .int .i64 0, .slice none 0 0, .slice none 0 0] w8) := ⟨HNz.out.1, Blk.below HNz.out.2 hb⟩) | (have HNz : Hid (W7.heap.size ≤ _ ∧ Blk _ #[.int .i64 0, .string ⟨#[]⟩, .string ⟨#[]⟩, .string ⟨#[]⟩, .string ⟨#[]⟩, .slice none 0 0, .int .i64 0, .slice none 0 0, .slice none 0 0] w8) := ⟨HBc.out.size, Blk.below (Blk.new _ _ _) (of_drew hb)⟩) | (have HNz : Hid (W7.heap.size ≤ _ ∧ Blk _ #[.int .i64 0, .string ⟨#[]⟩, .string ⟨#[]⟩, .string ⟨#[]⟩, .string ⟨#[]⟩, .slice none 0 0, .int .i64 0, .slice none 0 0, .slice none 0 0] w8) := ⟨HBc.out.size, Blk.below (Blk.new _ _ _) hb⟩) | skip); have HBc : Hid (Below W7.heap.size W7 w8) := Below.trans (by repeat (first | exact HBc.out | refine Below.drew ?_ | refine Below.alloc ?_ HBc.out.size _)) (hb.mono (Below.size (B := W7.heap.size) (by repeat (first | exact HBc.out | refine Below.drew ?_ | refine Below.alloc ?_ HBc.out.size _)))); have hAn : Hid (Blk (w1.heap.size) #[.int .i64 ph, .string buf, .string he, .string fr, .string bo, .slice m5 R.length o5, .int .i64 nx, .slice m7 T.length o7, .slice m8 V.length o8] w8) := Blk.below HSk.out HBc.out; have hEn : Hid (Blk (w1.heap.size + 1) #[.int .i64 1, .string d] w8) := Blk.below HEk.out HBc.out; obtain ⟨j0, j1, j2, j3, j4, j5, j6, j7, j8⟩ : w8.cell? ⟨w1.heap.size, 0, none⟩ = some (.int .i64 ph) ∧ w8.cell? ⟨w1.heap.size, 1, none⟩ = some (.string buf) ∧ w8.cell? ⟨w1.heap.size, 2, none⟩ = some (.string he) ∧ w8.cell? ⟨w1.heap.size, 3, none⟩ = some (.string fr) ∧ w8.cell? ⟨w1.heap.size, 4, none⟩ = some (.string bo) ∧ w8.cell? ⟨w1.heap.size, 5, none⟩ = some (.slice m5 R.length o5) ∧ w8.cell? ⟨w1.heap.size, 6, none⟩ = some (.int .i64 nx) ∧ w8.cell? ⟨w1.heap.size, 7, none⟩ = some (.slice m7 T.length o7) ∧ w8.cell? ⟨w1.heap.size, 8, none⟩ = some (.slice m8 V.length o8) := ⟨hAn.out.cell 0, hAn.out.cell 1, hAn.out.cell 2, hAn.out.cell 3, hAn.out.cell 4, hAn.out.cell 5, hAn.out.cell 6, hAn.out.cell 7, hAn.out.cell 8⟩; have i1 : w8.cell? ⟨w1.heap.size + 1, 1, none⟩ = some (.string d) := hEn.out.cell 1; have zAn : w1.heap.size < w8.heap.size := hAn.out.lt; have zBn : w1.heap.size + 1 < w8.heap.size := hEn.out.lt; (try (have h0 : w8.cell? ⟨_, 0, none⟩ = some (.int .i64 0) := HNz.out.2.cell 0; have h1 : w8.cell? ⟨_, 1, none⟩ = some (.string ⟨#[]⟩) := HNz.out.2.cell 1; have h2 : w8.cell? ⟨_, 2, none⟩ = some (.string ⟨#[]⟩) := HNz.out.2.cell 2; have h3 : w8.cell? ⟨_, 3, none⟩ = some (.string ⟨#[]⟩) := HNz.out.2.cell 3; have h4 : w8.cell? ⟨_, 4, none⟩ = some (.string ⟨#[]⟩) := HNz.out.2.cell 4; have h5 : w8.cell? ⟨_, 5, none⟩ = some (.slice none 0 0) := HNz.out.2.cell 5; have h6 : w8.cell? ⟨_, 6, none⟩ = some (.int .i64 0) := HNz.out.2.cell 6; have h7 : w8.cell? ⟨_, 7, none⟩ = some (.slice none 0 0) := HNz.out.2.cell 7; have h8 : w8.cell? ⟨_, 8, none⟩ = some (.slice none 0 0) := HNz.out.2.cell 8; have g0 : w8.frozen? ⟨_, 0, none⟩ = false := HNz.out.2.free 0; have g1 : w8.frozen? ⟨_, 1, none⟩ = false := HNz.out.2.free 1; have g2 : w8.frozen? ⟨_, 2, none⟩ = false := HNz.out.2.free 2; have g3 : w8.frozen? ⟨_, 3, none⟩ = false := HNz.out.2.free 3; have g4 : w8.frozen? ⟨_, 4, none⟩ = false := HNz.out.2.free 4; have g5 : w8.frozen? ⟨_, 5, none⟩ = false := HNz.out.2.free 5; have g6 : w8.frozen? ⟨_, 6, none⟩ = false := HNz.out.2.free 6; have g7 : w8.frozen? ⟨_, 7, none⟩ = false := HNz.out.2.free 7; have g8 : w8.frozen? ⟨_, 8, none⟩ = false := HNz.out.2.free 8; have q1 : ¬ _ = w1.heap.size := Nat.ne_of_gt (Nat.lt_of_lt_of_le zA HNz.out.1); have q2 : ¬ w1.heap.size = _ := Nat.ne_of_lt (Nat.lt_of_lt_of_le zA HNz.out.1); have q3 : ¬ _ = w1.heap.size + 1 := Nat.ne_of_gt (Nat.lt_of_lt_of_le zB HNz.out.1); have q4 : ¬ w1.heap.size + 1 = _ := Nat.ne_of_lt (Nat.lt_of_lt_of_le zB HNz.out.1))); clear S8 hb))
          all_goals
            go_wp2_with fail
            go_meet
            first
              | exact ⟨_, _, _, _, rfl, rfl, ⟨HNz.out.1, blk_nine HNz.out.2 _ _ _ _ _ _ _ _ _, nine_ne HS8.out (fun g hg => HAP.out g (.inl hg)) (fun g hg => HAP.out g (.inr (.inl hg))) (fun g hg => HAP.out g (.inr (.inr hg))) _ _ _ _ _ _ _ _ _, below_nine HBc.out HNz.out.1 _ _ _ _ _ _ _ _ _⟩⟩
              | exact ⟨_, _, _, _, rfl, rfl, ⟨HBc.out.size, Blk.new w8 _ _, HS8.out.below (below1 _ _) (Nat.le_refl _), HBc.out.trans ((below1 _ _).mono HBc.out.size)⟩⟩
        case rest =>
          obtain ⟨B1, p1, p2, p3, rfl, rfl, HG1⟩ := hcut
          obtain ⟨wG, hwG⟩ : ∃ wG : World, wG = wc := ⟨wc, rfl⟩
          subst hwG
          obtain ⟨gB, gSB, gSV, gBw⟩ := HG1.out
          clear HSk HEk HG1 t0 t1 t2 t3 t4 t5 t6 t7 t8 v1
          have HSk : Hid (Blk (B1) #[.int .i64 Q1.1.ph, .string Q1.1.buf, .string Q1.1.he, .string Q1.1.fr, .string Q1.1.bo, p1, .int .i64 (Q1.1.nx : Int), p2, p3] wG) := gSB
          have HEk : Hid (Blk (w1.heap.size + 1) #[.int .i64 1, .string d] wG) := Blk.below HM7.out.ev gBw
          have HGs : Hid (SV wG W7.heap.size p1 p2 p3 Q1.1) := gSV
          have bG : Below w.heap.size w wG := HM7.out.bel.trans (gBw.mono HM7.out.bel.size)
          have HGw : Hid (Below W7.heap.size W7 wG) := gBw
          clear gSB gSV gBw
          have HC2 : Hid (∀ wx : World, Below wG.heap.size wG wx → Calls Tryz.prog 10 #[.agg #[.int .i64 Q1.1.ph, .string Q1.1.buf, .string Q1.1.he, .string Q1.1.fr, .string Q1.1.bo, p1, .int .i64 (Q1.1.nx : Int), p2, p3], .agg #[.int .i64 1, .string (d.extract k d.size)]] wx fun e w' => SQ Q2 wx e w') := fun wx hx => by
            rw [← HQ2.out]
            exact implFeed Q1.1.ph (Q1.1.nx : Int) Q1.1.buf Q1.1.he Q1.1.fr Q1.1.bo p1 p2 p3 Q1.1.R Q1.1.T Q1.1.V 1 (d.extract k d.size) W7.heap.size wx (HGs.out.below hx (Nat.le_refl _)).1 (HGs.out.below hx (Nat.le_refl _)).2.1 (HGs.out.below hx (Nat.le_refl _)).2.2 HF1.out.small.1 (len_below HL.out (bG.trans (hx.mono bG.size))) (HFo.out.below (bG.trans (hx.mono bG.size))) (by rw [ByteArray.size_extract]; omega)
          obtain ⟨t0, t1, t2, t3, t4, t5, t6, t7, t8⟩ : wG.cell? ⟨B1, 0, none⟩ = some (.int .i64 Q1.1.ph) ∧ wG.cell? ⟨B1, 1, none⟩ = some (.string Q1.1.buf) ∧ wG.cell? ⟨B1, 2, none⟩ = some (.string Q1.1.he) ∧ wG.cell? ⟨B1, 3, none⟩ = some (.string Q1.1.fr) ∧ wG.cell? ⟨B1, 4, none⟩ = some (.string Q1.1.bo) ∧ wG.cell? ⟨B1, 5, none⟩ = some (p1) ∧ wG.cell? ⟨B1, 6, none⟩ = some (.int .i64 (Q1.1.nx : Int)) ∧ wG.cell? ⟨B1, 7, none⟩ = some (p2) ∧ wG.cell? ⟨B1, 8, none⟩ = some (p3) := ⟨HSk.out.cell 0, HSk.out.cell 1, HSk.out.cell 2, HSk.out.cell 3, HSk.out.cell 4, HSk.out.cell 5, HSk.out.cell 6, HSk.out.cell 7, HSk.out.cell 8⟩
          have v1 : wG.cell? ⟨w1.heap.size + 1, 1, none⟩ = some (.string d) := HEk.out.cell 1
          go_upto_region 15 with fail
          go_cut [12, 13] (fun pv xv wx => ∃ B u1 u2 u3, pv = .pointer (some ⟨B, 0, none⟩) ∧ xv = .string Q2.2 ∧ Hid (FRc wG.heap.size B Q2.1 u1 u2 u3 wG wx))
          case first =>
            have HBc : Hid (Below wG.heap.size wG wG) := (Below.refl _ _ : Below _ _ _)
            have zA : B1 < wG.heap.size := HSk.out.lt
            have zB : w1.heap.size + 1 < wG.heap.size := HEk.out.lt
            go_region_held3 (fun w' => w'.cell? ⟨B1, 0, none⟩ = some (.int .i64 Q1.1.ph) ∧ w'.cell? ⟨B1, 1, none⟩ = some (.string Q1.1.buf) ∧ w'.cell? ⟨B1, 2, none⟩ = some (.string Q1.1.he) ∧ w'.cell? ⟨B1, 3, none⟩ = some (.string Q1.1.fr) ∧ w'.cell? ⟨B1, 4, none⟩ = some (.string Q1.1.bo) ∧ w'.cell? ⟨B1, 5, none⟩ = some (p1) ∧ w'.cell? ⟨B1, 6, none⟩ = some (.int .i64 (Q1.1.nx : Int)) ∧ w'.cell? ⟨B1, 7, none⟩ = some (p2) ∧ w'.cell? ⟨B1, 8, none⟩ = some (p3) ∧ w'.cell? ⟨w1.heap.size + 1, 1, none⟩ = some (.string d)) (first | (simp only [j0, j1, j2, j3, j4, j5, j6, j7, j8, i1, and_self]; done) | go_keep) (first | (go_at_call 10; refine (HC2.out _ (by repeat (first | exact HBc.out | refine Below.drew ?_ | refine Below.alloc ?_ HBc.out.size _))).mono ?_; rintro e w8 ⟨⟨f1, f2, f3, rfl, S8⟩, hb⟩; obtain ⟨n1, l1, e1⟩ := strs_form2 S8.1; obtain ⟨n2, l2, e2⟩ := bls_form S8.2.1; obtain ⟨n3, l3, e3⟩ := vds_formD S8.2.2; subst e1; subst e2; subst e3; have HOW : ∀ g, ((Value.slice n1 Q2.1.R.length l1).ownBlock = some g ∨ (Value.slice n2 Q2.1.T.length l2).ownBlock = some g ∨ (Value.slice n3 Q2.1.V.length l3).ownBlock = some g) → _ ≤ g := fun g h => h.elim (fun e => (S8.own.1 g e).1) (fun h => h.elim (fun e => (S8.own.2.1 g e).1) (fun e => (S8.own.2.2 g e).1)); (first | (have HAP : Hid (∀ g, ((Value.slice n1 Q2.1.R.length l1).ownBlock = some g ∨ (Value.slice n2 Q2.1.T.length l2).ownBlock = some g ∨ (Value.slice n3 Q2.1.V.length l3).ownBlock = some g) → g ≠ wG.heap.size) := fun g h => (by have hh := HOW g h; simp at hh; omega)) | skip); clear HOW; have HS8 : Hid (SV w8 wG.heap.size (.slice n1 Q2.1.R.length l1) (.slice n2 Q2.1.T.length l2) (.slice n3 Q2.1.V.length l3) Q2.1) := S8.le (Below.size (B := wG.heap.size) (by repeat (first | exact HBc.out | refine Below.drew ?_ | refine Below.alloc ?_ HBc.out.size _))); (first | (have HNz : Hid (wG.heap.size ≤ _ ∧ Blk _ #[.int .i64 0, .string ⟨#[]⟩, .string ⟨#[]⟩, .string ⟨#[]⟩, .string ⟨#[]⟩, .slice none 0 0, .int .i64 0, .slice none 0 0, .slice none 0 0] w8) := ⟨HNz.out.1, Blk.below HNz.out.2 (of_drew hb)⟩) | (have HNz : Hid (wG.heap.size ≤ _ ∧ Blk _ #[.int .i64 0, .string ⟨#[]⟩, .string ⟨#[]⟩, .string ⟨#[]⟩, .string ⟨#[]⟩, .slice none 0 0, .int .i64 0, .slice none 0 0, .slice none 0 0] w8) := ⟨HNz.out.1, Blk.below HNz.out.2 hb⟩) | (have HNz : Hid (wG.heap.size ≤ _ ∧ Blk _ #[.int .i64 0, .string ⟨#[]⟩, .string ⟨#[]⟩, .string ⟨#[]⟩, .string ⟨#[]⟩, .slice none 0 0, .int .i64 0, .slice none 0 0, .slice none 0 0] w8) := ⟨HBc.out.size, Blk.below (Blk.new _ _ _) (of_drew hb)⟩) | (have HNz : Hid (wG.heap.size ≤ _ ∧ Blk _ #[.int .i64 0, .string ⟨#[]⟩, .string ⟨#[]⟩, .string ⟨#[]⟩, .string ⟨#[]⟩, .slice none 0 0, .int .i64 0, .slice none 0 0, .slice none 0 0] w8) := ⟨HBc.out.size, Blk.below (Blk.new _ _ _) hb⟩) | skip); have HBc : Hid (Below wG.heap.size wG w8) := Below.trans (by repeat (first | exact HBc.out | refine Below.drew ?_ | refine Below.alloc ?_ HBc.out.size _)) (hb.mono (Below.size (B := wG.heap.size) (by repeat (first | exact HBc.out | refine Below.drew ?_ | refine Below.alloc ?_ HBc.out.size _)))); have hAn : Hid (Blk (B1) #[.int .i64 Q1.1.ph, .string Q1.1.buf, .string Q1.1.he, .string Q1.1.fr, .string Q1.1.bo, p1, .int .i64 (Q1.1.nx : Int), p2, p3] w8) := Blk.below HSk.out HBc.out; have hEn : Hid (Blk (w1.heap.size + 1) #[.int .i64 1, .string d] w8) := Blk.below HEk.out HBc.out; obtain ⟨j0, j1, j2, j3, j4, j5, j6, j7, j8⟩ : w8.cell? ⟨B1, 0, none⟩ = some (.int .i64 Q1.1.ph) ∧ w8.cell? ⟨B1, 1, none⟩ = some (.string Q1.1.buf) ∧ w8.cell? ⟨B1, 2, none⟩ = some (.string Q1.1.he) ∧ w8.cell? ⟨B1, 3, none⟩ = some (.string Q1.1.fr) ∧ w8.cell? ⟨B1, 4, none⟩ = some (.string Q1.1.bo) ∧ w8.cell? ⟨B1, 5, none⟩ = some (p1) ∧ w8.cell? ⟨B1, 6, none⟩ = some (.int .i64 (Q1.1.nx : Int)) ∧ w8.cell? ⟨B1, 7, none⟩ = some (p2) ∧ w8.cell? ⟨B1, 8, none⟩ = some (p3) := ⟨hAn.out.cell 0, hAn.out.cell 1, hAn.out.cell 2, hAn.out.cell 3, hAn.out.cell 4, hAn.out.cell 5, hAn.out.cell 6, hAn.out.cell 7, hAn.out.cell 8⟩; have i1 : w8.cell? ⟨w1.heap.size + 1, 1, none⟩ = some (.string d) := hEn.out.cell 1; have zAn : B1 < w8.heap.size := hAn.out.lt; have zBn : w1.heap.size + 1 < w8.heap.size := hEn.out.lt; (try (have h0 : w8.cell? ⟨_, 0, none⟩ = some (.int .i64 0) := HNz.out.2.cell 0; have h1 : w8.cell? ⟨_, 1, none⟩ = some (.string ⟨#[]⟩) := HNz.out.2.cell 1; have h2 : w8.cell? ⟨_, 2, none⟩ = some (.string ⟨#[]⟩) := HNz.out.2.cell 2; have h3 : w8.cell? ⟨_, 3, none⟩ = some (.string ⟨#[]⟩) := HNz.out.2.cell 3; have h4 : w8.cell? ⟨_, 4, none⟩ = some (.string ⟨#[]⟩) := HNz.out.2.cell 4; have h5 : w8.cell? ⟨_, 5, none⟩ = some (.slice none 0 0) := HNz.out.2.cell 5; have h6 : w8.cell? ⟨_, 6, none⟩ = some (.int .i64 0) := HNz.out.2.cell 6; have h7 : w8.cell? ⟨_, 7, none⟩ = some (.slice none 0 0) := HNz.out.2.cell 7; have h8 : w8.cell? ⟨_, 8, none⟩ = some (.slice none 0 0) := HNz.out.2.cell 8; have g0 : w8.frozen? ⟨_, 0, none⟩ = false := HNz.out.2.free 0; have g1 : w8.frozen? ⟨_, 1, none⟩ = false := HNz.out.2.free 1; have g2 : w8.frozen? ⟨_, 2, none⟩ = false := HNz.out.2.free 2; have g3 : w8.frozen? ⟨_, 3, none⟩ = false := HNz.out.2.free 3; have g4 : w8.frozen? ⟨_, 4, none⟩ = false := HNz.out.2.free 4; have g5 : w8.frozen? ⟨_, 5, none⟩ = false := HNz.out.2.free 5; have g6 : w8.frozen? ⟨_, 6, none⟩ = false := HNz.out.2.free 6; have g7 : w8.frozen? ⟨_, 7, none⟩ = false := HNz.out.2.free 7; have g8 : w8.frozen? ⟨_, 8, none⟩ = false := HNz.out.2.free 8; have q1 : ¬ _ = B1 := Nat.ne_of_gt (Nat.lt_of_lt_of_le zA HNz.out.1); have q2 : ¬ B1 = _ := Nat.ne_of_lt (Nat.lt_of_lt_of_le zA HNz.out.1); have q3 : ¬ _ = w1.heap.size + 1 := Nat.ne_of_gt (Nat.lt_of_lt_of_le zB HNz.out.1); have q4 : ¬ w1.heap.size + 1 = _ := Nat.ne_of_lt (Nat.lt_of_lt_of_le zB HNz.out.1))); clear S8 hb))
            all_goals
              go_wp2_with fail
              go_meet
              first
                | exact ⟨_, _, _, _, rfl, rfl, ⟨HNz.out.1, blk_nine HNz.out.2 _ _ _ _ _ _ _ _ _, nine_ne HS8.out (fun g hg => HAP.out g (.inl hg)) (fun g hg => HAP.out g (.inr (.inl hg))) (fun g hg => HAP.out g (.inr (.inr hg))) _ _ _ _ _ _ _ _ _, below_nine HBc.out HNz.out.1 _ _ _ _ _ _ _ _ _⟩⟩
                | exact ⟨_, _, _, _, rfl, rfl, ⟨HBc.out.size, Blk.new w8 _ _, HS8.out.below (below1 _ _) (Nat.le_refl _), HBc.out.trans ((below1 _ _).mono HBc.out.size)⟩⟩
          case rest =>
            obtain ⟨B2, x1, x2, x3, rfl, rfl, HG2⟩ := hcut
            obtain ⟨hB, hSB, hSV, hBw⟩ := HG2.out
            clear t0 t1 t2 t3 t4 t5 t6 t7 t8 v1 HG2
            rw [HPu.out.1] at hSB hSV
            have HU : Hid (SV wc wG.heap.size x1 x2 x3 Q.1) := hSV
            have b7c : Below W7.heap.size W7 wc := HGw.out.trans (hBw.mono HGw.out.size)
            have bc : Below w.heap.size w wc := bG.trans (hBw.mono bG.size)
            have HWt : Hid (SV wc W2.heap.size (.slice n1 Q.1.R.length l1) (.slice n2 Q.1.T.length l2) (.slice n3 Q.1.V.length l3) Q.1) := HM7.out.wrows.below b7c (Nat.le_refl _)
            obtain ⟨t0, t1, t2, t3, t4, t5, t6, t7, t8⟩ := hSB.cells
            obtain ⟨d0, d1, d2, d3, d4, d5, d6, d7, d8⟩ := (SB.below HM7.out.want b7c).cells
            clear hSB hSV
            have hcat := HPu.out.2
            go_wp2_with fail
            refine (sameSess Q.1 _ _ _ _ _ _ _ _ wc HU.out HWt.out HFq.out.small.2.2.1 HFq.out.small.2.2.2.1 HFq.out.small.2.2.2.2 HFq.out.small.1.2.2.2.2.2.1).mono ?_
            rintro e wn ⟨rfl, hbn⟩
            clear t0 t1 t2 t3 t4 t5 t6 t7 t8 d0 d1 d2 d3 d4 d5 d6 d7 d8
            go_wp2
            go_ret
            exact ⟨rfl, bc.trans (hbn.mono bc.size)⟩
      · have hzi : (40000 : Int) < (buf.size : Int) + (d.size : Int) := by omega
        go_wp2_with fail
        go_quiet (fail)
        go_wp2
        go_ret
        exact ⟨rfl, bel_drewS HM.out.bel _⟩
    · rcases (show (¬ (0 : Int) < B.length ∧ B.length = 0) ∨ ((0 : Int) < B.length ∧ ¬ (0 : Int) < d.size ∧ d.size = 0) by omega) with ⟨hb0i, hcl⟩ | ⟨hb0i, hd0i, hcl⟩
      all_goals
        clear hbp
        by_cases hz : buf.size + d.size ≤ 40000
        · clear hcl
          go_upto_region 12 with fail
          obtain ⟨W7, hW7⟩ : ∃ W7 : World, W7 = W6 := ⟨W6, rfl⟩
          subst hW7
          have HM7 : Hid (ChM w W2 W4 #[.int .i64 ph, .string buf, .string he, .string fr, .string bo, .slice m5 R.length o5, .int .i64 nx, .slice m7 T.length o7, .slice m8 V.length o8] (w1.heap.size) w3.heap.size 1 d Q.1 (.slice n1 Q.1.R.length l1) (.slice n2 Q.1.T.length l2) (.slice n3 Q.1.V.length l3) (.slice m5 R.length o5) (.slice m7 T.length o7) (.slice m8 V.length o8) ⟨ph, buf, he, fr, bo, R, 0, T, V⟩ W7) := HM
          obtain ⟨Q1, hQ1⟩ : ∃ Q1, feedN ph nx buf he fr bo R T V 1 ByteArray.empty = Q1 := ⟨_, rfl⟩
          obtain ⟨Q2, hQ2⟩ : ∃ Q2, feedS Q1.1 1 d = Q2 := ⟨_, rfl⟩
          have hpure := chunk_pure ph nx buf he fr bo R T V d 0 hz
          rw [ext_none, ext_all] at hpure
          rw [HQ.out, hQ1, hQ2] at hpure
          have HF1 : Hid (Fine Q1.1) := by show Fine Q1.1; rw [← hQ1]; exact feedN_fine _ _ _ _ _ _ _ _ _ _ _
          have HPu : Hid (Q2.1 = Q.1 ∧ Q1.2 ++ Q2.2 = Q.2) := by show _ ∧ _; rw [hpure]; exact ⟨rfl, rfl⟩
          have hs1 : Q1.2.size ≤ 800000000 := by rw [← hQ1]; exact feedN_said _ _ _ _ _ _ _ _ _ _ _
          have hs2 : Q2.2.size ≤ 800000000 := by rw [← hQ2]; exact feedN_said _ _ _ _ _ _ _ _ _ _ _
          have HC1 : Hid (∀ wx : World, Below W7.heap.size W7 wx → Calls Tryz.prog 10 #[.agg #[.int .i64 ph, .string buf, .string he, .string fr, .string bo, .slice m5 R.length o5, .int .i64 nx, .slice m7 T.length o7, .slice m8 V.length o8], .agg #[.int .i64 1, .string ByteArray.empty]] wx fun e w' => SQ Q1 wx e w') := fun wx hx => by
            rw [← hQ1]
            exact HIm.out wx W4.heap.size _ _ _ 1 ByteArray.empty (HM7.out.bel.trans (hx.mono HM7.out.bel.size)) (by first | omega | exact Nat.zero_le _) (HM7.out.rows.below hx (Nat.le_refl _))
          have HQ2 : Hid (feedS Q1.1 1 d = Q2) := hQ2
          clear hpure hQ1 hQ2
          have hzi : ¬ (40000 : Int) < (buf.size : Int) + (d.size : Int) := by omega
          go_upto_region 14 with fail
          have HSk : Hid (Blk (w1.heap.size) #[.int .i64 ph, .string buf, .string he, .string fr, .string bo, .slice m5 R.length o5, .int .i64 nx, .slice m7 T.length o7, .slice m8 V.length o8] W7) := HM7.out.sb
          have HEk : Hid (Blk (w1.heap.size + 1) #[.int .i64 1, .string d] W7) := HM7.out.ev
          go_cut [10, 11] (fun pv xv wx => ∃ B u1 u2 u3, pv = .pointer (some ⟨B, 0, none⟩) ∧ xv = .string Q1.2 ∧ Hid (FRc W7.heap.size B Q1.1 u1 u2 u3 W7 wx))
          case first =>
            have HBc : Hid (Below W7.heap.size W7 W7) := (Below.refl _ _ : Below _ _ _)
            have zA : w1.heap.size < W7.heap.size := HSk.out.lt
            have zB : w1.heap.size + 1 < W7.heap.size := HEk.out.lt
            go_region_held3 (fun w' => w'.cell? ⟨w1.heap.size, 0, none⟩ = some (.int .i64 ph) ∧ w'.cell? ⟨w1.heap.size, 1, none⟩ = some (.string buf) ∧ w'.cell? ⟨w1.heap.size, 2, none⟩ = some (.string he) ∧ w'.cell? ⟨w1.heap.size, 3, none⟩ = some (.string fr) ∧ w'.cell? ⟨w1.heap.size, 4, none⟩ = some (.string bo) ∧ w'.cell? ⟨w1.heap.size, 5, none⟩ = some (.slice m5 R.length o5) ∧ w'.cell? ⟨w1.heap.size, 6, none⟩ = some (.int .i64 nx) ∧ w'.cell? ⟨w1.heap.size, 7, none⟩ = some (.slice m7 T.length o7) ∧ w'.cell? ⟨w1.heap.size, 8, none⟩ = some (.slice m8 V.length o8) ∧ w'.cell? ⟨w1.heap.size + 1, 1, none⟩ = some (.string d)) (first | (simp only [j0, j1, j2, j3, j4, j5, j6, j7, j8, i1, and_self]; done) | go_keep) (first | (go_at_call 10; refine (HC1.out _ (by repeat (first | exact HBc.out | refine Below.drew ?_ | refine Below.alloc ?_ HBc.out.size _))).mono ?_; rintro e w8 ⟨⟨f1, f2, f3, rfl, S8⟩, hb⟩; obtain ⟨n1, l1, e1⟩ := strs_form2 S8.1; obtain ⟨n2, l2, e2⟩ := bls_form S8.2.1; obtain ⟨n3, l3, e3⟩ := vds_formD S8.2.2; subst e1; subst e2; subst e3; have HOW : ∀ g, ((Value.slice n1 Q1.1.R.length l1).ownBlock = some g ∨ (Value.slice n2 Q1.1.T.length l2).ownBlock = some g ∨ (Value.slice n3 Q1.1.V.length l3).ownBlock = some g) → _ ≤ g := fun g h => h.elim (fun e => (S8.own.1 g e).1) (fun h => h.elim (fun e => (S8.own.2.1 g e).1) (fun e => (S8.own.2.2 g e).1)); (first | (have HAP : Hid (∀ g, ((Value.slice n1 Q1.1.R.length l1).ownBlock = some g ∨ (Value.slice n2 Q1.1.T.length l2).ownBlock = some g ∨ (Value.slice n3 Q1.1.V.length l3).ownBlock = some g) → g ≠ W7.heap.size) := fun g h => (by have hh := HOW g h; simp at hh; omega)) | skip); clear HOW; have HS8 : Hid (SV w8 W7.heap.size (.slice n1 Q1.1.R.length l1) (.slice n2 Q1.1.T.length l2) (.slice n3 Q1.1.V.length l3) Q1.1) := S8.le (Below.size (B := W7.heap.size) (by repeat (first | exact HBc.out | refine Below.drew ?_ | refine Below.alloc ?_ HBc.out.size _))); (first | (have HNz : Hid (W7.heap.size ≤ _ ∧ Blk _ #[.int .i64 0, .string ⟨#[]⟩, .string ⟨#[]⟩, .string ⟨#[]⟩, .string ⟨#[]⟩, .slice none 0 0, .int .i64 0, .slice none 0 0, .slice none 0 0] w8) := ⟨HNz.out.1, Blk.below HNz.out.2 (of_drew hb)⟩) | (have HNz : Hid (W7.heap.size ≤ _ ∧ Blk _ #[.int .i64 0, .string ⟨#[]⟩, .string ⟨#[]⟩, .string ⟨#[]⟩, .string ⟨#[]⟩, .slice none 0 0, .int .i64 0, .slice none 0 0, .slice none 0 0] w8) := ⟨HNz.out.1, Blk.below HNz.out.2 hb⟩) | (have HNz : Hid (W7.heap.size ≤ _ ∧ Blk _ #[.int .i64 0, .string ⟨#[]⟩, .string ⟨#[]⟩, .string ⟨#[]⟩, .string ⟨#[]⟩, .slice none 0 0, .int .i64 0, .slice none 0 0, .slice none 0 0] w8) := ⟨HBc.out.size, Blk.below (Blk.new _ _ _) (of_drew hb)⟩) | (have HNz : Hid (W7.heap.size ≤ _ ∧ Blk _ #[.int .i64 0, .string ⟨#[]⟩, .string ⟨#[]⟩, .string ⟨#[]⟩, .string ⟨#[]⟩, .slice none 0 0, .int .i64 0, .slice none 0 0, .slice none 0 0] w8) := ⟨HBc.out.size, Blk.below (Blk.new _ _ _) hb⟩) | skip); have HBc : Hid (Below W7.heap.size W7 w8) := Below.trans (by repeat (first | exact HBc.out | refine Below.drew ?_ | refine Below.alloc ?_ HBc.out.size _)) (hb.mono (Below.size (B := W7.heap.size) (by repeat (first | exact HBc.out | refine Below.drew ?_ | refine Below.alloc ?_ HBc.out.size _)))); have hAn : Hid (Blk (w1.heap.size) #[.int .i64 ph, .string buf, .string he, .string fr, .string bo, .slice m5 R.length o5, .int .i64 nx, .slice m7 T.length o7, .slice m8 V.length o8] w8) := Blk.below HSk.out HBc.out; have hEn : Hid (Blk (w1.heap.size + 1) #[.int .i64 1, .string d] w8) := Blk.below HEk.out HBc.out; obtain ⟨j0, j1, j2, j3, j4, j5, j6, j7, j8⟩ : w8.cell? ⟨w1.heap.size, 0, none⟩ = some (.int .i64 ph) ∧ w8.cell? ⟨w1.heap.size, 1, none⟩ = some (.string buf) ∧ w8.cell? ⟨w1.heap.size, 2, none⟩ = some (.string he) ∧ w8.cell? ⟨w1.heap.size, 3, none⟩ = some (.string fr) ∧ w8.cell? ⟨w1.heap.size, 4, none⟩ = some (.string bo) ∧ w8.cell? ⟨w1.heap.size, 5, none⟩ = some (.slice m5 R.length o5) ∧ w8.cell? ⟨w1.heap.size, 6, none⟩ = some (.int .i64 nx) ∧ w8.cell? ⟨w1.heap.size, 7, none⟩ = some (.slice m7 T.length o7) ∧ w8.cell? ⟨w1.heap.size, 8, none⟩ = some (.slice m8 V.length o8) := ⟨hAn.out.cell 0, hAn.out.cell 1, hAn.out.cell 2, hAn.out.cell 3, hAn.out.cell 4, hAn.out.cell 5, hAn.out.cell 6, hAn.out.cell 7, hAn.out.cell 8⟩; have i1 : w8.cell? ⟨w1.heap.size + 1, 1, none⟩ = some (.string d) := hEn.out.cell 1; have zAn : w1.heap.size < w8.heap.size := hAn.out.lt; have zBn : w1.heap.size + 1 < w8.heap.size := hEn.out.lt; (try (have h0 : w8.cell? ⟨_, 0, none⟩ = some (.int .i64 0) := HNz.out.2.cell 0; have h1 : w8.cell? ⟨_, 1, none⟩ = some (.string ⟨#[]⟩) := HNz.out.2.cell 1; have h2 : w8.cell? ⟨_, 2, none⟩ = some (.string ⟨#[]⟩) := HNz.out.2.cell 2; have h3 : w8.cell? ⟨_, 3, none⟩ = some (.string ⟨#[]⟩) := HNz.out.2.cell 3; have h4 : w8.cell? ⟨_, 4, none⟩ = some (.string ⟨#[]⟩) := HNz.out.2.cell 4; have h5 : w8.cell? ⟨_, 5, none⟩ = some (.slice none 0 0) := HNz.out.2.cell 5; have h6 : w8.cell? ⟨_, 6, none⟩ = some (.int .i64 0) := HNz.out.2.cell 6; have h7 : w8.cell? ⟨_, 7, none⟩ = some (.slice none 0 0) := HNz.out.2.cell 7; have h8 : w8.cell? ⟨_, 8, none⟩ = some (.slice none 0 0) := HNz.out.2.cell 8; have g0 : w8.frozen? ⟨_, 0, none⟩ = false := HNz.out.2.free 0; have g1 : w8.frozen? ⟨_, 1, none⟩ = false := HNz.out.2.free 1; have g2 : w8.frozen? ⟨_, 2, none⟩ = false := HNz.out.2.free 2; have g3 : w8.frozen? ⟨_, 3, none⟩ = false := HNz.out.2.free 3; have g4 : w8.frozen? ⟨_, 4, none⟩ = false := HNz.out.2.free 4; have g5 : w8.frozen? ⟨_, 5, none⟩ = false := HNz.out.2.free 5; have g6 : w8.frozen? ⟨_, 6, none⟩ = false := HNz.out.2.free 6; have g7 : w8.frozen? ⟨_, 7, none⟩ = false := HNz.out.2.free 7; have g8 : w8.frozen? ⟨_, 8, none⟩ = false := HNz.out.2.free 8; have q1 : ¬ _ = w1.heap.size := Nat.ne_of_gt (Nat.lt_of_lt_of_le zA HNz.out.1); have q2 : ¬ w1.heap.size = _ := Nat.ne_of_lt (Nat.lt_of_lt_of_le zA HNz.out.1); have q3 : ¬ _ = w1.heap.size + 1 := Nat.ne_of_gt (Nat.lt_of_lt_of_le zB HNz.out.1); have q4 : ¬ w1.heap.size + 1 = _ := Nat.ne_of_lt (Nat.lt_of_lt_of_le zB HNz.out.1))); clear S8 hb))
            all_goals
              go_wp2_with fail
              go_meet
              first
                | exact ⟨_, _, _, _, rfl, rfl, ⟨HNz.out.1, blk_nine HNz.out.2 _ _ _ _ _ _ _ _ _, nine_ne HS8.out (fun g hg => HAP.out g (.inl hg)) (fun g hg => HAP.out g (.inr (.inl hg))) (fun g hg => HAP.out g (.inr (.inr hg))) _ _ _ _ _ _ _ _ _, below_nine HBc.out HNz.out.1 _ _ _ _ _ _ _ _ _⟩⟩
                | exact ⟨_, _, _, _, rfl, rfl, ⟨HBc.out.size, Blk.new w8 _ _, HS8.out.below (below1 _ _) (Nat.le_refl _), HBc.out.trans ((below1 _ _).mono HBc.out.size)⟩⟩
          case rest =>
            obtain ⟨B1, p1, p2, p3, rfl, rfl, HG1⟩ := hcut
            obtain ⟨wG, hwG⟩ : ∃ wG : World, wG = wc := ⟨wc, rfl⟩
            subst hwG
            obtain ⟨gB, gSB, gSV, gBw⟩ := HG1.out
            clear HSk HEk HG1 t0 t1 t2 t3 t4 t5 t6 t7 t8 v0 v1
            have HSk : Hid (Blk (B1) #[.int .i64 Q1.1.ph, .string Q1.1.buf, .string Q1.1.he, .string Q1.1.fr, .string Q1.1.bo, p1, .int .i64 (Q1.1.nx : Int), p2, p3] wG) := gSB
            have HEk : Hid (Blk (w1.heap.size + 1) #[.int .i64 1, .string d] wG) := Blk.below HM7.out.ev gBw
            have HGs : Hid (SV wG W7.heap.size p1 p2 p3 Q1.1) := gSV
            have bG : Below w.heap.size w wG := HM7.out.bel.trans (gBw.mono HM7.out.bel.size)
            have HGw : Hid (Below W7.heap.size W7 wG) := gBw
            clear gSB gSV gBw
            have HC2 : Hid (∀ wx : World, Below wG.heap.size wG wx → Calls Tryz.prog 10 #[.agg #[.int .i64 Q1.1.ph, .string Q1.1.buf, .string Q1.1.he, .string Q1.1.fr, .string Q1.1.bo, p1, .int .i64 (Q1.1.nx : Int), p2, p3], .agg #[.int .i64 1, .string d]] wx fun e w' => SQ Q2 wx e w') := fun wx hx => by
              rw [← HQ2.out]
              exact implFeed Q1.1.ph (Q1.1.nx : Int) Q1.1.buf Q1.1.he Q1.1.fr Q1.1.bo p1 p2 p3 Q1.1.R Q1.1.T Q1.1.V 1 d W7.heap.size wx (HGs.out.below hx (Nat.le_refl _)).1 (HGs.out.below hx (Nat.le_refl _)).2.1 (HGs.out.below hx (Nat.le_refl _)).2.2 HF1.out.small.1 (len_below HL.out (bG.trans (hx.mono bG.size))) (HFo.out.below (bG.trans (hx.mono bG.size))) (by first | omega | exact Nat.zero_le _)
            obtain ⟨t0, t1, t2, t3, t4, t5, t6, t7, t8⟩ : wG.cell? ⟨B1, 0, none⟩ = some (.int .i64 Q1.1.ph) ∧ wG.cell? ⟨B1, 1, none⟩ = some (.string Q1.1.buf) ∧ wG.cell? ⟨B1, 2, none⟩ = some (.string Q1.1.he) ∧ wG.cell? ⟨B1, 3, none⟩ = some (.string Q1.1.fr) ∧ wG.cell? ⟨B1, 4, none⟩ = some (.string Q1.1.bo) ∧ wG.cell? ⟨B1, 5, none⟩ = some (p1) ∧ wG.cell? ⟨B1, 6, none⟩ = some (.int .i64 (Q1.1.nx : Int)) ∧ wG.cell? ⟨B1, 7, none⟩ = some (p2) ∧ wG.cell? ⟨B1, 8, none⟩ = some (p3) := ⟨HSk.out.cell 0, HSk.out.cell 1, HSk.out.cell 2, HSk.out.cell 3, HSk.out.cell 4, HSk.out.cell 5, HSk.out.cell 6, HSk.out.cell 7, HSk.out.cell 8⟩
            have v1 : wG.cell? ⟨w1.heap.size + 1, 1, none⟩ = some (.string d) := HEk.out.cell 1
            go_upto_region 15 with fail
            go_cut [12, 13] (fun pv xv wx => ∃ B u1 u2 u3, pv = .pointer (some ⟨B, 0, none⟩) ∧ xv = .string Q2.2 ∧ Hid (FRc wG.heap.size B Q2.1 u1 u2 u3 wG wx))
            case first =>
              have HBc : Hid (Below wG.heap.size wG wG) := (Below.refl _ _ : Below _ _ _)
              have zA : B1 < wG.heap.size := HSk.out.lt
              have zB : w1.heap.size + 1 < wG.heap.size := HEk.out.lt
              go_region_held3 (fun w' => w'.cell? ⟨B1, 0, none⟩ = some (.int .i64 Q1.1.ph) ∧ w'.cell? ⟨B1, 1, none⟩ = some (.string Q1.1.buf) ∧ w'.cell? ⟨B1, 2, none⟩ = some (.string Q1.1.he) ∧ w'.cell? ⟨B1, 3, none⟩ = some (.string Q1.1.fr) ∧ w'.cell? ⟨B1, 4, none⟩ = some (.string Q1.1.bo) ∧ w'.cell? ⟨B1, 5, none⟩ = some (p1) ∧ w'.cell? ⟨B1, 6, none⟩ = some (.int .i64 (Q1.1.nx : Int)) ∧ w'.cell? ⟨B1, 7, none⟩ = some (p2) ∧ w'.cell? ⟨B1, 8, none⟩ = some (p3) ∧ w'.cell? ⟨w1.heap.size + 1, 1, none⟩ = some (.string d)) (first | (simp only [j0, j1, j2, j3, j4, j5, j6, j7, j8, i1, and_self]; done) | go_keep) (first | (go_at_call 10; refine (HC2.out _ (by repeat (first | exact HBc.out | refine Below.drew ?_ | refine Below.alloc ?_ HBc.out.size _))).mono ?_; rintro e w8 ⟨⟨f1, f2, f3, rfl, S8⟩, hb⟩; obtain ⟨n1, l1, e1⟩ := strs_form2 S8.1; obtain ⟨n2, l2, e2⟩ := bls_form S8.2.1; obtain ⟨n3, l3, e3⟩ := vds_formD S8.2.2; subst e1; subst e2; subst e3; have HOW : ∀ g, ((Value.slice n1 Q2.1.R.length l1).ownBlock = some g ∨ (Value.slice n2 Q2.1.T.length l2).ownBlock = some g ∨ (Value.slice n3 Q2.1.V.length l3).ownBlock = some g) → _ ≤ g := fun g h => h.elim (fun e => (S8.own.1 g e).1) (fun h => h.elim (fun e => (S8.own.2.1 g e).1) (fun e => (S8.own.2.2 g e).1)); (first | (have HAP : Hid (∀ g, ((Value.slice n1 Q2.1.R.length l1).ownBlock = some g ∨ (Value.slice n2 Q2.1.T.length l2).ownBlock = some g ∨ (Value.slice n3 Q2.1.V.length l3).ownBlock = some g) → g ≠ wG.heap.size) := fun g h => (by have hh := HOW g h; simp at hh; omega)) | skip); clear HOW; have HS8 : Hid (SV w8 wG.heap.size (.slice n1 Q2.1.R.length l1) (.slice n2 Q2.1.T.length l2) (.slice n3 Q2.1.V.length l3) Q2.1) := S8.le (Below.size (B := wG.heap.size) (by repeat (first | exact HBc.out | refine Below.drew ?_ | refine Below.alloc ?_ HBc.out.size _))); (first | (have HNz : Hid (wG.heap.size ≤ _ ∧ Blk _ #[.int .i64 0, .string ⟨#[]⟩, .string ⟨#[]⟩, .string ⟨#[]⟩, .string ⟨#[]⟩, .slice none 0 0, .int .i64 0, .slice none 0 0, .slice none 0 0] w8) := ⟨HNz.out.1, Blk.below HNz.out.2 (of_drew hb)⟩) | (have HNz : Hid (wG.heap.size ≤ _ ∧ Blk _ #[.int .i64 0, .string ⟨#[]⟩, .string ⟨#[]⟩, .string ⟨#[]⟩, .string ⟨#[]⟩, .slice none 0 0, .int .i64 0, .slice none 0 0, .slice none 0 0] w8) := ⟨HNz.out.1, Blk.below HNz.out.2 hb⟩) | (have HNz : Hid (wG.heap.size ≤ _ ∧ Blk _ #[.int .i64 0, .string ⟨#[]⟩, .string ⟨#[]⟩, .string ⟨#[]⟩, .string ⟨#[]⟩, .slice none 0 0, .int .i64 0, .slice none 0 0, .slice none 0 0] w8) := ⟨HBc.out.size, Blk.below (Blk.new _ _ _) (of_drew hb)⟩) | (have HNz : Hid (wG.heap.size ≤ _ ∧ Blk _ #[.int .i64 0, .string ⟨#[]⟩, .string ⟨#[]⟩, .string ⟨#[]⟩, .string ⟨#[]⟩, .slice none 0 0, .int .i64 0, .slice none 0 0, .slice none 0 0] w8) := ⟨HBc.out.size, Blk.below (Blk.new _ _ _) hb⟩) | skip); have HBc : Hid (Below wG.heap.size wG w8) := Below.trans (by repeat (first | exact HBc.out | refine Below.drew ?_ | refine Below.alloc ?_ HBc.out.size _)) (hb.mono (Below.size (B := wG.heap.size) (by repeat (first | exact HBc.out | refine Below.drew ?_ | refine Below.alloc ?_ HBc.out.size _)))); have hAn : Hid (Blk (B1) #[.int .i64 Q1.1.ph, .string Q1.1.buf, .string Q1.1.he, .string Q1.1.fr, .string Q1.1.bo, p1, .int .i64 (Q1.1.nx : Int), p2, p3] w8) := Blk.below HSk.out HBc.out; have hEn : Hid (Blk (w1.heap.size + 1) #[.int .i64 1, .string d] w8) := Blk.below HEk.out HBc.out; obtain ⟨j0, j1, j2, j3, j4, j5, j6, j7, j8⟩ : w8.cell? ⟨B1, 0, none⟩ = some (.int .i64 Q1.1.ph) ∧ w8.cell? ⟨B1, 1, none⟩ = some (.string Q1.1.buf) ∧ w8.cell? ⟨B1, 2, none⟩ = some (.string Q1.1.he) ∧ w8.cell? ⟨B1, 3, none⟩ = some (.string Q1.1.fr) ∧ w8.cell? ⟨B1, 4, none⟩ = some (.string Q1.1.bo) ∧ w8.cell? ⟨B1, 5, none⟩ = some (p1) ∧ w8.cell? ⟨B1, 6, none⟩ = some (.int .i64 (Q1.1.nx : Int)) ∧ w8.cell? ⟨B1, 7, none⟩ = some (p2) ∧ w8.cell? ⟨B1, 8, none⟩ = some (p3) := ⟨hAn.out.cell 0, hAn.out.cell 1, hAn.out.cell 2, hAn.out.cell 3, hAn.out.cell 4, hAn.out.cell 5, hAn.out.cell 6, hAn.out.cell 7, hAn.out.cell 8⟩; have i1 : w8.cell? ⟨w1.heap.size + 1, 1, none⟩ = some (.string d) := hEn.out.cell 1; have zAn : B1 < w8.heap.size := hAn.out.lt; have zBn : w1.heap.size + 1 < w8.heap.size := hEn.out.lt; (try (have h0 : w8.cell? ⟨_, 0, none⟩ = some (.int .i64 0) := HNz.out.2.cell 0; have h1 : w8.cell? ⟨_, 1, none⟩ = some (.string ⟨#[]⟩) := HNz.out.2.cell 1; have h2 : w8.cell? ⟨_, 2, none⟩ = some (.string ⟨#[]⟩) := HNz.out.2.cell 2; have h3 : w8.cell? ⟨_, 3, none⟩ = some (.string ⟨#[]⟩) := HNz.out.2.cell 3; have h4 : w8.cell? ⟨_, 4, none⟩ = some (.string ⟨#[]⟩) := HNz.out.2.cell 4; have h5 : w8.cell? ⟨_, 5, none⟩ = some (.slice none 0 0) := HNz.out.2.cell 5; have h6 : w8.cell? ⟨_, 6, none⟩ = some (.int .i64 0) := HNz.out.2.cell 6; have h7 : w8.cell? ⟨_, 7, none⟩ = some (.slice none 0 0) := HNz.out.2.cell 7; have h8 : w8.cell? ⟨_, 8, none⟩ = some (.slice none 0 0) := HNz.out.2.cell 8; have g0 : w8.frozen? ⟨_, 0, none⟩ = false := HNz.out.2.free 0; have g1 : w8.frozen? ⟨_, 1, none⟩ = false := HNz.out.2.free 1; have g2 : w8.frozen? ⟨_, 2, none⟩ = false := HNz.out.2.free 2; have g3 : w8.frozen? ⟨_, 3, none⟩ = false := HNz.out.2.free 3; have g4 : w8.frozen? ⟨_, 4, none⟩ = false := HNz.out.2.free 4; have g5 : w8.frozen? ⟨_, 5, none⟩ = false := HNz.out.2.free 5; have g6 : w8.frozen? ⟨_, 6, none⟩ = false := HNz.out.2.free 6; have g7 : w8.frozen? ⟨_, 7, none⟩ = false := HNz.out.2.free 7; have g8 : w8.frozen? ⟨_, 8, none⟩ = false := HNz.out.2.free 8; have q1 : ¬ _ = B1 := Nat.ne_of_gt (Nat.lt_of_lt_of_le zA HNz.out.1); have q2 : ¬ B1 = _ := Nat.ne_of_lt (Nat.lt_of_lt_of_le zA HNz.out.1); have q3 : ¬ _ = w1.heap.size + 1 := Nat.ne_of_gt (Nat.lt_of_lt_of_le zB HNz.out.1); have q4 : ¬ w1.heap.size + 1 = _ := Nat.ne_of_lt (Nat.lt_of_lt_of_le zB HNz.out.1))); clear S8 hb))
              all_goals
                go_wp2_with fail
                go_meet
                first
                  | exact ⟨_, _, _, _, rfl, rfl, ⟨HNz.out.1, blk_nine HNz.out.2 _ _ _ _ _ _ _ _ _, nine_ne HS8.out (fun g hg => HAP.out g (.inl hg)) (fun g hg => HAP.out g (.inr (.inl hg))) (fun g hg => HAP.out g (.inr (.inr hg))) _ _ _ _ _ _ _ _ _, below_nine HBc.out HNz.out.1 _ _ _ _ _ _ _ _ _⟩⟩
                  | exact ⟨_, _, _, _, rfl, rfl, ⟨HBc.out.size, Blk.new w8 _ _, HS8.out.below (below1 _ _) (Nat.le_refl _), HBc.out.trans ((below1 _ _).mono HBc.out.size)⟩⟩
            case rest =>
              obtain ⟨B2, x1, x2, x3, rfl, rfl, HG2⟩ := hcut
              obtain ⟨hB, hSB, hSV, hBw⟩ := HG2.out
              clear t0 t1 t2 t3 t4 t5 t6 t7 t8 v1 HG2
              rw [HPu.out.1] at hSB hSV
              have HU : Hid (SV wc wG.heap.size x1 x2 x3 Q.1) := hSV
              have b7c : Below W7.heap.size W7 wc := HGw.out.trans (hBw.mono HGw.out.size)
              have bc : Below w.heap.size w wc := bG.trans (hBw.mono bG.size)
              have HWt : Hid (SV wc W2.heap.size (.slice n1 Q.1.R.length l1) (.slice n2 Q.1.T.length l2) (.slice n3 Q.1.V.length l3) Q.1) := HM7.out.wrows.below b7c (Nat.le_refl _)
              obtain ⟨t0, t1, t2, t3, t4, t5, t6, t7, t8⟩ := hSB.cells
              obtain ⟨d0, d1, d2, d3, d4, d5, d6, d7, d8⟩ := (SB.below HM7.out.want b7c).cells
              clear hSB hSV
              have hcat := HPu.out.2
              go_wp2_with fail
              refine (sameSess Q.1 _ _ _ _ _ _ _ _ wc HU.out HWt.out HFq.out.small.2.2.1 HFq.out.small.2.2.2.1 HFq.out.small.2.2.2.2 HFq.out.small.1.2.2.2.2.2.1).mono ?_
              rintro e wn ⟨rfl, hbn⟩
              clear t0 t1 t2 t3 t4 t5 t6 t7 t8 d0 d1 d2 d3 d4 d5 d6 d7 d8
              go_wp2
              go_ret
              exact ⟨rfl, bc.trans (hbn.mono bc.size)⟩
        · first
            | exact absurd hz (by omega)
            | (have hzi : (40000 : Int) < (buf.size : Int) + (d.size : Int) := by omega
               go_wp2
               go_ret
               exact ⟨rfl, HM.out.bel⟩)
  · have hk1b : (kind == 1) = false := beq_eq_false_iff_ne.2 hk1
    go_wp2_with fail
    have hI := HIm.out W6 W4.heap.size _ _ _ kind d HM.out.bel (by omega) HM.out.rows
    rw [HQ.out] at hI
    refine hI.mono ?_
    clear hI t0 t1 t2 t3 t4 t5 t6 t7 t8 v0 v1
    rintro e w7 ⟨⟨f1, f2, f3, rfl, S7⟩, hb7⟩
    obtain ⟨g1, k1, e1⟩ := strs_form2 S7.1
    obtain ⟨g2, k2, e2⟩ := bls_form S7.2.1
    obtain ⟨g3, k3, e3⟩ := vds_formD S7.2.2
    subst e1 e2 e3
    have HS7 : Hid (SV w7 W6.heap.size (.slice g1 Q.1.R.length k1) (.slice g2 Q.1.T.length k2) (.slice g3 Q.1.V.length k3) Q.1) := S7
    have HB7 : Hid (Below W6.heap.size W6 w7) := hb7
    clear S7 hb7
    obtain ⟨d0, d1, d2, d3, d4, d5, d6, d7, d8⟩ := (SB.below HM.out.want HB7.out).cells
    have lw : w3.heap.size < w7.heap.size := (SB.below HM.out.want HB7.out).lt
    go_wp2_with fail
    generalize hW8 : World.alloc _ _ = W8
    have hb8 : Below w7.heap.size w7 W8 := by rw [← hW8]; exact below1 _ _
    have b68 : Below W6.heap.size W6 W8 := HB7.out.trans (hb8.mono HB7.out.size)
    have b8 : Below w.heap.size w W8 := HM.out.bel.trans (b68.mono HM.out.bel.size)
    refine (sameSess Q.1 _ _ _ _ _ _ _ _ W8 (HS7.out.below hb8 (Nat.le_refl _)) (HM.out.wrows.below b68 (Nat.le_refl _)) HFq.out.small.2.2.1 HFq.out.small.2.2.2.1 HFq.out.small.2.2.2.2 HFq.out.small.1.2.2.2.2.2.1).mono ?_
    rintro e w9 ⟨rfl, hb9⟩
    clear d0 d1 d2 d3 d4 d5 d6 d7 d8
    go_wp2
    go_ret
    exact ⟨rfl, b8.trans (hb9.mono b8.size)⟩
end Go.Proofs.YtngcjlghjidnjaaGreatDoor
