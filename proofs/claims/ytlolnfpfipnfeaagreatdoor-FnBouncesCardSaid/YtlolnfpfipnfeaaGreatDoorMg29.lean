import Derived.Test.YtlolnfpfipnfeaaGreatDoorMg28
import Derived.Test.YtlolnfpfipnfeaaGreatDoorMg22
import Derived.Shelf.Strconv.Itoa3
import Derived.Lib.AppendIntMem
import Derived.Test.YtlolnfpfipnfeaaGreatDoorMg2
import Derived.Test.YtlolnfpfipnfeaaGreatDoorMg8
namespace Go.Proofs.YtlolnfpfipnfeaaGreatDoor
open Go.ChangeShapes Go.WideShapes Go.ChangeAt Go.RowKit
open Pcs

/-- what the library's own tables and variables hold -/
structure Env (w : World) : Prop where
  len : LenIn w
  pow : Lib.TabIs Tryz.prog w "internal/strconv.uint64pow10" .u64 Lib.pow10Tab
  syn : ∃ ev, w.cell? ⟨2, 0, none⟩ = some ev ∧ (ev = .nilIface ∨ ∃ te pe, ev = .iface te pe)
  ran : ∃ ev, w.cell? ⟨3, 0, none⟩ = some ev ∧ (ev = .nilIface ∨ ∃ te pe, ev = .iface te pe)
theorem Env.below {w w1 : World} (h : Env w) (hb : Below w.heap.size w w1) : Env w1 := by
  refine ⟨len_below h.len hb, ?_, ?_, ?_⟩
  · have hp := h.pow
    unfold Lib.TabIs World.var? at *
    cases hg : Tryz.prog.globalNamed "internal/strconv.uint64pow10" with
    | none => simp [hg] at hp
    | some g =>
      simp only [hg, Option.bind_some] at hp ⊢
      have hlt : g < w.heap.size := by
        rcases Nat.lt_or_ge g w.heap.size with h' | h'
        · exact h'
        · rw [Array.getElem?_eq_none h'] at hp; simp at hp
      rw [hb.block g hlt]
      exact hp
  · obtain ⟨ev, h1, h2⟩ := h.syn
    exact ⟨ev, (hb.cell (p := ⟨2, 0, none⟩) (Lib.lt_of_cell h1)).trans h1, h2⟩
  · obtain ⟨ev, h1, h2⟩ := h.ran
    exact ⟨ev, (hb.cell (p := ⟨3, 0, none⟩) (Lib.lt_of_cell h1)).trans h1, h2⟩
theorem implItoa (n : Int) (w : World) (h : Env w) (h0 : 0 ≤ n) (h1 : n ≤ 9223372036854775807) :
    Calls Tryz.prog 36 #[.int .i64 n] w fun e w' => e = .returned (.string ⟨(Lib.itoa n).toArray⟩) ∧ Below w.heap.size w w' := by
  refine (Any.strconv_Itoa Tryz.laysM171 n (by omega) h1 w h.pow).mono ?_
  rintro e w' ⟨rfl, k, os, rfl⟩
  exact ⟨rfl, Lib.below_grow _ w (Nat.le_refl _) k os⟩

theorem contains_free {h : ByteArray} (hb : bodyOk h = true) (k : Nat) : Lib.contains ((⟨#[13, 10]⟩ : ByteArray) ++ h).data.toList ((⟨#[13, 10, 45, 45]⟩ : ByteArray) ++ cutB k).data.toList = !freeN (linesB h) k := by
  have hl := body_lines hb
  have e1 : ((⟨#[13, 10]⟩ : ByteArray) ++ h).data.toList = 13 :: 10 :: flatL (linesB h) := by rw [← hl.1]; simp
  have e2 : ((⟨#[13, 10, 45, 45]⟩ : ByteArray) ++ cutB k).data.toList = 13 :: 10 :: (45 :: 45 :: cutL k) := by
    have := cutB_list k
    simp [this]
  rw [e1, e2, con_lines _ (no_cons (by decide) (no_cons (by decide) (cut_low k (by decide)))) (by simp) _ hl.2.1]
  unfold freeN
  rw [List.all_eq_not_any_not, Bool.not_not]
  congr 1
  funext m
  unfold takes cutL
  simp

set_option maxHeartbeats 2000000 in
set_option maxRecDepth 100000 in
theorem implBound (h : ByteArray) (w : World) (he : Env w) (hb : bodyOk h = true) (hs : h.size ≤ 3000) :
    Calls Tryz.prog 14 #[.string h] w fun e w' => e = .returned (.string (mk (cutL (bndI (linesB h))))) ∧ Below w.heap.size w w' := by
  have HN : Hid ((linesB h).length < 9000) := Nat.lt_of_le_of_lt (body_lines hb).2.2.2 (by decide)
  have HC : Hid (∀ k, Lib.contains ((⟨#[13, 10]⟩ : ByteArray) ++ h).data.toList ((⟨#[13, 10, 45, 45]⟩ : ByteArray) ++ cutB k).data.toList = !freeN (linesB h) k) := contains_free hb
  have HBI : Hid (∀ n, (∀ j, j < n → freeN (linesB h) j = false) → freeN (linesB h) n = true → bndI (linesB h) = n) := fun n h1 h2 => bndI_at HN.out h1 h2
  have HRM : Hid (∀ n, (∀ j, j < n → freeN (linesB h) j = false) → n < 10000) := fun n h1 => bnd_room HN.out h1
  have HE : Hid (Env w) := he
  clear he HN
  generalize bndI (linesB h) = R at *
  generalize linesB h = M at *
  go_enter Tryz.func14, Tryz.ntmps14
  go_wp2_with fail
  go_loopw [3] (fun kv wr => ∃ k : Nat, kv = .int .i64 k ∧ Hid (Below w.heap.size w wr) ∧ Hid (∀ j, j < k → freeN M j = false)) (fun kv _ => 10001 - (intOf kv).toNat)
  case atStart => exact ⟨0, rfl, Below.refl _ _, fun j hj => absurd hj (Nat.not_lt_zero _)⟩
  case round =>
    obtain ⟨k, rfl, HB, HF⟩ := hrel
    have hk := HRM.out k HF.out
    have hcs := cutB_size (k := k) hk
    have HI : Hid (Calls Tryz.prog 36 #[.int .i64 (k : Int)] wr fun e w' => e = .returned (.string ⟨(Lib.decDigits k).toArray⟩) ∧ Below wr.heap.size wr w') := by
      have := implItoa k wr (HE.out.below HB.out) (by omega) (by omega)
      rw [Lib.itoa_nonneg] at this
      exact this
    have HCE : Hid ((⟨#[98]⟩ : ByteArray) ++ ⟨(Lib.decDigits k).toArray⟩ = cutB k) := rfl
    have HCM : Hid (cutB k = mk (cutL k)) := cutB_mk k
    have HK : Hid (Lib.contains ((⟨#[13, 10]⟩ : ByteArray) ++ h).data.toList ((⟨#[13, 10, 45, 45]⟩ : ByteArray) ++ cutB k).data.toList = !freeN M k) := HC.out k
    have hds : (⟨(Lib.decDigits k).toArray⟩ : ByteArray).size ≤ 9 := by
      have : (cutB k).size = 1 + (⟨(Lib.decDigits k).toArray⟩ : ByteArray).size := by unfold cutB; rw [ByteArray.size_append]; rfl
      omega
    generalize (⟨(Lib.decDigits k).toArray⟩ : ByteArray) = D at *
    go_wp2_with fail
    refine HI.out.mono ?_
    rintro e w2 ⟨rfl, hb2⟩
    have HB2 : Hid (Below w.heap.size w w2) := HB.out.trans (hb2.mono HB.out.size)
    clear hb2 HI HB
    go_wp2_with fail
    rw [HCE.out]
    generalize cutB k = C at *
    have HCO : Hid (Calls Tryz.prog 37 #[.string ((⟨#[13, 10]⟩ : ByteArray) ++ h), .string ((⟨#[13, 10, 45, 45]⟩ : ByteArray) ++ C)] w2 fun e w' => e = .returned (.bool (!freeN M k)) ∧ w' = w2) := by
      have := implContains ((⟨#[13, 10]⟩ : ByteArray) ++ h) ((⟨#[13, 10, 45, 45]⟩ : ByteArray) ++ C) w2 (HE.out.below HB2.out).len (by rw [ByteArray.size_append]; have : (⟨#[13, 10]⟩ : ByteArray).size = 2 := rfl; omega)
      rw [HK.out] at this
      exact this
    clear HK
    cases hf : freeN M k
    · rw [hf] at HCO
      have HF2 : Hid (∀ j, j < k + 1 → freeN M j = false) := by
        intro j hj
        by_cases e : j = k
        · subst e; exact hf
        · exact HF.out j (by omega)
      clear HF hf
      go_wp2_with fail
      refine HCO.out.mono ?_
      rintro e w3 ⟨rfl, rfl⟩
      go_wp2
      go_roundw
      case rel => exact ⟨k + 1, by go_num, HB2, HF2⟩
      case measure => simp [intOf]; omega
    · rw [hf] at HCO
      have GR : Hid (R = k) := HBI.out k HF.out hf
      clear HF hf
      go_wp2_with fail
      refine HCO.out.mono ?_
      rintro e w3 ⟨rfl, rfl⟩
      go_wp2
      go_ret
      exact ⟨ret_str (by rw [HCM.out, GR.out]), HB2.out⟩
end Go.Proofs.YtlolnfpfipnfeaaGreatDoor
namespace Go.Proofs.YtlolnfpfipnfeaaGreatDoor
open Go.ChangeShapes Go.WideShapes Go.ChangeAt Go.RowKit
open Pcs

/-- a report's reader in block b -/
abbrev rdC (y0 y1 y2 y3 y4 : Value) (r : List UInt8) : Array Value := #[y0, y1, y2, y3, y4, .string (mk r)]
theorem ln_size (r : List UInt8) : (lnI r).1.length ≤ r.length ∧ (lnI r).2.length ≤ r.length := by
  unfold lnI Lib.cut
  split
  · exact ⟨by simp; omega, by simp⟩
  · exact ⟨Nat.le_refl _, by simp⟩
theorem sk_size : ∀ (n : Nat) (r : List UInt8), (skI n r).length ≤ r.length
  | 0, _ => Nat.le_refl _
  | n + 1, r => Nat.le_trans (sk_size n _) (ln_size r).2
theorem trimP_size (s p : List UInt8) : (Lib.trimPrefix s p).length ≤ s.length := by
  unfold Lib.trimPrefix; split <;> simp
theorem trimS_size (s p : List UInt8) : (Lib.trimSuffix s p).length ≤ s.length := by
  unfold Lib.trimSuffix; split
  · simp
  · exact Nat.le_refl _
theorem fd_size (p s l : List UInt8) : (fdI p s l).length ≤ l.length := Nat.le_trans (trimS_size _ _) (trimP_size _ _)
theorem Blk.drewR {b : Nat} {X : Array Value} {w : World} (h : Blk b X w) (n : Nat) : Blk b X (w.drewN n) := ⟨h.lt, h.cell, h.free⟩
theorem LenIn.drewR {w : World} (h : LenIn w) (n : Nat) : LenIn (w.drewN n) := h

set_option maxHeartbeats 1000000 in
set_option maxRecDepth 100000 in
theorem rLine (b : Nat) (y0 y1 y2 y3 y4 : Value) (r : List UInt8) (lead tail : ByteArray) (w : World) (hl : LenIn w) (h : Blk b (rdC y0 y1 y2 y3 y4 r) w) (hr : r.length ≤ 1048576) :
    Calls Tryz.prog 49 #[.pointer (some ⟨b, 0, none⟩), .string lead, .string tail] w fun e w' => e = .returned (.string (mk (fdI lead.data.toList tail.data.toList (lnI r).1))) ∧ Blk b (rdC y0 y1 y2 y3 y4 (lnI r).2) w' ∧ Off b w w' := by
  have c5 : w.cell? ⟨b, 5, none⟩ = some (.string (mk r)) := h.cell 5
  have f5 : w.frozen? ⟨b, 5, none⟩ = false := h.free 5
  have HB : Hid (Blk b (rdC y0 y1 y2 y3 y4 r) w) := h
  have HL : Hid (LenIn w) := hl
  have hrs : (mk r).size ≤ 1048576 := by rw [mk_size]; exact hr
  clear h hl
  go_enter Tryz.func49, Tryz.ntmps49
  go_wp2_with fail
  refine (implCut (mk r) ⟨#[13, 10]⟩ _ HL.out hrs).mono ?_
  rintro e w1 ⟨A, R, f, n, rfl, rfl, HC, hA, hR⟩
  have EA : Hid (A.data.toList = (lnI r).1) := by show _ = _; rw [← HC.out.1]; rfl
  have ER : Hid (R = mk (lnI r).2) := HC.out.2.1.symm
  clear HC
  have d5 : (w.drewN n).cell? ⟨b, 5, none⟩ = some (.string (mk r)) := c5
  have g5 : (w.drewN n).frozen? ⟨b, 5, none⟩ = false := f5
  have HP : Hid (∀ wx : World, Calls Tryz.prog 68 #[.string A, .string lead] wx fun e w' => e = .returned (.string (mk (Lib.trimPrefix A.data.toList lead.data.toList))) ∧ w' = wx) := fun wx => Any.strings_TrimPrefix Tryz.lays101 A lead wx
  obtain ⟨T, hT⟩ : ∃ T, mk (Lib.trimPrefix A.data.toList lead.data.toList) = T := ⟨_, rfl⟩
  have HTl : Hid (T.data.toList = Lib.trimPrefix A.data.toList lead.data.toList) := by show _ = _; rw [← hT]; rfl
  have hTs : T.size ≤ 1048576 := by
    rw [Lib.size_eq, HTl.out]
    have h1 := trimP_size A.data.toList lead.data.toList
    rw [← Lib.size_eq] at h1
    omega
  rw [hT] at HP
  have HS : Hid (∀ wx : World, Calls Tryz.prog 52 #[.string T, .string tail] wx fun e w' => e = .returned (.string (mk (Lib.trimSuffix T.data.toList tail.data.toList))) ∧ w' = wx) := fun wx => Any.strings_TrimSuffix Tryz.lays102 T tail wx (by omega)
  clear hT
  go_wp2_with fail
  refine (HP.out _).mono ?_
  rintro e w2 ⟨rfl, hw2⟩
  rw [hw2]
  clear hw2
  go_wp2_with fail
  refine (HS.out _).mono ?_
  rintro e w3 ⟨rfl, hw3⟩
  rw [hw3]
  clear hw3
  go_wp2
  go_ret
  refine ⟨ret_str (by rw [HTl.out, EA.out]; rfl), ?_, ((Off.refl b w).drewN n).setCell _⟩
  have := (HB.out.drewR n).set (i := 5) (v := .string R) (by simp)
  rw [ER.out] at this ⊢
  exact this

set_option maxHeartbeats 1000000 in
set_option maxRecDepth 100000 in
theorem rSkip (b : Nat) (y0 y1 y2 y3 y4 : Value) (r : List UInt8) (n : Nat) (w : World) (hb : ∀ wx, Off b w wx → LenIn wx) (h : Blk b (rdC y0 y1 y2 y3 y4 r) w) (hr : r.length ≤ 1048576) (hn : n ≤ 10) :
    Calls Tryz.prog 48 #[.pointer (some ⟨b, 0, none⟩), .int .i64 (n : Int)] w fun e w' => e = .returned (.tuple #[]) ∧ Blk b (rdC y0 y1 y2 y3 y4 (skI n r)) w' ∧ Off b w w' := by
  have HB : Hid (Blk b (rdC y0 y1 y2 y3 y4 r) w) := h
  have HL : Hid (∀ wx, Off b w wx → LenIn wx) := hb
  clear h hb
  go_enter Tryz.func48, Tryz.ntmps48
  go_wp2_with fail
  go_loopw [5] (fun iv wr => ∃ k : Nat, k ≤ n ∧ iv = .int .i64 k ∧ Hid (∃ q, q.length ≤ 1048576 ∧ Blk b (rdC y0 y1 y2 y3 y4 q) wr ∧ skI (n - k) q = skI n r) ∧ Hid (Off b w wr)) (fun iv _ => n - (intOf iv).toNat)
  case atStart => exact ⟨0, Nat.zero_le _, rfl, ⟨r, hr, HB.out, rfl⟩, Off.refl _ _⟩
  case round =>
    obtain ⟨k, hk, rfl, HQ, HO⟩ := hrel
    by_cases hlt : k < n
    · obtain ⟨q, hq, hqb, hqe⟩ := HQ.out
      have HqB : Hid (Blk b (rdC y0 y1 y2 y3 y4 q) wr) := hqb
      have HqE : Hid (skI (n - (k + 1)) (lnI q).2 = skI n r) := by
        show _ = _
        rw [← hqe, show n - k = (n - (k + 1)) + 1 by omega]
        rfl
      clear hqb hqe HQ
      go_wp2_with fail
      refine (rLine b y0 y1 y2 y3 y4 q ⟨#[]⟩ ⟨#[]⟩ _ (HL.out _ HO.out) HqB.out hq).mono ?_
      rintro e w2 ⟨rfl, h2, ho2⟩
      have HQ2 : Hid (∃ q, q.length ≤ 1048576 ∧ Blk b (rdC y0 y1 y2 y3 y4 q) w2 ∧ skI (n - (k + 1)) q = skI n r) := ⟨(lnI q).2, Nat.le_trans (ln_size q).2 hq, h2, HqE.out⟩
      have HO2 : Hid (Off b w w2) := HO.out.trans ho2
      clear h2 ho2 HqB
      go_wp2
      go_roundw
      case rel => exact ⟨k + 1, by omega, by go_num, HQ2, HO2⟩
      case measure => simp [intOf]; omega
    · obtain rfl : k = n := by omega
      obtain ⟨q, hq, hqb, hqe⟩ := HQ.out
      have HqB : Hid (Blk b (rdC y0 y1 y2 y3 y4 (skI k r)) wr) := by
        show Blk _ _ _
        rw [← hqe, Nat.sub_self]
        exact hqb
      clear hqb hqe HQ
      go_wp2
      go_end0
      exact ⟨rfl, HqB.out, HO.out⟩
end Go.Proofs.YtlolnfpfipnfeaaGreatDoor
