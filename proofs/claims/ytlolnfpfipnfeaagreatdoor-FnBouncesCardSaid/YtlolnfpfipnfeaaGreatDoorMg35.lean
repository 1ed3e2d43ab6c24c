import Derived.Test.YtlolnfpfipnfeaaGreatDoorMg33
import Derived.Test.YtlolnfpfipnfeaaGreatDoorMg34
import Derived.Test.YtlolnfpfipnfeaaGreatDoorMg30
import Derived.Deep.AppendLies
namespace Go.Proofs.YtlolnfpfipnfeaaGreatDoor
open Go.ChangeShapes Go.WideShapes Go.ChangeAt Go.RowKit
open Pcs

theorem part_len (bd k : ByteArray) (hk : k.size ≤ 100) (hb : bd.size ≤ 100) : (flatL [45 :: 45 :: bd.data.toList, partL ++ k.data.toList, []]).length ≤ 1000 := by
  have e : (flatL [45 :: 45 :: bd.data.toList, partL ++ k.data.toList, []]).length = bd.size + k.size + 22 := by
    rw [Lib.size_eq, Lib.size_eq]; simp [flatL, partL]; omega
  omega
theorem itoa_len {cd : Int} (h0 : 0 ≤ cd) (h1 : cd ≤ 1000) : (Lib.itoa cd).length ≤ 4 := by
  have := dec_len 4 cd.toNat (by omega) (by decide)
  unfold Lib.itoa
  rw [if_neg (by omega)]
  exact this
theorem fl_len {f : Fl} (h : FlZ f) (h0 : 0 ≤ f.cd) (h1 : f.cd ≤ 1000) : (flatL (flLines f)).length ≤ 4000000 := by
  have h2 := itoa_len h0 h1
  have h3 := h.rc
  have h4 := h.st
  have h5 := h.tx
  rw [Lib.size_eq] at h3 h4 h5
  simp only [flatL, flLines, rcL, acL, stL, dgL, List.map_cons, List.map_nil, List.flatten_cons, List.flatten_nil, List.length_append, List.length_cons, List.length_nil]
  omega
theorem flat_take (L : List Fl) (k : Nat) (h : k < L.length) : flatL ((L.take (k + 1)).map flLines).flatten = flatL ((L.take k).map flLines).flatten ++ flatL (flLines L[k]) := by
  rw [List.take_succ_eq_append_getElem h, List.map_append, List.flatten_append, flatL_app]
  simp
def bdB : ByteArray := ⟨#[67, 111, 110, 116, 101, 110, 116, 45, 84, 121, 112, 101, 58, 32, 109, 117, 108, 116, 105, 112, 97, 114, 116, 47, 114, 101, 112, 111, 114, 116, 59, 32, 114, 101, 112, 111, 114, 116, 45, 116, 121, 112, 101, 61, 100, 101, 108, 105, 118, 101, 114, 121, 45, 115, 116, 97, 116, 117, 115, 59, 32, 98, 111, 117, 110, 100, 97, 114, 121, 61, 34]⟩
theorem bdB_list : bdB.data.toList = bdL := rfl
theorem bdB_size : bdB.size = 71 := rfl

set_option maxHeartbeats 4000000 in
set_option maxRecDepth 100000 in
theorem wAll (B b : Nat) (dm tw hd bd : ByteArray) (a : Option Addr) (c : Nat) (L : List Fl) (lo : Nat) (w w0 : World) (he : Env w0) (hw0 : Below w0.heap.size w0 w) (hlo : w0.heap.size ≤ b)
    (h : Wr B b (.string dm) (.string tw) (.slice a L.length c) (.string hd) (.string bd) [] w) (hfl : Fls w lo (.slice a L.length c) L) (hg : ∀ g, (Value.slice a L.length c).ownBlock = some g → g < b)
    (hz : BnZ ⟨dm, tw, L, hd⟩) (hbd : bd.size ≤ 100) (hL : L.length ≤ 20) (hcd : ∀ f ∈ L, 0 ≤ f.cd ∧ f.cd ≤ 1000) :
    Calls Tryz.prog 15 #[.pointer (some ⟨b, 0, none⟩)] w fun e w' => e = .returned (.tuple #[]) ∧ Wr B b (.string dm) (.string tw) (.slice a L.length c) (.string hd) (.string bd) (bnText ⟨dm, tw, L, hd⟩ bd.data.toList) w' ∧ Besides B b w w' := by
  obtain ⟨z1, z2, z3, z4, z5⟩ := hz
  dsimp only at z1 z2 z3 z4 z5
  have hBw : B ≤ w.heap.size := h.choose_spec.choose_spec.2.2.2.2
  have hbB : b < B := h.choose_spec.choose_spec.2.2.2.1
  obtain ⟨l, hl0⟩ : ∃ l : List UInt8, [] = l := ⟨_, rfl⟩
  have n0 : l.length = 0 := by rw [← hl0]; rfl
  rw [hl0] at h
  have HL0 : Hid ([] = l) := hl0
  have HW0 : Hid (Wr B b (.string dm) (.string tw) (.slice a L.length c) (.string hd) (.string bd) l w) := h
  obtain ⟨c0, c1, c2, c3, c4⟩ := h.cells
  have HFL : Hid (Fls w lo (.slice a L.length c) L) := hfl
  have HG : Hid (∀ g, (Value.slice a L.length c).ownBlock = some g → g < b) := hg
  have HE : Hid (∀ wx, Besides B b w wx → Below w0.heap.size w0 wx) := fun wx hx => hw0.trans (hx.below hlo (by omega))
  have HE0 : Hid (Env w0) := he
  have HZ4 : Hid (∀ f ∈ L, FlZ f) := z4
  have HCD : Hid (∀ f ∈ L, 0 ≤ f.cd ∧ f.cd ≤ 1000) := hcd
  clear h hl0 hfl hg he hw0 z4 hcd
  have eF : (⟨#[70, 114, 111, 109, 58, 32, 60, 62]⟩ : ByteArray).size = 8 := rfl
  have eT : (⟨#[84, 111, 58, 32, 60]⟩ : ByteArray).size = 5 := rfl
  have eS : (⟨#[83, 117, 98, 106, 101, 99, 116, 58, 32, 85, 110, 100, 101, 108, 105, 118, 101, 114, 101, 100, 32, 109, 97, 105, 108]⟩ : ByteArray).size = 25 := rfl
  have eR : (⟨#[82, 101, 112, 111, 114, 116, 105, 110, 103, 45, 77, 84, 65, 58, 32, 100, 110, 115, 59, 32]⟩ : ByteArray).size = 20 := rfl
  have eB : (bdB : ByteArray).size = 71 := bdB_size
  have e1 : (⟨#[62]⟩ : ByteArray).size = 1 := rfl
  have e1' : (⟨#[34]⟩ : ByteArray).size = 1 := rfl
  have e2 : (⟨#[45, 45]⟩ : ByteArray).size = 2 := rfl
  have e0 : (⟨#[]⟩ : ByteArray).size = 0 := rfl
  go_enter Tryz.func15, Tryz.ntmps15
  go_wp2_with fail
  clear c0 c1 c2 c3 c4
  refine (wLine B b (.string dm) (.string tw) (.slice a L.length c) (.string hd) (.string bd) l (⟨#[70, 114, 111, 109, 58, 32, 60, 62]⟩) _ HW0.out (by decide) (by omega)).mono ?_
  rintro e w1 ⟨rfl, h1, hb1⟩
  obtain ⟨l1, Er⟩ : ∃ l1, l ++ ((⟨#[70, 114, 111, 109, 58, 32, 60, 62]⟩ : ByteArray).data.toList ++ [13, 10]) = l1 := ⟨_, rfl⟩
  have E1 : Hid (l ++ ((⟨#[70, 114, 111, 109, 58, 32, 60, 62]⟩ : ByteArray).data.toList ++ [13, 10]) = l1) := Er
  clear Er
  have n1 : l1.length ≤ l.length + 10 := by
    rw [← E1.out]
    rw [len_line]
    omega
  rw [E1.out] at h1
  have HW1 : Hid (Wr B b (.string dm) (.string tw) (.slice a L.length c) (.string hd) (.string bd) l1 w1) := h1
  have HB1 : Hid (Besides B b w w1) := hb1
  obtain ⟨c0, c1, c2, c3, c4⟩ := HW1.out.cells
  clear h1 hb1
  go_wp2_with fail
  clear c0 c1 c2 c3 c4
  refine (wLine B b (.string dm) (.string tw) (.slice a L.length c) (.string hd) (.string bd) l1 ((⟨#[84, 111, 58, 32, 60]⟩ : ByteArray) ++ tw ++ (⟨#[62]⟩ : ByteArray)) _ HW1.out (by rw [ByteArray.size_append, ByteArray.size_append]; omega) (by omega)).mono ?_
  rintro e w2 ⟨rfl, h2, hb2⟩
  obtain ⟨l2, Er⟩ : ∃ l2, l1 ++ (((⟨#[84, 111, 58, 32, 60]⟩ : ByteArray) ++ tw ++ (⟨#[62]⟩ : ByteArray) : ByteArray).data.toList ++ [13, 10]) = l2 := ⟨_, rfl⟩
  have E2 : Hid (l1 ++ (((⟨#[84, 111, 58, 32, 60]⟩ : ByteArray) ++ tw ++ (⟨#[62]⟩ : ByteArray) : ByteArray).data.toList ++ [13, 10]) = l2) := Er
  clear Er
  have n2 : l2.length ≤ l1.length + 1048600 := by
    rw [← E2.out]
    rw [len_line, ByteArray.size_append, ByteArray.size_append]
    omega
  rw [E2.out] at h2
  have HW2 : Hid (Wr B b (.string dm) (.string tw) (.slice a L.length c) (.string hd) (.string bd) l2 w2) := h2
  have HB2 : Hid (Besides B b w w2) := HB1.out.trans hb2
  obtain ⟨c0, c1, c2, c3, c4⟩ := HW2.out.cells
  clear h2 hb2
  go_wp2_with fail
  clear c0 c1 c2 c3 c4
  refine (wLine B b (.string dm) (.string tw) (.slice a L.length c) (.string hd) (.string bd) l2 (⟨#[83, 117, 98, 106, 101, 99, 116, 58, 32, 85, 110, 100, 101, 108, 105, 118, 101, 114, 101, 100, 32, 109, 97, 105, 108]⟩) _ HW2.out (by decide) (by omega)).mono ?_
  rintro e w3 ⟨rfl, h3, hb3⟩
  obtain ⟨l3, Er⟩ : ∃ l3, l2 ++ ((⟨#[83, 117, 98, 106, 101, 99, 116, 58, 32, 85, 110, 100, 101, 108, 105, 118, 101, 114, 101, 100, 32, 109, 97, 105, 108]⟩ : ByteArray).data.toList ++ [13, 10]) = l3 := ⟨_, rfl⟩
  have E3 : Hid (l2 ++ ((⟨#[83, 117, 98, 106, 101, 99, 116, 58, 32, 85, 110, 100, 101, 108, 105, 118, 101, 114, 101, 100, 32, 109, 97, 105, 108]⟩ : ByteArray).data.toList ++ [13, 10]) = l3) := Er
  clear Er
  have n3 : l3.length ≤ l2.length + 30 := by
    rw [← E3.out]
    rw [len_line]
    omega
  rw [E3.out] at h3
  have HW3 : Hid (Wr B b (.string dm) (.string tw) (.slice a L.length c) (.string hd) (.string bd) l3 w3) := h3
  have HB3 : Hid (Besides B b w w3) := HB2.out.trans hb3
  obtain ⟨c0, c1, c2, c3, c4⟩ := HW3.out.cells
  clear h3 hb3
  go_wp2_with fail
  clear c0 c1 c2 c3 c4
  refine (wLine B b (.string dm) (.string tw) (.slice a L.length c) (.string hd) (.string bd) l3 (bdB ++ bd ++ (⟨#[34]⟩ : ByteArray)) _ HW3.out (by rw [ByteArray.size_append, ByteArray.size_append]; omega) (by omega)).mono ?_
  rintro e w4 ⟨rfl, h4, hb4⟩
  obtain ⟨l4, Er⟩ : ∃ l4, l3 ++ ((bdB ++ bd ++ (⟨#[34]⟩ : ByteArray) : ByteArray).data.toList ++ [13, 10]) = l4 := ⟨_, rfl⟩
  have E4 : Hid (l3 ++ ((bdB ++ bd ++ (⟨#[34]⟩ : ByteArray) : ByteArray).data.toList ++ [13, 10]) = l4) := Er
  clear Er
  have n4 : l4.length ≤ l3.length + 200 := by
    rw [← E4.out]
    rw [len_line, ByteArray.size_append, ByteArray.size_append]
    omega
  rw [E4.out] at h4
  have HW4 : Hid (Wr B b (.string dm) (.string tw) (.slice a L.length c) (.string hd) (.string bd) l4 w4) := h4
  have HB4 : Hid (Besides B b w w4) := HB3.out.trans hb4
  obtain ⟨c0, c1, c2, c3, c4⟩ := HW4.out.cells
  clear h4 hb4
  go_wp2_with fail
  clear c0 c1 c2 c3 c4
  refine (wLine B b (.string dm) (.string tw) (.slice a L.length c) (.string hd) (.string bd) l4 (⟨#[]⟩) _ HW4.out (by decide) (by omega)).mono ?_
  rintro e w5 ⟨rfl, h5, hb5⟩
  obtain ⟨l5, Er⟩ : ∃ l5, l4 ++ ((⟨#[]⟩ : ByteArray).data.toList ++ [13, 10]) = l5 := ⟨_, rfl⟩
  have E5 : Hid (l4 ++ ((⟨#[]⟩ : ByteArray).data.toList ++ [13, 10]) = l5) := Er
  clear Er
  have n5 : l5.length ≤ l4.length + 2 := by
    rw [← E5.out]
    rw [len_line]
    omega
  rw [E5.out] at h5
  have HW5 : Hid (Wr B b (.string dm) (.string tw) (.slice a L.length c) (.string hd) (.string bd) l5 w5) := h5
  have HB5 : Hid (Besides B b w w5) := HB4.out.trans hb5
  obtain ⟨c0, c1, c2, c3, c4⟩ := HW5.out.cells
  clear h5 hb5
  go_wp2_with fail
  clear c0 c1 c2 c3 c4
  refine (wPart B b (.string dm) (.string tw) (.slice a L.length c) (.string hd) bd l5 ⟨#[109, 101, 115, 115, 97, 103, 101, 47, 100, 101, 108, 105, 118, 101, 114, 121, 45, 115, 116, 97, 116, 117, 115]⟩ _ HW5.out (by decide) (by omega) (by omega)).mono ?_
  rintro e w6 ⟨rfl, h6, hb6⟩
  obtain ⟨l6, Er⟩ : ∃ l6, l5 ++ (flatL [45 :: 45 :: bd.data.toList, partL ++ (⟨#[109, 101, 115, 115, 97, 103, 101, 47, 100, 101, 108, 105, 118, 101, 114, 121, 45, 115, 116, 97, 116, 117, 115]⟩ : ByteArray).data.toList, []]) = l6 := ⟨_, rfl⟩
  have E6 : Hid (l5 ++ (flatL [45 :: 45 :: bd.data.toList, partL ++ (⟨#[109, 101, 115, 115, 97, 103, 101, 47, 100, 101, 108, 105, 118, 101, 114, 121, 45, 115, 116, 97, 116, 117, 115]⟩ : ByteArray).data.toList, []]) = l6) := Er
  clear Er
  have n6 : l6.length ≤ l5.length + 2000 := by
    rw [← E6.out]
    have hx := part_len bd ⟨#[109, 101, 115, 115, 97, 103, 101, 47, 100, 101, 108, 105, 118, 101, 114, 121, 45, 115, 116, 97, 116, 117, 115]⟩ (by decide) (by omega)
    rw [List.length_append]
    omega
  rw [E6.out] at h6
  have HW6 : Hid (Wr B b (.string dm) (.string tw) (.slice a L.length c) (.string hd) (.string bd) l6 w6) := h6
  have HB6 : Hid (Besides B b w w6) := HB5.out.trans hb6
  obtain ⟨c0, c1, c2, c3, c4⟩ := HW6.out.cells
  clear h6 hb6
  go_wp2_with fail
  clear c0 c1 c2 c3 c4
  refine (wLine B b (.string dm) (.string tw) (.slice a L.length c) (.string hd) (.string bd) l6 ((⟨#[82, 101, 112, 111, 114, 116, 105, 110, 103, 45, 77, 84, 65, 58, 32, 100, 110, 115, 59, 32]⟩ : ByteArray) ++ dm) _ HW6.out (by rw [ByteArray.size_append]; omega) (by omega)).mono ?_
  rintro e w7 ⟨rfl, h7, hb7⟩
  obtain ⟨l7, Er⟩ : ∃ l7, l6 ++ (((⟨#[82, 101, 112, 111, 114, 116, 105, 110, 103, 45, 77, 84, 65, 58, 32, 100, 110, 115, 59, 32]⟩ : ByteArray) ++ dm : ByteArray).data.toList ++ [13, 10]) = l7 := ⟨_, rfl⟩
  have E7 : Hid (l6 ++ (((⟨#[82, 101, 112, 111, 114, 116, 105, 110, 103, 45, 77, 84, 65, 58, 32, 100, 110, 115, 59, 32]⟩ : ByteArray) ++ dm : ByteArray).data.toList ++ [13, 10]) = l7) := Er
  clear Er
  have n7 : l7.length ≤ l6.length + 1048600 := by
    rw [← E7.out]
    rw [len_line, ByteArray.size_append]
    omega
  rw [E7.out] at h7
  have HW7 : Hid (Wr B b (.string dm) (.string tw) (.slice a L.length c) (.string hd) (.string bd) l7 w7) := h7
  have HB7 : Hid (Besides B b w w7) := HB6.out.trans hb7
  obtain ⟨c0, c1, c2, c3, c4⟩ := HW7.out.cells
  clear h7 hb7
  go_wp2_with fail
  clear c0 c1 c2 c3 c4
  go_loopw [47] (fun iv wr => ∃ k : Nat, k ≤ L.length ∧ iv = .int .i64 k ∧ Hid (Wr B b (.string dm) (.string tw) (.slice a L.length c) (.string hd) (.string bd) (l7 ++ flatL ((L.take k).map flLines).flatten) wr) ∧ Hid (Besides B b w wr) ∧ Hid ((l7 ++ flatL ((L.take k).map flLines).flatten).length ≤ l7.length + k * 4000000)) (fun iv _ => L.length - (intOf iv).toNat)
  case atStart => exact ⟨0, Nat.zero_le _, rfl, by show Wr _ _ _ _ _ _ _ _ _; simpa [flatL] using HW7.out, HB7, by show _ ≤ _; simp [flatL]⟩
  case round =>
    obtain ⟨k, hk, rfl, HWk, HBk, HNk⟩ := hrel
    by_cases hlt : k < L.length
    · obtain ⟨g, cap, hv, A1⟩ : ∃ g cap, (Value.slice a L.length c) = .slice (some ⟨g, 0, none⟩) L.length cap ∧ FlsAt w lo g cap L := by
        rcases HFL.out.cases with ⟨_, h0⟩ | h0
        · rw [h0] at hlt; exact absurd hlt (Nat.not_lt_zero _)
        · exact h0
      have hgb : g < b := HG.out g (by rw [hv]; rfl)
      injection hv with hv1 _ hv3
      subst hv1 hv3
      have hX := A1.cell k hlt
      have hbl := HBk.out.block g (by omega) (by omega)
      have e0 := (World.cell?_of_block (w := w) (a := ⟨g, k * 4, none⟩) hbl).trans hX.1
      have e1 := (World.cell?_of_block (w := w) (a := ⟨g, k * 4 + 1, none⟩) hbl).trans hX.2.1
      have e2 := (World.cell?_of_block (w := w) (a := ⟨g, k * 4 + 2, none⟩) hbl).trans hX.2.2.1
      have e3 := (World.cell?_of_block (w := w) (a := ⟨g, k * 4 + 3, none⟩) hbl).trans hX.2.2.2
      have hcap := A1.len
      have hcap2 := A1.cap
      unfold maxLen at hcap2
      have HFZ := HZ4.out L[k] (List.getElem_mem hlt)
      have HCk := HCD.out L[k] (List.getElem_mem hlt)
      have HT : Hid (flatL ((L.take (k + 1)).map flLines).flatten = flatL ((L.take k).map flLines).flatten ++ flatL (flLines L[k])) := flat_take L k hlt
      have HLn : Hid ((flatL (flLines L[k])).length ≤ 4000000) := fl_len HFZ HCk.1 HCk.2
      generalize hXE : L[k] = X at *
      obtain ⟨rc, st, cd, tx⟩ := X
      dsimp only at e0 e1 e2 e3
      clear hX A1 hbl
      go_upto_region 10 with fail
      generalize hV : wr.alloc _ = Vw
      have hbV : Below wr.heap.size wr Vw := by rw [← hV]; exact below1 _ _
      have HVB : Hid (Blk wr.heap.size #[.string rc, .string st, .int .i64 cd, .string tx] Vw) := by show Blk _ _ _; rw [← hV]; exact Blk.new _ _ _
      have v0 : Vw.cell? ⟨wr.heap.size, 0, none⟩ = some (.string rc) := HVB.out.cell 0
      have v1 : Vw.cell? ⟨wr.heap.size, 1, none⟩ = some (.string st) := HVB.out.cell 1
      have v2 : Vw.cell? ⟨wr.heap.size, 2, none⟩ = some (.int .i64 cd) := HVB.out.cell 2
      have v3 : Vw.cell? ⟨wr.heap.size, 3, none⟩ = some (.string tx) := HVB.out.cell 3
      have HWV : Hid (Wr B b (.string dm) (.string tw) (.slice (some ⟨g, 0, none⟩) L.length c) (.string hd) (.string bd) (l7 ++ flatL ((L.take k).map flLines).flatten) Vw) := HWk.out.below hbV
      have HBV : Hid (Besides B b w Vw) := HBk.out.trans (Besides.of_below hbV (Nat.le_trans hBw HBk.out.size))
      clear hV e0 e1 e2 e3 hbV HWk HBk
      have hnk := HNk.out
      obtain ⟨lk, Ek⟩ : ∃ lk, l7 ++ flatL ((L.take k).map flLines).flatten = lk := ⟨_, rfl⟩
      rw [Ek] at HWV hnk
      have HFW : Hid (Calls Tryz.prog 40 #[.pointer (some ⟨b, 0, none⟩), .agg #[.string rc, .string st, .int .i64 cd, .string tx]] Vw fun e w' => e = .returned (.tuple #[]) ∧ Wr B b (.string dm) (.string tw) (.slice (some ⟨g, 0, none⟩) L.length c) (.string hd) (.string bd) (lk ++ flatL (flLines ⟨rc, st, cd, tx⟩)) w' ∧ Besides B b Vw w') := wFailure B b _ _ _ _ _ lk ⟨rc, st, cd, tx⟩ Vw w0 HE0.out (HE.out _ HBV.out) hlo HWV.out HFZ HCk (by omega)
      have HEk : Hid (l7 ++ flatL ((L.take k).map flLines).flatten = lk) := Ek
      clear Ek
      go_wp2_with fail
      refine HFW.out.mono ?_
      rintro e wF ⟨rfl, hF, hbF⟩
      have HWF : Hid (Wr B b (.string dm) (.string tw) (.slice (some ⟨g, 0, none⟩) L.length c) (.string hd) (.string bd) (l7 ++ flatL ((L.take (k + 1)).map flLines).flatten) wF) := by
        show Wr _ _ _ _ _ _ _ _ _
        rw [HT.out, ← List.append_assoc, HEk.out]
        exact hF
      have HBF : Hid (Besides B b w wF) := HBV.out.trans hbF
      have HNF : Hid ((l7 ++ flatL ((L.take (k + 1)).map flLines).flatten).length ≤ l7.length + (k + 1) * 4000000) := by
        show _ ≤ _
        rw [HT.out, ← List.append_assoc, HEk.out, List.length_append]
        have := HLn.out
        omega
      clear hF hbF HFW v0 v1 v2 v3
      go_wp2
      go_roundw
      case rel => exact ⟨k + 1, by omega, by go_num, HWF, HBF, HNF⟩
      case measure => simp [intOf]; omega
    · obtain rfl : k = L.length := by omega
      have hnk := HNk.out
      obtain ⟨l8, Er⟩ : ∃ l8, l7 ++ flatL ((L.take L.length).map flLines).flatten = l8 := ⟨_, rfl⟩
      have E8 : Hid (l7 ++ flatL (L.map flLines).flatten = l8) := by
        show _ = _
        rw [List.take_of_length_le (Nat.le_refl _)] at Er
        exact Er
      rw [Er] at HWk hnk
      clear Er HNk
      have HW8 : Hid (Wr B b (.string dm) (.string tw) (.slice a L.length c) (.string hd) (.string bd) l8 wr) := HWk
      have HB8 : Hid (Besides B b w wr) := HBk
      obtain ⟨c0, c1, c2, c3, c4⟩ := HW8.out.cells
      have n8 : l8.length ≤ l7.length + 80000000 := by omega
      clear HWk HBk hnk
      go_wp2_with fail
      clear c0 c1 c2 c3 c4
      refine (wLine B b (.string dm) (.string tw) (.slice a L.length c) (.string hd) (.string bd) l8 (⟨#[]⟩) _ HW8.out (by decide) (by omega)).mono ?_
      rintro e w9 ⟨rfl, h9, hb9⟩
      obtain ⟨l9, Er⟩ : ∃ l9, l8 ++ ((⟨#[]⟩ : ByteArray).data.toList ++ [13, 10]) = l9 := ⟨_, rfl⟩
      have E9 : Hid (l8 ++ ((⟨#[]⟩ : ByteArray).data.toList ++ [13, 10]) = l9) := Er
      clear Er
      have n9 : l9.length ≤ l8.length + 2 := by
        rw [← E9.out]
        rw [len_line]
        omega
      rw [E9.out] at h9
      have HW9 : Hid (Wr B b (.string dm) (.string tw) (.slice a L.length c) (.string hd) (.string bd) l9 w9) := h9
      have HB9 : Hid (Besides B b w w9) := HB8.out.trans hb9
      obtain ⟨c0, c1, c2, c3, c4⟩ := HW9.out.cells
      clear h9 hb9
      go_wp2_with fail
      clear c0 c1 c2 c3 c4
      refine (wPart B b (.string dm) (.string tw) (.slice a L.length c) (.string hd) bd l9 ⟨#[116, 101, 120, 116, 47, 114, 102, 99, 56, 50, 50, 45, 104, 101, 97, 100, 101, 114, 115]⟩ _ HW9.out (by decide) (by omega) (by omega)).mono ?_
      rintro e w10 ⟨rfl, h10, hb10⟩
      obtain ⟨l10, Er⟩ : ∃ l10, l9 ++ (flatL [45 :: 45 :: bd.data.toList, partL ++ (⟨#[116, 101, 120, 116, 47, 114, 102, 99, 56, 50, 50, 45, 104, 101, 97, 100, 101, 114, 115]⟩ : ByteArray).data.toList, []]) = l10 := ⟨_, rfl⟩
      have E10 : Hid (l9 ++ (flatL [45 :: 45 :: bd.data.toList, partL ++ (⟨#[116, 101, 120, 116, 47, 114, 102, 99, 56, 50, 50, 45, 104, 101, 97, 100, 101, 114, 115]⟩ : ByteArray).data.toList, []]) = l10) := Er
      clear Er
      have n10 : l10.length ≤ l9.length + 2000 := by
        rw [← E10.out]
        have hx := part_len bd ⟨#[116, 101, 120, 116, 47, 114, 102, 99, 56, 50, 50, 45, 104, 101, 97, 100, 101, 114, 115]⟩ (by decide) (by omega)
        rw [List.length_append]
        omega
      rw [E10.out] at h10
      have HW10 : Hid (Wr B b (.string dm) (.string tw) (.slice a L.length c) (.string hd) (.string bd) l10 w10) := h10
      have HB10 : Hid (Besides B b w w10) := HB9.out.trans hb10
      obtain ⟨c0, c1, c2, c3, c4⟩ := HW10.out.cells
      clear h10 hb10
      go_upto_region 14 with fail
      go_region_held3 (fun w' => w'.cell? ⟨b, 3, none⟩ = some (.string hd)) (first | assumption | (exact k3) | go_keep) ((go_at_call 41; refine (wWrite B b (.string dm) (.string tw) (.slice a L.length c) (.string hd) (.string bd) l10 hd _ (HW10.out.below (Below.refl w10.heap.size w10).drew) (by omega)).mono ?_; rintro e w11 ⟨rfl, h11, hb11⟩; have HW11 : Hid (Wr B b (.string dm) (.string tw) (.slice a L.length c) (.string hd) (.string bd) (l10 ++ hd.data.toList) w11) := h11; have HB11 : Hid (Besides B b w w11) := HB10.out.trans ((Besides.of_below (Below.refl w10.heap.size w10).drew (Nat.le_trans hBw HB10.out.size)).trans hb11); have k3 := HW11.out.cells.2.2.2.1; clear h11 hb11))
      obtain ⟨l11, Er⟩ : ∃ l11, l10 ++ hd.data.toList = l11 := ⟨_, rfl⟩
      rw [Er] at HW11
      have E11 : Hid (l10 ++ hd.data.toList = l11) := Er
      have n11 : l11.length ≤ l10.length + 1048576 := by rw [← Er, List.length_append, ← Lib.size_eq]; omega
      clear Er k3 c0 c1 c2 c3 c4
      obtain ⟨c0, c1, c2, c3, c4⟩ := HW11.out.cells
      go_wp2_with fail
      clear c0 c1 c2 c3 c4
      refine (wLine B b (.string dm) (.string tw) (.slice a L.length c) (.string hd) (.string bd) l11 ((⟨#[45, 45]⟩ : ByteArray) ++ bd ++ (⟨#[45, 45]⟩ : ByteArray)) _ HW11.out (by rw [ByteArray.size_append, ByteArray.size_append]; omega) (by omega)).mono ?_
      rintro e w12 ⟨rfl, h12, hb12⟩
      obtain ⟨l12, Er⟩ : ∃ l12, l11 ++ (((⟨#[45, 45]⟩ : ByteArray) ++ bd ++ (⟨#[45, 45]⟩ : ByteArray) : ByteArray).data.toList ++ [13, 10]) = l12 := ⟨_, rfl⟩
      have E12 : Hid (l11 ++ (((⟨#[45, 45]⟩ : ByteArray) ++ bd ++ (⟨#[45, 45]⟩ : ByteArray) : ByteArray).data.toList ++ [13, 10]) = l12) := Er
      clear Er
      have n12 : l12.length ≤ l11.length + 200 := by
        rw [← E12.out]
        rw [len_line, ByteArray.size_append, ByteArray.size_append]
        omega
      rw [E12.out] at h12
      have HW12 : Hid (Wr B b (.string dm) (.string tw) (.slice a L.length c) (.string hd) (.string bd) l12 w12) := h12
      have HB12 : Hid (Besides B b w w12) := HB11.out.trans hb12
      obtain ⟨c0, c1, c2, c3, c4⟩ := HW12.out.cells
      clear h12 hb12
      go_wp2
      go_end0
      refine ⟨rfl, ?_, HB12.out⟩
      have e : l12 = bnText ⟨dm, tw, L, hd⟩ bd.data.toList := by
        rw [← E12.out, ← E11.out, ← E10.out, ← E9.out, ← E8.out, ← E7.out, ← E6.out, ← E5.out, ← E4.out, ← E3.out, ← E2.out, ← E1.out, ← HL0.out]
        unfold bnText bnLines hdLines enLines lastL
        rw [flatL_app, flatL_app]
        simp [flatL, frL, toL, sbL, csL, chL, rpL, partL, bdB_list]
      rw [← e]
      exact HW12.out
end Go.Proofs.YtlolnfpfipnfeaaGreatDoor
namespace Go.Proofs.YtlolnfpfipnfeaaGreatDoor
open Go.ChangeShapes Go.WideShapes Go.ChangeAt Go.RowKit
open Pcs

theorem cut_len (s sep : List UInt8) : (Lib.cut s sep).1.length ≤ s.length ∧ (Lib.cut s sep).2.1.length ≤ s.length := by
  unfold Lib.cut
  split
  · exact ⟨by simp; omega, by simp⟩
  · exact ⟨Nat.le_refl _, by simp⟩
theorem flI_size (r : List UInt8) : (flI r).2.length ≤ r.length := by
  unfold flI
  exact Nat.le_trans (ln_size _).2 (Nat.le_trans (ln_size _).2 (Nat.le_trans (sk_size 1 _) (Nat.le_trans (ln_size _).2 (sk_size 1 _))))
theorem flI_short {r : List UInt8} (h : (13 :: 10 :: rcL).isPrefixOf r = true) : (flI r).2.length < r.length := by
  rw [List.isPrefixOf_iff_prefix] at h
  obtain ⟨s, rfl⟩ := h
  have e : skI 1 (13 :: 10 :: rcL ++ s) = rcL ++ s := by
    show (lnI (13 :: 10 :: (rcL ++ s))).2 = _
    rw [ln_nil]
  have : (flI (13 :: 10 :: rcL ++ s)).2.length ≤ (skI 1 (13 :: 10 :: rcL ++ s)).length := by
    unfold flI
    exact Nat.le_trans (ln_size _).2 (Nat.le_trans (ln_size _).2 (Nat.le_trans (sk_size 1 _) (ln_size _).2))
  rw [e] at this
  simp only [List.length_append, List.length_cons] at this ⊢
  omega
theorem flI_flz {r : List UInt8} (h : r.length ≤ 1048576) : FlZ (flI r).1 := by
  have h1 := Nat.le_trans (sk_size 1 r) h
  have h2 := Nat.le_trans (sk_size 1 (lnI (skI 1 r)).2) (Nat.le_trans (ln_size (skI 1 r)).2 h1)
  have h3 := Nat.le_trans (ln_size (skI 1 (lnI (skI 1 r)).2)).2 h2
  refine ⟨?_, ?_, ?_⟩
  · show (mk _).size ≤ _
    rw [mk_size]
    exact Nat.le_trans (fd_size _ _ _) (Nat.le_trans (ln_size _).1 h1)
  · show (mk _).size ≤ _
    rw [mk_size]
    exact Nat.le_trans (fd_size _ _ _) (Nat.le_trans (ln_size _).1 h2)
  · show (mk _).size ≤ _
    rw [mk_size]
    exact Nat.le_trans (cut_len _ _).2 (Nat.le_trans (fd_size _ _ _) (Nat.le_trans (ln_size _).1 h3))
def restN (b : Nat) (w : World) : Nat := match w.cell? ⟨b, 5, none⟩ with
  | some (.string s) => s.size
  | _ => 0
theorem restN_eq {b : Nat} {X : Array Value} {w : World} {r : List UInt8} (h : Blk b X w) (h5 : X[5]? = some (.string (mk r))) : restN b w = r.length := by
  unfold restN
  rw [h.cell 5, h5]
  show (mk r).size = _
  rw [mk_size]
theorem fl_one (f : Fl) : ∀ u ∈ fcells f, u.oneCell' = true := by
  intro u hu
  unfold fcells at hu
  simp at hu
  rcases hu with rfl | rfl | rfl | rfl <;> rfl
theorem fls_snoc {w : World} {lo g cap : Nat} {L : List Fl} {f : Fl} (h : w.ownsRow lo 31 4 (.slice (some ⟨g, 0, none⟩) (L.length + 1) cap) (L.length + 1) (frow L ++ fcells f)) : Fls w lo (.slice (some ⟨g, 0, none⟩) (L.length + 1) cap) (L ++ [f]) := by
  unfold Fls
  rw [frow_app, List.length_append]
  exact h

theorem blk_belowN {b N : Nat} {X : Array Value} {w w1 : World} (h : Blk b X w) (hb : Below N w w1) (hN : b < N) : Blk b X w1 :=
  ⟨Nat.lt_of_lt_of_le h.lt hb.size, fun i => (hb.cell (p := ⟨b, i, none⟩) hN).trans (h.cell i), fun o => (hb.frozen (p := ⟨b, o, none⟩) hN).trans (h.free o)⟩
theorem off_belowN {b : Nat} {w w2 w3 : World} (h : Off b w w2) (hb : Below w.heap.size w2 w3) : Off b w w3 :=
  ⟨hb.os.trans h.os, hb.tape.trans h.tape, hb.output.trans h.output, Nat.le_trans h.size hb.size, fun k hk hne => (hb.block k hk).trans (h.block k hk hne)⟩


set_option maxHeartbeats 4000000 in
set_option maxRecDepth 100000 in
theorem rRead (b : Nat) (t : List UInt8) (w : World) (hE : ∀ wx, Off b w wx → Env wx) (h : Blk b (rdC (.string ⟨#[]⟩) (.string ⟨#[]⟩) (.slice none 0 0) (.string ⟨#[]⟩) (.string ⟨#[]⟩) t) w) (ht : t.length ≤ 1048576) :
    Calls Tryz.prog 20 #[.pointer (some ⟨b, 0, none⟩)] w fun e w' => e = .returned (.tuple #[]) ∧ (∃ fv y4 r, Blk b (rdC (.string (readI t).he) (.string (readI t).tw) fv (.string (readI t).hd) y4 r) w' ∧ Fls w' w.heap.size fv (readI t).fs) ∧ BnZ (readI t) ∧ Off b w w' := by
  have HE : Hid (∀ wx, Off b w wx → Env wx) := hE
  have HB0 : Hid (Blk b (rdC (.string ⟨#[]⟩) (.string ⟨#[]⟩) (.slice none 0 0) (.string ⟨#[]⟩) (.string ⟨#[]⟩) t) w) := h
  have hbw := h.lt
  obtain ⟨r1, Er1⟩ : ∃ r1, skI 1 t = r1 := ⟨_, rfl⟩
  obtain ⟨r2, Er2⟩ : ∃ r2, (lnI r1).2 = r2 := ⟨_, rfl⟩
  obtain ⟨r3, Er3⟩ : ∃ r3, skI 1 r2 = r3 := ⟨_, rfl⟩
  obtain ⟨r4, Er4⟩ : ∃ r4, (lnI r3).2 = r4 := ⟨_, rfl⟩
  obtain ⟨r5, Er5⟩ : ∃ r5, skI 4 r4 = r5 := ⟨_, rfl⟩
  obtain ⟨r6, Er6⟩ : ∃ r6, (lnI r5).2 = r6 := ⟨_, rfl⟩
  obtain ⟨tw, Etw⟩ : ∃ tw, mk (fdI toL [62] (lnI r1).1) = tw := ⟨_, rfl⟩
  obtain ⟨bd, Ebd⟩ : ∃ bd, mk (fdI bdL [34] (lnI r3).1) = bd := ⟨_, rfl⟩
  obtain ⟨dm, Edm⟩ : ∃ dm, mk (fdI rpL [] (lnI r5).1) = dm := ⟨_, rfl⟩
  obtain ⟨Z, EZ⟩ : ∃ Z, flsI (t.length + 1) r6 [] = Z := ⟨_, rfl⟩
  have HRE : Hid (readI t = ⟨dm, tw, Z.1, mk (Lib.trimSuffix (skI 4 Z.2) (lastL bd.data.toList))⟩) := by
    show _ = _
    rw [← EZ, ← Edm, ← Ebd, ← Etw, ← Er6, ← Er5, ← Er4, ← Er3, ← Er2, ← Er1]
    rfl
  have l1 : r1.length ≤ t.length := by rw [← Er1]; exact sk_size _ _
  have l2 : r2.length ≤ t.length := by rw [← Er2]; exact Nat.le_trans (ln_size _).2 l1
  have l3 : r3.length ≤ t.length := by rw [← Er3]; exact Nat.le_trans (sk_size _ _) l2
  have l4 : r4.length ≤ t.length := by rw [← Er4]; exact Nat.le_trans (ln_size _).2 l3
  have l5 : r5.length ≤ t.length := by rw [← Er5]; exact Nat.le_trans (sk_size _ _) l4
  have l6 : r6.length ≤ t.length := by rw [← Er6]; exact Nat.le_trans (ln_size _).2 l5
  have zt : tw.size ≤ t.length := by rw [← Etw, mk_size]; exact Nat.le_trans (fd_size _ _ _) (Nat.le_trans (ln_size _).1 l1)
  have zb : bd.size ≤ t.length := by rw [← Ebd, mk_size]; exact Nat.le_trans (fd_size _ _ _) (Nat.le_trans (ln_size _).1 l3)
  have zd : dm.size ≤ t.length := by rw [← Edm, mk_size]; exact Nat.le_trans (fd_size _ _ _) (Nat.le_trans (ln_size _).1 l5)
  have K1 : Hid (∀ wx : World, Blk b (rdC (.string ⟨#[]⟩) (.string ⟨#[]⟩) (.slice none 0 0) (.string ⟨#[]⟩) (.string ⟨#[]⟩) t) wx → (∀ wy, Off b wx wy → LenIn wy) → Calls Tryz.prog 48 #[.pointer (some ⟨b, 0, none⟩), .int .i64 1] wx fun e w' => e = .returned (.tuple #[]) ∧ Blk b (rdC (.string ⟨#[]⟩) (.string ⟨#[]⟩) (.slice none 0 0) (.string ⟨#[]⟩) (.string ⟨#[]⟩) r1) w' ∧ Off b wx w') := fun wx h1 h2 => by rw [← Er1]; exact rSkip b (.string ⟨#[]⟩) (.string ⟨#[]⟩) (.slice none 0 0) (.string ⟨#[]⟩) (.string ⟨#[]⟩) t 1 wx h2 h1 (by omega) (by decide)
  have K2 : Hid (∀ wx : World, Blk b (rdC (.string ⟨#[]⟩) (.string ⟨#[]⟩) (.slice none 0 0) (.string ⟨#[]⟩) (.string ⟨#[]⟩) r1) wx → LenIn wx → Calls Tryz.prog 49 #[.pointer (some ⟨b, 0, none⟩), .string ⟨#[84, 111, 58, 32, 60]⟩, .string ⟨#[62]⟩] wx fun e w' => e = .returned (.string tw) ∧ Blk b (rdC (.string ⟨#[]⟩) (.string ⟨#[]⟩) (.slice none 0 0) (.string ⟨#[]⟩) (.string ⟨#[]⟩) r2) w' ∧ Off b wx w') := fun wx h1 h2 => by rw [← Er2, ← Etw]; exact rLine b (.string ⟨#[]⟩) (.string ⟨#[]⟩) (.slice none 0 0) (.string ⟨#[]⟩) (.string ⟨#[]⟩) r1 ⟨#[84, 111, 58, 32, 60]⟩ ⟨#[62]⟩ wx h2 h1 (by omega)
  have K3 : Hid (∀ wx : World, Blk b (rdC (.string ⟨#[]⟩) (.string tw) (.slice none 0 0) (.string ⟨#[]⟩) (.string ⟨#[]⟩) r2) wx → (∀ wy, Off b wx wy → LenIn wy) → Calls Tryz.prog 48 #[.pointer (some ⟨b, 0, none⟩), .int .i64 1] wx fun e w' => e = .returned (.tuple #[]) ∧ Blk b (rdC (.string ⟨#[]⟩) (.string tw) (.slice none 0 0) (.string ⟨#[]⟩) (.string ⟨#[]⟩) r3) w' ∧ Off b wx w') := fun wx h1 h2 => by rw [← Er3]; exact rSkip b (.string ⟨#[]⟩) (.string tw) (.slice none 0 0) (.string ⟨#[]⟩) (.string ⟨#[]⟩) r2 1 wx h2 h1 (by omega) (by decide)
  have K4 : Hid (∀ wx : World, Blk b (rdC (.string ⟨#[]⟩) (.string tw) (.slice none 0 0) (.string ⟨#[]⟩) (.string ⟨#[]⟩) r3) wx → LenIn wx → Calls Tryz.prog 49 #[.pointer (some ⟨b, 0, none⟩), .string bdB, .string ⟨#[34]⟩] wx fun e w' => e = .returned (.string bd) ∧ Blk b (rdC (.string ⟨#[]⟩) (.string tw) (.slice none 0 0) (.string ⟨#[]⟩) (.string ⟨#[]⟩) r4) w' ∧ Off b wx w') := fun wx h1 h2 => by rw [← Er4, ← Ebd]; exact rLine b (.string ⟨#[]⟩) (.string tw) (.slice none 0 0) (.string ⟨#[]⟩) (.string ⟨#[]⟩) r3 bdB ⟨#[34]⟩ wx h2 h1 (by omega)
  have K5 : Hid (∀ wx : World, Blk b (rdC (.string ⟨#[]⟩) (.string tw) (.slice none 0 0) (.string ⟨#[]⟩) (.string bd) r4) wx → (∀ wy, Off b wx wy → LenIn wy) → Calls Tryz.prog 48 #[.pointer (some ⟨b, 0, none⟩), .int .i64 4] wx fun e w' => e = .returned (.tuple #[]) ∧ Blk b (rdC (.string ⟨#[]⟩) (.string tw) (.slice none 0 0) (.string ⟨#[]⟩) (.string bd) r5) w' ∧ Off b wx w') := fun wx h1 h2 => by rw [← Er5]; exact rSkip b (.string ⟨#[]⟩) (.string tw) (.slice none 0 0) (.string ⟨#[]⟩) (.string bd) r4 4 wx h2 h1 (by omega) (by decide)
  have K6 : Hid (∀ wx : World, Blk b (rdC (.string ⟨#[]⟩) (.string tw) (.slice none 0 0) (.string ⟨#[]⟩) (.string bd) r5) wx → LenIn wx → Calls Tryz.prog 49 #[.pointer (some ⟨b, 0, none⟩), .string ⟨#[82, 101, 112, 111, 114, 116, 105, 110, 103, 45, 77, 84, 65, 58, 32, 100, 110, 115, 59, 32]⟩, .string ⟨#[]⟩] wx fun e w' => e = .returned (.string dm) ∧ Blk b (rdC (.string ⟨#[]⟩) (.string tw) (.slice none 0 0) (.string ⟨#[]⟩) (.string bd) r6) w' ∧ Off b wx w') := fun wx h1 h2 => by rw [← Er6, ← Edm]; exact rLine b (.string ⟨#[]⟩) (.string tw) (.slice none 0 0) (.string ⟨#[]⟩) (.string bd) r5 ⟨#[82, 101, 112, 111, 114, 116, 105, 110, 103, 45, 77, 84, 65, 58, 32, 100, 110, 115, 59, 32]⟩ ⟨#[]⟩ wx h2 h1 (by omega)
  have HZ0 : Hid (flsI (t.length + 1) r6 [] = Z) := EZ
  clear Er1 Er2 Er3 Er4 Er5 Er6 Etw Ebd Edm EZ hE h l1 l2 l3 l4 l5
  go_enter Tryz.func20, Tryz.ntmps20
  go_wp2_with fail
  refine (K1.out _ HB0.out (fun wy hy => (HE.out _ (hy)).len)).mono ?_
  rintro e w1 ⟨rfl, h1, o1⟩
  have HB1 : Hid (Blk b (rdC (.string ⟨#[]⟩) (.string ⟨#[]⟩) (.slice none 0 0) (.string ⟨#[]⟩) (.string ⟨#[]⟩) r1) w1) := h1
  have O1 : Hid (Off b w w1) := o1
  clear h1 o1
  go_wp2_with fail
  refine (K2.out _ HB1.out (HE.out _ O1.out).len).mono ?_
  rintro e w2 ⟨rfl, h1, o1⟩
  have HBx : Hid (Blk b (rdC (.string ⟨#[]⟩) (.string ⟨#[]⟩) (.slice none 0 0) (.string ⟨#[]⟩) (.string ⟨#[]⟩) r2) w2) := h1
  have Ox : Hid (Off b w w2) := O1.out.trans o1
  have cx : w2.cell? ⟨b, 1, none⟩ = some (.string ⟨#[]⟩) := HBx.out.cell 1
  have fx := HBx.out.free 1
  clear h1 o1
  go_wp2_with fail
  generalize hV : w2.setCell _ _ = w3
  have HB3 : Hid (Blk b (rdC (.string ⟨#[]⟩) (.string tw) (.slice none 0 0) (.string ⟨#[]⟩) (.string ⟨#[]⟩) r2) w3) := by show Blk _ _ _; rw [← hV]; exact HBx.out.set (i := 1) (by simp)
  have O3 : Hid (Off b w w3) := by show Off _ _ _; rw [← hV]; exact Ox.out.setCell _
  clear hV cx fx HBx Ox
  refine (K3.out _ HB3.out (fun wy hy => (HE.out _ (O3.out.trans hy)).len)).mono ?_
  rintro e w4 ⟨rfl, h1, o1⟩
  have HB4 : Hid (Blk b (rdC (.string ⟨#[]⟩) (.string tw) (.slice none 0 0) (.string ⟨#[]⟩) (.string ⟨#[]⟩) r3) w4) := h1
  have O4 : Hid (Off b w w4) := O3.out.trans o1
  clear h1 o1
  go_wp2_with fail
  refine (K4.out _ HB4.out (HE.out _ O4.out).len).mono ?_
  rintro e w5 ⟨rfl, h1, o1⟩
  have HBx : Hid (Blk b (rdC (.string ⟨#[]⟩) (.string tw) (.slice none 0 0) (.string ⟨#[]⟩) (.string ⟨#[]⟩) r4) w5) := h1
  have Ox : Hid (Off b w w5) := O4.out.trans o1
  have cx : w5.cell? ⟨b, 4, none⟩ = some (.string ⟨#[]⟩) := HBx.out.cell 4
  have fx := HBx.out.free 4
  clear h1 o1
  go_wp2_with fail
  generalize hV : w5.setCell _ _ = w6
  have HB6 : Hid (Blk b (rdC (.string ⟨#[]⟩) (.string tw) (.slice none 0 0) (.string ⟨#[]⟩) (.string bd) r4) w6) := by show Blk _ _ _; rw [← hV]; exact HBx.out.set (i := 4) (by simp)
  have O6 : Hid (Off b w w6) := by show Off _ _ _; rw [← hV]; exact Ox.out.setCell _
  clear hV cx fx HBx Ox
  refine (K5.out _ HB6.out (fun wy hy => (HE.out _ (O6.out.trans hy)).len)).mono ?_
  rintro e w7 ⟨rfl, h1, o1⟩
  have HB7 : Hid (Blk b (rdC (.string ⟨#[]⟩) (.string tw) (.slice none 0 0) (.string ⟨#[]⟩) (.string bd) r5) w7) := h1
  have O7 : Hid (Off b w w7) := O6.out.trans o1
  clear h1 o1
  go_wp2_with fail
  refine (K6.out _ HB7.out (HE.out _ O7.out).len).mono ?_
  rintro e w8 ⟨rfl, h1, o1⟩
  have HBx : Hid (Blk b (rdC (.string ⟨#[]⟩) (.string tw) (.slice none 0 0) (.string ⟨#[]⟩) (.string bd) r6) w8) := h1
  have Ox : Hid (Off b w w8) := O7.out.trans o1
  have cx : w8.cell? ⟨b, 0, none⟩ = some (.string ⟨#[]⟩) := HBx.out.cell 0
  have fx := HBx.out.free 0
  clear h1 o1
  go_wp2_with fail
  generalize hV : w8.setCell _ _ = w9
  have HB9 : Hid (Blk b (rdC (.string dm) (.string tw) (.slice none 0 0) (.string ⟨#[]⟩) (.string bd) r6) w9) := by show Blk _ _ _; rw [← hV]; exact HBx.out.set (i := 0) (by simp)
  have O9 : Hid (Off b w w9) := by show Off _ _ _; rw [← hV]; exact Ox.out.setCell _
  clear hV cx fx HBx Ox
  go_wp2_with fail
  go_loopw [] (fun wr => ∃ (q : List UInt8) (acc : List Fl) (a4 : Option Addr) (c4 fu : Nat), q.length ≤ t.length ∧ acc.length + q.length ≤ t.length ∧ Hid (q.length < fu) ∧ Hid (flsI fu q acc = Z) ∧ Hid (Blk b (rdC (.string dm) (.string tw) (.slice a4 acc.length c4) (.string ⟨#[]⟩) (.string bd) q) wr) ∧ Hid (Fls wr w.heap.size (.slice a4 acc.length c4) acc) ∧ Hid (∀ f ∈ acc, FlZ f) ∧ Hid (Off b w wr)) (fun wr => restN b wr)
  case atStart => exact ⟨r6, [], none, 0, t.length + 1, l6, by simpa using l6, (by show _ < _; omega), HZ0, HB9, fls_nil _ _, (fun f hf => absurd hf (by simp)), O9⟩
  case round =>
    obtain ⟨q, acc, a4, c4, fu, hq, hqa, HFu, HZq, HBq, HFq, HAq, HOq⟩ := hrel
    have c5 : wr.cell? ⟨b, 5, none⟩ = some (.string (mk q)) := HBq.out.cell 5
    have HPX : Hid (∀ wx : World, Calls Tryz.prog 50 #[.string (mk q), .string ⟨#[13, 10, 70, 105, 110, 97, 108, 45, 82, 101, 99, 105, 112, 105, 101, 110, 116, 58, 32, 114, 102, 99, 56, 50, 50, 59, 32]⟩] wx fun e w' => e = .returned (.bool ((13 :: 10 :: rcL).isPrefixOf q)) ∧ w' = wx) := fun wx => Any.strings_HasPrefix Tryz.lays99 (mk q) ⟨#[13, 10, 70, 105, 110, 97, 108, 45, 82, 101, 99, 105, 112, 105, 101, 110, 116, 58, 32, 114, 102, 99, 56, 50, 50, 59, 32]⟩ wx
    have HRN : Hid (restN b wr = q.length) := restN_eq HBq.out rfl
    cases hp : (13 :: 10 :: rcL).isPrefixOf q
    · rw [hp] at HPX
      have EZ : Hid (Z = (acc, q)) := by
        show _ = _
        obtain ⟨fu2, rfl⟩ : ∃ fu2, fu = fu2 + 1 := ⟨fu - 1, by have := HFu.out; omega⟩
        have := HZq.out
        rw [flsI, if_neg (by rw [hp]; decide)] at this
        exact this.symm
      obtain ⟨q4, Eq4⟩ : ∃ q4, skI 4 q = q4 := ⟨_, rfl⟩
      have lq4 : q4.length ≤ t.length := by rw [← Eq4]; exact Nat.le_trans (sk_size _ _) hq
      have K8 : Hid (∀ wx : World, Blk b (rdC (.string dm) (.string tw) (.slice a4 acc.length c4) (.string ⟨#[]⟩) (.string bd) q) wx → (∀ wy, Off b wx wy → LenIn wy) → Calls Tryz.prog 48 #[.pointer (some ⟨b, 0, none⟩), .int .i64 4] wx fun e w' => e = .returned (.tuple #[]) ∧ Blk b (rdC (.string dm) (.string tw) (.slice a4 acc.length c4) (.string ⟨#[]⟩) (.string bd) q4) w' ∧ Off b wx w') := fun wx h1 h2 => by rw [← Eq4]; exact rSkip b (.string dm) (.string tw) (.slice a4 acc.length c4) (.string ⟨#[]⟩) (.string bd) q 4 wx h2 h1 (by omega) (by decide)
      have HQ4 : Hid (skI 4 q = q4) := Eq4
      have HNE : Hid (∀ g, (Value.slice a4 acc.length c4).ownBlock = some g → g ≠ b) := fun g hg => by have := (fls_own HFq.out g hg).1; omega
      clear Eq4 HFu HZq hp
      go_wp2_with fail
      refine (HPX.out _).mono ?_
      rintro e w' ⟨rfl, hw'⟩
      rw [hw']
      clear hw' w' HPX c5
      go_wp2_with fail
      refine (K8.out _ HBq.out (fun wy hy => (HE.out _ (HOq.out.trans hy)).len)).mono ?_
      rintro e w2 ⟨rfl, h1, o1⟩
      have HB2 : Hid (Blk b (rdC (.string dm) (.string tw) (.slice a4 acc.length c4) (.string ⟨#[]⟩) (.string bd) q4) w2) := h1
      have HF2 : Hid (Fls w2 w.heap.size (.slice a4 acc.length c4) acc) := fls_off HFq.out o1 HNE.out
      have HO2 : Hid (Off b w w2) := HOq.out.trans o1
      clear h1 o1 K8 HBq HFq HOq
      have q2 : (⟨#[45, 45]⟩ : ByteArray).size = 2 := rfl
      have q3 : (⟨#[13, 10]⟩ : ByteArray).size = 2 := rfl
      obtain ⟨s1, hs1⟩ : ∃ s1, (⟨#[45, 45]⟩ : ByteArray) ++ bd = s1 := ⟨_, rfl⟩
      obtain ⟨s2, hs2⟩ : ∃ s2, s1 ++ (⟨#[45, 45]⟩ : ByteArray) = s2 := ⟨_, rfl⟩
      obtain ⟨s3, hs3⟩ : ∃ s3, s2 ++ (⟨#[13, 10]⟩ : ByteArray) = s3 := ⟨_, rfl⟩
      have hz1 : s1.size ≤ 2097152 := by rw [← hs1, ByteArray.size_append]; omega
      have hz2 : s2.size ≤ 2097154 := by rw [← hs2, ByteArray.size_append]; omega
      have ha1 : ∀ wx : World, (Op.stringOp .add (⟨#[45, 45]⟩ : ByteArray) bd).run Tryz.prog wx = .ok (.string s1) wx := fun wx => by rw [← hs1]; exact run_string_add_sum wx _ _ (by omega)
      have ha2 : ∀ wx : World, (Op.stringOp .add s1 (⟨#[45, 45]⟩ : ByteArray)).run Tryz.prog wx = .ok (.string s2) wx := fun wx => by rw [← hs2]; exact run_string_add_sum wx _ _ (by omega)
      have ha3 : ∀ wx : World, (Op.stringOp .add s2 (⟨#[13, 10]⟩ : ByteArray)).run Tryz.prog wx = .ok (.string s3) wx := fun wx => by rw [← hs3]; exact run_string_add_sum wx _ _ (by omega)
      have HS3 : Hid (s3.data.toList = lastL bd.data.toList) := by
        show _ = _
        rw [← hs3, ← hs2, ← hs1]
        simp [lastL]
      obtain ⟨hd, Ehd⟩ : ∃ hd, mk (Lib.trimSuffix q4 (lastL bd.data.toList)) = hd := ⟨_, rfl⟩
      have HTS : Hid (∀ wx : World, Calls Tryz.prog 52 #[.string (mk q4), .string s3] wx fun e w' => e = .returned (.string hd) ∧ w' = wx) := fun wx => by
        have := Any.strings_TrimSuffix Tryz.lays102 (mk q4) s3 wx (by rw [mk_size]; omega)
        rw [HS3.out] at this
        rw [← Ehd]
        exact this
      have HHD : Hid (mk (Lib.trimSuffix q4 (lastL bd.data.toList)) = hd) := Ehd
      have zh : hd.size ≤ t.length := by rw [← Ehd, mk_size]; exact Nat.le_trans (trimS_size _ _) lq4
      clear hs1 hs2 hs3 Ehd q2 q3
      go_upto_region 9 with fail
      refine wp_region_held_drew (S := fun w' => w'.cell? ⟨b, 5, none⟩ = some (.string (mk q4)) ∧ w'.cell? ⟨b, 4, none⟩ = some (.string bd)) (by kernel_rfl) ⟨by simpa using HB2.out.cell 5, by simpa using HB2.out.cell 4⟩ (fun hHeld => ?_)
      have HB3 : Hid (Blk b (rdC (.string dm) (.string tw) (.slice a4 acc.length c4) (.string ⟨#[]⟩) (.string bd) q4) w2.drew) := HB2.out.below (Below.refl w2.heap.size w2).drew
      have HF3 : Hid (Fls w2.drew w.heap.size (.slice a4 acc.length c4) acc) := fls_below HF2.out (Below.refl w2.heap.size w2).drew (Nat.le_refl _)
      have HO3 : Hid (Off b w w2.drew) := HO2.out.trans (Off.of_below (Below.refl w2.heap.size w2).drew)
      generalize w2.drew = wd at hHeld HB3 HF3 HO3 ⊢
      refine wpAnyH_take (i := 0) (oi := { dst := some 50, op := Op.move (Operand.tmp 0), type := 74, pos := "l5_bounce.go:202", after := #[], guard := none }) (v := .pointer (some ⟨b, 0, none⟩)) rfl (by kernel_rfl) (by kernel_rfl) (by kernel_rfl) (fun _ _ _ h => h) (Or.inl ⟨by rfl, fun wz hSw => ?_⟩) hHeld ?_
      · obtain ⟨e0, e1⟩ := hSw
        clear hHeld
        go_simp
      simp only [Act.put, List.setIfInBounds_toArray, List.set_cons_zero, List.set_cons_succ]
      refine wpAnyH_take (i := 1) (oi := { dst := some 51, op := Op.move (Operand.tmp 0), type := 74, pos := "l5_bounce.go:202", after := #[], guard := none }) (v := .pointer (some ⟨b, 0, none⟩)) rfl (by kernel_rfl) (by kernel_rfl) (by kernel_rfl) (fun _ _ _ h => h) (Or.inl ⟨by rfl, fun wz hSw => ?_⟩) hHeld ?_
      · obtain ⟨e0, e1⟩ := hSw
        clear hHeld
        go_simp
      simp only [Act.put, List.setIfInBounds_toArray, List.set_cons_zero, List.set_cons_succ]
      refine wpAnyH_take (i := 2) (oi := { dst := some 52, op := Op.nilCheck (Operand.tmp 51), type := 0, pos := "l5_bounce.go:202", after := #[{ on := 1, ground := Ground.data }], guard := none }) (v := .pointer (some ⟨b, 0, none⟩)) rfl (by kernel_rfl) (by kernel_rfl) (by kernel_rfl) (fun _ _ _ h => h) (Or.inl ⟨by rfl, fun wz hSw => ?_⟩) hHeld ?_
      · obtain ⟨e0, e1⟩ := hSw
        clear hHeld
        go_simp
      simp only [Act.put, List.setIfInBounds_toArray, List.set_cons_zero, List.set_cons_succ]
      refine wpAnyH_take (i := 3) (oi := { dst := some 53, op := Op.fieldAddr 53 (Operand.tmp 52) 1, type := 0, pos := "l5_bounce.go:202", after := #[{ on := 2, ground := Ground.data }], guard := none }) (v := .pointer (some ⟨b, 5, none⟩)) rfl (by kernel_rfl) (by kernel_rfl) (by kernel_rfl) (fun _ _ _ h => h) (Or.inl ⟨by rfl, fun wz hSw => ?_⟩) hHeld ?_
      · obtain ⟨e0, e1⟩ := hSw
        clear hHeld
        go_simp
      simp only [Act.put, List.setIfInBounds_toArray, List.set_cons_zero, List.set_cons_succ]
      refine wpAnyH_take (i := 4) (oi := { dst := some 54, op := Op.load 9 (Operand.tmp 53), type := 9, pos := "l5_bounce.go:202", after := #[{ on := 3, ground := Ground.data }], guard := none }) (v := .string (mk q4)) rfl (by kernel_rfl) (by kernel_rfl) (by kernel_rfl) (fun _ _ _ h => h) (Or.inl ⟨by rfl, fun wz hSw => ?_⟩) hHeld ?_
      · obtain ⟨e0, e1⟩ := hSw
        clear hHeld
        go_simp
      simp only [Act.put, List.setIfInBounds_toArray, List.set_cons_zero, List.set_cons_succ]
      refine wpAnyH_take (i := 5) (oi := { dst := some 55, op := Op.move (Operand.tmp 0), type := 74, pos := "l5_bounce.go:202", after := #[], guard := none }) (v := .pointer (some ⟨b, 0, none⟩)) rfl (by kernel_rfl) (by kernel_rfl) (by kernel_rfl) (fun _ _ _ h => h) (Or.inl ⟨by rfl, fun wz hSw => ?_⟩) hHeld ?_
      · obtain ⟨e0, e1⟩ := hSw
        clear hHeld
        go_simp
      simp only [Act.put, List.setIfInBounds_toArray, List.set_cons_zero, List.set_cons_succ]
      refine wpAnyH_take (i := 6) (oi := { dst := some 56, op := Op.nilCheck (Operand.tmp 55), type := 0, pos := "l5_bounce.go:202", after := #[{ on := 5, ground := Ground.data }], guard := none }) (v := .pointer (some ⟨b, 0, none⟩)) rfl (by kernel_rfl) (by kernel_rfl) (by kernel_rfl) (fun _ _ _ h => h) (Or.inl ⟨by rfl, fun wz hSw => ?_⟩) hHeld ?_
      · obtain ⟨e0, e1⟩ := hSw
        clear hHeld
        go_simp
      simp only [Act.put, List.setIfInBounds_toArray, List.set_cons_zero, List.set_cons_succ]
      refine wpAnyH_take (i := 7) (oi := { dst := some 57, op := Op.fieldAddr 53 (Operand.tmp 56) 0, type := 0, pos := "l5_bounce.go:202", after := #[{ on := 6, ground := Ground.data }], guard := none }) (v := .pointer (some ⟨b, 0, none⟩)) rfl (by kernel_rfl) (by kernel_rfl) (by kernel_rfl) (fun _ _ _ h => h) (Or.inl ⟨by rfl, fun wz hSw => ?_⟩) hHeld ?_
      · obtain ⟨e0, e1⟩ := hSw
        clear hHeld
        go_simp
      simp only [Act.put, List.setIfInBounds_toArray, List.set_cons_zero, List.set_cons_succ]
      refine wpAnyH_take (i := 8) (oi := { dst := some 58, op := Op.fieldAddr 44 (Operand.tmp 57) 1, type := 0, pos := "l5_bounce.go:202", after := #[{ on := 7, ground := Ground.data }], guard := none }) (v := .pointer (some ⟨b, 4, none⟩)) rfl (by kernel_rfl) (by kernel_rfl) (by kernel_rfl) (fun _ _ _ h => h) (Or.inl ⟨by rfl, fun wz hSw => ?_⟩) hHeld ?_
      · obtain ⟨e0, e1⟩ := hSw
        clear hHeld
        go_simp
      simp only [Act.put, List.setIfInBounds_toArray, List.set_cons_zero, List.set_cons_succ]
      refine wpAnyH_take (i := 9) (oi := { dst := some 59, op := Op.load 9 (Operand.tmp 58), type := 9, pos := "l5_bounce.go:202", after := #[{ on := 8, ground := Ground.data }], guard := none }) (v := .string bd) rfl (by kernel_rfl) (by kernel_rfl) (by kernel_rfl) (fun _ _ _ h => h) (Or.inl ⟨by rfl, fun wz hSw => ?_⟩) hHeld ?_
      · obtain ⟨e0, e1⟩ := hSw
        clear hHeld
        go_simp
      simp only [Act.put, List.setIfInBounds_toArray, List.set_cons_zero, List.set_cons_succ]
      refine wpAnyH_take (i := 10) (oi := { dst := some 60, op := Op.binOp BinOp.add 9 (Operand.const (Value.string { data := #[45, 45] })) (Operand.tmp 59) 9, type := 9, pos := "l5_bounce.go:202", after := #[{ on := 9, ground := Ground.data }], guard := none }) (v := .string s1) rfl (by kernel_rfl) (by kernel_rfl) (by kernel_rfl) (fun _ _ _ h => h) (Or.inl ⟨by rfl, fun wz hSw => ?_⟩) hHeld ?_
      · obtain ⟨e0, e1⟩ := hSw
        clear hHeld
        go_simp
      simp only [Act.put, List.setIfInBounds_toArray, List.set_cons_zero, List.set_cons_succ]
      refine wpAnyH_take (i := 11) (oi := { dst := some 61, op := Op.binOp BinOp.add 9 (Operand.tmp 60) (Operand.const (Value.string { data := #[45, 45] })) 9, type := 9, pos := "l5_bounce.go:202", after := #[{ on := 10, ground := Ground.data }], guard := none }) (v := .string s2) rfl (by kernel_rfl) (by kernel_rfl) (by kernel_rfl) (fun _ _ _ h => h) (Or.inl ⟨by rfl, fun wz hSw => ?_⟩) hHeld ?_
      · obtain ⟨e0, e1⟩ := hSw
        clear hHeld
        go_simp
      simp only [Act.put, List.setIfInBounds_toArray, List.set_cons_zero, List.set_cons_succ]
      refine wpAnyH_take (i := 12) (oi := { dst := some 62, op := Op.binOp BinOp.add 9 (Operand.tmp 61) (Operand.const (Value.string { data := #[13, 10] })) 9, type := 9, pos := "l5_bounce.go:202", after := #[{ on := 11, ground := Ground.data }], guard := none }) (v := .string s3) rfl (by kernel_rfl) (by kernel_rfl) (by kernel_rfl) (fun _ _ _ h => h) (Or.inl ⟨by rfl, fun wz hSw => ?_⟩) hHeld ?_
      · obtain ⟨e0, e1⟩ := hSw
        clear hHeld
        go_simp
      simp only [Act.put, List.setIfInBounds_toArray, List.set_cons_zero, List.set_cons_succ]
      refine wpAnyH_ready (rs := [13]) (by kernel_rfl) (by simp) ?_
      refine AllReadyH.cons (o := { dst := some 63, op := Op.call { callee := Callee.value (Operand.func 52), args := #[Operand.tmp 54, Operand.tmp 62], argTypes := #[9, 9] }, type := 9, pos := "l5_bounce.go:202", after := #[{ on := 4, ground := Ground.data }, { on := 12, ground := Ground.data }], guard := none }) rfl (fun K hK => ?_) AllReadyH.nil
      go_simp
      go_at_call 52
      refine (HTS.out _).mono ?_
      rintro e w4 ⟨rfl, hw4⟩
      rw [hw4]
      clear hw4
      refine hK.out _ _ hHeld (fun hHeld => ?_)
      clear hK K
      try simp only [Act.put, List.setIfInBounds_toArray, List.set_cons_zero, List.set_cons_succ]
      refine wpAnyH_take (i := 14) (oi := { dst := some 64, op := Op.nilCheck (Operand.tmp 50), type := 0, pos := "l5_bounce.go:202", after := #[{ on := 0, ground := Ground.data }, { on := 0, ground := Ground.phase }, { on := 1, ground := Ground.phase }, { on := 2, ground := Ground.phase }, { on := 3, ground := Ground.phase }, { on := 4, ground := Ground.phase }, { on := 5, ground := Ground.phase }, { on := 6, ground := Ground.phase }, { on := 7, ground := Ground.phase }, { on := 8, ground := Ground.phase }, { on := 9, ground := Ground.phase }, { on := 10, ground := Ground.phase }, { on := 11, ground := Ground.phase }, { on := 12, ground := Ground.phase }, { on := 13, ground := Ground.phase }], guard := none }) (v := .pointer (some ⟨b, 0, none⟩)) rfl (by kernel_rfl) (by kernel_rfl) (by kernel_rfl) (fun _ _ _ h => h) (Or.inl ⟨by rfl, fun wz hSw => ?_⟩) hHeld ?_
      · obtain ⟨e0, e1⟩ := hSw
        clear hHeld
        go_simp
      simp only [Act.put, List.setIfInBounds_toArray, List.set_cons_zero, List.set_cons_succ]
      refine wpAnyH_take (i := 15) (oi := { dst := some 65, op := Op.fieldAddr 53 (Operand.tmp 64) 0, type := 0, pos := "l5_bounce.go:202", after := #[{ on := 14, ground := Ground.data }, { on := 0, ground := Ground.phase }, { on := 1, ground := Ground.phase }, { on := 2, ground := Ground.phase }, { on := 3, ground := Ground.phase }, { on := 4, ground := Ground.phase }, { on := 5, ground := Ground.phase }, { on := 6, ground := Ground.phase }, { on := 7, ground := Ground.phase }, { on := 8, ground := Ground.phase }, { on := 9, ground := Ground.phase }, { on := 10, ground := Ground.phase }, { on := 11, ground := Ground.phase }, { on := 12, ground := Ground.phase }, { on := 13, ground := Ground.phase }], guard := none }) (v := .pointer (some ⟨b, 0, none⟩)) rfl (by kernel_rfl) (by kernel_rfl) (by kernel_rfl) (fun _ _ _ h => h) (Or.inl ⟨by rfl, fun wz hSw => ?_⟩) hHeld ?_
      · obtain ⟨e0, e1⟩ := hSw
        clear hHeld
        go_simp
      simp only [Act.put, List.setIfInBounds_toArray, List.set_cons_zero, List.set_cons_succ]
      refine wpAnyH_take (i := 16) (oi := { dst := some 66, op := Op.fieldAddr 44 (Operand.tmp 65) 0, type := 0, pos := "l5_bounce.go:202", after := #[{ on := 15, ground := Ground.data }, { on := 0, ground := Ground.phase }, { on := 1, ground := Ground.phase }, { on := 2, ground := Ground.phase }, { on := 3, ground := Ground.phase }, { on := 4, ground := Ground.phase }, { on := 5, ground := Ground.phase }, { on := 6, ground := Ground.phase }, { on := 7, ground := Ground.phase }, { on := 8, ground := Ground.phase }, { on := 9, ground := Ground.phase }, { on := 10, ground := Ground.phase }, { on := 11, ground := Ground.phase }, { on := 12, ground := Ground.phase }, { on := 13, ground := Ground.phase }], guard := none }) (v := .pointer (some ⟨b, 0, none⟩)) rfl (by kernel_rfl) (by kernel_rfl) (by kernel_rfl) (fun _ _ _ h => h) (Or.inl ⟨by rfl, fun wz hSw => ?_⟩) hHeld ?_
      · obtain ⟨e0, e1⟩ := hSw
        clear hHeld
        go_simp
      simp only [Act.put, List.setIfInBounds_toArray, List.set_cons_zero, List.set_cons_succ]
      refine wpAnyH_take (i := 17) (oi := { dst := some 67, op := Op.fieldAddr 25 (Operand.tmp 66) 3, type := 0, pos := "l5_bounce.go:202", after := #[{ on := 16, ground := Ground.data }, { on := 0, ground := Ground.phase }, { on := 1, ground := Ground.phase }, { on := 2, ground := Ground.phase }, { on := 3, ground := Ground.phase }, { on := 4, ground := Ground.phase }, { on := 5, ground := Ground.phase }, { on := 6, ground := Ground.phase }, { on := 7, ground := Ground.phase }, { on := 8, ground := Ground.phase }, { on := 9, ground := Ground.phase }, { on := 10, ground := Ground.phase }, { on := 11, ground := Ground.phase }, { on := 12, ground := Ground.phase }, { on := 13, ground := Ground.phase }], guard := none }) (v := .pointer (some ⟨b, 3, none⟩)) rfl (by kernel_rfl) (by kernel_rfl) (by kernel_rfl) (fun _ _ _ h => h) (Or.inl ⟨by rfl, fun wz hSw => ?_⟩) hHeld ?_
      · obtain ⟨e0, e1⟩ := hSw
        clear hHeld
        go_simp
      simp only [Act.put, List.setIfInBounds_toArray, List.set_cons_zero, List.set_cons_succ]
      refine wpAnyH_ready (rs := [18]) (by kernel_rfl) (by simp) ?_
      refine AllReadyH.cons (o := { dst := none, op := Op.store 9 (Operand.tmp 67) (Operand.tmp 63), type := 0, pos := "l5_bounce.go:202", after := #[{ on := 17, ground := Ground.data }, { on := 13, ground := Ground.data }, { on := 13, ground := Ground.chain }, { on := 0, ground := Ground.phase }, { on := 1, ground := Ground.phase }, { on := 2, ground := Ground.phase }, { on := 3, ground := Ground.phase }, { on := 4, ground := Ground.phase }, { on := 5, ground := Ground.phase }, { on := 6, ground := Ground.phase }, { on := 7, ground := Ground.phase }, { on := 8, ground := Ground.phase }, { on := 9, ground := Ground.phase }, { on := 10, ground := Ground.phase }, { on := 11, ground := Ground.phase }, { on := 12, ground := Ground.phase }, { on := 13, ground := Ground.phase }], guard := none }) rfl (fun K hK => ?_) AllReadyH.nil
      clear hHeld
      have c3 : wd.cell? ⟨b, 3, none⟩ = some (.string ⟨#[]⟩) := HB3.out.cell 3
      have f3 := HB3.out.free 3
      go_simp
      generalize hV : wd.setCell _ _ = w5
      have HB5 : Hid (Blk b (rdC (.string dm) (.string tw) (.slice a4 acc.length c4) (.string hd) (.string bd) q4) w5) := by show Blk _ _ _; rw [← hV]; exact HB3.out.set (i := 3) (by simp)
      have HF5 : Hid (Fls w5 w.heap.size (.slice a4 acc.length c4) acc) := by show Fls _ _ _ _; rw [← hV]; exact ownsRow_set_low HF3.out (by show b < _; exact hbw) _
      have HO5 : Hid (Off b w w5) := by show Off _ _ _; rw [← hV]; exact HO3.out.setCell _
      clear hV c3 f3
      refine hK.out _ _ ⟨HB5.out.cell 5, HB5.out.cell 4⟩ (fun hHeld => ?_)
      clear hK K hHeld
      try simp only [Act.put, List.setIfInBounds_toArray, List.set_cons_zero, List.set_cons_succ]
      refine wpAnyH_done (by kernel_rfl) ?_ _
      go_simp
      go_wp2
      go_end0
      have e : readI t = ⟨dm, tw, acc, hd⟩ := by rw [HRE.out, EZ.out]; show (⟨dm, tw, acc, mk (Lib.trimSuffix (skI 4 q) (lastL bd.data.toList))⟩ : Bn) = _; rw [HQ4.out, HHD.out]
      rw [e]
      exact ⟨rfl, ⟨_, _, _, HB5.out, HF5.out⟩, ⟨by show dm.size ≤ _; omega, by show tw.size ≤ _; omega, by show hd.size ≤ _; omega, HAq.out, by show acc.length ≤ _; omega⟩, HO5.out⟩
    · rw [hp] at HPX
      obtain ⟨f, Ef⟩ : ∃ f, (flI q).1 = f := ⟨_, rfl⟩
      obtain ⟨q2, Eq2⟩ : ∃ q2, (flI q).2 = q2 := ⟨_, rfl⟩
      have hsh : q2.length < q.length := by rw [← Eq2]; exact flI_short hp
      have hfz : FlZ f := by rw [← Ef]; exact flI_flz (by omega)
      obtain ⟨fu2, rfl⟩ : ∃ fu2, fu = fu2 + 1 := ⟨fu - 1, by have := HFu.out; omega⟩
      have HFu2 : Hid (q2.length < fu2) := by have := HFu.out; show _ < _; omega
      have HZ2 : Hid (flsI fu2 q2 (acc ++ [f]) = Z) := by
        show _ = _
        have := HZq.out
        rw [flsI, if_pos hp, Ef, Eq2] at this
        exact this
      have HA2 : Hid (∀ x ∈ acc ++ [f], FlZ x) := by
        intro x hx
        rw [List.mem_append, List.mem_singleton] at hx
        rcases hx with hx | rfl
        · exact HAq.out x hx
        · exact hfz
      have HNE : Hid (∀ g, (Value.slice a4 acc.length c4).ownBlock = some g → g ≠ b) := fun g hg => by have := (fls_own HFq.out g hg).1; omega
      have HFA : Hid (∀ wx : World, Blk b (rdC (.string dm) (.string tw) (.slice a4 acc.length c4) (.string ⟨#[]⟩) (.string bd) q) wx → (∀ wy, Off b wx wy → Env wy) → Calls Tryz.prog 51 #[.pointer (some ⟨b, 0, none⟩)] wx fun e w' => e = .returned (.agg #[.string f.rc, .string f.st, .int .i64 f.cd, .string f.tx]) ∧ Blk b (rdC (.string dm) (.string tw) (.slice a4 acc.length c4) (.string ⟨#[]⟩) (.string bd) q2) w' ∧ Off b wx w') := fun wx h1 h2 => by
        have := rFailure b (.string dm) (.string tw) (.slice a4 acc.length c4) (.string ⟨#[]⟩) (.string bd) q wx h2 h1 (by omega)
        rw [Ef, Eq2] at this
        exact this
      obtain ⟨i0, hi, hy0, hy1, hy2⟩ := info_parts infoFl
      clear Ef Eq2 HFu HZq HAq hp
      go_wp2_with fail
      refine (HPX.out _).mono ?_
      rintro e w' ⟨rfl, hw'⟩
      rw [hw']
      clear hw' w' HPX c5
      go_upto_region 7 with fail
      refine wp_region_held_drew (S := fun _ => True) (by kernel_rfl) trivial (fun hHeld => ?_)
      have HBq : Hid (Blk b (rdC (.string dm) (.string tw) (.slice a4 acc.length c4) (.string ⟨#[]⟩) (.string bd) q) wr.drew) := HBq.out.below (Below.refl wr.heap.size wr).drew
      have HFq : Hid (Fls wr.drew w.heap.size (.slice a4 acc.length c4) acc) := fls_below HFq.out (Below.refl wr.heap.size wr).drew (Nat.le_refl _)
      have HOq : Hid (Off b w wr.drew) := HOq.out.trans (Off.of_below (Below.refl wr.heap.size wr).drew)
      generalize wr.drew = wd at hHeld HBq HFq HOq ⊢
      refine wpAnyH_take (i := 0) (oi := { dst := some 33, op := Op.move (Operand.tmp 0), type := 74, pos := "l5_bounce.go:199", after := #[], guard := none }) (v := .pointer (some ⟨b, 0, none⟩)) rfl (by kernel_rfl) (by kernel_rfl) (by kernel_rfl) (fun _ _ _ h => h) (Or.inl ⟨by rfl, fun wz hSw => ?_⟩) hHeld ?_
      · clear hHeld hSw
        go_simp
      simp only [Act.put, List.setIfInBounds_toArray, List.set_cons_zero, List.set_cons_succ]
      refine wpAnyH_take (i := 1) (oi := { dst := some 34, op := Op.move (Operand.tmp 0), type := 74, pos := "l5_bounce.go:199", after := #[], guard := none }) (v := .pointer (some ⟨b, 0, none⟩)) rfl (by kernel_rfl) (by kernel_rfl) (by kernel_rfl) (fun _ _ _ h => h) (Or.inl ⟨by rfl, fun wz hSw => ?_⟩) hHeld ?_
      · clear hHeld hSw
        go_simp
      simp only [Act.put, List.setIfInBounds_toArray, List.set_cons_zero, List.set_cons_succ]
      refine wpAnyH_take (i := 2) (oi := { dst := some 35, op := Op.nilCheck (Operand.tmp 34), type := 0, pos := "l5_bounce.go:199", after := #[{ on := 1, ground := Ground.data }], guard := none }) (v := .pointer (some ⟨b, 0, none⟩)) rfl (by kernel_rfl) (by kernel_rfl) (by kernel_rfl) (fun _ _ _ h => h) (Or.inl ⟨by rfl, fun wz hSw => ?_⟩) hHeld ?_
      · clear hHeld hSw
        go_simp
      simp only [Act.put, List.setIfInBounds_toArray, List.set_cons_zero, List.set_cons_succ]
      refine wpAnyH_take (i := 3) (oi := { dst := some 36, op := Op.fieldAddr 53 (Operand.tmp 35) 0, type := 0, pos := "l5_bounce.go:199", after := #[{ on := 2, ground := Ground.data }], guard := none }) (v := .pointer (some ⟨b, 0, none⟩)) rfl (by kernel_rfl) (by kernel_rfl) (by kernel_rfl) (fun _ _ _ h => h) (Or.inl ⟨by rfl, fun wz hSw => ?_⟩) hHeld ?_
      · clear hHeld hSw
        go_simp
      simp only [Act.put, List.setIfInBounds_toArray, List.set_cons_zero, List.set_cons_succ]
      refine wpAnyH_take (i := 4) (oi := { dst := some 37, op := Op.fieldAddr 44 (Operand.tmp 36) 0, type := 0, pos := "l5_bounce.go:199", after := #[{ on := 3, ground := Ground.data }], guard := none }) (v := .pointer (some ⟨b, 0, none⟩)) rfl (by kernel_rfl) (by kernel_rfl) (by kernel_rfl) (fun _ _ _ h => h) (Or.inl ⟨by rfl, fun wz hSw => ?_⟩) hHeld ?_
      · clear hHeld hSw
        go_simp
      simp only [Act.put, List.setIfInBounds_toArray, List.set_cons_zero, List.set_cons_succ]
      refine wpAnyH_take (i := 5) (oi := { dst := some 38, op := Op.fieldAddr 25 (Operand.tmp 37) 2, type := 0, pos := "l5_bounce.go:199", after := #[{ on := 4, ground := Ground.data }], guard := none }) (v := .pointer (some ⟨b, 2, none⟩)) rfl (by kernel_rfl) (by kernel_rfl) (by kernel_rfl) (fun _ _ _ h => h) (Or.inl ⟨by rfl, fun wz hSw => ?_⟩) hHeld ?_
      · clear hHeld hSw
        go_simp
      simp only [Act.put, List.setIfInBounds_toArray, List.set_cons_zero, List.set_cons_succ]
      refine wpAnyH_take (i := 7) (oi := { dst := some 40, op := Op.move (Operand.tmp 0), type := 74, pos := "l5_bounce.go:199", after := #[], guard := none }) (v := .pointer (some ⟨b, 0, none⟩)) rfl (by kernel_rfl) (by kernel_rfl) (by kernel_rfl) (fun _ _ _ h => h) (Or.inl ⟨by rfl, fun wz hSw => ?_⟩) hHeld ?_
      · clear hHeld hSw
        go_simp
      simp only [Act.put, List.setIfInBounds_toArray, List.set_cons_zero, List.set_cons_succ]
      refine wpAnyH_ready (rs := [6, 8]) (by kernel_rfl) (by simp) ?_
      refine AllReadyH.cons (o := { dst := some 39, op := Op.load 23 (Operand.tmp 38), type := 23, pos := "l5_bounce.go:199", after := #[{ on := 5, ground := Ground.data }], guard := none }) rfl (fun K hK => ?_) (AllReadyH.cons (o := { dst := some 41, op := Op.call { callee := Callee.value (Operand.func 51), args := #[Operand.tmp 40], argTypes := #[74] }, type := 31, pos := "l5_bounce.go:199", after := #[{ on := 7, ground := Ground.data }], guard := none }) rfl (fun K hK => ?_) AllReadyH.nil)
      · clear hHeld
        have c2 : wd.cell? ⟨b, 2, none⟩ = some (.slice a4 acc.length c4) := HBq.out.cell 2
        go_simp
        refine hK.out _ _ trivial (fun hHeld => ?_)
        clear hK K c2
        try simp only [Act.put, List.setIfInBounds_toArray, List.set_cons_zero, List.set_cons_succ]
        refine wpAnyH_ready (rs := [8]) (by kernel_rfl) (by simp) ?_
        refine AllReadyH.cons (o := { dst := some 41, op := Op.call { callee := Callee.value (Operand.func 51), args := #[Operand.tmp 40], argTypes := #[74] }, type := 31, pos := "l5_bounce.go:199", after := #[{ on := 7, ground := Ground.data }], guard := none }) rfl (fun K hK => ?_) AllReadyH.nil
        clear hHeld
        go_simp
        go_at_call 51
        refine (HFA.out _ HBq.out (fun wy hy => HE.out _ (HOq.out.trans hy))).mono ?_
        rintro e w2 ⟨rfl, h1, o1⟩
        have HBq : Hid (Blk b (rdC (.string dm) (.string tw) (.slice a4 acc.length c4) (.string ⟨#[]⟩) (.string bd) q2) w2) := h1
        have HFq : Hid (Fls w2 w.heap.size (.slice a4 acc.length c4) acc) := fls_off HFq.out o1 HNE.out
        have HOq : Hid (Off b w w2) := HOq.out.trans o1
        refine hK.out _ _ trivial (fun hHeld => ?_)
        clear hK K h1 o1
        try simp only [Act.put, List.setIfInBounds_toArray, List.set_cons_zero, List.set_cons_succ]
        refine wpAnyH_ready (rs := [9]) (by kernel_rfl) (by simp) ?_
        refine AllReadyH.cons (o := { dst := some 42, op := Op.buildSlice 23 1 #[(0, Operand.tmp 41)], type := 23, pos := "l5_bounce.go:199", after := #[{ on := 8, ground := Ground.data }], guard := none }) rfl (fun K hK => ?_) AllReadyH.nil
        clear hHeld
        go_simp
        generalize hW : World.alloc w2 _ = w3
        obtain ⟨nb, hnb⟩ : ∃ nb, nb = w2.heap.size := ⟨_, rfl⟩
        have HN : Hid (w3.heap[nb]? = some (.cells #[.string f.rc, .string f.st, .int .i64 f.cd, .string f.tx] 31 (0, 0))) := by show _ = _; rw [← hW, hnb]; exact heap_newW _ _ _
        have hb : Below w2.heap.size w2 w3 := by rw [← hW]; exact below1 _ _
        rw [← hnb]
        have HBq : Hid (Blk b (rdC (.string dm) (.string tw) (.slice a4 acc.length c4) (.string ⟨#[]⟩) (.string bd) q2) w3) := HBq.out.below hb
        have HFq : Hid (Fls w3 w.heap.size (.slice a4 acc.length c4) acc) := fls_below HFq.out hb (Nat.le_refl _)
        have HOq : Hid (Off b w w3) := HOq.out.trans (Off.of_below hb)
        clear hW hnb hb
        refine hK.out _ _ trivial (fun hHeld => ?_)
        clear hK K
        try simp only [Act.put, List.setIfInBounds_toArray, List.set_cons_zero, List.set_cons_succ]
        refine wpAnyH_ready (rs := [10]) (by kernel_rfl) (by simp) ?_
        refine AllReadyH.cons (o := { dst := some 43, op := Op.call { callee := Callee.builtin Builtin.append, args := #[Operand.tmp 39, Operand.tmp 42], argTypes := #[23, 23] }, type := 23, pos := "l5_bounce.go:199", after := #[{ on := 6, ground := Ground.data }, { on := 9, ground := Ground.data }, { on := 8, ground := Ground.chain }], guard := none }) rfl (fun K hK => ?_) AllReadyH.nil
        refine step_append_lies _ (by rfl) _ _ 23 (by rfl) w.heap.size 31 i0 (.agg #[.string ⟨#[]⟩, .string ⟨#[]⟩, .int .i64 0, .string ⟨#[]⟩]) 4 56 Tryz.underlying23 hi hy0 hy1 hy2 (by rfl) (by decide) (.slice a4 acc.length c4) acc.length (frow acc) (by rfl) HFq.out ⟨nb, 0, none⟩ 1 1 (fcells f) (by rfl) (by rfl) (fun j u hj => World.news_of_block HN.out j u (by simpa [fcells] using hj)) (fl_one f) (by decide) (by unfold maxLen; omega) (by omega) HOq.out.size _ rfl ?_
        intro g7 c7 w7 hown hgrow hat hlt7
        have HF7 : Hid (Fls w7 w.heap.size (.slice (some ⟨g7, 0, none⟩) (acc.length + 1) c7) (acc ++ [f])) := fls_snoc hown
        have hb7 : Below w.heap.size w3 w7 := Below.grown (Below.refl _ _) hgrow HOq.out.size (fun g hg => (fls_own HFq.out g hg).1)
        have HB7 : Hid (Blk b (rdC (.string dm) (.string tw) (.slice a4 acc.length c4) (.string ⟨#[]⟩) (.string bd) q2) w7) := blk_belowN HBq.out hb7 hbw
        have HO7 : Hid (Off b w w7) := off_belowN HOq.out hb7
        refine hK.out _ _ trivial (fun hHeld => ?_)
        clear hK K hown hgrow hat hlt7 hb7
        try simp only [Act.put, List.setIfInBounds_toArray, List.set_cons_zero, List.set_cons_succ]
        refine wpAnyH_take (i := 11) (oi := { dst := some 44, op := Op.nilCheck (Operand.tmp 33), type := 0, pos := "l5_bounce.go:199", after := #[{ on := 0, ground := Ground.data }, { on := 0, ground := Ground.phase }, { on := 1, ground := Ground.phase }, { on := 2, ground := Ground.phase }, { on := 3, ground := Ground.phase }, { on := 4, ground := Ground.phase }, { on := 5, ground := Ground.phase }, { on := 6, ground := Ground.phase }, { on := 7, ground := Ground.phase }, { on := 8, ground := Ground.phase }, { on := 9, ground := Ground.phase }, { on := 10, ground := Ground.phase }], guard := none }) (v := .pointer (some ⟨b, 0, none⟩)) rfl (by kernel_rfl) (by kernel_rfl) (by kernel_rfl) (fun _ _ _ h => h) (Or.inl ⟨by rfl, fun wz hSw => ?_⟩) hHeld ?_
        · clear hHeld hSw
          go_simp
        simp only [Act.put, List.setIfInBounds_toArray, List.set_cons_zero, List.set_cons_succ]
        refine wpAnyH_take (i := 12) (oi := { dst := some 45, op := Op.fieldAddr 53 (Operand.tmp 44) 0, type := 0, pos := "l5_bounce.go:199", after := #[{ on := 11, ground := Ground.data }, { on := 0, ground := Ground.phase }, { on := 1, ground := Ground.phase }, { on := 2, ground := Ground.phase }, { on := 3, ground := Ground.phase }, { on := 4, ground := Ground.phase }, { on := 5, ground := Ground.phase }, { on := 6, ground := Ground.phase }, { on := 7, ground := Ground.phase }, { on := 8, ground := Ground.phase }, { on := 9, ground := Ground.phase }, { on := 10, ground := Ground.phase }], guard := none }) (v := .pointer (some ⟨b, 0, none⟩)) rfl (by kernel_rfl) (by kernel_rfl) (by kernel_rfl) (fun _ _ _ h => h) (Or.inl ⟨by rfl, fun wz hSw => ?_⟩) hHeld ?_
        · clear hHeld hSw
          go_simp
        simp only [Act.put, List.setIfInBounds_toArray, List.set_cons_zero, List.set_cons_succ]
        refine wpAnyH_take (i := 13) (oi := { dst := some 46, op := Op.fieldAddr 44 (Operand.tmp 45) 0, type := 0, pos := "l5_bounce.go:199", after := #[{ on := 12, ground := Ground.data }, { on := 0, ground := Ground.phase }, { on := 1, ground := Ground.phase }, { on := 2, ground := Ground.phase }, { on := 3, ground := Ground.phase }, { on := 4, ground := Ground.phase }, { on := 5, ground := Ground.phase }, { on := 6, ground := Ground.phase }, { on := 7, ground := Ground.phase }, { on := 8, ground := Ground.phase }, { on := 9, ground := Ground.phase }, { on := 10, ground := Ground.phase }], guard := none }) (v := .pointer (some ⟨b, 0, none⟩)) rfl (by kernel_rfl) (by kernel_rfl) (by kernel_rfl) (fun _ _ _ h => h) (Or.inl ⟨by rfl, fun wz hSw => ?_⟩) hHeld ?_
        · clear hHeld hSw
          go_simp
        simp only [Act.put, List.setIfInBounds_toArray, List.set_cons_zero, List.set_cons_succ]
        refine wpAnyH_take (i := 14) (oi := { dst := some 47, op := Op.fieldAddr 25 (Operand.tmp 46) 2, type := 0, pos := "l5_bounce.go:199", after := #[{ on := 13, ground := Ground.data }, { on := 0, ground := Ground.phase }, { on := 1, ground := Ground.phase }, { on := 2, ground := Ground.phase }, { on := 3, ground := Ground.phase }, { on := 4, ground := Ground.phase }, { on := 5, ground := Ground.phase }, { on := 6, ground := Ground.phase }, { on := 7, ground := Ground.phase }, { on := 8, ground := Ground.phase }, { on := 9, ground := Ground.phase }, { on := 10, ground := Ground.phase }], guard := none }) (v := .pointer (some ⟨b, 2, none⟩)) rfl (by kernel_rfl) (by kernel_rfl) (by kernel_rfl) (fun _ _ _ h => h) (Or.inl ⟨by rfl, fun wz hSw => ?_⟩) hHeld ?_
        · clear hHeld hSw
          go_simp
        simp only [Act.put, List.setIfInBounds_toArray, List.set_cons_zero, List.set_cons_succ]
        refine wpAnyH_ready (rs := [15]) (by kernel_rfl) (by simp) ?_
        refine AllReadyH.cons (o := { dst := none, op := Op.store 23 (Operand.tmp 47) (Operand.tmp 43), type := 0, pos := "l5_bounce.go:199", after := #[{ on := 14, ground := Ground.data }, { on := 10, ground := Ground.data }, { on := 10, ground := Ground.chain }, { on := 0, ground := Ground.phase }, { on := 1, ground := Ground.phase }, { on := 2, ground := Ground.phase }, { on := 3, ground := Ground.phase }, { on := 4, ground := Ground.phase }, { on := 5, ground := Ground.phase }, { on := 6, ground := Ground.phase }, { on := 7, ground := Ground.phase }, { on := 8, ground := Ground.phase }, { on := 9, ground := Ground.phase }, { on := 10, ground := Ground.phase }], guard := none }) rfl (fun K hK => ?_) AllReadyH.nil
        have c2 : w7.cell? ⟨b, 2, none⟩ = some (.slice a4 acc.length c4) := HB7.out.cell 2
        have f2 := HB7.out.free 2
        go_simp
        refine hK.out _ _ trivial (fun hHeld => ?_)
        clear hK K hHeld
        try simp only [Act.put, List.setIfInBounds_toArray, List.set_cons_zero, List.set_cons_succ]
        refine wpAnyH_done (by kernel_rfl) ?_ _
        generalize hV : w7.setCell _ _ = w8
        have HB8 : Hid (Blk b (rdC (.string dm) (.string tw) (.slice (some ⟨g7, 0, none⟩) (acc.length + 1) c7) (.string ⟨#[]⟩) (.string bd) q2) w8) := by show Blk _ _ _; rw [← hV]; exact HB7.out.set (i := 2) (by simp)
        have HF8 : Hid (Fls w8 w.heap.size (.slice (some ⟨g7, 0, none⟩) (acc.length + 1) c7) (acc ++ [f])) := by show Fls _ _ _ _; rw [← hV]; exact ownsRow_set_low HF7.out (by show b < _; exact hbw) _
        have HO8 : Hid (Off b w w8) := by show Off _ _ _; rw [← hV]; exact HO7.out.setCell _
        clear hV c2 f2
        go_simp
        go_wp2
        go_roundw
        case rel => exact ⟨q2, acc ++ [f], some ⟨g7, 0, none⟩, c7, fu2, by omega, by simp; omega, HFu2, HZ2, by simpa using HB8, by simpa using HF8, HA2, HO8⟩
        case measure => rw [restN_eq HB8.out rfl, HRN.out]; exact hsh
      · clear hHeld
        go_simp
        go_at_call 51
        refine (HFA.out _ HBq.out (fun wy hy => HE.out _ (HOq.out.trans hy))).mono ?_
        rintro e w2 ⟨rfl, h1, o1⟩
        have HBq : Hid (Blk b (rdC (.string dm) (.string tw) (.slice a4 acc.length c4) (.string ⟨#[]⟩) (.string bd) q2) w2) := h1
        have HFq : Hid (Fls w2 w.heap.size (.slice a4 acc.length c4) acc) := fls_off HFq.out o1 HNE.out
        have HOq : Hid (Off b w w2) := HOq.out.trans o1
        refine hK.out _ _ trivial (fun hHeld => ?_)
        clear hK K h1 o1
        try simp only [Act.put, List.setIfInBounds_toArray, List.set_cons_zero, List.set_cons_succ]
        refine wpAnyH_ready (rs := [6, 9]) (by kernel_rfl) (by simp) ?_
        refine AllReadyH.cons (o := { dst := some 39, op := Op.load 23 (Operand.tmp 38), type := 23, pos := "l5_bounce.go:199", after := #[{ on := 5, ground := Ground.data }], guard := none }) rfl (fun K hK => ?_) (AllReadyH.cons (o := { dst := some 42, op := Op.buildSlice 23 1 #[(0, Operand.tmp 41)], type := 23, pos := "l5_bounce.go:199", after := #[{ on := 8, ground := Ground.data }], guard := none }) rfl (fun K hK => ?_) AllReadyH.nil)
        · clear hHeld
          have c2 : w2.cell? ⟨b, 2, none⟩ = some (.slice a4 acc.length c4) := HBq.out.cell 2
          go_simp
          refine hK.out _ _ trivial (fun hHeld => ?_)
          clear hK K c2
          try simp only [Act.put, List.setIfInBounds_toArray, List.set_cons_zero, List.set_cons_succ]
          refine wpAnyH_ready (rs := [9]) (by kernel_rfl) (by simp) ?_
          refine AllReadyH.cons (o := { dst := some 42, op := Op.buildSlice 23 1 #[(0, Operand.tmp 41)], type := 23, pos := "l5_bounce.go:199", after := #[{ on := 8, ground := Ground.data }], guard := none }) rfl (fun K hK => ?_) AllReadyH.nil
          clear hHeld
          go_simp
          generalize hW : World.alloc w2 _ = w3
          obtain ⟨nb, hnb⟩ : ∃ nb, nb = w2.heap.size := ⟨_, rfl⟩
          have HN : Hid (w3.heap[nb]? = some (.cells #[.string f.rc, .string f.st, .int .i64 f.cd, .string f.tx] 31 (0, 0))) := by show _ = _; rw [← hW, hnb]; exact heap_newW _ _ _
          have hb : Below w2.heap.size w2 w3 := by rw [← hW]; exact below1 _ _
          rw [← hnb]
          have HBq : Hid (Blk b (rdC (.string dm) (.string tw) (.slice a4 acc.length c4) (.string ⟨#[]⟩) (.string bd) q2) w3) := HBq.out.below hb
          have HFq : Hid (Fls w3 w.heap.size (.slice a4 acc.length c4) acc) := fls_below HFq.out hb (Nat.le_refl _)
          have HOq : Hid (Off b w w3) := HOq.out.trans (Off.of_below hb)
          clear hW hnb hb
          refine hK.out _ _ trivial (fun hHeld => ?_)
          clear hK K
          try simp only [Act.put, List.setIfInBounds_toArray, List.set_cons_zero, List.set_cons_succ]
          refine wpAnyH_ready (rs := [10]) (by kernel_rfl) (by simp) ?_
          refine AllReadyH.cons (o := { dst := some 43, op := Op.call { callee := Callee.builtin Builtin.append, args := #[Operand.tmp 39, Operand.tmp 42], argTypes := #[23, 23] }, type := 23, pos := "l5_bounce.go:199", after := #[{ on := 6, ground := Ground.data }, { on := 9, ground := Ground.data }, { on := 8, ground := Ground.chain }], guard := none }) rfl (fun K hK => ?_) AllReadyH.nil
          refine step_append_lies _ (by rfl) _ _ 23 (by rfl) w.heap.size 31 i0 (.agg #[.string ⟨#[]⟩, .string ⟨#[]⟩, .int .i64 0, .string ⟨#[]⟩]) 4 56 Tryz.underlying23 hi hy0 hy1 hy2 (by rfl) (by decide) (.slice a4 acc.length c4) acc.length (frow acc) (by rfl) HFq.out ⟨nb, 0, none⟩ 1 1 (fcells f) (by rfl) (by rfl) (fun j u hj => World.news_of_block HN.out j u (by simpa [fcells] using hj)) (fl_one f) (by decide) (by unfold maxLen; omega) (by omega) HOq.out.size _ rfl ?_
          intro g7 c7 w7 hown hgrow hat hlt7
          have HF7 : Hid (Fls w7 w.heap.size (.slice (some ⟨g7, 0, none⟩) (acc.length + 1) c7) (acc ++ [f])) := fls_snoc hown
          have hb7 : Below w.heap.size w3 w7 := Below.grown (Below.refl _ _) hgrow HOq.out.size (fun g hg => (fls_own HFq.out g hg).1)
          have HB7 : Hid (Blk b (rdC (.string dm) (.string tw) (.slice a4 acc.length c4) (.string ⟨#[]⟩) (.string bd) q2) w7) := blk_belowN HBq.out hb7 hbw
          have HO7 : Hid (Off b w w7) := off_belowN HOq.out hb7
          refine hK.out _ _ trivial (fun hHeld => ?_)
          clear hK K hown hgrow hat hlt7 hb7
          try simp only [Act.put, List.setIfInBounds_toArray, List.set_cons_zero, List.set_cons_succ]
          refine wpAnyH_take (i := 11) (oi := { dst := some 44, op := Op.nilCheck (Operand.tmp 33), type := 0, pos := "l5_bounce.go:199", after := #[{ on := 0, ground := Ground.data }, { on := 0, ground := Ground.phase }, { on := 1, ground := Ground.phase }, { on := 2, ground := Ground.phase }, { on := 3, ground := Ground.phase }, { on := 4, ground := Ground.phase }, { on := 5, ground := Ground.phase }, { on := 6, ground := Ground.phase }, { on := 7, ground := Ground.phase }, { on := 8, ground := Ground.phase }, { on := 9, ground := Ground.phase }, { on := 10, ground := Ground.phase }], guard := none }) (v := .pointer (some ⟨b, 0, none⟩)) rfl (by kernel_rfl) (by kernel_rfl) (by kernel_rfl) (fun _ _ _ h => h) (Or.inl ⟨by rfl, fun wz hSw => ?_⟩) hHeld ?_
          · clear hHeld hSw
            go_simp
          simp only [Act.put, List.setIfInBounds_toArray, List.set_cons_zero, List.set_cons_succ]
          refine wpAnyH_take (i := 12) (oi := { dst := some 45, op := Op.fieldAddr 53 (Operand.tmp 44) 0, type := 0, pos := "l5_bounce.go:199", after := #[{ on := 11, ground := Ground.data }, { on := 0, ground := Ground.phase }, { on := 1, ground := Ground.phase }, { on := 2, ground := Ground.phase }, { on := 3, ground := Ground.phase }, { on := 4, ground := Ground.phase }, { on := 5, ground := Ground.phase }, { on := 6, ground := Ground.phase }, { on := 7, ground := Ground.phase }, { on := 8, ground := Ground.phase }, { on := 9, ground := Ground.phase }, { on := 10, ground := Ground.phase }], guard := none }) (v := .pointer (some ⟨b, 0, none⟩)) rfl (by kernel_rfl) (by kernel_rfl) (by kernel_rfl) (fun _ _ _ h => h) (Or.inl ⟨by rfl, fun wz hSw => ?_⟩) hHeld ?_
          · clear hHeld hSw
            go_simp
          simp only [Act.put, List.setIfInBounds_toArray, List.set_cons_zero, List.set_cons_succ]
          refine wpAnyH_take (i := 13) (oi := { dst := some 46, op := Op.fieldAddr 44 (Operand.tmp 45) 0, type := 0, pos := "l5_bounce.go:199", after := #[{ on := 12, ground := Ground.data }, { on := 0, ground := Ground.phase }, { on := 1, ground := Ground.phase }, { on := 2, ground := Ground.phase }, { on := 3, ground := Ground.phase }, { on := 4, ground := Ground.phase }, { on := 5, ground := Ground.phase }, { on := 6, ground := Ground.phase }, { on := 7, ground := Ground.phase }, { on := 8, ground := Ground.phase }, { on := 9, ground := Ground.phase }, { on := 10, ground := Ground.phase }], guard := none }) (v := .pointer (some ⟨b, 0, none⟩)) rfl (by kernel_rfl) (by kernel_rfl) (by kernel_rfl) (fun _ _ _ h => h) (Or.inl ⟨by rfl, fun wz hSw => ?_⟩) hHeld ?_
          · clear hHeld hSw
            go_simp
          simp only [Act.put, List.setIfInBounds_toArray, List.set_cons_zero, List.set_cons_succ]
          refine wpAnyH_take (i := 14) (oi := { dst := some 47, op := Op.fieldAddr 25 (Operand.tmp 46) 2, type := 0, pos := "l5_bounce.go:199", after := #[{ on := 13, ground := Ground.data }, { on := 0, ground := Ground.phase }, { on := 1, ground := Ground.phase }, { on := 2, ground := Ground.phase }, { on := 3, ground := Ground.phase }, { on := 4, ground := Ground.phase }, { on := 5, ground := Ground.phase }, { on := 6, ground := Ground.phase }, { on := 7, ground := Ground.phase }, { on := 8, ground := Ground.phase }, { on := 9, ground := Ground.phase }, { on := 10, ground := Ground.phase }], guard := none }) (v := .pointer (some ⟨b, 2, none⟩)) rfl (by kernel_rfl) (by kernel_rfl) (by kernel_rfl) (fun _ _ _ h => h) (Or.inl ⟨by rfl, fun wz hSw => ?_⟩) hHeld ?_
          · clear hHeld hSw
            go_simp
          simp only [Act.put, List.setIfInBounds_toArray, List.set_cons_zero, List.set_cons_succ]
          refine wpAnyH_ready (rs := [15]) (by kernel_rfl) (by simp) ?_
          refine AllReadyH.cons (o := { dst := none, op := Op.store 23 (Operand.tmp 47) (Operand.tmp 43), type := 0, pos := "l5_bounce.go:199", after := #[{ on := 14, ground := Ground.data }, { on := 10, ground := Ground.data }, { on := 10, ground := Ground.chain }, { on := 0, ground := Ground.phase }, { on := 1, ground := Ground.phase }, { on := 2, ground := Ground.phase }, { on := 3, ground := Ground.phase }, { on := 4, ground := Ground.phase }, { on := 5, ground := Ground.phase }, { on := 6, ground := Ground.phase }, { on := 7, ground := Ground.phase }, { on := 8, ground := Ground.phase }, { on := 9, ground := Ground.phase }, { on := 10, ground := Ground.phase }], guard := none }) rfl (fun K hK => ?_) AllReadyH.nil
          have c2 : w7.cell? ⟨b, 2, none⟩ = some (.slice a4 acc.length c4) := HB7.out.cell 2
          have f2 := HB7.out.free 2
          go_simp
          refine hK.out _ _ trivial (fun hHeld => ?_)
          clear hK K hHeld
          try simp only [Act.put, List.setIfInBounds_toArray, List.set_cons_zero, List.set_cons_succ]
          refine wpAnyH_done (by kernel_rfl) ?_ _
          generalize hV : w7.setCell _ _ = w8
          have HB8 : Hid (Blk b (rdC (.string dm) (.string tw) (.slice (some ⟨g7, 0, none⟩) (acc.length + 1) c7) (.string ⟨#[]⟩) (.string bd) q2) w8) := by show Blk _ _ _; rw [← hV]; exact HB7.out.set (i := 2) (by simp)
          have HF8 : Hid (Fls w8 w.heap.size (.slice (some ⟨g7, 0, none⟩) (acc.length + 1) c7) (acc ++ [f])) := by show Fls _ _ _ _; rw [← hV]; exact ownsRow_set_low HF7.out (by show b < _; exact hbw) _
          have HO8 : Hid (Off b w w8) := by show Off _ _ _; rw [← hV]; exact HO7.out.setCell _
          clear hV c2 f2
          go_simp
          go_wp2
          go_roundw
          case rel => exact ⟨q2, acc ++ [f], some ⟨g7, 0, none⟩, c7, fu2, by omega, by simp; omega, HFu2, HZ2, by simpa using HB8, by simpa using HF8, HA2, HO8⟩
          case measure => rw [restN_eq HB8.out rfl, HRN.out]; exact hsh
        · clear hHeld
          go_simp
          generalize hW : World.alloc w2 _ = w3
          obtain ⟨nb, hnb⟩ : ∃ nb, nb = w2.heap.size := ⟨_, rfl⟩
          have HN : Hid (w3.heap[nb]? = some (.cells #[.string f.rc, .string f.st, .int .i64 f.cd, .string f.tx] 31 (0, 0))) := by show _ = _; rw [← hW, hnb]; exact heap_newW _ _ _
          have hb : Below w2.heap.size w2 w3 := by rw [← hW]; exact below1 _ _
          rw [← hnb]
          have HBq : Hid (Blk b (rdC (.string dm) (.string tw) (.slice a4 acc.length c4) (.string ⟨#[]⟩) (.string bd) q2) w3) := HBq.out.below hb
          have HFq : Hid (Fls w3 w.heap.size (.slice a4 acc.length c4) acc) := fls_below HFq.out hb (Nat.le_refl _)
          have HOq : Hid (Off b w w3) := HOq.out.trans (Off.of_below hb)
          clear hW hnb hb
          refine hK.out _ _ trivial (fun hHeld => ?_)
          clear hK K
          try simp only [Act.put, List.setIfInBounds_toArray, List.set_cons_zero, List.set_cons_succ]
          refine wpAnyH_ready (rs := [6]) (by kernel_rfl) (by simp) ?_
          refine AllReadyH.cons (o := { dst := some 39, op := Op.load 23 (Operand.tmp 38), type := 23, pos := "l5_bounce.go:199", after := #[{ on := 5, ground := Ground.data }], guard := none }) rfl (fun K hK => ?_) AllReadyH.nil
          clear hHeld
          have c2 : w3.cell? ⟨b, 2, none⟩ = some (.slice a4 acc.length c4) := HBq.out.cell 2
          go_simp
          refine hK.out _ _ trivial (fun hHeld => ?_)
          clear hK K c2
          try simp only [Act.put, List.setIfInBounds_toArray, List.set_cons_zero, List.set_cons_succ]
          refine wpAnyH_ready (rs := [10]) (by kernel_rfl) (by simp) ?_
          refine AllReadyH.cons (o := { dst := some 43, op := Op.call { callee := Callee.builtin Builtin.append, args := #[Operand.tmp 39, Operand.tmp 42], argTypes := #[23, 23] }, type := 23, pos := "l5_bounce.go:199", after := #[{ on := 6, ground := Ground.data }, { on := 9, ground := Ground.data }, { on := 8, ground := Ground.chain }], guard := none }) rfl (fun K hK => ?_) AllReadyH.nil
          refine step_append_lies _ (by rfl) _ _ 23 (by rfl) w.heap.size 31 i0 (.agg #[.string ⟨#[]⟩, .string ⟨#[]⟩, .int .i64 0, .string ⟨#[]⟩]) 4 56 Tryz.underlying23 hi hy0 hy1 hy2 (by rfl) (by decide) (.slice a4 acc.length c4) acc.length (frow acc) (by rfl) HFq.out ⟨nb, 0, none⟩ 1 1 (fcells f) (by rfl) (by rfl) (fun j u hj => World.news_of_block HN.out j u (by simpa [fcells] using hj)) (fl_one f) (by decide) (by unfold maxLen; omega) (by omega) HOq.out.size _ rfl ?_
          intro g7 c7 w7 hown hgrow hat hlt7
          have HF7 : Hid (Fls w7 w.heap.size (.slice (some ⟨g7, 0, none⟩) (acc.length + 1) c7) (acc ++ [f])) := fls_snoc hown
          have hb7 : Below w.heap.size w3 w7 := Below.grown (Below.refl _ _) hgrow HOq.out.size (fun g hg => (fls_own HFq.out g hg).1)
          have HB7 : Hid (Blk b (rdC (.string dm) (.string tw) (.slice a4 acc.length c4) (.string ⟨#[]⟩) (.string bd) q2) w7) := blk_belowN HBq.out hb7 hbw
          have HO7 : Hid (Off b w w7) := off_belowN HOq.out hb7
          refine hK.out _ _ trivial (fun hHeld => ?_)
          clear hK K hown hgrow hat hlt7 hb7
          try simp only [Act.put, List.setIfInBounds_toArray, List.set_cons_zero, List.set_cons_succ]
          refine wpAnyH_take (i := 11) (oi := { dst := some 44, op := Op.nilCheck (Operand.tmp 33), type := 0, pos := "l5_bounce.go:199", after := #[{ on := 0, ground := Ground.data }, { on := 0, ground := Ground.phase }, { on := 1, ground := Ground.phase }, { on := 2, ground := Ground.phase }, { on := 3, ground := Ground.phase }, { on := 4, ground := Ground.phase }, { on := 5, ground := Ground.phase }, { on := 6, ground := Ground.phase }, { on := 7, ground := Ground.phase }, { on := 8, ground := Ground.phase }, { on := 9, ground := Ground.phase }, { on := 10, ground := Ground.phase }], guard := none }) (v := .pointer (some ⟨b, 0, none⟩)) rfl (by kernel_rfl) (by kernel_rfl) (by kernel_rfl) (fun _ _ _ h => h) (Or.inl ⟨by rfl, fun wz hSw => ?_⟩) hHeld ?_
          · clear hHeld hSw
            go_simp
          simp only [Act.put, List.setIfInBounds_toArray, List.set_cons_zero, List.set_cons_succ]
          refine wpAnyH_take (i := 12) (oi := { dst := some 45, op := Op.fieldAddr 53 (Operand.tmp 44) 0, type := 0, pos := "l5_bounce.go:199", after := #[{ on := 11, ground := Ground.data }, { on := 0, ground := Ground.phase }, { on := 1, ground := Ground.phase }, { on := 2, ground := Ground.phase }, { on := 3, ground := Ground.phase }, { on := 4, ground := Ground.phase }, { on := 5, ground := Ground.phase }, { on := 6, ground := Ground.phase }, { on := 7, ground := Ground.phase }, { on := 8, ground := Ground.phase }, { on := 9, ground := Ground.phase }, { on := 10, ground := Ground.phase }], guard := none }) (v := .pointer (some ⟨b, 0, none⟩)) rfl (by kernel_rfl) (by kernel_rfl) (by kernel_rfl) (fun _ _ _ h => h) (Or.inl ⟨by rfl, fun wz hSw => ?_⟩) hHeld ?_
          · clear hHeld hSw
            go_simp
          simp only [Act.put, List.setIfInBounds_toArray, List.set_cons_zero, List.set_cons_succ]
          refine wpAnyH_take (i := 13) (oi := { dst := some 46, op := Op.fieldAddr 44 (Operand.tmp 45) 0, type := 0, pos := "l5_bounce.go:199", after := #[{ on := 12, ground := Ground.data }, { on := 0, ground := Ground.phase }, { on := 1, ground := Ground.phase }, { on := 2, ground := Ground.phase }, { on := 3, ground := Ground.phase }, { on := 4, ground := Ground.phase }, { on := 5, ground := Ground.phase }, { on := 6, ground := Ground.phase }, { on := 7, ground := Ground.phase }, { on := 8, ground := Ground.phase }, { on := 9, ground := Ground.phase }, { on := 10, ground := Ground.phase }], guard := none }) (v := .pointer (some ⟨b, 0, none⟩)) rfl (by kernel_rfl) (by kernel_rfl) (by kernel_rfl) (fun _ _ _ h => h) (Or.inl ⟨by rfl, fun wz hSw => ?_⟩) hHeld ?_
          · clear hHeld hSw
            go_simp
          simp only [Act.put, List.setIfInBounds_toArray, List.set_cons_zero, List.set_cons_succ]
          refine wpAnyH_take (i := 14) (oi := { dst := some 47, op := Op.fieldAddr 25 (Operand.tmp 46) 2, type := 0, pos := "l5_bounce.go:199", after := #[{ on := 13, ground := Ground.data }, { on := 0, ground := Ground.phase }, { on := 1, ground := Ground.phase }, { on := 2, ground := Ground.phase }, { on := 3, ground := Ground.phase }, { on := 4, ground := Ground.phase }, { on := 5, ground := Ground.phase }, { on := 6, ground := Ground.phase }, { on := 7, ground := Ground.phase }, { on := 8, ground := Ground.phase }, { on := 9, ground := Ground.phase }, { on := 10, ground := Ground.phase }], guard := none }) (v := .pointer (some ⟨b, 2, none⟩)) rfl (by kernel_rfl) (by kernel_rfl) (by kernel_rfl) (fun _ _ _ h => h) (Or.inl ⟨by rfl, fun wz hSw => ?_⟩) hHeld ?_
          · clear hHeld hSw
            go_simp
          simp only [Act.put, List.setIfInBounds_toArray, List.set_cons_zero, List.set_cons_succ]
          refine wpAnyH_ready (rs := [15]) (by kernel_rfl) (by simp) ?_
          refine AllReadyH.cons (o := { dst := none, op := Op.store 23 (Operand.tmp 47) (Operand.tmp 43), type := 0, pos := "l5_bounce.go:199", after := #[{ on := 14, ground := Ground.data }, { on := 10, ground := Ground.data }, { on := 10, ground := Ground.chain }, { on := 0, ground := Ground.phase }, { on := 1, ground := Ground.phase }, { on := 2, ground := Ground.phase }, { on := 3, ground := Ground.phase }, { on := 4, ground := Ground.phase }, { on := 5, ground := Ground.phase }, { on := 6, ground := Ground.phase }, { on := 7, ground := Ground.phase }, { on := 8, ground := Ground.phase }, { on := 9, ground := Ground.phase }, { on := 10, ground := Ground.phase }], guard := none }) rfl (fun K hK => ?_) AllReadyH.nil
          have c2 : w7.cell? ⟨b, 2, none⟩ = some (.slice a4 acc.length c4) := HB7.out.cell 2
          have f2 := HB7.out.free 2
          go_simp
          refine hK.out _ _ trivial (fun hHeld => ?_)
          clear hK K hHeld
          try simp only [Act.put, List.setIfInBounds_toArray, List.set_cons_zero, List.set_cons_succ]
          refine wpAnyH_done (by kernel_rfl) ?_ _
          generalize hV : w7.setCell _ _ = w8
          have HB8 : Hid (Blk b (rdC (.string dm) (.string tw) (.slice (some ⟨g7, 0, none⟩) (acc.length + 1) c7) (.string ⟨#[]⟩) (.string bd) q2) w8) := by show Blk _ _ _; rw [← hV]; exact HB7.out.set (i := 2) (by simp)
          have HF8 : Hid (Fls w8 w.heap.size (.slice (some ⟨g7, 0, none⟩) (acc.length + 1) c7) (acc ++ [f])) := by show Fls _ _ _ _; rw [← hV]; exact ownsRow_set_low HF7.out (by show b < _; exact hbw) _
          have HO8 : Hid (Off b w w8) := by show Off _ _ _; rw [← hV]; exact HO7.out.setCell _
          clear hV c2 f2
          go_simp
          go_wp2
          go_roundw
          case rel => exact ⟨q2, acc ++ [f], some ⟨g7, 0, none⟩, c7, fu2, by omega, by simp; omega, HFu2, HZ2, by simpa using HB8, by simpa using HF8, HA2, HO8⟩
          case measure => rw [restN_eq HB8.out rfl, HRN.out]; exact hsh
end Go.Proofs.YtlolnfpfipnfeaaGreatDoor
