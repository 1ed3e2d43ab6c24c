import Derived.Test.YtlolnfpfipnfeaaGreatDoorMg35
import Derived.Test.YtlolnfpfipnfeaaGreatDoorMg38
import Derived.Deep.AppendLies
import Derived.Test.YtlolnfpfipnfeaaGreatDoorMg32
import Derived.Test.YtlolnfpfipnfeaaGreatDoorMg26
namespace Go.Proofs.YtlolnfpfipnfeaaGreatDoor
open Go.ChangeShapes Go.WideShapes Go.ChangeAt Go.RowKit
open Pcs

theorem makeS_yes {b : Bn} (h : bnOk b = true) : makeS b = mk (bnText b (cutL (bndS (linesB b.hd)))) := by unfold makeS; rw [if_pos h]
theorem ffS_le (M : List (List UInt8)) : ∀ (f k : Nat), ffS M f k ≤ k + f
  | 0, k => Nat.le_refl _
  | f + 1, k => by
    rw [ffS]
    split
    · omega
    · have := ffS_le M f (k + 1); omega
theorem cutS_size {hd : ByteArray} (h : bodyOk hd = true) : (mk (cutL (bndS (linesB hd)))).size ≤ 10 := by
  have hl := (body_lines h).2.2.2
  have := ffS_le (linesB hd) ((linesB hd).length + 2) 0
  rw [← cutB_mk]
  exact cutB_size (by unfold bndS; omega)
theorem nine_size {dm tw bd : ByteArray} (z1 : dm.size ≤ 1048576) (z2 : tw.size ≤ 1048576) (hb : bd.size ≤ 10) : ∀ x ∈ ([⟨#[70, 114, 111, 109, 58, 32, 60, 62]⟩, ⟨#[84, 111, 58, 32, 60]⟩ ++ tw ++ ⟨#[62]⟩, ⟨#[83, 117, 98, 106, 101, 99, 116, 58, 32, 85, 110, 100, 101, 108, 105, 118, 101, 114, 101, 100, 32, 109, 97, 105, 108]⟩, bdB ++ bd ++ ⟨#[34]⟩, ⟨#[]⟩, ⟨#[45, 45]⟩ ++ bd, ⟨#[67, 111, 110, 116, 101, 110, 116, 45, 84, 121, 112, 101, 58, 32, 109, 101, 115, 115, 97, 103, 101, 47, 100, 101, 108, 105, 118, 101, 114, 121, 45, 115, 116, 97, 116, 117, 115]⟩, ⟨#[]⟩, ⟨#[82, 101, 112, 111, 114, 116, 105, 110, 103, 45, 77, 84, 65, 58, 32, 100, 110, 115, 59, 32]⟩ ++ dm] : List ByteArray), x.size ≤ 2097152 := by
  intro x hx
  have e1 : (⟨#[62]⟩ : ByteArray).size = 1 := rfl
  have e2 : (⟨#[34]⟩ : ByteArray).size = 1 := rfl
  have e3 : (⟨#[45, 45]⟩ : ByteArray).size = 2 := rfl
  have e4 := bdB_size
  have e5 : (⟨#[84, 111, 58, 32, 60]⟩ : ByteArray).size = 5 := rfl
  have e6 : (⟨#[82, 101, 112, 111, 114, 116, 105, 110, 103, 45, 77, 84, 65, 58, 32, 100, 110, 115, 59, 32]⟩ : ByteArray).size = 20 := rfl
  simp only [List.mem_cons, List.not_mem_nil, or_false] at hx
  rcases hx with rfl | rfl | rfl | rfl | rfl | rfl | rfl | rfl | rfl
  · decide
  · rw [ByteArray.size_append, ByteArray.size_append]; omega
  · decide
  · rw [ByteArray.size_append, ByteArray.size_append]; omega
  · decide
  · rw [ByteArray.size_append]; omega
  · decide
  · decide
  · rw [ByteArray.size_append]; omega
theorem take_fl (L : List Fl) (k : Nat) (h : k < L.length) : ((L.take (k + 1)).map flLines).flatten = ((L.take k).map flLines).flatten ++ flLines L[k] := by
  rw [List.take_succ_eq_append_getElem h, List.map_append, List.flatten_append]
  simp
theorem five_one (a b c d e : ByteArray) : ∀ u ∈ (#[Value.string a, .string b, .string c, .string d, .string e] : Array Value).toList, u.oneCell' = true := by
  intro u hu
  simp at hu
  rcases hu with rfl | rfl | rfl | rfl | rfl <;> rfl
theorem five_snoc {w : World} {lo g cap : Nat} {L : List ByteArray} {a b c d e : ByteArray} (h : w.ownsRow lo 9 1 (.slice (some ⟨g, 0, none⟩) (L.length + 5) cap) (L.length + 5) (L.map Value.string ++ (#[Value.string a, .string b, .string c, .string d, .string e] : Array Value).toList)) : Strs w lo (.slice (some ⟨g, 0, none⟩) (L.length + 5) cap) (L ++ [a, b, c, d, e]) := by
  unfold Strs
  have e1 : (L ++ [a, b, c, d, e]).length = L.length + 5 := by simp
  have e2 : (L ++ [a, b, c, d, e]).map Value.string = L.map Value.string ++ (#[Value.string a, .string b, .string c, .string d, .string e] : Array Value).toList := by simp
  rw [e1, e2]
  exact h
theorem five_size {L : List ByteArray} {n : Nat} {a b c d e : ByteArray} (h : ∀ x ∈ L, x.size ≤ 2097152) (hb : b.size ≤ n) (hd : d.size ≤ n) (he : e.size ≤ n) (ha : a.size ≤ n := by decide) (hc : c.size ≤ n := by decide) (hn : n ≤ 2097152 := by decide) : ∀ x ∈ L ++ [a, b, c, d, e], x.size ≤ 2097152 := by
  intro x hx
  rw [List.mem_append] at hx
  rcases hx with hx | hx
  · exact h x hx
  · simp only [List.mem_cons, List.not_mem_nil, or_false] at hx
    rcases hx with rfl | rfl | rfl | rfl | rfl <;> omega
theorem four_one (a b c d : ByteArray) : ∀ u ∈ [Value.string a, .string b, .string c, .string d], u.oneCell' = true := by
  intro u hu
  simp at hu
  rcases hu with rfl | rfl | rfl | rfl <;> rfl
theorem four_snoc {w : World} {lo g cap : Nat} {L : List ByteArray} {a b c d : ByteArray} (h : w.ownsRow lo 9 1 (.slice (some ⟨g, 0, none⟩) (L.length + 4) cap) (L.length + 4) (L.map Value.string ++ [Value.string a, .string b, .string c, .string d])) : Strs w lo (.slice (some ⟨g, 0, none⟩) (L.length + 4) cap) (L ++ [a, b, c, d]) := by
  unfold Strs
  have e1 : (L ++ [a, b, c, d]).length = L.length + 4 := by simp
  have e2 : (L ++ [a, b, c, d]).map Value.string = L.map Value.string ++ [Value.string a, .string b, .string c, .string d] := by simp
  rw [e1, e2]
  exact h
theorem four_size {L : List ByteArray} {bd : ByteArray} (h : ∀ x ∈ L, x.size ≤ 2097152) (hb : bd.size ≤ 10) : ∀ x ∈ L ++ [⟨#[]⟩, ⟨#[45, 45]⟩ ++ bd, ⟨#[67, 111, 110, 116, 101, 110, 116, 45, 84, 121, 112, 101, 58, 32, 116, 101, 120, 116, 47, 114, 102, 99, 56, 50, 50, 45, 104, 101, 97, 100, 101, 114, 115]⟩, ⟨#[]⟩], x.size ≤ 2097152 := by
  intro x hx
  have e3 : (⟨#[45, 45]⟩ : ByteArray).size = 2 := rfl
  rw [List.mem_append] at hx
  rcases hx with hx | hx
  · exact h x hx
  · simp only [List.mem_cons, List.not_mem_nil, or_false] at hx
    rcases hx with rfl | rfl | rfl | rfl
    · decide
    · rw [ByteArray.size_append]; omega
    · decide
    · decide
theorem flat_bound (L : List ByteArray) (h : ∀ x ∈ L, x.size ≤ 2097152) : ∀ k, (flatL ((L.take k).map (·.data.toList))).length ≤ k * 2097154
  | 0 => by simp [flatL]
  | k + 1 => by
    have ih := flat_bound L h k
    by_cases hk : k < L.length
    · have h1 := h L[k] (List.getElem_mem hk)
      have h2 := len_line (flatL ((L.take k).map (·.data.toList))) L[k]
      rw [flat_step L k hk, h2, Nat.succ_mul]
      generalize k * 2097154 = n at *
      omega
    · rw [List.take_of_length_le (by omega)]
      rw [List.take_of_length_le (by omega)] at ih
      exact Nat.le_trans ih (Nat.mul_le_mul_right _ (Nat.le_succ k))
theorem fin_text {O hd bd : ByteArray} {A : List UInt8} (h : O = mk A) : mk (A ++ (hd.data.toList ++ lastL bd.data.toList)) = O ++ hd ++ (⟨#[45, 45]⟩ : ByteArray) ++ bd ++ (⟨#[45, 45, 13, 10]⟩ : ByteArray) := by
  rw [h, ← mk_data (mk A ++ hd ++ (⟨#[45, 45]⟩ : ByteArray) ++ bd ++ (⟨#[45, 45, 13, 10]⟩ : ByteArray))]
  congr 1
  simp [lastL, data_mk]

set_option maxHeartbeats 4000000 in
set_option maxRecDepth 100000 in
theorem specMake (b : Bn) (v : Value) (lo : Nat) (w : World) (h : Fls w lo v b.fs) (hz : BnZ b) :
    Calls Tryz.prog 6 #[bnV b v] w fun e w' => e = .returned (.string (makeS b)) ∧ Below w.heap.size w w' := by
  obtain ⟨dm, tw, L, hd⟩ := b
  have HZ : Hid (BnZ ⟨dm, tw, L, hd⟩) := hz
  have z3 := hz.hd
  dsimp only at h z3
  obtain ⟨a, c, rfl⟩ := fls_form h
  have HFL : Hid (Fls w lo (.slice a L.length c) L) := h
  have HRR : Hid (bnOk ⟨dm, tw, L, hd⟩ = true → BnR ⟨dm, tw, L, hd⟩) := bnR
  have HNO : Hid (bnOk ⟨dm, tw, L, hd⟩ = false → makeS ⟨dm, tw, L, hd⟩ = ⟨#[]⟩) := (fun h => (make_no h).2)
  have HYE : Hid (bnOk ⟨dm, tw, L, hd⟩ = true → makeS ⟨dm, tw, L, hd⟩ = mk (bnText ⟨dm, tw, L, hd⟩ (cutL (bndS (linesB hd))))) := makeS_yes
  have HIR : Hid (∀ wx : World, Below w.heap.size w wx → Calls Tryz.prog 17 #[.agg #[.string dm, .string tw, .slice a L.length c, .string hd]] wx fun e w' => e = .returned (.bool (bnOk ⟨dm, tw, L, hd⟩)) ∧ Below wx.heap.size wx w') := fun wx hx => specRight ⟨dm, tw, L, hd⟩ _ lo wx (fls_below HFL.out hx (Nat.le_refl _)) HZ.out
  unfold bnV
  dsimp only
  clear h hz
  generalize makeS ⟨dm, tw, L, hd⟩ = MT at *
  go_enter Tryz.func6, Tryz.ntmps6
  go_upto_region 1 with fail
  generalize hW : w.alloc _ = W
  have HM : Hid (Blk w.heap.size #[.string dm, .string tw, .slice a L.length c, .string hd] W) := by show Blk _ _ _; rw [← hW]; exact Blk.new _ _ _
  have HB0 : Hid (Below w.heap.size w W) := by show Below _ _ _; rw [← hW]; exact below1 _ _
  have k0 : W.cell? ⟨w.heap.size, 0, none⟩ = some (.string dm) := HM.out.cell 0
  have k1 : W.cell? ⟨w.heap.size, 1, none⟩ = some (.string tw) := HM.out.cell 1
  have k2 : W.cell? ⟨w.heap.size, 2, none⟩ = some (.slice a L.length c) := HM.out.cell 2
  have k3 : W.cell? ⟨w.heap.size, 3, none⟩ = some (.string hd) := HM.out.cell 3
  clear hW
  go_wp2_with fail
  refine (HIR.out _ HB0.out).mono ?_
  rintro e w1 ⟨rfl, hb⟩
  have HB1 : Hid (Below W.heap.size W w1) := hb
  clear hb k0 k1 k2 k3 HIR
  cases hok : bnOk ⟨dm, tw, L, hd⟩
  · have G : Hid (MT = ⟨#[]⟩) := HNO.out hok
    clear hok
    go_wp2
    go_ret
    exact ⟨ret_str G.out.symm, HB0.out.trans (HB1.out.mono HB0.out.size)⟩
  · have r := HRR.out hok
    have G : Hid (MT = mk (bnText ⟨dm, tw, L, hd⟩ (cutL (bndS (linesB hd))))) := HYE.out hok
    have hbo : bodyOk hd = true := head_body r.hd
    have h3000 : hd.size ≤ 3000 := by
      unfold bodyOk at hbo
      simp only [Bool.and_eq_true, decide_eq_true_eq] at hbo
      exact hbo.1
    have HL20 : L.length ≤ 20 := r.n20
    have HCD : Hid (∀ f ∈ L, 0 ≤ f.cd ∧ f.cd ≤ 1000) := fun f hf => code_bnd (flOk_of (r.fs f hf)).2.2.1
    have hbs : (mk (cutL (bndS (linesB hd)))).size ≤ 10 := cutS_size hbo
    have HIB : Hid (∀ wx : World, Calls Tryz.prog 18 #[.string hd] wx fun e w' => e = .returned (.string (mk (cutL (bndS (linesB hd))))) ∧ Below wx.heap.size wx w') := fun wx => specBound hd wx hbo z3
    have HBL : Hid ((mk (cutL (bndS (linesB hd)))).data.toList = cutL (bndS (linesB hd))) := rfl
    generalize hbdE : mk (cutL (bndS (linesB hd))) = bd at *
    have z1 := HZ.out.he
    have z2 := HZ.out.tw
    dsimp only at z1 z2
    have HZ4 : Hid (∀ f ∈ L, FlZ f) := HZ.out.fs
    clear r hbo hbdE HRR HNO HYE hok
    have HB1' : Hid (Below w.heap.size w w1) := HB0.out.trans (HB1.out.mono HB0.out.size)
    have HM1 : Hid (Blk w.heap.size #[.string dm, .string tw, .slice a L.length c, .string hd] w1) := Blk.below HM.out HB1.out
    have k3 : w1.cell? ⟨w.heap.size, 3, none⟩ = some (.string hd) := HM1.out.cell 3
    go_wp2_with fail
    refine (HIB.out _).mono ?_
    rintro e w2 ⟨rfl, hb⟩
    have HB2 : Hid (Below w.heap.size w w2) := HB1'.out.trans (hb.mono HB1'.out.size)
    have HM2 : Hid (Blk w.heap.size #[.string dm, .string tw, .slice a L.length c, .string hd] w2) := Blk.below HM1.out hb
    clear hb k3 HIB HM HM1 HB1 HB1' HB0
    have k0 : w2.cell? ⟨w.heap.size, 0, none⟩ = some (.string dm) := HM2.out.cell 0
    have k1 : w2.cell? ⟨w.heap.size, 1, none⟩ = some (.string tw) := HM2.out.cell 1
    have k2 : w2.cell? ⟨w.heap.size, 2, none⟩ = some (.slice a L.length c) := HM2.out.cell 2
    have k3 : w2.cell? ⟨w.heap.size, 3, none⟩ = some (.string hd) := HM2.out.cell 3
    go_upto_region 5 with fail
    generalize hV : w2.alloc _ = w3
    obtain ⟨Lh, hLh⟩ : ∃ Lh : List ByteArray, Lh = [⟨#[70, 114, 111, 109, 58, 32, 60, 62]⟩, ⟨#[84, 111, 58, 32, 60]⟩ ++ tw ++ ⟨#[62]⟩, ⟨#[83, 117, 98, 106, 101, 99, 116, 58, 32, 85, 110, 100, 101, 108, 105, 118, 101, 114, 101, 100, 32, 109, 97, 105, 108]⟩, bdB ++ bd ++ ⟨#[34]⟩, ⟨#[]⟩, ⟨#[45, 45]⟩ ++ bd, ⟨#[67, 111, 110, 116, 101, 110, 116, 45, 84, 121, 112, 101, 58, 32, 109, 101, 115, 115, 97, 103, 101, 47, 100, 101, 108, 105, 118, 101, 114, 121, 45, 115, 116, 97, 116, 117, 115]⟩, ⟨#[]⟩, ⟨#[82, 101, 112, 111, 114, 116, 105, 110, 103, 45, 77, 84, 65, 58, 32, 100, 110, 115, 59, 32]⟩ ++ dm] := ⟨_, rfl⟩
    have hLl : Lh.length = 9 := by rw [hLh]; rfl
    have HS3 : Hid (Strs w3 w2.heap.size (.slice (some ⟨w2.heap.size, 0, none⟩) 9 9) Lh) := by
      show Strs _ _ _ _
      rw [← hV]
      have := strs_new w2 Lh (by rw [hLl]; decide)
      rw [hLl] at this
      rw [hLh] at this ⊢
      exact this
    have HLH : Hid (Lh.map (·.data.toList) = hdLines ⟨dm, tw, L, hd⟩ bd.data.toList) := by
      show _ = _
      rw [hLh]
      simp [hdLines, frL, toL, sbL, csL, rpL, bdB_list]
    have HZh : Hid (∀ x ∈ Lh, x.size ≤ 2097152) := by
      rw [hLh]
      exact nine_size z1 z2 hbs
    have HB3 : Hid (Below w2.heap.size w2 w3) := by show Below _ _ _; rw [← hV]; exact below1 _ _
    clear hV hLh k0 k1 k2 k3
    have k2 : w3.cell? ⟨w.heap.size, 2, none⟩ = some (.slice a L.length c) := (Blk.below HM2.out HB3.out).cell 2
    go_wp2_with fail
    clear k2
    go_loopw [32, 4] (fun iv sv wr => ∃ (k : Nat) (Ls : List ByteArray) (a4 : Option Addr) (c4 : Nat), k ≤ L.length ∧ iv = .int .i64 k ∧ sv = .slice a4 Ls.length c4 ∧ Hid (Ls.length = 9 + 5 * k) ∧ Hid (Strs wr w2.heap.size (.slice a4 Ls.length c4) Ls) ∧ Hid (Ls.map (·.data.toList) = hdLines ⟨dm, tw, L, hd⟩ bd.data.toList ++ ((L.take k).map flLines).flatten) ∧ Hid (∀ x ∈ Ls, x.size ≤ 2097152) ∧ Hid (Below w2.heap.size w2 wr)) (fun iv _ _ => L.length - (intOf iv).toNat)
    case atStart => exact ⟨0, Lh, some ⟨w2.heap.size, 0, none⟩, 9, Nat.zero_le _, rfl, by rw [hLl], (by show _ = _; omega), by rw [hLl]; exact HS3, by show _ = _; rw [HLH.out]; simp, HZh, HB3⟩
    case round =>
      clear HS3 HLH HZh HB3 hLl
      obtain ⟨k, Ls, a4, c4, hk, rfl, rfl, HLn, HSk, HEk, HZk, HBk⟩ := hrel
      have hLb : Ls.length ≤ 109 := by have := HLn.out; omega
      by_cases hlt : k < L.length
      · obtain ⟨g, cap, hv, A1⟩ : ∃ g cap, (Value.slice a L.length c) = .slice (some ⟨g, 0, none⟩) L.length cap ∧ FlsAt w lo g cap L := by
          rcases HFL.out.cases with ⟨_, h0⟩ | h0
          · rw [h0] at hlt; exact absurd hlt (Nat.not_lt_zero _)
          · exact h0
        injection hv with hv1 _ hv3
        subst hv1 hv3
        have hgw : g < w2.heap.size := Nat.lt_of_lt_of_le A1.lt HB2.out.size
        have hX := A1.cell k hlt
        have e0 := (HBk.out.cell (p := ⟨g, k * 4, none⟩) hgw).trans ((HB2.out.cell (p := ⟨g, k * 4, none⟩) A1.lt).trans hX.1)
        have e1 := (HBk.out.cell (p := ⟨g, k * 4 + 1, none⟩) hgw).trans ((HB2.out.cell (p := ⟨g, k * 4 + 1, none⟩) A1.lt).trans hX.2.1)
        have e2 := (HBk.out.cell (p := ⟨g, k * 4 + 2, none⟩) hgw).trans ((HB2.out.cell (p := ⟨g, k * 4 + 2, none⟩) A1.lt).trans hX.2.2.1)
        have e3 := (HBk.out.cell (p := ⟨g, k * 4 + 3, none⟩) hgw).trans ((HB2.out.cell (p := ⟨g, k * 4 + 3, none⟩) A1.lt).trans hX.2.2.2)
        have hcap := A1.len
        have hcap2 := A1.cap
        unfold maxLen at hcap2
        have HFZ := HZ4.out L[k] (List.getElem_mem hlt)
        have HCk := HCD.out L[k] (List.getElem_mem hlt)
        have HT : Hid (((L.take (k + 1)).map flLines).flatten = ((L.take k).map flLines).flatten ++ flLines L[k]) := take_fl L k hlt
        generalize L[k] = X at *
        obtain ⟨rc, st, cd, tx⟩ := X
        obtain ⟨y1, y2, y4⟩ := HFZ
        dsimp only at e0 e1 e2 e3 y1 y2 y4 HCk
        clear hX A1
        go_upto_region 8 with fail
        generalize hV : wr.alloc _ = Vw
        have hbV : Below wr.heap.size wr Vw := by rw [← hV]; exact below1 _ _
        have HVB : Hid (Blk wr.heap.size #[.string rc, .string st, .int .i64 cd, .string tx] Vw) := by show Blk _ _ _; rw [← hV]; exact Blk.new _ _ _
        have v0 : Vw.cell? ⟨wr.heap.size, 0, none⟩ = some (.string rc) := HVB.out.cell 0
        have v1 : Vw.cell? ⟨wr.heap.size, 1, none⟩ = some (.string st) := HVB.out.cell 1
        have v2 : Vw.cell? ⟨wr.heap.size, 2, none⟩ = some (.int .i64 cd) := HVB.out.cell 2
        have v3 : Vw.cell? ⟨wr.heap.size, 3, none⟩ = some (.string tx) := HVB.out.cell 3
        have HSV : Hid (Strs Vw w2.heap.size (.slice a4 Ls.length c4) Ls) := strs_below HSk.out hbV (Nat.le_refl _)
        have HBV : Hid (Below w2.heap.size w2 Vw) := HBk.out.trans (hbV.mono HBk.out.size)
        have hvz : wr.heap.size < Vw.heap.size := HVB.out.lt
        have HOW : Hid (∀ g, (Value.slice a4 Ls.length c4).ownBlock = some g → g < wr.heap.size) := strs_own HSk.out
        clear hV hbV e0 e1 e2 e3 HSk HBk
        have HDC : Hid (∀ wx : World, Calls Tryz.prog 19 #[.int .i64 cd] wx fun e w' => e = .returned (.string ⟨(Lib.itoa cd).toArray⟩) ∧ Below wx.heap.size wx w') := fun wx => specDecN cd HCk.1 (by omega) wx
        have hds : (⟨(Lib.itoa cd).toArray⟩ : ByteArray).size ≤ 4 := by
          have := itoa_len HCk.1 HCk.2
          show (Lib.itoa cd).toArray.size ≤ 4
          simpa using this
        have HD0 : Hid ((⟨(Lib.itoa cd).toArray⟩ : ByteArray).data.toList = Lib.itoa cd) := rfl
        generalize (⟨(Lib.itoa cd).toArray⟩ : ByteArray) = D at *
        have q1 : (⟨#[70, 105, 110, 97, 108, 45, 82, 101, 99, 105, 112, 105, 101, 110, 116, 58, 32, 114, 102, 99, 56, 50, 50, 59, 32]⟩ : ByteArray).size = 25 := rfl
        have q2 : (⟨#[83, 116, 97, 116, 117, 115, 58, 32]⟩ : ByteArray).size = 8 := rfl
        have q3 : (⟨#[68, 105, 97, 103, 110, 111, 115, 116, 105, 99, 45, 67, 111, 100, 101, 58, 32, 115, 109, 116, 112, 59, 32]⟩ : ByteArray).size = 23 := rfl
        have q4 : (⟨#[32]⟩ : ByteArray).size = 1 := rfl
        obtain ⟨sr, hsr⟩ : ∃ sr, (⟨#[70, 105, 110, 97, 108, 45, 82, 101, 99, 105, 112, 105, 101, 110, 116, 58, 32, 114, 102, 99, 56, 50, 50, 59, 32]⟩ : ByteArray) ++ rc = sr := ⟨_, rfl⟩
        obtain ⟨ss, hss⟩ : ∃ ss, (⟨#[83, 116, 97, 116, 117, 115, 58, 32]⟩ : ByteArray) ++ st = ss := ⟨_, rfl⟩
        obtain ⟨s1, hs1⟩ : ∃ s1, (⟨#[68, 105, 97, 103, 110, 111, 115, 116, 105, 99, 45, 67, 111, 100, 101, 58, 32, 115, 109, 116, 112, 59, 32]⟩ : ByteArray) ++ D = s1 := ⟨_, rfl⟩
        obtain ⟨s2, hs2⟩ : ∃ s2, s1 ++ (⟨#[32]⟩ : ByteArray) = s2 := ⟨_, rfl⟩
        obtain ⟨s3, hs3⟩ : ∃ s3, s2 ++ tx = s3 := ⟨_, rfl⟩
        have hzr : sr.size ≤ 1048610 := by rw [← hsr, ByteArray.size_append]; omega
        have hzs : ss.size ≤ 1048610 := by rw [← hss, ByteArray.size_append]; omega
        have hz1 : s1.size ≤ 30 := by rw [← hs1, ByteArray.size_append]; omega
        have hz2 : s2.size ≤ 31 := by rw [← hs2, ByteArray.size_append]; omega
        have hz3 : s3.size ≤ 1048610 := by rw [← hs3, ByteArray.size_append]; omega
        have har : ∀ wx : World, (Op.stringOp .add (⟨#[70, 105, 110, 97, 108, 45, 82, 101, 99, 105, 112, 105, 101, 110, 116, 58, 32, 114, 102, 99, 56, 50, 50, 59, 32]⟩ : ByteArray) rc).run Tryz.prog wx = .ok (.string sr) wx := fun wx => by rw [← hsr]; exact run_string_add_sum wx _ _ (by omega)
        have has : ∀ wx : World, (Op.stringOp .add (⟨#[83, 116, 97, 116, 117, 115, 58, 32]⟩ : ByteArray) st).run Tryz.prog wx = .ok (.string ss) wx := fun wx => by rw [← hss]; exact run_string_add_sum wx _ _ (by omega)
        have ha1 : ∀ wx : World, (Op.stringOp .add (⟨#[68, 105, 97, 103, 110, 111, 115, 116, 105, 99, 45, 67, 111, 100, 101, 58, 32, 115, 109, 116, 112, 59, 32]⟩ : ByteArray) D).run Tryz.prog wx = .ok (.string s1) wx := fun wx => by rw [← hs1]; exact run_string_add_sum wx _ _ (by omega)
        have ha2 : ∀ wx : World, (Op.stringOp .add s1 (⟨#[32]⟩ : ByteArray)).run Tryz.prog wx = .ok (.string s2) wx := fun wx => by rw [← hs2]; exact run_string_add_sum wx _ _ (by omega)
        have ha3 : ∀ wx : World, (Op.stringOp .add s2 tx).run Tryz.prog wx = .ok (.string s3) wx := fun wx => by rw [← hs3]; exact run_string_add_sum wx _ _ (by omega)
        have HFLn : Hid (([⟨#[]⟩, sr, ⟨#[65, 99, 116, 105, 111, 110, 58, 32, 102, 97, 105, 108, 101, 100]⟩, ss, s3] : List ByteArray).map (·.data.toList) = flLines ⟨rc, st, cd, tx⟩) := by
          show _ = _
          rw [← hsr, ← hss, ← hs3, ← hs2, ← hs1]
          simp [flLines, rcL, acL, stL, dgL, HD0.out]
        clear hsr hss hs1 hs2 hs3 q1 q2 q3 q4
        obtain ⟨i0, hi, hy0, hy1, hy2⟩ := info_parts infoStr
        refine wp_region_held_drew (S := fun w' => w'.cell? ⟨wr.heap.size, 0, none⟩ = some (.string rc) ∧ w'.cell? ⟨wr.heap.size, 1, none⟩ = some (.string st) ∧ w'.cell? ⟨wr.heap.size, 2, none⟩ = some (.int .i64 cd) ∧ w'.cell? ⟨wr.heap.size, 3, none⟩ = some (.string tx)) (by kernel_rfl) ⟨by simpa using v0, by simpa using v1, by simpa using v2, by simpa using v3⟩ (fun hHeld => ?_)
        have HBc : Hid (Below Vw.heap.size Vw Vw.drew) := (Below.refl Vw.heap.size Vw).drew
        generalize Vw.drew = wd at hHeld HBc ⊢
        clear v0 v1 v2 v3
        refine wpAnyH_take (i := 0) (oi := { dst := some 36, op := Op.move (Operand.tmp 4), type := 39, pos := "l5_bounce.go:77", after := #[], guard := none }) (v := .slice a4 Ls.length c4) rfl (by kernel_rfl) (by kernel_rfl) (by kernel_rfl) (fun _ _ _ h => h) (Or.inl ⟨by rfl, fun wz hSw => ?_⟩) hHeld ?_
        · obtain ⟨e0, e1, e2, e3⟩ := hSw
          clear hHeld
          go_simp
        simp only [Act.put, List.setIfInBounds_toArray, List.set_cons_zero, List.set_cons_succ]
        refine wpAnyH_take (i := 1) (oi := { dst := some 37, op := Op.fieldAddr 31 (Operand.tmp 6) 0, type := 0, pos := "l5_bounce.go:77", after := #[], guard := none }) (v := .pointer (some ⟨wr.heap.size, 0, none⟩)) rfl (by kernel_rfl) (by kernel_rfl) (by kernel_rfl) (fun _ _ _ h => h) (Or.inl ⟨by rfl, fun wz hSw => ?_⟩) hHeld ?_
        · obtain ⟨e0, e1, e2, e3⟩ := hSw
          clear hHeld
          go_simp
        simp only [Act.put, List.setIfInBounds_toArray, List.set_cons_zero, List.set_cons_succ]
        refine wpAnyH_take (i := 2) (oi := { dst := some 38, op := Op.load 9 (Operand.tmp 37), type := 9, pos := "l5_bounce.go:77", after := #[{ on := 1, ground := Ground.data }], guard := none }) (v := .string rc) rfl (by kernel_rfl) (by kernel_rfl) (by kernel_rfl) (fun _ _ _ h => h) (Or.inl ⟨by rfl, fun wz hSw => ?_⟩) hHeld ?_
        · obtain ⟨e0, e1, e2, e3⟩ := hSw
          clear hHeld
          go_simp
        simp only [Act.put, List.setIfInBounds_toArray, List.set_cons_zero, List.set_cons_succ]
        refine wpAnyH_take (i := 3) (oi := { dst := some 39, op := Op.binOp BinOp.add 9 (Operand.const (Value.string { data := #[70, 105, 110, 97, 108, 45, 82, 101, 99, 105, 112, 105, 101, 110, 116, 58, 32, 114, 102, 99, 56, 50, 50, 59, 32] })) (Operand.tmp 38) 9, type := 9, pos := "l5_bounce.go:77", after := #[{ on := 2, ground := Ground.data }], guard := none }) (v := .string sr) rfl (by kernel_rfl) (by kernel_rfl) (by kernel_rfl) (fun _ _ _ h => h) (Or.inl ⟨by rfl, fun wz hSw => ?_⟩) hHeld ?_
        · obtain ⟨e0, e1, e2, e3⟩ := hSw
          clear hHeld
          go_simp
        simp only [Act.put, List.setIfInBounds_toArray, List.set_cons_zero, List.set_cons_succ]
        refine wpAnyH_take (i := 4) (oi := { dst := some 40, op := Op.fieldAddr 31 (Operand.tmp 6) 1, type := 0, pos := "l5_bounce.go:77", after := #[], guard := none }) (v := .pointer (some ⟨wr.heap.size, 1, none⟩)) rfl (by kernel_rfl) (by kernel_rfl) (by kernel_rfl) (fun _ _ _ h => h) (Or.inl ⟨by rfl, fun wz hSw => ?_⟩) hHeld ?_
        · obtain ⟨e0, e1, e2, e3⟩ := hSw
          clear hHeld
          go_simp
        simp only [Act.put, List.setIfInBounds_toArray, List.set_cons_zero, List.set_cons_succ]
        refine wpAnyH_take (i := 5) (oi := { dst := some 41, op := Op.load 9 (Operand.tmp 40), type := 9, pos := "l5_bounce.go:77", after := #[{ on := 4, ground := Ground.data }], guard := none }) (v := .string st) rfl (by kernel_rfl) (by kernel_rfl) (by kernel_rfl) (fun _ _ _ h => h) (Or.inl ⟨by rfl, fun wz hSw => ?_⟩) hHeld ?_
        · obtain ⟨e0, e1, e2, e3⟩ := hSw
          clear hHeld
          go_simp
        simp only [Act.put, List.setIfInBounds_toArray, List.set_cons_zero, List.set_cons_succ]
        refine wpAnyH_take (i := 6) (oi := { dst := some 42, op := Op.binOp BinOp.add 9 (Operand.const (Value.string { data := #[83, 116, 97, 116, 117, 115, 58, 32] })) (Operand.tmp 41) 9, type := 9, pos := "l5_bounce.go:77", after := #[{ on := 5, ground := Ground.data }], guard := none }) (v := .string ss) rfl (by kernel_rfl) (by kernel_rfl) (by kernel_rfl) (fun _ _ _ h => h) (Or.inl ⟨by rfl, fun wz hSw => ?_⟩) hHeld ?_
        · obtain ⟨e0, e1, e2, e3⟩ := hSw
          clear hHeld
          go_simp
        simp only [Act.put, List.setIfInBounds_toArray, List.set_cons_zero, List.set_cons_succ]
        refine wpAnyH_take (i := 7) (oi := { dst := some 43, op := Op.fieldAddr 31 (Operand.tmp 6) 2, type := 0, pos := "l5_bounce.go:77", after := #[], guard := none }) (v := .pointer (some ⟨wr.heap.size, 2, none⟩)) rfl (by kernel_rfl) (by kernel_rfl) (by kernel_rfl) (fun _ _ _ h => h) (Or.inl ⟨by rfl, fun wz hSw => ?_⟩) hHeld ?_
        · obtain ⟨e0, e1, e2, e3⟩ := hSw
          clear hHeld
          go_simp
        simp only [Act.put, List.setIfInBounds_toArray, List.set_cons_zero, List.set_cons_succ]
        refine wpAnyH_take (i := 8) (oi := { dst := some 44, op := Op.load 3 (Operand.tmp 43), type := 3, pos := "l5_bounce.go:77", after := #[{ on := 7, ground := Ground.data }], guard := none }) (v := .int .i64 cd) rfl (by kernel_rfl) (by kernel_rfl) (by kernel_rfl) (fun _ _ _ h => h) (Or.inl ⟨by rfl, fun wz hSw => ?_⟩) hHeld ?_
        · obtain ⟨e0, e1, e2, e3⟩ := hSw
          clear hHeld
          go_simp
        simp only [Act.put, List.setIfInBounds_toArray, List.set_cons_zero, List.set_cons_succ]
        refine wpAnyH_take (i := 12) (oi := { dst := some 48, op := Op.fieldAddr 31 (Operand.tmp 6) 3, type := 0, pos := "l5_bounce.go:77", after := #[], guard := none }) (v := .pointer (some ⟨wr.heap.size, 3, none⟩)) rfl (by kernel_rfl) (by kernel_rfl) (by kernel_rfl) (fun _ _ _ h => h) (Or.inl ⟨by rfl, fun wz hSw => ?_⟩) hHeld ?_
        · obtain ⟨e0, e1, e2, e3⟩ := hSw
          clear hHeld
          go_simp
        simp only [Act.put, List.setIfInBounds_toArray, List.set_cons_zero, List.set_cons_succ]
        refine wpAnyH_take (i := 13) (oi := { dst := some 49, op := Op.load 9 (Operand.tmp 48), type := 9, pos := "l5_bounce.go:77", after := #[{ on := 12, ground := Ground.data }], guard := none }) (v := .string tx) rfl (by kernel_rfl) (by kernel_rfl) (by kernel_rfl) (fun _ _ _ h => h) (Or.inl ⟨by rfl, fun wz hSw => ?_⟩) hHeld ?_
        · obtain ⟨e0, e1, e2, e3⟩ := hSw
          clear hHeld
          go_simp
        simp only [Act.put, List.setIfInBounds_toArray, List.set_cons_zero, List.set_cons_succ]
        refine wpAnyH_ready (rs := [9]) (by kernel_rfl) (by simp) ?_
        refine AllReadyH.cons (o := { dst := some 45, op := Op.call { callee := Callee.value (Operand.func 19), args := #[Operand.tmp 44], argTypes := #[2] }, type := 9, pos := "l5_bounce.go:77", after := #[{ on := 8, ground := Ground.data }], guard := none }) rfl (fun K hK => ?_) AllReadyH.nil
        go_simp
        go_at_call 19
        refine (HDC.out _).mono ?_
        rintro e wI ⟨rfl, hb⟩
        have HBc : Hid (Below Vw.heap.size Vw wI) := HBc.out.trans (hb.mono HBc.out.size)
        refine hK.out _ _ ⟨(Blk.below HVB.out HBc.out).cell 0, (Blk.below HVB.out HBc.out).cell 1, (Blk.below HVB.out HBc.out).cell 2, (Blk.below HVB.out HBc.out).cell 3⟩ (fun hHeld => ?_)
        clear hK K hb
        try simp only [Act.put, List.setIfInBounds_toArray, List.set_cons_zero, List.set_cons_succ]
        refine wpAnyH_take (i := 10) (oi := { dst := some 46, op := Op.binOp BinOp.add 9 (Operand.const (Value.string { data := #[68, 105, 97, 103, 110, 111, 115, 116, 105, 99, 45, 67, 111, 100, 101, 58, 32, 115, 109, 116, 112, 59, 32] })) (Operand.tmp 45) 9, type := 9, pos := "l5_bounce.go:77", after := #[{ on := 9, ground := Ground.data }], guard := none }) (v := .string s1) rfl (by kernel_rfl) (by kernel_rfl) (by kernel_rfl) (fun _ _ _ h => h) (Or.inl ⟨by rfl, fun wz hSw => ?_⟩) hHeld ?_
        · obtain ⟨e0, e1, e2, e3⟩ := hSw
          clear hHeld
          go_simp
        simp only [Act.put, List.setIfInBounds_toArray, List.set_cons_zero, List.set_cons_succ]
        refine wpAnyH_take (i := 11) (oi := { dst := some 47, op := Op.binOp BinOp.add 9 (Operand.tmp 46) (Operand.const (Value.string { data := #[32] })) 9, type := 9, pos := "l5_bounce.go:77", after := #[{ on := 10, ground := Ground.data }], guard := none }) (v := .string s2) rfl (by kernel_rfl) (by kernel_rfl) (by kernel_rfl) (fun _ _ _ h => h) (Or.inl ⟨by rfl, fun wz hSw => ?_⟩) hHeld ?_
        · obtain ⟨e0, e1, e2, e3⟩ := hSw
          clear hHeld
          go_simp
        simp only [Act.put, List.setIfInBounds_toArray, List.set_cons_zero, List.set_cons_succ]
        refine wpAnyH_take (i := 14) (oi := { dst := some 50, op := Op.binOp BinOp.add 9 (Operand.tmp 47) (Operand.tmp 49) 9, type := 9, pos := "l5_bounce.go:77", after := #[{ on := 11, ground := Ground.data }, { on := 13, ground := Ground.data }], guard := none }) (v := .string s3) rfl (by kernel_rfl) (by kernel_rfl) (by kernel_rfl) (fun _ _ _ h => h) (Or.inl ⟨by rfl, fun wz hSw => ?_⟩) hHeld ?_
        · obtain ⟨e0, e1, e2, e3⟩ := hSw
          clear hHeld
          go_simp
        simp only [Act.put, List.setIfInBounds_toArray, List.set_cons_zero, List.set_cons_succ]
        refine wpAnyH_ready (rs := [15]) (by kernel_rfl) (by simp) ?_
        refine AllReadyH.cons (o := { dst := some 51, op := Op.buildSlice 39 5 #[(0, Operand.const (Value.string { data := #[] })), (1, Operand.tmp 39), (2, Operand.const (Value.string { data := #[65, 99, 116, 105, 111, 110, 58, 32, 102, 97, 105, 108, 101, 100] })), (3, Operand.tmp 42), (4, Operand.tmp 50)], type := 39, pos := "l5_bounce.go:77", after := #[{ on := 3, ground := Ground.data }, { on := 6, ground := Ground.data }, { on := 14, ground := Ground.data }], guard := none }) rfl (fun K hK => ?_) AllReadyH.nil
        go_simp
        generalize hW : World.alloc wI _ = w6
        obtain ⟨nb, hnb⟩ : ∃ nb, nb = wI.heap.size := ⟨_, rfl⟩
        have HN : Hid (w6.heap[nb]? = some (.cells #[.string ⟨#[]⟩, .string sr, .string ⟨#[65, 99, 116, 105, 111, 110, 58, 32, 102, 97, 105, 108, 101, 100]⟩, .string ss, .string s3] 9 (0, 0))) := by show _ = _; rw [← hW, hnb]; exact heap_newW _ _ _
        have hb : Below wI.heap.size wI w6 := by rw [← hW]; exact below1 _ _
        rw [← hnb]
        have HBc : Hid (Below Vw.heap.size Vw w6) := HBc.out.trans (hb.mono HBc.out.size)
        clear hW hnb
        refine hK.out _ _ ⟨(Blk.below HVB.out HBc.out).cell 0, (Blk.below HVB.out HBc.out).cell 1, (Blk.below HVB.out HBc.out).cell 2, (Blk.below HVB.out HBc.out).cell 3⟩ (fun hHeld => ?_)
        clear hK K hb
        try simp only [Act.put, List.setIfInBounds_toArray, List.set_cons_zero, List.set_cons_succ]
        refine wpAnyH_ready (rs := [16]) (by kernel_rfl) (by simp) ?_
        refine AllReadyH.cons (o := { dst := some 52, op := Op.call { callee := Callee.builtin Builtin.append, args := #[Operand.tmp 36, Operand.tmp 51], argTypes := #[39, 39] }, type := 39, pos := "l5_bounce.go:77", after := #[{ on := 0, ground := Ground.data }, { on := 15, ground := Ground.data }, { on := 9, ground := Ground.chain }], guard := none }) rfl (fun K hK => ?_) AllReadyH.nil
        have HS6 : Hid (Strs w6 w2.heap.size (.slice a4 Ls.length c4) Ls) := strs_below HSV.out HBc.out (Nat.le_refl _)
        refine step_append_lies _ (by rfl) _ _ 39 (by rfl) w2.heap.size 9 i0 (.string ⟨#[]⟩) 1 16 Tryz.underlying39 hi hy0 hy1 hy2 (by rfl) (by decide) (.slice a4 Ls.length c4) Ls.length (Ls.map Value.string) (by rfl) HS6.out ⟨nb, 0, none⟩ 5 5 #[.string ⟨#[]⟩, .string sr, .string ⟨#[65, 99, 116, 105, 111, 110, 58, 32, 102, 97, 105, 108, 101, 100]⟩, .string ss, .string s3].toList (by rfl) (by rfl) (fun j u hj => World.news_of_block HN.out j u (by simpa using hj)) (five_one _ _ _ _ _) (by decide) (by unfold maxLen; omega) (by omega) (Nat.le_trans HBV.out.size HBc.out.size) _ rfl ?_
        intro g7 c7 w7 hown hgrow hat hlt7
        have HS7 : Hid (Strs w7 w2.heap.size (.slice (some ⟨g7, 0, none⟩) (Ls.length + 5) c7) (Ls ++ [⟨#[]⟩, sr, ⟨#[65, 99, 116, 105, 111, 110, 58, 32, 102, 97, 105, 108, 101, 100]⟩, ss, s3])) := five_snoc hown
        have HO7 : Hid (Below w2.heap.size w6 w7) := Below.grown (Below.refl _ _) hgrow (Nat.le_trans HBV.out.size HBc.out.size) (strs_lo HS6.out)
        have HB7 : Hid (Below w2.heap.size w2 w7) := (HBV.out.trans (HBc.out.mono HBV.out.size)).trans HO7.out
        have HC7 : Hid (∀ i, w7.cell? ⟨wr.heap.size, i, none⟩ = w6.cell? ⟨wr.heap.size, i, none⟩) := fun i => World.cell?_of_block (w := w6) (hgrow.block wr.heap.size (Nat.lt_of_lt_of_le hvz HBc.out.size) (fun e => Nat.lt_irrefl _ (HOW.out _ e.symm)))
        refine hK.out _ _ ⟨(HC7.out 0).trans ((Blk.below HVB.out HBc.out).cell 0), (HC7.out 1).trans ((Blk.below HVB.out HBc.out).cell 1), (HC7.out 2).trans ((Blk.below HVB.out HBc.out).cell 2), (HC7.out 3).trans ((Blk.below HVB.out HBc.out).cell 3)⟩ (fun hHeld => ?_)
        clear hK K hown hgrow hat hlt7
        try simp only [Act.put, List.setIfInBounds_toArray, List.set_cons_zero, List.set_cons_succ]
        refine wpAnyH_take (i := 17) (oi := { dst := some 4, op := Op.assign (Operand.tmp 52), type := 39, pos := "l5_bounce.go:77", after := #[{ on := 16, ground := Ground.data }, { on := 16, ground := Ground.chain }, { on := 0, ground := Ground.phase }, { on := 1, ground := Ground.phase }, { on := 2, ground := Ground.phase }, { on := 3, ground := Ground.phase }, { on := 4, ground := Ground.phase }, { on := 5, ground := Ground.phase }, { on := 6, ground := Ground.phase }, { on := 7, ground := Ground.phase }, { on := 8, ground := Ground.phase }, { on := 9, ground := Ground.phase }, { on := 10, ground := Ground.phase }, { on := 11, ground := Ground.phase }, { on := 12, ground := Ground.phase }, { on := 13, ground := Ground.phase }, { on := 14, ground := Ground.phase }, { on := 15, ground := Ground.phase }, { on := 16, ground := Ground.phase }], guard := none }) (v := .slice (some ⟨g7, 0, none⟩) (Ls.length + 5) c7) rfl (by kernel_rfl) (by kernel_rfl) (by kernel_rfl) (fun _ _ _ h => h) (Or.inl ⟨by rfl, fun wz hSw => ?_⟩) hHeld ?_
        · obtain ⟨e0, e1, e2, e3⟩ := hSw
          clear hHeld
          go_simp
        simp only [Act.put, List.setIfInBounds_toArray, List.set_cons_zero, List.set_cons_succ]
        refine wpAnyH_done (by kernel_rfl) ?_ _
        clear hHeld har has ha1 ha2 ha3
        have HE7 : Hid ((Ls ++ [⟨#[]⟩, sr, ⟨#[65, 99, 116, 105, 111, 110, 58, 32, 102, 97, 105, 108, 101, 100]⟩, ss, s3]).map (·.data.toList) = hdLines ⟨dm, tw, L, hd⟩ bd.data.toList ++ ((L.take (k + 1)).map flLines).flatten) := by
          show _ = _
          rw [List.map_append, HEk.out, HFLn.out, HT.out, List.append_assoc]
        have HZ7 : Hid (∀ x ∈ Ls ++ [⟨#[]⟩, sr, ⟨#[65, 99, 116, 105, 111, 110, 58, 32, 102, 97, 105, 108, 101, 100]⟩, ss, s3], x.size ≤ 2097152) := five_size HZk.out hzr hzs hz3
        go_simp
        go_wp2
        go_roundw
        case rel => exact ⟨k + 1, Ls ++ [⟨#[]⟩, sr, ⟨#[65, 99, 116, 105, 111, 110, 58, 32, 102, 97, 105, 108, 101, 100]⟩, ss, s3], some ⟨g7, 0, none⟩, c7, by omega, by go_num, by simp, (by show _ = _; have := HLn.out; simp; omega), by simpa using HS7, HE7, HZ7, HB7⟩
        case measure => simp [intOf]; omega
      · obtain rfl : k = L.length := by omega
        have HE8 : Hid (Ls.map (·.data.toList) = hdLines ⟨dm, tw, L, hd⟩ bd.data.toList ++ (L.map flLines).flatten) := by
          show _ = _
          have := HEk.out
          rwa [List.take_of_length_le (Nat.le_refl _)] at this
        obtain ⟨i0, hi, hy0, hy1, hy2⟩ := info_parts infoStr
        have hown' : wr.ownsRow w2.heap.size 9 1 (.slice a4 Ls.length c4) Ls.length (Ls.map Value.string) := HSk.out
        have hlos := strs_lo HSk.out
        have q2 : (⟨#[45, 45]⟩ : ByteArray).size = 2 := rfl
        have hzw : w2.heap.size ≤ wr.heap.size := HBk.out.size
        clear HEk HLn HSk
        go_wp2_with (at_builtin; refine wpList_append_lies _ rfl _ _ 39 rfl w2.heap.size 9 i0 (.string ⟨#[]⟩) 1 16 Tryz.underlying39 hi hy0 hy1 hy2 rfl (by decide) _ _ _ rfl (hown'.alloc _) ⟨wr.heap.size, 0, none⟩ 4 4 [.string ⟨#[]⟩, .string (⟨#[45, 45]⟩ ++ bd), .string ⟨#[67, 111, 110, 116, 101, 110, 116, 45, 84, 121, 112, 101, 58, 32, 116, 101, 120, 116, 47, 114, 102, 99, 56, 50, 50, 45, 104, 101, 97, 100, 101, 114, 115]⟩, .string ⟨#[]⟩] rfl rfl ?c1 ?c2 ?c3 ?c4 ?c5 ?c6 (wr.heap.size + 1) ?c7 ?_)
        case c2 => exact ⟨rfl, rfl, rfl, rfl⟩
        case c3 => decide
        case c4 => unfold maxLen; omega
        case c5 => omega
        case c6 => simp; omega
        case c7 => simp
        intro g8 c8 w8 hown8 hgrow hat hlt8
        have hb8 : Below w2.heap.size wr w8 := ((Below.refl _ wr).alloc hzw _).grown hgrow (by simp; omega) hlos
        have HB8 : Hid (Below w2.heap.size w2 w8) := HBk.out.trans hb8
        have HS8 := four_snoc hown8
        clear hown8 hgrow hat hlt8 hb8 hown' hlos HBk
        obtain ⟨Lt, hLt⟩ : ∃ Lt : List ByteArray, Ls ++ [⟨#[]⟩, ⟨#[45, 45]⟩ ++ bd, ⟨#[67, 111, 110, 116, 101, 110, 116, 45, 84, 121, 112, 101, 58, 32, 116, 101, 120, 116, 47, 114, 102, 99, 56, 50, 50, 45, 104, 101, 97, 100, 101, 114, 115]⟩, ⟨#[]⟩] = Lt := ⟨_, rfl⟩
        have hLn : Ls.length + 4 = Lt.length := by rw [← hLt]; simp
        have HLT : Hid (Lt.map (·.data.toList) = bnLines ⟨dm, tw, L, hd⟩ bd.data.toList) := by
          show _ = _
          rw [← hLt, List.map_append, HE8.out]
          simp [bnLines, enLines, chL]
        have HZt : Hid (∀ x ∈ Lt, x.size ≤ 2097152) := by
          rw [← hLt]
          exact four_size HZk.out hbs
        rw [hLt, hLn] at HS8
        rw [hLn]
        have hLt2 : Lt.length ≤ 113 := by omega
        have A8 := HS8.at.1
        have hc8 := A8.cap
        have hl8 := A8.len
        unfold maxLen at hc8
        have CELL : Hid (∀ i (hi : i < Lt.length), w8.cell? ⟨g8, i, none⟩ = some (.string Lt[i])) := A8.cell
        have k3 : w8.cell? ⟨w.heap.size, 3, none⟩ = some (.string hd) := (HB8.out.cell (p := ⟨w.heap.size, 3, none⟩) HM2.out.lt).trans (HM2.out.cell 3)
        clear A8 HS8 hLn hLt HE8 HZk hLb
        go_wp2_with fail
        go_loopw [61, 7] (fun iv ov wr => ∃ (k : Nat) (O : ByteArray), k ≤ Lt.length ∧ iv = .int .i64 k ∧ ov = .string O ∧ Hid (O = mk (flatL ((Lt.take k).map (·.data.toList)))) ∧ wr = w8) (fun iv _ _ => Lt.length - (intOf iv).toNat)
        case atStart => exact ⟨0, ⟨#[]⟩, Nat.zero_le _, rfl, rfl, rfl, rfl⟩
        case round =>
          obtain ⟨k, O, hk2, rfl, rfl, HO, rfl⟩ := hrel
          have hO : O.size ≤ 300000000 := by
            have := flat_bound Lt HZt.out k
            rw [HO.out, mk_size]
            have h2 : k * 2097154 ≤ 113 * 2097154 := Nat.mul_le_mul_right _ (by omega)
            omega
          by_cases hlt : k < Lt.length
          · have ec := CELL.out k hlt
            have hx := HZt.out _ (List.getElem_mem hlt)
            have HST2 : Hid (flatL ((Lt.take (k + 1)).map (·.data.toList)) = flatL ((Lt.take k).map (·.data.toList)) ++ (Lt[k].data.toList ++ [13, 10])) := flat_step Lt k hlt
            generalize Lt[k] = x at *
            go_wp2
            go_roundw
            case rel => exact ⟨k + 1, _, by omega, by go_num, rfl, by show _ = _; rw [HST2.out]; exact flat_cat HO.out, by first | rfl | trivial⟩
            case measure => simp [intOf]; omega
          · obtain rfl : k = Lt.length := by omega
            have HO2 : Hid (O = mk (flatL (bnLines ⟨dm, tw, L, hd⟩ bd.data.toList))) := by
              show _ = _
              have e := HO.out
              rw [List.take_length, HLT.out] at e
              exact e
            have q4 : (⟨#[45, 45, 13, 10]⟩ : ByteArray).size = 4 := rfl
            go_wp2
            go_ret
            exact ⟨ret_str (by rw [G.out, ← HBL.out]; exact (fin_text HO2.out).symm), HB2.out.trans (HB8.out.mono HB2.out.size)⟩
end Go.Proofs.YtlolnfpfipnfeaaGreatDoor
namespace Go.Proofs.YtlolnfpfipnfeaaGreatDoor
open Go.ChangeShapes Go.WideShapes Go.ChangeAt Go.RowKit
open Pcs

theorem head_size (s : ByteArray) : (headB s).size ≤ s.size := by
  cases hb : bodyOk s
  · rw [head_no hb]; exact Nat.zero_le _
  · have e : headB s = mk (hdrL (linesB s)) := head_ok hb rfl
    have hl := (body_lines hb).1
    obtain ⟨k, hk⟩ := hdr_take (linesB s)
    rw [e, hk, mk_size, Lib.size_eq, hl]
    have : flatL (linesB s) = flatL ((linesB s).take k) ++ flatL ((linesB s).drop k) := by rw [← flatL_app, List.take_append_drop]
    rw [this, List.length_append]
    exact Nat.le_add_right _ _
theorem clean_size (s : ByteArray) : (cleanB s).size ≤ s.size := by
  have e : (cleanB s).size = (keepB s 200).data.toList.length := by
    rw [Lib.size_eq]
    unfold cleanB
    simp
  rw [e, ← Lib.size_eq]
  by_cases h : (s.size : Int) < 200
  · rw [keepB_big _ _ (by omega) h]; exact Nat.le_refl _
  · rw [keepB_mid _ _ (by omega) (by omega), ByteArray.size_extract]; omega
/-- small failures -/
structure FlY (f : Fl) : Prop where
  rc : f.rc.size ≤ 300
  st : f.st.size ≤ 8
  tx : f.tx.size ≤ 210
  it : (Lib.itoa f.cd).length ≤ 4
theorem fltGo_len : ∀ (n : Nat) (B : List UInt8) (p : Nat) (acc : List Fl), (fltGo n B p acc).1.length = acc.length + n
  | 0, _, _, _ => by simp [fltGo]
  | n + 1, B, p, acc => by rw [fltGo, fltGo_len]; simp; omega
theorem codes_it : ∀ x ∈ codes, (Lib.itoa x).length ≤ 4 := by
  have h1 : ∀ n : Nat, n < 1000 → (Lib.itoa (n : Int)).length ≤ 4 := by
    intro n hn
    have e : Lib.itoa (n : Int) = Lib.decDigits n := by unfold Lib.itoa; rw [if_neg (by omega)]; simp
    rw [e]
    exact Nat.le_trans (dec_len 3 n hn (by decide)) (by decide)
  intro x hx
  unfold codes at hx
  simp only [List.mem_cons, List.not_mem_nil, or_false] at hx
  rcases hx with rfl | rfl | rfl | rfl
  · exact h1 0 (by decide)
  · exact h1 550 (by decide)
  · exact h1 200 (by decide)
  · exact h1 599 (by decide)
theorem codesD_it (k : Nat) : (Lib.itoa (codes.getD k 0)).length ≤ 4 := by
  rw [List.getD_eq_getElem?_getD]
  cases e : codes[k]? with
  | none => exact codes_it 0 (by decide)
  | some x => exact codes_it x (List.mem_of_getElem? e)
theorem fltGo_small : ∀ (n : Nat) (B : List UInt8) (p : Nat) (acc : List Fl), (∀ f ∈ acc, FlY f) → ∀ f ∈ (fltGo n B p acc).1, FlY f
  | 0, _, _, acc, h => h
  | n + 1, B, p, acc, h => by
    rw [fltGo]
    refine fltGo_small n B _ _ fun f hf => ?_
    rw [List.mem_append, List.mem_singleton] at hf
    rcases hf with hf | rfl
    · exact h f hf
    · refine ⟨addrF_size _ _, Nat.le_trans (getD_le (L := stats) (n := 7) (by decide) _) (by decide), ?_, codesD_it _⟩
      exact Nat.le_trans (clean_size _) (Nat.le_trans (someB_size _ _ _) (by decide))
theorem hdGo_size : ∀ (n i : Nat) (h : ByteArray), i + n ≤ 3 → (hdGo n i h).size ≤ h.size + n * 10
  | 0, _, h, _ => by simp [hdGo]
  | n + 1, i, h, hi => by
    rw [hdGo]
    have h1 := hdGo_size n (i + 1) (h ++ (⟨#[45, 45, 98]⟩ ++ ⟨(Lib.decDigits i).toArray⟩ ++ ⟨#[13, 10]⟩)) (by omega)
    have e : (⟨(Lib.decDigits i).toArray⟩ : ByteArray).size = 1 := by rw [Lib.decDigits_one (by omega)]; rfl
    have e1 : (⟨#[45, 45, 98]⟩ : ByteArray).size = 3 := rfl
    have e2 : (⟨#[13, 10]⟩ : ByteArray).size = 2 := rfl
    simp only [ByteArray.size_append] at h1
    omega
/-- what is drawn is small -/
structure BnY (b : Bn) : Prop where
  he : b.he.size ≤ 200
  tw : b.tw.size ≤ 300
  hd : b.hd.size ≤ 4050
  le : b.fs.length ≤ 4
  ne : b.fs ≠ []
  fs : ∀ f ∈ b.fs, FlY f
theorem bncF_small (B : List UInt8) (p : Nat) : BnY (bncF B p).1 := by
  have hn : ∀ k, nx B k % 4 < 4 := fun k => Nat.mod_lt _ (by decide)
  refine ⟨domF_size _ _, addrF_size _ _, ?_, ?_, ?_, ?_⟩
  · show (hdGo _ 0 (headB (bodF B _).1)).size ≤ _
    have h1 := hdGo_size (nx B (flsP B (addrF B (domF B p).2).2).2 % 4) 0 (headB (bodF B (px B (flsP B (addrF B (domF B p).2).2).2)).1) (by have := hn (flsP B (addrF B (domF B p).2).2).2; omega)
    have h2 := head_size (bodF B (px B (flsP B (addrF B (domF B p).2).2).2)).1
    have h3 := bodF_size B (px B (flsP B (addrF B (domF B p).2).2).2)
    have h4 := hn (flsP B (addrF B (domF B p).2).2).2
    omega
  · show (fltGo _ B _ []).1.length ≤ 4
    rw [fltGo_len]
    have := hn (addrF B (domF B p).2).2
    simp only [List.length_nil]
    omega
  · show (fltGo _ B _ []).1 ≠ []
    intro e
    have := fltGo_len (1 + nx B (addrF B (domF B p).2).2 % 4) B (px B (addrF B (domF B p).2).2) []
    rw [e] at this
    simp only [List.length_nil] at this
    omega
  · exact fltGo_small _ _ _ _ (fun f hf => absurd hf (by simp))
theorem BnY.z {b : Bn} (h : BnY b) : BnZ b := ⟨Nat.le_trans h.he (by decide), Nat.le_trans h.tw (by decide), Nat.le_trans h.hd (by decide), fun f hf => ⟨Nat.le_trans (h.fs f hf).rc (by decide), Nat.le_trans (h.fs f hf).st (by decide), Nat.le_trans (h.fs f hf).tx (by decide)⟩, Nat.le_trans h.le (by decide)⟩
theorem flines_len {f : Fl} (h : FlY f) : (flatL (flLines f)).length ≤ 650 := by
  have h1 := h.rc
  have h2 := h.st
  have h3 := h.tx
  have h4 := h.it
  rw [Lib.size_eq] at h1 h2 h3
  simp only [flLines, flatL, List.map_cons, List.map_nil, List.flatten_cons, List.flatten_nil, List.length_append, List.length_cons, List.length_nil]
  have e1 : rcL.length = 25 := rfl
  have e2 : acL.length = 14 := rfl
  have e3 : stL.length = 8 := rfl
  have e4 : dgL.length = 23 := rfl
  omega
theorem flall_len : ∀ (L : List Fl), (∀ f ∈ L, FlY f) → (flatL (L.map flLines).flatten).length ≤ L.length * 650
  | [], _ => by simp [flatL]
  | f :: L, h => by
    have h1 := flall_len L fun g hg => h g (List.mem_cons_of_mem _ hg)
    have h2 := flines_len (h f (List.mem_cons_self ..))
    rw [List.map_cons, List.flatten_cons, flatL_app, List.length_append, List.length_cons]
    omega
theorem text_len {b : Bn} (h : BnY b) {cut : List UInt8} (hc : cut.length ≤ 10) : (bnText b cut).length ≤ 9000 := by
  have h1 := h.he
  have h2 := h.tw
  have h3 := h.hd
  rw [Lib.size_eq] at h1 h2 h3
  have h4 := flall_len b.fs h.fs
  have h5 := h.le
  unfold bnText bnLines
  rw [flatL_app, flatL_app]
  simp only [List.length_append]
  have e0 : (flatL (hdLines b cut)).length ≤ 900 := by
    simp only [hdLines, flatL, List.map_cons, List.map_nil, List.flatten_cons, List.flatten_nil, List.length_append, List.length_cons, List.length_nil]
    have e1 : frL.length = 8 := rfl
    have e2 : toL.length = 5 := rfl
    have e3 : sbL.length = 25 := rfl
    have e4 : bdL.length = 71 := rfl
    have e5 : csL.length = 37 := rfl
    have e6 : rpL.length = 20 := rfl
    omega
  have e1 : (flatL (enLines cut)).length ≤ 100 := by
    simp only [enLines, flatL, List.map_cons, List.map_nil, List.flatten_cons, List.flatten_nil, List.length_append, List.length_cons, List.length_nil]
    have e5 : chL.length = 33 := rfl
    omega
  have e2 : (lastL cut).length ≤ 20 := by
    simp only [lastL, List.length_append, List.length_cons, List.length_nil]
    omega
  omega
theorem make_len {b : Bn} (h : BnY b) : (makeS b).size ≤ 9000 := by
  cases hb : bnOk b
  · rw [(make_no hb).2]; exact Nat.zero_le _
  · rw [makeS_yes hb, mk_size]
    refine text_len h ?_
    have := cutS_size (head_body (bnR hb).hd)
    rwa [mk_size] at this
/-- texts that are drawn -/
structure TxY (t : ByteArray) : Prop where
  le : t.size ≤ 20000
  cw : cw t.data.toList < 6
theorem tx_made (B : List UInt8) (p : Nat) : TxY (makeS (bncF B p).1) := ⟨Nat.le_trans (make_len (bncF_small B p)) (by decide), by rw [cw_drawn]; decide⟩
theorem tx_spo (B : List UInt8) (p q : Nat) : TxY (spoF B q (makeS (bncF B p).1)).1 := by
  have h1 := make_len (bncF_small B p)
  have h2 := spoF_size B q (makeS (bncF B p).1)
  refine ⟨by omega, ?_⟩
  have h3 : ∀ x : ByteArray, Go.Proofs.YtlolnfpfipnfeaaGreatDoor.cw x.data.toList = 0 → Go.Proofs.YtlolnfpfipnfeaaGreatDoor.cw (spoF B q x).1.data.toList ≤ 2 := by
    intro x hx
    unfold spoF
    split
    · exact cw_spo _ _ _ hx
    · exact cw_spo _ _ _ hx
  have := h3 _ (cw_drawn B p)
  omega
/-- the words that spoil a status -/
def sts5 : List ByteArray := [⟨#[54, 46, 48, 46, 48]⟩, ⟨#[53, 46, 48]⟩, ⟨#[53, 46, 48, 46, 49, 50, 51, 52]⟩, ⟨#[53, 46, 46, 48]⟩, ⟨#[52, 46, 52, 46, 55, 46]⟩]
/-- a bounce spoilt in one place -/
def spoB (k j : Nat) (b : Bn) (f : Fl) (L : List Fl) : Bn :=
  match k with
  | 0 => ⟨⟨#[]⟩, b.tw, f :: L, b.hd⟩
  | 1 => ⟨b.he, ⟨#[97, 110, 110]⟩, f :: L, b.hd⟩
  | 2 => ⟨b.he, b.tw, [], b.hd⟩
  | 3 => ⟨b.he, b.tw, ⟨f.rc, sts5.getD j ⟨#[]⟩, f.cd, f.tx⟩ :: L, b.hd⟩
  | 4 => ⟨b.he, b.tw, ⟨f.rc, f.st, 199 + (j : Int) * 200, f.tx⟩ :: L, b.hd⟩
  | 5 => ⟨b.he, b.tw, ⟨f.rc, f.st, f.cd, ⟨#[99, 97, 102, 233]⟩⟩ :: L, b.hd⟩
  | 6 => ⟨b.he, b.tw, ⟨f.rc, f.st, f.cd, ofInts (fillL 201)⟩ :: L, b.hd⟩
  | 7 => ⟨b.he, b.tw, f :: L, b.hd ++ ⟨#[13, 10]⟩⟩
  | 8 => ⟨b.he, b.tw, f :: L, b.hd ++ ⟨#[120]⟩⟩
  | _ => ⟨b.he, b.tw, f :: L ++ List.replicate (20 + j % 2 - (L.length + 1)) f, b.hd⟩
def spoC (c : Nat) (b : Bn) : Bn := if c % 5 ≠ 4 then b else match b.fs with
  | [] => b
  | f :: L => spoB (c / 5 % 10) (c / 50) b f L
/-- DrawMakeBounce -/
def mkbF (B : List UInt8) : Bn := spoC (nx B 0) (bncF B (px B 0)).1
theorem spoC_no {c : Nat} {b : Bn} (h : c % 5 ≠ 4) : spoC c b = b := by unfold spoC; rw [if_pos h]
theorem spoC_yes {c : Nat} {b : Bn} {f : Fl} {L : List Fl} (h : c % 5 = 4) (hf : b.fs = f :: L) : spoC c b = spoB (c / 5 % 10) (c / 50) b f L := by unfold spoC; rw [if_neg (by omega), hf]
structure MkY (b : Bn) : Prop where
  z : BnZ b
  cw : cw (10 :: b.hd.data.toList) < 6
theorem FlY.z {f : Fl} (h : FlY f) : FlZ f := ⟨Nat.le_trans h.rc (by decide), Nat.le_trans h.st (by decide), Nat.le_trans h.tx (by decide)⟩
theorem cw_more {h x : ByteArray} (h0 : cw (10 :: h.data.toList) = 0) (hx : cw x.data.toList = 0) : cw (10 :: (h ++ x).data.toList) < 6 := by
  have e : (10 : UInt8) :: (h ++ x).data.toList = (10 :: h.data.toList) ++ x.data.toList := by simp
  have := cw_app x.data.toList (10 :: h.data.toList)
  rw [e]; omega
theorem spoB_y {k j : Nat} {b : Bn} {f : Fl} {L : List Fl} (hy : BnY b) (hc : cw (10 :: b.hd.data.toList) = 0) (hf : b.fs = f :: L) : MkY (spoB k j b f L) := by
  have h1 : FlZ f := (hy.fs f (by rw [hf]; exact List.mem_cons_self ..)).z
  have h2 : ∀ g ∈ L, FlZ g := fun g hg => (hy.fs g (by rw [hf]; exact List.mem_cons_of_mem _ hg)).z
  have h3 : ∀ f', FlZ f' → ∀ g ∈ f' :: L, FlZ g := fun f' hf' g hg => by
    rcases List.mem_cons.1 hg with rfl | hg
    · exact hf'
    · exact h2 g hg
  have z1 := hy.z.he
  have z2 := hy.z.tw
  have z3 := hy.z.hd
  have z4 : b.hd.size ≤ 4050 := hy.hd
  have zl : L.length ≤ 4 := by have := hy.le; rw [hf, List.length_cons] at this; omega
  have hn : ∀ f' : Fl, (f' :: L).length ≤ 1048576 := fun f' => by rw [List.length_cons]; omega
  have hc6 : cw (10 :: b.hd.data.toList) < 6 := by omega
  have h6 : (ofInts (fillL 201)).size ≤ 1048576 := by rw [fill_size]; omega
  unfold spoB
  generalize ofInts (fillL 201) = y6 at h6
  split
  · exact ⟨⟨Nat.zero_le _, z2, z3, h3 f h1, hn _⟩, hc6⟩
  · exact ⟨⟨z1, by show 3 ≤ 1048576; omega, z3, h3 f h1, hn _⟩, hc6⟩
  · exact ⟨⟨z1, z2, z3, fun g hg => absurd hg (by simp), Nat.zero_le _⟩, hc6⟩
  · exact ⟨⟨z1, z2, z3, h3 _ ⟨h1.rc, Nat.le_trans (getD_le (L := sts5) (n := 8) (by decide) _) (by decide), h1.tx⟩, hn _⟩, hc6⟩
  · exact ⟨⟨z1, z2, z3, h3 _ ⟨h1.rc, h1.st, h1.tx⟩, hn _⟩, hc6⟩
  · exact ⟨⟨z1, z2, z3, h3 _ ⟨h1.rc, h1.st, by show 4 ≤ 1048576; omega⟩, hn _⟩, hc6⟩
  · exact ⟨⟨z1, z2, z3, h3 _ ⟨h1.rc, h1.st, h6⟩, hn _⟩, hc6⟩
  · refine ⟨⟨z1, z2, ?_, h3 f h1, hn _⟩, cw_more hc (by decide)⟩
    show (b.hd ++ _).size ≤ _
    have e2 : (⟨#[13, 10]⟩ : ByteArray).size = 2 := rfl
    rw [ByteArray.size_append]; omega
  · refine ⟨⟨z1, z2, ?_, h3 f h1, hn _⟩, cw_more hc (by decide)⟩
    show (b.hd ++ _).size ≤ _
    have e2 : (⟨#[120]⟩ : ByteArray).size = 1 := rfl
    rw [ByteArray.size_append]; omega
  · refine ⟨⟨z1, z2, z3, fun g hg => ?_, by show (f :: L ++ List.replicate _ f).length ≤ _; simp only [List.length_append, List.length_cons, List.length_replicate]; omega⟩, hc6⟩
    rcases List.mem_append.1 hg with hg | hg
    · exact h3 f h1 g hg
    · rw [(List.mem_replicate.1 hg).2]; exact h1
theorem mkbF_y (B : List UInt8) : MkY (mkbF B) := by
  have hy := bncF_small B (px B 0)
  have hc : cw (10 :: (bncF B (px B 0)).1.hd.data.toList) = 0 := by
    obtain ⟨M, h1, h2⟩ := bncF_good B (px B 0)
    rw [h1]; exact cw_good h2
  unfold mkbF
  generalize (bncF B (px B 0)).1 = b at *
  by_cases h : nx B 0 % 5 = 4
  · cases hf : b.fs with
    | nil => exact absurd hf hy.ne
    | cons f L => rw [spoC_yes h hf]; exact spoB_y hy hc hf
  · rw [spoC_no h]; exact ⟨hy.z, by omega⟩
end Go.Proofs.YtlolnfpfipnfeaaGreatDoor
