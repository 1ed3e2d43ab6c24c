import Derived.Test.YtlolnfpfipnfeaaGreatDoorMg39
import Derived.Test.YtlolnfpfipnfeaaGreatDoorMg41
import Derived.Test.YtlolnfpfipnfeaaGreatDoorMg32
import Derived.Test.YtlolnfpfipnfeaaGreatDoorMg40
import Derived.Test.YtlolnfpfipnfeaaGreatDoorMg25
import Derived.Deep.DeepCutAuto
import Derived.Deep.CutBlock
namespace Go.Proofs.YtlolnfpfipnfeaaGreatDoor
open Go.ChangeShapes Go.WideShapes Go.ChangeAt Go.RowKit
open Pcs

/-- the lists of bytes behind texts -/
def lsB (P : List ByteArray) : List (List UInt8) := P.map (·.data.toList)
theorem lsB_len (P : List ByteArray) : (lsB P).length = P.length := by simp [lsB]
theorem lsB_pieces (t : ByteArray) : lsB (pieces ⟨#[13, 10]⟩ t) = pcs [13, 10] 0 [] t.data.toList := by
  unfold lsB pieces
  rw [List.map_map]
  have : ((fun x : ByteArray => x.data.toList) ∘ mk) = id := funext fun l => data_mk l
  rw [this, List.map_id]
def flB (a c d : ByteArray) : Fl := flS a.data.toList c.data.toList d.data.toList
theorem drop5 {P : List ByteArray} {i : Nat} (h : i + 4 < P.length) : (lsB P).drop i = P[i].data.toList :: P[i + 1].data.toList :: P[i + 2].data.toList :: P[i + 3].data.toList :: P[i + 4].data.toList :: (lsB P).drop (i + 5) := by
  have hl := lsB_len P
  rw [List.drop_eq_getElem_cons (by omega), List.drop_eq_getElem_cons (i := i + 1) (by omega), List.drop_eq_getElem_cons (i := i + 1 + 1) (by omega), List.drop_eq_getElem_cons (i := i + 1 + 1 + 1) (by omega), List.drop_eq_getElem_cons (i := i + 1 + 1 + 1 + 1) (by omega)]
  simp only [lsB, List.getElem_map]
theorem fls_go {P : List ByteArray} {f i : Nat} {acc : List Fl} (h : i + 4 < P.length) (hp : frcL.isPrefixOf P[i + 1].data.toList = true) : flsS (f + 1) ((lsB P).drop i) acc = flsS f ((lsB P).drop (i + 5)) (acc ++ [flB P[i + 1] P[i + 3] P[i + 4]]) := by
  rw [drop5 h, flsS, if_pos hp]
  rfl
theorem fls_stop {P : List ByteArray} {f i : Nat} {acc : List Fl} (h : i + 4 < P.length) (hp : frcL.isPrefixOf P[i + 1].data.toList = false) : flsS (f + 1) ((lsB P).drop i) acc = (acc, (lsB P).drop i) := by
  rw [drop5 h, flsS, if_neg (by rw [hp]; decide)]
theorem fls_end {P : List ByteArray} {f i : Nat} {acc : List Fl} (h : ¬ i + 4 < P.length) : flsS (f + 1) ((lsB P).drop i) acc = (acc, (lsB P).drop i) := by
  have hl : ((lsB P).drop i).length ≤ 4 := by rw [List.length_drop, lsB_len]; omega
  generalize (lsB P).drop i = Q at hl ⊢
  match Q, hl with
  | [], _ => rfl
  | [_], _ => rfl
  | [_, _], _ => rfl
  | [_, _, _], _ => rfl
  | [_, _, _, _], _ => rfl
/-- the word ahead of the first space -/
theorem word_take : ∀ (g : List UInt8) (k : Nat), k ≤ g.length → (∀ j (h : j < g.length), j < k → g[j] ≠ 32) → (∀ h : k < g.length, g[k] = 32) → wordL g = g.take k
  | [], k, hk, _, _ => by simp [wordL]
  | a :: g, 0, _, _, h2 => by
    have : a = 32 := h2 (by simp)
    rw [wordL, if_pos this]; rfl
  | a :: g, k + 1, hk, h1, h2 => by
    have h0 : a ≠ 32 := h1 0 (by simp) (by omega)
    rw [wordL, if_neg h0, List.take_succ_cons, word_take g k (by simpa using hk) (fun j hj hjk => by have := h1 (j + 1) (by simpa using hj) (by omega); simpa using this) (fun h => by have := h2 (by simpa using h); simpa using this)]
/-- the headers' lines up to a place -/
def hdJ (P : List ByteArray) (i k : Nat) : List UInt8 := flatL (((lsB P).drop (i + 4)).take k)
theorem hdJ_step {P : List ByteArray} {i k : Nat} (h : i + 4 + k < P.length) : hdJ P i (k + 1) = hdJ P i k ++ (P[i + 4 + k].data.toList ++ [13, 10]) := by
  unfold hdJ
  have hl := lsB_len P
  have hd : k < ((lsB P).drop (i + 4)).length := by rw [List.length_drop, hl]; omega
  rw [List.take_succ_eq_append_getElem hd, flatL_app, flat_one, List.getElem_drop]
  simp only [lsB, List.getElem_map]
theorem hdJ_end {P : List ByteArray} {i k : Nat} (h : P.length ≤ i + 4 + k + 2) (hk : k = 0 ∨ i + 4 + k + 2 ≤ P.length) : flatL (((lsB P).drop i).drop 4).dropLast.dropLast = hdJ P i k := by
  unfold hdJ
  rw [List.drop_drop, List.dropLast_eq_take, List.dropLast_eq_take, List.take_take, List.length_take]
  congr 2
  rw [List.length_drop, lsB_len]
  omega
theorem flat_mono_drop (M : List (List UInt8)) (k : Nat) : (flatL (M.drop k)).length ≤ (flatL M).length := by
  have : flatL M = flatL (M.take k) ++ flatL (M.drop k) := by rw [← flatL_app, List.take_append_drop]
  rw [this, List.length_append]; omega
theorem flat_mono_take (M : List (List UInt8)) (k : Nat) : (flatL (M.take k)).length ≤ (flatL M).length := by
  have : flatL M = flatL (M.take k) ++ flatL (M.drop k) := by rw [← flatL_app, List.take_append_drop]
  rw [this, List.length_append]; omega
theorem flat_coverN : ∀ (n : Nat) (l acc : List UInt8), l.length ≤ n → (flatL (pcs [13, 10] 0 acc l)).length ≤ acc.length + 3 * l.length + 2
  | _, [], acc, _ => by simp [pcs, flatL]
  | 0, _ :: _, _, hn => by simp at hn
  | n + 1, b :: l, acc, hn => by
    cases h : ([13, 10] : List UInt8).isPrefixOf (b :: l)
    · rw [pcs_miss h]
      have := flat_coverN n l (acc ++ [b]) (by simpa using hn)
      simp only [List.length_append, List.length_cons, List.length_nil] at this ⊢
      omega
    · rw [pcs_hit (by decide) h, flatL_cons]
      cases l with
      | nil => simp [List.isPrefixOf] at h
      | cons b2 l =>
        have := flat_coverN n l [] (by simp only [List.length_cons] at hn; omega)
        simp only [List.length_cons, List.drop_succ_cons, List.drop_zero, List.length_append, List.length_nil] at this ⊢
        omega
theorem flat_cover (l acc : List UInt8) : (flatL (pcs [13, 10] 0 acc l)).length ≤ acc.length + 3 * l.length + 2 := flat_coverN l.length l acc (Nat.le_refl _)
theorem hdJ_size (t : ByteArray) (i k : Nat) : (hdJ (pieces ⟨#[13, 10]⟩ t) i k).length ≤ 3 * t.size + 2 := by
  unfold hdJ
  have h1 := flat_mono_take ((lsB (pieces ⟨#[13, 10]⟩ t)).drop (i + 4)) k
  have h2 := flat_mono_drop (lsB (pieces ⟨#[13, 10]⟩ t)) (i + 4)
  rw [lsB_pieces] at h1 h2 ⊢
  have h3 := flat_cover t.data.toList []
  rw [← Lib.size_eq] at h3
  simp only [List.length_nil] at h3
  omega
theorem flB_z {a c d : ByteArray} {n : Nat} (ha : a.size ≤ n) (hc : c.size ≤ n) (hd : d.size ≤ n) (hn : n ≤ 1048576) : FlZ (flB a c d) := by
  rw [Lib.size_eq] at ha hc hd
  refine ⟨?_, ?_, ?_⟩
  · show (mk _).size ≤ _
    rw [mk_size]; exact Nat.le_trans (af_size _ _) (by omega)
  · show (mk _).size ≤ _
    rw [mk_size]; exact Nat.le_trans (af_size _ _) (by omega)
  · show (mk _).size ≤ _
    rw [mk_size, List.length_drop]
    have := af_size d.data.toList dgL
    omega
/-- what the specification's reader believes -/
def okS (t : ByteArray) : Bool := decide (10 ≤ (pieces ⟨#[13, 10]⟩ t).length) && decide (makeS (readS t.data.toList) = t)
theorem okI_okS {t : ByteArray} (h : cw t.data.toList < 6) : (decide (t.size ≠ 0) && decide (makeI (readI t.data.toList) = t)) = okS t := by
  have := okSame h
  unfold okS
  rw [Bool.eq_iff_iff]
  simp only [Bool.and_eq_true, decide_eq_true_eq]
  exact this
end Go.Proofs.YtlolnfpfipnfeaaGreatDoor
namespace Go.Proofs.YtlolnfpfipnfeaaGreatDoor
open Go.ChangeShapes Go.WideShapes Go.ChangeAt Go.RowKit
open Pcs

theorem strs_blk {w : World} {lo : Nat} {v : Value} {L : List ByteArray} (h : Strs w lo v L) (hne : L ≠ []) : ∃ g cp X, v = .slice (some ⟨g, 0, none⟩) L.length cp ∧ lo ≤ g ∧ Blk g X w ∧ ∀ i (hi : i < L.length), X[i]? = some (.string L[i]) := by
  rcases h.2 with ⟨hv, h0⟩ | ⟨g, cap, cur, hv, hb, hg, hn, hc, hs, ht⟩
  · exact absurd (List.eq_nil_of_length_eq_zero h0) hne
  · refine ⟨g, cap, cur, hv, hb, Blk.of_heap hg, fun i hi => ?_⟩
    have h1 : (cur.toList.take (L.length * 1))[i]? = (L.map Value.string)[i]? := by rw [ht]
    rw [List.getElem?_take_of_lt (by omega), List.getElem?_map, List.getElem?_eq_getElem hi] at h1
    simpa using h1
theorem okS_few {t : ByteArray} (h : (pieces ⟨#[13, 10]⟩ t).length < 10) : okS t = false := by unfold okS; rw [decide_eq_false (by omega)]; rfl
theorem drop_last (g : ByteArray) : mk g.data.toList.dropLast = g.extract 0 (g.size - 1) := by
  rw [← mk_data (g.extract 0 (g.size - 1)), Lib.extract_data, List.dropLast_eq_take, ← Lib.size_eq]
  simp
theorem keep17 (x : ByteArray) : ((keepB x 17).toList == [70, 105, 110, 97, 108, 45, 82, 101, 99, 105, 112, 105, 101, 110, 116, 58, 32]) = frcL.isPrefixOf x.data.toList := by
  have := keep_pre x ⟨#[70, 105, 110, 97, 108, 45, 82, 101, 99, 105, 112, 105, 101, 110, 116, 58, 32]⟩
  rw [Lib.toList_data ⟨#[70, 105, 110, 97, 108, 45, 82, 101, 99, 105, 112, 105, 101, 110, 116, 58, 32]⟩] at this
  exact this

set_option maxHeartbeats 4000000 in
set_option maxRecDepth 100000 in
theorem specReadS (t : ByteArray) (w : World) (ht : t.size ≤ 20000) :
    Calls Tryz.prog 9 #[.string t] w fun e w' => (∃ (x0 x1 x3 : ByteArray) (a : Option Addr) (n c : Nat), e = .returned (.tuple #[.agg #[.string x0, .string x1, .slice a n c, .string x3], .bool (okS t)])) ∧ Below w.heap.size w w' := by
  obtain ⟨i0, hi, hy0, hy1, hy2⟩ := info_parts infoFl
  have HNF : Hid ((pieces ⟨#[13, 10]⟩ t).length < 10 → okS t = false) := okS_few
  have HYF : Hid (10 ≤ (pieces ⟨#[13, 10]⟩ t).length → okS t = decide (makeS (readS t.data.toList) = t)) := fun h => by show okS t = _; unfold okS; rw [decide_eq_true h]; rfl
  have HRS : Hid (readS t.data.toList = readP (lsB (pieces ⟨#[13, 10]⟩ t))) := by show _ = _; rw [lsB_pieces]; rfl
  have HSZ : Hid (∀ x ∈ pieces ⟨#[13, 10]⟩ t, x.size ≤ 20000) := fun x hx => Nat.le_trans (pieces_size hx) ht
  have HHZ : Hid (∀ i k, (hdJ (pieces ⟨#[13, 10]⟩ t) i k).length ≤ 60002) := fun i k => Nat.le_trans (hdJ_size t i k) (by omega)
  have hPL : (pieces ⟨#[13, 10]⟩ t).length ≤ 20001 := Nat.le_trans (pieces_len _ _) (by omega)
  have HSP : Hid (∀ wx : World, Calls Tryz.prog 22 #[.string t, .string ⟨#[13, 10]⟩] wx fun e w' => (∃ v, e = .returned v ∧ Strs w' wx.heap.size v (pieces ⟨#[13, 10]⟩ t)) ∧ Below wx.heap.size wx w') := fun wx => specSplit t ⟨#[13, 10]⟩ wx (by omega) (by decide) (by decide)
  have hPn : (pieces ⟨#[13, 10]⟩ t) ≠ [] := pieces_ne _ _
  generalize pieces ⟨#[13, 10]⟩ t = P at *
  generalize hob : okS t = ob at *
  clear hob
  have hti : ¬ (20000 : Int) < (t.size : Int) := by omega
  go_enter Tryz.func9, Tryz.ntmps9
  go_wp2_with fail
  generalize hW : World.alloc (World.alloc w _) _ = W
  have bW : Below w.heap.size w W := by rw [← hW]; exact below2 _ _ _
  have PW : Hid (Blk w.heap.size #[.string ⟨#[]⟩, .string ⟨#[]⟩, .slice none 0 0, .string ⟨#[]⟩] W) := by show Blk _ _ _; rw [← hW]; exact (Blk.new _ _ _).below (below1 _ _)
  have QW : Hid (Blk (w.heap.size + 1) #[.string ⟨#[]⟩, .string ⟨#[]⟩, .slice none 0 0, .string ⟨#[]⟩] W) := by
    show Blk _ _ _
    rw [← hW]
    have := Blk.new (w.alloc (.cells #[.string ⟨#[]⟩, .string ⟨#[]⟩, .slice none 0 0, .string ⟨#[]⟩] 25)) #[.string ⟨#[]⟩, .string ⟨#[]⟩, .slice none 0 0, .string ⟨#[]⟩] 25
    simpa using this
  have zW : w.heap.size + 1 < W.heap.size := QW.out.lt
  clear hW
  obtain ⟨q, hq⟩ : ∃ q, q = w.heap.size + 1 := ⟨_, rfl⟩
  rw [← hq] at QW zW ⊢
  have lqP : w.heap.size < q := by omega
  clear hq
  refine (HSP.out _).mono ?_
  rintro e w1 ⟨⟨v, rfl, hS⟩, b1⟩
  obtain ⟨gp, cp, XP, rfl, lgp, hXP, hcell⟩ := strs_blk hS hPn
  have G1 : Hid (Blk gp XP w1) := hXP
  have HCE : Hid (∀ i (hi : i < P.length), XP[i]? = some (.string P[i])) := hcell
  have P1 : Hid (Blk w.heap.size #[.string ⟨#[]⟩, .string ⟨#[]⟩, .slice none 0 0, .string ⟨#[]⟩] w1) := PW.out.below b1
  have Q1 : Hid (Blk q #[.string ⟨#[]⟩, .string ⟨#[]⟩, .slice none 0 0, .string ⟨#[]⟩] w1) := QW.out.below b1
  have B1 : Hid (Below w.heap.size w w1) := bW.trans (b1.mono bW.size)
  have lqg : q < gp := by omega
  clear hS hXP hcell b1 PW QW bW HSP zW lgp
  by_cases h10 : P.length < 10
  · have h10i : (P.length : Int) < 10 := by omega
    have HO := HNF.out h10
    have Pf := P1
    have Bf := B1
    have p0 : w1.cell? ⟨w.heap.size, 0, none⟩ = some (.string ⟨#[]⟩) := Pf.out.cell 0
    have p1 : w1.cell? ⟨w.heap.size, 1, none⟩ = some (.string ⟨#[]⟩) := Pf.out.cell 1
    have p2 : w1.cell? ⟨w.heap.size, 2, none⟩ = some (.slice none 0 0) := Pf.out.cell 2
    have p3 : w1.cell? ⟨w.heap.size, 3, none⟩ = some (.string ⟨#[]⟩) := Pf.out.cell 3
    have t0 := Pf.out.free 0
    have t1 := Pf.out.free 1
    have t2 := Pf.out.free 2
    have t3 := Pf.out.free 3
    go_wp2
    generalize hV : (((w1.setCell ⟨w.heap.size, 0, none⟩ (.string ⟨#[]⟩)).setCell ⟨w.heap.size, 1, none⟩ (.string ⟨#[]⟩)).setCell ⟨w.heap.size, 2, none⟩ (.slice none 0 0)).setCell ⟨w.heap.size, 3, none⟩ (.string ⟨#[]⟩) = Wf
    have PF : Blk w.heap.size #[(.string ⟨#[]⟩), (.string ⟨#[]⟩), (.slice none 0 0), (.string ⟨#[]⟩)] Wf := by rw [← hV]; exact blk_set4 Pf.out
    have OF : Below w.heap.size w Wf := by rw [← hV]; exact Bf.out.trans (off_set4 (Nat.le_refl _)).2
    clear hV
    have r0 : Wf.cell? ⟨w.heap.size, 0, none⟩ = some (.string ⟨#[]⟩) := PF.cell 0
    have r1 : Wf.cell? ⟨w.heap.size, 1, none⟩ = some (.string ⟨#[]⟩) := PF.cell 1
    have r2 : Wf.cell? ⟨w.heap.size, 2, none⟩ = some (.slice none 0 0) := PF.cell 2
    have r3 : Wf.cell? ⟨w.heap.size, 3, none⟩ = some (.string ⟨#[]⟩) := PF.cell 3
    refine bodyPost_ret (v := .tuple #[.agg #[(.string ⟨#[]⟩), (.string ⟨#[]⟩), (.slice none 0 0), (.string ⟨#[]⟩)], .bool false]) (by simp [results, Tryz.results9, go_sem, r0, r1, r2, r3]) rfl ?_
    rw [HO]
    exact ⟨⟨_, _, _, _, _, _, rfl⟩, OF⟩
  have h10i : ¬ (P.length : Int) < 10 := by omega
  have hP10 : 10 ≤ P.length := by omega
  have HOK := HYF.out hP10
  have HOKh : Hid (ob = decide (makeS (readS t.data.toList) = t)) := HOK
  clear HOK HNF HYF h10
  obtain ⟨q2, hq2⟩ : ∃ q2 : List Fl × List (List UInt8), flsS (P.length + 1) ((lsB P).drop 9) [] = q2 := ⟨_, rfl⟩
  obtain ⟨a1, ha1⟩ : ∃ a1 : ByteArray, mk (afS P[1].data.toList toL) = a1 := ⟨_, rfl⟩
  obtain ⟨tw, htw⟩ : ∃ tw : ByteArray, mk a1.data.toList.dropLast = tw := ⟨_, rfl⟩
  obtain ⟨he, hhe⟩ : ∃ he : ByteArray, mk (afS P[8].data.toList rpL) = he := ⟨_, rfl⟩
  have HRD : Hid (readS t.data.toList = ⟨he, tw, q2.1, mk (flatL (q2.2.drop 4).dropLast.dropLast)⟩) := by
    show _ = _
    have e1 : (lsB P).getD 1 [] = P[1].data.toList := by
      rw [List.getD_eq_getElem?_getD, lsB, List.getElem?_map, List.getElem?_eq_getElem (by omega)]; rfl
    have e8 : (lsB P).getD 8 [] = P[8].data.toList := by
      rw [List.getD_eq_getElem?_getD, lsB, List.getElem?_map, List.getElem?_eq_getElem (by omega)]; rfl
    rw [HRS.out, readP, e1, e8, lsB_len, hq2, hhe, ← htw, ← ha1, data_mk]
  have z1 : a1.size ≤ 20000 := by rw [← ha1, mk_size]; exact Nat.le_trans (af_size _ _) (by rw [← Lib.size_eq]; exact HSZ.out _ (List.getElem_mem _))
  have ztw : tw.size ≤ 20000 := by rw [← htw, mk_size, List.length_dropLast, ← Lib.size_eq]; omega
  have zhe : he.size ≤ 20000 := by rw [← hhe, mk_size]; exact Nat.le_trans (af_size _ _) (by rw [← Lib.size_eq]; exact HSZ.out _ (List.getElem_mem _))
  have HQ2 : Hid (flsS (P.length + 1) ((lsB P).drop 9) [] = q2) := hq2
  have c1 : w1.cell? ⟨gp, 1, none⟩ = some (.string P[1]) := (G1.out.cell 1).trans (HCE.out 1 (by omega))
  have HA1 : Hid (∀ wx : World, Calls Tryz.prog 23 #[.string P[1], .string ⟨#[84, 111, 58, 32, 60]⟩] wx fun e w' => e = .returned (.string a1) ∧ w' = wx) := fun wx => by rw [← ha1]; exact specAfter P[1] ⟨#[84, 111, 58, 32, 60]⟩ wx
  have HA8 : Hid (∀ wx : World, Calls Tryz.prog 23 #[.string P[8], .string ⟨#[82, 101, 112, 111, 114, 116, 105, 110, 103, 45, 77, 84, 65, 58, 32, 100, 110, 115, 59, 32]⟩] wx fun e w' => e = .returned (.string he) ∧ w' = wx) := fun wx => by rw [← hhe]; exact specAfter P[8] ⟨#[82, 101, 112, 111, 114, 116, 105, 110, 103, 45, 77, 84, 65, 58, 32, 100, 110, 115, 59, 32]⟩ wx
  have HTW : Hid (tw = a1.extract 0 (a1.size - 1)) := by show _ = _; rw [← htw]; exact drop_last a1
  have HTE : Hid (a1 = ⟨#[]⟩ → tw = ⟨#[]⟩) := fun h => by rw [← htw, h]; rfl
  have hP1 : (1 : Int) < (P.length : Int) := by omega
  have hP8 : (8 : Int) < (P.length : Int) := by omega
  have HC8 : Hid (XP[8]? = some (.string P[8])) := HCE.out 8 (by omega)
  clear hq2 ha1 htw hhe HRS
  generalize P[1] = y1 at *
  generalize P[8] = y8 at *
  go_wp2_with fail
  refine (HA1.out _).mono ?_
  rintro e wx ⟨rfl, hwx⟩
  subst hwx
  clear HA1 c1
  go_upto_if 29 with fail
  go_cut [] from 29 to 35 (fun wx => Hid (Blk gp XP wx) ∧ Hid (Blk w.heap.size #[.string ⟨#[]⟩, .string ⟨#[]⟩, .slice none 0 0, .string ⟨#[]⟩] wx) ∧ Hid (Blk q #[.string ⟨#[]⟩, .string tw, (.slice none 0 0), .string ⟨#[]⟩] wx) ∧ Hid (Below w.heap.size w wx))
  case first =>
    by_cases hnil : a1 = ⟨#[]⟩
    · have hb : a1.toList.isEmpty = true := by rw [hnil, Lib.toList_data]; rfl
      have htn : Hid (tw = ⟨#[]⟩) := HTE.out hnil
      clear hnil
      simp only [hb, Bool.not_true]
      go_wp2_with fail
      go_meet
      rw [htn.out]
      exact ⟨G1, P1, Q1, B1⟩
    · have hb : a1.toList.isEmpty = false := by
        rw [Lib.toList_data]
        cases h : a1.data.toList with
        | nil => exact absurd (empty_ofK a1 (by rw [Lib.size_eq, h]; rfl)) hnil
        | cons _ _ => rfl
      have hz : 0 < a1.size := by
        apply Classical.byContradiction
        intro h
        exact hnil (empty_ofK a1 (by omega))
      have c1 : wx.cell? ⟨q, 1, none⟩ = some (.string ⟨#[]⟩) := Q1.out.cell 1
      have f1 := Q1.out.free 1
      have hzi : (0 : Int) ≤ (a1.size : Int) - 1 := by omega
      have hzj : (a1.size : Int) - 1 ≤ (a1.size : Int) := by omega
      have hzn : ((a1.size : Int) - 1).toNat = a1.size - 1 := by omega
      simp only [hb, Bool.not_false]
      go_wp2_with fail
      go_meet
      rw [← HTW.out]
      exact ⟨G1.out.other (by omega), P1.out.other (by omega), Q1.out.set (i := 1) (by simp), B1.out.setCell (p := ⟨q, 1, none⟩) (by show w.heap.size ≤ q; omega) _⟩
  case rest =>
  obtain ⟨G2, P2, Q2, B2⟩ := hcut
  clear G1 P1 Q1 B1 HTW HTE
  have c8 : wc.cell? ⟨gp, 8, none⟩ = some (.string y8) := (G2.out.cell 8).trans HC8.out
  go_wp2_with fail
  refine (HA8.out _).mono ?_
  rintro e wy ⟨rfl, hwy⟩
  subst hwy
  have d0 : wy.cell? ⟨q, 0, none⟩ = some (.string ⟨#[]⟩) := Q2.out.cell 0
  have f0 := Q2.out.free 0
  clear c8 HA8 HC8
  go_wp2_with fail
  generalize hV : wy.setCell _ _ = V
  have G3 : Hid (Blk gp XP V) := by show Blk _ _ _; rw [← hV]; exact G2.out.other (by omega)
  have P3 : Hid (Blk w.heap.size #[.string ⟨#[]⟩, .string ⟨#[]⟩, .slice none 0 0, .string ⟨#[]⟩] V) := by show Blk _ _ _; rw [← hV]; exact P2.out.other (by omega)
  have Q3 : Hid (Blk q #[.string he, .string tw, (.slice none 0 0), .string ⟨#[]⟩] V) := by show Blk _ _ _; rw [← hV]; exact Q2.out.set (i := 0) (by simp)
  have B3 : Hid (Below w.heap.size w V) := by show Below _ _ _; rw [← hV]; exact B2.out.setCell (p := ⟨q, 0, none⟩) (by show w.heap.size ≤ q; omega) _
  clear hV d0 f0 G2 P2 Q2 B2
  go_loopw [7] (fun iv wr => ∃ (i fu : Nat) (acc : List Fl) (a4 : Option Addr) (c4 : Nat), iv = .int .i64 i ∧ i ≤ P.length ∧ acc.length ≤ i ∧ Hid (P.length + 1 ≤ fu + i) ∧ Hid (flsS fu ((lsB P).drop i) acc = q2) ∧ Hid (∀ f ∈ acc, FlZ f) ∧ Hid (Blk gp XP wr) ∧ Hid (Blk w.heap.size #[.string ⟨#[]⟩, .string ⟨#[]⟩, .slice none 0 0, .string ⟨#[]⟩] wr) ∧ Hid (Blk q #[.string he, .string tw, (.slice a4 acc.length c4), .string ⟨#[]⟩] wr) ∧ Hid (Fls wr w.heap.size (.slice a4 acc.length c4) acc) ∧ Hid (∀ g, (Value.slice a4 acc.length c4).ownBlock = some g → g ≠ gp ∧ g ≠ w.heap.size ∧ g ≠ q) ∧ Hid (Below w.heap.size w wr)) (fun iv _ => P.length - (intOf iv).toNat)
  case atStart => exact ⟨9, P.length + 1, [], none, 0, rfl, by omega, by simp, (by show _ ≤ _; omega), HQ2, (fun f hf => absurd hf (by simp)), G3, P3, Q3, fls_nil _ _, (fun g hg => by simp [Value.ownBlock] at hg), B3⟩
  case round =>
    obtain ⟨i, fu, acc, a4, c4, rfl, hiP, haccl, HFU, HGO, HAZ, Gr, Pr, Qr, Fr, Nr, Br⟩ := hrel
    clear G3 P3 Q3 B3
    obtain ⟨fu2, hfu2⟩ : ∃ fu2, fu = fu2 + 1 := ⟨fu - 1, by have := HFU.out; omega⟩
    have HF2 : Hid (fu = fu2 + 1) := hfu2
    clear hfu2
    by_cases hlt : i + 4 < P.length
    · have hlti : (i : Int) + 4 < (P.length : Int) := by omega
      have hl1 : (i : Int) + 1 < (P.length : Int) := by omega
      have hl3 : (i : Int) + 3 < (P.length : Int) := by omega
      have HC1 : Hid (XP[i + 1]? = some (.string P[i + 1])) := HCE.out (i + 1) (by omega)
      have HC3 : Hid (XP[i + 3]? = some (.string P[i + 3])) := HCE.out (i + 3) (by omega)
      have HC4 : Hid (XP[i + 4]? = some (.string P[i + 4])) := HCE.out (i + 4) (by omega)
      have HGY : Hid (frcL.isPrefixOf P[i + 1].data.toList = true → flsS fu2 ((lsB P).drop (i + 5)) (acc ++ [flB P[i + 1] P[i + 3] P[i + 4]]) = q2) := fun h => by have := HGO.out; rw [HF2.out, fls_go hlt h] at this; exact this
      have HGN : Hid (frcL.isPrefixOf P[i + 1].data.toList = false → q2 = (acc, (lsB P).drop i)) := fun h => by have := HGO.out; rw [HF2.out, fls_stop hlt h] at this; exact this.symm
      have s1 : P[i + 1].size ≤ 20000 := HSZ.out _ (List.getElem_mem _)
      have s3 : P[i + 3].size ≤ 20000 := HSZ.out _ (List.getElem_mem _)
      have s4 : P[i + 4].size ≤ 20000 := HSZ.out _ (List.getElem_mem _)
      have HKP : ((keepB P[i + 1] 17).toList == [70, 105, 110, 97, 108, 45, 82, 101, 99, 105, 112, 105, 101, 110, 116, 58, 32]) = frcL.isPrefixOf P[i + 1].data.toList := keep17 P[i + 1]
      generalize P[i + 1] = y1 at *
      generalize P[i + 3] = y3 at *
      generalize P[i + 4] = y4 at *
      have c1 : wr.cell? ⟨gp, i + 1, none⟩ = some (.string y1) := (Gr.out.cell (i + 1)).trans HC1.out
      have HKE : Hid (∀ wx : World, Calls Tryz.prog 24 #[.string y1, .int .i64 17] wx fun e w' => e = .returned (.string (keepB y1 17)) ∧ w' = wx) := fun wx => specKeep y1 17 wx
      cases hpre : frcL.isPrefixOf y1.data.toList
      · rw [hpre] at HKP
        have HE : Hid (q2 = (acc, (lsB P).drop i)) := HGN.out hpre
        clear HGY HGN HGO HC1 HC3 HC4 hpre
        generalize keepB y1 17 = kp at *
        go_wp2_with fail
        refine (HKE.out _).mono ?_
        rintro e wk ⟨rfl, hwk⟩
        subst hwk
        clear HKE c1
        have HRD2 : Hid (∀ k, P.length ≤ i + 4 + k + 2 → (k = 0 ∨ i + 4 + k + 2 ≤ P.length) → readS t.data.toList = ⟨he, tw, acc, mk (hdJ P i k)⟩) := fun k h1 h2 => by show _ = _; rw [HRD.out, HE.out, ← hdJ_end h1 h2]
        clear HE
        go_wp2_with fail
        go_loopw [13] (fun jv wz => ∃ (k : Nat) (H : ByteArray), jv = .int .i64 ((i + 4 + k : Nat) : Int) ∧ (k = 0 ∨ i + 4 + k + 2 ≤ P.length) ∧ Hid (H = mk (hdJ P i k)) ∧ Hid (Blk gp XP wz) ∧ Hid (Blk w.heap.size #[.string ⟨#[]⟩, .string ⟨#[]⟩, .slice none 0 0, .string ⟨#[]⟩] wz) ∧ Hid (Blk q #[.string he, .string tw, (.slice a4 acc.length c4), .string H] wz) ∧ Hid (Fls wz w.heap.size (.slice a4 acc.length c4) acc) ∧ Hid (Below w.heap.size w wz)) (fun jv _ => P.length - (intOf jv).toNat)
        case atStart => exact ⟨0, ⟨#[]⟩, by first | rfl | go_num | (simp), .inl rfl, (by show _ = _; rfl), Gr, Pr, Qr, Fr, Br⟩
        case round =>
          obtain ⟨wz, hwz⟩ : ∃ wz : World, wz = wr := ⟨wr, rfl⟩
          obtain ⟨k, H, rfl, hk, HH, Gz, Pz, Qz, Fz, Bz⟩ := hrel
          subst hwz
          clear Gr Pr Qr Fr Br
          obtain ⟨j, hj⟩ : ∃ j, i + 4 + k = j := ⟨_, rfl⟩
          have HJ : Hid (i + 4 + k = j) := hj
          have zH : H.size ≤ 60002 := by rw [HH.out, mk_size]; exact HHZ.out i k
          rw [hj] at hk ⊢
          clear hj
          by_cases hjl : j + 2 < P.length
          · have hjli : (j : Int) < (P.length : Int) - 2 := by omega
            have hjl2 : (j : Int) < (P.length : Int) := by omega
            have HCX : Hid (XP[j]? = some (.string P[j])) := HCE.out j (by omega)
            have HST : Hid (hdJ P i (k + 1) = hdJ P i k ++ (P[j].data.toList ++ [13, 10])) := by show _ = _; have := hdJ_step (P := P) (i := i) (k := k) (by have := HJ.out; omega); simp only [HJ.out] at this; exact this
            have zx : P[j].size ≤ 20000 := HSZ.out _ (List.getElem_mem _)
            generalize P[j] = x at *
            have q2' : (⟨#[13, 10]⟩ : ByteArray).size = 2 := rfl
            obtain ⟨s1, hs1⟩ : ∃ s1, x ++ (⟨#[13, 10]⟩ : ByteArray) = s1 := ⟨_, rfl⟩
            obtain ⟨s2, hs2⟩ : ∃ s2, H ++ s1 = s2 := ⟨_, rfl⟩
            have y1 : s1.size ≤ 20002 := by rw [← hs1, ByteArray.size_append]; omega
            have ha1 : ∀ wx : World, (Op.stringOp .add x (⟨#[13, 10]⟩ : ByteArray)).run Tryz.prog wx = .ok (.string s1) wx := fun wx => by rw [← hs1]; exact run_string_add_sum wx _ _ (by omega)
            have ha2 : ∀ wx : World, (Op.stringOp .add H s1).run Tryz.prog wx = .ok (.string s2) wx := fun wx => by rw [← hs2]; exact run_string_add_sum wx _ _ (by omega)
            have HH2 : Hid (s2 = mk (hdJ P i (k + 1))) := by show _ = _; rw [HST.out, ← hs2, ← hs1]; exact flat_cat HH.out
            clear hs1 hs2 HST HH q2'
            go_upto_region 27 with fail
            refine wp_region_held_drew (S := fun wq => wq.cell? ⟨gp, j, none⟩ = some (.string x)) (by kernel_rfl) (by simpa using (Gz.out.cell j).trans HCX.out) (fun hHeld => ?_)
            have Gz : Hid (Blk gp XP wz.drew) := Gz.out.below (Below.refl wz.heap.size wz).drew
            have Pz : Hid (Blk w.heap.size #[.string ⟨#[]⟩, .string ⟨#[]⟩, .slice none 0 0, .string ⟨#[]⟩] wz.drew) := Pz.out.below (Below.refl wz.heap.size wz).drew
            have Qz : Hid (Blk q #[.string he, .string tw, (.slice a4 acc.length c4), .string H] wz.drew) := Qz.out.below (Below.refl wz.heap.size wz).drew
            have Fz : Hid (Fls wz.drew w.heap.size (.slice a4 acc.length c4) acc) := fls_below Fz.out (Below.refl wz.heap.size wz).drew (Nat.le_refl _)
            have Bz : Hid (Below w.heap.size w wz.drew) := Bz.out.trans ((Below.refl w.heap.size wz).drew)
            generalize wz.drew = y0 at hHeld Gz Pz Qz Fz Bz ⊢
            refine wpAnyH_take (i := 0) (oi := { dst := some 121, op := Op.fieldAddr 25 (Operand.tmp 4) 3, type := 0, pos := "l5_bounce.go:128", after := #[], guard := none }) (v := .pointer (some ⟨q, 3, none⟩)) rfl (by kernel_rfl) (by kernel_rfl) (by kernel_rfl) (fun _ _ _ h => h) (Or.inl ⟨by rfl, fun wz hSw => ?_⟩) hHeld ?_
            · clear hHeld
              go_simp
            simp only [Act.put, List.setIfInBounds_toArray, List.set_cons_zero, List.set_cons_succ]
            refine wpAnyH_take (i := 2) (oi := { dst := some 123, op := Op.move (Operand.tmp 5), type := 39, pos := "l5_bounce.go:128", after := #[], guard := none }) (v := .slice (some ⟨gp, 0, none⟩) P.length cp) rfl (by kernel_rfl) (by kernel_rfl) (by kernel_rfl) (fun _ _ _ h => h) (Or.inl ⟨by rfl, fun wz hSw => ?_⟩) hHeld ?_
            · clear hHeld
              go_simp
            simp only [Act.put, List.setIfInBounds_toArray, List.set_cons_zero, List.set_cons_succ]
            refine wpAnyH_take (i := 3) (oi := { dst := some 124, op := Op.move (Operand.tmp 13), type := 3, pos := "l5_bounce.go:128", after := #[], guard := none }) (v := .int .i64 (j : Int)) rfl (by kernel_rfl) (by kernel_rfl) (by kernel_rfl) (fun _ _ _ h => h) (Or.inl ⟨by rfl, fun wz hSw => ?_⟩) hHeld ?_
            · clear hHeld
              go_simp
            simp only [Act.put, List.setIfInBounds_toArray, List.set_cons_zero, List.set_cons_succ]
            refine wpAnyH_take (i := 4) (oi := { dst := some 125, op := Op.indexAddr 39 (Operand.tmp 123) (Operand.tmp 124), type := 0, pos := "l5_bounce.go:128", after := #[{ on := 2, ground := Ground.data }, { on := 3, ground := Ground.data }], guard := none }) (v := .pointer (some ⟨gp, j, none⟩)) rfl (by kernel_rfl) (by kernel_rfl) (by kernel_rfl) (fun _ _ _ h => h) (Or.inl ⟨by rfl, fun wz hSw => ?_⟩) hHeld ?_
            · clear hHeld
              go_simp
            simp only [Act.put, List.setIfInBounds_toArray, List.set_cons_zero, List.set_cons_succ]
            refine wpAnyH_take (i := 5) (oi := { dst := some 126, op := Op.load 9 (Operand.tmp 125), type := 9, pos := "l5_bounce.go:128", after := #[{ on := 4, ground := Ground.data }], guard := none }) (v := .string x) rfl (by kernel_rfl) (by kernel_rfl) (by kernel_rfl) (fun _ _ _ h => h) (Or.inl ⟨by rfl, fun wz hSw => ?_⟩) hHeld ?_
            · clear hHeld
              go_simp
            simp only [Act.put, List.setIfInBounds_toArray, List.set_cons_zero, List.set_cons_succ]
            refine wpAnyH_take (i := 6) (oi := { dst := some 127, op := Op.binOp BinOp.add 9 (Operand.tmp 126) (Operand.const (Value.string { data := #[13, 10] })) 9, type := 9, pos := "l5_bounce.go:128", after := #[{ on := 5, ground := Ground.data }], guard := none }) (v := .string s1) rfl (by kernel_rfl) (by kernel_rfl) (by kernel_rfl) (fun _ _ _ h => h) (Or.inl ⟨by rfl, fun wz hSw => ?_⟩) hHeld ?_
            · clear hHeld
              go_simp
            simp only [Act.put, List.setIfInBounds_toArray, List.set_cons_zero, List.set_cons_succ]
            refine wpAnyH_ready (rs := [1]) (by kernel_rfl) (by simp) ?_
            refine AllReadyH.cons (o := { dst := some 122, op := Op.load 9 (Operand.tmp 121), type := 9, pos := "l5_bounce.go:128", after := #[{ on := 0, ground := Ground.data }], guard := none }) rfl (fun K hK => ?_) AllReadyH.nil
            have c3 : y0.cell? ⟨q, 3, none⟩ = some (.string H) := Qz.out.cell 3
            go_simp
            refine hK.out _ _ hHeld (fun hHeld => ?_)
            clear hK K c3
            try simp only [Act.put, List.setIfInBounds_toArray, List.set_cons_zero, List.set_cons_succ]
            refine wpAnyH_take (i := 7) (oi := { dst := some 128, op := Op.binOp BinOp.add 9 (Operand.tmp 122) (Operand.tmp 127) 9, type := 9, pos := "l5_bounce.go:128", after := #[{ on := 1, ground := Ground.data }, { on := 6, ground := Ground.data }], guard := none }) (v := .string s2) rfl (by kernel_rfl) (by kernel_rfl) (by kernel_rfl) (fun _ _ _ h => h) (Or.inl ⟨by rfl, fun wz hSw => ?_⟩) hHeld ?_
            · clear hHeld
              go_simp
            simp only [Act.put, List.setIfInBounds_toArray, List.set_cons_zero, List.set_cons_succ]
            refine wpAnyH_take (i := 8) (oi := { dst := some 129, op := Op.fieldAddr 25 (Operand.tmp 4) 3, type := 0, pos := "l5_bounce.go:128", after := #[{ on := 0, ground := Ground.phase }, { on := 1, ground := Ground.phase }, { on := 2, ground := Ground.phase }, { on := 3, ground := Ground.phase }, { on := 4, ground := Ground.phase }, { on := 5, ground := Ground.phase }, { on := 6, ground := Ground.phase }, { on := 7, ground := Ground.phase }], guard := none }) (v := .pointer (some ⟨q, 3, none⟩)) rfl (by kernel_rfl) (by kernel_rfl) (by kernel_rfl) (fun _ _ _ h => h) (Or.inl ⟨by rfl, fun wz hSw => ?_⟩) hHeld ?_
            · clear hHeld
              go_simp
            simp only [Act.put, List.setIfInBounds_toArray, List.set_cons_zero, List.set_cons_succ]
            refine wpAnyH_ready (rs := [9]) (by kernel_rfl) (by simp) ?_
            refine AllReadyH.cons (o := { dst := none, op := Op.store 9 (Operand.tmp 129) (Operand.tmp 128), type := 0, pos := "l5_bounce.go:128", after := #[{ on := 8, ground := Ground.data }, { on := 7, ground := Ground.data }, { on := 0, ground := Ground.phase }, { on := 1, ground := Ground.phase }, { on := 2, ground := Ground.phase }, { on := 3, ground := Ground.phase }, { on := 4, ground := Ground.phase }, { on := 5, ground := Ground.phase }, { on := 6, ground := Ground.phase }, { on := 7, ground := Ground.phase }], guard := none }) rfl (fun K hK => ?_) AllReadyH.nil
            have c3 : y0.cell? ⟨q, 3, none⟩ = some (.string H) := Qz.out.cell 3
            have f3 := Qz.out.free 3
            clear hHeld
            go_simp
            generalize hV : y0.setCell _ _ = y8
            have Gn : Hid (Blk gp XP y8) := by show Blk _ _ _; rw [← hV]; exact Gz.out.other (by omega)
            have Pn : Hid (Blk w.heap.size #[.string ⟨#[]⟩, .string ⟨#[]⟩, .slice none 0 0, .string ⟨#[]⟩] y8) := by show Blk _ _ _; rw [← hV]; exact Pz.out.other (by omega)
            have Qn : Hid (Blk q #[.string he, .string tw, (.slice a4 acc.length c4), .string s2] y8) := by show Blk _ _ _; rw [← hV]; exact Qz.out.set (i := 3) (by simp)
            have Fn : Hid (Fls y8 w.heap.size (.slice a4 acc.length c4) acc) := by show Fls _ _ _ _; rw [← hV]; exact fls_setO Fz.out (fun g hg => (Nr.out g hg).2.2) _
            have Bn : Hid (Below w.heap.size w y8) := by show Below _ _ _; rw [← hV]; exact Bz.out.setCell (p := ⟨q, 3, none⟩) (by show w.heap.size ≤ q; omega) _
            clear hV c3 f3
            refine hK.out _ _ ((Gn.out.cell j).trans HCX.out) (fun hHeld => ?_)
            clear hK K hHeld
            try simp only [Act.put, List.setIfInBounds_toArray, List.set_cons_zero, List.set_cons_succ]
            refine wpAnyH_done (by kernel_rfl) ?_ _
            have e9 : Hid ((j : Int) + 1 = ((i + 4 + (k + 1) : Nat) : Int)) := by have := HJ.out; show _ = _; omega
            have hjn : j + 1 + 2 ≤ P.length := by omega
            go_simp
            go_wp2
            go_roundw
            case rel => exact ⟨k + 1, s2, congrArg (Value.int .i64) e9.out, .inr (by have := HJ.out; omega), HH2, Gn, Pn, Qn, Fn, Bn⟩
            case measure => simp [intOf]; omega
          · have hjli : ¬ (j : Int) < (P.length : Int) - 2 := by omega
            have HFI : Hid (readS t.data.toList = ⟨he, tw, acc, H⟩) := by show _ = _; rw [HH.out]; exact HRD2.out k (by have := HJ.out; omega) (by rcases hk with h | h; exact .inl h; exact .inr (by have := HJ.out; omega))
            have x0 : wz.cell? ⟨q, 0, none⟩ = some (.string he) := Qz.out.cell 0
            have x1 : wz.cell? ⟨q, 1, none⟩ = some (.string tw) := Qz.out.cell 1
            have x2 : wz.cell? ⟨q, 2, none⟩ = some (.slice a4 acc.length c4) := Qz.out.cell 2
            have x3 : wz.cell? ⟨q, 3, none⟩ = some (.string H) := Qz.out.cell 3
            have HMB : Hid (Calls Tryz.prog 6 #[.agg #[.string he, .string tw, (.slice a4 acc.length c4), .string H]] wz fun e w' => e = .returned (.string (makeS ⟨he, tw, acc, H⟩)) ∧ Below wz.heap.size wz w') := specMake ⟨he, tw, acc, H⟩ (.slice a4 acc.length c4) w.heap.size wz Fz.out ⟨by show he.size ≤ _; omega, by show tw.size ≤ _; omega, by show H.size ≤ _; omega, HAZ.out, by show acc.length ≤ _; omega⟩
            rw [HFI.out] at HOKh
            generalize makeS ⟨he, tw, acc, H⟩ = MT at *
            go_wp2_with fail
            refine HMB.out.mono ?_
            rintro e wf ⟨rfl, bf⟩
            have Pf : Hid (Blk w.heap.size #[.string ⟨#[]⟩, .string ⟨#[]⟩, .slice none 0 0, .string ⟨#[]⟩] wf) := Pz.out.below bf
            have Qf : Hid (Blk q #[.string he, .string tw, (.slice a4 acc.length c4), .string H] wf) := Qz.out.below bf
            have Bf : Hid (Below w.heap.size w wf) := Bz.out.trans (bf.mono Bz.out.size)
            clear bf HMB x0 x1 x2 x3 Pz Qz Bz Gz Fz
            have x0 : wf.cell? ⟨q, 0, none⟩ = some (.string he) := Qf.out.cell 0
            have x1 : wf.cell? ⟨q, 1, none⟩ = some (.string tw) := Qf.out.cell 1
            have x2 : wf.cell? ⟨q, 2, none⟩ = some (.slice a4 acc.length c4) := Qf.out.cell 2
            have x3 : wf.cell? ⟨q, 3, none⟩ = some (.string H) := Qf.out.cell 3
            by_cases hmt : MT = t
            · have hmb : (MT.toList == t.toList) = true := by rw [hmt]; simp
              have HO : ob = true := by rw [HOKh.out, decide_eq_true hmt]
              clear hmt
              have p0 : wf.cell? ⟨w.heap.size, 0, none⟩ = some (.string ⟨#[]⟩) := Pf.out.cell 0
              have p1 : wf.cell? ⟨w.heap.size, 1, none⟩ = some (.string ⟨#[]⟩) := Pf.out.cell 1
              have p2 : wf.cell? ⟨w.heap.size, 2, none⟩ = some (.slice none 0 0) := Pf.out.cell 2
              have p3 : wf.cell? ⟨w.heap.size, 3, none⟩ = some (.string ⟨#[]⟩) := Pf.out.cell 3
              have t0 := Pf.out.free 0
              have t1 := Pf.out.free 1
              have t2 := Pf.out.free 2
              have t3 := Pf.out.free 3
              go_wp2
              generalize hV : (((wf.setCell ⟨w.heap.size, 0, none⟩ (.string he)).setCell ⟨w.heap.size, 1, none⟩ (.string tw)).setCell ⟨w.heap.size, 2, none⟩ (.slice a4 acc.length c4)).setCell ⟨w.heap.size, 3, none⟩ (.string H) = Wf
              have PF : Blk w.heap.size #[(.string he), (.string tw), (.slice a4 acc.length c4), (.string H)] Wf := by rw [← hV]; exact blk_set4 Pf.out
              have OF : Below w.heap.size w Wf := by rw [← hV]; exact Bf.out.trans (off_set4 (Nat.le_refl _)).2
              clear hV
              have r0 : Wf.cell? ⟨w.heap.size, 0, none⟩ = some (.string he) := PF.cell 0
              have r1 : Wf.cell? ⟨w.heap.size, 1, none⟩ = some (.string tw) := PF.cell 1
              have r2 : Wf.cell? ⟨w.heap.size, 2, none⟩ = some (.slice a4 acc.length c4) := PF.cell 2
              have r3 : Wf.cell? ⟨w.heap.size, 3, none⟩ = some (.string H) := PF.cell 3
              refine bodyPost_ret (v := .tuple #[.agg #[(.string he), (.string tw), (.slice a4 acc.length c4), (.string H)], .bool true]) (by simp [results, Tryz.results9, go_sem, r0, r1, r2, r3]) rfl ?_
              rw [HO]
              exact ⟨⟨_, _, _, _, _, _, rfl⟩, OF⟩
            · have hmb : (MT.toList == t.toList) = false := strNe hmt
              have HO : ob = false := by rw [HOKh.out, decide_eq_false hmt]
              clear hmt
              have p0 : wf.cell? ⟨w.heap.size, 0, none⟩ = some (.string ⟨#[]⟩) := Pf.out.cell 0
              have p1 : wf.cell? ⟨w.heap.size, 1, none⟩ = some (.string ⟨#[]⟩) := Pf.out.cell 1
              have p2 : wf.cell? ⟨w.heap.size, 2, none⟩ = some (.slice none 0 0) := Pf.out.cell 2
              have p3 : wf.cell? ⟨w.heap.size, 3, none⟩ = some (.string ⟨#[]⟩) := Pf.out.cell 3
              have t0 := Pf.out.free 0
              have t1 := Pf.out.free 1
              have t2 := Pf.out.free 2
              have t3 := Pf.out.free 3
              go_wp2
              generalize hV : (((wf.setCell ⟨w.heap.size, 0, none⟩ (.string ⟨#[]⟩)).setCell ⟨w.heap.size, 1, none⟩ (.string ⟨#[]⟩)).setCell ⟨w.heap.size, 2, none⟩ (.slice none 0 0)).setCell ⟨w.heap.size, 3, none⟩ (.string ⟨#[]⟩) = Wf
              have PF : Blk w.heap.size #[(.string ⟨#[]⟩), (.string ⟨#[]⟩), (.slice none 0 0), (.string ⟨#[]⟩)] Wf := by rw [← hV]; exact blk_set4 Pf.out
              have OF : Below w.heap.size w Wf := by rw [← hV]; exact Bf.out.trans (off_set4 (Nat.le_refl _)).2
              clear hV
              have r0 : Wf.cell? ⟨w.heap.size, 0, none⟩ = some (.string ⟨#[]⟩) := PF.cell 0
              have r1 : Wf.cell? ⟨w.heap.size, 1, none⟩ = some (.string ⟨#[]⟩) := PF.cell 1
              have r2 : Wf.cell? ⟨w.heap.size, 2, none⟩ = some (.slice none 0 0) := PF.cell 2
              have r3 : Wf.cell? ⟨w.heap.size, 3, none⟩ = some (.string ⟨#[]⟩) := PF.cell 3
              refine bodyPost_ret (v := .tuple #[.agg #[(.string ⟨#[]⟩), (.string ⟨#[]⟩), (.slice none 0 0), (.string ⟨#[]⟩)], .bool false]) (by simp [results, Tryz.results9, go_sem, r0, r1, r2, r3]) rfl ?_
              rw [HO]
              exact ⟨⟨_, _, _, _, _, _, rfl⟩, OF⟩
      · rw [hpre] at HKP
        have HG2 : Hid (flsS fu2 ((lsB P).drop (i + 5)) (acc ++ [flB y1 y3 y4]) = q2) := HGY.out hpre
        have hfz : FlZ (flB y1 y3 y4) := flB_z s1 s3 s4 (by omega)
        have HAZ2 : Hid (∀ f ∈ acc ++ [flB y1 y3 y4], FlZ f) := by
          intro x hx
          rw [List.mem_append, List.mem_singleton] at hx
          rcases hx with hx | rfl
          · exact HAZ.out x hx
          · exact hfz
        clear HGY HGN HGO hpre
        generalize keepB y1 17 = kp at *
        go_wp2_with fail
        refine (HKE.out _).mono ?_
        rintro e wk ⟨rfl, hwk⟩
        subst hwk
        clear HKE c1
        obtain ⟨rc, hrc⟩ : ∃ rc, mk (afS y1.data.toList rcL) = rc := ⟨_, rfl⟩
        obtain ⟨st, hst⟩ : ∃ st, mk (afS y3.data.toList stL) = st := ⟨_, rfl⟩
        obtain ⟨dg, hdg⟩ : ∃ dg, mk (afS y4.data.toList dgL) = dg := ⟨_, rfl⟩
        have HRC : Hid (∀ wx : World, Calls Tryz.prog 23 #[.string y1, .string ⟨#[70, 105, 110, 97, 108, 45, 82, 101, 99, 105, 112, 105, 101, 110, 116, 58, 32, 114, 102, 99, 56, 50, 50, 59, 32]⟩] wx fun e w' => e = .returned (.string rc) ∧ w' = wx) := fun wx => by rw [← hrc]; exact specAfter y1 ⟨#[70, 105, 110, 97, 108, 45, 82, 101, 99, 105, 112, 105, 101, 110, 116, 58, 32, 114, 102, 99, 56, 50, 50, 59, 32]⟩ wx
        have HST : Hid (∀ wx : World, Calls Tryz.prog 23 #[.string y3, .string ⟨#[83, 116, 97, 116, 117, 115, 58, 32]⟩] wx fun e w' => e = .returned (.string st) ∧ w' = wx) := fun wx => by rw [← hst]; exact specAfter y3 ⟨#[83, 116, 97, 116, 117, 115, 58, 32]⟩ wx
        have HDG : Hid (∀ wx : World, Calls Tryz.prog 23 #[.string y4, .string ⟨#[68, 105, 97, 103, 110, 111, 115, 116, 105, 99, 45, 67, 111, 100, 101, 58, 32, 115, 109, 116, 112, 59, 32]⟩] wx fun e w' => e = .returned (.string dg) ∧ w' = wx) := fun wx => by rw [← hdg]; exact specAfter y4 ⟨#[68, 105, 97, 103, 110, 111, 115, 116, 105, 99, 45, 67, 111, 100, 101, 58, 32, 115, 109, 116, 112, 59, 32]⟩ wx
        have HFB : Hid (flB y1 y3 y4 = ⟨rc, st, num3 (wordL dg.data.toList), mk (dg.data.toList.drop ((wordL dg.data.toList).length + 1))⟩) := by show _ = _; rw [← hrc, ← hst, ← hdg, data_mk]; rfl
        have zdg : dg.size ≤ 20000 := by rw [← hdg, mk_size]; exact Nat.le_trans (af_size _ _) (by rw [← Lib.size_eq]; exact s4)
        clear hrc hst hdg
        have hw1 : IntKind.i64.wrap ((i : Int) + 1) = (i : Int) + 1 := by rw [IntKind.wrap_i64]; omega
        have hw3 : IntKind.i64.wrap ((i : Int) + 3) = (i : Int) + 3 := by rw [IntKind.wrap_i64]; omega
        have hg1 : ¬ (i : Int) + 1 < 0 := by omega
        have hg3 : ¬ (i : Int) + 3 < 0 := by omega
        dsimp only
        go_upto_region 13 with fail
        go_cut [8] from 41 to 111 (fun s wx => ∃ fb, s = .pointer (some ⟨fb, 0, none⟩) ∧ gp < fb ∧ Hid (Blk fb #[.string rc, .string st, .int .i64 0, .string ⟨#[]⟩] wx) ∧ Hid (Blk gp XP wx) ∧ Hid (Blk w.heap.size #[.string ⟨#[]⟩, .string ⟨#[]⟩, .slice none 0 0, .string ⟨#[]⟩] wx) ∧ Hid (Blk q #[.string he, .string tw, (.slice a4 acc.length c4), .string ⟨#[]⟩] wx) ∧ Hid (Fls wx w.heap.size (.slice a4 acc.length c4) acc) ∧ Hid (∀ g, (Value.slice a4 acc.length c4).ownBlock = some g → g ≠ fb) ∧ Hid (Below w.heap.size w wx))
        case first =>
          have Gd : Hid (Blk gp XP wk.drew) := Gr.out.below (Below.refl wk.heap.size wk).drew
          have Pd : Hid (Blk w.heap.size #[.string ⟨#[]⟩, .string ⟨#[]⟩, .slice none 0 0, .string ⟨#[]⟩] wk.drew) := Pr.out.below (Below.refl wk.heap.size wk).drew
          have Qd : Hid (Blk q #[.string he, .string tw, (.slice a4 acc.length c4), .string ⟨#[]⟩] wk.drew) := Qr.out.below (Below.refl wk.heap.size wk).drew
          have Fd : Hid (Fls wk.drew w.heap.size (.slice a4 acc.length c4) acc) := fls_below Fr.out (Below.refl wk.heap.size wk).drew (Nat.le_refl _)
          have Bd : Hid (Below w.heap.size w wk.drew) := Br.out.trans ((Below.refl w.heap.size wk).drew)
          refine wp_region_held_drew (S := fun wq => wq.cell? ⟨gp, i + 1, none⟩ = some (.string y1) ∧ wq.cell? ⟨gp, i + 3, none⟩ = some (.string y3)) (by kernel_rfl) ⟨by simpa using (Gr.out.cell (i + 1)).trans HC1.out, by simpa using (Gr.out.cell (i + 3)).trans HC3.out⟩ (fun hHeld => ?_)
          clear Gr Pr Qr Fr Br
          generalize wk.drew = y0 at hHeld Gd Pd Qd Fd Bd ⊢
          refine wpAnyH_take (i := 0) (oi := { dst := some 55, op := Op.move (Operand.tmp 5), type := 39, pos := "l5_bounce.go:113", after := #[], guard := none }) (v := .slice (some ⟨gp, 0, none⟩) P.length cp) rfl (by kernel_rfl) (by kernel_rfl) (by kernel_rfl) (fun _ _ _ h => h) (Or.inl ⟨by rfl, fun wz hSw => ?_⟩) hHeld ?_
          · obtain ⟨e1, e3⟩ := hSw
            clear hHeld
            go_simp
            try rfl
          simp only [Act.put, List.setIfInBounds_toArray, List.set_cons_zero, List.set_cons_succ]
          refine wpAnyH_take (i := 1) (oi := { dst := some 56, op := Op.move (Operand.tmp 7), type := 3, pos := "l5_bounce.go:113", after := #[], guard := none }) (v := .int .i64 (i : Int)) rfl (by kernel_rfl) (by kernel_rfl) (by kernel_rfl) (fun _ _ _ h => h) (Or.inl ⟨by rfl, fun wz hSw => ?_⟩) hHeld ?_
          · obtain ⟨e1, e3⟩ := hSw
            clear hHeld
            go_simp
            try rfl
          simp only [Act.put, List.setIfInBounds_toArray, List.set_cons_zero, List.set_cons_succ]
          refine wpAnyH_take (i := 2) (oi := { dst := some 57, op := Op.binOp BinOp.add 3 (Operand.tmp 56) (Operand.const (Value.int IntKind.i64 1)) 3, type := 3, pos := "l5_bounce.go:113", after := #[{ on := 1, ground := Ground.data }], guard := none }) (v := .int .i64 ((i : Int) + 1)) rfl (by kernel_rfl) (by kernel_rfl) (by kernel_rfl) (fun _ _ _ h => h) (Or.inl ⟨by rfl, fun wz hSw => ?_⟩) hHeld ?_
          · obtain ⟨e1, e3⟩ := hSw
            clear hHeld
            go_simp
            try rfl
          simp only [Act.put, List.setIfInBounds_toArray, List.set_cons_zero, List.set_cons_succ]
          refine wpAnyH_take (i := 3) (oi := { dst := some 58, op := Op.indexAddr 39 (Operand.tmp 55) (Operand.tmp 57), type := 0, pos := "l5_bounce.go:113", after := #[{ on := 0, ground := Ground.data }, { on := 2, ground := Ground.data }], guard := none }) (v := .pointer (some ⟨gp, i + 1, none⟩)) rfl (by kernel_rfl) (by kernel_rfl) (by kernel_rfl) (fun _ _ _ h => h) (Or.inl ⟨by rfl, fun wz hSw => ?_⟩) hHeld ?_
          · obtain ⟨e1, e3⟩ := hSw
            clear hHeld
            go_simp
            try rfl
          simp only [Act.put, List.setIfInBounds_toArray, List.set_cons_zero, List.set_cons_succ]
          refine wpAnyH_take (i := 4) (oi := { dst := some 59, op := Op.load 9 (Operand.tmp 58), type := 9, pos := "l5_bounce.go:113", after := #[{ on := 3, ground := Ground.data }], guard := none }) (v := .string y1) rfl (by kernel_rfl) (by kernel_rfl) (by kernel_rfl) (fun _ _ _ h => h) (Or.inl ⟨by rfl, fun wz hSw => ?_⟩) hHeld ?_
          · obtain ⟨e1, e3⟩ := hSw
            clear hHeld
            go_simp
            try rfl
          simp only [Act.put, List.setIfInBounds_toArray, List.set_cons_zero, List.set_cons_succ]
          refine wpAnyH_take (i := 6) (oi := { dst := some 61, op := Op.move (Operand.tmp 5), type := 39, pos := "l5_bounce.go:113", after := #[], guard := none }) (v := .slice (some ⟨gp, 0, none⟩) P.length cp) rfl (by kernel_rfl) (by kernel_rfl) (by kernel_rfl) (fun _ _ _ h => h) (Or.inl ⟨by rfl, fun wz hSw => ?_⟩) hHeld ?_
          · obtain ⟨e1, e3⟩ := hSw
            clear hHeld
            go_simp
            try rfl
          simp only [Act.put, List.setIfInBounds_toArray, List.set_cons_zero, List.set_cons_succ]
          refine wpAnyH_take (i := 7) (oi := { dst := some 62, op := Op.move (Operand.tmp 7), type := 3, pos := "l5_bounce.go:113", after := #[], guard := none }) (v := .int .i64 (i : Int)) rfl (by kernel_rfl) (by kernel_rfl) (by kernel_rfl) (fun _ _ _ h => h) (Or.inl ⟨by rfl, fun wz hSw => ?_⟩) hHeld ?_
          · obtain ⟨e1, e3⟩ := hSw
            clear hHeld
            go_simp
            try rfl
          simp only [Act.put, List.setIfInBounds_toArray, List.set_cons_zero, List.set_cons_succ]
          refine wpAnyH_take (i := 8) (oi := { dst := some 63, op := Op.binOp BinOp.add 3 (Operand.tmp 62) (Operand.const (Value.int IntKind.i64 3)) 3, type := 3, pos := "l5_bounce.go:113", after := #[{ on := 7, ground := Ground.data }], guard := none }) (v := .int .i64 ((i : Int) + 3)) rfl (by kernel_rfl) (by kernel_rfl) (by kernel_rfl) (fun _ _ _ h => h) (Or.inl ⟨by rfl, fun wz hSw => ?_⟩) hHeld ?_
          · obtain ⟨e1, e3⟩ := hSw
            clear hHeld
            go_simp
            try rfl
          simp only [Act.put, List.setIfInBounds_toArray, List.set_cons_zero, List.set_cons_succ]
          refine wpAnyH_take (i := 9) (oi := { dst := some 64, op := Op.indexAddr 39 (Operand.tmp 61) (Operand.tmp 63), type := 0, pos := "l5_bounce.go:113", after := #[{ on := 6, ground := Ground.data }, { on := 8, ground := Ground.data }], guard := none }) (v := .pointer (some ⟨gp, i + 3, none⟩)) rfl (by kernel_rfl) (by kernel_rfl) (by kernel_rfl) (fun _ _ _ h => h) (Or.inl ⟨by rfl, fun wz hSw => ?_⟩) hHeld ?_
          · obtain ⟨e1, e3⟩ := hSw
            clear hHeld
            go_simp
            try rfl
          simp only [Act.put, List.setIfInBounds_toArray, List.set_cons_zero, List.set_cons_succ]
          refine wpAnyH_take (i := 10) (oi := { dst := some 65, op := Op.load 9 (Operand.tmp 64), type := 9, pos := "l5_bounce.go:113", after := #[{ on := 9, ground := Ground.data }], guard := none }) (v := .string y3) rfl (by kernel_rfl) (by kernel_rfl) (by kernel_rfl) (fun _ _ _ h => h) (Or.inl ⟨by rfl, fun wz hSw => ?_⟩) hHeld ?_
          · obtain ⟨e1, e3⟩ := hSw
            clear hHeld
            go_simp
            try rfl
          simp only [Act.put, List.setIfInBounds_toArray, List.set_cons_zero, List.set_cons_succ]
          refine wpAnyH_ready (rs := [5, 13]) (by kernel_rfl) (by simp) ?_
          refine AllReadyH.cons (o := { dst := some 60, op := Op.call { callee := Callee.value (Operand.func 23), args := #[Operand.tmp 59, Operand.const (Value.string { data := #[70, 105, 110, 97, 108, 45, 82, 101, 99, 105, 112, 105, 101, 110, 116, 58, 32, 114, 102, 99, 56, 50, 50, 59, 32] })], argTypes := #[9, 9] }, type := 9, pos := "l5_bounce.go:113", after := #[{ on := 4, ground := Ground.data }], guard := none }) rfl (fun K hK => ?_) (AllReadyH.cons (o := { dst := some 8, op := Op.alloc 31, type := 0, pos := "l5_bounce.go:113", after := #[], guard := none }) rfl (fun K hK => ?_) AllReadyH.nil)
          · skip
            go_simp
            go_at_call 23
            refine (HRC.out _).mono ?_
            rintro e y1 ⟨rfl, hw1⟩
            subst hw1
            refine hK.out _ _ hHeld (fun hHeld => ?_)
            clear hK K
            try simp only [Act.put, List.setIfInBounds_toArray, List.set_cons_zero, List.set_cons_succ]
            refine wpAnyH_ready (rs := [11, 13]) (by kernel_rfl) (by simp) ?_
            refine AllReadyH.cons (o := { dst := some 66, op := Op.call { callee := Callee.value (Operand.func 23), args := #[Operand.tmp 65, Operand.const (Value.string { data := #[83, 116, 97, 116, 117, 115, 58, 32] })], argTypes := #[9, 9] }, type := 9, pos := "l5_bounce.go:113", after := #[{ on := 10, ground := Ground.data }, { on := 5, ground := Ground.chain }], guard := none }) rfl (fun K hK => ?_) (AllReadyH.cons (o := { dst := some 8, op := Op.alloc 31, type := 0, pos := "l5_bounce.go:113", after := #[], guard := none }) rfl (fun K hK => ?_) AllReadyH.nil)
            · skip
              go_simp
              go_at_call 23
              refine (HST.out _).mono ?_
              rintro e y2 ⟨rfl, hw1⟩
              subst hw1
              refine hK.out _ _ hHeld (fun hHeld => ?_)
              clear hK K
              try simp only [Act.put, List.setIfInBounds_toArray, List.set_cons_zero, List.set_cons_succ]
              refine wpAnyH_take (i := 12) (oi := { dst := some 67, op := Op.build 31 #[(0, Operand.tmp 60), (1, Operand.tmp 66)], type := 31, pos := "l5_bounce.go:113", after := #[{ on := 5, ground := Ground.data }, { on := 11, ground := Ground.data }], guard := none }) (v := .agg #[.string rc, .string st, .int .i64 0, .string ⟨#[]⟩]) rfl (by kernel_rfl) (by kernel_rfl) (by kernel_rfl) (fun _ _ _ h => h) (Or.inl ⟨by rfl, fun wz hSw => ?_⟩) hHeld ?_
              · obtain ⟨e1, e3⟩ := hSw
                clear hHeld
                go_simp
                try rfl
              simp only [Act.put, List.setIfInBounds_toArray, List.set_cons_zero, List.set_cons_succ]
              refine wpAnyH_ready (rs := [13]) (by kernel_rfl) (by simp) ?_
              refine AllReadyH.cons (o := { dst := some 8, op := Op.alloc 31, type := 0, pos := "l5_bounce.go:113", after := #[], guard := none }) rfl (fun K hK => ?_) AllReadyH.nil
              clear hHeld
              go_simp
              generalize hW : World.alloc y2 _ = y3
              obtain ⟨fb, hnb⟩ : ∃ nb, nb = y2.heap.size := ⟨_, rfl⟩
              have HNf : Hid (y3.heap[fb]? = some (.cells #[.string ⟨#[]⟩, .string ⟨#[]⟩, .int .i64 0, .string ⟨#[]⟩] 31 (0, 0))) := by show _ = _; rw [← hW, hnb]; exact heap_newB _ _ _
              have hb : Below y2.heap.size y2 y3 := by rw [← hW]; exact below1 _ _
              have Lfb : Hid (gp < fb) := by show _ < _; rw [hnb]; exact Gd.out.lt
              have GFB : Hid (∀ g, (Value.slice a4 acc.length c4).ownBlock = some g → g ≠ fb) := fun g hg => by have := (fls_own Fd.out g hg).2; omega
              rw [← hnb]
              have Gd : Hid (Blk gp XP y3) := Gd.out.below hb
              have Pd : Hid (Blk w.heap.size #[.string ⟨#[]⟩, .string ⟨#[]⟩, .slice none 0 0, .string ⟨#[]⟩] y3) := Pd.out.below hb
              have Qd : Hid (Blk q #[.string he, .string tw, (.slice a4 acc.length c4), .string ⟨#[]⟩] y3) := Qd.out.below hb
              have Fd : Hid (Fls y3 w.heap.size (.slice a4 acc.length c4) acc) := fls_below Fd.out hb (Nat.le_refl _)
              have Bd : Hid (Below w.heap.size w y3) := Bd.out.trans (hb.mono Bd.out.size)
              clear hW hnb
              refine hK.out _ _ ⟨(Gd.out.cell _).trans HC1.out, (Gd.out.cell _).trans HC3.out⟩ (fun hHeld => ?_)
              clear hK K hb
              try simp only [Act.put, List.setIfInBounds_toArray, List.set_cons_zero, List.set_cons_succ]
              refine wpAnyH_ready (rs := [14]) (by kernel_rfl) (by simp) ?_
              refine AllReadyH.cons (o := { dst := none, op := Op.store 31 (Operand.tmp 8) (Operand.tmp 67), type := 0, pos := "l5_bounce.go:113", after := #[{ on := 13, ground := Ground.data }, { on := 12, ground := Ground.data }, { on := 11, ground := Ground.chain }, { on := 0, ground := Ground.phase }, { on := 1, ground := Ground.phase }, { on := 2, ground := Ground.phase }, { on := 3, ground := Ground.phase }, { on := 4, ground := Ground.phase }, { on := 5, ground := Ground.phase }, { on := 6, ground := Ground.phase }, { on := 7, ground := Ground.phase }, { on := 8, ground := Ground.phase }, { on := 9, ground := Ground.phase }, { on := 10, ground := Ground.phase }, { on := 11, ground := Ground.phase }, { on := 12, ground := Ground.phase }, { on := 13, ground := Ground.phase }], guard := none }) rfl (fun K hK => ?_) AllReadyH.nil
              have z0 : y3.cell? ⟨fb, 0, none⟩ = some (.string ⟨#[]⟩) := by rw [Lib.cell_of_heap HNf.out]; rfl
              have z1 : y3.cell? ⟨fb, 1, none⟩ = some (.string ⟨#[]⟩) := by rw [Lib.cell_of_heap HNf.out]; rfl
              have z2 : y3.cell? ⟨fb, 2, none⟩ = some (.int .i64 0) := by rw [Lib.cell_of_heap HNf.out]; rfl
              have z3 : y3.cell? ⟨fb, 3, none⟩ = some (.string ⟨#[]⟩) := by rw [Lib.cell_of_heap HNf.out]; rfl
              have g0 : y3.frozen? ⟨fb, 0, none⟩ = false := Lib.frozen_of_heap HNf.out 0
              have g1 : y3.frozen? ⟨fb, 1, none⟩ = false := Lib.frozen_of_heap HNf.out 1
              have g2 : y3.frozen? ⟨fb, 2, none⟩ = false := Lib.frozen_of_heap HNf.out 2
              have g3 : y3.frozen? ⟨fb, 3, none⟩ = false := Lib.frozen_of_heap HNf.out 3
              clear hHeld
              go_simp
              generalize hV : ((((y3.setCell ⟨fb, 0, none⟩ (.string rc)).setCell ⟨fb, 1, none⟩ (.string st)).setCell ⟨fb, 2, none⟩ (.int .i64 0)).setCell ⟨fb, 3, none⟩ (.string ⟨#[]⟩)) = x5
              obtain ⟨FBk, o5, b5⟩ : Hid (Blk fb #[.string rc, .string st, .int .i64 0, .string ⟨#[]⟩] x5) ∧ Off fb y3 x5 ∧ Below w.heap.size y3 x5 := by rw [← hV]; exact set4 HNf.out (by have := Lfb.out; omega)
              clear hV z0 z1 z2 z3 g0 g1 g2 g3
              have Gd : Hid (Blk gp XP x5) := Gd.out.offB o5 (by have := Lfb.out; omega)
              have Qd : Hid (Blk q #[.string he, .string tw, (.slice a4 acc.length c4), .string ⟨#[]⟩] x5) := Qd.out.offB o5 (by have := Lfb.out; omega)
              have Pd : Hid (Blk w.heap.size #[.string ⟨#[]⟩, .string ⟨#[]⟩, .slice none 0 0, .string ⟨#[]⟩] x5) := Pd.out.offB o5 (by have := Lfb.out; omega)
              have Fd : Hid (Fls x5 w.heap.size (.slice a4 acc.length c4) acc) := fls_off Fd.out o5 GFB.out
              have Bd : Hid (Below w.heap.size w x5) := Bd.out.trans b5
              refine hK.out _ _ ⟨(Gd.out.cell _).trans HC1.out, (Gd.out.cell _).trans HC3.out⟩ (fun hHeld => ?_)
              clear hK K hHeld o5 b5
              try simp only [Act.put, List.setIfInBounds_toArray, List.set_cons_zero, List.set_cons_succ]
              refine wpAnyH_done (by kernel_rfl) ?_ _
              go_wp2_with fail
              go_meet
              exact ⟨fb, rfl, Lfb.out, FBk, Gd, Pd, Qd, Fd, GFB, Bd⟩
            · skip
              clear hHeld
              go_simp
              generalize hW : World.alloc y1 _ = y2
              obtain ⟨fb, hnb⟩ : ∃ nb, nb = y1.heap.size := ⟨_, rfl⟩
              have HNf : Hid (y2.heap[fb]? = some (.cells #[.string ⟨#[]⟩, .string ⟨#[]⟩, .int .i64 0, .string ⟨#[]⟩] 31 (0, 0))) := by show _ = _; rw [← hW, hnb]; exact heap_newB _ _ _
              have hb : Below y1.heap.size y1 y2 := by rw [← hW]; exact below1 _ _
              have Lfb : Hid (gp < fb) := by show _ < _; rw [hnb]; exact Gd.out.lt
              have GFB : Hid (∀ g, (Value.slice a4 acc.length c4).ownBlock = some g → g ≠ fb) := fun g hg => by have := (fls_own Fd.out g hg).2; omega
              rw [← hnb]
              have Gd : Hid (Blk gp XP y2) := Gd.out.below hb
              have Pd : Hid (Blk w.heap.size #[.string ⟨#[]⟩, .string ⟨#[]⟩, .slice none 0 0, .string ⟨#[]⟩] y2) := Pd.out.below hb
              have Qd : Hid (Blk q #[.string he, .string tw, (.slice a4 acc.length c4), .string ⟨#[]⟩] y2) := Qd.out.below hb
              have Fd : Hid (Fls y2 w.heap.size (.slice a4 acc.length c4) acc) := fls_below Fd.out hb (Nat.le_refl _)
              have Bd : Hid (Below w.heap.size w y2) := Bd.out.trans (hb.mono Bd.out.size)
              clear hW hnb
              refine hK.out _ _ ⟨(Gd.out.cell _).trans HC1.out, (Gd.out.cell _).trans HC3.out⟩ (fun hHeld => ?_)
              clear hK K hb
              try simp only [Act.put, List.setIfInBounds_toArray, List.set_cons_zero, List.set_cons_succ]
              refine wpAnyH_ready (rs := [11]) (by kernel_rfl) (by simp) ?_
              refine AllReadyH.cons (o := { dst := some 66, op := Op.call { callee := Callee.value (Operand.func 23), args := #[Operand.tmp 65, Operand.const (Value.string { data := #[83, 116, 97, 116, 117, 115, 58, 32] })], argTypes := #[9, 9] }, type := 9, pos := "l5_bounce.go:113", after := #[{ on := 10, ground := Ground.data }, { on := 5, ground := Ground.chain }], guard := none }) rfl (fun K hK => ?_) AllReadyH.nil
              go_simp
              go_at_call 23
              refine (HST.out _).mono ?_
              rintro e y3 ⟨rfl, hw1⟩
              subst hw1
              refine hK.out _ _ hHeld (fun hHeld => ?_)
              clear hK K
              try simp only [Act.put, List.setIfInBounds_toArray, List.set_cons_zero, List.set_cons_succ]
              refine wpAnyH_take (i := 12) (oi := { dst := some 67, op := Op.build 31 #[(0, Operand.tmp 60), (1, Operand.tmp 66)], type := 31, pos := "l5_bounce.go:113", after := #[{ on := 5, ground := Ground.data }, { on := 11, ground := Ground.data }], guard := none }) (v := .agg #[.string rc, .string st, .int .i64 0, .string ⟨#[]⟩]) rfl (by kernel_rfl) (by kernel_rfl) (by kernel_rfl) (fun _ _ _ h => h) (Or.inl ⟨by rfl, fun wz hSw => ?_⟩) hHeld ?_
              · obtain ⟨e1, e3⟩ := hSw
                clear hHeld
                go_simp
                try rfl
              simp only [Act.put, List.setIfInBounds_toArray, List.set_cons_zero, List.set_cons_succ]
              refine wpAnyH_ready (rs := [14]) (by kernel_rfl) (by simp) ?_
              refine AllReadyH.cons (o := { dst := none, op := Op.store 31 (Operand.tmp 8) (Operand.tmp 67), type := 0, pos := "l5_bounce.go:113", after := #[{ on := 13, ground := Ground.data }, { on := 12, ground := Ground.data }, { on := 11, ground := Ground.chain }, { on := 0, ground := Ground.phase }, { on := 1, ground := Ground.phase }, { on := 2, ground := Ground.phase }, { on := 3, ground := Ground.phase }, { on := 4, ground := Ground.phase }, { on := 5, ground := Ground.phase }, { on := 6, ground := Ground.phase }, { on := 7, ground := Ground.phase }, { on := 8, ground := Ground.phase }, { on := 9, ground := Ground.phase }, { on := 10, ground := Ground.phase }, { on := 11, ground := Ground.phase }, { on := 12, ground := Ground.phase }, { on := 13, ground := Ground.phase }], guard := none }) rfl (fun K hK => ?_) AllReadyH.nil
              have z0 : y3.cell? ⟨fb, 0, none⟩ = some (.string ⟨#[]⟩) := by rw [Lib.cell_of_heap HNf.out]; rfl
              have z1 : y3.cell? ⟨fb, 1, none⟩ = some (.string ⟨#[]⟩) := by rw [Lib.cell_of_heap HNf.out]; rfl
              have z2 : y3.cell? ⟨fb, 2, none⟩ = some (.int .i64 0) := by rw [Lib.cell_of_heap HNf.out]; rfl
              have z3 : y3.cell? ⟨fb, 3, none⟩ = some (.string ⟨#[]⟩) := by rw [Lib.cell_of_heap HNf.out]; rfl
              have g0 : y3.frozen? ⟨fb, 0, none⟩ = false := Lib.frozen_of_heap HNf.out 0
              have g1 : y3.frozen? ⟨fb, 1, none⟩ = false := Lib.frozen_of_heap HNf.out 1
              have g2 : y3.frozen? ⟨fb, 2, none⟩ = false := Lib.frozen_of_heap HNf.out 2
              have g3 : y3.frozen? ⟨fb, 3, none⟩ = false := Lib.frozen_of_heap HNf.out 3
              clear hHeld
              go_simp
              generalize hV : ((((y3.setCell ⟨fb, 0, none⟩ (.string rc)).setCell ⟨fb, 1, none⟩ (.string st)).setCell ⟨fb, 2, none⟩ (.int .i64 0)).setCell ⟨fb, 3, none⟩ (.string ⟨#[]⟩)) = x5
              obtain ⟨FBk, o5, b5⟩ : Hid (Blk fb #[.string rc, .string st, .int .i64 0, .string ⟨#[]⟩] x5) ∧ Off fb y3 x5 ∧ Below w.heap.size y3 x5 := by rw [← hV]; exact set4 HNf.out (by have := Lfb.out; omega)
              clear hV z0 z1 z2 z3 g0 g1 g2 g3
              have Gd : Hid (Blk gp XP x5) := Gd.out.offB o5 (by have := Lfb.out; omega)
              have Qd : Hid (Blk q #[.string he, .string tw, (.slice a4 acc.length c4), .string ⟨#[]⟩] x5) := Qd.out.offB o5 (by have := Lfb.out; omega)
              have Pd : Hid (Blk w.heap.size #[.string ⟨#[]⟩, .string ⟨#[]⟩, .slice none 0 0, .string ⟨#[]⟩] x5) := Pd.out.offB o5 (by have := Lfb.out; omega)
              have Fd : Hid (Fls x5 w.heap.size (.slice a4 acc.length c4) acc) := fls_off Fd.out o5 GFB.out
              have Bd : Hid (Below w.heap.size w x5) := Bd.out.trans b5
              refine hK.out _ _ ⟨(Gd.out.cell _).trans HC1.out, (Gd.out.cell _).trans HC3.out⟩ (fun hHeld => ?_)
              clear hK K hHeld o5 b5
              try simp only [Act.put, List.setIfInBounds_toArray, List.set_cons_zero, List.set_cons_succ]
              refine wpAnyH_done (by kernel_rfl) ?_ _
              go_wp2_with fail
              go_meet
              exact ⟨fb, rfl, Lfb.out, FBk, Gd, Pd, Qd, Fd, GFB, Bd⟩
          · skip
            clear hHeld
            go_simp
            generalize hW : World.alloc y0 _ = y1
            obtain ⟨fb, hnb⟩ : ∃ nb, nb = y0.heap.size := ⟨_, rfl⟩
            have HNf : Hid (y1.heap[fb]? = some (.cells #[.string ⟨#[]⟩, .string ⟨#[]⟩, .int .i64 0, .string ⟨#[]⟩] 31 (0, 0))) := by show _ = _; rw [← hW, hnb]; exact heap_newB _ _ _
            have hb : Below y0.heap.size y0 y1 := by rw [← hW]; exact below1 _ _
            have Lfb : Hid (gp < fb) := by show _ < _; rw [hnb]; exact Gd.out.lt
            have GFB : Hid (∀ g, (Value.slice a4 acc.length c4).ownBlock = some g → g ≠ fb) := fun g hg => by have := (fls_own Fd.out g hg).2; omega
            rw [← hnb]
            have Gd : Hid (Blk gp XP y1) := Gd.out.below hb
            have Pd : Hid (Blk w.heap.size #[.string ⟨#[]⟩, .string ⟨#[]⟩, .slice none 0 0, .string ⟨#[]⟩] y1) := Pd.out.below hb
            have Qd : Hid (Blk q #[.string he, .string tw, (.slice a4 acc.length c4), .string ⟨#[]⟩] y1) := Qd.out.below hb
            have Fd : Hid (Fls y1 w.heap.size (.slice a4 acc.length c4) acc) := fls_below Fd.out hb (Nat.le_refl _)
            have Bd : Hid (Below w.heap.size w y1) := Bd.out.trans (hb.mono Bd.out.size)
            clear hW hnb
            refine hK.out _ _ ⟨(Gd.out.cell _).trans HC1.out, (Gd.out.cell _).trans HC3.out⟩ (fun hHeld => ?_)
            clear hK K hb
            try simp only [Act.put, List.setIfInBounds_toArray, List.set_cons_zero, List.set_cons_succ]
            refine wpAnyH_ready (rs := [5]) (by kernel_rfl) (by simp) ?_
            refine AllReadyH.cons (o := { dst := some 60, op := Op.call { callee := Callee.value (Operand.func 23), args := #[Operand.tmp 59, Operand.const (Value.string { data := #[70, 105, 110, 97, 108, 45, 82, 101, 99, 105, 112, 105, 101, 110, 116, 58, 32, 114, 102, 99, 56, 50, 50, 59, 32] })], argTypes := #[9, 9] }, type := 9, pos := "l5_bounce.go:113", after := #[{ on := 4, ground := Ground.data }], guard := none }) rfl (fun K hK => ?_) AllReadyH.nil
            go_simp
            go_at_call 23
            refine (HRC.out _).mono ?_
            rintro e y2 ⟨rfl, hw1⟩
            subst hw1
            refine hK.out _ _ hHeld (fun hHeld => ?_)
            clear hK K
            try simp only [Act.put, List.setIfInBounds_toArray, List.set_cons_zero, List.set_cons_succ]
            refine wpAnyH_ready (rs := [11]) (by kernel_rfl) (by simp) ?_
            refine AllReadyH.cons (o := { dst := some 66, op := Op.call { callee := Callee.value (Operand.func 23), args := #[Operand.tmp 65, Operand.const (Value.string { data := #[83, 116, 97, 116, 117, 115, 58, 32] })], argTypes := #[9, 9] }, type := 9, pos := "l5_bounce.go:113", after := #[{ on := 10, ground := Ground.data }, { on := 5, ground := Ground.chain }], guard := none }) rfl (fun K hK => ?_) AllReadyH.nil
            go_simp
            go_at_call 23
            refine (HST.out _).mono ?_
            rintro e y3 ⟨rfl, hw1⟩
            subst hw1
            refine hK.out _ _ hHeld (fun hHeld => ?_)
            clear hK K
            try simp only [Act.put, List.setIfInBounds_toArray, List.set_cons_zero, List.set_cons_succ]
            refine wpAnyH_take (i := 12) (oi := { dst := some 67, op := Op.build 31 #[(0, Operand.tmp 60), (1, Operand.tmp 66)], type := 31, pos := "l5_bounce.go:113", after := #[{ on := 5, ground := Ground.data }, { on := 11, ground := Ground.data }], guard := none }) (v := .agg #[.string rc, .string st, .int .i64 0, .string ⟨#[]⟩]) rfl (by kernel_rfl) (by kernel_rfl) (by kernel_rfl) (fun _ _ _ h => h) (Or.inl ⟨by rfl, fun wz hSw => ?_⟩) hHeld ?_
            · obtain ⟨e1, e3⟩ := hSw
              clear hHeld
              go_simp
              try rfl
            simp only [Act.put, List.setIfInBounds_toArray, List.set_cons_zero, List.set_cons_succ]
            refine wpAnyH_ready (rs := [14]) (by kernel_rfl) (by simp) ?_
            refine AllReadyH.cons (o := { dst := none, op := Op.store 31 (Operand.tmp 8) (Operand.tmp 67), type := 0, pos := "l5_bounce.go:113", after := #[{ on := 13, ground := Ground.data }, { on := 12, ground := Ground.data }, { on := 11, ground := Ground.chain }, { on := 0, ground := Ground.phase }, { on := 1, ground := Ground.phase }, { on := 2, ground := Ground.phase }, { on := 3, ground := Ground.phase }, { on := 4, ground := Ground.phase }, { on := 5, ground := Ground.phase }, { on := 6, ground := Ground.phase }, { on := 7, ground := Ground.phase }, { on := 8, ground := Ground.phase }, { on := 9, ground := Ground.phase }, { on := 10, ground := Ground.phase }, { on := 11, ground := Ground.phase }, { on := 12, ground := Ground.phase }, { on := 13, ground := Ground.phase }], guard := none }) rfl (fun K hK => ?_) AllReadyH.nil
            have z0 : y3.cell? ⟨fb, 0, none⟩ = some (.string ⟨#[]⟩) := by rw [Lib.cell_of_heap HNf.out]; rfl
            have z1 : y3.cell? ⟨fb, 1, none⟩ = some (.string ⟨#[]⟩) := by rw [Lib.cell_of_heap HNf.out]; rfl
            have z2 : y3.cell? ⟨fb, 2, none⟩ = some (.int .i64 0) := by rw [Lib.cell_of_heap HNf.out]; rfl
            have z3 : y3.cell? ⟨fb, 3, none⟩ = some (.string ⟨#[]⟩) := by rw [Lib.cell_of_heap HNf.out]; rfl
            have g0 : y3.frozen? ⟨fb, 0, none⟩ = false := Lib.frozen_of_heap HNf.out 0
            have g1 : y3.frozen? ⟨fb, 1, none⟩ = false := Lib.frozen_of_heap HNf.out 1
            have g2 : y3.frozen? ⟨fb, 2, none⟩ = false := Lib.frozen_of_heap HNf.out 2
            have g3 : y3.frozen? ⟨fb, 3, none⟩ = false := Lib.frozen_of_heap HNf.out 3
            clear hHeld
            go_simp
            generalize hV : ((((y3.setCell ⟨fb, 0, none⟩ (.string rc)).setCell ⟨fb, 1, none⟩ (.string st)).setCell ⟨fb, 2, none⟩ (.int .i64 0)).setCell ⟨fb, 3, none⟩ (.string ⟨#[]⟩)) = x5
            obtain ⟨FBk, o5, b5⟩ : Hid (Blk fb #[.string rc, .string st, .int .i64 0, .string ⟨#[]⟩] x5) ∧ Off fb y3 x5 ∧ Below w.heap.size y3 x5 := by rw [← hV]; exact set4 HNf.out (by have := Lfb.out; omega)
            clear hV z0 z1 z2 z3 g0 g1 g2 g3
            have Gd : Hid (Blk gp XP x5) := Gd.out.offB o5 (by have := Lfb.out; omega)
            have Qd : Hid (Blk q #[.string he, .string tw, (.slice a4 acc.length c4), .string ⟨#[]⟩] x5) := Qd.out.offB o5 (by have := Lfb.out; omega)
            have Pd : Hid (Blk w.heap.size #[.string ⟨#[]⟩, .string ⟨#[]⟩, .slice none 0 0, .string ⟨#[]⟩] x5) := Pd.out.offB o5 (by have := Lfb.out; omega)
            have Fd : Hid (Fls x5 w.heap.size (.slice a4 acc.length c4) acc) := fls_off Fd.out o5 GFB.out
            have Bd : Hid (Below w.heap.size w x5) := Bd.out.trans b5
            refine hK.out _ _ ⟨(Gd.out.cell _).trans HC1.out, (Gd.out.cell _).trans HC3.out⟩ (fun hHeld => ?_)
            clear hK K hHeld o5 b5
            try simp only [Act.put, List.setIfInBounds_toArray, List.set_cons_zero, List.set_cons_succ]
            refine wpAnyH_done (by kernel_rfl) ?_ _
            go_wp2_with fail
            go_meet
            exact ⟨fb, rfl, Lfb.out, FBk, Gd, Pd, Qd, Fd, GFB, Bd⟩
        case rest =>
        obtain ⟨fb, rfl, lfb, Nw, Gw, Pw, Qw, Fw, Df, Bw⟩ := hcut
        clear Gr Pr Qr Fr Br HRC HST HC1 HC3 hw1 hw3 hg1 hg3
        have c4' : wc.cell? ⟨gp, i + 4, none⟩ = some (.string y4) := (Gw.out.cell (i + 4)).trans HC4.out
        go_wp2_with fail
        refine (HDG.out _).mono ?_
        rintro e wd ⟨rfl, hwd⟩
        subst hwd
        clear HDG c4' HC4
        go_wp2_with fail
        go_loopw [10] (fun av wz => ∃ k : Nat, av = .int .i64 k ∧ k ≤ dg.size ∧ Hid (∀ j (h : j < dg.data.toList.length), j < k → dg.data.toList[j] ≠ 32) ∧ wz = wd) (fun av _ => dg.size - (intOf av).toNat)
        case atStart => exact ⟨0, rfl, Nat.zero_le _, (fun j _ hj => absurd hj (Nat.not_lt_zero _)), rfl⟩
        case round =>
          obtain ⟨k, rfl, hk, HNS, hwz⟩ := hrel
          subst hwz
          by_cases hkl : k < dg.size
          · have hkli : (k : Int) < (dg.size : Int) := by omega
            have hkd : k < dg.data.toList.length := by rw [← Lib.size_eq]; exact hkl
            by_cases hsp : dg.data.toList[k] = 32
            · have hsq : dg[k] = 32 := hsp
              have hspb : ((dg[k].toNat : Int) == 32) = true := by rw [hsq]; rfl
              have hspi : (dg[k].toNat : Int) = 32 := by rw [hsq]; rfl
              clear hsq
              have HW : Hid (wordL dg.data.toList = dg.data.toList.take k) := word_take _ k (by rw [← Lib.size_eq]; omega) HNS.out (fun _ => hsp)
              obtain ⟨d, hd⟩ : ∃ d, dg.extract 0 k = d := ⟨_, rfl⟩
              have HDD : Hid (d.data.toList = wordL dg.data.toList) := by show _ = _; rw [HW.out, ← hd, Lib.extract_data]; simp
              have zd : d.size ≤ 20000 := by rw [← hd, ByteArray.size_extract]; omega
              have HN3 : Hid (∀ wx : World, Calls Tryz.prog 25 #[.string d, .int .i64 3] wx fun e w' => e = .returned (.tuple #[.int .i64 (num3 (wordL dg.data.toList)), .bool (dig3 d)]) ∧ w' = wx) := fun wx => by have := specNum3 d wx (by omega); rw [num3V_eq, HDD.out] at this; exact this
              have HLN : Hid ((wordL dg.data.toList).length = k) := by show _ = _; rw [HW.out, List.length_take, ← Lib.size_eq]; omega
              obtain ⟨cd, hcd⟩ : ∃ cd, num3 (wordL dg.data.toList) = cd := ⟨_, rfl⟩
              obtain ⟨db, hdb⟩ : ∃ db, dig3 d = db := ⟨_, rfl⟩
              obtain ⟨tx, htx⟩ : ∃ tx, dg.extract (k + 1) dg.size = tx := ⟨_, rfl⟩
              have HTX : Hid (mk (dg.data.toList.drop (k + 1)) = tx) := by show _ = _; rw [← htx, ← mk_data (dg.extract (k + 1) dg.size), Lib.extract_data]; congr 1; exact (List.take_of_length_le (by rw [List.length_drop, ← Lib.size_eq]; omega)).symm
              have HFX : Hid (flB y1 y3 y4 = ⟨rc, st, cd, tx⟩) := by show _ = _; rw [HFB.out, HLN.out, HTX.out, hcd]
              rw [HFX.out] at HG2 HAZ2
              rw [hcd, hdb] at HN3
              have hd' := hd
              have htx' := htx
              clear HFB HTX HLN HW HDD hcd hdb HFX
              go_wp2_with fail
              try rw [hd']
              refine (HN3.out _).mono ?_
              rintro e wn ⟨rfl, hwn⟩
              subst hwn
              clear HN3 hd hd'
              have n2 : wn.cell? ⟨fb, 2, none⟩ = some (.int .i64 0) := Nw.out.cell 2
              have n3 : wn.cell? ⟨fb, 3, none⟩ = some (.string ⟨#[]⟩) := Nw.out.cell 3
              have u2 := Nw.out.free 2
              have u3 := Nw.out.free 3
              go_upto_region 22 with fail
              try rw [htx']
              generalize hV : (wn.setCell ⟨fb, 2, none⟩ (.int .i64 cd)).setCell ⟨fb, 3, none⟩ (.string tx) = V
              have Nx : Hid (Blk fb #[.string rc, .string st, .int .i64 cd, .string tx] V) := by show Blk _ _ _; rw [← hV]; exact (Nw.out.set (i := 2) (by simp)).set (i := 3) (by simp)
              have oV : Off fb wn V := by rw [← hV]; exact ((Off.refl fb wn).setCell _).setCell _
              have Gx : Hid (Blk gp XP V) := Gw.out.offB oV (by omega)
              have Px : Hid (Blk w.heap.size #[.string ⟨#[]⟩, .string ⟨#[]⟩, .slice none 0 0, .string ⟨#[]⟩] V) := Pw.out.offB oV (by omega)
              have Qx : Hid (Blk q #[.string he, .string tw, (.slice a4 acc.length c4), .string ⟨#[]⟩] V) := Qw.out.offB oV (by omega)
              have Fx : Hid (Fls V w.heap.size (.slice a4 acc.length c4) acc) := fls_off Fw.out oV Df.out
              have Bx : Hid (Below w.heap.size w V) := Bw.out.trans (oV.belowAt (by omega) Bw.out.size)
              clear hV oV n2 n3 u2 u3 Nw Gw Pw Qw Fw Bw htx htx'
              have x0 : V.cell? ⟨fb, 0, none⟩ = some (.string rc) := Nx.out.cell 0
              have x1 : V.cell? ⟨fb, 1, none⟩ = some (.string st) := Nx.out.cell 1
              have x2 : V.cell? ⟨fb, 2, none⟩ = some (.int .i64 cd) := Nx.out.cell 2
              have x3 : V.cell? ⟨fb, 3, none⟩ = some (.string tx) := Nx.out.cell 3
              have k2 : V.cell? ⟨q, 2, none⟩ = some (.slice a4 acc.length c4) := Qx.out.cell 2
              have hown' : V.ownsRow w.heap.size 31 4 (.slice a4 acc.length c4) acc.length (frow acc) := Fx.out
              have hQz := Gx.out.lt
              have hOz := Bx.out.size
              go_wp2_with (at_builtin; refine wpList_append_lies _ rfl _ _ 23 rfl w.heap.size 31 i0 (.agg #[.string ⟨#[]⟩, .string ⟨#[]⟩, .int .i64 0, .string ⟨#[]⟩]) 4 56 Tryz.underlying23 hi hy0 hy1 hy2 rfl (by decide) _ _ _ rfl (hown'.alloc _) ⟨V.heap.size, 0, none⟩ 1 1 (fcells ⟨rc, st, cd, tx⟩) rfl rfl ?c1 (fl_one _) (by decide) ?c4 ?c5 ?c6 (V.heap.size + 1) ?c7 ?_)
              case c1 => exact fun j u hj => World.news_of_block (heap_newB V _ _) j u (by simpa [fcells] using hj)
              case c4 => unfold maxLen; omega
              case c5 => omega
              case c6 => simp; omega
              case c7 => simp
              intro g7 c7 w7 hown7 hgrow hat hlt7
              have F8 : Hid (Fls w7 w.heap.size (.slice (some ⟨g7, 0, none⟩) (acc.length + 1) c7) (acc ++ [⟨rc, st, cd, tx⟩])) := fls_snoc hown7
              have n8 : g7 ≠ gp ∧ g7 ≠ w.heap.size ∧ g7 ≠ q := by
                rcases hat with h | h
                · exact Nr.out g7 h
                · exact ⟨by omega, by omega, by omega⟩
              have b8 : Below w.heap.size V w7 := Below.grown (below1 _ _ |>.mono hOz) hgrow (by simp; omega) (fun g hg => (fls_own Fx.out g hg).1)
              have G8 : Hid (Blk gp XP w7) := blk_grown (Gx.out.alloc _) hgrow (fun e => (Nr.out _ e.symm).1 rfl)
              have P8 : Hid (Blk w.heap.size #[.string ⟨#[]⟩, .string ⟨#[]⟩, .slice none 0 0, .string ⟨#[]⟩] w7) := blk_grown (Px.out.alloc _) hgrow (fun e => (Nr.out _ e.symm).2.1 rfl)
              have Q8 : Hid (Blk q #[.string he, .string tw, (.slice a4 acc.length c4), .string ⟨#[]⟩] w7) := blk_grown (Qx.out.alloc _) hgrow (fun e => (Nr.out _ e.symm).2.2 rfl)
              have B8 : Hid (Below w.heap.size w w7) := Bx.out.trans b8
              have k2' : w7.cell? ⟨q, 2, none⟩ = some (.slice a4 acc.length c4) := Q8.out.cell 2
              have f2' := Q8.out.free 2
              have Q9 : Hid (Blk q #[.string he, .string tw, (.slice (some ⟨g7, 0, none⟩) (acc.length + 1) c7), .string ⟨#[]⟩] (w7.setCell ⟨q, 2, none⟩ (.slice (some ⟨g7, 0, none⟩) (acc.length + 1) c7))) := Q8.out.set (i := 2) (by simp)
              have G9 : Hid (Blk gp XP (w7.setCell ⟨q, 2, none⟩ (.slice (some ⟨g7, 0, none⟩) (acc.length + 1) c7))) := G8.out.other (by omega)
              have P9 : Hid (Blk w.heap.size #[.string ⟨#[]⟩, .string ⟨#[]⟩, .slice none 0 0, .string ⟨#[]⟩] (w7.setCell ⟨q, 2, none⟩ (.slice (some ⟨g7, 0, none⟩) (acc.length + 1) c7))) := P8.out.other (by omega)
              have F9 : Hid (Fls (w7.setCell ⟨q, 2, none⟩ (.slice (some ⟨g7, 0, none⟩) (acc.length + 1) c7)) w.heap.size (.slice (some ⟨g7, 0, none⟩) (acc.length + 1) c7) (acc ++ [⟨rc, st, cd, tx⟩])) := fls_setO F8.out (fun g hg => by simp only [Value.ownBlock, Option.some.injEq] at hg; omega) _
              have B9 : Hid (Below w.heap.size w (w7.setCell ⟨q, 2, none⟩ (.slice (some ⟨g7, 0, none⟩) (acc.length + 1) c7))) := B8.out.setCell (p := ⟨q, 2, none⟩) (by show w.heap.size ≤ q; omega) _
              have hfu3 : Hid (P.length + 1 ≤ fu2 + (i + 5)) := by have := HFU.out; have := HF2.out; show _ ≤ _; omega
              have e9 : Hid ((i : Int) + 5 = ((i + 5 : Nat) : Int)) := by show _ = _; omega
              clear x0 x1 x2 x3 k2 hown' hown7 hgrow hat b8 Gx Px Qx Fx Bx G8 P8 Q8 F8 B8 Nx HFU HF2
              go_wp2
              go_roundw
              case rel => exact ⟨i + 5, fu2, acc ++ [⟨rc, st, cd, tx⟩], some ⟨g7, 0, none⟩, c7, by first | rfl | exact congrArg (Value.int .i64) e9.out | go_num, by omega, by simp; omega, hfu3, HG2, HAZ2, G9, P9, by simpa using Q9, by simpa using F9, (fun g hg => by simp only [Value.ownBlock, Option.some.injEq] at hg; exact hg ▸ n8), B9⟩
              case measure => simp [intOf]; omega
            · have hspn : dg[k].toNat ≠ 32 := fun e => hsp (UInt8.toNat_inj.1 (show dg[k].toNat = _ from e.trans rfl))
              have hspi : ¬ (dg[k].toNat : Int) = 32 := by omega
              have hspb : ((dg[k].toNat : Int) == 32) = false := beq_eq_false_iff_ne.2 (by omega)
              have HN2 : Hid (∀ j (h : j < dg.data.toList.length), j < k + 1 → dg.data.toList[j] ≠ 32) := fun j h hj => by
                rcases (show j < k ∨ j = k by omega) with h1 | h1
                · exact HNS.out j h h1
                · subst h1; exact hsp
              go_wp2
              go_roundw
              case rel => exact ⟨k + 1, by go_num, by omega, HN2, by first | rfl | trivial⟩
              case measure => simp [intOf]; omega
          · have hkli : ¬ (k : Int) < (dg.size : Int) := by omega
            have HW : Hid (wordL dg.data.toList = dg.data.toList.take k) := word_take _ k (by rw [← Lib.size_eq]; omega) HNS.out (fun h => absurd h (by rw [← Lib.size_eq]; omega))
            obtain ⟨d, hd⟩ : ∃ d, dg.extract 0 k = d := ⟨_, rfl⟩
            have HDD : Hid (d.data.toList = wordL dg.data.toList) := by show _ = _; rw [HW.out, ← hd, Lib.extract_data]; simp
            have zd : d.size ≤ 20000 := by rw [← hd, ByteArray.size_extract]; omega
            have HN3 : Hid (∀ wx : World, Calls Tryz.prog 25 #[.string d, .int .i64 3] wx fun e w' => e = .returned (.tuple #[.int .i64 (num3 (wordL dg.data.toList)), .bool (dig3 d)]) ∧ w' = wx) := fun wx => by have := specNum3 d wx (by omega); rw [num3V_eq, HDD.out] at this; exact this
            have HLN : Hid ((wordL dg.data.toList).length = k) := by show _ = _; rw [HW.out, List.length_take, ← Lib.size_eq]; omega
            obtain ⟨cd, hcd⟩ : ∃ cd, num3 (wordL dg.data.toList) = cd := ⟨_, rfl⟩
            obtain ⟨db, hdb⟩ : ∃ db, dig3 d = db := ⟨_, rfl⟩
            obtain ⟨tx, htx⟩ : ∃ tx : ByteArray, ⟨#[]⟩ = tx := ⟨_, rfl⟩
            have HTX : Hid (mk (dg.data.toList.drop (k + 1)) = tx) := by show _ = _; rw [← htx, List.drop_of_length_le (by rw [← Lib.size_eq]; omega)]; rfl
            have HFX : Hid (flB y1 y3 y4 = ⟨rc, st, cd, tx⟩) := by show _ = _; rw [HFB.out, HLN.out, HTX.out, hcd]
            rw [HFX.out] at HG2 HAZ2
            rw [hcd, hdb] at HN3
            have hd' := hd
            have htx' := htx
            clear HFB HTX HLN HW HDD hcd hdb HFX
            go_wp2_with fail
            try rw [hd']
            refine (HN3.out _).mono ?_
            rintro e wn ⟨rfl, hwn⟩
            subst hwn
            clear HN3 hd hd'
            have n2 : wn.cell? ⟨fb, 2, none⟩ = some (.int .i64 0) := Nw.out.cell 2
            have n3 : wn.cell? ⟨fb, 3, none⟩ = some (.string ⟨#[]⟩) := Nw.out.cell 3
            have u2 := Nw.out.free 2
            have u3 := Nw.out.free 3
            go_upto_region 22 with fail
            generalize hV : wn.setCell ⟨fb, 2, none⟩ (.int .i64 cd) = V
            have Nx : Hid (Blk fb #[.string rc, .string st, .int .i64 cd, .string tx] V) := by show Blk _ _ _; rw [← hV, ← htx']; exact Nw.out.set (i := 2) (by simp)
            have oV : Off fb wn V := by rw [← hV]; exact (Off.refl fb wn).setCell _
            have Gx : Hid (Blk gp XP V) := Gw.out.offB oV (by omega)
            have Px : Hid (Blk w.heap.size #[.string ⟨#[]⟩, .string ⟨#[]⟩, .slice none 0 0, .string ⟨#[]⟩] V) := Pw.out.offB oV (by omega)
            have Qx : Hid (Blk q #[.string he, .string tw, (.slice a4 acc.length c4), .string ⟨#[]⟩] V) := Qw.out.offB oV (by omega)
            have Fx : Hid (Fls V w.heap.size (.slice a4 acc.length c4) acc) := fls_off Fw.out oV Df.out
            have Bx : Hid (Below w.heap.size w V) := Bw.out.trans (oV.belowAt (by omega) Bw.out.size)
            clear hV oV n2 n3 u2 u3 Nw Gw Pw Qw Fw Bw htx htx'
            have x0 : V.cell? ⟨fb, 0, none⟩ = some (.string rc) := Nx.out.cell 0
            have x1 : V.cell? ⟨fb, 1, none⟩ = some (.string st) := Nx.out.cell 1
            have x2 : V.cell? ⟨fb, 2, none⟩ = some (.int .i64 cd) := Nx.out.cell 2
            have x3 : V.cell? ⟨fb, 3, none⟩ = some (.string tx) := Nx.out.cell 3
            have k2 : V.cell? ⟨q, 2, none⟩ = some (.slice a4 acc.length c4) := Qx.out.cell 2
            have hown' : V.ownsRow w.heap.size 31 4 (.slice a4 acc.length c4) acc.length (frow acc) := Fx.out
            have hQz := Gx.out.lt
            have hOz := Bx.out.size
            go_wp2_with (at_builtin; refine wpList_append_lies _ rfl _ _ 23 rfl w.heap.size 31 i0 (.agg #[.string ⟨#[]⟩, .string ⟨#[]⟩, .int .i64 0, .string ⟨#[]⟩]) 4 56 Tryz.underlying23 hi hy0 hy1 hy2 rfl (by decide) _ _ _ rfl (hown'.alloc _) ⟨V.heap.size, 0, none⟩ 1 1 (fcells ⟨rc, st, cd, tx⟩) rfl rfl ?c1 (fl_one _) (by decide) ?c4 ?c5 ?c6 (V.heap.size + 1) ?c7 ?_)
            case c1 => exact fun j u hj => World.news_of_block (heap_newB V _ _) j u (by simpa [fcells] using hj)
            case c4 => unfold maxLen; omega
            case c5 => omega
            case c6 => simp; omega
            case c7 => simp
            intro g7 c7 w7 hown7 hgrow hat hlt7
            have F8 : Hid (Fls w7 w.heap.size (.slice (some ⟨g7, 0, none⟩) (acc.length + 1) c7) (acc ++ [⟨rc, st, cd, tx⟩])) := fls_snoc hown7
            have n8 : g7 ≠ gp ∧ g7 ≠ w.heap.size ∧ g7 ≠ q := by
              rcases hat with h | h
              · exact Nr.out g7 h
              · exact ⟨by omega, by omega, by omega⟩
            have b8 : Below w.heap.size V w7 := Below.grown (below1 _ _ |>.mono hOz) hgrow (by simp; omega) (fun g hg => (fls_own Fx.out g hg).1)
            have G8 : Hid (Blk gp XP w7) := blk_grown (Gx.out.alloc _) hgrow (fun e => (Nr.out _ e.symm).1 rfl)
            have P8 : Hid (Blk w.heap.size #[.string ⟨#[]⟩, .string ⟨#[]⟩, .slice none 0 0, .string ⟨#[]⟩] w7) := blk_grown (Px.out.alloc _) hgrow (fun e => (Nr.out _ e.symm).2.1 rfl)
            have Q8 : Hid (Blk q #[.string he, .string tw, (.slice a4 acc.length c4), .string ⟨#[]⟩] w7) := blk_grown (Qx.out.alloc _) hgrow (fun e => (Nr.out _ e.symm).2.2 rfl)
            have B8 : Hid (Below w.heap.size w w7) := Bx.out.trans b8
            have k2' : w7.cell? ⟨q, 2, none⟩ = some (.slice a4 acc.length c4) := Q8.out.cell 2
            have f2' := Q8.out.free 2
            have Q9 : Hid (Blk q #[.string he, .string tw, (.slice (some ⟨g7, 0, none⟩) (acc.length + 1) c7), .string ⟨#[]⟩] (w7.setCell ⟨q, 2, none⟩ (.slice (some ⟨g7, 0, none⟩) (acc.length + 1) c7))) := Q8.out.set (i := 2) (by simp)
            have G9 : Hid (Blk gp XP (w7.setCell ⟨q, 2, none⟩ (.slice (some ⟨g7, 0, none⟩) (acc.length + 1) c7))) := G8.out.other (by omega)
            have P9 : Hid (Blk w.heap.size #[.string ⟨#[]⟩, .string ⟨#[]⟩, .slice none 0 0, .string ⟨#[]⟩] (w7.setCell ⟨q, 2, none⟩ (.slice (some ⟨g7, 0, none⟩) (acc.length + 1) c7))) := P8.out.other (by omega)
            have F9 : Hid (Fls (w7.setCell ⟨q, 2, none⟩ (.slice (some ⟨g7, 0, none⟩) (acc.length + 1) c7)) w.heap.size (.slice (some ⟨g7, 0, none⟩) (acc.length + 1) c7) (acc ++ [⟨rc, st, cd, tx⟩])) := fls_setO F8.out (fun g hg => by simp only [Value.ownBlock, Option.some.injEq] at hg; omega) _
            have B9 : Hid (Below w.heap.size w (w7.setCell ⟨q, 2, none⟩ (.slice (some ⟨g7, 0, none⟩) (acc.length + 1) c7))) := B8.out.setCell (p := ⟨q, 2, none⟩) (by show w.heap.size ≤ q; omega) _
            have hfu3 : Hid (P.length + 1 ≤ fu2 + (i + 5)) := by have := HFU.out; have := HF2.out; show _ ≤ _; omega
            have e9 : Hid ((i : Int) + 5 = ((i + 5 : Nat) : Int)) := by show _ = _; omega
            clear x0 x1 x2 x3 k2 hown' hown7 hgrow hat b8 Gx Px Qx Fx Bx G8 P8 Q8 F8 B8 Nx HFU HF2
            go_wp2
            go_roundw
            case rel => exact ⟨i + 5, fu2, acc ++ [⟨rc, st, cd, tx⟩], some ⟨g7, 0, none⟩, c7, by first | rfl | exact congrArg (Value.int .i64) e9.out | go_num, by omega, by simp; omega, hfu3, HG2, HAZ2, G9, P9, by simpa using Q9, by simpa using F9, (fun g hg => by simp only [Value.ownBlock, Option.some.injEq] at hg; exact hg ▸ n8), B9⟩
            case measure => simp [intOf]; omega
    · have hlti : ¬ (i : Int) + 4 < (P.length : Int) := by omega
      have HE : Hid (q2 = (acc, (lsB P).drop i)) := by have := HGO.out; rw [HF2.out, fls_end hlt] at this; exact this.symm
      clear HGO
      have HRD2 : Hid (∀ k, P.length ≤ i + 4 + k + 2 → (k = 0 ∨ i + 4 + k + 2 ≤ P.length) → readS t.data.toList = ⟨he, tw, acc, mk (hdJ P i k)⟩) := fun k h1 h2 => by show _ = _; rw [HRD.out, HE.out, ← hdJ_end h1 h2]
      clear HE
      go_wp2_with fail
      go_loopw [13] (fun jv wz => ∃ (k : Nat) (H : ByteArray), jv = .int .i64 ((i + 4 + k : Nat) : Int) ∧ (k = 0 ∨ i + 4 + k + 2 ≤ P.length) ∧ Hid (H = mk (hdJ P i k)) ∧ Hid (Blk gp XP wz) ∧ Hid (Blk w.heap.size #[.string ⟨#[]⟩, .string ⟨#[]⟩, .slice none 0 0, .string ⟨#[]⟩] wz) ∧ Hid (Blk q #[.string he, .string tw, (.slice a4 acc.length c4), .string H] wz) ∧ Hid (Fls wz w.heap.size (.slice a4 acc.length c4) acc) ∧ Hid (Below w.heap.size w wz)) (fun jv _ => P.length - (intOf jv).toNat)
      case atStart => exact ⟨0, ⟨#[]⟩, by first | rfl | go_num | (simp), .inl rfl, (by show _ = _; rfl), Gr, Pr, Qr, Fr, Br⟩
      case round =>
        obtain ⟨wz, hwz⟩ : ∃ wz : World, wz = wr := ⟨wr, rfl⟩
        obtain ⟨k, H, rfl, hk, HH, Gz, Pz, Qz, Fz, Bz⟩ := hrel
        subst hwz
        clear Gr Pr Qr Fr Br
        obtain ⟨j, hj⟩ : ∃ j, i + 4 + k = j := ⟨_, rfl⟩
        have HJ : Hid (i + 4 + k = j) := hj
        have zH : H.size ≤ 60002 := by rw [HH.out, mk_size]; exact HHZ.out i k
        rw [hj] at hk ⊢
        clear hj
        by_cases hjl : j + 2 < P.length
        · have hjli : (j : Int) < (P.length : Int) - 2 := by omega
          have hjl2 : (j : Int) < (P.length : Int) := by omega
          have HCX : Hid (XP[j]? = some (.string P[j])) := HCE.out j (by omega)
          have HST : Hid (hdJ P i (k + 1) = hdJ P i k ++ (P[j].data.toList ++ [13, 10])) := by show _ = _; have := hdJ_step (P := P) (i := i) (k := k) (by have := HJ.out; omega); simp only [HJ.out] at this; exact this
          have zx : P[j].size ≤ 20000 := HSZ.out _ (List.getElem_mem _)
          generalize P[j] = x at *
          have q2' : (⟨#[13, 10]⟩ : ByteArray).size = 2 := rfl
          obtain ⟨s1, hs1⟩ : ∃ s1, x ++ (⟨#[13, 10]⟩ : ByteArray) = s1 := ⟨_, rfl⟩
          obtain ⟨s2, hs2⟩ : ∃ s2, H ++ s1 = s2 := ⟨_, rfl⟩
          have y1 : s1.size ≤ 20002 := by rw [← hs1, ByteArray.size_append]; omega
          have ha1 : ∀ wx : World, (Op.stringOp .add x (⟨#[13, 10]⟩ : ByteArray)).run Tryz.prog wx = .ok (.string s1) wx := fun wx => by rw [← hs1]; exact run_string_add_sum wx _ _ (by omega)
          have ha2 : ∀ wx : World, (Op.stringOp .add H s1).run Tryz.prog wx = .ok (.string s2) wx := fun wx => by rw [← hs2]; exact run_string_add_sum wx _ _ (by omega)
          have HH2 : Hid (s2 = mk (hdJ P i (k + 1))) := by show _ = _; rw [HST.out, ← hs2, ← hs1]; exact flat_cat HH.out
          clear hs1 hs2 HST HH q2'
          go_upto_region 27 with fail
          refine wp_region_held_drew (S := fun wq => wq.cell? ⟨gp, j, none⟩ = some (.string x)) (by kernel_rfl) (by simpa using (Gz.out.cell j).trans HCX.out) (fun hHeld => ?_)
          have Gz : Hid (Blk gp XP wz.drew) := Gz.out.below (Below.refl wz.heap.size wz).drew
          have Pz : Hid (Blk w.heap.size #[.string ⟨#[]⟩, .string ⟨#[]⟩, .slice none 0 0, .string ⟨#[]⟩] wz.drew) := Pz.out.below (Below.refl wz.heap.size wz).drew
          have Qz : Hid (Blk q #[.string he, .string tw, (.slice a4 acc.length c4), .string H] wz.drew) := Qz.out.below (Below.refl wz.heap.size wz).drew
          have Fz : Hid (Fls wz.drew w.heap.size (.slice a4 acc.length c4) acc) := fls_below Fz.out (Below.refl wz.heap.size wz).drew (Nat.le_refl _)
          have Bz : Hid (Below w.heap.size w wz.drew) := Bz.out.trans ((Below.refl w.heap.size wz).drew)
          generalize wz.drew = y0 at hHeld Gz Pz Qz Fz Bz ⊢
          refine wpAnyH_take (i := 0) (oi := { dst := some 121, op := Op.fieldAddr 25 (Operand.tmp 4) 3, type := 0, pos := "l5_bounce.go:128", after := #[], guard := none }) (v := .pointer (some ⟨q, 3, none⟩)) rfl (by kernel_rfl) (by kernel_rfl) (by kernel_rfl) (fun _ _ _ h => h) (Or.inl ⟨by rfl, fun wz hSw => ?_⟩) hHeld ?_
          · clear hHeld
            go_simp
          simp only [Act.put, List.setIfInBounds_toArray, List.set_cons_zero, List.set_cons_succ]
          refine wpAnyH_take (i := 2) (oi := { dst := some 123, op := Op.move (Operand.tmp 5), type := 39, pos := "l5_bounce.go:128", after := #[], guard := none }) (v := .slice (some ⟨gp, 0, none⟩) P.length cp) rfl (by kernel_rfl) (by kernel_rfl) (by kernel_rfl) (fun _ _ _ h => h) (Or.inl ⟨by rfl, fun wz hSw => ?_⟩) hHeld ?_
          · clear hHeld
            go_simp
          simp only [Act.put, List.setIfInBounds_toArray, List.set_cons_zero, List.set_cons_succ]
          refine wpAnyH_take (i := 3) (oi := { dst := some 124, op := Op.move (Operand.tmp 13), type := 3, pos := "l5_bounce.go:128", after := #[], guard := none }) (v := .int .i64 (j : Int)) rfl (by kernel_rfl) (by kernel_rfl) (by kernel_rfl) (fun _ _ _ h => h) (Or.inl ⟨by rfl, fun wz hSw => ?_⟩) hHeld ?_
          · clear hHeld
            go_simp
          simp only [Act.put, List.setIfInBounds_toArray, List.set_cons_zero, List.set_cons_succ]
          refine wpAnyH_take (i := 4) (oi := { dst := some 125, op := Op.indexAddr 39 (Operand.tmp 123) (Operand.tmp 124), type := 0, pos := "l5_bounce.go:128", after := #[{ on := 2, ground := Ground.data }, { on := 3, ground := Ground.data }], guard := none }) (v := .pointer (some ⟨gp, j, none⟩)) rfl (by kernel_rfl) (by kernel_rfl) (by kernel_rfl) (fun _ _ _ h => h) (Or.inl ⟨by rfl, fun wz hSw => ?_⟩) hHeld ?_
          · clear hHeld
            go_simp
          simp only [Act.put, List.setIfInBounds_toArray, List.set_cons_zero, List.set_cons_succ]
          refine wpAnyH_take (i := 5) (oi := { dst := some 126, op := Op.load 9 (Operand.tmp 125), type := 9, pos := "l5_bounce.go:128", after := #[{ on := 4, ground := Ground.data }], guard := none }) (v := .string x) rfl (by kernel_rfl) (by kernel_rfl) (by kernel_rfl) (fun _ _ _ h => h) (Or.inl ⟨by rfl, fun wz hSw => ?_⟩) hHeld ?_
          · clear hHeld
            go_simp
          simp only [Act.put, List.setIfInBounds_toArray, List.set_cons_zero, List.set_cons_succ]
          refine wpAnyH_take (i := 6) (oi := { dst := some 127, op := Op.binOp BinOp.add 9 (Operand.tmp 126) (Operand.const (Value.string { data := #[13, 10] })) 9, type := 9, pos := "l5_bounce.go:128", after := #[{ on := 5, ground := Ground.data }], guard := none }) (v := .string s1) rfl (by kernel_rfl) (by kernel_rfl) (by kernel_rfl) (fun _ _ _ h => h) (Or.inl ⟨by rfl, fun wz hSw => ?_⟩) hHeld ?_
          · clear hHeld
            go_simp
          simp only [Act.put, List.setIfInBounds_toArray, List.set_cons_zero, List.set_cons_succ]
          refine wpAnyH_ready (rs := [1]) (by kernel_rfl) (by simp) ?_
          refine AllReadyH.cons (o := { dst := some 122, op := Op.load 9 (Operand.tmp 121), type := 9, pos := "l5_bounce.go:128", after := #[{ on := 0, ground := Ground.data }], guard := none }) rfl (fun K hK => ?_) AllReadyH.nil
          have c3 : y0.cell? ⟨q, 3, none⟩ = some (.string H) := Qz.out.cell 3
          go_simp
          refine hK.out _ _ hHeld (fun hHeld => ?_)
          clear hK K c3
          try simp only [Act.put, List.setIfInBounds_toArray, List.set_cons_zero, List.set_cons_succ]
          refine wpAnyH_take (i := 7) (oi := { dst := some 128, op := Op.binOp BinOp.add 9 (Operand.tmp 122) (Operand.tmp 127) 9, type := 9, pos := "l5_bounce.go:128", after := #[{ on := 1, ground := Ground.data }, { on := 6, ground := Ground.data }], guard := none }) (v := .string s2) rfl (by kernel_rfl) (by kernel_rfl) (by kernel_rfl) (fun _ _ _ h => h) (Or.inl ⟨by rfl, fun wz hSw => ?_⟩) hHeld ?_
          · clear hHeld
            go_simp
          simp only [Act.put, List.setIfInBounds_toArray, List.set_cons_zero, List.set_cons_succ]
          refine wpAnyH_take (i := 8) (oi := { dst := some 129, op := Op.fieldAddr 25 (Operand.tmp 4) 3, type := 0, pos := "l5_bounce.go:128", after := #[{ on := 0, ground := Ground.phase }, { on := 1, ground := Ground.phase }, { on := 2, ground := Ground.phase }, { on := 3, ground := Ground.phase }, { on := 4, ground := Ground.phase }, { on := 5, ground := Ground.phase }, { on := 6, ground := Ground.phase }, { on := 7, ground := Ground.phase }], guard := none }) (v := .pointer (some ⟨q, 3, none⟩)) rfl (by kernel_rfl) (by kernel_rfl) (by kernel_rfl) (fun _ _ _ h => h) (Or.inl ⟨by rfl, fun wz hSw => ?_⟩) hHeld ?_
          · clear hHeld
            go_simp
          simp only [Act.put, List.setIfInBounds_toArray, List.set_cons_zero, List.set_cons_succ]
          refine wpAnyH_ready (rs := [9]) (by kernel_rfl) (by simp) ?_
          refine AllReadyH.cons (o := { dst := none, op := Op.store 9 (Operand.tmp 129) (Operand.tmp 128), type := 0, pos := "l5_bounce.go:128", after := #[{ on := 8, ground := Ground.data }, { on := 7, ground := Ground.data }, { on := 0, ground := Ground.phase }, { on := 1, ground := Ground.phase }, { on := 2, ground := Ground.phase }, { on := 3, ground := Ground.phase }, { on := 4, ground := Ground.phase }, { on := 5, ground := Ground.phase }, { on := 6, ground := Ground.phase }, { on := 7, ground := Ground.phase }], guard := none }) rfl (fun K hK => ?_) AllReadyH.nil
          have c3 : y0.cell? ⟨q, 3, none⟩ = some (.string H) := Qz.out.cell 3
          have f3 := Qz.out.free 3
          clear hHeld
          go_simp
          generalize hV : y0.setCell _ _ = y8
          have Gn : Hid (Blk gp XP y8) := by show Blk _ _ _; rw [← hV]; exact Gz.out.other (by omega)
          have Pn : Hid (Blk w.heap.size #[.string ⟨#[]⟩, .string ⟨#[]⟩, .slice none 0 0, .string ⟨#[]⟩] y8) := by show Blk _ _ _; rw [← hV]; exact Pz.out.other (by omega)
          have Qn : Hid (Blk q #[.string he, .string tw, (.slice a4 acc.length c4), .string s2] y8) := by show Blk _ _ _; rw [← hV]; exact Qz.out.set (i := 3) (by simp)
          have Fn : Hid (Fls y8 w.heap.size (.slice a4 acc.length c4) acc) := by show Fls _ _ _ _; rw [← hV]; exact fls_setO Fz.out (fun g hg => (Nr.out g hg).2.2) _
          have Bn : Hid (Below w.heap.size w y8) := by show Below _ _ _; rw [← hV]; exact Bz.out.setCell (p := ⟨q, 3, none⟩) (by show w.heap.size ≤ q; omega) _
          clear hV c3 f3
          refine hK.out _ _ ((Gn.out.cell j).trans HCX.out) (fun hHeld => ?_)
          clear hK K hHeld
          try simp only [Act.put, List.setIfInBounds_toArray, List.set_cons_zero, List.set_cons_succ]
          refine wpAnyH_done (by kernel_rfl) ?_ _
          have e9 : Hid ((j : Int) + 1 = ((i + 4 + (k + 1) : Nat) : Int)) := by have := HJ.out; show _ = _; omega
          have hjn : j + 1 + 2 ≤ P.length := by omega
          go_simp
          go_wp2
          go_roundw
          case rel => exact ⟨k + 1, s2, congrArg (Value.int .i64) e9.out, .inr (by have := HJ.out; omega), HH2, Gn, Pn, Qn, Fn, Bn⟩
          case measure => simp [intOf]; omega
        · have hjli : ¬ (j : Int) < (P.length : Int) - 2 := by omega
          have HFI : Hid (readS t.data.toList = ⟨he, tw, acc, H⟩) := by show _ = _; rw [HH.out]; exact HRD2.out k (by have := HJ.out; omega) (by rcases hk with h | h; exact .inl h; exact .inr (by have := HJ.out; omega))
          have x0 : wz.cell? ⟨q, 0, none⟩ = some (.string he) := Qz.out.cell 0
          have x1 : wz.cell? ⟨q, 1, none⟩ = some (.string tw) := Qz.out.cell 1
          have x2 : wz.cell? ⟨q, 2, none⟩ = some (.slice a4 acc.length c4) := Qz.out.cell 2
          have x3 : wz.cell? ⟨q, 3, none⟩ = some (.string H) := Qz.out.cell 3
          have HMB : Hid (Calls Tryz.prog 6 #[.agg #[.string he, .string tw, (.slice a4 acc.length c4), .string H]] wz fun e w' => e = .returned (.string (makeS ⟨he, tw, acc, H⟩)) ∧ Below wz.heap.size wz w') := specMake ⟨he, tw, acc, H⟩ (.slice a4 acc.length c4) w.heap.size wz Fz.out ⟨by show he.size ≤ _; omega, by show tw.size ≤ _; omega, by show H.size ≤ _; omega, HAZ.out, by show acc.length ≤ _; omega⟩
          rw [HFI.out] at HOKh
          generalize makeS ⟨he, tw, acc, H⟩ = MT at *
          go_wp2_with fail
          refine HMB.out.mono ?_
          rintro e wf ⟨rfl, bf⟩
          have Pf : Hid (Blk w.heap.size #[.string ⟨#[]⟩, .string ⟨#[]⟩, .slice none 0 0, .string ⟨#[]⟩] wf) := Pz.out.below bf
          have Qf : Hid (Blk q #[.string he, .string tw, (.slice a4 acc.length c4), .string H] wf) := Qz.out.below bf
          have Bf : Hid (Below w.heap.size w wf) := Bz.out.trans (bf.mono Bz.out.size)
          clear bf HMB x0 x1 x2 x3 Pz Qz Bz Gz Fz
          have x0 : wf.cell? ⟨q, 0, none⟩ = some (.string he) := Qf.out.cell 0
          have x1 : wf.cell? ⟨q, 1, none⟩ = some (.string tw) := Qf.out.cell 1
          have x2 : wf.cell? ⟨q, 2, none⟩ = some (.slice a4 acc.length c4) := Qf.out.cell 2
          have x3 : wf.cell? ⟨q, 3, none⟩ = some (.string H) := Qf.out.cell 3
          by_cases hmt : MT = t
          · have hmb : (MT.toList == t.toList) = true := by rw [hmt]; simp
            have HO : ob = true := by rw [HOKh.out, decide_eq_true hmt]
            clear hmt
            have p0 : wf.cell? ⟨w.heap.size, 0, none⟩ = some (.string ⟨#[]⟩) := Pf.out.cell 0
            have p1 : wf.cell? ⟨w.heap.size, 1, none⟩ = some (.string ⟨#[]⟩) := Pf.out.cell 1
            have p2 : wf.cell? ⟨w.heap.size, 2, none⟩ = some (.slice none 0 0) := Pf.out.cell 2
            have p3 : wf.cell? ⟨w.heap.size, 3, none⟩ = some (.string ⟨#[]⟩) := Pf.out.cell 3
            have t0 := Pf.out.free 0
            have t1 := Pf.out.free 1
            have t2 := Pf.out.free 2
            have t3 := Pf.out.free 3
            go_wp2
            generalize hV : (((wf.setCell ⟨w.heap.size, 0, none⟩ (.string he)).setCell ⟨w.heap.size, 1, none⟩ (.string tw)).setCell ⟨w.heap.size, 2, none⟩ (.slice a4 acc.length c4)).setCell ⟨w.heap.size, 3, none⟩ (.string H) = Wf
            have PF : Blk w.heap.size #[(.string he), (.string tw), (.slice a4 acc.length c4), (.string H)] Wf := by rw [← hV]; exact blk_set4 Pf.out
            have OF : Below w.heap.size w Wf := by rw [← hV]; exact Bf.out.trans (off_set4 (Nat.le_refl _)).2
            clear hV
            have r0 : Wf.cell? ⟨w.heap.size, 0, none⟩ = some (.string he) := PF.cell 0
            have r1 : Wf.cell? ⟨w.heap.size, 1, none⟩ = some (.string tw) := PF.cell 1
            have r2 : Wf.cell? ⟨w.heap.size, 2, none⟩ = some (.slice a4 acc.length c4) := PF.cell 2
            have r3 : Wf.cell? ⟨w.heap.size, 3, none⟩ = some (.string H) := PF.cell 3
            refine bodyPost_ret (v := .tuple #[.agg #[(.string he), (.string tw), (.slice a4 acc.length c4), (.string H)], .bool true]) (by simp [results, Tryz.results9, go_sem, r0, r1, r2, r3]) rfl ?_
            rw [HO]
            exact ⟨⟨_, _, _, _, _, _, rfl⟩, OF⟩
          · have hmb : (MT.toList == t.toList) = false := strNe hmt
            have HO : ob = false := by rw [HOKh.out, decide_eq_false hmt]
            clear hmt
            have p0 : wf.cell? ⟨w.heap.size, 0, none⟩ = some (.string ⟨#[]⟩) := Pf.out.cell 0
            have p1 : wf.cell? ⟨w.heap.size, 1, none⟩ = some (.string ⟨#[]⟩) := Pf.out.cell 1
            have p2 : wf.cell? ⟨w.heap.size, 2, none⟩ = some (.slice none 0 0) := Pf.out.cell 2
            have p3 : wf.cell? ⟨w.heap.size, 3, none⟩ = some (.string ⟨#[]⟩) := Pf.out.cell 3
            have t0 := Pf.out.free 0
            have t1 := Pf.out.free 1
            have t2 := Pf.out.free 2
            have t3 := Pf.out.free 3
            go_wp2
            generalize hV : (((wf.setCell ⟨w.heap.size, 0, none⟩ (.string ⟨#[]⟩)).setCell ⟨w.heap.size, 1, none⟩ (.string ⟨#[]⟩)).setCell ⟨w.heap.size, 2, none⟩ (.slice none 0 0)).setCell ⟨w.heap.size, 3, none⟩ (.string ⟨#[]⟩) = Wf
            have PF : Blk w.heap.size #[(.string ⟨#[]⟩), (.string ⟨#[]⟩), (.slice none 0 0), (.string ⟨#[]⟩)] Wf := by rw [← hV]; exact blk_set4 Pf.out
            have OF : Below w.heap.size w Wf := by rw [← hV]; exact Bf.out.trans (off_set4 (Nat.le_refl _)).2
            clear hV
            have r0 : Wf.cell? ⟨w.heap.size, 0, none⟩ = some (.string ⟨#[]⟩) := PF.cell 0
            have r1 : Wf.cell? ⟨w.heap.size, 1, none⟩ = some (.string ⟨#[]⟩) := PF.cell 1
            have r2 : Wf.cell? ⟨w.heap.size, 2, none⟩ = some (.slice none 0 0) := PF.cell 2
            have r3 : Wf.cell? ⟨w.heap.size, 3, none⟩ = some (.string ⟨#[]⟩) := PF.cell 3
            refine bodyPost_ret (v := .tuple #[.agg #[(.string ⟨#[]⟩), (.string ⟨#[]⟩), (.slice none 0 0), (.string ⟨#[]⟩)], .bool false]) (by simp [results, Tryz.results9, go_sem, r0, r1, r2, r3]) rfl ?_
            rw [HO]
            exact ⟨⟨_, _, _, _, _, _, rfl⟩, OF⟩
end Go.Proofs.YtlolnfpfipnfeaaGreatDoor
