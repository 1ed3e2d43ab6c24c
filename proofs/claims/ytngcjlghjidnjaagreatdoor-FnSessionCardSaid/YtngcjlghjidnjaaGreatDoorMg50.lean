import Derived.Test.YtngcjlghjidnjaaGreatDoorMg49
import Derived.Test.YtngcjlghjidnjaaGreatDoorMg47
import Derived.Test.YtngcjlghjidnjaaGreatDoorMg46
import Derived.Test.YtngcjlghjidnjaaGreatDoorMg21
namespace Go.Proofs.YtngcjlghjidnjaaGreatDoor
open Go.ChangeShapes Go.WideShapes Go.ChangeAt Go.RowKit
attribute [local go_sem ↓] Go.wp_at_zero Go.wp_at_succ

set_option maxHeartbeats 1000000 in
set_option maxRecDepth 100000 in
theorem lawBegins (s t : ByteArray) (w : World) : Calls Tryz.prog 14 #[.string s, .string t] w fun e w' => e = .returned (.bool (begB s t)) ∧ w' = w := by
  by_cases h : t.size ≤ s.size
  · have hi : (t.size : Int) ≤ s.size := by omega
    by_cases h2 : s.extract 0 t.size = t
    · have e : begB s t = true := decide_eq_true ⟨h, h2⟩
      rw [e]
      go_enter Tryz.func14, Tryz.ntmps14
      go_wp2
      go_ret
      exact ⟨rfl, rfl⟩
    · have e : begB s t = false := decide_eq_false (fun c => h2 c.2)
      have hb : ((s.extract 0 t.size).toList == t.toList) = false := str_ne' h2
      rw [e]
      go_enter Tryz.func14, Tryz.ntmps14
      go_wp2
      go_ret
      exact ⟨rfl, rfl⟩
  · have hi : ¬ (t.size : Int) ≤ s.size := by omega
    have e : begB s t = false := decide_eq_false (fun c => h c.1)
    rw [e]
    go_enter Tryz.func14, Tryz.ntmps14
    go_wp2
    go_ret
    exact ⟨rfl, rfl⟩
set_option maxHeartbeats 4000000 in
set_option maxRecDepth 100000 in
theorem lawAllOk (s : Sn) (u1 u2 u3 rv : Value) (L : List ByteArray) (sent line : ByteArray) (lo : Nat) (w : World) (h : SV w lo u1 u2 u3 s) (hA : ArgS w rv L) (hl : LenIn w) (hV : s.V.length = s.R.length) (hT : s.T.length = s.R.length) (hR : s.R = L) (h20 : L.length ≤ 20) (hLs : ∀ x ∈ L, x.size ≤ 1000)
    (hz : line.size ≤ 1048576) (hok : ∀ i (hi : i < L.length), (s.V.getD i vd0).1 = 1 → sent = line ∧ s.T.getD i false = true ∧ Lib.index line.data.toList (cmdB 4 L[i]).data.toList ≠ -1 ∧ 1 ≤ (cmdB 4 L[i]).size) :
    Calls Tryz.prog 15 #[.agg #[.int .i64 s.ph, .string s.buf, .string s.he, .string s.fr, .string s.bo, u1, .int .i64 (s.nx : Int), u2, u3], rv, .string sent, .string line] w fun e w' => e = .returned (.bool true) ∧ Below w.heap.size w w' := by
  obtain ⟨p1, q1, hp1⟩ := strs_form2 h.1
  obtain ⟨p2, q2, hp2⟩ := bls_form h.2.1
  obtain ⟨p3, q3, hp3⟩ := vds_form4 h.2.2
  obtain ⟨ra, rc, hrv⟩ := hA.form
  subst hp1 hp2 hp3 hrv
  have H : Hid (SV w lo _ _ _ s) := h
  have HA : Hid (ArgS w (.slice ra L.length rc) L) := hA
  have HL : Hid (LenIn w) := hl
  have HOK : Hid _ := hok
  have HLs : Hid (∀ x ∈ L, x.size ≤ 1000) := hLs
  have hVl : s.V.length = L.length := by rw [hV, hR]
  have hTl : s.T.length = L.length := by rw [hT, hR]
  have HVl : Hid (s.V.length = L.length) := hVl
  have HTl : Hid (s.T.length = L.length) := hTl
  have hV20 : s.V.length ≤ 20 := by omega
  clear h hA hl hok hLs hV hT hR hVl hTl
  go_enter Tryz.func15, Tryz.ntmps15
  go_wp2_with fail
  generalize hW : World.alloc _ _ = W
  have HB : Hid (SB w.heap.size s (.slice p1 s.R.length q1) (.slice p2 s.T.length q2) (.slice p3 s.V.length q3) W) := by show SB _ _ _ _ _ _; rw [← hW]; exact Blk.new w _ _
  have b0 : Below w.heap.size w W := by rw [← hW]; exact below1 _ _
  clear hW
  obtain ⟨_, _, _, _, _, _, _, d7, d8⟩ := HB.out.cells
  clear d7
  go_loopw [9, 10, 14] (fun _ _ iv wr => ∃ k : Nat, k ≤ s.V.length ∧ iv = .int .i64 k ∧ Hid (Below W.heap.size W wr)) (fun _ _ iv _ => s.V.length - (intOf iv).toNat)
  case atStart => exact ⟨0, Nat.zero_le _, rfl, (Below.refl _ _ : Below _ _ _)⟩
  case round =>
    obtain ⟨k, hk, rfl, HBr⟩ := hrel
    clear d8
    have br : Below w.heap.size w wr := b0.trans (HBr.out.mono b0.size)
    by_cases hlt : k < s.V.length
    · have TA0 := vds_below H.out.2.2 br (Nat.le_refl _)
      obtain ⟨g3, rfl⟩ : ∃ g, p3 = some ⟨g, 0, none⟩ := by
        rcases TA0.cases with ⟨_, e⟩ | ⟨g, cap, e, _⟩
        · rw [e] at hlt; exact absurd hlt (by simp)
        · injection e with e _; exact ⟨g, e⟩
      have VA := TA0.at.1
      obtain ⟨c0, c1, c2⟩ := VA.cell k hlt
      have l3 := VA.lt
      have hkL : k < L.length := by rw [← HVl.out]; exact hlt
      by_cases h1 : s.V[k].1 = 1
      · obtain ⟨e1, e2, e3, e4⟩ := HOK.out k hkL (by rw [List.getD_eq_getElem?_getD, List.getElem?_eq_getElem hlt]; exact h1)
        subst e1
        rw [h1] at c0
        have hkT : k < s.T.length := by rw [HTl.out]; exact hkL
        have TB0 := bls_below H.out.2.1 br (Nat.le_refl _)
        obtain ⟨g2, rfl⟩ : ∃ g, p2 = some ⟨g, 0, none⟩ := by
          rcases TB0.cases with ⟨_, e⟩ | ⟨g, cap, e, _⟩
          · rw [e] at hkT; exact absurd hkT (by simp)
          · injection e with e _; exact ⟨g, e⟩
        have ct := TB0.at.1.cell k hkT
        have l2 := TB0.at.1.lt
        have e5 : s.T[k] = true := by rw [List.getD_eq_getElem?_getD, List.getElem?_eq_getElem hkT] at e2; exact e2
        rw [e5] at ct
        obtain ⟨gr, off, rfl, lr, cr⟩ : ∃ gr off : Nat, ra = some ⟨gr, off, none⟩ ∧ gr < wr.heap.size ∧ wr.cell? ⟨gr, off + k, none⟩ = some (.string L[k]) := by
          rcases (HA.out.below br).2.2 with ⟨e, _⟩ | ⟨b, off, cap, e, hlt2, hc⟩
          · rw [e] at hkL; exact absurd hkL (by simp)
          · injection e with e _; exact ⟨b, off, e, hlt2, hc k hkL⟩
        have hls := HLs.out L[k] (List.getElem_mem hkL)
        have HIX : Hid (Lib.index sent.data.toList (cmdB 4 L[k]).data.toList ≠ -1) := e3
        have hge := Lib.index_ge sent.data.toList (cmdB 4 L[k]).data.toList
        obtain ⟨_, _, _, _, _, _, _, d7, _⟩ := (SB.below HB.out HBr.out).cells
        have lb : w.heap.size < wr.heap.size := (SB.below HB.out HBr.out).lt
        have hkTi : (k : Int) < s.T.length := by omega
        have hkLi : (k : Int) < L.length := by omega
        have hcs := cmd_size 4 L[k]
        have HCm : Hid (∀ wx, Below w.heap.size w wx → Calls Tryz.prog 12 #[.int .i64 4, .string L[k]] wx fun e w' => e = .returned (.string (cmdB 4 L[k])) ∧ Below wx.heap.size wx w') := fun wx hb => implCommand 4 _ wx (len_below HL.out hb) (by omega)
        generalize s.V[k] = X at c0 c1 c2 h1
        generalize L[k] = Y at cr e4 HIX hge hls hcs HCm
        clear VA TA0 TB0 e2 e3 h1 e5
        go_wp2_with fail
        generalize hW1 : World.alloc _ _ = W1
        have b1 : Below wr.heap.size wr W1 := by rw [← hW1]; exact below1 _ _
        have bw1 : Below w.heap.size w W1 := br.trans (b1.mono br.size)
        refine (HCm.out W1 bw1).mono ?_
        rintro e w2 ⟨rfl, hb2⟩
        generalize cmdB 4 Y = C at e4 HIX hge hcs ⊢
        go_wp2_with fail
        refine (lawAt sent C w2 hz e4 (by omega)).mono ?_
        rintro e w3 ⟨rfl, hb3⟩
        have hnn : ¬ Lib.index sent.data.toList C.data.toList < 0 := by have := HIX.out; omega
        generalize Lib.index sent.data.toList C.data.toList = J at hnn
        clear HIX hge
        go_wp2
        go_roundw
        case rel =>
          have b13 : Below wr.heap.size wr w3 := (b1.trans (hb2.mono b1.size)).trans (hb3.mono (Nat.le_trans b1.size hb2.size))
          exact ⟨k + 1, by omega, by go_num, HBr.out.trans (b13.mono HBr.out.size)⟩
        case measure => simp [intOf]; omega
      · have h1b : (s.V[k].1 == 1) = false := beq_eq_false_iff_ne.2 h1
        generalize s.V[k] = X at c0 c1 c2 h1 h1b
        clear VA TA0
        go_wp2
        go_roundw
        case rel => exact ⟨k + 1, by omega, by go_num, HBr.out.alloc HBr.out.size _⟩
        case measure => simp [intOf]; omega
    · go_wp2
      go_ret
      exact ⟨rfl, br⟩
end Go.Proofs.YtngcjlghjidnjaaGreatDoor
namespace Go.Proofs.YtngcjlghjidnjaaGreatDoor
open Go.ChangeShapes Go.WideShapes Go.ChangeAt Go.RowKit
attribute [local go_sem ↓] Go.wp_at_zero Go.wp_at_succ

set_option maxHeartbeats 4000000 in
set_option maxRecDepth 100000 in
theorem drawOpen (cv : Value) (B : List UInt8) (w : World) (hC : CodeAt w cv B) :
    Calls Tryz.prog 6 #[cv] w fun e w' => (∃ (he fr bo : ByteArray) (a : Option Addr) (k : Nat) (L : List ByteArray), he.size ≤ 200 ∧ fr.size ≤ 301 ∧ bo.size ≤ 4001 ∧ L.length ≤ 22 ∧ (∀ s ∈ L, s.size ≤ 300) ∧ e = .returned (.tuple #[.string he, .string fr, .slice a L.length k, .string bo]) ∧ Strs w' w.heap.size (.slice a L.length k) L) ∧ Below w.heap.size w w' := by
  obtain ⟨ca, cc, hcv⟩ := hC.form
  obtain ⟨i0, hi, hz0, hz1, hz2⟩ := info_parts infoStr
  have HCo : Hid (CodeAt w cv B) := hC
  subst hcv
  clear hC
  go_enter Tryz.func6, Tryz.ntmps6
  go_wp2_with fail
  generalize hW : World.alloc _ _ = W
  have H0 : Hid (RdAt W w.heap.size (.slice ca B.length cc) B 0) := by show RdAt _ _ _ _ _; rw [← hW]; exact rd_new w _ B HCo.out
  have b0 : Below w.heap.size w W := by rw [← hW]; exact below1 _ _
  have z0 : w.heap.size < W.heap.size := H0.out.2.2.2.1
  clear hW
  refine (rdNext _ 0 _ B W H0.out).mono ?_
  rintro e w1 ⟨rfl, h1, ho1⟩
  have hc := nx_lt B 0
  generalize nx B 0 = c at hc ⊢
  generalize px B 0 = q1 at h1
  have H1 : Hid (RdAt w1 w.heap.size (.slice ca B.length cc) B q1) := h1
  have b1 : Below w.heap.size w w1 := b0.trans (ho1.belowAt (Nat.le_refl _) b0.size)
  have z1 := ho1.size
  clear h1 ho1
  go_wp2_with fail
  refine (rdDomX _ q1 _ B w1 H1.out).mono ?_
  rintro e w2 ⟨rfl, h2, ho2⟩
  have hds := domF_size B q1
  generalize domF B q1 = D at h2 hds ⊢
  have H2 : Hid (RdAt w2 w.heap.size (.slice ca B.length cc) B D.2) := h2
  have b2 : Below w.heap.size w w2 := b1.trans (ho2.belowAt (Nat.le_refl _) b1.size)
  have z2 := ho2.size
  clear h2 ho2 H1
  go_wp2_with fail
  refine (rdFromX _ D.2 _ B w2 H2.out).mono ?_
  rintro e w3 ⟨rfl, h3, ho3⟩
  have hfs := fromF_size B D.2
  generalize fromF B D.2 = F at h3 hfs ⊢
  have H3 : Hid (RdAt w3 w.heap.size (.slice ca B.length cc) B F.2) := h3
  have b3 : Below w.heap.size w w3 := b2.trans (ho3.belowAt (Nat.le_refl _) b2.size)
  have z3 := ho3.size
  clear h3 ho3 H2
  go_wp2_with fail
  refine (rdRcptsX _ F.2 _ B w3 H3.out).mono ?_
  rintro e w4 ⟨⟨v, rfl, S4⟩, h4, ho4⟩
  have hrl := rcF_len B F.2
  have hrs := rcF_size B F.2
  generalize rcF B F.2 = L at h4 S4 hrl hrs
  have HRS : Hid (∀ x ∈ L.1, x.size ≤ 300) := hrs
  obtain ⟨av, ac, hv⟩ := strs_form2 S4
  subst hv
  have HS4 : Hid (Strs w4 w3.heap.size (.slice av L.1.length ac) L.1) := S4
  have H4 : Hid (RdAt w4 w.heap.size (.slice ca B.length cc) B L.2) := h4
  have b4 : Below w.heap.size w w4 := b3.trans (ho4.belowAt (Nat.le_refl _) b3.size)
  have z4 := ho4.size
  clear h4 ho4 H3 S4 hrs
  go_wp2_with fail
  refine (rdBodyX _ L.2 _ B w4 H4.out).mono ?_
  rintro e w5 ⟨rfl, h5, ho5⟩
  have hbs := bodF_size B L.2
  generalize bodF B L.2 = Y at h5 hbs ⊢
  have HS5 : Hid (Strs w5 w3.heap.size (.slice av L.1.length ac) L.1) := strs_offR HS4.out ho5 (by omega)
  have b5 : Below w.heap.size w w5 := b4.trans (ho5.belowAt (Nat.le_refl _) b4.size)
  have z5 := ho5.size
  clear h5 ho5 HS4 H4
  have HSw : Hid (Strs w5 w.heap.size (.slice av L.1.length ac) L.1) := strs_le HS5.out (by omega)
  have e64 : (⟨#[64]⟩ : ByteArray).size = 1 := rfl
  have e120 : (⟨#[120]⟩ : ByteArray).size = 1 := rfl
  obtain ⟨m, hm, hm20⟩ : ∃ m : Nat, (c : Int) % 20 = (m : Int) ∧ m < 20 := ⟨c % 20, by omega, by omega⟩
  by_cases m5 : 5 ≤ m
  · have a0 : ((m : Int) == 0) = false := beq_eq_false_iff_ne.2 (by omega)
    have a1 : ((m : Int) == 1) = false := beq_eq_false_iff_ne.2 (by omega)
    have a2 : ((m : Int) == 2) = false := beq_eq_false_iff_ne.2 (by omega)
    have a3 : ((m : Int) == 3) = false := beq_eq_false_iff_ne.2 (by omega)
    have a4 : ((m : Int) == 4) = false := beq_eq_false_iff_ne.2 (by omega)
    go_wp2
    refine bodyPost_ret (v := .tuple #[.string D.1, .string F.1, .slice av L.1.length ac, .string Y.1]) (by simp [results, Tryz.results6, go_sem]) rfl ?_
    exact ⟨⟨D.1, F.1, Y.1, av, ac, L.1, hds, by omega, by omega, by omega, HRS.out, rfl, HSw.out⟩, b5⟩
  · have mm : m = 0 ∨ m = 1 ∨ m = 2 ∨ m = 3 ∨ m = 4 := by omega
    rcases mm with rfl | rfl | rfl | rfl | rfl
    · have hmk : (c : Int) % 20 = 0 := by omega
      clear hm
      go_wp2
      refine bodyPost_ret (v := .tuple #[.string ⟨#[]⟩, .string F.1, .slice av L.1.length ac, .string Y.1]) (by simp [results, Tryz.results6, go_sem]) rfl ?_
      exact ⟨⟨⟨#[]⟩, F.1, Y.1, av, ac, L.1, by decide, by omega, by omega, by omega, HRS.out, rfl, HSw.out⟩, b5⟩
    · have hmk : (c : Int) % 20 = 1 := by omega
      clear hm
      go_wp2
      refine bodyPost_ret (v := .tuple #[.string D.1, .string (F.1 ++ ⟨#[64]⟩), .slice av L.1.length ac, .string Y.1]) (by simp [results, Tryz.results6, go_sem]) rfl ?_
      exact ⟨⟨D.1, F.1 ++ ⟨#[64]⟩, Y.1, av, ac, L.1, hds, by rw [ByteArray.size_append]; omega, by omega, by omega, HRS.out, rfl, HSw.out⟩, b5⟩
    · have hmk : (c : Int) % 20 = 2 := by omega
      clear hm
      go_wp2
      refine bodyPost_ret (v := .tuple #[.string D.1, .string F.1, .slice none 0 0, .string Y.1]) (by simp [results, Tryz.results6, go_sem]) rfl ?_
      exact ⟨⟨D.1, F.1, Y.1, none, 0, [], hds, by omega, by omega, by decide, (fun s hs => absurd hs List.not_mem_nil), rfl, World.ownsRow_nil _ _ _ _⟩, b5⟩
    · have hmk : (c : Int) % 20 = 3 := by omega
      clear hm
      have hown' : w5.ownsRow w3.heap.size 9 1 (.slice av L.1.length ac) L.1.length (L.1.map Value.string) := HS5.out
      have hlos := strs_lo HS5.out
      go_wp2_with (at_builtin; refine wpList_append_lies _ rfl _ _ 23 rfl w3.heap.size 9 i0 (.string ⟨#[]⟩) 1 16 Tryz.underlying23 hi hz0 hz1 hz2 rfl (by decide) _ _ _ rfl (hown'.alloc _) ⟨w5.heap.size, 0, none⟩ 1 1 [.string ⟨#[110, 111, 98, 111, 100, 121]⟩] rfl rfl ?c1 ?c2 ?c3 ?c4 ?c5 ?c6 (w5.heap.size + 1) ?c7 ?_)
      case c1 =>
        intro j u hj
        match j, hj with
        | 0, hj =>
          simp at hj; subst hj
          simp only [Addr.add, if_pos]
          exact World.cell?_alloc_mark w5 _ _ _ 0
      case c2 => intro u hu; simp at hu; subst hu; rfl
      case c3 => decide
      case c4 => unfold maxLen; omega
      case c5 => omega
      case c6 => simp; omega
      case c7 => simp
      intro g cap w6 hown6 hgrow hat hlt6
      have HS6 : Hid (Strs w6 w3.heap.size (.slice (some ⟨g, 0, none⟩) (L.1.length + 1) cap) (L.1 ++ [⟨#[110, 111, 98, 111, 100, 121]⟩])) := strs_snoc hown6
      have hb6 : Below w3.heap.size w5 w6 := ((Below.refl _ w5).alloc (by omega) _).grown hgrow (by simp; omega) hlos
      have b6 : Below w.heap.size w w6 := b5.trans (hb6.mono (by omega))
      clear hown6 hgrow hat hown' hlos
      have hl6 : (L.1 ++ [(⟨#[110, 111, 98, 111, 100, 121]⟩ : ByteArray)]).length = L.1.length + 1 := by simp
      go_wp2
      refine bodyPost_ret (v := .tuple #[.string D.1, .string F.1, .slice (some ⟨g, 0, none⟩) (L.1.length + 1) cap, .string Y.1]) (by simp [results, Tryz.results6, go_sem]) rfl ?_
      refine ⟨⟨D.1, F.1, Y.1, some ⟨g, 0, none⟩, cap, L.1 ++ [⟨#[110, 111, 98, 111, 100, 121]⟩], hds, by omega, by omega, by omega, ?_, by rw [hl6], by rw [hl6]; exact strs_le HS6.out (by omega)⟩, b6⟩
      intro s hs
      rcases List.mem_append.1 hs with e | e
      · exact HRS.out s e
      · rw [List.mem_singleton.1 e]; decide
    · have hmk : (c : Int) % 20 = 4 := by omega
      clear hm
      go_wp2
      refine bodyPost_ret (v := .tuple #[.string D.1, .string F.1, .slice av L.1.length ac, .string (Y.1 ++ ⟨#[120]⟩)]) (by simp [results, Tryz.results6, go_sem]) rfl ?_
      exact ⟨⟨D.1, F.1, Y.1 ++ ⟨#[120]⟩, av, ac, L.1, hds, by omega, by rw [ByteArray.size_append]; omega, by omega, HRS.out, rfl, HSw.out⟩, b5⟩
end Go.Proofs.YtngcjlghjidnjaaGreatDoor
namespace Go.Proofs.YtngcjlghjidnjaaGreatDoor
open Go.ChangeShapes Go.WideShapes Go.ChangeAt Go.RowKit
attribute [local go_sem ↓] Go.wp_at_zero Go.wp_at_succ


set_option maxHeartbeats 2000000 in
set_option maxRecDepth 100000 in
theorem implOpen (he fr bo : ByteArray) (v : Value) (L : List ByteArray) (w : World) (h : ArgS w v L) (hh : he.size ≤ 1048576) (hf : fr.size ≤ 1048576) (hs : ∀ s ∈ L, s.size ≤ 1048576) (hbo : bo.size ≤ 1048576) (hl : LenIn w) :
    Calls Tryz.prog 8 #[.string he, .string fr, v, .string bo] w fun e w' => OpenPost he fr bo L w e w' := by
  have HL : Hid (LenIn w) := hl
  have HA : Hid (ArgS w v L) := h
  have HS : Hid (∀ s ∈ L, s.size ≤ 1048576) := hs
  obtain ⟨a, c, rfl⟩ := h.form
  clear h hs hl
  have hd : domOk he = false ∨ domOk he = true := by cases domOk he <;> simp
  rcases hd with hd | hd
  · go_enter Tryz.func8, Tryz.ntmps8
    go_wp2_with fail
    refine (implDomain he _ (len_below HL.out (below1 _ _)) hh).mono ?_
    rw [hd]
    rintro e w1 ⟨rfl, hb1⟩
    obtain ⟨g0, g1, g2, g3, g4, g5, g6, g7, g8, f0, f1, f2, f3, f4, f5, f6, f7, f8, hrz⟩ := resZ_of (by simpa using hb1)
    go_wp2
    refine bodyPost_ret (v := .agg #[.int .i64 9, .string ⟨#[]⟩, .string ⟨#[]⟩, .string ⟨#[]⟩, .string ⟨#[]⟩, .slice none 0 0, .int .i64 0, .slice none 0 0, .slice none 0 0]) (by simp [results, Tryz.results8, go_sem, g0, g1, g2, g3, g4, g5, g6, g7, g8]) rfl (open_no (by unfold openOk; rw [hd]; rfl) ?_)
    repeat (refine Below.setCell ?_ (by simp) _)
    exact (below1 w _).trans (hb1.mono (by simp))
  · go_enter Tryz.func8, Tryz.ntmps8
    go_wp2_with fail
    refine (implDomain he _ (len_below HL.out (below1 _ _)) hh).mono ?_
    rw [hd]
    rintro e w1 ⟨rfl, hb1⟩
    have b1 : Below w.heap.size w w1 := (below1 w _).trans (hb1.mono (by simp))
    go_wp2_with fail
    refine (implMail fr bo _ L _ (HA.out.below b1) hf HS.out hbo (len_below HL.out b1)).mono ?_
    rintro e w2 ⟨rfl, hb2⟩
    have b2 : Below w.heap.size w w2 := b1.trans (hb2.mono b1.size)
    have b02 := hb1.trans (hb2.mono hb1.size)
    cases hm : (whomN fr L && bodyOk bo)
    · obtain ⟨g0, g1, g2, g3, g4, g5, g6, g7, g8, f0, f1, f2, f3, f4, f5, f6, f7, f8, hrz⟩ := resZ_of (by simpa using b02)
      go_wp2
      refine bodyPost_ret (v := .agg #[.int .i64 9, .string ⟨#[]⟩, .string ⟨#[]⟩, .string ⟨#[]⟩, .string ⟨#[]⟩, .slice none 0 0, .int .i64 0, .slice none 0 0, .slice none 0 0]) (by simp [results, Tryz.results8, go_sem, g0, g1, g2, g3, g4, g5, g6, g7, g8]) rfl (open_no (by unfold openOk; rw [hm, Bool.and_false]) ?_)
      repeat (refine Below.setCell ?_ (by simp) _)
      exact b2
    · have hw : 1 ≤ L.length ∧ L.length ≤ 20 := by
        unfold whomN at hm
        simp only [Bool.and_eq_true, decide_eq_true_eq] at hm
        exact ⟨hm.1.2.1, hm.1.2.2.1⟩
      obtain ⟨b, off, cap, hv, hbw, hcell⟩ := HA.out.some hw.1
      injection hv with hv1 hv2 hv3
      subst hv1 hv3
      obtain ⟨j0, hj, hy0, hy1, hy2⟩ := info_parts infoBool
      obtain ⟨k0, hk, hx0, hx1, hx2⟩ := info_parts infoVd
      obtain ⟨n, hn⟩ : ∃ n, L.length = n := ⟨_, rfl⟩
      have hmkB : ∀ wx : World, (Instr.makeSlice 26 (.int .i64 (n : Int)) (.int .i64 (n : Int))).run Tryz.prog wx = .ok (.slice (some ⟨wx.heap.size, 0, none⟩) n n) (wx.alloc (.cells (madeCells (Value.bool false).cells n) 4)) := by
        intro wx
        have e := run_make (P := Tryz.prog) wx 26 4 j0 (.bool false) Tryz.underlying26 hj hy0 .i64 .i64 (n : Int) (n : Int) (by omega) (by omega) (by rw [hy2]; omega) (by omega)
        simpa [hy1] using e
      have hmkV : ∀ wx : World, (Instr.makeSlice 27 (.int .i64 (n : Int)) (.int .i64 (n : Int))).run Tryz.prog wx = .ok (.slice (some ⟨wx.heap.size, 0, none⟩) n n) (wx.alloc (.cells (madeCells zVd.cells (n * 3)) 37)) := by
        intro wx
        have e := run_make (P := Tryz.prog) wx 27 37 k0 zVd Tryz.underlying27 hk hx0 .i64 .i64 (n : Int) (n : Int) (by omega) (by omega) (by rw [hx2]; omega) (by omega)
        simpa [hx1] using e
      obtain ⟨CB, HCB⟩ : ∃ CB, Hid (madeCells (Value.bool false).cells n = CB) := ⟨_, rfl⟩
      obtain ⟨CV, HCV⟩ : ∃ CV, Hid (madeCells zVd.cells (n * 3) = CV) := ⟨_, rfl⟩
      rw [HCB.out] at hmkB
      rw [HCV.out] at hmkV
      have hOK : openOk he fr bo L = true := by unfold openOk; rw [hd, hm]; rfl
      clear hj hk hy0 hy1 hy2 hx0 hx1 hx2 hd hm
      rw [hn]
      have b02' : Below (w.heap.size + 1) (w.alloc (.cells #[.int .i64 0, .string ⟨#[]⟩, .string ⟨#[]⟩, .string ⟨#[]⟩, .string ⟨#[]⟩, .slice none 0 0, .int .i64 0, .slice none 0 0, .slice none 0 0] 29)) w2 := by simpa using b02
      have HCL : Hid (∀ wx : World, Below w2.heap.size w2 wx → Calls Tryz.prog 34 #[.slice (some ⟨b, off, none⟩) n c] wx fun e w' => ∃ a' c', e = .returned (.slice a' n c') ∧ (Strs w' wx.heap.size (.slice a' n c') L ∧ Below wx.heap.size wx w' ∧ Below w2.heap.size w2 w') ∧ ResZ w.heap.size w') := by
        intro wx hx
        have hbx : Below w.heap.size w wx := b2.trans (hx.mono b2.size)
        have := cloneStrs b off c L wx (by omega) (fun i hi => (hbx.cell (p := ⟨b, off + i, none⟩) hbw).trans (hcell i hi))
        rw [hn] at this
        refine this.mono ?_
        rintro e w' ⟨v', rfl, hS, hB⟩
        obtain ⟨a', c', rfl⟩ := strs_form2 hS
        rw [hn] at *
        have hz2 : w.heap.size + 1 ≤ w2.heap.size := by have := b02'.size; simp at this; omega
        exact ⟨a', c', rfl, ⟨hS, hB, hx.trans (hB.mono hx.size)⟩, resZ_of ((b02'.trans (hx.mono hz2)).trans (hB.mono (by have := hx.size; omega)))⟩
      clear hcell
      go_wp2_with fail
      go_region_with (go_at_call 34; refine (HCL.out _ (by repeat (first | exact Below.refl _ _ | refine Below.drew ?_ | refine Below.alloc ?_ (by simp) _))).mono ?_; rintro e w3 ⟨a3, c3, rfl, HS3, g0, g1, g2, g3, g4, g5, g6, g7, g8, f0, f1, f2, f3, f4, f5, f6, f7, f8, hrz⟩)
      all_goals
        obtain ⟨S3, hb3, b23⟩ := HS3
        have hz3 := hb3.size
        have hw2 : w.heap.size + 1 ≤ w2.heap.size := by have := b02'.size; simp at this; omega
        have hown := strs_own S3
        have hlow := strs_lo S3
        simp at hz3 hlow
        have hlo : w.heap.size + 1 ≤ w3.heap.size := by omega
        have S3' := strs_le (lo' := w.heap.size + 1) S3 (by simp; omega)
        have b3 : Below w.heap.size w w3 := b2.trans (b23.mono b2.size)
        clear S3
        go_wp2
      · refine bodyPost_ret (v := .agg #[.int .i64 1, .string ⟨#[]⟩, .string he, .string fr, .string bo, .slice a3 n c3, .int .i64 0, .slice (some ⟨w3.heap.size, 0, none⟩) n n, .slice (some ⟨w3.heap.size + 1, 0, none⟩) n n]) (by simp [results, Tryz.results8, go_sem, hrz, g0, g1, g2, g3, g4, g5, g6, g7, g8]) rfl ?_
        generalize hW : World.setCell _ ⟨w.heap.size, 8, none⟩ _ = W3
        have hsz : W3.heap.size = w3.heap.size := by rw [← hW]; simp
        have hblk : ∀ k, k ≠ w.heap.size → W3.heap[k]? = w3.heap[k]? := by
          intro k hk
          rw [← hW]
          repeat rw [Below.heap_setCell _ _ _ _ hk]
        have hS : Strs W3 (w.heap.size + 1) (.slice a3 n c3) L := by
          rw [← hW]
          repeat (refine strs_setCell ?_ (by simp) _)
          exact S3'
        have hbW : Below w.heap.size w W3 := by
          rw [← hW]
          repeat (refine Below.setCell ?_ (by simp) _)
          exact b3
        clear hW
        have hB := show (((W3.alloc (.cells CB 4)).alloc (.cells CV 37))).heap[w3.heap.size]? = some _ from (lk_old _ _ _ (by simp; omega)).trans (lk_new _ _ _ hsz.symm)
        have hV := show (((W3.alloc (.cells CB 4)).alloc (.cells CV 37))).heap[w3.heap.size + 1]? = some _ from lk_new _ _ _ (by simp; omega)
        exact open_yes HCB.out HCV.out hOK hn (by omega) (strs_below hS (below2 W3 _ _) (Nat.le_refl _)) (by omega) (by omega) (by omega) (fun e => by have := hown _ e; have := hlow _ e; omega) (fun e => by have := hown _ e; have := hlow _ e; omega) hB hV (hbW.trans ((below2 W3 _ _).mono hbW.size))
      · refine bodyPost_ret (v := .agg #[.int .i64 1, .string ⟨#[]⟩, .string he, .string fr, .string bo, .slice a3 n c3, .int .i64 0, .slice (some ⟨w3.heap.size + 1, 0, none⟩) n n, .slice (some ⟨w3.heap.size, 0, none⟩) n n]) (by simp [results, Tryz.results8, go_sem, hrz, g0, g1, g2, g3, g4, g5, g6, g7, g8]) rfl ?_
        generalize hW : World.setCell _ ⟨w.heap.size, 8, none⟩ _ = W3
        have hsz : W3.heap.size = w3.heap.size := by rw [← hW]; simp
        have hblk : ∀ k, k ≠ w.heap.size → W3.heap[k]? = w3.heap[k]? := by
          intro k hk
          rw [← hW]
          repeat rw [Below.heap_setCell _ _ _ _ hk]
        have hS : Strs W3 (w.heap.size + 1) (.slice a3 n c3) L := by
          rw [← hW]
          repeat (refine strs_setCell ?_ (by simp) _)
          exact S3'
        have hbW : Below w.heap.size w W3 := by
          rw [← hW]
          repeat (refine Below.setCell ?_ (by simp) _)
          exact b3
        clear hW
        have hB := show (((W3.alloc (.cells CV 37)).alloc (.cells CB 4))).heap[w3.heap.size + 1]? = some _ from lk_new _ _ _ (by simp; omega)
        have hV := show (((W3.alloc (.cells CV 37)).alloc (.cells CB 4))).heap[w3.heap.size]? = some _ from (lk_old _ _ _ (by simp; omega)).trans (lk_new _ _ _ hsz.symm)
        exact open_yes HCB.out HCV.out hOK hn (by omega) (strs_below hS (below2 W3 _ _) (Nat.le_refl _)) (by omega) (by omega) (by omega) (fun e => by have := hown _ e; have := hlow _ e; omega) (fun e => by have := hown _ e; have := hlow _ e; omega) hB hV (hbW.trans ((below2 W3 _ _).mono hbW.size))
      · refine bodyPost_ret (v := .agg #[.int .i64 1, .string ⟨#[]⟩, .string he, .string fr, .string bo, .slice a3 n c3, .int .i64 0, .slice (some ⟨w2.heap.size, 0, none⟩) n n, .slice (some ⟨w3.heap.size, 0, none⟩) n n]) (by simp [results, Tryz.results8, go_sem, hrz, g0, g1, g2, g3, g4, g5, g6, g7, g8]) rfl ?_
        generalize hW : World.setCell _ ⟨w.heap.size, 8, none⟩ _ = W3
        have hsz : W3.heap.size = w3.heap.size := by rw [← hW]; simp
        have hblk : ∀ k, k ≠ w.heap.size → W3.heap[k]? = w3.heap[k]? := by
          intro k hk
          rw [← hW]
          repeat rw [Below.heap_setCell _ _ _ _ hk]
        have hS : Strs W3 (w.heap.size + 1) (.slice a3 n c3) L := by
          rw [← hW]
          repeat (refine strs_setCell ?_ (by simp) _)
          exact S3'
        have hbW : Below w.heap.size w W3 := by
          rw [← hW]
          repeat (refine Below.setCell ?_ (by simp) _)
          exact b3
        clear hW
        have hB := show ((W3.alloc (.cells CV 37))).heap[w2.heap.size]? = some _ from (lk_old _ _ _ (by omega)).trans ((hblk _ (by omega)).trans ((hb3.block _ (by simp)).trans (lk_new w2 _ _ rfl)))
        have hV := show ((W3.alloc (.cells CV 37))).heap[w3.heap.size]? = some _ from lk_new _ _ _ hsz.symm
        exact open_yes HCB.out HCV.out hOK hn (by omega) (strs_below hS (below1 W3 _) (Nat.le_refl _)) (by omega) (by omega) (by omega) (fun e => by have := hown _ e; have := hlow _ e; omega) (fun e => by have := hown _ e; have := hlow _ e; omega) hB hV (hbW.trans ((below1 W3 _).mono hbW.size))
      · refine bodyPost_ret (v := .agg #[.int .i64 1, .string ⟨#[]⟩, .string he, .string fr, .string bo, .slice a3 n c3, .int .i64 0, .slice (some ⟨w2.heap.size, 0, none⟩) n n, .slice (some ⟨w2.heap.size + 1, 0, none⟩) n n]) (by simp [results, Tryz.results8, go_sem, g0, g1, g2, g3, g4, g5, g6, g7, g8]) rfl ?_
        generalize hW : World.setCell _ ⟨w.heap.size, 8, none⟩ _ = W3
        have hsz : W3.heap.size = w3.heap.size := by rw [← hW]; simp
        have hblk : ∀ k, k ≠ w.heap.size → W3.heap[k]? = w3.heap[k]? := by
          intro k hk
          rw [← hW]
          repeat rw [Below.heap_setCell _ _ _ _ hk]
        have hS : Strs W3 (w.heap.size + 1) (.slice a3 n c3) L := by
          rw [← hW]
          repeat (refine strs_setCell ?_ (by simp) _)
          exact S3'
        have hbW : Below w.heap.size w W3 := by
          rw [← hW]
          repeat (refine Below.setCell ?_ (by simp) _)
          exact b3
        clear hW
        have hB := show (W3).heap[w2.heap.size]? = some _ from (hblk _ (by omega)).trans ((hb3.block _ (by simp; omega)).trans ((lk_old (w2.alloc _) _ _ (by simp)).trans (lk_new w2 _ _ rfl)))
        have hV := show (W3).heap[w2.heap.size + 1]? = some _ from (hblk _ (by omega)).trans ((hb3.block _ (by simp)).trans (lk_new (w2.alloc _) _ _ (by simp)))
        exact open_yes HCB.out HCV.out hOK hn (by omega) (strs_below hS (Below.refl _ W3) (Nat.le_refl _)) (by omega) (by omega) (by omega) (fun e => by have := hown _ e; have := hlow _ e; omega) (fun e => by have := hown _ e; have := hlow _ e; omega) hB hV (hbW.trans ((Below.refl _ W3).mono hbW.size))
      · refine bodyPost_ret (v := .agg #[.int .i64 1, .string ⟨#[]⟩, .string he, .string fr, .string bo, .slice a3 n c3, .int .i64 0, .slice (some ⟨w3.heap.size, 0, none⟩) n n, .slice (some ⟨w2.heap.size, 0, none⟩) n n]) (by simp [results, Tryz.results8, go_sem, hrz, g0, g1, g2, g3, g4, g5, g6, g7, g8]) rfl ?_
        generalize hW : World.setCell _ ⟨w.heap.size, 8, none⟩ _ = W3
        have hsz : W3.heap.size = w3.heap.size := by rw [← hW]; simp
        have hblk : ∀ k, k ≠ w.heap.size → W3.heap[k]? = w3.heap[k]? := by
          intro k hk
          rw [← hW]
          repeat rw [Below.heap_setCell _ _ _ _ hk]
        have hS : Strs W3 (w.heap.size + 1) (.slice a3 n c3) L := by
          rw [← hW]
          repeat (refine strs_setCell ?_ (by simp) _)
          exact S3'
        have hbW : Below w.heap.size w W3 := by
          rw [← hW]
          repeat (refine Below.setCell ?_ (by simp) _)
          exact b3
        clear hW
        have hB := show ((W3.alloc (.cells CB 4))).heap[w3.heap.size]? = some _ from lk_new _ _ _ hsz.symm
        have hV := show ((W3.alloc (.cells CB 4))).heap[w2.heap.size]? = some _ from (lk_old _ _ _ (by omega)).trans ((hblk _ (by omega)).trans ((hb3.block _ (by simp)).trans (lk_new w2 _ _ rfl)))
        exact open_yes HCB.out HCV.out hOK hn (by omega) (strs_below hS (below1 W3 _) (Nat.le_refl _)) (by omega) (by omega) (by omega) (fun e => by have := hown _ e; have := hlow _ e; omega) (fun e => by have := hown _ e; have := hlow _ e; omega) hB hV (hbW.trans ((below1 W3 _).mono hbW.size))
      · refine bodyPost_ret (v := .agg #[.int .i64 1, .string ⟨#[]⟩, .string he, .string fr, .string bo, .slice a3 n c3, .int .i64 0, .slice (some ⟨w2.heap.size + 1, 0, none⟩) n n, .slice (some ⟨w2.heap.size, 0, none⟩) n n]) (by simp [results, Tryz.results8, go_sem, g0, g1, g2, g3, g4, g5, g6, g7, g8]) rfl ?_
        generalize hW : World.setCell _ ⟨w.heap.size, 8, none⟩ _ = W3
        have hsz : W3.heap.size = w3.heap.size := by rw [← hW]; simp
        have hblk : ∀ k, k ≠ w.heap.size → W3.heap[k]? = w3.heap[k]? := by
          intro k hk
          rw [← hW]
          repeat rw [Below.heap_setCell _ _ _ _ hk]
        have hS : Strs W3 (w.heap.size + 1) (.slice a3 n c3) L := by
          rw [← hW]
          repeat (refine strs_setCell ?_ (by simp) _)
          exact S3'
        have hbW : Below w.heap.size w W3 := by
          rw [← hW]
          repeat (refine Below.setCell ?_ (by simp) _)
          exact b3
        clear hW
        have hB := show (W3).heap[w2.heap.size + 1]? = some _ from (hblk _ (by omega)).trans ((hb3.block _ (by simp)).trans (lk_new (w2.alloc _) _ _ (by simp)))
        have hV := show (W3).heap[w2.heap.size]? = some _ from (hblk _ (by omega)).trans ((hb3.block _ (by simp; omega)).trans ((lk_old (w2.alloc _) _ _ (by simp)).trans (lk_new w2 _ _ rfl)))
        exact open_yes HCB.out HCV.out hOK hn (by omega) (strs_below hS (Below.refl _ W3) (Nat.le_refl _)) (by omega) (by omega) (by omega) (fun e => by have := hown _ e; have := hlow _ e; omega) (fun e => by have := hown _ e; have := hlow _ e; omega) hB hV (hbW.trans ((Below.refl _ W3).mono hbW.size))
end Go.Proofs.YtngcjlghjidnjaaGreatDoor
