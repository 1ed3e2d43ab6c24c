import Derived.Test.YtngcjlghjidnjaaGreatDoorMg34
import Derived.Test.YtngcjlghjidnjaaGreatDoorMg9
import Derived.Laws.EntriesVeiled
namespace Go.Proofs.YtngcjlghjidnjaaGreatDoor
open Go.ChangeShapes Go.WideShapes Go.ChangeAt Go.RowKit
open Pcs

/-- what is asked of strings.EqualFold -/
def FoldAt (w : World) : Prop := ∀ (wx : World) (s : ByteArray), s.size = 4 → Below w.heap.size w wx → Calls Tryz.prog 170 #[.string s, .string ⟨#[83, 73, 90, 69]⟩] wx fun e w' => e = .returned (.bool (foldN s)) ∧ Below wx.heap.size wx w'
theorem FoldAt.below {w w1 : World} (h : FoldAt w) (hb : Below w.heap.size w w1) : FoldAt w1 := fun wx s hs hx => h wx s hs (hb.trans (hx.mono hb.size))

set_option maxHeartbeats 2000000 in
set_option maxRecDepth 100000 in
theorem implSizeOf (X : ByteArray) (w : World) (hl : LenIn w) (hs : X.size ≤ 1048576) (hef : FoldAt w) :
    Calls Tryz.prog 158 #[.string X] w fun e w' => (∃ (d : ByteArray) (f : Bool), e = .returned (.tuple #[.string d, .bool f]) ∧ ((f = false ∧ szLine X = none) ∨ (f = true ∧ d.size ≤ 10 ∧ okAll digN d = true ∧ szLine X = some (numN d d.size)))) ∧ Below w.heap.size w w' := by
  have HE : Hid (FoldAt w) := hef
  have HL : Hid (LenIn w) := hl
  clear hef hl
  go_enter Tryz.func158, Tryz.ntmps158
  go_wp2_with fail
  refine (implCut X ⟨#[32]⟩ _ HL.out hs).mono ?_
  rintro e w1 ⟨a, b, f, n, rfl, hw1, HCI, ha, hb⟩
  have b1 : Below w.heap.size w w1 := by rw [hw1]; exact drew_below (Below.refl _ _) n
  obtain ⟨k1, k2⟩ := head_cut HCI.out
  have K1 : Hid (szHead X = (f && (decide (a.size = 4) && foldN a))) := k1
  have K2 : Hid (szHead X = true → b = X.extract 5 X.size) := k2
  have N1 : Hid (szHead X = false → szLine X = none) := fun e => by unfold szLine; rw [e]; rfl
  clear k1 k2 HCI hw1
  have NO : ∀ (A : Prop), A → A := fun _ h => h
  cases f with
  | false =>
    have G : Hid (szLine X = none) := N1.out (by rw [K1.out]; rfl)
    go_wp2
    refine bodyPost_ret (v := .tuple #[.string ⟨#[]⟩, .bool false]) (by simp [results, Tryz.results158, go_sem]) rfl ⟨⟨_, _, rfl, .inl ⟨rfl, G.out⟩⟩, b1⟩
  | true =>
    by_cases h4 : a.size = 4
    rotate_left
    · have G : Hid (szLine X = none) := N1.out (by rw [K1.out, decide_eq_false h4]; rfl)
      have h4b : ((a.size : Int) != 4) = true := by rw [bne_iff_ne]; omega
      go_wp2
      refine bodyPost_ret (v := .tuple #[.string ⟨#[]⟩, .bool false]) (by simp [results, Tryz.results158, go_sem]) rfl ⟨⟨_, _, rfl, .inl ⟨rfl, G.out⟩⟩, b1⟩
    have h4b : ((a.size : Int) != 4) = false := by simp [h4]
    have H4 : Hid (a.size = 4) := h4
    have K3 : Hid (szHead X = foldN a) := by show _ = _; rw [K1.out, decide_eq_true h4]; rfl
    clear h4 K1 NO
    go_wp2_with fail
    refine (HE.out _ a H4.out b1).mono ?_
    rintro e w2 ⟨rfl, hb2⟩
    have b2 : Below w.heap.size w w2 := b1.trans (hb2.mono b1.size)
    clear hb2 b1
    have hfo : foldN a = false ∨ foldN a = true := by cases foldN a <;> simp
    rcases hfo with hfo | hfo
    · have G : Hid (szLine X = none) := N1.out (by rw [K3.out, hfo])
      rw [hfo]
      go_wp2
      refine bodyPost_ret (v := .tuple #[.string ⟨#[]⟩, .bool false]) (by simp [results, Tryz.results158, go_sem]) rfl ⟨⟨_, _, rfl, .inl ⟨rfl, G.out⟩⟩, b2⟩
    rw [hfo]
    have hh : szHead X = true := by rw [K3.out, hfo]
    have hbx := K2.out hh
    have SL1 : Hid (numOk b = false → szLine X = none) := fun e => by unfold szLine; rw [hh, ← hbx, e]; rfl
    have SL2 : Hid (numOk b = true → szLine X = some (numN b b.size)) := fun e => by unfold szLine numV; rw [hh, ← hbx, e]; rfl
    clear hh hbx K2 K3 hfo N1
    by_cases c1 : b.size = 0
    · have he := empty_of c1
      subst he
      have G : Hid (szLine X = none) := SL1.out (by rfl)
      go_wp2
      refine bodyPost_ret (v := .tuple #[.string ⟨#[]⟩, .bool false]) (by simp [results, Tryz.results158, go_sem]) rfl ⟨⟨_, _, rfl, .inl ⟨rfl, G.out⟩⟩, b2⟩
    have hln := list_ne c1
    by_cases c2 : 10 < b.size
    · have c2i : (10 : Int) < b.size := by omega
      have G : Hid (szLine X = none) := SL1.out (by unfold numOk; rw [decide_eq_false (show ¬ b.size ≤ 10 by omega)]; simp)
      go_wp2
      refine bodyPost_ret (v := .tuple #[.string ⟨#[]⟩, .bool false]) (by simp [results, Tryz.results158, go_sem]) rfl ⟨⟨_, _, rfl, .inl ⟨rfl, G.out⟩⟩, b2⟩
    have c2i : ¬ (10 : Int) < b.size := by omega
    have NOK : Hid (numOk b = okAll digN b) := by show _ = _; unfold numOk; rw [decide_eq_true (show 1 ≤ b.size by omega), decide_eq_true (show b.size ≤ 10 by omega)]; rfl
    go_wp2_with fail
    refine (implDigits b _ (by omega)).mono ?_
    rintro e w3 ⟨rfl, hw3⟩
    rw [hw3]
    clear hw3
    have hdo : okAll digN b = false ∨ okAll digN b = true := by cases okAll digN b <;> simp
    rcases hdo with hdo | hdo
    · have G : Hid (szLine X = none) := SL1.out (by rw [NOK.out, hdo])
      rw [hdo]
      go_wp2
      refine bodyPost_ret (v := .tuple #[.string ⟨#[]⟩, .bool false]) (by simp [results, Tryz.results158, go_sem]) rfl ⟨⟨_, _, rfl, .inl ⟨rfl, G.out⟩⟩, b2⟩
    · have G : Hid (okAll digN b = true ∧ szLine X = some (numN b b.size)) := ⟨hdo, SL2.out (by rw [NOK.out, hdo])⟩
      rw [hdo]
      clear hdo
      go_wp2
      refine bodyPost_ret (v := .tuple #[.string b, .bool true]) (by simp [results, Tryz.results158, go_sem]) rfl ⟨⟨_, _, rfl, .inr ⟨rfl, by omega, G.out.1, G.out.2⟩⟩, b2⟩

set_option maxHeartbeats 2000000 in
set_option maxRecDepth 100000 in
theorem implSize (v : Value) (L : List ByteArray) (w : World) (h : ArgS w v L) (hs : ∀ s ∈ L, s.size ≤ 1048576) (hl : LenIn w) (hef : FoldAt w) :
    Calls Tryz.prog 141 #[v] w fun e w' => e = .returned (.tuple #[.int .i64 ((szLim L).getD 0 : Int), .bool (szLim L).isSome]) ∧ Below w.heap.size w w' := by
  have hLm := h.1
  unfold maxLen at hLm
  have HE : Hid (FoldAt w) := hef
  have HL : Hid (LenIn w) := hl
  have HS : Hid (∀ s ∈ L, s.size ≤ 1048576) := hs
  have HR : Hid ((L.drop 1).findSome? szLine = szLim L) := rfl
  generalize szLim L = RS at *
  obtain ⟨a0, c0, hform⟩ : ∃ a c, v = .slice a L.length c := by
    rcases h.2.2 with ⟨rfl, a, c, rfl⟩ | ⟨b, off, cap, rfl, _⟩
    · exact ⟨_, _, rfl⟩
    · exact ⟨_, _, rfl⟩
  by_cases h0 : L.length ≤ 1
  · have G : Hid (RS = none) := by show _ = _; rw [← HR.out, List.drop_eq_nil_of_le h0]; rfl
    subst hform
    clear h hs HS HR hef hl
    have hlt : ¬ (1 : Int) < L.length := by omega
    go_enter Tryz.func141, Tryz.ntmps141
    go_wp2
    refine wp_loop_rounds 1 ?_; rw [rounds_succ]
    go_wp2
    refine bodyPost_ret (v := .tuple #[.int .i64 0, .bool false]) (by simp [results, Tryz.results141, go_sem]) rfl ⟨by rw [G.out]; rfl, Below.refl _ _⟩
  · obtain ⟨b, off, cap, hv, hbw, hcell⟩ : ∃ b off cap, v = .slice (some ⟨b, off, none⟩) L.length cap ∧ b < w.heap.size ∧ ∀ i (hi : i < L.length), w.cell? ⟨b, off + i, none⟩ = some (.string L[i]) := by
      rcases h.2.2 with ⟨hL, _⟩ | h
      · rw [hL] at h0; simp at h0
      · exact h
    subst hv
    have HC : Hid (∀ i (hi : i < L.length), w.cell? ⟨b, off + i, none⟩ = some (.string L[i])) := hcell
    clear h hs hcell hform hef hl
    go_enter Tryz.func141, Tryz.ntmps141
    go_wp2
    go_loopw [4] (fun iv wr => ∃ k : Nat, 1 ≤ k ∧ k ≤ L.length ∧ iv = .int .i64 k ∧ Below w.heap.size w wr ∧ Hid ((L.drop k).findSome? szLine = RS)) (fun iv _ => L.length - (intOf iv).toNat)
    case atStart => exact ⟨1, Nat.le_refl _, by omega, rfl, Below.refl _ _, HR⟩
    case round =>
      obtain ⟨k, hk1, hk, rfl, hb, HK⟩ := hrel
      by_cases hlt : k < L.length
      · have ek := (hb.cell (p := ⟨b, off + k, none⟩) hbw).trans (HC.out k hlt)
        have hX := HS.out L[k] (List.getElem_mem hlt)
        have HF := find_drop hlt
        rw [HK.out] at HF
        have HN : Hid (szLine L[k] = none → (L.drop (k + 1)).findSome? szLine = RS) := fun e => by rw [e] at HF; exact HF.symm
        have HY : Hid (∀ n, szLine L[k] = some n → RS = some n) := fun n e => by rw [e] at HF; exact HF
        clear HF HK
        generalize L[k] = X at *
        go_wp2_with fail
        refine (implSizeOf X _ (len_below HL.out hb) hX (HE.out.below hb)).mono ?_
        rintro e w5 ⟨⟨d, f, rfl, hdf⟩, hb5⟩
        have b5 : Below w.heap.size w w5 := hb.trans (hb5.mono hb.size)
        clear hb5 ek
        rcases hdf with ⟨rfl, hno⟩ | ⟨rfl, hd10, hdd, hso⟩
        · have G : Hid _ := HN.out hno
          clear hno
          go_wp2
          go_roundw
          case rel => exact ⟨k + 1, by omega, by omega, by go_num, b5, G⟩
          case measure => simp [intOf]; omega
        · have G : Hid (RS = some (numN d d.size)) := HY.out _ hso
          have HDD : Hid (okAll digN d = true) := hdd
          clear hso hdd
          go_wp2_with fail
          refine (implNumber d _ hd10 HDD.out).mono ?_
          rintro e w6 ⟨rfl, hw6⟩
          rw [hw6]
          clear hw6
          go_wp2
          refine bodyPost_ret (v := .tuple #[.int .i64 (numN d d.size : Int), .bool true]) (by simp [results, Tryz.results141, go_sem]) rfl ⟨by rw [G.out]; rfl, b5⟩
      · obtain rfl : k = L.length := by omega
        have G : Hid (RS = none) := by
          show _ = _
          rw [← HK.out, List.drop_eq_nil_of_le (by omega)]; rfl
        go_wp2
        refine bodyPost_ret (v := .tuple #[.int .i64 0, .bool false]) (by simp [results, Tryz.results141, go_sem]) rfl ⟨by rw [G.out]; rfl, hb⟩
end Go.Proofs.YtngcjlghjidnjaaGreatDoor
namespace Go.Proofs.YtngcjlghjidnjaaGreatDoor
open Go.ChangeShapes Go.WideShapes Go.ChangeAt Go.RowKit
attribute [local go_sem ↓] Go.wp_at_zero Go.wp_at_succ

theorem Sn.Ok.zero {s : Sn} (h : s.Ok) : Sn.Ok { s with nx := 0 } := ⟨h.p1, h.p9, h.t, h.v, h.r1, h.r20, Nat.zero_le _, fun _ => h.r1, h.he, h.fr, h.bo, h.rs, h.bf⟩
set_option maxHeartbeats 4000000 in
set_option maxRecDepth 100000 in
theorem implAsk (b : Nat) (w0 : World) (u1 u2 u3 : Value) (s : Sn) (t : ByteArray) (w : World) (hl : LenIn w0) (hk : s.Ok) (hn : s.nx < s.R.length) (hz : t.size ≤ 700000000) (h : DB b w0 u1 u2 u3 s t w) :
    Calls Tryz.prog 144 #[.pointer (some ⟨b, 0, none⟩)] w fun e w' => DP b w0 u1 u2 u3 (s.to 5) (t ++ cmdB 4 (s.R.getD s.nx ⟨#[]⟩)) w e w' := by
  have H : Hid (DB b w0 u1 u2 u3 s t w) := h
  have bl : b < w.heap.size := h.blk.lt
  obtain ⟨g1, g2, g3, k1, k2, k3, rfl, rfl, rfl⟩ := h.sv.some hk
  have SA := h.sv.1.at.1
  have gl : g1 < w.heap.size := SA.lt
  have x2 : w.cell? ⟨g1, s.nx, none⟩ = some (.string (s.R.getD s.nx ⟨#[]⟩)) := by
    rw [SA.cell s.nx hn, List.getD_eq_getElem?_getD, List.getElem?_eq_getElem hn]; rfl
  have hx : (s.R.getD s.nx ⟨#[]⟩).size ≤ 160 := by
    rw [List.getD_eq_getElem?_getD, List.getElem?_eq_getElem hn]
    exact hk.rs _ (List.getElem_mem hn)
  have hX := cmd_size 4 (s.R.getD s.nx ⟨#[]⟩)
  have x0 : w.cell? ⟨b, 5, none⟩ = some (.slice (some ⟨g1, 0, none⟩) s.R.length k1) := h.blk.cell 5
  have x1 : w.cell? ⟨b, 6, none⟩ = some (.int .i64 (s.nx : Int)) := h.blk.cell 6
  have HCX : Hid (∀ wx, Below w.heap.size w wx → Calls Tryz.prog 12 #[.int .i64 4, .string (s.R.getD s.nx ⟨#[]⟩)] wx fun e w' => e = .returned (.string (cmdB 4 (s.R.getD s.nx ⟨#[]⟩))) ∧ Below wx.heap.size wx w') := fun wx hb => implCommand 4 _ wx (len_below hl (h.bel.trans (hb.mono h.bel.size))) (by omega)
  have HBH : Hid (∀ wx, Below w.heap.size w wx → Calls Tryz.prog 142 #[.pointer (some ⟨b, 0, none⟩), .string (cmdB 4 (s.R.getD s.nx ⟨#[]⟩)), .int .i64 5] wx fun e w' => DP b w0 (.slice (some ⟨g1, 0, none⟩) s.R.length k1) (.slice (some ⟨g2, 0, none⟩) s.R.length k2) (.slice (some ⟨g3, 0, none⟩) s.R.length k3) (s.to 5) (t ++ cmdB 4 (s.R.getD s.nx ⟨#[]⟩)) wx e w') := fun wx hb => implSay b w0 _ _ _ s t _ 5 wx (by omega) (h.below hb)
  have gn1 : g1 ≠ b := own_ne h.a1 g1 rfl
  have gn2 : g1 ≠ g2 := h.sv.apart.1 g1 g2 rfl rfl
  have gn3 : g1 ≠ g3 := h.sv.apart.2.1 g1 g3 rfl rfl
  clear h hk SA hX hx
  generalize cmdB 4 (s.R.getD s.nx ⟨#[]⟩) = X at *
  generalize s.R.getD s.nx ⟨#[]⟩ = Y at *
  have i0 : (0 : Int) ≤ (s.nx : Int) := by omega
  have i1 : (s.nx : Int) < (s.R.length : Int) := by omega
  go_enter Tryz.func144, Tryz.ntmps144
  go_region_held3 (fun w' => w'.cell? ⟨b, 5, none⟩ = some (.slice (some ⟨g1, 0, none⟩) s.R.length k1) ∧ w'.cell? ⟨b, 6, none⟩ = some (.int .i64 (s.nx : Int)) ∧ w'.cell? ⟨g1, s.nx, none⟩ = some (.string Y)) (first | assumption | (exact ⟨e0, e1, e2⟩) | (exact ⟨l0, l1, l2⟩) | go_keep) (first | (go_at_call 12; refine (HCX.out _ (by repeat (first | exact Below.refl _ _ | refine Below.drew ?_))).mono ?_; rintro e w1 ⟨rfl, hb1⟩; have HB1 : Hid (Below w.heap.size w w1) := ((Below.refl w.heap.size w).drew).trans hb1; have e0 := (HB1.out.cell (p := ⟨b, 5, none⟩) bl).trans x0; have e1 := (HB1.out.cell (p := ⟨b, 6, none⟩) bl).trans x1; have e2 := (HB1.out.cell (p := ⟨g1, s.nx, none⟩) gl).trans x2; clear hb1) | (go_at_call 142; refine (HBH.out _ HB1.out).mono ?_; rintro e w2 ⟨rfl, D2, O2⟩; have HD2 : Hid (DB b w0 (.slice (some ⟨g1, 0, none⟩) s.R.length k1) (.slice (some ⟨g2, 0, none⟩) s.R.length k2) (.slice (some ⟨g3, 0, none⟩) s.R.length k3) (s.to 5) (t ++ X) w2) := D2; have l0 : w2.cell? ⟨b, 5, none⟩ = some (.slice (some ⟨g1, 0, none⟩) s.R.length k1) := HD2.out.blk.cell 5; have l1 : w2.cell? ⟨b, 6, none⟩ = some (.int .i64 (s.nx : Int)) := HD2.out.blk.cell 6; have l2 : w2.cell? ⟨g1, s.nx, none⟩ = some (.string Y) := (OffL.cell O2 (Nat.lt_of_lt_of_le gl HB1.out.size) (by intro u hu; simp only [List.mem_cons, List.not_mem_nil, or_false] at hu; rcases hu with rfl | rfl | rfl <;> (intro e; injection e with e; dsimp only at e; omega))).trans e2; have HO2 : Hid (DO b (.slice (some ⟨g2, 0, none⟩) s.R.length k2) (.slice (some ⟨g3, 0, none⟩) s.R.length k3) w w2) := (DO.of_below HB1.out).trans O2; clear D2 O2))
  all_goals
    go_wp2
    refine bodyPost_ret (v := .tuple #[]) (by simp [results, Tryz.results144, go_sem]) rfl ?_
    exact ⟨rfl, HD2.out, HO2.out⟩

set_option maxHeartbeats 4000000 in
set_option maxRecDepth 100000 in
theorem implTMail (b : Nat) (w0 : World) (u1 u2 u3 : Value) (s : Sn) (t : ByteArray) (c : Nat) (v : Value) (L : List ByteArray) (lo : Nat) (P : Sn × ByteArray) (w : World) (hl : LenIn w0) (hk : s.Ok) (hz : t.size ≤ 700000000) (hS : Strs w lo v L) (h1 : 1 ≤ L.length) (h : DB b w0 u1 u2 u3 s t w)
    (hP : (c = 250 ∧ P = ({ s.to 5 with nx := 0 }, cmdB 4 (s.R.getD 0 ⟨#[]⟩))) ∨ (c ≠ 250 ∧ P = s.quit (refV c (L.getD 0 ⟨#[]⟩)))) :
    Calls Tryz.prog 116 #[.pointer (some ⟨b, 0, none⟩), .agg #[.int .i64 (c : Int), v]] w fun e w' => DP b w0 u1 u2 u3 P.1 (t ++ P.2) w e w' := by
  have H : Hid (DB b w0 u1 u2 u3 s t w) := h
  have HK : Hid s.Ok := hk
  have HS : Hid (Strs w lo v L) := hS
  have bl : b < w.heap.size := h.blk.lt
  clear h hk hS
  rcases hP with ⟨hc, rfl⟩ | ⟨hc, rfl⟩
  · subst hc
    have c6 : w.cell? ⟨b, 6, none⟩ = some (.int .i64 (s.nx : Int)) := H.out.blk.cell 6
    have f6 : w.frozen? ⟨b, 6, none⟩ = false := H.out.blk.free 6
    go_enter Tryz.func116, Tryz.ntmps116
    go_wp2_with fail
    refine (implAsk b w0 u1 u2 u3 { s with nx := 0 } t _ hl HK.out.zero HK.out.r1 hz ((H.out.nx 0).below (below1 _ _))).mono ?_
    rintro e w2 ⟨rfl, D2, O2⟩
    go_wp2
    refine bodyPost_ret (v := .tuple #[]) (by simp [results, Tryz.results116, go_sem]) rfl ?_
    exact ⟨rfl, D2, (((DO.of_below (Below.refl _ _)).put 6 _).trans (DO.of_below (below1 _ _))).trans O2⟩
  · have hcb : (((c : Nat) : Int) == 250) = false := beq_eq_false_iff_ne.2 (by omega)
    clear hc
    go_enter Tryz.func116, Tryz.ntmps116
    go_wp2_with fail
    refine (implNo c v L lo _ (strs_below HS.out (below1 _ _) (Nat.le_refl _)) h1).mono ?_
    rintro e w1 ⟨rfl, hb1⟩
    have b1 : Below w.heap.size w w1 := (below1 w _).trans (hb1.mono (by simp))
    go_wp2_with fail
    refine (implGive b w0 u1 u2 u3 s t _ w1 hl HK.out (by omega) (H.out.below b1)).mono ?_
    rintro e w2 ⟨rfl, D2, O2⟩
    go_wp2
    refine bodyPost_ret (v := .tuple #[]) (by simp [results, Tryz.results116, go_sem]) rfl ?_
    exact ⟨rfl, D2, (DO.of_below b1).trans O2⟩

set_option maxHeartbeats 4000000 in
set_option maxRecDepth 100000 in
theorem implDot (b : Nat) (w0 : World) (u1 u2 u3 : Value) (s : Sn) (t : ByteArray) (c : Nat) (v : Value) (L : List ByteArray) (lo : Nat) (P : Sn × ByteArray) (w : World) (hl : LenIn w0) (hk : s.Ok) (hz : t.size ≤ 700000000) (hS : Strs w lo v L) (h1 : 1 ≤ L.length) (h : DB b w0 u1 u2 u3 s t w)
    (hP : (c = 250 ∧ P = s.quit (1, 250, L.getD 0 ⟨#[]⟩)) ∨ (c ≠ 250 ∧ P = s.quit (refV c (L.getD 0 ⟨#[]⟩)))) :
    Calls Tryz.prog 119 #[.pointer (some ⟨b, 0, none⟩), .agg #[.int .i64 (c : Int), v]] w fun e w' => DP b w0 u1 u2 u3 P.1 (t ++ P.2) w e w' := by
  have H : Hid (DB b w0 u1 u2 u3 s t w) := h
  have HK : Hid s.Ok := hk
  have HS : Hid (Strs w lo v L) := hS
  clear h hk hS
  rcases hP with ⟨hc, rfl⟩ | ⟨hc, rfl⟩
  · subst hc
    obtain ⟨g, k, rfl, h0, hg, _⟩ := first_str HS.out h1
    go_enter Tryz.func119, Tryz.ntmps119
    go_wp2_with fail
    refine (implDecide b w0 u1 u2 u3 s t (1, 250, L.getD 0 ⟨#[]⟩) _ HK.out (H.out.below (below1 _ _))).mono ?_
    rintro e w1 ⟨rfl, D1, O1⟩
    go_wp2_with fail
    refine (implQuit b w0 u1 u2 u3 _ t w1 hl (by omega) D1).mono ?_
    rintro e w2 ⟨rfl, D2, O2⟩
    go_wp2
    refine bodyPost_ret (v := .tuple #[]) (by simp [results, Tryz.results119, go_sem]) rfl ?_
    exact ⟨rfl, D2, ((DO.of_below (below1 _ _)).trans O1).trans O2⟩
  · have hcb : (((c : Nat) : Int) == 250) = false := beq_eq_false_iff_ne.2 (by omega)
    clear hc
    go_enter Tryz.func119, Tryz.ntmps119
    go_wp2_with fail
    refine (implNo c v L lo _ (strs_below HS.out (below1 _ _) (Nat.le_refl _)) h1).mono ?_
    rintro e w1 ⟨rfl, hb1⟩
    have b1 : Below w.heap.size w w1 := (below1 w _).trans (hb1.mono (by simp))
    go_wp2_with fail
    refine (implGive b w0 u1 u2 u3 s t _ w1 hl HK.out (by omega) (H.out.below b1)).mono ?_
    rintro e w2 ⟨rfl, D2, O2⟩
    go_wp2
    refine bodyPost_ret (v := .tuple #[]) (by simp [results, Tryz.results119, go_sem]) rfl ?_
    exact ⟨rfl, D2, (DO.of_below b1).trans O2⟩

set_option maxHeartbeats 4000000 in
set_option maxRecDepth 100000 in
theorem implTQuit (b : Nat) (w0 : World) (u1 u2 u3 : Value) (s : Sn) (t : ByteArray) (c : Int) (v : Value) (w : World) (h : DB b w0 u1 u2 u3 s t w) :
    Calls Tryz.prog 120 #[.pointer (some ⟨b, 0, none⟩), .agg #[.int .i64 c, v]] w fun e w' => DP b w0 u1 u2 u3 (s.to 9) t w e w' := by
  have H : Hid (DB b w0 u1 u2 u3 s t w) := h
  have c0 : w.cell? ⟨b, 0, none⟩ = some (.int .i64 s.ph) := h.blk.cell 0
  have f0 : w.frozen? ⟨b, 0, none⟩ = false := h.blk.free 0
  have bl : b < w.heap.size := h.blk.lt
  clear h
  go_enter Tryz.func120, Tryz.ntmps120
  go_wp2
  refine bodyPost_ret (v := .tuple #[]) (by simp [results, Tryz.results120, go_sem]) rfl ?_
  exact ⟨rfl, (H.out.ph 9).below (below1 _ _), ((DO.of_below (Below.refl _ _)).put 0 _).trans (DO.of_below (below1 _ _))⟩
end Go.Proofs.YtngcjlghjidnjaaGreatDoor
namespace Go.Proofs.YtngcjlghjidnjaaGreatDoor
open Go.ChangeShapes Go.WideShapes Go.ChangeAt Go.RowKit
attribute [local go_sem ↓] Go.wp_at_zero Go.wp_at_succ

set_option maxHeartbeats 4000000 in
set_option maxRecDepth 100000 in
theorem implTake1 (b : Nat) (w0 : World) (u1 u2 u3 : Value) (s : Sn) (t : ByteArray) (c : Nat) (v : Value) (P : Sn × ByteArray) (w : World) (hp : s.ph = 1) (h : DB b w0 u1 u2 u3 s t w) (hb : ((c : Int) == 421) = false) (hM : ∀ wx, Below w.heap.size w wx → Calls Tryz.prog 113 #[.pointer (some ⟨b, 0, none⟩), .agg #[.int .i64 (c : Int), v]] wx fun e w' => DP b w0 u1 u2 u3 P.1 (t ++ P.2) wx e w') :
    Calls Tryz.prog 86 #[.pointer (some ⟨b, 0, none⟩), .agg #[.int .i64 (c : Int), v]] w fun e w' => DP b w0 u1 u2 u3 P.1 (t ++ P.2) w e w' := by
  have h0 : w.cell? ⟨b, 0, none⟩ = some (.int .i64 1) := by
    have := h.blk.cell 0
    rw [this]
    show some (Value.int .i64 s.ph) = _
    rw [hp]
  have bl : b < w.heap.size := h.blk.lt
  have HM : Hid (∀ wx, Below w.heap.size w wx → Calls Tryz.prog 113 #[.pointer (some ⟨b, 0, none⟩), .agg #[.int .i64 (c : Int), v]] wx fun e w' => DP b w0 u1 u2 u3 P.1 (t ++ P.2) wx e w') := hM
  clear hM hp h
  have hmf : ∀ (fn : Fn) (first cap : Array Value) (w : World), (Instr.makeFunc fn first cap).run Tryz.prog w = .ok (.func fn first cap) w := fun _ _ _ _ => rfl
  go_enter Tryz.func86, Tryz.ntmps86
  go_upto_region 5 with fail
  generalize hW : World.alloc _ _ = W
  have b0 : Below w.heap.size w W := by rw [← hW]; exact below2 _ _ _
  have HR : Hid (Blk w.heap.size #[.int .i64 (c : Int), v] W) := by show Blk _ _ _; rw [← hW]; exact (blk2 w _ _ _ _).1
  have HA : W.cell? ⟨w.heap.size + 1, 1, none⟩ = some (.func (.func 113) #[.pointer (some ⟨b, 0, none⟩)] #[]) := by rw [← hW]; exact (blk2 w _ _ _ _).2.cell 1
  have x0 : W.cell? ⟨b, 0, none⟩ = some (.int .i64 1) := (b0.cell (p := ⟨b, 0, none⟩) bl).trans h0
  have y0 : W.cell? ⟨w.heap.size, 0, none⟩ = some (.int .i64 (c : Int)) := HR.out.cell 0
  have y1 : W.cell? ⟨w.heap.size, 1, none⟩ = some v := HR.out.cell 1
  clear hW

  go_region_with (first | (go_at_call 113; refine (HM.out _ (b0.trans (by repeat (first | exact Below.refl _ _ | refine Below.drew ?_)))).mono ?_; rintro e w2 ⟨rfl, D2, O2⟩; have HD2 : Hid (DB b w0 u1 u2 u3 P.1 (t ++ P.2) w2) := D2; have HO2 : Hid (DO b u2 u3 w w2) := ((DO.of_below b0).trans (DO.of_below (by repeat (first | exact Below.refl _ _ | refine Below.drew ?_)))).trans O2; clear D2 O2))
  all_goals
    go_wp2
    refine bodyPost_ret (v := .tuple #[]) (by simp [results, Tryz.results86, go_sem]) rfl ?_
    exact ⟨rfl, HD2.out, HO2.out⟩

set_option maxHeartbeats 4000000 in
set_option maxRecDepth 100000 in
theorem implTake2 (b : Nat) (w0 : World) (u1 u2 u3 : Value) (s : Sn) (t : ByteArray) (c : Nat) (v : Value) (P : Sn × ByteArray) (w : World) (hp : s.ph = 2) (h : DB b w0 u1 u2 u3 s t w) (hb : ((c : Int) == 421) = false) (hM : ∀ wx, Below w.heap.size w wx → Calls Tryz.prog 114 #[.pointer (some ⟨b, 0, none⟩), .agg #[.int .i64 (c : Int), v]] wx fun e w' => DP b w0 u1 u2 u3 P.1 (t ++ P.2) wx e w') :
    Calls Tryz.prog 86 #[.pointer (some ⟨b, 0, none⟩), .agg #[.int .i64 (c : Int), v]] w fun e w' => DP b w0 u1 u2 u3 P.1 (t ++ P.2) w e w' := by
  have h0 : w.cell? ⟨b, 0, none⟩ = some (.int .i64 2) := by
    have := h.blk.cell 0
    rw [this]
    show some (Value.int .i64 s.ph) = _
    rw [hp]
  have bl : b < w.heap.size := h.blk.lt
  have HM : Hid (∀ wx, Below w.heap.size w wx → Calls Tryz.prog 114 #[.pointer (some ⟨b, 0, none⟩), .agg #[.int .i64 (c : Int), v]] wx fun e w' => DP b w0 u1 u2 u3 P.1 (t ++ P.2) wx e w') := hM
  clear hM hp h
  have hmf : ∀ (fn : Fn) (first cap : Array Value) (w : World), (Instr.makeFunc fn first cap).run Tryz.prog w = .ok (.func fn first cap) w := fun _ _ _ _ => rfl
  go_enter Tryz.func86, Tryz.ntmps86
  go_upto_region 5 with fail
  generalize hW : World.alloc _ _ = W
  have b0 : Below w.heap.size w W := by rw [← hW]; exact below2 _ _ _
  have HR : Hid (Blk w.heap.size #[.int .i64 (c : Int), v] W) := by show Blk _ _ _; rw [← hW]; exact (blk2 w _ _ _ _).1
  have HA : W.cell? ⟨w.heap.size + 1, 2, none⟩ = some (.func (.func 114) #[.pointer (some ⟨b, 0, none⟩)] #[]) := by rw [← hW]; exact (blk2 w _ _ _ _).2.cell 2
  have x0 : W.cell? ⟨b, 0, none⟩ = some (.int .i64 2) := (b0.cell (p := ⟨b, 0, none⟩) bl).trans h0
  have y0 : W.cell? ⟨w.heap.size, 0, none⟩ = some (.int .i64 (c : Int)) := HR.out.cell 0
  have y1 : W.cell? ⟨w.heap.size, 1, none⟩ = some v := HR.out.cell 1
  clear hW

  go_region_with (first | (go_at_call 114; refine (HM.out _ (b0.trans (by repeat (first | exact Below.refl _ _ | refine Below.drew ?_)))).mono ?_; rintro e w2 ⟨rfl, D2, O2⟩; have HD2 : Hid (DB b w0 u1 u2 u3 P.1 (t ++ P.2) w2) := D2; have HO2 : Hid (DO b u2 u3 w w2) := ((DO.of_below b0).trans (DO.of_below (by repeat (first | exact Below.refl _ _ | refine Below.drew ?_)))).trans O2; clear D2 O2))
  all_goals
    go_wp2
    refine bodyPost_ret (v := .tuple #[]) (by simp [results, Tryz.results86, go_sem]) rfl ?_
    exact ⟨rfl, HD2.out, HO2.out⟩

set_option maxHeartbeats 4000000 in
set_option maxRecDepth 100000 in
theorem implTake3 (b : Nat) (w0 : World) (u1 u2 u3 : Value) (s : Sn) (t : ByteArray) (c : Nat) (v : Value) (P : Sn × ByteArray) (w : World) (hp : s.ph = 3) (h : DB b w0 u1 u2 u3 s t w) (hb : ((c : Int) == 421) = false) (hM : ∀ wx, Below w.heap.size w wx → Calls Tryz.prog 115 #[.pointer (some ⟨b, 0, none⟩), .agg #[.int .i64 (c : Int), v]] wx fun e w' => DP b w0 u1 u2 u3 P.1 (t ++ P.2) wx e w') :
    Calls Tryz.prog 86 #[.pointer (some ⟨b, 0, none⟩), .agg #[.int .i64 (c : Int), v]] w fun e w' => DP b w0 u1 u2 u3 P.1 (t ++ P.2) w e w' := by
  have h0 : w.cell? ⟨b, 0, none⟩ = some (.int .i64 3) := by
    have := h.blk.cell 0
    rw [this]
    show some (Value.int .i64 s.ph) = _
    rw [hp]
  have bl : b < w.heap.size := h.blk.lt
  have HM : Hid (∀ wx, Below w.heap.size w wx → Calls Tryz.prog 115 #[.pointer (some ⟨b, 0, none⟩), .agg #[.int .i64 (c : Int), v]] wx fun e w' => DP b w0 u1 u2 u3 P.1 (t ++ P.2) wx e w') := hM
  clear hM hp h
  have hmf : ∀ (fn : Fn) (first cap : Array Value) (w : World), (Instr.makeFunc fn first cap).run Tryz.prog w = .ok (.func fn first cap) w := fun _ _ _ _ => rfl
  go_enter Tryz.func86, Tryz.ntmps86
  go_upto_region 5 with fail
  generalize hW : World.alloc _ _ = W
  have b0 : Below w.heap.size w W := by rw [← hW]; exact below2 _ _ _
  have HR : Hid (Blk w.heap.size #[.int .i64 (c : Int), v] W) := by show Blk _ _ _; rw [← hW]; exact (blk2 w _ _ _ _).1
  have HA : W.cell? ⟨w.heap.size + 1, 3, none⟩ = some (.func (.func 115) #[.pointer (some ⟨b, 0, none⟩)] #[]) := by rw [← hW]; exact (blk2 w _ _ _ _).2.cell 3
  have x0 : W.cell? ⟨b, 0, none⟩ = some (.int .i64 3) := (b0.cell (p := ⟨b, 0, none⟩) bl).trans h0
  have y0 : W.cell? ⟨w.heap.size, 0, none⟩ = some (.int .i64 (c : Int)) := HR.out.cell 0
  have y1 : W.cell? ⟨w.heap.size, 1, none⟩ = some v := HR.out.cell 1
  clear hW

  go_region_with (first | (go_at_call 115; refine (HM.out _ (b0.trans (by repeat (first | exact Below.refl _ _ | refine Below.drew ?_)))).mono ?_; rintro e w2 ⟨rfl, D2, O2⟩; have HD2 : Hid (DB b w0 u1 u2 u3 P.1 (t ++ P.2) w2) := D2; have HO2 : Hid (DO b u2 u3 w w2) := ((DO.of_below b0).trans (DO.of_below (by repeat (first | exact Below.refl _ _ | refine Below.drew ?_)))).trans O2; clear D2 O2))
  all_goals
    go_wp2
    refine bodyPost_ret (v := .tuple #[]) (by simp [results, Tryz.results86, go_sem]) rfl ?_
    exact ⟨rfl, HD2.out, HO2.out⟩

set_option maxHeartbeats 4000000 in
set_option maxRecDepth 100000 in
theorem implTake4 (b : Nat) (w0 : World) (u1 u2 u3 : Value) (s : Sn) (t : ByteArray) (c : Nat) (v : Value) (P : Sn × ByteArray) (w : World) (hp : s.ph = 4) (h : DB b w0 u1 u2 u3 s t w) (hb : ((c : Int) == 421) = false) (hM : ∀ wx, Below w.heap.size w wx → Calls Tryz.prog 116 #[.pointer (some ⟨b, 0, none⟩), .agg #[.int .i64 (c : Int), v]] wx fun e w' => DP b w0 u1 u2 u3 P.1 (t ++ P.2) wx e w') :
    Calls Tryz.prog 86 #[.pointer (some ⟨b, 0, none⟩), .agg #[.int .i64 (c : Int), v]] w fun e w' => DP b w0 u1 u2 u3 P.1 (t ++ P.2) w e w' := by
  have h0 : w.cell? ⟨b, 0, none⟩ = some (.int .i64 4) := by
    have := h.blk.cell 0
    rw [this]
    show some (Value.int .i64 s.ph) = _
    rw [hp]
  have bl : b < w.heap.size := h.blk.lt
  have HM : Hid (∀ wx, Below w.heap.size w wx → Calls Tryz.prog 116 #[.pointer (some ⟨b, 0, none⟩), .agg #[.int .i64 (c : Int), v]] wx fun e w' => DP b w0 u1 u2 u3 P.1 (t ++ P.2) wx e w') := hM
  clear hM hp h
  have hmf : ∀ (fn : Fn) (first cap : Array Value) (w : World), (Instr.makeFunc fn first cap).run Tryz.prog w = .ok (.func fn first cap) w := fun _ _ _ _ => rfl
  go_enter Tryz.func86, Tryz.ntmps86
  go_upto_region 5 with fail
  generalize hW : World.alloc _ _ = W
  have b0 : Below w.heap.size w W := by rw [← hW]; exact below2 _ _ _
  have HR : Hid (Blk w.heap.size #[.int .i64 (c : Int), v] W) := by show Blk _ _ _; rw [← hW]; exact (blk2 w _ _ _ _).1
  have HA : W.cell? ⟨w.heap.size + 1, 4, none⟩ = some (.func (.func 116) #[.pointer (some ⟨b, 0, none⟩)] #[]) := by rw [← hW]; exact (blk2 w _ _ _ _).2.cell 4
  have x0 : W.cell? ⟨b, 0, none⟩ = some (.int .i64 4) := (b0.cell (p := ⟨b, 0, none⟩) bl).trans h0
  have y0 : W.cell? ⟨w.heap.size, 0, none⟩ = some (.int .i64 (c : Int)) := HR.out.cell 0
  have y1 : W.cell? ⟨w.heap.size, 1, none⟩ = some v := HR.out.cell 1
  clear hW

  go_region_with (first | (go_at_call 116; refine (HM.out _ (b0.trans (by repeat (first | exact Below.refl _ _ | refine Below.drew ?_)))).mono ?_; rintro e w2 ⟨rfl, D2, O2⟩; have HD2 : Hid (DB b w0 u1 u2 u3 P.1 (t ++ P.2) w2) := D2; have HO2 : Hid (DO b u2 u3 w w2) := ((DO.of_below b0).trans (DO.of_below (by repeat (first | exact Below.refl _ _ | refine Below.drew ?_)))).trans O2; clear D2 O2))
  all_goals
    go_wp2
    refine bodyPost_ret (v := .tuple #[]) (by simp [results, Tryz.results86, go_sem]) rfl ?_
    exact ⟨rfl, HD2.out, HO2.out⟩

set_option maxHeartbeats 4000000 in
set_option maxRecDepth 100000 in
theorem implTake5 (b : Nat) (w0 : World) (u1 u2 u3 : Value) (s : Sn) (t : ByteArray) (c : Nat) (v : Value) (P : Sn × ByteArray) (w : World) (hp : s.ph = 5) (h : DB b w0 u1 u2 u3 s t w) (hb : ((c : Int) == 421) = false) (hM : ∀ wx, Below w.heap.size w wx → Calls Tryz.prog 117 #[.pointer (some ⟨b, 0, none⟩), .agg #[.int .i64 (c : Int), v]] wx fun e w' => DP b w0 u1 u2 u3 P.1 (t ++ P.2) wx e w') :
    Calls Tryz.prog 86 #[.pointer (some ⟨b, 0, none⟩), .agg #[.int .i64 (c : Int), v]] w fun e w' => DP b w0 u1 u2 u3 P.1 (t ++ P.2) w e w' := by
  have h0 : w.cell? ⟨b, 0, none⟩ = some (.int .i64 5) := by
    have := h.blk.cell 0
    rw [this]
    show some (Value.int .i64 s.ph) = _
    rw [hp]
  have bl : b < w.heap.size := h.blk.lt
  have HM : Hid (∀ wx, Below w.heap.size w wx → Calls Tryz.prog 117 #[.pointer (some ⟨b, 0, none⟩), .agg #[.int .i64 (c : Int), v]] wx fun e w' => DP b w0 u1 u2 u3 P.1 (t ++ P.2) wx e w') := hM
  clear hM hp h
  have hmf : ∀ (fn : Fn) (first cap : Array Value) (w : World), (Instr.makeFunc fn first cap).run Tryz.prog w = .ok (.func fn first cap) w := fun _ _ _ _ => rfl
  go_enter Tryz.func86, Tryz.ntmps86
  go_upto_region 5 with fail
  generalize hW : World.alloc _ _ = W
  have b0 : Below w.heap.size w W := by rw [← hW]; exact below2 _ _ _
  have HR : Hid (Blk w.heap.size #[.int .i64 (c : Int), v] W) := by show Blk _ _ _; rw [← hW]; exact (blk2 w _ _ _ _).1
  have HA : W.cell? ⟨w.heap.size + 1, 5, none⟩ = some (.func (.func 117) #[.pointer (some ⟨b, 0, none⟩)] #[]) := by rw [← hW]; exact (blk2 w _ _ _ _).2.cell 5
  have x0 : W.cell? ⟨b, 0, none⟩ = some (.int .i64 5) := (b0.cell (p := ⟨b, 0, none⟩) bl).trans h0
  have y0 : W.cell? ⟨w.heap.size, 0, none⟩ = some (.int .i64 (c : Int)) := HR.out.cell 0
  have y1 : W.cell? ⟨w.heap.size, 1, none⟩ = some v := HR.out.cell 1
  clear hW

  go_region_with (first | (go_at_call 117; refine (HM.out _ (b0.trans (by repeat (first | exact Below.refl _ _ | refine Below.drew ?_)))).mono ?_; rintro e w2 ⟨rfl, D2, O2⟩; have HD2 : Hid (DB b w0 u1 u2 u3 P.1 (t ++ P.2) w2) := D2; have HO2 : Hid (DO b u2 u3 w w2) := ((DO.of_below b0).trans (DO.of_below (by repeat (first | exact Below.refl _ _ | refine Below.drew ?_)))).trans O2; clear D2 O2))
  all_goals
    go_wp2
    refine bodyPost_ret (v := .tuple #[]) (by simp [results, Tryz.results86, go_sem]) rfl ?_
    exact ⟨rfl, HD2.out, HO2.out⟩

set_option maxHeartbeats 4000000 in
set_option maxRecDepth 100000 in
theorem implTake6 (b : Nat) (w0 : World) (u1 u2 u3 : Value) (s : Sn) (t : ByteArray) (c : Nat) (v : Value) (P : Sn × ByteArray) (w : World) (hp : s.ph = 6) (h : DB b w0 u1 u2 u3 s t w) (hb : ((c : Int) == 421) = false) (hM : ∀ wx, Below w.heap.size w wx → Calls Tryz.prog 118 #[.pointer (some ⟨b, 0, none⟩), .agg #[.int .i64 (c : Int), v]] wx fun e w' => DP b w0 u1 u2 u3 P.1 (t ++ P.2) wx e w') :
    Calls Tryz.prog 86 #[.pointer (some ⟨b, 0, none⟩), .agg #[.int .i64 (c : Int), v]] w fun e w' => DP b w0 u1 u2 u3 P.1 (t ++ P.2) w e w' := by
  have h0 : w.cell? ⟨b, 0, none⟩ = some (.int .i64 6) := by
    have := h.blk.cell 0
    rw [this]
    show some (Value.int .i64 s.ph) = _
    rw [hp]
  have bl : b < w.heap.size := h.blk.lt
  have HM : Hid (∀ wx, Below w.heap.size w wx → Calls Tryz.prog 118 #[.pointer (some ⟨b, 0, none⟩), .agg #[.int .i64 (c : Int), v]] wx fun e w' => DP b w0 u1 u2 u3 P.1 (t ++ P.2) wx e w') := hM
  clear hM hp h
  have hmf : ∀ (fn : Fn) (first cap : Array Value) (w : World), (Instr.makeFunc fn first cap).run Tryz.prog w = .ok (.func fn first cap) w := fun _ _ _ _ => rfl
  go_enter Tryz.func86, Tryz.ntmps86
  go_upto_region 5 with fail
  generalize hW : World.alloc _ _ = W
  have b0 : Below w.heap.size w W := by rw [← hW]; exact below2 _ _ _
  have HR : Hid (Blk w.heap.size #[.int .i64 (c : Int), v] W) := by show Blk _ _ _; rw [← hW]; exact (blk2 w _ _ _ _).1
  have HA : W.cell? ⟨w.heap.size + 1, 6, none⟩ = some (.func (.func 118) #[.pointer (some ⟨b, 0, none⟩)] #[]) := by rw [← hW]; exact (blk2 w _ _ _ _).2.cell 6
  have x0 : W.cell? ⟨b, 0, none⟩ = some (.int .i64 6) := (b0.cell (p := ⟨b, 0, none⟩) bl).trans h0
  have y0 : W.cell? ⟨w.heap.size, 0, none⟩ = some (.int .i64 (c : Int)) := HR.out.cell 0
  have y1 : W.cell? ⟨w.heap.size, 1, none⟩ = some v := HR.out.cell 1
  clear hW

  go_region_with (first | (go_at_call 118; refine (HM.out _ (b0.trans (by repeat (first | exact Below.refl _ _ | refine Below.drew ?_)))).mono ?_; rintro e w2 ⟨rfl, D2, O2⟩; have HD2 : Hid (DB b w0 u1 u2 u3 P.1 (t ++ P.2) w2) := D2; have HO2 : Hid (DO b u2 u3 w w2) := ((DO.of_below b0).trans (DO.of_below (by repeat (first | exact Below.refl _ _ | refine Below.drew ?_)))).trans O2; clear D2 O2))
  all_goals
    go_wp2
    refine bodyPost_ret (v := .tuple #[]) (by simp [results, Tryz.results86, go_sem]) rfl ?_
    exact ⟨rfl, HD2.out, HO2.out⟩

set_option maxHeartbeats 4000000 in
set_option maxRecDepth 100000 in
theorem implTake7 (b : Nat) (w0 : World) (u1 u2 u3 : Value) (s : Sn) (t : ByteArray) (c : Nat) (v : Value) (P : Sn × ByteArray) (w : World) (hp : s.ph = 7) (h : DB b w0 u1 u2 u3 s t w) (hb : ((c : Int) == 421) = false) (hM : ∀ wx, Below w.heap.size w wx → Calls Tryz.prog 119 #[.pointer (some ⟨b, 0, none⟩), .agg #[.int .i64 (c : Int), v]] wx fun e w' => DP b w0 u1 u2 u3 P.1 (t ++ P.2) wx e w') :
    Calls Tryz.prog 86 #[.pointer (some ⟨b, 0, none⟩), .agg #[.int .i64 (c : Int), v]] w fun e w' => DP b w0 u1 u2 u3 P.1 (t ++ P.2) w e w' := by
  have h0 : w.cell? ⟨b, 0, none⟩ = some (.int .i64 7) := by
    have := h.blk.cell 0
    rw [this]
    show some (Value.int .i64 s.ph) = _
    rw [hp]
  have bl : b < w.heap.size := h.blk.lt
  have HM : Hid (∀ wx, Below w.heap.size w wx → Calls Tryz.prog 119 #[.pointer (some ⟨b, 0, none⟩), .agg #[.int .i64 (c : Int), v]] wx fun e w' => DP b w0 u1 u2 u3 P.1 (t ++ P.2) wx e w') := hM
  clear hM hp h
  have hmf : ∀ (fn : Fn) (first cap : Array Value) (w : World), (Instr.makeFunc fn first cap).run Tryz.prog w = .ok (.func fn first cap) w := fun _ _ _ _ => rfl
  go_enter Tryz.func86, Tryz.ntmps86
  go_upto_region 5 with fail
  generalize hW : World.alloc _ _ = W
  have b0 : Below w.heap.size w W := by rw [← hW]; exact below2 _ _ _
  have HR : Hid (Blk w.heap.size #[.int .i64 (c : Int), v] W) := by show Blk _ _ _; rw [← hW]; exact (blk2 w _ _ _ _).1
  have HA : W.cell? ⟨w.heap.size + 1, 7, none⟩ = some (.func (.func 119) #[.pointer (some ⟨b, 0, none⟩)] #[]) := by rw [← hW]; exact (blk2 w _ _ _ _).2.cell 7
  have x0 : W.cell? ⟨b, 0, none⟩ = some (.int .i64 7) := (b0.cell (p := ⟨b, 0, none⟩) bl).trans h0
  have y0 : W.cell? ⟨w.heap.size, 0, none⟩ = some (.int .i64 (c : Int)) := HR.out.cell 0
  have y1 : W.cell? ⟨w.heap.size, 1, none⟩ = some v := HR.out.cell 1
  clear hW

  go_region_with (first | (go_at_call 119; refine (HM.out _ (b0.trans (by repeat (first | exact Below.refl _ _ | refine Below.drew ?_)))).mono ?_; rintro e w2 ⟨rfl, D2, O2⟩; have HD2 : Hid (DB b w0 u1 u2 u3 P.1 (t ++ P.2) w2) := D2; have HO2 : Hid (DO b u2 u3 w w2) := ((DO.of_below b0).trans (DO.of_below (by repeat (first | exact Below.refl _ _ | refine Below.drew ?_)))).trans O2; clear D2 O2))
  all_goals
    go_wp2
    refine bodyPost_ret (v := .tuple #[]) (by simp [results, Tryz.results86, go_sem]) rfl ?_
    exact ⟨rfl, HD2.out, HO2.out⟩

set_option maxHeartbeats 4000000 in
set_option maxRecDepth 100000 in
theorem implTake8 (b : Nat) (w0 : World) (u1 u2 u3 : Value) (s : Sn) (t : ByteArray) (c : Nat) (v : Value) (P : Sn × ByteArray) (w : World) (hp : s.ph = 8) (h : DB b w0 u1 u2 u3 s t w) (hM : ∀ wx, Below w.heap.size w wx → Calls Tryz.prog 120 #[.pointer (some ⟨b, 0, none⟩), .agg #[.int .i64 (c : Int), v]] wx fun e w' => DP b w0 u1 u2 u3 P.1 (t ++ P.2) wx e w') :
    Calls Tryz.prog 86 #[.pointer (some ⟨b, 0, none⟩), .agg #[.int .i64 (c : Int), v]] w fun e w' => DP b w0 u1 u2 u3 P.1 (t ++ P.2) w e w' := by
  have h0 : w.cell? ⟨b, 0, none⟩ = some (.int .i64 8) := by
    have := h.blk.cell 0
    rw [this]
    show some (Value.int .i64 s.ph) = _
    rw [hp]
  have bl : b < w.heap.size := h.blk.lt
  have HM : Hid (∀ wx, Below w.heap.size w wx → Calls Tryz.prog 120 #[.pointer (some ⟨b, 0, none⟩), .agg #[.int .i64 (c : Int), v]] wx fun e w' => DP b w0 u1 u2 u3 P.1 (t ++ P.2) wx e w') := hM
  clear hM hp h
  have hmf : ∀ (fn : Fn) (first cap : Array Value) (w : World), (Instr.makeFunc fn first cap).run Tryz.prog w = .ok (.func fn first cap) w := fun _ _ _ _ => rfl
  by_cases hc : (c : Int) = 421
  · have hb : ((c : Int) == 421) = true := beq_iff_eq.2 hc
    clear hc
    go_enter Tryz.func86, Tryz.ntmps86
    go_upto_region 5 with fail
    generalize hW : World.alloc _ _ = W
    have b0 : Below w.heap.size w W := by rw [← hW]; exact below2 _ _ _
    have HR : Hid (Blk w.heap.size #[.int .i64 (c : Int), v] W) := by show Blk _ _ _; rw [← hW]; exact (blk2 w _ _ _ _).1
    have HA : W.cell? ⟨w.heap.size + 1, 8, none⟩ = some (.func (.func 120) #[.pointer (some ⟨b, 0, none⟩)] #[]) := by rw [← hW]; exact (blk2 w _ _ _ _).2.cell 8
    have x0 : W.cell? ⟨b, 0, none⟩ = some (.int .i64 8) := (b0.cell (p := ⟨b, 0, none⟩) bl).trans h0
    have y0 : W.cell? ⟨w.heap.size, 0, none⟩ = some (.int .i64 (c : Int)) := HR.out.cell 0
    have y1 : W.cell? ⟨w.heap.size, 1, none⟩ = some v := HR.out.cell 1
    clear hW

    go_region_with (first | (go_at_call 120; refine (HM.out _ (b0.trans (by repeat (first | exact Below.refl _ _ | refine Below.drew ?_)))).mono ?_; rintro e w2 ⟨rfl, D2, O2⟩; have HD2 : Hid (DB b w0 u1 u2 u3 P.1 (t ++ P.2) w2) := D2; have HO2 : Hid (DO b u2 u3 w w2) := ((DO.of_below b0).trans (DO.of_below (by repeat (first | exact Below.refl _ _ | refine Below.drew ?_)))).trans O2; clear D2 O2))
    all_goals
      go_wp2
      refine bodyPost_ret (v := .tuple #[]) (by simp [results, Tryz.results86, go_sem]) rfl ?_
      exact ⟨rfl, HD2.out, HO2.out⟩
  · have hb : ((c : Int) == 421) = false := beq_eq_false_iff_ne.2 hc
    clear hc
    go_enter Tryz.func86, Tryz.ntmps86
    go_upto_region 5 with fail
    generalize hW : World.alloc _ _ = W
    have b0 : Below w.heap.size w W := by rw [← hW]; exact below2 _ _ _
    have HR : Hid (Blk w.heap.size #[.int .i64 (c : Int), v] W) := by show Blk _ _ _; rw [← hW]; exact (blk2 w _ _ _ _).1
    have HA : W.cell? ⟨w.heap.size + 1, 8, none⟩ = some (.func (.func 120) #[.pointer (some ⟨b, 0, none⟩)] #[]) := by rw [← hW]; exact (blk2 w _ _ _ _).2.cell 8
    have x0 : W.cell? ⟨b, 0, none⟩ = some (.int .i64 8) := (b0.cell (p := ⟨b, 0, none⟩) bl).trans h0
    have y0 : W.cell? ⟨w.heap.size, 0, none⟩ = some (.int .i64 (c : Int)) := HR.out.cell 0
    have y1 : W.cell? ⟨w.heap.size, 1, none⟩ = some v := HR.out.cell 1
    clear hW

    go_region_with (first | (go_at_call 120; refine (HM.out _ (b0.trans (by repeat (first | exact Below.refl _ _ | refine Below.drew ?_)))).mono ?_; rintro e w2 ⟨rfl, D2, O2⟩; have HD2 : Hid (DB b w0 u1 u2 u3 P.1 (t ++ P.2) w2) := D2; have HO2 : Hid (DO b u2 u3 w w2) := ((DO.of_below b0).trans (DO.of_below (by repeat (first | exact Below.refl _ _ | refine Below.drew ?_)))).trans O2; clear D2 O2))
    all_goals
      go_wp2
      refine bodyPost_ret (v := .tuple #[]) (by simp [results, Tryz.results86, go_sem]) rfl ?_
      exact ⟨rfl, HD2.out, HO2.out⟩

set_option maxHeartbeats 4000000 in
set_option maxRecDepth 100000 in
theorem implTake421 (b : Nat) (w0 : World) (u1 u2 u3 : Value) (s : Sn) (t : ByteArray) (v : Value) (L : List ByteArray) (lo : Nat) (w : World) (hk : s.Ok) (hp : (s.ph == 8) = false) (hS : Strs w lo v L) (h1 : 1 ≤ L.length) (h : DB b w0 u1 u2 u3 s t w) :
    Calls Tryz.prog 86 #[.pointer (some ⟨b, 0, none⟩), .agg #[.int .i64 421, v]] w fun e w' => DP b w0 u1 u2 u3 ((s.dec (refV 421 (L.getD 0 ⟨#[]⟩))).to 9) t w e w' := by
  have H : Hid (DB b w0 u1 u2 u3 s t w) := h
  have HK : Hid s.Ok := hk
  have HS : Hid (Strs w lo v L) := hS
  have c0 : w.cell? ⟨b, 0, none⟩ = some (.int .i64 s.ph) := h.blk.cell 0
  have bl : b < w.heap.size := h.blk.lt
  clear h hk hS
  go_enter Tryz.func86, Tryz.ntmps86
  go_wp2_with fail
  refine (implNo 421 v L lo _ (strs_below HS.out (below1 _ _) (Nat.le_refl _)) h1).mono ?_
  rintro e w1 ⟨rfl, hb1⟩
  have b1 : Below w.heap.size w w1 := (below1 w _).trans (hb1.mono (by simp))
  go_wp2_with fail
  refine (implDecide b w0 u1 u2 u3 s t (refV 421 (L.getD 0 ⟨#[]⟩)) w1 HK.out (H.out.below b1)).mono ?_
  rintro e w2 ⟨rfl, D2, O2⟩
  have HD2 : Hid (DB b w0 u1 u2 u3 (s.dec (refV 421 (L.getD 0 ⟨#[]⟩))) t w2) := D2
  have x0 : w2.cell? ⟨b, 0, none⟩ = some (.int .i64 s.ph) := D2.blk.cell 0
  have f0 : w2.frozen? ⟨b, 0, none⟩ = false := D2.blk.free 0
  have HO2 : Hid (DO b u2 u3 w w2) := (DO.of_below b1).trans O2
  clear D2 O2 c0
  go_wp2
  refine bodyPost_ret (v := .tuple #[]) (by simp [results, Tryz.results86, go_sem]) rfl ?_
  exact ⟨rfl, HD2.out.ph 9, HO2.out.put 0 _⟩
end Go.Proofs.YtngcjlghjidnjaaGreatDoor
