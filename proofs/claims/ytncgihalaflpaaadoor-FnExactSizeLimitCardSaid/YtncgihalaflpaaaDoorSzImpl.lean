import Derived.Test.YtncgihalaflpaaaDoorSzMath
import Derived.Test.YtncgihalaflpaaaDoorDom
namespace Go.Proofs.YtncgihalaflpaaaDoor
open Go.ChangeShapes Go.WideShapes Go.ChangeAt Go.RowKit
open Pcs

/-- what is asked of strings.EqualFold -/
def FoldAt (w : World) : Prop := ∀ (wx : World) (s : ByteArray), s.size = 4 → Below w.heap.size w wx → Calls Tryd.prog 52 #[.string s, .string ⟨#[83, 73, 90, 69]⟩] wx fun e w' => e = .returned (.bool (foldN s)) ∧ Below wx.heap.size wx w'
theorem FoldAt.below {w w1 : World} (h : FoldAt w) (hb : Below w.heap.size w w1) : FoldAt w1 := fun wx s hs hx => h wx s hs (hb.trans (hx.mono hb.size))

set_option maxHeartbeats 2000000 in
set_option maxRecDepth 100000 in
theorem implSizeOf (X : ByteArray) (w : World) (hl : LenIn w) (hs : X.size ≤ 1048576) (hef : FoldAt w) :
    Calls Tryd.prog 39 #[.string X] w fun e w' => (∃ (d : ByteArray) (f : Bool), e = .returned (.tuple #[.string d, .bool f]) ∧ ((f = false ∧ szLine X = none) ∨ (f = true ∧ d.size ≤ 10 ∧ okAll digN d = true ∧ szLine X = some (numN d d.size)))) ∧ Below w.heap.size w w' := by
  have HE : Hid (FoldAt w) := hef
  have HL : Hid (LenIn w) := hl
  clear hef hl
  go_enter Tryd.func39, Tryd.ntmps39
  go_wp2_with fail
  refine (implCut X ⟨#[32]⟩ _ HL.out hs).mono ?_
  rintro e w1 ⟨a, b, f, n, rfl, hw1, HCI, ha, hb⟩
  have b1 : Below w.heap.size w w1 := by rw [hw1]; exact drew_below (Below.refl _ _) n
  obtain ⟨k1, k2⟩ := head_cut HCI.out
  have K1 : Hid (szHead X = (f && (decide (a.size = 4) && foldN a))) := k1
  have K2 : Hid (szHead X = true → b = X.extract 5 X.size) := k2
  have N1 : Hid (szHead X = false → szLine X = none) := fun e => by unfold szLine; rw [e]; rfl
  clear k1 k2 HCI hw1
  have NO : ∀ (A : Prop), A → A := fun _ h => h
  cases f with
  | false =>
    have G : Hid (szLine X = none) := N1.out (by rw [K1.out]; rfl)
    go_wp2
    refine bodyPost_ret (v := .tuple #[.string ⟨#[]⟩, .bool false]) (by simp [results, Tryd.results39, go_sem]) rfl ⟨⟨_, _, rfl, .inl ⟨rfl, G.out⟩⟩, b1⟩
  | true =>
    by_cases h4 : a.size = 4
    rotate_left
    · have G : Hid (szLine X = none) := N1.out (by rw [K1.out, decide_eq_false h4]; rfl)
      have h4b : ((a.size : Int) != 4) = true := by rw [bne_iff_ne]; omega
      go_wp2
      refine bodyPost_ret (v := .tuple #[.string ⟨#[]⟩, .bool false]) (by simp [results, Tryd.results39, go_sem]) rfl ⟨⟨_, _, rfl, .inl ⟨rfl, G.out⟩⟩, b1⟩
    have h4b : ((a.size : Int) != 4) = false := by simp [h4]
    have H4 : Hid (a.size = 4) := h4
    have K3 : Hid (szHead X = foldN a) := by show _ = _; rw [K1.out, decide_eq_true h4]; rfl
    clear h4 K1 NO
    go_wp2_with fail
    refine (HE.out _ a H4.out b1).mono ?_
    rintro e w2 ⟨rfl, hb2⟩
    have b2 : Below w.heap.size w w2 := b1.trans (hb2.mono b1.size)
    clear hb2 b1
    have hfo : foldN a = false ∨ foldN a = true := by cases foldN a <;> simp
    rcases hfo with hfo | hfo
    · have G : Hid (szLine X = none) := N1.out (by rw [K3.out, hfo])
      rw [hfo]
      go_wp2
      refine bodyPost_ret (v := .tuple #[.string ⟨#[]⟩, .bool false]) (by simp [results, Tryd.results39, go_sem]) rfl ⟨⟨_, _, rfl, .inl ⟨rfl, G.out⟩⟩, b2⟩
    rw [hfo]
    have hh : szHead X = true := by rw [K3.out, hfo]
    have hbx := K2.out hh
    have SL1 : Hid (numOk b = false → szLine X = none) := fun e => by unfold szLine; rw [hh, ← hbx, e]; rfl
    have SL2 : Hid (numOk b = true → szLine X = some (numN b b.size)) := fun e => by unfold szLine numV; rw [hh, ← hbx, e]; rfl
    clear hh hbx K2 K3 hfo N1
    by_cases c1 : b.size = 0
    · have he := empty_of c1
      subst he
      have G : Hid (szLine X = none) := SL1.out (by rfl)
      go_wp2
      refine bodyPost_ret (v := .tuple #[.string ⟨#[]⟩, .bool false]) (by simp [results, Tryd.results39, go_sem]) rfl ⟨⟨_, _, rfl, .inl ⟨rfl, G.out⟩⟩, b2⟩
    have hln := list_ne c1
    by_cases c2 : 10 < b.size
    · have c2i : (10 : Int) < b.size := by omega
      have G : Hid (szLine X = none) := SL1.out (by unfold numOk; rw [decide_eq_false (show ¬ b.size ≤ 10 by omega)]; simp)
      go_wp2
      refine bodyPost_ret (v := .tuple #[.string ⟨#[]⟩, .bool false]) (by simp [results, Tryd.results39, go_sem]) rfl ⟨⟨_, _, rfl, .inl ⟨rfl, G.out⟩⟩, b2⟩
    have c2i : ¬ (10 : Int) < b.size := by omega
    have NOK : Hid (numOk b = okAll digN b) := by show _ = _; unfold numOk; rw [decide_eq_true (show 1 ≤ b.size by omega), decide_eq_true (show b.size ≤ 10 by omega)]; rfl
    go_wp2_with fail
    refine (implDigits b _ (by omega)).mono ?_
    rintro e w3 ⟨rfl, hw3⟩
    rw [hw3]
    clear hw3
    have hdo : okAll digN b = false ∨ okAll digN b = true := by cases okAll digN b <;> simp
    rcases hdo with hdo | hdo
    · have G : Hid (szLine X = none) := SL1.out (by rw [NOK.out, hdo])
      rw [hdo]
      go_wp2
      refine bodyPost_ret (v := .tuple #[.string ⟨#[]⟩, .bool false]) (by simp [results, Tryd.results39, go_sem]) rfl ⟨⟨_, _, rfl, .inl ⟨rfl, G.out⟩⟩, b2⟩
    · have G : Hid (okAll digN b = true ∧ szLine X = some (numN b b.size)) := ⟨hdo, SL2.out (by rw [NOK.out, hdo])⟩
      rw [hdo]
      clear hdo
      go_wp2
      refine bodyPost_ret (v := .tuple #[.string b, .bool true]) (by simp [results, Tryd.results39, go_sem]) rfl ⟨⟨_, _, rfl, .inr ⟨rfl, by omega, G.out.1, G.out.2⟩⟩, b2⟩

set_option maxHeartbeats 2000000 in
set_option maxRecDepth 100000 in
theorem implSize (v : Value) (L : List ByteArray) (w : World) (h : ArgS w v L) (hs : ∀ s ∈ L, s.size ≤ 1048576) (hl : LenIn w) (hef : FoldAt w) :
    Calls Tryd.prog 20 #[v] w fun e w' => e = .returned (.tuple #[.int .i64 ((szLim L).getD 0 : Int), .bool (szLim L).isSome]) ∧ Below w.heap.size w w' := by
  have hLm := h.1
  unfold maxLen at hLm
  have HE : Hid (FoldAt w) := hef
  have HL : Hid (LenIn w) := hl
  have HS : Hid (∀ s ∈ L, s.size ≤ 1048576) := hs
  have HR : Hid ((L.drop 1).findSome? szLine = szLim L) := rfl
  generalize szLim L = RS at *
  obtain ⟨a0, c0, hform⟩ : ∃ a c, v = .slice a L.length c := by
    rcases h.2.2 with ⟨rfl, a, c, rfl⟩ | ⟨b, off, cap, rfl, _⟩
    · exact ⟨_, _, rfl⟩
    · exact ⟨_, _, rfl⟩
  by_cases h0 : L.length ≤ 1
  · have G : Hid (RS = none) := by show _ = _; rw [← HR.out, List.drop_eq_nil_of_le h0]; rfl
    subst hform
    clear h hs HS HR hef hl
    have hlt : ¬ (1 : Int) < L.length := by omega
    go_enter Tryd.func20, Tryd.ntmps20
    go_wp2
    refine wp_loop_rounds 1 ?_; rw [rounds_succ]
    go_wp2
    refine bodyPost_ret (v := .tuple #[.int .i64 0, .bool false]) (by simp [results, Tryd.results20, go_sem]) rfl ⟨by rw [G.out]; rfl, Below.refl _ _⟩
  · obtain ⟨b, off, cap, hv, hbw, hcell⟩ : ∃ b off cap, v = .slice (some ⟨b, off, none⟩) L.length cap ∧ b < w.heap.size ∧ ∀ i (hi : i < L.length), w.cell? ⟨b, off + i, none⟩ = some (.string L[i]) := by
      rcases h.2.2 with ⟨hL, _⟩ | h
      · rw [hL] at h0; simp at h0
      · exact h
    subst hv
    have HC : Hid (∀ i (hi : i < L.length), w.cell? ⟨b, off + i, none⟩ = some (.string L[i])) := hcell
    clear h hs hcell hform hef hl
    go_enter Tryd.func20, Tryd.ntmps20
    go_wp2
    go_loopw [4] (fun iv wr => ∃ k : Nat, 1 ≤ k ∧ k ≤ L.length ∧ iv = .int .i64 k ∧ Below w.heap.size w wr ∧ Hid ((L.drop k).findSome? szLine = RS)) (fun iv _ => L.length - (intOf iv).toNat)
    case atStart => exact ⟨1, Nat.le_refl _, by omega, rfl, Below.refl _ _, HR⟩
    case round =>
      obtain ⟨k, hk1, hk, rfl, hb, HK⟩ := hrel
      by_cases hlt : k < L.length
      · have ek := (hb.cell (p := ⟨b, off + k, none⟩) hbw).trans (HC.out k hlt)
        have hX := HS.out L[k] (List.getElem_mem hlt)
        have HF := find_drop hlt
        rw [HK.out] at HF
        have HN : Hid (szLine L[k] = none → (L.drop (k + 1)).findSome? szLine = RS) := fun e => by rw [e] at HF; exact HF.symm
        have HY : Hid (∀ n, szLine L[k] = some n → RS = some n) := fun n e => by rw [e] at HF; exact HF
        clear HF HK
        generalize L[k] = X at *
        go_wp2_with fail
        refine (implSizeOf X _ (len_below HL.out hb) hX (HE.out.below hb)).mono ?_
        rintro e w5 ⟨⟨d, f, rfl, hdf⟩, hb5⟩
        have b5 : Below w.heap.size w w5 := hb.trans (hb5.mono hb.size)
        clear hb5 ek
        rcases hdf with ⟨rfl, hno⟩ | ⟨rfl, hd10, hdd, hso⟩
        · have G : Hid _ := HN.out hno
          clear hno
          go_wp2
          go_roundw
          case rel => exact ⟨k + 1, by omega, by omega, by go_num, b5, G⟩
          case measure => simp [intOf]; omega
        · have G : Hid (RS = some (numN d d.size)) := HY.out _ hso
          have HDD : Hid (okAll digN d = true) := hdd
          clear hso hdd
          go_wp2_with fail
          refine (implNumber d _ hd10 HDD.out).mono ?_
          rintro e w6 ⟨rfl, hw6⟩
          rw [hw6]
          clear hw6
          go_wp2
          refine bodyPost_ret (v := .tuple #[.int .i64 (numN d d.size : Int), .bool true]) (by simp [results, Tryd.results20, go_sem]) rfl ⟨by rw [G.out]; rfl, b5⟩
      · obtain rfl : k = L.length := by omega
        have G : Hid (RS = none) := by
          show _ = _
          rw [← HK.out, List.drop_eq_nil_of_le (by omega)]; rfl
        go_wp2
        refine bodyPost_ret (v := .tuple #[.int .i64 0, .bool false]) (by simp [results, Tryd.results20, go_sem]) rfl ⟨by rw [G.out]; rfl, hb⟩
end Go.Proofs.YtncgihalaflpaaaDoor
