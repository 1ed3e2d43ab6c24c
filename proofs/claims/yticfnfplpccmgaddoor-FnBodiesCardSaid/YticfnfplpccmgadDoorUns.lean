import Derived.Test.YticfnfplpccmgadDoorUnsM
import Derived.Test.YticfnfplpccmgadDoorStf
import Derived.Shelf.Strings.BuilderF
namespace Go.Proofs.YticfnfplpccmgadDoor
open Go.ChangeShapes Go.WideShapes Go.ChangeAt Go.RowKit
open Pcs

theorem unst_no2 {d : ByteArray} {F T c : List UInt8} (hd : d.data.toList = F ++ T) (hT : T.length = 3) (hc : c = cand2 F) (hne : stuffB (mk c) ≠ d) : Unst d ⟨#[]⟩ false := by
  refine .inr ⟨rfl, rfl, fun b hb e => hne ?_⟩
  have h1 := stuff_data hb
  rw [e, hd] at h1
  have h2 := (List.append_inj' h1 (by rw [hT]; rfl)).1
  have : c = b.data.toList := by rw [hc, h2]; exact (stuff_back hb).2
  rw [this, mk_data]; exact e
theorem unst_yes {c d : ByteArray} (h : stuffB c = d) (hd : d.size ≠ 0) : Unst d c true := .inl ⟨rfl, body_of_stuff h hd, h⟩

theorem bStringF (B b : Nat) (l : List UInt8) (w : World) (h : Lib.IsBuilderF 67 5 B b (Lib.byteCells l) w) (hBw : B ≤ w.heap.size) :
    Calls Tryd.prog 41 #[.pointer (some ⟨b, 0, none⟩)] w fun e w' => e = .returned (.string ⟨l.toArray⟩) ∧ Lib.IsBuilderF 67 5 B b (Lib.byteCells l) w' ∧ Below B w w' := Go.Proofs.Any.Builder_String_any_f laysString extraString B b l w h hBw
theorem isbF_below {T e : TypeId} {B b : Nat} {bs : List Value} {w w1 : World} (h : Lib.IsBuilderF T e B b bs w) (hb : Below w.heap.size w w1) : Lib.IsBuilderF T e B b bs w1 := by
  have key : ∀ p, Lib.BuilderAtF T e B b p bs w → Lib.BuilderAtF T e B b p bs w1 := by
    intro p hp
    obtain ⟨hB, v, hbk, hown, hne⟩ := hp
    refine ⟨hB, v, by rw [hb.block b (Array.getElem?_eq_some_iff.1 hbk).1]; exact hbk, ⟨hown.1, ?_⟩, hne⟩
    rcases hown.2 with h0 | ⟨g, cap, cur, fz, hv, hl, hg, rest⟩
    · exact .inl h0
    · refine .inr ⟨g, cap, cur, fz, hv, hl, ?_, rest⟩
      rw [hb.block g (Array.getElem?_eq_some_iff.1 hg).1]; exact hg
  exact h.elim (fun x => .inl (key _ x)) (fun x => .inr (key _ x))

/-- what the builder holds behind k lines -/
def candA (A : List ByteArray) : List UInt8 := (A.map fun x => trimDot x.data.toList).flatten
theorem candA_step (A : List ByteArray) (k : Nat) (h : k < A.length) : candA (A.take (k + 1)) = candA (A.take k) ++ trimDot A[k].data.toList := by
  unfold candA
  rw [List.take_add_one, List.getElem?_eq_getElem h, List.map_append, List.flatten_append]
  simp
theorem candA_all (F : ByteArray) : candA (piecesAfter ⟨#[13, 10]⟩ F) = cand1 F.data.toList := by
  unfold candA piecesAfter cand1
  rw [List.map_map]; rfl
theorem candA_le (A : List ByteArray) (k : Nat) : (candA (A.take k)).length ≤ (candA A).length := by
  unfold candA
  rw [List.map_take]
  generalize (A.map fun x => trimDot x.data.toList) = M
  induction M generalizing k with
  | nil => simp
  | cons x M ih =>
    cases k with
    | zero => simp
    | succ k =>
      have := ih k
      simp only [List.take_succ_cons, List.flatten_cons, List.length_append]; omega
theorem str_ne {a b : ByteArray} (h : a ≠ b) : (a.toList == b.toList) = false := by
  rw [beq_eq_false_iff_ne, Lib.toList_data, Lib.toList_data]
  intro e; exact h (by rw [← mk_data a, ← mk_data b, e])
theorem after_size {F x : ByteArray} (h : x ∈ piecesAfter ⟨#[13, 10]⟩ F) : x.size ≤ F.size := by
  obtain ⟨l, hl, rfl⟩ := List.mem_map.1 h
  have e := congrArg List.length (after_join (sep := [13, 10]) (by simp) F.data.toList.length F.data.toList [] (Nat.le_refl _))
  rw [List.nil_append, ← Lib.size_eq] at e
  rw [mk_size, ← e]
  have : ∀ (M : List (List UInt8)), l ∈ M → l.length ≤ M.flatten.length := by
    intro M hm
    induction M with
    | nil => cases hm
    | cons y M ih =>
      rw [List.flatten_cons, List.length_append]
      rcases List.mem_cons.1 hm with rfl | hm
      · omega
      · have := ih hm; omega
  exact this _ hl
theorem trimIs (X : ByteArray) (w : World) :
    Calls Tryd.prog 46 #[.string X, .string ⟨#[46]⟩] w fun e w' => e = .returned (.string (mk (trimDot X.data.toList))) ∧ w' = w := Any.strings_TrimPrefix Tryd.lays101 X ⟨#[46]⟩ w

set_option maxHeartbeats 2000000 in
set_option maxRecDepth 100000 in
theorem implUnstuff (d : ByteArray) (w : World) (hl : LenIn w) (hs : d.size ≤ 1048576) :
    Calls Tryd.prog 12 #[.string d] w fun e w' => (∃ r f, e = .returned (.tuple #[.string r, .bool f]) ∧ Unst d r f) ∧ Below w.heap.size w w' := by
  have HL : Hid (LenIn w) := hl
  clear hl
  cases hsf : Lib.hasSuffix d.data.toList [46, 13, 10] with
  | false =>
    have cut : Calls Tryd.prog 43 #[.string d, .string ⟨#[46, 13, 10]⟩] w fun e w' => e = .returned (.tuple #[.string d, .bool false]) ∧ w' = w := by
      refine (Any.strings_CutSuffix Tryd.lays104 _ _ w (by omega)).mono ?_
      rintro e w' ⟨rfl, rfl⟩
      have ht : Lib.trimSuffix d.data.toList [46, 13, 10] = d.data.toList := by
        unfold Lib.trimSuffix; rw [if_neg (by rw [hsf]; decide)]
      refine ⟨?_, rfl⟩
      show Ending.returned (.tuple #[.string (mk (Lib.trimSuffix d.data.toList [46, 13, 10])), .bool (Lib.hasSuffix d.data.toList [46, 13, 10])]) = _
      rw [hsf, ht, mk_data]
    have G : Hid (Unst d ⟨#[]⟩ false) := unst_noend hsf
    clear hsf
    go_enter Tryd.func12, Tryd.ntmps12
    go_wp2_with (go_at_call 43; refine cut.mono ?_; rintro e w' ⟨rfl, hw⟩; rw [hw])
    go_ret2
    exact ⟨⟨_, _, rfl, G.out⟩, Below.refl _ _⟩
  | true =>
    obtain ⟨D, hD⟩ : ∃ D, D ++ [46, 13, 10] = d.data.toList := List.isSuffixOf_iff_suffix.1 hsf
    have hDl : D.length + 3 = d.size := by rw [Lib.size_eq, ← hD]; simp
    have cut : Calls Tryd.prog 43 #[.string d, .string ⟨#[46, 13, 10]⟩] w fun e w' => e = .returned (.tuple #[.string (mk D), .bool true]) ∧ w' = w := by
      refine (Any.strings_CutSuffix Tryd.lays104 _ _ w (by omega)).mono ?_
      rintro e w' ⟨rfl, rfl⟩
      have ht : Lib.trimSuffix d.data.toList [46, 13, 10] = D := by
        unfold Lib.trimSuffix; rw [if_pos hsf, ← hD]; simp
      refine ⟨?_, rfl⟩
      show Ending.returned (.tuple #[.string (mk (Lib.trimSuffix d.data.toList [46, 13, 10])), .bool (Lib.hasSuffix d.data.toList [46, 13, 10])]) = _
      rw [hsf, ht]
    have NO : Hid (∀ c, c = cand1 D → stuffB (mk c) ≠ d → Unst d ⟨#[]⟩ false) := fun c hc hne => unst_no hD.symm (.inl hc) hne
    have YES : Hid (∀ c, stuffB c = d → Unst d c true) := fun c h => unst_yes h (by omega)
    have hFs : (mk D).size ≤ 1048576 := by rw [mk_size]; omega
    have HCA : Hid (candA (piecesAfter ⟨#[13, 10]⟩ (mk D)) = cand1 D) := candA_all (mk D)
    have hcl : (cand1 D).length ≤ 1048576 := Nat.le_trans (cand1_len D) (by omega)
    clear hsf hD hDl
    generalize mk D = F at *
    go_enter Tryd.func12, Tryd.ntmps12
    go_wp2_with (first
      | (go_at_call 43; refine cut.mono ?_; rintro e w' ⟨rfl, hw⟩; rw [hw])
      | fail)
    clear cut
    refine (implSplitAfter F _ _ (len_below HL.out (below1 _ _)) hFs (by decide)).mono ?_
    rintro e w2 ⟨⟨v, rfl, S2⟩, hb2⟩
    have hne : piecesAfter ⟨#[13, 10]⟩ F ≠ [] := fun e => by
      have := afterLen F
      rw [e] at this
      exact pieces_ne ⟨#[13, 10]⟩ F (List.eq_nil_of_length_eq_zero this.symm)
    have hpl : (piecesAfter ⟨#[13, 10]⟩ F).length ≤ 1048577 := by
      have := pieces_len ⟨#[13, 10]⟩ F
      rw [afterLen]; omega
    obtain ⟨g, cap, rfl, A2⟩ := strs_ne S2 hne
    have HSZ : Hid (∀ k (h : k < (piecesAfter ⟨#[13, 10]⟩ F).length), (piecesAfter ⟨#[13, 10]⟩ F)[k].size ≤ 1048576) := fun k h => Nat.le_trans (after_size (List.getElem_mem h)) hFs
    have CELL : Hid (∀ i (hi : i < (piecesAfter ⟨#[13, 10]⟩ F).length), w2.cell? ⟨g, i, none⟩ = some (.string (piecesAfter ⟨#[13, 10]⟩ F)[i])) := A2.cell
    have HLE : Hid (∀ k, (candA ((piecesAfter ⟨#[13, 10]⟩ F).take k)).length ≤ 1048576) := fun k => by
      refine Nat.le_trans (candA_le _ k) ?_
      rw [HCA.out]; exact hcl
    have hcap := A2.cap
    have hlc := A2.len
    have hgl := A2.lt
    have hglo := A2.lo
    unfold maxLen at hcap
    have hz2 := hb2.size
    simp only [World.size_alloc] at hz2 hglo
    have HB0 : Hid (BldS w2.heap.size w.heap.size (Lib.byteCells (candA ((piecesAfter ⟨#[13, 10]⟩ F).take 0))) w2) := bldS_fresh (by
      rw [hb2.block _ (by simp)]; exact heap_alloc_new w _)
    have HW2 : Hid (Below w.heap.size w w2) := (below1 w _).trans (hb2.mono (by simp))
    have HL2 : Hid (LenIn w2) := len_below HL.out HW2.out
    clear S2 A2 hne hb2
    generalize piecesAfter ⟨#[13, 10]⟩ F = A at *
    go_wp2
    go_loopw [8, 19] (fun _ iv wr => ∃ k : Nat, k ≤ A.length ∧ iv = .int .i64 k ∧ Hid (BldS w2.heap.size w.heap.size (Lib.byteCells (candA (A.take k))) wr) ∧ Hid (Besides w2.heap.size w.heap.size w2 wr)) (fun _ iv _ => A.length - (intOf iv).toNat)
    case atStart => exact ⟨0, Nat.zero_le _, rfl, HB0, Besides.refl _ _ _⟩
    case round =>
      obtain ⟨k, hk, rfl, HK, HBS⟩ := hrel
      have hlen := HLE.out k
      by_cases hlt : k < A.length
      · have ec := CELL.out k hlt
        rw [← HBS.out.cell hgl (by omega)] at ec
        have hx := HSZ.out k hlt
        have HST : Hid (candA (A.take (k + 1)) = candA (A.take k) ++ trimDot A[k].data.toList) := candA_step A k hlt
        generalize A[k] = x at *
        obtain ⟨X, HX⟩ : ∃ X, Hid (mk (trimDot x.data.toList) = X) := ⟨mk (trimDot x.data.toList), rfl⟩
        have hXs : X.size ≤ 1048576 := by
          rw [← HX.out, mk_size]
          have := trim_le x.data.toList
          rw [← Lib.size_eq] at this; omega
        have trim : ∀ wx, Calls Tryd.prog 46 #[.string x, .string ⟨#[46]⟩] wx fun e w' => e = .returned (.string X) ∧ w' = wx := by
          intro wx; rw [← HX.out]; exact trimIs x wx
        go_wp2_with fail
        refine (trim _).mono ?_
        rintro e w3 ⟨rfl, hw3⟩
        rw [hw3]
        clear trim
        go_wp2_with fail
        refine (bWrite2 _ _ _ _ _ HK.out (by rw [Lib.byteCells_length]; omega)).mono ?_
        rintro e w5 ⟨rfl, K5, B5⟩
        rw [bytes_cat] at K5
        have HK5 : Hid (BldS w2.heap.size w.heap.size (Lib.byteCells (candA (A.take (k + 1)))) w5) := by
          show BldS _ _ _ _
          rw [HST.out]
          rw [← HX.out] at K5; exact K5
        have HB5 : Hid (Besides w2.heap.size w.heap.size w2 w5) := HBS.out.trans B5
        clear K5 B5
        go_wp2
        go_roundw
        case rel => exact ⟨k + 1, by omega, by go_num, HK5, HB5⟩
        case measure => simp [intOf]; omega
      · obtain rfl : k = A.length := by omega
        have HK5 : Hid (Lib.IsBuilderF 67 5 w.heap.size w.heap.size (Lib.byteCells (cand1 D)) wr) := by
          have e := HK.out
          rw [List.take_length, HCA.out] at e
          exact Lib.IsBuilderF.of (bldS_is e (Nat.le_refl _))
        have hz5 : w.heap.size ≤ wr.heap.size := by have := HBS.out.size; omega
        have HBW : Hid (Below w.heap.size w wr) := HW2.out.trans (HBS.out.below (Nat.le_refl _) (by omega))
        go_wp2_with fail
        refine (bStringF _ _ _ _ HK5.out hz5).mono ?_
        rintro e w6 ⟨rfl, K6, hb6⟩
        have HK6 : Hid (Lib.IsBuilderF 67 5 w.heap.size w.heap.size (Lib.byteCells (cand1 D)) w6) := K6
        have HB6 : Hid (Below w.heap.size w w6) := HBW.out.trans hb6
        have hz6 := hb6.size
        clear K6 hb6
        obtain ⟨c, Hc⟩ : ∃ c, Hid ((⟨(cand1 D).toArray⟩ : ByteArray) = c) := ⟨_, rfl⟩
        rw [Hc.out]
        have hcs : c.size ≤ 1048576 := by rw [← Hc.out]; exact (mk_size (cand1 D)).symm ▸ hcl
        go_wp2_with fail
        refine (implStuff c _ (len_below HL.out HB6.out) hcs).mono ?_
        rintro e w7 ⟨rfl, hb7⟩
        have HK7 : Hid (Lib.IsBuilderF 67 5 w.heap.size w.heap.size (Lib.byteCells (cand1 D)) w7) := isbF_below HK6.out hb7
        have HB7 : Hid (Below w.heap.size w w7) := HB6.out.trans (hb7.mono (by omega))
        have hz7 : w.heap.size ≤ w7.heap.size := by have := hb7.size; omega
        by_cases hq : stuffB c = d
        · have G : Hid (Unst d c true) := YES.out c hq
          have Hq : Hid (stuffB c = d) := hq
          rw [Hq.out]
          clear hq hb7
          go_wp2_with fail
          refine (bStringF _ _ _ _ HK7.out hz7).mono ?_
          rintro e w8 ⟨rfl, _, hb8⟩
          rw [Hc.out]
          go_wp2
          go_ret2
          exact ⟨⟨_, _, rfl, G.out⟩, HB7.out.trans hb8⟩
        · have G : Hid (Unst d ⟨#[]⟩ false) := NO.out _ rfl (by rw [show mk (cand1 D) = c from Hc.out]; exact hq)
          have hqb := str_ne hq
          clear hq hb7
          generalize stuffB c = T at *
          go_wp2
          go_ret2
          exact ⟨⟨_, _, rfl, G.out⟩, HB7.out⟩
end Go.Proofs.YticfnfplpccmgadDoor
