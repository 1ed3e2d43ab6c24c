import Derived.Test.YtlolnfpfipnfeaaGreatDoorMg17
import Derived.Test.YtlolnfpfipnfeaaGreatDoorMg25
namespace Go.Proofs.YtlolnfpfipnfeaaGreatDoor
open Go.ChangeShapes Go.WideShapes Go.ChangeAt Go.RowKit
open Pcs

theorem list_ne2 {x : ByteArray} (h : x.size ≠ 0) : x.toList.isEmpty = false := by
  rw [ByteArray.toList_eq]
  cases e : x.data.toList with
  | nil =>
    have := Lib.size_eq x
    rw [e, List.length_nil] at this; omega
  | cons a l => rfl
theorem specHasI (s : ByteArray) (c : Int) (w : World) (hc : 0 ≤ c) (hs : s.size ≤ 1048576) :
    Calls Tryz.prog 67 #[.string s, .int .u8 c] w fun e w' => e = .returned (.bool (hasN s c.toNat)) ∧ w' = w := by
  have h := specHas s c.toNat w hs
  rw [Int.toNat_of_nonneg hc] at h; exact h
/-- the front of such a slice -/
theorem strs_front {w : World} {lo g cap m : Nat} {L : List ByteArray} (h : Strs w lo (.slice (some ⟨g, 0, none⟩) L.length cap) L) (hm : m ≤ L.length) : Strs w lo (.slice (some ⟨g, 0, none⟩) m cap) (L.take m) := by
  have hl : (L.take m).length = m := by simp; omega
  unfold Strs at h ⊢
  rw [hl]
  refine ⟨by simp; omega, ?_⟩
  rcases h.2 with ⟨hv, _⟩ | ⟨g', cap', cur, hv, hb, hg, hn, hc, hs, ht⟩
  · cases hv
  · injection hv with h1 h2 h3
    injection h1 with h1
    injection h1 with h1
    subst h1 h3
    refine .inr ⟨g, cap, cur, rfl, hb, hg, by omega, hc, hs, ?_⟩
    rw [List.map_take, ← ht, List.take_take, Nat.mul_one, Nat.mul_one, Nat.min_eq_left (by omega)]

set_option maxHeartbeats 2000000 in
set_option maxRecDepth 100000 in
theorem specLines2 (s : ByteArray) (w : World) (hs : s.size ≤ 1048576) :
    Calls Tryz.prog 47 #[.string s] w fun e w' => (∃ v, e = .returned (.tuple #[v, .bool (bodyOk s)]) ∧ (bodyOk s = true → Strs w' w.heap.size v (pieces ⟨#[13, 10]⟩ s).dropLast) ∧ (bodyOk s = false → v = .slice none 0 0)) ∧ Below w.heap.size w w' := by
  by_cases hA : 3000 < s.size
  · have G : bodyOk s = false := by unfold bodyOk; rw [decide_eq_false (by omega)]; rfl
    rw [G]
    go_enter Tryz.func47, Tryz.ntmps47
    go_wp2
    go_ret2
    exact ⟨⟨_, rfl, fun h => (by cases h), fun _ => rfl⟩, Below.refl _ _⟩
  · go_enter Tryz.func47, Tryz.ntmps47
    go_wp2_with fail
    refine (specSplit s _ _ hs (by decide) (by decide)).mono ?_
    rintro e w1 ⟨⟨v, rfl, S1⟩, hb1⟩
    have hE : bodyOk s = linesOk (pieces ⟨#[13, 10]⟩ s) := by unfold bodyOk; rw [decide_eq_true (by omega)]; rfl
    obtain ⟨g, cap, rfl, A1⟩ := strs_ne S1 (pieces_ne _ _)
    obtain ⟨n, hn⟩ : ∃ n, (pieces ⟨#[13, 10]⟩ s).length = n + 1 := ⟨(pieces ⟨#[13, 10]⟩ s).length - 1, by have := List.length_pos_iff.2 (pieces_ne ⟨#[13, 10]⟩ s); omega⟩
    have hpl := pieces_len ⟨#[13, 10]⟩ s
    have hsz : ∀ k (h : k < (pieces ⟨#[13, 10]⟩ s).length), (pieces ⟨#[13, 10]⟩ s)[k].size ≤ 1048576 := fun k h => Nat.le_trans (pieces_size (List.getElem_mem h)) hs
    have HF : Hid (Strs w1 w.heap.size (.slice (some ⟨g, 0, none⟩) n cap) (pieces ⟨#[13, 10]⟩ s).dropLast) := by
      have := strs_front S1 (m := n) (by omega)
      rw [List.dropLast_eq_take, hn, Nat.add_sub_cancel]; exact this
    have hcap := A1.cap
    have hlc := A1.len
    have hgl := A1.lt
    have cell := A1.cell
    clear S1 A1
    rw [hn] at hlc ⊢
    unfold maxLen at hcap
    generalize hLE : pieces ⟨#[13, 10]⟩ s = P at *
    have HP : Hid (pieces ⟨#[13, 10]⟩ s = P) := hLE
    clear hLE
    have HE : Hid (bodyOk s = linesOk P) := hE
    clear hE
    have cN := cell n (by omega)
    have CELL : Hid (∀ i (hi : i < P.length), w1.cell? ⟨g, i, none⟩ = some (.string P[i])) := cell
    clear cell
    have hN1 : ((n : Int) + 1 - 1) = n := by omega
    by_cases hx0 : (P[n]'(by omega)).size = 0
    · have hx1 := empty_of hx0
      rw [hx1] at cN
      have HZ : Hid ((P[n]'(by omega)).size = 0) := hx0
      clear hx0 hx1
      go_wp2
      go_loop [26] (fun iv => ∃ k : Nat, k ≤ n ∧ iv = .int .i64 k ∧ Hid (∀ j (h : j < n), j < k → lineOk (P[j]'(by omega)) = true)) (fun iv => n - (intOf iv).toNat)
      case atStart => exact ⟨0, Nat.zero_le _, rfl, fun j _ h => absurd h (Nat.not_lt_zero _)⟩
      case round =>
        obtain ⟨k, hk, rfl, HA⟩ := hrel
        by_cases hlt : k < n
        · have ec := CELL.out k (by omega)
          have hx := hsz k (by omega)
          have HB : Hid (lineOk (P[k]'(by omega)) = true → ∀ j (h : j < n), j < k + 1 → lineOk (P[j]'(by omega)) = true) := by
            intro h1 j h hj
            rcases Nat.lt_succ_iff_lt_or_eq.1 hj with hj | rfl
            · exact HA.out j h hj
            · exact h1
          have HC : Hid (lineOk (P[k]'(by omega)) = false → bodyOk s = false) := fun h => by rw [HE.out]; exact lines_bad hn hlt h
          have HLB : Hid (lineOk (P[k]'(by omega)) = (decide ((P[k]'(by omega)).size ≤ 998) && (!hasN (P[k]'(by omega)) 13 && (!hasN (P[k]'(by omega)) 10 && !hasN (P[k]'(by omega)) 0)))) := rfl
          generalize P[k]'(by omega) = x at *
          by_cases h998 : (998 : Int) < x.size
          · have G : Hid (bodyOk s = false) := HC.out (by rw [HLB.out, decide_eq_false (by omega)]; rfl)
            clear HB HC
            go_wp2
            go_ret2
            exact ⟨⟨_, by rw [G.out]; rfl, fun h => (by rw [G.out] at h; cases h), fun _ => rfl⟩, hb1⟩
          · cases h13 : hasN x 13 with
            | true =>
              have G : Hid (bodyOk s = false) := HC.out (by rw [HLB.out, h13]; simp)
              clear HB HC
              have k13 : hasN x (13 : Int).toNat = true := h13
              go_wp2_with (go_at_call 67; refine (specHasI x _ _ (by decide) hx).mono ?_; rintro e w' ⟨rfl, hw⟩; rw [hw, k13])
              go_ret2
              exact ⟨⟨_, by rw [G.out]; rfl, fun h => (by rw [G.out] at h; cases h), fun _ => rfl⟩, hb1⟩
            | false =>
              cases h10 : hasN x 10 with
              | true =>
                have G : Hid (bodyOk s = false) := HC.out (by rw [HLB.out, h13, h10]; simp)
                clear HB HC
                have k13 : hasN x (13 : Int).toNat = false := h13
                have k10 : hasN x (10 : Int).toNat = true := h10
                go_wp2_with (go_at_call 67; refine (specHasI x _ _ (by decide) hx).mono ?_; rintro e w' ⟨rfl, hw⟩; rw [hw]; first | rw [k13] | rw [k10])
                go_ret2
                exact ⟨⟨_, by rw [G.out]; rfl, fun h => (by rw [G.out] at h; cases h), fun _ => rfl⟩, hb1⟩
              | false =>
                cases h0 : hasN x 0 with
                | true =>
                  have G : Hid (bodyOk s = false) := HC.out (by rw [HLB.out, h13, h10, h0]; simp)
                  clear HB HC
                  have k13 : hasN x (13 : Int).toNat = false := h13
                  have k10 : hasN x (10 : Int).toNat = false := h10
                  have k0 : hasN x (0 : Int).toNat = true := h0
                  go_wp2_with (go_at_call 67; refine (specHasI x _ _ (by decide) hx).mono ?_; rintro e w' ⟨rfl, hw⟩; rw [hw]; first | rw [k13] | rw [k10] | rw [k0])
                  go_ret2
                  exact ⟨⟨_, by rw [G.out]; rfl, fun h => (by rw [G.out] at h; cases h), fun _ => rfl⟩, hb1⟩
                | false =>
                  have G : Hid (∀ j (h : j < n), j < k + 1 → lineOk (P[j]'(by omega)) = true) := HB.out (by rw [HLB.out, h13, h10, h0, decide_eq_true (by omega)]; rfl)
                  clear HB HC
                  have k13 : hasN x (13 : Int).toNat = false := h13
                  have k10 : hasN x (10 : Int).toNat = false := h10
                  have k0 : hasN x (0 : Int).toNat = false := h0
                  go_wp2_with (go_at_call 67; refine (specHasI x _ _ (by decide) hx).mono ?_; rintro e w' ⟨rfl, hw⟩; rw [hw]; first | rw [k13] | rw [k10] | rw [k0])
                  go_round
                  case rel => exact ⟨k + 1, by omega, by go_num, G.out⟩
                  case measure => simp [intOf]; omega
        · obtain rfl : k = n := by omega
          have G : Hid (bodyOk s = true) := by
            show _ = _
            rw [HE.out]
            exact lines_good hn (fun j h => HA.out j h h) HZ.out
          go_wp2
          go_ret2
          exact ⟨⟨_, by rw [G.out]; rfl, fun _ => by rw [HP.out]; exact HF.out, fun h => by rw [G.out] at h; cases h⟩, hb1⟩
    · have G : Hid (bodyOk s = false) := by
        show _ = _
        rw [HE.out]; exact lines_last hn hx0
      have hne2 : (P[n]'(by omega)).toList.isEmpty = false := list_ne2 hx0
      clear HE HF
      generalize P[n]'(by omega) = x at *
      go_wp2
      go_ret2
      exact ⟨⟨_, by rw [G.out]; rfl, fun h => (by rw [G.out] at h; cases h), fun _ => rfl⟩, hb1⟩
theorem specLines (s : ByteArray) (w : World) (hs : s.size ≤ 1048576) :
    Calls Tryz.prog 47 #[.string s] w fun e w' => (∃ v, e = .returned (.tuple #[v, .bool (bodyOk s)]) ∧ (bodyOk s = true → Strs w' w.heap.size v (pieces ⟨#[13, 10]⟩ s).dropLast)) ∧ Below w.heap.size w w' :=
  (specLines2 s w hs).mono fun _ _ ⟨⟨v, h1, h2, _⟩, h3⟩ => ⟨⟨v, h1, h2⟩, h3⟩
end Go.Proofs.YtlolnfpfipnfeaaGreatDoor
namespace Go.Proofs.YtlolnfpfipnfeaaGreatDoor
open Go.ChangeShapes Go.WideShapes Go.ChangeAt Go.RowKit
open Pcs

def cutB (k : Nat) : ByteArray := ⟨#[98]⟩ ++ ⟨(Lib.decDigits k).toArray⟩
theorem cutB_list (k : Nat) : (cutB k).data.toList = cutL k := by unfold cutB cutL; simp
theorem cutB_mk (k : Nat) : cutB k = mk (cutL k) := by rw [← cutB_list, mk_data]
theorem cutB_size {k : Nat} (h : k < 10000) : (cutB k).size ≤ 10 := by
  rw [Lib.size_eq, cutB_list]
  have := dec_len 4 k h (by decide)
  unfold cutL
  simp only [List.length_cons]
  omega
theorem keep_takes (l : ByteArray) (k : Nat) : ((keepB l (((cutB k).size : Int) + 2)).toList == ((⟨#[45, 45]⟩ : ByteArray) ++ cutB k).toList) = takes k l.data.toList := by
  have e1 : ((⟨#[45, 45]⟩ : ByteArray) ++ cutB k).data.toList = 45 :: 45 :: 98 :: Lib.decDigits k := by
    have := cutB_list k
    unfold cutL at this
    simp [this]
  have e2 : (keepB l (((cutB k).size : Int) + 2)).data.toList = l.data.toList.take ((cutB k).size + 2) := by
    by_cases h : (l.size : Int) < ((cutB k).size : Int) + 2
    · rw [keepB_big _ _ (by omega) h, List.take_of_length_le (by rw [← Lib.size_eq]; omega)]
    · rw [keepB_mid _ _ (by omega) (by omega), Lib.extract_data, show (((cutB k).size : Int) + 2).toNat = (cutB k).size + 2 by omega]
      simp
  have e3 : (cutB k).size + 2 = (45 :: 45 :: 98 :: Lib.decDigits k).length := by
    rw [Lib.size_eq, cutB_list]; rfl
  rw [Lib.toList_data, Lib.toList_data, e1, e2, e3]
  unfold takes
  rw [Bool.eq_iff_iff, beq_iff_eq, List.isPrefixOf_iff_prefix, List.prefix_iff_eq_take]
  exact ⟨fun h => h.symm, fun h => h.symm⟩
theorem free_snoc (M : List (List UInt8)) (k i : Nat) (h : i < M.length) : freeN (M.take (i + 1)) k = (freeN (M.take i) k && !takes k M[i]) := by
  unfold freeN
  rw [List.take_succ_eq_append_getElem h, List.all_append]
  simp

set_option maxHeartbeats 2000000 in
set_option maxRecDepth 100000 in
theorem specBound (h : ByteArray) (w : World) (hb : bodyOk h = true) (hs : h.size ≤ 1048576) :
    Calls Tryz.prog 18 #[.string h] w fun e w' => e = .returned (.string (mk (cutL (bndS (linesB h))))) ∧ Below w.heap.size w w' := by
  have HM : Hid (linesB h = (pieces ⟨#[13, 10]⟩ h).dropLast.map (·.data.toList)) := rfl
  have HN : Hid ((linesB h).length ≤ 3000) := (body_lines hb).2.2.2
  have HZ : ∀ x ∈ (pieces ⟨#[13, 10]⟩ h).dropLast, x.size ≤ 1048576 := fun x hx => Nat.le_trans (pieces_size (List.dropLast_subset _ hx)) hs
  have HBS : Hid (∀ n, (∀ j, j < n → freeN (linesB h) j = false ∧ j ≤ (linesB h).length) → (freeN (linesB h) n = true ∨ (linesB h).length < n) → bndS (linesB h) = n) := fun n h1 h2 => bndS_at h1 h2
  generalize bndS (linesB h) = R at *
  generalize linesB h = M at *
  have HL : Hid (∀ wx : World, Calls Tryz.prog 47 #[.string h] wx fun e w' => (∃ v, e = .returned (.tuple #[v, .bool true]) ∧ Strs w' wx.heap.size v (pieces ⟨#[13, 10]⟩ h).dropLast) ∧ Below wx.heap.size wx w') := fun wx => by
    refine (specLines2 h wx hs).mono ?_
    rintro e w' ⟨⟨v, rfl, h1, _⟩, h2⟩
    exact ⟨⟨v, by rw [hb], h1 hb⟩, h2⟩
  go_enter Tryz.func18, Tryz.ntmps18
  go_wp2_with fail
  refine (HL.out _).mono ?_
  rintro e w1 ⟨⟨v, rfl, S1⟩, hb1⟩
  clear HL
  generalize (pieces ⟨#[13, 10]⟩ h).dropLast = L at *
  have hML : M.length = L.length := by rw [HM.out, List.length_map]
  have hL3 : L.length ≤ 3000 := by rw [← hML]; exact HN.out
  have HG : Hid (∀ i (h1 : i < L.length), ∃ h2 : i < M.length, M[i] = L[i].data.toList) := by
    intro i h1
    refine ⟨by omega, ?_⟩
    simp only [HM.out, List.getElem_map]
  obtain ⟨a, c, rfl⟩ : ∃ a c, v = .slice a L.length c := by
    rcases S1.cases with ⟨rfl, rfl⟩ | ⟨g, cap, rfl, _⟩
    · exact ⟨_, _, rfl⟩
    · exact ⟨_, _, rfl⟩
  have HS1 : Hid (Strs w1 w.heap.size (.slice a L.length c) L) := S1
  clear S1
  go_wp2_with fail
  go_loopw [5] (fun kv wr => ∃ k : Nat, kv = .int .i64 k ∧ k ≤ 4000 ∧ Hid (Below w1.heap.size w1 wr) ∧ Hid (∀ j, j < k → freeN M j = false ∧ j ≤ M.length)) (fun kv _ => 5000 - (intOf kv).toNat)
  case atStart => exact ⟨0, rfl, by omega, Below.refl _ _, fun j hj => absurd hj (Nat.not_lt_zero _)⟩
  case round =>
    obtain ⟨k, rfl, hk, HB, HF⟩ := hrel
    obtain ⟨wq, hwq⟩ : ∃ wq : World, wq = wr := ⟨wr, rfl⟩
    subst hwq
    have HD : Hid (∀ wx : World, Calls Tryz.prog 19 #[.int .i64 (k : Int)] wx fun e w' => e = .returned (.string ⟨(Lib.decDigits k).toArray⟩) ∧ Below wx.heap.size wx w') := fun wx => specDec k k (Nat.le_refl _) (by omega) wx
    have hcs := cutB_size (k := k) (by omega)
    have HCE : Hid ((⟨#[98]⟩ : ByteArray) ++ ⟨(Lib.decDigits k).toArray⟩ = cutB k) := rfl
    have HKT : Hid (∀ l : ByteArray, ((keepB l (((cutB k).size : Int) + 2)).toList == ((⟨#[45, 45]⟩ : ByteArray) ++ cutB k).toList) = takes k l.data.toList) := fun l => keep_takes l k
    have HCM : Hid (cutB k = mk (cutL k)) := cutB_mk k
    have hds : (⟨(Lib.decDigits k).toArray⟩ : ByteArray).size ≤ 9 := by
      have : (cutB k).size = 1 + (⟨(Lib.decDigits k).toArray⟩ : ByteArray).size := by unfold cutB; rw [ByteArray.size_append]; rfl
      omega
    generalize (⟨(Lib.decDigits k).toArray⟩ : ByteArray) = D at *
    go_wp2_with fail
    refine (HD.out _).mono ?_
    rintro e w2 ⟨rfl, hb2⟩
    have HB2 : Hid (Below w1.heap.size w1 w2) := HB.out.trans (hb2.mono HB.out.size)
    clear hb2 HD
    go_wp2_with fail
    rw [HCE.out]
    generalize cutB k = C at *
    go_wp2_with fail
    go_loopw [22, 7] (fun iv fv wr => ∃ i : Nat, i ≤ L.length ∧ iv = .int .i64 i ∧ fv = .bool (freeN (M.take i) k) ∧ wr = w2) (fun iv _ _ => L.length - (intOf iv).toNat)
    case atStart => exact ⟨0, Nat.zero_le _, rfl, rfl, rfl⟩
    case round =>
      obtain ⟨i, hi, rfl, rfl, rfl⟩ := hrel
      by_cases hlt : i < L.length
      · obtain ⟨hm, hg⟩ := HG.out i hlt
        obtain ⟨g, cap, hv, A1⟩ := strs_ne HS1.out (fun e => by rw [e] at hlt; exact absurd hlt (Nat.not_lt_zero _))
        injection hv with hv1 _ hv3
        subst hv1 hv3
        have hz := HZ L[i] (List.getElem_mem hlt)
        have ci : wr.cell? ⟨g, i, none⟩ = some (.string L[i]) := (HB2.out.cell (p := ⟨g, i, none⟩) A1.lt).trans (A1.cell i hlt)
        have HSN : Hid (freeN (M.take (i + 1)) k = (freeN (M.take i) k && !takes k L[i].data.toList)) := by show _ = _; rw [free_snoc M k i hm, hg]
        have HT : Hid (((keepB L[i] ((C.size : Int) + 2)).toList == ((⟨#[45, 45]⟩ : ByteArray) ++ C).toList) = takes k L[i].data.toList) := HKT.out L[i]
        generalize L[i] = X at *
        have hcap := A1.len
        have hcap2 := A1.cap
        unfold maxLen at hcap2
        clear A1
        cases hf : freeN (M.take i) k
        · have G : Hid (freeN (M.take (i + 1)) k = false) := by show _ = _; rw [HSN.out, hf]; rfl
          go_wp2_with fail
          go_roundw
          case rel => exact ⟨i + 1, by omega, by go_num, by rw [G.out], (by first | rfl | trivial)⟩
          case measure => simp [intOf]; omega
        · cases ht : takes k X.data.toList
          · have G : Hid (freeN (M.take (i + 1)) k = true) := by show _ = _; rw [HSN.out, hf, ht]; rfl
            have HTb : ((keepB X ((C.size : Int) + 2)).toList == ((⟨#[45, 45]⟩ : ByteArray) ++ C).toList) = false := by rw [HT.out, ht]
            clear HT HSN
            go_wp2_with (go_at_call 24; refine (specKeep X _ _).mono ?_; rintro e w' ⟨rfl, rfl⟩)
            go_roundw
            case rel => exact ⟨i + 1, by omega, by go_num, by rw [G.out], (by first | rfl | trivial)⟩
            case measure => simp [intOf]; omega
          · have G : Hid (freeN (M.take (i + 1)) k = false) := by show _ = _; rw [HSN.out, hf, ht]; rfl
            have HTb : ((keepB X ((C.size : Int) + 2)).toList == ((⟨#[45, 45]⟩ : ByteArray) ++ C).toList) = true := by rw [HT.out, ht]
            clear HT HSN
            go_wp2_with (go_at_call 24; refine (specKeep X _ _).mono ?_; rintro e w' ⟨rfl, rfl⟩)
            go_roundw
            case rel => exact ⟨i + 1, by omega, by go_num, by rw [G.out], (by first | rfl | trivial)⟩
            case measure => simp [intOf]; omega
      · obtain rfl : i = L.length := by omega
        have HTK : M.take L.length = M := List.take_of_length_le (by omega)
        have HF0 : Hid (∀ f : Bool, freeN M k = f → freeN (M.take L.length) k = f) := fun f hf => by rw [HTK]; exact hf
        clear HTK
        cases hf : freeN M k
        · have hf2 := HF0.out false hf
          rw [hf2]
          by_cases hkl : M.length < k
          · have hki : (L.length : Int) < (k : Int) := by omega
            have GR : Hid (R = k) := HBS.out k HF.out (.inr hkl)
            clear HF0 hf2
            go_wp2
            go_ret
            exact ⟨ret_str (by rw [HCM.out, GR.out]), hb1.trans (HB2.out.mono hb1.size)⟩
          · have hki : ¬ (L.length : Int) < (k : Int) := by omega
            have HF2 : Hid (∀ j, j < k + 1 → freeN M j = false ∧ j ≤ M.length) := by
              intro j hj
              by_cases e : j = k
              · subst e; exact ⟨hf, by omega⟩
              · exact HF.out j (by omega)
            have hk4 : k + 1 ≤ 4000 := by omega
            clear HF0 hf2 HF hf
            go_wp2
            go_roundw
            case rel => exact ⟨k + 1, by go_num, hk4, HB2, HF2⟩
            case measure => simp [intOf]; omega
        · have hf2 := HF0.out true hf
          rw [hf2]
          have GR : Hid (R = k) := HBS.out k HF.out (.inl hf)
          clear HF0 hf2
          go_wp2
          go_ret
          exact ⟨ret_str (by rw [HCM.out, GR.out]), hb1.trans (HB2.out.mono hb1.size)⟩
end Go.Proofs.YtlolnfpfipnfeaaGreatDoor
