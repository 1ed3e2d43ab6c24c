import Derived.Test.YtlolnfpfipnfeaaGreatDoorMg20
import Derived.Test.YtlolnfpfipnfeaaGreatDoorMg6
import Derived.Test.YtlolnfpfipnfeaaGreatDoorMg17
namespace Go.Proofs.YtlolnfpfipnfeaaGreatDoor
open Go.ChangeShapes Go.WideShapes Go.ChangeAt Go.RowKit

/-- a byte as one line may hold it -/
def clB (c : UInt8) : UInt8 := if c.toNat < 32 ∨ 126 < c.toNat then 63 else c
def clN (L : List UInt8) (k : Nat) : List UInt8 := (L.take k).map clB ++ L.drop k
def cleanB (s : ByteArray) : ByteArray := ⟨((keepB s 200).data.toList.map clB).toArray⟩
theorem clN_len (L : List UInt8) (k : Nat) : (clN L k).length = L.length := by simp [clN]; omega
theorem clN_zero (L : List UInt8) : clN L 0 = L := by simp [clN]
theorem clN_end (L : List UInt8) (k : Nat) (h : L.length ≤ k) : clN L k = L.map clB := by simp [clN, List.take_of_length_le h, List.drop_eq_nil_of_le h]
theorem clN_at (L : List UInt8) (k : Nat) (h : k < L.length) : (clN L k)[k]'(by rw [clN_len]; exact h) = L[k] := by
  unfold clN
  rw [List.getElem_append_right (by simp; omega)]
  simp [show min k L.length = k by omega]
theorem clN_step (L : List UInt8) (k : Nat) (h : k < L.length) : clN L (k + 1) = (clN L k).set k (clB L[k]) := by
  unfold clN
  rw [List.take_add_one, List.getElem?_eq_getElem h, List.set_append_right _ _ (by simp; omega)]
  simp only [List.length_map, List.length_take]
  rw [show k - min k L.length = 0 by omega, List.drop_eq_getElem_cons h, List.set_cons_zero, List.map_append, List.append_assoc]
  rfl
theorem clN_same (L : List UInt8) (k : Nat) (h : k < L.length) (e : clB L[k] = L[k]) : clN L (k + 1) = clN L k := by
  rw [clN_step L k h, e]
  have h2 := clN_at L k h
  have h3 : k < (clN L k).length := by rw [clN_len]; exact h
  have h4 := List.set_getElem_self h3
  rw [h2] at h4
  exact h4
theorem clB_low {c : UInt8} (h : (c.toNat : Int) < 32) : clB c = 63 := by rw [clB, if_pos (by omega)]
theorem clB_high {c : UInt8} (h : 126 < (c.toNat : Int)) : clB c = 63 := by rw [clB, if_pos (by omega)]
theorem clB_mid {c : UInt8} (h : 32 ≤ (c.toNat : Int)) (h2 : (c.toNat : Int) ≤ 126) : clB c = c := by rw [clB, if_neg (by omega)]

set_option maxHeartbeats 1000000 in
set_option maxRecDepth 100000 in
theorem specClean (s : ByteArray) (w : World) (hs : s.size ≤ 1048576) :
    Calls Tryz.prog 28 #[.string s] w fun e w' => e = .returned (.string (cleanB s)) ∧ Below w.heap.size w w' := by
  go_enter Tryz.func28, Tryz.ntmps28
  go_wp2_with fail
  refine (specKeep s 200 _).mono ?_
  rintro e w1 ⟨rfl, rfl⟩
  have hk : (keepB s 200).size ≤ 1048576 := Nat.le_trans (keepB_size s 200) hs
  have HG : Hid (∀ K, keepB s 200 = K → cleanB s = ⟨(K.data.toList.map clB).toArray⟩) := fun K h => by rw [cleanB, h]
  generalize hK : keepB s 200 = K at *
  have HG2 : Hid (cleanB s = ⟨(K.data.toList.map clB).toArray⟩) := HG.out K rfl
  clear HG hK
  have hkl : K.data.toList.length = K.size := by simp
  have HC : Hid (Below w1.heap.size w1 (Lib.bytesWorld w1 5 K)) := bytsBelow w1 K
  have HB : Hid (BytsAt (Lib.bytesWorld w1 5 K) w1.heap.size (clN K.data.toList 0)) := by
    show BytsAt _ _ _
    rw [clN_zero]; exact bytsNew w1 K
  have hconv := Lib.run_convert_string_bytes (P := Tryz.prog) w1 9 22 5 K Tryz.underlying9 Tryz.underlying22 Tryz.underlying5
  generalize Lib.bytesWorld w1 5 K = w2 at *
  generalize grownCap w1 K.size 0 5 = cap at *
  have HL : Hid (K.data.toList.length = K.size) := hkl
  clear hkl
  generalize K.data.toList = L at *
  generalize hgE : w1.heap.size = g at *
  have HGE : Hid (w1.heap.size = g) := hgE
  clear hgE
  go_wp2
  go_loopw [11] (fun iv wr => ∃ k : Nat, k ≤ K.size ∧ iv = .int .i64 k ∧ Hid (BytsAt wr g (clN L k)) ∧ Hid (Below g w1 wr)) (fun iv _ => K.size - (intOf iv).toNat)
  case atStart => exact ⟨0, Nat.zero_le _, rfl, HB, HC⟩
  case round =>
    obtain ⟨k, hk2, rfl, HK, HW⟩ := hrel
    by_cases hlt : k < K.size
    · have hL : k < L.length := by rw [HL.out]; exact hlt
      have hc := HK.out.cell k (by rw [clN_len]; exact hL)
      rw [clN_at L k hL] at hc
      have hf := HK.out.free k (by rw [clN_len]; exact hL)
      have HST : Hid (clB L[k] = 63 → BytsAt (wr.setCell ⟨g, k, none⟩ (.int .u8 63)) g (clN L (k + 1))) := fun e => by
        rw [clN_step L k hL, e]
        exact HK.out.set k (by rw [clN_len]; exact hL) 63
      have HSM : Hid (clB L[k] = L[k] → BytsAt wr g (clN L (k + 1))) := fun e => by
        rw [clN_same L k hL e]; exact HK.out
      have HLO : Hid ((L[k].toNat : Int) < 32 → clB L[k] = 63) := clB_low
      have HHI : Hid (126 < (L[k].toNat : Int) → clB L[k] = 63) := clB_high
      have HMI : Hid (32 ≤ (L[k].toNat : Int) → (L[k].toNat : Int) ≤ 126 → clB L[k] = L[k]) := clB_mid
      generalize L[k] = c at *
      by_cases c1 : (c.toNat : Int) < 32
      · go_wp2
        go_roundw
        case rel => exact ⟨k + 1, by omega, by go_num, HST.out (HLO.out c1), HW.out.setCell (Nat.le_refl _) _⟩
        case measure => simp [intOf]; omega
      · by_cases c2 : 126 < (c.toNat : Int)
        · go_wp2
          go_roundw
          case rel => exact ⟨k + 1, by omega, by go_num, HST.out (HHI.out c2), HW.out.setCell (Nat.le_refl _) _⟩
          case measure => simp [intOf]; omega
        · go_wp2
          go_roundw
          case rel => exact ⟨k + 1, by omega, by go_num, HSM.out (HMI.out (by omega) (by omega)), HW⟩
          case measure => simp [intOf]; omega
    · obtain rfl : k = K.size := by omega
      have hback := bytsBack wr g cap K.size _ (by rw [clN_len]; exact HL.out) HK.out
      rw [clN_end L K.size (by rw [HL.out]; exact Nat.le_refl _)] at hback
      go_wp2
      go_ret
      exact ⟨ret_str HG2.out.symm, by rw [HGE.out]; exact HW.out⟩

set_option maxHeartbeats 1000000 in
set_option maxRecDepth 100000 in
theorem implClean (s : ByteArray) (w : World) (hs : s.size ≤ 1048576) :
    Calls Tryz.prog 60 #[.string s] w fun e w' => e = .returned (.string (cleanB s)) ∧ Below w.heap.size w w' := by
  go_enter Tryz.func60, Tryz.ntmps60
  go_wp2_with fail
  refine (implKeep s 200 _ hs).mono ?_
  rintro e w1 ⟨rfl, rfl⟩
  have hk : (keepB s 200).size ≤ 1048576 := Nat.le_trans (keepB_size s 200) hs
  have HG : Hid (∀ K, keepB s 200 = K → cleanB s = ⟨(K.data.toList.map clB).toArray⟩) := fun K h => by rw [cleanB, h]
  generalize hK : keepB s 200 = K at *
  have HG2 : Hid (cleanB s = ⟨(K.data.toList.map clB).toArray⟩) := HG.out K rfl
  clear HG hK
  have hkl : K.data.toList.length = K.size := by simp
  have HC : Hid (Below w1.heap.size w1 (Lib.bytesWorld w1 5 K)) := bytsBelow w1 K
  have HB : Hid (BytsAt (Lib.bytesWorld w1 5 K) w1.heap.size (clN K.data.toList 0)) := by
    show BytsAt _ _ _
    rw [clN_zero]; exact bytsNew w1 K
  have hconv := Lib.run_convert_string_bytes (P := Tryz.prog) w1 9 22 5 K Tryz.underlying9 Tryz.underlying22 Tryz.underlying5
  generalize Lib.bytesWorld w1 5 K = w2 at *
  generalize grownCap w1 K.size 0 5 = cap at *
  have HL : Hid (K.data.toList.length = K.size) := hkl
  clear hkl
  generalize K.data.toList = L at *
  generalize hgE : w1.heap.size = g at *
  have HGE : Hid (w1.heap.size = g) := hgE
  clear hgE
  go_wp2
  go_loopw [11] (fun iv wr => ∃ k : Nat, k ≤ K.size ∧ iv = .int .i64 k ∧ Hid (BytsAt wr g (clN L k)) ∧ Hid (Below g w1 wr)) (fun iv _ => K.size - (intOf iv).toNat)
  case atStart => exact ⟨0, Nat.zero_le _, rfl, HB, HC⟩
  case round =>
    obtain ⟨k, hk2, rfl, HK, HW⟩ := hrel
    by_cases hlt : k < K.size
    · have hL : k < L.length := by rw [HL.out]; exact hlt
      have hc := HK.out.cell k (by rw [clN_len]; exact hL)
      rw [clN_at L k hL] at hc
      have hf := HK.out.free k (by rw [clN_len]; exact hL)
      have HST : Hid (clB L[k] = 63 → BytsAt (wr.setCell ⟨g, k, none⟩ (.int .u8 63)) g (clN L (k + 1))) := fun e => by
        rw [clN_step L k hL, e]
        exact HK.out.set k (by rw [clN_len]; exact hL) 63
      have HSM : Hid (clB L[k] = L[k] → BytsAt wr g (clN L (k + 1))) := fun e => by
        rw [clN_same L k hL e]; exact HK.out
      have HLO : Hid ((L[k].toNat : Int) < 32 → clB L[k] = 63) := clB_low
      have HHI : Hid (126 < (L[k].toNat : Int) → clB L[k] = 63) := clB_high
      have HMI : Hid (32 ≤ (L[k].toNat : Int) → (L[k].toNat : Int) ≤ 126 → clB L[k] = L[k]) := clB_mid
      generalize L[k] = c at *
      by_cases c1 : (c.toNat : Int) < 32
      · go_wp2
        go_roundw
        case rel => exact ⟨k + 1, by omega, by go_num, HST.out (HLO.out c1), HW.out.setCell (Nat.le_refl _) _⟩
        case measure => simp [intOf]; omega
      · by_cases c2 : 126 < (c.toNat : Int)
        · go_wp2
          go_roundw
          case rel => exact ⟨k + 1, by omega, by go_num, HST.out (HHI.out c2), HW.out.setCell (Nat.le_refl _) _⟩
          case measure => simp [intOf]; omega
        · go_wp2
          go_roundw
          case rel => exact ⟨k + 1, by omega, by go_num, HSM.out (HMI.out (by omega) (by omega)), HW⟩
          case measure => simp [intOf]; omega
    · obtain rfl : k = K.size := by omega
      have hback := bytsBack wr g cap K.size _ (by rw [clN_len]; exact HL.out) HK.out
      rw [clN_end L K.size (by rw [HL.out]; exact Nat.le_refl _)] at hback
      go_wp2
      go_ret
      exact ⟨ret_str HG2.out.symm, by rw [HGE.out]; exact HW.out⟩
end Go.Proofs.YtlolnfpfipnfeaaGreatDoor
namespace Go.Proofs.YtlolnfpfipnfeaaGreatDoor
open Pcs

/-- a byte of an atom -/
def atomN (b : Nat) : Bool := markN ⟨#[43, 95, 45]⟩ b
def atomOk (a : ByteArray) : Bool := decide (a.size ≠ 0) && okAll atomN a
/-- a local part: atoms with points between, at most 64 bytes -/
def locOk (s : ByteArray) : Bool := decide (s.size ≤ 64) && (pieces ⟨#[46]⟩ s).all atomOk

def noGap : Bool → List UInt8 → Bool
  | e, [] => !e
  | e, b :: l => if b = 46 then !e && noGap true l else noGap false l

theorem pcs_dot_cons (acc : List UInt8) (b : UInt8) (l : List UInt8) : pcs [46] 0 acc (b :: l) = if b = 46 then acc :: pcs [46] 0 [] l else pcs [46] 0 (acc ++ [b]) l := by
  by_cases h : b = 46
  · subst h
    rw [if_pos rfl, pcs_hit (by simp) (by simp [List.isPrefixOf])]; simp
  · rw [if_neg h]
    have : ([46] : List UInt8).isPrefixOf (b :: l) = false := by
      simp only [List.isPrefixOf, Bool.and_eq_false_iff]
      left
      rw [beq_eq_false_iff_ne]; exact fun e => h e.symm
    exact pcs_miss this

theorem pcs_gap (f : UInt8 → Bool) : ∀ (l acc : List UInt8), (pcs [46] 0 acc l).all (fun x => decide (x.length ≠ 0) && x.all f) = (noGap acc.isEmpty l && acc.all f && l.all fun b => decide (b = 46) || f b)
  | [], acc => by
    cases acc <;> simp [pcs, noGap]
  | b :: l, acc => by
    rw [pcs_dot_cons]
    by_cases h : b = 46
    · subst h
      rw [if_pos rfl, List.all_cons, pcs_gap f l []]
      cases acc with
      | nil => simp [noGap]
      | cons c t => simp [noGap, Bool.and_assoc, Bool.and_comm]
    · rw [if_neg h, pcs_gap f l (acc ++ [b])]
      have e : (acc ++ [b]).isEmpty = false := by cases acc <;> rfl
      rw [e, noGap, if_neg h]
      simp [h, Bool.and_assoc]

def has2 (l : List UInt8) : Bool := Lib.contains l [46, 46]
theorem has2_nil : has2 [] = false := rfl
theorem has2_cons (b : UInt8) (l : List UInt8) : has2 (b :: l) = (([46, 46] : List UInt8).isPrefixOf (b :: l) || has2 l) := by
  unfold has2 Lib.contains
  rw [Lib.index]
  have h1 := Lib.index_ge l [46, 46]
  split
  · rename_i h; rw [h]; rfl
  · rename_i h
    rw [Bool.eq_false_iff.2 h, Bool.false_or]
    split
    · rename_i h2
      rw [beq_iff_eq] at h2
      rw [h2]
    · rename_i h2
      rw [beq_iff_eq] at h2
      rw [decide_eq_decide]; omega

theorem noGap_true (l : List UInt8) : noGap true l = (decide (l ≠ []) && decide (l.head? ≠ some 46) && noGap false l) := by
  cases l with
  | nil => simp [noGap]
  | cons b l =>
    by_cases h : b = 46
    · subst h; simp [noGap]
    · simp [noGap, h]
theorem noGap_false : ∀ l : List UInt8, noGap false l = (!has2 l && decide (l.getLast? ≠ some 46))
  | [] => by simp [noGap, has2_nil]
  | b :: l => by
    have ih := noGap_false l
    rw [has2_cons]
    by_cases h : b = 46
    · subst h
      rw [noGap, if_pos rfl, noGap_true, ih]
      cases l with
      | nil => simp [List.isPrefixOf]
      | cons c t =>
        by_cases hc : c = 46
        · subst hc; simp [List.isPrefixOf]
        · have hc' : ((46 : UInt8) == c) = false := beq_eq_false_iff_ne.2 fun e => hc e.symm
          simp [List.isPrefixOf, hc, hc']
    · have hb : ((46 : UInt8) == b) = false := beq_eq_false_iff_ne.2 fun e => h e.symm
      rw [noGap, if_neg h, ih]
      cases l with
      | nil => simp [List.isPrefixOf, h]
      | cons c t => simp [List.isPrefixOf, hb]

theorem pieces_all (sep s : ByteArray) (f : ByteArray → Bool) : (pieces sep s).all f = (pcs sep.data.toList 0 [] s.data.toList).all fun l => f (mk l) := by
  unfold pieces; rw [List.all_map]; rfl

theorem locOk_eq (s : ByteArray) : locOk s = (decide (s.size ≤ 64) && (decide (s.data.toList ≠ []) && decide (s.data.toList.head? ≠ some 46) && (!has2 s.data.toList && decide (s.data.toList.getLast? ≠ some 46))) && okAll (markN ⟨#[46, 43, 95, 45]⟩) s) := by
  unfold locOk
  rw [pieces_all, Bool.and_assoc]
  congr 1
  have e : (fun l => atomOk (mk l)) = fun x : List UInt8 => decide (x.length ≠ 0) && x.all fun b => atomN b.toNat := by
    funext l
    unfold atomOk
    rw [okAll_list, mk_size, data_mk]
  rw [e]
  show (pcs [46] 0 [] s.data.toList).all _ = _
  rw [pcs_gap, okAll_list, ← noGap_false, ← noGap_true]
  simp only [List.all_nil, Bool.and_true]
  congr 1
  congr 1
  funext b
  show (decide (b = 46) || (letN b.toNat || ([43, 95, 45] : List UInt8).contains (UInt8.ofNat b.toNat))) = (letN b.toNat || ([46, 43, 95, 45] : List UInt8).contains (UInt8.ofNat b.toNat))
  rw [UInt8.ofNat_toNat]
  simp only [List.contains_cons]
  have e46 : (b == (46 : UInt8)) = decide (b = 46) := rfl
  rw [e46]
  cases letN b.toNat <;> simp

theorem head_byte {s : ByteArray} (h : 0 < s.size) : s.data.toList.head? = some 46 ↔ byteOf s 0 = 46 := by
  rw [byteOf_eq s 0 h, List.head?_eq_getElem?, List.getElem?_eq_getElem (by rw [← Lib.size_eq]; exact h)]
  rw [Option.some.injEq]
  constructor
  · intro e; exact congrArg UInt8.toNat e
  · intro e; exact UInt8.toNat_inj.1 e
theorem last_byte {s : ByteArray} (h : 0 < s.size) : s.data.toList.getLast? = some 46 ↔ byteOf s (s.size - 1) = 46 := by
  have hl : s.size - 1 < s.data.toList.length := by rw [← Lib.size_eq]; omega
  rw [byteOf_eq s (s.size - 1) (by omega), List.getLast?_eq_getElem?, ← Lib.size_eq, List.getElem?_eq_getElem hl]
  rw [Option.some.injEq]
  constructor
  · intro e; exact congrArg UInt8.toNat e
  · intro e; exact UInt8.toNat_inj.1 e

theorem loc_empty {s : ByteArray} (h : s.size < 1) : locOk s = false := by
  have : s.data.toList = [] := List.eq_nil_of_length_eq_zero (by rw [← Lib.size_eq]; omega)
  rw [locOk_eq, this]; simp
theorem loc_long {s : ByteArray} (h : 64 < s.size) : locOk s = false := by
  unfold locOk; rw [decide_eq_false (by omega)]; rfl
theorem loc_first {s : ByteArray} (h : 0 < s.size) (h1 : byteOf s 0 = 46) : locOk s = false := by
  rw [locOk_eq, (head_byte h).2 h1]; simp
theorem loc_last {s : ByteArray} (h : 0 < s.size) (h1 : byteOf s (s.size - 1) = 46) : locOk s = false := by
  rw [locOk_eq, (last_byte h).2 h1]; simp
theorem loc_rest {s : ByteArray} (h : 0 < s.size) (h64 : s.size ≤ 64) (h0 : byteOf s 0 ≠ 46) (h1 : byteOf s (s.size - 1) ≠ 46) :
    locOk s = (!has2 s.data.toList && okAll (markN ⟨#[46, 43, 95, 45]⟩) s) := by
  have hne : s.data.toList ≠ [] := fun e => by
    have := Lib.size_eq s
    rw [e, List.length_nil] at this; omega
  rw [locOk_eq, decide_eq_true h64, decide_eq_true hne, decide_eq_true (show s.data.toList.head? ≠ some 46 from fun e => h0 ((head_byte h).1 e)), decide_eq_true (show s.data.toList.getLast? ≠ some 46 from fun e => h1 ((last_byte h).1 e))]
  simp

/-- every byte that is no point lies in a piece -/
theorem pcs_cover (f : UInt8 → Bool) : ∀ (l acc : List UInt8), (pcs [46] 0 acc l).all (fun x => x.all f) = (acc.all f && l.all fun b => decide (b = 46) || f b)
  | [], acc => by simp [pcs]
  | b :: l, acc => by
    rw [pcs_dot_cons]
    by_cases h : b = 46
    · subst h
      rw [if_pos rfl, List.all_cons, pcs_cover f l []]; simp
    · rw [if_neg h, pcs_cover f l (acc ++ [b])]
      simp [h, Bool.and_assoc]

theorem dom_noAt {s : ByteArray} (h : domOk s = true) : (64 : UInt8) ∉ s.data.toList := by
  intro hm
  unfold domOk at h
  rw [Bool.and_eq_true, pieces_all] at h
  have h2 : (pcs [46] 0 [] s.data.toList).all (fun x => x.all fun b => letN b.toNat || b.toNat == 45) = true := by
    refine List.all_eq_true.2 fun x hx => ?_
    have h3 := List.all_eq_true.1 h.2 x hx
    unfold labOk at h3
    simp only [Bool.and_eq_true] at h3
    have h4 := h3.2
    rw [okAll_list] at h4
    exact h4
  rw [pcs_cover] at h2
  simp only [List.all_nil, Bool.true_and] at h2
  have := List.all_eq_true.1 h2 64 hm
  revert this; decide

def addrOk (s : ByteArray) : Bool := decide (s.size ≤ 160) && ((Lib.cut s.data.toList [64]).2.2 && (locOk (mk (Lib.cut s.data.toList [64]).1) && domOk (mk (Lib.cut s.data.toList [64]).2.1)))

theorem index_at (l : List UInt8) (h : (64 : UInt8) ∉ l) : Lib.index l [64] = -1 := by
  refine Lib.index_none fun j _ => ?_
  unfold Lib.occAt
  rw [Bool.eq_false_iff]
  intro e
  obtain ⟨r, hr⟩ := List.isPrefixOf_iff_prefix.1 e
  exact h (List.mem_of_mem_drop (i := j) (by rw [← hr]; simp))

/-- what the pieces at the @ say of an address -/
theorem addr_pieces (s : ByteArray) :
    (∃ a b : ByteArray, pieces ⟨#[64]⟩ s = [a, b] ∧ a.size ≤ s.size ∧ b.size ≤ s.size ∧ addrOk s = (decide (s.size ≤ 160) && (locOk a && domOk b))) ∨ ((pieces ⟨#[64]⟩ s).length ≠ 2 ∧ addrOk s = false) := by
  have hne : ([64] : List UInt8) ≠ [] := by simp
  have hp : pieces ⟨#[64]⟩ s = (pcs [64] 0 [] s.data.toList).map mk := rfl
  have hsz := Lib.size_eq s
  rcases pcs_index hne s.data.toList [] with ⟨h1, h2⟩ | ⟨i, h1, h2, h3⟩
  · right
    rw [hp, h2]
    refine ⟨by simp, ?_⟩
    unfold addrOk Lib.cut
    rw [if_neg (by omega)]; simp
  · have hc : Lib.cut s.data.toList [64] = (s.data.toList.take i, s.data.toList.drop (i + 1), true) := by
      unfold Lib.cut
      rw [if_pos (by omega), h1]; rfl
    have ha : addrOk s = (decide (s.size ≤ 160) && (locOk (mk (s.data.toList.take i)) && domOk (mk (s.data.toList.drop (i + 1))))) := by
      unfold addrOk; rw [hc]; simp
    rw [List.nil_append] at h3
    rcases pcs_index hne (s.data.toList.drop (i + 1)) [] with ⟨g1, g2⟩ | ⟨j, g1, g2, g3⟩
    · left
      refine ⟨mk (s.data.toList.take i), mk (s.data.toList.drop (i + 1)), ?_, ?_, ?_, ha⟩
      · rw [hp, h3]
        show (_ :: pcs [64] 0 [] (s.data.toList.drop (i + 1))).map mk = _
        rw [g2]; rfl
      · rw [mk_size, List.length_take]; omega
      · rw [mk_size, List.length_drop]; omega
    · right
      constructor
      · rw [hp, h3]
        show ((_ :: pcs [64] 0 [] (s.data.toList.drop (i + 1))).map mk).length ≠ 2
        rw [g3]
        have := pcs_ne [64] (List.drop (j + ([64] : List UInt8).length) (s.data.toList.drop (i + 1))) 0 []
        have h0 : 0 < (pcs [64] 0 [] (List.drop (j + ([64] : List UInt8).length) (s.data.toList.drop (i + 1)))).length := List.length_pos_iff.2 this
        rw [List.map_cons, List.map_cons, List.length_cons, List.length_cons, List.length_map]; omega
      · rw [ha]
        have : domOk (mk (s.data.toList.drop (i + 1))) = false := by
          rw [Bool.eq_false_iff]; intro e
          have := index_at _ (dom_noAt e)
          rw [data_mk] at this
          omega
        rw [this]; simp
end Go.Proofs.YtlolnfpfipnfeaaGreatDoor
