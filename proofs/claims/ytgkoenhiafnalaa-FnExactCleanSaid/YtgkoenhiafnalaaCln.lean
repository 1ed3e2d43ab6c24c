import Derived.Test.YtgkoenhiafnalaaKeep
import Derived.Test.YtgkoenhiafnalaaByts
namespace Go.Proofs.Ytgkoenhiafnalaa
open Go.ChangeShapes Go.WideShapes Go.ChangeAt Go.RowKit

/-- a byte as one line may hold it -/
def clB (c : UInt8) : UInt8 := if c.toNat < 32 ∨ 126 < c.toNat then 63 else c
def clN (L : List UInt8) (k : Nat) : List UInt8 := (L.take k).map clB ++ L.drop k
def cleanB (s : ByteArray) : ByteArray := ⟨((keepB s 200).data.toList.map clB).toArray⟩
theorem clN_len (L : List UInt8) (k : Nat) : (clN L k).length = L.length := by simp [clN]; omega
theorem clN_zero (L : List UInt8) : clN L 0 = L := by simp [clN]
theorem clN_end (L : List UInt8) (k : Nat) (h : L.length ≤ k) : clN L k = L.map clB := by simp [clN, List.take_of_length_le h, List.drop_eq_nil_of_le h]
theorem clN_at (L : List UInt8) (k : Nat) (h : k < L.length) : (clN L k)[k]'(by rw [clN_len]; exact h) = L[k] := by
  unfold clN
  rw [List.getElem_append_right (by simp; omega)]
  simp [show min k L.length = k by omega]
theorem clN_step (L : List UInt8) (k : Nat) (h : k < L.length) : clN L (k + 1) = (clN L k).set k (clB L[k]) := by
  unfold clN
  rw [List.take_add_one, List.getElem?_eq_getElem h, List.set_append_right _ _ (by simp; omega)]
  simp only [List.length_map, List.length_take]
  rw [show k - min k L.length = 0 by omega, List.drop_eq_getElem_cons h, List.set_cons_zero, List.map_append, List.append_assoc]
  rfl
theorem clN_same (L : List UInt8) (k : Nat) (h : k < L.length) (e : clB L[k] = L[k]) : clN L (k + 1) = clN L k := by
  rw [clN_step L k h, e]
  have h2 := clN_at L k h
  have h3 : k < (clN L k).length := by rw [clN_len]; exact h
  have h4 := List.set_getElem_self h3
  rw [h2] at h4
  exact h4
theorem clB_low {c : UInt8} (h : (c.toNat : Int) < 32) : clB c = 63 := by rw [clB, if_pos (by omega)]
theorem clB_high {c : UInt8} (h : 126 < (c.toNat : Int)) : clB c = 63 := by rw [clB, if_pos (by omega)]
theorem clB_mid {c : UInt8} (h : 32 ≤ (c.toNat : Int)) (h2 : (c.toNat : Int) ≤ 126) : clB c = c := by rw [clB, if_neg (by omega)]

set_option maxHeartbeats 1000000 in
set_option maxRecDepth 100000 in
theorem specClean (s : ByteArray) (w : World) (hs : s.size ≤ 1048576) :
    Calls Try.prog 9 #[.string s] w fun e w' => e = .returned (.string (cleanB s)) ∧ Below w.heap.size w w' := by
  go_enter Try.func9, Try.ntmps9
  go_wp2_with fail
  refine (specKeep s 200 _).mono ?_
  rintro e w1 ⟨rfl, rfl⟩
  have hk : (keepB s 200).size ≤ 1048576 := Nat.le_trans (keepB_size s 200) hs
  have HG : Hid (∀ K, keepB s 200 = K → cleanB s = ⟨(K.data.toList.map clB).toArray⟩) := fun K h => by rw [cleanB, h]
  generalize hK : keepB s 200 = K at *
  have HG2 : Hid (cleanB s = ⟨(K.data.toList.map clB).toArray⟩) := HG.out K rfl
  clear HG hK
  have hkl : K.data.toList.length = K.size := by simp
  have HC : Hid (Below w1.heap.size w1 (Lib.bytesWorld w1 5 K)) := bytsBelow w1 K
  have HB : Hid (BytsAt (Lib.bytesWorld w1 5 K) w1.heap.size (clN K.data.toList 0)) := by
    show BytsAt _ _ _
    rw [clN_zero]; exact bytsNew w1 K
  have hconv := Lib.run_convert_string_bytes (P := Try.prog) w1 9 36 5 K Try.underlying9 Try.underlying36 Try.underlying5
  generalize Lib.bytesWorld w1 5 K = w2 at *
  generalize grownCap w1 K.size 0 5 = cap at *
  have HL : Hid (K.data.toList.length = K.size) := hkl
  clear hkl
  generalize K.data.toList = L at *
  generalize hgE : w1.heap.size = g at *
  have HGE : Hid (w1.heap.size = g) := hgE
  clear hgE
  go_wp2
  go_loopw [11] (fun iv wr => ∃ k : Nat, k ≤ K.size ∧ iv = .int .i64 k ∧ Hid (BytsAt wr g (clN L k)) ∧ Hid (Below g w1 wr)) (fun iv _ => K.size - (intOf iv).toNat)
  case atStart => exact ⟨0, Nat.zero_le _, rfl, HB, HC⟩
  case round =>
    obtain ⟨k, hk2, rfl, HK, HW⟩ := hrel
    by_cases hlt : k < K.size
    · have hL : k < L.length := by rw [HL.out]; exact hlt
      have hc := HK.out.cell k (by rw [clN_len]; exact hL)
      rw [clN_at L k hL] at hc
      have hf := HK.out.free k (by rw [clN_len]; exact hL)
      have HST : Hid (clB L[k] = 63 → BytsAt (wr.setCell ⟨g, k, none⟩ (.int .u8 63)) g (clN L (k + 1))) := fun e => by
        rw [clN_step L k hL, e]
        exact HK.out.set k (by rw [clN_len]; exact hL) 63
      have HSM : Hid (clB L[k] = L[k] → BytsAt wr g (clN L (k + 1))) := fun e => by
        rw [clN_same L k hL e]; exact HK.out
      have HLO : Hid ((L[k].toNat : Int) < 32 → clB L[k] = 63) := clB_low
      have HHI : Hid (126 < (L[k].toNat : Int) → clB L[k] = 63) := clB_high
      have HMI : Hid (32 ≤ (L[k].toNat : Int) → (L[k].toNat : Int) ≤ 126 → clB L[k] = L[k]) := clB_mid
      generalize L[k] = c at *
      by_cases c1 : (c.toNat : Int) < 32
      · go_wp2
        go_roundw
        case rel => exact ⟨k + 1, by omega, by go_num, HST.out (HLO.out c1), HW.out.setCell (Nat.le_refl _) _⟩
        case measure => simp [intOf]; omega
      · by_cases c2 : 126 < (c.toNat : Int)
        · go_wp2
          go_roundw
          case rel => exact ⟨k + 1, by omega, by go_num, HST.out (HHI.out c2), HW.out.setCell (Nat.le_refl _) _⟩
          case measure => simp [intOf]; omega
        · go_wp2
          go_roundw
          case rel => exact ⟨k + 1, by omega, by go_num, HSM.out (HMI.out (by omega) (by omega)), HW⟩
          case measure => simp [intOf]; omega
    · obtain rfl : k = K.size := by omega
      have hback := bytsBack wr g cap K.size _ (by rw [clN_len]; exact HL.out) HK.out
      rw [clN_end L K.size (by rw [HL.out]; exact Nat.le_refl _)] at hback
      go_wp2
      go_ret
      exact ⟨ret_str HG2.out.symm, by rw [HGE.out]; exact HW.out⟩

set_option maxHeartbeats 1000000 in
set_option maxRecDepth 100000 in
theorem implClean (s : ByteArray) (w : World) (hs : s.size ≤ 1048576) :
    Calls Try.prog 10 #[.string s] w fun e w' => e = .returned (.string (cleanB s)) ∧ Below w.heap.size w w' := by
  go_enter Try.func10, Try.ntmps10
  go_wp2_with fail
  refine (implKeep s 200 _ hs).mono ?_
  rintro e w1 ⟨rfl, rfl⟩
  have hk : (keepB s 200).size ≤ 1048576 := Nat.le_trans (keepB_size s 200) hs
  have HG : Hid (∀ K, keepB s 200 = K → cleanB s = ⟨(K.data.toList.map clB).toArray⟩) := fun K h => by rw [cleanB, h]
  generalize hK : keepB s 200 = K at *
  have HG2 : Hid (cleanB s = ⟨(K.data.toList.map clB).toArray⟩) := HG.out K rfl
  clear HG hK
  have hkl : K.data.toList.length = K.size := by simp
  have HC : Hid (Below w1.heap.size w1 (Lib.bytesWorld w1 5 K)) := bytsBelow w1 K
  have HB : Hid (BytsAt (Lib.bytesWorld w1 5 K) w1.heap.size (clN K.data.toList 0)) := by
    show BytsAt _ _ _
    rw [clN_zero]; exact bytsNew w1 K
  have hconv := Lib.run_convert_string_bytes (P := Try.prog) w1 9 36 5 K Try.underlying9 Try.underlying36 Try.underlying5
  generalize Lib.bytesWorld w1 5 K = w2 at *
  generalize grownCap w1 K.size 0 5 = cap at *
  have HL : Hid (K.data.toList.length = K.size) := hkl
  clear hkl
  generalize K.data.toList = L at *
  generalize hgE : w1.heap.size = g at *
  have HGE : Hid (w1.heap.size = g) := hgE
  clear hgE
  go_wp2
  go_loopw [11] (fun iv wr => ∃ k : Nat, k ≤ K.size ∧ iv = .int .i64 k ∧ Hid (BytsAt wr g (clN L k)) ∧ Hid (Below g w1 wr)) (fun iv _ => K.size - (intOf iv).toNat)
  case atStart => exact ⟨0, Nat.zero_le _, rfl, HB, HC⟩
  case round =>
    obtain ⟨k, hk2, rfl, HK, HW⟩ := hrel
    by_cases hlt : k < K.size
    · have hL : k < L.length := by rw [HL.out]; exact hlt
      have hc := HK.out.cell k (by rw [clN_len]; exact hL)
      rw [clN_at L k hL] at hc
      have hf := HK.out.free k (by rw [clN_len]; exact hL)
      have HST : Hid (clB L[k] = 63 → BytsAt (wr.setCell ⟨g, k, none⟩ (.int .u8 63)) g (clN L (k + 1))) := fun e => by
        rw [clN_step L k hL, e]
        exact HK.out.set k (by rw [clN_len]; exact hL) 63
      have HSM : Hid (clB L[k] = L[k] → BytsAt wr g (clN L (k + 1))) := fun e => by
        rw [clN_same L k hL e]; exact HK.out
      have HLO : Hid ((L[k].toNat : Int) < 32 → clB L[k] = 63) := clB_low
      have HHI : Hid (126 < (L[k].toNat : Int) → clB L[k] = 63) := clB_high
      have HMI : Hid (32 ≤ (L[k].toNat : Int) → (L[k].toNat : Int) ≤ 126 → clB L[k] = L[k]) := clB_mid
      generalize L[k] = c at *
      by_cases c1 : (c.toNat : Int) < 32
      · go_wp2
        go_roundw
        case rel => exact ⟨k + 1, by omega, by go_num, HST.out (HLO.out c1), HW.out.setCell (Nat.le_refl _) _⟩
        case measure => simp [intOf]; omega
      · by_cases c2 : 126 < (c.toNat : Int)
        · go_wp2
          go_roundw
          case rel => exact ⟨k + 1, by omega, by go_num, HST.out (HHI.out c2), HW.out.setCell (Nat.le_refl _) _⟩
          case measure => simp [intOf]; omega
        · go_wp2
          go_roundw
          case rel => exact ⟨k + 1, by omega, by go_num, HSM.out (HMI.out (by omega) (by omega)), HW⟩
          case measure => simp [intOf]; omega
    · obtain rfl : k = K.size := by omega
      have hback := bytsBack wr g cap K.size _ (by rw [clN_len]; exact HL.out) HK.out
      rw [clN_end L K.size (by rw [HL.out]; exact Nat.le_refl _)] at hback
      go_wp2
      go_ret
      exact ⟨ret_str HG2.out.symm, by rw [HGE.out]; exact HW.out⟩
end Go.Proofs.Ytgkoenhiafnalaa
