import Derived.Test.YticfnfplpccmgadDoorWord
namespace Go.Proofs.YticfnfplpccmgadDoor
open Go.ChangeShapes Go.WideShapes Go.ChangeAt Go.RowKit

/-- a payload's frame -/
def frame (l : List UInt8) : List UInt8 := if 8000 < l.length then [] else word l.length ++ word (Crc.crc l) ++ l

def frameB (s : ByteArray) : ByteArray := ⟨(frame s.data.toList).toArray⟩
set_option maxRecDepth 100000 in
theorem frame_len (l : List UInt8) : (frame l).length ≤ 8008 := by
  unfold frame
  split
  · exact Nat.zero_le _
  · simp [word]; omega
set_option maxRecDepth 100000 in
theorem frameB_size (s : ByteArray) : (frameB s).size ≤ 8008 := by
  have := frame_len s.data.toList
  simpa [frameB, ByteArray.size] using this

set_option maxRecDepth 100000 in
theorem tab_size {w : World} (h : TabIn w) : 0 < w.heap.size := by
  have := h 0 (by decide)
  by_cases h0 : 0 < w.heap.size
  · exact h0
  · exfalso
    have e : w.heap[0]? = none := Array.getElem?_eq_none (by omega)
    simp [World.cell?, e] at this
set_option maxRecDepth 100000 in
theorem tab_below {w w1 : World} (h : TabIn w) (hb : Below w.heap.size w w1) : TabIn w1 := fun i hi => (hb.cell (p := ⟨0, i, none⟩) (tab_size h)).trans (h i hi)


set_option maxHeartbeats 400000 in
set_option maxRecDepth 100000 in
theorem specFrame (s : ByteArray) (w : World) (hs : s.size ≤ 1048576) :
    Calls Tryd.prog 34 #[.string s] w fun e w' => e = .returned (.string (frameB s)) ∧ Below w.heap.size w w' := by
  have hm : s.size ≤ maxLen := by unfold maxLen; omega
  have HL : Hid (s.size ≤ maxLen) := hm
  clear hm
  have hc := Crc.crc_lt s.data.toList
  have hw1 : (word s.size).length ≤ 4 := Nat.le_refl _
  have hw2 : (word (Crc.crc s.data.toList)).length ≤ 4 := Nat.le_refl _
  by_cases h8 : 8000 < s.size
  · go_enter Tryd.func34, Tryd.ntmps34
    go_wp2
    go_ret
    refine ⟨?_, Below.refl _ _⟩
    rw [frameB, frame, if_pos (by simpa using h8)]
    rfl
  · go_enter Tryd.func34, Tryd.ntmps34
    go_wp2_with fail
    refine (specWord s.size (by omega) _).mono ?_
    rintro e w1 ⟨rfl, hb1⟩
    go_wp2_with fail
    refine (specCrc s _ HL.out).mono ?_
    rintro e w2 ⟨rfl, rfl⟩
    go_wp2_with fail
    refine (specWord (Crc.crc s.data.toList) hc _).mono ?_
    rintro e w3 ⟨rfl, hb2⟩
    go_wp2
    go_ret
    refine ⟨?_, hb1.trans (hb2.mono hb1.size)⟩
    rw [frameB, frame, if_neg (by simpa using h8)]
    refine ret_str ?_
    apply ByteArray.ext
    simp [ByteArray.data_append]
set_option maxHeartbeats 400000 in
set_option maxRecDepth 100000 in
theorem implFrame (s : ByteArray) (w : World) (hs : s.size ≤ 1048576) (ht : TabIn w) :
    Calls Tryd.prog 67 #[.string s] w fun e w' => e = .returned (.string (frameB s)) ∧ Below w.heap.size w w' := by
  have hm : s.size ≤ maxLen := by unfold maxLen; omega
  have HL : Hid (s.size ≤ maxLen) := hm
  clear hm
  have HT : Hid (TabIn w) := ht
  clear ht
  have hc := Crc.crc_lt s.data.toList
  have hw1 : (word s.size).length ≤ 4 := Nat.le_refl _
  have hw2 : (word (Crc.crc s.data.toList)).length ≤ 4 := Nat.le_refl _
  by_cases h8 : 8000 < s.size
  · go_enter Tryd.func67, Tryd.ntmps67
    go_wp2
    go_ret
    refine ⟨?_, Below.refl _ _⟩
    rw [frameB, frame, if_pos (by simpa using h8)]
    rfl
  · go_enter Tryd.func67, Tryd.ntmps67
    go_wp2_with fail
    refine (implWord s.size (by omega) _).mono ?_
    rintro e w1 ⟨rfl, hb1⟩
    go_wp2_with fail
    refine (implCrc s _ HL.out (tab_below HT.out hb1)).mono ?_
    rintro e w2 ⟨rfl, rfl⟩
    go_wp2_with fail
    refine (implWord (Crc.crc s.data.toList) hc _).mono ?_
    rintro e w3 ⟨rfl, hb2⟩
    go_wp2
    go_ret
    refine ⟨?_, hb1.trans (hb2.mono hb1.size)⟩
    rw [frameB, frame, if_neg (by simpa using h8)]
    refine ret_str ?_
    apply ByteArray.ext
    simp [ByteArray.data_append]
end Go.Proofs.YticfnfplpccmgadDoor
