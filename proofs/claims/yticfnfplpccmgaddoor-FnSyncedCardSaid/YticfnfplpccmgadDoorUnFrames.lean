import Derived.Test.YticfnfplpccmgadDoorUnMath
import Derived.Test.YticfnfplpccmgadDoorFrAll
namespace Go.Proofs.YticfnfplpccmgadDoor

set_option maxRecDepth 100000 in
theorem byteAt_drop (s : ByteArray) (i j : Nat) : byteAt s (i + j) = ((s.data.toList.drop i).getD j 0).toNat := by
  unfold byteAt
  rw [List.getD_eq_getElem?_getD, List.getD_eq_getElem?_getD, List.getElem?_drop]
set_option maxRecDepth 100000 in
theorem be4_word (s : ByteArray) (i n : Nat) (r : List UInt8) (hn : n < 4294967296) (h : s.data.toList.drop i = word n ++ r) : be4 s i = n := by
  have e0 := byteAt_drop s i 0
  have e1 := byteAt_drop s i 1
  have e2 := byteAt_drop s i 2
  have e3 := byteAt_drop s i 3
  rw [h] at e0 e1 e2 e3
  simp [word] at e0 e1 e2 e3
  unfold be4
  rw [e0, e1, e2, e3]
  omega
set_option maxRecDepth 100000 in
/-- a frame is found where it stands -/
theorem frameAt_stands (s p : ByteArray) (i : Nat) (r : List UInt8) (hp : p.size ≤ 8000) (h : s.data.toList.drop i = frame p.data.toList ++ r) :
    frameAt s i = some p.size ∧ s.extract (i + 8) (i + 8 + p.size) = p ∧ s.data.toList.drop (i + 8 + p.size) = r := by
  have hl : p.data.toList.length = p.size := rfl
  have hls : s.data.toList.length = s.size := rfl
  have hf : frame p.data.toList = word p.size ++ (word (Crc.crc p.data.toList) ++ p.data.toList) := by
    unfold frame
    rw [if_neg (by omega), List.append_assoc, hl]
  rw [hf] at h
  have h0 : s.data.toList.drop i = word p.size ++ (word (Crc.crc p.data.toList) ++ (p.data.toList ++ r)) := by rw [h]; simp
  have h4 : s.data.toList.drop (i + 4) = word (Crc.crc p.data.toList) ++ (p.data.toList ++ r) := by
    rw [← List.drop_drop, h0]; rfl
  have h8 : s.data.toList.drop (i + 8) = p.data.toList ++ r := by
    rw [show i + 8 = i + 4 + 4 by omega, ← List.drop_drop, h4]; rfl
  have hr : s.data.toList.drop (i + 8 + p.size) = r := by
    rw [← List.drop_drop, h8, ← hl, List.drop_left]
  have hlen : s.size - i = 8 + p.size + r.length := by
    have := congrArg List.length h0
    simp only [List.length_drop, List.length_append, hl, hls, word, List.length_cons, List.length_nil] at this
    omega
  have b0 := be4_word s i p.size _ (by omega) h0
  have b4 := be4_word s (i + 4) _ _ (Crc.crc_lt _) h4
  have hx : s.extract (i + 8) (i + 8 + p.size) = p := by
    apply ByteArray.ext
    apply Array.toList_inj.1
    simp only [ByteArray.data_extract, Array.toList_extract, List.extract_eq_take_drop]
    rw [h8, show i + 8 + p.size - (i + 8) = p.data.toList.length by rw [hl]; omega, List.take_left]
  refine ⟨?_, hx, hr⟩
  have e := frameAt_whole (s := s) (i := i) (by rw [b0]; exact hp) (by rw [b0]; omega) (by rw [b0, hx, b4])
  rw [b0] at e
  exact e

set_option maxRecDepth 100000 in
/-- frames are read back, and what stands behind them is left -/
theorem unfr_frames (s : ByteArray) (Z : List UInt8) (hZ : frameAt s (s.size - Z.length) = none) :
    ∀ (L : List ByteArray) (f i : Nat) (acc : List ByteArray), i ≤ s.size → s.size < f + i → s.data.toList.drop i = framesL L ++ Z → unfrGo f s i acc = (acc ++ L.filter (fun p => p.size ≤ 8000), s.size - Z.length)
  | [], f, i, acc, hi, hf, h => by
    have hlen := congrArg List.length h
    have hls : s.data.toList.length = s.size := rfl
    simp only [List.length_drop, hls, framesL, List.flatMap_nil, List.nil_append] at hlen
    have e : i = s.size - Z.length := by omega
    subst e
    rw [unfrGo_none hZ]
    simp
  | p :: L, f, i, acc, hi, hf, h => by
    have hc : framesL (p :: L) = frame p.data.toList ++ framesL L := rfl
    rw [hc] at h
    by_cases hp : p.size ≤ 8000
    · rw [List.append_assoc] at h
      obtain ⟨h1, h2, h3⟩ := frameAt_stands s p i _ hp h
      have hb := (frameAt_some h1).1
      rw [unfrGo_some (by omega) h1, h2, unfr_frames s Z hZ L (f - 1) (i + 8 + p.size) _ hb (by omega) h3]
      simp [hp]
    · have hf0 : frame p.data.toList = [] := by
        unfold frame
        rw [if_pos (show 8000 < p.data.toList.length by have : p.data.toList.length = p.size := rfl; omega)]
      rw [hf0, List.nil_append] at h
      rw [unfr_frames s Z hZ L f i acc hi hf h]
      simp [hp]
set_option maxRecDepth 100000 in
theorem unfr_framesB (L : List ByteArray) : unfr (framesB L) = (L.filter (fun p => p.size ≤ 8000), (framesB L).size) := by
  have h := unfr_frames (framesB L) [] (by exact frameAt_short (by simp)) L ((framesB L).size + 1) 0 [] (Nat.zero_le _) (by omega) (by simp [framesB])
  simpa [unfr] using h
set_option maxRecDepth 100000 in
theorem unfrGo_sizes (s : ByteArray) : ∀ (f i : Nat) (acc : List ByteArray), (∀ p ∈ acc, p.size ≤ 8000) → ∀ p ∈ (unfrGo f s i acc).1, p.size ≤ 8000
  | 0, i, acc, h => h
  | f + 1, i, acc, h => by
    cases hf : frameAt s i with
    | none => rw [unfrGo_none hf]; exact h
    | some n =>
      rw [unfrGo_some (Nat.succ_pos f) hf]
      obtain ⟨h1, h2, _⟩ := frameAt_some hf
      refine unfrGo_sizes s f _ _ fun p hp => ?_
      rcases List.mem_append.1 hp with h3 | h3
      · exact h p h3
      · have : p = s.extract (i + 8) (i + 8 + n) := by simpa using h3
        subst this
        simp only [ByteArray.size_extract]
        omega
set_option maxRecDepth 100000 in
theorem unfr_sizes (s : ByteArray) : ∀ p ∈ (unfr s).1, p.size ≤ 8000 := unfrGo_sizes s _ _ _ (fun p h => by cases h)
theorem extract_all (s : ByteArray) : s.extract 0 s.size = s := by
  apply ByteArray.ext
  simp
end Go.Proofs.YticfnfplpccmgadDoor
