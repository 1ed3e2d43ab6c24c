import Derived.Test.YticfnfplpccmgacDoorFrame
namespace Go.Proofs.YticfnfplpccmgacDoor

/-- byte i of a text; 0 behind its end -/
def byteAt (s : ByteArray) (i : Nat) : Nat := (s.data.toList.getD i 0).toNat
/-- the number of four bytes, the highest first -/
def be4 (s : ByteArray) (i : Nat) : Nat := ((byteAt s i * 256 + byteAt s (i + 1)) * 256 + byteAt s (i + 2)) * 256 + byteAt s (i + 3)
/-- the length of the payload of the whole frame at i, if there is one -/
def frameAt (s : ByteArray) (i : Nat) : Option Nat :=
  if s.size < i + 8 then none
  else if 8000 < be4 s i then none
  else if s.size < i + 8 + be4 s i then none
  else if Crc.crc (s.extract (i + 8) (i + 8 + be4 s i)).data.toList = be4 s (i + 4) then some (be4 s i) else none
/-- frame after frame -/
def unfrGo : Nat → ByteArray → Nat → List ByteArray → List ByteArray × Nat
  | 0, _, i, acc => (acc, i)
  | f + 1, s, i, acc => match frameAt s i with
    | none => (acc, i)
    | some n => unfrGo f s (i + 8 + n) (acc ++ [s.extract (i + 8) (i + 8 + n)])
def unfr (s : ByteArray) : List ByteArray × Nat := unfrGo (s.size + 1) s 0 []

theorem byteAt_lt (s : ByteArray) (i : Nat) : byteAt s i < 256 := UInt8.toNat_lt _
theorem be4_lt (s : ByteArray) (i : Nat) : be4 s i < 4294967296 := by
  have h0 := byteAt_lt s i
  have h1 := byteAt_lt s (i + 1)
  have h2 := byteAt_lt s (i + 2)
  have h3 := byteAt_lt s (i + 3)
  unfold be4; omega
theorem byteAt_eq (s : ByteArray) (i : Nat) (h : i < s.size) : byteAt s i = s[i].toNat := by
  unfold byteAt
  rw [List.getD_eq_getElem?_getD, List.getElem?_eq_getElem (by simpa using h)]
  rfl
theorem byteAt_extract (s : ByteArray) (a j : Nat) : byteAt (s.extract a s.size) j = byteAt s (a + j) := by
  unfold byteAt
  rw [List.getD_eq_getElem?_getD, List.getD_eq_getElem?_getD]
  simp only [ByteArray.data_extract, Array.toList_extract, List.extract_eq_take_drop, List.getElem?_take, List.getElem?_drop]
  split
  · rfl
  · rename_i h
    have hl : s.data.toList.length = s.size := rfl
    rw [List.getElem?_eq_none (by omega)]
theorem be4_extract (s : ByteArray) (a j : Nat) : be4 (s.extract a s.size) j = be4 s (a + j) := by
  unfold be4; simp only [byteAt_extract, Nat.add_assoc]
theorem extract_extract (s : ByteArray) (a i j : Nat) (h : a + j ≤ s.size) : (s.extract a s.size).extract i j = s.extract (a + i) (a + j) := by
  apply ByteArray.ext
  simp only [ByteArray.data_extract, Array.extract_extract]
  congr 1
  have : s.data.size = s.size := rfl
  omega

theorem frameAt_some {s : ByteArray} {i n : Nat} (h : frameAt s i = some n) : i + 8 + n ≤ s.size ∧ n ≤ 8000 ∧ n = be4 s i ∧ Crc.crc (s.extract (i + 8) (i + 8 + n)).data.toList = be4 s (i + 4) := by
  unfold frameAt at h
  split at h
  · cases h
  · split at h
    · cases h
    · split at h
      · cases h
      · split at h
        · injection h with h; subst h; rename_i h1 h2 h3 h4; exact ⟨by omega, by omega, rfl, h4⟩
        · cases h
theorem frameAt_short {s : ByteArray} {i : Nat} (h : s.size < i + 8) : frameAt s i = none := by rw [frameAt, if_pos h]
theorem frameAt_long {s : ByteArray} {i : Nat} (h : 8000 < be4 s i) : frameAt s i = none := by
  by_cases h1 : s.size < i + 8
  · exact frameAt_short h1
  · rw [frameAt, if_neg h1, if_pos h]
theorem frameAt_cut {s : ByteArray} {i : Nat} (h : s.size < i + 8 + be4 s i) : frameAt s i = none := by
  by_cases h1 : s.size < i + 8
  · exact frameAt_short h1
  · by_cases h2 : 8000 < be4 s i
    · exact frameAt_long h2
    · rw [frameAt, if_neg h1, if_neg h2, if_pos h]
theorem frameAt_sum {s : ByteArray} {i : Nat} (h : Crc.crc (s.extract (i + 8) (i + 8 + be4 s i)).data.toList ≠ be4 s (i + 4)) : frameAt s i = none := by
  by_cases h1 : s.size < i + 8
  · exact frameAt_short h1
  · by_cases h2 : 8000 < be4 s i
    · exact frameAt_long h2
    · by_cases h3 : s.size < i + 8 + be4 s i
      · exact frameAt_cut h3
      · rw [frameAt, if_neg h1, if_neg h2, if_neg h3, if_neg h]
theorem frameAt_whole {s : ByteArray} {i : Nat} (h1 : be4 s i ≤ 8000) (h2 : i + 8 + be4 s i ≤ s.size) (h3 : Crc.crc (s.extract (i + 8) (i + 8 + be4 s i)).data.toList = be4 s (i + 4)) : frameAt s i = some (be4 s i) := by
  rw [frameAt, if_neg (by omega), if_neg (by omega), if_neg (by omega), if_pos h3]

theorem unfrGo_none {f : Nat} {s : ByteArray} {i : Nat} {acc : List ByteArray} (h : frameAt s i = none) : unfrGo f s i acc = (acc, i) := by
  cases f
  · rfl
  · rw [unfrGo, h]
theorem unfrGo_some {f : Nat} {s : ByteArray} {i n : Nat} {acc : List ByteArray} (hf : 0 < f) (h : frameAt s i = some n) : unfrGo f s i acc = unfrGo (f - 1) s (i + 8 + n) (acc ++ [s.extract (i + 8) (i + 8 + n)]) := by
  obtain ⟨g, rfl⟩ : ∃ g, f = g + 1 := ⟨f - 1, by omega⟩
  rw [unfrGo, h]; rfl

theorem unfrGo_len (s : ByteArray) : ∀ (f i : Nat) (acc : List ByteArray), i ≤ s.size → 8 * acc.length ≤ i → 8 * (unfrGo f s i acc).1.length ≤ (unfrGo f s i acc).2 ∧ (unfrGo f s i acc).2 ≤ s.size
  | 0, _, _, h1, h2 => ⟨h2, h1⟩
  | f + 1, i, acc, h1, h2 => by
    cases h : frameAt s i with
    | none => rw [unfrGo_none h]; exact ⟨h2, h1⟩
    | some n =>
      rw [unfrGo_some (by omega) h]
      have hn := (frameAt_some h).1
      exact unfrGo_len s f _ _ (by omega) (by simp; omega)
theorem unfr_len (s : ByteArray) : 8 * (unfr s).1.length ≤ (unfr s).2 ∧ (unfr s).2 ≤ s.size := unfrGo_len s _ _ _ (Nat.zero_le _) (Nat.zero_le _)

/-- a frame stands at the front of what is left just where it stands in the whole -/
theorem frameAt_extract (s : ByteArray) (a : Nat) (ha : a ≤ s.size) : frameAt (s.extract a s.size) 0 = frameAt s a := by
  have hs : (s.extract a s.size).size = s.size - a := by rw [ByteArray.size_extract]; omega
  have hb := be4_extract s a 0
  rw [Nat.add_zero] at hb
  have hb4 := be4_extract s a 4
  simp only [frameAt, hs, hb, hb4, Nat.zero_add]
  by_cases h1 : s.size < a + 8
  · rw [if_pos (by omega), if_pos h1]
  · rw [if_neg (by omega), if_neg h1]
    by_cases h2 : 8000 < be4 s a
    · rw [if_pos h2, if_pos h2]
    · rw [if_neg h2, if_neg h2]
      by_cases h3 : s.size < a + 8 + be4 s a
      · rw [if_pos (by omega), if_pos h3]
      · rw [if_neg (by omega), if_neg h3, extract_extract s a 8 (8 + be4 s a) (by omega), Nat.add_assoc a 8]

theorem word_inj {a b : Nat} (ha : a < 4294967296) (hb : b < 4294967296) (h : word a = word b) : a = b := by
  simp only [word, List.cons.injEq, and_true] at h
  obtain ⟨h1, h2, h3, h4⟩ := h
  have e1 := congrArg UInt8.toNat h1
  have e2 := congrArg UInt8.toNat h2
  have e3 := congrArg UInt8.toNat h3
  have e4 := congrArg UInt8.toNat h4
  simp at e1 e2 e3 e4
  omega
theorem word_be4 (s : ByteArray) (i : Nat) (h : i + 4 ≤ s.size) : word (be4 s i) = (s.data.toList.drop i).take 4 := by
  have hl : s.data.toList.length = s.size := rfl
  have key : ∀ (l : List UInt8) (i : Nat), i + 4 ≤ l.length → (l.drop i).take 4 = [l.getD i 0, l.getD (i + 1) 0, l.getD (i + 2) 0, l.getD (i + 3) 0] := by
    intro l i h
    have e : ∀ k, l.getD (i + k) 0 = (l.drop i).getD k 0 := by intro k; simp [List.getD_eq_getElem?_getD, List.getElem?_drop]
    have e0 := e 0
    rw [Nat.add_zero] at e0
    rw [e0, e 1, e 2, e 3]
    have hd : 4 ≤ (l.drop i).length := by simp; omega
    generalize l.drop i = r at hd
    match r, hd with
    | a :: b :: c :: d :: t, _ => rfl
  rw [key _ _ (by omega)]
  have h0 := byteAt_lt s i
  have h1 := byteAt_lt s (i + 1)
  have h2 := byteAt_lt s (i + 2)
  have h3 := byteAt_lt s (i + 3)
  simp only [word, List.cons.injEq, and_true]
  refine ⟨?_, ?_, ?_, ?_⟩ <;> apply UInt8.toNat_inj.1
  · show _ = byteAt s i
    simp [be4]; omega
  · show _ = byteAt s (i + 1)
    simp [be4]; omega
  · show _ = byteAt s (i + 2)
    simp [be4]; omega
  · show _ = byteAt s (i + 3)
    simp [be4]; omega

/-- the frame of the payload is what stands there just if the checksum fits -/
theorem frame_stands (s : ByteArray) (hn : be4 s 0 ≤ 8000) (hs : 8 + be4 s 0 ≤ s.size) :
    frameB (s.extract 8 (8 + be4 s 0)) = s.extract 0 (8 + be4 s 0) ↔ Crc.crc (s.extract 8 (8 + be4 s 0)).data.toList = be4 s 4 := by
  have hl : s.data.toList.length = s.size := rfl
  generalize hn' : be4 s 0 = n at *
  have hp : (s.extract 8 (8 + n)).data.toList = (s.data.toList.drop 8).take n := by
    simp [ByteArray.data_extract, List.extract_eq_take_drop]
  have hq : (s.extract 0 (8 + n)).data.toList = (s.data.toList.take 4) ++ ((s.data.toList.drop 4).take 4 ++ (s.data.toList.drop 8).take n) := by
    simp only [ByteArray.data_extract, Array.toList_extract, List.extract_eq_take_drop, List.drop_zero, Nat.sub_zero]
    rw [show 8 + n = 4 + (4 + n) by omega, List.take_add, List.take_add, List.drop_drop]
  have hpl : ((s.data.toList.drop 8).take n).length = n := by simp; omega
  have hf : frame (s.extract 8 (8 + n)).data.toList = word n ++ (word (Crc.crc (s.extract 8 (8 + n)).data.toList) ++ (s.data.toList.drop 8).take n) := by
    unfold frame
    rw [hp, hpl, if_neg (by omega), List.append_assoc]
  have hw0 := word_be4 s 0 (by omega)
  rw [hn', List.drop_zero] at hw0
  have hw4 := word_be4 s 4 (by omega)
  constructor
  · intro h
    have h' : (frameB (s.extract 8 (8 + n))).data.toList = (s.extract 0 (8 + n)).data.toList := by rw [h]
    simp only [frameB] at h'
    rw [hq, hf, hw0] at h'
    have h2 := List.append_cancel_left h'
    have h3 := List.append_cancel_right h2
    rw [← hw4] at h3
    exact word_inj (Crc.crc_lt _) (be4_lt _ _) h3
  · intro h
    apply ByteArray.ext
    apply Array.toList_inj.1
    rw [hq]
    simp only [frameB]
    rw [hf, h, hw4, hw0]
theorem bytes_beq (a b : ByteArray) : (a.toList == b.toList) = decide (a = b) := by
  rw [ByteArray.toList_eq, ByteArray.toList_eq]
  by_cases h : a = b
  · simp [h]
  · simp only [h, decide_false, beq_eq_false_iff_ne, ne_eq]
    exact fun e => h (ByteArray.ext (Array.toList_inj.1 e))
/-- what the specification's reader answers -/
theorem first_ok (s : ByteArray) (hn : be4 s 0 ≤ 8000) (hs : 8 + be4 s 0 ≤ s.size) : ((frameB (s.extract 8 (8 + be4 s 0))).toList == (s.extract 0 (8 + be4 s 0)).toList) = (frameAt s 0).isSome := by
  rw [bytes_beq]
  have hf := frame_stands s hn hs
  by_cases h : Crc.crc (s.extract 8 (8 + be4 s 0)).data.toList = be4 s 4
  · have e : frameAt s 0 = some (be4 s 0) := frameAt_whole hn (by omega) (by rw [Nat.zero_add]; exact h)
    rw [e, decide_eq_true (hf.2 h)]; rfl
  · have e : frameAt s 0 = none := frameAt_sum (by rw [Nat.zero_add]; exact h)
    rw [e, decide_eq_false (fun x => h (hf.1 x))]; rfl
end Go.Proofs.YticfnfplpccmgacDoor
