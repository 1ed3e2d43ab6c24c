import Derived.Test.YticfnfplpccmgadDoorUnFrames
import Derived.Test.YticfnfplpccmgadDoorKeep
namespace Go.Proofs.YticfnfplpccmgadDoor

theorem framesL_append (A B : List ByteArray) : framesL (A ++ B) = framesL A ++ framesL B := by simp [framesL]
theorem framesB_append (A B : List ByteArray) : framesB (A ++ B) = framesB A ++ framesB B := by
  apply ByteArray.ext
  apply Array.toList_inj.1
  simp [framesB, framesL_append]
theorem framesB_one (p : ByteArray) : framesB [p] = frameB p := by
  apply ByteArray.ext
  apply Array.toList_inj.1
  simp [framesB, framesL, frameB]
theorem framesB_nil : framesB [] = ⟨#[]⟩ := rfl
theorem framesB_list (L : List ByteArray) : (framesB L).data.toList = framesL L := by simp [framesB]

/-- a frame that is read is the frame of what is read -/
theorem frameB_read {s : ByteArray} {i n : Nat} (h : frameAt s i = some n) : frameB (s.extract (i + 8) (i + 8 + n)) = s.extract i (i + 8 + n) := by
  obtain ⟨h1, h2, h3, _⟩ := frameAt_some h
  have e0 : frameAt (s.extract i s.size) 0 = some n := by rw [frameAt_extract s i (by omega)]; exact h
  obtain ⟨k1, k2, k3, _⟩ := frameAt_some e0
  have e1 := first_ok (s.extract i s.size) (by rw [← k3]; exact k2) (by rw [← k3]; omega)
  rw [e0, ← k3, bytes_beq] at e1
  have e2 := of_decide_eq_true e1
  rw [extract_extract s i 8 (8 + n) (by omega), extract_extract s i 0 (8 + n) (by omega)] at e2
  rw [show i + 8 + n = i + (8 + n) by omega]
  simpa using e2
theorem extract_join (s : ByteArray) (i j : Nat) (h : i ≤ j) : s.extract 0 i ++ s.extract i j = s.extract 0 j := by
  apply ByteArray.ext
  apply Array.toList_inj.1
  simp only [ByteArray.data_append, ByteArray.data_extract, Array.toList_append, Array.toList_extract, List.extract_eq_take_drop, List.drop_zero, Nat.sub_zero]
  rw [show j = i + (j - i) by omega, List.take_add]
  simp
/-- what is read of a journal is the frames of its records -/
theorem unfrGo_front (s : ByteArray) : ∀ (f i : Nat) (acc : List ByteArray), framesB acc = s.extract 0 i → framesB (unfrGo f s i acc).1 = s.extract 0 (unfrGo f s i acc).2
  | 0, i, acc, h => h
  | f + 1, i, acc, h => by
    cases hf : frameAt s i with
    | none => rw [unfrGo_none hf]; exact h
    | some n =>
      rw [unfrGo_some (Nat.succ_pos f) hf]
      obtain ⟨h1, h2, _⟩ := frameAt_some hf
      refine unfrGo_front s f _ _ ?_
      rw [framesB_append, framesB_one, h, frameB_read hf, extract_join s i _ (by omega)]
theorem unfr_front (s : ByteArray) : framesB (unfr s).1 = s.extract 0 (unfr s).2 := unfrGo_front s _ _ _ (by
  apply ByteArray.ext
  simp [framesB, framesL])

theorem keepB_list (s : ByteArray) (q : Nat) : (keepB s (q : Int)).data.toList = s.data.toList.take q := by
  have hl : s.data.toList.length = s.size := rfl
  by_cases h : (s.size : Int) < q
  · rw [keepB_big s _ (by omega) h, List.take_of_length_le (by omega)]
  · rw [keepB_mid s _ (by omega) (by omega)]
    simp [List.extract_eq_take_drop]
theorem filter_all (L : List ByteArray) (h : ∀ p ∈ L, p.size ≤ 8000) : L.filter (fun p => p.size ≤ 8000) = L := by
  rw [List.filter_eq_self]
  intro a ha
  simp [h a ha]

/-- of frames that are cut the whole ones are read -/
theorem cut_unfr (A L : List ByteArray) (q j : Nat) (hj : j ≤ L.length) (hk : (framesL (L.take j)).length ≤ q) (he : j = L.length ∨ ∃ h : j < L.length, q < (framesL (L.take j)).length + (frame L[j].data.toList).length) :
    (unfr (framesB A ++ keepB (framesB L) (q : Int))).1 = (A ++ L.take j).filter (fun p => p.size ≤ 8000) ∧
    (framesB A ++ keepB (framesB L) (q : Int)).extract 0 (unfr (framesB A ++ keepB (framesB L) (q : Int))).2 = framesB (A ++ L.take j) := by
  obtain ⟨s, hs⟩ : ∃ s, framesB A ++ keepB (framesB L) (q : Int) = s := ⟨_, rfl⟩
  obtain ⟨Z, hZ⟩ : ∃ Z, (framesL (L.drop j)).take (q - (framesL (L.take j)).length) = Z := ⟨_, rfl⟩
  have hsl : s.data.toList = framesL (A ++ L.take j) ++ Z := by
    rw [← hs]
    simp only [ByteArray.data_append, Array.toList_append, framesB_list, keepB_list]
    rw [framesL_append, List.append_assoc]
    congr 1
    rw [← hZ]
    conv => lhs; rw [← List.take_append_drop j L, framesL_append]
    rw [List.take_append, List.take_of_length_le hk]
  have hls : s.data.toList.length = s.size := rfl
  have hsz : s.size = (framesL (A ++ L.take j)).length + Z.length := by rw [← hls, hsl, List.length_append]
  have hdrop : s.data.toList.drop (s.size - Z.length) = Z := by rw [hsl, hsz, Nat.add_sub_cancel, List.drop_left]
  have hnone : frameAt s (s.size - Z.length) = none := by
    by_cases h8 : Z.length < 8
    · exact frameAt_short (by omega)
    · rcases he with he | ⟨hjl, hq⟩
      · exfalso
        subst he
        rw [List.drop_length] at hZ
        simp [framesL] at hZ
        rw [hZ] at h8
        simp at h8
      · have hZ2 : Z = (frame L[j].data.toList).take (q - (framesL (L.take j)).length) := by
          rw [← hZ, List.drop_eq_getElem_cons hjl]
          show (frame L[j].data.toList ++ framesL (L.drop (j + 1))).take _ = _
          rw [List.take_append_of_le_length (by omega)]
        have hZl : Z.length < (frame L[j].data.toList).length := by
          rw [hZ2, List.length_take]; omega
        have hl2 : L[j].data.toList.length = L[j].size := rfl
        by_cases hbig : 8000 < L[j].data.toList.length
        · exfalso
          rw [frame, if_pos hbig] at hZl
          simp at hZl
        · have hfr : frame L[j].data.toList = word L[j].size ++ (word (Crc.crc L[j].data.toList) ++ L[j].data.toList) := by
            rw [frame, if_neg hbig, List.append_assoc, hl2]
          have hwl : ∀ n, (word n).length = 4 := fun n => rfl
          have hfl : (frame L[j].data.toList).length = 8 + L[j].size := by
            rw [hfr]; simp only [List.length_append, hwl, hl2]; omega
          obtain ⟨r, hr⟩ : ∃ r, Z = word L[j].size ++ r := by
            rw [hZ2, hfr, List.take_append, List.take_of_length_le (by
              have h9 : Z.length ≤ q - (framesL (L.take j)).length := by rw [hZ2, List.length_take]; omega
              rw [hwl]; omega)]
            exact ⟨_, rfl⟩
          have hb := be4_word s (s.size - Z.length) L[j].size r (by omega) (by rw [hdrop]; exact hr)
          refine frameAt_cut ?_
          rw [hb]
          omega
  have hu : unfr s = ((A ++ L.take j).filter (fun p => p.size ≤ 8000), s.size - Z.length) := by
    have h := unfr_frames s Z hnone (A ++ L.take j) (s.size + 1) 0 [] (Nat.zero_le _) (by omega) (by rw [List.drop_zero]; exact hsl)
    rw [List.nil_append] at h
    exact h
  rw [hs, hu]
  refine ⟨rfl, ?_⟩
  apply ByteArray.ext
  apply Array.toList_inj.1
  simp only [ByteArray.data_extract, Array.toList_extract, List.extract_eq_take_drop, List.drop_zero, Nat.sub_zero, framesB_list]
  rw [hsl, hsz, Nat.add_sub_cancel, List.take_left]
end Go.Proofs.YticfnfplpccmgadDoor
