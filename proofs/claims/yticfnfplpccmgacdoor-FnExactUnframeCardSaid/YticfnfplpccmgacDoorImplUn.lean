import Derived.Test.YticfnfplpccmgacDoorImplWord
import Derived.Deep.AppendLies
import Derived.Deep.DeepCutAuto
namespace Go.Proofs.YticfnfplpccmgacDoor
open Go.ChangeShapes Go.WideShapes Go.ChangeAt Go.RowKit

set_option maxRecDepth 100000 in
theorem un_done {s : ByteArray} {f i lo : Nat} {acc : List ByteArray} {v : Value} {w wr : World} (hG : unfrGo f s i acc = unfr s) (hN : frameAt s i = none) (hown : Strs wr lo v acc) (hb : Below lo w wr) :
    (∃ v', Ending.returned (.tuple #[v, .int .i64 (i : Int)]) = .returned (.tuple #[v', .int .i64 ((unfr s).2 : Int)]) ∧ Strs wr lo v' (unfr s).1) ∧ Below lo w wr := by
  rw [unfrGo_none hN] at hG
  exact ⟨⟨v, by rw [← hG], by rw [← hG]; exact hown⟩, hb⟩
set_option maxRecDepth 100000 in
theorem drew_below {B : Nat} {w wr : World} (h : Below B w wr) (n : Nat) : Below B w (wr.drewN n) := ⟨h.os, h.tape, h.output, h.size, h.block⟩
theorem drew_strs {lo : Nat} {v : Value} {L : List ByteArray} {wr : World} (h : Strs wr lo v L) (n : Nat) : Strs (wr.drewN n) lo v L := h

set_option maxHeartbeats 1000000 in
set_option maxRecDepth 100000 in
theorem implUnframe (s : ByteArray) (w : World) (hs : s.size ≤ 1048576) (ht : TabIn w) :
    Calls Tryd.prog 16 #[.string s] w fun e w' => (∃ v, e = .returned (.tuple #[v, .int .i64 ((unfr s).2 : Int)]) ∧ Strs w' w.heap.size v (unfr s).1) ∧ Below w.heap.size w w' := by
  have HT : Hid (TabIn w) := ht
  clear ht
  obtain ⟨i0, hi, hz0, hz1, hz2⟩ := info_parts infoStr
  go_enter Tryd.func16, Tryd.ntmps16
  go_wp2
  go_step3
  go_wp2
  go_step3
  go_wp2
  go_loopw [4, 5] (fun v av wr => ∃ (f i : Nat) (acc : List ByteArray), i ≤ s.size ∧ av = .int .i64 i ∧ s.size < f + i ∧ 8 * acc.length ≤ i ∧ Hid (unfrGo f s i acc = unfr s) ∧ Strs wr w.heap.size v acc ∧ Below w.heap.size w wr) (fun _ av _ => s.size - (intOf av).toNat)
  case atStart => exact ⟨s.size + 1, 0, [], Nat.zero_le _, rfl, by omega, Nat.zero_le _, rfl, World.ownsRow_nil _ _ _ _, Below.refl _ _⟩
  case round =>
    obtain ⟨f, i, acc, hi1, rfl, hf, hacc, HG, hown, hb⟩ := hrel
    by_cases hA : s.size < i + 8
    · have HN : Hid (frameAt s i = none) := frameAt_short hA
      go_wp2
      rw [Exit.noGoto_ret]
      go_ret2
      exact un_done HG.out HN.out hown hb
    · have hx1 : 4 ≤ (s.extract i s.size).size := by rw [ByteArray.size_extract]; omega
      have hx2 : 4 ≤ (s.extract (i + 4) s.size).size := by rw [ByteArray.size_extract]; omega
      have hA8 : i + 8 ≤ s.size := by omega
      clear hA
      go_wp2_with fail
      refine (unpack _ _ hx1).mono ?_
      rw [be4_extract s i 0, Nat.add_zero]
      rintro e w1 ⟨rfl, n1, rfl⟩
      clear hx1
      go_wp2_with fail
      refine (unpack _ _ hx2).mono ?_
      rw [be4_extract s (i + 4) 0, Nat.add_zero]
      rintro e w1 ⟨rfl, n2, rfl⟩
      clear hx2
      have hN := be4_lt s i
      have hM := be4_lt s (i + 4)
      obtain ⟨N, HNe⟩ : ∃ N, Hid (be4 s i = N) := ⟨_, rfl⟩
      obtain ⟨M, HMe⟩ : ∃ M, Hid (be4 s (i + 4) = M) := ⟨_, rfl⟩
      rw [HNe.out] at hN ⊢
      rw [HMe.out] at hM ⊢
      go_upto_region 7 with fail
      obtain ⟨R, HR⟩ : ∃ R, Hid (s.extract (i + 8) s.size = R) := ⟨_, rfl⟩
      rw [HR.out]
      have hR1 : R.size + (i + 8) ≤ s.size := by rw [← HR.out, ByteArray.size_extract]; omega
      have hR2 : s.size ≤ R.size + (i + 8) := by rw [← HR.out, ByteArray.size_extract]; omega
      by_cases hB : 8000 < N
      · have HN : Hid (frameAt s i = none) := frameAt_long (by rw [HNe.out]; exact hB)
        go_wp2
        try rw [Exit.noGoto_ret]
        go_ret2
        exact un_done HG.out HN.out (drew_strs hown _) (drew_below hb _)
      · by_cases hC : R.size < N
        · have HN : Hid (frameAt s i = none) := frameAt_cut (by rw [HNe.out]; omega)
          go_wp2
          try rw [Exit.noGoto_ret]
          go_ret2
          exact un_done HG.out HN.out (drew_strs hown _) (drew_below hb _)
        · have hB' : N ≤ 8000 := by omega
          have hC' : N ≤ R.size := by omega
          clear hB hC
          go_wp2_with fail
          obtain ⟨P, HP⟩ : ∃ P, Hid (R.extract 0 N = P) := ⟨_, rfl⟩
          rw [HP.out]
          have hP1 : P.size ≤ N := by rw [← HP.out, ByteArray.size_extract]; omega
          have hPm : P.size ≤ maxLen := by unfold maxLen; omega
          have HPs : Hid (P = s.extract (i + 8) (i + 8 + N)) := by
            show P = _
            rw [← HP.out, ← HR.out, extract_extract s (i + 8) 0 N (by omega), Nat.add_zero]
          refine (implCrc P _ hPm (tab_below HT.out (drew_below hb _))).mono ?_
          rintro e w2 ⟨rfl, rfl⟩
          clear hPm
          obtain ⟨C, HC⟩ : ∃ C, Hid (Crc.crc P.data.toList = C) := ⟨_, rfl⟩
          rw [HC.out]
          by_cases hD : C = M
          · have HN : Hid (frameAt s i = some N) := by
              show frameAt s i = some N
              rw [← HNe.out]
              exact frameAt_whole (by rw [HNe.out]; exact hB') (by rw [HNe.out]; omega) (by rw [HNe.out, HMe.out, ← HPs.out, HC.out]; exact hD)
            subst hD
            have hown0 : wr.ownsRow w.heap.size 9 1 u4 acc.length (acc.map Value.string) := hown
            have hown' : ∀ o, ((wr.alloc o).drewN (n1 + n2)).ownsRow w.heap.size 9 1 u4 acc.length (acc.map Value.string) := fun o => hown0.alloc o
            have hzr : w.heap.size ≤ wr.heap.size := hb.size
            have hlos := strs_lo hown
            clear hown hown0
            go_wp2_with (at_builtin; refine wpList_append_lies _ rfl _ _ 31 rfl w.heap.size 9 i0 (.string ⟨#[]⟩) 1 16 Tryd.underlying31 hi hz0 hz1 hz2 rfl (by decide) _ _ _ rfl (hown' _) ⟨wr.heap.size, 0, none⟩ 1 1 [.string (R.extract 0 N)] rfl rfl ?c1 ?c2 ?c3 ?c4 ?c5 ?c6 (wr.heap.size + 1) ?c7 ?_)
            case c1 =>
              intro j u hj
              match j, hj with
              | 0, hj =>
                simp at hj; subst hj
                simp only [Addr.add, if_pos]
                exact World.cell?_alloc_mark (wr.drewN (n1 + n2)) _ _ _ 0
            case c2 => intro u hu; simp at hu; subst hu; rfl
            case c3 => decide
            case c4 => unfold maxLen; omega
            case c5 => omega
            case c6 => simp; omega
            case c7 => simp
            intro g cap w3 hown1 hgrow hat hlt
            have HS1 : Hid (Strs w3 w.heap.size (.slice (some ⟨g, 0, none⟩) (acc.length + 1) cap) (acc ++ [R.extract 0 N])) := strs_snoc hown1
            have hb3 : Below w.heap.size w w3 := (drew_below (hb.alloc hzr _) _).grown hgrow (by simp; omega) hlos
            clear hown1 hgrow hat hown' hlos
            go_wp2
            go_roundw
            case rel =>
              refine ⟨f - 1, i + (8 + N), acc ++ [R.extract 0 N], by omega, by go_num, by omega, by simp; omega, ?_, HS1.out, hb3⟩
              show unfrGo (f - 1) s (i + (8 + N)) (acc ++ [R.extract 0 N]) = unfr s
              have e := HG.out
              rw [unfrGo_some (by omega) HN.out] at e
              rw [HP.out, HPs.out, ← Nat.add_assoc]
              exact e
            case measure => simp [intOf]; omega
          · have HN : Hid (frameAt s i = none) := frameAt_sum (by rw [HNe.out, HMe.out, ← HPs.out, HC.out]; exact hD)
            have hDb : ((C : Int) != (M : Int)) = true := by rw [bne_iff_ne]; omega
            clear hD
            go_wp2
            try rw [Exit.noGoto_ret]
            go_ret2
            exact un_done HG.out HN.out (drew_strs hown _) (drew_below hb _)
end Go.Proofs.YticfnfplpccmgacDoor
