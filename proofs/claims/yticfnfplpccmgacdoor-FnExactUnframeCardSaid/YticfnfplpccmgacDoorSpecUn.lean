import Derived.Test.YticfnfplpccmgacDoorSpecFirst
import Derived.Deep.AppendLies
namespace Go.Proofs.YticfnfplpccmgacDoor
open Go.ChangeShapes Go.WideShapes Go.ChangeAt Go.RowKit

set_option maxHeartbeats 1000000 in
set_option maxRecDepth 100000 in
theorem specUnframe (s : ByteArray) (w : World) (hs : s.size ≤ 1048576) :
    Calls Tryd.prog 15 #[.string s] w fun e w' => (∃ v, e = .returned (.tuple #[v, .int .i64 ((unfr s).2 : Int)]) ∧ Strs w' w.heap.size v (unfr s).1) ∧ Below w.heap.size w w' := by
  obtain ⟨i0, hi, hz0, hz1, hz2⟩ := info_parts infoStr
  go_enter Tryd.func15, Tryd.ntmps15
  go_wp2_with fail
  refine (specFirst s _ hs).mono ?_
  rintro e w0 ⟨⟨p0, rfl, hp0⟩, hb0⟩
  go_wp2
  go_loopw [4, 5, 6, 7] (fun v av pv ok wr => ∃ (f i : Nat) (acc : List ByteArray) (p : ByteArray), i ≤ s.size ∧ av = .int .i64 i ∧ pv = .string p ∧ ok = .bool (frameAt s i).isSome ∧ Hid (∀ n, frameAt s i = some n → p = s.extract (i + 8) (i + 8 + n)) ∧ s.size < f + i ∧ 8 * acc.length ≤ i ∧ Hid (unfrGo f s i acc = unfr s) ∧ Strs wr w.heap.size v acc ∧ Below w.heap.size w wr) (fun _ av _ _ _ => s.size - (intOf av).toNat)
  case atStart => exact ⟨s.size + 1, 0, [], p0, Nat.zero_le _, rfl, rfl, rfl, fun n h => by rw [Nat.zero_add]; exact hp0 n h, by omega, Nat.zero_le _, rfl, World.ownsRow_nil _ _ _ _, hb0⟩
  case round =>
    obtain ⟨f, i, acc, p, hi1, rfl, rfl, rfl, HP, hf, hacc, HG, hown, hb⟩ := hrel
    cases hfr : frameAt s i with
    | none =>
      have HN : Hid (frameAt s i = none) := hfr
      clear hfr
      go_wp2
      go_ret2
      have e := HG.out
      rw [unfrGo_none HN.out] at e
      exact ⟨⟨_, by rw [← e]; rfl, by rw [← e]; exact hown⟩, hb⟩
    | some n =>
      have HN : Hid (frameAt s i = some n) := hfr
      clear hfr
      have hn1 := (frameAt_some HN.out).1
      have hn2 := (frameAt_some HN.out).2.1
      have HPn : Hid (p = s.extract (i + 8) (i + 8 + n)) := HP.out n HN.out
      have hpl : p.size ≤ n := by rw [HPn.out, ByteArray.size_extract]; omega
      have hpg : n ≤ p.size := by rw [HPn.out, ByteArray.size_extract]; omega
      have hown' : wr.ownsRow w.heap.size 9 1 u4 acc.length (acc.map Value.string) := hown
      have hzr : w.heap.size ≤ wr.heap.size := hb.size
      clear hown
      go_wp2_with (at_builtin; refine wpList_append_lies _ rfl _ _ 31 rfl w.heap.size 9 i0 (.string ⟨#[]⟩) 1 16 Tryd.underlying31 hi hz0 hz1 hz2 rfl (by decide) _ _ _ rfl (hown'.alloc _) ⟨wr.heap.size, 0, none⟩ 1 1 [.string p] rfl rfl ?c1 ?c2 ?c3 ?c4 ?c5 ?c6 (wr.heap.size + 1) ?c7 ?_)
      case c1 =>
        intro j u hj
        match j, hj with
        | 0, hj => simp at hj; subst hj; simp [Addr.add]
      case c2 => intro u hu; simp at hu; subst hu; rfl
      case c3 => decide
      case c4 => unfold maxLen; omega
      case c5 => omega
      case c6 => simp; omega
      case c7 => simp
      intro g cap w1 hown1 hgrow hat hlt
      have HS1 : Hid (Strs w1 w.heap.size (.slice (some ⟨g, 0, none⟩) (acc.length + 1) cap) (acc ++ [p])) := strs_snoc hown1
      have hb1 : Below w.heap.size w w1 := (hb.alloc hzr _).grown hgrow (by simp; omega) (strs_lo (show Strs wr w.heap.size u4 acc from hown'))
      clear hown1 hgrow hat hown'
      go_wp2_with fail
      have hsx : (s.extract (i + (8 + p.size)) s.size).size ≤ 1048576 := by rw [ByteArray.size_extract]; omega
      refine (specFirst (s.extract (i + (8 + p.size)) s.size) _ hsx).mono ?_
      rintro e w2 ⟨⟨p2, rfl, hp2⟩, hb2⟩
      have HP2 : Hid (∀ n, frameAt (s.extract (i + (8 + p.size)) s.size) 0 = some n → p2 = (s.extract (i + (8 + p.size)) s.size).extract 8 (8 + n)) := hp2
      clear hp2 hsx
      go_wp2
      go_roundw
      case rel =>
        have hin : i + 8 + n = i + (8 + p.size) := by omega
        refine ⟨f - 1, i + (8 + p.size), acc ++ [p], p2, by omega, by go_num, rfl, by rw [frameAt_extract s _ (by omega)], ?_, by omega, by simp; omega, ?_, strs_below HS1.out hb2 (Nat.le_refl _), hb1.trans (hb2.mono hb1.size)⟩
        · intro n' hn'
          have hn3 := frameAt_some hn'
          rw [HP2.out n' (by rw [frameAt_extract s _ (by omega)]; exact hn'), extract_extract s _ _ _ (by omega)]
          rw [Nat.add_assoc (i + (8 + p.size)) 8 n']
        · have e := HG.out
          rw [unfrGo_some (by omega) HN.out, hin] at e
          have e2 : s.extract (i + 8) (i + (8 + p.size)) = p := by rw [← hin, ← HPn.out]
          rw [e2] at e
          exact e
      case measure => simp [intOf]; omega
end Go.Proofs.YticfnfplpccmgacDoor
