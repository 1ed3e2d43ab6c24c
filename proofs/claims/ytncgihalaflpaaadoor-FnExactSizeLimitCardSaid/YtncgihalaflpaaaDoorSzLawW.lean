import Derived.Test.YtncgihalaflpaaaDoorSzSpec
import Derived.Test.YtncgihalaflpaaaDoorSzImpl
import Derived.Test.YtncgihalaflpaaaDoorArgSz
import Derived.Test.YtncgihalaflpaaaDoorEqL
namespace Go.Proofs.YtncgihalaflpaaaDoor
open Go.ChangeShapes Go.WideShapes Go.ChangeAt Go.RowKit
open Pcs

set_option maxHeartbeats 2000000 in
set_option maxRecDepth 100000 in
theorem sizeLaw (v : Value) (L : List ByteArray) (w : World) (hA : ArgS w v L) (hl : LenIn w) (hf : FoldTab w) :
    Calls Tryd.prog 7 #[v] w fun e w' => e = .returned (.bool true) ∧ Below w.heap.size w w' := by
  have HL : Hid (LenIn w) := hl
  have HF : Hid (FoldAt w) := fold_at hf
  have HA : Hid (ArgS w v L) := hA
  clear hl hf hA
  go_enter Tryd.func7, Tryd.ntmps7
  go_wp2_with fail
  refine (szStrs _ L 1048576 _ HA.out (by decide) (by decide)).mono ?_
  rintro e wz ⟨r, rfl, hr, hwz⟩
  rw [hwz]
  clear hwz wz
  by_cases hr0 : r < 0
  · go_wp2
    go_ret
    exact ⟨rfl, Below.refl _ _⟩
  have hLL : L.length ≤ 1048576 := by rcases hr with h | h <;> omega
  have hsum : sumSz L ≤ 1048576 := by rcases hr with h | h <;> omega
  have HS : Hid (∀ s ∈ L, s.size ≤ 1048576) := by
    intro s hs
    obtain ⟨k, hk, rfl⟩ := List.getElem_of_mem hs
    have := sumSz_take L k hk
    have := sumSz_take_le L (k + 1)
    omega
  have HSM : Hid (L.length ≤ maxLen ∧ ∀ s ∈ L, s.size ≤ maxLen) := ⟨by unfold maxLen; omega, fun s hs => by have := HS.out s hs; unfold maxLen; omega⟩
  clear hr hsum
  obtain ⟨N, HN⟩ : ∃ N : Int, Hid (((szLim L).getD 0 : Int) = N) := ⟨_, rfl⟩
  obtain ⟨B, HB⟩ : ∃ B : Bool, Hid ((szLim L).isSome = B) := ⟨_, rfl⟩
  go_wp2_with fail
  refine (toStrs _ L _ HA.out hLL).mono ?_
  rintro e w1 ⟨t1, rfl, S1, hb1⟩
  go_wp2_with fail
  refine (specSize _ L _ (strs_args S1 HSM.out.1 HSM.out.2) HS.out).mono ?_
  rw [HN.out, HB.out]
  rintro e w2 ⟨rfl, hb2⟩
  have b2 : Below w.heap.size w w2 := hb1.trans (hb2.mono hb1.size)
  clear S1 hb1 hb2
  go_wp2_with fail
  refine (toStrs _ L _ (HA.out.below b2) hLL).mono ?_
  rintro e w3 ⟨t3, rfl, S3, hb3⟩
  have b3 : Below w.heap.size w w3 := b2.trans (hb3.mono b2.size)
  have HS3 : Hid (Strs w3 w2.heap.size t3 L) := S3
  clear S3 hb3
  go_wp2_with fail
  refine (implSize _ L _ (strs_args HS3.out HSM.out.1 HSM.out.2) HS.out (len_below HL.out b3) (HF.out.below b3)).mono ?_
  rw [HN.out, HB.out]
  rintro e w4 ⟨rfl, hb4⟩
  have b4 : Below w.heap.size w w4 := b3.trans (hb4.mono b3.size)
  have HS4 : Hid (Strs w4 w2.heap.size t3 L) := strs_below HS3.out hb4 (Nat.le_refl _)
  clear hb4 HS3
  go_wp2_with fail
  refine (toStrs _ L _ (HA.out.below b4) hLL).mono ?_
  rintro e w5 ⟨t5, rfl, S5, hb5⟩
  have b5 : Below w.heap.size w w5 := b4.trans (hb5.mono b4.size)
  have HS5 : Hid (Strs w5 w4.heap.size t5 L) := S5
  have HS6 : Hid (Strs w5 w2.heap.size t3 L) := strs_below HS4.out hb5 (Nat.le_refl _)
  clear S5 hb5 HS4
  go_wp2_with fail
  refine (eqStrs _ _ L _ _ _ HS6.out HS5.out).mono ?_
  rintro e w6 ⟨rfl, hb6⟩
  go_wp2
  go_ret
  exact ⟨rfl, b5.trans (hb6.mono b5.size)⟩
end Go.Proofs.YtncgihalaflpaaaDoor
