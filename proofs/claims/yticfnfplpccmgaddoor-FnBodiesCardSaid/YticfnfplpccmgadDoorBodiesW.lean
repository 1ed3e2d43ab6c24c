import Derived.Test.YticfnfplpccmgadDoorBodD
import Derived.Test.YticfnfplpccmgadDoorAtL
import Derived.Test.YticfnfplpccmgadDoorEndM
import Derived.Test.YticfnfplpccmgadDoorUns
import Derived.Test.YticfnfplpccmgadDoorSUns
import Derived.Test.YticfnfplpccmgadDoorBod
import Derived.Test.YticfnfplpccmgadDoorOpB
namespace Go.Proofs.YticfnfplpccmgadDoor
open Go.ChangeShapes Go.WideShapes Go.ChangeAt Go.RowKit
open Pcs

theorem bytes_form {w : World} {cv : Value} {B : List UInt8} (hB : BytesArg w cv B) : ∃ a c, cv = .slice a B.length c := by
  rcases hB.2 with ⟨rfl, a, c, rfl⟩ | ⟨g, off, cap, rfl, _⟩
  · exact ⟨_, _, rfl⟩
  · exact ⟨_, _, rfl⟩
theorem BytesArg.code {w : World} {cv : Value} {B : List UInt8} (hB : BytesArg w cv B) (h : B.length ≤ 1048576) : CodeAt w cv B := ⟨h, hB.2⟩
theorem stuffB_ne {b : ByteArray} (h : bodyOk b = true) : stuffB b ≠ ⟨#[]⟩ := by
  intro e
  have := (end_only h).1
  rw [e] at this
  exact absurd this (by decide)

set_option maxHeartbeats 4000000 in
set_option maxRecDepth 100000 in
theorem bodiesLaw (cv dv : Value) (B D : List UInt8) (w : World) (hB : BytesArg w cv B) (hD : BytesArg w dv D) (hl : LenIn w) :
    Calls Tryd.prog 3 #[cv, dv] w fun e w' => e = .returned (.bool true) ∧ Below w.heap.size w w' := by
  have HL : Hid (LenIn w) := hl
  obtain ⟨ca, cc, hcv⟩ := bytes_form hB
  obtain ⟨da, dc, hdv⟩ := bytes_form hD
  have hBm := hB.1
  have hDm := hD.1
  unfold maxLen at hBm hDm
  clear hl
  by_cases hbig : 1048576 < B.length ∨ 1048576 < D.length ∨ 1048576 < B.length + D.length
  · subst hcv hdv
    clear hB hD
    have hs : (1048576 : Int) < B.length ∨ ¬ (1048576 : Int) < B.length := by omega
    rcases hs with h1 | h1
    · go_enter Tryd.func3, Tryd.ntmps3
      go_wp2
      go_ret
      exact ⟨rfl, Below.refl _ _⟩
    · have hs2 : (1048576 : Int) < D.length ∨ ¬ (1048576 : Int) < D.length := by omega
      rcases hs2 with h2 | h2
      · go_enter Tryd.func3, Tryd.ntmps3
        go_wp2
        go_ret
        exact ⟨rfl, Below.refl _ _⟩
      · have h3 : (1048576 : Int) < (B.length : Int) + D.length := by omega
        go_enter Tryd.func3, Tryd.ntmps3
        go_wp2
        go_ret
        exact ⟨rfl, Below.refl _ _⟩
  · have HC : Hid (CodeAt w cv B) := hB.code (by omega)
    have HD : Hid (CodeAt w dv D) := hD.code (by omega)
    subst hcv hdv
    clear hB hD
    have h1 : ¬ (1048576 : Int) < B.length := by omega
    have h2 : ¬ (1048576 : Int) < D.length := by omega
    have h3 : ¬ (1048576 : Int) < (B.length : Int) + D.length := by omega
    go_enter Tryd.func3, Tryd.ntmps3
    go_wp2_with fail
    refine (drawStuff _ B _ HC.out).mono ?_
    rintro e w1 ⟨⟨b, hb, rfl⟩, hb1⟩
    go_wp2_with fail
    refine (implStuff b _ (len_below HL.out hb1) (by omega)).mono ?_
    rintro e w2 ⟨rfl, hb2⟩
    have b2 : Below w.heap.size w w2 := hb1.trans (hb2.mono hb1.size)
    go_wp2_with fail
    refine (specStuff b _ (by omega)).mono ?_
    rintro e w3 ⟨rfl, hb3⟩
    have b3 : Below w.heap.size w w3 := b2.trans (hb3.mono b2.size)
    have hsz := stuffB_le b
    go_wp2_with fail
    refine (implBody b _ (len_below HL.out b3) (by omega)).mono ?_
    rintro e w4 ⟨rfl, hb4⟩
    have b4 : Below w.heap.size w w4 := b3.trans (hb4.mono b3.size)
    clear hb1 hb2 hb3 hb4 b2 b3
    have hbo : bodyOk b = false ∨ bodyOk b = true := by cases bodyOk b <;> simp
    rcases hbo with hok | hok
    focus
      have hS : stuffB b = ⟨#[]⟩ := by unfold stuffB; rw [hok]; rfl
      rw [hS, hok]
      have bz := b4
      clear hsz hS hok b4
      go_wp2_with fail
    rotate_left
    focus
      obtain ⟨h3, hend⟩ := end_only hok
      have hun : Hid (∀ r f, Unst (stuffB b) r f → r = b ∧ f = true) := fun r f hu => unst_one hu (.inl ⟨rfl, hok, rfl⟩)
      rw [hok]
      generalize stuffB b = S at *
      have HE : Hid (Lib.index ((⟨#[13, 10]⟩ : ByteArray) ++ S).data.toList (⟨#[13, 10, 46, 13, 10]⟩ : ByteArray).data.toList = (S.size : Int) - 3) := by
        show _ = _
        rw [ByteArray.data_append]
        have e : ((#[13, 10] : Array UInt8) ++ S.data).toList = [13, 10] ++ S.data.toList := by simp
        show Lib.index ((#[13, 10] : Array UInt8) ++ S.data).toList _ = _
        rw [e]
        show Lib.index ([13, 10] ++ S.data.toList) endP = _
        rw [hend]; omega
      have hne : S.size ≠ 0 := by omega
      have hln := list_ne hne
      clear hend hok
      go_wp2_with fail
      refine (implUnstuff S _ (len_below HL.out b4) (by omega)).mono ?_
      rintro e w5 ⟨⟨r, f, rfl, hu⟩, hb5⟩
      obtain ⟨rfl, rfl⟩ := hun.out r f hu
      have b5 : Below w.heap.size w w5 := b4.trans (hb5.mono b4.size)
      clear hun hu hb5
      go_wp2_with fail
      refine (lawAt ((⟨#[13, 10]⟩ : ByteArray) ++ S) ⟨#[13, 10, 46, 13, 10]⟩ _ (by rw [ByteArray.size_append]; have e2 : (⟨#[13, 10]⟩ : ByteArray).size = 2 := rfl; omega) (by decide) (by decide)).mono ?_
      rw [HE.out]
      rintro e w6 ⟨rfl, hb6⟩
      have bz : Below w.heap.size w w6 := b5.trans (hb6.mono b5.size)
      clear HE b4 hb6 b5
      go_wp2_with fail
    all_goals
      refine (drawUnstuff _ D _ (HD.out.below bz)).mono ?_
      rintro e w7 ⟨⟨t, ht, rfl⟩, hb7⟩
      have b7 : Below w.heap.size w w7 := bz.trans (hb7.mono bz.size)
      clear hb7
      go_wp2_with fail
      refine (implUnstuff t _ (len_below HL.out b7) (by omega)).mono ?_
      rintro e w8 ⟨⟨r8, f8, rfl, hu8⟩, hb8⟩
      have b8 : Below w.heap.size w w8 := b7.trans (hb8.mono b7.size)
      clear hb8
      go_wp2_with fail
      refine (specUnstuff t _ (by omega)).mono ?_
      rintro e w9 ⟨⟨r9, f9, rfl, hu9⟩, hb9⟩
      have b9 : Below w.heap.size w w9 := b8.trans (hb9.mono b8.size)
      obtain ⟨rfl, rfl⟩ := unst_one hu8 hu9
      clear hb9 hu9
      rcases hu8 with ⟨rfl, ho8, hst⟩ | ⟨rfl, rfl, _⟩
      · have hr : r8.size ≤ 3000 := by
          unfold bodyOk at ho8
          rw [Bool.and_eq_true, decide_eq_true_eq] at ho8
          exact ho8.1
        have HST : Hid (stuffB r8 = t) := hst
        clear hst ho8
        go_wp2_with fail
        refine (implStuff r8 _ (len_below HL.out b9) (by omega)).mono ?_
        rw [HST.out]
        rintro e w10 ⟨rfl, hb10⟩
        go_wp2
        go_ret
        exact ⟨rfl, b9.trans (hb10.mono b9.size)⟩
      · go_wp2
        go_ret
        exact ⟨rfl, b9⟩
end Go.Proofs.YticfnfplpccmgadDoor
