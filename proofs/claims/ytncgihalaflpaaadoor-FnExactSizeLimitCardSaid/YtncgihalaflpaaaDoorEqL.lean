import Derived.Test.YtncgihalaflpaaaDoorEqF
import Derived.Test.YtncgihalaflpaaaDoorArgSz
import Derived.Test.YtncgihalaflpaaaDoorStrs
namespace Go.Proofs.YtncgihalaflpaaaDoor
open Go.ChangeShapes Go.WideShapes Go.ChangeAt Go.RowKit
open Pcs

def sizeB : ByteArray := ⟨#[83, 73, 90, 69]⟩
theorem up_eq {x y : UInt8} (hy : y.toNat = 83 ∨ y.toNat = 73 ∨ y.toNat = 90 ∨ y.toNat = 69) : upU x = y ↔ (x.toNat = y.toNat ∨ x.toNat = y.toNat + 32) := by
  rw [← UInt8.toNat_inj]
  rcases upU_cases x with ⟨h1, h2, h3⟩ | h
  · rw [h3]; omega
  · rw [h]
    constructor
    · intro e; exact .inl e
    · rintro (e | e)
      · exact e
      · exfalso
        have h4 : 97 ≤ x.toNat ∧ x.toNat ≤ 122 := by omega
        have h5 := congrArg UInt8.toNat h
        unfold upU upI at h5
        rw [if_pos (by omega), show ((x.toNat : Int) - 32).toNat = x.toNat - 32 by omega, UInt8.toNat_ofNat'] at h5
        omega
theorem size_at (j : Nat) (h : j < sizeB.size) : (sizeB[j]'h).toNat = 83 ∨ (sizeB[j]'h).toNat = 73 ∨ (sizeB[j]'h).toNat = 90 ∨ (sizeB[j]'h).toNat = 69 := by
  have h4 : j < 4 := h
  match j, h4 with
  | 0, _ => exact .inl rfl
  | 1, _ => exact .inr (.inl rfl)
  | 2, _ => exact .inr (.inr (.inl rfl))
  | 3, _ => exact .inr (.inr (.inr rfl))
theorem fold_no {s : ByteArray} (hs : s.size = 4) {i : Nat} (hi : i < s.size) (h : upU (s[i]'hi) ≠ sizeB[i]'(by rw [hs] at hi; exact hi)) : foldN s = false := by
  unfold foldN
  rw [beq_eq_false_iff_ne]
  intro e
  apply h
  have hl : i < s.data.toList.length := by rw [← Lib.size_eq]; exact hi
  have h1 : (s.data.toList.map upU)[i]? = some (upU (s[i]'hi)) := by
    rw [List.getElem?_map, List.getElem?_eq_getElem hl]; rfl
  rw [e] at h1
  have h2 : ([83, 73, 90, 69] : List UInt8)[i]? = some (sizeB[i]'(by rw [hs] at hi; exact hi)) := List.getElem?_eq_getElem (by rw [hs] at hi; exact hi)
  rw [h2] at h1
  exact (Option.some.inj h1).symm
theorem fold_yes {s : ByteArray} (hs : s.size = 4) (h : ∀ i (hi : i < s.size), upU (s[i]'hi) = sizeB[i]'(by rw [hs] at hi; exact hi)) : foldN s = true := by
  unfold foldN
  rw [beq_iff_eq]
  refine List.ext_getElem (by rw [List.length_map, ← Lib.size_eq, hs]; rfl) fun i h1 h2 => ?_
  have hi : i < s.size := by rw [List.length_map, ← Lib.size_eq] at h1; exact h1
  rw [List.getElem_map]
  exact h i hi
theorem fold_high {s : ByteArray} (hs : s.size = 4) {i : Nat} (hi : i < s.size) (h : 128 ≤ (s[i]'hi).toNat) : foldN s = false := by
  refine fold_no hs hi fun e => ?_
  have := (up_eq (size_at i (by rw [hs] at hi; exact hi))).1 e
  have := size_at i (by rw [hs] at hi; exact hi)
  omega

set_option maxHeartbeats 4000000 in
set_option maxRecDepth 1000000 in
theorem foldLow (s : ByteArray) (w : World) (hs : s.size = 4) (hlow : ∀ j (h : j < s.size), (s[j]'h).toNat < 128) :
    Calls Tryd.prog 52 #[.string s, .string sizeB] w fun e w' => e = .returned (.bool (foldN s)) ∧ Below w.heap.size w w' := by
  have hsi : (s.size : Int) = 4 := by omega
  have ht : sizeB.size = 4 := rfl
  have hti : (sizeB.size : Int) = 4 := by omega
  have HLO : Hid (∀ j (h : j < s.size), (s[j]'h).toNat < 128) := hlow
  have HSZ : Hid (∀ j (h : j < sizeB.size), (sizeB[j]'h).toNat = 83 ∨ (sizeB[j]'h).toNat = 73 ∨ (sizeB[j]'h).toNat = 90 ∨ (sizeB[j]'h).toNat = 69) := size_at
  have HNO : Hid (∀ i (hi : i < s.size) (hi2 : i < sizeB.size), upU (s[i]'hi) ≠ sizeB[i]'hi2 → foldN s = false) := fun i hi _ h => fold_no hs hi h
  have HYS : Hid ((∀ i (hi : i < s.size) (hi2 : i < sizeB.size), upU (s[i]'hi) = sizeB[i]'hi2) → foldN s = true) := fun h => fold_yes hs fun i hi => h i hi _
  clear hlow
  generalize foldN s = FN at *
  generalize sizeB = t at *
  go_enter Tryd.func52, Tryd.ntmps52
  go_wp2
  go_step3
  go_wp2
  go_loop [5] (fun iv => ∃ i : Nat, i ≤ 4 ∧ iv = .int .i64 i ∧ Hid (∀ j (hj : j < s.size) (hj2 : j < t.size), j < i → upU (s[j]'hj) = t[j]'hj2)) (fun iv => 4 - (intOf iv).toNat)
  case atStart => exact ⟨0, by omega, rfl, fun j _ _ h => absurd h (Nat.not_lt_zero _)⟩
  case round =>
    obtain ⟨i, hii, rfl, HK⟩ := hrel
    by_cases hi4 : i < 4
    · have hisz : (i : Int) < (s.size : Int) := by omega
      have hitz : (i : Int) < (t.size : Int) := by omega
      have hiM : (i : Int) < 4 := by omega
      have hx128 := HLO.out i (by omega)
      have hyc := HSZ.out i (by omega)
      have HG1 : Hid (upU (s[i]'(by omega)) = t[i]'(by omega) → ∀ j (hj : j < s.size) (hj2 : j < t.size), j < i + 1 → upU (s[j]'hj) = t[j]'hj2) := by
        intro e j hj hj2 hji
        by_cases e2 : j = i
        · subst e2; exact e
        · exact HK.out j hj hj2 (by omega)
      have HG2 : Hid (upU (s[i]'(by omega)) ≠ t[i]'(by omega) → FN = false) := HNO.out i (by omega) (by omega)
      obtain ⟨x, hx⟩ : ∃ x : UInt8, s[i]'(by omega) = x := ⟨_, rfl⟩
      obtain ⟨y, hy⟩ : ∃ y : UInt8, t[i]'(by omega) = y := ⟨_, rfl⟩
      rw [hx] at hx128 HG1 HG2
      rw [hy] at hyc HG1 HG2
      have HUE : Hid (upU x = y ↔ (x.toNat = y.toNat ∨ x.toNat = y.toNat + 32)) := up_eq hyc
      have hy128 : y.toNat < 128 := by omega
      have hor : bits .or .u8 (x.toNat : Int) (y.toNat : Int) = ((x.toNat ||| y.toNat : Nat) : Int) := u8_or_nat _ _ (by omega) (by omega)
      have hor128 : ¬ ((128 : Int) ≤ ((x.toNat ||| y.toNat : Nat) : Int)) := by have := Nat.or_lt_two_pow (n := 7) hx128 hy128; omega
      clear HK HNO HYS HLO HSZ
      go_wp2
      all_goals (try simp only [beq_iff_eq, beq_eq_false_iff_ne, ne_eq] at *)
      all_goals first
        | (go_round
           case measure => simp [intOf]; omega
           case rel => exact ⟨i + 1, by omega, by go_num, HG1.out (HUE.out.2 (by omega))⟩)
        | (have G : Hid (FN = false) := HG2.out (fun e => by have := HUE.out.1 e; omega)
           go_ret
           exact ⟨ret_bool G.out.symm, Below.refl _ _⟩)
    · obtain rfl : i = 4 := by omega
      have G : Hid (FN = true) := HYS.out fun j hj hj2 => HK.out j hj hj2 (by omega)
      go_wp2
      go_ret
      exact ⟨ret_bool G.out.symm, Below.refl _ _⟩

/-- strings.EqualFold at SIZE -/
theorem fold_at {w : World} (h : FoldTab w) : FoldAt w := by
  intro wx s hs hx
  by_cases hlow : ∀ j (h : j < s.size), (s[j]'h).toNat < 128
  · exact foldLow s wx hs hlow
  · obtain ⟨i0, hi0, hhi⟩ : ∃ i0, ∃ h : i0 < s.size, 128 ≤ (s[i0]'h).toNat := by
      simp only [Classical.not_forall, Nat.not_lt] at hlow
      exact hlow
    rw [fold_high hs hi0 hhi]
    exact foldHigh s sizeB wx hs rfl size_at (h.below hx) i0 hi0 hhi
end Go.Proofs.YtncgihalaflpaaaDoor
