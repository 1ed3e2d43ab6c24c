import Derived.Test.YtngcjlghjidnjaaGreatDoorMg40
import Derived.Test.YtngcjlghjidnjaaGreatDoorMg16
import Derived.Test.YtngcjlghjidnjaaGreatDoorMg18
import Derived.Test.YtngcjlghjidnjaaGreatDoorCards
import Derived.Test.YtngcjlghjidnjaaGreatDoorTie
import Derived.Deep.SlicePairs
import Derived.Lib.LaidTab
import Derived.Test.YtngcjlghjidnjaaGreatDoorMg1
import Derived.Test.YtngcjlghjidnjaaGreatDoorMg9
import Derived.Deep.DeepHandedRow
import Derived.Lay
import Derived.HandedShaped
namespace Go.Proofs.YtngcjlghjidnjaaGreatDoor
open Go.ChangeShapes Go.WideShapes Go.ChangeAt Go.RowKit
open Pcs

def sizeB : ByteArray := ⟨#[83, 73, 90, 69]⟩
theorem up_eq {x y : UInt8} (hy : y.toNat = 83 ∨ y.toNat = 73 ∨ y.toNat = 90 ∨ y.toNat = 69) : upU x = y ↔ (x.toNat = y.toNat ∨ x.toNat = y.toNat + 32) := by
  rw [← UInt8.toNat_inj]
  rcases upU_cases x with ⟨h1, h2, h3⟩ | h
  · rw [h3]; omega
  · rw [h]
    constructor
    · intro e; exact .inl e
    · rintro (e | e)
      · exact e
      · exfalso
        have h4 : 97 ≤ x.toNat ∧ x.toNat ≤ 122 := by omega
        have h5 := congrArg UInt8.toNat h
        unfold upU upI at h5
        rw [if_pos (by omega), show ((x.toNat : Int) - 32).toNat = x.toNat - 32 by omega, UInt8.toNat_ofNat'] at h5
        omega
theorem size_at (j : Nat) (h : j < sizeB.size) : (sizeB[j]'h).toNat = 83 ∨ (sizeB[j]'h).toNat = 73 ∨ (sizeB[j]'h).toNat = 90 ∨ (sizeB[j]'h).toNat = 69 := by
  have h4 : j < 4 := h
  match j, h4 with
  | 0, _ => exact .inl rfl
  | 1, _ => exact .inr (.inl rfl)
  | 2, _ => exact .inr (.inr (.inl rfl))
  | 3, _ => exact .inr (.inr (.inr rfl))
theorem fold_no {s : ByteArray} (hs : s.size = 4) {i : Nat} (hi : i < s.size) (h : upU (s[i]'hi) ≠ sizeB[i]'(by rw [hs] at hi; exact hi)) : foldN s = false := by
  unfold foldN
  rw [beq_eq_false_iff_ne]
  intro e
  apply h
  have hl : i < s.data.toList.length := by rw [← Lib.size_eq]; exact hi
  have h1 : (s.data.toList.map upU)[i]? = some (upU (s[i]'hi)) := by
    rw [List.getElem?_map, List.getElem?_eq_getElem hl]; rfl
  rw [e] at h1
  have h2 : ([83, 73, 90, 69] : List UInt8)[i]? = some (sizeB[i]'(by rw [hs] at hi; exact hi)) := List.getElem?_eq_getElem (by rw [hs] at hi; exact hi)
  rw [h2] at h1
  exact (Option.some.inj h1).symm
theorem fold_yes {s : ByteArray} (hs : s.size = 4) (h : ∀ i (hi : i < s.size), upU (s[i]'hi) = sizeB[i]'(by rw [hs] at hi; exact hi)) : foldN s = true := by
  unfold foldN
  rw [beq_iff_eq]
  refine List.ext_getElem (by rw [List.length_map, ← Lib.size_eq, hs]; rfl) fun i h1 h2 => ?_
  have hi : i < s.size := by rw [List.length_map, ← Lib.size_eq] at h1; exact h1
  rw [List.getElem_map]
  exact h i hi
theorem fold_high {s : ByteArray} (hs : s.size = 4) {i : Nat} (hi : i < s.size) (h : 128 ≤ (s[i]'hi).toNat) : foldN s = false := by
  refine fold_no hs hi fun e => ?_
  have := (up_eq (size_at i (by rw [hs] at hi; exact hi))).1 e
  have := size_at i (by rw [hs] at hi; exact hi)
  omega

set_option maxHeartbeats 4000000 in
set_option maxRecDepth 1000000 in
theorem foldLow (s : ByteArray) (w : World) (hs : s.size = 4) (hlow : ∀ j (h : j < s.size), (s[j]'h).toNat < 128) :
    Calls Tryz.prog 170 #[.string s, .string sizeB] w fun e w' => e = .returned (.bool (foldN s)) ∧ Below w.heap.size w w' := by
  have hsi : (s.size : Int) = 4 := by omega
  have ht : sizeB.size = 4 := rfl
  have hti : (sizeB.size : Int) = 4 := by omega
  have HLO : Hid (∀ j (h : j < s.size), (s[j]'h).toNat < 128) := hlow
  have HSZ : Hid (∀ j (h : j < sizeB.size), (sizeB[j]'h).toNat = 83 ∨ (sizeB[j]'h).toNat = 73 ∨ (sizeB[j]'h).toNat = 90 ∨ (sizeB[j]'h).toNat = 69) := size_at
  have HNO : Hid (∀ i (hi : i < s.size) (hi2 : i < sizeB.size), upU (s[i]'hi) ≠ sizeB[i]'hi2 → foldN s = false) := fun i hi _ h => fold_no hs hi h
  have HYS : Hid ((∀ i (hi : i < s.size) (hi2 : i < sizeB.size), upU (s[i]'hi) = sizeB[i]'hi2) → foldN s = true) := fun h => fold_yes hs fun i hi => h i hi _
  clear hlow
  generalize foldN s = FN at *
  generalize sizeB = t at *
  go_enter Tryz.func170, Tryz.ntmps170
  go_wp2
  go_step3
  go_wp2
  go_loop [5] (fun iv => ∃ i : Nat, i ≤ 4 ∧ iv = .int .i64 i ∧ Hid (∀ j (hj : j < s.size) (hj2 : j < t.size), j < i → upU (s[j]'hj) = t[j]'hj2)) (fun iv => 4 - (intOf iv).toNat)
  case atStart => exact ⟨0, by omega, rfl, fun j _ _ h => absurd h (Nat.not_lt_zero _)⟩
  case round =>
    obtain ⟨i, hii, rfl, HK⟩ := hrel
    by_cases hi4 : i < 4
    · have hisz : (i : Int) < (s.size : Int) := by omega
      have hitz : (i : Int) < (t.size : Int) := by omega
      have hiM : (i : Int) < 4 := by omega
      have hx128 := HLO.out i (by omega)
      have hyc := HSZ.out i (by omega)
      have HG1 : Hid (upU (s[i]'(by omega)) = t[i]'(by omega) → ∀ j (hj : j < s.size) (hj2 : j < t.size), j < i + 1 → upU (s[j]'hj) = t[j]'hj2) := by
        intro e j hj hj2 hji
        by_cases e2 : j = i
        · subst e2; exact e
        · exact HK.out j hj hj2 (by omega)
      have HG2 : Hid (upU (s[i]'(by omega)) ≠ t[i]'(by omega) → FN = false) := HNO.out i (by omega) (by omega)
      obtain ⟨x, hx⟩ : ∃ x : UInt8, s[i]'(by omega) = x := ⟨_, rfl⟩
      obtain ⟨y, hy⟩ : ∃ y : UInt8, t[i]'(by omega) = y := ⟨_, rfl⟩
      rw [hx] at hx128 HG1 HG2
      rw [hy] at hyc HG1 HG2
      have HUE : Hid (upU x = y ↔ (x.toNat = y.toNat ∨ x.toNat = y.toNat + 32)) := up_eq hyc
      have hy128 : y.toNat < 128 := by omega
      have hor : bits .or .u8 (x.toNat : Int) (y.toNat : Int) = ((x.toNat ||| y.toNat : Nat) : Int) := u8_or_nat _ _ (by omega) (by omega)
      have hor128 : ¬ ((128 : Int) ≤ ((x.toNat ||| y.toNat : Nat) : Int)) := by have := Nat.or_lt_two_pow (n := 7) hx128 hy128; omega
      clear HK HNO HYS HLO HSZ
      go_wp2
      all_goals (try simp only [beq_iff_eq, beq_eq_false_iff_ne, ne_eq] at *)
      all_goals first
        | (go_round
           case measure => simp [intOf]; omega
           case rel => exact ⟨i + 1, by omega, by go_num, HG1.out (HUE.out.2 (by omega))⟩)
        | (have G : Hid (FN = false) := HG2.out (fun e => by have := HUE.out.1 e; omega)
           go_ret
           exact ⟨ret_bool G.out.symm, Below.refl _ _⟩)
    · obtain rfl : i = 4 := by omega
      have G : Hid (FN = true) := HYS.out fun j hj hj2 => HK.out j hj hj2 (by omega)
      go_wp2
      go_ret
      exact ⟨ret_bool G.out.symm, Below.refl _ _⟩

/-- strings.EqualFold at SIZE -/
theorem fold_at {w : World} (h : FoldTab w) : FoldAt w := by
  intro wx s hs hx
  by_cases hlow : ∀ j (h : j < s.size), (s[j]'h).toNat < 128
  · exact foldLow s wx hs hlow
  · obtain ⟨i0, hi0, hhi⟩ : ∃ i0, ∃ h : i0 < s.size, 128 ≤ (s[i0]'h).toNat := by
      simp only [Classical.not_forall, Nat.not_lt] at hlow
      exact hlow
    rw [fold_high hs hi0 hhi]
    exact foldHigh s sizeB wx hs rfl size_at (h.below hx) i0 hi0 hhi
end Go.Proofs.YtngcjlghjidnjaaGreatDoor
namespace Go.Proofs.YtngcjlghjidnjaaGreatDoor
open Go.ChangeShapes Go.WideShapes Go.ChangeAt Go.RowKit

set_option maxRecDepth 100000 in
theorem gAf : Tryz.prog.globalNamed "unicode.asciiFold" = some 3 := by kernel_rfl
theorem gAfT : (Tryz.prog.globals[3]?).map (·.type) = some 168 := by kernel_rfl
set_option maxRecDepth 100000 in
theorem gCo : Tryz.prog.globalNamed "unicode.caseOrbit" = some 4 := by kernel_rfl
theorem gCoT : (Tryz.prog.globals[4]?).map (·.type) = some 169 := by kernel_rfl
theorem cAf : Tryz.prog.cellsOf 168 = 128 := by kernel_rfl
theorem cU16 : Tryz.prog.cellsOf 167 = 1 := by kernel_rfl
theorem cFp : Tryz.prog.cellsOf 171 = 2 := by kernel_rfl

def afZ {H : Type} : DataW H → List Int
  | .agg l => l.map fun | .lit (.int _ z) => z | _ => 0
  | _ => []
def coL {H : Type} : DataW H → List (Int × Int)
  | .slice l _ => l.map fun | .agg [.lit (.int _ a), .lit (.int _ b)] => (a, b) | _ => (0, 0)
  | _ => []
set_option maxRecDepth 100000 in
theorem af_eq : (Rows.laid_unicode_asciiFold : DataW Unit) = Lib.tabData .u16 (afZ (Rows.laid_unicode_asciiFold : DataW Unit)) := by kernel_rfl
set_option maxRecDepth 100000 in
theorem co_eq : (Rows.laid_unicode_caseOrbit : DataW Unit) = .slice ((coL (Rows.laid_unicode_caseOrbit : DataW Unit)).map fun p => .agg [.lit (.int .u16 p.1), .lit (.int .u16 p.2)]) [] := by kernel_rfl

set_option maxRecDepth 100000 in
theorem co_len : (coL (Rows.laid_unicode_caseOrbit : DataW Unit)).length = 94 := by kernel_rfl

set_option maxHeartbeats 1000000 in
set_option maxRecDepth 100000 in
theorem afIn {W : World} {r : List (String × DataW Unit)} {ps : List MemPlace} (h : DataW.LaidVars Tryz.prog W (("unicode.asciiFold", Rows.laid_unicode_asciiFold) :: r) ps) (i : Nat) (z : Int) (hi : (afZ (Rows.laid_unicode_asciiFold : DataW Unit))[i]? = some z) : W.cell? ⟨3, i, none⟩ = some (.int .u16 z) := by
  obtain ⟨g, t, cs, fuel, p, q, hg, ht, hv, hd, _, _⟩ := h
  obtain rfl := Option.some.inj (gAf.symm.trans hg)
  obtain rfl := Option.some.inj (gAfT.symm.trans ht)
  rw [af_eq] at hd
  have hc := Lib.cells_of_tab Tryz.underlying168 Tryz.underlying167 cU16 cAf hd
  rw [World.var?_cell hg hv i, ← Array.getElem?_toList, hc, List.getElem?_map, hi]
  rfl

set_option maxHeartbeats 1000000 in
set_option maxRecDepth 100000 in
theorem coIn {W : World} {r : List (String × DataW Unit)} {ps : List MemPlace} (h : DataW.LaidVars Tryz.prog W (("unicode.caseOrbit", Rows.laid_unicode_caseOrbit) :: r) ps) :
    ∃ b off cap, W.cell? ⟨4, 0, none⟩ = some (.slice (some ⟨b, off, none⟩) (coL (Rows.laid_unicode_caseOrbit : DataW Unit)).length cap) ∧ ∀ i x y, (coL (Rows.laid_unicode_caseOrbit : DataW Unit))[i]? = some (x, y) → W.cell? ⟨b, off + i * 2, none⟩ = some (.int .u16 x) ∧ W.cell? ⟨b, off + (i * 2 + 1), none⟩ = some (.int .u16 y) := by
  obtain ⟨g, t, cs, fuel, p, q, hg, ht, hv, hd, _, _⟩ := h
  obtain rfl := Option.some.inj (gCo.symm.trans hg)
  obtain rfl := Option.some.inj (gCoT.symm.trans ht)
  rw [co_eq] at hd
  have hlen0 : 0 < (coL (Rows.laid_unicode_caseOrbit : DataW Unit)).length := by rw [co_len]; decide
  generalize coL (Rows.laid_unicode_caseOrbit : DataW Unit) = L at *
  rcases Deep.open_slice_pairs Tryz.underlying169 Tryz.underlying171 cFp rfl rfl cU16 cU16 hd with ⟨_, hx⟩ | ⟨a, len, cap, m, k, V0, V1, D0, D1, P0, P1, hc, _, hl, hm, hmm, hx, hall⟩
  · cases hx
  · have hxl := (DataW.slice.inj (Prod.mk.inj hx).1).1
    have hlen : len = L.length := by
      have := congrArg List.length hxl
      simpa using this.symm
    subst hlen
    have hmle : L.length ≤ m := by rw [hmm]; split <;> omega
    have hel : ∀ i x y, L[i]? = some (x, y) → W.cell? (a.add (i * 2)) = some (.int .u16 x) ∧ W.cell? (a.add (i * 2 + 1)) = some (.int .u16 y) := by
      intro i x y hi
      have hiL : i < L.length := (List.getElem?_eq_some_iff.1 hi).1
      obtain ⟨c0, c1, t0, t1⟩ := hall i (by omega)
      have h1 := congrArg (·[i]?) hxl
      simp only [List.getElem?_map, hi, List.getElem?_range hiL, Option.map_some, Option.some.injEq, DataW.agg.injEq, List.cons.injEq, and_true] at h1
      obtain ⟨n0, e0, f0, _⟩ := DataW.trod_int Tryz.underlying167 t0
      obtain ⟨n1, e1, f1, _⟩ := DataW.trod_int Tryz.underlying167 t1
      have g0 := (Prod.mk.inj f0).1
      have g1 := (Prod.mk.inj f1).1
      rw [g0, g1] at h1
      simp only [DataW.lit.injEq, Lit.int.injEq, true_and, List.cons.injEq, and_true] at h1 e0 e1
      obtain ⟨rfl, rfl⟩ := h1
      rw [c0, c1, e0, e1]
      exact ⟨rfl, rfl⟩
    obtain ⟨b, off, spot⟩ := a
    have hspot : spot = none := by
      obtain ⟨⟨x, y⟩, hxy⟩ : ∃ z, L[0]? = some z := ⟨L[0], List.getElem?_eq_getElem hlen0⟩
      simpa [Addr.add] using World.cell?_spot (hel 0 x y hxy).1
    subst hspot
    refine ⟨b, off, cap, ?_, fun i x y hi => ?_⟩
    rotate_left
    · have h := hel i x y hi
      by_cases h0 : i = 0
      · subst h0
        simpa [Addr.add] using h
      · have h1 : ¬ i * 2 = 0 := by omega
        simpa [Addr.add, h1] using h
    rw [World.var?_cell hg hv 0, ← Array.getElem?_toList, hc]
    rfl

set_option maxHeartbeats 1000000 in
set_option maxRecDepth 100000 in
theorem foldIn {W : World} {d0 : DataW Unit} {n0 : String} {r : List (String × DataW Unit)} (h : laidMet Tryz.prog ((n0, d0) :: ("unicode.asciiFold", Rows.laid_unicode_asciiFold) :: ("unicode.caseOrbit", Rows.laid_unicode_caseOrbit) :: r) W) : FoldTab W := by
  obtain ⟨ps, ⟨_, _, _, _, _, q, _, _, _, _, h1, _⟩, _⟩ := h
  have h2 := h1
  obtain ⟨_, _, _, _, _, q2, _, _, _, _, h3, _⟩ := h2
  have A := afIn h1
  obtain ⟨b, off, cap, C0, C⟩ := coIn h3
  refine ⟨A 83 115 (by kernel_rfl), A 115 383 (by kernel_rfl), A 73 105 (by kernel_rfl), A 105 73 (by kernel_rfl), A 90 122 (by kernel_rfl), A 122 90 (by kernel_rfl), A 69 101 (by kernel_rfl), A 101 69 (by kernel_rfl), b, off, cap, ?_, (C 47 966 981 (by kernel_rfl)).1, (C 23 837 921 (by kernel_rfl)).1, (C 11 452 453 (by kernel_rfl)).1, (C 5 197 229 (by kernel_rfl)).1, (C 8 304 304 (by kernel_rfl)).1, (C 10 383 83 (by kernel_rfl)).1, (C 9 305 305 (by kernel_rfl)).1, (C 10 383 83 (by kernel_rfl)).2⟩
  rw [C0, co_len]
end Go.Proofs.YtngcjlghjidnjaaGreatDoor
namespace Go.Proofs.YtngcjlghjidnjaaGreatDoor
open Go.ChangeShapes Go.WideShapes Go.ChangeAt Go.RowKit
theorem lenIn {W : World} (h : W.ShapedOpen Tryz.prog) : LenIn W := by
  exact Tryz.laysM143.s1_3 W h
theorem read_of {α β γ : Type} {o : Option (α × β × γ)} {a : α} {b : β} (h : o.map (fun x => (x.1, x.2.1)) = some (a, b)) : ∃ c, o = some (a, b, c) := by
  obtain ⟨⟨a', b', c⟩, h1, h2⟩ := Option.map_eq_some_iff.1 h
  simp only [Prod.mk.injEq] at h2
  obtain ⟨rfl, rfl⟩ := h2
  exact ⟨c, h1⟩
end Go.Proofs.YtngcjlghjidnjaaGreatDoor
