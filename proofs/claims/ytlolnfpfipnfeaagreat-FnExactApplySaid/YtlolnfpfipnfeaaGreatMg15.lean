import Derived.Test.YtlolnfpfipnfeaaGreatMg10
import Derived.Test.YtlolnfpfipnfeaaGreatMg9
import Derived.Test.YtlolnfpfipnfeaaGreatMg13
import Derived.Test.YtlolnfpfipnfeaaGreatMg14
import Derived.Test.YtlolnfpfipnfeaaGreatMg1
import Derived.WalkKit
import Derived.ProofKit
import Derived.WalkLawsBesides
import Derived.Deep.QuietTactic
import Derived.BigQuiet
import Derived.Deep.AppendLies
import Derived.Deep.RegionWith
import Derived.Deep.DrawnRows
namespace Go.Proofs.YtlolnfpfipnfeaaGreat
open Go.ChangeShapes Go.WideShapes Go.ChangeAt Go.RowKit

/-- sender and recipients as they should be -/
def whomN (fr : ByteArray) (L : List ByteArray) : Bool := (decide (fr.size = 0) || addrOk fr) && (decide (1 ≤ L.length) && (decide (L.length ≤ 20) && L.all addrOk))
theorem whom_from {fr : ByteArray} {L : List ByteArray} (h : fr.size ≠ 0) (ha : addrOk fr = false) : whomN fr L = false := by unfold whomN; rw [decide_eq_false h, ha]; rfl
theorem whom_none {fr : ByteArray} {L : List ByteArray} (h : ¬ 1 ≤ L.length) : whomN fr L = false := by unfold whomN; rw [decide_eq_false h]; simp
theorem whom_many {fr : ByteArray} {L : List ByteArray} (h : ¬ L.length ≤ 20) : whomN fr L = false := by unfold whomN; rw [decide_eq_false h]; simp
theorem whom_bad {fr : ByteArray} {L : List ByteArray} {k : Nat} (hk : k < L.length) (h : addrOk L[k] = false) : whomN fr L = false := by
  unfold whomN
  rw [List.all_eq_false.2 ⟨L[k], List.getElem_mem hk, by rw [h]; decide⟩]; simp
theorem whom_good {fr : ByteArray} {L : List ByteArray} (h1 : fr.size = 0 ∨ addrOk fr = true) (h2 : 1 ≤ L.length) (h3 : L.length ≤ 20) (h4 : ∀ k (hk : k < L.length), addrOk L[k] = true) : whomN fr L = true := by
  unfold whomN
  rw [decide_eq_true h2, decide_eq_true h3, List.all_eq_true.2 (fun x hx => by obtain ⟨k, hk, rfl⟩ := List.getElem_of_mem hx; exact h4 k hk)]
  rcases h1 with h | h
  · rw [decide_eq_true h]; rfl
  · rw [h]; simp
/-- the cells of a slice that came in -/
theorem ArgS.some {w : World} {v : Value} {L : List ByteArray} (h : ArgS w v L) (h1 : 1 ≤ L.length) : ∃ b off cap, v = .slice (some ⟨b, off, none⟩) L.length cap ∧ b < w.heap.size ∧ ∀ i (hi : i < L.length), w.cell? ⟨b, off + i, none⟩ = some (.string L[i]) := by
  rcases h.2.2 with ⟨rfl, _⟩ | h
  · simp at h1
  · exact h
theorem ArgS.form {w : World} {v : Value} {L : List ByteArray} (h : ArgS w v L) : ∃ a c, v = .slice a L.length c := by
  rcases h.2.2 with ⟨rfl, a, c, rfl⟩ | ⟨b, off, cap, rfl, _⟩
  · exact ⟨_, _, rfl⟩
  · exact ⟨_, _, rfl⟩

set_option maxHeartbeats 2000000 in
set_option maxRecDepth 100000 in
theorem specWhom (fr : ByteArray) (v : Value) (L : List ByteArray) (w : World) (h : ArgS w v L) (hf : fr.size ≤ 1048576) (hs : ∀ s ∈ L, s.size ≤ 1048576) :
    Calls Tryz.prog 38 #[.string fr, v] w fun e w' => e = .returned (.bool (whomN fr L)) ∧ Below w.heap.size w w' := by
  have HA : Hid (ArgS w v L) := h
  have HS : Hid (∀ s ∈ L, s.size ≤ 1048576) := hs
  have hLm := h.1
  unfold maxLen at hLm
  obtain ⟨a, c, rfl⟩ := h.form
  clear h hs
  by_cases hbad : L.length < 1 ∨ 20 < L.length
  · have G : Hid (whomN fr L = false) := by
      rcases hbad with h | h
      · exact whom_none (by omega)
      · exact whom_many (by omega)
    have hbi : (L.length : Int) < 1 ∨ (20 : Int) < L.length := by omega
    have hbi1 : ¬ (L.length : Int) < 1 ∨ (L.length : Int) < 1 := by omega
    rcases Nat.eq_zero_or_pos fr.size with h0 | h0
    · have he := empty_of h0
      subst he
      rcases hbi1 with hb1 | hb1
      · have hb2 : (20 : Int) < L.length := by omega
        go_enter Tryz.func38, Tryz.ntmps38
        go_wp2
        go_ret
        exact ⟨ret_bool G.out.symm, Below.refl _ _⟩
      · go_enter Tryz.func38, Tryz.ntmps38
        go_wp2
        go_ret
        exact ⟨ret_bool G.out.symm, Below.refl _ _⟩
    · have hln := list_ne (x := fr) (by omega)
      go_enter Tryz.func38, Tryz.ntmps38
      go_wp2_with fail
      refine (specAddress fr _ hf).mono ?_
      rintro e w1 ⟨rfl, hb1⟩
      cases addrOk fr
      · go_wp2
        go_ret
        exact ⟨ret_bool G.out.symm, hb1⟩
      · rcases hbi1 with hb2 | hb2
        · have hb3 : (20 : Int) < L.length := by omega
          go_wp2
          go_ret
          exact ⟨ret_bool G.out.symm, hb1⟩
        · go_wp2
          go_ret
          exact ⟨ret_bool G.out.symm, hb1⟩
  · have hb1 : ¬ (L.length : Int) < 1 := by omega
    have hb2 : ¬ (20 : Int) < L.length := by omega
    obtain ⟨b, off, cap, hv, hbw, hcell⟩ := HA.out.some (by omega)
    injection hv with hv1 hv2 hv3
    subst hv1 hv3
    have HC : Hid (∀ i (hi : i < L.length), w.cell? ⟨b, off + i, none⟩ = some (.string L[i])) := hcell
    clear hcell hv2
    have HB1 : Hid (∀ k (hk : k < L.length), addrOk L[k] = false → whomN fr L = false) := fun k hk h => whom_bad hk h
    have HB2 : Hid (fr.size = 0 ∨ addrOk fr = true → (∀ k (hk : k < L.length), addrOk L[k] = true) → whomN fr L = true) := fun h1 h2 => whom_good h1 (by omega) (by omega) h2
    have HB3 : Hid (fr.size ≠ 0 → addrOk fr = false → whomN fr L = false) := whom_from
    generalize whomN fr L = WH at *
    rcases Nat.eq_zero_or_pos fr.size with h0 | h0
    focus
      have HG := HB2.out (.inl h0)
      clear HB2 HB3
      have he := empty_of h0
      subst he
      have bz := Below.refl w.heap.size w
      go_enter Tryz.func38, Tryz.ntmps38
      go_wp2_with fail
    rotate_left
    focus
      have hln := list_ne (x := fr) (by omega)
      have hab : addrOk fr = false ∨ addrOk fr = true := by cases addrOk fr <;> simp
      rcases hab with ha | ha
      focus
        have G : Hid (WH = false) := HB3.out (by omega) ha
        go_enter Tryz.func38, Tryz.ntmps38
        go_wp2_with fail
        refine (specAddress fr _ hf).mono ?_
        rw [ha]
        rintro e w1 ⟨rfl, hbz⟩
        go_wp2
        go_ret
        exact ⟨ret_bool G.out.symm, hbz⟩
      focus
        have HG := HB2.out (.inr ha)
        clear HB2 HB3
        go_enter Tryz.func38, Tryz.ntmps38
        go_wp2_with fail
        refine (specAddress fr _ hf).mono ?_
        rw [ha]
        rintro e w1 ⟨rfl, bz⟩
        clear ha
        go_wp2_with fail
    all_goals
      go_loopw [26] (fun iv wr => ∃ k : Nat, k ≤ L.length ∧ iv = .int .i64 k ∧ Below w.heap.size w wr ∧ Hid (∀ j (hj : j < L.length), j < k → addrOk L[j] = true)) (fun iv _ => L.length - (intOf iv).toNat)
      case atStart => exact ⟨0, Nat.zero_le _, rfl, bz, fun j _ hj => absurd hj (Nat.not_lt_zero _)⟩
      case round =>
        obtain ⟨k, hk, rfl, hb, HK⟩ := hrel
        by_cases hlt : k < L.length
        · have ec := (hb.cell (p := ⟨b, off + k, none⟩) hbw).trans (HC.out k hlt)
          have hsk := HS.out L[k] (List.getElem_mem hlt)
          have G1 : Hid (addrOk L[k] = false → WH = false) := HB1.out k hlt
          have G2 : Hid (addrOk L[k] = true → ∀ j (hj : j < L.length), j < k + 1 → addrOk L[j] = true) := by
            intro h j hj hj2
            by_cases e : j = k
            · subst e; exact h
            · exact HK.out j hj (by omega)
          generalize L[k] = X at *
          go_wp2_with fail
          refine (specAddress X _ hsk).mono ?_
          rintro e w5 ⟨rfl, hb5⟩
          have b5 : Below w.heap.size w w5 := hb.trans (hb5.mono hb.size)
          clear hb5
          cases hx : addrOk X
          · have G : Hid (WH = false) := G1.out hx
            clear hx
            go_wp2
            go_ret
            exact ⟨ret_bool G.out.symm, b5⟩
          · have G := G2.out hx
            have HG3 : Hid (∀ j (hj : j < L.length), j < k + 1 → addrOk L[j] = true) := G
            clear hx G G1 G2
            go_wp2
            go_roundw
            case rel => exact ⟨k + 1, by omega, by go_num, b5, HG3⟩
            case measure => simp [intOf]; omega
        · obtain rfl : k = L.length := by omega
          have G : Hid (WH = true) := HG fun j hj => HK.out j hj hj
          go_wp2
          go_ret
          exact ⟨ret_bool G.out.symm, hb⟩
end Go.Proofs.YtlolnfpfipnfeaaGreat
namespace Go.Proofs.YtlolnfpfipnfeaaGreat
open Go.ChangeShapes Go.WideShapes Go.ChangeAt Go.RowKit
attribute [local go_sem ↓] Go.wp_at_zero Go.wp_at_succ

/-- a verdict: its kind, its code, its text -/
abbrev Vd := Int × Int × ByteArray
end Go.Proofs.YtlolnfpfipnfeaaGreat
