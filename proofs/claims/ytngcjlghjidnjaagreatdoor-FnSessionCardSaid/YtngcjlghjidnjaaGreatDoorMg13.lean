import Derived.Test.YtngcjlghjidnjaaGreatDoorMg12
import Derived.Deep.RegionWith
import Derived.Deep.DrawnRows
import Derived.Test.YtngcjlghjidnjaaGreatDoorMg1
import Derived.WalkKit
import Derived.ProofKit
import Derived.WalkLawsBesides
import Derived.Deep.QuietTactic
import Derived.BigQuiet
import Derived.Deep.AppendLies
namespace Go.Proofs.YtngcjlghjidnjaaGreatDoor
open Go.ChangeShapes Go.WideShapes Go.ChangeAt Go.RowKit
attribute [local go_sem ↓] Go.wp_at_zero Go.wp_at_succ
open Pcs

/-- a line that begins with SIZE and a blank, in whatever letters -/
def szHead (l : ByteArray) : Bool := decide (5 ≤ l.size) && ((upB (l.extract 0 5)).toList == (⟨#[83, 73, 90, 69, 32]⟩ : ByteArray).toList)
def szLine (l : ByteArray) : Option Nat := if szHead l && numOk (l.extract 5 l.size) then some (numV (l.extract 5 l.size)) else none
def szLim (L : List ByteArray) : Option Nat := (L.drop 1).findSome? szLine
theorem find_drop {L : List ByteArray} {k : Nat} (h : k < L.length) : (L.drop k).findSome? szLine = match szLine L[k] with | some n => some n | none => (L.drop (k + 1)).findSome? szLine := by
  rw [List.drop_eq_getElem_cons h, List.findSome?_cons]
  cases szLine L[k] <;> rfl

set_option maxHeartbeats 2000000 in
set_option maxRecDepth 100000 in
theorem specSize (v : Value) (L : List ByteArray) (w : World) (h : ArgS w v L) (hs : ∀ s ∈ L, s.size ≤ 1048576) :
    Calls Tryz.prog 127 #[v] w fun e w' => e = .returned (.tuple #[.int .i64 ((szLim L).getD 0 : Int), .bool (szLim L).isSome]) ∧ Below w.heap.size w w' := by
  have hLm := h.1
  unfold maxLen at hLm
  have HS : Hid (∀ s ∈ L, s.size ≤ 1048576) := hs
  have HR : Hid ((L.drop (max 0 1)).findSome? szLine = szLim L) := rfl
  generalize szLim L = RS at *
  by_cases h0 : L.length = 0
  · obtain ⟨a, c, rfl⟩ : ∃ a c, v = .slice a 0 c := by
      rcases h.2.2 with ⟨_, h⟩ | ⟨b, off, cap, rfl, _⟩
      · exact h
      · rw [h0]; exact ⟨_, _, rfl⟩
    have hL := List.eq_nil_of_length_eq_zero h0
    subst hL
    have G : Hid (RS = none) := by show _ = _; rw [← HR.out]; rfl
    clear h hs HS HR
    go_enter Tryz.func127, Tryz.ntmps127
    go_wp2
    refine wp_loop_rounds 1 ?_; rw [rounds_succ]
    go_wp2
    refine bodyPost_ret (v := .tuple #[.int .i64 0, .bool false]) (by simp [results, Tryz.results127, go_sem]) rfl ⟨by rw [G.out]; rfl, Below.refl _ _⟩
  · obtain ⟨b, off, cap, rfl, hbw, hcell⟩ : ∃ b off cap, v = .slice (some ⟨b, off, none⟩) L.length cap ∧ b < w.heap.size ∧ ∀ i (hi : i < L.length), w.cell? ⟨b, off + i, none⟩ = some (.string L[i]) := by
      rcases h.2.2 with ⟨hL, _⟩ | h
      · rw [hL] at h0; exact absurd rfl h0
      · exact h
    have HC : Hid (∀ i (hi : i < L.length), w.cell? ⟨b, off + i, none⟩ = some (.string L[i])) := hcell
    clear h hs hcell
    go_enter Tryz.func127, Tryz.ntmps127
    go_wp2
    go_loopw [10] (fun iv wr => ∃ k : Nat, k ≤ L.length ∧ iv = .int .i64 k ∧ Below w.heap.size w wr ∧ Hid ((L.drop (max k 1)).findSome? szLine = RS)) (fun iv _ => L.length - (intOf iv).toNat)
    case atStart => exact ⟨0, Nat.zero_le _, rfl, Below.refl _ _, HR⟩
    case round =>
      obtain ⟨k, hk, rfl, hb, HK⟩ := hrel
      by_cases hlt : k < L.length
      · have ek := (hb.cell (p := ⟨b, off + k, none⟩) hbw).trans (HC.out k hlt)
        have hX := HS.out L[k] (List.getElem_mem hlt)
        by_cases k0 : k = 0
        · have hkb : ((k : Int) == 0) = true := beq_iff_eq.2 (by omega)
          have HK2 : Hid ((L.drop (max (k + 1) 1)).findSome? szLine = RS) := by
            show _ = _
            have := HK.out
            rw [show max k 1 = max (k + 1) 1 by omega] at this
            exact this
          clear k0
          generalize L[k] = X at *
          go_wp2
          go_roundw
          case rel => exact ⟨k + 1, by omega, by go_num, hb, HK2⟩
          case measure => simp [intOf]; omega
        · have hkb : ((k : Int) == 0) = false := beq_eq_false_iff_ne.2 (by omega)
          have hmx : max k 1 = k := by omega
          have HF := find_drop hlt
          have hK := HK.out
          rw [hmx] at hK
          rw [hK] at HF
          clear hK
          have HN : Hid (szLine L[k] = none → (L.drop (max (k + 1) 1)).findSome? szLine = RS) := fun e => by
            rw [e] at HF
            rw [show max (k + 1) 1 = k + 1 by omega]; exact HF.symm
          have HY : Hid (∀ n, szLine L[k] = some n → RS = some n) := fun n e => by rw [e] at HF; exact HF
          clear HF HK
          generalize L[k] = X at *
          by_cases h5 : X.size < 5
          · have h5i : (X.size : Int) < 5 := by omega
            have G : Hid _ := HN.out (by unfold szLine szHead; rw [decide_eq_false (by omega)]; rfl)
            go_wp2
            go_roundw
            case rel => exact ⟨k + 1, by omega, by go_num, hb, G⟩
            case measure => simp [intOf]; omega
          · have h5i : ¬ (X.size : Int) < 5 := by omega
            have hsl : ∀ wx, (Instr.slice 9 (.string X) none (some (.int .i64 5)) none).run Tryz.prog wx = .ok (.string (X.extract 0 5)) wx := by
              intro wx
              rw [run_slice_string_to_if wx 9 _ .i64 5 Tryz.underlying9, if_pos (by omega)]
              rfl
            have he5 : (X.extract 0 5).size = 5 := by rw [ByteArray.size_extract]; omega
            have HH : Hid (szHead X = ((upB (X.extract 0 5)).toList == (⟨#[83, 73, 90, 69, 32]⟩ : ByteArray).toList)) := by
              show _ = _
              unfold szHead; rw [decide_eq_true (show 5 ≤ X.size by omega)]; rfl
            have hsl2 : ∀ wx, (Instr.slice 9 (.string X) (some (.int .i64 5)) none none).run Tryz.prog wx = .ok (.string (X.extract 5 X.size)) wx := by
              intro wx
              rw [run_slice_string_from_if wx 9 _ .i64 5 Tryz.underlying9, if_pos (by omega)]
              rfl
            have hd5 : (X.extract 5 X.size).size ≤ 1048576 := by rw [ByteArray.size_extract]; omega
            have HL1 : Hid (szHead X = false → szLine X = none) := fun e => by unfold szLine; rw [e]; rfl
            have HL2 : Hid (szHead X = true → numOk (X.extract 5 X.size) = false → szLine X = none) := fun e e2 => by unfold szLine; rw [e, e2]; rfl
            have HL3 : Hid (szHead X = true → numOk (X.extract 5 X.size) = true → szLine X = some (numV (X.extract 5 X.size))) := fun e e2 => by unfold szLine; rw [e, e2]; rfl
            go_wp2_with fail
            refine (specUpper (X.extract 0 5) _ (by omega) (by omega)).mono ?_
            rintro e w5 ⟨rfl, hb5⟩
            have b5 : Below w.heap.size w w5 := hb.trans (hb5.mono hb.size)
            clear hb5 ek hsl he5
            generalize upB (X.extract 0 5) = U at *
            generalize X.extract 5 X.size = DG at *
            have hlit : (⟨#[83, 73, 90, 69, 32]⟩ : ByteArray).toList = [83, 73, 90, 69, 32] := by rw [ByteArray.toList_eq]
            rw [hlit] at HH
            cases hq : (U.toList == [83, 73, 90, 69, 32])
            · have G : Hid _ := HN.out (HL1.out (by rw [HH.out, hq]))
              clear HH HL1 HL2 HL3
              go_wp2
              go_roundw
              case rel => exact ⟨k + 1, by omega, by go_num, b5, G⟩
              case measure => simp [intOf]; omega
            · have hh : szHead X = true := by rw [HH.out, hq]
              have K2 := HL2.out hh
              have K3 := HL3.out hh
              clear HH HL1 HL2 HL3 hh
              go_wp2_with fail
              refine (specNumber DG _ hd5).mono ?_
              rintro e w6 ⟨rfl, hw6⟩
              rw [hw6]
              clear hw6
              have hno : numOk DG = false ∨ numOk DG = true := by cases numOk DG <;> simp
              rcases hno with hno | hno
              · have G : Hid _ := HN.out (K2 hno)
                rw [hno]
                clear K2 K3 hno
                go_wp2
                go_roundw
                case rel => exact ⟨k + 1, by omega, by go_num, b5, G⟩
                case measure => simp [intOf]; omega
              · have G : Hid (RS = some (numV DG)) := HY.out _ (K3 hno)
                rw [hno]
                clear K2 K3 hno
                go_wp2
                refine bodyPost_ret (v := .tuple #[.int .i64 (numV DG : Int), .bool true]) (by simp [results, Tryz.results127, go_sem]) rfl ⟨by rw [G.out]; rfl, b5⟩
      · obtain rfl : k = L.length := by omega
        have G : Hid (RS = none) := by
          show _ = _
          rw [← HK.out, List.drop_eq_nil_of_le (by omega)]; rfl
        go_wp2
        refine bodyPost_ret (v := .tuple #[.int .i64 0, .bool false]) (by simp [results, Tryz.results127, go_sem]) rfl ⟨by rw [G.out]; rfl, hb⟩
end Go.Proofs.YtngcjlghjidnjaaGreatDoor
namespace Go.Proofs.YtngcjlghjidnjaaGreatDoor
open Go.ChangeShapes Go.WideShapes Go.ChangeAt Go.RowKit
attribute [local go_sem ↓] Go.wp_at_zero Go.wp_at_succ

/-- a verdict: its kind, its code, its text -/
abbrev Vd := Int × Int × ByteArray
end Go.Proofs.YtngcjlghjidnjaaGreatDoor
namespace Go.Proofs.YtngcjlghjidnjaaGreatDoor
open Go.ChangeShapes Go.WideShapes Go.ChangeAt Go.RowKit
attribute [local go_sem ↓] Go.wp_at_zero Go.wp_at_succ

set_option maxHeartbeats 1000000 in
set_option maxRecDepth 100000 in
theorem eqVd (x : Vd) (w : World) :
    Calls Tryz.prog 103 #[.agg #[.int .i64 x.1, .int .i64 x.2.1, .string x.2.2], .agg #[.int .i64 x.1, .int .i64 x.2.1, .string x.2.2]] w fun e w' => e = .returned (.bool true) ∧ Below w.heap.size w w' := by
  go_enter Tryz.func103, Tryz.ntmps103
  go_wp2
  go_ret
  exact ⟨rfl, below2 _ _ _⟩

end Go.Proofs.YtngcjlghjidnjaaGreatDoor
