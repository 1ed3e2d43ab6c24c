import Derived.Test.YtngcjlghjidnjaaGreatDoorMg17
import Derived.Deep.RegionWith
import Derived.Deep.DrawnRows
import Derived.Test.YtngcjlghjidnjaaGreatDoorMg6
import Derived.Deep.Slices
import Derived.Deep.SlicePairs
import Derived.Deep.Fields
import Derived.Test.YtngcjlghjidnjaaGreatDoorMg7
import Derived.Test.YtngcjlghjidnjaaGreatDoorMg5
namespace Go.Proofs.YtngcjlghjidnjaaGreatDoor
open Go.ChangeShapes Go.WideShapes Go.ChangeAt Go.RowKit
attribute [local go_sem ↓] Go.wp_at_zero Go.wp_at_succ
open Pcs

/-- a line that begins with SIZE and a blank, in whatever letters -/
def szHead (l : ByteArray) : Bool := decide (5 ≤ l.size) && ((upB (l.extract 0 5)).toList == (⟨#[83, 73, 90, 69, 32]⟩ : ByteArray).toList)
def szLine (l : ByteArray) : Option Nat := if szHead l && numOk (l.extract 5 l.size) then some (numV (l.extract 5 l.size)) else none
def szLim (L : List ByteArray) : Option Nat := (L.drop 1).findSome? szLine
theorem find_drop {L : List ByteArray} {k : Nat} (h : k < L.length) : (L.drop k).findSome? szLine = match szLine L[k] with | some n => some n | none => (L.drop (k + 1)).findSome? szLine := by
  rw [List.drop_eq_getElem_cons h, List.findSome?_cons]
  cases szLine L[k] <;> rfl

set_option maxHeartbeats 2000000 in
set_option maxRecDepth 100000 in
theorem specSize (v : Value) (L : List ByteArray) (w : World) (h : ArgS w v L) (hs : ∀ s ∈ L, s.size ≤ 1048576) :
    Calls Tryz.prog 127 #[v] w fun e w' => e = .returned (.tuple #[.int .i64 ((szLim L).getD 0 : Int), .bool (szLim L).isSome]) ∧ Below w.heap.size w w' := by
  have hLm := h.1
  unfold maxLen at hLm
  have HS : Hid (∀ s ∈ L, s.size ≤ 1048576) := hs
  have HR : Hid ((L.drop (max 0 1)).findSome? szLine = szLim L) := rfl
  generalize szLim L = RS at *
  by_cases h0 : L.length = 0
  · obtain ⟨a, c, rfl⟩ : ∃ a c, v = .slice a 0 c := by
      rcases h.2.2 with ⟨_, h⟩ | ⟨b, off, cap, rfl, _⟩
      · exact h
      · rw [h0]; exact ⟨_, _, rfl⟩
    have hL := List.eq_nil_of_length_eq_zero h0
    subst hL
    have G : Hid (RS = none) := by show _ = _; rw [← HR.out]; rfl
    clear h hs HS HR
    go_enter Tryz.func127, Tryz.ntmps127
    go_wp2
    refine wp_loop_rounds 1 ?_; rw [rounds_succ]
    go_wp2
    refine bodyPost_ret (v := .tuple #[.int .i64 0, .bool false]) (by simp [results, Tryz.results127, go_sem]) rfl ⟨by rw [G.out]; rfl, Below.refl _ _⟩
  · obtain ⟨b, off, cap, rfl, hbw, hcell⟩ : ∃ b off cap, v = .slice (some ⟨b, off, none⟩) L.length cap ∧ b < w.heap.size ∧ ∀ i (hi : i < L.length), w.cell? ⟨b, off + i, none⟩ = some (.string L[i]) := by
      rcases h.2.2 with ⟨hL, _⟩ | h
      · rw [hL] at h0; exact absurd rfl h0
      · exact h
    have HC : Hid (∀ i (hi : i < L.length), w.cell? ⟨b, off + i, none⟩ = some (.string L[i])) := hcell
    clear h hs hcell
    go_enter Tryz.func127, Tryz.ntmps127
    go_wp2
    go_loopw [10] (fun iv wr => ∃ k : Nat, k ≤ L.length ∧ iv = .int .i64 k ∧ Below w.heap.size w wr ∧ Hid ((L.drop (max k 1)).findSome? szLine = RS)) (fun iv _ => L.length - (intOf iv).toNat)
    case atStart => exact ⟨0, Nat.zero_le _, rfl, Below.refl _ _, HR⟩
    case round =>
      obtain ⟨k, hk, rfl, hb, HK⟩ := hrel
      by_cases hlt : k < L.length
      · have ek := (hb.cell (p := ⟨b, off + k, none⟩) hbw).trans (HC.out k hlt)
        have hX := HS.out L[k] (List.getElem_mem hlt)
        by_cases k0 : k = 0
        · have hkb : ((k : Int) == 0) = true := beq_iff_eq.2 (by omega)
          have HK2 : Hid ((L.drop (max (k + 1) 1)).findSome? szLine = RS) := by
            show _ = _
            have := HK.out
            rw [show max k 1 = max (k + 1) 1 by omega] at this
            exact this
          clear k0
          generalize L[k] = X at *
          go_wp2
          go_roundw
          case rel => exact ⟨k + 1, by omega, by go_num, hb, HK2⟩
          case measure => simp [intOf]; omega
        · have hkb : ((k : Int) == 0) = false := beq_eq_false_iff_ne.2 (by omega)
          have hmx : max k 1 = k := by omega
          have HF := find_drop hlt
          have hK := HK.out
          rw [hmx] at hK
          rw [hK] at HF
          clear hK
          have HN : Hid (szLine L[k] = none → (L.drop (max (k + 1) 1)).findSome? szLine = RS) := fun e => by
            rw [e] at HF
            rw [show max (k + 1) 1 = k + 1 by omega]; exact HF.symm
          have HY : Hid (∀ n, szLine L[k] = some n → RS = some n) := fun n e => by rw [e] at HF; exact HF
          clear HF HK
          generalize L[k] = X at *
          by_cases h5 : X.size < 5
          · have h5i : (X.size : Int) < 5 := by omega
            have G : Hid _ := HN.out (by unfold szLine szHead; rw [decide_eq_false (by omega)]; rfl)
            go_wp2
            go_roundw
            case rel => exact ⟨k + 1, by omega, by go_num, hb, G⟩
            case measure => simp [intOf]; omega
          · have h5i : ¬ (X.size : Int) < 5 := by omega
            have hsl : ∀ wx, (Instr.slice 9 (.string X) none (some (.int .i64 5)) none).run Tryz.prog wx = .ok (.string (X.extract 0 5)) wx := by
              intro wx
              rw [run_slice_string_to_if wx 9 _ .i64 5 Tryz.underlying9, if_pos (by omega)]
              rfl
            have he5 : (X.extract 0 5).size = 5 := by rw [ByteArray.size_extract]; omega
            have HH : Hid (szHead X = ((upB (X.extract 0 5)).toList == (⟨#[83, 73, 90, 69, 32]⟩ : ByteArray).toList)) := by
              show _ = _
              unfold szHead; rw [decide_eq_true (show 5 ≤ X.size by omega)]; rfl
            have hsl2 : ∀ wx, (Instr.slice 9 (.string X) (some (.int .i64 5)) none none).run Tryz.prog wx = .ok (.string (X.extract 5 X.size)) wx := by
              intro wx
              rw [run_slice_string_from_if wx 9 _ .i64 5 Tryz.underlying9, if_pos (by omega)]
              rfl
            have hd5 : (X.extract 5 X.size).size ≤ 1048576 := by rw [ByteArray.size_extract]; omega
            have HL1 : Hid (szHead X = false → szLine X = none) := fun e => by unfold szLine; rw [e]; rfl
            have HL2 : Hid (szHead X = true → numOk (X.extract 5 X.size) = false → szLine X = none) := fun e e2 => by unfold szLine; rw [e, e2]; rfl
            have HL3 : Hid (szHead X = true → numOk (X.extract 5 X.size) = true → szLine X = some (numV (X.extract 5 X.size))) := fun e e2 => by unfold szLine; rw [e, e2]; rfl
            go_wp2_with fail
            refine (specUpper (X.extract 0 5) _ (by omega) (by omega)).mono ?_
            rintro e w5 ⟨rfl, hb5⟩
            have b5 : Below w.heap.size w w5 := hb.trans (hb5.mono hb.size)
            clear hb5 ek hsl he5
            generalize upB (X.extract 0 5) = U at *
            generalize X.extract 5 X.size = DG at *
            have hlit : (⟨#[83, 73, 90, 69, 32]⟩ : ByteArray).toList = [83, 73, 90, 69, 32] := by rw [ByteArray.toList_eq]
            rw [hlit] at HH
            cases hq : (U.toList == [83, 73, 90, 69, 32])
            · have G : Hid _ := HN.out (HL1.out (by rw [HH.out, hq]))
              clear HH HL1 HL2 HL3
              go_wp2
              go_roundw
              case rel => exact ⟨k + 1, by omega, by go_num, b5, G⟩
              case measure => simp [intOf]; omega
            · have hh : szHead X = true := by rw [HH.out, hq]
              have K2 := HL2.out hh
              have K3 := HL3.out hh
              clear HH HL1 HL2 HL3 hh
              go_wp2_with fail
              refine (specNumber DG _ hd5).mono ?_
              rintro e w6 ⟨rfl, hw6⟩
              rw [hw6]
              clear hw6
              have hno : numOk DG = false ∨ numOk DG = true := by cases numOk DG <;> simp
              rcases hno with hno | hno
              · have G : Hid _ := HN.out (K2 hno)
                rw [hno]
                clear K2 K3 hno
                go_wp2
                go_roundw
                case rel => exact ⟨k + 1, by omega, by go_num, b5, G⟩
                case measure => simp [intOf]; omega
              · have G : Hid (RS = some (numV DG)) := HY.out _ (K3 hno)
                rw [hno]
                clear K2 K3 hno
                go_wp2
                refine bodyPost_ret (v := .tuple #[.int .i64 (numV DG : Int), .bool true]) (by simp [results, Tryz.results127, go_sem]) rfl ⟨by rw [G.out]; rfl, b5⟩
      · obtain rfl : k = L.length := by omega
        have G : Hid (RS = none) := by
          show _ = _
          rw [← HK.out, List.drop_eq_nil_of_le (by omega)]; rfl
        go_wp2
        refine bodyPost_ret (v := .tuple #[.int .i64 0, .bool false]) (by simp [results, Tryz.results127, go_sem]) rfl ⟨by rw [G.out]; rfl, hb⟩
end Go.Proofs.YtngcjlghjidnjaaGreatDoor
namespace Go.Proofs.YtngcjlghjidnjaaGreatDoor
open Go.ChangeShapes Go.WideShapes Go.ChangeAt Go.RowKit Go.Deep

theorem array9 {α : Type} {cs : Array α} (h : cs.size = 9) : ∃ c0 c1 c2 c3 c4 c5 c6 c7 c8, cs = #[c0, c1, c2, c3, c4, c5, c6, c7, c8] := by
  obtain ⟨l⟩ := cs
  match l, h with
  | [c0, c1, c2, c3, c4, c5, c6, c7, c8], _ => exact ⟨c0, c1, c2, c3, c4, c5, c6, c7, c8, rfl⟩
theorem open_agg9 {H : Type} {enc : TypeId × Value → H} {P : Program} {w : World} {base : Nat} {spare : Nat → Bool} {held : Bool} {r : Reach} {b0 : Nat} {t : TypeId} {f0 f1 f2 f3 f4 f5 f6 f7 f8 : Field} {v : Value} {d : DataW H} {p : List MemPlace}
    (hs : P.underlying t = some (.struct #[f0, f1, f2, f3, f4, f5, f6, f7, f8])) (hone : oneCellFields P #[f0, f1, f2, f3, f4, f5, f6, f7, f8] = true) (hC : P.cellsOf t = 9)
    (hv : Value.okWide P w r b0 t v) (h : DataW.Trod enc P w base spare held t v d p) :
    ∃ (v0 v1 v2 v3 v4 v5 v6 v7 v8 : Value) (y0 y1 y2 y3 y4 y5 y6 y7 y8 : DataW H × List MemPlace) (n : Nat), v = .agg #[v0, v1, v2, v3, v4, v5, v6, v7, v8] ∧
      DataW.trod enc P w base spare held n f0.type [v0] = some y0 ∧ DataW.trod enc P w base spare held n f1.type [v1] = some y1 ∧ DataW.trod enc P w base spare held n f2.type [v2] = some y2 ∧ DataW.trod enc P w base spare held n f3.type [v3] = some y3 ∧ DataW.trod enc P w base spare held n f4.type [v4] = some y4 ∧ DataW.trod enc P w base spare held n f5.type [v5] = some y5 ∧ DataW.trod enc P w base spare held n f6.type [v6] = some y6 ∧ DataW.trod enc P w base spare held n f7.type [v7] = some y7 ∧ DataW.trod enc P w base spare held n f8.type [v8] = some y8 := by
  obtain ⟨cs, rfl, hsz⟩ := okWide_struct hs hv
  obtain ⟨c0, c1, c2, c3, c4, c5, c6, c7, c8, rfl⟩ := array9 (hsz.trans hC)
  obtain ⟨fuel, hf⟩ := h
  obtain ⟨xs, n, _, hx, hl, hlen, hf⟩ := DataW.trod_struct hs hf
  obtain ⟨o0, k0⟩ := hone_of hone 0 f0 rfl
  obtain ⟨o1, k1⟩ := hone_of hone 1 f1 rfl
  obtain ⟨o2, k2⟩ := hone_of hone 2 f2 rfl
  obtain ⟨o3, k3⟩ := hone_of hone 3 f3 rfl
  obtain ⟨o4, k4⟩ := hone_of hone 4 f4 rfl
  obtain ⟨o5, k5⟩ := hone_of hone 5 f5 rfl
  obtain ⟨o6, k6⟩ := hone_of hone 6 f6 rfl
  obtain ⟨o7, k7⟩ := hone_of hone 7 f7 rfl
  obtain ⟨o8, k8⟩ := hone_of hone 8 f8 rfl
  match xs, hlen with
  | [y0, y1, y2, y3, y4, y5, y6, y7, y8], _ =>
    have g0 := hf 0 f0 rfl
    have g1 := hf 1 f1 rfl
    have g2 := hf 2 f2 rfl
    have g3 := hf 3 f3 rfl
    have g4 := hf 4 f4 rfl
    have g5 := hf 5 f5 rfl
    have g6 := hf 6 f6 rfl
    have g7 := hf 7 f7 rfl
    have g8 := hf 8 f8 rfl
    exact ⟨c0, c1, c2, c3, c4, c5, c6, c7, c8, y0, y1, y2, y3, y4, y5, y6, y7, y8, n, rfl, by simpa [Value.cells, o0, k0] using g0, by simpa [Value.cells, o1, k1] using g1, by simpa [Value.cells, o2, k2] using g2, by simpa [Value.cells, o3, k3] using g3, by simpa [Value.cells, o4, k4] using g4, by simpa [Value.cells, o5, k5] using g5, by simpa [Value.cells, o6, k6] using g6, by simpa [Value.cells, o7, k7] using g7, by simpa [Value.cells, o8, k8] using g8⟩

/-- a slice of verdicts that can be read -/
def ArgV (w : World) (v : Value) (L : List Vd) : Prop :=
  L.length ≤ maxLen ∧ (∀ x ∈ L, x.2.2.size ≤ maxLen) ∧ ((L = [] ∧ ∃ a c, v = .slice a 0 c) ∨ ∃ b off cap, v = .slice (some ⟨b, off, none⟩) L.length cap ∧ b < w.heap.size ∧ ∀ i (hi : i < L.length), w.cell? ⟨b, off + i * 3, none⟩ = some (.int .i64 L[i].1) ∧ w.cell? ⟨b, off + i * 3 + 1, none⟩ = some (.int .i64 L[i].2.1) ∧ w.cell? ⟨b, off + i * 3 + 2, none⟩ = some (.string L[i].2.2))
theorem ArgV.below {w w1 : World} {v : Value} {L : List Vd} (h : ArgV w v L) (hb : Below w.heap.size w w1) : ArgV w1 v L := by
  refine ⟨h.1, h.2.1, ?_⟩
  rcases h.2.2 with h0 | ⟨b, off, cap, hv, hlt, hc⟩
  · exact .inl h0
  · exact .inr ⟨b, off, cap, hv, Nat.lt_of_lt_of_le hlt hb.size, fun i hi => ⟨(hb.cell (p := ⟨b, off + i * 3, none⟩) hlt).trans (hc i hi).1, (hb.cell (p := ⟨b, off + i * 3 + 1, none⟩) hlt).trans (hc i hi).2.1, (hb.cell (p := ⟨b, off + i * 3 + 2, none⟩) hlt).trans (hc i hi).2.2⟩⟩
theorem ArgV.form {w : World} {v : Value} {L : List Vd} (h : ArgV w v L) : ∃ a c, v = .slice a L.length c := by
  rcases h.2.2 with ⟨rfl, a, c, rfl⟩ | ⟨b, off, cap, rfl, _⟩
  · exact ⟨_, _, rfl⟩
  · exact ⟨_, _, rfl⟩
theorem block_of {W : World} {b off : Nat} {v : Value} (h : W.cell? ⟨b, off, none⟩ = some v) : b < W.heap.size := World.block_lt_of_cell? W ⟨b, off, none⟩ h

set_option maxRecDepth 100000 in
theorem openVds {H : Type} {enc : TypeId × Value → H} {W : World} {n : Nat} {v : Value} {y : DataW H × List MemPlace} (h : DataW.trod enc Tryz.prog W 0 (fun _ => true) true n 46 [v] = some y) : ∃ L, ArgV W v L := by
  rcases open_slice Tryz.underlying46 h with ⟨hcs, _⟩ | ⟨a, len, cap, m, n', D, Pl, hcs, _, hl, hm, hmm, _, hx⟩
  · simp only [List.cons.injEq, and_true] at hcs
    subst hcs
    exact ⟨[], Nat.zero_le _, (fun x hx => by cases hx), .inl ⟨rfl, _, _, rfl⟩⟩
  · simp only [List.cons.injEq, and_true] at hcs
    subst hcs
    by_cases h0 : len = 0
    · subst h0; exact ⟨[], Nat.zero_le _, (fun x hx => by cases hx), .inl ⟨rfl, _, _, rfl⟩⟩
    · have hlm : len ≤ m := by rw [hmm]; simp; omega
      have ce : Tryz.prog.cellsOf 117 = 3 := by kernel_rfl
      have hvd : ∀ i, i < m → ∃ q : Vd, q.2.2.size ≤ maxLen ∧ W.cell? (a.add (i * 3)) = some (.int .i64 q.1) ∧ W.cell? (a.add (i * 3 + 1)) = some (.int .i64 q.2.1) ∧ W.cell? (a.add (i * 3 + 2)) = some (.string q.2.2) := by
        intro i hi
        obtain ⟨cs', h1, h2⟩ := hx i hi
        rw [ce] at h1
        obtain ⟨_, hlen, hcell⟩ := World.cells?_some h1
        obtain ⟨xs, k, hk, hxy, _, hxl, hf⟩ := DataW.trod_struct Tryz.underlying117 h2
        match xs, hxl, cs', hlen with
        | [y0, y1, y2], _, [u0, u1, u2], _ =>
          have g0 := hf 0 _ rfl
          have g1 := hf 1 _ rfl
          have g2 := hf 2 _ rfl
          have cI : Tryz.prog.cellsOf 3 = 1 := by kernel_rfl
          have cS : Tryz.prog.cellsOf 9 = 1 := by kernel_rfl
          simp [cI, cS] at g0 g1 g2
          obtain ⟨n0, e0, _⟩ := DataW.trod_int Tryz.underlying3 g0
          obtain ⟨n1, e1, _⟩ := DataW.trod_int Tryz.underlying3 g1
          obtain ⟨s2, e2, _, hs2⟩ := DataW.trod_string Tryz.underlying9 g2
          simp only [List.cons.injEq, and_true] at e0 e1 e2
          have q0 := hcell 0 (by omega)
          have q1 := hcell 1 (by omega)
          have q2 := hcell 2 (by omega)
          rw [add_add] at q0 q1 q2
          refine ⟨(n0, n1, s2), hs2, by simpa [e0] using q0, by simpa [e1] using q1, by simpa [e2] using q2⟩
      obtain ⟨Q, hQ⟩ := choose_lt hvd
      obtain ⟨b, off, spot⟩ := a
      have hc0 := (hQ 0 (by omega)).2.1
      have hspot : spot = none := by simpa [Addr.add] using World.cell?_spot hc0
      subst hspot
      have ea : ∀ i, (⟨b, off, none⟩ : Addr).add i = ⟨b, off + i, none⟩ := fun i => by by_cases hi0 : i = 0 <;> simp [Addr.add, hi0]
      rw [ea] at hc0
      refine ⟨(List.range len).map Q, by simp; omega, ?_, .inr ⟨b, off, cap, by simp, block_of hc0, fun i hi => ?_⟩⟩
      · intro x hx'
        obtain ⟨i, hi, rfl⟩ := List.mem_map.1 hx'
        exact (hQ i (by have := List.mem_range.1 hi; omega)).1
      · simp only [List.length_map, List.length_range] at hi
        have := hQ i (by omega)
        rw [ea, ea, ea] at this
        simpa [Nat.add_assoc] using this.2
end Go.Proofs.YtngcjlghjidnjaaGreatDoor
namespace Go.Proofs.YtngcjlghjidnjaaGreatDoor
open Go.ChangeShapes Go.WideShapes Go.ChangeAt Go.RowKit Go.Deep

/-- a slice of bools that can be read -/
def ArgB (w : World) (v : Value) (L : List Bool) : Prop :=
  L.length ≤ maxLen ∧ ((L = [] ∧ ∃ a c, v = .slice a 0 c) ∨ ∃ b off cap, v = .slice (some ⟨b, off, none⟩) L.length cap ∧ b < w.heap.size ∧ ∀ i (hi : i < L.length), w.cell? ⟨b, off + i, none⟩ = some (.bool L[i]))
theorem ArgB.below {w w1 : World} {v : Value} {L : List Bool} (h : ArgB w v L) (hb : Below w.heap.size w w1) : ArgB w1 v L := by
  refine ⟨h.1, ?_⟩
  rcases h.2 with h0 | ⟨b, off, cap, hv, hlt, hc⟩
  · exact .inl h0
  · exact .inr ⟨b, off, cap, hv, Nat.lt_of_lt_of_le hlt hb.size, fun i hi => (hb.cell (p := ⟨b, off + i, none⟩) hlt).trans (hc i hi)⟩
theorem ArgB.form {w : World} {v : Value} {L : List Bool} (h : ArgB w v L) : ∃ a c, v = .slice a L.length c := by
  rcases h.2 with ⟨rfl, a, c, rfl⟩ | ⟨b, off, cap, rfl, _⟩
  · exact ⟨_, _, rfl⟩
  · exact ⟨_, _, rfl⟩
set_option maxRecDepth 100000 in
theorem openBls {H : Type} {enc : TypeId × Value → H} {W : World} {n : Nat} {v : Value} {y : DataW H × List MemPlace} (h : DataW.trod enc Tryz.prog W 0 (fun _ => true) true n 26 [v] = some y) : ∃ L, ArgB W v L := by
  rcases open_slice1 Tryz.underlying26 (by kernel_rfl) h with ⟨hcs, _⟩ | ⟨a, len, cap, m, n', V, D, Pl, hcs, _, hl, hm, hmm, _, hx⟩
  · simp only [List.cons.injEq, and_true] at hcs
    subst hcs
    exact ⟨[], Nat.zero_le _, .inl ⟨rfl, _, _, rfl⟩⟩
  · simp only [List.cons.injEq, and_true] at hcs
    subst hcs
    by_cases h0 : len = 0
    · subst h0; exact ⟨[], Nat.zero_le _, .inl ⟨rfl, _, _, rfl⟩⟩
    · have hlm : len ≤ m := by rw [hmm]; simp; omega
      have hbool : ∀ i, i < m → ∃ q : Bool, V i = .bool q := by
        intro i hi
        obtain ⟨_, h2⟩ := hx i hi
        obtain ⟨q, e, _⟩ := DataW.trod_bool Tryz.underlying4 h2
        simp only [List.cons.injEq, and_true] at e
        exact ⟨q, e⟩
      obtain ⟨Q, hQ⟩ := choose_lt hbool
      obtain ⟨b, off, spot⟩ := a
      have hc0 := (hx 0 (by omega)).1
      have hspot : spot = none := by simpa [Addr.add] using World.cell?_spot hc0
      subst hspot
      have ea : ∀ i, (⟨b, off, none⟩ : Addr).add i = ⟨b, off + i, none⟩ := fun i => by by_cases hi0 : i = 0 <;> simp [Addr.add, hi0]
      rw [ea] at hc0
      refine ⟨(List.range len).map Q, by simp; omega, .inr ⟨b, off, cap, by simp, block_of hc0, fun i hi => ?_⟩⟩
      simp only [List.length_map, List.length_range] at hi
      have := (hx i (by omega)).1
      rw [ea, hQ i (by omega)] at this
      simpa using this

end Go.Proofs.YtngcjlghjidnjaaGreatDoor
namespace Go.Proofs.YtngcjlghjidnjaaGreatDoor
open Go.ChangeShapes Go.WideShapes Go.ChangeAt Go.RowKit
attribute [local go_sem ↓] Go.wp_at_zero Go.wp_at_succ

set_option maxHeartbeats 1000000 in
set_option maxRecDepth 100000 in
theorem szVd (x : Vd) (n : Int) (w : World) (hx : x.2.2.size ≤ maxLen) (hn : 0 ≤ n) (hn2 : n ≤ 1048576) :
    Calls Tryz.prog 101 #[.agg #[.int .i64 x.1, .int .i64 x.2.1, .string x.2.2], .int .i64 n] w fun e w' => (∃ r : Int, e = .returned (.int .i64 r) ∧ (r < 0 ∨ (0 ≤ r ∧ r ≤ n ∧ (x.2.2.size : Int) ≤ n))) ∧ Below w.heap.size w w' := by
  unfold maxLen at hx
  by_cases c1 : n - (x.2.2.size : Int) < 0
  · go_enter Tryz.func101, Tryz.ntmps101
    go_wp2
    go_ret
    exact ⟨⟨_, rfl, .inl (by decide)⟩, below1 _ _⟩
  · go_enter Tryz.func101, Tryz.ntmps101
    go_wp2
    go_ret
    exact ⟨⟨_, rfl, .inr ⟨by omega, by omega, by omega⟩⟩, below1 _ _⟩

set_option maxHeartbeats 1000000 in
set_option maxRecDepth 100000 in
theorem toVd (x : Vd) (w : World) :
    Calls Tryz.prog 102 #[.agg #[.int .i64 x.1, .int .i64 x.2.1, .string x.2.2]] w fun e w' => e = .returned (.agg #[.int .i64 x.1, .int .i64 x.2.1, .string x.2.2]) ∧ Below w.heap.size w w' := by
  go_enter Tryz.func102, Tryz.ntmps102
  go_wp2
  refine bodyPost_ret (v := .agg #[.int .i64 x.1, .int .i64 x.2.1, .string x.2.2]) (by simp [results, Tryz.results102, go_sem]) rfl ⟨rfl, ?_⟩
  repeat (first | exact Below.refl _ _ | refine Below.setCell ?_ (by simp <;> omega) _ | refine Below.alloc ?_ (by simp <;> omega) _)

end Go.Proofs.YtngcjlghjidnjaaGreatDoor
