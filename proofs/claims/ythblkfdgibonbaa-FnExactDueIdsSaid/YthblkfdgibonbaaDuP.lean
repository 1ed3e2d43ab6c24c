import Derived.Test.YthblkfdgibonbaaDuH
import Derived.Deep.RegionLaw
import Derived.Deep.DeepCutAuto
import Derived.Deep.CutBlock
namespace Go.Proofs.Ythblkfdgibonbaa
open Go.ChangeShapes Go.WideShapes Go.ChangeAt Go.RowKit
attribute [local go_sem ↓] Go.wp_at_zero Go.wp_at_succ

theorem Hp.set {w : World} {lo g m cap i : Nat} {D : List Du} (h : Hp w lo (.slice (some ⟨g, 0, none⟩) m cap) D) (hi : i < D.length) (x : Du) :
    Hp ((w.setCell ⟨g, i * 2, none⟩ (.int .i64 x.1)).setCell ⟨g, i * 2 + 1, none⟩ (.int .i64 x.2)) lo (.slice (some ⟨g, 0, none⟩) m cap) (D.set i x) := by
  have hir : i < (D.map dc).length := by simpa using hi
  have h1 := Rw.set h hir (j := 0) (by decide) (.int .i64 x.1)
  have h2 := Rw.set h1 (i := i) (j := 1) (by simpa using hir) (by decide) (.int .i64 x.2)
  unfold Hp
  rw [List.map_set]
  simpa [List.getElem_set_self, List.set_set, dc] using h2
theorem Hp.drew {w : World} {lo : Nat} {v : Value} {D : List Du} (h : Hp w lo v D) : Hp w.drew lo v D := Rw.below h (Below.refl w.heap.size w).drew (Nat.le_refl _)
theorem Hp.below {w w' : World} {lo B : Nat} {v : Value} {D : List Du} (h : Hp w lo v D) (hb : Below B w w') (hB : w.heap.size ≤ B) : Hp w' lo v D := Rw.below h hb hB

set_option maxHeartbeats 4000000 in
set_option maxRecDepth 100000 in
theorem hpSwap (g cap i j lo : Nat) (D : List Du) (w : World) (h : Hp w lo (.slice (some ⟨g, 0, none⟩) D.length cap) D) (hi : i < D.length) (hj : j < D.length) :
    Calls Try.prog 106 #[.slice (some ⟨g, 0, none⟩) D.length cap, .int .i64 i, .int .i64 j] w fun e w' => e = .returned (.tuple #[]) ∧ Hp w' lo (.slice (some ⟨g, 0, none⟩) D.length cap) (swD D i j) ∧ Off g w w' := by
  have hf := (Rw.at h).1.free
  have i1 : (0 : Int) ≤ (i : Int) := by omega
  have i2 : (i : Int) < (D.length : Int) := by omega
  have j1 : (0 : Int) ≤ (j : Int) := by omega
  have j2 : (j : Int) < (D.length : Int) := by omega
  have HF : Hid (Hp ((((w.drew.setCell ⟨g, i * 2, none⟩ (.int .i64 D[j].1)).setCell ⟨g, i * 2 + 1, none⟩ (.int .i64 D[j].2)).setCell ⟨g, j * 2, none⟩ (.int .i64 D[i].1)).setCell ⟨g, j * 2 + 1, none⟩ (.int .i64 D[i].2)) lo (.slice (some ⟨g, 0, none⟩) D.length cap) (swD D i j)) := by
    have := (h.drew.set hi D[j]).set (i := j) (by simpa using hj) D[i]
    unfold swD
    rw [gD_get hi, gD_get hj]
    exact this
  by_cases hij : i = j
  · subst hij
    obtain ⟨c0, c1⟩ := h.cell i hi
    clear h
    generalize swD D i i = D2 at *
    generalize D[i] = x at *
    obtain ⟨x1, x2⟩ := x
    dsimp only at *
    generalize D.length = n at *
    go_enter Try.func106, Try.ntmps106
    go_wp2_with fail
    go_region_with (fail)
    all_goals
      go_end0
      exact ⟨rfl, HF.out, (((((Off.refl g w).drewN 1).setCell _).setCell _).setCell _).setCell _⟩
  · obtain ⟨c0, c1⟩ := h.cell i hi
    obtain ⟨d0, d1⟩ := h.cell j hj
    clear h
    generalize swD D i j = D2 at *
    generalize D[i] = x at *
    generalize D[j] = y at *
    obtain ⟨x1, x2⟩ := x
    obtain ⟨y1, y2⟩ := y
    dsimp only at *
    generalize D.length = n at *
    have n1 : ¬ (j * 2 = i * 2) := by omega
    have n2 : ¬ (j * 2 = i * 2 + 1) := by omega
    have n3 : ¬ (j * 2 + 1 = i * 2) := by omega
    have n4 : ¬ (j = i) := by omega
    go_enter Try.func106, Try.ntmps106
    go_wp2_with fail
    go_region_with (fail)
    all_goals
      go_end0
      exact ⟨rfl, HF.out, (((((Off.refl g w).drewN 1).setCell _).setCell _).setCell _).setCell _⟩
end Go.Proofs.Ythblkfdgibonbaa
