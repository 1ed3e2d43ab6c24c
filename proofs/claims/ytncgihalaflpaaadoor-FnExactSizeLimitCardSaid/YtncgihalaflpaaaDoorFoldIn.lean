import Derived.Test.YtncgihalaflpaaaDoorCards
import Derived.Test.YtncgihalaflpaaaDoorTie
import Derived.Test.YtncgihalaflpaaaDoorFold
import Derived.Deep.SlicePairs
import Derived.Lib.LaidTab
namespace Go.Proofs.YtncgihalaflpaaaDoor
open Go.ChangeShapes Go.WideShapes Go.ChangeAt Go.RowKit

set_option maxRecDepth 100000 in
theorem gAf : Tryd.prog.globalNamed "unicode.asciiFold" = some 1 := by kernel_rfl
theorem gAfT : (Tryd.prog.globals[1]?).map (·.type) = some 77 := by kernel_rfl
set_option maxRecDepth 100000 in
theorem gCo : Tryd.prog.globalNamed "unicode.caseOrbit" = some 2 := by kernel_rfl
theorem gCoT : (Tryd.prog.globals[2]?).map (·.type) = some 78 := by kernel_rfl
theorem cAf : Tryd.prog.cellsOf 77 = 128 := by kernel_rfl
theorem cU16 : Tryd.prog.cellsOf 76 = 1 := by kernel_rfl
theorem cFp : Tryd.prog.cellsOf 80 = 2 := by kernel_rfl

def afZ {H : Type} : DataW H → List Int
  | .agg l => l.map fun | .lit (.int _ z) => z | _ => 0
  | _ => []
def coL {H : Type} : DataW H → List (Int × Int)
  | .slice l _ => l.map fun | .agg [.lit (.int _ a), .lit (.int _ b)] => (a, b) | _ => (0, 0)
  | _ => []
set_option maxRecDepth 100000 in
theorem af_eq : (Rows.laid_unicode_asciiFold : DataW Unit) = Lib.tabData .u16 (afZ (Rows.laid_unicode_asciiFold : DataW Unit)) := by kernel_rfl
set_option maxRecDepth 100000 in
theorem co_eq : (Rows.laid_unicode_caseOrbit : DataW Unit) = .slice ((coL (Rows.laid_unicode_caseOrbit : DataW Unit)).map fun p => .agg [.lit (.int .u16 p.1), .lit (.int .u16 p.2)]) [] := by kernel_rfl

set_option maxRecDepth 100000 in
theorem co_len : (coL (Rows.laid_unicode_caseOrbit : DataW Unit)).length = 94 := by kernel_rfl

set_option maxHeartbeats 1000000 in
set_option maxRecDepth 100000 in
theorem afIn {W : World} {r : List (String × DataW Unit)} {ps : List MemPlace} (h : DataW.LaidVars Tryd.prog W (("unicode.asciiFold", Rows.laid_unicode_asciiFold) :: r) ps) (i : Nat) (z : Int) (hi : (afZ (Rows.laid_unicode_asciiFold : DataW Unit))[i]? = some z) : W.cell? ⟨1, i, none⟩ = some (.int .u16 z) := by
  obtain ⟨g, t, cs, fuel, p, q, hg, ht, hv, hd, _, _⟩ := h
  obtain rfl := Option.some.inj (gAf.symm.trans hg)
  obtain rfl := Option.some.inj (gAfT.symm.trans ht)
  rw [af_eq] at hd
  have hc := Lib.cells_of_tab Tryd.underlying77 Tryd.underlying76 cU16 cAf hd
  rw [World.var?_cell hg hv i, ← Array.getElem?_toList, hc, List.getElem?_map, hi]
  rfl

set_option maxHeartbeats 1000000 in
set_option maxRecDepth 100000 in
theorem coIn {W : World} {r : List (String × DataW Unit)} {ps : List MemPlace} (h : DataW.LaidVars Tryd.prog W (("unicode.caseOrbit", Rows.laid_unicode_caseOrbit) :: r) ps) :
    ∃ b off cap, W.cell? ⟨2, 0, none⟩ = some (.slice (some ⟨b, off, none⟩) (coL (Rows.laid_unicode_caseOrbit : DataW Unit)).length cap) ∧ ∀ i x y, (coL (Rows.laid_unicode_caseOrbit : DataW Unit))[i]? = some (x, y) → W.cell? ⟨b, off + i * 2, none⟩ = some (.int .u16 x) ∧ W.cell? ⟨b, off + (i * 2 + 1), none⟩ = some (.int .u16 y) := by
  obtain ⟨g, t, cs, fuel, p, q, hg, ht, hv, hd, _, _⟩ := h
  obtain rfl := Option.some.inj (gCo.symm.trans hg)
  obtain rfl := Option.some.inj (gCoT.symm.trans ht)
  rw [co_eq] at hd
  have hlen0 : 0 < (coL (Rows.laid_unicode_caseOrbit : DataW Unit)).length := by rw [co_len]; decide
  generalize coL (Rows.laid_unicode_caseOrbit : DataW Unit) = L at *
  rcases Deep.open_slice_pairs Tryd.underlying78 Tryd.underlying80 cFp rfl rfl cU16 cU16 hd with ⟨_, hx⟩ | ⟨a, len, cap, m, k, V0, V1, D0, D1, P0, P1, hc, _, hl, hm, hmm, hx, hall⟩
  · cases hx
  · have hxl := (DataW.slice.inj (Prod.mk.inj hx).1).1
    have hlen : len = L.length := by
      have := congrArg List.length hxl
      simpa using this.symm
    subst hlen
    have hmle : L.length ≤ m := by rw [hmm]; split <;> omega
    have hel : ∀ i x y, L[i]? = some (x, y) → W.cell? (a.add (i * 2)) = some (.int .u16 x) ∧ W.cell? (a.add (i * 2 + 1)) = some (.int .u16 y) := by
      intro i x y hi
      have hiL : i < L.length := (List.getElem?_eq_some_iff.1 hi).1
      obtain ⟨c0, c1, t0, t1⟩ := hall i (by omega)
      have h1 := congrArg (·[i]?) hxl
      simp only [List.getElem?_map, hi, List.getElem?_range hiL, Option.map_some, Option.some.injEq, DataW.agg.injEq, List.cons.injEq, and_true] at h1
      obtain ⟨n0, e0, f0, _⟩ := DataW.trod_int Tryd.underlying76 t0
      obtain ⟨n1, e1, f1, _⟩ := DataW.trod_int Tryd.underlying76 t1
      have g0 := (Prod.mk.inj f0).1
      have g1 := (Prod.mk.inj f1).1
      rw [g0, g1] at h1
      simp only [DataW.lit.injEq, Lit.int.injEq, true_and, List.cons.injEq, and_true] at h1 e0 e1
      obtain ⟨rfl, rfl⟩ := h1
      rw [c0, c1, e0, e1]
      exact ⟨rfl, rfl⟩
    obtain ⟨b, off, spot⟩ := a
    have hspot : spot = none := by
      obtain ⟨⟨x, y⟩, hxy⟩ : ∃ z, L[0]? = some z := ⟨L[0], List.getElem?_eq_getElem hlen0⟩
      simpa [Addr.add] using World.cell?_spot (hel 0 x y hxy).1
    subst hspot
    refine ⟨b, off, cap, ?_, fun i x y hi => ?_⟩
    rotate_left
    · have h := hel i x y hi
      by_cases h0 : i = 0
      · subst h0
        simpa [Addr.add] using h
      · have h1 : ¬ i * 2 = 0 := by omega
        simpa [Addr.add, h1] using h
    rw [World.var?_cell hg hv 0, ← Array.getElem?_toList, hc]
    rfl

set_option maxHeartbeats 1000000 in
set_option maxRecDepth 100000 in
theorem foldIn {W : World} {d0 : DataW Unit} {n0 : String} {r : List (String × DataW Unit)} (h : laidMet Tryd.prog ((n0, d0) :: ("unicode.asciiFold", Rows.laid_unicode_asciiFold) :: ("unicode.caseOrbit", Rows.laid_unicode_caseOrbit) :: r) W) : FoldTab W := by
  obtain ⟨ps, ⟨_, _, _, _, _, q, _, _, _, _, h1, _⟩, _⟩ := h
  have h2 := h1
  obtain ⟨_, _, _, _, _, q2, _, _, _, _, h3, _⟩ := h2
  have A := afIn h1
  obtain ⟨b, off, cap, C0, C⟩ := coIn h3
  refine ⟨A 83 115 (by kernel_rfl), A 115 383 (by kernel_rfl), A 73 105 (by kernel_rfl), A 105 73 (by kernel_rfl), A 90 122 (by kernel_rfl), A 122 90 (by kernel_rfl), A 69 101 (by kernel_rfl), A 101 69 (by kernel_rfl), b, off, cap, ?_, (C 47 966 981 (by kernel_rfl)).1, (C 23 837 921 (by kernel_rfl)).1, (C 11 452 453 (by kernel_rfl)).1, (C 5 197 229 (by kernel_rfl)).1, (C 8 304 304 (by kernel_rfl)).1, (C 10 383 83 (by kernel_rfl)).1, (C 9 305 305 (by kernel_rfl)).1, (C 10 383 83 (by kernel_rfl)).2⟩
  rw [C0, co_len]
end Go.Proofs.YtncgihalaflpaaaDoor
