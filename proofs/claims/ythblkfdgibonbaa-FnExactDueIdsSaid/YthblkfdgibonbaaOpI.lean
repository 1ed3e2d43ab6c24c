import Derived.Test.YthblkfdgibonbaaItL
import Derived.Test.YthblkfdgibonbaaArgVd
import Derived.Test.YthblkfdgibonbaaLawBase
import Derived.Deep.Slices
import Derived.Deep.SlicePairs
import Derived.Deep.Fields
import Derived.Lib.SmallJoins
namespace Go.Proofs.Ythblkfdgibonbaa
open Go.ChangeShapes Go.WideShapes Go.ChangeAt Go.RowKit Go.Deep
open Go.ChangeMaps (open_string)

set_option maxRecDepth 100000 in
theorem openStrsI {H : Type} {enc : TypeId × Value → H} {W : World} {fuel : Nat} {v : Value} {y : DataW H × List MemPlace} (hf : DataW.trod enc Try.prog W 0 (fun _ => true) true fuel 24 [v] = some y) : ∃ L, ArgS W v L := by
  rcases open_strings Try.underlying24 Try.underlying9 (by kernel_rfl) hf with ⟨hcs, _⟩ | ⟨a, len, cap, ss, hcs, _, hl, hm, hz, _, hcell, hws⟩
  · simp only [List.cons.injEq, and_true] at hcs
    subst hcs
    exact ⟨[], Nat.zero_le _, (fun s hs => by cases hs), .inl ⟨rfl, _, _, rfl⟩⟩
  · simp only [List.cons.injEq, and_true] at hcs
    subst hcs
    have hz' : ss.length = cap := by simpa using hz
    by_cases h0 : len = 0
    · subst h0
      exact ⟨[], Nat.zero_le _, (fun s hs => by cases hs), .inl ⟨rfl, _, _, rfl⟩⟩
    · obtain ⟨b, off, spot⟩ := a
      have hc0 := hcell 0 (by omega)
      have hspot : spot = none := by simpa [Addr.add] using World.cell?_spot hc0
      subst hspot
      have hlt : (ss.take len).length = len := by simp; omega
      have ea : ∀ i, (⟨b, off, none⟩ : Addr).add i = ⟨b, off + i, none⟩ := fun i => by by_cases hi0 : i = 0 <;> simp [Addr.add, hi0]
      rw [ea] at hc0
      refine ⟨ss.take len, by rw [hlt]; omega, fun s hs => hws s (List.mem_of_mem_take hs), .inr ⟨b, off, cap, by rw [hlt], block_of hc0, fun i hi => ?_⟩⟩
      rw [hlt] at hi
      have hci := hcell i (by omega)
      rw [ea] at hci
      rw [hci]
      congr 2
      rw [List.getD_eq_getElem?_getD, List.getElem?_eq_getElem (by omega)]
      simp

set_option maxRecDepth 100000 in
theorem openIt {H : Type} {enc : TypeId × Value → H} {W : World} {n : Nat} {u0 u1 u2 u3 u4 u5 u6 u7 u8 : Value} {y : DataW H × List MemPlace} (h : DataW.trod enc Try.prog W 0 (fun _ => true) true n 87 [u0, u1, u2, u3, u4, u5, u6, u7, u8] = some y) :
    ∃ x : It, [u0, u1, u2, u3, u4, u5, u6, u7, u8] = ic x (u3, u5) ∧ ArgIt W x u3 u5 := by
  have cI : Try.prog.cellsOf 3 = 1 := by kernel_rfl
  have cL : Try.prog.cellsOf 2 = 1 := by kernel_rfl
  have cS : Try.prog.cellsOf 9 = 1 := by kernel_rfl
  have cB : Try.prog.cellsOf 4 = 1 := by kernel_rfl
  have cSS : Try.prog.cellsOf 24 = 1 := by kernel_rfl
  have cSV : Try.prog.cellsOf 85 = 1 := by kernel_rfl
  have cM : Try.prog.cellsOf 84 = 5 := by kernel_rfl
  obtain ⟨xs, k, hk, hxy, _, hxl, hf⟩ := DataW.trod_struct Try.underlying87 h
  match xs, hxl with
  | [y0, y1, y2, y3, y4], _ =>
    have g0 := hf 0 _ rfl
    have g1 := hf 1 _ rfl
    have g2 := hf 2 _ rfl
    have g3 := hf 3 _ rfl
    have g4 := hf 4 _ rfl
    simp [cI, cL, cB, cSV, cM] at g0 g1 g2 g3 g4
    obtain ⟨zs, k', _, _, _, hzl, hg⟩ := DataW.trod_struct Try.underlying84 g0
    match zs, hzl with
    | [z0, z1, z2, z3, z4], _ =>
      have m0 := hg 0 _ rfl
      have m1 := hg 1 _ rfl
      have m2 := hg 2 _ rfl
      have m3 := hg 3 _ rfl
      have m4 := hg 4 _ rfl
      simp [cI, cL, cS, cSS] at m0 m1 m2 m3 m4
      obtain ⟨a0, e0, _⟩ := DataW.trod_int Try.underlying3 m0
      obtain ⟨a1, e1, _⟩ := DataW.trod_int Try.underlying2 m1
      obtain ⟨a2, e2, _, s2⟩ := DataW.trod_string Try.underlying9 m2
      obtain ⟨R, hR⟩ := openStrsI m3
      obtain ⟨a4, e4, _, s4⟩ := DataW.trod_string Try.underlying9 m4
      obtain ⟨V, hV⟩ := openVds g1
      obtain ⟨a6, e6, _⟩ := DataW.trod_int Try.underlying3 g2
      obtain ⟨a7, e7, _⟩ := DataW.trod_int Try.underlying2 g3
      obtain ⟨a8, e8, _⟩ := DataW.trod_bool Try.underlying4 g4
      simp only [List.cons.injEq, and_true] at e0 e1 e2 e4 e6 e7 e8
      subst e0 e1 e2 e4 e6 e7 e8
      exact ⟨⟨a0, a1, a2, R, a4, V, a6, a7, a8⟩, rfl, hR, hV, s2, s4⟩

set_option maxRecDepth 100000 in
theorem openIts {H : Type} {enc : TypeId × Value → H} {W : World} {n : Nat} {v : Value} {y : DataW H × List MemPlace} (h : DataW.trod enc Try.prog W 0 (fun _ => true) true n 34 [v] = some y) : ∃ L, ArgI W v L := by
  rcases open_slice Try.underlying34 h with ⟨hcs, _⟩ | ⟨a, len, cap, m, n', D, Pl, hcs, _, hl, hm, hmm, _, hx⟩
  · simp only [List.cons.injEq, and_true] at hcs
    subst hcs
    exact ⟨[], Nat.zero_le _, .inl ⟨rfl, _, _, rfl⟩⟩
  · simp only [List.cons.injEq, and_true] at hcs
    subst hcs
    by_cases h0 : len = 0
    · subst h0; exact ⟨[], Nat.zero_le _, .inl ⟨rfl, _, _, rfl⟩⟩
    · have hlm : len ≤ m := by rw [hmm]; simp; omega
      have ce : Try.prog.cellsOf 87 = 9 := by kernel_rfl
      have hvd : ∀ i, i < m → ∃ q : It × Value × Value, ArgIt W q.1 q.2.1 q.2.2 ∧ ∀ j, j < 9 → W.cell? (a.add (i * 9 + j)) = (ic q.1 q.2)[j]? := by
        intro i hi
        obtain ⟨cs', h1, h2⟩ := hx i hi
        rw [ce] at h1
        obtain ⟨_, hlen, hcell⟩ := World.cells?_some h1
        match cs', hlen with
        | [u0, u1, u2, u3, u4, u5, u6, u7, u8], _ =>
          obtain ⟨x, hx, hA⟩ := openIt h2
          refine ⟨(x, u3, u5), hA, fun j hj => ?_⟩
          have q := hcell j (by omega)
          rw [add_add] at q
          rw [q, hx]
      haveI : Inhabited (It × Value × Value) := ⟨(it0, .slice none 0 0, .slice none 0 0)⟩
      obtain ⟨Q, hQ⟩ := choose_lt hvd
      obtain ⟨b, off, spot⟩ := a
      have hc0 := (hQ 0 (by omega)).2 0 (by decide)
      have hc1 : W.cell? ((⟨b, off, spot⟩ : Addr).add (0 * 9 + 0)) = some (.int .i64 (Q 0).1.id) := hc0
      have hspot : spot = none := by simpa [Addr.add] using World.cell?_spot hc1
      subst hspot
      have ea : ∀ i, (⟨b, off, none⟩ : Addr).add i = ⟨b, off + i, none⟩ := fun i => by by_cases hi0 : i = 0 <;> simp [Addr.add, hi0]
      rw [ea] at hc1
      refine ⟨(List.range len).map fun i => (Q i).1, by simp; omega, .inr ⟨b, off, cap, by simp, block_of hc1, fun i hi => ?_⟩⟩
      simp only [List.length_map, List.length_range] at hi
      obtain ⟨hA, hC⟩ := hQ i (by omega)
      refine ⟨(Q i).2.1, (Q i).2.2, ?_, by simpa using hA⟩
      have cl : ∀ j, j < 9 → W.cell? ⟨b, off + i * 9 + j, none⟩ = (ic (Q i).1 (Q i).2)[j]? := fun j hj => by
        rw [← hC j hj, ea, Nat.add_assoc]
      simp only [List.getElem_map, List.getElem_range]
      exact ⟨cl 0 (by decide), cl 1 (by decide), cl 2 (by decide), cl 3 (by decide), cl 4 (by decide), cl 5 (by decide), cl 6 (by decide), cl 7 (by decide), cl 8 (by decide)⟩

set_option maxRecDepth 100000 in
theorem openQu {H : Type} {enc : TypeId × Value → H} {W : World} {b0 : Nat} {v : Value} {d : DataW H} {p : List MemPlace} (hv : Value.okWide Try.prog W .any b0 36 v) (h : DataW.Trod enc Try.prog W 0 (fun _ => true) true 36 v d p) :
    ∃ (u : Value) (nx : Int) (L : List It), v = .agg #[u, .int .i64 nx] ∧ ArgI W u L := by
  obtain ⟨v0, v1, y0, y1, n, rfl, _, _, h0, h1⟩ := Joins.open_agg2 Try.underlying36 (by kernel_rfl) (by kernel_rfl) hv h
  obtain ⟨nx, e1, _⟩ := DataW.trod_int Try.underlying3 h1
  obtain ⟨L, hM⟩ := openIts h0
  simp only [List.cons.injEq, and_true] at e1
  subst e1
  exact ⟨v0, nx, L, rfl, hM⟩
end Go.Proofs.Ythblkfdgibonbaa
