import Derived.Test.YtlolnfpfipnfeaaGreatMg51
import Derived.Test.YtlolnfpfipnfeaaGreatMg16
import Derived.Test.YtlolnfpfipnfeaaGreatMg1
import Derived.Test.YtlolnfpfipnfeaaGreatMg6
import Derived.HandedShaped
namespace Go.Proofs.YtlolnfpfipnfeaaGreat
open Go.ChangeShapes Go.WideShapes Go.ChangeAt Go.RowKit Go.Deep
open Go.ChangeMaps (open_string)

set_option maxRecDepth 100000 in
theorem openRecC {H : Type} {enc : TypeId × Value → H} {W : World} {n : Nat} {u0 u1 u2 u3 u4 u5 u6 u7 u8 u9 u10 u11 u12 : Value} {y : DataW H × List MemPlace} (h : DataW.trod enc Tryz.prog W 0 (fun _ => true) true n 31 [u0, u1, u2, u3, u4, u5, u6, u7, u8, u9, u10, u11, u12] = some y) :
    ∃ r : Rec, #[u0, u1, u2, u3, u4, u5, u6, u7, u8, u9, u10, u11, u12] = #[.int .i64 r.kind, .int .i64 r.mid, .int .i64 r.born, .string r.fr, u4, .string r.bo, .int .i64 r.id, .int .i64 r.rc, .int .i64 r.vk, .int .i64 r.vc, .string r.vt, .int .i64 r.tr, .int .i64 r.due] ∧ ArgS W u4 r.R ∧ r.fr.size ≤ maxLen ∧ r.bo.size ≤ maxLen ∧ r.vt.size ≤ maxLen := by
  have cI : Tryz.prog.cellsOf 3 = 1 := by kernel_rfl
  have cL : Tryz.prog.cellsOf 2 = 1 := by kernel_rfl
  have cS : Tryz.prog.cellsOf 9 = 1 := by kernel_rfl
  have cSS : Tryz.prog.cellsOf 25 = 1 := by kernel_rfl
  have cM : Tryz.prog.cellsOf 27 = 5 := by kernel_rfl
  have cV : Tryz.prog.cellsOf 29 = 3 := by kernel_rfl
  obtain ⟨xs, k, hk, hxy, _, hxl, hf⟩ := DataW.trod_struct Tryz.underlying31 h
  match xs, hxl with
  | [y0, y1, y2, y3, y4, y5, y6], _ =>
    have g0 := hf 0 _ rfl
    have g1 := hf 1 _ rfl
    have g2 := hf 2 _ rfl
    have g3 := hf 3 _ rfl
    have g4 := hf 4 _ rfl
    have g5 := hf 5 _ rfl
    have g6 := hf 6 _ rfl
    simp [cI, cL, cM, cV] at g0 g1 g2 g3 g4 g5 g6
    obtain ⟨zs, k', _, _, _, hzl, hg⟩ := DataW.trod_struct Tryz.underlying27 g1
    obtain ⟨vs, k2, _, _, _, hvl, hh⟩ := DataW.trod_struct Tryz.underlying29 g4
    match zs, hzl, vs, hvl with
    | [z0, z1, z2, z3, z4], _, [t0, t1, t2], _ =>
      have m0 := hg 0 _ rfl
      have m1 := hg 1 _ rfl
      have m2 := hg 2 _ rfl
      have m3 := hg 3 _ rfl
      have m4 := hg 4 _ rfl
      have v0 := hh 0 _ rfl
      have v1 := hh 1 _ rfl
      have v2 := hh 2 _ rfl
      simp [cI, cL, cS, cSS] at m0 m1 m2 m3 m4 v0 v1 v2
      obtain ⟨a0, e0, _⟩ := DataW.trod_int Tryz.underlying3 g0
      obtain ⟨a1, e1, _⟩ := DataW.trod_int Tryz.underlying3 m0
      obtain ⟨a2, e2, _⟩ := DataW.trod_int Tryz.underlying2 m1
      obtain ⟨a3, e3, _, s3⟩ := DataW.trod_string Tryz.underlying9 m2
      obtain ⟨R, hR⟩ := openStrsI m3
      obtain ⟨a5, e5, _, s5⟩ := DataW.trod_string Tryz.underlying9 m4
      obtain ⟨a6, e6, _⟩ := DataW.trod_int Tryz.underlying3 g2
      obtain ⟨a7, e7, _⟩ := DataW.trod_int Tryz.underlying3 g3
      obtain ⟨a8, e8, _⟩ := DataW.trod_int Tryz.underlying3 v0
      obtain ⟨a9, e9, _⟩ := DataW.trod_int Tryz.underlying3 v1
      obtain ⟨a10, e10, _, s10⟩ := DataW.trod_string Tryz.underlying9 v2
      obtain ⟨a11, e11, _⟩ := DataW.trod_int Tryz.underlying3 g5
      obtain ⟨a12, e12, _⟩ := DataW.trod_int Tryz.underlying2 g6
      simp only [List.cons.injEq, and_true] at e0 e1 e2 e3 e5 e6 e7 e8 e9 e10 e11 e12
      subst e0 e1 e2 e3 e5 e6 e7 e8 e9 e10 e11 e12
      exact ⟨⟨a0, a1, a2, a3, R, a5, a6, a7, a8, a9, a10, a11, a12⟩, rfl, hR, s3, s5, s10⟩

set_option maxRecDepth 100000 in
theorem openRec {H : Type} {enc : TypeId × Value → H} {W : World} {b0 : Nat} {v : Value} {d : DataW H} {p : List MemPlace} (hv : Value.okWide Tryz.prog W .any b0 31 v) (h : DataW.Trod enc Tryz.prog W 0 (fun _ => true) true 31 v d p) :
    ∃ (u : Value) (r : Rec), v = .agg #[.int .i64 r.kind, .int .i64 r.mid, .int .i64 r.born, .string r.fr, u, .string r.bo, .int .i64 r.id, .int .i64 r.rc, .int .i64 r.vk, .int .i64 r.vc, .string r.vt, .int .i64 r.tr, .int .i64 r.due] ∧ ArgS W u r.R ∧ r.fr.size ≤ maxLen ∧ r.bo.size ≤ maxLen ∧ r.vt.size ≤ maxLen := by
  obtain ⟨cs, rfl, hsz⟩ := okWide_struct Tryz.underlying31 hv
  have hC : Tryz.prog.cellsOf 31 = 13 := by kernel_rfl
  rw [hC] at hsz
  obtain ⟨l⟩ := cs
  match l, hsz with
  | [u0, u1, u2, u3, u4, u5, u6, u7, u8, u9, u10, u11, u12], _ =>
    obtain ⟨fuel, hf⟩ := h
    obtain ⟨r, e, h1, h2, h3, h4⟩ := openRecC (by simpa [Value.cells] using hf)
    exact ⟨u4, r, by rw [← e], h1, h2, h3, h4⟩
end Go.Proofs.YtlolnfpfipnfeaaGreat
namespace Go.Proofs.YtlolnfpfipnfeaaGreat
theorem lenIn {W : World} (h : W.ShapedOpen Tryz.prog) : LenIn W := by
  exact Tryz.laysM145.s1_3 W h
end Go.Proofs.YtlolnfpfipnfeaaGreat
