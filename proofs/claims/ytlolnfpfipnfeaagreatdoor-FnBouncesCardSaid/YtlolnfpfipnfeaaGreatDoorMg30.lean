import Derived.Test.YtlolnfpfipnfeaaGreatDoorMg29
import Derived.Test.YtlolnfpfipnfeaaGreatDoorMg27
import Derived.Shelf.Strconv.AtoiAll
import Derived.Test.YtlolnfpfipnfeaaGreatDoorMg25
import Derived.Test.YtlolnfpfipnfeaaGreatDoorMg23
namespace Go.Proofs.YtlolnfpfipnfeaaGreatDoor
open Go.ChangeShapes Go.WideShapes Go.ChangeAt Go.RowKit
open Pcs

theorem implAtoi (s : ByteArray) (w : World) (he : Env w) (hs : s.size ≤ 1048576) :
    Calls Tryz.prog 70 #[.string s] w fun e w' => (∃ ev, e = .returned (.tuple #[.int .i64 (atoiV s.data.toList), ev])) ∧ Below w.heap.size w w' := by
  unfold atoiV
  cases h : Lib.atoiAll s.data.toList
  · rename_i v
    refine (Any.strconv_Atoi_ok Tryz.laysC172 s (by omega) v h w).mono ?_
    rintro e w' ⟨rfl, hw⟩
    refine ⟨⟨_, rfl⟩, ?_⟩
    rcases hw with rfl | ⟨t, rfl⟩
    · exact Below.refl _ _
    · exact Lib.bytesWorld_below _ _ _
  · obtain ⟨ev, h1, h2⟩ := he.syn
    refine (Any.strconv_Atoi_syntax Tryz.laysC172 s (by omega) h ev w h1 h2).mono ?_
    rintro e w' ⟨N, rfl, _, _, hb⟩
    exact ⟨⟨_, rfl⟩, hb⟩
  · obtain ⟨ev, h1, h2⟩ := he.ran
    refine (Any.strconv_Atoi_range Tryz.laysC172 s (by omega) h ev w h1 h2).mono ?_
    rintro e w' ⟨N, rfl, _, _, hb⟩
    exact ⟨⟨_, rfl⟩, hb⟩
theorem Blk.offB {a b : Nat} {X : Array Value} {w w1 : World} (h : Blk a X w) (ho : Off b w w1) (hne : a ≠ b) : Blk a X w1 :=
  ⟨Nat.lt_of_lt_of_le h.lt ho.size, fun i => (ho.cell h.lt hne).trans (h.cell i), fun o => (ho.frozen h.lt hne).trans (h.free o)⟩
theorem Off.setHi {b q i : Nat} {w w1 : World} {v : Value} (h : Off b w w1) (hq : w.heap.size ≤ q) : Off b w (w1.setCell ⟨q, i, none⟩ v) :=
  ⟨h.os, h.tape, h.output, by simpa using h.size, fun k hk hb => by rw [Below.heap_setCell _ _ _ _ (by show k ≠ q; omega)]; exact h.block k hk hb⟩

set_option maxHeartbeats 2000000 in
set_option maxRecDepth 100000 in
theorem rFailure (b : Nat) (y0 y1 y2 y3 y4 : Value) (r : List UInt8) (w : World) (hE : ∀ wx, Off b w wx → Env wx) (h : Blk b (rdC y0 y1 y2 y3 y4 r) w) (hr : r.length ≤ 1048576) :
    Calls Tryz.prog 51 #[.pointer (some ⟨b, 0, none⟩)] w fun e w' => e = .returned (flV (flI r).1) ∧ Blk b (rdC y0 y1 y2 y3 y4 (flI r).2) w' ∧ Off b w w' := by
  have HE : Hid (∀ wx, Off b w wx → Env wx) := hE
  have HB : Hid (Blk b (rdC y0 y1 y2 y3 y4 r) w) := h
  have hbw := h.lt
  obtain ⟨r1, Er1⟩ : ∃ r1, skI 1 r = r1 := ⟨_, rfl⟩
  obtain ⟨r2, Er2⟩ : ∃ r2, (lnI r1).2 = r2 := ⟨_, rfl⟩
  obtain ⟨r3, Er3⟩ : ∃ r3, skI 1 r2 = r3 := ⟨_, rfl⟩
  obtain ⟨r4, Er4⟩ : ∃ r4, (lnI r3).2 = r4 := ⟨_, rfl⟩
  obtain ⟨r5, Er5⟩ : ∃ r5, (lnI r4).2 = r5 := ⟨_, rfl⟩
  obtain ⟨dg, Edg⟩ : ∃ dg, mk (fdI dgL [] (lnI r4).1) = dg := ⟨_, rfl⟩
  obtain ⟨rc, Erc⟩ : ∃ rc, mk (fdI rcL [] (lnI r1).1) = rc := ⟨_, rfl⟩
  obtain ⟨st, Est⟩ : ∃ st, mk (fdI stL [] (lnI r3).1) = st := ⟨_, rfl⟩
  have HFE : Hid (flI r = (⟨rc, st, atoiV (Lib.cut dg.data.toList [32]).1, mk (Lib.cut dg.data.toList [32]).2.1⟩, r5)) := by
    show _ = _
    rw [← Erc, ← Est, ← Edg, ← Er5, ← Er4, ← Er3, ← Er2, ← Er1]
    rfl
  have l1 : r1.length ≤ 1048576 := by rw [← Er1]; exact Nat.le_trans (sk_size _ _) hr
  have l2 : r2.length ≤ 1048576 := by rw [← Er2]; exact Nat.le_trans (ln_size _).2 l1
  have l3 : r3.length ≤ 1048576 := by rw [← Er3]; exact Nat.le_trans (sk_size _ _) l2
  have l4 : r4.length ≤ 1048576 := by rw [← Er4]; exact Nat.le_trans (ln_size _).2 l3
  have ldg : dg.size ≤ 1048576 := by rw [← Edg, mk_size]; exact Nat.le_trans (fd_size _ _ _) (Nat.le_trans (ln_size _).1 l4)
  have HS1 : Hid (∀ wx : World, Blk b (rdC y0 y1 y2 y3 y4 r) wx → (∀ wy, Off b wx wy → LenIn wy) → Calls Tryz.prog 48 #[.pointer (some ⟨b, 0, none⟩), .int .i64 1] wx fun e w' => e = .returned (.tuple #[]) ∧ Blk b (rdC y0 y1 y2 y3 y4 r1) w' ∧ Off b wx w') := fun wx h1 h2 => by rw [← Er1]; exact rSkip b y0 y1 y2 y3 y4 r 1 wx h2 h1 hr (by decide)
  have HL1 : Hid (∀ wx : World, Blk b (rdC y0 y1 y2 y3 y4 r1) wx → LenIn wx → Calls Tryz.prog 49 #[.pointer (some ⟨b, 0, none⟩), .string ⟨#[70, 105, 110, 97, 108, 45, 82, 101, 99, 105, 112, 105, 101, 110, 116, 58, 32, 114, 102, 99, 56, 50, 50, 59, 32]⟩, .string ⟨#[]⟩] wx fun e w' => e = .returned (.string rc) ∧ Blk b (rdC y0 y1 y2 y3 y4 r2) w' ∧ Off b wx w') := fun wx h1 h2 => by rw [← Er2, ← Erc]; exact rLine b y0 y1 y2 y3 y4 r1 ⟨#[70, 105, 110, 97, 108, 45, 82, 101, 99, 105, 112, 105, 101, 110, 116, 58, 32, 114, 102, 99, 56, 50, 50, 59, 32]⟩ ⟨#[]⟩ wx h2 h1 l1
  have HS2 : Hid (∀ wx : World, Blk b (rdC y0 y1 y2 y3 y4 r2) wx → (∀ wy, Off b wx wy → LenIn wy) → Calls Tryz.prog 48 #[.pointer (some ⟨b, 0, none⟩), .int .i64 1] wx fun e w' => e = .returned (.tuple #[]) ∧ Blk b (rdC y0 y1 y2 y3 y4 r3) w' ∧ Off b wx w') := fun wx h1 h2 => by rw [← Er3]; exact rSkip b y0 y1 y2 y3 y4 r2 1 wx h2 h1 l2 (by decide)
  have HL2 : Hid (∀ wx : World, Blk b (rdC y0 y1 y2 y3 y4 r3) wx → LenIn wx → Calls Tryz.prog 49 #[.pointer (some ⟨b, 0, none⟩), .string ⟨#[83, 116, 97, 116, 117, 115, 58, 32]⟩, .string ⟨#[]⟩] wx fun e w' => e = .returned (.string st) ∧ Blk b (rdC y0 y1 y2 y3 y4 r4) w' ∧ Off b wx w') := fun wx h1 h2 => by rw [← Er4, ← Est]; exact rLine b y0 y1 y2 y3 y4 r3 ⟨#[83, 116, 97, 116, 117, 115, 58, 32]⟩ ⟨#[]⟩ wx h2 h1 l3
  have HL3 : Hid (∀ wx : World, Blk b (rdC y0 y1 y2 y3 y4 r4) wx → LenIn wx → Calls Tryz.prog 49 #[.pointer (some ⟨b, 0, none⟩), .string ⟨#[68, 105, 97, 103, 110, 111, 115, 116, 105, 99, 45, 67, 111, 100, 101, 58, 32, 115, 109, 116, 112, 59, 32]⟩, .string ⟨#[]⟩] wx fun e w' => e = .returned (.string dg) ∧ Blk b (rdC y0 y1 y2 y3 y4 r5) w' ∧ Off b wx w') := fun wx h1 h2 => by rw [← Er5, ← Edg]; exact rLine b y0 y1 y2 y3 y4 r4 ⟨#[68, 105, 97, 103, 110, 111, 115, 116, 105, 99, 45, 67, 111, 100, 101, 58, 32, 115, 109, 116, 112, 59, 32]⟩ ⟨#[]⟩ wx h2 h1 l4
  clear Er1 Er2 Er3 Er4 Er5 Edg Erc Est hE h l1 l2 l3 l4
  go_enter Tryz.func51, Tryz.ntmps51
  go_wp2_with fail
  generalize hV : w.alloc _ = V0
  have b0 : Below w.heap.size w V0 := by rw [← hV]; exact below1 _ _
  have P0 : Hid (Blk w.heap.size #[.string ⟨#[]⟩, .string ⟨#[]⟩, .int .i64 0, .string ⟨#[]⟩] V0) := by show Blk _ _ _; rw [← hV]; exact Blk.new _ _ _
  have O0 : Hid (Off b w V0) := Off.of_below b0
  have B0 : Hid (Blk b (rdC y0 y1 y2 y3 y4 r) V0) := HB.out.below b0
  have npb : w.heap.size ≠ b := by omega
  clear hV b0
  refine (HS1.out _ B0.out (fun wy hy => (HE.out _ (O0.out.trans hy)).len)).mono ?_
  rintro e w1 ⟨rfl, h1, o1⟩
  have B1 : Hid (Blk b (rdC y0 y1 y2 y3 y4 r1) w1) := h1
  have O1 : Hid (Off b w w1) := O0.out.trans o1
  have P1 : Hid (Blk w.heap.size #[.string ⟨#[]⟩, .string ⟨#[]⟩, .int .i64 0, .string ⟨#[]⟩] w1) := P0.out.offB o1 npb
  clear h1 o1
  go_wp2_with fail
  refine (HL1.out _ B1.out (HE.out _ O1.out).len).mono ?_
  rintro e w2 ⟨rfl, h2, o2⟩
  have B2 : Hid (Blk b (rdC y0 y1 y2 y3 y4 r2) w2) := h2
  have O2 : Hid (Off b w w2) := O1.out.trans o2
  have P2 : Hid (Blk w.heap.size #[.string ⟨#[]⟩, .string ⟨#[]⟩, .int .i64 0, .string ⟨#[]⟩] w2) := P1.out.offB o2 npb
  clear h2 o2
  go_wp2_with fail
  generalize hV : w2.alloc _ = V2
  obtain ⟨q, hq⟩ : ∃ q, q = w2.heap.size := ⟨_, rfl⟩
  have Q2 : Hid (Blk q #[.string rc, .string ⟨#[]⟩, .int .i64 0, .string ⟨#[]⟩] V2) := by show Blk _ _ _; rw [← hV, hq]; exact Blk.new _ _ _
  have b2 : Below w2.heap.size w2 V2 := by rw [← hV]; exact below1 _ _
  have nqw : w.heap.size ≤ q := by rw [hq]; exact O2.out.size
  have npq : w.heap.size < q := by rw [hq]; exact P2.out.lt
  have nqb : q ≠ b := by omega
  rw [← hq]
  have OV : Hid (Off b w V2) := O2.out.trans (Off.of_below b2)
  have BV : Hid (Blk b (rdC y0 y1 y2 y3 y4 r2) V2) := B2.out.below b2
  have PV : Hid (Blk w.heap.size #[.string ⟨#[]⟩, .string ⟨#[]⟩, .int .i64 0, .string ⟨#[]⟩] V2) := P2.out.below b2
  clear hV hq b2
  refine (HS2.out _ BV.out (fun wy hy => (HE.out _ (OV.out.trans hy)).len)).mono ?_
  rintro e w3 ⟨rfl, h3, o3⟩
  have B3 : Hid (Blk b (rdC y0 y1 y2 y3 y4 r3) w3) := h3
  have O3 : Hid (Off b w w3) := OV.out.trans o3
  have P3 : Hid (Blk w.heap.size #[.string ⟨#[]⟩, .string ⟨#[]⟩, .int .i64 0, .string ⟨#[]⟩] w3) := PV.out.offB o3 npb
  have Q3 : Hid (Blk q #[.string rc, .string ⟨#[]⟩, .int .i64 0, .string ⟨#[]⟩] w3) := Q2.out.offB o3 nqb
  clear h3 o3
  go_wp2_with fail
  refine (HL2.out _ B3.out (HE.out _ O3.out).len).mono ?_
  rintro e w4 ⟨rfl, h4, o4⟩
  have B4 : Hid (Blk b (rdC y0 y1 y2 y3 y4 r4) w4) := h4
  have O4 : Hid (Off b w w4) := O3.out.trans o4
  have P4 : Hid (Blk w.heap.size #[.string ⟨#[]⟩, .string ⟨#[]⟩, .int .i64 0, .string ⟨#[]⟩] w4) := P3.out.offB o4 npb
  have Q4 : Hid (Blk q #[.string rc, .string ⟨#[]⟩, .int .i64 0, .string ⟨#[]⟩] w4) := Q3.out.offB o4 nqb
  have c1 : w4.cell? ⟨q, 1, none⟩ = some (.string ⟨#[]⟩) := Q4.out.cell 1
  have f1 := Q4.out.free 1
  clear h4 o4
  go_wp2_with fail
  generalize hV : w4.setCell _ _ = V4
  have Q5 : Hid (Blk q #[.string rc, .string st, .int .i64 0, .string ⟨#[]⟩] V4) := by show Blk _ _ _; rw [← hV]; exact Q4.out.set (i := 1) (by simp)
  have P5 : Hid (Blk w.heap.size #[.string ⟨#[]⟩, .string ⟨#[]⟩, .int .i64 0, .string ⟨#[]⟩] V4) := by show Blk _ _ _; rw [← hV]; exact P4.out.other (by omega)
  have B5 : Hid (Blk b (rdC y0 y1 y2 y3 y4 r4) V4) := by show Blk _ _ _; rw [← hV]; exact B4.out.other (by omega)
  have O5 : Hid (Off b w V4) := by show Off _ _ _; rw [← hV]; exact O4.out.setHi nqw
  clear hV c1 f1
  refine (HL3.out _ B5.out (HE.out _ O5.out).len).mono ?_
  rintro e w6 ⟨rfl, h6, o6⟩
  have B6 : Hid (Blk b (rdC y0 y1 y2 y3 y4 r5) w6) := h6
  have O6 : Hid (Off b w w6) := O5.out.trans o6
  have P6 : Hid (Blk w.heap.size #[.string ⟨#[]⟩, .string ⟨#[]⟩, .int .i64 0, .string ⟨#[]⟩] w6) := P5.out.offB o6 npb
  have Q6 : Hid (Blk q #[.string rc, .string st, .int .i64 0, .string ⟨#[]⟩] w6) := Q5.out.offB o6 nqb
  clear h6 o6
  go_wp2_with fail
  refine (implCut dg ⟨#[32]⟩ _ (HE.out _ O6.out).len ldg).mono ?_
  rintro e w7 ⟨cA, cR, cf, n, rfl, hw7, HC, hcA, hcR⟩
  have EA : Hid (mk (Lib.cut dg.data.toList [32]).1 = cA) := HC.out.1
  have ER : Hid (mk (Lib.cut dg.data.toList [32]).2.1 = cR) := HC.out.2.1
  have O7 : Hid (Off b w w7) := by show Off _ _ _; rw [hw7]; exact O6.out.drewN n
  have P7 : Hid (Blk w.heap.size #[.string ⟨#[]⟩, .string ⟨#[]⟩, .int .i64 0, .string ⟨#[]⟩] w7) := by show Blk _ _ _; rw [hw7]; exact P6.out.drewR n
  have Q7 : Hid (Blk q #[.string rc, .string st, .int .i64 0, .string ⟨#[]⟩] w7) := by show Blk _ _ _; rw [hw7]; exact Q6.out.drewR n
  have B7 : Hid (Blk b (rdC y0 y1 y2 y3 y4 r5) w7) := by show Blk _ _ _; rw [hw7]; exact B6.out.drewR n
  clear hw7 HC
  go_wp2_with fail
  refine (implAtoi cA _ (HE.out _ O7.out) (by omega)).mono ?_
  rintro e w8 ⟨⟨ev, rfl⟩, hb8⟩
  have O8 : Hid (Off b w w8) := O7.out.trans (Off.of_below hb8)
  have P8 : Hid (Blk w.heap.size #[.string ⟨#[]⟩, .string ⟨#[]⟩, .int .i64 0, .string ⟨#[]⟩] w8) := P7.out.below hb8
  have Q8 : Hid (Blk q #[.string rc, .string st, .int .i64 0, .string ⟨#[]⟩] w8) := Q7.out.below hb8
  have B8 : Hid (Blk b (rdC y0 y1 y2 y3 y4 r5) w8) := B7.out.below hb8
  have HAE : Hid (atoiV (Lib.cut dg.data.toList [32]).1 = atoiV cA.data.toList) := by show _ = _; rw [← EA.out]; rfl
  generalize atoiV cA.data.toList = cd at *
  have x0 : w8.cell? ⟨q, 0, none⟩ = some (.string rc) := Q8.out.cell 0
  have x1 : w8.cell? ⟨q, 1, none⟩ = some (.string st) := Q8.out.cell 1
  have x2 : w8.cell? ⟨q, 2, none⟩ = some (.int .i64 0) := Q8.out.cell 2
  have x3 : w8.cell? ⟨q, 3, none⟩ = some (.string ⟨#[]⟩) := Q8.out.cell 3
  have g0 := Q8.out.free 0
  have g1 := Q8.out.free 1
  have g2 := Q8.out.free 2
  have g3 := Q8.out.free 3
  have p0 : w8.cell? ⟨w.heap.size, 0, none⟩ = some (.string ⟨#[]⟩) := P8.out.cell 0
  have p1 : w8.cell? ⟨w.heap.size, 1, none⟩ = some (.string ⟨#[]⟩) := P8.out.cell 1
  have p2 : w8.cell? ⟨w.heap.size, 2, none⟩ = some (.int .i64 0) := P8.out.cell 2
  have p3 : w8.cell? ⟨w.heap.size, 3, none⟩ = some (.string ⟨#[]⟩) := P8.out.cell 3
  have t0 := P8.out.free 0
  have t1 := P8.out.free 1
  have t2 := P8.out.free 2
  have t3 := P8.out.free 3
  have d1 : ¬ w.heap.size = q := by omega
  have d2 : ¬ q = w.heap.size := by omega
  clear hb8
  go_wp2
  generalize hF : (((((w8.setCell ⟨q, 2, none⟩ (.int .i64 cd)).setCell ⟨q, 3, none⟩ (.string cR)).setCell ⟨w.heap.size, 0, none⟩ (.string rc)).setCell ⟨w.heap.size, 1, none⟩ (.string st)).setCell ⟨w.heap.size, 2, none⟩ (.int .i64 cd)).setCell ⟨w.heap.size, 3, none⟩ (.string cR) = Wf
  have PF : Blk w.heap.size #[.string rc, .string st, .int .i64 cd, .string cR] Wf := by
    rw [← hF]
    exact (((((P8.out.other d1).other d1).set (i := 0) (by simp)).set (i := 1) (by simp)).set (i := 2) (by simp)).set (i := 3) (by simp)
  have BF : Blk b (rdC y0 y1 y2 y3 y4 r5) Wf := by
    rw [← hF]
    exact (((((B8.out.other (fun e => nqb e.symm)).other (fun e => nqb e.symm)).other (fun e => npb e.symm)).other (fun e => npb e.symm)).other (fun e => npb e.symm)).other (fun e => npb e.symm)
  have OF : Off b w Wf := by
    rw [← hF]
    exact (((((O8.out.setHi nqw).setHi nqw).setHi (Nat.le_refl _)).setHi (Nat.le_refl _)).setHi (Nat.le_refl _)).setHi (Nat.le_refl _)
  clear hF
  have r0 : Wf.cell? ⟨w.heap.size, 0, none⟩ = some (.string rc) := PF.cell 0
  have r1' : Wf.cell? ⟨w.heap.size, 1, none⟩ = some (.string st) := PF.cell 1
  have r2' : Wf.cell? ⟨w.heap.size, 2, none⟩ = some (.int .i64 cd) := PF.cell 2
  have r3' : Wf.cell? ⟨w.heap.size, 3, none⟩ = some (.string cR) := PF.cell 3
  refine bodyPost_ret (v := .agg #[.string rc, .string st, .int .i64 cd, .string cR]) (by simp [results, Tryz.results51, go_sem, r0, r1', r2', r3']) rfl ⟨?_, ?_, OF⟩
  · rw [HFE.out, HAE.out, ER.out]
    rfl
  · rw [HFE.out]
    exact BF
end Go.Proofs.YtlolnfpfipnfeaaGreatDoor
namespace Go.Proofs.YtlolnfpfipnfeaaGreatDoor
open Go.ChangeShapes Go.WideShapes Go.ChangeAt Go.RowKit
open Pcs

theorem strNe {a b : ByteArray} (h : a ≠ b) : (a.toList == b.toList) = false := by
  rw [beq_eq_false_iff_ne, Lib.toList_data, Lib.toList_data]
  intro e; exact h (by rw [← mk_data a, ← mk_data b, e])
theorem strNeL {a : ByteArray} {l : List UInt8} (h : a ≠ ⟨l.toArray⟩) : (a.toList == l) = false := by
  rw [beq_eq_false_iff_ne, Lib.toList_data]
  intro e
  exact h (by rw [← e])
theorem three_of {P : List ByteArray} (h : P.length = 3) : ∃ a b c, P = [a, b, c] := by
  rcases P with _ | ⟨a, _ | ⟨b, _ | ⟨c, _ | ⟨d, P⟩⟩⟩⟩
  · simp at h
  · simp at h
  · simp at h
  · exact ⟨a, b, c, rfl⟩
  · simp at h
theorem statP_ne {P : List ByteArray} (h : P.length ≠ 3) : statP P = false := by
  unfold statP
  split
  · simp at h
  · rfl
theorem statP_no {a b c : ByteArray} (h4 : a ≠ ⟨#[52]⟩) (h5 : a ≠ ⟨#[53]⟩) : statP [a, b, c] = false := by
  simp [statP, h4, h5]
theorem statP_yes {a b c : ByteArray} (h : a = ⟨#[52]⟩ ∨ a = ⟨#[53]⟩) : statP [a, b, c] = (dig3 b && dig3 c) := by
  rcases h with rfl | rfl
  · simp [statP]
  · simp [statP]

set_option maxHeartbeats 2000000 in
set_option maxRecDepth 100000 in
theorem specStatus (s : ByteArray) (w : World) (hs : s.size ≤ 1048576) :
    Calls Tryz.prog 44 #[.string s] w fun e w' => e = .returned (.bool (statOk s)) ∧ Below w.heap.size w w' := by
  have HP : Hid (statOk s = statP (pieces ⟨#[46]⟩ s)) := rfl
  generalize statOk s = R at *
  go_enter Tryz.func44, Tryz.ntmps44
  go_wp2_with fail
  refine (specSplit s _ _ hs (by decide) (by decide)).mono ?_
  rintro e w1 ⟨⟨v, rfl, S1⟩, hb1⟩
  obtain ⟨g, cap, rfl, A1⟩ := strs_ne S1 (pieces_ne _ _)
  clear S1
  have hz : ∀ x ∈ pieces ⟨#[46]⟩ s, x.size ≤ 1048576 := fun x hx => Nat.le_trans (pieces_size hx) hs
  have hpl := pieces_len ⟨#[46]⟩ s
  generalize pieces ⟨#[46]⟩ s = P at *
  by_cases h3 : P.length = 3
  · obtain ⟨a, b, c, rfl⟩ := three_of h3
    have hb' := hz b (by simp)
    have hc' := hz c (by simp)
    have c0 := A1.cell 0 (by simp)
    have c1 := A1.cell 1 (by simp)
    have c2 := A1.cell 2 (by simp)
    simp only [List.getElem_cons_zero, List.getElem_cons_succ] at c0 c1 c2
    have hcap := A1.len
    simp only [List.length_cons, List.length_nil] at hcap ⊢
    clear A1 hz hpl h3
    by_cases h4 : a = ⟨#[52]⟩
    · have E : Hid (R = (dig3 b && dig3 c)) := by show _ = _; rw [HP.out, statP_yes (.inl h4)]
      clear HP
      subst h4
      cases hd : dig3 b
      · have HB3 : Hid (∀ wx : World, Calls Tryz.prog 25 #[.string b, .int .i64 3] wx fun e w' => e = .returned (.tuple #[.int .i64 (num3V b : Int), .bool false]) ∧ w' = wx) := fun wx => by have := specNum3 b wx hb'; rw [hd] at this; exact this
        have HC3 : Hid (∀ wx : World, Calls Tryz.prog 25 #[.string c, .int .i64 3] wx fun e w' => e = .returned (.tuple #[.int .i64 (num3V c : Int), .bool (dig3 c)]) ∧ w' = wx) := fun wx => specNum3 c wx hc'
        rw [hd] at E
        go_wp2_with fail
        refine (HB3.out _).mono ?_
        rintro e w2 ⟨rfl, rfl⟩
        go_wp2_with fail
        refine (HC3.out _).mono ?_
        rintro e w2 ⟨rfl, rfl⟩
        go_wp2
        go_ret
        exact ⟨ret_bool (by rw [E.out]; rfl), hb1⟩
      · have HB3 : Hid (∀ wx : World, Calls Tryz.prog 25 #[.string b, .int .i64 3] wx fun e w' => e = .returned (.tuple #[.int .i64 (num3V b : Int), .bool true]) ∧ w' = wx) := fun wx => by have := specNum3 b wx hb'; rw [hd] at this; exact this
        have HC3 : Hid (∀ wx : World, Calls Tryz.prog 25 #[.string c, .int .i64 3] wx fun e w' => e = .returned (.tuple #[.int .i64 (num3V c : Int), .bool (dig3 c)]) ∧ w' = wx) := fun wx => specNum3 c wx hc'
        rw [hd] at E
        go_wp2_with fail
        refine (HB3.out _).mono ?_
        rintro e w2 ⟨rfl, rfl⟩
        go_wp2_with fail
        refine (HC3.out _).mono ?_
        rintro e w2 ⟨rfl, rfl⟩
        go_wp2
        go_ret
        exact ⟨ret_bool (by rw [E.out]; rfl), hb1⟩
    · by_cases h5 : a = ⟨#[53]⟩
      · have E : Hid (R = (dig3 b && dig3 c)) := by show _ = _; rw [HP.out, statP_yes (.inr h5)]
        clear HP
        subst h5
        clear h4
        cases hd : dig3 b
        · have HB3 : Hid (∀ wx : World, Calls Tryz.prog 25 #[.string b, .int .i64 3] wx fun e w' => e = .returned (.tuple #[.int .i64 (num3V b : Int), .bool false]) ∧ w' = wx) := fun wx => by have := specNum3 b wx hb'; rw [hd] at this; exact this
          have HC3 : Hid (∀ wx : World, Calls Tryz.prog 25 #[.string c, .int .i64 3] wx fun e w' => e = .returned (.tuple #[.int .i64 (num3V c : Int), .bool (dig3 c)]) ∧ w' = wx) := fun wx => specNum3 c wx hc'
          rw [hd] at E
          go_wp2_with fail
          refine (HB3.out _).mono ?_
          rintro e w2 ⟨rfl, rfl⟩
          go_wp2_with fail
          refine (HC3.out _).mono ?_
          rintro e w2 ⟨rfl, rfl⟩
          go_wp2
          go_ret
          exact ⟨ret_bool (by rw [E.out]; rfl), hb1⟩
        · have HB3 : Hid (∀ wx : World, Calls Tryz.prog 25 #[.string b, .int .i64 3] wx fun e w' => e = .returned (.tuple #[.int .i64 (num3V b : Int), .bool true]) ∧ w' = wx) := fun wx => by have := specNum3 b wx hb'; rw [hd] at this; exact this
          have HC3 : Hid (∀ wx : World, Calls Tryz.prog 25 #[.string c, .int .i64 3] wx fun e w' => e = .returned (.tuple #[.int .i64 (num3V c : Int), .bool (dig3 c)]) ∧ w' = wx) := fun wx => specNum3 c wx hc'
          rw [hd] at E
          go_wp2_with fail
          refine (HB3.out _).mono ?_
          rintro e w2 ⟨rfl, rfl⟩
          go_wp2_with fail
          refine (HC3.out _).mono ?_
          rintro e w2 ⟨rfl, rfl⟩
          go_wp2
          go_ret
          exact ⟨ret_bool (by rw [E.out]; rfl), hb1⟩
      · have E : Hid (R = false) := by show _ = _; rw [HP.out, statP_no h4 h5]
        have n4 := strNeL (l := [52]) h4
        have n5 := strNeL (l := [53]) h5
        go_wp2
        go_ret
        exact ⟨ret_bool (by rw [E.out]), hb1⟩
  · have E : Hid (R = false) := by show _ = _; rw [HP.out, statP_ne h3]
    have h3i : ((P.length : Int) == 3) = false := by rw [beq_eq_false_iff_ne]; omega
    go_wp2
    go_ret
    exact ⟨ret_bool (by rw [E.out]), hb1⟩
end Go.Proofs.YtlolnfpfipnfeaaGreatDoor
