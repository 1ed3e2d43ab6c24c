import Derived.Test.YtlolnfpfipnfeaaGreatDoorMg36
import Derived.Lib.SmallJoins
import Derived.Test.YtlolnfpfipnfeaaGreatDoorMg37
import Derived.Test.YtlolnfpfipnfeaaGreatDoorMg39
namespace Go.Proofs.YtlolnfpfipnfeaaGreatDoor
open Go.ChangeShapes Go.WideShapes Go.ChangeAt Go.RowKit
open Pcs

theorem row_setB {w : World} {lo T k g n cap i : Nat} {L : List Value} (h : w.ownsRow lo T k (.slice (some ⟨g, 0, none⟩) n cap) n L) (x : Value) :
    (w.setCell ⟨g, i, none⟩ x).ownsRow lo T k (.slice (some ⟨g, 0, none⟩) n cap) n (L.set i x) := by
  refine ⟨by simpa using h.1, ?_⟩
  rcases h.2 with ⟨hv, _⟩ | ⟨g', cap', cur, hv, hl, hg, hn, hc, hs, ht⟩
  · cases hv
  · injection hv with h1 h2 h3
    injection h1 with h1
    injection h1 with h1
    subst h1 h3
    refine .inr ⟨g, cap, cur.setIfInBounds i x, rfl, hl, Go.Joins.block_setCell hg _, hn, hc, by simpa using hs, ?_⟩
    rw [← ht]
    simp [List.take_set]
/-- the first failure is changed -/
theorem fls_set0 {w : World} {lo g n cap : Nat} {f f1 : Fl} {L : List Fl} (h : Fls w lo (.slice (some ⟨g, 0, none⟩) n cap) (f :: L)) :
    Fls ((((w.setCell ⟨g, 0, none⟩ (.string f1.rc)).setCell ⟨g, 1, none⟩ (.string f1.st)).setCell ⟨g, 2, none⟩ (.int .i64 f1.cd)).setCell ⟨g, 3, none⟩ (.string f1.tx)) lo (.slice (some ⟨g, 0, none⟩) n cap) (f1 :: L) := by
  have hn := h.at.2
  unfold Fls at h ⊢
  rw [← hn] at h
  have := row_setB (i := 3) (row_setB (i := 2) (row_setB (i := 1) (row_setB (i := 0) h (.string f1.rc)) (.string f1.st)) (.int .i64 f1.cd)) (.string f1.tx)
  have e : (f1 :: L).length = n := hn.symm
  rw [e]
  exact this
theorem off_set4 {w : World} {g N : Nat} {x0 x1 x2 x3 : Value} (hN : N ≤ g) : Off g w ((((w.setCell ⟨g, 0, none⟩ x0).setCell ⟨g, 1, none⟩ x1).setCell ⟨g, 2, none⟩ x2).setCell ⟨g, 3, none⟩ x3) ∧ Below N w ((((w.setCell ⟨g, 0, none⟩ x0).setCell ⟨g, 1, none⟩ x1).setCell ⟨g, 2, none⟩ x2).setCell ⟨g, 3, none⟩ x3) :=
  ⟨((((Off.refl g w).setCell _).setCell _).setCell _).setCell _,
   (((((Below.refl N w).setCell (p := ⟨g, 0, none⟩) hN _).setCell (p := ⟨g, 1, none⟩) hN _).setCell (p := ⟨g, 2, none⟩) hN _).setCell (p := ⟨g, 3, none⟩) hN _)⟩
theorem blk_set4 {w : World} {b : Nat} {a0 a1 a2 a3 x0 x1 x2 x3 : Value} (h : Blk b #[a0, a1, a2, a3] w) : Blk b #[x0, x1, x2, x3] ((((w.setCell ⟨b, 0, none⟩ x0).setCell ⟨b, 1, none⟩ x1).setCell ⟨b, 2, none⟩ x2).setCell ⟨b, 3, none⟩ x3) :=
  (((h.set (i := 0) (by simp)).set (i := 1) (by simp)).set (i := 2) (by simp)).set (i := 3) (by simp)
def rowN (q : Nat) (w : World) : Nat := match w.cell? ⟨q, 2, none⟩ with
  | some (.slice _ n _) => n
  | _ => 0
theorem rowN_eq {q : Nat} {X : Array Value} {w : World} {a : Option Addr} {n c : Nat} (h : Blk q X w) (h2 : X[2]? = some (.slice a n c)) : rowN q w = n := by
  unfold rowN
  rw [h.cell 2, h2]
end Go.Proofs.YtlolnfpfipnfeaaGreatDoor
namespace Go.Proofs.YtlolnfpfipnfeaaGreatDoor
open Go.ChangeShapes Go.WideShapes Go.ChangeAt Go.RowKit
open Pcs

set_option maxHeartbeats 4000000 in
set_option maxRecDepth 100000 in
theorem drawMake (cv : Value) (B : List UInt8) (w : World) (hC : CodeAt w cv B) :
    Calls Tryz.prog 4 #[cv] w fun e w' => (∃ fv, e = .returned (bnV (mkbF B) fv) ∧ Fls w' w.heap.size fv (mkbF B).fs) ∧ Below w.heap.size w w' := by
  obtain ⟨ca, cc, hcv⟩ := hC.form
  have HCo : Hid (CodeAt w cv B) := hC
  subst hcv
  clear hC
  obtain ⟨i0, hi, hy0, hy1, hy2⟩ := info_parts infoFl
  go_enter Tryz.func4, Tryz.ntmps4
  go_wp2_with fail
  generalize hW : World.alloc (World.alloc w _) _ = W
  have bW : Below w.heap.size w W := by rw [← hW]; exact below2 _ _ _
  have P0 : Hid (Blk w.heap.size #[.string ⟨#[]⟩, .string ⟨#[]⟩, .slice none 0 0, .string ⟨#[]⟩] W) := by show Blk _ _ _; rw [← hW]; exact (Blk.new _ _ _).below (below1 _ _)
  have H0 : Hid (RdAt W (w.heap.size + 1) (.slice ca B.length cc) B 0) := by
    show RdAt _ _ _ _ _
    rw [← hW]
    have := rd_new (w.alloc (.cells #[.string ⟨#[]⟩, .string ⟨#[]⟩, .slice none 0 0, .string ⟨#[]⟩] 25)) _ B (HCo.out.below (below1 _ _))
    simpa using this
  clear hW
  refine (rdNext _ 0 _ B W H0.out).mono ?_
  rintro e w1 ⟨rfl, h1, ho1⟩
  have hc := nx_lt B 0
  obtain ⟨c, hcE⟩ : ∃ c, nx B 0 = c := ⟨_, rfl⟩
  obtain ⟨q1, hqE⟩ : ∃ q1, px B 0 = q1 := ⟨_, rfl⟩
  rw [hcE] at hc ⊢
  rw [hqE] at h1
  have zW : w.heap.size + 1 < W.heap.size := H0.out.2.2.2.1
  have H1 : Hid (RdAt w1 (w.heap.size + 1) (.slice ca B.length cc) B q1) := h1
  have b1 : Below w.heap.size w w1 := bW.trans (ho1.belowAt (by omega) bW.size)
  have P1 : Hid (Blk w.heap.size #[.string ⟨#[]⟩, .string ⟨#[]⟩, .slice none 0 0, .string ⟨#[]⟩] w1) := P0.out.offB ho1 (by omega)
  have z1 := ho1.size
  clear h1 ho1 H0 P0 bW
  go_wp2_with fail
  refine (rdBounceX _ q1 _ B w1 H1.out (by omega)).mono ?_
  rintro e w2 ⟨⟨fv, rfl, hF⟩, h2, ho2⟩
  have HY := bncF_small B q1
  obtain ⟨⟨⟨he, tw, fs, hd⟩, pz⟩, hX⟩ : ∃ X, bncF B q1 = X := ⟨_, rfl⟩
  have HMK : Hid (mkbF B = spoC c ⟨he, tw, fs, hd⟩) := by show _ = _; unfold mkbF; rw [hcE, hqE, hX]
  rw [hX] at hF HY
  simp only [hX]
  dsimp only at hF
  obtain ⟨f, L, rfl⟩ : ∃ f L, fs = f :: L := by
    cases fs with
    | nil => exact absurd rfl HY.ne
    | cons f L => exact ⟨f, L, rfl⟩
  have hL4 : L.length + 1 ≤ 4 := HY.le
  have zhd : hd.size ≤ 4050 := HY.hd
  obtain ⟨g, cp, rfl, hA⟩ : ∃ g cap, fv = .slice (some ⟨g, 0, none⟩) (L.length + 1) cap ∧ FlsAt w2 w1.heap.size g cap (f :: L) := by
    rcases hF.cases with ⟨_, h⟩ | ⟨g, cap, hv, ha⟩
    · cases h
    · exact ⟨g, cap, hv, ha⟩
  have lg := hA.lo
  have lg2 := hA.lt
  obtain ⟨n, hn⟩ : ∃ n, L.length + 1 = n := ⟨_, rfl⟩
  have HN : Hid (L.length + 1 = n) := hn
  have hn0 : 0 < n := by omega
  have hn4 : n ≤ 4 := by omega
  rw [hn] at hF ⊢
  have F2 : Hid (Fls w2 w1.heap.size (.slice (some ⟨g, 0, none⟩) n cp) (f :: L)) := hF
  have b2 : Below w.heap.size w w2 := b1.trans (ho2.belowAt (by omega) b1.size)
  have P2 : Hid (Blk w.heap.size #[.string ⟨#[]⟩, .string ⟨#[]⟩, .slice none 0 0, .string ⟨#[]⟩] w2) := P1.out.offB ho2 (by omega)
  have z2 := ho2.size
  unfold bnV
  dsimp only
  clear h2 ho2 H1 P1 hF hX hA HY hn hcE hqE hL4
  go_upto_region 4 with fail
  generalize hV : w2.alloc _ = V
  obtain ⟨q, hq⟩ : ∃ q, q = w2.heap.size := ⟨_, rfl⟩
  have bV : Below w2.heap.size w2 V := by rw [← hV]; exact below1 _ _
  have Q3 : Hid (Blk q #[.string he, .string tw, (.slice (some ⟨g, 0, none⟩) n cp), .string hd] V) := by show Blk _ _ _; rw [← hV, hq]; exact Blk.new _ _ _
  rw [← hq] at lg2 z2 ⊢
  have F3 : Hid (Fls V w1.heap.size (.slice (some ⟨g, 0, none⟩) n cp) (f :: L)) := fls_below F2.out bV (Nat.le_refl _)
  have P3 : Hid (Blk w.heap.size #[.string ⟨#[]⟩, .string ⟨#[]⟩, .slice none 0 0, .string ⟨#[]⟩] V) := P2.out.below bV
  have B3 : Hid (Below w.heap.size w V) := b2.trans (bV.mono (by omega))
  clear hV bV hq F2 P2 b1 b2
  have lqP : w.heap.size < q := by omega
  have lgP : w.heap.size < g := by omega
  have w1z : w.heap.size ≤ w1.heap.size := by omega
  have x0 : V.cell? ⟨q, 0, none⟩ = some (.string he) := Q3.out.cell 0
  have x1 : V.cell? ⟨q, 1, none⟩ = some (.string tw) := Q3.out.cell 1
  have x2 : V.cell? ⟨q, 2, none⟩ = some (.slice (some ⟨g, 0, none⟩) n cp) := Q3.out.cell 2
  have x3 : V.cell? ⟨q, 3, none⟩ = some (.string hd) := Q3.out.cell 3
  obtain ⟨m, hmE, hm, lm⟩ : ∃ m : Nat, c % 5 = m ∧ (c : Int) % 5 = (m : Int) ∧ m < 5 := ⟨c % 5, rfl, by omega, by omega⟩
  by_cases hm4 : m = 4
  · subst hm4
    have HSP : Hid (mkbF B = spoB (c / 5 % 10) (c / 50) ⟨he, tw, f :: L, hd⟩ f L) := by show _ = _; rw [HMK.out]; exact spoC_yes hmE rfl
    have hm' : (c : Int) % 5 = 4 := by omega
    clear hm hmE HMK
    have hA := F3.out.at.1
    have y0 := (hA.cell 0 (by simp)).1
    have y1 := (hA.cell 0 (by simp)).2.1
    have y2 := (hA.cell 0 (by simp)).2.2.1
    have y3 := (hA.cell 0 (by simp)).2.2.2
    simp only [Nat.zero_mul, Nat.zero_add, List.getElem_cons_zero] at y0 y1 y2 y3
    clear hA
    go_upto_region 7 with fail
    generalize hV : V.alloc _ = V3
    obtain ⟨fb, hfb⟩ : ∃ fb, fb = V.heap.size := ⟨_, rfl⟩
    have bV : Below V.heap.size V V3 := by rw [← hV]; exact below1 _ _
    have N4 : Hid (Blk fb #[.string f.rc, .string f.st, .int .i64 f.cd, .string f.tx] V3) := by show Blk _ _ _; rw [← hV, hfb]; exact Blk.new _ _ _
    have lqV := Q3.out.lt
    have lgV := (fls_own F3.out g rfl).2
    have lfq : q < fb := by omega
    have lfg : g < fb := by omega
    rw [← hfb]
    have F4 : Hid (Fls V3 w1.heap.size (.slice (some ⟨g, 0, none⟩) n cp) (f :: L)) := fls_below F3.out bV (Nat.le_refl _)
    have P4 : Hid (Blk w.heap.size #[.string ⟨#[]⟩, .string ⟨#[]⟩, .slice none 0 0, .string ⟨#[]⟩] V3) := P3.out.below bV
    have Q4 : Hid (Blk q #[.string he, .string tw, (.slice (some ⟨g, 0, none⟩) n cp), .string hd] V3) := Q3.out.below bV
    have B4 : Hid (Below w.heap.size w V3) := B3.out.trans (bV.mono B3.out.size)
    clear hV bV hfb lqV lgV F3 P3 Q3 B3 x0 x1 x2 x3 y0 y1 y2 y3
    obtain ⟨k5, ek5, hk5⟩ : ∃ k5 : Nat, c / 5 = k5 ∧ (c : Int) / 5 = (k5 : Int) := ⟨c / 5, rfl, by omega⟩
    obtain ⟨j, ej, hj⟩ : ∃ j : Nat, c / 50 = j ∧ (c : Int) / 50 = (j : Int) := ⟨c / 50, rfl, by omega⟩
    have hj5 : j ≤ 5 := by omega
    obtain ⟨k, ek, hk, lk⟩ : ∃ k : Nat, k5 % 10 = k ∧ (k5 : Int) % 10 = (k : Int) ∧ k < 10 := ⟨k5 % 10, rfl, by omega, by omega⟩
    have hjk : k = 3 → j < 5 := by omega
    rw [ek5, ek, ej] at HSP
    clear ek5 ek ej
    have kk : k = 0 ∨ k = 1 ∨ k = 2 ∨ k = 3 ∨ k = 4 ∨ k = 5 ∨ k = 6 ∨ k = 7 ∨ k = 8 ∨ k = 9 := by omega
    rcases kk with rfl | rfl | rfl | rfl | rfl | rfl | rfl | rfl | rfl | rfl
    · 
      have hk' : (k5 : Int) % 10 = 0 := hk
      clear hk
      have HR : Hid (mkbF B = ⟨⟨#[]⟩, tw, ⟨f.rc, f.st, f.cd, f.tx⟩ :: L, hd⟩) := HSP.out
      clear HSP
      have x0 : V3.cell? ⟨q, 0, none⟩ = some (.string he) := Q4.out.cell 0
      have u0 := Q4.out.free 0
      go_upto_region 28 with fail
      generalize hV : V3.setCell ⟨q, 0, none⟩ (.string ⟨#[]⟩) = V4
      have Qt : Hid (Blk q #[.string ⟨#[]⟩, .string tw, (.slice (some ⟨g, 0, none⟩) n cp), .string hd] V4) := by show Blk _ _ _; rw [← hV]; exact Q4.out.set (i := 0) (by simp)
      have Nt : Hid (Blk fb #[.string f.rc, .string f.st, .int .i64 f.cd, .string f.tx] V4) := by show Blk _ _ _; rw [← hV]; exact N4.out.other (by omega)
      have Pt : Hid (Blk w.heap.size #[.string ⟨#[]⟩, .string ⟨#[]⟩, .slice none 0 0, .string ⟨#[]⟩] V4) := by show Blk _ _ _; rw [← hV]; exact P4.out.other (by omega)
      have Ft : Hid (Fls V4 w1.heap.size (.slice (some ⟨g, 0, none⟩) n cp) (f :: L)) := by show Fls _ _ _ _; rw [← hV]; exact fls_setO F4.out (fun g' hg => by simp only [Value.ownBlock, Option.some.injEq] at hg; omega) _
      have Bt : Hid (Below w.heap.size w V4) := by show Below _ _ _; rw [← hV]; exact B4.out.setCell (p := ⟨q, 0, none⟩) (by show w.heap.size ≤ q; omega) _
      clear hV Q4 N4 P4 F4 B4
      clear x0 u0
      have hA := Ft.out.at.1
      have k2 : V4.cell? ⟨q, 2, none⟩ = some (.slice (some ⟨g, 0, none⟩) n cp) := Qt.out.cell 2
      have x0 : V4.cell? ⟨fb, 0, none⟩ = some (.string f.rc) := Nt.out.cell 0
      have x1 : V4.cell? ⟨fb, 1, none⟩ = some (.string f.st) := Nt.out.cell 1
      have x2 : V4.cell? ⟨fb, 2, none⟩ = some (.int .i64 f.cd) := Nt.out.cell 2
      have x3 : V4.cell? ⟨fb, 3, none⟩ = some (.string f.tx) := Nt.out.cell 3
      have y0 := (hA.cell 0 (by simp)).1
      have y1 := (hA.cell 0 (by simp)).2.1
      have y2 := (hA.cell 0 (by simp)).2.2.1
      have y3 := (hA.cell 0 (by simp)).2.2.2
      simp only [Nat.zero_mul, Nat.zero_add, List.getElem_cons_zero] at y0 y1 y2 y3
      have u0 := hA.free 0
      have u1 := hA.free 1
      have u2 := hA.free 2
      have u3 := hA.free 3
      clear hA
      go_upto_region 30 with fail
      generalize hV : ((((V4.setCell ⟨g, 0, none⟩ (.string f.rc)).setCell ⟨g, 1, none⟩ (.string f.st)).setCell ⟨g, 2, none⟩ (.int .i64 f.cd)).setCell ⟨g, 3, none⟩ (.string f.tx)) = V5
      obtain ⟨o5, b5⟩ : Off g V4 V5 ∧ Below w.heap.size V4 V5 := by rw [← hV]; exact off_set4 (by omega)
      have Ff : Hid (Fls V5 w1.heap.size (.slice (some ⟨g, 0, none⟩) n cp) (⟨f.rc, f.st, f.cd, f.tx⟩ :: L)) := by show Fls _ _ _ _; rw [← hV]; exact fls_set0 (f1 := ⟨f.rc, f.st, f.cd, f.tx⟩) Ft.out
      have Qf : Hid (Blk q #[.string ⟨#[]⟩, .string tw, (.slice (some ⟨g, 0, none⟩) n cp), .string hd] V5) := Qt.out.offB o5 (by omega)
      have Pf : Hid (Blk w.heap.size #[.string ⟨#[]⟩, .string ⟨#[]⟩, .slice none 0 0, .string ⟨#[]⟩] V5) := Pt.out.offB o5 (by omega)
      have Bf : Hid (Below w.heap.size w V5) := Bt.out.trans b5
      clear hV o5 b5 x0 x1 x2 x3 y0 y1 y2 y3 u0 u1 u2 u3 k2 Qt Nt Pt Ft Bt
      have x0 : V5.cell? ⟨q, 0, none⟩ = some (.string ⟨#[]⟩) := Qf.out.cell 0
      have x1 : V5.cell? ⟨q, 1, none⟩ = some (.string tw) := Qf.out.cell 1
      have x2 : V5.cell? ⟨q, 2, none⟩ = some (.slice (some ⟨g, 0, none⟩) n cp) := Qf.out.cell 2
      have x3 : V5.cell? ⟨q, 3, none⟩ = some (.string hd) := Qf.out.cell 3
      have p0 : V5.cell? ⟨w.heap.size, 0, none⟩ = some (.string ⟨#[]⟩) := Pf.out.cell 0
      have p1 : V5.cell? ⟨w.heap.size, 1, none⟩ = some (.string ⟨#[]⟩) := Pf.out.cell 1
      have p2 : V5.cell? ⟨w.heap.size, 2, none⟩ = some (.slice none 0 0) := Pf.out.cell 2
      have p3 : V5.cell? ⟨w.heap.size, 3, none⟩ = some (.string ⟨#[]⟩) := Pf.out.cell 3
      have t0 := Pf.out.free 0
      have t1 := Pf.out.free 1
      have t2 := Pf.out.free 2
      have t3 := Pf.out.free 3
      go_wp2
      generalize hV : (((V5.setCell ⟨w.heap.size, 0, none⟩ (.string ⟨#[]⟩)).setCell ⟨w.heap.size, 1, none⟩ (.string tw)).setCell ⟨w.heap.size, 2, none⟩ (.slice (some ⟨g, 0, none⟩) n cp)).setCell ⟨w.heap.size, 3, none⟩ (.string hd) = Wf
      have PF : Blk w.heap.size #[.string ⟨#[]⟩, .string tw, (.slice (some ⟨g, 0, none⟩) n cp), .string hd] Wf := by rw [← hV]; exact blk_set4 Pf.out
      obtain ⟨oF, bF⟩ : Off w.heap.size V5 Wf ∧ Below w.heap.size V5 Wf := by rw [← hV]; exact off_set4 (Nat.le_refl _)
      have FF : Fls Wf w1.heap.size (.slice (some ⟨g, 0, none⟩) n cp) (⟨f.rc, f.st, f.cd, f.tx⟩ :: L) := fls_off Ff.out oF (fun g hg => by have := (fls_own Ff.out g hg).1; omega)
      have OF : Below w.heap.size w Wf := Bf.out.trans bF
      clear hV oF bF
      have r0 : Wf.cell? ⟨w.heap.size, 0, none⟩ = some (.string ⟨#[]⟩) := PF.cell 0
      have r1 : Wf.cell? ⟨w.heap.size, 1, none⟩ = some (.string tw) := PF.cell 1
      have r2 : Wf.cell? ⟨w.heap.size, 2, none⟩ = some (.slice (some ⟨g, 0, none⟩) n cp) := PF.cell 2
      have r3 : Wf.cell? ⟨w.heap.size, 3, none⟩ = some (.string hd) := PF.cell 3
      refine bodyPost_ret (v := .agg #[.string ⟨#[]⟩, .string tw, (.slice (some ⟨g, 0, none⟩) n cp), .string hd]) (by simp [results, Tryz.results4, go_sem, r0, r1, r2, r3]) rfl ?_
      rw [HR.out]
      exact ⟨⟨_, rfl, fls_lo FF (by omega)⟩, OF⟩
    · 
      have hk' : (k5 : Int) % 10 = 1 := hk
      clear hk
      have HR : Hid (mkbF B = ⟨he, ⟨#[97, 110, 110]⟩, ⟨f.rc, f.st, f.cd, f.tx⟩ :: L, hd⟩) := HSP.out
      clear HSP
      have x1 : V3.cell? ⟨q, 1, none⟩ = some (.string tw) := Q4.out.cell 1
      have u1 := Q4.out.free 1
      go_upto_region 28 with fail
      generalize hV : V3.setCell ⟨q, 1, none⟩ (.string ⟨#[97, 110, 110]⟩) = V4
      have Qt : Hid (Blk q #[.string he, .string ⟨#[97, 110, 110]⟩, (.slice (some ⟨g, 0, none⟩) n cp), .string hd] V4) := by show Blk _ _ _; rw [← hV]; exact Q4.out.set (i := 1) (by simp)
      have Nt : Hid (Blk fb #[.string f.rc, .string f.st, .int .i64 f.cd, .string f.tx] V4) := by show Blk _ _ _; rw [← hV]; exact N4.out.other (by omega)
      have Pt : Hid (Blk w.heap.size #[.string ⟨#[]⟩, .string ⟨#[]⟩, .slice none 0 0, .string ⟨#[]⟩] V4) := by show Blk _ _ _; rw [← hV]; exact P4.out.other (by omega)
      have Ft : Hid (Fls V4 w1.heap.size (.slice (some ⟨g, 0, none⟩) n cp) (f :: L)) := by show Fls _ _ _ _; rw [← hV]; exact fls_setO F4.out (fun g' hg => by simp only [Value.ownBlock, Option.some.injEq] at hg; omega) _
      have Bt : Hid (Below w.heap.size w V4) := by show Below _ _ _; rw [← hV]; exact B4.out.setCell (p := ⟨q, 1, none⟩) (by show w.heap.size ≤ q; omega) _
      clear hV Q4 N4 P4 F4 B4
      clear x1 u1
      have hA := Ft.out.at.1
      have k2 : V4.cell? ⟨q, 2, none⟩ = some (.slice (some ⟨g, 0, none⟩) n cp) := Qt.out.cell 2
      have x0 : V4.cell? ⟨fb, 0, none⟩ = some (.string f.rc) := Nt.out.cell 0
      have x1 : V4.cell? ⟨fb, 1, none⟩ = some (.string f.st) := Nt.out.cell 1
      have x2 : V4.cell? ⟨fb, 2, none⟩ = some (.int .i64 f.cd) := Nt.out.cell 2
      have x3 : V4.cell? ⟨fb, 3, none⟩ = some (.string f.tx) := Nt.out.cell 3
      have y0 := (hA.cell 0 (by simp)).1
      have y1 := (hA.cell 0 (by simp)).2.1
      have y2 := (hA.cell 0 (by simp)).2.2.1
      have y3 := (hA.cell 0 (by simp)).2.2.2
      simp only [Nat.zero_mul, Nat.zero_add, List.getElem_cons_zero] at y0 y1 y2 y3
      have u0 := hA.free 0
      have u1 := hA.free 1
      have u2 := hA.free 2
      have u3 := hA.free 3
      clear hA
      go_upto_region 30 with fail
      generalize hV : ((((V4.setCell ⟨g, 0, none⟩ (.string f.rc)).setCell ⟨g, 1, none⟩ (.string f.st)).setCell ⟨g, 2, none⟩ (.int .i64 f.cd)).setCell ⟨g, 3, none⟩ (.string f.tx)) = V5
      obtain ⟨o5, b5⟩ : Off g V4 V5 ∧ Below w.heap.size V4 V5 := by rw [← hV]; exact off_set4 (by omega)
      have Ff : Hid (Fls V5 w1.heap.size (.slice (some ⟨g, 0, none⟩) n cp) (⟨f.rc, f.st, f.cd, f.tx⟩ :: L)) := by show Fls _ _ _ _; rw [← hV]; exact fls_set0 (f1 := ⟨f.rc, f.st, f.cd, f.tx⟩) Ft.out
      have Qf : Hid (Blk q #[.string he, .string ⟨#[97, 110, 110]⟩, (.slice (some ⟨g, 0, none⟩) n cp), .string hd] V5) := Qt.out.offB o5 (by omega)
      have Pf : Hid (Blk w.heap.size #[.string ⟨#[]⟩, .string ⟨#[]⟩, .slice none 0 0, .string ⟨#[]⟩] V5) := Pt.out.offB o5 (by omega)
      have Bf : Hid (Below w.heap.size w V5) := Bt.out.trans b5
      clear hV o5 b5 x0 x1 x2 x3 y0 y1 y2 y3 u0 u1 u2 u3 k2 Qt Nt Pt Ft Bt
      have x0 : V5.cell? ⟨q, 0, none⟩ = some (.string he) := Qf.out.cell 0
      have x1 : V5.cell? ⟨q, 1, none⟩ = some (.string ⟨#[97, 110, 110]⟩) := Qf.out.cell 1
      have x2 : V5.cell? ⟨q, 2, none⟩ = some (.slice (some ⟨g, 0, none⟩) n cp) := Qf.out.cell 2
      have x3 : V5.cell? ⟨q, 3, none⟩ = some (.string hd) := Qf.out.cell 3
      have p0 : V5.cell? ⟨w.heap.size, 0, none⟩ = some (.string ⟨#[]⟩) := Pf.out.cell 0
      have p1 : V5.cell? ⟨w.heap.size, 1, none⟩ = some (.string ⟨#[]⟩) := Pf.out.cell 1
      have p2 : V5.cell? ⟨w.heap.size, 2, none⟩ = some (.slice none 0 0) := Pf.out.cell 2
      have p3 : V5.cell? ⟨w.heap.size, 3, none⟩ = some (.string ⟨#[]⟩) := Pf.out.cell 3
      have t0 := Pf.out.free 0
      have t1 := Pf.out.free 1
      have t2 := Pf.out.free 2
      have t3 := Pf.out.free 3
      go_wp2
      generalize hV : (((V5.setCell ⟨w.heap.size, 0, none⟩ (.string he)).setCell ⟨w.heap.size, 1, none⟩ (.string ⟨#[97, 110, 110]⟩)).setCell ⟨w.heap.size, 2, none⟩ (.slice (some ⟨g, 0, none⟩) n cp)).setCell ⟨w.heap.size, 3, none⟩ (.string hd) = Wf
      have PF : Blk w.heap.size #[.string he, .string ⟨#[97, 110, 110]⟩, (.slice (some ⟨g, 0, none⟩) n cp), .string hd] Wf := by rw [← hV]; exact blk_set4 Pf.out
      obtain ⟨oF, bF⟩ : Off w.heap.size V5 Wf ∧ Below w.heap.size V5 Wf := by rw [← hV]; exact off_set4 (Nat.le_refl _)
      have FF : Fls Wf w1.heap.size (.slice (some ⟨g, 0, none⟩) n cp) (⟨f.rc, f.st, f.cd, f.tx⟩ :: L) := fls_off Ff.out oF (fun g hg => by have := (fls_own Ff.out g hg).1; omega)
      have OF : Below w.heap.size w Wf := Bf.out.trans bF
      clear hV oF bF
      have r0 : Wf.cell? ⟨w.heap.size, 0, none⟩ = some (.string he) := PF.cell 0
      have r1 : Wf.cell? ⟨w.heap.size, 1, none⟩ = some (.string ⟨#[97, 110, 110]⟩) := PF.cell 1
      have r2 : Wf.cell? ⟨w.heap.size, 2, none⟩ = some (.slice (some ⟨g, 0, none⟩) n cp) := PF.cell 2
      have r3 : Wf.cell? ⟨w.heap.size, 3, none⟩ = some (.string hd) := PF.cell 3
      refine bodyPost_ret (v := .agg #[.string he, .string ⟨#[97, 110, 110]⟩, (.slice (some ⟨g, 0, none⟩) n cp), .string hd]) (by simp [results, Tryz.results4, go_sem, r0, r1, r2, r3]) rfl ?_
      rw [HR.out]
      exact ⟨⟨_, rfl, fls_lo FF (by omega)⟩, OF⟩
    · 
      have hk' : (k5 : Int) % 10 = 2 := hk
      clear hk
      have HR : Hid (mkbF B = ⟨he, tw, [], hd⟩) := HSP.out
      clear HSP
      have x2 : V3.cell? ⟨q, 2, none⟩ = some (.slice (some ⟨g, 0, none⟩) n cp) := Q4.out.cell 2
      have u2 := Q4.out.free 2
      go_upto_region 28 with fail
      generalize hV : V3.setCell ⟨q, 2, none⟩ (.slice none 0 0) = V4
      have Qt : Hid (Blk q #[.string he, .string tw, (.slice none 0 0), .string hd] V4) := by show Blk _ _ _; rw [← hV]; exact Q4.out.set (i := 2) (by simp)
      have Nt : Hid (Blk fb #[.string f.rc, .string f.st, .int .i64 f.cd, .string f.tx] V4) := by show Blk _ _ _; rw [← hV]; exact N4.out.other (by omega)
      have Pt : Hid (Blk w.heap.size #[.string ⟨#[]⟩, .string ⟨#[]⟩, .slice none 0 0, .string ⟨#[]⟩] V4) := by show Blk _ _ _; rw [← hV]; exact P4.out.other (by omega)
      have Ft : Hid (Fls V4 w1.heap.size (.slice (some ⟨g, 0, none⟩) n cp) (f :: L)) := by show Fls _ _ _ _; rw [← hV]; exact fls_setO F4.out (fun g' hg => by simp only [Value.ownBlock, Option.some.injEq] at hg; omega) _
      have Bt : Hid (Below w.heap.size w V4) := by show Below _ _ _; rw [← hV]; exact B4.out.setCell (p := ⟨q, 2, none⟩) (by show w.heap.size ≤ q; omega) _
      clear hV Q4 N4 P4 F4 B4
      clear x2 u2 Nt Ft
      have Qf := Qt
      have Pf := Pt
      have Bf := Bt
      have Ff : Hid (Fls V4 w1.heap.size (.slice none 0 0) []) := fls_nil _ _
      clear Qt Pt Bt
      have x0 : V4.cell? ⟨q, 0, none⟩ = some (.string he) := Qf.out.cell 0
      have x1 : V4.cell? ⟨q, 1, none⟩ = some (.string tw) := Qf.out.cell 1
      have x2 : V4.cell? ⟨q, 2, none⟩ = some (.slice none 0 0) := Qf.out.cell 2
      have x3 : V4.cell? ⟨q, 3, none⟩ = some (.string hd) := Qf.out.cell 3
      have p0 : V4.cell? ⟨w.heap.size, 0, none⟩ = some (.string ⟨#[]⟩) := Pf.out.cell 0
      have p1 : V4.cell? ⟨w.heap.size, 1, none⟩ = some (.string ⟨#[]⟩) := Pf.out.cell 1
      have p2 : V4.cell? ⟨w.heap.size, 2, none⟩ = some (.slice none 0 0) := Pf.out.cell 2
      have p3 : V4.cell? ⟨w.heap.size, 3, none⟩ = some (.string ⟨#[]⟩) := Pf.out.cell 3
      have t0 := Pf.out.free 0
      have t1 := Pf.out.free 1
      have t2 := Pf.out.free 2
      have t3 := Pf.out.free 3
      go_wp2
      generalize hV : (((V4.setCell ⟨w.heap.size, 0, none⟩ (.string he)).setCell ⟨w.heap.size, 1, none⟩ (.string tw)).setCell ⟨w.heap.size, 2, none⟩ (.slice none 0 0)).setCell ⟨w.heap.size, 3, none⟩ (.string hd) = Wf
      have PF : Blk w.heap.size #[.string he, .string tw, (.slice none 0 0), .string hd] Wf := by rw [← hV]; exact blk_set4 Pf.out
      obtain ⟨oF, bF⟩ : Off w.heap.size V4 Wf ∧ Below w.heap.size V4 Wf := by rw [← hV]; exact off_set4 (Nat.le_refl _)
      have FF : Fls Wf w1.heap.size (.slice none 0 0) ([]) := fls_off Ff.out oF (fun g hg => by have := (fls_own Ff.out g hg).1; omega)
      have OF : Below w.heap.size w Wf := Bf.out.trans bF
      clear hV oF bF
      have r0 : Wf.cell? ⟨w.heap.size, 0, none⟩ = some (.string he) := PF.cell 0
      have r1 : Wf.cell? ⟨w.heap.size, 1, none⟩ = some (.string tw) := PF.cell 1
      have r2 : Wf.cell? ⟨w.heap.size, 2, none⟩ = some (.slice none 0 0) := PF.cell 2
      have r3 : Wf.cell? ⟨w.heap.size, 3, none⟩ = some (.string hd) := PF.cell 3
      refine bodyPost_ret (v := .agg #[.string he, .string tw, (.slice none 0 0), .string hd]) (by simp [results, Tryz.results4, go_sem, r0, r1, r2, r3]) rfl ?_
      rw [HR.out]
      exact ⟨⟨_, rfl, fls_lo FF (by omega)⟩, OF⟩
    · 
      have hk' : (k5 : Int) % 10 = 3 := hk
      clear hk
      obtain ⟨y, hy, ey⟩ := pickE sts5 j (hjk rfl)
      simp only [sts5, List.map_cons, List.map_nil] at ey
      have HR : Hid (mkbF B = ⟨he, tw, ⟨f.rc, y, f.cd, f.tx⟩ :: L, hd⟩) := by show _ = _; rw [HSP.out, hy]; rfl
      clear HSP hy
      have hj5' : j < 5 := hjk rfl
      have bA : ∀ o, Below w.heap.size V3 (V3.alloc o) := fun o => (below1 _ _).mono B4.out.size
      have x1 : ∀ o, (V3.alloc o).cell? ⟨fb, 1, none⟩ = some (.string f.st) := fun o => (N4.out.alloc o).cell 1
      have u1 : ∀ o, (V3.alloc o).frozen? ⟨fb, 1, none⟩ = false := fun o => (N4.out.alloc o).free 1
      go_upto_region 28 with fail
      generalize hV : World.setCell (World.alloc V3 _) _ _ = V4
      have Qt : Hid (Blk q #[.string he, .string tw, (.slice (some ⟨g, 0, none⟩) n cp), .string hd] V4) := by show Blk _ _ _; rw [← hV]; exact (Q4.out.alloc _).other (by omega)
      have Nt : Hid (Blk fb #[.string f.rc, .string y, .int .i64 f.cd, .string f.tx] V4) := by show Blk _ _ _; rw [← hV]; exact (N4.out.alloc _).set (i := 1) (by simp)
      have Pt : Hid (Blk w.heap.size #[.string ⟨#[]⟩, .string ⟨#[]⟩, .slice none 0 0, .string ⟨#[]⟩] V4) := by show Blk _ _ _; rw [← hV]; exact (P4.out.alloc _).other (by omega)
      have Ft : Hid (Fls V4 w1.heap.size (.slice (some ⟨g, 0, none⟩) n cp) (f :: L)) := by show Fls _ _ _ _; rw [← hV]; exact fls_setO (fls_below F4.out (below1 _ _) (Nat.le_refl _)) (fun g' hg => by simp only [Value.ownBlock, Option.some.injEq] at hg; omega) _
      have Bt : Hid (Below w.heap.size w V4) := by show Below _ _ _; rw [← hV]; exact (B4.out.trans (bA _)).setCell (p := ⟨fb, 1, none⟩) (by show w.heap.size ≤ fb; omega) _
      clear hV Q4 N4 P4 F4 B4 x1 u1 bA ey
      have hA := Ft.out.at.1
      have k2 : V4.cell? ⟨q, 2, none⟩ = some (.slice (some ⟨g, 0, none⟩) n cp) := Qt.out.cell 2
      have x0 : V4.cell? ⟨fb, 0, none⟩ = some (.string f.rc) := Nt.out.cell 0
      have x1 : V4.cell? ⟨fb, 1, none⟩ = some (.string y) := Nt.out.cell 1
      have x2 : V4.cell? ⟨fb, 2, none⟩ = some (.int .i64 f.cd) := Nt.out.cell 2
      have x3 : V4.cell? ⟨fb, 3, none⟩ = some (.string f.tx) := Nt.out.cell 3
      have y0 := (hA.cell 0 (by simp)).1
      have y1 := (hA.cell 0 (by simp)).2.1
      have y2 := (hA.cell 0 (by simp)).2.2.1
      have y3 := (hA.cell 0 (by simp)).2.2.2
      simp only [Nat.zero_mul, Nat.zero_add, List.getElem_cons_zero] at y0 y1 y2 y3
      have u0 := hA.free 0
      have u1 := hA.free 1
      have u2 := hA.free 2
      have u3 := hA.free 3
      clear hA
      go_upto_region 30 with fail
      generalize hV : ((((V4.setCell ⟨g, 0, none⟩ (.string f.rc)).setCell ⟨g, 1, none⟩ (.string y)).setCell ⟨g, 2, none⟩ (.int .i64 f.cd)).setCell ⟨g, 3, none⟩ (.string f.tx)) = V5
      obtain ⟨o5, b5⟩ : Off g V4 V5 ∧ Below w.heap.size V4 V5 := by rw [← hV]; exact off_set4 (by omega)
      have Ff : Hid (Fls V5 w1.heap.size (.slice (some ⟨g, 0, none⟩) n cp) (⟨f.rc, y, f.cd, f.tx⟩ :: L)) := by show Fls _ _ _ _; rw [← hV]; exact fls_set0 (f1 := ⟨f.rc, y, f.cd, f.tx⟩) Ft.out
      have Qf : Hid (Blk q #[.string he, .string tw, (.slice (some ⟨g, 0, none⟩) n cp), .string hd] V5) := Qt.out.offB o5 (by omega)
      have Pf : Hid (Blk w.heap.size #[.string ⟨#[]⟩, .string ⟨#[]⟩, .slice none 0 0, .string ⟨#[]⟩] V5) := Pt.out.offB o5 (by omega)
      have Bf : Hid (Below w.heap.size w V5) := Bt.out.trans b5
      clear hV o5 b5 x0 x1 x2 x3 y0 y1 y2 y3 u0 u1 u2 u3 k2 Qt Nt Pt Ft Bt
      have x0 : V5.cell? ⟨q, 0, none⟩ = some (.string he) := Qf.out.cell 0
      have x1 : V5.cell? ⟨q, 1, none⟩ = some (.string tw) := Qf.out.cell 1
      have x2 : V5.cell? ⟨q, 2, none⟩ = some (.slice (some ⟨g, 0, none⟩) n cp) := Qf.out.cell 2
      have x3 : V5.cell? ⟨q, 3, none⟩ = some (.string hd) := Qf.out.cell 3
      have p0 : V5.cell? ⟨w.heap.size, 0, none⟩ = some (.string ⟨#[]⟩) := Pf.out.cell 0
      have p1 : V5.cell? ⟨w.heap.size, 1, none⟩ = some (.string ⟨#[]⟩) := Pf.out.cell 1
      have p2 : V5.cell? ⟨w.heap.size, 2, none⟩ = some (.slice none 0 0) := Pf.out.cell 2
      have p3 : V5.cell? ⟨w.heap.size, 3, none⟩ = some (.string ⟨#[]⟩) := Pf.out.cell 3
      have t0 := Pf.out.free 0
      have t1 := Pf.out.free 1
      have t2 := Pf.out.free 2
      have t3 := Pf.out.free 3
      go_wp2
      generalize hV : (((V5.setCell ⟨w.heap.size, 0, none⟩ (.string he)).setCell ⟨w.heap.size, 1, none⟩ (.string tw)).setCell ⟨w.heap.size, 2, none⟩ (.slice (some ⟨g, 0, none⟩) n cp)).setCell ⟨w.heap.size, 3, none⟩ (.string hd) = Wf
      have PF : Blk w.heap.size #[.string he, .string tw, (.slice (some ⟨g, 0, none⟩) n cp), .string hd] Wf := by rw [← hV]; exact blk_set4 Pf.out
      obtain ⟨oF, bF⟩ : Off w.heap.size V5 Wf ∧ Below w.heap.size V5 Wf := by rw [← hV]; exact off_set4 (Nat.le_refl _)
      have FF : Fls Wf w1.heap.size (.slice (some ⟨g, 0, none⟩) n cp) (⟨f.rc, y, f.cd, f.tx⟩ :: L) := fls_off Ff.out oF (fun g hg => by have := (fls_own Ff.out g hg).1; omega)
      have OF : Below w.heap.size w Wf := Bf.out.trans bF
      clear hV oF bF
      have r0 : Wf.cell? ⟨w.heap.size, 0, none⟩ = some (.string he) := PF.cell 0
      have r1 : Wf.cell? ⟨w.heap.size, 1, none⟩ = some (.string tw) := PF.cell 1
      have r2 : Wf.cell? ⟨w.heap.size, 2, none⟩ = some (.slice (some ⟨g, 0, none⟩) n cp) := PF.cell 2
      have r3 : Wf.cell? ⟨w.heap.size, 3, none⟩ = some (.string hd) := PF.cell 3
      refine bodyPost_ret (v := .agg #[.string he, .string tw, (.slice (some ⟨g, 0, none⟩) n cp), .string hd]) (by simp [results, Tryz.results4, go_sem, r0, r1, r2, r3]) rfl ?_
      rw [HR.out]
      exact ⟨⟨_, rfl, fls_lo FF (by omega)⟩, OF⟩
    · 
      have hk' : (k5 : Int) % 10 = 4 := hk
      clear hk
      obtain ⟨cd, hcd⟩ : ∃ cd : Int, 199 + (j : Int) * 200 = cd := ⟨_, rfl⟩
      have HR : Hid (mkbF B = ⟨he, tw, ⟨f.rc, f.st, cd, f.tx⟩ :: L, hd⟩) := by show _ = _; rw [HSP.out, ← hcd]; rfl
      clear HSP
      have x2 : V3.cell? ⟨fb, 2, none⟩ = some (.int .i64 f.cd) := N4.out.cell 2
      have u2 := N4.out.free 2
      go_upto_region 28 with fail
      generalize hV : V3.setCell ⟨fb, 2, none⟩ (.int .i64 cd) = V4
      have Qt : Hid (Blk q #[.string he, .string tw, (.slice (some ⟨g, 0, none⟩) n cp), .string hd] V4) := by show Blk _ _ _; rw [← hV]; exact Q4.out.other (by omega)
      have Nt : Hid (Blk fb #[.string f.rc, .string f.st, .int .i64 cd, .string f.tx] V4) := by show Blk _ _ _; rw [← hV]; exact N4.out.set (i := 2) (by simp)
      have Pt : Hid (Blk w.heap.size #[.string ⟨#[]⟩, .string ⟨#[]⟩, .slice none 0 0, .string ⟨#[]⟩] V4) := by show Blk _ _ _; rw [← hV]; exact P4.out.other (by omega)
      have Ft : Hid (Fls V4 w1.heap.size (.slice (some ⟨g, 0, none⟩) n cp) (f :: L)) := by show Fls _ _ _ _; rw [← hV]; exact fls_setO F4.out (fun g' hg => by simp only [Value.ownBlock, Option.some.injEq] at hg; omega) _
      have Bt : Hid (Below w.heap.size w V4) := by show Below _ _ _; rw [← hV]; exact B4.out.setCell (p := ⟨fb, 2, none⟩) (by show w.heap.size ≤ fb; omega) _
      clear hV Q4 N4 P4 F4 B4
      clear x2 u2
      have hA := Ft.out.at.1
      have k2 : V4.cell? ⟨q, 2, none⟩ = some (.slice (some ⟨g, 0, none⟩) n cp) := Qt.out.cell 2
      have x0 : V4.cell? ⟨fb, 0, none⟩ = some (.string f.rc) := Nt.out.cell 0
      have x1 : V4.cell? ⟨fb, 1, none⟩ = some (.string f.st) := Nt.out.cell 1
      have x2 : V4.cell? ⟨fb, 2, none⟩ = some (.int .i64 cd) := Nt.out.cell 2
      have x3 : V4.cell? ⟨fb, 3, none⟩ = some (.string f.tx) := Nt.out.cell 3
      have y0 := (hA.cell 0 (by simp)).1
      have y1 := (hA.cell 0 (by simp)).2.1
      have y2 := (hA.cell 0 (by simp)).2.2.1
      have y3 := (hA.cell 0 (by simp)).2.2.2
      simp only [Nat.zero_mul, Nat.zero_add, List.getElem_cons_zero] at y0 y1 y2 y3
      have u0 := hA.free 0
      have u1 := hA.free 1
      have u2 := hA.free 2
      have u3 := hA.free 3
      clear hA
      go_upto_region 30 with fail
      generalize hV : ((((V4.setCell ⟨g, 0, none⟩ (.string f.rc)).setCell ⟨g, 1, none⟩ (.string f.st)).setCell ⟨g, 2, none⟩ (.int .i64 cd)).setCell ⟨g, 3, none⟩ (.string f.tx)) = V5
      obtain ⟨o5, b5⟩ : Off g V4 V5 ∧ Below w.heap.size V4 V5 := by rw [← hV]; exact off_set4 (by omega)
      have Ff : Hid (Fls V5 w1.heap.size (.slice (some ⟨g, 0, none⟩) n cp) (⟨f.rc, f.st, cd, f.tx⟩ :: L)) := by show Fls _ _ _ _; rw [← hV]; exact fls_set0 (f1 := ⟨f.rc, f.st, cd, f.tx⟩) Ft.out
      have Qf : Hid (Blk q #[.string he, .string tw, (.slice (some ⟨g, 0, none⟩) n cp), .string hd] V5) := Qt.out.offB o5 (by omega)
      have Pf : Hid (Blk w.heap.size #[.string ⟨#[]⟩, .string ⟨#[]⟩, .slice none 0 0, .string ⟨#[]⟩] V5) := Pt.out.offB o5 (by omega)
      have Bf : Hid (Below w.heap.size w V5) := Bt.out.trans b5
      clear hV o5 b5 x0 x1 x2 x3 y0 y1 y2 y3 u0 u1 u2 u3 k2 Qt Nt Pt Ft Bt
      have x0 : V5.cell? ⟨q, 0, none⟩ = some (.string he) := Qf.out.cell 0
      have x1 : V5.cell? ⟨q, 1, none⟩ = some (.string tw) := Qf.out.cell 1
      have x2 : V5.cell? ⟨q, 2, none⟩ = some (.slice (some ⟨g, 0, none⟩) n cp) := Qf.out.cell 2
      have x3 : V5.cell? ⟨q, 3, none⟩ = some (.string hd) := Qf.out.cell 3
      have p0 : V5.cell? ⟨w.heap.size, 0, none⟩ = some (.string ⟨#[]⟩) := Pf.out.cell 0
      have p1 : V5.cell? ⟨w.heap.size, 1, none⟩ = some (.string ⟨#[]⟩) := Pf.out.cell 1
      have p2 : V5.cell? ⟨w.heap.size, 2, none⟩ = some (.slice none 0 0) := Pf.out.cell 2
      have p3 : V5.cell? ⟨w.heap.size, 3, none⟩ = some (.string ⟨#[]⟩) := Pf.out.cell 3
      have t0 := Pf.out.free 0
      have t1 := Pf.out.free 1
      have t2 := Pf.out.free 2
      have t3 := Pf.out.free 3
      go_wp2
      generalize hV : (((V5.setCell ⟨w.heap.size, 0, none⟩ (.string he)).setCell ⟨w.heap.size, 1, none⟩ (.string tw)).setCell ⟨w.heap.size, 2, none⟩ (.slice (some ⟨g, 0, none⟩) n cp)).setCell ⟨w.heap.size, 3, none⟩ (.string hd) = Wf
      have PF : Blk w.heap.size #[.string he, .string tw, (.slice (some ⟨g, 0, none⟩) n cp), .string hd] Wf := by rw [← hV]; exact blk_set4 Pf.out
      obtain ⟨oF, bF⟩ : Off w.heap.size V5 Wf ∧ Below w.heap.size V5 Wf := by rw [← hV]; exact off_set4 (Nat.le_refl _)
      have FF : Fls Wf w1.heap.size (.slice (some ⟨g, 0, none⟩) n cp) (⟨f.rc, f.st, cd, f.tx⟩ :: L) := fls_off Ff.out oF (fun g hg => by have := (fls_own Ff.out g hg).1; omega)
      have OF : Below w.heap.size w Wf := Bf.out.trans bF
      clear hV oF bF
      have r0 : Wf.cell? ⟨w.heap.size, 0, none⟩ = some (.string he) := PF.cell 0
      have r1 : Wf.cell? ⟨w.heap.size, 1, none⟩ = some (.string tw) := PF.cell 1
      have r2 : Wf.cell? ⟨w.heap.size, 2, none⟩ = some (.slice (some ⟨g, 0, none⟩) n cp) := PF.cell 2
      have r3 : Wf.cell? ⟨w.heap.size, 3, none⟩ = some (.string hd) := PF.cell 3
      refine bodyPost_ret (v := .agg #[.string he, .string tw, (.slice (some ⟨g, 0, none⟩) n cp), .string hd]) (by simp [results, Tryz.results4, go_sem, r0, r1, r2, r3]) rfl ?_
      rw [HR.out]
      exact ⟨⟨_, rfl, fls_lo FF (by omega)⟩, OF⟩
    · 
      have hk' : (k5 : Int) % 10 = 5 := hk
      clear hk
      have HR : Hid (mkbF B = ⟨he, tw, ⟨f.rc, f.st, f.cd, ⟨#[99, 97, 102, 233]⟩⟩ :: L, hd⟩) := HSP.out
      clear HSP
      have x3 : V3.cell? ⟨fb, 3, none⟩ = some (.string f.tx) := N4.out.cell 3
      have u3 := N4.out.free 3
      go_upto_region 28 with fail
      generalize hV : V3.setCell ⟨fb, 3, none⟩ (.string ⟨#[99, 97, 102, 233]⟩) = V4
      have Qt : Hid (Blk q #[.string he, .string tw, (.slice (some ⟨g, 0, none⟩) n cp), .string hd] V4) := by show Blk _ _ _; rw [← hV]; exact Q4.out.other (by omega)
      have Nt : Hid (Blk fb #[.string f.rc, .string f.st, .int .i64 f.cd, .string ⟨#[99, 97, 102, 233]⟩] V4) := by show Blk _ _ _; rw [← hV]; exact N4.out.set (i := 3) (by simp)
      have Pt : Hid (Blk w.heap.size #[.string ⟨#[]⟩, .string ⟨#[]⟩, .slice none 0 0, .string ⟨#[]⟩] V4) := by show Blk _ _ _; rw [← hV]; exact P4.out.other (by omega)
      have Ft : Hid (Fls V4 w1.heap.size (.slice (some ⟨g, 0, none⟩) n cp) (f :: L)) := by show Fls _ _ _ _; rw [← hV]; exact fls_setO F4.out (fun g' hg => by simp only [Value.ownBlock, Option.some.injEq] at hg; omega) _
      have Bt : Hid (Below w.heap.size w V4) := by show Below _ _ _; rw [← hV]; exact B4.out.setCell (p := ⟨fb, 3, none⟩) (by show w.heap.size ≤ fb; omega) _
      clear hV Q4 N4 P4 F4 B4
      clear x3 u3
      have hA := Ft.out.at.1
      have k2 : V4.cell? ⟨q, 2, none⟩ = some (.slice (some ⟨g, 0, none⟩) n cp) := Qt.out.cell 2
      have x0 : V4.cell? ⟨fb, 0, none⟩ = some (.string f.rc) := Nt.out.cell 0
      have x1 : V4.cell? ⟨fb, 1, none⟩ = some (.string f.st) := Nt.out.cell 1
      have x2 : V4.cell? ⟨fb, 2, none⟩ = some (.int .i64 f.cd) := Nt.out.cell 2
      have x3 : V4.cell? ⟨fb, 3, none⟩ = some (.string ⟨#[99, 97, 102, 233]⟩) := Nt.out.cell 3
      have y0 := (hA.cell 0 (by simp)).1
      have y1 := (hA.cell 0 (by simp)).2.1
      have y2 := (hA.cell 0 (by simp)).2.2.1
      have y3 := (hA.cell 0 (by simp)).2.2.2
      simp only [Nat.zero_mul, Nat.zero_add, List.getElem_cons_zero] at y0 y1 y2 y3
      have u0 := hA.free 0
      have u1 := hA.free 1
      have u2 := hA.free 2
      have u3 := hA.free 3
      clear hA
      go_upto_region 30 with fail
      generalize hV : ((((V4.setCell ⟨g, 0, none⟩ (.string f.rc)).setCell ⟨g, 1, none⟩ (.string f.st)).setCell ⟨g, 2, none⟩ (.int .i64 f.cd)).setCell ⟨g, 3, none⟩ (.string ⟨#[99, 97, 102, 233]⟩)) = V5
      obtain ⟨o5, b5⟩ : Off g V4 V5 ∧ Below w.heap.size V4 V5 := by rw [← hV]; exact off_set4 (by omega)
      have Ff : Hid (Fls V5 w1.heap.size (.slice (some ⟨g, 0, none⟩) n cp) (⟨f.rc, f.st, f.cd, ⟨#[99, 97, 102, 233]⟩⟩ :: L)) := by show Fls _ _ _ _; rw [← hV]; exact fls_set0 (f1 := ⟨f.rc, f.st, f.cd, ⟨#[99, 97, 102, 233]⟩⟩) Ft.out
      have Qf : Hid (Blk q #[.string he, .string tw, (.slice (some ⟨g, 0, none⟩) n cp), .string hd] V5) := Qt.out.offB o5 (by omega)
      have Pf : Hid (Blk w.heap.size #[.string ⟨#[]⟩, .string ⟨#[]⟩, .slice none 0 0, .string ⟨#[]⟩] V5) := Pt.out.offB o5 (by omega)
      have Bf : Hid (Below w.heap.size w V5) := Bt.out.trans b5
      clear hV o5 b5 x0 x1 x2 x3 y0 y1 y2 y3 u0 u1 u2 u3 k2 Qt Nt Pt Ft Bt
      have x0 : V5.cell? ⟨q, 0, none⟩ = some (.string he) := Qf.out.cell 0
      have x1 : V5.cell? ⟨q, 1, none⟩ = some (.string tw) := Qf.out.cell 1
      have x2 : V5.cell? ⟨q, 2, none⟩ = some (.slice (some ⟨g, 0, none⟩) n cp) := Qf.out.cell 2
      have x3 : V5.cell? ⟨q, 3, none⟩ = some (.string hd) := Qf.out.cell 3
      have p0 : V5.cell? ⟨w.heap.size, 0, none⟩ = some (.string ⟨#[]⟩) := Pf.out.cell 0
      have p1 : V5.cell? ⟨w.heap.size, 1, none⟩ = some (.string ⟨#[]⟩) := Pf.out.cell 1
      have p2 : V5.cell? ⟨w.heap.size, 2, none⟩ = some (.slice none 0 0) := Pf.out.cell 2
      have p3 : V5.cell? ⟨w.heap.size, 3, none⟩ = some (.string ⟨#[]⟩) := Pf.out.cell 3
      have t0 := Pf.out.free 0
      have t1 := Pf.out.free 1
      have t2 := Pf.out.free 2
      have t3 := Pf.out.free 3
      go_wp2
      generalize hV : (((V5.setCell ⟨w.heap.size, 0, none⟩ (.string he)).setCell ⟨w.heap.size, 1, none⟩ (.string tw)).setCell ⟨w.heap.size, 2, none⟩ (.slice (some ⟨g, 0, none⟩) n cp)).setCell ⟨w.heap.size, 3, none⟩ (.string hd) = Wf
      have PF : Blk w.heap.size #[.string he, .string tw, (.slice (some ⟨g, 0, none⟩) n cp), .string hd] Wf := by rw [← hV]; exact blk_set4 Pf.out
      obtain ⟨oF, bF⟩ : Off w.heap.size V5 Wf ∧ Below w.heap.size V5 Wf := by rw [← hV]; exact off_set4 (Nat.le_refl _)
      have FF : Fls Wf w1.heap.size (.slice (some ⟨g, 0, none⟩) n cp) (⟨f.rc, f.st, f.cd, ⟨#[99, 97, 102, 233]⟩⟩ :: L) := fls_off Ff.out oF (fun g hg => by have := (fls_own Ff.out g hg).1; omega)
      have OF : Below w.heap.size w Wf := Bf.out.trans bF
      clear hV oF bF
      have r0 : Wf.cell? ⟨w.heap.size, 0, none⟩ = some (.string he) := PF.cell 0
      have r1 : Wf.cell? ⟨w.heap.size, 1, none⟩ = some (.string tw) := PF.cell 1
      have r2 : Wf.cell? ⟨w.heap.size, 2, none⟩ = some (.slice (some ⟨g, 0, none⟩) n cp) := PF.cell 2
      have r3 : Wf.cell? ⟨w.heap.size, 3, none⟩ = some (.string hd) := PF.cell 3
      refine bodyPost_ret (v := .agg #[.string he, .string tw, (.slice (some ⟨g, 0, none⟩) n cp), .string hd]) (by simp [results, Tryz.results4, go_sem, r0, r1, r2, r3]) rfl ?_
      rw [HR.out]
      exact ⟨⟨_, rfl, fls_lo FF (by omega)⟩, OF⟩
    · 
      have hk' : (k5 : Int) % 10 = 6 := hk
      clear hk
      obtain ⟨ft, hft⟩ : ∃ ft, ofInts (fillL 201) = ft := ⟨_, rfl⟩
      have HR : Hid (mkbF B = ⟨he, tw, ⟨f.rc, f.st, f.cd, ft⟩ :: L, hd⟩) := by show _ = _; rw [HSP.out, ← hft]; rfl
      clear HSP
      have HFI : Hid (∀ wx : World, Calls Tryz.prog 12 #[.int .i64 201] wx fun e w' => e = .returned (.string ft) ∧ Below wx.heap.size wx w') := fun wx => by rw [← hft]; exact fill 201 wx (by decide)
      clear hft
      go_wp2_with fail
      refine (HFI.out _).mono ?_
      rintro e V7 ⟨rfl, b7⟩
      have Q4 : Hid (Blk q #[.string he, .string tw, (.slice (some ⟨g, 0, none⟩) n cp), .string hd] V7) := Q4.out.below b7
      have N4 : Hid (Blk fb #[.string f.rc, .string f.st, .int .i64 f.cd, .string f.tx] V7) := N4.out.below b7
      have P4 : Hid (Blk w.heap.size #[.string ⟨#[]⟩, .string ⟨#[]⟩, .slice none 0 0, .string ⟨#[]⟩] V7) := P4.out.below b7
      have F4 : Hid (Fls V7 w1.heap.size (.slice (some ⟨g, 0, none⟩) n cp) (f :: L)) := fls_below F4.out b7 (Nat.le_refl _)
      have B4 : Hid (Below w.heap.size w V7) := B4.out.trans (b7.mono B4.out.size)
      clear b7 HFI
      have x3 : V7.cell? ⟨fb, 3, none⟩ = some (.string f.tx) := N4.out.cell 3
      have u3 := N4.out.free 3
      go_upto_region 28 with fail
      generalize hV : V7.setCell ⟨fb, 3, none⟩ (.string ft) = V4
      have Qt : Hid (Blk q #[.string he, .string tw, (.slice (some ⟨g, 0, none⟩) n cp), .string hd] V4) := by show Blk _ _ _; rw [← hV]; exact Q4.out.other (by omega)
      have Nt : Hid (Blk fb #[.string f.rc, .string f.st, .int .i64 f.cd, .string ft] V4) := by show Blk _ _ _; rw [← hV]; exact N4.out.set (i := 3) (by simp)
      have Pt : Hid (Blk w.heap.size #[.string ⟨#[]⟩, .string ⟨#[]⟩, .slice none 0 0, .string ⟨#[]⟩] V4) := by show Blk _ _ _; rw [← hV]; exact P4.out.other (by omega)
      have Ft : Hid (Fls V4 w1.heap.size (.slice (some ⟨g, 0, none⟩) n cp) (f :: L)) := by show Fls _ _ _ _; rw [← hV]; exact fls_setO F4.out (fun g' hg => by simp only [Value.ownBlock, Option.some.injEq] at hg; omega) _
      have Bt : Hid (Below w.heap.size w V4) := by show Below _ _ _; rw [← hV]; exact B4.out.setCell (p := ⟨fb, 3, none⟩) (by show w.heap.size ≤ fb; omega) _
      clear hV Q4 N4 P4 F4 B4
      clear x3 u3
      have hA := Ft.out.at.1
      have k2 : V4.cell? ⟨q, 2, none⟩ = some (.slice (some ⟨g, 0, none⟩) n cp) := Qt.out.cell 2
      have x0 : V4.cell? ⟨fb, 0, none⟩ = some (.string f.rc) := Nt.out.cell 0
      have x1 : V4.cell? ⟨fb, 1, none⟩ = some (.string f.st) := Nt.out.cell 1
      have x2 : V4.cell? ⟨fb, 2, none⟩ = some (.int .i64 f.cd) := Nt.out.cell 2
      have x3 : V4.cell? ⟨fb, 3, none⟩ = some (.string ft) := Nt.out.cell 3
      have y0 := (hA.cell 0 (by simp)).1
      have y1 := (hA.cell 0 (by simp)).2.1
      have y2 := (hA.cell 0 (by simp)).2.2.1
      have y3 := (hA.cell 0 (by simp)).2.2.2
      simp only [Nat.zero_mul, Nat.zero_add, List.getElem_cons_zero] at y0 y1 y2 y3
      have u0 := hA.free 0
      have u1 := hA.free 1
      have u2 := hA.free 2
      have u3 := hA.free 3
      clear hA
      go_upto_region 30 with fail
      generalize hV : ((((V4.setCell ⟨g, 0, none⟩ (.string f.rc)).setCell ⟨g, 1, none⟩ (.string f.st)).setCell ⟨g, 2, none⟩ (.int .i64 f.cd)).setCell ⟨g, 3, none⟩ (.string ft)) = V5
      obtain ⟨o5, b5⟩ : Off g V4 V5 ∧ Below w.heap.size V4 V5 := by rw [← hV]; exact off_set4 (by omega)
      have Ff : Hid (Fls V5 w1.heap.size (.slice (some ⟨g, 0, none⟩) n cp) (⟨f.rc, f.st, f.cd, ft⟩ :: L)) := by show Fls _ _ _ _; rw [← hV]; exact fls_set0 (f1 := ⟨f.rc, f.st, f.cd, ft⟩) Ft.out
      have Qf : Hid (Blk q #[.string he, .string tw, (.slice (some ⟨g, 0, none⟩) n cp), .string hd] V5) := Qt.out.offB o5 (by omega)
      have Pf : Hid (Blk w.heap.size #[.string ⟨#[]⟩, .string ⟨#[]⟩, .slice none 0 0, .string ⟨#[]⟩] V5) := Pt.out.offB o5 (by omega)
      have Bf : Hid (Below w.heap.size w V5) := Bt.out.trans b5
      clear hV o5 b5 x0 x1 x2 x3 y0 y1 y2 y3 u0 u1 u2 u3 k2 Qt Nt Pt Ft Bt
      have x0 : V5.cell? ⟨q, 0, none⟩ = some (.string he) := Qf.out.cell 0
      have x1 : V5.cell? ⟨q, 1, none⟩ = some (.string tw) := Qf.out.cell 1
      have x2 : V5.cell? ⟨q, 2, none⟩ = some (.slice (some ⟨g, 0, none⟩) n cp) := Qf.out.cell 2
      have x3 : V5.cell? ⟨q, 3, none⟩ = some (.string hd) := Qf.out.cell 3
      have p0 : V5.cell? ⟨w.heap.size, 0, none⟩ = some (.string ⟨#[]⟩) := Pf.out.cell 0
      have p1 : V5.cell? ⟨w.heap.size, 1, none⟩ = some (.string ⟨#[]⟩) := Pf.out.cell 1
      have p2 : V5.cell? ⟨w.heap.size, 2, none⟩ = some (.slice none 0 0) := Pf.out.cell 2
      have p3 : V5.cell? ⟨w.heap.size, 3, none⟩ = some (.string ⟨#[]⟩) := Pf.out.cell 3
      have t0 := Pf.out.free 0
      have t1 := Pf.out.free 1
      have t2 := Pf.out.free 2
      have t3 := Pf.out.free 3
      go_wp2
      generalize hV : (((V5.setCell ⟨w.heap.size, 0, none⟩ (.string he)).setCell ⟨w.heap.size, 1, none⟩ (.string tw)).setCell ⟨w.heap.size, 2, none⟩ (.slice (some ⟨g, 0, none⟩) n cp)).setCell ⟨w.heap.size, 3, none⟩ (.string hd) = Wf
      have PF : Blk w.heap.size #[.string he, .string tw, (.slice (some ⟨g, 0, none⟩) n cp), .string hd] Wf := by rw [← hV]; exact blk_set4 Pf.out
      obtain ⟨oF, bF⟩ : Off w.heap.size V5 Wf ∧ Below w.heap.size V5 Wf := by rw [← hV]; exact off_set4 (Nat.le_refl _)
      have FF : Fls Wf w1.heap.size (.slice (some ⟨g, 0, none⟩) n cp) (⟨f.rc, f.st, f.cd, ft⟩ :: L) := fls_off Ff.out oF (fun g hg => by have := (fls_own Ff.out g hg).1; omega)
      have OF : Below w.heap.size w Wf := Bf.out.trans bF
      clear hV oF bF
      have r0 : Wf.cell? ⟨w.heap.size, 0, none⟩ = some (.string he) := PF.cell 0
      have r1 : Wf.cell? ⟨w.heap.size, 1, none⟩ = some (.string tw) := PF.cell 1
      have r2 : Wf.cell? ⟨w.heap.size, 2, none⟩ = some (.slice (some ⟨g, 0, none⟩) n cp) := PF.cell 2
      have r3 : Wf.cell? ⟨w.heap.size, 3, none⟩ = some (.string hd) := PF.cell 3
      refine bodyPost_ret (v := .agg #[.string he, .string tw, (.slice (some ⟨g, 0, none⟩) n cp), .string hd]) (by simp [results, Tryz.results4, go_sem, r0, r1, r2, r3]) rfl ?_
      rw [HR.out]
      exact ⟨⟨_, rfl, fls_lo FF (by omega)⟩, OF⟩
    · 
      have hk' : (k5 : Int) % 10 = 7 := hk
      clear hk
      obtain ⟨h2, hh2⟩ : ∃ h2, hd ++ (⟨#[13, 10]⟩ : ByteArray) = h2 := ⟨_, rfl⟩
      have HR : Hid (mkbF B = ⟨he, tw, ⟨f.rc, f.st, f.cd, f.tx⟩ :: L, h2⟩) := by show _ = _; rw [HSP.out, ← hh2]; rfl
      clear HSP
      have q2 : (⟨#[13, 10]⟩ : ByteArray).size = 2 := rfl
      have x3 : V3.cell? ⟨q, 3, none⟩ = some (.string hd) := Q4.out.cell 3
      have u3 := Q4.out.free 3
      go_upto_region 28 with fail
      try rw [hh2]
      generalize hV : V3.setCell ⟨q, 3, none⟩ (.string h2) = V4
      have Qt : Hid (Blk q #[.string he, .string tw, (.slice (some ⟨g, 0, none⟩) n cp), .string h2] V4) := by show Blk _ _ _; rw [← hV]; exact Q4.out.set (i := 3) (by simp)
      have Nt : Hid (Blk fb #[.string f.rc, .string f.st, .int .i64 f.cd, .string f.tx] V4) := by show Blk _ _ _; rw [← hV]; exact N4.out.other (by omega)
      have Pt : Hid (Blk w.heap.size #[.string ⟨#[]⟩, .string ⟨#[]⟩, .slice none 0 0, .string ⟨#[]⟩] V4) := by show Blk _ _ _; rw [← hV]; exact P4.out.other (by omega)
      have Ft : Hid (Fls V4 w1.heap.size (.slice (some ⟨g, 0, none⟩) n cp) (f :: L)) := by show Fls _ _ _ _; rw [← hV]; exact fls_setO F4.out (fun g' hg => by simp only [Value.ownBlock, Option.some.injEq] at hg; omega) _
      have Bt : Hid (Below w.heap.size w V4) := by show Below _ _ _; rw [← hV]; exact B4.out.setCell (p := ⟨q, 3, none⟩) (by show w.heap.size ≤ q; omega) _
      clear hV Q4 N4 P4 F4 B4
      clear x3 u3
      have hA := Ft.out.at.1
      have k2 : V4.cell? ⟨q, 2, none⟩ = some (.slice (some ⟨g, 0, none⟩) n cp) := Qt.out.cell 2
      have x0 : V4.cell? ⟨fb, 0, none⟩ = some (.string f.rc) := Nt.out.cell 0
      have x1 : V4.cell? ⟨fb, 1, none⟩ = some (.string f.st) := Nt.out.cell 1
      have x2 : V4.cell? ⟨fb, 2, none⟩ = some (.int .i64 f.cd) := Nt.out.cell 2
      have x3 : V4.cell? ⟨fb, 3, none⟩ = some (.string f.tx) := Nt.out.cell 3
      have y0 := (hA.cell 0 (by simp)).1
      have y1 := (hA.cell 0 (by simp)).2.1
      have y2 := (hA.cell 0 (by simp)).2.2.1
      have y3 := (hA.cell 0 (by simp)).2.2.2
      simp only [Nat.zero_mul, Nat.zero_add, List.getElem_cons_zero] at y0 y1 y2 y3
      have u0 := hA.free 0
      have u1 := hA.free 1
      have u2 := hA.free 2
      have u3 := hA.free 3
      clear hA
      go_upto_region 30 with fail
      generalize hV : ((((V4.setCell ⟨g, 0, none⟩ (.string f.rc)).setCell ⟨g, 1, none⟩ (.string f.st)).setCell ⟨g, 2, none⟩ (.int .i64 f.cd)).setCell ⟨g, 3, none⟩ (.string f.tx)) = V5
      obtain ⟨o5, b5⟩ : Off g V4 V5 ∧ Below w.heap.size V4 V5 := by rw [← hV]; exact off_set4 (by omega)
      have Ff : Hid (Fls V5 w1.heap.size (.slice (some ⟨g, 0, none⟩) n cp) (⟨f.rc, f.st, f.cd, f.tx⟩ :: L)) := by show Fls _ _ _ _; rw [← hV]; exact fls_set0 (f1 := ⟨f.rc, f.st, f.cd, f.tx⟩) Ft.out
      have Qf : Hid (Blk q #[.string he, .string tw, (.slice (some ⟨g, 0, none⟩) n cp), .string h2] V5) := Qt.out.offB o5 (by omega)
      have Pf : Hid (Blk w.heap.size #[.string ⟨#[]⟩, .string ⟨#[]⟩, .slice none 0 0, .string ⟨#[]⟩] V5) := Pt.out.offB o5 (by omega)
      have Bf : Hid (Below w.heap.size w V5) := Bt.out.trans b5
      clear hV o5 b5 x0 x1 x2 x3 y0 y1 y2 y3 u0 u1 u2 u3 k2 Qt Nt Pt Ft Bt
      have x0 : V5.cell? ⟨q, 0, none⟩ = some (.string he) := Qf.out.cell 0
      have x1 : V5.cell? ⟨q, 1, none⟩ = some (.string tw) := Qf.out.cell 1
      have x2 : V5.cell? ⟨q, 2, none⟩ = some (.slice (some ⟨g, 0, none⟩) n cp) := Qf.out.cell 2
      have x3 : V5.cell? ⟨q, 3, none⟩ = some (.string h2) := Qf.out.cell 3
      have p0 : V5.cell? ⟨w.heap.size, 0, none⟩ = some (.string ⟨#[]⟩) := Pf.out.cell 0
      have p1 : V5.cell? ⟨w.heap.size, 1, none⟩ = some (.string ⟨#[]⟩) := Pf.out.cell 1
      have p2 : V5.cell? ⟨w.heap.size, 2, none⟩ = some (.slice none 0 0) := Pf.out.cell 2
      have p3 : V5.cell? ⟨w.heap.size, 3, none⟩ = some (.string ⟨#[]⟩) := Pf.out.cell 3
      have t0 := Pf.out.free 0
      have t1 := Pf.out.free 1
      have t2 := Pf.out.free 2
      have t3 := Pf.out.free 3
      go_wp2
      generalize hV : (((V5.setCell ⟨w.heap.size, 0, none⟩ (.string he)).setCell ⟨w.heap.size, 1, none⟩ (.string tw)).setCell ⟨w.heap.size, 2, none⟩ (.slice (some ⟨g, 0, none⟩) n cp)).setCell ⟨w.heap.size, 3, none⟩ (.string h2) = Wf
      have PF : Blk w.heap.size #[.string he, .string tw, (.slice (some ⟨g, 0, none⟩) n cp), .string h2] Wf := by rw [← hV]; exact blk_set4 Pf.out
      obtain ⟨oF, bF⟩ : Off w.heap.size V5 Wf ∧ Below w.heap.size V5 Wf := by rw [← hV]; exact off_set4 (Nat.le_refl _)
      have FF : Fls Wf w1.heap.size (.slice (some ⟨g, 0, none⟩) n cp) (⟨f.rc, f.st, f.cd, f.tx⟩ :: L) := fls_off Ff.out oF (fun g hg => by have := (fls_own Ff.out g hg).1; omega)
      have OF : Below w.heap.size w Wf := Bf.out.trans bF
      clear hV oF bF
      have r0 : Wf.cell? ⟨w.heap.size, 0, none⟩ = some (.string he) := PF.cell 0
      have r1 : Wf.cell? ⟨w.heap.size, 1, none⟩ = some (.string tw) := PF.cell 1
      have r2 : Wf.cell? ⟨w.heap.size, 2, none⟩ = some (.slice (some ⟨g, 0, none⟩) n cp) := PF.cell 2
      have r3 : Wf.cell? ⟨w.heap.size, 3, none⟩ = some (.string h2) := PF.cell 3
      refine bodyPost_ret (v := .agg #[.string he, .string tw, (.slice (some ⟨g, 0, none⟩) n cp), .string h2]) (by simp [results, Tryz.results4, go_sem, r0, r1, r2, r3]) rfl ?_
      rw [HR.out]
      exact ⟨⟨_, rfl, fls_lo FF (by omega)⟩, OF⟩
    · 
      have hk' : (k5 : Int) % 10 = 8 := hk
      clear hk
      obtain ⟨h2, hh2⟩ : ∃ h2, hd ++ (⟨#[120]⟩ : ByteArray) = h2 := ⟨_, rfl⟩
      have HR : Hid (mkbF B = ⟨he, tw, ⟨f.rc, f.st, f.cd, f.tx⟩ :: L, h2⟩) := by show _ = _; rw [HSP.out, ← hh2]; rfl
      clear HSP
      have q2 : (⟨#[120]⟩ : ByteArray).size = 1 := rfl
      have x3 : V3.cell? ⟨q, 3, none⟩ = some (.string hd) := Q4.out.cell 3
      have u3 := Q4.out.free 3
      go_upto_region 28 with fail
      try rw [hh2]
      generalize hV : V3.setCell ⟨q, 3, none⟩ (.string h2) = V4
      have Qt : Hid (Blk q #[.string he, .string tw, (.slice (some ⟨g, 0, none⟩) n cp), .string h2] V4) := by show Blk _ _ _; rw [← hV]; exact Q4.out.set (i := 3) (by simp)
      have Nt : Hid (Blk fb #[.string f.rc, .string f.st, .int .i64 f.cd, .string f.tx] V4) := by show Blk _ _ _; rw [← hV]; exact N4.out.other (by omega)
      have Pt : Hid (Blk w.heap.size #[.string ⟨#[]⟩, .string ⟨#[]⟩, .slice none 0 0, .string ⟨#[]⟩] V4) := by show Blk _ _ _; rw [← hV]; exact P4.out.other (by omega)
      have Ft : Hid (Fls V4 w1.heap.size (.slice (some ⟨g, 0, none⟩) n cp) (f :: L)) := by show Fls _ _ _ _; rw [← hV]; exact fls_setO F4.out (fun g' hg => by simp only [Value.ownBlock, Option.some.injEq] at hg; omega) _
      have Bt : Hid (Below w.heap.size w V4) := by show Below _ _ _; rw [← hV]; exact B4.out.setCell (p := ⟨q, 3, none⟩) (by show w.heap.size ≤ q; omega) _
      clear hV Q4 N4 P4 F4 B4
      clear x3 u3
      have hA := Ft.out.at.1
      have k2 : V4.cell? ⟨q, 2, none⟩ = some (.slice (some ⟨g, 0, none⟩) n cp) := Qt.out.cell 2
      have x0 : V4.cell? ⟨fb, 0, none⟩ = some (.string f.rc) := Nt.out.cell 0
      have x1 : V4.cell? ⟨fb, 1, none⟩ = some (.string f.st) := Nt.out.cell 1
      have x2 : V4.cell? ⟨fb, 2, none⟩ = some (.int .i64 f.cd) := Nt.out.cell 2
      have x3 : V4.cell? ⟨fb, 3, none⟩ = some (.string f.tx) := Nt.out.cell 3
      have y0 := (hA.cell 0 (by simp)).1
      have y1 := (hA.cell 0 (by simp)).2.1
      have y2 := (hA.cell 0 (by simp)).2.2.1
      have y3 := (hA.cell 0 (by simp)).2.2.2
      simp only [Nat.zero_mul, Nat.zero_add, List.getElem_cons_zero] at y0 y1 y2 y3
      have u0 := hA.free 0
      have u1 := hA.free 1
      have u2 := hA.free 2
      have u3 := hA.free 3
      clear hA
      go_upto_region 30 with fail
      generalize hV : ((((V4.setCell ⟨g, 0, none⟩ (.string f.rc)).setCell ⟨g, 1, none⟩ (.string f.st)).setCell ⟨g, 2, none⟩ (.int .i64 f.cd)).setCell ⟨g, 3, none⟩ (.string f.tx)) = V5
      obtain ⟨o5, b5⟩ : Off g V4 V5 ∧ Below w.heap.size V4 V5 := by rw [← hV]; exact off_set4 (by omega)
      have Ff : Hid (Fls V5 w1.heap.size (.slice (some ⟨g, 0, none⟩) n cp) (⟨f.rc, f.st, f.cd, f.tx⟩ :: L)) := by show Fls _ _ _ _; rw [← hV]; exact fls_set0 (f1 := ⟨f.rc, f.st, f.cd, f.tx⟩) Ft.out
      have Qf : Hid (Blk q #[.string he, .string tw, (.slice (some ⟨g, 0, none⟩) n cp), .string h2] V5) := Qt.out.offB o5 (by omega)
      have Pf : Hid (Blk w.heap.size #[.string ⟨#[]⟩, .string ⟨#[]⟩, .slice none 0 0, .string ⟨#[]⟩] V5) := Pt.out.offB o5 (by omega)
      have Bf : Hid (Below w.heap.size w V5) := Bt.out.trans b5
      clear hV o5 b5 x0 x1 x2 x3 y0 y1 y2 y3 u0 u1 u2 u3 k2 Qt Nt Pt Ft Bt
      have x0 : V5.cell? ⟨q, 0, none⟩ = some (.string he) := Qf.out.cell 0
      have x1 : V5.cell? ⟨q, 1, none⟩ = some (.string tw) := Qf.out.cell 1
      have x2 : V5.cell? ⟨q, 2, none⟩ = some (.slice (some ⟨g, 0, none⟩) n cp) := Qf.out.cell 2
      have x3 : V5.cell? ⟨q, 3, none⟩ = some (.string h2) := Qf.out.cell 3
      have p0 : V5.cell? ⟨w.heap.size, 0, none⟩ = some (.string ⟨#[]⟩) := Pf.out.cell 0
      have p1 : V5.cell? ⟨w.heap.size, 1, none⟩ = some (.string ⟨#[]⟩) := Pf.out.cell 1
      have p2 : V5.cell? ⟨w.heap.size, 2, none⟩ = some (.slice none 0 0) := Pf.out.cell 2
      have p3 : V5.cell? ⟨w.heap.size, 3, none⟩ = some (.string ⟨#[]⟩) := Pf.out.cell 3
      have t0 := Pf.out.free 0
      have t1 := Pf.out.free 1
      have t2 := Pf.out.free 2
      have t3 := Pf.out.free 3
      go_wp2
      generalize hV : (((V5.setCell ⟨w.heap.size, 0, none⟩ (.string he)).setCell ⟨w.heap.size, 1, none⟩ (.string tw)).setCell ⟨w.heap.size, 2, none⟩ (.slice (some ⟨g, 0, none⟩) n cp)).setCell ⟨w.heap.size, 3, none⟩ (.string h2) = Wf
      have PF : Blk w.heap.size #[.string he, .string tw, (.slice (some ⟨g, 0, none⟩) n cp), .string h2] Wf := by rw [← hV]; exact blk_set4 Pf.out
      obtain ⟨oF, bF⟩ : Off w.heap.size V5 Wf ∧ Below w.heap.size V5 Wf := by rw [← hV]; exact off_set4 (Nat.le_refl _)
      have FF : Fls Wf w1.heap.size (.slice (some ⟨g, 0, none⟩) n cp) (⟨f.rc, f.st, f.cd, f.tx⟩ :: L) := fls_off Ff.out oF (fun g hg => by have := (fls_own Ff.out g hg).1; omega)
      have OF : Below w.heap.size w Wf := Bf.out.trans bF
      clear hV oF bF
      have r0 : Wf.cell? ⟨w.heap.size, 0, none⟩ = some (.string he) := PF.cell 0
      have r1 : Wf.cell? ⟨w.heap.size, 1, none⟩ = some (.string tw) := PF.cell 1
      have r2 : Wf.cell? ⟨w.heap.size, 2, none⟩ = some (.slice (some ⟨g, 0, none⟩) n cp) := PF.cell 2
      have r3 : Wf.cell? ⟨w.heap.size, 3, none⟩ = some (.string h2) := PF.cell 3
      refine bodyPost_ret (v := .agg #[.string he, .string tw, (.slice (some ⟨g, 0, none⟩) n cp), .string h2]) (by simp [results, Tryz.results4, go_sem, r0, r1, r2, r3]) rfl ?_
      rw [HR.out]
      exact ⟨⟨_, rfl, fls_lo FF (by omega)⟩, OF⟩
    · 
      have hk' : (k5 : Int) % 10 = 9 := hk
      clear hk
      obtain ⟨j2, ej2, hj2, lj2⟩ : ∃ j2 : Nat, j % 2 = j2 ∧ (j : Int) % 2 = (j2 : Int) ∧ j2 < 2 := ⟨j % 2, rfl, by omega, by omega⟩
      obtain ⟨N, eN, hN⟩ : ∃ N : Nat, 20 + j2 = N ∧ 20 + (j2 : Int) = (N : Int) := ⟨20 + j2, rfl, by omega⟩
      have hN20 : 20 ≤ N := by omega
      have hN21 : N ≤ 21 := by omega
      have HSP2 : Hid (mkbF B = ⟨he, tw, f :: (L ++ List.replicate (N - n) f), hd⟩) := by show _ = _; rw [HSP.out, ← eN, ← ej2, ← HN.out]; rfl
      clear HSP ej2 eN
      go_wp2_with fail
      try rw [hm']
      try rw [hk']
      go_loopw [] (fun wr => ∃ (r gg cg : Nat), n + r ≤ N ∧ w.heap.size < gg ∧ Hid (Blk q #[.string he, .string tw, (.slice (some ⟨gg, 0, none⟩) (n + r) cg), .string hd] wr) ∧ Hid (Blk fb #[.string f.rc, .string f.st, .int .i64 f.cd, .string f.tx] wr) ∧ Hid (Blk w.heap.size #[.string ⟨#[]⟩, .string ⟨#[]⟩, .slice none 0 0, .string ⟨#[]⟩] wr) ∧ Hid (Fls wr w1.heap.size (.slice (some ⟨gg, 0, none⟩) (n + r) cg) (f :: (L ++ List.replicate r f))) ∧ Hid (gg ≠ q ∧ gg ≠ fb ∧ gg ≠ w.heap.size) ∧ Hid (Below w.heap.size w wr)) (fun wr => 30 - rowN q wr)
      case atStart => exact ⟨0, g, cp, by omega, lgP, Q4, N4, P4, by simpa using F4, ⟨by omega, by omega, by omega⟩, B4⟩
      case round =>
        obtain ⟨r, gg, cg, hrN, lgg, Qr, Nr, Pr, Fr, Dr, Br⟩ := hrel
        clear Q4 N4 P4 F4 B4
        have k2 : wr.cell? ⟨q, 2, none⟩ = some (.slice (some ⟨gg, 0, none⟩) (n + r) cg) := Qr.out.cell 2
        by_cases hlt : n + r < N
        · have hlti : ((n + r : Nat) : Int) < (N : Int) := by omega
          have x0 : wr.cell? ⟨fb, 0, none⟩ = some (.string f.rc) := Nr.out.cell 0
          have x1 : wr.cell? ⟨fb, 1, none⟩ = some (.string f.st) := Nr.out.cell 1
          have x2 : wr.cell? ⟨fb, 2, none⟩ = some (.int .i64 f.cd) := Nr.out.cell 2
          have x3 : wr.cell? ⟨fb, 3, none⟩ = some (.string f.tx) := Nr.out.cell 3
          have hlen : (f :: (L ++ List.replicate r f)).length = n + r := by have := HN.out; simp only [List.length_cons, List.length_append, List.length_replicate]; omega
          have hown' : wr.ownsRow w1.heap.size 31 4 (.slice (some ⟨gg, 0, none⟩) (n + r) cg) (n + r) (frow (f :: (L ++ List.replicate r f))) := by have := Fr.out; unfold Fls at this; rw [hlen] at this; exact this
          have HLE : Hid ((f :: (L ++ List.replicate r f)).length = n + r) := hlen
          clear hlen
          have zq := Qr.out.lt
          have zw : w1.heap.size ≤ wr.heap.size := by have := (fls_own Fr.out gg rfl); omega
          have zf := Nr.out.lt
          have HG2 : rowN q wr = n + r := rowN_eq Qr.out rfl
          have HG : Hid (rowN q wr = n + r) := HG2
          clear HG2
          go_wp2_with (at_builtin; refine wpList_append_lies _ rfl _ _ 23 rfl w1.heap.size 31 i0 (.agg #[.string ⟨#[]⟩, .string ⟨#[]⟩, .int .i64 0, .string ⟨#[]⟩]) 4 56 Tryz.underlying23 hi hy0 hy1 hy2 rfl (by decide) _ _ _ rfl (hown'.alloc _) ⟨wr.heap.size, 0, none⟩ 1 1 (fcells f) rfl rfl ?c1 (fl_one _) (by decide) ?c4 ?c5 ?c6 (wr.heap.size + 1) ?c7 ?_)
          case c1 => exact fun j u hj => World.news_of_block (heap_newB wr _ _) j u (by simpa [fcells] using hj)
          case c4 => unfold maxLen; omega
          case c5 => omega
          case c6 => simp; omega
          case c7 => simp
          intro g7 c7 w7 hown7 hgrow hat hlt7
          have elr : f :: (L ++ List.replicate (r + 1) f) = (f :: (L ++ List.replicate r f)) ++ [f] := by rw [List.replicate_succ']; simp
          have F8 : Hid (Fls w7 w1.heap.size (.slice (some ⟨g7, 0, none⟩) (n + (r + 1)) c7) (f :: (L ++ List.replicate (r + 1) f))) := by
            show Fls _ _ _ _
            rw [elr, ← Nat.add_assoc, ← HLE.out]
            rw [← HLE.out] at hown7
            exact fls_snoc hown7
          have n8 : g7 ≠ q ∧ g7 ≠ fb ∧ g7 ≠ w.heap.size ∧ w.heap.size < g7 := by
            rcases hat with h | h
            · simp only [Value.ownBlock, Option.some.injEq] at h; subst h; exact ⟨Dr.out.1, Dr.out.2.1, Dr.out.2.2, lgg⟩
            · exact ⟨by omega, by omega, by omega, by omega⟩
          have own1 : ∀ k, (Value.slice (some ⟨gg, 0, none⟩) (n + r) cg).ownBlock = some k → k = gg := fun k hk => by simp only [Value.ownBlock, Option.some.injEq] at hk; exact hk.symm
          have b8 : Below w.heap.size wr w7 := Below.grown (below1 _ _ |>.mono (by omega)) hgrow (by simp; omega) (fun g' hg => by have := own1 g' hg; omega)
          have Q8 : Hid (Blk q #[.string he, .string tw, (.slice (some ⟨gg, 0, none⟩) (n + r) cg), .string hd] w7) := blk_grown (Qr.out.alloc _) hgrow (fun e => Dr.out.1 (own1 q e.symm).symm)
          have N8 : Hid (Blk fb #[.string f.rc, .string f.st, .int .i64 f.cd, .string f.tx] w7) := blk_grown (Nr.out.alloc _) hgrow (fun e => Dr.out.2.1 (own1 fb e.symm).symm)
          have P8 : Hid (Blk w.heap.size #[.string ⟨#[]⟩, .string ⟨#[]⟩, .slice none 0 0, .string ⟨#[]⟩] w7) := blk_grown (Pr.out.alloc _) hgrow (fun e => Dr.out.2.2 (own1 _ e.symm).symm)
          have B8 : Hid (Below w.heap.size w w7) := Br.out.trans b8
          have k2' : w7.cell? ⟨q, 2, none⟩ = some (.slice (some ⟨gg, 0, none⟩) (n + r) cg) := Q8.out.cell 2
          have f2' := Q8.out.free 2
          have Q9 : Hid (Blk q #[.string he, .string tw, (.slice (some ⟨g7, 0, none⟩) (n + (r + 1)) c7), .string hd] (w7.setCell ⟨q, 2, none⟩ (.slice (some ⟨g7, 0, none⟩) (n + r + 1) c7))) := Q8.out.set (i := 2) (by simp)
          have N9 : Hid (Blk fb #[.string f.rc, .string f.st, .int .i64 f.cd, .string f.tx] (w7.setCell ⟨q, 2, none⟩ (.slice (some ⟨g7, 0, none⟩) (n + r + 1) c7))) := N8.out.other (by omega)
          have P9 : Hid (Blk w.heap.size #[.string ⟨#[]⟩, .string ⟨#[]⟩, .slice none 0 0, .string ⟨#[]⟩] (w7.setCell ⟨q, 2, none⟩ (.slice (some ⟨g7, 0, none⟩) (n + r + 1) c7))) := P8.out.other (by omega)
          have F9 : Hid (Fls (w7.setCell ⟨q, 2, none⟩ (.slice (some ⟨g7, 0, none⟩) (n + r + 1) c7)) w1.heap.size (.slice (some ⟨g7, 0, none⟩) (n + (r + 1)) c7) (f :: (L ++ List.replicate (r + 1) f))) := fls_setO F8.out (fun g' hg => by simp only [Value.ownBlock, Option.some.injEq] at hg; omega) _
          have B9 : Hid (Below w.heap.size w (w7.setCell ⟨q, 2, none⟩ (.slice (some ⟨g7, 0, none⟩) (n + r + 1) c7))) := B8.out.setCell (p := ⟨q, 2, none⟩) (by show w.heap.size ≤ q; omega) _
          have M9 : Hid (rowN q (w7.setCell ⟨q, 2, none⟩ (.slice (some ⟨g7, 0, none⟩) (n + r + 1) c7)) = n + (r + 1)) := rowN_eq Q9.out rfl
          clear x0 x1 x2 x3 k2 hown' hown7 hgrow hat own1 b8 Q8 N8 P8 B8 F8 elr
          go_wp2
          go_roundw
          case rel => exact ⟨r + 1, g7, c7, by omega, n8.2.2.2, Q9, N9, P9, F9, ⟨n8.1, n8.2.1, n8.2.2.1⟩, B9⟩
          case measure => rw [M9.out, HG.out]; omega
        · have hlti : ¬ ((n + r : Nat) : Int) < (N : Int) := by omega
          have er : N - n = r := by omega
          have HR : Hid (mkbF B = ⟨he, tw, ⟨f.rc, f.st, f.cd, f.tx⟩ :: (L ++ List.replicate r f), hd⟩) := by show _ = _; rw [HSP2.out, er]
          clear HSP2 er
          have Dr' := Dr.out
          go_upto_region 28 with fail
          have Qt := Qr
          have Nt := Nr
          have Pt := Pr
          have Ft := Fr
          have Bt := Br
          have nr0 : 0 < n + r := by omega
          clear Qr Nr Pr Fr Br k2
          have hA := Ft.out.at.1
          have k2 : wr.cell? ⟨q, 2, none⟩ = some (.slice (some ⟨gg, 0, none⟩) (n + r) cg) := Qt.out.cell 2
          have x0 : wr.cell? ⟨fb, 0, none⟩ = some (.string f.rc) := Nt.out.cell 0
          have x1 : wr.cell? ⟨fb, 1, none⟩ = some (.string f.st) := Nt.out.cell 1
          have x2 : wr.cell? ⟨fb, 2, none⟩ = some (.int .i64 f.cd) := Nt.out.cell 2
          have x3 : wr.cell? ⟨fb, 3, none⟩ = some (.string f.tx) := Nt.out.cell 3
          have y0 := (hA.cell 0 (by simp)).1
          have y1 := (hA.cell 0 (by simp)).2.1
          have y2 := (hA.cell 0 (by simp)).2.2.1
          have y3 := (hA.cell 0 (by simp)).2.2.2
          simp only [Nat.zero_mul, Nat.zero_add, List.getElem_cons_zero] at y0 y1 y2 y3
          have u0 := hA.free 0
          have u1 := hA.free 1
          have u2 := hA.free 2
          have u3 := hA.free 3
          clear hA
          go_upto_region 30 with fail
          generalize hV : ((((wr.setCell ⟨gg, 0, none⟩ (.string f.rc)).setCell ⟨gg, 1, none⟩ (.string f.st)).setCell ⟨gg, 2, none⟩ (.int .i64 f.cd)).setCell ⟨gg, 3, none⟩ (.string f.tx)) = V5
          obtain ⟨o5, b5⟩ : Off gg wr V5 ∧ Below w.heap.size wr V5 := by rw [← hV]; exact off_set4 (by omega)
          have Ff : Hid (Fls V5 w1.heap.size (.slice (some ⟨gg, 0, none⟩) (n + r) cg) (⟨f.rc, f.st, f.cd, f.tx⟩ :: (L ++ List.replicate r f))) := by show Fls _ _ _ _; rw [← hV]; exact fls_set0 (f1 := ⟨f.rc, f.st, f.cd, f.tx⟩) Ft.out
          have Qf : Hid (Blk q #[.string he, .string tw, (.slice (some ⟨gg, 0, none⟩) (n + r) cg), .string hd] V5) := Qt.out.offB o5 (by omega)
          have Pf : Hid (Blk w.heap.size #[.string ⟨#[]⟩, .string ⟨#[]⟩, .slice none 0 0, .string ⟨#[]⟩] V5) := Pt.out.offB o5 (by omega)
          have Bf : Hid (Below w.heap.size w V5) := Bt.out.trans b5
          clear hV o5 b5 x0 x1 x2 x3 y0 y1 y2 y3 u0 u1 u2 u3 k2 Qt Nt Pt Ft Bt
          have x0 : V5.cell? ⟨q, 0, none⟩ = some (.string he) := Qf.out.cell 0
          have x1 : V5.cell? ⟨q, 1, none⟩ = some (.string tw) := Qf.out.cell 1
          have x2 : V5.cell? ⟨q, 2, none⟩ = some (.slice (some ⟨gg, 0, none⟩) (n + r) cg) := Qf.out.cell 2
          have x3 : V5.cell? ⟨q, 3, none⟩ = some (.string hd) := Qf.out.cell 3
          have p0 : V5.cell? ⟨w.heap.size, 0, none⟩ = some (.string ⟨#[]⟩) := Pf.out.cell 0
          have p1 : V5.cell? ⟨w.heap.size, 1, none⟩ = some (.string ⟨#[]⟩) := Pf.out.cell 1
          have p2 : V5.cell? ⟨w.heap.size, 2, none⟩ = some (.slice none 0 0) := Pf.out.cell 2
          have p3 : V5.cell? ⟨w.heap.size, 3, none⟩ = some (.string ⟨#[]⟩) := Pf.out.cell 3
          have t0 := Pf.out.free 0
          have t1 := Pf.out.free 1
          have t2 := Pf.out.free 2
          have t3 := Pf.out.free 3
          go_wp2
          generalize hV : (((V5.setCell ⟨w.heap.size, 0, none⟩ (.string he)).setCell ⟨w.heap.size, 1, none⟩ (.string tw)).setCell ⟨w.heap.size, 2, none⟩ (.slice (some ⟨gg, 0, none⟩) (n + r) cg)).setCell ⟨w.heap.size, 3, none⟩ (.string hd) = Wf
          have PF : Blk w.heap.size #[.string he, .string tw, (.slice (some ⟨gg, 0, none⟩) (n + r) cg), .string hd] Wf := by rw [← hV]; exact blk_set4 Pf.out
          obtain ⟨oF, bF⟩ : Off w.heap.size V5 Wf ∧ Below w.heap.size V5 Wf := by rw [← hV]; exact off_set4 (Nat.le_refl _)
          have FF : Fls Wf w1.heap.size (.slice (some ⟨gg, 0, none⟩) (n + r) cg) (⟨f.rc, f.st, f.cd, f.tx⟩ :: (L ++ List.replicate r f)) := fls_off Ff.out oF (fun g hg => by have := (fls_own Ff.out g hg).1; omega)
          have OF : Below w.heap.size w Wf := Bf.out.trans bF
          clear hV oF bF
          have r0 : Wf.cell? ⟨w.heap.size, 0, none⟩ = some (.string he) := PF.cell 0
          have r1 : Wf.cell? ⟨w.heap.size, 1, none⟩ = some (.string tw) := PF.cell 1
          have r2 : Wf.cell? ⟨w.heap.size, 2, none⟩ = some (.slice (some ⟨gg, 0, none⟩) (n + r) cg) := PF.cell 2
          have r3 : Wf.cell? ⟨w.heap.size, 3, none⟩ = some (.string hd) := PF.cell 3
          refine bodyPost_ret (v := .agg #[.string he, .string tw, (.slice (some ⟨gg, 0, none⟩) (n + r) cg), .string hd]) (by simp [results, Tryz.results4, go_sem, r0, r1, r2, r3]) rfl ?_
          rw [HR.out]
          exact ⟨⟨_, rfl, fls_lo FF (by omega)⟩, OF⟩
  · have HR : Hid (mkbF B = ⟨he, tw, f :: L, hd⟩) := by show _ = _; rw [HMK.out]; exact spoC_no (by omega)
    have hmb : ((m : Int) == 4) = false := beq_eq_false_iff_ne.2 (by omega)
    clear HMK x0 x1 x2 x3
    have Qf := Q3
    have Pf := P3
    have Bf := B3
    have Ff := F3
    clear Q3 P3 B3 F3
    have x0 : V.cell? ⟨q, 0, none⟩ = some (.string he) := Qf.out.cell 0
    have x1 : V.cell? ⟨q, 1, none⟩ = some (.string tw) := Qf.out.cell 1
    have x2 : V.cell? ⟨q, 2, none⟩ = some (.slice (some ⟨g, 0, none⟩) n cp) := Qf.out.cell 2
    have x3 : V.cell? ⟨q, 3, none⟩ = some (.string hd) := Qf.out.cell 3
    have p0 : V.cell? ⟨w.heap.size, 0, none⟩ = some (.string ⟨#[]⟩) := Pf.out.cell 0
    have p1 : V.cell? ⟨w.heap.size, 1, none⟩ = some (.string ⟨#[]⟩) := Pf.out.cell 1
    have p2 : V.cell? ⟨w.heap.size, 2, none⟩ = some (.slice none 0 0) := Pf.out.cell 2
    have p3 : V.cell? ⟨w.heap.size, 3, none⟩ = some (.string ⟨#[]⟩) := Pf.out.cell 3
    have t0 := Pf.out.free 0
    have t1 := Pf.out.free 1
    have t2 := Pf.out.free 2
    have t3 := Pf.out.free 3
    go_wp2
    generalize hV : (((V.setCell ⟨w.heap.size, 0, none⟩ (.string he)).setCell ⟨w.heap.size, 1, none⟩ (.string tw)).setCell ⟨w.heap.size, 2, none⟩ (.slice (some ⟨g, 0, none⟩) n cp)).setCell ⟨w.heap.size, 3, none⟩ (.string hd) = Wf
    have PF : Blk w.heap.size #[.string he, .string tw, (.slice (some ⟨g, 0, none⟩) n cp), .string hd] Wf := by rw [← hV]; exact blk_set4 Pf.out
    obtain ⟨oF, bF⟩ : Off w.heap.size V Wf ∧ Below w.heap.size V Wf := by rw [← hV]; exact off_set4 (Nat.le_refl _)
    have FF : Fls Wf w1.heap.size (.slice (some ⟨g, 0, none⟩) n cp) (f :: L) := fls_off Ff.out oF (fun g hg => by have := (fls_own Ff.out g hg).1; omega)
    have OF : Below w.heap.size w Wf := Bf.out.trans bF
    clear hV oF bF
    have r0 : Wf.cell? ⟨w.heap.size, 0, none⟩ = some (.string he) := PF.cell 0
    have r1 : Wf.cell? ⟨w.heap.size, 1, none⟩ = some (.string tw) := PF.cell 1
    have r2 : Wf.cell? ⟨w.heap.size, 2, none⟩ = some (.slice (some ⟨g, 0, none⟩) n cp) := PF.cell 2
    have r3 : Wf.cell? ⟨w.heap.size, 3, none⟩ = some (.string hd) := PF.cell 3
    refine bodyPost_ret (v := .agg #[.string he, .string tw, (.slice (some ⟨g, 0, none⟩) n cp), .string hd]) (by simp [results, Tryz.results4, go_sem, r0, r1, r2, r3]) rfl ?_
    rw [HR.out]
    exact ⟨⟨_, rfl, fls_lo FF (by omega)⟩, OF⟩
end Go.Proofs.YtlolnfpfipnfeaaGreatDoor
