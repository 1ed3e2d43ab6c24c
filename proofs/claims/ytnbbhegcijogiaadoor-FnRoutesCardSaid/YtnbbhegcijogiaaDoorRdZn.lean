import Derived.Test.YtnbbhegcijogiaaDoorRdDom
import Derived.Test.YtnbbhegcijogiaaDoorMxs
import Derived.Deep.DeepCutAuto
import Derived.Deep.CutBlock
namespace Go.Proofs.YtnbbhegcijogiaaDoor
open Go.ChangeShapes Go.WideShapes Go.ChangeAt Go.RowKit

def mxHosts : List ByteArray := [⟨#[109, 120, 46, 111, 110, 101, 46, 101, 120, 97, 109, 112, 108, 101]⟩, ⟨#[109, 120, 50, 46, 111, 110, 101, 46, 101, 120, 97, 109, 112, 108, 101]⟩, ⟨#[111, 110, 101, 46, 101, 120, 97, 109, 112, 108, 101]⟩, ⟨#[116, 119, 111, 46, 101, 120, 97, 109, 112, 108, 101]⟩, ⟨#[104, 46, 105]⟩]


theorem mxs_off_ne {w w1 : World} {lo b : Nat} {v : Value} {L : List Mx} (h : Mxs w lo v L) (ho : Off b w w1) (hb : b < lo) : Mxs w1 lo v L := by
  refine ⟨h.1, ?_⟩
  rcases h.2 with h0 | ⟨g, cap, cur, hv, hl, hg, rest⟩
  · exact .inl h0
  · refine .inr ⟨g, cap, cur, hv, hl, ?_, rest⟩
    rw [ho.block g (Array.getElem?_eq_some_iff.1 hg).1 (by omega)]; exact hg
theorem mxs_set_ne {w : World} {lo : Nat} {v : Value} {L : List Mx} (h : Mxs w lo v L) {p : Addr} (hp : p.block < lo) (u : Value) : Mxs (w.setCell p u) lo v L := by
  refine ⟨h.1, ?_⟩
  rcases h.2 with h0 | ⟨g, cap, cur, hv, hl, hg, rest⟩
  · exact .inl h0
  · refine .inr ⟨g, cap, cur, hv, hl, ?_, rest⟩
    rw [Below.heap_setCell w p u g (by omega)]; exact hg
theorem mxs_one (w : World) (lo g : Nat) (x : Int) (t : ByteArray) (hg : g = w.heap.size) (h : lo ≤ g) : Mxs (w.alloc (.cells #[.int .i64 x, .string t] 34)) lo (.slice (some ⟨g, 0, none⟩) 1 1) [(x, t)] := by
  subst hg
  exact ⟨by rfl, .inr ⟨w.heap.size, 1, _, rfl, h, (MapKept.heap_alloc w _).1, by simp, by decide, rfl, rfl⟩⟩
theorem cell_newG (w : World) (g : Nat) (hg : g = w.heap.size) (X : Array Value) (T i : Nat) : (w.alloc (.cells X T)).cell? ⟨g, i, none⟩ = X[i]? := by subst hg; exact World.cell?_alloc_mark _ _ _ _ _
/-- an exchanger in block M -/
structure MA (w : World) (M : Nat) (P : Int) (Hs : ByteArray) : Prop where
  m0 : w.cell? ⟨M, 0, none⟩ = some (.int .i64 P)
  m1 : w.cell? ⟨M, 1, none⟩ = some (.string Hs)
  fm : ∀ o, w.frozen? ⟨M, o, none⟩ = false
  lm : M < w.heap.size
theorem MA.below {w w1 : World} {N M : Nat} {P : Int} {Hs : ByteArray} (d : MA w M P Hs) (hb : Below N w w1) (hM : M < N) : MA w1 M P Hs :=
  ⟨(hb.cell (p := ⟨M, 0, none⟩) hM).trans d.m0, (hb.cell (p := ⟨M, 1, none⟩) hM).trans d.m1, fun o => (hb.frozen (p := ⟨M, o, none⟩) hM).trans (d.fm o), Nat.lt_of_lt_of_le d.lm hb.size⟩
theorem MA.new (w : World) (M : Nat) (hM : M = w.heap.size) (P : Int) (Hs : ByteArray) : MA (w.alloc (.cells #[.int .i64 P, .string Hs] 34)) M P Hs :=
  ⟨(cell_newG w M hM _ _ 0).trans rfl, (cell_newG w M hM _ _ 1).trans rfl, fun o => World.frozen?_alloc_at _ _ _ _ hM, by simp; omega⟩
theorem MA.set0 {w : World} {M : Nat} {P : Int} {Hs : ByteArray} (d : MA w M P Hs) (P2 : Int) : MA (w.setCell ⟨M, 0, none⟩ (.int .i64 P2)) M P2 Hs :=
  ⟨World.cell?_setCell_same _ _ _ d.m0, (World.cell?_setCell_other _ _ _ _ (by intro e; injection e with _ e2; exact absurd e2 (by decide))).trans d.m1, fun o => by rw [World.frozen?_setCell]; exact d.fm o, by simpa using d.lm⟩
theorem MA.set1 {w : World} {M : Nat} {P : Int} {Hs : ByteArray} (d : MA w M P Hs) (H2 : ByteArray) : MA (w.setCell ⟨M, 1, none⟩ (.string H2)) M P H2 :=
  ⟨(World.cell?_setCell_other _ _ _ _ (by intro e; injection e with _ e2; exact absurd e2 (by decide))).trans d.m0, World.cell?_setCell_same _ _ _ d.m1, fun o => by rw [World.frozen?_setCell]; exact d.fm o, by simpa using d.lm⟩
/-- a zone in block Z, and one for the answer in block R -/
structure ZAt (w : World) (R Z : Nat) (kind : Int) (sv : Value) (addr : Int) : Prop where
  z0 : w.cell? ⟨Z, 0, none⟩ = some (.int .i64 kind)
  z1 : w.cell? ⟨Z, 1, none⟩ = some sv
  z2 : w.cell? ⟨Z, 2, none⟩ = some (.int .i64 addr)
  r0 : w.cell? ⟨R, 0, none⟩ = some (.int .i64 0)
  r1 : w.cell? ⟨R, 1, none⟩ = some (.slice none 0 0)
  r2 : w.cell? ⟨R, 2, none⟩ = some (.int .i64 0)
  fz : ∀ o, w.frozen? ⟨Z, o, none⟩ = false
  fr : ∀ o, w.frozen? ⟨R, o, none⟩ = false
  lz : Z < w.heap.size
  lr : R < w.heap.size
theorem ZAt.off {w w1 : World} {b R Z : Nat} {k a : Int} {sv : Value} (d : ZAt w R Z k sv a) (ho : Off b w w1) (hR : R ≠ b) (hZ : Z ≠ b) : ZAt w1 R Z k sv a :=
  ⟨(ho.cell d.lz hZ).trans d.z0, (ho.cell d.lz hZ).trans d.z1, (ho.cell d.lz hZ).trans d.z2, (ho.cell d.lr hR).trans d.r0, (ho.cell d.lr hR).trans d.r1, (ho.cell d.lr hR).trans d.r2, fun o => (ho.frozen d.lz hZ).trans (d.fz o), fun o => (ho.frozen d.lr hR).trans (d.fr o), Nat.lt_of_lt_of_le d.lz ho.size, Nat.lt_of_lt_of_le d.lr ho.size⟩
theorem ZAt.below {w w1 : World} {N R Z : Nat} {k a : Int} {sv : Value} (d : ZAt w R Z k sv a) (ho : Below N w w1) (hR : R < N) (hZ : Z < N) : ZAt w1 R Z k sv a :=
  ⟨(ho.cell (p := ⟨Z, 0, none⟩) hZ).trans d.z0, (ho.cell (p := ⟨Z, 1, none⟩) hZ).trans d.z1, (ho.cell (p := ⟨Z, 2, none⟩) hZ).trans d.z2, (ho.cell (p := ⟨R, 0, none⟩) hR).trans d.r0, (ho.cell (p := ⟨R, 1, none⟩) hR).trans d.r1, (ho.cell (p := ⟨R, 2, none⟩) hR).trans d.r2, fun o => (ho.frozen (p := ⟨Z, o, none⟩) hZ).trans (d.fz o), fun o => (ho.frozen (p := ⟨R, o, none⟩) hR).trans (d.fr o), Nat.lt_of_lt_of_le d.lz ho.size, Nat.lt_of_lt_of_le d.lr ho.size⟩

theorem ZAt.set1 {w : World} {R Z : Nat} {k a : Int} {sv : Value} (d : ZAt w R Z k sv a) (hne : Z ≠ R) (u : Value) : ZAt (w.setCell ⟨Z, 1, none⟩ u) R Z k u a :=
  ⟨(World.cell?_setCell_other _ _ _ _ (by intro e; injection e with _ e2; exact absurd e2 (by decide))).trans d.z0, World.cell?_setCell_same _ _ _ d.z1, (World.cell?_setCell_other _ _ _ _ (by intro e; injection e with _ e2; exact absurd e2 (by decide))).trans d.z2,
   (World.cell?_setCell_other _ _ _ _ (by intro e; injection e with e2; exact hne e2)).trans d.r0, (World.cell?_setCell_other _ _ _ _ (by intro e; injection e with e2; exact hne e2)).trans d.r1, (World.cell?_setCell_other _ _ _ _ (by intro e; injection e with e2; exact hne e2)).trans d.r2,
   fun o => by rw [World.frozen?_setCell]; exact d.fz o, fun o => by rw [World.frozen?_setCell]; exact d.fr o, by simpa using d.lz, by simpa using d.lr⟩

set_option maxHeartbeats 4000000 in
set_option maxRecDepth 100000 in
theorem rdZone (b p : Nat) (cv : Value) (B : List UInt8) (w : World) (h : RdAt w b cv B p) :
    Calls Tryd.prog 19 #[.pointer (some ⟨b, 0, none⟩)] w fun e w' => (∃ (kind addr : Int) (v : Value) (L : List Mx) (q : Nat), L.length ≤ 40 ∧ (∀ x ∈ L, x.2.size ≤ 100) ∧ e = .returned (.agg #[.int .i64 kind, v, .int .i64 addr]) ∧ Mxs w' w.heap.size v L ∧ RdAt w' b cv B q) ∧ Off b w w' := by
  have H : Hid (RdAt w b cv B p) := h
  have hbz : b < w.heap.size := h.2.2.2.1
  clear h
  go_enter Tryd.func19, Tryd.ntmps19
  go_wp2_with fail
  generalize hW : w.alloc _ = W
  have HbW : Hid (Below w.heap.size w W) := by show Below _ _ _; rw [← hW]; exact below1 _ _
  have hWz : w.heap.size < W.heap.size := by rw [← hW]; simp
  have zz : W.cell? ⟨w.heap.size, 0, none⟩ = some (.int .i64 0) ∧ W.cell? ⟨w.heap.size, 1, none⟩ = some (.slice none 0 0) ∧ W.cell? ⟨w.heap.size, 2, none⟩ = some (.int .i64 0) ∧ ∀ o, W.frozen? ⟨w.heap.size, o, none⟩ = false := by
    rw [← hW]; exact ⟨World.cell?_alloc_mark _ _ _ _ _, World.cell?_alloc_mark _ _ _ _ _, World.cell?_alloc_mark _ _ _ _ _, fun o => World.frozen?_alloc_at _ _ _ _ rfl⟩
  clear hW
  refine (rdNext b p cv B _ (H.out.below HbW.out (Nat.le_refl _))).mono ?_
  rintro e w1 ⟨rfl, h1, ho1⟩
  have hc := nx_lt B p
  have H1 : Hid (RdAt w1 b cv B (px B p)) := h1
  clear h1
  generalize nx B p = c at *
  generalize px B p = q1 at *
  obtain ⟨z0, z1, z2, zf⟩ := zz
  have y0 := (ho1.cell (k := w.heap.size) (i := 0) hWz (by omega)).trans z0
  have y1 := (ho1.cell (k := w.heap.size) (i := 1) hWz (by omega)).trans z1
  have y2 := (ho1.cell (k := w.heap.size) (i := 2) hWz (by omega)).trans z2
  have yf : ∀ o, w1.frozen? ⟨w.heap.size, o, none⟩ = false := fun o => (ho1.frozen (k := w.heap.size) (i := o) hWz (by omega)).trans (zf o)
  have hlt1 : w.heap.size < w1.heap.size := Nat.lt_of_lt_of_le hWz ho1.size
  have HO : Hid (Off b w w1) := (Off.of_below HbW.out).trans ho1
  clear z0 z1 z2 zf ho1 HbW hWz
  go_upto_region 3 with fail
  generalize hW2 : w1.alloc _ = W2
  obtain ⟨ad, had⟩ : ∃ ad : Int, 1 + (c : Int) / 8 % 4 = ad := ⟨_, rfl⟩
  rw [had] at hW2
  have hb2 : Below w1.heap.size w1 W2 := by rw [← hW2]; exact below1 _ _
  have HZ : Hid (ZAt W2 w.heap.size w1.heap.size 1 (.slice none 0 0) ad) := by
    show ZAt _ _ _ _ _ _
    rw [← hW2]
    exact ⟨World.cell?_alloc_mark _ _ _ _ _, World.cell?_alloc_mark _ _ _ _ _, World.cell?_alloc_mark _ _ _ _ _, (World.cell?_alloc_lt _ _ ⟨w.heap.size, 0, none⟩ hlt1).trans y0, (World.cell?_alloc_lt _ _ ⟨w.heap.size, 1, none⟩ hlt1).trans y1, (World.cell?_alloc_lt _ _ ⟨w.heap.size, 2, none⟩ hlt1).trans y2, fun o => World.frozen?_alloc_at _ _ _ _ rfl, fun o => ((below1 w1 _).frozen (p := ⟨w.heap.size, o, none⟩) hlt1).trans (yf o), by simp, by simp; omega⟩
  have H2 : Hid (RdAt W2 b cv B q1) := H1.out.below hb2 (Nat.le_refl _)
  have HO2 : Hid (Off b w W2) := HO.out.trans (Off.of_below hb2)
  clear hW2 hb2 y0 y1 y2 yf HO H1
  have FIN : Hid (∀ wx, Below w.heap.size W2 wx → RdAt wx b cv B q1 ∧ Off b w wx) := fun wx hx => ⟨H.out.carry H2.out hx, HO2.out.carry hx (Nat.le_refl _)⟩
  obtain ⟨m8, hm8, hm8l⟩ : ∃ m : Nat, (c : Int) % 8 = (m : Int) ∧ m < 8 := ⟨c % 8, by omega, by omega⟩
  obtain ⟨z0, z1, z2, r0, r1, r2, fz, fr, lz, lr⟩ := HZ.out
  by_cases c5 : m8 = 5
  · subst c5
    go_wp2
    refine bodyPost_ret (v := .agg #[.int .i64 (2), .slice none 0 0, .int .i64 ad]) (by simp [results, Tryd.results19, go_sem, r0, r1, r2]) rfl ?_
    refine ⟨⟨_, _, _, [], q1, by decide, by simp, rfl, ⟨by rfl, .inl ⟨rfl, rfl⟩⟩, (FIN.out _ ?hb5).1⟩, (FIN.out _ ?hb5).2⟩
    repeat (refine Below.setCell ?_ (by simp; try omega) _)
    exact Below.refl _ _
  · by_cases c6 : m8 = 6
    · subst c6
      go_wp2
      refine bodyPost_ret (v := .agg #[.int .i64 ((c : Int) / 8 % 6), .slice none 0 0, .int .i64 ad]) (by simp [results, Tryd.results19, go_sem, r0, r1, r2]) rfl ?_
      refine ⟨⟨_, _, _, [], q1, by decide, by simp, rfl, ⟨by rfl, .inl ⟨rfl, rfl⟩⟩, (FIN.out _ ?hb6).1⟩, (FIN.out _ ?hb6).2⟩
      repeat (refine Below.setCell ?_ (by simp; try omega) _)
      exact Below.refl _ _
    · by_cases c7 : m8 = 7
      · subst c7
        go_wp2
        refine bodyPost_ret (v := .agg #[.int .i64 (1), .slice (some ⟨W2.heap.size, 0, none⟩) 1 1, .int .i64 ad]) (by simp [results, Tryd.results19, go_sem, World.cell?_alloc_lt, lr, r0, r1, r2]) rfl ?_
        refine ⟨⟨_, _, _, [((c : Int) / 8 % 2, ⟨#[46]⟩)], q1, by simp, ?hs, rfl, ?hm, (FIN.out _ ?hb7).1⟩, (FIN.out _ ?hb7).2⟩
        case hm => exact mxs_one _ _ _ _ _ (by simp) (Nat.le_of_lt lr)
        case hs => intro x hx; simp at hx; subst hx; exact (show (1 : Nat) ≤ 100 by decide)
        case hb7 =>
          refine Below.alloc ?_ (by simp; omega) _
          repeat (refine Below.setCell ?_ (by simp; try omega) _)
          exact Below.refl _ _
      · have b5 : ((m8 : Int) == 5) = false := beq_eq_false_iff_ne.2 (by omega)
        have b6 : ((m8 : Int) == 6) = false := beq_eq_false_iff_ne.2 (by omega)
        have b7 : ((m8 : Int) == 7) = false := beq_eq_false_iff_ne.2 (by omega)
        go_upto_if 41 with fail
        go_cut [5] (fun nv wx => ∃ n : Nat, n ≤ 33 ∧ nv = .int .i64 n ∧ wx = W2)
        case first =>
          by_cases c240 : 240 < c
          · go_wp2_with fail
            go_meet
            exact ⟨32 + c % 3 - 1, by omega, by go_num, rfl⟩
          · go_wp2_with fail
            go_meet
            exact ⟨c / 8 % 5, by omega, by go_num, rfl⟩
        case rest =>
        obtain ⟨n, hn, rfl, hwc⟩ := hcut
        subst hwc
        clear z0 z1 z2 r0 r1 r2 fz fr b5 b6 b7 hm8 hm8l c5 c6 c7 had hc FIN
        go_wp2
        go_loopw [5] (fun nv wr => ∃ (k : Nat) (L : List Mx) (sv : Value) (q : Nat), k + L.length ≤ 33 ∧ nv = .int .i64 k ∧ Hid (∀ x ∈ L, x.2.size ≤ 100) ∧ Hid (ZAt wr w.heap.size w1.heap.size 1 sv ad) ∧ Hid (Mxs wr (w1.heap.size + 1) sv L) ∧ Hid (RdAt wr b cv B q) ∧ Hid (Off b w wr)) (fun nv _ => (intOf nv).toNat)
        case atStart => exact ⟨n, [], .slice none 0 0, q1, by simpa using hn, rfl, by intro x hx; simp at hx, HZ, ⟨by rfl, .inl ⟨rfl, rfl⟩⟩, H2, HO2⟩
        case round =>
          obtain ⟨k, L, sv, q, hk, rfl, HS, HZr, HM, HR, HOr⟩ := hrel
          by_cases hk0 : 0 < k
          · go_wp2_with fail
            refine (rdNext b q cv B _ HR.out).mono ?_
            rintro e w2 ⟨rfl, h2, ho2⟩
            have hv := nx_lt B q
            have HR2 : Hid (RdAt w2 b cv B (px B q)) := h2
            have HZ2 : Hid (ZAt w2 w.heap.size w1.heap.size 1 sv ad) := HZr.out.off ho2 (by omega) (by omega)
            have HM2 : Hid (Mxs w2 (w1.heap.size + 1) sv L) := mxs_off_ne HM.out ho2 (by omega)
            have HO3 : Hid (Off b w w2) := HOr.out.trans ho2
            have hZl : w1.heap.size < w2.heap.size := HZ2.out.lz
            clear h2 ho2 HM HR HOr HZr
            generalize nx B q = v at *
            generalize px B q = q2 at *
            obtain ⟨m, hm, hm5⟩ : ∃ m : Nat, (v : Int) / 4 % 5 = (m : Int) ∧ m < 5 := ⟨v / 4 % 5, by omega, by omega⟩
            obtain ⟨y, hy, ey⟩ := pickV mxHosts 15 (by decide) m hm5
            simp only [mxHosts, List.map_cons, List.map_nil] at ey
            go_upto_if 63 with fail
            generalize hW3 : World.alloc (World.alloc _ _) _ = W3
            have hb3 : Below w2.heap.size w2 W3 := by rw [← hW3]; exact (below1 _ _).trans ((below1 _ _).mono (by simp))
            have HA3 : Hid (MA W3 (w2.heap.size + 1) ((v : Int) % 4 * 5) y) := by show MA _ _ _ _; rw [← hW3]; exact MA.new _ _ (by simp) _ _
            obtain ⟨z0, z1, z2, r0, r1, r2, fz, fr, lz, lr⟩ := (HZ2.out.below hb3 (by omega) hZl)
            have HB3 : Hid (Below w2.heap.size w2 W3) := hb3
            clear hW3 hb3 ey hm
            obtain ⟨m0, m1, fm, lm⟩ := HA3.out
            go_cut [] (fun wx => ∃ (P : Int) (Hs : ByteArray), Hs.size ≤ 100 ∧ Hid (Below w2.heap.size w2 wx) ∧ Hid (MA wx (w2.heap.size + 1) P Hs))
            case first =>
              by_cases v220 : 220 < v
              · go_wp2_with fail
                refine (specDec v v (Nat.le_refl _) (by omega) _).mono ?_
                rintro e w4 ⟨rfl, hb4⟩
                have hs4 := dec_small (n := v) (by omega)
                have HA4 : Hid (MA w4 (w2.heap.size + 1) ((v : Int) % 4 * 5) y) := HA3.out.below hb4 lm
                have HB4 : Hid (Below w2.heap.size w2 w4) := HB3.out.trans (hb4.mono HB3.out.size)
                generalize (⟨(Lib.decDigits v).toArray⟩ : ByteArray) = F2 at *
                have e1 : (⟨#[104]⟩ : ByteArray).size = 1 := rfl
                have e2 : (⟨#[46, 120]⟩ : ByteArray).size = 2 := rfl
                clear m0 m1 fm
                obtain ⟨m0, m1, fm, lm⟩ := HA4.out
                clear hb4
                go_wp2_with fail
                go_meet
                refine ⟨_, _, ?_, HB4.out.setCell (by simp) _, HA4.out.set1 _⟩
                simp only [ByteArray.size_append]
                omega
              · go_wp2_with fail
                go_meet
                exact ⟨_, y, by omega, HB3, HA3⟩
            case rest =>
            obtain ⟨P, Hs, hHs, HB4, HA4⟩ := hcut
            clear m0 m1 fm lm z0 z1 z2 r0 r1 r2 fz fr lz lr HB3 HA3
            obtain ⟨W4, hW4⟩ : ∃ W4, wc = W4 := ⟨_, rfl⟩
            rw [hW4] at HB4 HA4
            rw [hW4]
            clear hW4 wc
            obtain ⟨m0, m1, fm, lm⟩ := HA4.out
            go_upto_block 3 with fail
            go_cut [] (fun wx => ∃ (P : Int) (Hs : ByteArray), Hs.size ≤ 100 ∧ Hid (Below w2.heap.size w2 wx) ∧ Hid (MA wx (w2.heap.size + 1) P Hs))
            case first =>
              by_cases v63 : v = 63
              · subst v63
                go_wp2_with fail
                go_meet
                exact ⟨P, ⟨#[46]⟩, by decide, HB4.out.setCell (by simp) _, HA4.out.set1 _⟩
              · have b63 : ((v : Int) == 63) = false := beq_eq_false_iff_ne.2 (by omega)
                by_cases v127 : v = 127
                · subst v127
                  go_wp2_with fail
                  go_meet
                  exact ⟨65536, Hs, hHs, HB4.out.setCell (by simp) _, HA4.out.set0 _⟩
                · have b127 : ((v : Int) == 127) = false := beq_eq_false_iff_ne.2 (by omega)
                  by_cases v191 : v = 191
                  · subst v191
                    go_wp2_with fail
                    go_meet
                    exact ⟨-1, Hs, hHs, HB4.out.setCell (by simp) _, HA4.out.set0 _⟩
                  · have b191 : ((v : Int) == 191) = false := beq_eq_false_iff_ne.2 (by omega)
                    by_cases v192 : v = 192
                    · subst v192
                      go_wp2_with fail
                      go_meet
                      exact ⟨P, ⟨#[66, 97, 100]⟩, by decide, HB4.out.setCell (by simp) _, HA4.out.set1 _⟩
                    · have b192 : ((v : Int) == 192) = false := beq_eq_false_iff_ne.2 (by omega)
                      go_wp2_with fail
                      go_meet
                      exact ⟨P, Hs, hHs, HB4, HA4⟩
            case rest =>
            obtain ⟨P5, Hs5, hHs5, HB5, HA5⟩ := hcut
            clear m0 m1 fm lm HA4 HB4 hHs
            obtain ⟨w5, hw5⟩ : ∃ w5, wc = w5 := ⟨_, rfl⟩
            rw [hw5] at HB5 HA5
            rw [hw5]
            clear hw5 wc
            have HZ5 : Hid (ZAt w5 w.heap.size w1.heap.size 1 sv ad) := HZ2.out.below HB5.out (by omega) hZl
            have HM5 : Hid (Mxs w5 (w1.heap.size + 1) sv L) := mxs_below HM2.out HB5.out (Nat.le_refl _)
            have hz5 := HB5.out.size
            obtain ⟨z0, z1, z2, r0, r1, r2, fz, fr, lz, lr⟩ := HZ5.out
            obtain ⟨m0, m1, fm, lm⟩ := HA5.out
            have hlos := mxs_lo HM5.out
            have hown' : w5.ownsRow (w1.heap.size + 1) 34 2 sv L.length (mxRow L) := HM5.out
            obtain ⟨i0, hi, hx0, hx1, hx2⟩ := info_parts infoMx
            obtain ⟨a1, c1, rfl⟩ := mxs_form HM5.out
            go_wp2_with (at_builtin; refine wpList_append_lies _ rfl _ _ 23 rfl (w1.heap.size + 1) 34 i0 (.agg #[.int .i64 0, .string ⟨#[]⟩]) 2 24 Tryd.underlying23 hi hx0 hx1 hx2 rfl (by decide) _ _ _ rfl (hown'.alloc _) ⟨w5.heap.size, 0, none⟩ 1 1 [.int .i64 P5, .string Hs5] rfl rfl ?c1 ?c2 ?c3 ?c4 ?c5 ?c6 (w5.heap.size + 1) ?c7 ?_)
            case c1 =>
              intro j u hj
              exact World.news_of_block (lk_newR _ _ _ rfl) j u (by simpa using hj)
            case c2 => intro u hu; simp at hu; rcases hu with rfl | rfl <;> rfl
            case c3 => decide
            case c4 => unfold maxLen; omega
            case c5 => omega
            case c6 => simp; omega
            case c7 => simp
            intro g cap2 w7 hown7 hgrow hat hlt7
            have HM7 : Hid (Mxs w7 (w1.heap.size + 1) (.slice (some ⟨g, 0, none⟩) (L.length + 1) cap2) (L ++ [(P5, Hs5)])) := by
              show Mxs _ _ _ _
              unfold Mxs
              rw [mxRow_snoc, List.length_append]
              exact hown7
            have HB7 : Hid (Below (w1.heap.size + 1) w5 w7) := ((Below.refl _ w5).alloc (by omega) _).grown hgrow (by simp; omega) hlos
            have HZ7 : Hid (ZAt w7 w.heap.size w1.heap.size 1 (.slice a1 L.length c1) ad) := HZ5.out.below HB7.out (by omega) (by omega)
            clear hown7 hgrow hat hown' hlos z0 z1 z2 r0 r1 r2 fz fr lz lr m0 m1 fm lm
            obtain ⟨z0, z1, z2, r0, r1, r2, fz, fr, lz, lr⟩ := HZ7.out
            go_wp2
            go_roundw
            case rel =>
              have hb9 : Below w.heap.size w2 (w7.setCell ⟨w1.heap.size, 1, none⟩ (.slice (some ⟨g, 0, none⟩) (L.length + 1) cap2)) := ((HB5.out.mono (by omega)).trans (HB7.out.mono (by omega))).setCell (by show _ ≤ w1.heap.size; omega) _
              refine ⟨k - 1, L ++ [(P5, Hs5)], _, q2, by simp; omega, by go_num, ?_, HZ7.out.set1 (by omega) _, mxs_set_ne HM7.out (by show w1.heap.size < _; omega) _, H.out.carry HR2.out hb9, HO3.out.carry hb9 (Nat.le_refl _)⟩
              intro x hx
              rcases List.mem_append.1 hx with hx | hx
              · exact HS.out x hx
              · simp at hx; subst hx; exact hHs5
            case measure => simp [intOf]; omega
          · obtain rfl : k = 0 := by omega
            obtain ⟨z0, z1, z2, r0, r1, r2, fz, fr, lz, lr⟩ := HZr.out
            obtain ⟨a1, c1, rfl⟩ := mxs_form HM.out
            go_wp2
            refine bodyPost_ret (v := .agg #[.int .i64 1, .slice a1 L.length c1, .int .i64 ad]) (by simp [results, Tryd.results19, go_sem, r0, r1, r2]) rfl ?_
            refine ⟨⟨_, _, _, L, q, by omega, HS.out, rfl, mxs_le (lo := w1.heap.size + 1) ?hm8 (by omega), H.out.carry HR.out ?hb8⟩, HOr.out.carry ?hb8 (Nat.le_refl _)⟩
            case hm8 =>
              repeat (refine mxs_set_ne ?_ (by simp; try omega) _)
              exact HM.out
            case hb8 =>
              repeat (refine Below.setCell ?_ (by simp; try omega) _)
              exact Below.refl _ _
end Go.Proofs.YtnbbhegcijogiaaDoor
