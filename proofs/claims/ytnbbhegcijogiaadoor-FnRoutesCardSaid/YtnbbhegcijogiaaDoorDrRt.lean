import Derived.Test.YtnbbhegcijogiaaDoorRdZn
import Derived.Deep.RegionLaw
namespace Go.Proofs.YtnbbhegcijogiaaDoor
open Go.ChangeShapes Go.WideShapes Go.ChangeAt Go.RowKit
attribute [local go_sem ↓] Go.wp_at_zero Go.wp_at_succ

/-- the reader in block b, the answer's zone in block R, the drawn zone in block Z with its exchangers -/
structure DrZ (w : World) (b R Z : Nat) (cv : Value) (B : List UInt8) (kind addr : Int) (sv : Value) (L : List Mx) (wr : World) : Prop where
  rd : ∃ q, RdAt wr b cv B q
  za : ZAt wr R Z kind sv addr
  mx : Mxs wr (w.heap.size + 2) sv L
  be : Below w.heap.size w wr
theorem mxs_below_lo {w w' : World} {lo B : Nat} {v : Value} {L : List Mx} (h : Mxs w lo v L) (hb : Below B w w') (hB : ∀ g, v.ownBlock = some g → g < B) : Mxs w' lo v L := by
  refine ⟨h.1, ?_⟩
  rcases h.2 with h0 | ⟨g, cap, cur, hv, hl, hg, rest⟩
  · exact .inl h0
  · refine .inr ⟨g, cap, cur, hv, hl, ?_, rest⟩
    rw [hb.block g (hB g (by rw [hv]; rfl))]; exact hg

theorem row_below {w w' : World} {lo T k n : Nat} {v : Value} {xs : List Value} (h : w.ownsRow lo T k v n xs) {B : Nat} (hb : Below B w w') (hB : w.heap.size ≤ B) : w'.ownsRow lo T k v n xs := by
  refine ⟨h.1, ?_⟩
  rcases h.2 with h0 | ⟨g, cap, cur, hv, hl, hg, rest⟩
  · exact .inl h0
  · refine .inr ⟨g, cap, cur, hv, hl, ?_, rest⟩
    rw [hb.block g (Nat.lt_of_lt_of_le (Array.getElem?_eq_some_iff.1 hg).1 hB)]; exact hg
theorem World.cell?_drew' (w : World) (a : Addr) : w.drew.cell? a = w.cell? a := by simp
theorem ne_off {b i j : Nat} (h : i ≠ j) : (⟨b, i, none⟩ : Addr) ≠ ⟨b, j, none⟩ := by intro e; injection e with _ e2; exact h e2
theorem ne_blk {a b i j : Nat} (h : a ≠ b) : (⟨a, i, none⟩ : Addr) ≠ ⟨b, j, none⟩ := by intro e; injection e with e2; exact h e2
theorem ZAt.set3 {w : World} {R Z : Nat} {k a : Int} {sv : Value} (d : ZAt w R Z k sv a) (hne : Z ≠ R) (k' : Int) (u : Value) (a' : Int) : ZAt (((w.setCell ⟨Z, 0, none⟩ (.int .i64 k')).setCell ⟨Z, 1, none⟩ u).setCell ⟨Z, 2, none⟩ (.int .i64 a')) R Z k' u a' := by
  have x0 : (w.setCell ⟨Z, 0, none⟩ (.int .i64 k')).cell? ⟨Z, 0, none⟩ = some (.int .i64 k') := World.cell?_setCell_same _ _ _ d.z0
  have x1 : (w.setCell ⟨Z, 0, none⟩ (.int .i64 k')).cell? ⟨Z, 1, none⟩ = some sv := (World.cell?_setCell_other _ _ _ _ (ne_off (by decide))).trans d.z1
  have x2 : ((w.setCell ⟨Z, 0, none⟩ (.int .i64 k')).setCell ⟨Z, 1, none⟩ u).cell? ⟨Z, 2, none⟩ = some (.int .i64 a) := (World.cell?_setCell_other _ _ _ _ (ne_off (by decide))).trans ((World.cell?_setCell_other _ _ _ _ (ne_off (by decide))).trans d.z2)
  have y : ∀ i, (((w.setCell ⟨Z, 0, none⟩ (.int .i64 k')).setCell ⟨Z, 1, none⟩ u).setCell ⟨Z, 2, none⟩ (.int .i64 a')).cell? ⟨R, i, none⟩ = w.cell? ⟨R, i, none⟩ := fun i =>
    (World.cell?_setCell_other _ _ _ _ (ne_blk hne)).trans ((World.cell?_setCell_other _ _ _ _ (ne_blk hne)).trans (World.cell?_setCell_other _ _ _ _ (ne_blk hne)))
  refine ⟨(World.cell?_setCell_other _ _ _ _ (ne_off (by decide))).trans ((World.cell?_setCell_other _ _ _ _ (ne_off (by decide))).trans x0), (World.cell?_setCell_other _ _ _ _ (ne_off (by decide))).trans (World.cell?_setCell_same _ _ _ x1), World.cell?_setCell_same _ _ _ x2, (y 0).trans d.r0, (y 1).trans d.r1, (y 2).trans d.r2, fun o => ?_, fun o => ?_, by simpa using d.lz, by simpa using d.lr⟩
  · rw [World.frozen?_setCell, World.frozen?_setCell, World.frozen?_setCell]; exact d.fz o
  · rw [World.frozen?_setCell, World.frozen?_setCell, World.frozen?_setCell]; exact d.fr o

set_option maxHeartbeats 4000000 in
set_option maxRecDepth 100000 in
theorem drawRoute (cv : Value) (B : List UInt8) (w : World) (hC : CodeAt w cv B) :
    Calls Tryd.prog 5 #[cv] w fun e w' => (∃ (d : ByteArray) (kind addr : Int) (v : Value) (L : List Mx) (seed : Nat), d.size ≤ 300 ∧ L.length ≤ 40 ∧ (∀ x ∈ L, x.2.size ≤ 100) ∧ seed < 65536 ∧ e = .returned (.tuple #[.string d, .agg #[.int .i64 kind, v, .int .i64 addr], .int .u32 seed]) ∧ Mxs w' w.heap.size v L) ∧ Below w.heap.size w w' := by
  obtain ⟨ca, cc, rfl⟩ := hC.form
  have HC : Hid (CodeAt w (.slice ca B.length cc) B) := hC
  clear hC
  go_enter Tryd.func5, Tryd.ntmps5
  go_wp2_with fail
  generalize hW : World.alloc (World.alloc _ _) _ = W
  have hb0 : Below w.heap.size w W := by rw [← hW]; exact (below1 _ _).trans ((below1 _ _).mono (by simp))
  have H0 : Hid (RdAt W (w.heap.size + 1) (.slice ca B.length cc) B 0) := by
    show RdAt _ _ _ _ _
    rw [← hW]
    have := rd_new (w.alloc (.cells #[.int .i64 0, .slice none 0 0, .int .i64 0] 25)) _ B (HC.out.below (below1 _ _))
    simpa using this
  have zz : W.cell? ⟨w.heap.size, 0, none⟩ = some (.int .i64 0) ∧ W.cell? ⟨w.heap.size, 1, none⟩ = some (.slice none 0 0) ∧ W.cell? ⟨w.heap.size, 2, none⟩ = some (.int .i64 0) ∧ ∀ o, W.frozen? ⟨w.heap.size, o, none⟩ = false := by
    rw [← hW]
    have lt : w.heap.size < (w.alloc (.cells #[.int .i64 0, .slice none 0 0, .int .i64 0] 25)).heap.size := by simp
    exact ⟨(World.cell?_alloc_lt _ _ ⟨w.heap.size, 0, none⟩ lt).trans (World.cell?_alloc_mark _ _ _ _ _), (World.cell?_alloc_lt _ _ ⟨w.heap.size, 1, none⟩ lt).trans (World.cell?_alloc_mark _ _ _ _ _), (World.cell?_alloc_lt _ _ ⟨w.heap.size, 2, none⟩ lt).trans (World.cell?_alloc_mark _ _ _ _ _), fun o => ((below1 _ _).frozen (p := ⟨w.heap.size, o, none⟩) lt).trans (World.frozen?_alloc_at _ _ _ _ rfl)⟩
  have hWz : w.heap.size + 1 < W.heap.size := by rw [← hW]; simp
  clear hW
  refine (rdNext _ _ _ B _ H0.out).mono ?_
  rintro e w1 ⟨rfl, h1, ho1⟩
  have hc := nx_lt B 0
  have H1 : Hid (RdAt w1 (w.heap.size + 1) (.slice ca B.length cc) B (px B 0)) := h1
  have HO1 : Hid (Off (w.heap.size + 1) W w1) := ho1
  clear h1 ho1
  generalize nx B 0 = c at *
  generalize px B 0 = q1 at *
  go_wp2_with fail
  refine (rdDom _ _ _ B _ H1.out).mono ?_
  rintro e w2 ⟨⟨d, q2, hd, rfl, h2⟩, ho2⟩
  have H2 : Hid (RdAt w2 (w.heap.size + 1) (.slice ca B.length cc) B q2) := h2
  have HO2 : Hid (Off (w.heap.size + 1) W w2) := HO1.out.trans ho2
  clear h2 ho2 H1 HO1
  go_upto_if 19 with fail
  go_cut [7] (fun dv wx => ∃ (d : ByteArray) (q : Nat), d.size ≤ 300 ∧ dv = .string d ∧ Hid (RdAt wx (w.heap.size + 1) (.slice ca B.length cc) B q) ∧ Hid (Off (w.heap.size + 1) W wx))
  case first =>
    by_cases c11 : c % 12 = 11
    · have c11i : ((c : Int) % 12 == 11) = true := by rw [beq_iff_eq]; omega
      go_wp2_with fail
      refine (rdSpoil _ _ _ B d _ H2.out (by omega)).mono ?_
      rintro e w3 ⟨⟨t, q3, ht, rfl, h3⟩, ho3⟩
      have HO3 : Hid (Off (w.heap.size + 1) W w3) := HO2.out.trans ho3
      have H3 : Hid (RdAt w3 (w.heap.size + 1) (.slice ca B.length cc) B q3) := h3
      clear h3 ho3
      go_wp2_with fail
      go_meet
      exact ⟨t, q3, by omega, rfl, H3, HO3⟩
    · have c11i : ((c : Int) % 12 == 11) = false := by rw [beq_eq_false_iff_ne]; omega
      go_wp2_with fail
      go_meet
      exact ⟨d, q2, by omega, rfl, H2, HO2⟩
  case rest =>
  obtain ⟨d, q, hd, rfl, H3, HO3⟩ := hcut
  clear H2 HO2
  obtain ⟨w3, hw3⟩ : ∃ w3, wc = w3 := ⟨_, rfl⟩
  rw [hw3] at H3 HO3
  rw [hw3]
  clear hw3 wc
  go_wp2_with fail
  refine (rdZone _ _ _ B _ H3.out).mono ?_
  rintro e w4 ⟨⟨kind, addr, v, L, q4, hL, hLs, rfl, hM, h4⟩, ho4⟩
  have HO4 : Hid (Off (w.heap.size + 1) W w4) := HO3.out.trans ho4
  have H4 : Hid (RdAt w4 (w.heap.size + 1) (.slice ca B.length cc) B q4) := h4
  have HM4 : Hid (Mxs w4 w3.heap.size v L) := hM
  have HLs : Hid (∀ x ∈ L, x.2.size ≤ 100) := hLs
  obtain ⟨a1, c1, rfl⟩ := mxs_form hM
  have hz3 : w.heap.size + 2 ≤ w3.heap.size := by have := HO3.out.size; omega
  clear h4 ho4 hM hLs H3 HO3
  go_upto_if 27 with fail
  generalize hW5 : World.alloc _ _ = W5
  have hb5 : Below w4.heap.size w4 W5 := by rw [← hW5]; exact below1 _ _
  have hz4 : w.heap.size + 1 < w4.heap.size := by have := HO4.out.size; omega
  have hzW : W.heap.size ≤ w4.heap.size := HO4.out.size
  have HZ5 : Hid (ZAt W5 w.heap.size w4.heap.size kind (.slice a1 L.length c1) addr) := by
    show ZAt _ _ _ _ _ _
    obtain ⟨z0, z1, z2, zf⟩ := zz
    have y : ∀ i, w4.cell? ⟨w.heap.size, i, none⟩ = W.cell? ⟨w.heap.size, i, none⟩ := fun i => HO4.out.cell (k := w.heap.size) (i := i) (by omega) (by omega)
    have yf : ∀ o, w4.frozen? ⟨w.heap.size, o, none⟩ = false := fun o => (HO4.out.frozen (k := w.heap.size) (i := o) (by omega) (by omega)).trans (zf o)
    rw [← hW5]
    exact ⟨World.cell?_alloc_mark _ _ _ _ _, World.cell?_alloc_mark _ _ _ _ _, World.cell?_alloc_mark _ _ _ _ _, (World.cell?_alloc_lt _ _ ⟨w.heap.size, 0, none⟩ (by show w.heap.size < _; omega)).trans ((y 0).trans z0), (World.cell?_alloc_lt _ _ ⟨w.heap.size, 1, none⟩ (by show w.heap.size < _; omega)).trans ((y 1).trans z1), (World.cell?_alloc_lt _ _ ⟨w.heap.size, 2, none⟩ (by show w.heap.size < _; omega)).trans ((y 2).trans z2), fun o => World.frozen?_alloc_at _ _ _ _ rfl, fun o => ((below1 w4 _).frozen (p := ⟨w.heap.size, o, none⟩) (by show w.heap.size < _; omega)).trans (yf o), by simp, by simp; omega⟩
  have H5 : Hid (RdAt W5 (w.heap.size + 1) (.slice ca B.length cc) B q4) := H4.out.below hb5 (Nat.le_refl _)
  have hz5 : W5.heap.size = w4.heap.size + 1 := by rw [← hW5]; simp
  have HB5 : Hid (Below w.heap.size w W5) := (hb0.trans ((HO4.out.below (by omega)).mono (by omega))).trans (hb5.mono (by omega))
  have HM5 : Hid (Mxs W5 (w.heap.size + 2) (.slice a1 L.length c1) L) := mxs_le (mxs_below HM4.out hb5 (Nat.le_refl _)) (by omega)
  clear hW5 zz hb5 H4 HM4 HO4
  obtain ⟨z0, z1, z2, r0, r1, r2, fz, fr, lz, lr⟩ := HZ5.out
  go_cut [] (fun wx => ∃ (kind addr : Int) (sv : Value) (L : List Mx), L.length ≤ 40 ∧ Hid (∀ x ∈ L, x.2.size ≤ 100) ∧ Hid (DrZ w (w.heap.size + 1) w.heap.size w4.heap.size (.slice ca B.length cc) B kind addr sv L wx))
  case first =>
    by_cases c7 : c % 7 = 6
    · have c7i : ((c : Int) % 7 == 6) = true := by rw [beq_iff_eq]; omega
      go_wp2_with fail
      rw [c7i]
      generalize hW6 : World.setCell _ _ _ = W6
      have HZ6 : Hid (ZAt W6 w.heap.size w4.heap.size 1 (.slice none 0 0) 0) := by
        show ZAt _ _ _ _ _ _
        rw [← hW6]
        exact HZ5.out.set3 (by omega) _ _ _
      have hb6 : Below w4.heap.size W5 W6 := by
        rw [← hW6]
        repeat (refine Below.setCell ?_ (by simp) _)
        exact Below.refl _ _
      have H6 : Hid (RdAt W6 (w.heap.size + 1) (.slice ca B.length cc) B q4) := H0.out.carry H5.out (hb6.mono (by omega))
      have HB6 : Hid (Below w.heap.size w W6) := HB5.out.trans (hb6.mono (by omega))
      clear hW6 hb6 HZ5 H5 HB5 HM5 z0 z1 z2 r0 r1 r2 fz fr lz lr HLs
      obtain ⟨m, hm, hm2⟩ : ∃ m : Nat, 8 + (c : Int) / 7 % 3 = (m : Int) ∧ m ≤ 10 := ⟨8 + c / 7 % 3, by omega, by omega⟩
      go_loopw [9] (fun iv wr => ∃ (i : Nat) (L : List Mx) (sv : Value), i ≤ m ∧ L.length = i ∧ iv = .int .i64 i ∧ Hid (∀ x ∈ L, x.2.size ≤ 100) ∧ Hid (ZAt wr w.heap.size w4.heap.size 1 sv 0) ∧ Hid (Mxs wr (w4.heap.size + 1) sv L) ∧ Hid (RdAt wr (w.heap.size + 1) (.slice ca B.length cc) B q4) ∧ Hid (Below w.heap.size w wr)) (fun iv _ => 11 - (intOf iv).toNat)
      case atStart => exact ⟨0, [], .slice none 0 0, by omega, rfl, rfl, by intro x hx; simp at hx, HZ6, ⟨by rfl, .inl ⟨rfl, rfl⟩⟩, H6, HB6⟩
      case round =>
        obtain ⟨i, L, sv, hi, hLi, rfl, HS, HZr, HM, HR, HBr⟩ := hrel
        obtain ⟨z0, z1, z2, r0, r1, r2, fz, fr, lz, lr⟩ := HZr.out
        by_cases hlt : i < m
        · go_upto_region 12 with fail
          have hlo := mxs_lo HM.out
          obtain ⟨a1, c1, rfl⟩ := mxs_form HM.out
          rw [hLi] at hlo
          obtain ⟨x, hx, hx2⟩ : ∃ x : Nat, (c : Int) / 21 % 2 = (x : Int) ∧ x < 2 := ⟨c / 21 % 2, by omega, by omega⟩
          have hs5 := dec_small (n := i) (by omega)
          obtain ⟨F, HF⟩ : ∃ F, Hid ((⟨(Lib.decDigits i).toArray⟩ : ByteArray) = F) := ⟨_, rfl⟩
          rw [HF.out] at hs5
          obtain ⟨G, HG⟩ : ∃ G, Hid ((⟨#[109]⟩ : ByteArray) ++ F = G) := ⟨_, rfl⟩
          obtain ⟨K2, HK2⟩ : ∃ K2, Hid (G ++ (⟨#[46, 121]⟩ : ByteArray) = K2) := ⟨_, rfl⟩
          have e1 : (⟨#[109]⟩ : ByteArray).size = 1 := rfl
          have e2 : (⟨#[46, 121]⟩ : ByteArray).size = 2 := rfl
          have hG : G.size ≤ 4 := by rw [← HG.out, ByteArray.size_append]; omega
          have hK : K2.size ≤ 6 := by rw [← HK2.out, ByteArray.size_append]; omega
          have g1 : ∀ wx : World, (Op.stringOp .add (⟨#[109]⟩ : ByteArray) F).run Tryd.prog wx = .ok (.string G) wx := fun wx => by rw [← HG.out]; exact run_string_add_sum wx _ F (by omega)
          have g2 : ∀ wx : World, (Op.stringOp .add G (⟨#[46, 121]⟩ : ByteArray)).run Tryd.prog wx = .ok (.string K2) wx := fun wx => by rw [← HK2.out]; exact run_string_add_sum wx G _ (by omega)
          clear e1 e2
          obtain ⟨P, HP⟩ : ∃ P : Int, Hid (IntKind.i64.wrap ((IntKind.i64.wrap ((c : Int) / 21)).tmod 2 * (i : Int)) = P) := ⟨_, rfl⟩
          have HMi : Hid (wr.ownsRow (w4.heap.size + 1) 34 2 (.slice a1 i c1) i (mxRow L)) := by have := HM.out; unfold Mxs at this; rw [hLi] at this; exact this
          obtain ⟨i0, hinf, hx0, hx1, hx2⟩ := info_parts infoMx
          go_region_law (first | (go_simp; go_at_call 20; refine (specDec i i (Nat.le_refl _) (by omega) _).mono ?_; rw [HF.out]; rintro e w5 ⟨rfl, hb5⟩; have HB5 : Hid (Below wr.heap.size wr w5) := ((Below.refl wr.heap.size wr).drew.trans (by simpa using hb5)); have k1 := (HB5.out.cell (p := ⟨w4.heap.size, 1, none⟩) lz).trans z1; have hz5 : w4.heap.size < w5.heap.size := Nat.lt_of_lt_of_le lz HB5.out.size; clear hb5) | (refine step_append_lies _ (by rfl) _ _ 23 (by rfl) (w4.heap.size + 1) 34 i0 (.agg #[.int .i64 0, .string ⟨#[]⟩]) 2 24 Tryd.underlying23 hinf hx0 hx1 hx2 (by rfl) (by decide) (.slice a1 i c1) i (mxRow L) (by rfl) (by exact (row_below HMi.out HB5.out (Nat.le_refl _)).alloc _) ⟨w5.heap.size, 0, none⟩ 1 1 [.int .i64 (IntKind.i64.wrap ((IntKind.i64.wrap ((c : Int) / 21)).tmod 2 * (i : Int))), .string K2] (by rfl) (by rfl) (by intro j u hj; exact World.news_of_block (lk_newR _ _ _ rfl) j u (by simpa using hj)) (by intro u hu; simp at hu; rcases hu with rfl | rfl <;> rfl) (by decide) (by unfold maxLen; omega) (by omega) (by simp; omega) (w5.heap.size + 1) (by simp) ?_; intro g cap w7 hown hgrow hat hlt7; have HB7 : Hid (Below (w4.heap.size + 1) w5 w7) := (((Below.refl _ w5).alloc (by omega) _).grown hgrow (by simp; omega) hlo); have k7 := (HB7.out.cell (p := ⟨w4.heap.size, 1, none⟩) (by show w4.heap.size < _; omega)).trans k1; have f7 := (HB7.out.frozen (p := ⟨w4.heap.size, 1, none⟩) (by show w4.heap.size < _; omega)).trans ((HB5.out.frozen (p := ⟨w4.heap.size, 1, none⟩) lz).trans (fz 1))))
          all_goals
            have HZ7 : Hid (ZAt w7 w.heap.size w4.heap.size 1 (.slice a1 L.length c1) 0) := (HZr.out.below HB5.out lr lz).below HB7.out (by omega) (by omega)
            have HM7 : Hid (Mxs w7 (w4.heap.size + 1) (.slice (some ⟨g, 0, none⟩) (i + 1) cap) (L ++ [(IntKind.i64.wrap ((IntKind.i64.wrap ((c : Int) / 21)).tmod 2 * (i : Int)), K2)])) := by
              show Mxs _ _ _ _
              unfold Mxs
              rw [mxRow_snoc, List.length_append, hLi]
              exact hown
            have hb7 : Below w.heap.size wr (w7.setCell ⟨w4.heap.size, 1, none⟩ (.slice (some ⟨g, 0, none⟩) (i + 1) cap)) := ((HB5.out.mono (by omega)).trans (HB7.out.mono (by omega))).setCell (by show _ ≤ w4.heap.size; omega) _
            have HB8 : Hid (Below w.heap.size w (w7.setCell ⟨w4.heap.size, 1, none⟩ (.slice (some ⟨g, 0, none⟩) (i + 1) cap))) := HBr.out.trans hb7
            have hb8 : Below W.heap.size wr (w7.setCell ⟨w4.heap.size, 1, none⟩ (.slice (some ⟨g, 0, none⟩) (i + 1) cap)) := ((HB5.out.mono (by omega)).trans (HB7.out.mono (by omega))).setCell (by show _ ≤ w4.heap.size; omega) _
            have HR8 : Hid (RdAt (w7.setCell ⟨w4.heap.size, 1, none⟩ (.slice (some ⟨g, 0, none⟩) (i + 1) cap)) (w.heap.size + 1) (.slice ca B.length cc) B q4) := H0.out.carry HR.out hb8
            clear hb7 hb8 hown hgrow hat HB7 HB5 k1 k7 f7 hinf hx0 hx1 hx2 HMi g1 g2
            go_wp2
            go_roundw
            case rel =>
              refine ⟨i + 1, L ++ [(_, K2)], _, by omega, by simp [hLi], by go_num, ?_, HZ7.out.set1 (by omega) _, mxs_set_ne HM7.out (by show w4.heap.size < _; omega) _, HR8, HB8⟩
              intro x hx
              rcases List.mem_append.1 hx with hx | hx
              · exact HS.out x hx
              · simp at hx; subst hx; show K2.size ≤ 100; omega
            case measure => simp [intOf]; omega
        · go_wp2_with fail
          go_meet
          exact ⟨1, 0, sv, L, by omega, HS, ⟨⟨q4, HR.out⟩, HZr.out, mxs_le HM.out (by omega), HBr.out⟩⟩
    · have c7i : ((c : Int) % 7 == 6) = false := by rw [beq_eq_false_iff_ne]; omega
      go_wp2_with fail
      go_meet
      exact ⟨kind, addr, _, L, hL, HLs, ⟨⟨q4, H5.out⟩, HZ5.out, HM5.out, HB5.out⟩⟩
  case rest =>
  obtain ⟨kind', addr', sv, L', hL', HS, HD⟩ := hcut
  obtain ⟨w5, hw5⟩ : ∃ w5, wc = w5 := ⟨_, rfl⟩
  rw [hw5] at HD
  rw [hw5]
  clear hw5 wc z0 z1 z2 r0 r1 r2 fz fr lz lr HZ5 H5 HB5 HM5 HLs hz5
  obtain ⟨⟨q5, h5⟩, hz, hm, hbe⟩ := HD.out
  obtain ⟨a2, c2, rfl⟩ := mxs_form hm
  have H5 : Hid (RdAt w5 (w.heap.size + 1) (.slice ca B.length cc) B q5) := h5
  obtain ⟨z0, z1, z2, r0, r1, r2, fz, fr, lz, lr⟩ := hz
  have HM : Hid (Mxs w5 (w.heap.size + 2) (.slice a2 L'.length c2) L') := hm
  clear h5 hm
  go_upto_region 13 with fail
  have hRZ : w.heap.size ≠ w4.heap.size := by omega
  go_region_held3 (fun w' => w'.cell? ⟨w4.heap.size, 0, none⟩ = some (.int .i64 kind') ∧ w'.cell? ⟨w4.heap.size, 1, none⟩ = some (.slice a2 L'.length c2) ∧ w'.cell? ⟨w4.heap.size, 2, none⟩ = some (.int .i64 addr')) (first | (exact ⟨k0, k1, k2⟩) | go_keep) ((go_at_call 21; refine (rdTwo _ q5 _ B _ (by exact H5.out.below (Below.refl w5.heap.size w5).drew (Nat.le_refl _))).mono ?_; rintro e w6 ⟨⟨n, q6, hn, rfl, h6⟩, ho6⟩; have k0 := (ho6.cell (k := w4.heap.size) (i := 0) (by simpa using lz) (by omega)).trans ((World.cell?_drew' w5 _).trans z0); have k1 := (ho6.cell (k := w4.heap.size) (i := 1) (by simpa using lz) (by omega)).trans ((World.cell?_drew' w5 _).trans z1); have k2 := (ho6.cell (k := w4.heap.size) (i := 2) (by simpa using lz) (by omega)).trans ((World.cell?_drew' w5 _).trans z2); have l0 := (ho6.cell (k := w.heap.size) (i := 0) (by simpa using lr) (by omega)).trans ((World.cell?_drew' w5 _).trans r0); have l1 := (ho6.cell (k := w.heap.size) (i := 1) (by simpa using lr) (by omega)).trans ((World.cell?_drew' w5 _).trans r1); have l2 := (ho6.cell (k := w.heap.size) (i := 2) (by simpa using lr) (by omega)).trans ((World.cell?_drew' w5 _).trans r2); have lf : ∀ o, w6.frozen? ⟨w.heap.size, o, none⟩ = false := fun o => (ho6.frozen (k := w.heap.size) (i := o) (by simpa using lr) (by omega)).trans (by simpa using fr o)))
  have hwn : IntKind.u32.wrap (n : Int) = (n : Int) := by rw [IntKind.wrap_u32]; omega
  have HM6 : Hid (Mxs w6 (w.heap.size + 2) (.slice a2 L'.length c2) L') := mxs_off_ne (mxs_below HM.out (Below.refl w5.heap.size w5).drew (Nat.le_refl _)) ho6 (by omega)
  have HB6 : Hid (Below w.heap.size w w6) := (hbe.drew).trans ((ho6.below (by simp; omega)).mono (by omega))
  clear h6 ho6 k0 k1 k2
  go_wp2
  refine bodyPost_ret (v := .tuple #[.string d, .agg #[.int .i64 kind', .slice a2 L'.length c2, .int .i64 addr'], .int .u32 n]) (by simp [results, Tryd.results5, go_sem, l0, l1, l2, hwn]) rfl ?_
  refine ⟨⟨d, kind', addr', _, L', n, hd, hL', HS.out, hn, rfl, mxs_le (lo := w.heap.size + 2) ?_ (by omega)⟩, ?_⟩
  · repeat (refine mxs_set_ne ?_ (by simp; try omega) _)
    exact HM6.out
  · repeat (refine Below.setCell ?_ (by simp; try omega) _)
    exact HB6.out
end Go.Proofs.YtnbbhegcijogiaaDoor
