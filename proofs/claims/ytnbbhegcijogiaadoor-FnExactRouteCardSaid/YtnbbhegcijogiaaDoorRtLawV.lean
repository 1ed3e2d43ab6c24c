import Derived.Test.YtnbbhegcijogiaaDoorRtLawW
import Derived.Deep.RegionHeld3
import Derived.Test.YtnbbhegcijogiaaDoorMarks
namespace Go.Proofs.YtnbbhegcijogiaaDoor
open Go.ChangeShapes Go.WideShapes Go.ChangeAt Go.RowKit
attribute [local go_sem ↓] Go.wp_at_zero Go.wp_at_succ

theorem Blk.offV {b : Nat} {X : Array Value} {w w1 : World} {v : Value} (h : Blk b X w) (ho : OffV v w w1) (hne : ∀ g, v.ownBlock = some g → b ≠ g) : Blk b X w1 :=
  ⟨Nat.lt_of_lt_of_le h.lt ho.size, fun i => (ho.cell h.lt hne).trans (h.cell i), fun o => (ho.frozen h.lt hne).trans (h.free o)⟩
theorem route_len (dom : ByteArray) (kind addr : Int) (L : List Mx) (seed : Nat) : (routeN dom kind addr L seed).1.length ≤ 8 := by
  unfold routeN
  repeat' split
  all_goals first | exact take8 | simp

set_option maxHeartbeats 8000000 in
set_option maxRecDepth 100000 in
theorem routeLaw (dom : ByteArray) (kind addr : Int) (v : Value) (L : List Mx) (seed : Nat) (w : World) (hd : dom.size ≤ maxLen) (h : ArgM w v L) (hseed : seed < 4294967296) (hl : LenIn w) (ht : TabIn w) :
    Calls Tryd.prog 4 #[.string dom, .agg #[.int .i64 kind, v, .int .i64 addr], .int .u32 seed] w fun e w' => e = .returned (.bool true) ∧ Below w.heap.size w w' := by
  have HL : Hid (LenIn w) := hl
  have HT : Hid (TabIn w) := ht
  have HA : Hid (ArgM w v L) := h
  unfold maxLen at hd
  obtain ⟨a1, c1, rfl⟩ := h.form
  clear h hl ht
  by_cases hbig : 1048576 < dom.size
  · have hbi : (1048576 : Int) < dom.size := by omega
    go_enter Tryd.func4, Tryd.ntmps4
    go_wp2
    go_ret
    exact ⟨rfl, below1 _ _⟩
  have hd1 : dom.size ≤ 1048576 := by omega
  have hbi : ¬ (1048576 : Int) < dom.size := by omega
  go_enter Tryd.func4, Tryd.ntmps4
  go_wp2_with fail
  generalize hW : w.alloc _ = W
  have hP : Hid (Blk w.heap.size #[.int .i64 kind, .slice a1 L.length c1, .int .i64 addr] W) := by show Blk _ _ _; rw [← hW]; exact Blk.new w _ _
  have bw : Below w.heap.size w W := by rw [← hW]; exact below1 _ _
  clear hW
  refine (szZone kind addr _ L _ (HA.out.below bw)).mono ?_
  rintro e w1 ⟨⟨r, rfl, hr⟩, hb1⟩
  have b1 : Below w.heap.size w w1 := bw.trans (hb1.mono bw.size)
  have hP1 : Hid _ := hP.out.below hb1
  have hPw : w.heap.size < w1.heap.size := hP1.out.lt
  clear hb1 hP bw
  by_cases hr0 : r < 0
  · go_wp2
    go_ret
    exact ⟨rfl, b1⟩
  have HSM : Hid (L.length ≤ 1048576 ∧ ∀ x ∈ L, x.2.size ≤ 1048576) := hr.resolve_left hr0
  clear hr
  have mL : L.length ≤ 1048576 := HSM.out.1
  have HAX : Hid (∀ wx lo u, Mxs wx lo u L → ArgM wx u L) := fun wx lo u hu => mxs_args hu (by unfold maxLen; omega) (fun x hx => by have := HSM.out.2 x hx; unfold maxLen; omega)
  have HRL := route_len dom kind addr L seed
  have HSR : Hid (∀ (wx : World) (u : Value), ArgM wx u L → Calls Tryd.prog 7 #[.string dom, .agg #[.int .i64 kind, u, .int .i64 addr], .int .u32 seed] wx fun e w' => (∃ u', e = .returned (.tuple #[u', .int .i64 (routeN dom kind addr L seed).2]) ∧ Strs w' wx.heap.size u' (routeN dom kind addr L seed).1) ∧ Below wx.heap.size wx w') := fun wx u hu => specRoute dom kind addr u L seed wx hu hd1 HSM.out.2 hseed
  have HIR : Hid (∀ (wx : World) (u : Value), ArgM wx u L → LenIn wx → TabIn wx → Calls Tryd.prog 6 #[.string dom, .agg #[.int .i64 kind, u, .int .i64 addr], .int .u32 seed] wx fun e w' => (∃ u', e = .returned (.tuple #[u', .int .i64 (routeN dom kind addr L seed).2]) ∧ Strs w' wx.heap.size u' (routeN dom kind addr L seed).1) ∧ Below wx.heap.size wx w') := fun wx u hu h1 h2 => implRoute dom kind addr u L seed wx hu hd1 HSM.out.2 hseed h1 h2
  generalize (routeN dom kind addr L seed).1 = R at *
  generalize (routeN dom kind addr L seed).2 = cd at *
  have x0 : w1.cell? ⟨w.heap.size, 0, none⟩ = some (.int .i64 kind) := hP1.out.cell 0
  have x1 : w1.cell? ⟨w.heap.size, 1, none⟩ = some (.slice a1 L.length c1) := hP1.out.cell 1
  have x2 : w1.cell? ⟨w.heap.size, 2, none⟩ = some (.int .i64 addr) := hP1.out.cell 2
  go_wp2_with fail
  refine (toZone kind addr _ L _ (HA.out.below b1) mL).mono ?_
  rintro e w2 ⟨⟨p2, q2, rfl, S2⟩, hb2⟩
  have b2 : Below w.heap.size w w2 := b1.trans (hb2.mono b1.size)
  have hP2 : Hid _ := hP1.out.below hb2
  have HA2 : Hid (ArgM w2 (.slice p2 L.length q2) L) := HAX.out _ _ _ S2
  have hz2 := hb2.size
  clear hb2 hP1 b1 x0 x1 x2 S2
  go_wp2_with fail
  refine (HSR.out _ _ HA2.out).mono ?_
  rintro e w3 ⟨⟨t0, rfl, S3⟩, hb3⟩
  have b3 : Below w.heap.size w w3 := b2.trans (hb3.mono b2.size)
  have hP3 : Hid _ := hP2.out.below hb3
  have HT3 : Hid (Strs w3 w2.heap.size t0 R) := S3
  have hz3 := hb3.size
  clear hb3 hP2 S3 HA2 HSR
  have x0 : w3.cell? ⟨w.heap.size, 0, none⟩ = some (.int .i64 kind) := hP3.out.cell 0
  have x1 : w3.cell? ⟨w.heap.size, 1, none⟩ = some (.slice a1 L.length c1) := hP3.out.cell 1
  have x2 : w3.cell? ⟨w.heap.size, 2, none⟩ = some (.int .i64 addr) := hP3.out.cell 2
  go_wp2_with fail
  refine (toZone kind addr _ L _ (HA.out.below b3) mL).mono ?_
  rintro e w4 ⟨⟨p4, q4, rfl, S4⟩, hb4⟩
  have b4 : Below w.heap.size w w4 := b3.trans (hb4.mono b3.size)
  have hP4 : Hid _ := hP3.out.below hb4
  have HZ4 : Hid (Mxs w4 w3.heap.size (.slice p4 L.length q4) L) := S4
  have HT4 : Hid (Strs w4 w2.heap.size t0 R) := strs_below HT3.out hb4 (Nat.le_refl _)
  have HTO : Hid (∀ g, t0.ownBlock = some g → g < w3.heap.size) := strs_own HT3.out
  have HZO : Hid (∀ g, (Value.slice p4 L.length q4).ownBlock = some g → w3.heap.size ≤ g ∧ g < w4.heap.size) := fun g hg => ⟨mxs_lo S4 g hg, mxs_own S4 g hg⟩
  have hz4 := hb4.size
  clear hb4 hP3 x0 x1 x2 S4 HT3 b3
  go_wp2_with fail
  generalize hW5 : w4.alloc _ = W5
  have hX5 : Hid (Blk w4.heap.size #[.int .i64 kind, .slice p4 L.length q4, .int .i64 addr] W5) := by show Blk _ _ _; rw [← hW5]; exact Blk.new w4 _ _
  have hbW5 : Below w4.heap.size w4 W5 := by rw [← hW5]; exact below1 _ _
  have hzW5 : w4.heap.size < W5.heap.size := by rw [← hW5]; simp
  clear hW5
  have bW5 : Below w.heap.size w W5 := b4.trans (hbW5.mono b4.size)
  have hP5 : Hid _ := hP4.out.below hbW5
  have HZ5 : Hid (Mxs W5 w3.heap.size (.slice p4 L.length q4) L) := mxs_below HZ4.out hbW5 (Nat.le_refl _)
  have HT5 : Hid (Strs W5 w2.heap.size t0 R) := strs_below HT4.out hbW5 (Nat.le_refl _)
  clear hbW5 hP4 HZ4 HT4 b4
  refine (HIR.out _ _ (HAX.out _ _ _ HZ5.out) (len_below HL.out bW5) (tab_belowR HT.out bW5)).mono ?_
  rintro e w6 ⟨⟨g0, rfl, S6⟩, hb6⟩
  have b6 : Below w.heap.size w w6 := bW5.trans (hb6.mono bW5.size)
  have hP6 : Hid _ := hP5.out.below hb6
  have hX6 : Hid _ := hX5.out.below hb6
  have HZ6 : Hid (Mxs w6 w3.heap.size (.slice p4 L.length q4) L) := mxs_below HZ5.out hb6 (Nat.le_refl _)
  have HT6 : Hid (Strs w6 w2.heap.size t0 R) := strs_below HT5.out hb6 (Nat.le_refl _)
  have HG6 : Hid (Strs w6 W5.heap.size g0 R) := S6
  have HGO : Hid (∀ g, g0.ownBlock = some g → W5.heap.size ≤ g) := strs_lo S6
  have hz6 := hb6.size
  clear hb6 hP5 hX5 HZ5 HT5 S6 bW5
  go_wp2_with fail
  refine (eqStrs _ _ R _ _ _ HG6.out HT6.out).mono ?_
  rintro e w7 ⟨rfl, hb7⟩
  have b7 : Below w.heap.size w w7 := b6.trans (hb7.mono b6.size)
  have hP7 : Hid _ := hP6.out.below hb7
  have hX7 : Hid _ := hX6.out.below hb7
  have HZ7 : Hid (Mxs w7 w3.heap.size (.slice p4 L.length q4) L) := mxs_below HZ6.out hb7 (Nat.le_refl _)
  have HT7 : Hid (Strs w7 w2.heap.size t0 R) := strs_below HT6.out hb7 (Nat.le_refl _)
  have HG7 : Hid (Strs w7 W5.heap.size g0 R) := strs_below HG6.out hb7 (Nat.le_refl _)
  have hz7 := hb7.size
  clear hb7 hP6 hX6 HZ6 HT6 HG6 b6
  have hPl := hP7.out.lt
  have hXl := hX7.out.lt
  have x0 : w7.cell? ⟨w.heap.size, 0, none⟩ = some (.int .i64 kind) := hP7.out.cell 0
  have x1 : w7.cell? ⟨w.heap.size, 1, none⟩ = some (.slice a1 L.length c1) := hP7.out.cell 1
  have x2 : w7.cell? ⟨w.heap.size, 2, none⟩ = some (.int .i64 addr) := hP7.out.cell 2
  have y0 : w7.cell? ⟨w4.heap.size, 0, none⟩ = some (.int .i64 kind) := hX7.out.cell 0
  have y1 : w7.cell? ⟨w4.heap.size, 1, none⟩ = some (.slice p4 L.length q4) := hX7.out.cell 1
  have y2 : w7.cell? ⟨w4.heap.size, 2, none⟩ = some (.int .i64 addr) := hX7.out.cell 2
  have HTZ : Hid (∀ wx : World, Below w7.heap.size w7 wx → Calls Tryd.prog 10 #[.agg #[.int .i64 kind, .slice a1 L.length c1, .int .i64 addr]] wx fun e w' => (∃ a c, e = .returned (.agg #[.int .i64 kind, .slice a L.length c, .int .i64 addr]) ∧ Mxs w' wx.heap.size (.slice a L.length c) L) ∧ Below wx.heap.size wx w') := fun wx hx => toZone kind addr _ L wx (HA.out.below (b7.trans (hx.mono b7.size))) mL
  go_upto_region 12 with fail
  go_region_held3 (fun w' => w'.cell? ⟨w.heap.size, 0, none⟩ = some (.int .i64 kind) ∧ w'.cell? ⟨w.heap.size, 1, none⟩ = some (.slice a1 L.length c1) ∧ w'.cell? ⟨w.heap.size, 2, none⟩ = some (.int .i64 addr) ∧ w'.cell? ⟨w4.heap.size, 0, none⟩ = some (.int .i64 kind) ∧ w'.cell? ⟨w4.heap.size, 1, none⟩ = some (.slice p4 L.length q4) ∧ w'.cell? ⟨w4.heap.size, 2, none⟩ = some (.int .i64 addr)) (first | (exact ⟨m0, m1, m2, m3, m4, m5⟩) | (exact ⟨k0, k1, k2, k3, k4, k5⟩) | go_keep) (first | (go_at_call 10; refine (HTZ.out _ ((Below.refl w7.heap.size w7).drew)).mono ?_; rintro e w8 ⟨⟨p8, q8, rfl, S8⟩, hb8⟩; have HB8 : Hid (Below w7.heap.size w7 w8) := ((Below.refl w7.heap.size w7).drew).trans hb8; have HS8 : Hid (Mxs w8 w7.heap.size (.slice p8 L.length q8) L) := S8; have k0 := (hP7.out.below HB8.out).cell 0; have k1 := (hP7.out.below HB8.out).cell 1; have k2 := (hP7.out.below HB8.out).cell 2; have k3 := (hX7.out.below HB8.out).cell 0; have k4 := (hX7.out.below HB8.out).cell 1; have k5 := (hX7.out.below HB8.out).cell 2; clear hb8 S8) | (go_at_call 12; refine (eqZone kind addr _ _ L _ _ _ (mxs_below HZ7.out HB8.out (Nat.le_refl _)) HS8.out).mono ?_; rintro e w9 ⟨rfl, hb9⟩; have HB9 : Hid (Below w7.heap.size w7 w9) := HB8.out.trans (hb9.mono HB8.out.size); have m0 := (hP7.out.below HB9.out).cell 0; have m1 := (hP7.out.below HB9.out).cell 1; have m2 := (hP7.out.below HB9.out).cell 2; have m3 := (hX7.out.below HB9.out).cell 0; have m4 := (hX7.out.below HB9.out).cell 1; have m5 := (hX7.out.below HB9.out).cell 2; clear hb9))
  have b9 : Below w.heap.size w w9 := b7.trans (HB9.out.mono b7.size)
  have hP9 : Hid _ := hP7.out.below HB9.out
  have hX9 : Hid _ := hX7.out.below HB9.out
  have HZ9 : Hid (Mxs w9 w3.heap.size (.slice p4 L.length q4) L) := mxs_below HZ7.out HB9.out (Nat.le_refl _)
  have HT9 : Hid (Strs w9 w2.heap.size t0 R) := strs_below HT7.out HB9.out (Nat.le_refl _)
  have HG9 : Hid (Strs w9 W5.heap.size g0 R) := strs_below HG7.out HB9.out (Nat.le_refl _)
  have hz9 := HB9.out.size
  clear HB9 HB8 HS8 hP7 hX7 HZ7 HT7 HG7 x0 x1 x2 y0 y1 y2 k0 k1 k2 k3 k4 k5 m0 m1 m2 m3 m4 m5 HTZ b7
  have y0 : w9.cell? ⟨w4.heap.size, 0, none⟩ = some (.int .i64 kind) := hX9.out.cell 0
  have y1 : w9.cell? ⟨w4.heap.size, 1, none⟩ = some (.slice p4 L.length q4) := hX9.out.cell 1
  have y2 : w9.cell? ⟨w4.heap.size, 2, none⟩ = some (.int .i64 addr) := hX9.out.cell 2
  go_wp2_with fail
  refine (markZone kind addr _ L _ _ HZ9.out mL).mono ?_
  rintro e wA ⟨rfl, hoA⟩
  have HOA : Hid (OffV (.slice p4 L.length q4) w9 wA) := hoA
  have hzA := hoA.size
  have bA : Below w.heap.size w wA := b9.trans (hoA.below (fun g hg => by have := (HZO.out g hg).1; have := b9.size; have := hP9.out.lt; omega) (by have := b9.size; omega))
  have hPA : Hid _ := hP9.out.offV hoA (fun g hg => by have := (HZO.out g hg).1; omega)
  have HTA : Hid (Strs wA w2.heap.size t0 R) := hoA.strs HT9.out (fun g b hg hb => by have := HTO.out g hg; have := (HZO.out b hb).1; omega)
  have HGA : Hid (Strs wA W5.heap.size g0 R) := hoA.strs HG9.out (fun g b hg hb => by have := HGO.out g hg; have := (HZO.out b hb).2; omega)
  clear hoA HOA hP9 hX9 HZ9 HT9 HG9 y0 y1 y2 b9
  go_wp2_with fail
  refine (eqStrs _ _ R _ _ _ HGA.out HTA.out).mono ?_
  rintro e wB ⟨rfl, hbB⟩
  have bB : Below w.heap.size w wB := bA.trans (hbB.mono bA.size)
  have hPB : Hid _ := hPA.out.below hbB
  have HTB : Hid (Strs wB w2.heap.size t0 R) := strs_below HTA.out hbB (Nat.le_refl _)
  have HGB : Hid (Strs wB W5.heap.size g0 R) := strs_below HGA.out hbB (Nat.le_refl _)
  have hzB := hbB.size
  clear hbB hPA HTA HGA bA
  go_wp2_with fail
  refine (markStrsO _ R _ 1 _ HGB.out (by decide) (by omega)).mono ?_
  rintro e wC ⟨rfl, SC, hoC⟩
  have HSC : Hid (Strs wC W5.heap.size g0 (marks 1 R.length)) := SC
  have hzC := hoC.size
  have bC : Below w.heap.size w wC := bB.trans (hoC.below (fun g hg => by have := HGO.out g hg; have := bB.size; have := hPB.out.lt; omega) (by have := bB.size; omega))
  have hPC : Hid _ := hPB.out.offV hoC (fun g hg => by have := HGO.out g hg; omega)
  have HTC : Hid (Strs wC w2.heap.size t0 R) := hoC.strs HTB.out (fun g b hg hb => by have := HTO.out g hg; have := HGO.out b hb; omega)
  clear hoC SC hPB HTB HGB bB
  go_wp2_with fail
  refine (heldStrs _ R.length _ 1 _ HSC.out (by decide) (by omega)).mono ?_
  rintro e wD ⟨rfl, hbD⟩
  have bD : Below w.heap.size w wD := bC.trans (hbD.mono bC.size)
  have hPD : Hid _ := hPC.out.below hbD
  have HTD : Hid (Strs wD w2.heap.size t0 R) := strs_below HTC.out hbD (Nat.le_refl _)
  have hzD := hbD.size
  clear hbD hPC HTC HSC bC
  have x0 : wD.cell? ⟨w.heap.size, 0, none⟩ = some (.int .i64 kind) := hPD.out.cell 0
  have x1 : wD.cell? ⟨w.heap.size, 1, none⟩ = some (.slice a1 L.length c1) := hPD.out.cell 1
  have x2 : wD.cell? ⟨w.heap.size, 2, none⟩ = some (.int .i64 addr) := hPD.out.cell 2
  go_wp2_with fail
  refine (toZone kind addr _ L _ (HA.out.below bD) mL).mono ?_
  rintro e wE ⟨⟨pE, qE, rfl, SE⟩, hbE⟩
  have bE : Below w.heap.size w wE := bD.trans (hbE.mono bD.size)
  have HAE : Hid (ArgM wE (.slice pE L.length qE) L) := HAX.out _ _ _ SE
  have HTE : Hid (Strs wE w2.heap.size t0 R) := strs_below HTD.out hbE (Nat.le_refl _)
  clear hbE SE hPD HTD bD x0 x1 x2
  go_wp2_with fail
  refine (HIR.out _ _ HAE.out (len_below HL.out bE) (tab_belowR HT.out bE)).mono ?_
  rintro e wF ⟨⟨h0, rfl, SF⟩, hbF⟩
  have bF : Below w.heap.size w wF := bE.trans (hbF.mono bE.size)
  have HHF : Hid (Strs wF wE.heap.size h0 R) := SF
  have HTF : Hid (Strs wF w2.heap.size t0 R) := strs_below HTE.out hbF (Nat.le_refl _)
  clear hbF SF HTE bE HAE
  go_wp2_with fail
  refine (eqStrs _ _ R _ _ _ HHF.out HTF.out).mono ?_
  rintro e wG ⟨rfl, hbG⟩
  have bG : Below w.heap.size w wG := bF.trans (hbG.mono bF.size)
  clear hbG bF HHF HTF
  go_wp2
  go_ret
  exact ⟨rfl, bG⟩
end Go.Proofs.YtnbbhegcijogiaaDoor
