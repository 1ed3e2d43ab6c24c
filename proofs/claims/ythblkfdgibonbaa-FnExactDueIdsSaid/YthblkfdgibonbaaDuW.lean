import Derived.Test.YthblkfdgibonbaaDuL
import Derived.Test.YthblkfdgibonbaaItW
import Derived.Test.YthblkfdgibonbaaNMarks
import Derived.Test.YthblkfdgibonbaaBlk
import Derived.Deep.RegionHeld3
namespace Go.Proofs.Ythblkfdgibonbaa
open Go.ChangeShapes Go.WideShapes Go.ChangeAt Go.RowKit
attribute [local go_sem ↓] Go.wp_at_zero Go.wp_at_succ

theorem Blk.span {b lo hi : Nat} {X : Array Value} {w w1 : World} (h : Blk b X w) (hs : Span lo hi w w1) (hb : b < lo ∨ hi ≤ b) : Blk b X w1 :=
  ⟨Nat.lt_of_lt_of_le h.lt hs.size, fun i => (World.cell?_of_block (w := w) (hs.block b h.lt hb)).trans (h.cell i), fun o => (World.frozen?_of_block (w := w) (hs.block b h.lt hb)).trans (h.free o)⟩
theorem Blk.offI {b : Nat} {X : Array Value} {w w1 : World} {v : Value} (h : Blk b X w) (ho : OffV v w w1) (hne : ∀ g, v.ownBlock = some g → b ≠ g) : Blk b X w1 :=
  ⟨Nat.lt_of_lt_of_le h.lt ho.size, fun i => (ho.cell h.lt hne).trans (h.cell i), fun o => (ho.frozen h.lt hne).trans (h.free o)⟩
theorem dueK_len (L : List It) (now : Int) : ((sortD (dueK L now)).map (·.2)).length ≤ L.length := by
  rw [List.length_map, (sortD_perm _).length_eq]
  unfold dueK
  rw [List.length_map]
  exact List.length_filter_le _ _

set_option maxHeartbeats 8000000 in
set_option maxRecDepth 100000 in
theorem dueLaw (v : Value) (nx now : Int) (L : List It) (w : World) (h : ArgI w v L) :
    Calls Try.prog 5 #[.agg #[v, .int .i64 nx], .int .i64 now] w fun e w' => e = .returned (.bool true) ∧ Below w.heap.size w w' := by
  have HA : Hid (ArgI w v L) := h
  obtain ⟨a1, c1, rfl⟩ := h.form
  clear h
  go_enter Try.func5, Try.ntmps5
  go_wp2_with fail
  generalize hW : w.alloc _ = W
  have hP : Hid (Blk w.heap.size #[.slice a1 L.length c1, .int .i64 nx] W) := by show Blk _ _ _; rw [← hW]; exact Blk.new w _ _
  have bw : Below w.heap.size w W := by rw [← hW]; exact below1 _ _
  clear hW
  refine (szQu _ nx L _ (HA.out.below bw)).mono ?_
  rintro e w1 ⟨⟨r, rfl, hr⟩, hb1⟩
  have b1 : Below w.heap.size w w1 := bw.trans (hb1.mono bw.size)
  have hP1 : Hid _ := hP.out.below hb1
  have hPw : w.heap.size < w1.heap.size := hP1.out.lt
  clear hb1 hP bw
  by_cases hr0 : r < 0
  · go_wp2
    go_ret
    exact ⟨rfl, b1⟩
  have HSM : Hid (0 ≤ r ∧ r + (L.length : Int) + (itsN L : Int) ≤ 1048576 ∧ ∀ x ∈ L, SmallI x) := hr.resolve_left hr0
  clear hr
  have mL : L.length ≤ 1048576 := by have := HSM.out.2.1; omega
  have mI : inxs 1 L ≤ 16777216 := by have := HSM.out.2.1; have := (inxs_eq 1 L).1; omega
  have mI2 : 1 ≤ inxs 1 L := (inxs_eq 1 L).2
  have HSR : Hid (∀ (lo : Nat) (wx : World) (u : Value), Its wx lo u L → Calls Try.prog 14 #[.agg #[u, .int .i64 nx], .int .i64 now] wx fun e w' => (∃ u, e = .returned u ∧ Ins w' wx.heap.size u ((sortD (dueK L now)).map (·.2))) ∧ Below wx.heap.size wx w') := fun lo wx u ⟨P, hu⟩ => specDue u nx now L P lo wx hu mL
  have HIR : Hid (∀ (lo : Nat) (wx : World) (u : Value), Its wx lo u L → Calls Try.prog 16 #[.agg #[u, .int .i64 nx], .int .i64 now] wx fun e w' => (∃ u, e = .returned u ∧ Ins w' wx.heap.size u ((sortD (dueK L now)).map (·.2))) ∧ Below wx.heap.size wx w') := fun lo wx u ⟨P, hu⟩ => implDue u nx now L P lo wx hu mL
  have HRL := dueK_len L now
  generalize (sortD (dueK L now)).map (·.2) = R at *
  have HTQ : Hid (∀ wx, Below w.heap.size w wx → Calls Try.prog 15 #[.agg #[.slice a1 L.length c1, .int .i64 nx]] wx fun e w' => (∃ a c, e = .returned (.agg #[.slice a L.length c, .int .i64 nx]) ∧ Its w' wx.heap.size (.slice a L.length c) L) ∧ Below wx.heap.size wx w') := fun wx hx => toQu _ nx L wx (HA.out.below hx) mL HSM.out.2.2
  have x0 : w1.cell? ⟨w.heap.size, 0, none⟩ = some (.slice a1 L.length c1) := hP1.out.cell 0
  have x1 : w1.cell? ⟨w.heap.size, 1, none⟩ = some (.int .i64 nx) := hP1.out.cell 1
  go_wp2_with fail
  refine (HTQ.out _ b1).mono ?_
  rintro e w2 ⟨⟨p2, q2, rfl, S2⟩, hb2⟩
  have b2 : Below w.heap.size w w2 := b1.trans (hb2.mono b1.size)
  have hP2 : Hid _ := hP1.out.below hb2
  have HA2 : Hid (Its w2 w1.heap.size (.slice p2 L.length q2) L) := S2
  have hz2 := hb2.size
  clear hb2 hP1 b1 x0 x1 S2
  go_wp2_with fail
  refine (HSR.out _ _ _ HA2.out).mono ?_
  rintro e w3 ⟨⟨t0, rfl, S3⟩, hb3⟩
  have b3 : Below w.heap.size w w3 := b2.trans (hb3.mono b2.size)
  have hP3 : Hid _ := hP2.out.below hb3
  have HT3 : Hid (Ins w3 w2.heap.size t0 R) := S3
  have hz3 := hb3.size
  clear hb3 hP2 S3 HA2 HSR b2
  have x0 : w3.cell? ⟨w.heap.size, 0, none⟩ = some (.slice a1 L.length c1) := hP3.out.cell 0
  have x1 : w3.cell? ⟨w.heap.size, 1, none⟩ = some (.int .i64 nx) := hP3.out.cell 1
  go_wp2_with fail
  refine (HTQ.out _ b3).mono ?_
  rintro e w4 ⟨⟨p4, q4, rfl, S4⟩, hb4⟩
  have b4 : Below w.heap.size w w4 := b3.trans (hb4.mono b3.size)
  have hP4 : Hid _ := hP3.out.below hb4
  obtain ⟨P4, S4⟩ := S4
  have HZ4 : Hid (ItsP w4 w3.heap.size (.slice p4 L.length q4) L P4) := S4
  have HT4 : Hid (Ins w4 w2.heap.size t0 R) := ins_below HT3.out hb4 (Nat.le_refl _)
  have HTO : Hid (∀ g, t0.ownBlock = some g → g < w3.heap.size) := ins_own HT3.out
  have HPB : Hid (PB w4.heap.size P4) := PB.of S4
  have HZO : Hid (∀ g, (Value.slice p4 L.length q4).ownBlock = some g → g < w4.heap.size) := fun g hg => (S4.row.own g hg).2
  have hz4 := hb4.size
  clear hb4 hP3 x0 x1 S4 HT3 b3
  go_wp2_with fail
  generalize hW5 : w4.alloc _ = W5
  have hX5 : Hid (Blk w4.heap.size #[.slice p4 L.length q4, .int .i64 nx] W5) := by show Blk _ _ _; rw [← hW5]; exact Blk.new w4 _ _
  have hbW5 : Below w4.heap.size w4 W5 := by rw [← hW5]; exact below1 _ _
  have hzW5 : w4.heap.size < W5.heap.size := by rw [← hW5]; simp
  clear hW5
  have bW5 : Below w.heap.size w W5 := b4.trans (hbW5.mono b4.size)
  have hP5 : Hid _ := hP4.out.below hbW5
  have HZ5 : Hid (ItsP W5 w3.heap.size (.slice p4 L.length q4) L P4) := HZ4.out.below hbW5 (Nat.le_refl _)
  have HT5 : Hid (Ins W5 w2.heap.size t0 R) := ins_below HT4.out hbW5 (Nat.le_refl _)
  clear hbW5 hP4 HZ4 HT4 b4
  refine (HIR.out _ _ _ ⟨P4, HZ5.out⟩).mono ?_
  rintro e w6 ⟨⟨g0, rfl, S6⟩, hb6⟩
  have b6 : Below w.heap.size w w6 := bW5.trans (hb6.mono bW5.size)
  have hP6 : Hid _ := hP5.out.below hb6
  have hX6 : Hid _ := hX5.out.below hb6
  have HZ6 : Hid (ItsP w6 w3.heap.size (.slice p4 L.length q4) L P4) := HZ5.out.below hb6 (Nat.le_refl _)
  have HT6 : Hid (Ins w6 w2.heap.size t0 R) := ins_below HT5.out hb6 (Nat.le_refl _)
  have HG6 : Hid (Ins w6 W5.heap.size g0 R) := S6
  have HGO : Hid (∀ g, g0.ownBlock = some g → W5.heap.size ≤ g) := ins_lo S6
  have hz6 := hb6.size
  clear hb6 hP5 hX5 HZ5 HT5 S6 bW5
  go_wp2_with fail
  refine (eqIns _ _ R _ _ _ HG6.out HT6.out).mono ?_
  rintro e w7 ⟨rfl, hb7⟩
  have b7 : Below w.heap.size w w7 := b6.trans (hb7.mono b6.size)
  have hP7 : Hid _ := hP6.out.below hb7
  have hX7 : Hid _ := hX6.out.below hb7
  have HZ7 : Hid (ItsP w7 w3.heap.size (.slice p4 L.length q4) L P4) := HZ6.out.below hb7 (Nat.le_refl _)
  have HT7 : Hid (Ins w7 w2.heap.size t0 R) := ins_below HT6.out hb7 (Nat.le_refl _)
  have HG7 : Hid (Ins w7 W5.heap.size g0 R) := ins_below HG6.out hb7 (Nat.le_refl _)
  have hz7 := hb7.size
  clear hb7 hP6 hX6 HZ6 HT6 HG6 b6
  have hPl := hP7.out.lt
  have hXl := hX7.out.lt
  have x0 : w7.cell? ⟨w.heap.size, 0, none⟩ = some (.slice a1 L.length c1) := hP7.out.cell 0
  have x1 : w7.cell? ⟨w.heap.size, 1, none⟩ = some (.int .i64 nx) := hP7.out.cell 1
  have y0 : w7.cell? ⟨w4.heap.size, 0, none⟩ = some (.slice p4 L.length q4) := hX7.out.cell 0
  have y1 : w7.cell? ⟨w4.heap.size, 1, none⟩ = some (.int .i64 nx) := hX7.out.cell 1
  go_upto_region 10 with fail
  go_region_held3 (fun w' => w'.cell? ⟨w.heap.size, 0, none⟩ = some (.slice a1 L.length c1) ∧ w'.cell? ⟨w.heap.size, 1, none⟩ = some (.int .i64 nx) ∧ w'.cell? ⟨w4.heap.size, 0, none⟩ = some (.slice p4 L.length q4) ∧ w'.cell? ⟨w4.heap.size, 1, none⟩ = some (.int .i64 nx)) (first | (exact ⟨m0, m1, m2, m3⟩) | (exact ⟨k0, k1, k2, k3⟩) | go_keep) (first | (go_at_call 15; refine (HTQ.out _ (b7.trans (((Below.refl w7.heap.size w7).drew).mono b7.size))).mono ?_; rintro e w8 ⟨⟨p8, q8, rfl, S8⟩, hb8⟩; have HB8 : Hid (Below w7.heap.size w7 w8) := ((Below.refl w7.heap.size w7).drew).trans hb8; have HS8 : Hid (Its w8 w7.heap.size (.slice p8 L.length q8) L) := S8; have k0 := (hP7.out.below HB8.out).cell 0; have k1 := (hP7.out.below HB8.out).cell 1; have k2 := (hX7.out.below HB8.out).cell 0; have k3 := (hX7.out.below HB8.out).cell 1; clear hb8 S8) | (go_at_call 18; refine (eqQu _ _ nx L _ _ _ ⟨P4, HZ7.out.below HB8.out (Nat.le_refl _)⟩ HS8.out).mono ?_; rintro e w9 ⟨rfl, hb9⟩; have HB9 : Hid (Below w7.heap.size w7 w9) := HB8.out.trans (hb9.mono HB8.out.size); have m0 := (hP7.out.below HB9.out).cell 0; have m1 := (hP7.out.below HB9.out).cell 1; have m2 := (hX7.out.below HB9.out).cell 0; have m3 := (hX7.out.below HB9.out).cell 1; clear hb9))
  have b9 : Below w.heap.size w w9 := b7.trans (HB9.out.mono b7.size)
  have hP9 : Hid _ := hP7.out.below HB9.out
  have hX9 : Hid _ := hX7.out.below HB9.out
  have HZ9 : Hid (ItsP w9 w3.heap.size (.slice p4 L.length q4) L P4) := HZ7.out.below HB9.out (Nat.le_refl _)
  have HT9 : Hid (Ins w9 w2.heap.size t0 R) := ins_below HT7.out HB9.out (Nat.le_refl _)
  have HG9 : Hid (Ins w9 W5.heap.size g0 R) := ins_below HG7.out HB9.out (Nat.le_refl _)
  have hz9 := HB9.out.size
  clear HB9 HB8 HS8 hP7 hX7 HZ7 HT7 HG7 x0 x1 y0 y1 k0 k1 k2 k3 m0 m1 m2 m3 b7
  have y0 : w9.cell? ⟨w4.heap.size, 0, none⟩ = some (.slice p4 L.length q4) := hX9.out.cell 0
  have y1 : w9.cell? ⟨w4.heap.size, 1, none⟩ = some (.int .i64 nx) := hX9.out.cell 1
  go_wp2_with fail
  have HMQ := markQu _ nx L P4 _ w4.heap.size 1 _ HZ9.out HPB.out HZO.out (Nat.le_refl _) mI
  refine HMQ.mono ?_
  clear HMQ
  rintro e wA ⟨rfl, _, hsA⟩
  have hzA := hsA.size
  have bA : Below w.heap.size w wA := b9.trans ((hsA.below (by omega)).mono (by have := hP9.out.lt; omega))
  have hPA : Hid _ := hP9.out.span hsA (.inl (by omega))
  have HTA : Hid (Ins wA w2.heap.size t0 R) := hsA.row HT9.out (fun g hg => .inl (HTO.out g hg))
  have HGA : Hid (Ins wA W5.heap.size g0 R) := hsA.row HG9.out (fun g hg => .inr (by have := HGO.out g hg; omega))
  clear hsA hP9 hX9 HZ9 HT9 HG9 y0 y1 b9
  have hmi : ¬ ((inxs 1 L : Nat) : Int) < 0 := by omega
  generalize inxs 1 L = I at *
  go_wp2_with fail
  refine (eqIns _ _ R _ _ _ HGA.out HTA.out).mono ?_
  rintro e wB ⟨rfl, hbB⟩
  have bB : Below w.heap.size w wB := bA.trans (hbB.mono bA.size)
  have hPB : Hid _ := hPA.out.below hbB
  have HTB : Hid (Ins wB w2.heap.size t0 R) := ins_below HTA.out hbB (Nat.le_refl _)
  have HGB : Hid (Ins wB W5.heap.size g0 R) := ins_below HGA.out hbB (Nat.le_refl _)
  have hzB := hbB.size
  clear hbB hPA HTA HGA bA
  go_wp2_with fail
  refine (markIns _ R _ 1 _ HGB.out (by decide) (by omega)).mono ?_
  rintro e wC ⟨rfl, SC, hoC⟩
  have HSC : Hid (Ins wC W5.heap.size g0 (nmarks 1 R.length)) := SC
  have hzC := hoC.size
  have bC : Below w.heap.size w wC := bB.trans (hoC.below (fun g hg => by have := HGO.out g hg; have := bB.size; have := hPB.out.lt; omega) (by have := bB.size; omega))
  have hPC : Hid _ := hPB.out.offI hoC (fun g hg => by have := HGO.out g hg; omega)
  have HTC : Hid (Ins wC w2.heap.size t0 R) := (OffL.ofV (vs := [g0]) hoC (by simp)).row HTB.out (fun g hg u hu e => by simp at hu; subst hu; have := HTO.out g hg; have := HGO.out g e; omega)
  clear hoC SC hPB HTB HGB bB
  go_wp2_with fail
  refine (heldIns _ R.length _ 1 _ HSC.out (by decide) (by omega)).mono ?_
  rintro e wD ⟨rfl, hbD⟩
  have bD : Below w.heap.size w wD := bC.trans (hbD.mono bC.size)
  have hPD : Hid _ := hPC.out.below hbD
  have HTD : Hid (Ins wD w2.heap.size t0 R) := ins_below HTC.out hbD (Nat.le_refl _)
  have hzD := hbD.size
  clear hbD hPC HTC HSC bC
  have x0 : wD.cell? ⟨w.heap.size, 0, none⟩ = some (.slice a1 L.length c1) := hPD.out.cell 0
  have x1 : wD.cell? ⟨w.heap.size, 1, none⟩ = some (.int .i64 nx) := hPD.out.cell 1
  go_wp2_with fail
  refine (HTQ.out _ bD).mono ?_
  rintro e wE ⟨⟨pE, qE, rfl, SE⟩, hbE⟩
  have bE : Below w.heap.size w wE := bD.trans (hbE.mono bD.size)
  have HAE : Hid (Its wE wD.heap.size (.slice pE L.length qE) L) := SE
  have HTE : Hid (Ins wE w2.heap.size t0 R) := ins_below HTD.out hbE (Nat.le_refl _)
  clear hbE SE hPD HTD bD x0 x1
  go_wp2_with fail
  refine (HIR.out _ _ _ HAE.out).mono ?_
  rintro e wF ⟨⟨h0, rfl, SF⟩, hbF⟩
  have bF : Below w.heap.size w wF := bE.trans (hbF.mono bE.size)
  have HHF : Hid (Ins wF wE.heap.size h0 R) := SF
  have HTF : Hid (Ins wF w2.heap.size t0 R) := ins_below HTE.out hbF (Nat.le_refl _)
  clear hbF SF HTE bE HAE
  go_wp2_with fail
  refine (eqIns _ _ R _ _ _ HHF.out HTF.out).mono ?_
  rintro e wG ⟨rfl, hbG⟩
  have bG : Below w.heap.size w wG := bF.trans (hbG.mono bF.size)
  clear hbG HHF HTF bF
  go_wp2
  go_ret
  exact ⟨rfl, bG⟩
end Go.Proofs.Ythblkfdgibonbaa
