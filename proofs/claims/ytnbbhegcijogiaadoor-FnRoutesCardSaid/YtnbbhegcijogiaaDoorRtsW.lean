import Derived.Test.YtnbbhegcijogiaaDoorRtB
import Derived.Test.YtnbbhegcijogiaaDoorDrRt
import Derived.Test.YtnbbhegcijogiaaDoorSRt
import Derived.Test.YtnbbhegcijogiaaDoorSameT
import Derived.Test.YtnbbhegcijogiaaDoorOpB
import Derived.Test.YtnbbhegcijogiaaDoorBlk
namespace Go.Proofs.YtnbbhegcijogiaaDoor
open Go.ChangeShapes Go.WideShapes Go.ChangeAt Go.RowKit
attribute [local go_sem ↓] Go.wp_at_zero Go.wp_at_succ

theorem strs_form2R {w : World} {lo : Nat} {v : Value} {L : List ByteArray} (h : Strs w lo v L) : ∃ a c, v = .slice a L.length c := by
  rcases h.cases with ⟨rfl, rfl⟩ | ⟨g, cap, rfl, _⟩
  · exact ⟨_, _, rfl⟩
  · exact ⟨_, _, rfl⟩
theorem blk_at {b N : Nat} {X : Array Value} {w w1 : World} (h : Blk b X w) (hb : Below N w w1) (hN : b < N) : Blk b X w1 :=
  ⟨Nat.lt_of_lt_of_le h.lt hb.size, fun i => (hb.cell (p := ⟨b, i, none⟩) hN).trans (h.cell i), fun o => (hb.frozen (p := ⟨b, o, none⟩) hN).trans (h.free o)⟩
theorem mx_news {w : World} {g : Nat} {L : List Mx} (h : ∀ k (hk : k < L.length), (w.cell? ⟨g, k * 2, none⟩ = some (.int .i64 L[k].1) ∧ w.cell? ⟨g, k * 2 + 1, none⟩ = some (.string L[k].2))) : ∀ j u, (mxRow L)[j]? = some u → w.cell? ((⟨g, 0, none⟩ : Addr).add j) = some u := by
  intro j u hu
  rw [Addr.add_lit, Nat.zero_add]
  have hj : j < 2 * L.length := by rw [← mxRow_len]; exact (List.getElem?_eq_some_iff.1 hu).1
  have hk : j / 2 < L.length := by omega
  obtain ⟨e0, e1⟩ := mxRow_get L (j / 2) hk
  obtain ⟨c0, c1⟩ := h (j / 2) hk
  rcases Nat.mod_two_eq_zero_or_one j with h2 | h2
  · have ej : j / 2 * 2 = j := by omega
    rw [ej] at e0 c0
    rw [e0] at hu; injection hu with hu
    rw [← hu]; exact c0
  · have ej : j / 2 * 2 + 1 = j := by omega
    rw [ej] at e1 c1
    rw [e1] at hu; injection hu with hu
    rw [← hu]; exact c1
theorem mxRow_app (L M : List Mx) : mxRow (L ++ M) = mxRow L ++ mxRow M := by simp [mxRow]
theorem mx_one (L : List Mx) : ∀ u ∈ mxRow L, u.oneCell' = true := by
  intro u hu
  unfold mxRow at hu
  obtain ⟨l, hl, hu⟩ := List.mem_flatten.1 hu
  obtain ⟨m, _, rfl⟩ := List.mem_map.1 hl
  simp [mxEnc] at hu
  rcases hu with rfl | rfl <;> rfl
theorem hosts_small {dom : ByteArray} {kind addr : Int} {L : List Mx} {seed : Nat} (hd : dom.size ≤ 300) (hs : ∀ x ∈ L, x.2.size ≤ 100) : (routeN dom kind addr L seed).1.length ≤ 8 ∧ ∀ x ∈ (routeN dom kind addr L seed).1, x.size ≤ 300 := by
  unfold routeN
  split
  · exact ⟨by simp, fun x hx => by cases hx⟩
  · split
    · split
      · exact ⟨by simp, fun x hx => by simp at hx; subst hx; exact hd⟩
      · split <;> exact ⟨by simp, fun x hx => by cases hx⟩
    · split
      · exact ⟨by simp, fun x hx => by cases hx⟩
      · split
        · exact ⟨by simp, fun x hx => by cases hx⟩
        · split
          · exact ⟨by simp, fun x hx => by cases hx⟩
          · refine ⟨take8, fun x hx => ?_⟩
            obtain ⟨y, hy, rfl⟩ := hosts_mem _ x hx
            obtain ⟨j, hj, _, _, rfl⟩ := (rank_mem2 y).1 hy
            have := hs L[j] (List.getElem_mem _)
            show L[j].2.size ≤ 300
            omega

set_option maxHeartbeats 4000000 in
set_option maxRecDepth 100000 in
theorem routesLaw (cv : Value) (B : List UInt8) (w : World) (hB : BytesArg w cv B) (hl : LenIn w) (ht : TabIn w) :
    Calls Tryd.prog 3 #[cv] w fun e w' => e = .returned (.bool true) ∧ Below w.heap.size w w' := by
  have HL : Hid (LenIn w) := hl
  have HT : Hid (TabIn w) := ht
  obtain ⟨ca, cc, hcv⟩ : ∃ a c, cv = .slice a B.length c := by
    rcases hB.2 with ⟨rfl, a, c, rfl⟩ | ⟨g, off, cap, rfl, _⟩
    · exact ⟨_, _, rfl⟩
    · exact ⟨_, _, rfl⟩
  have hBm := hB.1
  unfold maxLen at hBm
  clear hl ht
  by_cases hbig : 1048576 < B.length
  · subst hcv
    clear hB
    go_enter Tryd.func3, Tryd.ntmps3
    go_wp2
    go_ret
    exact ⟨rfl, Below.refl _ _⟩
  · have HC : Hid (CodeAt w cv B) := ⟨by omega, hB.2⟩
    subst hcv
    clear hB
    have hbigB : decide ((1048576 : Int) < (B.length : Int)) = false := by simp; omega
    go_enter Tryd.func3, Tryd.ntmps3
    go_wp2_with fail
    refine (drawRoute _ B _ HC.out).mono ?_
    rintro e w1 ⟨⟨d, kind, addr, v, L, seed, hd, hL, hLs, hseed, rfl, hM⟩, hb1⟩
    obtain ⟨a1, c1, rfl⟩ := mxs_form hM
    have HM1 : Hid (Mxs w1 w.heap.size (.slice a1 L.length c1) L) := hM
    have HLs : Hid (∀ x ∈ L, x.2.size ≤ 100) := hLs
    clear hM hLs
    have HA1 : Hid (∀ wx, Below w1.heap.size w1 wx → ArgM wx (.slice a1 L.length c1) L) := fun wx hx => mxs_args (mxs_below HM1.out hx (Nat.le_refl _)) (by unfold maxLen; omega) (fun x hx => by have := HLs.out x hx; unfold maxLen; omega)
    have HSz : Hid (∀ x ∈ L, x.2.size ≤ 1048576) := fun x hx => by have := HLs.out x hx; omega
    go_wp2_with fail
    generalize hW : w1.alloc _ = W
    have hbW : Below w1.heap.size w1 W := by rw [← hW]; exact below1 _ _
    have hZ : Hid (Blk w1.heap.size #[.int .i64 kind, .slice a1 L.length c1, .int .i64 addr] W) := by show Blk _ _ _; rw [← hW]; exact Blk.new w1 _ _
    clear hW
    have b1 : Below w.heap.size w W := hb1.trans (hbW.mono hb1.size)
    refine (implRoute d kind addr _ L seed _ (HA1.out _ hbW) (by omega) HSz.out (by omega) (len_below HL.out b1) (tab_belowR HT.out b1)).mono ?_
    rintro e w2 ⟨⟨u2, rfl, S2⟩, hb2⟩
    have HSm := hosts_small (kind := kind) (addr := addr) (seed := seed) hd HLs.out
    obtain ⟨⟨H, cd⟩, HRN⟩ : ∃ RN, Hid (routeN d kind addr L seed = RN) := ⟨_, rfl⟩
    rw [HRN.out] at S2 HSm
    rw [HRN.out]
    dsimp only at S2 HSm ⊢
    obtain ⟨a2, c2, rfl⟩ := strs_form2R S2
    have HS2 : Hid (Strs w2 W.heap.size (.slice a2 H.length c2) H) := S2
    have hZ2 : Hid (Blk w1.heap.size #[.int .i64 kind, .slice a1 L.length c1, .int .i64 addr] w2) := hZ.out.below hb2
    have b2 : Below w.heap.size w w2 := b1.trans (hb2.mono b1.size)
    have hbW2 : Below w1.heap.size w1 w2 := hbW.trans (hb2.mono hbW.size)
    have hm1 : H.length ≤ 8 := HSm.1
    have HSm2 : Hid (∀ x ∈ H, x.size ≤ maxLen) := fun x hx => by have := HSm.2 x hx; unfold maxLen; omega
    clear S2 hZ hbW b1 hb2 HSm
    obtain ⟨hzl, hzc, hzf⟩ := hZ2.out
    have z0 := hzc 0
    have z1 := hzc 1
    have z2 := hzc 2
    simp at z0 z1 z2
    clear hzc
    go_wp2_with fail
    refine (specRoute d kind addr _ L seed _ (HA1.out _ hbW2) (by omega) HSz.out (by omega)).mono ?_
    rw [HRN.out]
    dsimp only
    rintro e w3 ⟨⟨u3, rfl, S3⟩, hb3⟩
    obtain ⟨a3, c3, rfl⟩ := strs_form2R S3
    have HS3 : Hid (Strs w3 w2.heap.size (.slice a3 H.length c3) H) := S3
    have HS23 : Hid (Strs w3 W.heap.size (.slice a2 H.length c2) H) := strs_below HS2.out hb3 (Nat.le_refl _)
    have hZ3 : Hid (Blk w1.heap.size #[.int .i64 kind, .slice a1 L.length c1, .int .i64 addr] w3) := hZ2.out.below hb3
    have b3 : Below w.heap.size w w3 := b2.trans (hb3.mono b2.size)
    have hbW3 : Below w1.heap.size w1 w3 := hbW2.trans (hb3.mono hbW2.size)
    clear S3 hZ2 hb3 b2 hbW2 hzl hzf z0 z1 z2 HS2
    go_wp2_with fail
    refine (sameT _ _ H _ (strs_args HS23.out (by unfold maxLen; omega) HSm2.out) (strs_args HS3.out (by unfold maxLen; omega) HSm2.out)).mono ?_
    rintro e w4 ⟨rfl, hb4⟩
    have HS4 : Hid (Strs w4 W.heap.size (.slice a2 H.length c2) H) := strs_below HS23.out hb4 (Nat.le_refl _)
    have hZ4 : Hid (Blk w1.heap.size #[.int .i64 kind, .slice a1 L.length c1, .int .i64 addr] w4) := hZ3.out.below hb4
    have b4 : Below w.heap.size w w4 := b3.trans (hb4.mono b3.size)
    have hbW4 : Below w1.heap.size w1 w4 := hbW3.trans (hb4.mono hbW3.size)
    clear hZ3 hb4 b3 hbW3 HS23 HS3
    obtain ⟨hzl, hzc, hzf⟩ := hZ4.out
    have z0 := hzc 0
    have z1 := hzc 1
    have z2 := hzc 2
    simp at z0 z1 z2
    clear hzc
    by_cases hr0 : cd = 0
    · subst hr0
      by_cases hk1 : kind = 1
      · subst hk1
        go_wp2_with fail
        have hrt : (routeN d 1 addr L seed).2 = 0 := by rw [HRN.out]
        have hri := route_is hrt
        rw [HRN.out] at hri
        obtain ⟨_, hRN1, hLn⟩ := hri
        dsimp only at hRN1
        have hL0 : 0 < L.length := by cases L with | nil => exact absurd rfl hLn | cons _ _ => simp
        clear hLn
        have HDiff : Hid (∀ i (hi : i < H.length) j (hj : j < i), H[j]'(by omega) ≠ H[i]) := by
          intro i hi j hj
          have := hosts_diff (seed := seed) (L := L) (i := i) (j := j) (by rw [← hRN1]; exact hi) hj
          simp only [← hRN1] at this
          exact this
        have HRise : Hid (∀ i (hi : i + 1 < H.length), bp L (H[i]'(by omega)) L.length ≤ bp L H[i + 1] L.length) := by
          intro i hi
          have := bp_rise (seed := seed) (L := L) (i := i) (by rw [← hRN1]; exact hi)
          simp only [← hRN1] at this
          exact this
        have HBack : Hid (L.length * 2 ≤ 32 → routeN d 1 addr L.reverse seed = (H, 0) ∧ routeN d 1 addr (L ++ L.reverse) seed = (H, 0)) := by
          intro h2
          have := route_back hrt h2
          rw [HRN.out] at this
          exact this
        clear hrt hRN1
        go_loopw [10, 65] (fun lv iv wr => ∃ (i : Nat) (last : Int), i ≤ H.length ∧ iv = .int .i64 i ∧ lv = .int .i64 last ∧ Hid (∀ (hi : i < H.length), last ≤ bp L H[i] L.length) ∧ Hid (Below w4.heap.size w4 wr)) (fun _ iv _ => H.length - (intOf iv).toNat)
        case atStart => exact ⟨0, -1, Nat.zero_le _, rfl, rfl, fun _ => bp_ge _ _ _, Below.refl _ _⟩
        case round =>
          obtain ⟨i, last, hi, rfl, rfl, Hlast, HBr⟩ := hrel
          obtain ⟨wq, hwq⟩ : ∃ wq : World, wq = wr := ⟨wr, rfl⟩
          subst hwq
          by_cases hlt : i < H.length
          · obtain ⟨g, rfl, hg, hgc⟩ : ∃ g, a2 = some ⟨g, 0, none⟩ ∧ g < w4.heap.size ∧ ∀ k (hk : k < H.length), w4.cell? ⟨g, k, none⟩ = some (.string H[k]) := by
              rcases HS4.out.cases with ⟨_, h0⟩ | ⟨g, cap, hv, hs⟩
              · rw [h0] at hlt; exact absurd hlt (by simp)
              · injection hv with h1
                exact ⟨g, h1, hs.lt, hs.cell⟩
            have HG : Hid (∀ k (hk : k < H.length), wq.cell? ⟨g, k, none⟩ = some (.string H[k])) := fun k hk => (HBr.out.cell (p := ⟨g, k, none⟩) hg).trans (hgc k hk)
            have ex := HG.out i hlt
            clear hgc
            have hgq : g < wq.heap.size := Nat.lt_of_lt_of_le hg HBr.out.size
            have hZq : Blk w1.heap.size #[.int .i64 1, .slice a1 L.length c1, .int .i64 addr] wq := hZ4.out.below HBr.out
            obtain ⟨yl, yc, yf⟩ := hZq
            have y1 := yc 1
            simp at y1
            clear yc
            obtain ⟨X, hX⟩ : ∃ X, H[i] = X := ⟨_, rfl⟩
            rw [hX] at ex
            have HX : Hid (H[i] = X) := hX
            clear hX
            have HLX : Hid (last ≤ bp L X L.length) := by rw [← HX.out]; exact Hlast.out hlt
            clear Hlast
            go_wp2_with fail
            go_loopw [13] (fun jv wr => ∃ j : Nat, j ≤ i ∧ jv = .int .i64 j ∧ wr = wq) (fun jv _ => i - (intOf jv).toNat)
            case atStart => exact ⟨0, Nat.zero_le _, rfl, rfl⟩
            case round =>
              obtain ⟨j, hj, rfl, hwr⟩ := hrel
              have hwr2 := hwr.symm
              clear hwr
              subst hwr2
              by_cases hjl : j < i
              · have ej := HG.out j (by omega)
                have hne : (H[j].toList == X.toList) = false := by
                  have := HDiff.out i hlt j hjl
                  rw [HX.out] at this
                  exact beq_eq_false_iff_ne.2 fun c => this (toList_inj c)
                generalize H[j] = Y at *
                go_wp2
                go_roundw
                case rel => exact ⟨j + 1, by omega, by go_num, trivial⟩
                case measure => simp [intOf]; omega
              · obtain rfl : j = i := by omega
                go_wp2_with fail
                go_loopw [14, 84] (fun bv kv wr => ∃ k : Nat, k ≤ L.length ∧ kv = .int .i64 k ∧ bv = .int .i64 (bp L X k) ∧ Hid (Below wq.heap.size wq wr)) (fun _ kv _ => L.length - (intOf kv).toNat)
                case atStart => exact ⟨0, Nat.zero_le _, rfl, rfl, Below.refl _ _⟩
                case round =>
                  obtain ⟨k, hk, rfl, rfl, HB3⟩ := hrel
                  by_cases hkl : k < L.length
                  · obtain ⟨g1, rfl, hg1, hgc1⟩ : ∃ g1, a1 = some ⟨g1, 0, none⟩ ∧ g1 < w1.heap.size ∧ (w1.cell? ⟨g1, k * 2, none⟩ = some (.int .i64 L[k].1) ∧ w1.cell? ⟨g1, k * 2 + 1, none⟩ = some (.string L[k].2)) := by
                      rcases HM1.out.cases with ⟨_, h0⟩ | ⟨g1, cap, hv, hs⟩
                      · rw [h0] at hkl; exact absurd hkl (by simp)
                      · injection hv with h1
                        exact ⟨g1, h1, hs.lt, hs.cell k hkl⟩
                    have hbr : Below w1.heap.size w1 wr := hbW4.trans ((HBr.out.trans (HB3.out.mono HBr.out.size)).mono hbW4.size)
                    have c0 := (hbr.cell (p := ⟨g1, k * 2, none⟩) hg1).trans hgc1.1
                    have c1' := (hbr.cell (p := ⟨g1, k * 2 + 1, none⟩) hg1).trans hgc1.2
                    have HY : Hid (∀ ht : k < 32 ∧ bpT L[k] X (bp L X k), bp L X (k + 1) = L[k].1) := fun ht => bp_yes hkl ht.1 ht.2
                    have HN : Hid (∀ ht : ¬ (k < 32 ∧ bpT L[k] X (bp L X k)), bp L X (k + 1) = bp L X k) := fun ht => bp_no hkl ht
                    have hge := bp_ge L X k
                    have hle := bp_le L X k
                    clear hgc1 hbr
                    generalize L[k] = M at *
                    obtain ⟨m1, m2⟩ := M
                    generalize hbk : bp L X k = bk at *
                    clear hbk
                    dsimp only at *
                    unfold bpT at HY HN
                    dsimp only at HY HN
                    have hm1b : (¬ 0 ≤ m1 → bp L X (k + 1) = bk) ∧ (¬ m1 ≤ 65535 → bp L X (k + 1) = bk) := ⟨fun h => HN.out fun c => h c.2.2.1, fun h => HN.out fun c => h c.2.2.2.1⟩
                    have HE : Hid (∀ (r : Int) (wx : World), bp L X (k + 1) = r → Below wr.heap.size wr wx → ∃ j : Nat, j ≤ L.length ∧ Value.int .i64 ((k : Int) + 1) = .int .i64 j ∧ Value.int .i64 r = .int .i64 (bp L X j) ∧ Hid (Below wq.heap.size wq wx)) :=
                      fun r wx hr hx => ⟨k + 1, by omega, by go_num, by rw [hr], HB3.out.trans (hx.mono HB3.out.size)⟩
                    by_cases t1 : k < 32
                    · by_cases t2 : m2 = X
                      · have t2b : (m2.toList == X.toList) = true := by rw [t2]; simp
                        by_cases t3 : 0 ≤ m1
                        · by_cases t4 : m1 ≤ 65535
                          · by_cases t5 : bk < 0
                            · have hr := HY.out ⟨t1, t2, t3, t4, .inl t5⟩
                              clear HY HN hm1b t2
                              go_wp2
                              go_roundw
                              case rel => exact HE.out m1 _ hr (below1 _ _)
                              case measure => simp [intOf]; omega
                            · by_cases t6 : m1 < bk
                              · have hr := HY.out ⟨t1, t2, t3, t4, .inr t6⟩
                                clear HY HN hm1b t2
                                go_wp2
                                go_roundw
                                case rel => exact HE.out m1 _ hr (below1 _ _)
                                case measure => simp [intOf]; omega
                              · have hr := HN.out fun c => (by have := c.2.2.2.2; omega)
                                clear HY HN hm1b t2
                                go_wp2
                                go_roundw
                                case rel => exact HE.out bk _ hr (below1 _ _)
                                case measure => simp [intOf]; omega
                          · have hr := hm1b.2 t4
                            clear HY HN hm1b t2
                            go_wp2
                            go_roundw
                            case rel => exact HE.out bk _ hr (below1 _ _)
                            case measure => simp [intOf]; omega
                        · have hr := hm1b.1 t3
                          clear HY HN hm1b t2
                          go_wp2
                          go_roundw
                          case rel => exact HE.out bk _ hr (below1 _ _)
                          case measure => simp [intOf]; omega
                      · have t2b : (m2.toList == X.toList) = false := beq_eq_false_iff_ne.2 fun c => t2 (toList_inj c)
                        have hr := HN.out fun c => t2 c.2.1
                        clear HY HN hm1b t2
                        go_wp2
                        go_roundw
                        case rel => exact HE.out bk _ hr (below1 _ _)
                        case measure => simp [intOf]; omega
                    · have hr := HN.out fun c => t1 c.1
                      clear HY HN hm1b
                      go_wp2
                      go_roundw
                      case rel => exact HE.out bk _ hr (below1 _ _)
                      case measure => simp [intOf]; omega
                  · obtain rfl : k = L.length := by omega
                    have hfin := HLX.out
                    have HNx : Hid (∀ (hi : j + 1 < H.length), bp L X L.length ≤ bp L H[j + 1] L.length) := fun hi => by have := HRise.out j hi; rw [HX.out] at this; exact this
                    have HB5 : Hid (Below w4.heap.size w4 wr) := HBr.out.trans (HB3.out.mono HBr.out.size)
                    generalize bp L X L.length = z at *
                    go_wp2
                    go_roundw
                    case rel => exact ⟨j + 1, z, by omega, by go_num, rfl, HNx, HB5⟩
                    case measure => simp [intOf]; omega
          · clear Hlast HDiff HRise
            have hZq : Hid (Blk w1.heap.size #[.int .i64 1, .slice a1 L.length c1, .int .i64 addr] wq) := hZ4.out.below HBr.out
            obtain ⟨yl, yc, yf⟩ := hZq.out
            have y0 := yc 0
            have y1 := yc 1
            have y2 := yc 2
            simp at y0 y1 y2
            clear yc hzl z0 z1 z2 hzf
            have b5 : Below w.heap.size w wq := b4.trans (HBr.out.mono b4.size)
            by_cases h32 : 32 < L.length * 2
            · have h32i : (32 : Int) < (L.length : Int) * 2 := by omega
              go_wp2
              go_ret
              exact ⟨rfl, b5⟩
            · have h32i : ¬ (32 : Int) < (L.length : Int) * 2 := by omega
              obtain ⟨hbk, htw⟩ := HBack.out (by omega)
              have Hbk : Hid (routeN d 1 addr L.reverse seed = (H, 0)) := hbk
              have Htw : Hid (routeN d 1 addr (L ++ L.reverse) seed = (H, 0)) := htw
              have HSq : Hid (Strs wq W.heap.size (.slice a2 H.length c2) H) := strs_below HS4.out HBr.out (Nat.le_refl _)
              have hbWq : Below w1.heap.size w1 wq := hbW4.trans (HBr.out.mono hbW4.size)
              clear hbk htw HBack HS4 hZ4 HBr hbW4 b4
              go_wp2_with fail
              generalize hWb : World.alloc _ _ = Wb
              have hbb : Below wq.heap.size wq Wb := by rw [← hWb]; exact below1 _ _
              have hBb : Hid (Blk wq.heap.size #[.int .i64 1, .slice none 0 0, .int .i64 addr] Wb) := by show Blk _ _ _; rw [← hWb]; exact Blk.new wq _ _
              clear hWb
              obtain ⟨i0, hinf, hx0, hx1, hx2⟩ := info_parts infoMx
              obtain ⟨g1, rfl, hg1, hgc1⟩ : ∃ g1, a1 = some ⟨g1, 0, none⟩ ∧ g1 < w1.heap.size ∧ ∀ k (hk : k < L.length), (w1.cell? ⟨g1, k * 2, none⟩ = some (.int .i64 L[k].1) ∧ w1.cell? ⟨g1, k * 2 + 1, none⟩ = some (.string L[k].2)) := by
                rcases HM1.out.cases with ⟨_, h0⟩ | ⟨g1, cap, hv, hs⟩
                · rw [h0] at hL0; exact absurd hL0 (by simp)
                · injection hv with h1
                  exact ⟨g1, h1, hs.lt, hs.cell⟩
              have HG1 : Hid (∀ wx, Below wq.heap.size wq wx → ∀ k (hk : k < L.length), (wx.cell? ⟨g1, k * 2, none⟩ = some (.int .i64 L[k].1) ∧ wx.cell? ⟨g1, k * 2 + 1, none⟩ = some (.string L[k].2))) := fun wx hx k hk =>
                ⟨((hbWq.trans (hx.mono hbWq.size)).cell (p := ⟨g1, k * 2, none⟩) hg1).trans (hgc1 k hk).1, ((hbWq.trans (hx.mono hbWq.size)).cell (p := ⟨g1, k * 2 + 1, none⟩) hg1).trans (hgc1 k hk).2⟩
              clear hgc1
              go_loopw [18] (fun iv wr => ∃ (k : Nat) (sv : Value), k ≤ L.length ∧ iv = .int .i64 ((L.length : Int) - 1 - k) ∧ Hid (Blk wq.heap.size #[.int .i64 1, sv, .int .i64 addr] wr) ∧ Hid (wr.ownsRow (wq.heap.size + 1) 34 2 sv k (mxRow (L.reverse.take k))) ∧ Hid (Below wq.heap.size wq wr)) (fun iv _ => (intOf iv + 1).toNat)
              case atStart => exact ⟨0, .slice none 0 0, Nat.zero_le _, by go_num, hBb, ⟨by rfl, .inl ⟨rfl, rfl⟩⟩, hbb⟩
              case round =>
                obtain ⟨k, sv, hk, rfl, HBk, HMk, HB6⟩ := hrel
                obtain ⟨xl, xc, xf⟩ := HBk.out
                have x1 := xc 1
                simp at x1
                clear xc
                have v1 := (HB6.out.cell (p := ⟨w1.heap.size, 1, none⟩) yl).trans y1
                by_cases hkl : k < L.length
                · obtain ⟨a5, c5, rfl⟩ : ∃ a c, sv = .slice a k c := by
                    rcases HMk.out.2 with ⟨hv, h0⟩ | ⟨g, cap, cur, hv, _⟩
                    · subst h0; exact ⟨_, _, hv⟩
                    · exact ⟨_, _, hv⟩
                  obtain ⟨m, hm, hmk⟩ : ∃ m : Nat, (L.length : Int) - 1 - k = (m : Int) ∧ m + k + 1 = L.length := ⟨L.length - 1 - k, by omega, by omega⟩
                  rw [hm]
                  obtain ⟨d0, d1⟩ := HG1.out wr HB6.out m (by omega)
                  have hlo : ∀ g, (Value.slice a5 k c5).ownBlock = some g → wq.heap.size + 1 ≤ g := by
                    intro g hg
                    rcases HMk.out.2 with ⟨hv, h0⟩ | ⟨g', cap, cur, hv, hl, _⟩
                    · rw [hv] at hg; cases hg
                    · rw [hv] at hg; cases hg; exact hl
                  have HRow : Hid (mxRow (L.reverse.take (k + 1)) = mxRow (L.reverse.take k) ++ [.int .i64 L[m].1, .string L[m].2]) := by
                    have e : L.reverse[k]'(by simpa using hkl) = L[m] := by
                      rw [List.getElem_reverse]; congr 1; omega
                    rw [List.take_succ_eq_append_getElem (by simpa using hkl), e, mxRow_snoc]; rfl
                  generalize L[m] = M at *
                  have m1 : (0 : Int) ≤ (m : Int) := by omega
                  have m2 : (m : Int) < (L.length : Int) := by omega
                  go_upto_region 36 with fail
                  go_region_law (refine step_append_lies _ (by rfl) _ _ 23 (by rfl) (wq.heap.size + 1) 34 i0 (.agg #[.int .i64 0, .string ⟨#[]⟩]) 2 24 Tryd.underlying23 hinf hx0 hx1 hx2 (by rfl) (by decide) (.slice a5 k c5) k (mxRow (L.reverse.take k)) (by rfl) (by exact (row_below HMk.out (Below.refl wr.heap.size wr).drew (Nat.le_refl _)).alloc _) ⟨wr.heap.size, 0, none⟩ 1 1 [.int .i64 M.1, .string M.2] (by rfl) (by rfl) (by intro j u hj; exact World.news_of_block (lk_newR _ _ _ rfl) j u (by simpa using hj)) (by intro u hu; simp at hu; rcases hu with rfl | rfl <;> rfl) (by decide) (by unfold maxLen; omega) (by omega) (by simp; omega) (wr.heap.size + 1) (by simp) ?_; intro g cap w7 hown hgrow hat hlt7; have HB7 : Hid (Below (wq.heap.size + 1) wr w7) := ((((Below.refl (wq.heap.size + 1) wr).drew).alloc (by simp; omega) _).grown hgrow (by simp; omega) hlo); have k7 := (HB7.out.cell (p := ⟨wq.heap.size, 1, none⟩) (by show wq.heap.size < _; omega)).trans x1; have f7 := (HB7.out.frozen (p := ⟨wq.heap.size, 1, none⟩) (by show wq.heap.size < _; omega)).trans (xf 1))
                  all_goals
                    have HBk7 : Hid (Blk wq.heap.size #[.int .i64 1, .slice a5 k c5, .int .i64 addr] w7) := blk_at HBk.out HB7.out (by omega)
                    have HM7 : Hid (w7.ownsRow (wq.heap.size + 1) 34 2 (.slice (some ⟨g, 0, none⟩) (k + 1) cap) (k + 1) (mxRow (L.reverse.take (k + 1)))) := by
                      show World.ownsRow _ _ _ _ _ _ _
                      rw [HRow.out]; exact hown
                    have HB8 : Hid (Below wq.heap.size wq (w7.setCell ⟨wq.heap.size, 1, none⟩ (.slice (some ⟨g, 0, none⟩) (k + 1) cap))) := (HB6.out.trans (HB7.out.mono (by omega))).setCell (Nat.le_refl _) _
                    clear hown hgrow hat HB7 k7 f7 hinf hx0 hx1 hx2 HMk HRow d0 d1
                    go_wp2
                    go_roundw
                    case rel => exact ⟨k + 1, .slice (some ⟨g, 0, none⟩) (k + 1) cap, by omega, by go_num, (HBk7.out.set (i := 1) (v := .slice (some ⟨g, 0, none⟩) (k + 1) cap) (by simp)), ownsRow_setCell_below HM7.out (by show wq.heap.size < _; omega) _, HB8⟩
                    case measure => simp [intOf]
                · obtain rfl : k = L.length := by omega
                  have hlast : (L.length : Int) - 1 - (L.length : Int) = -1 := by omega
                  rw [hlast]
                  clear hlast hkl x1 xl xf
                  have hZr := hZq.out.below HB6.out
                  have v0 := hZr.cell 0
                  have v2 := hZr.cell 2
                  simp at v0 v2
                  clear hZr
                  obtain ⟨a5, c5, rfl⟩ : ∃ a c, sv = .slice a L.length c := by
                    rcases HMk.out.2 with ⟨hv, h0⟩ | ⟨g, cap, cur, hv, _⟩
                    · omega
                    · exact ⟨_, _, hv⟩
                  have HMb : Hid (Mxs wr (wq.heap.size + 1) (.slice a5 L.length c5) L.reverse) := by
                    show Mxs _ _ _ _
                    unfold Mxs
                    have := HMk.out
                    rw [List.take_of_length_le (by simp)] at this
                    rw [List.length_reverse]
                    exact this
                  clear HMk
                  go_upto_region 38 with fail
                  generalize hWt : World.alloc _ _ = Wt
                  have hbt : Below wr.heap.size wr Wt := by rw [← hWt]; exact below1 _ _
                  have hBt : Hid (Blk wr.heap.size #[.int .i64 1, .slice none 0 0, .int .i64 addr] Wt) := by show Blk _ _ _; rw [← hWt]; exact Blk.new wr _ _
                  clear hWt v0 v2
                  have hBk2 : Hid (Blk wq.heap.size #[.int .i64 1, .slice a5 L.length c5, .int .i64 addr] Wt) := HBk.out.below hbt
                  have HMb2 : Hid (Mxs Wt (wq.heap.size + 1) (.slice a5 L.length c5) L.reverse) := mxs_below HMb.out hbt (Nat.le_refl _)
                  have hq := hBk2.out.lt
                  have ht0 := hBt.out.lt
                  have t1 := hBt.out.cell 1
                  simp at t1
                  have tf := hBt.out.free 1
                  have u1 := (hbt.cell (p := ⟨w1.heap.size, 1, none⟩) (by show w1.heap.size < _; have := HB6.out.size; omega)).trans v1
                  have hqr : wq.heap.size < wr.heap.size := HBk.out.lt
                  have h5lt : ∀ g, (Value.slice a5 L.length c5).ownBlock = some g → g < wr.heap.size := mxs_own HMb.out
                  have H5lt : Hid (∀ g, (Value.slice a5 L.length c5).ownBlock = some g → g < wr.heap.size) := h5lt
                  clear h5lt
                  have HBt : Hid (Below wq.heap.size wq Wt) := HB6.out.trans (hbt.mono (by omega))
                  clear hbt v1 HMb HBk
                  have HGt := HG1.out Wt HBt.out
                  have hnews : Hid (∀ j u, (mxRow L)[j]? = some u → Wt.cell? ((⟨g1, 0, none⟩ : Addr).add j) = some u) := mx_news HGt
                  clear HGt
                  go_wp2_with (at_builtin; refine wpList_append_lies _ rfl _ _ 23 rfl (wr.heap.size + 1) 34 i0 (.agg #[.int .i64 0, .string ⟨#[]⟩]) 2 24 Tryd.underlying23 hinf hx0 hx1 hx2 rfl (by decide) (.slice none 0 0) 0 [] rfl ⟨by rfl, .inl ⟨rfl, rfl⟩⟩ ⟨g1, 0, none⟩ L.length c1 (mxRow L) rfl (by rw [mxRow_len]; omega) hnews.out ?c2 hL0 ?c4 ?c5 ?c6 Wt.heap.size rfl ?_)
                  case c2 => exact mx_one L
                  case c4 => unfold maxLen; omega
                  case c5 => omega
                  case c6 => omega
                  intro g cap w7 hown hgrow hat hlt7
                  have hb7 : Below Wt.heap.size Wt w7 := (Below.refl Wt.heap.size Wt).grown hgrow (Nat.le_refl _) (by intro k hk; cases hk)
                  obtain rfl : g = Wt.heap.size := by rcases hat with h | h; cases h; exact h
                  have t7 := (hb7.cell (p := ⟨wr.heap.size, 1, none⟩) ht0).trans t1
                  have tf7 := (hb7.frozen (p := ⟨wr.heap.size, 1, none⟩) ht0).trans tf
                  have HM7 : Hid (w7.ownsRow (wr.heap.size + 1) 34 2 (.slice (some ⟨Wt.heap.size, 0, none⟩) L.length cap) L.length (mxRow L)) := by
                    show World.ownsRow _ _ _ _ _ _ _
                    simpa using hown
                  have hBt7 := hBt.out.below hb7
                  have hBk7 := hBk2.out.below hb7
                  have HMb7 := mxs_below HMb2.out hb7 (Nat.le_refl _)
                  have HB7 : Hid (Below wq.heap.size wq w7) := HBt.out.trans (hb7.mono (by omega))
                  clear hown hgrow hat t1 tf u1 hnews hBt hBk2 HMb2 HBt
                  go_upto_region 39 with fail
                  generalize hW8 : w7.setCell _ _ = W8
                  have hBt8 : Hid (Blk wr.heap.size #[.int .i64 1, .slice (some ⟨Wt.heap.size, 0, none⟩) L.length cap, .int .i64 addr] W8) := by
                    show Blk _ _ _
                    rw [← hW8]
                    have := hBt7.set (i := 1) (v := .slice (some ⟨Wt.heap.size, 0, none⟩) L.length cap) (by simp)
                    simpa using this
                  have HMt8 : Hid (W8.ownsRow (wr.heap.size + 1) 34 2 (.slice (some ⟨Wt.heap.size, 0, none⟩) L.length cap) L.length (mxRow L)) := by
                    show World.ownsRow _ _ _ _ _ _ _
                    rw [← hW8]
                    exact ownsRow_setCell_below HM7.out (by show wr.heap.size < _; omega) _
                  have hBk8 : Hid (Blk wq.heap.size #[.int .i64 1, .slice a5 L.length c5, .int .i64 addr] W8) := by
                    show Blk _ _ _
                    rw [← hW8]
                    exact hBk7.other (by omega)
                  have HMb8 : Hid (Mxs W8 (wq.heap.size + 1) (.slice a5 L.length c5) L.reverse) := by
                    show Mxs _ _ _ _
                    rw [← hW8]
                    exact row_set_ne HMb7 (fun g hg => by have := H5lt.out g hg; show g ≠ wr.heap.size; omega) _
                  have HB8 : Hid (Below wq.heap.size wq W8) := by
                    show Below _ _ _
                    rw [← hW8]
                    exact HB7.out.setCell (by show _ ≤ wr.heap.size; omega) _
                  clear hW8 hBt7 hBk7 HMb7 HB7 HM7 t7 tf7
                  have t8 := hBt8.out.cell 1
                  have k8 := hBk8.out.cell 1
                  simp at t8 k8
                  have tf8 := hBt8.out.free 1
                  have hz8 := hBt8.out.lt
                  have hW8t : Wt.heap.size < W8.heap.size := by
                    rcases HMt8.out.2 with ⟨hv, _⟩ | ⟨g, cap', cur, hv, _, hg, _⟩
                    · cases hv
                    · injection hv with h1
                      injection h1 with h1
                      injection h1 with h1
                      rw [h1]; exact (Array.getElem?_eq_some_iff.1 hg).1
                  obtain ⟨g5, ha5, hg5, hgc5⟩ : ∃ g5, a5 = some ⟨g5, 0, none⟩ ∧ g5 < W8.heap.size ∧ ∀ k (hk : k < L.reverse.length), (W8.cell? ⟨g5, k * 2, none⟩ = some (.int .i64 L.reverse[k].1) ∧ W8.cell? ⟨g5, k * 2 + 1, none⟩ = some (.string L.reverse[k].2)) := by
                    rcases HMb8.out.cases with ⟨_, h0⟩ | ⟨g5, cap, hv, hs⟩
                    · have := congrArg List.length h0; simp at this; rw [this] at hL0; exact absurd hL0 (by simp)
                    · injection hv with h1
                      exact ⟨g5, h1, hs.lt, hs.cell⟩
                  subst ha5
                  have hnews : Hid (∀ j u, (mxRow L.reverse)[j]? = some u → W8.cell? ((⟨g5, 0, none⟩ : Addr).add j) = some u) := mx_news hgc5
                  clear hgc5
                  go_wp2_with (at_builtin; refine wpList_append_lies _ rfl _ _ 23 rfl (wr.heap.size + 1) 34 i0 (.agg #[.int .i64 0, .string ⟨#[]⟩]) 2 24 Tryd.underlying23 hinf hx0 hx1 hx2 rfl (by decide) (.slice (some ⟨Wt.heap.size, 0, none⟩) L.length cap) L.length (mxRow L) rfl HMt8.out ⟨g5, 0, none⟩ L.length c5 (mxRow L.reverse) rfl (by rw [mxRow_len, List.length_reverse]; omega) hnews.out ?e2 hL0 ?e4 ?e5 ?e6 W8.heap.size rfl ?_)
                  case e2 => exact mx_one L.reverse
                  case e4 => unfold maxLen; omega
                  case e5 => omega
                  case e6 => omega
                  intro g2 cap2 w9 hown hgrow hat hlt9
                  have hb9 : Below (wr.heap.size + 1) W8 w9 := (Below.refl (wr.heap.size + 1) W8).grown hgrow (by omega) (by intro k hk; cases hk; show wr.heap.size + 1 ≤ Wt.heap.size; omega)
                  have t9 := (hb9.cell (p := ⟨wr.heap.size, 1, none⟩) (by show wr.heap.size < _; omega)).trans t8
                  have tf9 := (hb9.frozen (p := ⟨wr.heap.size, 1, none⟩) (by show wr.heap.size < _; omega)).trans tf8
                  have HM9 : Hid (Mxs w9 (wr.heap.size + 1) (.slice (some ⟨g2, 0, none⟩) (L.length + L.length) cap2) (L ++ L.reverse)) := by
                    show Mxs _ _ _ _
                    unfold Mxs
                    rw [mxRow_app, List.length_append, List.length_reverse]
                    exact hown
                  have hBt9 := blk_at hBt8.out hb9 (by omega)
                  have hBk9 := blk_at hBk8.out hb9 (by omega)
                  have HMb9 := mxs_below_lo HMb8.out hb9 (fun g hg => by have := H5lt.out g hg; omega)
                  have HB9 : Hid (Below wq.heap.size wq w9) := HB8.out.trans (hb9.mono (by omega))
                  clear hown hgrow hat t8 k8 tf8 hnews hBt8 hBk8 HMb8 HB8 HMt8 hb9 hinf hx0 hx1 hx2
                  go_upto_region 40 with fail
                  generalize hW10 : w9.setCell _ _ = W10
                  have hBt10 : Hid (Blk wr.heap.size #[.int .i64 1, .slice (some ⟨g2, 0, none⟩) (L.length + L.length) cap2, .int .i64 addr] W10) := by
                    show Blk _ _ _
                    rw [← hW10]
                    have := hBt9.set (i := 1) (v := .slice (some ⟨g2, 0, none⟩) (L.length + L.length) cap2) (by simp)
                    simpa using this
                  have hBk10 : Hid (Blk wq.heap.size #[.int .i64 1, .slice (some ⟨g5, 0, none⟩) L.length c5, .int .i64 addr] W10) := by
                    show Blk _ _ _
                    rw [← hW10]
                    exact hBk9.other (by omega)
                  have HMb10 : Hid (Mxs W10 (wq.heap.size + 1) (.slice (some ⟨g5, 0, none⟩) L.length c5) L.reverse) := by
                    show Mxs _ _ _ _
                    rw [← hW10]
                    exact row_set_ne HMb9 (fun g hg => by have := H5lt.out g hg; show g ≠ wr.heap.size; omega) _
                  have HMt10 : Hid (Mxs W10 (wr.heap.size + 1) (.slice (some ⟨g2, 0, none⟩) (L.length + L.length) cap2) (L ++ L.reverse)) := by
                    show Mxs _ _ _ _
                    rw [← hW10]
                    exact mxs_set_ne HM9.out (by show wr.heap.size < _; omega) _
                  have HB10 : Hid (Below wq.heap.size wq W10) := by
                    show Below _ _ _
                    rw [← hW10]
                    exact HB9.out.setCell (by show _ ≤ wr.heap.size; omega) _
                  clear hW10 hBt9 hBk9 HMb9 HB9 HM9 t9 tf9
                  have HSr : Hid ((∀ x ∈ L.reverse, x.2.size ≤ 1048576) ∧ (∀ x ∈ L ++ L.reverse, x.2.size ≤ 1048576)) := ⟨fun x hx => HSz.out x (by simpa using hx), fun x hx => HSz.out x (by simpa using hx)⟩
                  have b10 : Below w.heap.size w W10 := b5.trans (HB10.out.mono b5.size)
                  have HS10 : Hid (Strs W10 W.heap.size (.slice a2 H.length c2) H) := strs_below HSq.out HB10.out (Nat.le_refl _)
                  have k0 := hBk10.out.cell 0
                  have k1 := hBk10.out.cell 1
                  have k2 := hBk10.out.cell 2
                  simp at k0 k1 k2
                  clear HSq
                  go_wp2_with fail
                  refine (implRoute d 1 addr _ L.reverse seed _ (mxs_args HMb10.out (by simp [maxLen]; omega) (fun x hx => by have := HSr.out.1 x hx; unfold maxLen; omega)) (by omega) HSr.out.1 (by omega) (len_below HL.out b10) (tab_belowR HT.out b10)).mono ?_
                  rw [Hbk.out]
                  dsimp only
                  rintro e w11 ⟨⟨u11, rfl, S11⟩, hb11⟩
                  have b11 : Below w.heap.size w w11 := b10.trans (hb11.mono b10.size)
                  have HMt11 := mxs_below HMt10.out hb11 (Nat.le_refl _)
                  have hBt11 := hBt10.out.below hb11
                  have HS11 := strs_below HS10.out hb11 (Nat.le_refl _)
                  clear k0 k1 k2 hBk10 HMb10 HMt10 HB10 hb11 hBt10 HS10
                  have k0 := hBt11.cell 0
                  have k1 := hBt11.cell 1
                  have k2 := hBt11.cell 2
                  simp at k0 k1 k2
                  clear hBt11
                  obtain ⟨a11, c11, rfl⟩ := strs_form2R S11
                  have HS11 : Hid (Strs w11 W.heap.size (.slice a2 H.length c2) H) := HS11
                  have HSa11 : Hid (Strs w11 W10.heap.size (.slice a11 H.length c11) H) := S11
                  have HMt : Hid (Mxs w11 (wr.heap.size + 1) (.slice (some ⟨g2, 0, none⟩) (L.length + L.length) cap2) (L ++ L.reverse)) := HMt11
                  clear S11 HMt11
                  go_wp2_with fail
                  refine (implRoute d 1 addr _ (L ++ L.reverse) seed _ (mxs_args HMt.out (by simp [maxLen]; omega) (fun x hx => by have := HSr.out.2 x hx; unfold maxLen; omega)) (by omega) HSr.out.2 (by omega) (len_below HL.out b11) (tab_belowR HT.out b11)).mono ?_
                  rw [Htw.out]
                  dsimp only
                  rintro e w12 ⟨⟨u12, rfl, S12⟩, hb12⟩
                  have b12 : Below w.heap.size w w12 := b11.trans (hb12.mono b11.size)
                  have HS12 : Hid (Strs w12 W.heap.size (.slice a2 H.length c2) H) := strs_below HS11.out hb12 (Nat.le_refl _)
                  have HSa12 : Hid (Strs w12 W10.heap.size (.slice a11 H.length c11) H) := strs_below HSa11.out hb12 (Nat.le_refl _)
                  obtain ⟨a12, c12, rfl⟩ := strs_form2R S12
                  have HSb12 : Hid (Strs w12 w11.heap.size (.slice a12 H.length c12) H) := S12
                  clear S12 hb12 k0 k1 k2 HMt HS11 HSa11
                  go_wp2_with fail
                  refine (sameT _ _ H _ (strs_args HSa12.out (by unfold maxLen; omega) HSm2.out) (strs_args HS12.out (by unfold maxLen; omega) HSm2.out)).mono ?_
                  rintro e w13 ⟨rfl, hb13⟩
                  have HS13 : Hid (Strs w13 W.heap.size (.slice a2 H.length c2) H) := strs_below HS12.out hb13 (Nat.le_refl _)
                  have HSb13 : Hid (Strs w13 w11.heap.size (.slice a12 H.length c12) H) := strs_below HSb12.out hb13 (Nat.le_refl _)
                  have b13 : Below w.heap.size w w13 := b12.trans (hb13.mono b12.size)
                  clear hb13 HS12 HSa12 HSb12
                  go_wp2_with fail
                  refine (sameT _ _ H _ (strs_args HSb13.out (by unfold maxLen; omega) HSm2.out) (strs_args HS13.out (by unfold maxLen; omega) HSm2.out)).mono ?_
                  rintro e w14 ⟨rfl, hb14⟩
                  have b14 : Below w.heap.size w w14 := b13.trans (hb14.mono b13.size)
                  clear hb14
                  go_wp2
                  go_ret
                  exact ⟨rfl, b14⟩
      · have hk1b : (kind != 1) = true := by rw [bne_iff_ne]; exact hk1
        go_wp2
        go_ret
        exact ⟨rfl, b4⟩
    · have hr0b : (cd != 0) = true := by rw [bne_iff_ne]; exact hr0
      go_wp2
      go_ret
      exact ⟨rfl, b4⟩
end Go.Proofs.YtnbbhegcijogiaaDoor
