import Derived.Test.YtnbbhegcijogiaaDoorMxs
import Derived.Deep.DeepCutAuto
namespace Go.Proofs.YtnbbhegcijogiaaDoor
open Go.ChangeShapes Go.WideShapes Go.ChangeAt Go.RowKit
attribute [local go_sem ↓] Go.wp_at_zero Go.wp_at_succ

theorem row_set_ne {w : World} {lo T k n : Nat} {v : Value} {xs : List Value} (h : w.ownsRow lo T k v n xs) {a : Addr} (hne : ∀ g, v.ownBlock = some g → g ≠ a.block) (u : Value) : (w.setCell a u).ownsRow lo T k v n xs := by
  refine ⟨h.1, ?_⟩
  rcases h.2 with h0 | ⟨g, cap, cur, hv, hl, hg, rest⟩
  · exact .inl h0
  · refine .inr ⟨g, cap, cur, hv, hl, ?_, rest⟩
    rw [Below.heap_setCell w a u g (hne g (by rw [hv]; rfl))]; exact hg
theorem set2 {w : World} {b : Nat} {v0 v1 u0 u1 : Value} (h0 : w.cell? ⟨b, 0, none⟩ = some u0) (h1 : w.cell? ⟨b, 1, none⟩ = some u1) : ((w.setCell ⟨b, 0, none⟩ v0).setCell ⟨b, 1, none⟩ v1).cell? ⟨b, 0, none⟩ = some v0 ∧ ((w.setCell ⟨b, 0, none⟩ v0).setCell ⟨b, 1, none⟩ v1).cell? ⟨b, 1, none⟩ = some v1 := by
  constructor
  · rw [World.cell?_setCell_other _ _ _ _ (by simp)]
    exact World.cell?_setCell_same _ _ _ h0
  · exact World.cell?_setCell_same _ _ _ ((World.cell?_setCell_other _ _ _ _ (by simp)).trans h1)
def lenV : Value → Nat
  | .slice _ n _ => n
  | _ => 0
theorem take8 {S : List Rk} : (S.foldl addH []).length ≤ 8 := by
  have := add_len8 S S.length
  rwa [List.take_length] at this
theorem strs_front2 {w : World} {lo g cap m : Nat} {L : List ByteArray} (h : Strs w lo (.slice (some ⟨g, 0, none⟩) L.length cap) L) (hm : m ≤ L.length) : Strs w lo (.slice (some ⟨g, 0, none⟩) m cap) (L.take m) := by
  have hl : (L.take m).length = m := by simp; omega
  unfold Strs at h ⊢
  rw [hl]
  refine ⟨by simp; omega, ?_⟩
  rcases h.2 with ⟨hv, _⟩ | ⟨g', cap', cur, hv, hb, hg, hn, hc, hs, ht⟩
  · cases hv
  · injection hv with h1 h2 h3
    refine .inr ⟨g', cap', cur, by rw [h1, h3], hb, hg, by omega, hc, hs, ?_⟩
    rw [List.map_take, ← ht, List.take_take, Nat.mul_one, Nat.mul_one, Nat.min_eq_left (by omega)]

set_option maxHeartbeats 8000000 in
set_option maxRecDepth 100000 in
theorem specRoute (dom : ByteArray) (kind addr : Int) (v : Value) (L : List Mx) (seed : Nat) (w : World) (h : ArgM w v L) (hd : dom.size ≤ 1048576) (hsz : ∀ x ∈ L, x.2.size ≤ 1048576) (hseed : seed < 4294967296) :
    Calls Tryd.prog 7 #[.string dom, .agg #[.int .i64 kind, v, .int .i64 addr], .int .u32 seed] w fun e w' => (∃ u, e = .returned (.tuple #[u, .int .i64 (routeN dom kind addr L seed).2]) ∧ Strs w' w.heap.size u (routeN dom kind addr L seed).1) ∧ Below w.heap.size w w' := by
  have HSZ : Hid (∀ x ∈ L, x.2.size ≤ 1048576) := hsz
  have HA : Hid (ArgM w v L) := h
  have hm := h.1
  unfold maxLen at hm
  obtain ⟨a1, c1, rfl⟩ := h.form
  clear h hsz
  go_enter Tryd.func7, Tryd.ntmps7
  go_wp2_with fail
  generalize hW : w.alloc _ = W
  have x0 : W.cell? ⟨w.heap.size, 0, none⟩ = some (.int .i64 kind) := by rw [← hW]; exact World.cell?_alloc_mark _ _ _ _ _
  have x1 : W.cell? ⟨w.heap.size, 1, none⟩ = some (.slice a1 L.length c1) := by rw [← hW]; exact World.cell?_alloc_mark _ _ _ _ _
  have x2 : W.cell? ⟨w.heap.size, 2, none⟩ = some (.int .i64 addr) := by rw [← hW]; exact World.cell?_alloc_mark _ _ _ _ _
  have hbW : Hid (Below w.heap.size w W) := by show Below _ _ _; rw [← hW]; exact below1 _ _
  have hWz : w.heap.size < W.heap.size := by rw [← hW]; simp
  clear hW
  refine (specDomain dom _ hd).mono ?_
  rintro e w1 ⟨rfl, hb1⟩
  have y0 := (hb1.cell (p := ⟨w.heap.size, 0, none⟩) hWz).trans x0
  have y1 := (hb1.cell (p := ⟨w.heap.size, 1, none⟩) hWz).trans x1
  have y2 := (hb1.cell (p := ⟨w.heap.size, 2, none⟩) hWz).trans x2
  have HB1 : Hid (Below w.heap.size w w1) := hbW.out.trans (hb1.mono hbW.out.size)
  have hz1 : w.heap.size < w1.heap.size := by have := hb1.size; omega
  clear hbW hb1 x0 x1 x2
  cases hdo : domOk dom with
  | false =>
    have G : Hid (routeN dom kind addr L seed = ([], 2)) := route_dom (.inl hdo)
    go_wp2
    go_ret2
    exact ⟨⟨_, by rw [G.out]; rfl, by rw [G.out]; exact strs_none⟩, HB1.out⟩
  | true =>
    by_cases hk3 : kind = 3
    · have G : Hid (routeN dom kind addr L seed = ([], 2)) := route_dom (.inr hk3)
      subst hk3
      go_wp2
      go_ret2
      exact ⟨⟨_, by rw [G.out]; rfl, by rw [G.out]; exact strs_none⟩, HB1.out⟩
    have hk3b : (kind == 3) = false := beq_eq_false_iff_ne.2 hk3
    have HN : Hid (¬ (domOk dom = false ∨ kind = 3)) := route_not hdo hk3
    clear hdo
    by_cases hk2 : kind = 2
    · have G0 : Hid (routeN dom kind addr L seed = (if addr = 1 then ([dom], 0) else if addr = 4 then ([], 1) else ([], 2))) := route_two HN.out hk2
      subst hk2
      by_cases ha1 : addr = 1
      · have G : Hid (routeN dom 2 addr L seed = ([dom], 0)) := by show _ = _; rw [G0.out, if_pos ha1]
        subst ha1
        go_wp2
        go_ret2
        exact ⟨⟨_, by rw [G.out]; rfl, by rw [G.out]; exact strs_le strs_one (by omega)⟩, HB1.out.trans ((below1 _ _).mono (by omega))⟩
      · have ha1b : (addr == 1) = false := beq_eq_false_iff_ne.2 ha1
        by_cases ha4 : addr = 4
        · have G : Hid (routeN dom 2 addr L seed = ([], 1)) := by show _ = _; rw [G0.out, if_neg ha1, if_pos ha4]
          subst ha4
          go_wp2
          go_ret2
          exact ⟨⟨_, by rw [G.out]; rfl, by rw [G.out]; exact strs_none⟩, HB1.out⟩
        · have G : Hid (routeN dom 2 addr L seed = ([], 2)) := by show _ = _; rw [G0.out, if_neg ha1, if_neg ha4]
          have ha4b : (addr == 4) = false := beq_eq_false_iff_ne.2 ha4
          go_wp2
          go_ret2
          exact ⟨⟨_, by rw [G.out]; rfl, by rw [G.out]; exact strs_none⟩, HB1.out⟩
    have hk2b : (kind == 2) = false := beq_eq_false_iff_ne.2 hk2
    by_cases hk1 : kind = 1
    case neg =>
      have G : Hid (routeN dom kind addr L seed = ([], 1)) := route_kind HN.out hk2 hk1
      have hk1b : (kind == 1) = false := beq_eq_false_iff_ne.2 hk1
      go_wp2
      go_ret2
      exact ⟨⟨_, by rw [G.out]; rfl, by rw [G.out]; exact strs_none⟩, HB1.out⟩
    subst hk1
    have HA1 : Hid (ArgM w1 (.slice a1 L.length c1) L) := HA.out.below HB1.out
    have HCS : Hid (1 ≤ L.length → ∃ b off, a1 = some ⟨b, off, none⟩ ∧ b < w1.heap.size ∧ ∀ i (hi : i < L.length), w1.cell? ⟨b, off + i * 2, none⟩ = some (.int .i64 L[i].1) ∧ w1.cell? ⟨b, off + i * 2 + 1, none⟩ = some (.string L[i].2)) := by
      intro h1
      rcases HA1.out.2.2 with ⟨h0, _⟩ | ⟨b, off, cap, hv, _, hlt, hc⟩
      · rw [h0] at h1; simp at h1
      · injection hv with hv1 _ hv2
        exact ⟨b, off, hv1, hlt, hc⟩
    have HG0 : Hid (rankN seed L 32 = [] → L.map (·.2) ≠ [⟨#[46]⟩] → routeN dom 1 addr L seed = ([], 2)) := fun h1 h2 => route_gone HN.out rfl h2 h1
    have HG1 : Hid (rankN seed L 32 ≠ [] → L.map (·.2) ≠ [⟨#[46]⟩] → routeN dom 1 addr L seed = ((sortR (rankN seed L 32)).foldl addH [], 0)) := fun h1 h2 => route_ok HN.out rfl h2 h1
    by_cases hnul : L.map (·.2) = [⟨#[46]⟩]
    · have G : Hid (routeN dom 1 addr L seed = ([], 3)) := route_null HN.out rfl hnul
      have hlen1 : L.length = 1 := by have := congrArg List.length hnul; simpa using this
      obtain ⟨b, off, rfl, hlt, hc⟩ := HCS.out (by omega)
      have z1 : w1.cell? ⟨b, off + 1, none⟩ = some (.string ⟨#[46]⟩) := by
        have := (hc 0 (by omega)).2
        obtain ⟨m, hLm⟩ := List.length_eq_one_iff.1 hlen1
        have e : m.2 = ⟨#[46]⟩ := by
          rw [hLm] at hnul
          simpa using hnul
        simpa [hLm, e] using this
      have hlen1i : (L.length : Int) = 1 := by omega
      clear hc
      go_wp2
      go_ret2
      exact ⟨⟨_, by rw [G.out]; rfl, by rw [G.out]; exact strs_none⟩, HB1.out⟩
    have HNU : Hid (L.map (·.2) ≠ [⟨#[46]⟩]) := hnul
    clear hnul
    go_upto_region 9 with fail
    go_cut [51] from 52 to 63 (fun s wx => s = .bool false ∧ wx = w1)
    case first =>
      by_cases hl1 : L.length = 1
      · obtain ⟨b, off, rfl, hlt, hc⟩ := HCS.out (by omega)
        obtain ⟨m, hLm⟩ : ∃ m, L = [m] := List.length_eq_one_iff.1 hl1
        have z1 : w1.cell? ⟨b, off + 1, none⟩ = some (.string m.2) := by
          have := (hc 0 (by omega)).2
          simpa [hLm] using this
        have hdb : (m.2.toList == [46]) = false := by
          rw [beq_eq_false_iff_ne]
          intro c
          refine HNU.out ?_
          rw [hLm]
          have : m.2 = ⟨#[46]⟩ := toList_inj (c.trans (by rw [Lib.toList_data]))
          rw [List.map_cons, this]; rfl
        have hlen1i : (L.length : Int) = 1 := by omega
        clear hc hLm
        go_wp2_with fail
        go_meet
        exact ⟨rfl, rfl⟩
      · have hl1b : ((L.length : Int) == 1) = false := beq_eq_false_iff_ne.2 (by omega)
        go_wp2_with fail
        go_meet
        exact ⟨rfl, rfl⟩
    case rest =>
    obtain ⟨rfl, rfl⟩ := hcut
    obtain ⟨i0, hi, hx0, hx1, hx2⟩ := info_parts infoMx
    obtain ⟨j0, hj, hs0, hs1, hs2⟩ := info_parts infoStr
    go_wp2
    go_loopw [8, 67] (fun uv iv wr => ∃ k : Nat, k ≤ L.length ∧ iv = .int .i64 k ∧ Hid (Mxs wr wc.heap.size uv (leftN L k)) ∧ Hid (Below wc.heap.size wc wr)) (fun _ iv _ => L.length - (intOf iv).toNat)
    case atStart => exact ⟨0, Nat.zero_le _, rfl, ⟨by rfl, .inl ⟨rfl, by rfl⟩⟩, Below.refl _ _⟩
    case round =>
      obtain ⟨k, hk, rfl, HR, HB⟩ := hrel
      by_cases hlt2 : k < L.length
      · obtain ⟨b, off, rfl, hlt, hc⟩ := HCS.out (by omega)
        obtain ⟨c0, c1'⟩ := hc k hlt2
        have x0 := (HB.out.cell (p := ⟨b, off + k * 2, none⟩) hlt).trans c0
        have x1 := (HB.out.cell (p := ⟨b, off + k * 2 + 1, none⟩) hlt).trans c1'
        have hX := HSZ.out _ (List.getElem_mem hlt2)
        have HFAR : Hid (32 ≤ k → leftN L (k + 1) = leftN L k) := left_far
        have HY : Hid (k < 32 → mxOk L[k] = true → leftN L (k + 1) = leftN L k ++ [L[k]]) := left_yes hlt2
        have HNO : Hid (k < 32 → mxOk L[k] = false → leftN L (k + 1) = leftN L k) := left_no hlt2
        have HML : Hid ((leftN L k).length ≤ 32) := left_len L k
        have hzr := HB.out.size
        clear c0 c1' hc
        generalize L[k] = X at *
        have HM : Hid (mxOk X = (decide (0 ≤ X.1) && (decide (X.1 ≤ 65535) && domOk X.2))) := rfl
        by_cases h32 : 32 ≤ k
        · have G : Hid (leftN L (k + 1) = leftN L k) := HFAR.out h32
          have h32i : ¬ (k : Int) < 32 := by omega
          go_wp2
          go_roundw
          case rel => exact ⟨k + 1, by omega, by go_num, by show Mxs _ _ _ _; rw [G.out]; exact mxs_below HR.out (below1 _ _) (Nat.le_refl _), HB.out.trans ((below1 _ _).mono hzr)⟩
          case measure => simp [intOf]; omega
        have h32i : (k : Int) < 32 := by omega
        by_cases p0 : X.1 < 0
        · have G : Hid (leftN L (k + 1) = leftN L k) := HNO.out (by omega) (by rw [HM.out, decide_eq_false (by omega)]; rfl)
          go_wp2
          go_roundw
          case rel => exact ⟨k + 1, by omega, by go_num, by show Mxs _ _ _ _; rw [G.out]; exact mxs_below HR.out (below1 _ _) (Nat.le_refl _), HB.out.trans ((below1 _ _).mono hzr)⟩
          case measure => simp [intOf]; omega
        by_cases p1 : 65535 < X.1
        · have G : Hid (leftN L (k + 1) = leftN L k) := HNO.out (by omega) (by rw [HM.out, decide_eq_false (show ¬ X.1 ≤ 65535 by omega)]; simp)
          go_wp2
          go_roundw
          case rel => exact ⟨k + 1, by omega, by go_num, by show Mxs _ _ _ _; rw [G.out]; exact mxs_below HR.out (below1 _ _) (Nat.le_refl _), HB.out.trans ((below1 _ _).mono hzr)⟩
          case measure => simp [intOf]; omega
        go_wp2_with fail
        generalize hW : wr.alloc _ = W
        have hbW : Hid (Below wr.heap.size wr W) := by show Below _ _ _; rw [← hW]; exact below1 _ _
        have m0 : W.cell? ⟨wr.heap.size, 0, none⟩ = some (.int .i64 X.1) := by rw [← hW]; exact World.cell?_alloc_mark _ _ _ _ _
        have m1 : W.cell? ⟨wr.heap.size, 1, none⟩ = some (.string X.2) := by rw [← hW]; exact World.cell?_alloc_mark _ _ _ _ _
        have hWz : wr.heap.size < W.heap.size := by rw [← hW]; simp
        clear hW
        refine (specDomain X.2 _ hX).mono ?_
        rintro e w5 ⟨rfl, hb5⟩
        have n0 := (hb5.cell (p := ⟨wr.heap.size, 0, none⟩) hWz).trans m0
        have n1 := (hb5.cell (p := ⟨wr.heap.size, 1, none⟩) hWz).trans m1
        have hz5 := hb5.size
        have HB5 : Hid (Below wr.heap.size wr w5) := hbW.out.trans (hb5.mono hbW.out.size)
        clear hbW hb5 m0 m1 x0 x1
        cases hd2 : domOk X.2 with
        | false =>
          have G : Hid (leftN L (k + 1) = leftN L k) := HNO.out (by omega) (by rw [HM.out, hd2]; simp)
          clear hd2
          go_wp2
          go_roundw
          case rel => exact ⟨k + 1, by omega, by go_num, by show Mxs _ _ _ _; rw [G.out]; exact mxs_below HR.out HB5.out (Nat.le_refl _), HB.out.trans (HB5.out.mono hzr)⟩
          case measure => simp [intOf]; omega
        | true =>
          have G : Hid (leftN L (k + 1) = leftN L k ++ [X]) := HY.out (by omega) (by rw [HM.out, hd2, decide_eq_true (by omega), decide_eq_true (by omega)]; rfl)
          clear hd2
          have HR5 : Hid (Mxs w5 wc.heap.size u8 (leftN L k)) := mxs_below HR.out HB5.out (Nat.le_refl _)
          have HBB : Hid (Below wc.heap.size wc w5) := HB.out.trans (HB5.out.mono hzr)
          have hlos := mxs_lo HR5.out
          have hown' : w5.ownsRow wc.heap.size 34 2 u8 (leftN L k).length (mxRow (leftN L k)) := HR5.out
          have hml := HML.out
          generalize leftN L k = acc at *
          go_wp2_with (at_builtin; refine wpList_append_lies _ rfl _ _ 23 rfl wc.heap.size 34 i0 (.agg #[.int .i64 0, .string ⟨#[]⟩]) 2 24 Tryd.underlying23 hi hx0 hx1 hx2 rfl (by decide) _ _ _ rfl (hown'.alloc _) ⟨w5.heap.size, 0, none⟩ 1 1 [.int .i64 X.1, .string X.2] rfl rfl ?c1 ?c2 ?c3 ?c4 ?c5 ?c6 (w5.heap.size + 1) ?c7 ?_)
          case c1 =>
            intro j u hj
            exact World.news_of_block (lk_newR _ _ _ rfl) j u (by simpa using hj)
          case c2 => intro u hu; simp at hu; rcases hu with rfl | rfl <;> rfl
          case c3 => decide
          case c4 => unfold maxLen; omega
          case c5 => omega
          case c6 => simp; omega
          case c7 => simp
          intro g cap2 w7 hown7 hgrow hat hlt7
          have HR7 : Hid (Mxs w7 wc.heap.size (.slice (some ⟨g, 0, none⟩) (acc.length + 1) cap2) (acc ++ [X])) := by
            show Mxs _ _ _ _
            unfold Mxs
            rw [mxRow_snoc, List.length_append]
            exact hown7
          have HB7 : Hid (Below wc.heap.size wc w7) := (HBB.out.alloc (by have := HBB.out.size; omega) _).grown hgrow (by simp; have := HBB.out.size; omega) hlos
          clear hown7 hgrow hat hown' hlos
          go_wp2
          go_roundw
          case rel => exact ⟨k + 1, by omega, by go_num, by show Mxs _ _ _ _; rw [G.out]; exact HR7.out, HB7⟩
          case measure => simp [intOf]; omega
      · obtain rfl : k = L.length := by omega
        have HTOT : Hid (∀ TOT, selR (leftN L L.length).length ((leftN L L.length).map (rkOf seed)) = TOT → (rankN seed L 32 = [] ↔ TOT = []) ∧ (sortR (rankN seed L 32)).foldl addH [] = TOT.take 8) := by
          rintro TOT rfl
          rw [← left_end (L := L) (seed := seed)]
          refine ⟨?_, by rw [route_eq, List.length_map]⟩
          generalize leftN L L.length = M0
          cases M0 with
          | nil => exact ⟨fun _ => rfl, fun _ => rfl⟩
          | cons m M0 => exact ⟨fun h => by simp at h, fun h => by rw [sel_round] at h; cases h⟩
        have HM0 : Hid ((leftN L L.length).length ≤ 32) := left_len L _
        have HSUB : Hid (∀ x ∈ leftN L L.length, x.2.size ≤ 1048576) := fun x hx => HSZ.out x (left_sub L _ x hx)
        obtain ⟨M0, HME⟩ : ∃ M0, Hid (leftN L L.length = M0) := ⟨_, rfl⟩
        rw [HME.out] at HR HTOT HM0 HSUB
        obtain ⟨TOT, HTE⟩ : ∃ TOT, Hid (selR M0.length (M0.map (rkOf seed)) = TOT) := ⟨_, rfl⟩
        have HFIN := HTOT.out TOT HTE.out
        have HFI : Hid ((rankN seed L 32 = [] ↔ TOT = []) ∧ (sortR (rankN seed L 32)).foldl addH [] = TOT.take 8) := HFIN
        clear HFIN HTOT HME
        go_wp2
        go_loopw [8, 11] (fun lv ov wq => ∃ (M : List Mx) (O : List ByteArray), lenV lv = M.length ∧ Hid (O ++ selR M.length (M.map (rkOf seed)) = TOT) ∧ O.length + M.length ≤ 32 ∧ Hid (∀ x ∈ M, x.2.size ≤ 1048576) ∧ Hid (Mxs wq wc.heap.size lv M) ∧ Hid (Strs wq wc.heap.size ov O) ∧ Hid (∀ g, lv.ownBlock = some g → ov.ownBlock ≠ some g) ∧ Hid (Below wc.heap.size wc wq)) (fun lv _ _ => lenV lv)
        case atStart =>
          obtain ⟨a, c, hu⟩ := mxs_form HR.out
          exact ⟨M0, [], by rw [hu]; rfl, by show _ = _; rw [List.nil_append]; exact HTE.out, by have := HM0.out; simp; exact this, HSUB, HR, strs_none, (fun g _ h => by cases h), HB⟩
        case round =>
          obtain ⟨M, O, hlv, HE, hOM, HMS, HMR, HOS, HAP, HBQ⟩ := hrel
          obtain ⟨wq, hwq⟩ : ∃ wq : World, wq = wr := ⟨wr, rfl⟩
          subst hwq
          by_cases hM0 : M = []
          · subst hM0
            have HOT : Hid (O = TOT) := by show _ = _; have := HE.out; simpa [selR] using this
            obtain ⟨a8, c8, hu8⟩ := mxs_form HMR.out
            subst hu8
            rcases HOS.out.cases with ⟨hov, hO0⟩ | ⟨g, cap, hov, A1⟩
            · subst hov hO0
              have G : Hid (routeN dom 1 addr L seed = ([], 2)) := HG0.out (HFI.out.1.2 HOT.out.symm) HNU.out
              simp only [List.length_nil]
              go_wp2
              go_ret2
              exact ⟨⟨_, by rw [G.out]; rfl, by rw [G.out]; exact strs_none⟩, HB1.out.trans (HBQ.out.mono (by omega))⟩
            · subst hov
              have hcap := A1.cap
              have hlc := A1.len
              unfold maxLen at hcap
              simp only [List.length_nil]
              by_cases hO0 : O = []
              · have G : Hid (routeN dom 1 addr L seed = ([], 2)) := HG0.out (HFI.out.1.2 (by rw [← HOT.out]; exact hO0)) HNU.out
                have hl0 : O.length = 0 := by rw [hO0]; rfl
                rw [hl0] at HOS ⊢
                clear hO0 A1
                go_wp2
                go_ret2
                exact ⟨⟨_, by rw [G.out]; rfl, by rw [G.out]; exact strs_none⟩, HB1.out.trans (HBQ.out.mono (by omega))⟩
              · have G : Hid (routeN dom 1 addr L seed = (O.take 8, 0)) := by
                  show _ = _
                  rw [HG1.out (fun c => hO0 (HOT.out.trans (HFI.out.1.1 c))) HNU.out, HFI.out.2, HOT.out]
                have hlp : O.length ≠ 0 := fun c => hO0 (List.eq_nil_of_length_eq_zero c)
                have hlpb : ((O.length : Int) == 0) = false := beq_eq_false_iff_ne.2 (by omega)
                clear hO0 A1
                by_cases h8 : 8 < O.length
                · have h8i : (8 : Int) < O.length := by omega
                  have HS8 : Hid (Strs wq wc.heap.size (.slice (some ⟨g, 0, none⟩) 8 cap) (O.take 8)) := strs_front2 HOS.out (by omega)
                  go_wp2
                  go_ret2
                  exact ⟨⟨_, by rw [G.out]; rfl, by rw [G.out]; exact strs_le HS8.out (by omega)⟩, HB1.out.trans (HBQ.out.mono (by omega))⟩
                · have h8i : ¬ (8 : Int) < O.length := by omega
                  have HT8 : Hid (O.take 8 = O) := List.take_of_length_le (by omega)
                  go_wp2
                  go_ret2
                  exact ⟨⟨_, by rw [G.out]; rfl, by rw [G.out, HT8.out]; exact strs_le HOS.out (by omega)⟩, HB1.out.trans (HBQ.out.mono (by omega))⟩
          · obtain ⟨x, T, hMx⟩ := List.exists_cons_of_ne_nil hM0
            have hlp : M.length ≠ 0 := fun c => hM0 (List.eq_nil_of_length_eq_zero c)
            have hlpi : (0 : Int) < M.length := by omega
            have hlpn : 0 < M.length := by omega
            have HM00 : Hid (M[0]'(by omega) = x) := by show _ = _; simp [hMx]
            have HRND : Hid (selR M.length (M.map (rkOf seed)) = (bestM seed M x).2 :: selR (dropH M (bestM seed M x).2).length ((dropH M (bestM seed M x).2).map (rkOf seed))) := by
              rw [hMx]; exact sel_round
            have HBS : Hid (∀ k (h : k < M.length), bestM seed (M.take (k + 1)) x = if Ahd (rkOf seed M[k]) (rkOf seed (bestM seed (M.take k) x)) then M[k] else bestM seed (M.take k) x) := fun k h => bestM_step h
            have hxs : x.2.size ≤ 1048576 := HMS.out x (by rw [hMx]; exact List.mem_cons_self)
            have HBZ : Hid (∀ k, (bestM seed (M.take k) x).2.size ≤ 1048576) := fun k => by
              rcases bestM_mem (seed := seed) (M.take k) x with h | h
              · rw [h]; exact hxs
              · exact HMS.out _ (List.mem_of_mem_take h)
            have HDR : Hid ((dropH M (bestM seed M x).2).length < M.length) := by
              have hm : bestM seed M x ∈ M := by
                rcases bestM_mem (seed := seed) M x with h | h
                · rw [h, hMx]; exact List.mem_cons_self
                · exact h
              exact List.length_filter_lt_length_iff_exists.2 ⟨_, hm, by simp⟩
            have HDS : Hid (∀ b, ∀ y ∈ dropH M b, y.2.size ≤ 1048576) := fun b y hy => HMS.out y (List.mem_filter.1 hy).1
            clear hM0 hMx
            rcases HMR.out.cases with ⟨_, hnil⟩ | ⟨gl, capl, hul, A8⟩
            · rw [hnil] at hlp; simp at hlp
            subst hul
            have hgl := A8.lt
            have hcapl := A8.capm
            have hlcl := A8.len
            unfold maxLen at hcapl
            have HC8 : Hid (∀ i (hi : i < M.length), wq.cell? ⟨gl, i * 2, none⟩ = some (.int .i64 M[i].1) ∧ wq.cell? ⟨gl, i * 2 + 1, none⟩ = some (.string M[i].2)) := A8.cell
            obtain ⟨e0, e1⟩ := A8.cell 0 (by omega)
            rw [HM00.out] at e0 e1
            simp only [Nat.zero_mul, Nat.zero_add] at e0 e1
            have HOW : Hid (∀ g, u11.ownBlock = some g → g < wq.heap.size) := strs_own HOS.out
            clear A8
            go_upto_region 21 with fail
            generalize hW2 : wq.alloc _ = W2
            have hbW2 : Hid (Below wq.heap.size wq W2) := by show Below _ _ _; rw [← hW2]; exact below1 _ _
            have b0 : W2.cell? ⟨wq.heap.size, 0, none⟩ = some (.int .i64 x.1) := by rw [← hW2]; exact World.cell?_alloc_mark _ _ _ _ _
            have b1 : W2.cell? ⟨wq.heap.size, 1, none⟩ = some (.string x.2) := by rw [← hW2]; exact World.cell?_alloc_mark _ _ _ _ _
            have HF2 : Hid (∀ o, W2.frozen? ⟨wq.heap.size, o, none⟩ = false) := fun o => by rw [← hW2]; exact World.frozen?_alloc_at _ _ _ _ rfl
            have hW2z : wq.heap.size < W2.heap.size := by rw [← hW2]; simp
            clear hW2 e0 e1
            have HL2 : Hid (Mxs W2 wc.heap.size (.slice (some ⟨gl, 0, none⟩) M.length capl) M) := mxs_below HMR.out hbW2.out (Nat.le_refl _)
            have HO2 : Hid (Strs W2 wc.heap.size u11 O) := strs_below HOS.out hbW2.out (Nat.le_refl _)
            have HB2 : Hid (Below wc.heap.size wc W2) := HBQ.out.trans (hbW2.out.mono HBQ.out.size)
            have hzq := HBQ.out.size
            clear hbW2 HMR HOS HC8
            go_wp2
            go_loopw [102] (fun iv wr => ∃ k : Nat, k ≤ M.length ∧ iv = .int .i64 k ∧ wq.heap.size < wr.heap.size ∧ Hid (Mxs wr wc.heap.size (.slice (some ⟨gl, 0, none⟩) M.length capl) M) ∧ Hid (Strs wr wc.heap.size u11 O) ∧ Hid (wr.cell? ⟨wq.heap.size, 0, none⟩ = some (.int .i64 (bestM seed (M.take k) x).1) ∧ wr.cell? ⟨wq.heap.size, 1, none⟩ = some (.string (bestM seed (M.take k) x).2)) ∧ Hid (∀ o, wr.frozen? ⟨wq.heap.size, o, none⟩ = false) ∧ Hid (Below wc.heap.size wc wr)) (fun iv _ => M.length - (intOf iv).toNat)
            case atStart => exact ⟨0, Nat.zero_le _, rfl, hW2z, HL2, HO2, ⟨b0, b1⟩, HF2, HB2⟩
            case round =>
              obtain ⟨k, hk, rfl, hz3, HL3, HO3, HC3, HF3, HB3⟩ := hrel
              by_cases hlt3 : k < M.length
              · rcases HL3.out.cases with ⟨hv, _⟩ | ⟨g', cap', hv, A3⟩
                · cases hv
                injection hv with hv1 _ hv2
                injection hv1 with hv1
                injection hv1 with hv1
                subst hv1 hv2
                obtain ⟨e0, e1⟩ := A3.cell k hlt3
                have hgl3 := A3.lt
                obtain ⟨q0, q1⟩ := HC3.out
                have hXs := HMS.out _ (List.getElem_mem hlt3)
                have hBs := HBZ.out k
                have HST := HBS.out k hlt3
                have HST2 : Hid (bestM seed (M.take (k + 1)) x = if Ahd (rkOf seed M[k]) (rkOf seed (bestM seed (M.take k) x)) then M[k] else bestM seed (M.take k) x) := HST
                have f0 := HF3.out 0
                have f1 := HF3.out 1
                clear A3 HST
                generalize M[k] = X at *
                generalize bestM seed (M.take k) x = B at *
                go_wp2_with fail
                generalize hW3 : wr.alloc _ = W3
                have hbW3 : Hid (Below wr.heap.size wr W3) := by show Below _ _ _; rw [← hW3]; exact below1 _ _
                have p0 : W3.cell? ⟨wr.heap.size, 0, none⟩ = some (.int .i64 X.1) := by rw [← hW3]; exact World.cell?_alloc_mark _ _ _ _ _
                have p1 : W3.cell? ⟨wr.heap.size, 1, none⟩ = some (.string X.2) := by rw [← hW3]; exact World.cell?_alloc_mark _ _ _ _ _
                have hW3z : wr.heap.size < W3.heap.size := by rw [← hW3]; simp
                clear hW3 e0 e1
                refine (specAhead X B seed _ hXs hBs hseed).mono ?_
                rintro e w6 ⟨rfl, hb6⟩
                have HB6 : Hid (Below wr.heap.size wr w6) := hbW3.out.trans (hb6.mono hbW3.out.size)
                have r0 := (HB6.out.cell (p := ⟨wq.heap.size, 0, none⟩) hz3).trans q0
                have r1 := (HB6.out.cell (p := ⟨wq.heap.size, 1, none⟩) hz3).trans q1
                have s0 := (hb6.cell (p := ⟨wr.heap.size, 0, none⟩) hW3z).trans p0
                have s1 := (hb6.cell (p := ⟨wr.heap.size, 1, none⟩) hW3z).trans p1
                have g0 := (HB6.out.frozen (p := ⟨wq.heap.size, 0, none⟩) hz3).trans f0
                have g1 := (HB6.out.frozen (p := ⟨wq.heap.size, 1, none⟩) hz3).trans f1
                have HF6 : Hid (∀ o, w6.frozen? ⟨wq.heap.size, o, none⟩ = false) := fun o => (HB6.out.frozen (p := ⟨wq.heap.size, o, none⟩) hz3).trans (HF3.out o)
                have HL6 : Hid (Mxs w6 wc.heap.size (.slice (some ⟨gl, 0, none⟩) M.length capl) M) := mxs_below HL3.out HB6.out (Nat.le_refl _)
                have HO6 : Hid (Strs w6 wc.heap.size u11 O) := strs_below HO3.out HB6.out (Nat.le_refl _)
                have hz6 := HB6.out.size
                have HBB6 : Hid (Below wc.heap.size wc w6) := HB3.out.trans (HB6.out.mono (by omega))
                clear hbW3 hb6 q0 q1 p0 p1 f0 f1 HL3 HO3 HC3 HF3 HB3
                by_cases hah : Ahd (rkOf seed X) (rkOf seed B)
                · have G : Hid (bestM seed (M.take (k + 1)) x = X) := by show _ = _; rw [HST2.out, if_pos hah]
                  rw [decide_eq_true hah]
                  clear hah
                  go_upto_region 26 with fail
                  generalize hW9 : World.setCell (World.setCell w6 _ _) _ _ = W9
                  have hz9 : wq.heap.size < W9.heap.size := by rw [← hW9]; simp; omega
                  have HL9 : Hid (Mxs W9 wc.heap.size (.slice (some ⟨gl, 0, none⟩) M.length capl) M) := by
                    show Mxs _ _ _ _
                    rw [← hW9]
                    refine row_set_ne (row_set_ne HL6.out (fun g hg => ?_) _) (fun g hg => ?_) _ <;> (simp only [Value.ownBlock, Option.some.injEq] at hg; show g ≠ wq.heap.size; omega)
                  have HO9 : Hid (Strs W9 wc.heap.size u11 O) := by
                    show Strs _ _ _ _
                    rw [← hW9]
                    refine row_set_ne (row_set_ne HO6.out (fun g hg => ?_) _) (fun g hg => ?_) _ <;> (have := HOW.out g hg; show g ≠ wq.heap.size; omega)
                  have HC9 : Hid (W9.cell? ⟨wq.heap.size, 0, none⟩ = some (.int .i64 (bestM seed (M.take (k + 1)) x).1) ∧ W9.cell? ⟨wq.heap.size, 1, none⟩ = some (.string (bestM seed (M.take (k + 1)) x).2)) := by
                    show _ ∧ _
                    rw [G.out, ← hW9]; exact set2 r0 r1
                  have HF9 : Hid (∀ o, W9.frozen? ⟨wq.heap.size, o, none⟩ = false) := fun o => by
                    rw [← hW9, World.frozen?_setCell, World.frozen?_setCell]; exact HF6.out o
                  have HB9 : Hid (Below wc.heap.size wc W9) := by
                    show Below _ _ _
                    rw [← hW9]
                    exact (HBB6.out.setCell (by show wc.heap.size ≤ wq.heap.size; omega) _).setCell (by show wc.heap.size ≤ wq.heap.size; omega) _
                  clear hW9 r0 r1 s0 s1 g0 g1
                  go_wp2
                  go_roundw
                  case rel => exact ⟨k + 1, by omega, by go_num, hz9, HL9, HO9, HC9, HF9, HB9⟩
                  case measure => simp [intOf]; omega
                · have G : Hid (bestM seed (M.take (k + 1)) x = B) := by show _ = _; rw [HST2.out, if_neg hah]
                  rw [decide_eq_false hah]
                  clear hah
                  go_wp2
                  go_roundw
                  case rel => exact ⟨k + 1, by omega, by go_num, by omega, HL6, HO6, by show _ ∧ _; rw [G.out]; exact ⟨r0, r1⟩, HF6, HBB6⟩
                  case measure => simp [intOf]; omega
              · obtain rfl : k = M.length := by omega
                rw [List.take_length] at HC3
                have hBs : (bestM seed M x).2.size ≤ 1048576 := by have := HBZ.out M.length; rwa [List.take_length] at this
                obtain ⟨q0, q1⟩ := HC3.out
                generalize bestM seed M x = B at *
                obtain ⟨wp, hwp⟩ : ∃ wp : World, wp = wr := ⟨wr, rfl⟩
                subst hwp
                have hown' : wp.ownsRow wc.heap.size 9 1 u11 O.length (O.map Value.string) := HO3.out
                have hlos := strs_lo HO3.out
                have hzp := HB3.out.size
                have hO32 : O.length ≤ 32 := by omega
                go_wp2_with (at_builtin; refine wpList_append_lies _ rfl _ _ 29 rfl wc.heap.size 9 j0 (.string ⟨#[]⟩) 1 16 Tryd.underlying29 hj hs0 hs1 hs2 rfl (by decide) _ _ _ rfl (hown'.alloc _) ⟨wp.heap.size, 0, none⟩ 1 1 [.string B.2] rfl rfl ?c1 ?c2 ?c3 ?c4 ?c5 ?c6 (wp.heap.size + 1) ?c7 ?_)
                case c1 =>
                  intro j u hj
                  match j, hj with
                  | 0, hj => simp at hj; subst hj; simp [Addr.add]
                case c2 => intro u hu; simp at hu; subst hu; rfl
                case c3 => decide
                case c4 => unfold maxLen; omega
                case c5 => omega
                case c6 => simp; omega
                case c7 => simp
                intro g7 cap7 w7 hown7 hgrow hat hlt7
                have HO7 : Hid (Strs w7 wc.heap.size (.slice (some ⟨g7, 0, none⟩) (O.length + 1) cap7) (O ++ [B.2])) := strs_snoc hown7
                have HOF : Hid (OffL [u11] wp w7) := (OffL.of_below (below1 wp _)).trans (OffL.ofGrown hgrow (by simp))
                have HNE : Hid (∀ k, k = gl ∨ k = wq.heap.size → ∀ v ∈ ([u11] : List Value), v.ownBlock ≠ some k) := by
                  intro k hk v hv e
                  rw [List.mem_singleton.1 hv] at e
                  rcases hk with rfl | rfl
                  · exact HAP.out _ rfl e
                  · have := HOW.out _ e; omega
                have HL7 : Hid (Mxs w7 wc.heap.size (.slice (some ⟨gl, 0, none⟩) M.length capl) M) := HOF.out.row HL3.out (fun g hg => HNE.out g (.inl (by simpa [Value.ownBlock] using hg.symm)))
                have t1 := (HOF.out.cell hz3 (HNE.out _ (.inr rfl))).trans q1
                have hz7 := HOF.out.size
                have HB7 : Hid (Below wc.heap.size wc w7) := (HB3.out.alloc hzp _).grown hgrow (by simp; omega) hlos
                have HAP7 : Hid (∀ Z, w7.heap.size ≤ Z → ∀ g, Z ≤ g → (Value.slice (some ⟨g7, 0, none⟩) (O.length + 1) cap7).ownBlock ≠ some g) := by
                  intro Z hZ g hg e
                  have := strs_own HO7.out g e
                  omega
                clear hown7 hgrow hat hown' hlos HOF HNE HL3 HO3 HF3 q0 q1 HC3
                have HDP : Hid (∀ k (h : k < M.length), dropH (M.take (k + 1)) B.2 = dropH (M.take k) B.2 ++ (if M[k].2 = B.2 then [] else [M[k]])) := fun k h => drop_step h
                go_wp2
                go_loopw [15, 119] (fun rv iv wr => ∃ k : Nat, k ≤ M.length ∧ iv = .int .i64 k ∧ Hid (Mxs wr w7.heap.size rv (dropH (M.take k) B.2)) ∧ Hid (Below w7.heap.size w7 wr)) (fun _ iv _ => M.length - (intOf iv).toNat)
                case atStart => exact ⟨0, Nat.zero_le _, rfl, mxs_nil, Below.refl _ _⟩
                case round =>
                  obtain ⟨k, hk, rfl, HR4, HB4⟩ := hrel
                  by_cases hlt4 : k < M.length
                  · rcases HL7.out.cases with ⟨hv, _⟩ | ⟨g', cap', hv, A4⟩
                    · cases hv
                    injection hv with hv1 _ hv2
                    injection hv1 with hv1
                    injection hv1 with hv1
                    subst hv1 hv2
                    obtain ⟨e0, e1⟩ := A4.cell k hlt4
                    have hgl4 := A4.lt
                    have hbq4 : wq.heap.size < w7.heap.size := by omega
                    have x0 := (HB4.out.cell (p := ⟨gl, k * 2, none⟩) hgl4).trans e0
                    have x1 := (HB4.out.cell (p := ⟨gl, k * 2 + 1, none⟩) hgl4).trans e1
                    have t2 := (HB4.out.cell (p := ⟨wq.heap.size, 1, none⟩) hbq4).trans t1
                    have HST := HDP.out k hlt4
                    have HDL : Hid ((dropH (M.take k) B.2).length ≤ 32) := by
                      refine Nat.le_trans (List.length_filter_le _ _) ?_
                      rw [List.length_take]; omega
                    have HST2 : Hid (dropH (M.take (k + 1)) B.2 = dropH (M.take k) B.2 ++ (if M[k].2 = B.2 then [] else [M[k]])) := HST
                    have hz4 := HB4.out.size
                    clear A4 HST e0 e1
                    generalize M[k] = X at *
                    have hbr : wq.heap.size < wr.heap.size := by omega
                    have hbn : wq.heap.size ≠ wr.heap.size := by omega
                    by_cases heq : X.2 = B.2
                    · have G : Hid (dropH (M.take (k + 1)) B.2 = dropH (M.take k) B.2) := by show _ = _; rw [HST2.out, if_pos heq, List.append_nil]
                      have heb : (X.2.toList == B.2.toList) = true := by rw [heq]; simp
                      clear heq
                      go_wp2
                      go_roundw
                      case rel => exact ⟨k + 1, by omega, by go_num, by show Mxs _ _ _ _; rw [G.out]; exact mxs_below HR4.out (below1 _ _) (Nat.le_refl _), HB4.out.trans ((below1 _ _).mono hz4)⟩
                      case measure => simp [intOf]; omega
                    · have G : Hid (dropH (M.take (k + 1)) B.2 = dropH (M.take k) B.2 ++ [X]) := by show _ = _; rw [HST2.out, if_neg heq]
                      have heb : (X.2.toList == B.2.toList) = false := beq_eq_false_iff_ne.2 fun c => heq (toList_inj c)
                      clear heq
                      have hdl := HDL.out
                      generalize dropH (M.take k) B.2 = acc at *
                      obtain ⟨wz, hwz⟩ : ∃ wz : World, wz = wr := ⟨wr, rfl⟩
                      subst hwz
                      have hlos := mxs_lo HR4.out
                      have hown' : (wz.alloc (.cells #[.int .i64 X.1, .string X.2] 34)).ownsRow w7.heap.size 34 2 u15 acc.length (mxRow acc) := (show wz.ownsRow _ _ _ _ _ _ from HR4.out).alloc _
                      go_wp2_with (at_builtin; refine wpList_append_lies _ rfl _ _ 23 rfl w7.heap.size 34 i0 (.agg #[.int .i64 0, .string ⟨#[]⟩]) 2 24 Tryd.underlying23 hi hx0 hx1 hx2 rfl (by decide) _ _ _ rfl (hown'.alloc _) ⟨wz.heap.size + 1, 0, none⟩ 1 1 [.int .i64 X.1, .string X.2] rfl rfl ?c1 ?c2 ?c3 ?c4 ?c5 ?c6 (wz.heap.size + 1 + 1) ?c7 ?_)
                      case c2 => exact ⟨rfl, rfl⟩
                      case c4 => unfold maxLen; omega
                      case c5 => omega
                      case c6 => omega
                      intro g8 cap8 w8 hown8 hgrow hat hlt8
                      have HR8 : Hid (Mxs w8 w7.heap.size (.slice (some ⟨g8, 0, none⟩) (acc.length + 1) cap8) (acc ++ [X])) := by
                        show Mxs _ _ _ _
                        unfold Mxs
                        rw [mxRow_snoc, List.length_append]
                        exact hown8
                      have HB8 : Hid (Below w7.heap.size w7 w8) := ((HB4.out.alloc hz4 _).alloc (by simp; omega) _).grown hgrow (by simp; omega) hlos
                      clear hown8 hgrow hat hown' hlos
                      go_wp2
                      go_roundw
                      case rel => exact ⟨k + 1, by omega, by go_num, by show Mxs _ _ _ _; rw [G.out]; exact HR8.out, HB8⟩
                      case measure => simp [intOf]; omega
                  · obtain rfl : k = M.length := by omega
                    rw [List.take_length] at HR4
                    have hz4 := HB4.out.size
                    obtain ⟨a15, c15, hu15⟩ := mxs_form HR4.out
                    go_wp2
                    go_roundw
                    case rel =>
                      refine ⟨dropH M B.2, O ++ [B.2], by rw [hu15]; rfl, ?_, ?_, HDS.out B.2, mxs_le HR4.out (by omega), strs_below HO7.out HB4.out (Nat.le_refl _), fun g hg => HAP7.out w7.heap.size (Nat.le_refl _) g (mxs_lo HR4.out g hg), HB7.out.trans (HB4.out.mono (by omega))⟩
                      · show _ = _
                        rw [← HE.out, HRND.out, List.append_assoc]; rfl
                      · have := HDR.out
                        rw [List.length_append]; simp; omega
                    case measure => rw [hu15]; exact HDR.out
end Go.Proofs.YtnbbhegcijogiaaDoor
