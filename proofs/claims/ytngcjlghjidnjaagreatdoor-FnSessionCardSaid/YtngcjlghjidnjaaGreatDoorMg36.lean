import Derived.Test.YtngcjlghjidnjaaGreatDoorMg35
namespace Go.Proofs.YtngcjlghjidnjaaGreatDoor
open Go.ChangeShapes Go.WideShapes Go.ChangeAt Go.RowKit
attribute [local go_sem ↓] Go.wp_at_zero Go.wp_at_succ

set_option maxHeartbeats 4000000 in
set_option maxRecDepth 100000 in
theorem implEhlo (b : Nat) (w0 : World) (u1 u2 u3 : Value) (s : Sn) (t : ByteArray) (c : Nat) (v : Value) (L : List ByteArray) (lo : Nat) (K : Nat) (Q : Bool) (P : Sn × ByteArray) (w : World) (hl : LenIn w0) (hk : s.Ok) (hz : t.size ≤ 700000000) (hS : Strs w lo v L) (h1 : 1 ≤ L.length) (h : DB b w0 u1 u2 u3 s t w)
    (hSz : ∀ wx, Below w.heap.size w wx → Calls Tryz.prog 141 #[v] wx fun e w' => e = .returned (.tuple #[.int .i64 (K : Int), .bool Q]) ∧ Below wx.heap.size wx w')
    (hP : (500 ≤ c ∧ P = (s.to 3, cmdB 2 s.he)) ∨ (c < 500 ∧ c ≠ 250 ∧ P = s.quit (refV c (L.getD 0 ⟨#[]⟩))) ∨ (c = 250 ∧ (Q = true ∧ 0 < K ∧ K < s.bo.size) ∧ P = s.quit (3, 552, ⟨#[115, 105, 122, 101]⟩)) ∨ (c = 250 ∧ (Q = false ∨ K = 0 ∨ s.bo.size ≤ K) ∧ P = (s.to 4, cmdB 3 s.fr))) :
    Calls Tryz.prog 114 #[.pointer (some ⟨b, 0, none⟩), .agg #[.int .i64 (c : Int), v]] w fun e w' => DP b w0 u1 u2 u3 P.1 (t ++ P.2) w e w' := by
  have H : Hid (DB b w0 u1 u2 u3 s t w) := h
  have HK : Hid s.Ok := hk
  have HS : Hid (Strs w lo v L) := hS
  have HSz : Hid (∀ wx, Below w.heap.size w wx → Calls Tryz.prog 141 #[v] wx fun e w' => e = .returned (.tuple #[.int .i64 (K : Int), .bool Q]) ∧ Below wx.heap.size wx w') := hSz
  have bl : b < w.heap.size := h.blk.lt
  have hhe : s.he.size ≤ 100 := hk.he
  have hfr : s.fr.size ≤ 160 := hk.fr
  have hbo : s.bo.size ≤ 3000 := hk.bo
  clear h hk hS hSz
  go_enter Tryz.func114, Tryz.ntmps114
  go_wp2_with fail
  refine (HSz.out _ (below1 _ _)).mono ?_
  rintro e w1 ⟨rfl, hb1⟩
  have b1 : Below w.heap.size w w1 := (below1 w _).trans (hb1.mono (by simp))
  have HB : Hid (Blk w.heap.size #[.int .i64 (c : Int), v] w1) := (Blk.new w _ _).below hb1
  have HD : Hid (DB b w0 u1 u2 u3 s t w1) := H.out.below b1
  have x0 : w1.cell? ⟨w.heap.size, 0, none⟩ = some (.int .i64 (c : Int)) := HB.out.cell 0
  have x1 : w1.cell? ⟨w.heap.size, 1, none⟩ = some v := HB.out.cell 1
  have y2 : w1.cell? ⟨b, 2, none⟩ = some (.string s.he) := HD.out.blk.cell 2
  have y3 : w1.cell? ⟨b, 3, none⟩ = some (.string s.fr) := HD.out.blk.cell 3
  have y4 : w1.cell? ⟨b, 4, none⟩ = some (.string s.bo) := HD.out.blk.cell 4
  clear hb1 HSz
  rcases hP with ⟨hc, rfl⟩ | ⟨hc, hc2, rfl⟩ | ⟨hc, ⟨rfl, hK0, hK1⟩, rfl⟩ | ⟨hc, hQ, rfl⟩
  · go_wp2_with fail
    refine (implCommand 2 s.he _ (len_below hl HD.out.bel) (by omega)).mono ?_
    rintro e w2 ⟨rfl, hb2⟩
    have b2 : Below w.heap.size w w2 := b1.trans (hb2.mono b1.size)
    have hX := cmd_size 2 s.he
    go_wp2_with fail
    refine (implSay b w0 u1 u2 u3 s t _ 3 w2 (by omega) (H.out.below b2)).mono ?_
    rintro e w3 ⟨rfl, D3, O3⟩
    go_wp2
    refine bodyPost_ret (v := .tuple #[]) (by simp [results, Tryz.results114, go_sem]) rfl ?_
    exact ⟨rfl, D3, (DO.of_below b2).trans O3⟩

  · have hcb : (((c : Nat) : Int) == 250) = false := beq_eq_false_iff_ne.2 (by omega)
    clear hc2
    go_wp2_with fail
    refine (implNo c v L lo _ (strs_below HS.out b1 (Nat.le_refl _)) h1).mono ?_
    rintro e w2 ⟨rfl, hb2⟩
    have b2 : Below w.heap.size w w2 := b1.trans (hb2.mono b1.size)
    go_wp2_with fail
    refine (implGive b w0 u1 u2 u3 s t _ w2 hl HK.out (by omega) (H.out.below b2)).mono ?_
    rintro e w3 ⟨rfl, D3, O3⟩
    go_wp2
    refine bodyPost_ret (v := .tuple #[]) (by simp [results, Tryz.results114, go_sem]) rfl ?_
    exact ⟨rfl, D3, (DO.of_below b2).trans O3⟩

  · subst hc
    go_wp2_with fail
    refine (implGive b w0 u1 u2 u3 s t (3, 552, ⟨#[115, 105, 122, 101]⟩) w1 hl HK.out (by omega) HD.out).mono ?_
    rintro e w3 ⟨rfl, D3, O3⟩
    go_wp2
    refine bodyPost_ret (v := .tuple #[]) (by simp [results, Tryz.results114, go_sem]) rfl ?_
    exact ⟨rfl, D3, (DO.of_below b1).trans O3⟩

  · subst hc
    have hX := cmd_size 3 s.fr
    have HC : Hid (∀ w2, Below w1.heap.size w1 w2 → Calls Tryz.prog 142 #[.pointer (some ⟨b, 0, none⟩), .string (cmdB 3 s.fr), .int .i64 4] w2 fun e w' => DP b w0 u1 u2 u3 (s.to 4) (t ++ cmdB 3 s.fr) w2 e w') := fun w2 hb => implSay b w0 u1 u2 u3 s t _ 4 w2 (by omega) (HD.out.below hb)
    clear hX
    rcases hQ with rfl | rfl | hQ
    · go_wp2_with fail
      refine (implCommand 3 s.fr _ (len_below hl HD.out.bel) (by omega)).mono ?_
      rintro e w2 ⟨rfl, hb2⟩
      go_wp2_with fail
      refine (HC.out w2 hb2).mono ?_
      rintro e w3 ⟨rfl, D3, O3⟩
      go_wp2
      refine bodyPost_ret (v := .tuple #[]) (by simp [results, Tryz.results114, go_sem]) rfl ?_
      exact ⟨rfl, D3, (DO.of_below (b1.trans (hb2.mono b1.size))).trans O3⟩
    · cases Q
      · go_wp2_with fail
        refine (implCommand 3 s.fr _ (len_below hl HD.out.bel) (by omega)).mono ?_
        rintro e w2 ⟨rfl, hb2⟩
        go_wp2_with fail
        refine (HC.out w2 hb2).mono ?_
        rintro e w3 ⟨rfl, D3, O3⟩
        go_wp2
        refine bodyPost_ret (v := .tuple #[]) (by simp [results, Tryz.results114, go_sem]) rfl ?_
        exact ⟨rfl, D3, (DO.of_below (b1.trans (hb2.mono b1.size))).trans O3⟩
      · go_wp2_with fail
        refine (implCommand 3 s.fr _ (len_below hl HD.out.bel) (by omega)).mono ?_
        rintro e w2 ⟨rfl, hb2⟩
        go_wp2_with fail
        refine (HC.out w2 hb2).mono ?_
        rintro e w3 ⟨rfl, D3, O3⟩
        go_wp2
        refine bodyPost_ret (v := .tuple #[]) (by simp [results, Tryz.results114, go_sem]) rfl ?_
        exact ⟨rfl, D3, (DO.of_below (b1.trans (hb2.mono b1.size))).trans O3⟩
    · cases Q
      · go_wp2_with fail
        refine (implCommand 3 s.fr _ (len_below hl HD.out.bel) (by omega)).mono ?_
        rintro e w2 ⟨rfl, hb2⟩
        go_wp2_with fail
        refine (HC.out w2 hb2).mono ?_
        rintro e w3 ⟨rfl, D3, O3⟩
        go_wp2
        refine bodyPost_ret (v := .tuple #[]) (by simp [results, Tryz.results114, go_sem]) rfl ?_
        exact ⟨rfl, D3, (DO.of_below (b1.trans (hb2.mono b1.size))).trans O3⟩
      · by_cases hK : 0 < K
        · go_wp2_with fail
          refine (implCommand 3 s.fr _ (len_below hl HD.out.bel) (by omega)).mono ?_
          rintro e w2 ⟨rfl, hb2⟩
          go_wp2_with fail
          refine (HC.out w2 hb2).mono ?_
          rintro e w3 ⟨rfl, D3, O3⟩
          go_wp2
          refine bodyPost_ret (v := .tuple #[]) (by simp [results, Tryz.results114, go_sem]) rfl ?_
          exact ⟨rfl, D3, (DO.of_below (b1.trans (hb2.mono b1.size))).trans O3⟩
        · obtain rfl : K = 0 := by omega
          go_wp2_with fail
          refine (implCommand 3 s.fr _ (len_below hl HD.out.bel) (by omega)).mono ?_
          rintro e w2 ⟨rfl, hb2⟩
          go_wp2_with fail
          refine (HC.out w2 hb2).mono ?_
          rintro e w3 ⟨rfl, D3, O3⟩
          go_wp2
          refine bodyPost_ret (v := .tuple #[]) (by simp [results, Tryz.results114, go_sem]) rfl ?_
          exact ⟨rfl, D3, (DO.of_below (b1.trans (hb2.mono b1.size))).trans O3⟩
end Go.Proofs.YtngcjlghjidnjaaGreatDoor
namespace Go.Proofs.YtngcjlghjidnjaaGreatDoor
open Go.ChangeShapes Go.WideShapes Go.ChangeAt Go.RowKit
attribute [local go_sem ↓] Go.wp_at_zero Go.wp_at_succ

set_option maxHeartbeats 4000000 in
set_option maxRecDepth 100000 in
theorem indexB (T : List Bool) (u : Value) (lo : Nat) (w : World) (h : Bls w lo u T) (hT : T.length ≤ 20) (h1 : 1 ≤ T.length) :
    Calls Tryz.prog 159 #[u, .bool true] w fun e w' => (∃ i : Int, e = .returned (.int .i64 i) ∧ ((0 ≤ i ∧ true ∈ T) ∨ (i = -1 ∧ ¬ true ∈ T))) ∧ w' = w := by
  obtain ⟨g, k, rfl⟩ : ∃ g k, u = .slice (some ⟨g, 0, none⟩) T.length k := by
    rcases h.cases with ⟨_, e⟩ | ⟨g, k, e, _⟩
    · rw [e] at h1; simp at h1
    · exact ⟨g, k, e⟩
  have HB : Hid (Bls w lo (.slice (some ⟨g, 0, none⟩) T.length k) T) := h
  clear h
  have gl : g < w.heap.size := HB.out.at.1.lt
  go_enter Tryz.func159, Tryz.ntmps159
  go_upto_region 2 with fail
  go_loopw [8] (fun kv wr => ∃ j : Nat, j ≤ T.length ∧ kv = .int .i64 j ∧ wr = w ∧ Hid (∀ i, i < j → T[i]? = some false)) (fun kv _ => T.length - (intOf kv).toNat)
  case atStart => exact ⟨0, Nat.zero_le _, rfl, rfl, fun i hi => by omega⟩
  case round =>
    obtain ⟨j, hj, rfl, hwr, HF⟩ := hrel
    have hwr2 := hwr.symm
    subst hwr2
    by_cases hlt : j < T.length
    · have y0 := HB.out.at.1.cell j hlt
      cases hb : T[j] with
      | true =>
        rw [hb] at y0
        have hm : Hid (true ∈ T) := (hb ▸ List.getElem_mem hlt : true ∈ T)
        go_wp2
        go_ret
        exact ⟨⟨_, rfl, .inl ⟨by omega, hm.out⟩⟩, rfl⟩
      | false =>
        rw [hb] at y0
        have HF2 : Hid (∀ i, i < j + 1 → T[i]? = some false) := fun i hi => by
          by_cases e : i < j
          · exact HF.out i e
          · obtain rfl : i = j := by omega
            rw [List.getElem?_eq_getElem hlt, hb]
        go_wp2
        go_roundw
        case rel => exact ⟨j + 1, by omega, by go_num, by first | rfl | trivial, HF2⟩
        case measure => simp [intOf]; omega
    · obtain rfl : j = T.length := by omega
      have hno : Hid (¬ true ∈ T) := fun hm => by
        obtain ⟨i, hi, e⟩ := List.getElem_of_mem hm
        have := HF.out i hi
        rw [List.getElem?_eq_getElem hi, e] at this
        cases this
      go_wp2
      go_ret
      exact ⟨⟨-1, rfl, .inr ⟨rfl, hno.out⟩⟩, rfl⟩

set_option maxHeartbeats 4000000 in
set_option maxRecDepth 100000 in
theorem containsB (T : List Bool) (u : Value) (lo : Nat) (w : World) (h : Bls w lo u T) (hT : T.length ≤ 20) (h1 : 1 ≤ T.length) :
    Calls Tryz.prog 145 #[u, .bool true] w fun e w' => e = .returned (.bool (decide (true ∈ T))) ∧ w' = w := by
  obtain ⟨g, k, rfl⟩ : ∃ g k, u = .slice (some ⟨g, 0, none⟩) T.length k := by
    rcases h.cases with ⟨_, e⟩ | ⟨g, k, e, _⟩
    · rw [e] at h1; simp at h1
    · exact ⟨g, k, e⟩
  have HI := indexB T _ lo w h hT h1
  clear h hT h1
  go_enter Tryz.func145, Tryz.ntmps145
  go_wp2_with fail
  refine HI.mono ?_
  rintro e w1 ⟨⟨i, rfl, hi⟩, rfl⟩
  rcases hi with ⟨hi, hm⟩ | ⟨rfl, hm⟩
  · have G : Hid (decide (true ∈ T) = true) := decide_eq_true hm
    clear hm
    go_wp2
    go_ret
    exact ⟨ret_bool G.out.symm, rfl⟩
  · have G : Hid (decide (true ∈ T) = false) := decide_eq_false hm
    clear hm
    go_wp2
    go_ret
    exact ⟨ret_bool G.out.symm, rfl⟩
end Go.Proofs.YtngcjlghjidnjaaGreatDoor
namespace Go.Proofs.YtngcjlghjidnjaaGreatDoor
open Go.ChangeShapes Go.WideShapes Go.ChangeAt Go.RowKit
attribute [local go_sem ↓] Go.wp_at_zero Go.wp_at_succ

theorem DB.taken {b : Nat} {w0 : World} {g1 g2 g3 n k1 k2 k3 : Nat} {s : Sn} {t : ByteArray} {w : World} (h : DB b w0 (.slice (some ⟨g1, 0, none⟩) n k1) (.slice (some ⟨g2, 0, none⟩) n k2) (.slice (some ⟨g3, 0, none⟩) n k3) s t w) (i : Nat) : DB b w0 (.slice (some ⟨g1, 0, none⟩) n k1) (.slice (some ⟨g2, 0, none⟩) n k2) (.slice (some ⟨g3, 0, none⟩) n k3) ({ s with T := s.T.set i true } : Sn) t (w.setCell ⟨g2, i, none⟩ (.bool true)) := by
  have ap := h.sv.apart
  exact ⟨h.blk.other (own_ne h.a2 g2 rfl).symm, ⟨row_set_neR h.sv.1 (fun g hg => ap.1 g g2 hg rfl) _, bls_set h.sv.2.1 true, row_set_neR h.sv.2.2 (fun g hg e => ap.2.2 g2 g rfl hg e.symm) _⟩, h.a1, h.a2, h.a3, h.nb, h.bel.setCell (p := ⟨g2, i, none⟩) (h.sv.own.2.1 g2 rfl).1 _⟩
theorem DB.verd {b : Nat} {w0 : World} {g1 g2 g3 n k1 k2 k3 : Nat} {s : Sn} {t : ByteArray} {w : World} (h : DB b w0 (.slice (some ⟨g1, 0, none⟩) n k1) (.slice (some ⟨g2, 0, none⟩) n k2) (.slice (some ⟨g3, 0, none⟩) n k3) s t w) (i : Nat) (hi : i < s.V.length) (Z : Vd) : DB b w0 (.slice (some ⟨g1, 0, none⟩) n k1) (.slice (some ⟨g2, 0, none⟩) n k2) (.slice (some ⟨g3, 0, none⟩) n k3) ({ s with V := s.V.set i Z } : Sn) t (((w.setCell ⟨g3, i * 3, none⟩ (.int .i64 Z.1)).setCell ⟨g3, i * 3 + 1, none⟩ (.int .i64 Z.2.1)).setCell ⟨g3, i * 3 + 2, none⟩ (.string Z.2.2)) := by
  have ap := h.sv.apart
  have hb := (own_ne h.a3 g3 rfl).symm
  have hg := (h.sv.own.2.2 g3 rfl).1
  exact ⟨((h.blk.other hb).other hb).other hb, ⟨row_set_neR (row_set_neR (row_set_neR h.sv.1 (fun g hg => ap.2.1 g g3 hg rfl) _) (fun g hg => ap.2.1 g g3 hg rfl) _) (fun g hg => ap.2.1 g g3 hg rfl) _, row_set_neR (row_set_neR (row_set_neR h.sv.2.1 (fun g hg => ap.2.2 g g3 hg rfl) _) (fun g hg => ap.2.2 g g3 hg rfl) _) (fun g hg => ap.2.2 g g3 hg rfl) _, vds_put h.sv.2.2 hi Z⟩, h.a1, h.a2, h.a3, h.nb, ((h.bel.setCell (p := ⟨g3, _, none⟩) hg _).setCell (p := ⟨g3, _, none⟩) hg _).setCell (p := ⟨g3, _, none⟩) hg _⟩
theorem DO.put2 {b g2 n2 k2 : Nat} {u3 : Value} {w : World} (o : Nat) (u : Value) : DO b (.slice (some ⟨g2, 0, none⟩) n2 k2) u3 w (w.setCell ⟨g2, o, none⟩ u) :=
  OffL.mono (vs := [.slice (some ⟨g2, 0, none⟩) n2 k2]) (OffL.put (g := g2) (OffL.of_below (Below.refl _ _)) rfl u) (by simp)
theorem DO.put3 {b g3 n3 k3 : Nat} {u2 : Value} {w : World} (o : Nat) (u : Value) : DO b u2 (.slice (some ⟨g3, 0, none⟩) n3 k3) w (w.setCell ⟨g3, o, none⟩ u) :=
  OffL.mono (vs := [.slice (some ⟨g3, 0, none⟩) n3 k3]) (OffL.put (g := g3) (OffL.of_below (Below.refl _ _)) rfl u) (by simp)

set_option maxHeartbeats 4000000 in
set_option maxRecDepth 100000 in
theorem implRcptY (b : Nat) (w0 : World) (u1 u2 u3 : Value) (s : Sn) (t : ByteArray) (c : Nat) (v : Value) (L : List ByteArray) (w : World) (hl : LenIn w0) (hk : s.Ok) (h5 : s.ph = 5) (hz : t.size ≤ 700000000) (h : DB b w0 u1 u2 u3 s t w) (hc : c = 250 ∨ c = 251) :
    Calls Tryz.prog 117 #[.pointer (some ⟨b, 0, none⟩), .agg #[.int .i64 (c : Int), v]] w fun e w' => DP b w0 u1 u2 u3 ((s.mark c (L.getD 0 ⟨#[]⟩)).next).1 (t ++ ((s.mark c (L.getD 0 ⟨#[]⟩)).next).2) w e w' := by
  have H : Hid (DB b w0 u1 u2 u3 s t w) := h
  obtain ⟨g1, g2, g3, k1, k2, k3, rfl, rfl, rfl⟩ := h.sv.some hk
  have HKo : Hid s.Ok := hk
  have mO : Hid ((s.mark c (L.getD 0 ⟨#[]⟩)).next.1.Ok) := hk.rcpt _ _ h5
  obtain ⟨m1, m2, m3, m4, m5, m6, m7, m8, m9⟩ := hk.mark c (L.getD 0 ⟨#[]⟩) h5
  have hn : s.nx < s.R.length := hk.n5 h5
  have hr20 : s.R.length ≤ 20 := hk.r20
  have hr1 : 1 ≤ s.R.length := hk.r1
  have HM0 : Hid ({ ({ s with T := s.T.set s.nx true } : Sn) with nx := s.nx + 1 } = s.mark c (L.getD 0 ⟨#[]⟩)) := by
    show _ = _
    rw [Sn.mark, if_pos hc]
  generalize hMe : s.mark c (L.getD 0 ⟨#[]⟩) = M at *
  have HM : Hid ({ ({ s with T := s.T.set s.nx true } : Sn) with nx := s.nx + 1 } = M) := HM0
  have mR : Hid (M.R = s.R) := m5
  have mT : Hid (M.T.length = s.R.length) := m1
  have mP : Hid (M.ph = 5) := m4
  have HL : Hid (s.T.length = s.R.length) := hk.t
  have gb : g2 ≠ b := own_ne h.a2 g2 rfl
  have bl : b < w.heap.size := h.blk.lt
  clear m1 m2 m3 m4 m5 m6 m7 m8 m9 hMe HM0 h hk h5
  have i0 : (0 : Int) ≤ (s.nx : Int) := by omega
  have i1 : (s.nx : Int) < (s.R.length : Int) := by omega
  rcases hc with rfl | rfl
  · go_enter Tryz.func117, Tryz.ntmps117
    go_upto_region 3 with fail
    generalize hW : World.alloc _ _ = W
    have b0 : Below w.heap.size w W := by rw [← hW]; exact below1 _ _
    have HD : Hid (DB b w0 (.slice (some ⟨g1, 0, none⟩) s.R.length k1) (.slice (some ⟨g2, 0, none⟩) s.R.length k2) (.slice (some ⟨g3, 0, none⟩) s.R.length k3) s t W) := H.out.below b0
    have y0 := HD.out.sv.2.1.at.1.cell s.nx (by rw [HL.out]; exact hn)
    have yf := HD.out.sv.2.1.at.1.free s.nx
    have yl := HD.out.sv.2.1.at.1.lt
    obtain ⟨c0, c1, c2, c3, c4, c5, c6, c7, c8, c9⟩ := HD.out.cells
    have bl0 : b < W.heap.size := HD.out.blk.lt
    clear hW
    go_region
    generalize hW5 : World.drew _ = W5
    have HD5 : Hid (DB b w0 (.slice (some ⟨g1, 0, none⟩) s.R.length k1) (.slice (some ⟨g2, 0, none⟩) s.R.length k2) (.slice (some ⟨g3, 0, none⟩) s.R.length k3) ({ s with T := s.T.set s.nx true } : Sn) t W5) := by show DB _ _ _ _ _ _ _ _; rw [← hW5]; exact DB.below (HD.out.taken s.nx) (Below.refl _ _).drew
    have HO5 : Hid (DO b (.slice (some ⟨g2, 0, none⟩) s.R.length k2) (.slice (some ⟨g3, 0, none⟩) s.R.length k3) w W5) := by show DO _ _ _ _ _; rw [← hW5]; exact ((DO.of_below b0).trans (DO.put2 s.nx _)).trans (DO.of_below (Below.refl _ _).drew)
    clear hW5 y0 yf yl c0 c1 c2 c3 c4 c5 c6 c7 c8 c9 bl0 HD b0
    obtain ⟨c0, c1, c2, c3, c4, c5, c6, c7, c8, c9⟩ := HD5.out.cells
    obtain ⟨f0, f1, f6, f9⟩ := HD5.out.frees
    go_upto_region 7 with fail
    generalize hW6 : World.setCell W5 _ _ = W6
    clear c0 c1 c2 c3 c4 c5 c6 c7 c8 c9 f0 f1 f6 f9
    have HDM : Hid (DB b w0 (.slice (some ⟨g1, 0, none⟩) s.R.length k1) (.slice (some ⟨g2, 0, none⟩) s.R.length k2) (.slice (some ⟨g3, 0, none⟩) s.R.length k3) M t W6) := by
      show DB _ _ _ _ _ _ _ _
      rw [← hW6, ← HM.out]
      have := HD5.out.nx (s.nx + 1)
      rw [show ((s.nx : Int) + 1) = ((s.nx + 1 : Nat) : Int) from by omega]
      exact this
    have HO6 : Hid (DO b (.slice (some ⟨g2, 0, none⟩) s.R.length k2) (.slice (some ⟨g3, 0, none⟩) s.R.length k3) w W6) := by show DO _ _ _ _ _; rw [← hW6]; exact HO5.out.put 6 _
    clear hW6 HD5 HO5 HM
    have bl6 : b < W6.heap.size := HDM.out.blk.lt
    obtain ⟨c0, c1, c2, c3, c4, c5, c6, c7, c8, c9⟩ := HDM.out.cells
    by_cases hlt : M.nx < s.R.length
    · have HE : Hid (M.next = (M, cmdB 4 (M.R.getD M.nx ⟨#[]⟩)) ∧ M = M.to 5) := by
        refine ⟨?_, ?_⟩
        · unfold Sn.next; rw [mR.out, if_pos hlt]
        · unfold Sn.to; rw [← mP.out]
      have hkM : Hid M.Ok := by
        have := mO.out
        rw [HE.out.1] at this
        exact this
      have hlt' : Hid (M.nx < M.R.length) := by show _ < _; rw [mR.out]; exact hlt
      go_region
      go_wp2_with fail
      refine (implAsk b w0 _ _ _ M t _ hl hkM.out hlt'.out (by omega) (HDM.out.below (by repeat (first | exact Below.refl _ _ | refine Below.drew ?_)))).mono ?_
      rintro e w8 ⟨rfl, D8, O8⟩
      go_wp2
      refine bodyPost_ret (v := .tuple #[]) (by simp [results, Tryz.results117, go_sem]) rfl ?_
      show DP _ _ _ _ _ M.next.1 (t ++ M.next.2) _ _ _
      rw [HE.out.1]
      refine ⟨rfl, ?_, (HO6.out.trans (DO.of_below (by repeat (first | exact Below.refl _ _ | refine Below.drew ?_)))).trans O8⟩
      rw [← HE.out.2] at D8
      exact D8
    · go_region
      go_wp2_with fail
      refine (containsB M.T _ w0.heap.size _ (bls_below HDM.out.sv.2.1 (by repeat (first | exact Below.refl _ _ | refine Below.drew ?_)) (Nat.le_refl _)) (by rw [mT.out]; exact hr20) (by rw [mT.out]; exact hr1)).mono ?_
      rintro e w7 ⟨rfl, hw7⟩
      have b7 : Below W6.heap.size W6 w7 := by rw [hw7]; repeat (first | exact Below.refl _ _ | refine Below.drew ?_)
      have HD7 : Hid (DB b w0 (.slice (some ⟨g1, 0, none⟩) s.R.length k1) (.slice (some ⟨g2, 0, none⟩) s.R.length k2) (.slice (some ⟨g3, 0, none⟩) s.R.length k3) M t w7) := HDM.out.below b7
      clear hw7
      by_cases hm : true ∈ M.T
      · rw [decide_eq_true hm]
        have HE : Hid (M.next = (M.to 6, cmdB 5 ⟨#[]⟩)) := by
          show _ = _
          unfold Sn.next; rw [mR.out, if_neg hlt, if_pos hm]
        go_wp2_with fail
        refine (implCommand 5 ⟨#[]⟩ _ (len_below hl HD7.out.bel) (by decide)).mono ?_
        rintro e w8 ⟨rfl, hb8⟩
        have hX := cmd_size 5 ⟨#[]⟩
        have e0 : (⟨#[]⟩ : ByteArray).size = 0 := rfl
        have HC := implSay b w0 _ _ _ M t (cmdB 5 ⟨#[]⟩) 6 w8 (by omega) (HD7.out.below hb8)
        clear hX e0
        go_wp2_with fail
        refine HC.mono ?_
        rintro e w9 ⟨rfl, D9, O9⟩
        go_wp2
        refine bodyPost_ret (v := .tuple #[]) (by simp [results, Tryz.results117, go_sem]) rfl ?_
        show DP _ _ _ _ _ M.next.1 (t ++ M.next.2) _ _ _
        rw [HE.out]
        exact ⟨rfl, D9, ((HO6.out.trans (DO.of_below b7)).trans (DO.of_below hb8)).trans O9⟩
      · rw [decide_eq_false hm]
        have HE : Hid (M.next = (M.to 8, tQuit)) := by
          show _ = _
          unfold Sn.next; rw [mR.out, if_neg hlt, if_neg hm]
        go_wp2_with fail
        refine (implQuit b w0 _ _ _ M t w7 hl (by omega) HD7.out).mono ?_
        rintro e w9 ⟨rfl, D9, O9⟩
        go_wp2
        refine bodyPost_ret (v := .tuple #[]) (by simp [results, Tryz.results117, go_sem]) rfl ?_
        show DP _ _ _ _ _ M.next.1 (t ++ M.next.2) _ _ _
        rw [HE.out]
        exact ⟨rfl, D9, (HO6.out.trans (DO.of_below b7)).trans O9⟩
  · go_enter Tryz.func117, Tryz.ntmps117
    go_upto_region 3 with fail
    generalize hW : World.alloc _ _ = W
    have b0 : Below w.heap.size w W := by rw [← hW]; exact below1 _ _
    have HD : Hid (DB b w0 (.slice (some ⟨g1, 0, none⟩) s.R.length k1) (.slice (some ⟨g2, 0, none⟩) s.R.length k2) (.slice (some ⟨g3, 0, none⟩) s.R.length k3) s t W) := H.out.below b0
    have y0 := HD.out.sv.2.1.at.1.cell s.nx (by rw [HL.out]; exact hn)
    have yf := HD.out.sv.2.1.at.1.free s.nx
    have yl := HD.out.sv.2.1.at.1.lt
    obtain ⟨c0, c1, c2, c3, c4, c5, c6, c7, c8, c9⟩ := HD.out.cells
    have bl0 : b < W.heap.size := HD.out.blk.lt
    clear hW
    go_region
    generalize hW5 : World.drew _ = W5
    have HD5 : Hid (DB b w0 (.slice (some ⟨g1, 0, none⟩) s.R.length k1) (.slice (some ⟨g2, 0, none⟩) s.R.length k2) (.slice (some ⟨g3, 0, none⟩) s.R.length k3) ({ s with T := s.T.set s.nx true } : Sn) t W5) := by show DB _ _ _ _ _ _ _ _; rw [← hW5]; exact DB.below (HD.out.taken s.nx) (Below.refl _ _).drew
    have HO5 : Hid (DO b (.slice (some ⟨g2, 0, none⟩) s.R.length k2) (.slice (some ⟨g3, 0, none⟩) s.R.length k3) w W5) := by show DO _ _ _ _ _; rw [← hW5]; exact ((DO.of_below b0).trans (DO.put2 s.nx _)).trans (DO.of_below (Below.refl _ _).drew)
    clear hW5 y0 yf yl c0 c1 c2 c3 c4 c5 c6 c7 c8 c9 bl0 HD b0
    obtain ⟨c0, c1, c2, c3, c4, c5, c6, c7, c8, c9⟩ := HD5.out.cells
    obtain ⟨f0, f1, f6, f9⟩ := HD5.out.frees
    go_upto_region 7 with fail
    generalize hW6 : World.setCell W5 _ _ = W6
    clear c0 c1 c2 c3 c4 c5 c6 c7 c8 c9 f0 f1 f6 f9
    have HDM : Hid (DB b w0 (.slice (some ⟨g1, 0, none⟩) s.R.length k1) (.slice (some ⟨g2, 0, none⟩) s.R.length k2) (.slice (some ⟨g3, 0, none⟩) s.R.length k3) M t W6) := by
      show DB _ _ _ _ _ _ _ _
      rw [← hW6, ← HM.out]
      have := HD5.out.nx (s.nx + 1)
      rw [show ((s.nx : Int) + 1) = ((s.nx + 1 : Nat) : Int) from by omega]
      exact this
    have HO6 : Hid (DO b (.slice (some ⟨g2, 0, none⟩) s.R.length k2) (.slice (some ⟨g3, 0, none⟩) s.R.length k3) w W6) := by show DO _ _ _ _ _; rw [← hW6]; exact HO5.out.put 6 _
    clear hW6 HD5 HO5 HM
    have bl6 : b < W6.heap.size := HDM.out.blk.lt
    obtain ⟨c0, c1, c2, c3, c4, c5, c6, c7, c8, c9⟩ := HDM.out.cells
    by_cases hlt : M.nx < s.R.length
    · have HE : Hid (M.next = (M, cmdB 4 (M.R.getD M.nx ⟨#[]⟩)) ∧ M = M.to 5) := by
        refine ⟨?_, ?_⟩
        · unfold Sn.next; rw [mR.out, if_pos hlt]
        · unfold Sn.to; rw [← mP.out]
      have hkM : Hid M.Ok := by
        have := mO.out
        rw [HE.out.1] at this
        exact this
      have hlt' : Hid (M.nx < M.R.length) := by show _ < _; rw [mR.out]; exact hlt
      go_region
      go_wp2_with fail
      refine (implAsk b w0 _ _ _ M t _ hl hkM.out hlt'.out (by omega) (HDM.out.below (by repeat (first | exact Below.refl _ _ | refine Below.drew ?_)))).mono ?_
      rintro e w8 ⟨rfl, D8, O8⟩
      go_wp2
      refine bodyPost_ret (v := .tuple #[]) (by simp [results, Tryz.results117, go_sem]) rfl ?_
      show DP _ _ _ _ _ M.next.1 (t ++ M.next.2) _ _ _
      rw [HE.out.1]
      refine ⟨rfl, ?_, (HO6.out.trans (DO.of_below (by repeat (first | exact Below.refl _ _ | refine Below.drew ?_)))).trans O8⟩
      rw [← HE.out.2] at D8
      exact D8
    · go_region
      go_wp2_with fail
      refine (containsB M.T _ w0.heap.size _ (bls_below HDM.out.sv.2.1 (by repeat (first | exact Below.refl _ _ | refine Below.drew ?_)) (Nat.le_refl _)) (by rw [mT.out]; exact hr20) (by rw [mT.out]; exact hr1)).mono ?_
      rintro e w7 ⟨rfl, hw7⟩
      have b7 : Below W6.heap.size W6 w7 := by rw [hw7]; repeat (first | exact Below.refl _ _ | refine Below.drew ?_)
      have HD7 : Hid (DB b w0 (.slice (some ⟨g1, 0, none⟩) s.R.length k1) (.slice (some ⟨g2, 0, none⟩) s.R.length k2) (.slice (some ⟨g3, 0, none⟩) s.R.length k3) M t w7) := HDM.out.below b7
      clear hw7
      by_cases hm : true ∈ M.T
      · rw [decide_eq_true hm]
        have HE : Hid (M.next = (M.to 6, cmdB 5 ⟨#[]⟩)) := by
          show _ = _
          unfold Sn.next; rw [mR.out, if_neg hlt, if_pos hm]
        go_wp2_with fail
        refine (implCommand 5 ⟨#[]⟩ _ (len_below hl HD7.out.bel) (by decide)).mono ?_
        rintro e w8 ⟨rfl, hb8⟩
        have hX := cmd_size 5 ⟨#[]⟩
        have e0 : (⟨#[]⟩ : ByteArray).size = 0 := rfl
        have HC := implSay b w0 _ _ _ M t (cmdB 5 ⟨#[]⟩) 6 w8 (by omega) (HD7.out.below hb8)
        clear hX e0
        go_wp2_with fail
        refine HC.mono ?_
        rintro e w9 ⟨rfl, D9, O9⟩
        go_wp2
        refine bodyPost_ret (v := .tuple #[]) (by simp [results, Tryz.results117, go_sem]) rfl ?_
        show DP _ _ _ _ _ M.next.1 (t ++ M.next.2) _ _ _
        rw [HE.out]
        exact ⟨rfl, D9, ((HO6.out.trans (DO.of_below b7)).trans (DO.of_below hb8)).trans O9⟩
      · rw [decide_eq_false hm]
        have HE : Hid (M.next = (M.to 8, tQuit)) := by
          show _ = _
          unfold Sn.next; rw [mR.out, if_neg hlt, if_neg hm]
        go_wp2_with fail
        refine (implQuit b w0 _ _ _ M t w7 hl (by omega) HD7.out).mono ?_
        rintro e w9 ⟨rfl, D9, O9⟩
        go_wp2
        refine bodyPost_ret (v := .tuple #[]) (by simp [results, Tryz.results117, go_sem]) rfl ?_
        show DP _ _ _ _ _ M.next.1 (t ++ M.next.2) _ _ _
        rw [HE.out]
        exact ⟨rfl, D9, (HO6.out.trans (DO.of_below b7)).trans O9⟩
end Go.Proofs.YtngcjlghjidnjaaGreatDoor
