import Derived.Test.YtlolnfpfipnfeaaGreatMg30
import Derived.Deep.RegionLaw
import Derived.Test.YtlolnfpfipnfeaaGreatMg20
namespace Go.Proofs.YtlolnfpfipnfeaaGreat
open Go.ChangeShapes Go.WideShapes Go.ChangeAt Go.RowKit
attribute [local go_sem ↓] Go.wp_at_zero Go.wp_at_succ

theorem Blk.belowN {b N : Nat} {X : Array Value} {w w1 : World} (h : Blk b X w) (hb : Below N w w1) (hN : b < N) : Blk b X w1 :=
  ⟨Nat.lt_of_lt_of_le h.lt hb.size, fun i => (hb.cell (p := ⟨b, i, none⟩) hN).trans (h.cell i), fun o => (hb.frozen (p := ⟨b, o, none⟩) hN).trans (h.free o)⟩
set_option maxHeartbeats 4000000 in
set_option maxRecDepth 100000 in
theorem specQueue (v : Value) (nx : Int) (L : List It) (P : List (Value × Value)) (lo : Nat) (w : World) (h : ItsP w lo v L P) (hL : L.length ≤ 1048576) (hs : ∀ x ∈ L, SmallI x) :
    Calls Tryz.prog 18 #[.agg #[v, .int .i64 nx]] w fun e w' => (∃ u P', e = .returned (.agg #[u, .int .i64 nx]) ∧ ItsP w' w.heap.size u L P') ∧ Below w.heap.size w w' := by
  obtain ⟨a1, c1, rfl⟩ := h.form
  have H : Hid (ItsP w lo (.slice a1 L.length c1) L P) := h
  have HS : Hid (∀ x ∈ L, SmallI x) := hs
  clear h hs
  obtain ⟨i0, hinf, hx0, hx1, hx2⟩ := info_parts infoIt
  go_enter Tryz.func18, Tryz.ntmps18
  go_wp2_with fail
  generalize hW : World.alloc _ _ = W0
  have HZ0 : Hid (Blk (w.heap.size + 1) #[.slice none 0 0, .int .i64 0] W0) := by show Blk _ _ _; rw [← hW]; exact (blk3I w _ _ _ _ _ _).2.1
  have HO0 : Hid (Blk (w.heap.size + 1 + 1) #[.slice none 0 0, .int .i64 nx] W0) := by show Blk _ _ _; rw [← hW]; exact (blk3I w _ _ _ _ _ _).2.2
  have b0 : Below w.heap.size w W0 := by rw [← hW]; exact below3 _ _ _ _
  have z0 : w.heap.size + 3 ≤ W0.heap.size := by rw [← hW]; simp
  clear hW
  go_loopw [12] (fun iv wr => ∃ (k : Nat) (u : Value) (Q : List (Value × Value)), k ≤ L.length ∧ iv = .int .i64 k ∧ Hid (Blk (w.heap.size + 1) #[.slice none 0 0, .int .i64 0] wr) ∧ Hid (Blk (w.heap.size + 1 + 1) #[u, .int .i64 nx] wr) ∧ Hid (ItsP wr (w.heap.size + 3) u (L.take k) Q) ∧ Hid (Below w.heap.size w wr) ∧ w.heap.size + 3 ≤ wr.heap.size) (fun iv _ => L.length - (intOf iv).toNat)
  case atStart => exact ⟨0, .slice none 0 0, [], Nat.zero_le _, rfl, HZ0, HO0, ⟨rfl, ⟨⟨by rfl, .inl ⟨rfl, rfl⟩⟩, fun c hc => by cases hc⟩, fun i hi => absurd hi (by simp), fun i hi => absurd hi (by simp), fun i hi => absurd hi (by simp), fun i hi => absurd hi (by simp)⟩, b0, z0⟩
  case round =>
    obtain ⟨k, u, Q, hk, rfl, HZ, HO, HI, HB, hz⟩ := hrel
    by_cases hlt : k < L.length
    · obtain ⟨g1, rfl, hg1⟩ : ∃ g, a1 = some ⟨g, 0, none⟩ ∧ g < w.heap.size := by
        rcases H.out.row.cases with ⟨_, hL0⟩ | ⟨g, cap, hv, hs⟩
        · have := congrArg List.length hL0; rw [irow_len H.out.len] at this; simp only [List.length_nil] at this; omega
        · injection hv with h1; exact ⟨g, h1, hs.lt⟩
      obtain ⟨x0, x1, x2, x3, x4, x5, x6, x7, x8⟩ := (H.out.cells k hlt).below HB.out hg1
      obtain ⟨p1, q1, e1⟩ := strs_formR (H.out.str k hlt)
      obtain ⟨p2, q2, e2⟩ := vds_form (H.out.vds k hlt)
      have HXs := H.out.str k hlt
      have HXv := H.out.vds k hlt
      have hsm := HS.out L[k] (List.getElem_mem _)
      have hT : L.take (k + 1) = L.take k ++ [L[k]] := List.take_succ_eq_append_getElem hlt
      rw [e1] at x3 HXs
      rw [e2] at x5 HXv
      clear e1 e2
      generalize L[k] = X at *
      have HT : Hid (L.take (k + 1) = L.take k ++ [X]) := hT
      have HS1 : Hid (Strs w lo (.slice p1 X.R.length q1) X.R) := HXs
      have HS2 : Hid (Vds w lo (.slice p2 X.V.length q2) X.V) := HXv
      have m1 : X.R.length ≤ 1048576 := hsm.2.2.1
      have m2 : X.V.length ≤ 1048576 := hsm.2.2.2.2.1
      clear hT HXs HXv hsm
      have hlen : (L.take k).length = k := by simp; omega
      obtain ⟨a5, c5, hf⟩ := HI.out.form
      rw [hlen] at hf
      subst hf
      go_upto_region 5 with fail
      generalize hW1 : World.alloc _ _ = W1
      have HX1 : Hid (Blk wr.heap.size #[.int .i64 X.id, .int .i64 X.born, .string X.fr, .slice p1 X.R.length q1, .string X.bo, .slice p2 X.V.length q2, .int .i64 X.tr, .int .i64 X.du, .bool X.bn] W1) := by show Blk _ _ _; rw [← hW1]; exact Blk.new wr _ _
      have hbW : Below wr.heap.size wr W1 := by rw [← hW1]; exact below1 _ _
      have hzW : wr.heap.size < W1.heap.size := by rw [← hW1]; simp
      clear hW1 x0 x1 x2 x3 x4 x5 x6 x7 x8
      have BW1 : Hid (Below w.heap.size w W1) := HB.out.trans (hbW.mono HB.out.size)
      have HZ1 : Hid _ := HZ.out.below hbW
      have HO1 : Hid (Blk (w.heap.size + 1 + 1) #[.slice a5 k c5, .int .i64 nx] W1) := HO.out.below hbW
      have HI1 : Hid (ItsP W1 (w.heap.size + 3) (.slice a5 k c5) (L.take k) Q) := HI.out.below hbW (Nat.le_refl _)
      clear hbW HZ HO HI
      have x0 : W1.cell? ⟨wr.heap.size, 0, none⟩ = some (.int .i64 X.id) := HX1.out.cell 0
      have x1 : W1.cell? ⟨wr.heap.size, 1, none⟩ = some (.int .i64 X.born) := HX1.out.cell 1
      have x2 : W1.cell? ⟨wr.heap.size, 2, none⟩ = some (.string X.fr) := HX1.out.cell 2
      have x3 : W1.cell? ⟨wr.heap.size, 3, none⟩ = some (.slice p1 X.R.length q1) := HX1.out.cell 3
      have x4 : W1.cell? ⟨wr.heap.size, 4, none⟩ = some (.string X.bo) := HX1.out.cell 4
      have x5 : W1.cell? ⟨wr.heap.size, 5, none⟩ = some (.slice p2 X.V.length q2) := HX1.out.cell 5
      have x6 : W1.cell? ⟨wr.heap.size, 6, none⟩ = some (.int .i64 X.tr) := HX1.out.cell 6
      have x7 : W1.cell? ⟨wr.heap.size, 7, none⟩ = some (.int .i64 X.du) := HX1.out.cell 7
      have x8 : W1.cell? ⟨wr.heap.size, 8, none⟩ = some (.bool X.bn) := HX1.out.cell 8
      have o0 : W1.cell? ⟨w.heap.size + 1 + 1, 0, none⟩ = some (.slice a5 k c5) := HO1.out.cell 0
      have lO : w.heap.size + 1 + 1 < W1.heap.size := HO1.out.lt
      have fO := HO1.out.free 0
      have HRk : Hid (W1.ownsRow (w.heap.size + 3) 57 9 (.slice a5 k c5) k (irow (L.take k) Q).flatten) := by
        have := HI1.out.row.1
        rw [irow_len HI1.out.len, hlen] at this
        exact this
      have Hlo : Hid (∀ g, (Value.slice a5 k c5).ownBlock = some g → w.heap.size + 3 ≤ g) := fun g hg => (row_lt HRk.out g hg).1
      have hk1 : k + 1 ≤ 1048576 := by omega
      go_region_law (first | (go_simp; go_at_call 20; refine (specItem X _ _ lo lo _ (strs_below HS1.out BW1.out.drew (Nat.le_refl _)) (vds_below HS2.out BW1.out.drew (Nat.le_refl _)) m1 m2).mono ?_; rintro e w5 ⟨⟨u1, u2, rfl, S1, S2⟩, hb5⟩; obtain ⟨s1, t1, hu1⟩ := row_formA S1; obtain ⟨s2, t2, hu2⟩ := row_formA S2; subst hu1 hu2; have HB5 : Hid (Below W1.heap.size W1 w5) := ((Below.refl W1.heap.size W1).drew.trans (by simpa using hb5)); have hu1 : Strs w5 W1.heap.size (.slice s1 X.R.length t1) X.R := (by simpa using S1); have hu2 : Vds w5 W1.heap.size (.slice s2 X.V.length t2) X.V := (by simpa using S2); have HU1 : Hid (Strs w5 W1.heap.size (.slice s1 X.R.length t1) X.R) := hu1; have HU2 : Hid (Vds w5 W1.heap.size (.slice s2 X.V.length t2) X.V) := hu2; have k1 := (HB5.out.cell (p := ⟨w.heap.size + 1 + 1, 0, none⟩) lO).trans o0; have hz5 : W1.heap.size ≤ w5.heap.size := HB5.out.size; have lO5 : w.heap.size + 1 + 1 < w5.heap.size := (by omega); clear hb5 S1 S2 hu1 hu2) | (refine step_append_lies _ (by rfl) _ _ 34 (by rfl) (w.heap.size + 3) 57 i0 (.agg #[.int .i64 0, .int .i64 0, .string ⟨#[]⟩, .slice none 0 0, .string ⟨#[]⟩, .slice none 0 0, .int .i64 0, .int .i64 0, .bool false]) 9 120 Tryz.underlying34 hinf hx0 hx1 hx2 (by rfl) (by decide) (.slice a5 k c5) k (irow (L.take k) Q).flatten (by rfl) (by exact (row_below HRk.out HB5.out).alloc _) ⟨w5.heap.size, 0, none⟩ 1 1 [.int .i64 X.id, .int .i64 X.born, .string X.fr, .slice s1 X.R.length t1, .string X.bo, .slice s2 X.V.length t2, .int .i64 X.tr, .int .i64 X.du, .bool X.bn] (by rfl) (by rfl) (by intro j u hj; exact World.news_of_block (lk_newW _ _ _ rfl) j u (by simpa using hj)) (by exact ic_oneA X s1 s2 _ _ t1 t2) (by decide) (by unfold maxLen; omega) (by omega) (by simp; omega) (w5.heap.size + 1) (by simp) ?_; intro g cap w7 hown hgrow hat hlt7; have HB7 : Hid (Below (w.heap.size + 3) w5 w7) := (((Below.refl _ w5).alloc (by omega) _).grown hgrow (by simp; omega) Hlo.out); have k7 := (HB7.out.cell (p := ⟨w.heap.size + 1 + 1, 0, none⟩) (by show w.heap.size + 1 + 1 < _; omega)).trans k1; have f7 := (HB7.out.frozen (p := ⟨w.heap.size + 1 + 1, 0, none⟩) (by show w.heap.size + 1 + 1 < _; omega)).trans ((HB5.out.frozen (p := ⟨w.heap.size + 1 + 1, 0, none⟩) lO).trans fO)))
      all_goals
        have HI5 := (HI1.out.below HB5.out (Nat.le_refl _))
        have hPB := PB.of HI1.out
        have HI7 : Hid (ItsP w7 (w.heap.size + 3) (.slice (some ⟨g, 0, none⟩) (k + 1) cap) (L.take k ++ [X]) (Q ++ [(.slice s1 X.R.length t1, .slice s2 X.V.length t2)])) := by
          refine ItsP.snoc (HI5.below (below1 _ _) (Nat.le_refl _)) (OffL.ofGrown (vs := [.slice a5 k c5]) hgrow (by simp)) X (.slice s1 X.R.length t1, .slice s2 X.V.length t2) ?_ ?_ ?_ ?_ ?_
          · rw [irow_len HI5.len, hlen]; exact hown
          · refine row_le ((OffL.ofGrown (vs := [.slice a5 k c5]) hgrow (by simp)).row (row_below HU1.out (below1 _ _)) fun a ha u hu e => ?_) (by omega)
            simp only [List.mem_singleton] at hu
            subst hu
            have h1 := (row_lt HU1.out a ha).1
            have h2 := (row_lt HRk.out a e).2
            omega
          · refine row_le ((OffL.ofGrown (vs := [.slice a5 k c5]) hgrow (by simp)).row (row_below HU2.out (below1 _ _)) fun a ha u hu e => ?_) (by omega)
            simp only [List.mem_singleton] at hu
            subst hu
            have h1 := (row_lt HU2.out a ha).1
            have h2 := (row_lt HRk.out a e).2
            omega
          · intro a ha q hq e
            have h1 := (row_lt HU1.out a ha).1
            have h2 := (hPB q hq).1 a e
            omega
          · intro a ha q hq e
            have h1 := (row_lt HU2.out a ha).1
            have h2 := (hPB q hq).2 a e
            omega
        have HZ7 : Hid _ := (HZ1.out.below HB5.out).belowN HB7.out (by omega)
        have HO7 : Hid _ := (HO1.out.below HB5.out).belowN HB7.out (by omega)
        have BW7 : Hid (Below w.heap.size w w7) := (BW1.out.trans (HB5.out.mono (by omega))).trans (HB7.out.mono (by omega))
        have hz7 := HB7.out.size
        clear hown hgrow hat HB7 HB5 k1 HI5 hPB x0 x1 x2 x3 x4 x5 x6 x7 x8 o0 fO HX1 HU1 HU2 HRk HI1 HZ1 HO1 hinf hx0 hx1 hx2
        go_wp2
        go_roundw
        case rel => exact ⟨k + 1, _, _, by omega, by go_num, HZ7.out.other (by omega), HO7.out.set (i := 0) (by simp), by rw [HT.out]; exact HI7.out.setB (by show w.heap.size + 1 + 1 < _; omega) _, BW7.out.setCell (by show _ ≤ w.heap.size + 1 + 1; omega) _, by simp; omega⟩
        case measure => simp [intOf]; omega
    · obtain rfl : k = L.length := by omega
      have HIL : Hid (ItsP wr (w.heap.size + 3) u L Q) := by have := HI.out; rw [List.take_length] at this; exact this
      obtain ⟨a5, c5, hf⟩ := HIL.out.form
      subst hf
      have o0 : wr.cell? ⟨w.heap.size + 1 + 1, 0, none⟩ = some (.slice a5 L.length c5) := HO.out.cell 0
      have o1 : wr.cell? ⟨w.heap.size + 1 + 1, 1, none⟩ = some (.int .i64 nx) := HO.out.cell 1
      have r0 : wr.cell? ⟨w.heap.size + 1, 0, none⟩ = some (.slice none 0 0) := HZ.out.cell 0
      have r1 : wr.cell? ⟨w.heap.size + 1, 1, none⟩ = some (.int .i64 0) := HZ.out.cell 1
      have g0 := HZ.out.free 0
      have g1 := HZ.out.free 1
      clear HZ HO HI
      go_wp2
      refine bodyPost_ret (v := .agg #[.slice a5 L.length c5, .int .i64 nx]) (by simp [results, Tryz.results18, go_sem, r0, r1]) rfl ?_
      refine ⟨⟨_, Q, rfl, ?_⟩, ?_⟩
      · refine ItsP.le ?_ (Nat.le_add_right _ 3)
        repeat (refine ItsP.setB ?_ (by dsimp only; omega) _)
        exact HIL.out
      · repeat (refine Below.setCell ?_ (by dsimp only; omega) _)
        exact HB.out
end Go.Proofs.YtlolnfpfipnfeaaGreat
namespace Go.Proofs.YtlolnfpfipnfeaaGreat
open Go.ChangeShapes Go.WideShapes Go.ChangeAt Go.RowKit
attribute [local go_sem ↓] Go.wp_at_zero Go.wp_at_succ

/-- the place as the program tells it -/
def placeI (id : Int) (L : List It) : Int := match findI id L 0 with | some i => (i : Int) | none => -1
theorem find_no {id : Int} {L : List It} {k : Nat} (hk : k < L.length) (h : L[k].id ≠ id) : findI id (L.drop k) k = findI id (L.drop (k + 1)) (k + 1) := by
  rw [List.drop_eq_getElem_cons hk]
  show (if L[k].id = id then some k else findI id (L.drop (k + 1)) (k + 1)) = _
  rw [if_neg h]
theorem find_yes {id : Int} {L : List It} {k : Nat} (hk : k < L.length) (h : L[k].id = id) : findI id (L.drop k) k = some k := by
  rw [List.drop_eq_getElem_cons hk]
  show (if L[k].id = id then some k else findI id (L.drop (k + 1)) (k + 1)) = _
  rw [if_pos h]

set_option maxHeartbeats 2000000 in
set_option maxRecDepth 100000 in
theorem specFind (v : Value) (nx id : Int) (L : List It) (P : List (Value × Value)) (lo : Nat) (w : World) (h : ItsP w lo v L P) (hL : L.length ≤ 1048576) :
    Calls Tryz.prog 21 #[.agg #[v, .int .i64 nx], .int .i64 id] w fun e w' => e = .returned (.int .i64 (placeI id L)) ∧ Below w.heap.size w w' := by
  obtain ⟨a1, c1, rfl⟩ := h.form
  have H : Hid (ItsP w lo (.slice a1 L.length c1) L P) := h
  clear h
  go_enter Tryz.func21, Tryz.ntmps21
  go_wp2_with fail
  generalize hW : World.alloc _ _ = W0
  have b0 : Below w.heap.size w W0 := by rw [← hW]; exact below1 _ _
  clear hW
  go_loopw [10] (fun iv wr => ∃ k : Nat, k ≤ L.length ∧ iv = .int .i64 k ∧ Hid (findI id L 0 = findI id (L.drop k) k) ∧ Hid (Below w.heap.size w wr)) (fun iv _ => L.length - (intOf iv).toNat)
  case atStart => exact ⟨0, Nat.zero_le _, rfl, rfl, b0⟩
  case round =>
    obtain ⟨k, hk, rfl, HF, HB⟩ := hrel
    by_cases hlt : k < L.length
    · obtain ⟨g1, rfl, hg1⟩ : ∃ g, a1 = some ⟨g, 0, none⟩ ∧ g < w.heap.size := by
        rcases H.out.row.cases with ⟨_, hL0⟩ | ⟨g, cap, hv, hs⟩
        · have := congrArg List.length hL0; rw [irow_len H.out.len] at this; simp only [List.length_nil] at this; omega
        · injection hv with h1; exact ⟨g, h1, hs.lt⟩
      obtain ⟨x0, x1, x2, x3, x4, x5, x6, x7, x8⟩ := (H.out.cells k hlt).below HB.out hg1
      obtain ⟨p1, q1, e1⟩ := strs_formR (H.out.str k hlt)
      obtain ⟨p2, q2, e2⟩ := vds_form (H.out.vds k hlt)
      rw [e1] at x3
      rw [e2] at x5
      clear e1 e2
      have HN : Hid (L[k].id ≠ id → findI id L 0 = findI id (L.drop (k + 1)) (k + 1)) := fun h => HF.out.trans (find_no hlt h)
      have HY : Hid (L[k].id = id → findI id L 0 = some k) := fun h => HF.out.trans (find_yes hlt h)
      generalize L[k] = X at *
      by_cases hid : X.id = id
      · have hy := HY.out hid
        have HP : Hid (placeI id L = (k : Int)) := by show placeI id L = _; unfold placeI; rw [hy]
        have hb : (X.id == id) = true := beq_iff_eq.2 hid
        clear hy HY HN hid
        go_wp2
        go_ret
        rw [HP.out]
        exact ⟨rfl, HB.out.trans ((below1 _ _).mono HB.out.size)⟩
      · have HN2 : Hid (findI id L 0 = findI id (L.drop (k + 1)) (k + 1)) := HN.out hid
        have hb : (X.id == id) = false := beq_eq_false_iff_ne.2 hid
        clear HY HN hid
        go_wp2
        go_roundw
        case rel => exact ⟨k + 1, by omega, by go_num, HN2, HB.out.trans ((below1 _ _).mono HB.out.size)⟩
        case measure => simp [intOf]; omega
    · obtain rfl : k = L.length := by omega
      have HP : Hid (placeI id L = -1) := by
        have h1 := HF.out
        rw [List.drop_length] at h1
        show placeI id L = _
        unfold placeI
        rw [h1]; rfl
      clear HF
      go_wp2
      go_ret
      rw [HP.out]
      exact ⟨rfl, HB.out⟩

theorem any_no {L : List Vd} {k : Nat} (hk : k < L.length) (h : pend L[k] = false) : (L.drop k).any pend = (L.drop (k + 1)).any pend := by
  rw [List.drop_eq_getElem_cons hk, List.any_cons, h, Bool.false_or]
theorem any_yes {L : List Vd} {k : Nat} (hk : k < L.length) (h : pend L[k] = true) : (L.drop k).any pend = true := by
  rw [List.drop_eq_getElem_cons hk, List.any_cons, h, Bool.true_or]
set_option maxHeartbeats 2000000 in
set_option maxRecDepth 100000 in
theorem specAny (x : It) (rv vv : Value) (lo1 lo : Nat) (w : World) (h1 : Strs w lo1 rv x.R) (h : Vds w lo vv x.V) (hL : x.V.length ≤ 1048576) :
    Calls Tryz.prog 23 #[.agg #[.int .i64 x.id, .int .i64 x.born, .string x.fr, rv, .string x.bo, vv, .int .i64 x.tr, .int .i64 x.du, .bool x.bn]] w fun e w' => e = .returned (.bool (x.V.any pend)) ∧ Below w.heap.size w w' := by
  obtain ⟨xid, xborn, xfr, xR, xbo, V, xtr, xdu, xbn⟩ := x
  dsimp only at h1 h hL ⊢
  obtain ⟨a3, c3, rfl⟩ := row_formA h1
  obtain ⟨a1, c1, rfl⟩ := row_formA h
  have H : Hid (Vds w lo (.slice a1 V.length c1) V) := h
  clear h h1
  go_enter Tryz.func23, Tryz.ntmps23
  go_wp2_with fail
  generalize hW : World.alloc _ _ = W0
  have b0 : Below w.heap.size w W0 := by rw [← hW]; exact below1 _ _
  clear hW
  go_loopw [8] (fun iv wr => ∃ k : Nat, k ≤ V.length ∧ iv = .int .i64 k ∧ Hid (V.any pend = (V.drop k).any pend) ∧ Hid (Below w.heap.size w wr)) (fun iv _ => V.length - (intOf iv).toNat)
  case atStart => exact ⟨0, Nat.zero_le _, rfl, rfl, b0⟩
  case round =>
    obtain ⟨k, hk, rfl, HF, HB⟩ := hrel
    by_cases hlt : k < V.length
    · obtain ⟨g1, rfl, hg1, hC⟩ : ∃ g, a1 = some ⟨g, 0, none⟩ ∧ g < w.heap.size ∧ VdsAt w lo g c1 V := by
        rcases H.out.cases with ⟨_, hL0⟩ | ⟨g, cap, hv, hs⟩
        · rw [hL0] at hlt; exact absurd hlt (Nat.not_lt_zero _)
        · injection hv with h1 h2 h3; subst h3; exact ⟨g, h1, hs.lt, hs⟩
      obtain ⟨y0, y1, y2⟩ := hC.cell k hlt
      have x0 := (HB.out.cell (p := ⟨g1, k * 3, none⟩) hg1).trans y0
      have x1 := (HB.out.cell (p := ⟨g1, k * 3 + 1, none⟩) hg1).trans y1
      have x2 := (HB.out.cell (p := ⟨g1, k * 3 + 2, none⟩) hg1).trans y2
      have HN : Hid (pend V[k] = false → V.any pend = (V.drop (k + 1)).any pend) := fun h => HF.out.trans (any_no hlt h)
      have HY : Hid (pend V[k] = true → V.any pend = true) := fun h => HF.out.trans (any_yes hlt h)
      clear y0 y1 y2 hC
      generalize V[k] = X at *
      obtain ⟨X1, X2, X3⟩ := X
      dsimp only at x0 x1 x2
      go_wp2_with fail
      refine (specPend (X1, X2, X3) _).mono ?_
      rintro e w1 ⟨rfl, hb1⟩
      have B1 : Hid (Below w.heap.size w w1) := (HB.out.trans ((below1 _ _).mono HB.out.size)).trans (hb1.mono (by simp; have := HB.out.size; omega))
      clear hb1 x0 x1 x2
      cases hp : pend (X1, X2, X3)
      · have HN2 := HN.out hp
        have HN3 : Hid (V.any pend = (V.drop (k + 1)).any pend) := HN2
        have hp2 : (X1 == 0 || X1 == 2) = false := hp
        clear HN HY HN2 hp
        go_wp2
        go_roundw
        case rel => exact ⟨k + 1, by omega, by go_num, HN3, B1⟩
        case measure => simp [intOf]; omega
      · have HY3 : Hid (V.any pend = true) := HY.out hp
        have hp2 : (X1 == 0 || X1 == 2) = true := hp
        clear HN HY hp
        go_wp2
        go_ret
        rw [HY3.out]
        exact ⟨rfl, B1.out⟩
    · obtain rfl : k = V.length := by omega
      have HP : Hid (V.any pend = false) := by
        have h1 := HF.out
        rw [List.drop_length] at h1
        exact h1
      clear HF
      go_wp2
      go_ret
      rw [HP.out]
      exact ⟨rfl, HB.out⟩
end Go.Proofs.YtlolnfpfipnfeaaGreat
