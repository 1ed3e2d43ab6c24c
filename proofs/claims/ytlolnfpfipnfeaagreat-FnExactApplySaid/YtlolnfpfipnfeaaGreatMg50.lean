import Derived.Test.YtlolnfpfipnfeaaGreatMg29
import Derived.Test.YtlolnfpfipnfeaaGreatMg49
import Derived.Deep.RegionWith
import Derived.Deep.DrawnRows
import Derived.Test.YtlolnfpfipnfeaaGreatMg48
namespace Go.Proofs.YtlolnfpfipnfeaaGreat
open Go.ChangeShapes Go.WideShapes Go.ChangeAt Go.RowKit
attribute [local go_sem ↓] Go.wp_at_zero Go.wp_at_succ

theorem imks_get : ∀ (k : Nat) (L : List It) (j : Nat) (hj : j < L.length), (imks k L)[j]'(by rw [imks_len]; exact hj) = imk (inxs k (L.take j)) L[j]
  | k, x :: L, 0, _ => rfl
  | k, x :: L, j + 1, hj => by
    have := imks_get (inx k x) L j (by simpa using hj)
    simpa [imks, inxs] using this

set_option maxHeartbeats 4000000 in
set_option maxRecDepth 100000 in
theorem heldIts (v : Value) (L : List It) (P : List (Value × Value)) (lo k : Nat) (w : World) (h : ItsP w lo v (imks k L) P) (hk : 1 ≤ k) (hm : inxs k L ≤ 16777216) :
    Calls Tryz.prog 34 #[v, .int .i64 k] w fun e w' => e = .returned (.int .i64 (inxs k L : Int)) ∧ Below w.heap.size w w' := by
  by_cases h0 : L.length = 0
  · obtain ⟨a1, c1, rfl⟩ := h.form
    have hL := List.eq_nil_of_length_eq_zero h0
    subst hL
    clear h h0
    rw [imks_len]
    simp only [List.length_nil]
    go_enter Tryz.func34, Tryz.ntmps34
    go_wp2
    refine wp_loop_rounds 1 ?_; rw [rounds_succ]
    go_wp2
    go_ret
    exact ⟨rfl, Below.refl _ _⟩
  · obtain ⟨g, cap, hvv, s1⟩ : ∃ g cap, v = .slice (some ⟨g, 0, none⟩) L.length cap ∧ RwAt 9 w lo g cap (irow (imks k L) P) := by
      rcases h.row.cases with ⟨_, hL⟩ | ⟨g, cap, hv, hs⟩
      · have := congrArg List.length hL; rw [irow_len h.len, imks_len] at this; exact absurd this h0
      · rw [irow_len h.len, imks_len] at hv; exact ⟨g, cap, hv, hs⟩
    subst hvv
    have hgl := s1.lt
    have hl1 := s1.len
    have hm1 := s1.capm
    rw [irow_len h.len, imks_len] at hl1
    unfold maxLen at hm1
    have hPl := h.len
    rw [imks_len] at hPl
    have HI : Hid (ItsP w lo (.slice (some ⟨g, 0, none⟩) L.length cap) (imks k L) P) := h
    have HX : Hid (∀ j, j ≤ L.length → inxs k (L.take j) ≤ 16777216 ∧ k ≤ inxs k (L.take j)) := by
      intro j hj
      have e : L = L.take j ++ L.drop j := (List.take_append_drop j L).symm
      have h1 : inxs k L = inxs (inxs k (L.take j)) (L.drop j) := by conv => lhs; rw [e, inxs_app]
      have h2 := (inxs_eq (inxs k (L.take j)) (L.drop j)).2
      exact ⟨by omega, (inxs_eq k (L.take j)).2⟩
    clear h s1
    go_enter Tryz.func34, Tryz.ntmps34
    go_wp2
    go_loopw [1, 5] (fun kv iv wr => ∃ j : Nat, j ≤ L.length ∧ iv = .int .i64 j ∧ kv = .int .i64 (inxs k (L.take j) : Int) ∧ Hid (Below w.heap.size w wr)) (fun _ iv _ => L.length - (intOf iv).toNat)
    case atStart => exact ⟨0, Nat.zero_le _, rfl, rfl, Below.refl _ _⟩
    case round =>
      obtain ⟨j, hj, rfl, rfl, HB⟩ := hrel
      by_cases hlt : j < L.length
      · have hjm : j < (imks k L).length := by rw [imks_len]; exact hlt
        have hst2 := (imks_step (k := k) hlt).2
        have HQ1 := (HX.out (j + 1) (by omega)).1
        have HQ0 := (HX.out j (by omega)).2
        rw [hst2] at HQ1
        have HFin2 : Hid (inxs k (L.take (j + 1)) = inxs k (L.take j) + 7 + L[j].R.length + 3 * L[j].V.length) := hst2
        have hC := (HI.out.cells j hjm).below HB.out hgl
        have hS := HI.out.str j hjm
        have hV := HI.out.vds j hjm
        rw [imks_get k L j hlt] at hC hS hV
        clear hst2
        generalize inxs k (L.take j) = q at *
        generalize L[j] = X at *
        obtain ⟨rv, hrv⟩ : ∃ rv, (P[j]'(by omega)).1 = rv := ⟨_, rfl⟩
        obtain ⟨vv, hvv⟩ : ∃ vv, (P[j]'(by omega)).2 = vv := ⟨_, rfl⟩
        rw [hrv] at hC hS
        rw [hvv] at hC hV
        unfold imk at hC hS hV
        have HS : Hid (Strs w lo rv (marks (q + 3) X.R.length)) := hS
        have HV : Hid (Vds w lo vv (vmarks (q + 4 + X.R.length) X.V.length)) := hV
        obtain ⟨p1, q1, hrf⟩ := strs_formR hS
        obtain ⟨p2, q2, hvf⟩ := vds_form hV
        rw [marks_length] at hrf
        rw [vmarks_length] at hvf
        subst hrf hvf
        clear hS hV hrv hvv
        obtain ⟨c0, c1, c2, c3, c4, c5, c6, c7, c8⟩ := hC
        dsimp only at c0 c1 c2 c3 c4 c5 c6 c7 c8
        unfold inx at HQ1
        generalize X.R.length = nR at *
        generalize X.V.length = nV at *
        have HC : Hid (∀ wx, Below w.heap.size w wx → ∀ o, wx.cell? ⟨g, o, none⟩ = w.cell? ⟨g, o, none⟩) := fun wx hx o => hx.cell (p := ⟨g, o, none⟩) hgl
        have hbn : ((((q : Int) + 4 + (nR : Int) + 3 * (nV : Int) + 1 + 1) % 3 == 0) : Bool) = ((q + 6 + nR + 3 * nV) % 3 == 0 : Bool) := by
          rw [Bool.eq_iff_iff, beq_iff_eq, beq_iff_eq]; omega
        obtain ⟨bb, Hbb⟩ : ∃ bb : Bool, Hid (((q + 6 + nR + 3 * nV) % 3 == 0 : Bool) = bb) := ⟨_, rfl⟩
        rw [Hbb.out] at hbn c8
        have hgr : g < wr.heap.size := by have := HB.out.size; omega
        have hk1 : ((q : Int) + 1 + 1).toNat = q + 2 := by omega
        have hk2 : ((q : Int) + 3 + (nR : Int)).toNat = q + 3 + nR := by omega
        go_wp2_with fail
        go_region_with (go_at_call 54; refine (markTextI _ _ (by omega) (by omega)).mono ?_; rw [hk1]; rintro e w1 ⟨rfl, hb1⟩; have d2 := (hb1.cell (p := ⟨g, j * 9 + 2, none⟩) hgr).trans c2)
        all_goals
          have B1 : Hid (Below w.heap.size w w1) := HB.out.trans (((Below.refl wr.heap.size wr).drew.trans hb1).mono HB.out.size)
          have d3 : w1.cell? ⟨g, j * 9 + 3, none⟩ = some (.slice p1 nR q1) := ((Below.refl wr.heap.size wr).drew.trans hb1).cell (p := ⟨g, j * 9 + 3, none⟩) hgr |>.trans c3
          clear hb1 d2
          go_wp2_with fail
          rw [show ((q : Int) + 1 + 1 + 1) = ((q + 3 : Nat) : Int) by omega]
          refine (heldStrs _ nR lo (q + 3) _ (strs_below HS.out B1.out (Nat.le_refl _)) (by omega) (by omega)).mono ?_
          rintro e w2 ⟨rfl, hb2⟩
          have B2 : Hid (Below w.heap.size w w2) := B1.out.trans (hb2.mono B1.out.size)
          have d4 : w2.cell? ⟨g, j * 9 + 4, none⟩ = some (.string (markT (q + 3 + nR))) := (HC.out w2 B2.out _).trans ((HC.out wr HB.out _).symm.trans c4)
          have hg2 : g < w2.heap.size := by have := B2.out.size; omega
          clear hb2 d3
          go_wp2_with fail
          go_region_with (go_at_call 54; refine (markTextI _ _ (by omega) (by omega)).mono ?_; rw [hk2]; rintro e w3 ⟨rfl, hb3⟩; have e4 := (hb3.cell (p := ⟨g, j * 9 + 4, none⟩) hg2).trans d4)
          all_goals
            have B3 : Hid (Below w.heap.size w w3) := B2.out.trans (((Below.refl w2.heap.size w2).drew.trans hb3).mono B2.out.size)
            have d5 : w3.cell? ⟨g, j * 9 + 5, none⟩ = some (.slice p2 nV q2) := (HC.out w3 B3.out _).trans ((HC.out wr HB.out _).symm.trans c5)
            clear hb3 e4 d4
            go_wp2_with fail
            rw [show ((q : Int) + 3 + (nR : Int) + 1) = ((q + 4 + nR : Nat) : Int) by omega]
            refine (heldVds _ nV lo (q + 4 + nR) _ (vds_below HV.out B3.out (Nat.le_refl _)) (by omega) (by omega)).mono ?_
            rintro e w4 ⟨rfl, hb4⟩
            have B4 : Hid (Below w.heap.size w w4) := B3.out.trans (hb4.mono B3.out.size)
            have d6 : w4.cell? ⟨g, j * 9 + 6, none⟩ = some (.int .i64 ((q : Int) + 4 + (nR : Int) + 3 * (nV : Int))) := (HC.out w4 B4.out _).trans ((HC.out wr HB.out _).symm.trans (c6.trans (by first | rfl | (congr 2; omega))))
            have d7 : w4.cell? ⟨g, j * 9 + 7, none⟩ = some (.int .i64 ((q : Int) + 4 + (nR : Int) + 3 * (nV : Int) + 1)) := (HC.out w4 B4.out _).trans ((HC.out wr HB.out _).symm.trans (c7.trans (by first | rfl | (congr 2; omega))))
            have d8 : w4.cell? ⟨g, j * 9 + 8, none⟩ = some (.bool bb) := (HC.out w4 B4.out _).trans ((HC.out wr HB.out _).symm.trans c8)
            clear hb4 d5 c0 c1 c2 c3 c4 c5 c6 c7 c8
            go_wp2
            go_roundw
            case rel =>
              refine ⟨j + 1, by omega, by go_num, ?_, B4⟩
              rw [HFin2.out]
              go_num
            case measure => simp [intOf]; omega
      · obtain rfl : j = L.length := by omega
        go_wp2
        go_ret
        rw [List.take_length]
        exact ⟨rfl, HB.out⟩
set_option maxHeartbeats 2000000 in
set_option maxRecDepth 100000 in
theorem heldQu (v : Value) (nx : Int) (L : List It) (P : List (Value × Value)) (lo k : Nat) (w : World) (h : ItsP w lo v (imks k L) P) (hk : 1 ≤ k) (hm : inxs k L ≤ 16777216) :
    Calls Tryz.prog 14 #[.agg #[v, .int .i64 nx], .int .i64 k] w fun e w' => e = .returned (.int .i64 (inxs k L : Int)) ∧ Below w.heap.size w w' := by
  have H : Hid (ItsP w lo v (imks k L) P) := h
  obtain ⟨a1, c1, rfl⟩ := h.form
  clear h
  go_enter Tryz.func14, Tryz.ntmps14
  go_wp2_with fail
  generalize hW : w.alloc _ = W
  have bw : Below w.heap.size w W := by rw [← hW]; exact below1 _ _
  clear hW
  refine (heldIts _ L P lo k _ (H.out.below bw (Nat.le_refl _)) hk hm).mono ?_
  rintro e w1 ⟨rfl, hb1⟩
  have b1 : Below w.heap.size w w1 := bw.trans (hb1.mono bw.size)
  have hmi : ¬ ((inxs k L : Nat) : Int) < 0 := by omega

  clear hb1
  go_wp2
  go_ret
  exact ⟨rfl, b1⟩
end Go.Proofs.YtlolnfpfipnfeaaGreat
namespace Go.Proofs.YtlolnfpfipnfeaaGreat
open Go.ChangeShapes Go.WideShapes Go.ChangeAt Go.RowKit

theorem alloc_ltA (w : World) (o : Obj) : w.heap.size < (w.alloc o).heap.size := by simp
theorem NeB.lt {w : World} {lo b : Nat} {v : Value} {L : List It} {P : List (Value × Value)} (h : ItsP w lo v L P) (hb : b < lo) : NeB b v P :=
  ⟨fun g hg => by have := (h.row.own g hg).1; omega, fun p hp => by
    obtain ⟨j, hj, rfl⟩ := List.getElem_of_mem hp
    have hj2 : j < L.length := by have := h.len; omega
    exact ⟨fun g hg => by have := (row_lt (h.str j hj2) g hg).1; omega, fun g hg => by have := (row_lt (h.vds j hj2) g hg).1; omega⟩⟩
/-- a queue that an Apply has answered with, in a variable of the law's -/
def QR (N B : Nat) (L : List It) (nx : Int) (u : Value) (P : List (Value × Value)) (w0 w : World) : Prop := N ≤ B ∧ Blk B #[u, .int .i64 nx] w ∧ ItsP w N u L P ∧ NeB B u P ∧ Below N w0 w

theorem Blk.spanA {b lo hi : Nat} {X : Array Value} {w w1 : World} (h : Blk b X w) (hs : Span lo hi w w1) (hb : b < lo ∨ hi ≤ b) : Blk b X w1 :=
  ⟨Nat.lt_of_lt_of_le h.lt hs.size, fun i => (World.cell?_of_block (w := w) (hs.block b h.lt hb)).trans (h.cell i), fun o => (World.frozen?_of_block (w := w) (hs.block b h.lt hb)).trans (h.free o)⟩

/-- a queue in a variable: its box b, its rows from l up to h -/
structure QI (l h b : Nat) (u : Value) (nx : Int) (L : List It) (P : List (Value × Value)) (w : World) : Prop where
  box : Blk b #[u, .int .i64 nx] w
  its : ItsP w l u L P
  pb : PB h P
  own : ∀ g, u.ownBlock = some g → g < h
theorem QI.below {l h b : Nat} {u : Value} {nx : Int} {L : List It} {P : List (Value × Value)} {w w' : World} (q : QI l h b u nx L P w) (hb : Below w.heap.size w w') : QI l h b u nx L P w' :=
  ⟨q.box.below hb, q.its.below hb (Nat.le_refl _), q.pb, q.own⟩
theorem QI.span {l h b lo hi : Nat} {u : Value} {nx : Int} {L : List It} {P : List (Value × Value)} {w w' : World} (q : QI l h b u nx L P w) (hs : Span lo hi w w') (hd : h ≤ lo ∨ hi ≤ l) (hb : b < lo ∨ hi ≤ b) : QI l h b u nx L P w' := by
  have hl := q.its.len
  refine ⟨q.box.spanA hs hb, ⟨hl, ?_, fun i hi => ?_, fun i hi => ?_, q.its.d1, q.its.d2⟩, q.pb, q.own⟩
  · refine ⟨hs.row q.its.row.1 (fun g hg => ?_), q.its.row.2⟩
    have h1 := (q.its.row.own g hg).1
    have h2 := q.own g hg
    omega
  · refine hs.row (q.its.str i hi) (fun g hg => ?_)
    have h1 := (row_lt (q.its.str i hi) g hg).1
    have h2 := (q.pb _ (List.getElem_mem (l := P) (n := i) (by omega))).1 g hg
    omega
  · refine hs.row (q.its.vds i hi) (fun g hg => ?_)
    have h1 := (row_lt (q.its.vds i hi) g hg).1
    have h2 := (q.pb _ (List.getElem_mem (l := P) (n := i) (by omega))).2 g hg
    omega
theorem QI.ofR {N B : Nat} {L : List It} {nx : Int} {u : Value} {P : List (Value × Value)} {w0 w : World} (h : QR N B L nx u P w0 w) : QI N w.heap.size B u nx L P w :=
  ⟨h.2.1, h.2.2.1, PB.of h.2.2.1, fun g hg => (h.2.2.1.row.own g hg).2⟩
theorem QI.new {w w' : World} {l : Nat} {u : Value} {nx : Int} {L : List It} {P : List (Value × Value)} (h : ItsP w l u L P) (hb : Below w.heap.size w w') (hB : Blk w.heap.size #[u, .int .i64 nx] w') : QI l w.heap.size w.heap.size u nx L P w' :=
  ⟨hB, h.below hb (Nat.le_refl _), PB.of h, fun g hg => (h.row.own g hg).2⟩
/-- a record in a variable -/
structure RI (l h b : Nat) (u : Value) (r : Rec) (w : World) : Prop where
  box : Blk b #[.int .i64 r.kind, .int .i64 r.mid, .int .i64 r.born, .string r.fr, u, .string r.bo, .int .i64 r.id, .int .i64 r.rc, .int .i64 r.vk, .int .i64 r.vc, .string r.vt, .int .i64 r.tr, .int .i64 r.due] w
  str : Strs w l u r.R
  own : ∀ g, u.ownBlock = some g → l ≤ g ∧ g < h
theorem RI.below {l h b : Nat} {u : Value} {r : Rec} {w w' : World} (q : RI l h b u r w) (hb : Below w.heap.size w w') : RI l h b u r w' :=
  ⟨q.box.below hb, strs_below q.str hb (Nat.le_refl _), q.own⟩
theorem RI.span {l h b lo hi : Nat} {u : Value} {r : Rec} {w w' : World} (q : RI l h b u r w) (hs : Span lo hi w w') (hd : h ≤ lo ∨ hi ≤ l) (hb : b < lo ∨ hi ≤ b) : RI l h b u r w' :=
  ⟨q.box.spanA hs hb, hs.row q.str (fun g hg => by have := q.own g hg; omega), q.own⟩
theorem RI.new {w w' : World} {l : Nat} {u : Value} {r : Rec} (h : Strs w l u r.R) (hb : Below w.heap.size w w') (hB : Blk w.heap.size #[.int .i64 r.kind, .int .i64 r.mid, .int .i64 r.born, .string r.fr, u, .string r.bo, .int .i64 r.id, .int .i64 r.rc, .int .i64 r.vk, .int .i64 r.vc, .string r.vt, .int .i64 r.tr, .int .i64 r.due] w') : RI l w.heap.size w.heap.size u r w' :=
  ⟨hB, strs_below h hb (Nat.le_refl _), fun g hg => row_lt h g hg⟩
end Go.Proofs.YtlolnfpfipnfeaaGreat
