import Derived.Test.YthblkfdgibonbaaItK
namespace Go.Proofs.Ythblkfdgibonbaa
open Go.ChangeShapes Go.WideShapes Go.ChangeAt Go.RowKit
attribute [local go_sem ↓] Go.wp_at_zero Go.wp_at_succ

/-- only blocks from lo up to hi change -/
structure Span (lo hi : Nat) (w w' : World) : Prop where
  os : w'.os = w.os
  tape : w'.tape = w.tape
  output : w'.output = w.output
  size : w.heap.size ≤ w'.heap.size
  block : ∀ k, k < w.heap.size → (k < lo ∨ hi ≤ k) → w'.heap[k]? = w.heap[k]?
theorem Span.refl (lo hi : Nat) (w : World) : Span lo hi w w := ⟨rfl, rfl, rfl, Nat.le_refl _, fun _ _ _ => rfl⟩
theorem Span.trans {lo hi : Nat} {w w1 w2 : World} (h : Span lo hi w w1) (k : Span lo hi w1 w2) : Span lo hi w w2 :=
  ⟨k.os.trans h.os, k.tape.trans h.tape, k.output.trans h.output, Nat.le_trans h.size k.size, fun b hb hl => (k.block b (Nat.lt_of_lt_of_le hb h.size) hl).trans (h.block b hb hl)⟩
theorem Span.of_below {lo hi : Nat} {w w1 : World} (h : Below w.heap.size w w1) : Span lo hi w w1 := ⟨h.os, h.tape, h.output, h.size, fun k hk _ => h.block k hk⟩
theorem Span.ofV {lo hi : Nat} {v : Value} {w w1 : World} (h : OffV v w w1) (hv : ∀ g, v.ownBlock = some g → lo ≤ g ∧ g < hi) : Span lo hi w w1 := by
  rcases h with ⟨b, hb, ho⟩ | hb
  · refine ⟨ho.os, ho.tape, ho.output, ho.size, fun k hk hl => ho.block k hk ?_⟩
    have := hv b hb
    omega
  · exact Span.of_below hb
theorem Span.set {lo hi : Nat} {w w1 : World} (h : Span lo hi w w1) {g o : Nat} (hg : lo ≤ g ∧ g < hi) (u : Value) : Span lo hi w (w1.setCell ⟨g, o, none⟩ u) :=
  ⟨by rw [← h.os]; rfl, by rw [← h.tape]; rfl, by rw [← h.output]; rfl, by simpa using h.size, fun k hk hl => by
    rw [Below.heap_setCell w1 ⟨g, o, none⟩ u k (by show k ≠ g; omega)]; exact h.block k hk hl⟩
theorem Span.below {lo hi : Nat} {w w1 : World} (h : Span lo hi w w1) (hl : lo ≤ w.heap.size) : Below lo w w1 :=
  ⟨h.os, h.tape, h.output, h.size, fun k hk => h.block k (by omega) (.inl hk)⟩
/-- a row outside stays -/
theorem Span.row {lo hi : Nat} {w w1 : World} (h : Span lo hi w w1) {l T k n : Nat} {v : Value} {xs : List Value} (hr : w.ownsRow l T k v n xs) (hv : ∀ g, v.ownBlock = some g → g < lo ∨ hi ≤ g) : w1.ownsRow l T k v n xs := by
  refine ⟨hr.1, ?_⟩
  rcases hr.2 with h0 | ⟨g, cap, cur, e, hl, hg, rest⟩
  · exact .inl h0
  · exact .inr ⟨g, cap, cur, e, hl, by rw [h.block g (Array.getElem?_eq_some_iff.1 hg).1 (hv g (by rw [e]; rfl))]; exact hg, rest⟩
theorem ItsP.scalS {w : World} {lo g m cap j i : Nat} {M : List It} {P : List (Value × Value)} {X : It} (h : ItsP w lo (.slice (some ⟨g, 0, none⟩) m cap) (M.set j X) P) (hj : j < M.length) (hi : i < 9) (x : It) (u : Value)
    (hx : ∀ p, ic x p = (ic X p).set i u) (hR : x.R = X.R) (hV : x.V = X.V) : ItsP (w.setCell ⟨g, j * 9 + i, none⟩ u) lo (.slice (some ⟨g, 0, none⟩) m cap) (M.set j x) P := by
  have := h.scal (j := j) (i := i) (by simpa using hj) hi x u (by rw [List.getElem_set_self]; exact hx _) (by rw [List.getElem_set_self]; exact hR) (by rw [List.getElem_set_self]; exact hV)
  rwa [List.set_set] at this
theorem ItsP.scal3 {w : World} {lo g m cap j : Nat} {M : List It} {P : List (Value × Value)} {X : It} (h : ItsP w lo (.slice (some ⟨g, 0, none⟩) m cap) (M.set j X) P) (hj : j < M.length) : Strs w lo (P[j]'(by have := h.len; simp at this; omega)).1 X.R ∧ Vds w lo (P[j]'(by have := h.len; simp at this; omega)).2 X.V := by
  have a := h.str j (by simpa using hj)
  have b := h.vds j (by simpa using hj)
  simp only [List.getElem_set_self] at a b
  exact ⟨a, b⟩
theorem ItsP.stRS {w w' : World} {lo g m cap j : Nat} {M : List It} {P : List (Value × Value)} {X : It} (h : ItsP w lo (.slice (some ⟨g, 0, none⟩) m cap) (M.set j X) P) (hj : j < M.length) (R : List ByteArray)
    (hs : Strs w' lo (P[j]'(by have := h.len; simp at this; omega)).1 R) (ho : OffV (P[j]'(by have := h.len; simp at this; omega)).1 w w') : ItsP w' lo (.slice (some ⟨g, 0, none⟩) m cap) (M.set j { X with R := R }) P := by
  have := h.stR (j := j) (by simpa using hj) R hs ho
  rwa [List.getElem_set_self, List.set_set] at this
theorem ItsP.vdVS {w w' : World} {lo g m cap j : Nat} {M : List It} {P : List (Value × Value)} {X : It} (h : ItsP w lo (.slice (some ⟨g, 0, none⟩) m cap) (M.set j X) P) (hj : j < M.length) (V : List Vd)
    (hs : Vds w' lo (P[j]'(by have := h.len; simp at this; omega)).2 V) (ho : OffV (P[j]'(by have := h.len; simp at this; omega)).2 w w') : ItsP w' lo (.slice (some ⟨g, 0, none⟩) m cap) (M.set j { X with V := V }) P := by
  have := h.vdV (j := j) (by simpa using hj) V hs ho
  rwa [List.getElem_set_self, List.set_set] at this
theorem ItsP.cellsS {w : World} {lo g m cap j : Nat} {M : List It} {P : List (Value × Value)} {X : It} (h : ItsP w lo (.slice (some ⟨g, 0, none⟩) m cap) (M.set j X) P) (hj : j < M.length) : ItC w g (j * 9) X (P[j]'(by have := h.len; simp at this; omega)).1 (P[j]'(by have := h.len; simp at this; omega)).2 := by
  have := h.cells j (by simpa using hj)
  rwa [List.getElem_set_self] at this

set_option maxHeartbeats 4000000 in
set_option maxRecDepth 100000 in
theorem markIts (v : Value) (L : List It) (P : List (Value × Value)) (lo hi k : Nat) (w : World) (h : ItsP w lo v L P) (hP : PB hi P) (hv : ∀ g, v.ownBlock = some g → g < hi) (hk : 1 ≤ k) (hm : inxs k L ≤ 16777216) :
    Calls Try.prog 42 #[v, .int .i64 k] w fun e w' => e = .returned (.int .i64 (inxs k L : Int)) ∧ ItsP w' lo v (imks k L) P ∧ Span lo hi w w' := by
  by_cases h0 : L.length = 0
  · obtain ⟨a1, c1, rfl⟩ := h.form
    have hL := List.eq_nil_of_length_eq_zero h0
    subst hL
    have H : Hid (ItsP w lo (.slice a1 ([] : List It).length c1) [] P) := h
    clear h h0 hv hP
    simp only [List.length_nil] at H ⊢
    go_enter Try.func42, Try.ntmps42
    go_wp2
    refine wp_loop_rounds 1 ?_; rw [rounds_succ]
    go_wp2
    go_ret
    exact ⟨rfl, H.out, Span.refl _ _ _⟩
  · obtain ⟨g, cap, hvv, s1⟩ : ∃ g cap, v = .slice (some ⟨g, 0, none⟩) L.length cap ∧ RwAt 9 w lo g cap (irow L P) := by
      rcases h.row.cases with ⟨_, hL⟩ | ⟨g, cap, hv, hs⟩
      · have := congrArg List.length hL; rw [irow_len h.len] at this; exact absurd this h0
      · rw [irow_len h.len] at hv; exact ⟨g, cap, hv, hs⟩
    subst hvv
    have hg : lo ≤ g ∧ g < hi := ⟨s1.lo, hv g rfl⟩
    have hgl := s1.lt
    have hl1 := s1.len
    have hm1 := s1.capm
    rw [irow_len h.len] at hl1
    unfold maxLen at hm1
    have hPl := h.len
    have HI : Hid (ItsP w lo (.slice (some ⟨g, 0, none⟩) L.length cap) (imks k (L.take 0) ++ L.drop 0) P) := h
    have HPB : Hid (PB hi P) := hP
    have HX : Hid (∀ j, j ≤ L.length → inxs k (L.take j) ≤ 16777216 ∧ k ≤ inxs k (L.take j)) := by
      intro j hj
      have e : L = L.take j ++ L.drop j := (List.take_append_drop j L).symm
      have h1 : inxs k L = inxs (inxs k (L.take j)) (L.drop j) := by conv => lhs; rw [e, inxs_app]
      have h2 := (inxs_eq (inxs k (L.take j)) (L.drop j)).2
      exact ⟨by omega, (inxs_eq k (L.take j)).2⟩
    clear h hP hv s1
    go_enter Try.func42, Try.ntmps42
    go_wp2
    go_loopw [1, 5] (fun kv iv wr => ∃ j : Nat, j ≤ L.length ∧ iv = .int .i64 j ∧ kv = .int .i64 (inxs k (L.take j) : Int) ∧ Hid (ItsP wr lo (.slice (some ⟨g, 0, none⟩) L.length cap) (imks k (L.take j) ++ L.drop j) P) ∧ Hid (Span lo hi w wr)) (fun _ iv _ => L.length - (intOf iv).toNat)
    case atStart => exact ⟨0, Nat.zero_le _, rfl, rfl, HI, Span.refl _ _ _⟩
    case round =>
      obtain ⟨j, hj, rfl, rfl, HS, HSp⟩ := hrel
      by_cases hlt : j < L.length
      · have hlen : (imks k (L.take j) ++ L.drop j).length = L.length := by rw [List.length_append, imks_len]; simp; omega
        obtain ⟨hst1, hst2⟩ := imks_step (k := k) hlt
        have hat := imks_at (k := k) hlt
        have HQ1 := (HX.out (j + 1) (by omega)).1
        have HQ0 := (HX.out j (by omega)).2
        rw [hst2] at HQ1
        have H0 : Hid (ItsP wr lo (.slice (some ⟨g, 0, none⟩) L.length cap) ((imks k (L.take j) ++ L.drop j).set j L[j]) P) := by
          show ItsP _ _ _ _ _
          have e : (imks k (L.take j) ++ L.drop j).set j L[j] = imks k (L.take j) ++ L.drop j := by
            conv => lhs; rw [← hat]
            exact List.set_getElem_self _
          rw [e]; exact HS.out
        clear HS hat
        have HFin : Hid ((imks k (L.take j) ++ L.drop j).set j (imk (inxs k (L.take j)) L[j]) = imks k (L.take (j + 1)) ++ L.drop (j + 1)) := hst1
        have HFin2 : Hid (inxs k (L.take (j + 1)) = inx (inxs k (L.take j)) L[j]) := hst2
        clear hst1 hst2
        generalize imks k (L.take j) ++ L.drop j = M at *
        generalize inxs k (L.take j) = q at *
        generalize L[j] = X at *
        have hjM : j < M.length := by omega
        obtain ⟨rv, hrv⟩ : ∃ rv, (P[j]'(by omega)).1 = rv := ⟨_, rfl⟩
        obtain ⟨vv, hvv⟩ : ∃ vv, (P[j]'(by omega)).2 = vv := ⟨_, rfl⟩
        have hrb : ∀ a, rv.ownBlock = some a → lo ≤ a ∧ a < hi := fun a ha => by
          subst hrv
          exact ⟨(row_lt (H0.out.scal3 hjM).1 a ha).1, (HPB.out _ (List.getElem_mem _)).1 a ha⟩
        have hvb : ∀ a, vv.ownBlock = some a → lo ≤ a ∧ a < hi := fun a ha => by
          subst hvv
          exact ⟨(row_lt (H0.out.scal3 hjM).2 a ha).1, (HPB.out _ (List.getElem_mem _)).2 a ha⟩
        have Hrb : Hid (∀ a, rv.ownBlock = some a → lo ≤ a ∧ a < hi) := hrb
        have Hvb : Hid (∀ a, vv.ownBlock = some a → lo ≤ a ∧ a < hi) := hvb
        obtain ⟨c0, c1, c2, c3, c4, c5, c6, c7, c8⟩ := H0.out.cellsS hjM
        rw [hrv] at c3
        rw [hvv] at c5
        obtain ⟨p1, q1, hrf⟩ := strs_formR (H0.out.scal3 hjM).1
        obtain ⟨p2, q2, hvf⟩ := vds_form (H0.out.scal3 hjM).2
        rw [hrv] at hrf
        rw [hvv] at hvf
        subst hrf hvf
        have fz : ∀ o, wr.frozen? ⟨g, o, none⟩ = false := H0.out.row.at.1.free
        have hgr : g < wr.heap.size := H0.out.row.at.1.lt
        unfold inx at HQ1
        clear hrb hvb
        go_wp2_with fail
        generalize hW : World.setCell (World.setCell wr _ _) _ _ = W1
        have H1 : Hid (ItsP W1 lo (.slice (some ⟨g, 0, none⟩) L.length cap) (M.set j { X with id := (q : Int), born := (q : Int) + 1 }) P) := by
          show ItsP _ _ _ _ _
          rw [← hW]
          exact (H0.out.scalS hjM (i := 0) (by decide) { X with id := (q : Int) } _ (fun _ => rfl) rfl rfl).scalS hjM (i := 1) (by decide) _ _ (fun _ => rfl) rfl rfl
        have S1 : Hid (Span lo hi w W1) := by show Span _ _ _ _; rw [← hW]; exact (HSp.out.set hg _).set hg _
        clear hW H0 HSp
        clear c0 c1 c2 c3 c4 c5 c6 c7 c8 fz
        refine (markTextI _ _ (by omega) (by omega)).mono ?_
        rintro e w1 ⟨rfl, hb1⟩
        rw [show ((q : Int) + 1 + 1).toNat = q + 2 by omega]
        have H2 : Hid (ItsP w1 lo (.slice (some ⟨g, 0, none⟩) L.length cap) (M.set j { X with id := (q : Int), born := (q : Int) + 1 }) P) := H1.out.below hb1 (Nat.le_refl _)
        have S2 : Hid (Span lo hi w w1) := S1.out.trans (Span.of_below hb1)
        clear hb1 H1 S1
        obtain ⟨c0, c1, c2, c3, c4, c5, c6, c7, c8⟩ := H2.out.cellsS hjM
        rw [hrv] at c3
        rw [hvv] at c5
        have fz : ∀ o, w1.frozen? ⟨g, o, none⟩ = false := H2.out.row.at.1.free
        go_wp2_with fail
        generalize hW : World.setCell w1 _ _ = W2
        have H3 : Hid (ItsP W2 lo (.slice (some ⟨g, 0, none⟩) L.length cap) (M.set j { X with id := (q : Int), born := (q : Int) + 1, fr := markT (q + 2) }) P) := by
          show ItsP _ _ _ _ _
          rw [← hW]
          exact H2.out.scalS hjM (i := 2) (by decide) _ _ (fun _ => rfl) rfl rfl
        have S3 : Hid (Span lo hi w W2) := by show Span _ _ _ _; rw [← hW]; exact S2.out.set hg _
        clear hW H2 S2
        clear c0 c1 c2 c3 c4 c5 c6 c7 c8 fz
        rw [show ((q : Int) + 1 + 1 + 1) = ((q + 3 : Nat) : Int) by omega]
        have hs3 := (H3.out.scal3 hjM).1
        rw [hrv] at hs3
        refine (markStrsO _ X.R lo (q + 3) _ hs3 (by omega) (by omega)).mono ?_
        rintro e w2 ⟨rfl, hs4, ho4⟩
        have H4 : Hid (ItsP w2 lo (.slice (some ⟨g, 0, none⟩) L.length cap) (M.set j { X with id := (q : Int), born := (q : Int) + 1, fr := markT (q + 2), R := marks (q + 3) X.R.length }) P) := by
          refine H3.out.stRS hjM _ ?_ ?_
          · rw [hrv]; exact hs4
          · rw [hrv]; exact ho4
        have S4 : Hid (Span lo hi w w2) := S3.out.trans (Span.ofV ho4 Hrb.out)
        clear hs3 hs4 ho4 H3 S3
        obtain ⟨c0, c1, c2, c3, c4, c5, c6, c7, c8⟩ := H4.out.cellsS hjM
        rw [hrv] at c3
        rw [hvv] at c5
        have fz : ∀ o, w2.frozen? ⟨g, o, none⟩ = false := H4.out.row.at.1.free
        go_wp2_with fail
        refine (markTextI _ _ (by omega) (by omega)).mono ?_
        rintro e w3 ⟨rfl, hb3⟩
        rw [show ((q : Int) + 3 + (X.R.length : Int)).toNat = q + 3 + X.R.length by omega]
        have H5 : Hid (ItsP w3 lo (.slice (some ⟨g, 0, none⟩) L.length cap) (M.set j { X with id := (q : Int), born := (q : Int) + 1, fr := markT (q + 2), R := marks (q + 3) X.R.length }) P) := H4.out.below hb3 (Nat.le_refl _)
        have S5 : Hid (Span lo hi w w3) := S4.out.trans (Span.of_below hb3)
        clear hb3 H4 S4
        clear c0 c1 c2 c3 c4 c5 c6 c7 c8 fz
        obtain ⟨c0, c1, c2, c3, c4, c5, c6, c7, c8⟩ := H5.out.cellsS hjM
        rw [hrv] at c3
        rw [hvv] at c5
        have fz : ∀ o, w3.frozen? ⟨g, o, none⟩ = false := H5.out.row.at.1.free
        go_wp2_with fail
        generalize hW : World.setCell w3 _ _ = W4
        have H6 : Hid (ItsP W4 lo (.slice (some ⟨g, 0, none⟩) L.length cap) (M.set j { X with id := (q : Int), born := (q : Int) + 1, fr := markT (q + 2), R := marks (q + 3) X.R.length, bo := markT (q + 3 + X.R.length) }) P) := by
          show ItsP _ _ _ _ _
          rw [← hW]
          exact H5.out.scalS hjM (i := 4) (by decide) _ _ (fun _ => rfl) rfl rfl
        have S6 : Hid (Span lo hi w W4) := by show Span _ _ _ _; rw [← hW]; exact S5.out.set hg _
        clear hW H5 S5
        clear c0 c1 c2 c3 c4 c5 c6 c7 c8 fz
        rw [show ((q : Int) + 3 + (X.R.length : Int) + 1) = ((q + 4 + X.R.length : Nat) : Int) by omega]
        have hs6 := (H6.out.scal3 hjM).2
        rw [hvv] at hs6
        refine (markVds _ X.V lo (q + 4 + X.R.length) _ hs6 (by omega) (by omega)).mono ?_
        rintro e w4 ⟨rfl, hs7, ho7⟩
        have H7 : Hid (ItsP w4 lo (.slice (some ⟨g, 0, none⟩) L.length cap) (M.set j { X with id := (q : Int), born := (q : Int) + 1, fr := markT (q + 2), R := marks (q + 3) X.R.length, bo := markT (q + 3 + X.R.length), V := vmarks (q + 4 + X.R.length) X.V.length }) P) := by
          refine H6.out.vdVS hjM _ ?_ ?_
          · rw [hvv]; exact hs7
          · rw [hvv]; exact ho7
        have S7 : Hid (Span lo hi w w4) := S6.out.trans (Span.ofV ho7 Hvb.out)
        clear hs6 hs7 ho7 H6 S6
        obtain ⟨c0, c1, c2, c3, c4, c5, c6, c7, c8⟩ := H7.out.cellsS hjM
        rw [hrv] at c3
        rw [hvv] at c5
        have fz : ∀ o, w4.frozen? ⟨g, o, none⟩ = false := H7.out.row.at.1.free
        have hbn : ((((q : Int) + 4 + (X.R.length : Int) + 3 * (X.V.length : Int) + 1 + 1) % 3 == 0) : Bool) = ((q + 6 + X.R.length + 3 * X.V.length) % 3 == 0 : Bool) := by
          rw [Bool.eq_iff_iff, beq_iff_eq, beq_iff_eq]; omega
        obtain ⟨bb, Hbb⟩ : ∃ bb : Bool, Hid (((q + 6 + X.R.length + 3 * X.V.length) % 3 == 0 : Bool) = bb) := ⟨_, rfl⟩
        rw [Hbb.out] at hbn
        go_wp2
        go_roundw
        case rel =>
          refine ⟨j + 1, by omega, by go_num, ?_, ?_, ((S7.out.set hg _).set hg _).set hg _⟩
          · rw [HFin2.out]
            unfold inx
            go_num
          · rw [← HFin.out]
            have h9 := (((H7.out.scalS hjM (i := 6) (by decide) { X with id := (q : Int), born := (q : Int) + 1, fr := markT (q + 2), R := marks (q + 3) X.R.length, bo := markT (q + 3 + X.R.length), V := vmarks (q + 4 + X.R.length) X.V.length, tr := (q : Int) + 4 + (X.R.length : Int) + 3 * (X.V.length : Int) } (.int .i64 ((q : Int) + 4 + (X.R.length : Int) + 3 * (X.V.length : Int))) (fun _ => rfl) rfl rfl).scalS hjM (i := 7) (by decide) { X with id := (q : Int), born := (q : Int) + 1, fr := markT (q + 2), R := marks (q + 3) X.R.length, bo := markT (q + 3 + X.R.length), V := vmarks (q + 4 + X.R.length) X.V.length, tr := (q : Int) + 4 + (X.R.length : Int) + 3 * (X.V.length : Int), du := (q : Int) + 4 + (X.R.length : Int) + 3 * (X.V.length : Int) + 1 } (.int .i64 ((q : Int) + 4 + (X.R.length : Int) + 3 * (X.V.length : Int) + 1)) (fun _ => rfl) rfl rfl).scalS hjM (i := 8) (by decide) (imk q X) (.bool bb) (fun p => ?_) rfl rfl)
            · exact h9
            · unfold ic imk
              rw [Hbb.out]
              have e1 : ((q + 1 : Nat) : Int) = (q : Int) + 1 := by omega
              have e2 : ((q + 4 + X.R.length + 3 * X.V.length : Nat) : Int) = (q : Int) + 4 + (X.R.length : Int) + 3 * (X.V.length : Int) := by omega
              have e3 : ((q + 5 + X.R.length + 3 * X.V.length : Nat) : Int) = (q : Int) + 4 + (X.R.length : Int) + 3 * (X.V.length : Int) + 1 := by omega
              dsimp only
              rw [e1, e2, e3]
              rfl
        case measure => simp [intOf]; omega
      · obtain rfl : j = L.length := by omega
        go_wp2
        go_ret
        have e := HS.out
        rw [List.take_length, List.drop_length, List.append_nil] at e
        rw [List.take_length]
        exact ⟨rfl, e, HSp.out⟩

set_option maxHeartbeats 2000000 in
set_option maxRecDepth 100000 in
theorem markQu (v : Value) (nx : Int) (L : List It) (P : List (Value × Value)) (lo hi k : Nat) (w : World) (h : ItsP w lo v L P) (hP : PB hi P) (hv : ∀ g, v.ownBlock = some g → g < hi) (hk : 1 ≤ k) (hm : inxs k L ≤ 16777216) :
    Calls Try.prog 19 #[.agg #[v, .int .i64 nx], .int .i64 k] w fun e w' => e = .returned (.int .i64 (inxs k L : Int)) ∧ ItsP w' lo v (imks k L) P ∧ Span lo hi w w' := by
  have H : Hid (ItsP w lo v L P) := h
  have HP : Hid (PB hi P) := hP
  have HV : Hid (∀ g, v.ownBlock = some g → g < hi) := hv
  obtain ⟨a1, c1, rfl⟩ := h.form
  clear h hP hv
  go_enter Try.func19, Try.ntmps19
  go_wp2_with fail
  generalize hW : w.alloc _ = W
  have bw : Below w.heap.size w W := by rw [← hW]; exact below1 _ _
  clear hW
  refine (markIts _ L P lo hi k _ (H.out.below bw (Nat.le_refl _)) HP.out HV.out hk hm).mono ?_
  rintro e w1 ⟨rfl, h1, s1⟩
  have H1 : Hid (ItsP w1 lo (.slice a1 L.length c1) (imks k L) P) := h1
  have S1 : Hid (Span lo hi w w1) := (Span.of_below bw).trans s1
  clear h1 s1 bw
  go_wp2
  go_ret
  exact ⟨rfl, H1.out, S1.out⟩
end Go.Proofs.Ythblkfdgibonbaa
