import Derived.Test.YtngcjlghjidnjaaGreatDoorMg25
import Derived.Test.YtngcjlghjidnjaaGreatDoorMg19
namespace Go.Proofs.YtngcjlghjidnjaaGreatDoor
open Go.ChangeShapes Go.WideShapes Go.ChangeAt Go.RowKit

/-- the first k decided -/
def decP (v : Vd) (V : List Vd) (k : Nat) : List Vd := (V.take k).map (dec1 v) ++ V.drop k
theorem decP_zero (v : Vd) (V : List Vd) : decP v V 0 = V := by simp [decP]
theorem decP_end (v : Vd) (V : List Vd) : decP v V V.length = decV v V := by simp [decP, decV]
theorem decP_len (v : Vd) (V : List Vd) (k : Nat) : (decP v V k).length = V.length := by simp [decP]; omega
theorem decP_get {v : Vd} {V : List Vd} {k : Nat} (h : k < V.length) : (decP v V k)[k]'(by rw [decP_len]; exact h) = V[k] := by
  simp only [decP]
  rw [List.getElem_append_right (by simp; omega)]
  simp [Nat.min_eq_left (Nat.le_of_lt h)]
theorem decP_step {v : Vd} {V : List Vd} {k : Nat} (h : k < V.length) : (decP v V k).set k (dec1 v V[k]) = decP v V (k + 1) := by
  unfold decP
  rw [List.set_append_right _ _ (by simp; omega), List.take_succ_eq_append_getElem h, List.map_append]
  have : k - ((V.take k).map (dec1 v)).length = 0 := by simp; omega
  rw [this, List.drop_eq_getElem_cons h, List.set_cons_zero, List.append_assoc]
  rfl
theorem decP_skip {v : Vd} {V : List Vd} {k : Nat} (h : k < V.length) (h0 : V[k].1 ≠ 0) : decP v V k = decP v V (k + 1) := by
  rw [← decP_step h, dec1, if_neg h0]
  have := decP_get (v := v) h
  rw [← this]
  simp
theorem decP_put {v : Vd} {V : List Vd} {k : Nat} (h : k < V.length) (h0 : V[k].1 = 0) : (decP v V k).set k v = decP v V (k + 1) := by
  rw [← decP_step h, dec1, if_pos h0]
theorem vds_put {w : World} {lo g n cap j : Nat} {M : List Vd} (h : Vds w lo (.slice (some ⟨g, 0, none⟩) n cap) M) (hj : j < M.length) (x : Vd) :
    Vds (((w.setCell ⟨g, j * 3, none⟩ (.int .i64 x.1)).setCell ⟨g, j * 3 + 1, none⟩ (.int .i64 x.2.1)).setCell ⟨g, j * 3 + 2, none⟩ (.string x.2.2)) lo (.slice (some ⟨g, 0, none⟩) n cap) (M.set j x) := by
  have hn := h.at.2
  subst hn
  have := vds_set (vds_set (vds_set h (i := j * 3) (.int .i64 x.1)) (i := j * 3 + 1) (.int .i64 x.2.1)) (i := j * 3 + 2) (.string x.2.2)
  rw [vrow_set M j x hj] at this
  unfold Vds
  rw [List.length_set]
  exact this
theorem Blk.offL {b : Nat} {X : Array Value} {vs : List Value} {w w1 : World} (h : Blk b X w) (ho : OffL vs w w1) (hne : ∀ v ∈ vs, v.ownBlock ≠ some b) : Blk b X w1 :=
  ⟨Nat.lt_of_lt_of_le h.lt ho.size, fun i => (ho.cell h.lt hne).trans (h.cell i), fun o => (ho.frozen h.lt hne).trans (h.free o)⟩
theorem OffL.put {v : Value} {w w1 : World} {g o : Nat} (h : OffL [v] w w1) (hv : v.ownBlock = some g) (u : Value) : OffL [v] w (w1.setCell ⟨g, o, none⟩ u) :=
  ⟨by rw [← h.1]; rfl, by rw [← h.2.1]; rfl, by rw [← h.2.2.1]; rfl, by simpa using h.2.2.2.1, fun k hk hne => by
    have hkg : k ≠ g := fun e => hne v (by simp) (by rw [hv, e])
    have : (w1.setCell ⟨g, o, none⟩ u).heap[k]? = w1.heap[k]? := (Off.refl g w1).setCell u |>.block k (Nat.lt_of_lt_of_le hk h.2.2.2.1) hkg
    rw [this]; exact h.2.2.2.2 k hk hne⟩
theorem Blk.v3 {b : Nat} {v : Vd} {w : World} (h : Blk b #[.int .i64 v.1, .int .i64 v.2.1, .string v.2.2] w) : w.cell? ⟨b, 0, none⟩ = some (.int .i64 v.1) ∧ w.cell? ⟨b, 1, none⟩ = some (.int .i64 v.2.1) ∧ w.cell? ⟨b, 2, none⟩ = some (.string v.2.2) :=
  ⟨h.cell 0, h.cell 1, h.cell 2⟩
end Go.Proofs.YtngcjlghjidnjaaGreatDoor
namespace Go.Proofs.YtngcjlghjidnjaaGreatDoor
open Go.ChangeShapes Go.WideShapes Go.ChangeAt Go.RowKit
attribute [local go_sem ↓] Go.wp_at_zero Go.wp_at_succ

set_option maxHeartbeats 4000000 in
set_option maxRecDepth 100000 in
theorem specDecide (s : Sn) (v : Vd) (u1 u2 u3 : Value) (lo : Nat) (w : World) (hk : s.Ok) (h : SV w lo u1 u2 u3 s) :
    Calls Tryz.prog 89 #[.agg #[.int .i64 s.ph, .string s.buf, .string s.he, .string s.fr, .string s.bo, u1, .int .i64 (s.nx : Int), u2, u3], .agg #[.int .i64 v.1, .int .i64 v.2.1, .string v.2.2]] w fun e w' => SP (s.dec v) w e w' := by
  have H : Hid (SV w lo u1 u2 u3 s) := h
  have HK : Hid s.Ok := hk
  obtain ⟨g1, g2, g3, k1, k2, k3, rfl, rfl, rfl⟩ := h.some hk
  have HV : Hid (s.V.length = s.R.length) := hk.v
  clear h hk
  go_enter Tryz.func89, Tryz.ntmps89
  go_wp2_with fail
  generalize hW : World.alloc _ _ = W
  have HBv : Hid (Blk (w.heap.size + 1) #[.int .i64 v.1, .int .i64 v.2.1, .string v.2.2] W) := by show Blk _ _ _; rw [← hW]; exact (blk3 w _ _ _ _ _ _).2.1
  have HZ : Hid (SB (w.heap.size + 1 + 1) sn0 (.slice none 0 0) (.slice none 0 0) (.slice none 0 0) W) := by show SB _ _ _ _ _ _; rw [← hW]; exact (blk3 w _ _ _ _ _ _).2.2
  have b0 : Below w.heap.size w W := by rw [← hW]; exact below3 _ _ _ _
  have z0 : w.heap.size + 3 ≤ W.heap.size := by rw [← hW]; simp
  clear hW
  refine (specCopy s _ _ _ lo W HK.out.wf (H.out.below b0 (Nat.le_refl _))).mono ?_
  rintro e w1 ⟨⟨v1, v2, v3, rfl, S1⟩, hb1⟩
  obtain ⟨p1, p2, p3, q1, q2, q3, rfl, rfl, rfl⟩ := S1.some HK.out
  have b1 : Below w.heap.size w w1 := b0.trans (hb1.mono b0.size)
  have HBv1 : Hid (Blk (w.heap.size + 1) #[.int .i64 v.1, .int .i64 v.2.1, .string v.2.2] w1) := HBv.out.below hb1
  have HZ1 : Hid (SB (w.heap.size + 1 + 1) sn0 (.slice none 0 0) (.slice none 0 0) (.slice none 0 0) w1) := SB.below HZ.out hb1
  have HS1 : Hid (SV w1 W.heap.size (.slice (some ⟨p1, 0, none⟩) s.R.length q1) (.slice (some ⟨p2, 0, none⟩) s.R.length q2) (.slice (some ⟨p3, 0, none⟩) s.R.length q3) s) := S1
  have z1 := hb1.size
  clear S1 hb1 HBv HZ b0
  go_wp2_with fail
  generalize hW2 : World.alloc _ _ = W2
  have hbb : Below w1.heap.size w1 W2 := by rw [← hW2]; exact below1 _ _
  have HT2 : Hid (SB w1.heap.size s (.slice (some ⟨p1, 0, none⟩) s.R.length q1) (.slice (some ⟨p2, 0, none⟩) s.R.length q2) (.slice (some ⟨p3, 0, none⟩) s.R.length q3) W2) := by show SB _ _ _ _ _ _; rw [← hW2]; exact Blk.new w1 _ _
  have HBv2 : Hid (Blk (w.heap.size + 1) #[.int .i64 v.1, .int .i64 v.2.1, .string v.2.2] W2) := HBv1.out.below hbb
  have HZ2 : Hid (SB (w.heap.size + 1 + 1) sn0 (.slice none 0 0) (.slice none 0 0) (.slice none 0 0) W2) := SB.below HZ1.out hbb
  have HS2 : Hid (SV W2 W.heap.size (.slice (some ⟨p1, 0, none⟩) s.R.length q1) (.slice (some ⟨p2, 0, none⟩) s.R.length q2) (.slice (some ⟨p3, 0, none⟩) s.R.length q3) s) := HS1.out.below hbb (Nat.le_refl _)
  have b2 : Below w.heap.size w W2 := b1.trans (hbb.mono b1.size)
  have z2 : w1.heap.size + 1 ≤ W2.heap.size := by rw [← hW2]; simp
  have hp3 := (HS1.out.own.2.2 p3 rfl)
  clear hW2 hbb HBv1 HZ1 HS1 b1
  have hl : s.R.length ≤ 20 := HK.out.r20
  go_loopw [13] (fun kv wr => ∃ k : Nat, k ≤ s.R.length ∧ kv = .int .i64 k ∧ Hid (OffL [(.slice (some ⟨p3, 0, none⟩) s.R.length q3)] W2 wr) ∧ Hid (Vds wr W.heap.size (.slice (some ⟨p3, 0, none⟩) s.R.length q3) (decP v s.V k))) (fun kv _ => s.R.length - (intOf kv).toNat)
  case atStart => exact ⟨0, Nat.zero_le _, rfl, OffL.of_below (Below.refl _ _), by rw [decP_zero]; exact HS2.out.2.2⟩
  case round =>
    obtain ⟨k, hk, rfl, HO, HR⟩ := hrel
    have hne : ∀ b, b ≠ p3 → ∀ v ∈ ([(.slice (some ⟨p3, 0, none⟩) s.R.length q3)] : List Value), v.ownBlock ≠ some b := fun b hb v hv e => by
      simp only [List.mem_singleton] at hv
      subst hv
      cases e
      exact hb rfl
    have HTr : Hid (SB w1.heap.size s (.slice (some ⟨p1, 0, none⟩) s.R.length q1) (.slice (some ⟨p2, 0, none⟩) s.R.length q2) (.slice (some ⟨p3, 0, none⟩) s.R.length q3) wr) := Blk.offL HT2.out HO.out (hne _ (by omega))
    have HBr : Hid (Blk (w.heap.size + 1) #[.int .i64 v.1, .int .i64 v.2.1, .string v.2.2] wr) := Blk.offL HBv2.out HO.out (hne _ (by omega))
    have zr := HO.out.size
    by_cases hlt : k < s.R.length
    · have hkv : k < s.V.length := by rw [HV.out]; exact hlt
      have VA := HR.out.at.1
      obtain ⟨c0, c1, c2⟩ := VA.cell k (by rw [decP_len]; exact hkv)
      rw [decP_get hkv] at c0 c1 c2
      have f0 := VA.free (k * 3)
      have f1 := VA.free (k * 3 + 1)
      have f2 := VA.free (k * 3 + 2)
      have lt3 := VA.lt
      have hc3 := VA.len
      rw [decP_len, HV.out] at hc3
      obtain ⟨t0, t1, t2, t3, t4, t5, t6, t7, t8⟩ := HTr.out.cells
      obtain ⟨y0, y1, y2⟩ := HBr.out.v3
      have ltT : w1.heap.size < wr.heap.size := HTr.out.lt
      have ltB : w.heap.size + 1 < wr.heap.size := HBr.out.lt
      clear VA
      have HN : Hid (∀ wx, OffL [(.slice (some ⟨p3, 0, none⟩) s.R.length q3)] wr wx → Vds wx W.heap.size (.slice (some ⟨p3, 0, none⟩) s.R.length q3) (decP v s.V (k + 1)) → ∃ j : Nat, j ≤ s.R.length ∧ Value.int .i64 ((k : Int) + 1) = .int .i64 j ∧ Hid (OffL [(.slice (some ⟨p3, 0, none⟩) s.R.length q3)] W2 wx) ∧ Hid (Vds wx W.heap.size (.slice (some ⟨p3, 0, none⟩) s.R.length q3) (decP v s.V j))) :=
        fun wx h1 h2 => ⟨k + 1, by omega, by go_num, HO.out.trans h1, h2⟩
      by_cases h0 : s.V[k].1 = 0
      · have HP : Hid ((decP v s.V k).set k v = decP v s.V (k + 1)) := decP_put hkv h0
        rw [h0] at c0
        clear h0
        generalize s.V[k] = X at *
        go_wp2
        go_roundw
        case rel =>
          refine HN.out _ ?_ ?_
          · exact ((((OffL.of_below (vs := [(.slice (some ⟨p3, 0, none⟩) s.R.length q3)]) (Below.refl wr.heap.size wr)).put (g := p3) rfl _).put (g := p3) rfl _).put (g := p3) rfl _).trans (OffL.of_below (below1 _ _))
          · rw [← HP.out]
            exact vds_below (vds_put HR.out (by rw [decP_len]; exact hkv) v) (below1 _ _) (Nat.le_refl _)
        case measure => simp [intOf]; omega
      · have HP : Hid (decP v s.V k = decP v s.V (k + 1)) := decP_skip hkv h0
        have h0b : (s.V[k].1 == 0) = false := beq_eq_false_iff_ne.2 h0
        generalize s.V[k] = X at *
        go_wp2
        go_roundw
        case rel =>
          refine HN.out _ (OffL.of_below (below1 _ _)) ?_
          rw [← HP.out]
          exact vds_below HR.out (below1 _ _) (Nat.le_refl _)
        case measure => simp [intOf]; omega
    · obtain rfl : k = s.R.length := by omega
      have HZr : Hid (SB (w.heap.size + 1 + 1) sn0 (.slice none 0 0) (.slice none 0 0) (.slice none 0 0) wr) := Blk.offL HZ2.out HO.out (hne _ (by omega))
      have HSr : Hid (SV wr W.heap.size (.slice (some ⟨p1, 0, none⟩) s.R.length q1) (.slice (some ⟨p2, 0, none⟩) s.R.length q2) (.slice (some ⟨p3, 0, none⟩) s.R.length q3) (s.dec v)) := by
        have ap := HS2.out.apart
        refine ⟨HO.out.row HS2.out.1 (fun g hg u hu e => ?_), HO.out.row HS2.out.2.1 (fun g hg u hu e => ?_), ?_⟩
        · simp only [List.mem_singleton] at hu
          subst hu
          exact ap.2.1 g g hg e rfl
        · simp only [List.mem_singleton] at hu
          subst hu
          exact ap.2.2 g g hg e rfl
        · have := HR.out
          rw [← HV.out, decP_end, HV.out] at this
          exact this
      have br : Below w.heap.size w wr := b2.trans (HO.out.below (by intro u hu a ha; simp only [List.mem_singleton] at hu; subst hu; cases ha; dsimp only; omega) (by omega))
      obtain ⟨t0, t1, t2, t3, t4, t5, t6, t7, t8⟩ := HTr.out.cells
      obtain ⟨r0, r1, r2, r3, r4, r5, r6, r7, r8⟩ := HZr.out.zero
      obtain ⟨rf0, rf1, rf2, rf3, rf4, rf5, rf6, rf7, rf8⟩ := HZr.out.frees
      clear HBr HR HO hlt
      go_wp2
      refine bodyPost_ret (v := .agg #[.int .i64 s.ph, .string s.buf, .string s.he, .string s.fr, .string s.bo, (.slice (some ⟨p1, 0, none⟩) s.R.length q1), .int .i64 (s.nx : Int), (.slice (some ⟨p2, 0, none⟩) s.R.length q2), (.slice (some ⟨p3, 0, none⟩) s.R.length q3)]) (by simp [results, Tryz.results89, go_sem, r0, r1, r2, r3, r4, r5, r6, r7, r8]) rfl ?_
      generalize hWf : World.setCell _ ⟨w.heap.size + 1 + 1, 8, none⟩ _ = F
      refine ⟨⟨_, _, _, rfl, ?_⟩, ?_⟩
      · rw [← hWf]
        refine SV.le (lo := W.heap.size) ?_ (by omega)
        repeat (refine SV.set ?_ (by dsimp only; omega) _)
        exact HSr.out
      · rw [← hWf]
        repeat (refine Below.setCell ?_ (by dsimp only; omega) _)
        exact br
end Go.Proofs.YtngcjlghjidnjaaGreatDoor
namespace Go.Proofs.YtngcjlghjidnjaaGreatDoor
open Go.ChangeShapes Go.WideShapes Go.ChangeAt Go.RowKit
attribute [local go_sem ↓] Go.wp_at_zero Go.wp_at_succ

set_option maxHeartbeats 4000000 in
set_option maxRecDepth 100000 in
theorem specLost (s : Sn) (t : ByteArray) (u1 u2 u3 : Value) (lo : Nat) (w : World) (hk : s.Ok) (h : SV w lo u1 u2 u3 s) :
    Calls Tryz.prog 43 #[.agg #[.int .i64 s.ph, .string s.buf, .string s.he, .string s.fr, .string s.bo, u1, .int .i64 (s.nx : Int), u2, u3], .string t] w fun e w' => SP (s.lost t) w e w' := by
  have H : Hid (SV w lo u1 u2 u3 s) := h
  have HK : Hid s.Ok := hk
  obtain ⟨g1, g2, g3, k1, k2, k3, rfl, rfl, rfl⟩ := h.some hk
  clear h hk
  go_enter Tryz.func43, Tryz.ntmps43
  go_wp2_with fail
  generalize hW : World.alloc _ _ = W
  have HZ : Hid (SB (w.heap.size + 1) sn0 (.slice none 0 0) (.slice none 0 0) (.slice none 0 0) W) := by show SB _ _ _ _ _ _; rw [← hW]; exact (blk2 w _ _ _ _).2
  have b0 : Below w.heap.size w W := by rw [← hW]; exact below2 _ _ _
  have z0 : w.heap.size + 2 ≤ W.heap.size := by rw [← hW]; simp
  clear hW
  refine (specDecide s (2, 0, t) _ _ _ lo W HK.out (H.out.below b0 (Nat.le_refl _))).mono ?_
  rintro e w1 ⟨⟨v1, v2, v3, rfl, S1⟩, hb1⟩
  obtain ⟨p1, p2, p3, q1, q2, q3, rfl, rfl, rfl⟩ := S1.some (HK.out.dec _)
  have b1 : Below w.heap.size w w1 := b0.trans (hb1.mono b0.size)
  have HZ1 : Hid (SB (w.heap.size + 1) sn0 (.slice none 0 0) (.slice none 0 0) (.slice none 0 0) w1) := SB.below HZ.out hb1
  have HS1 : Hid (SV w1 W.heap.size (.slice (some ⟨p1, 0, none⟩) s.R.length q1) (.slice (some ⟨p2, 0, none⟩) s.R.length q2) (.slice (some ⟨p3, 0, none⟩) s.R.length q3) (s.dec (2, 0, t))) := S1
  have z1 := hb1.size
  have zl : w.heap.size + 1 < w1.heap.size := by omega
  clear S1 hb1 HZ b0
  obtain ⟨r0, r1, r2, r3, r4, r5, r6, r7, r8⟩ := HZ1.out.zero
  obtain ⟨rf0, rf1, rf2, rf3, rf4, rf5, rf6, rf7, rf8⟩ := HZ1.out.frees
  dsimp only [Sn.dec]
  go_wp2
  refine bodyPost_ret (v := .agg #[.int .i64 9, .string ⟨#[]⟩, .string s.he, .string s.fr, .string s.bo, (.slice (some ⟨p1, 0, none⟩) s.R.length q1), .int .i64 (s.nx : Int), (.slice (some ⟨p2, 0, none⟩) s.R.length q2), (.slice (some ⟨p3, 0, none⟩) s.R.length q3)]) (by simp [results, Tryz.results43, go_sem, r0, r1, r2, r3, r4, r5, r6, r7, r8, zl]) rfl ?_
  have E := fun x0 x1 x2 x3 x4 x5 x6 x7 x8 o => nine_end HS1.out b1 (b := w.heap.size + 1) (by omega) (by omega) x0 x1 x2 x3 x4 x5 x6 x7 x8 o b1.size
  exact ⟨⟨_, _, _, rfl, (E _ _ _ _ _ _ _ _ _ _).1⟩, (E _ _ _ _ _ _ _ _ _ _).2⟩

set_option maxHeartbeats 4000000 in
set_option maxRecDepth 100000 in
theorem specTo (s : Sn) (ph : Int) (t : ByteArray) (u1 u2 u3 : Value) (lo : Nat) (w : World) (hk : s.Wf) (h : SV w lo u1 u2 u3 s) :
    Calls Tryz.prog 122 #[.agg #[.int .i64 s.ph, .string s.buf, .string s.he, .string s.fr, .string s.bo, u1, .int .i64 (s.nx : Int), u2, u3], .int .i64 ph, .string t] w fun e w' => SQ (s.to ph, t) w e w' := by
  have H : Hid (SV w lo u1 u2 u3 s) := h
  have HK : Hid s.Wf := hk
  obtain ⟨g1, g2, g3, k1, k2, k3, rfl, rfl, rfl⟩ := h.someW hk
  clear h hk
  go_enter Tryz.func122, Tryz.ntmps122
  go_wp2_with fail
  generalize hW : World.alloc _ _ = W
  have HZ : Hid (SB (w.heap.size + 1) sn0 (.slice none 0 0) (.slice none 0 0) (.slice none 0 0) W) := by show SB _ _ _ _ _ _; rw [← hW]; exact (blk2 w _ _ _ _).2
  have b0 : Below w.heap.size w W := by rw [← hW]; exact below2 _ _ _
  have z0 : w.heap.size + 2 ≤ W.heap.size := by rw [← hW]; simp
  clear hW
  refine (specCopy s _ _ _ lo W HK.out (H.out.below b0 (Nat.le_refl _))).mono ?_
  rintro e w1 ⟨⟨v1, v2, v3, rfl, S1⟩, hb1⟩
  obtain ⟨p1, p2, p3, q1, q2, q3, rfl, rfl, rfl⟩ := S1.someW HK.out
  have b1 : Below w.heap.size w w1 := b0.trans (hb1.mono b0.size)
  have HZ1 : Hid (SB (w.heap.size + 1) sn0 (.slice none 0 0) (.slice none 0 0) (.slice none 0 0) w1) := SB.below HZ.out hb1
  have HS1 : Hid (SV w1 W.heap.size (.slice (some ⟨p1, 0, none⟩) s.R.length q1) (.slice (some ⟨p2, 0, none⟩) s.R.length q2) (.slice (some ⟨p3, 0, none⟩) s.R.length q3) s) := S1
  have z1 := hb1.size
  have zl : w.heap.size + 1 < w1.heap.size := by omega
  clear S1 hb1 HZ b0
  obtain ⟨r0, r1, r2, r3, r4, r5, r6, r7, r8⟩ := HZ1.out.zero
  obtain ⟨rf0, rf1, rf2, rf3, rf4, rf5, rf6, rf7, rf8⟩ := HZ1.out.frees
  go_wp2
  refine bodyPost_ret (v := .tuple #[.agg #[.int .i64 ph, .string s.buf, .string s.he, .string s.fr, .string s.bo, (.slice (some ⟨p1, 0, none⟩) s.R.length q1), .int .i64 (s.nx : Int), (.slice (some ⟨p2, 0, none⟩) s.R.length q2), (.slice (some ⟨p3, 0, none⟩) s.R.length q3)], .string t]) (by simp [results, Tryz.results122, go_sem, r0, r1, r2, r3, r4, r5, r6, r7, r8, zl]) rfl ?_
  have E := fun x0 x1 x2 x3 x4 x5 x6 x7 x8 o => nine_end HS1.out b1 (b := w.heap.size + 1) (by omega) (by omega) x0 x1 x2 x3 x4 x5 x6 x7 x8 o b1.size
  exact ⟨⟨_, _, _, rfl, (E _ _ _ _ _ _ _ _ _ _).1⟩, (E _ _ _ _ _ _ _ _ _ _).2⟩
end Go.Proofs.YtngcjlghjidnjaaGreatDoor
