import Derived.Test.YtngcjlghjidnjaaGreatDoorMg39
import Derived.Deep.RegionHeld3
import Derived.Test.YtngcjlghjidnjaaGreatDoorMg3
import Derived.Test.YtngcjlghjidnjaaGreatDoorMg9
namespace Go.Proofs.YtngcjlghjidnjaaGreatDoor
open Go.ChangeShapes Go.WideShapes Go.ChangeAt Go.RowKit
attribute [local go_sem ↓] Go.wp_at_zero Go.wp_at_succ

/-- what Feed answers -/
def feedN (ph nx : Int) (buf he fr bo : ByteArray) (R : List ByteArray) (T : List Bool) (V : List Vd) (kind : Int) (d : ByteArray) : Sn × ByteArray :=
  if properN ph nx buf he fr bo R T V then (⟨ph, buf, he, fr, bo, R, nx.toNat, T, V⟩ : Sn).feed true kind d else (snDone, ⟨#[]⟩)
theorem implFeed (ph nx : Int) (buf he fr bo : ByteArray) (u1 u2 u3 : Value) (R : List ByteArray) (T : List Bool) (V : List Vd) (kind : Int) (d : ByteArray) (lo : Nat) (w : World) (s1 : Strs w lo u1 R) (s2 : Bls w lo u2 T) (s3 : Vds w lo u3 V) (hsm : Small9 buf he fr bo R T V) (hl : LenIn w) (hf : FoldAt w) (hd : d.size ≤ 1048576) :
    Calls Tryz.prog 10 #[.agg #[.int .i64 ph, .string buf, .string he, .string fr, .string bo, u1, .int .i64 nx, u2, u3], .agg #[.int .i64 kind, .string d]] w fun e w' => SQ (feedN ph nx buf he fr bo R T V kind d) w e w' := by
  unfold feedN
  cases hp : properN ph nx buf he fr bo R T V with
  | false => exact implFeedNo ph nx buf he fr bo u1 u2 u3 R T V kind d lo w s1 s2 s3 hsm hl hp
  | true =>
    obtain ⟨n, rfl, hk⟩ := ok_of hp
    exact implFeedYes ph n buf he fr bo u1 u2 u3 R T V kind d lo w hk s1 s2 s3 hsm hl hf hd hp
theorem specFeed (ph nx : Int) (buf he fr bo : ByteArray) (u1 u2 u3 : Value) (R : List ByteArray) (T : List Bool) (V : List Vd) (kind : Int) (d : ByteArray) (lo : Nat) (w : World) (s1 : Strs w lo u1 R) (s2 : Bls w lo u2 T) (s3 : Vds w lo u3 V) (hsm : Small9 buf he fr bo R T V) (hd : d.size ≤ 1048576) :
    Calls Tryz.prog 11 #[.agg #[.int .i64 ph, .string buf, .string he, .string fr, .string bo, u1, .int .i64 nx, u2, u3], .agg #[.int .i64 kind, .string d]] w fun e w' => SQ (feedN ph nx buf he fr bo R T V kind d) w e w' := by
  unfold feedN
  cases hp : properN ph nx buf he fr bo R T V with
  | false => exact specFeedNo ph nx buf he fr bo u1 u2 u3 R T V kind d lo w s1 s2 s3 hsm hp
  | true =>
    obtain ⟨n, rfl, hk⟩ := ok_of hp
    exact specFeedYes ph n buf he fr bo u1 u2 u3 R T V kind d lo w hk s1 s2 s3 hsm hd hp

set_option maxRecDepth 100000 in
theorem szEv (kind : Int) (d : ByteArray) (n : Int) (w : World) (hn : 0 ≤ n) (hn2 : n ≤ 1048576) (hd : d.size ≤ maxLen) :
    Calls Tryz.prog 18 #[.agg #[.int .i64 kind, .string d], .int .i64 n] w fun e w' => (∃ r : Int, e = .returned (.int .i64 r) ∧ (r < 0 ∨ (0 ≤ r ∧ d.size ≤ 1048576))) ∧ Below w.heap.size w w' := by
  have hd2 : d.size ≤ 9223372036854775807 := by unfold maxLen at hd; omega
  clear hd
  by_cases h : n - (d.size : Int) < 0
  · go_enter Tryz.func18, Tryz.ntmps18
    go_wp2
    go_ret
    exact ⟨⟨_, rfl, .inl (by decide)⟩, below1 _ _⟩
  · go_enter Tryz.func18, Tryz.ntmps18
    go_wp2
    go_ret
    exact ⟨⟨_, rfl, .inr ⟨by omega, by omega⟩⟩, below1 _ _⟩
set_option maxRecDepth 100000 in
theorem toEv (kind : Int) (d : ByteArray) (w : World) :
    Calls Tryz.prog 20 #[.agg #[.int .i64 kind, .string d]] w fun e w' => e = .returned (.agg #[.int .i64 kind, .string d]) ∧ Below w.heap.size w w' := by
  go_enter Tryz.func20, Tryz.ntmps20
  go_wp2
  refine bodyPost_ret (v := .agg #[.int .i64 kind, .string d]) (by simp [results, Tryz.results20, go_sem]) rfl ?_
  exact ⟨rfl, below3 _ _ _ _⟩
end Go.Proofs.YtngcjlghjidnjaaGreatDoor
namespace Go.Proofs.YtngcjlghjidnjaaGreatDoor
open Go.ChangeShapes Go.WideShapes Go.ChangeAt Go.RowKit
attribute [local go_sem ↓] Go.wp_at_zero Go.wp_at_succ

theorem vds_form3 {w : World} {lo : Nat} {v : Value} {L : List Vd} (h : Vds w lo v L) : ∃ a c, v = .slice a L.length c := by
  rcases h.cases with ⟨e, e0⟩ | ⟨g, k, e, _⟩
  · exact ⟨none, 0, by rw [e, e0]; rfl⟩
  · exact ⟨_, _, e⟩
theorem feedN_len (ph nx : Int) (buf he fr bo : ByteArray) (R : List ByteArray) (T : List Bool) (V : List Vd) (kind : Int) (d : ByteArray) : (feedN ph nx buf he fr bo R T V kind d).1.R.length ≤ 20 ∧ (feedN ph nx buf he fr bo R T V kind d).1.T.length ≤ 20 ∧ (feedN ph nx buf he fr bo R T V kind d).1.V.length ≤ 20 := by
  have W : ∀ s : Sn, s.Wf → s.R.length ≤ 20 ∧ s.T.length ≤ 20 ∧ s.V.length ≤ 20 := fun s h => ⟨h.r20, by rw [h.t]; exact h.r20, by rw [h.v]; exact h.r20⟩
  unfold feedN
  cases hp : properN ph nx buf he fr bo R T V with
  | false => exact ⟨Nat.zero_le _, Nat.zero_le _, Nat.zero_le _⟩
  | true =>
    obtain ⟨n, rfl, hk⟩ := ok_of hp
    show (Sn.feed ⟨ph, buf, he, fr, bo, R, n, T, V⟩ true kind d).1.R.length ≤ 20 ∧ (Sn.feed ⟨ph, buf, he, fr, bo, R, n, T, V⟩ true kind d).1.T.length ≤ 20 ∧ (Sn.feed ⟨ph, buf, he, fr, bo, R, n, T, V⟩ true kind d).1.V.length ≤ 20
    have LO : ∀ t, (Sn.lost ⟨ph, buf, he, fr, bo, R, n, T, V⟩ t).Wf := fun t => ⟨hk.t, (decV_len _ _).trans hk.v, hk.r1, hk.r20⟩
    refine W _ ?_
    unfold Sn.feed
    rw [if_neg (by decide)]
    split
    · exact hk.wf
    · split
      · exact LO _
      · split
        · exact LO _
        · split
          · exact LO _
          · rename_i hz
            exact rep_okS _ _ ⟨hk.p1, hk.p9, hk.t, hk.v, hk.r1, hk.r20, hk.n, hk.n5, hk.he, hk.fr, hk.bo, hk.rs, by show (buf ++ d).size ≤ _; rw [ByteArray.size_append]; dsimp only at hz; omega⟩
theorem SV.offL {w w1 : World} {lo : Nat} {u1 u2 u3 : Value} {s : Sn} {vs : List Value} (h : SV w lo u1 u2 u3 s) (ho : OffL vs w w1) (hne : ∀ u ∈ [u1, u2, u3], ∀ g, u.ownBlock = Option.some g → ∀ v ∈ vs, v.ownBlock ≠ Option.some g) : SV w1 lo u1 u2 u3 s :=
  ⟨ho.row h.1 (hne u1 (by simp)), ho.row h.2.1 (hne u2 (by simp)), ho.row h.2.2 (hne u3 (by simp))⟩
theorem SV.mem3 {w : World} {lo : Nat} {u1 u2 u3 : Value} {s : Sn} (h : SV w lo u1 u2 u3 s) : ∀ v ∈ [u1, u2, u3], ∀ g, v.ownBlock = Option.some g → lo ≤ g ∧ g < w.heap.size := by
  intro u hu g hg
  simp only [List.mem_cons, List.not_mem_nil, or_false] at hu
  rcases hu with rfl | rfl | rfl
  · exact h.own.1 g hg
  · exact h.own.2.1 g hg
  · exact h.own.2.2 g hg
theorem ne3 {u1 u2 u3 : Value} {B : Nat} (h1 : u1.ownBlock ≠ some B) (h2 : u2.ownBlock ≠ some B) (h3 : u3.ownBlock ≠ some B) : ∀ v ∈ [u1, u2, u3], v.ownBlock ≠ some B := by
  intro u hu
  simp only [List.mem_cons, List.not_mem_nil, or_false] at hu
  rcases hu with rfl | rfl | rfl
  · exact h1
  · exact h2
  · exact h3
/-- a session that a Feed has answered with, in a variable of the law's -/
def FR (N B : Nat) (Q : Sn) (u1 u2 u3 : Value) (w0 w : World) : Prop := N ≤ B ∧ SB B Q u1 u2 u3 w ∧ SV w N u1 u2 u3 Q ∧ u1.ownBlock ≠ some B ∧ u2.ownBlock ≠ some B ∧ u3.ownBlock ≠ some B ∧ Below N w0 w

set_option maxHeartbeats 20000000 in
set_option maxRecDepth 100000 in
theorem feedLaw (ph nx : Int) (buf he fr bo : ByteArray) (v5 v7 v8 : Value) (R : List ByteArray) (T : List Bool) (V : List Vd) (kind : Int) (d : ByteArray) (w : World) (h5 : ArgS w v5 R) (h7 : ArgB w v7 T) (h8 : ArgV w v8 V) (m1 : buf.size ≤ maxLen) (m2 : he.size ≤ maxLen) (m3 : fr.size ≤ maxLen) (m4 : bo.size ≤ maxLen) (m5 : d.size ≤ maxLen) (hl : LenIn w) (hf : FoldAt w) :
    Calls Tryz.prog 5 #[.agg #[.int .i64 ph, .string buf, .string he, .string fr, .string bo, v5, .int .i64 nx, v7, v8], .agg #[.int .i64 kind, .string d]] w fun e w' => e = .returned (.bool true) ∧ Below w.heap.size w w' := by
  have HL : Hid (LenIn w) := hl
  have HFo : Hid (FoldAt w) := hf
  have H5 : Hid (ArgS w v5 R) := h5
  have H7 : Hid (ArgB w v7 T) := h7
  have H8 : Hid (ArgV w v8 V) := h8
  have HM : Hid (buf.size ≤ maxLen ∧ he.size ≤ maxLen ∧ fr.size ≤ maxLen ∧ bo.size ≤ maxLen ∧ d.size ≤ maxLen) := ⟨m1, m2, m3, m4, m5⟩
  obtain ⟨a5, c5, rfl⟩ := h5.form
  obtain ⟨a7, c7, rfl⟩ := h7.form
  obtain ⟨a8, c8, rfl⟩ := h8.form
  clear h5 h7 h8 hl hf m1 m2 m3 m4 m5
  go_enter Tryz.func5, Tryz.ntmps5
  go_wp2_with fail
  generalize hW : World.alloc _ _ = W
  have hA : Hid (Blk w.heap.size #[.int .i64 ph, .string buf, .string he, .string fr, .string bo, .slice a5 R.length c5, .int .i64 nx, .slice a7 T.length c7, .slice a8 V.length c8] W) := by show Blk _ _ _; rw [← hW]; exact (blk2 w _ _ _ _).1
  have hE : Hid (Blk (w.heap.size + 1) #[.int .i64 kind, .string d] W) := by show Blk _ _ _; rw [← hW]; exact (blk2 w _ _ _ _).2
  have bw : Below w.heap.size w W := by rw [← hW]; exact below2 _ _ _
  clear hW
  refine (szSess ph nx buf he fr bo _ _ _ R T V _ (H5.out.below bw) (H7.out.below bw) (H8.out.below bw) HM.out.1 HM.out.2.1 HM.out.2.2.1 HM.out.2.2.2.1).mono ?_
  rintro e w1 ⟨⟨r, rfl, hr⟩, hb1⟩
  have b1 : Below w.heap.size w w1 := bw.trans (hb1.mono bw.size)
  have hA1 : Hid (Blk w.heap.size #[.int .i64 ph, .string buf, .string he, .string fr, .string bo, .slice a5 R.length c5, .int .i64 nx, .slice a7 T.length c7, .slice a8 V.length c8] w1) := Blk.below hA.out hb1
  have hE1 : Hid (Blk (w.heap.size + 1) #[.int .i64 kind, .string d] w1) := Blk.below hE.out hb1
  clear hb1 hA hE bw
  by_cases hr0 : r < 0
  · go_wp2
    go_ret
    exact ⟨rfl, b1⟩
  have HSM : Hid (Small9 buf he fr bo R T V) := (hr.resolve_left hr0).2.2
  have hr1 : r ≤ 1048576 := (hr.resolve_left hr0).2.1
  have hr2 : 0 ≤ r := by omega
  clear hr
  have x0 : w1.cell? ⟨w.heap.size + 1, 0, none⟩ = some (.int .i64 kind) := hE1.out.cell 0
  have x1 : w1.cell? ⟨w.heap.size + 1, 1, none⟩ = some (.string d) := hE1.out.cell 1
  go_wp2_with fail
  refine (szEv kind d r w1 hr2 hr1 HM.out.2.2.2.2).mono ?_
  rintro e w2 ⟨⟨q, rfl, hq⟩, hb2⟩
  have b2 : Below w.heap.size w w2 := b1.trans (hb2.mono b1.size)
  have hA2 : Hid (Blk w.heap.size #[.int .i64 ph, .string buf, .string he, .string fr, .string bo, .slice a5 R.length c5, .int .i64 nx, .slice a7 T.length c7, .slice a8 V.length c8] w2) := Blk.below hA1.out hb2
  have hE2 : Hid (Blk (w.heap.size + 1) #[.int .i64 kind, .string d] w2) := Blk.below hE1.out hb2
  clear hb2 hA1 hE1 b1 x0 x1 hr0 hr1 hr2
  by_cases hq0 : q < 0
  · go_wp2
    go_ret
    exact ⟨rfl, b2⟩
  have hds : d.size ≤ 1048576 := (hq.resolve_left hq0).2
  clear hq HM
  have mR : R.length ≤ 1048576 := HSM.out.2.2.2.2.1
  have mT : T.length ≤ 1048576 := HSM.out.2.2.2.2.2.2.1
  have mV : V.length ≤ 1048576 := HSM.out.2.2.2.2.2.2.2.1
  generalize hQ : feedN ph nx buf he fr bo R T V kind d = Q
  have HQ : Hid (feedN ph nx buf he fr bo R T V kind d = Q) := hQ
  have HLN : Hid (Q.1.R.length ≤ 20 ∧ Q.1.T.length ≤ 20 ∧ Q.1.V.length ≤ 20) := by show _ ∧ _ ∧ _; rw [← hQ]; exact feedN_len ph nx buf he fr bo R T V kind d
  clear hQ
  have HTS : Hid (∀ wx, Below w.heap.size w wx → Calls Tryz.prog 19 #[.agg #[.int .i64 ph, .string buf, .string he, .string fr, .string bo, .slice a5 R.length c5, .int .i64 nx, .slice a7 T.length c7, .slice a8 V.length c8]] wx fun e w' => (∃ z1 o1 z2 o2 z3 o3, e = .returned (.agg #[.int .i64 ph, .string buf, .string he, .string fr, .string bo, .slice z1 R.length o1, .int .i64 nx, .slice z2 T.length o2, .slice z3 V.length o3]) ∧ Strs w' wx.heap.size (.slice z1 R.length o1) R ∧ Bls w' wx.heap.size (.slice z2 T.length o2) T ∧ Vds w' wx.heap.size (.slice z3 V.length o3) V) ∧ Below wx.heap.size wx w') := by
    intro wx hbx
    refine (toSess ph nx buf he fr bo _ _ _ R T V _ (H5.out.below hbx) (H7.out.below hbx) (H8.out.below hbx) mR mT mV).mono ?_
    rintro e w' ⟨⟨z1, z2, z3, rfl, ⟨r1, r2, r3⟩, _⟩, hb⟩
    obtain ⟨k1, o1, hu1⟩ := strs_form2 r1
    obtain ⟨k2, o2, hu2⟩ := bls_form r2
    obtain ⟨k3, o3, hu3⟩ := vds_form3 r3
    subst hu1 hu2 hu3
    exact ⟨⟨k1, o1, k2, o2, k3, o3, rfl, r1, r2, r3⟩, hb⟩
  obtain ⟨t0, t1, t2, t3, t4, t5, t6, t7, t8⟩ : w2.cell? ⟨w.heap.size, 0, none⟩ = some (.int .i64 ph) ∧ w2.cell? ⟨w.heap.size, 1, none⟩ = some (.string buf) ∧ w2.cell? ⟨w.heap.size, 2, none⟩ = some (.string he) ∧ w2.cell? ⟨w.heap.size, 3, none⟩ = some (.string fr) ∧ w2.cell? ⟨w.heap.size, 4, none⟩ = some (.string bo) ∧ w2.cell? ⟨w.heap.size, 5, none⟩ = some (.slice a5 R.length c5) ∧ w2.cell? ⟨w.heap.size, 6, none⟩ = some (.int .i64 nx) ∧ w2.cell? ⟨w.heap.size, 7, none⟩ = some (.slice a7 T.length c7) ∧ w2.cell? ⟨w.heap.size, 8, none⟩ = some (.slice a8 V.length c8) := ⟨hA2.out.cell 0, hA2.out.cell 1, hA2.out.cell 2, hA2.out.cell 3, hA2.out.cell 4, hA2.out.cell 5, hA2.out.cell 6, hA2.out.cell 7, hA2.out.cell 8⟩
  have x0 : w2.cell? ⟨w.heap.size + 1, 0, none⟩ = some (.int .i64 kind) := hE2.out.cell 0
  have x1 : w2.cell? ⟨w.heap.size + 1, 1, none⟩ = some (.string d) := hE2.out.cell 1
  go_wp2_with fail
  go_cut [6, 7] (fun pv xv wx => ∃ B u1 u2 u3, pv = .pointer (some ⟨B, 0, none⟩) ∧ xv = .string Q.2 ∧ Hid (FR w2.heap.size B Q.1 u1 u2 u3 w2 wx))
  case first =>
    have HBc : Hid (Below w2.heap.size w2 w2) := (Below.refl _ _ : Below _ _ _)
    have zA : w.heap.size < w2.heap.size := hA2.out.lt
    have zB : w.heap.size + 1 < w2.heap.size := hE2.out.lt
    go_region_held3 (fun w' => w'.cell? ⟨w.heap.size, 0, none⟩ = some (.int .i64 ph) ∧ w'.cell? ⟨w.heap.size, 1, none⟩ = some (.string buf) ∧ w'.cell? ⟨w.heap.size, 2, none⟩ = some (.string he) ∧ w'.cell? ⟨w.heap.size, 3, none⟩ = some (.string fr) ∧ w'.cell? ⟨w.heap.size, 4, none⟩ = some (.string bo) ∧ w'.cell? ⟨w.heap.size, 5, none⟩ = some (.slice a5 R.length c5) ∧ w'.cell? ⟨w.heap.size, 6, none⟩ = some (.int .i64 nx) ∧ w'.cell? ⟨w.heap.size, 7, none⟩ = some (.slice a7 T.length c7) ∧ w'.cell? ⟨w.heap.size, 8, none⟩ = some (.slice a8 V.length c8) ∧ w'.cell? ⟨w.heap.size + 1, 0, none⟩ = some (.int .i64 kind) ∧ w'.cell? ⟨w.heap.size + 1, 1, none⟩ = some (.string d)) (first | (simp only [j0, j1, j2, j3, j4, j5, j6, j7, j8, o0, o1, and_self]; done) | go_keep) (first | (go_at_call 19; refine (HTS.out _ (b2.trans (Below.mono (by repeat (first | exact HBc.out | refine Below.drew ?_ | refine Below.alloc ?_ HBc.out.size _)) b2.size))).mono ?_; rintro e wS ⟨⟨z1, o1r, z2, o2r, z3, o3r, rfl, rS1, rS2, rS3⟩, hb⟩; have HSr : Hid (Strs wS w2.heap.size (.slice z1 R.length o1r) R ∧ Bls wS w2.heap.size (.slice z2 T.length o2r) T ∧ Vds wS w2.heap.size (.slice z3 V.length o3r) V) := ⟨row_le rS1 (Below.size (B := w2.heap.size) (by repeat (first | exact HBc.out | refine Below.drew ?_ | refine Below.alloc ?_ HBc.out.size _))), row_le rS2 (Below.size (B := w2.heap.size) (by repeat (first | exact HBc.out | refine Below.drew ?_ | refine Below.alloc ?_ HBc.out.size _))), row_le rS3 (Below.size (B := w2.heap.size) (by repeat (first | exact HBc.out | refine Below.drew ?_ | refine Below.alloc ?_ HBc.out.size _)))⟩; (first | (have HNz : Hid (w2.heap.size ≤ _ ∧ Blk _ #[.int .i64 0, .string ⟨#[]⟩, .string ⟨#[]⟩, .string ⟨#[]⟩, .string ⟨#[]⟩, .slice none 0 0, .int .i64 0, .slice none 0 0, .slice none 0 0] wS) := ⟨HNz.out.1, Blk.below HNz.out.2 (of_drew hb)⟩) | (have HNz : Hid (w2.heap.size ≤ _ ∧ Blk _ #[.int .i64 0, .string ⟨#[]⟩, .string ⟨#[]⟩, .string ⟨#[]⟩, .string ⟨#[]⟩, .slice none 0 0, .int .i64 0, .slice none 0 0, .slice none 0 0] wS) := ⟨HNz.out.1, Blk.below HNz.out.2 hb⟩) | (have HNz : Hid (w2.heap.size ≤ _ ∧ Blk _ #[.int .i64 0, .string ⟨#[]⟩, .string ⟨#[]⟩, .string ⟨#[]⟩, .string ⟨#[]⟩, .slice none 0 0, .int .i64 0, .slice none 0 0, .slice none 0 0] wS) := ⟨HBc.out.size, Blk.below (Blk.new _ _ _) (of_drew hb)⟩) | (have HNz : Hid (w2.heap.size ≤ _ ∧ Blk _ #[.int .i64 0, .string ⟨#[]⟩, .string ⟨#[]⟩, .string ⟨#[]⟩, .string ⟨#[]⟩, .slice none 0 0, .int .i64 0, .slice none 0 0, .slice none 0 0] wS) := ⟨HBc.out.size, Blk.below (Blk.new _ _ _) hb⟩) | skip); have HBc : Hid (Below w2.heap.size w2 wS) := Below.trans (by repeat (first | exact HBc.out | refine Below.drew ?_ | refine Below.alloc ?_ HBc.out.size _)) (hb.mono (Below.size (B := w2.heap.size) (by repeat (first | exact HBc.out | refine Below.drew ?_ | refine Below.alloc ?_ HBc.out.size _)))); have hAn : Hid (Blk w.heap.size #[.int .i64 ph, .string buf, .string he, .string fr, .string bo, .slice a5 R.length c5, .int .i64 nx, .slice a7 T.length c7, .slice a8 V.length c8] wS) := Blk.below hA2.out HBc.out; have hEn : Hid (Blk (w.heap.size + 1) #[.int .i64 kind, .string d] wS) := Blk.below hE2.out HBc.out; obtain ⟨j0, j1, j2, j3, j4, j5, j6, j7, j8⟩ : wS.cell? ⟨w.heap.size, 0, none⟩ = some (.int .i64 ph) ∧ wS.cell? ⟨w.heap.size, 1, none⟩ = some (.string buf) ∧ wS.cell? ⟨w.heap.size, 2, none⟩ = some (.string he) ∧ wS.cell? ⟨w.heap.size, 3, none⟩ = some (.string fr) ∧ wS.cell? ⟨w.heap.size, 4, none⟩ = some (.string bo) ∧ wS.cell? ⟨w.heap.size, 5, none⟩ = some (.slice a5 R.length c5) ∧ wS.cell? ⟨w.heap.size, 6, none⟩ = some (.int .i64 nx) ∧ wS.cell? ⟨w.heap.size, 7, none⟩ = some (.slice a7 T.length c7) ∧ wS.cell? ⟨w.heap.size, 8, none⟩ = some (.slice a8 V.length c8) := ⟨hAn.out.cell 0, hAn.out.cell 1, hAn.out.cell 2, hAn.out.cell 3, hAn.out.cell 4, hAn.out.cell 5, hAn.out.cell 6, hAn.out.cell 7, hAn.out.cell 8⟩; have o0 : wS.cell? ⟨w.heap.size + 1, 0, none⟩ = some (.int .i64 kind) := hEn.out.cell 0; have o1 : wS.cell? ⟨w.heap.size + 1, 1, none⟩ = some (.string d) := hEn.out.cell 1; have zAn : w.heap.size < wS.heap.size := hAn.out.lt; have zBn : w.heap.size + 1 < wS.heap.size := hEn.out.lt; clear rS1 rS2 rS3 hb) | (go_at_call 20; refine (toEv kind d _).mono ?_; rintro e wE ⟨rfl, hb⟩; (first | (have HSr : Hid (Strs wE w2.heap.size (.slice z1 R.length o1r) R ∧ Bls wE w2.heap.size (.slice z2 T.length o2r) T ∧ Vds wE w2.heap.size (.slice z3 V.length o3r) V) := (fun hx => ⟨strs_below HSr.out.1 hx (Nat.le_refl _), bls_below HSr.out.2.1 hx (Nat.le_refl _), vds_below HSr.out.2.2 hx (Nat.le_refl _)⟩) (Below.trans (by repeat (first | exact Below.refl _ _ | refine Below.drew ?_ | refine Below.alloc ?_ (Nat.le_refl _) _)) (hb.mono (Below.size (B := wS.heap.size) (w := wS) (by repeat (first | exact Below.refl _ _ | refine Below.drew ?_ | refine Below.alloc ?_ (Nat.le_refl _) _)))))) | skip); (first | (have HNz : Hid (w2.heap.size ≤ _ ∧ Blk _ #[.int .i64 0, .string ⟨#[]⟩, .string ⟨#[]⟩, .string ⟨#[]⟩, .string ⟨#[]⟩, .slice none 0 0, .int .i64 0, .slice none 0 0, .slice none 0 0] wE) := ⟨HNz.out.1, Blk.below HNz.out.2 (of_drew hb)⟩) | (have HNz : Hid (w2.heap.size ≤ _ ∧ Blk _ #[.int .i64 0, .string ⟨#[]⟩, .string ⟨#[]⟩, .string ⟨#[]⟩, .string ⟨#[]⟩, .slice none 0 0, .int .i64 0, .slice none 0 0, .slice none 0 0] wE) := ⟨HNz.out.1, Blk.below HNz.out.2 hb⟩) | (have HNz : Hid (w2.heap.size ≤ _ ∧ Blk _ #[.int .i64 0, .string ⟨#[]⟩, .string ⟨#[]⟩, .string ⟨#[]⟩, .string ⟨#[]⟩, .slice none 0 0, .int .i64 0, .slice none 0 0, .slice none 0 0] wE) := ⟨HBc.out.size, Blk.below (Blk.new _ _ _) (of_drew hb)⟩) | (have HNz : Hid (w2.heap.size ≤ _ ∧ Blk _ #[.int .i64 0, .string ⟨#[]⟩, .string ⟨#[]⟩, .string ⟨#[]⟩, .string ⟨#[]⟩, .slice none 0 0, .int .i64 0, .slice none 0 0, .slice none 0 0] wE) := ⟨HBc.out.size, Blk.below (Blk.new _ _ _) hb⟩) | skip); have HBc : Hid (Below w2.heap.size w2 wE) := Below.trans (by repeat (first | exact HBc.out | refine Below.drew ?_ | refine Below.alloc ?_ HBc.out.size _)) (hb.mono (Below.size (B := w2.heap.size) (by repeat (first | exact HBc.out | refine Below.drew ?_ | refine Below.alloc ?_ HBc.out.size _)))); have hAn : Hid (Blk w.heap.size #[.int .i64 ph, .string buf, .string he, .string fr, .string bo, .slice a5 R.length c5, .int .i64 nx, .slice a7 T.length c7, .slice a8 V.length c8] wE) := Blk.below hA2.out HBc.out; have hEn : Hid (Blk (w.heap.size + 1) #[.int .i64 kind, .string d] wE) := Blk.below hE2.out HBc.out; obtain ⟨j0, j1, j2, j3, j4, j5, j6, j7, j8⟩ : wE.cell? ⟨w.heap.size, 0, none⟩ = some (.int .i64 ph) ∧ wE.cell? ⟨w.heap.size, 1, none⟩ = some (.string buf) ∧ wE.cell? ⟨w.heap.size, 2, none⟩ = some (.string he) ∧ wE.cell? ⟨w.heap.size, 3, none⟩ = some (.string fr) ∧ wE.cell? ⟨w.heap.size, 4, none⟩ = some (.string bo) ∧ wE.cell? ⟨w.heap.size, 5, none⟩ = some (.slice a5 R.length c5) ∧ wE.cell? ⟨w.heap.size, 6, none⟩ = some (.int .i64 nx) ∧ wE.cell? ⟨w.heap.size, 7, none⟩ = some (.slice a7 T.length c7) ∧ wE.cell? ⟨w.heap.size, 8, none⟩ = some (.slice a8 V.length c8) := ⟨hAn.out.cell 0, hAn.out.cell 1, hAn.out.cell 2, hAn.out.cell 3, hAn.out.cell 4, hAn.out.cell 5, hAn.out.cell 6, hAn.out.cell 7, hAn.out.cell 8⟩; have o0 : wE.cell? ⟨w.heap.size + 1, 0, none⟩ = some (.int .i64 kind) := hEn.out.cell 0; have o1 : wE.cell? ⟨w.heap.size + 1, 1, none⟩ = some (.string d) := hEn.out.cell 1; have zAn : w.heap.size < wE.heap.size := hAn.out.lt; have zBn : w.heap.size + 1 < wE.heap.size := hEn.out.lt; clear hb) | (go_at_call 11; refine (specFeed ph nx buf he fr bo _ _ _ R T V kind d w2.heap.size _ (strs_below HSr.out.1 (by repeat (first | exact Below.refl _ _ | refine Below.drew ?_ | refine Below.alloc ?_ (Nat.le_refl _) _)) (Nat.le_refl _)) (bls_below HSr.out.2.1 (by repeat (first | exact Below.refl _ _ | refine Below.drew ?_ | refine Below.alloc ?_ (Nat.le_refl _) _)) (Nat.le_refl _)) (vds_below HSr.out.2.2 (by repeat (first | exact Below.refl _ _ | refine Below.drew ?_ | refine Below.alloc ?_ (Nat.le_refl _) _)) (Nat.le_refl _)) HSM.out hds).mono ?_; rw [HQ.out]; rintro e w8 ⟨⟨f1, f2, f3, rfl, S8⟩, hb⟩; obtain ⟨n1, l1, y1⟩ := strs_form2 S8.1; obtain ⟨n2, l2, y2⟩ := bls_form S8.2.1; obtain ⟨n3, l3, y3⟩ := vds_form3 S8.2.2; subst y1; subst y2; subst y3; have HOW : ∀ g, ((Value.slice n1 Q.1.R.length l1).ownBlock = some g ∨ (Value.slice n2 Q.1.T.length l2).ownBlock = some g ∨ (Value.slice n3 Q.1.V.length l3).ownBlock = some g) → _ ≤ g := fun g h => h.elim (fun e => (S8.own.1 g e).1) (fun h => h.elim (fun e => (S8.own.2.1 g e).1) (fun e => (S8.own.2.2 g e).1)); (first | (have HAP : Hid (∀ g, ((Value.slice n1 Q.1.R.length l1).ownBlock = some g ∨ (Value.slice n2 Q.1.T.length l2).ownBlock = some g ∨ (Value.slice n3 Q.1.V.length l3).ownBlock = some g) → g ≠ _) := fun g h => Nat.ne_of_gt (Nat.lt_of_lt_of_le HNz.out.2.lt (HOW g h))) | (have HAP : Hid (∀ g, ((Value.slice n1 Q.1.R.length l1).ownBlock = some g ∨ (Value.slice n2 Q.1.T.length l2).ownBlock = some g ∨ (Value.slice n3 Q.1.V.length l3).ownBlock = some g) → g ≠ wE.heap.size) := fun g h => (by have hh := HOW g h; simp at hh; omega)) | (have HAP : Hid (∀ g, ((Value.slice n1 Q.1.R.length l1).ownBlock = some g ∨ (Value.slice n2 Q.1.T.length l2).ownBlock = some g ∨ (Value.slice n3 Q.1.V.length l3).ownBlock = some g) → g ≠ wS.heap.size) := fun g h => (by have hh := HOW g h; simp at hh; omega)) | skip); clear HOW; have HS8 : Hid (SV w8 w2.heap.size (.slice n1 Q.1.R.length l1) (.slice n2 Q.1.T.length l2) (.slice n3 Q.1.V.length l3) Q.1) := S8.le (Below.size (B := w2.heap.size) (by repeat (first | exact HBc.out | refine Below.drew ?_ | refine Below.alloc ?_ HBc.out.size _))); (first | (have HNz : Hid (w2.heap.size ≤ _ ∧ Blk _ #[.int .i64 0, .string ⟨#[]⟩, .string ⟨#[]⟩, .string ⟨#[]⟩, .string ⟨#[]⟩, .slice none 0 0, .int .i64 0, .slice none 0 0, .slice none 0 0] w8) := ⟨HNz.out.1, Blk.below HNz.out.2 (of_drew hb)⟩) | (have HNz : Hid (w2.heap.size ≤ _ ∧ Blk _ #[.int .i64 0, .string ⟨#[]⟩, .string ⟨#[]⟩, .string ⟨#[]⟩, .string ⟨#[]⟩, .slice none 0 0, .int .i64 0, .slice none 0 0, .slice none 0 0] w8) := ⟨HNz.out.1, Blk.below HNz.out.2 hb⟩) | (have HNz : Hid (w2.heap.size ≤ _ ∧ Blk _ #[.int .i64 0, .string ⟨#[]⟩, .string ⟨#[]⟩, .string ⟨#[]⟩, .string ⟨#[]⟩, .slice none 0 0, .int .i64 0, .slice none 0 0, .slice none 0 0] w8) := ⟨HBc.out.size, Blk.below (Blk.new _ _ _) (of_drew hb)⟩) | (have HNz : Hid (w2.heap.size ≤ _ ∧ Blk _ #[.int .i64 0, .string ⟨#[]⟩, .string ⟨#[]⟩, .string ⟨#[]⟩, .string ⟨#[]⟩, .slice none 0 0, .int .i64 0, .slice none 0 0, .slice none 0 0] w8) := ⟨HBc.out.size, Blk.below (Blk.new _ _ _) hb⟩) | skip); have HBc : Hid (Below w2.heap.size w2 w8) := Below.trans (by repeat (first | exact HBc.out | refine Below.drew ?_ | refine Below.alloc ?_ HBc.out.size _)) (hb.mono (Below.size (B := w2.heap.size) (by repeat (first | exact HBc.out | refine Below.drew ?_ | refine Below.alloc ?_ HBc.out.size _)))); have hAn : Hid (Blk w.heap.size #[.int .i64 ph, .string buf, .string he, .string fr, .string bo, .slice a5 R.length c5, .int .i64 nx, .slice a7 T.length c7, .slice a8 V.length c8] w8) := Blk.below hA2.out HBc.out; have hEn : Hid (Blk (w.heap.size + 1) #[.int .i64 kind, .string d] w8) := Blk.below hE2.out HBc.out; obtain ⟨j0, j1, j2, j3, j4, j5, j6, j7, j8⟩ : w8.cell? ⟨w.heap.size, 0, none⟩ = some (.int .i64 ph) ∧ w8.cell? ⟨w.heap.size, 1, none⟩ = some (.string buf) ∧ w8.cell? ⟨w.heap.size, 2, none⟩ = some (.string he) ∧ w8.cell? ⟨w.heap.size, 3, none⟩ = some (.string fr) ∧ w8.cell? ⟨w.heap.size, 4, none⟩ = some (.string bo) ∧ w8.cell? ⟨w.heap.size, 5, none⟩ = some (.slice a5 R.length c5) ∧ w8.cell? ⟨w.heap.size, 6, none⟩ = some (.int .i64 nx) ∧ w8.cell? ⟨w.heap.size, 7, none⟩ = some (.slice a7 T.length c7) ∧ w8.cell? ⟨w.heap.size, 8, none⟩ = some (.slice a8 V.length c8) := ⟨hAn.out.cell 0, hAn.out.cell 1, hAn.out.cell 2, hAn.out.cell 3, hAn.out.cell 4, hAn.out.cell 5, hAn.out.cell 6, hAn.out.cell 7, hAn.out.cell 8⟩; have o0 : w8.cell? ⟨w.heap.size + 1, 0, none⟩ = some (.int .i64 kind) := hEn.out.cell 0; have o1 : w8.cell? ⟨w.heap.size + 1, 1, none⟩ = some (.string d) := hEn.out.cell 1; have zAn : w.heap.size < w8.heap.size := hAn.out.lt; have zBn : w.heap.size + 1 < w8.heap.size := hEn.out.lt; (try (have h0 : w8.cell? ⟨_, 0, none⟩ = some (.int .i64 0) := HNz.out.2.cell 0; have h1 : w8.cell? ⟨_, 1, none⟩ = some (.string ⟨#[]⟩) := HNz.out.2.cell 1; have h2 : w8.cell? ⟨_, 2, none⟩ = some (.string ⟨#[]⟩) := HNz.out.2.cell 2; have h3 : w8.cell? ⟨_, 3, none⟩ = some (.string ⟨#[]⟩) := HNz.out.2.cell 3; have h4 : w8.cell? ⟨_, 4, none⟩ = some (.string ⟨#[]⟩) := HNz.out.2.cell 4; have h5 : w8.cell? ⟨_, 5, none⟩ = some (.slice none 0 0) := HNz.out.2.cell 5; have h6 : w8.cell? ⟨_, 6, none⟩ = some (.int .i64 0) := HNz.out.2.cell 6; have h7 : w8.cell? ⟨_, 7, none⟩ = some (.slice none 0 0) := HNz.out.2.cell 7; have h8 : w8.cell? ⟨_, 8, none⟩ = some (.slice none 0 0) := HNz.out.2.cell 8; have g0 : w8.frozen? ⟨_, 0, none⟩ = false := HNz.out.2.free 0; have g1 : w8.frozen? ⟨_, 1, none⟩ = false := HNz.out.2.free 1; have g2 : w8.frozen? ⟨_, 2, none⟩ = false := HNz.out.2.free 2; have g3 : w8.frozen? ⟨_, 3, none⟩ = false := HNz.out.2.free 3; have g4 : w8.frozen? ⟨_, 4, none⟩ = false := HNz.out.2.free 4; have g5 : w8.frozen? ⟨_, 5, none⟩ = false := HNz.out.2.free 5; have g6 : w8.frozen? ⟨_, 6, none⟩ = false := HNz.out.2.free 6; have g7 : w8.frozen? ⟨_, 7, none⟩ = false := HNz.out.2.free 7; have g8 : w8.frozen? ⟨_, 8, none⟩ = false := HNz.out.2.free 8; have q1 : ¬ _ = w.heap.size := Nat.ne_of_gt (Nat.lt_of_lt_of_le zA HNz.out.1); have q2 : ¬ w.heap.size = _ := Nat.ne_of_lt (Nat.lt_of_lt_of_le zA HNz.out.1); have q3 : ¬ _ = w.heap.size + 1 := Nat.ne_of_gt (Nat.lt_of_lt_of_le zB HNz.out.1); have q4 : ¬ w.heap.size + 1 = _ := Nat.ne_of_lt (Nat.lt_of_lt_of_le zB HNz.out.1))); clear S8 hb))
    all_goals
      go_wp2_with fail
      go_meet
      first
        | exact ⟨_, _, _, _, rfl, rfl, ⟨HNz.out.1, blk_nine HNz.out.2 _ _ _ _ _ _ _ _ _, nine_ne HS8.out (fun g hg => HAP.out g (.inl hg)) (fun g hg => HAP.out g (.inr (.inl hg))) (fun g hg => HAP.out g (.inr (.inr hg))) _ _ _ _ _ _ _ _ _, fun e => HAP.out _ (.inl e) rfl, fun e => HAP.out _ (.inr (.inl e)) rfl, fun e => HAP.out _ (.inr (.inr e)) rfl, below_nine HBc.out HNz.out.1 _ _ _ _ _ _ _ _ _⟩⟩
        | exact ⟨_, _, _, _, rfl, rfl, ⟨HBc.out.size, Blk.new w8 _ _, HS8.out.below (below1 _ _) (Nat.le_refl _), fun e => Nat.lt_irrefl _ (HS8.out.own.1 _ e).2, fun e => Nat.lt_irrefl _ (HS8.out.own.2.1 _ e).2, fun e => Nat.lt_irrefl _ (HS8.out.own.2.2 _ e).2, HBc.out.trans ((below1 _ _).mono HBc.out.size)⟩⟩
  case rest =>
    obtain ⟨B0, y1, y2, y3, rfl, rfl, HF0⟩ := hcut
    obtain ⟨wA, hwA⟩ : ∃ wA : World, wA = wc := ⟨wc, rfl⟩
    subst hwA
    obtain ⟨fB, fSB, fSV, fn1, fn2, fn3, fBw⟩ := HF0.out
    have HB0 : Hid (SB B0 Q.1 y1 y2 y3 wA) := fSB
    have HV0 : Hid (SV wA w2.heap.size y1 y2 y3 Q.1) := fSV
    have b3 : Below w.heap.size w wA := b2.trans (fBw.mono b2.size)
    have hA3 : Hid (Blk w.heap.size #[.int .i64 ph, .string buf, .string he, .string fr, .string bo, .slice a5 R.length c5, .int .i64 nx, .slice a7 T.length c7, .slice a8 V.length c8] wA) := Blk.below hA2.out fBw
    have hE3 : Hid (Blk (w.heap.size + 1) #[.int .i64 kind, .string d] wA) := Blk.below hE2.out fBw
    have z2 : w.heap.size + 1 < w2.heap.size := hE2.out.lt
    clear t0 t1 t2 t3 t4 t5 t6 t7 t8 x0 x1 fSB fSV
    obtain ⟨t0, t1, t2, t3, t4, t5, t6, t7, t8⟩ : wA.cell? ⟨w.heap.size, 0, none⟩ = some (.int .i64 ph) ∧ wA.cell? ⟨w.heap.size, 1, none⟩ = some (.string buf) ∧ wA.cell? ⟨w.heap.size, 2, none⟩ = some (.string he) ∧ wA.cell? ⟨w.heap.size, 3, none⟩ = some (.string fr) ∧ wA.cell? ⟨w.heap.size, 4, none⟩ = some (.string bo) ∧ wA.cell? ⟨w.heap.size, 5, none⟩ = some (.slice a5 R.length c5) ∧ wA.cell? ⟨w.heap.size, 6, none⟩ = some (.int .i64 nx) ∧ wA.cell? ⟨w.heap.size, 7, none⟩ = some (.slice a7 T.length c7) ∧ wA.cell? ⟨w.heap.size, 8, none⟩ = some (.slice a8 V.length c8) := ⟨hA3.out.cell 0, hA3.out.cell 1, hA3.out.cell 2, hA3.out.cell 3, hA3.out.cell 4, hA3.out.cell 5, hA3.out.cell 6, hA3.out.cell 7, hA3.out.cell 8⟩
    go_wp2_with fail
    refine (HTS.out wA b3).mono ?_
    rintro e w4 ⟨⟨z1, o1, z2, o2, z3, o3, rfl, r1, r2, r3⟩, hb4⟩
    have HX4 : Hid (Strs w4 wA.heap.size (.slice z1 R.length o1) R ∧ Bls w4 wA.heap.size (.slice z2 T.length o2) T ∧ Vds w4 wA.heap.size (.slice z3 V.length o3) V) := ⟨r1, r2, r3⟩
    clear r1 r2 r3 t0 t1 t2 t3 t4 t5 t6 t7 t8
    go_wp2_with fail
    generalize hW5 : World.alloc _ _ = W5
    have hb5 : Below w4.heap.size w4 W5 := by rw [← hW5]; exact below1 _ _
    have hX5 : Hid (Blk w4.heap.size #[.int .i64 ph, .string buf, .string he, .string fr, .string bo, .slice z1 R.length o1, .int .i64 nx, .slice z2 T.length o2, .slice z3 V.length o3] W5) := by show Blk _ _ _; rw [← hW5]; exact Blk.new _ _ _
    have b45 : Below wA.heap.size wA W5 := hb4.trans (hb5.mono hb4.size)
    have b5 : Below w.heap.size w W5 := b3.trans (b45.mono b3.size)
    have hA5 : Hid (Blk w.heap.size #[.int .i64 ph, .string buf, .string he, .string fr, .string bo, .slice a5 R.length c5, .int .i64 nx, .slice a7 T.length c7, .slice a8 V.length c8] W5) := Blk.below hA3.out b45
    have hE5 : Hid (Blk (w.heap.size + 1) #[.int .i64 kind, .string d] W5) := Blk.below hE3.out b45
    have HB5 : Hid (SB B0 Q.1 y1 y2 y3 W5) := SB.below HB0.out b45
    have HV5 : Hid (SV W5 w2.heap.size y1 y2 y3 Q.1) := HV0.out.below b45 (Nat.le_refl _)
    have HX5 : Hid (Strs W5 wA.heap.size (.slice z1 R.length o1) R ∧ Bls W5 wA.heap.size (.slice z2 T.length o2) T ∧ Vds W5 wA.heap.size (.slice z3 V.length o3) V) := ⟨strs_below HX4.out.1 hb5 (Nat.le_refl _), bls_below HX4.out.2.1 hb5 (Nat.le_refl _), vds_below HX4.out.2.2 hb5 (Nat.le_refl _)⟩
    have e5 := hb4.size
    have HYb : Hid (∀ v ∈ [y1, y2, y3], ∀ g, v.ownBlock = some g → w2.heap.size ≤ g ∧ g < wA.heap.size) := HV0.out.mem3
    have HZb : Hid (∀ v ∈ ([.slice z1 R.length o1, .slice z2 T.length o2, .slice z3 V.length o3] : List Value), ∀ g, v.ownBlock = some g → wA.heap.size ≤ g ∧ g < w4.heap.size) := SV.mem3 (s := ⟨0, buf, he, fr, bo, R, 0, T, V⟩) HX4.out
    have e7 : B0 < wA.heap.size := HB0.out.lt
    have e8 : w4.heap.size < W5.heap.size := hX5.out.lt
    have e6 := fBw.size
    clear hW5 hb5 b45 hb4 hA3 hE3 HB0 HV0 b3 HX4 fBw
    obtain ⟨t0, t1, t2, t3, t4, t5, t6, t7, t8⟩ : W5.cell? ⟨w4.heap.size, 0, none⟩ = some (.int .i64 ph) ∧ W5.cell? ⟨w4.heap.size, 1, none⟩ = some (.string buf) ∧ W5.cell? ⟨w4.heap.size, 2, none⟩ = some (.string he) ∧ W5.cell? ⟨w4.heap.size, 3, none⟩ = some (.string fr) ∧ W5.cell? ⟨w4.heap.size, 4, none⟩ = some (.string bo) ∧ W5.cell? ⟨w4.heap.size, 5, none⟩ = some (.slice z1 R.length o1) ∧ W5.cell? ⟨w4.heap.size, 6, none⟩ = some (.int .i64 nx) ∧ W5.cell? ⟨w4.heap.size, 7, none⟩ = some (.slice z2 T.length o2) ∧ W5.cell? ⟨w4.heap.size, 8, none⟩ = some (.slice z3 V.length o3) := ⟨hX5.out.cell 0, hX5.out.cell 1, hX5.out.cell 2, hX5.out.cell 3, hX5.out.cell 4, hX5.out.cell 5, hX5.out.cell 6, hX5.out.cell 7, hX5.out.cell 8⟩
    have x0 : W5.cell? ⟨w.heap.size + 1, 0, none⟩ = some (.int .i64 kind) := hE5.out.cell 0
    have x1 : W5.cell? ⟨w.heap.size + 1, 1, none⟩ = some (.string d) := hE5.out.cell 1
    go_cut [9, 10] (fun pv xv wx => ∃ B u1 u2 u3, pv = .pointer (some ⟨B, 0, none⟩) ∧ xv = .string Q.2 ∧ Hid (FR W5.heap.size B Q.1 u1 u2 u3 W5 wx))
    case first =>
      have HBc : Hid (Below W5.heap.size W5 W5) := (Below.refl _ _ : Below _ _ _)
      have zA : w4.heap.size < W5.heap.size := hX5.out.lt
      have zB : w.heap.size + 1 < W5.heap.size := hE5.out.lt
      have HSr : Hid (Strs W5 wA.heap.size (.slice z1 R.length o1) R ∧ Bls W5 wA.heap.size (.slice z2 T.length o2) T ∧ Vds W5 wA.heap.size (.slice z3 V.length o3) V) := HX5
      go_region_held3 (fun w' => w'.cell? ⟨w4.heap.size, 0, none⟩ = some (.int .i64 ph) ∧ w'.cell? ⟨w4.heap.size, 1, none⟩ = some (.string buf) ∧ w'.cell? ⟨w4.heap.size, 2, none⟩ = some (.string he) ∧ w'.cell? ⟨w4.heap.size, 3, none⟩ = some (.string fr) ∧ w'.cell? ⟨w4.heap.size, 4, none⟩ = some (.string bo) ∧ w'.cell? ⟨w4.heap.size, 5, none⟩ = some (.slice z1 R.length o1) ∧ w'.cell? ⟨w4.heap.size, 6, none⟩ = some (.int .i64 nx) ∧ w'.cell? ⟨w4.heap.size, 7, none⟩ = some (.slice z2 T.length o2) ∧ w'.cell? ⟨w4.heap.size, 8, none⟩ = some (.slice z3 V.length o3) ∧ w'.cell? ⟨w.heap.size + 1, 0, none⟩ = some (.int .i64 kind) ∧ w'.cell? ⟨w.heap.size + 1, 1, none⟩ = some (.string d)) (first | (simp only [j0, j1, j2, j3, j4, j5, j6, j7, j8, i0, i1, and_self]; done) | go_keep) (first | (go_at_call 20; refine (toEv kind d _).mono ?_; rintro e wE ⟨rfl, hb⟩; (first | (have HSr : Hid (Strs wE wA.heap.size (.slice z1 R.length o1) R ∧ Bls wE wA.heap.size (.slice z2 T.length o2) T ∧ Vds wE wA.heap.size (.slice z3 V.length o3) V) := (fun hx => ⟨strs_below HSr.out.1 hx (Nat.le_refl _), bls_below HSr.out.2.1 hx (Nat.le_refl _), vds_below HSr.out.2.2 hx (Nat.le_refl _)⟩) (Below.trans (by repeat (first | exact Below.refl _ _ | refine Below.drew ?_ | refine Below.alloc ?_ (Nat.le_refl _) _)) (hb.mono (Below.size (B := W5.heap.size) (w := W5) (by repeat (first | exact Below.refl _ _ | refine Below.drew ?_ | refine Below.alloc ?_ (Nat.le_refl _) _)))))) | skip); (first | (have HNz : Hid (W5.heap.size ≤ _ ∧ Blk _ #[.int .i64 0, .string ⟨#[]⟩, .string ⟨#[]⟩, .string ⟨#[]⟩, .string ⟨#[]⟩, .slice none 0 0, .int .i64 0, .slice none 0 0, .slice none 0 0] wE) := ⟨HNz.out.1, Blk.below HNz.out.2 (of_drew hb)⟩) | (have HNz : Hid (W5.heap.size ≤ _ ∧ Blk _ #[.int .i64 0, .string ⟨#[]⟩, .string ⟨#[]⟩, .string ⟨#[]⟩, .string ⟨#[]⟩, .slice none 0 0, .int .i64 0, .slice none 0 0, .slice none 0 0] wE) := ⟨HNz.out.1, Blk.below HNz.out.2 hb⟩) | (have HNz : Hid (W5.heap.size ≤ _ ∧ Blk _ #[.int .i64 0, .string ⟨#[]⟩, .string ⟨#[]⟩, .string ⟨#[]⟩, .string ⟨#[]⟩, .slice none 0 0, .int .i64 0, .slice none 0 0, .slice none 0 0] wE) := ⟨HBc.out.size, Blk.below (Blk.new _ _ _) (of_drew hb)⟩) | (have HNz : Hid (W5.heap.size ≤ _ ∧ Blk _ #[.int .i64 0, .string ⟨#[]⟩, .string ⟨#[]⟩, .string ⟨#[]⟩, .string ⟨#[]⟩, .slice none 0 0, .int .i64 0, .slice none 0 0, .slice none 0 0] wE) := ⟨HBc.out.size, Blk.below (Blk.new _ _ _) hb⟩) | skip); have HBc : Hid (Below W5.heap.size W5 wE) := Below.trans (by repeat (first | exact HBc.out | refine Below.drew ?_ | refine Below.alloc ?_ HBc.out.size _)) (hb.mono (Below.size (B := W5.heap.size) (by repeat (first | exact HBc.out | refine Below.drew ?_ | refine Below.alloc ?_ HBc.out.size _)))); have hAn : Hid (Blk w4.heap.size #[.int .i64 ph, .string buf, .string he, .string fr, .string bo, .slice z1 R.length o1, .int .i64 nx, .slice z2 T.length o2, .slice z3 V.length o3] wE) := Blk.below hX5.out HBc.out; have hEn : Hid (Blk (w.heap.size + 1) #[.int .i64 kind, .string d] wE) := Blk.below hE5.out HBc.out; obtain ⟨j0, j1, j2, j3, j4, j5, j6, j7, j8⟩ : wE.cell? ⟨w4.heap.size, 0, none⟩ = some (.int .i64 ph) ∧ wE.cell? ⟨w4.heap.size, 1, none⟩ = some (.string buf) ∧ wE.cell? ⟨w4.heap.size, 2, none⟩ = some (.string he) ∧ wE.cell? ⟨w4.heap.size, 3, none⟩ = some (.string fr) ∧ wE.cell? ⟨w4.heap.size, 4, none⟩ = some (.string bo) ∧ wE.cell? ⟨w4.heap.size, 5, none⟩ = some (.slice z1 R.length o1) ∧ wE.cell? ⟨w4.heap.size, 6, none⟩ = some (.int .i64 nx) ∧ wE.cell? ⟨w4.heap.size, 7, none⟩ = some (.slice z2 T.length o2) ∧ wE.cell? ⟨w4.heap.size, 8, none⟩ = some (.slice z3 V.length o3) := ⟨hAn.out.cell 0, hAn.out.cell 1, hAn.out.cell 2, hAn.out.cell 3, hAn.out.cell 4, hAn.out.cell 5, hAn.out.cell 6, hAn.out.cell 7, hAn.out.cell 8⟩; have i0 : wE.cell? ⟨w.heap.size + 1, 0, none⟩ = some (.int .i64 kind) := hEn.out.cell 0; have i1 : wE.cell? ⟨w.heap.size + 1, 1, none⟩ = some (.string d) := hEn.out.cell 1; have zAn : w4.heap.size < wE.heap.size := hAn.out.lt; have zBn : w.heap.size + 1 < wE.heap.size := hEn.out.lt; clear hb) | (go_at_call 10; refine (implFeed ph nx buf he fr bo _ _ _ R T V kind d wA.heap.size _ (strs_below HSr.out.1 (by repeat (first | exact Below.refl _ _ | refine Below.drew ?_ | refine Below.alloc ?_ (Nat.le_refl _) _)) (Nat.le_refl _)) (bls_below HSr.out.2.1 (by repeat (first | exact Below.refl _ _ | refine Below.drew ?_ | refine Below.alloc ?_ (Nat.le_refl _) _)) (Nat.le_refl _)) (vds_below HSr.out.2.2 (by repeat (first | exact Below.refl _ _ | refine Below.drew ?_ | refine Below.alloc ?_ (Nat.le_refl _) _)) (Nat.le_refl _)) HSM.out (len_below HL.out (b5.trans (Below.mono (by repeat (first | exact HBc.out | refine Below.drew ?_ | refine Below.alloc ?_ HBc.out.size _)) b5.size))) (HFo.out.below (b5.trans (Below.mono (by repeat (first | exact HBc.out | refine Below.drew ?_ | refine Below.alloc ?_ HBc.out.size _)) b5.size))) hds).mono ?_; rw [HQ.out]; rintro e w8 ⟨⟨f1, f2, f3, rfl, S8⟩, hb⟩; obtain ⟨n1, l1, y1⟩ := strs_form2 S8.1; obtain ⟨n2, l2, y2⟩ := bls_form S8.2.1; obtain ⟨n3, l3, y3⟩ := vds_form3 S8.2.2; subst y1; subst y2; subst y3; have HOW : ∀ g, ((Value.slice n1 Q.1.R.length l1).ownBlock = some g ∨ (Value.slice n2 Q.1.T.length l2).ownBlock = some g ∨ (Value.slice n3 Q.1.V.length l3).ownBlock = some g) → _ ≤ g := fun g h => h.elim (fun e => (S8.own.1 g e).1) (fun h => h.elim (fun e => (S8.own.2.1 g e).1) (fun e => (S8.own.2.2 g e).1)); (first | (have HAP : Hid (∀ g, ((Value.slice n1 Q.1.R.length l1).ownBlock = some g ∨ (Value.slice n2 Q.1.T.length l2).ownBlock = some g ∨ (Value.slice n3 Q.1.V.length l3).ownBlock = some g) → g ≠ _) := fun g h => Nat.ne_of_gt (Nat.lt_of_lt_of_le HNz.out.2.lt (HOW g h))) | (have HAP : Hid (∀ g, ((Value.slice n1 Q.1.R.length l1).ownBlock = some g ∨ (Value.slice n2 Q.1.T.length l2).ownBlock = some g ∨ (Value.slice n3 Q.1.V.length l3).ownBlock = some g) → g ≠ wE.heap.size) := fun g h => (by have hh := HOW g h; simp at hh; omega)) | (have HAP : Hid (∀ g, ((Value.slice n1 Q.1.R.length l1).ownBlock = some g ∨ (Value.slice n2 Q.1.T.length l2).ownBlock = some g ∨ (Value.slice n3 Q.1.V.length l3).ownBlock = some g) → g ≠ W5.heap.size) := fun g h => (by have hh := HOW g h; simp at hh; omega)) | skip); clear HOW; have HS8 : Hid (SV w8 W5.heap.size (.slice n1 Q.1.R.length l1) (.slice n2 Q.1.T.length l2) (.slice n3 Q.1.V.length l3) Q.1) := S8.le (Below.size (B := W5.heap.size) (by repeat (first | exact HBc.out | refine Below.drew ?_ | refine Below.alloc ?_ HBc.out.size _))); (first | (have HNz : Hid (W5.heap.size ≤ _ ∧ Blk _ #[.int .i64 0, .string ⟨#[]⟩, .string ⟨#[]⟩, .string ⟨#[]⟩, .string ⟨#[]⟩, .slice none 0 0, .int .i64 0, .slice none 0 0, .slice none 0 0] w8) := ⟨HNz.out.1, Blk.below HNz.out.2 (of_drew hb)⟩) | (have HNz : Hid (W5.heap.size ≤ _ ∧ Blk _ #[.int .i64 0, .string ⟨#[]⟩, .string ⟨#[]⟩, .string ⟨#[]⟩, .string ⟨#[]⟩, .slice none 0 0, .int .i64 0, .slice none 0 0, .slice none 0 0] w8) := ⟨HNz.out.1, Blk.below HNz.out.2 hb⟩) | (have HNz : Hid (W5.heap.size ≤ _ ∧ Blk _ #[.int .i64 0, .string ⟨#[]⟩, .string ⟨#[]⟩, .string ⟨#[]⟩, .string ⟨#[]⟩, .slice none 0 0, .int .i64 0, .slice none 0 0, .slice none 0 0] w8) := ⟨HBc.out.size, Blk.below (Blk.new _ _ _) (of_drew hb)⟩) | (have HNz : Hid (W5.heap.size ≤ _ ∧ Blk _ #[.int .i64 0, .string ⟨#[]⟩, .string ⟨#[]⟩, .string ⟨#[]⟩, .string ⟨#[]⟩, .slice none 0 0, .int .i64 0, .slice none 0 0, .slice none 0 0] w8) := ⟨HBc.out.size, Blk.below (Blk.new _ _ _) hb⟩) | skip); have HBc : Hid (Below W5.heap.size W5 w8) := Below.trans (by repeat (first | exact HBc.out | refine Below.drew ?_ | refine Below.alloc ?_ HBc.out.size _)) (hb.mono (Below.size (B := W5.heap.size) (by repeat (first | exact HBc.out | refine Below.drew ?_ | refine Below.alloc ?_ HBc.out.size _)))); have hAn : Hid (Blk w4.heap.size #[.int .i64 ph, .string buf, .string he, .string fr, .string bo, .slice z1 R.length o1, .int .i64 nx, .slice z2 T.length o2, .slice z3 V.length o3] w8) := Blk.below hX5.out HBc.out; have hEn : Hid (Blk (w.heap.size + 1) #[.int .i64 kind, .string d] w8) := Blk.below hE5.out HBc.out; obtain ⟨j0, j1, j2, j3, j4, j5, j6, j7, j8⟩ : w8.cell? ⟨w4.heap.size, 0, none⟩ = some (.int .i64 ph) ∧ w8.cell? ⟨w4.heap.size, 1, none⟩ = some (.string buf) ∧ w8.cell? ⟨w4.heap.size, 2, none⟩ = some (.string he) ∧ w8.cell? ⟨w4.heap.size, 3, none⟩ = some (.string fr) ∧ w8.cell? ⟨w4.heap.size, 4, none⟩ = some (.string bo) ∧ w8.cell? ⟨w4.heap.size, 5, none⟩ = some (.slice z1 R.length o1) ∧ w8.cell? ⟨w4.heap.size, 6, none⟩ = some (.int .i64 nx) ∧ w8.cell? ⟨w4.heap.size, 7, none⟩ = some (.slice z2 T.length o2) ∧ w8.cell? ⟨w4.heap.size, 8, none⟩ = some (.slice z3 V.length o3) := ⟨hAn.out.cell 0, hAn.out.cell 1, hAn.out.cell 2, hAn.out.cell 3, hAn.out.cell 4, hAn.out.cell 5, hAn.out.cell 6, hAn.out.cell 7, hAn.out.cell 8⟩; have i0 : w8.cell? ⟨w.heap.size + 1, 0, none⟩ = some (.int .i64 kind) := hEn.out.cell 0; have i1 : w8.cell? ⟨w.heap.size + 1, 1, none⟩ = some (.string d) := hEn.out.cell 1; have zAn : w4.heap.size < w8.heap.size := hAn.out.lt; have zBn : w.heap.size + 1 < w8.heap.size := hEn.out.lt; (try (have h0 : w8.cell? ⟨_, 0, none⟩ = some (.int .i64 0) := HNz.out.2.cell 0; have h1 : w8.cell? ⟨_, 1, none⟩ = some (.string ⟨#[]⟩) := HNz.out.2.cell 1; have h2 : w8.cell? ⟨_, 2, none⟩ = some (.string ⟨#[]⟩) := HNz.out.2.cell 2; have h3 : w8.cell? ⟨_, 3, none⟩ = some (.string ⟨#[]⟩) := HNz.out.2.cell 3; have h4 : w8.cell? ⟨_, 4, none⟩ = some (.string ⟨#[]⟩) := HNz.out.2.cell 4; have h5 : w8.cell? ⟨_, 5, none⟩ = some (.slice none 0 0) := HNz.out.2.cell 5; have h6 : w8.cell? ⟨_, 6, none⟩ = some (.int .i64 0) := HNz.out.2.cell 6; have h7 : w8.cell? ⟨_, 7, none⟩ = some (.slice none 0 0) := HNz.out.2.cell 7; have h8 : w8.cell? ⟨_, 8, none⟩ = some (.slice none 0 0) := HNz.out.2.cell 8; have g0 : w8.frozen? ⟨_, 0, none⟩ = false := HNz.out.2.free 0; have g1 : w8.frozen? ⟨_, 1, none⟩ = false := HNz.out.2.free 1; have g2 : w8.frozen? ⟨_, 2, none⟩ = false := HNz.out.2.free 2; have g3 : w8.frozen? ⟨_, 3, none⟩ = false := HNz.out.2.free 3; have g4 : w8.frozen? ⟨_, 4, none⟩ = false := HNz.out.2.free 4; have g5 : w8.frozen? ⟨_, 5, none⟩ = false := HNz.out.2.free 5; have g6 : w8.frozen? ⟨_, 6, none⟩ = false := HNz.out.2.free 6; have g7 : w8.frozen? ⟨_, 7, none⟩ = false := HNz.out.2.free 7; have g8 : w8.frozen? ⟨_, 8, none⟩ = false := HNz.out.2.free 8; have q1 : ¬ _ = w4.heap.size := Nat.ne_of_gt (Nat.lt_of_lt_of_le zA HNz.out.1); have q2 : ¬ w4.heap.size = _ := Nat.ne_of_lt (Nat.lt_of_lt_of_le zA HNz.out.1); have q3 : ¬ _ = w.heap.size + 1 := Nat.ne_of_gt (Nat.lt_of_lt_of_le zB HNz.out.1); have q4 : ¬ w.heap.size + 1 = _ := Nat.ne_of_lt (Nat.lt_of_lt_of_le zB HNz.out.1))); clear S8 hb))
      all_goals
        go_wp2_with fail
        go_meet
        first
          | exact ⟨_, _, _, _, rfl, rfl, ⟨HNz.out.1, blk_nine HNz.out.2 _ _ _ _ _ _ _ _ _, nine_ne HS8.out (fun g hg => HAP.out g (.inl hg)) (fun g hg => HAP.out g (.inr (.inl hg))) (fun g hg => HAP.out g (.inr (.inr hg))) _ _ _ _ _ _ _ _ _, fun e => HAP.out _ (.inl e) rfl, fun e => HAP.out _ (.inr (.inl e)) rfl, fun e => HAP.out _ (.inr (.inr e)) rfl, below_nine HBc.out HNz.out.1 _ _ _ _ _ _ _ _ _⟩⟩
          | exact ⟨_, _, _, _, rfl, rfl, ⟨HBc.out.size, Blk.new w8 _ _, HS8.out.below (below1 _ _) (Nat.le_refl _), fun e => Nat.lt_irrefl _ (HS8.out.own.1 _ e).2, fun e => Nat.lt_irrefl _ (HS8.out.own.2.1 _ e).2, fun e => Nat.lt_irrefl _ (HS8.out.own.2.2 _ e).2, HBc.out.trans ((below1 _ _).mono HBc.out.size)⟩⟩
    case rest =>
      obtain ⟨B2, f1, f2, f3, rfl, rfl, HF2⟩ := hcut
      obtain ⟨gB, gSB, gSV, gn1, gn2, gn3, gBw⟩ := HF2.out
      clear t0 t1 t2 t3 t4 t5 t6 t7 t8 x0 x1
      have HB6 : Hid (SB B0 Q.1 y1 y2 y3 wc) := SB.below HB5.out gBw
      have HV6 : Hid (SV wc w2.heap.size y1 y2 y3 Q.1) := HV5.out.below gBw (Nat.le_refl _)
      have HG6 : Hid (SB B2 Q.1 f1 f2 f3 wc) := gSB
      have HW6 : Hid (SV wc W5.heap.size f1 f2 f3 Q.1) := gSV
      have hX6 : Hid (Blk w4.heap.size #[.int .i64 ph, .string buf, .string he, .string fr, .string bo, .slice z1 R.length o1, .int .i64 nx, .slice z2 T.length o2, .slice z3 V.length o3] wc) := Blk.below hX5.out gBw
      have hA6 : Hid (Blk w.heap.size #[.int .i64 ph, .string buf, .string he, .string fr, .string bo, .slice a5 R.length c5, .int .i64 nx, .slice a7 T.length c7, .slice a8 V.length c8] wc) := Blk.below hA5.out gBw
      have hE6 : Hid (Blk (w.heap.size + 1) #[.int .i64 kind, .string d] wc) := Blk.below hE5.out gBw
      have b6 : Below w.heap.size w wc := b5.trans (gBw.mono b5.size)
      have HFb : Hid (∀ v ∈ [f1, f2, f3], ∀ g, v.ownBlock = some g → W5.heap.size ≤ g) := fun v hv g hg => (SV.mem3 gSV v hv g hg).1
      clear gSB gSV HB5 HV5 hX5 hA5 hE5
      obtain ⟨d0, d1, d2, d3, d4, d5, d6, d7, d8⟩ := HG6.out.cells
      obtain ⟨i0, i1, i2, i3, i4, i5, i6, i7, i8⟩ := HB6.out.cells
      go_wp2_with fail
      refine (eqSess Q.1.ph (Q.1.nx : Int) Q.1.buf Q.1.he Q.1.fr Q.1.bo _ _ _ _ _ _ Q.1.R Q.1.T Q.1.V W5.heap.size w2.heap.size wc HW6.out.1 HW6.out.2.1 HW6.out.2.2 HV6.out.1 HV6.out.2.1 HV6.out.2.2).mono ?_
      rintro e w7 ⟨rfl, hb7⟩
      clear d0 d1 d2 d3 d4 d5 d6 d7 d8 i0 i1 i2 i3 i4 i5 i6 i7 i8
      have hX7 : Hid (Blk w4.heap.size #[.int .i64 ph, .string buf, .string he, .string fr, .string bo, .slice z1 R.length o1, .int .i64 nx, .slice z2 T.length o2, .slice z3 V.length o3] w7) := Blk.below hX6.out hb7
      have hA7 : Hid (Blk w.heap.size #[.int .i64 ph, .string buf, .string he, .string fr, .string bo, .slice a5 R.length c5, .int .i64 nx, .slice a7 T.length c7, .slice a8 V.length c8] w7) := Blk.below hA6.out hb7
      have hE7 : Hid (Blk (w.heap.size + 1) #[.int .i64 kind, .string d] w7) := Blk.below hE6.out hb7
      have HB7 : Hid (SB B0 Q.1 y1 y2 y3 w7) := SB.below HB6.out hb7
      have HV7 : Hid (SV w7 w2.heap.size y1 y2 y3 Q.1) := HV6.out.below hb7 (Nat.le_refl _)
      have HG7 : Hid (SB B2 Q.1 f1 f2 f3 w7) := SB.below HG6.out hb7
      have HW7 : Hid (SV w7 W5.heap.size f1 f2 f3 Q.1) := HW6.out.below hb7 (Nat.le_refl _)
      have b57 : Below W5.heap.size W5 w7 := gBw.trans (hb7.mono gBw.size)
      have b7 : Below w.heap.size w w7 := b6.trans (hb7.mono b6.size)
      have HX7 : Hid (Strs w7 wA.heap.size (.slice z1 R.length o1) R ∧ Bls w7 wA.heap.size (.slice z2 T.length o2) T ∧ Vds w7 wA.heap.size (.slice z3 V.length o3) V) := ⟨strs_below HX5.out.1 b57 (Nat.le_refl _), bls_below HX5.out.2.1 b57 (Nat.le_refl _), vds_below HX5.out.2.2 b57 (Nat.le_refl _)⟩
      clear hX6 hA6 hE6 HB6 HV6 HG6 HW6 b6 hb7 HX5
      obtain ⟨j0, j1, j2, j3, j4, j5, j6, j7, j8⟩ : w7.cell? ⟨w4.heap.size, 0, none⟩ = some (.int .i64 ph) ∧ w7.cell? ⟨w4.heap.size, 1, none⟩ = some (.string buf) ∧ w7.cell? ⟨w4.heap.size, 2, none⟩ = some (.string he) ∧ w7.cell? ⟨w4.heap.size, 3, none⟩ = some (.string fr) ∧ w7.cell? ⟨w4.heap.size, 4, none⟩ = some (.string bo) ∧ w7.cell? ⟨w4.heap.size, 5, none⟩ = some (.slice z1 R.length o1) ∧ w7.cell? ⟨w4.heap.size, 6, none⟩ = some (.int .i64 nx) ∧ w7.cell? ⟨w4.heap.size, 7, none⟩ = some (.slice z2 T.length o2) ∧ w7.cell? ⟨w4.heap.size, 8, none⟩ = some (.slice z3 V.length o3) := ⟨hX7.out.cell 0, hX7.out.cell 1, hX7.out.cell 2, hX7.out.cell 3, hX7.out.cell 4, hX7.out.cell 5, hX7.out.cell 6, hX7.out.cell 7, hX7.out.cell 8⟩
      obtain ⟨l0, l1, l2, l3, l4, l5, l6, l7, l8⟩ : w7.cell? ⟨w.heap.size, 0, none⟩ = some (.int .i64 ph) ∧ w7.cell? ⟨w.heap.size, 1, none⟩ = some (.string buf) ∧ w7.cell? ⟨w.heap.size, 2, none⟩ = some (.string he) ∧ w7.cell? ⟨w.heap.size, 3, none⟩ = some (.string fr) ∧ w7.cell? ⟨w.heap.size, 4, none⟩ = some (.string bo) ∧ w7.cell? ⟨w.heap.size, 5, none⟩ = some (.slice a5 R.length c5) ∧ w7.cell? ⟨w.heap.size, 6, none⟩ = some (.int .i64 nx) ∧ w7.cell? ⟨w.heap.size, 7, none⟩ = some (.slice a7 T.length c7) ∧ w7.cell? ⟨w.heap.size, 8, none⟩ = some (.slice a8 V.length c8) := ⟨hA7.out.cell 0, hA7.out.cell 1, hA7.out.cell 2, hA7.out.cell 3, hA7.out.cell 4, hA7.out.cell 5, hA7.out.cell 6, hA7.out.cell 7, hA7.out.cell 8⟩
      go_wp2_with fail
      go_region_held3 (fun w' => w'.cell? ⟨w4.heap.size, 0, none⟩ = some (.int .i64 ph) ∧ w'.cell? ⟨w4.heap.size, 1, none⟩ = some (.string buf) ∧ w'.cell? ⟨w4.heap.size, 2, none⟩ = some (.string he) ∧ w'.cell? ⟨w4.heap.size, 3, none⟩ = some (.string fr) ∧ w'.cell? ⟨w4.heap.size, 4, none⟩ = some (.string bo) ∧ w'.cell? ⟨w4.heap.size, 5, none⟩ = some (.slice z1 R.length o1) ∧ w'.cell? ⟨w4.heap.size, 6, none⟩ = some (.int .i64 nx) ∧ w'.cell? ⟨w4.heap.size, 7, none⟩ = some (.slice z2 T.length o2) ∧ w'.cell? ⟨w4.heap.size, 8, none⟩ = some (.slice z3 V.length o3) ∧ w'.cell? ⟨w.heap.size, 0, none⟩ = some (.int .i64 ph) ∧ w'.cell? ⟨w.heap.size, 1, none⟩ = some (.string buf) ∧ w'.cell? ⟨w.heap.size, 2, none⟩ = some (.string he) ∧ w'.cell? ⟨w.heap.size, 3, none⟩ = some (.string fr) ∧ w'.cell? ⟨w.heap.size, 4, none⟩ = some (.string bo) ∧ w'.cell? ⟨w.heap.size, 5, none⟩ = some (.slice a5 R.length c5) ∧ w'.cell? ⟨w.heap.size, 6, none⟩ = some (.int .i64 nx) ∧ w'.cell? ⟨w.heap.size, 7, none⟩ = some (.slice a7 T.length c7) ∧ w'.cell? ⟨w.heap.size, 8, none⟩ = some (.slice a8 V.length c8)) (first | (simp only [j0, j1, j2, j3, j4, j5, j6, j7, j8, l0, l1, l2, l3, l4, l5, l6, l7, l8, and_self]; done) | go_keep) (first | (go_at_call 19; refine (HTS.out _ (b7.trans (Below.mono (by repeat (first | exact Below.refl _ _ | refine Below.drew ?_ | refine Below.alloc ?_ (Nat.le_refl _) _)) b7.size))).mono ?_; rintro e w8 ⟨⟨a1, p1, a2, p2, a3, p3, rfl, s1, s2, s3⟩, hb⟩; have HB8 : Hid (Below w7.heap.size w7 w8) := ((Below.refl w7.heap.size w7).drew).trans hb; have HR8 : Hid (Strs w8 _ (.slice a1 R.length p1) R ∧ Bls w8 _ (.slice a2 T.length p2) T ∧ Vds w8 _ (.slice a3 V.length p3) V) := ⟨s1, s2, s3⟩; have hXn : Hid (Blk w4.heap.size #[.int .i64 ph, .string buf, .string he, .string fr, .string bo, .slice z1 R.length o1, .int .i64 nx, .slice z2 T.length o2, .slice z3 V.length o3] w8) := Blk.below hX7.out HB8.out; have hAn : Hid (Blk w.heap.size #[.int .i64 ph, .string buf, .string he, .string fr, .string bo, .slice a5 R.length c5, .int .i64 nx, .slice a7 T.length c7, .slice a8 V.length c8] w8) := Blk.below hA7.out HB8.out; obtain ⟨j0, j1, j2, j3, j4, j5, j6, j7, j8⟩ : w8.cell? ⟨w4.heap.size, 0, none⟩ = some (.int .i64 ph) ∧ w8.cell? ⟨w4.heap.size, 1, none⟩ = some (.string buf) ∧ w8.cell? ⟨w4.heap.size, 2, none⟩ = some (.string he) ∧ w8.cell? ⟨w4.heap.size, 3, none⟩ = some (.string fr) ∧ w8.cell? ⟨w4.heap.size, 4, none⟩ = some (.string bo) ∧ w8.cell? ⟨w4.heap.size, 5, none⟩ = some (.slice z1 R.length o1) ∧ w8.cell? ⟨w4.heap.size, 6, none⟩ = some (.int .i64 nx) ∧ w8.cell? ⟨w4.heap.size, 7, none⟩ = some (.slice z2 T.length o2) ∧ w8.cell? ⟨w4.heap.size, 8, none⟩ = some (.slice z3 V.length o3) := ⟨hXn.out.cell 0, hXn.out.cell 1, hXn.out.cell 2, hXn.out.cell 3, hXn.out.cell 4, hXn.out.cell 5, hXn.out.cell 6, hXn.out.cell 7, hXn.out.cell 8⟩; obtain ⟨l0, l1, l2, l3, l4, l5, l6, l7, l8⟩ : w8.cell? ⟨w.heap.size, 0, none⟩ = some (.int .i64 ph) ∧ w8.cell? ⟨w.heap.size, 1, none⟩ = some (.string buf) ∧ w8.cell? ⟨w.heap.size, 2, none⟩ = some (.string he) ∧ w8.cell? ⟨w.heap.size, 3, none⟩ = some (.string fr) ∧ w8.cell? ⟨w.heap.size, 4, none⟩ = some (.string bo) ∧ w8.cell? ⟨w.heap.size, 5, none⟩ = some (.slice a5 R.length c5) ∧ w8.cell? ⟨w.heap.size, 6, none⟩ = some (.int .i64 nx) ∧ w8.cell? ⟨w.heap.size, 7, none⟩ = some (.slice a7 T.length c7) ∧ w8.cell? ⟨w.heap.size, 8, none⟩ = some (.slice a8 V.length c8) := ⟨hAn.out.cell 0, hAn.out.cell 1, hAn.out.cell 2, hAn.out.cell 3, hAn.out.cell 4, hAn.out.cell 5, hAn.out.cell 6, hAn.out.cell 7, hAn.out.cell 8⟩; clear s1 s2 s3 hb) | (go_at_call 21; refine (eqSess ph nx buf he fr bo _ _ _ _ _ _ R T V _ _ _ (strs_below HX7.out.1 HB8.out (Nat.le_refl _)) (bls_below HX7.out.2.1 HB8.out (Nat.le_refl _)) (vds_below HX7.out.2.2 HB8.out (Nat.le_refl _)) HR8.out.1 HR8.out.2.1 HR8.out.2.2).mono ?_; rintro e w9 ⟨rfl, hb⟩; have HB9 : Hid (Below w7.heap.size w7 w9) := HB8.out.trans (hb.mono HB8.out.size); have hXn : Hid (Blk w4.heap.size #[.int .i64 ph, .string buf, .string he, .string fr, .string bo, .slice z1 R.length o1, .int .i64 nx, .slice z2 T.length o2, .slice z3 V.length o3] w9) := Blk.below hX7.out HB9.out; have hAn : Hid (Blk w.heap.size #[.int .i64 ph, .string buf, .string he, .string fr, .string bo, .slice a5 R.length c5, .int .i64 nx, .slice a7 T.length c7, .slice a8 V.length c8] w9) := Blk.below hA7.out HB9.out; obtain ⟨j0, j1, j2, j3, j4, j5, j6, j7, j8⟩ : w9.cell? ⟨w4.heap.size, 0, none⟩ = some (.int .i64 ph) ∧ w9.cell? ⟨w4.heap.size, 1, none⟩ = some (.string buf) ∧ w9.cell? ⟨w4.heap.size, 2, none⟩ = some (.string he) ∧ w9.cell? ⟨w4.heap.size, 3, none⟩ = some (.string fr) ∧ w9.cell? ⟨w4.heap.size, 4, none⟩ = some (.string bo) ∧ w9.cell? ⟨w4.heap.size, 5, none⟩ = some (.slice z1 R.length o1) ∧ w9.cell? ⟨w4.heap.size, 6, none⟩ = some (.int .i64 nx) ∧ w9.cell? ⟨w4.heap.size, 7, none⟩ = some (.slice z2 T.length o2) ∧ w9.cell? ⟨w4.heap.size, 8, none⟩ = some (.slice z3 V.length o3) := ⟨hXn.out.cell 0, hXn.out.cell 1, hXn.out.cell 2, hXn.out.cell 3, hXn.out.cell 4, hXn.out.cell 5, hXn.out.cell 6, hXn.out.cell 7, hXn.out.cell 8⟩; obtain ⟨l0, l1, l2, l3, l4, l5, l6, l7, l8⟩ : w9.cell? ⟨w.heap.size, 0, none⟩ = some (.int .i64 ph) ∧ w9.cell? ⟨w.heap.size, 1, none⟩ = some (.string buf) ∧ w9.cell? ⟨w.heap.size, 2, none⟩ = some (.string he) ∧ w9.cell? ⟨w.heap.size, 3, none⟩ = some (.string fr) ∧ w9.cell? ⟨w.heap.size, 4, none⟩ = some (.string bo) ∧ w9.cell? ⟨w.heap.size, 5, none⟩ = some (.slice a5 R.length c5) ∧ w9.cell? ⟨w.heap.size, 6, none⟩ = some (.int .i64 nx) ∧ w9.cell? ⟨w.heap.size, 7, none⟩ = some (.slice a7 T.length c7) ∧ w9.cell? ⟨w.heap.size, 8, none⟩ = some (.slice a8 V.length c8) := ⟨hAn.out.cell 0, hAn.out.cell 1, hAn.out.cell 2, hAn.out.cell 3, hAn.out.cell 4, hAn.out.cell 5, hAn.out.cell 6, hAn.out.cell 7, hAn.out.cell 8⟩; clear hb))
      have hA9 : Hid (Blk w.heap.size #[.int .i64 ph, .string buf, .string he, .string fr, .string bo, .slice a5 R.length c5, .int .i64 nx, .slice a7 T.length c7, .slice a8 V.length c8] w9) := Blk.below hA7.out HB9.out
      have hE9 : Hid (Blk (w.heap.size + 1) #[.int .i64 kind, .string d] w9) := Blk.below hE7.out HB9.out
      have HC9 : Hid (SB B0 Q.1 y1 y2 y3 w9) := SB.below HB7.out HB9.out
      have HV9 : Hid (SV w9 w2.heap.size y1 y2 y3 Q.1) := HV7.out.below HB9.out (Nat.le_refl _)
      have HG9 : Hid (SB B2 Q.1 f1 f2 f3 w9) := SB.below HG7.out HB9.out
      have HW9 : Hid (SV w9 W5.heap.size f1 f2 f3 Q.1) := HW7.out.below HB9.out (Nat.le_refl _)
      have HX9 : Hid (SV w9 wA.heap.size (.slice z1 R.length o1) (.slice z2 T.length o2) (.slice z3 V.length o3) ⟨0, buf, he, fr, bo, R, 0, T, V⟩) := SV.below HX7.out HB9.out (Nat.le_refl _)
      have b9 : Below w.heap.size w w9 := b7.trans (HB9.out.mono b7.size)
      clear hA7 hE7 HB7 HV7 HG7 HW7 HX7 hX7 b7 HB8 HR8 b57
      go_wp2_with fail
      refine (markSess ph nx buf he fr bo _ _ _ R T V _ 1 _ HX9.out.1 HX9.out.2.1 HX9.out.2.2 HX9.out.apart (by decide) (by omega)).mono ?_
      rintro e wa ⟨rfl, _, oa⟩
      clear j0 j1 j2 j3 j4 j5 j6 j7 j8 l0 l1 l2 l3 l4 l5 l6 l7 l8 hXn hAn
      have hAa : Hid (Blk w.heap.size #[.int .i64 ph, .string buf, .string he, .string fr, .string bo, .slice a5 R.length c5, .int .i64 nx, .slice a7 T.length c7, .slice a8 V.length c8] wa) := Blk.offL hA9.out oa (fun v hv e => by have := HZb.out v hv _ e; omega)
      have hEa : Hid (Blk (w.heap.size + 1) #[.int .i64 kind, .string d] wa) := Blk.offL hE9.out oa (fun v hv e => by have := HZb.out v hv _ e; omega)
      have HCa : Hid (SB B0 Q.1 y1 y2 y3 wa) := Blk.offL HC9.out oa (fun v hv e => by have := HZb.out v hv _ e; omega)
      have HVa : Hid (SV wa w2.heap.size y1 y2 y3 Q.1) := HV9.out.offL oa (fun u hu g hg v hv e => by have := HZb.out v hv _ e; have := HYb.out u hu g hg; omega)
      have HGa : Hid (SB B2 Q.1 f1 f2 f3 wa) := Blk.offL HG9.out oa (fun v hv e => by have := HZb.out v hv _ e; omega)
      have HWa : Hid (SV wa W5.heap.size f1 f2 f3 Q.1) := HW9.out.offL oa (fun u hu g hg v hv e => by have := HZb.out v hv _ e; have := HFb.out u hu g hg; omega)
      have ba : Below w.heap.size w wa := b9.trans (oa.below (fun v hv g hg => by have := HZb.out v hv g hg; omega) b9.size)
      clear hA9 hE9 HC9 HV9 HG9 HW9 HX9 b9 oa
      obtain ⟨d0, d1, d2, d3, d4, d5, d6, d7, d8⟩ := HGa.out.cells
      obtain ⟨i0, i1, i2, i3, i4, i5, i6, i7, i8⟩ := HCa.out.cells
      go_wp2_with fail
      refine (eqSess Q.1.ph (Q.1.nx : Int) Q.1.buf Q.1.he Q.1.fr Q.1.bo _ _ _ _ _ _ Q.1.R Q.1.T Q.1.V W5.heap.size w2.heap.size wa HWa.out.1 HWa.out.2.1 HWa.out.2.2 HVa.out.1 HVa.out.2.1 HVa.out.2.2).mono ?_
      rintro e wb ⟨rfl, hbb⟩
      clear d0 d1 d2 d3 d4 d5 d6 d7 d8 i0 i1 i2 i3 i4 i5 i6 i7 i8
      have hAb : Hid (Blk w.heap.size #[.int .i64 ph, .string buf, .string he, .string fr, .string bo, .slice a5 R.length c5, .int .i64 nx, .slice a7 T.length c7, .slice a8 V.length c8] wb) := Blk.below hAa.out hbb
      have hEb : Hid (Blk (w.heap.size + 1) #[.int .i64 kind, .string d] wb) := Blk.below hEa.out hbb
      have HCb : Hid (SB B0 Q.1 y1 y2 y3 wb) := SB.below HCa.out hbb
      have HVb : Hid (SV wb w2.heap.size y1 y2 y3 Q.1) := HVa.out.below hbb (Nat.le_refl _)
      have HGb : Hid (SB B2 Q.1 f1 f2 f3 wb) := SB.below HGa.out hbb
      have HWb : Hid (SV wb W5.heap.size f1 f2 f3 Q.1) := HWa.out.below hbb (Nat.le_refl _)
      have bb : Below w.heap.size w wb := ba.trans (hbb.mono ba.size)
      clear hAa hEa HCa HVa HGa HWa ba hbb
      obtain ⟨d0, d1, d2, d3, d4, d5, d6, d7, d8⟩ := HGb.out.cells
      go_wp2_with fail
      refine (markSess Q.1.ph (Q.1.nx : Int) Q.1.buf Q.1.he Q.1.fr Q.1.bo _ _ _ Q.1.R Q.1.T Q.1.V _ 1 _ HWb.out.1 HWb.out.2.1 HWb.out.2.2 HWb.out.apart (by decide) (by have := HLN.out; omega)).mono ?_
      rintro e wd ⟨rfl, hm3, od⟩
      clear d0 d1 d2 d3 d4 d5 d6 d7 d8
      have HM : Hid _ := hm3
      have hAd : Hid (Blk w.heap.size #[.int .i64 ph, .string buf, .string he, .string fr, .string bo, .slice a5 R.length c5, .int .i64 nx, .slice a7 T.length c7, .slice a8 V.length c8] wd) := Blk.offL hAb.out od (fun v hv e => by have := HFb.out v hv _ e; omega)
      have hEd : Hid (Blk (w.heap.size + 1) #[.int .i64 kind, .string d] wd) := Blk.offL hEb.out od (fun v hv e => by have := HFb.out v hv _ e; omega)
      have HCd : Hid (SB B0 Q.1 y1 y2 y3 wd) := Blk.offL HCb.out od (fun v hv e => by have := HFb.out v hv _ e; omega)
      have HVd : Hid (SV wd w2.heap.size y1 y2 y3 Q.1) := HVb.out.offL od (fun u hu g hg v hv e => by have := HFb.out v hv _ e; have := HYb.out u hu g hg; omega)
      have HGd : Hid (SB B2 Q.1 f1 f2 f3 wd) := Blk.offL HGb.out od (ne3 gn1 gn2 gn3)
      have bd : Below w.heap.size w wd := bb.trans (od.below (fun v hv g hg => by have := HFb.out v hv g hg; omega) bb.size)
      clear hAb hEb HCb HVb HGb HWb bb od hm3
      obtain ⟨d0, d1, d2, d3, d4, d5, d6, d7, d8⟩ := HGd.out.cells
      go_wp2_with fail
      refine (heldSess Q.1.ph (Q.1.nx : Int) Q.1.buf Q.1.he Q.1.fr Q.1.bo _ _ _ Q.1.R.length Q.1.T.length Q.1.V.length _ 1 _ HM.out.1 HM.out.2.1 HM.out.2.2 (by decide) (by have := HLN.out; omega)).mono ?_
      rintro e wK ⟨rfl, hbk⟩
      clear d0 d1 d2 d3 d4 d5 d6 d7 d8
      have hAK : Hid (Blk w.heap.size #[.int .i64 ph, .string buf, .string he, .string fr, .string bo, .slice a5 R.length c5, .int .i64 nx, .slice a7 T.length c7, .slice a8 V.length c8] wK) := Blk.below hAd.out hbk
      have hEK : Hid (Blk (w.heap.size + 1) #[.int .i64 kind, .string d] wK) := Blk.below hEd.out hbk
      have HCK : Hid (SB B0 Q.1 y1 y2 y3 wK) := SB.below HCd.out hbk
      have HVK : Hid (SV wK w2.heap.size y1 y2 y3 Q.1) := HVd.out.below hbk (Nat.le_refl _)
      have bK : Below w.heap.size w wK := bd.trans (hbk.mono bd.size)
      clear hAd hEd HCd HVd HGd bd hbk HM
      obtain ⟨t0, t1, t2, t3, t4, t5, t6, t7, t8⟩ : wK.cell? ⟨w.heap.size, 0, none⟩ = some (.int .i64 ph) ∧ wK.cell? ⟨w.heap.size, 1, none⟩ = some (.string buf) ∧ wK.cell? ⟨w.heap.size, 2, none⟩ = some (.string he) ∧ wK.cell? ⟨w.heap.size, 3, none⟩ = some (.string fr) ∧ wK.cell? ⟨w.heap.size, 4, none⟩ = some (.string bo) ∧ wK.cell? ⟨w.heap.size, 5, none⟩ = some (.slice a5 R.length c5) ∧ wK.cell? ⟨w.heap.size, 6, none⟩ = some (.int .i64 nx) ∧ wK.cell? ⟨w.heap.size, 7, none⟩ = some (.slice a7 T.length c7) ∧ wK.cell? ⟨w.heap.size, 8, none⟩ = some (.slice a8 V.length c8) := ⟨hAK.out.cell 0, hAK.out.cell 1, hAK.out.cell 2, hAK.out.cell 3, hAK.out.cell 4, hAK.out.cell 5, hAK.out.cell 6, hAK.out.cell 7, hAK.out.cell 8⟩
      have x0 : wK.cell? ⟨w.heap.size + 1, 0, none⟩ = some (.int .i64 kind) := hEK.out.cell 0
      have x1 : wK.cell? ⟨w.heap.size + 1, 1, none⟩ = some (.string d) := hEK.out.cell 1
      go_wp2_with fail
      go_cut [14, 15] (fun pv xv wx => ∃ B u1 u2 u3, pv = .pointer (some ⟨B, 0, none⟩) ∧ xv = .string Q.2 ∧ Hid (FR wK.heap.size B Q.1 u1 u2 u3 wK wx))
      case first =>
        have HBc : Hid (Below wK.heap.size wK wK) := (Below.refl _ _ : Below _ _ _)
        have zA : w.heap.size < wK.heap.size := hAK.out.lt
        have zB : w.heap.size + 1 < wK.heap.size := hEK.out.lt
        go_region_held3 (fun w' => w'.cell? ⟨w.heap.size, 0, none⟩ = some (.int .i64 ph) ∧ w'.cell? ⟨w.heap.size, 1, none⟩ = some (.string buf) ∧ w'.cell? ⟨w.heap.size, 2, none⟩ = some (.string he) ∧ w'.cell? ⟨w.heap.size, 3, none⟩ = some (.string fr) ∧ w'.cell? ⟨w.heap.size, 4, none⟩ = some (.string bo) ∧ w'.cell? ⟨w.heap.size, 5, none⟩ = some (.slice a5 R.length c5) ∧ w'.cell? ⟨w.heap.size, 6, none⟩ = some (.int .i64 nx) ∧ w'.cell? ⟨w.heap.size, 7, none⟩ = some (.slice a7 T.length c7) ∧ w'.cell? ⟨w.heap.size, 8, none⟩ = some (.slice a8 V.length c8) ∧ w'.cell? ⟨w.heap.size + 1, 0, none⟩ = some (.int .i64 kind) ∧ w'.cell? ⟨w.heap.size + 1, 1, none⟩ = some (.string d)) (first | (simp only [j0, j1, j2, j3, j4, j5, j6, j7, j8, i0, i1, and_self]; done) | go_keep) (first | (go_at_call 19; refine (HTS.out _ (bK.trans (Below.mono (by repeat (first | exact HBc.out | refine Below.drew ?_ | refine Below.alloc ?_ HBc.out.size _)) bK.size))).mono ?_; rintro e wS ⟨⟨z1, o1r, z2, o2r, z3, o3r, rfl, rS1, rS2, rS3⟩, hb⟩; have HSr : Hid (Strs wS wK.heap.size (.slice z1 R.length o1r) R ∧ Bls wS wK.heap.size (.slice z2 T.length o2r) T ∧ Vds wS wK.heap.size (.slice z3 V.length o3r) V) := ⟨row_le rS1 (Below.size (B := wK.heap.size) (by repeat (first | exact HBc.out | refine Below.drew ?_ | refine Below.alloc ?_ HBc.out.size _))), row_le rS2 (Below.size (B := wK.heap.size) (by repeat (first | exact HBc.out | refine Below.drew ?_ | refine Below.alloc ?_ HBc.out.size _))), row_le rS3 (Below.size (B := wK.heap.size) (by repeat (first | exact HBc.out | refine Below.drew ?_ | refine Below.alloc ?_ HBc.out.size _)))⟩; (first | (have HNz : Hid (wK.heap.size ≤ _ ∧ Blk _ #[.int .i64 0, .string ⟨#[]⟩, .string ⟨#[]⟩, .string ⟨#[]⟩, .string ⟨#[]⟩, .slice none 0 0, .int .i64 0, .slice none 0 0, .slice none 0 0] wS) := ⟨HNz.out.1, Blk.below HNz.out.2 (of_drew hb)⟩) | (have HNz : Hid (wK.heap.size ≤ _ ∧ Blk _ #[.int .i64 0, .string ⟨#[]⟩, .string ⟨#[]⟩, .string ⟨#[]⟩, .string ⟨#[]⟩, .slice none 0 0, .int .i64 0, .slice none 0 0, .slice none 0 0] wS) := ⟨HNz.out.1, Blk.below HNz.out.2 hb⟩) | (have HNz : Hid (wK.heap.size ≤ _ ∧ Blk _ #[.int .i64 0, .string ⟨#[]⟩, .string ⟨#[]⟩, .string ⟨#[]⟩, .string ⟨#[]⟩, .slice none 0 0, .int .i64 0, .slice none 0 0, .slice none 0 0] wS) := ⟨HBc.out.size, Blk.below (Blk.new _ _ _) (of_drew hb)⟩) | (have HNz : Hid (wK.heap.size ≤ _ ∧ Blk _ #[.int .i64 0, .string ⟨#[]⟩, .string ⟨#[]⟩, .string ⟨#[]⟩, .string ⟨#[]⟩, .slice none 0 0, .int .i64 0, .slice none 0 0, .slice none 0 0] wS) := ⟨HBc.out.size, Blk.below (Blk.new _ _ _) hb⟩) | skip); have HBc : Hid (Below wK.heap.size wK wS) := Below.trans (by repeat (first | exact HBc.out | refine Below.drew ?_ | refine Below.alloc ?_ HBc.out.size _)) (hb.mono (Below.size (B := wK.heap.size) (by repeat (first | exact HBc.out | refine Below.drew ?_ | refine Below.alloc ?_ HBc.out.size _)))); have hAn : Hid (Blk w.heap.size #[.int .i64 ph, .string buf, .string he, .string fr, .string bo, .slice a5 R.length c5, .int .i64 nx, .slice a7 T.length c7, .slice a8 V.length c8] wS) := Blk.below hAK.out HBc.out; have hEn : Hid (Blk (w.heap.size + 1) #[.int .i64 kind, .string d] wS) := Blk.below hEK.out HBc.out; obtain ⟨j0, j1, j2, j3, j4, j5, j6, j7, j8⟩ : wS.cell? ⟨w.heap.size, 0, none⟩ = some (.int .i64 ph) ∧ wS.cell? ⟨w.heap.size, 1, none⟩ = some (.string buf) ∧ wS.cell? ⟨w.heap.size, 2, none⟩ = some (.string he) ∧ wS.cell? ⟨w.heap.size, 3, none⟩ = some (.string fr) ∧ wS.cell? ⟨w.heap.size, 4, none⟩ = some (.string bo) ∧ wS.cell? ⟨w.heap.size, 5, none⟩ = some (.slice a5 R.length c5) ∧ wS.cell? ⟨w.heap.size, 6, none⟩ = some (.int .i64 nx) ∧ wS.cell? ⟨w.heap.size, 7, none⟩ = some (.slice a7 T.length c7) ∧ wS.cell? ⟨w.heap.size, 8, none⟩ = some (.slice a8 V.length c8) := ⟨hAn.out.cell 0, hAn.out.cell 1, hAn.out.cell 2, hAn.out.cell 3, hAn.out.cell 4, hAn.out.cell 5, hAn.out.cell 6, hAn.out.cell 7, hAn.out.cell 8⟩; have i0 : wS.cell? ⟨w.heap.size + 1, 0, none⟩ = some (.int .i64 kind) := hEn.out.cell 0; have i1 : wS.cell? ⟨w.heap.size + 1, 1, none⟩ = some (.string d) := hEn.out.cell 1; have zAn : w.heap.size < wS.heap.size := hAn.out.lt; have zBn : w.heap.size + 1 < wS.heap.size := hEn.out.lt; clear rS1 rS2 rS3 hb) | (go_at_call 20; refine (toEv kind d _).mono ?_; rintro e wE ⟨rfl, hb⟩; (first | (have HSr : Hid (Strs wE wK.heap.size (.slice z1 R.length o1r) R ∧ Bls wE wK.heap.size (.slice z2 T.length o2r) T ∧ Vds wE wK.heap.size (.slice z3 V.length o3r) V) := (fun hx => ⟨strs_below HSr.out.1 hx (Nat.le_refl _), bls_below HSr.out.2.1 hx (Nat.le_refl _), vds_below HSr.out.2.2 hx (Nat.le_refl _)⟩) (Below.trans (by repeat (first | exact Below.refl _ _ | refine Below.drew ?_ | refine Below.alloc ?_ (Nat.le_refl _) _)) (hb.mono (Below.size (B := wS.heap.size) (w := wS) (by repeat (first | exact Below.refl _ _ | refine Below.drew ?_ | refine Below.alloc ?_ (Nat.le_refl _) _)))))) | skip); (first | (have HNz : Hid (wK.heap.size ≤ _ ∧ Blk _ #[.int .i64 0, .string ⟨#[]⟩, .string ⟨#[]⟩, .string ⟨#[]⟩, .string ⟨#[]⟩, .slice none 0 0, .int .i64 0, .slice none 0 0, .slice none 0 0] wE) := ⟨HNz.out.1, Blk.below HNz.out.2 (of_drew hb)⟩) | (have HNz : Hid (wK.heap.size ≤ _ ∧ Blk _ #[.int .i64 0, .string ⟨#[]⟩, .string ⟨#[]⟩, .string ⟨#[]⟩, .string ⟨#[]⟩, .slice none 0 0, .int .i64 0, .slice none 0 0, .slice none 0 0] wE) := ⟨HNz.out.1, Blk.below HNz.out.2 hb⟩) | (have HNz : Hid (wK.heap.size ≤ _ ∧ Blk _ #[.int .i64 0, .string ⟨#[]⟩, .string ⟨#[]⟩, .string ⟨#[]⟩, .string ⟨#[]⟩, .slice none 0 0, .int .i64 0, .slice none 0 0, .slice none 0 0] wE) := ⟨HBc.out.size, Blk.below (Blk.new _ _ _) (of_drew hb)⟩) | (have HNz : Hid (wK.heap.size ≤ _ ∧ Blk _ #[.int .i64 0, .string ⟨#[]⟩, .string ⟨#[]⟩, .string ⟨#[]⟩, .string ⟨#[]⟩, .slice none 0 0, .int .i64 0, .slice none 0 0, .slice none 0 0] wE) := ⟨HBc.out.size, Blk.below (Blk.new _ _ _) hb⟩) | skip); have HBc : Hid (Below wK.heap.size wK wE) := Below.trans (by repeat (first | exact HBc.out | refine Below.drew ?_ | refine Below.alloc ?_ HBc.out.size _)) (hb.mono (Below.size (B := wK.heap.size) (by repeat (first | exact HBc.out | refine Below.drew ?_ | refine Below.alloc ?_ HBc.out.size _)))); have hAn : Hid (Blk w.heap.size #[.int .i64 ph, .string buf, .string he, .string fr, .string bo, .slice a5 R.length c5, .int .i64 nx, .slice a7 T.length c7, .slice a8 V.length c8] wE) := Blk.below hAK.out HBc.out; have hEn : Hid (Blk (w.heap.size + 1) #[.int .i64 kind, .string d] wE) := Blk.below hEK.out HBc.out; obtain ⟨j0, j1, j2, j3, j4, j5, j6, j7, j8⟩ : wE.cell? ⟨w.heap.size, 0, none⟩ = some (.int .i64 ph) ∧ wE.cell? ⟨w.heap.size, 1, none⟩ = some (.string buf) ∧ wE.cell? ⟨w.heap.size, 2, none⟩ = some (.string he) ∧ wE.cell? ⟨w.heap.size, 3, none⟩ = some (.string fr) ∧ wE.cell? ⟨w.heap.size, 4, none⟩ = some (.string bo) ∧ wE.cell? ⟨w.heap.size, 5, none⟩ = some (.slice a5 R.length c5) ∧ wE.cell? ⟨w.heap.size, 6, none⟩ = some (.int .i64 nx) ∧ wE.cell? ⟨w.heap.size, 7, none⟩ = some (.slice a7 T.length c7) ∧ wE.cell? ⟨w.heap.size, 8, none⟩ = some (.slice a8 V.length c8) := ⟨hAn.out.cell 0, hAn.out.cell 1, hAn.out.cell 2, hAn.out.cell 3, hAn.out.cell 4, hAn.out.cell 5, hAn.out.cell 6, hAn.out.cell 7, hAn.out.cell 8⟩; have i0 : wE.cell? ⟨w.heap.size + 1, 0, none⟩ = some (.int .i64 kind) := hEn.out.cell 0; have i1 : wE.cell? ⟨w.heap.size + 1, 1, none⟩ = some (.string d) := hEn.out.cell 1; have zAn : w.heap.size < wE.heap.size := hAn.out.lt; have zBn : w.heap.size + 1 < wE.heap.size := hEn.out.lt; clear hb) | (go_at_call 10; refine (implFeed ph nx buf he fr bo _ _ _ R T V kind d wK.heap.size _ (strs_below HSr.out.1 (by repeat (first | exact Below.refl _ _ | refine Below.drew ?_ | refine Below.alloc ?_ (Nat.le_refl _) _)) (Nat.le_refl _)) (bls_below HSr.out.2.1 (by repeat (first | exact Below.refl _ _ | refine Below.drew ?_ | refine Below.alloc ?_ (Nat.le_refl _) _)) (Nat.le_refl _)) (vds_below HSr.out.2.2 (by repeat (first | exact Below.refl _ _ | refine Below.drew ?_ | refine Below.alloc ?_ (Nat.le_refl _) _)) (Nat.le_refl _)) HSM.out (len_below HL.out (bK.trans (Below.mono (by repeat (first | exact HBc.out | refine Below.drew ?_ | refine Below.alloc ?_ HBc.out.size _)) bK.size))) (HFo.out.below (bK.trans (Below.mono (by repeat (first | exact HBc.out | refine Below.drew ?_ | refine Below.alloc ?_ HBc.out.size _)) bK.size))) hds).mono ?_; rw [HQ.out]; rintro e w8 ⟨⟨f1, f2, f3, rfl, S8⟩, hb⟩; obtain ⟨n1, l1, y1⟩ := strs_form2 S8.1; obtain ⟨n2, l2, y2⟩ := bls_form S8.2.1; obtain ⟨n3, l3, y3⟩ := vds_form3 S8.2.2; subst y1; subst y2; subst y3; have HOW : ∀ g, ((Value.slice n1 Q.1.R.length l1).ownBlock = some g ∨ (Value.slice n2 Q.1.T.length l2).ownBlock = some g ∨ (Value.slice n3 Q.1.V.length l3).ownBlock = some g) → _ ≤ g := fun g h => h.elim (fun e => (S8.own.1 g e).1) (fun h => h.elim (fun e => (S8.own.2.1 g e).1) (fun e => (S8.own.2.2 g e).1)); (first | (have HAP : Hid (∀ g, ((Value.slice n1 Q.1.R.length l1).ownBlock = some g ∨ (Value.slice n2 Q.1.T.length l2).ownBlock = some g ∨ (Value.slice n3 Q.1.V.length l3).ownBlock = some g) → g ≠ _) := fun g h => Nat.ne_of_gt (Nat.lt_of_lt_of_le HNz.out.2.lt (HOW g h))) | (have HAP : Hid (∀ g, ((Value.slice n1 Q.1.R.length l1).ownBlock = some g ∨ (Value.slice n2 Q.1.T.length l2).ownBlock = some g ∨ (Value.slice n3 Q.1.V.length l3).ownBlock = some g) → g ≠ wE.heap.size) := fun g h => (by have hh := HOW g h; simp at hh; omega)) | (have HAP : Hid (∀ g, ((Value.slice n1 Q.1.R.length l1).ownBlock = some g ∨ (Value.slice n2 Q.1.T.length l2).ownBlock = some g ∨ (Value.slice n3 Q.1.V.length l3).ownBlock = some g) → g ≠ wS.heap.size) := fun g h => (by have hh := HOW g h; simp at hh; omega)) | skip); clear HOW; have HS8 : Hid (SV w8 wK.heap.size (.slice n1 Q.1.R.length l1) (.slice n2 Q.1.T.length l2) (.slice n3 Q.1.V.length l3) Q.1) := S8.le (Below.size (B := wK.heap.size) (by repeat (first | exact HBc.out | refine Below.drew ?_ | refine Below.alloc ?_ HBc.out.size _))); (first | (have HNz : Hid (wK.heap.size ≤ _ ∧ Blk _ #[.int .i64 0, .string ⟨#[]⟩, .string ⟨#[]⟩, .string ⟨#[]⟩, .string ⟨#[]⟩, .slice none 0 0, .int .i64 0, .slice none 0 0, .slice none 0 0] w8) := ⟨HNz.out.1, Blk.below HNz.out.2 (of_drew hb)⟩) | (have HNz : Hid (wK.heap.size ≤ _ ∧ Blk _ #[.int .i64 0, .string ⟨#[]⟩, .string ⟨#[]⟩, .string ⟨#[]⟩, .string ⟨#[]⟩, .slice none 0 0, .int .i64 0, .slice none 0 0, .slice none 0 0] w8) := ⟨HNz.out.1, Blk.below HNz.out.2 hb⟩) | (have HNz : Hid (wK.heap.size ≤ _ ∧ Blk _ #[.int .i64 0, .string ⟨#[]⟩, .string ⟨#[]⟩, .string ⟨#[]⟩, .string ⟨#[]⟩, .slice none 0 0, .int .i64 0, .slice none 0 0, .slice none 0 0] w8) := ⟨HBc.out.size, Blk.below (Blk.new _ _ _) (of_drew hb)⟩) | (have HNz : Hid (wK.heap.size ≤ _ ∧ Blk _ #[.int .i64 0, .string ⟨#[]⟩, .string ⟨#[]⟩, .string ⟨#[]⟩, .string ⟨#[]⟩, .slice none 0 0, .int .i64 0, .slice none 0 0, .slice none 0 0] w8) := ⟨HBc.out.size, Blk.below (Blk.new _ _ _) hb⟩) | skip); have HBc : Hid (Below wK.heap.size wK w8) := Below.trans (by repeat (first | exact HBc.out | refine Below.drew ?_ | refine Below.alloc ?_ HBc.out.size _)) (hb.mono (Below.size (B := wK.heap.size) (by repeat (first | exact HBc.out | refine Below.drew ?_ | refine Below.alloc ?_ HBc.out.size _)))); have hAn : Hid (Blk w.heap.size #[.int .i64 ph, .string buf, .string he, .string fr, .string bo, .slice a5 R.length c5, .int .i64 nx, .slice a7 T.length c7, .slice a8 V.length c8] w8) := Blk.below hAK.out HBc.out; have hEn : Hid (Blk (w.heap.size + 1) #[.int .i64 kind, .string d] w8) := Blk.below hEK.out HBc.out; obtain ⟨j0, j1, j2, j3, j4, j5, j6, j7, j8⟩ : w8.cell? ⟨w.heap.size, 0, none⟩ = some (.int .i64 ph) ∧ w8.cell? ⟨w.heap.size, 1, none⟩ = some (.string buf) ∧ w8.cell? ⟨w.heap.size, 2, none⟩ = some (.string he) ∧ w8.cell? ⟨w.heap.size, 3, none⟩ = some (.string fr) ∧ w8.cell? ⟨w.heap.size, 4, none⟩ = some (.string bo) ∧ w8.cell? ⟨w.heap.size, 5, none⟩ = some (.slice a5 R.length c5) ∧ w8.cell? ⟨w.heap.size, 6, none⟩ = some (.int .i64 nx) ∧ w8.cell? ⟨w.heap.size, 7, none⟩ = some (.slice a7 T.length c7) ∧ w8.cell? ⟨w.heap.size, 8, none⟩ = some (.slice a8 V.length c8) := ⟨hAn.out.cell 0, hAn.out.cell 1, hAn.out.cell 2, hAn.out.cell 3, hAn.out.cell 4, hAn.out.cell 5, hAn.out.cell 6, hAn.out.cell 7, hAn.out.cell 8⟩; have i0 : w8.cell? ⟨w.heap.size + 1, 0, none⟩ = some (.int .i64 kind) := hEn.out.cell 0; have i1 : w8.cell? ⟨w.heap.size + 1, 1, none⟩ = some (.string d) := hEn.out.cell 1; have zAn : w.heap.size < w8.heap.size := hAn.out.lt; have zBn : w.heap.size + 1 < w8.heap.size := hEn.out.lt; (try (have h0 : w8.cell? ⟨_, 0, none⟩ = some (.int .i64 0) := HNz.out.2.cell 0; have h1 : w8.cell? ⟨_, 1, none⟩ = some (.string ⟨#[]⟩) := HNz.out.2.cell 1; have h2 : w8.cell? ⟨_, 2, none⟩ = some (.string ⟨#[]⟩) := HNz.out.2.cell 2; have h3 : w8.cell? ⟨_, 3, none⟩ = some (.string ⟨#[]⟩) := HNz.out.2.cell 3; have h4 : w8.cell? ⟨_, 4, none⟩ = some (.string ⟨#[]⟩) := HNz.out.2.cell 4; have h5 : w8.cell? ⟨_, 5, none⟩ = some (.slice none 0 0) := HNz.out.2.cell 5; have h6 : w8.cell? ⟨_, 6, none⟩ = some (.int .i64 0) := HNz.out.2.cell 6; have h7 : w8.cell? ⟨_, 7, none⟩ = some (.slice none 0 0) := HNz.out.2.cell 7; have h8 : w8.cell? ⟨_, 8, none⟩ = some (.slice none 0 0) := HNz.out.2.cell 8; have g0 : w8.frozen? ⟨_, 0, none⟩ = false := HNz.out.2.free 0; have g1 : w8.frozen? ⟨_, 1, none⟩ = false := HNz.out.2.free 1; have g2 : w8.frozen? ⟨_, 2, none⟩ = false := HNz.out.2.free 2; have g3 : w8.frozen? ⟨_, 3, none⟩ = false := HNz.out.2.free 3; have g4 : w8.frozen? ⟨_, 4, none⟩ = false := HNz.out.2.free 4; have g5 : w8.frozen? ⟨_, 5, none⟩ = false := HNz.out.2.free 5; have g6 : w8.frozen? ⟨_, 6, none⟩ = false := HNz.out.2.free 6; have g7 : w8.frozen? ⟨_, 7, none⟩ = false := HNz.out.2.free 7; have g8 : w8.frozen? ⟨_, 8, none⟩ = false := HNz.out.2.free 8; have q1 : ¬ _ = w.heap.size := Nat.ne_of_gt (Nat.lt_of_lt_of_le zA HNz.out.1); have q2 : ¬ w.heap.size = _ := Nat.ne_of_lt (Nat.lt_of_lt_of_le zA HNz.out.1); have q3 : ¬ _ = w.heap.size + 1 := Nat.ne_of_gt (Nat.lt_of_lt_of_le zB HNz.out.1); have q4 : ¬ w.heap.size + 1 = _ := Nat.ne_of_lt (Nat.lt_of_lt_of_le zB HNz.out.1))); clear S8 hb))
        all_goals
          go_wp2_with fail
          go_meet
          first
            | exact ⟨_, _, _, _, rfl, rfl, ⟨HNz.out.1, blk_nine HNz.out.2 _ _ _ _ _ _ _ _ _, nine_ne HS8.out (fun g hg => HAP.out g (.inl hg)) (fun g hg => HAP.out g (.inr (.inl hg))) (fun g hg => HAP.out g (.inr (.inr hg))) _ _ _ _ _ _ _ _ _, fun e => HAP.out _ (.inl e) rfl, fun e => HAP.out _ (.inr (.inl e)) rfl, fun e => HAP.out _ (.inr (.inr e)) rfl, below_nine HBc.out HNz.out.1 _ _ _ _ _ _ _ _ _⟩⟩
            | exact ⟨_, _, _, _, rfl, rfl, ⟨HBc.out.size, Blk.new w8 _ _, HS8.out.below (below1 _ _) (Nat.le_refl _), fun e => Nat.lt_irrefl _ (HS8.out.own.1 _ e).2, fun e => Nat.lt_irrefl _ (HS8.out.own.2.1 _ e).2, fun e => Nat.lt_irrefl _ (HS8.out.own.2.2 _ e).2, HBc.out.trans ((below1 _ _).mono HBc.out.size)⟩⟩
      case rest =>
        obtain ⟨B4, g1, g2, g3, rfl, rfl, HF4⟩ := hcut
        obtain ⟨_, hSB, hSV, _, _, _, hBw⟩ := HF4.out
        clear t0 t1 t2 t3 t4 t5 t6 t7 t8 x0 x1
        have HCm : Hid (SB B0 Q.1 y1 y2 y3 wc) := SB.below HCK.out hBw
        have HVm : Hid (SV wc w2.heap.size y1 y2 y3 Q.1) := HVK.out.below hBw (Nat.le_refl _)
        have bm : Below w.heap.size w wc := bK.trans (hBw.mono bK.size)
        obtain ⟨d0, d1, d2, d3, d4, d5, d6, d7, d8⟩ := hSB.cells
        obtain ⟨i0, i1, i2, i3, i4, i5, i6, i7, i8⟩ := HCm.out.cells
        have HSV : Hid (SV wc wK.heap.size g1 g2 g3 Q.1) := hSV
        clear hSB hSV
        go_wp2_with fail
        refine (eqSess Q.1.ph (Q.1.nx : Int) Q.1.buf Q.1.he Q.1.fr Q.1.bo _ _ _ _ _ _ Q.1.R Q.1.T Q.1.V wK.heap.size w2.heap.size wc HSV.out.1 HSV.out.2.1 HSV.out.2.2 HVm.out.1 HVm.out.2.1 HVm.out.2.2).mono ?_
        rintro e wn ⟨rfl, hbn⟩
        go_wp2
        go_ret
        exact ⟨rfl, bm.trans (hbn.mono bm.size)⟩
end Go.Proofs.YtngcjlghjidnjaaGreatDoor
namespace Go.Proofs.YtngcjlghjidnjaaGreatDoor
open Go.ChangeShapes Go.WideShapes Go.ChangeAt Go.RowKit

/-- what of the tables of folds is looked at -/
structure FoldTab (w : World) : Prop where
  a83 : w.cell? ⟨3, 83, none⟩ = some (.int .u16 115)
  a115 : w.cell? ⟨3, 115, none⟩ = some (.int .u16 383)
  a73 : w.cell? ⟨3, 73, none⟩ = some (.int .u16 105)
  a105 : w.cell? ⟨3, 105, none⟩ = some (.int .u16 73)
  a90 : w.cell? ⟨3, 90, none⟩ = some (.int .u16 122)
  a122 : w.cell? ⟨3, 122, none⟩ = some (.int .u16 90)
  a69 : w.cell? ⟨3, 69, none⟩ = some (.int .u16 101)
  a101 : w.cell? ⟨3, 101, none⟩ = some (.int .u16 69)
  orb : ∃ b off cap, w.cell? ⟨4, 0, none⟩ = some (.slice (some ⟨b, off, none⟩) 94 cap) ∧ w.cell? ⟨b, off + 94, none⟩ = some (.int .u16 966) ∧ w.cell? ⟨b, off + 46, none⟩ = some (.int .u16 837) ∧ w.cell? ⟨b, off + 22, none⟩ = some (.int .u16 452) ∧ w.cell? ⟨b, off + 10, none⟩ = some (.int .u16 197) ∧ w.cell? ⟨b, off + 16, none⟩ = some (.int .u16 304) ∧ w.cell? ⟨b, off + 20, none⟩ = some (.int .u16 383) ∧ w.cell? ⟨b, off + 18, none⟩ = some (.int .u16 305) ∧ w.cell? ⟨b, off + 21, none⟩ = some (.int .u16 83)
theorem cell_kept {w w1 : World} {b i : Nat} {v : Value} (hb : Below w.heap.size w w1) (h : w.cell? ⟨b, i, none⟩ = some v) : w1.cell? ⟨b, i, none⟩ = some v := (hb.cell (p := ⟨b, i, none⟩) (World.block_lt_of_cell? w ⟨b, i, none⟩ h)).trans h
theorem FoldTab.below {w w1 : World} (h : FoldTab w) (hb : Below w.heap.size w w1) : FoldTab w1 := by
  obtain ⟨b, off, cap, o0, o1, o2, o3, o4, o5, o6, o7, o8⟩ := h.orb
  exact ⟨cell_kept hb h.a83, cell_kept hb h.a115, cell_kept hb h.a73, cell_kept hb h.a105, cell_kept hb h.a90, cell_kept hb h.a122, cell_kept hb h.a69, cell_kept hb h.a101, b, off, cap, cell_kept hb o0, cell_kept hb o1, cell_kept hb o2, cell_kept hb o3, cell_kept hb o4, cell_kept hb o5, cell_kept hb o6, cell_kept hb o7, cell_kept hb o8⟩

set_option maxHeartbeats 1000000 in
set_option maxRecDepth 100000 in
theorem foldA (r f : Nat) (w : World) (hr : r < 128) (hf : f < 65536) (h : w.cell? ⟨3, r, none⟩ = some (.int .u16 (f : Int))) :
    Calls Tryz.prog 173 #[.int .i32 (r : Int)] w fun e w' => e = .returned (.int .i32 (f : Int)) ∧ w' = w := by
  have h1 : ¬ (r : Int) < 0 := by omega
  have h2 : ¬ (1114111 : Int) < (r : Int) := by omega
  have h3 : (r : Int) < 128 := by omega
  go_enter Tryz.func173, Tryz.ntmps173
  go_wp2
  go_ret
  exact ⟨rfl, rfl⟩

set_option maxHeartbeats 2000000 in
set_option maxRecDepth 100000 in
theorem foldO (w : World) (h : FoldTab w) :
    Calls Tryz.prog 173 #[.int .i32 383] w fun e w' => e = .returned (.int .i32 83) ∧ w' = w := by
  obtain ⟨b, off, cap, o0, o1, o2, o3, o4, o5, o6, o7, o8⟩ := h.orb
  clear h
  go_enter Tryz.func173, Tryz.ntmps173
  go_wp2
  refine wp_loop_rounds 8 ?_
  iterate 8
    rw [rounds_succ]
    go_wp2
  go_ret
  exact ⟨rfl, rfl⟩
end Go.Proofs.YtngcjlghjidnjaaGreatDoor
