import Derived.Test.YtlolnfpfipnfeaaGreatMg45
import Derived.Test.YtlolnfpfipnfeaaGreatMg37
import Derived.Deep.RegionWith
import Derived.Deep.RegionLaw
import Derived.Deep.DrawnRows
namespace Go.Proofs.YtlolnfpfipnfeaaGreat
open Go.ChangeShapes Go.WideShapes Go.ChangeAt Go.RowKit
attribute [local go_sem ↓] Go.wp_at_zero Go.wp_at_succ

theorem rightS1 (mid born : Int) (fr : ByteArray) (R : List ByteArray) (bo : ByteArray) (id rc vk vc : Int) (vt : ByteArray) (tr due : Int) : rightR (⟨1, mid, born, fr, R, bo, id, rc, vk, vc, vt, tr, due⟩ : Rec) = ((idN mid && (decide (0 ≤ born) && (decide (born ≤ 20000000) && (whomN fr R && bodyOk bo)))) && (decide ((1 : Int) = 1) && (decide ((0 : Int) = id) && (decide ((0 : Int) = rc) && (noVB vk vc vt && (decide ((0 : Int) = tr) && (decide ((0 : Int) = due) && true))))))) := by
  rw [right1]
  simp only [eq_comm (a := (0 : Int)), decide_true, Bool.true_and, Bool.and_true]
  simp only [Bool.and_assoc, Bool.and_comm, Bool.and_left_comm]
set_option maxHeartbeats 8000000 in
set_option maxRecDepth 100000 in
theorem rightEnt1 (mid born : Int) (fr : ByteArray) (R : List ByteArray) (bo : ByteArray) (id rc vk vc : Int) (vt : ByteArray) (tr due : Int) (v : Value) (w : World) (h : ArgS w v R) (hR : R.length ≤ 1048576) (m1 : fr.size ≤ 1048576) (m2 : bo.size ≤ 1048576) (m3 : ∀ s ∈ R, s.size ≤ 1048576) (hl : LenIn w) :
    Calls Tryz.prog 28 #[.agg #[.int .i64 1, .int .i64 mid, .int .i64 born, .string fr, v, .string bo, .int .i64 id, .int .i64 rc, .int .i64 vk, .int .i64 vc, .string vt, .int .i64 tr, .int .i64 due]] w fun e w' => e = .returned (if rightR (⟨1, mid, born, fr, R, bo, id, rc, vk, vc, vt, tr, due⟩ : Rec) = true then .tuple #[(.iface 103 (.agg #[.int .i64 mid, .int .i64 born, .string fr, v, .string bo])), .bool true] else .tuple #[.nilIface, .bool false]) ∧ Below w.heap.size w w' := by
  have H : Hid (ArgS w v R) := h
  have HL : Hid (LenIn w) := hl
  have HS : Hid (∀ s ∈ R, s.size ≤ 1048576) := m3
  clear hl m3
  obtain ⟨a3, c3, rfl⟩ := args_formM h
  clear h
  rw [rightS1]
  obtain ⟨Q, HQ⟩ : ∃ Q : Bool, Hid ((idN mid && (decide (0 ≤ born) && (decide (born ≤ 20000000) && (whomN fr R && bodyOk bo)))) = Q) := ⟨_, rfl⟩
  obtain ⟨S, HSR⟩ : ∃ S : Bool, Hid ((decide ((1 : Int) = 1) && (decide ((0 : Int) = id) && (decide ((0 : Int) = rc) && (noVB vk vc vt && (decide ((0 : Int) = tr) && (decide ((0 : Int) = due) && true)))))) = S) := ⟨_, rfl⟩
  have HSC : Hid (∀ wx, Below w.heap.size w wx → Calls Tryz.prog 51 #[.agg #[.int .i64 1, .int .i64 mid, .int .i64 born, .string fr, .slice a3 R.length c3, .string bo, .int .i64 0, .int .i64 0, .int .i64 0, .int .i64 0, .string ⟨#[]⟩, .int .i64 0, .int .i64 0], .agg #[.int .i64 1, .int .i64 mid, .int .i64 born, .string fr, .slice a3 R.length c3, .string bo, .int .i64 id, .int .i64 rc, .int .i64 vk, .int .i64 vc, .string vt, .int .i64 tr, .int .i64 due]] wx fun e w' => e = .returned (.bool S) ∧ Below wx.heap.size wx w') := fun wx hx => by
    rw [← HSR.out]
    exact sameRec 1 mid born fr a3 R.length c3 bo 0 0 0 0 ⟨#[]⟩ 0 0 1 mid born fr a3 R.length c3 bo id rc vk vc vt tr due (noVB vk vc vt) (true) wx (vd_neq0 vk vc vt) (fun wy hy => sameMsgSelf mid born fr bo R _ wy (H.out.below (hx.trans (hy.mono hx.size))) hR)
  rw [HQ.out, HSR.out]
  clear HSR
  have hmr := fun n w => mRight1 n #[.int .i64 mid, .int .i64 born, .string fr, .slice a3 R.length c3, .string bo] w
  have hmc := fun n w => mRec1 n #[.int .i64 mid, .int .i64 born, .string fr, .slice a3 R.length c3, .string bo] w
  go_enter Tryz.func28, Tryz.ntmps28
  go_wp2_with fail
  generalize hW : World.alloc _ _ = W0
  have HM0 : Hid (Blk w.heap.size #[.int .i64 1, .int .i64 mid, .int .i64 born, .string fr, .slice a3 R.length c3, .string bo, .int .i64 id, .int .i64 rc, .int .i64 vk, .int .i64 vc, .string vt, .int .i64 tr, .int .i64 due] W0) := by show Blk _ _ _; rw [← hW]; exact Blk.new w _ _
  have b0 : Below w.heap.size w W0 := by rw [← hW]; exact below1 _ _
  clear hW
  refine (entryOf1 mid born fr bo id rc vk vc vt tr due a3 R.length c3 _).mono ?_
  rintro e w1 ⟨rfl, hb1⟩
  have HM1 : Hid (Blk w.heap.size #[.int .i64 1, .int .i64 mid, .int .i64 born, .string fr, .slice a3 R.length c3, .string bo, .int .i64 id, .int .i64 rc, .int .i64 vk, .int .i64 vc, .string vt, .int .i64 tr, .int .i64 due] w1) := HM0.out.below hb1
  have b1 : Below w.heap.size w w1 := b0.trans (hb1.mono b0.size)
  have lM : w.heap.size < w1.heap.size := HM1.out.lt
  clear hb1 HM0 b0
  go_upto_region 2 with fail
  cases Q
  · first
      | go_region_law (first | (go_simp; go_at_call 90; refine (rightE1 mid born fr bo R _ _ (H.out.below (b1.drew)) m1 m2 HS.out (len_below HL.out (b1.drew))).mono ?_; rw [HQ.out]; rintro e w2 ⟨rfl, hb2⟩; have HB2 : Hid (Below w1.heap.size w1 w2) := (Below.refl w1.heap.size w1).drew.trans hb2))
      | fail
    all_goals
      go_wp2
      refine bodyPost_ret (v := .tuple #[.nilIface, .bool false]) (by simp [results, Tryz.results28, go_sem]) rfl ?_
      exact ⟨rfl, b1.trans (HB2.out.mono b1.size)⟩
  have x0 : w1.cell? ⟨w.heap.size, 0, none⟩ = some (.int .i64 1) := HM1.out.cell 0
  have x1 : w1.cell? ⟨w.heap.size, 1, none⟩ = some (.int .i64 mid) := HM1.out.cell 1
  have x2 : w1.cell? ⟨w.heap.size, 2, none⟩ = some (.int .i64 born) := HM1.out.cell 2
  have x3 : w1.cell? ⟨w.heap.size, 3, none⟩ = some (.string fr) := HM1.out.cell 3
  have x4 : w1.cell? ⟨w.heap.size, 4, none⟩ = some (.slice a3 R.length c3) := HM1.out.cell 4
  have x5 : w1.cell? ⟨w.heap.size, 5, none⟩ = some (.string bo) := HM1.out.cell 5
  have x6 : w1.cell? ⟨w.heap.size, 6, none⟩ = some (.int .i64 id) := HM1.out.cell 6
  have x7 : w1.cell? ⟨w.heap.size, 7, none⟩ = some (.int .i64 rc) := HM1.out.cell 7
  have x8 : w1.cell? ⟨w.heap.size, 8, none⟩ = some (.int .i64 vk) := HM1.out.cell 8
  have x9 : w1.cell? ⟨w.heap.size, 9, none⟩ = some (.int .i64 vc) := HM1.out.cell 9
  have x10 : w1.cell? ⟨w.heap.size, 10, none⟩ = some (.string vt) := HM1.out.cell 10
  have x11 : w1.cell? ⟨w.heap.size, 11, none⟩ = some (.int .i64 tr) := HM1.out.cell 11
  have x12 : w1.cell? ⟨w.heap.size, 12, none⟩ = some (.int .i64 due) := HM1.out.cell 12
  go_region_held3 (fun w' => w'.cell? ⟨w.heap.size, 0, none⟩ = some (.int .i64 1) ∧ w'.cell? ⟨w.heap.size, 1, none⟩ = some (.int .i64 mid) ∧ w'.cell? ⟨w.heap.size, 2, none⟩ = some (.int .i64 born) ∧ w'.cell? ⟨w.heap.size, 3, none⟩ = some (.string fr) ∧ w'.cell? ⟨w.heap.size, 4, none⟩ = some (.slice a3 R.length c3) ∧ w'.cell? ⟨w.heap.size, 5, none⟩ = some (.string bo) ∧ w'.cell? ⟨w.heap.size, 6, none⟩ = some (.int .i64 id) ∧ w'.cell? ⟨w.heap.size, 7, none⟩ = some (.int .i64 rc) ∧ w'.cell? ⟨w.heap.size, 8, none⟩ = some (.int .i64 vk) ∧ w'.cell? ⟨w.heap.size, 9, none⟩ = some (.int .i64 vc) ∧ w'.cell? ⟨w.heap.size, 10, none⟩ = some (.string vt) ∧ w'.cell? ⟨w.heap.size, 11, none⟩ = some (.int .i64 tr) ∧ w'.cell? ⟨w.heap.size, 12, none⟩ = some (.int .i64 due)) (first | (exact ⟨m0, m1, m2, m3, m4, m5, m6, m7, m8, m9, m10, m11, m12⟩) | (exact ⟨l0, l1, l2, l3, l4, l5, l6, l7, l8, l9, l10, l11, l12⟩) | (exact ⟨k0, k1, k2, k3, k4, k5, k6, k7, k8, k9, k10, k11, k12⟩) | go_keep) (first | (go_at_call 90; refine (rightE1 mid born fr bo R _ _ (H.out.below (b1.drew)) m1 m2 HS.out (len_below HL.out (b1.drew))).mono ?_; rw [HQ.out]; rintro e w2 ⟨rfl, hb2⟩; have HB2 : Hid (Below w1.heap.size w1 w2) := (Below.refl w1.heap.size w1).drew.trans hb2; have k0 := (HM1.out.below HB2.out).cell 0; have k1 := (HM1.out.below HB2.out).cell 1; have k2 := (HM1.out.below HB2.out).cell 2; have k3 := (HM1.out.below HB2.out).cell 3; have k4 := (HM1.out.below HB2.out).cell 4; have k5 := (HM1.out.below HB2.out).cell 5; have k6 := (HM1.out.below HB2.out).cell 6; have k7 := (HM1.out.below HB2.out).cell 7; have k8 := (HM1.out.below HB2.out).cell 8; have k9 := (HM1.out.below HB2.out).cell 9; have k10 := (HM1.out.below HB2.out).cell 10; have k11 := (HM1.out.below HB2.out).cell 11; have k12 := (HM1.out.below HB2.out).cell 12; clear hb2) | (go_at_call 89; refine (rec1 mid born fr bo a3 R.length c3 _).mono ?_; rintro e w3 ⟨rfl, hb3⟩; have HB3 : Hid (Below w1.heap.size w1 w3) := HB2.out.trans (hb3.mono HB2.out.size); have l0 := (HM1.out.below HB3.out).cell 0; have l1 := (HM1.out.below HB3.out).cell 1; have l2 := (HM1.out.below HB3.out).cell 2; have l3 := (HM1.out.below HB3.out).cell 3; have l4 := (HM1.out.below HB3.out).cell 4; have l5 := (HM1.out.below HB3.out).cell 5; have l6 := (HM1.out.below HB3.out).cell 6; have l7 := (HM1.out.below HB3.out).cell 7; have l8 := (HM1.out.below HB3.out).cell 8; have l9 := (HM1.out.below HB3.out).cell 9; have l10 := (HM1.out.below HB3.out).cell 10; have l11 := (HM1.out.below HB3.out).cell 11; have l12 := (HM1.out.below HB3.out).cell 12; clear hb3) | (go_at_call 51; refine (HSC.out _ (b1.trans (HB3.out.mono b1.size))).mono ?_; rintro e w4 ⟨rfl, hb4⟩; have HB4 : Hid (Below w1.heap.size w1 w4) := HB3.out.trans (hb4.mono HB3.out.size); have m0 := (HM1.out.below HB4.out).cell 0; have m1 := (HM1.out.below HB4.out).cell 1; have m2 := (HM1.out.below HB4.out).cell 2; have m3 := (HM1.out.below HB4.out).cell 3; have m4 := (HM1.out.below HB4.out).cell 4; have m5 := (HM1.out.below HB4.out).cell 5; have m6 := (HM1.out.below HB4.out).cell 6; have m7 := (HM1.out.below HB4.out).cell 7; have m8 := (HM1.out.below HB4.out).cell 8; have m9 := (HM1.out.below HB4.out).cell 9; have m10 := (HM1.out.below HB4.out).cell 10; have m11 := (HM1.out.below HB4.out).cell 11; have m12 := (HM1.out.below HB4.out).cell 12; clear hb4))
  have b4 : Below w.heap.size w w4 := b1.trans (HB4.out.mono b1.size)
  clear x0 x1 x2 x3 x4 x5 x6 x7 x8 x9 x10 x11 x12 k0 k1 k2 k3 k4 k5 k6 k7 k8 k9 k10 k11 k12 l0 l1 l2 l3 l4 l5 l6 l7 l8 l9 l10 l11 l12 m0 m1 m2 m3 m4 m5 m6 m7 m8 m9 m10 m11 m12 hmr hmc
  cases S
  · go_wp2
    refine bodyPost_ret (v := .tuple #[.nilIface, .bool false]) (by simp [results, Tryz.results28, go_sem]) rfl ?_
    exact ⟨rfl, b4⟩
  · go_wp2
    refine bodyPost_ret (v := .tuple #[(.iface 103 (.agg #[.int .i64 mid, .int .i64 born, .string fr, .slice a3 R.length c3, .string bo])), .bool true]) (by simp [results, Tryz.results28, go_sem]) rfl ?_
    exact ⟨rfl, b4⟩

theorem rightS2 (mid born : Int) (fr : ByteArray) (R : List ByteArray) (bo : ByteArray) (id rc vk vc : Int) (vt : ByteArray) (tr due : Int) : rightR (⟨2, mid, born, fr, R, bo, id, rc, vk, vc, vt, tr, due⟩ : Rec) = ((idN id && (decide (0 ≤ rc) && (decide (rc < 20) && (decide (1 ≤ vk) && (decide (vk ≤ 4) && (codeOk vc && decide (vt.size ≤ 512))))))) && (decide ((2 : Int) = 2) && (decide (id = id) && (decide (rc = rc) && (true && (decide ((0 : Int) = tr) && (decide ((0 : Int) = due) && noMsgB mid born fr R.length bo))))))) := by
  rw [right2]
  simp only [eq_comm (a := (0 : Int)), decide_true, Bool.true_and]
  simp only [Bool.and_assoc, Bool.and_comm, Bool.and_left_comm]
set_option maxHeartbeats 8000000 in
set_option maxRecDepth 100000 in
theorem rightEnt2 (mid born : Int) (fr : ByteArray) (R : List ByteArray) (bo : ByteArray) (id rc vk vc : Int) (vt : ByteArray) (tr due : Int) (v : Value) (w : World) (h : ArgS w v R) (hR : R.length ≤ 1048576) (m4 : vt.size ≤ 1048576) :
    Calls Tryz.prog 28 #[.agg #[.int .i64 2, .int .i64 mid, .int .i64 born, .string fr, v, .string bo, .int .i64 id, .int .i64 rc, .int .i64 vk, .int .i64 vc, .string vt, .int .i64 tr, .int .i64 due]] w fun e w' => e = .returned (if rightR (⟨2, mid, born, fr, R, bo, id, rc, vk, vc, vt, tr, due⟩ : Rec) = true then .tuple #[(.iface 105 (.agg #[.int .i64 id, .int .i64 rc, .int .i64 vk, .int .i64 vc, .string vt])), .bool true] else .tuple #[.nilIface, .bool false]) ∧ Below w.heap.size w w' := by
  have H : Hid (ArgS w v R) := h
  obtain ⟨a3, c3, rfl⟩ := args_formM h
  clear h
  rw [rightS2]
  obtain ⟨Q, HQ⟩ : ∃ Q : Bool, Hid ((idN id && (decide (0 ≤ rc) && (decide (rc < 20) && (decide (1 ≤ vk) && (decide (vk ≤ 4) && (codeOk vc && decide (vt.size ≤ 512))))))) = Q) := ⟨_, rfl⟩
  obtain ⟨S, HSR⟩ : ∃ S : Bool, Hid ((decide ((2 : Int) = 2) && (decide (id = id) && (decide (rc = rc) && (true && (decide ((0 : Int) = tr) && (decide ((0 : Int) = due) && noMsgB mid born fr R.length bo)))))) = S) := ⟨_, rfl⟩
  have HSC : Hid (∀ wx, Below w.heap.size w wx → Calls Tryz.prog 51 #[.agg #[.int .i64 2, .int .i64 0, .int .i64 0, .string ⟨#[]⟩, .slice none 0 0, .string ⟨#[]⟩, .int .i64 id, .int .i64 rc, .int .i64 vk, .int .i64 vc, .string vt, .int .i64 0, .int .i64 0], .agg #[.int .i64 2, .int .i64 mid, .int .i64 born, .string fr, .slice a3 R.length c3, .string bo, .int .i64 id, .int .i64 rc, .int .i64 vk, .int .i64 vc, .string vt, .int .i64 tr, .int .i64 due]] wx fun e w' => e = .returned (.bool S) ∧ Below wx.heap.size wx w') := fun wx hx => by
    rw [← HSR.out]
    exact sameRec 2 0 0 ⟨#[]⟩ none 0 0 ⟨#[]⟩ id rc vk vc vt 0 0 2 mid born fr a3 R.length c3 bo id rc vk vc vt tr due (true) (noMsgB mid born fr R.length bo) wx (vd_neqS vk vc vt) (fun wy _ => sameMsgZero mid born fr bo a3 R.length c3 wy hR)
  rw [HQ.out, HSR.out]
  clear HSR
  have hmr := fun n w => mRight2 n #[.int .i64 id, .int .i64 rc, .int .i64 vk, .int .i64 vc, .string vt] w
  have hmc := fun n w => mRec2 n #[.int .i64 id, .int .i64 rc, .int .i64 vk, .int .i64 vc, .string vt] w
  go_enter Tryz.func28, Tryz.ntmps28
  go_wp2_with fail
  generalize hW : World.alloc _ _ = W0
  have HM0 : Hid (Blk w.heap.size #[.int .i64 2, .int .i64 mid, .int .i64 born, .string fr, .slice a3 R.length c3, .string bo, .int .i64 id, .int .i64 rc, .int .i64 vk, .int .i64 vc, .string vt, .int .i64 tr, .int .i64 due] W0) := by show Blk _ _ _; rw [← hW]; exact Blk.new w _ _
  have b0 : Below w.heap.size w W0 := by rw [← hW]; exact below1 _ _
  clear hW
  refine (entryOf2 mid born fr bo id rc vk vc vt tr due a3 R.length c3 _).mono ?_
  rintro e w1 ⟨rfl, hb1⟩
  have HM1 : Hid (Blk w.heap.size #[.int .i64 2, .int .i64 mid, .int .i64 born, .string fr, .slice a3 R.length c3, .string bo, .int .i64 id, .int .i64 rc, .int .i64 vk, .int .i64 vc, .string vt, .int .i64 tr, .int .i64 due] w1) := HM0.out.below hb1
  have b1 : Below w.heap.size w w1 := b0.trans (hb1.mono b0.size)
  have lM : w.heap.size < w1.heap.size := HM1.out.lt
  clear hb1 HM0 b0
  go_upto_region 2 with fail
  cases Q
  · first
      | go_region_law (first | (go_simp; go_at_call 135; refine (rightE2 id rc vk vc vt _ m4).mono ?_; rw [HQ.out]; rintro e w2 ⟨rfl, hb2⟩; have HB2 : Hid (Below w1.heap.size w1 w2) := (Below.refl w1.heap.size w1).drew.trans hb2))
      | fail
    all_goals
      go_wp2
      refine bodyPost_ret (v := .tuple #[.nilIface, .bool false]) (by simp [results, Tryz.results28, go_sem]) rfl ?_
      exact ⟨rfl, b1.trans (HB2.out.mono b1.size)⟩
  have x0 : w1.cell? ⟨w.heap.size, 0, none⟩ = some (.int .i64 2) := HM1.out.cell 0
  have x1 : w1.cell? ⟨w.heap.size, 1, none⟩ = some (.int .i64 mid) := HM1.out.cell 1
  have x2 : w1.cell? ⟨w.heap.size, 2, none⟩ = some (.int .i64 born) := HM1.out.cell 2
  have x3 : w1.cell? ⟨w.heap.size, 3, none⟩ = some (.string fr) := HM1.out.cell 3
  have x4 : w1.cell? ⟨w.heap.size, 4, none⟩ = some (.slice a3 R.length c3) := HM1.out.cell 4
  have x5 : w1.cell? ⟨w.heap.size, 5, none⟩ = some (.string bo) := HM1.out.cell 5
  have x6 : w1.cell? ⟨w.heap.size, 6, none⟩ = some (.int .i64 id) := HM1.out.cell 6
  have x7 : w1.cell? ⟨w.heap.size, 7, none⟩ = some (.int .i64 rc) := HM1.out.cell 7
  have x8 : w1.cell? ⟨w.heap.size, 8, none⟩ = some (.int .i64 vk) := HM1.out.cell 8
  have x9 : w1.cell? ⟨w.heap.size, 9, none⟩ = some (.int .i64 vc) := HM1.out.cell 9
  have x10 : w1.cell? ⟨w.heap.size, 10, none⟩ = some (.string vt) := HM1.out.cell 10
  have x11 : w1.cell? ⟨w.heap.size, 11, none⟩ = some (.int .i64 tr) := HM1.out.cell 11
  have x12 : w1.cell? ⟨w.heap.size, 12, none⟩ = some (.int .i64 due) := HM1.out.cell 12
  go_region_held3 (fun w' => w'.cell? ⟨w.heap.size, 0, none⟩ = some (.int .i64 2) ∧ w'.cell? ⟨w.heap.size, 1, none⟩ = some (.int .i64 mid) ∧ w'.cell? ⟨w.heap.size, 2, none⟩ = some (.int .i64 born) ∧ w'.cell? ⟨w.heap.size, 3, none⟩ = some (.string fr) ∧ w'.cell? ⟨w.heap.size, 4, none⟩ = some (.slice a3 R.length c3) ∧ w'.cell? ⟨w.heap.size, 5, none⟩ = some (.string bo) ∧ w'.cell? ⟨w.heap.size, 6, none⟩ = some (.int .i64 id) ∧ w'.cell? ⟨w.heap.size, 7, none⟩ = some (.int .i64 rc) ∧ w'.cell? ⟨w.heap.size, 8, none⟩ = some (.int .i64 vk) ∧ w'.cell? ⟨w.heap.size, 9, none⟩ = some (.int .i64 vc) ∧ w'.cell? ⟨w.heap.size, 10, none⟩ = some (.string vt) ∧ w'.cell? ⟨w.heap.size, 11, none⟩ = some (.int .i64 tr) ∧ w'.cell? ⟨w.heap.size, 12, none⟩ = some (.int .i64 due)) (first | (exact ⟨m0, m1, m2, m3, m4, m5, m6, m7, m8, m9, m10, m11, m12⟩) | (exact ⟨l0, l1, l2, l3, l4, l5, l6, l7, l8, l9, l10, l11, l12⟩) | (exact ⟨k0, k1, k2, k3, k4, k5, k6, k7, k8, k9, k10, k11, k12⟩) | go_keep) (first | (go_at_call 135; refine (rightE2 id rc vk vc vt _ m4).mono ?_; rw [HQ.out]; rintro e w2 ⟨rfl, hb2⟩; have HB2 : Hid (Below w1.heap.size w1 w2) := (Below.refl w1.heap.size w1).drew.trans hb2; have k0 := (HM1.out.below HB2.out).cell 0; have k1 := (HM1.out.below HB2.out).cell 1; have k2 := (HM1.out.below HB2.out).cell 2; have k3 := (HM1.out.below HB2.out).cell 3; have k4 := (HM1.out.below HB2.out).cell 4; have k5 := (HM1.out.below HB2.out).cell 5; have k6 := (HM1.out.below HB2.out).cell 6; have k7 := (HM1.out.below HB2.out).cell 7; have k8 := (HM1.out.below HB2.out).cell 8; have k9 := (HM1.out.below HB2.out).cell 9; have k10 := (HM1.out.below HB2.out).cell 10; have k11 := (HM1.out.below HB2.out).cell 11; have k12 := (HM1.out.below HB2.out).cell 12; clear hb2) | (go_at_call 134; refine (rec2 id rc vk vc vt _).mono ?_; rintro e w3 ⟨rfl, hb3⟩; have HB3 : Hid (Below w1.heap.size w1 w3) := HB2.out.trans (hb3.mono HB2.out.size); have l0 := (HM1.out.below HB3.out).cell 0; have l1 := (HM1.out.below HB3.out).cell 1; have l2 := (HM1.out.below HB3.out).cell 2; have l3 := (HM1.out.below HB3.out).cell 3; have l4 := (HM1.out.below HB3.out).cell 4; have l5 := (HM1.out.below HB3.out).cell 5; have l6 := (HM1.out.below HB3.out).cell 6; have l7 := (HM1.out.below HB3.out).cell 7; have l8 := (HM1.out.below HB3.out).cell 8; have l9 := (HM1.out.below HB3.out).cell 9; have l10 := (HM1.out.below HB3.out).cell 10; have l11 := (HM1.out.below HB3.out).cell 11; have l12 := (HM1.out.below HB3.out).cell 12; clear hb3) | (go_at_call 51; refine (HSC.out _ (b1.trans (HB3.out.mono b1.size))).mono ?_; rintro e w4 ⟨rfl, hb4⟩; have HB4 : Hid (Below w1.heap.size w1 w4) := HB3.out.trans (hb4.mono HB3.out.size); have m0 := (HM1.out.below HB4.out).cell 0; have m1 := (HM1.out.below HB4.out).cell 1; have m2 := (HM1.out.below HB4.out).cell 2; have m3 := (HM1.out.below HB4.out).cell 3; have m4 := (HM1.out.below HB4.out).cell 4; have m5 := (HM1.out.below HB4.out).cell 5; have m6 := (HM1.out.below HB4.out).cell 6; have m7 := (HM1.out.below HB4.out).cell 7; have m8 := (HM1.out.below HB4.out).cell 8; have m9 := (HM1.out.below HB4.out).cell 9; have m10 := (HM1.out.below HB4.out).cell 10; have m11 := (HM1.out.below HB4.out).cell 11; have m12 := (HM1.out.below HB4.out).cell 12; clear hb4))
  have b4 : Below w.heap.size w w4 := b1.trans (HB4.out.mono b1.size)
  clear x0 x1 x2 x3 x4 x5 x6 x7 x8 x9 x10 x11 x12 k0 k1 k2 k3 k4 k5 k6 k7 k8 k9 k10 k11 k12 l0 l1 l2 l3 l4 l5 l6 l7 l8 l9 l10 l11 l12 m0 m1 m2 m3 m4 m5 m6 m7 m8 m9 m10 m11 m12 hmr hmc
  cases S
  · go_wp2
    refine bodyPost_ret (v := .tuple #[.nilIface, .bool false]) (by simp [results, Tryz.results28, go_sem]) rfl ?_
    exact ⟨rfl, b4⟩
  · go_wp2
    refine bodyPost_ret (v := .tuple #[(.iface 105 (.agg #[.int .i64 id, .int .i64 rc, .int .i64 vk, .int .i64 vc, .string vt])), .bool true]) (by simp [results, Tryz.results28, go_sem]) rfl ?_
    exact ⟨rfl, b4⟩

theorem rightS3 (mid born : Int) (fr : ByteArray) (R : List ByteArray) (bo : ByteArray) (id rc vk vc : Int) (vt : ByteArray) (tr due : Int) : rightR (⟨3, mid, born, fr, R, bo, id, rc, vk, vc, vt, tr, due⟩ : Rec) = ((idN id && (decide (0 ≤ tr) && (decide (tr ≤ 999999) && (decide (0 ≤ due) && decide (due ≤ 20014400))))) && (decide ((3 : Int) = 3) && (decide (id = id) && (decide ((0 : Int) = rc) && (noVB vk vc vt && (decide (tr = tr) && (decide (due = due) && noMsgB mid born fr R.length bo))))))) := by
  rw [right3]
  simp only [eq_comm (a := (0 : Int)), decide_true, Bool.true_and]
  simp only [Bool.and_assoc, Bool.and_comm, Bool.and_left_comm]
set_option maxHeartbeats 8000000 in
set_option maxRecDepth 100000 in
theorem rightEnt3 (mid born : Int) (fr : ByteArray) (R : List ByteArray) (bo : ByteArray) (id rc vk vc : Int) (vt : ByteArray) (tr due : Int) (v : Value) (w : World) (h : ArgS w v R) (hR : R.length ≤ 1048576) :
    Calls Tryz.prog 28 #[.agg #[.int .i64 3, .int .i64 mid, .int .i64 born, .string fr, v, .string bo, .int .i64 id, .int .i64 rc, .int .i64 vk, .int .i64 vc, .string vt, .int .i64 tr, .int .i64 due]] w fun e w' => e = .returned (if rightR (⟨3, mid, born, fr, R, bo, id, rc, vk, vc, vt, tr, due⟩ : Rec) = true then .tuple #[(.iface 107 (.agg #[.int .i64 id, .int .i64 tr, .int .i64 due])), .bool true] else .tuple #[.nilIface, .bool false]) ∧ Below w.heap.size w w' := by
  have H : Hid (ArgS w v R) := h
  obtain ⟨a3, c3, rfl⟩ := args_formM h
  clear h
  rw [rightS3]
  obtain ⟨Q, HQ⟩ : ∃ Q : Bool, Hid ((idN id && (decide (0 ≤ tr) && (decide (tr ≤ 999999) && (decide (0 ≤ due) && decide (due ≤ 20014400))))) = Q) := ⟨_, rfl⟩
  obtain ⟨S, HSR⟩ : ∃ S : Bool, Hid ((decide ((3 : Int) = 3) && (decide (id = id) && (decide ((0 : Int) = rc) && (noVB vk vc vt && (decide (tr = tr) && (decide (due = due) && noMsgB mid born fr R.length bo)))))) = S) := ⟨_, rfl⟩
  have HSC : Hid (∀ wx, Below w.heap.size w wx → Calls Tryz.prog 51 #[.agg #[.int .i64 3, .int .i64 0, .int .i64 0, .string ⟨#[]⟩, .slice none 0 0, .string ⟨#[]⟩, .int .i64 id, .int .i64 0, .int .i64 0, .int .i64 0, .string ⟨#[]⟩, .int .i64 tr, .int .i64 due], .agg #[.int .i64 3, .int .i64 mid, .int .i64 born, .string fr, .slice a3 R.length c3, .string bo, .int .i64 id, .int .i64 rc, .int .i64 vk, .int .i64 vc, .string vt, .int .i64 tr, .int .i64 due]] wx fun e w' => e = .returned (.bool S) ∧ Below wx.heap.size wx w') := fun wx hx => by
    rw [← HSR.out]
    exact sameRec 3 0 0 ⟨#[]⟩ none 0 0 ⟨#[]⟩ id 0 0 0 ⟨#[]⟩ tr due 3 mid born fr a3 R.length c3 bo id rc vk vc vt tr due (noVB vk vc vt) (noMsgB mid born fr R.length bo) wx (vd_neq0 vk vc vt) (fun wy _ => sameMsgZero mid born fr bo a3 R.length c3 wy hR)
  rw [HQ.out, HSR.out]
  clear HSR
  have hmr := fun n w => mRight3 n #[.int .i64 id, .int .i64 tr, .int .i64 due] w
  have hmc := fun n w => mRec3 n #[.int .i64 id, .int .i64 tr, .int .i64 due] w
  go_enter Tryz.func28, Tryz.ntmps28
  go_wp2_with fail
  generalize hW : World.alloc _ _ = W0
  have HM0 : Hid (Blk w.heap.size #[.int .i64 3, .int .i64 mid, .int .i64 born, .string fr, .slice a3 R.length c3, .string bo, .int .i64 id, .int .i64 rc, .int .i64 vk, .int .i64 vc, .string vt, .int .i64 tr, .int .i64 due] W0) := by show Blk _ _ _; rw [← hW]; exact Blk.new w _ _
  have b0 : Below w.heap.size w W0 := by rw [← hW]; exact below1 _ _
  clear hW
  refine (entryOf3 mid born fr bo id rc vk vc vt tr due a3 R.length c3 _).mono ?_
  rintro e w1 ⟨rfl, hb1⟩
  have HM1 : Hid (Blk w.heap.size #[.int .i64 3, .int .i64 mid, .int .i64 born, .string fr, .slice a3 R.length c3, .string bo, .int .i64 id, .int .i64 rc, .int .i64 vk, .int .i64 vc, .string vt, .int .i64 tr, .int .i64 due] w1) := HM0.out.below hb1
  have b1 : Below w.heap.size w w1 := b0.trans (hb1.mono b0.size)
  have lM : w.heap.size < w1.heap.size := HM1.out.lt
  clear hb1 HM0 b0
  go_upto_region 2 with fail
  cases Q
  · first
      | go_region_law (first | (go_simp; go_at_call 146; refine (rightE3 id tr due _).mono ?_; rw [HQ.out]; rintro e w2 ⟨rfl, hb2⟩; have HB2 : Hid (Below w1.heap.size w1 w2) := (Below.refl w1.heap.size w1).drew.trans hb2))
      | fail
    all_goals
      go_wp2
      refine bodyPost_ret (v := .tuple #[.nilIface, .bool false]) (by simp [results, Tryz.results28, go_sem]) rfl ?_
      exact ⟨rfl, b1.trans (HB2.out.mono b1.size)⟩
  have x0 : w1.cell? ⟨w.heap.size, 0, none⟩ = some (.int .i64 3) := HM1.out.cell 0
  have x1 : w1.cell? ⟨w.heap.size, 1, none⟩ = some (.int .i64 mid) := HM1.out.cell 1
  have x2 : w1.cell? ⟨w.heap.size, 2, none⟩ = some (.int .i64 born) := HM1.out.cell 2
  have x3 : w1.cell? ⟨w.heap.size, 3, none⟩ = some (.string fr) := HM1.out.cell 3
  have x4 : w1.cell? ⟨w.heap.size, 4, none⟩ = some (.slice a3 R.length c3) := HM1.out.cell 4
  have x5 : w1.cell? ⟨w.heap.size, 5, none⟩ = some (.string bo) := HM1.out.cell 5
  have x6 : w1.cell? ⟨w.heap.size, 6, none⟩ = some (.int .i64 id) := HM1.out.cell 6
  have x7 : w1.cell? ⟨w.heap.size, 7, none⟩ = some (.int .i64 rc) := HM1.out.cell 7
  have x8 : w1.cell? ⟨w.heap.size, 8, none⟩ = some (.int .i64 vk) := HM1.out.cell 8
  have x9 : w1.cell? ⟨w.heap.size, 9, none⟩ = some (.int .i64 vc) := HM1.out.cell 9
  have x10 : w1.cell? ⟨w.heap.size, 10, none⟩ = some (.string vt) := HM1.out.cell 10
  have x11 : w1.cell? ⟨w.heap.size, 11, none⟩ = some (.int .i64 tr) := HM1.out.cell 11
  have x12 : w1.cell? ⟨w.heap.size, 12, none⟩ = some (.int .i64 due) := HM1.out.cell 12
  go_region_held3 (fun w' => w'.cell? ⟨w.heap.size, 0, none⟩ = some (.int .i64 3) ∧ w'.cell? ⟨w.heap.size, 1, none⟩ = some (.int .i64 mid) ∧ w'.cell? ⟨w.heap.size, 2, none⟩ = some (.int .i64 born) ∧ w'.cell? ⟨w.heap.size, 3, none⟩ = some (.string fr) ∧ w'.cell? ⟨w.heap.size, 4, none⟩ = some (.slice a3 R.length c3) ∧ w'.cell? ⟨w.heap.size, 5, none⟩ = some (.string bo) ∧ w'.cell? ⟨w.heap.size, 6, none⟩ = some (.int .i64 id) ∧ w'.cell? ⟨w.heap.size, 7, none⟩ = some (.int .i64 rc) ∧ w'.cell? ⟨w.heap.size, 8, none⟩ = some (.int .i64 vk) ∧ w'.cell? ⟨w.heap.size, 9, none⟩ = some (.int .i64 vc) ∧ w'.cell? ⟨w.heap.size, 10, none⟩ = some (.string vt) ∧ w'.cell? ⟨w.heap.size, 11, none⟩ = some (.int .i64 tr) ∧ w'.cell? ⟨w.heap.size, 12, none⟩ = some (.int .i64 due)) (first | (exact ⟨m0, m1, m2, m3, m4, m5, m6, m7, m8, m9, m10, m11, m12⟩) | (exact ⟨l0, l1, l2, l3, l4, l5, l6, l7, l8, l9, l10, l11, l12⟩) | (exact ⟨k0, k1, k2, k3, k4, k5, k6, k7, k8, k9, k10, k11, k12⟩) | go_keep) (first | (go_at_call 146; refine (rightE3 id tr due _).mono ?_; rw [HQ.out]; rintro e w2 ⟨rfl, hb2⟩; have HB2 : Hid (Below w1.heap.size w1 w2) := (Below.refl w1.heap.size w1).drew.trans hb2; have k0 := (HM1.out.below HB2.out).cell 0; have k1 := (HM1.out.below HB2.out).cell 1; have k2 := (HM1.out.below HB2.out).cell 2; have k3 := (HM1.out.below HB2.out).cell 3; have k4 := (HM1.out.below HB2.out).cell 4; have k5 := (HM1.out.below HB2.out).cell 5; have k6 := (HM1.out.below HB2.out).cell 6; have k7 := (HM1.out.below HB2.out).cell 7; have k8 := (HM1.out.below HB2.out).cell 8; have k9 := (HM1.out.below HB2.out).cell 9; have k10 := (HM1.out.below HB2.out).cell 10; have k11 := (HM1.out.below HB2.out).cell 11; have k12 := (HM1.out.below HB2.out).cell 12; clear hb2) | (go_at_call 145; refine (rec3 id tr due _).mono ?_; rintro e w3 ⟨rfl, hb3⟩; have HB3 : Hid (Below w1.heap.size w1 w3) := HB2.out.trans (hb3.mono HB2.out.size); have l0 := (HM1.out.below HB3.out).cell 0; have l1 := (HM1.out.below HB3.out).cell 1; have l2 := (HM1.out.below HB3.out).cell 2; have l3 := (HM1.out.below HB3.out).cell 3; have l4 := (HM1.out.below HB3.out).cell 4; have l5 := (HM1.out.below HB3.out).cell 5; have l6 := (HM1.out.below HB3.out).cell 6; have l7 := (HM1.out.below HB3.out).cell 7; have l8 := (HM1.out.below HB3.out).cell 8; have l9 := (HM1.out.below HB3.out).cell 9; have l10 := (HM1.out.below HB3.out).cell 10; have l11 := (HM1.out.below HB3.out).cell 11; have l12 := (HM1.out.below HB3.out).cell 12; clear hb3) | (go_at_call 51; refine (HSC.out _ (b1.trans (HB3.out.mono b1.size))).mono ?_; rintro e w4 ⟨rfl, hb4⟩; have HB4 : Hid (Below w1.heap.size w1 w4) := HB3.out.trans (hb4.mono HB3.out.size); have m0 := (HM1.out.below HB4.out).cell 0; have m1 := (HM1.out.below HB4.out).cell 1; have m2 := (HM1.out.below HB4.out).cell 2; have m3 := (HM1.out.below HB4.out).cell 3; have m4 := (HM1.out.below HB4.out).cell 4; have m5 := (HM1.out.below HB4.out).cell 5; have m6 := (HM1.out.below HB4.out).cell 6; have m7 := (HM1.out.below HB4.out).cell 7; have m8 := (HM1.out.below HB4.out).cell 8; have m9 := (HM1.out.below HB4.out).cell 9; have m10 := (HM1.out.below HB4.out).cell 10; have m11 := (HM1.out.below HB4.out).cell 11; have m12 := (HM1.out.below HB4.out).cell 12; clear hb4))
  have b4 : Below w.heap.size w w4 := b1.trans (HB4.out.mono b1.size)
  clear x0 x1 x2 x3 x4 x5 x6 x7 x8 x9 x10 x11 x12 k0 k1 k2 k3 k4 k5 k6 k7 k8 k9 k10 k11 k12 l0 l1 l2 l3 l4 l5 l6 l7 l8 l9 l10 l11 l12 m0 m1 m2 m3 m4 m5 m6 m7 m8 m9 m10 m11 m12 hmr hmc
  cases S
  · go_wp2
    refine bodyPost_ret (v := .tuple #[.nilIface, .bool false]) (by simp [results, Tryz.results28, go_sem]) rfl ?_
    exact ⟨rfl, b4⟩
  · go_wp2
    refine bodyPost_ret (v := .tuple #[(.iface 107 (.agg #[.int .i64 id, .int .i64 tr, .int .i64 due])), .bool true]) (by simp [results, Tryz.results28, go_sem]) rfl ?_
    exact ⟨rfl, b4⟩
end Go.Proofs.YtlolnfpfipnfeaaGreat
namespace Go.Proofs.YtlolnfpfipnfeaaGreat
open Go.ChangeShapes Go.WideShapes Go.ChangeAt Go.RowKit
attribute [local go_sem ↓] Go.wp_at_zero Go.wp_at_succ

theorem rightS4 (mid born : Int) (fr : ByteArray) (R : List ByteArray) (bo : ByteArray) (id rc vk vc : Int) (vt : ByteArray) (tr due : Int) : rightR (⟨4, mid, born, fr, R, bo, id, rc, vk, vc, vt, tr, due⟩ : Rec) = (idN id && (decide ((4 : Int) = 4) && (decide (id = id) && (decide ((0 : Int) = rc) && (noVB vk vc vt && (decide ((0 : Int) = tr) && (decide ((0 : Int) = due) && noMsgB mid born fr R.length bo))))))) := by
  rw [right4]
  simp only [eq_comm (a := (0 : Int)), decide_true, Bool.true_and]
  simp only [Bool.and_assoc, Bool.and_comm, Bool.and_left_comm]
set_option maxHeartbeats 8000000 in
set_option maxRecDepth 100000 in
theorem rightEnt4 (mid born : Int) (fr : ByteArray) (R : List ByteArray) (bo : ByteArray) (id rc vk vc : Int) (vt : ByteArray) (tr due : Int) (v : Value) (w : World) (h : ArgS w v R) (hR : R.length ≤ 1048576) :
    Calls Tryz.prog 28 #[.agg #[.int .i64 4, .int .i64 mid, .int .i64 born, .string fr, v, .string bo, .int .i64 id, .int .i64 rc, .int .i64 vk, .int .i64 vc, .string vt, .int .i64 tr, .int .i64 due]] w fun e w' => e = .returned (if rightR (⟨4, mid, born, fr, R, bo, id, rc, vk, vc, vt, tr, due⟩ : Rec) = true then .tuple #[(.iface 109 (.agg #[.int .i64 id])), .bool true] else .tuple #[.nilIface, .bool false]) ∧ Below w.heap.size w w' := by
  have H : Hid (ArgS w v R) := h
  obtain ⟨a3, c3, rfl⟩ := args_formM h
  clear h
  rw [rightS4]
  obtain ⟨Q, HQ⟩ : ∃ Q : Bool, Hid (idN id = Q) := ⟨_, rfl⟩
  obtain ⟨S, HSR⟩ : ∃ S : Bool, Hid ((decide ((4 : Int) = 4) && (decide (id = id) && (decide ((0 : Int) = rc) && (noVB vk vc vt && (decide ((0 : Int) = tr) && (decide ((0 : Int) = due) && noMsgB mid born fr R.length bo)))))) = S) := ⟨_, rfl⟩
  have HSC : Hid (∀ wx, Below w.heap.size w wx → Calls Tryz.prog 51 #[.agg #[.int .i64 4, .int .i64 0, .int .i64 0, .string ⟨#[]⟩, .slice none 0 0, .string ⟨#[]⟩, .int .i64 id, .int .i64 0, .int .i64 0, .int .i64 0, .string ⟨#[]⟩, .int .i64 0, .int .i64 0], .agg #[.int .i64 4, .int .i64 mid, .int .i64 born, .string fr, .slice a3 R.length c3, .string bo, .int .i64 id, .int .i64 rc, .int .i64 vk, .int .i64 vc, .string vt, .int .i64 tr, .int .i64 due]] wx fun e w' => e = .returned (.bool S) ∧ Below wx.heap.size wx w') := fun wx hx => by
    rw [← HSR.out]
    exact sameRec 4 0 0 ⟨#[]⟩ none 0 0 ⟨#[]⟩ id 0 0 0 ⟨#[]⟩ 0 0 4 mid born fr a3 R.length c3 bo id rc vk vc vt tr due (noVB vk vc vt) (noMsgB mid born fr R.length bo) wx (vd_neq0 vk vc vt) (fun wy _ => sameMsgZero mid born fr bo a3 R.length c3 wy hR)
  rw [HQ.out, HSR.out]
  clear HSR
  have hmr := fun n w => mRight4 n #[.int .i64 id] w
  have hmc := fun n w => mRec4 n #[.int .i64 id] w
  go_enter Tryz.func28, Tryz.ntmps28
  go_wp2_with fail
  generalize hW : World.alloc _ _ = W0
  have HM0 : Hid (Blk w.heap.size #[.int .i64 4, .int .i64 mid, .int .i64 born, .string fr, .slice a3 R.length c3, .string bo, .int .i64 id, .int .i64 rc, .int .i64 vk, .int .i64 vc, .string vt, .int .i64 tr, .int .i64 due] W0) := by show Blk _ _ _; rw [← hW]; exact Blk.new w _ _
  have b0 : Below w.heap.size w W0 := by rw [← hW]; exact below1 _ _
  clear hW
  refine (entryOf4 mid born fr bo id rc vk vc vt tr due a3 R.length c3 _).mono ?_
  rintro e w1 ⟨rfl, hb1⟩
  have HM1 : Hid (Blk w.heap.size #[.int .i64 4, .int .i64 mid, .int .i64 born, .string fr, .slice a3 R.length c3, .string bo, .int .i64 id, .int .i64 rc, .int .i64 vk, .int .i64 vc, .string vt, .int .i64 tr, .int .i64 due] w1) := HM0.out.below hb1
  have b1 : Below w.heap.size w w1 := b0.trans (hb1.mono b0.size)
  have lM : w.heap.size < w1.heap.size := HM1.out.lt
  clear hb1 HM0 b0
  go_upto_region 2 with fail
  cases Q
  · first
      | go_region_law (first | (go_simp; go_at_call 150; refine (rightE4 id _).mono ?_; rw [HQ.out]; rintro e w2 ⟨rfl, hb2⟩; have HB2 : Hid (Below w1.heap.size w1 w2) := (Below.refl w1.heap.size w1).drew.trans hb2))
      | fail
    all_goals
      go_wp2
      refine bodyPost_ret (v := .tuple #[.nilIface, .bool false]) (by simp [results, Tryz.results28, go_sem]) rfl ?_
      exact ⟨rfl, b1.trans (HB2.out.mono b1.size)⟩
  have x0 : w1.cell? ⟨w.heap.size, 0, none⟩ = some (.int .i64 4) := HM1.out.cell 0
  have x1 : w1.cell? ⟨w.heap.size, 1, none⟩ = some (.int .i64 mid) := HM1.out.cell 1
  have x2 : w1.cell? ⟨w.heap.size, 2, none⟩ = some (.int .i64 born) := HM1.out.cell 2
  have x3 : w1.cell? ⟨w.heap.size, 3, none⟩ = some (.string fr) := HM1.out.cell 3
  have x4 : w1.cell? ⟨w.heap.size, 4, none⟩ = some (.slice a3 R.length c3) := HM1.out.cell 4
  have x5 : w1.cell? ⟨w.heap.size, 5, none⟩ = some (.string bo) := HM1.out.cell 5
  have x6 : w1.cell? ⟨w.heap.size, 6, none⟩ = some (.int .i64 id) := HM1.out.cell 6
  have x7 : w1.cell? ⟨w.heap.size, 7, none⟩ = some (.int .i64 rc) := HM1.out.cell 7
  have x8 : w1.cell? ⟨w.heap.size, 8, none⟩ = some (.int .i64 vk) := HM1.out.cell 8
  have x9 : w1.cell? ⟨w.heap.size, 9, none⟩ = some (.int .i64 vc) := HM1.out.cell 9
  have x10 : w1.cell? ⟨w.heap.size, 10, none⟩ = some (.string vt) := HM1.out.cell 10
  have x11 : w1.cell? ⟨w.heap.size, 11, none⟩ = some (.int .i64 tr) := HM1.out.cell 11
  have x12 : w1.cell? ⟨w.heap.size, 12, none⟩ = some (.int .i64 due) := HM1.out.cell 12
  go_region_held3 (fun w' => w'.cell? ⟨w.heap.size, 0, none⟩ = some (.int .i64 4) ∧ w'.cell? ⟨w.heap.size, 1, none⟩ = some (.int .i64 mid) ∧ w'.cell? ⟨w.heap.size, 2, none⟩ = some (.int .i64 born) ∧ w'.cell? ⟨w.heap.size, 3, none⟩ = some (.string fr) ∧ w'.cell? ⟨w.heap.size, 4, none⟩ = some (.slice a3 R.length c3) ∧ w'.cell? ⟨w.heap.size, 5, none⟩ = some (.string bo) ∧ w'.cell? ⟨w.heap.size, 6, none⟩ = some (.int .i64 id) ∧ w'.cell? ⟨w.heap.size, 7, none⟩ = some (.int .i64 rc) ∧ w'.cell? ⟨w.heap.size, 8, none⟩ = some (.int .i64 vk) ∧ w'.cell? ⟨w.heap.size, 9, none⟩ = some (.int .i64 vc) ∧ w'.cell? ⟨w.heap.size, 10, none⟩ = some (.string vt) ∧ w'.cell? ⟨w.heap.size, 11, none⟩ = some (.int .i64 tr) ∧ w'.cell? ⟨w.heap.size, 12, none⟩ = some (.int .i64 due)) (first | (exact ⟨m0, m1, m2, m3, m4, m5, m6, m7, m8, m9, m10, m11, m12⟩) | (exact ⟨l0, l1, l2, l3, l4, l5, l6, l7, l8, l9, l10, l11, l12⟩) | (exact ⟨k0, k1, k2, k3, k4, k5, k6, k7, k8, k9, k10, k11, k12⟩) | go_keep) (first | (go_at_call 150; refine (rightE4 id _).mono ?_; rw [HQ.out]; rintro e w2 ⟨rfl, hb2⟩; have HB2 : Hid (Below w1.heap.size w1 w2) := (Below.refl w1.heap.size w1).drew.trans hb2; have k0 := (HM1.out.below HB2.out).cell 0; have k1 := (HM1.out.below HB2.out).cell 1; have k2 := (HM1.out.below HB2.out).cell 2; have k3 := (HM1.out.below HB2.out).cell 3; have k4 := (HM1.out.below HB2.out).cell 4; have k5 := (HM1.out.below HB2.out).cell 5; have k6 := (HM1.out.below HB2.out).cell 6; have k7 := (HM1.out.below HB2.out).cell 7; have k8 := (HM1.out.below HB2.out).cell 8; have k9 := (HM1.out.below HB2.out).cell 9; have k10 := (HM1.out.below HB2.out).cell 10; have k11 := (HM1.out.below HB2.out).cell 11; have k12 := (HM1.out.below HB2.out).cell 12; clear hb2) | (go_at_call 149; refine (rec4 id _).mono ?_; rintro e w3 ⟨rfl, hb3⟩; have HB3 : Hid (Below w1.heap.size w1 w3) := HB2.out.trans (hb3.mono HB2.out.size); have l0 := (HM1.out.below HB3.out).cell 0; have l1 := (HM1.out.below HB3.out).cell 1; have l2 := (HM1.out.below HB3.out).cell 2; have l3 := (HM1.out.below HB3.out).cell 3; have l4 := (HM1.out.below HB3.out).cell 4; have l5 := (HM1.out.below HB3.out).cell 5; have l6 := (HM1.out.below HB3.out).cell 6; have l7 := (HM1.out.below HB3.out).cell 7; have l8 := (HM1.out.below HB3.out).cell 8; have l9 := (HM1.out.below HB3.out).cell 9; have l10 := (HM1.out.below HB3.out).cell 10; have l11 := (HM1.out.below HB3.out).cell 11; have l12 := (HM1.out.below HB3.out).cell 12; clear hb3) | (go_at_call 51; refine (HSC.out _ (b1.trans (HB3.out.mono b1.size))).mono ?_; rintro e w4 ⟨rfl, hb4⟩; have HB4 : Hid (Below w1.heap.size w1 w4) := HB3.out.trans (hb4.mono HB3.out.size); have m0 := (HM1.out.below HB4.out).cell 0; have m1 := (HM1.out.below HB4.out).cell 1; have m2 := (HM1.out.below HB4.out).cell 2; have m3 := (HM1.out.below HB4.out).cell 3; have m4 := (HM1.out.below HB4.out).cell 4; have m5 := (HM1.out.below HB4.out).cell 5; have m6 := (HM1.out.below HB4.out).cell 6; have m7 := (HM1.out.below HB4.out).cell 7; have m8 := (HM1.out.below HB4.out).cell 8; have m9 := (HM1.out.below HB4.out).cell 9; have m10 := (HM1.out.below HB4.out).cell 10; have m11 := (HM1.out.below HB4.out).cell 11; have m12 := (HM1.out.below HB4.out).cell 12; clear hb4))
  have b4 : Below w.heap.size w w4 := b1.trans (HB4.out.mono b1.size)
  clear x0 x1 x2 x3 x4 x5 x6 x7 x8 x9 x10 x11 x12 k0 k1 k2 k3 k4 k5 k6 k7 k8 k9 k10 k11 k12 l0 l1 l2 l3 l4 l5 l6 l7 l8 l9 l10 l11 l12 m0 m1 m2 m3 m4 m5 m6 m7 m8 m9 m10 m11 m12 hmr hmc
  cases S
  · go_wp2
    refine bodyPost_ret (v := .tuple #[.nilIface, .bool false]) (by simp [results, Tryz.results28, go_sem]) rfl ?_
    exact ⟨rfl, b4⟩
  · go_wp2
    refine bodyPost_ret (v := .tuple #[(.iface 109 (.agg #[.int .i64 id])), .bool true]) (by simp [results, Tryz.results28, go_sem]) rfl ?_
    exact ⟨rfl, b4⟩

theorem rightS5 (mid born : Int) (fr : ByteArray) (R : List ByteArray) (bo : ByteArray) (id rc vk vc : Int) (vt : ByteArray) (tr due : Int) : rightR (⟨5, mid, born, fr, R, bo, id, rc, vk, vc, vt, tr, due⟩ : Rec) = (idN id && (decide ((5 : Int) = 5) && (decide (id = id) && (decide ((0 : Int) = rc) && (noVB vk vc vt && (decide ((0 : Int) = tr) && (decide ((0 : Int) = due) && noMsgB mid born fr R.length bo))))))) := by
  rw [right5]
  simp only [eq_comm (a := (0 : Int)), decide_true, Bool.true_and]
  simp only [Bool.and_assoc, Bool.and_comm, Bool.and_left_comm]
set_option maxHeartbeats 8000000 in
set_option maxRecDepth 100000 in
theorem rightEnt5 (mid born : Int) (fr : ByteArray) (R : List ByteArray) (bo : ByteArray) (id rc vk vc : Int) (vt : ByteArray) (tr due : Int) (v : Value) (w : World) (h : ArgS w v R) (hR : R.length ≤ 1048576) :
    Calls Tryz.prog 28 #[.agg #[.int .i64 5, .int .i64 mid, .int .i64 born, .string fr, v, .string bo, .int .i64 id, .int .i64 rc, .int .i64 vk, .int .i64 vc, .string vt, .int .i64 tr, .int .i64 due]] w fun e w' => e = .returned (if rightR (⟨5, mid, born, fr, R, bo, id, rc, vk, vc, vt, tr, due⟩ : Rec) = true then .tuple #[(.iface 110 (.agg #[.int .i64 id])), .bool true] else .tuple #[.nilIface, .bool false]) ∧ Below w.heap.size w w' := by
  have H : Hid (ArgS w v R) := h
  obtain ⟨a3, c3, rfl⟩ := args_formM h
  clear h
  rw [rightS5]
  obtain ⟨Q, HQ⟩ : ∃ Q : Bool, Hid (idN id = Q) := ⟨_, rfl⟩
  obtain ⟨S, HSR⟩ : ∃ S : Bool, Hid ((decide ((5 : Int) = 5) && (decide (id = id) && (decide ((0 : Int) = rc) && (noVB vk vc vt && (decide ((0 : Int) = tr) && (decide ((0 : Int) = due) && noMsgB mid born fr R.length bo)))))) = S) := ⟨_, rfl⟩
  have HSC : Hid (∀ wx, Below w.heap.size w wx → Calls Tryz.prog 51 #[.agg #[.int .i64 5, .int .i64 0, .int .i64 0, .string ⟨#[]⟩, .slice none 0 0, .string ⟨#[]⟩, .int .i64 id, .int .i64 0, .int .i64 0, .int .i64 0, .string ⟨#[]⟩, .int .i64 0, .int .i64 0], .agg #[.int .i64 5, .int .i64 mid, .int .i64 born, .string fr, .slice a3 R.length c3, .string bo, .int .i64 id, .int .i64 rc, .int .i64 vk, .int .i64 vc, .string vt, .int .i64 tr, .int .i64 due]] wx fun e w' => e = .returned (.bool S) ∧ Below wx.heap.size wx w') := fun wx hx => by
    rw [← HSR.out]
    exact sameRec 5 0 0 ⟨#[]⟩ none 0 0 ⟨#[]⟩ id 0 0 0 ⟨#[]⟩ 0 0 5 mid born fr a3 R.length c3 bo id rc vk vc vt tr due (noVB vk vc vt) (noMsgB mid born fr R.length bo) wx (vd_neq0 vk vc vt) (fun wy _ => sameMsgZero mid born fr bo a3 R.length c3 wy hR)
  rw [HQ.out, HSR.out]
  clear HSR
  have hmr := fun n w => mRight5 n #[.int .i64 id] w
  have hmc := fun n w => mRec5 n #[.int .i64 id] w
  go_enter Tryz.func28, Tryz.ntmps28
  go_wp2_with fail
  generalize hW : World.alloc _ _ = W0
  have HM0 : Hid (Blk w.heap.size #[.int .i64 5, .int .i64 mid, .int .i64 born, .string fr, .slice a3 R.length c3, .string bo, .int .i64 id, .int .i64 rc, .int .i64 vk, .int .i64 vc, .string vt, .int .i64 tr, .int .i64 due] W0) := by show Blk _ _ _; rw [← hW]; exact Blk.new w _ _
  have b0 : Below w.heap.size w W0 := by rw [← hW]; exact below1 _ _
  clear hW
  refine (entryOf5 mid born fr bo id rc vk vc vt tr due a3 R.length c3 _).mono ?_
  rintro e w1 ⟨rfl, hb1⟩
  have HM1 : Hid (Blk w.heap.size #[.int .i64 5, .int .i64 mid, .int .i64 born, .string fr, .slice a3 R.length c3, .string bo, .int .i64 id, .int .i64 rc, .int .i64 vk, .int .i64 vc, .string vt, .int .i64 tr, .int .i64 due] w1) := HM0.out.below hb1
  have b1 : Below w.heap.size w w1 := b0.trans (hb1.mono b0.size)
  have lM : w.heap.size < w1.heap.size := HM1.out.lt
  clear hb1 HM0 b0
  go_upto_region 2 with fail
  cases Q
  · first
      | go_region_law (first | (go_simp; go_at_call 154; refine (rightE5 id _).mono ?_; rw [HQ.out]; rintro e w2 ⟨rfl, hb2⟩; have HB2 : Hid (Below w1.heap.size w1 w2) := (Below.refl w1.heap.size w1).drew.trans hb2))
      | fail
    all_goals
      go_wp2
      refine bodyPost_ret (v := .tuple #[.nilIface, .bool false]) (by simp [results, Tryz.results28, go_sem]) rfl ?_
      exact ⟨rfl, b1.trans (HB2.out.mono b1.size)⟩
  have x0 : w1.cell? ⟨w.heap.size, 0, none⟩ = some (.int .i64 5) := HM1.out.cell 0
  have x1 : w1.cell? ⟨w.heap.size, 1, none⟩ = some (.int .i64 mid) := HM1.out.cell 1
  have x2 : w1.cell? ⟨w.heap.size, 2, none⟩ = some (.int .i64 born) := HM1.out.cell 2
  have x3 : w1.cell? ⟨w.heap.size, 3, none⟩ = some (.string fr) := HM1.out.cell 3
  have x4 : w1.cell? ⟨w.heap.size, 4, none⟩ = some (.slice a3 R.length c3) := HM1.out.cell 4
  have x5 : w1.cell? ⟨w.heap.size, 5, none⟩ = some (.string bo) := HM1.out.cell 5
  have x6 : w1.cell? ⟨w.heap.size, 6, none⟩ = some (.int .i64 id) := HM1.out.cell 6
  have x7 : w1.cell? ⟨w.heap.size, 7, none⟩ = some (.int .i64 rc) := HM1.out.cell 7
  have x8 : w1.cell? ⟨w.heap.size, 8, none⟩ = some (.int .i64 vk) := HM1.out.cell 8
  have x9 : w1.cell? ⟨w.heap.size, 9, none⟩ = some (.int .i64 vc) := HM1.out.cell 9
  have x10 : w1.cell? ⟨w.heap.size, 10, none⟩ = some (.string vt) := HM1.out.cell 10
  have x11 : w1.cell? ⟨w.heap.size, 11, none⟩ = some (.int .i64 tr) := HM1.out.cell 11
  have x12 : w1.cell? ⟨w.heap.size, 12, none⟩ = some (.int .i64 due) := HM1.out.cell 12
  go_region_held3 (fun w' => w'.cell? ⟨w.heap.size, 0, none⟩ = some (.int .i64 5) ∧ w'.cell? ⟨w.heap.size, 1, none⟩ = some (.int .i64 mid) ∧ w'.cell? ⟨w.heap.size, 2, none⟩ = some (.int .i64 born) ∧ w'.cell? ⟨w.heap.size, 3, none⟩ = some (.string fr) ∧ w'.cell? ⟨w.heap.size, 4, none⟩ = some (.slice a3 R.length c3) ∧ w'.cell? ⟨w.heap.size, 5, none⟩ = some (.string bo) ∧ w'.cell? ⟨w.heap.size, 6, none⟩ = some (.int .i64 id) ∧ w'.cell? ⟨w.heap.size, 7, none⟩ = some (.int .i64 rc) ∧ w'.cell? ⟨w.heap.size, 8, none⟩ = some (.int .i64 vk) ∧ w'.cell? ⟨w.heap.size, 9, none⟩ = some (.int .i64 vc) ∧ w'.cell? ⟨w.heap.size, 10, none⟩ = some (.string vt) ∧ w'.cell? ⟨w.heap.size, 11, none⟩ = some (.int .i64 tr) ∧ w'.cell? ⟨w.heap.size, 12, none⟩ = some (.int .i64 due)) (first | (exact ⟨m0, m1, m2, m3, m4, m5, m6, m7, m8, m9, m10, m11, m12⟩) | (exact ⟨l0, l1, l2, l3, l4, l5, l6, l7, l8, l9, l10, l11, l12⟩) | (exact ⟨k0, k1, k2, k3, k4, k5, k6, k7, k8, k9, k10, k11, k12⟩) | go_keep) (first | (go_at_call 154; refine (rightE5 id _).mono ?_; rw [HQ.out]; rintro e w2 ⟨rfl, hb2⟩; have HB2 : Hid (Below w1.heap.size w1 w2) := (Below.refl w1.heap.size w1).drew.trans hb2; have k0 := (HM1.out.below HB2.out).cell 0; have k1 := (HM1.out.below HB2.out).cell 1; have k2 := (HM1.out.below HB2.out).cell 2; have k3 := (HM1.out.below HB2.out).cell 3; have k4 := (HM1.out.below HB2.out).cell 4; have k5 := (HM1.out.below HB2.out).cell 5; have k6 := (HM1.out.below HB2.out).cell 6; have k7 := (HM1.out.below HB2.out).cell 7; have k8 := (HM1.out.below HB2.out).cell 8; have k9 := (HM1.out.below HB2.out).cell 9; have k10 := (HM1.out.below HB2.out).cell 10; have k11 := (HM1.out.below HB2.out).cell 11; have k12 := (HM1.out.below HB2.out).cell 12; clear hb2) | (go_at_call 153; refine (rec5 id _).mono ?_; rintro e w3 ⟨rfl, hb3⟩; have HB3 : Hid (Below w1.heap.size w1 w3) := HB2.out.trans (hb3.mono HB2.out.size); have l0 := (HM1.out.below HB3.out).cell 0; have l1 := (HM1.out.below HB3.out).cell 1; have l2 := (HM1.out.below HB3.out).cell 2; have l3 := (HM1.out.below HB3.out).cell 3; have l4 := (HM1.out.below HB3.out).cell 4; have l5 := (HM1.out.below HB3.out).cell 5; have l6 := (HM1.out.below HB3.out).cell 6; have l7 := (HM1.out.below HB3.out).cell 7; have l8 := (HM1.out.below HB3.out).cell 8; have l9 := (HM1.out.below HB3.out).cell 9; have l10 := (HM1.out.below HB3.out).cell 10; have l11 := (HM1.out.below HB3.out).cell 11; have l12 := (HM1.out.below HB3.out).cell 12; clear hb3) | (go_at_call 51; refine (HSC.out _ (b1.trans (HB3.out.mono b1.size))).mono ?_; rintro e w4 ⟨rfl, hb4⟩; have HB4 : Hid (Below w1.heap.size w1 w4) := HB3.out.trans (hb4.mono HB3.out.size); have m0 := (HM1.out.below HB4.out).cell 0; have m1 := (HM1.out.below HB4.out).cell 1; have m2 := (HM1.out.below HB4.out).cell 2; have m3 := (HM1.out.below HB4.out).cell 3; have m4 := (HM1.out.below HB4.out).cell 4; have m5 := (HM1.out.below HB4.out).cell 5; have m6 := (HM1.out.below HB4.out).cell 6; have m7 := (HM1.out.below HB4.out).cell 7; have m8 := (HM1.out.below HB4.out).cell 8; have m9 := (HM1.out.below HB4.out).cell 9; have m10 := (HM1.out.below HB4.out).cell 10; have m11 := (HM1.out.below HB4.out).cell 11; have m12 := (HM1.out.below HB4.out).cell 12; clear hb4))
  have b4 : Below w.heap.size w w4 := b1.trans (HB4.out.mono b1.size)
  clear x0 x1 x2 x3 x4 x5 x6 x7 x8 x9 x10 x11 x12 k0 k1 k2 k3 k4 k5 k6 k7 k8 k9 k10 k11 k12 l0 l1 l2 l3 l4 l5 l6 l7 l8 l9 l10 l11 l12 m0 m1 m2 m3 m4 m5 m6 m7 m8 m9 m10 m11 m12 hmr hmc
  cases S
  · go_wp2
    refine bodyPost_ret (v := .tuple #[.nilIface, .bool false]) (by simp [results, Tryz.results28, go_sem]) rfl ?_
    exact ⟨rfl, b4⟩
  · go_wp2
    refine bodyPost_ret (v := .tuple #[(.iface 110 (.agg #[.int .i64 id])), .bool true]) (by simp [results, Tryz.results28, go_sem]) rfl ?_
    exact ⟨rfl, b4⟩

theorem rightS6 (mid born : Int) (fr : ByteArray) (R : List ByteArray) (bo : ByteArray) (id rc vk vc : Int) (vt : ByteArray) (tr due : Int) : rightR (⟨6, mid, born, fr, R, bo, id, rc, vk, vc, vt, tr, due⟩ : Rec) = ((decide (1 ≤ id) && decide (id ≤ 1000000)) && (decide ((6 : Int) = 6) && (decide (id = id) && (decide ((0 : Int) = rc) && (noVB vk vc vt && (decide ((0 : Int) = tr) && (decide ((0 : Int) = due) && noMsgB mid born fr R.length bo))))))) := by
  rw [right6]
  simp only [eq_comm (a := (0 : Int)), decide_true, Bool.true_and]
  simp only [Bool.and_assoc, Bool.and_comm, Bool.and_left_comm]
set_option maxHeartbeats 8000000 in
set_option maxRecDepth 100000 in
theorem rightEnt6 (mid born : Int) (fr : ByteArray) (R : List ByteArray) (bo : ByteArray) (id rc vk vc : Int) (vt : ByteArray) (tr due : Int) (v : Value) (w : World) (h : ArgS w v R) (hR : R.length ≤ 1048576) :
    Calls Tryz.prog 28 #[.agg #[.int .i64 6, .int .i64 mid, .int .i64 born, .string fr, v, .string bo, .int .i64 id, .int .i64 rc, .int .i64 vk, .int .i64 vc, .string vt, .int .i64 tr, .int .i64 due]] w fun e w' => e = .returned (if rightR (⟨6, mid, born, fr, R, bo, id, rc, vk, vc, vt, tr, due⟩ : Rec) = true then .tuple #[(.iface 111 (.agg #[.int .i64 id])), .bool true] else .tuple #[.nilIface, .bool false]) ∧ Below w.heap.size w w' := by
  have H : Hid (ArgS w v R) := h
  obtain ⟨a3, c3, rfl⟩ := args_formM h
  clear h
  rw [rightS6]
  obtain ⟨Q, HQ⟩ : ∃ Q : Bool, Hid ((decide (1 ≤ id) && decide (id ≤ 1000000)) = Q) := ⟨_, rfl⟩
  obtain ⟨S, HSR⟩ : ∃ S : Bool, Hid ((decide ((6 : Int) = 6) && (decide (id = id) && (decide ((0 : Int) = rc) && (noVB vk vc vt && (decide ((0 : Int) = tr) && (decide ((0 : Int) = due) && noMsgB mid born fr R.length bo)))))) = S) := ⟨_, rfl⟩
  have HSC : Hid (∀ wx, Below w.heap.size w wx → Calls Tryz.prog 51 #[.agg #[.int .i64 6, .int .i64 0, .int .i64 0, .string ⟨#[]⟩, .slice none 0 0, .string ⟨#[]⟩, .int .i64 id, .int .i64 0, .int .i64 0, .int .i64 0, .string ⟨#[]⟩, .int .i64 0, .int .i64 0], .agg #[.int .i64 6, .int .i64 mid, .int .i64 born, .string fr, .slice a3 R.length c3, .string bo, .int .i64 id, .int .i64 rc, .int .i64 vk, .int .i64 vc, .string vt, .int .i64 tr, .int .i64 due]] wx fun e w' => e = .returned (.bool S) ∧ Below wx.heap.size wx w') := fun wx hx => by
    rw [← HSR.out]
    exact sameRec 6 0 0 ⟨#[]⟩ none 0 0 ⟨#[]⟩ id 0 0 0 ⟨#[]⟩ 0 0 6 mid born fr a3 R.length c3 bo id rc vk vc vt tr due (noVB vk vc vt) (noMsgB mid born fr R.length bo) wx (vd_neq0 vk vc vt) (fun wy _ => sameMsgZero mid born fr bo a3 R.length c3 wy hR)
  rw [HQ.out, HSR.out]
  clear HSR
  have hmr := fun n w => mRight6 n #[.int .i64 id] w
  have hmc := fun n w => mRec6 n #[.int .i64 id] w
  go_enter Tryz.func28, Tryz.ntmps28
  go_wp2_with fail
  generalize hW : World.alloc _ _ = W0
  have HM0 : Hid (Blk w.heap.size #[.int .i64 6, .int .i64 mid, .int .i64 born, .string fr, .slice a3 R.length c3, .string bo, .int .i64 id, .int .i64 rc, .int .i64 vk, .int .i64 vc, .string vt, .int .i64 tr, .int .i64 due] W0) := by show Blk _ _ _; rw [← hW]; exact Blk.new w _ _
  have b0 : Below w.heap.size w W0 := by rw [← hW]; exact below1 _ _
  clear hW
  refine (entryOf6 mid born fr bo id rc vk vc vt tr due a3 R.length c3 _).mono ?_
  rintro e w1 ⟨rfl, hb1⟩
  have HM1 : Hid (Blk w.heap.size #[.int .i64 6, .int .i64 mid, .int .i64 born, .string fr, .slice a3 R.length c3, .string bo, .int .i64 id, .int .i64 rc, .int .i64 vk, .int .i64 vc, .string vt, .int .i64 tr, .int .i64 due] w1) := HM0.out.below hb1
  have b1 : Below w.heap.size w w1 := b0.trans (hb1.mono b0.size)
  have lM : w.heap.size < w1.heap.size := HM1.out.lt
  clear hb1 HM0 b0
  go_upto_region 2 with fail
  cases Q
  · first
      | go_region_law (first | (go_simp; go_at_call 161; refine (rightE6 id _).mono ?_; rw [HQ.out]; rintro e w2 ⟨rfl, hb2⟩; have HB2 : Hid (Below w1.heap.size w1 w2) := (Below.refl w1.heap.size w1).drew.trans hb2))
      | fail
    all_goals
      go_wp2
      refine bodyPost_ret (v := .tuple #[.nilIface, .bool false]) (by simp [results, Tryz.results28, go_sem]) rfl ?_
      exact ⟨rfl, b1.trans (HB2.out.mono b1.size)⟩
  have x0 : w1.cell? ⟨w.heap.size, 0, none⟩ = some (.int .i64 6) := HM1.out.cell 0
  have x1 : w1.cell? ⟨w.heap.size, 1, none⟩ = some (.int .i64 mid) := HM1.out.cell 1
  have x2 : w1.cell? ⟨w.heap.size, 2, none⟩ = some (.int .i64 born) := HM1.out.cell 2
  have x3 : w1.cell? ⟨w.heap.size, 3, none⟩ = some (.string fr) := HM1.out.cell 3
  have x4 : w1.cell? ⟨w.heap.size, 4, none⟩ = some (.slice a3 R.length c3) := HM1.out.cell 4
  have x5 : w1.cell? ⟨w.heap.size, 5, none⟩ = some (.string bo) := HM1.out.cell 5
  have x6 : w1.cell? ⟨w.heap.size, 6, none⟩ = some (.int .i64 id) := HM1.out.cell 6
  have x7 : w1.cell? ⟨w.heap.size, 7, none⟩ = some (.int .i64 rc) := HM1.out.cell 7
  have x8 : w1.cell? ⟨w.heap.size, 8, none⟩ = some (.int .i64 vk) := HM1.out.cell 8
  have x9 : w1.cell? ⟨w.heap.size, 9, none⟩ = some (.int .i64 vc) := HM1.out.cell 9
  have x10 : w1.cell? ⟨w.heap.size, 10, none⟩ = some (.string vt) := HM1.out.cell 10
  have x11 : w1.cell? ⟨w.heap.size, 11, none⟩ = some (.int .i64 tr) := HM1.out.cell 11
  have x12 : w1.cell? ⟨w.heap.size, 12, none⟩ = some (.int .i64 due) := HM1.out.cell 12
  go_region_held3 (fun w' => w'.cell? ⟨w.heap.size, 0, none⟩ = some (.int .i64 6) ∧ w'.cell? ⟨w.heap.size, 1, none⟩ = some (.int .i64 mid) ∧ w'.cell? ⟨w.heap.size, 2, none⟩ = some (.int .i64 born) ∧ w'.cell? ⟨w.heap.size, 3, none⟩ = some (.string fr) ∧ w'.cell? ⟨w.heap.size, 4, none⟩ = some (.slice a3 R.length c3) ∧ w'.cell? ⟨w.heap.size, 5, none⟩ = some (.string bo) ∧ w'.cell? ⟨w.heap.size, 6, none⟩ = some (.int .i64 id) ∧ w'.cell? ⟨w.heap.size, 7, none⟩ = some (.int .i64 rc) ∧ w'.cell? ⟨w.heap.size, 8, none⟩ = some (.int .i64 vk) ∧ w'.cell? ⟨w.heap.size, 9, none⟩ = some (.int .i64 vc) ∧ w'.cell? ⟨w.heap.size, 10, none⟩ = some (.string vt) ∧ w'.cell? ⟨w.heap.size, 11, none⟩ = some (.int .i64 tr) ∧ w'.cell? ⟨w.heap.size, 12, none⟩ = some (.int .i64 due)) (first | (exact ⟨m0, m1, m2, m3, m4, m5, m6, m7, m8, m9, m10, m11, m12⟩) | (exact ⟨l0, l1, l2, l3, l4, l5, l6, l7, l8, l9, l10, l11, l12⟩) | (exact ⟨k0, k1, k2, k3, k4, k5, k6, k7, k8, k9, k10, k11, k12⟩) | go_keep) (first | (go_at_call 161; refine (rightE6 id _).mono ?_; rw [HQ.out]; rintro e w2 ⟨rfl, hb2⟩; have HB2 : Hid (Below w1.heap.size w1 w2) := (Below.refl w1.heap.size w1).drew.trans hb2; have k0 := (HM1.out.below HB2.out).cell 0; have k1 := (HM1.out.below HB2.out).cell 1; have k2 := (HM1.out.below HB2.out).cell 2; have k3 := (HM1.out.below HB2.out).cell 3; have k4 := (HM1.out.below HB2.out).cell 4; have k5 := (HM1.out.below HB2.out).cell 5; have k6 := (HM1.out.below HB2.out).cell 6; have k7 := (HM1.out.below HB2.out).cell 7; have k8 := (HM1.out.below HB2.out).cell 8; have k9 := (HM1.out.below HB2.out).cell 9; have k10 := (HM1.out.below HB2.out).cell 10; have k11 := (HM1.out.below HB2.out).cell 11; have k12 := (HM1.out.below HB2.out).cell 12; clear hb2) | (go_at_call 160; refine (rec6 id _).mono ?_; rintro e w3 ⟨rfl, hb3⟩; have HB3 : Hid (Below w1.heap.size w1 w3) := HB2.out.trans (hb3.mono HB2.out.size); have l0 := (HM1.out.below HB3.out).cell 0; have l1 := (HM1.out.below HB3.out).cell 1; have l2 := (HM1.out.below HB3.out).cell 2; have l3 := (HM1.out.below HB3.out).cell 3; have l4 := (HM1.out.below HB3.out).cell 4; have l5 := (HM1.out.below HB3.out).cell 5; have l6 := (HM1.out.below HB3.out).cell 6; have l7 := (HM1.out.below HB3.out).cell 7; have l8 := (HM1.out.below HB3.out).cell 8; have l9 := (HM1.out.below HB3.out).cell 9; have l10 := (HM1.out.below HB3.out).cell 10; have l11 := (HM1.out.below HB3.out).cell 11; have l12 := (HM1.out.below HB3.out).cell 12; clear hb3) | (go_at_call 51; refine (HSC.out _ (b1.trans (HB3.out.mono b1.size))).mono ?_; rintro e w4 ⟨rfl, hb4⟩; have HB4 : Hid (Below w1.heap.size w1 w4) := HB3.out.trans (hb4.mono HB3.out.size); have m0 := (HM1.out.below HB4.out).cell 0; have m1 := (HM1.out.below HB4.out).cell 1; have m2 := (HM1.out.below HB4.out).cell 2; have m3 := (HM1.out.below HB4.out).cell 3; have m4 := (HM1.out.below HB4.out).cell 4; have m5 := (HM1.out.below HB4.out).cell 5; have m6 := (HM1.out.below HB4.out).cell 6; have m7 := (HM1.out.below HB4.out).cell 7; have m8 := (HM1.out.below HB4.out).cell 8; have m9 := (HM1.out.below HB4.out).cell 9; have m10 := (HM1.out.below HB4.out).cell 10; have m11 := (HM1.out.below HB4.out).cell 11; have m12 := (HM1.out.below HB4.out).cell 12; clear hb4))
  have b4 : Below w.heap.size w w4 := b1.trans (HB4.out.mono b1.size)
  clear x0 x1 x2 x3 x4 x5 x6 x7 x8 x9 x10 x11 x12 k0 k1 k2 k3 k4 k5 k6 k7 k8 k9 k10 k11 k12 l0 l1 l2 l3 l4 l5 l6 l7 l8 l9 l10 l11 l12 m0 m1 m2 m3 m4 m5 m6 m7 m8 m9 m10 m11 m12 hmr hmc
  cases S
  · go_wp2
    refine bodyPost_ret (v := .tuple #[.nilIface, .bool false]) (by simp [results, Tryz.results28, go_sem]) rfl ?_
    exact ⟨rfl, b4⟩
  · go_wp2
    refine bodyPost_ret (v := .tuple #[(.iface 111 (.agg #[.int .i64 id])), .bool true]) (by simp [results, Tryz.results28, go_sem]) rfl ?_
    exact ⟨rfl, b4⟩
end Go.Proofs.YtlolnfpfipnfeaaGreat
