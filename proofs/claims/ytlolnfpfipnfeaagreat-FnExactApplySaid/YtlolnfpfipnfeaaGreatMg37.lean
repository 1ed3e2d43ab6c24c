import Derived.Test.YtlolnfpfipnfeaaGreatMg36
import Derived.Deep.RegionWith
import Derived.Deep.DrawnRows
namespace Go.Proofs.YtlolnfpfipnfeaaGreat
open Go.ChangeShapes Go.WideShapes Go.ChangeAt Go.RowKit
attribute [local go_sem ↓] Go.wp_at_zero Go.wp_at_succ

theorem right2 (mid born : Int) (fr : ByteArray) (R : List ByteArray) (bo : ByteArray) (id rc vk vc : Int) (vt : ByteArray) (tr due : Int) : rightR (⟨2, mid, born, fr, R, bo, id, rc, vk, vc, vt, tr, due⟩ : Rec) = (noMsgB mid born fr R.length bo && (idN id && ((decide (tr = 0) && decide (due = 0)) && (decide (0 ≤ rc) && (decide (rc < 20) && (decide (1 ≤ vk) && (decide (vk ≤ 4) && (codeOk vc && decide (vt.size ≤ 512))))))))) := by
  unfold rightR
  dsimp only
  rw [if_neg (by decide), if_pos rfl]; rfl
theorem right3 (mid born : Int) (fr : ByteArray) (R : List ByteArray) (bo : ByteArray) (id rc vk vc : Int) (vt : ByteArray) (tr due : Int) : rightR (⟨3, mid, born, fr, R, bo, id, rc, vk, vc, vt, tr, due⟩ : Rec) = (noMsgB mid born fr R.length bo && (idN id && (noVB vk vc vt && (decide (rc = 0) && (decide (0 ≤ tr) && (decide (tr ≤ 999999) && (decide (0 ≤ due) && decide (due ≤ 20014400)))))))) := by
  unfold rightR
  dsimp only
  rw [if_neg (by decide), if_neg (by decide), if_pos rfl]; rfl
theorem right4 (mid born : Int) (fr : ByteArray) (R : List ByteArray) (bo : ByteArray) (id rc vk vc : Int) (vt : ByteArray) (tr due : Int) : rightR (⟨4, mid, born, fr, R, bo, id, rc, vk, vc, vt, tr, due⟩ : Rec) = (noMsgB mid born fr R.length bo && (idN id && (noVB vk vc vt && ((decide (tr = 0) && decide (due = 0)) && decide (rc = 0))))) := by
  unfold rightR
  dsimp only
  rw [if_neg (by decide), if_neg (by decide), if_neg (by decide), if_pos (by decide)]; rfl
theorem right5 (mid born : Int) (fr : ByteArray) (R : List ByteArray) (bo : ByteArray) (id rc vk vc : Int) (vt : ByteArray) (tr due : Int) : rightR (⟨5, mid, born, fr, R, bo, id, rc, vk, vc, vt, tr, due⟩ : Rec) = (noMsgB mid born fr R.length bo && (idN id && (noVB vk vc vt && ((decide (tr = 0) && decide (due = 0)) && decide (rc = 0))))) := by
  unfold rightR
  dsimp only
  rw [if_neg (by decide), if_neg (by decide), if_neg (by decide), if_pos (by decide)]; rfl
theorem right6 (mid born : Int) (fr : ByteArray) (R : List ByteArray) (bo : ByteArray) (id rc vk vc : Int) (vt : ByteArray) (tr due : Int) : rightR (⟨6, mid, born, fr, R, bo, id, rc, vk, vc, vt, tr, due⟩ : Rec) = (noMsgB mid born fr R.length bo && ((decide (1 ≤ id) && decide (id ≤ 1000000)) && (noVB vk vc vt && ((decide (tr = 0) && decide (due = 0)) && decide (rc = 0))))) := by
  unfold rightR
  dsimp only
  rw [if_neg (by decide), if_neg (by decide), if_neg (by decide), if_neg (by decide), if_pos (by decide)]; rfl
theorem rightO (kind : Int) (mid born : Int) (fr : ByteArray) (R : List ByteArray) (bo : ByteArray) (id rc vk vc : Int) (vt : ByteArray) (tr due : Int) (h : ¬ (1 ≤ kind ∧ kind ≤ 6)) : rightR (⟨kind, mid, born, fr, R, bo, id, rc, vk, vc, vt, tr, due⟩ : Rec) = false := by
  unfold rightR
  dsimp only
  rw [if_neg (by omega), if_neg (by omega), if_neg (by omega), if_neg (by omega), if_neg (by omega), Bool.and_false]

set_option maxHeartbeats 8000000 in
set_option maxRecDepth 100000 in
theorem specPack2 (mid born : Int) (fr : ByteArray) (R : List ByteArray) (bo : ByteArray) (id rc vk vc : Int) (vt : ByteArray) (tr due : Int) (v : Value) (w : World) (h : ArgS w v R) (m4 : vt.size ≤ 1048576) :
    Calls Tryz.prog 19 #[.agg #[.int .i64 2, .int .i64 mid, .int .i64 born, .string fr, v, .string bo, .int .i64 id, .int .i64 rc, .int .i64 vk, .int .i64 vc, .string vt, .int .i64 tr, .int .i64 due]] w fun e w' => (∃ s : ByteArray, e = .returned (.string s) ∧ ((rightR (⟨2, mid, born, fr, R, bo, id, rc, vk, vc, vt, tr, due⟩ : Rec) = false ∧ s = ⟨#[]⟩) ∨ (rightR (⟨2, mid, born, fr, R, bo, id, rc, vk, vc, vt, tr, due⟩ : Rec) = true ∧ 1 ≤ s.size))) ∧ Below w.heap.size w w' := by
  obtain ⟨a3, c3, rfl⟩ := args_formM h
  clear h
  have hV := vd_eql0 vk vc vt
  generalize noVB vk vc vt = nv at hV
  by_cases ct : ¬ tr = 0
  · skip
    have HR0 : Hid (rightR (⟨2, mid, born, fr, R, bo, id, rc, vk, vc, vt, tr, due⟩ : Rec) = (noMsgB mid born fr R.length bo && (idN id && ((decide (tr = 0) && decide (due = 0)) && (decide (0 ≤ rc) && (decide (rc < 20) && (decide (1 ≤ vk) && (decide (vk ≤ 4) && (codeOk vc && decide (vt.size ≤ 512)))))))))) := right2 _ _ _ _ _ _ _ _ _ _ _ _
    go_enter Tryz.func19, Tryz.ntmps19
    go_wp2_with fail
    generalize hW : World.alloc _ _ = W0
    have HM0 : Hid (Blk w.heap.size #[.int .i64 2, .int .i64 mid, .int .i64 born, .string fr, .slice a3 R.length c3, .string bo, .int .i64 id, .int .i64 rc, .int .i64 vk, .int .i64 vc, .string vt, .int .i64 tr, .int .i64 due] W0) := by show Blk _ _ _; rw [← hW]; exact Blk.new w _ _
    have b0 : Below w.heap.size w W0 := by rw [← hW]; exact below1 _ _
    clear hW
    refine (specNoMsg mid born fr bo a3 R.length c3 _).mono ?_
    rintro e w1 ⟨rfl, hb1⟩
    have b1 : Below w.heap.size w w1 := b0.trans (hb1.mono b0.size)
    have HM1 : Hid (Blk w.heap.size #[.int .i64 2, .int .i64 mid, .int .i64 born, .string fr, .slice a3 R.length c3, .string bo, .int .i64 id, .int .i64 rc, .int .i64 vk, .int .i64 vc, .string vt, .int .i64 tr, .int .i64 due] w1) := HM0.out.below hb1
    clear hb1 HM0 b0
    have x0 : w1.cell? ⟨w.heap.size, 0, none⟩ = some (.int .i64 2) := HM1.out.cell 0
    have x6 : w1.cell? ⟨w.heap.size, 6, none⟩ = some (.int .i64 id) := HM1.out.cell 6
    cases hnm : noMsgB mid born fr R.length bo
    · skip
      have HF : Hid (rightR (⟨2, mid, born, fr, R, bo, id, rc, vk, vc, vt, tr, due⟩ : Rec) = false) := by show _ = _; rw [HR0.out, hnm]; rfl
      clear HR0 hnm
      go_wp2
      go_ret
      exact ⟨⟨_, rfl, .inl ⟨HF.out, rfl⟩⟩, b1⟩
    rw [hnm] at HR0
    clear hnm
    go_wp2_with fail
    refine (specId id _).mono ?_
    rintro e w2 ⟨rfl, hw2⟩
    subst hw2
    cases hid : idN id
    · skip
      have HF : Hid (rightR (⟨2, mid, born, fr, R, bo, id, rc, vk, vc, vt, tr, due⟩ : Rec) = false) := by show _ = _; rw [HR0.out, hid]; rfl
      clear HR0 hid
      go_wp2
      go_ret
      exact ⟨⟨_, rfl, .inl ⟨HF.out, rfl⟩⟩, b1⟩
    have HR1 : Hid (rightR (⟨2, mid, born, fr, R, bo, id, rc, vk, vc, vt, tr, due⟩ : Rec) = ((decide (tr = 0) && decide (due = 0)) && (decide (0 ≤ rc) && (decide (rc < 20) && (decide (1 ≤ vk) && (decide (vk ≤ 4) && (codeOk vc && decide (vt.size ≤ 512)))))))) := by show _ = _; rw [HR0.out, hid]; rfl
    clear HR0
    have HF : Hid (rightR (⟨2, mid, born, fr, R, bo, id, rc, vk, vc, vt, tr, due⟩ : Rec) = false) := by show _ = _; rw [HR1.out]; simp [*]
    clear HR1 hid
    have x7 : w2.cell? ⟨w.heap.size, 7, none⟩ = some (.int .i64 rc) := HM1.out.cell 7
    have x8 : w2.cell? ⟨w.heap.size, 8, none⟩ = some (.int .i64 vk) := HM1.out.cell 8
    have x9 : w2.cell? ⟨w.heap.size, 9, none⟩ = some (.int .i64 vc) := HM1.out.cell 9
    have x10 : w2.cell? ⟨w.heap.size, 10, none⟩ = some (.string vt) := HM1.out.cell 10
    have lM2 : w.heap.size < w2.heap.size := HM1.out.lt
    go_wp2
    go_ret
    exact ⟨⟨_, rfl, .inl ⟨HF.out, rfl⟩⟩, (b1.trans ((below1 _ _).mono b1.size))⟩
  replace ct := Decidable.not_not.1 ct
  subst ct
  by_cases cd : ¬ due = 0
  · skip
    have HR0 : Hid (rightR (⟨2, mid, born, fr, R, bo, id, rc, vk, vc, vt, 0, due⟩ : Rec) = (noMsgB mid born fr R.length bo && (idN id && ((decide (0 = 0) && decide (due = 0)) && (decide (0 ≤ rc) && (decide (rc < 20) && (decide (1 ≤ vk) && (decide (vk ≤ 4) && (codeOk vc && decide (vt.size ≤ 512)))))))))) := right2 _ _ _ _ _ _ _ _ _ _ _ _
    go_enter Tryz.func19, Tryz.ntmps19
    go_wp2_with fail
    generalize hW : World.alloc _ _ = W0
    have HM0 : Hid (Blk w.heap.size #[.int .i64 2, .int .i64 mid, .int .i64 born, .string fr, .slice a3 R.length c3, .string bo, .int .i64 id, .int .i64 rc, .int .i64 vk, .int .i64 vc, .string vt, .int .i64 0, .int .i64 due] W0) := by show Blk _ _ _; rw [← hW]; exact Blk.new w _ _
    have b0 : Below w.heap.size w W0 := by rw [← hW]; exact below1 _ _
    clear hW
    refine (specNoMsg mid born fr bo a3 R.length c3 _).mono ?_
    rintro e w1 ⟨rfl, hb1⟩
    have b1 : Below w.heap.size w w1 := b0.trans (hb1.mono b0.size)
    have HM1 : Hid (Blk w.heap.size #[.int .i64 2, .int .i64 mid, .int .i64 born, .string fr, .slice a3 R.length c3, .string bo, .int .i64 id, .int .i64 rc, .int .i64 vk, .int .i64 vc, .string vt, .int .i64 0, .int .i64 due] w1) := HM0.out.below hb1
    clear hb1 HM0 b0
    have x0 : w1.cell? ⟨w.heap.size, 0, none⟩ = some (.int .i64 2) := HM1.out.cell 0
    have x6 : w1.cell? ⟨w.heap.size, 6, none⟩ = some (.int .i64 id) := HM1.out.cell 6
    cases hnm : noMsgB mid born fr R.length bo
    · skip
      have HF : Hid (rightR (⟨2, mid, born, fr, R, bo, id, rc, vk, vc, vt, 0, due⟩ : Rec) = false) := by show _ = _; rw [HR0.out, hnm]; rfl
      clear HR0 hnm
      go_wp2
      go_ret
      exact ⟨⟨_, rfl, .inl ⟨HF.out, rfl⟩⟩, b1⟩
    rw [hnm] at HR0
    clear hnm
    go_wp2_with fail
    refine (specId id _).mono ?_
    rintro e w2 ⟨rfl, hw2⟩
    subst hw2
    cases hid : idN id
    · skip
      have HF : Hid (rightR (⟨2, mid, born, fr, R, bo, id, rc, vk, vc, vt, 0, due⟩ : Rec) = false) := by show _ = _; rw [HR0.out, hid]; rfl
      clear HR0 hid
      go_wp2
      go_ret
      exact ⟨⟨_, rfl, .inl ⟨HF.out, rfl⟩⟩, b1⟩
    have HR1 : Hid (rightR (⟨2, mid, born, fr, R, bo, id, rc, vk, vc, vt, 0, due⟩ : Rec) = ((decide (0 = 0) && decide (due = 0)) && (decide (0 ≤ rc) && (decide (rc < 20) && (decide (1 ≤ vk) && (decide (vk ≤ 4) && (codeOk vc && decide (vt.size ≤ 512)))))))) := by show _ = _; rw [HR0.out, hid]; rfl
    clear HR0
    have HF : Hid (rightR (⟨2, mid, born, fr, R, bo, id, rc, vk, vc, vt, 0, due⟩ : Rec) = false) := by show _ = _; rw [HR1.out]; simp [*]
    clear HR1 hid
    have x7 : w2.cell? ⟨w.heap.size, 7, none⟩ = some (.int .i64 rc) := HM1.out.cell 7
    have x8 : w2.cell? ⟨w.heap.size, 8, none⟩ = some (.int .i64 vk) := HM1.out.cell 8
    have x9 : w2.cell? ⟨w.heap.size, 9, none⟩ = some (.int .i64 vc) := HM1.out.cell 9
    have x10 : w2.cell? ⟨w.heap.size, 10, none⟩ = some (.string vt) := HM1.out.cell 10
    have lM2 : w.heap.size < w2.heap.size := HM1.out.lt
    go_wp2
    go_ret
    exact ⟨⟨_, rfl, .inl ⟨HF.out, rfl⟩⟩, (b1.trans ((below1 _ _).mono b1.size))⟩
  replace cd := Decidable.not_not.1 cd
  subst cd
  have HR0 : Hid (rightR (⟨2, mid, born, fr, R, bo, id, rc, vk, vc, vt, 0, 0⟩ : Rec) = (noMsgB mid born fr R.length bo && (idN id && ((decide (0 = 0) && decide (0 = 0)) && (decide (0 ≤ rc) && (decide (rc < 20) && (decide (1 ≤ vk) && (decide (vk ≤ 4) && (codeOk vc && decide (vt.size ≤ 512)))))))))) := right2 _ _ _ _ _ _ _ _ _ _ _ _
  go_enter Tryz.func19, Tryz.ntmps19
  go_wp2_with fail
  generalize hW : World.alloc _ _ = W0
  have HM0 : Hid (Blk w.heap.size #[.int .i64 2, .int .i64 mid, .int .i64 born, .string fr, .slice a3 R.length c3, .string bo, .int .i64 id, .int .i64 rc, .int .i64 vk, .int .i64 vc, .string vt, .int .i64 0, .int .i64 0] W0) := by show Blk _ _ _; rw [← hW]; exact Blk.new w _ _
  have b0 : Below w.heap.size w W0 := by rw [← hW]; exact below1 _ _
  clear hW
  refine (specNoMsg mid born fr bo a3 R.length c3 _).mono ?_
  rintro e w1 ⟨rfl, hb1⟩
  have b1 : Below w.heap.size w w1 := b0.trans (hb1.mono b0.size)
  have HM1 : Hid (Blk w.heap.size #[.int .i64 2, .int .i64 mid, .int .i64 born, .string fr, .slice a3 R.length c3, .string bo, .int .i64 id, .int .i64 rc, .int .i64 vk, .int .i64 vc, .string vt, .int .i64 0, .int .i64 0] w1) := HM0.out.below hb1
  clear hb1 HM0 b0
  have x0 : w1.cell? ⟨w.heap.size, 0, none⟩ = some (.int .i64 2) := HM1.out.cell 0
  have x6 : w1.cell? ⟨w.heap.size, 6, none⟩ = some (.int .i64 id) := HM1.out.cell 6
  cases hnm : noMsgB mid born fr R.length bo
  · skip
    have HF : Hid (rightR (⟨2, mid, born, fr, R, bo, id, rc, vk, vc, vt, 0, 0⟩ : Rec) = false) := by show _ = _; rw [HR0.out, hnm]; rfl
    clear HR0 hnm
    go_wp2
    go_ret
    exact ⟨⟨_, rfl, .inl ⟨HF.out, rfl⟩⟩, b1⟩
  rw [hnm] at HR0
  clear hnm
  go_wp2_with fail
  refine (specId id _).mono ?_
  rintro e w2 ⟨rfl, hw2⟩
  subst hw2
  cases hid : idN id
  · skip
    have HF : Hid (rightR (⟨2, mid, born, fr, R, bo, id, rc, vk, vc, vt, 0, 0⟩ : Rec) = false) := by show _ = _; rw [HR0.out, hid]; rfl
    clear HR0 hid
    go_wp2
    go_ret
    exact ⟨⟨_, rfl, .inl ⟨HF.out, rfl⟩⟩, b1⟩
  have HR1 : Hid (rightR (⟨2, mid, born, fr, R, bo, id, rc, vk, vc, vt, 0, 0⟩ : Rec) = ((decide (0 = 0) && decide (0 = 0)) && (decide (0 ≤ rc) && (decide (rc < 20) && (decide (1 ≤ vk) && (decide (vk ≤ 4) && (codeOk vc && decide (vt.size ≤ 512)))))))) := by show _ = _; rw [HR0.out, hid]; rfl
  clear HR0
  have HR2 : Hid (rightR (⟨2, mid, born, fr, R, bo, id, rc, vk, vc, vt, 0, 0⟩ : Rec) = (decide (0 ≤ rc) && (decide (rc < 20) && (decide (1 ≤ vk) && (decide (vk ≤ 4) && (codeOk vc && decide (vt.size ≤ 512))))))) := by show _ = _; rw [HR1.out]; rfl
  clear HR1
  have x7 : w2.cell? ⟨w.heap.size, 7, none⟩ = some (.int .i64 rc) := HM1.out.cell 7
  have x8 : w2.cell? ⟨w.heap.size, 8, none⟩ = some (.int .i64 vk) := HM1.out.cell 8
  have x9 : w2.cell? ⟨w.heap.size, 9, none⟩ = some (.int .i64 vc) := HM1.out.cell 9
  have x10 : w2.cell? ⟨w.heap.size, 10, none⟩ = some (.string vt) := HM1.out.cell 10
  have lM2 : w.heap.size < w2.heap.size := HM1.out.lt
  by_cases d1 : ¬ 0 ≤ rc
  · have HF : Hid (rightR (⟨2, mid, born, fr, R, bo, id, rc, vk, vc, vt, 0, 0⟩ : Rec) = false) := by show _ = _; rw [HR2.out]; simp [d1]
    clear HR2 hid
    go_wp2
    go_ret
    exact ⟨⟨_, rfl, .inl ⟨HF.out, rfl⟩⟩, (b1.trans ((below1 _ _).mono b1.size))⟩
  replace d1 := Decidable.not_not.1 d1
  by_cases d2 : ¬ rc < 20
  · have HF : Hid (rightR (⟨2, mid, born, fr, R, bo, id, rc, vk, vc, vt, 0, 0⟩ : Rec) = false) := by show _ = _; rw [HR2.out]; simp [d2]
    clear HR2 hid
    go_wp2
    go_ret
    exact ⟨⟨_, rfl, .inl ⟨HF.out, rfl⟩⟩, (b1.trans ((below1 _ _).mono b1.size))⟩
  replace d2 := Decidable.not_not.1 d2
  by_cases d3 : ¬ 1 ≤ vk
  · have HF : Hid (rightR (⟨2, mid, born, fr, R, bo, id, rc, vk, vc, vt, 0, 0⟩ : Rec) = false) := by show _ = _; rw [HR2.out]; simp [d3]
    clear HR2 hid
    go_wp2
    go_ret
    exact ⟨⟨_, rfl, .inl ⟨HF.out, rfl⟩⟩, (b1.trans ((below1 _ _).mono b1.size))⟩
  replace d3 := Decidable.not_not.1 d3
  by_cases d4 : ¬ vk ≤ 4
  · have HF : Hid (rightR (⟨2, mid, born, fr, R, bo, id, rc, vk, vc, vt, 0, 0⟩ : Rec) = false) := by show _ = _; rw [HR2.out]; simp [d4]
    clear HR2 hid
    go_wp2
    go_ret
    exact ⟨⟨_, rfl, .inl ⟨HF.out, rfl⟩⟩, (b1.trans ((below1 _ _).mono b1.size))⟩
  replace d4 := Decidable.not_not.1 d4
  have HR3 : Hid (rightR (⟨2, mid, born, fr, R, bo, id, rc, vk, vc, vt, 0, 0⟩ : Rec) = (codeOk vc && decide (vt.size ≤ 512))) := by show _ = _; rw [HR2.out, decide_eq_true d1, decide_eq_true d2, decide_eq_true d3, decide_eq_true d4]; rfl
  clear HR2
  go_wp2_with fail
  generalize hW : World.alloc _ _ = W2
  have HV2 : Hid (Blk w2.heap.size #[.int .i64 vk, .int .i64 vc, .string vt] W2) := by show Blk _ _ _; rw [← hW]; exact Blk.new w2 _ _
  have hbW : Below w2.heap.size w2 W2 := by rw [← hW]; exact below1 _ _
  clear hW x0 x6 x7 x8 x9 x10
  refine (specCode vc _).mono ?_
  rintro e w3 ⟨rfl, hb3⟩
  have HV3 : Hid (Blk w2.heap.size #[.int .i64 vk, .int .i64 vc, .string vt] w3) := HV2.out.below hb3
  have HM3 : Hid (Blk w.heap.size #[.int .i64 2, .int .i64 mid, .int .i64 born, .string fr, .slice a3 R.length c3, .string bo, .int .i64 id, .int .i64 rc, .int .i64 vk, .int .i64 vc, .string vt, .int .i64 0, .int .i64 0] w3) := (HM1.out.below hbW).below hb3
  have b3 : Below w.heap.size w w3 := (b1.trans (hbW.mono b1.size)).trans (hb3.mono (by have := hbW.size; have := b1.size; omega))
  clear hb3 hbW HV2 HM1 b1
  have y2 : w3.cell? ⟨w2.heap.size, 2, none⟩ = some (.string vt) := HV3.out.cell 2
  cases hco : codeOk vc
  · skip
    have HF : Hid (rightR (⟨2, mid, born, fr, R, bo, id, rc, vk, vc, vt, 0, 0⟩ : Rec) = false) := by show _ = _; rw [HR3.out, hco]; rfl
    clear HR3 hco hid
    go_wp2
    go_ret
    exact ⟨⟨_, rfl, .inl ⟨HF.out, rfl⟩⟩, b3⟩
  by_cases c5 : ¬ vt.size ≤ 512
  · have c5i : ¬ (vt.size : Int) ≤ 512 := by omega
    have HF : Hid (rightR (⟨2, mid, born, fr, R, bo, id, rc, vk, vc, vt, 0, 0⟩ : Rec) = false) := by show _ = _; rw [HR3.out, hco, decide_eq_false c5]; rfl
    clear HR3 hco hid c5
    go_wp2
    go_ret
    exact ⟨⟨_, rfl, .inl ⟨HF.out, rfl⟩⟩, b3⟩
  replace c5 := Decidable.not_not.1 c5
  have c5i : (vt.size : Int) ≤ 512 := by omega
  have HF : Hid (rightR (⟨2, mid, born, fr, R, bo, id, rc, vk, vc, vt, 0, 0⟩ : Rec) = true) := by show _ = _; rw [HR3.out, hco, decide_eq_true c5]; rfl
  have hvc : 0 ≤ vc ∧ vc ≤ 599 := by unfold codeOk at hco; simp at hco; omega
  have hidr : 1 ≤ id ∧ id ≤ 999999 := by unfold idN at hid; simp at hid; omega
  clear HR3 hco hid
  obtain ⟨kid, rfl⟩ : ∃ k : Nat, id = (k : Int) := ⟨id.toNat, by omega⟩
  obtain ⟨krc, rfl⟩ : ∃ k : Nat, rc = (k : Int) := ⟨rc.toNat, by omega⟩
  obtain ⟨kvk, rfl⟩ : ∃ k : Nat, vk = (k : Int) := ⟨vk.toNat, by omega⟩
  obtain ⟨kvc, rfl⟩ : ∃ k : Nat, vc = (k : Int) := ⟨vc.toNat, by omega⟩
  obtain ⟨A1, HA1⟩ : ∃ A, Hid (numB kid = A) := ⟨_, rfl⟩
  have sA1 := numB_size (n := kid) (by omega)
  rw [HA1.out] at sA1
  obtain ⟨A2, HA2⟩ : ∃ A, Hid (numB krc = A) := ⟨_, rfl⟩
  have sA2 := numB_size (n := krc) (by omega)
  rw [HA2.out] at sA2
  obtain ⟨A3, HA3⟩ : ∃ A, Hid (numB kvk = A) := ⟨_, rfl⟩
  have sA3 := numB_size (n := kvk) (by omega)
  rw [HA3.out] at sA3
  obtain ⟨A4, HA4⟩ : ∃ A, Hid (numB kvc = A) := ⟨_, rfl⟩
  have sA4 := numB_size (n := kvc) (by omega)
  rw [HA4.out] at sA4
  obtain ⟨A5, HA5⟩ : ∃ A, Hid (strB vt = A) := ⟨_, rfl⟩
  have sA5 := strB_size m4
  rw [HA5.out] at sA5
  obtain ⟨B1, HB1⟩ : ∃ B, Hid ((⟨#[86]⟩ : ByteArray) ++ A1 = B) := ⟨_, rfl⟩
  have tB1 : B1.size = 1 + A1.size := by rw [← HB1.out, ByteArray.size_append, sz1]
  have gB1 : ∀ wx : World, (Op.stringOp .add (⟨#[86]⟩ : ByteArray) A1).run Tryz.prog wx = .ok (.string B1) wx := fun wx => by rw [← HB1.out]; exact run_string_add_sum wx _ _ (by rw [sz1]; omega)
  obtain ⟨B2, HB2⟩ : ∃ B, Hid (B1 ++ A2 = B) := ⟨_, rfl⟩
  have tB2 : B2.size = B1.size + A2.size := by rw [← HB2.out, ByteArray.size_append]
  have gB2 : ∀ wx : World, (Op.stringOp .add B1 A2).run Tryz.prog wx = .ok (.string B2) wx := fun wx => by rw [← HB2.out]; exact run_string_add_sum wx _ _ (by omega)
  obtain ⟨B3, HB3⟩ : ∃ B, Hid (B2 ++ A3 = B) := ⟨_, rfl⟩
  have tB3 : B3.size = B2.size + A3.size := by rw [← HB3.out, ByteArray.size_append]
  have gB3 : ∀ wx : World, (Op.stringOp .add B2 A3).run Tryz.prog wx = .ok (.string B3) wx := fun wx => by rw [← HB3.out]; exact run_string_add_sum wx _ _ (by omega)
  obtain ⟨B4, HB4⟩ : ∃ B, Hid (B3 ++ A4 = B) := ⟨_, rfl⟩
  have tB4 : B4.size = B3.size + A4.size := by rw [← HB4.out, ByteArray.size_append]
  have gB4 : ∀ wx : World, (Op.stringOp .add B3 A4).run Tryz.prog wx = .ok (.string B4) wx := fun wx => by rw [← HB4.out]; exact run_string_add_sum wx _ _ (by omega)
  obtain ⟨B5, HB5⟩ : ∃ B, Hid (B4 ++ A5 = B) := ⟨_, rfl⟩
  have tB5 : B5.size = B4.size + A5.size := by rw [← HB5.out, ByteArray.size_append]
  have gB5 : ∀ wx : World, (Op.stringOp .add B4 A5).run Tryz.prog wx = .ok (.string B5) wx := fun wx => by rw [← HB5.out]; exact run_string_add_sum wx _ _ (by omega)
  have TB : Hid (1 ≤ B5.size) := by show 1 ≤ _; omega
  have N1 : Hid (∀ wx, Calls Tryz.prog 40 #[.int .i64 (kid : Int)] wx fun e w' => e = .returned (.string A1) ∧ Below wx.heap.size wx w') := fun wx => by rw [← HA1.out]; exact specNum kid (by omega) wx
  have N2 : Hid (∀ wx, Calls Tryz.prog 40 #[.int .i64 (krc : Int)] wx fun e w' => e = .returned (.string A2) ∧ Below wx.heap.size wx w') := fun wx => by rw [← HA2.out]; exact specNum krc (by omega) wx
  have N3 : Hid (∀ wx, Calls Tryz.prog 40 #[.int .i64 (kvk : Int)] wx fun e w' => e = .returned (.string A3) ∧ Below wx.heap.size wx w') := fun wx => by rw [← HA3.out]; exact specNum kvk (by omega) wx
  have N4 : Hid (∀ wx, Calls Tryz.prog 40 #[.int .i64 (kvc : Int)] wx fun e w' => e = .returned (.string A4) ∧ Below wx.heap.size wx w') := fun wx => by rw [← HA4.out]; exact specNum kvc (by omega) wx
  have N5 : Hid (∀ wx, Calls Tryz.prog 42 #[.string vt] wx fun e w' => e = .returned (.string A5) ∧ Below wx.heap.size wx w') := fun wx => by rw [← HA5.out]; exact specStr vt m4 wx
  clear sA1 sA2 sA3 sA4 sA5 tB1 tB2 tB3 tB4 tB5 HA1 HA2 HA3 HA4 HA5 HB1 HB2 HB3 HB4 HB5
  have lM : w.heap.size < w3.heap.size := HM3.out.lt
  have lV : w2.heap.size < w3.heap.size := HV3.out.lt
  have x6 : w3.cell? ⟨w.heap.size, 6, none⟩ = some (.int .i64 (kid : Int)) := HM3.out.cell 6
  have x7 : w3.cell? ⟨w.heap.size, 7, none⟩ = some (.int .i64 (krc : Int)) := HM3.out.cell 7
  have y0 : w3.cell? ⟨w2.heap.size, 0, none⟩ = some (.int .i64 (kvk : Int)) := HV3.out.cell 0
  have y1 : w3.cell? ⟨w2.heap.size, 1, none⟩ = some (.int .i64 (kvc : Int)) := HV3.out.cell 1
  clear hvc hidr d1 d2 d3 d4 c5
  go_upto_region 20 with fail
  go_region_held3 (fun w' => w'.cell? ⟨w.heap.size, 6, none⟩ = some (.int .i64 (kid : Int)) ∧ w'.cell? ⟨w.heap.size, 7, none⟩ = some (.int .i64 (krc : Int)) ∧ w'.cell? ⟨w2.heap.size, 0, none⟩ = some (.int .i64 (kvk : Int)) ∧ w'.cell? ⟨w2.heap.size, 1, none⟩ = some (.int .i64 (kvc : Int)) ∧ w'.cell? ⟨w2.heap.size, 2, none⟩ = some (.string vt)) (first | (exact ⟨ke0, ke1, ke2, ke3, ke4⟩) | (exact ⟨kd0, kd1, kd2, kd3, kd4⟩) | (exact ⟨kc0, kc1, kc2, kc3, kc4⟩) | (exact ⟨kb0, kb1, kb2, kb3, kb4⟩) | (exact ⟨ka0, ka1, ka2, ka3, ka4⟩) | go_keep) (first | (go_at_call 40; refine (N1.out _).mono ?_; rintro e v1 ⟨rfl, hbx⟩; have Hv1 : Hid (Below w3.heap.size w3 v1) := (Below.refl w3.heap.size w3).drew.trans hbx; have ka0 := (Hv1.out.cell (p := ⟨w.heap.size, 6, none⟩) lM).trans x6; have ka1 := (Hv1.out.cell (p := ⟨w.heap.size, 7, none⟩) lM).trans x7; have ka2 := (Hv1.out.cell (p := ⟨w2.heap.size, 0, none⟩) lV).trans y0; have ka3 := (Hv1.out.cell (p := ⟨w2.heap.size, 1, none⟩) lV).trans y1; have ka4 := (Hv1.out.cell (p := ⟨w2.heap.size, 2, none⟩) lV).trans y2; clear hbx) | (go_at_call 40; refine (N2.out _).mono ?_; rintro e v2 ⟨rfl, hbx⟩; have Hv2 : Hid (Below w3.heap.size w3 v2) := Hv1.out.trans (hbx.mono Hv1.out.size); have kb0 := (Hv2.out.cell (p := ⟨w.heap.size, 6, none⟩) lM).trans x6; have kb1 := (Hv2.out.cell (p := ⟨w.heap.size, 7, none⟩) lM).trans x7; have kb2 := (Hv2.out.cell (p := ⟨w2.heap.size, 0, none⟩) lV).trans y0; have kb3 := (Hv2.out.cell (p := ⟨w2.heap.size, 1, none⟩) lV).trans y1; have kb4 := (Hv2.out.cell (p := ⟨w2.heap.size, 2, none⟩) lV).trans y2; clear hbx) | (go_at_call 40; refine (N3.out _).mono ?_; rintro e v3 ⟨rfl, hbx⟩; have Hv3 : Hid (Below w3.heap.size w3 v3) := Hv2.out.trans (hbx.mono Hv2.out.size); have kc0 := (Hv3.out.cell (p := ⟨w.heap.size, 6, none⟩) lM).trans x6; have kc1 := (Hv3.out.cell (p := ⟨w.heap.size, 7, none⟩) lM).trans x7; have kc2 := (Hv3.out.cell (p := ⟨w2.heap.size, 0, none⟩) lV).trans y0; have kc3 := (Hv3.out.cell (p := ⟨w2.heap.size, 1, none⟩) lV).trans y1; have kc4 := (Hv3.out.cell (p := ⟨w2.heap.size, 2, none⟩) lV).trans y2; clear hbx) | (go_at_call 40; refine (N4.out _).mono ?_; rintro e v4 ⟨rfl, hbx⟩; have Hv4 : Hid (Below w3.heap.size w3 v4) := Hv3.out.trans (hbx.mono Hv3.out.size); have kd0 := (Hv4.out.cell (p := ⟨w.heap.size, 6, none⟩) lM).trans x6; have kd1 := (Hv4.out.cell (p := ⟨w.heap.size, 7, none⟩) lM).trans x7; have kd2 := (Hv4.out.cell (p := ⟨w2.heap.size, 0, none⟩) lV).trans y0; have kd3 := (Hv4.out.cell (p := ⟨w2.heap.size, 1, none⟩) lV).trans y1; have kd4 := (Hv4.out.cell (p := ⟨w2.heap.size, 2, none⟩) lV).trans y2; clear hbx) | (go_at_call 42; refine (N5.out _).mono ?_; rintro e v5 ⟨rfl, hbx⟩; have Hv5 : Hid (Below w3.heap.size w3 v5) := Hv4.out.trans (hbx.mono Hv4.out.size); have ke0 := (Hv5.out.cell (p := ⟨w.heap.size, 6, none⟩) lM).trans x6; have ke1 := (Hv5.out.cell (p := ⟨w.heap.size, 7, none⟩) lM).trans x7; have ke2 := (Hv5.out.cell (p := ⟨w2.heap.size, 0, none⟩) lV).trans y0; have ke3 := (Hv5.out.cell (p := ⟨w2.heap.size, 1, none⟩) lV).trans y1; have ke4 := (Hv5.out.cell (p := ⟨w2.heap.size, 2, none⟩) lV).trans y2; clear hbx))
  go_wp2
  go_ret
  exact ⟨⟨_, rfl, .inr ⟨HF.out, TB.out⟩⟩, b3.trans (Hv5.out.mono b3.size)⟩
end Go.Proofs.YtlolnfpfipnfeaaGreat
namespace Go.Proofs.YtlolnfpfipnfeaaGreat
open Go.ChangeShapes Go.WideShapes Go.ChangeAt Go.RowKit
attribute [local go_sem ↓] Go.wp_at_zero Go.wp_at_succ

set_option maxHeartbeats 8000000 in
set_option maxRecDepth 100000 in
theorem specPack3 (mid born : Int) (fr : ByteArray) (R : List ByteArray) (bo : ByteArray) (id rc vk vc : Int) (vt : ByteArray) (tr due : Int) (v : Value) (w : World) (h : ArgS w v R) :
    Calls Tryz.prog 19 #[.agg #[.int .i64 3, .int .i64 mid, .int .i64 born, .string fr, v, .string bo, .int .i64 id, .int .i64 rc, .int .i64 vk, .int .i64 vc, .string vt, .int .i64 tr, .int .i64 due]] w fun e w' => (∃ s : ByteArray, e = .returned (.string s) ∧ ((rightR (⟨3, mid, born, fr, R, bo, id, rc, vk, vc, vt, tr, due⟩ : Rec) = false ∧ s = ⟨#[]⟩) ∨ (rightR (⟨3, mid, born, fr, R, bo, id, rc, vk, vc, vt, tr, due⟩ : Rec) = true ∧ 1 ≤ s.size))) ∧ Below w.heap.size w w' := by
  obtain ⟨a3, c3, rfl⟩ := args_formM h
  clear h
  have hV := vd_eql0 vk vc vt
  obtain ⟨nv, HNV⟩ : ∃ nv, Hid (noVB vk vc vt = nv) := ⟨_, rfl⟩
  rw [HNV.out] at hV
  by_cases ct : ¬ tr = 0
  · skip
    have HR0 : Hid (rightR (⟨3, mid, born, fr, R, bo, id, rc, vk, vc, vt, tr, due⟩ : Rec) = (noMsgB mid born fr R.length bo && (idN id && (noVB vk vc vt && (decide (rc = 0) && (decide (0 ≤ tr) && (decide (tr ≤ 999999) && (decide (0 ≤ due) && decide (due ≤ 20014400))))))))) := right3 _ _ _ _ _ _ _ _ _ _ _ _
    go_enter Tryz.func19, Tryz.ntmps19
    go_wp2_with fail
    generalize hW : World.alloc _ _ = W0
    have HM0 : Hid (Blk w.heap.size #[.int .i64 3, .int .i64 mid, .int .i64 born, .string fr, .slice a3 R.length c3, .string bo, .int .i64 id, .int .i64 rc, .int .i64 vk, .int .i64 vc, .string vt, .int .i64 tr, .int .i64 due] W0) := by show Blk _ _ _; rw [← hW]; exact Blk.new w _ _
    have b0 : Below w.heap.size w W0 := by rw [← hW]; exact below1 _ _
    clear hW
    refine (specNoMsg mid born fr bo a3 R.length c3 _).mono ?_
    rintro e w1 ⟨rfl, hb1⟩
    have b1 : Below w.heap.size w w1 := b0.trans (hb1.mono b0.size)
    have HM1 : Hid (Blk w.heap.size #[.int .i64 3, .int .i64 mid, .int .i64 born, .string fr, .slice a3 R.length c3, .string bo, .int .i64 id, .int .i64 rc, .int .i64 vk, .int .i64 vc, .string vt, .int .i64 tr, .int .i64 due] w1) := HM0.out.below hb1
    clear hb1 HM0 b0
    have x0 : w1.cell? ⟨w.heap.size, 0, none⟩ = some (.int .i64 3) := HM1.out.cell 0
    have x6 : w1.cell? ⟨w.heap.size, 6, none⟩ = some (.int .i64 id) := HM1.out.cell 6
    cases hnm : noMsgB mid born fr R.length bo
    · skip
      have HF : Hid (rightR (⟨3, mid, born, fr, R, bo, id, rc, vk, vc, vt, tr, due⟩ : Rec) = false) := by show _ = _; rw [HR0.out, hnm]; rfl
      clear HR0 hnm
      go_wp2
      go_ret
      exact ⟨⟨_, rfl, .inl ⟨HF.out, rfl⟩⟩, b1⟩
    rw [hnm] at HR0
    clear hnm
    go_wp2_with fail
    refine (specId id _).mono ?_
    rintro e w2 ⟨rfl, hw2⟩
    subst hw2
    cases hid : idN id
    · skip
      have HF : Hid (rightR (⟨3, mid, born, fr, R, bo, id, rc, vk, vc, vt, tr, due⟩ : Rec) = false) := by show _ = _; rw [HR0.out, hid]; rfl
      clear HR0 hid
      go_wp2
      go_ret
      exact ⟨⟨_, rfl, .inl ⟨HF.out, rfl⟩⟩, b1⟩
    have HR1 : Hid (rightR (⟨3, mid, born, fr, R, bo, id, rc, vk, vc, vt, tr, due⟩ : Rec) = (noVB vk vc vt && (decide (rc = 0) && (decide (0 ≤ tr) && (decide (tr ≤ 999999) && (decide (0 ≤ due) && decide (due ≤ 20014400))))))) := by show _ = _; rw [HR0.out, hid]; rfl
    clear HR0
    have x7 : w2.cell? ⟨w.heap.size, 7, none⟩ = some (.int .i64 rc) := HM1.out.cell 7
    have x11 : w2.cell? ⟨w.heap.size, 11, none⟩ = some (.int .i64 tr) := HM1.out.cell 11
    have x12 : w2.cell? ⟨w.heap.size, 12, none⟩ = some (.int .i64 due) := HM1.out.cell 12
    cases nv
    · skip
      have HF : Hid (rightR (⟨3, mid, born, fr, R, bo, id, rc, vk, vc, vt, tr, due⟩ : Rec) = false) := by show _ = _; rw [HR1.out, HNV.out]; rfl
      clear HR1 hid
      go_wp2
      go_ret
      exact ⟨⟨_, rfl, .inl ⟨HF.out, rfl⟩⟩, b1⟩
    by_cases d1 : ¬ rc = 0
    · skip
      have HF : Hid (rightR (⟨3, mid, born, fr, R, bo, id, rc, vk, vc, vt, tr, due⟩ : Rec) = false) := by show _ = _; rw [HR1.out]; simp [d1]
      clear HR1 hid
      go_wp2
      go_ret
      exact ⟨⟨_, rfl, .inl ⟨HF.out, rfl⟩⟩, b1⟩
    replace d1 := Decidable.not_not.1 d1
    subst d1
    by_cases d2 : ¬ 0 ≤ tr
    · skip
      have HF : Hid (rightR (⟨3, mid, born, fr, R, bo, id, 0, vk, vc, vt, tr, due⟩ : Rec) = false) := by show _ = _; rw [HR1.out]; simp [d2]
      clear HR1 hid
      go_wp2
      go_ret
      exact ⟨⟨_, rfl, .inl ⟨HF.out, rfl⟩⟩, b1⟩
    replace d2 := Decidable.not_not.1 d2
    by_cases d3 : ¬ tr ≤ 999999
    · skip
      have HF : Hid (rightR (⟨3, mid, born, fr, R, bo, id, 0, vk, vc, vt, tr, due⟩ : Rec) = false) := by show _ = _; rw [HR1.out]; simp [d3]
      clear HR1 hid
      go_wp2
      go_ret
      exact ⟨⟨_, rfl, .inl ⟨HF.out, rfl⟩⟩, b1⟩
    replace d3 := Decidable.not_not.1 d3
    by_cases d4 : ¬ 0 ≤ due
    · skip
      have HF : Hid (rightR (⟨3, mid, born, fr, R, bo, id, 0, vk, vc, vt, tr, due⟩ : Rec) = false) := by show _ = _; rw [HR1.out]; simp [d4]
      clear HR1 hid
      go_wp2
      go_ret
      exact ⟨⟨_, rfl, .inl ⟨HF.out, rfl⟩⟩, b1⟩
    replace d4 := Decidable.not_not.1 d4
    by_cases d5 : ¬ due ≤ 20014400
    · skip
      have HF : Hid (rightR (⟨3, mid, born, fr, R, bo, id, 0, vk, vc, vt, tr, due⟩ : Rec) = false) := by show _ = _; rw [HR1.out]; simp [d5]
      clear HR1 hid
      go_wp2
      go_ret
      exact ⟨⟨_, rfl, .inl ⟨HF.out, rfl⟩⟩, b1⟩
    replace d5 := Decidable.not_not.1 d5
    have HF : Hid (rightR (⟨3, mid, born, fr, R, bo, id, 0, vk, vc, vt, tr, due⟩ : Rec) = true) := by show _ = _; rw [HR1.out, HNV.out]; simp [d2, d3, d4, d5]
    have hidr : 1 ≤ id ∧ id ≤ 999999 := by unfold idN at hid; simp at hid; omega
    clear HR1 hid
    obtain ⟨kid, rfl⟩ : ∃ k : Nat, id = (k : Int) := ⟨id.toNat, by omega⟩
    obtain ⟨kdue, rfl⟩ : ∃ k : Nat, due = (k : Int) := ⟨due.toNat, by omega⟩
    obtain ⟨ktr, rfl⟩ : ∃ k : Nat, tr = (k : Int) := ⟨tr.toNat, by omega⟩
    obtain ⟨A1, HA1⟩ : ∃ A, Hid (numB kid = A) := ⟨_, rfl⟩
    have sA1 := numB_size (n := kid) (by omega)
    rw [HA1.out] at sA1
    obtain ⟨A2, HA2⟩ : ∃ A, Hid (numB ktr = A) := ⟨_, rfl⟩
    have sA2 := numB_size (n := ktr) (by omega)
    rw [HA2.out] at sA2
    obtain ⟨A3, HA3⟩ : ∃ A, Hid (decB kdue = A) := ⟨_, rfl⟩
    have sA3 := decB_size (n := kdue) (by omega)
    rw [HA3.out] at sA3
    obtain ⟨B1, HB1⟩ : ∃ B, Hid ((⟨#[84]⟩ : ByteArray) ++ A1 = B) := ⟨_, rfl⟩
    have tB1 : B1.size = 1 + A1.size := by rw [← HB1.out, ByteArray.size_append, sz1]
    have gB1 : ∀ wx : World, (Op.stringOp .add (⟨#[84]⟩ : ByteArray) A1).run Tryz.prog wx = .ok (.string B1) wx := fun wx => by rw [← HB1.out]; exact run_string_add_sum wx _ _ (by rw [sz1]; omega)
    obtain ⟨B2, HB2⟩ : ∃ B, Hid (B1 ++ A2 = B) := ⟨_, rfl⟩
    have tB2 : B2.size = B1.size + A2.size := by rw [← HB2.out, ByteArray.size_append]
    have gB2 : ∀ wx : World, (Op.stringOp .add B1 A2).run Tryz.prog wx = .ok (.string B2) wx := fun wx => by rw [← HB2.out]; exact run_string_add_sum wx _ _ (by omega)
    obtain ⟨B3, HB3⟩ : ∃ B, Hid (B2 ++ (⟨#[32]⟩ : ByteArray) = B) := ⟨_, rfl⟩
    have tB3 : B3.size = B2.size + 1 := by rw [← HB3.out, ByteArray.size_append, sz1]
    have gB3 : ∀ wx : World, (Op.stringOp .add B2 (⟨#[32]⟩ : ByteArray)).run Tryz.prog wx = .ok (.string B3) wx := fun wx => by rw [← HB3.out]; exact run_string_add_sum wx _ _ (by rw [sz1]; omega)
    obtain ⟨B4, HB4⟩ : ∃ B, Hid (B3 ++ A3 = B) := ⟨_, rfl⟩
    have tB4 : B4.size = B3.size + A3.size := by rw [← HB4.out, ByteArray.size_append]
    have gB4 : ∀ wx : World, (Op.stringOp .add B3 A3).run Tryz.prog wx = .ok (.string B4) wx := fun wx => by rw [← HB4.out]; exact run_string_add_sum wx _ _ (by omega)
    have TB : Hid (1 ≤ B4.size) := by show 1 ≤ _; omega
    have N1 : Hid (∀ wx, Calls Tryz.prog 40 #[.int .i64 (kid : Int)] wx fun e w' => e = .returned (.string A1) ∧ Below wx.heap.size wx w') := fun wx => by rw [← HA1.out]; exact specNum kid (by omega) wx
    have N2 : Hid (∀ wx, Calls Tryz.prog 40 #[.int .i64 (ktr : Int)] wx fun e w' => e = .returned (.string A2) ∧ Below wx.heap.size wx w') := fun wx => by rw [← HA2.out]; exact specNum ktr (by omega) wx
    have N3 : Hid (∀ wx, Calls Tryz.prog 41 #[.int .i64 (kdue : Int)] wx fun e w' => e = .returned (.string A3) ∧ Below wx.heap.size wx w') := fun wx => by rw [← HA3.out]; exact specDec kdue kdue (Nat.le_refl _) (by omega) wx
    clear sA1 sA2 sA3 tB1 tB2 tB3 tB4 HA1 HA2 HA3 HB1 HB2 HB3 HB4
    have lM : w.heap.size < w2.heap.size := HM1.out.lt
    go_upto_region 23 with fail
    clear hidr d2 d3 d4 d5 x0 x7
    go_region_held3 (fun w' => w'.cell? ⟨w.heap.size, 6, none⟩ = some (.int .i64 (kid : Int)) ∧ w'.cell? ⟨w.heap.size, 11, none⟩ = some (.int .i64 (ktr : Int)) ∧ w'.cell? ⟨w.heap.size, 12, none⟩ = some (.int .i64 (kdue : Int))) (first | (exact ⟨kc0, kc1, kc2⟩) | (exact ⟨kb0, kb1, kb2⟩) | (exact ⟨ka0, ka1, ka2⟩) | go_keep) (first | (go_at_call 40; refine (N1.out _).mono ?_; rintro e v1 ⟨rfl, hbx⟩; have Hv1 : Hid (Below w2.heap.size w2 v1) := (Below.refl w2.heap.size w2).drew.trans hbx; have ka0 := (Hv1.out.cell (p := ⟨w.heap.size, 6, none⟩) lM).trans x6; have ka1 := (Hv1.out.cell (p := ⟨w.heap.size, 11, none⟩) lM).trans x11; have ka2 := (Hv1.out.cell (p := ⟨w.heap.size, 12, none⟩) lM).trans x12; clear hbx) | (go_at_call 40; refine (N2.out _).mono ?_; rintro e v2 ⟨rfl, hbx⟩; have Hv2 : Hid (Below w2.heap.size w2 v2) := Hv1.out.trans (hbx.mono Hv1.out.size); have kb0 := (Hv2.out.cell (p := ⟨w.heap.size, 6, none⟩) lM).trans x6; have kb1 := (Hv2.out.cell (p := ⟨w.heap.size, 11, none⟩) lM).trans x11; have kb2 := (Hv2.out.cell (p := ⟨w.heap.size, 12, none⟩) lM).trans x12; clear hbx) | (go_at_call 41; refine (N3.out _).mono ?_; rintro e v3 ⟨rfl, hbx⟩; have Hv3 : Hid (Below w2.heap.size w2 v3) := Hv2.out.trans (hbx.mono Hv2.out.size); have kc0 := (Hv3.out.cell (p := ⟨w.heap.size, 6, none⟩) lM).trans x6; have kc1 := (Hv3.out.cell (p := ⟨w.heap.size, 11, none⟩) lM).trans x11; have kc2 := (Hv3.out.cell (p := ⟨w.heap.size, 12, none⟩) lM).trans x12; clear hbx))
    go_wp2
    go_ret
    exact ⟨⟨_, rfl, .inr ⟨HF.out, TB.out⟩⟩, b1.trans (Hv3.out.mono b1.size)⟩
  replace ct := Decidable.not_not.1 ct
  subst ct
  have HR0 : Hid (rightR (⟨3, mid, born, fr, R, bo, id, rc, vk, vc, vt, 0, due⟩ : Rec) = (noMsgB mid born fr R.length bo && (idN id && (noVB vk vc vt && (decide (rc = 0) && (decide (0 ≤ 0) && (decide (0 ≤ 999999) && (decide (0 ≤ due) && decide (due ≤ 20014400))))))))) := right3 _ _ _ _ _ _ _ _ _ _ _ _
  go_enter Tryz.func19, Tryz.ntmps19
  go_wp2_with fail
  generalize hW : World.alloc _ _ = W0
  have HM0 : Hid (Blk w.heap.size #[.int .i64 3, .int .i64 mid, .int .i64 born, .string fr, .slice a3 R.length c3, .string bo, .int .i64 id, .int .i64 rc, .int .i64 vk, .int .i64 vc, .string vt, .int .i64 0, .int .i64 due] W0) := by show Blk _ _ _; rw [← hW]; exact Blk.new w _ _
  have b0 : Below w.heap.size w W0 := by rw [← hW]; exact below1 _ _
  clear hW
  refine (specNoMsg mid born fr bo a3 R.length c3 _).mono ?_
  rintro e w1 ⟨rfl, hb1⟩
  have b1 : Below w.heap.size w w1 := b0.trans (hb1.mono b0.size)
  have HM1 : Hid (Blk w.heap.size #[.int .i64 3, .int .i64 mid, .int .i64 born, .string fr, .slice a3 R.length c3, .string bo, .int .i64 id, .int .i64 rc, .int .i64 vk, .int .i64 vc, .string vt, .int .i64 0, .int .i64 due] w1) := HM0.out.below hb1
  clear hb1 HM0 b0
  have x0 : w1.cell? ⟨w.heap.size, 0, none⟩ = some (.int .i64 3) := HM1.out.cell 0
  have x6 : w1.cell? ⟨w.heap.size, 6, none⟩ = some (.int .i64 id) := HM1.out.cell 6
  cases hnm : noMsgB mid born fr R.length bo
  · skip
    have HF : Hid (rightR (⟨3, mid, born, fr, R, bo, id, rc, vk, vc, vt, 0, due⟩ : Rec) = false) := by show _ = _; rw [HR0.out, hnm]; rfl
    clear HR0 hnm
    go_wp2
    go_ret
    exact ⟨⟨_, rfl, .inl ⟨HF.out, rfl⟩⟩, b1⟩
  rw [hnm] at HR0
  clear hnm
  go_wp2_with fail
  refine (specId id _).mono ?_
  rintro e w2 ⟨rfl, hw2⟩
  subst hw2
  cases hid : idN id
  · skip
    have HF : Hid (rightR (⟨3, mid, born, fr, R, bo, id, rc, vk, vc, vt, 0, due⟩ : Rec) = false) := by show _ = _; rw [HR0.out, hid]; rfl
    clear HR0 hid
    go_wp2
    go_ret
    exact ⟨⟨_, rfl, .inl ⟨HF.out, rfl⟩⟩, b1⟩
  have HR1 : Hid (rightR (⟨3, mid, born, fr, R, bo, id, rc, vk, vc, vt, 0, due⟩ : Rec) = (noVB vk vc vt && (decide (rc = 0) && (decide (0 ≤ 0) && (decide (0 ≤ 999999) && (decide (0 ≤ due) && decide (due ≤ 20014400))))))) := by show _ = _; rw [HR0.out, hid]; rfl
  clear HR0
  have x7 : w2.cell? ⟨w.heap.size, 7, none⟩ = some (.int .i64 rc) := HM1.out.cell 7
  have x11 : w2.cell? ⟨w.heap.size, 11, none⟩ = some (.int .i64 0) := HM1.out.cell 11
  have x12 : w2.cell? ⟨w.heap.size, 12, none⟩ = some (.int .i64 due) := HM1.out.cell 12
  cases nv
  · skip
    have HF : Hid (rightR (⟨3, mid, born, fr, R, bo, id, rc, vk, vc, vt, 0, due⟩ : Rec) = false) := by show _ = _; rw [HR1.out, HNV.out]; rfl
    clear HR1 hid
    go_wp2
    go_ret
    exact ⟨⟨_, rfl, .inl ⟨HF.out, rfl⟩⟩, b1⟩
  by_cases d1 : ¬ rc = 0
  · skip
    have HF : Hid (rightR (⟨3, mid, born, fr, R, bo, id, rc, vk, vc, vt, 0, due⟩ : Rec) = false) := by show _ = _; rw [HR1.out]; simp [d1]
    clear HR1 hid
    go_wp2
    go_ret
    exact ⟨⟨_, rfl, .inl ⟨HF.out, rfl⟩⟩, b1⟩
  replace d1 := Decidable.not_not.1 d1
  subst d1
  by_cases d4 : ¬ 0 ≤ due
  · skip
    have HF : Hid (rightR (⟨3, mid, born, fr, R, bo, id, 0, vk, vc, vt, 0, due⟩ : Rec) = false) := by show _ = _; rw [HR1.out]; simp [d4]
    clear HR1 hid
    go_wp2
    go_ret
    exact ⟨⟨_, rfl, .inl ⟨HF.out, rfl⟩⟩, b1⟩
  replace d4 := Decidable.not_not.1 d4
  by_cases d5 : ¬ due ≤ 20014400
  · skip
    have HF : Hid (rightR (⟨3, mid, born, fr, R, bo, id, 0, vk, vc, vt, 0, due⟩ : Rec) = false) := by show _ = _; rw [HR1.out]; simp [d5]
    clear HR1 hid
    go_wp2
    go_ret
    exact ⟨⟨_, rfl, .inl ⟨HF.out, rfl⟩⟩, b1⟩
  replace d5 := Decidable.not_not.1 d5
  have HF : Hid (rightR (⟨3, mid, born, fr, R, bo, id, 0, vk, vc, vt, 0, due⟩ : Rec) = true) := by show _ = _; rw [HR1.out, HNV.out]; simp [d4, d5]
  have hidr : 1 ≤ id ∧ id ≤ 999999 := by unfold idN at hid; simp at hid; omega
  clear HR1 hid
  obtain ⟨kid, rfl⟩ : ∃ k : Nat, id = (k : Int) := ⟨id.toNat, by omega⟩
  obtain ⟨kdue, rfl⟩ : ∃ k : Nat, due = (k : Int) := ⟨due.toNat, by omega⟩
  obtain ⟨A1, HA1⟩ : ∃ A, Hid (numB kid = A) := ⟨_, rfl⟩
  have sA1 := numB_size (n := kid) (by omega)
  rw [HA1.out] at sA1
  obtain ⟨A2, HA2⟩ : ∃ A, Hid (numB 0 = A) := ⟨_, rfl⟩
  have sA2 := numB_size (n := 0) (by omega)
  rw [HA2.out] at sA2
  obtain ⟨A3, HA3⟩ : ∃ A, Hid (decB kdue = A) := ⟨_, rfl⟩
  have sA3 := decB_size (n := kdue) (by omega)
  rw [HA3.out] at sA3
  obtain ⟨B1, HB1⟩ : ∃ B, Hid ((⟨#[84]⟩ : ByteArray) ++ A1 = B) := ⟨_, rfl⟩
  have tB1 : B1.size = 1 + A1.size := by rw [← HB1.out, ByteArray.size_append, sz1]
  have gB1 : ∀ wx : World, (Op.stringOp .add (⟨#[84]⟩ : ByteArray) A1).run Tryz.prog wx = .ok (.string B1) wx := fun wx => by rw [← HB1.out]; exact run_string_add_sum wx _ _ (by rw [sz1]; omega)
  obtain ⟨B2, HB2⟩ : ∃ B, Hid (B1 ++ A2 = B) := ⟨_, rfl⟩
  have tB2 : B2.size = B1.size + A2.size := by rw [← HB2.out, ByteArray.size_append]
  have gB2 : ∀ wx : World, (Op.stringOp .add B1 A2).run Tryz.prog wx = .ok (.string B2) wx := fun wx => by rw [← HB2.out]; exact run_string_add_sum wx _ _ (by omega)
  obtain ⟨B3, HB3⟩ : ∃ B, Hid (B2 ++ (⟨#[32]⟩ : ByteArray) = B) := ⟨_, rfl⟩
  have tB3 : B3.size = B2.size + 1 := by rw [← HB3.out, ByteArray.size_append, sz1]
  have gB3 : ∀ wx : World, (Op.stringOp .add B2 (⟨#[32]⟩ : ByteArray)).run Tryz.prog wx = .ok (.string B3) wx := fun wx => by rw [← HB3.out]; exact run_string_add_sum wx _ _ (by rw [sz1]; omega)
  obtain ⟨B4, HB4⟩ : ∃ B, Hid (B3 ++ A3 = B) := ⟨_, rfl⟩
  have tB4 : B4.size = B3.size + A3.size := by rw [← HB4.out, ByteArray.size_append]
  have gB4 : ∀ wx : World, (Op.stringOp .add B3 A3).run Tryz.prog wx = .ok (.string B4) wx := fun wx => by rw [← HB4.out]; exact run_string_add_sum wx _ _ (by omega)
  have TB : Hid (1 ≤ B4.size) := by show 1 ≤ _; omega
  have N1 : Hid (∀ wx, Calls Tryz.prog 40 #[.int .i64 (kid : Int)] wx fun e w' => e = .returned (.string A1) ∧ Below wx.heap.size wx w') := fun wx => by rw [← HA1.out]; exact specNum kid (by omega) wx
  have N2 : Hid (∀ wx, Calls Tryz.prog 40 #[.int .i64 0] wx fun e w' => e = .returned (.string A2) ∧ Below wx.heap.size wx w') := fun wx => by rw [← HA2.out]; exact specNum 0 (by omega) wx
  have N3 : Hid (∀ wx, Calls Tryz.prog 41 #[.int .i64 (kdue : Int)] wx fun e w' => e = .returned (.string A3) ∧ Below wx.heap.size wx w') := fun wx => by rw [← HA3.out]; exact specDec kdue kdue (Nat.le_refl _) (by omega) wx
  clear sA1 sA2 sA3 tB1 tB2 tB3 tB4 HA1 HA2 HA3 HB1 HB2 HB3 HB4
  have lM : w.heap.size < w2.heap.size := HM1.out.lt
  go_upto_region 23 with fail
  clear hidr d4 d5 x0 x7
  go_region_held3 (fun w' => w'.cell? ⟨w.heap.size, 6, none⟩ = some (.int .i64 (kid : Int)) ∧ w'.cell? ⟨w.heap.size, 11, none⟩ = some (.int .i64 0) ∧ w'.cell? ⟨w.heap.size, 12, none⟩ = some (.int .i64 (kdue : Int))) (first | (exact ⟨kc0, kc1, kc2⟩) | (exact ⟨kb0, kb1, kb2⟩) | (exact ⟨ka0, ka1, ka2⟩) | go_keep) (first | (go_at_call 40; refine (N1.out _).mono ?_; rintro e v1 ⟨rfl, hbx⟩; have Hv1 : Hid (Below w2.heap.size w2 v1) := (Below.refl w2.heap.size w2).drew.trans hbx; have ka0 := (Hv1.out.cell (p := ⟨w.heap.size, 6, none⟩) lM).trans x6; have ka1 := (Hv1.out.cell (p := ⟨w.heap.size, 11, none⟩) lM).trans x11; have ka2 := (Hv1.out.cell (p := ⟨w.heap.size, 12, none⟩) lM).trans x12; clear hbx) | (go_at_call 40; refine (N2.out _).mono ?_; rintro e v2 ⟨rfl, hbx⟩; have Hv2 : Hid (Below w2.heap.size w2 v2) := Hv1.out.trans (hbx.mono Hv1.out.size); have kb0 := (Hv2.out.cell (p := ⟨w.heap.size, 6, none⟩) lM).trans x6; have kb1 := (Hv2.out.cell (p := ⟨w.heap.size, 11, none⟩) lM).trans x11; have kb2 := (Hv2.out.cell (p := ⟨w.heap.size, 12, none⟩) lM).trans x12; clear hbx) | (go_at_call 41; refine (N3.out _).mono ?_; rintro e v3 ⟨rfl, hbx⟩; have Hv3 : Hid (Below w2.heap.size w2 v3) := Hv2.out.trans (hbx.mono Hv2.out.size); have kc0 := (Hv3.out.cell (p := ⟨w.heap.size, 6, none⟩) lM).trans x6; have kc1 := (Hv3.out.cell (p := ⟨w.heap.size, 11, none⟩) lM).trans x11; have kc2 := (Hv3.out.cell (p := ⟨w.heap.size, 12, none⟩) lM).trans x12; clear hbx))
  go_wp2
  go_ret
  exact ⟨⟨_, rfl, .inr ⟨HF.out, TB.out⟩⟩, b1.trans (Hv3.out.mono b1.size)⟩

set_option maxHeartbeats 8000000 in
set_option maxRecDepth 100000 in
theorem specPackX (kind : Int) (mid born : Int) (fr : ByteArray) (R : List ByteArray) (bo : ByteArray) (id rc vk vc : Int) (vt : ByteArray) (tr due : Int) (v : Value) (w : World) (h : ArgS w v R) (hk : ¬ (1 ≤ kind ∧ kind ≤ 6)) :
    Calls Tryz.prog 19 #[.agg #[.int .i64 kind, .int .i64 mid, .int .i64 born, .string fr, v, .string bo, .int .i64 id, .int .i64 rc, .int .i64 vk, .int .i64 vc, .string vt, .int .i64 tr, .int .i64 due]] w fun e w' => (∃ s : ByteArray, e = .returned (.string s) ∧ ((rightR (⟨kind, mid, born, fr, R, bo, id, rc, vk, vc, vt, tr, due⟩ : Rec) = false ∧ s = ⟨#[]⟩) ∨ (rightR (⟨kind, mid, born, fr, R, bo, id, rc, vk, vc, vt, tr, due⟩ : Rec) = true ∧ 1 ≤ s.size))) ∧ Below w.heap.size w w' := by
  obtain ⟨a3, c3, rfl⟩ := args_formM h
  clear h
  have HF : Hid (rightR (⟨kind, mid, born, fr, R, bo, id, rc, vk, vc, vt, tr, due⟩ : Rec) = false) := rightO kind _ _ _ _ _ _ _ _ _ _ _ _ hk
  have k1 : (kind == 1) = false := by rw [beq_eq_false_iff_ne]; omega
  have k2 : (kind == 2) = false := by rw [beq_eq_false_iff_ne]; omega
  have k3 : (kind == 3) = false := by rw [beq_eq_false_iff_ne]; omega
  have k4 : (kind == 4) = false := by rw [beq_eq_false_iff_ne]; omega
  have k5 : (kind == 5) = false := by rw [beq_eq_false_iff_ne]; omega
  have k6 : (kind == 6) = false := by rw [beq_eq_false_iff_ne]; omega
  have hV := vd_eql0 vk vc vt
  generalize noVB vk vc vt = nv at hV
  clear hk
  by_cases ct : ¬ tr = 0
  · skip
    go_enter Tryz.func19, Tryz.ntmps19
    go_wp2_with fail
    generalize hW : World.alloc _ _ = W0
    have HM0 : Hid (Blk w.heap.size #[.int .i64 kind, .int .i64 mid, .int .i64 born, .string fr, .slice a3 R.length c3, .string bo, .int .i64 id, .int .i64 rc, .int .i64 vk, .int .i64 vc, .string vt, .int .i64 tr, .int .i64 due] W0) := by show Blk _ _ _; rw [← hW]; exact Blk.new w _ _
    have b0 : Below w.heap.size w W0 := by rw [← hW]; exact below1 _ _
    clear hW
    refine (specNoMsg mid born fr bo a3 R.length c3 _).mono ?_
    rintro e w1 ⟨rfl, hb1⟩
    have b1 : Below w.heap.size w w1 := b0.trans (hb1.mono b0.size)
    have HM1 : Hid (Blk w.heap.size #[.int .i64 kind, .int .i64 mid, .int .i64 born, .string fr, .slice a3 R.length c3, .string bo, .int .i64 id, .int .i64 rc, .int .i64 vk, .int .i64 vc, .string vt, .int .i64 tr, .int .i64 due] w1) := HM0.out.below hb1
    clear hb1 HM0 b0
    have x0 : w1.cell? ⟨w.heap.size, 0, none⟩ = some (.int .i64 kind) := HM1.out.cell 0
    have x6 : w1.cell? ⟨w.heap.size, 6, none⟩ = some (.int .i64 id) := HM1.out.cell 6
    cases noMsgB mid born fr R.length bo
    · go_wp2
      go_ret
      exact ⟨⟨_, rfl, .inl ⟨HF.out, rfl⟩⟩, b1⟩
    go_wp2_with fail
    refine (specId id _).mono ?_
    rintro e w2 ⟨rfl, hw2⟩
    subst hw2
    cases idN id
    · go_wp2
      go_ret
      exact ⟨⟨_, rfl, .inl ⟨HF.out, rfl⟩⟩, b1⟩
    · go_wp2
      go_ret
      exact ⟨⟨_, rfl, .inl ⟨HF.out, rfl⟩⟩, b1⟩
  replace ct := Decidable.not_not.1 ct
  subst ct
  go_enter Tryz.func19, Tryz.ntmps19
  go_wp2_with fail
  generalize hW : World.alloc _ _ = W0
  have HM0 : Hid (Blk w.heap.size #[.int .i64 kind, .int .i64 mid, .int .i64 born, .string fr, .slice a3 R.length c3, .string bo, .int .i64 id, .int .i64 rc, .int .i64 vk, .int .i64 vc, .string vt, .int .i64 0, .int .i64 due] W0) := by show Blk _ _ _; rw [← hW]; exact Blk.new w _ _
  have b0 : Below w.heap.size w W0 := by rw [← hW]; exact below1 _ _
  clear hW
  refine (specNoMsg mid born fr bo a3 R.length c3 _).mono ?_
  rintro e w1 ⟨rfl, hb1⟩
  have b1 : Below w.heap.size w w1 := b0.trans (hb1.mono b0.size)
  have HM1 : Hid (Blk w.heap.size #[.int .i64 kind, .int .i64 mid, .int .i64 born, .string fr, .slice a3 R.length c3, .string bo, .int .i64 id, .int .i64 rc, .int .i64 vk, .int .i64 vc, .string vt, .int .i64 0, .int .i64 due] w1) := HM0.out.below hb1
  clear hb1 HM0 b0
  have x0 : w1.cell? ⟨w.heap.size, 0, none⟩ = some (.int .i64 kind) := HM1.out.cell 0
  have x6 : w1.cell? ⟨w.heap.size, 6, none⟩ = some (.int .i64 id) := HM1.out.cell 6
  cases noMsgB mid born fr R.length bo
  · go_wp2
    go_ret
    exact ⟨⟨_, rfl, .inl ⟨HF.out, rfl⟩⟩, b1⟩
  go_wp2_with fail
  refine (specId id _).mono ?_
  rintro e w2 ⟨rfl, hw2⟩
  subst hw2
  cases idN id
  · go_wp2
    go_ret
    exact ⟨⟨_, rfl, .inl ⟨HF.out, rfl⟩⟩, b1⟩
  · go_wp2
    go_ret
    exact ⟨⟨_, rfl, .inl ⟨HF.out, rfl⟩⟩, b1⟩
end Go.Proofs.YtlolnfpfipnfeaaGreat
