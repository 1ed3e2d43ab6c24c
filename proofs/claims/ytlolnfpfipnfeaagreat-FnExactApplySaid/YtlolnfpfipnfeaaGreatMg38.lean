import Derived.Test.YtlolnfpfipnfeaaGreatMg37
import Derived.Deep.RegionLaw
import Derived.Deep.RegionWith
import Derived.Deep.DrawnRows
namespace Go.Proofs.YtlolnfpfipnfeaaGreat
open Go.ChangeShapes Go.WideShapes Go.ChangeAt Go.RowKit
attribute [local go_sem ↓] Go.wp_at_zero Go.wp_at_succ

set_option maxHeartbeats 8000000 in
set_option maxRecDepth 100000 in
theorem specPack4 (mid born : Int) (fr : ByteArray) (R : List ByteArray) (bo : ByteArray) (id rc vk vc : Int) (vt : ByteArray) (tr due : Int) (v : Value) (w : World) (h : ArgS w v R) :
    Calls Tryz.prog 19 #[.agg #[.int .i64 4, .int .i64 mid, .int .i64 born, .string fr, v, .string bo, .int .i64 id, .int .i64 rc, .int .i64 vk, .int .i64 vc, .string vt, .int .i64 tr, .int .i64 due]] w fun e w' => (∃ s : ByteArray, e = .returned (.string s) ∧ ((rightR (⟨4, mid, born, fr, R, bo, id, rc, vk, vc, vt, tr, due⟩ : Rec) = false ∧ s = ⟨#[]⟩) ∨ (rightR (⟨4, mid, born, fr, R, bo, id, rc, vk, vc, vt, tr, due⟩ : Rec) = true ∧ 1 ≤ s.size))) ∧ Below w.heap.size w w' := by
  obtain ⟨a3, c3, rfl⟩ := args_formM h
  clear h
  have hV := vd_eql0 vk vc vt
  obtain ⟨nv, HNV⟩ : ∃ nv, Hid (noVB vk vc vt = nv) := ⟨_, rfl⟩
  rw [HNV.out] at hV
  by_cases ct : ¬ tr = 0
  · skip
    have HR0 : Hid (rightR (⟨4, mid, born, fr, R, bo, id, rc, vk, vc, vt, tr, due⟩ : Rec) = (noMsgB mid born fr R.length bo && (idN id && (noVB vk vc vt && ((decide (tr = 0) && decide (due = 0)) && decide (rc = 0)))))) := right4 _ _ _ _ _ _ _ _ _ _ _ _
    go_enter Tryz.func19, Tryz.ntmps19
    go_wp2_with fail
    generalize hW : World.alloc _ _ = W0
    have HM0 : Hid (Blk w.heap.size #[.int .i64 4, .int .i64 mid, .int .i64 born, .string fr, .slice a3 R.length c3, .string bo, .int .i64 id, .int .i64 rc, .int .i64 vk, .int .i64 vc, .string vt, .int .i64 tr, .int .i64 due] W0) := by show Blk _ _ _; rw [← hW]; exact Blk.new w _ _
    have b0 : Below w.heap.size w W0 := by rw [← hW]; exact below1 _ _
    clear hW
    refine (specNoMsg mid born fr bo a3 R.length c3 _).mono ?_
    rintro e w1 ⟨rfl, hb1⟩
    have b1 : Below w.heap.size w w1 := b0.trans (hb1.mono b0.size)
    have HM1 : Hid (Blk w.heap.size #[.int .i64 4, .int .i64 mid, .int .i64 born, .string fr, .slice a3 R.length c3, .string bo, .int .i64 id, .int .i64 rc, .int .i64 vk, .int .i64 vc, .string vt, .int .i64 tr, .int .i64 due] w1) := HM0.out.below hb1
    clear hb1 HM0 b0
    have x0 : w1.cell? ⟨w.heap.size, 0, none⟩ = some (.int .i64 4) := HM1.out.cell 0
    have x6 : w1.cell? ⟨w.heap.size, 6, none⟩ = some (.int .i64 id) := HM1.out.cell 6
    cases hnm : noMsgB mid born fr R.length bo
    · skip
      have HF : Hid (rightR (⟨4, mid, born, fr, R, bo, id, rc, vk, vc, vt, tr, due⟩ : Rec) = false) := by show _ = _; rw [HR0.out, hnm]; rfl
      clear HR0 hnm
      go_wp2
      go_ret
      exact ⟨⟨_, rfl, .inl ⟨HF.out, rfl⟩⟩, b1⟩
    rw [hnm] at HR0
    clear hnm
    go_wp2_with fail
    refine (specId id _).mono ?_
    rintro e w2 ⟨rfl, hw2⟩
    subst hw2
    cases hid : idN id
    · skip
      have HF : Hid (rightR (⟨4, mid, born, fr, R, bo, id, rc, vk, vc, vt, tr, due⟩ : Rec) = false) := by show _ = _; rw [HR0.out, hid]; rfl
      clear HR0 hid
      go_wp2
      go_ret
      exact ⟨⟨_, rfl, .inl ⟨HF.out, rfl⟩⟩, b1⟩
    have HR1 : Hid (rightR (⟨4, mid, born, fr, R, bo, id, rc, vk, vc, vt, tr, due⟩ : Rec) = (noVB vk vc vt && ((decide (tr = 0) && decide (due = 0)) && decide (rc = 0)))) := by show _ = _; rw [HR0.out, hid]; rfl
    clear HR0
    have hidr : 1 ≤ id ∧ id ≤ 999999 := by unfold idN at hid; simp at hid; omega
    clear hid
    have HF : Hid (rightR (⟨4, mid, born, fr, R, bo, id, rc, vk, vc, vt, tr, due⟩ : Rec) = false) := by show _ = _; rw [HR1.out]; simp [*]
    clear HR1
    have x7 : w2.cell? ⟨w.heap.size, 7, none⟩ = some (.int .i64 rc) := HM1.out.cell 7
    go_wp2
    all_goals
      go_ret
      exact ⟨⟨_, rfl, .inl ⟨HF.out, rfl⟩⟩, b1⟩
  replace ct := Decidable.not_not.1 ct
  subst ct
  by_cases cd : ¬ due = 0
  · skip
    have HR0 : Hid (rightR (⟨4, mid, born, fr, R, bo, id, rc, vk, vc, vt, 0, due⟩ : Rec) = (noMsgB mid born fr R.length bo && (idN id && (noVB vk vc vt && ((decide (0 = 0) && decide (due = 0)) && decide (rc = 0)))))) := right4 _ _ _ _ _ _ _ _ _ _ _ _
    go_enter Tryz.func19, Tryz.ntmps19
    go_wp2_with fail
    generalize hW : World.alloc _ _ = W0
    have HM0 : Hid (Blk w.heap.size #[.int .i64 4, .int .i64 mid, .int .i64 born, .string fr, .slice a3 R.length c3, .string bo, .int .i64 id, .int .i64 rc, .int .i64 vk, .int .i64 vc, .string vt, .int .i64 0, .int .i64 due] W0) := by show Blk _ _ _; rw [← hW]; exact Blk.new w _ _
    have b0 : Below w.heap.size w W0 := by rw [← hW]; exact below1 _ _
    clear hW
    refine (specNoMsg mid born fr bo a3 R.length c3 _).mono ?_
    rintro e w1 ⟨rfl, hb1⟩
    have b1 : Below w.heap.size w w1 := b0.trans (hb1.mono b0.size)
    have HM1 : Hid (Blk w.heap.size #[.int .i64 4, .int .i64 mid, .int .i64 born, .string fr, .slice a3 R.length c3, .string bo, .int .i64 id, .int .i64 rc, .int .i64 vk, .int .i64 vc, .string vt, .int .i64 0, .int .i64 due] w1) := HM0.out.below hb1
    clear hb1 HM0 b0
    have x0 : w1.cell? ⟨w.heap.size, 0, none⟩ = some (.int .i64 4) := HM1.out.cell 0
    have x6 : w1.cell? ⟨w.heap.size, 6, none⟩ = some (.int .i64 id) := HM1.out.cell 6
    cases hnm : noMsgB mid born fr R.length bo
    · skip
      have HF : Hid (rightR (⟨4, mid, born, fr, R, bo, id, rc, vk, vc, vt, 0, due⟩ : Rec) = false) := by show _ = _; rw [HR0.out, hnm]; rfl
      clear HR0 hnm
      go_wp2
      go_ret
      exact ⟨⟨_, rfl, .inl ⟨HF.out, rfl⟩⟩, b1⟩
    rw [hnm] at HR0
    clear hnm
    go_wp2_with fail
    refine (specId id _).mono ?_
    rintro e w2 ⟨rfl, hw2⟩
    subst hw2
    cases hid : idN id
    · skip
      have HF : Hid (rightR (⟨4, mid, born, fr, R, bo, id, rc, vk, vc, vt, 0, due⟩ : Rec) = false) := by show _ = _; rw [HR0.out, hid]; rfl
      clear HR0 hid
      go_wp2
      go_ret
      exact ⟨⟨_, rfl, .inl ⟨HF.out, rfl⟩⟩, b1⟩
    have HR1 : Hid (rightR (⟨4, mid, born, fr, R, bo, id, rc, vk, vc, vt, 0, due⟩ : Rec) = (noVB vk vc vt && ((decide (0 = 0) && decide (due = 0)) && decide (rc = 0)))) := by show _ = _; rw [HR0.out, hid]; rfl
    clear HR0
    have hidr : 1 ≤ id ∧ id ≤ 999999 := by unfold idN at hid; simp at hid; omega
    clear hid
    have HF : Hid (rightR (⟨4, mid, born, fr, R, bo, id, rc, vk, vc, vt, 0, due⟩ : Rec) = false) := by show _ = _; rw [HR1.out]; simp [*]
    clear HR1
    have x7 : w2.cell? ⟨w.heap.size, 7, none⟩ = some (.int .i64 rc) := HM1.out.cell 7
    go_wp2
    all_goals
      go_ret
      exact ⟨⟨_, rfl, .inl ⟨HF.out, rfl⟩⟩, b1⟩
  replace cd := Decidable.not_not.1 cd
  subst cd
  have HR0 : Hid (rightR (⟨4, mid, born, fr, R, bo, id, rc, vk, vc, vt, 0, 0⟩ : Rec) = (noMsgB mid born fr R.length bo && (idN id && (noVB vk vc vt && ((decide (0 = 0) && decide (0 = 0)) && decide (rc = 0)))))) := right4 _ _ _ _ _ _ _ _ _ _ _ _
  go_enter Tryz.func19, Tryz.ntmps19
  go_wp2_with fail
  generalize hW : World.alloc _ _ = W0
  have HM0 : Hid (Blk w.heap.size #[.int .i64 4, .int .i64 mid, .int .i64 born, .string fr, .slice a3 R.length c3, .string bo, .int .i64 id, .int .i64 rc, .int .i64 vk, .int .i64 vc, .string vt, .int .i64 0, .int .i64 0] W0) := by show Blk _ _ _; rw [← hW]; exact Blk.new w _ _
  have b0 : Below w.heap.size w W0 := by rw [← hW]; exact below1 _ _
  clear hW
  refine (specNoMsg mid born fr bo a3 R.length c3 _).mono ?_
  rintro e w1 ⟨rfl, hb1⟩
  have b1 : Below w.heap.size w w1 := b0.trans (hb1.mono b0.size)
  have HM1 : Hid (Blk w.heap.size #[.int .i64 4, .int .i64 mid, .int .i64 born, .string fr, .slice a3 R.length c3, .string bo, .int .i64 id, .int .i64 rc, .int .i64 vk, .int .i64 vc, .string vt, .int .i64 0, .int .i64 0] w1) := HM0.out.below hb1
  clear hb1 HM0 b0
  have x0 : w1.cell? ⟨w.heap.size, 0, none⟩ = some (.int .i64 4) := HM1.out.cell 0
  have x6 : w1.cell? ⟨w.heap.size, 6, none⟩ = some (.int .i64 id) := HM1.out.cell 6
  cases hnm : noMsgB mid born fr R.length bo
  · skip
    have HF : Hid (rightR (⟨4, mid, born, fr, R, bo, id, rc, vk, vc, vt, 0, 0⟩ : Rec) = false) := by show _ = _; rw [HR0.out, hnm]; rfl
    clear HR0 hnm
    go_wp2
    go_ret
    exact ⟨⟨_, rfl, .inl ⟨HF.out, rfl⟩⟩, b1⟩
  rw [hnm] at HR0
  clear hnm
  go_wp2_with fail
  refine (specId id _).mono ?_
  rintro e w2 ⟨rfl, hw2⟩
  subst hw2
  cases hid : idN id
  · skip
    have HF : Hid (rightR (⟨4, mid, born, fr, R, bo, id, rc, vk, vc, vt, 0, 0⟩ : Rec) = false) := by show _ = _; rw [HR0.out, hid]; rfl
    clear HR0 hid
    go_wp2
    go_ret
    exact ⟨⟨_, rfl, .inl ⟨HF.out, rfl⟩⟩, b1⟩
  have HR1 : Hid (rightR (⟨4, mid, born, fr, R, bo, id, rc, vk, vc, vt, 0, 0⟩ : Rec) = (noVB vk vc vt && ((decide (0 = 0) && decide (0 = 0)) && decide (rc = 0)))) := by show _ = _; rw [HR0.out, hid]; rfl
  clear HR0
  have hidr : 1 ≤ id ∧ id ≤ 999999 := by unfold idN at hid; simp at hid; omega
  clear hid
  have x7 : w2.cell? ⟨w.heap.size, 7, none⟩ = some (.int .i64 rc) := HM1.out.cell 7
  cases nv
  · skip
    have HF : Hid (rightR (⟨4, mid, born, fr, R, bo, id, rc, vk, vc, vt, 0, 0⟩ : Rec) = false) := by show _ = _; rw [HR1.out, HNV.out]; rfl
    clear HR1
    go_wp2
    go_ret
    exact ⟨⟨_, rfl, .inl ⟨HF.out, rfl⟩⟩, b1⟩
  by_cases d1 : ¬ rc = 0
  · skip
    have HF : Hid (rightR (⟨4, mid, born, fr, R, bo, id, rc, vk, vc, vt, 0, 0⟩ : Rec) = false) := by show _ = _; rw [HR1.out]; simp [d1]
    clear HR1
    go_wp2
    go_ret
    exact ⟨⟨_, rfl, .inl ⟨HF.out, rfl⟩⟩, b1⟩
  replace d1 := Decidable.not_not.1 d1
  subst d1
  have HF : Hid (rightR (⟨4, mid, born, fr, R, bo, id, 0, vk, vc, vt, 0, 0⟩ : Rec) = true) := by show _ = _; rw [HR1.out, HNV.out]; rfl
  clear HR1
  obtain ⟨kid, rfl⟩ : ∃ k : Nat, id = (k : Int) := ⟨id.toNat, by omega⟩
  obtain ⟨A1, HA1⟩ : ∃ A, Hid (numB kid = A) := ⟨_, rfl⟩
  have sA1 := numB_size (n := kid) (by omega)
  rw [HA1.out] at sA1
  obtain ⟨B1, HB1⟩ : ∃ B, Hid ((⟨#[66]⟩ : ByteArray) ++ A1 = B) := ⟨_, rfl⟩
  have tB1 : B1.size = 1 + A1.size := by rw [← HB1.out, ByteArray.size_append, sz1]
  have gB1 : ∀ wx : World, (Op.stringOp .add (⟨#[66]⟩ : ByteArray) A1).run Tryz.prog wx = .ok (.string B1) wx := fun wx => by rw [← HB1.out]; exact run_string_add_sum wx _ _ (by rw [sz1]; omega)
  have TB : Hid (1 ≤ B1.size) := by show 1 ≤ _; omega
  have N1 : Hid (∀ wx, Calls Tryz.prog 40 #[.int .i64 (kid : Int)] wx fun e w' => e = .returned (.string A1) ∧ Below wx.heap.size wx w') := fun wx => by rw [← HA1.out]; exact specNum kid (by omega) wx
  clear sA1 tB1 HA1 HB1
  have lM : w.heap.size < w2.heap.size := HM1.out.lt
  go_upto_region 28 with fail
  clear hidr x7
  have hwr : IntKind.i64.wrap 0 = 0 := by decide
  have KZ1 : Hid (∀ w3, Below (w2.drew.alloc (.cells #[.string ⟨#[66]⟩, .string ⟨#[68]⟩, .string ⟨#[78]⟩] 9)).heap.size (w2.drew.alloc (.cells #[.string ⟨#[66]⟩, .string ⟨#[68]⟩, .string ⟨#[78]⟩] 9)) w3 → w3.cell? ⟨w2.heap.size, 0, none⟩ = some (.string ⟨#[66]⟩) ∧ Below w2.heap.size w2 w3) := fun w3 h => ⟨(h.cell (p := ⟨w2.heap.size, 0, none⟩) (by simp)).trans (World.cell?_alloc_mark w2.drew _ _ _ _), ((Below.refl w2.heap.size w2).drew.alloc (by simp) _).trans (h.mono (by simp))⟩
  have KZ2 : Hid (∀ w3, Below (w2.alloc (.cells #[.string ⟨#[66]⟩, .string ⟨#[68]⟩, .string ⟨#[78]⟩] 9)).drew.heap.size (w2.alloc (.cells #[.string ⟨#[66]⟩, .string ⟨#[68]⟩, .string ⟨#[78]⟩] 9)).drew w3 → w3.cell? ⟨w2.heap.size, 0, none⟩ = some (.string ⟨#[66]⟩) ∧ Below w2.heap.size w2 w3) := fun w3 h => ⟨(h.cell (p := ⟨w2.heap.size, 0, none⟩) (by simp)).trans (World.cell?_alloc_mark w2 _ _ _ _), ((Below.refl w2.heap.size w2).alloc (Nat.le_refl _) _).drew.trans (h.mono (by simp))⟩
  have KZ3 : Hid (∀ w3, Below w2.drew.heap.size w2.drew w3 → w3 = w3 ∧ Below w2.heap.size w2 w3) := fun w3 h => ⟨rfl, (Below.refl w2.heap.size w2).drew.trans h⟩
  go_region_law (first | (go_simp; go_at_call 40; refine (N1.out _).mono ?_; rintro e w3 ⟨rfl, hb3⟩; (first | (guard_hyp hb3 : Below w2.drew.heap.size w2.drew w3; obtain ⟨kz, hb4⟩ := KZ3.out _ hb3) | (guard_hyp hb3 : Below (w2.alloc (.cells #[.string ⟨#[66]⟩, .string ⟨#[68]⟩, .string ⟨#[78]⟩] 9)).drew.heap.size (w2.alloc (.cells #[.string ⟨#[66]⟩, .string ⟨#[68]⟩, .string ⟨#[78]⟩] 9)).drew w3; obtain ⟨kz, hb4⟩ := KZ2.out _ hb3) | (obtain ⟨kz, hb4⟩ := KZ1.out _ hb3)); have HB3 : Hid (Below w2.heap.size w2 w3) := hb4; have k0 := (HB3.out.cell (p := ⟨w.heap.size, 0, none⟩) lM).trans x0; have k6 := (HB3.out.cell (p := ⟨w.heap.size, 6, none⟩) lM).trans x6; have l3 : w.heap.size < w3.heap.size := Nat.lt_of_lt_of_le lM HB3.out.size; clear hb3 hb4))
  all_goals
    go_wp2
    go_ret
    exact ⟨⟨_, rfl, .inr ⟨HF.out, TB.out⟩⟩, b1.trans (by first | exact HB3.out.mono b1.size | exact (HB3.out.trans ((below1 _ _).mono HB3.out.size)).mono b1.size)⟩
end Go.Proofs.YtlolnfpfipnfeaaGreat
namespace Go.Proofs.YtlolnfpfipnfeaaGreat
open Go.ChangeShapes Go.WideShapes Go.ChangeAt Go.RowKit
attribute [local go_sem ↓] Go.wp_at_zero Go.wp_at_succ

set_option maxHeartbeats 8000000 in
set_option maxRecDepth 100000 in
theorem specPack5 (mid born : Int) (fr : ByteArray) (R : List ByteArray) (bo : ByteArray) (id rc vk vc : Int) (vt : ByteArray) (tr due : Int) (v : Value) (w : World) (h : ArgS w v R) :
    Calls Tryz.prog 19 #[.agg #[.int .i64 5, .int .i64 mid, .int .i64 born, .string fr, v, .string bo, .int .i64 id, .int .i64 rc, .int .i64 vk, .int .i64 vc, .string vt, .int .i64 tr, .int .i64 due]] w fun e w' => (∃ s : ByteArray, e = .returned (.string s) ∧ ((rightR (⟨5, mid, born, fr, R, bo, id, rc, vk, vc, vt, tr, due⟩ : Rec) = false ∧ s = ⟨#[]⟩) ∨ (rightR (⟨5, mid, born, fr, R, bo, id, rc, vk, vc, vt, tr, due⟩ : Rec) = true ∧ 1 ≤ s.size))) ∧ Below w.heap.size w w' := by
  obtain ⟨a3, c3, rfl⟩ := args_formM h
  clear h
  have hV := vd_eql0 vk vc vt
  obtain ⟨nv, HNV⟩ : ∃ nv, Hid (noVB vk vc vt = nv) := ⟨_, rfl⟩
  rw [HNV.out] at hV
  by_cases ct : ¬ tr = 0
  · skip
    have HR0 : Hid (rightR (⟨5, mid, born, fr, R, bo, id, rc, vk, vc, vt, tr, due⟩ : Rec) = (noMsgB mid born fr R.length bo && (idN id && (noVB vk vc vt && ((decide (tr = 0) && decide (due = 0)) && decide (rc = 0)))))) := right5 _ _ _ _ _ _ _ _ _ _ _ _
    go_enter Tryz.func19, Tryz.ntmps19
    go_wp2_with fail
    generalize hW : World.alloc _ _ = W0
    have HM0 : Hid (Blk w.heap.size #[.int .i64 5, .int .i64 mid, .int .i64 born, .string fr, .slice a3 R.length c3, .string bo, .int .i64 id, .int .i64 rc, .int .i64 vk, .int .i64 vc, .string vt, .int .i64 tr, .int .i64 due] W0) := by show Blk _ _ _; rw [← hW]; exact Blk.new w _ _
    have b0 : Below w.heap.size w W0 := by rw [← hW]; exact below1 _ _
    clear hW
    refine (specNoMsg mid born fr bo a3 R.length c3 _).mono ?_
    rintro e w1 ⟨rfl, hb1⟩
    have b1 : Below w.heap.size w w1 := b0.trans (hb1.mono b0.size)
    have HM1 : Hid (Blk w.heap.size #[.int .i64 5, .int .i64 mid, .int .i64 born, .string fr, .slice a3 R.length c3, .string bo, .int .i64 id, .int .i64 rc, .int .i64 vk, .int .i64 vc, .string vt, .int .i64 tr, .int .i64 due] w1) := HM0.out.below hb1
    clear hb1 HM0 b0
    have x0 : w1.cell? ⟨w.heap.size, 0, none⟩ = some (.int .i64 5) := HM1.out.cell 0
    have x6 : w1.cell? ⟨w.heap.size, 6, none⟩ = some (.int .i64 id) := HM1.out.cell 6
    cases hnm : noMsgB mid born fr R.length bo
    · skip
      have HF : Hid (rightR (⟨5, mid, born, fr, R, bo, id, rc, vk, vc, vt, tr, due⟩ : Rec) = false) := by show _ = _; rw [HR0.out, hnm]; rfl
      clear HR0 hnm
      go_wp2
      go_ret
      exact ⟨⟨_, rfl, .inl ⟨HF.out, rfl⟩⟩, b1⟩
    rw [hnm] at HR0
    clear hnm
    go_wp2_with fail
    refine (specId id _).mono ?_
    rintro e w2 ⟨rfl, hw2⟩
    subst hw2
    cases hid : idN id
    · skip
      have HF : Hid (rightR (⟨5, mid, born, fr, R, bo, id, rc, vk, vc, vt, tr, due⟩ : Rec) = false) := by show _ = _; rw [HR0.out, hid]; rfl
      clear HR0 hid
      go_wp2
      go_ret
      exact ⟨⟨_, rfl, .inl ⟨HF.out, rfl⟩⟩, b1⟩
    have HR1 : Hid (rightR (⟨5, mid, born, fr, R, bo, id, rc, vk, vc, vt, tr, due⟩ : Rec) = (noVB vk vc vt && ((decide (tr = 0) && decide (due = 0)) && decide (rc = 0)))) := by show _ = _; rw [HR0.out, hid]; rfl
    clear HR0
    have hidr : 1 ≤ id ∧ id ≤ 999999 := by unfold idN at hid; simp at hid; omega
    clear hid
    have HF : Hid (rightR (⟨5, mid, born, fr, R, bo, id, rc, vk, vc, vt, tr, due⟩ : Rec) = false) := by show _ = _; rw [HR1.out]; simp [*]
    clear HR1
    have x7 : w2.cell? ⟨w.heap.size, 7, none⟩ = some (.int .i64 rc) := HM1.out.cell 7
    go_wp2
    all_goals
      go_ret
      exact ⟨⟨_, rfl, .inl ⟨HF.out, rfl⟩⟩, b1⟩
  replace ct := Decidable.not_not.1 ct
  subst ct
  by_cases cd : ¬ due = 0
  · skip
    have HR0 : Hid (rightR (⟨5, mid, born, fr, R, bo, id, rc, vk, vc, vt, 0, due⟩ : Rec) = (noMsgB mid born fr R.length bo && (idN id && (noVB vk vc vt && ((decide (0 = 0) && decide (due = 0)) && decide (rc = 0)))))) := right5 _ _ _ _ _ _ _ _ _ _ _ _
    go_enter Tryz.func19, Tryz.ntmps19
    go_wp2_with fail
    generalize hW : World.alloc _ _ = W0
    have HM0 : Hid (Blk w.heap.size #[.int .i64 5, .int .i64 mid, .int .i64 born, .string fr, .slice a3 R.length c3, .string bo, .int .i64 id, .int .i64 rc, .int .i64 vk, .int .i64 vc, .string vt, .int .i64 0, .int .i64 due] W0) := by show Blk _ _ _; rw [← hW]; exact Blk.new w _ _
    have b0 : Below w.heap.size w W0 := by rw [← hW]; exact below1 _ _
    clear hW
    refine (specNoMsg mid born fr bo a3 R.length c3 _).mono ?_
    rintro e w1 ⟨rfl, hb1⟩
    have b1 : Below w.heap.size w w1 := b0.trans (hb1.mono b0.size)
    have HM1 : Hid (Blk w.heap.size #[.int .i64 5, .int .i64 mid, .int .i64 born, .string fr, .slice a3 R.length c3, .string bo, .int .i64 id, .int .i64 rc, .int .i64 vk, .int .i64 vc, .string vt, .int .i64 0, .int .i64 due] w1) := HM0.out.below hb1
    clear hb1 HM0 b0
    have x0 : w1.cell? ⟨w.heap.size, 0, none⟩ = some (.int .i64 5) := HM1.out.cell 0
    have x6 : w1.cell? ⟨w.heap.size, 6, none⟩ = some (.int .i64 id) := HM1.out.cell 6
    cases hnm : noMsgB mid born fr R.length bo
    · skip
      have HF : Hid (rightR (⟨5, mid, born, fr, R, bo, id, rc, vk, vc, vt, 0, due⟩ : Rec) = false) := by show _ = _; rw [HR0.out, hnm]; rfl
      clear HR0 hnm
      go_wp2
      go_ret
      exact ⟨⟨_, rfl, .inl ⟨HF.out, rfl⟩⟩, b1⟩
    rw [hnm] at HR0
    clear hnm
    go_wp2_with fail
    refine (specId id _).mono ?_
    rintro e w2 ⟨rfl, hw2⟩
    subst hw2
    cases hid : idN id
    · skip
      have HF : Hid (rightR (⟨5, mid, born, fr, R, bo, id, rc, vk, vc, vt, 0, due⟩ : Rec) = false) := by show _ = _; rw [HR0.out, hid]; rfl
      clear HR0 hid
      go_wp2
      go_ret
      exact ⟨⟨_, rfl, .inl ⟨HF.out, rfl⟩⟩, b1⟩
    have HR1 : Hid (rightR (⟨5, mid, born, fr, R, bo, id, rc, vk, vc, vt, 0, due⟩ : Rec) = (noVB vk vc vt && ((decide (0 = 0) && decide (due = 0)) && decide (rc = 0)))) := by show _ = _; rw [HR0.out, hid]; rfl
    clear HR0
    have hidr : 1 ≤ id ∧ id ≤ 999999 := by unfold idN at hid; simp at hid; omega
    clear hid
    have HF : Hid (rightR (⟨5, mid, born, fr, R, bo, id, rc, vk, vc, vt, 0, due⟩ : Rec) = false) := by show _ = _; rw [HR1.out]; simp [*]
    clear HR1
    have x7 : w2.cell? ⟨w.heap.size, 7, none⟩ = some (.int .i64 rc) := HM1.out.cell 7
    go_wp2
    all_goals
      go_ret
      exact ⟨⟨_, rfl, .inl ⟨HF.out, rfl⟩⟩, b1⟩
  replace cd := Decidable.not_not.1 cd
  subst cd
  have HR0 : Hid (rightR (⟨5, mid, born, fr, R, bo, id, rc, vk, vc, vt, 0, 0⟩ : Rec) = (noMsgB mid born fr R.length bo && (idN id && (noVB vk vc vt && ((decide (0 = 0) && decide (0 = 0)) && decide (rc = 0)))))) := right5 _ _ _ _ _ _ _ _ _ _ _ _
  go_enter Tryz.func19, Tryz.ntmps19
  go_wp2_with fail
  generalize hW : World.alloc _ _ = W0
  have HM0 : Hid (Blk w.heap.size #[.int .i64 5, .int .i64 mid, .int .i64 born, .string fr, .slice a3 R.length c3, .string bo, .int .i64 id, .int .i64 rc, .int .i64 vk, .int .i64 vc, .string vt, .int .i64 0, .int .i64 0] W0) := by show Blk _ _ _; rw [← hW]; exact Blk.new w _ _
  have b0 : Below w.heap.size w W0 := by rw [← hW]; exact below1 _ _
  clear hW
  refine (specNoMsg mid born fr bo a3 R.length c3 _).mono ?_
  rintro e w1 ⟨rfl, hb1⟩
  have b1 : Below w.heap.size w w1 := b0.trans (hb1.mono b0.size)
  have HM1 : Hid (Blk w.heap.size #[.int .i64 5, .int .i64 mid, .int .i64 born, .string fr, .slice a3 R.length c3, .string bo, .int .i64 id, .int .i64 rc, .int .i64 vk, .int .i64 vc, .string vt, .int .i64 0, .int .i64 0] w1) := HM0.out.below hb1
  clear hb1 HM0 b0
  have x0 : w1.cell? ⟨w.heap.size, 0, none⟩ = some (.int .i64 5) := HM1.out.cell 0
  have x6 : w1.cell? ⟨w.heap.size, 6, none⟩ = some (.int .i64 id) := HM1.out.cell 6
  cases hnm : noMsgB mid born fr R.length bo
  · skip
    have HF : Hid (rightR (⟨5, mid, born, fr, R, bo, id, rc, vk, vc, vt, 0, 0⟩ : Rec) = false) := by show _ = _; rw [HR0.out, hnm]; rfl
    clear HR0 hnm
    go_wp2
    go_ret
    exact ⟨⟨_, rfl, .inl ⟨HF.out, rfl⟩⟩, b1⟩
  rw [hnm] at HR0
  clear hnm
  go_wp2_with fail
  refine (specId id _).mono ?_
  rintro e w2 ⟨rfl, hw2⟩
  subst hw2
  cases hid : idN id
  · skip
    have HF : Hid (rightR (⟨5, mid, born, fr, R, bo, id, rc, vk, vc, vt, 0, 0⟩ : Rec) = false) := by show _ = _; rw [HR0.out, hid]; rfl
    clear HR0 hid
    go_wp2
    go_ret
    exact ⟨⟨_, rfl, .inl ⟨HF.out, rfl⟩⟩, b1⟩
  have HR1 : Hid (rightR (⟨5, mid, born, fr, R, bo, id, rc, vk, vc, vt, 0, 0⟩ : Rec) = (noVB vk vc vt && ((decide (0 = 0) && decide (0 = 0)) && decide (rc = 0)))) := by show _ = _; rw [HR0.out, hid]; rfl
  clear HR0
  have hidr : 1 ≤ id ∧ id ≤ 999999 := by unfold idN at hid; simp at hid; omega
  clear hid
  have x7 : w2.cell? ⟨w.heap.size, 7, none⟩ = some (.int .i64 rc) := HM1.out.cell 7
  cases nv
  · skip
    have HF : Hid (rightR (⟨5, mid, born, fr, R, bo, id, rc, vk, vc, vt, 0, 0⟩ : Rec) = false) := by show _ = _; rw [HR1.out, HNV.out]; rfl
    clear HR1
    go_wp2
    go_ret
    exact ⟨⟨_, rfl, .inl ⟨HF.out, rfl⟩⟩, b1⟩
  by_cases d1 : ¬ rc = 0
  · skip
    have HF : Hid (rightR (⟨5, mid, born, fr, R, bo, id, rc, vk, vc, vt, 0, 0⟩ : Rec) = false) := by show _ = _; rw [HR1.out]; simp [d1]
    clear HR1
    go_wp2
    go_ret
    exact ⟨⟨_, rfl, .inl ⟨HF.out, rfl⟩⟩, b1⟩
  replace d1 := Decidable.not_not.1 d1
  subst d1
  have HF : Hid (rightR (⟨5, mid, born, fr, R, bo, id, 0, vk, vc, vt, 0, 0⟩ : Rec) = true) := by show _ = _; rw [HR1.out, HNV.out]; rfl
  clear HR1
  obtain ⟨kid, rfl⟩ : ∃ k : Nat, id = (k : Int) := ⟨id.toNat, by omega⟩
  obtain ⟨A1, HA1⟩ : ∃ A, Hid (numB kid = A) := ⟨_, rfl⟩
  have sA1 := numB_size (n := kid) (by omega)
  rw [HA1.out] at sA1
  obtain ⟨B1, HB1⟩ : ∃ B, Hid ((⟨#[68]⟩ : ByteArray) ++ A1 = B) := ⟨_, rfl⟩
  have tB1 : B1.size = 1 + A1.size := by rw [← HB1.out, ByteArray.size_append, sz1]
  have gB1 : ∀ wx : World, (Op.stringOp .add (⟨#[68]⟩ : ByteArray) A1).run Tryz.prog wx = .ok (.string B1) wx := fun wx => by rw [← HB1.out]; exact run_string_add_sum wx _ _ (by rw [sz1]; omega)
  have TB : Hid (1 ≤ B1.size) := by show 1 ≤ _; omega
  have N1 : Hid (∀ wx, Calls Tryz.prog 40 #[.int .i64 (kid : Int)] wx fun e w' => e = .returned (.string A1) ∧ Below wx.heap.size wx w') := fun wx => by rw [← HA1.out]; exact specNum kid (by omega) wx
  clear sA1 tB1 HA1 HB1
  have lM : w.heap.size < w2.heap.size := HM1.out.lt
  go_upto_region 28 with fail
  clear hidr x7
  have hwr : IntKind.i64.wrap 1 = 1 := by decide
  have KZ1 : Hid (∀ w3, Below (w2.drew.alloc (.cells #[.string ⟨#[66]⟩, .string ⟨#[68]⟩, .string ⟨#[78]⟩] 9)).heap.size (w2.drew.alloc (.cells #[.string ⟨#[66]⟩, .string ⟨#[68]⟩, .string ⟨#[78]⟩] 9)) w3 → w3.cell? ⟨w2.heap.size, 1, none⟩ = some (.string ⟨#[68]⟩) ∧ Below w2.heap.size w2 w3) := fun w3 h => ⟨(h.cell (p := ⟨w2.heap.size, 1, none⟩) (by simp)).trans (World.cell?_alloc_mark w2.drew _ _ _ _), ((Below.refl w2.heap.size w2).drew.alloc (by simp) _).trans (h.mono (by simp))⟩
  have KZ2 : Hid (∀ w3, Below (w2.alloc (.cells #[.string ⟨#[66]⟩, .string ⟨#[68]⟩, .string ⟨#[78]⟩] 9)).drew.heap.size (w2.alloc (.cells #[.string ⟨#[66]⟩, .string ⟨#[68]⟩, .string ⟨#[78]⟩] 9)).drew w3 → w3.cell? ⟨w2.heap.size, 1, none⟩ = some (.string ⟨#[68]⟩) ∧ Below w2.heap.size w2 w3) := fun w3 h => ⟨(h.cell (p := ⟨w2.heap.size, 1, none⟩) (by simp)).trans (World.cell?_alloc_mark w2 _ _ _ _), ((Below.refl w2.heap.size w2).alloc (Nat.le_refl _) _).drew.trans (h.mono (by simp))⟩
  have KZ3 : Hid (∀ w3, Below w2.drew.heap.size w2.drew w3 → w3 = w3 ∧ Below w2.heap.size w2 w3) := fun w3 h => ⟨rfl, (Below.refl w2.heap.size w2).drew.trans h⟩
  go_region_law (first | (go_simp; go_at_call 40; refine (N1.out _).mono ?_; rintro e w3 ⟨rfl, hb3⟩; (first | (guard_hyp hb3 : Below w2.drew.heap.size w2.drew w3; obtain ⟨kz, hb4⟩ := KZ3.out _ hb3) | (guard_hyp hb3 : Below (w2.alloc (.cells #[.string ⟨#[66]⟩, .string ⟨#[68]⟩, .string ⟨#[78]⟩] 9)).drew.heap.size (w2.alloc (.cells #[.string ⟨#[66]⟩, .string ⟨#[68]⟩, .string ⟨#[78]⟩] 9)).drew w3; obtain ⟨kz, hb4⟩ := KZ2.out _ hb3) | (obtain ⟨kz, hb4⟩ := KZ1.out _ hb3)); have HB3 : Hid (Below w2.heap.size w2 w3) := hb4; have k0 := (HB3.out.cell (p := ⟨w.heap.size, 0, none⟩) lM).trans x0; have k6 := (HB3.out.cell (p := ⟨w.heap.size, 6, none⟩) lM).trans x6; have l3 : w.heap.size < w3.heap.size := Nat.lt_of_lt_of_le lM HB3.out.size; clear hb3 hb4))
  all_goals
    go_wp2
    go_ret
    exact ⟨⟨_, rfl, .inr ⟨HF.out, TB.out⟩⟩, b1.trans (by first | exact HB3.out.mono b1.size | exact (HB3.out.trans ((below1 _ _).mono HB3.out.size)).mono b1.size)⟩
end Go.Proofs.YtlolnfpfipnfeaaGreat
