import Derived.Test.YtlolnfpfipnfeaaGreatMg37
import Derived.Deep.RegionLaw
import Derived.Deep.RegionWith
import Derived.Deep.DrawnRows
import Derived.Test.YtlolnfpfipnfeaaGreatMg20
import Derived.Test.YtlolnfpfipnfeaaGreatMg35
import Derived.Test.YtlolnfpfipnfeaaGreatMg36
import Derived.Test.YtlolnfpfipnfeaaGreatMg38
namespace Go.Proofs.YtlolnfpfipnfeaaGreat
open Go.ChangeShapes Go.WideShapes Go.ChangeAt Go.RowKit
attribute [local go_sem ↓] Go.wp_at_zero Go.wp_at_succ

set_option maxHeartbeats 8000000 in
set_option maxRecDepth 100000 in
theorem specPack6 (mid born : Int) (fr : ByteArray) (R : List ByteArray) (bo : ByteArray) (id rc vk vc : Int) (vt : ByteArray) (tr due : Int) (v : Value) (w : World) (h : ArgS w v R) :
    Calls Tryz.prog 19 #[.agg #[.int .i64 6, .int .i64 mid, .int .i64 born, .string fr, v, .string bo, .int .i64 id, .int .i64 rc, .int .i64 vk, .int .i64 vc, .string vt, .int .i64 tr, .int .i64 due]] w fun e w' => (∃ s : ByteArray, e = .returned (.string s) ∧ ((rightR (⟨6, mid, born, fr, R, bo, id, rc, vk, vc, vt, tr, due⟩ : Rec) = false ∧ s = ⟨#[]⟩) ∨ (rightR (⟨6, mid, born, fr, R, bo, id, rc, vk, vc, vt, tr, due⟩ : Rec) = true ∧ 1 ≤ s.size))) ∧ Below w.heap.size w w' := by
  obtain ⟨a3, c3, rfl⟩ := args_formM h
  clear h
  have hV := vd_eql0 vk vc vt
  obtain ⟨nv, HNV⟩ : ∃ nv, Hid (noVB vk vc vt = nv) := ⟨_, rfl⟩
  rw [HNV.out] at hV
  by_cases ct : ¬ tr = 0
  · skip
    have HR0 : Hid (rightR (⟨6, mid, born, fr, R, bo, id, rc, vk, vc, vt, tr, due⟩ : Rec) = (noMsgB mid born fr R.length bo && ((decide (1 ≤ id) && decide (id ≤ 1000000)) && (noVB vk vc vt && ((decide (tr = 0) && decide (due = 0)) && decide (rc = 0)))))) := right6 _ _ _ _ _ _ _ _ _ _ _ _
    go_enter Tryz.func19, Tryz.ntmps19
    go_wp2_with fail
    generalize hW : World.alloc _ _ = W0
    have HM0 : Hid (Blk w.heap.size #[.int .i64 6, .int .i64 mid, .int .i64 born, .string fr, .slice a3 R.length c3, .string bo, .int .i64 id, .int .i64 rc, .int .i64 vk, .int .i64 vc, .string vt, .int .i64 tr, .int .i64 due] W0) := by show Blk _ _ _; rw [← hW]; exact Blk.new w _ _
    have b0 : Below w.heap.size w W0 := by rw [← hW]; exact below1 _ _
    clear hW
    refine (specNoMsg mid born fr bo a3 R.length c3 _).mono ?_
    rintro e w1 ⟨rfl, hb1⟩
    have b1 : Below w.heap.size w w1 := b0.trans (hb1.mono b0.size)
    have HM1 : Hid (Blk w.heap.size #[.int .i64 6, .int .i64 mid, .int .i64 born, .string fr, .slice a3 R.length c3, .string bo, .int .i64 id, .int .i64 rc, .int .i64 vk, .int .i64 vc, .string vt, .int .i64 tr, .int .i64 due] w1) := HM0.out.below hb1
    clear hb1 HM0 b0
    have x0 : w1.cell? ⟨w.heap.size, 0, none⟩ = some (.int .i64 6) := HM1.out.cell 0
    have x6 : w1.cell? ⟨w.heap.size, 6, none⟩ = some (.int .i64 id) := HM1.out.cell 6
    cases hnm : noMsgB mid born fr R.length bo
    · skip
      have HF : Hid (rightR (⟨6, mid, born, fr, R, bo, id, rc, vk, vc, vt, tr, due⟩ : Rec) = false) := by show _ = _; rw [HR0.out, hnm]; rfl
      clear HR0 hnm
      go_wp2
      go_ret
      exact ⟨⟨_, rfl, .inl ⟨HF.out, rfl⟩⟩, b1⟩
    rw [hnm] at HR0
    clear hnm
    go_wp2_with fail
    refine (specId id _).mono ?_
    rintro e w2 ⟨rfl, hw2⟩
    subst hw2
    have HR1 : Hid (1 ≤ id → id ≤ 1000000 → rightR (⟨6, mid, born, fr, R, bo, id, rc, vk, vc, vt, tr, due⟩ : Rec) = (noVB vk vc vt && ((decide (tr = 0) && decide (due = 0)) && decide (rc = 0)))) := fun h1 h2 => by rw [HR0.out, decide_eq_true h1, decide_eq_true h2]; rfl
    have HR2 : Hid (¬ (1 ≤ id ∧ id ≤ 1000000) → rightR (⟨6, mid, born, fr, R, bo, id, rc, vk, vc, vt, tr, due⟩ : Rec) = false) := fun h => by rw [HR0.out]; simp; omega
    clear HR0
    have HI : Hid (idN id = decide (1 ≤ id ∧ id ≤ 999999)) := by show _ = _; unfold idN; rw [Bool.eq_iff_iff]; simp
    by_cases dm : id = 1000000
    · have hi0 : idN id = false := by rw [HI.out]; simp; omega
      rw [hi0]
      have HR1a := HR1.out (by omega) (by omega)
      clear HR1 HR2 HI hi0
      have HR1 : Hid (rightR (⟨6, mid, born, fr, R, bo, id, rc, vk, vc, vt, tr, due⟩ : Rec) = (noVB vk vc vt && ((decide (tr = 0) && decide (due = 0)) && decide (rc = 0)))) := HR1a
      clear HR1a
      have hidr : 1 ≤ id ∧ id ≤ 1000000 := by omega
      have dm2 : (id == 1000000) = true := beq_iff_eq.2 dm
      clear dm
      have HF : Hid (rightR (⟨6, mid, born, fr, R, bo, id, rc, vk, vc, vt, tr, due⟩ : Rec) = false) := by show _ = _; rw [HR1.out]; simp [*]
      clear HR1
      have x7 : w2.cell? ⟨w.heap.size, 7, none⟩ = some (.int .i64 rc) := HM1.out.cell 7
      go_wp2
      all_goals
        go_ret
        exact ⟨⟨_, rfl, .inl ⟨HF.out, rfl⟩⟩, b1⟩
    have dm2 : (id == 1000000) = false := beq_eq_false_iff_ne.2 dm
    cases hid : idN id
    · rw [HI.out] at hid
      have HF : Hid (rightR (⟨6, mid, born, fr, R, bo, id, rc, vk, vc, vt, tr, due⟩ : Rec) = false) := HR2.out (by simp at hid; omega)
      clear HR1 HR2 HI hid dm
      go_wp2
      go_ret
      exact ⟨⟨_, rfl, .inl ⟨HF.out, rfl⟩⟩, b1⟩
    have hidr : 1 ≤ id ∧ id ≤ 999999 := by rw [HI.out] at hid; simpa using hid
    have HR1a := HR1.out (by omega) (by omega)
    clear HR1 HR2 HI hid dm
    have HR1 : Hid (rightR (⟨6, mid, born, fr, R, bo, id, rc, vk, vc, vt, tr, due⟩ : Rec) = (noVB vk vc vt && ((decide (tr = 0) && decide (due = 0)) && decide (rc = 0)))) := HR1a
    clear HR1a
    have HF : Hid (rightR (⟨6, mid, born, fr, R, bo, id, rc, vk, vc, vt, tr, due⟩ : Rec) = false) := by show _ = _; rw [HR1.out]; simp [*]
    clear HR1
    have x7 : w2.cell? ⟨w.heap.size, 7, none⟩ = some (.int .i64 rc) := HM1.out.cell 7
    go_wp2
    all_goals
      go_ret
      exact ⟨⟨_, rfl, .inl ⟨HF.out, rfl⟩⟩, b1⟩
  replace ct := Decidable.not_not.1 ct
  subst ct
  by_cases cd : ¬ due = 0
  · skip
    have HR0 : Hid (rightR (⟨6, mid, born, fr, R, bo, id, rc, vk, vc, vt, 0, due⟩ : Rec) = (noMsgB mid born fr R.length bo && ((decide (1 ≤ id) && decide (id ≤ 1000000)) && (noVB vk vc vt && ((decide (0 = 0) && decide (due = 0)) && decide (rc = 0)))))) := right6 _ _ _ _ _ _ _ _ _ _ _ _
    go_enter Tryz.func19, Tryz.ntmps19
    go_wp2_with fail
    generalize hW : World.alloc _ _ = W0
    have HM0 : Hid (Blk w.heap.size #[.int .i64 6, .int .i64 mid, .int .i64 born, .string fr, .slice a3 R.length c3, .string bo, .int .i64 id, .int .i64 rc, .int .i64 vk, .int .i64 vc, .string vt, .int .i64 0, .int .i64 due] W0) := by show Blk _ _ _; rw [← hW]; exact Blk.new w _ _
    have b0 : Below w.heap.size w W0 := by rw [← hW]; exact below1 _ _
    clear hW
    refine (specNoMsg mid born fr bo a3 R.length c3 _).mono ?_
    rintro e w1 ⟨rfl, hb1⟩
    have b1 : Below w.heap.size w w1 := b0.trans (hb1.mono b0.size)
    have HM1 : Hid (Blk w.heap.size #[.int .i64 6, .int .i64 mid, .int .i64 born, .string fr, .slice a3 R.length c3, .string bo, .int .i64 id, .int .i64 rc, .int .i64 vk, .int .i64 vc, .string vt, .int .i64 0, .int .i64 due] w1) := HM0.out.below hb1
    clear hb1 HM0 b0
    have x0 : w1.cell? ⟨w.heap.size, 0, none⟩ = some (.int .i64 6) := HM1.out.cell 0
    have x6 : w1.cell? ⟨w.heap.size, 6, none⟩ = some (.int .i64 id) := HM1.out.cell 6
    cases hnm : noMsgB mid born fr R.length bo
    · skip
      have HF : Hid (rightR (⟨6, mid, born, fr, R, bo, id, rc, vk, vc, vt, 0, due⟩ : Rec) = false) := by show _ = _; rw [HR0.out, hnm]; rfl
      clear HR0 hnm
      go_wp2
      go_ret
      exact ⟨⟨_, rfl, .inl ⟨HF.out, rfl⟩⟩, b1⟩
    rw [hnm] at HR0
    clear hnm
    go_wp2_with fail
    refine (specId id _).mono ?_
    rintro e w2 ⟨rfl, hw2⟩
    subst hw2
    have HR1 : Hid (1 ≤ id → id ≤ 1000000 → rightR (⟨6, mid, born, fr, R, bo, id, rc, vk, vc, vt, 0, due⟩ : Rec) = (noVB vk vc vt && ((decide (0 = 0) && decide (due = 0)) && decide (rc = 0)))) := fun h1 h2 => by rw [HR0.out, decide_eq_true h1, decide_eq_true h2]; rfl
    have HR2 : Hid (¬ (1 ≤ id ∧ id ≤ 1000000) → rightR (⟨6, mid, born, fr, R, bo, id, rc, vk, vc, vt, 0, due⟩ : Rec) = false) := fun h => by rw [HR0.out]; simp; omega
    clear HR0
    have HI : Hid (idN id = decide (1 ≤ id ∧ id ≤ 999999)) := by show _ = _; unfold idN; rw [Bool.eq_iff_iff]; simp
    by_cases dm : id = 1000000
    · have hi0 : idN id = false := by rw [HI.out]; simp; omega
      rw [hi0]
      have HR1a := HR1.out (by omega) (by omega)
      clear HR1 HR2 HI hi0
      have HR1 : Hid (rightR (⟨6, mid, born, fr, R, bo, id, rc, vk, vc, vt, 0, due⟩ : Rec) = (noVB vk vc vt && ((decide (0 = 0) && decide (due = 0)) && decide (rc = 0)))) := HR1a
      clear HR1a
      have hidr : 1 ≤ id ∧ id ≤ 1000000 := by omega
      have dm2 : (id == 1000000) = true := beq_iff_eq.2 dm
      clear dm
      have HF : Hid (rightR (⟨6, mid, born, fr, R, bo, id, rc, vk, vc, vt, 0, due⟩ : Rec) = false) := by show _ = _; rw [HR1.out]; simp [*]
      clear HR1
      have x7 : w2.cell? ⟨w.heap.size, 7, none⟩ = some (.int .i64 rc) := HM1.out.cell 7
      go_wp2
      all_goals
        go_ret
        exact ⟨⟨_, rfl, .inl ⟨HF.out, rfl⟩⟩, b1⟩
    have dm2 : (id == 1000000) = false := beq_eq_false_iff_ne.2 dm
    cases hid : idN id
    · rw [HI.out] at hid
      have HF : Hid (rightR (⟨6, mid, born, fr, R, bo, id, rc, vk, vc, vt, 0, due⟩ : Rec) = false) := HR2.out (by simp at hid; omega)
      clear HR1 HR2 HI hid dm
      go_wp2
      go_ret
      exact ⟨⟨_, rfl, .inl ⟨HF.out, rfl⟩⟩, b1⟩
    have hidr : 1 ≤ id ∧ id ≤ 999999 := by rw [HI.out] at hid; simpa using hid
    have HR1a := HR1.out (by omega) (by omega)
    clear HR1 HR2 HI hid dm
    have HR1 : Hid (rightR (⟨6, mid, born, fr, R, bo, id, rc, vk, vc, vt, 0, due⟩ : Rec) = (noVB vk vc vt && ((decide (0 = 0) && decide (due = 0)) && decide (rc = 0)))) := HR1a
    clear HR1a
    have HF : Hid (rightR (⟨6, mid, born, fr, R, bo, id, rc, vk, vc, vt, 0, due⟩ : Rec) = false) := by show _ = _; rw [HR1.out]; simp [*]
    clear HR1
    have x7 : w2.cell? ⟨w.heap.size, 7, none⟩ = some (.int .i64 rc) := HM1.out.cell 7
    go_wp2
    all_goals
      go_ret
      exact ⟨⟨_, rfl, .inl ⟨HF.out, rfl⟩⟩, b1⟩
  replace cd := Decidable.not_not.1 cd
  subst cd
  have HR0 : Hid (rightR (⟨6, mid, born, fr, R, bo, id, rc, vk, vc, vt, 0, 0⟩ : Rec) = (noMsgB mid born fr R.length bo && ((decide (1 ≤ id) && decide (id ≤ 1000000)) && (noVB vk vc vt && ((decide (0 = 0) && decide (0 = 0)) && decide (rc = 0)))))) := right6 _ _ _ _ _ _ _ _ _ _ _ _
  go_enter Tryz.func19, Tryz.ntmps19
  go_wp2_with fail
  generalize hW : World.alloc _ _ = W0
  have HM0 : Hid (Blk w.heap.size #[.int .i64 6, .int .i64 mid, .int .i64 born, .string fr, .slice a3 R.length c3, .string bo, .int .i64 id, .int .i64 rc, .int .i64 vk, .int .i64 vc, .string vt, .int .i64 0, .int .i64 0] W0) := by show Blk _ _ _; rw [← hW]; exact Blk.new w _ _
  have b0 : Below w.heap.size w W0 := by rw [← hW]; exact below1 _ _
  clear hW
  refine (specNoMsg mid born fr bo a3 R.length c3 _).mono ?_
  rintro e w1 ⟨rfl, hb1⟩
  have b1 : Below w.heap.size w w1 := b0.trans (hb1.mono b0.size)
  have HM1 : Hid (Blk w.heap.size #[.int .i64 6, .int .i64 mid, .int .i64 born, .string fr, .slice a3 R.length c3, .string bo, .int .i64 id, .int .i64 rc, .int .i64 vk, .int .i64 vc, .string vt, .int .i64 0, .int .i64 0] w1) := HM0.out.below hb1
  clear hb1 HM0 b0
  have x0 : w1.cell? ⟨w.heap.size, 0, none⟩ = some (.int .i64 6) := HM1.out.cell 0
  have x6 : w1.cell? ⟨w.heap.size, 6, none⟩ = some (.int .i64 id) := HM1.out.cell 6
  cases hnm : noMsgB mid born fr R.length bo
  · skip
    have HF : Hid (rightR (⟨6, mid, born, fr, R, bo, id, rc, vk, vc, vt, 0, 0⟩ : Rec) = false) := by show _ = _; rw [HR0.out, hnm]; rfl
    clear HR0 hnm
    go_wp2
    go_ret
    exact ⟨⟨_, rfl, .inl ⟨HF.out, rfl⟩⟩, b1⟩
  rw [hnm] at HR0
  clear hnm
  go_wp2_with fail
  refine (specId id _).mono ?_
  rintro e w2 ⟨rfl, hw2⟩
  subst hw2
  have HR1 : Hid (1 ≤ id → id ≤ 1000000 → rightR (⟨6, mid, born, fr, R, bo, id, rc, vk, vc, vt, 0, 0⟩ : Rec) = (noVB vk vc vt && ((decide (0 = 0) && decide (0 = 0)) && decide (rc = 0)))) := fun h1 h2 => by rw [HR0.out, decide_eq_true h1, decide_eq_true h2]; rfl
  have HR2 : Hid (¬ (1 ≤ id ∧ id ≤ 1000000) → rightR (⟨6, mid, born, fr, R, bo, id, rc, vk, vc, vt, 0, 0⟩ : Rec) = false) := fun h => by rw [HR0.out]; simp; omega
  clear HR0
  have HI : Hid (idN id = decide (1 ≤ id ∧ id ≤ 999999)) := by show _ = _; unfold idN; rw [Bool.eq_iff_iff]; simp
  by_cases dm : id = 1000000
  · have hi0 : idN id = false := by rw [HI.out]; simp; omega
    rw [hi0]
    have HR1a := HR1.out (by omega) (by omega)
    clear HR1 HR2 HI hi0
    have HR1 : Hid (rightR (⟨6, mid, born, fr, R, bo, id, rc, vk, vc, vt, 0, 0⟩ : Rec) = (noVB vk vc vt && ((decide (0 = 0) && decide (0 = 0)) && decide (rc = 0)))) := HR1a
    clear HR1a
    have hidr : 1 ≤ id ∧ id ≤ 1000000 := by omega
    have dm2 : (id == 1000000) = true := beq_iff_eq.2 dm
    clear dm
    have x7 : w2.cell? ⟨w.heap.size, 7, none⟩ = some (.int .i64 rc) := HM1.out.cell 7
    cases nv
    · skip
      have HF : Hid (rightR (⟨6, mid, born, fr, R, bo, id, rc, vk, vc, vt, 0, 0⟩ : Rec) = false) := by show _ = _; rw [HR1.out, HNV.out]; rfl
      clear HR1
      go_wp2
      go_ret
      exact ⟨⟨_, rfl, .inl ⟨HF.out, rfl⟩⟩, b1⟩
    by_cases d1 : ¬ rc = 0
    · skip
      have HF : Hid (rightR (⟨6, mid, born, fr, R, bo, id, rc, vk, vc, vt, 0, 0⟩ : Rec) = false) := by show _ = _; rw [HR1.out]; simp [d1]
      clear HR1
      go_wp2
      go_ret
      exact ⟨⟨_, rfl, .inl ⟨HF.out, rfl⟩⟩, b1⟩
    replace d1 := Decidable.not_not.1 d1
    subst d1
    have HF : Hid (rightR (⟨6, mid, born, fr, R, bo, id, 0, vk, vc, vt, 0, 0⟩ : Rec) = true) := by show _ = _; rw [HR1.out, HNV.out]; rfl
    clear HR1
    obtain ⟨kid, rfl⟩ : ∃ k : Nat, id = (k : Int) := ⟨id.toNat, by omega⟩
    obtain ⟨A1, HA1⟩ : ∃ A, Hid (numB kid = A) := ⟨_, rfl⟩
    have sA1 := numB_size (n := kid) (by omega)
    rw [HA1.out] at sA1
    obtain ⟨B1, HB1⟩ : ∃ B, Hid ((⟨#[78]⟩ : ByteArray) ++ A1 = B) := ⟨_, rfl⟩
    have tB1 : B1.size = 1 + A1.size := by rw [← HB1.out, ByteArray.size_append, sz1]
    have gB1 : ∀ wx : World, (Op.stringOp .add (⟨#[78]⟩ : ByteArray) A1).run Tryz.prog wx = .ok (.string B1) wx := fun wx => by rw [← HB1.out]; exact run_string_add_sum wx _ _ (by rw [sz1]; omega)
    have TB : Hid (1 ≤ B1.size) := by show 1 ≤ _; omega
    have N1 : Hid (∀ wx, Calls Tryz.prog 40 #[.int .i64 (kid : Int)] wx fun e w' => e = .returned (.string A1) ∧ Below wx.heap.size wx w') := fun wx => by rw [← HA1.out]; exact specNum kid (by omega) wx
    clear sA1 tB1 HA1 HB1
    have lM : w.heap.size < w2.heap.size := HM1.out.lt
    go_upto_region 28 with fail
    clear hidr x7
    have hwr : IntKind.i64.wrap 2 = 2 := by decide
    have KZ1 : Hid (∀ w3, Below (w2.drew.alloc (.cells #[.string ⟨#[66]⟩, .string ⟨#[68]⟩, .string ⟨#[78]⟩] 9)).heap.size (w2.drew.alloc (.cells #[.string ⟨#[66]⟩, .string ⟨#[68]⟩, .string ⟨#[78]⟩] 9)) w3 → w3.cell? ⟨w2.heap.size, 2, none⟩ = some (.string ⟨#[78]⟩) ∧ Below w2.heap.size w2 w3) := fun w3 h => ⟨(h.cell (p := ⟨w2.heap.size, 2, none⟩) (by simp)).trans (World.cell?_alloc_mark w2.drew _ _ _ _), ((Below.refl w2.heap.size w2).drew.alloc (by simp) _).trans (h.mono (by simp))⟩
    have KZ2 : Hid (∀ w3, Below (w2.alloc (.cells #[.string ⟨#[66]⟩, .string ⟨#[68]⟩, .string ⟨#[78]⟩] 9)).drew.heap.size (w2.alloc (.cells #[.string ⟨#[66]⟩, .string ⟨#[68]⟩, .string ⟨#[78]⟩] 9)).drew w3 → w3.cell? ⟨w2.heap.size, 2, none⟩ = some (.string ⟨#[78]⟩) ∧ Below w2.heap.size w2 w3) := fun w3 h => ⟨(h.cell (p := ⟨w2.heap.size, 2, none⟩) (by simp)).trans (World.cell?_alloc_mark w2 _ _ _ _), ((Below.refl w2.heap.size w2).alloc (Nat.le_refl _) _).drew.trans (h.mono (by simp))⟩
    have KZ3 : Hid (∀ w3, Below w2.drew.heap.size w2.drew w3 → w3 = w3 ∧ Below w2.heap.size w2 w3) := fun w3 h => ⟨rfl, (Below.refl w2.heap.size w2).drew.trans h⟩
    go_region_law (first | (go_simp; go_at_call 40; refine (N1.out _).mono ?_; rintro e w3 ⟨rfl, hb3⟩; (first | (guard_hyp hb3 : Below w2.drew.heap.size w2.drew w3; obtain ⟨kz, hb4⟩ := KZ3.out _ hb3) | (guard_hyp hb3 : Below (w2.alloc (.cells #[.string ⟨#[66]⟩, .string ⟨#[68]⟩, .string ⟨#[78]⟩] 9)).drew.heap.size (w2.alloc (.cells #[.string ⟨#[66]⟩, .string ⟨#[68]⟩, .string ⟨#[78]⟩] 9)).drew w3; obtain ⟨kz, hb4⟩ := KZ2.out _ hb3) | (obtain ⟨kz, hb4⟩ := KZ1.out _ hb3)); have HB3 : Hid (Below w2.heap.size w2 w3) := hb4; have k0 := (HB3.out.cell (p := ⟨w.heap.size, 0, none⟩) lM).trans x0; have k6 := (HB3.out.cell (p := ⟨w.heap.size, 6, none⟩) lM).trans x6; have l3 : w.heap.size < w3.heap.size := Nat.lt_of_lt_of_le lM HB3.out.size; clear hb3 hb4))
    all_goals
      go_wp2
      go_ret
      exact ⟨⟨_, rfl, .inr ⟨HF.out, TB.out⟩⟩, b1.trans (by first | exact HB3.out.mono b1.size | exact (HB3.out.trans ((below1 _ _).mono HB3.out.size)).mono b1.size)⟩
  have dm2 : (id == 1000000) = false := beq_eq_false_iff_ne.2 dm
  cases hid : idN id
  · rw [HI.out] at hid
    have HF : Hid (rightR (⟨6, mid, born, fr, R, bo, id, rc, vk, vc, vt, 0, 0⟩ : Rec) = false) := HR2.out (by simp at hid; omega)
    clear HR1 HR2 HI hid dm
    go_wp2
    go_ret
    exact ⟨⟨_, rfl, .inl ⟨HF.out, rfl⟩⟩, b1⟩
  have hidr : 1 ≤ id ∧ id ≤ 999999 := by rw [HI.out] at hid; simpa using hid
  have HR1a := HR1.out (by omega) (by omega)
  clear HR1 HR2 HI hid dm
  have HR1 : Hid (rightR (⟨6, mid, born, fr, R, bo, id, rc, vk, vc, vt, 0, 0⟩ : Rec) = (noVB vk vc vt && ((decide (0 = 0) && decide (0 = 0)) && decide (rc = 0)))) := HR1a
  clear HR1a
  have x7 : w2.cell? ⟨w.heap.size, 7, none⟩ = some (.int .i64 rc) := HM1.out.cell 7
  cases nv
  · skip
    have HF : Hid (rightR (⟨6, mid, born, fr, R, bo, id, rc, vk, vc, vt, 0, 0⟩ : Rec) = false) := by show _ = _; rw [HR1.out, HNV.out]; rfl
    clear HR1
    go_wp2
    go_ret
    exact ⟨⟨_, rfl, .inl ⟨HF.out, rfl⟩⟩, b1⟩
  by_cases d1 : ¬ rc = 0
  · skip
    have HF : Hid (rightR (⟨6, mid, born, fr, R, bo, id, rc, vk, vc, vt, 0, 0⟩ : Rec) = false) := by show _ = _; rw [HR1.out]; simp [d1]
    clear HR1
    go_wp2
    go_ret
    exact ⟨⟨_, rfl, .inl ⟨HF.out, rfl⟩⟩, b1⟩
  replace d1 := Decidable.not_not.1 d1
  subst d1
  have HF : Hid (rightR (⟨6, mid, born, fr, R, bo, id, 0, vk, vc, vt, 0, 0⟩ : Rec) = true) := by show _ = _; rw [HR1.out, HNV.out]; rfl
  clear HR1
  obtain ⟨kid, rfl⟩ : ∃ k : Nat, id = (k : Int) := ⟨id.toNat, by omega⟩
  obtain ⟨A1, HA1⟩ : ∃ A, Hid (numB kid = A) := ⟨_, rfl⟩
  have sA1 := numB_size (n := kid) (by omega)
  rw [HA1.out] at sA1
  obtain ⟨B1, HB1⟩ : ∃ B, Hid ((⟨#[78]⟩ : ByteArray) ++ A1 = B) := ⟨_, rfl⟩
  have tB1 : B1.size = 1 + A1.size := by rw [← HB1.out, ByteArray.size_append, sz1]
  have gB1 : ∀ wx : World, (Op.stringOp .add (⟨#[78]⟩ : ByteArray) A1).run Tryz.prog wx = .ok (.string B1) wx := fun wx => by rw [← HB1.out]; exact run_string_add_sum wx _ _ (by rw [sz1]; omega)
  have TB : Hid (1 ≤ B1.size) := by show 1 ≤ _; omega
  have N1 : Hid (∀ wx, Calls Tryz.prog 40 #[.int .i64 (kid : Int)] wx fun e w' => e = .returned (.string A1) ∧ Below wx.heap.size wx w') := fun wx => by rw [← HA1.out]; exact specNum kid (by omega) wx
  clear sA1 tB1 HA1 HB1
  have lM : w.heap.size < w2.heap.size := HM1.out.lt
  go_upto_region 28 with fail
  clear hidr x7
  have hwr : IntKind.i64.wrap 2 = 2 := by decide
  have KZ1 : Hid (∀ w3, Below (w2.drew.alloc (.cells #[.string ⟨#[66]⟩, .string ⟨#[68]⟩, .string ⟨#[78]⟩] 9)).heap.size (w2.drew.alloc (.cells #[.string ⟨#[66]⟩, .string ⟨#[68]⟩, .string ⟨#[78]⟩] 9)) w3 → w3.cell? ⟨w2.heap.size, 2, none⟩ = some (.string ⟨#[78]⟩) ∧ Below w2.heap.size w2 w3) := fun w3 h => ⟨(h.cell (p := ⟨w2.heap.size, 2, none⟩) (by simp)).trans (World.cell?_alloc_mark w2.drew _ _ _ _), ((Below.refl w2.heap.size w2).drew.alloc (by simp) _).trans (h.mono (by simp))⟩
  have KZ2 : Hid (∀ w3, Below (w2.alloc (.cells #[.string ⟨#[66]⟩, .string ⟨#[68]⟩, .string ⟨#[78]⟩] 9)).drew.heap.size (w2.alloc (.cells #[.string ⟨#[66]⟩, .string ⟨#[68]⟩, .string ⟨#[78]⟩] 9)).drew w3 → w3.cell? ⟨w2.heap.size, 2, none⟩ = some (.string ⟨#[78]⟩) ∧ Below w2.heap.size w2 w3) := fun w3 h => ⟨(h.cell (p := ⟨w2.heap.size, 2, none⟩) (by simp)).trans (World.cell?_alloc_mark w2 _ _ _ _), ((Below.refl w2.heap.size w2).alloc (Nat.le_refl _) _).drew.trans (h.mono (by simp))⟩
  have KZ3 : Hid (∀ w3, Below w2.drew.heap.size w2.drew w3 → w3 = w3 ∧ Below w2.heap.size w2 w3) := fun w3 h => ⟨rfl, (Below.refl w2.heap.size w2).drew.trans h⟩
  go_region_law (first | (go_simp; go_at_call 40; refine (N1.out _).mono ?_; rintro e w3 ⟨rfl, hb3⟩; (first | (guard_hyp hb3 : Below w2.drew.heap.size w2.drew w3; obtain ⟨kz, hb4⟩ := KZ3.out _ hb3) | (guard_hyp hb3 : Below (w2.alloc (.cells #[.string ⟨#[66]⟩, .string ⟨#[68]⟩, .string ⟨#[78]⟩] 9)).drew.heap.size (w2.alloc (.cells #[.string ⟨#[66]⟩, .string ⟨#[68]⟩, .string ⟨#[78]⟩] 9)).drew w3; obtain ⟨kz, hb4⟩ := KZ2.out _ hb3) | (obtain ⟨kz, hb4⟩ := KZ1.out _ hb3)); have HB3 : Hid (Below w2.heap.size w2 w3) := hb4; have k0 := (HB3.out.cell (p := ⟨w.heap.size, 0, none⟩) lM).trans x0; have k6 := (HB3.out.cell (p := ⟨w.heap.size, 6, none⟩) lM).trans x6; have l3 : w.heap.size < w3.heap.size := Nat.lt_of_lt_of_le lM HB3.out.size; clear hb3 hb4))
  all_goals
    go_wp2
    go_ret
    exact ⟨⟨_, rfl, .inr ⟨HF.out, TB.out⟩⟩, b1.trans (by first | exact HB3.out.mono b1.size | exact (HB3.out.trans ((below1 _ _).mono HB3.out.size)).mono b1.size)⟩
end Go.Proofs.YtlolnfpfipnfeaaGreat
namespace Go.Proofs.YtlolnfpfipnfeaaGreat
open Go.ChangeShapes Go.WideShapes Go.ChangeAt Go.RowKit

/-- what Apply leaves of a queue and a record -/
def ApPost (L : List It) (nx : Int) (r : Rec) (w : World) (e : Ending) (w' : World) : Prop :=
  (∃ u P', e = .returned (.tuple #[.agg #[u, .int .i64 (applyN L nx r).2.1], .bool (applyN L nx r).2.2]) ∧ ItsP w' w.heap.size u (applyN L nx r).1 P') ∧ Below w.heap.size w w'
theorem ap_post {L L' : List It} {nx nx' : Int} {ch : Bool} {r : Rec} {w : World} {c : Nat} {args : Array Value} (he : applyN L nx r = (L', nx', ch)) (h : Calls Tryz.prog c args w fun e w' => (∃ u P', e = .returned (.tuple #[.agg #[u, .int .i64 nx'], .bool ch]) ∧ ItsP w' w.heap.size u L' P') ∧ Below w.heap.size w w') :
    Calls Tryz.prog c args w fun e w' => ApPost L nx r w e w' := by
  unfold ApPost
  rw [he]
  exact h
theorem kind_cases (k : Int) : k = 1 ∨ k = 2 ∨ k = 3 ∨ k = 4 ∨ k = 5 ∨ k = 6 ∨ ¬ (1 ≤ k ∧ k ≤ 6) := by omega
theorem right1_facts (mid born : Int) (fr : ByteArray) (R : List ByteArray) (bo : ByteArray) (id rc vk vc : Int) (vt : ByteArray) (tr due : Int) (h : rightR (⟨1, mid, born, fr, R, bo, id, rc, vk, vc, vt, tr, due⟩ : Rec) = true) : R.length ≤ 20 ∧ 1 ≤ R.length ∧ 1 ≤ mid ∧ mid ≤ 999999 := by
  rw [right1] at h
  simp at h
  obtain ⟨_, _, _, _, hid, _, _, hw, _⟩ := h
  unfold idN at hid
  unfold whomN at hw
  simp at hid hw
  omega
theorem right2_facts (mid born : Int) (fr : ByteArray) (R : List ByteArray) (bo : ByteArray) (id rc vk vc : Int) (vt : ByteArray) (tr due : Int) (h : rightR (⟨2, mid, born, fr, R, bo, id, rc, vk, vc, vt, tr, due⟩ : Rec) = true) : 0 ≤ rc ∧ rc < 20 := by
  rw [right2] at h
  simp at h
  omega

set_option maxHeartbeats 1000000 in
theorem specApply (r : Rec) (rv : Value) (lor : Nat) (nx : Int) (v : Value) (L : List It) (P : List (Value × Value)) (lo : Nat) (w : World) (h : ItsP w lo v L P) (hL : L.length ≤ 1048576) (hs : ∀ x ∈ L, SmallI x) (hR : Strs w lor rv r.R) (hsm : SmallR r) :
    Calls Tryz.prog 6 #[.agg #[v, .int .i64 nx], .agg #[.int .i64 r.kind, .int .i64 r.mid, .int .i64 r.born, .string r.fr, rv, .string r.bo, .int .i64 r.id, .int .i64 r.rc, .int .i64 r.vk, .int .i64 r.vc, .string r.vt, .int .i64 r.tr, .int .i64 r.due]] w fun e w' => ApPost L nx r w e w' := by
  obtain ⟨kind, mid, born, fr, R, bo, id, rc, vk, vc, vt, tr, due⟩ := r
  obtain ⟨m1, m2, m3, m4, m5⟩ := hsm
  dsimp only at hR m1 m2 m3 m4 m5 ⊢
  have hA : ArgS w rv R := strs_args hR (by unfold maxLen; omega) (fun s hs => by have := m5 s hs; unfold maxLen; omega)
  obtain ⟨a3, c3, rfl⟩ := row_formA hR
  rcases kind_cases kind with rfl | rfl | rfl | rfl | rfl | rfl | hk
  · cases hr : rightR (⟨1, mid, born, fr, R, bo, id, rc, vk, vc, vt, tr, due⟩ : Rec)
    · exact ap_post (ap_bad hr) (saBad 1 mid born fr bo a3 R.length c3 id rc vk vc vt tr due nx _ L P lo w h hL hs (fun wx hx => (specPackM mid born fr R bo id rc vk vc vt tr due _ wx (hA.below hx) m1 m2 m5).mono (fun e w' ⟨⟨s, h1, h2⟩, h3⟩ => ⟨⟨s, h1, h2.elim (fun q => q.2) (fun q => by rw [hr] at q; cases q.1)⟩, h3⟩)))
    · obtain ⟨f1, f2, f3, f4⟩ := right1_facts _ _ _ _ _ _ _ _ _ _ _ _ hr
      by_cases c : mid < nx
      · exact ap_post (ap_1no _ _ _ _ _ _ _ _ _ _ _ _ L nx hr (.inl c)) (sa1old mid born fr bo a3 R.length c3 id rc vk vc vt tr due nx _ L P lo w h hL hs (fun wx hx => (specPackM mid born fr R bo id rc vk vc vt tr due _ wx (hA.below hx) m1 m2 m5).mono (fun e w' ⟨⟨s, h1, h2⟩, h3⟩ => ⟨⟨s, h1, h2.elim (fun q => by rw [hr] at q; cases q.1) (fun q => q.2)⟩, h3⟩)) c)
      by_cases cf : 30 ≤ L.length
      · exact ap_post (ap_1no _ _ _ _ _ _ _ _ _ _ _ _ L nx hr (.inr cf)) (sa1full mid born fr bo a3 R.length c3 id rc vk vc vt tr due nx _ L P lo w h hL hs (fun wx hx => (specPackM mid born fr R bo id rc vk vc vt tr due _ wx (hA.below hx) m1 m2 m5).mono (fun e w' ⟨⟨s, h1, h2⟩, h3⟩ => ⟨⟨s, h1, h2.elim (fun q => by rw [hr] at q; cases q.1) (fun q => q.2)⟩, h3⟩)) c cf)
      exact ap_post (ap_1yes _ _ _ _ _ _ _ _ _ _ _ _ L nx hr (by omega)) (sa1yes mid born fr bo a3 R c3 id rc vk vc vt tr due nx _ L P lo w h hL hs (fun wx hx => (specPackM mid born fr R bo id rc vk vc vt tr due _ wx (hA.below hx) m1 m2 m5).mono (fun e w' ⟨⟨s, h1, h2⟩, h3⟩ => ⟨⟨s, h1, h2.elim (fun q => by rw [hr] at q; cases q.1) (fun q => q.2)⟩, h3⟩)) lor hR f1 c (by omega) (by omega) f4)
  · cases hr : rightR (⟨2, mid, born, fr, R, bo, id, rc, vk, vc, vt, tr, due⟩ : Rec)
    · exact ap_post (ap_bad hr) (saBad 2 mid born fr bo a3 R.length c3 id rc vk vc vt tr due nx _ L P lo w h hL hs (fun wx hx => (specPack2 mid born fr R bo id rc vk vc vt tr due _ wx (hA.below hx) m3).mono (fun e w' ⟨⟨s, h1, h2⟩, h3⟩ => ⟨⟨s, h1, h2.elim (fun q => q.2) (fun q => by rw [hr] at q; cases q.1)⟩, h3⟩)))
    · cases hf : findI id L 0 with
      | none => exact ap_post (ap_2no _ _ _ _ _ _ _ _ _ _ _ _ L nx hr hf) (sa2no mid born fr bo a3 R.length c3 id rc vk vc vt tr due nx _ L P lo w h hL hs (fun wx hx => (specPack2 mid born fr R bo id rc vk vc vt tr due _ wx (hA.below hx) m3).mono (fun e w' ⟨⟨s, h1, h2⟩, h3⟩ => ⟨⟨s, h1, h2.elim (fun q => by rw [hr] at q; cases q.1) (fun q => q.2)⟩, h3⟩)) hf)
      | some i =>
        obtain ⟨_, h2, _⟩ := findI_some hf
        have hi : i < L.length := by omega
        have hV : L[i].V.length ≤ 1048576 := (hs L[i] (List.getElem_mem _)).2.2.2.2.1
        obtain ⟨f1, f2⟩ := right2_facts _ _ _ _ _ _ _ _ _ _ _ _ hr
        by_cases c : (L[i].V.length : Int) ≤ rc
        · exact ap_post (ap_2far _ _ _ _ _ _ _ _ _ _ _ _ L nx hr i hf hi c) (sa2far mid born fr bo a3 R.length c3 id rc vk vc vt tr due nx _ L P lo w h hL hs (fun wx hx => (specPack2 mid born fr R bo id rc vk vc vt tr due _ wx (hA.below hx) m3).mono (fun e w' ⟨⟨s, h1, h2⟩, h3⟩ => ⟨⟨s, h1, h2.elim (fun q => by rw [hr] at q; cases q.1) (fun q => q.2)⟩, h3⟩)) i hf hi c)
        obtain ⟨kr, rfl⟩ : ∃ k : Nat, rc = (k : Int) := ⟨rc.toNat, by omega⟩
        have hrc : kr < L[i].V.length := by omega
        cases hp : pend (L[i].V[kr]'hrc)
        · exact ap_post (ap_2was _ _ _ _ _ _ _ _ _ _ _ _ L nx hr i hf hi hrc hp) (sa2was mid born fr bo a3 R.length c3 id kr vk vc vt tr due nx _ L P lo w h hL hs (fun wx hx => (specPack2 mid born fr R bo id (kr : Int) vk vc vt tr due _ wx (hA.below hx) m3).mono (fun e w' ⟨⟨s, h1, h2⟩, h3⟩ => ⟨⟨s, h1, h2.elim (fun q => by rw [hr] at q; cases q.1) (fun q => q.2)⟩, h3⟩)) i hf hi hrc hp)
        · exact ap_post (ap_2yes _ _ _ _ _ _ _ _ _ _ _ _ L nx hr i hf hi f1 hrc hp) (sa2yes mid born fr bo a3 R.length c3 id kr vk vc vt tr due nx _ L P lo w h hL hs (fun wx hx => (specPack2 mid born fr R bo id (kr : Int) vk vc vt tr due _ wx (hA.below hx) m3).mono (fun e w' ⟨⟨s, h1, h2⟩, h3⟩ => ⟨⟨s, h1, h2.elim (fun q => by rw [hr] at q; cases q.1) (fun q => q.2)⟩, h3⟩)) i hf hi hrc hp)
  · cases hr : rightR (⟨3, mid, born, fr, R, bo, id, rc, vk, vc, vt, tr, due⟩ : Rec)
    · exact ap_post (ap_bad hr) (saBad 3 mid born fr bo a3 R.length c3 id rc vk vc vt tr due nx _ L P lo w h hL hs (fun wx hx => (specPack3 mid born fr R bo id rc vk vc vt tr due _ wx (hA.below hx)).mono (fun e w' ⟨⟨s, h1, h2⟩, h3⟩ => ⟨⟨s, h1, h2.elim (fun q => q.2) (fun q => by rw [hr] at q; cases q.1)⟩, h3⟩)))
    · cases hf : findI id L 0 with
      | none => exact ap_post (ap_3no _ _ _ _ _ _ _ _ _ _ _ _ L nx hr hf) (sa3no mid born fr bo a3 R.length c3 id rc vk vc vt tr due nx _ L P lo w h hL hs (fun wx hx => (specPack3 mid born fr R bo id rc vk vc vt tr due _ wx (hA.below hx)).mono (fun e w' ⟨⟨s, h1, h2⟩, h3⟩ => ⟨⟨s, h1, h2.elim (fun q => by rw [hr] at q; cases q.1) (fun q => q.2)⟩, h3⟩)) hf)
      | some i =>
        obtain ⟨_, h2, _⟩ := findI_some hf
        have hi : i < L.length := by omega
        exact ap_post (ap_3yes _ _ _ _ _ _ _ _ _ _ _ _ L nx hr i hf hi) (sa3yes mid born fr bo a3 R.length c3 id rc vk vc vt tr due nx _ L P lo w h hL hs (fun wx hx => (specPack3 mid born fr R bo id rc vk vc vt tr due _ wx (hA.below hx)).mono (fun e w' ⟨⟨s, h1, h2⟩, h3⟩ => ⟨⟨s, h1, h2.elim (fun q => by rw [hr] at q; cases q.1) (fun q => q.2)⟩, h3⟩)) i hf hi)
  · cases hr : rightR (⟨4, mid, born, fr, R, bo, id, rc, vk, vc, vt, tr, due⟩ : Rec)
    · exact ap_post (ap_bad hr) (saBad 4 mid born fr bo a3 R.length c3 id rc vk vc vt tr due nx _ L P lo w h hL hs (fun wx hx => (specPack4 mid born fr R bo id rc vk vc vt tr due _ wx (hA.below hx)).mono (fun e w' ⟨⟨s, h1, h2⟩, h3⟩ => ⟨⟨s, h1, h2.elim (fun q => q.2) (fun q => by rw [hr] at q; cases q.1)⟩, h3⟩)))
    · cases hf : findI id L 0 with
      | none => exact ap_post (ap_4no _ _ _ _ _ _ _ _ _ _ _ _ L nx hr hf) (sa4no mid born fr bo a3 R.length c3 id rc vk vc vt tr due nx _ L P lo w h hL hs (fun wx hx => (specPack4 mid born fr R bo id rc vk vc vt tr due _ wx (hA.below hx)).mono (fun e w' ⟨⟨s, h1, h2⟩, h3⟩ => ⟨⟨s, h1, h2.elim (fun q => by rw [hr] at q; cases q.1) (fun q => q.2)⟩, h3⟩)) hf)
      | some i =>
        obtain ⟨_, h2, _⟩ := findI_some hf
        have hi : i < L.length := by omega
        cases hb : L[i].bn
        · exact ap_post (ap_4yes _ _ _ _ _ _ _ _ _ _ _ _ L nx hr i hf hi hb) (sa4yes mid born fr bo a3 R.length c3 id rc vk vc vt tr due nx _ L P lo w h hL hs (fun wx hx => (specPack4 mid born fr R bo id rc vk vc vt tr due _ wx (hA.below hx)).mono (fun e w' ⟨⟨s, h1, h2⟩, h3⟩ => ⟨⟨s, h1, h2.elim (fun q => by rw [hr] at q; cases q.1) (fun q => q.2)⟩, h3⟩)) i hf hi hb)
        · exact ap_post (ap_4was _ _ _ _ _ _ _ _ _ _ _ _ L nx hr i hf hi hb) (sa4was mid born fr bo a3 R.length c3 id rc vk vc vt tr due nx _ L P lo w h hL hs (fun wx hx => (specPack4 mid born fr R bo id rc vk vc vt tr due _ wx (hA.below hx)).mono (fun e w' ⟨⟨s, h1, h2⟩, h3⟩ => ⟨⟨s, h1, h2.elim (fun q => by rw [hr] at q; cases q.1) (fun q => q.2)⟩, h3⟩)) i hf hi hb)
  · cases hr : rightR (⟨5, mid, born, fr, R, bo, id, rc, vk, vc, vt, tr, due⟩ : Rec)
    · exact ap_post (ap_bad hr) (saBad 5 mid born fr bo a3 R.length c3 id rc vk vc vt tr due nx _ L P lo w h hL hs (fun wx hx => (specPack5 mid born fr R bo id rc vk vc vt tr due _ wx (hA.below hx)).mono (fun e w' ⟨⟨s, h1, h2⟩, h3⟩ => ⟨⟨s, h1, h2.elim (fun q => q.2) (fun q => by rw [hr] at q; cases q.1)⟩, h3⟩)))
    · cases hf : findI id L 0 with
      | none => exact ap_post (ap_5no _ _ _ _ _ _ _ _ _ _ _ _ L nx hr hf) (sa5no mid born fr bo a3 R.length c3 id rc vk vc vt tr due nx _ L P lo w h hL hs (fun wx hx => (specPack5 mid born fr R bo id rc vk vc vt tr due _ wx (hA.below hx)).mono (fun e w' ⟨⟨s, h1, h2⟩, h3⟩ => ⟨⟨s, h1, h2.elim (fun q => by rw [hr] at q; cases q.1) (fun q => q.2)⟩, h3⟩)) hf)
      | some i =>
        obtain ⟨_, h2, _⟩ := findI_some hf
        have hi : i < L.length := by omega
        have hV : L[i].V.length ≤ 1048576 := (hs L[i] (List.getElem_mem _)).2.2.2.2.1
        cases ha : L[i].V.any pend
        · exact ap_post (ap_5yes _ _ _ _ _ _ _ _ _ _ _ _ L nx hr i hf hi ha) (sa5yes mid born fr bo a3 R.length c3 id rc vk vc vt tr due nx _ L P lo w h hL hs (fun wx hx => (specPack5 mid born fr R bo id rc vk vc vt tr due _ wx (hA.below hx)).mono (fun e w' ⟨⟨s, h1, h2⟩, h3⟩ => ⟨⟨s, h1, h2.elim (fun q => by rw [hr] at q; cases q.1) (fun q => q.2)⟩, h3⟩)) i hf hi hV ha)
        · exact ap_post (ap_5was _ _ _ _ _ _ _ _ _ _ _ _ L nx hr i hf hi ha) (sa5was mid born fr bo a3 R.length c3 id rc vk vc vt tr due nx _ L P lo w h hL hs (fun wx hx => (specPack5 mid born fr R bo id rc vk vc vt tr due _ wx (hA.below hx)).mono (fun e w' ⟨⟨s, h1, h2⟩, h3⟩ => ⟨⟨s, h1, h2.elim (fun q => by rw [hr] at q; cases q.1) (fun q => q.2)⟩, h3⟩)) i hf hi hV ha)
  · cases hr : rightR (⟨6, mid, born, fr, R, bo, id, rc, vk, vc, vt, tr, due⟩ : Rec)
    · exact ap_post (ap_bad hr) (saBad 6 mid born fr bo a3 R.length c3 id rc vk vc vt tr due nx _ L P lo w h hL hs (fun wx hx => (specPack6 mid born fr R bo id rc vk vc vt tr due _ wx (hA.below hx)).mono (fun e w' ⟨⟨s, h1, h2⟩, h3⟩ => ⟨⟨s, h1, h2.elim (fun q => q.2) (fun q => by rw [hr] at q; cases q.1)⟩, h3⟩)))
    · by_cases c : id < nx
      · exact ap_post (ap_6no _ _ _ _ _ _ _ _ _ _ _ _ L nx hr c) (sa6no mid born fr bo a3 R.length c3 id rc vk vc vt tr due nx _ L P lo w h hL hs (fun wx hx => (specPack6 mid born fr R bo id rc vk vc vt tr due _ wx (hA.below hx)).mono (fun e w' ⟨⟨s, h1, h2⟩, h3⟩ => ⟨⟨s, h1, h2.elim (fun q => by rw [hr] at q; cases q.1) (fun q => q.2)⟩, h3⟩)) c)
      · exact ap_post (ap_6yes _ _ _ _ _ _ _ _ _ _ _ _ L nx hr c) (sa6yes mid born fr bo a3 R.length c3 id rc vk vc vt tr due nx _ L P lo w h hL hs (fun wx hx => (specPack6 mid born fr R bo id rc vk vc vt tr due _ wx (hA.below hx)).mono (fun e w' ⟨⟨s, h1, h2⟩, h3⟩ => ⟨⟨s, h1, h2.elim (fun q => by rw [hr] at q; cases q.1) (fun q => q.2)⟩, h3⟩)) c)
  · have hr := rightO kind mid born fr R bo id rc vk vc vt tr due hk
    exact ap_post (ap_bad hr) (saBad kind mid born fr bo a3 R.length c3 id rc vk vc vt tr due nx _ L P lo w h hL hs (fun wx hx => (specPackX kind mid born fr R bo id rc vk vc vt tr due _ wx (hA.below hx) hk).mono (fun e w' ⟨⟨s, h1, h2⟩, h3⟩ => ⟨⟨s, h1, h2.elim (fun q => q.2) (fun q => by rw [hr] at q; cases q.1)⟩, h3⟩)))
end Go.Proofs.YtlolnfpfipnfeaaGreat
