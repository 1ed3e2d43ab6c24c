import Derived.Test.YtlolnfpfipnfeaaGreatMg34
import Derived.Test.YtlolnfpfipnfeaaGreatMg33
import Derived.Laws.AppendOwn
import Derived.Laws.AppendOwnNone
import Derived.Deep.AppendLies
import Derived.Deep.DeepCutAuto
import Derived.Deep.CutBlock
import Derived.Test.YtlolnfpfipnfeaaGreatMg13
namespace Go.Proofs.YtlolnfpfipnfeaaGreat
open Go.ChangeShapes Go.WideShapes Go.ChangeAt Go.RowKit
attribute [local go_sem ↓] Go.wp_at_zero Go.wp_at_succ


set_option maxHeartbeats 4000000 in
set_option maxRecDepth 100000 in
theorem specItem0 (mid born : Int) (fr : ByteArray) (R : List ByteArray) (bo : ByteArray) (du : Int) (rv : Value) (lo1 : Nat) (w : World) (h1 : Strs w lo1 rv R) (m1 : R.length ≤ 1048576) :
    Calls Tryz.prog 20 #[.agg #[.int .i64 mid, .int .i64 born, .string fr, rv, .string bo, .slice none 0 0, .int .i64 0, .int .i64 du, .bool false]] w fun e w' => (∃ u1, e = .returned (.agg #[.int .i64 mid, .int .i64 born, .string fr, u1, .string bo, .slice none 0 0, .int .i64 0, .int .i64 du, .bool false]) ∧ Strs w' w.heap.size u1 R) ∧ Below w.heap.size w w' := by
  obtain ⟨a3, c3, rfl⟩ := row_formA h1
  have H1 : Hid (w.ownsRow lo1 9 1 (.slice a3 R.length c3) R.length (R.map Value.string)) := h1
  clear h1
  obtain ⟨i0, hinf, hx0, hx1, hx2⟩ := info_parts infoStr
  obtain ⟨l0, hlnf, _, _, _⟩ := info_parts infoVd
  go_enter Tryz.func20, Tryz.ntmps20
  go_upto_region 3 with fail
  generalize hW : World.alloc _ _ = W0
  have HA0 : Hid (Blk w.heap.size #[.int .i64 mid, .int .i64 born, .string fr, .slice a3 R.length c3, .string bo, .slice none 0 0, .int .i64 0, .int .i64 du, .bool false] W0) := by show Blk _ _ _; rw [← hW]; exact (blk3I w _ _ _ _ _ _).1
  have HZ0 : Hid (Blk (w.heap.size + 1) #[.int .i64 0, .int .i64 0, .string ⟨#[]⟩, .slice none 0 0, .string ⟨#[]⟩, .slice none 0 0, .int .i64 0, .int .i64 0, .bool false] W0) := by show Blk _ _ _; rw [← hW]; exact (blk3I w _ _ _ _ _ _).2.1
  have HO0 : Hid (Blk (w.heap.size + 1 + 1) #[.int .i64 mid, .int .i64 born, .string fr, .slice none 0 0, .string bo, .slice none 0 0, .int .i64 0, .int .i64 du, .bool false] W0) := by show Blk _ _ _; rw [← hW]; exact (blk3I w _ _ _ _ _ _).2.2
  have b0 : Below w.heap.size w W0 := by rw [← hW]; exact below3 _ _ _ _
  have z0 : w.heap.size + 3 ≤ W0.heap.size := by rw [← hW]; simp
  clear hW
  have N0 : Hid (W0.ownsRow lo1 9 1 (.slice a3 R.length c3) R.length (R.map Value.string)) := row_below H1.out b0
  have x3 : W0.cell? ⟨w.heap.size, 3, none⟩ = some (.slice a3 R.length c3) := HA0.out.cell 3
  have o3 : W0.cell? ⟨w.heap.size + 1 + 1, 3, none⟩ = some (.slice none 0 0) := HO0.out.cell 3
  go_wp2_with (at_builtin; refine wpList_append_row rfl _ _ 25 rfl W0.heap.size 9 i0 (.string ⟨#[]⟩) 1 16 Tryz.underlying25 hinf hx0 hx1 hx2 rfl (by decide) (.slice none 0 0) 0 [] rfl ⟨by rfl, .inl ⟨rfl, rfl⟩⟩ lo1 _ R.length (R.map Value.string) rfl N0.out (str_one _) ?f4 ?f5 (Nat.le_refl _) ?_)
  case f4 => unfold maxLen; omega
  case f5 => omega
  intro v1 w1 hown hgrow
  have R0 : Hid (w1.ownsRow W0.heap.size 9 1 v1 R.length (R.map Value.string)) := by show World.ownsRow _ _ _ _ _ _ _; simpa using hown
  have hb : Below W0.heap.size W0 w1 := (Below.refl W0.heap.size W0).grown hgrow (Nat.le_refl _) (by intro k hk; cases hk)
  have zz0 := hb.size
  obtain ⟨p1, q1, hv⟩ := row_formA R0.out
  subst hv
  have HA1 : Hid _ := HA0.out.below hb
  have HZ1 : Hid _ := HZ0.out.below hb
  have HO1 : Hid _ := HO0.out.below hb
  have b1 : Below w.heap.size w w1 := b0.trans (hb.mono (by omega))
  clear hown hgrow hb N0 HA0 HZ0 HO0 x3 o3 b0
  have o3 : w1.cell? ⟨w.heap.size + 1 + 1, 3, none⟩ = some (.slice none 0 0) := HO1.out.cell 3
  have f3 := HO1.out.free 3
  have o5 : w1.cell? ⟨w.heap.size + 1 + 1, 5, none⟩ = some (.slice none 0 0) := HO1.out.cell 5
  have f5 := HO1.out.free 5
  go_upto_region 5 with fail
  generalize hW : World.setCell (World.setCell w1 _ _) _ _ = W1
  have HA2 : Hid (Blk w.heap.size #[.int .i64 mid, .int .i64 born, .string fr, .slice a3 R.length c3, .string bo, .slice none 0 0, .int .i64 0, .int .i64 du, .bool false] W1) := by show Blk _ _ _; rw [← hW]; exact (HA1.out.other (by omega)).other (by omega)
  have HZ2 : Hid (Blk (w.heap.size + 1) #[.int .i64 0, .int .i64 0, .string ⟨#[]⟩, .slice none 0 0, .string ⟨#[]⟩, .slice none 0 0, .int .i64 0, .int .i64 0, .bool false] W1) := by show Blk _ _ _; rw [← hW]; exact (HZ1.out.other (by omega)).other (by omega)
  have HO2 : Hid (Blk (w.heap.size + 1 + 1) #[.int .i64 mid, .int .i64 born, .string fr, .slice p1 R.length q1, .string bo, .slice none 0 0, .int .i64 0, .int .i64 du, .bool false] W1) := by show Blk _ _ _; rw [← hW]; exact (HO1.out.set (i := 3) (by simp)).set (i := 5) (by simp)
  have b2 : Below w.heap.size w W1 := by rw [← hW]; exact (b1.setCell (by dsimp only; omega) _).setCell (by dsimp only; omega) _
  have z1 : w1.heap.size = W1.heap.size := by rw [← hW]; simp
  have R1 : Hid (W1.ownsRow W0.heap.size 9 1 (.slice p1 R.length q1) R.length (R.map Value.string)) := by show World.ownsRow _ _ _ _ _ _ _; rw [← hW]; exact row_setA (row_setA R0.out (by dsimp only; omega) _) (by dsimp only; omega) _
  clear hW HA1 HZ1 HO1 b1 R0 o3 f3 o5 f5
  have x5 : W1.cell? ⟨w.heap.size, 5, none⟩ = some (.slice none 0 0) := HA2.out.cell 5
  have o5 : W1.cell? ⟨w.heap.size + 1 + 1, 5, none⟩ = some (.slice none 0 0) := HO2.out.cell 5
  have hb : Below W1.heap.size W1 W1 := Below.refl _ _
  have HZ3 : Hid _ := HZ2.out.below hb
  have HO3 : Hid _ := HO2.out.below hb
  have b3 : Below w.heap.size w W1 := b2.trans (hb.mono (by omega))
  have R3 : Hid (W1.ownsRow W0.heap.size 9 1 (.slice p1 R.length q1) R.length (R.map Value.string)) := row_below R1.out hb
  clear hb HA2 HZ2 HO2 o5 b2 R1
  have o0 : W1.cell? ⟨w.heap.size + 1 + 1, 0, none⟩ = some (.int .i64 mid) := HO3.out.cell 0
  have o1 : W1.cell? ⟨w.heap.size + 1 + 1, 1, none⟩ = some (.int .i64 born) := HO3.out.cell 1
  have o2 : W1.cell? ⟨w.heap.size + 1 + 1, 2, none⟩ = some (.string fr) := HO3.out.cell 2
  have o3 : W1.cell? ⟨w.heap.size + 1 + 1, 3, none⟩ = some (.slice p1 R.length q1) := HO3.out.cell 3
  have o4 : W1.cell? ⟨w.heap.size + 1 + 1, 4, none⟩ = some (.string bo) := HO3.out.cell 4
  have o5 : W1.cell? ⟨w.heap.size + 1 + 1, 5, none⟩ = some (.slice none 0 0) := HO3.out.cell 5
  have o6 : W1.cell? ⟨w.heap.size + 1 + 1, 6, none⟩ = some (.int .i64 0) := HO3.out.cell 6
  have o7 : W1.cell? ⟨w.heap.size + 1 + 1, 7, none⟩ = some (.int .i64 du) := HO3.out.cell 7
  have o8 : W1.cell? ⟨w.heap.size + 1 + 1, 8, none⟩ = some (.bool false) := HO3.out.cell 8
  have r0 : W1.cell? ⟨w.heap.size + 1, 0, none⟩ = some (.int .i64 0) := HZ3.out.cell 0
  have g0 := HZ3.out.free 0
  have r1 : W1.cell? ⟨w.heap.size + 1, 1, none⟩ = some (.int .i64 0) := HZ3.out.cell 1
  have g1 := HZ3.out.free 1
  have r2 : W1.cell? ⟨w.heap.size + 1, 2, none⟩ = some (.string ⟨#[]⟩) := HZ3.out.cell 2
  have g2 := HZ3.out.free 2
  have r3 : W1.cell? ⟨w.heap.size + 1, 3, none⟩ = some (.slice none 0 0) := HZ3.out.cell 3
  have g3 := HZ3.out.free 3
  have r4 : W1.cell? ⟨w.heap.size + 1, 4, none⟩ = some (.string ⟨#[]⟩) := HZ3.out.cell 4
  have g4 := HZ3.out.free 4
  have r5 : W1.cell? ⟨w.heap.size + 1, 5, none⟩ = some (.slice none 0 0) := HZ3.out.cell 5
  have g5 := HZ3.out.free 5
  have r6 : W1.cell? ⟨w.heap.size + 1, 6, none⟩ = some (.int .i64 0) := HZ3.out.cell 6
  have g6 := HZ3.out.free 6
  have r7 : W1.cell? ⟨w.heap.size + 1, 7, none⟩ = some (.int .i64 0) := HZ3.out.cell 7
  have g7 := HZ3.out.free 7
  have r8 : W1.cell? ⟨w.heap.size + 1, 8, none⟩ = some (.bool false) := HZ3.out.cell 8
  have g8 := HZ3.out.free 8
  have f5 := HO3.out.free 5
  clear HZ3 HO3
  go_wp2_with (at_builtin; refine wpList_append_own_none rfl _ _ 55 rfl W1.heap.size 41 l0 3 Tryz.underlying55 hlnf (.slice none 0 0) 0 [] rfl ⟨by rfl, .inl ⟨rfl, rfl⟩⟩ rfl ?_)
  refine bodyPost_ret (v := .agg #[.int .i64 mid, .int .i64 born, .string fr, .slice p1 R.length q1, .string bo, .slice none 0 0, .int .i64 0, .int .i64 du, .bool false]) (by simp [results, Tryz.results20, go_sem, r0, r1, r2, r3, r4, r5, r6, r7, r8]) rfl ?_
  refine ⟨⟨_, rfl, ?_⟩, ?_⟩
  · refine row_le (lo := W0.heap.size) ?_ (by omega)
    repeat (refine row_setA ?_ (by dsimp only; omega) _)
    exact R3.out
  · repeat (refine Below.setCell ?_ (by dsimp only; omega) _)
    exact b3


set_option maxHeartbeats 8000000 in
set_option maxRecDepth 100000 in
theorem sa1yes (mid born : Int) (fr bo : ByteArray) (a3 : Option Addr) (R : List ByteArray) (c3 : Nat) (id rc vk vc : Int) (vt : ByteArray) (tr due : Int) (nx : Int) (v : Value) (L : List It) (P : List (Value × Value)) (lo : Nat) (w : World) (h : ItsP w lo v L P) (hL : L.length ≤ 1048576) (hs : ∀ x ∈ L, SmallI x) (hpk : ∀ wx, Below w.heap.size w wx → Calls Tryz.prog 19 #[.agg #[.int .i64 1, .int .i64 mid, .int .i64 born, .string fr, .slice a3 R.length c3, .string bo, .int .i64 id, .int .i64 rc, .int .i64 vk, .int .i64 vc, .string vt, .int .i64 tr, .int .i64 due]] wx fun e w' => (∃ s : ByteArray, e = .returned (.string s) ∧ 1 ≤ s.size) ∧ Below wx.heap.size wx w') (lor : Nat) (hRS : Strs w lor (.slice a3 R.length c3) R) (hR20 : R.length ≤ 20) (c : ¬ mid < nx) (cf : L.length < 30) (hm0 : 0 ≤ mid) (hm1 : mid ≤ 999999) :
    Calls Tryz.prog 6 #[.agg #[v, .int .i64 nx], .agg #[.int .i64 1, .int .i64 mid, .int .i64 born, .string fr, .slice a3 R.length c3, .string bo, .int .i64 id, .int .i64 rc, .int .i64 vk, .int .i64 vc, .string vt, .int .i64 tr, .int .i64 due]] w fun e w' => (∃ u P', e = .returned (.tuple #[.agg #[u, .int .i64 (mid + 1)], .bool true]) ∧ ItsP w' w.heap.size u (L ++ [(⟨mid, born, fr, R, bo, List.replicate R.length (0, 0, ⟨#[]⟩), 0, born, false⟩ : It)]) P') ∧ Below w.heap.size w w' := by
  have HRS : Hid (Strs w lor (.slice a3 R.length c3) R) := hRS
  clear hRS
  obtain ⟨a1, c1, rfl⟩ := h.form
  have H : Hid (ItsP w lo (.slice a1 L.length c1) L P) := h
  have HS : Hid (∀ x ∈ L, SmallI x) := hs
  have HPK : Hid (∀ wx, Below w.heap.size w wx → Calls Tryz.prog 19 #[.agg #[.int .i64 1, .int .i64 mid, .int .i64 born, .string fr, .slice a3 R.length c3, .string bo, .int .i64 id, .int .i64 rc, .int .i64 vk, .int .i64 vc, .string vt, .int .i64 tr, .int .i64 due]] wx fun e w' => (∃ s : ByteArray, e = .returned (.string s) ∧ 1 ≤ s.size) ∧ Below wx.heap.size wx w') := hpk
  clear h hs hpk
  go_enter Tryz.func6, Tryz.ntmps6
  go_wp2_with fail
  generalize hW : World.alloc _ _ = W0
  have HQ0 : Hid (Blk w.heap.size #[.slice a1 L.length c1, .int .i64 nx] W0) := by show Blk _ _ _; rw [← hW]; exact (blk3I w _ _ _ _ _ _).1
  have HR0 : Hid (Blk (w.heap.size + 1) #[.int .i64 1, .int .i64 mid, .int .i64 born, .string fr, .slice a3 R.length c3, .string bo, .int .i64 id, .int .i64 rc, .int .i64 vk, .int .i64 vc, .string vt, .int .i64 tr, .int .i64 due] W0) := by show Blk _ _ _; rw [← hW]; exact (blk3I w _ _ _ _ _ _).2.1
  have HZ0 : Hid (Blk (w.heap.size + 1 + 1) #[.slice none 0 0, .int .i64 0] W0) := by show Blk _ _ _; rw [← hW]; exact (blk3I w _ _ _ _ _ _).2.2
  have b0 : Below w.heap.size w W0 := by rw [← hW]; exact below3 _ _ _ _
  have z0 : W0.heap.size = w.heap.size + 3 := by rw [← hW]; simp
  clear hW
  refine (specQueue _ nx L P lo _ (H.out.below b0 (Nat.le_refl _)) hL HS.out).mono ?_
  rintro e w1 ⟨⟨u, P1, rfl, S1⟩, hb1⟩
  obtain ⟨a5, c5, hf⟩ := S1.form
  subst hf
  have z1 := hb1.size
  have b1 : Below w.heap.size w w1 := b0.trans (hb1.mono b0.size)
  have HI1 : Hid (ItsP w1 W0.heap.size (.slice a5 L.length c5) L P1) := S1
  have HQ1 : Hid _ := HQ0.out.below hb1
  have HR1 : Hid _ := HR0.out.below hb1
  have HZ1 : Hid _ := HZ0.out.below hb1
  clear hb1 S1 HQ0 HR0 HZ0 b0
  have x0 : w1.cell? ⟨w.heap.size + 1, 0, none⟩ = some (.int .i64 1) := HR1.out.cell 0
  have x1 : w1.cell? ⟨w.heap.size + 1, 1, none⟩ = some (.int .i64 mid) := HR1.out.cell 1
  have x2 : w1.cell? ⟨w.heap.size + 1, 2, none⟩ = some (.int .i64 born) := HR1.out.cell 2
  have x3 : w1.cell? ⟨w.heap.size + 1, 3, none⟩ = some (.string fr) := HR1.out.cell 3
  have x4 : w1.cell? ⟨w.heap.size + 1, 4, none⟩ = some (.slice a3 R.length c3) := HR1.out.cell 4
  have x5 : w1.cell? ⟨w.heap.size + 1, 5, none⟩ = some (.string bo) := HR1.out.cell 5
  have x6 : w1.cell? ⟨w.heap.size + 1, 6, none⟩ = some (.int .i64 id) := HR1.out.cell 6
  have x7 : w1.cell? ⟨w.heap.size + 1, 7, none⟩ = some (.int .i64 rc) := HR1.out.cell 7
  have x8 : w1.cell? ⟨w.heap.size + 1, 8, none⟩ = some (.int .i64 vk) := HR1.out.cell 8
  have x9 : w1.cell? ⟨w.heap.size + 1, 9, none⟩ = some (.int .i64 vc) := HR1.out.cell 9
  have x10 : w1.cell? ⟨w.heap.size + 1, 10, none⟩ = some (.string vt) := HR1.out.cell 10
  have x11 : w1.cell? ⟨w.heap.size + 1, 11, none⟩ = some (.int .i64 tr) := HR1.out.cell 11
  have x12 : w1.cell? ⟨w.heap.size + 1, 12, none⟩ = some (.int .i64 due) := HR1.out.cell 12
  have lR1 : w.heap.size + 1 < w1.heap.size := HR1.out.lt
  go_wp2_with fail
  generalize hW : World.alloc _ _ = W2
  have HO2 : Hid (Blk w1.heap.size #[.slice a5 L.length c5, .int .i64 nx] W2) := by show Blk _ _ _; rw [← hW]; exact Blk.new w1 _ _
  have hb2 : Below w1.heap.size w1 W2 := by rw [← hW]; exact below1 _ _
  have z2 : W2.heap.size = w1.heap.size + 1 := by rw [← hW]; simp
  clear hW x0 x1 x2 x3 x4 x5 x6 x7 x8 x9 x10 x11 x12
  have b2 : Below w.heap.size w W2 := b1.trans (hb2.mono b1.size)
  refine (HPK.out _ b2).mono ?_
  rintro e w3 ⟨⟨s, rfl, hs⟩, hb3⟩
  have HSZ : Hid (1 ≤ s.size) := hs
  have z3 := hb3.size
  have b3 : Below w.heap.size w w3 := b2.trans (hb3.mono b2.size)
  have HQ : Hid (Blk w.heap.size #[.slice a1 L.length c1, .int .i64 nx] w3) := (HQ1.out.below hb2).below hb3
  have HR : Hid (Blk (w.heap.size + 1) #[.int .i64 1, .int .i64 mid, .int .i64 born, .string fr, .slice a3 R.length c3, .string bo, .int .i64 id, .int .i64 rc, .int .i64 vk, .int .i64 vc, .string vt, .int .i64 tr, .int .i64 due] w3) := (HR1.out.below hb2).below hb3
  have HZ : Hid (Blk (w.heap.size + 1 + 1) #[.slice none 0 0, .int .i64 0] w3) := (HZ1.out.below hb2).below hb3
  have HO : Hid (Blk w1.heap.size #[.slice a5 L.length c5, .int .i64 nx] w3) := HO2.out.below hb3
  have HI : Hid (ItsP w3 W0.heap.size (.slice a5 L.length c5) L P1) := (HI1.out.below hb2 (Nat.le_refl _)).below hb3 (Nat.le_refl _)
  have HN : Hid (NeB w1.heap.size (.slice a5 L.length c5) P1) := NeB.of HI1.out (Nat.le_refl _)
  have H3 : Hid (ItsP w3 lo (.slice a1 L.length c1) L P) := H.out.below b3 (Nat.le_refl _)
  clear hs hb2 hb3 b1 b2 HQ1 HR1 HZ1 HO2 HI1 H HPK
  have hln := list_ne (x := s) (by have := HSZ.out; omega)
  have hl2 := list_ne2 (x := s) (by have := HSZ.out; omega)
  have q0 : w3.cell? ⟨w.heap.size, 0, none⟩ = some (.slice a1 L.length c1) := HQ.out.cell 0
  have q1 : w3.cell? ⟨w.heap.size, 1, none⟩ = some (.int .i64 nx) := HQ.out.cell 1
  have ci : ¬ (30 : Int) ≤ (L.length : Int) := by omega
  have x0 : w3.cell? ⟨w.heap.size + 1, 0, none⟩ = some (.int .i64 1) := HR.out.cell 0
  have x1 : w3.cell? ⟨w.heap.size + 1, 1, none⟩ = some (.int .i64 mid) := HR.out.cell 1
  have x2 : w3.cell? ⟨w.heap.size + 1, 2, none⟩ = some (.int .i64 born) := HR.out.cell 2
  have x3 : w3.cell? ⟨w.heap.size + 1, 3, none⟩ = some (.string fr) := HR.out.cell 3
  have x4 : w3.cell? ⟨w.heap.size + 1, 4, none⟩ = some (.slice a3 R.length c3) := HR.out.cell 4
  have x5 : w3.cell? ⟨w.heap.size + 1, 5, none⟩ = some (.string bo) := HR.out.cell 5
  go_wp2_with fail
  refine (specItem0 mid born fr R bo born _ lor _ (strs_below HRS.out b3 (Nat.le_refl _)) (by omega)).mono ?_
  rintro e w4 ⟨⟨u1, rfl, S4⟩, hb4⟩
  obtain ⟨s1, t1, hu1⟩ := row_formA S4
  subst hu1
  have z4 := hb4.size
  have b4 : Below w.heap.size w w4 := b3.trans (hb4.mono b3.size)
  have HR4 : Hid (Blk (w.heap.size + 1) #[.int .i64 1, .int .i64 mid, .int .i64 born, .string fr, .slice a3 R.length c3, .string bo, .int .i64 id, .int .i64 rc, .int .i64 vk, .int .i64 vc, .string vt, .int .i64 tr, .int .i64 due] w4) := HR.out.below hb4
  have HZ4 : Hid (Blk (w.heap.size + 1 + 1) #[.slice none 0 0, .int .i64 0] w4) := HZ.out.below hb4
  have HO4 : Hid (Blk w1.heap.size #[.slice a5 L.length c5, .int .i64 nx] w4) := HO.out.below hb4
  have HI4 : Hid (ItsP w4 W0.heap.size (.slice a5 L.length c5) L P1) := HI.out.below hb4 (Nat.le_refl _)
  have HU4 : Hid (Strs w4 w3.heap.size (.slice s1 R.length t1) R) := S4
  have HPB : Hid (PB w3.heap.size P1) := PB.of HI.out
  have HVB : Hid (∀ g, (Value.slice a5 L.length c5).ownBlock = some g → W0.heap.size ≤ g ∧ g < w3.heap.size) := HI.out.row.own
  clear hb4 HR HZ HO HI H3 HQ b3 q0 q1 x0 x1 x2 x3 x4 x5 hln hl2 HSZ S4 ci
  have x4 : w4.cell? ⟨w.heap.size + 1, 4, none⟩ = some (.slice a3 R.length c3) := HR4.out.cell 4
  have lR4 : w.heap.size + 1 < w4.heap.size := HR4.out.lt
  go_wp2_with fail
  generalize hW : World.alloc _ _ = W5
  have HX5 : Hid (Blk w4.heap.size #[.int .i64 mid, .int .i64 born, .string fr, .slice s1 R.length t1, .string bo, .slice none 0 0, .int .i64 0, .int .i64 born, .bool false] W5) := by show Blk _ _ _; rw [← hW]; exact Blk.new w4 _ _
  have hb5 : Below w4.heap.size w4 W5 := by rw [← hW]; exact below1 _ _
  have z5 : W5.heap.size = w4.heap.size + 1 := by rw [← hW]; simp
  clear hW x4
  obtain ⟨l0, hlnf, hz0, hz1, hz2⟩ := info_parts infoVd
  go_loopw [45] (fun iv wr => ∃ (k : Nat) (vk : Value), k ≤ R.length ∧ iv = .int .i64 k ∧ Hid (Blk w4.heap.size #[.int .i64 mid, .int .i64 born, .string fr, .slice s1 R.length t1, .string bo, vk, .int .i64 0, .int .i64 born, .bool false] wr) ∧ Hid (Vds wr (w4.heap.size + 1) vk (List.replicate k (0, 0, ⟨#[]⟩))) ∧ Hid (Below w4.heap.size w4 wr) ∧ w4.heap.size + 1 ≤ wr.heap.size) (fun iv _ => R.length - (intOf iv).toNat)
  case atStart => exact ⟨0, .slice none 0 0, Nat.zero_le _, rfl, HX5, ⟨by rfl, .inl ⟨rfl, rfl⟩⟩, hb5, by omega⟩
  case round =>
    obtain ⟨k, vk, hk, rfl, HX, HV, HB, hz⟩ := hrel
    have hlen : (List.replicate k ((0, 0, ⟨#[]⟩) : Vd)).length = k := List.length_replicate
    obtain ⟨ak, ck, hvk⟩ := row_formA HV.out
    rw [hlen] at hvk
    subst hvk
    by_cases hlt : k < R.length
    · have tt5 : wr.cell? ⟨w4.heap.size, 5, none⟩ = some (.slice ak k ck) := HX.out.cell 5
      have f5 := HX.out.free 5
      have lX : w4.heap.size < wr.heap.size := HX.out.lt
      have hrow : wr.ownsRow (w4.heap.size + 1) 41 3 (.slice ak k ck) k (vrow (List.replicate k (0, 0, ⟨#[]⟩))) := by
        have := HV.out
        unfold Vds at this
        rw [hlen] at this
        exact this
      have HRw : Hid (wr.ownsRow (w4.heap.size + 1) 41 3 (.slice ak k ck) k (vrow (List.replicate k (0, 0, ⟨#[]⟩)))) := hrow
      have Hlo : Hid (∀ g, (Value.slice ak k ck).ownBlock = some g → w4.heap.size + 1 ≤ g) := fun g hg => (row_lt hrow g hg).1
      clear hrow
      go_wp2_with (at_builtin; refine wpList_append_lies _ rfl _ _ 55 rfl (w4.heap.size + 1) 41 l0 (.agg #[.int .i64 0, .int .i64 0, .string ⟨#[]⟩]) 3 32 Tryz.underlying55 hlnf hz0 hz1 hz2 rfl (by decide) _ _ _ rfl (HRw.out.alloc _) ⟨wr.heap.size, 0, none⟩ 1 1 [.int .i64 0, .int .i64 0, .string ⟨#[]⟩] rfl rfl ?c1 ?c2 (by decide) ?c4 ?c5 ?c6 (wr.heap.size + 1) ?c7 ?_)
      case c1 =>
        intro j u hj
        exact World.news_of_block (lk_newW _ _ _ rfl) j u (by simpa using hj)
      case c2 => intro u hu; simp at hu; rcases hu with rfl | rfl | rfl <;> rfl
      case c4 => unfold maxLen; omega
      case c5 => omega
      case c6 => simp; omega
      case c7 => simp
      intro g cap w7 hown hgrow hat hlt7
      have hb7 : Below (w4.heap.size + 1) wr w7 := ((Below.refl (w4.heap.size + 1) wr).alloc (by omega) _).grown hgrow (by simp; omega) Hlo.out
      have HX7 : Hid (Blk w4.heap.size #[.int .i64 mid, .int .i64 born, .string fr, .slice s1 R.length t1, .string bo, .slice ak k ck, .int .i64 0, .int .i64 born, .bool false] w7) := HX.out.belowN hb7 (by omega)
      have HV7 : Hid (Vds w7 (w4.heap.size + 1) (.slice (some ⟨g, 0, none⟩) (k + 1) cap) (List.replicate (k + 1) (0, 0, ⟨#[]⟩))) := by
        show World.ownsRow _ _ _ _ _ _ _
        rw [List.length_replicate, List.replicate_succ', show vrow (List.replicate k (0, 0, ⟨#[]⟩) ++ [((0, 0, ⟨#[]⟩) : Vd)]) = vrow (List.replicate k (0, 0, ⟨#[]⟩)) ++ vcells (0, 0, ⟨#[]⟩) by unfold vrow; simp]
        exact hown
      have HB7 : Hid (Below w4.heap.size w4 w7) := HB.out.trans (hb7.mono (by omega))
      have z7 := hb7.size
      clear hown hgrow hat hb7 tt5 f5 HRw
      have t5 : w7.cell? ⟨w4.heap.size, 5, none⟩ = some (.slice ak k ck) := HX7.out.cell 5
      have f5 := HX7.out.free 5
      go_wp2
      go_roundw
      case rel => exact ⟨k + 1, _, by omega, by go_num, HX7.out.set (i := 5) (by simp), row_setA HV7.out (by show w4.heap.size < _; omega) _, HB7.out.setCell (by show _ ≤ w4.heap.size; omega) _, by simp; omega⟩
      case measure => simp [intOf]; omega
    · obtain rfl : k = R.length := by omega
      have HO6 : Hid (Blk w1.heap.size #[.slice a5 L.length c5, .int .i64 nx] wr) := HO4.out.below HB.out
      have HR6 : Hid (Blk (w.heap.size + 1) #[.int .i64 1, .int .i64 mid, .int .i64 born, .string fr, .slice a3 R.length c3, .string bo, .int .i64 id, .int .i64 rc, .int .i64 vk, .int .i64 vc, .string vt, .int .i64 tr, .int .i64 due] wr) := HR4.out.below HB.out
      have HZ6 : Hid (Blk (w.heap.size + 1 + 1) #[.slice none 0 0, .int .i64 0] wr) := HZ4.out.below HB.out
      have HI6 : Hid (ItsP wr W0.heap.size (.slice a5 L.length c5) L P1) := HI4.out.below HB.out (Nat.le_refl _)
      have HU6 : Hid (Strs wr w3.heap.size (.slice s1 R.length t1) R) := strs_below HU4.out HB.out (Nat.le_refl _)
      have b6 : Below w.heap.size w wr := b4.trans (HB.out.mono b4.size)
      obtain ⟨i0, hinf, hx0, hx1, hx2⟩ := info_parts infoIt
      have hrow : wr.ownsRow W0.heap.size 57 9 (.slice a5 L.length c5) L.length (irow L P1).flatten := by
        have := HI6.out.row.1
        rw [irow_len HI6.out.len] at this
        exact this
      have HRw : Hid (wr.ownsRow W0.heap.size 57 9 (.slice a5 L.length c5) L.length (irow L P1).flatten) := hrow
      clear hrow HR4 HZ4 HO4 HI4 HU4 b4 hlt
      have tt0 : wr.cell? ⟨w4.heap.size, 0, none⟩ = some (.int .i64 mid) := HX.out.cell 0
      have tt1 : wr.cell? ⟨w4.heap.size, 1, none⟩ = some (.int .i64 born) := HX.out.cell 1
      have tt2 : wr.cell? ⟨w4.heap.size, 2, none⟩ = some (.string fr) := HX.out.cell 2
      have tt3 : wr.cell? ⟨w4.heap.size, 3, none⟩ = some (.slice s1 R.length t1) := HX.out.cell 3
      have tt4 : wr.cell? ⟨w4.heap.size, 4, none⟩ = some (.string bo) := HX.out.cell 4
      have tt5 : wr.cell? ⟨w4.heap.size, 5, none⟩ = some (.slice ak R.length ck) := HX.out.cell 5
      have tt6 : wr.cell? ⟨w4.heap.size, 6, none⟩ = some (.int .i64 0) := HX.out.cell 6
      have tt7 : wr.cell? ⟨w4.heap.size, 7, none⟩ = some (.int .i64 born) := HX.out.cell 7
      have tt8 : wr.cell? ⟨w4.heap.size, 8, none⟩ = some (.bool false) := HX.out.cell 8
      have o0 : wr.cell? ⟨w1.heap.size, 0, none⟩ = some (.slice a5 L.length c5) := HO6.out.cell 0
      go_wp2_with (at_builtin; refine wpList_append_lies _ rfl _ _ 34 rfl W0.heap.size 57 i0 (.agg #[.int .i64 0, .int .i64 0, .string ⟨#[]⟩, .slice none 0 0, .string ⟨#[]⟩, .slice none 0 0, .int .i64 0, .int .i64 0, .bool false]) 9 120 Tryz.underlying34 hinf hx0 hx1 hx2 rfl (by decide) _ _ _ rfl (HRw.out.alloc _) ⟨wr.heap.size, 0, none⟩ 1 1 [.int .i64 mid, .int .i64 born, .string fr, .slice s1 R.length t1, .string bo, .slice ak R.length ck, .int .i64 0, .int .i64 born, .bool false] rfl rfl ?d1 ?d2 (by decide) ?d4 ?d5 ?d6 (wr.heap.size + 1) ?d7 ?_)
      case d1 =>
        intro j u hj
        exact World.news_of_block (lk_newW _ _ _ rfl) j u (by simpa using hj)
      case d2 => exact ic_oneA (⟨mid, born, fr, R, bo, List.replicate R.length (0, 0, ⟨#[]⟩), 0, born, false⟩ : It) s1 ak R.length R.length t1 ck
      case d4 => unfold maxLen; omega
      case d5 => omega
      case d6 => simp; omega
      case d7 => simp
      intro g cap w7 hown hgrow hat hlt7
      have hb7 : Below W0.heap.size wr w7 := ((Below.refl W0.heap.size wr).alloc (by omega) _).grown hgrow (by simp; omega) (fun g hg => (HVB.out g hg).1)
      have hO : OffL [.slice a5 L.length c5] (wr.alloc (.cells #[.int .i64 mid, .int .i64 born, .string fr, .slice s1 R.length t1, .string bo, .slice ak R.length ck, .int .i64 0, .int .i64 born, .bool false] 57)) w7 := OffL.ofGrown hgrow (by simp)
      have HI7 : Hid (ItsP w7 W0.heap.size (.slice (some ⟨g, 0, none⟩) (L.length + 1) cap) (L ++ [(⟨mid, born, fr, R, bo, List.replicate R.length (0, 0, ⟨#[]⟩), 0, born, false⟩ : It)]) (P1 ++ [(.slice s1 R.length t1, .slice ak R.length ck)])) := by
        refine ItsP.snoc (HI6.out.below (below1 _ _) (Nat.le_refl _)) hO (⟨mid, born, fr, R, bo, List.replicate R.length (0, 0, ⟨#[]⟩), 0, born, false⟩ : It) (.slice s1 R.length t1, .slice ak R.length ck) ?_ ?_ ?_ ?_ ?_
        · rw [irow_len HI6.out.len, z0]; exact hown
        · refine row_le (hO.row (row_below HU6.out (below1 _ _)) fun a ha u hu e => ?_) (by omega)
          simp only [List.mem_singleton] at hu
          subst hu
          have h1 := (row_lt HU6.out a ha).1
          have h2 := (HVB.out a e).2
          omega
        · refine row_le (hO.row (row_below HV.out (below1 _ _)) fun a ha u hu e => ?_) (by omega)
          simp only [List.mem_singleton] at hu
          subst hu
          have h1 := (row_lt HV.out a ha).1
          have h2 := (HVB.out a e).2
          omega
        · intro a ha q hq e
          have h1 := (row_lt HU6.out a ha).1
          have h2 := (HPB.out q hq).1 a e
          omega
        · intro a ha q hq e
          have h1 := (row_lt HV.out a ha).1
          have h2 := (HPB.out q hq).2 a e
          omega
      have HN7 : Hid (NeB w1.heap.size (.slice (some ⟨g, 0, none⟩) (L.length + 1) cap) (P1 ++ [(.slice s1 R.length t1, .slice ak R.length ck)])) := by
        refine ⟨fun q hq => ?_, fun p hp => ?_⟩
        · injection hq with hq
          subst hq
          rcases hat with h | h
          · exact HN.out.v g h
          · show g ≠ _; omega
        · rcases List.mem_append.1 hp with hp | hp
          · exact HN.out.p p hp
          · simp only [List.mem_singleton] at hp
            subst hp
            exact ⟨fun q hq => by have := (row_lt HU6.out q hq).1; omega, fun q hq => by have := (row_lt HV.out q hq).1; omega⟩
      have hbO : Blk w1.heap.size #[.slice a5 L.length c5, .int .i64 nx] w7 := by
        have l1 : w1.heap.size < (wr.alloc (.cells #[.int .i64 mid, .int .i64 born, .string fr, .slice s1 R.length t1, .string bo, .slice ak R.length ck, .int .i64 0, .int .i64 born, .bool false] 57)).heap.size := by simp; omega
        have h1 := HO6.out.below (below1 wr (.cells #[.int .i64 mid, .int .i64 born, .string fr, .slice s1 R.length t1, .string bo, .slice ak R.length ck, .int .i64 0, .int .i64 born, .bool false] 57))
        have hne : some w1.heap.size ≠ (Value.slice a5 L.length c5).ownBlock := fun e => HN.out.v w1.heap.size e.symm rfl
        exact ⟨Nat.lt_of_lt_of_le h1.lt hgrow.size, fun i => (hgrow.cell_far ⟨w1.heap.size, i, none⟩ l1 hne).trans (h1.cell i), fun o => (hgrow.frozen_far ⟨w1.heap.size, o, none⟩ l1 hne).trans (h1.free o)⟩
      have HO7 : Hid (Blk w1.heap.size #[.slice a5 L.length c5, .int .i64 nx] w7) := hbO
      have HR7 : Hid (Blk (w.heap.size + 1) #[.int .i64 1, .int .i64 mid, .int .i64 born, .string fr, .slice a3 R.length c3, .string bo, .int .i64 id, .int .i64 rc, .int .i64 vk, .int .i64 vc, .string vt, .int .i64 tr, .int .i64 due] w7) := HR6.out.belowN hb7 (by omega)
      have HZ7 : Hid (Blk (w.heap.size + 1 + 1) #[.slice none 0 0, .int .i64 0] w7) := HZ6.out.belowN hb7 (by omega)
      have b7 : Below w.heap.size w w7 := b6.trans (hb7.mono (by omega))
      clear hown hgrow hat hb7 hO hbO HI6 HO6 HR6 HZ6 HU6 HV HX HRw b6 o0 tt0 tt1 tt2 tt3 tt4 tt5 tt6 tt7 tt8 hinf hx0 hx1 hx2 hlnf hz0 hz1 hz2
      have fo0 := HO7.out.free 0
      have fo1 := HO7.out.free 1
      have x1 : w7.cell? ⟨w.heap.size + 1, 1, none⟩ = some (.int .i64 mid) := HR7.out.cell 1
      have n1 : w.heap.size + 1 ≠ w1.heap.size := by omega
      have n2 : w1.heap.size ≠ w.heap.size + 1 := by omega
      have n3 : w.heap.size + 1 + 1 ≠ w1.heap.size := by omega
      have n4 : w1.heap.size ≠ w.heap.size + 1 + 1 := by omega
      have o0 : w7.cell? ⟨w1.heap.size, 0, none⟩ = some (.slice a5 L.length c5) := HO7.out.cell 0
      have o1 : w7.cell? ⟨w1.heap.size, 1, none⟩ = some (.int .i64 nx) := HO7.out.cell 1
      have r0 : w7.cell? ⟨w.heap.size + 1 + 1, 0, none⟩ = some (.slice none 0 0) := HZ7.out.cell 0
      have r1 : w7.cell? ⟨w.heap.size + 1 + 1, 1, none⟩ = some (.int .i64 0) := HZ7.out.cell 1
      have g0 := HZ7.out.free 0
      have g1 := HZ7.out.free 1
      go_wp2
      refine bodyPost_ret (v := .tuple #[.agg #[.slice (some ⟨g, 0, none⟩) (L.length + 1) cap, .int .i64 (mid + 1)], .bool true]) (by simp [results, Tryz.results6, go_sem, r0, r1]) rfl ?_
      refine ⟨⟨_, (P1 ++ [(.slice s1 R.length t1, .slice ak R.length ck)]), rfl, ?_⟩, ?_⟩
      · refine ItsP.le (lo := W0.heap.size) ?_ (by omega)
        refine ItsP.setB (ItsP.setB ?_ (by dsimp only; omega) _) (by dsimp only; omega) _
        exact (HI7.out.setNe HN7.out _).setNe HN7.out _
      · refine Below.setCell (Below.setCell ?_ (by dsimp only; omega) _) (by dsimp only; omega) _
        exact (b7.setCell (by dsimp only; omega) _).setCell (by dsimp only; omega) _
end Go.Proofs.YtlolnfpfipnfeaaGreat
namespace Go.Proofs.YtlolnfpfipnfeaaGreat
open Go.ChangeShapes Go.WideShapes Go.ChangeAt Go.RowKit
attribute [local go_sem ↓] Go.wp_at_zero Go.wp_at_succ

def noVB (vk vc : Int) (vt : ByteArray) : Bool := decide (vk = 0) && (decide (vc = 0) && decide (vt.size = 0))
set_option maxHeartbeats 1000000 in
set_option maxRecDepth 100000 in
theorem vd_eql0 (vk vc : Int) (vt : ByteArray) (wx : World) : (binOp .eql 41 (.agg #[.int .i64 vk, .int .i64 vc, .string vt]) (.agg #[.int .i64 0, .int .i64 0, .string ⟨#[]⟩])).run Tryz.prog wx = .ok (.bool (noVB vk vc vt)) wx := by
  unfold noVB
  by_cases c1 : vk = 0
  · subst c1
    by_cases c2 : vc = 0
    · subst c2
      rcases Nat.eq_zero_or_pos vt.size with h0 | h0
      · have he := empty_of h0
        subst he
        rw [decide_eq_true h0]
        clear h0
        go_simp
      · have hln := list_ne (x := vt) (by omega)
        rw [decide_eq_false (p := vt.size = 0) (by omega)]
        go_simp
    · go_simp
  · go_simp
theorem right1 (mid born : Int) (fr : ByteArray) (R : List ByteArray) (bo : ByteArray) (id rc vk vc : Int) (vt : ByteArray) (tr due : Int) : rightR (⟨1, mid, born, fr, R, bo, id, rc, vk, vc, vt, tr, due⟩ : Rec) = (decide (id = 0) && (decide (rc = 0) && (noVB vk vc vt && ((decide (tr = 0) && decide (due = 0)) && (idN mid && (decide (0 ≤ born) && (decide (born ≤ 20000000) && (whomN fr R && bodyOk bo)))))))) := by
  show (if (1 : Int) = 1 then _ else _) = _
  rw [if_pos rfl]; rfl

set_option maxHeartbeats 8000000 in
set_option maxRecDepth 100000 in
theorem specPackM (mid born : Int) (fr : ByteArray) (R : List ByteArray) (bo : ByteArray) (id rc vk vc : Int) (vt : ByteArray) (tr due : Int) (v : Value) (w : World) (h : ArgS w v R) (m1 : fr.size ≤ 1048576) (m2 : bo.size ≤ 1048576) (m3 : ∀ s ∈ R, s.size ≤ 1048576) :
    Calls Tryz.prog 19 #[.agg #[.int .i64 1, .int .i64 mid, .int .i64 born, .string fr, v, .string bo, .int .i64 id, .int .i64 rc, .int .i64 vk, .int .i64 vc, .string vt, .int .i64 tr, .int .i64 due]] w fun e w' => (∃ s : ByteArray, e = .returned (.string s) ∧ ((rightR (⟨1, mid, born, fr, R, bo, id, rc, vk, vc, vt, tr, due⟩ : Rec) = false ∧ s = ⟨#[]⟩) ∨ (rightR (⟨1, mid, born, fr, R, bo, id, rc, vk, vc, vt, tr, due⟩ : Rec) = true ∧ 1 ≤ s.size))) ∧ Below w.heap.size w w' := by
  have H : Hid (ArgS w v R) := h
  have HS : Hid (∀ s ∈ R, s.size ≤ 1048576) := m3
  obtain ⟨a3, c3, rfl⟩ := args_formM h
  clear h m3
  have hV := vd_eql0 vk vc vt
  obtain ⟨nv, HNV⟩ : ∃ nv, noVB vk vc vt = nv := ⟨_, rfl⟩
  rw [HNV] at hV
  by_cases c1 : ¬ id = 0
  · skip
    have HF : Hid (rightR (⟨1, mid, born, fr, R, bo, id, rc, vk, vc, vt, tr, due⟩ : Rec) = false) := by show _ = _; rw [right1]; simp [c1]
    clear HNV
    go_enter Tryz.func19, Tryz.ntmps19
    go_wp2
    all_goals
      go_ret
      exact ⟨⟨_, rfl, .inl ⟨HF.out, rfl⟩⟩, below2 _ _ _⟩
  replace c1 := Decidable.not_not.1 c1
  subst c1
  by_cases c2 : ¬ rc = 0
  · skip
    have HF : Hid (rightR (⟨1, mid, born, fr, R, bo, 0, rc, vk, vc, vt, tr, due⟩ : Rec) = false) := by show _ = _; rw [right1]; simp [c2]
    clear HNV
    go_enter Tryz.func19, Tryz.ntmps19
    go_wp2
    all_goals
      go_ret
      exact ⟨⟨_, rfl, .inl ⟨HF.out, rfl⟩⟩, below2 _ _ _⟩
  replace c2 := Decidable.not_not.1 c2
  subst c2
  cases nv
  · skip
    have HF : Hid (rightR (⟨1, mid, born, fr, R, bo, 0, 0, vk, vc, vt, tr, due⟩ : Rec) = false) := by show _ = _; rw [right1]; simp [HNV]
    clear HNV
    go_enter Tryz.func19, Tryz.ntmps19
    go_wp2
    all_goals
      go_ret
      exact ⟨⟨_, rfl, .inl ⟨HF.out, rfl⟩⟩, below2 _ _ _⟩
  by_cases c3 : ¬ tr = 0
  · skip
    have HF : Hid (rightR (⟨1, mid, born, fr, R, bo, 0, 0, vk, vc, vt, tr, due⟩ : Rec) = false) := by show _ = _; rw [right1]; simp [c3]
    clear HNV
    go_enter Tryz.func19, Tryz.ntmps19
    go_wp2
    all_goals
      go_ret
      exact ⟨⟨_, rfl, .inl ⟨HF.out, rfl⟩⟩, below2 _ _ _⟩
  replace c3 := Decidable.not_not.1 c3
  subst c3
  by_cases c4 : ¬ due = 0
  · skip
    have HF : Hid (rightR (⟨1, mid, born, fr, R, bo, 0, 0, vk, vc, vt, 0, due⟩ : Rec) = false) := by show _ = _; rw [right1]; simp [c4]
    clear HNV
    go_enter Tryz.func19, Tryz.ntmps19
    go_wp2
    all_goals
      go_ret
      exact ⟨⟨_, rfl, .inl ⟨HF.out, rfl⟩⟩, below2 _ _ _⟩
  replace c4 := Decidable.not_not.1 c4
  subst c4
  have HV1 : Hid (noVB vk vc vt = true) := HNV
  clear HNV
  have HR1 : Hid (rightR (⟨1, mid, born, fr, R, bo, 0, 0, vk, vc, vt, 0, 0⟩ : Rec) = (idN mid && (decide (0 ≤ born) && (decide (born ≤ 20000000) && (whomN fr R && bodyOk bo))))) := by
    show _ = _
    rw [right1, HV1.out]; simp
  go_enter Tryz.func19, Tryz.ntmps19
  go_wp2_with fail
  generalize hW : World.alloc _ _ = W0
  have HM0 : Hid (Blk (w.heap.size + 1) #[.int .i64 mid, .int .i64 born, .string fr, .slice a3 R.length c3, .string bo] W0) := by
    show Blk _ _ _
    rw [← hW]
    have := Blk.new (w.alloc (.cells #[.int .i64 1, .int .i64 mid, .int .i64 born, .string fr, .slice a3 R.length c3, .string bo, .int .i64 0, .int .i64 0, .int .i64 vk, .int .i64 vc, .string vt, .int .i64 0, .int .i64 0] 43)) #[.int .i64 mid, .int .i64 born, .string fr, .slice a3 R.length c3, .string bo] 40
    simpa using this
  have b0 : Below w.heap.size w W0 := by rw [← hW]; exact below2 _ _ _
  clear hW
  refine (specId mid _).mono ?_
  rintro e w1 ⟨rfl, hw1⟩
  subst hw1
  cases hi : idN mid
  · have HF : Hid (rightR (⟨1, mid, born, fr, R, bo, 0, 0, vk, vc, vt, 0, 0⟩ : Rec) = false) := by show _ = _; rw [HR1.out, hi]; rfl
    clear HR1 hi
    go_wp2
    go_ret
    exact ⟨⟨_, rfl, .inl ⟨HF.out, rfl⟩⟩, b0⟩
  have x1 : w1.cell? ⟨w.heap.size + 1, 1, none⟩ = some (.int .i64 born) := HM0.out.cell 1
  by_cases c5 : born < 0
  · have HF : Hid (rightR (⟨1, mid, born, fr, R, bo, 0, 0, vk, vc, vt, 0, 0⟩ : Rec) = false) := by show _ = _; rw [HR1.out, hi, decide_eq_false (by omega)]; rfl
    clear HR1 hi
    go_wp2
    go_ret
    exact ⟨⟨_, rfl, .inl ⟨HF.out, rfl⟩⟩, b0⟩
  by_cases c6 : 20000000 < born
  · have HF : Hid (rightR (⟨1, mid, born, fr, R, bo, 0, 0, vk, vc, vt, 0, 0⟩ : Rec) = false) := by show _ = _; rw [HR1.out, hi, decide_eq_true (p := 0 ≤ born) (by omega), decide_eq_false (by omega)]; rfl
    clear HR1 hi
    go_wp2
    go_ret
    exact ⟨⟨_, rfl, .inl ⟨HF.out, rfl⟩⟩, b0⟩
  have HR2 : Hid (rightR (⟨1, mid, born, fr, R, bo, 0, 0, vk, vc, vt, 0, 0⟩ : Rec) = (whomN fr R && bodyOk bo)) := by show _ = _; rw [HR1.out, hi, decide_eq_true (p := 0 ≤ born) (by omega), decide_eq_true (by omega)]; rfl
  obtain ⟨kmid, rfl⟩ : ∃ k : Nat, mid = (k : Int) := ⟨mid.toNat, by unfold idN at hi; simp at hi; omega⟩
  have hmid : kmid ≤ 999999 := by unfold idN at hi; simp at hi; omega
  obtain ⟨kborn, rfl⟩ : ∃ k : Nat, born = (k : Int) := ⟨born.toNat, by omega⟩
  clear HR1 hi
  have x2 : w1.cell? ⟨w.heap.size + 1, 2, none⟩ = some (.string fr) := HM0.out.cell 2
  have x3 : w1.cell? ⟨w.heap.size + 1, 3, none⟩ = some (.slice a3 R.length c3) := HM0.out.cell 3
  go_wp2_with fail
  refine (specWhom fr _ R _ (H.out.below b0) m1 HS.out).mono ?_
  rintro e w2 ⟨rfl, hb2⟩
  have b2 : Below w.heap.size w w2 := b0.trans (hb2.mono b0.size)
  have HM2 : Hid _ := HM0.out.below hb2
  clear hb2 HM0 b0 x1 x2 x3
  have x4 : w2.cell? ⟨w.heap.size + 1, 4, none⟩ = some (.string bo) := HM2.out.cell 4
  cases hwh : whomN fr R
  · have HF : Hid (rightR (⟨1, (kmid : Int), (kborn : Int), fr, R, bo, 0, 0, vk, vc, vt, 0, 0⟩ : Rec) = false) := by show _ = _; rw [HR2.out, hwh]; rfl
    clear HR2 hwh
    go_wp2
    go_ret
    exact ⟨⟨_, rfl, .inl ⟨HF.out, rfl⟩⟩, b2⟩
  have hR20 : R.length ≤ 20 := by unfold whomN at hwh; simp at hwh; omega
  have hR1 : 1 ≤ R.length := by unfold whomN at hwh; simp at hwh; omega
  have HR3 : Hid (rightR (⟨1, (kmid : Int), (kborn : Int), fr, R, bo, 0, 0, vk, vc, vt, 0, 0⟩ : Rec) = bodyOk bo) := by show _ = _; rw [HR2.out, hwh]; rfl
  clear HR2 hwh
  go_wp2_with fail
  refine (specBody bo _ m2).mono ?_
  rintro e w3 ⟨rfl, hb3⟩
  have b3 : Below w.heap.size w w3 := b2.trans (hb3.mono b2.size)
  have HM3 : Hid _ := HM2.out.below hb3
  clear hb3 HM2 b2 x4
  cases hbo : bodyOk bo
  · have HF : Hid (rightR (⟨1, (kmid : Int), (kborn : Int), fr, R, bo, 0, 0, vk, vc, vt, 0, 0⟩ : Rec) = false) := by show _ = _; rw [HR3.out, hbo]
    clear HR3 hbo
    go_wp2
    go_ret
    exact ⟨⟨_, rfl, .inl ⟨HF.out, rfl⟩⟩, b3⟩
  have HF : Hid (rightR (⟨1, (kmid : Int), (kborn : Int), fr, R, bo, 0, 0, vk, vc, vt, 0, 0⟩ : Rec) = true) := by show _ = _; rw [HR3.out, hbo]
  clear HR3 hbo
  obtain ⟨b, off, cap, hv, hbw, hcell⟩ := H.out.some hR1
  injection hv with hv1 hv2 hv3
  subst hv1 hv3
  have HC : Hid (∀ i (hi : i < R.length), w.cell? ⟨b, off + i, none⟩ = some (.string R[i])) := hcell
  clear hcell hv2
  obtain ⟨A1, HA1⟩ : ∃ A, Hid (numB kmid = A) := ⟨_, rfl⟩
  obtain ⟨A2, HA2⟩ : ∃ A, Hid (decB kborn = A) := ⟨_, rfl⟩
  obtain ⟨A3, HA3⟩ : ∃ A, Hid (numB R.length = A) := ⟨_, rfl⟩
  obtain ⟨A4, HA4⟩ : ∃ A, Hid (strB fr = A) := ⟨_, rfl⟩
  have sA1 := numB_size (n := kmid) (by omega)
  have sA2 := decB_size (n := kborn) (by omega)
  have sA3 := numB_size (n := R.length) (by omega)
  have sA4 := strB_size m1
  rw [HA1.out] at sA1
  rw [HA2.out] at sA2
  rw [HA3.out] at sA3
  rw [HA4.out] at sA4
  obtain ⟨B1, HB1⟩ : ∃ B, Hid ((⟨#[77]⟩ : ByteArray) ++ A1 = B) := ⟨_, rfl⟩
  obtain ⟨B2, HB2⟩ : ∃ B, Hid (B1 ++ (⟨#[32]⟩ : ByteArray) = B) := ⟨_, rfl⟩
  obtain ⟨B3, HB3⟩ : ∃ B, Hid (B2 ++ A2 = B) := ⟨_, rfl⟩
  obtain ⟨B4, HB4⟩ : ∃ B, Hid (B3 ++ A3 = B) := ⟨_, rfl⟩
  obtain ⟨B5, HB5⟩ : ∃ B, Hid (B4 ++ A4 = B) := ⟨_, rfl⟩
  have t1 : B1.size = 1 + A1.size := by rw [← HB1.out, ByteArray.size_append, sz1]
  have t2 : B2.size = B1.size + 1 := by rw [← HB2.out, ByteArray.size_append, sz1]
  have t3 : B3.size = B2.size + A2.size := by rw [← HB3.out, ByteArray.size_append]
  have t4 : B4.size = B3.size + A3.size := by rw [← HB4.out, ByteArray.size_append]
  have t5 : B5.size = B4.size + A4.size := by rw [← HB5.out, ByteArray.size_append]
  have T5 : Hid (1 ≤ B5.size ∧ B5.size ≤ 1048700) := ⟨by omega, by omega⟩
  have g1 : ∀ wx : World, (Op.stringOp .add (⟨#[77]⟩ : ByteArray) A1).run Tryz.prog wx = .ok (.string B1) wx := fun wx => by rw [← HB1.out]; exact run_string_add_sum wx _ _ (by rw [sz1]; omega)
  have g2 : ∀ wx : World, (Op.stringOp .add B1 (⟨#[32]⟩ : ByteArray)).run Tryz.prog wx = .ok (.string B2) wx := fun wx => by rw [← HB2.out]; exact run_string_add_sum wx _ _ (by rw [sz1]; omega)
  have g3 : ∀ wx : World, (Op.stringOp .add B2 A2).run Tryz.prog wx = .ok (.string B3) wx := fun wx => by rw [← HB3.out]; exact run_string_add_sum wx _ _ (by omega)
  have g4 : ∀ wx : World, (Op.stringOp .add B3 A3).run Tryz.prog wx = .ok (.string B4) wx := fun wx => by rw [← HB4.out]; exact run_string_add_sum wx _ _ (by omega)
  have g5 : ∀ wx : World, (Op.stringOp .add B4 A4).run Tryz.prog wx = .ok (.string B5) wx := fun wx => by rw [← HB5.out]; exact run_string_add_sum wx _ _ (by omega)
  have N1 : Hid (∀ wx, Calls Tryz.prog 40 #[.int .i64 (kmid : Int)] wx fun e w' => e = .returned (.string A1) ∧ Below wx.heap.size wx w') := fun wx => by rw [← HA1.out]; exact specNum kmid (by omega) wx
  have N2 : Hid (∀ wx, Calls Tryz.prog 41 #[.int .i64 (kborn : Int)] wx fun e w' => e = .returned (.string A2) ∧ Below wx.heap.size wx w') := fun wx => by rw [← HA2.out]; exact specDec kborn kborn (Nat.le_refl _) (by omega) wx
  have N3 : Hid (∀ wx, Calls Tryz.prog 40 #[.int .i64 (R.length : Int)] wx fun e w' => e = .returned (.string A3) ∧ Below wx.heap.size wx w') := fun wx => by rw [← HA3.out]; exact specNum R.length (by omega) wx
  have N4 : Hid (∀ wx, Calls Tryz.prog 42 #[.string fr] wx fun e w' => e = .returned (.string A4) ∧ Below wx.heap.size wx w') := fun wx => by rw [← HA4.out]; exact specStr fr m1 wx
  clear t1 t2 t3 t4 t5 sA1 sA2 sA3 sA4 HA1 HA2 HA3 HA4 HB1 HB2 HB3 HB4 HB5
  have lM : w.heap.size + 1 < w3.heap.size := HM3.out.lt
  have x0 : w3.cell? ⟨w.heap.size + 1, 0, none⟩ = some (.int .i64 (kmid : Int)) := HM3.out.cell 0
  have x1 : w3.cell? ⟨w.heap.size + 1, 1, none⟩ = some (.int .i64 (kborn : Int)) := HM3.out.cell 1
  have x2 : w3.cell? ⟨w.heap.size + 1, 2, none⟩ = some (.string fr) := HM3.out.cell 2
  have x3 : w3.cell? ⟨w.heap.size + 1, 3, none⟩ = some (.slice (some ⟨b, off, none⟩) R.length c3) := HM3.out.cell 3
  go_upto_region 7 with fail
  go_region_held3 (fun w' => w'.cell? ⟨w.heap.size + 1, 0, none⟩ = some (.int .i64 (kmid : Int)) ∧ w'.cell? ⟨w.heap.size + 1, 1, none⟩ = some (.int .i64 (kborn : Int)) ∧ w'.cell? ⟨w.heap.size + 1, 2, none⟩ = some (.string fr) ∧ w'.cell? ⟨w.heap.size + 1, 3, none⟩ = some (.slice (some ⟨b, off, none⟩) R.length c3)) (first | (exact ⟨n0, n1, n2, n3⟩) | (exact ⟨m0, m1, m2, m3⟩) | (exact ⟨l0, l1, l2, l3⟩) | (exact ⟨k0, k1, k2, k3⟩) | go_keep) (first | (go_at_call 40; refine (N1.out _).mono ?_; rintro e v1 ⟨rfl, hbx⟩; have Hv1 : Hid (Below w3.heap.size w3 v1) := (Below.refl w3.heap.size w3).drew.trans hbx; have k0 := (Hv1.out.cell (p := ⟨w.heap.size + 1, 0, none⟩) lM).trans x0; have k1 := (Hv1.out.cell (p := ⟨w.heap.size + 1, 1, none⟩) lM).trans x1; have k2 := (Hv1.out.cell (p := ⟨w.heap.size + 1, 2, none⟩) lM).trans x2; have k3 := (Hv1.out.cell (p := ⟨w.heap.size + 1, 3, none⟩) lM).trans x3; clear hbx) | (go_at_call 41; refine (N2.out _).mono ?_; rintro e v2 ⟨rfl, hbx⟩; have Hv2 : Hid (Below w3.heap.size w3 v2) := Hv1.out.trans (hbx.mono Hv1.out.size); have l0 := (Hv2.out.cell (p := ⟨w.heap.size + 1, 0, none⟩) lM).trans x0; have l1 := (Hv2.out.cell (p := ⟨w.heap.size + 1, 1, none⟩) lM).trans x1; have l2 := (Hv2.out.cell (p := ⟨w.heap.size + 1, 2, none⟩) lM).trans x2; have l3 := (Hv2.out.cell (p := ⟨w.heap.size + 1, 3, none⟩) lM).trans x3; clear hbx) | (go_at_call 40; refine (N3.out _).mono ?_; rintro e v3 ⟨rfl, hbx⟩; have Hv3 : Hid (Below w3.heap.size w3 v3) := Hv2.out.trans (hbx.mono Hv2.out.size); have m0 := (Hv3.out.cell (p := ⟨w.heap.size + 1, 0, none⟩) lM).trans x0; have m1 := (Hv3.out.cell (p := ⟨w.heap.size + 1, 1, none⟩) lM).trans x1; have m2 := (Hv3.out.cell (p := ⟨w.heap.size + 1, 2, none⟩) lM).trans x2; have m3 := (Hv3.out.cell (p := ⟨w.heap.size + 1, 3, none⟩) lM).trans x3; clear hbx) | (go_at_call 42; refine (N4.out _).mono ?_; rintro e v4 ⟨rfl, hbx⟩; have Hv4 : Hid (Below w3.heap.size w3 v4) := Hv3.out.trans (hbx.mono Hv3.out.size); have n0 := (Hv4.out.cell (p := ⟨w.heap.size + 1, 0, none⟩) lM).trans x0; have n1 := (Hv4.out.cell (p := ⟨w.heap.size + 1, 1, none⟩) lM).trans x1; have n2 := (Hv4.out.cell (p := ⟨w.heap.size + 1, 2, none⟩) lM).trans x2; have n3 := (Hv4.out.cell (p := ⟨w.heap.size + 1, 3, none⟩) lM).trans x3; clear hbx))
  have b4 : Below w.heap.size w v4 := b3.trans (Hv4.out.mono b3.size)
  have HM4 : Hid _ := HM3.out.below Hv4.out
  clear Hv1 Hv2 Hv3 Hv4 k0 k1 k2 k3 l0 l1 l2 l3 m0 m1 m2 m3 n0 n1 n2 n3 x0 x1 x2 x3 g1 g2 g3 g4 g5 N1 N2 N3 N4 HM3 b3 lM
  have x3 : v4.cell? ⟨w.heap.size + 1, 3, none⟩ = some (.slice (some ⟨b, off, none⟩) R.length c3) := HM4.out.cell 3
  go_wp2_with fail
  go_loopw [6, 94] (fun ov iv wr => ∃ (k : Nat) (s : ByteArray), k ≤ R.length ∧ iv = .int .i64 k ∧ ov = .string s ∧ Hid (1 ≤ s.size ∧ s.size ≤ 1048700 + k * 1048600) ∧ Hid (Below v4.heap.size v4 wr)) (fun _ iv _ => R.length - (intOf iv).toNat)
  case atStart => exact ⟨0, B5, Nat.zero_le _, rfl, rfl, by have := T5.out; exact ⟨by omega, by omega⟩, Below.refl _ _⟩
  case round =>
    obtain ⟨k, s, hk, rfl, rfl, HSZ, HB⟩ := hrel
    by_cases hlt : k < R.length
    · have BW : Hid (Below w.heap.size w wr) := b4.trans (HB.out.mono b4.size)
      have y0 : wr.cell? ⟨b, off + k, none⟩ = some (.string R[k]) := (BW.out.cell (p := ⟨b, off + k, none⟩) hbw).trans (HC.out k hlt)
      have hsk := HS.out R[k] (List.getElem_mem _)
      generalize R[k] = X at *
      obtain ⟨Y, HY⟩ : ∃ Y, Hid (strB X = Y) := ⟨_, rfl⟩
      have sY := strB_size hsk
      rw [HY.out] at sY
      obtain ⟨Z, HZ⟩ : ∃ Z, Hid (s ++ Y = Z) := ⟨_, rfl⟩
      have tZ : Z.size = s.size + Y.size := by rw [← HZ.out, ByteArray.size_append]
      have hsz := HSZ.out
      have HTZ : Hid (1 ≤ Z.size ∧ Z.size ≤ 1048700 + (k + 1) * 1048600) := ⟨by omega, by omega⟩
      have g1 : ∀ wx : World, (Op.stringOp .add s Y).run Tryz.prog wx = .ok (.string Z) wx := fun wx => by rw [← HZ.out]; exact run_string_add_sum wx _ _ (by omega)
      clear tZ hsz sY HZ
      go_wp2_with fail
      refine (specStr X hsk _).mono ?_
      rw [HY.out]
      rintro e w5 ⟨rfl, hb5⟩
      have B5' : Hid (Below v4.heap.size v4 w5) := HB.out.trans (hb5.mono HB.out.size)
      clear hb5 y0
      go_wp2
      go_roundw
      case rel => exact ⟨k + 1, Z, by omega, by go_num, rfl, HTZ, B5'⟩
      case measure => simp [intOf]; omega
    · obtain rfl : k = R.length := by omega
      have x4 : wr.cell? ⟨w.heap.size + 1, 4, none⟩ = some (.string bo) := (HM4.out.below HB.out).cell 4
      obtain ⟨Y, HY⟩ : ∃ Y, Hid (strB bo = Y) := ⟨_, rfl⟩
      have sY := strB_size m2
      rw [HY.out] at sY
      obtain ⟨Z, HZ⟩ : ∃ Z, Hid (s ++ Y = Z) := ⟨_, rfl⟩
      have tZ : Z.size = s.size + Y.size := by rw [← HZ.out, ByteArray.size_append]
      have hsz := HSZ.out
      have HTZ : Hid (1 ≤ Z.size) := by show 1 ≤ _; omega
      have g1 : ∀ wx : World, (Op.stringOp .add s Y).run Tryz.prog wx = .ok (.string Z) wx := fun wx => by rw [← HZ.out]; exact run_string_add_sum wx _ _ (by omega)
      clear tZ hsz sY HZ
      go_wp2_with fail
      refine (specStr bo m2 _).mono ?_
      rw [HY.out]
      rintro e w5 ⟨rfl, hb5⟩
      have B5' : Hid (Below w.heap.size w w5) := b4.trans ((HB.out.trans (hb5.mono HB.out.size)).mono b4.size)
      clear hb5 x4
      go_wp2
      go_ret
      exact ⟨⟨_, rfl, .inr ⟨HF.out, HTZ.out⟩⟩, B5'.out⟩
end Go.Proofs.YtlolnfpfipnfeaaGreat
