import Derived.Test.YtlolnfpfipnfeaaGreatMg34
import Derived.Test.YtlolnfpfipnfeaaGreatMg33
import Derived.Laws.AppendOwn
import Derived.Deep.DeepCutAuto
import Derived.Deep.CutBlock
namespace Go.Proofs.YtlolnfpfipnfeaaGreat
open Go.ChangeShapes Go.WideShapes Go.ChangeAt Go.RowKit
attribute [local go_sem ↓] Go.wp_at_zero Go.wp_at_succ


set_option maxHeartbeats 8000000 in
set_option maxRecDepth 100000 in
theorem sa4was (mid born : Int) (fr bo : ByteArray) (a3 : Option Addr) (n3 c3 : Nat) (id rc vk vc : Int) (vt : ByteArray) (tr due : Int) (nx : Int) (v : Value) (L : List It) (P : List (Value × Value)) (lo : Nat) (w : World) (h : ItsP w lo v L P) (hL : L.length ≤ 1048576) (hs : ∀ x ∈ L, SmallI x) (hpk : ∀ wx, Below w.heap.size w wx → Calls Tryz.prog 19 #[.agg #[.int .i64 4, .int .i64 mid, .int .i64 born, .string fr, .slice a3 n3 c3, .string bo, .int .i64 id, .int .i64 rc, .int .i64 vk, .int .i64 vc, .string vt, .int .i64 tr, .int .i64 due]] wx fun e w' => (∃ s : ByteArray, e = .returned (.string s) ∧ 1 ≤ s.size) ∧ Below wx.heap.size wx w') (i : Nat) (hf : findI id L 0 = some i) (hi : i < L.length) (hbn : L[i].bn = true) :
    Calls Tryz.prog 6 #[.agg #[v, .int .i64 nx], .agg #[.int .i64 4, .int .i64 mid, .int .i64 born, .string fr, .slice a3 n3 c3, .string bo, .int .i64 id, .int .i64 rc, .int .i64 vk, .int .i64 vc, .string vt, .int .i64 tr, .int .i64 due]] w fun e w' => (∃ u P', e = .returned (.tuple #[.agg #[u, .int .i64 nx], .bool false]) ∧ ItsP w' w.heap.size u L P') ∧ Below w.heap.size w w' := by
  have HBN : Hid (L[i].bn = true) := hbn
  clear hbn
  have HP : Hid (placeI id L = (i : Int)) := by show _ = _; unfold placeI; rw [hf]
  clear hf
  obtain ⟨a1, c1, rfl⟩ := h.form
  have H : Hid (ItsP w lo (.slice a1 L.length c1) L P) := h
  have HS : Hid (∀ x ∈ L, SmallI x) := hs
  have HPK : Hid (∀ wx, Below w.heap.size w wx → Calls Tryz.prog 19 #[.agg #[.int .i64 4, .int .i64 mid, .int .i64 born, .string fr, .slice a3 n3 c3, .string bo, .int .i64 id, .int .i64 rc, .int .i64 vk, .int .i64 vc, .string vt, .int .i64 tr, .int .i64 due]] wx fun e w' => (∃ s : ByteArray, e = .returned (.string s) ∧ 1 ≤ s.size) ∧ Below wx.heap.size wx w') := hpk
  clear h hs hpk
  go_enter Tryz.func6, Tryz.ntmps6
  go_wp2_with fail
  generalize hW : World.alloc _ _ = W0
  have HQ0 : Hid (Blk w.heap.size #[.slice a1 L.length c1, .int .i64 nx] W0) := by show Blk _ _ _; rw [← hW]; exact (blk3I w _ _ _ _ _ _).1
  have HR0 : Hid (Blk (w.heap.size + 1) #[.int .i64 4, .int .i64 mid, .int .i64 born, .string fr, .slice a3 n3 c3, .string bo, .int .i64 id, .int .i64 rc, .int .i64 vk, .int .i64 vc, .string vt, .int .i64 tr, .int .i64 due] W0) := by show Blk _ _ _; rw [← hW]; exact (blk3I w _ _ _ _ _ _).2.1
  have HZ0 : Hid (Blk (w.heap.size + 1 + 1) #[.slice none 0 0, .int .i64 0] W0) := by show Blk _ _ _; rw [← hW]; exact (blk3I w _ _ _ _ _ _).2.2
  have b0 : Below w.heap.size w W0 := by rw [← hW]; exact below3 _ _ _ _
  have z0 : W0.heap.size = w.heap.size + 3 := by rw [← hW]; simp
  clear hW
  refine (specQueue _ nx L P lo _ (H.out.below b0 (Nat.le_refl _)) hL HS.out).mono ?_
  rintro e w1 ⟨⟨u, P1, rfl, S1⟩, hb1⟩
  obtain ⟨a5, c5, hf⟩ := S1.form
  subst hf
  have z1 := hb1.size
  have b1 : Below w.heap.size w w1 := b0.trans (hb1.mono b0.size)
  have HI1 : Hid (ItsP w1 W0.heap.size (.slice a5 L.length c5) L P1) := S1
  have HQ1 : Hid _ := HQ0.out.below hb1
  have HR1 : Hid _ := HR0.out.below hb1
  have HZ1 : Hid _ := HZ0.out.below hb1
  clear hb1 S1 HQ0 HR0 HZ0 b0
  have x0 : w1.cell? ⟨w.heap.size + 1, 0, none⟩ = some (.int .i64 4) := HR1.out.cell 0
  have x1 : w1.cell? ⟨w.heap.size + 1, 1, none⟩ = some (.int .i64 mid) := HR1.out.cell 1
  have x2 : w1.cell? ⟨w.heap.size + 1, 2, none⟩ = some (.int .i64 born) := HR1.out.cell 2
  have x3 : w1.cell? ⟨w.heap.size + 1, 3, none⟩ = some (.string fr) := HR1.out.cell 3
  have x4 : w1.cell? ⟨w.heap.size + 1, 4, none⟩ = some (.slice a3 n3 c3) := HR1.out.cell 4
  have x5 : w1.cell? ⟨w.heap.size + 1, 5, none⟩ = some (.string bo) := HR1.out.cell 5
  have x6 : w1.cell? ⟨w.heap.size + 1, 6, none⟩ = some (.int .i64 id) := HR1.out.cell 6
  have x7 : w1.cell? ⟨w.heap.size + 1, 7, none⟩ = some (.int .i64 rc) := HR1.out.cell 7
  have x8 : w1.cell? ⟨w.heap.size + 1, 8, none⟩ = some (.int .i64 vk) := HR1.out.cell 8
  have x9 : w1.cell? ⟨w.heap.size + 1, 9, none⟩ = some (.int .i64 vc) := HR1.out.cell 9
  have x10 : w1.cell? ⟨w.heap.size + 1, 10, none⟩ = some (.string vt) := HR1.out.cell 10
  have x11 : w1.cell? ⟨w.heap.size + 1, 11, none⟩ = some (.int .i64 tr) := HR1.out.cell 11
  have x12 : w1.cell? ⟨w.heap.size + 1, 12, none⟩ = some (.int .i64 due) := HR1.out.cell 12
  have lR1 : w.heap.size + 1 < w1.heap.size := HR1.out.lt
  go_wp2_with fail
  generalize hW : World.alloc _ _ = W2
  have HO2 : Hid (Blk w1.heap.size #[.slice a5 L.length c5, .int .i64 nx] W2) := by show Blk _ _ _; rw [← hW]; exact Blk.new w1 _ _
  have hb2 : Below w1.heap.size w1 W2 := by rw [← hW]; exact below1 _ _
  have z2 : W2.heap.size = w1.heap.size + 1 := by rw [← hW]; simp
  clear hW x0 x1 x2 x3 x4 x5 x6 x7 x8 x9 x10 x11 x12
  have b2 : Below w.heap.size w W2 := b1.trans (hb2.mono b1.size)
  refine (HPK.out _ b2).mono ?_
  rintro e w3 ⟨⟨s, rfl, hs⟩, hb3⟩
  have HSZ : Hid (1 ≤ s.size) := hs
  have z3 := hb3.size
  have b3 : Below w.heap.size w w3 := b2.trans (hb3.mono b2.size)
  have HQ : Hid (Blk w.heap.size #[.slice a1 L.length c1, .int .i64 nx] w3) := (HQ1.out.below hb2).below hb3
  have HR : Hid (Blk (w.heap.size + 1) #[.int .i64 4, .int .i64 mid, .int .i64 born, .string fr, .slice a3 n3 c3, .string bo, .int .i64 id, .int .i64 rc, .int .i64 vk, .int .i64 vc, .string vt, .int .i64 tr, .int .i64 due] w3) := (HR1.out.below hb2).below hb3
  have HZ : Hid (Blk (w.heap.size + 1 + 1) #[.slice none 0 0, .int .i64 0] w3) := (HZ1.out.below hb2).below hb3
  have HO : Hid (Blk w1.heap.size #[.slice a5 L.length c5, .int .i64 nx] w3) := HO2.out.below hb3
  have HI : Hid (ItsP w3 W0.heap.size (.slice a5 L.length c5) L P1) := (HI1.out.below hb2 (Nat.le_refl _)).below hb3 (Nat.le_refl _)
  have HN : Hid (NeB w1.heap.size (.slice a5 L.length c5) P1) := NeB.of HI1.out (Nat.le_refl _)
  have H3 : Hid (ItsP w3 lo (.slice a1 L.length c1) L P) := H.out.below b3 (Nat.le_refl _)
  clear hs hb2 hb3 b1 b2 HQ1 HR1 HZ1 HO2 HI1 H HPK
  have hln := list_ne (x := s) (by have := HSZ.out; omega)
  have hl2 := list_ne2 (x := s) (by have := HSZ.out; omega)
  have x0 : w3.cell? ⟨w.heap.size + 1, 0, none⟩ = some (.int .i64 4) := HR.out.cell 0
  have x6 : w3.cell? ⟨w.heap.size + 1, 6, none⟩ = some (.int .i64 id) := HR.out.cell 6
  have q0 : w3.cell? ⟨w.heap.size, 0, none⟩ = some (.slice a1 L.length c1) := HQ.out.cell 0
  have q1 : w3.cell? ⟨w.heap.size, 1, none⟩ = some (.int .i64 nx) := HQ.out.cell 1
  go_wp2_with fail
  refine (specFind _ nx id L P lo _ H3.out hL).mono ?_
  rw [HP.out]
  rintro e w4 ⟨rfl, hb4⟩
  have z4 := hb4.size
  have b4 : Below w.heap.size w w4 := b3.trans (hb4.mono b3.size)
  have HR4 : Hid (Blk (w.heap.size + 1) #[.int .i64 4, .int .i64 mid, .int .i64 born, .string fr, .slice a3 n3 c3, .string bo, .int .i64 id, .int .i64 rc, .int .i64 vk, .int .i64 vc, .string vt, .int .i64 tr, .int .i64 due] w4) := HR.out.below hb4
  have HZ4 : Hid (Blk (w.heap.size + 1 + 1) #[.slice none 0 0, .int .i64 0] w4) := HZ.out.below hb4
  have HO4 : Hid (Blk w1.heap.size #[.slice a5 L.length c5, .int .i64 nx] w4) := HO.out.below hb4
  have HI4 : Hid (ItsP w4 W0.heap.size (.slice a5 L.length c5) L P1) := HI.out.below hb4 (Nat.le_refl _)
  clear hb4 HR HZ HO HI H3 HQ b3 q0 q1 x0 x6 hln hl2 HSZ
  obtain ⟨g, rfl⟩ : ∃ g, a5 = some ⟨g, 0, none⟩ := by
    rcases HI4.out.row.cases with ⟨_, hL0⟩ | ⟨g, cap, hv, hs⟩
    · have := congrArg List.length hL0; rw [irow_len HI4.out.len] at this; simp only [List.length_nil] at this; omega
    · injection hv with h1; exact ⟨g, h1⟩
  have hg := HI4.out.row.own g rfl
  have hgo : g ≠ w1.heap.size := HN.out.v g rfl
  have hPl := HI4.out.len
  have lO4 : w1.heap.size < w4.heap.size := HO4.out.lt
  have k1 : (0 : Int) ≤ (i : Int) := by omega
  have k2 : (i : Int) < (L.length : Int) := by omega
  have k3 : ¬ (i : Int) < 0 := by omega
  obtain ⟨y0, y1, y2, y3, y4, y5, y6, y7, y8⟩ := HI4.out.cells i hi
  have hS := HI4.out.str i hi
  have hV := HI4.out.vds i hi
  obtain ⟨p1, q1, e1⟩ := strs_formR hS
  obtain ⟨p2, q2, e2⟩ := vds_form hV
  rw [e1] at y3 hS
  rw [e2] at y5 hV
  have HS1 : Hid (Strs w4 W0.heap.size (.slice p1 L[i].R.length q1) L[i].R) := hS
  have HV1 : Hid (Vds w4 W0.heap.size (.slice p2 L[i].V.length q2) L[i].V) := hV
  have HE1 : Hid (P1[i]'(by omega) = (.slice p1 L[i].R.length q1, .slice p2 L[i].V.length q2)) := by show _ = _; rw [← e1, ← e2]
  clear hS hV e1 e2
  obtain ⟨X, HX⟩ : ∃ X, Hid (L[i] = X) := ⟨L[i], rfl⟩
  rw [HX.out] at y0 y1 y2 y3 y4 y5 y6 y7 y8 HS1 HV1 HE1
  have x0 : w4.cell? ⟨w.heap.size + 1, 0, none⟩ = some (.int .i64 4) := HR4.out.cell 0
  have o0 : w4.cell? ⟨w1.heap.size, 0, none⟩ = some (.slice (some ⟨g, 0, none⟩) L.length c5) := HO4.out.cell 0
  have lR4 : w.heap.size + 1 < w4.heap.size := HR4.out.lt
  go_upto_region 40 with fail
  have HNX4 := NeB.of HI4.out (Nat.le_refl _)
  generalize hW : World.alloc _ _ = W5
  have HX5 : Hid (Blk w4.heap.size #[.int .i64 X.id, .int .i64 X.born, .string X.fr, .slice p1 X.R.length q1, .string X.bo, .slice p2 X.V.length q2, .int .i64 X.tr, .int .i64 X.du, .bool X.bn] W5) := by show Blk _ _ _; rw [← hW]; exact Blk.new w4 _ _
  have hb5 : Below w4.heap.size w4 W5 := by rw [← hW]; exact below1 _ _
  have z5 : W5.heap.size = w4.heap.size + 1 := by rw [← hW]; simp
  clear hW y0 y1 y2 y3 y4 y5 y6 y7 y8 x0 o0
  have b5 : Below w.heap.size w W5 := b4.trans (hb5.mono b4.size)
  have HR5 : Hid (Blk (w.heap.size + 1) #[.int .i64 4, .int .i64 mid, .int .i64 born, .string fr, .slice a3 n3 c3, .string bo, .int .i64 id, .int .i64 rc, .int .i64 vk, .int .i64 vc, .string vt, .int .i64 tr, .int .i64 due] W5) := HR4.out.below hb5
  have HZ5 : Hid (Blk (w.heap.size + 1 + 1) #[.slice none 0 0, .int .i64 0] W5) := HZ4.out.below hb5
  have HO5 : Hid (Blk w1.heap.size #[.slice (some ⟨g, 0, none⟩) L.length c5, .int .i64 nx] W5) := HO4.out.below hb5
  have HI5 : Hid (ItsP W5 W0.heap.size (.slice (some ⟨g, 0, none⟩) L.length c5) L P1) := HI4.out.below hb5 (Nat.le_refl _)
  have HV5 : Hid (Vds W5 W0.heap.size (.slice p2 X.V.length q2) X.V) := vds_below HV1.out hb5 (Nat.le_refl _)
  have HS5 : Hid (Strs W5 W0.heap.size (.slice p1 X.R.length q1) X.R) := strs_below HS1.out hb5 (Nat.le_refl _)
  clear hb5 HR4 HZ4 HO4 HI4 HV1 HS1 b4
  have t8 : W5.cell? ⟨w4.heap.size, 8, none⟩ = some (.bool X.bn) := HX5.out.cell 8
  clear HNX4
  rw [← HX.out, HBN.out] at t8
  have o0 : W5.cell? ⟨w1.heap.size, 0, none⟩ = some (.slice (some ⟨g, 0, none⟩) L.length c5) := HO5.out.cell 0
  have o1 : W5.cell? ⟨w1.heap.size, 1, none⟩ = some (.int .i64 nx) := HO5.out.cell 1
  have r0 : W5.cell? ⟨w.heap.size + 1 + 1, 0, none⟩ = some (.slice none 0 0) := HZ5.out.cell 0
  have r1 : W5.cell? ⟨w.heap.size + 1 + 1, 1, none⟩ = some (.int .i64 0) := HZ5.out.cell 1
  have g0 := HZ5.out.free 0
  have g1 := HZ5.out.free 1
  go_wp2
  refine bodyPost_ret (v := .tuple #[.agg #[.slice (some ⟨g, 0, none⟩) L.length c5, .int .i64 nx], .bool false]) (by simp [results, Tryz.results6, go_sem, r0, r1]) rfl ?_
  refine ⟨⟨_, P1, rfl, ?_⟩, ?_⟩
  · refine ItsP.le (lo := W0.heap.size) ?_ (by omega)
    refine ItsP.setB (ItsP.setB ?_ (by dsimp only; omega) _) (by dsimp only; omega) _
    exact HI5.out
  · refine Below.setCell (Below.setCell ?_ (by dsimp only; omega) _) (by dsimp only; omega) _
    exact b5

set_option maxHeartbeats 8000000 in
set_option maxRecDepth 100000 in
theorem sa4yes (mid born : Int) (fr bo : ByteArray) (a3 : Option Addr) (n3 c3 : Nat) (id rc vk vc : Int) (vt : ByteArray) (tr due : Int) (nx : Int) (v : Value) (L : List It) (P : List (Value × Value)) (lo : Nat) (w : World) (h : ItsP w lo v L P) (hL : L.length ≤ 1048576) (hs : ∀ x ∈ L, SmallI x) (hpk : ∀ wx, Below w.heap.size w wx → Calls Tryz.prog 19 #[.agg #[.int .i64 4, .int .i64 mid, .int .i64 born, .string fr, .slice a3 n3 c3, .string bo, .int .i64 id, .int .i64 rc, .int .i64 vk, .int .i64 vc, .string vt, .int .i64 tr, .int .i64 due]] wx fun e w' => (∃ s : ByteArray, e = .returned (.string s) ∧ 1 ≤ s.size) ∧ Below wx.heap.size wx w') (i : Nat) (hf : findI id L 0 = some i) (hi : i < L.length) (hbn : L[i].bn = false) :
    Calls Tryz.prog 6 #[.agg #[v, .int .i64 nx], .agg #[.int .i64 4, .int .i64 mid, .int .i64 born, .string fr, .slice a3 n3 c3, .string bo, .int .i64 id, .int .i64 rc, .int .i64 vk, .int .i64 vc, .string vt, .int .i64 tr, .int .i64 due]] w fun e w' => (∃ u P', e = .returned (.tuple #[.agg #[u, .int .i64 nx], .bool true]) ∧ ItsP w' w.heap.size u (L.set i { L[i] with bn := true }) P') ∧ Below w.heap.size w w' := by
  have HBN : Hid (L[i].bn = false) := hbn
  clear hbn
  have HP : Hid (placeI id L = (i : Int)) := by show _ = _; unfold placeI; rw [hf]
  clear hf
  obtain ⟨a1, c1, rfl⟩ := h.form
  have H : Hid (ItsP w lo (.slice a1 L.length c1) L P) := h
  have HS : Hid (∀ x ∈ L, SmallI x) := hs
  have HPK : Hid (∀ wx, Below w.heap.size w wx → Calls Tryz.prog 19 #[.agg #[.int .i64 4, .int .i64 mid, .int .i64 born, .string fr, .slice a3 n3 c3, .string bo, .int .i64 id, .int .i64 rc, .int .i64 vk, .int .i64 vc, .string vt, .int .i64 tr, .int .i64 due]] wx fun e w' => (∃ s : ByteArray, e = .returned (.string s) ∧ 1 ≤ s.size) ∧ Below wx.heap.size wx w') := hpk
  clear h hs hpk
  go_enter Tryz.func6, Tryz.ntmps6
  go_wp2_with fail
  generalize hW : World.alloc _ _ = W0
  have HQ0 : Hid (Blk w.heap.size #[.slice a1 L.length c1, .int .i64 nx] W0) := by show Blk _ _ _; rw [← hW]; exact (blk3I w _ _ _ _ _ _).1
  have HR0 : Hid (Blk (w.heap.size + 1) #[.int .i64 4, .int .i64 mid, .int .i64 born, .string fr, .slice a3 n3 c3, .string bo, .int .i64 id, .int .i64 rc, .int .i64 vk, .int .i64 vc, .string vt, .int .i64 tr, .int .i64 due] W0) := by show Blk _ _ _; rw [← hW]; exact (blk3I w _ _ _ _ _ _).2.1
  have HZ0 : Hid (Blk (w.heap.size + 1 + 1) #[.slice none 0 0, .int .i64 0] W0) := by show Blk _ _ _; rw [← hW]; exact (blk3I w _ _ _ _ _ _).2.2
  have b0 : Below w.heap.size w W0 := by rw [← hW]; exact below3 _ _ _ _
  have z0 : W0.heap.size = w.heap.size + 3 := by rw [← hW]; simp
  clear hW
  refine (specQueue _ nx L P lo _ (H.out.below b0 (Nat.le_refl _)) hL HS.out).mono ?_
  rintro e w1 ⟨⟨u, P1, rfl, S1⟩, hb1⟩
  obtain ⟨a5, c5, hf⟩ := S1.form
  subst hf
  have z1 := hb1.size
  have b1 : Below w.heap.size w w1 := b0.trans (hb1.mono b0.size)
  have HI1 : Hid (ItsP w1 W0.heap.size (.slice a5 L.length c5) L P1) := S1
  have HQ1 : Hid _ := HQ0.out.below hb1
  have HR1 : Hid _ := HR0.out.below hb1
  have HZ1 : Hid _ := HZ0.out.below hb1
  clear hb1 S1 HQ0 HR0 HZ0 b0
  have x0 : w1.cell? ⟨w.heap.size + 1, 0, none⟩ = some (.int .i64 4) := HR1.out.cell 0
  have x1 : w1.cell? ⟨w.heap.size + 1, 1, none⟩ = some (.int .i64 mid) := HR1.out.cell 1
  have x2 : w1.cell? ⟨w.heap.size + 1, 2, none⟩ = some (.int .i64 born) := HR1.out.cell 2
  have x3 : w1.cell? ⟨w.heap.size + 1, 3, none⟩ = some (.string fr) := HR1.out.cell 3
  have x4 : w1.cell? ⟨w.heap.size + 1, 4, none⟩ = some (.slice a3 n3 c3) := HR1.out.cell 4
  have x5 : w1.cell? ⟨w.heap.size + 1, 5, none⟩ = some (.string bo) := HR1.out.cell 5
  have x6 : w1.cell? ⟨w.heap.size + 1, 6, none⟩ = some (.int .i64 id) := HR1.out.cell 6
  have x7 : w1.cell? ⟨w.heap.size + 1, 7, none⟩ = some (.int .i64 rc) := HR1.out.cell 7
  have x8 : w1.cell? ⟨w.heap.size + 1, 8, none⟩ = some (.int .i64 vk) := HR1.out.cell 8
  have x9 : w1.cell? ⟨w.heap.size + 1, 9, none⟩ = some (.int .i64 vc) := HR1.out.cell 9
  have x10 : w1.cell? ⟨w.heap.size + 1, 10, none⟩ = some (.string vt) := HR1.out.cell 10
  have x11 : w1.cell? ⟨w.heap.size + 1, 11, none⟩ = some (.int .i64 tr) := HR1.out.cell 11
  have x12 : w1.cell? ⟨w.heap.size + 1, 12, none⟩ = some (.int .i64 due) := HR1.out.cell 12
  have lR1 : w.heap.size + 1 < w1.heap.size := HR1.out.lt
  go_wp2_with fail
  generalize hW : World.alloc _ _ = W2
  have HO2 : Hid (Blk w1.heap.size #[.slice a5 L.length c5, .int .i64 nx] W2) := by show Blk _ _ _; rw [← hW]; exact Blk.new w1 _ _
  have hb2 : Below w1.heap.size w1 W2 := by rw [← hW]; exact below1 _ _
  have z2 : W2.heap.size = w1.heap.size + 1 := by rw [← hW]; simp
  clear hW x0 x1 x2 x3 x4 x5 x6 x7 x8 x9 x10 x11 x12
  have b2 : Below w.heap.size w W2 := b1.trans (hb2.mono b1.size)
  refine (HPK.out _ b2).mono ?_
  rintro e w3 ⟨⟨s, rfl, hs⟩, hb3⟩
  have HSZ : Hid (1 ≤ s.size) := hs
  have z3 := hb3.size
  have b3 : Below w.heap.size w w3 := b2.trans (hb3.mono b2.size)
  have HQ : Hid (Blk w.heap.size #[.slice a1 L.length c1, .int .i64 nx] w3) := (HQ1.out.below hb2).below hb3
  have HR : Hid (Blk (w.heap.size + 1) #[.int .i64 4, .int .i64 mid, .int .i64 born, .string fr, .slice a3 n3 c3, .string bo, .int .i64 id, .int .i64 rc, .int .i64 vk, .int .i64 vc, .string vt, .int .i64 tr, .int .i64 due] w3) := (HR1.out.below hb2).below hb3
  have HZ : Hid (Blk (w.heap.size + 1 + 1) #[.slice none 0 0, .int .i64 0] w3) := (HZ1.out.below hb2).below hb3
  have HO : Hid (Blk w1.heap.size #[.slice a5 L.length c5, .int .i64 nx] w3) := HO2.out.below hb3
  have HI : Hid (ItsP w3 W0.heap.size (.slice a5 L.length c5) L P1) := (HI1.out.below hb2 (Nat.le_refl _)).below hb3 (Nat.le_refl _)
  have HN : Hid (NeB w1.heap.size (.slice a5 L.length c5) P1) := NeB.of HI1.out (Nat.le_refl _)
  have H3 : Hid (ItsP w3 lo (.slice a1 L.length c1) L P) := H.out.below b3 (Nat.le_refl _)
  clear hs hb2 hb3 b1 b2 HQ1 HR1 HZ1 HO2 HI1 H HPK
  have hln := list_ne (x := s) (by have := HSZ.out; omega)
  have hl2 := list_ne2 (x := s) (by have := HSZ.out; omega)
  have x0 : w3.cell? ⟨w.heap.size + 1, 0, none⟩ = some (.int .i64 4) := HR.out.cell 0
  have x6 : w3.cell? ⟨w.heap.size + 1, 6, none⟩ = some (.int .i64 id) := HR.out.cell 6
  have q0 : w3.cell? ⟨w.heap.size, 0, none⟩ = some (.slice a1 L.length c1) := HQ.out.cell 0
  have q1 : w3.cell? ⟨w.heap.size, 1, none⟩ = some (.int .i64 nx) := HQ.out.cell 1
  go_wp2_with fail
  refine (specFind _ nx id L P lo _ H3.out hL).mono ?_
  rw [HP.out]
  rintro e w4 ⟨rfl, hb4⟩
  have z4 := hb4.size
  have b4 : Below w.heap.size w w4 := b3.trans (hb4.mono b3.size)
  have HR4 : Hid (Blk (w.heap.size + 1) #[.int .i64 4, .int .i64 mid, .int .i64 born, .string fr, .slice a3 n3 c3, .string bo, .int .i64 id, .int .i64 rc, .int .i64 vk, .int .i64 vc, .string vt, .int .i64 tr, .int .i64 due] w4) := HR.out.below hb4
  have HZ4 : Hid (Blk (w.heap.size + 1 + 1) #[.slice none 0 0, .int .i64 0] w4) := HZ.out.below hb4
  have HO4 : Hid (Blk w1.heap.size #[.slice a5 L.length c5, .int .i64 nx] w4) := HO.out.below hb4
  have HI4 : Hid (ItsP w4 W0.heap.size (.slice a5 L.length c5) L P1) := HI.out.below hb4 (Nat.le_refl _)
  clear hb4 HR HZ HO HI H3 HQ b3 q0 q1 x0 x6 hln hl2 HSZ
  obtain ⟨g, rfl⟩ : ∃ g, a5 = some ⟨g, 0, none⟩ := by
    rcases HI4.out.row.cases with ⟨_, hL0⟩ | ⟨g, cap, hv, hs⟩
    · have := congrArg List.length hL0; rw [irow_len HI4.out.len] at this; simp only [List.length_nil] at this; omega
    · injection hv with h1; exact ⟨g, h1⟩
  have hg := HI4.out.row.own g rfl
  have hgo : g ≠ w1.heap.size := HN.out.v g rfl
  have hPl := HI4.out.len
  have lO4 : w1.heap.size < w4.heap.size := HO4.out.lt
  have k1 : (0 : Int) ≤ (i : Int) := by omega
  have k2 : (i : Int) < (L.length : Int) := by omega
  have k3 : ¬ (i : Int) < 0 := by omega
  obtain ⟨y0, y1, y2, y3, y4, y5, y6, y7, y8⟩ := HI4.out.cells i hi
  have hS := HI4.out.str i hi
  have hV := HI4.out.vds i hi
  obtain ⟨p1, q1, e1⟩ := strs_formR hS
  obtain ⟨p2, q2, e2⟩ := vds_form hV
  rw [e1] at y3 hS
  rw [e2] at y5 hV
  have HS1 : Hid (Strs w4 W0.heap.size (.slice p1 L[i].R.length q1) L[i].R) := hS
  have HV1 : Hid (Vds w4 W0.heap.size (.slice p2 L[i].V.length q2) L[i].V) := hV
  have HE1 : Hid (P1[i]'(by omega) = (.slice p1 L[i].R.length q1, .slice p2 L[i].V.length q2)) := by show _ = _; rw [← e1, ← e2]
  clear hS hV e1 e2
  obtain ⟨X, HX⟩ : ∃ X, Hid (L[i] = X) := ⟨L[i], rfl⟩
  rw [HX.out] at y0 y1 y2 y3 y4 y5 y6 y7 y8 HS1 HV1 HE1
  have x0 : w4.cell? ⟨w.heap.size + 1, 0, none⟩ = some (.int .i64 4) := HR4.out.cell 0
  have o0 : w4.cell? ⟨w1.heap.size, 0, none⟩ = some (.slice (some ⟨g, 0, none⟩) L.length c5) := HO4.out.cell 0
  have lR4 : w.heap.size + 1 < w4.heap.size := HR4.out.lt
  go_upto_region 40 with fail
  have HNX4 := NeB.of HI4.out (Nat.le_refl _)
  generalize hW : World.alloc _ _ = W5
  have HX5 : Hid (Blk w4.heap.size #[.int .i64 X.id, .int .i64 X.born, .string X.fr, .slice p1 X.R.length q1, .string X.bo, .slice p2 X.V.length q2, .int .i64 X.tr, .int .i64 X.du, .bool X.bn] W5) := by show Blk _ _ _; rw [← hW]; exact Blk.new w4 _ _
  have hb5 : Below w4.heap.size w4 W5 := by rw [← hW]; exact below1 _ _
  have z5 : W5.heap.size = w4.heap.size + 1 := by rw [← hW]; simp
  clear hW y0 y1 y2 y3 y4 y5 y6 y7 y8 x0 o0
  have b5 : Below w.heap.size w W5 := b4.trans (hb5.mono b4.size)
  have HR5 : Hid (Blk (w.heap.size + 1) #[.int .i64 4, .int .i64 mid, .int .i64 born, .string fr, .slice a3 n3 c3, .string bo, .int .i64 id, .int .i64 rc, .int .i64 vk, .int .i64 vc, .string vt, .int .i64 tr, .int .i64 due] W5) := HR4.out.below hb5
  have HZ5 : Hid (Blk (w.heap.size + 1 + 1) #[.slice none 0 0, .int .i64 0] W5) := HZ4.out.below hb5
  have HO5 : Hid (Blk w1.heap.size #[.slice (some ⟨g, 0, none⟩) L.length c5, .int .i64 nx] W5) := HO4.out.below hb5
  have HI5 : Hid (ItsP W5 W0.heap.size (.slice (some ⟨g, 0, none⟩) L.length c5) L P1) := HI4.out.below hb5 (Nat.le_refl _)
  have HV5 : Hid (Vds W5 W0.heap.size (.slice p2 X.V.length q2) X.V) := vds_below HV1.out hb5 (Nat.le_refl _)
  have HS5 : Hid (Strs W5 W0.heap.size (.slice p1 X.R.length q1) X.R) := strs_below HS1.out hb5 (Nat.le_refl _)
  clear hb5 HR4 HZ4 HO4 HI4 HV1 HS1 b4
  have t0 : W5.cell? ⟨w4.heap.size, 0, none⟩ = some (.int .i64 X.id) := HX5.out.cell 0
  have t1 : W5.cell? ⟨w4.heap.size, 1, none⟩ = some (.int .i64 X.born) := HX5.out.cell 1
  have t2 : W5.cell? ⟨w4.heap.size, 2, none⟩ = some (.string X.fr) := HX5.out.cell 2
  have t3 : W5.cell? ⟨w4.heap.size, 3, none⟩ = some (.slice p1 X.R.length q1) := HX5.out.cell 3
  have t4 : W5.cell? ⟨w4.heap.size, 4, none⟩ = some (.string X.bo) := HX5.out.cell 4
  have t5 : W5.cell? ⟨w4.heap.size, 5, none⟩ = some (.slice p2 X.V.length q2) := HX5.out.cell 5
  have t6 : W5.cell? ⟨w4.heap.size, 6, none⟩ = some (.int .i64 X.tr) := HX5.out.cell 6
  have t7 : W5.cell? ⟨w4.heap.size, 7, none⟩ = some (.int .i64 X.du) := HX5.out.cell 7
  have t8 : W5.cell? ⟨w4.heap.size, 8, none⟩ = some (.bool X.bn) := HX5.out.cell 8
  rw [← HX.out, HBN.out] at t8
  have HNX : Hid (NeB w4.heap.size (.slice (some ⟨g, 0, none⟩) L.length c5) P1) := HNX4
  clear HNX4
  have n1 : w4.heap.size ≠ g := by omega
  have n2 : g ≠ w4.heap.size := by omega
  have n3 : w.heap.size + 1 ≠ w4.heap.size := by omega
  have n4 : w1.heap.size ≠ w4.heap.size := by omega
  have n5 : w1.heap.size ≠ g := Ne.symm hgo
  have n6 : w.heap.size + 1 + 1 ≠ w4.heap.size := by omega
  have n7 : w.heap.size + 1 + 1 ≠ g := by omega
  have ft := HX5.out.free
  have fg : ∀ o, W5.frozen? ⟨g, o, none⟩ = false := HI5.out.row.at.1.free
  have o0 : W5.cell? ⟨w1.heap.size, 0, none⟩ = some (.slice (some ⟨g, 0, none⟩) L.length c5) := HO5.out.cell 0
  have o1 : W5.cell? ⟨w1.heap.size, 1, none⟩ = some (.int .i64 nx) := HO5.out.cell 1
  have r0 : W5.cell? ⟨w.heap.size + 1 + 1, 0, none⟩ = some (.slice none 0 0) := HZ5.out.cell 0
  have r1 : W5.cell? ⟨w.heap.size + 1 + 1, 1, none⟩ = some (.int .i64 0) := HZ5.out.cell 1
  have g0 := HZ5.out.free 0
  have g1 := HZ5.out.free 1
  obtain ⟨u0, u1, u2, u3, u4, u5, u6, u7, u8⟩ := HI5.out.cells i hi
  go_wp2
  refine bodyPost_ret (v := .tuple #[.agg #[.slice (some ⟨g, 0, none⟩) L.length c5, .int .i64 nx], .bool true]) (by simp [results, Tryz.results6, go_sem, r0, r1]) rfl ?_
  refine ⟨⟨_, P1, rfl, ?_⟩, ?_⟩
  · refine ItsP.le (lo := W0.heap.size) ?_ (by omega)
    refine ItsP.setB (ItsP.setB ?_ (by dsimp only; omega) _) (by dsimp only; omega) _
    have hd := HI5.out.setNe (a := ⟨w4.heap.size, 8, none⟩) HNX.out (.bool true)
    have := hd.put hi { L[i] with bn := true } (.slice p1 X.R.length q1, .slice p2 X.V.length q2) HE1.out rfl rfl
    rw [HX.out] at this ⊢
    exact this
  · refine Below.setCell (Below.setCell ?_ (by dsimp only; omega) _) (by dsimp only; omega) _
    repeat (refine Below.setCell ?_ (by dsimp only; omega) _)
    exact b5

set_option maxHeartbeats 8000000 in
set_option maxRecDepth 100000 in
theorem sa2far (mid born : Int) (fr bo : ByteArray) (a3 : Option Addr) (n3 c3 : Nat) (id rc vk vc : Int) (vt : ByteArray) (tr due : Int) (nx : Int) (v : Value) (L : List It) (P : List (Value × Value)) (lo : Nat) (w : World) (h : ItsP w lo v L P) (hL : L.length ≤ 1048576) (hs : ∀ x ∈ L, SmallI x) (hpk : ∀ wx, Below w.heap.size w wx → Calls Tryz.prog 19 #[.agg #[.int .i64 2, .int .i64 mid, .int .i64 born, .string fr, .slice a3 n3 c3, .string bo, .int .i64 id, .int .i64 rc, .int .i64 vk, .int .i64 vc, .string vt, .int .i64 tr, .int .i64 due]] wx fun e w' => (∃ s : ByteArray, e = .returned (.string s) ∧ 1 ≤ s.size) ∧ Below wx.heap.size wx w') (i : Nat) (hf : findI id L 0 = some i) (hi : i < L.length) (hrc : (L[i].V.length : Int) ≤ rc) :
    Calls Tryz.prog 6 #[.agg #[v, .int .i64 nx], .agg #[.int .i64 2, .int .i64 mid, .int .i64 born, .string fr, .slice a3 n3 c3, .string bo, .int .i64 id, .int .i64 rc, .int .i64 vk, .int .i64 vc, .string vt, .int .i64 tr, .int .i64 due]] w fun e w' => (∃ u P', e = .returned (.tuple #[.agg #[u, .int .i64 nx], .bool false]) ∧ ItsP w' w.heap.size u L P') ∧ Below w.heap.size w w' := by
  have HRC : Hid ((L[i].V.length : Int) ≤ rc) := hrc
  clear hrc
  have HP : Hid (placeI id L = (i : Int)) := by show _ = _; unfold placeI; rw [hf]
  clear hf
  obtain ⟨a1, c1, rfl⟩ := h.form
  have H : Hid (ItsP w lo (.slice a1 L.length c1) L P) := h
  have HS : Hid (∀ x ∈ L, SmallI x) := hs
  have HPK : Hid (∀ wx, Below w.heap.size w wx → Calls Tryz.prog 19 #[.agg #[.int .i64 2, .int .i64 mid, .int .i64 born, .string fr, .slice a3 n3 c3, .string bo, .int .i64 id, .int .i64 rc, .int .i64 vk, .int .i64 vc, .string vt, .int .i64 tr, .int .i64 due]] wx fun e w' => (∃ s : ByteArray, e = .returned (.string s) ∧ 1 ≤ s.size) ∧ Below wx.heap.size wx w') := hpk
  clear h hs hpk
  go_enter Tryz.func6, Tryz.ntmps6
  go_wp2_with fail
  generalize hW : World.alloc _ _ = W0
  have HQ0 : Hid (Blk w.heap.size #[.slice a1 L.length c1, .int .i64 nx] W0) := by show Blk _ _ _; rw [← hW]; exact (blk3I w _ _ _ _ _ _).1
  have HR0 : Hid (Blk (w.heap.size + 1) #[.int .i64 2, .int .i64 mid, .int .i64 born, .string fr, .slice a3 n3 c3, .string bo, .int .i64 id, .int .i64 rc, .int .i64 vk, .int .i64 vc, .string vt, .int .i64 tr, .int .i64 due] W0) := by show Blk _ _ _; rw [← hW]; exact (blk3I w _ _ _ _ _ _).2.1
  have HZ0 : Hid (Blk (w.heap.size + 1 + 1) #[.slice none 0 0, .int .i64 0] W0) := by show Blk _ _ _; rw [← hW]; exact (blk3I w _ _ _ _ _ _).2.2
  have b0 : Below w.heap.size w W0 := by rw [← hW]; exact below3 _ _ _ _
  have z0 : W0.heap.size = w.heap.size + 3 := by rw [← hW]; simp
  clear hW
  refine (specQueue _ nx L P lo _ (H.out.below b0 (Nat.le_refl _)) hL HS.out).mono ?_
  rintro e w1 ⟨⟨u, P1, rfl, S1⟩, hb1⟩
  obtain ⟨a5, c5, hf⟩ := S1.form
  subst hf
  have z1 := hb1.size
  have b1 : Below w.heap.size w w1 := b0.trans (hb1.mono b0.size)
  have HI1 : Hid (ItsP w1 W0.heap.size (.slice a5 L.length c5) L P1) := S1
  have HQ1 : Hid _ := HQ0.out.below hb1
  have HR1 : Hid _ := HR0.out.below hb1
  have HZ1 : Hid _ := HZ0.out.below hb1
  clear hb1 S1 HQ0 HR0 HZ0 b0
  have x0 : w1.cell? ⟨w.heap.size + 1, 0, none⟩ = some (.int .i64 2) := HR1.out.cell 0
  have x1 : w1.cell? ⟨w.heap.size + 1, 1, none⟩ = some (.int .i64 mid) := HR1.out.cell 1
  have x2 : w1.cell? ⟨w.heap.size + 1, 2, none⟩ = some (.int .i64 born) := HR1.out.cell 2
  have x3 : w1.cell? ⟨w.heap.size + 1, 3, none⟩ = some (.string fr) := HR1.out.cell 3
  have x4 : w1.cell? ⟨w.heap.size + 1, 4, none⟩ = some (.slice a3 n3 c3) := HR1.out.cell 4
  have x5 : w1.cell? ⟨w.heap.size + 1, 5, none⟩ = some (.string bo) := HR1.out.cell 5
  have x6 : w1.cell? ⟨w.heap.size + 1, 6, none⟩ = some (.int .i64 id) := HR1.out.cell 6
  have x7 : w1.cell? ⟨w.heap.size + 1, 7, none⟩ = some (.int .i64 rc) := HR1.out.cell 7
  have x8 : w1.cell? ⟨w.heap.size + 1, 8, none⟩ = some (.int .i64 vk) := HR1.out.cell 8
  have x9 : w1.cell? ⟨w.heap.size + 1, 9, none⟩ = some (.int .i64 vc) := HR1.out.cell 9
  have x10 : w1.cell? ⟨w.heap.size + 1, 10, none⟩ = some (.string vt) := HR1.out.cell 10
  have x11 : w1.cell? ⟨w.heap.size + 1, 11, none⟩ = some (.int .i64 tr) := HR1.out.cell 11
  have x12 : w1.cell? ⟨w.heap.size + 1, 12, none⟩ = some (.int .i64 due) := HR1.out.cell 12
  have lR1 : w.heap.size + 1 < w1.heap.size := HR1.out.lt
  go_wp2_with fail
  generalize hW : World.alloc _ _ = W2
  have HO2 : Hid (Blk w1.heap.size #[.slice a5 L.length c5, .int .i64 nx] W2) := by show Blk _ _ _; rw [← hW]; exact Blk.new w1 _ _
  have hb2 : Below w1.heap.size w1 W2 := by rw [← hW]; exact below1 _ _
  have z2 : W2.heap.size = w1.heap.size + 1 := by rw [← hW]; simp
  clear hW x0 x1 x2 x3 x4 x5 x6 x7 x8 x9 x10 x11 x12
  have b2 : Below w.heap.size w W2 := b1.trans (hb2.mono b1.size)
  refine (HPK.out _ b2).mono ?_
  rintro e w3 ⟨⟨s, rfl, hs⟩, hb3⟩
  have HSZ : Hid (1 ≤ s.size) := hs
  have z3 := hb3.size
  have b3 : Below w.heap.size w w3 := b2.trans (hb3.mono b2.size)
  have HQ : Hid (Blk w.heap.size #[.slice a1 L.length c1, .int .i64 nx] w3) := (HQ1.out.below hb2).below hb3
  have HR : Hid (Blk (w.heap.size + 1) #[.int .i64 2, .int .i64 mid, .int .i64 born, .string fr, .slice a3 n3 c3, .string bo, .int .i64 id, .int .i64 rc, .int .i64 vk, .int .i64 vc, .string vt, .int .i64 tr, .int .i64 due] w3) := (HR1.out.below hb2).below hb3
  have HZ : Hid (Blk (w.heap.size + 1 + 1) #[.slice none 0 0, .int .i64 0] w3) := (HZ1.out.below hb2).below hb3
  have HO : Hid (Blk w1.heap.size #[.slice a5 L.length c5, .int .i64 nx] w3) := HO2.out.below hb3
  have HI : Hid (ItsP w3 W0.heap.size (.slice a5 L.length c5) L P1) := (HI1.out.below hb2 (Nat.le_refl _)).below hb3 (Nat.le_refl _)
  have HN : Hid (NeB w1.heap.size (.slice a5 L.length c5) P1) := NeB.of HI1.out (Nat.le_refl _)
  have H3 : Hid (ItsP w3 lo (.slice a1 L.length c1) L P) := H.out.below b3 (Nat.le_refl _)
  clear hs hb2 hb3 b1 b2 HQ1 HR1 HZ1 HO2 HI1 H HPK
  have hln := list_ne (x := s) (by have := HSZ.out; omega)
  have hl2 := list_ne2 (x := s) (by have := HSZ.out; omega)
  have x0 : w3.cell? ⟨w.heap.size + 1, 0, none⟩ = some (.int .i64 2) := HR.out.cell 0
  have x6 : w3.cell? ⟨w.heap.size + 1, 6, none⟩ = some (.int .i64 id) := HR.out.cell 6
  have q0 : w3.cell? ⟨w.heap.size, 0, none⟩ = some (.slice a1 L.length c1) := HQ.out.cell 0
  have q1 : w3.cell? ⟨w.heap.size, 1, none⟩ = some (.int .i64 nx) := HQ.out.cell 1
  go_wp2_with fail
  refine (specFind _ nx id L P lo _ H3.out hL).mono ?_
  rw [HP.out]
  rintro e w4 ⟨rfl, hb4⟩
  have z4 := hb4.size
  have b4 : Below w.heap.size w w4 := b3.trans (hb4.mono b3.size)
  have HR4 : Hid (Blk (w.heap.size + 1) #[.int .i64 2, .int .i64 mid, .int .i64 born, .string fr, .slice a3 n3 c3, .string bo, .int .i64 id, .int .i64 rc, .int .i64 vk, .int .i64 vc, .string vt, .int .i64 tr, .int .i64 due] w4) := HR.out.below hb4
  have HZ4 : Hid (Blk (w.heap.size + 1 + 1) #[.slice none 0 0, .int .i64 0] w4) := HZ.out.below hb4
  have HO4 : Hid (Blk w1.heap.size #[.slice a5 L.length c5, .int .i64 nx] w4) := HO.out.below hb4
  have HI4 : Hid (ItsP w4 W0.heap.size (.slice a5 L.length c5) L P1) := HI.out.below hb4 (Nat.le_refl _)
  clear hb4 HR HZ HO HI H3 HQ b3 q0 q1 x0 x6 hln hl2 HSZ
  obtain ⟨g, rfl⟩ : ∃ g, a5 = some ⟨g, 0, none⟩ := by
    rcases HI4.out.row.cases with ⟨_, hL0⟩ | ⟨g, cap, hv, hs⟩
    · have := congrArg List.length hL0; rw [irow_len HI4.out.len] at this; simp only [List.length_nil] at this; omega
    · injection hv with h1; exact ⟨g, h1⟩
  have hg := HI4.out.row.own g rfl
  have hgo : g ≠ w1.heap.size := HN.out.v g rfl
  have hPl := HI4.out.len
  have lO4 : w1.heap.size < w4.heap.size := HO4.out.lt
  have k1 : (0 : Int) ≤ (i : Int) := by omega
  have k2 : (i : Int) < (L.length : Int) := by omega
  have k3 : ¬ (i : Int) < 0 := by omega
  obtain ⟨y0, y1, y2, y3, y4, y5, y6, y7, y8⟩ := HI4.out.cells i hi
  have hS := HI4.out.str i hi
  have hV := HI4.out.vds i hi
  obtain ⟨p1, q1, e1⟩ := strs_formR hS
  obtain ⟨p2, q2, e2⟩ := vds_form hV
  rw [e1] at y3 hS
  rw [e2] at y5 hV
  have HS1 : Hid (Strs w4 W0.heap.size (.slice p1 L[i].R.length q1) L[i].R) := hS
  have HV1 : Hid (Vds w4 W0.heap.size (.slice p2 L[i].V.length q2) L[i].V) := hV
  have HE1 : Hid (P1[i]'(by omega) = (.slice p1 L[i].R.length q1, .slice p2 L[i].V.length q2)) := by show _ = _; rw [← e1, ← e2]
  clear hS hV e1 e2
  obtain ⟨X, HX⟩ : ∃ X, Hid (L[i] = X) := ⟨L[i], rfl⟩
  rw [HX.out] at y0 y1 y2 y3 y4 y5 y6 y7 y8 HS1 HV1 HE1
  have x0 : w4.cell? ⟨w.heap.size + 1, 0, none⟩ = some (.int .i64 2) := HR4.out.cell 0
  have o0 : w4.cell? ⟨w1.heap.size, 0, none⟩ = some (.slice (some ⟨g, 0, none⟩) L.length c5) := HO4.out.cell 0
  have lR4 : w.heap.size + 1 < w4.heap.size := HR4.out.lt
  go_upto_region 33 with fail
  have HNX4 := NeB.of HI4.out (Nat.le_refl _)
  generalize hW : World.alloc _ _ = W5
  have HX5 : Hid (Blk w4.heap.size #[.int .i64 X.id, .int .i64 X.born, .string X.fr, .slice p1 X.R.length q1, .string X.bo, .slice p2 X.V.length q2, .int .i64 X.tr, .int .i64 X.du, .bool X.bn] W5) := by show Blk _ _ _; rw [← hW]; exact Blk.new w4 _ _
  have hb5 : Below w4.heap.size w4 W5 := by rw [← hW]; exact below1 _ _
  have z5 : W5.heap.size = w4.heap.size + 1 := by rw [← hW]; simp
  clear hW y0 y1 y2 y3 y4 y5 y6 y7 y8 x0 o0
  have b5 : Below w.heap.size w W5 := b4.trans (hb5.mono b4.size)
  have HR5 : Hid (Blk (w.heap.size + 1) #[.int .i64 2, .int .i64 mid, .int .i64 born, .string fr, .slice a3 n3 c3, .string bo, .int .i64 id, .int .i64 rc, .int .i64 vk, .int .i64 vc, .string vt, .int .i64 tr, .int .i64 due] W5) := HR4.out.below hb5
  have HZ5 : Hid (Blk (w.heap.size + 1 + 1) #[.slice none 0 0, .int .i64 0] W5) := HZ4.out.below hb5
  have HO5 : Hid (Blk w1.heap.size #[.slice (some ⟨g, 0, none⟩) L.length c5, .int .i64 nx] W5) := HO4.out.below hb5
  have HI5 : Hid (ItsP W5 W0.heap.size (.slice (some ⟨g, 0, none⟩) L.length c5) L P1) := HI4.out.below hb5 (Nat.le_refl _)
  have HV5 : Hid (Vds W5 W0.heap.size (.slice p2 X.V.length q2) X.V) := vds_below HV1.out hb5 (Nat.le_refl _)
  have HS5 : Hid (Strs W5 W0.heap.size (.slice p1 X.R.length q1) X.R) := strs_below HS1.out hb5 (Nat.le_refl _)
  clear hb5 HR4 HZ4 HO4 HI4 HV1 HS1 b4
  have x7 : W5.cell? ⟨w.heap.size + 1, 7, none⟩ = some (.int .i64 rc) := HR5.out.cell 7
  have t5 : W5.cell? ⟨w4.heap.size, 5, none⟩ = some (.slice p2 X.V.length q2) := HX5.out.cell 5
  clear HNX4
  have hrc : (X.V.length : Int) ≤ rc := by rw [← HX.out]; exact HRC.out
  have o0 : W5.cell? ⟨w1.heap.size, 0, none⟩ = some (.slice (some ⟨g, 0, none⟩) L.length c5) := HO5.out.cell 0
  have o1 : W5.cell? ⟨w1.heap.size, 1, none⟩ = some (.int .i64 nx) := HO5.out.cell 1
  have r0 : W5.cell? ⟨w.heap.size + 1 + 1, 0, none⟩ = some (.slice none 0 0) := HZ5.out.cell 0
  have r1 : W5.cell? ⟨w.heap.size + 1 + 1, 1, none⟩ = some (.int .i64 0) := HZ5.out.cell 1
  have g0 := HZ5.out.free 0
  have g1 := HZ5.out.free 1
  go_wp2
  refine bodyPost_ret (v := .tuple #[.agg #[.slice (some ⟨g, 0, none⟩) L.length c5, .int .i64 nx], .bool false]) (by simp [results, Tryz.results6, go_sem, r0, r1]) rfl ?_
  refine ⟨⟨_, P1, rfl, ?_⟩, ?_⟩
  · refine ItsP.le (lo := W0.heap.size) ?_ (by omega)
    refine ItsP.setB (ItsP.setB ?_ (by dsimp only; omega) _) (by dsimp only; omega) _
    exact HI5.out
  · refine Below.setCell (Below.setCell ?_ (by dsimp only; omega) _) (by dsimp only; omega) _
    exact b5

set_option maxHeartbeats 8000000 in
set_option maxRecDepth 100000 in
theorem sa2was (mid born : Int) (fr bo : ByteArray) (a3 : Option Addr) (n3 c3 : Nat) (id : Int) (kr : Nat) (vk vc : Int) (vt : ByteArray) (tr due : Int) (nx : Int) (v : Value) (L : List It) (P : List (Value × Value)) (lo : Nat) (w : World) (h : ItsP w lo v L P) (hL : L.length ≤ 1048576) (hs : ∀ x ∈ L, SmallI x) (hpk : ∀ wx, Below w.heap.size w wx → Calls Tryz.prog 19 #[.agg #[.int .i64 2, .int .i64 mid, .int .i64 born, .string fr, .slice a3 n3 c3, .string bo, .int .i64 id, .int .i64 (kr : Int), .int .i64 vk, .int .i64 vc, .string vt, .int .i64 tr, .int .i64 due]] wx fun e w' => (∃ s : ByteArray, e = .returned (.string s) ∧ 1 ≤ s.size) ∧ Below wx.heap.size wx w') (i : Nat) (hf : findI id L 0 = some i) (hi : i < L.length) (hrc : kr < L[i].V.length) (hp : pend L[i].V[kr] = false) :
    Calls Tryz.prog 6 #[.agg #[v, .int .i64 nx], .agg #[.int .i64 2, .int .i64 mid, .int .i64 born, .string fr, .slice a3 n3 c3, .string bo, .int .i64 id, .int .i64 (kr : Int), .int .i64 vk, .int .i64 vc, .string vt, .int .i64 tr, .int .i64 due]] w fun e w' => (∃ u P', e = .returned (.tuple #[.agg #[u, .int .i64 nx], .bool false]) ∧ ItsP w' w.heap.size u L P') ∧ Below w.heap.size w w' := by
  have HRC : Hid (kr < L[i].V.length) := hrc
  have HPE : Hid (∀ h : kr < L[i].V.length, pend (L[i].V[kr]'h) = false) := fun _ => hp
  clear hrc hp
  have HP : Hid (placeI id L = (i : Int)) := by show _ = _; unfold placeI; rw [hf]
  clear hf
  obtain ⟨a1, c1, rfl⟩ := h.form
  have H : Hid (ItsP w lo (.slice a1 L.length c1) L P) := h
  have HS : Hid (∀ x ∈ L, SmallI x) := hs
  have HPK : Hid (∀ wx, Below w.heap.size w wx → Calls Tryz.prog 19 #[.agg #[.int .i64 2, .int .i64 mid, .int .i64 born, .string fr, .slice a3 n3 c3, .string bo, .int .i64 id, .int .i64 (kr : Int), .int .i64 vk, .int .i64 vc, .string vt, .int .i64 tr, .int .i64 due]] wx fun e w' => (∃ s : ByteArray, e = .returned (.string s) ∧ 1 ≤ s.size) ∧ Below wx.heap.size wx w') := hpk
  clear h hs hpk
  go_enter Tryz.func6, Tryz.ntmps6
  go_wp2_with fail
  generalize hW : World.alloc _ _ = W0
  have HQ0 : Hid (Blk w.heap.size #[.slice a1 L.length c1, .int .i64 nx] W0) := by show Blk _ _ _; rw [← hW]; exact (blk3I w _ _ _ _ _ _).1
  have HR0 : Hid (Blk (w.heap.size + 1) #[.int .i64 2, .int .i64 mid, .int .i64 born, .string fr, .slice a3 n3 c3, .string bo, .int .i64 id, .int .i64 (kr : Int), .int .i64 vk, .int .i64 vc, .string vt, .int .i64 tr, .int .i64 due] W0) := by show Blk _ _ _; rw [← hW]; exact (blk3I w _ _ _ _ _ _).2.1
  have HZ0 : Hid (Blk (w.heap.size + 1 + 1) #[.slice none 0 0, .int .i64 0] W0) := by show Blk _ _ _; rw [← hW]; exact (blk3I w _ _ _ _ _ _).2.2
  have b0 : Below w.heap.size w W0 := by rw [← hW]; exact below3 _ _ _ _
  have z0 : W0.heap.size = w.heap.size + 3 := by rw [← hW]; simp
  clear hW
  refine (specQueue _ nx L P lo _ (H.out.below b0 (Nat.le_refl _)) hL HS.out).mono ?_
  rintro e w1 ⟨⟨u, P1, rfl, S1⟩, hb1⟩
  obtain ⟨a5, c5, hf⟩ := S1.form
  subst hf
  have z1 := hb1.size
  have b1 : Below w.heap.size w w1 := b0.trans (hb1.mono b0.size)
  have HI1 : Hid (ItsP w1 W0.heap.size (.slice a5 L.length c5) L P1) := S1
  have HQ1 : Hid _ := HQ0.out.below hb1
  have HR1 : Hid _ := HR0.out.below hb1
  have HZ1 : Hid _ := HZ0.out.below hb1
  clear hb1 S1 HQ0 HR0 HZ0 b0
  have x0 : w1.cell? ⟨w.heap.size + 1, 0, none⟩ = some (.int .i64 2) := HR1.out.cell 0
  have x1 : w1.cell? ⟨w.heap.size + 1, 1, none⟩ = some (.int .i64 mid) := HR1.out.cell 1
  have x2 : w1.cell? ⟨w.heap.size + 1, 2, none⟩ = some (.int .i64 born) := HR1.out.cell 2
  have x3 : w1.cell? ⟨w.heap.size + 1, 3, none⟩ = some (.string fr) := HR1.out.cell 3
  have x4 : w1.cell? ⟨w.heap.size + 1, 4, none⟩ = some (.slice a3 n3 c3) := HR1.out.cell 4
  have x5 : w1.cell? ⟨w.heap.size + 1, 5, none⟩ = some (.string bo) := HR1.out.cell 5
  have x6 : w1.cell? ⟨w.heap.size + 1, 6, none⟩ = some (.int .i64 id) := HR1.out.cell 6
  have x7 : w1.cell? ⟨w.heap.size + 1, 7, none⟩ = some (.int .i64 (kr : Int)) := HR1.out.cell 7
  have x8 : w1.cell? ⟨w.heap.size + 1, 8, none⟩ = some (.int .i64 vk) := HR1.out.cell 8
  have x9 : w1.cell? ⟨w.heap.size + 1, 9, none⟩ = some (.int .i64 vc) := HR1.out.cell 9
  have x10 : w1.cell? ⟨w.heap.size + 1, 10, none⟩ = some (.string vt) := HR1.out.cell 10
  have x11 : w1.cell? ⟨w.heap.size + 1, 11, none⟩ = some (.int .i64 tr) := HR1.out.cell 11
  have x12 : w1.cell? ⟨w.heap.size + 1, 12, none⟩ = some (.int .i64 due) := HR1.out.cell 12
  have lR1 : w.heap.size + 1 < w1.heap.size := HR1.out.lt
  go_wp2_with fail
  generalize hW : World.alloc _ _ = W2
  have HO2 : Hid (Blk w1.heap.size #[.slice a5 L.length c5, .int .i64 nx] W2) := by show Blk _ _ _; rw [← hW]; exact Blk.new w1 _ _
  have hb2 : Below w1.heap.size w1 W2 := by rw [← hW]; exact below1 _ _
  have z2 : W2.heap.size = w1.heap.size + 1 := by rw [← hW]; simp
  clear hW x0 x1 x2 x3 x4 x5 x6 x7 x8 x9 x10 x11 x12
  have b2 : Below w.heap.size w W2 := b1.trans (hb2.mono b1.size)
  refine (HPK.out _ b2).mono ?_
  rintro e w3 ⟨⟨s, rfl, hs⟩, hb3⟩
  have HSZ : Hid (1 ≤ s.size) := hs
  have z3 := hb3.size
  have b3 : Below w.heap.size w w3 := b2.trans (hb3.mono b2.size)
  have HQ : Hid (Blk w.heap.size #[.slice a1 L.length c1, .int .i64 nx] w3) := (HQ1.out.below hb2).below hb3
  have HR : Hid (Blk (w.heap.size + 1) #[.int .i64 2, .int .i64 mid, .int .i64 born, .string fr, .slice a3 n3 c3, .string bo, .int .i64 id, .int .i64 (kr : Int), .int .i64 vk, .int .i64 vc, .string vt, .int .i64 tr, .int .i64 due] w3) := (HR1.out.below hb2).below hb3
  have HZ : Hid (Blk (w.heap.size + 1 + 1) #[.slice none 0 0, .int .i64 0] w3) := (HZ1.out.below hb2).below hb3
  have HO : Hid (Blk w1.heap.size #[.slice a5 L.length c5, .int .i64 nx] w3) := HO2.out.below hb3
  have HI : Hid (ItsP w3 W0.heap.size (.slice a5 L.length c5) L P1) := (HI1.out.below hb2 (Nat.le_refl _)).below hb3 (Nat.le_refl _)
  have HN : Hid (NeB w1.heap.size (.slice a5 L.length c5) P1) := NeB.of HI1.out (Nat.le_refl _)
  have H3 : Hid (ItsP w3 lo (.slice a1 L.length c1) L P) := H.out.below b3 (Nat.le_refl _)
  clear hs hb2 hb3 b1 b2 HQ1 HR1 HZ1 HO2 HI1 H HPK
  have hln := list_ne (x := s) (by have := HSZ.out; omega)
  have hl2 := list_ne2 (x := s) (by have := HSZ.out; omega)
  have x0 : w3.cell? ⟨w.heap.size + 1, 0, none⟩ = some (.int .i64 2) := HR.out.cell 0
  have x6 : w3.cell? ⟨w.heap.size + 1, 6, none⟩ = some (.int .i64 id) := HR.out.cell 6
  have q0 : w3.cell? ⟨w.heap.size, 0, none⟩ = some (.slice a1 L.length c1) := HQ.out.cell 0
  have q1 : w3.cell? ⟨w.heap.size, 1, none⟩ = some (.int .i64 nx) := HQ.out.cell 1
  go_wp2_with fail
  refine (specFind _ nx id L P lo _ H3.out hL).mono ?_
  rw [HP.out]
  rintro e w4 ⟨rfl, hb4⟩
  have z4 := hb4.size
  have b4 : Below w.heap.size w w4 := b3.trans (hb4.mono b3.size)
  have HR4 : Hid (Blk (w.heap.size + 1) #[.int .i64 2, .int .i64 mid, .int .i64 born, .string fr, .slice a3 n3 c3, .string bo, .int .i64 id, .int .i64 (kr : Int), .int .i64 vk, .int .i64 vc, .string vt, .int .i64 tr, .int .i64 due] w4) := HR.out.below hb4
  have HZ4 : Hid (Blk (w.heap.size + 1 + 1) #[.slice none 0 0, .int .i64 0] w4) := HZ.out.below hb4
  have HO4 : Hid (Blk w1.heap.size #[.slice a5 L.length c5, .int .i64 nx] w4) := HO.out.below hb4
  have HI4 : Hid (ItsP w4 W0.heap.size (.slice a5 L.length c5) L P1) := HI.out.below hb4 (Nat.le_refl _)
  clear hb4 HR HZ HO HI H3 HQ b3 q0 q1 x0 x6 hln hl2 HSZ
  obtain ⟨g, rfl⟩ : ∃ g, a5 = some ⟨g, 0, none⟩ := by
    rcases HI4.out.row.cases with ⟨_, hL0⟩ | ⟨g, cap, hv, hs⟩
    · have := congrArg List.length hL0; rw [irow_len HI4.out.len] at this; simp only [List.length_nil] at this; omega
    · injection hv with h1; exact ⟨g, h1⟩
  have hg := HI4.out.row.own g rfl
  have hgo : g ≠ w1.heap.size := HN.out.v g rfl
  have hPl := HI4.out.len
  have lO4 : w1.heap.size < w4.heap.size := HO4.out.lt
  have k1 : (0 : Int) ≤ (i : Int) := by omega
  have k2 : (i : Int) < (L.length : Int) := by omega
  have k3 : ¬ (i : Int) < 0 := by omega
  obtain ⟨y0, y1, y2, y3, y4, y5, y6, y7, y8⟩ := HI4.out.cells i hi
  have hS := HI4.out.str i hi
  have hV := HI4.out.vds i hi
  obtain ⟨p1, q1, e1⟩ := strs_formR hS
  obtain ⟨p2, q2, e2⟩ := vds_form hV
  rw [e1] at y3 hS
  rw [e2] at y5 hV
  have HS1 : Hid (Strs w4 W0.heap.size (.slice p1 L[i].R.length q1) L[i].R) := hS
  have HV1 : Hid (Vds w4 W0.heap.size (.slice p2 L[i].V.length q2) L[i].V) := hV
  have HE1 : Hid (P1[i]'(by omega) = (.slice p1 L[i].R.length q1, .slice p2 L[i].V.length q2)) := by show _ = _; rw [← e1, ← e2]
  clear hS hV e1 e2
  obtain ⟨X, HX⟩ : ∃ X, Hid (L[i] = X) := ⟨L[i], rfl⟩
  rw [HX.out] at y0 y1 y2 y3 y4 y5 y6 y7 y8 HS1 HV1 HE1
  have x0 : w4.cell? ⟨w.heap.size + 1, 0, none⟩ = some (.int .i64 2) := HR4.out.cell 0
  have o0 : w4.cell? ⟨w1.heap.size, 0, none⟩ = some (.slice (some ⟨g, 0, none⟩) L.length c5) := HO4.out.cell 0
  have lR4 : w.heap.size + 1 < w4.heap.size := HR4.out.lt
  go_upto_region 33 with fail
  have HNX4 := NeB.of HI4.out (Nat.le_refl _)
  generalize hW : World.alloc _ _ = W5
  have HX5 : Hid (Blk w4.heap.size #[.int .i64 X.id, .int .i64 X.born, .string X.fr, .slice p1 X.R.length q1, .string X.bo, .slice p2 X.V.length q2, .int .i64 X.tr, .int .i64 X.du, .bool X.bn] W5) := by show Blk _ _ _; rw [← hW]; exact Blk.new w4 _ _
  have hb5 : Below w4.heap.size w4 W5 := by rw [← hW]; exact below1 _ _
  have z5 : W5.heap.size = w4.heap.size + 1 := by rw [← hW]; simp
  clear hW y0 y1 y2 y3 y4 y5 y6 y7 y8 x0 o0
  have b5 : Below w.heap.size w W5 := b4.trans (hb5.mono b4.size)
  have HR5 : Hid (Blk (w.heap.size + 1) #[.int .i64 2, .int .i64 mid, .int .i64 born, .string fr, .slice a3 n3 c3, .string bo, .int .i64 id, .int .i64 (kr : Int), .int .i64 vk, .int .i64 vc, .string vt, .int .i64 tr, .int .i64 due] W5) := HR4.out.below hb5
  have HZ5 : Hid (Blk (w.heap.size + 1 + 1) #[.slice none 0 0, .int .i64 0] W5) := HZ4.out.below hb5
  have HO5 : Hid (Blk w1.heap.size #[.slice (some ⟨g, 0, none⟩) L.length c5, .int .i64 nx] W5) := HO4.out.below hb5
  have HI5 : Hid (ItsP W5 W0.heap.size (.slice (some ⟨g, 0, none⟩) L.length c5) L P1) := HI4.out.below hb5 (Nat.le_refl _)
  have HV5 : Hid (Vds W5 W0.heap.size (.slice p2 X.V.length q2) X.V) := vds_below HV1.out hb5 (Nat.le_refl _)
  have HS5 : Hid (Strs W5 W0.heap.size (.slice p1 X.R.length q1) X.R) := strs_below HS1.out hb5 (Nat.le_refl _)
  clear hb5 HR4 HZ4 HO4 HI4 HV1 HS1 b4
  have x7 : W5.cell? ⟨w.heap.size + 1, 7, none⟩ = some (.int .i64 (kr : Int)) := HR5.out.cell 7
  have t5 : W5.cell? ⟨w4.heap.size, 5, none⟩ = some (.slice p2 X.V.length q2) := HX5.out.cell 5
  have hkr : kr < X.V.length := by rw [← HX.out]; exact HRC.out
  obtain ⟨g2, rfl, hC⟩ : ∃ g2, p2 = some ⟨g2, 0, none⟩ ∧ VdsAt W5 W0.heap.size g2 q2 X.V := by
    rcases HV5.out.cases with ⟨_, hL0⟩ | ⟨g2, cap, hv, hs⟩
    · rw [hL0] at hkr; exact absurd hkr (Nat.not_lt_zero _)
    · injection hv with h1 h2 h3; subst h3; exact ⟨g2, h1, hs⟩
  obtain ⟨v0, v1, v2⟩ := hC.cell kr hkr
  have lg2 : g2 < W5.heap.size := hC.lt
  have hpp : pend (X.V[kr]'hkr) = false := by
    have := HPE.out HRC.out
    simp only [HX.out] at this
    exact this
  have HKR : Hid (kr < X.V.length) := hkr
  obtain ⟨Y, HY⟩ : ∃ Y, Hid (X.V[kr]'hkr = Y) := ⟨X.V[kr]'hkr, rfl⟩
  rw [HY.out] at v0 v1 v2 hpp
  obtain ⟨Y1, Y2, Y3⟩ := Y
  dsimp only at v0 v1 v2
  have hp2 : (Y1 == 0 || Y1 == 2) = false := hpp
  have HP2 : Hid ((Y1 == 0 || Y1 == 2) = false) := hp2
  have m1 : (0 : Int) ≤ (kr : Int) := by omega
  have m2 : (kr : Int) < (X.V.length : Int) := by omega
  have m3 : ¬ (X.V.length : Int) ≤ (kr : Int) := by omega
  clear hC hpp hp2 HY hkr
  go_wp2_with fail
  refine (specPend (Y1, Y2, Y3) _).mono ?_
  dsimp only
  rw [HP2.out]
  rintro e w6 ⟨rfl, hb6⟩
  have b6 : Below w.heap.size w w6 := b5.trans (hb6.mono b5.size)
  have z6 := hb6.size
  have HR6 : Hid (Blk (w.heap.size + 1) #[.int .i64 2, .int .i64 mid, .int .i64 born, .string fr, .slice a3 n3 c3, .string bo, .int .i64 id, .int .i64 (kr : Int), .int .i64 vk, .int .i64 vc, .string vt, .int .i64 tr, .int .i64 due] w6) := HR5.out.below hb6
  have HZ6 : Hid (Blk (w.heap.size + 1 + 1) #[.slice none 0 0, .int .i64 0] w6) := HZ5.out.below hb6
  have HO6 : Hid (Blk w1.heap.size #[.slice (some ⟨g, 0, none⟩) L.length c5, .int .i64 nx] w6) := HO5.out.below hb6
  have HI6 : Hid (ItsP w6 W0.heap.size (.slice (some ⟨g, 0, none⟩) L.length c5) L P1) := HI5.out.below hb6 (Nat.le_refl _)
  have HX6 : Hid (Blk w4.heap.size #[.int .i64 X.id, .int .i64 X.born, .string X.fr, .slice p1 X.R.length q1, .string X.bo, .slice (some ⟨g2, 0, none⟩) X.V.length q2, .int .i64 X.tr, .int .i64 X.du, .bool X.bn] w6) := HX5.out.below hb6
  have HV6 : Hid (Vds w6 W0.heap.size (.slice (some ⟨g2, 0, none⟩) X.V.length q2) X.V) := vds_below HV5.out hb6 (Nat.le_refl _)
  clear hb6 HR5 HZ5 HO5 HI5 HX5 HV5 HS5 b5 x7 t5 v0 v1 v2 m3
  clear HNX4 m1 m2
  have o0 : w6.cell? ⟨w1.heap.size, 0, none⟩ = some (.slice (some ⟨g, 0, none⟩) L.length c5) := HO6.out.cell 0
  have o1 : w6.cell? ⟨w1.heap.size, 1, none⟩ = some (.int .i64 nx) := HO6.out.cell 1
  have r0 : w6.cell? ⟨w.heap.size + 1 + 1, 0, none⟩ = some (.slice none 0 0) := HZ6.out.cell 0
  have r1 : w6.cell? ⟨w.heap.size + 1 + 1, 1, none⟩ = some (.int .i64 0) := HZ6.out.cell 1
  have g0 := HZ6.out.free 0
  have g1 := HZ6.out.free 1
  go_wp2
  refine bodyPost_ret (v := .tuple #[.agg #[.slice (some ⟨g, 0, none⟩) L.length c5, .int .i64 nx], .bool false]) (by simp [results, Tryz.results6, go_sem, r0, r1]) rfl ?_
  refine ⟨⟨_, P1, rfl, ?_⟩, ?_⟩
  · refine ItsP.le (lo := W0.heap.size) ?_ (by omega)
    refine ItsP.setB (ItsP.setB ?_ (by dsimp only; omega) _) (by dsimp only; omega) _
    exact HI6.out
  · refine Below.setCell (Below.setCell ?_ (by dsimp only; omega) _) (by dsimp only; omega) _
    exact b6

set_option maxHeartbeats 8000000 in
set_option maxRecDepth 100000 in
theorem sa2yes (mid born : Int) (fr bo : ByteArray) (a3 : Option Addr) (n3 c3 : Nat) (id : Int) (kr : Nat) (vk vc : Int) (vt : ByteArray) (tr due : Int) (nx : Int) (v : Value) (L : List It) (P : List (Value × Value)) (lo : Nat) (w : World) (h : ItsP w lo v L P) (hL : L.length ≤ 1048576) (hs : ∀ x ∈ L, SmallI x) (hpk : ∀ wx, Below w.heap.size w wx → Calls Tryz.prog 19 #[.agg #[.int .i64 2, .int .i64 mid, .int .i64 born, .string fr, .slice a3 n3 c3, .string bo, .int .i64 id, .int .i64 (kr : Int), .int .i64 vk, .int .i64 vc, .string vt, .int .i64 tr, .int .i64 due]] wx fun e w' => (∃ s : ByteArray, e = .returned (.string s) ∧ 1 ≤ s.size) ∧ Below wx.heap.size wx w') (i : Nat) (hf : findI id L 0 = some i) (hi : i < L.length) (hrc : kr < L[i].V.length) (hp : pend L[i].V[kr] = true) :
    Calls Tryz.prog 6 #[.agg #[v, .int .i64 nx], .agg #[.int .i64 2, .int .i64 mid, .int .i64 born, .string fr, .slice a3 n3 c3, .string bo, .int .i64 id, .int .i64 (kr : Int), .int .i64 vk, .int .i64 vc, .string vt, .int .i64 tr, .int .i64 due]] w fun e w' => (∃ u P', e = .returned (.tuple #[.agg #[u, .int .i64 nx], .bool true]) ∧ ItsP w' w.heap.size u (L.set i { L[i] with V := L[i].V.set kr (vk, vc, vt) }) P') ∧ Below w.heap.size w w' := by
  have HRC : Hid (kr < L[i].V.length) := hrc
  have HPE : Hid (∀ h : kr < L[i].V.length, pend (L[i].V[kr]'h) = true) := fun _ => hp
  clear hrc hp
  have HP : Hid (placeI id L = (i : Int)) := by show _ = _; unfold placeI; rw [hf]
  clear hf
  obtain ⟨a1, c1, rfl⟩ := h.form
  have H : Hid (ItsP w lo (.slice a1 L.length c1) L P) := h
  have HS : Hid (∀ x ∈ L, SmallI x) := hs
  have HPK : Hid (∀ wx, Below w.heap.size w wx → Calls Tryz.prog 19 #[.agg #[.int .i64 2, .int .i64 mid, .int .i64 born, .string fr, .slice a3 n3 c3, .string bo, .int .i64 id, .int .i64 (kr : Int), .int .i64 vk, .int .i64 vc, .string vt, .int .i64 tr, .int .i64 due]] wx fun e w' => (∃ s : ByteArray, e = .returned (.string s) ∧ 1 ≤ s.size) ∧ Below wx.heap.size wx w') := hpk
  clear h hs hpk
  go_enter Tryz.func6, Tryz.ntmps6
  go_wp2_with fail
  generalize hW : World.alloc _ _ = W0
  have HQ0 : Hid (Blk w.heap.size #[.slice a1 L.length c1, .int .i64 nx] W0) := by show Blk _ _ _; rw [← hW]; exact (blk3I w _ _ _ _ _ _).1
  have HR0 : Hid (Blk (w.heap.size + 1) #[.int .i64 2, .int .i64 mid, .int .i64 born, .string fr, .slice a3 n3 c3, .string bo, .int .i64 id, .int .i64 (kr : Int), .int .i64 vk, .int .i64 vc, .string vt, .int .i64 tr, .int .i64 due] W0) := by show Blk _ _ _; rw [← hW]; exact (blk3I w _ _ _ _ _ _).2.1
  have HZ0 : Hid (Blk (w.heap.size + 1 + 1) #[.slice none 0 0, .int .i64 0] W0) := by show Blk _ _ _; rw [← hW]; exact (blk3I w _ _ _ _ _ _).2.2
  have b0 : Below w.heap.size w W0 := by rw [← hW]; exact below3 _ _ _ _
  have z0 : W0.heap.size = w.heap.size + 3 := by rw [← hW]; simp
  clear hW
  refine (specQueue _ nx L P lo _ (H.out.below b0 (Nat.le_refl _)) hL HS.out).mono ?_
  rintro e w1 ⟨⟨u, P1, rfl, S1⟩, hb1⟩
  obtain ⟨a5, c5, hf⟩ := S1.form
  subst hf
  have z1 := hb1.size
  have b1 : Below w.heap.size w w1 := b0.trans (hb1.mono b0.size)
  have HI1 : Hid (ItsP w1 W0.heap.size (.slice a5 L.length c5) L P1) := S1
  have HQ1 : Hid _ := HQ0.out.below hb1
  have HR1 : Hid _ := HR0.out.below hb1
  have HZ1 : Hid _ := HZ0.out.below hb1
  clear hb1 S1 HQ0 HR0 HZ0 b0
  have x0 : w1.cell? ⟨w.heap.size + 1, 0, none⟩ = some (.int .i64 2) := HR1.out.cell 0
  have x1 : w1.cell? ⟨w.heap.size + 1, 1, none⟩ = some (.int .i64 mid) := HR1.out.cell 1
  have x2 : w1.cell? ⟨w.heap.size + 1, 2, none⟩ = some (.int .i64 born) := HR1.out.cell 2
  have x3 : w1.cell? ⟨w.heap.size + 1, 3, none⟩ = some (.string fr) := HR1.out.cell 3
  have x4 : w1.cell? ⟨w.heap.size + 1, 4, none⟩ = some (.slice a3 n3 c3) := HR1.out.cell 4
  have x5 : w1.cell? ⟨w.heap.size + 1, 5, none⟩ = some (.string bo) := HR1.out.cell 5
  have x6 : w1.cell? ⟨w.heap.size + 1, 6, none⟩ = some (.int .i64 id) := HR1.out.cell 6
  have x7 : w1.cell? ⟨w.heap.size + 1, 7, none⟩ = some (.int .i64 (kr : Int)) := HR1.out.cell 7
  have x8 : w1.cell? ⟨w.heap.size + 1, 8, none⟩ = some (.int .i64 vk) := HR1.out.cell 8
  have x9 : w1.cell? ⟨w.heap.size + 1, 9, none⟩ = some (.int .i64 vc) := HR1.out.cell 9
  have x10 : w1.cell? ⟨w.heap.size + 1, 10, none⟩ = some (.string vt) := HR1.out.cell 10
  have x11 : w1.cell? ⟨w.heap.size + 1, 11, none⟩ = some (.int .i64 tr) := HR1.out.cell 11
  have x12 : w1.cell? ⟨w.heap.size + 1, 12, none⟩ = some (.int .i64 due) := HR1.out.cell 12
  have lR1 : w.heap.size + 1 < w1.heap.size := HR1.out.lt
  go_wp2_with fail
  generalize hW : World.alloc _ _ = W2
  have HO2 : Hid (Blk w1.heap.size #[.slice a5 L.length c5, .int .i64 nx] W2) := by show Blk _ _ _; rw [← hW]; exact Blk.new w1 _ _
  have hb2 : Below w1.heap.size w1 W2 := by rw [← hW]; exact below1 _ _
  have z2 : W2.heap.size = w1.heap.size + 1 := by rw [← hW]; simp
  clear hW x0 x1 x2 x3 x4 x5 x6 x7 x8 x9 x10 x11 x12
  have b2 : Below w.heap.size w W2 := b1.trans (hb2.mono b1.size)
  refine (HPK.out _ b2).mono ?_
  rintro e w3 ⟨⟨s, rfl, hs⟩, hb3⟩
  have HSZ : Hid (1 ≤ s.size) := hs
  have z3 := hb3.size
  have b3 : Below w.heap.size w w3 := b2.trans (hb3.mono b2.size)
  have HQ : Hid (Blk w.heap.size #[.slice a1 L.length c1, .int .i64 nx] w3) := (HQ1.out.below hb2).below hb3
  have HR : Hid (Blk (w.heap.size + 1) #[.int .i64 2, .int .i64 mid, .int .i64 born, .string fr, .slice a3 n3 c3, .string bo, .int .i64 id, .int .i64 (kr : Int), .int .i64 vk, .int .i64 vc, .string vt, .int .i64 tr, .int .i64 due] w3) := (HR1.out.below hb2).below hb3
  have HZ : Hid (Blk (w.heap.size + 1 + 1) #[.slice none 0 0, .int .i64 0] w3) := (HZ1.out.below hb2).below hb3
  have HO : Hid (Blk w1.heap.size #[.slice a5 L.length c5, .int .i64 nx] w3) := HO2.out.below hb3
  have HI : Hid (ItsP w3 W0.heap.size (.slice a5 L.length c5) L P1) := (HI1.out.below hb2 (Nat.le_refl _)).below hb3 (Nat.le_refl _)
  have HN : Hid (NeB w1.heap.size (.slice a5 L.length c5) P1) := NeB.of HI1.out (Nat.le_refl _)
  have H3 : Hid (ItsP w3 lo (.slice a1 L.length c1) L P) := H.out.below b3 (Nat.le_refl _)
  clear hs hb2 hb3 b1 b2 HQ1 HR1 HZ1 HO2 HI1 H HPK
  have hln := list_ne (x := s) (by have := HSZ.out; omega)
  have hl2 := list_ne2 (x := s) (by have := HSZ.out; omega)
  have x0 : w3.cell? ⟨w.heap.size + 1, 0, none⟩ = some (.int .i64 2) := HR.out.cell 0
  have x6 : w3.cell? ⟨w.heap.size + 1, 6, none⟩ = some (.int .i64 id) := HR.out.cell 6
  have q0 : w3.cell? ⟨w.heap.size, 0, none⟩ = some (.slice a1 L.length c1) := HQ.out.cell 0
  have q1 : w3.cell? ⟨w.heap.size, 1, none⟩ = some (.int .i64 nx) := HQ.out.cell 1
  go_wp2_with fail
  refine (specFind _ nx id L P lo _ H3.out hL).mono ?_
  rw [HP.out]
  rintro e w4 ⟨rfl, hb4⟩
  have z4 := hb4.size
  have b4 : Below w.heap.size w w4 := b3.trans (hb4.mono b3.size)
  have HR4 : Hid (Blk (w.heap.size + 1) #[.int .i64 2, .int .i64 mid, .int .i64 born, .string fr, .slice a3 n3 c3, .string bo, .int .i64 id, .int .i64 (kr : Int), .int .i64 vk, .int .i64 vc, .string vt, .int .i64 tr, .int .i64 due] w4) := HR.out.below hb4
  have HZ4 : Hid (Blk (w.heap.size + 1 + 1) #[.slice none 0 0, .int .i64 0] w4) := HZ.out.below hb4
  have HO4 : Hid (Blk w1.heap.size #[.slice a5 L.length c5, .int .i64 nx] w4) := HO.out.below hb4
  have HI4 : Hid (ItsP w4 W0.heap.size (.slice a5 L.length c5) L P1) := HI.out.below hb4 (Nat.le_refl _)
  clear hb4 HR HZ HO HI H3 HQ b3 q0 q1 x0 x6 hln hl2 HSZ
  obtain ⟨g, rfl⟩ : ∃ g, a5 = some ⟨g, 0, none⟩ := by
    rcases HI4.out.row.cases with ⟨_, hL0⟩ | ⟨g, cap, hv, hs⟩
    · have := congrArg List.length hL0; rw [irow_len HI4.out.len] at this; simp only [List.length_nil] at this; omega
    · injection hv with h1; exact ⟨g, h1⟩
  have hg := HI4.out.row.own g rfl
  have hgo : g ≠ w1.heap.size := HN.out.v g rfl
  have hPl := HI4.out.len
  have lO4 : w1.heap.size < w4.heap.size := HO4.out.lt
  have k1 : (0 : Int) ≤ (i : Int) := by omega
  have k2 : (i : Int) < (L.length : Int) := by omega
  have k3 : ¬ (i : Int) < 0 := by omega
  obtain ⟨y0, y1, y2, y3, y4, y5, y6, y7, y8⟩ := HI4.out.cells i hi
  have hS := HI4.out.str i hi
  have hV := HI4.out.vds i hi
  obtain ⟨p1, q1, e1⟩ := strs_formR hS
  obtain ⟨p2, q2, e2⟩ := vds_form hV
  rw [e1] at y3 hS
  rw [e2] at y5 hV
  have HS1 : Hid (Strs w4 W0.heap.size (.slice p1 L[i].R.length q1) L[i].R) := hS
  have HV1 : Hid (Vds w4 W0.heap.size (.slice p2 L[i].V.length q2) L[i].V) := hV
  have HE1 : Hid (P1[i]'(by omega) = (.slice p1 L[i].R.length q1, .slice p2 L[i].V.length q2)) := by show _ = _; rw [← e1, ← e2]
  clear hS hV e1 e2
  obtain ⟨X, HX⟩ : ∃ X, Hid (L[i] = X) := ⟨L[i], rfl⟩
  rw [HX.out] at y0 y1 y2 y3 y4 y5 y6 y7 y8 HS1 HV1 HE1
  have x0 : w4.cell? ⟨w.heap.size + 1, 0, none⟩ = some (.int .i64 2) := HR4.out.cell 0
  have o0 : w4.cell? ⟨w1.heap.size, 0, none⟩ = some (.slice (some ⟨g, 0, none⟩) L.length c5) := HO4.out.cell 0
  have lR4 : w.heap.size + 1 < w4.heap.size := HR4.out.lt
  go_upto_region 33 with fail
  have HNX4 := NeB.of HI4.out (Nat.le_refl _)
  generalize hW : World.alloc _ _ = W5
  have HX5 : Hid (Blk w4.heap.size #[.int .i64 X.id, .int .i64 X.born, .string X.fr, .slice p1 X.R.length q1, .string X.bo, .slice p2 X.V.length q2, .int .i64 X.tr, .int .i64 X.du, .bool X.bn] W5) := by show Blk _ _ _; rw [← hW]; exact Blk.new w4 _ _
  have hb5 : Below w4.heap.size w4 W5 := by rw [← hW]; exact below1 _ _
  have z5 : W5.heap.size = w4.heap.size + 1 := by rw [← hW]; simp
  clear hW y0 y1 y2 y3 y4 y5 y6 y7 y8 x0 o0
  have b5 : Below w.heap.size w W5 := b4.trans (hb5.mono b4.size)
  have HR5 : Hid (Blk (w.heap.size + 1) #[.int .i64 2, .int .i64 mid, .int .i64 born, .string fr, .slice a3 n3 c3, .string bo, .int .i64 id, .int .i64 (kr : Int), .int .i64 vk, .int .i64 vc, .string vt, .int .i64 tr, .int .i64 due] W5) := HR4.out.below hb5
  have HZ5 : Hid (Blk (w.heap.size + 1 + 1) #[.slice none 0 0, .int .i64 0] W5) := HZ4.out.below hb5
  have HO5 : Hid (Blk w1.heap.size #[.slice (some ⟨g, 0, none⟩) L.length c5, .int .i64 nx] W5) := HO4.out.below hb5
  have HI5 : Hid (ItsP W5 W0.heap.size (.slice (some ⟨g, 0, none⟩) L.length c5) L P1) := HI4.out.below hb5 (Nat.le_refl _)
  have HV5 : Hid (Vds W5 W0.heap.size (.slice p2 X.V.length q2) X.V) := vds_below HV1.out hb5 (Nat.le_refl _)
  have HS5 : Hid (Strs W5 W0.heap.size (.slice p1 X.R.length q1) X.R) := strs_below HS1.out hb5 (Nat.le_refl _)
  clear hb5 HR4 HZ4 HO4 HI4 HV1 HS1 b4
  have x7 : W5.cell? ⟨w.heap.size + 1, 7, none⟩ = some (.int .i64 (kr : Int)) := HR5.out.cell 7
  have t5 : W5.cell? ⟨w4.heap.size, 5, none⟩ = some (.slice p2 X.V.length q2) := HX5.out.cell 5
  have hkr : kr < X.V.length := by rw [← HX.out]; exact HRC.out
  obtain ⟨g2, rfl, hC⟩ : ∃ g2, p2 = some ⟨g2, 0, none⟩ ∧ VdsAt W5 W0.heap.size g2 q2 X.V := by
    rcases HV5.out.cases with ⟨_, hL0⟩ | ⟨g2, cap, hv, hs⟩
    · rw [hL0] at hkr; exact absurd hkr (Nat.not_lt_zero _)
    · injection hv with h1 h2 h3; subst h3; exact ⟨g2, h1, hs⟩
  obtain ⟨v0, v1, v2⟩ := hC.cell kr hkr
  have lg2 : g2 < W5.heap.size := hC.lt
  have hpp : pend (X.V[kr]'hkr) = true := by
    have := HPE.out HRC.out
    simp only [HX.out] at this
    exact this
  have HKR : Hid (kr < X.V.length) := hkr
  obtain ⟨Y, HY⟩ : ∃ Y, Hid (X.V[kr]'hkr = Y) := ⟨X.V[kr]'hkr, rfl⟩
  rw [HY.out] at v0 v1 v2 hpp
  obtain ⟨Y1, Y2, Y3⟩ := Y
  dsimp only at v0 v1 v2
  have hp2 : (Y1 == 0 || Y1 == 2) = true := hpp
  have HP2 : Hid ((Y1 == 0 || Y1 == 2) = true) := hp2
  have m1 : (0 : Int) ≤ (kr : Int) := by omega
  have m2 : (kr : Int) < (X.V.length : Int) := by omega
  have m3 : ¬ (X.V.length : Int) ≤ (kr : Int) := by omega
  clear hC hpp hp2 HY hkr
  go_wp2_with fail
  refine (specPend (Y1, Y2, Y3) _).mono ?_
  dsimp only
  rw [HP2.out]
  rintro e w6 ⟨rfl, hb6⟩
  have b6 : Below w.heap.size w w6 := b5.trans (hb6.mono b5.size)
  have z6 := hb6.size
  have HR6 : Hid (Blk (w.heap.size + 1) #[.int .i64 2, .int .i64 mid, .int .i64 born, .string fr, .slice a3 n3 c3, .string bo, .int .i64 id, .int .i64 (kr : Int), .int .i64 vk, .int .i64 vc, .string vt, .int .i64 tr, .int .i64 due] w6) := HR5.out.below hb6
  have HZ6 : Hid (Blk (w.heap.size + 1 + 1) #[.slice none 0 0, .int .i64 0] w6) := HZ5.out.below hb6
  have HO6 : Hid (Blk w1.heap.size #[.slice (some ⟨g, 0, none⟩) L.length c5, .int .i64 nx] w6) := HO5.out.below hb6
  have HI6 : Hid (ItsP w6 W0.heap.size (.slice (some ⟨g, 0, none⟩) L.length c5) L P1) := HI5.out.below hb6 (Nat.le_refl _)
  have HX6 : Hid (Blk w4.heap.size #[.int .i64 X.id, .int .i64 X.born, .string X.fr, .slice p1 X.R.length q1, .string X.bo, .slice (some ⟨g2, 0, none⟩) X.V.length q2, .int .i64 X.tr, .int .i64 X.du, .bool X.bn] w6) := HX5.out.below hb6
  have HV6 : Hid (Vds w6 W0.heap.size (.slice (some ⟨g2, 0, none⟩) X.V.length q2) X.V) := vds_below HV5.out hb6 (Nat.le_refl _)
  clear hb6 HR5 HZ5 HO5 HI5 HX5 HV5 HS5 b5 x7 t5 v0 v1 v2 m3
  have x7 : w6.cell? ⟨w.heap.size + 1, 7, none⟩ = some (.int .i64 (kr : Int)) := HR6.out.cell 7
  have x8 : w6.cell? ⟨w.heap.size + 1, 8, none⟩ = some (.int .i64 vk) := HR6.out.cell 8
  have x9 : w6.cell? ⟨w.heap.size + 1, 9, none⟩ = some (.int .i64 vc) := HR6.out.cell 9
  have x10 : w6.cell? ⟨w.heap.size + 1, 10, none⟩ = some (.string vt) := HR6.out.cell 10
  have t0 : w6.cell? ⟨w4.heap.size, 0, none⟩ = some (.int .i64 X.id) := HX6.out.cell 0
  have t1 : w6.cell? ⟨w4.heap.size, 1, none⟩ = some (.int .i64 X.born) := HX6.out.cell 1
  have t2 : w6.cell? ⟨w4.heap.size, 2, none⟩ = some (.string X.fr) := HX6.out.cell 2
  have t3 : w6.cell? ⟨w4.heap.size, 3, none⟩ = some (.slice p1 X.R.length q1) := HX6.out.cell 3
  have t4 : w6.cell? ⟨w4.heap.size, 4, none⟩ = some (.string X.bo) := HX6.out.cell 4
  have t5 : w6.cell? ⟨w4.heap.size, 5, none⟩ = some (.slice (some ⟨g2, 0, none⟩) X.V.length q2) := HX6.out.cell 5
  have t6 : w6.cell? ⟨w4.heap.size, 6, none⟩ = some (.int .i64 X.tr) := HX6.out.cell 6
  have t7 : w6.cell? ⟨w4.heap.size, 7, none⟩ = some (.int .i64 X.du) := HX6.out.cell 7
  have t8 : w6.cell? ⟨w4.heap.size, 8, none⟩ = some (.bool X.bn) := HX6.out.cell 8
  have HNX : Hid (NeB w4.heap.size (.slice (some ⟨g, 0, none⟩) L.length c5) P1) := HNX4
  clear HNX4
  have n1 : w4.heap.size ≠ g := by omega
  have n2 : g ≠ w4.heap.size := by omega
  have n3 : w.heap.size + 1 ≠ w4.heap.size := by omega
  have n4 : w1.heap.size ≠ w4.heap.size := by omega
  have n5 : w1.heap.size ≠ g := Ne.symm hgo
  have n6 : w.heap.size + 1 + 1 ≠ w4.heap.size := by omega
  have n7 : w.heap.size + 1 + 1 ≠ g := by omega
  have hg2 := row_lt HV6.out g2 rfl
  have n8 : g2 ≠ g := row_apart (HI6.out.vds i hi) HI6.out.row.1 (Ne.symm TvI) g2 g (by rw [HE1.out]; rfl) rfl
  have n9 : g2 ≠ w4.heap.size := (HNX.out.p _ (List.getElem_mem (by omega : i < P1.length))).2 g2 (by rw [HE1.out]; rfl)
  have nA : g2 ≠ w1.heap.size := (HN.out.p _ (List.getElem_mem (by omega : i < P1.length))).2 g2 (by rw [HE1.out]; rfl)
  have nB : w4.heap.size ≠ g2 := Ne.symm n9
  have nC : g ≠ g2 := Ne.symm n8
  have nD : w1.heap.size ≠ g2 := Ne.symm nA
  have nE : w.heap.size + 1 + 1 ≠ g2 := by omega
  have nF : w.heap.size + 1 ≠ g2 := by omega
  have f2 : ∀ o, w6.frozen? ⟨g2, o, none⟩ = false := (Vds.at HV6.out).1.free
  have fg : ∀ o, w6.frozen? ⟨g, o, none⟩ = false := HI6.out.row.at.1.free
  obtain ⟨v0, v1, v2⟩ := (Vds.at HV6.out).1.cell kr HKR.out
  obtain ⟨u0, u1, u2, u3, u4, u5, u6, u7, u8⟩ := HI6.out.cells i hi
  have o0 : w6.cell? ⟨w1.heap.size, 0, none⟩ = some (.slice (some ⟨g, 0, none⟩) L.length c5) := HO6.out.cell 0
  have o1 : w6.cell? ⟨w1.heap.size, 1, none⟩ = some (.int .i64 nx) := HO6.out.cell 1
  have r0 : w6.cell? ⟨w.heap.size + 1 + 1, 0, none⟩ = some (.slice none 0 0) := HZ6.out.cell 0
  have r1 : w6.cell? ⟨w.heap.size + 1 + 1, 1, none⟩ = some (.int .i64 0) := HZ6.out.cell 1
  have g0 := HZ6.out.free 0
  have g1 := HZ6.out.free 1
  go_wp2
  refine bodyPost_ret (v := .tuple #[.agg #[.slice (some ⟨g, 0, none⟩) L.length c5, .int .i64 nx], .bool true]) (by simp [results, Tryz.results6, go_sem, r0, r1]) rfl ?_
  refine ⟨⟨_, P1, rfl, ?_⟩, ?_⟩
  · refine ItsP.le (lo := W0.heap.size) ?_ (by omega)
    refine ItsP.setB (ItsP.setB ?_ (by dsimp only; omega) _) (by dsimp only; omega) _
    have hv0 : w6.ownsRow W0.heap.size 41 3 (.slice (some ⟨g2, 0, none⟩) X.V.length q2) X.V.length (vrow X.V) := HV6.out
    have hv1 := vds_set (vds_set (vds_set hv0 (i := kr * 3) (.int .i64 vk)) (i := kr * 3 + 1) (.int .i64 vc)) (i := kr * 3 + 2) (.string vt)
    rw [vrow_set X.V kr (vk, vc, vt) HKR.out] at hv1
    have hv2 : Vds (((w6.setCell ⟨g2, kr * 3, none⟩ (.int .i64 vk)).setCell ⟨g2, kr * 3 + 1, none⟩ (.int .i64 vc)).setCell ⟨g2, kr * 3 + 2, none⟩ (.string vt)) W0.heap.size (.slice (some ⟨g2, 0, none⟩) X.V.length q2) (X.V.set kr (vk, vc, vt)) := by
      show World.ownsRow _ _ _ _ _ _ _
      rw [List.length_set]
      exact hv1
    have ho : Off g2 w6 (((w6.setCell ⟨g2, kr * 3, none⟩ (.int .i64 vk)).setCell ⟨g2, kr * 3 + 1, none⟩ (.int .i64 vc)).setCell ⟨g2, kr * 3 + 2, none⟩ (.string vt)) := (((Off.refl g2 w6).setCell _).setCell _).setCell _
    have s1 := HI6.out.vdV hi (X.V.set kr (vk, vc, vt)) (by rw [HE1.out]; exact hv2) (by rw [HE1.out]; exact .inl ⟨g2, rfl, ho⟩)
    have s2 := s1.put (i := i) (by simpa using hi) { L[i] with V := X.V.set kr (vk, vc, vt) } (.slice p1 X.R.length q1, .slice (some ⟨g2, 0, none⟩) X.V.length q2) HE1.out (by rw [List.getElem_set_self]) (by rw [List.getElem_set_self])
    rw [List.set_set] at s2
    simp only [HX.out] at s2 ⊢
    exact s2
  · refine Below.setCell (Below.setCell ?_ (by dsimp only; omega) _) (by dsimp only; omega) _
    repeat (refine Below.setCell ?_ (by dsimp only; omega) _)
    exact b6
end Go.Proofs.YtlolnfpfipnfeaaGreat
namespace Go.Proofs.YtlolnfpfipnfeaaGreat
open Go.ChangeShapes Go.WideShapes Go.ChangeAt Go.RowKit
attribute [local go_sem ↓] Go.wp_at_zero Go.wp_at_succ


set_option maxHeartbeats 8000000 in
set_option maxRecDepth 100000 in
theorem sa5was (mid born : Int) (fr bo : ByteArray) (a3 : Option Addr) (n3 c3 : Nat) (id rc vk vc : Int) (vt : ByteArray) (tr due : Int) (nx : Int) (v : Value) (L : List It) (P : List (Value × Value)) (lo : Nat) (w : World) (h : ItsP w lo v L P) (hL : L.length ≤ 1048576) (hs : ∀ x ∈ L, SmallI x) (hpk : ∀ wx, Below w.heap.size w wx → Calls Tryz.prog 19 #[.agg #[.int .i64 5, .int .i64 mid, .int .i64 born, .string fr, .slice a3 n3 c3, .string bo, .int .i64 id, .int .i64 rc, .int .i64 vk, .int .i64 vc, .string vt, .int .i64 tr, .int .i64 due]] wx fun e w' => (∃ s : ByteArray, e = .returned (.string s) ∧ 1 ≤ s.size) ∧ Below wx.heap.size wx w') (i : Nat) (hf : findI id L 0 = some i) (hi : i < L.length) (hV : L[i].V.length ≤ 1048576) (hany : L[i].V.any pend = true) :
    Calls Tryz.prog 6 #[.agg #[v, .int .i64 nx], .agg #[.int .i64 5, .int .i64 mid, .int .i64 born, .string fr, .slice a3 n3 c3, .string bo, .int .i64 id, .int .i64 rc, .int .i64 vk, .int .i64 vc, .string vt, .int .i64 tr, .int .i64 due]] w fun e w' => (∃ u P', e = .returned (.tuple #[.agg #[u, .int .i64 nx], .bool false]) ∧ ItsP w' w.heap.size u L P') ∧ Below w.heap.size w w' := by
  have HAN : Hid (L[i].V.any pend = true) := hany
  have HVL : Hid (L[i].V.length ≤ 1048576) := hV
  clear hany hV
  have HP : Hid (placeI id L = (i : Int)) := by show _ = _; unfold placeI; rw [hf]
  clear hf
  obtain ⟨a1, c1, rfl⟩ := h.form
  have H : Hid (ItsP w lo (.slice a1 L.length c1) L P) := h
  have HS : Hid (∀ x ∈ L, SmallI x) := hs
  have HPK : Hid (∀ wx, Below w.heap.size w wx → Calls Tryz.prog 19 #[.agg #[.int .i64 5, .int .i64 mid, .int .i64 born, .string fr, .slice a3 n3 c3, .string bo, .int .i64 id, .int .i64 rc, .int .i64 vk, .int .i64 vc, .string vt, .int .i64 tr, .int .i64 due]] wx fun e w' => (∃ s : ByteArray, e = .returned (.string s) ∧ 1 ≤ s.size) ∧ Below wx.heap.size wx w') := hpk
  clear h hs hpk
  go_enter Tryz.func6, Tryz.ntmps6
  go_wp2_with fail
  generalize hW : World.alloc _ _ = W0
  have HQ0 : Hid (Blk w.heap.size #[.slice a1 L.length c1, .int .i64 nx] W0) := by show Blk _ _ _; rw [← hW]; exact (blk3I w _ _ _ _ _ _).1
  have HR0 : Hid (Blk (w.heap.size + 1) #[.int .i64 5, .int .i64 mid, .int .i64 born, .string fr, .slice a3 n3 c3, .string bo, .int .i64 id, .int .i64 rc, .int .i64 vk, .int .i64 vc, .string vt, .int .i64 tr, .int .i64 due] W0) := by show Blk _ _ _; rw [← hW]; exact (blk3I w _ _ _ _ _ _).2.1
  have HZ0 : Hid (Blk (w.heap.size + 1 + 1) #[.slice none 0 0, .int .i64 0] W0) := by show Blk _ _ _; rw [← hW]; exact (blk3I w _ _ _ _ _ _).2.2
  have b0 : Below w.heap.size w W0 := by rw [← hW]; exact below3 _ _ _ _
  have z0 : W0.heap.size = w.heap.size + 3 := by rw [← hW]; simp
  clear hW
  refine (specQueue _ nx L P lo _ (H.out.below b0 (Nat.le_refl _)) hL HS.out).mono ?_
  rintro e w1 ⟨⟨u, P1, rfl, S1⟩, hb1⟩
  obtain ⟨a5, c5, hf⟩ := S1.form
  subst hf
  have z1 := hb1.size
  have b1 : Below w.heap.size w w1 := b0.trans (hb1.mono b0.size)
  have HI1 : Hid (ItsP w1 W0.heap.size (.slice a5 L.length c5) L P1) := S1
  have HQ1 : Hid _ := HQ0.out.below hb1
  have HR1 : Hid _ := HR0.out.below hb1
  have HZ1 : Hid _ := HZ0.out.below hb1
  clear hb1 S1 HQ0 HR0 HZ0 b0
  have x0 : w1.cell? ⟨w.heap.size + 1, 0, none⟩ = some (.int .i64 5) := HR1.out.cell 0
  have x1 : w1.cell? ⟨w.heap.size + 1, 1, none⟩ = some (.int .i64 mid) := HR1.out.cell 1
  have x2 : w1.cell? ⟨w.heap.size + 1, 2, none⟩ = some (.int .i64 born) := HR1.out.cell 2
  have x3 : w1.cell? ⟨w.heap.size + 1, 3, none⟩ = some (.string fr) := HR1.out.cell 3
  have x4 : w1.cell? ⟨w.heap.size + 1, 4, none⟩ = some (.slice a3 n3 c3) := HR1.out.cell 4
  have x5 : w1.cell? ⟨w.heap.size + 1, 5, none⟩ = some (.string bo) := HR1.out.cell 5
  have x6 : w1.cell? ⟨w.heap.size + 1, 6, none⟩ = some (.int .i64 id) := HR1.out.cell 6
  have x7 : w1.cell? ⟨w.heap.size + 1, 7, none⟩ = some (.int .i64 rc) := HR1.out.cell 7
  have x8 : w1.cell? ⟨w.heap.size + 1, 8, none⟩ = some (.int .i64 vk) := HR1.out.cell 8
  have x9 : w1.cell? ⟨w.heap.size + 1, 9, none⟩ = some (.int .i64 vc) := HR1.out.cell 9
  have x10 : w1.cell? ⟨w.heap.size + 1, 10, none⟩ = some (.string vt) := HR1.out.cell 10
  have x11 : w1.cell? ⟨w.heap.size + 1, 11, none⟩ = some (.int .i64 tr) := HR1.out.cell 11
  have x12 : w1.cell? ⟨w.heap.size + 1, 12, none⟩ = some (.int .i64 due) := HR1.out.cell 12
  have lR1 : w.heap.size + 1 < w1.heap.size := HR1.out.lt
  go_wp2_with fail
  generalize hW : World.alloc _ _ = W2
  have HO2 : Hid (Blk w1.heap.size #[.slice a5 L.length c5, .int .i64 nx] W2) := by show Blk _ _ _; rw [← hW]; exact Blk.new w1 _ _
  have hb2 : Below w1.heap.size w1 W2 := by rw [← hW]; exact below1 _ _
  have z2 : W2.heap.size = w1.heap.size + 1 := by rw [← hW]; simp
  clear hW x0 x1 x2 x3 x4 x5 x6 x7 x8 x9 x10 x11 x12
  have b2 : Below w.heap.size w W2 := b1.trans (hb2.mono b1.size)
  refine (HPK.out _ b2).mono ?_
  rintro e w3 ⟨⟨s, rfl, hs⟩, hb3⟩
  have HSZ : Hid (1 ≤ s.size) := hs
  have z3 := hb3.size
  have b3 : Below w.heap.size w w3 := b2.trans (hb3.mono b2.size)
  have HQ : Hid (Blk w.heap.size #[.slice a1 L.length c1, .int .i64 nx] w3) := (HQ1.out.below hb2).below hb3
  have HR : Hid (Blk (w.heap.size + 1) #[.int .i64 5, .int .i64 mid, .int .i64 born, .string fr, .slice a3 n3 c3, .string bo, .int .i64 id, .int .i64 rc, .int .i64 vk, .int .i64 vc, .string vt, .int .i64 tr, .int .i64 due] w3) := (HR1.out.below hb2).below hb3
  have HZ : Hid (Blk (w.heap.size + 1 + 1) #[.slice none 0 0, .int .i64 0] w3) := (HZ1.out.below hb2).below hb3
  have HO : Hid (Blk w1.heap.size #[.slice a5 L.length c5, .int .i64 nx] w3) := HO2.out.below hb3
  have HI : Hid (ItsP w3 W0.heap.size (.slice a5 L.length c5) L P1) := (HI1.out.below hb2 (Nat.le_refl _)).below hb3 (Nat.le_refl _)
  have HN : Hid (NeB w1.heap.size (.slice a5 L.length c5) P1) := NeB.of HI1.out (Nat.le_refl _)
  have H3 : Hid (ItsP w3 lo (.slice a1 L.length c1) L P) := H.out.below b3 (Nat.le_refl _)
  clear hs hb2 hb3 b1 b2 HQ1 HR1 HZ1 HO2 HI1 H HPK
  have hln := list_ne (x := s) (by have := HSZ.out; omega)
  have hl2 := list_ne2 (x := s) (by have := HSZ.out; omega)
  have x0 : w3.cell? ⟨w.heap.size + 1, 0, none⟩ = some (.int .i64 5) := HR.out.cell 0
  have x6 : w3.cell? ⟨w.heap.size + 1, 6, none⟩ = some (.int .i64 id) := HR.out.cell 6
  have q0 : w3.cell? ⟨w.heap.size, 0, none⟩ = some (.slice a1 L.length c1) := HQ.out.cell 0
  have q1 : w3.cell? ⟨w.heap.size, 1, none⟩ = some (.int .i64 nx) := HQ.out.cell 1
  go_wp2_with fail
  refine (specFind _ nx id L P lo _ H3.out hL).mono ?_
  rw [HP.out]
  rintro e w4 ⟨rfl, hb4⟩
  have z4 := hb4.size
  have b4 : Below w.heap.size w w4 := b3.trans (hb4.mono b3.size)
  have HR4 : Hid (Blk (w.heap.size + 1) #[.int .i64 5, .int .i64 mid, .int .i64 born, .string fr, .slice a3 n3 c3, .string bo, .int .i64 id, .int .i64 rc, .int .i64 vk, .int .i64 vc, .string vt, .int .i64 tr, .int .i64 due] w4) := HR.out.below hb4
  have HZ4 : Hid (Blk (w.heap.size + 1 + 1) #[.slice none 0 0, .int .i64 0] w4) := HZ.out.below hb4
  have HO4 : Hid (Blk w1.heap.size #[.slice a5 L.length c5, .int .i64 nx] w4) := HO.out.below hb4
  have HI4 : Hid (ItsP w4 W0.heap.size (.slice a5 L.length c5) L P1) := HI.out.below hb4 (Nat.le_refl _)
  clear hb4 HR HZ HO HI H3 HQ b3 q0 q1 x0 x6 hln hl2 HSZ
  obtain ⟨g, rfl⟩ : ∃ g, a5 = some ⟨g, 0, none⟩ := by
    rcases HI4.out.row.cases with ⟨_, hL0⟩ | ⟨g, cap, hv, hs⟩
    · have := congrArg List.length hL0; rw [irow_len HI4.out.len] at this; simp only [List.length_nil] at this; omega
    · injection hv with h1; exact ⟨g, h1⟩
  have hg := HI4.out.row.own g rfl
  have hgo : g ≠ w1.heap.size := HN.out.v g rfl
  have hPl := HI4.out.len
  have lO4 : w1.heap.size < w4.heap.size := HO4.out.lt
  have k1 : (0 : Int) ≤ (i : Int) := by omega
  have k2 : (i : Int) < (L.length : Int) := by omega
  have k3 : ¬ (i : Int) < 0 := by omega
  obtain ⟨y0, y1, y2, y3, y4, y5, y6, y7, y8⟩ := HI4.out.cells i hi
  have hS := HI4.out.str i hi
  have hV := HI4.out.vds i hi
  obtain ⟨p1, q1, e1⟩ := strs_formR hS
  obtain ⟨p2, q2, e2⟩ := vds_form hV
  rw [e1] at y3 hS
  rw [e2] at y5 hV
  have HS1 : Hid (Strs w4 W0.heap.size (.slice p1 L[i].R.length q1) L[i].R) := hS
  have HV1 : Hid (Vds w4 W0.heap.size (.slice p2 L[i].V.length q2) L[i].V) := hV
  have HE1 : Hid (P1[i]'(by omega) = (.slice p1 L[i].R.length q1, .slice p2 L[i].V.length q2)) := by show _ = _; rw [← e1, ← e2]
  clear hS hV e1 e2
  obtain ⟨X, HX⟩ : ∃ X, Hid (L[i] = X) := ⟨L[i], rfl⟩
  rw [HX.out] at y0 y1 y2 y3 y4 y5 y6 y7 y8 HS1 HV1 HE1
  have x0 : w4.cell? ⟨w.heap.size + 1, 0, none⟩ = some (.int .i64 5) := HR4.out.cell 0
  have o0 : w4.cell? ⟨w1.heap.size, 0, none⟩ = some (.slice (some ⟨g, 0, none⟩) L.length c5) := HO4.out.cell 0
  have lR4 : w.heap.size + 1 < w4.heap.size := HR4.out.lt
  go_upto_region 26 with fail
  have HNX4 := NeB.of HI4.out (Nat.le_refl _)
  generalize hW : World.alloc _ _ = W5
  have HX5 : Hid (Blk w4.heap.size #[.int .i64 X.id, .int .i64 X.born, .string X.fr, .slice p1 X.R.length q1, .string X.bo, .slice p2 X.V.length q2, .int .i64 X.tr, .int .i64 X.du, .bool X.bn] W5) := by show Blk _ _ _; rw [← hW]; exact Blk.new w4 _ _
  have hb5 : Below w4.heap.size w4 W5 := by rw [← hW]; exact below1 _ _
  have z5 : W5.heap.size = w4.heap.size + 1 := by rw [← hW]; simp
  clear hW y0 y1 y2 y3 y4 y5 y6 y7 y8 x0 o0
  have b5 : Below w.heap.size w W5 := b4.trans (hb5.mono b4.size)
  have HR5 : Hid (Blk (w.heap.size + 1) #[.int .i64 5, .int .i64 mid, .int .i64 born, .string fr, .slice a3 n3 c3, .string bo, .int .i64 id, .int .i64 rc, .int .i64 vk, .int .i64 vc, .string vt, .int .i64 tr, .int .i64 due] W5) := HR4.out.below hb5
  have HZ5 : Hid (Blk (w.heap.size + 1 + 1) #[.slice none 0 0, .int .i64 0] W5) := HZ4.out.below hb5
  have HO5 : Hid (Blk w1.heap.size #[.slice (some ⟨g, 0, none⟩) L.length c5, .int .i64 nx] W5) := HO4.out.below hb5
  have HI5 : Hid (ItsP W5 W0.heap.size (.slice (some ⟨g, 0, none⟩) L.length c5) L P1) := HI4.out.below hb5 (Nat.le_refl _)
  have HV5 : Hid (Vds W5 W0.heap.size (.slice p2 X.V.length q2) X.V) := vds_below HV1.out hb5 (Nat.le_refl _)
  have HS5 : Hid (Strs W5 W0.heap.size (.slice p1 X.R.length q1) X.R) := strs_below HS1.out hb5 (Nat.le_refl _)
  clear hb5 HR4 HZ4 HO4 HI4 HV1 HS1 b4
  have t0 : W5.cell? ⟨w4.heap.size, 0, none⟩ = some (.int .i64 X.id) := HX5.out.cell 0
  have t1 : W5.cell? ⟨w4.heap.size, 1, none⟩ = some (.int .i64 X.born) := HX5.out.cell 1
  have t2 : W5.cell? ⟨w4.heap.size, 2, none⟩ = some (.string X.fr) := HX5.out.cell 2
  have t3 : W5.cell? ⟨w4.heap.size, 3, none⟩ = some (.slice p1 X.R.length q1) := HX5.out.cell 3
  have t4 : W5.cell? ⟨w4.heap.size, 4, none⟩ = some (.string X.bo) := HX5.out.cell 4
  have t5 : W5.cell? ⟨w4.heap.size, 5, none⟩ = some (.slice p2 X.V.length q2) := HX5.out.cell 5
  have t6 : W5.cell? ⟨w4.heap.size, 6, none⟩ = some (.int .i64 X.tr) := HX5.out.cell 6
  have t7 : W5.cell? ⟨w4.heap.size, 7, none⟩ = some (.int .i64 X.du) := HX5.out.cell 7
  have t8 : W5.cell? ⟨w4.heap.size, 8, none⟩ = some (.bool X.bn) := HX5.out.cell 8
  go_wp2_with fail
  refine (specAny X _ _ W0.heap.size W0.heap.size _ HS5.out HV5.out (by rw [← HX.out]; exact HVL.out)).mono ?_
  rw [show X.V.any pend = true by rw [← HX.out]; exact HAN.out]
  rintro e w6 ⟨rfl, hb6⟩
  have b6 : Below w.heap.size w w6 := b5.trans (hb6.mono b5.size)
  have z6 := hb6.size
  have HZ6 : Hid (Blk (w.heap.size + 1 + 1) #[.slice none 0 0, .int .i64 0] w6) := HZ5.out.below hb6
  have HO6 : Hid (Blk w1.heap.size #[.slice (some ⟨g, 0, none⟩) L.length c5, .int .i64 nx] w6) := HO5.out.below hb6
  have HI6 : Hid (ItsP w6 W0.heap.size (.slice (some ⟨g, 0, none⟩) L.length c5) L P1) := HI5.out.below hb6 (Nat.le_refl _)
  clear hb6 HR5 HZ5 HO5 HI5 HX5 HV5 HS5 b5 t0 t1 t2 t3 t4 t5 t6 t7 t8 HNX4
  have o0 : w6.cell? ⟨w1.heap.size, 0, none⟩ = some (.slice (some ⟨g, 0, none⟩) L.length c5) := HO6.out.cell 0
  have o1 : w6.cell? ⟨w1.heap.size, 1, none⟩ = some (.int .i64 nx) := HO6.out.cell 1
  have r0 : w6.cell? ⟨w.heap.size + 1 + 1, 0, none⟩ = some (.slice none 0 0) := HZ6.out.cell 0
  have r1 : w6.cell? ⟨w.heap.size + 1 + 1, 1, none⟩ = some (.int .i64 0) := HZ6.out.cell 1
  have g0 := HZ6.out.free 0
  have g1 := HZ6.out.free 1
  go_wp2
  refine bodyPost_ret (v := .tuple #[.agg #[.slice (some ⟨g, 0, none⟩) L.length c5, .int .i64 nx], .bool false]) (by simp [results, Tryz.results6, go_sem, r0, r1]) rfl ?_
  refine ⟨⟨_, P1, rfl, ?_⟩, ?_⟩
  · refine ItsP.le (lo := W0.heap.size) ?_ (by omega)
    refine ItsP.setB (ItsP.setB ?_ (by dsimp only; omega) _) (by dsimp only; omega) _
    exact HI6.out
  · refine Below.setCell (Below.setCell ?_ (by dsimp only; omega) _) (by dsimp only; omega) _
    exact b6

set_option maxHeartbeats 8000000 in
set_option maxRecDepth 100000 in
theorem sa5yes (mid born : Int) (fr bo : ByteArray) (a3 : Option Addr) (n3 c3 : Nat) (id rc vk vc : Int) (vt : ByteArray) (tr due : Int) (nx : Int) (v : Value) (L : List It) (P : List (Value × Value)) (lo : Nat) (w : World) (h : ItsP w lo v L P) (hL : L.length ≤ 1048576) (hs : ∀ x ∈ L, SmallI x) (hpk : ∀ wx, Below w.heap.size w wx → Calls Tryz.prog 19 #[.agg #[.int .i64 5, .int .i64 mid, .int .i64 born, .string fr, .slice a3 n3 c3, .string bo, .int .i64 id, .int .i64 rc, .int .i64 vk, .int .i64 vc, .string vt, .int .i64 tr, .int .i64 due]] wx fun e w' => (∃ s : ByteArray, e = .returned (.string s) ∧ 1 ≤ s.size) ∧ Below wx.heap.size wx w') (i : Nat) (hf : findI id L 0 = some i) (hi : i < L.length) (hV : L[i].V.length ≤ 1048576) (hany : L[i].V.any pend = false) :
    Calls Tryz.prog 6 #[.agg #[v, .int .i64 nx], .agg #[.int .i64 5, .int .i64 mid, .int .i64 born, .string fr, .slice a3 n3 c3, .string bo, .int .i64 id, .int .i64 rc, .int .i64 vk, .int .i64 vc, .string vt, .int .i64 tr, .int .i64 due]] w fun e w' => (∃ u P', e = .returned (.tuple #[.agg #[u, .int .i64 nx], .bool true]) ∧ ItsP w' w.heap.size u (L.eraseIdx i) P') ∧ Below w.heap.size w w' := by
  have HAN : Hid (L[i].V.any pend = false) := hany
  have HVL : Hid (L[i].V.length ≤ 1048576) := hV
  clear hany hV
  have HP : Hid (placeI id L = (i : Int)) := by show _ = _; unfold placeI; rw [hf]
  clear hf
  obtain ⟨a1, c1, rfl⟩ := h.form
  have H : Hid (ItsP w lo (.slice a1 L.length c1) L P) := h
  have HS : Hid (∀ x ∈ L, SmallI x) := hs
  have HPK : Hid (∀ wx, Below w.heap.size w wx → Calls Tryz.prog 19 #[.agg #[.int .i64 5, .int .i64 mid, .int .i64 born, .string fr, .slice a3 n3 c3, .string bo, .int .i64 id, .int .i64 rc, .int .i64 vk, .int .i64 vc, .string vt, .int .i64 tr, .int .i64 due]] wx fun e w' => (∃ s : ByteArray, e = .returned (.string s) ∧ 1 ≤ s.size) ∧ Below wx.heap.size wx w') := hpk
  clear h hs hpk
  go_enter Tryz.func6, Tryz.ntmps6
  go_wp2_with fail
  generalize hW : World.alloc _ _ = W0
  have HQ0 : Hid (Blk w.heap.size #[.slice a1 L.length c1, .int .i64 nx] W0) := by show Blk _ _ _; rw [← hW]; exact (blk3I w _ _ _ _ _ _).1
  have HR0 : Hid (Blk (w.heap.size + 1) #[.int .i64 5, .int .i64 mid, .int .i64 born, .string fr, .slice a3 n3 c3, .string bo, .int .i64 id, .int .i64 rc, .int .i64 vk, .int .i64 vc, .string vt, .int .i64 tr, .int .i64 due] W0) := by show Blk _ _ _; rw [← hW]; exact (blk3I w _ _ _ _ _ _).2.1
  have HZ0 : Hid (Blk (w.heap.size + 1 + 1) #[.slice none 0 0, .int .i64 0] W0) := by show Blk _ _ _; rw [← hW]; exact (blk3I w _ _ _ _ _ _).2.2
  have b0 : Below w.heap.size w W0 := by rw [← hW]; exact below3 _ _ _ _
  have z0 : W0.heap.size = w.heap.size + 3 := by rw [← hW]; simp
  clear hW
  refine (specQueue _ nx L P lo _ (H.out.below b0 (Nat.le_refl _)) hL HS.out).mono ?_
  rintro e w1 ⟨⟨u, P1, rfl, S1⟩, hb1⟩
  obtain ⟨a5, c5, hf⟩ := S1.form
  subst hf
  have z1 := hb1.size
  have b1 : Below w.heap.size w w1 := b0.trans (hb1.mono b0.size)
  have HI1 : Hid (ItsP w1 W0.heap.size (.slice a5 L.length c5) L P1) := S1
  have HQ1 : Hid _ := HQ0.out.below hb1
  have HR1 : Hid _ := HR0.out.below hb1
  have HZ1 : Hid _ := HZ0.out.below hb1
  clear hb1 S1 HQ0 HR0 HZ0 b0
  have x0 : w1.cell? ⟨w.heap.size + 1, 0, none⟩ = some (.int .i64 5) := HR1.out.cell 0
  have x1 : w1.cell? ⟨w.heap.size + 1, 1, none⟩ = some (.int .i64 mid) := HR1.out.cell 1
  have x2 : w1.cell? ⟨w.heap.size + 1, 2, none⟩ = some (.int .i64 born) := HR1.out.cell 2
  have x3 : w1.cell? ⟨w.heap.size + 1, 3, none⟩ = some (.string fr) := HR1.out.cell 3
  have x4 : w1.cell? ⟨w.heap.size + 1, 4, none⟩ = some (.slice a3 n3 c3) := HR1.out.cell 4
  have x5 : w1.cell? ⟨w.heap.size + 1, 5, none⟩ = some (.string bo) := HR1.out.cell 5
  have x6 : w1.cell? ⟨w.heap.size + 1, 6, none⟩ = some (.int .i64 id) := HR1.out.cell 6
  have x7 : w1.cell? ⟨w.heap.size + 1, 7, none⟩ = some (.int .i64 rc) := HR1.out.cell 7
  have x8 : w1.cell? ⟨w.heap.size + 1, 8, none⟩ = some (.int .i64 vk) := HR1.out.cell 8
  have x9 : w1.cell? ⟨w.heap.size + 1, 9, none⟩ = some (.int .i64 vc) := HR1.out.cell 9
  have x10 : w1.cell? ⟨w.heap.size + 1, 10, none⟩ = some (.string vt) := HR1.out.cell 10
  have x11 : w1.cell? ⟨w.heap.size + 1, 11, none⟩ = some (.int .i64 tr) := HR1.out.cell 11
  have x12 : w1.cell? ⟨w.heap.size + 1, 12, none⟩ = some (.int .i64 due) := HR1.out.cell 12
  have lR1 : w.heap.size + 1 < w1.heap.size := HR1.out.lt
  go_wp2_with fail
  generalize hW : World.alloc _ _ = W2
  have HO2 : Hid (Blk w1.heap.size #[.slice a5 L.length c5, .int .i64 nx] W2) := by show Blk _ _ _; rw [← hW]; exact Blk.new w1 _ _
  have hb2 : Below w1.heap.size w1 W2 := by rw [← hW]; exact below1 _ _
  have z2 : W2.heap.size = w1.heap.size + 1 := by rw [← hW]; simp
  clear hW x0 x1 x2 x3 x4 x5 x6 x7 x8 x9 x10 x11 x12
  have b2 : Below w.heap.size w W2 := b1.trans (hb2.mono b1.size)
  refine (HPK.out _ b2).mono ?_
  rintro e w3 ⟨⟨s, rfl, hs⟩, hb3⟩
  have HSZ : Hid (1 ≤ s.size) := hs
  have z3 := hb3.size
  have b3 : Below w.heap.size w w3 := b2.trans (hb3.mono b2.size)
  have HQ : Hid (Blk w.heap.size #[.slice a1 L.length c1, .int .i64 nx] w3) := (HQ1.out.below hb2).below hb3
  have HR : Hid (Blk (w.heap.size + 1) #[.int .i64 5, .int .i64 mid, .int .i64 born, .string fr, .slice a3 n3 c3, .string bo, .int .i64 id, .int .i64 rc, .int .i64 vk, .int .i64 vc, .string vt, .int .i64 tr, .int .i64 due] w3) := (HR1.out.below hb2).below hb3
  have HZ : Hid (Blk (w.heap.size + 1 + 1) #[.slice none 0 0, .int .i64 0] w3) := (HZ1.out.below hb2).below hb3
  have HO : Hid (Blk w1.heap.size #[.slice a5 L.length c5, .int .i64 nx] w3) := HO2.out.below hb3
  have HI : Hid (ItsP w3 W0.heap.size (.slice a5 L.length c5) L P1) := (HI1.out.below hb2 (Nat.le_refl _)).below hb3 (Nat.le_refl _)
  have HN : Hid (NeB w1.heap.size (.slice a5 L.length c5) P1) := NeB.of HI1.out (Nat.le_refl _)
  have H3 : Hid (ItsP w3 lo (.slice a1 L.length c1) L P) := H.out.below b3 (Nat.le_refl _)
  clear hs hb2 hb3 b1 b2 HQ1 HR1 HZ1 HO2 HI1 H HPK
  have hln := list_ne (x := s) (by have := HSZ.out; omega)
  have hl2 := list_ne2 (x := s) (by have := HSZ.out; omega)
  have x0 : w3.cell? ⟨w.heap.size + 1, 0, none⟩ = some (.int .i64 5) := HR.out.cell 0
  have x6 : w3.cell? ⟨w.heap.size + 1, 6, none⟩ = some (.int .i64 id) := HR.out.cell 6
  have q0 : w3.cell? ⟨w.heap.size, 0, none⟩ = some (.slice a1 L.length c1) := HQ.out.cell 0
  have q1 : w3.cell? ⟨w.heap.size, 1, none⟩ = some (.int .i64 nx) := HQ.out.cell 1
  go_wp2_with fail
  refine (specFind _ nx id L P lo _ H3.out hL).mono ?_
  rw [HP.out]
  rintro e w4 ⟨rfl, hb4⟩
  have z4 := hb4.size
  have b4 : Below w.heap.size w w4 := b3.trans (hb4.mono b3.size)
  have HR4 : Hid (Blk (w.heap.size + 1) #[.int .i64 5, .int .i64 mid, .int .i64 born, .string fr, .slice a3 n3 c3, .string bo, .int .i64 id, .int .i64 rc, .int .i64 vk, .int .i64 vc, .string vt, .int .i64 tr, .int .i64 due] w4) := HR.out.below hb4
  have HZ4 : Hid (Blk (w.heap.size + 1 + 1) #[.slice none 0 0, .int .i64 0] w4) := HZ.out.below hb4
  have HO4 : Hid (Blk w1.heap.size #[.slice a5 L.length c5, .int .i64 nx] w4) := HO.out.below hb4
  have HI4 : Hid (ItsP w4 W0.heap.size (.slice a5 L.length c5) L P1) := HI.out.below hb4 (Nat.le_refl _)
  clear hb4 HR HZ HO HI H3 HQ b3 q0 q1 x0 x6 hln hl2 HSZ
  obtain ⟨g, rfl⟩ : ∃ g, a5 = some ⟨g, 0, none⟩ := by
    rcases HI4.out.row.cases with ⟨_, hL0⟩ | ⟨g, cap, hv, hs⟩
    · have := congrArg List.length hL0; rw [irow_len HI4.out.len] at this; simp only [List.length_nil] at this; omega
    · injection hv with h1; exact ⟨g, h1⟩
  have hg := HI4.out.row.own g rfl
  have hgo : g ≠ w1.heap.size := HN.out.v g rfl
  have hPl := HI4.out.len
  have lO4 : w1.heap.size < w4.heap.size := HO4.out.lt
  have k1 : (0 : Int) ≤ (i : Int) := by omega
  have k2 : (i : Int) < (L.length : Int) := by omega
  have k3 : ¬ (i : Int) < 0 := by omega
  obtain ⟨y0, y1, y2, y3, y4, y5, y6, y7, y8⟩ := HI4.out.cells i hi
  have hS := HI4.out.str i hi
  have hV := HI4.out.vds i hi
  obtain ⟨p1, q1, e1⟩ := strs_formR hS
  obtain ⟨p2, q2, e2⟩ := vds_form hV
  rw [e1] at y3 hS
  rw [e2] at y5 hV
  have HS1 : Hid (Strs w4 W0.heap.size (.slice p1 L[i].R.length q1) L[i].R) := hS
  have HV1 : Hid (Vds w4 W0.heap.size (.slice p2 L[i].V.length q2) L[i].V) := hV
  have HE1 : Hid (P1[i]'(by omega) = (.slice p1 L[i].R.length q1, .slice p2 L[i].V.length q2)) := by show _ = _; rw [← e1, ← e2]
  clear hS hV e1 e2
  obtain ⟨X, HX⟩ : ∃ X, Hid (L[i] = X) := ⟨L[i], rfl⟩
  rw [HX.out] at y0 y1 y2 y3 y4 y5 y6 y7 y8 HS1 HV1 HE1
  have x0 : w4.cell? ⟨w.heap.size + 1, 0, none⟩ = some (.int .i64 5) := HR4.out.cell 0
  have o0 : w4.cell? ⟨w1.heap.size, 0, none⟩ = some (.slice (some ⟨g, 0, none⟩) L.length c5) := HO4.out.cell 0
  have lR4 : w.heap.size + 1 < w4.heap.size := HR4.out.lt
  go_upto_region 26 with fail
  have HNX4 := NeB.of HI4.out (Nat.le_refl _)
  generalize hW : World.alloc _ _ = W5
  have HX5 : Hid (Blk w4.heap.size #[.int .i64 X.id, .int .i64 X.born, .string X.fr, .slice p1 X.R.length q1, .string X.bo, .slice p2 X.V.length q2, .int .i64 X.tr, .int .i64 X.du, .bool X.bn] W5) := by show Blk _ _ _; rw [← hW]; exact Blk.new w4 _ _
  have hb5 : Below w4.heap.size w4 W5 := by rw [← hW]; exact below1 _ _
  have z5 : W5.heap.size = w4.heap.size + 1 := by rw [← hW]; simp
  clear hW y0 y1 y2 y3 y4 y5 y6 y7 y8 x0 o0
  have b5 : Below w.heap.size w W5 := b4.trans (hb5.mono b4.size)
  have HR5 : Hid (Blk (w.heap.size + 1) #[.int .i64 5, .int .i64 mid, .int .i64 born, .string fr, .slice a3 n3 c3, .string bo, .int .i64 id, .int .i64 rc, .int .i64 vk, .int .i64 vc, .string vt, .int .i64 tr, .int .i64 due] W5) := HR4.out.below hb5
  have HZ5 : Hid (Blk (w.heap.size + 1 + 1) #[.slice none 0 0, .int .i64 0] W5) := HZ4.out.below hb5
  have HO5 : Hid (Blk w1.heap.size #[.slice (some ⟨g, 0, none⟩) L.length c5, .int .i64 nx] W5) := HO4.out.below hb5
  have HI5 : Hid (ItsP W5 W0.heap.size (.slice (some ⟨g, 0, none⟩) L.length c5) L P1) := HI4.out.below hb5 (Nat.le_refl _)
  have HV5 : Hid (Vds W5 W0.heap.size (.slice p2 X.V.length q2) X.V) := vds_below HV1.out hb5 (Nat.le_refl _)
  have HS5 : Hid (Strs W5 W0.heap.size (.slice p1 X.R.length q1) X.R) := strs_below HS1.out hb5 (Nat.le_refl _)
  clear hb5 HR4 HZ4 HO4 HI4 HV1 HS1 b4
  have t0 : W5.cell? ⟨w4.heap.size, 0, none⟩ = some (.int .i64 X.id) := HX5.out.cell 0
  have t1 : W5.cell? ⟨w4.heap.size, 1, none⟩ = some (.int .i64 X.born) := HX5.out.cell 1
  have t2 : W5.cell? ⟨w4.heap.size, 2, none⟩ = some (.string X.fr) := HX5.out.cell 2
  have t3 : W5.cell? ⟨w4.heap.size, 3, none⟩ = some (.slice p1 X.R.length q1) := HX5.out.cell 3
  have t4 : W5.cell? ⟨w4.heap.size, 4, none⟩ = some (.string X.bo) := HX5.out.cell 4
  have t5 : W5.cell? ⟨w4.heap.size, 5, none⟩ = some (.slice p2 X.V.length q2) := HX5.out.cell 5
  have t6 : W5.cell? ⟨w4.heap.size, 6, none⟩ = some (.int .i64 X.tr) := HX5.out.cell 6
  have t7 : W5.cell? ⟨w4.heap.size, 7, none⟩ = some (.int .i64 X.du) := HX5.out.cell 7
  have t8 : W5.cell? ⟨w4.heap.size, 8, none⟩ = some (.bool X.bn) := HX5.out.cell 8
  go_wp2_with fail
  refine (specAny X _ _ W0.heap.size W0.heap.size _ HS5.out HV5.out (by rw [← HX.out]; exact HVL.out)).mono ?_
  rw [show X.V.any pend = false by rw [← HX.out]; exact HAN.out]
  rintro e w6 ⟨rfl, hb6⟩
  have b6 : Below w.heap.size w w6 := b5.trans (hb6.mono b5.size)
  have z6 := hb6.size
  have HZ6 : Hid (Blk (w.heap.size + 1 + 1) #[.slice none 0 0, .int .i64 0] w6) := HZ5.out.below hb6
  have HO6 : Hid (Blk w1.heap.size #[.slice (some ⟨g, 0, none⟩) L.length c5, .int .i64 nx] w6) := HO5.out.below hb6
  have HI6 : Hid (ItsP w6 W0.heap.size (.slice (some ⟨g, 0, none⟩) L.length c5) L P1) := HI5.out.below hb6 (Nat.le_refl _)
  clear hb6 HR5 HZ5 HO5 HI5 HX5 HV5 HS5 b5 t0 t1 t2 t3 t4 t5 t6 t7 t8 HNX4
  obtain ⟨C, HC⟩ : ∃ C, Hid (irow L P1 = C) := ⟨_, rfl⟩
  have hCl : C.length = L.length := by rw [← HC.out]; exact irow_len hPl
  have HC9 : Hid (∀ c ∈ C, c.length = 9) := by rw [← HC.out]; exact irow_nine L P1
  have HCo : Hid (∀ u ∈ C.flatten, u.oneCell' = true) := by rw [← HC.out]; exact irow_one HI6.out
  have hrow : w6.ownsRow W0.heap.size 57 9 (.slice (some ⟨g, 0, none⟩) L.length c5) L.length C.flatten := by
    have := HI6.out.row.1
    rw [irow_len hPl, HC.out] at this
    exact this
  have hAt := HI6.out.row.at.1
  have hcap : L.length ≤ c5 := by have := hAt.len; rw [irow_len hPl] at this; exact this
  have hcm := hAt.capm
  unfold maxLen at hcm
  have hnw : ∀ (s n : Nat), s + n ≤ L.length → ∀ wx, Below w6.heap.size w6 wx → ∀ j u, ((C.drop s).take n).flatten[j]? = some u → wx.cell? ((⟨g, s * 9, none⟩ : Addr).add j) = some u := by
    intro s n hsn wx hx j u hj
    have hr := row_below hrow hx
    have hj2 : j < ((C.drop s).take n).flatten.length := (List.getElem?_eq_some_iff.1 hj).1
    have e0 : C.flatten = (C.take s).flatten ++ (C.drop s).flatten := by rw [← List.flatten_append, List.take_append_drop]
    have e1 : (C.drop s).flatten = ((C.drop s).take n).flatten ++ ((C.drop s).drop n).flatten := by rw [← List.flatten_append, List.take_append_drop]
    have e2 : (C.take s).flatten.length = s * 9 := by rw [flat_len (fun c hc => HC9.out c (List.mem_of_mem_take hc)), List.length_take, hCl]; congr 1; omega
    have := World.ownsRow.cells hr (g := g) rfl (s * 9 + j) u (by rw [e0, ← e2, List.getElem?_append_right (by omega), Nat.add_sub_cancel_left, e1, List.getElem?_append_left hj2]; exact hj)
    rw [Addr.add_lit, Nat.zero_add] at this
    rw [Addr.add_lit]
    exact this
  have HNW : Hid (∀ (s n : Nat), s + n ≤ L.length → ∀ wx, Below w6.heap.size w6 wx → ∀ j u, ((C.drop s).take n).flatten[j]? = some u → wx.cell? ((⟨g, s * 9, none⟩ : Addr).add j) = some u) := hnw
  have HSub : Hid (∀ (s n : Nat), ∀ u ∈ ((C.drop s).take n).flatten, u.oneCell' = true) := by
    intro s n u hu
    obtain ⟨l, hl, hul⟩ := List.mem_flatten.1 hu
    exact HCo.out u (List.mem_flatten.2 ⟨l, List.mem_of_mem_drop (List.mem_of_mem_take hl), hul⟩)
  have HLn : Hid (∀ (s n : Nat), s + n ≤ L.length → ((C.drop s).take n).flatten.length = n * 9) := by
    intro s n hsn
    rw [flat_len (fun c hc => HC9.out c (List.mem_of_mem_drop (List.mem_of_mem_take hc))), List.length_take, List.length_drop, hCl]; congr 1; omega
  clear hnw hrow hAt
  obtain ⟨i0, hinf, hx0, hx1, hx2⟩ := info_parts infoIt
  have fo := HO6.out.free 0
  have h10 := HNW.out 0 i (by omega) w6 (Below.refl _ _)
  have H10 : Hid (∀ j u, ((C.drop 0).take i).flatten[j]? = some u → w6.cell? ((⟨g, 0 * 9, none⟩ : Addr).add j) = some u) := h10
  clear h10
  have o0 : w6.cell? ⟨w1.heap.size, 0, none⟩ = some (.slice (some ⟨g, 0, none⟩) L.length c5) := HO6.out.cell 0
  have o1 : w6.cell? ⟨w1.heap.size, 1, none⟩ = some (.int .i64 nx) := HO6.out.cell 1
  have j1 : (i : Int) ≤ (c5 : Int) := by omega
  go_wp2_with (at_builtin; refine wpList_append_own _ rfl _ _ 34 rfl w6.heap.size 57 i0 (.agg #[.int .i64 0, .int .i64 0, .string ⟨#[]⟩, .slice none 0 0, .string ⟨#[]⟩, .slice none 0 0, .int .i64 0, .int .i64 0, .bool false]) 9 120 Tryz.underlying34 hinf hx0 hx1 hx2 rfl (by decide) (.slice none 0 0) 0 [] rfl ⟨by rfl, .inl ⟨rfl, rfl⟩⟩ ⟨g, 0, none⟩ i c5 ((C.drop 0).take i).flatten rfl (HLn.out 0 i (by omega)) H10.out (HSub.out 0 i) ?f4 ?f5 (Nat.le_refl _) ?_)
  case f4 => unfold maxLen; omega
  case f5 => omega
  intro v8 w8 hown hgrow _
  have R8 : Hid (w8.ownsRow w6.heap.size 57 9 v8 i ((C.drop 0).take i).flatten) := by show World.ownsRow _ _ _ _ _ _ _; simpa using hown
  obtain ⟨a8, c8, hv8⟩ := row_formA R8.out
  subst hv8
  have hb8 : Below w6.heap.size w6 w8 := (Below.refl w6.heap.size w6).grown hgrow (Nat.le_refl _) (by intro k hk; cases hk)
  have z8 := hb8.size
  have HZ8 : Hid (Blk (w.heap.size + 1 + 1) #[.slice none 0 0, .int .i64 0] w8) := HZ6.out.below hb8
  have HO8 : Hid (Blk w1.heap.size #[.slice (some ⟨g, 0, none⟩) L.length c5, .int .i64 nx] w8) := HO6.out.below hb8
  have h11 := HNW.out (i + 1) (L.length - (i + 1)) (by omega) w8 hb8
  have H11 : Hid (∀ j u, ((C.drop (i + 1)).take (L.length - (i + 1))).flatten[j]? = some u → w8.cell? ((⟨g, (i + 1) * 9, none⟩ : Addr).add j) = some u) := h11
  have HB8 : Hid (Below w6.heap.size w6 w8) := hb8
  have H8lo : Hid (∀ a, (Value.slice a8 i c8).ownBlock = some a → w6.heap.size ≤ a ∧ a < w8.heap.size) := row_lt R8.out
  clear hown hgrow h11 hb8 o0 o1 H10 HO6 HZ6
  have HFin : Hid (∀ (v9 : Value) (w9 : World), w9.ownsRow w6.heap.size 57 9 v9 (i + (L.length - (i + 1))) (((C.drop 0).take i).flatten ++ ((C.drop (i + 1)).take (L.length - (i + 1))).flatten) → w8.grownBy w9 (Value.slice a8 i c8).ownBlock → ItsP w9 W0.heap.size v9 (L.eraseIdx i) (P1.eraseIdx i) ∧ Below w6.heap.size w8 w9 ∧ NeB w1.heap.size v9 (P1.eraseIdx i)) := by
    intro v9 w9 h9 hg9
    have hb9 : Below w6.heap.size w8 w9 := (Below.refl w6.heap.size w8).grown hg9 z8 (fun k hk => (H8lo.out k hk).1)
    have hbb : Below w6.heap.size w6 w9 := HB8.out.trans hb9
    have hs : (C.drop (i + 1)).take (L.length - (i + 1)) = C.drop (i + 1) := List.take_of_length_le (by rw [List.length_drop, hCl]; exact Nat.le_refl _)
    rw [hs, List.drop_zero, ← List.flatten_append, ← List.eraseIdx_eq_take_drop_succ] at h9
    have hle : (C.eraseIdx i).length = i + (L.length - (i + 1)) := by rw [List.length_eraseIdx_of_lt (by rw [hCl]; exact hi), hCl]; omega
    have hRw : Rw 57 9 w9 W0.heap.size v9 ((irow L P1).eraseIdx i) := by
      rw [HC.out]
      refine ⟨?_, fun c hc => HC9.out c (List.mem_of_mem_eraseIdx hc)⟩
      rw [hle]
      exact row_le h9 (by omega)
    refine ⟨HI6.out.erase i hi (Nat.le_refl _) (OffL.ofV (v := .slice (some ⟨g, 0, none⟩) L.length c5) (.inr hbb) (by simp)) hRw, hb9, ⟨fun q hq => ?_, fun p hp => HN.out.p p (List.mem_of_mem_eraseIdx hp)⟩⟩
    have := (row_lt h9 q hq).1
    omega
  have j2 : (i : Int) + 1 ≤ (L.length : Int) := by omega
  have j3 : (L.length : Int) ≤ (c5 : Int) := by omega
  have j4 : (0 : Int) ≤ (i : Int) + 1 := by omega
  have hO8 := HO8.out.cell 0
  have o0 : w8.cell? ⟨w1.heap.size, 0, none⟩ = some (.slice (some ⟨g, 0, none⟩) L.length c5) := hO8
  clear hO8 HC HC9 HCo
  by_cases hcb : c5 = i + 1
  · have hLi : L.length = i + 1 := by omega
    have hz : L.length - (i + 1) = 0 := by omega
    go_wp2_with (at_builtin; refine wpList_append_own _ rfl _ _ 34 rfl w6.heap.size 57 i0 (.agg #[.int .i64 0, .int .i64 0, .string ⟨#[]⟩, .slice none 0 0, .string ⟨#[]⟩, .slice none 0 0, .int .i64 0, .int .i64 0, .bool false]) 9 120 Tryz.underlying34 hinf hx0 hx1 hx2 rfl (by decide) (.slice a8 i c8) i _ rfl R8.out ⟨g, 0, none⟩ 0 0 [] rfl rfl (fun j u hj => by simp at hj) (fun u hu => by cases hu) ?k4 ?k5 z8 ?_)
    case k4 => unfold maxLen; omega
    case k5 => omega
    intro v9 w9 hown9 hgrow9 _
    obtain ⟨r1, r2, r3⟩ := HFin.out v9 w9 (by rw [hz]; simpa using hown9) hgrow9
    have HI9 : Hid (ItsP w9 W0.heap.size v9 (L.eraseIdx i) (P1.eraseIdx i)) := r1
    have HN9 : Hid (NeB w1.heap.size v9 (P1.eraseIdx i)) := r3
    have b9 : Below w.heap.size w w9 := (b6.trans (HB8.out.mono b6.size)).trans (r2.mono (by have := b6.size; omega))
    have lo6 : w1.heap.size < w6.heap.size := by omega
    have HZ9 : Hid (Blk (w.heap.size + 1 + 1) #[.slice none 0 0, .int .i64 0] w9) := HZ8.out.belowN r2 (by omega)
    have HO9 : Hid (Blk w1.heap.size #[.slice (some ⟨g, 0, none⟩) L.length c5, .int .i64 nx] w9) := HO8.out.belowN r2 lo6
    obtain ⟨a9, c9, hv9⟩ := HI9.out.form
    subst hv9
    clear hown9 hgrow9 r1 r2 r3 o0 HFin R8 H11 HZ8 HO8 HI6 hinf hx0 hx1 hx2
    have fo9 := HO9.out.free 0
    have nn : w.heap.size + 1 + 1 ≠ w1.heap.size := by omega
    have o0 : w9.cell? ⟨w1.heap.size, 0, none⟩ = some (.slice (some ⟨g, 0, none⟩) L.length c5) := HO9.out.cell 0
    have o1 : w9.cell? ⟨w1.heap.size, 1, none⟩ = some (.int .i64 nx) := HO9.out.cell 1
    have r0 : w9.cell? ⟨w.heap.size + 1 + 1, 0, none⟩ = some (.slice none 0 0) := HZ9.out.cell 0
    have r1 : w9.cell? ⟨w.heap.size + 1 + 1, 1, none⟩ = some (.int .i64 0) := HZ9.out.cell 1
    have g0 := HZ9.out.free 0
    have g1 := HZ9.out.free 1
    go_wp2
    refine bodyPost_ret (v := .tuple #[.agg #[.slice a9 (L.eraseIdx i).length c9, .int .i64 nx], .bool true]) (by simp [results, Tryz.results6, go_sem, r0, r1]) rfl ?_
    refine ⟨⟨_, (P1.eraseIdx i), rfl, ?_⟩, ?_⟩
    · refine ItsP.le (lo := W0.heap.size) ?_ (by omega)
      refine ItsP.setB (ItsP.setB ?_ (by dsimp only; omega) _) (by dsimp only; omega) _
      exact HI9.out.setNe HN9.out _
    · refine Below.setCell (Below.setCell ?_ (by dsimp only; omega) _) (by dsimp only; omega) _
      exact b9.setCell (by dsimp only; omega) _
  · skip
    go_wp2_with (at_builtin; refine wpList_append_own _ rfl _ _ 34 rfl w6.heap.size 57 i0 (.agg #[.int .i64 0, .int .i64 0, .string ⟨#[]⟩, .slice none 0 0, .string ⟨#[]⟩, .slice none 0 0, .int .i64 0, .int .i64 0, .bool false]) 9 120 Tryz.underlying34 hinf hx0 hx1 hx2 rfl (by decide) (.slice a8 i c8) i _ rfl R8.out ⟨g, (i + 1) * 9, none⟩ (L.length - (i + 1)) (c5 - (i + 1)) ((C.drop (i + 1)).take (L.length - (i + 1))).flatten rfl (HLn.out (i + 1) (L.length - (i + 1)) (by omega)) H11.out (HSub.out (i + 1) (L.length - (i + 1))) ?k4 ?k5 z8 ?_)
    case k4 => unfold maxLen; omega
    case k5 => omega
    intro v9 w9 hown9 hgrow9 _
    obtain ⟨r1, r2, r3⟩ := HFin.out v9 w9 (by exact hown9) hgrow9
    have HI9 : Hid (ItsP w9 W0.heap.size v9 (L.eraseIdx i) (P1.eraseIdx i)) := r1
    have HN9 : Hid (NeB w1.heap.size v9 (P1.eraseIdx i)) := r3
    have b9 : Below w.heap.size w w9 := (b6.trans (HB8.out.mono b6.size)).trans (r2.mono (by have := b6.size; omega))
    have lo6 : w1.heap.size < w6.heap.size := by omega
    have HZ9 : Hid (Blk (w.heap.size + 1 + 1) #[.slice none 0 0, .int .i64 0] w9) := HZ8.out.belowN r2 (by omega)
    have HO9 : Hid (Blk w1.heap.size #[.slice (some ⟨g, 0, none⟩) L.length c5, .int .i64 nx] w9) := HO8.out.belowN r2 lo6
    obtain ⟨a9, c9, hv9⟩ := HI9.out.form
    subst hv9
    clear hown9 hgrow9 r1 r2 r3 o0 HFin R8 H11 HZ8 HO8 HI6 hinf hx0 hx1 hx2
    have fo9 := HO9.out.free 0
    have nn : w.heap.size + 1 + 1 ≠ w1.heap.size := by omega
    have o0 : w9.cell? ⟨w1.heap.size, 0, none⟩ = some (.slice (some ⟨g, 0, none⟩) L.length c5) := HO9.out.cell 0
    have o1 : w9.cell? ⟨w1.heap.size, 1, none⟩ = some (.int .i64 nx) := HO9.out.cell 1
    have r0 : w9.cell? ⟨w.heap.size + 1 + 1, 0, none⟩ = some (.slice none 0 0) := HZ9.out.cell 0
    have r1 : w9.cell? ⟨w.heap.size + 1 + 1, 1, none⟩ = some (.int .i64 0) := HZ9.out.cell 1
    have g0 := HZ9.out.free 0
    have g1 := HZ9.out.free 1
    go_wp2
    refine bodyPost_ret (v := .tuple #[.agg #[.slice a9 (L.eraseIdx i).length c9, .int .i64 nx], .bool true]) (by simp [results, Tryz.results6, go_sem, r0, r1]) rfl ?_
    refine ⟨⟨_, (P1.eraseIdx i), rfl, ?_⟩, ?_⟩
    · refine ItsP.le (lo := W0.heap.size) ?_ (by omega)
      refine ItsP.setB (ItsP.setB ?_ (by dsimp only; omega) _) (by dsimp only; omega) _
      exact HI9.out.setNe HN9.out _
    · refine Below.setCell (Below.setCell ?_ (by dsimp only; omega) _) (by dsimp only; omega) _
      exact b9.setCell (by dsimp only; omega) _
end Go.Proofs.YtlolnfpfipnfeaaGreat
