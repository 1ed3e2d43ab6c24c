import Derived.Test.YtlolnfpfipnfeaaGreatMg31
import Derived.Test.YtlolnfpfipnfeaaGreatMg33
namespace Go.Proofs.YtlolnfpfipnfeaaGreat
open Go.ChangeShapes Go.WideShapes Go.ChangeAt Go.RowKit
attribute [local go_sem ↓] Go.wp_at_zero Go.wp_at_succ

/-- no block of a queue's items is b -/
structure NeB (b : Nat) (v : Value) (P : List (Value × Value)) : Prop where
  v : ∀ g, v.ownBlock = some g → g ≠ b
  p : ∀ p ∈ P, (∀ g, p.1.ownBlock = some g → g ≠ b) ∧ ∀ g, p.2.ownBlock = some g → g ≠ b
theorem ItsP.setNe {w : World} {lo : Nat} {v : Value} {L : List It} {P : List (Value × Value)} (h : ItsP w lo v L P) {a : Addr} (hn : NeB a.block v P) (u : Value) : ItsP (w.setCell a u) lo v L P :=
  ⟨h.len, h.row.set_ne hn.v u, fun i hi => row_set_neR (h.str i hi) (hn.p _ (List.getElem_mem _)).1 u, fun i hi => row_set_neR (h.vds i hi) (hn.p _ (List.getElem_mem _)).2 u, h.d1, h.d2⟩
theorem NeB.of {w : World} {lo b : Nat} {v : Value} {L : List It} {P : List (Value × Value)} (h : ItsP w lo v L P) (hb : w.heap.size ≤ b) : NeB b v P :=
  ⟨fun g hg => by have := (h.row.own g hg).2; omega, fun p hp => by
    have := PB.of h p hp
    exact ⟨fun g hg => by have := this.1 g hg; omega, fun g hg => by have := this.2 g hg; omega⟩⟩

set_option maxHeartbeats 8000000 in
set_option maxRecDepth 100000 in
theorem saBad (kind : Int) (mid born : Int) (fr bo : ByteArray) (a3 : Option Addr) (n3 c3 : Nat) (id rc vk vc : Int) (vt : ByteArray) (tr due : Int) (nx : Int) (v : Value) (L : List It) (P : List (Value × Value)) (lo : Nat) (w : World) (h : ItsP w lo v L P) (hL : L.length ≤ 1048576) (hs : ∀ x ∈ L, SmallI x) (hpk : ∀ wx, Below w.heap.size w wx → Calls Tryz.prog 19 #[.agg #[.int .i64 kind, .int .i64 mid, .int .i64 born, .string fr, .slice a3 n3 c3, .string bo, .int .i64 id, .int .i64 rc, .int .i64 vk, .int .i64 vc, .string vt, .int .i64 tr, .int .i64 due]] wx fun e w' => (∃ s : ByteArray, e = .returned (.string s) ∧ s = ⟨#[]⟩) ∧ Below wx.heap.size wx w') :
    Calls Tryz.prog 6 #[.agg #[v, .int .i64 nx], .agg #[.int .i64 kind, .int .i64 mid, .int .i64 born, .string fr, .slice a3 n3 c3, .string bo, .int .i64 id, .int .i64 rc, .int .i64 vk, .int .i64 vc, .string vt, .int .i64 tr, .int .i64 due]] w fun e w' => (∃ u P', e = .returned (.tuple #[.agg #[u, .int .i64 nx], .bool false]) ∧ ItsP w' w.heap.size u L P') ∧ Below w.heap.size w w' := by
  obtain ⟨a1, c1, rfl⟩ := h.form
  have H : Hid (ItsP w lo (.slice a1 L.length c1) L P) := h
  have HS : Hid (∀ x ∈ L, SmallI x) := hs
  have HPK : Hid (∀ wx, Below w.heap.size w wx → Calls Tryz.prog 19 #[.agg #[.int .i64 kind, .int .i64 mid, .int .i64 born, .string fr, .slice a3 n3 c3, .string bo, .int .i64 id, .int .i64 rc, .int .i64 vk, .int .i64 vc, .string vt, .int .i64 tr, .int .i64 due]] wx fun e w' => (∃ s : ByteArray, e = .returned (.string s) ∧ s = ⟨#[]⟩) ∧ Below wx.heap.size wx w') := hpk
  clear h hs hpk
  go_enter Tryz.func6, Tryz.ntmps6
  go_wp2_with fail
  generalize hW : World.alloc _ _ = W0
  have HQ0 : Hid (Blk w.heap.size #[.slice a1 L.length c1, .int .i64 nx] W0) := by show Blk _ _ _; rw [← hW]; exact (blk3I w _ _ _ _ _ _).1
  have HR0 : Hid (Blk (w.heap.size + 1) #[.int .i64 kind, .int .i64 mid, .int .i64 born, .string fr, .slice a3 n3 c3, .string bo, .int .i64 id, .int .i64 rc, .int .i64 vk, .int .i64 vc, .string vt, .int .i64 tr, .int .i64 due] W0) := by show Blk _ _ _; rw [← hW]; exact (blk3I w _ _ _ _ _ _).2.1
  have HZ0 : Hid (Blk (w.heap.size + 1 + 1) #[.slice none 0 0, .int .i64 0] W0) := by show Blk _ _ _; rw [← hW]; exact (blk3I w _ _ _ _ _ _).2.2
  have b0 : Below w.heap.size w W0 := by rw [← hW]; exact below3 _ _ _ _
  have z0 : W0.heap.size = w.heap.size + 3 := by rw [← hW]; simp
  clear hW
  refine (specQueue _ nx L P lo _ (H.out.below b0 (Nat.le_refl _)) hL HS.out).mono ?_
  rintro e w1 ⟨⟨u, P1, rfl, S1⟩, hb1⟩
  obtain ⟨a5, c5, hf⟩ := S1.form
  subst hf
  have z1 := hb1.size
  have b1 : Below w.heap.size w w1 := b0.trans (hb1.mono b0.size)
  have HI1 : Hid (ItsP w1 W0.heap.size (.slice a5 L.length c5) L P1) := S1
  have HQ1 : Hid _ := HQ0.out.below hb1
  have HR1 : Hid _ := HR0.out.below hb1
  have HZ1 : Hid _ := HZ0.out.below hb1
  clear hb1 S1 HQ0 HR0 HZ0 b0
  have x0 : w1.cell? ⟨w.heap.size + 1, 0, none⟩ = some (.int .i64 kind) := HR1.out.cell 0
  have x1 : w1.cell? ⟨w.heap.size + 1, 1, none⟩ = some (.int .i64 mid) := HR1.out.cell 1
  have x2 : w1.cell? ⟨w.heap.size + 1, 2, none⟩ = some (.int .i64 born) := HR1.out.cell 2
  have x3 : w1.cell? ⟨w.heap.size + 1, 3, none⟩ = some (.string fr) := HR1.out.cell 3
  have x4 : w1.cell? ⟨w.heap.size + 1, 4, none⟩ = some (.slice a3 n3 c3) := HR1.out.cell 4
  have x5 : w1.cell? ⟨w.heap.size + 1, 5, none⟩ = some (.string bo) := HR1.out.cell 5
  have x6 : w1.cell? ⟨w.heap.size + 1, 6, none⟩ = some (.int .i64 id) := HR1.out.cell 6
  have x7 : w1.cell? ⟨w.heap.size + 1, 7, none⟩ = some (.int .i64 rc) := HR1.out.cell 7
  have x8 : w1.cell? ⟨w.heap.size + 1, 8, none⟩ = some (.int .i64 vk) := HR1.out.cell 8
  have x9 : w1.cell? ⟨w.heap.size + 1, 9, none⟩ = some (.int .i64 vc) := HR1.out.cell 9
  have x10 : w1.cell? ⟨w.heap.size + 1, 10, none⟩ = some (.string vt) := HR1.out.cell 10
  have x11 : w1.cell? ⟨w.heap.size + 1, 11, none⟩ = some (.int .i64 tr) := HR1.out.cell 11
  have x12 : w1.cell? ⟨w.heap.size + 1, 12, none⟩ = some (.int .i64 due) := HR1.out.cell 12
  have lR1 : w.heap.size + 1 < w1.heap.size := HR1.out.lt
  go_wp2_with fail
  generalize hW : World.alloc _ _ = W2
  have HO2 : Hid (Blk w1.heap.size #[.slice a5 L.length c5, .int .i64 nx] W2) := by show Blk _ _ _; rw [← hW]; exact Blk.new w1 _ _
  have hb2 : Below w1.heap.size w1 W2 := by rw [← hW]; exact below1 _ _
  have z2 : W2.heap.size = w1.heap.size + 1 := by rw [← hW]; simp
  clear hW x0 x1 x2 x3 x4 x5 x6 x7 x8 x9 x10 x11 x12
  have b2 : Below w.heap.size w W2 := b1.trans (hb2.mono b1.size)
  refine (HPK.out _ b2).mono ?_
  rintro e w3 ⟨⟨s, rfl, hs⟩, hb3⟩
  have HSZ : Hid (s = ⟨#[]⟩) := hs
  have z3 := hb3.size
  have b3 : Below w.heap.size w w3 := b2.trans (hb3.mono b2.size)
  have HQ : Hid (Blk w.heap.size #[.slice a1 L.length c1, .int .i64 nx] w3) := (HQ1.out.below hb2).below hb3
  have HR : Hid (Blk (w.heap.size + 1) #[.int .i64 kind, .int .i64 mid, .int .i64 born, .string fr, .slice a3 n3 c3, .string bo, .int .i64 id, .int .i64 rc, .int .i64 vk, .int .i64 vc, .string vt, .int .i64 tr, .int .i64 due] w3) := (HR1.out.below hb2).below hb3
  have HZ : Hid (Blk (w.heap.size + 1 + 1) #[.slice none 0 0, .int .i64 0] w3) := (HZ1.out.below hb2).below hb3
  have HO : Hid (Blk w1.heap.size #[.slice a5 L.length c5, .int .i64 nx] w3) := HO2.out.below hb3
  have HI : Hid (ItsP w3 W0.heap.size (.slice a5 L.length c5) L P1) := (HI1.out.below hb2 (Nat.le_refl _)).below hb3 (Nat.le_refl _)
  have HN : Hid (NeB w1.heap.size (.slice a5 L.length c5) P1) := NeB.of HI1.out (Nat.le_refl _)
  have H3 : Hid (ItsP w3 lo (.slice a1 L.length c1) L P) := H.out.below b3 (Nat.le_refl _)
  clear hs hb2 hb3 b1 b2 HQ1 HR1 HZ1 HO2 HI1 H HPK
  have hse := HSZ.out
  subst hse
  have r0 : w3.cell? ⟨w.heap.size + 1 + 1, 0, none⟩ = some (.slice none 0 0) := HZ.out.cell 0
  have r1 : w3.cell? ⟨w.heap.size + 1 + 1, 1, none⟩ = some (.int .i64 0) := HZ.out.cell 1
  have g0 := HZ.out.free 0
  have g1 := HZ.out.free 1
  have o0 : w3.cell? ⟨w1.heap.size, 0, none⟩ = some (.slice a5 L.length c5) := HO.out.cell 0
  have o1 : w3.cell? ⟨w1.heap.size, 1, none⟩ = some (.int .i64 nx) := HO.out.cell 1
  go_wp2
  refine bodyPost_ret (v := .tuple #[.agg #[.slice a5 L.length c5, .int .i64 nx], .bool false]) (by simp [results, Tryz.results6, go_sem, r0, r1]) rfl ?_
  refine ⟨⟨_, P1, rfl, ?_⟩, ?_⟩
  · refine ItsP.le (lo := W0.heap.size) ?_ (by omega)
    refine ItsP.setB (ItsP.setB ?_ (by dsimp only; omega) _) (by dsimp only; omega) _
    exact HI.out
  · refine Below.setCell (Below.setCell ?_ (by dsimp only; omega) _) (by dsimp only; omega) _
    exact b3

set_option maxHeartbeats 8000000 in
set_option maxRecDepth 100000 in
theorem sa6no (mid born : Int) (fr bo : ByteArray) (a3 : Option Addr) (n3 c3 : Nat) (id rc vk vc : Int) (vt : ByteArray) (tr due : Int) (nx : Int) (v : Value) (L : List It) (P : List (Value × Value)) (lo : Nat) (w : World) (h : ItsP w lo v L P) (hL : L.length ≤ 1048576) (hs : ∀ x ∈ L, SmallI x) (hpk : ∀ wx, Below w.heap.size w wx → Calls Tryz.prog 19 #[.agg #[.int .i64 6, .int .i64 mid, .int .i64 born, .string fr, .slice a3 n3 c3, .string bo, .int .i64 id, .int .i64 rc, .int .i64 vk, .int .i64 vc, .string vt, .int .i64 tr, .int .i64 due]] wx fun e w' => (∃ s : ByteArray, e = .returned (.string s) ∧ 1 ≤ s.size) ∧ Below wx.heap.size wx w') (c : id < nx) :
    Calls Tryz.prog 6 #[.agg #[v, .int .i64 nx], .agg #[.int .i64 6, .int .i64 mid, .int .i64 born, .string fr, .slice a3 n3 c3, .string bo, .int .i64 id, .int .i64 rc, .int .i64 vk, .int .i64 vc, .string vt, .int .i64 tr, .int .i64 due]] w fun e w' => (∃ u P', e = .returned (.tuple #[.agg #[u, .int .i64 nx], .bool false]) ∧ ItsP w' w.heap.size u L P') ∧ Below w.heap.size w w' := by
  obtain ⟨a1, c1, rfl⟩ := h.form
  have H : Hid (ItsP w lo (.slice a1 L.length c1) L P) := h
  have HS : Hid (∀ x ∈ L, SmallI x) := hs
  have HPK : Hid (∀ wx, Below w.heap.size w wx → Calls Tryz.prog 19 #[.agg #[.int .i64 6, .int .i64 mid, .int .i64 born, .string fr, .slice a3 n3 c3, .string bo, .int .i64 id, .int .i64 rc, .int .i64 vk, .int .i64 vc, .string vt, .int .i64 tr, .int .i64 due]] wx fun e w' => (∃ s : ByteArray, e = .returned (.string s) ∧ 1 ≤ s.size) ∧ Below wx.heap.size wx w') := hpk
  clear h hs hpk
  go_enter Tryz.func6, Tryz.ntmps6
  go_wp2_with fail
  generalize hW : World.alloc _ _ = W0
  have HQ0 : Hid (Blk w.heap.size #[.slice a1 L.length c1, .int .i64 nx] W0) := by show Blk _ _ _; rw [← hW]; exact (blk3I w _ _ _ _ _ _).1
  have HR0 : Hid (Blk (w.heap.size + 1) #[.int .i64 6, .int .i64 mid, .int .i64 born, .string fr, .slice a3 n3 c3, .string bo, .int .i64 id, .int .i64 rc, .int .i64 vk, .int .i64 vc, .string vt, .int .i64 tr, .int .i64 due] W0) := by show Blk _ _ _; rw [← hW]; exact (blk3I w _ _ _ _ _ _).2.1
  have HZ0 : Hid (Blk (w.heap.size + 1 + 1) #[.slice none 0 0, .int .i64 0] W0) := by show Blk _ _ _; rw [← hW]; exact (blk3I w _ _ _ _ _ _).2.2
  have b0 : Below w.heap.size w W0 := by rw [← hW]; exact below3 _ _ _ _
  have z0 : W0.heap.size = w.heap.size + 3 := by rw [← hW]; simp
  clear hW
  refine (specQueue _ nx L P lo _ (H.out.below b0 (Nat.le_refl _)) hL HS.out).mono ?_
  rintro e w1 ⟨⟨u, P1, rfl, S1⟩, hb1⟩
  obtain ⟨a5, c5, hf⟩ := S1.form
  subst hf
  have z1 := hb1.size
  have b1 : Below w.heap.size w w1 := b0.trans (hb1.mono b0.size)
  have HI1 : Hid (ItsP w1 W0.heap.size (.slice a5 L.length c5) L P1) := S1
  have HQ1 : Hid _ := HQ0.out.below hb1
  have HR1 : Hid _ := HR0.out.below hb1
  have HZ1 : Hid _ := HZ0.out.below hb1
  clear hb1 S1 HQ0 HR0 HZ0 b0
  have x0 : w1.cell? ⟨w.heap.size + 1, 0, none⟩ = some (.int .i64 6) := HR1.out.cell 0
  have x1 : w1.cell? ⟨w.heap.size + 1, 1, none⟩ = some (.int .i64 mid) := HR1.out.cell 1
  have x2 : w1.cell? ⟨w.heap.size + 1, 2, none⟩ = some (.int .i64 born) := HR1.out.cell 2
  have x3 : w1.cell? ⟨w.heap.size + 1, 3, none⟩ = some (.string fr) := HR1.out.cell 3
  have x4 : w1.cell? ⟨w.heap.size + 1, 4, none⟩ = some (.slice a3 n3 c3) := HR1.out.cell 4
  have x5 : w1.cell? ⟨w.heap.size + 1, 5, none⟩ = some (.string bo) := HR1.out.cell 5
  have x6 : w1.cell? ⟨w.heap.size + 1, 6, none⟩ = some (.int .i64 id) := HR1.out.cell 6
  have x7 : w1.cell? ⟨w.heap.size + 1, 7, none⟩ = some (.int .i64 rc) := HR1.out.cell 7
  have x8 : w1.cell? ⟨w.heap.size + 1, 8, none⟩ = some (.int .i64 vk) := HR1.out.cell 8
  have x9 : w1.cell? ⟨w.heap.size + 1, 9, none⟩ = some (.int .i64 vc) := HR1.out.cell 9
  have x10 : w1.cell? ⟨w.heap.size + 1, 10, none⟩ = some (.string vt) := HR1.out.cell 10
  have x11 : w1.cell? ⟨w.heap.size + 1, 11, none⟩ = some (.int .i64 tr) := HR1.out.cell 11
  have x12 : w1.cell? ⟨w.heap.size + 1, 12, none⟩ = some (.int .i64 due) := HR1.out.cell 12
  have lR1 : w.heap.size + 1 < w1.heap.size := HR1.out.lt
  go_wp2_with fail
  generalize hW : World.alloc _ _ = W2
  have HO2 : Hid (Blk w1.heap.size #[.slice a5 L.length c5, .int .i64 nx] W2) := by show Blk _ _ _; rw [← hW]; exact Blk.new w1 _ _
  have hb2 : Below w1.heap.size w1 W2 := by rw [← hW]; exact below1 _ _
  have z2 : W2.heap.size = w1.heap.size + 1 := by rw [← hW]; simp
  clear hW x0 x1 x2 x3 x4 x5 x6 x7 x8 x9 x10 x11 x12
  have b2 : Below w.heap.size w W2 := b1.trans (hb2.mono b1.size)
  refine (HPK.out _ b2).mono ?_
  rintro e w3 ⟨⟨s, rfl, hs⟩, hb3⟩
  have HSZ : Hid (1 ≤ s.size) := hs
  have z3 := hb3.size
  have b3 : Below w.heap.size w w3 := b2.trans (hb3.mono b2.size)
  have HQ : Hid (Blk w.heap.size #[.slice a1 L.length c1, .int .i64 nx] w3) := (HQ1.out.below hb2).below hb3
  have HR : Hid (Blk (w.heap.size + 1) #[.int .i64 6, .int .i64 mid, .int .i64 born, .string fr, .slice a3 n3 c3, .string bo, .int .i64 id, .int .i64 rc, .int .i64 vk, .int .i64 vc, .string vt, .int .i64 tr, .int .i64 due] w3) := (HR1.out.below hb2).below hb3
  have HZ : Hid (Blk (w.heap.size + 1 + 1) #[.slice none 0 0, .int .i64 0] w3) := (HZ1.out.below hb2).below hb3
  have HO : Hid (Blk w1.heap.size #[.slice a5 L.length c5, .int .i64 nx] w3) := HO2.out.below hb3
  have HI : Hid (ItsP w3 W0.heap.size (.slice a5 L.length c5) L P1) := (HI1.out.below hb2 (Nat.le_refl _)).below hb3 (Nat.le_refl _)
  have HN : Hid (NeB w1.heap.size (.slice a5 L.length c5) P1) := NeB.of HI1.out (Nat.le_refl _)
  have H3 : Hid (ItsP w3 lo (.slice a1 L.length c1) L P) := H.out.below b3 (Nat.le_refl _)
  clear hs hb2 hb3 b1 b2 HQ1 HR1 HZ1 HO2 HI1 H HPK
  have hln := list_ne (x := s) (by have := HSZ.out; omega)
  have hl2 := list_ne2 (x := s) (by have := HSZ.out; omega)
  have x0 : w3.cell? ⟨w.heap.size + 1, 0, none⟩ = some (.int .i64 6) := HR.out.cell 0
  have x6 : w3.cell? ⟨w.heap.size + 1, 6, none⟩ = some (.int .i64 id) := HR.out.cell 6
  have q1 : w3.cell? ⟨w.heap.size, 1, none⟩ = some (.int .i64 nx) := HQ.out.cell 1
  have r0 : w3.cell? ⟨w.heap.size + 1 + 1, 0, none⟩ = some (.slice none 0 0) := HZ.out.cell 0
  have r1 : w3.cell? ⟨w.heap.size + 1 + 1, 1, none⟩ = some (.int .i64 0) := HZ.out.cell 1
  have g0 := HZ.out.free 0
  have g1 := HZ.out.free 1
  have o0 : w3.cell? ⟨w1.heap.size, 0, none⟩ = some (.slice a5 L.length c5) := HO.out.cell 0
  have o1 : w3.cell? ⟨w1.heap.size, 1, none⟩ = some (.int .i64 nx) := HO.out.cell 1
  go_wp2
  refine bodyPost_ret (v := .tuple #[.agg #[.slice a5 L.length c5, .int .i64 nx], .bool false]) (by simp [results, Tryz.results6, go_sem, r0, r1]) rfl ?_
  refine ⟨⟨_, P1, rfl, ?_⟩, ?_⟩
  · refine ItsP.le (lo := W0.heap.size) ?_ (by omega)
    refine ItsP.setB (ItsP.setB ?_ (by dsimp only; omega) _) (by dsimp only; omega) _
    exact HI.out
  · refine Below.setCell (Below.setCell ?_ (by dsimp only; omega) _) (by dsimp only; omega) _
    exact b3

set_option maxHeartbeats 8000000 in
set_option maxRecDepth 100000 in
theorem sa6yes (mid born : Int) (fr bo : ByteArray) (a3 : Option Addr) (n3 c3 : Nat) (id rc vk vc : Int) (vt : ByteArray) (tr due : Int) (nx : Int) (v : Value) (L : List It) (P : List (Value × Value)) (lo : Nat) (w : World) (h : ItsP w lo v L P) (hL : L.length ≤ 1048576) (hs : ∀ x ∈ L, SmallI x) (hpk : ∀ wx, Below w.heap.size w wx → Calls Tryz.prog 19 #[.agg #[.int .i64 6, .int .i64 mid, .int .i64 born, .string fr, .slice a3 n3 c3, .string bo, .int .i64 id, .int .i64 rc, .int .i64 vk, .int .i64 vc, .string vt, .int .i64 tr, .int .i64 due]] wx fun e w' => (∃ s : ByteArray, e = .returned (.string s) ∧ 1 ≤ s.size) ∧ Below wx.heap.size wx w') (c : ¬ id < nx) :
    Calls Tryz.prog 6 #[.agg #[v, .int .i64 nx], .agg #[.int .i64 6, .int .i64 mid, .int .i64 born, .string fr, .slice a3 n3 c3, .string bo, .int .i64 id, .int .i64 rc, .int .i64 vk, .int .i64 vc, .string vt, .int .i64 tr, .int .i64 due]] w fun e w' => (∃ u P', e = .returned (.tuple #[.agg #[u, .int .i64 id], .bool true]) ∧ ItsP w' w.heap.size u L P') ∧ Below w.heap.size w w' := by
  obtain ⟨a1, c1, rfl⟩ := h.form
  have H : Hid (ItsP w lo (.slice a1 L.length c1) L P) := h
  have HS : Hid (∀ x ∈ L, SmallI x) := hs
  have HPK : Hid (∀ wx, Below w.heap.size w wx → Calls Tryz.prog 19 #[.agg #[.int .i64 6, .int .i64 mid, .int .i64 born, .string fr, .slice a3 n3 c3, .string bo, .int .i64 id, .int .i64 rc, .int .i64 vk, .int .i64 vc, .string vt, .int .i64 tr, .int .i64 due]] wx fun e w' => (∃ s : ByteArray, e = .returned (.string s) ∧ 1 ≤ s.size) ∧ Below wx.heap.size wx w') := hpk
  clear h hs hpk
  go_enter Tryz.func6, Tryz.ntmps6
  go_wp2_with fail
  generalize hW : World.alloc _ _ = W0
  have HQ0 : Hid (Blk w.heap.size #[.slice a1 L.length c1, .int .i64 nx] W0) := by show Blk _ _ _; rw [← hW]; exact (blk3I w _ _ _ _ _ _).1
  have HR0 : Hid (Blk (w.heap.size + 1) #[.int .i64 6, .int .i64 mid, .int .i64 born, .string fr, .slice a3 n3 c3, .string bo, .int .i64 id, .int .i64 rc, .int .i64 vk, .int .i64 vc, .string vt, .int .i64 tr, .int .i64 due] W0) := by show Blk _ _ _; rw [← hW]; exact (blk3I w _ _ _ _ _ _).2.1
  have HZ0 : Hid (Blk (w.heap.size + 1 + 1) #[.slice none 0 0, .int .i64 0] W0) := by show Blk _ _ _; rw [← hW]; exact (blk3I w _ _ _ _ _ _).2.2
  have b0 : Below w.heap.size w W0 := by rw [← hW]; exact below3 _ _ _ _
  have z0 : W0.heap.size = w.heap.size + 3 := by rw [← hW]; simp
  clear hW
  refine (specQueue _ nx L P lo _ (H.out.below b0 (Nat.le_refl _)) hL HS.out).mono ?_
  rintro e w1 ⟨⟨u, P1, rfl, S1⟩, hb1⟩
  obtain ⟨a5, c5, hf⟩ := S1.form
  subst hf
  have z1 := hb1.size
  have b1 : Below w.heap.size w w1 := b0.trans (hb1.mono b0.size)
  have HI1 : Hid (ItsP w1 W0.heap.size (.slice a5 L.length c5) L P1) := S1
  have HQ1 : Hid _ := HQ0.out.below hb1
  have HR1 : Hid _ := HR0.out.below hb1
  have HZ1 : Hid _ := HZ0.out.below hb1
  clear hb1 S1 HQ0 HR0 HZ0 b0
  have x0 : w1.cell? ⟨w.heap.size + 1, 0, none⟩ = some (.int .i64 6) := HR1.out.cell 0
  have x1 : w1.cell? ⟨w.heap.size + 1, 1, none⟩ = some (.int .i64 mid) := HR1.out.cell 1
  have x2 : w1.cell? ⟨w.heap.size + 1, 2, none⟩ = some (.int .i64 born) := HR1.out.cell 2
  have x3 : w1.cell? ⟨w.heap.size + 1, 3, none⟩ = some (.string fr) := HR1.out.cell 3
  have x4 : w1.cell? ⟨w.heap.size + 1, 4, none⟩ = some (.slice a3 n3 c3) := HR1.out.cell 4
  have x5 : w1.cell? ⟨w.heap.size + 1, 5, none⟩ = some (.string bo) := HR1.out.cell 5
  have x6 : w1.cell? ⟨w.heap.size + 1, 6, none⟩ = some (.int .i64 id) := HR1.out.cell 6
  have x7 : w1.cell? ⟨w.heap.size + 1, 7, none⟩ = some (.int .i64 rc) := HR1.out.cell 7
  have x8 : w1.cell? ⟨w.heap.size + 1, 8, none⟩ = some (.int .i64 vk) := HR1.out.cell 8
  have x9 : w1.cell? ⟨w.heap.size + 1, 9, none⟩ = some (.int .i64 vc) := HR1.out.cell 9
  have x10 : w1.cell? ⟨w.heap.size + 1, 10, none⟩ = some (.string vt) := HR1.out.cell 10
  have x11 : w1.cell? ⟨w.heap.size + 1, 11, none⟩ = some (.int .i64 tr) := HR1.out.cell 11
  have x12 : w1.cell? ⟨w.heap.size + 1, 12, none⟩ = some (.int .i64 due) := HR1.out.cell 12
  have lR1 : w.heap.size + 1 < w1.heap.size := HR1.out.lt
  go_wp2_with fail
  generalize hW : World.alloc _ _ = W2
  have HO2 : Hid (Blk w1.heap.size #[.slice a5 L.length c5, .int .i64 nx] W2) := by show Blk _ _ _; rw [← hW]; exact Blk.new w1 _ _
  have hb2 : Below w1.heap.size w1 W2 := by rw [← hW]; exact below1 _ _
  have z2 : W2.heap.size = w1.heap.size + 1 := by rw [← hW]; simp
  clear hW x0 x1 x2 x3 x4 x5 x6 x7 x8 x9 x10 x11 x12
  have b2 : Below w.heap.size w W2 := b1.trans (hb2.mono b1.size)
  refine (HPK.out _ b2).mono ?_
  rintro e w3 ⟨⟨s, rfl, hs⟩, hb3⟩
  have HSZ : Hid (1 ≤ s.size) := hs
  have z3 := hb3.size
  have b3 : Below w.heap.size w w3 := b2.trans (hb3.mono b2.size)
  have HQ : Hid (Blk w.heap.size #[.slice a1 L.length c1, .int .i64 nx] w3) := (HQ1.out.below hb2).below hb3
  have HR : Hid (Blk (w.heap.size + 1) #[.int .i64 6, .int .i64 mid, .int .i64 born, .string fr, .slice a3 n3 c3, .string bo, .int .i64 id, .int .i64 rc, .int .i64 vk, .int .i64 vc, .string vt, .int .i64 tr, .int .i64 due] w3) := (HR1.out.below hb2).below hb3
  have HZ : Hid (Blk (w.heap.size + 1 + 1) #[.slice none 0 0, .int .i64 0] w3) := (HZ1.out.below hb2).below hb3
  have HO : Hid (Blk w1.heap.size #[.slice a5 L.length c5, .int .i64 nx] w3) := HO2.out.below hb3
  have HI : Hid (ItsP w3 W0.heap.size (.slice a5 L.length c5) L P1) := (HI1.out.below hb2 (Nat.le_refl _)).below hb3 (Nat.le_refl _)
  have HN : Hid (NeB w1.heap.size (.slice a5 L.length c5) P1) := NeB.of HI1.out (Nat.le_refl _)
  have H3 : Hid (ItsP w3 lo (.slice a1 L.length c1) L P) := H.out.below b3 (Nat.le_refl _)
  clear hs hb2 hb3 b1 b2 HQ1 HR1 HZ1 HO2 HI1 H HPK
  have hln := list_ne (x := s) (by have := HSZ.out; omega)
  have hl2 := list_ne2 (x := s) (by have := HSZ.out; omega)
  have x0 : w3.cell? ⟨w.heap.size + 1, 0, none⟩ = some (.int .i64 6) := HR.out.cell 0
  have x6 : w3.cell? ⟨w.heap.size + 1, 6, none⟩ = some (.int .i64 id) := HR.out.cell 6
  have q1 : w3.cell? ⟨w.heap.size, 1, none⟩ = some (.int .i64 nx) := HQ.out.cell 1
  have r0 : w3.cell? ⟨w.heap.size + 1 + 1, 0, none⟩ = some (.slice none 0 0) := HZ.out.cell 0
  have r1 : w3.cell? ⟨w.heap.size + 1 + 1, 1, none⟩ = some (.int .i64 0) := HZ.out.cell 1
  have g0 := HZ.out.free 0
  have g1 := HZ.out.free 1
  have o0 : w3.cell? ⟨w1.heap.size, 0, none⟩ = some (.slice a5 L.length c5) := HO.out.cell 0
  have o1 : w3.cell? ⟨w1.heap.size, 1, none⟩ = some (.int .i64 nx) := HO.out.cell 1
  have fo := HO.out.free 1
  have ne1 : w.heap.size + 1 + 1 ≠ w1.heap.size := by omega
  go_wp2
  refine bodyPost_ret (v := .tuple #[.agg #[.slice a5 L.length c5, .int .i64 id], .bool true]) (by simp [results, Tryz.results6, go_sem, r0, r1]) rfl ?_
  refine ⟨⟨_, P1, rfl, ?_⟩, ?_⟩
  · refine ItsP.le (lo := W0.heap.size) ?_ (by omega)
    refine ItsP.setB (ItsP.setB ?_ (by dsimp only; omega) _) (by dsimp only; omega) _
    exact HI.out.setNe HN.out _
  · refine Below.setCell (Below.setCell ?_ (by dsimp only; omega) _) (by dsimp only; omega) _
    exact b3.setCell (by dsimp only; omega) _

set_option maxHeartbeats 8000000 in
set_option maxRecDepth 100000 in
theorem sa1old (mid born : Int) (fr bo : ByteArray) (a3 : Option Addr) (n3 c3 : Nat) (id rc vk vc : Int) (vt : ByteArray) (tr due : Int) (nx : Int) (v : Value) (L : List It) (P : List (Value × Value)) (lo : Nat) (w : World) (h : ItsP w lo v L P) (hL : L.length ≤ 1048576) (hs : ∀ x ∈ L, SmallI x) (hpk : ∀ wx, Below w.heap.size w wx → Calls Tryz.prog 19 #[.agg #[.int .i64 1, .int .i64 mid, .int .i64 born, .string fr, .slice a3 n3 c3, .string bo, .int .i64 id, .int .i64 rc, .int .i64 vk, .int .i64 vc, .string vt, .int .i64 tr, .int .i64 due]] wx fun e w' => (∃ s : ByteArray, e = .returned (.string s) ∧ 1 ≤ s.size) ∧ Below wx.heap.size wx w') (c : mid < nx) :
    Calls Tryz.prog 6 #[.agg #[v, .int .i64 nx], .agg #[.int .i64 1, .int .i64 mid, .int .i64 born, .string fr, .slice a3 n3 c3, .string bo, .int .i64 id, .int .i64 rc, .int .i64 vk, .int .i64 vc, .string vt, .int .i64 tr, .int .i64 due]] w fun e w' => (∃ u P', e = .returned (.tuple #[.agg #[u, .int .i64 nx], .bool false]) ∧ ItsP w' w.heap.size u L P') ∧ Below w.heap.size w w' := by
  obtain ⟨a1, c1, rfl⟩ := h.form
  have H : Hid (ItsP w lo (.slice a1 L.length c1) L P) := h
  have HS : Hid (∀ x ∈ L, SmallI x) := hs
  have HPK : Hid (∀ wx, Below w.heap.size w wx → Calls Tryz.prog 19 #[.agg #[.int .i64 1, .int .i64 mid, .int .i64 born, .string fr, .slice a3 n3 c3, .string bo, .int .i64 id, .int .i64 rc, .int .i64 vk, .int .i64 vc, .string vt, .int .i64 tr, .int .i64 due]] wx fun e w' => (∃ s : ByteArray, e = .returned (.string s) ∧ 1 ≤ s.size) ∧ Below wx.heap.size wx w') := hpk
  clear h hs hpk
  go_enter Tryz.func6, Tryz.ntmps6
  go_wp2_with fail
  generalize hW : World.alloc _ _ = W0
  have HQ0 : Hid (Blk w.heap.size #[.slice a1 L.length c1, .int .i64 nx] W0) := by show Blk _ _ _; rw [← hW]; exact (blk3I w _ _ _ _ _ _).1
  have HR0 : Hid (Blk (w.heap.size + 1) #[.int .i64 1, .int .i64 mid, .int .i64 born, .string fr, .slice a3 n3 c3, .string bo, .int .i64 id, .int .i64 rc, .int .i64 vk, .int .i64 vc, .string vt, .int .i64 tr, .int .i64 due] W0) := by show Blk _ _ _; rw [← hW]; exact (blk3I w _ _ _ _ _ _).2.1
  have HZ0 : Hid (Blk (w.heap.size + 1 + 1) #[.slice none 0 0, .int .i64 0] W0) := by show Blk _ _ _; rw [← hW]; exact (blk3I w _ _ _ _ _ _).2.2
  have b0 : Below w.heap.size w W0 := by rw [← hW]; exact below3 _ _ _ _
  have z0 : W0.heap.size = w.heap.size + 3 := by rw [← hW]; simp
  clear hW
  refine (specQueue _ nx L P lo _ (H.out.below b0 (Nat.le_refl _)) hL HS.out).mono ?_
  rintro e w1 ⟨⟨u, P1, rfl, S1⟩, hb1⟩
  obtain ⟨a5, c5, hf⟩ := S1.form
  subst hf
  have z1 := hb1.size
  have b1 : Below w.heap.size w w1 := b0.trans (hb1.mono b0.size)
  have HI1 : Hid (ItsP w1 W0.heap.size (.slice a5 L.length c5) L P1) := S1
  have HQ1 : Hid _ := HQ0.out.below hb1
  have HR1 : Hid _ := HR0.out.below hb1
  have HZ1 : Hid _ := HZ0.out.below hb1
  clear hb1 S1 HQ0 HR0 HZ0 b0
  have x0 : w1.cell? ⟨w.heap.size + 1, 0, none⟩ = some (.int .i64 1) := HR1.out.cell 0
  have x1 : w1.cell? ⟨w.heap.size + 1, 1, none⟩ = some (.int .i64 mid) := HR1.out.cell 1
  have x2 : w1.cell? ⟨w.heap.size + 1, 2, none⟩ = some (.int .i64 born) := HR1.out.cell 2
  have x3 : w1.cell? ⟨w.heap.size + 1, 3, none⟩ = some (.string fr) := HR1.out.cell 3
  have x4 : w1.cell? ⟨w.heap.size + 1, 4, none⟩ = some (.slice a3 n3 c3) := HR1.out.cell 4
  have x5 : w1.cell? ⟨w.heap.size + 1, 5, none⟩ = some (.string bo) := HR1.out.cell 5
  have x6 : w1.cell? ⟨w.heap.size + 1, 6, none⟩ = some (.int .i64 id) := HR1.out.cell 6
  have x7 : w1.cell? ⟨w.heap.size + 1, 7, none⟩ = some (.int .i64 rc) := HR1.out.cell 7
  have x8 : w1.cell? ⟨w.heap.size + 1, 8, none⟩ = some (.int .i64 vk) := HR1.out.cell 8
  have x9 : w1.cell? ⟨w.heap.size + 1, 9, none⟩ = some (.int .i64 vc) := HR1.out.cell 9
  have x10 : w1.cell? ⟨w.heap.size + 1, 10, none⟩ = some (.string vt) := HR1.out.cell 10
  have x11 : w1.cell? ⟨w.heap.size + 1, 11, none⟩ = some (.int .i64 tr) := HR1.out.cell 11
  have x12 : w1.cell? ⟨w.heap.size + 1, 12, none⟩ = some (.int .i64 due) := HR1.out.cell 12
  have lR1 : w.heap.size + 1 < w1.heap.size := HR1.out.lt
  go_wp2_with fail
  generalize hW : World.alloc _ _ = W2
  have HO2 : Hid (Blk w1.heap.size #[.slice a5 L.length c5, .int .i64 nx] W2) := by show Blk _ _ _; rw [← hW]; exact Blk.new w1 _ _
  have hb2 : Below w1.heap.size w1 W2 := by rw [← hW]; exact below1 _ _
  have z2 : W2.heap.size = w1.heap.size + 1 := by rw [← hW]; simp
  clear hW x0 x1 x2 x3 x4 x5 x6 x7 x8 x9 x10 x11 x12
  have b2 : Below w.heap.size w W2 := b1.trans (hb2.mono b1.size)
  refine (HPK.out _ b2).mono ?_
  rintro e w3 ⟨⟨s, rfl, hs⟩, hb3⟩
  have HSZ : Hid (1 ≤ s.size) := hs
  have z3 := hb3.size
  have b3 : Below w.heap.size w w3 := b2.trans (hb3.mono b2.size)
  have HQ : Hid (Blk w.heap.size #[.slice a1 L.length c1, .int .i64 nx] w3) := (HQ1.out.below hb2).below hb3
  have HR : Hid (Blk (w.heap.size + 1) #[.int .i64 1, .int .i64 mid, .int .i64 born, .string fr, .slice a3 n3 c3, .string bo, .int .i64 id, .int .i64 rc, .int .i64 vk, .int .i64 vc, .string vt, .int .i64 tr, .int .i64 due] w3) := (HR1.out.below hb2).below hb3
  have HZ : Hid (Blk (w.heap.size + 1 + 1) #[.slice none 0 0, .int .i64 0] w3) := (HZ1.out.below hb2).below hb3
  have HO : Hid (Blk w1.heap.size #[.slice a5 L.length c5, .int .i64 nx] w3) := HO2.out.below hb3
  have HI : Hid (ItsP w3 W0.heap.size (.slice a5 L.length c5) L P1) := (HI1.out.below hb2 (Nat.le_refl _)).below hb3 (Nat.le_refl _)
  have HN : Hid (NeB w1.heap.size (.slice a5 L.length c5) P1) := NeB.of HI1.out (Nat.le_refl _)
  have H3 : Hid (ItsP w3 lo (.slice a1 L.length c1) L P) := H.out.below b3 (Nat.le_refl _)
  clear hs hb2 hb3 b1 b2 HQ1 HR1 HZ1 HO2 HI1 H HPK
  have hln := list_ne (x := s) (by have := HSZ.out; omega)
  have hl2 := list_ne2 (x := s) (by have := HSZ.out; omega)
  have x0 : w3.cell? ⟨w.heap.size + 1, 0, none⟩ = some (.int .i64 1) := HR.out.cell 0
  have x1 : w3.cell? ⟨w.heap.size + 1, 1, none⟩ = some (.int .i64 mid) := HR.out.cell 1
  have q1 : w3.cell? ⟨w.heap.size, 1, none⟩ = some (.int .i64 nx) := HQ.out.cell 1
  have q0 : w3.cell? ⟨w.heap.size, 0, none⟩ = some (.slice a1 L.length c1) := HQ.out.cell 0
  have r0 : w3.cell? ⟨w.heap.size + 1 + 1, 0, none⟩ = some (.slice none 0 0) := HZ.out.cell 0
  have r1 : w3.cell? ⟨w.heap.size + 1 + 1, 1, none⟩ = some (.int .i64 0) := HZ.out.cell 1
  have g0 := HZ.out.free 0
  have g1 := HZ.out.free 1
  have o0 : w3.cell? ⟨w1.heap.size, 0, none⟩ = some (.slice a5 L.length c5) := HO.out.cell 0
  have o1 : w3.cell? ⟨w1.heap.size, 1, none⟩ = some (.int .i64 nx) := HO.out.cell 1
  go_wp2
  refine bodyPost_ret (v := .tuple #[.agg #[.slice a5 L.length c5, .int .i64 nx], .bool false]) (by simp [results, Tryz.results6, go_sem, r0, r1]) rfl ?_
  refine ⟨⟨_, P1, rfl, ?_⟩, ?_⟩
  · refine ItsP.le (lo := W0.heap.size) ?_ (by omega)
    refine ItsP.setB (ItsP.setB ?_ (by dsimp only; omega) _) (by dsimp only; omega) _
    exact HI.out
  · refine Below.setCell (Below.setCell ?_ (by dsimp only; omega) _) (by dsimp only; omega) _
    exact b3

set_option maxHeartbeats 8000000 in
set_option maxRecDepth 100000 in
theorem sa1full (mid born : Int) (fr bo : ByteArray) (a3 : Option Addr) (n3 c3 : Nat) (id rc vk vc : Int) (vt : ByteArray) (tr due : Int) (nx : Int) (v : Value) (L : List It) (P : List (Value × Value)) (lo : Nat) (w : World) (h : ItsP w lo v L P) (hL : L.length ≤ 1048576) (hs : ∀ x ∈ L, SmallI x) (hpk : ∀ wx, Below w.heap.size w wx → Calls Tryz.prog 19 #[.agg #[.int .i64 1, .int .i64 mid, .int .i64 born, .string fr, .slice a3 n3 c3, .string bo, .int .i64 id, .int .i64 rc, .int .i64 vk, .int .i64 vc, .string vt, .int .i64 tr, .int .i64 due]] wx fun e w' => (∃ s : ByteArray, e = .returned (.string s) ∧ 1 ≤ s.size) ∧ Below wx.heap.size wx w') (c : ¬ mid < nx) (cf : 30 ≤ L.length) :
    Calls Tryz.prog 6 #[.agg #[v, .int .i64 nx], .agg #[.int .i64 1, .int .i64 mid, .int .i64 born, .string fr, .slice a3 n3 c3, .string bo, .int .i64 id, .int .i64 rc, .int .i64 vk, .int .i64 vc, .string vt, .int .i64 tr, .int .i64 due]] w fun e w' => (∃ u P', e = .returned (.tuple #[.agg #[u, .int .i64 nx], .bool false]) ∧ ItsP w' w.heap.size u L P') ∧ Below w.heap.size w w' := by
  obtain ⟨a1, c1, rfl⟩ := h.form
  have H : Hid (ItsP w lo (.slice a1 L.length c1) L P) := h
  have HS : Hid (∀ x ∈ L, SmallI x) := hs
  have HPK : Hid (∀ wx, Below w.heap.size w wx → Calls Tryz.prog 19 #[.agg #[.int .i64 1, .int .i64 mid, .int .i64 born, .string fr, .slice a3 n3 c3, .string bo, .int .i64 id, .int .i64 rc, .int .i64 vk, .int .i64 vc, .string vt, .int .i64 tr, .int .i64 due]] wx fun e w' => (∃ s : ByteArray, e = .returned (.string s) ∧ 1 ≤ s.size) ∧ Below wx.heap.size wx w') := hpk
  clear h hs hpk
  go_enter Tryz.func6, Tryz.ntmps6
  go_wp2_with fail
  generalize hW : World.alloc _ _ = W0
  have HQ0 : Hid (Blk w.heap.size #[.slice a1 L.length c1, .int .i64 nx] W0) := by show Blk _ _ _; rw [← hW]; exact (blk3I w _ _ _ _ _ _).1
  have HR0 : Hid (Blk (w.heap.size + 1) #[.int .i64 1, .int .i64 mid, .int .i64 born, .string fr, .slice a3 n3 c3, .string bo, .int .i64 id, .int .i64 rc, .int .i64 vk, .int .i64 vc, .string vt, .int .i64 tr, .int .i64 due] W0) := by show Blk _ _ _; rw [← hW]; exact (blk3I w _ _ _ _ _ _).2.1
  have HZ0 : Hid (Blk (w.heap.size + 1 + 1) #[.slice none 0 0, .int .i64 0] W0) := by show Blk _ _ _; rw [← hW]; exact (blk3I w _ _ _ _ _ _).2.2
  have b0 : Below w.heap.size w W0 := by rw [← hW]; exact below3 _ _ _ _
  have z0 : W0.heap.size = w.heap.size + 3 := by rw [← hW]; simp
  clear hW
  refine (specQueue _ nx L P lo _ (H.out.below b0 (Nat.le_refl _)) hL HS.out).mono ?_
  rintro e w1 ⟨⟨u, P1, rfl, S1⟩, hb1⟩
  obtain ⟨a5, c5, hf⟩ := S1.form
  subst hf
  have z1 := hb1.size
  have b1 : Below w.heap.size w w1 := b0.trans (hb1.mono b0.size)
  have HI1 : Hid (ItsP w1 W0.heap.size (.slice a5 L.length c5) L P1) := S1
  have HQ1 : Hid _ := HQ0.out.below hb1
  have HR1 : Hid _ := HR0.out.below hb1
  have HZ1 : Hid _ := HZ0.out.below hb1
  clear hb1 S1 HQ0 HR0 HZ0 b0
  have x0 : w1.cell? ⟨w.heap.size + 1, 0, none⟩ = some (.int .i64 1) := HR1.out.cell 0
  have x1 : w1.cell? ⟨w.heap.size + 1, 1, none⟩ = some (.int .i64 mid) := HR1.out.cell 1
  have x2 : w1.cell? ⟨w.heap.size + 1, 2, none⟩ = some (.int .i64 born) := HR1.out.cell 2
  have x3 : w1.cell? ⟨w.heap.size + 1, 3, none⟩ = some (.string fr) := HR1.out.cell 3
  have x4 : w1.cell? ⟨w.heap.size + 1, 4, none⟩ = some (.slice a3 n3 c3) := HR1.out.cell 4
  have x5 : w1.cell? ⟨w.heap.size + 1, 5, none⟩ = some (.string bo) := HR1.out.cell 5
  have x6 : w1.cell? ⟨w.heap.size + 1, 6, none⟩ = some (.int .i64 id) := HR1.out.cell 6
  have x7 : w1.cell? ⟨w.heap.size + 1, 7, none⟩ = some (.int .i64 rc) := HR1.out.cell 7
  have x8 : w1.cell? ⟨w.heap.size + 1, 8, none⟩ = some (.int .i64 vk) := HR1.out.cell 8
  have x9 : w1.cell? ⟨w.heap.size + 1, 9, none⟩ = some (.int .i64 vc) := HR1.out.cell 9
  have x10 : w1.cell? ⟨w.heap.size + 1, 10, none⟩ = some (.string vt) := HR1.out.cell 10
  have x11 : w1.cell? ⟨w.heap.size + 1, 11, none⟩ = some (.int .i64 tr) := HR1.out.cell 11
  have x12 : w1.cell? ⟨w.heap.size + 1, 12, none⟩ = some (.int .i64 due) := HR1.out.cell 12
  have lR1 : w.heap.size + 1 < w1.heap.size := HR1.out.lt
  go_wp2_with fail
  generalize hW : World.alloc _ _ = W2
  have HO2 : Hid (Blk w1.heap.size #[.slice a5 L.length c5, .int .i64 nx] W2) := by show Blk _ _ _; rw [← hW]; exact Blk.new w1 _ _
  have hb2 : Below w1.heap.size w1 W2 := by rw [← hW]; exact below1 _ _
  have z2 : W2.heap.size = w1.heap.size + 1 := by rw [← hW]; simp
  clear hW x0 x1 x2 x3 x4 x5 x6 x7 x8 x9 x10 x11 x12
  have b2 : Below w.heap.size w W2 := b1.trans (hb2.mono b1.size)
  refine (HPK.out _ b2).mono ?_
  rintro e w3 ⟨⟨s, rfl, hs⟩, hb3⟩
  have HSZ : Hid (1 ≤ s.size) := hs
  have z3 := hb3.size
  have b3 : Below w.heap.size w w3 := b2.trans (hb3.mono b2.size)
  have HQ : Hid (Blk w.heap.size #[.slice a1 L.length c1, .int .i64 nx] w3) := (HQ1.out.below hb2).below hb3
  have HR : Hid (Blk (w.heap.size + 1) #[.int .i64 1, .int .i64 mid, .int .i64 born, .string fr, .slice a3 n3 c3, .string bo, .int .i64 id, .int .i64 rc, .int .i64 vk, .int .i64 vc, .string vt, .int .i64 tr, .int .i64 due] w3) := (HR1.out.below hb2).below hb3
  have HZ : Hid (Blk (w.heap.size + 1 + 1) #[.slice none 0 0, .int .i64 0] w3) := (HZ1.out.below hb2).below hb3
  have HO : Hid (Blk w1.heap.size #[.slice a5 L.length c5, .int .i64 nx] w3) := HO2.out.below hb3
  have HI : Hid (ItsP w3 W0.heap.size (.slice a5 L.length c5) L P1) := (HI1.out.below hb2 (Nat.le_refl _)).below hb3 (Nat.le_refl _)
  have HN : Hid (NeB w1.heap.size (.slice a5 L.length c5) P1) := NeB.of HI1.out (Nat.le_refl _)
  have H3 : Hid (ItsP w3 lo (.slice a1 L.length c1) L P) := H.out.below b3 (Nat.le_refl _)
  clear hs hb2 hb3 b1 b2 HQ1 HR1 HZ1 HO2 HI1 H HPK
  have hln := list_ne (x := s) (by have := HSZ.out; omega)
  have hl2 := list_ne2 (x := s) (by have := HSZ.out; omega)
  have ci : (30 : Int) ≤ (L.length : Int) := by omega
  have x0 : w3.cell? ⟨w.heap.size + 1, 0, none⟩ = some (.int .i64 1) := HR.out.cell 0
  have x1 : w3.cell? ⟨w.heap.size + 1, 1, none⟩ = some (.int .i64 mid) := HR.out.cell 1
  have q1 : w3.cell? ⟨w.heap.size, 1, none⟩ = some (.int .i64 nx) := HQ.out.cell 1
  have q0 : w3.cell? ⟨w.heap.size, 0, none⟩ = some (.slice a1 L.length c1) := HQ.out.cell 0
  have r0 : w3.cell? ⟨w.heap.size + 1 + 1, 0, none⟩ = some (.slice none 0 0) := HZ.out.cell 0
  have r1 : w3.cell? ⟨w.heap.size + 1 + 1, 1, none⟩ = some (.int .i64 0) := HZ.out.cell 1
  have g0 := HZ.out.free 0
  have g1 := HZ.out.free 1
  have o0 : w3.cell? ⟨w1.heap.size, 0, none⟩ = some (.slice a5 L.length c5) := HO.out.cell 0
  have o1 : w3.cell? ⟨w1.heap.size, 1, none⟩ = some (.int .i64 nx) := HO.out.cell 1
  go_wp2
  refine bodyPost_ret (v := .tuple #[.agg #[.slice a5 L.length c5, .int .i64 nx], .bool false]) (by simp [results, Tryz.results6, go_sem, r0, r1]) rfl ?_
  refine ⟨⟨_, P1, rfl, ?_⟩, ?_⟩
  · refine ItsP.le (lo := W0.heap.size) ?_ (by omega)
    refine ItsP.setB (ItsP.setB ?_ (by dsimp only; omega) _) (by dsimp only; omega) _
    exact HI.out
  · refine Below.setCell (Below.setCell ?_ (by dsimp only; omega) _) (by dsimp only; omega) _
    exact b3
end Go.Proofs.YtlolnfpfipnfeaaGreat
namespace Go.Proofs.YtlolnfpfipnfeaaGreat
open Go.ChangeShapes Go.WideShapes Go.ChangeAt Go.RowKit
attribute [local go_sem ↓] Go.wp_at_zero Go.wp_at_succ


/-- an item is written as a whole, with its own lists -/
theorem ItsP.put {w : World} {lo g m cap i : Nat} {L : List It} {P : List (Value × Value)} (h : ItsP w lo (.slice (some ⟨g, 0, none⟩) m cap) L P) (hi : i < L.length) (x : It) (p : Value × Value) (hp : P[i]'(by have := h.len; omega) = p) (hR : x.R = L[i].R) (hV : x.V = L[i].V) :
    ItsP (((((((((w.setCell ⟨g, i * 9, none⟩ (.int .i64 x.id)).setCell ⟨g, i * 9 + 1, none⟩ (.int .i64 x.born)).setCell ⟨g, i * 9 + 2, none⟩ (.string x.fr)).setCell ⟨g, i * 9 + 3, none⟩ p.1).setCell ⟨g, i * 9 + 4, none⟩ (.string x.bo)).setCell ⟨g, i * 9 + 5, none⟩ p.2).setCell ⟨g, i * 9 + 6, none⟩ (.int .i64 x.tr)).setCell ⟨g, i * 9 + 7, none⟩ (.int .i64 x.du)).setCell ⟨g, i * 9 + 8, none⟩ (.bool x.bn)) lo (.slice (some ⟨g, 0, none⟩) m cap) (L.set i x) P := by
  subst hp
  have hl := h.len
  have s := h.set hi x (P[i]'(by omega)) (by rw [hR]; exact h.str i hi) (by rw [hV]; exact h.vds i hi)
    (fun a ha j hj hne e => h.d1 i (by simp; omega) j (by simp; omega) (Ne.symm hne) a (by simpa using ha) (by simpa using e))
    (fun a ha j hj hne e => h.d2 i (by simp; omega) j (by simp; omega) (Ne.symm hne) a (by simpa using ha) (by simpa using e))
  rwa [List.set_getElem_self] at s

set_option maxHeartbeats 8000000 in
set_option maxRecDepth 100000 in
theorem sa2no (mid born : Int) (fr bo : ByteArray) (a3 : Option Addr) (n3 c3 : Nat) (id rc vk vc : Int) (vt : ByteArray) (tr due : Int) (nx : Int) (v : Value) (L : List It) (P : List (Value × Value)) (lo : Nat) (w : World) (h : ItsP w lo v L P) (hL : L.length ≤ 1048576) (hs : ∀ x ∈ L, SmallI x) (hpk : ∀ wx, Below w.heap.size w wx → Calls Tryz.prog 19 #[.agg #[.int .i64 2, .int .i64 mid, .int .i64 born, .string fr, .slice a3 n3 c3, .string bo, .int .i64 id, .int .i64 rc, .int .i64 vk, .int .i64 vc, .string vt, .int .i64 tr, .int .i64 due]] wx fun e w' => (∃ s : ByteArray, e = .returned (.string s) ∧ 1 ≤ s.size) ∧ Below wx.heap.size wx w') (hf : findI id L 0 = none) :
    Calls Tryz.prog 6 #[.agg #[v, .int .i64 nx], .agg #[.int .i64 2, .int .i64 mid, .int .i64 born, .string fr, .slice a3 n3 c3, .string bo, .int .i64 id, .int .i64 rc, .int .i64 vk, .int .i64 vc, .string vt, .int .i64 tr, .int .i64 due]] w fun e w' => (∃ u P', e = .returned (.tuple #[.agg #[u, .int .i64 nx], .bool false]) ∧ ItsP w' w.heap.size u L P') ∧ Below w.heap.size w w' := by
  have HP : Hid (placeI id L = -1) := by show _ = _; unfold placeI; rw [hf]
  clear hf
  obtain ⟨a1, c1, rfl⟩ := h.form
  have H : Hid (ItsP w lo (.slice a1 L.length c1) L P) := h
  have HS : Hid (∀ x ∈ L, SmallI x) := hs
  have HPK : Hid (∀ wx, Below w.heap.size w wx → Calls Tryz.prog 19 #[.agg #[.int .i64 2, .int .i64 mid, .int .i64 born, .string fr, .slice a3 n3 c3, .string bo, .int .i64 id, .int .i64 rc, .int .i64 vk, .int .i64 vc, .string vt, .int .i64 tr, .int .i64 due]] wx fun e w' => (∃ s : ByteArray, e = .returned (.string s) ∧ 1 ≤ s.size) ∧ Below wx.heap.size wx w') := hpk
  clear h hs hpk
  go_enter Tryz.func6, Tryz.ntmps6
  go_wp2_with fail
  generalize hW : World.alloc _ _ = W0
  have HQ0 : Hid (Blk w.heap.size #[.slice a1 L.length c1, .int .i64 nx] W0) := by show Blk _ _ _; rw [← hW]; exact (blk3I w _ _ _ _ _ _).1
  have HR0 : Hid (Blk (w.heap.size + 1) #[.int .i64 2, .int .i64 mid, .int .i64 born, .string fr, .slice a3 n3 c3, .string bo, .int .i64 id, .int .i64 rc, .int .i64 vk, .int .i64 vc, .string vt, .int .i64 tr, .int .i64 due] W0) := by show Blk _ _ _; rw [← hW]; exact (blk3I w _ _ _ _ _ _).2.1
  have HZ0 : Hid (Blk (w.heap.size + 1 + 1) #[.slice none 0 0, .int .i64 0] W0) := by show Blk _ _ _; rw [← hW]; exact (blk3I w _ _ _ _ _ _).2.2
  have b0 : Below w.heap.size w W0 := by rw [← hW]; exact below3 _ _ _ _
  have z0 : W0.heap.size = w.heap.size + 3 := by rw [← hW]; simp
  clear hW
  refine (specQueue _ nx L P lo _ (H.out.below b0 (Nat.le_refl _)) hL HS.out).mono ?_
  rintro e w1 ⟨⟨u, P1, rfl, S1⟩, hb1⟩
  obtain ⟨a5, c5, hf⟩ := S1.form
  subst hf
  have z1 := hb1.size
  have b1 : Below w.heap.size w w1 := b0.trans (hb1.mono b0.size)
  have HI1 : Hid (ItsP w1 W0.heap.size (.slice a5 L.length c5) L P1) := S1
  have HQ1 : Hid _ := HQ0.out.below hb1
  have HR1 : Hid _ := HR0.out.below hb1
  have HZ1 : Hid _ := HZ0.out.below hb1
  clear hb1 S1 HQ0 HR0 HZ0 b0
  have x0 : w1.cell? ⟨w.heap.size + 1, 0, none⟩ = some (.int .i64 2) := HR1.out.cell 0
  have x1 : w1.cell? ⟨w.heap.size + 1, 1, none⟩ = some (.int .i64 mid) := HR1.out.cell 1
  have x2 : w1.cell? ⟨w.heap.size + 1, 2, none⟩ = some (.int .i64 born) := HR1.out.cell 2
  have x3 : w1.cell? ⟨w.heap.size + 1, 3, none⟩ = some (.string fr) := HR1.out.cell 3
  have x4 : w1.cell? ⟨w.heap.size + 1, 4, none⟩ = some (.slice a3 n3 c3) := HR1.out.cell 4
  have x5 : w1.cell? ⟨w.heap.size + 1, 5, none⟩ = some (.string bo) := HR1.out.cell 5
  have x6 : w1.cell? ⟨w.heap.size + 1, 6, none⟩ = some (.int .i64 id) := HR1.out.cell 6
  have x7 : w1.cell? ⟨w.heap.size + 1, 7, none⟩ = some (.int .i64 rc) := HR1.out.cell 7
  have x8 : w1.cell? ⟨w.heap.size + 1, 8, none⟩ = some (.int .i64 vk) := HR1.out.cell 8
  have x9 : w1.cell? ⟨w.heap.size + 1, 9, none⟩ = some (.int .i64 vc) := HR1.out.cell 9
  have x10 : w1.cell? ⟨w.heap.size + 1, 10, none⟩ = some (.string vt) := HR1.out.cell 10
  have x11 : w1.cell? ⟨w.heap.size + 1, 11, none⟩ = some (.int .i64 tr) := HR1.out.cell 11
  have x12 : w1.cell? ⟨w.heap.size + 1, 12, none⟩ = some (.int .i64 due) := HR1.out.cell 12
  have lR1 : w.heap.size + 1 < w1.heap.size := HR1.out.lt
  go_wp2_with fail
  generalize hW : World.alloc _ _ = W2
  have HO2 : Hid (Blk w1.heap.size #[.slice a5 L.length c5, .int .i64 nx] W2) := by show Blk _ _ _; rw [← hW]; exact Blk.new w1 _ _
  have hb2 : Below w1.heap.size w1 W2 := by rw [← hW]; exact below1 _ _
  have z2 : W2.heap.size = w1.heap.size + 1 := by rw [← hW]; simp
  clear hW x0 x1 x2 x3 x4 x5 x6 x7 x8 x9 x10 x11 x12
  have b2 : Below w.heap.size w W2 := b1.trans (hb2.mono b1.size)
  refine (HPK.out _ b2).mono ?_
  rintro e w3 ⟨⟨s, rfl, hs⟩, hb3⟩
  have HSZ : Hid (1 ≤ s.size) := hs
  have z3 := hb3.size
  have b3 : Below w.heap.size w w3 := b2.trans (hb3.mono b2.size)
  have HQ : Hid (Blk w.heap.size #[.slice a1 L.length c1, .int .i64 nx] w3) := (HQ1.out.below hb2).below hb3
  have HR : Hid (Blk (w.heap.size + 1) #[.int .i64 2, .int .i64 mid, .int .i64 born, .string fr, .slice a3 n3 c3, .string bo, .int .i64 id, .int .i64 rc, .int .i64 vk, .int .i64 vc, .string vt, .int .i64 tr, .int .i64 due] w3) := (HR1.out.below hb2).below hb3
  have HZ : Hid (Blk (w.heap.size + 1 + 1) #[.slice none 0 0, .int .i64 0] w3) := (HZ1.out.below hb2).below hb3
  have HO : Hid (Blk w1.heap.size #[.slice a5 L.length c5, .int .i64 nx] w3) := HO2.out.below hb3
  have HI : Hid (ItsP w3 W0.heap.size (.slice a5 L.length c5) L P1) := (HI1.out.below hb2 (Nat.le_refl _)).below hb3 (Nat.le_refl _)
  have HN : Hid (NeB w1.heap.size (.slice a5 L.length c5) P1) := NeB.of HI1.out (Nat.le_refl _)
  have H3 : Hid (ItsP w3 lo (.slice a1 L.length c1) L P) := H.out.below b3 (Nat.le_refl _)
  clear hs hb2 hb3 b1 b2 HQ1 HR1 HZ1 HO2 HI1 H HPK
  have hln := list_ne (x := s) (by have := HSZ.out; omega)
  have hl2 := list_ne2 (x := s) (by have := HSZ.out; omega)
  have x0 : w3.cell? ⟨w.heap.size + 1, 0, none⟩ = some (.int .i64 2) := HR.out.cell 0
  have x6 : w3.cell? ⟨w.heap.size + 1, 6, none⟩ = some (.int .i64 id) := HR.out.cell 6
  have q0 : w3.cell? ⟨w.heap.size, 0, none⟩ = some (.slice a1 L.length c1) := HQ.out.cell 0
  have q1 : w3.cell? ⟨w.heap.size, 1, none⟩ = some (.int .i64 nx) := HQ.out.cell 1
  go_wp2_with fail
  refine (specFind _ nx id L P lo _ H3.out hL).mono ?_
  rw [HP.out]
  rintro e w4 ⟨rfl, hb4⟩
  have z4 := hb4.size
  have b4 : Below w.heap.size w w4 := b3.trans (hb4.mono b3.size)
  have HR4 : Hid (Blk (w.heap.size + 1) #[.int .i64 2, .int .i64 mid, .int .i64 born, .string fr, .slice a3 n3 c3, .string bo, .int .i64 id, .int .i64 rc, .int .i64 vk, .int .i64 vc, .string vt, .int .i64 tr, .int .i64 due] w4) := HR.out.below hb4
  have HZ4 : Hid (Blk (w.heap.size + 1 + 1) #[.slice none 0 0, .int .i64 0] w4) := HZ.out.below hb4
  have HO4 : Hid (Blk w1.heap.size #[.slice a5 L.length c5, .int .i64 nx] w4) := HO.out.below hb4
  have HI4 : Hid (ItsP w4 W0.heap.size (.slice a5 L.length c5) L P1) := HI.out.below hb4 (Nat.le_refl _)
  clear hb4 HR HZ HO HI H3 HQ b3 q0 q1 x0 x6 hln hl2 HSZ
  have r0 : w4.cell? ⟨w.heap.size + 1 + 1, 0, none⟩ = some (.slice none 0 0) := HZ4.out.cell 0
  have r1 : w4.cell? ⟨w.heap.size + 1 + 1, 1, none⟩ = some (.int .i64 0) := HZ4.out.cell 1
  have g0 := HZ4.out.free 0
  have g1 := HZ4.out.free 1
  have o0 : w4.cell? ⟨w1.heap.size, 0, none⟩ = some (.slice a5 L.length c5) := HO4.out.cell 0
  have o1 : w4.cell? ⟨w1.heap.size, 1, none⟩ = some (.int .i64 nx) := HO4.out.cell 1
  go_wp2
  refine bodyPost_ret (v := .tuple #[.agg #[.slice a5 L.length c5, .int .i64 nx], .bool false]) (by simp [results, Tryz.results6, go_sem, r0, r1]) rfl ?_
  refine ⟨⟨_, P1, rfl, ?_⟩, ?_⟩
  · refine ItsP.le (lo := W0.heap.size) ?_ (by omega)
    refine ItsP.setB (ItsP.setB ?_ (by dsimp only; omega) _) (by dsimp only; omega) _
    exact HI4.out
  · refine Below.setCell (Below.setCell ?_ (by dsimp only; omega) _) (by dsimp only; omega) _
    exact b4

set_option maxHeartbeats 8000000 in
set_option maxRecDepth 100000 in
theorem sa3no (mid born : Int) (fr bo : ByteArray) (a3 : Option Addr) (n3 c3 : Nat) (id rc vk vc : Int) (vt : ByteArray) (tr due : Int) (nx : Int) (v : Value) (L : List It) (P : List (Value × Value)) (lo : Nat) (w : World) (h : ItsP w lo v L P) (hL : L.length ≤ 1048576) (hs : ∀ x ∈ L, SmallI x) (hpk : ∀ wx, Below w.heap.size w wx → Calls Tryz.prog 19 #[.agg #[.int .i64 3, .int .i64 mid, .int .i64 born, .string fr, .slice a3 n3 c3, .string bo, .int .i64 id, .int .i64 rc, .int .i64 vk, .int .i64 vc, .string vt, .int .i64 tr, .int .i64 due]] wx fun e w' => (∃ s : ByteArray, e = .returned (.string s) ∧ 1 ≤ s.size) ∧ Below wx.heap.size wx w') (hf : findI id L 0 = none) :
    Calls Tryz.prog 6 #[.agg #[v, .int .i64 nx], .agg #[.int .i64 3, .int .i64 mid, .int .i64 born, .string fr, .slice a3 n3 c3, .string bo, .int .i64 id, .int .i64 rc, .int .i64 vk, .int .i64 vc, .string vt, .int .i64 tr, .int .i64 due]] w fun e w' => (∃ u P', e = .returned (.tuple #[.agg #[u, .int .i64 nx], .bool false]) ∧ ItsP w' w.heap.size u L P') ∧ Below w.heap.size w w' := by
  have HP : Hid (placeI id L = -1) := by show _ = _; unfold placeI; rw [hf]
  clear hf
  obtain ⟨a1, c1, rfl⟩ := h.form
  have H : Hid (ItsP w lo (.slice a1 L.length c1) L P) := h
  have HS : Hid (∀ x ∈ L, SmallI x) := hs
  have HPK : Hid (∀ wx, Below w.heap.size w wx → Calls Tryz.prog 19 #[.agg #[.int .i64 3, .int .i64 mid, .int .i64 born, .string fr, .slice a3 n3 c3, .string bo, .int .i64 id, .int .i64 rc, .int .i64 vk, .int .i64 vc, .string vt, .int .i64 tr, .int .i64 due]] wx fun e w' => (∃ s : ByteArray, e = .returned (.string s) ∧ 1 ≤ s.size) ∧ Below wx.heap.size wx w') := hpk
  clear h hs hpk
  go_enter Tryz.func6, Tryz.ntmps6
  go_wp2_with fail
  generalize hW : World.alloc _ _ = W0
  have HQ0 : Hid (Blk w.heap.size #[.slice a1 L.length c1, .int .i64 nx] W0) := by show Blk _ _ _; rw [← hW]; exact (blk3I w _ _ _ _ _ _).1
  have HR0 : Hid (Blk (w.heap.size + 1) #[.int .i64 3, .int .i64 mid, .int .i64 born, .string fr, .slice a3 n3 c3, .string bo, .int .i64 id, .int .i64 rc, .int .i64 vk, .int .i64 vc, .string vt, .int .i64 tr, .int .i64 due] W0) := by show Blk _ _ _; rw [← hW]; exact (blk3I w _ _ _ _ _ _).2.1
  have HZ0 : Hid (Blk (w.heap.size + 1 + 1) #[.slice none 0 0, .int .i64 0] W0) := by show Blk _ _ _; rw [← hW]; exact (blk3I w _ _ _ _ _ _).2.2
  have b0 : Below w.heap.size w W0 := by rw [← hW]; exact below3 _ _ _ _
  have z0 : W0.heap.size = w.heap.size + 3 := by rw [← hW]; simp
  clear hW
  refine (specQueue _ nx L P lo _ (H.out.below b0 (Nat.le_refl _)) hL HS.out).mono ?_
  rintro e w1 ⟨⟨u, P1, rfl, S1⟩, hb1⟩
  obtain ⟨a5, c5, hf⟩ := S1.form
  subst hf
  have z1 := hb1.size
  have b1 : Below w.heap.size w w1 := b0.trans (hb1.mono b0.size)
  have HI1 : Hid (ItsP w1 W0.heap.size (.slice a5 L.length c5) L P1) := S1
  have HQ1 : Hid _ := HQ0.out.below hb1
  have HR1 : Hid _ := HR0.out.below hb1
  have HZ1 : Hid _ := HZ0.out.below hb1
  clear hb1 S1 HQ0 HR0 HZ0 b0
  have x0 : w1.cell? ⟨w.heap.size + 1, 0, none⟩ = some (.int .i64 3) := HR1.out.cell 0
  have x1 : w1.cell? ⟨w.heap.size + 1, 1, none⟩ = some (.int .i64 mid) := HR1.out.cell 1
  have x2 : w1.cell? ⟨w.heap.size + 1, 2, none⟩ = some (.int .i64 born) := HR1.out.cell 2
  have x3 : w1.cell? ⟨w.heap.size + 1, 3, none⟩ = some (.string fr) := HR1.out.cell 3
  have x4 : w1.cell? ⟨w.heap.size + 1, 4, none⟩ = some (.slice a3 n3 c3) := HR1.out.cell 4
  have x5 : w1.cell? ⟨w.heap.size + 1, 5, none⟩ = some (.string bo) := HR1.out.cell 5
  have x6 : w1.cell? ⟨w.heap.size + 1, 6, none⟩ = some (.int .i64 id) := HR1.out.cell 6
  have x7 : w1.cell? ⟨w.heap.size + 1, 7, none⟩ = some (.int .i64 rc) := HR1.out.cell 7
  have x8 : w1.cell? ⟨w.heap.size + 1, 8, none⟩ = some (.int .i64 vk) := HR1.out.cell 8
  have x9 : w1.cell? ⟨w.heap.size + 1, 9, none⟩ = some (.int .i64 vc) := HR1.out.cell 9
  have x10 : w1.cell? ⟨w.heap.size + 1, 10, none⟩ = some (.string vt) := HR1.out.cell 10
  have x11 : w1.cell? ⟨w.heap.size + 1, 11, none⟩ = some (.int .i64 tr) := HR1.out.cell 11
  have x12 : w1.cell? ⟨w.heap.size + 1, 12, none⟩ = some (.int .i64 due) := HR1.out.cell 12
  have lR1 : w.heap.size + 1 < w1.heap.size := HR1.out.lt
  go_wp2_with fail
  generalize hW : World.alloc _ _ = W2
  have HO2 : Hid (Blk w1.heap.size #[.slice a5 L.length c5, .int .i64 nx] W2) := by show Blk _ _ _; rw [← hW]; exact Blk.new w1 _ _
  have hb2 : Below w1.heap.size w1 W2 := by rw [← hW]; exact below1 _ _
  have z2 : W2.heap.size = w1.heap.size + 1 := by rw [← hW]; simp
  clear hW x0 x1 x2 x3 x4 x5 x6 x7 x8 x9 x10 x11 x12
  have b2 : Below w.heap.size w W2 := b1.trans (hb2.mono b1.size)
  refine (HPK.out _ b2).mono ?_
  rintro e w3 ⟨⟨s, rfl, hs⟩, hb3⟩
  have HSZ : Hid (1 ≤ s.size) := hs
  have z3 := hb3.size
  have b3 : Below w.heap.size w w3 := b2.trans (hb3.mono b2.size)
  have HQ : Hid (Blk w.heap.size #[.slice a1 L.length c1, .int .i64 nx] w3) := (HQ1.out.below hb2).below hb3
  have HR : Hid (Blk (w.heap.size + 1) #[.int .i64 3, .int .i64 mid, .int .i64 born, .string fr, .slice a3 n3 c3, .string bo, .int .i64 id, .int .i64 rc, .int .i64 vk, .int .i64 vc, .string vt, .int .i64 tr, .int .i64 due] w3) := (HR1.out.below hb2).below hb3
  have HZ : Hid (Blk (w.heap.size + 1 + 1) #[.slice none 0 0, .int .i64 0] w3) := (HZ1.out.below hb2).below hb3
  have HO : Hid (Blk w1.heap.size #[.slice a5 L.length c5, .int .i64 nx] w3) := HO2.out.below hb3
  have HI : Hid (ItsP w3 W0.heap.size (.slice a5 L.length c5) L P1) := (HI1.out.below hb2 (Nat.le_refl _)).below hb3 (Nat.le_refl _)
  have HN : Hid (NeB w1.heap.size (.slice a5 L.length c5) P1) := NeB.of HI1.out (Nat.le_refl _)
  have H3 : Hid (ItsP w3 lo (.slice a1 L.length c1) L P) := H.out.below b3 (Nat.le_refl _)
  clear hs hb2 hb3 b1 b2 HQ1 HR1 HZ1 HO2 HI1 H HPK
  have hln := list_ne (x := s) (by have := HSZ.out; omega)
  have hl2 := list_ne2 (x := s) (by have := HSZ.out; omega)
  have x0 : w3.cell? ⟨w.heap.size + 1, 0, none⟩ = some (.int .i64 3) := HR.out.cell 0
  have x6 : w3.cell? ⟨w.heap.size + 1, 6, none⟩ = some (.int .i64 id) := HR.out.cell 6
  have q0 : w3.cell? ⟨w.heap.size, 0, none⟩ = some (.slice a1 L.length c1) := HQ.out.cell 0
  have q1 : w3.cell? ⟨w.heap.size, 1, none⟩ = some (.int .i64 nx) := HQ.out.cell 1
  go_wp2_with fail
  refine (specFind _ nx id L P lo _ H3.out hL).mono ?_
  rw [HP.out]
  rintro e w4 ⟨rfl, hb4⟩
  have z4 := hb4.size
  have b4 : Below w.heap.size w w4 := b3.trans (hb4.mono b3.size)
  have HR4 : Hid (Blk (w.heap.size + 1) #[.int .i64 3, .int .i64 mid, .int .i64 born, .string fr, .slice a3 n3 c3, .string bo, .int .i64 id, .int .i64 rc, .int .i64 vk, .int .i64 vc, .string vt, .int .i64 tr, .int .i64 due] w4) := HR.out.below hb4
  have HZ4 : Hid (Blk (w.heap.size + 1 + 1) #[.slice none 0 0, .int .i64 0] w4) := HZ.out.below hb4
  have HO4 : Hid (Blk w1.heap.size #[.slice a5 L.length c5, .int .i64 nx] w4) := HO.out.below hb4
  have HI4 : Hid (ItsP w4 W0.heap.size (.slice a5 L.length c5) L P1) := HI.out.below hb4 (Nat.le_refl _)
  clear hb4 HR HZ HO HI H3 HQ b3 q0 q1 x0 x6 hln hl2 HSZ
  have r0 : w4.cell? ⟨w.heap.size + 1 + 1, 0, none⟩ = some (.slice none 0 0) := HZ4.out.cell 0
  have r1 : w4.cell? ⟨w.heap.size + 1 + 1, 1, none⟩ = some (.int .i64 0) := HZ4.out.cell 1
  have g0 := HZ4.out.free 0
  have g1 := HZ4.out.free 1
  have o0 : w4.cell? ⟨w1.heap.size, 0, none⟩ = some (.slice a5 L.length c5) := HO4.out.cell 0
  have o1 : w4.cell? ⟨w1.heap.size, 1, none⟩ = some (.int .i64 nx) := HO4.out.cell 1
  go_wp2
  refine bodyPost_ret (v := .tuple #[.agg #[.slice a5 L.length c5, .int .i64 nx], .bool false]) (by simp [results, Tryz.results6, go_sem, r0, r1]) rfl ?_
  refine ⟨⟨_, P1, rfl, ?_⟩, ?_⟩
  · refine ItsP.le (lo := W0.heap.size) ?_ (by omega)
    refine ItsP.setB (ItsP.setB ?_ (by dsimp only; omega) _) (by dsimp only; omega) _
    exact HI4.out
  · refine Below.setCell (Below.setCell ?_ (by dsimp only; omega) _) (by dsimp only; omega) _
    exact b4

set_option maxHeartbeats 8000000 in
set_option maxRecDepth 100000 in
theorem sa4no (mid born : Int) (fr bo : ByteArray) (a3 : Option Addr) (n3 c3 : Nat) (id rc vk vc : Int) (vt : ByteArray) (tr due : Int) (nx : Int) (v : Value) (L : List It) (P : List (Value × Value)) (lo : Nat) (w : World) (h : ItsP w lo v L P) (hL : L.length ≤ 1048576) (hs : ∀ x ∈ L, SmallI x) (hpk : ∀ wx, Below w.heap.size w wx → Calls Tryz.prog 19 #[.agg #[.int .i64 4, .int .i64 mid, .int .i64 born, .string fr, .slice a3 n3 c3, .string bo, .int .i64 id, .int .i64 rc, .int .i64 vk, .int .i64 vc, .string vt, .int .i64 tr, .int .i64 due]] wx fun e w' => (∃ s : ByteArray, e = .returned (.string s) ∧ 1 ≤ s.size) ∧ Below wx.heap.size wx w') (hf : findI id L 0 = none) :
    Calls Tryz.prog 6 #[.agg #[v, .int .i64 nx], .agg #[.int .i64 4, .int .i64 mid, .int .i64 born, .string fr, .slice a3 n3 c3, .string bo, .int .i64 id, .int .i64 rc, .int .i64 vk, .int .i64 vc, .string vt, .int .i64 tr, .int .i64 due]] w fun e w' => (∃ u P', e = .returned (.tuple #[.agg #[u, .int .i64 nx], .bool false]) ∧ ItsP w' w.heap.size u L P') ∧ Below w.heap.size w w' := by
  have HP : Hid (placeI id L = -1) := by show _ = _; unfold placeI; rw [hf]
  clear hf
  obtain ⟨a1, c1, rfl⟩ := h.form
  have H : Hid (ItsP w lo (.slice a1 L.length c1) L P) := h
  have HS : Hid (∀ x ∈ L, SmallI x) := hs
  have HPK : Hid (∀ wx, Below w.heap.size w wx → Calls Tryz.prog 19 #[.agg #[.int .i64 4, .int .i64 mid, .int .i64 born, .string fr, .slice a3 n3 c3, .string bo, .int .i64 id, .int .i64 rc, .int .i64 vk, .int .i64 vc, .string vt, .int .i64 tr, .int .i64 due]] wx fun e w' => (∃ s : ByteArray, e = .returned (.string s) ∧ 1 ≤ s.size) ∧ Below wx.heap.size wx w') := hpk
  clear h hs hpk
  go_enter Tryz.func6, Tryz.ntmps6
  go_wp2_with fail
  generalize hW : World.alloc _ _ = W0
  have HQ0 : Hid (Blk w.heap.size #[.slice a1 L.length c1, .int .i64 nx] W0) := by show Blk _ _ _; rw [← hW]; exact (blk3I w _ _ _ _ _ _).1
  have HR0 : Hid (Blk (w.heap.size + 1) #[.int .i64 4, .int .i64 mid, .int .i64 born, .string fr, .slice a3 n3 c3, .string bo, .int .i64 id, .int .i64 rc, .int .i64 vk, .int .i64 vc, .string vt, .int .i64 tr, .int .i64 due] W0) := by show Blk _ _ _; rw [← hW]; exact (blk3I w _ _ _ _ _ _).2.1
  have HZ0 : Hid (Blk (w.heap.size + 1 + 1) #[.slice none 0 0, .int .i64 0] W0) := by show Blk _ _ _; rw [← hW]; exact (blk3I w _ _ _ _ _ _).2.2
  have b0 : Below w.heap.size w W0 := by rw [← hW]; exact below3 _ _ _ _
  have z0 : W0.heap.size = w.heap.size + 3 := by rw [← hW]; simp
  clear hW
  refine (specQueue _ nx L P lo _ (H.out.below b0 (Nat.le_refl _)) hL HS.out).mono ?_
  rintro e w1 ⟨⟨u, P1, rfl, S1⟩, hb1⟩
  obtain ⟨a5, c5, hf⟩ := S1.form
  subst hf
  have z1 := hb1.size
  have b1 : Below w.heap.size w w1 := b0.trans (hb1.mono b0.size)
  have HI1 : Hid (ItsP w1 W0.heap.size (.slice a5 L.length c5) L P1) := S1
  have HQ1 : Hid _ := HQ0.out.below hb1
  have HR1 : Hid _ := HR0.out.below hb1
  have HZ1 : Hid _ := HZ0.out.below hb1
  clear hb1 S1 HQ0 HR0 HZ0 b0
  have x0 : w1.cell? ⟨w.heap.size + 1, 0, none⟩ = some (.int .i64 4) := HR1.out.cell 0
  have x1 : w1.cell? ⟨w.heap.size + 1, 1, none⟩ = some (.int .i64 mid) := HR1.out.cell 1
  have x2 : w1.cell? ⟨w.heap.size + 1, 2, none⟩ = some (.int .i64 born) := HR1.out.cell 2
  have x3 : w1.cell? ⟨w.heap.size + 1, 3, none⟩ = some (.string fr) := HR1.out.cell 3
  have x4 : w1.cell? ⟨w.heap.size + 1, 4, none⟩ = some (.slice a3 n3 c3) := HR1.out.cell 4
  have x5 : w1.cell? ⟨w.heap.size + 1, 5, none⟩ = some (.string bo) := HR1.out.cell 5
  have x6 : w1.cell? ⟨w.heap.size + 1, 6, none⟩ = some (.int .i64 id) := HR1.out.cell 6
  have x7 : w1.cell? ⟨w.heap.size + 1, 7, none⟩ = some (.int .i64 rc) := HR1.out.cell 7
  have x8 : w1.cell? ⟨w.heap.size + 1, 8, none⟩ = some (.int .i64 vk) := HR1.out.cell 8
  have x9 : w1.cell? ⟨w.heap.size + 1, 9, none⟩ = some (.int .i64 vc) := HR1.out.cell 9
  have x10 : w1.cell? ⟨w.heap.size + 1, 10, none⟩ = some (.string vt) := HR1.out.cell 10
  have x11 : w1.cell? ⟨w.heap.size + 1, 11, none⟩ = some (.int .i64 tr) := HR1.out.cell 11
  have x12 : w1.cell? ⟨w.heap.size + 1, 12, none⟩ = some (.int .i64 due) := HR1.out.cell 12
  have lR1 : w.heap.size + 1 < w1.heap.size := HR1.out.lt
  go_wp2_with fail
  generalize hW : World.alloc _ _ = W2
  have HO2 : Hid (Blk w1.heap.size #[.slice a5 L.length c5, .int .i64 nx] W2) := by show Blk _ _ _; rw [← hW]; exact Blk.new w1 _ _
  have hb2 : Below w1.heap.size w1 W2 := by rw [← hW]; exact below1 _ _
  have z2 : W2.heap.size = w1.heap.size + 1 := by rw [← hW]; simp
  clear hW x0 x1 x2 x3 x4 x5 x6 x7 x8 x9 x10 x11 x12
  have b2 : Below w.heap.size w W2 := b1.trans (hb2.mono b1.size)
  refine (HPK.out _ b2).mono ?_
  rintro e w3 ⟨⟨s, rfl, hs⟩, hb3⟩
  have HSZ : Hid (1 ≤ s.size) := hs
  have z3 := hb3.size
  have b3 : Below w.heap.size w w3 := b2.trans (hb3.mono b2.size)
  have HQ : Hid (Blk w.heap.size #[.slice a1 L.length c1, .int .i64 nx] w3) := (HQ1.out.below hb2).below hb3
  have HR : Hid (Blk (w.heap.size + 1) #[.int .i64 4, .int .i64 mid, .int .i64 born, .string fr, .slice a3 n3 c3, .string bo, .int .i64 id, .int .i64 rc, .int .i64 vk, .int .i64 vc, .string vt, .int .i64 tr, .int .i64 due] w3) := (HR1.out.below hb2).below hb3
  have HZ : Hid (Blk (w.heap.size + 1 + 1) #[.slice none 0 0, .int .i64 0] w3) := (HZ1.out.below hb2).below hb3
  have HO : Hid (Blk w1.heap.size #[.slice a5 L.length c5, .int .i64 nx] w3) := HO2.out.below hb3
  have HI : Hid (ItsP w3 W0.heap.size (.slice a5 L.length c5) L P1) := (HI1.out.below hb2 (Nat.le_refl _)).below hb3 (Nat.le_refl _)
  have HN : Hid (NeB w1.heap.size (.slice a5 L.length c5) P1) := NeB.of HI1.out (Nat.le_refl _)
  have H3 : Hid (ItsP w3 lo (.slice a1 L.length c1) L P) := H.out.below b3 (Nat.le_refl _)
  clear hs hb2 hb3 b1 b2 HQ1 HR1 HZ1 HO2 HI1 H HPK
  have hln := list_ne (x := s) (by have := HSZ.out; omega)
  have hl2 := list_ne2 (x := s) (by have := HSZ.out; omega)
  have x0 : w3.cell? ⟨w.heap.size + 1, 0, none⟩ = some (.int .i64 4) := HR.out.cell 0
  have x6 : w3.cell? ⟨w.heap.size + 1, 6, none⟩ = some (.int .i64 id) := HR.out.cell 6
  have q0 : w3.cell? ⟨w.heap.size, 0, none⟩ = some (.slice a1 L.length c1) := HQ.out.cell 0
  have q1 : w3.cell? ⟨w.heap.size, 1, none⟩ = some (.int .i64 nx) := HQ.out.cell 1
  go_wp2_with fail
  refine (specFind _ nx id L P lo _ H3.out hL).mono ?_
  rw [HP.out]
  rintro e w4 ⟨rfl, hb4⟩
  have z4 := hb4.size
  have b4 : Below w.heap.size w w4 := b3.trans (hb4.mono b3.size)
  have HR4 : Hid (Blk (w.heap.size + 1) #[.int .i64 4, .int .i64 mid, .int .i64 born, .string fr, .slice a3 n3 c3, .string bo, .int .i64 id, .int .i64 rc, .int .i64 vk, .int .i64 vc, .string vt, .int .i64 tr, .int .i64 due] w4) := HR.out.below hb4
  have HZ4 : Hid (Blk (w.heap.size + 1 + 1) #[.slice none 0 0, .int .i64 0] w4) := HZ.out.below hb4
  have HO4 : Hid (Blk w1.heap.size #[.slice a5 L.length c5, .int .i64 nx] w4) := HO.out.below hb4
  have HI4 : Hid (ItsP w4 W0.heap.size (.slice a5 L.length c5) L P1) := HI.out.below hb4 (Nat.le_refl _)
  clear hb4 HR HZ HO HI H3 HQ b3 q0 q1 x0 x6 hln hl2 HSZ
  have r0 : w4.cell? ⟨w.heap.size + 1 + 1, 0, none⟩ = some (.slice none 0 0) := HZ4.out.cell 0
  have r1 : w4.cell? ⟨w.heap.size + 1 + 1, 1, none⟩ = some (.int .i64 0) := HZ4.out.cell 1
  have g0 := HZ4.out.free 0
  have g1 := HZ4.out.free 1
  have o0 : w4.cell? ⟨w1.heap.size, 0, none⟩ = some (.slice a5 L.length c5) := HO4.out.cell 0
  have o1 : w4.cell? ⟨w1.heap.size, 1, none⟩ = some (.int .i64 nx) := HO4.out.cell 1
  go_wp2
  refine bodyPost_ret (v := .tuple #[.agg #[.slice a5 L.length c5, .int .i64 nx], .bool false]) (by simp [results, Tryz.results6, go_sem, r0, r1]) rfl ?_
  refine ⟨⟨_, P1, rfl, ?_⟩, ?_⟩
  · refine ItsP.le (lo := W0.heap.size) ?_ (by omega)
    refine ItsP.setB (ItsP.setB ?_ (by dsimp only; omega) _) (by dsimp only; omega) _
    exact HI4.out
  · refine Below.setCell (Below.setCell ?_ (by dsimp only; omega) _) (by dsimp only; omega) _
    exact b4

set_option maxHeartbeats 8000000 in
set_option maxRecDepth 100000 in
theorem sa5no (mid born : Int) (fr bo : ByteArray) (a3 : Option Addr) (n3 c3 : Nat) (id rc vk vc : Int) (vt : ByteArray) (tr due : Int) (nx : Int) (v : Value) (L : List It) (P : List (Value × Value)) (lo : Nat) (w : World) (h : ItsP w lo v L P) (hL : L.length ≤ 1048576) (hs : ∀ x ∈ L, SmallI x) (hpk : ∀ wx, Below w.heap.size w wx → Calls Tryz.prog 19 #[.agg #[.int .i64 5, .int .i64 mid, .int .i64 born, .string fr, .slice a3 n3 c3, .string bo, .int .i64 id, .int .i64 rc, .int .i64 vk, .int .i64 vc, .string vt, .int .i64 tr, .int .i64 due]] wx fun e w' => (∃ s : ByteArray, e = .returned (.string s) ∧ 1 ≤ s.size) ∧ Below wx.heap.size wx w') (hf : findI id L 0 = none) :
    Calls Tryz.prog 6 #[.agg #[v, .int .i64 nx], .agg #[.int .i64 5, .int .i64 mid, .int .i64 born, .string fr, .slice a3 n3 c3, .string bo, .int .i64 id, .int .i64 rc, .int .i64 vk, .int .i64 vc, .string vt, .int .i64 tr, .int .i64 due]] w fun e w' => (∃ u P', e = .returned (.tuple #[.agg #[u, .int .i64 nx], .bool false]) ∧ ItsP w' w.heap.size u L P') ∧ Below w.heap.size w w' := by
  have HP : Hid (placeI id L = -1) := by show _ = _; unfold placeI; rw [hf]
  clear hf
  obtain ⟨a1, c1, rfl⟩ := h.form
  have H : Hid (ItsP w lo (.slice a1 L.length c1) L P) := h
  have HS : Hid (∀ x ∈ L, SmallI x) := hs
  have HPK : Hid (∀ wx, Below w.heap.size w wx → Calls Tryz.prog 19 #[.agg #[.int .i64 5, .int .i64 mid, .int .i64 born, .string fr, .slice a3 n3 c3, .string bo, .int .i64 id, .int .i64 rc, .int .i64 vk, .int .i64 vc, .string vt, .int .i64 tr, .int .i64 due]] wx fun e w' => (∃ s : ByteArray, e = .returned (.string s) ∧ 1 ≤ s.size) ∧ Below wx.heap.size wx w') := hpk
  clear h hs hpk
  go_enter Tryz.func6, Tryz.ntmps6
  go_wp2_with fail
  generalize hW : World.alloc _ _ = W0
  have HQ0 : Hid (Blk w.heap.size #[.slice a1 L.length c1, .int .i64 nx] W0) := by show Blk _ _ _; rw [← hW]; exact (blk3I w _ _ _ _ _ _).1
  have HR0 : Hid (Blk (w.heap.size + 1) #[.int .i64 5, .int .i64 mid, .int .i64 born, .string fr, .slice a3 n3 c3, .string bo, .int .i64 id, .int .i64 rc, .int .i64 vk, .int .i64 vc, .string vt, .int .i64 tr, .int .i64 due] W0) := by show Blk _ _ _; rw [← hW]; exact (blk3I w _ _ _ _ _ _).2.1
  have HZ0 : Hid (Blk (w.heap.size + 1 + 1) #[.slice none 0 0, .int .i64 0] W0) := by show Blk _ _ _; rw [← hW]; exact (blk3I w _ _ _ _ _ _).2.2
  have b0 : Below w.heap.size w W0 := by rw [← hW]; exact below3 _ _ _ _
  have z0 : W0.heap.size = w.heap.size + 3 := by rw [← hW]; simp
  clear hW
  refine (specQueue _ nx L P lo _ (H.out.below b0 (Nat.le_refl _)) hL HS.out).mono ?_
  rintro e w1 ⟨⟨u, P1, rfl, S1⟩, hb1⟩
  obtain ⟨a5, c5, hf⟩ := S1.form
  subst hf
  have z1 := hb1.size
  have b1 : Below w.heap.size w w1 := b0.trans (hb1.mono b0.size)
  have HI1 : Hid (ItsP w1 W0.heap.size (.slice a5 L.length c5) L P1) := S1
  have HQ1 : Hid _ := HQ0.out.below hb1
  have HR1 : Hid _ := HR0.out.below hb1
  have HZ1 : Hid _ := HZ0.out.below hb1
  clear hb1 S1 HQ0 HR0 HZ0 b0
  have x0 : w1.cell? ⟨w.heap.size + 1, 0, none⟩ = some (.int .i64 5) := HR1.out.cell 0
  have x1 : w1.cell? ⟨w.heap.size + 1, 1, none⟩ = some (.int .i64 mid) := HR1.out.cell 1
  have x2 : w1.cell? ⟨w.heap.size + 1, 2, none⟩ = some (.int .i64 born) := HR1.out.cell 2
  have x3 : w1.cell? ⟨w.heap.size + 1, 3, none⟩ = some (.string fr) := HR1.out.cell 3
  have x4 : w1.cell? ⟨w.heap.size + 1, 4, none⟩ = some (.slice a3 n3 c3) := HR1.out.cell 4
  have x5 : w1.cell? ⟨w.heap.size + 1, 5, none⟩ = some (.string bo) := HR1.out.cell 5
  have x6 : w1.cell? ⟨w.heap.size + 1, 6, none⟩ = some (.int .i64 id) := HR1.out.cell 6
  have x7 : w1.cell? ⟨w.heap.size + 1, 7, none⟩ = some (.int .i64 rc) := HR1.out.cell 7
  have x8 : w1.cell? ⟨w.heap.size + 1, 8, none⟩ = some (.int .i64 vk) := HR1.out.cell 8
  have x9 : w1.cell? ⟨w.heap.size + 1, 9, none⟩ = some (.int .i64 vc) := HR1.out.cell 9
  have x10 : w1.cell? ⟨w.heap.size + 1, 10, none⟩ = some (.string vt) := HR1.out.cell 10
  have x11 : w1.cell? ⟨w.heap.size + 1, 11, none⟩ = some (.int .i64 tr) := HR1.out.cell 11
  have x12 : w1.cell? ⟨w.heap.size + 1, 12, none⟩ = some (.int .i64 due) := HR1.out.cell 12
  have lR1 : w.heap.size + 1 < w1.heap.size := HR1.out.lt
  go_wp2_with fail
  generalize hW : World.alloc _ _ = W2
  have HO2 : Hid (Blk w1.heap.size #[.slice a5 L.length c5, .int .i64 nx] W2) := by show Blk _ _ _; rw [← hW]; exact Blk.new w1 _ _
  have hb2 : Below w1.heap.size w1 W2 := by rw [← hW]; exact below1 _ _
  have z2 : W2.heap.size = w1.heap.size + 1 := by rw [← hW]; simp
  clear hW x0 x1 x2 x3 x4 x5 x6 x7 x8 x9 x10 x11 x12
  have b2 : Below w.heap.size w W2 := b1.trans (hb2.mono b1.size)
  refine (HPK.out _ b2).mono ?_
  rintro e w3 ⟨⟨s, rfl, hs⟩, hb3⟩
  have HSZ : Hid (1 ≤ s.size) := hs
  have z3 := hb3.size
  have b3 : Below w.heap.size w w3 := b2.trans (hb3.mono b2.size)
  have HQ : Hid (Blk w.heap.size #[.slice a1 L.length c1, .int .i64 nx] w3) := (HQ1.out.below hb2).below hb3
  have HR : Hid (Blk (w.heap.size + 1) #[.int .i64 5, .int .i64 mid, .int .i64 born, .string fr, .slice a3 n3 c3, .string bo, .int .i64 id, .int .i64 rc, .int .i64 vk, .int .i64 vc, .string vt, .int .i64 tr, .int .i64 due] w3) := (HR1.out.below hb2).below hb3
  have HZ : Hid (Blk (w.heap.size + 1 + 1) #[.slice none 0 0, .int .i64 0] w3) := (HZ1.out.below hb2).below hb3
  have HO : Hid (Blk w1.heap.size #[.slice a5 L.length c5, .int .i64 nx] w3) := HO2.out.below hb3
  have HI : Hid (ItsP w3 W0.heap.size (.slice a5 L.length c5) L P1) := (HI1.out.below hb2 (Nat.le_refl _)).below hb3 (Nat.le_refl _)
  have HN : Hid (NeB w1.heap.size (.slice a5 L.length c5) P1) := NeB.of HI1.out (Nat.le_refl _)
  have H3 : Hid (ItsP w3 lo (.slice a1 L.length c1) L P) := H.out.below b3 (Nat.le_refl _)
  clear hs hb2 hb3 b1 b2 HQ1 HR1 HZ1 HO2 HI1 H HPK
  have hln := list_ne (x := s) (by have := HSZ.out; omega)
  have hl2 := list_ne2 (x := s) (by have := HSZ.out; omega)
  have x0 : w3.cell? ⟨w.heap.size + 1, 0, none⟩ = some (.int .i64 5) := HR.out.cell 0
  have x6 : w3.cell? ⟨w.heap.size + 1, 6, none⟩ = some (.int .i64 id) := HR.out.cell 6
  have q0 : w3.cell? ⟨w.heap.size, 0, none⟩ = some (.slice a1 L.length c1) := HQ.out.cell 0
  have q1 : w3.cell? ⟨w.heap.size, 1, none⟩ = some (.int .i64 nx) := HQ.out.cell 1
  go_wp2_with fail
  refine (specFind _ nx id L P lo _ H3.out hL).mono ?_
  rw [HP.out]
  rintro e w4 ⟨rfl, hb4⟩
  have z4 := hb4.size
  have b4 : Below w.heap.size w w4 := b3.trans (hb4.mono b3.size)
  have HR4 : Hid (Blk (w.heap.size + 1) #[.int .i64 5, .int .i64 mid, .int .i64 born, .string fr, .slice a3 n3 c3, .string bo, .int .i64 id, .int .i64 rc, .int .i64 vk, .int .i64 vc, .string vt, .int .i64 tr, .int .i64 due] w4) := HR.out.below hb4
  have HZ4 : Hid (Blk (w.heap.size + 1 + 1) #[.slice none 0 0, .int .i64 0] w4) := HZ.out.below hb4
  have HO4 : Hid (Blk w1.heap.size #[.slice a5 L.length c5, .int .i64 nx] w4) := HO.out.below hb4
  have HI4 : Hid (ItsP w4 W0.heap.size (.slice a5 L.length c5) L P1) := HI.out.below hb4 (Nat.le_refl _)
  clear hb4 HR HZ HO HI H3 HQ b3 q0 q1 x0 x6 hln hl2 HSZ
  have r0 : w4.cell? ⟨w.heap.size + 1 + 1, 0, none⟩ = some (.slice none 0 0) := HZ4.out.cell 0
  have r1 : w4.cell? ⟨w.heap.size + 1 + 1, 1, none⟩ = some (.int .i64 0) := HZ4.out.cell 1
  have g0 := HZ4.out.free 0
  have g1 := HZ4.out.free 1
  have o0 : w4.cell? ⟨w1.heap.size, 0, none⟩ = some (.slice a5 L.length c5) := HO4.out.cell 0
  have o1 : w4.cell? ⟨w1.heap.size, 1, none⟩ = some (.int .i64 nx) := HO4.out.cell 1
  go_wp2
  refine bodyPost_ret (v := .tuple #[.agg #[.slice a5 L.length c5, .int .i64 nx], .bool false]) (by simp [results, Tryz.results6, go_sem, r0, r1]) rfl ?_
  refine ⟨⟨_, P1, rfl, ?_⟩, ?_⟩
  · refine ItsP.le (lo := W0.heap.size) ?_ (by omega)
    refine ItsP.setB (ItsP.setB ?_ (by dsimp only; omega) _) (by dsimp only; omega) _
    exact HI4.out
  · refine Below.setCell (Below.setCell ?_ (by dsimp only; omega) _) (by dsimp only; omega) _
    exact b4

set_option maxHeartbeats 8000000 in
set_option maxRecDepth 100000 in
theorem sa3yes (mid born : Int) (fr bo : ByteArray) (a3 : Option Addr) (n3 c3 : Nat) (id rc vk vc : Int) (vt : ByteArray) (tr due : Int) (nx : Int) (v : Value) (L : List It) (P : List (Value × Value)) (lo : Nat) (w : World) (h : ItsP w lo v L P) (hL : L.length ≤ 1048576) (hs : ∀ x ∈ L, SmallI x) (hpk : ∀ wx, Below w.heap.size w wx → Calls Tryz.prog 19 #[.agg #[.int .i64 3, .int .i64 mid, .int .i64 born, .string fr, .slice a3 n3 c3, .string bo, .int .i64 id, .int .i64 rc, .int .i64 vk, .int .i64 vc, .string vt, .int .i64 tr, .int .i64 due]] wx fun e w' => (∃ s : ByteArray, e = .returned (.string s) ∧ 1 ≤ s.size) ∧ Below wx.heap.size wx w') (i : Nat) (hf : findI id L 0 = some i) (hi : i < L.length) :
    Calls Tryz.prog 6 #[.agg #[v, .int .i64 nx], .agg #[.int .i64 3, .int .i64 mid, .int .i64 born, .string fr, .slice a3 n3 c3, .string bo, .int .i64 id, .int .i64 rc, .int .i64 vk, .int .i64 vc, .string vt, .int .i64 tr, .int .i64 due]] w fun e w' => (∃ u P', e = .returned (.tuple #[.agg #[u, .int .i64 nx], .bool true]) ∧ ItsP w' w.heap.size u (L.set i { L[i] with tr := tr, du := due }) P') ∧ Below w.heap.size w w' := by
  have HP : Hid (placeI id L = (i : Int)) := by show _ = _; unfold placeI; rw [hf]
  clear hf
  obtain ⟨a1, c1, rfl⟩ := h.form
  have H : Hid (ItsP w lo (.slice a1 L.length c1) L P) := h
  have HS : Hid (∀ x ∈ L, SmallI x) := hs
  have HPK : Hid (∀ wx, Below w.heap.size w wx → Calls Tryz.prog 19 #[.agg #[.int .i64 3, .int .i64 mid, .int .i64 born, .string fr, .slice a3 n3 c3, .string bo, .int .i64 id, .int .i64 rc, .int .i64 vk, .int .i64 vc, .string vt, .int .i64 tr, .int .i64 due]] wx fun e w' => (∃ s : ByteArray, e = .returned (.string s) ∧ 1 ≤ s.size) ∧ Below wx.heap.size wx w') := hpk
  clear h hs hpk
  go_enter Tryz.func6, Tryz.ntmps6
  go_wp2_with fail
  generalize hW : World.alloc _ _ = W0
  have HQ0 : Hid (Blk w.heap.size #[.slice a1 L.length c1, .int .i64 nx] W0) := by show Blk _ _ _; rw [← hW]; exact (blk3I w _ _ _ _ _ _).1
  have HR0 : Hid (Blk (w.heap.size + 1) #[.int .i64 3, .int .i64 mid, .int .i64 born, .string fr, .slice a3 n3 c3, .string bo, .int .i64 id, .int .i64 rc, .int .i64 vk, .int .i64 vc, .string vt, .int .i64 tr, .int .i64 due] W0) := by show Blk _ _ _; rw [← hW]; exact (blk3I w _ _ _ _ _ _).2.1
  have HZ0 : Hid (Blk (w.heap.size + 1 + 1) #[.slice none 0 0, .int .i64 0] W0) := by show Blk _ _ _; rw [← hW]; exact (blk3I w _ _ _ _ _ _).2.2
  have b0 : Below w.heap.size w W0 := by rw [← hW]; exact below3 _ _ _ _
  have z0 : W0.heap.size = w.heap.size + 3 := by rw [← hW]; simp
  clear hW
  refine (specQueue _ nx L P lo _ (H.out.below b0 (Nat.le_refl _)) hL HS.out).mono ?_
  rintro e w1 ⟨⟨u, P1, rfl, S1⟩, hb1⟩
  obtain ⟨a5, c5, hf⟩ := S1.form
  subst hf
  have z1 := hb1.size
  have b1 : Below w.heap.size w w1 := b0.trans (hb1.mono b0.size)
  have HI1 : Hid (ItsP w1 W0.heap.size (.slice a5 L.length c5) L P1) := S1
  have HQ1 : Hid _ := HQ0.out.below hb1
  have HR1 : Hid _ := HR0.out.below hb1
  have HZ1 : Hid _ := HZ0.out.below hb1
  clear hb1 S1 HQ0 HR0 HZ0 b0
  have x0 : w1.cell? ⟨w.heap.size + 1, 0, none⟩ = some (.int .i64 3) := HR1.out.cell 0
  have x1 : w1.cell? ⟨w.heap.size + 1, 1, none⟩ = some (.int .i64 mid) := HR1.out.cell 1
  have x2 : w1.cell? ⟨w.heap.size + 1, 2, none⟩ = some (.int .i64 born) := HR1.out.cell 2
  have x3 : w1.cell? ⟨w.heap.size + 1, 3, none⟩ = some (.string fr) := HR1.out.cell 3
  have x4 : w1.cell? ⟨w.heap.size + 1, 4, none⟩ = some (.slice a3 n3 c3) := HR1.out.cell 4
  have x5 : w1.cell? ⟨w.heap.size + 1, 5, none⟩ = some (.string bo) := HR1.out.cell 5
  have x6 : w1.cell? ⟨w.heap.size + 1, 6, none⟩ = some (.int .i64 id) := HR1.out.cell 6
  have x7 : w1.cell? ⟨w.heap.size + 1, 7, none⟩ = some (.int .i64 rc) := HR1.out.cell 7
  have x8 : w1.cell? ⟨w.heap.size + 1, 8, none⟩ = some (.int .i64 vk) := HR1.out.cell 8
  have x9 : w1.cell? ⟨w.heap.size + 1, 9, none⟩ = some (.int .i64 vc) := HR1.out.cell 9
  have x10 : w1.cell? ⟨w.heap.size + 1, 10, none⟩ = some (.string vt) := HR1.out.cell 10
  have x11 : w1.cell? ⟨w.heap.size + 1, 11, none⟩ = some (.int .i64 tr) := HR1.out.cell 11
  have x12 : w1.cell? ⟨w.heap.size + 1, 12, none⟩ = some (.int .i64 due) := HR1.out.cell 12
  have lR1 : w.heap.size + 1 < w1.heap.size := HR1.out.lt
  go_wp2_with fail
  generalize hW : World.alloc _ _ = W2
  have HO2 : Hid (Blk w1.heap.size #[.slice a5 L.length c5, .int .i64 nx] W2) := by show Blk _ _ _; rw [← hW]; exact Blk.new w1 _ _
  have hb2 : Below w1.heap.size w1 W2 := by rw [← hW]; exact below1 _ _
  have z2 : W2.heap.size = w1.heap.size + 1 := by rw [← hW]; simp
  clear hW x0 x1 x2 x3 x4 x5 x6 x7 x8 x9 x10 x11 x12
  have b2 : Below w.heap.size w W2 := b1.trans (hb2.mono b1.size)
  refine (HPK.out _ b2).mono ?_
  rintro e w3 ⟨⟨s, rfl, hs⟩, hb3⟩
  have HSZ : Hid (1 ≤ s.size) := hs
  have z3 := hb3.size
  have b3 : Below w.heap.size w w3 := b2.trans (hb3.mono b2.size)
  have HQ : Hid (Blk w.heap.size #[.slice a1 L.length c1, .int .i64 nx] w3) := (HQ1.out.below hb2).below hb3
  have HR : Hid (Blk (w.heap.size + 1) #[.int .i64 3, .int .i64 mid, .int .i64 born, .string fr, .slice a3 n3 c3, .string bo, .int .i64 id, .int .i64 rc, .int .i64 vk, .int .i64 vc, .string vt, .int .i64 tr, .int .i64 due] w3) := (HR1.out.below hb2).below hb3
  have HZ : Hid (Blk (w.heap.size + 1 + 1) #[.slice none 0 0, .int .i64 0] w3) := (HZ1.out.below hb2).below hb3
  have HO : Hid (Blk w1.heap.size #[.slice a5 L.length c5, .int .i64 nx] w3) := HO2.out.below hb3
  have HI : Hid (ItsP w3 W0.heap.size (.slice a5 L.length c5) L P1) := (HI1.out.below hb2 (Nat.le_refl _)).below hb3 (Nat.le_refl _)
  have HN : Hid (NeB w1.heap.size (.slice a5 L.length c5) P1) := NeB.of HI1.out (Nat.le_refl _)
  have H3 : Hid (ItsP w3 lo (.slice a1 L.length c1) L P) := H.out.below b3 (Nat.le_refl _)
  clear hs hb2 hb3 b1 b2 HQ1 HR1 HZ1 HO2 HI1 H HPK
  have hln := list_ne (x := s) (by have := HSZ.out; omega)
  have hl2 := list_ne2 (x := s) (by have := HSZ.out; omega)
  have x0 : w3.cell? ⟨w.heap.size + 1, 0, none⟩ = some (.int .i64 3) := HR.out.cell 0
  have x6 : w3.cell? ⟨w.heap.size + 1, 6, none⟩ = some (.int .i64 id) := HR.out.cell 6
  have q0 : w3.cell? ⟨w.heap.size, 0, none⟩ = some (.slice a1 L.length c1) := HQ.out.cell 0
  have q1 : w3.cell? ⟨w.heap.size, 1, none⟩ = some (.int .i64 nx) := HQ.out.cell 1
  go_wp2_with fail
  refine (specFind _ nx id L P lo _ H3.out hL).mono ?_
  rw [HP.out]
  rintro e w4 ⟨rfl, hb4⟩
  have z4 := hb4.size
  have b4 : Below w.heap.size w w4 := b3.trans (hb4.mono b3.size)
  have HR4 : Hid (Blk (w.heap.size + 1) #[.int .i64 3, .int .i64 mid, .int .i64 born, .string fr, .slice a3 n3 c3, .string bo, .int .i64 id, .int .i64 rc, .int .i64 vk, .int .i64 vc, .string vt, .int .i64 tr, .int .i64 due] w4) := HR.out.below hb4
  have HZ4 : Hid (Blk (w.heap.size + 1 + 1) #[.slice none 0 0, .int .i64 0] w4) := HZ.out.below hb4
  have HO4 : Hid (Blk w1.heap.size #[.slice a5 L.length c5, .int .i64 nx] w4) := HO.out.below hb4
  have HI4 : Hid (ItsP w4 W0.heap.size (.slice a5 L.length c5) L P1) := HI.out.below hb4 (Nat.le_refl _)
  clear hb4 HR HZ HO HI H3 HQ b3 q0 q1 x0 x6 hln hl2 HSZ
  obtain ⟨g, rfl⟩ : ∃ g, a5 = some ⟨g, 0, none⟩ := by
    rcases HI4.out.row.cases with ⟨_, hL0⟩ | ⟨g, cap, hv, hs⟩
    · have := congrArg List.length hL0; rw [irow_len HI4.out.len] at this; simp only [List.length_nil] at this; omega
    · injection hv with h1; exact ⟨g, h1⟩
  have hg := HI4.out.row.own g rfl
  have hgo : g ≠ w1.heap.size := HN.out.v g rfl
  have hPl := HI4.out.len
  have lO4 : w1.heap.size < w4.heap.size := HO4.out.lt
  have k1 : (0 : Int) ≤ (i : Int) := by omega
  have k2 : (i : Int) < (L.length : Int) := by omega
  have k3 : ¬ (i : Int) < 0 := by omega
  obtain ⟨y0, y1, y2, y3, y4, y5, y6, y7, y8⟩ := HI4.out.cells i hi
  have hS := HI4.out.str i hi
  have hV := HI4.out.vds i hi
  obtain ⟨p1, q1, e1⟩ := strs_formR hS
  obtain ⟨p2, q2, e2⟩ := vds_form hV
  rw [e1] at y3 hS
  rw [e2] at y5 hV
  have HS1 : Hid (Strs w4 W0.heap.size (.slice p1 L[i].R.length q1) L[i].R) := hS
  have HV1 : Hid (Vds w4 W0.heap.size (.slice p2 L[i].V.length q2) L[i].V) := hV
  have HE1 : Hid (P1[i]'(by omega) = (.slice p1 L[i].R.length q1, .slice p2 L[i].V.length q2)) := by show _ = _; rw [← e1, ← e2]
  clear hS hV e1 e2
  obtain ⟨X, HX⟩ : ∃ X, Hid (L[i] = X) := ⟨L[i], rfl⟩
  rw [HX.out] at y0 y1 y2 y3 y4 y5 y6 y7 y8 HS1 HV1 HE1
  have x0 : w4.cell? ⟨w.heap.size + 1, 0, none⟩ = some (.int .i64 3) := HR4.out.cell 0
  have o0 : w4.cell? ⟨w1.heap.size, 0, none⟩ = some (.slice (some ⟨g, 0, none⟩) L.length c5) := HO4.out.cell 0
  have lR4 : w.heap.size + 1 < w4.heap.size := HR4.out.lt
  go_upto_region 37 with fail
  have HNX4 := NeB.of HI4.out (Nat.le_refl _)
  generalize hW : World.alloc _ _ = W5
  have HX5 : Hid (Blk w4.heap.size #[.int .i64 X.id, .int .i64 X.born, .string X.fr, .slice p1 X.R.length q1, .string X.bo, .slice p2 X.V.length q2, .int .i64 X.tr, .int .i64 X.du, .bool X.bn] W5) := by show Blk _ _ _; rw [← hW]; exact Blk.new w4 _ _
  have hb5 : Below w4.heap.size w4 W5 := by rw [← hW]; exact below1 _ _
  have z5 : W5.heap.size = w4.heap.size + 1 := by rw [← hW]; simp
  clear hW y0 y1 y2 y3 y4 y5 y6 y7 y8 x0 o0
  have b5 : Below w.heap.size w W5 := b4.trans (hb5.mono b4.size)
  have HR5 : Hid (Blk (w.heap.size + 1) #[.int .i64 3, .int .i64 mid, .int .i64 born, .string fr, .slice a3 n3 c3, .string bo, .int .i64 id, .int .i64 rc, .int .i64 vk, .int .i64 vc, .string vt, .int .i64 tr, .int .i64 due] W5) := HR4.out.below hb5
  have HZ5 : Hid (Blk (w.heap.size + 1 + 1) #[.slice none 0 0, .int .i64 0] W5) := HZ4.out.below hb5
  have HO5 : Hid (Blk w1.heap.size #[.slice (some ⟨g, 0, none⟩) L.length c5, .int .i64 nx] W5) := HO4.out.below hb5
  have HI5 : Hid (ItsP W5 W0.heap.size (.slice (some ⟨g, 0, none⟩) L.length c5) L P1) := HI4.out.below hb5 (Nat.le_refl _)
  have HV5 : Hid (Vds W5 W0.heap.size (.slice p2 X.V.length q2) X.V) := vds_below HV1.out hb5 (Nat.le_refl _)
  have HS5 : Hid (Strs W5 W0.heap.size (.slice p1 X.R.length q1) X.R) := strs_below HS1.out hb5 (Nat.le_refl _)
  clear hb5 HR4 HZ4 HO4 HI4 HV1 HS1 b4
  have x11 : W5.cell? ⟨w.heap.size + 1, 11, none⟩ = some (.int .i64 tr) := HR5.out.cell 11
  have x12 : W5.cell? ⟨w.heap.size + 1, 12, none⟩ = some (.int .i64 due) := HR5.out.cell 12
  have t0 : W5.cell? ⟨w4.heap.size, 0, none⟩ = some (.int .i64 X.id) := HX5.out.cell 0
  have t1 : W5.cell? ⟨w4.heap.size, 1, none⟩ = some (.int .i64 X.born) := HX5.out.cell 1
  have t2 : W5.cell? ⟨w4.heap.size, 2, none⟩ = some (.string X.fr) := HX5.out.cell 2
  have t3 : W5.cell? ⟨w4.heap.size, 3, none⟩ = some (.slice p1 X.R.length q1) := HX5.out.cell 3
  have t4 : W5.cell? ⟨w4.heap.size, 4, none⟩ = some (.string X.bo) := HX5.out.cell 4
  have t5 : W5.cell? ⟨w4.heap.size, 5, none⟩ = some (.slice p2 X.V.length q2) := HX5.out.cell 5
  have t6 : W5.cell? ⟨w4.heap.size, 6, none⟩ = some (.int .i64 X.tr) := HX5.out.cell 6
  have t7 : W5.cell? ⟨w4.heap.size, 7, none⟩ = some (.int .i64 X.du) := HX5.out.cell 7
  have t8 : W5.cell? ⟨w4.heap.size, 8, none⟩ = some (.bool X.bn) := HX5.out.cell 8
  have HNX : Hid (NeB w4.heap.size (.slice (some ⟨g, 0, none⟩) L.length c5) P1) := HNX4
  clear HNX4
  have n1 : w4.heap.size ≠ g := by omega
  have n2 : g ≠ w4.heap.size := by omega
  have n3 : w.heap.size + 1 ≠ w4.heap.size := by omega
  have n4 : w1.heap.size ≠ w4.heap.size := by omega
  have n5 : w1.heap.size ≠ g := Ne.symm hgo
  have n6 : w.heap.size + 1 + 1 ≠ w4.heap.size := by omega
  have n7 : w.heap.size + 1 + 1 ≠ g := by omega
  have ft := HX5.out.free
  have fg : ∀ o, W5.frozen? ⟨g, o, none⟩ = false := HI5.out.row.at.1.free
  have o0 : W5.cell? ⟨w1.heap.size, 0, none⟩ = some (.slice (some ⟨g, 0, none⟩) L.length c5) := HO5.out.cell 0
  have o1 : W5.cell? ⟨w1.heap.size, 1, none⟩ = some (.int .i64 nx) := HO5.out.cell 1
  have r0 : W5.cell? ⟨w.heap.size + 1 + 1, 0, none⟩ = some (.slice none 0 0) := HZ5.out.cell 0
  have r1 : W5.cell? ⟨w.heap.size + 1 + 1, 1, none⟩ = some (.int .i64 0) := HZ5.out.cell 1
  have g0 := HZ5.out.free 0
  have g1 := HZ5.out.free 1
  obtain ⟨u0, u1, u2, u3, u4, u5, u6, u7, u8⟩ := HI5.out.cells i hi
  go_wp2
  refine bodyPost_ret (v := .tuple #[.agg #[.slice (some ⟨g, 0, none⟩) L.length c5, .int .i64 nx], .bool true]) (by simp [results, Tryz.results6, go_sem, r0, r1]) rfl ?_
  refine ⟨⟨_, P1, rfl, ?_⟩, ?_⟩
  · refine ItsP.le (lo := W0.heap.size) ?_ (by omega)
    refine ItsP.setB (ItsP.setB ?_ (by dsimp only; omega) _) (by dsimp only; omega) _
    have hd := (HI5.out.setNe (a := ⟨w4.heap.size, 6, none⟩) (HNX.out) (.int .i64 tr)).setNe (a := ⟨w4.heap.size, 7, none⟩) (HNX.out) (.int .i64 due)
    have := hd.put hi { L[i] with tr := tr, du := due } (.slice p1 X.R.length q1, .slice p2 X.V.length q2) HE1.out rfl rfl
    rw [HX.out] at this ⊢
    exact this
  · refine Below.setCell (Below.setCell ?_ (by dsimp only; omega) _) (by dsimp only; omega) _
    repeat (refine Below.setCell ?_ (by dsimp only; omega) _)
    exact b5
end Go.Proofs.YtlolnfpfipnfeaaGreat
