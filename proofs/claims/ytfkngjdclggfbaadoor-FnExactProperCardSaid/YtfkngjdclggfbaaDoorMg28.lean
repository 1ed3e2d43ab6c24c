import Derived.Test.YtfkngjdclggfbaaDoorMg27
import Derived.Test.YtfkngjdclggfbaaDoorMg3
import Derived.Test.YtfkngjdclggfbaaDoorMg8
namespace Go.Proofs.YtfkngjdclggfbaaDoor
open Go.ChangeShapes Go.WideShapes Go.ChangeAt Go.RowKit

/-- all parts of a session that a law looks at are small -/
def Small9 (buf he fr bo : ByteArray) (R : List ByteArray) (T : List Bool) (V : List Vd) : Prop :=
  buf.size ≤ 1048576 ∧ he.size ≤ 1048576 ∧ fr.size ≤ 1048576 ∧ bo.size ≤ 1048576 ∧ R.length ≤ 1048576 ∧ (∀ s ∈ R, s.size ≤ 1048576) ∧ T.length ≤ 1048576 ∧ V.length ≤ 1048576 ∧ ∀ x ∈ V, x.2.2.size ≤ 1048576
theorem sum_all {L : List ByteArray} {n : Nat} (h : sumSz L ≤ n) : ∀ s ∈ L, s.size ≤ n := by
  intro s hs
  obtain ⟨k, hk, rfl⟩ := List.getElem_of_mem hs
  have := sumSz_take L k hk
  have := sumSz_take_le L (k + 1)
  omega

set_option maxHeartbeats 2000000 in
set_option maxRecDepth 100000 in
theorem szSess (ph nx : Int) (buf he fr bo : ByteArray) (v5 v7 v8 : Value) (R : List ByteArray) (T : List Bool) (V : List Vd) (w : World) (h5 : ArgS w v5 R) (h7 : ArgB w v7 T) (h8 : ArgV w v8 V) (m1 : buf.size ≤ maxLen) (m2 : he.size ≤ maxLen) (m3 : fr.size ≤ maxLen) (m4 : bo.size ≤ maxLen) :
    Calls Tryd.prog 14 #[.agg #[.int .i64 ph, .string buf, .string he, .string fr, .string bo, v5, .int .i64 nx, v7, v8], .int .i64 1048576] w fun e w' => (∃ r : Int, e = .returned (.int .i64 r) ∧ (r < 0 ∨ (0 ≤ r ∧ r ≤ 1048576 ∧ Small9 buf he fr bo R T V))) ∧ Below w.heap.size w w' := by
  unfold maxLen at m1 m2 m3 m4
  have H5 : Hid (ArgS w v5 R) := h5
  have H7 : Hid (ArgB w v7 T) := h7
  have H8 : Hid (ArgV w v8 V) := h8
  obtain ⟨a5, c5, rfl⟩ := h5.form
  obtain ⟨a7, c7, rfl⟩ := h7.form
  obtain ⟨a8, c8, rfl⟩ := h8.form
  clear h5 h7 h8
  by_cases d1 : (1048576 : Int) - buf.size < 0
  · go_enter Tryd.func14, Tryd.ntmps14
    go_wp2
    go_ret
    exact ⟨⟨_, rfl, .inl (by decide)⟩, below1 _ _⟩
  by_cases d2 : (1048576 : Int) - buf.size - he.size < 0
  · go_enter Tryd.func14, Tryd.ntmps14
    go_wp2
    go_ret
    exact ⟨⟨_, rfl, .inl (by decide)⟩, below1 _ _⟩
  by_cases d3 : (1048576 : Int) - buf.size - he.size - fr.size < 0
  · go_enter Tryd.func14, Tryd.ntmps14
    go_wp2
    go_ret
    exact ⟨⟨_, rfl, .inl (by decide)⟩, below1 _ _⟩
  by_cases d4 : (1048576 : Int) - buf.size - he.size - fr.size - bo.size < 0
  · go_enter Tryd.func14, Tryd.ntmps14
    go_wp2
    go_ret
    exact ⟨⟨_, rfl, .inl (by decide)⟩, below1 _ _⟩
  go_enter Tryd.func14, Tryd.ntmps14
  go_wp2_with fail
  generalize hW : w.alloc _ = W
  have hA : Hid (Blk w.heap.size #[.int .i64 ph, .string buf, .string he, .string fr, .string bo, .slice a5 R.length c5, .int .i64 nx, .slice a7 T.length c7, .slice a8 V.length c8] W) := by show Blk _ _ _; rw [← hW]; exact Blk.new w _ _
  have bw : Below w.heap.size w W := by rw [← hW]; exact below1 _ _
  clear hW
  refine (szStrs _ R ((1048576 : Int) - buf.size - he.size - fr.size - bo.size) _ (H5.out.below bw) (by omega) (by omega)).mono ?_
  rintro e wz ⟨r, rfl, hr, hwz⟩
  rw [hwz]
  clear hwz
  by_cases hr0 : r < 0
  · go_wp2
    go_ret
    exact ⟨⟨_, rfl, .inl (by decide)⟩, bw⟩
  have hR1 : R.length ≤ 1048576 ∧ sumSz R ≤ 1048576 ∧ r ≤ 1048576 := by rcases hr with h | h <;> first | omega | exact ⟨by omega, by omega, by omega⟩
  clear hr
  have x7 : W.cell? ⟨w.heap.size, 7, none⟩ = some (.slice a7 T.length c7) := hA.out.cell 7
  go_wp2_with fail
  refine (szBls _ T r _ (H7.out.below bw) (by omega) (by omega)).mono ?_
  rintro e w1 ⟨⟨r1, rfl, hr1⟩, hb1⟩
  have b1 : Below w.heap.size w w1 := bw.trans (hb1.mono bw.size)
  have hA1 : Hid _ := hA.out.below hb1
  clear hb1 x7 hA
  by_cases hr2 : r1 < 0
  · go_wp2
    go_ret
    exact ⟨⟨_, rfl, .inl (by decide)⟩, b1⟩
  have hT1 : 0 ≤ r1 ∧ r1 ≤ r ∧ (T.length : Int) ≤ r := by rcases hr1 with h | h <;> first | omega | exact h
  clear hr1
  have x8 : w1.cell? ⟨w.heap.size, 8, none⟩ = some (.slice a8 V.length c8) := hA1.out.cell 8
  go_wp2_with fail
  refine (szVds _ V r1 _ (H8.out.below b1) (by omega) (by omega)).mono ?_
  rintro e w2 ⟨⟨r2, rfl, hr3⟩, hb2⟩
  have b2 : Below w.heap.size w w2 := b1.trans (hb2.mono b1.size)
  clear hb2 x8 hA1
  by_cases hr4 : r2 < 0
  · go_wp2
    go_ret
    exact ⟨⟨_, rfl, .inl (by decide)⟩, b2⟩
  have HV1 : Hid (0 ≤ r2 ∧ r2 ≤ r1 ∧ (V.length : Int) ≤ r1 ∧ ∀ x ∈ V, (x.2.2.size : Int) ≤ r1) := by obtain ⟨h1, h2, h3, h4⟩ := hr3.resolve_left hr4; exact ⟨h1, by omega, h3, h4⟩
  clear hr3
  go_wp2
  go_ret
  refine ⟨⟨r2, rfl, .inr ⟨by omega, by have := HV1.out.2.1; omega, ?_⟩⟩, b2⟩
  have h3 := HV1.out.2.2.1
  exact ⟨by omega, by omega, by omega, by omega, by omega, sum_all hR1.2.1, by omega, by omega, fun x hx => by have := HV1.out.2.2.2 x hx; omega⟩

set_option maxRecDepth 100000 in
theorem openStrsT {H : Type} {enc : TypeId × Value → H} {W : World} {fuel : Nat} {v : Value} {y : DataW H × List MemPlace} (hf : DataW.trod enc Tryd.prog W 0 (fun _ => true) true fuel 22 [v] = some y) : ∃ L, ArgS W v L := by
  rcases open_strings Tryd.underlying22 Tryd.underlying9 (by kernel_rfl) hf with ⟨hcs, _⟩ | ⟨a, len, cap, ss, hcs, _, hl, hm, hz, _, hcell, hws⟩
  · simp only [List.cons.injEq, and_true] at hcs
    subst hcs
    exact ⟨[], Nat.zero_le _, (fun s hs => by cases hs), .inl ⟨rfl, _, _, rfl⟩⟩
  · simp only [List.cons.injEq, and_true] at hcs
    subst hcs
    have hz' : ss.length = cap := by simpa using hz
    by_cases h0 : len = 0
    · subst h0
      exact ⟨[], Nat.zero_le _, (fun s hs => by cases hs), .inl ⟨rfl, _, _, rfl⟩⟩
    · obtain ⟨b, off, spot⟩ := a
      have hc0 := hcell 0 (by omega)
      have hspot : spot = none := by simpa [Addr.add] using World.cell?_spot hc0
      subst hspot
      have hlt : (ss.take len).length = len := by simp; omega
      have ea : ∀ i, (⟨b, off, none⟩ : Addr).add i = ⟨b, off + i, none⟩ := fun i => by by_cases hi0 : i = 0 <;> simp [Addr.add, hi0]
      rw [ea] at hc0
      refine ⟨ss.take len, by rw [hlt]; omega, fun s hs => hws s (List.mem_of_mem_take hs), .inr ⟨b, off, cap, by rw [hlt], block_of hc0, fun i hi => ?_⟩⟩
      rw [hlt] at hi
      have hci := hcell i (by omega)
      rw [ea] at hci
      rw [hci]
      congr 2
      rw [List.getD_eq_getElem?_getD, List.getElem?_eq_getElem (by omega)]
      simp

set_option maxRecDepth 100000 in
theorem openSess {H : Type} {enc : TypeId × Value → H} {W : World} {b0 : Nat} {v : Value} {d : DataW H} {p : List MemPlace} (hv : Value.okWide Tryd.prog W .any b0 36 v) (h : DataW.Trod enc Tryd.prog W 0 (fun _ => true) true 36 v d p) :
    ∃ (ph nx : Int) (buf he fr bo : ByteArray) (v5 v7 v8 : Value) (R : List ByteArray) (T : List Bool) (V : List Vd), v = .agg #[.int .i64 ph, .string buf, .string he, .string fr, .string bo, v5, .int .i64 nx, v7, v8] ∧ (ArgS W v5 R ∧ ArgB W v7 T ∧ ArgV W v8 V) ∧ buf.size ≤ maxLen ∧ he.size ≤ maxLen ∧ fr.size ≤ maxLen ∧ bo.size ≤ maxLen := by
  obtain ⟨v0, v1, v2, v3, v4, v5, v6, v7, v8, y0, y1, y2, y3, y4, y5, y6, y7, y8, n, rfl, h0, h1, h2, h3, h4, h5, h6, h7, h8⟩ := open_agg9 Tryd.underlying36 (by kernel_rfl) (by kernel_rfl) hv h
  obtain ⟨ph, e0, _⟩ := DataW.trod_int Tryd.underlying3 h0
  obtain ⟨buf, e1, _, s1⟩ := DataW.trod_string Tryd.underlying9 h1
  obtain ⟨he, e2, _, s2⟩ := DataW.trod_string Tryd.underlying9 h2
  obtain ⟨fr, e3, _, s3⟩ := DataW.trod_string Tryd.underlying9 h3
  obtain ⟨bo, e4, _, s4⟩ := DataW.trod_string Tryd.underlying9 h4
  obtain ⟨nx, e6, _⟩ := DataW.trod_int Tryd.underlying3 h6
  obtain ⟨R, hR⟩ := openStrsT h5
  obtain ⟨T, hT⟩ := openBls h7
  obtain ⟨V, hV⟩ := openVds h8
  simp only [List.cons.injEq, and_true] at e0 e1 e2 e3 e4 e6
  subst e0 e1 e2 e3 e4 e6
  exact ⟨ph, nx, buf, he, fr, bo, v5, v7, v8, R, T, V, rfl, ⟨hR, hT, hV⟩, s1, s2, s3, s4⟩
end Go.Proofs.YtfkngjdclggfbaaDoor
namespace Go.Proofs.YtfkngjdclggfbaaDoor
open Go.ChangeShapes Go.WideShapes Go.ChangeAt Go.RowKit

def codeOk (c : Int) : Bool := decide (c = 0) || (decide (200 ≤ c) && decide (c ≤ 599))

set_option maxHeartbeats 1000000 in
set_option maxRecDepth 100000 in
theorem specCode (c : Int) (w : World) : Calls Tryd.prog 34 #[.int .i64 c] w fun e w' => e = .returned (.bool (codeOk c)) ∧ Below w.heap.size w w' := by
  by_cases h0 : c = 0
  · subst h0
    go_enter Tryd.func34, Tryd.ntmps34
    go_wp2
    go_ret
    exact ⟨rfl, Below.refl _ _⟩
  · have h0b : (c == 0) = false := beq_eq_false_iff_ne.2 h0
    have G0 : Hid (codeOk c = (decide (200 ≤ c) && decide (c ≤ 599))) := by show _ = _; unfold codeOk; rw [decide_eq_false h0]; rfl
    by_cases h1 : 200 ≤ c
    · by_cases h2 : c ≤ 599
      · have G : Hid (codeOk c = true) := by show _ = _; rw [G0.out, decide_eq_true h1, decide_eq_true h2]; rfl
        go_enter Tryd.func34, Tryd.ntmps34
        go_wp2
        go_ret
        exact ⟨ret_bool G.out.symm, Below.refl _ _⟩
      · have G : Hid (codeOk c = false) := by show _ = _; rw [G0.out, decide_eq_false h2]; simp
        go_enter Tryd.func34, Tryd.ntmps34
        go_wp2
        go_ret
        exact ⟨ret_bool G.out.symm, Below.refl _ _⟩
    · have G : Hid (codeOk c = false) := by show _ = _; rw [G0.out, decide_eq_false h1]; rfl
      go_enter Tryd.func34, Tryd.ntmps34
      go_wp2
      go_ret
      exact ⟨ret_bool G.out.symm, Below.refl _ _⟩

set_option maxHeartbeats 1000000 in
set_option maxRecDepth 100000 in
theorem implCode (c : Int) (w : World) : Calls Tryd.prog 50 #[.int .i64 c] w fun e w' => e = .returned (.bool (codeOk c)) ∧ Below w.heap.size w w' := by
  by_cases h0 : c = 0
  · subst h0
    go_enter Tryd.func50, Tryd.ntmps50
    go_wp2
    go_ret
    exact ⟨rfl, Below.refl _ _⟩
  · have h0b : (c == 0) = false := beq_eq_false_iff_ne.2 h0
    have G0 : Hid (codeOk c = (decide (200 ≤ c) && decide (c ≤ 599))) := by show _ = _; unfold codeOk; rw [decide_eq_false h0]; rfl
    by_cases h1 : 200 ≤ c
    · by_cases h2 : c ≤ 599
      · have G : Hid (codeOk c = true) := by show _ = _; rw [G0.out, decide_eq_true h1, decide_eq_true h2]; rfl
        go_enter Tryd.func50, Tryd.ntmps50
        go_wp2
        go_ret
        exact ⟨ret_bool G.out.symm, Below.refl _ _⟩
      · have G : Hid (codeOk c = false) := by show _ = _; rw [G0.out, decide_eq_false h2]; simp
        go_enter Tryd.func50, Tryd.ntmps50
        go_wp2
        go_ret
        exact ⟨ret_bool G.out.symm, Below.refl _ _⟩
    · have G : Hid (codeOk c = false) := by show _ = _; rw [G0.out, decide_eq_false h1]; rfl
      go_enter Tryd.func50, Tryd.ntmps50
      go_wp2
      go_ret
      exact ⟨ret_bool G.out.symm, Below.refl _ _⟩

set_option maxHeartbeats 1000000 in
set_option maxRecDepth 100000 in
theorem implReason (x : Vd) (w : World) (hx : x.2.2.size ≤ 1048576) :
    Calls Tryd.prog 38 #[.agg #[.int .i64 x.1, .int .i64 x.2.1, .string x.2.2]] w fun e w' => e = .returned (.bool (codeOk x.2.1 && decide (x.2.2.size ≤ 512))) ∧ Below w.heap.size w w' := by
  have H1 : Hid (codeOk x.2.1 = false → (codeOk x.2.1 && decide (x.2.2.size ≤ 512)) = false) := fun h => by rw [h]; rfl
  have H2 : Hid (codeOk x.2.1 = true → (codeOk x.2.1 && decide (x.2.2.size ≤ 512)) = decide (x.2.2.size ≤ 512)) := fun h => by rw [h]; rfl
  generalize (codeOk x.2.1 && decide (x.2.2.size ≤ 512)) = BB at *
  go_enter Tryd.func38, Tryd.ntmps38
  go_wp2_with fail
  refine (implCode x.2.1 _).mono ?_
  rintro e w1 ⟨rfl, hb1⟩
  have b1 : Below w.heap.size w w1 := (below1 w _).trans (hb1.mono (by simp))
  have z2 : w1.cell? ⟨w.heap.size, 2, none⟩ = some (.string x.2.2) := (hb1.cell (p := ⟨w.heap.size, 2, none⟩) (by simp)).trans (World.cell?_alloc_mark _ _ _ _ _)
  clear hb1
  have hcd : codeOk x.2.1 = false ∨ codeOk x.2.1 = true := by cases codeOk x.2.1 <;> simp
  rcases hcd with hcd | hcd
  · have G : Hid (BB = false) := H1.out hcd
    rw [hcd]
    go_wp2
    go_ret
    exact ⟨ret_bool G.out.symm, b1⟩
  · rw [hcd]
    by_cases d : x.2.2.size ≤ 512
    · have di : (x.2.2.size : Int) ≤ 512 := by omega
      have G : Hid (BB = true) := (H2.out hcd).trans (decide_eq_true d)
      clear H1 H2
      go_wp2
      go_ret
      exact ⟨ret_bool G.out.symm, b1⟩
    · have di : ¬ (x.2.2.size : Int) ≤ 512 := by omega
      have G : Hid (BB = false) := (H2.out hcd).trans (decide_eq_false d)
      clear H1 H2
      go_wp2
      go_ret
      exact ⟨ret_bool (by rw [G.out]; exact decide_eq_false (by omega)), b1⟩
end Go.Proofs.YtfkngjdclggfbaaDoor
