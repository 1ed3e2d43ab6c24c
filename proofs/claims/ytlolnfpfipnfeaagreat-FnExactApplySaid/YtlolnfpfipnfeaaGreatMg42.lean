import Derived.Test.YtlolnfpfipnfeaaGreatMg41
import Derived.Deep.RegionLaw
import Derived.Deep.RegionWith
import Derived.Deep.DrawnRows
namespace Go.Proofs.YtlolnfpfipnfeaaGreat
open Go.ChangeShapes Go.WideShapes Go.ChangeAt Go.RowKit
attribute [local go_sem ↓] Go.wp_at_zero Go.wp_at_succ

set_option maxHeartbeats 4000000 in
set_option maxRecDepth 100000 in
theorem ap5no (id : Int) (b : Nat) (nx : Int) (v : Value) (L : List It) (P : List (Value × Value)) (lo : Nat) (w : World) (hB : Blk b #[v, .int .i64 nx] w) (h : ItsP w lo v L P) (hlw : lo ≤ w.heap.size) (hL : L.length ≤ 1048576) (hf : findI id L 0 = none) :
    Calls Tryz.prog 151 #[.agg #[.int .i64 id], .pointer (some ⟨b, 0, none⟩)] w fun e w' => e = .returned (.bool false) ∧ (∃ v' P', Blk b #[v', .int .i64 nx] w' ∧ ItsP w' lo v' L P') ∧ Kp b lo w w' := by
  obtain ⟨a1, c1, rfl⟩ := h.form
  have H : Hid (ItsP w lo (.slice a1 L.length c1) L P) := h
  have HQ : Hid (Blk b #[.slice a1 L.length c1, .int .i64 nx] w) := hB
  have lb : b < w.heap.size := hB.lt
  clear h hB
  have HP : Hid (placeI id L = -1) := placeI_none hf
  go_enter Tryz.func151, Tryz.ntmps151
  go_wp2_with fail
  generalize hW : World.alloc _ _ = W0
  have b0 : Below w.heap.size w W0 := by rw [← hW]; exact below1 _ _
  clear hW
  refine (implPlace b _ nx id L P lo _ (HQ.out.below b0) (H.out.below b0 (Nat.le_refl _)) hL).mono ?_
  rw [HP.out]
  rintro e w1 ⟨rfl, hb1⟩
  go_wp2
  go_ret
  have b1 := b0.trans (hb1.mono b0.size)
  exact ⟨rfl, ⟨_, P, HQ.out.below b1, H.out.below b1 (Nat.le_refl _)⟩, Kp.of (b1.mono (by omega))⟩

set_option maxHeartbeats 4000000 in
set_option maxRecDepth 100000 in
theorem ap5was (id : Int) (b : Nat) (nx : Int) (v : Value) (L : List It) (P : List (Value × Value)) (lo : Nat) (w : World) (hB : Blk b #[v, .int .i64 nx] w) (h : ItsP w lo v L P) (hlw : lo ≤ w.heap.size) (hL : L.length ≤ 1048576) (i : Nat) (hf : findI id L 0 = some i) (hi0 : i < L.length) (hV : L[i].V.length ≤ 1048576) (hany : L[i].V.any pend = true) :
    Calls Tryz.prog 151 #[.agg #[.int .i64 id], .pointer (some ⟨b, 0, none⟩)] w fun e w' => e = .returned (.bool false) ∧ (∃ v' P', Blk b #[v', .int .i64 nx] w' ∧ ItsP w' lo v' L P') ∧ Kp b lo w w' := by
  have HAN : Hid (L[i].V.any pend = true) := hany
  have HVL : Hid (L[i].V.length ≤ 1048576) := hV
  clear hany hV
  obtain ⟨a1, c1, rfl⟩ := h.form
  have H : Hid (ItsP w lo (.slice a1 L.length c1) L P) := h
  have HQ : Hid (Blk b #[.slice a1 L.length c1, .int .i64 nx] w) := hB
  have lb : b < w.heap.size := hB.lt
  clear h hB
  obtain ⟨_, hi, _⟩ := placeI_some hf
  obtain ⟨g, rfl⟩ : ∃ g, a1 = some ⟨g, 0, none⟩ := by
    rcases H.out.row.cases with ⟨_, hL0⟩ | ⟨g, cap, hv, hs⟩
    · have := congrArg List.length hL0; rw [irow_len H.out.len] at this; simp only [List.length_nil] at this; omega
    · injection hv with h1; exact ⟨g, h1⟩
  have hg : lo ≤ g ∧ g < w.heap.size := H.out.row.own g rfl
  have hPl := H.out.len
  have HP : Hid (placeI id L = (i : Int)) := (placeI_some hf).1
  go_enter Tryz.func151, Tryz.ntmps151
  go_wp2_with fail
  generalize hW : World.alloc _ _ = W0
  have b0 : Below w.heap.size w W0 := by rw [← hW]; exact below1 _ _
  clear hW
  refine (implPlace b _ nx id L P lo _ (HQ.out.below b0) (H.out.below b0 (Nat.le_refl _)) hL).mono ?_
  rw [HP.out]
  rintro e w1 ⟨rfl, hb1⟩
  have b1 : Below w.heap.size w w1 := b0.trans (hb1.mono b0.size)
  have H1 : Hid (ItsP w1 lo (.slice (some ⟨g, 0, none⟩) L.length c1) L P) := H.out.below b1 (Nat.le_refl _)
  have HQ1 : Hid (Blk b #[.slice (some ⟨g, 0, none⟩) L.length c1, .int .i64 nx] w1) := HQ.out.below b1
  obtain ⟨x0, x1, x2, x3, x4, x5, x6, x7, x8⟩ := H1.out.cells i hi
  have hVv := H1.out.vds i hi
  obtain ⟨p2, q2, e2⟩ := vds_form hVv
  rw [e2] at x5 hVv
  have HVv : Hid (Vds w1 lo (.slice p2 L[i].V.length q2) L[i].V) := hVv
  have y0 : w1.cell? ⟨b, 0, none⟩ = some (.slice (some ⟨g, 0, none⟩) L.length c1) := HQ1.out.cell 0
  clear hb1 H HQ b0 x0 x1 x2 x3 x4 x6 x7 x8 hVv e2
  have k1 : (0 : Int) ≤ (i : Int) := by omega
  have k2 : (i : Int) < (L.length : Int) := by omega
  have k3 : ¬ (i : Int) < 0 := by omega
  go_wp2_with fail
  refine (implAnyP _ L[i].V lo _ HVv.out HVL.out).mono ?_
  rw [HAN.out]
  rintro e w2 ⟨rfl, hb2⟩
  have b2 : Below w.heap.size w w2 := b1.trans (hb2.mono b1.size)
  have H2 : Hid (ItsP w2 lo (.slice (some ⟨g, 0, none⟩) L.length c1) L P) := H1.out.below hb2 (Nat.le_refl _)
  have HQ2 : Hid (Blk b #[.slice (some ⟨g, 0, none⟩) L.length c1, .int .i64 nx] w2) := HQ1.out.below hb2
  clear hb2 H1 HQ1 HVv x5 y0 b1
  clear k1 k2 k3
  go_wp2
  go_ret
  exact ⟨rfl, ⟨_, P, HQ2.out, H2.out⟩, Kp.of (b2.mono (by omega))⟩

set_option maxHeartbeats 4000000 in
set_option maxRecDepth 100000 in
theorem ap5yes (id : Int) (b : Nat) (nx : Int) (v : Value) (L : List It) (P : List (Value × Value)) (lo : Nat) (w : World) (hB : Blk b #[v, .int .i64 nx] w) (h : ItsP w lo v L P) (hlw : lo ≤ w.heap.size) (hlo : b < lo) (hL : L.length ≤ 1048576) (i : Nat) (hf : findI id L 0 = some i) (hi0 : i < L.length) (hV : L[i].V.length ≤ 1048576) (hany : L[i].V.any pend = false) :
    Calls Tryz.prog 151 #[.agg #[.int .i64 id], .pointer (some ⟨b, 0, none⟩)] w fun e w' => e = .returned (.bool true) ∧ (∃ v' P', Blk b #[v', .int .i64 nx] w' ∧ ItsP w' lo v' (L.eraseIdx i) P') ∧ Kp b lo w w' := by
  have HAN : Hid (L[i].V.any pend = false) := hany
  have HVL : Hid (L[i].V.length ≤ 1048576) := hV
  clear hany hV
  obtain ⟨a1, c1, rfl⟩ := h.form
  have H : Hid (ItsP w lo (.slice a1 L.length c1) L P) := h
  have HQ : Hid (Blk b #[.slice a1 L.length c1, .int .i64 nx] w) := hB
  have lb : b < w.heap.size := hB.lt
  clear h hB
  obtain ⟨_, hi, _⟩ := placeI_some hf
  obtain ⟨g, rfl⟩ : ∃ g, a1 = some ⟨g, 0, none⟩ := by
    rcases H.out.row.cases with ⟨_, hL0⟩ | ⟨g, cap, hv, hs⟩
    · have := congrArg List.length hL0; rw [irow_len H.out.len] at this; simp only [List.length_nil] at this; omega
    · injection hv with h1; exact ⟨g, h1⟩
  have hg : lo ≤ g ∧ g < w.heap.size := H.out.row.own g rfl
  have hPl := H.out.len
  have HP : Hid (placeI id L = (i : Int)) := (placeI_some hf).1
  go_enter Tryz.func151, Tryz.ntmps151
  go_wp2_with fail
  generalize hW : World.alloc _ _ = W0
  have b0 : Below w.heap.size w W0 := by rw [← hW]; exact below1 _ _
  clear hW
  refine (implPlace b _ nx id L P lo _ (HQ.out.below b0) (H.out.below b0 (Nat.le_refl _)) hL).mono ?_
  rw [HP.out]
  rintro e w1 ⟨rfl, hb1⟩
  have b1 : Below w.heap.size w w1 := b0.trans (hb1.mono b0.size)
  have H1 : Hid (ItsP w1 lo (.slice (some ⟨g, 0, none⟩) L.length c1) L P) := H.out.below b1 (Nat.le_refl _)
  have HQ1 : Hid (Blk b #[.slice (some ⟨g, 0, none⟩) L.length c1, .int .i64 nx] w1) := HQ.out.below b1
  obtain ⟨x0, x1, x2, x3, x4, x5, x6, x7, x8⟩ := H1.out.cells i hi
  have hVv := H1.out.vds i hi
  obtain ⟨p2, q2, e2⟩ := vds_form hVv
  rw [e2] at x5 hVv
  have HVv : Hid (Vds w1 lo (.slice p2 L[i].V.length q2) L[i].V) := hVv
  have y0 : w1.cell? ⟨b, 0, none⟩ = some (.slice (some ⟨g, 0, none⟩) L.length c1) := HQ1.out.cell 0
  clear hb1 H HQ b0 x0 x1 x2 x3 x4 x6 x7 x8 hVv e2
  have k1 : (0 : Int) ≤ (i : Int) := by omega
  have k2 : (i : Int) < (L.length : Int) := by omega
  have k3 : ¬ (i : Int) < 0 := by omega
  go_wp2_with fail
  refine (implAnyP _ L[i].V lo _ HVv.out HVL.out).mono ?_
  rw [HAN.out]
  rintro e w2 ⟨rfl, hb2⟩
  have b2 : Below w.heap.size w w2 := b1.trans (hb2.mono b1.size)
  have H2 : Hid (ItsP w2 lo (.slice (some ⟨g, 0, none⟩) L.length c1) L P) := H1.out.below hb2 (Nat.le_refl _)
  have HQ2 : Hid (Blk b #[.slice (some ⟨g, 0, none⟩) L.length c1, .int .i64 nx] w2) := HQ1.out.below hb2
  clear hb2 H1 HQ1 HVv x5 y0 b1
  have y0 : w2.cell? ⟨b, 0, none⟩ = some (.slice (some ⟨g, 0, none⟩) L.length c1) := HQ2.out.cell 0
  have hne2 : b ≠ g := by omega
  go_wp2_with fail
  refine (implDel g c1 i lo L P _ H2.out hi hL).mono ?_
  rintro e w3 ⟨rfl, S3, ho3⟩
  have H3 : Hid (ItsP w3 lo (.slice (some ⟨g, 0, none⟩) (L.length - 1) c1) (L.eraseIdx i) (P.eraseIdx i)) := S3
  have lb2 : b < w2.heap.size := HQ2.out.lt
  have HQ3 : Hid (Blk b #[.slice (some ⟨g, 0, none⟩) L.length c1, .int .i64 nx] w3) := ⟨Nat.lt_of_lt_of_le lb2 ho3.size, fun i => (ho3.cell lb2 hne2).trans (HQ2.out.cell i), fun o => (ho3.frozen lb2 hne2).trans (HQ2.out.free o)⟩
  have b3 : Below lo w w3 := (b2.mono (by omega)).trans ((OffV.below (v := .slice (some ⟨g, 0, none⟩) 0 0) (.inl ⟨g, rfl, ho3⟩) (fun q hq => by injection hq with hq; show lo ≤ q; rw [← hq]; show lo ≤ g; omega) (by have := b2.size; omega)))
  clear S3 ho3 y0
  have y0 : w3.cell? ⟨b, 0, none⟩ = some (.slice (some ⟨g, 0, none⟩) L.length c1) := HQ3.out.cell 0
  have f0 := HQ3.out.free 0
  go_wp2
  go_ret
  exact ⟨rfl, ⟨_, _, HQ3.out.set (i := 0) (by simp), H3.out.setB (by show b < lo; omega) _⟩, (Kp.of b3).set _⟩
end Go.Proofs.YtlolnfpfipnfeaaGreat
namespace Go.Proofs.YtlolnfpfipnfeaaGreat
open Go.ChangeShapes Go.WideShapes Go.ChangeAt Go.RowKit
attribute [local go_sem ↓] Go.wp_at_zero Go.wp_at_succ

set_option maxHeartbeats 4000000 in
set_option maxRecDepth 100000 in
theorem ap2no (id rc vk vc : Int) (vt : ByteArray) (b : Nat) (nx : Int) (v : Value) (L : List It) (P : List (Value × Value)) (lo : Nat) (w : World) (hB : Blk b #[v, .int .i64 nx] w) (h : ItsP w lo v L P) (hlw : lo ≤ w.heap.size) (hL : L.length ≤ 1048576) (hf : findI id L 0 = none) :
    Calls Tryz.prog 132 #[.agg #[.int .i64 id, .int .i64 rc, .int .i64 vk, .int .i64 vc, .string vt], .pointer (some ⟨b, 0, none⟩)] w fun e w' => e = .returned (.bool false) ∧ (∃ v' P', Blk b #[v', .int .i64 nx] w' ∧ ItsP w' lo v' L P') ∧ Kp b lo w w' := by
  obtain ⟨a1, c1, rfl⟩ := h.form
  have H : Hid (ItsP w lo (.slice a1 L.length c1) L P) := h
  have HQ : Hid (Blk b #[.slice a1 L.length c1, .int .i64 nx] w) := hB
  have lb : b < w.heap.size := hB.lt
  clear h hB
  go_enter Tryz.func132, Tryz.ntmps132
  go_wp2_with fail
  generalize hW : World.alloc _ _ = W0
  have b0 : Below w.heap.size w W0 := by rw [← hW]; exact below1 _ _
  clear hW
  refine (implItemNo b _ nx id L P lo _ (HQ.out.below b0) (H.out.below b0 (Nat.le_refl _)) hL hf).mono ?_
  rintro e w1 ⟨rfl, hb1⟩
  have b1 : Below w.heap.size w w1 := b0.trans (hb1.mono b0.size)
  go_upto_region 2 with fail
  go_quiet (fail)
  all_goals
    go_wp2
    go_ret
    exact ⟨rfl, ⟨_, P, HQ.out.below (drew_below b1 _), H.out.below (drew_below b1 _) (Nat.le_refl _)⟩, Kp.of ((drew_below b1 _).mono (by omega))⟩

set_option maxHeartbeats 4000000 in
set_option maxRecDepth 100000 in
theorem ap2far (id rc vk vc : Int) (vt : ByteArray) (b : Nat) (nx : Int) (v : Value) (L : List It) (P : List (Value × Value)) (lo : Nat) (w : World) (hB : Blk b #[v, .int .i64 nx] w) (h : ItsP w lo v L P) (hlw : lo ≤ w.heap.size) (hL : L.length ≤ 1048576) (i : Nat) (hf : findI id L 0 = some i) (hi0 : i < L.length) (hrc : (L[i].V.length : Int) ≤ rc) :
    Calls Tryz.prog 132 #[.agg #[.int .i64 id, .int .i64 rc, .int .i64 vk, .int .i64 vc, .string vt], .pointer (some ⟨b, 0, none⟩)] w fun e w' => e = .returned (.bool false) ∧ (∃ v' P', Blk b #[v', .int .i64 nx] w' ∧ ItsP w' lo v' L P') ∧ Kp b lo w w' := by
  have HRC : Hid ((L[i].V.length : Int) ≤ rc) := hrc
  clear hrc
  obtain ⟨a1, c1, rfl⟩ := h.form
  have H : Hid (ItsP w lo (.slice a1 L.length c1) L P) := h
  have HQ : Hid (Blk b #[.slice a1 L.length c1, .int .i64 nx] w) := hB
  have lb : b < w.heap.size := hB.lt
  clear h hB
  obtain ⟨_, hi, _⟩ := placeI_some hf
  obtain ⟨g, rfl⟩ : ∃ g, a1 = some ⟨g, 0, none⟩ := by
    rcases H.out.row.cases with ⟨_, hL0⟩ | ⟨g, cap, hv, hs⟩
    · have := congrArg List.length hL0; rw [irow_len H.out.len] at this; simp only [List.length_nil] at this; omega
    · injection hv with h1; exact ⟨g, h1⟩
  have hg : lo ≤ g ∧ g < w.heap.size := H.out.row.own g rfl
  have hPl := H.out.len
  go_enter Tryz.func132, Tryz.ntmps132
  go_wp2_with fail
  generalize hW : World.alloc _ _ = W0
  have HA : Hid (Blk w.heap.size #[.int .i64 id, .int .i64 rc, .int .i64 vk, .int .i64 vc, .string vt] W0) := by show Blk _ _ _; rw [← hW]; exact Blk.new w _ _
  have b0 : Below w.heap.size w W0 := by rw [← hW]; exact below1 _ _
  clear hW
  refine (implItemYes b g c1 i nx id L P lo _ (HQ.out.below b0) (H.out.below b0 (Nat.le_refl _)) hL hf).mono ?_
  rintro e w1 ⟨rfl, hb1⟩
  have b1 : Below w.heap.size w w1 := b0.trans (hb1.mono b0.size)
  have H1 : Hid (ItsP w1 lo (.slice (some ⟨g, 0, none⟩) L.length c1) L P) := H.out.below b1 (Nat.le_refl _)
  have HQ1 : Hid (Blk b #[.slice (some ⟨g, 0, none⟩) L.length c1, .int .i64 nx] w1) := HQ.out.below b1
  have HA1 : Hid (Blk w.heap.size #[.int .i64 id, .int .i64 rc, .int .i64 vk, .int .i64 vc, .string vt] w1) := HA.out.below hb1
  have lg1 : g < w1.heap.size := Nat.lt_of_lt_of_le hg.2 b1.size
  have lA1 : w.heap.size < w1.heap.size := HA1.out.lt
  obtain ⟨x0, x1, x2, x3, x4, x5, x6, x7, x8⟩ := H1.out.cells i hi
  have hVv := H1.out.vds i hi
  obtain ⟨p2, q2, e2⟩ := vds_form hVv
  rw [e2] at x5 hVv
  have HE2 : Hid ((P[i]'(by omega)).2 = .slice p2 L[i].V.length q2) := e2
  have HVv : Hid (Vds w1 lo (.slice p2 L[i].V.length q2) L[i].V) := hVv
  have a1 : w1.cell? ⟨w.heap.size, 1, none⟩ = some (.int .i64 rc) := HA1.out.cell 1
  clear hb1 HA H HQ b0 x0 x1 x2 x3 x4 x6 x7 x8 hVv e2
  have hrc := HRC.out
  go_upto_region 2 with fail
  go_quiet (fail)
  all_goals
    clear x5 a1 hrc
    go_wp2
    go_ret
    exact ⟨rfl, ⟨_, P, HQ1.out.below (drew_below (Below.refl _ w1) _), H1.out.below (drew_below (Below.refl _ w1) _) (Nat.le_refl _)⟩, Kp.of ((drew_below b1 _).mono (by omega))⟩

set_option maxHeartbeats 8000000 in
set_option maxRecDepth 100000 in
theorem ap2was (id : Int) (kr : Nat) (vk vc : Int) (vt : ByteArray) (b : Nat) (nx : Int) (v : Value) (L : List It) (P : List (Value × Value)) (lo : Nat) (w : World) (hB : Blk b #[v, .int .i64 nx] w) (h : ItsP w lo v L P) (hlw : lo ≤ w.heap.size) (hL : L.length ≤ 1048576) (i : Nat) (hf : findI id L 0 = some i) (hi0 : i < L.length) (hrc : kr < L[i].V.length) (hV : L[i].V.length ≤ 1048576) (hp : pend L[i].V[kr] = false) :
    Calls Tryz.prog 132 #[.agg #[.int .i64 id, .int .i64 (kr : Int), .int .i64 vk, .int .i64 vc, .string vt], .pointer (some ⟨b, 0, none⟩)] w fun e w' => e = .returned (.bool false) ∧ (∃ v' P', Blk b #[v', .int .i64 nx] w' ∧ ItsP w' lo v' L P') ∧ Kp b lo w w' := by
  have HRC : Hid (kr < L[i].V.length ∧ L[i].V.length ≤ 1048576) := ⟨hrc, hV⟩
  have HPE : Hid (∀ h : kr < L[i].V.length, pend (L[i].V[kr]'h) = false) := fun _ => hp
  clear hp hrc hV
  obtain ⟨a1, c1, rfl⟩ := h.form
  have H : Hid (ItsP w lo (.slice a1 L.length c1) L P) := h
  have HQ : Hid (Blk b #[.slice a1 L.length c1, .int .i64 nx] w) := hB
  have lb : b < w.heap.size := hB.lt
  clear h hB
  obtain ⟨_, hi, _⟩ := placeI_some hf
  obtain ⟨g, rfl⟩ : ∃ g, a1 = some ⟨g, 0, none⟩ := by
    rcases H.out.row.cases with ⟨_, hL0⟩ | ⟨g, cap, hv, hs⟩
    · have := congrArg List.length hL0; rw [irow_len H.out.len] at this; simp only [List.length_nil] at this; omega
    · injection hv with h1; exact ⟨g, h1⟩
  have hg : lo ≤ g ∧ g < w.heap.size := H.out.row.own g rfl
  have hPl := H.out.len
  go_enter Tryz.func132, Tryz.ntmps132
  go_wp2_with fail
  generalize hW : World.alloc _ _ = W0
  have HA : Hid (Blk w.heap.size #[.int .i64 id, .int .i64 (kr : Int), .int .i64 vk, .int .i64 vc, .string vt] W0) := by show Blk _ _ _; rw [← hW]; exact Blk.new w _ _
  have b0 : Below w.heap.size w W0 := by rw [← hW]; exact below1 _ _
  clear hW
  refine (implItemYes b g c1 i nx id L P lo _ (HQ.out.below b0) (H.out.below b0 (Nat.le_refl _)) hL hf).mono ?_
  rintro e w1 ⟨rfl, hb1⟩
  have b1 : Below w.heap.size w w1 := b0.trans (hb1.mono b0.size)
  have H1 : Hid (ItsP w1 lo (.slice (some ⟨g, 0, none⟩) L.length c1) L P) := H.out.below b1 (Nat.le_refl _)
  have HQ1 : Hid (Blk b #[.slice (some ⟨g, 0, none⟩) L.length c1, .int .i64 nx] w1) := HQ.out.below b1
  have HA1 : Hid (Blk w.heap.size #[.int .i64 id, .int .i64 (kr : Int), .int .i64 vk, .int .i64 vc, .string vt] w1) := HA.out.below hb1
  have lg1 : g < w1.heap.size := Nat.lt_of_lt_of_le hg.2 b1.size
  have lA1 : w.heap.size < w1.heap.size := HA1.out.lt
  obtain ⟨x0, x1, x2, x3, x4, x5, x6, x7, x8⟩ := H1.out.cells i hi
  have hVv := H1.out.vds i hi
  obtain ⟨p2, q2, e2⟩ := vds_form hVv
  rw [e2] at x5 hVv
  have HE2 : Hid ((P[i]'(by omega)).2 = .slice p2 L[i].V.length q2) := e2
  have HVv : Hid (Vds w1 lo (.slice p2 L[i].V.length q2) L[i].V) := hVv
  have a1 : w1.cell? ⟨w.heap.size, 1, none⟩ = some (.int .i64 (kr : Int)) := HA1.out.cell 1
  clear hb1 HA H HQ b0 x0 x1 x2 x3 x4 x6 x7 x8 hVv e2
  obtain ⟨g2, rfl, hC⟩ : ∃ g2, p2 = some ⟨g2, 0, none⟩ ∧ VdsAt w1 lo g2 q2 L[i].V := by
    rcases HVv.out.cases with ⟨_, hL0⟩ | ⟨g2, cap, hv, hs⟩
    · have := HRC.out.1; rw [hL0] at this; exact absurd this (Nat.not_lt_zero _)
    · injection hv with h1 h2 h3; subst h3; exact ⟨g2, h1, hs⟩
  obtain ⟨v0, v1, v2⟩ := hC.cell kr HRC.out.1
  have lg2 : g2 < w1.heap.size := hC.lt
  have hp := HPE.out HRC.out.1
  obtain ⟨X, HX⟩ : ∃ X, Hid (L[i].V[kr]'HRC.out.1 = X) := ⟨L[i].V[kr]'HRC.out.1, rfl⟩
  rw [HX.out] at v0 v1 v2 hp
  obtain ⟨X1, X2, X3⟩ := X
  dsimp only at v0 v1 v2
  have hp2 : (X1 == 0 || X1 == 2) = false := hp
  have HP2 : Hid ((X1 == 0 || X1 == 2) = false) := hp2
  have k1 : (0 : Int) ≤ (kr : Int) := by omega
  have k2 : (kr : Int) < (L[i].V.length : Int) := by have := HRC.out.1; omega
  have k3 : ¬ (L[i].V.length : Int) ≤ (kr : Int) := by omega
  clear hC hp hp2
  obtain ⟨nV, HNV⟩ : ∃ n, Hid (L[i].V.length = n) := ⟨L[i].V.length, rfl⟩
  rw [HNV.out] at x5 k2 k3
  have k4 : decide (nV ≤ kr) = false := decide_eq_false (by omega)
  clear k3
  have NP : Hid (∀ wx, Calls Tryz.prog 137 #[.agg #[.int .i64 X1, .int .i64 X2, .string X3]] wx fun e w' => e = .returned (.bool false) ∧ Below wx.heap.size wx w') := fun wx => by rw [← HP2.out]; exact implPend (X1, X2, X3) wx
  go_upto_region 2 with fail
  go_region_held3 (fun w' => w'.cell? ⟨w.heap.size, 1, none⟩ = some (.int .i64 (kr : Int)) ∧ w'.cell? ⟨g, i * 9 + 5, none⟩ = some (.slice (some ⟨g2, 0, none⟩) nV q2) ∧ w'.cell? ⟨g2, kr * 3, none⟩ = some (.int .i64 X1) ∧ w'.cell? ⟨g2, kr * 3 + 1, none⟩ = some (.int .i64 X2) ∧ w'.cell? ⟨g2, kr * 3 + 2, none⟩ = some (.string X3)) (first | (exact ⟨k10, k11, k12, k13, k14⟩) | go_keep) (first | (go_at_call 137; refine (NP.out _).mono ?_; rintro e w2 ⟨rfl, hb2⟩; have HB2 : Hid (Below w1.heap.size w1 w2) := (Below.refl w1.heap.size w1).drew.trans hb2; have k10 := (HB2.out.cell (p := ⟨w.heap.size, 1, none⟩) lA1).trans a1; have k11 := (HB2.out.cell (p := ⟨g, i * 9 + 5, none⟩) lg1).trans x5; have k12 := (HB2.out.cell (p := ⟨g2, kr * 3, none⟩) lg2).trans v0; have k13 := (HB2.out.cell (p := ⟨g2, kr * 3 + 1, none⟩) lg2).trans v1; have k14 := (HB2.out.cell (p := ⟨g2, kr * 3 + 2, none⟩) lg2).trans v2; clear hb2))
  have b2 : Below w.heap.size w w2 := b1.trans (HB2.out.mono b1.size)
  have H2 : Hid (ItsP w2 lo (.slice (some ⟨g, 0, none⟩) L.length c1) L P) := H1.out.below HB2.out (Nat.le_refl _)
  have HQ2 : Hid (Blk b #[.slice (some ⟨g, 0, none⟩) L.length c1, .int .i64 nx] w2) := HQ1.out.below HB2.out
  clear HB2 a1 x5 v0 v1 v2 k10 k11 k12 k13 k14 k1 k2 k4
  go_wp2
  go_ret
  exact ⟨rfl, ⟨_, P, HQ2.out, H2.out⟩, Kp.of (b2.mono (by omega))⟩

set_option maxHeartbeats 8000000 in
set_option maxRecDepth 100000 in
theorem ap2yes (id : Int) (kr : Nat) (vk vc : Int) (vt : ByteArray) (b : Nat) (nx : Int) (v : Value) (L : List It) (P : List (Value × Value)) (lo : Nat) (w : World) (hB : Blk b #[v, .int .i64 nx] w) (h : ItsP w lo v L P) (hlw : lo ≤ w.heap.size) (hlo : b < lo) (hL : L.length ≤ 1048576) (i : Nat) (hf : findI id L 0 = some i) (hi0 : i < L.length) (hrc : kr < L[i].V.length) (hV : L[i].V.length ≤ 1048576) (hp : pend L[i].V[kr] = true) :
    Calls Tryz.prog 132 #[.agg #[.int .i64 id, .int .i64 (kr : Int), .int .i64 vk, .int .i64 vc, .string vt], .pointer (some ⟨b, 0, none⟩)] w fun e w' => e = .returned (.bool true) ∧ (∃ v' P', Blk b #[v', .int .i64 nx] w' ∧ ItsP w' lo v' (L.set i { L[i] with V := L[i].V.set kr (vk, vc, vt) }) P') ∧ Kp b lo w w' := by
  have HPB : Hid (PB w.heap.size P) := PB.of h
  have HRC : Hid (kr < L[i].V.length ∧ L[i].V.length ≤ 1048576) := ⟨hrc, hV⟩
  have HPE : Hid (∀ h : kr < L[i].V.length, pend (L[i].V[kr]'h) = true) := fun _ => hp
  clear hp hrc hV
  obtain ⟨a1, c1, rfl⟩ := h.form
  have H : Hid (ItsP w lo (.slice a1 L.length c1) L P) := h
  have HQ : Hid (Blk b #[.slice a1 L.length c1, .int .i64 nx] w) := hB
  have lb : b < w.heap.size := hB.lt
  clear h hB
  obtain ⟨_, hi, _⟩ := placeI_some hf
  obtain ⟨g, rfl⟩ : ∃ g, a1 = some ⟨g, 0, none⟩ := by
    rcases H.out.row.cases with ⟨_, hL0⟩ | ⟨g, cap, hv, hs⟩
    · have := congrArg List.length hL0; rw [irow_len H.out.len] at this; simp only [List.length_nil] at this; omega
    · injection hv with h1; exact ⟨g, h1⟩
  have hg : lo ≤ g ∧ g < w.heap.size := H.out.row.own g rfl
  have hPl := H.out.len
  go_enter Tryz.func132, Tryz.ntmps132
  go_wp2_with fail
  generalize hW : World.alloc _ _ = W0
  have HA : Hid (Blk w.heap.size #[.int .i64 id, .int .i64 (kr : Int), .int .i64 vk, .int .i64 vc, .string vt] W0) := by show Blk _ _ _; rw [← hW]; exact Blk.new w _ _
  have b0 : Below w.heap.size w W0 := by rw [← hW]; exact below1 _ _
  clear hW
  refine (implItemYes b g c1 i nx id L P lo _ (HQ.out.below b0) (H.out.below b0 (Nat.le_refl _)) hL hf).mono ?_
  rintro e w1 ⟨rfl, hb1⟩
  have b1 : Below w.heap.size w w1 := b0.trans (hb1.mono b0.size)
  have H1 : Hid (ItsP w1 lo (.slice (some ⟨g, 0, none⟩) L.length c1) L P) := H.out.below b1 (Nat.le_refl _)
  have HQ1 : Hid (Blk b #[.slice (some ⟨g, 0, none⟩) L.length c1, .int .i64 nx] w1) := HQ.out.below b1
  have HA1 : Hid (Blk w.heap.size #[.int .i64 id, .int .i64 (kr : Int), .int .i64 vk, .int .i64 vc, .string vt] w1) := HA.out.below hb1
  have lg1 : g < w1.heap.size := Nat.lt_of_lt_of_le hg.2 b1.size
  have lA1 : w.heap.size < w1.heap.size := HA1.out.lt
  obtain ⟨x0, x1, x2, x3, x4, x5, x6, x7, x8⟩ := H1.out.cells i hi
  have hVv := H1.out.vds i hi
  obtain ⟨p2, q2, e2⟩ := vds_form hVv
  rw [e2] at x5 hVv
  have HE2 : Hid ((P[i]'(by omega)).2 = .slice p2 L[i].V.length q2) := e2
  have HVv : Hid (Vds w1 lo (.slice p2 L[i].V.length q2) L[i].V) := hVv
  have a1 : w1.cell? ⟨w.heap.size, 1, none⟩ = some (.int .i64 (kr : Int)) := HA1.out.cell 1
  clear hb1 HA H HQ b0 x0 x1 x2 x3 x4 x6 x7 x8 hVv e2
  obtain ⟨g2, rfl, hC⟩ : ∃ g2, p2 = some ⟨g2, 0, none⟩ ∧ VdsAt w1 lo g2 q2 L[i].V := by
    rcases HVv.out.cases with ⟨_, hL0⟩ | ⟨g2, cap, hv, hs⟩
    · have := HRC.out.1; rw [hL0] at this; exact absurd this (Nat.not_lt_zero _)
    · injection hv with h1 h2 h3; subst h3; exact ⟨g2, h1, hs⟩
  obtain ⟨v0, v1, v2⟩ := hC.cell kr HRC.out.1
  have lg2 : g2 < w1.heap.size := hC.lt
  have hp := HPE.out HRC.out.1
  obtain ⟨X, HX⟩ : ∃ X, Hid (L[i].V[kr]'HRC.out.1 = X) := ⟨L[i].V[kr]'HRC.out.1, rfl⟩
  rw [HX.out] at v0 v1 v2 hp
  obtain ⟨X1, X2, X3⟩ := X
  dsimp only at v0 v1 v2
  have hp2 : (X1 == 0 || X1 == 2) = true := hp
  have HP2 : Hid ((X1 == 0 || X1 == 2) = true) := hp2
  have k1 : (0 : Int) ≤ (kr : Int) := by omega
  have k2 : (kr : Int) < (L[i].V.length : Int) := by have := HRC.out.1; omega
  have k3 : ¬ (L[i].V.length : Int) ≤ (kr : Int) := by omega
  clear hC hp hp2
  obtain ⟨nV, HNV⟩ : ∃ n, Hid (L[i].V.length = n) := ⟨L[i].V.length, rfl⟩
  rw [HNV.out] at x5 k2 k3
  have k4 : decide (nV ≤ kr) = false := decide_eq_false (by omega)
  clear k3
  have NP : Hid (∀ wx, Calls Tryz.prog 137 #[.agg #[.int .i64 X1, .int .i64 X2, .string X3]] wx fun e w' => e = .returned (.bool true) ∧ Below wx.heap.size wx w') := fun wx => by rw [← HP2.out]; exact implPend (X1, X2, X3) wx
  go_upto_region 2 with fail
  go_region_held3 (fun w' => w'.cell? ⟨w.heap.size, 1, none⟩ = some (.int .i64 (kr : Int)) ∧ w'.cell? ⟨g, i * 9 + 5, none⟩ = some (.slice (some ⟨g2, 0, none⟩) nV q2) ∧ w'.cell? ⟨g2, kr * 3, none⟩ = some (.int .i64 X1) ∧ w'.cell? ⟨g2, kr * 3 + 1, none⟩ = some (.int .i64 X2) ∧ w'.cell? ⟨g2, kr * 3 + 2, none⟩ = some (.string X3)) (first | (exact ⟨k10, k11, k12, k13, k14⟩) | go_keep) (first | (go_at_call 137; refine (NP.out _).mono ?_; rintro e w2 ⟨rfl, hb2⟩; have HB2 : Hid (Below w1.heap.size w1 w2) := (Below.refl w1.heap.size w1).drew.trans hb2; have k10 := (HB2.out.cell (p := ⟨w.heap.size, 1, none⟩) lA1).trans a1; have k11 := (HB2.out.cell (p := ⟨g, i * 9 + 5, none⟩) lg1).trans x5; have k12 := (HB2.out.cell (p := ⟨g2, kr * 3, none⟩) lg2).trans v0; have k13 := (HB2.out.cell (p := ⟨g2, kr * 3 + 1, none⟩) lg2).trans v1; have k14 := (HB2.out.cell (p := ⟨g2, kr * 3 + 2, none⟩) lg2).trans v2; clear hb2))
  have b2 : Below w.heap.size w w2 := b1.trans (HB2.out.mono b1.size)
  have H2 : Hid (ItsP w2 lo (.slice (some ⟨g, 0, none⟩) L.length c1) L P) := H1.out.below HB2.out (Nat.le_refl _)
  have HQ2 : Hid (Blk b #[.slice (some ⟨g, 0, none⟩) L.length c1, .int .i64 nx] w2) := HQ1.out.below HB2.out
  have HA2 : Hid _ := HA1.out.below HB2.out
  have HV2 : Hid (Vds w2 lo (.slice (some ⟨g2, 0, none⟩) L[i].V.length q2) L[i].V) := vds_below HVv.out HB2.out (Nat.le_refl _)
  have fz : ∀ o, w2.frozen? ⟨g2, o, none⟩ = false := (Vds.at HV2.out).1.free
  have a2 : w2.cell? ⟨w.heap.size, 2, none⟩ = some (.int .i64 vk) := HA2.out.cell 2
  have a3 : w2.cell? ⟨w.heap.size, 3, none⟩ = some (.int .i64 vc) := HA2.out.cell 3
  have a4 : w2.cell? ⟨w.heap.size, 4, none⟩ = some (.string vt) := HA2.out.cell 4
  have hglo : lo ≤ g2 := (row_lt HV2.out g2 rfl).1
  have n1 : g2 ≠ g := row_apart (H2.out.vds i hi) H2.out.row.1 (Ne.symm TvI) g2 g (by rw [HE2.out]; rfl) rfl
  have n2 : g2 ≠ w.heap.size := by
    have h1 := (row_lt HVv.out g2 rfl)
    have h2 := HPB.out _ (List.getElem_mem (l := P) (n := i) (by omega)) |>.2 g2 (by rw [HE2.out]; rfl)
    omega
  have n3 : w.heap.size ≠ g2 := Ne.symm n2
  have n4 : g ≠ g2 := Ne.symm n1
  clear HB2 a1 x5 v0 v1 v2
  go_upto_region 4 with fail
  go_region_held3 (fun w' => w'.cell? ⟨w.heap.size, 1, none⟩ = some (.int .i64 (kr : Int)) ∧ w'.cell? ⟨w.heap.size, 2, none⟩ = some (.int .i64 vk) ∧ w'.cell? ⟨w.heap.size, 3, none⟩ = some (.int .i64 vc) ∧ w'.cell? ⟨w.heap.size, 4, none⟩ = some (.string vt) ∧ w'.cell? ⟨g, i * 9 + 5, none⟩ = some (.slice (some ⟨g2, 0, none⟩) nV q2)) (go_keep) (fail)
  all_goals
    go_wp2
    go_ret
    have hd := H2.out.below (Below.refl _ w2).drew (Nat.le_refl _)
    have hv0 : w2.drew.ownsRow lo 41 3 (.slice (some ⟨g2, 0, none⟩) L[i].V.length q2) L[i].V.length (vrow L[i].V) := vds_below HV2.out (Below.refl _ w2).drew (Nat.le_refl _)
    have hv1 := vds_set (vds_set (vds_set hv0 (i := kr * 3) (.int .i64 vk)) (i := kr * 3 + 1) (.int .i64 vc)) (i := kr * 3 + 2) (.string vt)
    rw [vrow_set L[i].V kr (vk, vc, vt) HRC.out.1] at hv1
    have hv2 : Vds (((w2.drew.setCell ⟨g2, kr * 3, none⟩ (.int .i64 vk)).setCell ⟨g2, kr * 3 + 1, none⟩ (.int .i64 vc)).setCell ⟨g2, kr * 3 + 2, none⟩ (.string vt)) lo (.slice (some ⟨g2, 0, none⟩) L[i].V.length q2) (L[i].V.set kr (vk, vc, vt)) := by
      show World.ownsRow _ _ _ _ _ _ _
      rw [List.length_set]
      exact hv1
    have ho : Off g2 w2.drew (((w2.drew.setCell ⟨g2, kr * 3, none⟩ (.int .i64 vk)).setCell ⟨g2, kr * 3 + 1, none⟩ (.int .i64 vc)).setCell ⟨g2, kr * 3 + 2, none⟩ (.string vt)) := (((Off.refl g2 w2.drew).setCell _).setCell _).setCell _
    have s1 := hd.vdV hi (L[i].V.set kr (vk, vc, vt)) (by rw [HE2.out]; exact hv2) (by rw [HE2.out]; exact .inl ⟨g2, rfl, ho⟩)
    have hbg : b ≠ g2 := by omega
    exact ⟨rfl, ⟨_, P, (((HQ2.out.below (Below.refl _ w2).drew).other hbg).other hbg).other hbg, s1⟩, Kp.of ((((b2.drew.mono (by omega)).setCell (by show lo ≤ g2; omega) _).setCell (by show lo ≤ g2; omega) _).setCell (by show lo ≤ g2; omega) _)⟩
end Go.Proofs.YtlolnfpfipnfeaaGreat
