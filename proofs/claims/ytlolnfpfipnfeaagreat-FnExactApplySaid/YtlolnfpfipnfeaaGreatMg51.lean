import Derived.Test.YtlolnfpfipnfeaaGreatMg50
import Derived.Deep.RegionHeld3
import Derived.Test.YtlolnfpfipnfeaaGreatMg26
import Derived.Test.YtlolnfpfipnfeaaGreatMg23
import Derived.Test.YtlolnfpfipnfeaaGreatMg1
import Derived.Deep.Slices
import Derived.Deep.SlicePairs
import Derived.Deep.Fields
import Derived.Lib.SmallJoins
namespace Go.Proofs.YtlolnfpfipnfeaaGreat
open Go.ChangeShapes Go.WideShapes Go.ChangeAt Go.RowKit
attribute [local go_sem ↓] Go.wp_at_zero Go.wp_at_succ

set_option maxHeartbeats 20000000 in
set_option maxRecDepth 100000 in
theorem applyLaw (v rv : Value) (nx : Int) (L : List It) (r : Rec) (w : World) (h : ArgI w v L) (hR : ArgS w rv r.R) (m1 : r.fr.size ≤ maxLen) (m2 : r.bo.size ≤ maxLen) (m3 : r.vt.size ≤ maxLen) (hl : LenIn w) :
    Calls Tryz.prog 3 #[.agg #[v, .int .i64 nx], .agg #[.int .i64 r.kind, .int .i64 r.mid, .int .i64 r.born, .string r.fr, rv, .string r.bo, .int .i64 r.id, .int .i64 r.rc, .int .i64 r.vk, .int .i64 r.vc, .string r.vt, .int .i64 r.tr, .int .i64 r.due]] w fun e w' => e = .returned (.bool true) ∧ Below w.heap.size w w' := by
  have HL : Hid (LenIn w) := hl
  have HAI : Hid (ArgI w v L) := h
  have HAR : Hid (ArgS w rv r.R) := hR
  have HM : Hid (r.fr.size ≤ maxLen ∧ r.bo.size ≤ maxLen ∧ r.vt.size ≤ maxLen) := ⟨m1, m2, m3⟩
  obtain ⟨a1, c1, rfl⟩ := h.form
  obtain ⟨a3, c3, rfl⟩ := args_formM hR
  clear h hR hl m1 m2 m3
  go_enter Tryz.func3, Tryz.ntmps3
  go_wp2_with fail
  generalize hW : World.alloc _ _ = W
  have hA : Hid (Blk w.heap.size #[.slice a1 L.length c1, .int .i64 nx] W) := by show Blk _ _ _; rw [← hW]; exact (blk2I w _ _ _ _).1
  have hE : Hid (Blk (w.heap.size + 1) #[.int .i64 r.kind, .int .i64 r.mid, .int .i64 r.born, .string r.fr, .slice a3 r.R.length c3, .string r.bo, .int .i64 r.id, .int .i64 r.rc, .int .i64 r.vk, .int .i64 r.vc, .string r.vt, .int .i64 r.tr, .int .i64 r.due] W) := by show Blk _ _ _; rw [← hW]; exact (blk2I w _ _ _ _).2
  have bw : Below w.heap.size w W := by rw [← hW]; exact below2 _ _ _
  clear hW
  refine (szQu _ nx L _ (HAI.out.below bw)).mono ?_
  rintro e w1 ⟨⟨q, rfl, hq⟩, hb1⟩
  have b1 : Below w.heap.size w w1 := bw.trans (hb1.mono bw.size)
  have hA1 : Hid (Blk w.heap.size #[.slice a1 L.length c1, .int .i64 nx] w1) := Blk.below hA.out hb1
  have hE1 : Hid (Blk (w.heap.size + 1) #[.int .i64 r.kind, .int .i64 r.mid, .int .i64 r.born, .string r.fr, .slice a3 r.R.length c3, .string r.bo, .int .i64 r.id, .int .i64 r.rc, .int .i64 r.vk, .int .i64 r.vc, .string r.vt, .int .i64 r.tr, .int .i64 r.due] w1) := Blk.below hE.out hb1
  clear hb1 hA hE bw
  by_cases hq0 : q < 0
  · go_wp2
    go_ret
    exact ⟨rfl, b1⟩
  have HSM : Hid (0 ≤ q ∧ q + (L.length : Int) + (itsN L : Int) ≤ 1048576 ∧ ∀ x ∈ L, SmallI x) := hq.resolve_left hq0
  have hq1 : q ≤ 1048576 := by have := HSM.out.2.1; omega
  clear hq
  have x0 : w1.cell? ⟨w.heap.size + 1, 0, none⟩ = some (.int .i64 r.kind) := hE1.out.cell 0
  have x1 : w1.cell? ⟨w.heap.size + 1, 1, none⟩ = some (.int .i64 r.mid) := hE1.out.cell 1
  have x2 : w1.cell? ⟨w.heap.size + 1, 2, none⟩ = some (.int .i64 r.born) := hE1.out.cell 2
  have x3 : w1.cell? ⟨w.heap.size + 1, 3, none⟩ = some (.string r.fr) := hE1.out.cell 3
  have x4 : w1.cell? ⟨w.heap.size + 1, 4, none⟩ = some (.slice a3 r.R.length c3) := hE1.out.cell 4
  have x5 : w1.cell? ⟨w.heap.size + 1, 5, none⟩ = some (.string r.bo) := hE1.out.cell 5
  have x6 : w1.cell? ⟨w.heap.size + 1, 6, none⟩ = some (.int .i64 r.id) := hE1.out.cell 6
  have x7 : w1.cell? ⟨w.heap.size + 1, 7, none⟩ = some (.int .i64 r.rc) := hE1.out.cell 7
  have x8 : w1.cell? ⟨w.heap.size + 1, 8, none⟩ = some (.int .i64 r.vk) := hE1.out.cell 8
  have x9 : w1.cell? ⟨w.heap.size + 1, 9, none⟩ = some (.int .i64 r.vc) := hE1.out.cell 9
  have x10 : w1.cell? ⟨w.heap.size + 1, 10, none⟩ = some (.string r.vt) := hE1.out.cell 10
  have x11 : w1.cell? ⟨w.heap.size + 1, 11, none⟩ = some (.int .i64 r.tr) := hE1.out.cell 11
  have x12 : w1.cell? ⟨w.heap.size + 1, 12, none⟩ = some (.int .i64 r.due) := hE1.out.cell 12
  go_wp2_with fail
  refine (szRec r _ q _ (HAR.out.below b1) HM.out.1 HM.out.2.1 HM.out.2.2 (by omega) hq1).mono ?_
  rintro e w2 ⟨⟨q2, rfl, hq2⟩, hb2⟩
  have b2 : Below w.heap.size w w2 := b1.trans (hb2.mono b1.size)
  have hA2 : Hid (Blk w.heap.size #[.slice a1 L.length c1, .int .i64 nx] w2) := Blk.below hA1.out hb2
  have hE2 : Hid (Blk (w.heap.size + 1) #[.int .i64 r.kind, .int .i64 r.mid, .int .i64 r.born, .string r.fr, .slice a3 r.R.length c3, .string r.bo, .int .i64 r.id, .int .i64 r.rc, .int .i64 r.vk, .int .i64 r.vc, .string r.vt, .int .i64 r.tr, .int .i64 r.due] w2) := Blk.below hE1.out hb2
  clear hb2 hA1 hE1 b1 x0 x1 x2 x3 x4 x5 x6 x7 x8 x9 x10 x11 x12
  by_cases hq3 : q2 < 0
  · clear hq2
    go_wp2
    go_ret
    exact ⟨rfl, b2⟩
  have HSR : Hid (SmallR r) := (hq2.resolve_left hq3).2.2
  have hNN : Hid (q2 + (r.R.length : Int) ≤ q ∧ 0 ≤ q2) := ⟨(hq2.resolve_left hq3).2.1, (hq2.resolve_left hq3).1⟩
  clear hq2 HM
  have mL : L.length ≤ 1048576 := by have := HSM.out.2.1; have := HSM.out.1; omega
  have mR : r.R.length ≤ 1048576 := HSR.out.2.2.2.1
  have HTQ : Hid (∀ wx, Below w.heap.size w wx → Calls Tryz.prog 7 #[.agg #[.slice a1 L.length c1, .int .i64 nx]] wx fun e w' => (∃ a c, e = .returned (.agg #[.slice a L.length c, .int .i64 nx]) ∧ Its w' wx.heap.size (.slice a L.length c) L) ∧ Below wx.heap.size wx w') := fun wx hx => toQu _ nx L wx (HAI.out.below hx) mL HSM.out.2.2
  have HTR : Hid (∀ wx, Below w.heap.size w wx → Calls Tryz.prog 8 #[.agg #[.int .i64 r.kind, .int .i64 r.mid, .int .i64 r.born, .string r.fr, .slice a3 r.R.length c3, .string r.bo, .int .i64 r.id, .int .i64 r.rc, .int .i64 r.vk, .int .i64 r.vc, .string r.vt, .int .i64 r.tr, .int .i64 r.due]] wx fun e w' => (∃ a c, e = .returned (.agg #[.int .i64 r.kind, .int .i64 r.mid, .int .i64 r.born, .string r.fr, .slice a r.R.length c, .string r.bo, .int .i64 r.id, .int .i64 r.rc, .int .i64 r.vk, .int .i64 r.vc, .string r.vt, .int .i64 r.tr, .int .i64 r.due]) ∧ Strs w' wx.heap.size (.slice a r.R.length c) r.R) ∧ Below wx.heap.size wx w') := fun wx hx => (toRec r _ wx (HAR.out.below hx) mR).mono (fun e w' ⟨⟨u, h1, h2⟩, h3⟩ => by
    obtain ⟨a, c, hu⟩ := strs_formR h2
    subst hu
    exact ⟨⟨a, c, h1, h2⟩, h3⟩)
  obtain ⟨Q, HQ⟩ : ∃ Q, Hid (applyN L nx r = Q) := ⟨_, rfl⟩
  have HSA : Hid (∀ (wx : World) (u ru : Value) (lo lor : Nat), Below w.heap.size w wx → lo ≤ wx.heap.size → Its wx lo u L → Strs wx lor ru r.R → Calls Tryz.prog 6 #[.agg #[u, .int .i64 nx], .agg #[.int .i64 r.kind, .int .i64 r.mid, .int .i64 r.born, .string r.fr, ru, .string r.bo, .int .i64 r.id, .int .i64 r.rc, .int .i64 r.vk, .int .i64 r.vc, .string r.vt, .int .i64 r.tr, .int .i64 r.due]] wx fun e w' => (∃ n1 l1 P', e = .returned (.tuple #[.agg #[.slice n1 Q.1.length l1, .int .i64 Q.2.1], .bool Q.2.2]) ∧ ItsP w' wx.heap.size (.slice n1 Q.1.length l1) Q.1 P') ∧ Below wx.heap.size wx w') := fun wx u ru lo lor hx _ ⟨P, hI⟩ hS => (specApply r ru lor nx u L P lo wx hI mL HSM.out.2.2 hS HSR.out).mono (fun e w' hp => by
    unfold ApPost at hp
    rw [HQ.out] at hp
    obtain ⟨⟨u, P', h1, h2⟩, h3⟩ := hp
    obtain ⟨n1, l1, hu⟩ := h2.form
    subst hu
    exact ⟨⟨n1, l1, P', h1, h2⟩, h3⟩)
  have HIA : Hid (∀ (wx : World) (u ru : Value) (lo lor : Nat), Below w.heap.size w wx → lo ≤ wx.heap.size → Its wx lo u L → Strs wx lor ru r.R → Calls Tryz.prog 9 #[.agg #[u, .int .i64 nx], .agg #[.int .i64 r.kind, .int .i64 r.mid, .int .i64 r.born, .string r.fr, ru, .string r.bo, .int .i64 r.id, .int .i64 r.rc, .int .i64 r.vk, .int .i64 r.vc, .string r.vt, .int .i64 r.tr, .int .i64 r.due]] wx fun e w' => (∃ n1 l1 P', e = .returned (.tuple #[.agg #[.slice n1 Q.1.length l1, .int .i64 Q.2.1], .bool Q.2.2]) ∧ ItsP w' wx.heap.size (.slice n1 Q.1.length l1) Q.1 P') ∧ Below wx.heap.size wx w') := fun wx u ru lo lor hx hlo ⟨P, hI⟩ hS => (implApply r ru lor nx u L P lo wx hI hlo mL HSM.out.2.2 hS HSR.out (len_below HL.out hx)).mono (fun e w' hp => by
    unfold ApPost at hp
    rw [HQ.out] at hp
    obtain ⟨⟨u, P', h1, h2⟩, h3⟩ := hp
    obtain ⟨n1, l1, hu⟩ := h2.form
    subst hu
    exact ⟨⟨n1, l1, P', h1, h2⟩, h3⟩)
  have t0 : w2.cell? ⟨w.heap.size, 0, none⟩ = some (.slice a1 L.length c1) := hA2.out.cell 0
  have t1 : w2.cell? ⟨w.heap.size, 1, none⟩ = some (.int .i64 nx) := hA2.out.cell 1
  have x0 : w2.cell? ⟨w.heap.size + 1, 0, none⟩ = some (.int .i64 r.kind) := hE2.out.cell 0
  have x1 : w2.cell? ⟨w.heap.size + 1, 1, none⟩ = some (.int .i64 r.mid) := hE2.out.cell 1
  have x2 : w2.cell? ⟨w.heap.size + 1, 2, none⟩ = some (.int .i64 r.born) := hE2.out.cell 2
  have x3 : w2.cell? ⟨w.heap.size + 1, 3, none⟩ = some (.string r.fr) := hE2.out.cell 3
  have x4 : w2.cell? ⟨w.heap.size + 1, 4, none⟩ = some (.slice a3 r.R.length c3) := hE2.out.cell 4
  have x5 : w2.cell? ⟨w.heap.size + 1, 5, none⟩ = some (.string r.bo) := hE2.out.cell 5
  have x6 : w2.cell? ⟨w.heap.size + 1, 6, none⟩ = some (.int .i64 r.id) := hE2.out.cell 6
  have x7 : w2.cell? ⟨w.heap.size + 1, 7, none⟩ = some (.int .i64 r.rc) := hE2.out.cell 7
  have x8 : w2.cell? ⟨w.heap.size + 1, 8, none⟩ = some (.int .i64 r.vk) := hE2.out.cell 8
  have x9 : w2.cell? ⟨w.heap.size + 1, 9, none⟩ = some (.int .i64 r.vc) := hE2.out.cell 9
  have x10 : w2.cell? ⟨w.heap.size + 1, 10, none⟩ = some (.string r.vt) := hE2.out.cell 10
  have x11 : w2.cell? ⟨w.heap.size + 1, 11, none⟩ = some (.int .i64 r.tr) := hE2.out.cell 11
  have x12 : w2.cell? ⟨w.heap.size + 1, 12, none⟩ = some (.int .i64 r.due) := hE2.out.cell 12
  go_wp2_with fail
  go_cut [6, 7] (fun pv xv wx => ∃ B u P8, pv = .pointer (some ⟨B, 0, none⟩) ∧ xv = .bool Q.2.2 ∧ Hid (QR w2.heap.size B Q.1 Q.2.1 u P8 w2 wx))
  case first =>
    have HBc : Hid (Below w2.heap.size w2 w2) := (Below.refl _ _ : Below _ _ _)
    have zA : w.heap.size < w2.heap.size := hA2.out.lt
    have zB : w.heap.size + 1 < w2.heap.size := hE2.out.lt
    go_region_held3 (fun w' => w'.cell? ⟨w.heap.size, 0, none⟩ = some (.slice a1 L.length c1) ∧ w'.cell? ⟨w.heap.size, 1, none⟩ = some (.int .i64 nx) ∧ w'.cell? ⟨w.heap.size + 1, 0, none⟩ = some (.int .i64 r.kind) ∧ w'.cell? ⟨w.heap.size + 1, 1, none⟩ = some (.int .i64 r.mid) ∧ w'.cell? ⟨w.heap.size + 1, 2, none⟩ = some (.int .i64 r.born) ∧ w'.cell? ⟨w.heap.size + 1, 3, none⟩ = some (.string r.fr) ∧ w'.cell? ⟨w.heap.size + 1, 4, none⟩ = some (.slice a3 r.R.length c3) ∧ w'.cell? ⟨w.heap.size + 1, 5, none⟩ = some (.string r.bo) ∧ w'.cell? ⟨w.heap.size + 1, 6, none⟩ = some (.int .i64 r.id) ∧ w'.cell? ⟨w.heap.size + 1, 7, none⟩ = some (.int .i64 r.rc) ∧ w'.cell? ⟨w.heap.size + 1, 8, none⟩ = some (.int .i64 r.vk) ∧ w'.cell? ⟨w.heap.size + 1, 9, none⟩ = some (.int .i64 r.vc) ∧ w'.cell? ⟨w.heap.size + 1, 10, none⟩ = some (.string r.vt) ∧ w'.cell? ⟨w.heap.size + 1, 11, none⟩ = some (.int .i64 r.tr) ∧ w'.cell? ⟨w.heap.size + 1, 12, none⟩ = some (.int .i64 r.due)) (first | (simp only [j0, j1, o0, o1, o2, o3, o4, o5, o6, o7, o8, o9, o10, o11, o12, and_self]; done) | go_keep) (first | (go_at_call 7; refine (HTQ.out _ (b2.trans (Below.mono (by repeat (first | exact HBc.out | refine Below.drew ?_ | refine Below.alloc ?_ HBc.out.size _)) b2.size))).mono ?_; rintro e wS ⟨⟨pS, qS, rfl, rS⟩, hb⟩; have HSr : Hid (Its wS w2.heap.size (.slice pS L.length qS) L) := rS.le (Below.size (B := w2.heap.size) (by repeat (first | exact HBc.out | refine Below.drew ?_ | refine Below.alloc ?_ HBc.out.size _))); (first | (have HNz : Hid (w2.heap.size ≤ _ ∧ Blk _ #[.slice none 0 0, .int .i64 0] wS) := ⟨HNz.out.1, Blk.below HNz.out.2 (of_drew hb)⟩) | (have HNz : Hid (w2.heap.size ≤ _ ∧ Blk _ #[.slice none 0 0, .int .i64 0] wS) := ⟨HNz.out.1, Blk.below HNz.out.2 hb⟩) | (have HNz : Hid (w2.heap.size ≤ _ ∧ Blk _ #[.slice none 0 0, .int .i64 0] wS) := ⟨HBc.out.size, Blk.below (Blk.new _ _ _) (of_drew hb)⟩) | (have HNz : Hid (w2.heap.size ≤ _ ∧ Blk _ #[.slice none 0 0, .int .i64 0] wS) := ⟨HBc.out.size, Blk.below (Blk.new _ _ _) hb⟩) | skip); have HBc : Hid (Below w2.heap.size w2 wS) := Below.trans (by repeat (first | exact HBc.out | refine Below.drew ?_ | refine Below.alloc ?_ HBc.out.size _)) (hb.mono (Below.size (B := w2.heap.size) (by repeat (first | exact HBc.out | refine Below.drew ?_ | refine Below.alloc ?_ HBc.out.size _)))); have hAn : Hid (Blk w.heap.size #[.slice a1 L.length c1, .int .i64 nx] wS) := Blk.below hA2.out HBc.out; have hEn : Hid (Blk (w.heap.size + 1) #[.int .i64 r.kind, .int .i64 r.mid, .int .i64 r.born, .string r.fr, .slice a3 r.R.length c3, .string r.bo, .int .i64 r.id, .int .i64 r.rc, .int .i64 r.vk, .int .i64 r.vc, .string r.vt, .int .i64 r.tr, .int .i64 r.due] wS) := Blk.below hE2.out HBc.out; have j0 : wS.cell? ⟨w.heap.size, 0, none⟩ = some (.slice a1 L.length c1) := hAn.out.cell 0; have j1 : wS.cell? ⟨w.heap.size, 1, none⟩ = some (.int .i64 nx) := hAn.out.cell 1; have o0 : wS.cell? ⟨w.heap.size + 1, 0, none⟩ = some (.int .i64 r.kind) := hEn.out.cell 0; have o1 : wS.cell? ⟨w.heap.size + 1, 1, none⟩ = some (.int .i64 r.mid) := hEn.out.cell 1; have o2 : wS.cell? ⟨w.heap.size + 1, 2, none⟩ = some (.int .i64 r.born) := hEn.out.cell 2; have o3 : wS.cell? ⟨w.heap.size + 1, 3, none⟩ = some (.string r.fr) := hEn.out.cell 3; have o4 : wS.cell? ⟨w.heap.size + 1, 4, none⟩ = some (.slice a3 r.R.length c3) := hEn.out.cell 4; have o5 : wS.cell? ⟨w.heap.size + 1, 5, none⟩ = some (.string r.bo) := hEn.out.cell 5; have o6 : wS.cell? ⟨w.heap.size + 1, 6, none⟩ = some (.int .i64 r.id) := hEn.out.cell 6; have o7 : wS.cell? ⟨w.heap.size + 1, 7, none⟩ = some (.int .i64 r.rc) := hEn.out.cell 7; have o8 : wS.cell? ⟨w.heap.size + 1, 8, none⟩ = some (.int .i64 r.vk) := hEn.out.cell 8; have o9 : wS.cell? ⟨w.heap.size + 1, 9, none⟩ = some (.int .i64 r.vc) := hEn.out.cell 9; have o10 : wS.cell? ⟨w.heap.size + 1, 10, none⟩ = some (.string r.vt) := hEn.out.cell 10; have o11 : wS.cell? ⟨w.heap.size + 1, 11, none⟩ = some (.int .i64 r.tr) := hEn.out.cell 11; have o12 : wS.cell? ⟨w.heap.size + 1, 12, none⟩ = some (.int .i64 r.due) := hEn.out.cell 12; have zAn : w.heap.size < wS.heap.size := hAn.out.lt; have zBn : w.heap.size + 1 < wS.heap.size := hEn.out.lt; clear rS hb) | (go_at_call 8; refine (HTR.out _ (b2.trans (Below.mono (by repeat (first | exact HBc.out | refine Below.drew ?_ | refine Below.alloc ?_ HBc.out.size _)) b2.size))).mono ?_; rintro e wE ⟨⟨pE, qE, rfl, rE⟩, hb⟩; have HEr : Hid (Strs wE w2.heap.size (.slice pE r.R.length qE) r.R) := strs_le rE (Below.size (B := w2.heap.size) (by repeat (first | exact HBc.out | refine Below.drew ?_ | refine Below.alloc ?_ HBc.out.size _))); (first | (have HSr : Hid (Its wE w2.heap.size (.slice pS L.length qS) L) := HSr.out.below (Below.trans (by repeat (first | exact Below.refl _ _ | refine Below.drew ?_ | refine Below.alloc ?_ (Nat.le_refl _) _)) (hb.mono (Below.size (B := wS.heap.size) (w := wS) (by repeat (first | exact Below.refl _ _ | refine Below.drew ?_ | refine Below.alloc ?_ (Nat.le_refl _) _))))) (Nat.le_refl _)) | skip); (first | (have HNz : Hid (w2.heap.size ≤ _ ∧ Blk _ #[.slice none 0 0, .int .i64 0] wE) := ⟨HNz.out.1, Blk.below HNz.out.2 (of_drew hb)⟩) | (have HNz : Hid (w2.heap.size ≤ _ ∧ Blk _ #[.slice none 0 0, .int .i64 0] wE) := ⟨HNz.out.1, Blk.below HNz.out.2 hb⟩) | (have HNz : Hid (w2.heap.size ≤ _ ∧ Blk _ #[.slice none 0 0, .int .i64 0] wE) := ⟨HBc.out.size, Blk.below (Blk.new _ _ _) (of_drew hb)⟩) | (have HNz : Hid (w2.heap.size ≤ _ ∧ Blk _ #[.slice none 0 0, .int .i64 0] wE) := ⟨HBc.out.size, Blk.below (Blk.new _ _ _) hb⟩) | skip); have HBc : Hid (Below w2.heap.size w2 wE) := Below.trans (by repeat (first | exact HBc.out | refine Below.drew ?_ | refine Below.alloc ?_ HBc.out.size _)) (hb.mono (Below.size (B := w2.heap.size) (by repeat (first | exact HBc.out | refine Below.drew ?_ | refine Below.alloc ?_ HBc.out.size _)))); have hAn : Hid (Blk w.heap.size #[.slice a1 L.length c1, .int .i64 nx] wE) := Blk.below hA2.out HBc.out; have hEn : Hid (Blk (w.heap.size + 1) #[.int .i64 r.kind, .int .i64 r.mid, .int .i64 r.born, .string r.fr, .slice a3 r.R.length c3, .string r.bo, .int .i64 r.id, .int .i64 r.rc, .int .i64 r.vk, .int .i64 r.vc, .string r.vt, .int .i64 r.tr, .int .i64 r.due] wE) := Blk.below hE2.out HBc.out; have j0 : wE.cell? ⟨w.heap.size, 0, none⟩ = some (.slice a1 L.length c1) := hAn.out.cell 0; have j1 : wE.cell? ⟨w.heap.size, 1, none⟩ = some (.int .i64 nx) := hAn.out.cell 1; have o0 : wE.cell? ⟨w.heap.size + 1, 0, none⟩ = some (.int .i64 r.kind) := hEn.out.cell 0; have o1 : wE.cell? ⟨w.heap.size + 1, 1, none⟩ = some (.int .i64 r.mid) := hEn.out.cell 1; have o2 : wE.cell? ⟨w.heap.size + 1, 2, none⟩ = some (.int .i64 r.born) := hEn.out.cell 2; have o3 : wE.cell? ⟨w.heap.size + 1, 3, none⟩ = some (.string r.fr) := hEn.out.cell 3; have o4 : wE.cell? ⟨w.heap.size + 1, 4, none⟩ = some (.slice a3 r.R.length c3) := hEn.out.cell 4; have o5 : wE.cell? ⟨w.heap.size + 1, 5, none⟩ = some (.string r.bo) := hEn.out.cell 5; have o6 : wE.cell? ⟨w.heap.size + 1, 6, none⟩ = some (.int .i64 r.id) := hEn.out.cell 6; have o7 : wE.cell? ⟨w.heap.size + 1, 7, none⟩ = some (.int .i64 r.rc) := hEn.out.cell 7; have o8 : wE.cell? ⟨w.heap.size + 1, 8, none⟩ = some (.int .i64 r.vk) := hEn.out.cell 8; have o9 : wE.cell? ⟨w.heap.size + 1, 9, none⟩ = some (.int .i64 r.vc) := hEn.out.cell 9; have o10 : wE.cell? ⟨w.heap.size + 1, 10, none⟩ = some (.string r.vt) := hEn.out.cell 10; have o11 : wE.cell? ⟨w.heap.size + 1, 11, none⟩ = some (.int .i64 r.tr) := hEn.out.cell 11; have o12 : wE.cell? ⟨w.heap.size + 1, 12, none⟩ = some (.int .i64 r.due) := hEn.out.cell 12; have zAn : w.heap.size < wE.heap.size := hAn.out.lt; have zBn : w.heap.size + 1 < wE.heap.size := hEn.out.lt; clear rE hb) | (go_at_call 6; refine (HSA.out _ _ _ w2.heap.size w2.heap.size (b2.trans (Below.mono (by repeat (first | exact HBc.out | refine Below.drew ?_ | refine Below.alloc ?_ HBc.out.size _)) b2.size)) (Below.size (B := w2.heap.size) (by repeat (first | exact HBc.out | refine Below.drew ?_ | refine Below.alloc ?_ HBc.out.size _))) (HSr.out.below (by repeat (first | exact Below.refl _ _ | refine Below.drew ?_ | refine Below.alloc ?_ (Nat.le_refl _) _)) (Nat.le_refl _)) (strs_below HEr.out (by repeat (first | exact Below.refl _ _ | refine Below.drew ?_ | refine Below.alloc ?_ (Nat.le_refl _) _)) (Nat.le_refl _))).mono ?_; rintro e w8 ⟨⟨n1, l1, P8, rfl, S8⟩, hb⟩; (first | (have HAP : Hid (NeB _ (.slice n1 Q.1.length l1) P8) := NeB.lt S8 HNz.out.2.lt) | (have HAP : Hid (NeB wE.heap.size (.slice n1 Q.1.length l1) P8) := NeB.lt S8 (alloc_ltA _ _)) | (have HAP : Hid (NeB wS.heap.size (.slice n1 Q.1.length l1) P8) := NeB.lt S8 (alloc_ltA _ _)) | skip); have HS8 : Hid (ItsP w8 w2.heap.size (.slice n1 Q.1.length l1) Q.1 P8) := S8.le (Below.size (B := w2.heap.size) (by repeat (first | exact HBc.out | refine Below.drew ?_ | refine Below.alloc ?_ HBc.out.size _))); (first | (have HNz : Hid (w2.heap.size ≤ _ ∧ Blk _ #[.slice none 0 0, .int .i64 0] w8) := ⟨HNz.out.1, Blk.below HNz.out.2 (of_drew hb)⟩) | (have HNz : Hid (w2.heap.size ≤ _ ∧ Blk _ #[.slice none 0 0, .int .i64 0] w8) := ⟨HNz.out.1, Blk.below HNz.out.2 hb⟩) | (have HNz : Hid (w2.heap.size ≤ _ ∧ Blk _ #[.slice none 0 0, .int .i64 0] w8) := ⟨HBc.out.size, Blk.below (Blk.new _ _ _) (of_drew hb)⟩) | (have HNz : Hid (w2.heap.size ≤ _ ∧ Blk _ #[.slice none 0 0, .int .i64 0] w8) := ⟨HBc.out.size, Blk.below (Blk.new _ _ _) hb⟩) | skip); have HBc : Hid (Below w2.heap.size w2 w8) := Below.trans (by repeat (first | exact HBc.out | refine Below.drew ?_ | refine Below.alloc ?_ HBc.out.size _)) (hb.mono (Below.size (B := w2.heap.size) (by repeat (first | exact HBc.out | refine Below.drew ?_ | refine Below.alloc ?_ HBc.out.size _)))); have hAn : Hid (Blk w.heap.size #[.slice a1 L.length c1, .int .i64 nx] w8) := Blk.below hA2.out HBc.out; have hEn : Hid (Blk (w.heap.size + 1) #[.int .i64 r.kind, .int .i64 r.mid, .int .i64 r.born, .string r.fr, .slice a3 r.R.length c3, .string r.bo, .int .i64 r.id, .int .i64 r.rc, .int .i64 r.vk, .int .i64 r.vc, .string r.vt, .int .i64 r.tr, .int .i64 r.due] w8) := Blk.below hE2.out HBc.out; have j0 : w8.cell? ⟨w.heap.size, 0, none⟩ = some (.slice a1 L.length c1) := hAn.out.cell 0; have j1 : w8.cell? ⟨w.heap.size, 1, none⟩ = some (.int .i64 nx) := hAn.out.cell 1; have o0 : w8.cell? ⟨w.heap.size + 1, 0, none⟩ = some (.int .i64 r.kind) := hEn.out.cell 0; have o1 : w8.cell? ⟨w.heap.size + 1, 1, none⟩ = some (.int .i64 r.mid) := hEn.out.cell 1; have o2 : w8.cell? ⟨w.heap.size + 1, 2, none⟩ = some (.int .i64 r.born) := hEn.out.cell 2; have o3 : w8.cell? ⟨w.heap.size + 1, 3, none⟩ = some (.string r.fr) := hEn.out.cell 3; have o4 : w8.cell? ⟨w.heap.size + 1, 4, none⟩ = some (.slice a3 r.R.length c3) := hEn.out.cell 4; have o5 : w8.cell? ⟨w.heap.size + 1, 5, none⟩ = some (.string r.bo) := hEn.out.cell 5; have o6 : w8.cell? ⟨w.heap.size + 1, 6, none⟩ = some (.int .i64 r.id) := hEn.out.cell 6; have o7 : w8.cell? ⟨w.heap.size + 1, 7, none⟩ = some (.int .i64 r.rc) := hEn.out.cell 7; have o8 : w8.cell? ⟨w.heap.size + 1, 8, none⟩ = some (.int .i64 r.vk) := hEn.out.cell 8; have o9 : w8.cell? ⟨w.heap.size + 1, 9, none⟩ = some (.int .i64 r.vc) := hEn.out.cell 9; have o10 : w8.cell? ⟨w.heap.size + 1, 10, none⟩ = some (.string r.vt) := hEn.out.cell 10; have o11 : w8.cell? ⟨w.heap.size + 1, 11, none⟩ = some (.int .i64 r.tr) := hEn.out.cell 11; have o12 : w8.cell? ⟨w.heap.size + 1, 12, none⟩ = some (.int .i64 r.due) := hEn.out.cell 12; have zAn : w.heap.size < w8.heap.size := hAn.out.lt; have zBn : w.heap.size + 1 < w8.heap.size := hEn.out.lt; (try (have h0 : w8.cell? ⟨_, 0, none⟩ = some (.slice none 0 0) := HNz.out.2.cell 0; have h1 : w8.cell? ⟨_, 1, none⟩ = some (.int .i64 0) := HNz.out.2.cell 1; have g0 : w8.frozen? ⟨_, 0, none⟩ = false := HNz.out.2.free 0; have g1 : w8.frozen? ⟨_, 1, none⟩ = false := HNz.out.2.free 1; have q1 : ¬ _ = w.heap.size := Nat.ne_of_gt (Nat.lt_of_lt_of_le zA HNz.out.1); have q2 : ¬ w.heap.size = _ := Nat.ne_of_lt (Nat.lt_of_lt_of_le zA HNz.out.1); have q3 : ¬ _ = w.heap.size + 1 := Nat.ne_of_gt (Nat.lt_of_lt_of_le zB HNz.out.1); have q4 : ¬ w.heap.size + 1 = _ := Nat.ne_of_lt (Nat.lt_of_lt_of_le zB HNz.out.1))); clear S8 hb))
    all_goals
      go_wp2_with fail
      go_meet
      first
        | exact ⟨_, _, P8, rfl, rfl, ⟨HNz.out.1, (HNz.out.2.set (i := 0) (by simp)).set (i := 1) (by simp), (HS8.out.setNe HAP.out _).setNe HAP.out _, HAP.out, (HBc.out.setCell HNz.out.1 _).setCell HNz.out.1 _⟩⟩
        | exact ⟨_, _, P8, rfl, rfl, ⟨HBc.out.size, Blk.new w8 _ _, HS8.out.below (below1 _ _) (Nat.le_refl _), NeB.of HS8.out (Nat.le_refl _), HBc.out.trans ((below1 _ _).mono HBc.out.size)⟩⟩
  case rest =>
    obtain ⟨B6, u6, P6, rfl, rfl, HF0⟩ := hcut
    obtain ⟨wA, hwA⟩ : ∃ wA : World, wA = wc := ⟨wc, rfl⟩
    subst hwA
    clear t0 t1 x0 x1 x2 x3 x4 x5 x6 x7 x8 x9 x10 x11 x12
    have fBw := HF0.out.2.2.2.2
    have e6 : w2.heap.size ≤ B6 := HF0.out.1
    have HWwA : Hid (QI w2.heap.size wA.heap.size B6 u6 Q.2.1 Q.1 P6 wA) := QI.ofR HF0.out
    have hAwA : Hid (Blk w.heap.size #[.slice a1 L.length c1, .int .i64 nx] wA) := Blk.below hA2.out fBw
    have hEwA : Hid (Blk (w.heap.size + 1) #[.int .i64 r.kind, .int .i64 r.mid, .int .i64 r.born, .string r.fr, .slice a3 r.R.length c3, .string r.bo, .int .i64 r.id, .int .i64 r.rc, .int .i64 r.vk, .int .i64 r.vc, .string r.vt, .int .i64 r.tr, .int .i64 r.due] wA) := Blk.below hE2.out fBw
    have bwA : Below w.heap.size w wA := b2.trans (fBw.mono b2.size)
    have e2 : w.heap.size + 1 < w2.heap.size := hE2.out.lt
    have e3 := fBw.size
    have e7 : B6 < wA.heap.size := HWwA.out.box.lt
    clear HF0 fBw hA2 hE2 b2 HSA
    have t0 : wA.cell? ⟨w.heap.size, 0, none⟩ = some (.slice a1 L.length c1) := hAwA.out.cell 0
    have t1 : wA.cell? ⟨w.heap.size, 1, none⟩ = some (.int .i64 nx) := hAwA.out.cell 1
    go_wp2_with fail
    refine (HTQ.out wA bwA).mono ?_
    rintro e w4 ⟨⟨z1, o1, rfl, r1⟩, hb4⟩
    obtain ⟨Px, r1⟩ := r1
    have HX4 : Hid (ItsP w4 wA.heap.size (.slice z1 L.length o1) L Px) := r1
    clear r1 t0 t1
    have hAw4 : Hid (Blk w.heap.size #[.slice a1 L.length c1, .int .i64 nx] w4) := hAwA.out.below hb4
    have hEw4 : Hid (Blk (w.heap.size + 1) #[.int .i64 r.kind, .int .i64 r.mid, .int .i64 r.born, .string r.fr, .slice a3 r.R.length c3, .string r.bo, .int .i64 r.id, .int .i64 r.rc, .int .i64 r.vk, .int .i64 r.vc, .string r.vt, .int .i64 r.tr, .int .i64 r.due] w4) := hEwA.out.below hb4
    have HWw4 : Hid (QI w2.heap.size wA.heap.size B6 u6 Q.2.1 Q.1 P6 w4) := HWwA.out.below hb4
    have bw4 : Below w.heap.size w w4 := bwA.trans (hb4.mono bwA.size)
    have sw4 := hb4.size
    clear hAwA hEwA HWwA bwA
    clear hb4
    go_upto_region 10 with fail
    generalize hW5 : World.alloc _ _ = W5
    have hb5 : Below w4.heap.size w4 W5 := by rw [← hW5]; exact below1 _ _
    have HXW5 : Hid (QI wA.heap.size w4.heap.size w4.heap.size (.slice z1 L.length o1) nx L Px W5) := QI.new HX4.out hb5 (by rw [← hW5]; exact Blk.new _ _ _)
    have z5 : w4.heap.size < W5.heap.size := by rw [← hW5]; simp
    clear hW5 HX4
    have hAW5 : Hid (Blk w.heap.size #[.slice a1 L.length c1, .int .i64 nx] W5) := hAw4.out.below hb5
    have hEW5 : Hid (Blk (w.heap.size + 1) #[.int .i64 r.kind, .int .i64 r.mid, .int .i64 r.born, .string r.fr, .slice a3 r.R.length c3, .string r.bo, .int .i64 r.id, .int .i64 r.rc, .int .i64 r.vk, .int .i64 r.vc, .string r.vt, .int .i64 r.tr, .int .i64 r.due] W5) := hEw4.out.below hb5
    have HWW5 : Hid (QI w2.heap.size wA.heap.size B6 u6 Q.2.1 Q.1 P6 W5) := HWw4.out.below hb5
    have bW5 : Below w.heap.size w W5 := bw4.trans (hb5.mono bw4.size)
    have sW5 := hb5.size
    clear hAw4 hEw4 HWw4 bw4
    clear hb5
    have x0 : W5.cell? ⟨w.heap.size + 1, 0, none⟩ = some (.int .i64 r.kind) := hEW5.out.cell 0
    have x1 : W5.cell? ⟨w.heap.size + 1, 1, none⟩ = some (.int .i64 r.mid) := hEW5.out.cell 1
    have x2 : W5.cell? ⟨w.heap.size + 1, 2, none⟩ = some (.int .i64 r.born) := hEW5.out.cell 2
    have x3 : W5.cell? ⟨w.heap.size + 1, 3, none⟩ = some (.string r.fr) := hEW5.out.cell 3
    have x4 : W5.cell? ⟨w.heap.size + 1, 4, none⟩ = some (.slice a3 r.R.length c3) := hEW5.out.cell 4
    have x5 : W5.cell? ⟨w.heap.size + 1, 5, none⟩ = some (.string r.bo) := hEW5.out.cell 5
    have x6 : W5.cell? ⟨w.heap.size + 1, 6, none⟩ = some (.int .i64 r.id) := hEW5.out.cell 6
    have x7 : W5.cell? ⟨w.heap.size + 1, 7, none⟩ = some (.int .i64 r.rc) := hEW5.out.cell 7
    have x8 : W5.cell? ⟨w.heap.size + 1, 8, none⟩ = some (.int .i64 r.vk) := hEW5.out.cell 8
    have x9 : W5.cell? ⟨w.heap.size + 1, 9, none⟩ = some (.int .i64 r.vc) := hEW5.out.cell 9
    have x10 : W5.cell? ⟨w.heap.size + 1, 10, none⟩ = some (.string r.vt) := hEW5.out.cell 10
    have x11 : W5.cell? ⟨w.heap.size + 1, 11, none⟩ = some (.int .i64 r.tr) := hEW5.out.cell 11
    have x12 : W5.cell? ⟨w.heap.size + 1, 12, none⟩ = some (.int .i64 r.due) := hEW5.out.cell 12
    go_wp2_with fail
    refine (HTR.out W5 bW5).mono ?_
    rintro e w6 ⟨⟨z3, o3, rfl, r3⟩, hb6⟩
    have HY6 : Hid (Strs w6 W5.heap.size (.slice z3 r.R.length o3) r.R) := r3
    clear r3 x0 x1 x2 x3 x4 x5 x6 x7 x8 x9 x10 x11 x12
    have hAw6 : Hid (Blk w.heap.size #[.slice a1 L.length c1, .int .i64 nx] w6) := hAW5.out.below hb6
    have hEw6 : Hid (Blk (w.heap.size + 1) #[.int .i64 r.kind, .int .i64 r.mid, .int .i64 r.born, .string r.fr, .slice a3 r.R.length c3, .string r.bo, .int .i64 r.id, .int .i64 r.rc, .int .i64 r.vk, .int .i64 r.vc, .string r.vt, .int .i64 r.tr, .int .i64 r.due] w6) := hEW5.out.below hb6
    have HWw6 : Hid (QI w2.heap.size wA.heap.size B6 u6 Q.2.1 Q.1 P6 w6) := HWW5.out.below hb6
    have HXw6 : Hid (QI wA.heap.size w4.heap.size w4.heap.size (.slice z1 L.length o1) nx L Px w6) := HXW5.out.below hb6
    have bw6 : Below w.heap.size w w6 := bW5.trans (hb6.mono bW5.size)
    have sw6 := hb6.size
    clear hAW5 hEW5 HWW5 HXW5 bW5
    clear hb6
    go_upto_region 11 with fail
    generalize hW7 : World.alloc _ _ = W7
    have hb7 : Below w6.heap.size w6 W7 := by rw [← hW7]; exact below1 _ _
    have HYW7 : Hid (RI W5.heap.size w6.heap.size w6.heap.size (.slice z3 r.R.length o3) r W7) := RI.new HY6.out hb7 (by rw [← hW7]; exact Blk.new _ _ _)
    have z7 : w6.heap.size < W7.heap.size := by rw [← hW7]; simp
    clear hW7 HY6
    have hAW7 : Hid (Blk w.heap.size #[.slice a1 L.length c1, .int .i64 nx] W7) := hAw6.out.below hb7
    have hEW7 : Hid (Blk (w.heap.size + 1) #[.int .i64 r.kind, .int .i64 r.mid, .int .i64 r.born, .string r.fr, .slice a3 r.R.length c3, .string r.bo, .int .i64 r.id, .int .i64 r.rc, .int .i64 r.vk, .int .i64 r.vc, .string r.vt, .int .i64 r.tr, .int .i64 r.due] W7) := hEw6.out.below hb7
    have HWW7 : Hid (QI w2.heap.size wA.heap.size B6 u6 Q.2.1 Q.1 P6 W7) := HWw6.out.below hb7
    have HXW7 : Hid (QI wA.heap.size w4.heap.size w4.heap.size (.slice z1 L.length o1) nx L Px W7) := HXw6.out.below hb7
    have bW7 : Below w.heap.size w W7 := bw6.trans (hb7.mono bw6.size)
    have sW7 := hb7.size
    clear hAw6 hEw6 HWw6 HXw6 bw6
    clear hb7
    have t0 : W7.cell? ⟨w4.heap.size, 0, none⟩ = some (.slice z1 L.length o1) := HXW7.out.box.cell 0
    have t1 : W7.cell? ⟨w4.heap.size, 1, none⟩ = some (.int .i64 nx) := HXW7.out.box.cell 1
    have x0 : W7.cell? ⟨w6.heap.size, 0, none⟩ = some (.int .i64 r.kind) := HYW7.out.box.cell 0
    have x1 : W7.cell? ⟨w6.heap.size, 1, none⟩ = some (.int .i64 r.mid) := HYW7.out.box.cell 1
    have x2 : W7.cell? ⟨w6.heap.size, 2, none⟩ = some (.int .i64 r.born) := HYW7.out.box.cell 2
    have x3 : W7.cell? ⟨w6.heap.size, 3, none⟩ = some (.string r.fr) := HYW7.out.box.cell 3
    have x4 : W7.cell? ⟨w6.heap.size, 4, none⟩ = some (.slice z3 r.R.length o3) := HYW7.out.box.cell 4
    have x5 : W7.cell? ⟨w6.heap.size, 5, none⟩ = some (.string r.bo) := HYW7.out.box.cell 5
    have x6 : W7.cell? ⟨w6.heap.size, 6, none⟩ = some (.int .i64 r.id) := HYW7.out.box.cell 6
    have x7 : W7.cell? ⟨w6.heap.size, 7, none⟩ = some (.int .i64 r.rc) := HYW7.out.box.cell 7
    have x8 : W7.cell? ⟨w6.heap.size, 8, none⟩ = some (.int .i64 r.vk) := HYW7.out.box.cell 8
    have x9 : W7.cell? ⟨w6.heap.size, 9, none⟩ = some (.int .i64 r.vc) := HYW7.out.box.cell 9
    have x10 : W7.cell? ⟨w6.heap.size, 10, none⟩ = some (.string r.vt) := HYW7.out.box.cell 10
    have x11 : W7.cell? ⟨w6.heap.size, 11, none⟩ = some (.int .i64 r.tr) := HYW7.out.box.cell 11
    have x12 : W7.cell? ⟨w6.heap.size, 12, none⟩ = some (.int .i64 r.due) := HYW7.out.box.cell 12
    go_wp2_with fail
    refine (HIA.out W7 _ _ wA.heap.size W5.heap.size bW7 (by omega) ⟨Px, HXW7.out.its⟩ HYW7.out.str).mono ?_
    rintro e w8 ⟨⟨n1, l1, P8, rfl, S8⟩, hb8⟩
    have HG8 : Hid (ItsP w8 W7.heap.size (.slice n1 Q.1.length l1) Q.1 P8) := S8
    clear S8 t0 t1 x0 x1 x2 x3 x4 x5 x6 x7 x8 x9 x10 x11 x12
    have hAw8 : Hid (Blk w.heap.size #[.slice a1 L.length c1, .int .i64 nx] w8) := hAW7.out.below hb8
    have hEw8 : Hid (Blk (w.heap.size + 1) #[.int .i64 r.kind, .int .i64 r.mid, .int .i64 r.born, .string r.fr, .slice a3 r.R.length c3, .string r.bo, .int .i64 r.id, .int .i64 r.rc, .int .i64 r.vk, .int .i64 r.vc, .string r.vt, .int .i64 r.tr, .int .i64 r.due] w8) := hEW7.out.below hb8
    have HWw8 : Hid (QI w2.heap.size wA.heap.size B6 u6 Q.2.1 Q.1 P6 w8) := HWW7.out.below hb8
    have HXw8 : Hid (QI wA.heap.size w4.heap.size w4.heap.size (.slice z1 L.length o1) nx L Px w8) := HXW7.out.below hb8
    have HYw8 : Hid (RI W5.heap.size w6.heap.size w6.heap.size (.slice z3 r.R.length o3) r w8) := HYW7.out.below hb8
    have bw8 : Below w.heap.size w w8 := bW7.trans (hb8.mono bW7.size)
    have sw8 := hb8.size
    clear hAW7 hEW7 HWW7 HXW7 HYW7 bW7
    clear hb8
    go_upto_region 12 with fail
    generalize hW9 : World.alloc _ _ = W9
    have hb9 : Below w8.heap.size w8 W9 := by rw [← hW9]; exact below1 _ _
    have HGW9 : Hid (QI W7.heap.size w8.heap.size w8.heap.size (.slice n1 Q.1.length l1) Q.2.1 Q.1 P8 W9) := QI.new HG8.out hb9 (by rw [← hW9]; exact Blk.new _ _ _)
    have z9 : w8.heap.size < W9.heap.size := by rw [← hW9]; simp
    clear hW9 HG8
    have hAW9 : Hid (Blk w.heap.size #[.slice a1 L.length c1, .int .i64 nx] W9) := hAw8.out.below hb9
    have hEW9 : Hid (Blk (w.heap.size + 1) #[.int .i64 r.kind, .int .i64 r.mid, .int .i64 r.born, .string r.fr, .slice a3 r.R.length c3, .string r.bo, .int .i64 r.id, .int .i64 r.rc, .int .i64 r.vk, .int .i64 r.vc, .string r.vt, .int .i64 r.tr, .int .i64 r.due] W9) := hEw8.out.below hb9
    have HWW9 : Hid (QI w2.heap.size wA.heap.size B6 u6 Q.2.1 Q.1 P6 W9) := HWw8.out.below hb9
    have HXW9 : Hid (QI wA.heap.size w4.heap.size w4.heap.size (.slice z1 L.length o1) nx L Px W9) := HXw8.out.below hb9
    have HYW9 : Hid (RI W5.heap.size w6.heap.size w6.heap.size (.slice z3 r.R.length o3) r W9) := HYw8.out.below hb9
    have bW9 : Below w.heap.size w W9 := bw8.trans (hb9.mono bw8.size)
    have sW9 := hb9.size
    clear hAw8 hEw8 HWw8 HXw8 HYw8 bw8
    clear hb9
    have t0 : W9.cell? ⟨w8.heap.size, 0, none⟩ = some (.slice n1 Q.1.length l1) := HGW9.out.box.cell 0
    have t1 : W9.cell? ⟨w8.heap.size, 1, none⟩ = some (.int .i64 Q.2.1) := HGW9.out.box.cell 1
    have u0 : W9.cell? ⟨B6, 0, none⟩ = some (u6) := HWW9.out.box.cell 0
    have u1 : W9.cell? ⟨B6, 1, none⟩ = some (.int .i64 Q.2.1) := HWW9.out.box.cell 1
    go_wp2_with fail
    refine (eqQu _ _ Q.2.1 Q.1 W7.heap.size w2.heap.size W9 ⟨P8, HGW9.out.its⟩ ⟨P6, HWW9.out.its⟩).mono ?_
    rintro e wB ⟨rfl, hbB⟩
    clear t0 t1 u0 u1
    have hAwB : Hid (Blk w.heap.size #[.slice a1 L.length c1, .int .i64 nx] wB) := hAW9.out.below hbB
    have hEwB : Hid (Blk (w.heap.size + 1) #[.int .i64 r.kind, .int .i64 r.mid, .int .i64 r.born, .string r.fr, .slice a3 r.R.length c3, .string r.bo, .int .i64 r.id, .int .i64 r.rc, .int .i64 r.vk, .int .i64 r.vc, .string r.vt, .int .i64 r.tr, .int .i64 r.due] wB) := hEW9.out.below hbB
    have HWwB : Hid (QI w2.heap.size wA.heap.size B6 u6 Q.2.1 Q.1 P6 wB) := HWW9.out.below hbB
    have HXwB : Hid (QI wA.heap.size w4.heap.size w4.heap.size (.slice z1 L.length o1) nx L Px wB) := HXW9.out.below hbB
    have HYwB : Hid (RI W5.heap.size w6.heap.size w6.heap.size (.slice z3 r.R.length o3) r wB) := HYW9.out.below hbB
    have HGwB : Hid (QI W7.heap.size w8.heap.size w8.heap.size (.slice n1 Q.1.length l1) Q.2.1 Q.1 P8 wB) := HGW9.out.below hbB
    have bwB : Below w.heap.size w wB := bW9.trans (hbB.mono bW9.size)
    have swB := hbB.size
    clear hAW9 hEW9 HWW9 HXW9 HYW9 HGW9 bW9
    clear hbB
    have t0 : wB.cell? ⟨w4.heap.size, 0, none⟩ = some (.slice z1 L.length o1) := HXwB.out.box.cell 0
    have t1 : wB.cell? ⟨w4.heap.size, 1, none⟩ = some (.int .i64 nx) := HXwB.out.box.cell 1
    have x0 : wB.cell? ⟨w.heap.size, 0, none⟩ = some (.slice a1 L.length c1) := hAwB.out.cell 0
    have x1 : wB.cell? ⟨w.heap.size, 1, none⟩ = some (.int .i64 nx) := hAwB.out.cell 1
    have lX : w4.heap.size < wB.heap.size := HXwB.out.box.lt
    have lA : w.heap.size < wB.heap.size := hAwB.out.lt
    go_wp2_with fail
    go_region_held3 (fun w' => w'.cell? ⟨w.heap.size, 0, none⟩ = some (.slice a1 L.length c1) ∧ w'.cell? ⟨w.heap.size, 1, none⟩ = some (.int .i64 nx) ∧ w'.cell? ⟨w4.heap.size, 0, none⟩ = some (.slice z1 L.length o1) ∧ w'.cell? ⟨w4.heap.size, 1, none⟩ = some (.int .i64 nx)) (first | (exact ⟨m0, m1, m2, m3⟩) | (exact ⟨k0, k1, k2, k3⟩) | go_keep) (first | (go_at_call 7; refine (HTQ.out _ (bwB.trans (((Below.refl wB.heap.size wB).drew).mono bwB.size))).mono ?_; rintro e wC ⟨⟨pC, qC, rfl, SC⟩, hbC⟩; have HBC : Hid (Below wB.heap.size wB wC) := ((Below.refl wB.heap.size wB).drew).trans hbC; have HSC : Hid (Its wC wB.heap.size (.slice pC L.length qC) L) := SC; have k0 := (hAwB.out.below HBC.out).cell 0; have k1 := (hAwB.out.below HBC.out).cell 1; have k2 := (HXwB.out.box.below HBC.out).cell 0; have k3 := (HXwB.out.box.below HBC.out).cell 1; clear hbC SC) | (go_at_call 10; refine (eqQu _ _ nx L _ _ _ ⟨Px, HXwB.out.its.below HBC.out (Nat.le_refl _)⟩ HSC.out).mono ?_; rintro e wD ⟨rfl, hbD⟩; have HBD : Hid (Below wB.heap.size wB wD) := HBC.out.trans (hbD.mono HBC.out.size); have m0 := (hAwB.out.below HBD.out).cell 0; have m1 := (hAwB.out.below HBD.out).cell 1; have m2 := (HXwB.out.box.below HBD.out).cell 0; have m3 := (HXwB.out.box.below HBD.out).cell 1; clear hbD))
    have hbD := HBD.out
    clear HBD HBC HSC k0 k1 k2 k3 m0 m1 m2 m3 t0 t1 x0 x1 lX lA
    have hAwD : Hid (Blk w.heap.size #[.slice a1 L.length c1, .int .i64 nx] wD) := hAwB.out.below hbD
    have hEwD : Hid (Blk (w.heap.size + 1) #[.int .i64 r.kind, .int .i64 r.mid, .int .i64 r.born, .string r.fr, .slice a3 r.R.length c3, .string r.bo, .int .i64 r.id, .int .i64 r.rc, .int .i64 r.vk, .int .i64 r.vc, .string r.vt, .int .i64 r.tr, .int .i64 r.due] wD) := hEwB.out.below hbD
    have HWwD : Hid (QI w2.heap.size wA.heap.size B6 u6 Q.2.1 Q.1 P6 wD) := HWwB.out.below hbD
    have HXwD : Hid (QI wA.heap.size w4.heap.size w4.heap.size (.slice z1 L.length o1) nx L Px wD) := HXwB.out.below hbD
    have HYwD : Hid (RI W5.heap.size w6.heap.size w6.heap.size (.slice z3 r.R.length o3) r wD) := HYwB.out.below hbD
    have HGwD : Hid (QI W7.heap.size w8.heap.size w8.heap.size (.slice n1 Q.1.length l1) Q.2.1 Q.1 P8 wD) := HGwB.out.below hbD
    have bwD : Below w.heap.size w wD := bwB.trans (hbD.mono bwB.size)
    have swD := hbD.size
    clear hAwB hEwB HWwB HXwB HYwB HGwB bwB
    clear hbD
    have x0 : wD.cell? ⟨w.heap.size + 1, 0, none⟩ = some (.int .i64 r.kind) := hEwD.out.cell 0
    have x1 : wD.cell? ⟨w.heap.size + 1, 1, none⟩ = some (.int .i64 r.mid) := hEwD.out.cell 1
    have x2 : wD.cell? ⟨w.heap.size + 1, 2, none⟩ = some (.int .i64 r.born) := hEwD.out.cell 2
    have x3 : wD.cell? ⟨w.heap.size + 1, 3, none⟩ = some (.string r.fr) := hEwD.out.cell 3
    have x4 : wD.cell? ⟨w.heap.size + 1, 4, none⟩ = some (.slice a3 r.R.length c3) := hEwD.out.cell 4
    have x5 : wD.cell? ⟨w.heap.size + 1, 5, none⟩ = some (.string r.bo) := hEwD.out.cell 5
    have x6 : wD.cell? ⟨w.heap.size + 1, 6, none⟩ = some (.int .i64 r.id) := hEwD.out.cell 6
    have x7 : wD.cell? ⟨w.heap.size + 1, 7, none⟩ = some (.int .i64 r.rc) := hEwD.out.cell 7
    have x8 : wD.cell? ⟨w.heap.size + 1, 8, none⟩ = some (.int .i64 r.vk) := hEwD.out.cell 8
    have x9 : wD.cell? ⟨w.heap.size + 1, 9, none⟩ = some (.int .i64 r.vc) := hEwD.out.cell 9
    have x10 : wD.cell? ⟨w.heap.size + 1, 10, none⟩ = some (.string r.vt) := hEwD.out.cell 10
    have x11 : wD.cell? ⟨w.heap.size + 1, 11, none⟩ = some (.int .i64 r.tr) := hEwD.out.cell 11
    have x12 : wD.cell? ⟨w.heap.size + 1, 12, none⟩ = some (.int .i64 r.due) := hEwD.out.cell 12
    have y0 : wD.cell? ⟨w6.heap.size, 0, none⟩ = some (.int .i64 r.kind) := HYwD.out.box.cell 0
    have y1 : wD.cell? ⟨w6.heap.size, 1, none⟩ = some (.int .i64 r.mid) := HYwD.out.box.cell 1
    have y2 : wD.cell? ⟨w6.heap.size, 2, none⟩ = some (.int .i64 r.born) := HYwD.out.box.cell 2
    have y3 : wD.cell? ⟨w6.heap.size, 3, none⟩ = some (.string r.fr) := HYwD.out.box.cell 3
    have y4 : wD.cell? ⟨w6.heap.size, 4, none⟩ = some (.slice z3 r.R.length o3) := HYwD.out.box.cell 4
    have y5 : wD.cell? ⟨w6.heap.size, 5, none⟩ = some (.string r.bo) := HYwD.out.box.cell 5
    have y6 : wD.cell? ⟨w6.heap.size, 6, none⟩ = some (.int .i64 r.id) := HYwD.out.box.cell 6
    have y7 : wD.cell? ⟨w6.heap.size, 7, none⟩ = some (.int .i64 r.rc) := HYwD.out.box.cell 7
    have y8 : wD.cell? ⟨w6.heap.size, 8, none⟩ = some (.int .i64 r.vk) := HYwD.out.box.cell 8
    have y9 : wD.cell? ⟨w6.heap.size, 9, none⟩ = some (.int .i64 r.vc) := HYwD.out.box.cell 9
    have y10 : wD.cell? ⟨w6.heap.size, 10, none⟩ = some (.string r.vt) := HYwD.out.box.cell 10
    have y11 : wD.cell? ⟨w6.heap.size, 11, none⟩ = some (.int .i64 r.tr) := HYwD.out.box.cell 11
    have y12 : wD.cell? ⟨w6.heap.size, 12, none⟩ = some (.int .i64 r.due) := HYwD.out.box.cell 12
    have lX : w6.heap.size < wD.heap.size := HYwD.out.box.lt
    have lA : w.heap.size + 1 < wD.heap.size := hEwD.out.lt
    go_wp2_with fail
    go_region_held3 (fun w' => w'.cell? ⟨w.heap.size + 1, 0, none⟩ = some (.int .i64 r.kind) ∧ w'.cell? ⟨w.heap.size + 1, 1, none⟩ = some (.int .i64 r.mid) ∧ w'.cell? ⟨w.heap.size + 1, 2, none⟩ = some (.int .i64 r.born) ∧ w'.cell? ⟨w.heap.size + 1, 3, none⟩ = some (.string r.fr) ∧ w'.cell? ⟨w.heap.size + 1, 4, none⟩ = some (.slice a3 r.R.length c3) ∧ w'.cell? ⟨w.heap.size + 1, 5, none⟩ = some (.string r.bo) ∧ w'.cell? ⟨w.heap.size + 1, 6, none⟩ = some (.int .i64 r.id) ∧ w'.cell? ⟨w.heap.size + 1, 7, none⟩ = some (.int .i64 r.rc) ∧ w'.cell? ⟨w.heap.size + 1, 8, none⟩ = some (.int .i64 r.vk) ∧ w'.cell? ⟨w.heap.size + 1, 9, none⟩ = some (.int .i64 r.vc) ∧ w'.cell? ⟨w.heap.size + 1, 10, none⟩ = some (.string r.vt) ∧ w'.cell? ⟨w.heap.size + 1, 11, none⟩ = some (.int .i64 r.tr) ∧ w'.cell? ⟨w.heap.size + 1, 12, none⟩ = some (.int .i64 r.due) ∧ w'.cell? ⟨w6.heap.size, 0, none⟩ = some (.int .i64 r.kind) ∧ w'.cell? ⟨w6.heap.size, 1, none⟩ = some (.int .i64 r.mid) ∧ w'.cell? ⟨w6.heap.size, 2, none⟩ = some (.int .i64 r.born) ∧ w'.cell? ⟨w6.heap.size, 3, none⟩ = some (.string r.fr) ∧ w'.cell? ⟨w6.heap.size, 4, none⟩ = some (.slice z3 r.R.length o3) ∧ w'.cell? ⟨w6.heap.size, 5, none⟩ = some (.string r.bo) ∧ w'.cell? ⟨w6.heap.size, 6, none⟩ = some (.int .i64 r.id) ∧ w'.cell? ⟨w6.heap.size, 7, none⟩ = some (.int .i64 r.rc) ∧ w'.cell? ⟨w6.heap.size, 8, none⟩ = some (.int .i64 r.vk) ∧ w'.cell? ⟨w6.heap.size, 9, none⟩ = some (.int .i64 r.vc) ∧ w'.cell? ⟨w6.heap.size, 10, none⟩ = some (.string r.vt) ∧ w'.cell? ⟨w6.heap.size, 11, none⟩ = some (.int .i64 r.tr) ∧ w'.cell? ⟨w6.heap.size, 12, none⟩ = some (.int .i64 r.due)) (first | (exact ⟨m0, m1, m2, m3, m4, m5, m6, m7, m8, m9, m10, m11, m12, m13, m14, m15, m16, m17, m18, m19, m20, m21, m22, m23, m24, m25⟩) | (exact ⟨k0, k1, k2, k3, k4, k5, k6, k7, k8, k9, k10, k11, k12, k13, k14, k15, k16, k17, k18, k19, k20, k21, k22, k23, k24, k25⟩) | go_keep) (first | (go_at_call 8; refine (HTR.out _ (bwD.trans (((Below.refl wD.heap.size wD).drew).mono bwD.size))).mono ?_; rintro e wF ⟨⟨pF, qF, rfl, SF⟩, hbF⟩; have HBF : Hid (Below wD.heap.size wD wF) := ((Below.refl wD.heap.size wD).drew).trans hbF; have HSF : Hid (Strs wF wD.heap.size (.slice pF r.R.length qF) r.R) := SF; have k0 := (hEwD.out.below HBF.out).cell 0; have k1 := (hEwD.out.below HBF.out).cell 1; have k2 := (hEwD.out.below HBF.out).cell 2; have k3 := (hEwD.out.below HBF.out).cell 3; have k4 := (hEwD.out.below HBF.out).cell 4; have k5 := (hEwD.out.below HBF.out).cell 5; have k6 := (hEwD.out.below HBF.out).cell 6; have k7 := (hEwD.out.below HBF.out).cell 7; have k8 := (hEwD.out.below HBF.out).cell 8; have k9 := (hEwD.out.below HBF.out).cell 9; have k10 := (hEwD.out.below HBF.out).cell 10; have k11 := (hEwD.out.below HBF.out).cell 11; have k12 := (hEwD.out.below HBF.out).cell 12; have k13 := (HYwD.out.box.below HBF.out).cell 0; have k14 := (HYwD.out.box.below HBF.out).cell 1; have k15 := (HYwD.out.box.below HBF.out).cell 2; have k16 := (HYwD.out.box.below HBF.out).cell 3; have k17 := (HYwD.out.box.below HBF.out).cell 4; have k18 := (HYwD.out.box.below HBF.out).cell 5; have k19 := (HYwD.out.box.below HBF.out).cell 6; have k20 := (HYwD.out.box.below HBF.out).cell 7; have k21 := (HYwD.out.box.below HBF.out).cell 8; have k22 := (HYwD.out.box.below HBF.out).cell 9; have k23 := (HYwD.out.box.below HBF.out).cell 10; have k24 := (HYwD.out.box.below HBF.out).cell 11; have k25 := (HYwD.out.box.below HBF.out).cell 12; clear hbF SF) | (go_at_call 11; refine (eqRec r _ _ _ _ _ (strs_below HYwD.out.str HBF.out (Nat.le_refl _)) HSF.out).mono ?_; rintro e wH ⟨rfl, hbH⟩; have HBH : Hid (Below wD.heap.size wD wH) := HBF.out.trans (hbH.mono HBF.out.size); have m0 := (hEwD.out.below HBH.out).cell 0; have m1 := (hEwD.out.below HBH.out).cell 1; have m2 := (hEwD.out.below HBH.out).cell 2; have m3 := (hEwD.out.below HBH.out).cell 3; have m4 := (hEwD.out.below HBH.out).cell 4; have m5 := (hEwD.out.below HBH.out).cell 5; have m6 := (hEwD.out.below HBH.out).cell 6; have m7 := (hEwD.out.below HBH.out).cell 7; have m8 := (hEwD.out.below HBH.out).cell 8; have m9 := (hEwD.out.below HBH.out).cell 9; have m10 := (hEwD.out.below HBH.out).cell 10; have m11 := (hEwD.out.below HBH.out).cell 11; have m12 := (hEwD.out.below HBH.out).cell 12; have m13 := (HYwD.out.box.below HBH.out).cell 0; have m14 := (HYwD.out.box.below HBH.out).cell 1; have m15 := (HYwD.out.box.below HBH.out).cell 2; have m16 := (HYwD.out.box.below HBH.out).cell 3; have m17 := (HYwD.out.box.below HBH.out).cell 4; have m18 := (HYwD.out.box.below HBH.out).cell 5; have m19 := (HYwD.out.box.below HBH.out).cell 6; have m20 := (HYwD.out.box.below HBH.out).cell 7; have m21 := (HYwD.out.box.below HBH.out).cell 8; have m22 := (HYwD.out.box.below HBH.out).cell 9; have m23 := (HYwD.out.box.below HBH.out).cell 10; have m24 := (HYwD.out.box.below HBH.out).cell 11; have m25 := (HYwD.out.box.below HBH.out).cell 12; clear hbH))
    have hbH := HBH.out
    clear HBH HBF HSF k0 k1 k2 k3 k4 k5 k6 k7 k8 k9 k10 k11 k12 k13 k14 k15 k16 k17 k18 k19 k20 k21 k22 k23 k24 k25 m0 m1 m2 m3 m4 m5 m6 m7 m8 m9 m10 m11 m12 m13 m14 m15 m16 m17 m18 m19 m20 m21 m22 m23 m24 m25 x0 x1 x2 x3 x4 x5 x6 x7 x8 x9 x10 x11 x12 y0 y1 y2 y3 y4 y5 y6 y7 y8 y9 y10 y11 y12 lX lA
    have hAwH : Hid (Blk w.heap.size #[.slice a1 L.length c1, .int .i64 nx] wH) := hAwD.out.below hbH
    have hEwH : Hid (Blk (w.heap.size + 1) #[.int .i64 r.kind, .int .i64 r.mid, .int .i64 r.born, .string r.fr, .slice a3 r.R.length c3, .string r.bo, .int .i64 r.id, .int .i64 r.rc, .int .i64 r.vk, .int .i64 r.vc, .string r.vt, .int .i64 r.tr, .int .i64 r.due] wH) := hEwD.out.below hbH
    have HWwH : Hid (QI w2.heap.size wA.heap.size B6 u6 Q.2.1 Q.1 P6 wH) := HWwD.out.below hbH
    have HXwH : Hid (QI wA.heap.size w4.heap.size w4.heap.size (.slice z1 L.length o1) nx L Px wH) := HXwD.out.below hbH
    have HYwH : Hid (RI W5.heap.size w6.heap.size w6.heap.size (.slice z3 r.R.length o3) r wH) := HYwD.out.below hbH
    have HGwH : Hid (QI W7.heap.size w8.heap.size w8.heap.size (.slice n1 Q.1.length l1) Q.2.1 Q.1 P8 wH) := HGwD.out.below hbH
    have bwH : Below w.heap.size w wH := bwD.trans (hbH.mono bwD.size)
    have swH := hbH.size
    clear hAwD hEwD HWwD HXwD HYwD HGwD bwD
    clear hbH
    have hLN : (L.length : Int) + (itsN L : Int) + (r.R.length : Int) ≤ 1048576 := by have := HSM.out.2.1; have := hNN.out.1; have := hNN.out.2; omega
    have mI : inxs 1 L ≤ 8000000 := by have := (inxs_eq 1 L).1; omega
    have mI2 : 1 ≤ inxs 1 L := (inxs_eq 1 L).2
    have mG : inxs 1 Q.1 ≤ 16777216 := by
      have h1 := (inxs_eq 1 Q.1).1
      have h2 := applyN_itsN L nx r
      have h3 := applyN_len L nx r
      rw [HQ.out] at h2 h3
      omega
    have t0 : wH.cell? ⟨w4.heap.size, 0, none⟩ = some (.slice z1 L.length o1) := HXwH.out.box.cell 0
    have t1 : wH.cell? ⟨w4.heap.size, 1, none⟩ = some (.int .i64 nx) := HXwH.out.box.cell 1
    go_wp2_with fail
    have HMQ := markQu _ nx L Px _ w4.heap.size 1 _ HXwH.out.its HXwH.out.pb HXwH.out.own (Nat.le_refl _) (by omega)
    refine HMQ.mono ?_
    clear HMQ
    rintro e wI ⟨rfl, _, hsI⟩
    clear t0 t1
    have hAwI : Hid (Blk w.heap.size #[.slice a1 L.length c1, .int .i64 nx] wI) := hAwH.out.spanA hsI (.inl (by omega))
    have hEwI : Hid (Blk (w.heap.size + 1) #[.int .i64 r.kind, .int .i64 r.mid, .int .i64 r.born, .string r.fr, .slice a3 r.R.length c3, .string r.bo, .int .i64 r.id, .int .i64 r.rc, .int .i64 r.vk, .int .i64 r.vc, .string r.vt, .int .i64 r.tr, .int .i64 r.due] wI) := hEwH.out.spanA hsI (.inl (by omega))
    have HWwI : Hid (QI w2.heap.size wA.heap.size B6 u6 Q.2.1 Q.1 P6 wI) := HWwH.out.span hsI (by omega) (by omega)
    have HYwI : Hid (RI W5.heap.size w6.heap.size w6.heap.size (.slice z3 r.R.length o3) r wI) := HYwH.out.span hsI (by omega) (by omega)
    have HGwI : Hid (QI W7.heap.size w8.heap.size w8.heap.size (.slice n1 Q.1.length l1) Q.2.1 Q.1 P8 wI) := HGwH.out.span hsI (by omega) (by omega)
    have bwI : Below w.heap.size w wI := bwH.trans ((hsI.below (by omega)).mono (by omega))
    have swI := hsI.size
    clear hsI hAwH hEwH HWwH HYwH HGwH bwH
    clear HXwH
    generalize inxs 1 L = I at *
    have x0 : wI.cell? ⟨w6.heap.size, 0, none⟩ = some (.int .i64 r.kind) := HYwI.out.box.cell 0
    have x1 : wI.cell? ⟨w6.heap.size, 1, none⟩ = some (.int .i64 r.mid) := HYwI.out.box.cell 1
    have x2 : wI.cell? ⟨w6.heap.size, 2, none⟩ = some (.int .i64 r.born) := HYwI.out.box.cell 2
    have x3 : wI.cell? ⟨w6.heap.size, 3, none⟩ = some (.string r.fr) := HYwI.out.box.cell 3
    have x4 : wI.cell? ⟨w6.heap.size, 4, none⟩ = some (.slice z3 r.R.length o3) := HYwI.out.box.cell 4
    have x5 : wI.cell? ⟨w6.heap.size, 5, none⟩ = some (.string r.bo) := HYwI.out.box.cell 5
    have x6 : wI.cell? ⟨w6.heap.size, 6, none⟩ = some (.int .i64 r.id) := HYwI.out.box.cell 6
    have x7 : wI.cell? ⟨w6.heap.size, 7, none⟩ = some (.int .i64 r.rc) := HYwI.out.box.cell 7
    have x8 : wI.cell? ⟨w6.heap.size, 8, none⟩ = some (.int .i64 r.vk) := HYwI.out.box.cell 8
    have x9 : wI.cell? ⟨w6.heap.size, 9, none⟩ = some (.int .i64 r.vc) := HYwI.out.box.cell 9
    have x10 : wI.cell? ⟨w6.heap.size, 10, none⟩ = some (.string r.vt) := HYwI.out.box.cell 10
    have x11 : wI.cell? ⟨w6.heap.size, 11, none⟩ = some (.int .i64 r.tr) := HYwI.out.box.cell 11
    have x12 : wI.cell? ⟨w6.heap.size, 12, none⟩ = some (.int .i64 r.due) := HYwI.out.box.cell 12
    go_wp2_with fail
    have HMR := markRec r _ _ I _ HYwI.out.str mI2 (by omega)
    refine HMR.mono ?_
    clear HMR
    rintro e wJ ⟨rfl, hoJ⟩
    have hsJ : Span W5.heap.size w6.heap.size wI wJ := Span.ofV hoJ HYwI.out.own
    clear hoJ x0 x1 x2 x3 x4 x5 x6 x7 x8 x9 x10 x11 x12
    have hAwJ : Hid (Blk w.heap.size #[.slice a1 L.length c1, .int .i64 nx] wJ) := hAwI.out.spanA hsJ (.inl (by omega))
    have hEwJ : Hid (Blk (w.heap.size + 1) #[.int .i64 r.kind, .int .i64 r.mid, .int .i64 r.born, .string r.fr, .slice a3 r.R.length c3, .string r.bo, .int .i64 r.id, .int .i64 r.rc, .int .i64 r.vk, .int .i64 r.vc, .string r.vt, .int .i64 r.tr, .int .i64 r.due] wJ) := hEwI.out.spanA hsJ (.inl (by omega))
    have HWwJ : Hid (QI w2.heap.size wA.heap.size B6 u6 Q.2.1 Q.1 P6 wJ) := HWwI.out.span hsJ (by omega) (by omega)
    have HGwJ : Hid (QI W7.heap.size w8.heap.size w8.heap.size (.slice n1 Q.1.length l1) Q.2.1 Q.1 P8 wJ) := HGwI.out.span hsJ (by omega) (by omega)
    have bwJ : Below w.heap.size w wJ := bwI.trans ((hsJ.below (by omega)).mono (by omega))
    have swJ := hsJ.size
    clear hsJ hAwI hEwI HWwI HGwI bwI
    clear HYwI
    have hmi : ¬ ((I + r.R.length : Nat) : Int) < 0 := by omega
    have hmi2 : decide (((I + r.R.length : Nat) : Int) < 0) = false := by simp; omega
    obtain ⟨I2, hI2⟩ : ∃ I2 : Nat, I2 = I + r.R.length := ⟨_, rfl⟩
    rw [← hI2] at hmi hmi2 ⊢
    have t0 : wJ.cell? ⟨w8.heap.size, 0, none⟩ = some (.slice n1 Q.1.length l1) := HGwJ.out.box.cell 0
    have t1 : wJ.cell? ⟨w8.heap.size, 1, none⟩ = some (.int .i64 Q.2.1) := HGwJ.out.box.cell 1
    have u0 : wJ.cell? ⟨B6, 0, none⟩ = some (u6) := HWwJ.out.box.cell 0
    have u1 : wJ.cell? ⟨B6, 1, none⟩ = some (.int .i64 Q.2.1) := HWwJ.out.box.cell 1
    go_wp2_with fail
    refine (eqQu _ _ Q.2.1 Q.1 W7.heap.size w2.heap.size wJ ⟨P8, HGwJ.out.its⟩ ⟨P6, HWwJ.out.its⟩).mono ?_
    rintro e wK ⟨rfl, hbK⟩
    clear t0 t1 u0 u1
    have hAwK : Hid (Blk w.heap.size #[.slice a1 L.length c1, .int .i64 nx] wK) := hAwJ.out.below hbK
    have hEwK : Hid (Blk (w.heap.size + 1) #[.int .i64 r.kind, .int .i64 r.mid, .int .i64 r.born, .string r.fr, .slice a3 r.R.length c3, .string r.bo, .int .i64 r.id, .int .i64 r.rc, .int .i64 r.vk, .int .i64 r.vc, .string r.vt, .int .i64 r.tr, .int .i64 r.due] wK) := hEwJ.out.below hbK
    have HWwK : Hid (QI w2.heap.size wA.heap.size B6 u6 Q.2.1 Q.1 P6 wK) := HWwJ.out.below hbK
    have HGwK : Hid (QI W7.heap.size w8.heap.size w8.heap.size (.slice n1 Q.1.length l1) Q.2.1 Q.1 P8 wK) := HGwJ.out.below hbK
    have bwK : Below w.heap.size w wK := bwJ.trans (hbK.mono bwJ.size)
    have swK := hbK.size
    clear hAwJ hEwJ HWwJ HGwJ bwJ
    clear hbK
    have t0 : wK.cell? ⟨w8.heap.size, 0, none⟩ = some (.slice n1 Q.1.length l1) := HGwK.out.box.cell 0
    have t1 : wK.cell? ⟨w8.heap.size, 1, none⟩ = some (.int .i64 Q.2.1) := HGwK.out.box.cell 1
    go_wp2_with fail
    have HMG := markQu _ Q.2.1 Q.1 P8 _ w8.heap.size 1 _ HGwK.out.its HGwK.out.pb HGwK.out.own (Nat.le_refl _) mG
    refine HMG.mono ?_
    clear HMG
    rintro e wM ⟨rfl, hGM, hsM⟩
    have HGM : Hid (ItsP wM W7.heap.size (.slice n1 Q.1.length l1) (imks 1 Q.1) P8) := hGM
    have HGB : Hid (Blk w8.heap.size #[.slice n1 Q.1.length l1, .int .i64 Q.2.1] wM) := HGwK.out.box.spanA hsM (.inr (Nat.le_refl _))
    clear t0 t1 hGM
    have hAwM : Hid (Blk w.heap.size #[.slice a1 L.length c1, .int .i64 nx] wM) := hAwK.out.spanA hsM (.inl (by omega))
    have hEwM : Hid (Blk (w.heap.size + 1) #[.int .i64 r.kind, .int .i64 r.mid, .int .i64 r.born, .string r.fr, .slice a3 r.R.length c3, .string r.bo, .int .i64 r.id, .int .i64 r.rc, .int .i64 r.vk, .int .i64 r.vc, .string r.vt, .int .i64 r.tr, .int .i64 r.due] wM) := hEwK.out.spanA hsM (.inl (by omega))
    have HWwM : Hid (QI w2.heap.size wA.heap.size B6 u6 Q.2.1 Q.1 P6 wM) := HWwK.out.span hsM (by omega) (by omega)
    have bwM : Below w.heap.size w wM := bwK.trans ((hsM.below (by omega)).mono (by omega))
    have swM := hsM.size
    clear hsM hAwK hEwK HWwK bwK
    clear HGwK
    have t0 : wM.cell? ⟨w8.heap.size, 0, none⟩ = some (.slice n1 Q.1.length l1) := HGB.out.cell 0
    have t1 : wM.cell? ⟨w8.heap.size, 1, none⟩ = some (.int .i64 Q.2.1) := HGB.out.cell 1
    go_wp2_with fail
    refine (heldQu _ Q.2.1 Q.1 P8 _ 1 _ HGM.out (Nat.le_refl _) mG).mono ?_
    rintro e wN ⟨rfl, hbN⟩
    clear t0 t1 HGM HGB
    have hAwN : Hid (Blk w.heap.size #[.slice a1 L.length c1, .int .i64 nx] wN) := hAwM.out.below hbN
    have hEwN : Hid (Blk (w.heap.size + 1) #[.int .i64 r.kind, .int .i64 r.mid, .int .i64 r.born, .string r.fr, .slice a3 r.R.length c3, .string r.bo, .int .i64 r.id, .int .i64 r.rc, .int .i64 r.vk, .int .i64 r.vc, .string r.vt, .int .i64 r.tr, .int .i64 r.due] wN) := hEwM.out.below hbN
    have HWwN : Hid (QI w2.heap.size wA.heap.size B6 u6 Q.2.1 Q.1 P6 wN) := HWwM.out.below hbN
    have bwN : Below w.heap.size w wN := bwM.trans (hbN.mono bwM.size)
    have swN := hbN.size
    clear hAwM hEwM HWwM bwM
    clear hbN
    generalize inxs 1 Q.1 = J at *
    have hj : ¬ ((J : Nat) : Int) < 0 := by omega
    have t0 : wN.cell? ⟨w.heap.size, 0, none⟩ = some (.slice a1 L.length c1) := hAwN.out.cell 0
    have t1 : wN.cell? ⟨w.heap.size, 1, none⟩ = some (.int .i64 nx) := hAwN.out.cell 1
    have x0 : wN.cell? ⟨w.heap.size + 1, 0, none⟩ = some (.int .i64 r.kind) := hEwN.out.cell 0
    have x1 : wN.cell? ⟨w.heap.size + 1, 1, none⟩ = some (.int .i64 r.mid) := hEwN.out.cell 1
    have x2 : wN.cell? ⟨w.heap.size + 1, 2, none⟩ = some (.int .i64 r.born) := hEwN.out.cell 2
    have x3 : wN.cell? ⟨w.heap.size + 1, 3, none⟩ = some (.string r.fr) := hEwN.out.cell 3
    have x4 : wN.cell? ⟨w.heap.size + 1, 4, none⟩ = some (.slice a3 r.R.length c3) := hEwN.out.cell 4
    have x5 : wN.cell? ⟨w.heap.size + 1, 5, none⟩ = some (.string r.bo) := hEwN.out.cell 5
    have x6 : wN.cell? ⟨w.heap.size + 1, 6, none⟩ = some (.int .i64 r.id) := hEwN.out.cell 6
    have x7 : wN.cell? ⟨w.heap.size + 1, 7, none⟩ = some (.int .i64 r.rc) := hEwN.out.cell 7
    have x8 : wN.cell? ⟨w.heap.size + 1, 8, none⟩ = some (.int .i64 r.vk) := hEwN.out.cell 8
    have x9 : wN.cell? ⟨w.heap.size + 1, 9, none⟩ = some (.int .i64 r.vc) := hEwN.out.cell 9
    have x10 : wN.cell? ⟨w.heap.size + 1, 10, none⟩ = some (.string r.vt) := hEwN.out.cell 10
    have x11 : wN.cell? ⟨w.heap.size + 1, 11, none⟩ = some (.int .i64 r.tr) := hEwN.out.cell 11
    have x12 : wN.cell? ⟨w.heap.size + 1, 12, none⟩ = some (.int .i64 r.due) := hEwN.out.cell 12
    go_wp2_with fail
    go_cut [15, 16] (fun pv xv wx => ∃ B u P8, pv = .pointer (some ⟨B, 0, none⟩) ∧ xv = .bool Q.2.2 ∧ Hid (QR wN.heap.size B Q.1 Q.2.1 u P8 wN wx))
    case first =>
      have HBc : Hid (Below wN.heap.size wN wN) := (Below.refl _ _ : Below _ _ _)
      have zA : w.heap.size < wN.heap.size := hAwN.out.lt
      have zB : w.heap.size + 1 < wN.heap.size := hEwN.out.lt
      go_region_held3 (fun w' => w'.cell? ⟨w.heap.size, 0, none⟩ = some (.slice a1 L.length c1) ∧ w'.cell? ⟨w.heap.size, 1, none⟩ = some (.int .i64 nx) ∧ w'.cell? ⟨w.heap.size + 1, 0, none⟩ = some (.int .i64 r.kind) ∧ w'.cell? ⟨w.heap.size + 1, 1, none⟩ = some (.int .i64 r.mid) ∧ w'.cell? ⟨w.heap.size + 1, 2, none⟩ = some (.int .i64 r.born) ∧ w'.cell? ⟨w.heap.size + 1, 3, none⟩ = some (.string r.fr) ∧ w'.cell? ⟨w.heap.size + 1, 4, none⟩ = some (.slice a3 r.R.length c3) ∧ w'.cell? ⟨w.heap.size + 1, 5, none⟩ = some (.string r.bo) ∧ w'.cell? ⟨w.heap.size + 1, 6, none⟩ = some (.int .i64 r.id) ∧ w'.cell? ⟨w.heap.size + 1, 7, none⟩ = some (.int .i64 r.rc) ∧ w'.cell? ⟨w.heap.size + 1, 8, none⟩ = some (.int .i64 r.vk) ∧ w'.cell? ⟨w.heap.size + 1, 9, none⟩ = some (.int .i64 r.vc) ∧ w'.cell? ⟨w.heap.size + 1, 10, none⟩ = some (.string r.vt) ∧ w'.cell? ⟨w.heap.size + 1, 11, none⟩ = some (.int .i64 r.tr) ∧ w'.cell? ⟨w.heap.size + 1, 12, none⟩ = some (.int .i64 r.due)) (first | (simp only [j0, j1, o0, o1, o2, o3, o4, o5, o6, o7, o8, o9, o10, o11, o12, and_self]; done) | go_keep) (first | (go_at_call 7; refine (HTQ.out _ (bwN.trans (Below.mono (by repeat (first | exact HBc.out | refine Below.drew ?_ | refine Below.alloc ?_ HBc.out.size _)) bwN.size))).mono ?_; rintro e wS ⟨⟨pS, qS, rfl, rS⟩, hb⟩; have HSr : Hid (Its wS wN.heap.size (.slice pS L.length qS) L) := rS.le (Below.size (B := wN.heap.size) (by repeat (first | exact HBc.out | refine Below.drew ?_ | refine Below.alloc ?_ HBc.out.size _))); (first | (have HNz : Hid (wN.heap.size ≤ _ ∧ Blk _ #[.slice none 0 0, .int .i64 0] wS) := ⟨HNz.out.1, Blk.below HNz.out.2 (of_drew hb)⟩) | (have HNz : Hid (wN.heap.size ≤ _ ∧ Blk _ #[.slice none 0 0, .int .i64 0] wS) := ⟨HNz.out.1, Blk.below HNz.out.2 hb⟩) | (have HNz : Hid (wN.heap.size ≤ _ ∧ Blk _ #[.slice none 0 0, .int .i64 0] wS) := ⟨HBc.out.size, Blk.below (Blk.new _ _ _) (of_drew hb)⟩) | (have HNz : Hid (wN.heap.size ≤ _ ∧ Blk _ #[.slice none 0 0, .int .i64 0] wS) := ⟨HBc.out.size, Blk.below (Blk.new _ _ _) hb⟩) | skip); have HBc : Hid (Below wN.heap.size wN wS) := Below.trans (by repeat (first | exact HBc.out | refine Below.drew ?_ | refine Below.alloc ?_ HBc.out.size _)) (hb.mono (Below.size (B := wN.heap.size) (by repeat (first | exact HBc.out | refine Below.drew ?_ | refine Below.alloc ?_ HBc.out.size _)))); have hAn : Hid (Blk w.heap.size #[.slice a1 L.length c1, .int .i64 nx] wS) := Blk.below hAwN.out HBc.out; have hEn : Hid (Blk (w.heap.size + 1) #[.int .i64 r.kind, .int .i64 r.mid, .int .i64 r.born, .string r.fr, .slice a3 r.R.length c3, .string r.bo, .int .i64 r.id, .int .i64 r.rc, .int .i64 r.vk, .int .i64 r.vc, .string r.vt, .int .i64 r.tr, .int .i64 r.due] wS) := Blk.below hEwN.out HBc.out; have j0 : wS.cell? ⟨w.heap.size, 0, none⟩ = some (.slice a1 L.length c1) := hAn.out.cell 0; have j1 : wS.cell? ⟨w.heap.size, 1, none⟩ = some (.int .i64 nx) := hAn.out.cell 1; have o0 : wS.cell? ⟨w.heap.size + 1, 0, none⟩ = some (.int .i64 r.kind) := hEn.out.cell 0; have o1 : wS.cell? ⟨w.heap.size + 1, 1, none⟩ = some (.int .i64 r.mid) := hEn.out.cell 1; have o2 : wS.cell? ⟨w.heap.size + 1, 2, none⟩ = some (.int .i64 r.born) := hEn.out.cell 2; have o3 : wS.cell? ⟨w.heap.size + 1, 3, none⟩ = some (.string r.fr) := hEn.out.cell 3; have o4 : wS.cell? ⟨w.heap.size + 1, 4, none⟩ = some (.slice a3 r.R.length c3) := hEn.out.cell 4; have o5 : wS.cell? ⟨w.heap.size + 1, 5, none⟩ = some (.string r.bo) := hEn.out.cell 5; have o6 : wS.cell? ⟨w.heap.size + 1, 6, none⟩ = some (.int .i64 r.id) := hEn.out.cell 6; have o7 : wS.cell? ⟨w.heap.size + 1, 7, none⟩ = some (.int .i64 r.rc) := hEn.out.cell 7; have o8 : wS.cell? ⟨w.heap.size + 1, 8, none⟩ = some (.int .i64 r.vk) := hEn.out.cell 8; have o9 : wS.cell? ⟨w.heap.size + 1, 9, none⟩ = some (.int .i64 r.vc) := hEn.out.cell 9; have o10 : wS.cell? ⟨w.heap.size + 1, 10, none⟩ = some (.string r.vt) := hEn.out.cell 10; have o11 : wS.cell? ⟨w.heap.size + 1, 11, none⟩ = some (.int .i64 r.tr) := hEn.out.cell 11; have o12 : wS.cell? ⟨w.heap.size + 1, 12, none⟩ = some (.int .i64 r.due) := hEn.out.cell 12; have zAn : w.heap.size < wS.heap.size := hAn.out.lt; have zBn : w.heap.size + 1 < wS.heap.size := hEn.out.lt; clear rS hb) | (go_at_call 8; refine (HTR.out _ (bwN.trans (Below.mono (by repeat (first | exact HBc.out | refine Below.drew ?_ | refine Below.alloc ?_ HBc.out.size _)) bwN.size))).mono ?_; rintro e wE ⟨⟨pE, qE, rfl, rE⟩, hb⟩; have HEr : Hid (Strs wE wN.heap.size (.slice pE r.R.length qE) r.R) := strs_le rE (Below.size (B := wN.heap.size) (by repeat (first | exact HBc.out | refine Below.drew ?_ | refine Below.alloc ?_ HBc.out.size _))); (first | (have HSr : Hid (Its wE wN.heap.size (.slice pS L.length qS) L) := HSr.out.below (Below.trans (by repeat (first | exact Below.refl _ _ | refine Below.drew ?_ | refine Below.alloc ?_ (Nat.le_refl _) _)) (hb.mono (Below.size (B := wS.heap.size) (w := wS) (by repeat (first | exact Below.refl _ _ | refine Below.drew ?_ | refine Below.alloc ?_ (Nat.le_refl _) _))))) (Nat.le_refl _)) | skip); (first | (have HNz : Hid (wN.heap.size ≤ _ ∧ Blk _ #[.slice none 0 0, .int .i64 0] wE) := ⟨HNz.out.1, Blk.below HNz.out.2 (of_drew hb)⟩) | (have HNz : Hid (wN.heap.size ≤ _ ∧ Blk _ #[.slice none 0 0, .int .i64 0] wE) := ⟨HNz.out.1, Blk.below HNz.out.2 hb⟩) | (have HNz : Hid (wN.heap.size ≤ _ ∧ Blk _ #[.slice none 0 0, .int .i64 0] wE) := ⟨HBc.out.size, Blk.below (Blk.new _ _ _) (of_drew hb)⟩) | (have HNz : Hid (wN.heap.size ≤ _ ∧ Blk _ #[.slice none 0 0, .int .i64 0] wE) := ⟨HBc.out.size, Blk.below (Blk.new _ _ _) hb⟩) | skip); have HBc : Hid (Below wN.heap.size wN wE) := Below.trans (by repeat (first | exact HBc.out | refine Below.drew ?_ | refine Below.alloc ?_ HBc.out.size _)) (hb.mono (Below.size (B := wN.heap.size) (by repeat (first | exact HBc.out | refine Below.drew ?_ | refine Below.alloc ?_ HBc.out.size _)))); have hAn : Hid (Blk w.heap.size #[.slice a1 L.length c1, .int .i64 nx] wE) := Blk.below hAwN.out HBc.out; have hEn : Hid (Blk (w.heap.size + 1) #[.int .i64 r.kind, .int .i64 r.mid, .int .i64 r.born, .string r.fr, .slice a3 r.R.length c3, .string r.bo, .int .i64 r.id, .int .i64 r.rc, .int .i64 r.vk, .int .i64 r.vc, .string r.vt, .int .i64 r.tr, .int .i64 r.due] wE) := Blk.below hEwN.out HBc.out; have j0 : wE.cell? ⟨w.heap.size, 0, none⟩ = some (.slice a1 L.length c1) := hAn.out.cell 0; have j1 : wE.cell? ⟨w.heap.size, 1, none⟩ = some (.int .i64 nx) := hAn.out.cell 1; have o0 : wE.cell? ⟨w.heap.size + 1, 0, none⟩ = some (.int .i64 r.kind) := hEn.out.cell 0; have o1 : wE.cell? ⟨w.heap.size + 1, 1, none⟩ = some (.int .i64 r.mid) := hEn.out.cell 1; have o2 : wE.cell? ⟨w.heap.size + 1, 2, none⟩ = some (.int .i64 r.born) := hEn.out.cell 2; have o3 : wE.cell? ⟨w.heap.size + 1, 3, none⟩ = some (.string r.fr) := hEn.out.cell 3; have o4 : wE.cell? ⟨w.heap.size + 1, 4, none⟩ = some (.slice a3 r.R.length c3) := hEn.out.cell 4; have o5 : wE.cell? ⟨w.heap.size + 1, 5, none⟩ = some (.string r.bo) := hEn.out.cell 5; have o6 : wE.cell? ⟨w.heap.size + 1, 6, none⟩ = some (.int .i64 r.id) := hEn.out.cell 6; have o7 : wE.cell? ⟨w.heap.size + 1, 7, none⟩ = some (.int .i64 r.rc) := hEn.out.cell 7; have o8 : wE.cell? ⟨w.heap.size + 1, 8, none⟩ = some (.int .i64 r.vk) := hEn.out.cell 8; have o9 : wE.cell? ⟨w.heap.size + 1, 9, none⟩ = some (.int .i64 r.vc) := hEn.out.cell 9; have o10 : wE.cell? ⟨w.heap.size + 1, 10, none⟩ = some (.string r.vt) := hEn.out.cell 10; have o11 : wE.cell? ⟨w.heap.size + 1, 11, none⟩ = some (.int .i64 r.tr) := hEn.out.cell 11; have o12 : wE.cell? ⟨w.heap.size + 1, 12, none⟩ = some (.int .i64 r.due) := hEn.out.cell 12; have zAn : w.heap.size < wE.heap.size := hAn.out.lt; have zBn : w.heap.size + 1 < wE.heap.size := hEn.out.lt; clear rE hb) | (go_at_call 9; refine (HIA.out _ _ _ wN.heap.size wN.heap.size (bwN.trans (Below.mono (by repeat (first | exact HBc.out | refine Below.drew ?_ | refine Below.alloc ?_ HBc.out.size _)) bwN.size)) (Below.size (B := wN.heap.size) (by repeat (first | exact HBc.out | refine Below.drew ?_ | refine Below.alloc ?_ HBc.out.size _))) (HSr.out.below (by repeat (first | exact Below.refl _ _ | refine Below.drew ?_ | refine Below.alloc ?_ (Nat.le_refl _) _)) (Nat.le_refl _)) (strs_below HEr.out (by repeat (first | exact Below.refl _ _ | refine Below.drew ?_ | refine Below.alloc ?_ (Nat.le_refl _) _)) (Nat.le_refl _))).mono ?_; rintro e w8 ⟨⟨n1, l1, P8, rfl, S8⟩, hb⟩; (first | (have HAP : Hid (NeB _ (.slice n1 Q.1.length l1) P8) := NeB.lt S8 HNz.out.2.lt) | (have HAP : Hid (NeB wE.heap.size (.slice n1 Q.1.length l1) P8) := NeB.lt S8 (alloc_ltA _ _)) | (have HAP : Hid (NeB wS.heap.size (.slice n1 Q.1.length l1) P8) := NeB.lt S8 (alloc_ltA _ _)) | skip); have HS8 : Hid (ItsP w8 wN.heap.size (.slice n1 Q.1.length l1) Q.1 P8) := S8.le (Below.size (B := wN.heap.size) (by repeat (first | exact HBc.out | refine Below.drew ?_ | refine Below.alloc ?_ HBc.out.size _))); (first | (have HNz : Hid (wN.heap.size ≤ _ ∧ Blk _ #[.slice none 0 0, .int .i64 0] w8) := ⟨HNz.out.1, Blk.below HNz.out.2 (of_drew hb)⟩) | (have HNz : Hid (wN.heap.size ≤ _ ∧ Blk _ #[.slice none 0 0, .int .i64 0] w8) := ⟨HNz.out.1, Blk.below HNz.out.2 hb⟩) | (have HNz : Hid (wN.heap.size ≤ _ ∧ Blk _ #[.slice none 0 0, .int .i64 0] w8) := ⟨HBc.out.size, Blk.below (Blk.new _ _ _) (of_drew hb)⟩) | (have HNz : Hid (wN.heap.size ≤ _ ∧ Blk _ #[.slice none 0 0, .int .i64 0] w8) := ⟨HBc.out.size, Blk.below (Blk.new _ _ _) hb⟩) | skip); have HBc : Hid (Below wN.heap.size wN w8) := Below.trans (by repeat (first | exact HBc.out | refine Below.drew ?_ | refine Below.alloc ?_ HBc.out.size _)) (hb.mono (Below.size (B := wN.heap.size) (by repeat (first | exact HBc.out | refine Below.drew ?_ | refine Below.alloc ?_ HBc.out.size _)))); have hAn : Hid (Blk w.heap.size #[.slice a1 L.length c1, .int .i64 nx] w8) := Blk.below hAwN.out HBc.out; have hEn : Hid (Blk (w.heap.size + 1) #[.int .i64 r.kind, .int .i64 r.mid, .int .i64 r.born, .string r.fr, .slice a3 r.R.length c3, .string r.bo, .int .i64 r.id, .int .i64 r.rc, .int .i64 r.vk, .int .i64 r.vc, .string r.vt, .int .i64 r.tr, .int .i64 r.due] w8) := Blk.below hEwN.out HBc.out; have j0 : w8.cell? ⟨w.heap.size, 0, none⟩ = some (.slice a1 L.length c1) := hAn.out.cell 0; have j1 : w8.cell? ⟨w.heap.size, 1, none⟩ = some (.int .i64 nx) := hAn.out.cell 1; have o0 : w8.cell? ⟨w.heap.size + 1, 0, none⟩ = some (.int .i64 r.kind) := hEn.out.cell 0; have o1 : w8.cell? ⟨w.heap.size + 1, 1, none⟩ = some (.int .i64 r.mid) := hEn.out.cell 1; have o2 : w8.cell? ⟨w.heap.size + 1, 2, none⟩ = some (.int .i64 r.born) := hEn.out.cell 2; have o3 : w8.cell? ⟨w.heap.size + 1, 3, none⟩ = some (.string r.fr) := hEn.out.cell 3; have o4 : w8.cell? ⟨w.heap.size + 1, 4, none⟩ = some (.slice a3 r.R.length c3) := hEn.out.cell 4; have o5 : w8.cell? ⟨w.heap.size + 1, 5, none⟩ = some (.string r.bo) := hEn.out.cell 5; have o6 : w8.cell? ⟨w.heap.size + 1, 6, none⟩ = some (.int .i64 r.id) := hEn.out.cell 6; have o7 : w8.cell? ⟨w.heap.size + 1, 7, none⟩ = some (.int .i64 r.rc) := hEn.out.cell 7; have o8 : w8.cell? ⟨w.heap.size + 1, 8, none⟩ = some (.int .i64 r.vk) := hEn.out.cell 8; have o9 : w8.cell? ⟨w.heap.size + 1, 9, none⟩ = some (.int .i64 r.vc) := hEn.out.cell 9; have o10 : w8.cell? ⟨w.heap.size + 1, 10, none⟩ = some (.string r.vt) := hEn.out.cell 10; have o11 : w8.cell? ⟨w.heap.size + 1, 11, none⟩ = some (.int .i64 r.tr) := hEn.out.cell 11; have o12 : w8.cell? ⟨w.heap.size + 1, 12, none⟩ = some (.int .i64 r.due) := hEn.out.cell 12; have zAn : w.heap.size < w8.heap.size := hAn.out.lt; have zBn : w.heap.size + 1 < w8.heap.size := hEn.out.lt; (try (have h0 : w8.cell? ⟨_, 0, none⟩ = some (.slice none 0 0) := HNz.out.2.cell 0; have h1 : w8.cell? ⟨_, 1, none⟩ = some (.int .i64 0) := HNz.out.2.cell 1; have g0 : w8.frozen? ⟨_, 0, none⟩ = false := HNz.out.2.free 0; have g1 : w8.frozen? ⟨_, 1, none⟩ = false := HNz.out.2.free 1; have q1 : ¬ _ = w.heap.size := Nat.ne_of_gt (Nat.lt_of_lt_of_le zA HNz.out.1); have q2 : ¬ w.heap.size = _ := Nat.ne_of_lt (Nat.lt_of_lt_of_le zA HNz.out.1); have q3 : ¬ _ = w.heap.size + 1 := Nat.ne_of_gt (Nat.lt_of_lt_of_le zB HNz.out.1); have q4 : ¬ w.heap.size + 1 = _ := Nat.ne_of_lt (Nat.lt_of_lt_of_le zB HNz.out.1))); clear S8 hb))
      all_goals
        go_wp2_with fail
        go_meet
        first
          | exact ⟨_, _, P8, rfl, rfl, ⟨HNz.out.1, (HNz.out.2.set (i := 0) (by simp)).set (i := 1) (by simp), (HS8.out.setNe HAP.out _).setNe HAP.out _, HAP.out, (HBc.out.setCell HNz.out.1 _).setCell HNz.out.1 _⟩⟩
          | exact ⟨_, _, P8, rfl, rfl, ⟨HBc.out.size, Blk.new w8 _ _, HS8.out.below (below1 _ _) (Nat.le_refl _), NeB.of HS8.out (Nat.le_refl _), HBc.out.trans ((below1 _ _).mono HBc.out.size)⟩⟩
    case rest =>
      obtain ⟨B7, u7, P7, rfl, rfl, HF1⟩ := hcut
      have fBw := HF1.out.2.2.2.2
      have HWc : Hid (QI w2.heap.size wA.heap.size B6 u6 Q.2.1 Q.1 P6 wc) := HWwN.out.below fBw
      have HGc : Hid (QI wN.heap.size wc.heap.size B7 u7 Q.2.1 Q.1 P7 wc) := QI.ofR HF1.out
      have bc : Below w.heap.size w wc := bwN.trans (fBw.mono bwN.size)
      clear t0 t1 x0 x1 x2 x3 x4 x5 x6 x7 x8 x9 x10 x11 x12
      have t0 : wc.cell? ⟨B7, 0, none⟩ = some u7 := HGc.out.box.cell 0
      have t1 : wc.cell? ⟨B7, 1, none⟩ = some (.int .i64 Q.2.1) := HGc.out.box.cell 1
      have u0 : wc.cell? ⟨B6, 0, none⟩ = some u6 := HWc.out.box.cell 0
      have u1 : wc.cell? ⟨B6, 1, none⟩ = some (.int .i64 Q.2.1) := HWc.out.box.cell 1
      go_wp2_with fail
      refine (eqQu _ _ Q.2.1 Q.1 wN.heap.size w2.heap.size wc ⟨P7, HGc.out.its⟩ ⟨P6, HWc.out.its⟩).mono ?_
      rintro e wP ⟨rfl, hbP⟩
      go_wp2
      go_ret
      exact ⟨rfl, bc.trans (hbP.mono bc.size)⟩
end Go.Proofs.YtlolnfpfipnfeaaGreat
namespace Go.Proofs.YtlolnfpfipnfeaaGreat
open Go.ChangeShapes Go.WideShapes Go.ChangeAt Go.RowKit Go.Deep
open Go.ChangeMaps (open_string)

set_option maxRecDepth 100000 in
theorem openStrsI {H : Type} {enc : TypeId × Value → H} {W : World} {fuel : Nat} {v : Value} {y : DataW H × List MemPlace} (hf : DataW.trod enc Tryz.prog W 0 (fun _ => true) true fuel 25 [v] = some y) : ∃ L, ArgS W v L := by
  rcases open_strings Tryz.underlying25 Tryz.underlying9 (by kernel_rfl) hf with ⟨hcs, _⟩ | ⟨a, len, cap, ss, hcs, _, hl, hm, hz, _, hcell, hws⟩
  · simp only [List.cons.injEq, and_true] at hcs
    subst hcs
    exact ⟨[], Nat.zero_le _, (fun s hs => by cases hs), .inl ⟨rfl, _, _, rfl⟩⟩
  · simp only [List.cons.injEq, and_true] at hcs
    subst hcs
    have hz' : ss.length = cap := by simpa using hz
    by_cases h0 : len = 0
    · subst h0
      exact ⟨[], Nat.zero_le _, (fun s hs => by cases hs), .inl ⟨rfl, _, _, rfl⟩⟩
    · obtain ⟨b, off, spot⟩ := a
      have hc0 := hcell 0 (by omega)
      have hspot : spot = none := by simpa [Addr.add] using World.cell?_spot hc0
      subst hspot
      have hlt : (ss.take len).length = len := by simp; omega
      have ea : ∀ i, (⟨b, off, none⟩ : Addr).add i = ⟨b, off + i, none⟩ := fun i => by by_cases hi0 : i = 0 <;> simp [Addr.add, hi0]
      rw [ea] at hc0
      refine ⟨ss.take len, by rw [hlt]; omega, fun s hs => hws s (List.mem_of_mem_take hs), .inr ⟨b, off, cap, by rw [hlt], block_of hc0, fun i hi => ?_⟩⟩
      rw [hlt] at hi
      have hci := hcell i (by omega)
      rw [ea] at hci
      rw [hci]
      congr 2
      rw [List.getD_eq_getElem?_getD, List.getElem?_eq_getElem (by omega)]
      simp

set_option maxRecDepth 100000 in
theorem openIt {H : Type} {enc : TypeId × Value → H} {W : World} {n : Nat} {u0 u1 u2 u3 u4 u5 u6 u7 u8 : Value} {y : DataW H × List MemPlace} (h : DataW.trod enc Tryz.prog W 0 (fun _ => true) true n 78 [u0, u1, u2, u3, u4, u5, u6, u7, u8] = some y) :
    ∃ x : It, [u0, u1, u2, u3, u4, u5, u6, u7, u8] = ic x (u3, u5) ∧ ArgIt W x u3 u5 := by
  have cI : Tryz.prog.cellsOf 3 = 1 := by kernel_rfl
  have cL : Tryz.prog.cellsOf 2 = 1 := by kernel_rfl
  have cS : Tryz.prog.cellsOf 9 = 1 := by kernel_rfl
  have cB : Tryz.prog.cellsOf 4 = 1 := by kernel_rfl
  have cSS : Tryz.prog.cellsOf 25 = 1 := by kernel_rfl
  have cSV : Tryz.prog.cellsOf 76 = 1 := by kernel_rfl
  have cM : Tryz.prog.cellsOf 27 = 5 := by kernel_rfl
  obtain ⟨xs, k, hk, hxy, _, hxl, hf⟩ := DataW.trod_struct Tryz.underlying78 h
  match xs, hxl with
  | [y0, y1, y2, y3, y4], _ =>
    have g0 := hf 0 _ rfl
    have g1 := hf 1 _ rfl
    have g2 := hf 2 _ rfl
    have g3 := hf 3 _ rfl
    have g4 := hf 4 _ rfl
    simp [cI, cL, cB, cSV, cM] at g0 g1 g2 g3 g4
    obtain ⟨zs, k', _, _, _, hzl, hg⟩ := DataW.trod_struct Tryz.underlying27 g0
    match zs, hzl with
    | [z0, z1, z2, z3, z4], _ =>
      have m0 := hg 0 _ rfl
      have m1 := hg 1 _ rfl
      have m2 := hg 2 _ rfl
      have m3 := hg 3 _ rfl
      have m4 := hg 4 _ rfl
      simp [cI, cL, cS, cSS] at m0 m1 m2 m3 m4
      obtain ⟨a0, e0, _⟩ := DataW.trod_int Tryz.underlying3 m0
      obtain ⟨a1, e1, _⟩ := DataW.trod_int Tryz.underlying2 m1
      obtain ⟨a2, e2, _, s2⟩ := DataW.trod_string Tryz.underlying9 m2
      obtain ⟨R, hR⟩ := openStrsI m3
      obtain ⟨a4, e4, _, s4⟩ := DataW.trod_string Tryz.underlying9 m4
      obtain ⟨V, hV⟩ := openVds g1
      obtain ⟨a6, e6, _⟩ := DataW.trod_int Tryz.underlying3 g2
      obtain ⟨a7, e7, _⟩ := DataW.trod_int Tryz.underlying2 g3
      obtain ⟨a8, e8, _⟩ := DataW.trod_bool Tryz.underlying4 g4
      simp only [List.cons.injEq, and_true] at e0 e1 e2 e4 e6 e7 e8
      subst e0 e1 e2 e4 e6 e7 e8
      exact ⟨⟨a0, a1, a2, R, a4, V, a6, a7, a8⟩, rfl, hR, hV, s2, s4⟩

set_option maxRecDepth 100000 in
theorem openIts {H : Type} {enc : TypeId × Value → H} {W : World} {n : Nat} {v : Value} {y : DataW H × List MemPlace} (h : DataW.trod enc Tryz.prog W 0 (fun _ => true) true n 22 [v] = some y) : ∃ L, ArgI W v L := by
  rcases open_slice Tryz.underlying22 h with ⟨hcs, _⟩ | ⟨a, len, cap, m, n', D, Pl, hcs, _, hl, hm, hmm, _, hx⟩
  · simp only [List.cons.injEq, and_true] at hcs
    subst hcs
    exact ⟨[], Nat.zero_le _, .inl ⟨rfl, _, _, rfl⟩⟩
  · simp only [List.cons.injEq, and_true] at hcs
    subst hcs
    by_cases h0 : len = 0
    · subst h0; exact ⟨[], Nat.zero_le _, .inl ⟨rfl, _, _, rfl⟩⟩
    · have hlm : len ≤ m := by rw [hmm]; simp; omega
      have ce : Tryz.prog.cellsOf 78 = 9 := by kernel_rfl
      have hvd : ∀ i, i < m → ∃ q : It × Value × Value, ArgIt W q.1 q.2.1 q.2.2 ∧ ∀ j, j < 9 → W.cell? (a.add (i * 9 + j)) = (ic q.1 q.2)[j]? := by
        intro i hi
        obtain ⟨cs', h1, h2⟩ := hx i hi
        rw [ce] at h1
        obtain ⟨_, hlen, hcell⟩ := World.cells?_some h1
        match cs', hlen with
        | [u0, u1, u2, u3, u4, u5, u6, u7, u8], _ =>
          obtain ⟨x, hx, hA⟩ := openIt h2
          refine ⟨(x, u3, u5), hA, fun j hj => ?_⟩
          have q := hcell j (by omega)
          rw [add_add] at q
          rw [q, hx]
      haveI : Inhabited (It × Value × Value) := ⟨(it0, .slice none 0 0, .slice none 0 0)⟩
      obtain ⟨Q, hQ⟩ := choose_lt hvd
      obtain ⟨b, off, spot⟩ := a
      have hc0 := (hQ 0 (by omega)).2 0 (by decide)
      have hc1 : W.cell? ((⟨b, off, spot⟩ : Addr).add (0 * 9 + 0)) = some (.int .i64 (Q 0).1.id) := hc0
      have hspot : spot = none := by simpa [Addr.add] using World.cell?_spot hc1
      subst hspot
      have ea : ∀ i, (⟨b, off, none⟩ : Addr).add i = ⟨b, off + i, none⟩ := fun i => by by_cases hi0 : i = 0 <;> simp [Addr.add, hi0]
      rw [ea] at hc1
      refine ⟨(List.range len).map fun i => (Q i).1, by simp; omega, .inr ⟨b, off, cap, by simp, block_of hc1, fun i hi => ?_⟩⟩
      simp only [List.length_map, List.length_range] at hi
      obtain ⟨hA, hC⟩ := hQ i (by omega)
      refine ⟨(Q i).2.1, (Q i).2.2, ?_, by simpa using hA⟩
      have cl : ∀ j, j < 9 → W.cell? ⟨b, off + i * 9 + j, none⟩ = (ic (Q i).1 (Q i).2)[j]? := fun j hj => by
        rw [← hC j hj, ea, Nat.add_assoc]
      simp only [List.getElem_map, List.getElem_range]
      exact ⟨cl 0 (by decide), cl 1 (by decide), cl 2 (by decide), cl 3 (by decide), cl 4 (by decide), cl 5 (by decide), cl 6 (by decide), cl 7 (by decide), cl 8 (by decide)⟩

set_option maxRecDepth 100000 in
theorem openQu {H : Type} {enc : TypeId × Value → H} {W : World} {b0 : Nat} {v : Value} {d : DataW H} {p : List MemPlace} (hv : Value.okWide Tryz.prog W .any b0 24 v) (h : DataW.Trod enc Tryz.prog W 0 (fun _ => true) true 24 v d p) :
    ∃ (u : Value) (nx : Int) (L : List It), v = .agg #[u, .int .i64 nx] ∧ ArgI W u L := by
  obtain ⟨v0, v1, y0, y1, n, rfl, _, _, h0, h1⟩ := Joins.open_agg2 Tryz.underlying24 (by kernel_rfl) (by kernel_rfl) hv h
  obtain ⟨nx, e1, _⟩ := DataW.trod_int Tryz.underlying3 h1
  obtain ⟨L, hM⟩ := openIts h0
  simp only [List.cons.injEq, and_true] at e1
  subst e1
  exact ⟨v0, nx, L, rfl, hM⟩
end Go.Proofs.YtlolnfpfipnfeaaGreat
