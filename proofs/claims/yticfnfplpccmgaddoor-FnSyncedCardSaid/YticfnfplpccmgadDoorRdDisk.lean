import Derived.Test.YticfnfplpccmgadDoorRdJour
import Derived.Test.YticfnfplpccmgadDoorSteps
import Derived.Deep.DeepCutAuto
namespace Go.Proofs.YticfnfplpccmgadDoor
open Go.ChangeShapes Go.WideShapes Go.ChangeAt Go.RowKit

/-- a disk in block D, and one for the answer in block R -/
def TD (w : World) (R D : Nat) (m l : ByteArray) (h : Bool) (t x : ByteArray) : Prop :=
  DiskAt w D m l h t x ∧ DiskAt w R ⟨#[]⟩ ⟨#[]⟩ false ⟨#[]⟩ ⟨#[]⟩ ∧ (∀ o, w.frozen? ⟨D, o, none⟩ = false) ∧ (∀ o, w.frozen? ⟨R, o, none⟩ = false) ∧ D < w.heap.size ∧ R < w.heap.size
set_option maxRecDepth 100000 in
theorem diskAt_off {w w1 : World} {b c : Nat} {m l : ByteArray} {h : Bool} {t x : ByteArray} (d : DiskAt w c m l h t x) (ho : Off b w w1) (hc : c < w.heap.size) (hb : c ≠ b) : DiskAt w1 c m l h t x :=
  ⟨(ho.cell hc hb).trans d.1, (ho.cell hc hb).trans d.2.1, (ho.cell hc hb).trans d.2.2.1, (ho.cell hc hb).trans d.2.2.2.1, (ho.cell hc hb).trans d.2.2.2.2⟩
theorem TD.off {w w1 : World} {b R D : Nat} {m l : ByteArray} {h : Bool} {t x : ByteArray} (d : TD w R D m l h t x) (ho : Off b w w1) (hR : R ≠ b) (hD : D ≠ b) : TD w1 R D m l h t x :=
  ⟨diskAt_off d.1 ho d.2.2.2.2.1 hD, diskAt_off d.2.1 ho d.2.2.2.2.2 hR, fun o => (ho.frozen d.2.2.2.2.1 hD).trans (d.2.2.1 o), fun o => (ho.frozen d.2.2.2.2.2 hR).trans (d.2.2.2.1 o), Nat.lt_of_lt_of_le d.2.2.2.2.1 ho.size, Nat.lt_of_lt_of_le d.2.2.2.2.2 ho.size⟩
set_option maxRecDepth 100000 in
theorem TD.set {w : World} {R D i : Nat} {v : Value} {m l : ByteArray} {h : Bool} {t x : ByteArray} {m' l' : ByteArray} {h' : Bool} {t' x' : ByteArray} (d : TD w R D m l h t x) (hne : D ≠ R) (d1 : DiskAt (w.setCell ⟨D, i, none⟩ v) D m' l' h' t' x') : TD (w.setCell ⟨D, i, none⟩ v) R D m' l' h' t' x' :=
  ⟨d1, diskAt_far d.2.1 hne, fun o => by simpa using d.2.2.1 o, fun o => by simpa using d.2.2.2.1 o, by simpa using d.2.2.2.2.1, by simpa using d.2.2.2.2.2⟩

/-- what a drawn disk is, and the place behind it -/
def dLoose (B : List UInt8) (p : Nat) : ByteArray × Nat := if nx B (jR B p).2 % 2 = 1 then jR B (px B (jR B p).2) else (⟨#[]⟩, px B (jR B p).2)
def dHas (B : List UInt8) (p : Nat) : Bool := decide (2 ≤ nx B (jR B p).2 % 4)
def dTemp (B : List UInt8) (p : Nat) : ByteArray := if 2 ≤ nx B (jR B p).2 % 4 then someB B (dLoose B p).2 20 else ⟨#[]⟩
def dTL (B : List UInt8) (p : Nat) : ByteArray × Nat := if 2 ≤ nx B (jR B p).2 % 4 then jR B (someP B (dLoose B p).2 20) else (⟨#[]⟩, (dLoose B p).2)
set_option maxRecDepth 100000 in
theorem dLoose_size (B : List UInt8) (p : Nat) : (dLoose B p).1.size ≤ 40132 := by
  unfold dLoose
  split
  · exact jR_size _ _
  · exact Nat.zero_le _
set_option maxRecDepth 100000 in
theorem dTemp_size (B : List UInt8) (p : Nat) : (dTemp B p).size ≤ 40132 := by
  unfold dTemp
  split
  · have := someB_size B (dLoose B p).2 20; omega
  · exact Nat.zero_le _
set_option maxRecDepth 100000 in
theorem dTL_size (B : List UInt8) (p : Nat) : (dTL B p).1.size ≤ 40132 := by
  unfold dTL
  split
  · exact jR_size _ _
  · exact Nat.zero_le _

set_option maxRecDepth 100000 in
set_option maxHeartbeats 4000000 in
set_option maxRecDepth 100000 in
theorem rdDisk (b p : Nat) (cv : Value) (B : List UInt8) (w : World) (h : RdAt w b cv B p) :
    Calls Tryd.prog 51 #[.pointer (some ⟨b, 0, none⟩)] w fun e w' => e = .returned (.agg #[.string (jR B p).1, .string (dLoose B p).1, .bool (dHas B p), .string (dTemp B p), .string (dTL B p).1]) ∧ RdAt w' b cv B (dTL B p).2 ∧ Off b w w' := by
  have hbw : b < w.heap.size := h.2.2.2.1
  have HE : Hid (RdAt w b cv B p) := h
  have H0 : Hid (RdAt (w.alloc (.cells #[.string ⟨#[]⟩, .string ⟨#[]⟩, .bool false, .string ⟨#[]⟩, .string ⟨#[]⟩] 33)) b cv B p) := h.below (below1 w _) (Nat.le_refl _)
  clear h
  go_enter Tryd.func51, Tryd.ntmps51
  go_wp2_with fail
  refine (rdJour b p cv B _ H0.out).mono ?_
  rintro e w1 ⟨rfl, h1, ho1⟩
  have hz1 : w.heap.size < w1.heap.size := by have := ho1.size; simp at this; omega
  have DR1 : Hid (DiskAt w1 w.heap.size ⟨#[]⟩ ⟨#[]⟩ false ⟨#[]⟩ ⟨#[]⟩ ∧ ∀ o, w1.frozen? ⟨w.heap.size, o, none⟩ = false) :=
    ⟨diskAt_off (diskAt_new w ⟨#[]⟩ ⟨#[]⟩ false ⟨#[]⟩ ⟨#[]⟩ _) ho1 (by simp) (by omega), fun o => (ho1.frozen (by simp) (by omega)).trans (World.frozen?_alloc_at _ _ _ _ rfl)⟩
  have g1 : Off b w w1 := (Off.of_below (below1 w _)).trans ho1
  obtain ⟨M, HM⟩ : ∃ M, Hid ((jR B p).1 = M) := ⟨_, rfl⟩
  obtain ⟨p1, HP1⟩ : ∃ p1, Hid ((jR B p).2 = p1) := ⟨_, rfl⟩
  rw [HM.out]
  rw [HP1.out] at h1
  have H1 : Hid (RdAt (w1.alloc (.cells #[.string M, .string ⟨#[]⟩, .bool false, .string ⟨#[]⟩, .string ⟨#[]⟩] 33)) b cv B p1) := h1.below (below1 w1 _) (Nat.le_refl _)
  clear h1 ho1 H0
  go_wp2_with fail
  refine (rdNext b p1 cv B _ H1.out).mono ?_
  rintro e w2 ⟨rfl, h2, ho2⟩
  have hz2 : w1.heap.size < w2.heap.size := by have := ho2.size; simp at this; omega
  have q12 : Off b w1 w2 := (Off.of_below (below1 w1 _)).trans ho2
  have HD2 : Hid (TD w2 w.heap.size w1.heap.size M ⟨#[]⟩ false ⟨#[]⟩ ⟨#[]⟩) :=
    ⟨diskAt_off (diskAt_new w1 M ⟨#[]⟩ false ⟨#[]⟩ ⟨#[]⟩ _) ho2 (by simp) (by omega), diskAt_off DR1.out.1 q12 hz1 (by omega), fun o => (ho2.frozen (by simp) (by omega)).trans (World.frozen?_alloc_at _ _ _ _ rfl), fun o => (q12.frozen hz1 (by omega)).trans (DR1.out.2 o), hz2, by omega⟩
  have g2 : Off b w w2 := g1.trans q12
  have hnc := nx_lt B p1
  obtain ⟨c, HC⟩ : ∃ c, Hid (nx B p1 = c) := ⟨_, rfl⟩
  obtain ⟨p2, HP2⟩ : ∃ p2, Hid (px B p1 = p2) := ⟨_, rfl⟩
  rw [HC.out] at hnc ⊢
  rw [HP2.out] at h2
  have H2 : Hid (RdAt w2 b cv B p2) := h2
  clear h2 ho2 H1 q12 DR1 g1
  go_upto_if 12 with fail
  go_cut [] (fun wx => ∃ (Lo : ByteArray) (p3 : Nat), Hid (dLoose B p = (Lo, p3)) ∧ Hid (RdAt wx b cv B p3) ∧ Hid (TD wx w.heap.size w1.heap.size M Lo false ⟨#[]⟩ ⟨#[]⟩) ∧ Off b w wx)
  case first =>
    by_cases hodd : c % 2 = 1
    · have e1 : ((c : Int) % 2 == 1) = true := by rw [beq_iff_eq]; omega
      have HL : Hid (dLoose B p = jR B p2) := by show dLoose B p = _; rw [dLoose, HP1.out, HC.out, HP2.out, if_pos hodd]
      clear hodd
      go_wp2_with fail
      refine (rdJour b p2 cv B _ H2.out).mono ?_
      rintro e w3 ⟨rfl, h3, ho3⟩
      have HD3 : Hid (TD w3 w.heap.size w1.heap.size M ⟨#[]⟩ false ⟨#[]⟩ ⟨#[]⟩) := HD2.out.off ho3 (by omega) (by omega)
      have g3 : Off b w w3 := g2.trans ho3
      obtain ⟨Lo, HLo⟩ : ∃ Lo, Hid ((jR B p2).1 = Lo) := ⟨_, rfl⟩
      obtain ⟨p3, HP3⟩ : ∃ p3, Hid ((jR B p2).2 = p3) := ⟨_, rfl⟩
      rw [HLo.out]
      rw [HP3.out] at h3
      have q3 : Below w.heap.size w3 (w3.setCell ⟨w1.heap.size, 1, none⟩ (.string Lo)) := (Below.refl _ w3).setCell (p := ⟨w1.heap.size, 1, none⟩) (by show _ ≤ w1.heap.size; omega) _
      have H3 : Hid (RdAt (w3.setCell ⟨w1.heap.size, 1, none⟩ (.string Lo)) b cv B p3) := HE.out.carry h3 q3
      obtain ⟨⟨c0, c1, c2, c3, c4⟩, _, f0, f1, hzD, hzR⟩ := HD3.out
      clear h3 ho3
      go_wp2_with fail
      go_meet
      exact ⟨Lo, p3, by show dLoose B p = _; rw [HL.out, ← HLo.out, ← HP3.out], H3, HD3.out.set (by omega) ((diskAt_set HD3.out.1).2.1 Lo), g3.carry q3 (Nat.le_refl _)⟩
    · have e1 : ((c : Int) % 2 == 1) = false := by rw [beq_eq_false_iff_ne]; omega
      have HL : Hid (dLoose B p = (⟨#[]⟩, p2)) := by show dLoose B p = _; rw [dLoose, HP1.out, HC.out, HP2.out, if_neg hodd]
      clear hodd
      go_wp2_with fail
      go_meet
      exact ⟨⟨#[]⟩, p2, HL, H2, HD2, g2⟩
  case rest =>
  obtain ⟨Lo, p3, HL, H3, HD3, g3⟩ := hcut
  clear H2 HD2 g2
  go_upto_if 18 with fail
  go_cut [] (fun wx => ∃ (hh : Bool) (T X : ByteArray) (p5 : Nat), Hid (dHas B p = hh) ∧ Hid (dTemp B p = T) ∧ Hid (dTL B p = (X, p5)) ∧ Hid (RdAt wx b cv B p5) ∧ Hid (TD wx w.heap.size w1.heap.size M Lo hh T X) ∧ Off b w wx)
  case first =>
    by_cases htmp : 2 ≤ c % 4
    · have e1 : (2 : Int) ≤ (c : Int) % 4 := by omega
      have HH : Hid (dHas B p = true) := by show dHas B p = _; rw [dHas, HP1.out, HC.out]; exact decide_eq_true htmp
      have HTm : Hid (dTemp B p = someB B p3 20) := by show dTemp B p = _; rw [dTemp, HP1.out, HC.out, HL.out, if_pos htmp]
      have HTl : Hid (dTL B p = jR B (someP B p3 20)) := by show dTL B p = _; rw [dTL, HP1.out, HC.out, HL.out, if_pos htmp]
      obtain ⟨⟨c0, c1, c2, c3, c4⟩, _, f0, f1, hzD, hzR⟩ := HD3.out
      have q3 : Below w.heap.size wc (wc.setCell ⟨w1.heap.size, 2, none⟩ (.bool true)) := (Below.refl _ wc).setCell (p := ⟨w1.heap.size, 2, none⟩) (by show _ ≤ w1.heap.size; omega) _
      have H3' : Hid (RdAt (wc.setCell ⟨w1.heap.size, 2, none⟩ (.bool true)) b cv B p3) := HE.out.carry H3.out q3
      have HD4 : Hid (TD (wc.setCell ⟨w1.heap.size, 2, none⟩ (.bool true)) w.heap.size w1.heap.size M Lo true ⟨#[]⟩ ⟨#[]⟩) := HD3.out.set (by omega) ((diskAt_set HD3.out.1).2.2.1 true)
      have g4 : Off b w (wc.setCell ⟨w1.heap.size, 2, none⟩ (.bool true)) := g3.carry q3 (Nat.le_refl _)
      clear htmp
      go_wp2_with fail
      clear c0 c1 c2 c3 c4 f0 f1
      refine (rdSome b p3 20 cv B _ H3'.out (by decide)).mono ?_
      rintro e w5 ⟨rfl, h5, ho5⟩
      have HD5 : Hid (TD w5 w.heap.size w1.heap.size M Lo true ⟨#[]⟩ ⟨#[]⟩) := HD4.out.off ho5 (by omega) (by omega)
      have g5 : Off b w w5 := g4.trans ho5
      obtain ⟨T, HT⟩ : ∃ T, Hid (someB B p3 20 = T) := ⟨_, rfl⟩
      obtain ⟨p4, HP4⟩ : ∃ p4, Hid (someP B p3 20 = p4) := ⟨_, rfl⟩
      rw [HT.out]
      rw [HP4.out] at h5
      have q5 : Below w.heap.size w5 (w5.setCell ⟨w1.heap.size, 3, none⟩ (.string T)) := (Below.refl _ w5).setCell (p := ⟨w1.heap.size, 3, none⟩) (by show _ ≤ w1.heap.size; omega) _
      have H5 : Hid (RdAt (w5.setCell ⟨w1.heap.size, 3, none⟩ (.string T)) b cv B p4) := HE.out.carry h5 q5
      have HD6 : Hid (TD (w5.setCell ⟨w1.heap.size, 3, none⟩ (.string T)) w.heap.size w1.heap.size M Lo true T ⟨#[]⟩) := HD5.out.set (by omega) ((diskAt_set HD5.out.1).2.2.2.1 T)
      have g6 : Off b w (w5.setCell ⟨w1.heap.size, 3, none⟩ (.string T)) := g5.carry q5 (Nat.le_refl _)
      obtain ⟨⟨c0, c1, c2, c3, c4⟩, _, f0, f1, _, _⟩ := HD5.out
      clear h5 ho5 HD4 g4 H3'
      go_wp2_with fail
      clear c0 c1 c2 c3 c4 f0 f1
      refine (rdJour b p4 cv B _ H5.out).mono ?_
      rintro e w7 ⟨rfl, h7, ho7⟩
      have HD7 : Hid (TD w7 w.heap.size w1.heap.size M Lo true T ⟨#[]⟩) := HD6.out.off ho7 (by omega) (by omega)
      have g7 : Off b w w7 := g6.trans ho7
      obtain ⟨X, HX⟩ : ∃ X, Hid ((jR B p4).1 = X) := ⟨_, rfl⟩
      obtain ⟨p5, HP5⟩ : ∃ p5, Hid ((jR B p4).2 = p5) := ⟨_, rfl⟩
      rw [HX.out]
      rw [HP5.out] at h7
      have q7 : Below w.heap.size w7 (w7.setCell ⟨w1.heap.size, 4, none⟩ (.string X)) := (Below.refl _ w7).setCell (p := ⟨w1.heap.size, 4, none⟩) (by show _ ≤ w1.heap.size; omega) _
      have H7 : Hid (RdAt (w7.setCell ⟨w1.heap.size, 4, none⟩ (.string X)) b cv B p5) := HE.out.carry h7 q7
      obtain ⟨⟨c0, c1, c2, c3, c4⟩, _, f0, f1, _, _⟩ := HD7.out
      clear h7 ho7
      go_wp2_with fail
      go_meet
      exact ⟨true, T, X, p5, HH, by show dTemp B p = _; rw [HTm.out, HT.out], by show dTL B p = _; rw [HTl.out, HP4.out, ← HX.out, ← HP5.out], H7, HD7.out.set (by omega) ((diskAt_set HD7.out.1).2.2.2.2 X), g7.carry q7 (Nat.le_refl _)⟩
    · have e1 : (c : Int) % 4 < 2 := by omega
      have HH : Hid (dHas B p = false) := by show dHas B p = _; rw [dHas, HP1.out, HC.out]; exact decide_eq_false htmp
      have HTm : Hid (dTemp B p = ⟨#[]⟩) := by show dTemp B p = _; rw [dTemp, HP1.out, HC.out, if_neg htmp]
      have HTl : Hid (dTL B p = (⟨#[]⟩, p3)) := by show dTL B p = _; rw [dTL, HP1.out, HC.out, HL.out, if_neg htmp]
      clear htmp
      go_wp2_with fail
      go_meet
      exact ⟨false, ⟨#[]⟩, ⟨#[]⟩, p3, HH, HTm, HTl, H3, HD3, g3⟩
  case rest =>
  obtain ⟨hh, T, X, p5, HH, HTm, HTl, H5, HD5, g5⟩ := hcut
  obtain ⟨⟨c0, c1, c2, c3, c4⟩, ⟨d0, d1, d2, d3, d4⟩, f0, f1, hzD, hzR⟩ := HD5.out
  have hne : w1.heap.size ≠ w.heap.size := by omega
  have q5 : Below w.heap.size wc (set5 wc w.heap.size M Lo hh T X) := by
    unfold set5
    repeat (refine Below.setCell ?_ (by simp) _)
    exact Below.refl _ _
  go_wp2
  refine bodyPost_ret (v := .agg #[.string M, .string Lo, .bool hh, .string T, .string X]) (by simp [results, Tryd.results51, go_sem, d0, d1, d2, d3, d4]) rfl ⟨?_, ?_, ?_⟩
  · rw [HM.out, HL.out, HH.out, HTm.out, HTl.out]
  · rw [HTl.out]; exact HE.out.carry H5.out q5
  · exact g5.carry q5 (Nat.le_refl _)
end Go.Proofs.YticfnfplpccmgadDoor
