import Derived.Test.YticfnfplpccmgadDoorRdPay
import Derived.Test.YticfnfplpccmgadDoorKeep
import Derived.Test.YticfnfplpccmgadDoorFrame
import Derived.Lib.ConvBytes
import Derived.Deep.DeepCutAuto
namespace Go.Proofs.YticfnfplpccmgadDoor
open Go.ChangeShapes Go.WideShapes Go.ChangeAt Go.RowKit

def jLoop : Nat → List UInt8 → Nat → ByteArray → ByteArray × Nat
  | 0, _, p, s => (s, p)
  | n + 1, B, p, s => jLoop n B (payP B p) (s ++ frameB (payB B p))
set_option maxRecDepth 100000 in
theorem jLoop_size : ∀ (n : Nat) (B : List UInt8) (p : Nat) (s : ByteArray), (jLoop n B p s).1.size ≤ s.size + n * 8008
  | 0, _, _, _ => by simp [jLoop]
  | n + 1, B, p, s => by
    have h := jLoop_size n B (payP B p) (s ++ frameB (payB B p))
    have hf := frameB_size (payB B p)
    rw [ByteArray.size_append] at h
    rw [jLoop]
    omega

/-- the bit that is turned -/
def flipX (c : Nat) : Int := 2 ^ (c % 8) % 256
/-- a text with one byte turned -/
def flipB (s : ByteArray) (i c : Nat) : ByteArray := ofInts ((bytesI s).set i (bits BinOp.xor IntKind.u8 ((bytesI s).getD i 0) (flipX c)))
set_option maxRecDepth 100000 in
theorem flipB_size (s : ByteArray) (i c : Nat) : (flipB s i c).size = s.size := by
  rw [flipB, ofInts_size, List.length_set, bytesI, List.length_map]; rfl
/-- the end of a drawn journal -/
def jTail (k c : Nat) (B : List UInt8) (q : Nat) (s : ByteArray) : ByteArray × Nat :=
  if k = 0 then (s ++ someB B q 12, someP B q 12)
  else if k = 1 then (s ++ keepB (frameB (someB B q 9)) ((nx B (someP B q 9) % ((frameB (someB B q 9)).size + 1) : Nat) : Int), px B (someP B q 9))
  else if k = 2 then (if s.size = 0 then (s, q) else (flipB s (nx B q % s.size) c, px B q))
  else if k = 3 then (s ++ ((⟨(word 8001).toArray⟩ : ByteArray) ++ someB B q 30), someP B q 30)
  else (s, q)
def jR (B : List UInt8) (p : Nat) : ByteArray × Nat := jTail (nx B p / 5 % 6) (nx B p) B (jLoop (nx B p % 5) B (px B p) ⟨#[]⟩).2 (jLoop (nx B p % 5) B (px B p) ⟨#[]⟩).1
set_option maxRecDepth 100000 in
theorem jTail_size (k c : Nat) (B : List UInt8) (q : Nat) (s : ByteArray) : (jTail k c B q s).1.size ≤ s.size + 8100 := by
  have h12 := someB_size B q 12
  have h30 := someB_size B q 30
  have hf := frameB_size (someB B q 9)
  have hk := keepB_size (frameB (someB B q 9)) ((nx B (someP B q 9) % ((frameB (someB B q 9)).size + 1) : Nat) : Int)
  have hw : (⟨(word 8001).toArray⟩ : ByteArray).size = 4 := rfl
  unfold jTail
  split
  · simp only [ByteArray.size_append]; omega
  · split
    · simp only [ByteArray.size_append]; omega
    · split
      · split
        · show s.size ≤ _; omega
        · show (flipB s _ _).size ≤ _; rw [flipB_size]; omega
      · split
        · simp only [ByteArray.size_append]; omega
        · show s.size ≤ _; omega
set_option maxRecDepth 100000 in
theorem jR_size (B : List UInt8) (p : Nat) : (jR B p).1.size ≤ 40132 := by
  have h1 := jTail_size (nx B p / 5 % 6) (nx B p) B (jLoop (nx B p % 5) B (px B p) ⟨#[]⟩).2 (jLoop (nx B p % 5) B (px B p) ⟨#[]⟩).1
  have h2 := jLoop_size (nx B p % 5) B (px B p) ⟨#[]⟩
  have h3 : (⟨#[]⟩ : ByteArray).size = 0 := rfl
  have h4 : nx B p % 5 ≤ 4 := by omega
  unfold jR
  omega

set_option maxRecDepth 100000 in
set_option maxHeartbeats 4000000 in
set_option maxRecDepth 100000 in
theorem rdJour (b p : Nat) (cv : Value) (B : List UInt8) (w : World) (h : RdAt w b cv B p) :
    Calls Tryd.prog 82 #[.pointer (some ⟨b, 0, none⟩)] w fun e w' => e = .returned (.string (jR B p).1) ∧ RdAt w' b cv B (jR B p).2 ∧ Off b w w' := by
  obtain ⟨J, P2, hJ⟩ : ∃ J P2, jLoop (nx B p % 5) B (px B p) ⟨#[]⟩ = (J, P2) := ⟨_, _, rfl⟩
  have HJR : Hid (jR B p = jTail (nx B p / 5 % 6) (nx B p) B P2 J) := by show jR B p = _; rw [jR, hJ]
  obtain ⟨c, hc0⟩ : ∃ c, nx B p = c := ⟨_, rfl⟩
  have hc := nx_lt B p
  rw [hc0] at hc hJ HJR
  have HJ : Hid (jLoop (c % 5) B (px B p) ⟨#[]⟩ = (J, P2)) := hJ
  have hbw : b < w.heap.size := h.2.2.2.1
  clear hJ
  obtain ⟨RS, RP, HRes⟩ : ∃ RS RP, Hid (jR B p = (RS, RP)) := ⟨_, _, rfl⟩
  rw [show (jR B p).1 = RS by rw [HRes.out], show (jR B p).2 = RP by rw [HRes.out]]
  have HT : Hid (jTail (c / 5 % 6) c B P2 J = (RS, RP)) := by show _ = _; rw [← HJR.out, HRes.out]
  clear HJR HRes
  go_enter Tryd.func82, Tryd.ntmps82
  go_wp2_with fail
  refine (rdNext b p cv B _ h).mono ?_
  rw [hc0]
  rintro e w1 ⟨rfl, h1, ho1⟩
  have HR1 : Hid (RdAt w1 b cv B (px B p)) := h1
  clear h1 h hc0
  go_wp2
  go_loopw [3, 5] (fun sv nv wr => ∃ (n q : Nat) (s : ByteArray), sv = .string s ∧ nv = .int .i64 n ∧ Hid (jLoop n B q s = (J, P2)) ∧ s.size + n * 8008 ≤ 32032 ∧ Hid (RdAt wr b cv B q) ∧ Off b w wr) (fun _ nv _ => (intOf nv).toNat)
  case atStart => exact ⟨c % 5, px B p, ⟨#[]⟩, rfl, by go_num, HJ, by simp [ByteArray.size]; omega, HR1, ho1⟩
  case round =>
    obtain ⟨n, q, s, rfl, rfl, HG, hsz, HR, ho⟩ := hrel
    by_cases hn : 0 < n
    · have hfs := frameB_size (payB B q)
      have hps := payB_size B q
      have HG2 : Hid (jLoop (n - 1) B (payP B q) (s ++ frameB (payB B q)) = (J, P2)) := by
        show _ = _
        rw [← HG.out]
        obtain ⟨m, rfl⟩ : ∃ m, n = m + 1 := ⟨n - 1, by omega⟩
        rfl
      go_wp2_with fail
      refine (rdPay b q cv B _ HR.out).mono ?_
      rintro e w2 ⟨rfl, h2, ho2⟩
      have HR2 : Hid (RdAt w2 b cv B (payP B q)) := h2
      clear h2
      generalize payB B q = Y at hfs hps HG2 ⊢
      go_wp2_with fail
      refine (specFrame Y _ (by omega)).mono ?_
      rintro e w3 ⟨rfl, hb3⟩
      go_wp2
      go_roundw
      case rel => exact ⟨n - 1, payP B q, s ++ frameB Y, rfl, by go_num, HG2, by rw [ByteArray.size_append]; omega, HR2.out.below hb3 (Nat.le_refl _), (ho.trans ho2).trans (Off.of_below hb3)⟩
      case measure => simp [intOf]; omega
    · obtain rfl : n = 0 := by omega
      have hE : (s, q) = (J, P2) := HG.out
      injection hE with hE1 hE2
      have HT2 : Hid (jTail (c / 5 % 6) c B q s = (RS, RP)) := by show _ = _; rw [hE1, hE2]; exact HT.out
      have hs4 : s.size ≤ 32032 := by omega
      clear HG HT HJ hE1 hE2 hsz hn
      by_cases k0 : c / 5 % 6 = 0
      · have e0 : ((c : Int) / 5 % 6 == 0) = true := by rw [beq_iff_eq]; omega
        have HF : Hid ((s ++ someB B q 12, someP B q 12) = (RS, RP)) := by have e := HT2.out; rw [jTail, if_pos k0] at e; exact e
        have hss := someB_size B q 12
        clear HT2 k0
        go_wp2_with fail
        refine (rdSome b q 12 cv B _ HR.out (by decide)).mono ?_
        rintro e w2 ⟨rfl, h2, ho2⟩
        have HR2 : Hid (RdAt w2 b cv B (someP B q 12)) := h2
        clear h2
        generalize someB B q 12 = Y at hss HF ⊢
        go_wp2
        go_ret
        have e := HF.out
        injection e with e1 e2
        exact ⟨ret_str e1, by rw [← e2]; exact HR2.out, ho.trans ho2⟩
      · have e0 : ((c : Int) / 5 % 6 == 0) = false := by rw [beq_eq_false_iff_ne]; omega
        by_cases k1 : c / 5 % 6 = 1
        · have e1 : ((c : Int) / 5 % 6 == 1) = true := by rw [beq_iff_eq]; omega
          have HF : Hid ((s ++ keepB (frameB (someB B q 9)) ((nx B (someP B q 9) % ((frameB (someB B q 9)).size + 1) : Nat) : Int), px B (someP B q 9)) = (RS, RP)) := by have e := HT2.out; rw [jTail, if_neg k0, if_pos k1] at e; exact e
          have hss := someB_size B q 9
          clear HT2 k0 k1
          go_wp2_with fail
          refine (rdSome b q 9 cv B _ HR.out (by decide)).mono ?_
          rintro e w2 ⟨rfl, h2, ho2⟩
          have HR2 : Hid (RdAt w2 b cv B (someP B q 9)) := h2
          clear h2
          generalize someB B q 9 = Y at hss HF ⊢
          generalize someP B q 9 = q2 at HF HR2
          go_wp2_with fail
          refine (specFrame Y _ (by omega)).mono ?_
          rintro e w3 ⟨rfl, hb3⟩
          have HR3 : Hid (RdAt w3 b cv B q2) := HR2.out.below hb3 (Nat.le_refl _)
          have hfs := frameB_size Y
          generalize frameB Y = Fr at hfs HF ⊢
          go_wp2_with fail
          refine (rdNext b q2 cv B _ HR3.out).mono ?_
          rintro e w4 ⟨rfl, h4, ho4⟩
          have HR4 : Hid (RdAt w4 b cv B (px B q2)) := h4
          clear h4
          have hnq := nx_lt B q2
          have hks := keepB_size Fr ((nx B q2 % (Fr.size + 1) : Nat) : Int)
          go_wp2_with fail
          rw [show ((nx B q2 : Int) % ((Fr.size : Int) + 1)) = ((nx B q2 % (Fr.size + 1) : Nat) : Int) by simp]
          refine (specKeep Fr _ _).mono ?_
          rintro e w5 ⟨rfl, rfl⟩
          generalize keepB Fr ((nx B q2 % (Fr.size + 1) : Nat) : Int) = Kp at hks HF ⊢
          go_wp2
          go_ret
          have e := HF.out
          injection e with e1 e2
          exact ⟨ret_str e1, by rw [← e2]; exact HR4.out, ((ho.trans ho2).trans (Off.of_below hb3)).trans ho4⟩
        · have e1 : ((c : Int) / 5 % 6 == 1) = false := by rw [beq_eq_false_iff_ne]; omega
          by_cases k2 : c / 5 % 6 = 2
          · have e2 : ((c : Int) / 5 % 6 == 2) = true := by rw [beq_iff_eq]; omega
            by_cases hs0 : s.size = 0
            · have HF : Hid ((s, q) = (RS, RP)) := by have e := HT2.out; rw [jTail, if_neg k0, if_neg k1, if_pos k2, if_pos hs0] at e; exact e
              have hs0' : s.size ≤ 0 := by omega
              clear HT2 k0 k1 k2 hs0
              go_wp2
              go_ret
              have e := HF.out
              injection e with e1 e2
              exact ⟨ret_str e1, by rw [← e2]; exact HR.out, ho⟩
            · have HF : Hid ((flipB s (nx B q % s.size) c, px B q) = (RS, RP)) := by have e := HT2.out; rw [jTail, if_neg k0, if_neg k1, if_pos k2, if_neg hs0] at e; exact e
              have hs0' : 0 < s.size := by omega
              clear HT2 k0 k1 k2 hs0
              obtain ⟨W1, cap, hrun, hbW, hzW, hcell, hfr⟩ := run_str_cells wr s
              have HC : Hid (∀ j (hj : j < (bytesI s).length), W1.cell? ⟨wr.heap.size, j, none⟩ = some (.int .u8 (bytesI s)[j])) := hcell
              have HFr : Hid (∀ j, j < s.size → W1.frozen? ⟨wr.heap.size, j, none⟩ = false) := hfr
              have HzW : Hid (W1.heap.size = wr.heap.size + 1) := hzW
              have HR1 : Hid (RdAt W1 b cv B q) := HR.out.below hbW (Nat.le_refl _)
              clear hcell hfr hzW
              go_wp2_with fail
              refine (rdNext b q cv B _ HR1.out).mono ?_
              rintro e w2 ⟨rfl, h2, ho2⟩
              have HR2 : Hid (RdAt w2 b cv B (px B q)) := h2
              have hnq := nx_lt B q
              have hwr : w.heap.size ≤ wr.heap.size := ho.size
              have hbl : (bytesI s).length = s.size := by simp [bytesI]
              obtain ⟨I, HI⟩ : ∃ I, Hid (nx B q % s.size = I) := ⟨_, rfl⟩
              have hI : I < s.size := by rw [← HI.out]; exact Nat.mod_lt _ hs0'
              have hIi : ((nx B q : Int) % (s.size : Int)) = (I : Int) := by rw [← HI.out]; simp
              obtain ⟨Xv, HX⟩ : ∃ Xv, Hid ((bytesI s).getD I 0 = Xv) := ⟨_, rfl⟩
              have HCe : Hid (∀ j (hj : j < (bytesI s).length), w2.cell? ⟨wr.heap.size, j, none⟩ = some (.int .u8 (bytesI s)[j])) := by
                intro j hj
                rw [ho2.cell (by have := HzW.out; omega) (by omega), HC.out j hj]
              have ec : w2.cell? ⟨wr.heap.size, I, none⟩ = some (.int .u8 Xv) := by
                rw [HCe.out I (by omega), ← HX.out, List.getD_eq_getElem?_getD, List.getElem?_eq_getElem (by omega)]
                rfl
              have hcv : (convert 22 9 (.slice (some ⟨wr.heap.size, 0, none⟩) s.size cap)).run Tryd.prog (w2.setCell ⟨wr.heap.size, I, none⟩ (.int .u8 (bits BinOp.xor IntKind.u8 Xv (2 ^ (c % 8) % 256)))) = .ok (.string (flipB s I c)) (w2.setCell ⟨wr.heap.size, I, none⟩ (.int .u8 (bits BinOp.xor IntKind.u8 Xv (2 ^ (c % 8) % 256)))) := by
                have e := run_cells_str (w := w2.setCell ⟨wr.heap.size, I, none⟩ (.int .u8 (bits BinOp.xor IntKind.u8 Xv (2 ^ (c % 8) % 256)))) (g := wr.heap.size) (cap := cap) (ns := (bytesI s).set I (bits BinOp.xor IntKind.u8 Xv (2 ^ (c % 8) % 256))) ?_
                · rw [List.length_set, hbl] at e
                  rw [e, flipB, HX.out]
                  rfl
                · intro j hj
                  rw [List.length_set] at hj
                  by_cases hij : I = j
                  · subst hij
                    rw [World.cell?_setCell_same _ _ _ ec]
                    simp
                  · rw [World.cell?_setCell_other _ _ _ _ (by intro e; injection e with _ e; exact hij e), HCe.out j hj, List.getElem_set_ne hij]
              have ef : w2.frozen? ⟨wr.heap.size, I, none⟩ = false := (ho2.frozen (by have := HzW.out; omega) (by omega)).trans (HFr.out I hI)
              clear h2
              clear hbl
              go_wp2
              go_ret
              have e := HF.out
              rw [HI.out] at e
              injection e with e1 e2
              refine ⟨ret_str e1, ?_, ?_⟩
              · rw [← e2]
                exact HR.out.carry HR2.out ((Below.refl _ w2).setCell (p := ⟨wr.heap.size, I, none⟩) (Nat.le_refl _) _)
              · exact ((ho.trans (Off.of_below hbW)).trans ho2).carry ((Below.refl wr.heap.size w2).setCell (p := ⟨wr.heap.size, I, none⟩) (Nat.le_refl _) _) hwr
          · have e2 : ((c : Int) / 5 % 6 == 2) = false := by rw [beq_eq_false_iff_ne]; omega
            by_cases k3 : c / 5 % 6 = 3
            · have e3 : ((c : Int) / 5 % 6 == 3) = true := by rw [beq_iff_eq]; omega
              have HF : Hid ((s ++ ((⟨(word 8001).toArray⟩ : ByteArray) ++ someB B q 30), someP B q 30) = (RS, RP)) := by have e := HT2.out; rw [jTail, if_neg k0, if_neg k1, if_neg k2, if_pos k3] at e; exact e
              have hss := someB_size B q 30
              clear HT2 k0 k1 k2 k3
              go_wp2_with fail
              refine (specWord 8001 (by decide) _).mono ?_
              rintro e w2 ⟨rfl, hb2⟩
              have HR2 : Hid (RdAt w2 b cv B q) := HR.out.below hb2 (Nat.le_refl _)
              obtain ⟨W8, HW8⟩ : ∃ W8, Hid ((⟨(word 8001).toArray⟩ : ByteArray) = W8) := ⟨_, rfl⟩
              have hw8 : W8.size ≤ 4 := by rw [← HW8.out]; exact Nat.le_refl _
              rw [HW8.out] at HF ⊢
              go_wp2_with fail
              refine (rdSome b q 30 cv B _ HR2.out (by decide)).mono ?_
              rintro e w3 ⟨rfl, h3, ho3⟩
              have HR3 : Hid (RdAt w3 b cv B (someP B q 30)) := h3
              clear h3
              generalize someB B q 30 = Y at hss HF ⊢
              go_wp2
              go_ret
              have e := HF.out
              injection e with e1 e2
              exact ⟨ret_str e1, by rw [← e2]; exact HR3.out, (ho.trans (Off.of_below hb2)).trans ho3⟩
            · have e3 : ((c : Int) / 5 % 6 == 3) = false := by rw [beq_eq_false_iff_ne]; omega
              have HF : Hid ((s, q) = (RS, RP)) := by have e := HT2.out; rw [jTail, if_neg k0, if_neg k1, if_neg k2, if_neg k3] at e; exact e
              clear HT2 k0 k1 k2 k3
              go_wp2
              go_ret
              have e := HF.out
              injection e with e1 e2
              exact ⟨ret_str e1, by rw [← e2]; exact HR.out, ho⟩
end Go.Proofs.YticfnfplpccmgadDoor
