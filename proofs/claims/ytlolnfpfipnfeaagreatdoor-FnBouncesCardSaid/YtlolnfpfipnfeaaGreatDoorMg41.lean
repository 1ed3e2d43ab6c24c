import Derived.Test.YtlolnfpfipnfeaaGreatDoorMg37
import Derived.Test.YtlolnfpfipnfeaaGreatDoorMg39
import Derived.Test.YtlolnfpfipnfeaaGreatDoorMg25
import Derived.Test.YtlolnfpfipnfeaaGreatDoorMg30
namespace Go.Proofs.YtlolnfpfipnfeaaGreatDoor
open Go.ChangeShapes Go.WideShapes Go.ChangeAt Go.RowKit
open Pcs

set_option maxHeartbeats 4000000 in
set_option maxRecDepth 100000 in
theorem drawRead (cv : Value) (B : List UInt8) (w : World) (hC : CodeAt w cv B) :
    Calls Tryz.prog 8 #[cv] w fun e w' => (∃ t, e = .returned (.string t) ∧ TxY t) ∧ Below w.heap.size w w' := by
  obtain ⟨ca, cc, hcv⟩ := hC.form
  have HCo : Hid (CodeAt w cv B) := hC
  subst hcv
  clear hC
  go_enter Tryz.func8, Tryz.ntmps8
  go_wp2_with fail
  generalize hW : World.alloc _ _ = W
  have H0 : Hid (RdAt W w.heap.size (.slice ca B.length cc) B 0) := by show RdAt _ _ _ _ _; rw [← hW]; exact rd_new w _ B HCo.out
  have b0 : Below w.heap.size w W := by rw [← hW]; exact below1 _ _
  have z0 : w.heap.size < W.heap.size := H0.out.2.2.2.1
  clear hW
  refine (rdNext _ 0 _ B W H0.out).mono ?_
  rintro e w1 ⟨rfl, h1, ho1⟩
  have hc := nx_lt B 0
  generalize nx B 0 = c at hc ⊢
  generalize px B 0 = q1 at h1
  have H1 : Hid (RdAt w1 w.heap.size (.slice ca B.length cc) B q1) := h1
  have b1 : Below w.heap.size w w1 := b0.trans (ho1.belowAt (Nat.le_refl _) b0.size)
  have z1 := ho1.size
  clear h1 ho1
  go_wp2_with fail
  refine (rdBounceX _ q1 _ B w1 H1.out (by omega)).mono ?_
  rintro e w2 ⟨⟨fv, rfl, hF⟩, h2, ho2⟩
  have HT1 : Hid (TxY (makeS (bncF B q1).1)) := tx_made B q1
  have HT2 : Hid (∀ q, TxY (spoF B q (makeS (bncF B q1).1)).1) := fun q => tx_spo B q1 q
  have hz := (bncF_small B q1).z
  have HMK : Hid (Calls Tryz.prog 6 #[bnV (bncF B q1).1 fv] w2 fun e w' => e = .returned (.string (makeS (bncF B q1).1)) ∧ Below w2.heap.size w2 w') := specMake _ fv _ w2 hF hz
  generalize bncF B q1 = X at *
  have H2 : Hid (RdAt w2 w.heap.size (.slice ca B.length cc) B X.2) := h2
  have b2 : Below w.heap.size w w2 := b1.trans (ho2.belowAt (Nat.le_refl _) b1.size)
  have z2 := ho2.size
  clear h2 ho2 H1 hF hz
  unfold bnV at HMK ⊢
  go_wp2_with fail
  refine HMK.out.mono ?_
  rintro e w3 ⟨rfl, hb3⟩
  have H3 : Hid (RdAt w3 w.heap.size (.slice ca B.length cc) B X.2) := H2.out.below hb3 (Nat.le_refl _)
  have b3 : Below w.heap.size w w3 := b2.trans (hb3.mono (by omega))
  have hs := HT1.out.le
  clear hb3 HMK H2
  generalize makeS X.1 = s at *
  obtain ⟨m, hm, hm4⟩ : ∃ m : Nat, (c : Int) % 4 = (m : Int) ∧ m < 4 := ⟨c % 4, by omega, by omega⟩
  by_cases m3 : m = 3
  · subst m3
    have hmk : (c : Int) % 4 = 3 := by omega
    clear hm
    go_wp2_with fail
    refine (rdSpoilX _ X.2 _ B s w3 H3.out (by omega)).mono ?_
    rintro e w4 ⟨rfl, h4, ho4⟩
    have b4 : Below w.heap.size w w4 := b3.trans (ho4.belowAt (Nat.le_refl _) b3.size)
    have HT := HT2.out X.2
    generalize spoF B X.2 s = Y at *
    clear h4 ho4
    go_wp2
    go_ret
    exact ⟨⟨_, rfl, HT⟩, b4⟩
  · have hmb : ((m : Int) == 3) = false := beq_eq_false_iff_ne.2 (by omega)
    go_wp2
    go_ret
    exact ⟨⟨_, rfl, HT1.out⟩, b3⟩
end Go.Proofs.YtlolnfpfipnfeaaGreatDoor
namespace Go.Proofs.YtlolnfpfipnfeaaGreatDoor
open Go.ChangeShapes Go.WideShapes Go.ChangeAt Go.RowKit
open Pcs

theorem keep_pre (s p : ByteArray) : ((keepB s (p.size : Int)).toList == p.toList) = p.data.toList.isPrefixOf s.data.toList := by
  have e2 : (keepB s (p.size : Int)).data.toList = s.data.toList.take p.size := by
    by_cases h : (s.size : Int) < (p.size : Int)
    · rw [keepB_big _ _ (by omega) h, List.take_of_length_le (by rw [← Lib.size_eq]; omega)]
    · rw [keepB_mid _ _ (by omega) (by omega), Lib.extract_data, Int.toNat_natCast]
      simp
  rw [Lib.toList_data, Lib.toList_data, e2, Lib.size_eq]
  rw [Bool.eq_iff_iff, beq_iff_eq, List.isPrefixOf_iff_prefix, List.prefix_iff_eq_take]
  exact ⟨fun h => h.symm, fun h => h.symm⟩
theorem af_yes {s p : ByteArray} (h : p.data.toList.isPrefixOf s.data.toList = true) : mk (afS s.data.toList p.data.toList) = s.extract p.size s.size := by
  unfold afS
  rw [if_pos h, ← mk_data (s.extract p.size s.size), Lib.extract_data, ← Lib.size_eq]
  congr 1
  exact (List.take_of_length_le (by rw [List.length_drop, ← Lib.size_eq]; omega)).symm
theorem af_no {s p : ByteArray} (h : p.data.toList.isPrefixOf s.data.toList = false) : mk (afS s.data.toList p.data.toList) = ⟨#[]⟩ := by
  unfold afS
  rw [if_neg (by rw [h]; decide)]
  rfl
theorem af_size (s p : List UInt8) : (afS s p).length ≤ s.length := by
  unfold afS
  split
  · simp
  · simp

set_option maxHeartbeats 1000000 in
set_option maxRecDepth 100000 in
theorem specAfter (s p : ByteArray) (w : World) :
    Calls Tryz.prog 23 #[.string s, .string p] w fun e w' => e = .returned (.string (mk (afS s.data.toList p.data.toList))) ∧ w' = w := by
  have HK : ((keepB s (p.size : Int)).toList == p.toList) = p.data.toList.isPrefixOf s.data.toList := keep_pre s p
  cases hpre : p.data.toList.isPrefixOf s.data.toList
  · have G : Hid (mk (afS s.data.toList p.data.toList) = ⟨#[]⟩) := af_no hpre
    rw [hpre] at HK
    generalize mk (afS s.data.toList p.data.toList) = R at *
    clear hpre
    go_enter Tryz.func23, Tryz.ntmps23
    go_wp2_with fail
    refine (specKeep s _ _).mono ?_
    rintro e w1 ⟨rfl, rfl⟩
    go_wp2
    go_ret
    exact ⟨ret_str G.out.symm, rfl⟩
  · have G : Hid (mk (afS s.data.toList p.data.toList) = s.extract p.size s.size) := af_yes hpre
    have hle : p.size ≤ s.size := by
      rw [List.isPrefixOf_iff_prefix] at hpre
      have := hpre.length_le
      rw [← Lib.size_eq, ← Lib.size_eq] at this
      exact this
    have hlei : (p.size : Int) ≤ (s.size : Int) := by omega
    rw [hpre] at HK
    generalize mk (afS s.data.toList p.data.toList) = R at *
    clear hpre
    go_enter Tryz.func23, Tryz.ntmps23
    go_wp2_with fail
    refine (specKeep s _ _).mono ?_
    rintro e w1 ⟨rfl, rfl⟩
    go_wp2
    go_ret
    exact ⟨ret_str G.out.symm, rfl⟩
end Go.Proofs.YtlolnfpfipnfeaaGreatDoor
