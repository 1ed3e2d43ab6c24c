import Derived.Test.YtlolnfpfipnfeaaGreatDoorMg28
import Derived.Test.YtlolnfpfipnfeaaGreatDoorMg32
import Derived.Test.YtlolnfpfipnfeaaGreatDoorMg27
import Derived.Deep.RegionHeld3
namespace Go.Proofs.YtlolnfpfipnfeaaGreatDoor
open Go.ChangeShapes Go.WideShapes Go.ChangeAt Go.RowKit
open Pcs

set_option maxHeartbeats 1000000 in
set_option maxRecDepth 100000 in
theorem specBody (s : ByteArray) (w : World) (hs : s.size ≤ 1048576) :
    Calls Tryz.prog 46 #[.string s] w fun e w' => e = .returned (.bool (bodyOk s)) ∧ Below w.heap.size w w' := by
  go_enter Tryz.func46, Tryz.ntmps46
  go_wp2_with (go_at_call 47; refine (specLines _ _ hs).mono ?_; rintro e w1 ⟨⟨v, rfl, _⟩, hb1⟩)
  go_ret
  exact ⟨rfl, hb1⟩
end Go.Proofs.YtlolnfpfipnfeaaGreatDoor
namespace Go.Proofs.YtlolnfpfipnfeaaGreatDoor
open Go.ChangeShapes Go.WideShapes Go.ChangeAt Go.RowKit
open Pcs


set_option maxHeartbeats 4000000 in
set_option maxRecDepth 100000 in
theorem implRight (b : Bn) (v : Value) (lo : Nat) (w : World) (he : Env w) (h : Fls w lo v b.fs) (hz : BnZ b) :
    Calls Tryz.prog 13 #[bnV b v] w fun e w' => e = .returned (.bool (bnOk b)) ∧ Below w.heap.size w w' := by
  obtain ⟨dm, tw, L, hd⟩ := b
  obtain ⟨z1, z2, z3, z4, z5⟩ := hz
  dsimp only at z1 z2 z3 z4 z5 h
  have HR : Hid (bnOk ⟨dm, tw, L, hd⟩ = (domOk dm && (addrOk tw && (decide (1 ≤ L.length) && (decide (L.length ≤ 20) && (L.all flOk && decide (headB hd = hd))))))) := rfl
  generalize bnOk ⟨dm, tw, L, hd⟩ = R at *
  obtain ⟨ct, hct⟩ : ∃ ct, headB hd = ct := ⟨_, rfl⟩
  have HCT : Hid (headB hd = ct) := hct
  have HBO : Hid (headB hd = hd → bodyOk hd = true) := head_body
  rw [hct] at HBO
  clear hct
  obtain ⟨a, c, rfl⟩ := fls_form h
  have HFL : Hid (Fls w lo (.slice a L.length c) L) := h
  have HZ4 : Hid (∀ f ∈ L, FlZ f) := z4
  unfold bnV
  dsimp only
  have HE0 : Hid (Env w) := he
  clear h z4 he
  go_enter Tryz.func13, Tryz.ntmps13
  go_upto_region 1 with fail
  generalize hW : w.alloc _ = W
  have HM : Hid (Blk w.heap.size #[.string dm, .string tw, .slice a L.length c, .string hd] W) := by show Blk _ _ _; rw [← hW]; exact Blk.new _ _ _
  have HB0 : Hid (Below w.heap.size w W) := by show Below _ _ _; rw [← hW]; exact below1 _ _
  have HE : Hid (Env W) := HE0.out.below HB0.out
  have HZ : Hid (w.heap.size ≤ W.heap.size) := HB0.out.size
  have HBc : Hid (Below W.heap.size W W) := Below.refl _ _
  clear hW
  have k0 : W.cell? ⟨w.heap.size, 0, none⟩ = some (.string dm) := (Blk.below HM.out HBc.out).cell 0
  have k1 : W.cell? ⟨w.heap.size, 1, none⟩ = some (.string tw) := (Blk.below HM.out HBc.out).cell 1
  have k2 : W.cell? ⟨w.heap.size, 2, none⟩ = some (.slice a L.length c) := (Blk.below HM.out HBc.out).cell 2
  have k3 : W.cell? ⟨w.heap.size, 3, none⟩ = some (.string hd) := (Blk.below HM.out HBc.out).cell 3
  cases h1 : domOk dm
  · skip
    have C1 : Hid (∀ wx : World, Env wx → Calls Tryz.prog 32 #[.string dm] wx fun e w' => e = .returned (.bool false) ∧ Below wx.heap.size wx w') := fun wx he => by have := implDomain dm wx he.len z1; rw [h1] at this; exact this
    go_wp2_with fail
    refine (C1.out _ (HE.out.below HBc.out)).mono ?_
    rintro e wA ⟨rfl, hb⟩
    have HBc : Hid (Below W.heap.size W wA) := HBc.out.trans (hb.mono HBc.out.size)
    clear hb k0 k1 k2 k3
    have k0 : wA.cell? ⟨w.heap.size, 0, none⟩ = some (.string dm) := (Blk.below HM.out HBc.out).cell 0
    have k1 : wA.cell? ⟨w.heap.size, 1, none⟩ = some (.string tw) := (Blk.below HM.out HBc.out).cell 1
    have k2 : wA.cell? ⟨w.heap.size, 2, none⟩ = some (.slice a L.length c) := (Blk.below HM.out HBc.out).cell 2
    have k3 : wA.cell? ⟨w.heap.size, 3, none⟩ = some (.string hd) := (Blk.below HM.out HBc.out).cell 3
    have G : Hid (R = false) := by show _ = _; rw [HR.out, h1]; rfl
    go_wp2
    go_ret
    exact ⟨ret_bool G.out.symm, HB0.out.trans (HBc.out.mono HZ.out)⟩
  · skip
    have C1 : Hid (∀ wx : World, Env wx → Calls Tryz.prog 32 #[.string dm] wx fun e w' => e = .returned (.bool true) ∧ Below wx.heap.size wx w') := fun wx he => by have := implDomain dm wx he.len z1; rw [h1] at this; exact this
    go_wp2_with fail
    refine (C1.out _ (HE.out.below HBc.out)).mono ?_
    rintro e wA ⟨rfl, hb⟩
    have HBc : Hid (Below W.heap.size W wA) := HBc.out.trans (hb.mono HBc.out.size)
    clear hb k0 k1 k2 k3
    have k0 : wA.cell? ⟨w.heap.size, 0, none⟩ = some (.string dm) := (Blk.below HM.out HBc.out).cell 0
    have k1 : wA.cell? ⟨w.heap.size, 1, none⟩ = some (.string tw) := (Blk.below HM.out HBc.out).cell 1
    have k2 : wA.cell? ⟨w.heap.size, 2, none⟩ = some (.slice a L.length c) := (Blk.below HM.out HBc.out).cell 2
    have k3 : wA.cell? ⟨w.heap.size, 3, none⟩ = some (.string hd) := (Blk.below HM.out HBc.out).cell 3
    cases h2 : addrOk tw
    · skip
      have C2 : Hid (∀ wx : World, Env wx → Calls Tryz.prog 33 #[.string tw] wx fun e w' => e = .returned (.bool false) ∧ Below wx.heap.size wx w') := fun wx he => by have := implAddress tw wx he.len z2; rw [h2] at this; exact this
      go_wp2_with fail
      refine (C2.out _ (HE.out.below HBc.out)).mono ?_
      rintro e wB ⟨rfl, hb⟩
      have HBc : Hid (Below W.heap.size W wB) := HBc.out.trans (hb.mono HBc.out.size)
      clear hb k0 k1 k2 k3
      have k0 : wB.cell? ⟨w.heap.size, 0, none⟩ = some (.string dm) := (Blk.below HM.out HBc.out).cell 0
      have k1 : wB.cell? ⟨w.heap.size, 1, none⟩ = some (.string tw) := (Blk.below HM.out HBc.out).cell 1
      have k2 : wB.cell? ⟨w.heap.size, 2, none⟩ = some (.slice a L.length c) := (Blk.below HM.out HBc.out).cell 2
      have k3 : wB.cell? ⟨w.heap.size, 3, none⟩ = some (.string hd) := (Blk.below HM.out HBc.out).cell 3
      have G : Hid (R = false) := by show _ = _; rw [HR.out, h1, h2]; rfl
      go_wp2
      go_ret
      exact ⟨ret_bool G.out.symm, HB0.out.trans (HBc.out.mono HZ.out)⟩
    · skip
      have C2 : Hid (∀ wx : World, Env wx → Calls Tryz.prog 33 #[.string tw] wx fun e w' => e = .returned (.bool true) ∧ Below wx.heap.size wx w') := fun wx he => by have := implAddress tw wx he.len z2; rw [h2] at this; exact this
      go_wp2_with fail
      refine (C2.out _ (HE.out.below HBc.out)).mono ?_
      rintro e wB ⟨rfl, hb⟩
      have HBc : Hid (Below W.heap.size W wB) := HBc.out.trans (hb.mono HBc.out.size)
      clear hb k0 k1 k2 k3
      have k0 : wB.cell? ⟨w.heap.size, 0, none⟩ = some (.string dm) := (Blk.below HM.out HBc.out).cell 0
      have k1 : wB.cell? ⟨w.heap.size, 1, none⟩ = some (.string tw) := (Blk.below HM.out HBc.out).cell 1
      have k2 : wB.cell? ⟨w.heap.size, 2, none⟩ = some (.slice a L.length c) := (Blk.below HM.out HBc.out).cell 2
      have k3 : wB.cell? ⟨w.heap.size, 3, none⟩ = some (.string hd) := (Blk.below HM.out HBc.out).cell 3
      by_cases n1 : L.length < 1
      · have n1i : (L.length : Int) < 1 := by omega
        have G : Hid (R = false) := by show _ = _; rw [HR.out, h1, h2, decide_eq_false (show ¬ 1 ≤ L.length by omega)]; rfl
        go_wp2
        go_ret
        exact ⟨ret_bool G.out.symm, HB0.out.trans (HBc.out.mono HZ.out)⟩
      have n1i : ¬ (L.length : Int) < 1 := by omega
      by_cases n2 : 20 < L.length
      · have n2i : (20 : Int) < (L.length : Int) := by omega
        have G : Hid (R = false) := by show _ = _; rw [HR.out, h1, h2, decide_eq_true (show 1 ≤ L.length by omega), decide_eq_false (show ¬ L.length ≤ 20 by omega)]; rfl
        go_wp2
        go_ret
        exact ⟨ret_bool G.out.symm, HB0.out.trans (HBc.out.mono HZ.out)⟩
      have n2i : ¬ (20 : Int) < (L.length : Int) := by omega
      have HR2 : Hid (R = (L.all flOk && decide (ct = hd))) := by show _ = _; rw [HR.out, h1, h2, decide_eq_true (show 1 ≤ L.length by omega), decide_eq_true (show L.length ≤ 20 by omega), HCT.out]; rfl
      clear HR C1 C2 h1 h2
      go_wp2_with fail
      clear k0 k1 k2 k3
      obtain ⟨wc, hwc⟩ : ∃ wc : World, wc = wB := ⟨wB, rfl⟩
      go_loopw [30] (fun iv wr => ∃ k : Nat, k ≤ L.length ∧ iv = .int .i64 k ∧ Hid (Below W.heap.size W wr) ∧ Hid (∀ j (h : j < L.length), j < k → flOk L[j] = true)) (fun iv _ => L.length - (intOf iv).toNat)
      case atStart => exact ⟨0, Nat.zero_le _, rfl, HBc, fun j _ hj => absurd hj (Nat.not_lt_zero _)⟩
      case round =>
        clear HBc hwc wc
        obtain ⟨k, hk, rfl, HBc, HA⟩ := hrel
        by_cases hlt : k < L.length
        · obtain ⟨g, cap, hv, A1⟩ : ∃ g cap, (Value.slice a L.length c) = .slice (some ⟨g, 0, none⟩) L.length cap ∧ FlsAt w lo g cap L := by
            rcases HFL.out.cases with ⟨_, h0⟩ | h0
            · rw [h0] at hlt; exact absurd hlt (Nat.not_lt_zero _)
            · exact h0
          injection hv with hv1 _ hv3
          subst hv1 hv3
          have hgw : g < W.heap.size := Nat.lt_of_lt_of_le A1.lt HZ.out
          have hX := A1.cell k hlt
          have e0 := (HBc.out.cell (p := ⟨g, k * 4, none⟩) hgw).trans ((HB0.out.cell (p := ⟨g, k * 4, none⟩) A1.lt).trans hX.1)
          have e1 := (HBc.out.cell (p := ⟨g, k * 4 + 1, none⟩) hgw).trans ((HB0.out.cell (p := ⟨g, k * 4 + 1, none⟩) A1.lt).trans hX.2.1)
          have e2 := (HBc.out.cell (p := ⟨g, k * 4 + 2, none⟩) hgw).trans ((HB0.out.cell (p := ⟨g, k * 4 + 2, none⟩) A1.lt).trans hX.2.2.1)
          have e3 := (HBc.out.cell (p := ⟨g, k * 4 + 3, none⟩) hgw).trans ((HB0.out.cell (p := ⟨g, k * 4 + 3, none⟩) A1.lt).trans hX.2.2.2)
          have hcap := A1.len
          have hcap2 := A1.cap
          unfold maxLen at hcap2
          have HFZ := HZ4.out L[k] (List.getElem_mem hlt)
          have HNO : Hid (flOk L[k] = false → R = false) := fun hf => by
            rw [HR2.out]
            have : L.all flOk = false := List.all_eq_false.2 ⟨L[k], List.getElem_mem hlt, by rw [hf]; decide⟩
            rw [this]; rfl
          have HYE : Hid (flOk L[k] = true → ∀ j (h : j < L.length), j < k + 1 → flOk L[j] = true) := fun hf j hj hjk => by
            by_cases e : j = k
            · subst e; exact hf
            · exact HA.out j hj (by omega)
          generalize L[k] = X at *
          obtain ⟨rc, st, cd, tx⟩ := X
          dsimp only at e0 e1 e2 e3
          clear hX A1 HA
          go_upto_region 6 with fail
          generalize hV : wr.alloc _ = V
          have HVB : Hid (Blk wr.heap.size #[.string rc, .string st, .int .i64 cd, .string tx] V) := by show Blk _ _ _; rw [← hV]; exact Blk.new _ _ _
          have HBV : Hid (Below W.heap.size W V) := by show Below _ _ _; rw [← hV]; exact HBc.out.alloc HBc.out.size _
          have zV : wr.heap.size ≤ V.heap.size := by rw [← hV]; simp
          clear hV e0 e1 e2 e3 HBc
          have v0 : V.cell? ⟨wr.heap.size, 0, none⟩ = some (.string rc) := HVB.out.cell 0
          have v1 : V.cell? ⟨wr.heap.size, 1, none⟩ = some (.string st) := HVB.out.cell 1
          have v2 : V.cell? ⟨wr.heap.size, 2, none⟩ = some (.int .i64 cd) := HVB.out.cell 2
          have v3 : V.cell? ⟨wr.heap.size, 3, none⟩ = some (.string tx) := HVB.out.cell 3
          have HIF : Hid (∀ wx : World, Env wx → Calls Tryz.prog 34 #[.agg #[.string rc, .string st, .int .i64 cd, .string tx]] wx fun e w' => e = .returned (.bool (flOk ⟨rc, st, cd, tx⟩)) ∧ Below wx.heap.size wx w') := fun wx he => implFailure ⟨rc, st, cd, tx⟩ wx he HFZ
          generalize flOk ⟨rc, st, cd, tx⟩ = F at *
          go_wp2_with fail
          refine (HIF.out _ (HE.out.below HBV.out)).mono ?_
          rintro e wF ⟨rfl, hb⟩
          have HBc : Hid (Below W.heap.size W wF) := HBV.out.trans (hb.mono HBV.out.size)
          clear hb v0 v1 v2 v3 HIF
          cases F
          · have G : Hid (R = false) := HNO.out rfl
            go_wp2
            go_ret
            exact ⟨ret_bool G.out.symm, HB0.out.trans (HBc.out.mono HZ.out)⟩
          · have HA2 := HYE.out rfl
            go_wp2
            go_roundw
            case rel => exact ⟨k + 1, by omega, by go_num, HBc, HA2⟩
            case measure => simp [intOf]; omega
        · obtain rfl : k = L.length := by omega
          have HR3 : Hid (R = decide (ct = hd)) := by
            show _ = _
            rw [HR2.out, List.all_eq_true.2 (fun x hx => by obtain ⟨j, hj, rfl⟩ := List.getElem_of_mem hx; exact HA.out j hj hj)]
            rfl
          clear HA HR2
          have HBk := HBc
          have HMk : Hid (Blk w.heap.size #[.string dm, .string tw, .slice a L.length c, .string hd] wr) := Blk.below HM.out HBc.out
          have k3 : wr.cell? ⟨w.heap.size, 3, none⟩ = some (.string hd) := HMk.out.cell 3
          have C9 : Hid (∀ wx : World, Env wx → Calls Tryz.prog 35 #[.string hd] wx fun e w' => e = .returned (.string ct) ∧ Below wx.heap.size wx w') := fun wx he => by have := implHeaders hd wx he.len z3; rw [HCT.out] at this; exact this
          clear HBc
          go_upto_region 9 with fail
          by_cases h9 : ct = hd
          · have h9b : (ct.toList == hd.toList) = true := by rw [h9]; simp
            have G : Hid (R = true) := by show _ = _; rw [HR3.out, decide_eq_true h9]
            refine wp_region_held_drew (S := fun w' => w'.cell? ⟨w.heap.size, 3, none⟩ = some (.string hd) ∧ True) (by kernel_rfl) ⟨by simpa using k3, trivial⟩ (fun hHeld => ?_)
            have HBc : Hid (Below wr.heap.size wr wr.drew) := (Below.refl wr.heap.size wr).drew
            generalize wr.drew = wd at hHeld HBc ⊢
            refine wpAnyH_take (i := 0) (oi := { dst := some 38, op := Op.fieldAddr 25 (Operand.tmp 1) 3, type := 0, pos := "l5_bounce.go:113", after := #[], guard := none }) (v := .pointer (some ⟨w.heap.size, 3, none⟩)) rfl (by kernel_rfl) (by kernel_rfl) (by kernel_rfl) (fun _ _ _ h => h) (Or.inl ⟨by rfl, fun wz hSw => ?_⟩) hHeld ?_
            · obtain ⟨e0, e1⟩ := hSw
              clear hHeld
              go_simp
            simp only [Act.put, List.setIfInBounds_toArray, List.set_cons_zero, List.set_cons_succ]
            refine wpAnyH_take (i := 1) (oi := { dst := some 39, op := Op.load 9 (Operand.tmp 38), type := 9, pos := "l5_bounce.go:113", after := #[{ on := 0, ground := Ground.data }], guard := none }) (v := .string hd) rfl (by kernel_rfl) (by kernel_rfl) (by kernel_rfl) (fun _ _ _ h => h) (Or.inl ⟨by rfl, fun wz hSw => ?_⟩) hHeld ?_
            · obtain ⟨e0, e1⟩ := hSw
              clear hHeld
              go_simp
            simp only [Act.put, List.setIfInBounds_toArray, List.set_cons_zero, List.set_cons_succ]
            refine wpAnyH_take (i := 3) (oi := { dst := some 41, op := Op.fieldAddr 25 (Operand.tmp 1) 3, type := 0, pos := "l5_bounce.go:113", after := #[], guard := none }) (v := .pointer (some ⟨w.heap.size, 3, none⟩)) rfl (by kernel_rfl) (by kernel_rfl) (by kernel_rfl) (fun _ _ _ h => h) (Or.inl ⟨by rfl, fun wz hSw => ?_⟩) hHeld ?_
            · obtain ⟨e0, e1⟩ := hSw
              clear hHeld
              go_simp
            simp only [Act.put, List.setIfInBounds_toArray, List.set_cons_zero, List.set_cons_succ]
            refine wpAnyH_take (i := 4) (oi := { dst := some 42, op := Op.load 9 (Operand.tmp 41), type := 9, pos := "l5_bounce.go:113", after := #[{ on := 3, ground := Ground.data }], guard := none }) (v := .string hd) rfl (by kernel_rfl) (by kernel_rfl) (by kernel_rfl) (fun _ _ _ h => h) (Or.inl ⟨by rfl, fun wz hSw => ?_⟩) hHeld ?_
            · obtain ⟨e0, e1⟩ := hSw
              clear hHeld
              go_simp
            simp only [Act.put, List.setIfInBounds_toArray, List.set_cons_zero, List.set_cons_succ]
            refine wpAnyH_ready (rs := [2]) (by kernel_rfl) (by simp) ?_
            refine AllReadyH.cons (o := { dst := some 40, op := Op.call { callee := Callee.value (Operand.func 35), args := #[Operand.tmp 39], argTypes := #[9] }, type := 9, pos := "l5_bounce.go:113", after := #[{ on := 1, ground := Ground.data }], guard := none }) rfl (fun K hK => ?_) AllReadyH.nil
            go_simp
            go_at_call 35
            refine (C9.out _ (HE.out.below (HBk.out.trans (HBc.out.mono HBk.out.size)))).mono ?_
            rintro e wH ⟨rfl, hb⟩
            have HBc : Hid (Below wr.heap.size wr wH) := HBc.out.trans (hb.mono HBc.out.size)
            refine hK.out _ _ ⟨(Blk.below HMk.out HBc.out).cell 3, trivial⟩ (fun hHeld => ?_)
            clear hK K hb
            try simp only [Act.put, List.setIfInBounds_toArray, List.set_cons_zero, List.set_cons_succ]
            refine wpAnyH_take (i := 5) (oi := { dst := some 43, op := Op.binOp BinOp.eql 9 (Operand.tmp 40) (Operand.tmp 42) 9, type := 4, pos := "l5_bounce.go:113", after := #[{ on := 2, ground := Ground.data }, { on := 4, ground := Ground.data }], guard := none }) (v := .bool true) rfl (by kernel_rfl) (by kernel_rfl) (by kernel_rfl) (fun _ _ _ h => h) (Or.inl ⟨by rfl, fun wz hSw => ?_⟩) hHeld ?_
            · obtain ⟨e0, e1⟩ := hSw
              clear hHeld
              go_simp
            simp only [Act.put, List.setIfInBounds_toArray, List.set_cons_zero, List.set_cons_succ]
            refine wpAnyH_take (i := 6) (oi := { dst := some 2, op := Op.assign (Operand.tmp 43), type := 4, pos := "l5_bounce.go:113", after := #[{ on := 5, ground := Ground.data }, { on := 2, ground := Ground.chain }, { on := 0, ground := Ground.phase }, { on := 1, ground := Ground.phase }, { on := 2, ground := Ground.phase }, { on := 3, ground := Ground.phase }, { on := 4, ground := Ground.phase }, { on := 5, ground := Ground.phase }], guard := none }) (v := .bool true) rfl (by kernel_rfl) (by kernel_rfl) (by kernel_rfl) (fun _ _ _ h => h) (Or.inl ⟨by rfl, fun wz hSw => ?_⟩) hHeld ?_
            · obtain ⟨e0, e1⟩ := hSw
              clear hHeld
              go_simp
            simp only [Act.put, List.setIfInBounds_toArray, List.set_cons_zero, List.set_cons_succ]
            refine wpAnyH_done (by kernel_rfl) ?_ _
            go_simp
            go_wp2
            go_ret
            exact ⟨ret_bool G.out.symm, HB0.out.trans ((HBk.out.trans (HBc.out.mono HBk.out.size)).mono HZ.out)⟩
          · have h9b : (ct.toList == hd.toList) = false := strNe h9
            have G : Hid (R = false) := by show _ = _; rw [HR3.out, decide_eq_false h9]
            refine wp_region_held_drew (S := fun w' => w'.cell? ⟨w.heap.size, 3, none⟩ = some (.string hd) ∧ True) (by kernel_rfl) ⟨by simpa using k3, trivial⟩ (fun hHeld => ?_)
            have HBc : Hid (Below wr.heap.size wr wr.drew) := (Below.refl wr.heap.size wr).drew
            generalize wr.drew = wd at hHeld HBc ⊢
            refine wpAnyH_take (i := 0) (oi := { dst := some 38, op := Op.fieldAddr 25 (Operand.tmp 1) 3, type := 0, pos := "l5_bounce.go:113", after := #[], guard := none }) (v := .pointer (some ⟨w.heap.size, 3, none⟩)) rfl (by kernel_rfl) (by kernel_rfl) (by kernel_rfl) (fun _ _ _ h => h) (Or.inl ⟨by rfl, fun wz hSw => ?_⟩) hHeld ?_
            · obtain ⟨e0, e1⟩ := hSw
              clear hHeld
              go_simp
            simp only [Act.put, List.setIfInBounds_toArray, List.set_cons_zero, List.set_cons_succ]
            refine wpAnyH_take (i := 1) (oi := { dst := some 39, op := Op.load 9 (Operand.tmp 38), type := 9, pos := "l5_bounce.go:113", after := #[{ on := 0, ground := Ground.data }], guard := none }) (v := .string hd) rfl (by kernel_rfl) (by kernel_rfl) (by kernel_rfl) (fun _ _ _ h => h) (Or.inl ⟨by rfl, fun wz hSw => ?_⟩) hHeld ?_
            · obtain ⟨e0, e1⟩ := hSw
              clear hHeld
              go_simp
            simp only [Act.put, List.setIfInBounds_toArray, List.set_cons_zero, List.set_cons_succ]
            refine wpAnyH_take (i := 3) (oi := { dst := some 41, op := Op.fieldAddr 25 (Operand.tmp 1) 3, type := 0, pos := "l5_bounce.go:113", after := #[], guard := none }) (v := .pointer (some ⟨w.heap.size, 3, none⟩)) rfl (by kernel_rfl) (by kernel_rfl) (by kernel_rfl) (fun _ _ _ h => h) (Or.inl ⟨by rfl, fun wz hSw => ?_⟩) hHeld ?_
            · obtain ⟨e0, e1⟩ := hSw
              clear hHeld
              go_simp
            simp only [Act.put, List.setIfInBounds_toArray, List.set_cons_zero, List.set_cons_succ]
            refine wpAnyH_take (i := 4) (oi := { dst := some 42, op := Op.load 9 (Operand.tmp 41), type := 9, pos := "l5_bounce.go:113", after := #[{ on := 3, ground := Ground.data }], guard := none }) (v := .string hd) rfl (by kernel_rfl) (by kernel_rfl) (by kernel_rfl) (fun _ _ _ h => h) (Or.inl ⟨by rfl, fun wz hSw => ?_⟩) hHeld ?_
            · obtain ⟨e0, e1⟩ := hSw
              clear hHeld
              go_simp
            simp only [Act.put, List.setIfInBounds_toArray, List.set_cons_zero, List.set_cons_succ]
            refine wpAnyH_ready (rs := [2]) (by kernel_rfl) (by simp) ?_
            refine AllReadyH.cons (o := { dst := some 40, op := Op.call { callee := Callee.value (Operand.func 35), args := #[Operand.tmp 39], argTypes := #[9] }, type := 9, pos := "l5_bounce.go:113", after := #[{ on := 1, ground := Ground.data }], guard := none }) rfl (fun K hK => ?_) AllReadyH.nil
            go_simp
            go_at_call 35
            refine (C9.out _ (HE.out.below (HBk.out.trans (HBc.out.mono HBk.out.size)))).mono ?_
            rintro e wH ⟨rfl, hb⟩
            have HBc : Hid (Below wr.heap.size wr wH) := HBc.out.trans (hb.mono HBc.out.size)
            refine hK.out _ _ ⟨(Blk.below HMk.out HBc.out).cell 3, trivial⟩ (fun hHeld => ?_)
            clear hK K hb
            try simp only [Act.put, List.setIfInBounds_toArray, List.set_cons_zero, List.set_cons_succ]
            refine wpAnyH_take (i := 5) (oi := { dst := some 43, op := Op.binOp BinOp.eql 9 (Operand.tmp 40) (Operand.tmp 42) 9, type := 4, pos := "l5_bounce.go:113", after := #[{ on := 2, ground := Ground.data }, { on := 4, ground := Ground.data }], guard := none }) (v := .bool false) rfl (by kernel_rfl) (by kernel_rfl) (by kernel_rfl) (fun _ _ _ h => h) (Or.inl ⟨by rfl, fun wz hSw => ?_⟩) hHeld ?_
            · obtain ⟨e0, e1⟩ := hSw
              clear hHeld
              go_simp
            simp only [Act.put, List.setIfInBounds_toArray, List.set_cons_zero, List.set_cons_succ]
            refine wpAnyH_take (i := 6) (oi := { dst := some 2, op := Op.assign (Operand.tmp 43), type := 4, pos := "l5_bounce.go:113", after := #[{ on := 5, ground := Ground.data }, { on := 2, ground := Ground.chain }, { on := 0, ground := Ground.phase }, { on := 1, ground := Ground.phase }, { on := 2, ground := Ground.phase }, { on := 3, ground := Ground.phase }, { on := 4, ground := Ground.phase }, { on := 5, ground := Ground.phase }], guard := none }) (v := .bool false) rfl (by kernel_rfl) (by kernel_rfl) (by kernel_rfl) (fun _ _ _ h => h) (Or.inl ⟨by rfl, fun wz hSw => ?_⟩) hHeld ?_
            · obtain ⟨e0, e1⟩ := hSw
              clear hHeld
              go_simp
            simp only [Act.put, List.setIfInBounds_toArray, List.set_cons_zero, List.set_cons_succ]
            refine wpAnyH_done (by kernel_rfl) ?_ _
            go_simp
            go_wp2
            go_ret
            exact ⟨ret_bool G.out.symm, HB0.out.trans ((HBk.out.trans (HBc.out.mono HBk.out.size)).mono HZ.out)⟩
end Go.Proofs.YtlolnfpfipnfeaaGreatDoor
