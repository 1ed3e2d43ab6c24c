import Derived.Test.YtlolnfpfipnfeaaGreatDoorMg32
import Derived.Test.YtlolnfpfipnfeaaGreatDoorMg34
import Derived.Test.YtlolnfpfipnfeaaGreatDoorMg27
import Derived.Deep.RegionHeld3
import Derived.Test.YtlolnfpfipnfeaaGreatDoorMg35
namespace Go.Proofs.YtlolnfpfipnfeaaGreatDoor
open Go.ChangeShapes Go.WideShapes Go.ChangeAt Go.RowKit
open Pcs


set_option maxHeartbeats 4000000 in
set_option maxRecDepth 100000 in
theorem specRight (b : Bn) (v : Value) (lo : Nat) (w : World) (h : Fls w lo v b.fs) (hz : BnZ b) :
    Calls Tryz.prog 17 #[bnV b v] w fun e w' => e = .returned (.bool (bnOk b)) ∧ Below w.heap.size w w' := by
  obtain ⟨dm, tw, L, hd⟩ := b
  obtain ⟨z1, z2, z3, z4, z5⟩ := hz
  dsimp only at z1 z2 z3 z4 z5 h
  have HR : Hid (bnOk ⟨dm, tw, L, hd⟩ = (domOk dm && (addrOk tw && (decide (1 ≤ L.length) && (decide (L.length ≤ 20) && (L.all flOk && decide (headB hd = hd))))))) := rfl
  generalize bnOk ⟨dm, tw, L, hd⟩ = R at *
  obtain ⟨ct, hct⟩ : ∃ ct, headB hd = ct := ⟨_, rfl⟩
  have HCT : Hid (headB hd = ct) := hct
  have HBO : Hid (headB hd = hd → bodyOk hd = true) := head_body
  rw [hct] at HBO
  clear hct
  obtain ⟨a, c, rfl⟩ := fls_form h
  have HFL : Hid (Fls w lo (.slice a L.length c) L) := h
  have HZ4 : Hid (∀ f ∈ L, FlZ f) := z4
  unfold bnV
  dsimp only
  clear h z4
  go_enter Tryz.func17, Tryz.ntmps17
  go_upto_region 1 with fail
  generalize hW : w.alloc _ = W
  have HM : Hid (Blk w.heap.size #[.string dm, .string tw, .slice a L.length c, .string hd] W) := by show Blk _ _ _; rw [← hW]; exact Blk.new _ _ _
  have HB0 : Hid (Below w.heap.size w W) := by show Below _ _ _; rw [← hW]; exact below1 _ _
  have HZ : Hid (w.heap.size ≤ W.heap.size) := HB0.out.size
  have HBc : Hid (Below W.heap.size W W) := Below.refl _ _
  clear hW
  have k0 : W.cell? ⟨w.heap.size, 0, none⟩ = some (.string dm) := (Blk.below HM.out HBc.out).cell 0
  have k1 : W.cell? ⟨w.heap.size, 1, none⟩ = some (.string tw) := (Blk.below HM.out HBc.out).cell 1
  have k2 : W.cell? ⟨w.heap.size, 2, none⟩ = some (.slice a L.length c) := (Blk.below HM.out HBc.out).cell 2
  have k3 : W.cell? ⟨w.heap.size, 3, none⟩ = some (.string hd) := (Blk.below HM.out HBc.out).cell 3
  cases h1 : domOk dm
  · skip
    have C1 : Hid (∀ wx : World, Calls Tryz.prog 42 #[.string dm] wx fun e w' => e = .returned (.bool false) ∧ Below wx.heap.size wx w') := fun wx => by have := specDomain dm wx z1; rw [h1] at this; exact this
    go_wp2_with fail
    refine (C1.out _).mono ?_
    rintro e wA ⟨rfl, hb⟩
    have HBc : Hid (Below W.heap.size W wA) := HBc.out.trans (hb.mono HBc.out.size)
    clear hb k0 k1 k2 k3
    have k0 : wA.cell? ⟨w.heap.size, 0, none⟩ = some (.string dm) := (Blk.below HM.out HBc.out).cell 0
    have k1 : wA.cell? ⟨w.heap.size, 1, none⟩ = some (.string tw) := (Blk.below HM.out HBc.out).cell 1
    have k2 : wA.cell? ⟨w.heap.size, 2, none⟩ = some (.slice a L.length c) := (Blk.below HM.out HBc.out).cell 2
    have k3 : wA.cell? ⟨w.heap.size, 3, none⟩ = some (.string hd) := (Blk.below HM.out HBc.out).cell 3
    have G : Hid (R = false) := by show _ = _; rw [HR.out, h1]; rfl
    go_wp2
    go_ret
    exact ⟨ret_bool G.out.symm, HB0.out.trans (HBc.out.mono HZ.out)⟩
  · skip
    have C1 : Hid (∀ wx : World, Calls Tryz.prog 42 #[.string dm] wx fun e w' => e = .returned (.bool true) ∧ Below wx.heap.size wx w') := fun wx => by have := specDomain dm wx z1; rw [h1] at this; exact this
    go_wp2_with fail
    refine (C1.out _).mono ?_
    rintro e wA ⟨rfl, hb⟩
    have HBc : Hid (Below W.heap.size W wA) := HBc.out.trans (hb.mono HBc.out.size)
    clear hb k0 k1 k2 k3
    have k0 : wA.cell? ⟨w.heap.size, 0, none⟩ = some (.string dm) := (Blk.below HM.out HBc.out).cell 0
    have k1 : wA.cell? ⟨w.heap.size, 1, none⟩ = some (.string tw) := (Blk.below HM.out HBc.out).cell 1
    have k2 : wA.cell? ⟨w.heap.size, 2, none⟩ = some (.slice a L.length c) := (Blk.below HM.out HBc.out).cell 2
    have k3 : wA.cell? ⟨w.heap.size, 3, none⟩ = some (.string hd) := (Blk.below HM.out HBc.out).cell 3
    cases h2 : addrOk tw
    · skip
      have C2 : Hid (∀ wx : World, Calls Tryz.prog 43 #[.string tw] wx fun e w' => e = .returned (.bool false) ∧ Below wx.heap.size wx w') := fun wx => by have := specAddress tw wx z2; rw [h2] at this; exact this
      go_wp2_with fail
      refine (C2.out _).mono ?_
      rintro e wB ⟨rfl, hb⟩
      have HBc : Hid (Below W.heap.size W wB) := HBc.out.trans (hb.mono HBc.out.size)
      clear hb k0 k1 k2 k3
      have k0 : wB.cell? ⟨w.heap.size, 0, none⟩ = some (.string dm) := (Blk.below HM.out HBc.out).cell 0
      have k1 : wB.cell? ⟨w.heap.size, 1, none⟩ = some (.string tw) := (Blk.below HM.out HBc.out).cell 1
      have k2 : wB.cell? ⟨w.heap.size, 2, none⟩ = some (.slice a L.length c) := (Blk.below HM.out HBc.out).cell 2
      have k3 : wB.cell? ⟨w.heap.size, 3, none⟩ = some (.string hd) := (Blk.below HM.out HBc.out).cell 3
      have G : Hid (R = false) := by show _ = _; rw [HR.out, h1, h2]; rfl
      go_wp2
      go_ret
      exact ⟨ret_bool G.out.symm, HB0.out.trans (HBc.out.mono HZ.out)⟩
    · skip
      have C2 : Hid (∀ wx : World, Calls Tryz.prog 43 #[.string tw] wx fun e w' => e = .returned (.bool true) ∧ Below wx.heap.size wx w') := fun wx => by have := specAddress tw wx z2; rw [h2] at this; exact this
      go_wp2_with fail
      refine (C2.out _).mono ?_
      rintro e wB ⟨rfl, hb⟩
      have HBc : Hid (Below W.heap.size W wB) := HBc.out.trans (hb.mono HBc.out.size)
      clear hb k0 k1 k2 k3
      have k0 : wB.cell? ⟨w.heap.size, 0, none⟩ = some (.string dm) := (Blk.below HM.out HBc.out).cell 0
      have k1 : wB.cell? ⟨w.heap.size, 1, none⟩ = some (.string tw) := (Blk.below HM.out HBc.out).cell 1
      have k2 : wB.cell? ⟨w.heap.size, 2, none⟩ = some (.slice a L.length c) := (Blk.below HM.out HBc.out).cell 2
      have k3 : wB.cell? ⟨w.heap.size, 3, none⟩ = some (.string hd) := (Blk.below HM.out HBc.out).cell 3
      by_cases n1 : L.length < 1
      · have n1i : (L.length : Int) < 1 := by omega
        have G : Hid (R = false) := by show _ = _; rw [HR.out, h1, h2, decide_eq_false (show ¬ 1 ≤ L.length by omega)]; rfl
        go_wp2
        go_ret
        exact ⟨ret_bool G.out.symm, HB0.out.trans (HBc.out.mono HZ.out)⟩
      have n1i : ¬ (L.length : Int) < 1 := by omega
      by_cases n2 : 20 < L.length
      · have n2i : (20 : Int) < (L.length : Int) := by omega
        have G : Hid (R = false) := by show _ = _; rw [HR.out, h1, h2, decide_eq_true (show 1 ≤ L.length by omega), decide_eq_false (show ¬ L.length ≤ 20 by omega)]; rfl
        go_wp2
        go_ret
        exact ⟨ret_bool G.out.symm, HB0.out.trans (HBc.out.mono HZ.out)⟩
      have n2i : ¬ (20 : Int) < (L.length : Int) := by omega
      have HR2 : Hid (R = (L.all flOk && decide (ct = hd))) := by show _ = _; rw [HR.out, h1, h2, decide_eq_true (show 1 ≤ L.length by omega), decide_eq_true (show L.length ≤ 20 by omega), HCT.out]; rfl
      clear HR C1 C2 h1 h2
      go_wp2_with fail
      clear k0 k1 k2 k3
      obtain ⟨wc, hwc⟩ : ∃ wc : World, wc = wB := ⟨wB, rfl⟩
      go_loopw [30] (fun iv wr => ∃ k : Nat, k ≤ L.length ∧ iv = .int .i64 k ∧ Hid (Below W.heap.size W wr) ∧ Hid (∀ j (h : j < L.length), j < k → flOk L[j] = true)) (fun iv _ => L.length - (intOf iv).toNat)
      case atStart => exact ⟨0, Nat.zero_le _, rfl, HBc, fun j _ hj => absurd hj (Nat.not_lt_zero _)⟩
      case round =>
        clear HBc hwc wc
        obtain ⟨k, hk, rfl, HBc, HA⟩ := hrel
        by_cases hlt : k < L.length
        · obtain ⟨g, cap, hv, A1⟩ : ∃ g cap, (Value.slice a L.length c) = .slice (some ⟨g, 0, none⟩) L.length cap ∧ FlsAt w lo g cap L := by
            rcases HFL.out.cases with ⟨_, h0⟩ | h0
            · rw [h0] at hlt; exact absurd hlt (Nat.not_lt_zero _)
            · exact h0
          injection hv with hv1 _ hv3
          subst hv1 hv3
          have hgw : g < W.heap.size := Nat.lt_of_lt_of_le A1.lt HZ.out
          have hX := A1.cell k hlt
          have e0 := (HBc.out.cell (p := ⟨g, k * 4, none⟩) hgw).trans ((HB0.out.cell (p := ⟨g, k * 4, none⟩) A1.lt).trans hX.1)
          have e1 := (HBc.out.cell (p := ⟨g, k * 4 + 1, none⟩) hgw).trans ((HB0.out.cell (p := ⟨g, k * 4 + 1, none⟩) A1.lt).trans hX.2.1)
          have e2 := (HBc.out.cell (p := ⟨g, k * 4 + 2, none⟩) hgw).trans ((HB0.out.cell (p := ⟨g, k * 4 + 2, none⟩) A1.lt).trans hX.2.2.1)
          have e3 := (HBc.out.cell (p := ⟨g, k * 4 + 3, none⟩) hgw).trans ((HB0.out.cell (p := ⟨g, k * 4 + 3, none⟩) A1.lt).trans hX.2.2.2)
          have hcap := A1.len
          have hcap2 := A1.cap
          unfold maxLen at hcap2
          have HFZ := HZ4.out L[k] (List.getElem_mem hlt)
          have HNO : Hid (flOk L[k] = false → R = false) := fun hf => by
            rw [HR2.out]
            have : L.all flOk = false := List.all_eq_false.2 ⟨L[k], List.getElem_mem hlt, by rw [hf]; decide⟩
            rw [this]; rfl
          have HYE : Hid (flOk L[k] = true → ∀ j (h : j < L.length), j < k + 1 → flOk L[j] = true) := fun hf j hj hjk => by
            by_cases e : j = k
            · subst e; exact hf
            · exact HA.out j hj (by omega)
          generalize L[k] = X at *
          obtain ⟨rc, st, cd, tx⟩ := X
          dsimp only at e0 e1 e2 e3
          clear hX A1 HA
          go_upto_region 6 with fail
          generalize hV : wr.alloc _ = V
          have HVB : Hid (Blk wr.heap.size #[.string rc, .string st, .int .i64 cd, .string tx] V) := by show Blk _ _ _; rw [← hV]; exact Blk.new _ _ _
          have HBV : Hid (Below W.heap.size W V) := by show Below _ _ _; rw [← hV]; exact HBc.out.alloc HBc.out.size _
          have zV : wr.heap.size ≤ V.heap.size := by rw [← hV]; simp
          clear hV e0 e1 e2 e3 HBc
          have v0 : V.cell? ⟨wr.heap.size, 0, none⟩ = some (.string rc) := HVB.out.cell 0
          have v1 : V.cell? ⟨wr.heap.size, 1, none⟩ = some (.string st) := HVB.out.cell 1
          have v2 : V.cell? ⟨wr.heap.size, 2, none⟩ = some (.int .i64 cd) := HVB.out.cell 2
          have v3 : V.cell? ⟨wr.heap.size, 3, none⟩ = some (.string tx) := HVB.out.cell 3
          obtain ⟨ct2, hct2⟩ : ∃ ct2, cleanB tx = ct2 := ⟨_, rfl⟩
          have HF : Hid (flOk ⟨rc, st, cd, tx⟩ = (addrOk rc && (statOk st && (codeOk cd && decide (cleanB tx = tx))))) := rfl
          have HCS : Hid (cleanB tx = ct2) := hct2
          clear hct2
          obtain ⟨y1, y2, y4⟩ := HFZ
          dsimp only at y1 y2 y4
          generalize flOk ⟨rc, st, cd, tx⟩ = F at *
          cases h1 : addrOk rc
          · have C1 : Hid (∀ wx : World, Calls Tryz.prog 43 #[.string rc] wx fun e w' => e = .returned (.bool false) ∧ Below wx.heap.size wx w') := fun wx => by have := specAddress rc wx y1; rw [h1] at this; exact this
            have G : Hid (F = false) := by show _ = _; rw [HF.out, h1]; rfl
            refine wp_region_held_drew (S := fun w' => w'.cell? ⟨wr.heap.size, 0, none⟩ = some (.string rc) ∧ w'.cell? ⟨wr.heap.size, 1, none⟩ = some (.string st) ∧ w'.cell? ⟨wr.heap.size, 2, none⟩ = some (.int .i64 cd) ∧ w'.cell? ⟨wr.heap.size, 3, none⟩ = some (.string tx)) (by kernel_rfl) ⟨by simpa using v0, by simpa using v1, by simpa using v2, by simpa using v3⟩ (fun hHeld => ?_)
            have HBc : Hid (Below V.heap.size V V.drew) := (Below.refl V.heap.size V).drew
            generalize V.drew = wd at hHeld HBc ⊢
            refine wpAnyH_take (i := 0) (oi := { dst := some 34, op := Op.fieldAddr 31 (Operand.tmp 4) 0, type := 0, pos := "l5_bounce.go:47", after := #[], guard := none }) (v := .pointer (some ⟨wr.heap.size, 0, none⟩)) rfl (by kernel_rfl) (by kernel_rfl) (by kernel_rfl) (fun _ _ _ h => h) (Or.inl ⟨by rfl, fun wz hSw => ?_⟩) hHeld ?_
            · obtain ⟨e0, e1, e2, e3⟩ := hSw
              clear hHeld
              go_simp
            simp only [Act.put, List.setIfInBounds_toArray, List.set_cons_zero, List.set_cons_succ]
            refine wpAnyH_take (i := 1) (oi := { dst := some 35, op := Op.load 9 (Operand.tmp 34), type := 9, pos := "l5_bounce.go:47", after := #[{ on := 0, ground := Ground.data }], guard := none }) (v := .string rc) rfl (by kernel_rfl) (by kernel_rfl) (by kernel_rfl) (fun _ _ _ h => h) (Or.inl ⟨by rfl, fun wz hSw => ?_⟩) hHeld ?_
            · obtain ⟨e0, e1, e2, e3⟩ := hSw
              clear hHeld
              go_simp
            simp only [Act.put, List.setIfInBounds_toArray, List.set_cons_zero, List.set_cons_succ]
            refine wpAnyH_ready (rs := [2]) (by kernel_rfl) (by simp) ?_
            refine AllReadyH.cons (o := { dst := some 36, op := Op.call { callee := Callee.value (Operand.func 43), args := #[Operand.tmp 35], argTypes := #[9] }, type := 4, pos := "l5_bounce.go:47", after := #[{ on := 1, ground := Ground.data }], guard := none }) rfl (fun K hK => ?_) AllReadyH.nil
            go_simp
            go_at_call 43
            refine (C1.out _).mono ?_
            rintro e wA ⟨rfl, hb⟩
            have HBc : Hid (Below V.heap.size V wA) := HBc.out.trans (hb.mono HBc.out.size)
            refine hK.out _ _ ⟨(Blk.below HVB.out HBc.out).cell 0, (Blk.below HVB.out HBc.out).cell 1, (Blk.below HVB.out HBc.out).cell 2, (Blk.below HVB.out HBc.out).cell 3⟩ (fun hHeld => ?_)
            clear hK K hb
            try simp only [Act.put, List.setIfInBounds_toArray, List.set_cons_zero, List.set_cons_succ]
            refine wpAnyH_take (i := 3) (oi := { dst := some 37, op := Op.unOp UnOp.not 4 (Operand.tmp 36), type := 4, pos := "l5_bounce.go:47", after := #[{ on := 2, ground := Ground.data }], guard := none }) (v := .bool true) rfl (by kernel_rfl) (by kernel_rfl) (by kernel_rfl) (fun _ _ _ h => h) (Or.inl ⟨by rfl, fun wz hSw => ?_⟩) hHeld ?_
            · obtain ⟨e0, e1, e2, e3⟩ := hSw
              clear hHeld
              go_simp
            simp only [Act.put, List.setIfInBounds_toArray, List.set_cons_zero, List.set_cons_succ]
            refine wpAnyH_take (i := 4) (oi := { dst := some 38, op := Op.move (Operand.tmp 37), type := 4, pos := "l5_bounce.go:47", after := #[{ on := 3, ground := Ground.data }, { on := 2, ground := Ground.chain }], guard := none }) (v := .bool true) rfl (by kernel_rfl) (by kernel_rfl) (by kernel_rfl) (fun _ _ _ h => h) (Or.inl ⟨by rfl, fun wz hSw => ?_⟩) hHeld ?_
            · obtain ⟨e0, e1, e2, e3⟩ := hSw
              clear hHeld
              go_simp
            simp only [Act.put, List.setIfInBounds_toArray, List.set_cons_zero, List.set_cons_succ]
            refine wpAnyH_take (i := 5) (oi := { dst := some 39, op := Op.fieldAddr 31 (Operand.tmp 4) 1, type := 0, pos := "l5_bounce.go:47", after := #[{ on := 4, ground := Ground.guard }], guard := some (4, false) }) (v := undef) rfl (by kernel_rfl) (by kernel_rfl) (by kernel_rfl) (fun _ _ _ h => h) (Or.inr ⟨by rfl, rfl⟩) hHeld ?_
            simp only [Act.put, List.setIfInBounds_toArray, List.set_cons_zero, List.set_cons_succ]
            refine wpAnyH_take (i := 6) (oi := { dst := some 40, op := Op.load 9 (Operand.tmp 39), type := 9, pos := "l5_bounce.go:47", after := #[{ on := 5, ground := Ground.data }, { on := 4, ground := Ground.guard }], guard := some (4, false) }) (v := undef) rfl (by kernel_rfl) (by kernel_rfl) (by kernel_rfl) (fun _ _ _ h => h) (Or.inr ⟨by rfl, rfl⟩) hHeld ?_
            simp only [Act.put, List.setIfInBounds_toArray, List.set_cons_zero, List.set_cons_succ]
            refine wpAnyH_take (i := 7) (oi := { dst := some 41, op := Op.call { callee := Callee.value (Operand.func 44), args := #[Operand.tmp 40], argTypes := #[9] }, type := 4, pos := "l5_bounce.go:47", after := #[{ on := 6, ground := Ground.data }, { on := 4, ground := Ground.chain }, { on := 4, ground := Ground.guard }], guard := some (4, false) }) (v := undef) rfl (by kernel_rfl) (by kernel_rfl) (by kernel_rfl) (fun _ _ _ h => h) (Or.inr ⟨by rfl, rfl⟩) hHeld ?_
            simp only [Act.put, List.setIfInBounds_toArray, List.set_cons_zero, List.set_cons_succ]
            refine wpAnyH_take (i := 8) (oi := { dst := some 42, op := Op.unOp UnOp.not 4 (Operand.tmp 41), type := 4, pos := "l5_bounce.go:47", after := #[{ on := 7, ground := Ground.data }, { on := 4, ground := Ground.guard }], guard := some (4, false) }) (v := undef) rfl (by kernel_rfl) (by kernel_rfl) (by kernel_rfl) (fun _ _ _ h => h) (Or.inr ⟨by rfl, rfl⟩) hHeld ?_
            simp only [Act.put, List.setIfInBounds_toArray, List.set_cons_zero, List.set_cons_succ]
            refine wpAnyH_take (i := 9) (oi := { dst := some 43, op := Op.pick (Operand.tmp 38) (Operand.const (Value.bool true)) (Operand.tmp 42), type := 4, pos := "l5_bounce.go:47", after := #[{ on := 4, ground := Ground.data }, { on := 8, ground := Ground.data }], guard := none }) (v := .bool true) rfl (by kernel_rfl) (by kernel_rfl) (by kernel_rfl) (fun _ _ _ h => h) (Or.inl ⟨by rfl, fun wz hSw => ?_⟩) hHeld ?_
            · obtain ⟨e0, e1, e2, e3⟩ := hSw
              clear hHeld
              go_simp
            simp only [Act.put, List.setIfInBounds_toArray, List.set_cons_zero, List.set_cons_succ]
            refine wpAnyH_take (i := 10) (oi := { dst := some 44, op := Op.move (Operand.tmp 43), type := 4, pos := "l5_bounce.go:47", after := #[{ on := 9, ground := Ground.data }, { on := 7, ground := Ground.chain }], guard := none }) (v := .bool true) rfl (by kernel_rfl) (by kernel_rfl) (by kernel_rfl) (fun _ _ _ h => h) (Or.inl ⟨by rfl, fun wz hSw => ?_⟩) hHeld ?_
            · obtain ⟨e0, e1, e2, e3⟩ := hSw
              clear hHeld
              go_simp
            simp only [Act.put, List.setIfInBounds_toArray, List.set_cons_zero, List.set_cons_succ]
            refine wpAnyH_take (i := 11) (oi := { dst := some 45, op := Op.fieldAddr 31 (Operand.tmp 4) 2, type := 0, pos := "l5_bounce.go:47", after := #[{ on := 10, ground := Ground.guard }], guard := some (10, false) }) (v := undef) rfl (by kernel_rfl) (by kernel_rfl) (by kernel_rfl) (fun _ _ _ h => h) (Or.inr ⟨by rfl, rfl⟩) hHeld ?_
            simp only [Act.put, List.setIfInBounds_toArray, List.set_cons_zero, List.set_cons_succ]
            refine wpAnyH_take (i := 12) (oi := { dst := some 46, op := Op.load 3 (Operand.tmp 45), type := 3, pos := "l5_bounce.go:47", after := #[{ on := 11, ground := Ground.data }, { on := 10, ground := Ground.guard }], guard := some (10, false) }) (v := undef) rfl (by kernel_rfl) (by kernel_rfl) (by kernel_rfl) (fun _ _ _ h => h) (Or.inr ⟨by rfl, rfl⟩) hHeld ?_
            simp only [Act.put, List.setIfInBounds_toArray, List.set_cons_zero, List.set_cons_succ]
            refine wpAnyH_take (i := 13) (oi := { dst := some 47, op := Op.call { callee := Callee.value (Operand.func 45), args := #[Operand.tmp 46], argTypes := #[3] }, type := 4, pos := "l5_bounce.go:47", after := #[{ on := 12, ground := Ground.data }, { on := 10, ground := Ground.chain }, { on := 10, ground := Ground.guard }], guard := some (10, false) }) (v := undef) rfl (by kernel_rfl) (by kernel_rfl) (by kernel_rfl) (fun _ _ _ h => h) (Or.inr ⟨by rfl, rfl⟩) hHeld ?_
            simp only [Act.put, List.setIfInBounds_toArray, List.set_cons_zero, List.set_cons_succ]
            refine wpAnyH_take (i := 14) (oi := { dst := some 48, op := Op.unOp UnOp.not 4 (Operand.tmp 47), type := 4, pos := "l5_bounce.go:47", after := #[{ on := 13, ground := Ground.data }, { on := 10, ground := Ground.guard }], guard := some (10, false) }) (v := undef) rfl (by kernel_rfl) (by kernel_rfl) (by kernel_rfl) (fun _ _ _ h => h) (Or.inr ⟨by rfl, rfl⟩) hHeld ?_
            simp only [Act.put, List.setIfInBounds_toArray, List.set_cons_zero, List.set_cons_succ]
            refine wpAnyH_take (i := 15) (oi := { dst := some 49, op := Op.pick (Operand.tmp 44) (Operand.const (Value.bool true)) (Operand.tmp 48), type := 4, pos := "l5_bounce.go:47", after := #[{ on := 10, ground := Ground.data }, { on := 14, ground := Ground.data }], guard := none }) (v := .bool true) rfl (by kernel_rfl) (by kernel_rfl) (by kernel_rfl) (fun _ _ _ h => h) (Or.inl ⟨by rfl, fun wz hSw => ?_⟩) hHeld ?_
            · obtain ⟨e0, e1, e2, e3⟩ := hSw
              clear hHeld
              go_simp
            simp only [Act.put, List.setIfInBounds_toArray, List.set_cons_zero, List.set_cons_succ]
            refine wpAnyH_take (i := 16) (oi := { dst := some 50, op := Op.move (Operand.tmp 49), type := 4, pos := "l5_bounce.go:47", after := #[{ on := 15, ground := Ground.data }, { on := 13, ground := Ground.chain }], guard := none }) (v := .bool true) rfl (by kernel_rfl) (by kernel_rfl) (by kernel_rfl) (fun _ _ _ h => h) (Or.inl ⟨by rfl, fun wz hSw => ?_⟩) hHeld ?_
            · obtain ⟨e0, e1, e2, e3⟩ := hSw
              clear hHeld
              go_simp
            simp only [Act.put, List.setIfInBounds_toArray, List.set_cons_zero, List.set_cons_succ]
            refine wpAnyH_take (i := 17) (oi := { dst := some 51, op := Op.fieldAddr 31 (Operand.tmp 4) 3, type := 0, pos := "l5_bounce.go:47", after := #[{ on := 16, ground := Ground.guard }], guard := some (16, false) }) (v := undef) rfl (by kernel_rfl) (by kernel_rfl) (by kernel_rfl) (fun _ _ _ h => h) (Or.inr ⟨by rfl, rfl⟩) hHeld ?_
            simp only [Act.put, List.setIfInBounds_toArray, List.set_cons_zero, List.set_cons_succ]
            refine wpAnyH_take (i := 18) (oi := { dst := some 52, op := Op.load 9 (Operand.tmp 51), type := 9, pos := "l5_bounce.go:47", after := #[{ on := 17, ground := Ground.data }, { on := 16, ground := Ground.guard }], guard := some (16, false) }) (v := undef) rfl (by kernel_rfl) (by kernel_rfl) (by kernel_rfl) (fun _ _ _ h => h) (Or.inr ⟨by rfl, rfl⟩) hHeld ?_
            simp only [Act.put, List.setIfInBounds_toArray, List.set_cons_zero, List.set_cons_succ]
            refine wpAnyH_take (i := 19) (oi := { dst := some 53, op := Op.call { callee := Callee.value (Operand.func 28), args := #[Operand.tmp 52], argTypes := #[9] }, type := 9, pos := "l5_bounce.go:47", after := #[{ on := 18, ground := Ground.data }, { on := 16, ground := Ground.chain }, { on := 16, ground := Ground.guard }], guard := some (16, false) }) (v := undef) rfl (by kernel_rfl) (by kernel_rfl) (by kernel_rfl) (fun _ _ _ h => h) (Or.inr ⟨by rfl, rfl⟩) hHeld ?_
            simp only [Act.put, List.setIfInBounds_toArray, List.set_cons_zero, List.set_cons_succ]
            refine wpAnyH_take (i := 20) (oi := { dst := some 54, op := Op.fieldAddr 31 (Operand.tmp 4) 3, type := 0, pos := "l5_bounce.go:47", after := #[{ on := 16, ground := Ground.guard }], guard := some (16, false) }) (v := undef) rfl (by kernel_rfl) (by kernel_rfl) (by kernel_rfl) (fun _ _ _ h => h) (Or.inr ⟨by rfl, rfl⟩) hHeld ?_
            simp only [Act.put, List.setIfInBounds_toArray, List.set_cons_zero, List.set_cons_succ]
            refine wpAnyH_take (i := 21) (oi := { dst := some 55, op := Op.load 9 (Operand.tmp 54), type := 9, pos := "l5_bounce.go:47", after := #[{ on := 20, ground := Ground.data }, { on := 16, ground := Ground.guard }], guard := some (16, false) }) (v := undef) rfl (by kernel_rfl) (by kernel_rfl) (by kernel_rfl) (fun _ _ _ h => h) (Or.inr ⟨by rfl, rfl⟩) hHeld ?_
            simp only [Act.put, List.setIfInBounds_toArray, List.set_cons_zero, List.set_cons_succ]
            refine wpAnyH_take (i := 22) (oi := { dst := some 56, op := Op.binOp BinOp.neq 9 (Operand.tmp 53) (Operand.tmp 55) 9, type := 4, pos := "l5_bounce.go:47", after := #[{ on := 19, ground := Ground.data }, { on := 21, ground := Ground.data }, { on := 16, ground := Ground.guard }], guard := some (16, false) }) (v := undef) rfl (by kernel_rfl) (by kernel_rfl) (by kernel_rfl) (fun _ _ _ h => h) (Or.inr ⟨by rfl, rfl⟩) hHeld ?_
            simp only [Act.put, List.setIfInBounds_toArray, List.set_cons_zero, List.set_cons_succ]
            refine wpAnyH_take (i := 23) (oi := { dst := some 57, op := Op.pick (Operand.tmp 50) (Operand.const (Value.bool true)) (Operand.tmp 56), type := 4, pos := "l5_bounce.go:47", after := #[{ on := 16, ground := Ground.data }, { on := 22, ground := Ground.data }], guard := none }) (v := .bool true) rfl (by kernel_rfl) (by kernel_rfl) (by kernel_rfl) (fun _ _ _ h => h) (Or.inl ⟨by rfl, fun wz hSw => ?_⟩) hHeld ?_
            · obtain ⟨e0, e1, e2, e3⟩ := hSw
              clear hHeld
              go_simp
            simp only [Act.put, List.setIfInBounds_toArray, List.set_cons_zero, List.set_cons_succ]
            refine wpAnyH_done (by kernel_rfl) ?_ _
            have G2 : Hid (R = false) := HNO.out G.out
            go_simp
            go_wp2
            go_ret
            exact ⟨ret_bool G2.out.symm, HB0.out.trans ((HBV.out.trans (HBc.out.mono HBV.out.size)).mono HZ.out)⟩
          · cases h2 : statOk st
            · have C1 : Hid (∀ wx : World, Calls Tryz.prog 43 #[.string rc] wx fun e w' => e = .returned (.bool true) ∧ Below wx.heap.size wx w') := fun wx => by have := specAddress rc wx y1; rw [h1] at this; exact this
              have C2 : Hid (∀ wx : World, Calls Tryz.prog 44 #[.string st] wx fun e w' => e = .returned (.bool false) ∧ Below wx.heap.size wx w') := fun wx => by have := specStatus st wx y2; rw [h2] at this; exact this
              have G : Hid (F = false) := by show _ = _; rw [HF.out, h1, h2]; rfl
              refine wp_region_held_drew (S := fun w' => w'.cell? ⟨wr.heap.size, 0, none⟩ = some (.string rc) ∧ w'.cell? ⟨wr.heap.size, 1, none⟩ = some (.string st) ∧ w'.cell? ⟨wr.heap.size, 2, none⟩ = some (.int .i64 cd) ∧ w'.cell? ⟨wr.heap.size, 3, none⟩ = some (.string tx)) (by kernel_rfl) ⟨by simpa using v0, by simpa using v1, by simpa using v2, by simpa using v3⟩ (fun hHeld => ?_)
              have HBc : Hid (Below V.heap.size V V.drew) := (Below.refl V.heap.size V).drew
              generalize V.drew = wd at hHeld HBc ⊢
              refine wpAnyH_take (i := 0) (oi := { dst := some 34, op := Op.fieldAddr 31 (Operand.tmp 4) 0, type := 0, pos := "l5_bounce.go:47", after := #[], guard := none }) (v := .pointer (some ⟨wr.heap.size, 0, none⟩)) rfl (by kernel_rfl) (by kernel_rfl) (by kernel_rfl) (fun _ _ _ h => h) (Or.inl ⟨by rfl, fun wz hSw => ?_⟩) hHeld ?_
              · obtain ⟨e0, e1, e2, e3⟩ := hSw
                clear hHeld
                go_simp
              simp only [Act.put, List.setIfInBounds_toArray, List.set_cons_zero, List.set_cons_succ]
              refine wpAnyH_take (i := 1) (oi := { dst := some 35, op := Op.load 9 (Operand.tmp 34), type := 9, pos := "l5_bounce.go:47", after := #[{ on := 0, ground := Ground.data }], guard := none }) (v := .string rc) rfl (by kernel_rfl) (by kernel_rfl) (by kernel_rfl) (fun _ _ _ h => h) (Or.inl ⟨by rfl, fun wz hSw => ?_⟩) hHeld ?_
              · obtain ⟨e0, e1, e2, e3⟩ := hSw
                clear hHeld
                go_simp
              simp only [Act.put, List.setIfInBounds_toArray, List.set_cons_zero, List.set_cons_succ]
              refine wpAnyH_ready (rs := [2]) (by kernel_rfl) (by simp) ?_
              refine AllReadyH.cons (o := { dst := some 36, op := Op.call { callee := Callee.value (Operand.func 43), args := #[Operand.tmp 35], argTypes := #[9] }, type := 4, pos := "l5_bounce.go:47", after := #[{ on := 1, ground := Ground.data }], guard := none }) rfl (fun K hK => ?_) AllReadyH.nil
              go_simp
              go_at_call 43
              refine (C1.out _).mono ?_
              rintro e wA ⟨rfl, hb⟩
              have HBc : Hid (Below V.heap.size V wA) := HBc.out.trans (hb.mono HBc.out.size)
              refine hK.out _ _ ⟨(Blk.below HVB.out HBc.out).cell 0, (Blk.below HVB.out HBc.out).cell 1, (Blk.below HVB.out HBc.out).cell 2, (Blk.below HVB.out HBc.out).cell 3⟩ (fun hHeld => ?_)
              clear hK K hb
              try simp only [Act.put, List.setIfInBounds_toArray, List.set_cons_zero, List.set_cons_succ]
              refine wpAnyH_take (i := 3) (oi := { dst := some 37, op := Op.unOp UnOp.not 4 (Operand.tmp 36), type := 4, pos := "l5_bounce.go:47", after := #[{ on := 2, ground := Ground.data }], guard := none }) (v := .bool false) rfl (by kernel_rfl) (by kernel_rfl) (by kernel_rfl) (fun _ _ _ h => h) (Or.inl ⟨by rfl, fun wz hSw => ?_⟩) hHeld ?_
              · obtain ⟨e0, e1, e2, e3⟩ := hSw
                clear hHeld
                go_simp
              simp only [Act.put, List.setIfInBounds_toArray, List.set_cons_zero, List.set_cons_succ]
              refine wpAnyH_take (i := 4) (oi := { dst := some 38, op := Op.move (Operand.tmp 37), type := 4, pos := "l5_bounce.go:47", after := #[{ on := 3, ground := Ground.data }, { on := 2, ground := Ground.chain }], guard := none }) (v := .bool false) rfl (by kernel_rfl) (by kernel_rfl) (by kernel_rfl) (fun _ _ _ h => h) (Or.inl ⟨by rfl, fun wz hSw => ?_⟩) hHeld ?_
              · obtain ⟨e0, e1, e2, e3⟩ := hSw
                clear hHeld
                go_simp
              simp only [Act.put, List.setIfInBounds_toArray, List.set_cons_zero, List.set_cons_succ]
              refine wpAnyH_take (i := 5) (oi := { dst := some 39, op := Op.fieldAddr 31 (Operand.tmp 4) 1, type := 0, pos := "l5_bounce.go:47", after := #[{ on := 4, ground := Ground.guard }], guard := some (4, false) }) (v := .pointer (some ⟨wr.heap.size, 1, none⟩)) rfl (by kernel_rfl) (by kernel_rfl) (by kernel_rfl) (fun _ _ _ h => h) (Or.inl ⟨by rfl, fun wz hSw => ?_⟩) hHeld ?_
              · obtain ⟨e0, e1, e2, e3⟩ := hSw
                clear hHeld
                go_simp
              simp only [Act.put, List.setIfInBounds_toArray, List.set_cons_zero, List.set_cons_succ]
              refine wpAnyH_take (i := 6) (oi := { dst := some 40, op := Op.load 9 (Operand.tmp 39), type := 9, pos := "l5_bounce.go:47", after := #[{ on := 5, ground := Ground.data }, { on := 4, ground := Ground.guard }], guard := some (4, false) }) (v := .string st) rfl (by kernel_rfl) (by kernel_rfl) (by kernel_rfl) (fun _ _ _ h => h) (Or.inl ⟨by rfl, fun wz hSw => ?_⟩) hHeld ?_
              · obtain ⟨e0, e1, e2, e3⟩ := hSw
                clear hHeld
                go_simp
              simp only [Act.put, List.setIfInBounds_toArray, List.set_cons_zero, List.set_cons_succ]
              refine wpAnyH_ready (rs := [7]) (by kernel_rfl) (by simp) ?_
              refine AllReadyH.cons (o := { dst := some 41, op := Op.call { callee := Callee.value (Operand.func 44), args := #[Operand.tmp 40], argTypes := #[9] }, type := 4, pos := "l5_bounce.go:47", after := #[{ on := 6, ground := Ground.data }, { on := 4, ground := Ground.chain }, { on := 4, ground := Ground.guard }], guard := some (4, false) }) rfl (fun K hK => ?_) AllReadyH.nil
              go_simp
              go_at_call 44
              refine (C2.out _).mono ?_
              rintro e wB ⟨rfl, hb⟩
              have HBc : Hid (Below V.heap.size V wB) := HBc.out.trans (hb.mono HBc.out.size)
              refine hK.out _ _ ⟨(Blk.below HVB.out HBc.out).cell 0, (Blk.below HVB.out HBc.out).cell 1, (Blk.below HVB.out HBc.out).cell 2, (Blk.below HVB.out HBc.out).cell 3⟩ (fun hHeld => ?_)
              clear hK K hb
              try simp only [Act.put, List.setIfInBounds_toArray, List.set_cons_zero, List.set_cons_succ]
              refine wpAnyH_take (i := 8) (oi := { dst := some 42, op := Op.unOp UnOp.not 4 (Operand.tmp 41), type := 4, pos := "l5_bounce.go:47", after := #[{ on := 7, ground := Ground.data }, { on := 4, ground := Ground.guard }], guard := some (4, false) }) (v := .bool true) rfl (by kernel_rfl) (by kernel_rfl) (by kernel_rfl) (fun _ _ _ h => h) (Or.inl ⟨by rfl, fun wz hSw => ?_⟩) hHeld ?_
              · obtain ⟨e0, e1, e2, e3⟩ := hSw
                clear hHeld
                go_simp
              simp only [Act.put, List.setIfInBounds_toArray, List.set_cons_zero, List.set_cons_succ]
              refine wpAnyH_take (i := 9) (oi := { dst := some 43, op := Op.pick (Operand.tmp 38) (Operand.const (Value.bool true)) (Operand.tmp 42), type := 4, pos := "l5_bounce.go:47", after := #[{ on := 4, ground := Ground.data }, { on := 8, ground := Ground.data }], guard := none }) (v := .bool true) rfl (by kernel_rfl) (by kernel_rfl) (by kernel_rfl) (fun _ _ _ h => h) (Or.inl ⟨by rfl, fun wz hSw => ?_⟩) hHeld ?_
              · obtain ⟨e0, e1, e2, e3⟩ := hSw
                clear hHeld
                go_simp
              simp only [Act.put, List.setIfInBounds_toArray, List.set_cons_zero, List.set_cons_succ]
              refine wpAnyH_take (i := 10) (oi := { dst := some 44, op := Op.move (Operand.tmp 43), type := 4, pos := "l5_bounce.go:47", after := #[{ on := 9, ground := Ground.data }, { on := 7, ground := Ground.chain }], guard := none }) (v := .bool true) rfl (by kernel_rfl) (by kernel_rfl) (by kernel_rfl) (fun _ _ _ h => h) (Or.inl ⟨by rfl, fun wz hSw => ?_⟩) hHeld ?_
              · obtain ⟨e0, e1, e2, e3⟩ := hSw
                clear hHeld
                go_simp
              simp only [Act.put, List.setIfInBounds_toArray, List.set_cons_zero, List.set_cons_succ]
              refine wpAnyH_take (i := 11) (oi := { dst := some 45, op := Op.fieldAddr 31 (Operand.tmp 4) 2, type := 0, pos := "l5_bounce.go:47", after := #[{ on := 10, ground := Ground.guard }], guard := some (10, false) }) (v := undef) rfl (by kernel_rfl) (by kernel_rfl) (by kernel_rfl) (fun _ _ _ h => h) (Or.inr ⟨by rfl, rfl⟩) hHeld ?_
              simp only [Act.put, List.setIfInBounds_toArray, List.set_cons_zero, List.set_cons_succ]
              refine wpAnyH_take (i := 12) (oi := { dst := some 46, op := Op.load 3 (Operand.tmp 45), type := 3, pos := "l5_bounce.go:47", after := #[{ on := 11, ground := Ground.data }, { on := 10, ground := Ground.guard }], guard := some (10, false) }) (v := undef) rfl (by kernel_rfl) (by kernel_rfl) (by kernel_rfl) (fun _ _ _ h => h) (Or.inr ⟨by rfl, rfl⟩) hHeld ?_
              simp only [Act.put, List.setIfInBounds_toArray, List.set_cons_zero, List.set_cons_succ]
              refine wpAnyH_take (i := 13) (oi := { dst := some 47, op := Op.call { callee := Callee.value (Operand.func 45), args := #[Operand.tmp 46], argTypes := #[3] }, type := 4, pos := "l5_bounce.go:47", after := #[{ on := 12, ground := Ground.data }, { on := 10, ground := Ground.chain }, { on := 10, ground := Ground.guard }], guard := some (10, false) }) (v := undef) rfl (by kernel_rfl) (by kernel_rfl) (by kernel_rfl) (fun _ _ _ h => h) (Or.inr ⟨by rfl, rfl⟩) hHeld ?_
              simp only [Act.put, List.setIfInBounds_toArray, List.set_cons_zero, List.set_cons_succ]
              refine wpAnyH_take (i := 14) (oi := { dst := some 48, op := Op.unOp UnOp.not 4 (Operand.tmp 47), type := 4, pos := "l5_bounce.go:47", after := #[{ on := 13, ground := Ground.data }, { on := 10, ground := Ground.guard }], guard := some (10, false) }) (v := undef) rfl (by kernel_rfl) (by kernel_rfl) (by kernel_rfl) (fun _ _ _ h => h) (Or.inr ⟨by rfl, rfl⟩) hHeld ?_
              simp only [Act.put, List.setIfInBounds_toArray, List.set_cons_zero, List.set_cons_succ]
              refine wpAnyH_take (i := 15) (oi := { dst := some 49, op := Op.pick (Operand.tmp 44) (Operand.const (Value.bool true)) (Operand.tmp 48), type := 4, pos := "l5_bounce.go:47", after := #[{ on := 10, ground := Ground.data }, { on := 14, ground := Ground.data }], guard := none }) (v := .bool true) rfl (by kernel_rfl) (by kernel_rfl) (by kernel_rfl) (fun _ _ _ h => h) (Or.inl ⟨by rfl, fun wz hSw => ?_⟩) hHeld ?_
              · obtain ⟨e0, e1, e2, e3⟩ := hSw
                clear hHeld
                go_simp
              simp only [Act.put, List.setIfInBounds_toArray, List.set_cons_zero, List.set_cons_succ]
              refine wpAnyH_take (i := 16) (oi := { dst := some 50, op := Op.move (Operand.tmp 49), type := 4, pos := "l5_bounce.go:47", after := #[{ on := 15, ground := Ground.data }, { on := 13, ground := Ground.chain }], guard := none }) (v := .bool true) rfl (by kernel_rfl) (by kernel_rfl) (by kernel_rfl) (fun _ _ _ h => h) (Or.inl ⟨by rfl, fun wz hSw => ?_⟩) hHeld ?_
              · obtain ⟨e0, e1, e2, e3⟩ := hSw
                clear hHeld
                go_simp
              simp only [Act.put, List.setIfInBounds_toArray, List.set_cons_zero, List.set_cons_succ]
              refine wpAnyH_take (i := 17) (oi := { dst := some 51, op := Op.fieldAddr 31 (Operand.tmp 4) 3, type := 0, pos := "l5_bounce.go:47", after := #[{ on := 16, ground := Ground.guard }], guard := some (16, false) }) (v := undef) rfl (by kernel_rfl) (by kernel_rfl) (by kernel_rfl) (fun _ _ _ h => h) (Or.inr ⟨by rfl, rfl⟩) hHeld ?_
              simp only [Act.put, List.setIfInBounds_toArray, List.set_cons_zero, List.set_cons_succ]
              refine wpAnyH_take (i := 18) (oi := { dst := some 52, op := Op.load 9 (Operand.tmp 51), type := 9, pos := "l5_bounce.go:47", after := #[{ on := 17, ground := Ground.data }, { on := 16, ground := Ground.guard }], guard := some (16, false) }) (v := undef) rfl (by kernel_rfl) (by kernel_rfl) (by kernel_rfl) (fun _ _ _ h => h) (Or.inr ⟨by rfl, rfl⟩) hHeld ?_
              simp only [Act.put, List.setIfInBounds_toArray, List.set_cons_zero, List.set_cons_succ]
              refine wpAnyH_take (i := 19) (oi := { dst := some 53, op := Op.call { callee := Callee.value (Operand.func 28), args := #[Operand.tmp 52], argTypes := #[9] }, type := 9, pos := "l5_bounce.go:47", after := #[{ on := 18, ground := Ground.data }, { on := 16, ground := Ground.chain }, { on := 16, ground := Ground.guard }], guard := some (16, false) }) (v := undef) rfl (by kernel_rfl) (by kernel_rfl) (by kernel_rfl) (fun _ _ _ h => h) (Or.inr ⟨by rfl, rfl⟩) hHeld ?_
              simp only [Act.put, List.setIfInBounds_toArray, List.set_cons_zero, List.set_cons_succ]
              refine wpAnyH_take (i := 20) (oi := { dst := some 54, op := Op.fieldAddr 31 (Operand.tmp 4) 3, type := 0, pos := "l5_bounce.go:47", after := #[{ on := 16, ground := Ground.guard }], guard := some (16, false) }) (v := undef) rfl (by kernel_rfl) (by kernel_rfl) (by kernel_rfl) (fun _ _ _ h => h) (Or.inr ⟨by rfl, rfl⟩) hHeld ?_
              simp only [Act.put, List.setIfInBounds_toArray, List.set_cons_zero, List.set_cons_succ]
              refine wpAnyH_take (i := 21) (oi := { dst := some 55, op := Op.load 9 (Operand.tmp 54), type := 9, pos := "l5_bounce.go:47", after := #[{ on := 20, ground := Ground.data }, { on := 16, ground := Ground.guard }], guard := some (16, false) }) (v := undef) rfl (by kernel_rfl) (by kernel_rfl) (by kernel_rfl) (fun _ _ _ h => h) (Or.inr ⟨by rfl, rfl⟩) hHeld ?_
              simp only [Act.put, List.setIfInBounds_toArray, List.set_cons_zero, List.set_cons_succ]
              refine wpAnyH_take (i := 22) (oi := { dst := some 56, op := Op.binOp BinOp.neq 9 (Operand.tmp 53) (Operand.tmp 55) 9, type := 4, pos := "l5_bounce.go:47", after := #[{ on := 19, ground := Ground.data }, { on := 21, ground := Ground.data }, { on := 16, ground := Ground.guard }], guard := some (16, false) }) (v := undef) rfl (by kernel_rfl) (by kernel_rfl) (by kernel_rfl) (fun _ _ _ h => h) (Or.inr ⟨by rfl, rfl⟩) hHeld ?_
              simp only [Act.put, List.setIfInBounds_toArray, List.set_cons_zero, List.set_cons_succ]
              refine wpAnyH_take (i := 23) (oi := { dst := some 57, op := Op.pick (Operand.tmp 50) (Operand.const (Value.bool true)) (Operand.tmp 56), type := 4, pos := "l5_bounce.go:47", after := #[{ on := 16, ground := Ground.data }, { on := 22, ground := Ground.data }], guard := none }) (v := .bool true) rfl (by kernel_rfl) (by kernel_rfl) (by kernel_rfl) (fun _ _ _ h => h) (Or.inl ⟨by rfl, fun wz hSw => ?_⟩) hHeld ?_
              · obtain ⟨e0, e1, e2, e3⟩ := hSw
                clear hHeld
                go_simp
              simp only [Act.put, List.setIfInBounds_toArray, List.set_cons_zero, List.set_cons_succ]
              refine wpAnyH_done (by kernel_rfl) ?_ _
              have G2 : Hid (R = false) := HNO.out G.out
              go_simp
              go_wp2
              go_ret
              exact ⟨ret_bool G2.out.symm, HB0.out.trans ((HBV.out.trans (HBc.out.mono HBV.out.size)).mono HZ.out)⟩
            · cases h3 : codeOk cd
              · have C1 : Hid (∀ wx : World, Calls Tryz.prog 43 #[.string rc] wx fun e w' => e = .returned (.bool true) ∧ Below wx.heap.size wx w') := fun wx => by have := specAddress rc wx y1; rw [h1] at this; exact this
                have C2 : Hid (∀ wx : World, Calls Tryz.prog 44 #[.string st] wx fun e w' => e = .returned (.bool true) ∧ Below wx.heap.size wx w') := fun wx => by have := specStatus st wx y2; rw [h2] at this; exact this
                have C3 : Hid (∀ wx : World, Calls Tryz.prog 45 #[.int .i64 cd] wx fun e w' => e = .returned (.bool false) ∧ Below wx.heap.size wx w') := fun wx => by have := specCode cd wx; rw [h3] at this; exact this
                have G : Hid (F = false) := by show _ = _; rw [HF.out, h1, h2, h3]; rfl
                refine wp_region_held_drew (S := fun w' => w'.cell? ⟨wr.heap.size, 0, none⟩ = some (.string rc) ∧ w'.cell? ⟨wr.heap.size, 1, none⟩ = some (.string st) ∧ w'.cell? ⟨wr.heap.size, 2, none⟩ = some (.int .i64 cd) ∧ w'.cell? ⟨wr.heap.size, 3, none⟩ = some (.string tx)) (by kernel_rfl) ⟨by simpa using v0, by simpa using v1, by simpa using v2, by simpa using v3⟩ (fun hHeld => ?_)
                have HBc : Hid (Below V.heap.size V V.drew) := (Below.refl V.heap.size V).drew
                generalize V.drew = wd at hHeld HBc ⊢
                refine wpAnyH_take (i := 0) (oi := { dst := some 34, op := Op.fieldAddr 31 (Operand.tmp 4) 0, type := 0, pos := "l5_bounce.go:47", after := #[], guard := none }) (v := .pointer (some ⟨wr.heap.size, 0, none⟩)) rfl (by kernel_rfl) (by kernel_rfl) (by kernel_rfl) (fun _ _ _ h => h) (Or.inl ⟨by rfl, fun wz hSw => ?_⟩) hHeld ?_
                · obtain ⟨e0, e1, e2, e3⟩ := hSw
                  clear hHeld
                  go_simp
                simp only [Act.put, List.setIfInBounds_toArray, List.set_cons_zero, List.set_cons_succ]
                refine wpAnyH_take (i := 1) (oi := { dst := some 35, op := Op.load 9 (Operand.tmp 34), type := 9, pos := "l5_bounce.go:47", after := #[{ on := 0, ground := Ground.data }], guard := none }) (v := .string rc) rfl (by kernel_rfl) (by kernel_rfl) (by kernel_rfl) (fun _ _ _ h => h) (Or.inl ⟨by rfl, fun wz hSw => ?_⟩) hHeld ?_
                · obtain ⟨e0, e1, e2, e3⟩ := hSw
                  clear hHeld
                  go_simp
                simp only [Act.put, List.setIfInBounds_toArray, List.set_cons_zero, List.set_cons_succ]
                refine wpAnyH_ready (rs := [2]) (by kernel_rfl) (by simp) ?_
                refine AllReadyH.cons (o := { dst := some 36, op := Op.call { callee := Callee.value (Operand.func 43), args := #[Operand.tmp 35], argTypes := #[9] }, type := 4, pos := "l5_bounce.go:47", after := #[{ on := 1, ground := Ground.data }], guard := none }) rfl (fun K hK => ?_) AllReadyH.nil
                go_simp
                go_at_call 43
                refine (C1.out _).mono ?_
                rintro e wA ⟨rfl, hb⟩
                have HBc : Hid (Below V.heap.size V wA) := HBc.out.trans (hb.mono HBc.out.size)
                refine hK.out _ _ ⟨(Blk.below HVB.out HBc.out).cell 0, (Blk.below HVB.out HBc.out).cell 1, (Blk.below HVB.out HBc.out).cell 2, (Blk.below HVB.out HBc.out).cell 3⟩ (fun hHeld => ?_)
                clear hK K hb
                try simp only [Act.put, List.setIfInBounds_toArray, List.set_cons_zero, List.set_cons_succ]
                refine wpAnyH_take (i := 3) (oi := { dst := some 37, op := Op.unOp UnOp.not 4 (Operand.tmp 36), type := 4, pos := "l5_bounce.go:47", after := #[{ on := 2, ground := Ground.data }], guard := none }) (v := .bool false) rfl (by kernel_rfl) (by kernel_rfl) (by kernel_rfl) (fun _ _ _ h => h) (Or.inl ⟨by rfl, fun wz hSw => ?_⟩) hHeld ?_
                · obtain ⟨e0, e1, e2, e3⟩ := hSw
                  clear hHeld
                  go_simp
                simp only [Act.put, List.setIfInBounds_toArray, List.set_cons_zero, List.set_cons_succ]
                refine wpAnyH_take (i := 4) (oi := { dst := some 38, op := Op.move (Operand.tmp 37), type := 4, pos := "l5_bounce.go:47", after := #[{ on := 3, ground := Ground.data }, { on := 2, ground := Ground.chain }], guard := none }) (v := .bool false) rfl (by kernel_rfl) (by kernel_rfl) (by kernel_rfl) (fun _ _ _ h => h) (Or.inl ⟨by rfl, fun wz hSw => ?_⟩) hHeld ?_
                · obtain ⟨e0, e1, e2, e3⟩ := hSw
                  clear hHeld
                  go_simp
                simp only [Act.put, List.setIfInBounds_toArray, List.set_cons_zero, List.set_cons_succ]
                refine wpAnyH_take (i := 5) (oi := { dst := some 39, op := Op.fieldAddr 31 (Operand.tmp 4) 1, type := 0, pos := "l5_bounce.go:47", after := #[{ on := 4, ground := Ground.guard }], guard := some (4, false) }) (v := .pointer (some ⟨wr.heap.size, 1, none⟩)) rfl (by kernel_rfl) (by kernel_rfl) (by kernel_rfl) (fun _ _ _ h => h) (Or.inl ⟨by rfl, fun wz hSw => ?_⟩) hHeld ?_
                · obtain ⟨e0, e1, e2, e3⟩ := hSw
                  clear hHeld
                  go_simp
                simp only [Act.put, List.setIfInBounds_toArray, List.set_cons_zero, List.set_cons_succ]
                refine wpAnyH_take (i := 6) (oi := { dst := some 40, op := Op.load 9 (Operand.tmp 39), type := 9, pos := "l5_bounce.go:47", after := #[{ on := 5, ground := Ground.data }, { on := 4, ground := Ground.guard }], guard := some (4, false) }) (v := .string st) rfl (by kernel_rfl) (by kernel_rfl) (by kernel_rfl) (fun _ _ _ h => h) (Or.inl ⟨by rfl, fun wz hSw => ?_⟩) hHeld ?_
                · obtain ⟨e0, e1, e2, e3⟩ := hSw
                  clear hHeld
                  go_simp
                simp only [Act.put, List.setIfInBounds_toArray, List.set_cons_zero, List.set_cons_succ]
                refine wpAnyH_ready (rs := [7]) (by kernel_rfl) (by simp) ?_
                refine AllReadyH.cons (o := { dst := some 41, op := Op.call { callee := Callee.value (Operand.func 44), args := #[Operand.tmp 40], argTypes := #[9] }, type := 4, pos := "l5_bounce.go:47", after := #[{ on := 6, ground := Ground.data }, { on := 4, ground := Ground.chain }, { on := 4, ground := Ground.guard }], guard := some (4, false) }) rfl (fun K hK => ?_) AllReadyH.nil
                go_simp
                go_at_call 44
                refine (C2.out _).mono ?_
                rintro e wB ⟨rfl, hb⟩
                have HBc : Hid (Below V.heap.size V wB) := HBc.out.trans (hb.mono HBc.out.size)
                refine hK.out _ _ ⟨(Blk.below HVB.out HBc.out).cell 0, (Blk.below HVB.out HBc.out).cell 1, (Blk.below HVB.out HBc.out).cell 2, (Blk.below HVB.out HBc.out).cell 3⟩ (fun hHeld => ?_)
                clear hK K hb
                try simp only [Act.put, List.setIfInBounds_toArray, List.set_cons_zero, List.set_cons_succ]
                refine wpAnyH_take (i := 8) (oi := { dst := some 42, op := Op.unOp UnOp.not 4 (Operand.tmp 41), type := 4, pos := "l5_bounce.go:47", after := #[{ on := 7, ground := Ground.data }, { on := 4, ground := Ground.guard }], guard := some (4, false) }) (v := .bool false) rfl (by kernel_rfl) (by kernel_rfl) (by kernel_rfl) (fun _ _ _ h => h) (Or.inl ⟨by rfl, fun wz hSw => ?_⟩) hHeld ?_
                · obtain ⟨e0, e1, e2, e3⟩ := hSw
                  clear hHeld
                  go_simp
                simp only [Act.put, List.setIfInBounds_toArray, List.set_cons_zero, List.set_cons_succ]
                refine wpAnyH_take (i := 9) (oi := { dst := some 43, op := Op.pick (Operand.tmp 38) (Operand.const (Value.bool true)) (Operand.tmp 42), type := 4, pos := "l5_bounce.go:47", after := #[{ on := 4, ground := Ground.data }, { on := 8, ground := Ground.data }], guard := none }) (v := .bool false) rfl (by kernel_rfl) (by kernel_rfl) (by kernel_rfl) (fun _ _ _ h => h) (Or.inl ⟨by rfl, fun wz hSw => ?_⟩) hHeld ?_
                · obtain ⟨e0, e1, e2, e3⟩ := hSw
                  clear hHeld
                  go_simp
                simp only [Act.put, List.setIfInBounds_toArray, List.set_cons_zero, List.set_cons_succ]
                refine wpAnyH_take (i := 10) (oi := { dst := some 44, op := Op.move (Operand.tmp 43), type := 4, pos := "l5_bounce.go:47", after := #[{ on := 9, ground := Ground.data }, { on := 7, ground := Ground.chain }], guard := none }) (v := .bool false) rfl (by kernel_rfl) (by kernel_rfl) (by kernel_rfl) (fun _ _ _ h => h) (Or.inl ⟨by rfl, fun wz hSw => ?_⟩) hHeld ?_
                · obtain ⟨e0, e1, e2, e3⟩ := hSw
                  clear hHeld
                  go_simp
                simp only [Act.put, List.setIfInBounds_toArray, List.set_cons_zero, List.set_cons_succ]
                refine wpAnyH_take (i := 11) (oi := { dst := some 45, op := Op.fieldAddr 31 (Operand.tmp 4) 2, type := 0, pos := "l5_bounce.go:47", after := #[{ on := 10, ground := Ground.guard }], guard := some (10, false) }) (v := .pointer (some ⟨wr.heap.size, 2, none⟩)) rfl (by kernel_rfl) (by kernel_rfl) (by kernel_rfl) (fun _ _ _ h => h) (Or.inl ⟨by rfl, fun wz hSw => ?_⟩) hHeld ?_
                · obtain ⟨e0, e1, e2, e3⟩ := hSw
                  clear hHeld
                  go_simp
                simp only [Act.put, List.setIfInBounds_toArray, List.set_cons_zero, List.set_cons_succ]
                refine wpAnyH_take (i := 12) (oi := { dst := some 46, op := Op.load 3 (Operand.tmp 45), type := 3, pos := "l5_bounce.go:47", after := #[{ on := 11, ground := Ground.data }, { on := 10, ground := Ground.guard }], guard := some (10, false) }) (v := .int .i64 cd) rfl (by kernel_rfl) (by kernel_rfl) (by kernel_rfl) (fun _ _ _ h => h) (Or.inl ⟨by rfl, fun wz hSw => ?_⟩) hHeld ?_
                · obtain ⟨e0, e1, e2, e3⟩ := hSw
                  clear hHeld
                  go_simp
                simp only [Act.put, List.setIfInBounds_toArray, List.set_cons_zero, List.set_cons_succ]
                refine wpAnyH_ready (rs := [13]) (by kernel_rfl) (by simp) ?_
                refine AllReadyH.cons (o := { dst := some 47, op := Op.call { callee := Callee.value (Operand.func 45), args := #[Operand.tmp 46], argTypes := #[3] }, type := 4, pos := "l5_bounce.go:47", after := #[{ on := 12, ground := Ground.data }, { on := 10, ground := Ground.chain }, { on := 10, ground := Ground.guard }], guard := some (10, false) }) rfl (fun K hK => ?_) AllReadyH.nil
                go_simp
                go_at_call 45
                refine (C3.out _).mono ?_
                rintro e wC ⟨rfl, hb⟩
                have HBc : Hid (Below V.heap.size V wC) := HBc.out.trans (hb.mono HBc.out.size)
                refine hK.out _ _ ⟨(Blk.below HVB.out HBc.out).cell 0, (Blk.below HVB.out HBc.out).cell 1, (Blk.below HVB.out HBc.out).cell 2, (Blk.below HVB.out HBc.out).cell 3⟩ (fun hHeld => ?_)
                clear hK K hb
                try simp only [Act.put, List.setIfInBounds_toArray, List.set_cons_zero, List.set_cons_succ]
                refine wpAnyH_take (i := 14) (oi := { dst := some 48, op := Op.unOp UnOp.not 4 (Operand.tmp 47), type := 4, pos := "l5_bounce.go:47", after := #[{ on := 13, ground := Ground.data }, { on := 10, ground := Ground.guard }], guard := some (10, false) }) (v := .bool true) rfl (by kernel_rfl) (by kernel_rfl) (by kernel_rfl) (fun _ _ _ h => h) (Or.inl ⟨by rfl, fun wz hSw => ?_⟩) hHeld ?_
                · obtain ⟨e0, e1, e2, e3⟩ := hSw
                  clear hHeld
                  go_simp
                simp only [Act.put, List.setIfInBounds_toArray, List.set_cons_zero, List.set_cons_succ]
                refine wpAnyH_take (i := 15) (oi := { dst := some 49, op := Op.pick (Operand.tmp 44) (Operand.const (Value.bool true)) (Operand.tmp 48), type := 4, pos := "l5_bounce.go:47", after := #[{ on := 10, ground := Ground.data }, { on := 14, ground := Ground.data }], guard := none }) (v := .bool true) rfl (by kernel_rfl) (by kernel_rfl) (by kernel_rfl) (fun _ _ _ h => h) (Or.inl ⟨by rfl, fun wz hSw => ?_⟩) hHeld ?_
                · obtain ⟨e0, e1, e2, e3⟩ := hSw
                  clear hHeld
                  go_simp
                simp only [Act.put, List.setIfInBounds_toArray, List.set_cons_zero, List.set_cons_succ]
                refine wpAnyH_take (i := 16) (oi := { dst := some 50, op := Op.move (Operand.tmp 49), type := 4, pos := "l5_bounce.go:47", after := #[{ on := 15, ground := Ground.data }, { on := 13, ground := Ground.chain }], guard := none }) (v := .bool true) rfl (by kernel_rfl) (by kernel_rfl) (by kernel_rfl) (fun _ _ _ h => h) (Or.inl ⟨by rfl, fun wz hSw => ?_⟩) hHeld ?_
                · obtain ⟨e0, e1, e2, e3⟩ := hSw
                  clear hHeld
                  go_simp
                simp only [Act.put, List.setIfInBounds_toArray, List.set_cons_zero, List.set_cons_succ]
                refine wpAnyH_take (i := 17) (oi := { dst := some 51, op := Op.fieldAddr 31 (Operand.tmp 4) 3, type := 0, pos := "l5_bounce.go:47", after := #[{ on := 16, ground := Ground.guard }], guard := some (16, false) }) (v := undef) rfl (by kernel_rfl) (by kernel_rfl) (by kernel_rfl) (fun _ _ _ h => h) (Or.inr ⟨by rfl, rfl⟩) hHeld ?_
                simp only [Act.put, List.setIfInBounds_toArray, List.set_cons_zero, List.set_cons_succ]
                refine wpAnyH_take (i := 18) (oi := { dst := some 52, op := Op.load 9 (Operand.tmp 51), type := 9, pos := "l5_bounce.go:47", after := #[{ on := 17, ground := Ground.data }, { on := 16, ground := Ground.guard }], guard := some (16, false) }) (v := undef) rfl (by kernel_rfl) (by kernel_rfl) (by kernel_rfl) (fun _ _ _ h => h) (Or.inr ⟨by rfl, rfl⟩) hHeld ?_
                simp only [Act.put, List.setIfInBounds_toArray, List.set_cons_zero, List.set_cons_succ]
                refine wpAnyH_take (i := 19) (oi := { dst := some 53, op := Op.call { callee := Callee.value (Operand.func 28), args := #[Operand.tmp 52], argTypes := #[9] }, type := 9, pos := "l5_bounce.go:47", after := #[{ on := 18, ground := Ground.data }, { on := 16, ground := Ground.chain }, { on := 16, ground := Ground.guard }], guard := some (16, false) }) (v := undef) rfl (by kernel_rfl) (by kernel_rfl) (by kernel_rfl) (fun _ _ _ h => h) (Or.inr ⟨by rfl, rfl⟩) hHeld ?_
                simp only [Act.put, List.setIfInBounds_toArray, List.set_cons_zero, List.set_cons_succ]
                refine wpAnyH_take (i := 20) (oi := { dst := some 54, op := Op.fieldAddr 31 (Operand.tmp 4) 3, type := 0, pos := "l5_bounce.go:47", after := #[{ on := 16, ground := Ground.guard }], guard := some (16, false) }) (v := undef) rfl (by kernel_rfl) (by kernel_rfl) (by kernel_rfl) (fun _ _ _ h => h) (Or.inr ⟨by rfl, rfl⟩) hHeld ?_
                simp only [Act.put, List.setIfInBounds_toArray, List.set_cons_zero, List.set_cons_succ]
                refine wpAnyH_take (i := 21) (oi := { dst := some 55, op := Op.load 9 (Operand.tmp 54), type := 9, pos := "l5_bounce.go:47", after := #[{ on := 20, ground := Ground.data }, { on := 16, ground := Ground.guard }], guard := some (16, false) }) (v := undef) rfl (by kernel_rfl) (by kernel_rfl) (by kernel_rfl) (fun _ _ _ h => h) (Or.inr ⟨by rfl, rfl⟩) hHeld ?_
                simp only [Act.put, List.setIfInBounds_toArray, List.set_cons_zero, List.set_cons_succ]
                refine wpAnyH_take (i := 22) (oi := { dst := some 56, op := Op.binOp BinOp.neq 9 (Operand.tmp 53) (Operand.tmp 55) 9, type := 4, pos := "l5_bounce.go:47", after := #[{ on := 19, ground := Ground.data }, { on := 21, ground := Ground.data }, { on := 16, ground := Ground.guard }], guard := some (16, false) }) (v := undef) rfl (by kernel_rfl) (by kernel_rfl) (by kernel_rfl) (fun _ _ _ h => h) (Or.inr ⟨by rfl, rfl⟩) hHeld ?_
                simp only [Act.put, List.setIfInBounds_toArray, List.set_cons_zero, List.set_cons_succ]
                refine wpAnyH_take (i := 23) (oi := { dst := some 57, op := Op.pick (Operand.tmp 50) (Operand.const (Value.bool true)) (Operand.tmp 56), type := 4, pos := "l5_bounce.go:47", after := #[{ on := 16, ground := Ground.data }, { on := 22, ground := Ground.data }], guard := none }) (v := .bool true) rfl (by kernel_rfl) (by kernel_rfl) (by kernel_rfl) (fun _ _ _ h => h) (Or.inl ⟨by rfl, fun wz hSw => ?_⟩) hHeld ?_
                · obtain ⟨e0, e1, e2, e3⟩ := hSw
                  clear hHeld
                  go_simp
                simp only [Act.put, List.setIfInBounds_toArray, List.set_cons_zero, List.set_cons_succ]
                refine wpAnyH_done (by kernel_rfl) ?_ _
                have G2 : Hid (R = false) := HNO.out G.out
                go_simp
                go_wp2
                go_ret
                exact ⟨ret_bool G2.out.symm, HB0.out.trans ((HBV.out.trans (HBc.out.mono HBV.out.size)).mono HZ.out)⟩
              · by_cases h4 : ct2 = tx
                · have h4b : (ct2.toList == tx.toList) = true := by rw [h4]; simp
                  have C1 : Hid (∀ wx : World, Calls Tryz.prog 43 #[.string rc] wx fun e w' => e = .returned (.bool true) ∧ Below wx.heap.size wx w') := fun wx => by have := specAddress rc wx y1; rw [h1] at this; exact this
                  have C2 : Hid (∀ wx : World, Calls Tryz.prog 44 #[.string st] wx fun e w' => e = .returned (.bool true) ∧ Below wx.heap.size wx w') := fun wx => by have := specStatus st wx y2; rw [h2] at this; exact this
                  have C3 : Hid (∀ wx : World, Calls Tryz.prog 45 #[.int .i64 cd] wx fun e w' => e = .returned (.bool true) ∧ Below wx.heap.size wx w') := fun wx => by have := specCode cd wx; rw [h3] at this; exact this
                  have C4 : Hid (∀ wx : World, Calls Tryz.prog 28 #[.string tx] wx fun e w' => e = .returned (.string ct2) ∧ Below wx.heap.size wx w') := fun wx => by have := specClean tx wx y4; rw [HCS.out] at this; exact this
                  have G : Hid (F = true) := by show _ = _; rw [HF.out, h1, h2, h3, HCS.out, decide_eq_true h4]; rfl
                  refine wp_region_held_drew (S := fun w' => w'.cell? ⟨wr.heap.size, 0, none⟩ = some (.string rc) ∧ w'.cell? ⟨wr.heap.size, 1, none⟩ = some (.string st) ∧ w'.cell? ⟨wr.heap.size, 2, none⟩ = some (.int .i64 cd) ∧ w'.cell? ⟨wr.heap.size, 3, none⟩ = some (.string tx)) (by kernel_rfl) ⟨by simpa using v0, by simpa using v1, by simpa using v2, by simpa using v3⟩ (fun hHeld => ?_)
                  have HBc : Hid (Below V.heap.size V V.drew) := (Below.refl V.heap.size V).drew
                  generalize V.drew = wd at hHeld HBc ⊢
                  refine wpAnyH_take (i := 0) (oi := { dst := some 34, op := Op.fieldAddr 31 (Operand.tmp 4) 0, type := 0, pos := "l5_bounce.go:47", after := #[], guard := none }) (v := .pointer (some ⟨wr.heap.size, 0, none⟩)) rfl (by kernel_rfl) (by kernel_rfl) (by kernel_rfl) (fun _ _ _ h => h) (Or.inl ⟨by rfl, fun wz hSw => ?_⟩) hHeld ?_
                  · obtain ⟨e0, e1, e2, e3⟩ := hSw
                    clear hHeld
                    go_simp
                  simp only [Act.put, List.setIfInBounds_toArray, List.set_cons_zero, List.set_cons_succ]
                  refine wpAnyH_take (i := 1) (oi := { dst := some 35, op := Op.load 9 (Operand.tmp 34), type := 9, pos := "l5_bounce.go:47", after := #[{ on := 0, ground := Ground.data }], guard := none }) (v := .string rc) rfl (by kernel_rfl) (by kernel_rfl) (by kernel_rfl) (fun _ _ _ h => h) (Or.inl ⟨by rfl, fun wz hSw => ?_⟩) hHeld ?_
                  · obtain ⟨e0, e1, e2, e3⟩ := hSw
                    clear hHeld
                    go_simp
                  simp only [Act.put, List.setIfInBounds_toArray, List.set_cons_zero, List.set_cons_succ]
                  refine wpAnyH_ready (rs := [2]) (by kernel_rfl) (by simp) ?_
                  refine AllReadyH.cons (o := { dst := some 36, op := Op.call { callee := Callee.value (Operand.func 43), args := #[Operand.tmp 35], argTypes := #[9] }, type := 4, pos := "l5_bounce.go:47", after := #[{ on := 1, ground := Ground.data }], guard := none }) rfl (fun K hK => ?_) AllReadyH.nil
                  go_simp
                  go_at_call 43
                  refine (C1.out _).mono ?_
                  rintro e wA ⟨rfl, hb⟩
                  have HBc : Hid (Below V.heap.size V wA) := HBc.out.trans (hb.mono HBc.out.size)
                  refine hK.out _ _ ⟨(Blk.below HVB.out HBc.out).cell 0, (Blk.below HVB.out HBc.out).cell 1, (Blk.below HVB.out HBc.out).cell 2, (Blk.below HVB.out HBc.out).cell 3⟩ (fun hHeld => ?_)
                  clear hK K hb
                  try simp only [Act.put, List.setIfInBounds_toArray, List.set_cons_zero, List.set_cons_succ]
                  refine wpAnyH_take (i := 3) (oi := { dst := some 37, op := Op.unOp UnOp.not 4 (Operand.tmp 36), type := 4, pos := "l5_bounce.go:47", after := #[{ on := 2, ground := Ground.data }], guard := none }) (v := .bool false) rfl (by kernel_rfl) (by kernel_rfl) (by kernel_rfl) (fun _ _ _ h => h) (Or.inl ⟨by rfl, fun wz hSw => ?_⟩) hHeld ?_
                  · obtain ⟨e0, e1, e2, e3⟩ := hSw
                    clear hHeld
                    go_simp
                  simp only [Act.put, List.setIfInBounds_toArray, List.set_cons_zero, List.set_cons_succ]
                  refine wpAnyH_take (i := 4) (oi := { dst := some 38, op := Op.move (Operand.tmp 37), type := 4, pos := "l5_bounce.go:47", after := #[{ on := 3, ground := Ground.data }, { on := 2, ground := Ground.chain }], guard := none }) (v := .bool false) rfl (by kernel_rfl) (by kernel_rfl) (by kernel_rfl) (fun _ _ _ h => h) (Or.inl ⟨by rfl, fun wz hSw => ?_⟩) hHeld ?_
                  · obtain ⟨e0, e1, e2, e3⟩ := hSw
                    clear hHeld
                    go_simp
                  simp only [Act.put, List.setIfInBounds_toArray, List.set_cons_zero, List.set_cons_succ]
                  refine wpAnyH_take (i := 5) (oi := { dst := some 39, op := Op.fieldAddr 31 (Operand.tmp 4) 1, type := 0, pos := "l5_bounce.go:47", after := #[{ on := 4, ground := Ground.guard }], guard := some (4, false) }) (v := .pointer (some ⟨wr.heap.size, 1, none⟩)) rfl (by kernel_rfl) (by kernel_rfl) (by kernel_rfl) (fun _ _ _ h => h) (Or.inl ⟨by rfl, fun wz hSw => ?_⟩) hHeld ?_
                  · obtain ⟨e0, e1, e2, e3⟩ := hSw
                    clear hHeld
                    go_simp
                  simp only [Act.put, List.setIfInBounds_toArray, List.set_cons_zero, List.set_cons_succ]
                  refine wpAnyH_take (i := 6) (oi := { dst := some 40, op := Op.load 9 (Operand.tmp 39), type := 9, pos := "l5_bounce.go:47", after := #[{ on := 5, ground := Ground.data }, { on := 4, ground := Ground.guard }], guard := some (4, false) }) (v := .string st) rfl (by kernel_rfl) (by kernel_rfl) (by kernel_rfl) (fun _ _ _ h => h) (Or.inl ⟨by rfl, fun wz hSw => ?_⟩) hHeld ?_
                  · obtain ⟨e0, e1, e2, e3⟩ := hSw
                    clear hHeld
                    go_simp
                  simp only [Act.put, List.setIfInBounds_toArray, List.set_cons_zero, List.set_cons_succ]
                  refine wpAnyH_ready (rs := [7]) (by kernel_rfl) (by simp) ?_
                  refine AllReadyH.cons (o := { dst := some 41, op := Op.call { callee := Callee.value (Operand.func 44), args := #[Operand.tmp 40], argTypes := #[9] }, type := 4, pos := "l5_bounce.go:47", after := #[{ on := 6, ground := Ground.data }, { on := 4, ground := Ground.chain }, { on := 4, ground := Ground.guard }], guard := some (4, false) }) rfl (fun K hK => ?_) AllReadyH.nil
                  go_simp
                  go_at_call 44
                  refine (C2.out _).mono ?_
                  rintro e wB ⟨rfl, hb⟩
                  have HBc : Hid (Below V.heap.size V wB) := HBc.out.trans (hb.mono HBc.out.size)
                  refine hK.out _ _ ⟨(Blk.below HVB.out HBc.out).cell 0, (Blk.below HVB.out HBc.out).cell 1, (Blk.below HVB.out HBc.out).cell 2, (Blk.below HVB.out HBc.out).cell 3⟩ (fun hHeld => ?_)
                  clear hK K hb
                  try simp only [Act.put, List.setIfInBounds_toArray, List.set_cons_zero, List.set_cons_succ]
                  refine wpAnyH_take (i := 8) (oi := { dst := some 42, op := Op.unOp UnOp.not 4 (Operand.tmp 41), type := 4, pos := "l5_bounce.go:47", after := #[{ on := 7, ground := Ground.data }, { on := 4, ground := Ground.guard }], guard := some (4, false) }) (v := .bool false) rfl (by kernel_rfl) (by kernel_rfl) (by kernel_rfl) (fun _ _ _ h => h) (Or.inl ⟨by rfl, fun wz hSw => ?_⟩) hHeld ?_
                  · obtain ⟨e0, e1, e2, e3⟩ := hSw
                    clear hHeld
                    go_simp
                  simp only [Act.put, List.setIfInBounds_toArray, List.set_cons_zero, List.set_cons_succ]
                  refine wpAnyH_take (i := 9) (oi := { dst := some 43, op := Op.pick (Operand.tmp 38) (Operand.const (Value.bool true)) (Operand.tmp 42), type := 4, pos := "l5_bounce.go:47", after := #[{ on := 4, ground := Ground.data }, { on := 8, ground := Ground.data }], guard := none }) (v := .bool false) rfl (by kernel_rfl) (by kernel_rfl) (by kernel_rfl) (fun _ _ _ h => h) (Or.inl ⟨by rfl, fun wz hSw => ?_⟩) hHeld ?_
                  · obtain ⟨e0, e1, e2, e3⟩ := hSw
                    clear hHeld
                    go_simp
                  simp only [Act.put, List.setIfInBounds_toArray, List.set_cons_zero, List.set_cons_succ]
                  refine wpAnyH_take (i := 10) (oi := { dst := some 44, op := Op.move (Operand.tmp 43), type := 4, pos := "l5_bounce.go:47", after := #[{ on := 9, ground := Ground.data }, { on := 7, ground := Ground.chain }], guard := none }) (v := .bool false) rfl (by kernel_rfl) (by kernel_rfl) (by kernel_rfl) (fun _ _ _ h => h) (Or.inl ⟨by rfl, fun wz hSw => ?_⟩) hHeld ?_
                  · obtain ⟨e0, e1, e2, e3⟩ := hSw
                    clear hHeld
                    go_simp
                  simp only [Act.put, List.setIfInBounds_toArray, List.set_cons_zero, List.set_cons_succ]
                  refine wpAnyH_take (i := 11) (oi := { dst := some 45, op := Op.fieldAddr 31 (Operand.tmp 4) 2, type := 0, pos := "l5_bounce.go:47", after := #[{ on := 10, ground := Ground.guard }], guard := some (10, false) }) (v := .pointer (some ⟨wr.heap.size, 2, none⟩)) rfl (by kernel_rfl) (by kernel_rfl) (by kernel_rfl) (fun _ _ _ h => h) (Or.inl ⟨by rfl, fun wz hSw => ?_⟩) hHeld ?_
                  · obtain ⟨e0, e1, e2, e3⟩ := hSw
                    clear hHeld
                    go_simp
                  simp only [Act.put, List.setIfInBounds_toArray, List.set_cons_zero, List.set_cons_succ]
                  refine wpAnyH_take (i := 12) (oi := { dst := some 46, op := Op.load 3 (Operand.tmp 45), type := 3, pos := "l5_bounce.go:47", after := #[{ on := 11, ground := Ground.data }, { on := 10, ground := Ground.guard }], guard := some (10, false) }) (v := .int .i64 cd) rfl (by kernel_rfl) (by kernel_rfl) (by kernel_rfl) (fun _ _ _ h => h) (Or.inl ⟨by rfl, fun wz hSw => ?_⟩) hHeld ?_
                  · obtain ⟨e0, e1, e2, e3⟩ := hSw
                    clear hHeld
                    go_simp
                  simp only [Act.put, List.setIfInBounds_toArray, List.set_cons_zero, List.set_cons_succ]
                  refine wpAnyH_ready (rs := [13]) (by kernel_rfl) (by simp) ?_
                  refine AllReadyH.cons (o := { dst := some 47, op := Op.call { callee := Callee.value (Operand.func 45), args := #[Operand.tmp 46], argTypes := #[3] }, type := 4, pos := "l5_bounce.go:47", after := #[{ on := 12, ground := Ground.data }, { on := 10, ground := Ground.chain }, { on := 10, ground := Ground.guard }], guard := some (10, false) }) rfl (fun K hK => ?_) AllReadyH.nil
                  go_simp
                  go_at_call 45
                  refine (C3.out _).mono ?_
                  rintro e wC ⟨rfl, hb⟩
                  have HBc : Hid (Below V.heap.size V wC) := HBc.out.trans (hb.mono HBc.out.size)
                  refine hK.out _ _ ⟨(Blk.below HVB.out HBc.out).cell 0, (Blk.below HVB.out HBc.out).cell 1, (Blk.below HVB.out HBc.out).cell 2, (Blk.below HVB.out HBc.out).cell 3⟩ (fun hHeld => ?_)
                  clear hK K hb
                  try simp only [Act.put, List.setIfInBounds_toArray, List.set_cons_zero, List.set_cons_succ]
                  refine wpAnyH_take (i := 14) (oi := { dst := some 48, op := Op.unOp UnOp.not 4 (Operand.tmp 47), type := 4, pos := "l5_bounce.go:47", after := #[{ on := 13, ground := Ground.data }, { on := 10, ground := Ground.guard }], guard := some (10, false) }) (v := .bool false) rfl (by kernel_rfl) (by kernel_rfl) (by kernel_rfl) (fun _ _ _ h => h) (Or.inl ⟨by rfl, fun wz hSw => ?_⟩) hHeld ?_
                  · obtain ⟨e0, e1, e2, e3⟩ := hSw
                    clear hHeld
                    go_simp
                  simp only [Act.put, List.setIfInBounds_toArray, List.set_cons_zero, List.set_cons_succ]
                  refine wpAnyH_take (i := 15) (oi := { dst := some 49, op := Op.pick (Operand.tmp 44) (Operand.const (Value.bool true)) (Operand.tmp 48), type := 4, pos := "l5_bounce.go:47", after := #[{ on := 10, ground := Ground.data }, { on := 14, ground := Ground.data }], guard := none }) (v := .bool false) rfl (by kernel_rfl) (by kernel_rfl) (by kernel_rfl) (fun _ _ _ h => h) (Or.inl ⟨by rfl, fun wz hSw => ?_⟩) hHeld ?_
                  · obtain ⟨e0, e1, e2, e3⟩ := hSw
                    clear hHeld
                    go_simp
                  simp only [Act.put, List.setIfInBounds_toArray, List.set_cons_zero, List.set_cons_succ]
                  refine wpAnyH_take (i := 16) (oi := { dst := some 50, op := Op.move (Operand.tmp 49), type := 4, pos := "l5_bounce.go:47", after := #[{ on := 15, ground := Ground.data }, { on := 13, ground := Ground.chain }], guard := none }) (v := .bool false) rfl (by kernel_rfl) (by kernel_rfl) (by kernel_rfl) (fun _ _ _ h => h) (Or.inl ⟨by rfl, fun wz hSw => ?_⟩) hHeld ?_
                  · obtain ⟨e0, e1, e2, e3⟩ := hSw
                    clear hHeld
                    go_simp
                  simp only [Act.put, List.setIfInBounds_toArray, List.set_cons_zero, List.set_cons_succ]
                  refine wpAnyH_take (i := 17) (oi := { dst := some 51, op := Op.fieldAddr 31 (Operand.tmp 4) 3, type := 0, pos := "l5_bounce.go:47", after := #[{ on := 16, ground := Ground.guard }], guard := some (16, false) }) (v := .pointer (some ⟨wr.heap.size, 3, none⟩)) rfl (by kernel_rfl) (by kernel_rfl) (by kernel_rfl) (fun _ _ _ h => h) (Or.inl ⟨by rfl, fun wz hSw => ?_⟩) hHeld ?_
                  · obtain ⟨e0, e1, e2, e3⟩ := hSw
                    clear hHeld
                    go_simp
                  simp only [Act.put, List.setIfInBounds_toArray, List.set_cons_zero, List.set_cons_succ]
                  refine wpAnyH_take (i := 18) (oi := { dst := some 52, op := Op.load 9 (Operand.tmp 51), type := 9, pos := "l5_bounce.go:47", after := #[{ on := 17, ground := Ground.data }, { on := 16, ground := Ground.guard }], guard := some (16, false) }) (v := .string tx) rfl (by kernel_rfl) (by kernel_rfl) (by kernel_rfl) (fun _ _ _ h => h) (Or.inl ⟨by rfl, fun wz hSw => ?_⟩) hHeld ?_
                  · obtain ⟨e0, e1, e2, e3⟩ := hSw
                    clear hHeld
                    go_simp
                  simp only [Act.put, List.setIfInBounds_toArray, List.set_cons_zero, List.set_cons_succ]
                  refine wpAnyH_take (i := 20) (oi := { dst := some 54, op := Op.fieldAddr 31 (Operand.tmp 4) 3, type := 0, pos := "l5_bounce.go:47", after := #[{ on := 16, ground := Ground.guard }], guard := some (16, false) }) (v := .pointer (some ⟨wr.heap.size, 3, none⟩)) rfl (by kernel_rfl) (by kernel_rfl) (by kernel_rfl) (fun _ _ _ h => h) (Or.inl ⟨by rfl, fun wz hSw => ?_⟩) hHeld ?_
                  · obtain ⟨e0, e1, e2, e3⟩ := hSw
                    clear hHeld
                    go_simp
                  simp only [Act.put, List.setIfInBounds_toArray, List.set_cons_zero, List.set_cons_succ]
                  refine wpAnyH_take (i := 21) (oi := { dst := some 55, op := Op.load 9 (Operand.tmp 54), type := 9, pos := "l5_bounce.go:47", after := #[{ on := 20, ground := Ground.data }, { on := 16, ground := Ground.guard }], guard := some (16, false) }) (v := .string tx) rfl (by kernel_rfl) (by kernel_rfl) (by kernel_rfl) (fun _ _ _ h => h) (Or.inl ⟨by rfl, fun wz hSw => ?_⟩) hHeld ?_
                  · obtain ⟨e0, e1, e2, e3⟩ := hSw
                    clear hHeld
                    go_simp
                  simp only [Act.put, List.setIfInBounds_toArray, List.set_cons_zero, List.set_cons_succ]
                  refine wpAnyH_ready (rs := [19]) (by kernel_rfl) (by simp) ?_
                  refine AllReadyH.cons (o := { dst := some 53, op := Op.call { callee := Callee.value (Operand.func 28), args := #[Operand.tmp 52], argTypes := #[9] }, type := 9, pos := "l5_bounce.go:47", after := #[{ on := 18, ground := Ground.data }, { on := 16, ground := Ground.chain }, { on := 16, ground := Ground.guard }], guard := some (16, false) }) rfl (fun K hK => ?_) AllReadyH.nil
                  go_simp
                  go_at_call 28
                  refine (C4.out _).mono ?_
                  rintro e wD ⟨rfl, hb⟩
                  have HBc : Hid (Below V.heap.size V wD) := HBc.out.trans (hb.mono HBc.out.size)
                  refine hK.out _ _ ⟨(Blk.below HVB.out HBc.out).cell 0, (Blk.below HVB.out HBc.out).cell 1, (Blk.below HVB.out HBc.out).cell 2, (Blk.below HVB.out HBc.out).cell 3⟩ (fun hHeld => ?_)
                  clear hK K hb
                  try simp only [Act.put, List.setIfInBounds_toArray, List.set_cons_zero, List.set_cons_succ]
                  refine wpAnyH_take (i := 22) (oi := { dst := some 56, op := Op.binOp BinOp.neq 9 (Operand.tmp 53) (Operand.tmp 55) 9, type := 4, pos := "l5_bounce.go:47", after := #[{ on := 19, ground := Ground.data }, { on := 21, ground := Ground.data }, { on := 16, ground := Ground.guard }], guard := some (16, false) }) (v := .bool false) rfl (by kernel_rfl) (by kernel_rfl) (by kernel_rfl) (fun _ _ _ h => h) (Or.inl ⟨by rfl, fun wz hSw => ?_⟩) hHeld ?_
                  · obtain ⟨e0, e1, e2, e3⟩ := hSw
                    clear hHeld
                    go_simp
                  simp only [Act.put, List.setIfInBounds_toArray, List.set_cons_zero, List.set_cons_succ]
                  refine wpAnyH_take (i := 23) (oi := { dst := some 57, op := Op.pick (Operand.tmp 50) (Operand.const (Value.bool true)) (Operand.tmp 56), type := 4, pos := "l5_bounce.go:47", after := #[{ on := 16, ground := Ground.data }, { on := 22, ground := Ground.data }], guard := none }) (v := .bool false) rfl (by kernel_rfl) (by kernel_rfl) (by kernel_rfl) (fun _ _ _ h => h) (Or.inl ⟨by rfl, fun wz hSw => ?_⟩) hHeld ?_
                  · obtain ⟨e0, e1, e2, e3⟩ := hSw
                    clear hHeld
                    go_simp
                  simp only [Act.put, List.setIfInBounds_toArray, List.set_cons_zero, List.set_cons_succ]
                  refine wpAnyH_done (by kernel_rfl) ?_ _
                  have HA2 := HYE.out G.out
                  have HB2 : Hid (Below W.heap.size W wD) := HBV.out.trans (HBc.out.mono HBV.out.size)
                  go_simp
                  go_wp2
                  go_roundw
                  case rel => exact ⟨k + 1, by omega, by go_num, HB2, HA2⟩
                  case measure => simp [intOf]; omega
                · have h4b : (ct2.toList == tx.toList) = false := strNe h4
                  have C1 : Hid (∀ wx : World, Calls Tryz.prog 43 #[.string rc] wx fun e w' => e = .returned (.bool true) ∧ Below wx.heap.size wx w') := fun wx => by have := specAddress rc wx y1; rw [h1] at this; exact this
                  have C2 : Hid (∀ wx : World, Calls Tryz.prog 44 #[.string st] wx fun e w' => e = .returned (.bool true) ∧ Below wx.heap.size wx w') := fun wx => by have := specStatus st wx y2; rw [h2] at this; exact this
                  have C3 : Hid (∀ wx : World, Calls Tryz.prog 45 #[.int .i64 cd] wx fun e w' => e = .returned (.bool true) ∧ Below wx.heap.size wx w') := fun wx => by have := specCode cd wx; rw [h3] at this; exact this
                  have C4 : Hid (∀ wx : World, Calls Tryz.prog 28 #[.string tx] wx fun e w' => e = .returned (.string ct2) ∧ Below wx.heap.size wx w') := fun wx => by have := specClean tx wx y4; rw [HCS.out] at this; exact this
                  have G : Hid (F = false) := by show _ = _; rw [HF.out, h1, h2, h3, HCS.out, decide_eq_false h4]; rfl
                  refine wp_region_held_drew (S := fun w' => w'.cell? ⟨wr.heap.size, 0, none⟩ = some (.string rc) ∧ w'.cell? ⟨wr.heap.size, 1, none⟩ = some (.string st) ∧ w'.cell? ⟨wr.heap.size, 2, none⟩ = some (.int .i64 cd) ∧ w'.cell? ⟨wr.heap.size, 3, none⟩ = some (.string tx)) (by kernel_rfl) ⟨by simpa using v0, by simpa using v1, by simpa using v2, by simpa using v3⟩ (fun hHeld => ?_)
                  have HBc : Hid (Below V.heap.size V V.drew) := (Below.refl V.heap.size V).drew
                  generalize V.drew = wd at hHeld HBc ⊢
                  refine wpAnyH_take (i := 0) (oi := { dst := some 34, op := Op.fieldAddr 31 (Operand.tmp 4) 0, type := 0, pos := "l5_bounce.go:47", after := #[], guard := none }) (v := .pointer (some ⟨wr.heap.size, 0, none⟩)) rfl (by kernel_rfl) (by kernel_rfl) (by kernel_rfl) (fun _ _ _ h => h) (Or.inl ⟨by rfl, fun wz hSw => ?_⟩) hHeld ?_
                  · obtain ⟨e0, e1, e2, e3⟩ := hSw
                    clear hHeld
                    go_simp
                  simp only [Act.put, List.setIfInBounds_toArray, List.set_cons_zero, List.set_cons_succ]
                  refine wpAnyH_take (i := 1) (oi := { dst := some 35, op := Op.load 9 (Operand.tmp 34), type := 9, pos := "l5_bounce.go:47", after := #[{ on := 0, ground := Ground.data }], guard := none }) (v := .string rc) rfl (by kernel_rfl) (by kernel_rfl) (by kernel_rfl) (fun _ _ _ h => h) (Or.inl ⟨by rfl, fun wz hSw => ?_⟩) hHeld ?_
                  · obtain ⟨e0, e1, e2, e3⟩ := hSw
                    clear hHeld
                    go_simp
                  simp only [Act.put, List.setIfInBounds_toArray, List.set_cons_zero, List.set_cons_succ]
                  refine wpAnyH_ready (rs := [2]) (by kernel_rfl) (by simp) ?_
                  refine AllReadyH.cons (o := { dst := some 36, op := Op.call { callee := Callee.value (Operand.func 43), args := #[Operand.tmp 35], argTypes := #[9] }, type := 4, pos := "l5_bounce.go:47", after := #[{ on := 1, ground := Ground.data }], guard := none }) rfl (fun K hK => ?_) AllReadyH.nil
                  go_simp
                  go_at_call 43
                  refine (C1.out _).mono ?_
                  rintro e wA ⟨rfl, hb⟩
                  have HBc : Hid (Below V.heap.size V wA) := HBc.out.trans (hb.mono HBc.out.size)
                  refine hK.out _ _ ⟨(Blk.below HVB.out HBc.out).cell 0, (Blk.below HVB.out HBc.out).cell 1, (Blk.below HVB.out HBc.out).cell 2, (Blk.below HVB.out HBc.out).cell 3⟩ (fun hHeld => ?_)
                  clear hK K hb
                  try simp only [Act.put, List.setIfInBounds_toArray, List.set_cons_zero, List.set_cons_succ]
                  refine wpAnyH_take (i := 3) (oi := { dst := some 37, op := Op.unOp UnOp.not 4 (Operand.tmp 36), type := 4, pos := "l5_bounce.go:47", after := #[{ on := 2, ground := Ground.data }], guard := none }) (v := .bool false) rfl (by kernel_rfl) (by kernel_rfl) (by kernel_rfl) (fun _ _ _ h => h) (Or.inl ⟨by rfl, fun wz hSw => ?_⟩) hHeld ?_
                  · obtain ⟨e0, e1, e2, e3⟩ := hSw
                    clear hHeld
                    go_simp
                  simp only [Act.put, List.setIfInBounds_toArray, List.set_cons_zero, List.set_cons_succ]
                  refine wpAnyH_take (i := 4) (oi := { dst := some 38, op := Op.move (Operand.tmp 37), type := 4, pos := "l5_bounce.go:47", after := #[{ on := 3, ground := Ground.data }, { on := 2, ground := Ground.chain }], guard := none }) (v := .bool false) rfl (by kernel_rfl) (by kernel_rfl) (by kernel_rfl) (fun _ _ _ h => h) (Or.inl ⟨by rfl, fun wz hSw => ?_⟩) hHeld ?_
                  · obtain ⟨e0, e1, e2, e3⟩ := hSw
                    clear hHeld
                    go_simp
                  simp only [Act.put, List.setIfInBounds_toArray, List.set_cons_zero, List.set_cons_succ]
                  refine wpAnyH_take (i := 5) (oi := { dst := some 39, op := Op.fieldAddr 31 (Operand.tmp 4) 1, type := 0, pos := "l5_bounce.go:47", after := #[{ on := 4, ground := Ground.guard }], guard := some (4, false) }) (v := .pointer (some ⟨wr.heap.size, 1, none⟩)) rfl (by kernel_rfl) (by kernel_rfl) (by kernel_rfl) (fun _ _ _ h => h) (Or.inl ⟨by rfl, fun wz hSw => ?_⟩) hHeld ?_
                  · obtain ⟨e0, e1, e2, e3⟩ := hSw
                    clear hHeld
                    go_simp
                  simp only [Act.put, List.setIfInBounds_toArray, List.set_cons_zero, List.set_cons_succ]
                  refine wpAnyH_take (i := 6) (oi := { dst := some 40, op := Op.load 9 (Operand.tmp 39), type := 9, pos := "l5_bounce.go:47", after := #[{ on := 5, ground := Ground.data }, { on := 4, ground := Ground.guard }], guard := some (4, false) }) (v := .string st) rfl (by kernel_rfl) (by kernel_rfl) (by kernel_rfl) (fun _ _ _ h => h) (Or.inl ⟨by rfl, fun wz hSw => ?_⟩) hHeld ?_
                  · obtain ⟨e0, e1, e2, e3⟩ := hSw
                    clear hHeld
                    go_simp
                  simp only [Act.put, List.setIfInBounds_toArray, List.set_cons_zero, List.set_cons_succ]
                  refine wpAnyH_ready (rs := [7]) (by kernel_rfl) (by simp) ?_
                  refine AllReadyH.cons (o := { dst := some 41, op := Op.call { callee := Callee.value (Operand.func 44), args := #[Operand.tmp 40], argTypes := #[9] }, type := 4, pos := "l5_bounce.go:47", after := #[{ on := 6, ground := Ground.data }, { on := 4, ground := Ground.chain }, { on := 4, ground := Ground.guard }], guard := some (4, false) }) rfl (fun K hK => ?_) AllReadyH.nil
                  go_simp
                  go_at_call 44
                  refine (C2.out _).mono ?_
                  rintro e wB ⟨rfl, hb⟩
                  have HBc : Hid (Below V.heap.size V wB) := HBc.out.trans (hb.mono HBc.out.size)
                  refine hK.out _ _ ⟨(Blk.below HVB.out HBc.out).cell 0, (Blk.below HVB.out HBc.out).cell 1, (Blk.below HVB.out HBc.out).cell 2, (Blk.below HVB.out HBc.out).cell 3⟩ (fun hHeld => ?_)
                  clear hK K hb
                  try simp only [Act.put, List.setIfInBounds_toArray, List.set_cons_zero, List.set_cons_succ]
                  refine wpAnyH_take (i := 8) (oi := { dst := some 42, op := Op.unOp UnOp.not 4 (Operand.tmp 41), type := 4, pos := "l5_bounce.go:47", after := #[{ on := 7, ground := Ground.data }, { on := 4, ground := Ground.guard }], guard := some (4, false) }) (v := .bool false) rfl (by kernel_rfl) (by kernel_rfl) (by kernel_rfl) (fun _ _ _ h => h) (Or.inl ⟨by rfl, fun wz hSw => ?_⟩) hHeld ?_
                  · obtain ⟨e0, e1, e2, e3⟩ := hSw
                    clear hHeld
                    go_simp
                  simp only [Act.put, List.setIfInBounds_toArray, List.set_cons_zero, List.set_cons_succ]
                  refine wpAnyH_take (i := 9) (oi := { dst := some 43, op := Op.pick (Operand.tmp 38) (Operand.const (Value.bool true)) (Operand.tmp 42), type := 4, pos := "l5_bounce.go:47", after := #[{ on := 4, ground := Ground.data }, { on := 8, ground := Ground.data }], guard := none }) (v := .bool false) rfl (by kernel_rfl) (by kernel_rfl) (by kernel_rfl) (fun _ _ _ h => h) (Or.inl ⟨by rfl, fun wz hSw => ?_⟩) hHeld ?_
                  · obtain ⟨e0, e1, e2, e3⟩ := hSw
                    clear hHeld
                    go_simp
                  simp only [Act.put, List.setIfInBounds_toArray, List.set_cons_zero, List.set_cons_succ]
                  refine wpAnyH_take (i := 10) (oi := { dst := some 44, op := Op.move (Operand.tmp 43), type := 4, pos := "l5_bounce.go:47", after := #[{ on := 9, ground := Ground.data }, { on := 7, ground := Ground.chain }], guard := none }) (v := .bool false) rfl (by kernel_rfl) (by kernel_rfl) (by kernel_rfl) (fun _ _ _ h => h) (Or.inl ⟨by rfl, fun wz hSw => ?_⟩) hHeld ?_
                  · obtain ⟨e0, e1, e2, e3⟩ := hSw
                    clear hHeld
                    go_simp
                  simp only [Act.put, List.setIfInBounds_toArray, List.set_cons_zero, List.set_cons_succ]
                  refine wpAnyH_take (i := 11) (oi := { dst := some 45, op := Op.fieldAddr 31 (Operand.tmp 4) 2, type := 0, pos := "l5_bounce.go:47", after := #[{ on := 10, ground := Ground.guard }], guard := some (10, false) }) (v := .pointer (some ⟨wr.heap.size, 2, none⟩)) rfl (by kernel_rfl) (by kernel_rfl) (by kernel_rfl) (fun _ _ _ h => h) (Or.inl ⟨by rfl, fun wz hSw => ?_⟩) hHeld ?_
                  · obtain ⟨e0, e1, e2, e3⟩ := hSw
                    clear hHeld
                    go_simp
                  simp only [Act.put, List.setIfInBounds_toArray, List.set_cons_zero, List.set_cons_succ]
                  refine wpAnyH_take (i := 12) (oi := { dst := some 46, op := Op.load 3 (Operand.tmp 45), type := 3, pos := "l5_bounce.go:47", after := #[{ on := 11, ground := Ground.data }, { on := 10, ground := Ground.guard }], guard := some (10, false) }) (v := .int .i64 cd) rfl (by kernel_rfl) (by kernel_rfl) (by kernel_rfl) (fun _ _ _ h => h) (Or.inl ⟨by rfl, fun wz hSw => ?_⟩) hHeld ?_
                  · obtain ⟨e0, e1, e2, e3⟩ := hSw
                    clear hHeld
                    go_simp
                  simp only [Act.put, List.setIfInBounds_toArray, List.set_cons_zero, List.set_cons_succ]
                  refine wpAnyH_ready (rs := [13]) (by kernel_rfl) (by simp) ?_
                  refine AllReadyH.cons (o := { dst := some 47, op := Op.call { callee := Callee.value (Operand.func 45), args := #[Operand.tmp 46], argTypes := #[3] }, type := 4, pos := "l5_bounce.go:47", after := #[{ on := 12, ground := Ground.data }, { on := 10, ground := Ground.chain }, { on := 10, ground := Ground.guard }], guard := some (10, false) }) rfl (fun K hK => ?_) AllReadyH.nil
                  go_simp
                  go_at_call 45
                  refine (C3.out _).mono ?_
                  rintro e wC ⟨rfl, hb⟩
                  have HBc : Hid (Below V.heap.size V wC) := HBc.out.trans (hb.mono HBc.out.size)
                  refine hK.out _ _ ⟨(Blk.below HVB.out HBc.out).cell 0, (Blk.below HVB.out HBc.out).cell 1, (Blk.below HVB.out HBc.out).cell 2, (Blk.below HVB.out HBc.out).cell 3⟩ (fun hHeld => ?_)
                  clear hK K hb
                  try simp only [Act.put, List.setIfInBounds_toArray, List.set_cons_zero, List.set_cons_succ]
                  refine wpAnyH_take (i := 14) (oi := { dst := some 48, op := Op.unOp UnOp.not 4 (Operand.tmp 47), type := 4, pos := "l5_bounce.go:47", after := #[{ on := 13, ground := Ground.data }, { on := 10, ground := Ground.guard }], guard := some (10, false) }) (v := .bool false) rfl (by kernel_rfl) (by kernel_rfl) (by kernel_rfl) (fun _ _ _ h => h) (Or.inl ⟨by rfl, fun wz hSw => ?_⟩) hHeld ?_
                  · obtain ⟨e0, e1, e2, e3⟩ := hSw
                    clear hHeld
                    go_simp
                  simp only [Act.put, List.setIfInBounds_toArray, List.set_cons_zero, List.set_cons_succ]
                  refine wpAnyH_take (i := 15) (oi := { dst := some 49, op := Op.pick (Operand.tmp 44) (Operand.const (Value.bool true)) (Operand.tmp 48), type := 4, pos := "l5_bounce.go:47", after := #[{ on := 10, ground := Ground.data }, { on := 14, ground := Ground.data }], guard := none }) (v := .bool false) rfl (by kernel_rfl) (by kernel_rfl) (by kernel_rfl) (fun _ _ _ h => h) (Or.inl ⟨by rfl, fun wz hSw => ?_⟩) hHeld ?_
                  · obtain ⟨e0, e1, e2, e3⟩ := hSw
                    clear hHeld
                    go_simp
                  simp only [Act.put, List.setIfInBounds_toArray, List.set_cons_zero, List.set_cons_succ]
                  refine wpAnyH_take (i := 16) (oi := { dst := some 50, op := Op.move (Operand.tmp 49), type := 4, pos := "l5_bounce.go:47", after := #[{ on := 15, ground := Ground.data }, { on := 13, ground := Ground.chain }], guard := none }) (v := .bool false) rfl (by kernel_rfl) (by kernel_rfl) (by kernel_rfl) (fun _ _ _ h => h) (Or.inl ⟨by rfl, fun wz hSw => ?_⟩) hHeld ?_
                  · obtain ⟨e0, e1, e2, e3⟩ := hSw
                    clear hHeld
                    go_simp
                  simp only [Act.put, List.setIfInBounds_toArray, List.set_cons_zero, List.set_cons_succ]
                  refine wpAnyH_take (i := 17) (oi := { dst := some 51, op := Op.fieldAddr 31 (Operand.tmp 4) 3, type := 0, pos := "l5_bounce.go:47", after := #[{ on := 16, ground := Ground.guard }], guard := some (16, false) }) (v := .pointer (some ⟨wr.heap.size, 3, none⟩)) rfl (by kernel_rfl) (by kernel_rfl) (by kernel_rfl) (fun _ _ _ h => h) (Or.inl ⟨by rfl, fun wz hSw => ?_⟩) hHeld ?_
                  · obtain ⟨e0, e1, e2, e3⟩ := hSw
                    clear hHeld
                    go_simp
                  simp only [Act.put, List.setIfInBounds_toArray, List.set_cons_zero, List.set_cons_succ]
                  refine wpAnyH_take (i := 18) (oi := { dst := some 52, op := Op.load 9 (Operand.tmp 51), type := 9, pos := "l5_bounce.go:47", after := #[{ on := 17, ground := Ground.data }, { on := 16, ground := Ground.guard }], guard := some (16, false) }) (v := .string tx) rfl (by kernel_rfl) (by kernel_rfl) (by kernel_rfl) (fun _ _ _ h => h) (Or.inl ⟨by rfl, fun wz hSw => ?_⟩) hHeld ?_
                  · obtain ⟨e0, e1, e2, e3⟩ := hSw
                    clear hHeld
                    go_simp
                  simp only [Act.put, List.setIfInBounds_toArray, List.set_cons_zero, List.set_cons_succ]
                  refine wpAnyH_take (i := 20) (oi := { dst := some 54, op := Op.fieldAddr 31 (Operand.tmp 4) 3, type := 0, pos := "l5_bounce.go:47", after := #[{ on := 16, ground := Ground.guard }], guard := some (16, false) }) (v := .pointer (some ⟨wr.heap.size, 3, none⟩)) rfl (by kernel_rfl) (by kernel_rfl) (by kernel_rfl) (fun _ _ _ h => h) (Or.inl ⟨by rfl, fun wz hSw => ?_⟩) hHeld ?_
                  · obtain ⟨e0, e1, e2, e3⟩ := hSw
                    clear hHeld
                    go_simp
                  simp only [Act.put, List.setIfInBounds_toArray, List.set_cons_zero, List.set_cons_succ]
                  refine wpAnyH_take (i := 21) (oi := { dst := some 55, op := Op.load 9 (Operand.tmp 54), type := 9, pos := "l5_bounce.go:47", after := #[{ on := 20, ground := Ground.data }, { on := 16, ground := Ground.guard }], guard := some (16, false) }) (v := .string tx) rfl (by kernel_rfl) (by kernel_rfl) (by kernel_rfl) (fun _ _ _ h => h) (Or.inl ⟨by rfl, fun wz hSw => ?_⟩) hHeld ?_
                  · obtain ⟨e0, e1, e2, e3⟩ := hSw
                    clear hHeld
                    go_simp
                  simp only [Act.put, List.setIfInBounds_toArray, List.set_cons_zero, List.set_cons_succ]
                  refine wpAnyH_ready (rs := [19]) (by kernel_rfl) (by simp) ?_
                  refine AllReadyH.cons (o := { dst := some 53, op := Op.call { callee := Callee.value (Operand.func 28), args := #[Operand.tmp 52], argTypes := #[9] }, type := 9, pos := "l5_bounce.go:47", after := #[{ on := 18, ground := Ground.data }, { on := 16, ground := Ground.chain }, { on := 16, ground := Ground.guard }], guard := some (16, false) }) rfl (fun K hK => ?_) AllReadyH.nil
                  go_simp
                  go_at_call 28
                  refine (C4.out _).mono ?_
                  rintro e wD ⟨rfl, hb⟩
                  have HBc : Hid (Below V.heap.size V wD) := HBc.out.trans (hb.mono HBc.out.size)
                  refine hK.out _ _ ⟨(Blk.below HVB.out HBc.out).cell 0, (Blk.below HVB.out HBc.out).cell 1, (Blk.below HVB.out HBc.out).cell 2, (Blk.below HVB.out HBc.out).cell 3⟩ (fun hHeld => ?_)
                  clear hK K hb
                  try simp only [Act.put, List.setIfInBounds_toArray, List.set_cons_zero, List.set_cons_succ]
                  refine wpAnyH_take (i := 22) (oi := { dst := some 56, op := Op.binOp BinOp.neq 9 (Operand.tmp 53) (Operand.tmp 55) 9, type := 4, pos := "l5_bounce.go:47", after := #[{ on := 19, ground := Ground.data }, { on := 21, ground := Ground.data }, { on := 16, ground := Ground.guard }], guard := some (16, false) }) (v := .bool true) rfl (by kernel_rfl) (by kernel_rfl) (by kernel_rfl) (fun _ _ _ h => h) (Or.inl ⟨by rfl, fun wz hSw => ?_⟩) hHeld ?_
                  · obtain ⟨e0, e1, e2, e3⟩ := hSw
                    clear hHeld
                    go_simp
                  simp only [Act.put, List.setIfInBounds_toArray, List.set_cons_zero, List.set_cons_succ]
                  refine wpAnyH_take (i := 23) (oi := { dst := some 57, op := Op.pick (Operand.tmp 50) (Operand.const (Value.bool true)) (Operand.tmp 56), type := 4, pos := "l5_bounce.go:47", after := #[{ on := 16, ground := Ground.data }, { on := 22, ground := Ground.data }], guard := none }) (v := .bool true) rfl (by kernel_rfl) (by kernel_rfl) (by kernel_rfl) (fun _ _ _ h => h) (Or.inl ⟨by rfl, fun wz hSw => ?_⟩) hHeld ?_
                  · obtain ⟨e0, e1, e2, e3⟩ := hSw
                    clear hHeld
                    go_simp
                  simp only [Act.put, List.setIfInBounds_toArray, List.set_cons_zero, List.set_cons_succ]
                  refine wpAnyH_done (by kernel_rfl) ?_ _
                  have G2 : Hid (R = false) := HNO.out G.out
                  go_simp
                  go_wp2
                  go_ret
                  exact ⟨ret_bool G2.out.symm, HB0.out.trans ((HBV.out.trans (HBc.out.mono HBV.out.size)).mono HZ.out)⟩
        · obtain rfl : k = L.length := by omega
          have HR3 : Hid (R = decide (ct = hd)) := by
            show _ = _
            rw [HR2.out, List.all_eq_true.2 (fun x hx => by obtain ⟨j, hj, rfl⟩ := List.getElem_of_mem hx; exact HA.out j hj hj)]
            rfl
          clear HA HR2
          have HBk := HBc
          have HMk : Hid (Blk w.heap.size #[.string dm, .string tw, .slice a L.length c, .string hd] wr) := Blk.below HM.out HBc.out
          have k3 : wr.cell? ⟨w.heap.size, 3, none⟩ = some (.string hd) := HMk.out.cell 3
          have C9 : Hid (∀ wx : World, Calls Tryz.prog 30 #[.string hd] wx fun e w' => e = .returned (.string ct) ∧ Below wx.heap.size wx w') := fun wx => by have := specHeaders hd wx z3; rw [HCT.out] at this; exact this
          clear HBc
          go_upto_region 9 with fail
          by_cases h9 : ct = hd
          · have h9b : (ct.toList == hd.toList) = true := by rw [h9]; simp
            have G : Hid (R = true) := by show _ = _; rw [HR3.out, decide_eq_true h9]
            have C8 : Hid (∀ wx : World, Calls Tryz.prog 46 #[.string hd] wx fun e w' => e = .returned (.bool true) ∧ Below wx.heap.size wx w') := fun wx => by have := specBody hd wx z3; rw [HBO.out h9] at this; exact this
            refine wp_region_held_drew (S := fun w' => w'.cell? ⟨w.heap.size, 3, none⟩ = some (.string hd) ∧ True) (by kernel_rfl) ⟨by simpa using k3, trivial⟩ (fun hHeld => ?_)
            have HBc : Hid (Below wr.heap.size wr wr.drew) := (Below.refl wr.heap.size wr).drew
            generalize wr.drew = wd at hHeld HBc ⊢
            refine wpAnyH_take (i := 0) (oi := { dst := some 59, op := Op.fieldAddr 25 (Operand.tmp 1) 3, type := 0, pos := "l5_bounce.go:51", after := #[], guard := none }) (v := .pointer (some ⟨w.heap.size, 3, none⟩)) rfl (by kernel_rfl) (by kernel_rfl) (by kernel_rfl) (fun _ _ _ h => h) (Or.inl ⟨by rfl, fun wz hSw => ?_⟩) hHeld ?_
            · obtain ⟨e0, e1⟩ := hSw
              clear hHeld
              go_simp
            simp only [Act.put, List.setIfInBounds_toArray, List.set_cons_zero, List.set_cons_succ]
            refine wpAnyH_take (i := 1) (oi := { dst := some 60, op := Op.load 9 (Operand.tmp 59), type := 9, pos := "l5_bounce.go:51", after := #[{ on := 0, ground := Ground.data }], guard := none }) (v := .string hd) rfl (by kernel_rfl) (by kernel_rfl) (by kernel_rfl) (fun _ _ _ h => h) (Or.inl ⟨by rfl, fun wz hSw => ?_⟩) hHeld ?_
            · obtain ⟨e0, e1⟩ := hSw
              clear hHeld
              go_simp
            simp only [Act.put, List.setIfInBounds_toArray, List.set_cons_zero, List.set_cons_succ]
            refine wpAnyH_ready (rs := [2]) (by kernel_rfl) (by simp) ?_
            refine AllReadyH.cons (o := { dst := some 61, op := Op.call { callee := Callee.value (Operand.func 46), args := #[Operand.tmp 60], argTypes := #[9] }, type := 4, pos := "l5_bounce.go:51", after := #[{ on := 1, ground := Ground.data }], guard := none }) rfl (fun K hK => ?_) AllReadyH.nil
            go_simp
            go_at_call 46
            refine (C8.out _).mono ?_
            rintro e wG ⟨rfl, hb⟩
            have HBc : Hid (Below wr.heap.size wr wG) := HBc.out.trans (hb.mono HBc.out.size)
            refine hK.out _ _ ⟨(Blk.below HMk.out HBc.out).cell 3, trivial⟩ (fun hHeld => ?_)
            clear hK K hb
            try simp only [Act.put, List.setIfInBounds_toArray, List.set_cons_zero, List.set_cons_succ]
            refine wpAnyH_take (i := 3) (oi := { dst := some 62, op := Op.move (Operand.tmp 61), type := 4, pos := "l5_bounce.go:51", after := #[{ on := 2, ground := Ground.data }, { on := 2, ground := Ground.chain }], guard := none }) (v := .bool true) rfl (by kernel_rfl) (by kernel_rfl) (by kernel_rfl) (fun _ _ _ h => h) (Or.inl ⟨by rfl, fun wz hSw => ?_⟩) hHeld ?_
            · obtain ⟨e0, e1⟩ := hSw
              clear hHeld
              go_simp
            simp only [Act.put, List.setIfInBounds_toArray, List.set_cons_zero, List.set_cons_succ]
            refine wpAnyH_take (i := 4) (oi := { dst := some 63, op := Op.fieldAddr 25 (Operand.tmp 1) 3, type := 0, pos := "l5_bounce.go:51", after := #[{ on := 3, ground := Ground.guard }], guard := some (3, true) }) (v := .pointer (some ⟨w.heap.size, 3, none⟩)) rfl (by kernel_rfl) (by kernel_rfl) (by kernel_rfl) (fun _ _ _ h => h) (Or.inl ⟨by rfl, fun wz hSw => ?_⟩) hHeld ?_
            · obtain ⟨e0, e1⟩ := hSw
              clear hHeld
              go_simp
            simp only [Act.put, List.setIfInBounds_toArray, List.set_cons_zero, List.set_cons_succ]
            refine wpAnyH_take (i := 5) (oi := { dst := some 64, op := Op.load 9 (Operand.tmp 63), type := 9, pos := "l5_bounce.go:51", after := #[{ on := 4, ground := Ground.data }, { on := 3, ground := Ground.guard }], guard := some (3, true) }) (v := .string hd) rfl (by kernel_rfl) (by kernel_rfl) (by kernel_rfl) (fun _ _ _ h => h) (Or.inl ⟨by rfl, fun wz hSw => ?_⟩) hHeld ?_
            · obtain ⟨e0, e1⟩ := hSw
              clear hHeld
              go_simp
            simp only [Act.put, List.setIfInBounds_toArray, List.set_cons_zero, List.set_cons_succ]
            refine wpAnyH_take (i := 7) (oi := { dst := some 66, op := Op.fieldAddr 25 (Operand.tmp 1) 3, type := 0, pos := "l5_bounce.go:51", after := #[{ on := 3, ground := Ground.guard }], guard := some (3, true) }) (v := .pointer (some ⟨w.heap.size, 3, none⟩)) rfl (by kernel_rfl) (by kernel_rfl) (by kernel_rfl) (fun _ _ _ h => h) (Or.inl ⟨by rfl, fun wz hSw => ?_⟩) hHeld ?_
            · obtain ⟨e0, e1⟩ := hSw
              clear hHeld
              go_simp
            simp only [Act.put, List.setIfInBounds_toArray, List.set_cons_zero, List.set_cons_succ]
            refine wpAnyH_take (i := 8) (oi := { dst := some 67, op := Op.load 9 (Operand.tmp 66), type := 9, pos := "l5_bounce.go:51", after := #[{ on := 7, ground := Ground.data }, { on := 3, ground := Ground.guard }], guard := some (3, true) }) (v := .string hd) rfl (by kernel_rfl) (by kernel_rfl) (by kernel_rfl) (fun _ _ _ h => h) (Or.inl ⟨by rfl, fun wz hSw => ?_⟩) hHeld ?_
            · obtain ⟨e0, e1⟩ := hSw
              clear hHeld
              go_simp
            simp only [Act.put, List.setIfInBounds_toArray, List.set_cons_zero, List.set_cons_succ]
            refine wpAnyH_ready (rs := [6]) (by kernel_rfl) (by simp) ?_
            refine AllReadyH.cons (o := { dst := some 65, op := Op.call { callee := Callee.value (Operand.func 30), args := #[Operand.tmp 64], argTypes := #[9] }, type := 9, pos := "l5_bounce.go:51", after := #[{ on := 5, ground := Ground.data }, { on := 3, ground := Ground.chain }, { on := 3, ground := Ground.guard }], guard := some (3, true) }) rfl (fun K hK => ?_) AllReadyH.nil
            go_simp
            go_at_call 30
            refine (C9.out _).mono ?_
            rintro e wH ⟨rfl, hb⟩
            have HBc : Hid (Below wr.heap.size wr wH) := HBc.out.trans (hb.mono HBc.out.size)
            refine hK.out _ _ ⟨(Blk.below HMk.out HBc.out).cell 3, trivial⟩ (fun hHeld => ?_)
            clear hK K hb
            try simp only [Act.put, List.setIfInBounds_toArray, List.set_cons_zero, List.set_cons_succ]
            refine wpAnyH_take (i := 9) (oi := { dst := some 68, op := Op.binOp BinOp.eql 9 (Operand.tmp 65) (Operand.tmp 67) 9, type := 4, pos := "l5_bounce.go:51", after := #[{ on := 6, ground := Ground.data }, { on := 8, ground := Ground.data }, { on := 3, ground := Ground.guard }], guard := some (3, true) }) (v := .bool true) rfl (by kernel_rfl) (by kernel_rfl) (by kernel_rfl) (fun _ _ _ h => h) (Or.inl ⟨by rfl, fun wz hSw => ?_⟩) hHeld ?_
            · obtain ⟨e0, e1⟩ := hSw
              clear hHeld
              go_simp
            simp only [Act.put, List.setIfInBounds_toArray, List.set_cons_zero, List.set_cons_succ]
            refine wpAnyH_take (i := 10) (oi := { dst := some 69, op := Op.pick (Operand.tmp 62) (Operand.tmp 68) (Operand.const (Value.bool false)), type := 4, pos := "l5_bounce.go:51", after := #[{ on := 3, ground := Ground.data }, { on := 9, ground := Ground.data }], guard := none }) (v := .bool true) rfl (by kernel_rfl) (by kernel_rfl) (by kernel_rfl) (fun _ _ _ h => h) (Or.inl ⟨by rfl, fun wz hSw => ?_⟩) hHeld ?_
            · obtain ⟨e0, e1⟩ := hSw
              clear hHeld
              go_simp
            simp only [Act.put, List.setIfInBounds_toArray, List.set_cons_zero, List.set_cons_succ]
            refine wpAnyH_take (i := 11) (oi := { dst := some 2, op := Op.assign (Operand.tmp 69), type := 4, pos := "l5_bounce.go:51", after := #[{ on := 10, ground := Ground.data }, { on := 6, ground := Ground.chain }, { on := 0, ground := Ground.phase }, { on := 1, ground := Ground.phase }, { on := 2, ground := Ground.phase }, { on := 3, ground := Ground.phase }, { on := 4, ground := Ground.phase }, { on := 5, ground := Ground.phase }, { on := 6, ground := Ground.phase }, { on := 7, ground := Ground.phase }, { on := 8, ground := Ground.phase }, { on := 9, ground := Ground.phase }, { on := 10, ground := Ground.phase }], guard := none }) (v := .bool true) rfl (by kernel_rfl) (by kernel_rfl) (by kernel_rfl) (fun _ _ _ h => h) (Or.inl ⟨by rfl, fun wz hSw => ?_⟩) hHeld ?_
            · obtain ⟨e0, e1⟩ := hSw
              clear hHeld
              go_simp
            simp only [Act.put, List.setIfInBounds_toArray, List.set_cons_zero, List.set_cons_succ]
            refine wpAnyH_done (by kernel_rfl) ?_ _
            go_simp
            go_wp2
            go_ret
            exact ⟨ret_bool G.out.symm, HB0.out.trans ((HBk.out.trans (HBc.out.mono HBk.out.size)).mono HZ.out)⟩
          · have h9b : (ct.toList == hd.toList) = false := strNe h9
            have G : Hid (R = false) := by show _ = _; rw [HR3.out, decide_eq_false h9]
            cases hbo : bodyOk hd
            · have C8 : Hid (∀ wx : World, Calls Tryz.prog 46 #[.string hd] wx fun e w' => e = .returned (.bool false) ∧ Below wx.heap.size wx w') := fun wx => by have := specBody hd wx z3; rw [hbo] at this; exact this
              refine wp_region_held_drew (S := fun w' => w'.cell? ⟨w.heap.size, 3, none⟩ = some (.string hd) ∧ True) (by kernel_rfl) ⟨by simpa using k3, trivial⟩ (fun hHeld => ?_)
              have HBc : Hid (Below wr.heap.size wr wr.drew) := (Below.refl wr.heap.size wr).drew
              generalize wr.drew = wd at hHeld HBc ⊢
              refine wpAnyH_take (i := 0) (oi := { dst := some 59, op := Op.fieldAddr 25 (Operand.tmp 1) 3, type := 0, pos := "l5_bounce.go:51", after := #[], guard := none }) (v := .pointer (some ⟨w.heap.size, 3, none⟩)) rfl (by kernel_rfl) (by kernel_rfl) (by kernel_rfl) (fun _ _ _ h => h) (Or.inl ⟨by rfl, fun wz hSw => ?_⟩) hHeld ?_
              · obtain ⟨e0, e1⟩ := hSw
                clear hHeld
                go_simp
              simp only [Act.put, List.setIfInBounds_toArray, List.set_cons_zero, List.set_cons_succ]
              refine wpAnyH_take (i := 1) (oi := { dst := some 60, op := Op.load 9 (Operand.tmp 59), type := 9, pos := "l5_bounce.go:51", after := #[{ on := 0, ground := Ground.data }], guard := none }) (v := .string hd) rfl (by kernel_rfl) (by kernel_rfl) (by kernel_rfl) (fun _ _ _ h => h) (Or.inl ⟨by rfl, fun wz hSw => ?_⟩) hHeld ?_
              · obtain ⟨e0, e1⟩ := hSw
                clear hHeld
                go_simp
              simp only [Act.put, List.setIfInBounds_toArray, List.set_cons_zero, List.set_cons_succ]
              refine wpAnyH_ready (rs := [2]) (by kernel_rfl) (by simp) ?_
              refine AllReadyH.cons (o := { dst := some 61, op := Op.call { callee := Callee.value (Operand.func 46), args := #[Operand.tmp 60], argTypes := #[9] }, type := 4, pos := "l5_bounce.go:51", after := #[{ on := 1, ground := Ground.data }], guard := none }) rfl (fun K hK => ?_) AllReadyH.nil
              go_simp
              go_at_call 46
              refine (C8.out _).mono ?_
              rintro e wG ⟨rfl, hb⟩
              have HBc : Hid (Below wr.heap.size wr wG) := HBc.out.trans (hb.mono HBc.out.size)
              refine hK.out _ _ ⟨(Blk.below HMk.out HBc.out).cell 3, trivial⟩ (fun hHeld => ?_)
              clear hK K hb
              try simp only [Act.put, List.setIfInBounds_toArray, List.set_cons_zero, List.set_cons_succ]
              refine wpAnyH_take (i := 3) (oi := { dst := some 62, op := Op.move (Operand.tmp 61), type := 4, pos := "l5_bounce.go:51", after := #[{ on := 2, ground := Ground.data }, { on := 2, ground := Ground.chain }], guard := none }) (v := .bool false) rfl (by kernel_rfl) (by kernel_rfl) (by kernel_rfl) (fun _ _ _ h => h) (Or.inl ⟨by rfl, fun wz hSw => ?_⟩) hHeld ?_
              · obtain ⟨e0, e1⟩ := hSw
                clear hHeld
                go_simp
              simp only [Act.put, List.setIfInBounds_toArray, List.set_cons_zero, List.set_cons_succ]
              refine wpAnyH_take (i := 4) (oi := { dst := some 63, op := Op.fieldAddr 25 (Operand.tmp 1) 3, type := 0, pos := "l5_bounce.go:51", after := #[{ on := 3, ground := Ground.guard }], guard := some (3, true) }) (v := undef) rfl (by kernel_rfl) (by kernel_rfl) (by kernel_rfl) (fun _ _ _ h => h) (Or.inr ⟨by rfl, rfl⟩) hHeld ?_
              simp only [Act.put, List.setIfInBounds_toArray, List.set_cons_zero, List.set_cons_succ]
              refine wpAnyH_take (i := 5) (oi := { dst := some 64, op := Op.load 9 (Operand.tmp 63), type := 9, pos := "l5_bounce.go:51", after := #[{ on := 4, ground := Ground.data }, { on := 3, ground := Ground.guard }], guard := some (3, true) }) (v := undef) rfl (by kernel_rfl) (by kernel_rfl) (by kernel_rfl) (fun _ _ _ h => h) (Or.inr ⟨by rfl, rfl⟩) hHeld ?_
              simp only [Act.put, List.setIfInBounds_toArray, List.set_cons_zero, List.set_cons_succ]
              refine wpAnyH_take (i := 6) (oi := { dst := some 65, op := Op.call { callee := Callee.value (Operand.func 30), args := #[Operand.tmp 64], argTypes := #[9] }, type := 9, pos := "l5_bounce.go:51", after := #[{ on := 5, ground := Ground.data }, { on := 3, ground := Ground.chain }, { on := 3, ground := Ground.guard }], guard := some (3, true) }) (v := undef) rfl (by kernel_rfl) (by kernel_rfl) (by kernel_rfl) (fun _ _ _ h => h) (Or.inr ⟨by rfl, rfl⟩) hHeld ?_
              simp only [Act.put, List.setIfInBounds_toArray, List.set_cons_zero, List.set_cons_succ]
              refine wpAnyH_take (i := 7) (oi := { dst := some 66, op := Op.fieldAddr 25 (Operand.tmp 1) 3, type := 0, pos := "l5_bounce.go:51", after := #[{ on := 3, ground := Ground.guard }], guard := some (3, true) }) (v := undef) rfl (by kernel_rfl) (by kernel_rfl) (by kernel_rfl) (fun _ _ _ h => h) (Or.inr ⟨by rfl, rfl⟩) hHeld ?_
              simp only [Act.put, List.setIfInBounds_toArray, List.set_cons_zero, List.set_cons_succ]
              refine wpAnyH_take (i := 8) (oi := { dst := some 67, op := Op.load 9 (Operand.tmp 66), type := 9, pos := "l5_bounce.go:51", after := #[{ on := 7, ground := Ground.data }, { on := 3, ground := Ground.guard }], guard := some (3, true) }) (v := undef) rfl (by kernel_rfl) (by kernel_rfl) (by kernel_rfl) (fun _ _ _ h => h) (Or.inr ⟨by rfl, rfl⟩) hHeld ?_
              simp only [Act.put, List.setIfInBounds_toArray, List.set_cons_zero, List.set_cons_succ]
              refine wpAnyH_take (i := 9) (oi := { dst := some 68, op := Op.binOp BinOp.eql 9 (Operand.tmp 65) (Operand.tmp 67) 9, type := 4, pos := "l5_bounce.go:51", after := #[{ on := 6, ground := Ground.data }, { on := 8, ground := Ground.data }, { on := 3, ground := Ground.guard }], guard := some (3, true) }) (v := undef) rfl (by kernel_rfl) (by kernel_rfl) (by kernel_rfl) (fun _ _ _ h => h) (Or.inr ⟨by rfl, rfl⟩) hHeld ?_
              simp only [Act.put, List.setIfInBounds_toArray, List.set_cons_zero, List.set_cons_succ]
              refine wpAnyH_take (i := 10) (oi := { dst := some 69, op := Op.pick (Operand.tmp 62) (Operand.tmp 68) (Operand.const (Value.bool false)), type := 4, pos := "l5_bounce.go:51", after := #[{ on := 3, ground := Ground.data }, { on := 9, ground := Ground.data }], guard := none }) (v := .bool false) rfl (by kernel_rfl) (by kernel_rfl) (by kernel_rfl) (fun _ _ _ h => h) (Or.inl ⟨by rfl, fun wz hSw => ?_⟩) hHeld ?_
              · obtain ⟨e0, e1⟩ := hSw
                clear hHeld
                go_simp
              simp only [Act.put, List.setIfInBounds_toArray, List.set_cons_zero, List.set_cons_succ]
              refine wpAnyH_take (i := 11) (oi := { dst := some 2, op := Op.assign (Operand.tmp 69), type := 4, pos := "l5_bounce.go:51", after := #[{ on := 10, ground := Ground.data }, { on := 6, ground := Ground.chain }, { on := 0, ground := Ground.phase }, { on := 1, ground := Ground.phase }, { on := 2, ground := Ground.phase }, { on := 3, ground := Ground.phase }, { on := 4, ground := Ground.phase }, { on := 5, ground := Ground.phase }, { on := 6, ground := Ground.phase }, { on := 7, ground := Ground.phase }, { on := 8, ground := Ground.phase }, { on := 9, ground := Ground.phase }, { on := 10, ground := Ground.phase }], guard := none }) (v := .bool false) rfl (by kernel_rfl) (by kernel_rfl) (by kernel_rfl) (fun _ _ _ h => h) (Or.inl ⟨by rfl, fun wz hSw => ?_⟩) hHeld ?_
              · obtain ⟨e0, e1⟩ := hSw
                clear hHeld
                go_simp
              simp only [Act.put, List.setIfInBounds_toArray, List.set_cons_zero, List.set_cons_succ]
              refine wpAnyH_done (by kernel_rfl) ?_ _
              go_simp
              go_wp2
              go_ret
              exact ⟨ret_bool G.out.symm, HB0.out.trans ((HBk.out.trans (HBc.out.mono HBk.out.size)).mono HZ.out)⟩
            · have C8 : Hid (∀ wx : World, Calls Tryz.prog 46 #[.string hd] wx fun e w' => e = .returned (.bool true) ∧ Below wx.heap.size wx w') := fun wx => by have := specBody hd wx z3; rw [hbo] at this; exact this
              refine wp_region_held_drew (S := fun w' => w'.cell? ⟨w.heap.size, 3, none⟩ = some (.string hd) ∧ True) (by kernel_rfl) ⟨by simpa using k3, trivial⟩ (fun hHeld => ?_)
              have HBc : Hid (Below wr.heap.size wr wr.drew) := (Below.refl wr.heap.size wr).drew
              generalize wr.drew = wd at hHeld HBc ⊢
              refine wpAnyH_take (i := 0) (oi := { dst := some 59, op := Op.fieldAddr 25 (Operand.tmp 1) 3, type := 0, pos := "l5_bounce.go:51", after := #[], guard := none }) (v := .pointer (some ⟨w.heap.size, 3, none⟩)) rfl (by kernel_rfl) (by kernel_rfl) (by kernel_rfl) (fun _ _ _ h => h) (Or.inl ⟨by rfl, fun wz hSw => ?_⟩) hHeld ?_
              · obtain ⟨e0, e1⟩ := hSw
                clear hHeld
                go_simp
              simp only [Act.put, List.setIfInBounds_toArray, List.set_cons_zero, List.set_cons_succ]
              refine wpAnyH_take (i := 1) (oi := { dst := some 60, op := Op.load 9 (Operand.tmp 59), type := 9, pos := "l5_bounce.go:51", after := #[{ on := 0, ground := Ground.data }], guard := none }) (v := .string hd) rfl (by kernel_rfl) (by kernel_rfl) (by kernel_rfl) (fun _ _ _ h => h) (Or.inl ⟨by rfl, fun wz hSw => ?_⟩) hHeld ?_
              · obtain ⟨e0, e1⟩ := hSw
                clear hHeld
                go_simp
              simp only [Act.put, List.setIfInBounds_toArray, List.set_cons_zero, List.set_cons_succ]
              refine wpAnyH_ready (rs := [2]) (by kernel_rfl) (by simp) ?_
              refine AllReadyH.cons (o := { dst := some 61, op := Op.call { callee := Callee.value (Operand.func 46), args := #[Operand.tmp 60], argTypes := #[9] }, type := 4, pos := "l5_bounce.go:51", after := #[{ on := 1, ground := Ground.data }], guard := none }) rfl (fun K hK => ?_) AllReadyH.nil
              go_simp
              go_at_call 46
              refine (C8.out _).mono ?_
              rintro e wG ⟨rfl, hb⟩
              have HBc : Hid (Below wr.heap.size wr wG) := HBc.out.trans (hb.mono HBc.out.size)
              refine hK.out _ _ ⟨(Blk.below HMk.out HBc.out).cell 3, trivial⟩ (fun hHeld => ?_)
              clear hK K hb
              try simp only [Act.put, List.setIfInBounds_toArray, List.set_cons_zero, List.set_cons_succ]
              refine wpAnyH_take (i := 3) (oi := { dst := some 62, op := Op.move (Operand.tmp 61), type := 4, pos := "l5_bounce.go:51", after := #[{ on := 2, ground := Ground.data }, { on := 2, ground := Ground.chain }], guard := none }) (v := .bool true) rfl (by kernel_rfl) (by kernel_rfl) (by kernel_rfl) (fun _ _ _ h => h) (Or.inl ⟨by rfl, fun wz hSw => ?_⟩) hHeld ?_
              · obtain ⟨e0, e1⟩ := hSw
                clear hHeld
                go_simp
              simp only [Act.put, List.setIfInBounds_toArray, List.set_cons_zero, List.set_cons_succ]
              refine wpAnyH_take (i := 4) (oi := { dst := some 63, op := Op.fieldAddr 25 (Operand.tmp 1) 3, type := 0, pos := "l5_bounce.go:51", after := #[{ on := 3, ground := Ground.guard }], guard := some (3, true) }) (v := .pointer (some ⟨w.heap.size, 3, none⟩)) rfl (by kernel_rfl) (by kernel_rfl) (by kernel_rfl) (fun _ _ _ h => h) (Or.inl ⟨by rfl, fun wz hSw => ?_⟩) hHeld ?_
              · obtain ⟨e0, e1⟩ := hSw
                clear hHeld
                go_simp
              simp only [Act.put, List.setIfInBounds_toArray, List.set_cons_zero, List.set_cons_succ]
              refine wpAnyH_take (i := 5) (oi := { dst := some 64, op := Op.load 9 (Operand.tmp 63), type := 9, pos := "l5_bounce.go:51", after := #[{ on := 4, ground := Ground.data }, { on := 3, ground := Ground.guard }], guard := some (3, true) }) (v := .string hd) rfl (by kernel_rfl) (by kernel_rfl) (by kernel_rfl) (fun _ _ _ h => h) (Or.inl ⟨by rfl, fun wz hSw => ?_⟩) hHeld ?_
              · obtain ⟨e0, e1⟩ := hSw
                clear hHeld
                go_simp
              simp only [Act.put, List.setIfInBounds_toArray, List.set_cons_zero, List.set_cons_succ]
              refine wpAnyH_take (i := 7) (oi := { dst := some 66, op := Op.fieldAddr 25 (Operand.tmp 1) 3, type := 0, pos := "l5_bounce.go:51", after := #[{ on := 3, ground := Ground.guard }], guard := some (3, true) }) (v := .pointer (some ⟨w.heap.size, 3, none⟩)) rfl (by kernel_rfl) (by kernel_rfl) (by kernel_rfl) (fun _ _ _ h => h) (Or.inl ⟨by rfl, fun wz hSw => ?_⟩) hHeld ?_
              · obtain ⟨e0, e1⟩ := hSw
                clear hHeld
                go_simp
              simp only [Act.put, List.setIfInBounds_toArray, List.set_cons_zero, List.set_cons_succ]
              refine wpAnyH_take (i := 8) (oi := { dst := some 67, op := Op.load 9 (Operand.tmp 66), type := 9, pos := "l5_bounce.go:51", after := #[{ on := 7, ground := Ground.data }, { on := 3, ground := Ground.guard }], guard := some (3, true) }) (v := .string hd) rfl (by kernel_rfl) (by kernel_rfl) (by kernel_rfl) (fun _ _ _ h => h) (Or.inl ⟨by rfl, fun wz hSw => ?_⟩) hHeld ?_
              · obtain ⟨e0, e1⟩ := hSw
                clear hHeld
                go_simp
              simp only [Act.put, List.setIfInBounds_toArray, List.set_cons_zero, List.set_cons_succ]
              refine wpAnyH_ready (rs := [6]) (by kernel_rfl) (by simp) ?_
              refine AllReadyH.cons (o := { dst := some 65, op := Op.call { callee := Callee.value (Operand.func 30), args := #[Operand.tmp 64], argTypes := #[9] }, type := 9, pos := "l5_bounce.go:51", after := #[{ on := 5, ground := Ground.data }, { on := 3, ground := Ground.chain }, { on := 3, ground := Ground.guard }], guard := some (3, true) }) rfl (fun K hK => ?_) AllReadyH.nil
              go_simp
              go_at_call 30
              refine (C9.out _).mono ?_
              rintro e wH ⟨rfl, hb⟩
              have HBc : Hid (Below wr.heap.size wr wH) := HBc.out.trans (hb.mono HBc.out.size)
              refine hK.out _ _ ⟨(Blk.below HMk.out HBc.out).cell 3, trivial⟩ (fun hHeld => ?_)
              clear hK K hb
              try simp only [Act.put, List.setIfInBounds_toArray, List.set_cons_zero, List.set_cons_succ]
              refine wpAnyH_take (i := 9) (oi := { dst := some 68, op := Op.binOp BinOp.eql 9 (Operand.tmp 65) (Operand.tmp 67) 9, type := 4, pos := "l5_bounce.go:51", after := #[{ on := 6, ground := Ground.data }, { on := 8, ground := Ground.data }, { on := 3, ground := Ground.guard }], guard := some (3, true) }) (v := .bool false) rfl (by kernel_rfl) (by kernel_rfl) (by kernel_rfl) (fun _ _ _ h => h) (Or.inl ⟨by rfl, fun wz hSw => ?_⟩) hHeld ?_
              · obtain ⟨e0, e1⟩ := hSw
                clear hHeld
                go_simp
              simp only [Act.put, List.setIfInBounds_toArray, List.set_cons_zero, List.set_cons_succ]
              refine wpAnyH_take (i := 10) (oi := { dst := some 69, op := Op.pick (Operand.tmp 62) (Operand.tmp 68) (Operand.const (Value.bool false)), type := 4, pos := "l5_bounce.go:51", after := #[{ on := 3, ground := Ground.data }, { on := 9, ground := Ground.data }], guard := none }) (v := .bool false) rfl (by kernel_rfl) (by kernel_rfl) (by kernel_rfl) (fun _ _ _ h => h) (Or.inl ⟨by rfl, fun wz hSw => ?_⟩) hHeld ?_
              · obtain ⟨e0, e1⟩ := hSw
                clear hHeld
                go_simp
              simp only [Act.put, List.setIfInBounds_toArray, List.set_cons_zero, List.set_cons_succ]
              refine wpAnyH_take (i := 11) (oi := { dst := some 2, op := Op.assign (Operand.tmp 69), type := 4, pos := "l5_bounce.go:51", after := #[{ on := 10, ground := Ground.data }, { on := 6, ground := Ground.chain }, { on := 0, ground := Ground.phase }, { on := 1, ground := Ground.phase }, { on := 2, ground := Ground.phase }, { on := 3, ground := Ground.phase }, { on := 4, ground := Ground.phase }, { on := 5, ground := Ground.phase }, { on := 6, ground := Ground.phase }, { on := 7, ground := Ground.phase }, { on := 8, ground := Ground.phase }, { on := 9, ground := Ground.phase }, { on := 10, ground := Ground.phase }], guard := none }) (v := .bool false) rfl (by kernel_rfl) (by kernel_rfl) (by kernel_rfl) (fun _ _ _ h => h) (Or.inl ⟨by rfl, fun wz hSw => ?_⟩) hHeld ?_
              · obtain ⟨e0, e1⟩ := hSw
                clear hHeld
                go_simp
              simp only [Act.put, List.setIfInBounds_toArray, List.set_cons_zero, List.set_cons_succ]
              refine wpAnyH_done (by kernel_rfl) ?_ _
              go_simp
              go_wp2
              go_ret
              exact ⟨ret_bool G.out.symm, HB0.out.trans ((HBk.out.trans (HBc.out.mono HBk.out.size)).mono HZ.out)⟩
end Go.Proofs.YtlolnfpfipnfeaaGreatDoor
namespace Go.Proofs.YtlolnfpfipnfeaaGreatDoor
open Go.ChangeShapes Go.WideShapes Go.ChangeAt Go.RowKit
open Pcs

theorem makeI_no {b : Bn} (h : bnOk b = false) : makeI b = ⟨#[]⟩ := (make_no h).1
theorem makeI_yes {b : Bn} (h : bnOk b = true) : makeI b = mk (bnText b (cutL (bndI (linesB b.hd)))) := by unfold makeI; rw [if_pos h]
theorem code_bnd {c : Int} (h : codeOk c = true) : 0 ≤ c ∧ c ≤ 1000 := by
  unfold codeOk at h
  simp only [Bool.or_eq_true, Bool.and_eq_true, decide_eq_true_eq] at h
  omega
theorem alloc_ltW (w : World) (o : Obj) : w.heap.size < (w.alloc o).heap.size := by simp
theorem seven_set {w : World} {b : Nat} {z0 z1 z2 z3 z4 z5 z6 x0 x1 x2 x3 x4 x5 x6 : Value} {T : TypeId} (h : w.heap[b]? = some (.cells #[z0, z1, z2, z3, z4, z5, z6] T (0, 0))) :
    (((((((w.setCell ⟨b, 0, none⟩ x0).setCell ⟨b, 1, none⟩ x1).setCell ⟨b, 2, none⟩ x2).setCell ⟨b, 3, none⟩ x3).setCell ⟨b, 4, none⟩ x4).setCell ⟨b, 5, none⟩ x5).setCell ⟨b, 6, none⟩ x6).heap[b]? = some (.cells #[x0, x1, x2, x3, x4, x5, x6] T (0, 0)) := by
  have h0 : (w.setCell ⟨b, 0, none⟩ x0).heap[b]? = some (.cells #[x0, z1, z2, z3, z4, z5, z6] T (0, 0)) := heap_setCell_same w b 0 _ T x0 h
  have h1 : ((w.setCell ⟨b, 0, none⟩ x0).setCell ⟨b, 1, none⟩ x1).heap[b]? = some (.cells #[x0, x1, z2, z3, z4, z5, z6] T (0, 0)) := heap_setCell_same (w.setCell ⟨b, 0, none⟩ x0) b 1 _ T x1 h0
  have h2 : (((w.setCell ⟨b, 0, none⟩ x0).setCell ⟨b, 1, none⟩ x1).setCell ⟨b, 2, none⟩ x2).heap[b]? = some (.cells #[x0, x1, x2, z3, z4, z5, z6] T (0, 0)) := heap_setCell_same ((w.setCell ⟨b, 0, none⟩ x0).setCell ⟨b, 1, none⟩ x1) b 2 _ T x2 h1
  have h3 : ((((w.setCell ⟨b, 0, none⟩ x0).setCell ⟨b, 1, none⟩ x1).setCell ⟨b, 2, none⟩ x2).setCell ⟨b, 3, none⟩ x3).heap[b]? = some (.cells #[x0, x1, x2, x3, z4, z5, z6] T (0, 0)) := heap_setCell_same (((w.setCell ⟨b, 0, none⟩ x0).setCell ⟨b, 1, none⟩ x1).setCell ⟨b, 2, none⟩ x2) b 3 _ T x3 h2
  have h4 : (((((w.setCell ⟨b, 0, none⟩ x0).setCell ⟨b, 1, none⟩ x1).setCell ⟨b, 2, none⟩ x2).setCell ⟨b, 3, none⟩ x3).setCell ⟨b, 4, none⟩ x4).heap[b]? = some (.cells #[x0, x1, x2, x3, x4, z5, z6] T (0, 0)) := heap_setCell_same ((((w.setCell ⟨b, 0, none⟩ x0).setCell ⟨b, 1, none⟩ x1).setCell ⟨b, 2, none⟩ x2).setCell ⟨b, 3, none⟩ x3) b 4 _ T x4 h3
  have h5 : ((((((w.setCell ⟨b, 0, none⟩ x0).setCell ⟨b, 1, none⟩ x1).setCell ⟨b, 2, none⟩ x2).setCell ⟨b, 3, none⟩ x3).setCell ⟨b, 4, none⟩ x4).setCell ⟨b, 5, none⟩ x5).heap[b]? = some (.cells #[x0, x1, x2, x3, x4, x5, z6] T (0, 0)) := heap_setCell_same (((((w.setCell ⟨b, 0, none⟩ x0).setCell ⟨b, 1, none⟩ x1).setCell ⟨b, 2, none⟩ x2).setCell ⟨b, 3, none⟩ x3).setCell ⟨b, 4, none⟩ x4) b 5 _ T x5 h4
  have h6 : (((((((w.setCell ⟨b, 0, none⟩ x0).setCell ⟨b, 1, none⟩ x1).setCell ⟨b, 2, none⟩ x2).setCell ⟨b, 3, none⟩ x3).setCell ⟨b, 4, none⟩ x4).setCell ⟨b, 5, none⟩ x5).setCell ⟨b, 6, none⟩ x6).heap[b]? = some (.cells #[x0, x1, x2, x3, x4, x5, x6] T (0, 0)) := heap_setCell_same ((((((w.setCell ⟨b, 0, none⟩ x0).setCell ⟨b, 1, none⟩ x1).setCell ⟨b, 2, none⟩ x2).setCell ⟨b, 3, none⟩ x3).setCell ⟨b, 4, none⟩ x4).setCell ⟨b, 5, none⟩ x5) b 6 _ T x6 h5
  exact h6
theorem seven_below {w : World} {B b : Nat} {x0 x1 x2 x3 x4 x5 x6 : Value} (h : B ≤ b) :
    Below B w (((((((w.setCell ⟨b, 0, none⟩ x0).setCell ⟨b, 1, none⟩ x1).setCell ⟨b, 2, none⟩ x2).setCell ⟨b, 3, none⟩ x3).setCell ⟨b, 4, none⟩ x4).setCell ⟨b, 5, none⟩ x5).setCell ⟨b, 6, none⟩ x6) :=
  (((((((Below.refl B w).setCell (p := ⟨b, 0, none⟩) h _).setCell (p := ⟨b, 1, none⟩) h _).setCell (p := ⟨b, 2, none⟩) h _).setCell (p := ⟨b, 3, none⟩) h _).setCell (p := ⟨b, 4, none⟩) h _).setCell (p := ⟨b, 5, none⟩) h _).setCell (p := ⟨b, 6, none⟩) h _
theorem text_ne (b : Bn) (cut : List UInt8) : bnText b cut ≠ [] := by
  unfold bnText bnLines hdLines
  simp [flatL, frL]

set_option maxHeartbeats 4000000 in
set_option maxRecDepth 100000 in
theorem implMake (b : Bn) (v : Value) (lo : Nat) (w : World) (he : Env w) (h : Fls w lo v b.fs) (hz : BnZ b) :
    Calls Tryz.prog 5 #[bnV b v] w fun e w' => e = .returned (.string (makeI b)) ∧ Below w.heap.size w w' := by
  obtain ⟨dm, tw, L, hd⟩ := b
  have HZ : Hid (BnZ ⟨dm, tw, L, hd⟩) := hz
  have z3 := hz.hd
  dsimp only at h z3
  obtain ⟨a, c, rfl⟩ := fls_form h
  have HFL : Hid (Fls w lo (.slice a L.length c) L) := h
  have HE : Hid (Env w) := he
  have HRR : Hid (bnOk ⟨dm, tw, L, hd⟩ = true → BnR ⟨dm, tw, L, hd⟩) := bnR
  have HNO : Hid (bnOk ⟨dm, tw, L, hd⟩ = false → makeI ⟨dm, tw, L, hd⟩ = ⟨#[]⟩) := makeI_no
  have HYE : Hid (bnOk ⟨dm, tw, L, hd⟩ = true → makeI ⟨dm, tw, L, hd⟩ = mk (bnText ⟨dm, tw, L, hd⟩ (cutL (bndI (linesB hd))))) := makeI_yes
  have HIR : Hid (∀ wx : World, Below w.heap.size w wx → Calls Tryz.prog 13 #[.agg #[.string dm, .string tw, .slice a L.length c, .string hd]] wx fun e w' => e = .returned (.bool (bnOk ⟨dm, tw, L, hd⟩)) ∧ Below wx.heap.size wx w') := fun wx hx => implRight ⟨dm, tw, L, hd⟩ _ lo wx (HE.out.below hx) (fls_below HFL.out hx (Nat.le_refl _)) HZ.out
  unfold bnV
  dsimp only
  clear he h hz
  generalize makeI ⟨dm, tw, L, hd⟩ = MT at *
  go_enter Tryz.func5, Tryz.ntmps5
  go_upto_region 1 with fail
  generalize hW : w.alloc _ = W
  have HM : Hid (Blk w.heap.size #[.string dm, .string tw, .slice a L.length c, .string hd] W) := by show Blk _ _ _; rw [← hW]; exact Blk.new _ _ _
  have HB0 : Hid (Below w.heap.size w W) := by show Below _ _ _; rw [← hW]; exact below1 _ _
  have k0 : W.cell? ⟨w.heap.size, 0, none⟩ = some (.string dm) := HM.out.cell 0
  have k1 : W.cell? ⟨w.heap.size, 1, none⟩ = some (.string tw) := HM.out.cell 1
  have k2 : W.cell? ⟨w.heap.size, 2, none⟩ = some (.slice a L.length c) := HM.out.cell 2
  have k3 : W.cell? ⟨w.heap.size, 3, none⟩ = some (.string hd) := HM.out.cell 3
  clear hW
  go_wp2_with fail
  refine (HIR.out _ HB0.out).mono ?_
  rintro e w1 ⟨rfl, hb⟩
  have HB1 : Hid (Below W.heap.size W w1) := hb
  clear hb k0 k1 k2 k3 HIR
  cases hok : bnOk ⟨dm, tw, L, hd⟩
  · have G : Hid (MT = ⟨#[]⟩) := HNO.out hok
    clear hok
    go_wp2
    go_ret
    exact ⟨ret_str G.out.symm, HB0.out.trans (HB1.out.mono HB0.out.size)⟩
  · have r := HRR.out hok
    have G : Hid (MT = mk (bnText ⟨dm, tw, L, hd⟩ (cutL (bndI (linesB hd))))) := HYE.out hok
    have hbo : bodyOk hd = true := head_body r.hd
    have h3000 : hd.size ≤ 3000 := by
      unfold bodyOk at hbo
      simp only [Bool.and_eq_true, decide_eq_true_eq] at hbo
      exact hbo.1
    have HL20 : L.length ≤ 20 := r.n20
    have HCD : Hid (∀ f ∈ L, 0 ≤ f.cd ∧ f.cd ≤ 1000) := fun f hf => code_bnd (flOk_of (r.fs f hf)).2.2.1
    have hbs : (mk (cutL (bndI (linesB hd)))).size ≤ 10 := by
      have hl := body_lines hbo
      obtain ⟨kk, h1, h2, h4⟩ := free_some (M := linesB hd) (by have := hl.2.2.2; omega)
      obtain ⟨n, h5, h6, h7⟩ := least_free kk h4
      have e := bndI_at (M := linesB hd) (by have := hl.2.2.2; omega) h7 h6
      rw [e, ← cutB_mk]
      exact cutB_size (by omega)
    have HIB : Hid (∀ wx : World, Env wx → Calls Tryz.prog 14 #[.string hd] wx fun e w' => e = .returned (.string (mk (cutL (bndI (linesB hd))))) ∧ Below wx.heap.size wx w') := fun wx hx => implBound hd wx hx hbo h3000
    have HBL : Hid ((mk (cutL (bndI (linesB hd)))).data.toList = cutL (bndI (linesB hd))) := rfl
    generalize hbdE : mk (cutL (bndI (linesB hd))) = bd at *
    clear r hbo hbdE HRR HNO HYE hok
    have HB1' : Hid (Below w.heap.size w w1) := HB0.out.trans (HB1.out.mono HB0.out.size)
    have HM1 : Hid (Blk w.heap.size #[.string dm, .string tw, .slice a L.length c, .string hd] w1) := Blk.below HM.out HB1.out
    have k0 : w1.cell? ⟨w.heap.size, 0, none⟩ = some (.string dm) := HM1.out.cell 0
    have k1 : w1.cell? ⟨w.heap.size, 1, none⟩ = some (.string tw) := HM1.out.cell 1
    have k2 : w1.cell? ⟨w.heap.size, 2, none⟩ = some (.slice a L.length c) := HM1.out.cell 2
    have k3 : w1.cell? ⟨w.heap.size, 3, none⟩ = some (.string hd) := HM1.out.cell 3
    have HNC : Hid (∀ wx : World, wx.heap[w1.heap.size]? = some (.cells #[.string ⟨#[]⟩, .string ⟨#[]⟩, .slice none 0 0, .string ⟨#[]⟩, .string ⟨#[]⟩, .pointer none, .slice none 0 0] 49 (0, 0)) → wx.cell? ⟨w1.heap.size, 0, none⟩ = some (.string ⟨#[]⟩) ∧ wx.cell? ⟨w1.heap.size, 1, none⟩ = some (.string ⟨#[]⟩) ∧ wx.cell? ⟨w1.heap.size, 2, none⟩ = some (.slice none 0 0) ∧ wx.cell? ⟨w1.heap.size, 3, none⟩ = some (.string ⟨#[]⟩) ∧ wx.cell? ⟨w1.heap.size, 4, none⟩ = some (.string ⟨#[]⟩) ∧ wx.cell? ⟨w1.heap.size, 5, none⟩ = some (.pointer none) ∧ wx.cell? ⟨w1.heap.size, 6, none⟩ = some (.slice none 0 0) ∧ ∀ o : Nat, wx.frozen? ⟨w1.heap.size, o, none⟩ = false) := fun wx hx => ⟨by rw [Lib.cell_of_heap hx]; rfl, by rw [Lib.cell_of_heap hx]; rfl, by rw [Lib.cell_of_heap hx]; rfl, by rw [Lib.cell_of_heap hx]; rfl, by rw [Lib.cell_of_heap hx]; rfl, by rw [Lib.cell_of_heap hx]; rfl, by rw [Lib.cell_of_heap hx]; rfl, fun o => Lib.frozen_of_heap hx o⟩
    have hq1 : ¬ w1.heap.size = w.heap.size := by have := HM1.out.lt; omega
    have hq2 : ¬ w.heap.size = w1.heap.size := by have := HM1.out.lt; omega
    go_upto_region 3 with fail
    refine wp_region_held_drew (S := fun w' => w'.cell? ⟨w.heap.size, 0, none⟩ = some (.string dm) ∧ w'.cell? ⟨w.heap.size, 1, none⟩ = some (.string tw) ∧ w'.cell? ⟨w.heap.size, 2, none⟩ = some (.slice a L.length c) ∧ w'.cell? ⟨w.heap.size, 3, none⟩ = some (.string hd)) (by kernel_rfl) ⟨by simpa using k0, by simpa using k1, by simpa using k2, by simpa using k3⟩ (fun hHeld => ?_)
    have HBc : Hid (Below w1.heap.size w1 w1.drew) := (Below.refl w1.heap.size w1).drew
    generalize w1.drew = wd at hHeld HBc ⊢
    clear k0 k1 k2 k3
    refine wpAnyH_take (i := 0) (oi := { dst := some 7, op := Op.load 25 (Operand.tmp 1), type := 25, pos := "l5_bounce.go:98", after := #[], guard := none }) (v := .agg #[.string dm, .string tw, .slice a L.length c, .string hd]) rfl (by kernel_rfl) (by kernel_rfl) (by kernel_rfl) (fun _ _ _ h => h) (Or.inl ⟨by rfl, fun wz hSw => ?_⟩) hHeld ?_
    · obtain ⟨e0, e1, e2, e3⟩ := hSw
      clear hHeld
      go_simp
    simp only [Act.put, List.setIfInBounds_toArray, List.set_cons_zero, List.set_cons_succ]
    refine wpAnyH_take (i := 1) (oi := { dst := some 8, op := Op.fieldAddr 25 (Operand.tmp 1) 3, type := 0, pos := "l5_bounce.go:98", after := #[], guard := none }) (v := .pointer (some ⟨w.heap.size, 3, none⟩)) rfl (by kernel_rfl) (by kernel_rfl) (by kernel_rfl) (fun _ _ _ h => h) (Or.inl ⟨by rfl, fun wz hSw => ?_⟩) hHeld ?_
    · obtain ⟨e0, e1, e2, e3⟩ := hSw
      clear hHeld
      go_simp
    simp only [Act.put, List.setIfInBounds_toArray, List.set_cons_zero, List.set_cons_succ]
    refine wpAnyH_take (i := 2) (oi := { dst := some 9, op := Op.load 9 (Operand.tmp 8), type := 9, pos := "l5_bounce.go:98", after := #[{ on := 1, ground := Ground.data }], guard := none }) (v := .string hd) rfl (by kernel_rfl) (by kernel_rfl) (by kernel_rfl) (fun _ _ _ h => h) (Or.inl ⟨by rfl, fun wz hSw => ?_⟩) hHeld ?_
    · obtain ⟨e0, e1, e2, e3⟩ := hSw
      clear hHeld
      go_simp
    simp only [Act.put, List.setIfInBounds_toArray, List.set_cons_zero, List.set_cons_succ]
    refine wpAnyH_ready (rs := [3, 6]) (by kernel_rfl) (by simp) ?_
    refine AllReadyH.cons (o := { dst := some 10, op := Op.call { callee := Callee.value (Operand.func 14), args := #[Operand.tmp 9], argTypes := #[9] }, type := 9, pos := "l5_bounce.go:98", after := #[{ on := 2, ground := Ground.data }], guard := none }) rfl (fun K hK => ?_) (AllReadyH.cons (o := { dst := some 3, op := Op.alloc 49, type := 0, pos := "l5_bounce.go:98", after := #[], guard := none }) rfl (fun K hK => ?_) AllReadyH.nil)
    · clear hHeld
      go_simp
      go_at_call 14
      refine (HIB.out _ (HE.out.below (HB1'.out.trans (HBc.out.mono HB1'.out.size)))).mono ?_
      rintro e w2 ⟨rfl, hb⟩
      have HBc : Hid (Below w1.heap.size w1 w2) := HBc.out.trans (hb.mono HBc.out.size)
      refine hK.out _ _ ⟨(Blk.below HM1.out HBc.out).cell 0, (Blk.below HM1.out HBc.out).cell 1, (Blk.below HM1.out HBc.out).cell 2, (Blk.below HM1.out HBc.out).cell 3⟩ (fun hHeld => ?_)
      clear hK K hb
      try simp only [Act.put, List.setIfInBounds_toArray, List.set_cons_zero, List.set_cons_succ]
      refine wpAnyH_take (i := 4) (oi := { dst := some 11, op := Op.build 44 #[(0, Operand.tmp 7), (1, Operand.tmp 10)], type := 44, pos := "l5_bounce.go:98", after := #[{ on := 0, ground := Ground.data }, { on := 3, ground := Ground.data }], guard := none }) (v := .agg #[.string dm, .string tw, .slice a L.length c, .string hd, .string bd]) rfl (by kernel_rfl) (by kernel_rfl) (by kernel_rfl) (fun _ _ _ h => h) (Or.inl ⟨by rfl, fun wz hSw => ?_⟩) hHeld ?_
      · obtain ⟨e0, e1, e2, e3⟩ := hSw
        clear hHeld
        go_simp
      simp only [Act.put, List.setIfInBounds_toArray, List.set_cons_zero, List.set_cons_succ]
      refine wpAnyH_take (i := 5) (oi := { dst := some 12, op := Op.build 49 #[(0, Operand.tmp 11)], type := 49, pos := "l5_bounce.go:98", after := #[{ on := 4, ground := Ground.data }], guard := none }) (v := .agg #[.string dm, .string tw, .slice a L.length c, .string hd, .string bd, .pointer none, .slice none 0 0]) rfl (by kernel_rfl) (by kernel_rfl) (by kernel_rfl) (fun _ _ _ h => h) (Or.inl ⟨by rfl, fun wz hSw => ?_⟩) hHeld ?_
      · obtain ⟨e0, e1, e2, e3⟩ := hSw
        clear hHeld
        go_simp
      simp only [Act.put, List.setIfInBounds_toArray, List.set_cons_zero, List.set_cons_succ]
      refine wpAnyH_ready (rs := [6]) (by kernel_rfl) (by simp) ?_
      refine AllReadyH.cons (o := { dst := some 3, op := Op.alloc 49, type := 0, pos := "l5_bounce.go:98", after := #[], guard := none }) rfl (fun K hK => ?_) AllReadyH.nil
      clear hHeld
      go_simp
      generalize hW : World.alloc w2 _ = w3
      obtain ⟨nb, hnb⟩ : ∃ nb, nb = w2.heap.size := ⟨_, rfl⟩
      have HN : Hid (w3.heap[nb]? = some (.cells #[.string ⟨#[]⟩, .string ⟨#[]⟩, .slice none 0 0, .string ⟨#[]⟩, .string ⟨#[]⟩, .pointer none, .slice none 0 0] 49 (0, 0))) := by show _ = _; rw [← hW, hnb]; exact heap_newW _ _ _
      have hb : Below w2.heap.size w2 w3 := by rw [← hW]; exact below1 _ _
      rw [← hnb]
      have HNB : Hid (w1.heap.size ≤ nb) := by show _ ≤ _; rw [hnb]; exact HBc.out.size
      have HBc : Hid (Below w1.heap.size w1 w3) := HBc.out.trans (hb.mono HBc.out.size)
      clear hW hnb
      refine hK.out _ _ ⟨(Blk.below HM1.out HBc.out).cell 0, (Blk.below HM1.out HBc.out).cell 1, (Blk.below HM1.out HBc.out).cell 2, (Blk.below HM1.out HBc.out).cell 3⟩ (fun hHeld => ?_)
      clear hK K hb
      try simp only [Act.put, List.setIfInBounds_toArray, List.set_cons_zero, List.set_cons_succ]
      refine wpAnyH_ready (rs := [7]) (by kernel_rfl) (by simp) ?_
      refine AllReadyH.cons (o := { dst := none, op := Op.store 49 (Operand.tmp 3) (Operand.tmp 12), type := 0, pos := "l5_bounce.go:98", after := #[{ on := 6, ground := Ground.data }, { on := 5, ground := Ground.data }, { on := 3, ground := Ground.chain }, { on := 0, ground := Ground.phase }, { on := 1, ground := Ground.phase }, { on := 2, ground := Ground.phase }, { on := 3, ground := Ground.phase }, { on := 4, ground := Ground.phase }, { on := 5, ground := Ground.phase }, { on := 6, ground := Ground.phase }], guard := none }) rfl (fun K hK => ?_) AllReadyH.nil
      have hnw : ¬ nb = w.heap.size := by have h1 := HNB.out; have h2 := HM1.out.lt; omega
      have hnw2 : ¬ w.heap.size = nb := fun e => hnw e.symm
      obtain ⟨m0, m1, m2, m3⟩ := hHeld
      have n0 : w3.cell? ⟨nb, 0, none⟩ = some (.string ⟨#[]⟩) := by rw [Lib.cell_of_heap HN.out]; rfl
      have n1 : w3.cell? ⟨nb, 1, none⟩ = some (.string ⟨#[]⟩) := by rw [Lib.cell_of_heap HN.out]; rfl
      have n2 : w3.cell? ⟨nb, 2, none⟩ = some (.slice none 0 0) := by rw [Lib.cell_of_heap HN.out]; rfl
      have n3 : w3.cell? ⟨nb, 3, none⟩ = some (.string ⟨#[]⟩) := by rw [Lib.cell_of_heap HN.out]; rfl
      have n4 : w3.cell? ⟨nb, 4, none⟩ = some (.string ⟨#[]⟩) := by rw [Lib.cell_of_heap HN.out]; rfl
      have n5 : w3.cell? ⟨nb, 5, none⟩ = some (.pointer none) := by rw [Lib.cell_of_heap HN.out]; rfl
      have n6 : w3.cell? ⟨nb, 6, none⟩ = some (.slice none 0 0) := by rw [Lib.cell_of_heap HN.out]; rfl
      have f0 : w3.frozen? ⟨nb, 0, none⟩ = false := Lib.frozen_of_heap HN.out 0
      have f1 : w3.frozen? ⟨nb, 1, none⟩ = false := Lib.frozen_of_heap HN.out 1
      have f2 : w3.frozen? ⟨nb, 2, none⟩ = false := Lib.frozen_of_heap HN.out 2
      have f3 : w3.frozen? ⟨nb, 3, none⟩ = false := Lib.frozen_of_heap HN.out 3
      have f4 : w3.frozen? ⟨nb, 4, none⟩ = false := Lib.frozen_of_heap HN.out 4
      have f5 : w3.frozen? ⟨nb, 5, none⟩ = false := Lib.frozen_of_heap HN.out 5
      have f6 : w3.frozen? ⟨nb, 6, none⟩ = false := Lib.frozen_of_heap HN.out 6
      go_simp
      generalize hF : (((((((w3.setCell ⟨nb, 0, none⟩ (.string dm)).setCell ⟨nb, 1, none⟩ (.string tw)).setCell ⟨nb, 2, none⟩ (.slice a L.length c)).setCell ⟨nb, 3, none⟩ (.string hd)).setCell ⟨nb, 4, none⟩ (.string bd)).setCell ⟨nb, 5, none⟩ (.pointer none)).setCell ⟨nb, 6, none⟩ (.slice none 0 0)) = Wf
      have HNf : Hid (Wf.heap[nb]? = some (.cells #[.string dm, .string tw, .slice a L.length c, .string hd, .string bd, .pointer none, .slice none 0 0] 49 (0, 0))) := by show _ = _; rw [← hF]; exact seven_set HN.out
      have HBf : Hid (Below w1.heap.size w1 Wf) := by show Below _ _ _; rw [← hF]; exact HBc.out.trans (seven_below HNB.out)
      clear hF n0 n1 n2 n3 n4 n5 n6 f0 f1 f2 f3 f4 f5 f6 m0 m1 m2 m3 HN
      refine hK.out _ _ ⟨(Blk.below HM1.out HBf.out).cell 0, (Blk.below HM1.out HBf.out).cell 1, (Blk.below HM1.out HBf.out).cell 2, (Blk.below HM1.out HBf.out).cell 3⟩ (fun hHeld => ?_)
      clear hK K
      try simp only [Act.put, List.setIfInBounds_toArray, List.set_cons_zero, List.set_cons_succ]
      refine wpAnyH_done (by kernel_rfl) ?_ _
      clear hHeld
      have HBw : Hid (Below w.heap.size w Wf) := HB1'.out.trans (HBf.out.mono HB1'.out.size)
      have hnl : w.heap.size ≤ nb := Nat.le_trans HB1'.out.size HNB.out
      have HWr : Hid (Wr Wf.heap.size nb (.string dm) (.string tw) (.slice a L.length c) (.string hd) (.string bd) [] Wf) := ⟨.pointer none, .slice none 0 0, .inl rfl, HNf.out, World.ownsRow_nil _ _ _ _, (Array.getElem?_eq_some_iff.1 HNf.out).1, Nat.le_refl _⟩
      have HAL : Hid (Calls Tryz.prog 15 #[.pointer (some ⟨nb, 0, none⟩)] Wf fun e w' => e = .returned (.tuple #[]) ∧ Wr Wf.heap.size nb (.string dm) (.string tw) (.slice a L.length c) (.string hd) (.string bd) (bnText ⟨dm, tw, L, hd⟩ bd.data.toList) w' ∧ Besides Wf.heap.size nb Wf w') := wAll Wf.heap.size nb dm tw hd bd a c L lo Wf w HE.out HBw.out hnl HWr.out (fls_below HFL.out HBw.out (Nat.le_refl _)) (fun g hg => Nat.lt_of_lt_of_le (fls_own HFL.out g hg).2 hnl) HZ.out (by omega) HL20 HCD.out
      go_simp
      go_wp2_with fail
      refine HAL.out.mono ?_
      rintro e w4 ⟨rfl, h4, hb4⟩
      have HW4 : Hid (Wr Wf.heap.size nb (.string dm) (.string tw) (.slice a L.length c) (.string hd) (.string bd) (bnText ⟨dm, tw, L, hd⟩ bd.data.toList) w4) := h4
      have HB4 : Hid (Below w.heap.size w w4) := HBw.out.trans (hb4.below hnl HBw.out.size)
      clear h4 hb4 HAL HWr
      go_wp2_with fail
      refine (wString Wf.heap.size nb (.string dm) (.string tw) (.slice a L.length c) (.string hd) (.string bd) _ w4 HW4.out (text_ne _ _)).mono ?_
      rintro e w5 ⟨rfl, hb5⟩
      go_wp2
      go_ret
      exact ⟨ret_str (by rw [G.out, ← HBL.out]; rfl), HB4.out.trans (hb5.mono HBw.out.size)⟩
    · clear hHeld
      go_simp
      generalize hW : World.alloc wd _ = w2
      obtain ⟨nb, hnb⟩ : ∃ nb, nb = wd.heap.size := ⟨_, rfl⟩
      have HN : Hid (w2.heap[nb]? = some (.cells #[.string ⟨#[]⟩, .string ⟨#[]⟩, .slice none 0 0, .string ⟨#[]⟩, .string ⟨#[]⟩, .pointer none, .slice none 0 0] 49 (0, 0))) := by show _ = _; rw [← hW, hnb]; exact heap_newW _ _ _
      have hb : Below wd.heap.size wd w2 := by rw [← hW]; exact below1 _ _
      rw [← hnb]
      have HNB : Hid (w1.heap.size ≤ nb) := by show _ ≤ _; rw [hnb]; exact HBc.out.size
      have HBc : Hid (Below w1.heap.size w1 w2) := HBc.out.trans (hb.mono HBc.out.size)
      clear hW hnb
      refine hK.out _ _ ⟨(Blk.below HM1.out HBc.out).cell 0, (Blk.below HM1.out HBc.out).cell 1, (Blk.below HM1.out HBc.out).cell 2, (Blk.below HM1.out HBc.out).cell 3⟩ (fun hHeld => ?_)
      clear hK K hb
      try simp only [Act.put, List.setIfInBounds_toArray, List.set_cons_zero, List.set_cons_succ]
      refine wpAnyH_ready (rs := [3]) (by kernel_rfl) (by simp) ?_
      refine AllReadyH.cons (o := { dst := some 10, op := Op.call { callee := Callee.value (Operand.func 14), args := #[Operand.tmp 9], argTypes := #[9] }, type := 9, pos := "l5_bounce.go:98", after := #[{ on := 2, ground := Ground.data }], guard := none }) rfl (fun K hK => ?_) AllReadyH.nil
      clear hHeld
      go_simp
      go_at_call 14
      refine (HIB.out _ (HE.out.below (HB1'.out.trans (HBc.out.mono HB1'.out.size)))).mono ?_
      rintro e w3 ⟨rfl, hb⟩
      have HN : Hid (w3.heap[nb]? = some (.cells #[.string ⟨#[]⟩, .string ⟨#[]⟩, .slice none 0 0, .string ⟨#[]⟩, .string ⟨#[]⟩, .pointer none, .slice none 0 0] 49 (0, 0))) := by show _ = _; rw [hb.block nb (Array.getElem?_eq_some_iff.1 HN.out).1]; exact HN.out
      have HBc : Hid (Below w1.heap.size w1 w3) := HBc.out.trans (hb.mono HBc.out.size)
      refine hK.out _ _ ⟨(Blk.below HM1.out HBc.out).cell 0, (Blk.below HM1.out HBc.out).cell 1, (Blk.below HM1.out HBc.out).cell 2, (Blk.below HM1.out HBc.out).cell 3⟩ (fun hHeld => ?_)
      clear hK K hb
      try simp only [Act.put, List.setIfInBounds_toArray, List.set_cons_zero, List.set_cons_succ]
      refine wpAnyH_take (i := 4) (oi := { dst := some 11, op := Op.build 44 #[(0, Operand.tmp 7), (1, Operand.tmp 10)], type := 44, pos := "l5_bounce.go:98", after := #[{ on := 0, ground := Ground.data }, { on := 3, ground := Ground.data }], guard := none }) (v := .agg #[.string dm, .string tw, .slice a L.length c, .string hd, .string bd]) rfl (by kernel_rfl) (by kernel_rfl) (by kernel_rfl) (fun _ _ _ h => h) (Or.inl ⟨by rfl, fun wz hSw => ?_⟩) hHeld ?_
      · obtain ⟨e0, e1, e2, e3⟩ := hSw
        clear hHeld
        go_simp
      simp only [Act.put, List.setIfInBounds_toArray, List.set_cons_zero, List.set_cons_succ]
      refine wpAnyH_take (i := 5) (oi := { dst := some 12, op := Op.build 49 #[(0, Operand.tmp 11)], type := 49, pos := "l5_bounce.go:98", after := #[{ on := 4, ground := Ground.data }], guard := none }) (v := .agg #[.string dm, .string tw, .slice a L.length c, .string hd, .string bd, .pointer none, .slice none 0 0]) rfl (by kernel_rfl) (by kernel_rfl) (by kernel_rfl) (fun _ _ _ h => h) (Or.inl ⟨by rfl, fun wz hSw => ?_⟩) hHeld ?_
      · obtain ⟨e0, e1, e2, e3⟩ := hSw
        clear hHeld
        go_simp
      simp only [Act.put, List.setIfInBounds_toArray, List.set_cons_zero, List.set_cons_succ]
      refine wpAnyH_ready (rs := [7]) (by kernel_rfl) (by simp) ?_
      refine AllReadyH.cons (o := { dst := none, op := Op.store 49 (Operand.tmp 3) (Operand.tmp 12), type := 0, pos := "l5_bounce.go:98", after := #[{ on := 6, ground := Ground.data }, { on := 5, ground := Ground.data }, { on := 3, ground := Ground.chain }, { on := 0, ground := Ground.phase }, { on := 1, ground := Ground.phase }, { on := 2, ground := Ground.phase }, { on := 3, ground := Ground.phase }, { on := 4, ground := Ground.phase }, { on := 5, ground := Ground.phase }, { on := 6, ground := Ground.phase }], guard := none }) rfl (fun K hK => ?_) AllReadyH.nil
      have hnw : ¬ nb = w.heap.size := by have h1 := HNB.out; have h2 := HM1.out.lt; omega
      have hnw2 : ¬ w.heap.size = nb := fun e => hnw e.symm
      obtain ⟨m0, m1, m2, m3⟩ := hHeld
      have n0 : w3.cell? ⟨nb, 0, none⟩ = some (.string ⟨#[]⟩) := by rw [Lib.cell_of_heap HN.out]; rfl
      have n1 : w3.cell? ⟨nb, 1, none⟩ = some (.string ⟨#[]⟩) := by rw [Lib.cell_of_heap HN.out]; rfl
      have n2 : w3.cell? ⟨nb, 2, none⟩ = some (.slice none 0 0) := by rw [Lib.cell_of_heap HN.out]; rfl
      have n3 : w3.cell? ⟨nb, 3, none⟩ = some (.string ⟨#[]⟩) := by rw [Lib.cell_of_heap HN.out]; rfl
      have n4 : w3.cell? ⟨nb, 4, none⟩ = some (.string ⟨#[]⟩) := by rw [Lib.cell_of_heap HN.out]; rfl
      have n5 : w3.cell? ⟨nb, 5, none⟩ = some (.pointer none) := by rw [Lib.cell_of_heap HN.out]; rfl
      have n6 : w3.cell? ⟨nb, 6, none⟩ = some (.slice none 0 0) := by rw [Lib.cell_of_heap HN.out]; rfl
      have f0 : w3.frozen? ⟨nb, 0, none⟩ = false := Lib.frozen_of_heap HN.out 0
      have f1 : w3.frozen? ⟨nb, 1, none⟩ = false := Lib.frozen_of_heap HN.out 1
      have f2 : w3.frozen? ⟨nb, 2, none⟩ = false := Lib.frozen_of_heap HN.out 2
      have f3 : w3.frozen? ⟨nb, 3, none⟩ = false := Lib.frozen_of_heap HN.out 3
      have f4 : w3.frozen? ⟨nb, 4, none⟩ = false := Lib.frozen_of_heap HN.out 4
      have f5 : w3.frozen? ⟨nb, 5, none⟩ = false := Lib.frozen_of_heap HN.out 5
      have f6 : w3.frozen? ⟨nb, 6, none⟩ = false := Lib.frozen_of_heap HN.out 6
      go_simp
      generalize hF : (((((((w3.setCell ⟨nb, 0, none⟩ (.string dm)).setCell ⟨nb, 1, none⟩ (.string tw)).setCell ⟨nb, 2, none⟩ (.slice a L.length c)).setCell ⟨nb, 3, none⟩ (.string hd)).setCell ⟨nb, 4, none⟩ (.string bd)).setCell ⟨nb, 5, none⟩ (.pointer none)).setCell ⟨nb, 6, none⟩ (.slice none 0 0)) = Wf
      have HNf : Hid (Wf.heap[nb]? = some (.cells #[.string dm, .string tw, .slice a L.length c, .string hd, .string bd, .pointer none, .slice none 0 0] 49 (0, 0))) := by show _ = _; rw [← hF]; exact seven_set HN.out
      have HBf : Hid (Below w1.heap.size w1 Wf) := by show Below _ _ _; rw [← hF]; exact HBc.out.trans (seven_below HNB.out)
      clear hF n0 n1 n2 n3 n4 n5 n6 f0 f1 f2 f3 f4 f5 f6 m0 m1 m2 m3 HN
      refine hK.out _ _ ⟨(Blk.below HM1.out HBf.out).cell 0, (Blk.below HM1.out HBf.out).cell 1, (Blk.below HM1.out HBf.out).cell 2, (Blk.below HM1.out HBf.out).cell 3⟩ (fun hHeld => ?_)
      clear hK K
      try simp only [Act.put, List.setIfInBounds_toArray, List.set_cons_zero, List.set_cons_succ]
      refine wpAnyH_done (by kernel_rfl) ?_ _
      clear hHeld
      have HBw : Hid (Below w.heap.size w Wf) := HB1'.out.trans (HBf.out.mono HB1'.out.size)
      have hnl : w.heap.size ≤ nb := Nat.le_trans HB1'.out.size HNB.out
      have HWr : Hid (Wr Wf.heap.size nb (.string dm) (.string tw) (.slice a L.length c) (.string hd) (.string bd) [] Wf) := ⟨.pointer none, .slice none 0 0, .inl rfl, HNf.out, World.ownsRow_nil _ _ _ _, (Array.getElem?_eq_some_iff.1 HNf.out).1, Nat.le_refl _⟩
      have HAL : Hid (Calls Tryz.prog 15 #[.pointer (some ⟨nb, 0, none⟩)] Wf fun e w' => e = .returned (.tuple #[]) ∧ Wr Wf.heap.size nb (.string dm) (.string tw) (.slice a L.length c) (.string hd) (.string bd) (bnText ⟨dm, tw, L, hd⟩ bd.data.toList) w' ∧ Besides Wf.heap.size nb Wf w') := wAll Wf.heap.size nb dm tw hd bd a c L lo Wf w HE.out HBw.out hnl HWr.out (fls_below HFL.out HBw.out (Nat.le_refl _)) (fun g hg => Nat.lt_of_lt_of_le (fls_own HFL.out g hg).2 hnl) HZ.out (by omega) HL20 HCD.out
      go_simp
      go_wp2_with fail
      refine HAL.out.mono ?_
      rintro e w4 ⟨rfl, h4, hb4⟩
      have HW4 : Hid (Wr Wf.heap.size nb (.string dm) (.string tw) (.slice a L.length c) (.string hd) (.string bd) (bnText ⟨dm, tw, L, hd⟩ bd.data.toList) w4) := h4
      have HB4 : Hid (Below w.heap.size w w4) := HBw.out.trans (hb4.below hnl HBw.out.size)
      clear h4 hb4 HAL HWr
      go_wp2_with fail
      refine (wString Wf.heap.size nb (.string dm) (.string tw) (.slice a L.length c) (.string hd) (.string bd) _ w4 HW4.out (text_ne _ _)).mono ?_
      rintro e w5 ⟨rfl, hb5⟩
      go_wp2
      go_ret
      exact ⟨ret_str (by rw [G.out, ← HBL.out]; rfl), HB4.out.trans (hb5.mono HBw.out.size)⟩
end Go.Proofs.YtlolnfpfipnfeaaGreatDoor
