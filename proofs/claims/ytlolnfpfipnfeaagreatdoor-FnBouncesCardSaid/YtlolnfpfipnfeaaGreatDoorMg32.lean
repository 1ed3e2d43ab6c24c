import Derived.Test.YtlolnfpfipnfeaaGreatDoorMg19
import Derived.Test.YtlolnfpfipnfeaaGreatDoorMg28
import Derived.Test.YtlolnfpfipnfeaaGreatDoorMg31
import Derived.Test.YtlolnfpfipnfeaaGreatDoorMg29
import Derived.Test.YtlolnfpfipnfeaaGreatDoorMg27
import Derived.Deep.RegionHeld3
namespace Go.Proofs.YtlolnfpfipnfeaaGreatDoor
open Go.ChangeShapes Go.WideShapes Go.ChangeAt Go.RowKit
open Pcs

theorem flat_step (L : List ByteArray) (k : Nat) (h : k < L.length) : flatL ((L.take (k + 1)).map (·.data.toList)) = flatL ((L.take k).map (·.data.toList)) ++ (L[k].data.toList ++ [13, 10]) := by
  rw [List.take_add_one, List.getElem?_eq_getElem h]; unfold flatL; simp only [List.map_append, List.flatten_append, Option.toList_some, List.map_cons, List.map_nil, List.flatten_cons, List.flatten_nil, List.append_nil]
theorem flat_cat {A : List UInt8} {O x : ByteArray} (h : O = mk A) : O ++ (x ++ (⟨#[13, 10]⟩ : ByteArray)) = mk (A ++ (x.data.toList ++ [13, 10])) := by
  rw [h, ← mk_data (mk A ++ _), ByteArray.data_append, ByteArray.data_append]; simp [mk]
theorem flat_stuff : ∀ (L : List ByteArray), (flatL (L.map (·.data.toList))).length ≤ (stuffL L).length
  | [] => Nat.le_refl _
  | x :: L => by
    have ih := flat_stuff L
    rw [List.map_cons, flatL_cons, show stuffL (x :: L) = stuffLine x.data.toList ++ stuffL L by simp [stuffL], List.length_append, List.length_append, List.length_append]
    have : (x.data.toList ++ [13, 10]).length ≤ (stuffLine x.data.toList).length := by unfold stuffLine; simp
    rw [List.length_append] at this; omega
theorem flat_len (s : ByteArray) (k : Nat) : (flatL ((((pieces ⟨#[13, 10]⟩ s).dropLast).take k).map (·.data.toList))).length ≤ 4 * s.size + 3 := by
  refine Nat.le_trans (flat_stuff _) ?_
  rw [List.dropLast_eq_take]; exact stuff_len s _ k

set_option maxHeartbeats 2000000 in
set_option maxRecDepth 100000 in
theorem specHeaders (s : ByteArray) (w : World) (hs : s.size ≤ 1048576) :
    Calls Tryz.prog 30 #[.string s] w fun e w' => e = .returned (.string (headB s)) ∧ Below w.heap.size w w' := by
  go_enter Tryz.func30, Tryz.ntmps30
  go_wp2_with fail
  refine (specLines2 s _ hs).mono ?_
  rintro e w1 ⟨⟨v, rfl, HS, HN⟩, hb1⟩
  cases hok : bodyOk s with
  | false =>
    have G : Hid (headB s = ⟨#[]⟩) := head_no hok
    obtain rfl := HN hok
    clear HS HN hok
    go_wp2
    refine wp_loop_rounds 1 ?_; rw [rounds_succ]
    go_wp2
    go_ret
    exact ⟨ret_str G.out.symm, hb1⟩
  | true =>
    have S1 := HS hok
    have hll : (pieces ⟨#[13, 10]⟩ s).dropLast.length ≤ s.size := by
      have := pieces_len ⟨#[13, 10]⟩ s
      rw [List.length_dropLast]; omega
    have G : Hid (∀ L, (pieces ⟨#[13, 10]⟩ s).dropLast = L → headB s = mk (hdrL (L.map (·.data.toList)))) := fun L hL => head_ok hok hL
    have HSZ : Hid (∀ x ∈ (pieces ⟨#[13, 10]⟩ s).dropLast, x.size ≤ 1048576) := fun x hx => Nat.le_trans (pieces_size (List.dropLast_subset _ hx)) hs
    have HLEN : Hid (∀ k, (flatL (((pieces ⟨#[13, 10]⟩ s).dropLast.take k).map (·.data.toList))).length ≤ 8388608) := fun k => by
      have := flat_len s k
      omega
    clear HS HN hok
    generalize hLE : (pieces ⟨#[13, 10]⟩ s).dropLast = L at *
    have HG : Hid (headB s = mk (hdrL (L.map (·.data.toList)))) := G.out L rfl
    clear G hLE
    rcases S1.cases with ⟨rfl, rfl⟩ | ⟨g, cap, rfl, A1⟩
    · go_wp2
      refine wp_loop_rounds 1 ?_; rw [rounds_succ]
      go_wp2
      go_ret
      exact ⟨ret_str HG.out.symm, hb1⟩
    · have hcap := A1.cap
      have hlc := A1.len
      unfold maxLen at hcap
      have CELL : Hid (∀ i (hi : i < L.length), w1.cell? ⟨g, i, none⟩ = some (.string L[i])) := A1.cell
      clear A1 S1
      go_wp2
      go_loopw [5, 15] (fun ov iv wr => ∃ (k : Nat) (O : ByteArray), k ≤ L.length ∧ iv = .int .i64 k ∧ ov = .string O ∧ Hid (O = mk (flatL ((L.take k).map (·.data.toList)))) ∧ Hid (∀ j (h : j < L.length), j < k → L[j].data.toList ≠ []) ∧ wr = w1) (fun _ iv _ => L.length - (intOf iv).toNat)
      case atStart => exact ⟨0, ⟨#[]⟩, Nat.zero_le _, rfl, rfl, rfl, fun j _ h => absurd h (Nat.not_lt_zero _), rfl⟩
      case round =>
        obtain ⟨k, O, hk, rfl, rfl, HO, HA, rfl⟩ := hrel
        have hO : O.size ≤ 8388608 := by
          have := HLEN.out k
          rw [HO.out, mk_size]; exact this
        by_cases hlt : k < L.length
        · have ec := CELL.out k hlt
          have hx := HSZ.out _ (List.getElem_mem hlt)
          have HST := flat_step L k hlt
          have HST2 : Hid (flatL ((L.take (k + 1)).map (·.data.toList)) = flatL ((L.take k).map (·.data.toList)) ++ (L[k].data.toList ++ [13, 10])) := HST
          have HB : Hid (L[k].data.toList ≠ [] → ∀ j (h : j < L.length), j < k + 1 → L[j].data.toList ≠ []) := by
            intro h1 j h hj
            rcases Nat.lt_succ_iff_lt_or_eq.1 hj with hj | rfl
            · exact HA.out j h hj
            · exact h1
          have HE : Hid (L[k].data.toList = [] → headB s = O) := fun h => by
            rw [HG.out, HO.out]
            congr 1
            rw [List.map_take]
            exact hdr_stop (fun j hj hjk => by rw [List.getElem_map]; exact HA.out j (by simpa using hj) hjk) (by simpa using hlt) (by rw [List.getElem_map]; exact h)
          clear HST
          generalize L[k] = x at *
          by_cases hx0 : x.size = 0
          · obtain rfl := empty_of hx0
            have G : Hid (O = headB s) := (HE.out rfl).symm
            clear HB HE HST2
            go_wp2
            go_ret
            exact ⟨ret_str G.out, hb1⟩
          · have hne : x.toList.isEmpty = false := list_ne2 hx0
            have HB2 : Hid (∀ j (h : j < L.length), j < k + 1 → L[j].data.toList ≠ []) := HB.out fun e => hx0 (by rw [Lib.size_eq, e]; rfl)
            clear HB HE
            go_wp2
            go_roundw
            case rel => exact ⟨k + 1, _, by omega, by go_num, rfl, by show _ = _; rw [HST2.out]; exact flat_cat HO.out, HB2, by first | rfl | trivial⟩
            case measure => simp [intOf]; omega
        · obtain rfl : k = L.length := by omega
          have HF : Hid (O = headB s) := by
            show _ = _
            have e := HO.out
            rw [List.take_length] at e
            rw [HG.out, e]
            congr 1
            exact (hdr_all fun j hj => by rw [List.getElem_map]; exact HA.out j (by simpa using hj) (by simpa using hj)).symm
          go_wp2
          go_ret
          exact ⟨ret_str HF.out, hb1⟩

set_option maxHeartbeats 2000000 in
set_option maxRecDepth 100000 in
theorem implHeaders (s : ByteArray) (w : World) (hl : LenIn w) (hs : s.size ≤ 1048576) :
    Calls Tryz.prog 35 #[.string s] w fun e w' => e = .returned (.string (headB s)) ∧ Below w.heap.size w w' := by
  have HL : Hid (LenIn w) := hl
  clear hl
  go_enter Tryz.func35, Tryz.ntmps35
  go_wp2_with fail
  refine (implBody s _ HL.out hs).mono ?_
  rintro e w1 ⟨rfl, hb1⟩
  cases hok : bodyOk s with
  | false =>
    have G : Hid (headB s = ⟨#[]⟩) := head_no hok
    clear hok
    go_wp2
    go_ret
    exact ⟨ret_str G.out.symm, hb1⟩
  | true =>
    obtain ⟨m, hm⟩ := len_below HL.out hb1
    have HM : Hid (w1.cell? ⟨0, 0, none⟩ = some (.int .i64 m)) := hm
    have HI : Hid ((Lib.index (13 :: 10 :: s.data.toList) [13, 10, 13, 10] = -1 ∧ headB s = s) ∨ ∃ i : Nat, Lib.index (13 :: 10 :: s.data.toList) [13, 10, 13, 10] = (i : Int) ∧ i ≤ s.size ∧ headB s = s.extract 0 i) := head_idx hok
    clear hm hok
    go_wp2_with fail
    refine (Any.strings_Index Tryz.lays143 _ ⟨#[13, 10, 13, 10]⟩ m _ ?_ HM.out).mono ?_
    · rw [ByteArray.size_append]; show 2 + s.size < _; omega
    rintro e w2 ⟨rfl, rfl⟩
    have e1 : ((⟨#[13, 10]⟩ : ByteArray) ++ s).data.toList = 13 :: 10 :: s.data.toList := by rw [ByteArray.data_append]; simp
    have e2 : (⟨#[13, 10, 13, 10]⟩ : ByteArray).data.toList = [13, 10, 13, 10] := rfl
    rw [e1, e2]
    clear e1 e2
    rcases HI.out with ⟨i1, i2⟩ | ⟨i, i1, i2, i3⟩
    · rw [i1]
      have G : Hid (headB s = s) := i2
      clear i1 i2 HI
      go_wp2
      go_ret
      exact ⟨ret_str G.out.symm, hb1⟩
    · rw [i1]
      have G : Hid (headB s = s.extract 0 i) := i3
      clear i1 i3 HI
      have i2' : (i : Int) ≤ s.size := by omega
      go_wp2
      go_ret
      exact ⟨ret_str G.out.symm, hb1⟩
end Go.Proofs.YtlolnfpfipnfeaaGreatDoor
namespace Go.Proofs.YtlolnfpfipnfeaaGreatDoor
open Go.ChangeShapes Go.WideShapes Go.ChangeAt Go.RowKit
open Pcs

/-- none of a failure's texts is too long -/
structure FlZ (f : Fl) : Prop where
  rc : f.rc.size ≤ 1048576
  st : f.st.size ≤ 1048576
  tx : f.tx.size ≤ 1048576
structure BnZ (b : Bn) : Prop where
  he : b.he.size ≤ 1048576
  tw : b.tw.size ≤ 1048576
  hd : b.hd.size ≤ 1048576
  fs : ∀ f ∈ b.fs, FlZ f
  n : b.fs.length ≤ 1048576

set_option maxHeartbeats 4000000 in
set_option maxRecDepth 100000 in
theorem implFailure (f : Fl) (w : World) (he : Env w) (hz : FlZ f) :
    Calls Tryz.prog 34 #[flV f] w fun e w' => e = .returned (.bool (flOk f)) ∧ Below w.heap.size w w' := by
  obtain ⟨rc, st, cd, tx⟩ := f
  obtain ⟨z1, z2, z4⟩ := hz
  dsimp only at z1 z2 z4
  have HF : Hid (flOk ⟨rc, st, cd, tx⟩ = (addrOk rc && (statOk st && (codeOk cd && decide (cleanB tx = tx))))) := rfl
  generalize flOk ⟨rc, st, cd, tx⟩ = R at *
  obtain ⟨ct, hct⟩ : ∃ ct, cleanB tx = ct := ⟨_, rfl⟩
  have HCT : Hid (cleanB tx = ct) := hct
  clear hct
  unfold flV
  dsimp only
  have HE0 : Hid (Env w) := he
  clear he
  go_enter Tryz.func34, Tryz.ntmps34
  go_upto_region 1 with fail
  generalize hW : w.alloc _ = W
  have HM : Hid (Blk w.heap.size #[.string rc, .string st, .int .i64 cd, .string tx] W) := by show Blk _ _ _; rw [← hW]; exact Blk.new _ _ _
  have HB0 : Hid (Below w.heap.size w W) := by show Below _ _ _; rw [← hW]; exact below1 _ _
  have HE : Hid (Env W) := HE0.out.below HB0.out
  have HZ : Hid (w.heap.size ≤ W.heap.size) := HB0.out.size
  have k0 : W.cell? ⟨w.heap.size, 0, none⟩ = some (.string rc) := HM.out.cell 0
  have k1 : W.cell? ⟨w.heap.size, 1, none⟩ = some (.string st) := HM.out.cell 1
  have k2 : W.cell? ⟨w.heap.size, 2, none⟩ = some (.int .i64 cd) := HM.out.cell 2
  have k3 : W.cell? ⟨w.heap.size, 3, none⟩ = some (.string tx) := HM.out.cell 3
  have hlt := HM.out.lt
  clear hW
  cases h1 : addrOk rc
  · have C1 : Hid (∀ wx : World, Env wx → Calls Tryz.prog 33 #[.string rc] wx fun e w' => e = .returned (.bool false) ∧ Below wx.heap.size wx w') := fun wx he => by have := implAddress rc wx he.len z1; rw [h1] at this; exact this
    have G : Hid (R = false) := by show _ = _; rw [HF.out, h1]; rfl
    refine wp_region_held_drew (S := fun w' => w'.cell? ⟨w.heap.size, 0, none⟩ = some (.string rc) ∧ w'.cell? ⟨w.heap.size, 1, none⟩ = some (.string st) ∧ w'.cell? ⟨w.heap.size, 2, none⟩ = some (.int .i64 cd) ∧ w'.cell? ⟨w.heap.size, 3, none⟩ = some (.string tx)) (by kernel_rfl) ⟨by simpa using k0, by simpa using k1, by simpa using k2, by simpa using k3⟩ (fun hHeld => ?_)
    have HBc : Hid (Below W.heap.size W W.drew) := (Below.refl W.heap.size W).drew
    generalize W.drew = wd at hHeld HBc ⊢
    refine wpAnyH_take (i := 0) (oi := { dst := some 3, op := Op.fieldAddr 31 (Operand.tmp 1) 0, type := 0, pos := "l5_bounce.go:117", after := #[], guard := none }) (v := .pointer (some ⟨w.heap.size, 0, none⟩)) rfl (by kernel_rfl) (by kernel_rfl) (by kernel_rfl) (fun _ _ _ h => h) (Or.inl ⟨by rfl, fun wz hSw => ?_⟩) hHeld ?_
    · obtain ⟨e0, e1, e2, e3⟩ := hSw
      clear hHeld
      go_simp
    simp only [Act.put, List.setIfInBounds_toArray, List.set_cons_zero, List.set_cons_succ]
    refine wpAnyH_take (i := 1) (oi := { dst := some 4, op := Op.load 9 (Operand.tmp 3), type := 9, pos := "l5_bounce.go:117", after := #[{ on := 0, ground := Ground.data }], guard := none }) (v := .string rc) rfl (by kernel_rfl) (by kernel_rfl) (by kernel_rfl) (fun _ _ _ h => h) (Or.inl ⟨by rfl, fun wz hSw => ?_⟩) hHeld ?_
    · obtain ⟨e0, e1, e2, e3⟩ := hSw
      clear hHeld
      go_simp
    simp only [Act.put, List.setIfInBounds_toArray, List.set_cons_zero, List.set_cons_succ]
    refine wpAnyH_ready (rs := [2]) (by kernel_rfl) (by simp) ?_
    refine AllReadyH.cons (o := { dst := some 5, op := Op.call { callee := Callee.value (Operand.func 33), args := #[Operand.tmp 4], argTypes := #[9] }, type := 4, pos := "l5_bounce.go:117", after := #[{ on := 1, ground := Ground.data }], guard := none }) rfl (fun K hK => ?_) AllReadyH.nil
    go_simp
    go_at_call 33
    refine (C1.out _ (HE.out.below HBc.out)).mono ?_
    rintro e wA ⟨rfl, hb⟩
    have HBc : Hid (Below W.heap.size W wA) := HBc.out.trans (hb.mono HBc.out.size)
    refine hK.out _ _ ⟨(Blk.below HM.out HBc.out).cell 0, (Blk.below HM.out HBc.out).cell 1, (Blk.below HM.out HBc.out).cell 2, (Blk.below HM.out HBc.out).cell 3⟩ (fun hHeld => ?_)
    clear hK K hb
    try simp only [Act.put, List.setIfInBounds_toArray, List.set_cons_zero, List.set_cons_succ]
    refine wpAnyH_take (i := 3) (oi := { dst := some 6, op := Op.move (Operand.tmp 5), type := 4, pos := "l5_bounce.go:117", after := #[{ on := 2, ground := Ground.data }, { on := 2, ground := Ground.chain }], guard := none }) (v := .bool false) rfl (by kernel_rfl) (by kernel_rfl) (by kernel_rfl) (fun _ _ _ h => h) (Or.inl ⟨by rfl, fun wz hSw => ?_⟩) hHeld ?_
    · obtain ⟨e0, e1, e2, e3⟩ := hSw
      clear hHeld
      go_simp
    simp only [Act.put, List.setIfInBounds_toArray, List.set_cons_zero, List.set_cons_succ]
    refine wpAnyH_take (i := 4) (oi := { dst := some 7, op := Op.fieldAddr 31 (Operand.tmp 1) 1, type := 0, pos := "l5_bounce.go:117", after := #[{ on := 3, ground := Ground.guard }], guard := some (3, true) }) (v := undef) rfl (by kernel_rfl) (by kernel_rfl) (by kernel_rfl) (fun _ _ _ h => h) (Or.inr ⟨by rfl, rfl⟩) hHeld ?_
    simp only [Act.put, List.setIfInBounds_toArray, List.set_cons_zero, List.set_cons_succ]
    refine wpAnyH_take (i := 5) (oi := { dst := some 8, op := Op.load 9 (Operand.tmp 7), type := 9, pos := "l5_bounce.go:117", after := #[{ on := 4, ground := Ground.data }, { on := 3, ground := Ground.guard }], guard := some (3, true) }) (v := undef) rfl (by kernel_rfl) (by kernel_rfl) (by kernel_rfl) (fun _ _ _ h => h) (Or.inr ⟨by rfl, rfl⟩) hHeld ?_
    simp only [Act.put, List.setIfInBounds_toArray, List.set_cons_zero, List.set_cons_succ]
    refine wpAnyH_take (i := 6) (oi := { dst := some 9, op := Op.call { callee := Callee.value (Operand.func 58), args := #[Operand.tmp 8], argTypes := #[9] }, type := 4, pos := "l5_bounce.go:117", after := #[{ on := 5, ground := Ground.data }, { on := 3, ground := Ground.chain }, { on := 3, ground := Ground.guard }], guard := some (3, true) }) (v := undef) rfl (by kernel_rfl) (by kernel_rfl) (by kernel_rfl) (fun _ _ _ h => h) (Or.inr ⟨by rfl, rfl⟩) hHeld ?_
    simp only [Act.put, List.setIfInBounds_toArray, List.set_cons_zero, List.set_cons_succ]
    refine wpAnyH_take (i := 7) (oi := { dst := some 10, op := Op.pick (Operand.tmp 6) (Operand.tmp 9) (Operand.const (Value.bool false)), type := 4, pos := "l5_bounce.go:117", after := #[{ on := 3, ground := Ground.data }, { on := 6, ground := Ground.data }], guard := none }) (v := .bool false) rfl (by kernel_rfl) (by kernel_rfl) (by kernel_rfl) (fun _ _ _ h => h) (Or.inl ⟨by rfl, fun wz hSw => ?_⟩) hHeld ?_
    · obtain ⟨e0, e1, e2, e3⟩ := hSw
      clear hHeld
      go_simp
    simp only [Act.put, List.setIfInBounds_toArray, List.set_cons_zero, List.set_cons_succ]
    refine wpAnyH_take (i := 8) (oi := { dst := some 11, op := Op.move (Operand.tmp 10), type := 4, pos := "l5_bounce.go:117", after := #[{ on := 7, ground := Ground.data }, { on := 6, ground := Ground.chain }], guard := none }) (v := .bool false) rfl (by kernel_rfl) (by kernel_rfl) (by kernel_rfl) (fun _ _ _ h => h) (Or.inl ⟨by rfl, fun wz hSw => ?_⟩) hHeld ?_
    · obtain ⟨e0, e1, e2, e3⟩ := hSw
      clear hHeld
      go_simp
    simp only [Act.put, List.setIfInBounds_toArray, List.set_cons_zero, List.set_cons_succ]
    refine wpAnyH_take (i := 9) (oi := { dst := some 12, op := Op.fieldAddr 31 (Operand.tmp 1) 2, type := 0, pos := "l5_bounce.go:117", after := #[{ on := 8, ground := Ground.guard }], guard := some (8, true) }) (v := undef) rfl (by kernel_rfl) (by kernel_rfl) (by kernel_rfl) (fun _ _ _ h => h) (Or.inr ⟨by rfl, rfl⟩) hHeld ?_
    simp only [Act.put, List.setIfInBounds_toArray, List.set_cons_zero, List.set_cons_succ]
    refine wpAnyH_take (i := 10) (oi := { dst := some 13, op := Op.load 3 (Operand.tmp 12), type := 3, pos := "l5_bounce.go:117", after := #[{ on := 9, ground := Ground.data }, { on := 8, ground := Ground.guard }], guard := some (8, true) }) (v := undef) rfl (by kernel_rfl) (by kernel_rfl) (by kernel_rfl) (fun _ _ _ h => h) (Or.inr ⟨by rfl, rfl⟩) hHeld ?_
    simp only [Act.put, List.setIfInBounds_toArray, List.set_cons_zero, List.set_cons_succ]
    refine wpAnyH_take (i := 11) (oi := { dst := some 14, op := Op.call { callee := Callee.value (Operand.func 59), args := #[Operand.tmp 13], argTypes := #[3] }, type := 4, pos := "l5_bounce.go:117", after := #[{ on := 10, ground := Ground.data }, { on := 8, ground := Ground.chain }, { on := 8, ground := Ground.guard }], guard := some (8, true) }) (v := undef) rfl (by kernel_rfl) (by kernel_rfl) (by kernel_rfl) (fun _ _ _ h => h) (Or.inr ⟨by rfl, rfl⟩) hHeld ?_
    simp only [Act.put, List.setIfInBounds_toArray, List.set_cons_zero, List.set_cons_succ]
    refine wpAnyH_take (i := 12) (oi := { dst := some 15, op := Op.pick (Operand.tmp 11) (Operand.tmp 14) (Operand.const (Value.bool false)), type := 4, pos := "l5_bounce.go:117", after := #[{ on := 8, ground := Ground.data }, { on := 11, ground := Ground.data }], guard := none }) (v := .bool false) rfl (by kernel_rfl) (by kernel_rfl) (by kernel_rfl) (fun _ _ _ h => h) (Or.inl ⟨by rfl, fun wz hSw => ?_⟩) hHeld ?_
    · obtain ⟨e0, e1, e2, e3⟩ := hSw
      clear hHeld
      go_simp
    simp only [Act.put, List.setIfInBounds_toArray, List.set_cons_zero, List.set_cons_succ]
    refine wpAnyH_take (i := 13) (oi := { dst := some 16, op := Op.move (Operand.tmp 15), type := 4, pos := "l5_bounce.go:117", after := #[{ on := 12, ground := Ground.data }, { on := 11, ground := Ground.chain }], guard := none }) (v := .bool false) rfl (by kernel_rfl) (by kernel_rfl) (by kernel_rfl) (fun _ _ _ h => h) (Or.inl ⟨by rfl, fun wz hSw => ?_⟩) hHeld ?_
    · obtain ⟨e0, e1, e2, e3⟩ := hSw
      clear hHeld
      go_simp
    simp only [Act.put, List.setIfInBounds_toArray, List.set_cons_zero, List.set_cons_succ]
    refine wpAnyH_take (i := 14) (oi := { dst := some 17, op := Op.fieldAddr 31 (Operand.tmp 1) 3, type := 0, pos := "l5_bounce.go:117", after := #[{ on := 13, ground := Ground.guard }], guard := some (13, true) }) (v := undef) rfl (by kernel_rfl) (by kernel_rfl) (by kernel_rfl) (fun _ _ _ h => h) (Or.inr ⟨by rfl, rfl⟩) hHeld ?_
    simp only [Act.put, List.setIfInBounds_toArray, List.set_cons_zero, List.set_cons_succ]
    refine wpAnyH_take (i := 15) (oi := { dst := some 18, op := Op.load 9 (Operand.tmp 17), type := 9, pos := "l5_bounce.go:117", after := #[{ on := 14, ground := Ground.data }, { on := 13, ground := Ground.guard }], guard := some (13, true) }) (v := undef) rfl (by kernel_rfl) (by kernel_rfl) (by kernel_rfl) (fun _ _ _ h => h) (Or.inr ⟨by rfl, rfl⟩) hHeld ?_
    simp only [Act.put, List.setIfInBounds_toArray, List.set_cons_zero, List.set_cons_succ]
    refine wpAnyH_take (i := 16) (oi := { dst := some 19, op := Op.call { callee := Callee.value (Operand.func 60), args := #[Operand.tmp 18], argTypes := #[9] }, type := 9, pos := "l5_bounce.go:117", after := #[{ on := 15, ground := Ground.data }, { on := 13, ground := Ground.chain }, { on := 13, ground := Ground.guard }], guard := some (13, true) }) (v := undef) rfl (by kernel_rfl) (by kernel_rfl) (by kernel_rfl) (fun _ _ _ h => h) (Or.inr ⟨by rfl, rfl⟩) hHeld ?_
    simp only [Act.put, List.setIfInBounds_toArray, List.set_cons_zero, List.set_cons_succ]
    refine wpAnyH_take (i := 17) (oi := { dst := some 20, op := Op.fieldAddr 31 (Operand.tmp 1) 3, type := 0, pos := "l5_bounce.go:117", after := #[{ on := 13, ground := Ground.guard }], guard := some (13, true) }) (v := undef) rfl (by kernel_rfl) (by kernel_rfl) (by kernel_rfl) (fun _ _ _ h => h) (Or.inr ⟨by rfl, rfl⟩) hHeld ?_
    simp only [Act.put, List.setIfInBounds_toArray, List.set_cons_zero, List.set_cons_succ]
    refine wpAnyH_take (i := 18) (oi := { dst := some 21, op := Op.load 9 (Operand.tmp 20), type := 9, pos := "l5_bounce.go:117", after := #[{ on := 17, ground := Ground.data }, { on := 13, ground := Ground.guard }], guard := some (13, true) }) (v := undef) rfl (by kernel_rfl) (by kernel_rfl) (by kernel_rfl) (fun _ _ _ h => h) (Or.inr ⟨by rfl, rfl⟩) hHeld ?_
    simp only [Act.put, List.setIfInBounds_toArray, List.set_cons_zero, List.set_cons_succ]
    refine wpAnyH_take (i := 19) (oi := { dst := some 22, op := Op.binOp BinOp.eql 9 (Operand.tmp 19) (Operand.tmp 21) 9, type := 4, pos := "l5_bounce.go:117", after := #[{ on := 16, ground := Ground.data }, { on := 18, ground := Ground.data }, { on := 13, ground := Ground.guard }], guard := some (13, true) }) (v := undef) rfl (by kernel_rfl) (by kernel_rfl) (by kernel_rfl) (fun _ _ _ h => h) (Or.inr ⟨by rfl, rfl⟩) hHeld ?_
    simp only [Act.put, List.setIfInBounds_toArray, List.set_cons_zero, List.set_cons_succ]
    refine wpAnyH_take (i := 20) (oi := { dst := some 23, op := Op.pick (Operand.tmp 16) (Operand.tmp 22) (Operand.const (Value.bool false)), type := 4, pos := "l5_bounce.go:117", after := #[{ on := 13, ground := Ground.data }, { on := 19, ground := Ground.data }], guard := none }) (v := .bool false) rfl (by kernel_rfl) (by kernel_rfl) (by kernel_rfl) (fun _ _ _ h => h) (Or.inl ⟨by rfl, fun wz hSw => ?_⟩) hHeld ?_
    · obtain ⟨e0, e1, e2, e3⟩ := hSw
      clear hHeld
      go_simp
    simp only [Act.put, List.setIfInBounds_toArray, List.set_cons_zero, List.set_cons_succ]
    refine wpAnyH_take (i := 21) (oi := { dst := some 2, op := Op.assign (Operand.tmp 23), type := 4, pos := "l5_bounce.go:117", after := #[{ on := 20, ground := Ground.data }, { on := 16, ground := Ground.chain }, { on := 0, ground := Ground.phase }, { on := 1, ground := Ground.phase }, { on := 2, ground := Ground.phase }, { on := 3, ground := Ground.phase }, { on := 4, ground := Ground.phase }, { on := 5, ground := Ground.phase }, { on := 6, ground := Ground.phase }, { on := 7, ground := Ground.phase }, { on := 8, ground := Ground.phase }, { on := 9, ground := Ground.phase }, { on := 10, ground := Ground.phase }, { on := 11, ground := Ground.phase }, { on := 12, ground := Ground.phase }, { on := 13, ground := Ground.phase }, { on := 14, ground := Ground.phase }, { on := 15, ground := Ground.phase }, { on := 16, ground := Ground.phase }, { on := 17, ground := Ground.phase }, { on := 18, ground := Ground.phase }, { on := 19, ground := Ground.phase }, { on := 20, ground := Ground.phase }], guard := none }) (v := .bool false) rfl (by kernel_rfl) (by kernel_rfl) (by kernel_rfl) (fun _ _ _ h => h) (Or.inl ⟨by rfl, fun wz hSw => ?_⟩) hHeld ?_
    · obtain ⟨e0, e1, e2, e3⟩ := hSw
      clear hHeld
      go_simp
    simp only [Act.put, List.setIfInBounds_toArray, List.set_cons_zero, List.set_cons_succ]
    refine wpAnyH_done (by kernel_rfl) ?_ _
    go_simp
    go_wp2
    go_ret
    exact ⟨ret_bool G.out.symm, HB0.out.trans (HBc.out.mono HZ.out)⟩
  · cases h2 : statOk st
    · have C1 : Hid (∀ wx : World, Env wx → Calls Tryz.prog 33 #[.string rc] wx fun e w' => e = .returned (.bool true) ∧ Below wx.heap.size wx w') := fun wx he => by have := implAddress rc wx he.len z1; rw [h1] at this; exact this
      have C2 : Hid (∀ wx : World, Env wx → Calls Tryz.prog 58 #[.string st] wx fun e w' => e = .returned (.bool false) ∧ Below wx.heap.size wx w') := fun wx he => by have := implStatus st wx he.len z2; rw [h2] at this; exact this
      have G : Hid (R = false) := by show _ = _; rw [HF.out, h1, h2]; rfl
      refine wp_region_held_drew (S := fun w' => w'.cell? ⟨w.heap.size, 0, none⟩ = some (.string rc) ∧ w'.cell? ⟨w.heap.size, 1, none⟩ = some (.string st) ∧ w'.cell? ⟨w.heap.size, 2, none⟩ = some (.int .i64 cd) ∧ w'.cell? ⟨w.heap.size, 3, none⟩ = some (.string tx)) (by kernel_rfl) ⟨by simpa using k0, by simpa using k1, by simpa using k2, by simpa using k3⟩ (fun hHeld => ?_)
      have HBc : Hid (Below W.heap.size W W.drew) := (Below.refl W.heap.size W).drew
      generalize W.drew = wd at hHeld HBc ⊢
      refine wpAnyH_take (i := 0) (oi := { dst := some 3, op := Op.fieldAddr 31 (Operand.tmp 1) 0, type := 0, pos := "l5_bounce.go:117", after := #[], guard := none }) (v := .pointer (some ⟨w.heap.size, 0, none⟩)) rfl (by kernel_rfl) (by kernel_rfl) (by kernel_rfl) (fun _ _ _ h => h) (Or.inl ⟨by rfl, fun wz hSw => ?_⟩) hHeld ?_
      · obtain ⟨e0, e1, e2, e3⟩ := hSw
        clear hHeld
        go_simp
      simp only [Act.put, List.setIfInBounds_toArray, List.set_cons_zero, List.set_cons_succ]
      refine wpAnyH_take (i := 1) (oi := { dst := some 4, op := Op.load 9 (Operand.tmp 3), type := 9, pos := "l5_bounce.go:117", after := #[{ on := 0, ground := Ground.data }], guard := none }) (v := .string rc) rfl (by kernel_rfl) (by kernel_rfl) (by kernel_rfl) (fun _ _ _ h => h) (Or.inl ⟨by rfl, fun wz hSw => ?_⟩) hHeld ?_
      · obtain ⟨e0, e1, e2, e3⟩ := hSw
        clear hHeld
        go_simp
      simp only [Act.put, List.setIfInBounds_toArray, List.set_cons_zero, List.set_cons_succ]
      refine wpAnyH_ready (rs := [2]) (by kernel_rfl) (by simp) ?_
      refine AllReadyH.cons (o := { dst := some 5, op := Op.call { callee := Callee.value (Operand.func 33), args := #[Operand.tmp 4], argTypes := #[9] }, type := 4, pos := "l5_bounce.go:117", after := #[{ on := 1, ground := Ground.data }], guard := none }) rfl (fun K hK => ?_) AllReadyH.nil
      go_simp
      go_at_call 33
      refine (C1.out _ (HE.out.below HBc.out)).mono ?_
      rintro e wA ⟨rfl, hb⟩
      have HBc : Hid (Below W.heap.size W wA) := HBc.out.trans (hb.mono HBc.out.size)
      refine hK.out _ _ ⟨(Blk.below HM.out HBc.out).cell 0, (Blk.below HM.out HBc.out).cell 1, (Blk.below HM.out HBc.out).cell 2, (Blk.below HM.out HBc.out).cell 3⟩ (fun hHeld => ?_)
      clear hK K hb
      try simp only [Act.put, List.setIfInBounds_toArray, List.set_cons_zero, List.set_cons_succ]
      refine wpAnyH_take (i := 3) (oi := { dst := some 6, op := Op.move (Operand.tmp 5), type := 4, pos := "l5_bounce.go:117", after := #[{ on := 2, ground := Ground.data }, { on := 2, ground := Ground.chain }], guard := none }) (v := .bool true) rfl (by kernel_rfl) (by kernel_rfl) (by kernel_rfl) (fun _ _ _ h => h) (Or.inl ⟨by rfl, fun wz hSw => ?_⟩) hHeld ?_
      · obtain ⟨e0, e1, e2, e3⟩ := hSw
        clear hHeld
        go_simp
      simp only [Act.put, List.setIfInBounds_toArray, List.set_cons_zero, List.set_cons_succ]
      refine wpAnyH_take (i := 4) (oi := { dst := some 7, op := Op.fieldAddr 31 (Operand.tmp 1) 1, type := 0, pos := "l5_bounce.go:117", after := #[{ on := 3, ground := Ground.guard }], guard := some (3, true) }) (v := .pointer (some ⟨w.heap.size, 1, none⟩)) rfl (by kernel_rfl) (by kernel_rfl) (by kernel_rfl) (fun _ _ _ h => h) (Or.inl ⟨by rfl, fun wz hSw => ?_⟩) hHeld ?_
      · obtain ⟨e0, e1, e2, e3⟩ := hSw
        clear hHeld
        go_simp
      simp only [Act.put, List.setIfInBounds_toArray, List.set_cons_zero, List.set_cons_succ]
      refine wpAnyH_take (i := 5) (oi := { dst := some 8, op := Op.load 9 (Operand.tmp 7), type := 9, pos := "l5_bounce.go:117", after := #[{ on := 4, ground := Ground.data }, { on := 3, ground := Ground.guard }], guard := some (3, true) }) (v := .string st) rfl (by kernel_rfl) (by kernel_rfl) (by kernel_rfl) (fun _ _ _ h => h) (Or.inl ⟨by rfl, fun wz hSw => ?_⟩) hHeld ?_
      · obtain ⟨e0, e1, e2, e3⟩ := hSw
        clear hHeld
        go_simp
      simp only [Act.put, List.setIfInBounds_toArray, List.set_cons_zero, List.set_cons_succ]
      refine wpAnyH_ready (rs := [6]) (by kernel_rfl) (by simp) ?_
      refine AllReadyH.cons (o := { dst := some 9, op := Op.call { callee := Callee.value (Operand.func 58), args := #[Operand.tmp 8], argTypes := #[9] }, type := 4, pos := "l5_bounce.go:117", after := #[{ on := 5, ground := Ground.data }, { on := 3, ground := Ground.chain }, { on := 3, ground := Ground.guard }], guard := some (3, true) }) rfl (fun K hK => ?_) AllReadyH.nil
      go_simp
      go_at_call 58
      refine (C2.out _ (HE.out.below HBc.out)).mono ?_
      rintro e wB ⟨rfl, hb⟩
      have HBc : Hid (Below W.heap.size W wB) := HBc.out.trans (hb.mono HBc.out.size)
      refine hK.out _ _ ⟨(Blk.below HM.out HBc.out).cell 0, (Blk.below HM.out HBc.out).cell 1, (Blk.below HM.out HBc.out).cell 2, (Blk.below HM.out HBc.out).cell 3⟩ (fun hHeld => ?_)
      clear hK K hb
      try simp only [Act.put, List.setIfInBounds_toArray, List.set_cons_zero, List.set_cons_succ]
      refine wpAnyH_take (i := 7) (oi := { dst := some 10, op := Op.pick (Operand.tmp 6) (Operand.tmp 9) (Operand.const (Value.bool false)), type := 4, pos := "l5_bounce.go:117", after := #[{ on := 3, ground := Ground.data }, { on := 6, ground := Ground.data }], guard := none }) (v := .bool false) rfl (by kernel_rfl) (by kernel_rfl) (by kernel_rfl) (fun _ _ _ h => h) (Or.inl ⟨by rfl, fun wz hSw => ?_⟩) hHeld ?_
      · obtain ⟨e0, e1, e2, e3⟩ := hSw
        clear hHeld
        go_simp
      simp only [Act.put, List.setIfInBounds_toArray, List.set_cons_zero, List.set_cons_succ]
      refine wpAnyH_take (i := 8) (oi := { dst := some 11, op := Op.move (Operand.tmp 10), type := 4, pos := "l5_bounce.go:117", after := #[{ on := 7, ground := Ground.data }, { on := 6, ground := Ground.chain }], guard := none }) (v := .bool false) rfl (by kernel_rfl) (by kernel_rfl) (by kernel_rfl) (fun _ _ _ h => h) (Or.inl ⟨by rfl, fun wz hSw => ?_⟩) hHeld ?_
      · obtain ⟨e0, e1, e2, e3⟩ := hSw
        clear hHeld
        go_simp
      simp only [Act.put, List.setIfInBounds_toArray, List.set_cons_zero, List.set_cons_succ]
      refine wpAnyH_take (i := 9) (oi := { dst := some 12, op := Op.fieldAddr 31 (Operand.tmp 1) 2, type := 0, pos := "l5_bounce.go:117", after := #[{ on := 8, ground := Ground.guard }], guard := some (8, true) }) (v := undef) rfl (by kernel_rfl) (by kernel_rfl) (by kernel_rfl) (fun _ _ _ h => h) (Or.inr ⟨by rfl, rfl⟩) hHeld ?_
      simp only [Act.put, List.setIfInBounds_toArray, List.set_cons_zero, List.set_cons_succ]
      refine wpAnyH_take (i := 10) (oi := { dst := some 13, op := Op.load 3 (Operand.tmp 12), type := 3, pos := "l5_bounce.go:117", after := #[{ on := 9, ground := Ground.data }, { on := 8, ground := Ground.guard }], guard := some (8, true) }) (v := undef) rfl (by kernel_rfl) (by kernel_rfl) (by kernel_rfl) (fun _ _ _ h => h) (Or.inr ⟨by rfl, rfl⟩) hHeld ?_
      simp only [Act.put, List.setIfInBounds_toArray, List.set_cons_zero, List.set_cons_succ]
      refine wpAnyH_take (i := 11) (oi := { dst := some 14, op := Op.call { callee := Callee.value (Operand.func 59), args := #[Operand.tmp 13], argTypes := #[3] }, type := 4, pos := "l5_bounce.go:117", after := #[{ on := 10, ground := Ground.data }, { on := 8, ground := Ground.chain }, { on := 8, ground := Ground.guard }], guard := some (8, true) }) (v := undef) rfl (by kernel_rfl) (by kernel_rfl) (by kernel_rfl) (fun _ _ _ h => h) (Or.inr ⟨by rfl, rfl⟩) hHeld ?_
      simp only [Act.put, List.setIfInBounds_toArray, List.set_cons_zero, List.set_cons_succ]
      refine wpAnyH_take (i := 12) (oi := { dst := some 15, op := Op.pick (Operand.tmp 11) (Operand.tmp 14) (Operand.const (Value.bool false)), type := 4, pos := "l5_bounce.go:117", after := #[{ on := 8, ground := Ground.data }, { on := 11, ground := Ground.data }], guard := none }) (v := .bool false) rfl (by kernel_rfl) (by kernel_rfl) (by kernel_rfl) (fun _ _ _ h => h) (Or.inl ⟨by rfl, fun wz hSw => ?_⟩) hHeld ?_
      · obtain ⟨e0, e1, e2, e3⟩ := hSw
        clear hHeld
        go_simp
      simp only [Act.put, List.setIfInBounds_toArray, List.set_cons_zero, List.set_cons_succ]
      refine wpAnyH_take (i := 13) (oi := { dst := some 16, op := Op.move (Operand.tmp 15), type := 4, pos := "l5_bounce.go:117", after := #[{ on := 12, ground := Ground.data }, { on := 11, ground := Ground.chain }], guard := none }) (v := .bool false) rfl (by kernel_rfl) (by kernel_rfl) (by kernel_rfl) (fun _ _ _ h => h) (Or.inl ⟨by rfl, fun wz hSw => ?_⟩) hHeld ?_
      · obtain ⟨e0, e1, e2, e3⟩ := hSw
        clear hHeld
        go_simp
      simp only [Act.put, List.setIfInBounds_toArray, List.set_cons_zero, List.set_cons_succ]
      refine wpAnyH_take (i := 14) (oi := { dst := some 17, op := Op.fieldAddr 31 (Operand.tmp 1) 3, type := 0, pos := "l5_bounce.go:117", after := #[{ on := 13, ground := Ground.guard }], guard := some (13, true) }) (v := undef) rfl (by kernel_rfl) (by kernel_rfl) (by kernel_rfl) (fun _ _ _ h => h) (Or.inr ⟨by rfl, rfl⟩) hHeld ?_
      simp only [Act.put, List.setIfInBounds_toArray, List.set_cons_zero, List.set_cons_succ]
      refine wpAnyH_take (i := 15) (oi := { dst := some 18, op := Op.load 9 (Operand.tmp 17), type := 9, pos := "l5_bounce.go:117", after := #[{ on := 14, ground := Ground.data }, { on := 13, ground := Ground.guard }], guard := some (13, true) }) (v := undef) rfl (by kernel_rfl) (by kernel_rfl) (by kernel_rfl) (fun _ _ _ h => h) (Or.inr ⟨by rfl, rfl⟩) hHeld ?_
      simp only [Act.put, List.setIfInBounds_toArray, List.set_cons_zero, List.set_cons_succ]
      refine wpAnyH_take (i := 16) (oi := { dst := some 19, op := Op.call { callee := Callee.value (Operand.func 60), args := #[Operand.tmp 18], argTypes := #[9] }, type := 9, pos := "l5_bounce.go:117", after := #[{ on := 15, ground := Ground.data }, { on := 13, ground := Ground.chain }, { on := 13, ground := Ground.guard }], guard := some (13, true) }) (v := undef) rfl (by kernel_rfl) (by kernel_rfl) (by kernel_rfl) (fun _ _ _ h => h) (Or.inr ⟨by rfl, rfl⟩) hHeld ?_
      simp only [Act.put, List.setIfInBounds_toArray, List.set_cons_zero, List.set_cons_succ]
      refine wpAnyH_take (i := 17) (oi := { dst := some 20, op := Op.fieldAddr 31 (Operand.tmp 1) 3, type := 0, pos := "l5_bounce.go:117", after := #[{ on := 13, ground := Ground.guard }], guard := some (13, true) }) (v := undef) rfl (by kernel_rfl) (by kernel_rfl) (by kernel_rfl) (fun _ _ _ h => h) (Or.inr ⟨by rfl, rfl⟩) hHeld ?_
      simp only [Act.put, List.setIfInBounds_toArray, List.set_cons_zero, List.set_cons_succ]
      refine wpAnyH_take (i := 18) (oi := { dst := some 21, op := Op.load 9 (Operand.tmp 20), type := 9, pos := "l5_bounce.go:117", after := #[{ on := 17, ground := Ground.data }, { on := 13, ground := Ground.guard }], guard := some (13, true) }) (v := undef) rfl (by kernel_rfl) (by kernel_rfl) (by kernel_rfl) (fun _ _ _ h => h) (Or.inr ⟨by rfl, rfl⟩) hHeld ?_
      simp only [Act.put, List.setIfInBounds_toArray, List.set_cons_zero, List.set_cons_succ]
      refine wpAnyH_take (i := 19) (oi := { dst := some 22, op := Op.binOp BinOp.eql 9 (Operand.tmp 19) (Operand.tmp 21) 9, type := 4, pos := "l5_bounce.go:117", after := #[{ on := 16, ground := Ground.data }, { on := 18, ground := Ground.data }, { on := 13, ground := Ground.guard }], guard := some (13, true) }) (v := undef) rfl (by kernel_rfl) (by kernel_rfl) (by kernel_rfl) (fun _ _ _ h => h) (Or.inr ⟨by rfl, rfl⟩) hHeld ?_
      simp only [Act.put, List.setIfInBounds_toArray, List.set_cons_zero, List.set_cons_succ]
      refine wpAnyH_take (i := 20) (oi := { dst := some 23, op := Op.pick (Operand.tmp 16) (Operand.tmp 22) (Operand.const (Value.bool false)), type := 4, pos := "l5_bounce.go:117", after := #[{ on := 13, ground := Ground.data }, { on := 19, ground := Ground.data }], guard := none }) (v := .bool false) rfl (by kernel_rfl) (by kernel_rfl) (by kernel_rfl) (fun _ _ _ h => h) (Or.inl ⟨by rfl, fun wz hSw => ?_⟩) hHeld ?_
      · obtain ⟨e0, e1, e2, e3⟩ := hSw
        clear hHeld
        go_simp
      simp only [Act.put, List.setIfInBounds_toArray, List.set_cons_zero, List.set_cons_succ]
      refine wpAnyH_take (i := 21) (oi := { dst := some 2, op := Op.assign (Operand.tmp 23), type := 4, pos := "l5_bounce.go:117", after := #[{ on := 20, ground := Ground.data }, { on := 16, ground := Ground.chain }, { on := 0, ground := Ground.phase }, { on := 1, ground := Ground.phase }, { on := 2, ground := Ground.phase }, { on := 3, ground := Ground.phase }, { on := 4, ground := Ground.phase }, { on := 5, ground := Ground.phase }, { on := 6, ground := Ground.phase }, { on := 7, ground := Ground.phase }, { on := 8, ground := Ground.phase }, { on := 9, ground := Ground.phase }, { on := 10, ground := Ground.phase }, { on := 11, ground := Ground.phase }, { on := 12, ground := Ground.phase }, { on := 13, ground := Ground.phase }, { on := 14, ground := Ground.phase }, { on := 15, ground := Ground.phase }, { on := 16, ground := Ground.phase }, { on := 17, ground := Ground.phase }, { on := 18, ground := Ground.phase }, { on := 19, ground := Ground.phase }, { on := 20, ground := Ground.phase }], guard := none }) (v := .bool false) rfl (by kernel_rfl) (by kernel_rfl) (by kernel_rfl) (fun _ _ _ h => h) (Or.inl ⟨by rfl, fun wz hSw => ?_⟩) hHeld ?_
      · obtain ⟨e0, e1, e2, e3⟩ := hSw
        clear hHeld
        go_simp
      simp only [Act.put, List.setIfInBounds_toArray, List.set_cons_zero, List.set_cons_succ]
      refine wpAnyH_done (by kernel_rfl) ?_ _
      go_simp
      go_wp2
      go_ret
      exact ⟨ret_bool G.out.symm, HB0.out.trans (HBc.out.mono HZ.out)⟩
    · cases h3 : codeOk cd
      · have C1 : Hid (∀ wx : World, Env wx → Calls Tryz.prog 33 #[.string rc] wx fun e w' => e = .returned (.bool true) ∧ Below wx.heap.size wx w') := fun wx he => by have := implAddress rc wx he.len z1; rw [h1] at this; exact this
        have C2 : Hid (∀ wx : World, Env wx → Calls Tryz.prog 58 #[.string st] wx fun e w' => e = .returned (.bool true) ∧ Below wx.heap.size wx w') := fun wx he => by have := implStatus st wx he.len z2; rw [h2] at this; exact this
        have C3 : Hid (∀ wx : World, Calls Tryz.prog 59 #[.int .i64 cd] wx fun e w' => e = .returned (.bool false) ∧ Below wx.heap.size wx w') := fun wx => by have := implCode cd wx; rw [h3] at this; exact this
        have G : Hid (R = false) := by show _ = _; rw [HF.out, h1, h2, h3]; rfl
        refine wp_region_held_drew (S := fun w' => w'.cell? ⟨w.heap.size, 0, none⟩ = some (.string rc) ∧ w'.cell? ⟨w.heap.size, 1, none⟩ = some (.string st) ∧ w'.cell? ⟨w.heap.size, 2, none⟩ = some (.int .i64 cd) ∧ w'.cell? ⟨w.heap.size, 3, none⟩ = some (.string tx)) (by kernel_rfl) ⟨by simpa using k0, by simpa using k1, by simpa using k2, by simpa using k3⟩ (fun hHeld => ?_)
        have HBc : Hid (Below W.heap.size W W.drew) := (Below.refl W.heap.size W).drew
        generalize W.drew = wd at hHeld HBc ⊢
        refine wpAnyH_take (i := 0) (oi := { dst := some 3, op := Op.fieldAddr 31 (Operand.tmp 1) 0, type := 0, pos := "l5_bounce.go:117", after := #[], guard := none }) (v := .pointer (some ⟨w.heap.size, 0, none⟩)) rfl (by kernel_rfl) (by kernel_rfl) (by kernel_rfl) (fun _ _ _ h => h) (Or.inl ⟨by rfl, fun wz hSw => ?_⟩) hHeld ?_
        · obtain ⟨e0, e1, e2, e3⟩ := hSw
          clear hHeld
          go_simp
        simp only [Act.put, List.setIfInBounds_toArray, List.set_cons_zero, List.set_cons_succ]
        refine wpAnyH_take (i := 1) (oi := { dst := some 4, op := Op.load 9 (Operand.tmp 3), type := 9, pos := "l5_bounce.go:117", after := #[{ on := 0, ground := Ground.data }], guard := none }) (v := .string rc) rfl (by kernel_rfl) (by kernel_rfl) (by kernel_rfl) (fun _ _ _ h => h) (Or.inl ⟨by rfl, fun wz hSw => ?_⟩) hHeld ?_
        · obtain ⟨e0, e1, e2, e3⟩ := hSw
          clear hHeld
          go_simp
        simp only [Act.put, List.setIfInBounds_toArray, List.set_cons_zero, List.set_cons_succ]
        refine wpAnyH_ready (rs := [2]) (by kernel_rfl) (by simp) ?_
        refine AllReadyH.cons (o := { dst := some 5, op := Op.call { callee := Callee.value (Operand.func 33), args := #[Operand.tmp 4], argTypes := #[9] }, type := 4, pos := "l5_bounce.go:117", after := #[{ on := 1, ground := Ground.data }], guard := none }) rfl (fun K hK => ?_) AllReadyH.nil
        go_simp
        go_at_call 33
        refine (C1.out _ (HE.out.below HBc.out)).mono ?_
        rintro e wA ⟨rfl, hb⟩
        have HBc : Hid (Below W.heap.size W wA) := HBc.out.trans (hb.mono HBc.out.size)
        refine hK.out _ _ ⟨(Blk.below HM.out HBc.out).cell 0, (Blk.below HM.out HBc.out).cell 1, (Blk.below HM.out HBc.out).cell 2, (Blk.below HM.out HBc.out).cell 3⟩ (fun hHeld => ?_)
        clear hK K hb
        try simp only [Act.put, List.setIfInBounds_toArray, List.set_cons_zero, List.set_cons_succ]
        refine wpAnyH_take (i := 3) (oi := { dst := some 6, op := Op.move (Operand.tmp 5), type := 4, pos := "l5_bounce.go:117", after := #[{ on := 2, ground := Ground.data }, { on := 2, ground := Ground.chain }], guard := none }) (v := .bool true) rfl (by kernel_rfl) (by kernel_rfl) (by kernel_rfl) (fun _ _ _ h => h) (Or.inl ⟨by rfl, fun wz hSw => ?_⟩) hHeld ?_
        · obtain ⟨e0, e1, e2, e3⟩ := hSw
          clear hHeld
          go_simp
        simp only [Act.put, List.setIfInBounds_toArray, List.set_cons_zero, List.set_cons_succ]
        refine wpAnyH_take (i := 4) (oi := { dst := some 7, op := Op.fieldAddr 31 (Operand.tmp 1) 1, type := 0, pos := "l5_bounce.go:117", after := #[{ on := 3, ground := Ground.guard }], guard := some (3, true) }) (v := .pointer (some ⟨w.heap.size, 1, none⟩)) rfl (by kernel_rfl) (by kernel_rfl) (by kernel_rfl) (fun _ _ _ h => h) (Or.inl ⟨by rfl, fun wz hSw => ?_⟩) hHeld ?_
        · obtain ⟨e0, e1, e2, e3⟩ := hSw
          clear hHeld
          go_simp
        simp only [Act.put, List.setIfInBounds_toArray, List.set_cons_zero, List.set_cons_succ]
        refine wpAnyH_take (i := 5) (oi := { dst := some 8, op := Op.load 9 (Operand.tmp 7), type := 9, pos := "l5_bounce.go:117", after := #[{ on := 4, ground := Ground.data }, { on := 3, ground := Ground.guard }], guard := some (3, true) }) (v := .string st) rfl (by kernel_rfl) (by kernel_rfl) (by kernel_rfl) (fun _ _ _ h => h) (Or.inl ⟨by rfl, fun wz hSw => ?_⟩) hHeld ?_
        · obtain ⟨e0, e1, e2, e3⟩ := hSw
          clear hHeld
          go_simp
        simp only [Act.put, List.setIfInBounds_toArray, List.set_cons_zero, List.set_cons_succ]
        refine wpAnyH_ready (rs := [6]) (by kernel_rfl) (by simp) ?_
        refine AllReadyH.cons (o := { dst := some 9, op := Op.call { callee := Callee.value (Operand.func 58), args := #[Operand.tmp 8], argTypes := #[9] }, type := 4, pos := "l5_bounce.go:117", after := #[{ on := 5, ground := Ground.data }, { on := 3, ground := Ground.chain }, { on := 3, ground := Ground.guard }], guard := some (3, true) }) rfl (fun K hK => ?_) AllReadyH.nil
        go_simp
        go_at_call 58
        refine (C2.out _ (HE.out.below HBc.out)).mono ?_
        rintro e wB ⟨rfl, hb⟩
        have HBc : Hid (Below W.heap.size W wB) := HBc.out.trans (hb.mono HBc.out.size)
        refine hK.out _ _ ⟨(Blk.below HM.out HBc.out).cell 0, (Blk.below HM.out HBc.out).cell 1, (Blk.below HM.out HBc.out).cell 2, (Blk.below HM.out HBc.out).cell 3⟩ (fun hHeld => ?_)
        clear hK K hb
        try simp only [Act.put, List.setIfInBounds_toArray, List.set_cons_zero, List.set_cons_succ]
        refine wpAnyH_take (i := 7) (oi := { dst := some 10, op := Op.pick (Operand.tmp 6) (Operand.tmp 9) (Operand.const (Value.bool false)), type := 4, pos := "l5_bounce.go:117", after := #[{ on := 3, ground := Ground.data }, { on := 6, ground := Ground.data }], guard := none }) (v := .bool true) rfl (by kernel_rfl) (by kernel_rfl) (by kernel_rfl) (fun _ _ _ h => h) (Or.inl ⟨by rfl, fun wz hSw => ?_⟩) hHeld ?_
        · obtain ⟨e0, e1, e2, e3⟩ := hSw
          clear hHeld
          go_simp
        simp only [Act.put, List.setIfInBounds_toArray, List.set_cons_zero, List.set_cons_succ]
        refine wpAnyH_take (i := 8) (oi := { dst := some 11, op := Op.move (Operand.tmp 10), type := 4, pos := "l5_bounce.go:117", after := #[{ on := 7, ground := Ground.data }, { on := 6, ground := Ground.chain }], guard := none }) (v := .bool true) rfl (by kernel_rfl) (by kernel_rfl) (by kernel_rfl) (fun _ _ _ h => h) (Or.inl ⟨by rfl, fun wz hSw => ?_⟩) hHeld ?_
        · obtain ⟨e0, e1, e2, e3⟩ := hSw
          clear hHeld
          go_simp
        simp only [Act.put, List.setIfInBounds_toArray, List.set_cons_zero, List.set_cons_succ]
        refine wpAnyH_take (i := 9) (oi := { dst := some 12, op := Op.fieldAddr 31 (Operand.tmp 1) 2, type := 0, pos := "l5_bounce.go:117", after := #[{ on := 8, ground := Ground.guard }], guard := some (8, true) }) (v := .pointer (some ⟨w.heap.size, 2, none⟩)) rfl (by kernel_rfl) (by kernel_rfl) (by kernel_rfl) (fun _ _ _ h => h) (Or.inl ⟨by rfl, fun wz hSw => ?_⟩) hHeld ?_
        · obtain ⟨e0, e1, e2, e3⟩ := hSw
          clear hHeld
          go_simp
        simp only [Act.put, List.setIfInBounds_toArray, List.set_cons_zero, List.set_cons_succ]
        refine wpAnyH_take (i := 10) (oi := { dst := some 13, op := Op.load 3 (Operand.tmp 12), type := 3, pos := "l5_bounce.go:117", after := #[{ on := 9, ground := Ground.data }, { on := 8, ground := Ground.guard }], guard := some (8, true) }) (v := .int .i64 cd) rfl (by kernel_rfl) (by kernel_rfl) (by kernel_rfl) (fun _ _ _ h => h) (Or.inl ⟨by rfl, fun wz hSw => ?_⟩) hHeld ?_
        · obtain ⟨e0, e1, e2, e3⟩ := hSw
          clear hHeld
          go_simp
        simp only [Act.put, List.setIfInBounds_toArray, List.set_cons_zero, List.set_cons_succ]
        refine wpAnyH_ready (rs := [11]) (by kernel_rfl) (by simp) ?_
        refine AllReadyH.cons (o := { dst := some 14, op := Op.call { callee := Callee.value (Operand.func 59), args := #[Operand.tmp 13], argTypes := #[3] }, type := 4, pos := "l5_bounce.go:117", after := #[{ on := 10, ground := Ground.data }, { on := 8, ground := Ground.chain }, { on := 8, ground := Ground.guard }], guard := some (8, true) }) rfl (fun K hK => ?_) AllReadyH.nil
        go_simp
        go_at_call 59
        refine (C3.out _).mono ?_
        rintro e wC ⟨rfl, hb⟩
        have HBc : Hid (Below W.heap.size W wC) := HBc.out.trans (hb.mono HBc.out.size)
        refine hK.out _ _ ⟨(Blk.below HM.out HBc.out).cell 0, (Blk.below HM.out HBc.out).cell 1, (Blk.below HM.out HBc.out).cell 2, (Blk.below HM.out HBc.out).cell 3⟩ (fun hHeld => ?_)
        clear hK K hb
        try simp only [Act.put, List.setIfInBounds_toArray, List.set_cons_zero, List.set_cons_succ]
        refine wpAnyH_take (i := 12) (oi := { dst := some 15, op := Op.pick (Operand.tmp 11) (Operand.tmp 14) (Operand.const (Value.bool false)), type := 4, pos := "l5_bounce.go:117", after := #[{ on := 8, ground := Ground.data }, { on := 11, ground := Ground.data }], guard := none }) (v := .bool false) rfl (by kernel_rfl) (by kernel_rfl) (by kernel_rfl) (fun _ _ _ h => h) (Or.inl ⟨by rfl, fun wz hSw => ?_⟩) hHeld ?_
        · obtain ⟨e0, e1, e2, e3⟩ := hSw
          clear hHeld
          go_simp
        simp only [Act.put, List.setIfInBounds_toArray, List.set_cons_zero, List.set_cons_succ]
        refine wpAnyH_take (i := 13) (oi := { dst := some 16, op := Op.move (Operand.tmp 15), type := 4, pos := "l5_bounce.go:117", after := #[{ on := 12, ground := Ground.data }, { on := 11, ground := Ground.chain }], guard := none }) (v := .bool false) rfl (by kernel_rfl) (by kernel_rfl) (by kernel_rfl) (fun _ _ _ h => h) (Or.inl ⟨by rfl, fun wz hSw => ?_⟩) hHeld ?_
        · obtain ⟨e0, e1, e2, e3⟩ := hSw
          clear hHeld
          go_simp
        simp only [Act.put, List.setIfInBounds_toArray, List.set_cons_zero, List.set_cons_succ]
        refine wpAnyH_take (i := 14) (oi := { dst := some 17, op := Op.fieldAddr 31 (Operand.tmp 1) 3, type := 0, pos := "l5_bounce.go:117", after := #[{ on := 13, ground := Ground.guard }], guard := some (13, true) }) (v := undef) rfl (by kernel_rfl) (by kernel_rfl) (by kernel_rfl) (fun _ _ _ h => h) (Or.inr ⟨by rfl, rfl⟩) hHeld ?_
        simp only [Act.put, List.setIfInBounds_toArray, List.set_cons_zero, List.set_cons_succ]
        refine wpAnyH_take (i := 15) (oi := { dst := some 18, op := Op.load 9 (Operand.tmp 17), type := 9, pos := "l5_bounce.go:117", after := #[{ on := 14, ground := Ground.data }, { on := 13, ground := Ground.guard }], guard := some (13, true) }) (v := undef) rfl (by kernel_rfl) (by kernel_rfl) (by kernel_rfl) (fun _ _ _ h => h) (Or.inr ⟨by rfl, rfl⟩) hHeld ?_
        simp only [Act.put, List.setIfInBounds_toArray, List.set_cons_zero, List.set_cons_succ]
        refine wpAnyH_take (i := 16) (oi := { dst := some 19, op := Op.call { callee := Callee.value (Operand.func 60), args := #[Operand.tmp 18], argTypes := #[9] }, type := 9, pos := "l5_bounce.go:117", after := #[{ on := 15, ground := Ground.data }, { on := 13, ground := Ground.chain }, { on := 13, ground := Ground.guard }], guard := some (13, true) }) (v := undef) rfl (by kernel_rfl) (by kernel_rfl) (by kernel_rfl) (fun _ _ _ h => h) (Or.inr ⟨by rfl, rfl⟩) hHeld ?_
        simp only [Act.put, List.setIfInBounds_toArray, List.set_cons_zero, List.set_cons_succ]
        refine wpAnyH_take (i := 17) (oi := { dst := some 20, op := Op.fieldAddr 31 (Operand.tmp 1) 3, type := 0, pos := "l5_bounce.go:117", after := #[{ on := 13, ground := Ground.guard }], guard := some (13, true) }) (v := undef) rfl (by kernel_rfl) (by kernel_rfl) (by kernel_rfl) (fun _ _ _ h => h) (Or.inr ⟨by rfl, rfl⟩) hHeld ?_
        simp only [Act.put, List.setIfInBounds_toArray, List.set_cons_zero, List.set_cons_succ]
        refine wpAnyH_take (i := 18) (oi := { dst := some 21, op := Op.load 9 (Operand.tmp 20), type := 9, pos := "l5_bounce.go:117", after := #[{ on := 17, ground := Ground.data }, { on := 13, ground := Ground.guard }], guard := some (13, true) }) (v := undef) rfl (by kernel_rfl) (by kernel_rfl) (by kernel_rfl) (fun _ _ _ h => h) (Or.inr ⟨by rfl, rfl⟩) hHeld ?_
        simp only [Act.put, List.setIfInBounds_toArray, List.set_cons_zero, List.set_cons_succ]
        refine wpAnyH_take (i := 19) (oi := { dst := some 22, op := Op.binOp BinOp.eql 9 (Operand.tmp 19) (Operand.tmp 21) 9, type := 4, pos := "l5_bounce.go:117", after := #[{ on := 16, ground := Ground.data }, { on := 18, ground := Ground.data }, { on := 13, ground := Ground.guard }], guard := some (13, true) }) (v := undef) rfl (by kernel_rfl) (by kernel_rfl) (by kernel_rfl) (fun _ _ _ h => h) (Or.inr ⟨by rfl, rfl⟩) hHeld ?_
        simp only [Act.put, List.setIfInBounds_toArray, List.set_cons_zero, List.set_cons_succ]
        refine wpAnyH_take (i := 20) (oi := { dst := some 23, op := Op.pick (Operand.tmp 16) (Operand.tmp 22) (Operand.const (Value.bool false)), type := 4, pos := "l5_bounce.go:117", after := #[{ on := 13, ground := Ground.data }, { on := 19, ground := Ground.data }], guard := none }) (v := .bool false) rfl (by kernel_rfl) (by kernel_rfl) (by kernel_rfl) (fun _ _ _ h => h) (Or.inl ⟨by rfl, fun wz hSw => ?_⟩) hHeld ?_
        · obtain ⟨e0, e1, e2, e3⟩ := hSw
          clear hHeld
          go_simp
        simp only [Act.put, List.setIfInBounds_toArray, List.set_cons_zero, List.set_cons_succ]
        refine wpAnyH_take (i := 21) (oi := { dst := some 2, op := Op.assign (Operand.tmp 23), type := 4, pos := "l5_bounce.go:117", after := #[{ on := 20, ground := Ground.data }, { on := 16, ground := Ground.chain }, { on := 0, ground := Ground.phase }, { on := 1, ground := Ground.phase }, { on := 2, ground := Ground.phase }, { on := 3, ground := Ground.phase }, { on := 4, ground := Ground.phase }, { on := 5, ground := Ground.phase }, { on := 6, ground := Ground.phase }, { on := 7, ground := Ground.phase }, { on := 8, ground := Ground.phase }, { on := 9, ground := Ground.phase }, { on := 10, ground := Ground.phase }, { on := 11, ground := Ground.phase }, { on := 12, ground := Ground.phase }, { on := 13, ground := Ground.phase }, { on := 14, ground := Ground.phase }, { on := 15, ground := Ground.phase }, { on := 16, ground := Ground.phase }, { on := 17, ground := Ground.phase }, { on := 18, ground := Ground.phase }, { on := 19, ground := Ground.phase }, { on := 20, ground := Ground.phase }], guard := none }) (v := .bool false) rfl (by kernel_rfl) (by kernel_rfl) (by kernel_rfl) (fun _ _ _ h => h) (Or.inl ⟨by rfl, fun wz hSw => ?_⟩) hHeld ?_
        · obtain ⟨e0, e1, e2, e3⟩ := hSw
          clear hHeld
          go_simp
        simp only [Act.put, List.setIfInBounds_toArray, List.set_cons_zero, List.set_cons_succ]
        refine wpAnyH_done (by kernel_rfl) ?_ _
        go_simp
        go_wp2
        go_ret
        exact ⟨ret_bool G.out.symm, HB0.out.trans (HBc.out.mono HZ.out)⟩
      · by_cases h4 : ct = tx
        · have h4b : (ct.toList == tx.toList) = true := by rw [h4]; simp
          have C1 : Hid (∀ wx : World, Env wx → Calls Tryz.prog 33 #[.string rc] wx fun e w' => e = .returned (.bool true) ∧ Below wx.heap.size wx w') := fun wx he => by have := implAddress rc wx he.len z1; rw [h1] at this; exact this
          have C2 : Hid (∀ wx : World, Env wx → Calls Tryz.prog 58 #[.string st] wx fun e w' => e = .returned (.bool true) ∧ Below wx.heap.size wx w') := fun wx he => by have := implStatus st wx he.len z2; rw [h2] at this; exact this
          have C3 : Hid (∀ wx : World, Calls Tryz.prog 59 #[.int .i64 cd] wx fun e w' => e = .returned (.bool true) ∧ Below wx.heap.size wx w') := fun wx => by have := implCode cd wx; rw [h3] at this; exact this
          have C4 : Hid (∀ wx : World, Calls Tryz.prog 60 #[.string tx] wx fun e w' => e = .returned (.string ct) ∧ Below wx.heap.size wx w') := fun wx => by have := implClean tx wx z4; rw [HCT.out] at this; exact this
          have G : Hid (R = true) := by show _ = _; rw [HF.out, h1, h2, h3, HCT.out, decide_eq_true h4]; rfl
          refine wp_region_held_drew (S := fun w' => w'.cell? ⟨w.heap.size, 0, none⟩ = some (.string rc) ∧ w'.cell? ⟨w.heap.size, 1, none⟩ = some (.string st) ∧ w'.cell? ⟨w.heap.size, 2, none⟩ = some (.int .i64 cd) ∧ w'.cell? ⟨w.heap.size, 3, none⟩ = some (.string tx)) (by kernel_rfl) ⟨by simpa using k0, by simpa using k1, by simpa using k2, by simpa using k3⟩ (fun hHeld => ?_)
          have HBc : Hid (Below W.heap.size W W.drew) := (Below.refl W.heap.size W).drew
          generalize W.drew = wd at hHeld HBc ⊢
          refine wpAnyH_take (i := 0) (oi := { dst := some 3, op := Op.fieldAddr 31 (Operand.tmp 1) 0, type := 0, pos := "l5_bounce.go:117", after := #[], guard := none }) (v := .pointer (some ⟨w.heap.size, 0, none⟩)) rfl (by kernel_rfl) (by kernel_rfl) (by kernel_rfl) (fun _ _ _ h => h) (Or.inl ⟨by rfl, fun wz hSw => ?_⟩) hHeld ?_
          · obtain ⟨e0, e1, e2, e3⟩ := hSw
            clear hHeld
            go_simp
          simp only [Act.put, List.setIfInBounds_toArray, List.set_cons_zero, List.set_cons_succ]
          refine wpAnyH_take (i := 1) (oi := { dst := some 4, op := Op.load 9 (Operand.tmp 3), type := 9, pos := "l5_bounce.go:117", after := #[{ on := 0, ground := Ground.data }], guard := none }) (v := .string rc) rfl (by kernel_rfl) (by kernel_rfl) (by kernel_rfl) (fun _ _ _ h => h) (Or.inl ⟨by rfl, fun wz hSw => ?_⟩) hHeld ?_
          · obtain ⟨e0, e1, e2, e3⟩ := hSw
            clear hHeld
            go_simp
          simp only [Act.put, List.setIfInBounds_toArray, List.set_cons_zero, List.set_cons_succ]
          refine wpAnyH_ready (rs := [2]) (by kernel_rfl) (by simp) ?_
          refine AllReadyH.cons (o := { dst := some 5, op := Op.call { callee := Callee.value (Operand.func 33), args := #[Operand.tmp 4], argTypes := #[9] }, type := 4, pos := "l5_bounce.go:117", after := #[{ on := 1, ground := Ground.data }], guard := none }) rfl (fun K hK => ?_) AllReadyH.nil
          go_simp
          go_at_call 33
          refine (C1.out _ (HE.out.below HBc.out)).mono ?_
          rintro e wA ⟨rfl, hb⟩
          have HBc : Hid (Below W.heap.size W wA) := HBc.out.trans (hb.mono HBc.out.size)
          refine hK.out _ _ ⟨(Blk.below HM.out HBc.out).cell 0, (Blk.below HM.out HBc.out).cell 1, (Blk.below HM.out HBc.out).cell 2, (Blk.below HM.out HBc.out).cell 3⟩ (fun hHeld => ?_)
          clear hK K hb
          try simp only [Act.put, List.setIfInBounds_toArray, List.set_cons_zero, List.set_cons_succ]
          refine wpAnyH_take (i := 3) (oi := { dst := some 6, op := Op.move (Operand.tmp 5), type := 4, pos := "l5_bounce.go:117", after := #[{ on := 2, ground := Ground.data }, { on := 2, ground := Ground.chain }], guard := none }) (v := .bool true) rfl (by kernel_rfl) (by kernel_rfl) (by kernel_rfl) (fun _ _ _ h => h) (Or.inl ⟨by rfl, fun wz hSw => ?_⟩) hHeld ?_
          · obtain ⟨e0, e1, e2, e3⟩ := hSw
            clear hHeld
            go_simp
          simp only [Act.put, List.setIfInBounds_toArray, List.set_cons_zero, List.set_cons_succ]
          refine wpAnyH_take (i := 4) (oi := { dst := some 7, op := Op.fieldAddr 31 (Operand.tmp 1) 1, type := 0, pos := "l5_bounce.go:117", after := #[{ on := 3, ground := Ground.guard }], guard := some (3, true) }) (v := .pointer (some ⟨w.heap.size, 1, none⟩)) rfl (by kernel_rfl) (by kernel_rfl) (by kernel_rfl) (fun _ _ _ h => h) (Or.inl ⟨by rfl, fun wz hSw => ?_⟩) hHeld ?_
          · obtain ⟨e0, e1, e2, e3⟩ := hSw
            clear hHeld
            go_simp
          simp only [Act.put, List.setIfInBounds_toArray, List.set_cons_zero, List.set_cons_succ]
          refine wpAnyH_take (i := 5) (oi := { dst := some 8, op := Op.load 9 (Operand.tmp 7), type := 9, pos := "l5_bounce.go:117", after := #[{ on := 4, ground := Ground.data }, { on := 3, ground := Ground.guard }], guard := some (3, true) }) (v := .string st) rfl (by kernel_rfl) (by kernel_rfl) (by kernel_rfl) (fun _ _ _ h => h) (Or.inl ⟨by rfl, fun wz hSw => ?_⟩) hHeld ?_
          · obtain ⟨e0, e1, e2, e3⟩ := hSw
            clear hHeld
            go_simp
          simp only [Act.put, List.setIfInBounds_toArray, List.set_cons_zero, List.set_cons_succ]
          refine wpAnyH_ready (rs := [6]) (by kernel_rfl) (by simp) ?_
          refine AllReadyH.cons (o := { dst := some 9, op := Op.call { callee := Callee.value (Operand.func 58), args := #[Operand.tmp 8], argTypes := #[9] }, type := 4, pos := "l5_bounce.go:117", after := #[{ on := 5, ground := Ground.data }, { on := 3, ground := Ground.chain }, { on := 3, ground := Ground.guard }], guard := some (3, true) }) rfl (fun K hK => ?_) AllReadyH.nil
          go_simp
          go_at_call 58
          refine (C2.out _ (HE.out.below HBc.out)).mono ?_
          rintro e wB ⟨rfl, hb⟩
          have HBc : Hid (Below W.heap.size W wB) := HBc.out.trans (hb.mono HBc.out.size)
          refine hK.out _ _ ⟨(Blk.below HM.out HBc.out).cell 0, (Blk.below HM.out HBc.out).cell 1, (Blk.below HM.out HBc.out).cell 2, (Blk.below HM.out HBc.out).cell 3⟩ (fun hHeld => ?_)
          clear hK K hb
          try simp only [Act.put, List.setIfInBounds_toArray, List.set_cons_zero, List.set_cons_succ]
          refine wpAnyH_take (i := 7) (oi := { dst := some 10, op := Op.pick (Operand.tmp 6) (Operand.tmp 9) (Operand.const (Value.bool false)), type := 4, pos := "l5_bounce.go:117", after := #[{ on := 3, ground := Ground.data }, { on := 6, ground := Ground.data }], guard := none }) (v := .bool true) rfl (by kernel_rfl) (by kernel_rfl) (by kernel_rfl) (fun _ _ _ h => h) (Or.inl ⟨by rfl, fun wz hSw => ?_⟩) hHeld ?_
          · obtain ⟨e0, e1, e2, e3⟩ := hSw
            clear hHeld
            go_simp
          simp only [Act.put, List.setIfInBounds_toArray, List.set_cons_zero, List.set_cons_succ]
          refine wpAnyH_take (i := 8) (oi := { dst := some 11, op := Op.move (Operand.tmp 10), type := 4, pos := "l5_bounce.go:117", after := #[{ on := 7, ground := Ground.data }, { on := 6, ground := Ground.chain }], guard := none }) (v := .bool true) rfl (by kernel_rfl) (by kernel_rfl) (by kernel_rfl) (fun _ _ _ h => h) (Or.inl ⟨by rfl, fun wz hSw => ?_⟩) hHeld ?_
          · obtain ⟨e0, e1, e2, e3⟩ := hSw
            clear hHeld
            go_simp
          simp only [Act.put, List.setIfInBounds_toArray, List.set_cons_zero, List.set_cons_succ]
          refine wpAnyH_take (i := 9) (oi := { dst := some 12, op := Op.fieldAddr 31 (Operand.tmp 1) 2, type := 0, pos := "l5_bounce.go:117", after := #[{ on := 8, ground := Ground.guard }], guard := some (8, true) }) (v := .pointer (some ⟨w.heap.size, 2, none⟩)) rfl (by kernel_rfl) (by kernel_rfl) (by kernel_rfl) (fun _ _ _ h => h) (Or.inl ⟨by rfl, fun wz hSw => ?_⟩) hHeld ?_
          · obtain ⟨e0, e1, e2, e3⟩ := hSw
            clear hHeld
            go_simp
          simp only [Act.put, List.setIfInBounds_toArray, List.set_cons_zero, List.set_cons_succ]
          refine wpAnyH_take (i := 10) (oi := { dst := some 13, op := Op.load 3 (Operand.tmp 12), type := 3, pos := "l5_bounce.go:117", after := #[{ on := 9, ground := Ground.data }, { on := 8, ground := Ground.guard }], guard := some (8, true) }) (v := .int .i64 cd) rfl (by kernel_rfl) (by kernel_rfl) (by kernel_rfl) (fun _ _ _ h => h) (Or.inl ⟨by rfl, fun wz hSw => ?_⟩) hHeld ?_
          · obtain ⟨e0, e1, e2, e3⟩ := hSw
            clear hHeld
            go_simp
          simp only [Act.put, List.setIfInBounds_toArray, List.set_cons_zero, List.set_cons_succ]
          refine wpAnyH_ready (rs := [11]) (by kernel_rfl) (by simp) ?_
          refine AllReadyH.cons (o := { dst := some 14, op := Op.call { callee := Callee.value (Operand.func 59), args := #[Operand.tmp 13], argTypes := #[3] }, type := 4, pos := "l5_bounce.go:117", after := #[{ on := 10, ground := Ground.data }, { on := 8, ground := Ground.chain }, { on := 8, ground := Ground.guard }], guard := some (8, true) }) rfl (fun K hK => ?_) AllReadyH.nil
          go_simp
          go_at_call 59
          refine (C3.out _).mono ?_
          rintro e wC ⟨rfl, hb⟩
          have HBc : Hid (Below W.heap.size W wC) := HBc.out.trans (hb.mono HBc.out.size)
          refine hK.out _ _ ⟨(Blk.below HM.out HBc.out).cell 0, (Blk.below HM.out HBc.out).cell 1, (Blk.below HM.out HBc.out).cell 2, (Blk.below HM.out HBc.out).cell 3⟩ (fun hHeld => ?_)
          clear hK K hb
          try simp only [Act.put, List.setIfInBounds_toArray, List.set_cons_zero, List.set_cons_succ]
          refine wpAnyH_take (i := 12) (oi := { dst := some 15, op := Op.pick (Operand.tmp 11) (Operand.tmp 14) (Operand.const (Value.bool false)), type := 4, pos := "l5_bounce.go:117", after := #[{ on := 8, ground := Ground.data }, { on := 11, ground := Ground.data }], guard := none }) (v := .bool true) rfl (by kernel_rfl) (by kernel_rfl) (by kernel_rfl) (fun _ _ _ h => h) (Or.inl ⟨by rfl, fun wz hSw => ?_⟩) hHeld ?_
          · obtain ⟨e0, e1, e2, e3⟩ := hSw
            clear hHeld
            go_simp
          simp only [Act.put, List.setIfInBounds_toArray, List.set_cons_zero, List.set_cons_succ]
          refine wpAnyH_take (i := 13) (oi := { dst := some 16, op := Op.move (Operand.tmp 15), type := 4, pos := "l5_bounce.go:117", after := #[{ on := 12, ground := Ground.data }, { on := 11, ground := Ground.chain }], guard := none }) (v := .bool true) rfl (by kernel_rfl) (by kernel_rfl) (by kernel_rfl) (fun _ _ _ h => h) (Or.inl ⟨by rfl, fun wz hSw => ?_⟩) hHeld ?_
          · obtain ⟨e0, e1, e2, e3⟩ := hSw
            clear hHeld
            go_simp
          simp only [Act.put, List.setIfInBounds_toArray, List.set_cons_zero, List.set_cons_succ]
          refine wpAnyH_take (i := 14) (oi := { dst := some 17, op := Op.fieldAddr 31 (Operand.tmp 1) 3, type := 0, pos := "l5_bounce.go:117", after := #[{ on := 13, ground := Ground.guard }], guard := some (13, true) }) (v := .pointer (some ⟨w.heap.size, 3, none⟩)) rfl (by kernel_rfl) (by kernel_rfl) (by kernel_rfl) (fun _ _ _ h => h) (Or.inl ⟨by rfl, fun wz hSw => ?_⟩) hHeld ?_
          · obtain ⟨e0, e1, e2, e3⟩ := hSw
            clear hHeld
            go_simp
          simp only [Act.put, List.setIfInBounds_toArray, List.set_cons_zero, List.set_cons_succ]
          refine wpAnyH_take (i := 15) (oi := { dst := some 18, op := Op.load 9 (Operand.tmp 17), type := 9, pos := "l5_bounce.go:117", after := #[{ on := 14, ground := Ground.data }, { on := 13, ground := Ground.guard }], guard := some (13, true) }) (v := .string tx) rfl (by kernel_rfl) (by kernel_rfl) (by kernel_rfl) (fun _ _ _ h => h) (Or.inl ⟨by rfl, fun wz hSw => ?_⟩) hHeld ?_
          · obtain ⟨e0, e1, e2, e3⟩ := hSw
            clear hHeld
            go_simp
          simp only [Act.put, List.setIfInBounds_toArray, List.set_cons_zero, List.set_cons_succ]
          refine wpAnyH_take (i := 17) (oi := { dst := some 20, op := Op.fieldAddr 31 (Operand.tmp 1) 3, type := 0, pos := "l5_bounce.go:117", after := #[{ on := 13, ground := Ground.guard }], guard := some (13, true) }) (v := .pointer (some ⟨w.heap.size, 3, none⟩)) rfl (by kernel_rfl) (by kernel_rfl) (by kernel_rfl) (fun _ _ _ h => h) (Or.inl ⟨by rfl, fun wz hSw => ?_⟩) hHeld ?_
          · obtain ⟨e0, e1, e2, e3⟩ := hSw
            clear hHeld
            go_simp
          simp only [Act.put, List.setIfInBounds_toArray, List.set_cons_zero, List.set_cons_succ]
          refine wpAnyH_take (i := 18) (oi := { dst := some 21, op := Op.load 9 (Operand.tmp 20), type := 9, pos := "l5_bounce.go:117", after := #[{ on := 17, ground := Ground.data }, { on := 13, ground := Ground.guard }], guard := some (13, true) }) (v := .string tx) rfl (by kernel_rfl) (by kernel_rfl) (by kernel_rfl) (fun _ _ _ h => h) (Or.inl ⟨by rfl, fun wz hSw => ?_⟩) hHeld ?_
          · obtain ⟨e0, e1, e2, e3⟩ := hSw
            clear hHeld
            go_simp
          simp only [Act.put, List.setIfInBounds_toArray, List.set_cons_zero, List.set_cons_succ]
          refine wpAnyH_ready (rs := [16]) (by kernel_rfl) (by simp) ?_
          refine AllReadyH.cons (o := { dst := some 19, op := Op.call { callee := Callee.value (Operand.func 60), args := #[Operand.tmp 18], argTypes := #[9] }, type := 9, pos := "l5_bounce.go:117", after := #[{ on := 15, ground := Ground.data }, { on := 13, ground := Ground.chain }, { on := 13, ground := Ground.guard }], guard := some (13, true) }) rfl (fun K hK => ?_) AllReadyH.nil
          go_simp
          go_at_call 60
          refine (C4.out _).mono ?_
          rintro e wD ⟨rfl, hb⟩
          have HBc : Hid (Below W.heap.size W wD) := HBc.out.trans (hb.mono HBc.out.size)
          refine hK.out _ _ ⟨(Blk.below HM.out HBc.out).cell 0, (Blk.below HM.out HBc.out).cell 1, (Blk.below HM.out HBc.out).cell 2, (Blk.below HM.out HBc.out).cell 3⟩ (fun hHeld => ?_)
          clear hK K hb
          try simp only [Act.put, List.setIfInBounds_toArray, List.set_cons_zero, List.set_cons_succ]
          refine wpAnyH_take (i := 19) (oi := { dst := some 22, op := Op.binOp BinOp.eql 9 (Operand.tmp 19) (Operand.tmp 21) 9, type := 4, pos := "l5_bounce.go:117", after := #[{ on := 16, ground := Ground.data }, { on := 18, ground := Ground.data }, { on := 13, ground := Ground.guard }], guard := some (13, true) }) (v := .bool true) rfl (by kernel_rfl) (by kernel_rfl) (by kernel_rfl) (fun _ _ _ h => h) (Or.inl ⟨by rfl, fun wz hSw => ?_⟩) hHeld ?_
          · obtain ⟨e0, e1, e2, e3⟩ := hSw
            clear hHeld
            go_simp
          simp only [Act.put, List.setIfInBounds_toArray, List.set_cons_zero, List.set_cons_succ]
          refine wpAnyH_take (i := 20) (oi := { dst := some 23, op := Op.pick (Operand.tmp 16) (Operand.tmp 22) (Operand.const (Value.bool false)), type := 4, pos := "l5_bounce.go:117", after := #[{ on := 13, ground := Ground.data }, { on := 19, ground := Ground.data }], guard := none }) (v := .bool true) rfl (by kernel_rfl) (by kernel_rfl) (by kernel_rfl) (fun _ _ _ h => h) (Or.inl ⟨by rfl, fun wz hSw => ?_⟩) hHeld ?_
          · obtain ⟨e0, e1, e2, e3⟩ := hSw
            clear hHeld
            go_simp
          simp only [Act.put, List.setIfInBounds_toArray, List.set_cons_zero, List.set_cons_succ]
          refine wpAnyH_take (i := 21) (oi := { dst := some 2, op := Op.assign (Operand.tmp 23), type := 4, pos := "l5_bounce.go:117", after := #[{ on := 20, ground := Ground.data }, { on := 16, ground := Ground.chain }, { on := 0, ground := Ground.phase }, { on := 1, ground := Ground.phase }, { on := 2, ground := Ground.phase }, { on := 3, ground := Ground.phase }, { on := 4, ground := Ground.phase }, { on := 5, ground := Ground.phase }, { on := 6, ground := Ground.phase }, { on := 7, ground := Ground.phase }, { on := 8, ground := Ground.phase }, { on := 9, ground := Ground.phase }, { on := 10, ground := Ground.phase }, { on := 11, ground := Ground.phase }, { on := 12, ground := Ground.phase }, { on := 13, ground := Ground.phase }, { on := 14, ground := Ground.phase }, { on := 15, ground := Ground.phase }, { on := 16, ground := Ground.phase }, { on := 17, ground := Ground.phase }, { on := 18, ground := Ground.phase }, { on := 19, ground := Ground.phase }, { on := 20, ground := Ground.phase }], guard := none }) (v := .bool true) rfl (by kernel_rfl) (by kernel_rfl) (by kernel_rfl) (fun _ _ _ h => h) (Or.inl ⟨by rfl, fun wz hSw => ?_⟩) hHeld ?_
          · obtain ⟨e0, e1, e2, e3⟩ := hSw
            clear hHeld
            go_simp
          simp only [Act.put, List.setIfInBounds_toArray, List.set_cons_zero, List.set_cons_succ]
          refine wpAnyH_done (by kernel_rfl) ?_ _
          go_simp
          go_wp2
          go_ret
          exact ⟨ret_bool G.out.symm, HB0.out.trans (HBc.out.mono HZ.out)⟩
        · have h4b : (ct.toList == tx.toList) = false := strNe h4
          have C1 : Hid (∀ wx : World, Env wx → Calls Tryz.prog 33 #[.string rc] wx fun e w' => e = .returned (.bool true) ∧ Below wx.heap.size wx w') := fun wx he => by have := implAddress rc wx he.len z1; rw [h1] at this; exact this
          have C2 : Hid (∀ wx : World, Env wx → Calls Tryz.prog 58 #[.string st] wx fun e w' => e = .returned (.bool true) ∧ Below wx.heap.size wx w') := fun wx he => by have := implStatus st wx he.len z2; rw [h2] at this; exact this
          have C3 : Hid (∀ wx : World, Calls Tryz.prog 59 #[.int .i64 cd] wx fun e w' => e = .returned (.bool true) ∧ Below wx.heap.size wx w') := fun wx => by have := implCode cd wx; rw [h3] at this; exact this
          have C4 : Hid (∀ wx : World, Calls Tryz.prog 60 #[.string tx] wx fun e w' => e = .returned (.string ct) ∧ Below wx.heap.size wx w') := fun wx => by have := implClean tx wx z4; rw [HCT.out] at this; exact this
          have G : Hid (R = false) := by show _ = _; rw [HF.out, h1, h2, h3, HCT.out, decide_eq_false h4]; rfl
          refine wp_region_held_drew (S := fun w' => w'.cell? ⟨w.heap.size, 0, none⟩ = some (.string rc) ∧ w'.cell? ⟨w.heap.size, 1, none⟩ = some (.string st) ∧ w'.cell? ⟨w.heap.size, 2, none⟩ = some (.int .i64 cd) ∧ w'.cell? ⟨w.heap.size, 3, none⟩ = some (.string tx)) (by kernel_rfl) ⟨by simpa using k0, by simpa using k1, by simpa using k2, by simpa using k3⟩ (fun hHeld => ?_)
          have HBc : Hid (Below W.heap.size W W.drew) := (Below.refl W.heap.size W).drew
          generalize W.drew = wd at hHeld HBc ⊢
          refine wpAnyH_take (i := 0) (oi := { dst := some 3, op := Op.fieldAddr 31 (Operand.tmp 1) 0, type := 0, pos := "l5_bounce.go:117", after := #[], guard := none }) (v := .pointer (some ⟨w.heap.size, 0, none⟩)) rfl (by kernel_rfl) (by kernel_rfl) (by kernel_rfl) (fun _ _ _ h => h) (Or.inl ⟨by rfl, fun wz hSw => ?_⟩) hHeld ?_
          · obtain ⟨e0, e1, e2, e3⟩ := hSw
            clear hHeld
            go_simp
          simp only [Act.put, List.setIfInBounds_toArray, List.set_cons_zero, List.set_cons_succ]
          refine wpAnyH_take (i := 1) (oi := { dst := some 4, op := Op.load 9 (Operand.tmp 3), type := 9, pos := "l5_bounce.go:117", after := #[{ on := 0, ground := Ground.data }], guard := none }) (v := .string rc) rfl (by kernel_rfl) (by kernel_rfl) (by kernel_rfl) (fun _ _ _ h => h) (Or.inl ⟨by rfl, fun wz hSw => ?_⟩) hHeld ?_
          · obtain ⟨e0, e1, e2, e3⟩ := hSw
            clear hHeld
            go_simp
          simp only [Act.put, List.setIfInBounds_toArray, List.set_cons_zero, List.set_cons_succ]
          refine wpAnyH_ready (rs := [2]) (by kernel_rfl) (by simp) ?_
          refine AllReadyH.cons (o := { dst := some 5, op := Op.call { callee := Callee.value (Operand.func 33), args := #[Operand.tmp 4], argTypes := #[9] }, type := 4, pos := "l5_bounce.go:117", after := #[{ on := 1, ground := Ground.data }], guard := none }) rfl (fun K hK => ?_) AllReadyH.nil
          go_simp
          go_at_call 33
          refine (C1.out _ (HE.out.below HBc.out)).mono ?_
          rintro e wA ⟨rfl, hb⟩
          have HBc : Hid (Below W.heap.size W wA) := HBc.out.trans (hb.mono HBc.out.size)
          refine hK.out _ _ ⟨(Blk.below HM.out HBc.out).cell 0, (Blk.below HM.out HBc.out).cell 1, (Blk.below HM.out HBc.out).cell 2, (Blk.below HM.out HBc.out).cell 3⟩ (fun hHeld => ?_)
          clear hK K hb
          try simp only [Act.put, List.setIfInBounds_toArray, List.set_cons_zero, List.set_cons_succ]
          refine wpAnyH_take (i := 3) (oi := { dst := some 6, op := Op.move (Operand.tmp 5), type := 4, pos := "l5_bounce.go:117", after := #[{ on := 2, ground := Ground.data }, { on := 2, ground := Ground.chain }], guard := none }) (v := .bool true) rfl (by kernel_rfl) (by kernel_rfl) (by kernel_rfl) (fun _ _ _ h => h) (Or.inl ⟨by rfl, fun wz hSw => ?_⟩) hHeld ?_
          · obtain ⟨e0, e1, e2, e3⟩ := hSw
            clear hHeld
            go_simp
          simp only [Act.put, List.setIfInBounds_toArray, List.set_cons_zero, List.set_cons_succ]
          refine wpAnyH_take (i := 4) (oi := { dst := some 7, op := Op.fieldAddr 31 (Operand.tmp 1) 1, type := 0, pos := "l5_bounce.go:117", after := #[{ on := 3, ground := Ground.guard }], guard := some (3, true) }) (v := .pointer (some ⟨w.heap.size, 1, none⟩)) rfl (by kernel_rfl) (by kernel_rfl) (by kernel_rfl) (fun _ _ _ h => h) (Or.inl ⟨by rfl, fun wz hSw => ?_⟩) hHeld ?_
          · obtain ⟨e0, e1, e2, e3⟩ := hSw
            clear hHeld
            go_simp
          simp only [Act.put, List.setIfInBounds_toArray, List.set_cons_zero, List.set_cons_succ]
          refine wpAnyH_take (i := 5) (oi := { dst := some 8, op := Op.load 9 (Operand.tmp 7), type := 9, pos := "l5_bounce.go:117", after := #[{ on := 4, ground := Ground.data }, { on := 3, ground := Ground.guard }], guard := some (3, true) }) (v := .string st) rfl (by kernel_rfl) (by kernel_rfl) (by kernel_rfl) (fun _ _ _ h => h) (Or.inl ⟨by rfl, fun wz hSw => ?_⟩) hHeld ?_
          · obtain ⟨e0, e1, e2, e3⟩ := hSw
            clear hHeld
            go_simp
          simp only [Act.put, List.setIfInBounds_toArray, List.set_cons_zero, List.set_cons_succ]
          refine wpAnyH_ready (rs := [6]) (by kernel_rfl) (by simp) ?_
          refine AllReadyH.cons (o := { dst := some 9, op := Op.call { callee := Callee.value (Operand.func 58), args := #[Operand.tmp 8], argTypes := #[9] }, type := 4, pos := "l5_bounce.go:117", after := #[{ on := 5, ground := Ground.data }, { on := 3, ground := Ground.chain }, { on := 3, ground := Ground.guard }], guard := some (3, true) }) rfl (fun K hK => ?_) AllReadyH.nil
          go_simp
          go_at_call 58
          refine (C2.out _ (HE.out.below HBc.out)).mono ?_
          rintro e wB ⟨rfl, hb⟩
          have HBc : Hid (Below W.heap.size W wB) := HBc.out.trans (hb.mono HBc.out.size)
          refine hK.out _ _ ⟨(Blk.below HM.out HBc.out).cell 0, (Blk.below HM.out HBc.out).cell 1, (Blk.below HM.out HBc.out).cell 2, (Blk.below HM.out HBc.out).cell 3⟩ (fun hHeld => ?_)
          clear hK K hb
          try simp only [Act.put, List.setIfInBounds_toArray, List.set_cons_zero, List.set_cons_succ]
          refine wpAnyH_take (i := 7) (oi := { dst := some 10, op := Op.pick (Operand.tmp 6) (Operand.tmp 9) (Operand.const (Value.bool false)), type := 4, pos := "l5_bounce.go:117", after := #[{ on := 3, ground := Ground.data }, { on := 6, ground := Ground.data }], guard := none }) (v := .bool true) rfl (by kernel_rfl) (by kernel_rfl) (by kernel_rfl) (fun _ _ _ h => h) (Or.inl ⟨by rfl, fun wz hSw => ?_⟩) hHeld ?_
          · obtain ⟨e0, e1, e2, e3⟩ := hSw
            clear hHeld
            go_simp
          simp only [Act.put, List.setIfInBounds_toArray, List.set_cons_zero, List.set_cons_succ]
          refine wpAnyH_take (i := 8) (oi := { dst := some 11, op := Op.move (Operand.tmp 10), type := 4, pos := "l5_bounce.go:117", after := #[{ on := 7, ground := Ground.data }, { on := 6, ground := Ground.chain }], guard := none }) (v := .bool true) rfl (by kernel_rfl) (by kernel_rfl) (by kernel_rfl) (fun _ _ _ h => h) (Or.inl ⟨by rfl, fun wz hSw => ?_⟩) hHeld ?_
          · obtain ⟨e0, e1, e2, e3⟩ := hSw
            clear hHeld
            go_simp
          simp only [Act.put, List.setIfInBounds_toArray, List.set_cons_zero, List.set_cons_succ]
          refine wpAnyH_take (i := 9) (oi := { dst := some 12, op := Op.fieldAddr 31 (Operand.tmp 1) 2, type := 0, pos := "l5_bounce.go:117", after := #[{ on := 8, ground := Ground.guard }], guard := some (8, true) }) (v := .pointer (some ⟨w.heap.size, 2, none⟩)) rfl (by kernel_rfl) (by kernel_rfl) (by kernel_rfl) (fun _ _ _ h => h) (Or.inl ⟨by rfl, fun wz hSw => ?_⟩) hHeld ?_
          · obtain ⟨e0, e1, e2, e3⟩ := hSw
            clear hHeld
            go_simp
          simp only [Act.put, List.setIfInBounds_toArray, List.set_cons_zero, List.set_cons_succ]
          refine wpAnyH_take (i := 10) (oi := { dst := some 13, op := Op.load 3 (Operand.tmp 12), type := 3, pos := "l5_bounce.go:117", after := #[{ on := 9, ground := Ground.data }, { on := 8, ground := Ground.guard }], guard := some (8, true) }) (v := .int .i64 cd) rfl (by kernel_rfl) (by kernel_rfl) (by kernel_rfl) (fun _ _ _ h => h) (Or.inl ⟨by rfl, fun wz hSw => ?_⟩) hHeld ?_
          · obtain ⟨e0, e1, e2, e3⟩ := hSw
            clear hHeld
            go_simp
          simp only [Act.put, List.setIfInBounds_toArray, List.set_cons_zero, List.set_cons_succ]
          refine wpAnyH_ready (rs := [11]) (by kernel_rfl) (by simp) ?_
          refine AllReadyH.cons (o := { dst := some 14, op := Op.call { callee := Callee.value (Operand.func 59), args := #[Operand.tmp 13], argTypes := #[3] }, type := 4, pos := "l5_bounce.go:117", after := #[{ on := 10, ground := Ground.data }, { on := 8, ground := Ground.chain }, { on := 8, ground := Ground.guard }], guard := some (8, true) }) rfl (fun K hK => ?_) AllReadyH.nil
          go_simp
          go_at_call 59
          refine (C3.out _).mono ?_
          rintro e wC ⟨rfl, hb⟩
          have HBc : Hid (Below W.heap.size W wC) := HBc.out.trans (hb.mono HBc.out.size)
          refine hK.out _ _ ⟨(Blk.below HM.out HBc.out).cell 0, (Blk.below HM.out HBc.out).cell 1, (Blk.below HM.out HBc.out).cell 2, (Blk.below HM.out HBc.out).cell 3⟩ (fun hHeld => ?_)
          clear hK K hb
          try simp only [Act.put, List.setIfInBounds_toArray, List.set_cons_zero, List.set_cons_succ]
          refine wpAnyH_take (i := 12) (oi := { dst := some 15, op := Op.pick (Operand.tmp 11) (Operand.tmp 14) (Operand.const (Value.bool false)), type := 4, pos := "l5_bounce.go:117", after := #[{ on := 8, ground := Ground.data }, { on := 11, ground := Ground.data }], guard := none }) (v := .bool true) rfl (by kernel_rfl) (by kernel_rfl) (by kernel_rfl) (fun _ _ _ h => h) (Or.inl ⟨by rfl, fun wz hSw => ?_⟩) hHeld ?_
          · obtain ⟨e0, e1, e2, e3⟩ := hSw
            clear hHeld
            go_simp
          simp only [Act.put, List.setIfInBounds_toArray, List.set_cons_zero, List.set_cons_succ]
          refine wpAnyH_take (i := 13) (oi := { dst := some 16, op := Op.move (Operand.tmp 15), type := 4, pos := "l5_bounce.go:117", after := #[{ on := 12, ground := Ground.data }, { on := 11, ground := Ground.chain }], guard := none }) (v := .bool true) rfl (by kernel_rfl) (by kernel_rfl) (by kernel_rfl) (fun _ _ _ h => h) (Or.inl ⟨by rfl, fun wz hSw => ?_⟩) hHeld ?_
          · obtain ⟨e0, e1, e2, e3⟩ := hSw
            clear hHeld
            go_simp
          simp only [Act.put, List.setIfInBounds_toArray, List.set_cons_zero, List.set_cons_succ]
          refine wpAnyH_take (i := 14) (oi := { dst := some 17, op := Op.fieldAddr 31 (Operand.tmp 1) 3, type := 0, pos := "l5_bounce.go:117", after := #[{ on := 13, ground := Ground.guard }], guard := some (13, true) }) (v := .pointer (some ⟨w.heap.size, 3, none⟩)) rfl (by kernel_rfl) (by kernel_rfl) (by kernel_rfl) (fun _ _ _ h => h) (Or.inl ⟨by rfl, fun wz hSw => ?_⟩) hHeld ?_
          · obtain ⟨e0, e1, e2, e3⟩ := hSw
            clear hHeld
            go_simp
          simp only [Act.put, List.setIfInBounds_toArray, List.set_cons_zero, List.set_cons_succ]
          refine wpAnyH_take (i := 15) (oi := { dst := some 18, op := Op.load 9 (Operand.tmp 17), type := 9, pos := "l5_bounce.go:117", after := #[{ on := 14, ground := Ground.data }, { on := 13, ground := Ground.guard }], guard := some (13, true) }) (v := .string tx) rfl (by kernel_rfl) (by kernel_rfl) (by kernel_rfl) (fun _ _ _ h => h) (Or.inl ⟨by rfl, fun wz hSw => ?_⟩) hHeld ?_
          · obtain ⟨e0, e1, e2, e3⟩ := hSw
            clear hHeld
            go_simp
          simp only [Act.put, List.setIfInBounds_toArray, List.set_cons_zero, List.set_cons_succ]
          refine wpAnyH_take (i := 17) (oi := { dst := some 20, op := Op.fieldAddr 31 (Operand.tmp 1) 3, type := 0, pos := "l5_bounce.go:117", after := #[{ on := 13, ground := Ground.guard }], guard := some (13, true) }) (v := .pointer (some ⟨w.heap.size, 3, none⟩)) rfl (by kernel_rfl) (by kernel_rfl) (by kernel_rfl) (fun _ _ _ h => h) (Or.inl ⟨by rfl, fun wz hSw => ?_⟩) hHeld ?_
          · obtain ⟨e0, e1, e2, e3⟩ := hSw
            clear hHeld
            go_simp
          simp only [Act.put, List.setIfInBounds_toArray, List.set_cons_zero, List.set_cons_succ]
          refine wpAnyH_take (i := 18) (oi := { dst := some 21, op := Op.load 9 (Operand.tmp 20), type := 9, pos := "l5_bounce.go:117", after := #[{ on := 17, ground := Ground.data }, { on := 13, ground := Ground.guard }], guard := some (13, true) }) (v := .string tx) rfl (by kernel_rfl) (by kernel_rfl) (by kernel_rfl) (fun _ _ _ h => h) (Or.inl ⟨by rfl, fun wz hSw => ?_⟩) hHeld ?_
          · obtain ⟨e0, e1, e2, e3⟩ := hSw
            clear hHeld
            go_simp
          simp only [Act.put, List.setIfInBounds_toArray, List.set_cons_zero, List.set_cons_succ]
          refine wpAnyH_ready (rs := [16]) (by kernel_rfl) (by simp) ?_
          refine AllReadyH.cons (o := { dst := some 19, op := Op.call { callee := Callee.value (Operand.func 60), args := #[Operand.tmp 18], argTypes := #[9] }, type := 9, pos := "l5_bounce.go:117", after := #[{ on := 15, ground := Ground.data }, { on := 13, ground := Ground.chain }, { on := 13, ground := Ground.guard }], guard := some (13, true) }) rfl (fun K hK => ?_) AllReadyH.nil
          go_simp
          go_at_call 60
          refine (C4.out _).mono ?_
          rintro e wD ⟨rfl, hb⟩
          have HBc : Hid (Below W.heap.size W wD) := HBc.out.trans (hb.mono HBc.out.size)
          refine hK.out _ _ ⟨(Blk.below HM.out HBc.out).cell 0, (Blk.below HM.out HBc.out).cell 1, (Blk.below HM.out HBc.out).cell 2, (Blk.below HM.out HBc.out).cell 3⟩ (fun hHeld => ?_)
          clear hK K hb
          try simp only [Act.put, List.setIfInBounds_toArray, List.set_cons_zero, List.set_cons_succ]
          refine wpAnyH_take (i := 19) (oi := { dst := some 22, op := Op.binOp BinOp.eql 9 (Operand.tmp 19) (Operand.tmp 21) 9, type := 4, pos := "l5_bounce.go:117", after := #[{ on := 16, ground := Ground.data }, { on := 18, ground := Ground.data }, { on := 13, ground := Ground.guard }], guard := some (13, true) }) (v := .bool false) rfl (by kernel_rfl) (by kernel_rfl) (by kernel_rfl) (fun _ _ _ h => h) (Or.inl ⟨by rfl, fun wz hSw => ?_⟩) hHeld ?_
          · obtain ⟨e0, e1, e2, e3⟩ := hSw
            clear hHeld
            go_simp
          simp only [Act.put, List.setIfInBounds_toArray, List.set_cons_zero, List.set_cons_succ]
          refine wpAnyH_take (i := 20) (oi := { dst := some 23, op := Op.pick (Operand.tmp 16) (Operand.tmp 22) (Operand.const (Value.bool false)), type := 4, pos := "l5_bounce.go:117", after := #[{ on := 13, ground := Ground.data }, { on := 19, ground := Ground.data }], guard := none }) (v := .bool false) rfl (by kernel_rfl) (by kernel_rfl) (by kernel_rfl) (fun _ _ _ h => h) (Or.inl ⟨by rfl, fun wz hSw => ?_⟩) hHeld ?_
          · obtain ⟨e0, e1, e2, e3⟩ := hSw
            clear hHeld
            go_simp
          simp only [Act.put, List.setIfInBounds_toArray, List.set_cons_zero, List.set_cons_succ]
          refine wpAnyH_take (i := 21) (oi := { dst := some 2, op := Op.assign (Operand.tmp 23), type := 4, pos := "l5_bounce.go:117", after := #[{ on := 20, ground := Ground.data }, { on := 16, ground := Ground.chain }, { on := 0, ground := Ground.phase }, { on := 1, ground := Ground.phase }, { on := 2, ground := Ground.phase }, { on := 3, ground := Ground.phase }, { on := 4, ground := Ground.phase }, { on := 5, ground := Ground.phase }, { on := 6, ground := Ground.phase }, { on := 7, ground := Ground.phase }, { on := 8, ground := Ground.phase }, { on := 9, ground := Ground.phase }, { on := 10, ground := Ground.phase }, { on := 11, ground := Ground.phase }, { on := 12, ground := Ground.phase }, { on := 13, ground := Ground.phase }, { on := 14, ground := Ground.phase }, { on := 15, ground := Ground.phase }, { on := 16, ground := Ground.phase }, { on := 17, ground := Ground.phase }, { on := 18, ground := Ground.phase }, { on := 19, ground := Ground.phase }, { on := 20, ground := Ground.phase }], guard := none }) (v := .bool false) rfl (by kernel_rfl) (by kernel_rfl) (by kernel_rfl) (fun _ _ _ h => h) (Or.inl ⟨by rfl, fun wz hSw => ?_⟩) hHeld ?_
          · obtain ⟨e0, e1, e2, e3⟩ := hSw
            clear hHeld
            go_simp
          simp only [Act.put, List.setIfInBounds_toArray, List.set_cons_zero, List.set_cons_succ]
          refine wpAnyH_done (by kernel_rfl) ?_ _
          go_simp
          go_wp2
          go_ret
          exact ⟨ret_bool G.out.symm, HB0.out.trans (HBc.out.mono HZ.out)⟩
end Go.Proofs.YtlolnfpfipnfeaaGreatDoor
