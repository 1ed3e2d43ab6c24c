import Derived.Test.YticfnfplpccmgadDoorStrs
import Derived.Test.YticfnfplpccmgadDoorMount
import Derived.Test.YticfnfplpccmgadDoorDoor
namespace Go.Proofs.YticfnfplpccmgadDoor
open Go.ChangeShapes Go.WideShapes Go.ChangeAt Go.RowKit

set_option maxHeartbeats 4000000 in
set_option maxRecDepth 100000 in
theorem mountLaw (m l t x : ByteArray) (h : Bool) (w : World) (hm : m.size ≤ maxLen) (hl : l.size ≤ maxLen) (ht : t.size ≤ maxLen) (hx : x.size ≤ maxLen) (tb : TabIn w) :
    Calls Tryd.prog 4 #[.agg #[.string m, .string l, .bool h, .string t, .string x]] w fun e w' => e = .returned (.bool true) ∧ Below w.heap.size w w' := by
  have HT : Hid (TabIn w) := tb
  clear tb
  go_enter Tryd.func4, Tryd.ntmps4
  go_wp2_with fail
  refine (szDisk m l t x h 1048576 _ (by decide) (by decide) hm hl ht hx).mono ?_
  rintro e w1 ⟨r, rfl, hr, hr1, hr2, hb1⟩
  have hz1 : w.heap.size < w1.heap.size := by have := hb1.size; simp at this; omega
  have D1 : Hid (DiskAt w1 w.heap.size m l h t x) := (diskAt_new w m l h t x _).below hb1 (by simp)
  by_cases hneg : r < 0
  · go_wp2
    go_ret
    exact ⟨rfl, (below1 _ _).trans (hb1.mono (by simp))⟩
  · have hms : m.size ≤ 1048576 := by omega
    have hlen : 1 + (unfr m).1.length ≤ 16777216 := by have := unfr_len m; omega
    have g1 : Below w.heap.size w w1 := (below1 w _).trans (hb1.mono (by simp))
    clear hr hm hl ht hx hb1
    obtain ⟨c0, c1, c2, c3, c4⟩ := D1.out
    go_wp2_with fail
    clear c0 c1 c2 c3 c4
    refine (toDisk m l t x h _).mono ?_
    rintro e w2 ⟨rfl, hb2⟩
    have hz2 : w1.heap.size ≤ w2.heap.size := hb2.size
    go_wp2_with fail
    refine (specMount m l t x h _ hms).mono ?_
    rintro e w3 ⟨⟨v3, rfl, S3⟩, hb3⟩
    have hz3 : w2.heap.size ≤ w3.heap.size := hb3.size
    obtain ⟨K, HK⟩ : ∃ K, Hid (m.extract 0 (unfr m).2 = K) := ⟨_, rfl⟩
    rw [HK.out]
    have g3 : Below w.heap.size w w3 := (g1.trans (hb2.mono (by omega))).trans (hb3.mono (by omega))
    have D3 : Hid (DiskAt w3 w.heap.size m l h t x) := (D1.out.below hb2 (by omega)).below hb3 (by omega)
    clear hb2 hb3
    have hz3' : w.heap.size < w3.heap.size := by omega
    obtain ⟨c0, c1, c2, c3, c4⟩ := D3.out
    go_wp2_with fail
    clear c0 c1 c2 c3 c4
    refine (toDisk m l t x h _).mono ?_
    rintro e w4 ⟨rfl, hb4⟩
    have hz4 : w3.heap.size < w4.heap.size := by have := hb4.size; simp at this; omega
    have E4 : Hid (DiskAt w4 w3.heap.size K ⟨#[]⟩ false ⟨#[]⟩ ⟨#[]⟩) := (diskAt_new w3 K ⟨#[]⟩ false ⟨#[]⟩ ⟨#[]⟩ _).below hb4 (by simp)
    have g34 : Below w3.heap.size w3 w4 := (below1 w3 _).trans (hb4.mono (by simp))
    have g4 : Below w.heap.size w w4 := g3.trans (g34.mono (by omega))
    clear hb4
    go_wp2_with fail
    refine (implMount m l t x h _ hms (tab_below HT.out g4)).mono ?_
    rintro e w5 ⟨⟨v5, rfl, S5⟩, hb5⟩
    rw [HK.out]
    have hz5 : w4.heap.size ≤ w5.heap.size := hb5.size
    have E5 : Hid (DiskAt w5 w3.heap.size K ⟨#[]⟩ false ⟨#[]⟩ ⟨#[]⟩) := E4.out.below hb5 (by omega)
    have D5 : Hid (DiskAt w5 w.heap.size m l h t x) := (D3.out.below g34 (by omega)).below hb5 (by omega)
    have S35 : Strs w5 w2.heap.size v3 (unfr m).1 := strs_below (strs_below S3 g34 (Nat.le_refl _)) hb5 (Nat.le_refl _)
    have own3 := strs_own S3
    have g5 : Below w.heap.size w w5 := g4.trans (hb5.mono (by omega))
    clear S3 hb5 g34 D1 D3 E4
    have hz5' : w3.heap.size < w5.heap.size := by omega
    obtain ⟨c0, c1, c2, c3, c4⟩ := E5.out
    go_wp2_with fail
    clear c0 c1 c2 c3 c4
    refine (eqDisk K ⟨#[]⟩ ⟨#[]⟩ ⟨#[]⟩ false _).mono ?_
    rintro e w6 ⟨rfl, hb6⟩
    have hb56 : Below w5.heap.size w5 w6 := (below1 w5 _).trans (hb6.mono (by simp))
    have hz6 : w5.heap.size < w6.heap.size := by have := hb6.size; simp at this; omega
    have S56 := strs_below S5 hb56 (Nat.le_refl _)
    have S36 := strs_below S35 hb56 (Nat.le_refl _)
    have D6 : Hid (DiskAt w6 w.heap.size m l h t x) := D5.out.below hb56 (by omega)
    have E6 : Hid (DiskAt w6 w3.heap.size K ⟨#[]⟩ false ⟨#[]⟩ ⟨#[]⟩) := E5.out.below hb56 (by omega)
    have g6 : Below w.heap.size w w6 := g5.trans (hb56.mono (by omega))
    clear S5 S35 D5 E5 hb6 hb56
    go_wp2_with fail
    refine (eqStrs v5 v3 _ _ _ _ S56 S36).mono ?_
    rintro e w7 ⟨rfl, hb7⟩
    have hz7 : w6.heap.size ≤ w7.heap.size := hb7.size
    have S57 := strs_below S56 hb7 (Nat.le_refl _)
    have S37 := strs_below S36 hb7 (Nat.le_refl _)
    have D7 : Hid (DiskAt w7 w.heap.size m l h t x) := D6.out.below hb7 (by omega)
    have E7 : Hid (DiskAt w7 w3.heap.size K ⟨#[]⟩ false ⟨#[]⟩ ⟨#[]⟩) := E6.out.below hb7 (by omega)
    have g7 : Below w.heap.size w w7 := g6.trans (hb7.mono (by omega))
    clear S56 S36 D6 E6 hb7
    go_wp2_with fail
    refine (markStrs v5 _ _ 1 _ S57 (by omega) (Nat.le_refl _) hlen).mono ?_
    rintro e w8 ⟨rfl, S58, hb8⟩
    have hz8 : w7.heap.size ≤ w8.heap.size := hb8.size
    have S38 : Strs w8 w2.heap.size v3 (unfr m).1 := strs_below_at S37 hb8 (fun g hg => Nat.lt_of_lt_of_le (own3 g hg) (by omega))
    have D8 : Hid (DiskAt w8 w.heap.size m l h t x) := D7.out.below hb8 (by omega)
    have E8 : Hid (DiskAt w8 w3.heap.size K ⟨#[]⟩ false ⟨#[]⟩ ⟨#[]⟩) := E7.out.below hb8 (by omega)
    have g8 : Below w.heap.size w w8 := g7.trans (hb8.mono (by omega))
    clear S57 S37 D7 E7 hb8
    go_wp2_with fail
    refine (heldStrs v5 _ _ 1 _ S58 (Nat.le_refl _) hlen).mono ?_
    rintro e w9 ⟨rfl, hb9⟩
    have hz9 : w8.heap.size ≤ w9.heap.size := hb9.size
    have S39 := strs_below S38 hb9 (Nat.le_refl _)
    have D9 : DiskAt w9 w.heap.size m l h t x := D8.out.below hb9 (by omega)
    have E9 : Hid (DiskAt w9 w3.heap.size K ⟨#[]⟩ false ⟨#[]⟩ ⟨#[]⟩) := E8.out.below hb9 (by omega)
    have g9 : Below w.heap.size w w9 := g8.trans (hb9.mono (by omega))
    clear S58 S38 D8 E8 hb9
    obtain ⟨c0, c1, c2, c3, c4⟩ := D9
    go_wp2_with fail
    clear c0 c1 c2 c3 c4
    refine (toDisk m l t x h _).mono ?_
    rintro e wa ⟨rfl, hba⟩
    have hza : w9.heap.size ≤ wa.heap.size := hba.size
    have ga : Below w.heap.size w wa := g9.trans (hba.mono (by omega))
    have S3a := strs_below S39 hba (Nat.le_refl _)
    have Ea : Hid (DiskAt wa w3.heap.size K ⟨#[]⟩ false ⟨#[]⟩ ⟨#[]⟩) := E9.out.below hba (by omega)
    clear hba S39 E9
    go_wp2_with fail
    refine (implMount m l t x h _ hms (tab_below HT.out ga)).mono ?_
    rintro e wb ⟨⟨vb, rfl, Sb⟩, hbb⟩
    rw [HK.out]
    have hzb : wa.heap.size ≤ wb.heap.size := hbb.size
    have gb : Below w.heap.size w wb := ga.trans (hbb.mono (by omega))
    have S3b := strs_below S3a hbb (Nat.le_refl _)
    have Eb : DiskAt wb w3.heap.size K ⟨#[]⟩ false ⟨#[]⟩ ⟨#[]⟩ := Ea.out.below hbb (by omega)
    clear hbb S3a Ea
    have hzb' : w3.heap.size < wb.heap.size := by omega
    obtain ⟨c0, c1, c2, c3, c4⟩ := Eb
    go_wp2_with fail
    clear c0 c1 c2 c3 c4
    refine (eqDisk K ⟨#[]⟩ ⟨#[]⟩ ⟨#[]⟩ false _).mono ?_
    rintro e wc ⟨rfl, hbc⟩
    have hbbc : Below wb.heap.size wb wc := (below1 wb _).trans (hbc.mono (by simp))
    have Sc := strs_below Sb hbbc (Nat.le_refl _)
    have S3c := strs_below S3b hbbc (Nat.le_refl _)
    have gc : Below w.heap.size w wc := gb.trans (hbbc.mono (by omega))
    have hzc : wb.heap.size ≤ wc.heap.size := hbbc.size
    clear Sb S3b hbc hbbc
    go_wp2_with fail
    refine (eqStrs vb v3 _ _ _ _ Sc S3c).mono ?_
    rintro e wd ⟨rfl, hbd⟩
    go_wp2
    go_ret
    exact ⟨rfl, gc.trans (hbd.mono (by omega))⟩

set_option maxRecDepth 100000 in
theorem mountContract (H : Type) (enc : TypeId × Value → H) (W : World) (base : Nat) (args : Array Value) (ds gs : List (DataW H)) (before : List MemPlace)
    (hval : ∀ (j : Nat) t v, Tryd.f4.params[j]? = some t → args[j]? = some v → Value.okWide Tryd.prog W .any base t v)
    (hW : DataW.Whole enc Tryd.prog Tryd.f4.params.toList Rows.fnExactMountSpec.vars false W args.toList ds gs before) (hL : laidMetH Tryd.prog Rows.fnExactMountRow.laid W) :
    Calls Tryd.prog 4 args W fun e W' => ∃ v, e = .returned v ∧ Rows.fnExactMountSpec.post enc Tryd.prog Tryd.f4 false true false false W args v W' := by
  have hW' := hW
  obtain ⟨p, q, hA0, hV, rfl, hfz, hnd⟩ := hW
  have hA : DataW.TrodAll enc Tryd.prog W 0 (fun _ => true) true Tryd.f4.params.toList args.toList ds p := hA0
  rw [Tryd.params4] at hA hval
  obtain ⟨v0, vs0, d0, ds0, p0, q0, hargs, rfl, rfl, h0, r0⟩ := trodAll_cons hA
  obtain ⟨rfl, rfl, rfl⟩ := trodAll_nil r0
  obtain rfl : args = #[v0] := by cases args; simp_all
  obtain ⟨m, l, h, t, x, rfl, hm, hl, ht, hx⟩ := openDisk (hval 0 31 v0 rfl rfl) h0
  obtain ⟨g0, rfl⟩ := vars_one hV
  clear hA0
  refine (mountLaw m l t x h W hm hl ht hx (tableIn hL)).mono fun e W' ⟨he, hb⟩ => ?_
  subst he
  exact ⟨_, rfl, LawBase.lawPost 4 laidOut (by kernel_rfl) (by kernel_rfl) (by kernel_rfl) Tryd.underlying4 hW' rfl hb⟩

set_option maxRecDepth 100000 in
theorem mountMet (os : Os) : laidMet Tryd.prog Rows.fnExactMountRow.laid ((laidOver (World.holding Tryd.prog os ⟨#[], #[], []⟩)).forCall (fun _ _ => 0) ⟨#[], #[.agg #[.string ByteArray.empty, .string ByteArray.empty, .bool false, .string ByteArray.empty, .string ByteArray.empty]], []⟩).memory :=
  laidMet_of_run' 8 (by kernel_rfl) (by kernel_rfl)
theorem mountReads (os : Os) {H : Type} (enc : TypeId × Value → H) : ∃ places, DataW.whole enc Tryd.prog ((laidOver (World.holding Tryd.prog os ⟨#[], #[], []⟩)).forCall (fun _ _ => 0) ⟨#[], #[.agg #[.string ByteArray.empty, .string ByteArray.empty, .bool false, .string ByteArray.empty, .string ByteArray.empty]], []⟩).memory Tryd.f4.params.toList Rows.fnExactMountSpec.vars false (#[.agg #[.string ByteArray.empty, .string ByteArray.empty, .bool false, .string ByteArray.empty, .string ByteArray.empty]] : Array Value).toList 8 = some ([.agg [.lit (.string []), .lit (.string []), .lit (.bool false), .lit (.string []), .lit (.string [])]], [Rows.laid_loop_example_s01729_impl_checksumTable], places) :=
  read_of (by kernel_rfl)

set_option maxRecDepth 100000 in
theorem mountLifted (os : Os) (started : os.Started) (H : Type) (enc : TypeId × Value → H) (F : Stop.Interp) :
    ReturnsInHanded {} Tryd.checked os 4 .any ((OpenSpec.ofChange Rows.fnExactMountSpec).preRow enc Tryd.prog Tryd.f4 Rows.fnExactMountRow.domain false Rows.fnExactMountRow.laid) (((OpenSpec.ofChange Rows.fnExactMountSpec).at F).post enc Tryd.prog Tryd.f4 false true false false) := by
  obtain ⟨places, hx⟩ := mountReads os enc
  refine returnsInHanded_of_row (C := Tryd.checked) (s := OpenSpec.ofChange Rows.fnExactMountSpec) own started (by kernel_rfl) Tryd.func4
    (witness_row_at (enc := enc) (C := Tryd.checked) false (laidOver (World.holding Tryd.prog os ⟨#[], #[], []⟩)) #[.agg #[.string ByteArray.empty, .string ByteArray.empty, .bool false, .string ByteArray.empty, .string ByteArray.empty]] rfl (by kernel_rfl) (by kernel_rfl) (by kernel_rfl)
      (OpenSpec.preRow_of_cond 8 hx (by kernel_rfl) (fun k hk => by cases hk) (by kernel_rfl) (mountMet os))) ?_
  intro W base args ds gs before hval hW _ _ _ hL _ _
  exact mountContract H enc W base args ds gs before hval hW hL

set_option maxRecDepth 100000 in
theorem mountSaid : Rows.FnExactMountSaid :=
  OpenClaim.holds_of_cond 4 Tryd.f4 rfl rfl rfl rfl rfl rfl rfl ⟨rfl, rfl, rfl, rfl, rfl⟩ rfl rfl rfl rfl rfl (by kernel_rfl) Tryd.func4 (by kernel_rfl)
    (of_decide_eq_true (by kernel_rfl)) (by unfold Func.isWrapper; first | (rw [if_pos (by decide +kernel)]; kernel_rfl) | (rw [if_neg (by decide +kernel)]; exact ⟨rfl, rfl⟩))
    (fun os started H enc _ F => by rw [OpenClaim.pre_eq_preRow]; exact mountLifted os started H enc F)

set_option maxRecDepth 100000 in
theorem mountPlain (f : FuncId) (fn : Func) (hf : Tryd.pinned.checked.prog.funcNamed "loop.example/s01729/laws.FnExactMount" = some f) (hfn : Tryd.pinned.checked.prog.funcs[f]? = some fn) :
    false = Tryd.pinned.checked.prog.looks [] ∧ ∀ (j : Nat) t, fn.params[j]? = some t → Tryd.pinned.checked.prog.wantsStandIn t = false := by
  obtain rfl : f = 4 := Option.some.inj ((show Tryd.prog.funcNamed "loop.example/s01729/laws.FnExactMount" = some 4 by kernel_rfl).symm.trans hf) |>.symm
  obtain rfl : fn = Tryd.f4 := (Option.some.inj (Tryd.func4.symm.trans hfn)).symm
  refine ⟨by kernel_rfl, fun j t ht => ?_⟩
  rw [Tryd.params4] at ht
  have hall : ∀ t ∈ ([31] : List TypeId), Tryd.prog.wantsStandIn t = false := fun t h => by
    have h2 : ([31] : List TypeId).all (fun t => !Tryd.prog.wantsStandIn t) = true := by kernel_rfl
    simpa using List.all_eq_true.1 h2 t h
  exact hall t (by simpa using Array.mem_of_getElem? ht)

set_option maxRecDepth 100000 in
theorem mountCard : Rows.FnExactMountCardSaid :=
  Claim7.holds_tied_plain_at .later [] _ _ _ _ mountSaid (fun _ h => by cases h) (by kernel_rfl) (fun _ h => by cases h) fnExactMount_row_tie rfl ⟨rfl, rfl⟩ (by kernel_rfl) rfl mountPlain (by kernel_rfl)
#print axioms mountCard
end Go.Proofs.YticfnfplpccmgadDoor
