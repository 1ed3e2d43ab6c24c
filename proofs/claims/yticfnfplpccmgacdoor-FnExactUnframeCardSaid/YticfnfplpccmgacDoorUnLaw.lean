import Derived.Test.YticfnfplpccmgacDoorStrs
import Derived.Test.YticfnfplpccmgacDoorSpecUn
import Derived.Test.YticfnfplpccmgacDoorImplUn
import Derived.Test.YticfnfplpccmgacDoorDoor
namespace Go.Proofs.YticfnfplpccmgacDoor
open Go.ChangeShapes Go.WideShapes Go.ChangeAt Go.RowKit
open Go.ChangeMaps (open_string)

set_option maxHeartbeats 1000000 in
set_option maxRecDepth 100000 in
theorem unframeLaw (s : ByteArray) (w : World) (hs : s.size ≤ maxLen) (ht : TabIn w) :
    Calls Tryd.prog 5 #[.string s] w fun e w' => e = .returned (.bool true) ∧ Below w.heap.size w w' := by
  have HT : Hid (TabIn w) := ht
  unfold maxLen at hs
  clear ht
  by_cases hbig : 1048576 < s.size
  · go_enter Tryd.func5, Tryd.ntmps5
    go_wp2
    go_ret
    exact ⟨rfl, Below.refl _ _⟩
  · have hs1 : s.size ≤ 1048576 := by omega
    have hlen : 1 + (unfr s).1.length ≤ 16777216 := by have := unfr_len s; omega
    go_enter Tryd.func5, Tryd.ntmps5
    go_wp2_with fail
    refine (specUnframe s _ hs1).mono ?_
    rintro e w1 ⟨⟨v1, rfl, S1⟩, hb1⟩
    go_wp2_with fail
    refine (implUnframe s _ hs1 (tab_below HT.out hb1)).mono ?_
    rintro e w2 ⟨⟨v2, rfl, S2⟩, hb2⟩
    have S12 := strs_below S1 hb2 (Nat.le_refl _)
    go_wp2_with fail
    refine (eqStrs v2 v1 _ _ _ _ S2 S12).mono ?_
    rintro e w3 ⟨rfl, hb3⟩
    have S23 := strs_below S2 hb3 (Nat.le_refl _)
    have hz12 := hb2.size
    have hz23 := hb3.size
    go_wp2_with fail
    refine (markStrs v2 _ _ 1 _ S23 (by omega) (Nat.le_refl _) hlen).mono ?_
    rintro e w4 ⟨rfl, S24, hb4⟩
    have hz34 := hb4.size
    go_wp2_with fail
    refine (heldStrs v2 _ _ 1 _ S24 (Nat.le_refl _) hlen).mono ?_
    rintro e w5 ⟨rfl, hb5⟩
    have hz45 := hb5.size
    have b3 : Below w.heap.size w w3 := (hb1.trans (hb2.mono hb1.size)).trans (hb3.mono (by have := hb1.size; omega))
    have b5 : Below w.heap.size w w5 := (b3.trans (hb4.mono hb1.size)).trans (hb5.mono (by have := hb1.size; omega))
    have S15 : Strs w5 w.heap.size v1 (unfr s).1 := strs_below (strs_below_at (strs_below S12 hb3 (Nat.le_refl _)) hb4 (strs_own S1)) hb5 (Nat.le_refl _)
    go_wp2_with fail
    refine (implUnframe s _ hs1 (tab_below HT.out b5)).mono ?_
    rintro e w6 ⟨⟨v3, rfl, S6⟩, hb6⟩
    have hz56 := hb6.size
    go_wp2_with fail
    refine (eqStrs v3 v1 _ _ _ _ S6 (strs_below S15 hb6 (Nat.le_refl _))).mono ?_
    rintro e w7 ⟨rfl, hb7⟩
    go_wp2
    go_ret
    exact ⟨rfl, (b5.trans (hb6.mono (by have := hb1.size; omega))).trans (hb7.mono (by have := hb1.size; omega))⟩

set_option maxRecDepth 100000 in
theorem unframeContract (H : Type) (enc : TypeId × Value → H) (W : World) (base : Nat) (args : Array Value) (ds gs : List (DataW H)) (before : List MemPlace)
    (hval : ∀ (j : Nat) t v, Tryd.f5.params[j]? = some t → args[j]? = some v → Value.okWide Tryd.prog W .any base t v)
    (hW : DataW.Whole enc Tryd.prog Tryd.f5.params.toList Rows.fnExactUnframeSpec.vars false W args.toList ds gs before) (hL : laidMetH Tryd.prog Rows.fnExactUnframeRow.laid W) :
    Calls Tryd.prog 5 args W fun e W' => ∃ v, e = .returned v ∧ Rows.fnExactUnframeSpec.post enc Tryd.prog Tryd.f5 false true false false W args v W' := by
  have hW' := hW
  obtain ⟨p, q, hA0, hV, rfl, hfz, hnd⟩ := hW
  have hA : DataW.TrodAll enc Tryd.prog W 0 (fun _ => true) true Tryd.f5.params.toList args.toList ds p := hA0
  rw [Tryd.params5] at hA hval
  obtain ⟨v0, vs0, d0, ds0, p0, q0, hargs, rfl, rfl, h0, r0⟩ := trodAll_cons hA
  obtain ⟨rfl, rfl, rfl⟩ := trodAll_nil r0
  obtain rfl : args = #[v0] := by cases args; simp_all
  obtain ⟨s, rfl, rfl, rfl, hs⟩ := open_string Tryd.underlying9 (hval 0 9 v0 rfl rfl) h0
  obtain ⟨g0, rfl⟩ := vars_one hV
  clear hA0
  refine (unframeLaw s W hs (tableIn hL)).mono fun e W' ⟨he, hb⟩ => ?_
  subst he
  exact ⟨_, rfl, LawBase.lawPost 4 laidOut (by kernel_rfl) (by kernel_rfl) (by kernel_rfl) Tryd.underlying4 hW' rfl hb⟩

set_option maxRecDepth 100000 in
theorem unframeMet (os : Os) : laidMet Tryd.prog Rows.fnExactUnframeRow.laid ((laidOver (World.holding Tryd.prog os ⟨#[], #[], []⟩)).forCall (fun _ _ => 0) ⟨#[], #[.string ByteArray.empty], []⟩).memory :=
  laidMet_of_run' 8 (by kernel_rfl) (by kernel_rfl)
theorem unframeReads (os : Os) {H : Type} (enc : TypeId × Value → H) : ∃ places, DataW.whole enc Tryd.prog ((laidOver (World.holding Tryd.prog os ⟨#[], #[], []⟩)).forCall (fun _ _ => 0) ⟨#[], #[.string ByteArray.empty], []⟩).memory Tryd.f5.params.toList Rows.fnExactUnframeSpec.vars false (#[.string ByteArray.empty] : Array Value).toList 8 = some ([.lit (.string [])], [Rows.laid_loop_example_s01729_impl_checksumTable], places) :=
  read_of (by kernel_rfl)

set_option maxRecDepth 100000 in
theorem unframeLifted (os : Os) (started : os.Started) (H : Type) (enc : TypeId × Value → H) (F : Stop.Interp) :
    ReturnsInHanded {} Tryd.checked os 5 .any ((OpenSpec.ofChange Rows.fnExactUnframeSpec).preRow enc Tryd.prog Tryd.f5 Rows.fnExactUnframeRow.domain false Rows.fnExactUnframeRow.laid) (((OpenSpec.ofChange Rows.fnExactUnframeSpec).at F).post enc Tryd.prog Tryd.f5 false true false false) := by
  obtain ⟨places, hx⟩ := unframeReads os enc
  refine returnsInHanded_of_row (C := Tryd.checked) (s := OpenSpec.ofChange Rows.fnExactUnframeSpec) own started (by kernel_rfl) Tryd.func5
    (witness_row_at (enc := enc) (C := Tryd.checked) false (laidOver (World.holding Tryd.prog os ⟨#[], #[], []⟩)) #[.string ByteArray.empty] rfl (by kernel_rfl) (by kernel_rfl) (by kernel_rfl)
      (OpenSpec.preRow_of_cond 8 hx (by kernel_rfl) (fun k hk => by cases hk) (by kernel_rfl) (unframeMet os))) ?_
  intro W base args ds gs before hval hW _ _ _ hL _ _
  exact unframeContract H enc W base args ds gs before hval hW hL

set_option maxRecDepth 100000 in
theorem unframeSaid : Rows.FnExactUnframeSaid :=
  OpenClaim.holds_of_cond 5 Tryd.f5 rfl rfl rfl rfl rfl rfl rfl ⟨rfl, rfl, rfl, rfl, rfl⟩ rfl rfl rfl rfl rfl (by kernel_rfl) Tryd.func5 (by kernel_rfl)
    (of_decide_eq_true (by kernel_rfl)) (by unfold Func.isWrapper; first | (rw [if_pos (by decide +kernel)]; kernel_rfl) | (rw [if_neg (by decide +kernel)]; exact ⟨rfl, rfl⟩))
    (fun os started H enc _ F => by rw [OpenClaim.pre_eq_preRow]; exact unframeLifted os started H enc F)

set_option maxRecDepth 100000 in
theorem unframePlain (f : FuncId) (fn : Func) (hf : Tryd.pinned.checked.prog.funcNamed "loop.example/s01729/laws.FnExactUnframe" = some f) (hfn : Tryd.pinned.checked.prog.funcs[f]? = some fn) :
    false = Tryd.pinned.checked.prog.looks [] ∧ ∀ (j : Nat) t, fn.params[j]? = some t → Tryd.pinned.checked.prog.wantsStandIn t = false := by
  obtain rfl : f = 5 := Option.some.inj ((show Tryd.prog.funcNamed "loop.example/s01729/laws.FnExactUnframe" = some 5 by kernel_rfl).symm.trans hf) |>.symm
  obtain rfl : fn = Tryd.f5 := (Option.some.inj (Tryd.func5.symm.trans hfn)).symm
  refine ⟨by kernel_rfl, fun j t ht => ?_⟩
  rw [Tryd.params5] at ht
  have hall : ∀ t ∈ ([9] : List TypeId), Tryd.prog.wantsStandIn t = false := fun t h => by
    have h2 : ([9] : List TypeId).all (fun t => !Tryd.prog.wantsStandIn t) = true := by kernel_rfl
    simpa using List.all_eq_true.1 h2 t h
  exact hall t (by simpa using Array.mem_of_getElem? ht)

set_option maxRecDepth 100000 in
theorem unframeCard : Rows.FnExactUnframeCardSaid :=
  Claim7.holds_tied_plain_at .later [] _ _ _ _ unframeSaid (fun _ h => by cases h) (by kernel_rfl) (fun _ h => by cases h) fnExactUnframe_row_tie rfl ⟨rfl, rfl⟩ (by kernel_rfl) rfl unframePlain (by kernel_rfl)
#print axioms unframeCard
end Go.Proofs.YticfnfplpccmgacDoor
