import Derived.Test.YtncgihalaflpaaaDoorSzLawW
import Derived.Test.YtncgihalaflpaaaDoorFoldIn
import Derived.Test.YtncgihalaflpaaaDoorPin
import Derived.Deep.DeepWitnessRowRef
namespace Go.Proofs.YtncgihalaflpaaaDoor
open Go.ChangeShapes Go.WideShapes Go.ChangeAt Go.RowKit

set_option maxRecDepth 100000 in
theorem szFold {W : World} (h : laidMetH Tryd.prog Rows.fnExactSizeLimitRow.laid W) : FoldTab W := foldIn (show laidMet Tryd.prog _ W from h)

set_option maxRecDepth 100000 in
theorem sizeContract (H : Type) (enc : TypeId × Value → H) (W : World) (base : Nat) (args : Array Value) (ds gs : List (DataW H)) (before : List MemPlace)
    (hval : ∀ (j : Nat) t v, Tryd.f7.params[j]? = some t → args[j]? = some v → Value.okWide Tryd.prog W .any base t v)
    (hW : DataW.Whole enc Tryd.prog Tryd.f7.params.toList Rows.fnExactSizeLimitSpec.vars false W args.toList ds gs before) (hL : laidMetH Tryd.prog Rows.fnExactSizeLimitRow.laid W) (hSh : W.ShapedOpen Tryd.prog) :
    Calls Tryd.prog 7 args W fun e W' => ∃ v, e = .returned v ∧ Rows.fnExactSizeLimitSpec.post enc Tryd.prog Tryd.f7 false true false false W args v W' := by
  have hW' := hW
  obtain ⟨p, q, hA0, hV, rfl, hfz, hnd⟩ := hW
  have hA : DataW.TrodAll enc Tryd.prog W 0 (fun _ => true) true Tryd.f7.params.toList args.toList ds p := hA0
  rw [Tryd.params7] at hA hval
  obtain ⟨v0, vs0, d0, ds0, p0, q0, hargs, rfl, rfl, h0, r0⟩ := trodAll_cons hA
  obtain ⟨rfl, rfl, rfl⟩ := trodAll_nil r0
  obtain rfl : args = #[v0] := by cases args; simp_all
  obtain ⟨L, hArg⟩ := openStrs (hval 0 24 v0 rfl rfl) h0
  obtain ⟨rfl, rfl⟩ := trodVars_none hV
  clear hA0
  refine (sizeLaw v0 L W hArg (lenIn hSh) (szFold hL)).mono fun e W' ⟨he, hb⟩ => ?_
  subst he
  exact ⟨_, rfl, LawBase.lawPost 4 laidOut (by kernel_rfl) (by kernel_rfl) (by kernel_rfl) Tryd.underlying4 hW' rfl hb⟩

set_option maxRecDepth 100000 in
theorem sizeMet (os : Os) : laidMet Tryd.prog Rows.fnExactSizeLimitRow.laid ((World.laidAll Tryd.prog os Rows.fnExactSizeLimitRow.laid).forCall (fun _ _ => 0) ⟨#[], #[.slice none 0 0], []⟩).memory :=
  laidMet_laidAll _ (by kernel_rfl) (by kernel_rfl)
set_option maxRecDepth 100000 in
theorem sizeReads (os : Os) {H : Type} (enc : TypeId × Value → H) : ∃ places, DataW.whole enc Tryd.prog ((World.laidAll Tryd.prog os Rows.fnExactSizeLimitRow.laid).forCall (fun _ _ => 0) ⟨#[], #[.slice none 0 0], []⟩).memory Tryd.f7.params.toList Rows.fnExactSizeLimitSpec.vars false (#[.slice none 0 0] : Array Value).toList 8 = some ([.nil], [], places) :=
  read_of (by kernel_rfl)

set_option maxRecDepth 100000 in
theorem sizeLifted (os : Os) (started : os.Started) (H : Type) (enc : TypeId × Value → H) (F : Stop.Interp) :
    ReturnsInHanded {} Tryd.checked os 7 .any ((OpenSpec.ofChange Rows.fnExactSizeLimitSpec).preRow enc Tryd.prog Tryd.f7 Rows.fnExactSizeLimitRow.domain false Rows.fnExactSizeLimitRow.laid) (((OpenSpec.ofChange Rows.fnExactSizeLimitSpec).at F).post enc Tryd.prog Tryd.f7 false true false false) := by
  obtain ⟨places, hx⟩ := sizeReads os enc
  refine returnsInHanded_of_row (C := Tryd.checked) (s := OpenSpec.ofChange Rows.fnExactSizeLimitSpec) own started (by kernel_rfl) Tryd.func7
    (witness_row_atRef (enc := enc) (C := Tryd.checked) false (World.laidAll Tryd.prog os Rows.fnExactSizeLimitRow.laid) #[.slice none 0 0] (World.laidAll_os _ _ _) (by kernel_rfl) (by kernel_rfl) (by kernel_rfl)
      (OpenSpec.preRow_of_cond 8 hx (by kernel_rfl) (fun k hk => by cases hk) (by kernel_rfl) (sizeMet os))) ?_
  intro W base args ds gs before hval hW _ _ _ hL hSh _
  exact sizeContract H enc W base args ds gs before hval hW hL hSh

set_option maxRecDepth 100000 in
theorem sizeSaid : Rows.FnExactSizeLimitSaid :=
  OpenClaim.holds_of_cond 7 Tryd.f7 rfl rfl rfl rfl rfl rfl rfl ⟨rfl, rfl, rfl, rfl, rfl⟩ rfl rfl rfl rfl rfl (by kernel_rfl) Tryd.func7 (by kernel_rfl)
    (of_decide_eq_true (by kernel_rfl)) (by unfold Func.isWrapper; first | (rw [if_pos (by decide +kernel)]; kernel_rfl) | (rw [if_neg (by decide +kernel)]; exact ⟨rfl, rfl⟩))
    (fun os started H enc _ F => by rw [OpenClaim.pre_eq_preRow]; exact sizeLifted os started H enc F)

set_option maxRecDepth 100000 in
theorem sizePlain (f : FuncId) (fn : Func) (hf : Tryd.pinned.checked.prog.funcNamed "loop.example/s01729/laws.FnExactSizeLimit" = some f) (hfn : Tryd.pinned.checked.prog.funcs[f]? = some fn) :
    false = Tryd.pinned.checked.prog.looks [] ∧ ∀ (j : Nat) t, fn.params[j]? = some t → Tryd.pinned.checked.prog.wantsStandIn t = false := by
  obtain rfl : f = 7 := Option.some.inj ((show Tryd.prog.funcNamed "loop.example/s01729/laws.FnExactSizeLimit" = some 7 by kernel_rfl).symm.trans hf) |>.symm
  obtain rfl : fn = Tryd.f7 := (Option.some.inj (Tryd.func7.symm.trans hfn)).symm
  refine ⟨by kernel_rfl, fun j t ht => ?_⟩
  rw [Tryd.params7] at ht
  have hall : ∀ t ∈ ([24] : List TypeId), Tryd.prog.wantsStandIn t = false := fun t h => by
    have h2 : ([24] : List TypeId).all (fun t => !Tryd.prog.wantsStandIn t) = true := by kernel_rfl
    simpa using List.all_eq_true.1 h2 t h
  exact hall t (by simpa using Array.mem_of_getElem? ht)

set_option maxRecDepth 100000 in
theorem sizeCard : Rows.FnExactSizeLimitCardSaid :=
  Claim7.holds_tied_plain_at .later [] _ _ _ _ sizeSaid (fun _ h => by cases h) (by kernel_rfl) (fun _ h => by cases h) fnExactSizeLimit_row_tie rfl ⟨rfl, rfl⟩ (by kernel_rfl) rfl sizePlain (by kernel_rfl)
#print axioms sizeCard
end Go.Proofs.YtncgihalaflpaaaDoor
