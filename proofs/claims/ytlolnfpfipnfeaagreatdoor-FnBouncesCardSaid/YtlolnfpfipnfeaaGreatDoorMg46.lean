import Derived.Test.YtlolnfpfipnfeaaGreatDoorMg45
import Derived.Lib.LaidTab
import Derived.Deep.DeepWitnessRowRef
namespace Go.Proofs.YtlolnfpfipnfeaaGreatDoor
open Go.ChangeShapes Go.WideShapes Go.ChangeAt Go.RowKit

theorem trodIface {H : Type} {P : Program} {enc : TypeId × Value → H} {w : World} {base fuel : Nat} {spare : TypeId → Bool} {held : Bool} {t : TypeId} {cs : List Value} {x : DataW H × List MemPlace} {ms : _} (ht : P.underlying t = some (.interface ms)) (h : DataW.trod enc P w base spare held fuel t cs = some x) : ∃ ev, cs = [ev] ∧ (ev = .nilIface ∨ ∃ te pe, ev = .iface te pe) := by
  cases fuel with
  | zero => simp [DataW.trod] at h
  | succ n =>
    unfold DataW.trod at h
    rw [ht] at h
    split at h <;> simp_all
theorem gPw : Tryz.prog.globalNamed "internal/strconv.uint64pow10" = some 1 := by kernel_rfl
theorem gPwT : (Tryz.prog.globals[1]?).map (·.type) = some 112 := by kernel_rfl
theorem gRa : Tryz.prog.globalNamed "strconv.ErrRange" = some 3 := by kernel_rfl
theorem gRaT : (Tryz.prog.globals[3]?).map (·.type) = some 67 := by kernel_rfl
theorem gSy : Tryz.prog.globalNamed "strconv.ErrSyntax" = some 2 := by kernel_rfl
theorem gSyT : (Tryz.prog.globals[2]?).map (·.type) = some 67 := by kernel_rfl
theorem pw_eq : (Rows.laid_internal_strconv_uint64pow10 : DataW Unit) = Lib.tabData .u64 Lib.pow10Tab := by kernel_rfl
set_option maxRecDepth 100000 in
theorem bouncesEnv {W : World} (h : laidMetH Tryz.prog Rows.fnBouncesRow.laid W) (hSh : W.ShapedOpen Tryz.prog) : Env W := by
  obtain ⟨ps, h1, _⟩ := (show laidMet Tryz.prog _ W from h)
  obtain ⟨_, _, _, _, _, _, _, _, _, _, h2, _⟩ := h1
  obtain ⟨_, _, _, _, _, _, _, _, _, _, h3, _⟩ := h2
  obtain ⟨g3, t3, cs3, fuel3, _, _, hg3, ht3, hv3, hd3, h4, _⟩ := h3
  obtain ⟨_, _, _, _, _, _, _, _, _, _, h5, _⟩ := h4
  obtain ⟨g5, t5, cs5, fuel5, _, _, hg5, ht5, hv5, hd5, h6, _⟩ := h5
  obtain ⟨g6, t6, cs6, fuel6, _, _, hg6, ht6, hv6, hd6, _, _⟩ := h6
  refine ⟨lenIn hSh, ?_, ?_, ?_⟩
  · obtain rfl := Option.some.inj (gPw.symm.trans hg3)
    obtain rfl := Option.some.inj (gPwT.symm.trans ht3)
    rw [pw_eq] at hd3
    unfold Lib.TabIs
    rw [hv3, ← Lib.cells_of_tab Tryz.underlying112 Tryz.underlying94 (by kernel_rfl) (by kernel_rfl) hd3]
  · obtain rfl := Option.some.inj (gSy.symm.trans hg6)
    obtain rfl := Option.some.inj (gSyT.symm.trans ht6)
    obtain ⟨ev, he, hs⟩ := trodIface Tryz.underlying67 hd6
    refine ⟨ev, ?_, hs⟩
    have := World.var?_cell gSy hv6 0
    rw [this, ← Array.getElem?_toList, he]
    rfl
  · obtain rfl := Option.some.inj (gRa.symm.trans hg5)
    obtain rfl := Option.some.inj (gRaT.symm.trans ht5)
    obtain ⟨ev, he, hs⟩ := trodIface Tryz.underlying67 hd5
    refine ⟨ev, ?_, hs⟩
    have := World.var?_cell gRa hv5 0
    rw [this, ← Array.getElem?_toList, he]
    rfl

set_option maxRecDepth 100000 in
theorem bouncesContract (H : Type) (enc : TypeId × Value → H) (W : World) (base : Nat) (args : Array Value) (ds gs : List (DataW H)) (before : List MemPlace)
    (hval : ∀ (j : Nat) t v, Tryz.f3.params[j]? = some t → args[j]? = some v → Value.okWide Tryz.prog W .any base t v)
    (hW : DataW.Whole enc Tryz.prog Tryz.f3.params.toList Rows.fnBouncesSpec.vars false W args.toList ds gs before) (hL : laidMetH Tryz.prog Rows.fnBouncesRow.laid W) (hSh : W.ShapedOpen Tryz.prog) :
    Calls Tryz.prog 3 args W fun e W' => ∃ v, e = .returned v ∧ Rows.fnBouncesSpec.post enc Tryz.prog Tryz.f3 false true false false W args v W' := by
  have hW' := hW
  obtain ⟨p, q, hA0, hV, rfl, hfz, hnd⟩ := hW
  have hA : DataW.TrodAll enc Tryz.prog W 0 (fun _ => true) true Tryz.f3.params.toList args.toList ds p := hA0
  rw [Tryz.params3] at hA hval
  obtain ⟨v0, vs0, d0, ds0, p0, q0, hargs, rfl, rfl, h0, r0⟩ := trodAll_cons hA
  obtain ⟨v1, vs1, d1, ds1, p1, q1, rfl, rfl, rfl, h1, r1⟩ := trodAll_cons r0
  obtain ⟨rfl, rfl, rfl⟩ := trodAll_nil r1
  obtain rfl : args = #[v0, v1] := by cases args; simp_all
  obtain ⟨B, hB⟩ := openBytes (hval 0 22 v0 rfl rfl) h0
  obtain ⟨D, hD⟩ := openBytes (hval 1 22 v1 rfl rfl) h1
  obtain ⟨rfl, rfl⟩ := trodVars_none hV
  clear hA0
  refine (bouncesLaw v0 v1 B D W hB hD (bouncesEnv hL hSh)).mono fun e W' ⟨he, hb⟩ => ?_
  subst he
  exact ⟨_, rfl, LawBase.lawPost 4 laidOut (by kernel_rfl) (by kernel_rfl) (by kernel_rfl) Tryz.underlying4 hW' rfl hb⟩

set_option maxRecDepth 100000 in
theorem bouncesMet (os : Os) : laidMet Tryz.prog Rows.fnBouncesRow.laid ((World.laidAll Tryz.prog os Rows.fnBouncesRow.laid).forCall (fun _ _ => 0) ⟨#[], #[.slice none 0 0, .slice none 0 0], []⟩).memory :=
  laidMet_laidAll _ (by kernel_rfl) (by kernel_rfl)
set_option maxRecDepth 100000 in
theorem bouncesReads (os : Os) {H : Type} (enc : TypeId × Value → H) : ∃ places, DataW.whole enc Tryz.prog ((World.laidAll Tryz.prog os Rows.fnBouncesRow.laid).forCall (fun _ _ => 0) ⟨#[], #[.slice none 0 0, .slice none 0 0], []⟩).memory Tryz.f3.params.toList Rows.fnBouncesSpec.vars false (#[.slice none 0 0, .slice none 0 0] : Array Value).toList 8 = some ([.nil, .nil], [], places) :=
  read_of (by kernel_rfl)

set_option maxRecDepth 100000 in
theorem bouncesLifted (os : Os) (started : os.Started) (H : Type) (enc : TypeId × Value → H) (F : Stop.Interp) :
    ReturnsInHanded {} Tryz.checked os 3 .any ((OpenSpec.ofChange Rows.fnBouncesSpec).preRow enc Tryz.prog Tryz.f3 Rows.fnBouncesRow.domain false Rows.fnBouncesRow.laid) (((OpenSpec.ofChange Rows.fnBouncesSpec).at F).post enc Tryz.prog Tryz.f3 false true false false) := by
  obtain ⟨places, hx⟩ := bouncesReads os enc
  refine returnsInHanded_of_row (C := Tryz.checked) (s := OpenSpec.ofChange Rows.fnBouncesSpec) own started (by kernel_rfl) Tryz.func3
    (witness_row_atRef (enc := enc) (C := Tryz.checked) false (World.laidAll Tryz.prog os Rows.fnBouncesRow.laid) #[.slice none 0 0, .slice none 0 0] (World.laidAll_os _ _ _) (by kernel_rfl) (by kernel_rfl) (by kernel_rfl)
      (OpenSpec.preRow_of_cond 8 hx (by kernel_rfl) (fun k hk => by cases hk) (by kernel_rfl) (bouncesMet os))) ?_
  intro W base args ds gs before hval hW _ _ _ hL hSh _
  exact bouncesContract H enc W base args ds gs before hval hW hL hSh

set_option maxRecDepth 100000 in
theorem bouncesSaid : Rows.FnBouncesSaid :=
  OpenClaim.holds_of_cond 3 Tryz.f3 rfl rfl rfl rfl rfl rfl rfl ⟨rfl, rfl, rfl, rfl, rfl⟩ rfl rfl rfl rfl rfl (by kernel_rfl) Tryz.func3 (by kernel_rfl)
    (of_decide_eq_true (by kernel_rfl)) (by unfold Func.isWrapper; first | (rw [if_pos (by decide +kernel)]; kernel_rfl) | (rw [if_neg (by decide +kernel)]; exact ⟨rfl, rfl⟩))
    (fun os started H enc _ F => by rw [OpenClaim.pre_eq_preRow]; exact bouncesLifted os started H enc F)

set_option maxRecDepth 100000 in
theorem bouncesPlain (f : FuncId) (fn : Func) (hf : Tryz.pinned.checked.prog.funcNamed "loop.example/s01729/laws.FnBounces" = some f) (hfn : Tryz.pinned.checked.prog.funcs[f]? = some fn) :
    true = Tryz.pinned.checked.prog.looks [] ∧ ∀ (j : Nat) t, fn.params[j]? = some t → Tryz.pinned.checked.prog.wantsStandIn t = false := by
  obtain rfl : f = 3 := Option.some.inj ((show Tryz.prog.funcNamed "loop.example/s01729/laws.FnBounces" = some 3 by kernel_rfl).symm.trans hf) |>.symm
  obtain rfl : fn = Tryz.f3 := (Option.some.inj (Tryz.func3.symm.trans hfn)).symm
  refine ⟨by kernel_rfl, fun j t ht => ?_⟩
  rw [Tryz.params3] at ht
  have hall : ∀ t ∈ ([22, 22] : List TypeId), Tryz.prog.wantsStandIn t = false := fun t h => by
    have h2 : ([22, 22] : List TypeId).all (fun t => !Tryz.prog.wantsStandIn t) = true := by kernel_rfl
    simpa using List.all_eq_true.1 h2 t h
  exact hall t (by simpa using Array.mem_of_getElem? ht)

set_option maxRecDepth 100000 in
theorem bouncesCard : Rows.FnBouncesCardSaid :=
  Claim7.holds_tied_plain_at .later [] _ _ _ _ bouncesSaid (fun _ h => by cases h) (by kernel_rfl) (fun _ h => by cases h) fnBounces_row_tie rfl ⟨rfl, rfl⟩ (by kernel_rfl) rfl bouncesPlain (by kernel_rfl)
#print axioms bouncesCard
end Go.Proofs.YtlolnfpfipnfeaaGreatDoor
