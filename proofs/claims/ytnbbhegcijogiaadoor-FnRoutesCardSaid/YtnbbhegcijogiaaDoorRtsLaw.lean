import Derived.Test.YtnbbhegcijogiaaDoorRtsW
import Derived.Test.YtnbbhegcijogiaaDoorPin
import Derived.Lib.LaidTab
namespace Go.Proofs.YtnbbhegcijogiaaDoor
open Go.ChangeShapes Go.WideShapes Go.ChangeAt Go.RowKit

set_option maxRecDepth 100000 in
/-- one named variable: one datum -/
theorem vars_oneR {H : Type} {enc : TypeId × Value → H} {W : World} {n : String} {gs : List (DataW H)} {q : List MemPlace} {sp : Nat → Bool} (hV : DataW.TrodVars enc Tryd.prog W sp [n] gs q) : ∃ g, gs = [g] := by
  match gs, hV with
  | [g], _ => exact ⟨g, rfl⟩
  | [], h => exact h.elim
  | _ :: _ :: _, h => obtain ⟨_, _, _, _, _, _, _, _, _, _, hs, _⟩ := h; exact hs.elim
set_option maxRecDepth 100000 in
theorem gTabR : Tryd.prog.globalNamed "loop.example/s01729/impl.checksumTable" = some 0 := by kernel_rfl
theorem gTabTypeR : (Tryd.prog.globals[0]?).map (·.type) = some 83 := by kernel_rfl
theorem cellsTabR : Tryd.prog.cellsOf 83 = 16 := by kernel_rfl
theorem cellsU32R : Tryd.prog.cellsOf 26 = 1 := by kernel_rfl
theorem tab_castR (i : Nat) (h : i < 16) : (Crc.tabL.map fun n : Nat => (n : Int))[i]? = some (Crc.tab i : Int) := by
  have hl : Crc.tabL.length = 16 := rfl
  rw [List.getElem?_map, List.getElem?_eq_getElem (by omega)]
  unfold Crc.tab
  rw [List.getD_eq_getElem?_getD, List.getElem?_eq_getElem (by omega)]
  rfl
set_option maxRecDepth 100000 in
theorem ck_eq : (Rows.laid_loop_example_s01729_impl_checksumTable : DataW Unit) = Lib.tabData .u32 (Crc.tabL.map fun n : Nat => (n : Int)) := by kernel_rfl
set_option maxHeartbeats 1000000 in
set_option maxRecDepth 100000 in
/-- what the row's list gives: the table's cells -/
theorem tableIn2 {W : World} {n0 : String} {d0 : DataW Unit} {r : List (String × DataW Unit)} (h : laidMet Tryd.prog ((n0, d0) :: ("loop.example/s01729/impl.checksumTable", Rows.laid_loop_example_s01729_impl_checksumTable) :: r) W) : TabIn W := by
  obtain ⟨ps, ⟨_, _, _, _, _, q, _, _, _, _, h1, _⟩, _⟩ := h
  obtain ⟨g, t, cs, fuel, p, q, hg, ht, hv, hd, _, _⟩ := h1
  obtain rfl := Option.some.inj (gTabR.symm.trans hg)
  obtain rfl := Option.some.inj (gTabTypeR.symm.trans ht)
  rw [ck_eq] at hd
  have hc := Lib.cells_of_tab Tryd.underlying83 Tryd.underlying26 cellsU32R cellsTabR hd
  intro i hi
  rw [World.var?_cell hg hv i, ← Array.getElem?_toList, hc, List.getElem?_map, tab_castR i hi]
  rfl

set_option maxRecDepth 100000 in
theorem routesContract (H : Type) (enc : TypeId × Value → H) (W : World) (base : Nat) (args : Array Value) (ds gs : List (DataW H)) (before : List MemPlace)
    (hval : ∀ (j : Nat) t v, Tryd.f3.params[j]? = some t → args[j]? = some v → Value.okWide Tryd.prog W .any base t v)
    (hW : DataW.Whole enc Tryd.prog Tryd.f3.params.toList Rows.fnRoutesSpec.vars false W args.toList ds gs before) (hL : laidMetH Tryd.prog Rows.fnRoutesRow.laid W) (hSh : W.ShapedOpen Tryd.prog) :
    Calls Tryd.prog 3 args W fun e W' => ∃ v, e = .returned v ∧ Rows.fnRoutesSpec.post enc Tryd.prog Tryd.f3 false true false false W args v W' := by
  have hW' := hW
  obtain ⟨p, q, hA0, hV, rfl, hfz, hnd⟩ := hW
  have hA : DataW.TrodAll enc Tryd.prog W 0 (fun _ => true) true Tryd.f3.params.toList args.toList ds p := hA0
  rw [Tryd.params3] at hA hval
  obtain ⟨v0, vs0, d0, ds0, p0, q0, hargs, rfl, rfl, h0, r0⟩ := trodAll_cons hA
  obtain ⟨rfl, rfl, rfl⟩ := trodAll_nil r0
  obtain rfl : args = #[v0] := by cases args; simp_all
  obtain ⟨B, hB⟩ := openBytes (hval 0 22 v0 rfl rfl) h0
  obtain ⟨g0, rfl⟩ := vars_oneR hV
  clear hA0
  refine (routesLaw v0 B W hB (lenIn hSh) (tableIn2 hL)).mono fun e W' ⟨he, hb⟩ => ?_
  subst he
  exact ⟨_, rfl, LawBase.lawPost 4 laidOut (by kernel_rfl) (by kernel_rfl) (by kernel_rfl) Tryd.underlying4 hW' rfl hb⟩

set_option maxRecDepth 100000 in
theorem routesMet (os : Os) : laidMet Tryd.prog Rows.fnRoutesRow.laid ((World.laidAll Tryd.prog os Rows.fnRoutesRow.laid).forCall (fun _ _ => 0) ⟨#[], #[.slice none 0 0], []⟩).memory :=
  laidMet_laidAll _ (by kernel_rfl) (by kernel_rfl)
set_option maxRecDepth 100000 in
theorem routesReads (os : Os) {H : Type} (enc : TypeId × Value → H) : ∃ places, DataW.whole enc Tryd.prog ((World.laidAll Tryd.prog os Rows.fnRoutesRow.laid).forCall (fun _ _ => 0) ⟨#[], #[.slice none 0 0], []⟩).memory Tryd.f3.params.toList Rows.fnRoutesSpec.vars false (#[.slice none 0 0] : Array Value).toList 8 = some ([.nil], [Rows.laid_loop_example_s01729_impl_checksumTable], places) :=
  read_of (by kernel_rfl)

set_option maxRecDepth 100000 in
theorem routesLifted (os : Os) (started : os.Started) (H : Type) (enc : TypeId × Value → H) (F : Stop.Interp) :
    ReturnsInHanded {} Tryd.checked os 3 .any ((OpenSpec.ofChange Rows.fnRoutesSpec).preRow enc Tryd.prog Tryd.f3 Rows.fnRoutesRow.domain false Rows.fnRoutesRow.laid) (((OpenSpec.ofChange Rows.fnRoutesSpec).at F).post enc Tryd.prog Tryd.f3 false true false false) := by
  obtain ⟨places, hx⟩ := routesReads os enc
  refine returnsInHanded_of_row (C := Tryd.checked) (s := OpenSpec.ofChange Rows.fnRoutesSpec) own started (by kernel_rfl) Tryd.func3
    (witness_row_at (enc := enc) (C := Tryd.checked) false (World.laidAll Tryd.prog os Rows.fnRoutesRow.laid) #[.slice none 0 0] (World.laidAll_os _ _ _) (by kernel_rfl) (by kernel_rfl) (by kernel_rfl)
      (OpenSpec.preRow_of_cond 8 hx (by kernel_rfl) (fun k hk => by cases hk) (by kernel_rfl) (routesMet os))) ?_
  intro W base args ds gs before hval hW _ _ _ hL hSh _
  exact routesContract H enc W base args ds gs before hval hW hL hSh

set_option maxRecDepth 100000 in
theorem routesSaid : Rows.FnRoutesSaid :=
  OpenClaim.holds_of_cond 3 Tryd.f3 rfl rfl rfl rfl rfl rfl rfl ⟨rfl, rfl, rfl, rfl, rfl⟩ rfl rfl rfl rfl rfl (by kernel_rfl) Tryd.func3 (by kernel_rfl)
    (of_decide_eq_true (by kernel_rfl)) (by unfold Func.isWrapper; first | (rw [if_pos (by decide +kernel)]; kernel_rfl) | (rw [if_neg (by decide +kernel)]; exact ⟨rfl, rfl⟩))
    (fun os started H enc _ F => by rw [OpenClaim.pre_eq_preRow]; exact routesLifted os started H enc F)

set_option maxRecDepth 100000 in
theorem routesPlain (f : FuncId) (fn : Func) (hf : Tryd.pinned.checked.prog.funcNamed "loop.example/s01729/laws.FnRoutes" = some f) (hfn : Tryd.pinned.checked.prog.funcs[f]? = some fn) :
    false = Tryd.pinned.checked.prog.looks [] ∧ ∀ (j : Nat) t, fn.params[j]? = some t → Tryd.pinned.checked.prog.wantsStandIn t = false := by
  obtain rfl : f = 3 := Option.some.inj ((show Tryd.prog.funcNamed "loop.example/s01729/laws.FnRoutes" = some 3 by kernel_rfl).symm.trans hf) |>.symm
  obtain rfl : fn = Tryd.f3 := (Option.some.inj (Tryd.func3.symm.trans hfn)).symm
  refine ⟨by kernel_rfl, fun j t ht => ?_⟩
  rw [Tryd.params3] at ht
  have hall : ∀ t ∈ ([22] : List TypeId), Tryd.prog.wantsStandIn t = false := fun t h => by
    have h2 : ([22] : List TypeId).all (fun t => !Tryd.prog.wantsStandIn t) = true := by kernel_rfl
    simpa using List.all_eq_true.1 h2 t h
  exact hall t (by simpa using Array.mem_of_getElem? ht)

set_option maxRecDepth 100000 in
theorem routesCard : Rows.FnRoutesCardSaid :=
  Claim7.holds_tied_plain_at .later [] _ _ _ _ routesSaid (fun _ h => by cases h) (by kernel_rfl) (fun _ h => by cases h) fnRoutes_row_tie rfl ⟨rfl, rfl⟩ (by kernel_rfl) rfl routesPlain (by kernel_rfl)
#print axioms routesCard
end Go.Proofs.YtnbbhegcijogiaaDoor
