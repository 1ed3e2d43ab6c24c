import Derived.Test.YtngcjlghjidnjaaGreatDoorCards
import Derived.Test.YtngcjlghjidnjaaGreatDoorTie
import Derived.Test.YtngcjlghjidnjaaGreatDoorMg1
import Derived.Test.YtngcjlghjidnjaaGreatDoorMg9
import Derived.Deep.DeepHandedRow
import Derived.Lay
import Derived.HandedShaped
import Derived.Test.YtngcjlghjidnjaaGreatDoorMg40
import Derived.Test.YtngcjlghjidnjaaGreatDoorMg41
import Derived.Lib.SmallJoins
import Derived.Deep.DeepWitnessRowRef
namespace Go.Proofs.YtngcjlghjidnjaaGreatDoor
open Go.ChangeShapes Go.WideShapes Go.ChangeAt Go.RowKit
theorem lenIn {W : World} (h : W.ShapedOpen Tryz.prog) : LenIn W := by
  exact Tryz.laysM143.s1_3 W h
theorem read_of {α β γ : Type} {o : Option (α × β × γ)} {a : α} {b : β} (h : o.map (fun x => (x.1, x.2.1)) = some (a, b)) : ∃ c, o = some (a, b, c) := by
  obtain ⟨⟨a', b', c⟩, h1, h2⟩ := Option.map_eq_some_iff.1 h
  simp only [Prod.mk.injEq] at h2
  obtain ⟨rfl, rfl⟩ := h2
  exact ⟨c, h1⟩
end Go.Proofs.YtngcjlghjidnjaaGreatDoor
namespace Go.Proofs.YtngcjlghjidnjaaGreatDoor
open Go.ChangeShapes Go.WideShapes Go.ChangeAt Go.RowKit

set_option maxRecDepth 100000 in
theorem feedFold {W : World} (h : laidMetH Tryz.prog Rows.fnExactFeedRow.laid W) : FoldAt W := fold_at (foldIn (show laidMet Tryz.prog _ W from h))
set_option maxRecDepth 100000 in
theorem openEvent {H : Type} {enc : TypeId × Value → H} {W : World} {b0 : Nat} {v : Value} {d : DataW H} {p : List MemPlace} (hv : Value.okWide Tryz.prog W .any b0 49 v) (h : DataW.Trod enc Tryz.prog W 0 (fun _ => true) true 49 v d p) :
    ∃ (kind : Int) (s : ByteArray), v = .agg #[.int .i64 kind, .string s] ∧ s.size ≤ maxLen := by
  obtain ⟨v0, v1, y0, y1, n, rfl, _, _, h0, h1⟩ := Joins.open_agg2 Tryz.underlying49 (by kernel_rfl) (by kernel_rfl) hv h
  obtain ⟨kind, e0, _⟩ := DataW.trod_int Tryz.underlying3 h0
  obtain ⟨s, e1, _, s1⟩ := DataW.trod_string Tryz.underlying9 h1
  simp only [List.cons.injEq, and_true] at e0 e1
  subst e0 e1
  exact ⟨kind, s, rfl, s1⟩

set_option maxRecDepth 100000 in
theorem feedContract (H : Type) (enc : TypeId × Value → H) (W : World) (base : Nat) (args : Array Value) (ds gs : List (DataW H)) (before : List MemPlace)
    (hval : ∀ (j : Nat) t v, Tryz.f5.params[j]? = some t → args[j]? = some v → Value.okWide Tryz.prog W .any base t v)
    (hW : DataW.Whole enc Tryz.prog Tryz.f5.params.toList Rows.fnExactFeedSpec.vars false W args.toList ds gs before) (hL : laidMetH Tryz.prog Rows.fnExactFeedRow.laid W) (hSh : W.ShapedOpen Tryz.prog) :
    Calls Tryz.prog 5 args W fun e W' => ∃ v, e = .returned v ∧ Rows.fnExactFeedSpec.post enc Tryz.prog Tryz.f5 false true false false W args v W' := by
  have hW' := hW
  obtain ⟨p, q, hA0, hV, rfl, hfz, hnd⟩ := hW
  have hA : DataW.TrodAll enc Tryz.prog W 0 (fun _ => true) true Tryz.f5.params.toList args.toList ds p := hA0
  rw [Tryz.params5] at hA hval
  obtain ⟨v0, vs0, d0, ds0, p0, q0, hargs, rfl, rfl, h0, r0⟩ := trodAll_cons hA
  obtain ⟨v1, vs1, d1, ds1, p1, q1, rfl, rfl, rfl, h1, r1⟩ := trodAll_cons r0
  obtain ⟨rfl, rfl, rfl⟩ := trodAll_nil r1
  obtain rfl : args = #[v0, v1] := by cases args; simp_all
  obtain ⟨ph, nx, buf, he, fr, bo, v5, v7, v8, R, T, V, rfl, ⟨g5, g7, g8⟩, m1, m2, m3, m4⟩ := openSess (hval 0 48 v0 rfl rfl) h0
  obtain ⟨kind, d, rfl, m5⟩ := openEvent (hval 1 49 v1 rfl rfl) h1
  obtain ⟨rfl, rfl⟩ := trodVars_none hV
  clear hA0
  refine (feedLaw ph nx buf he fr bo v5 v7 v8 R T V kind d W g5 g7 g8 m1 m2 m3 m4 m5 (lenIn hSh) (feedFold hL)).mono fun e W' ⟨he, hb⟩ => ?_
  subst he
  exact ⟨_, rfl, LawBase.lawPost 4 laidOut (by kernel_rfl) (by kernel_rfl) (by kernel_rfl) Tryz.underlying4 hW' rfl hb⟩

set_option maxRecDepth 100000 in
theorem feedMet (os : Os) : laidMet Tryz.prog Rows.fnExactFeedRow.laid ((World.laidAll Tryz.prog os Rows.fnExactFeedRow.laid).forCall (fun _ _ => 0) ⟨#[], #[.agg #[.int .i64 0, .string ByteArray.empty, .string ByteArray.empty, .string ByteArray.empty, .string ByteArray.empty, .slice none 0 0, .int .i64 0, .slice none 0 0, .slice none 0 0], .agg #[.int .i64 0, .string ByteArray.empty]], []⟩).memory :=
  laidMet_laidAll _ (by kernel_rfl) (by kernel_rfl)
set_option maxRecDepth 100000 in
theorem feedReads (os : Os) {H : Type} (enc : TypeId × Value → H) : ∃ places, DataW.whole enc Tryz.prog ((World.laidAll Tryz.prog os Rows.fnExactFeedRow.laid).forCall (fun _ _ => 0) ⟨#[], #[.agg #[.int .i64 0, .string ByteArray.empty, .string ByteArray.empty, .string ByteArray.empty, .string ByteArray.empty, .slice none 0 0, .int .i64 0, .slice none 0 0, .slice none 0 0], .agg #[.int .i64 0, .string ByteArray.empty]], []⟩).memory Tryz.f5.params.toList Rows.fnExactFeedSpec.vars false (#[.agg #[.int .i64 0, .string ByteArray.empty, .string ByteArray.empty, .string ByteArray.empty, .string ByteArray.empty, .slice none 0 0, .int .i64 0, .slice none 0 0, .slice none 0 0], .agg #[.int .i64 0, .string ByteArray.empty]] : Array Value).toList 8 = some ([.agg [.lit (.int .i64 0), .lit (.string []), .lit (.string []), .lit (.string []), .lit (.string []), .nil, .lit (.int .i64 0), .nil, .nil], .agg [.lit (.int .i64 0), .lit (.string [])]], [], places) :=
  read_of (by kernel_rfl)

set_option maxRecDepth 100000 in
theorem feedLifted (os : Os) (started : os.Started) (H : Type) (enc : TypeId × Value → H) (F : Stop.Interp) :
    ReturnsInHanded {} Tryz.checked os 5 .any ((OpenSpec.ofChange Rows.fnExactFeedSpec).preRow enc Tryz.prog Tryz.f5 Rows.fnExactFeedRow.domain false Rows.fnExactFeedRow.laid) (((OpenSpec.ofChange Rows.fnExactFeedSpec).at F).post enc Tryz.prog Tryz.f5 false true false false) := by
  obtain ⟨places, hx⟩ := feedReads os enc
  refine returnsInHanded_of_row (C := Tryz.checked) (s := OpenSpec.ofChange Rows.fnExactFeedSpec) own started (by kernel_rfl) Tryz.func5
    (witness_row_atRef (enc := enc) (C := Tryz.checked) false (World.laidAll Tryz.prog os Rows.fnExactFeedRow.laid) #[.agg #[.int .i64 0, .string ByteArray.empty, .string ByteArray.empty, .string ByteArray.empty, .string ByteArray.empty, .slice none 0 0, .int .i64 0, .slice none 0 0, .slice none 0 0], .agg #[.int .i64 0, .string ByteArray.empty]] (World.laidAll_os _ _ _) (by kernel_rfl) (by kernel_rfl) (by kernel_rfl)
      (OpenSpec.preRow_of_cond 8 hx (by kernel_rfl) (fun k hk => by cases hk) (by kernel_rfl) (feedMet os))) ?_
  intro W base args ds gs before hval hW _ _ _ hL hSh _
  exact feedContract H enc W base args ds gs before hval hW hL hSh

set_option maxRecDepth 100000 in
theorem feedSaid : Rows.FnExactFeedSaid :=
  OpenClaim.holds_of_cond 5 Tryz.f5 rfl rfl rfl rfl rfl rfl rfl ⟨rfl, rfl, rfl, rfl, rfl⟩ rfl rfl rfl rfl rfl (by kernel_rfl) Tryz.func5 (by kernel_rfl)
    (of_decide_eq_true (by kernel_rfl)) (by unfold Func.isWrapper; first | (rw [if_pos (by decide +kernel)]; kernel_rfl) | (rw [if_neg (by decide +kernel)]; exact ⟨rfl, rfl⟩))
    (fun os started H enc _ F => by rw [OpenClaim.pre_eq_preRow]; exact feedLifted os started H enc F)

set_option maxRecDepth 100000 in
theorem feedPlain (f : FuncId) (fn : Func) (hf : Tryz.pinned.checked.prog.funcNamed "loop.example/s01729/laws.FnExactFeed" = some f) (hfn : Tryz.pinned.checked.prog.funcs[f]? = some fn) :
    false = Tryz.pinned.checked.prog.looks [] ∧ ∀ (j : Nat) t, fn.params[j]? = some t → Tryz.pinned.checked.prog.wantsStandIn t = false := by
  obtain rfl : f = 5 := Option.some.inj ((show Tryz.prog.funcNamed "loop.example/s01729/laws.FnExactFeed" = some 5 by kernel_rfl).symm.trans hf) |>.symm
  obtain rfl : fn = Tryz.f5 := (Option.some.inj (Tryz.func5.symm.trans hfn)).symm
  refine ⟨by kernel_rfl, fun j t ht => ?_⟩
  rw [Tryz.params5] at ht
  have hall : ∀ t ∈ ([48, 49] : List TypeId), Tryz.prog.wantsStandIn t = false := fun t h => by
    have h2 : ([48, 49] : List TypeId).all (fun t => !Tryz.prog.wantsStandIn t) = true := by kernel_rfl
    simpa using List.all_eq_true.1 h2 t h
  exact hall t (by simpa using Array.mem_of_getElem? ht)

set_option maxRecDepth 100000 in
theorem feedCard : Rows.FnExactFeedCardSaid :=
  Claim7.holds_tied_plain_at .later [] _ _ _ _ feedSaid (fun _ h => by cases h) (by kernel_rfl) (fun _ h => by cases h) fnExactFeed_row_tie rfl ⟨rfl, rfl⟩ (by kernel_rfl) rfl feedPlain (by kernel_rfl)
#print axioms feedCard
end Go.Proofs.YtngcjlghjidnjaaGreatDoor
