import Derived.Test.YticfnfplpccmgacDoorStrs
import Derived.Test.YticfnfplpccmgacDoorSCompact
import Derived.Test.YticfnfplpccmgacDoorArgSz
import Derived.Test.YticfnfplpccmgacDoorDoor
namespace Go.Proofs.YticfnfplpccmgacDoor
open Go.ChangeShapes Go.WideShapes Go.ChangeAt Go.RowKit

set_option maxHeartbeats 4000000 in
set_option maxRecDepth 100000 in
theorem compactLaw (m l t x : ByteArray) (h : Bool) (v : Value) (L : List ByteArray) (n : Int) (w : World) (hm : m.size ≤ maxLen) (hl : l.size ≤ maxLen) (ht : t.size ≤ maxLen) (hx : x.size ≤ maxLen) (hA : ArgS w v L) (tb : TabIn w) :
    Calls Tryd.prog 6 #[.agg #[.string m, .string l, .bool h, .string t, .string x], v, .int .i64 n] w fun e w' => e = .returned (.bool true) ∧ Below w.heap.size w w' := by
  have HT : Hid (TabIn w) := tb
  have HA : Hid (ArgS w v L) := hA
  have HLm : Hid (L.length ≤ maxLen) := hA.1
  have HLs : Hid (∀ s ∈ L, s.size ≤ maxLen) := hA.2.1
  clear tb hA
  go_enter Tryd.func6, Tryd.ntmps6
  go_wp2_with fail
  refine (szDisk m l t x h 1048576 _ (by decide) (by decide) hm hl ht hx).mono ?_
  rintro e w1 ⟨r, rfl, hr, hr1, hr2, hb1⟩
  have hz1 : w.heap.size < w1.heap.size := by have := hb1.size; simp at this; omega
  have D1 : Hid (DiskAt w1 w.heap.size m l h t x) := (diskAt_new w m l h t x _).below hb1 (by simp)
  have g1 : Below w.heap.size w w1 := (below1 w _).trans (hb1.mono (by simp))
  clear hb1 hm hl ht hx
  by_cases hneg : r < 0
  · go_wp2
    go_ret
    exact ⟨rfl, g1⟩
  · clear hr
    go_wp2_with fail
    refine (szStrs v L r _ (HA.out.below g1) (by omega) hr2).mono ?_
    rintro e w1' ⟨r2, rfl, hr3, rfl⟩
    by_cases hneg2 : r2 < 0
    · go_wp2
      go_ret
      exact ⟨rfl, g1⟩
    · have hsum : L.length + sumSz L ≤ 1048576 := by omega
      have hL : L.length ≤ 1048576 := by omega
      clear hr3
      obtain ⟨F, HF⟩ : ∃ F, Hid (framesB L = F) := ⟨_, rfl⟩
      obtain ⟨c0, c1, c2, c3, c4⟩ := D1.out
      go_wp2_with fail
      clear c0 c1 c2 c3 c4
      refine (toDisk m l t x h _).mono ?_
      rintro e w2 ⟨rfl, hb2⟩
      have g2 : Below w.heap.size w w2 := g1.trans (hb2.mono (by omega))
      have hz2 := hb2.size
      go_wp2_with fail
      refine (toStrs v L _ (HA.out.below g2) hL).mono ?_
      rintro e w3 ⟨v3, rfl, S3, hb3⟩
      have g3 : Below w.heap.size w w3 := g2.trans (hb3.mono (by omega))
      have hz3 := hb3.size
      go_wp2_with fail
      refine (specCompact m l t x F h v3 L n _ HF.out (strs_args S3 HLm.out HLs.out) hsum).mono ?_
      rintro e w4 ⟨rfl, hb4⟩
      have g4 : Below w.heap.size w w4 := g3.trans (hb4.mono (by omega))
      have hz4 : w.heap.size < w4.heap.size := by have := hb4.size; omega
      have D4 : Hid (DiskAt w4 w.heap.size m l h t x) := ((D1.out.below hb2 (by omega)).below hb3 (by omega)).below hb4 (by omega)
      clear hb2 hb3 hb4 S3 D1
      go_wp2_with fail
      have q4 := below1 w4 (.cells #[.string (cM F m (stepsN n)), .string (cL l (stepsN n)), .bool (cH h (stepsN n)), .string (cT F t (stepsN n)), .string (cX F x (stepsN n))] 25)
      refine (toStrs v L _ (HA.out.below (g4.trans (q4.mono (by omega)))) hL).mono ?_
      rintro e w5 ⟨v5, rfl, S5, hb5⟩
      have hz5 : w4.heap.size < w5.heap.size := by have := hb5.size; simp at this; omega
      have E5 : Hid (DiskAt w5 w4.heap.size (cM F m (stepsN n)) (cL l (stepsN n)) (cH h (stepsN n)) (cT F t (stepsN n)) (cX F x (stepsN n))) := (diskAt_new w4 (cM F m (stepsN n)) (cL l (stepsN n)) (cH h (stepsN n)) (cT F t (stepsN n)) (cX F x (stepsN n)) _).below hb5 (by simp)
      have q45 : Below w4.heap.size w4 w5 := q4.trans (hb5.mono (by simp))
      have g5 : Below w.heap.size w w5 := g4.trans (q45.mono (by omega))
      have D5 : DiskAt w5 w.heap.size m l h t x := D4.out.below q45 (by omega)
      clear hb5 q4 D4
      obtain ⟨c0, c1, c2, c3, c4⟩ := D5
      go_wp2_with fail
      clear c0 c1 c2 c3 c4
      refine (toDisk m l t x h _).mono ?_
      rintro e w6 ⟨rfl, hb6⟩
      have g6 : Below w.heap.size w w6 := g5.trans (hb6.mono (by omega))
      have hz6 := hb6.size
      have S6 := strs_below S5 hb6 (Nat.le_refl _)
      have E6 : Hid (DiskAt w6 w4.heap.size (cM F m (stepsN n)) (cL l (stepsN n)) (cH h (stepsN n)) (cT F t (stepsN n)) (cX F x (stepsN n))) := E5.out.below hb6 (by omega)
      clear hb6 S5 E5
      go_wp2_with fail
      refine (implCompact m l t x F h v5 L n _ HF.out (strs_args S6 HLm.out HLs.out) hsum (tab_below HT.out g6)).mono ?_
      rintro e w7 ⟨rfl, hb7⟩
      have g7 : Below w.heap.size w w7 := g6.trans (hb7.mono (by omega))
      have hz7 : w4.heap.size < w7.heap.size := by have := hb7.size; omega
      have S7 := strs_below S6 hb7 (Nat.le_refl _)
      have E7 : DiskAt w7 w4.heap.size (cM F m (stepsN n)) (cL l (stepsN n)) (cH h (stepsN n)) (cT F t (stepsN n)) (cX F x (stepsN n)) := E6.out.below hb7 (by omega)
      clear hb7 S6 E6
      obtain ⟨c0, c1, c2, c3, c4⟩ := E7
      go_wp2_with fail
      clear c0 c1 c2 c3 c4
      refine (eqDisk (cM F m (stepsN n)) (cL l (stepsN n)) (cT F t (stepsN n)) (cX F x (stepsN n)) (cH h (stepsN n)) _).mono ?_
      rintro e w8 ⟨rfl, hb8⟩
      have q78 : Below w7.heap.size w7 w8 := (below1 w7 _).trans (hb8.mono (by simp))
      have g8 : Below w.heap.size w w8 := g7.trans (q78.mono (by omega))
      have S8 := strs_below S7 q78 (Nat.le_refl _)
      have hz8 := q78.size
      clear hb8 q78 S7
      go_wp2_with fail
      refine (toStrs v L _ (HA.out.below g8) hL).mono ?_
      rintro e w9 ⟨v9, rfl, S9, hb9⟩
      have S89 := strs_below S8 hb9 (Nat.le_refl _)
      have g9 : Below w.heap.size w w9 := g8.trans (hb9.mono (by omega))
      have hz9 := hb9.size
      clear hb9 S8
      go_wp2_with fail
      refine (eqStrs v5 v9 L _ _ _ S89 S9).mono ?_
      rintro e wa ⟨rfl, hba⟩
      go_wp2
      go_ret
      exact ⟨rfl, g9.trans (hba.mono (by omega))⟩

set_option maxRecDepth 100000 in
theorem compactContract (H : Type) (enc : TypeId × Value → H) (W : World) (base : Nat) (args : Array Value) (ds gs : List (DataW H)) (before : List MemPlace)
    (hval : ∀ (j : Nat) t v, Tryd.f6.params[j]? = some t → args[j]? = some v → Value.okWide Tryd.prog W .any base t v)
    (hW : DataW.Whole enc Tryd.prog Tryd.f6.params.toList Rows.fnExactCompactSpec.vars false W args.toList ds gs before) (hL : laidMetH Tryd.prog Rows.fnExactCompactRow.laid W) :
    Calls Tryd.prog 6 args W fun e W' => ∃ v, e = .returned v ∧ Rows.fnExactCompactSpec.post enc Tryd.prog Tryd.f6 false true false false W args v W' := by
  have hW' := hW
  obtain ⟨p, q, hA0, hV, rfl, hfz, hnd⟩ := hW
  have hA : DataW.TrodAll enc Tryd.prog W 0 (fun _ => true) true Tryd.f6.params.toList args.toList ds p := hA0
  rw [Tryd.params6] at hA hval
  obtain ⟨v0, vs0, d0, ds0, p0, q0, hargs, rfl, rfl, h0, r0⟩ := trodAll_cons hA
  obtain ⟨v1, vs1, d1, ds1, p1, q1, rfl, rfl, rfl, h1, r1⟩ := trodAll_cons r0
  obtain ⟨v2, vs2, d2, ds2, p2, q2, rfl, rfl, rfl, h2, r2⟩ := trodAll_cons r1
  obtain ⟨rfl, rfl, rfl⟩ := trodAll_nil r2
  obtain rfl : args = #[v0, v1, v2] := by cases args; simp_all
  obtain ⟨m, l, h, t, x, rfl, hm, hl, ht, hx⟩ := openDisk (hval 0 23 v0 rfl rfl) h0
  obtain ⟨L, hArg⟩ := openStrs (hval 1 31 v1 rfl rfl) h1
  obtain ⟨n, rfl, rfl, rfl, _⟩ := open_int Tryd.underlying3 (hval 2 3 v2 rfl rfl) h2
  obtain ⟨g0, rfl⟩ := vars_one hV
  clear hA0
  refine (compactLaw m l t x h v1 L n W hm hl ht hx hArg (tableIn hL)).mono fun e W' ⟨he, hb⟩ => ?_
  subst he
  exact ⟨_, rfl, LawBase.lawPost 4 laidOut (by kernel_rfl) (by kernel_rfl) (by kernel_rfl) Tryd.underlying4 hW' rfl hb⟩

set_option maxRecDepth 100000 in
theorem compactMet (os : Os) : laidMet Tryd.prog Rows.fnExactCompactRow.laid ((laidOver (World.holding Tryd.prog os ⟨#[], #[], []⟩)).forCall (fun _ _ => 0) ⟨#[], #[.agg #[.string ByteArray.empty, .string ByteArray.empty, .bool false, .string ByteArray.empty, .string ByteArray.empty], .slice none 0 0, .int .i64 0], []⟩).memory :=
  laidMet_of_run' 8 (by kernel_rfl) (by kernel_rfl)
theorem compactReads (os : Os) {H : Type} (enc : TypeId × Value → H) : ∃ places, DataW.whole enc Tryd.prog ((laidOver (World.holding Tryd.prog os ⟨#[], #[], []⟩)).forCall (fun _ _ => 0) ⟨#[], #[.agg #[.string ByteArray.empty, .string ByteArray.empty, .bool false, .string ByteArray.empty, .string ByteArray.empty], .slice none 0 0, .int .i64 0], []⟩).memory Tryd.f6.params.toList Rows.fnExactCompactSpec.vars false (#[.agg #[.string ByteArray.empty, .string ByteArray.empty, .bool false, .string ByteArray.empty, .string ByteArray.empty], .slice none 0 0, .int .i64 0] : Array Value).toList 8 = some ([.agg [.lit (.string []), .lit (.string []), .lit (.bool false), .lit (.string []), .lit (.string [])], .nil, .lit (.int .i64 0)], [Rows.laid_loop_example_s01729_impl_checksumTable], places) :=
  read_of (by kernel_rfl)

set_option maxRecDepth 100000 in
theorem compactLifted (os : Os) (started : os.Started) (H : Type) (enc : TypeId × Value → H) (F : Stop.Interp) :
    ReturnsInHanded {} Tryd.checked os 6 .any ((OpenSpec.ofChange Rows.fnExactCompactSpec).preRow enc Tryd.prog Tryd.f6 Rows.fnExactCompactRow.domain false Rows.fnExactCompactRow.laid) (((OpenSpec.ofChange Rows.fnExactCompactSpec).at F).post enc Tryd.prog Tryd.f6 false true false false) := by
  obtain ⟨places, hx⟩ := compactReads os enc
  refine returnsInHanded_of_row (C := Tryd.checked) (s := OpenSpec.ofChange Rows.fnExactCompactSpec) own started (by kernel_rfl) Tryd.func6
    (witness_row_at (enc := enc) (C := Tryd.checked) false (laidOver (World.holding Tryd.prog os ⟨#[], #[], []⟩)) #[.agg #[.string ByteArray.empty, .string ByteArray.empty, .bool false, .string ByteArray.empty, .string ByteArray.empty], .slice none 0 0, .int .i64 0] rfl (by kernel_rfl) (by kernel_rfl) (by kernel_rfl)
      (OpenSpec.preRow_of_cond 8 hx (by kernel_rfl) (fun k hk => by cases hk) (by kernel_rfl) (compactMet os))) ?_
  intro W base args ds gs before hval hW _ _ _ hL _ _
  exact compactContract H enc W base args ds gs before hval hW hL

set_option maxRecDepth 100000 in
theorem compactSaid : Rows.FnExactCompactSaid :=
  OpenClaim.holds_of_cond 6 Tryd.f6 rfl rfl rfl rfl rfl rfl rfl ⟨rfl, rfl, rfl, rfl, rfl⟩ rfl rfl rfl rfl rfl (by kernel_rfl) Tryd.func6 (by kernel_rfl)
    (of_decide_eq_true (by kernel_rfl)) (by unfold Func.isWrapper; first | (rw [if_pos (by decide +kernel)]; kernel_rfl) | (rw [if_neg (by decide +kernel)]; exact ⟨rfl, rfl⟩))
    (fun os started H enc _ F => by rw [OpenClaim.pre_eq_preRow]; exact compactLifted os started H enc F)

set_option maxRecDepth 100000 in
theorem compactPlain (f : FuncId) (fn : Func) (hf : Tryd.pinned.checked.prog.funcNamed "loop.example/s01729/laws.FnExactCompact" = some f) (hfn : Tryd.pinned.checked.prog.funcs[f]? = some fn) :
    false = Tryd.pinned.checked.prog.looks [] ∧ ∀ (j : Nat) t, fn.params[j]? = some t → Tryd.pinned.checked.prog.wantsStandIn t = false := by
  obtain rfl : f = 6 := Option.some.inj ((show Tryd.prog.funcNamed "loop.example/s01729/laws.FnExactCompact" = some 6 by kernel_rfl).symm.trans hf) |>.symm
  obtain rfl : fn = Tryd.f6 := (Option.some.inj (Tryd.func6.symm.trans hfn)).symm
  refine ⟨by kernel_rfl, fun j t ht => ?_⟩
  rw [Tryd.params6] at ht
  have hall : ∀ t ∈ ([23, 31, 3] : List TypeId), Tryd.prog.wantsStandIn t = false := fun t h => by
    have h2 : ([23, 31, 3] : List TypeId).all (fun t => !Tryd.prog.wantsStandIn t) = true := by kernel_rfl
    simpa using List.all_eq_true.1 h2 t h
  exact hall t (by simpa using Array.mem_of_getElem? ht)

set_option maxRecDepth 100000 in
theorem compactCard : Rows.FnExactCompactCardSaid :=
  Claim7.holds_tied_plain_at .later [] _ _ _ _ compactSaid (fun _ h => by cases h) (by kernel_rfl) (fun _ h => by cases h) fnExactCompact_row_tie rfl ⟨rfl, rfl⟩ (by kernel_rfl) rfl compactPlain (by kernel_rfl)
#print axioms compactCard
end Go.Proofs.YticfnfplpccmgacDoor
