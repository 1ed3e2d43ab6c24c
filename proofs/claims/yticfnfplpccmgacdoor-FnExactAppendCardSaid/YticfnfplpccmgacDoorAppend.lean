import Derived.Test.YticfnfplpccmgacDoorFrame
import Derived.Test.YticfnfplpccmgacDoorDisk
import Derived.Test.YticfnfplpccmgacDoorDoor
import Derived.Deep.RegionWith
import Derived.Deep.DrawnRows
import Derived.Deep.DeepCutAuto
namespace Go.Proofs.YticfnfplpccmgacDoor
open Go.ChangeShapes Go.WideShapes Go.ChangeAt Go.RowKit
open Go.ChangeMaps (open_string)
attribute [local go_sem ↓] Go.wp_at_zero Go.wp_at_succ


set_option maxHeartbeats 1000000 in
set_option maxRecDepth 100000 in
theorem specAppend (m l t x p : ByteArray) (h : Bool) (w : World) (hl : l.size ≤ 1048576) (hp : p.size ≤ 1048576) :
    Calls Tryd.prog 9 #[.agg #[.string m, .string l, .bool h, .string t, .string x], .string p] w fun e w' => e = .returned (.agg #[.string m, .string (l ++ frameB p), .bool h, .string t, .string x]) ∧ Below w.heap.size w w' := by
  have hfl := frameB_size p
  go_enter Tryd.func9, Tryd.ntmps9
  go_upto_region 1 with fail
  go_cut [] (fun wx => ∃ w1 : World, Below (w.heap.size + 1 + 1) ((w.alloc (.cells #[.string m, .string l, .bool h, .string t, .string x] 25)).alloc (.cells #[.string ⟨#[]⟩, .string ⟨#[]⟩, .bool false, .string ⟨#[]⟩, .string ⟨#[]⟩] 25)) w1 ∧ wx = w1.setCell ⟨w.heap.size, 1, none⟩ (.string (l ++ frameB p)))
  case first =>
    go_region_with (go_at_call 26; refine (specFrame p _ (by omega)).mono ?_; rintro e w1 ⟨rfl, hb1⟩; obtain ⟨hc1, hf1⟩ := bcell hb1)
    all_goals (go_wp2_with fail; go_meet; exact ⟨_, Go.Proofs.YticfnfplpccmgacDoor.of_drew (by simpa using hb1), rfl⟩)
  case rest =>
  obtain ⟨w1, hb, rfl⟩ := hcut
  obtain ⟨⟨c0, c1, c2, c3, c4⟩, ⟨d0, d1, d2, d3, d4⟩, f0, f1⟩ := two_disks hb
  have hz : w.heap.size + 1 + 1 ≤ w1.heap.size := by have := hb.size; simpa using this
  have hw := (below2 w _ _).trans (hb.mono (by omega))
  go_wp2
  exact bodyPost_ret (v := .agg #[.string m, .string (l ++ frameB p), .bool h, .string t, .string x]) (by simp [results, Tryd.results9, go_sem, d0, d1, d2, d3, d4]) rfl ⟨rfl, by
    repeat (refine Below.setCell ?_ (by simp) _)
    exact hw⟩
set_option maxHeartbeats 1000000 in
set_option maxRecDepth 100000 in
theorem implAppend (m l t x p : ByteArray) (h : Bool) (w : World) (hl : l.size ≤ 1048576) (hp : p.size ≤ 1048576) (ht : TabIn w) :
    Calls Tryd.prog 11 #[.agg #[.string m, .string l, .bool h, .string t, .string x], .string p] w fun e w' => e = .returned (.agg #[.string m, .string (l ++ frameB p), .bool h, .string t, .string x]) ∧ Below w.heap.size w w' := by
  have hfl := frameB_size p
  have HT : Hid (TabIn ((w.alloc (.cells #[.string m, .string l, .bool h, .string t, .string x] 25)).alloc (.cells #[.string ⟨#[]⟩, .string ⟨#[]⟩, .bool false, .string ⟨#[]⟩, .string ⟨#[]⟩] 25)).drew) := tab_below ht (below2 w _ _).drew
  clear ht
  go_enter Tryd.func11, Tryd.ntmps11
  go_upto_region 1 with fail
  go_cut [] (fun wx => ∃ w1 : World, Below (w.heap.size + 1 + 1) ((w.alloc (.cells #[.string m, .string l, .bool h, .string t, .string x] 25)).alloc (.cells #[.string ⟨#[]⟩, .string ⟨#[]⟩, .bool false, .string ⟨#[]⟩, .string ⟨#[]⟩] 25)) w1 ∧ wx = w1.setCell ⟨w.heap.size, 1, none⟩ (.string (l ++ frameB p)))
  case first =>
    go_region_with (go_at_call 27; refine (implFrame p _ (by omega) HT.out).mono ?_; rintro e w1 ⟨rfl, hb1⟩; obtain ⟨hc1, hf1⟩ := bcell hb1)
    all_goals (go_wp2_with fail; go_meet; exact ⟨_, Go.Proofs.YticfnfplpccmgacDoor.of_drew (by simpa using hb1), rfl⟩)
  case rest =>
  obtain ⟨w1, hb, rfl⟩ := hcut
  obtain ⟨⟨c0, c1, c2, c3, c4⟩, ⟨d0, d1, d2, d3, d4⟩, f0, f1⟩ := two_disks hb
  have hz : w.heap.size + 1 + 1 ≤ w1.heap.size := by have := hb.size; simpa using this
  have hw := (below2 w _ _).trans (hb.mono (by omega))
  go_wp2
  exact bodyPost_ret (v := .agg #[.string m, .string (l ++ frameB p), .bool h, .string t, .string x]) (by simp [results, Tryd.results11, go_sem, d0, d1, d2, d3, d4]) rfl ⟨rfl, by
    repeat (refine Below.setCell ?_ (by simp) _)
    exact hw⟩
set_option maxHeartbeats 400000 in
set_option maxRecDepth 100000 in
theorem appendLaw (m l t x p : ByteArray) (h : Bool) (w : World) (hm : m.size ≤ maxLen) (hl : l.size ≤ maxLen) (ht : t.size ≤ maxLen) (hx : x.size ≤ maxLen) (hp : p.size ≤ maxLen) (tb : TabIn w) :
    Calls Tryd.prog 3 #[.agg #[.string m, .string l, .bool h, .string t, .string x], .string p] w fun e w' => e = .returned (.bool true) ∧ Below w.heap.size w w' := by
  have HT : Hid (TabIn w) := tb
  clear tb
  unfold maxLen at hp
  by_cases hbig : 1048576 < p.size
  · go_enter Tryd.func3, Tryd.ntmps3
    go_wp2
    go_ret
    exact ⟨rfl, below1 _ _⟩
  go_enter Tryd.func3, Tryd.ntmps3
  go_wp2_with fail
  refine (szDisk m l t x h 1048576 _ (by decide) (by decide) hm hl ht hx).mono ?_
  rintro e w1 ⟨r, rfl, hr, hr1, hr2, hb1⟩
  have hz1 : w.heap.size < w1.heap.size := by have := hb1.size; simp at this; omega
  have D1 : Hid (DiskAt w1 w.heap.size m l h t x) := (diskAt_new w m l h t x _).below hb1 (by simp)
  by_cases hneg : r < 0
  · go_wp2
    go_ret
    exact ⟨rfl, (below1 _ _).trans (hb1.mono (by simp))⟩
  · have hsum : (m.size : Int) + l.size + t.size + x.size ≤ 1048576 := by omega
    clear hr
    obtain ⟨c0, c1, c2, c3, c4⟩ := D1.out
    go_wp2_with fail
    clear c0 c1 c2 c3 c4
    refine (toDisk m l t x h _).mono ?_
    rintro e w2 ⟨rfl, hb2⟩
    have hz2 : w1.heap.size ≤ w2.heap.size := hb2.size
    go_wp2_with fail
    refine (specAppend m l t x p h _ (by omega) (by omega)).mono ?_
    rintro e w3 ⟨rfl, hb3⟩
    have hz3 : w.heap.size < w3.heap.size := by have := hb3.size; omega
    have D3 : Hid (DiskAt w3 w.heap.size m l h t x) := (D1.out.below hb2 (by omega)).below hb3 (by omega)
    obtain ⟨c0, c1, c2, c3, c4⟩ := D3.out
    go_wp2_with fail
    clear c0 c1 c2 c3 c4
    refine (toDisk m l t x h _).mono ?_
    rintro e w4 ⟨rfl, hb4⟩
    have HT4 : Hid (TabIn w4) := tab_below (tab_below HT.out ((((below1 w _).trans (hb1.mono (by simp))).trans (hb2.mono (by omega))).trans (hb3.mono (by omega)))) ((below1 w3 _).trans (hb4.mono (by simp)))
    have hz4 : w3.heap.size < w4.heap.size := by have := hb4.size; simp at this; omega
    go_wp2_with fail
    refine (implAppend m l t x p h _ (by omega) (by omega) HT4.out).mono ?_
    rintro e w5 ⟨rfl, hb5⟩
    have hz5 : w3.heap.size < w5.heap.size := by have := hb5.size; omega
    have D5 : DiskAt w5 w3.heap.size m (l ++ frameB p) h t x := ((diskAt_new w3 m (l ++ frameB p) h t x _).below hb4 (by simp)).below hb5 (by omega)
    obtain ⟨c0, c1, c2, c3, c4⟩ := D5
    go_wp2_with fail
    clear c0 c1 c2 c3 c4
    refine (eqDisk m (l ++ frameB p) t x h _).mono ?_
    rintro e w6 ⟨rfl, hb6⟩
    go_wp2
    go_ret
    refine ⟨rfl, ?_⟩
    have g1 := (below1 w _).trans (hb1.mono (by simp))
    have g3 := (g1.trans (hb2.mono (by omega))).trans (hb3.mono (by omega))
    have g5 := ((g3.alloc (by omega) _).trans (hb4.mono (by simp; omega))).trans (hb5.mono (by omega))
    exact (g5.alloc (by omega) _).trans (hb6.mono (by simp; omega))

set_option maxRecDepth 100000 in
theorem appendContract (H : Type) (enc : TypeId × Value → H) (W : World) (base : Nat) (args : Array Value) (ds gs : List (DataW H)) (before : List MemPlace)
    (hval : ∀ (j : Nat) t v, Tryd.f3.params[j]? = some t → args[j]? = some v → Value.okWide Tryd.prog W .any base t v)
    (hW : DataW.Whole enc Tryd.prog Tryd.f3.params.toList Rows.fnExactAppendSpec.vars false W args.toList ds gs before) (hL : laidMetH Tryd.prog Rows.fnExactAppendRow.laid W) :
    Calls Tryd.prog 3 args W fun e W' => ∃ v, e = .returned v ∧ Rows.fnExactAppendSpec.post enc Tryd.prog Tryd.f3 false true false false W args v W' := by
  have hW' := hW
  obtain ⟨p, q, hA0, hV, rfl, hfz, hnd⟩ := hW
  have hA : DataW.TrodAll enc Tryd.prog W 0 (fun _ => true) true Tryd.f3.params.toList args.toList ds p := hA0
  rw [Tryd.params3] at hA hval
  obtain ⟨v0, vs0, d0, ds0, p0, q0, hargs, rfl, rfl, h0, r0⟩ := trodAll_cons hA
  obtain ⟨v1, vs1, d1, ds1, p1, q1, rfl, rfl, rfl, h1, r1⟩ := trodAll_cons r0
  obtain ⟨rfl, rfl, rfl⟩ := trodAll_nil r1
  obtain rfl : args = #[v0, v1] := by cases args; simp_all
  obtain ⟨m, l, h, t, x, rfl, hm, hl, ht, hx⟩ := openDisk (hval 0 23 v0 rfl rfl) h0
  obtain ⟨s, rfl, rfl, rfl, hs⟩ := open_string Tryd.underlying9 (hval 1 9 v1 rfl rfl) h1
  obtain ⟨g0, rfl⟩ := vars_one hV
  clear hA0
  refine (appendLaw m l t x s h W hm hl ht hx hs (tableIn hL)).mono fun e W' ⟨he, hb⟩ => ?_
  subst he
  exact ⟨_, rfl, LawBase.lawPost 4 laidOut (by kernel_rfl) (by kernel_rfl) (by kernel_rfl) Tryd.underlying4 hW' rfl hb⟩

set_option maxRecDepth 100000 in
theorem appendMet (os : Os) : laidMet Tryd.prog Rows.fnExactAppendRow.laid ((laidOver (World.holding Tryd.prog os ⟨#[], #[], []⟩)).forCall (fun _ _ => 0) ⟨#[], #[.agg #[.string ByteArray.empty, .string ByteArray.empty, .bool false, .string ByteArray.empty, .string ByteArray.empty], .string ByteArray.empty], []⟩).memory :=
  laidMet_of_run' 8 (by kernel_rfl) (by kernel_rfl)
theorem appendReads (os : Os) {H : Type} (enc : TypeId × Value → H) : ∃ places, DataW.whole enc Tryd.prog ((laidOver (World.holding Tryd.prog os ⟨#[], #[], []⟩)).forCall (fun _ _ => 0) ⟨#[], #[.agg #[.string ByteArray.empty, .string ByteArray.empty, .bool false, .string ByteArray.empty, .string ByteArray.empty], .string ByteArray.empty], []⟩).memory Tryd.f3.params.toList Rows.fnExactAppendSpec.vars false (#[.agg #[.string ByteArray.empty, .string ByteArray.empty, .bool false, .string ByteArray.empty, .string ByteArray.empty], .string ByteArray.empty] : Array Value).toList 8 = some ([.agg [.lit (.string []), .lit (.string []), .lit (.bool false), .lit (.string []), .lit (.string [])], .lit (.string [])], [Rows.laid_loop_example_s01729_impl_checksumTable], places) :=
  read_of (by kernel_rfl)

set_option maxRecDepth 100000 in
theorem appendLifted (os : Os) (started : os.Started) (H : Type) (enc : TypeId × Value → H) (F : Stop.Interp) :
    ReturnsInHanded {} Tryd.checked os 3 .any ((OpenSpec.ofChange Rows.fnExactAppendSpec).preRow enc Tryd.prog Tryd.f3 Rows.fnExactAppendRow.domain false Rows.fnExactAppendRow.laid) (((OpenSpec.ofChange Rows.fnExactAppendSpec).at F).post enc Tryd.prog Tryd.f3 false true false false) := by
  obtain ⟨places, hx⟩ := appendReads os enc
  refine returnsInHanded_of_row (C := Tryd.checked) (s := OpenSpec.ofChange Rows.fnExactAppendSpec) own started (by kernel_rfl) Tryd.func3
    (witness_row_at (enc := enc) (C := Tryd.checked) false (laidOver (World.holding Tryd.prog os ⟨#[], #[], []⟩)) #[.agg #[.string ByteArray.empty, .string ByteArray.empty, .bool false, .string ByteArray.empty, .string ByteArray.empty], .string ByteArray.empty] rfl (by kernel_rfl) (by kernel_rfl) (by kernel_rfl)
      (OpenSpec.preRow_of_cond 8 hx (by kernel_rfl) (fun k hk => by cases hk) (by kernel_rfl) (appendMet os))) ?_
  intro W base args ds gs before hval hW _ _ _ hL _ _
  exact appendContract H enc W base args ds gs before hval hW hL

set_option maxRecDepth 100000 in
theorem appendSaid : Rows.FnExactAppendSaid :=
  OpenClaim.holds_of_cond 3 Tryd.f3 rfl rfl rfl rfl rfl rfl rfl ⟨rfl, rfl, rfl, rfl, rfl⟩ rfl rfl rfl rfl rfl (by kernel_rfl) Tryd.func3 (by kernel_rfl)
    (of_decide_eq_true (by kernel_rfl)) (by unfold Func.isWrapper; first | (rw [if_pos (by decide +kernel)]; kernel_rfl) | (rw [if_neg (by decide +kernel)]; exact ⟨rfl, rfl⟩))
    (fun os started H enc _ F => by rw [OpenClaim.pre_eq_preRow]; exact appendLifted os started H enc F)

set_option maxRecDepth 100000 in
theorem appendPlain (f : FuncId) (fn : Func) (hf : Tryd.pinned.checked.prog.funcNamed "loop.example/s01729/laws.FnExactAppend" = some f) (hfn : Tryd.pinned.checked.prog.funcs[f]? = some fn) :
    false = Tryd.pinned.checked.prog.looks [] ∧ ∀ (j : Nat) t, fn.params[j]? = some t → Tryd.pinned.checked.prog.wantsStandIn t = false := by
  obtain rfl : f = 3 := Option.some.inj ((show Tryd.prog.funcNamed "loop.example/s01729/laws.FnExactAppend" = some 3 by kernel_rfl).symm.trans hf) |>.symm
  obtain rfl : fn = Tryd.f3 := (Option.some.inj (Tryd.func3.symm.trans hfn)).symm
  refine ⟨by kernel_rfl, fun j t ht => ?_⟩
  rw [Tryd.params3] at ht
  have hall : ∀ t ∈ ([23, 9] : List TypeId), Tryd.prog.wantsStandIn t = false := fun t h => by
    have h2 : ([23, 9] : List TypeId).all (fun t => !Tryd.prog.wantsStandIn t) = true := by kernel_rfl
    simpa using List.all_eq_true.1 h2 t h
  exact hall t (by simpa using Array.mem_of_getElem? ht)

set_option maxRecDepth 100000 in
theorem appendCard : Rows.FnExactAppendCardSaid :=
  Claim7.holds_tied_plain_at .later [] _ _ _ _ appendSaid (fun _ h => by cases h) (by kernel_rfl) (fun _ h => by cases h) fnExactAppend_row_tie rfl ⟨rfl, rfl⟩ (by kernel_rfl) rfl appendPlain (by kernel_rfl)
#print axioms appendCard
end Go.Proofs.YticfnfplpccmgacDoor
