import Derived.Test.YticfnfplpccmgaaICrash
import Derived.Deep.RegionWith
import Derived.Deep.DrawnRows
import Derived.Deep.DeepCutAuto
namespace Go.Proofs.Yticfnfplpccmgaa
open Go.ChangeShapes Go.WideShapes Go.ChangeAt Go.RowKit
attribute [local go_sem ↓] Go.wp_at_zero Go.wp_at_succ

set_option maxHeartbeats 1000000 in
set_option maxRecDepth 100000 in
theorem specCrash (m l t x : ByteArray) (h : Bool) (a b : Int) (w : World) (hm : m.size ≤ 1048576) (hl : l.size ≤ 1048576) (ht : t.size ≤ 1048576) (hx : x.size ≤ 1048576) :
    Calls Try.prog 16 #[.agg #[.string m, .string l, .bool h, .string t, .string x], .int .i64 a, .int .i64 b] w fun e w' => e = .returned (.agg #[.string (m ++ keepB l a), .string ⟨#[]⟩, .bool h, .string (t ++ keepB x b), .string ⟨#[]⟩]) ∧ Below w.heap.size w w' := by
  have k1 := keepB_size l a
  have k2 := keepB_size x b
  go_enter Try.func16, Try.ntmps16
  go_upto_region 1 with fail
  go_cut [] (fun wx => wx = ((w.alloc (.cells #[.string (m ++ keepB l a), .string l, .bool h, .string t, .string x] 29)).alloc (.cells #[.string ⟨#[]⟩, .string ⟨#[]⟩, .bool false, .string ⟨#[]⟩, .string ⟨#[]⟩] 29)).drew)
  case first =>
    go_region_with (go_at_call 18; refine (specKeep _ _ _).mono ?_; rintro e w' ⟨rfl, rfl⟩)
    all_goals (go_wp2_with fail; go_meet; exact rfl)
  case rest =>
  obtain rfl := hcut
  go_upto_region 2 with fail
  go_cut [] (fun wx => wx = ((w.alloc (.cells #[.string (m ++ keepB l a), .string l, .bool h, .string (t ++ keepB x b), .string x] 29)).alloc (.cells #[.string ⟨#[]⟩, .string ⟨#[]⟩, .bool false, .string ⟨#[]⟩, .string ⟨#[]⟩] 29)).drew.drew)
  case first =>
    go_region_with (go_at_call 18; refine (specKeep _ _ _).mono ?_; rintro e w' ⟨rfl, rfl⟩)
    all_goals (go_wp2_with fail; go_meet; exact rfl)
  case rest =>
  obtain rfl := hcut
  go_wp2
  exact bodyPost_ret (v := .agg #[.string (m ++ keepB l a), .string ⟨#[]⟩, .bool h, .string (t ++ keepB x b), .string ⟨#[]⟩]) (by simp [results, Try.results16, go_sem]) rfl ⟨rfl, (below2 _ _ _).drew.drew⟩
set_option maxHeartbeats 400000 in
set_option maxRecDepth 100000 in
theorem crashLaw (m l t x : ByteArray) (h : Bool) (a b : Int) (w : World) (hm : m.size ≤ maxLen) (hl : l.size ≤ maxLen) (ht : t.size ≤ maxLen) (hx : x.size ≤ maxLen) :
    Calls Try.prog 6 #[.agg #[.string m, .string l, .bool h, .string t, .string x], .int .i64 a, .int .i64 b] w fun e w' => e = .returned (.bool true) ∧ Below w.heap.size w w' := by
  go_enter Try.func6, Try.ntmps6
  go_wp2_with fail
  refine (szDisk m l t x h 1048576 _ (by decide) (by decide) hm hl ht hx).mono ?_
  rintro e w1 ⟨r, rfl, hr, hr1, hr2, hb1⟩
  have hz1 : w.heap.size < w1.heap.size := by have := hb1.size; simp at this; omega
  have D1 : Hid (DiskAt w1 w.heap.size m l h t x) := (diskAt_new w m l h t x _).below hb1 (by simp)
  by_cases hneg : r < 0
  · go_wp2
    go_ret
    exact ⟨rfl, (below1 _ _).trans (hb1.mono (by simp))⟩
  · have hsum : (m.size : Int) + l.size + t.size + x.size ≤ 1048576 := by omega
    clear hr
    obtain ⟨c0, c1, c2, c3, c4⟩ := D1.out
    go_wp2_with fail
    clear c0 c1 c2 c3 c4
    refine (toDisk m l t x h _).mono ?_
    rintro e w2 ⟨rfl, hb2⟩
    have hz2 : w1.heap.size ≤ w2.heap.size := hb2.size
    go_wp2_with fail
    refine (specCrash m l t x h a b _ (by omega) (by omega) (by omega) (by omega)).mono ?_
    rintro e w3 ⟨rfl, hb3⟩
    have hz3 : w.heap.size < w3.heap.size := by have := hb3.size; omega
    have D3 : Hid (DiskAt w3 w.heap.size m l h t x) := (D1.out.below hb2 (by omega)).below hb3 (by omega)
    obtain ⟨c0, c1, c2, c3, c4⟩ := D3.out
    go_wp2_with fail
    clear c0 c1 c2 c3 c4
    refine (toDisk m l t x h _).mono ?_
    rintro e w4 ⟨rfl, hb4⟩
    have hz4 : w3.heap.size < w4.heap.size := by have := hb4.size; simp at this; omega
    go_wp2_with fail
    refine (implCrash m l t x h a b _ (by omega) (by omega) (by omega) (by omega)).mono ?_
    rintro e w5 ⟨rfl, hb5⟩
    have hz5 : w3.heap.size < w5.heap.size := by have := hb5.size; omega
    have D5 : DiskAt w5 w3.heap.size (m ++ keepB l a) ⟨#[]⟩ h (t ++ keepB x b) ⟨#[]⟩ := ((diskAt_new w3 (m ++ keepB l a) ⟨#[]⟩ h (t ++ keepB x b) ⟨#[]⟩ _).below hb4 (by simp)).below hb5 (by omega)
    obtain ⟨c0, c1, c2, c3, c4⟩ := D5
    go_wp2_with fail
    clear c0 c1 c2 c3 c4
    refine (eqDisk (m ++ keepB l a) ⟨#[]⟩ (t ++ keepB x b) ⟨#[]⟩ h _).mono ?_
    rintro e w6 ⟨rfl, hb6⟩
    go_wp2
    go_ret
    refine ⟨rfl, ?_⟩
    have g1 := (below1 w _).trans (hb1.mono (by simp))
    have g3 := (g1.trans (hb2.mono (by omega))).trans (hb3.mono (by omega))
    have g5 := ((g3.alloc (by omega) _).trans (hb4.mono (by simp; omega))).trans (hb5.mono (by omega))
    exact (g5.alloc (by omega) _).trans (hb6.mono (by simp; omega))

set_option maxRecDepth 100000 in
theorem crashContract (H : Type) (enc : TypeId × Value → H) (W : World) (base : Nat) (args : Array Value) (ds gs : List (DataW H)) (before : List MemPlace)
    (hval : ∀ (j : Nat) t v, Try.f6.params[j]? = some t → args[j]? = some v → Value.okWide Try.prog W .any base t v)
    (hW : DataW.Whole enc Try.prog Try.f6.params.toList Rows.fnExactCrashSpec.vars false W args.toList ds gs before) :
    Calls Try.prog 6 args W fun e W' => ∃ v, e = .returned v ∧ Rows.fnExactCrashSpec.post enc Try.prog Try.f6 false true false false W args v W' := by
  have hW' := hW
  obtain ⟨p, q, hA0, hV, rfl, hfz, hnd⟩ := hW
  have hA : DataW.TrodAll enc Try.prog W 0 (fun _ => true) true Try.f6.params.toList args.toList ds p := hA0
  rw [Try.params6] at hA hval
  obtain ⟨v0, vs0, d0, ds0, p0, q0, hargs, rfl, rfl, h0, r0⟩ := trodAll_cons hA
  obtain ⟨v1, vs1, d1, ds1, p1, q1, rfl, rfl, rfl, h1, r1⟩ := trodAll_cons r0
  obtain ⟨v2, vs2, d2, ds2, p2, q2, rfl, rfl, rfl, h2, r2⟩ := trodAll_cons r1
  obtain ⟨rfl, rfl, rfl⟩ := trodAll_nil r2
  obtain rfl : args = #[v0, v1, v2] := by cases args; simp_all
  obtain ⟨m, l, h, t, x, rfl, hm, hl, ht, hx⟩ := openDisk (hval 0 27 v0 rfl rfl) h0
  obtain ⟨a, rfl, rfl, rfl, _⟩ := open_int Try.underlying3 (hval 1 3 v1 rfl rfl) h1
  obtain ⟨b, rfl, rfl, rfl, _⟩ := open_int Try.underlying3 (hval 2 3 v2 rfl rfl) h2
  obtain ⟨rfl, rfl⟩ := trodVars_none hV
  clear hA0
  refine (crashLaw m l t x h a b W hm hl ht hx).mono fun e W' ⟨he, hb⟩ => ?_
  subst he
  exact ⟨_, rfl, LawBase.lawPost 4 laidOut (by kernel_rfl) (by kernel_rfl) (by kernel_rfl) Try.underlying4 hW' rfl hb⟩

set_option maxRecDepth 100000 in
theorem crashLifted (os : Os) (started : os.Started) (H : Type) (enc : TypeId × Value → H) :
    ReturnsInHanded {} Try.checked os 6 .any (Rows.fnExactCrashSpec.pre6 enc Try.prog Try.f6 Rows.fnExactCrashRow.domain false) (Rows.fnExactCrashSpec.post enc Try.prog Try.f6 false true false false) := by
  refine returnsInHanded_of_change (C := Try.checked) own started (by kernel_rfl) Try.func6
    (ChangeSpec.witness6 (enc := enc) (C := Try.checked) false ⟨#[], #[.agg #[.string ByteArray.empty, .string ByteArray.empty, .bool false, .string ByteArray.empty, .string ByteArray.empty], .int .i64 0, .int .i64 0], []⟩ 8 (by kernel_rfl) (by kernel_rfl) (by kernel_rfl) (by kernel_rfl)) ?_
  intro W base args ds gs before hval hW _ _
  exact crashContract H enc W base args ds gs before hval hW

set_option maxRecDepth 100000 in
theorem crashSaid : Rows.FnExactCrashSaid :=
  OpenClaim.holds_of_wide 6 Try.f6 rfl rfl rfl rfl rfl rfl rfl ⟨rfl, rfl, rfl, rfl, rfl⟩ rfl rfl rfl rfl rfl (by kernel_rfl) Try.func6 (by kernel_rfl)
    (of_decide_eq_true (by kernel_rfl)) (by unfold Func.isWrapper; first | (rw [if_pos (by decide +kernel)]; kernel_rfl) | (rw [if_neg (by decide +kernel)]; exact ⟨rfl, rfl⟩))
    (fun os started H enc _ => crashLifted os started H enc)
#print axioms crashSaid
end Go.Proofs.Yticfnfplpccmgaa
