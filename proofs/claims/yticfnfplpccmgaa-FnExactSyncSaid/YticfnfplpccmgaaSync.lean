import Derived.Test.YticfnfplpccmgaaDisk
namespace Go.Proofs.Yticfnfplpccmgaa
open Go.ChangeShapes Go.WideShapes Go.ChangeAt Go.RowKit

set_option maxHeartbeats 400000 in
set_option maxRecDepth 100000 in
theorem specSync (m l t x : ByteArray) (h : Bool) (w : World) (hm : m.size ≤ 1048576) (hl : l.size ≤ 1048576) :
    Calls Try.prog 12 #[.agg #[.string m, .string l, .bool h, .string t, .string x]] w fun e w' => e = .returned (.agg #[.string (m ++ l), .string ⟨#[]⟩, .bool h, .string t, .string x]) ∧ Below w.heap.size w w' := by
  go_enter Try.func12, Try.ntmps12
  go_wp2
  exact bodyPost_ret (v := .agg #[.string (m ++ l), .string ⟨#[]⟩, .bool h, .string t, .string x]) (by simp [results, Try.results12, go_sem]) rfl ⟨rfl, below2 _ _ _⟩
set_option maxHeartbeats 400000 in
set_option maxRecDepth 100000 in
theorem implSync (m l t x : ByteArray) (h : Bool) (w : World) (hm : m.size ≤ 1048576) (hl : l.size ≤ 1048576) :
    Calls Try.prog 14 #[.agg #[.string m, .string l, .bool h, .string t, .string x]] w fun e w' => e = .returned (.agg #[.string (m ++ l), .string ⟨#[]⟩, .bool h, .string t, .string x]) ∧ Below w.heap.size w w' := by
  go_enter Try.func14, Try.ntmps14
  go_wp2
  exact bodyPost_ret (v := .agg #[.string (m ++ l), .string ⟨#[]⟩, .bool h, .string t, .string x]) (by simp [results, Try.results14, go_sem]) rfl ⟨rfl, below2 _ _ _⟩

set_option maxHeartbeats 400000 in
set_option maxRecDepth 100000 in
theorem syncLaw (m l t x : ByteArray) (h : Bool) (w : World) (hm : m.size ≤ maxLen) (hl : l.size ≤ maxLen) (ht : t.size ≤ maxLen) (hx : x.size ≤ maxLen) :
    Calls Try.prog 5 #[.agg #[.string m, .string l, .bool h, .string t, .string x]] w fun e w' => e = .returned (.bool true) ∧ Below w.heap.size w w' := by
  go_enter Try.func5, Try.ntmps5
  go_wp2_with fail
  refine (szDisk m l t x h 1048576 _ (by decide) (by decide) hm hl ht hx).mono ?_
  rintro e w1 ⟨r, rfl, hr, hr1, hr2, hb1⟩
  have hz1 : w.heap.size < w1.heap.size := by have := hb1.size; simp at this; omega
  have D1 : Hid (DiskAt w1 w.heap.size m l h t x) := (diskAt_new w m l h t x _).below hb1 (by simp)
  by_cases hneg : r < 0
  · go_wp2
    go_ret
    exact ⟨rfl, (below1 _ _).trans (hb1.mono (by simp))⟩
  · have hsum : (m.size : Int) + l.size + t.size + x.size ≤ 1048576 := by omega
    clear hr
    obtain ⟨c0, c1, c2, c3, c4⟩ := D1.out
    go_wp2_with fail
    clear c0 c1 c2 c3 c4
    refine (toDisk m l t x h _).mono ?_
    rintro e w2 ⟨rfl, hb2⟩
    have hz2 : w1.heap.size ≤ w2.heap.size := hb2.size
    go_wp2_with fail
    refine (specSync m l t x h _ (by omega) (by omega)).mono ?_
    rintro e w3 ⟨rfl, hb3⟩
    have hz3 : w.heap.size < w3.heap.size := by have := hb3.size; omega
    have D3 : Hid (DiskAt w3 w.heap.size m l h t x) := (D1.out.below hb2 (by omega)).below hb3 (by omega)
    obtain ⟨c0, c1, c2, c3, c4⟩ := D3.out
    go_wp2_with fail
    clear c0 c1 c2 c3 c4
    refine (toDisk m l t x h _).mono ?_
    rintro e w4 ⟨rfl, hb4⟩
    have hz4 : w3.heap.size < w4.heap.size := by have := hb4.size; simp at this; omega
    go_wp2_with fail
    refine (implSync m l t x h _ (by omega) (by omega)).mono ?_
    rintro e w5 ⟨rfl, hb5⟩
    have hz5 : w3.heap.size < w5.heap.size := by have := hb5.size; omega
    have D5 : DiskAt w5 w3.heap.size (m ++ l) ⟨#[]⟩ h t x := ((diskAt_new w3 (m ++ l) ⟨#[]⟩ h t x _).below hb4 (by simp)).below hb5 (by omega)
    obtain ⟨c0, c1, c2, c3, c4⟩ := D5
    go_wp2_with fail
    clear c0 c1 c2 c3 c4
    refine (eqDisk (m ++ l) ⟨#[]⟩ t x h _).mono ?_
    rintro e w6 ⟨rfl, hb6⟩
    go_wp2
    go_ret
    refine ⟨rfl, ?_⟩
    have g1 := (below1 w _).trans (hb1.mono (by simp))
    have g3 := (g1.trans (hb2.mono (by omega))).trans (hb3.mono (by omega))
    have g5 := ((g3.alloc (by omega) _).trans (hb4.mono (by simp; omega))).trans (hb5.mono (by omega))
    exact (g5.alloc (by omega) _).trans (hb6.mono (by simp; omega))

set_option maxRecDepth 100000 in
theorem syncContract (H : Type) (enc : TypeId × Value → H) (W : World) (base : Nat) (args : Array Value) (ds gs : List (DataW H)) (before : List MemPlace)
    (hval : ∀ (j : Nat) t v, Try.f5.params[j]? = some t → args[j]? = some v → Value.okWide Try.prog W .any base t v)
    (hW : DataW.Whole enc Try.prog Try.f5.params.toList Rows.fnExactSyncSpec.vars false W args.toList ds gs before) :
    Calls Try.prog 5 args W fun e W' => ∃ v, e = .returned v ∧ Rows.fnExactSyncSpec.post enc Try.prog Try.f5 false true false false W args v W' := by
  have hW' := hW
  obtain ⟨p, q, hA0, hV, rfl, hfz, hnd⟩ := hW
  have hA : DataW.TrodAll enc Try.prog W 0 (fun _ => true) true Try.f5.params.toList args.toList ds p := hA0
  rw [Try.params5] at hA hval
  obtain ⟨v0, vs0, d0, ds0, p0, q0, hargs, rfl, rfl, h0, r0⟩ := trodAll_cons hA
  obtain ⟨rfl, rfl, rfl⟩ := trodAll_nil r0
  obtain rfl : args = #[v0] := by cases args; simp_all
  obtain ⟨m, l, h, t, x, rfl, hm, hl, ht, hx⟩ := openDisk (hval 0 27 v0 rfl rfl) h0
  obtain ⟨rfl, rfl⟩ := trodVars_none hV
  clear hA0
  refine (syncLaw m l t x h W hm hl ht hx).mono fun e W' ⟨he, hb⟩ => ?_
  subst he
  exact ⟨_, rfl, LawBase.lawPost 4 laidOut (by kernel_rfl) (by kernel_rfl) (by kernel_rfl) Try.underlying4 hW' rfl hb⟩

set_option maxRecDepth 100000 in
theorem syncLifted (os : Os) (started : os.Started) (H : Type) (enc : TypeId × Value → H) :
    ReturnsInHanded {} Try.checked os 5 .any (Rows.fnExactSyncSpec.pre6 enc Try.prog Try.f5 Rows.fnExactSyncRow.domain false) (Rows.fnExactSyncSpec.post enc Try.prog Try.f5 false true false false) := by
  refine returnsInHanded_of_change (C := Try.checked) own started (by kernel_rfl) Try.func5
    (ChangeSpec.witness6 (enc := enc) (C := Try.checked) false ⟨#[], #[.agg #[.string ByteArray.empty, .string ByteArray.empty, .bool false, .string ByteArray.empty, .string ByteArray.empty]], []⟩ 8 (by kernel_rfl) (by kernel_rfl) (by kernel_rfl) (by kernel_rfl)) ?_
  intro W base args ds gs before hval hW _ _
  exact syncContract H enc W base args ds gs before hval hW

set_option maxRecDepth 100000 in
theorem syncSaid : Rows.FnExactSyncSaid :=
  OpenClaim.holds_of_wide 5 Try.f5 rfl rfl rfl rfl rfl rfl rfl ⟨rfl, rfl, rfl, rfl, rfl⟩ rfl rfl rfl rfl rfl (by kernel_rfl) Try.func5 (by kernel_rfl)
    (of_decide_eq_true (by kernel_rfl)) (by unfold Func.isWrapper; first | (rw [if_pos (by decide +kernel)]; kernel_rfl) | (rw [if_neg (by decide +kernel)]; exact ⟨rfl, rfl⟩))
    (fun os started H enc _ => syncLifted os started H enc)
#print axioms syncSaid
end Go.Proofs.Yticfnfplpccmgaa
