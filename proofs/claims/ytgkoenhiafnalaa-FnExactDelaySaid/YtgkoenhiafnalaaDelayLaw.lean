import Derived.Test.YtgkoenhiafnalaaLawBase
import Derived.Test.YtgkoenhiafnalaaDisk
namespace Go.Proofs.Ytgkoenhiafnalaa
open Go.ChangeShapes Go.WideShapes Go.ChangeAt Go.RowKit

/-- how long to wait behind t tries -/
def delayOf (t : Int) : Int := if t < 1 then 0 else min (60 * 2 ^ (min (t.toNat - 1) 8)) 14400
theorem delay_none {t : Int} (h : t < 1) : delayOf t = 0 := by rw [delayOf, if_pos h]
theorem delay_stop {t : Int} {k d : Nat} (hd : d = 60 * 2 ^ k) (hk : k ≤ 8) (h : (k : Int) + 1 = t) : delayOf t = min (d : Int) 14400 := by
  rw [delayOf, if_neg (by omega), show min (t.toNat - 1) 8 = k by omega, hd]; simp
theorem delay_full {t : Int} {k d : Nat} (hd : d = 60 * 2 ^ k) (hk : k ≤ 8) (h : (k : Int) + 1 ≤ t) (hb : 14400 ≤ d) : delayOf t = 14400 := by
  have h8 : k = 8 := by
    by_cases h7 : k ≤ 7
    · have : 2 ^ k ≤ 2 ^ 7 := Nat.pow_le_pow_right (by decide) h7
      have e : (2 : Nat) ^ 7 = 128 := rfl
      omega
    · omega
  rw [delayOf, if_neg (by omega), show min (t.toNat - 1) 8 = 8 by omega]; decide
theorem delay_lt {k d : Nat} (hd : d = 60 * 2 ^ k) (hk : k ≤ 8) (hb : d < 14400) : k ≤ 7 := by
  by_cases h7 : k ≤ 7
  · exact h7
  · have : k = 8 := by omega
    subst this; rw [hd] at hb; revert hb; decide
theorem delay_le {k d : Nat} (hd : d = 60 * 2 ^ k) (hk : k ≤ 8) : d ≤ 15360 := by
  have : 2 ^ k ≤ 2 ^ 8 := Nat.pow_le_pow_right (by decide) hk
  have e : (2 : Nat) ^ 8 = 256 := rfl
  omega

set_option maxHeartbeats 1000000 in
set_option maxRecDepth 100000 in
theorem specDelay (t : Int) (w : World) (ht : t ≤ 9223372036854775807) :
    Calls Try.prog 7 #[.int .i64 t] w fun e w' => e = .returned (.int .i64 (delayOf t)) ∧ Below w.heap.size w w' := by
  by_cases h1 : t < 1
  · go_enter Try.func7, Try.ntmps7
    go_wp2
    go_ret
    exact ⟨ret_int (delay_none h1).symm, Below.refl _ _⟩
  · go_enter Try.func7, Try.ntmps7
    go_wp2
    go_loopw [3, 4] (fun dv iv wr => ∃ k d : Nat, k ≤ 8 ∧ Hid (d = 60 * 2 ^ k) ∧ dv = .int .i64 d ∧ iv = .int .i64 (k + 1) ∧ (k : Int) + 1 ≤ t ∧ wr = w) (fun _ iv _ => 10 - (intOf iv).toNat)
    case atStart => exact ⟨0, 60, by omega, rfl, rfl, rfl, by omega, rfl⟩
    case round =>
      obtain ⟨k, d, hk, HD, rfl, rfl, hkt, rfl⟩ := hrel
      have hd := delay_le HD.out hk
      by_cases c1 : (k : Int) + 1 < t
      · by_cases c2 : (d : Int) < 14400
        · have h7 := delay_lt HD.out hk (by omega)
          have HD2 : Hid (d * 2 = 60 * 2 ^ (k + 1)) := by show _ = _; rw [HD.out, Nat.pow_succ]; omega
          go_wp2
          go_roundw
          case rel => exact ⟨k + 1, d * 2, by omega, HD2, by go_num, by go_num, by omega, by first | rfl | trivial⟩
          case measure => simp [intOf]; omega
        · have G : Hid (delayOf t = 14400) := delay_full HD.out hk hkt (by omega)
          go_wp2
          all_goals
            go_ret
            exact ⟨ret_int (by have := G.out; omega), Below.refl _ _⟩
      · have G : Hid (delayOf t = min (d : Int) 14400) := delay_stop HD.out hk (by omega : (k : Int) + 1 = t)
        by_cases c3 : (d : Int) ≤ 14400
        · go_wp2
          all_goals
            go_ret
            exact ⟨ret_int (by have := G.out; omega), Below.refl _ _⟩
        · go_wp2
          all_goals
            go_ret
            exact ⟨ret_int (by have := G.out; omega), Below.refl _ _⟩

set_option maxHeartbeats 1000000 in
set_option maxRecDepth 100000 in
theorem implDelay (t : Int) (w : World) (ht : t ≤ 9223372036854775807) :
    Calls Try.prog 8 #[.int .i64 t] w fun e w' => e = .returned (.int .i64 (delayOf t)) ∧ Below w.heap.size w w' := by
  by_cases h1 : t < 1
  · go_enter Try.func8, Try.ntmps8
    go_wp2
    go_ret
    exact ⟨ret_int (delay_none h1).symm, Below.refl _ _⟩
  · go_enter Try.func8, Try.ntmps8
    go_wp2
    go_loopw [3, 4] (fun dv iv wr => ∃ k d : Nat, k ≤ 8 ∧ Hid (d = 60 * 2 ^ k) ∧ dv = .int .i64 d ∧ iv = .int .i64 (k + 1) ∧ (k : Int) + 1 ≤ t ∧ wr = w) (fun _ iv _ => 10 - (intOf iv).toNat)
    case atStart => exact ⟨0, 60, by omega, rfl, rfl, rfl, by omega, rfl⟩
    case round =>
      obtain ⟨k, d, hk, HD, rfl, rfl, hkt, rfl⟩ := hrel
      have hd := delay_le HD.out hk
      by_cases c1 : (k : Int) + 1 < t
      · by_cases c2 : (d : Int) < 14400
        · have h7 := delay_lt HD.out hk (by omega)
          have HD2 : Hid (d * 2 = 60 * 2 ^ (k + 1)) := by show _ = _; rw [HD.out, Nat.pow_succ]; omega
          go_wp2
          go_roundw
          case rel => exact ⟨k + 1, d * 2, by omega, HD2, by go_num, by go_num, by omega, by first | rfl | trivial⟩
          case measure => simp [intOf]; omega
        · have G : Hid (delayOf t = 14400) := delay_full HD.out hk hkt (by omega)
          go_wp2
          all_goals
            go_ret
            exact ⟨ret_int (by have := G.out; omega), Below.refl _ _⟩
      · have G : Hid (delayOf t = min (d : Int) 14400) := delay_stop HD.out hk (by omega : (k : Int) + 1 = t)
        by_cases c3 : (d : Int) ≤ 14400
        · go_wp2
          all_goals
            go_ret
            exact ⟨ret_int (by have := G.out; omega), Below.refl _ _⟩
        · go_wp2
          all_goals
            go_ret
            exact ⟨ret_int (by have := G.out; omega), Below.refl _ _⟩

set_option maxHeartbeats 1000000 in
theorem delayLaw (t : Int) (w : World) (ht : t ≤ 9223372036854775807) :
    Calls Try.prog 3 #[.int .i64 t] w fun e w' => e = .returned (.bool true) ∧ Below w.heap.size w w' := by
  go_enter Try.func3, Try.ntmps3
  go_wp2_with fail
  refine (specDelay t _ ht).mono ?_
  rintro e w1 ⟨rfl, hb1⟩
  go_wp2_with fail
  refine (implDelay t _ ht).mono ?_
  rintro e w2 ⟨rfl, hb2⟩
  generalize delayOf t = T
  go_wp2
  go_ret
  exact ⟨rfl, hb1.trans (hb2.mono hb1.size)⟩

set_option maxRecDepth 100000 in
theorem delayContract (H : Type) (enc : TypeId × Value → H) (W : World) (base : Nat) (args : Array Value) (ds gs : List (DataW H)) (before : List MemPlace)
    (hval : ∀ (j : Nat) t v, Try.f3.params[j]? = some t → args[j]? = some v → Value.okWide Try.prog W .any base t v)
    (hW : DataW.Whole enc Try.prog Try.f3.params.toList Rows.fnExactDelaySpec.vars false W args.toList ds gs before) :
    Calls Try.prog 3 args W fun e W' => ∃ v, e = .returned v ∧ Rows.fnExactDelaySpec.post enc Try.prog Try.f3 false true false false W args v W' := by
  have hW' := hW
  obtain ⟨p, q, hA0, hV, rfl, hfz, hnd⟩ := hW
  have hA : DataW.TrodAll enc Try.prog W 0 (fun _ => true) true Try.f3.params.toList args.toList ds p := hA0
  rw [Try.params3] at hA hval
  obtain ⟨v0, vs0, d0, ds0, p0, q0, hargs, rfl, rfl, h0, r0⟩ := trodAll_cons hA
  obtain ⟨rfl, rfl, rfl⟩ := trodAll_nil r0
  obtain rfl : args = #[v0] := by cases args; simp_all
  obtain ⟨x, rfl, rfl, rfl, hx⟩ := open_int Try.underlying3 (hval 0 3 v0 rfl rfl) h0
  obtain ⟨rfl, rfl⟩ := trodVars_none hV
  clear hA0
  refine (delayLaw x W (by simp [Lit.wf] at hx; omega)).mono fun e W' ⟨he, hb⟩ => ?_
  subst he
  exact ⟨_, rfl, LawBase.lawPost 4 laidOut (by kernel_rfl) (by kernel_rfl) (by kernel_rfl) Try.underlying4 hW' rfl hb⟩

set_option maxRecDepth 100000 in
theorem delayLifted (os : Os) (started : os.Started) (H : Type) (enc : TypeId × Value → H) :
    ReturnsInHanded {} Try.checked os 3 .any (Rows.fnExactDelaySpec.pre6 enc Try.prog Try.f3 Rows.fnExactDelayRow.domain false) (Rows.fnExactDelaySpec.post enc Try.prog Try.f3 false true false false) := by
  refine returnsInHanded_of_change (C := Try.checked) own started (by kernel_rfl) Try.func3
    (ChangeSpec.witness6 (enc := enc) (C := Try.checked) false ⟨#[], #[.int .i64 0], []⟩ 8 (by kernel_rfl) (by kernel_rfl) (by kernel_rfl) (by kernel_rfl)) ?_
  intro W base args ds gs before hval hW _ _
  exact delayContract H enc W base args ds gs before hval hW

set_option maxRecDepth 100000 in
theorem delaySaid : Rows.FnExactDelaySaid :=
  OpenClaim.holds_of_wide 3 Try.f3 rfl rfl rfl rfl rfl rfl rfl ⟨rfl, rfl, rfl, rfl, rfl⟩ rfl rfl rfl rfl rfl (by kernel_rfl) Try.func3 (by kernel_rfl)
    (of_decide_eq_true (by kernel_rfl)) (by unfold Func.isWrapper; first | (rw [if_pos (by decide +kernel)]; kernel_rfl) | (rw [if_neg (by decide +kernel)]; exact ⟨rfl, rfl⟩))
    (fun os started H enc _ => delayLifted os started H enc)
#print axioms delaySaid
end Go.Proofs.Ytgkoenhiafnalaa
