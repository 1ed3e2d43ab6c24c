import Derived.Test.YthblkfdgibonbaaRdRep
import Derived.Test.YthblkfdgibonbaaRdSpo
import Derived.Test.YthblkfdgibonbaaRdFill
import Derived.Deep.RegionWith
import Derived.Deep.DrawnRows
namespace Go.Proofs.Ythblkfdgibonbaa
open Go.ChangeShapes Go.WideShapes Go.ChangeAt Go.RowKit
attribute [local go_sem ↓] Go.wp_at_zero Go.wp_at_succ


set_option maxHeartbeats 2000000 in
set_option maxRecDepth 100000 in
theorem drawParse (cv : Value) (B : List UInt8) (w : World) (hC : CodeAt w cv B) :
    Calls Try.prog 6 #[cv] w fun e w' => (∃ s : ByteArray, s.size ≤ 1000 ∧ e = .returned (.string s)) ∧ Below w.heap.size w w' := by
  obtain ⟨ca, cc, rfl⟩ := hC.form
  have HN : Hid (RdAt (w.alloc (.cells #[.slice ca B.length cc, .int .i64 0] 51)) w.heap.size (.slice ca B.length cc) B 0) := rd_new w _ B hC
  clear hC
  go_enter Try.func6, Try.ntmps6
  go_wp2_with fail
  refine (rdNext _ _ _ B _ HN.out).mono ?_
  rintro e w1 ⟨rfl, h1, ho1⟩
  have hc := nx_lt B 0
  have H1 : Hid (RdAt w1 w.heap.size (.slice ca B.length cc) B (px B 0)) := h1
  have hbl1 : Below w.heap.size w w1 := (below1 w _).trans (ho1.below (by simp))
  clear h1 HN ho1
  generalize nx B 0 = c at *
  generalize px B 0 = q1 at *
  go_wp2_with fail
  refine (rdReply _ _ _ B _ H1.out).mono ?_
  rintro e w2 ⟨⟨s, q2, hs, rfl, h2⟩, ho2⟩
  have H2 : Hid (RdAt w2 w.heap.size (.slice ca B.length cc) B q2) := h2
  have hbl2 : Below w.heap.size w w2 := hbl1.trans (ho2.below (hbl1.size))
  clear h2 H1 ho2 hbl1
  by_cases c1 : 250 ≤ c
  · have c1i : (250 : Int) ≤ (c : Int) := by omega
    go_wp2_with fail
    go_loopw [5, 6] (fun sv iv wr => ∃ (i : Nat) (t : ByteArray), sv = .string t ∧ iv = .int .i64 i ∧ i ≤ 51 ∧ t.size ≤ i * 7 ∧ wr = w2) (fun _ iv _ => 52 - (intOf iv).toNat)
    case atStart => exact ⟨1, ⟨#[]⟩, rfl, rfl, by omega, by simp [ByteArray.size], rfl⟩
    case round =>
      obtain ⟨i, t, rfl, rfl, hi, ht, rfl⟩ := hrel
      obtain ⟨m, hm, hm2⟩ : ∃ m : Nat, 50 + (c : Int) % 2 = (m : Int) ∧ m ≤ 51 := ⟨50 + c % 2, by omega, by omega⟩
      by_cases hlt : i < m
      · go_wp2
        go_roundw
        case rel =>
          refine ⟨i + 1, _, rfl, by go_num, by omega, ?_, trivial⟩
          have e1 : (⟨#[50, 53, 48, 45, 120, 13, 10]⟩ : ByteArray).size = 7 := rfl
          simp only [ByteArray.size_append]
          omega
        case measure => simp [intOf]; omega
      · go_wp2
        go_ret
        refine ⟨⟨_, ?_, rfl⟩, hbl2⟩
        have e1 : (⟨#[50, 53, 48, 32, 120, 13, 10]⟩ : ByteArray).size = 7 := rfl
        simp only [ByteArray.size_append]
        omega
  · have c1i : ¬ (250 : Int) ≤ (c : Int) := by omega
    by_cases c2 : 244 ≤ c
    · have c2i : (244 : Int) ≤ (c : Int) := by omega
      obtain ⟨m, hm, hm2⟩ : ∃ m : Nat, 506 + (c : Int) % 2 = (m : Int) ∧ m ≤ 507 := ⟨506 + c % 2, by omega, by omega⟩
      have hmW : IntKind.i64.wrap (506 + (c : Int).tmod 2) = (m : Int) := by
        rw [Int.tmod_eq_emod_of_nonneg (by omega), hm, IntKind.wrap_i64]; omega
      have hk3 : (c : Int) % 3 = 0 ∨ (c : Int) % 3 = 1 ∨ (c : Int) % 3 = 2 := by omega
      rcases hk3 with hk | hk | hk
      all_goals
        have hkW := hk
        rw [← Int.tmod_eq_emod_of_nonneg (by omega)] at hkW
        go_wp2_with fail
        go_region_with (go_at_call 24; (try rw [hmW]); refine (fill m _ (by omega)).mono ?_; rintro e w3 ⟨rfl, hb3⟩; have hfs := fill_size m; generalize ofInts (fillL m) = Y at hfs ⊢)
      all_goals
        go_wp2
        go_ret
        refine ⟨⟨_, ?_, rfl⟩, ?_⟩
        · have e1 : (⟨#[50, 53, 48, 32]⟩ : ByteArray).size = 4 := rfl
          try simp only [ByteArray.size_append, ByteArray.size_extract]
          have e2 : (⟨#[13, 10]⟩ : ByteArray).size = 2 := rfl
          omega
        · exact hbl2.drew.trans (hb3.mono (hbl2.size))
    · have c2i : ¬ (244 : Int) ≤ (c : Int) := by omega
      by_cases c3 : c % 4 = 3
      · have c3i : ((c : Int) % 4 == 3) = true := by rw [beq_iff_eq]; omega
        go_wp2_with fail
        refine (rdNext _ _ _ B _ H2.out).mono ?_
        rintro e w3 ⟨rfl, h3, ho3⟩
        have hd := nx_lt B q2
        generalize nx B q2 = d at *
        have hbl3 : Below w.heap.size w w3 := hbl2.trans (ho3.below hbl2.size)
        clear h3 H2 ho3
        obtain ⟨k, hk, hk2⟩ : ∃ k : Nat, (d : Int) % ((s.size : Int) + 1) = (k : Int) ∧ k ≤ s.size := ⟨d % (s.size + 1), by simp, by have := Nat.mod_lt d (show 0 < s.size + 1 by omega); omega⟩
        have hki : (k : Int) ≤ s.size := by omega
        go_wp2
        go_ret
        refine ⟨⟨_, ?_, rfl⟩, hbl3⟩
        rw [ByteArray.size_extract]
        omega
      · have c3i : ((c : Int) % 4 == 3) = false := by rw [beq_eq_false_iff_ne]; omega
        by_cases c4 : c % 5 = 4
        · have c4i : ((c : Int) % 5 == 4) = true := by rw [beq_iff_eq]; omega
          go_wp2_with fail
          refine (rdSpoil _ _ _ B s _ H2.out (by omega)).mono ?_
          rintro e w3 ⟨⟨t, q3, ht, rfl, h3⟩, ho3⟩
          have hbl3 : Below w.heap.size w w3 := hbl2.trans (ho3.below hbl2.size)
          clear h3 H2 ho3
          go_wp2
          go_ret
          exact ⟨⟨_, by omega, rfl⟩, hbl3⟩
        · have c4i : ((c : Int) % 5 == 4) = false := by rw [beq_eq_false_iff_ne]; omega
          by_cases c5 : c % 3 = 2
          · have c5i : ((c : Int) % 3 == 2) = true := by rw [beq_iff_eq]; omega
            go_wp2_with fail
            refine (rdReply _ _ _ B _ H2.out).mono ?_
            rintro e w3 ⟨⟨t, q3, ht, rfl, h3⟩, ho3⟩
            have hbl3 : Below w.heap.size w w3 := hbl2.trans (ho3.below hbl2.size)
            clear h3 H2 ho3
            go_wp2
            go_ret
            exact ⟨⟨_, by rw [ByteArray.size_append]; omega, rfl⟩, hbl3⟩
          · have c5i : ((c : Int) % 3 == 2) = false := by rw [beq_eq_false_iff_ne]; omega
            go_wp2
            go_ret
            exact ⟨⟨_, by omega, rfl⟩, hbl2⟩
end Go.Proofs.Ythblkfdgibonbaa
