import Derived.Test.YtfkngjdclggfbaaDoorArgV
import Derived.Test.YtfkngjdclggfbaaDoorVdT
import Derived.Test.YtfkngjdclggfbaaDoorOpenPs
import Derived.Test.YtfkngjdclggfbaaDoorVMarks
import Derived.Test.YtfkngjdclggfbaaDoorToVd
namespace Go.Proofs.YtfkngjdclggfbaaDoor
open Go.ChangeShapes Go.WideShapes Go.ChangeAt Go.RowKit
attribute [local go_sem ↓] Go.wp_at_zero Go.wp_at_succ

theorem fill_stepB (L : List Bool) (k : Nat) (h : k < L.length) : (L.take k ++ List.replicate (L.length - k) false).set k L[k] = L.take (k + 1) ++ List.replicate (L.length - (k + 1)) false := by
  have hl : (L.take k).length = k := by simp; omega
  rw [List.set_append_right _ _ (by omega), hl, Nat.sub_self, List.take_succ_eq_append_getElem h]
  obtain ⟨n, hn⟩ : ∃ n, L.length - k = n + 1 := ⟨L.length - k - 1, by omega⟩
  rw [hn, List.replicate_succ, List.set_cons_zero, show L.length - (k + 1) = n by omega, List.append_assoc]
  rfl
set_option maxHeartbeats 1000000 in
set_option maxRecDepth 100000 in
theorem toBls (v : Value) (L : List Bool) (w : World) (h : ArgB w v L) (hL : L.length ≤ 1048576) :
    Calls Tryd.prog 35 #[v] w fun e w' => ∃ v', e = .returned v' ∧ Bls w' w.heap.size v' L ∧ Below w.heap.size w w' := by
  obtain ⟨_, hform⟩ := h
  obtain ⟨i0, hi, hz0, hz1, hz2⟩ := info_parts infoBool
  have hmk : (Instr.makeSlice 24 (.int .i64 (L.length : Int)) (.int .i64 (L.length : Int))).run Tryd.prog w = .ok (.slice (some ⟨w.heap.size, 0, none⟩) L.length L.length) (w.alloc (.cells (madeCells (Value.bool false).cells L.length) 4)) := by
    have e := run_make (P := Tryd.prog) w 24 4 i0 (.bool false) Tryd.underlying24 hi hz0 .i64 .i64 (L.length : Int) (L.length : Int) (by omega) (by omega) (by rw [hz2]; omega) (by omega)
    simpa [hz1] using e
  have HM : Hid (Bls (w.alloc (.cells (madeCells (Value.bool false).cells L.length) 4)) w.heap.size (.slice (some ⟨w.heap.size, 0, none⟩) L.length L.length) (L.take 0 ++ List.replicate (L.length - 0) false)) := bls_made w L.length (by unfold maxLen; omega)
  clear hi hz0 hz1 hz2
  rcases hform with ⟨rfl, a, c, rfl⟩ | ⟨b, off, cap, rfl, hlt, hc⟩
  · simp only [List.length_nil, Int.cast_ofNat_Int] at hmk
    go_enter Tryd.func35, Tryd.ntmps35
    go_wp2
    refine wp_loop_rounds 1 ?_; rw [rounds_succ]
    go_wp2
    go_ret
    exact ⟨_, rfl, HM.out, below1 _ _⟩
  · have HC : Hid (∀ i (hi : i < L.length), w.cell? ⟨b, off + i, none⟩ = some (.bool L[i])) := hc
    clear hc
    obtain ⟨Z, HZ⟩ : ∃ Z, Hid (Obj.cells (madeCells (Value.bool false).cells L.length) 4 = Z) := ⟨_, rfl⟩
    rw [HZ.out] at hmk HM
    go_enter Tryd.func35, Tryd.ntmps35
    go_wp2
    go_loopw [4] (fun i wr => ∃ k : Nat, k ≤ L.length ∧ i = .int .i64 k ∧ Hid (Bls wr w.heap.size (.slice (some ⟨w.heap.size, 0, none⟩) L.length L.length) (L.take k ++ List.replicate (L.length - k) false)) ∧ Below w.heap.size w wr) (fun i _ => L.length - (intOf i).toNat)
    case atStart => exact ⟨0, Nat.zero_le _, rfl, HM, below1 _ _⟩
    case round =>
      obtain ⟨k, hk, rfl, HS, hb⟩ := hrel
      by_cases hlt2 : k < L.length
      · have ex1 := (hb.cell (p := ⟨b, off + k, none⟩) hlt).trans (HC.out k hlt2)
        have HN : Hid ((L.take k ++ List.replicate (L.length - k) false).set k L[k] = L.take (k + 1) ++ List.replicate (L.length - (k + 1)) false) := fill_stepB L k hlt2
        have hlen : (L.take k ++ List.replicate (L.length - k) false).length = L.length := by simp; omega
        obtain ⟨x, ec⟩ : ∃ x, wr.cell? ⟨w.heap.size, k, none⟩ = some (.bool x) := ⟨_, HS.out.at.1.cell k (by omega)⟩
        have ef := HS.out.at.1.free k
        clear hlen
        generalize L[k] = X at ex1 HN
        go_wp2
        go_roundw
        case rel =>
          refine ⟨k + 1, by omega, by go_num, ?_, hb.setCell (Nat.le_refl _) _⟩
          show Bls _ _ _ _
          rw [← HN.out]
          exact bls_set HS.out _
        case measure => simp [intOf]; omega
      · obtain rfl : k = L.length := by omega
        go_wp2
        go_ret
        refine ⟨_, rfl, ?_, hb⟩
        have e := HS.out
        rw [List.take_length, Nat.sub_self, List.replicate_zero, List.append_nil] at e
        exact e

set_option maxHeartbeats 1000000 in
set_option maxRecDepth 100000 in
theorem szBls (v : Value) (L : List Bool) (n : Int) (w : World) (h : ArgB w v L) (hn : 0 ≤ n) (hn2 : n ≤ 1048576) :
    Calls Tryd.prog 32 #[v, .int .i64 n] w fun e w' => (∃ r : Int, e = .returned (.int .i64 r) ∧ (r < 0 ∨ (0 ≤ r ∧ r ≤ n ∧ (L.length : Int) ≤ n))) ∧ Below w.heap.size w w' := by
  have hm := h.1
  unfold maxLen at hm
  obtain ⟨a, c, rfl⟩ := h.form
  clear h
  by_cases c1 : n - (L.length : Int) < 0
  · go_enter Tryd.func32, Tryd.ntmps32
    go_wp2
    go_ret
    exact ⟨⟨_, rfl, .inl (by decide)⟩, Below.refl _ _⟩
  · go_enter Tryd.func32, Tryd.ntmps32
    go_wp2
    go_ret
    exact ⟨⟨_, rfl, .inr ⟨by omega, by omega, by omega⟩⟩, Below.refl _ _⟩

end Go.Proofs.YtfkngjdclggfbaaDoor
