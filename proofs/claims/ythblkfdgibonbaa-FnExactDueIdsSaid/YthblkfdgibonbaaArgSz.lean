import Derived.Test.YthblkfdgibonbaaArgS
namespace Go.Proofs.Ythblkfdgibonbaa
open Go.ChangeShapes Go.WideShapes Go.ChangeAt Go.RowKit

set_option maxHeartbeats 1000000 in
set_option maxRecDepth 100000 in
theorem szStrs (v : Value) (L : List ByteArray) (n : Int) (w : World) (h : ArgS w v L) (hn : 0 ≤ n) (hn2 : n ≤ 1048576) :
    Calls Try.prog 69 #[v, .int .i64 n] w fun e w' => ∃ r : Int, e = .returned (.int .i64 r) ∧ (r < 0 ∨ r = n - L.length - sumSz L) ∧ w' = w := by
  obtain ⟨hL, hS, hform⟩ := h
  unfold maxLen at hL
  rcases hform with ⟨rfl, a, c, rfl⟩ | ⟨b, off, cap, rfl, hlt, hc⟩
  · clear hS
    go_enter Try.func69, Try.ntmps69
    go_wp2
    refine wp_loop_rounds 1 ?_; rw [rounds_succ]
    go_wp2
    go_ret
    exact ⟨_, rfl, .inr (by simp [sumSz]), rfl⟩
  · have HS : Hid (∀ s ∈ L, s.size ≤ maxLen) := hS
    have HC : Hid (∀ i (hi : i < L.length), w.cell? ⟨b, off + i, none⟩ = some (.string L[i])) := hc
    clear hS hc
    by_cases c1 : n - (L.length : Int) < 0
    · go_enter Try.func69, Try.ntmps69
      go_wp2
      go_ret
      exact ⟨_, rfl, .inl (by decide), rfl⟩
    · go_enter Try.func69, Try.ntmps69
      go_wp2
      go_loop [1, 5] (fun lv i => ∃ k : Nat, k ≤ L.length ∧ i = .int .i64 k ∧ lv = .int .i64 (n - (L.length : Int) - (sumSz (L.take k) : Int)) ∧ (sumSz (L.take k) : Int) ≤ n - (L.length : Int)) (fun _ i => L.length - (intOf i).toNat)
      case atStart => exact ⟨0, Nat.zero_le _, rfl, int_eq (by simp [sumSz]), by simp [sumSz]; omega⟩
      case round =>
        obtain ⟨k, hk, rfl, rfl, hsum⟩ := hrel
        by_cases hk2 : k < L.length
        · have e1 := HC.out k hk2
          have hs1 : L[k].size ≤ 9223372036854775807 := by have := HS.out L[k] (List.getElem_mem _); simpa [maxLen] using this
          have HT : Hid (sumSz (L.take (k + 1)) = sumSz (L.take k) + L[k].size) := sumSz_take L k hk2
          generalize L[k] = X at e1 hs1 HT
          generalize sumSz (L.take k) = T at hsum HT ⊢
          by_cases c2 : n - (L.length : Int) - (T : Int) - (X.size : Int) < 0
          · go_wp2
            go_ret
            exact ⟨_, rfl, .inl (by decide), rfl⟩
          · go_wp2
            go_round
            case rel => exact ⟨k + 1, by omega, by go_num, int_eq (by rw [HT.out]; omega), by rw [HT.out]; omega⟩
            case measure => simp [intOf]; omega
        · obtain rfl : k = L.length := by omega
          go_wp2
          go_ret
          exact ⟨_, rfl, .inr rfl, rfl⟩

set_option maxRecDepth 100000 in
theorem int_str : (Try.prog.info? 9).map (fun i => (i.zero, i.size, i.bytes)) = some (some (.string ⟨#[]⟩), 1, 16) := infoStr
/-- a new row of empty strings -/
theorem strs_made (w : World) (n : Nat) (hn : n ≤ maxLen) : Strs (w.alloc (.cells (madeCells (Value.string ⟨#[]⟩).cells n) 9)) w.heap.size (.slice (some ⟨w.heap.size, 0, none⟩) n n) (List.replicate n ⟨#[]⟩) := by
  refine ⟨by simp, .inr ⟨w.heap.size, n, madeCells (Value.string ⟨#[]⟩).cells n, by simp, Nat.le_refl _, (MapKept.heap_alloc w _).1, by simp, hn, by simp [size_madeCells], ?_⟩⟩
  simp [madeCells, Value.cells, Nat.mod_one, List.take_of_length_le]
  exact List.ext_getElem (by simp) (fun i h1 h2 => by simp)

set_option maxRecDepth 100000 in
theorem fill_step (L : List ByteArray) (k : Nat) (h : k < L.length) : (L.take k ++ List.replicate (L.length - k) (⟨#[]⟩ : ByteArray)).set k L[k] = L.take (k + 1) ++ List.replicate (L.length - (k + 1)) ⟨#[]⟩ := by
  have hl : (L.take k).length = k := by simp; omega
  rw [List.set_append_right _ _ (by omega), hl, Nat.sub_self, List.take_succ_eq_append_getElem h]
  obtain ⟨n, hn⟩ : ∃ n, L.length - k = n + 1 := ⟨L.length - k - 1, by omega⟩
  rw [hn, List.replicate_succ, List.set_cons_zero, show L.length - (k + 1) = n by omega, List.append_assoc]
  rfl

set_option maxHeartbeats 1000000 in
set_option maxRecDepth 100000 in
theorem toStrs (v : Value) (L : List ByteArray) (w : World) (h : ArgS w v L) (hL : L.length ≤ 1048576) :
    Calls Try.prog 71 #[v] w fun e w' => ∃ v', e = .returned v' ∧ Strs w' w.heap.size v' L ∧ Below w.heap.size w w' := by
  obtain ⟨_, hS, hform⟩ := h
  obtain ⟨i0, hi, hz0, hz1, hz2⟩ := info_parts infoStr
  have hmk : (Instr.makeSlice 24 (.int .i64 (L.length : Int)) (.int .i64 (L.length : Int))).run Try.prog w = .ok (.slice (some ⟨w.heap.size, 0, none⟩) L.length L.length) (w.alloc (.cells (madeCells (Value.string ⟨#[]⟩).cells L.length) 9)) := by
    have e := run_make (P := Try.prog) w 24 9 i0 (.string ⟨#[]⟩) Try.underlying24 hi hz0 .i64 .i64 (L.length : Int) (L.length : Int) (by omega) (by omega) (by rw [hz2]; omega) (by omega)
    simpa [hz1] using e
  have HM : Hid (Strs (w.alloc (.cells (madeCells (Value.string ⟨#[]⟩).cells L.length) 9)) w.heap.size (.slice (some ⟨w.heap.size, 0, none⟩) L.length L.length) (L.take 0 ++ List.replicate (L.length - 0) ⟨#[]⟩)) := strs_made w L.length (by unfold maxLen; omega)
  clear hi hz0 hz1 hz2 hS
  rcases hform with ⟨rfl, a, c, rfl⟩ | ⟨b, off, cap, rfl, hlt, hc⟩
  · simp only [List.length_nil, Int.cast_ofNat_Int] at hmk
    go_enter Try.func71, Try.ntmps71
    go_wp2
    refine wp_loop_rounds 1 ?_; rw [rounds_succ]
    go_wp2
    go_ret
    exact ⟨_, rfl, HM.out, below1 _ _⟩
  · have HC : Hid (∀ i (hi : i < L.length), w.cell? ⟨b, off + i, none⟩ = some (.string L[i])) := hc
    clear hc
    obtain ⟨Z, HZ⟩ : ∃ Z, Hid (Obj.cells (madeCells (Value.string ⟨#[]⟩).cells L.length) 9 = Z) := ⟨_, rfl⟩
    rw [HZ.out] at hmk HM
    go_enter Try.func71, Try.ntmps71
    go_wp2
    go_loopw [4] (fun i wr => ∃ k : Nat, k ≤ L.length ∧ i = .int .i64 k ∧ Hid (Strs wr w.heap.size (.slice (some ⟨w.heap.size, 0, none⟩) L.length L.length) (L.take k ++ List.replicate (L.length - k) ⟨#[]⟩)) ∧ Below w.heap.size w wr) (fun i _ => L.length - (intOf i).toNat)
    case atStart => exact ⟨0, Nat.zero_le _, rfl, HM, below1 _ _⟩
    case round =>
      obtain ⟨k, hk, rfl, HS, hb⟩ := hrel
      by_cases hlt2 : k < L.length
      · have e1 := (hb.cell (p := ⟨b, off + k, none⟩) hlt).trans (HC.out k hlt2)
        have HN : Hid ((L.take k ++ List.replicate (L.length - k) (⟨#[]⟩ : ByteArray)).set k L[k] = L.take (k + 1) ++ List.replicate (L.length - (k + 1)) ⟨#[]⟩) := fill_step L k hlt2
        have hlen : (L.take k ++ List.replicate (L.length - k) (⟨#[]⟩ : ByteArray)).length = L.length := by simp; omega
        obtain ⟨x, ec⟩ : ∃ x, wr.cell? ⟨w.heap.size, k, none⟩ = some (.string x) := ⟨_, HS.out.at.1.cell k (by omega)⟩
        have ef := HS.out.at.1.free k
        clear hlen
        generalize L[k] = X at e1 HN
        go_wp2
        go_roundw
        case rel =>
          refine ⟨k + 1, by omega, by go_num, ?_, hb.setCell (Nat.le_refl _) _⟩
          show Strs _ _ _ _
          rw [← HN.out]
          exact strs_set HS.out _
        case measure => simp [intOf]; omega
      · obtain rfl : k = L.length := by omega
        go_wp2
        go_ret
        refine ⟨_, rfl, ?_, hb⟩
        have e := HS.out
        rw [List.take_length, Nat.sub_self, List.replicate_zero, List.append_nil] at e
        exact e
end Go.Proofs.Ythblkfdgibonbaa
