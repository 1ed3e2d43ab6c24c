import Derived.Test.YthblkfdgibonbaaArgVd
import Derived.Test.YthblkfdgibonbaaVdT
import Derived.Test.YthblkfdgibonbaaVdZ
import Derived.Test.YthblkfdgibonbaaVMarkV
namespace Go.Proofs.Ythblkfdgibonbaa
open Go.ChangeShapes Go.WideShapes Go.ChangeAt Go.RowKit
attribute [local go_sem ↓] Go.wp_at_zero Go.wp_at_succ

theorem fill_stepV (L : List Vd) (k : Nat) (h : k < L.length) : (L.take k ++ List.replicate (L.length - k) vd0).set k L[k] = L.take (k + 1) ++ List.replicate (L.length - (k + 1)) vd0 := by
  have hl : (L.take k).length = k := by simp; omega
  rw [List.set_append_right _ _ (by omega), hl, Nat.sub_self, List.take_succ_eq_append_getElem h]
  obtain ⟨n, hn⟩ : ∃ n, L.length - k = n + 1 := ⟨L.length - k - 1, by omega⟩
  rw [hn, List.replicate_succ, List.set_cons_zero, show L.length - (k + 1) = n by omega, List.append_assoc]
  rfl

set_option maxHeartbeats 1000000 in
set_option maxRecDepth 100000 in
theorem szVds (v : Value) (L : List Vd) (n : Int) (w : World) (h : ArgV w v L) (hn : 0 ≤ n) (hn2 : n ≤ 1048576) :
    Calls Try.prog 59 #[v, .int .i64 n] w fun e w' => (∃ r : Int, e = .returned (.int .i64 r) ∧ (r < 0 ∨ (0 ≤ r ∧ r + (L.length : Int) ≤ n ∧ (L.length : Int) ≤ n ∧ ∀ x ∈ L, (x.2.2.size : Int) ≤ n))) ∧ Below w.heap.size w w' := by
  have hm := h.1
  unfold maxLen at hm
  by_cases h0 : L.length = 0
  · obtain ⟨a, c, rfl⟩ := h.form
    have hL := List.eq_nil_of_length_eq_zero h0
    subst hL
    clear h h0
    go_enter Try.func59, Try.ntmps59
    go_wp2
    refine wp_loop_rounds 1 ?_; rw [rounds_succ]
    go_wp2
    go_ret
    exact ⟨⟨_, rfl, .inr ⟨by first | omega | (simp; omega), by first | omega | simp, by simpa using hn, (fun x hx => by cases hx)⟩⟩, Below.refl _ _⟩
  · obtain ⟨b, off, cap, rfl, hlt, hc⟩ : ∃ b off cap, v = .slice (some ⟨b, off, none⟩) L.length cap ∧ b < w.heap.size ∧ ∀ i (hi : i < L.length), w.cell? ⟨b, off + i * 3, none⟩ = some (.int .i64 L[i].1) ∧ w.cell? ⟨b, off + i * 3 + 1, none⟩ = some (.int .i64 L[i].2.1) ∧ w.cell? ⟨b, off + i * 3 + 2, none⟩ = some (.string L[i].2.2) := by
      rcases h.2.2 with ⟨hL, _⟩ | h
      · rw [hL] at h0; exact absurd rfl h0
      · exact h
    have HX : Hid (∀ x ∈ L, x.2.2.size ≤ maxLen) := h.2.1
    have HC : Hid (∀ i (hi : i < L.length), w.cell? ⟨b, off + i * 3, none⟩ = some (.int .i64 L[i].1) ∧ w.cell? ⟨b, off + i * 3 + 1, none⟩ = some (.int .i64 L[i].2.1) ∧ w.cell? ⟨b, off + i * 3 + 2, none⟩ = some (.string L[i].2.2)) := hc
    clear h hc
    by_cases c1 : n - (L.length : Int) < 0
    · go_enter Try.func59, Try.ntmps59
      go_wp2
      go_ret
      exact ⟨⟨_, rfl, .inl (by decide)⟩, Below.refl _ _⟩
    · go_enter Try.func59, Try.ntmps59
      go_wp2
      go_loopw [1, 5] (fun lv iv wr => ∃ (k : Nat) (l : Int), k ≤ L.length ∧ iv = .int .i64 k ∧ lv = .int .i64 l ∧ 0 ≤ l ∧ l + (L.length : Int) ≤ n ∧ Below w.heap.size w wr ∧ Hid (∀ j (hj : j < L.length), j < k → (L[j].2.2.size : Int) ≤ n)) (fun _ iv _ => L.length - (intOf iv).toNat)
      case atStart => exact ⟨0, n - (L.length : Int), Nat.zero_le _, rfl, rfl, by omega, by omega, Below.refl _ _, fun j _ hj => absurd hj (Nat.not_lt_zero _)⟩
      case round =>
        obtain ⟨k, l, hk, rfl, rfl, hl0, hln, hb, HK⟩ := hrel
        by_cases hlt2 : k < L.length
        · obtain ⟨c0, c2, c3⟩ := HC.out k hlt2
          have x0 := (hb.cell (p := ⟨b, off + k * 3, none⟩) hlt).trans c0
          have x1 := (hb.cell (p := ⟨b, off + k * 3 + 1, none⟩) hlt).trans c2
          have x2 := (hb.cell (p := ⟨b, off + k * 3 + 2, none⟩) hlt).trans c3
          have hX := HX.out L[k] (List.getElem_mem hlt2)
          have HG : Hid ((L[k].2.2.size : Int) ≤ n → ∀ j (hj : j < L.length), j < k + 1 → (L[j].2.2.size : Int) ≤ n) := by
            intro h j hj hj2
            by_cases e : j = k
            · subst e; exact h
            · exact HK.out j hj (by omega)
          clear c0 c2 c3 HK
          generalize L[k] = X at *
          go_wp2_with fail
          refine (szVd X l _ hX hl0 (by omega)).mono ?_
          rintro e w1 ⟨⟨r, rfl, hr⟩, hb1⟩
          have b1 : Below w.heap.size w w1 := hb.trans (hb1.mono hb.size)
          clear hb1 x0 x1 x2
          by_cases hr0 : r < 0
          · go_wp2
            go_ret
            exact ⟨⟨_, rfl, .inl (by decide)⟩, b1⟩
          · have hr' : 0 ≤ r ∧ r ≤ l ∧ (X.2.2.size : Int) ≤ l := by rcases hr with h | h <;> first | exact h | omega
            have HG2 : Hid (∀ j (hj : j < L.length), j < k + 1 → (L[j].2.2.size : Int) ≤ n) := HG.out (by omega)
            clear HG hr
            go_wp2
            go_roundw
            case rel => exact ⟨k + 1, r, by omega, by go_num, rfl, hr'.1, by omega, b1, HG2⟩
            case measure => simp [intOf]; omega
        · obtain rfl : k = L.length := by omega
          go_wp2
          go_ret
          refine ⟨⟨_, rfl, .inr ⟨hl0, hln, by omega, fun x hx => ?_⟩⟩, hb⟩
          obtain ⟨j, hj, rfl⟩ := List.getElem_of_mem hx
          exact HK.out j hj hj

set_option maxHeartbeats 1000000 in
set_option maxRecDepth 100000 in
theorem toVds (v : Value) (L : List Vd) (w : World) (h : ArgV w v L) (hL : L.length ≤ 1048576) :
    Calls Try.prog 61 #[v] w fun e w' => ∃ v', e = .returned v' ∧ Vds w' w.heap.size v' L ∧ Below w.heap.size w w' := by
  obtain ⟨_, _, hform⟩ := h
  obtain ⟨k0, hk, hx0, hx1, hx2⟩ := info_parts infoVd
  have hmk : (Instr.makeSlice 68 (.int .i64 (L.length : Int)) (.int .i64 (L.length : Int))).run Try.prog w = .ok (.slice (some ⟨w.heap.size, 0, none⟩) L.length L.length) (w.alloc (.cells (madeCells zVd.cells (L.length * 3)) 109)) := by
    have e := run_make (P := Try.prog) w 68 109 k0 zVd Try.underlying68 hk hx0 .i64 .i64 (L.length : Int) (L.length : Int) (by omega) (by omega) (by rw [hx2]; omega) (by omega)
    simpa [hx1] using e
  have HM : Hid (Vds (w.alloc (.cells (madeCells zVd.cells (L.length * 3)) 109)) w.heap.size (.slice (some ⟨w.heap.size, 0, none⟩) L.length L.length) (L.take 0 ++ List.replicate (L.length - 0) vd0)) := vds_made w L.length (by unfold maxLen; omega)
  clear hk hx0 hx1 hx2
  obtain ⟨Z, HZ⟩ : ∃ Z, Hid (Obj.cells (madeCells zVd.cells (L.length * 3)) 109 = Z) := ⟨_, rfl⟩
  rw [HZ.out] at hmk HM
  clear HZ
  by_cases h0 : L.length = 0
  · have hL0 := List.eq_nil_of_length_eq_zero h0
    subst hL0
    obtain ⟨a, c, rfl⟩ : ∃ a c, v = .slice a 0 c := by
      rcases hform with ⟨_, h⟩ | ⟨b, off, cap, rfl, _⟩
      · exact h
      · exact ⟨_, _, rfl⟩
    simp only [List.length_nil, Int.cast_ofNat_Int] at hmk
    go_enter Try.func61, Try.ntmps61
    go_wp2
    refine wp_loop_rounds 1 ?_; rw [rounds_succ]
    go_wp2
    go_ret
    exact ⟨_, rfl, HM.out, below1 _ _⟩
  · obtain ⟨b, off, cap, rfl, hlt, hc⟩ : ∃ b off cap, v = .slice (some ⟨b, off, none⟩) L.length cap ∧ b < w.heap.size ∧ ∀ i (hi : i < L.length), w.cell? ⟨b, off + i * 3, none⟩ = some (.int .i64 L[i].1) ∧ w.cell? ⟨b, off + i * 3 + 1, none⟩ = some (.int .i64 L[i].2.1) ∧ w.cell? ⟨b, off + i * 3 + 2, none⟩ = some (.string L[i].2.2) := by
      rcases hform with ⟨hL, _⟩ | h
      · rw [hL] at h0; exact absurd rfl h0
      · exact h
    have HC : Hid (∀ i (hi : i < L.length), w.cell? ⟨b, off + i * 3, none⟩ = some (.int .i64 L[i].1) ∧ w.cell? ⟨b, off + i * 3 + 1, none⟩ = some (.int .i64 L[i].2.1) ∧ w.cell? ⟨b, off + i * 3 + 2, none⟩ = some (.string L[i].2.2)) := hc
    clear hc
    go_enter Try.func61, Try.ntmps61
    go_wp2
    go_loopw [4] (fun i wr => ∃ k : Nat, k ≤ L.length ∧ i = .int .i64 k ∧ Hid (Vds wr w.heap.size (.slice (some ⟨w.heap.size, 0, none⟩) L.length L.length) (L.take k ++ List.replicate (L.length - k) vd0)) ∧ Below w.heap.size w wr) (fun i _ => L.length - (intOf i).toNat)
    case atStart => exact ⟨0, Nat.zero_le _, rfl, HM, below1 _ _⟩
    case round =>
      obtain ⟨k, hk, rfl, HS, hb⟩ := hrel
      by_cases hlt2 : k < L.length
      · obtain ⟨c0, c2, c3⟩ := HC.out k hlt2
        have x0 := (hb.cell (p := ⟨b, off + k * 3, none⟩) hlt).trans c0
        have x1 := (hb.cell (p := ⟨b, off + k * 3 + 1, none⟩) hlt).trans c2
        have x2 := (hb.cell (p := ⟨b, off + k * 3 + 2, none⟩) hlt).trans c3
        have HN : Hid ((L.take k ++ List.replicate (L.length - k) vd0).set k L[k] = L.take (k + 1) ++ List.replicate (L.length - (k + 1)) vd0) := fill_stepV L k hlt2
        have hlen : (L.take k ++ List.replicate (L.length - k) vd0).length = L.length := by simp; omega
        clear c0 c2 c3
        generalize L[k] = X at *
        go_wp2_with fail
        refine (toVd X _).mono ?_
        rintro e w1 ⟨rfl, hb1⟩
        have b1 : Below w.heap.size w w1 := hb.trans (hb1.mono hb.size)
        have HS1 : Hid (Vds w1 w.heap.size (.slice (some ⟨w.heap.size, 0, none⟩) L.length L.length) (L.take k ++ List.replicate (L.length - k) vd0)) := vds_below HS.out hb1 (Nat.le_refl _)
        obtain ⟨y0, y1, y2, d0, d1, d2⟩ : ∃ y0 y1 y2, w1.cell? ⟨w.heap.size, k * 3, none⟩ = some (.int .i64 y0) ∧ w1.cell? ⟨w.heap.size, k * 3 + 1, none⟩ = some (.int .i64 y1) ∧ w1.cell? ⟨w.heap.size, k * 3 + 2, none⟩ = some (.string y2) := ⟨_, _, _, (HS1.out.at.1.cell k (by omega)).1, (HS1.out.at.1.cell k (by omega)).2.1, (HS1.out.at.1.cell k (by omega)).2.2⟩
        have ef0 := HS1.out.at.1.free (k * 3)
        have ef1 := HS1.out.at.1.free (k * 3 + 1)
        have ef2 := HS1.out.at.1.free (k * 3 + 2)
        clear x0 x1 x2 hb1 HS
        go_wp2
        go_roundw
        case rel =>
          refine ⟨k + 1, by omega, by go_num, ?_, ?_⟩
          · show Vds _ _ _ _
            have e := HS1.out
            unfold Vds at e
            rw [hlen] at e
            have e3 := vds_set (i := k * 3 + 2) (vds_set (i := k * 3 + 1) (vds_set (i := k * 3) e (.int .i64 X.1)) (.int .i64 X.2.1)) (.string X.2.2)
            rw [vrow_set _ k X (by omega), HN.out] at e3
            have hl2 : (L.take (k + 1) ++ List.replicate (L.length - (k + 1)) vd0).length = L.length := by simp; omega
            unfold Vds
            rw [hl2]
            exact e3
          · exact ((b1.setCell (Nat.le_refl _) _).setCell (Nat.le_refl _) _).setCell (Nat.le_refl _) _
        case measure => simp [intOf]; omega
      · obtain rfl : k = L.length := by omega
        go_wp2
        go_ret
        refine ⟨_, rfl, ?_, hb⟩
        have e := HS.out
        rw [List.take_length, Nat.sub_self, List.replicate_zero, List.append_nil] at e
        exact e
end Go.Proofs.Ythblkfdgibonbaa
