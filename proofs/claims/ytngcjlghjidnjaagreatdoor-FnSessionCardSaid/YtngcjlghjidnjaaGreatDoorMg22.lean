import Derived.Test.YtngcjlghjidnjaaGreatDoorMg14
import Derived.Test.YtngcjlghjidnjaaGreatDoorMg15
import Derived.Test.YtngcjlghjidnjaaGreatDoorMg21
import Derived.Test.YtngcjlghjidnjaaGreatDoorMg19
import Derived.Test.YtngcjlghjidnjaaGreatDoorMg20
namespace Go.Proofs.YtngcjlghjidnjaaGreatDoor
open Go.ChangeShapes Go.WideShapes Go.ChangeAt Go.RowKit
attribute [local go_sem ↓] Go.wp_at_zero Go.wp_at_succ

theorem fill_stepV (L : List Vd) (k : Nat) (h : k < L.length) : (L.take k ++ List.replicate (L.length - k) vd0).set k L[k] = L.take (k + 1) ++ List.replicate (L.length - (k + 1)) vd0 := by
  have hl : (L.take k).length = k := by simp; omega
  rw [List.set_append_right _ _ (by omega), hl, Nat.sub_self, List.take_succ_eq_append_getElem h]
  obtain ⟨n, hn⟩ : ∃ n, L.length - k = n + 1 := ⟨L.length - k - 1, by omega⟩
  rw [hn, List.replicate_succ, List.set_cons_zero, show L.length - (k + 1) = n by omega, List.append_assoc]
  rfl

set_option maxHeartbeats 1000000 in
set_option maxRecDepth 100000 in
theorem szVds (v : Value) (L : List Vd) (n : Int) (w : World) (h : ArgV w v L) (hn : 0 ≤ n) (hn2 : n ≤ 1048576) :
    Calls Tryz.prog 60 #[v, .int .i64 n] w fun e w' => (∃ r : Int, e = .returned (.int .i64 r) ∧ (r < 0 ∨ (0 ≤ r ∧ r + (L.length : Int) ≤ n ∧ (L.length : Int) ≤ n ∧ ∀ x ∈ L, (x.2.2.size : Int) ≤ n))) ∧ Below w.heap.size w w' := by
  have hm := h.1
  unfold maxLen at hm
  by_cases h0 : L.length = 0
  · obtain ⟨a, c, rfl⟩ := h.form
    have hL := List.eq_nil_of_length_eq_zero h0
    subst hL
    clear h h0
    go_enter Tryz.func60, Tryz.ntmps60
    go_wp2
    refine wp_loop_rounds 1 ?_; rw [rounds_succ]
    go_wp2
    go_ret
    exact ⟨⟨_, rfl, .inr ⟨by first | omega | (simp; omega), by first | omega | simp, by simpa using hn, (fun x hx => by cases hx)⟩⟩, Below.refl _ _⟩
  · obtain ⟨b, off, cap, rfl, hlt, hc⟩ : ∃ b off cap, v = .slice (some ⟨b, off, none⟩) L.length cap ∧ b < w.heap.size ∧ ∀ i (hi : i < L.length), w.cell? ⟨b, off + i * 3, none⟩ = some (.int .i64 L[i].1) ∧ w.cell? ⟨b, off + i * 3 + 1, none⟩ = some (.int .i64 L[i].2.1) ∧ w.cell? ⟨b, off + i * 3 + 2, none⟩ = some (.string L[i].2.2) := by
      rcases h.2.2 with ⟨hL, _⟩ | h
      · rw [hL] at h0; exact absurd rfl h0
      · exact h
    have HX : Hid (∀ x ∈ L, x.2.2.size ≤ maxLen) := h.2.1
    have HC : Hid (∀ i (hi : i < L.length), w.cell? ⟨b, off + i * 3, none⟩ = some (.int .i64 L[i].1) ∧ w.cell? ⟨b, off + i * 3 + 1, none⟩ = some (.int .i64 L[i].2.1) ∧ w.cell? ⟨b, off + i * 3 + 2, none⟩ = some (.string L[i].2.2)) := hc
    clear h hc
    by_cases c1 : n - (L.length : Int) < 0
    · go_enter Tryz.func60, Tryz.ntmps60
      go_wp2
      go_ret
      exact ⟨⟨_, rfl, .inl (by decide)⟩, Below.refl _ _⟩
    · go_enter Tryz.func60, Tryz.ntmps60
      go_wp2
      go_loopw [1, 5] (fun lv iv wr => ∃ (k : Nat) (l : Int), k ≤ L.length ∧ iv = .int .i64 k ∧ lv = .int .i64 l ∧ 0 ≤ l ∧ l + (L.length : Int) ≤ n ∧ Below w.heap.size w wr ∧ Hid (∀ j (hj : j < L.length), j < k → (L[j].2.2.size : Int) ≤ n)) (fun _ iv _ => L.length - (intOf iv).toNat)
      case atStart => exact ⟨0, n - (L.length : Int), Nat.zero_le _, rfl, rfl, by omega, by omega, Below.refl _ _, fun j _ hj => absurd hj (Nat.not_lt_zero _)⟩
      case round =>
        obtain ⟨k, l, hk, rfl, rfl, hl0, hln, hb, HK⟩ := hrel
        by_cases hlt2 : k < L.length
        · obtain ⟨c0, c2, c3⟩ := HC.out k hlt2
          have x0 := (hb.cell (p := ⟨b, off + k * 3, none⟩) hlt).trans c0
          have x1 := (hb.cell (p := ⟨b, off + k * 3 + 1, none⟩) hlt).trans c2
          have x2 := (hb.cell (p := ⟨b, off + k * 3 + 2, none⟩) hlt).trans c3
          have hX := HX.out L[k] (List.getElem_mem hlt2)
          have HG : Hid ((L[k].2.2.size : Int) ≤ n → ∀ j (hj : j < L.length), j < k + 1 → (L[j].2.2.size : Int) ≤ n) := by
            intro h j hj hj2
            by_cases e : j = k
            · subst e; exact h
            · exact HK.out j hj (by omega)
          clear c0 c2 c3 HK
          generalize L[k] = X at *
          go_wp2_with fail
          refine (szVd X l _ hX hl0 (by omega)).mono ?_
          rintro e w1 ⟨⟨r, rfl, hr⟩, hb1⟩
          have b1 : Below w.heap.size w w1 := hb.trans (hb1.mono hb.size)
          clear hb1 x0 x1 x2
          by_cases hr0 : r < 0
          · go_wp2
            go_ret
            exact ⟨⟨_, rfl, .inl (by decide)⟩, b1⟩
          · have hr' : 0 ≤ r ∧ r ≤ l ∧ (X.2.2.size : Int) ≤ l := by rcases hr with h | h <;> first | exact h | omega
            have HG2 : Hid (∀ j (hj : j < L.length), j < k + 1 → (L[j].2.2.size : Int) ≤ n) := HG.out (by omega)
            clear HG hr
            go_wp2
            go_roundw
            case rel => exact ⟨k + 1, r, by omega, by go_num, rfl, hr'.1, by omega, b1, HG2⟩
            case measure => simp [intOf]; omega
        · obtain rfl : k = L.length := by omega
          go_wp2
          go_ret
          refine ⟨⟨_, rfl, .inr ⟨hl0, hln, by omega, fun x hx => ?_⟩⟩, hb⟩
          obtain ⟨j, hj, rfl⟩ := List.getElem_of_mem hx
          exact HK.out j hj hj

set_option maxHeartbeats 1000000 in
set_option maxRecDepth 100000 in
theorem toVds (v : Value) (L : List Vd) (w : World) (h : ArgV w v L) (hL : L.length ≤ 1048576) :
    Calls Tryz.prog 63 #[v] w fun e w' => ∃ v', e = .returned v' ∧ Vds w' w.heap.size v' L ∧ Below w.heap.size w w' := by
  obtain ⟨_, _, hform⟩ := h
  obtain ⟨k0, hk, hx0, hx1, hx2⟩ := info_parts infoVd
  have hmk : (Instr.makeSlice 27 (.int .i64 (L.length : Int)) (.int .i64 (L.length : Int))).run Tryz.prog w = .ok (.slice (some ⟨w.heap.size, 0, none⟩) L.length L.length) (w.alloc (.cells (madeCells zVd.cells (L.length * 3)) 37)) := by
    have e := run_make (P := Tryz.prog) w 27 37 k0 zVd Tryz.underlying27 hk hx0 .i64 .i64 (L.length : Int) (L.length : Int) (by omega) (by omega) (by rw [hx2]; omega) (by omega)
    simpa [hx1] using e
  have HM : Hid (Vds (w.alloc (.cells (madeCells zVd.cells (L.length * 3)) 37)) w.heap.size (.slice (some ⟨w.heap.size, 0, none⟩) L.length L.length) (L.take 0 ++ List.replicate (L.length - 0) vd0)) := vds_made w L.length (by unfold maxLen; omega)
  clear hk hx0 hx1 hx2
  obtain ⟨Z, HZ⟩ : ∃ Z, Hid (Obj.cells (madeCells zVd.cells (L.length * 3)) 37 = Z) := ⟨_, rfl⟩
  rw [HZ.out] at hmk HM
  clear HZ
  by_cases h0 : L.length = 0
  · have hL0 := List.eq_nil_of_length_eq_zero h0
    subst hL0
    obtain ⟨a, c, rfl⟩ : ∃ a c, v = .slice a 0 c := by
      rcases hform with ⟨_, h⟩ | ⟨b, off, cap, rfl, _⟩
      · exact h
      · exact ⟨_, _, rfl⟩
    simp only [List.length_nil, Int.cast_ofNat_Int] at hmk
    go_enter Tryz.func63, Tryz.ntmps63
    go_wp2
    refine wp_loop_rounds 1 ?_; rw [rounds_succ]
    go_wp2
    go_ret
    exact ⟨_, rfl, HM.out, below1 _ _⟩
  · obtain ⟨b, off, cap, rfl, hlt, hc⟩ : ∃ b off cap, v = .slice (some ⟨b, off, none⟩) L.length cap ∧ b < w.heap.size ∧ ∀ i (hi : i < L.length), w.cell? ⟨b, off + i * 3, none⟩ = some (.int .i64 L[i].1) ∧ w.cell? ⟨b, off + i * 3 + 1, none⟩ = some (.int .i64 L[i].2.1) ∧ w.cell? ⟨b, off + i * 3 + 2, none⟩ = some (.string L[i].2.2) := by
      rcases hform with ⟨hL, _⟩ | h
      · rw [hL] at h0; exact absurd rfl h0
      · exact h
    have HC : Hid (∀ i (hi : i < L.length), w.cell? ⟨b, off + i * 3, none⟩ = some (.int .i64 L[i].1) ∧ w.cell? ⟨b, off + i * 3 + 1, none⟩ = some (.int .i64 L[i].2.1) ∧ w.cell? ⟨b, off + i * 3 + 2, none⟩ = some (.string L[i].2.2)) := hc
    clear hc
    go_enter Tryz.func63, Tryz.ntmps63
    go_wp2
    go_loopw [4] (fun i wr => ∃ k : Nat, k ≤ L.length ∧ i = .int .i64 k ∧ Hid (Vds wr w.heap.size (.slice (some ⟨w.heap.size, 0, none⟩) L.length L.length) (L.take k ++ List.replicate (L.length - k) vd0)) ∧ Below w.heap.size w wr) (fun i _ => L.length - (intOf i).toNat)
    case atStart => exact ⟨0, Nat.zero_le _, rfl, HM, below1 _ _⟩
    case round =>
      obtain ⟨k, hk, rfl, HS, hb⟩ := hrel
      by_cases hlt2 : k < L.length
      · obtain ⟨c0, c2, c3⟩ := HC.out k hlt2
        have x0 := (hb.cell (p := ⟨b, off + k * 3, none⟩) hlt).trans c0
        have x1 := (hb.cell (p := ⟨b, off + k * 3 + 1, none⟩) hlt).trans c2
        have x2 := (hb.cell (p := ⟨b, off + k * 3 + 2, none⟩) hlt).trans c3
        have HN : Hid ((L.take k ++ List.replicate (L.length - k) vd0).set k L[k] = L.take (k + 1) ++ List.replicate (L.length - (k + 1)) vd0) := fill_stepV L k hlt2
        have hlen : (L.take k ++ List.replicate (L.length - k) vd0).length = L.length := by simp; omega
        clear c0 c2 c3
        generalize L[k] = X at *
        go_wp2_with fail
        refine (toVd X _).mono ?_
        rintro e w1 ⟨rfl, hb1⟩
        have b1 : Below w.heap.size w w1 := hb.trans (hb1.mono hb.size)
        have HS1 : Hid (Vds w1 w.heap.size (.slice (some ⟨w.heap.size, 0, none⟩) L.length L.length) (L.take k ++ List.replicate (L.length - k) vd0)) := vds_below HS.out hb1 (Nat.le_refl _)
        obtain ⟨y0, y1, y2, d0, d1, d2⟩ : ∃ y0 y1 y2, w1.cell? ⟨w.heap.size, k * 3, none⟩ = some (.int .i64 y0) ∧ w1.cell? ⟨w.heap.size, k * 3 + 1, none⟩ = some (.int .i64 y1) ∧ w1.cell? ⟨w.heap.size, k * 3 + 2, none⟩ = some (.string y2) := ⟨_, _, _, (HS1.out.at.1.cell k (by omega)).1, (HS1.out.at.1.cell k (by omega)).2.1, (HS1.out.at.1.cell k (by omega)).2.2⟩
        have ef0 := HS1.out.at.1.free (k * 3)
        have ef1 := HS1.out.at.1.free (k * 3 + 1)
        have ef2 := HS1.out.at.1.free (k * 3 + 2)
        clear x0 x1 x2 hb1 HS
        go_wp2
        go_roundw
        case rel =>
          refine ⟨k + 1, by omega, by go_num, ?_, ?_⟩
          · show Vds _ _ _ _
            have e := HS1.out
            unfold Vds at e
            rw [hlen] at e
            have e3 := vds_set (i := k * 3 + 2) (vds_set (i := k * 3 + 1) (vds_set (i := k * 3) e (.int .i64 X.1)) (.int .i64 X.2.1)) (.string X.2.2)
            rw [vrow_set _ k X (by omega), HN.out] at e3
            have hl2 : (L.take (k + 1) ++ List.replicate (L.length - (k + 1)) vd0).length = L.length := by simp; omega
            unfold Vds
            rw [hl2]
            exact e3
          · exact ((b1.setCell (Nat.le_refl _) _).setCell (Nat.le_refl _) _).setCell (Nat.le_refl _) _
        case measure => simp [intOf]; omega
      · obtain rfl : k = L.length := by omega
        go_wp2
        go_ret
        refine ⟨_, rfl, ?_, hb⟩
        have e := HS.out
        rw [List.take_length, Nat.sub_self, List.replicate_zero, List.append_nil] at e
        exact e
end Go.Proofs.YtngcjlghjidnjaaGreatDoor
namespace Go.Proofs.YtngcjlghjidnjaaGreatDoor
open Go.ChangeShapes Go.WideShapes Go.ChangeAt Go.RowKit
attribute [local go_sem ↓] Go.wp_at_zero Go.wp_at_succ

theorem fill_stepB (L : List Bool) (k : Nat) (h : k < L.length) : (L.take k ++ List.replicate (L.length - k) false).set k L[k] = L.take (k + 1) ++ List.replicate (L.length - (k + 1)) false := by
  have hl : (L.take k).length = k := by simp; omega
  rw [List.set_append_right _ _ (by omega), hl, Nat.sub_self, List.take_succ_eq_append_getElem h]
  obtain ⟨n, hn⟩ : ∃ n, L.length - k = n + 1 := ⟨L.length - k - 1, by omega⟩
  rw [hn, List.replicate_succ, List.set_cons_zero, show L.length - (k + 1) = n by omega, List.append_assoc]
  rfl
set_option maxHeartbeats 1000000 in
set_option maxRecDepth 100000 in
theorem toBls (v : Value) (L : List Bool) (w : World) (h : ArgB w v L) (hL : L.length ≤ 1048576) :
    Calls Tryz.prog 62 #[v] w fun e w' => ∃ v', e = .returned v' ∧ Bls w' w.heap.size v' L ∧ Below w.heap.size w w' := by
  obtain ⟨_, hform⟩ := h
  obtain ⟨i0, hi, hz0, hz1, hz2⟩ := info_parts infoBool
  have hmk : (Instr.makeSlice 26 (.int .i64 (L.length : Int)) (.int .i64 (L.length : Int))).run Tryz.prog w = .ok (.slice (some ⟨w.heap.size, 0, none⟩) L.length L.length) (w.alloc (.cells (madeCells (Value.bool false).cells L.length) 4)) := by
    have e := run_make (P := Tryz.prog) w 26 4 i0 (.bool false) Tryz.underlying26 hi hz0 .i64 .i64 (L.length : Int) (L.length : Int) (by omega) (by omega) (by rw [hz2]; omega) (by omega)
    simpa [hz1] using e
  have HM : Hid (Bls (w.alloc (.cells (madeCells (Value.bool false).cells L.length) 4)) w.heap.size (.slice (some ⟨w.heap.size, 0, none⟩) L.length L.length) (L.take 0 ++ List.replicate (L.length - 0) false)) := bls_made w L.length (by unfold maxLen; omega)
  clear hi hz0 hz1 hz2
  rcases hform with ⟨rfl, a, c, rfl⟩ | ⟨b, off, cap, rfl, hlt, hc⟩
  · simp only [List.length_nil, Int.cast_ofNat_Int] at hmk
    go_enter Tryz.func62, Tryz.ntmps62
    go_wp2
    refine wp_loop_rounds 1 ?_; rw [rounds_succ]
    go_wp2
    go_ret
    exact ⟨_, rfl, HM.out, below1 _ _⟩
  · have HC : Hid (∀ i (hi : i < L.length), w.cell? ⟨b, off + i, none⟩ = some (.bool L[i])) := hc
    clear hc
    obtain ⟨Z, HZ⟩ : ∃ Z, Hid (Obj.cells (madeCells (Value.bool false).cells L.length) 4 = Z) := ⟨_, rfl⟩
    rw [HZ.out] at hmk HM
    go_enter Tryz.func62, Tryz.ntmps62
    go_wp2
    go_loopw [4] (fun i wr => ∃ k : Nat, k ≤ L.length ∧ i = .int .i64 k ∧ Hid (Bls wr w.heap.size (.slice (some ⟨w.heap.size, 0, none⟩) L.length L.length) (L.take k ++ List.replicate (L.length - k) false)) ∧ Below w.heap.size w wr) (fun i _ => L.length - (intOf i).toNat)
    case atStart => exact ⟨0, Nat.zero_le _, rfl, HM, below1 _ _⟩
    case round =>
      obtain ⟨k, hk, rfl, HS, hb⟩ := hrel
      by_cases hlt2 : k < L.length
      · have ex1 := (hb.cell (p := ⟨b, off + k, none⟩) hlt).trans (HC.out k hlt2)
        have HN : Hid ((L.take k ++ List.replicate (L.length - k) false).set k L[k] = L.take (k + 1) ++ List.replicate (L.length - (k + 1)) false) := fill_stepB L k hlt2
        have hlen : (L.take k ++ List.replicate (L.length - k) false).length = L.length := by simp; omega
        obtain ⟨x, ec⟩ : ∃ x, wr.cell? ⟨w.heap.size, k, none⟩ = some (.bool x) := ⟨_, HS.out.at.1.cell k (by omega)⟩
        have ef := HS.out.at.1.free k
        clear hlen
        generalize L[k] = X at ex1 HN
        go_wp2
        go_roundw
        case rel =>
          refine ⟨k + 1, by omega, by go_num, ?_, hb.setCell (Nat.le_refl _) _⟩
          show Bls _ _ _ _
          rw [← HN.out]
          exact bls_set HS.out _
        case measure => simp [intOf]; omega
      · obtain rfl : k = L.length := by omega
        go_wp2
        go_ret
        refine ⟨_, rfl, ?_, hb⟩
        have e := HS.out
        rw [List.take_length, Nat.sub_self, List.replicate_zero, List.append_nil] at e
        exact e

set_option maxHeartbeats 1000000 in
set_option maxRecDepth 100000 in
theorem szBls (v : Value) (L : List Bool) (n : Int) (w : World) (h : ArgB w v L) (hn : 0 ≤ n) (hn2 : n ≤ 1048576) :
    Calls Tryz.prog 59 #[v, .int .i64 n] w fun e w' => (∃ r : Int, e = .returned (.int .i64 r) ∧ (r < 0 ∨ (0 ≤ r ∧ r ≤ n ∧ (L.length : Int) ≤ n))) ∧ Below w.heap.size w w' := by
  have hm := h.1
  unfold maxLen at hm
  obtain ⟨a, c, rfl⟩ := h.form
  clear h
  by_cases c1 : n - (L.length : Int) < 0
  · go_enter Tryz.func59, Tryz.ntmps59
    go_wp2
    go_ret
    exact ⟨⟨_, rfl, .inl (by decide)⟩, Below.refl _ _⟩
  · go_enter Tryz.func59, Tryz.ntmps59
    go_wp2
    go_ret
    exact ⟨⟨_, rfl, .inr ⟨by omega, by omega, by omega⟩⟩, Below.refl _ _⟩

end Go.Proofs.YtngcjlghjidnjaaGreatDoor
namespace Go.Proofs.YtngcjlghjidnjaaGreatDoor
open Go.ChangeShapes Go.WideShapes Go.ChangeAt Go.RowKit

/-- the session that is being made in block sb, its rows in blocks behind it -/
structure SpO (w : World) (sb : Nat) (he fr bo : ByteArray) (v1 v2 v3 : Value) (R : List ByteArray) (T : List Bool) (V : List Vd) (wr : World) : Prop where
  res : ResZ w.heap.size wr
  lo : w.heap.size < sb
  lt : sb < wr.heap.size
  c0 : wr.cell? ⟨sb, 0, none⟩ = some (.int .i64 1)
  c1 : wr.cell? ⟨sb, 1, none⟩ = some (.string ⟨#[]⟩)
  c2 : wr.cell? ⟨sb, 2, none⟩ = some (.string he)
  c3 : wr.cell? ⟨sb, 3, none⟩ = some (.string fr)
  c4 : wr.cell? ⟨sb, 4, none⟩ = some (.string bo)
  c5 : wr.cell? ⟨sb, 5, none⟩ = some v1
  c6 : wr.cell? ⟨sb, 6, none⟩ = some (.int .i64 0)
  c7 : wr.cell? ⟨sb, 7, none⟩ = some v2
  c8 : wr.cell? ⟨sb, 8, none⟩ = some v3
  fz : ∀ o, wr.frozen? ⟨sb, o, none⟩ = false
  s1 : Strs wr (sb + 1) v1 R
  s2 : Bls wr (sb + 1) v2 T
  s3 : Vds wr (sb + 1) v3 V
  ap : Apart3 v1 v2 v3
  bel : Below w.heap.size w wr

theorem ResZ.off {b : Nat} {vs : List Value} {w w1 : World} (h : ResZ b w) (ho : OffL vs w w1) (hb : b < w.heap.size) (hne : ∀ v ∈ vs, v.ownBlock ≠ some b) : ResZ b w1 := by
  obtain ⟨g0, g1, g2, g3, g4, g5, g6, g7, g8, f0, f1, f2, f3, f4, f5, f6, f7, f8, hz⟩ := h
  have c := fun i => ho.cell (i := i) hb hne
  have f := fun i => ho.frozen (i := i) hb hne
  exact ⟨(c 0).trans g0, (c 1).trans g1, (c 2).trans g2, (c 3).trans g3, (c 4).trans g4, (c 5).trans g5, (c 6).trans g6, (c 7).trans g7, (c 8).trans g8, (f 0).trans f0, (f 1).trans f1, (f 2).trans f2, (f 3).trans f3, (f 4).trans f4, (f 5).trans f5, (f 6).trans f6, (f 7).trans f7, (f 8).trans f8, Nat.lt_of_lt_of_le hz ho.size⟩
theorem ResZ.set {b sb i : Nat} {w : World} {v : Value} (h : ResZ b w) (hne : b ≠ sb) : ResZ b (w.setCell ⟨sb, i, none⟩ v) := by
  obtain ⟨g0, g1, g2, g3, g4, g5, g6, g7, g8, f0, f1, f2, f3, f4, f5, f6, f7, f8, hz⟩ := h
  have c : ∀ j, (w.setCell ⟨sb, i, none⟩ v).cell? ⟨b, j, none⟩ = w.cell? ⟨b, j, none⟩ := fun j => World.cell?_setCell_other _ _ _ _ (by intro e; injection e with e; exact hne e.symm)
  exact ⟨(c 0).trans g0, (c 1).trans g1, (c 2).trans g2, (c 3).trans g3, (c 4).trans g4, (c 5).trans g5, (c 6).trans g6, (c 7).trans g7, (c 8).trans g8, by simpa using f0, by simpa using f1, by simpa using f2, by simpa using f3, by simpa using f4, by simpa using f5, by simpa using f6, by simpa using f7, by simpa using f8, by simpa using hz⟩
theorem apart_new {u v v' : Value} {N : Nat} (hv : v'.ownBlock = v.ownBlock ∨ ∃ g, v'.ownBlock = some g ∧ N ≤ g) (hu : ∀ g, u.ownBlock = some g → g < N) (h : ∀ a b, u.ownBlock = some a → v.ownBlock = some b → a ≠ b) : ∀ a b, u.ownBlock = some a → v'.ownBlock = some b → a ≠ b := by
  intro a b ha hb
  rcases hv with hv | ⟨g, hg, hN⟩
  · rw [hv] at hb; exact h a b ha hb
  · rw [hg] at hb; cases hb
    have := hu a ha; omega
theorem apart_symm {u v : Value} (h : ∀ a b, u.ownBlock = some a → v.ownBlock = some b → a ≠ b) : ∀ a b, v.ownBlock = some a → u.ownBlock = some b → a ≠ b := fun a b ha hb e => h b a hb ha e.symm
theorem row_set_below {w : World} {lo sz n : Nat} {T : TypeId} {v : Value} {xs : List Value} (h : w.ownsRow lo T sz v n xs) {a : Addr} (ha : a.block < lo) (u : Value) : (w.setCell a u).ownsRow lo T sz v n xs := ownsRow_setCell_below h ha u

theorem SpO.step1 {w wr w1 : World} {sb : Nat} {he fr bo : ByteArray} {v1 v2 v3 v' : Value} {R : List ByteArray} {T : List Bool} {V : List Vd} {R' : List ByteArray} (h : SpO w sb he fr bo v1 v2 v3 R T V wr) (ho : OffL [v1] wr w1) (hv : v'.ownBlock = v1.ownBlock ∨ ∃ g, v'.ownBlock = some g ∧ wr.heap.size ≤ g) (hrow : Strs w1 (sb + 1) v' R') :
    SpO w sb he fr bo v' v2 v3 R' T V (w1.setCell ⟨sb, 5, none⟩ v') := by
  have hlo : ∀ g, v1.ownBlock = some g → sb + 1 ≤ g := fun g hg => strs_lo h.s1 g hg
  have hsb : ∀ v ∈ [v1], v.ownBlock ≠ some sb := fun v hv e => by rw [List.mem_singleton.1 hv] at e; have := hlo sb e; omega
  have hrb : ∀ v ∈ [v1], v.ownBlock ≠ some w.heap.size := fun v hv e => by rw [List.mem_singleton.1 hv] at e; have := hlo _ e; have := h.lo; omega
  have hbw := h.bel.size
  have hl := h.lo
  have hlt := h.lt
  refine ⟨(h.res.off ho (by omega) hrb).set (by omega), hl, by have := ho.size; simp; omega, (World.cell?_setCell_other _ _ _ _ (by intro e; injection e with _ e; omega)).trans ((ho.cell h.lt hsb).trans h.c0), (World.cell?_setCell_other _ _ _ _ (by intro e; injection e with _ e; omega)).trans ((ho.cell h.lt hsb).trans h.c1), (World.cell?_setCell_other _ _ _ _ (by intro e; injection e with _ e; omega)).trans ((ho.cell h.lt hsb).trans h.c2), (World.cell?_setCell_other _ _ _ _ (by intro e; injection e with _ e; omega)).trans ((ho.cell h.lt hsb).trans h.c3), (World.cell?_setCell_other _ _ _ _ (by intro e; injection e with _ e; omega)).trans ((ho.cell h.lt hsb).trans h.c4), (World.cell?_setCell_same _ _ _ ((ho.cell h.lt hsb).trans h.c5)).trans rfl, (World.cell?_setCell_other _ _ _ _ (by intro e; injection e with _ e; omega)).trans ((ho.cell h.lt hsb).trans h.c6), (World.cell?_setCell_other _ _ _ _ (by intro e; injection e with _ e; omega)).trans ((ho.cell h.lt hsb).trans h.c7), (World.cell?_setCell_other _ _ _ _ (by intro e; injection e with _ e; omega)).trans ((ho.cell h.lt hsb).trans h.c8), fun o => ?_, row_set_below hrow (Nat.lt_succ_self _) _, row_set_below (ho.row h.s2 (fun g hg v hv e => by rw [List.mem_singleton.1 hv] at e; exact h.ap.1 g g e hg rfl)) (Nat.lt_succ_self _) _, row_set_below (ho.row h.s3 (fun g hg v hv e => by rw [List.mem_singleton.1 hv] at e; exact h.ap.2.1 g g e hg rfl)) (Nat.lt_succ_self _) _, ⟨apart_symm (apart_new hv (fun g hg => bls_own h.s2 g hg) (apart_symm h.ap.1)), apart_symm (apart_new hv (fun g hg => (vds_own h.s3 g hg).2) (apart_symm h.ap.2.1)), h.ap.2.2⟩, ?_⟩
  · rw [World.frozen?_setCell]
    exact (ho.frozen hlt hsb).trans (h.fz o)
  · exact (h.bel.trans (ho.below (fun v hv b hb => by rw [List.mem_singleton.1 hv] at hb; have := hlo b hb; omega) hbw)).setCell (by show w.heap.size ≤ sb; omega) _
theorem SpO.step2 {w wr w1 : World} {sb : Nat} {he fr bo : ByteArray} {v1 v2 v3 v' : Value} {R : List ByteArray} {T : List Bool} {V : List Vd} {R' : List Bool} (h : SpO w sb he fr bo v1 v2 v3 R T V wr) (ho : OffL [v2] wr w1) (hv : v'.ownBlock = v2.ownBlock ∨ ∃ g, v'.ownBlock = some g ∧ wr.heap.size ≤ g) (hrow : Bls w1 (sb + 1) v' R') :
    SpO w sb he fr bo v1 v' v3 R R' V (w1.setCell ⟨sb, 7, none⟩ v') := by
  have hlo : ∀ g, v2.ownBlock = some g → sb + 1 ≤ g := fun g hg => bls_lo h.s2 g hg
  have hsb : ∀ v ∈ [v2], v.ownBlock ≠ some sb := fun v hv e => by rw [List.mem_singleton.1 hv] at e; have := hlo sb e; omega
  have hrb : ∀ v ∈ [v2], v.ownBlock ≠ some w.heap.size := fun v hv e => by rw [List.mem_singleton.1 hv] at e; have := hlo _ e; have := h.lo; omega
  have hbw := h.bel.size
  have hl := h.lo
  have hlt := h.lt
  refine ⟨(h.res.off ho (by omega) hrb).set (by omega), hl, by have := ho.size; simp; omega, (World.cell?_setCell_other _ _ _ _ (by intro e; injection e with _ e; omega)).trans ((ho.cell h.lt hsb).trans h.c0), (World.cell?_setCell_other _ _ _ _ (by intro e; injection e with _ e; omega)).trans ((ho.cell h.lt hsb).trans h.c1), (World.cell?_setCell_other _ _ _ _ (by intro e; injection e with _ e; omega)).trans ((ho.cell h.lt hsb).trans h.c2), (World.cell?_setCell_other _ _ _ _ (by intro e; injection e with _ e; omega)).trans ((ho.cell h.lt hsb).trans h.c3), (World.cell?_setCell_other _ _ _ _ (by intro e; injection e with _ e; omega)).trans ((ho.cell h.lt hsb).trans h.c4), (World.cell?_setCell_other _ _ _ _ (by intro e; injection e with _ e; omega)).trans ((ho.cell h.lt hsb).trans h.c5), (World.cell?_setCell_other _ _ _ _ (by intro e; injection e with _ e; omega)).trans ((ho.cell h.lt hsb).trans h.c6), (World.cell?_setCell_same _ _ _ ((ho.cell h.lt hsb).trans h.c7)).trans rfl, (World.cell?_setCell_other _ _ _ _ (by intro e; injection e with _ e; omega)).trans ((ho.cell h.lt hsb).trans h.c8), fun o => ?_, row_set_below (ho.row h.s1 (fun g hg v hv e => by rw [List.mem_singleton.1 hv] at e; exact h.ap.1 g g hg e rfl)) (Nat.lt_succ_self _) _, row_set_below hrow (Nat.lt_succ_self _) _, row_set_below (ho.row h.s3 (fun g hg v hv e => by rw [List.mem_singleton.1 hv] at e; exact h.ap.2.2 g g e hg rfl)) (Nat.lt_succ_self _) _, ⟨apart_new hv (fun g hg => strs_own h.s1 g hg) h.ap.1, h.ap.2.1, apart_symm (apart_new hv (fun g hg => (vds_own h.s3 g hg).2) (apart_symm h.ap.2.2))⟩, ?_⟩
  · rw [World.frozen?_setCell]
    exact (ho.frozen hlt hsb).trans (h.fz o)
  · exact (h.bel.trans (ho.below (fun v hv b hb => by rw [List.mem_singleton.1 hv] at hb; have := hlo b hb; omega) hbw)).setCell (by show w.heap.size ≤ sb; omega) _
theorem SpO.step3 {w wr w1 : World} {sb : Nat} {he fr bo : ByteArray} {v1 v2 v3 v' : Value} {R : List ByteArray} {T : List Bool} {V : List Vd} {R' : List Vd} (h : SpO w sb he fr bo v1 v2 v3 R T V wr) (ho : OffL [v3] wr w1) (hv : v'.ownBlock = v3.ownBlock ∨ ∃ g, v'.ownBlock = some g ∧ wr.heap.size ≤ g) (hrow : Vds w1 (sb + 1) v' R') :
    SpO w sb he fr bo v1 v2 v' R T R' (w1.setCell ⟨sb, 8, none⟩ v') := by
  have hlo : ∀ g, v3.ownBlock = some g → sb + 1 ≤ g := fun g hg => (vds_own h.s3 g hg).1
  have hsb : ∀ v ∈ [v3], v.ownBlock ≠ some sb := fun v hv e => by rw [List.mem_singleton.1 hv] at e; have := hlo sb e; omega
  have hrb : ∀ v ∈ [v3], v.ownBlock ≠ some w.heap.size := fun v hv e => by rw [List.mem_singleton.1 hv] at e; have := hlo _ e; have := h.lo; omega
  have hbw := h.bel.size
  have hl := h.lo
  have hlt := h.lt
  refine ⟨(h.res.off ho (by omega) hrb).set (by omega), hl, by have := ho.size; simp; omega, (World.cell?_setCell_other _ _ _ _ (by intro e; injection e with _ e; omega)).trans ((ho.cell h.lt hsb).trans h.c0), (World.cell?_setCell_other _ _ _ _ (by intro e; injection e with _ e; omega)).trans ((ho.cell h.lt hsb).trans h.c1), (World.cell?_setCell_other _ _ _ _ (by intro e; injection e with _ e; omega)).trans ((ho.cell h.lt hsb).trans h.c2), (World.cell?_setCell_other _ _ _ _ (by intro e; injection e with _ e; omega)).trans ((ho.cell h.lt hsb).trans h.c3), (World.cell?_setCell_other _ _ _ _ (by intro e; injection e with _ e; omega)).trans ((ho.cell h.lt hsb).trans h.c4), (World.cell?_setCell_other _ _ _ _ (by intro e; injection e with _ e; omega)).trans ((ho.cell h.lt hsb).trans h.c5), (World.cell?_setCell_other _ _ _ _ (by intro e; injection e with _ e; omega)).trans ((ho.cell h.lt hsb).trans h.c6), (World.cell?_setCell_other _ _ _ _ (by intro e; injection e with _ e; omega)).trans ((ho.cell h.lt hsb).trans h.c7), (World.cell?_setCell_same _ _ _ ((ho.cell h.lt hsb).trans h.c8)).trans rfl, fun o => ?_, row_set_below (ho.row h.s1 (fun g hg v hv e => by rw [List.mem_singleton.1 hv] at e; exact h.ap.2.1 g g hg e rfl)) (Nat.lt_succ_self _) _, row_set_below (ho.row h.s2 (fun g hg v hv e => by rw [List.mem_singleton.1 hv] at e; exact h.ap.2.2 g g hg e rfl)) (Nat.lt_succ_self _) _, row_set_below hrow (Nat.lt_succ_self _) _, ⟨h.ap.1, apart_new hv (fun g hg => strs_own h.s1 g hg) h.ap.2.1, apart_new hv (fun g hg => bls_own h.s2 g hg) h.ap.2.2⟩, ?_⟩
  · rw [World.frozen?_setCell]
    exact (ho.frozen hlt hsb).trans (h.fz o)
  · exact (h.bel.trans (ho.below (fun v hv b hb => by rw [List.mem_singleton.1 hv] at hb; have := hlo b hb; omega) hbw)).setCell (by show w.heap.size ≤ sb; omega) _
end Go.Proofs.YtngcjlghjidnjaaGreatDoor
