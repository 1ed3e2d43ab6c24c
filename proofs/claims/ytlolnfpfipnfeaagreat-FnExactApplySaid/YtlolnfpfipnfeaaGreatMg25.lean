import Derived.Test.YtlolnfpfipnfeaaGreatMg19
import Derived.Test.YtlolnfpfipnfeaaGreatMg24
import Derived.Test.YtlolnfpfipnfeaaGreatMg23
import Derived.Test.YtlolnfpfipnfeaaGreatMg21
namespace Go.Proofs.YtlolnfpfipnfeaaGreat
open Go.ChangeShapes Go.WideShapes Go.ChangeAt Go.RowKit
attribute [local go_sem ↓] Go.wp_at_zero Go.wp_at_succ

theorem vds_set {w : World} {lo g n cap i : Nat} {L : List Value} (h : w.ownsRow lo 41 3 (.slice (some ⟨g, 0, none⟩) n cap) n L) (x : Value) :
    (w.setCell ⟨g, i, none⟩ x).ownsRow lo 41 3 (.slice (some ⟨g, 0, none⟩) n cap) n (L.set i x) := by
  refine ⟨by simpa using h.1, ?_⟩
  rcases h.2 with ⟨hv, _⟩ | ⟨g', cap', cur, hv, hl, hg, hn, hc, hs, ht⟩
  · cases hv
  · injection hv with h1 h2 h3
    injection h1 with h1
    injection h1 with h1
    subst h1 h3
    refine .inr ⟨g, cap, cur.setIfInBounds i x, rfl, hl, Go.Joins.block_setCell hg _, hn, hc, by simpa using hs, ?_⟩
    rw [← ht]
    simp [List.take_set]
theorem vraw_below {w w' : World} {lo n : Nat} {v : Value} {L : List Value} (h : w.ownsRow lo 41 3 v n L) {B : Nat} (hb : Below B w w') (hB : w.heap.size ≤ B) : w'.ownsRow lo 41 3 v n L := by
  refine ⟨h.1, ?_⟩
  rcases h.2 with h0 | ⟨g, cap, cur, hv, hl, hg, rest⟩
  · exact .inl h0
  · refine .inr ⟨g, cap, cur, hv, hl, ?_, rest⟩
    rw [hb.block g (Nat.lt_of_lt_of_le (Array.getElem?_eq_some_iff.1 hg).1 hB)]; exact hg
theorem vrow_set : ∀ (L : List Vd) (j : Nat) (x : Vd), j < L.length → (((vrow L).set (j * 3) (.int .i64 x.1)).set (j * 3 + 1) (.int .i64 x.2.1)).set (j * 3 + 2) (.string x.2.2) = vrow (L.set j x)
  | v :: L, 0, x, _ => rfl
  | v :: L, j + 1, x, h => by
    have := vrow_set L j x (by simpa using h)
    have e : vrow (v :: L) = .int .i64 v.1 :: .int .i64 v.2.1 :: .string v.2.2 :: vrow L := rfl
    rw [List.set_cons_succ, show vrow (v :: L.set j x) = .int .i64 v.1 :: .int .i64 v.2.1 :: .string v.2.2 :: vrow (L.set j x) from rfl, ← this, e]
    rw [show (j + 1) * 3 = j * 3 + 3 by omega, show j * 3 + 3 + 1 = (j * 3 + 1) + 3 by omega, show j * 3 + 3 + 2 = (j * 3 + 2) + 3 by omega]
    rfl
def vmarks (k n : Nat) : List Vd := (List.range n).map fun i => (((k + 3 * i : Nat) : Int), ((k + 3 * i + 1 : Nat) : Int), markT (k + 3 * i + 2))
theorem vmarks_length (k n : Nat) : (vmarks k n).length = n := by simp [vmarks]
theorem vmarks_step (k j : Nat) (L : List Vd) (hj : j < L.length) : (vmarks k j ++ L.drop j).set j (((k + 3 * j : Nat) : Int), ((k + 3 * j + 1 : Nat) : Int), markT (k + 3 * j + 2)) = vmarks k (j + 1) ++ L.drop (j + 1) := by
  rw [List.set_append_right _ _ (by rw [vmarks_length]; exact Nat.le_refl _), vmarks_length, Nat.sub_self, List.drop_eq_getElem_cons hj, List.set_cons_zero]
  simp [vmarks, List.range_succ]
theorem vmarks_get (k n j : Nat) (h : j < (vmarks k n).length) : (vmarks k n)[j] = (((k + 3 * j : Nat) : Int), ((k + 3 * j + 1 : Nat) : Int), markT (k + 3 * j + 2)) := by simp [vmarks]

set_option maxHeartbeats 1000000 in
set_option maxRecDepth 100000 in
theorem markVds (v : Value) (L : List Vd) (lo k : Nat) (w : World) (h : Vds w lo v L) (hk : 1 ≤ k) (hm : k + 3 * L.length ≤ 16777216) :
    Calls Tryz.prog 56 #[v, .int .i64 k] w fun e w' => e = .returned (.int .i64 ((k + 3 * L.length : Nat) : Int)) ∧ Vds w' lo v (vmarks k L.length) ∧ OffV v w w' := by
  by_cases h0 : L.length = 0
  · have HS : Hid (Vds w lo v (vmarks k L.length)) := by
      rw [h0]
      have hL := List.eq_nil_of_length_eq_zero h0
      rw [hL] at h
      exact h
    have hk0 : k + 3 * L.length = k := by omega
    rw [hk0]
    obtain ⟨a1, c1, hv⟩ := vds_form h
    rw [h0] at hv
    subst hv
    clear h h0 hk0
    go_enter Tryz.func56, Tryz.ntmps56
    go_wp2
    refine wp_loop_rounds 1 ?_; rw [rounds_succ]
    go_wp2
    go_ret
    exact ⟨rfl, HS.out, .inr (Below.refl _ _)⟩
  · obtain ⟨g, cap, hv, _⟩ : ∃ g cap, v = .slice (some ⟨g, 0, none⟩) L.length cap ∧ VdsAt w lo g cap L := by
      rcases h.cases with ⟨_, hL⟩ | h
      · rw [hL] at h0; exact absurd rfl h0
      · exact h
    subst hv
    have HI : Hid (Vds w lo (.slice (some ⟨g, 0, none⟩) L.length cap) (vmarks k 0 ++ L.drop 0)) := h
    clear h
    have hl1 : L.length ≤ 16777216 := by omega
    go_enter Tryz.func56, Tryz.ntmps56
    go_wp2
    go_loopw [1, 5] (fun kv i wr => ∃ j : Nat, j ≤ L.length ∧ i = .int .i64 j ∧ kv = .int .i64 ((k + 3 * j : Nat) : Int) ∧ Hid (Vds wr lo (.slice (some ⟨g, 0, none⟩) L.length cap) (vmarks k j ++ L.drop j)) ∧ Off g w wr) (fun _ i _ => L.length - (intOf i).toNat)
    case atStart => exact ⟨0, Nat.zero_le _, rfl, rfl, HI, Off.refl _ _⟩
    case round =>
      obtain ⟨j, hj, rfl, rfl, HS, hb⟩ := hrel
      by_cases hlt : j < L.length
      · have hlen : (vmarks k j ++ L.drop j).length = L.length := by simp [vmarks_length]; omega
        obtain ⟨x0, x1, x2, e0, e1, e2⟩ : ∃ x0 x1 x2, wr.cell? ⟨g, j * 3, none⟩ = some (.int .i64 x0) ∧ wr.cell? ⟨g, j * 3 + 1, none⟩ = some (.int .i64 x1) ∧ wr.cell? ⟨g, j * 3 + 2, none⟩ = some (.string x2) := ⟨_, _, _, (HS.out.at.1.cell j (by omega)).1, (HS.out.at.1.cell j (by omega)).2.1, (HS.out.at.1.cell j (by omega)).2.2⟩
        have ef0 := HS.out.at.1.free (j * 3)
        have ef1 := HS.out.at.1.free (j * 3 + 1)
        have ef2 := HS.out.at.1.free (j * 3 + 2)
        have hg : lo ≤ g := HS.out.at.1.lo
        have hgl := HS.out.at.1.lt
        have HR : Hid (wr.ownsRow lo 41 3 (.slice (some ⟨g, 0, none⟩) L.length cap) L.length (vrow (vmarks k j ++ L.drop j))) := by
          have := HS.out
          unfold Vds at this
          rw [hlen] at this
          exact this
        have hkj : ((k : Int) + 3 * (j : Int) + 1 + 1).toNat = k + 3 * j + 2 := by omega
        go_wp2_with fail
        generalize hW : (wr.setCell ⟨g, j * 3, none⟩ (.int .i64 ((k : Int) + 3 * (j : Int)))).setCell ⟨g, j * 3 + 1, none⟩ (.int .i64 ((k : Int) + 3 * (j : Int) + 1)) = W
        have HW : Hid (W.ownsRow lo 41 3 (.slice (some ⟨g, 0, none⟩) L.length cap) L.length (((vrow (vmarks k j ++ L.drop j)).set (j * 3) (.int .i64 ((k : Int) + 3 * (j : Int)))).set (j * 3 + 1) (.int .i64 ((k : Int) + 3 * (j : Int) + 1)))) := by
          show World.ownsRow _ _ _ _ _ _ _
          rw [← hW]
          exact vds_set (vds_set HR.out _) _
        have hWo : Off g w W := by rw [← hW]; exact (hb.setCell _).setCell _
        have e2' : W.cell? ⟨g, j * 3 + 2, none⟩ = some (.string x2) := by
          rw [← hW, World.cell?_setCell_other _ _ _ _ (by intro e; injection e with _ e; omega), World.cell?_setCell_other _ _ _ _ (by intro e; injection e with _ e; omega)]
          exact e2
        have ef2' : W.frozen? ⟨g, j * 3 + 2, none⟩ = false := by rw [← hW]; simpa using ef2
        have hgW : g < W.heap.size := by rw [← hW]; simpa using hgl
        refine (markTextI _ _ (by omega) (by omega)).mono ?_
        rintro e w1 ⟨rfl, hb1⟩
        rw [hkj]
        have e3 := (hb1.cell (p := ⟨g, j * 3 + 2, none⟩) hgW).trans e2'
        have ef3 := (hb1.frozen (p := ⟨g, j * 3 + 2, none⟩) hgW).trans ef2'
        clear hW e0 e1 e2 ef0 ef1 ef2 e2' ef2' hkj
        go_wp2
        go_roundw
        case rel =>
          refine ⟨j + 1, by omega, by go_num, by go_num, ?_, (hWo.trans (Off.of_below hb1)).setCell _⟩
          show Vds _ _ _ _
          have e := vds_set (i := j * 3 + 2) (vraw_below HW.out hb1 (Nat.le_refl _)) (.string (markT (k + 3 * j + 2)))
          have e5 := vrow_set (vmarks k j ++ L.drop j) j (((k + 3 * j : Nat) : Int), ((k + 3 * j + 1 : Nat) : Int), markT (k + 3 * j + 2)) (by omega)
          rw [vmarks_step k j L hlt] at e5
          have hl2 : (vmarks k (j + 1) ++ L.drop (j + 1)).length = L.length := by simp [vmarks_length]; omega
          unfold Vds
          rw [hl2, ← e5]
          simpa using e
        case measure => simp [intOf]; omega
      · obtain rfl : j = L.length := by omega
        go_wp2
        go_ret
        refine ⟨rfl, ?_, .inl ⟨g, rfl, hb⟩⟩
        have e := HS.out
        rw [List.drop_length, List.append_nil] at e
        exact e

end Go.Proofs.YtlolnfpfipnfeaaGreat
namespace Go.Proofs.YtlolnfpfipnfeaaGreat
open Go.ChangeShapes Go.WideShapes Go.ChangeAt Go.RowKit
attribute [local go_sem ↓] Go.wp_at_zero Go.wp_at_succ

theorem fill_stepV (L : List Vd) (k : Nat) (h : k < L.length) : (L.take k ++ List.replicate (L.length - k) vd0).set k L[k] = L.take (k + 1) ++ List.replicate (L.length - (k + 1)) vd0 := by
  have hl : (L.take k).length = k := by simp; omega
  rw [List.set_append_right _ _ (by omega), hl, Nat.sub_self, List.take_succ_eq_append_getElem h]
  obtain ⟨n, hn⟩ : ∃ n, L.length - k = n + 1 := ⟨L.length - k - 1, by omega⟩
  rw [hn, List.replicate_succ, List.set_cons_zero, show L.length - (k + 1) = n by omega, List.append_assoc]
  rfl

set_option maxHeartbeats 1000000 in
set_option maxRecDepth 100000 in
theorem szVds (v : Value) (L : List Vd) (n : Int) (w : World) (h : ArgV w v L) (hn : 0 ≤ n) (hn2 : n ≤ 1048576) :
    Calls Tryz.prog 59 #[v, .int .i64 n] w fun e w' => (∃ r : Int, e = .returned (.int .i64 r) ∧ (r < 0 ∨ (0 ≤ r ∧ r + (L.length : Int) ≤ n ∧ (L.length : Int) ≤ n ∧ ∀ x ∈ L, (x.2.2.size : Int) ≤ n))) ∧ Below w.heap.size w w' := by
  have hm := h.1
  unfold maxLen at hm
  by_cases h0 : L.length = 0
  · obtain ⟨a, c, rfl⟩ := h.form
    have hL := List.eq_nil_of_length_eq_zero h0
    subst hL
    clear h h0
    go_enter Tryz.func59, Tryz.ntmps59
    go_wp2
    refine wp_loop_rounds 1 ?_; rw [rounds_succ]
    go_wp2
    go_ret
    exact ⟨⟨_, rfl, .inr ⟨by first | omega | (simp; omega), by first | omega | simp, by simpa using hn, (fun x hx => by cases hx)⟩⟩, Below.refl _ _⟩
  · obtain ⟨b, off, cap, rfl, hlt, hc⟩ : ∃ b off cap, v = .slice (some ⟨b, off, none⟩) L.length cap ∧ b < w.heap.size ∧ ∀ i (hi : i < L.length), w.cell? ⟨b, off + i * 3, none⟩ = some (.int .i64 L[i].1) ∧ w.cell? ⟨b, off + i * 3 + 1, none⟩ = some (.int .i64 L[i].2.1) ∧ w.cell? ⟨b, off + i * 3 + 2, none⟩ = some (.string L[i].2.2) := by
      rcases h.2.2 with ⟨hL, _⟩ | h
      · rw [hL] at h0; exact absurd rfl h0
      · exact h
    have HX : Hid (∀ x ∈ L, x.2.2.size ≤ maxLen) := h.2.1
    have HC : Hid (∀ i (hi : i < L.length), w.cell? ⟨b, off + i * 3, none⟩ = some (.int .i64 L[i].1) ∧ w.cell? ⟨b, off + i * 3 + 1, none⟩ = some (.int .i64 L[i].2.1) ∧ w.cell? ⟨b, off + i * 3 + 2, none⟩ = some (.string L[i].2.2)) := hc
    clear h hc
    by_cases c1 : n - (L.length : Int) < 0
    · go_enter Tryz.func59, Tryz.ntmps59
      go_wp2
      go_ret
      exact ⟨⟨_, rfl, .inl (by decide)⟩, Below.refl _ _⟩
    · go_enter Tryz.func59, Tryz.ntmps59
      go_wp2
      go_loopw [1, 5] (fun lv iv wr => ∃ (k : Nat) (l : Int), k ≤ L.length ∧ iv = .int .i64 k ∧ lv = .int .i64 l ∧ 0 ≤ l ∧ l + (L.length : Int) ≤ n ∧ Below w.heap.size w wr ∧ Hid (∀ j (hj : j < L.length), j < k → (L[j].2.2.size : Int) ≤ n)) (fun _ iv _ => L.length - (intOf iv).toNat)
      case atStart => exact ⟨0, n - (L.length : Int), Nat.zero_le _, rfl, rfl, by omega, by omega, Below.refl _ _, fun j _ hj => absurd hj (Nat.not_lt_zero _)⟩
      case round =>
        obtain ⟨k, l, hk, rfl, rfl, hl0, hln, hb, HK⟩ := hrel
        by_cases hlt2 : k < L.length
        · obtain ⟨c0, c2, c3⟩ := HC.out k hlt2
          have x0 := (hb.cell (p := ⟨b, off + k * 3, none⟩) hlt).trans c0
          have x1 := (hb.cell (p := ⟨b, off + k * 3 + 1, none⟩) hlt).trans c2
          have x2 := (hb.cell (p := ⟨b, off + k * 3 + 2, none⟩) hlt).trans c3
          have hX := HX.out L[k] (List.getElem_mem hlt2)
          have HG : Hid ((L[k].2.2.size : Int) ≤ n → ∀ j (hj : j < L.length), j < k + 1 → (L[j].2.2.size : Int) ≤ n) := by
            intro h j hj hj2
            by_cases e : j = k
            · subst e; exact h
            · exact HK.out j hj (by omega)
          clear c0 c2 c3 HK
          generalize L[k] = X at *
          go_wp2_with fail
          refine (szVd X l _ hX hl0 (by omega)).mono ?_
          rintro e w1 ⟨⟨r, rfl, hr⟩, hb1⟩
          have b1 : Below w.heap.size w w1 := hb.trans (hb1.mono hb.size)
          clear hb1 x0 x1 x2
          by_cases hr0 : r < 0
          · go_wp2
            go_ret
            exact ⟨⟨_, rfl, .inl (by decide)⟩, b1⟩
          · have hr' : 0 ≤ r ∧ r ≤ l ∧ (X.2.2.size : Int) ≤ l := by rcases hr with h | h <;> first | exact h | omega
            have HG2 : Hid (∀ j (hj : j < L.length), j < k + 1 → (L[j].2.2.size : Int) ≤ n) := HG.out (by omega)
            clear HG hr
            go_wp2
            go_roundw
            case rel => exact ⟨k + 1, r, by omega, by go_num, rfl, hr'.1, by omega, b1, HG2⟩
            case measure => simp [intOf]; omega
        · obtain rfl : k = L.length := by omega
          go_wp2
          go_ret
          refine ⟨⟨_, rfl, .inr ⟨hl0, hln, by omega, fun x hx => ?_⟩⟩, hb⟩
          obtain ⟨j, hj, rfl⟩ := List.getElem_of_mem hx
          exact HK.out j hj hj

set_option maxHeartbeats 1000000 in
set_option maxRecDepth 100000 in
theorem toVds (v : Value) (L : List Vd) (w : World) (h : ArgV w v L) (hL : L.length ≤ 1048576) :
    Calls Tryz.prog 62 #[v] w fun e w' => ∃ v', e = .returned v' ∧ Vds w' w.heap.size v' L ∧ Below w.heap.size w w' := by
  obtain ⟨_, _, hform⟩ := h
  obtain ⟨k0, hk, hx0, hx1, hx2⟩ := info_parts infoVd
  have hmk : (Instr.makeSlice 55 (.int .i64 (L.length : Int)) (.int .i64 (L.length : Int))).run Tryz.prog w = .ok (.slice (some ⟨w.heap.size, 0, none⟩) L.length L.length) (w.alloc (.cells (madeCells zVd.cells (L.length * 3)) 41)) := by
    have e := run_make (P := Tryz.prog) w 55 41 k0 zVd Tryz.underlying55 hk hx0 .i64 .i64 (L.length : Int) (L.length : Int) (by omega) (by omega) (by rw [hx2]; omega) (by omega)
    simpa [hx1] using e
  have HM : Hid (Vds (w.alloc (.cells (madeCells zVd.cells (L.length * 3)) 41)) w.heap.size (.slice (some ⟨w.heap.size, 0, none⟩) L.length L.length) (L.take 0 ++ List.replicate (L.length - 0) vd0)) := vds_made w L.length (by unfold maxLen; omega)
  clear hk hx0 hx1 hx2
  obtain ⟨Z, HZ⟩ : ∃ Z, Hid (Obj.cells (madeCells zVd.cells (L.length * 3)) 41 = Z) := ⟨_, rfl⟩
  rw [HZ.out] at hmk HM
  clear HZ
  by_cases h0 : L.length = 0
  · have hL0 := List.eq_nil_of_length_eq_zero h0
    subst hL0
    obtain ⟨a, c, rfl⟩ : ∃ a c, v = .slice a 0 c := by
      rcases hform with ⟨_, h⟩ | ⟨b, off, cap, rfl, _⟩
      · exact h
      · exact ⟨_, _, rfl⟩
    simp only [List.length_nil, Int.cast_ofNat_Int] at hmk
    go_enter Tryz.func62, Tryz.ntmps62
    go_wp2
    refine wp_loop_rounds 1 ?_; rw [rounds_succ]
    go_wp2
    go_ret
    exact ⟨_, rfl, HM.out, below1 _ _⟩
  · obtain ⟨b, off, cap, rfl, hlt, hc⟩ : ∃ b off cap, v = .slice (some ⟨b, off, none⟩) L.length cap ∧ b < w.heap.size ∧ ∀ i (hi : i < L.length), w.cell? ⟨b, off + i * 3, none⟩ = some (.int .i64 L[i].1) ∧ w.cell? ⟨b, off + i * 3 + 1, none⟩ = some (.int .i64 L[i].2.1) ∧ w.cell? ⟨b, off + i * 3 + 2, none⟩ = some (.string L[i].2.2) := by
      rcases hform with ⟨hL, _⟩ | h
      · rw [hL] at h0; exact absurd rfl h0
      · exact h
    have HC : Hid (∀ i (hi : i < L.length), w.cell? ⟨b, off + i * 3, none⟩ = some (.int .i64 L[i].1) ∧ w.cell? ⟨b, off + i * 3 + 1, none⟩ = some (.int .i64 L[i].2.1) ∧ w.cell? ⟨b, off + i * 3 + 2, none⟩ = some (.string L[i].2.2)) := hc
    clear hc
    go_enter Tryz.func62, Tryz.ntmps62
    go_wp2
    go_loopw [4] (fun i wr => ∃ k : Nat, k ≤ L.length ∧ i = .int .i64 k ∧ Hid (Vds wr w.heap.size (.slice (some ⟨w.heap.size, 0, none⟩) L.length L.length) (L.take k ++ List.replicate (L.length - k) vd0)) ∧ Below w.heap.size w wr) (fun i _ => L.length - (intOf i).toNat)
    case atStart => exact ⟨0, Nat.zero_le _, rfl, HM, below1 _ _⟩
    case round =>
      obtain ⟨k, hk, rfl, HS, hb⟩ := hrel
      by_cases hlt2 : k < L.length
      · obtain ⟨c0, c2, c3⟩ := HC.out k hlt2
        have x0 := (hb.cell (p := ⟨b, off + k * 3, none⟩) hlt).trans c0
        have x1 := (hb.cell (p := ⟨b, off + k * 3 + 1, none⟩) hlt).trans c2
        have x2 := (hb.cell (p := ⟨b, off + k * 3 + 2, none⟩) hlt).trans c3
        have HN : Hid ((L.take k ++ List.replicate (L.length - k) vd0).set k L[k] = L.take (k + 1) ++ List.replicate (L.length - (k + 1)) vd0) := fill_stepV L k hlt2
        have hlen : (L.take k ++ List.replicate (L.length - k) vd0).length = L.length := by simp; omega
        clear c0 c2 c3
        generalize L[k] = X at *
        go_wp2_with fail
        refine (toVd X _).mono ?_
        rintro e w1 ⟨rfl, hb1⟩
        have b1 : Below w.heap.size w w1 := hb.trans (hb1.mono hb.size)
        have HS1 : Hid (Vds w1 w.heap.size (.slice (some ⟨w.heap.size, 0, none⟩) L.length L.length) (L.take k ++ List.replicate (L.length - k) vd0)) := vds_below HS.out hb1 (Nat.le_refl _)
        obtain ⟨y0, y1, y2, d0, d1, d2⟩ : ∃ y0 y1 y2, w1.cell? ⟨w.heap.size, k * 3, none⟩ = some (.int .i64 y0) ∧ w1.cell? ⟨w.heap.size, k * 3 + 1, none⟩ = some (.int .i64 y1) ∧ w1.cell? ⟨w.heap.size, k * 3 + 2, none⟩ = some (.string y2) := ⟨_, _, _, (HS1.out.at.1.cell k (by omega)).1, (HS1.out.at.1.cell k (by omega)).2.1, (HS1.out.at.1.cell k (by omega)).2.2⟩
        have ef0 := HS1.out.at.1.free (k * 3)
        have ef1 := HS1.out.at.1.free (k * 3 + 1)
        have ef2 := HS1.out.at.1.free (k * 3 + 2)
        clear x0 x1 x2 hb1 HS
        go_wp2
        go_roundw
        case rel =>
          refine ⟨k + 1, by omega, by go_num, ?_, ?_⟩
          · show Vds _ _ _ _
            have e := HS1.out
            unfold Vds at e
            rw [hlen] at e
            have e3 := vds_set (i := k * 3 + 2) (vds_set (i := k * 3 + 1) (vds_set (i := k * 3) e (.int .i64 X.1)) (.int .i64 X.2.1)) (.string X.2.2)
            rw [vrow_set _ k X (by omega), HN.out] at e3
            have hl2 : (L.take (k + 1) ++ List.replicate (L.length - (k + 1)) vd0).length = L.length := by simp; omega
            unfold Vds
            rw [hl2]
            exact e3
          · exact ((b1.setCell (Nat.le_refl _) _).setCell (Nat.le_refl _) _).setCell (Nat.le_refl _) _
        case measure => simp [intOf]; omega
      · obtain rfl : k = L.length := by omega
        go_wp2
        go_ret
        refine ⟨_, rfl, ?_, hb⟩
        have e := HS.out
        rw [List.take_length, Nat.sub_self, List.replicate_zero, List.append_nil] at e
        exact e
end Go.Proofs.YtlolnfpfipnfeaaGreat
