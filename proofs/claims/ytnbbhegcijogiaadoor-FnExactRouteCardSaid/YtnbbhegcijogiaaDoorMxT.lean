import Derived.Test.YtnbbhegcijogiaaDoorMxL
import Derived.Laws.MakeOwn
namespace Go.Proofs.YtnbbhegcijogiaaDoor
open Go.ChangeShapes Go.WideShapes Go.ChangeAt Go.RowKit
attribute [local go_sem ↓] Go.wp_at_zero Go.wp_at_succ

def mx0 : Mx := (0, ⟨#[]⟩)
def zMx : Value := .agg #[.int .i64 0, .string ⟨#[]⟩]
theorem zMx_cells : zMx.cells = #[.int .i64 0, .string ⟨#[]⟩] := rfl
theorem mxmade_size (n : Nat) : (madeCells zMx.cells (n * 2)).size = n * 2 := size_madeCells _ _
theorem mxRow_made (n : Nat) : (madeCells zMx.cells (n * 2)).toList = mxRow (List.replicate n mx0) := by
  refine List.ext_getElem? fun i => ?_
  by_cases hi : i < n * 2
  · have h1 : (madeCells zMx.cells (n * 2)).toList[i]? = zMx.cells[i % 2]? := by
      have hr : i % 2 = 0 ∨ i % 2 = 1 := by omega
      rw [Array.getElem?_toList, Array.getElem?_eq_getElem (by rw [mxmade_size]; exact hi)]
      unfold madeCells
      rw [Array.getElem_map, Array.getElem_range, zMx_cells]
      show some ((#[.int .i64 0, .string ⟨#[]⟩] : Array Value)[i % 2]!) = _
      rcases hr with h | h <;> rw [h] <;> rfl
    rw [h1, zMx_cells]
    have hq : i / 2 < (List.replicate n mx0).length := by simp; omega
    obtain ⟨e0, e1⟩ := mxRow_get (List.replicate n mx0) (i / 2) hq
    have hv : (List.replicate n mx0)[i / 2] = mx0 := by simp
    rw [hv] at e0 e1
    have hr : i % 2 = 0 ∨ i % 2 = 1 := by omega
    rcases hr with h | h
    · rw [h]
      have : i = i / 2 * 2 := by omega
      conv => rhs; rw [this, e0]
      rfl
    · rw [h]
      have : i = i / 2 * 2 + 1 := by omega
      conv => rhs; rw [this, e1]
      rfl
  · rw [List.getElem?_eq_none (by rw [Array.length_toList, mxmade_size]; omega), List.getElem?_eq_none (by rw [mxRow_len]; simp; omega)]
theorem mxs_made (w : World) (n : Nat) (hn : n ≤ maxLen) : Mxs (w.alloc (.cells (madeCells zMx.cells (n * 2)) 34)) w.heap.size (.slice (some ⟨w.heap.size, 0, none⟩) n n) (List.replicate n mx0) := by
  refine ⟨by rw [mxRow_len]; omega, .inr ⟨w.heap.size, n, madeCells zMx.cells (n * 2), by simp, Nat.le_refl _, (MapKept.heap_alloc w _).1, by simp, hn, mxmade_size n, ?_⟩⟩
  rw [mxRow_made]
  refine List.take_of_length_le ?_
  rw [mxRow_len]; simp; omega
theorem mxfree {w : World} {lo g n cap : Nat} {L : List Mx} (h : Mxs w lo (.slice (some ⟨g, 0, none⟩) n cap) L) : n = L.length ∧ MxsAt w lo g cap L ∧ ∀ o, w.frozen? ⟨g, o, none⟩ = false := by
  rcases h.cases with ⟨hv, _⟩ | ⟨g', cap', hv, hs⟩
  · cases hv
  · injection hv with h1 h2 h3
    injection h1 with h1
    injection h1 with h1
    subst h1 h2 h3
    obtain ⟨cur, hg, _, _⟩ := hs.ex
    exact ⟨rfl, hs, fun o => by simp [World.frozen?, hg]⟩
theorem mx_set {w : World} {lo g n cap i : Nat} {L : List Value} (h : w.ownsRow lo 34 2 (.slice (some ⟨g, 0, none⟩) n cap) n L) (x : Value) :
    (w.setCell ⟨g, i, none⟩ x).ownsRow lo 34 2 (.slice (some ⟨g, 0, none⟩) n cap) n (L.set i x) := by
  refine ⟨by simpa using h.1, ?_⟩
  rcases h.2 with ⟨hv, _⟩ | ⟨g', cap', cur, hv, hl, hg, hn, hc, hs, ht⟩
  · cases hv
  · injection hv with h1 h2 h3
    injection h1 with h1
    injection h1 with h1
    subst h1 h3
    refine .inr ⟨g, cap, cur.setIfInBounds i x, rfl, hl, Go.Joins.block_setCell hg _, hn, hc, by simpa using hs, ?_⟩
    rw [← ht]
    simp [List.take_set]
theorem mxraw_below {w w' : World} {lo n : Nat} {v : Value} {L : List Value} (h : w.ownsRow lo 34 2 v n L) {B : Nat} (hb : Below B w w') (hB : w.heap.size ≤ B) : w'.ownsRow lo 34 2 v n L := by
  refine ⟨h.1, ?_⟩
  rcases h.2 with h0 | ⟨g, cap, cur, hv, hl, hg, rest⟩
  · exact .inl h0
  · refine .inr ⟨g, cap, cur, hv, hl, ?_, rest⟩
    rw [hb.block g (Nat.lt_of_lt_of_le (Array.getElem?_eq_some_iff.1 hg).1 hB)]; exact hg
theorem mxRow_set : ∀ (L : List Mx) (j : Nat) (x : Mx), j < L.length → ((mxRow L).set (j * 2) (.int .i64 x.1)).set (j * 2 + 1) (.string x.2) = mxRow (L.set j x)
  | v :: L, 0, x, _ => rfl
  | v :: L, j + 1, x, h => by
    have := mxRow_set L j x (by simpa using h)
    have e : mxRow (v :: L) = .int .i64 v.1 :: .string v.2 :: mxRow L := rfl
    rw [List.set_cons_succ, show mxRow (v :: L.set j x) = .int .i64 v.1 :: .string v.2 :: mxRow (L.set j x) from rfl, ← this, e]
    rw [show (j + 1) * 2 = j * 2 + 2 by omega, show j * 2 + 2 + 1 = (j * 2 + 1) + 2 by omega]
    rfl
theorem fill_stepM (L : List Mx) (k : Nat) (h : k < L.length) : (L.take k ++ List.replicate (L.length - k) mx0).set k L[k] = L.take (k + 1) ++ List.replicate (L.length - (k + 1)) mx0 := by
  have hl : (L.take k).length = k := by simp; omega
  rw [List.set_append_right _ _ (by omega), hl, Nat.sub_self, List.take_succ_eq_append_getElem h]
  obtain ⟨n, hn⟩ : ∃ n, L.length - k = n + 1 := ⟨L.length - k - 1, by omega⟩
  rw [hn, List.replicate_succ, List.set_cons_zero, show L.length - (k + 1) = n by omega, List.append_assoc]
  rfl

set_option maxHeartbeats 1000000 in
set_option maxRecDepth 100000 in
theorem toMx (x : Mx) (w : World) :
    Calls Tryd.prog 50 #[.agg #[.int .i64 x.1, .string x.2]] w fun e w' => e = .returned (.agg #[.int .i64 x.1, .string x.2]) ∧ Below w.heap.size w w' := by
  go_enter Tryd.func50, Tryd.ntmps50
  go_wp2
  refine bodyPost_ret (v := .agg #[.int .i64 x.1, .string x.2]) (by simp [results, Tryd.results50, go_sem]) rfl ⟨rfl, ?_⟩
  repeat (first | exact Below.refl _ _ | refine Below.setCell ?_ (by simp <;> omega) _ | refine Below.alloc ?_ (by simp <;> omega) _)

set_option maxHeartbeats 1000000 in
set_option maxRecDepth 100000 in
theorem toMxs (v : Value) (L : List Mx) (w : World) (h : ArgM w v L) (hL : L.length ≤ 1048576) :
    Calls Tryd.prog 30 #[v] w fun e w' => ∃ v', e = .returned v' ∧ Mxs w' w.heap.size v' L ∧ Below w.heap.size w w' := by
  obtain ⟨_, _, hform⟩ := h
  obtain ⟨k0, hk, hx0, hx1, hx2⟩ := info_parts infoMx
  have hmk : (Instr.makeSlice 23 (.int .i64 (L.length : Int)) (.int .i64 (L.length : Int))).run Tryd.prog w = .ok (.slice (some ⟨w.heap.size, 0, none⟩) L.length L.length) (w.alloc (.cells (madeCells zMx.cells (L.length * 2)) 34)) := by
    have e := run_make (P := Tryd.prog) w 23 34 k0 zMx Tryd.underlying23 hk hx0 .i64 .i64 (L.length : Int) (L.length : Int) (by omega) (by omega) (by rw [hx2]; omega) (by omega)
    simpa [hx1] using e
  have HM : Hid (Mxs (w.alloc (.cells (madeCells zMx.cells (L.length * 2)) 34)) w.heap.size (.slice (some ⟨w.heap.size, 0, none⟩) L.length L.length) (L.take 0 ++ List.replicate (L.length - 0) mx0)) := mxs_made w L.length (by unfold maxLen; omega)
  clear hk hx0 hx1 hx2
  obtain ⟨Z, HZ⟩ : ∃ Z, Hid (Obj.cells (madeCells zMx.cells (L.length * 2)) 34 = Z) := ⟨_, rfl⟩
  rw [HZ.out] at hmk HM
  clear HZ
  by_cases h0 : L.length = 0
  · have hL0 := List.eq_nil_of_length_eq_zero h0
    subst hL0
    obtain ⟨a, c, rfl⟩ : ∃ a c, v = .slice a 0 c := by
      rcases hform with ⟨_, h⟩ | ⟨b, off, cap, rfl, _⟩
      · exact h
      · exact ⟨_, _, rfl⟩
    simp only [List.length_nil, Int.cast_ofNat_Int] at hmk
    go_enter Tryd.func30, Tryd.ntmps30
    go_wp2
    refine wp_loop_rounds 1 ?_; rw [rounds_succ]
    go_wp2
    go_ret
    exact ⟨_, rfl, HM.out, below1 _ _⟩
  · obtain ⟨b, off, cap, rfl, _, hlt, hc⟩ : ∃ b off cap, v = .slice (some ⟨b, off, none⟩) L.length cap ∧ L.length ≤ cap ∧ b < w.heap.size ∧ ∀ i (hi : i < L.length), w.cell? ⟨b, off + i * 2, none⟩ = some (.int .i64 L[i].1) ∧ w.cell? ⟨b, off + i * 2 + 1, none⟩ = some (.string L[i].2) := by
      rcases hform with ⟨hL, _⟩ | h
      · rw [hL] at h0; exact absurd rfl h0
      · exact h
    have HC : Hid (∀ i (hi : i < L.length), w.cell? ⟨b, off + i * 2, none⟩ = some (.int .i64 L[i].1) ∧ w.cell? ⟨b, off + i * 2 + 1, none⟩ = some (.string L[i].2)) := hc
    clear hc
    go_enter Tryd.func30, Tryd.ntmps30
    go_wp2
    go_loopw [4] (fun i wr => ∃ k : Nat, k ≤ L.length ∧ i = .int .i64 k ∧ Hid (Mxs wr w.heap.size (.slice (some ⟨w.heap.size, 0, none⟩) L.length L.length) (L.take k ++ List.replicate (L.length - k) mx0)) ∧ Below w.heap.size w wr) (fun i _ => L.length - (intOf i).toNat)
    case atStart => exact ⟨0, Nat.zero_le _, rfl, HM, below1 _ _⟩
    case round =>
      obtain ⟨k, hk, rfl, HS, hb⟩ := hrel
      by_cases hlt2 : k < L.length
      · obtain ⟨c0, c2⟩ := HC.out k hlt2
        have x0 := (hb.cell (p := ⟨b, off + k * 2, none⟩) hlt).trans c0
        have x1 := (hb.cell (p := ⟨b, off + k * 2 + 1, none⟩) hlt).trans c2
        have HN : Hid ((L.take k ++ List.replicate (L.length - k) mx0).set k L[k] = L.take (k + 1) ++ List.replicate (L.length - (k + 1)) mx0) := fill_stepM L k hlt2
        have hlen : (L.take k ++ List.replicate (L.length - k) mx0).length = L.length := by simp; omega
        clear c0 c2
        generalize L[k] = X at *
        go_wp2_with fail
        refine (toMx X _).mono ?_
        rintro e w1 ⟨rfl, hb1⟩
        have b1 : Below w.heap.size w w1 := hb.trans (hb1.mono hb.size)
        have HS1 : Hid (Mxs w1 w.heap.size (.slice (some ⟨w.heap.size, 0, none⟩) L.length L.length) (L.take k ++ List.replicate (L.length - k) mx0)) := mxs_below HS.out hb1 (Nat.le_refl _)
        obtain ⟨-, A1, F1⟩ := mxfree HS1.out
        obtain ⟨y0, y1, d0, d1⟩ : ∃ y0 y1, w1.cell? ⟨w.heap.size, k * 2, none⟩ = some (.int .i64 y0) ∧ w1.cell? ⟨w.heap.size, k * 2 + 1, none⟩ = some (.string y1) := ⟨_, _, (A1.cell k (by omega)).1, (A1.cell k (by omega)).2⟩
        have ef0 := F1 (k * 2)
        have ef1 := F1 (k * 2 + 1)
        clear x0 x1 hb1 HS A1 F1
        go_wp2
        go_roundw
        case rel =>
          refine ⟨k + 1, by omega, by go_num, ?_, ?_⟩
          · show Mxs _ _ _ _
            have e := HS1.out
            unfold Mxs at e
            rw [hlen] at e
            have e3 := mx_set (i := k * 2 + 1) (mx_set (i := k * 2) e (.int .i64 X.1)) (.string X.2)
            rw [mxRow_set _ k X (by omega), HN.out] at e3
            have hl2 : (L.take (k + 1) ++ List.replicate (L.length - (k + 1)) mx0).length = L.length := by simp; omega
            unfold Mxs
            rw [hl2]
            exact e3
          · exact (b1.setCell (Nat.le_refl _) _).setCell (Nat.le_refl _) _
        case measure => simp [intOf]; omega
      · obtain rfl : k = L.length := by omega
        go_wp2
        go_ret
        refine ⟨_, rfl, ?_, hb⟩
        have e := HS.out
        rw [List.take_length, Nat.sub_self, List.replicate_zero, List.append_nil] at e
        exact e

def mxmarks (k n : Nat) : List Mx := (List.range n).map fun i => (((k + 2 * i : Nat) : Int), markT (k + 2 * i + 1))
theorem mxmarks_length (k n : Nat) : (mxmarks k n).length = n := by simp [mxmarks]
theorem mxmarks_step (k j : Nat) (L : List Mx) (hj : j < L.length) : (mxmarks k j ++ L.drop j).set j (((k + 2 * j : Nat) : Int), markT (k + 2 * j + 1)) = mxmarks k (j + 1) ++ L.drop (j + 1) := by
  rw [List.set_append_right _ _ (by rw [mxmarks_length]; exact Nat.le_refl _), mxmarks_length, Nat.sub_self, List.drop_eq_getElem_cons hj, List.set_cons_zero]
  simp [mxmarks, List.range_succ]

set_option maxHeartbeats 1000000 in
set_option maxRecDepth 100000 in
theorem markMxs (v : Value) (L : List Mx) (lo k : Nat) (w : World) (h : Mxs w lo v L) (hk : 1 ≤ k) (hm : k + 2 * L.length ≤ 16777216) :
    Calls Tryd.prog 32 #[v, .int .i64 k] w fun e w' => e = .returned (.int .i64 ((k + 2 * L.length : Nat) : Int)) ∧ OffV v w w' := by
  by_cases h0 : L.length = 0
  · have hk0 : k + 2 * L.length = k := by omega
    rw [hk0]
    obtain ⟨a1, c1, hv⟩ := mxs_form h
    rw [h0] at hv
    subst hv
    clear h h0 hk0
    go_enter Tryd.func32, Tryd.ntmps32
    go_wp2
    refine wp_loop_rounds 1 ?_; rw [rounds_succ]
    go_wp2
    go_ret
    exact ⟨rfl, .inr (Below.refl _ _)⟩
  · obtain ⟨g, cap, hv, _⟩ : ∃ g cap, v = .slice (some ⟨g, 0, none⟩) L.length cap ∧ MxsAt w lo g cap L := by
      rcases h.cases with ⟨_, hL⟩ | h
      · rw [hL] at h0; exact absurd rfl h0
      · exact h
    subst hv
    have HI : Hid (Mxs w lo (.slice (some ⟨g, 0, none⟩) L.length cap) (mxmarks k 0 ++ L.drop 0)) := h
    clear h
    have hl1 : L.length ≤ 16777216 := by omega
    go_enter Tryd.func32, Tryd.ntmps32
    go_wp2
    go_loopw [1, 5] (fun kv i wr => ∃ j : Nat, j ≤ L.length ∧ i = .int .i64 j ∧ kv = .int .i64 ((k + 2 * j : Nat) : Int) ∧ Hid (Mxs wr lo (.slice (some ⟨g, 0, none⟩) L.length cap) (mxmarks k j ++ L.drop j)) ∧ Off g w wr) (fun _ i _ => L.length - (intOf i).toNat)
    case atStart => exact ⟨0, Nat.zero_le _, rfl, rfl, HI, Off.refl _ _⟩
    case round =>
      obtain ⟨j, hj, rfl, rfl, HS, hb⟩ := hrel
      by_cases hlt : j < L.length
      · have hlen : (mxmarks k j ++ L.drop j).length = L.length := by simp [mxmarks_length]; omega
        obtain ⟨-, A1, F1⟩ := mxfree HS.out
        obtain ⟨x0, x1, e0, e1⟩ : ∃ x0 x1, wr.cell? ⟨g, j * 2, none⟩ = some (.int .i64 x0) ∧ wr.cell? ⟨g, j * 2 + 1, none⟩ = some (.string x1) := ⟨_, _, (A1.cell j (by omega)).1, (A1.cell j (by omega)).2⟩
        have ef0 := F1 (j * 2)
        have ef1 := F1 (j * 2 + 1)
        have hgl := A1.lt
        have HR : Hid (wr.ownsRow lo 34 2 (.slice (some ⟨g, 0, none⟩) L.length cap) L.length (mxRow (mxmarks k j ++ L.drop j))) := by
          have := HS.out
          unfold Mxs at this
          rw [hlen] at this
          exact this
        have hkj : ((k : Int) + 2 * (j : Int) + 1).toNat = k + 2 * j + 1 := by omega
        clear A1 F1
        go_wp2_with fail
        generalize hW : wr.setCell ⟨g, j * 2, none⟩ (.int .i64 ((k : Int) + 2 * (j : Int))) = W
        have HW : Hid (W.ownsRow lo 34 2 (.slice (some ⟨g, 0, none⟩) L.length cap) L.length ((mxRow (mxmarks k j ++ L.drop j)).set (j * 2) (.int .i64 ((k : Int) + 2 * (j : Int))))) := by
          show World.ownsRow _ _ _ _ _ _ _
          rw [← hW]
          exact mx_set HR.out _
        have hWo : Off g w W := by rw [← hW]; exact hb.setCell _
        have e2' : W.cell? ⟨g, j * 2 + 1, none⟩ = some (.string x1) := by
          rw [← hW, World.cell?_setCell_other _ _ _ _ (by intro e; injection e with _ e; omega)]
          exact e1
        have ef2' : W.frozen? ⟨g, j * 2 + 1, none⟩ = false := by rw [← hW]; simpa using ef1
        have hgW : g < W.heap.size := by rw [← hW]; simpa using hgl
        refine (markTextI _ _ (by omega) (by omega)).mono ?_
        rintro e w1 ⟨rfl, hb1⟩
        rw [hkj]
        have e3 := (hb1.cell (p := ⟨g, j * 2 + 1, none⟩) hgW).trans e2'
        have ef3 := (hb1.frozen (p := ⟨g, j * 2 + 1, none⟩) hgW).trans ef2'
        clear hW e0 e1 ef0 ef1 e2' ef2' hkj
        go_wp2
        go_roundw
        case rel =>
          refine ⟨j + 1, by omega, by go_num, by go_num, ?_, (hWo.trans (Off.of_below hb1)).setCell _⟩
          show Mxs _ _ _ _
          have e := mx_set (i := j * 2 + 1) (mxraw_below HW.out hb1 (Nat.le_refl _)) (.string (markT (k + 2 * j + 1)))
          have e5 := mxRow_set (mxmarks k j ++ L.drop j) j (((k + 2 * j : Nat) : Int), markT (k + 2 * j + 1)) (by omega)
          rw [mxmarks_step k j L hlt] at e5
          have hl2 : (mxmarks k (j + 1) ++ L.drop (j + 1)).length = L.length := by simp [mxmarks_length]; omega
          unfold Mxs
          rw [hl2, ← e5]
          simpa using e
        case measure => simp [intOf]; omega
      · obtain rfl : j = L.length := by omega
        go_wp2
        go_ret
        exact ⟨rfl, .inl ⟨g, rfl, hb⟩⟩
end Go.Proofs.YtnbbhegcijogiaaDoor
