import Derived.Test.YtnbbhegcijogiaaDoorMxs
import Derived.Test.YtnbbhegcijogiaaDoorMarksO
import Derived.Test.YtnbbhegcijogiaaDoorBlk
import Derived.Test.YtnbbhegcijogiaaDoorArgS
namespace Go.Proofs.YtnbbhegcijogiaaDoor
open Go.ChangeShapes Go.WideShapes Go.ChangeAt Go.RowKit
attribute [local go_sem ↓] Go.wp_at_zero Go.wp_at_succ

set_option maxHeartbeats 1000000 in
set_option maxRecDepth 100000 in
theorem eqMx (x : Mx) (w : World) :
    Calls Tryd.prog 51 #[.agg #[.int .i64 x.1, .string x.2], .agg #[.int .i64 x.1, .string x.2]] w fun e w' => e = .returned (.bool true) ∧ Below w.heap.size w w' := by
  go_enter Tryd.func51, Tryd.ntmps51
  go_wp2
  go_ret
  exact ⟨rfl, below2 _ _ _⟩

set_option maxHeartbeats 1000000 in
set_option maxRecDepth 100000 in
theorem eqMxs (v1 v2 : Value) (L : List Mx) (lo1 lo2 : Nat) (w : World) (h1 : Mxs w lo1 v1 L) (h2 : Mxs w lo2 v2 L) :
    Calls Tryd.prog 31 #[v1, v2] w fun e w' => e = .returned (.bool true) ∧ Below w.heap.size w w' := by
  by_cases h0 : L.length = 0
  · obtain ⟨a1, c1, rfl⟩ := mxs_form h1
    obtain ⟨a2, c2, rfl⟩ := mxs_form h2
    rw [h0]
    clear h1 h2
    go_enter Tryd.func31, Tryd.ntmps31
    go_wp2
    refine wp_loop_rounds 1 ?_; rw [rounds_succ]
    go_wp2
    go_ret
    exact ⟨rfl, Below.refl _ _⟩
  · obtain ⟨g1, c1, rfl, s1⟩ : ∃ g cap, v1 = .slice (some ⟨g, 0, none⟩) L.length cap ∧ MxsAt w lo1 g cap L := by
      rcases h1.cases with ⟨_, hL⟩ | h
      · rw [hL] at h0; exact absurd rfl h0
      · exact h
    obtain ⟨g2, c2, rfl, s2⟩ : ∃ g cap, v2 = .slice (some ⟨g, 0, none⟩) L.length cap ∧ MxsAt w lo2 g cap L := by
      rcases h2.cases with ⟨_, hL⟩ | h
      · rw [hL] at h0; exact absurd rfl h0
      · exact h
    clear h1 h2
    have hl1 := s1.len
    have hm1 := s1.capm
    have hl2 := s2.len
    have hm2 := s2.capm
    have hg1 := s1.lt
    have hg2 := s2.lt
    unfold maxLen at hm1 hm2
    have HC1 : Hid (∀ i (hi : i < L.length), w.cell? ⟨g1, i * 2, none⟩ = some (.int .i64 L[i].1) ∧ w.cell? ⟨g1, i * 2 + 1, none⟩ = some (.string L[i].2)) := s1.cell
    have HC2 : Hid (∀ i (hi : i < L.length), w.cell? ⟨g2, i * 2, none⟩ = some (.int .i64 L[i].1) ∧ w.cell? ⟨g2, i * 2 + 1, none⟩ = some (.string L[i].2)) := s2.cell
    clear s1 s2
    go_enter Tryd.func31, Tryd.ntmps31
    go_wp2
    go_loopw [5] (fun i wr => ∃ k : Nat, k ≤ L.length ∧ i = .int .i64 k ∧ Below w.heap.size w wr) (fun i _ => L.length - (intOf i).toNat)
    case atStart => exact ⟨0, Nat.zero_le _, rfl, Below.refl _ _⟩
    case round =>
      obtain ⟨k, hk, rfl, hb⟩ := hrel
      by_cases hlt : k < L.length
      · obtain ⟨a0, a1⟩ := HC1.out k hlt
        obtain ⟨b0, b1⟩ := HC2.out k hlt
        have x0 := (hb.cell (p := ⟨g1, k * 2, none⟩) hg1).trans a0
        have x1 := (hb.cell (p := ⟨g1, k * 2 + 1, none⟩) hg1).trans a1
        have y0 := (hb.cell (p := ⟨g2, k * 2, none⟩) hg2).trans b0
        have y1 := (hb.cell (p := ⟨g2, k * 2 + 1, none⟩) hg2).trans b1
        generalize L[k] = X at *
        clear a0 a1 b0 b1
        go_wp2_with fail
        go_region_with (go_at_call 51; refine (eqMx X _).mono ?_; rintro e w1 ⟨rfl, hb1⟩)
        all_goals
          go_wp2
          go_roundw
          case rel => exact ⟨k + 1, by omega, by go_num, hb.drew.trans (hb1.mono hb.size)⟩
          case measure => simp [intOf]; omega
      · go_wp2
        go_ret
        exact ⟨rfl, hb⟩

set_option maxHeartbeats 1000000 in
set_option maxRecDepth 100000 in
theorem szMx (x : Mx) (n : Int) (w : World) (hx : x.2.size ≤ maxLen) (hn : 0 ≤ n) (hn2 : n ≤ 1048576) :
    Calls Tryd.prog 49 #[.agg #[.int .i64 x.1, .string x.2], .int .i64 n] w fun e w' => (∃ r : Int, e = .returned (.int .i64 r) ∧ (r < 0 ∨ (0 ≤ r ∧ r ≤ n ∧ (x.2.size : Int) ≤ n))) ∧ Below w.heap.size w w' := by
  unfold maxLen at hx
  by_cases c1 : n - (x.2.size : Int) < 0
  · go_enter Tryd.func49, Tryd.ntmps49
    go_wp2
    go_ret
    exact ⟨⟨_, rfl, .inl (by decide)⟩, below1 _ _⟩
  · go_enter Tryd.func49, Tryd.ntmps49
    go_wp2
    go_ret
    exact ⟨⟨_, rfl, .inr ⟨by omega, by omega, by omega⟩⟩, below1 _ _⟩

set_option maxHeartbeats 1000000 in
set_option maxRecDepth 100000 in
theorem szMxs (v : Value) (L : List Mx) (n : Int) (w : World) (h : ArgM w v L) (hn : 0 ≤ n) (hn2 : n ≤ 1048576) :
    Calls Tryd.prog 29 #[v, .int .i64 n] w fun e w' => (∃ r : Int, e = .returned (.int .i64 r) ∧ (r < 0 ∨ (0 ≤ r ∧ r ≤ n ∧ (L.length : Int) ≤ n ∧ ∀ x ∈ L, (x.2.size : Int) ≤ n))) ∧ Below w.heap.size w w' := by
  have hm := h.1
  unfold maxLen at hm
  by_cases h0 : L.length = 0
  · obtain ⟨a, c, rfl⟩ := h.form
    have hL := List.eq_nil_of_length_eq_zero h0
    subst hL
    clear h h0
    go_enter Tryd.func29, Tryd.ntmps29
    go_wp2
    refine wp_loop_rounds 1 ?_; rw [rounds_succ]
    go_wp2
    go_ret
    exact ⟨⟨_, rfl, .inr ⟨by first | omega | (simp; omega), by first | omega | simp, by simpa using hn, (fun x hx => by cases hx)⟩⟩, Below.refl _ _⟩
  · obtain ⟨b, off, cap, rfl, _, hlt, hc⟩ : ∃ b off cap, v = .slice (some ⟨b, off, none⟩) L.length cap ∧ L.length ≤ cap ∧ b < w.heap.size ∧ ∀ i (hi : i < L.length), w.cell? ⟨b, off + i * 2, none⟩ = some (.int .i64 L[i].1) ∧ w.cell? ⟨b, off + i * 2 + 1, none⟩ = some (.string L[i].2) := by
      rcases h.2.2 with ⟨hL, _⟩ | h
      · rw [hL] at h0; exact absurd rfl h0
      · exact h
    have HX : Hid (∀ x ∈ L, x.2.size ≤ maxLen) := h.2.1
    have HC : Hid (∀ i (hi : i < L.length), w.cell? ⟨b, off + i * 2, none⟩ = some (.int .i64 L[i].1) ∧ w.cell? ⟨b, off + i * 2 + 1, none⟩ = some (.string L[i].2)) := hc
    clear h hc
    by_cases c1 : n - (L.length : Int) < 0
    · go_enter Tryd.func29, Tryd.ntmps29
      go_wp2
      go_ret
      exact ⟨⟨_, rfl, .inl (by decide)⟩, Below.refl _ _⟩
    · go_enter Tryd.func29, Tryd.ntmps29
      go_wp2
      go_loopw [1, 5] (fun lv iv wr => ∃ (k : Nat) (l : Int), k ≤ L.length ∧ iv = .int .i64 k ∧ lv = .int .i64 l ∧ 0 ≤ l ∧ l ≤ n ∧ Below w.heap.size w wr ∧ Hid (∀ j (hj : j < L.length), j < k → (L[j].2.size : Int) ≤ n)) (fun _ iv _ => L.length - (intOf iv).toNat)
      case atStart => exact ⟨0, n - (L.length : Int), Nat.zero_le _, rfl, rfl, by omega, by omega, Below.refl _ _, fun j _ hj => absurd hj (Nat.not_lt_zero _)⟩
      case round =>
        obtain ⟨k, l, hk, rfl, rfl, hl0, hln, hb, HK⟩ := hrel
        by_cases hlt2 : k < L.length
        · obtain ⟨c0, c2⟩ := HC.out k hlt2
          have x0 := (hb.cell (p := ⟨b, off + k * 2, none⟩) hlt).trans c0
          have x1 := (hb.cell (p := ⟨b, off + k * 2 + 1, none⟩) hlt).trans c2
          have hX := HX.out L[k] (List.getElem_mem hlt2)
          have HG : Hid ((L[k].2.size : Int) ≤ n → ∀ j (hj : j < L.length), j < k + 1 → (L[j].2.size : Int) ≤ n) := by
            intro h j hj hj2
            by_cases e : j = k
            · subst e; exact h
            · exact HK.out j hj (by omega)
          clear c0 c2 HK
          generalize L[k] = X at *
          go_wp2_with fail
          refine (szMx X l _ hX hl0 (by omega)).mono ?_
          rintro e w1 ⟨⟨r, rfl, hr⟩, hb1⟩
          have b1 : Below w.heap.size w w1 := hb.trans (hb1.mono hb.size)
          clear hb1 x0 x1
          by_cases hr0 : r < 0
          · go_wp2
            go_ret
            exact ⟨⟨_, rfl, .inl (by decide)⟩, b1⟩
          · have hr' : 0 ≤ r ∧ r ≤ l ∧ (X.2.size : Int) ≤ l := by rcases hr with h | h <;> first | exact h | omega
            have HG2 : Hid (∀ j (hj : j < L.length), j < k + 1 → (L[j].2.size : Int) ≤ n) := HG.out (by omega)
            clear HG hr
            go_wp2
            go_roundw
            case rel => exact ⟨k + 1, r, by omega, by go_num, rfl, hr'.1, by omega, b1, HG2⟩
            case measure => simp [intOf]; omega
        · obtain rfl : k = L.length := by omega
          go_wp2
          go_ret
          refine ⟨⟨_, rfl, .inr ⟨hl0, hln, by omega, fun x hx => ?_⟩⟩, hb⟩
          obtain ⟨j, hj, rfl⟩ := List.getElem_of_mem hx
          exact HK.out j hj hj
end Go.Proofs.YtnbbhegcijogiaaDoor
