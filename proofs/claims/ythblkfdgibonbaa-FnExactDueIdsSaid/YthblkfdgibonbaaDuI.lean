import Derived.Test.YthblkfdgibonbaaDuD
import Derived.Test.YthblkfdgibonbaaIns
import Derived.Test.YthblkfdgibonbaaDuS
namespace Go.Proofs.Ythblkfdgibonbaa
open Go.ChangeShapes Go.WideShapes Go.ChangeAt Go.RowKit
attribute [local go_sem ↓] Go.wp_at_zero Go.wp_at_succ

theorem offL_same {b g n c : Nat} {w w1 : World} (h : OffL [.slice (some ⟨g, 0, none⟩) n c] w w1) : OffL [.slice (some ⟨b, 0, none⟩) 0 0, .slice (some ⟨g, 0, none⟩) 0 0] w w1 :=
  ⟨h.1, h.2.1, h.2.2.1, h.2.2.2.1, fun k hk hne => h.2.2.2.2 k hk fun v hv e => by
    simp only [List.mem_singleton] at hv
    subst hv
    exact hne (.slice (some ⟨g, 0, none⟩) 0 0) (by simp) e⟩
theorem offL_set {vs : List Value} {w w1 : World} {a : Addr} {u : Value} (h : OffL vs w w1) (ha : w.heap.size ≤ a.block) : OffL vs w (w1.setCell a u) :=
  ⟨by rw [← h.1]; rfl, by rw [← h.2.1]; rfl, by rw [← h.2.2.1]; rfl, by simpa using h.2.2.2.1, fun k hk hne => by
    rw [Below.heap_setCell w1 a u k (by omega)]; exact h.2.2.2.2 k hk hne⟩
theorem row_front {w : World} {lo T k n m : Nat} {g cap : Nat} {xs : List Value} (h : w.ownsRow lo T k (.slice (some ⟨g, 0, none⟩) n cap) n xs) (hm : m ≤ n) : w.ownsRow lo T k (.slice (some ⟨g, 0, none⟩) m cap) m (xs.take (m * k)) := by
  refine ⟨?_, ?_⟩
  · have := h.1
    have h2 : m * k ≤ n * k := Nat.mul_le_mul_right k hm
    rw [List.length_take, this]; omega
  · rcases h.2 with ⟨hv, _⟩ | ⟨g', cap', cur, hv, hl, hg, hn, hc, hs, ht⟩
    · cases hv
    · injection hv with h1 h2 h3
      injection h1 with h1
      injection h1 with h1
      subst h1 h3
      refine .inr ⟨g, cap, cur, rfl, hl, hg, by omega, hc, hs, ?_⟩
      rw [← ht, List.take_take]
      congr 1
      have h2 : m * k ≤ n * k := Nat.mul_le_mul_right k hm
      omega
theorem flat_take {n : Nat} : ∀ {C : List (List Value)}, (∀ c ∈ C, c.length = n) → ∀ m, C.flatten.take (m * n) = (C.take m).flatten
  | [], _, m => by simp
  | c :: C, h, 0 => by simp
  | c :: C, h, m + 1 => by
    have hc := h c List.mem_cons_self
    rw [List.flatten_cons, List.take_succ_cons, List.flatten_cons, show (m + 1) * n = c.length + m * n by rw [hc, Nat.add_mul]; omega, List.take_length_add_append, flat_take (fun x hx => h x (List.mem_cons_of_mem _ hx)) m]
theorem Hp.front {w : World} {lo g m cap : Nat} {D : List Du} (h : Hp w lo (.slice (some ⟨g, 0, none⟩) D.length cap) D) (hm : m ≤ D.length) : Hp w lo (.slice (some ⟨g, 0, none⟩) m cap) (D.take m) := by
  have h1 : w.ownsRow lo 77 2 (.slice (some ⟨g, 0, none⟩) D.length cap) D.length (D.map dc).flatten := by
    have := h.1
    rw [List.length_map] at this
    exact this
  have h2 := row_front h1 hm
  rw [flat_take (dc_two D), ← List.map_take] at h2
  refine ⟨?_, dc_two _⟩
  have : ((D.take m).map dc).length = m := by simp; omega
  rw [this]; exact h2

set_option maxHeartbeats 4000000 in
set_option maxRecDepth 100000 in
theorem hpPop (b g cap m : Nat) (D : List Du) (w : World) (h : HpV w b (.slice (some ⟨g, 0, none⟩) D.length cap) D) (hm : D.length = m + 1) (hL : D.length ≤ 1048577) :
    Calls Try.prog 112 #[.pointer (some ⟨b, 0, none⟩)] w fun e w' => e = .returned (.iface 77 (.agg #[.int .i64 (gD D m).1, .int .i64 (gD D m).2])) ∧ HpV w' b (.slice (some ⟨g, 0, none⟩) m cap) (D.take m) ∧ Off b w w' := by
  obtain ⟨c, f, lt, row⟩ := h
  obtain ⟨c0, c1⟩ := row.cell m (by omega)
  have hne : g ≠ b := by have := (row_lt row.1 g rfl).1; omega
  rw [gD_get (by omega)]
  have HR : Hid (Hp w (b + 1) (.slice (some ⟨g, 0, none⟩) m cap) (D.take m)) := row.front (by omega)
  have hgl : g < w.heap.size := (Rw.at row).1.lt
  have hcap : D.length ≤ cap := by have := (Rw.at row).1.len; rw [List.length_map] at this; exact this
  clear row
  generalize D[m] = x at *
  obtain ⟨x1, x2⟩ := x
  dsimp only at *
  rw [hm] at c hcap
  have h1 : (0 : Int) ≤ (m : Int) := by omega
  have h2 : (m : Int) < (m : Int) + 1 := by omega
  have h3 : (m : Int) ≤ (cap : Int) := by omega
  have h4 : (m : Int) ≤ 1048576 := by omega
  clear hm hL
  go_enter Try.func112, Try.ntmps112
  go_wp2
  go_ret
  refine ⟨rfl, ⟨?_, ?_, ?_, ?_⟩, ?_⟩
  · exact (World.cell?_alloc_lt _ _ ⟨b, 0, none⟩ (by simpa using lt)).trans (World.cell?_setCell_same _ _ _ c)
  · exact ((below1 _ _).frozen (p := ⟨b, 0, none⟩) (by simpa using lt)).trans ((World.frozen?_setCell _ _ _ _).trans f)
  · simp; omega
  · exact Rw.below (Rw.set_below (a := ⟨b, 0, none⟩) HR.out (by show b < b + 1; omega) _) (below1 _ _) (Nat.le_refl _)
  · exact ((Off.refl b w).setCell _).trans (Off.of_below (below1 _ _))

end Go.Proofs.Ythblkfdgibonbaa
