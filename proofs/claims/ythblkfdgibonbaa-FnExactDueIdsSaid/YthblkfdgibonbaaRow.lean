import Derived.Test.YthblkfdgibonbaaOwn
import Derived.Test.YthblkfdgibonbaaOffL
import Derived.WalkKit
import Derived.ProofKit
import Derived.WalkLawsBesides
import Derived.Deep.AppendLies
import Derived.Laws.MakeOwn
namespace Go.Proofs.Ythblkfdgibonbaa
open Go.ChangeShapes Go.WideShapes Go.ChangeAt Go.RowKit

/-- rows of chunks of n cells -/
theorem flat_len {α : Type} {n : Nat} : ∀ {C : List (List α)}, (∀ c ∈ C, c.length = n) → C.flatten.length = C.length * n
  | [], _ => by simp
  | c :: C, h => by
    rw [List.flatten_cons, List.length_append, flat_len (fun x hx => h x (List.mem_cons_of_mem _ hx)), h c List.mem_cons_self, List.length_cons, Nat.add_mul, Nat.one_mul, Nat.add_comm]
theorem flat_get {α : Type} {n : Nat} : ∀ {C : List (List α)}, (∀ c ∈ C, c.length = n) → ∀ (i j : Nat) (hi : i < C.length), j < n → C.flatten[i * n + j]? = C[i][j]?
  | c :: C, h, 0, j, _, hj => by
    rw [List.flatten_cons, Nat.zero_mul, Nat.zero_add, List.getElem?_append_left (by rw [h c List.mem_cons_self]; exact hj)]; rfl
  | c :: C, h, i + 1, j, hi, hj => by
    have hc := h c List.mem_cons_self
    rw [List.flatten_cons, List.getElem?_append_right (by rw [hc, Nat.add_mul]; omega), hc, show (i + 1) * n + j - n = i * n + j by rw [Nat.add_mul]; omega]
    exact flat_get (fun x hx => h x (List.mem_cons_of_mem _ hx)) i j (by simpa using hi) hj
theorem flat_set {α : Type} {n : Nat} : ∀ {C : List (List α)}, (∀ c ∈ C, c.length = n) → ∀ (i j : Nat) (hi : i < C.length) (x : α), j < n → C.flatten.set (i * n + j) x = (C.set i (C[i].set j x)).flatten
  | c :: C, h, 0, j, _, x, hj => by
    rw [List.flatten_cons, Nat.zero_mul, Nat.zero_add, List.set_append_left _ _ (by rw [h c List.mem_cons_self]; exact hj), List.set_cons_zero, List.flatten_cons]; rfl
  | c :: C, h, i + 1, j, hi, x, hj => by
    have hc := h c List.mem_cons_self
    rw [List.flatten_cons, List.set_append_right _ _ (by rw [hc, Nat.add_mul]; omega), hc, show (i + 1) * n + j - n = i * n + j by rw [Nat.add_mul]; omega, flat_set (fun x hx => h x (List.mem_cons_of_mem _ hx)) i j (by simpa using hi) x hj]
    simp

/-- a slice of the call's own over chunks of n cells, in a block from lo on -/
def Rw (T n : Nat) (w : World) (lo : Nat) (v : Value) (C : List (List Value)) : Prop := w.ownsRow lo T n v C.length C.flatten ∧ ∀ c ∈ C, c.length = n
structure RwAt (n : Nat) (w : World) (lo g cap : Nat) (C : List (List Value)) : Prop where
  lo : lo ≤ g
  lt : g < w.heap.size
  len : C.length ≤ cap
  capm : cap ≤ maxLen
  cell : ∀ i (hi : i < C.length) j, j < n → w.cell? ⟨g, i * n + j, none⟩ = C[i][j]?
  free : ∀ o, w.frozen? ⟨g, o, none⟩ = false
theorem Rw.cases {T n : Nat} {w : World} {lo : Nat} {v : Value} {C : List (List Value)} (h : Rw T n w lo v C) :
    (v = .slice none 0 0 ∧ C = []) ∨ ∃ g cap, v = .slice (some ⟨g, 0, none⟩) C.length cap ∧ RwAt n w lo g cap C := by
  obtain ⟨⟨_, h⟩, hn⟩ := h
  rcases h with ⟨hv, h0⟩ | ⟨g, cap, cur, hv, hb, hg, hl, hc, hs, ht⟩
  · exact .inl ⟨hv, List.eq_nil_of_length_eq_zero h0⟩
  · refine .inr ⟨g, cap, hv, hb, (Array.getElem?_eq_some_iff.1 hg).1, hl, hc, ?_, ?_⟩
    · intro i hi j hj
      have hlt : i * n + j < C.length * n := by
        have : (i + 1) * n ≤ C.length * n := Nat.mul_le_mul_right n (by omega)
        rw [Nat.add_mul] at this; omega
      have h1 : cur[i * n + j]? = C.flatten[i * n + j]? := by
        rw [← ht, List.getElem?_take_of_lt hlt]; simp
      rw [← flat_get hn i j hi hj, ← h1]
      simp [World.cell?, hg]
    · intro o; simp [World.frozen?, hg]
theorem Rw.form {T n : Nat} {w : World} {lo : Nat} {v : Value} {C : List (List Value)} (h : Rw T n w lo v C) : ∃ a c, v = .slice a C.length c := by
  rcases h.cases with ⟨rfl, rfl⟩ | ⟨g, cap, rfl, _⟩
  · exact ⟨_, _, rfl⟩
  · exact ⟨_, _, rfl⟩
theorem Rw.at {T n : Nat} {w : World} {lo g m cap : Nat} {C : List (List Value)} (h : Rw T n w lo (.slice (some ⟨g, 0, none⟩) m cap) C) : RwAt n w lo g cap C ∧ m = C.length := by
  rcases h.cases with ⟨hv, _⟩ | ⟨g', cap', hv, hs⟩
  · cases hv
  · injection hv with h1 h2 h3
    injection h1 with h1
    injection h1 with h1
    subst h1 h2 h3
    exact ⟨hs, rfl⟩
theorem Rw.has {T n : Nat} {w : World} {lo g m cap : Nat} {C : List (List Value)} (h : Rw T n w lo (.slice (some ⟨g, 0, none⟩) m cap) C) (i : Nat) (hi : i < C.length) (j : Nat) (hj : j < n) : ∃ y, w.cell? ⟨g, i * n + j, none⟩ = some y := by
  have hl := h.2 C[i] (List.getElem_mem _)
  exact ⟨C[i][j]'(by omega), by rw [h.at.1.cell i hi j hj]; exact List.getElem?_eq_getElem _⟩
theorem Rw.own {T n : Nat} {w : World} {lo : Nat} {v : Value} {C : List (List Value)} (h : Rw T n w lo v C) : ∀ g, v.ownBlock = some g → lo ≤ g ∧ g < w.heap.size := by
  intro g hg
  rcases h.cases with ⟨rfl, _⟩ | ⟨g', cap, rfl, hs⟩
  · simp [Value.ownBlock] at hg
  · simp only [Value.ownBlock, Option.some.injEq] at hg
    subst hg; exact ⟨hs.lo, hs.lt⟩
/-- the block of a row has the row's type -/
theorem row_type {w : World} {lo T k n : Nat} {v : Value} {xs : List Value} (h : w.ownsRow lo T k v n xs) {g : Nat} (hg : v.ownBlock = some g) : ∃ cur f, w.heap[g]? = some (.cells cur T f) := by
  rcases h.2 with ⟨hv, _⟩ | ⟨g', cap, cur, hv, _, hb, _⟩
  · rw [hv] at hg; cases hg
  · rw [hv] at hg; cases hg; exact ⟨_, _, hb⟩
theorem row_apart {w : World} {lo lo' T T' k k' n n' : Nat} {v v' : Value} {xs xs' : List Value} (h : w.ownsRow lo T k v n xs) (h' : w.ownsRow lo' T' k' v' n' xs') (hT : T ≠ T') : ∀ a b, v.ownBlock = some a → v'.ownBlock = some b → a ≠ b := by
  rintro a b ha hb rfl
  obtain ⟨c1, f1, e1⟩ := row_type h ha
  obtain ⟨c2, f2, e2⟩ := row_type h' hb
  rw [e1] at e2
  injection e2 with e2
  injection e2 with _ e2
  exact hT e2
theorem row_belowB {w w' : World} {lo T k n B : Nat} {v : Value} {xs : List Value} (h : w.ownsRow lo T k v n xs) (hb : Below B w w') (hB : ∀ g, v.ownBlock = some g → g < B) : w'.ownsRow lo T k v n xs := by
  refine ⟨h.1, ?_⟩
  rcases h.2 with h0 | ⟨g, cap, cur, hv, hl, hg, rest⟩
  · exact .inl h0
  · refine .inr ⟨g, cap, cur, hv, hl, ?_, rest⟩
    rw [hb.block g (hB g (by rw [hv]; rfl))]; exact hg
theorem row_lt {w : World} {lo T k n : Nat} {v : Value} {xs : List Value} (h : w.ownsRow lo T k v n xs) : ∀ g, v.ownBlock = some g → lo ≤ g ∧ g < w.heap.size := by
  intro g hg
  rcases h.2 with ⟨hv, _⟩ | ⟨g', cap, cur, hv, hl, hb, _⟩
  · rw [hv] at hg; cases hg
  · rw [hv] at hg; cases hg; exact ⟨hl, (Array.getElem?_eq_some_iff.1 hb).1⟩
theorem row_le {w : World} {lo lo' T k n : Nat} {v : Value} {xs : List Value} (h : w.ownsRow lo T k v n xs) (hl : lo' ≤ lo) : w.ownsRow lo' T k v n xs := by
  refine ⟨h.1, ?_⟩
  rcases h.2 with h0 | ⟨g, cap, cur, hv, hl2, rest⟩
  · exact .inl h0
  · exact .inr ⟨g, cap, cur, hv, Nat.le_trans hl hl2, rest⟩
theorem row_setR {w : World} {lo T k g n cap i : Nat} {L : List Value} (h : w.ownsRow lo T k (.slice (some ⟨g, 0, none⟩) n cap) n L) (x : Value) :
    (w.setCell ⟨g, i, none⟩ x).ownsRow lo T k (.slice (some ⟨g, 0, none⟩) n cap) n (L.set i x) := by
  refine ⟨by simpa using h.1, ?_⟩
  rcases h.2 with ⟨hv, _⟩ | ⟨g', cap', cur, hv, hl, hg, hn, hc, hs, ht⟩
  · cases hv
  · injection hv with h1 h2 h3
    injection h1 with h1
    injection h1 with h1
    subst h1 h3
    refine .inr ⟨g, cap, cur.setIfInBounds i x, rfl, hl, Go.Joins.block_setCell hg _, hn, hc, by simpa using hs, ?_⟩
    rw [← ht]
    simp [List.take_set]
theorem row_set_neR {w : World} {lo T k n : Nat} {v : Value} {xs : List Value} (h : w.ownsRow lo T k v n xs) {a : Addr} (hne : ∀ g, v.ownBlock = some g → g ≠ a.block) (u : Value) : (w.setCell a u).ownsRow lo T k v n xs := by
  refine ⟨h.1, ?_⟩
  rcases h.2 with h0 | ⟨g, cap, cur, hv, hl, hg, rest⟩
  · exact .inl h0
  · refine .inr ⟨g, cap, cur, hv, hl, ?_, rest⟩
    rw [Below.heap_setCell w a u g (hne g (by rw [hv]; rfl))]; exact hg
theorem Rw.below {T n : Nat} {w w' : World} {lo B : Nat} {v : Value} {C : List (List Value)} (h : Rw T n w lo v C) (hb : Below B w w') (hB : w.heap.size ≤ B) : Rw T n w' lo v C :=
  ⟨row_belowB h.1 hb fun g hg => Nat.lt_of_lt_of_le (row_lt h.1 g hg).2 hB, h.2⟩
theorem Rw.off {T n : Nat} {vs : List Value} {w w' : World} {lo : Nat} {v : Value} {C : List (List Value)} (h : Rw T n w lo v C) (ho : OffL vs w w') (hne : ∀ g, v.ownBlock = some g → ∀ u ∈ vs, u.ownBlock ≠ some g) : Rw T n w' lo v C := ⟨ho.row h.1 hne, h.2⟩
theorem Rw.le {T n : Nat} {w : World} {lo lo' : Nat} {v : Value} {C : List (List Value)} (h : Rw T n w lo v C) (hl : lo' ≤ lo) : Rw T n w lo' v C := ⟨row_le h.1 hl, h.2⟩
theorem Rw.set {T n : Nat} {w : World} {lo g m cap i j : Nat} {C : List (List Value)} (h : Rw T n w lo (.slice (some ⟨g, 0, none⟩) m cap) C) (hi : i < C.length) (hj : j < n) (x : Value) :
    Rw T n (w.setCell ⟨g, i * n + j, none⟩ x) lo (.slice (some ⟨g, 0, none⟩) m cap) (C.set i (C[i].set j x)) := by
  obtain ⟨_, rfl⟩ := h.at
  refine ⟨?_, fun c hc => ?_⟩
  · rw [List.length_set, ← flat_set h.2 i j hi x hj]
    exact row_setR h.1 x
  · rcases List.mem_or_eq_of_mem_set hc with hc | rfl
    · exact h.2 c hc
    · rw [List.length_set]; exact h.2 _ (List.getElem_mem _)
theorem Rw.set_ne {T n : Nat} {w : World} {lo : Nat} {v : Value} {C : List (List Value)} (h : Rw T n w lo v C) {a : Addr} (hne : ∀ g, v.ownBlock = some g → g ≠ a.block) (u : Value) : Rw T n (w.setCell a u) lo v C := ⟨row_set_neR h.1 hne u, h.2⟩
theorem Rw.set_below {T n : Nat} {w : World} {lo : Nat} {v : Value} {C : List (List Value)} (h : Rw T n w lo v C) {a : Addr} (ha : a.block < lo) (u : Value) : Rw T n (w.setCell a u) lo v C :=
  h.set_ne (fun g hg => by have := (h.own g hg).1; omega) u
theorem made_flat {z : Array Value} {m n : Nat} (hz : z.size = m) (hm : 0 < m) : (madeCells z (n * m)).toList = (List.replicate n z.toList).flatten := by
  have hall : ∀ c ∈ List.replicate n z.toList, c.length = m := fun c hc => by rw [List.eq_of_mem_replicate hc]; simpa using hz
  refine List.ext_getElem? fun i => ?_
  by_cases hi : i < n * m
  · have hq : i / m < n := (Nat.div_lt_iff_lt_mul hm).2 hi
    have hr : i % m < m := Nat.mod_lt _ hm
    have e : i / m * m + i % m = i := Nat.div_add_mod' i m
    have h2 := flat_get hall (i / m) (i % m) (by simpa using hq) hr
    rw [e] at h2
    rw [h2, List.getElem_replicate, Array.getElem?_toList, Array.getElem?_eq_getElem (by rw [size_madeCells]; exact hi)]
    unfold madeCells
    rw [Array.getElem_map, Array.getElem_range, hz, Array.getElem?_toList, Array.getElem?_eq_getElem (by omega)]
    rw [getElem!_pos z (i % m) (by omega)]
  · rw [List.getElem?_eq_none (by rw [Array.length_toList, size_madeCells]; omega), List.getElem?_eq_none (by rw [flat_len hall]; simp; omega)]
theorem lk_newW (W : World) (o : Obj) (k : Nat) (hk : k = W.heap.size) : (W.alloc o).heap[k]? = some o := by subst hk; exact (MapKept.heap_alloc W o).1
theorem Rw.made (T n : Nat) (w : World) (k : Nat) (z : Array Value) (hz : z.size = n) (hn : 0 < n) (hk : k ≤ maxLen) : Rw T n (w.alloc (.cells (madeCells z (k * n)) T)) w.heap.size (.slice (some ⟨w.heap.size, 0, none⟩) k k) (List.replicate k z.toList) := by
  have hall : ∀ c ∈ List.replicate k z.toList, c.length = n := fun c hc => by rw [List.eq_of_mem_replicate hc]; simpa using hz
  refine ⟨⟨by rw [flat_len hall], .inr ⟨w.heap.size, k, madeCells z (k * n), by simp, Nat.le_refl _, (MapKept.heap_alloc w _).1, by simp, hk, size_madeCells _ _, ?_⟩⟩, hall⟩
  rw [made_flat hz hn]
  refine List.take_of_length_le ?_
  rw [flat_len hall]; exact Nat.le_refl _
theorem Rw.snoc {T n : Nat} {w : World} {lo : Nat} {v : Value} {C : List (List Value)} {c : List Value} (hn : ∀ x ∈ C, x.length = n) (hc : c.length = n) (h : w.ownsRow lo T n v (C.length + 1) (C.flatten ++ c)) : Rw T n w lo v (C ++ [c]) := by
  refine ⟨by simpa using h, fun x hx => ?_⟩
  rcases List.mem_append.1 hx with hx | hx
  · exact hn x hx
  · simp at hx; subst hx; exact hc
end Go.Proofs.Ythblkfdgibonbaa
