import Derived.Test.YtngcjlghjidnjaaGreatDoorMg1
import Derived.Test.YtngcjlghjidnjaaGreatDoorMg20
import Derived.WalkKit
import Derived.ProofKit
import Derived.WalkLawsBesides
import Derived.Deep.AppendLies
import Derived.Laws.MakeOwn
import Derived.Test.YtngcjlghjidnjaaGreatDoorMg24
import Derived.Test.YtngcjlghjidnjaaGreatDoorMg21
import Derived.Test.YtngcjlghjidnjaaGreatDoorMg23
import Derived.Laws.AppendOwn
import Derived.Deep.DeepCutAuto
import Derived.Deep.CutBlock
namespace Go.Proofs.YtngcjlghjidnjaaGreatDoor
open Go.ChangeShapes Go.WideShapes Go.ChangeAt Go.RowKit

/-- rows of chunks of n cells -/
theorem flat_len {α : Type} {n : Nat} : ∀ {C : List (List α)}, (∀ c ∈ C, c.length = n) → C.flatten.length = C.length * n
  | [], _ => by simp
  | c :: C, h => by
    rw [List.flatten_cons, List.length_append, flat_len (fun x hx => h x (List.mem_cons_of_mem _ hx)), h c List.mem_cons_self, List.length_cons, Nat.add_mul, Nat.one_mul, Nat.add_comm]
theorem flat_get {α : Type} {n : Nat} : ∀ {C : List (List α)}, (∀ c ∈ C, c.length = n) → ∀ (i j : Nat) (hi : i < C.length), j < n → C.flatten[i * n + j]? = C[i][j]?
  | c :: C, h, 0, j, _, hj => by
    rw [List.flatten_cons, Nat.zero_mul, Nat.zero_add, List.getElem?_append_left (by rw [h c List.mem_cons_self]; exact hj)]; rfl
  | c :: C, h, i + 1, j, hi, hj => by
    have hc := h c List.mem_cons_self
    rw [List.flatten_cons, List.getElem?_append_right (by rw [hc, Nat.add_mul]; omega), hc, show (i + 1) * n + j - n = i * n + j by rw [Nat.add_mul]; omega]
    exact flat_get (fun x hx => h x (List.mem_cons_of_mem _ hx)) i j (by simpa using hi) hj
theorem flat_set {α : Type} {n : Nat} : ∀ {C : List (List α)}, (∀ c ∈ C, c.length = n) → ∀ (i j : Nat) (hi : i < C.length) (x : α), j < n → C.flatten.set (i * n + j) x = (C.set i (C[i].set j x)).flatten
  | c :: C, h, 0, j, _, x, hj => by
    rw [List.flatten_cons, Nat.zero_mul, Nat.zero_add, List.set_append_left _ _ (by rw [h c List.mem_cons_self]; exact hj), List.set_cons_zero, List.flatten_cons]; rfl
  | c :: C, h, i + 1, j, hi, x, hj => by
    have hc := h c List.mem_cons_self
    rw [List.flatten_cons, List.set_append_right _ _ (by rw [hc, Nat.add_mul]; omega), hc, show (i + 1) * n + j - n = i * n + j by rw [Nat.add_mul]; omega, flat_set (fun x hx => h x (List.mem_cons_of_mem _ hx)) i j (by simpa using hi) x hj]
    simp

/-- a slice of the call's own over chunks of n cells, in a block from lo on -/
def Rw (T n : Nat) (w : World) (lo : Nat) (v : Value) (C : List (List Value)) : Prop := w.ownsRow lo T n v C.length C.flatten ∧ ∀ c ∈ C, c.length = n
structure RwAt (n : Nat) (w : World) (lo g cap : Nat) (C : List (List Value)) : Prop where
  lo : lo ≤ g
  lt : g < w.heap.size
  len : C.length ≤ cap
  capm : cap ≤ maxLen
  cell : ∀ i (hi : i < C.length) j, j < n → w.cell? ⟨g, i * n + j, none⟩ = C[i][j]?
  free : ∀ o, w.frozen? ⟨g, o, none⟩ = false
theorem Rw.cases {T n : Nat} {w : World} {lo : Nat} {v : Value} {C : List (List Value)} (h : Rw T n w lo v C) :
    (v = .slice none 0 0 ∧ C = []) ∨ ∃ g cap, v = .slice (some ⟨g, 0, none⟩) C.length cap ∧ RwAt n w lo g cap C := by
  obtain ⟨⟨_, h⟩, hn⟩ := h
  rcases h with ⟨hv, h0⟩ | ⟨g, cap, cur, hv, hb, hg, hl, hc, hs, ht⟩
  · exact .inl ⟨hv, List.eq_nil_of_length_eq_zero h0⟩
  · refine .inr ⟨g, cap, hv, hb, (Array.getElem?_eq_some_iff.1 hg).1, hl, hc, ?_, ?_⟩
    · intro i hi j hj
      have hlt : i * n + j < C.length * n := by
        have : (i + 1) * n ≤ C.length * n := Nat.mul_le_mul_right n (by omega)
        rw [Nat.add_mul] at this; omega
      have h1 : cur[i * n + j]? = C.flatten[i * n + j]? := by
        rw [← ht, List.getElem?_take_of_lt hlt]; simp
      rw [← flat_get hn i j hi hj, ← h1]
      simp [World.cell?, hg]
    · intro o; simp [World.frozen?, hg]
theorem Rw.form {T n : Nat} {w : World} {lo : Nat} {v : Value} {C : List (List Value)} (h : Rw T n w lo v C) : ∃ a c, v = .slice a C.length c := by
  rcases h.cases with ⟨rfl, rfl⟩ | ⟨g, cap, rfl, _⟩
  · exact ⟨_, _, rfl⟩
  · exact ⟨_, _, rfl⟩
theorem Rw.at {T n : Nat} {w : World} {lo g m cap : Nat} {C : List (List Value)} (h : Rw T n w lo (.slice (some ⟨g, 0, none⟩) m cap) C) : RwAt n w lo g cap C ∧ m = C.length := by
  rcases h.cases with ⟨hv, _⟩ | ⟨g', cap', hv, hs⟩
  · cases hv
  · injection hv with h1 h2 h3
    injection h1 with h1
    injection h1 with h1
    subst h1 h2 h3
    exact ⟨hs, rfl⟩
theorem Rw.has {T n : Nat} {w : World} {lo g m cap : Nat} {C : List (List Value)} (h : Rw T n w lo (.slice (some ⟨g, 0, none⟩) m cap) C) (i : Nat) (hi : i < C.length) (j : Nat) (hj : j < n) : ∃ y, w.cell? ⟨g, i * n + j, none⟩ = some y := by
  have hl := h.2 C[i] (List.getElem_mem _)
  exact ⟨C[i][j]'(by omega), by rw [h.at.1.cell i hi j hj]; exact List.getElem?_eq_getElem _⟩
theorem Rw.own {T n : Nat} {w : World} {lo : Nat} {v : Value} {C : List (List Value)} (h : Rw T n w lo v C) : ∀ g, v.ownBlock = some g → lo ≤ g ∧ g < w.heap.size := by
  intro g hg
  rcases h.cases with ⟨rfl, _⟩ | ⟨g', cap, rfl, hs⟩
  · simp [Value.ownBlock] at hg
  · simp only [Value.ownBlock, Option.some.injEq] at hg
    subst hg; exact ⟨hs.lo, hs.lt⟩
/-- the block of a row has the row's type -/
theorem row_type {w : World} {lo T k n : Nat} {v : Value} {xs : List Value} (h : w.ownsRow lo T k v n xs) {g : Nat} (hg : v.ownBlock = some g) : ∃ cur f, w.heap[g]? = some (.cells cur T f) := by
  rcases h.2 with ⟨hv, _⟩ | ⟨g', cap, cur, hv, _, hb, _⟩
  · rw [hv] at hg; cases hg
  · rw [hv] at hg; cases hg; exact ⟨_, _, hb⟩
theorem row_apart {w : World} {lo lo' T T' k k' n n' : Nat} {v v' : Value} {xs xs' : List Value} (h : w.ownsRow lo T k v n xs) (h' : w.ownsRow lo' T' k' v' n' xs') (hT : T ≠ T') : ∀ a b, v.ownBlock = some a → v'.ownBlock = some b → a ≠ b := by
  rintro a b ha hb rfl
  obtain ⟨c1, f1, e1⟩ := row_type h ha
  obtain ⟨c2, f2, e2⟩ := row_type h' hb
  rw [e1] at e2
  injection e2 with e2
  injection e2 with _ e2
  exact hT e2
theorem row_belowB {w w' : World} {lo T k n B : Nat} {v : Value} {xs : List Value} (h : w.ownsRow lo T k v n xs) (hb : Below B w w') (hB : ∀ g, v.ownBlock = some g → g < B) : w'.ownsRow lo T k v n xs := by
  refine ⟨h.1, ?_⟩
  rcases h.2 with h0 | ⟨g, cap, cur, hv, hl, hg, rest⟩
  · exact .inl h0
  · refine .inr ⟨g, cap, cur, hv, hl, ?_, rest⟩
    rw [hb.block g (hB g (by rw [hv]; rfl))]; exact hg
theorem row_lt {w : World} {lo T k n : Nat} {v : Value} {xs : List Value} (h : w.ownsRow lo T k v n xs) : ∀ g, v.ownBlock = some g → lo ≤ g ∧ g < w.heap.size := by
  intro g hg
  rcases h.2 with ⟨hv, _⟩ | ⟨g', cap, cur, hv, hl, hb, _⟩
  · rw [hv] at hg; cases hg
  · rw [hv] at hg; cases hg; exact ⟨hl, (Array.getElem?_eq_some_iff.1 hb).1⟩
theorem row_le {w : World} {lo lo' T k n : Nat} {v : Value} {xs : List Value} (h : w.ownsRow lo T k v n xs) (hl : lo' ≤ lo) : w.ownsRow lo' T k v n xs := by
  refine ⟨h.1, ?_⟩
  rcases h.2 with h0 | ⟨g, cap, cur, hv, hl2, rest⟩
  · exact .inl h0
  · exact .inr ⟨g, cap, cur, hv, Nat.le_trans hl hl2, rest⟩
theorem row_setR {w : World} {lo T k g n cap i : Nat} {L : List Value} (h : w.ownsRow lo T k (.slice (some ⟨g, 0, none⟩) n cap) n L) (x : Value) :
    (w.setCell ⟨g, i, none⟩ x).ownsRow lo T k (.slice (some ⟨g, 0, none⟩) n cap) n (L.set i x) := by
  refine ⟨by simpa using h.1, ?_⟩
  rcases h.2 with ⟨hv, _⟩ | ⟨g', cap', cur, hv, hl, hg, hn, hc, hs, ht⟩
  · cases hv
  · injection hv with h1 h2 h3
    injection h1 with h1
    injection h1 with h1
    subst h1 h3
    refine .inr ⟨g, cap, cur.setIfInBounds i x, rfl, hl, Go.Joins.block_setCell hg _, hn, hc, by simpa using hs, ?_⟩
    rw [← ht]
    simp [List.take_set]
theorem row_set_neR {w : World} {lo T k n : Nat} {v : Value} {xs : List Value} (h : w.ownsRow lo T k v n xs) {a : Addr} (hne : ∀ g, v.ownBlock = some g → g ≠ a.block) (u : Value) : (w.setCell a u).ownsRow lo T k v n xs := by
  refine ⟨h.1, ?_⟩
  rcases h.2 with h0 | ⟨g, cap, cur, hv, hl, hg, rest⟩
  · exact .inl h0
  · refine .inr ⟨g, cap, cur, hv, hl, ?_, rest⟩
    rw [Below.heap_setCell w a u g (hne g (by rw [hv]; rfl))]; exact hg
theorem Rw.below {T n : Nat} {w w' : World} {lo B : Nat} {v : Value} {C : List (List Value)} (h : Rw T n w lo v C) (hb : Below B w w') (hB : w.heap.size ≤ B) : Rw T n w' lo v C :=
  ⟨row_belowB h.1 hb fun g hg => Nat.lt_of_lt_of_le (row_lt h.1 g hg).2 hB, h.2⟩
theorem Rw.off {T n : Nat} {vs : List Value} {w w' : World} {lo : Nat} {v : Value} {C : List (List Value)} (h : Rw T n w lo v C) (ho : OffL vs w w') (hne : ∀ g, v.ownBlock = some g → ∀ u ∈ vs, u.ownBlock ≠ some g) : Rw T n w' lo v C := ⟨ho.row h.1 hne, h.2⟩
theorem Rw.le {T n : Nat} {w : World} {lo lo' : Nat} {v : Value} {C : List (List Value)} (h : Rw T n w lo v C) (hl : lo' ≤ lo) : Rw T n w lo' v C := ⟨row_le h.1 hl, h.2⟩
theorem Rw.set {T n : Nat} {w : World} {lo g m cap i j : Nat} {C : List (List Value)} (h : Rw T n w lo (.slice (some ⟨g, 0, none⟩) m cap) C) (hi : i < C.length) (hj : j < n) (x : Value) :
    Rw T n (w.setCell ⟨g, i * n + j, none⟩ x) lo (.slice (some ⟨g, 0, none⟩) m cap) (C.set i (C[i].set j x)) := by
  obtain ⟨_, rfl⟩ := h.at
  refine ⟨?_, fun c hc => ?_⟩
  · rw [List.length_set, ← flat_set h.2 i j hi x hj]
    exact row_setR h.1 x
  · rcases List.mem_or_eq_of_mem_set hc with hc | rfl
    · exact h.2 c hc
    · rw [List.length_set]; exact h.2 _ (List.getElem_mem _)
theorem Rw.set_ne {T n : Nat} {w : World} {lo : Nat} {v : Value} {C : List (List Value)} (h : Rw T n w lo v C) {a : Addr} (hne : ∀ g, v.ownBlock = some g → g ≠ a.block) (u : Value) : Rw T n (w.setCell a u) lo v C := ⟨row_set_neR h.1 hne u, h.2⟩
theorem Rw.set_below {T n : Nat} {w : World} {lo : Nat} {v : Value} {C : List (List Value)} (h : Rw T n w lo v C) {a : Addr} (ha : a.block < lo) (u : Value) : Rw T n (w.setCell a u) lo v C :=
  h.set_ne (fun g hg => by have := (h.own g hg).1; omega) u
theorem made_flat {z : Array Value} {m n : Nat} (hz : z.size = m) (hm : 0 < m) : (madeCells z (n * m)).toList = (List.replicate n z.toList).flatten := by
  have hall : ∀ c ∈ List.replicate n z.toList, c.length = m := fun c hc => by rw [List.eq_of_mem_replicate hc]; simpa using hz
  refine List.ext_getElem? fun i => ?_
  by_cases hi : i < n * m
  · have hq : i / m < n := (Nat.div_lt_iff_lt_mul hm).2 hi
    have hr : i % m < m := Nat.mod_lt _ hm
    have e : i / m * m + i % m = i := Nat.div_add_mod' i m
    have h2 := flat_get hall (i / m) (i % m) (by simpa using hq) hr
    rw [e] at h2
    rw [h2, List.getElem_replicate, Array.getElem?_toList, Array.getElem?_eq_getElem (by rw [size_madeCells]; exact hi)]
    unfold madeCells
    rw [Array.getElem_map, Array.getElem_range, hz, Array.getElem?_toList, Array.getElem?_eq_getElem (by omega)]
    rw [getElem!_pos z (i % m) (by omega)]
  · rw [List.getElem?_eq_none (by rw [Array.length_toList, size_madeCells]; omega), List.getElem?_eq_none (by rw [flat_len hall]; simp; omega)]
theorem lk_newW (W : World) (o : Obj) (k : Nat) (hk : k = W.heap.size) : (W.alloc o).heap[k]? = some o := by subst hk; exact (MapKept.heap_alloc W o).1
theorem Rw.made (T n : Nat) (w : World) (k : Nat) (z : Array Value) (hz : z.size = n) (hn : 0 < n) (hk : k ≤ maxLen) : Rw T n (w.alloc (.cells (madeCells z (k * n)) T)) w.heap.size (.slice (some ⟨w.heap.size, 0, none⟩) k k) (List.replicate k z.toList) := by
  have hall : ∀ c ∈ List.replicate k z.toList, c.length = n := fun c hc => by rw [List.eq_of_mem_replicate hc]; simpa using hz
  refine ⟨⟨by rw [flat_len hall], .inr ⟨w.heap.size, k, madeCells z (k * n), by simp, Nat.le_refl _, (MapKept.heap_alloc w _).1, by simp, hk, size_madeCells _ _, ?_⟩⟩, hall⟩
  rw [made_flat hz hn]
  refine List.take_of_length_le ?_
  rw [flat_len hall]; exact Nat.le_refl _
theorem Rw.snoc {T n : Nat} {w : World} {lo : Nat} {v : Value} {C : List (List Value)} {c : List Value} (hn : ∀ x ∈ C, x.length = n) (hc : c.length = n) (h : w.ownsRow lo T n v (C.length + 1) (C.flatten ++ c)) : Rw T n w lo v (C ++ [c]) := by
  refine ⟨by simpa using h, fun x hx => ?_⟩
  rcases List.mem_append.1 hx with hx | hx
  · exact hn x hx
  · simp at hx; subst hx; exact hc
end Go.Proofs.YtngcjlghjidnjaaGreatDoor
namespace Go.Proofs.YtngcjlghjidnjaaGreatDoor
open Go.ChangeShapes Go.WideShapes Go.ChangeAt Go.RowKit

/-- a session's cells -/
def c9 (s : Sn) (u1 u2 u3 : Value) : Array Value := #[.int .i64 s.ph, .string s.buf, .string s.he, .string s.fr, .string s.bo, u1, .int .i64 (s.nx : Int), u2, u3]
def sn0 : Sn := ⟨0, ⟨#[]⟩, ⟨#[]⟩, ⟨#[]⟩, ⟨#[]⟩, [], 0, [], []⟩
def SB (b : Nat) (s : Sn) (u1 u2 u3 : Value) (w : World) : Prop := Blk b (c9 s u1 u2 u3) w
/-- a session's rows -/
def SV (w : World) (lo : Nat) (u1 u2 u3 : Value) (s : Sn) : Prop := Strs w lo u1 s.R ∧ Bls w lo u2 s.T ∧ Vds w lo u3 s.V
theorem SV.below {w w' : World} {lo B : Nat} {u1 u2 u3 : Value} {s : Sn} (h : SV w lo u1 u2 u3 s) (hb : Below B w w') (hB : w.heap.size ≤ B) : SV w' lo u1 u2 u3 s :=
  ⟨strs_below h.1 hb hB, bls_below h.2.1 hb hB, vds_below h.2.2 hb hB⟩
theorem SV.le {w : World} {lo lo' : Nat} {u1 u2 u3 : Value} {s : Sn} (h : SV w lo u1 u2 u3 s) (hl : lo' ≤ lo) : SV w lo' u1 u2 u3 s :=
  ⟨row_le h.1 hl, row_le h.2.1 hl, row_le h.2.2 hl⟩
theorem SV.set {w : World} {lo : Nat} {u1 u2 u3 : Value} {s : Sn} (h : SV w lo u1 u2 u3 s) {a : Addr} (ha : a.block < lo) (u : Value) : SV (w.setCell a u) lo u1 u2 u3 s :=
  ⟨row_set_below h.1 ha u, row_set_below h.2.1 ha u, row_set_below h.2.2 ha u⟩
theorem SV.set_ne {w : World} {lo : Nat} {u1 u2 u3 : Value} {s : Sn} (h : SV w lo u1 u2 u3 s) {a : Addr} (h1 : ∀ g, u1.ownBlock = some g → g ≠ a.block) (h2 : ∀ g, u2.ownBlock = some g → g ≠ a.block) (h3 : ∀ g, u3.ownBlock = some g → g ≠ a.block) (u : Value) : SV (w.setCell a u) lo u1 u2 u3 s :=
  ⟨row_set_neR h.1 h1 u, row_set_neR h.2.1 h2 u, row_set_neR h.2.2 h3 u⟩
theorem SV.own {w : World} {lo : Nat} {u1 u2 u3 : Value} {s : Sn} (h : SV w lo u1 u2 u3 s) : (∀ g, u1.ownBlock = some g → lo ≤ g ∧ g < w.heap.size) ∧ (∀ g, u2.ownBlock = some g → lo ≤ g ∧ g < w.heap.size) ∧ ∀ g, u3.ownBlock = some g → lo ≤ g ∧ g < w.heap.size :=
  ⟨row_lt h.1, row_lt h.2.1, row_lt h.2.2⟩
theorem SV.apart {w : World} {lo : Nat} {u1 u2 u3 : Value} {s : Sn} (h : SV w lo u1 u2 u3 s) : Apart3 u1 u2 u3 :=
  ⟨row_apart h.1 h.2.1 (by decide), row_apart h.1 h.2.2 (by decide), row_apart h.2.1 h.2.2 (by decide)⟩
/-- rows with elements -/
theorem SV.someW {w : World} {lo : Nat} {u1 u2 u3 : Value} {s : Sn} (h : SV w lo u1 u2 u3 s) (hk : s.Wf) : ∃ g1 g2 g3 k1 k2 k3, u1 = .slice (some ⟨g1, 0, none⟩) s.R.length k1 ∧ u2 = .slice (some ⟨g2, 0, none⟩) s.R.length k2 ∧ u3 = .slice (some ⟨g3, 0, none⟩) s.R.length k3 := by
  have h0 := hk.r1
  have ht := hk.t
  have hv := hk.v
  rcases h.1.cases with ⟨_, e⟩ | ⟨g1, k1, e1, _⟩
  · rw [e] at h0; simp at h0
  rcases h.2.1.cases with ⟨_, e⟩ | ⟨g2, k2, e2, _⟩
  · rw [e] at ht; simp at ht; omega
  rcases h.2.2.cases with ⟨_, e⟩ | ⟨g3, k3, e3, _⟩
  · rw [e] at hv; simp at hv; omega
  rw [ht] at e2
  rw [hv] at e3
  exact ⟨g1, g2, g3, k1, k2, k3, e1, e2, e3⟩
theorem SV.some {w : World} {lo : Nat} {u1 u2 u3 : Value} {s : Sn} (h : SV w lo u1 u2 u3 s) (hk : s.Ok) : ∃ g1 g2 g3 k1 k2 k3, u1 = .slice (some ⟨g1, 0, none⟩) s.R.length k1 ∧ u2 = .slice (some ⟨g2, 0, none⟩) s.R.length k2 ∧ u3 = .slice (some ⟨g3, 0, none⟩) s.R.length k3 := h.someW hk.wf
theorem SB.cells {b : Nat} {s : Sn} {u1 u2 u3 : Value} {w : World} (h : SB b s u1 u2 u3 w) : w.cell? ⟨b, 0, none⟩ = some (.int .i64 s.ph) ∧ w.cell? ⟨b, 1, none⟩ = some (.string s.buf) ∧ w.cell? ⟨b, 2, none⟩ = some (.string s.he) ∧ w.cell? ⟨b, 3, none⟩ = some (.string s.fr) ∧ w.cell? ⟨b, 4, none⟩ = some (.string s.bo) ∧ w.cell? ⟨b, 5, none⟩ = some u1 ∧ w.cell? ⟨b, 6, none⟩ = some (.int .i64 (s.nx : Int)) ∧ w.cell? ⟨b, 7, none⟩ = some u2 ∧ w.cell? ⟨b, 8, none⟩ = some u3 :=
  ⟨h.cell 0, h.cell 1, h.cell 2, h.cell 3, h.cell 4, h.cell 5, h.cell 6, h.cell 7, h.cell 8⟩
theorem SB.frees {b : Nat} {s : Sn} {u1 u2 u3 : Value} {w : World} (h : SB b s u1 u2 u3 w) : w.frozen? ⟨b, 0, none⟩ = false ∧ w.frozen? ⟨b, 1, none⟩ = false ∧ w.frozen? ⟨b, 2, none⟩ = false ∧ w.frozen? ⟨b, 3, none⟩ = false ∧ w.frozen? ⟨b, 4, none⟩ = false ∧ w.frozen? ⟨b, 5, none⟩ = false ∧ w.frozen? ⟨b, 6, none⟩ = false ∧ w.frozen? ⟨b, 7, none⟩ = false ∧ w.frozen? ⟨b, 8, none⟩ = false :=
  ⟨h.free 0, h.free 1, h.free 2, h.free 3, h.free 4, h.free 5, h.free 6, h.free 7, h.free 8⟩
theorem SB.zero {b : Nat} {w : World} (h : SB b sn0 (.slice none 0 0) (.slice none 0 0) (.slice none 0 0) w) : w.cell? ⟨b, 0, none⟩ = some (.int .i64 0) ∧ w.cell? ⟨b, 1, none⟩ = some (.string ⟨#[]⟩) ∧ w.cell? ⟨b, 2, none⟩ = some (.string ⟨#[]⟩) ∧ w.cell? ⟨b, 3, none⟩ = some (.string ⟨#[]⟩) ∧ w.cell? ⟨b, 4, none⟩ = some (.string ⟨#[]⟩) ∧ w.cell? ⟨b, 5, none⟩ = some (.slice none 0 0) ∧ w.cell? ⟨b, 6, none⟩ = some (.int .i64 0) ∧ w.cell? ⟨b, 7, none⟩ = some (.slice none 0 0) ∧ w.cell? ⟨b, 8, none⟩ = some (.slice none 0 0) := h.cells
theorem SB.below {b : Nat} {s : Sn} {u1 u2 u3 : Value} {w w1 : World} (h : SB b s u1 u2 u3 w) (hb : Below w.heap.size w w1) : SB b s u1 u2 u3 w1 := Blk.below h hb
theorem blk2 (w : World) (X Y : Array Value) (S T : TypeId) : Blk w.heap.size X ((w.alloc (.cells X S)).alloc (.cells Y T)) ∧ Blk (w.heap.size + 1) Y ((w.alloc (.cells X S)).alloc (.cells Y T)) :=
  ⟨(Blk.new w X S).below (below1 _ _), by have := Blk.new (w.alloc (.cells X S)) Y T; simpa using this⟩
theorem blk3 (w : World) (X Y Z : Array Value) (S T U : TypeId) : Blk w.heap.size X (((w.alloc (.cells X S)).alloc (.cells Y T)).alloc (.cells Z U)) ∧ Blk (w.heap.size + 1) Y (((w.alloc (.cells X S)).alloc (.cells Y T)).alloc (.cells Z U)) ∧ Blk (w.heap.size + 1 + 1) Z (((w.alloc (.cells X S)).alloc (.cells Y T)).alloc (.cells Z U)) :=
  ⟨(blk2 w X Y S T).1.below (below1 _ _), (blk2 w X Y S T).2.below (below1 _ _), by have := Blk.new ((w.alloc (.cells X S)).alloc (.cells Y T)) Z U; simpa using this⟩
/-- a row's cells -/
theorem row_news {w : World} {lo T k n cap g : Nat} {xs : List Value} (h : w.ownsRow lo T k (.slice (some ⟨g, 0, none⟩) n cap) n xs) : ∀ j u, xs[j]? = some u → w.cell? ((⟨g, 0, none⟩ : Addr).add j) = some u := by
  intro j u hj
  rcases h.2 with ⟨hv, _⟩ | ⟨g', cap', cur, hv, hl, hg, hn, hc, hs, ht⟩
  · cases hv
  · injection hv with h1 h2 h3
    injection h1 with h1
    injection h1 with h1
    subst h1 h3
    have hjl : j < xs.length := (List.getElem?_eq_some_iff.1 hj).1
    rw [h.1] at hjl
    rw [← ht, List.getElem?_take_of_lt hjl] at hj
    rw [Addr.add_lit]
    simp only [World.cell?, hg]
    simpa using hj
theorem vrow_one (V : List Vd) : ∀ u ∈ vrow V, u.oneCell' = true := by
  intro u hu
  unfold vrow at hu
  obtain ⟨c, hc, hu⟩ := List.mem_flatten.1 hu
  obtain ⟨x, _, rfl⟩ := List.mem_map.1 hc
  unfold vcells at hu
  simp at hu
  rcases hu with rfl | rfl | rfl <;> rfl
def nine (w : World) (b : Nat) (x0 x1 x2 x3 x4 x5 x6 x7 x8 : Value) : World := ((((((((w.setCell ⟨b, 0, none⟩ x0).setCell ⟨b, 1, none⟩ x1).setCell ⟨b, 2, none⟩ x2).setCell ⟨b, 3, none⟩ x3).setCell ⟨b, 4, none⟩ x4).setCell ⟨b, 5, none⟩ x5).setCell ⟨b, 6, none⟩ x6).setCell ⟨b, 7, none⟩ x7).setCell ⟨b, 8, none⟩ x8
theorem SV.nine {w : World} {lo : Nat} {u1 u2 u3 : Value} {s : Sn} (h : SV w lo u1 u2 u3 s) {b : Nat} (hb : b < lo) (x0 x1 x2 x3 x4 x5 x6 x7 x8 : Value) : SV (nine w b x0 x1 x2 x3 x4 x5 x6 x7 x8) lo u1 u2 u3 s :=
  ((((((((h.set (a := ⟨b, 0, none⟩) hb x0).set (a := ⟨b, 1, none⟩) hb x1).set (a := ⟨b, 2, none⟩) hb x2).set (a := ⟨b, 3, none⟩) hb x3).set (a := ⟨b, 4, none⟩) hb x4).set (a := ⟨b, 5, none⟩) hb x5).set (a := ⟨b, 6, none⟩) hb x6).set (a := ⟨b, 7, none⟩) hb x7).set (a := ⟨b, 8, none⟩) hb x8
theorem below_nine {w0 w : World} {N b : Nat} (h : Below N w0 w) (hb : N ≤ b) (x0 x1 x2 x3 x4 x5 x6 x7 x8 : Value) : Below N w0 (nine w b x0 x1 x2 x3 x4 x5 x6 x7 x8) :=
  ((((((((h.setCell (p := ⟨b, 0, none⟩) hb x0).setCell (p := ⟨b, 1, none⟩) hb x1).setCell (p := ⟨b, 2, none⟩) hb x2).setCell (p := ⟨b, 3, none⟩) hb x3).setCell (p := ⟨b, 4, none⟩) hb x4).setCell (p := ⟨b, 5, none⟩) hb x5).setCell (p := ⟨b, 6, none⟩) hb x6).setCell (p := ⟨b, 7, none⟩) hb x7).setCell (p := ⟨b, 8, none⟩) hb x8
/-- the end of a call: the answer's cells are written, one block of its own behind them -/
theorem nine_end {w0 w : World} {N lo b : Nat} {u1 u2 u3 : Value} {s : Sn} (h : SV w lo u1 u2 u3 s) (hb : Below N w0 w) (h1 : b < lo) (h2 : N ≤ b) (x0 x1 x2 x3 x4 x5 x6 x7 x8 : Value) (o : Obj) (hN : N ≤ w.heap.size) :
    SV ((nine w b x0 x1 x2 x3 x4 x5 x6 x7 x8).alloc o) N u1 u2 u3 s ∧ Below N w0 ((nine w b x0 x1 x2 x3 x4 x5 x6 x7 x8).alloc o) := by
  have hs := h.nine h1 x0 x1 x2 x3 x4 x5 x6 x7 x8
  have hn := below_nine hb h2 x0 x1 x2 x3 x4 x5 x6 x7 x8
  exact ⟨(hs.below (below1 _ _) (Nat.le_refl _)).le (by omega), hn.alloc (by simp [nine]; exact hN) _⟩
/-- what a call answers with: a session of its own -/
def SP (s : Sn) (w : World) (e : Ending) (w' : World) : Prop :=
  (∃ u1 u2 u3, e = .returned (.agg #[.int .i64 s.ph, .string s.buf, .string s.he, .string s.fr, .string s.bo, u1, .int .i64 (s.nx : Int), u2, u3]) ∧ SV w' w.heap.size u1 u2 u3 s) ∧ Below w.heap.size w w'
/-- a session of its own, and a text -/
def SQ (p : Sn × ByteArray) (w : World) (e : Ending) (w' : World) : Prop :=
  (∃ u1 u2 u3, e = .returned (.tuple #[.agg #[.int .i64 p.1.ph, .string p.1.buf, .string p.1.he, .string p.1.fr, .string p.1.bo, u1, .int .i64 (p.1.nx : Int), u2, u3], .string p.2]) ∧ SV w' w.heap.size u1 u2 u3 p.1) ∧ Below w.heap.size w w'
end Go.Proofs.YtngcjlghjidnjaaGreatDoor
namespace Go.Proofs.YtngcjlghjidnjaaGreatDoor
open Go.ChangeShapes Go.WideShapes Go.ChangeAt Go.RowKit
attribute [local go_sem ↓] Go.wp_at_zero Go.wp_at_succ

theorem row_form {w : World} {lo T k n : Nat} {v : Value} {xs : List Value} (h : w.ownsRow lo T k v n xs) (h1 : 1 ≤ n) : ∃ g c, v = .slice (some ⟨g, 0, none⟩) n c := by
  rcases h.2 with ⟨_, h0⟩ | ⟨g', cap', cur, hv, _⟩
  · omega
  · exact ⟨_, _, hv⟩
set_option maxHeartbeats 4000000 in
set_option maxRecDepth 100000 in
theorem specCopy (s : Sn) (u1 u2 u3 : Value) (lo : Nat) (w : World) (hk : s.Wf) (h : SV w lo u1 u2 u3 s) :
    Calls Tryz.prog 42 #[.agg #[.int .i64 s.ph, .string s.buf, .string s.he, .string s.fr, .string s.bo, u1, .int .i64 (s.nx : Int), u2, u3]] w fun e w' => SP s w e w' := by
  have H : Hid (SV w lo u1 u2 u3 s) := h
  obtain ⟨g1, g2, g3, k1, k2, k3, rfl, rfl, rfl⟩ := h.someW hk
  have hR := hk.r20
  have hR1 := hk.r1
  have HT : Hid (s.T.length = s.R.length) := hk.t
  have HV : Hid (s.V.length = s.R.length) := hk.v
  clear h hk
  obtain ⟨i0, hinf, hx0, hx1, hx2⟩ := info_parts infoStr
  obtain ⟨j0, hjnf, hy0, hy1, hy2⟩ := info_parts infoBool
  obtain ⟨l0, hlnf, hz0, hz1, hz2⟩ := info_parts infoVd
  go_enter Tryz.func42, Tryz.ntmps42
  go_upto_region 5 with fail
  generalize hW : World.alloc _ _ = W0
  have HA0 : Hid (SB w.heap.size s (.slice (some ⟨g1, 0, none⟩) s.R.length k1) (.slice (some ⟨g2, 0, none⟩) s.R.length k2) (.slice (some ⟨g3, 0, none⟩) s.R.length k3) W0) := by show SB _ _ _ _ _ _; rw [← hW]; exact (blk3 w _ _ _ _ _ _).1
  have HZ0 : Hid (SB (w.heap.size + 1) sn0 (.slice none 0 0) (.slice none 0 0) (.slice none 0 0) W0) := by show SB _ _ _ _ _ _; rw [← hW]; exact (blk3 w _ _ _ _ _ _).2.1
  have HO0 : Hid (SB (w.heap.size + 1 + 1) s (.slice none 0 0) (.slice none 0 0) (.slice none 0 0) W0) := by show SB _ _ _ _ _ _; rw [← hW]; exact (blk3 w _ _ _ _ _ _).2.2
  have b0 : Below w.heap.size w W0 := by rw [← hW]; exact below3 _ _ _ _
  have z0 : w.heap.size + 3 ≤ W0.heap.size := by rw [← hW]; simp
  clear hW
  have N0 : Hid (∀ j u, (s.R.map Value.string)[j]? = some u → W0.cell? ((⟨g1, 0, none⟩ : Addr).add j) = some u) := by
    have H1 : Hid (SV W0 lo (.slice (some ⟨g1, 0, none⟩) s.R.length k1) (.slice (some ⟨g2, 0, none⟩) s.R.length k2) (.slice (some ⟨g3, 0, none⟩) s.R.length k3) s) := H.out.below b0 (Nat.le_refl _)
    have this : W0.ownsRow lo 9 1 (.slice (some ⟨g1, 0, none⟩) s.R.length k1) _ (s.R.map Value.string) := H1.out.1
    exact row_news this
  obtain ⟨x0, x1, x2, x3, x4, x5, x6, x7, x8⟩ := HA0.out.cells
  obtain ⟨t0, t1, t2, t3, t4, t5, t6, t7, t8⟩ := HO0.out.cells
  obtain ⟨tf0, tf1, tf2, tf3, tf4, tf5, tf6, tf7, tf8⟩ := HO0.out.frees
  go_wp2_with (at_builtin; refine wpList_append_own _ rfl _ _ 23 rfl W0.heap.size 9 i0 (.string ⟨#[]⟩) 1 16 Tryz.underlying23 hinf hx0 hx1 hx2 rfl (by decide) (.slice none 0 0) 0 [] rfl ⟨by rfl, .inl ⟨rfl, rfl⟩⟩ ⟨g1, 0, none⟩ s.R.length k1 (s.R.map Value.string) rfl ?f1 N0.out ?f3 ?f4 ?f5 (Nat.le_refl _) ?_)
  case f1 => have := HT.out; have := HV.out; simp
  case f3 => intro u hu; obtain ⟨y, _, rfl⟩ := List.mem_map.1 hu; rfl
  case f4 => unfold maxLen; omega
  case f5 => omega
  intro v1 w1 hown hgrow _
  have hown : w1.ownsRow W0.heap.size 9 1 v1 s.R.length (s.R.map Value.string) := by simpa using hown
  obtain ⟨p1, q1, hv⟩ := row_form hown hR1
  subst hv
  have hb : Below W0.heap.size W0 w1 := (Below.refl W0.heap.size W0).grown hgrow (Nat.le_refl _) (by intro k hk; cases hk)
  have zz0 := hb.size
  have HA0' : Hid (SB w.heap.size s (.slice (some ⟨g1, 0, none⟩) s.R.length k1) (.slice (some ⟨g2, 0, none⟩) s.R.length k2) (.slice (some ⟨g3, 0, none⟩) s.R.length k3) w1) := SB.below HA0.out hb
  have HZ0' : Hid (SB (w.heap.size + 1) sn0 (.slice none 0 0) (.slice none 0 0) (.slice none 0 0) w1) := SB.below HZ0.out hb
  have HO0' : Hid (SB (w.heap.size + 1 + 1) s (.slice none 0 0) (.slice none 0 0) (.slice none 0 0) w1) := SB.below HO0.out hb
  have b0' : Below w.heap.size w w1 := b0.trans (hb.mono (by omega))
  have R0 : Hid (w1.ownsRow W0.heap.size 9 1 (.slice (some ⟨p1, 0, none⟩) s.R.length q1) s.R.length (s.R.map Value.string)) := hown
  clear hown hgrow hb N0 HA0 HZ0 HO0 x0 x1 x2 x3 x4 x5 x6 x7 x8 t0 t1 t2 t3 t4 t5 t6 t7 t8 tf0 tf1 tf2 tf3 tf4 tf5 tf6 tf7 tf8
  obtain ⟨t0, t1, t2, t3, t4, t5, t6, t7, t8⟩ := HO0'.out.cells
  obtain ⟨tf0, tf1, tf2, tf3, tf4, tf5, tf6, tf7, tf8⟩ := HO0'.out.frees
  go_upto_region 6 with fail
  generalize hW : World.setCell w1 _ _ = W1
  have HA1 : Hid (SB w.heap.size s (.slice (some ⟨g1, 0, none⟩) s.R.length k1) (.slice (some ⟨g2, 0, none⟩) s.R.length k2) (.slice (some ⟨g3, 0, none⟩) s.R.length k3) W1) := by show SB _ _ _ _ _ _; rw [← hW]; exact Blk.other HA0'.out (by omega)
  have HZ1 : Hid (SB (w.heap.size + 1) sn0 (.slice none 0 0) (.slice none 0 0) (.slice none 0 0) W1) := by show SB _ _ _ _ _ _; rw [← hW]; exact Blk.other HZ0'.out (by omega)
  have HO1 : Hid (SB (w.heap.size + 1 + 1) s (.slice (some ⟨p1, 0, none⟩) s.R.length q1) (.slice none 0 0) (.slice none 0 0) W1) := by show SB _ _ _ _ _ _; rw [← hW]; exact Blk.set HO0'.out (i := 5) (by simp [c9])
  have b1 : Below w.heap.size w W1 := by rw [← hW]; exact b0'.setCell (by dsimp only; omega) _
  have z1 : w1.heap.size ≤ W1.heap.size := by rw [← hW]; simp
  have R0y : Hid (W1.ownsRow W0.heap.size 9 1 (.slice (some ⟨p1, 0, none⟩) s.R.length q1) s.R.length (s.R.map Value.string)) := by show World.ownsRow _ _ _ _ _ _ _; rw [← hW]; exact row_set_below R0.out (by dsimp only; omega) _
  clear hW HA0' HZ0' HO0' b0 b0' t0 t1 t2 t3 t4 t5 t6 t7 t8 tf0 tf1 tf2 tf3 tf4 tf5 tf6 tf7 tf8 R0
  have N1 : Hid (∀ j u, (s.T.map Value.bool)[j]? = some u → W1.cell? ((⟨g2, 0, none⟩ : Addr).add j) = some u) := by
    have H1 : Hid (SV W1 lo (.slice (some ⟨g1, 0, none⟩) s.R.length k1) (.slice (some ⟨g2, 0, none⟩) s.R.length k2) (.slice (some ⟨g3, 0, none⟩) s.R.length k3) s) := H.out.below b1 (Nat.le_refl _)
    have this : W1.ownsRow lo 4 1 (.slice (some ⟨g2, 0, none⟩) s.R.length k2) _ (s.T.map Value.bool) := H1.out.2.1
    rw [HT.out] at this; exact row_news this
  obtain ⟨x0, x1, x2, x3, x4, x5, x6, x7, x8⟩ := HA1.out.cells
  obtain ⟨t0, t1, t2, t3, t4, t5, t6, t7, t8⟩ := HO1.out.cells
  obtain ⟨tf0, tf1, tf2, tf3, tf4, tf5, tf6, tf7, tf8⟩ := HO1.out.frees
  go_wp2_with (at_builtin; refine wpList_append_own _ rfl _ _ 26 rfl W1.heap.size 4 j0 (.bool false) 1 1 Tryz.underlying26 hjnf hy0 hy1 hy2 rfl (by decide) (.slice none 0 0) 0 [] rfl ⟨by rfl, .inl ⟨rfl, rfl⟩⟩ ⟨g2, 0, none⟩ s.R.length k2 (s.T.map Value.bool) rfl ?f1 N1.out ?f3 ?f4 ?f5 (Nat.le_refl _) ?_)
  case f1 => have := HT.out; have := HV.out; simp; omega
  case f3 => intro u hu; obtain ⟨y, _, rfl⟩ := List.mem_map.1 hu; rfl
  case f4 => unfold maxLen; omega
  case f5 => omega
  intro v2 w2 hown hgrow _
  have hown : w2.ownsRow W1.heap.size 4 1 v2 s.R.length (s.T.map Value.bool) := by simpa using hown
  obtain ⟨p2, q2, hv⟩ := row_form hown hR1
  subst hv
  have hb : Below W1.heap.size W1 w2 := (Below.refl W1.heap.size W1).grown hgrow (Nat.le_refl _) (by intro k hk; cases hk)
  have zz1 := hb.size
  have HA1' : Hid (SB w.heap.size s (.slice (some ⟨g1, 0, none⟩) s.R.length k1) (.slice (some ⟨g2, 0, none⟩) s.R.length k2) (.slice (some ⟨g3, 0, none⟩) s.R.length k3) w2) := SB.below HA1.out hb
  have HZ1' : Hid (SB (w.heap.size + 1) sn0 (.slice none 0 0) (.slice none 0 0) (.slice none 0 0) w2) := SB.below HZ1.out hb
  have HO1' : Hid (SB (w.heap.size + 1 + 1) s (.slice (some ⟨p1, 0, none⟩) s.R.length q1) (.slice none 0 0) (.slice none 0 0) w2) := SB.below HO1.out hb
  have b1' : Below w.heap.size w w2 := b1.trans (hb.mono (by omega))
  have R1 : Hid (w2.ownsRow W1.heap.size 4 1 (.slice (some ⟨p2, 0, none⟩) s.R.length q2) s.R.length (s.T.map Value.bool)) := hown
  have R0x : Hid (w2.ownsRow W0.heap.size 9 1 (.slice (some ⟨p1, 0, none⟩) s.R.length q1) s.R.length (s.R.map Value.string)) := row_belowB R0y.out hb (fun g hg => (row_lt R0y.out g hg).2)
  clear hown hgrow hb N1 HA1 HZ1 HO1 x0 x1 x2 x3 x4 x5 x6 x7 x8 t0 t1 t2 t3 t4 t5 t6 t7 t8 tf0 tf1 tf2 tf3 tf4 tf5 tf6 tf7 tf8
  obtain ⟨t0, t1, t2, t3, t4, t5, t6, t7, t8⟩ := HO1'.out.cells
  obtain ⟨tf0, tf1, tf2, tf3, tf4, tf5, tf6, tf7, tf8⟩ := HO1'.out.frees
  go_upto_region 7 with fail
  generalize hW : World.setCell w2 _ _ = W2
  have HA2 : Hid (SB w.heap.size s (.slice (some ⟨g1, 0, none⟩) s.R.length k1) (.slice (some ⟨g2, 0, none⟩) s.R.length k2) (.slice (some ⟨g3, 0, none⟩) s.R.length k3) W2) := by show SB _ _ _ _ _ _; rw [← hW]; exact Blk.other HA1'.out (by omega)
  have HZ2 : Hid (SB (w.heap.size + 1) sn0 (.slice none 0 0) (.slice none 0 0) (.slice none 0 0) W2) := by show SB _ _ _ _ _ _; rw [← hW]; exact Blk.other HZ1'.out (by omega)
  have HO2 : Hid (SB (w.heap.size + 1 + 1) s (.slice (some ⟨p1, 0, none⟩) s.R.length q1) (.slice (some ⟨p2, 0, none⟩) s.R.length q2) (.slice none 0 0) W2) := by show SB _ _ _ _ _ _; rw [← hW]; exact Blk.set HO1'.out (i := 7) (by simp [c9])
  have b2 : Below w.heap.size w W2 := by rw [← hW]; exact b1'.setCell (by dsimp only; omega) _
  have z2 : w2.heap.size ≤ W2.heap.size := by rw [← hW]; simp
  have R0yy : Hid (W2.ownsRow W0.heap.size 9 1 (.slice (some ⟨p1, 0, none⟩) s.R.length q1) s.R.length (s.R.map Value.string)) := by show World.ownsRow _ _ _ _ _ _ _; rw [← hW]; exact row_set_below R0x.out (by dsimp only; omega) _
  have R1y : Hid (W2.ownsRow W1.heap.size 4 1 (.slice (some ⟨p2, 0, none⟩) s.R.length q2) s.R.length (s.T.map Value.bool)) := by show World.ownsRow _ _ _ _ _ _ _; rw [← hW]; exact row_set_below R1.out (by dsimp only; omega) _
  clear hW HA1' HZ1' HO1' b1 b1' t0 t1 t2 t3 t4 t5 t6 t7 t8 tf0 tf1 tf2 tf3 tf4 tf5 tf6 tf7 tf8 R0x R1 R0y
  have N2 : Hid (∀ j u, (vrow s.V)[j]? = some u → W2.cell? ((⟨g3, 0, none⟩ : Addr).add j) = some u) := by
    have H1 : Hid (SV W2 lo (.slice (some ⟨g1, 0, none⟩) s.R.length k1) (.slice (some ⟨g2, 0, none⟩) s.R.length k2) (.slice (some ⟨g3, 0, none⟩) s.R.length k3) s) := H.out.below b2 (Nat.le_refl _)
    have this : W2.ownsRow lo 37 3 (.slice (some ⟨g3, 0, none⟩) s.R.length k3) _ (vrow s.V) := H1.out.2.2
    rw [HV.out] at this; exact row_news this
  obtain ⟨x0, x1, x2, x3, x4, x5, x6, x7, x8⟩ := HA2.out.cells
  obtain ⟨t0, t1, t2, t3, t4, t5, t6, t7, t8⟩ := HO2.out.cells
  obtain ⟨tf0, tf1, tf2, tf3, tf4, tf5, tf6, tf7, tf8⟩ := HO2.out.frees
  go_wp2_with (at_builtin; refine wpList_append_own _ rfl _ _ 27 rfl W2.heap.size 37 l0 (.agg #[.int .i64 0, .int .i64 0, .string ⟨#[]⟩]) 3 32 Tryz.underlying27 hlnf hz0 hz1 hz2 rfl (by decide) (.slice none 0 0) 0 [] rfl ⟨by rfl, .inl ⟨rfl, rfl⟩⟩ ⟨g3, 0, none⟩ s.R.length k3 (vrow s.V) rfl ?f1 N2.out ?f3 ?f4 ?f5 (Nat.le_refl _) ?_)
  case f1 => have := HT.out; have := HV.out; rw [vrow_len]; omega
  case f3 => exact vrow_one _
  case f4 => unfold maxLen; omega
  case f5 => omega
  intro v3 w3 hown hgrow _
  have hown : w3.ownsRow W2.heap.size 37 3 v3 s.R.length (vrow s.V) := by simpa using hown
  obtain ⟨p3, q3, hv⟩ := row_form hown hR1
  subst hv
  have hb : Below W2.heap.size W2 w3 := (Below.refl W2.heap.size W2).grown hgrow (Nat.le_refl _) (by intro k hk; cases hk)
  have zz2 := hb.size
  have HA2' : Hid (SB w.heap.size s (.slice (some ⟨g1, 0, none⟩) s.R.length k1) (.slice (some ⟨g2, 0, none⟩) s.R.length k2) (.slice (some ⟨g3, 0, none⟩) s.R.length k3) w3) := SB.below HA2.out hb
  have HZ2' : Hid (SB (w.heap.size + 1) sn0 (.slice none 0 0) (.slice none 0 0) (.slice none 0 0) w3) := SB.below HZ2.out hb
  have HO2' : Hid (SB (w.heap.size + 1 + 1) s (.slice (some ⟨p1, 0, none⟩) s.R.length q1) (.slice (some ⟨p2, 0, none⟩) s.R.length q2) (.slice none 0 0) w3) := SB.below HO2.out hb
  have b2' : Below w.heap.size w w3 := b2.trans (hb.mono (by omega))
  have R2 : Hid (w3.ownsRow W2.heap.size 37 3 (.slice (some ⟨p3, 0, none⟩) s.R.length q3) s.R.length (vrow s.V)) := hown
  have R0xx : Hid (w3.ownsRow W0.heap.size 9 1 (.slice (some ⟨p1, 0, none⟩) s.R.length q1) s.R.length (s.R.map Value.string)) := row_belowB R0yy.out hb (fun g hg => (row_lt R0yy.out g hg).2)
  have R1x : Hid (w3.ownsRow W1.heap.size 4 1 (.slice (some ⟨p2, 0, none⟩) s.R.length q2) s.R.length (s.T.map Value.bool)) := row_belowB R1y.out hb (fun g hg => (row_lt R1y.out g hg).2)
  clear hown hgrow hb N2 HA2 HZ2 HO2 x0 x1 x2 x3 x4 x5 x6 x7 x8 t0 t1 t2 t3 t4 t5 t6 t7 t8 tf0 tf1 tf2 tf3 tf4 tf5 tf6 tf7 tf8
  obtain ⟨t0, t1, t2, t3, t4, t5, t6, t7, t8⟩ := HO2'.out.cells
  obtain ⟨tf0, tf1, tf2, tf3, tf4, tf5, tf6, tf7, tf8⟩ := HO2'.out.frees
  go_upto_region 8 with fail
  generalize hW : World.setCell w3 _ _ = W3
  have HA3 : Hid (SB w.heap.size s (.slice (some ⟨g1, 0, none⟩) s.R.length k1) (.slice (some ⟨g2, 0, none⟩) s.R.length k2) (.slice (some ⟨g3, 0, none⟩) s.R.length k3) W3) := by show SB _ _ _ _ _ _; rw [← hW]; exact Blk.other HA2'.out (by omega)
  have HZ3 : Hid (SB (w.heap.size + 1) sn0 (.slice none 0 0) (.slice none 0 0) (.slice none 0 0) W3) := by show SB _ _ _ _ _ _; rw [← hW]; exact Blk.other HZ2'.out (by omega)
  have HO3 : Hid (SB (w.heap.size + 1 + 1) s (.slice (some ⟨p1, 0, none⟩) s.R.length q1) (.slice (some ⟨p2, 0, none⟩) s.R.length q2) (.slice (some ⟨p3, 0, none⟩) s.R.length q3) W3) := by show SB _ _ _ _ _ _; rw [← hW]; exact Blk.set HO2'.out (i := 8) (by simp [c9])
  have b3 : Below w.heap.size w W3 := by rw [← hW]; exact b2'.setCell (by dsimp only; omega) _
  have z3 : w3.heap.size ≤ W3.heap.size := by rw [← hW]; simp
  have R0yyy : Hid (W3.ownsRow W0.heap.size 9 1 (.slice (some ⟨p1, 0, none⟩) s.R.length q1) s.R.length (s.R.map Value.string)) := by show World.ownsRow _ _ _ _ _ _ _; rw [← hW]; exact row_set_below R0xx.out (by dsimp only; omega) _
  have R1yy : Hid (W3.ownsRow W1.heap.size 4 1 (.slice (some ⟨p2, 0, none⟩) s.R.length q2) s.R.length (s.T.map Value.bool)) := by show World.ownsRow _ _ _ _ _ _ _; rw [← hW]; exact row_set_below R1x.out (by dsimp only; omega) _
  have R2y : Hid (W3.ownsRow W2.heap.size 37 3 (.slice (some ⟨p3, 0, none⟩) s.R.length q3) s.R.length (vrow s.V)) := by show World.ownsRow _ _ _ _ _ _ _; rw [← hW]; exact row_set_below R2.out (by dsimp only; omega) _
  clear hW HA2' HZ2' HO2' b2 b2' t0 t1 t2 t3 t4 t5 t6 t7 t8 tf0 tf1 tf2 tf3 tf4 tf5 tf6 tf7 tf8 R0xx R1x R2 R0yy R1y
  obtain ⟨t0, t1, t2, t3, t4, t5, t6, t7, t8⟩ := HO3.out.cells
  obtain ⟨r0, r1, r2, r3, r4, r5, r6, r7, r8⟩ := HZ3.out.zero
  obtain ⟨rf0, rf1, rf2, rf3, rf4, rf5, rf6, rf7, rf8⟩ := HZ3.out.frees
  go_wp2
  refine bodyPost_ret (v := .agg #[.int .i64 s.ph, .string s.buf, .string s.he, .string s.fr, .string s.bo, (.slice (some ⟨p1, 0, none⟩) s.R.length q1), .int .i64 (s.nx : Int), (.slice (some ⟨p2, 0, none⟩) s.R.length q2), (.slice (some ⟨p3, 0, none⟩) s.R.length q3)]) (by simp [results, Tryz.results42, go_sem, r0, r1, r2, r3, r4, r5, r6, r7, r8]) rfl ?_
  generalize hWf : World.setCell _ ⟨w.heap.size + 1, 8, none⟩ _ = F
  refine ⟨⟨_, _, _, rfl, ⟨?_, ?_, ?_⟩⟩, ?_⟩
  · rw [← hWf]
    refine row_le (lo := W0.heap.size) ?_ (by omega)
    repeat (refine row_set_below ?_ (by dsimp only; omega) _)
    exact R0yyy.out
  · rw [← hWf]
    refine row_le (lo := W1.heap.size) ?_ (by omega)
    repeat (refine row_set_below ?_ (by dsimp only; omega) _)
    have := R1yy.out
    rw [← HT.out] at this
    rw [← HT.out]
    exact this
  · rw [← hWf]
    refine row_le (lo := W2.heap.size) ?_ (by omega)
    repeat (refine row_set_below ?_ (by dsimp only; omega) _)
    have := R2y.out
    rw [← HV.out] at this
    rw [← HV.out]
    exact this
  · rw [← hWf]
    repeat (refine Below.setCell ?_ (by dsimp only; omega) _)
    exact b3
end Go.Proofs.YtngcjlghjidnjaaGreatDoor
