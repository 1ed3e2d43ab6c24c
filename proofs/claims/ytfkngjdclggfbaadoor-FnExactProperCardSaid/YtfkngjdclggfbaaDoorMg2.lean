import Derived.Test.YtfkngjdclggfbaaDoorMg1
import Derived.WalkKit
import Derived.ProofKit
import Derived.WalkLawsBesides
import Derived.Deep.QuietTactic
import Derived.BigQuiet
import Derived.Deep.AppendLies
import Derived.SliceStrings
import Derived.Laws.MakeOwn
namespace Go.Proofs.YtfkngjdclggfbaaDoor
open Go.ChangeShapes Go.WideShapes Go.ChangeAt Go.RowKit

/-- a slice of strings of the call's own, in a block from lo on, that holds L -/
def Strs (w : World) (lo : Nat) (v : Value) (L : List ByteArray) : Prop := w.ownsRow lo 9 1 v L.length (L.map Value.string)

/-- what such a slice is: no element; or the cells of a block -/
structure StrsAt (w : World) (lo g cap : Nat) (L : List ByteArray) : Prop where
  lo : lo ≤ g
  lt : g < w.heap.size
  len : L.length ≤ cap
  cap : cap ≤ maxLen
  cell : ∀ i (hi : i < L.length), w.cell? ⟨g, i, none⟩ = some (.string L[i])
  free : ∀ o, w.frozen? ⟨g, o, none⟩ = false

theorem Strs.cases {w : World} {lo : Nat} {v : Value} {L : List ByteArray} (h : Strs w lo v L) :
    (v = .slice none 0 0 ∧ L = []) ∨ ∃ g cap, v = .slice (some ⟨g, 0, none⟩) L.length cap ∧ StrsAt w lo g cap L := by
  rcases h.2 with ⟨hv, h0⟩ | ⟨g, cap, cur, hv, hb, hg, hn, hc, hs, ht⟩
  · exact .inl ⟨hv, List.eq_nil_of_length_eq_zero h0⟩
  · refine .inr ⟨g, cap, hv, hb, ?_, hn, hc, ?_, ?_⟩
    · exact (Array.getElem?_eq_some_iff.1 hg).1
    · intro i hi
      have e : cur[i]? = some (Value.string L[i]) := by
        have h1 : (cur.toList.take (L.length * 1))[i]? = (L.map Value.string)[i]? := by rw [ht]
        rw [List.getElem?_take_of_lt (by omega), List.getElem?_map, List.getElem?_eq_getElem hi] at h1
        simpa using h1
      simp [World.cell?, hg, e]
    · intro o; simp [World.frozen?, hg]

theorem strs_below {w w' : World} {lo : Nat} {v : Value} {L : List ByteArray} (h : Strs w lo v L) {B : Nat} (hb : Below B w w') (hB : w.heap.size ≤ B) : Strs w' lo v L := by
  refine ⟨h.1, ?_⟩
  rcases h.2 with h0 | ⟨g, cap, cur, hv, hl, hg, rest⟩
  · exact .inl h0
  · refine .inr ⟨g, cap, cur, hv, hl, ?_, rest⟩
    rw [hb.block g (Nat.lt_of_lt_of_le (Array.getElem?_eq_some_iff.1 hg).1 hB)]; exact hg

/-- where what is written lies from hi on, and the slice below it -/
theorem strs_below_at {w w' : World} {lo hi : Nat} {v : Value} {L : List ByteArray} (h : Strs w lo v L) (hb : Below hi w w') (hlt : ∀ g, v.ownBlock = some g → g < hi) : Strs w' lo v L := by
  refine ⟨h.1, ?_⟩
  rcases h.2 with h0 | ⟨g, cap, cur, hv, hl, hg, rest⟩
  · exact .inl h0
  · refine .inr ⟨g, cap, cur, hv, hl, ?_, rest⟩
    rw [hb.block g (hlt g (by rw [hv]; rfl))]; exact hg
theorem strs_own {w : World} {lo : Nat} {v : Value} {L : List ByteArray} (h : Strs w lo v L) : ∀ g, v.ownBlock = some g → g < w.heap.size := by
  intro g hg
  rcases h.cases with ⟨rfl, _⟩ | ⟨g', cap, rfl, hs⟩
  · simp [Value.ownBlock] at hg
  · simp only [Value.ownBlock, Option.some.injEq] at hg
    subst hg; exact hs.lt


theorem Strs.at {w : World} {lo g n cap : Nat} {L : List ByteArray} (h : Strs w lo (.slice (some ⟨g, 0, none⟩) n cap) L) : StrsAt w lo g cap L ∧ n = L.length := by
  rcases h.cases with ⟨hv, _⟩ | ⟨g', cap', hv, hs⟩
  · cases hv
  · injection hv with h1 h2 h3
    injection h1 with h1
    injection h1 with h1
    subst h1 h2 h3
    exact ⟨hs, rfl⟩

theorem strs_set {w : World} {lo g n cap i : Nat} {L : List ByteArray} (h : Strs w lo (.slice (some ⟨g, 0, none⟩) n cap) L) (X : ByteArray) :
    Strs (w.setCell ⟨g, i, none⟩ (.string X)) lo (.slice (some ⟨g, 0, none⟩) n cap) (L.set i X) := by
  refine ⟨by simp, ?_⟩
  rcases h.2 with ⟨hv, _⟩ | ⟨g', cap', cur, hv, hl, hg, hn, hc, hs, ht⟩
  · cases hv
  · injection hv with h1 h2 h3
    injection h1 with h1
    injection h1 with h1
    subst h1 h2 h3
    refine .inr ⟨g, cap, cur.setIfInBounds i (.string X), by simp, hl, Go.Joins.block_setCell hg _, by simpa using hn, hc, by simpa using hs, ?_⟩
    rw [List.map_set, ← ht]
    simp [List.take_set]

theorem strs_lo {w : World} {lo : Nat} {v : Value} {L : List ByteArray} (h : Strs w lo v L) : ∀ g, v.ownBlock = some g → lo ≤ g := by
  intro g hg
  rcases h.cases with ⟨rfl, _⟩ | ⟨g', cap, rfl, hs⟩
  · simp [Value.ownBlock] at hg
  · simp only [Value.ownBlock, Option.some.injEq] at hg
    subst hg; exact hs.lo
theorem strs_setCell {w : World} {lo : Nat} {v : Value} {L : List ByteArray} (h : Strs w lo v L) {a : Addr} (ha : a.block < lo) (u : Value) : Strs (w.setCell a u) lo v L := ownsRow_setCell_below h ha u
theorem strs_le {w : World} {lo lo' : Nat} {v : Value} {L : List ByteArray} (h : Strs w lo v L) (hl : lo' ≤ lo) : Strs w lo' v L := Go.Joins.ownsRow_le h hl
theorem strs_snoc {w : World} {lo : Nat} {v : Value} {L : List ByteArray} {p : ByteArray} (h : w.ownsRow lo 9 1 v (L.length + 1) (L.map Value.string ++ [.string p])) : Strs w lo v (L ++ [p]) := by
  unfold Strs; simpa using h
theorem infoStr : (Tryd.prog.info? 9).map (fun i => (i.zero, i.size, i.bytes)) = some (some (.string ⟨#[]⟩), 1, 16) := by kernel_rfl
end Go.Proofs.YtfkngjdclggfbaaDoor
namespace Go.Proofs.YtfkngjdclggfbaaDoor
open Go.ChangeShapes Go.WideShapes Go.ChangeAt Go.RowKit

/-- a slice of strings that can be read: none, or the cells of a block from off on -/
def ArgS (w : World) (v : Value) (L : List ByteArray) : Prop :=
  L.length ≤ maxLen ∧ (∀ s ∈ L, s.size ≤ maxLen) ∧ ((L = [] ∧ ∃ a c, v = .slice a 0 c) ∨ ∃ b off cap, v = .slice (some ⟨b, off, none⟩) L.length cap ∧ b < w.heap.size ∧ ∀ i (hi : i < L.length), w.cell? ⟨b, off + i, none⟩ = some (.string L[i]))

set_option maxRecDepth 100000 in
theorem ArgS.below {w w1 : World} {v : Value} {L : List ByteArray} (h : ArgS w v L) (hb : Below w.heap.size w w1) : ArgS w1 v L := by
  refine ⟨h.1, h.2.1, ?_⟩
  rcases h.2.2 with h0 | ⟨b, off, cap, hv, hlt, hc⟩
  · exact .inl h0
  · exact .inr ⟨b, off, cap, hv, Nat.lt_of_lt_of_le hlt hb.size, fun i hi => (hb.cell (p := ⟨b, off + i, none⟩) hlt).trans (hc i hi)⟩

set_option maxRecDepth 100000 in
theorem openStrs {H : Type} {enc : TypeId × Value → H} {W : World} {b0 : Nat} {v : Value} {d : DataW H} {p : List MemPlace} (hv : Value.okWide Tryd.prog W .any b0 22 v) (h : DataW.Trod enc Tryd.prog W 0 (fun _ => true) true 22 v d p) : ∃ L, ArgS W v L := by
  obtain ⟨a0, len, cap, rfl⟩ := okWide_slice Tryd.underlying22 hv
  obtain ⟨fuel, hf⟩ := h
  rcases open_strings Tryd.underlying22 Tryd.underlying9 (by kernel_rfl) hf with ⟨hcs, _⟩ | ⟨a, len', cap', ss, hcs, _, hl, hm, hz, _, hcell, hws⟩
  · simp [Value.cells] at hcs
    obtain ⟨rfl, rfl, rfl⟩ := hcs
    exact ⟨[], Nat.zero_le _, (fun s hs => by cases hs), .inl ⟨rfl, _, _, rfl⟩⟩
  · simp [Value.cells] at hcs
    obtain ⟨rfl, rfl, rfl⟩ := hcs
    have hz' : ss.length = cap := by simpa using hz
    by_cases h0 : len = 0
    · subst h0
      exact ⟨[], Nat.zero_le _, (fun s hs => by cases hs), .inl ⟨rfl, _, _, rfl⟩⟩
    · obtain ⟨b, off, spot⟩ := a
      have hc0 := hcell 0 (by omega)
      have hspot : spot = none := by simpa [Addr.add] using World.cell?_spot hc0
      subst hspot
      have hlt : (ss.take len).length = len := by simp; omega
      refine ⟨ss.take len, by rw [hlt]; omega, fun s hs => hws s (List.mem_of_mem_take hs), .inr ⟨b, off, cap, by rw [hlt], ?_, fun i hi => ?_⟩⟩
      · by_cases hb : b < W.heap.size
        · exact hb
        · exfalso
          have e : W.heap[b]? = none := Array.getElem?_eq_none (by omega)
          have ea : (⟨b, off, none⟩ : Addr).add 0 = ⟨b, off, none⟩ := by simp [Addr.add]
          rw [ea] at hc0
          simp [World.cell?, e] at hc0
      · rw [hlt] at hi
        have hci := hcell i (by omega)
        have ea : (⟨b, off, none⟩ : Addr).add i = ⟨b, off + i, none⟩ := by by_cases hi0 : i = 0 <;> simp [Addr.add, hi0]
        rw [ea] at hci
        rw [hci]
        congr 2
        rw [List.getD_eq_getElem?_getD, List.getElem?_eq_getElem (by omega)]
        simp

def sumSz (L : List ByteArray) : Nat := (L.map ByteArray.size).sum
set_option maxRecDepth 100000 in
theorem sumSz_take (L : List ByteArray) (k : Nat) (h : k < L.length) : sumSz (L.take (k + 1)) = sumSz (L.take k) + L[k].size := by
  unfold sumSz
  rw [List.take_succ_eq_append_getElem h, List.map_append, List.sum_append]
  simp only [List.map_cons, List.map_nil, List.sum_cons, List.sum_nil, Nat.add_zero]
set_option maxRecDepth 100000 in
theorem sumSz_take_le (L : List ByteArray) (k : Nat) : sumSz (L.take k) ≤ sumSz L := by
  unfold sumSz
  conv => rhs; rw [← List.take_append_drop k L, List.map_append, List.sum_append]
  exact Nat.le_add_right _ _
set_option maxRecDepth 100000 in
theorem sumSz_le (L : List ByteArray) (k n : Nat) (h : L.length ≤ n) (hs : ∀ s ∈ L, s.size ≤ k) : sumSz L ≤ n * k := by
  induction L generalizing n with
  | nil => simp [sumSz]
  | cons p L ih =>
    obtain ⟨n', rfl⟩ : ∃ n', n = n' + 1 := ⟨n - 1, by simp at h; omega⟩
    have h1 := ih n' (by simpa using h) (fun s hm => hs s (List.mem_cons_of_mem _ hm))
    have h2 := hs p (List.mem_cons_self ..)
    simp only [sumSz, List.map_cons, List.sum_cons] at h1 ⊢
    rw [Nat.succ_mul]
    omega
set_option maxRecDepth 100000 in
theorem strs_args {w : World} {lo : Nat} {v : Value} {L : List ByteArray} (h : Strs w lo v L) (hL : L.length ≤ maxLen) (hs : ∀ s ∈ L, s.size ≤ maxLen) : ArgS w v L := by
  refine ⟨hL, hs, ?_⟩
  rcases h.cases with ⟨rfl, rfl⟩ | ⟨g, cap, rfl, hg⟩
  · exact .inl ⟨rfl, _, _, rfl⟩
  · exact .inr ⟨g, 0, cap, rfl, hg.lt, fun i hi => by rw [Nat.zero_add]; exact hg.cell i hi⟩
end Go.Proofs.YtfkngjdclggfbaaDoor
