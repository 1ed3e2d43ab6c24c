import Derived.Test.YticfnfplpccmgadDoorSyncMath
import Derived.Test.YticfnfplpccmgadDoorSteps
namespace Go.Proofs.YticfnfplpccmgadDoor
open Go.ChangeShapes Go.WideShapes Go.ChangeAt Go.RowKit

/-- what stands in memory between the steps: the disk in its block bd, the records in a block of [p, z), the wanted texts in a block apart -/
structure SynSt (w : World) (lo p bd z : Nat) (aR : Option Addr) (R : List ByteArray) (wr : World) (want : Value) (M O : ByteArray) (L : List ByteArray) : Prop where
  bel : Below w.heap.size w wr
  hlo : w.heap.size ≤ lo
  hbd : p ≤ bd ∧ bd < z ∧ lo ≤ p
  dsk : DiskAt wr bd M O false ⟨#[]⟩ ⟨#[]⟩
  fr : ∀ o, wr.frozen? ⟨bd, o, none⟩ = false
  recs : ∀ i (hi : i < R.length), ∃ g, aR = some ⟨g, 0, none⟩ ∧ g ≠ bd ∧ p ≤ g ∧ g < z ∧ wr.cell? ⟨g, i, none⟩ = some (.string R[i])
  own : Strs wr lo want L
  apart : ∀ g, want.ownBlock = some g → g < p ∨ z ≤ g
  sz : z ≤ wr.heap.size

set_option maxRecDepth 100000 in
theorem SynSt.call {w : World} {lo p bd z : Nat} {aR : Option Addr} {R : List ByteArray} {wr : World} {want : Value} {M O : ByteArray} {L : List ByteArray} (h : SynSt w lo p bd z aR R wr want M O L) {w1 : World} (hb : Below wr.heap.size wr w1) : SynSt w lo p bd z aR R w1 want M O L := by
  have hbd := h.hbd
  have hsz := h.sz
  refine ⟨h.bel.trans (hb.mono h.bel.size), h.hlo, h.hbd, h.dsk.below hb (by omega), fun o => (hb.frozen (p := ⟨bd, o, none⟩) (by show bd < _; omega)).trans (h.fr o), fun i hi => ?_, strs_below h.own hb (Nat.le_refl _), h.apart, Nat.le_trans hsz hb.size⟩
  obtain ⟨g, h1, h2, h3, h4, h5⟩ := h.recs i hi
  exact ⟨g, h1, h2, h3, h4, (hb.cell (p := ⟨g, i, none⟩) (by show g < _; omega)).trans h5⟩

set_option maxRecDepth 100000 in
theorem strs_setOff {w : World} {lo : Nat} {v : Value} {L : List ByteArray} (h : Strs w lo v L) {a : Addr} (ha : ∀ g, v.ownBlock = some g → g ≠ a.block) (u : Value) : Strs (w.setCell a u) lo v L := by
  refine ⟨h.1, ?_⟩
  rcases h.2 with h0 | ⟨g, cap, cur, hv, hl, hg, rest⟩
  · exact .inl h0
  · refine .inr ⟨g, cap, cur, hv, hl, ?_, rest⟩
    rw [Below.heap_setCell _ _ _ _ (ha g (by rw [hv]; rfl))]; exact hg

set_option maxRecDepth 100000 in
theorem SynSt.set5 {w : World} {lo p bd z : Nat} {aR : Option Addr} {R : List ByteArray} {wr : World} {want : Value} {M O : ByteArray} {L : List ByteArray} (h : SynSt w lo p bd z aR R wr want M O L) (M' O' : ByteArray) : SynSt w lo p bd z aR R (Go.Proofs.YticfnfplpccmgadDoor.set5 wr bd M' O' false ⟨#[]⟩ ⟨#[]⟩) want M' O' L := by
  have hbd := h.hbd
  have hlo := h.hlo
  refine ⟨?_, h.hlo, h.hbd, diskAt_set5 h.dsk M' O' false ⟨#[]⟩ ⟨#[]⟩, fun o => ?_, fun i hi => ?_, ?_, h.apart, ?_⟩
  · unfold Go.Proofs.YticfnfplpccmgadDoor.set5
    repeat (refine Below.setCell ?_ (by show w.heap.size ≤ bd; omega) _)
    exact h.bel
  · have := h.fr o
    simpa [Go.Proofs.YticfnfplpccmgadDoor.set5] using this
  · obtain ⟨g, h1, h2, h3, h4, h5⟩ := h.recs i hi
    refine ⟨g, h1, h2, h3, h4, ?_⟩
    rw [← h5]
    apply World.cell?_of_block
    unfold Go.Proofs.YticfnfplpccmgadDoor.set5
    repeat (rw [Below.heap_setCell _ _ _ _ (show g ≠ bd from h2)])
  · have ha : ∀ g, want.ownBlock = some g → g ≠ bd := fun g hg e => by have := h.apart g hg; omega
    unfold Go.Proofs.YticfnfplpccmgadDoor.set5
    repeat (refine strs_setOff ?_ ha _)
    exact h.own
  · simp [Go.Proofs.YticfnfplpccmgadDoor.set5]; exact h.sz

set_option maxRecDepth 100000 in
/-- behind an append of one text, out of a new block, to the wanted ones -/
theorem SynSt.grow {w : World} {lo p bd z : Nat} {aR : Option Addr} {R : List ByteArray} {wr : World} {want : Value} {M O : ByteArray} {L : List ByteArray} (h : SynSt w lo p bd z aR R wr want M O L) {o : Obj} {w1 : World} {g cap : Nat} {Y : ByteArray}
    (hown : w1.ownsRow lo 9 1 (.slice (some ⟨g, 0, none⟩) (L.length + 1) cap) (L.length + 1) (L.map Value.string ++ [.string Y])) (hgrow : (wr.alloc o).grownBy w1 want.ownBlock) (hat : want.ownBlock = some g ∨ g = wr.heap.size + 1) :
    SynSt w lo p bd z aR R w1 (.slice (some ⟨g, 0, none⟩) (L.length + 1) cap) M O (L ++ [Y]) := by
  have hbd := h.hbd
  have hlo := h.hlo
  have hsz := h.sz
  have hz1 : wr.heap.size + 1 ≤ w1.heap.size := by have := hgrow.size; simpa using this
  have hkeep : ∀ k, p ≤ k → k < z → w1.heap[k]? = wr.heap[k]? := fun k hk1 hk2 => by
    rw [hgrow.block k (by simp; omega) (fun e => by have := h.apart k e.symm; omega)]
    exact Below.heap_alloc wr o k (by omega)
  refine ⟨?_, h.hlo, h.hbd, ?_, fun o' => ?_, fun i hi => ?_, strs_snoc hown, ?_, by omega⟩
  · exact (h.bel.alloc h.bel.size o).grown hgrow (by simp; have := h.bel.size; omega) (fun k hk => by have := strs_lo h.own k hk; omega)
  · obtain ⟨c0, c1, c2, c3, c4⟩ := h.dsk
    have e := hkeep bd hbd.1 hbd.2.1
    exact ⟨(World.cell?_of_block (a := ⟨bd, 0, none⟩) e).trans c0, (World.cell?_of_block (a := ⟨bd, 1, none⟩) e).trans c1, (World.cell?_of_block (a := ⟨bd, 2, none⟩) e).trans c2, (World.cell?_of_block (a := ⟨bd, 3, none⟩) e).trans c3, (World.cell?_of_block (a := ⟨bd, 4, none⟩) e).trans c4⟩
  · exact (World.frozen?_of_block (a := ⟨bd, o', none⟩) (hkeep bd hbd.1 hbd.2.1)).trans (h.fr o')
  · obtain ⟨g', h1, h2, h3, h4, h5⟩ := h.recs i hi
    exact ⟨g', h1, h2, h3, h4, (World.cell?_of_block (a := ⟨g', i, none⟩) (hkeep g' h3 h4)).trans h5⟩
  · intro g' hg'
    have e : g = g' := by simpa [Value.ownBlock] using hg'
    subst e
    rcases hat with hat | hat
    · exact h.apart _ hat
    · omega

/-- how many are synced behind k rounds -/
def aN (n k : Nat) : Nat := if n ≤ k then n else 0
def mK (P : ByteArray) (R : List ByteArray) (n k : Nat) : ByteArray := P ++ framesB (R.take (aN n k))
def oK (R : List ByteArray) (n k : Nat) : ByteArray := framesB ((R.take k).drop (aN n k))
def wK (old R : List ByteArray) (n k : Nat) : List ByteArray := old ++ (R.take (min k n)).filter (fun p => p.size ≤ 8000)
set_option maxRecDepth 100000 in
theorem aN_le (n k : Nat) : aN n k ≤ k := by unfold aN; split <;> omega
theorem oK_app (R : List ByteArray) (n k : Nat) (hk : k < R.length) : oK R n k ++ frameB R[k] = framesB ((R.take (k + 1)).drop (aN n k)) := by
  unfold oK
  rw [List.take_succ_eq_append_getElem hk, List.drop_append_of_le_length (by have := aN_le n k; simp; omega), framesB_append, framesB_one]
set_option maxRecDepth 100000 in
theorem appendB_none (s : ByteArray) : s ++ (⟨#[]⟩ : ByteArray) = s := by
  apply ByteArray.ext
  simp
set_option maxRecDepth 100000 in
theorem step_sync (P : ByteArray) (R : List ByteArray) (n k : Nat) (h : k + 1 = n) : mK P R n k ++ framesB ((R.take (k + 1)).drop (aN n k)) = mK P R n (k + 1) ∧ oK R n (k + 1) = ⟨#[]⟩ := by
  have e0 : aN n k = 0 := by unfold aN; rw [if_neg (by omega)]
  have e1 : aN n (k + 1) = k + 1 := by unfold aN; rw [if_pos (by omega), h]
  unfold mK oK
  rw [e0, e1, List.take_zero, framesB_nil, appendB_none, List.drop_zero, List.drop_eq_nil_of_le (by simp; omega)]
  exact ⟨rfl, rfl⟩
set_option maxRecDepth 100000 in
theorem step_plain (P : ByteArray) (R : List ByteArray) (n k : Nat) (h : k + 1 ≠ n) : mK P R n (k + 1) = mK P R n k ∧ oK R n (k + 1) = framesB ((R.take (k + 1)).drop (aN n k)) := by
  have e : aN n (k + 1) = aN n k := by unfold aN; by_cases h1 : n ≤ k <;> simp [h1] <;> omega
  unfold mK oK
  rw [e]
  exact ⟨rfl, rfl⟩
set_option maxRecDepth 100000 in
theorem wK_yes (old R : List ByteArray) (n k : Nat) (hk : k < R.length) (hn : k < n) (hs : R[k].size ≤ 8000) : wK old R n (k + 1) = wK old R n k ++ [R[k]] := by
  unfold wK
  rw [show min (k + 1) n = k + 1 by omega, show min k n = k by omega, List.take_succ_eq_append_getElem hk, List.filter_append, List.append_assoc]
  simp [hs]
set_option maxRecDepth 100000 in
theorem wK_no (old R : List ByteArray) (n k : Nat) (hk : k < R.length) (h : n ≤ k ∨ 8000 < R[k].size) : wK old R n (k + 1) = wK old R n k := by
  unfold wK
  by_cases hn : n ≤ k
  · rw [show min (k + 1) n = n by omega, show min k n = n by omega]
  · rw [show min (k + 1) n = k + 1 by omega, show min k n = k by omega, List.take_succ_eq_append_getElem hk, List.filter_append]
    have : ¬ R[k].size ≤ 8000 := by omega
    simp [this]
set_option maxRecDepth 100000 in
/-- behind the last round, and the last sync -/
theorem end_plain (P : ByteArray) (R : List ByteArray) (n : Nat) (h : n ≤ R.length) : mK P R n R.length = P ++ framesB (R.take n) ∧ oK R n R.length = framesB (R.drop n) := by
  have e : aN n R.length = n := by unfold aN; rw [if_pos h]
  unfold mK oK
  rw [e, List.take_length]
  exact ⟨rfl, rfl⟩
set_option maxRecDepth 100000 in
theorem end_sync (P : ByteArray) (R : List ByteArray) (n : Nat) (h : R.length < n) : mK P R n R.length ++ oK R n R.length = P ++ framesB (R.take n) ∧ framesB (R.drop n) = ⟨#[]⟩ := by
  have e : aN n R.length = 0 := by unfold aN; rw [if_neg (by omega)]
  unfold mK oK
  rw [e, List.take_zero, framesB_nil, appendB_none, List.drop_zero, List.take_length, List.take_of_length_le (by omega), List.drop_eq_nil_of_le (by omega)]
  exact ⟨rfl, rfl⟩
set_option maxRecDepth 100000 in
theorem wK_end (old R : List ByteArray) (n : Nat) : wK old R n R.length = old ++ (R.take n).filter (fun p => p.size ≤ 8000) := by
  unfold wK
  by_cases h : n ≤ R.length
  · rw [Nat.min_eq_right h]
  · rw [Nat.min_eq_left (by omega), List.take_length, List.take_of_length_le (by omega)]
set_option maxRecDepth 100000 in
theorem frameB_len (Y : ByteArray) : (frameB Y).size = (frame Y.data.toList).length := by simp [frameB, ByteArray.size]
theorem frameB_pos (Y : ByteArray) : 0 < (frameB Y).size ↔ Y.size ≤ 8000 := by
  have hl : Y.data.toList.length = Y.size := rfl
  rw [frameB_len, frame]
  split
  · simp; omega
  · simp [word]; omega
set_option maxRecDepth 100000 in
theorem framesL_more (L : List ByteArray) (c : Nat) (h : c < L.length) : (framesL (L.take (c + 1))).length = (framesL (L.take c)).length + (frameB L[c]).size := by
  rw [framesL_step L c h, List.length_append]
  rfl
/-- how far q bytes reach -/
def KeepEnd (L : List ByteArray) (q j : Nat) : Prop :=
  j ≤ L.length ∧ (framesL (L.take j)).length ≤ q ∧ (j = L.length ∨ ∃ h : j < L.length, q < (framesL (L.take j)).length + (frame L[j].data.toList).length)
set_option maxRecDepth 100000 in
/-- the crash's journal is mounted as it is wanted -/
theorem crashed (m : ByteArray) (R : List ByteArray) (n q j : Nat) (h : KeepEnd (R.drop n) q j) :
    (unfr (((m.extract 0 (unfr m).2) ++ framesB (R.take n)) ++ keepB (framesB (R.drop n)) (q : Int))).1 = wK ((unfr m).1 ++ (R.take n).filter (fun p => p.size ≤ 8000)) (R.drop n) (R.drop n).length j ∧
    (((m.extract 0 (unfr m).2) ++ framesB (R.take n)) ++ keepB (framesB (R.drop n)) (q : Int)).extract 0 (unfr (((m.extract 0 (unfr m).2) ++ framesB (R.take n)) ++ keepB (framesB (R.drop n)) (q : Int))).2 = framesB ((unfr m).1 ++ R.take n ++ (R.drop n).take j) ∧
    ((unfr m).1 ++ R.take n ++ (R.drop n).take j).filter (fun p => p.size ≤ 8000) = wK ((unfr m).1 ++ (R.take n).filter (fun p => p.size ≤ 8000)) (R.drop n) (R.drop n).length j := by
  have e : m.extract 0 (unfr m).2 ++ framesB (R.take n) = framesB ((unfr m).1 ++ R.take n) := by rw [framesB_append, unfr_front]
  have hc := cut_unfr ((unfr m).1 ++ R.take n) (R.drop n) q j h.1 h.2.1 h.2.2
  have hf : ((unfr m).1 ++ R.take n ++ (R.drop n).take j).filter (fun p => p.size ≤ 8000) = wK ((unfr m).1 ++ (R.take n).filter (fun p => p.size ≤ 8000)) (R.drop n) (R.drop n).length j := by
    unfold wK
    rw [List.filter_append, List.filter_append, filter_all _ (unfr_sizes m), Nat.min_eq_left h.1]
  rw [e]
  exact ⟨hc.1.trans hf, hc.2, hf⟩
set_option maxRecDepth 100000 in
theorem start_K (P : ByteArray) (old R : List ByteArray) (n : Nat) : mK P R n 0 = P ∧ oK R n 0 = ⟨#[]⟩ ∧ wK old R n 0 = old := by
  have e : aN n 0 = 0 := by have := aN_le n 0; omega
  unfold mK oK wK
  rw [e]
  exact ⟨by rw [List.take_zero, framesB_nil, appendB_none], rfl, by simp⟩
set_option maxRecDepth 100000 in
theorem framesB_le (R : List ByteArray) (k : Nat) (h : R.length ≤ 20) (hs : ∀ s ∈ R, s.size ≤ 8001) (n : Nat) : (framesB ((R.take k).drop n)).size ≤ 160180 := by
  have h1 := framesB_size ((R.take k).drop n)
  have hl : ((R.take k).drop n).length ≤ 20 := by simp; omega
  have h2 := sumSz_le ((R.take k).drop n) 8001 20 hl (fun s hm => hs s (List.mem_of_mem_take (List.mem_of_mem_drop hm)))
  omega
end Go.Proofs.YticfnfplpccmgadDoor
