import Derived.Test.YthblkfdgibonbaaRow
import Derived.Test.YthblkfdgibonbaaVds
import Derived.Test.YthblkfdgibonbaaSts
namespace Go.Proofs.Ythblkfdgibonbaa
open Go.ChangeShapes Go.WideShapes Go.ChangeAt Go.RowKit

/-- an item of the queue -/
structure It where
  id : Int
  born : Int
  fr : ByteArray
  R : List ByteArray
  bo : ByteArray
  V : List Vd
  tr : Int
  du : Int
  bn : Bool
def it0 : It := ⟨0, 0, ⟨#[]⟩, [], ⟨#[]⟩, [], 0, 0, false⟩
/-- its cells, with its two slices -/
def ic (x : It) (p : Value × Value) : List Value := [.int .i64 x.id, .int .i64 x.born, .string x.fr, p.1, .string x.bo, p.2, .int .i64 x.tr, .int .i64 x.du, .bool x.bn]
def irow (L : List It) (P : List (Value × Value)) : List (List Value) := List.zipWith ic L P
theorem ic_len (x : It) (p : Value × Value) : (ic x p).length = 9 := rfl
theorem irow_len {L : List It} {P : List (Value × Value)} (h : P.length = L.length) : (irow L P).length = L.length := by unfold irow; rw [List.length_zipWith]; omega
theorem irow_nine : ∀ (L : List It) (P : List (Value × Value)), ∀ c ∈ irow L P, c.length = 9
  | [], _, c, hc => by simp [irow] at hc
  | _ :: _, [], c, hc => by simp [irow] at hc
  | x :: L, p :: P, c, hc => by
    have e : irow (x :: L) (p :: P) = ic x p :: irow L P := rfl
    rw [e] at hc
    rcases List.mem_cons.1 hc with rfl | hc
    · rfl
    · exact irow_nine L P c hc
theorem irow_get {L : List It} {P : List (Value × Value)} (h : P.length = L.length) (i : Nat) (hi : i < L.length) : (irow L P)[i]'(by rw [irow_len h]; exact hi) = ic L[i] (P[i]'(by omega)) := by unfold irow; rw [List.getElem_zipWith]
theorem irow_set : ∀ (L : List It) (P : List (Value × Value)) (i : Nat) (x : It) (p : Value × Value), P.length = L.length → (irow L P).set i (ic x p) = irow (L.set i x) (P.set i p)
  | [], [], _, _, _, _ => rfl
  | y :: L, q :: P, 0, x, p, _ => rfl
  | y :: L, q :: P, i + 1, x, p, h => by
    have := irow_set L P i x p (by simpa using h)
    show ic y q :: (irow L P).set i (ic x p) = ic y q :: irow (L.set i x) (P.set i p)
    rw [this]
/-- no two of them have one block -/
def Dis (vs : List Value) : Prop := ∀ i (hi : i < vs.length) j (hj : j < vs.length), i ≠ j → ∀ a, vs[i].ownBlock = some a → vs[j].ownBlock ≠ some a
structure ItsP (w : World) (lo : Nat) (v : Value) (L : List It) (P : List (Value × Value)) : Prop where
  len : P.length = L.length
  row : Rw 70 9 w lo v (irow L P)
  str : ∀ i (hi : i < L.length), Strs w lo (P[i]'(by omega)).1 L[i].R
  vds : ∀ i (hi : i < L.length), Vds w lo (P[i]'(by omega)).2 L[i].V
  d1 : Dis (P.map (·.1))
  d2 : Dis (P.map (·.2))
def Its (w : World) (lo : Nat) (v : Value) (L : List It) : Prop := ∃ P, ItsP w lo v L P
theorem ItsP.below {w w' : World} {lo B : Nat} {v : Value} {L : List It} {P : List (Value × Value)} (h : ItsP w lo v L P) (hb : Below B w w') (hB : w.heap.size ≤ B) : ItsP w' lo v L P :=
  ⟨h.len, h.row.below hb hB, fun i hi => strs_below (h.str i hi) hb hB, fun i hi => vds_below (h.vds i hi) hb hB, h.d1, h.d2⟩
theorem Its.below {w w' : World} {lo B : Nat} {v : Value} {L : List It} (h : Its w lo v L) (hb : Below B w w') (hB : w.heap.size ≤ B) : Its w' lo v L := by
  obtain ⟨P, h⟩ := h; exact ⟨P, h.below hb hB⟩
theorem ItsP.le {w : World} {lo lo' : Nat} {v : Value} {L : List It} {P : List (Value × Value)} (h : ItsP w lo v L P) (hl : lo' ≤ lo) : ItsP w lo' v L P :=
  ⟨h.len, h.row.le hl, fun i hi => row_le (h.str i hi) hl, fun i hi => row_le (h.vds i hi) hl, h.d1, h.d2⟩
theorem Its.le {w : World} {lo lo' : Nat} {v : Value} {L : List It} (h : Its w lo v L) (hl : lo' ≤ lo) : Its w lo' v L := by
  obtain ⟨P, h⟩ := h; exact ⟨P, h.le hl⟩
theorem ItsP.form {w : World} {lo : Nat} {v : Value} {L : List It} {P : List (Value × Value)} (h : ItsP w lo v L P) : ∃ a c, v = .slice a L.length c := by
  obtain ⟨a, c, e⟩ := h.row.form
  rw [irow_len h.len] at e
  exact ⟨a, c, e⟩
theorem Its.form {w : World} {lo : Nat} {v : Value} {L : List It} (h : Its w lo v L) : ∃ a c, v = .slice a L.length c := by obtain ⟨P, h⟩ := h; exact h.form
theorem ItsP.setB {w : World} {lo : Nat} {v : Value} {L : List It} {P : List (Value × Value)} (h : ItsP w lo v L P) {a : Addr} (ha : a.block < lo) (u : Value) : ItsP (w.setCell a u) lo v L P :=
  ⟨h.len, h.row.set_below ha u, fun i hi => strs_setCell (h.str i hi) ha u, fun i hi => row_set_neR (h.vds i hi) (fun g hg => by have := (row_lt (h.vds i hi) g hg).1; omega) u, h.d1, h.d2⟩
theorem Its.setB {w : World} {lo : Nat} {v : Value} {L : List It} (h : Its w lo v L) {a : Addr} (ha : a.block < lo) (u : Value) : Its (w.setCell a u) lo v L := by
  obtain ⟨P, h⟩ := h; exact ⟨P, h.setB ha u⟩
/-- all blocks of a queue's items lie from lo on -/
theorem ItsP.out {w w' : World} {lo : Nat} {v : Value} {L : List It} {P : List (Value × Value)} (h : ItsP w lo v L P) (hb : ∀ k, lo ≤ k → k < w.heap.size → w'.heap[k]? = w.heap[k]?) : ItsP w' lo v L P := by
  have key : ∀ {T k n : Nat} {u : Value} {xs : List Value}, w.ownsRow lo T k u n xs → w'.ownsRow lo T k u n xs := by
    intro T k n u xs hr
    refine ⟨hr.1, ?_⟩
    rcases hr.2 with h0 | ⟨g, cap, cur, hv, hl, hg, rest⟩
    · exact .inl h0
    · exact .inr ⟨g, cap, cur, hv, hl, by rw [hb g hl (Array.getElem?_eq_some_iff.1 hg).1]; exact hg, rest⟩
  exact ⟨h.len, ⟨key h.row.1, h.row.2⟩, fun i hi => key (h.str i hi), fun i hi => key (h.vds i hi), h.d1, h.d2⟩
theorem Its.out {w w' : World} {lo : Nat} {v : Value} {L : List It} (h : Its w lo v L) (hb : ∀ k, lo ≤ k → k < w.heap.size → w'.heap[k]? = w.heap[k]?) : Its w' lo v L := by
  obtain ⟨P, h⟩ := h; exact ⟨P, h.out hb⟩
theorem infoIt : (Try.prog.info? 70).map (fun i => (i.zero, i.size, i.bytes)) = some (some (.agg #[.int .i64 0, .int .i64 0, .string ⟨#[]⟩, .slice none 0 0, .string ⟨#[]⟩, .slice none 0 0, .int .i64 0, .int .i64 0, .bool false]), 9, 120) := by kernel_rfl
end Go.Proofs.Ythblkfdgibonbaa
