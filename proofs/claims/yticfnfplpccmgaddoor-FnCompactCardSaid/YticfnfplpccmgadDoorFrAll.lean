import Derived.Test.YticfnfplpccmgadDoorFrame
import Derived.Test.YticfnfplpccmgadDoorArgS
import Derived.Test.YticfnfplpccmgadDoorBld
namespace Go.Proofs.YticfnfplpccmgadDoor
open Go.ChangeShapes Go.WideShapes Go.ChangeAt Go.RowKit

/-- the frames of the records, one behind another -/
def framesL (L : List ByteArray) : List UInt8 := L.flatMap fun p => frame p.data.toList
def framesB (L : List ByteArray) : ByteArray := ⟨(framesL L).toArray⟩
set_option maxRecDepth 100000 in
theorem framesL_step (L : List ByteArray) (k : Nat) (h : k < L.length) : framesL (L.take (k + 1)) = framesL (L.take k) ++ (frameB L[k]).data.toList := by
  unfold framesL
  rw [List.take_succ_eq_append_getElem h, List.flatMap_append]
  simp [frameB]
set_option maxRecDepth 100000 in
theorem framesB_step (L : List ByteArray) (k : Nat) (h : k < L.length) : framesB (L.take (k + 1)) = framesB (L.take k) ++ frameB L[k] := by
  apply ByteArray.ext
  apply Array.toList_inj.1
  simp only [ByteArray.data_append, Array.toList_append]
  exact framesL_step L k h
set_option maxRecDepth 100000 in
theorem frame_le (l : List UInt8) : (frame l).length ≤ 8 + l.length := by
  unfold frame
  split
  · exact Nat.zero_le _
  · simp [word]; omega
set_option maxRecDepth 100000 in
theorem framesL_len : ∀ L : List ByteArray, (framesL L).length ≤ 8 * L.length + sumSz L
  | [] => by simp [framesL]
  | p :: L => by
    have h := framesL_len L
    have hf := frame_le p.data.toList
    have e : p.data.toList.length = p.size := rfl
    simp only [framesL, List.flatMap_cons, List.length_append, List.length_cons, sumSz, List.map_cons, List.sum_cons] at h ⊢
    omega
set_option maxRecDepth 100000 in
theorem framesB_size (L : List ByteArray) : (framesB L).size ≤ 8 * L.length + sumSz L := by
  have := framesL_len L
  simpa [framesB, ByteArray.size] using this

set_option maxRecDepth 100000 in
theorem isb_below {T e : TypeId} {B b : Nat} {bs : List Value} {w w1 : World} (h : Lib.IsBuilder T e B b bs w) (hb : Below w.heap.size w w1) : Lib.IsBuilder T e B b bs w1 := by
  have key : ∀ p, Lib.BuilderAt T e B b p bs w → Lib.BuilderAt T e B b p bs w1 := by
    intro p hp
    have hlt := hp.lt
    obtain ⟨hB, v, hbk, hown, hne⟩ := hp
    refine ⟨hB, v, by rw [hb.block b hlt]; exact hbk, ⟨hown.1, ?_⟩, hne⟩
    rcases hown.2 with h0 | ⟨g, cap, cur, hv, hl, hg, rest⟩
    · exact .inl h0
    · refine .inr ⟨g, cap, cur, hv, hl, ?_, rest⟩
      rw [hb.block g (Array.getElem?_eq_some_iff.1 hg).1]; exact hg
  exact h.elim (fun x => .inl (key _ x)) (fun x => .inr (key _ x))

set_option maxHeartbeats 1000000 in
set_option maxRecDepth 100000 in
theorem frameAll (v : Value) (L : List ByteArray) (w : World) (h : ArgS w v L) (hsum : L.length + sumSz L ≤ 1048576) (ht : TabIn w) :
    Calls Tryd.prog 84 #[v] w fun e w' => e = .returned (.string (framesB L)) ∧ Below w.heap.size w w' := by
  have HT : Hid (TabIn w) := ht
  have HB0 := Lib.fresh_isBuilder 67 5 w
  obtain ⟨_, hS, hform⟩ := h
  clear ht hS
  rcases hform with ⟨rfl, a, c, rfl⟩ | ⟨b, off, cap, rfl, hlt, hc⟩
  · have HB : Hid (Lib.IsBuilder 67 5 w.heap.size w.heap.size (Lib.byteCells []) (w.alloc (.cells #[.pointer none, .slice none 0 0] 67))) := HB0
    clear HB0
    go_enter Tryd.func84, Tryd.ntmps84
    go_wp2
    refine wp_loop_rounds 1 ?_; rw [rounds_succ]
    go_wp2_with fail
    refine (bString _ _ _ _ HB.out (by simp)).mono ?_
    rintro e w1 ⟨rfl, hb1⟩
    go_wp2
    go_ret
    exact ⟨rfl, (below1 w _).trans hb1⟩
  · have HC : Hid (∀ i (hi : i < L.length), w.cell? ⟨b, off + i, none⟩ = some (.string L[i])) := hc
    have HB : Hid (Lib.IsBuilder 67 5 w.heap.size w.heap.size (Lib.byteCells (framesL (L.take 0))) (w.alloc (.cells #[.pointer none, .slice none 0 0] 67))) := HB0
    clear HB0 hc
    have hL : L.length ≤ 1048576 := by omega
    go_enter Tryd.func84, Tryd.ntmps84
    go_wp2
    go_loopw [5, 8] (fun _ i wr => ∃ k : Nat, k ≤ L.length ∧ i = .int .i64 k ∧ Hid (Lib.IsBuilder 67 5 w.heap.size w.heap.size (Lib.byteCells (framesL (L.take k))) wr) ∧ Below w.heap.size w wr) (fun _ i _ => L.length - (intOf i).toNat)
    case atStart => exact ⟨0, Nat.zero_le _, rfl, HB, below1 _ _⟩
    case round =>
      obtain ⟨k, hk, rfl, HK, hb⟩ := hrel
      by_cases hlt2 : k < L.length
      · have e1 := (hb.cell (p := ⟨b, off + k, none⟩) hlt).trans (HC.out k hlt2)
        have hX : L[k].size ≤ 1048576 := by
          have h1 := sumSz_take L k hlt2
          have h2 := sumSz_take_le L (k + 1)
          omega
        have hfl : (framesL (L.take k)).length ≤ 9437184 := by
          have h1 := framesL_len (L.take k)
          have h2 := sumSz_take_le L k
          have h3 : (L.take k).length ≤ k := List.length_take_le _ _
          omega
        have HS : Hid (framesL (L.take (k + 1)) = framesL (L.take k) ++ (frameB L[k]).data.toList) := framesL_step L k hlt2
        generalize L[k] = X at e1 hX HS
        go_wp2_with fail
        refine (implFrame X _ hX (tab_below HT.out hb)).mono ?_
        rintro e w1 ⟨rfl, hb1⟩
        have HK1 : Hid (Lib.IsBuilder 67 5 w.heap.size w.heap.size (Lib.byteCells (framesL (L.take k))) w1) := isb_below HK.out hb1
        have hsz : w.heap.size ≤ w1.heap.size := by have := hb1.size; have := hb.size; omega
        have hfs := frameB_size X
        go_wp2_with fail
        refine (bWrite _ _ _ (frameB X) _ HK1.out (by rw [Lib.byteCells_length]; omega) hsz).mono ?_
        rintro e w2 ⟨rfl, hB2, hb2⟩
        have HK2 : Hid (Lib.IsBuilder 67 5 w.heap.size w.heap.size (Lib.byteCells (framesL (L.take (k + 1)))) w2) := by
          show Lib.IsBuilder _ _ _ _ _ _
          rw [HS.out]
          refine .inr ?_
          rw [show Lib.byteCells (framesL (L.take k) ++ (frameB X).data.toList) = Lib.byteCells (framesL (L.take k)) ++ Lib.strCells (frameB X) by simp [Lib.byteCells, Lib.strCells]]
          exact hB2
        clear hB2
        go_wp2
        go_roundw
        case rel => exact ⟨k + 1, by omega, by go_num, HK2, (hb.trans (hb1.mono hb.size)).trans hb2⟩
        case measure => simp [intOf]; omega
      · obtain rfl : k = L.length := by omega
        have HK' : Hid (Lib.IsBuilder 67 5 w.heap.size w.heap.size (Lib.byteCells (framesL L)) wr) := by
          have e := HK.out
          rw [List.take_length] at e
          exact e
        go_wp2_with fail
        refine (bString _ _ _ _ HK'.out hb.size).mono ?_
        rintro e w1 ⟨rfl, hb1⟩
        go_wp2
        go_ret
        exact ⟨rfl, hb.trans hb1⟩
end Go.Proofs.YticfnfplpccmgadDoor
