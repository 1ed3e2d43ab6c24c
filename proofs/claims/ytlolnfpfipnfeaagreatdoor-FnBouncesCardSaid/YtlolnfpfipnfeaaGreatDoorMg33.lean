import Derived.Test.YtlolnfpfipnfeaaGreatDoorMg32
import Derived.Shelf.Strings.Builder1
import Derived.BigRegion
import Derived.Deep.RegionHeld3
namespace Go.Proofs.YtlolnfpfipnfeaaGreatDoor
open Go.ChangeShapes Go.WideShapes Go.ChangeAt Go.RowKit
open Pcs

set_option maxRecDepth 100000 in
theorem sizeBuilder : (Tryz.prog.info? 47).map (·.size) = some 2 := by kernel_rfl
theorem liesWriter : liesAt Tryz.prog Tryz.prog.depth 49 (7 / Tryz.prog.cellsOf 49) 5 47 1 = true := by kernel_rfl
theorem infoByte : (Tryz.prog.info? 5).map (fun i => (i.zero, i.size, i.bytes)) = some (some (.int .u8 0), 1, 1) := by kernel_rfl

set_option maxHeartbeats 1000000 in
set_option maxRecDepth 100000 in
theorem wUsed (b : Nat) (w : World) (h0 : w.cell? ⟨b, 5, none⟩ = some (.pointer (some ⟨b, 5, none⟩))) :
    Calls Tryz.prog 64 #[.pointer (some ⟨b, 5, none⟩)] w fun e w' => e = .returned (.tuple #[]) ∧ w' = w := by
  obtain ⟨j, hj, _⟩ := Option.map_eq_some_iff.1 sizeBuilder
  have hne := Lib.run_neq_ptr_same (P := Tryz.prog) w ⟨b, 5, none⟩ Tryz.underlying45 hj
  go_enter Tryz.func64, Tryz.ntmps64
  go_wp2
  go_end0
  exact ⟨rfl, rfl⟩

set_option maxHeartbeats 1000000 in
set_option maxRecDepth 100000 in
theorem wFresh (b : Nat) (w : World) (h0 : w.cell? ⟨b, 5, none⟩ = some (.pointer none)) (hsh : w.shape? b = some (49, 7)) (hfz : w.frozen? ⟨b, 5, none⟩ = false) :
    Calls Tryz.prog 64 #[.pointer (some ⟨b, 5, none⟩)] w fun e w' => e = .returned (.tuple #[]) ∧ w' = w.setCell ⟨b, 5, none⟩ (.pointer (some ⟨b, 5, none⟩)) := by
  obtain ⟨j, hj, hjs⟩ := Option.map_eq_some_iff.1 sizeBuilder
  have hto := Lib.run_to_unsafe (P := Tryz.prog) w ⟨b, 5, none⟩ Tryz.underlying45 Tryz.underlying87 hj (by rw [hjs]; decide) hsh (by show 5 < 7; decide)
  have hfr := Lib.run_from_unsafe (P := Tryz.prog) w ⟨b, 5, none⟩ Tryz.underlying87 Tryz.underlying45 hj hsh liesWriter
  have hx := run_callFunc_extern (P := Tryz.prog) Tryz.func82 (by kernel_rfl) (by kernel_rfl) (by kernel_rfl) (e := Extern.AbiNoEscape.same) (by kernel_rfl) #[.pointer (some ⟨b, 5, none⟩)] w
  rw [Lib.run_noEscape] at hx
  simp only [Result.andThen] at hx
  go_enter Tryz.func64, Tryz.ntmps64
  go_wp2
  go_end0
  exact ⟨rfl, rfl⟩

/-- a report's writer in block b: its five fields, and what its builder holds in a row from B on -/
def Wr (B b : Nat) (y0 y1 y2 y3 y4 : Value) (l : List UInt8) (w : World) : Prop :=
  ∃ p v, (p = .pointer none ∨ p = .pointer (some ⟨b, 5, none⟩)) ∧ w.heap[b]? = some (.cells #[y0, y1, y2, y3, y4, p, v] 49 (0, 0)) ∧ w.ownsRow B 5 1 v l.length (Lib.byteCells l) ∧ b < B ∧ B ≤ w.heap.size
/-- nothing below B but block b is another -/
structure Besides (B b : Nat) (w w' : World) : Prop where
  os : w'.os = w.os
  tape : w'.tape = w.tape
  output : w'.output = w.output
  size : w.heap.size ≤ w'.heap.size
  block : ∀ k, k < B → k ≠ b → w'.heap[k]? = w.heap[k]?
  kept : ∀ (k : Nat) (X : Array Value) (T : TypeId) (fz : Nat × Nat), T ≠ 5 → k ≠ b → w.heap[k]? = some (.cells X T fz) → w'.heap[k]? = some (.cells X T fz)
theorem Besides.refl (B b : Nat) (w : World) : Besides B b w w := ⟨rfl, rfl, rfl, Nat.le_refl _, fun _ _ _ => rfl, fun _ _ _ _ _ _ h => h⟩
theorem Besides.trans {B b : Nat} {w w1 w2 : World} (h : Besides B b w w1) (k : Besides B b w1 w2) : Besides B b w w2 :=
  ⟨k.os.trans h.os, k.tape.trans h.tape, k.output.trans h.output, Nat.le_trans h.size k.size, fun j h1 h2 => (k.block j h1 h2).trans (h.block j h1 h2), fun j X T fz h1 h2 h3 => k.kept j X T fz h1 h2 (h.kept j X T fz h1 h2 h3)⟩
theorem Besides.below {B b lo : Nat} {w w' : World} (h : Besides B b w w') (h1 : lo ≤ b) (h2 : lo ≤ B) : Below lo w w' :=
  ⟨h.os, h.tape, h.output, h.size, fun k hk => h.block k (by omega) (by omega)⟩
theorem Besides.of_below {B b : Nat} {w w' : World} (h : Below w.heap.size w w') (hB : B ≤ w.heap.size) : Besides B b w w' :=
  ⟨h.os, h.tape, h.output, h.size, fun k hk _ => h.block k (by omega), fun k X T fz _ _ h3 => by rw [h.block k (Array.getElem?_eq_some_iff.1 h3).1]; exact h3⟩
theorem row_belowW {w w' : World} {lo T k n : Nat} {v : Value} {xs : List Value} (h : w.ownsRow lo T k v n xs) (hb : Below w.heap.size w w') : w'.ownsRow lo T k v n xs := by
  refine ⟨h.1, ?_⟩
  rcases h.2 with h0 | ⟨g, cap, cur, hv, hl, hg, rest⟩
  · exact .inl h0
  · refine .inr ⟨g, cap, cur, hv, hl, ?_, rest⟩
    rw [hb.block g (Array.getElem?_eq_some_iff.1 hg).1]; exact hg
theorem Wr.cells {B b : Nat} {y0 y1 y2 y3 y4 : Value} {l : List UInt8} {w : World} (h : Wr B b y0 y1 y2 y3 y4 l w) : w.cell? ⟨b, 0, none⟩ = some y0 ∧ w.cell? ⟨b, 1, none⟩ = some y1 ∧ w.cell? ⟨b, 2, none⟩ = some y2 ∧ w.cell? ⟨b, 3, none⟩ = some y3 ∧ w.cell? ⟨b, 4, none⟩ = some y4 := by
  obtain ⟨p, v, hp, hbk, _⟩ := h
  refine ⟨?_, ?_, ?_, ?_, ?_⟩ <;> (rw [Lib.cell_of_heap hbk]; rfl)
theorem Wr.below {B b : Nat} {y0 y1 y2 y3 y4 : Value} {l : List UInt8} {w w1 : World} (h : Wr B b y0 y1 y2 y3 y4 l w) (hb : Below w.heap.size w w1) : Wr B b y0 y1 y2 y3 y4 l w1 := by
  obtain ⟨p, v, hp, hbk, hown, h1, h2⟩ := h
  refine ⟨p, v, hp, ?_, row_belowW hown hb, h1, Nat.le_trans h2 hb.size⟩
  rw [hb.block b (Array.getElem?_eq_some_iff.1 hbk).1]; exact hbk
theorem ownsRow_set_low {w : World} {lo T k n : Nat} {v : Value} {xs : List Value} (h : w.ownsRow lo T k v n xs) {a : Addr} (ha : a.block < lo) (u : Value) : (w.setCell a u).ownsRow lo T k v n xs := by
  refine ⟨h.1, ?_⟩
  rcases h.2 with h0 | ⟨g, cap, cur, hv, hl, hg, rest⟩
  · exact .inl h0
  · refine .inr ⟨g, cap, cur, hv, hl, ?_, rest⟩
    rw [Below.heap_setCell _ _ _ _ (by omega)]; exact hg
theorem wCheck (B b : Nat) (y0 y1 y2 y3 y4 : Value) (l : List UInt8) (w : World) (h : Wr B b y0 y1 y2 y3 y4 l w) :
    Calls Tryz.prog 64 #[.pointer (some ⟨b, 5, none⟩)] w fun e w' => e = .returned (.tuple #[]) ∧ (∃ v, w'.heap[b]? = some (.cells #[y0, y1, y2, y3, y4, .pointer (some ⟨b, 5, none⟩), v] 49 (0, 0)) ∧ w'.ownsRow B 5 1 v l.length (Lib.byteCells l)) ∧ Besides B b w w' := by
  obtain ⟨p, v, hp, hb, hown, h1, h2⟩ := h
  rcases hp with rfl | rfl
  · refine (wFresh b w (by rw [Lib.cell_of_heap hb]; rfl) (by simp [World.shape?, hb]) (Lib.frozen_of_heap hb 5)).mono ?_
    rintro e w' ⟨rfl, rfl⟩
    refine ⟨rfl, ⟨v, ?_, ownsRow_set_low hown (by show b < B; exact h1) _⟩, ⟨rfl, rfl, rfl, by simp, fun k _ hk => Below.heap_setCell _ _ _ _ hk, fun k X T fz _ hk h3 => by rw [Below.heap_setCell _ _ _ _ hk]; exact h3⟩⟩
    rw [heap_setCell_same w b 5 _ _ _ hb]; rfl
  · refine (wUsed b w (by rw [Lib.cell_of_heap hb]; rfl)).mono ?_
    rintro e w' ⟨rfl, rfl⟩
    exact ⟨rfl, ⟨v, hb, hown⟩, Besides.refl _ _ _⟩

set_option maxHeartbeats 1000000 in
set_option maxRecDepth 100000 in
theorem wWrite (B b : Nat) (y0 y1 y2 y3 y4 : Value) (l : List UInt8) (s : ByteArray) (w : World) (h : Wr B b y0 y1 y2 y3 y4 l w) (hlen : l.length + s.size ≤ 140737488355328) :
    Calls Tryz.prog 41 #[.pointer (some ⟨b, 5, none⟩), .string s] w fun e w' => e = .returned (.tuple #[.int .i64 s.size, .nilIface]) ∧ Wr B b y0 y1 y2 y3 y4 (l ++ s.data.toList) w' ∧ Besides B b w w' := by
  obtain ⟨i0, hi, hz0, hz1, hz2⟩ := info_parts infoByte
  obtain ⟨hbB, hBw⟩ : b < B ∧ B ≤ w.heap.size := ⟨h.choose_spec.choose_spec.2.2.2.1, h.choose_spec.choose_spec.2.2.2.2⟩
  have HW : Hid (Wr B b y0 y1 y2 y3 y4 l w) := h
  clear h
  go_enter Tryz.func41, Tryz.ntmps41
  go_wp2_with fail
  refine (wCheck B b y0 y1 y2 y3 y4 l _ HW.out).mono ?_
  rintro e w1 ⟨rfl, ⟨v, hbk, hown⟩, hb1⟩
  have hne : v.ownBlock ≠ some b := fun e => by
    rcases hown.2 with ⟨hv, _⟩ | ⟨g, cap, cur, hv, hl, _⟩
    · rw [hv] at e; cases e
    · rw [hv] at e
      simp only [Value.ownBlock, Option.some.injEq] at e
      omega
  have c0 : w1.cell? ⟨b, 5, none⟩ = some (.pointer (some ⟨b, 5, none⟩)) := by rw [Lib.cell_of_heap hbk]; rfl
  have c1 : w1.cell? ⟨b, 6, none⟩ = some v := by rw [Lib.cell_of_heap hbk]; rfl
  go_wp2_with (at_builtin; refine Lib.wpList_append_own_string _ rfl _ _ 22 9 rfl B 5 i0 Tryz.underlying22 Tryz.underlying9 hi hz0 hz1 hz2 _ _ _ rfl hown s rfl ?c3 ?c4 ?c5 ?_)
  case c3 => unfold maxLen; omega
  case c4 => omega
  case c5 => have := hb1.size; omega
  intro v' w2 hown' hgrow _
  have hlt : b < w1.heap.size := (Array.getElem?_eq_some_iff.1 hbk).1
  have hb2 : w2.heap[b]? = some (.cells #[y0, y1, y2, y3, y4, .pointer (some ⟨b, 5, none⟩), v] 49 (0, 0)) := by
    rw [hgrow.block b hlt (fun e => hne e.symm)]
    exact hbk
  have d0 : w2.cell? ⟨b, 5, none⟩ = some (.pointer (some ⟨b, 5, none⟩)) := by rw [Lib.cell_of_heap hb2]; rfl
  have d1 : w2.cell? ⟨b, 6, none⟩ = some v := by rw [Lib.cell_of_heap hb2]; rfl
  have f1 : w2.frozen? ⟨b, 6, none⟩ = false := Lib.frozen_of_heap hb2 6
  obtain ⟨ao, n', cap, rfl⟩ : ∃ ao n' cap, v' = .slice ao n' cap := by
    rcases hown'.2 with ⟨hv, _⟩ | ⟨g, cap, cur, hv, _⟩
    · exact ⟨_, _, _, hv⟩
    · exact ⟨_, _, _, hv⟩
  have hlo := fun k hk => (hown.lt k hk).1
  go_wp2
  go_ret2
  have hbs : Besides B b w1 w2 := ⟨hgrow.os, hgrow.tape, hgrow.output, hgrow.size, fun k hk _ => by
    by_cases hk2 : k < w1.heap.size
    · exact hgrow.block k hk2 (fun e => by have := hlo k e.symm; omega)
    · have := hb1.size; omega, fun k X T fz hT _ h3 => by
    rw [hgrow.block k (Array.getElem?_eq_some_iff.1 h3).1 (fun e => by
      rcases hown.2 with ⟨hv, _⟩ | ⟨g, cap, cur, hv, _, hg, _⟩
      · rw [hv] at e; cases e
      · rw [hv] at e
        simp only [Value.ownBlock, Option.some.injEq] at e
        subst e
        rw [hg] at h3
        injection h3 with h3
        injection h3 with _ h4
        exact hT h4.symm)]
    exact h3⟩
  refine ⟨rfl, ⟨.pointer (some ⟨b, 5, none⟩), .slice ao n' cap, .inr rfl, ?_, ?_, hbB, by simp; have := hb1.size; have := hbs.size; omega⟩, (hb1.trans hbs).trans ⟨rfl, rfl, rfl, by simp, fun k _ hk => Below.heap_setCell _ _ _ _ hk, fun k X T fz _ hk h3 => by rw [Below.heap_setCell _ _ _ _ hk]; exact h3⟩⟩
  · rw [heap_setCell_same w2 b 6 _ _ _ hb2]; rfl
  · have h5 : w2.ownsRow B 5 1 (.slice ao n' cap) (l ++ s.data.toList).length (Lib.byteCells (l ++ s.data.toList)) := by
      have e1 : Lib.byteCells (l ++ s.data.toList) = Lib.byteCells l ++ Lib.strCells s := by simp [Lib.byteCells, Lib.strCells]
      have e2 : (l ++ s.data.toList).length = l.length + s.size := by rw [List.length_append, ← Lib.size_eq]
      rw [e1, e2]
      exact hown'
    exact ownsRow_set_low h5 (by show b < B; exact hbB) _

theorem cellsByteW : Tryz.prog.cellsOf 5 = 1 := by kernel_rfl
set_option maxHeartbeats 1000000 in
set_option maxRecDepth 100000 in
theorem wString (B b : Nat) (y0 y1 y2 y3 y4 : Value) (l : List UInt8) (w : World) (h : Wr B b y0 y1 y2 y3 y4 l w) (h0 : l ≠ []) :
    Calls Tryz.prog 16 #[.pointer (some ⟨b, 5, none⟩)] w fun e w' => e = .returned (.string ⟨l.toArray⟩) ∧ Below B w w' := by
  obtain ⟨p, v, hp, hbk, hown, hbB, hBw⟩ := h
  have hl0 : l.length ≠ 0 := by simpa using h0
  obtain ⟨g, cap, cur, rfl, hbg, hg, hnc, hcm, hcs, htake⟩ : ∃ g cap cur, v = .slice (some ⟨g, 0, none⟩) l.length cap ∧ B ≤ g ∧ w.heap[g]? = some (.cells cur 5 (0, 0)) ∧ l.length ≤ cap ∧ cap ≤ maxLen ∧ cur.size = cap * 1 ∧ cur.toList.take (l.length * 1) = Lib.byteCells l := by
    rcases hown.2 with ⟨_, hz⟩ | ⟨g, cap, cur, hv, r⟩
    · exact absurd hz hl0
    · exact ⟨g, cap, cur, hv, r⟩
  have c1 : w.drew.cell? ⟨b, 6, none⟩ = some (.slice (some ⟨g, 0, none⟩) l.length cap) := by
    have : w.drew.heap[b]? = some (.cells #[y0, y1, y2, y3, y4, p, .slice (some ⟨g, 0, none⟩) l.length cap] 49 (0, 0)) := hbk
    rw [Lib.cell_of_heap this]; rfl
  have hSD : (Builtin.unsafeSliceData_ #[22] 70 #[.slice (some ⟨g, 0, none⟩) l.length cap]).run Tryz.prog w.drew = .ok (.pointer (some ⟨g, 0, none⟩)) w.drew :=
    Lib.run_unsafeSliceData_row _ _ _ _ _ _ (by omega)
  have hUS : (Builtin.unsafeString_ #[70, 3] 9 #[.pointer (some ⟨g, 0, none⟩), .int .i64 l.length]).run Tryz.prog w.drew = .ok (.string ⟨l.toArray⟩) (w.drew.freeze ⟨g, 0, none⟩ l.length) := by
    refine Lib.run_unsafeString_row w.drew 70 3 9 5 Tryz.underlying70 cellsByteW g cur.size (by have hg' : w.drew.heap[g]? = some (.cells cur 5 (0, 0)) := hg; simp [World.shape?, hg']) l h0 (by omega) (by unfold maxLen at hcm; omega) ?_
    intro j x hx
    have := hown.cells (g := g) rfl j (.int .u8 x.toNat) (by simp [Lib.byteCells, hx])
    exact this
  clear hown htake hp
  go_enter Tryz.func16, Tryz.ntmps16
  go_wp2
  go_region
  all_goals (go_wp2; go_ret; exact ⟨rfl, Lib.below_freeze (Below.drew (Below.refl B w)) (p := ⟨g, 0, none⟩) hbg _⟩)

set_option maxHeartbeats 1000000 in
set_option maxRecDepth 100000 in
theorem wLine (B b : Nat) (y0 y1 y2 y3 y4 : Value) (l : List UInt8) (s : ByteArray) (w : World) (h : Wr B b y0 y1 y2 y3 y4 l w) (hs : s.size ≤ 4194304) (hl : l.length ≤ 68719476736) :
    Calls Tryz.prog 38 #[.pointer (some ⟨b, 0, none⟩), .string s] w fun e w' => e = .returned (.tuple #[]) ∧ Wr B b y0 y1 y2 y3 y4 (l ++ (s.data.toList ++ [13, 10])) w' ∧ Besides B b w w' := by
  have HW : Hid (Wr B b y0 y1 y2 y3 y4 l w) := h
  clear h
  have e2 : (⟨#[13, 10]⟩ : ByteArray).size = 2 := rfl
  go_enter Tryz.func38, Tryz.ntmps38
  go_wp2_with fail
  refine (wWrite B b y0 y1 y2 y3 y4 l _ _ HW.out (by rw [ByteArray.size_append]; omega)).mono ?_
  rintro e w1 ⟨rfl, h1, hb⟩
  go_wp2
  go_end0
  refine ⟨rfl, ?_, hb⟩
  have : (s ++ (⟨#[13, 10]⟩ : ByteArray)).data.toList = s.data.toList ++ [13, 10] := by simp
  rw [this] at h1
  exact h1
end Go.Proofs.YtlolnfpfipnfeaaGreatDoor
namespace Go.Proofs.YtlolnfpfipnfeaaGreatDoor
open Go.ChangeShapes Go.WideShapes Go.ChangeAt Go.RowKit
open Pcs

def partL : List UInt8 := [67, 111, 110, 116, 101, 110, 116, 45, 84, 121, 112, 101, 58, 32]
theorem len_line (l : List UInt8) (s : ByteArray) : (l ++ (s.data.toList ++ [13, 10])).length = l.length + s.size + 2 := by
  rw [List.length_append, List.length_append, ← Lib.size_eq]; simp; omega
theorem heap_newW (w : World) (X : Array Value) (T : TypeId) : (w.alloc (.cells X T)).heap[w.heap.size]? = some (.cells X T (0, 0)) := Array.getElem?_push_size

set_option maxHeartbeats 1000000 in
set_option maxRecDepth 100000 in
theorem wPart (B b : Nat) (y0 y1 y2 y3 : Value) (bd : ByteArray) (l : List UInt8) (k : ByteArray) (w : World) (h : Wr B b y0 y1 y2 y3 (.string bd) l w) (hk : k.size ≤ 1000) (hbd : bd.size ≤ 1000) (hl : l.length ≤ 34359738368) :
    Calls Tryz.prog 39 #[.pointer (some ⟨b, 0, none⟩), .string k] w fun e w' => e = .returned (.tuple #[]) ∧ Wr B b y0 y1 y2 y3 (.string bd) (l ++ flatL [45 :: 45 :: bd.data.toList, partL ++ k.data.toList, []]) w' ∧ Besides B b w w' := by
  have HW : Hid (Wr B b y0 y1 y2 y3 (.string bd) l w) := h
  have k4 := h.cells.2.2.2.2
  clear h
  have e2 : (⟨#[45, 45]⟩ : ByteArray).size = 2 := rfl
  have e14 : (⟨#[67, 111, 110, 116, 101, 110, 116, 45, 84, 121, 112, 101, 58, 32]⟩ : ByteArray).size = 14 := rfl
  have e0 : (⟨#[]⟩ : ByteArray).size = 0 := rfl
  go_enter Tryz.func39, Tryz.ntmps39
  go_wp2_with fail
  refine (wLine B b y0 y1 y2 y3 (.string bd) l ((⟨#[45, 45]⟩ : ByteArray) ++ bd) _ HW.out (by rw [ByteArray.size_append]; omega) (by omega)).mono ?_
  rintro e w1 ⟨rfl, h1, hb1⟩
  obtain ⟨l1, Er⟩ : ∃ l1, l ++ (((⟨#[45, 45]⟩ : ByteArray) ++ bd : ByteArray).data.toList ++ [13, 10]) = l1 := ⟨_, rfl⟩
  have E1 : Hid (l ++ (((⟨#[45, 45]⟩ : ByteArray) ++ bd : ByteArray).data.toList ++ [13, 10]) = l1) := Er
  clear Er
  have n1 : l1.length = l.length + ((⟨#[45, 45]⟩ : ByteArray) ++ bd : ByteArray).size + 2 := by rw [← E1.out, len_line]
  rw [ByteArray.size_append] at n1
  rw [E1.out] at h1
  have HW1 : Hid (Wr B b y0 y1 y2 y3 (.string bd) l1 w1) := h1
  clear h1
  clear k4
  go_wp2_with fail
  refine (wLine B b y0 y1 y2 y3 (.string bd) l1 ((⟨#[67, 111, 110, 116, 101, 110, 116, 45, 84, 121, 112, 101, 58, 32]⟩ : ByteArray) ++ k) _ HW1.out (by rw [ByteArray.size_append]; omega) (by omega)).mono ?_
  rintro e w2 ⟨rfl, h2, hb2⟩
  obtain ⟨l2, Er⟩ : ∃ l2, l1 ++ (((⟨#[67, 111, 110, 116, 101, 110, 116, 45, 84, 121, 112, 101, 58, 32]⟩ : ByteArray) ++ k : ByteArray).data.toList ++ [13, 10]) = l2 := ⟨_, rfl⟩
  have E2 : Hid (l1 ++ (((⟨#[67, 111, 110, 116, 101, 110, 116, 45, 84, 121, 112, 101, 58, 32]⟩ : ByteArray) ++ k : ByteArray).data.toList ++ [13, 10]) = l2) := Er
  clear Er
  have n2 : l2.length = l1.length + ((⟨#[67, 111, 110, 116, 101, 110, 116, 45, 84, 121, 112, 101, 58, 32]⟩ : ByteArray) ++ k : ByteArray).size + 2 := by rw [← E2.out, len_line]
  rw [ByteArray.size_append] at n2
  rw [E2.out] at h2
  have HW2 : Hid (Wr B b y0 y1 y2 y3 (.string bd) l2 w2) := h2
  clear h2
  go_wp2_with fail
  refine (wLine B b y0 y1 y2 y3 (.string bd) l2 (⟨#[]⟩) _ HW2.out (by decide) (by omega)).mono ?_
  rintro e w3 ⟨rfl, h3, hb3⟩
  obtain ⟨l3, Er⟩ : ∃ l3, l2 ++ ((⟨#[]⟩ : ByteArray).data.toList ++ [13, 10]) = l3 := ⟨_, rfl⟩
  have E3 : Hid (l2 ++ ((⟨#[]⟩ : ByteArray).data.toList ++ [13, 10]) = l3) := Er
  clear Er
  have n3 : l3.length = l2.length + (⟨#[]⟩ : ByteArray).size + 2 := by rw [← E3.out, len_line]
  rw [E3.out] at h3
  have HW3 : Hid (Wr B b y0 y1 y2 y3 (.string bd) l3 w3) := h3
  clear h3
  go_wp2
  go_end0
  refine ⟨rfl, ?_, (hb1.trans hb2).trans hb3⟩
  have e : l3 = l ++ flatL [45 :: 45 :: bd.data.toList, partL ++ k.data.toList, []] := by
    rw [← E3.out, ← E2.out, ← E1.out]
    simp [flatL, partL]
  rw [← e]
  exact HW3.out

set_option maxHeartbeats 2000000 in
set_option maxRecDepth 100000 in
theorem wFailure (B b : Nat) (y0 y1 y2 y3 y4 : Value) (l : List UInt8) (f : Fl) (w w0 : World) (he : Env w0) (hw0 : Below w0.heap.size w0 w) (hlo : w0.heap.size ≤ b) (h : Wr B b y0 y1 y2 y3 y4 l w) (hf : FlZ f) (hc : 0 ≤ f.cd ∧ f.cd ≤ 1000) (hl : l.length ≤ 34359738368) :
    Calls Tryz.prog 40 #[.pointer (some ⟨b, 0, none⟩), flV f] w fun e w' => e = .returned (.tuple #[]) ∧ Wr B b y0 y1 y2 y3 y4 (l ++ flatL (flLines f)) w' ∧ Besides B b w w' := by
  obtain ⟨rc, st, cd, tx⟩ := f
  obtain ⟨z1, z2, z4⟩ := hf
  dsimp only at z1 z2 z4 hc
  have hBw : B ≤ w.heap.size := h.choose_spec.choose_spec.2.2.2.2
  have hbB : b < B := h.choose_spec.choose_spec.2.2.2.1
  unfold flV flLines
  dsimp only
  have eR : (⟨#[70, 105, 110, 97, 108, 45, 82, 101, 99, 105, 112, 105, 101, 110, 116, 58, 32, 114, 102, 99, 56, 50, 50, 59, 32]⟩ : ByteArray).size = 25 := rfl
  have eA : (⟨#[65, 99, 116, 105, 111, 110, 58, 32, 102, 97, 105, 108, 101, 100]⟩ : ByteArray).size = 14 := rfl
  have eS : (⟨#[83, 116, 97, 116, 117, 115, 58, 32]⟩ : ByteArray).size = 8 := rfl
  have eD : (⟨#[68, 105, 97, 103, 110, 111, 115, 116, 105, 99, 45, 67, 111, 100, 101, 58, 32, 115, 109, 116, 112, 59, 32]⟩ : ByteArray).size = 23 := rfl
  have e1 : (⟨#[32]⟩ : ByteArray).size = 1 := rfl
  have e0 : (⟨#[]⟩ : ByteArray).size = 0 := rfl
  have HIT : Hid (∀ wx : World, Env wx → Calls Tryz.prog 36 #[.int .i64 cd] wx fun e w' => e = .returned (.string ⟨(Lib.itoa cd).toArray⟩) ∧ Below wx.heap.size wx w') := fun wx hx => implItoa cd wx hx hc.1 (by omega)
  have hds : (⟨(Lib.itoa cd).toArray⟩ : ByteArray).size ≤ 4 := by
    have := dec_len 4 cd.toNat (by omega) (by decide)
    unfold Lib.itoa
    rw [if_neg (by omega)]
    show (Lib.decDigits cd.toNat).toArray.size ≤ 4
    simpa using this
  have HD0 : Hid ((⟨(Lib.itoa cd).toArray⟩ : ByteArray).data.toList = Lib.itoa cd) := rfl
  generalize (⟨(Lib.itoa cd).toArray⟩ : ByteArray) = D at *
  have HE : Hid (∀ wx, Besides B b w wx → Env wx) := fun wx hx => he.below (hw0.trans (hx.below hlo (by omega)))
  have HW0 : Hid (Wr B b y0 y1 y2 y3 y4 l w) := h
  clear he h hw0
  go_enter Tryz.func40, Tryz.ntmps40
  go_wp2_with fail
  generalize hV : w.alloc _ = V
  have hbV : Below w.heap.size w V := by rw [← hV]; exact below1 _ _
  have HF0 : V.heap[w.heap.size]? = some (.cells #[.string rc, .string st, .int .i64 cd, .string tx] 31 (0, 0)) := by rw [← hV]; exact heap_newW _ _ _
  have HW : Hid (Wr B b y0 y1 y2 y3 y4 l V) := HW0.out.below hbV
  have hBV : Besides B b w V := Besides.of_below hbV hBw
  have nfb : w.heap.size ≠ b := by omega
  clear hV
  refine (wLine B b y0 y1 y2 y3 y4 l (⟨#[]⟩) _ HW.out (by decide) (by omega)).mono ?_
  rintro e w1 ⟨rfl, h1, hb1⟩
  obtain ⟨l1, Er⟩ : ∃ l1, l ++ ((⟨#[]⟩ : ByteArray).data.toList ++ [13, 10]) = l1 := ⟨_, rfl⟩
  have E1 : Hid (l ++ ((⟨#[]⟩ : ByteArray).data.toList ++ [13, 10]) = l1) := Er
  clear Er
  have n1 : l1.length = l.length + (⟨#[]⟩ : ByteArray).size + 2 := by rw [← E1.out, len_line]
  rw [E1.out] at h1
  have HW1 : Hid (Wr B b y0 y1 y2 y3 y4 l1 w1) := h1
  clear h1
  have HF1 := hb1.kept _ _ _ _ (by decide) nfb HF0
  have c0 : w1.cell? ⟨w.heap.size, 0, none⟩ = some (.string rc) := by rw [Lib.cell_of_heap HF1]; rfl
  go_wp2_with fail
  refine (wLine B b y0 y1 y2 y3 y4 l1 ((⟨#[70, 105, 110, 97, 108, 45, 82, 101, 99, 105, 112, 105, 101, 110, 116, 58, 32, 114, 102, 99, 56, 50, 50, 59, 32]⟩ : ByteArray) ++ rc) _ HW1.out (by rw [ByteArray.size_append]; omega) (by omega)).mono ?_
  rintro e w2 ⟨rfl, h2, hb2⟩
  obtain ⟨l2, Er⟩ : ∃ l2, l1 ++ (((⟨#[70, 105, 110, 97, 108, 45, 82, 101, 99, 105, 112, 105, 101, 110, 116, 58, 32, 114, 102, 99, 56, 50, 50, 59, 32]⟩ : ByteArray) ++ rc : ByteArray).data.toList ++ [13, 10]) = l2 := ⟨_, rfl⟩
  have E2 : Hid (l1 ++ (((⟨#[70, 105, 110, 97, 108, 45, 82, 101, 99, 105, 112, 105, 101, 110, 116, 58, 32, 114, 102, 99, 56, 50, 50, 59, 32]⟩ : ByteArray) ++ rc : ByteArray).data.toList ++ [13, 10]) = l2) := Er
  clear Er
  have n2 : l2.length = l1.length + ((⟨#[70, 105, 110, 97, 108, 45, 82, 101, 99, 105, 112, 105, 101, 110, 116, 58, 32, 114, 102, 99, 56, 50, 50, 59, 32]⟩ : ByteArray) ++ rc : ByteArray).size + 2 := by rw [← E2.out, len_line]
  rw [ByteArray.size_append] at n2
  rw [E2.out] at h2
  have HW2 : Hid (Wr B b y0 y1 y2 y3 y4 l2 w2) := h2
  clear h2
  clear c0
  have HF2 := hb2.kept _ _ _ _ (by decide) nfb HF1
  go_wp2_with fail
  refine (wLine B b y0 y1 y2 y3 y4 l2 (⟨#[65, 99, 116, 105, 111, 110, 58, 32, 102, 97, 105, 108, 101, 100]⟩) _ HW2.out (by decide) (by omega)).mono ?_
  rintro e w3 ⟨rfl, h3, hb3⟩
  obtain ⟨l3, Er⟩ : ∃ l3, l2 ++ ((⟨#[65, 99, 116, 105, 111, 110, 58, 32, 102, 97, 105, 108, 101, 100]⟩ : ByteArray).data.toList ++ [13, 10]) = l3 := ⟨_, rfl⟩
  have E3 : Hid (l2 ++ ((⟨#[65, 99, 116, 105, 111, 110, 58, 32, 102, 97, 105, 108, 101, 100]⟩ : ByteArray).data.toList ++ [13, 10]) = l3) := Er
  clear Er
  have n3 : l3.length = l2.length + (⟨#[65, 99, 116, 105, 111, 110, 58, 32, 102, 97, 105, 108, 101, 100]⟩ : ByteArray).size + 2 := by rw [← E3.out, len_line]
  rw [E3.out] at h3
  have HW3 : Hid (Wr B b y0 y1 y2 y3 y4 l3 w3) := h3
  clear h3
  have HF3 := hb3.kept _ _ _ _ (by decide) nfb HF2
  have c1 : w3.cell? ⟨w.heap.size, 1, none⟩ = some (.string st) := by rw [Lib.cell_of_heap HF3]; rfl
  go_wp2_with fail
  refine (wLine B b y0 y1 y2 y3 y4 l3 ((⟨#[83, 116, 97, 116, 117, 115, 58, 32]⟩ : ByteArray) ++ st) _ HW3.out (by rw [ByteArray.size_append]; omega) (by omega)).mono ?_
  rintro e w4 ⟨rfl, h4, hb4⟩
  obtain ⟨l4, Er⟩ : ∃ l4, l3 ++ (((⟨#[83, 116, 97, 116, 117, 115, 58, 32]⟩ : ByteArray) ++ st : ByteArray).data.toList ++ [13, 10]) = l4 := ⟨_, rfl⟩
  have E4 : Hid (l3 ++ (((⟨#[83, 116, 97, 116, 117, 115, 58, 32]⟩ : ByteArray) ++ st : ByteArray).data.toList ++ [13, 10]) = l4) := Er
  clear Er
  have n4 : l4.length = l3.length + ((⟨#[83, 116, 97, 116, 117, 115, 58, 32]⟩ : ByteArray) ++ st : ByteArray).size + 2 := by rw [← E4.out, len_line]
  rw [ByteArray.size_append] at n4
  rw [E4.out] at h4
  have HW4 : Hid (Wr B b y0 y1 y2 y3 y4 l4 w4) := h4
  clear h4
  clear c1
  have HF4 := hb4.kept _ _ _ _ (by decide) nfb HF3
  have c2 : w4.cell? ⟨w.heap.size, 2, none⟩ = some (.int .i64 cd) := by rw [Lib.cell_of_heap HF4]; rfl
  have c3 : w4.cell? ⟨w.heap.size, 3, none⟩ = some (.string tx) := by rw [Lib.cell_of_heap HF4]; rfl
  have HE4 : Hid (Env w4) := HE.out _ ((((hBV.trans hb1).trans hb2).trans hb3).trans hb4)
  obtain ⟨s1, hs1⟩ : ∃ s1, (⟨#[68, 105, 97, 103, 110, 111, 115, 116, 105, 99, 45, 67, 111, 100, 101, 58, 32, 115, 109, 116, 112, 59, 32]⟩ : ByteArray) ++ D = s1 := ⟨_, rfl⟩
  obtain ⟨s2, hs2⟩ : ∃ s2, s1 ++ (⟨#[32]⟩ : ByteArray) = s2 := ⟨_, rfl⟩
  obtain ⟨s3, hs3⟩ : ∃ s3, s2 ++ tx = s3 := ⟨_, rfl⟩
  have hz1 : s1.size ≤ 30 := by rw [← hs1, ByteArray.size_append]; omega
  have hz2 : s2.size ≤ 31 := by rw [← hs2, ByteArray.size_append]; omega
  have hz3 : s3.size ≤ 1048610 := by rw [← hs3, ByteArray.size_append]; omega
  have ha1 : ∀ wx : World, (Op.stringOp .add (⟨#[68, 105, 97, 103, 110, 111, 115, 116, 105, 99, 45, 67, 111, 100, 101, 58, 32, 115, 109, 116, 112, 59, 32]⟩ : ByteArray) D).run Tryz.prog wx = .ok (.string s1) wx := fun wx => by rw [← hs1]; exact run_string_add_sum wx _ _ (by omega)
  have ha2 : ∀ wx : World, (Op.stringOp .add s1 (⟨#[32]⟩ : ByteArray)).run Tryz.prog wx = .ok (.string s2) wx := fun wx => by rw [← hs2]; exact run_string_add_sum wx _ _ (by omega)
  have ha3 : ∀ wx : World, (Op.stringOp .add s2 tx).run Tryz.prog wx = .ok (.string s3) wx := fun wx => by rw [← hs3]; exact run_string_add_sum wx _ _ (by omega)
  have HS3 : Hid (s3.data.toList = dgL ++ (Lib.itoa cd ++ (32 :: tx.data.toList))) := by
    show _ = _
    rw [← hs3, ← hs2, ← hs1]
    simp [HD0.out, dgL]
  clear hs1 hs2 hs3
  have HFb : Hid (∀ wx : World, Below w4.heap.size w4 wx → wx.heap[w.heap.size]? = some (.cells #[.string rc, .string st, .int .i64 cd, .string tx] 31 (0, 0))) := fun wx hx => by rw [hx.block _ (Array.getElem?_eq_some_iff.1 HF4).1]; exact HF4
  have HCk : Hid (∀ wx : World, wx.heap[w.heap.size]? = some (.cells #[.string rc, .string st, .int .i64 cd, .string tx] 31 (0, 0)) → wx.cell? ⟨w.heap.size, 2, none⟩ = some (.int .i64 cd) ∧ wx.cell? ⟨w.heap.size, 3, none⟩ = some (.string tx)) := fun wx hx => ⟨by rw [Lib.cell_of_heap hx]; rfl, by rw [Lib.cell_of_heap hx]; rfl⟩
  go_upto_region 5 with fail
  go_region_held3 (fun w' => w'.cell? ⟨w.heap.size, 2, none⟩ = some (.int .i64 cd) ∧ w'.cell? ⟨w.heap.size, 3, none⟩ = some (.string tx)) (first | assumption | (exact ⟨k2, k3⟩) | go_keep) (first | (go_at_call 36; refine (HIT.out _ (HE4.out.below (Below.refl w4.heap.size w4).drew)).mono ?_; rintro e w5 ⟨rfl, hb⟩; have HB5 : Hid (Below w4.heap.size w4 w5) := (Below.refl w4.heap.size w4).drew.trans hb; have k2 := (HB5.out.cell (p := ⟨w.heap.size, 2, none⟩) (Lib.lt_of_cell c2)).trans c2; have k3 := (HB5.out.cell (p := ⟨w.heap.size, 3, none⟩) (Lib.lt_of_cell c3)).trans c3; clear hb) | (go_at_call 38; refine (wLine B b y0 y1 y2 y3 y4 l4 s3 _ (HW4.out.below HB5.out) (by omega) (by omega)).mono ?_; rintro e w6 ⟨rfl, h6, hb6⟩; have HF6 := hb6.kept _ _ _ _ (by decide) nfb (HFb.out _ HB5.out); have k2 := (HCk.out _ HF6).1; have k3 := (HCk.out _ HF6).2))
  go_wp2
  go_end0
  refine ⟨rfl, ?_, ((((hBV.trans hb1).trans hb2).trans hb3).trans hb4).trans ((Besides.of_below HB5.out (Nat.le_trans hBw (Nat.le_trans hBV.size (Nat.le_trans hb1.size (Nat.le_trans hb2.size (Nat.le_trans hb3.size hb4.size)))))).trans hb6)⟩
  have e : l4 ++ (s3.data.toList ++ [13, 10]) = l ++ flatL [[], rcL ++ rc.data.toList, acL, stL ++ st.data.toList, dgL ++ (Lib.itoa cd ++ (32 :: tx.data.toList))] := by
    rw [HS3.out, ← E4.out, ← E3.out, ← E2.out, ← E1.out]
    simp [flatL, rcL, acL, stL]
  rw [← e]
  exact h6
end Go.Proofs.YtlolnfpfipnfeaaGreatDoor
