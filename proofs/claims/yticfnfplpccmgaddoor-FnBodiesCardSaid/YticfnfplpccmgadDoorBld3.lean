import Derived.Test.YticfnfplpccmgadDoorBld
namespace Go.Proofs.YticfnfplpccmgadDoor
open Go.ChangeShapes Go.WideShapes Go.ChangeAt Go.RowKit

/-- a builder in block b whose bytes lie from B on, B behind b -/
def BldS (B b : Nat) (bs : List Value) (w : World) : Prop :=
  ∃ p v, (p = .pointer none ∨ p = .pointer (some ⟨b, 0, none⟩)) ∧ w.heap[b]? = some (.cells #[p, v] 67 (0, 0)) ∧ w.ownsRow B 5 1 v bs.length bs ∧ b < B ∧ B ≤ w.heap.size
/-- below B all but block b stands as it stood -/
structure Besides (B b : Nat) (w w' : World) : Prop where
  os : w'.os = w.os
  tape : w'.tape = w.tape
  output : w'.output = w.output
  size : w.heap.size ≤ w'.heap.size
  block : ∀ k, k < B → k ≠ b → w'.heap[k]? = w.heap[k]?
theorem Besides.refl (B b : Nat) (w : World) : Besides B b w w := ⟨rfl, rfl, rfl, Nat.le_refl _, fun _ _ _ => rfl⟩
theorem Besides.trans {B b : Nat} {w w1 w2 : World} (h : Besides B b w w1) (k : Besides B b w1 w2) : Besides B b w w2 :=
  ⟨k.os.trans h.os, k.tape.trans h.tape, k.output.trans h.output, Nat.le_trans h.size k.size, fun j h1 h2 => (k.block j h1 h2).trans (h.block j h1 h2)⟩
theorem Besides.below {B b lo : Nat} {w w' : World} (h : Besides B b w w') (h1 : lo ≤ b) (h2 : lo ≤ B) : Below lo w w' :=
  ⟨h.os, h.tape, h.output, h.size, fun k hk => h.block k (by omega) (by omega)⟩
theorem Besides.cell {B b : Nat} {w w' : World} (h : Besides B b w w') {g o : Nat} (h1 : g < B) (h2 : g ≠ b) : w'.cell? ⟨g, o, none⟩ = w.cell? ⟨g, o, none⟩ := by
  simp only [World.cell?]; rw [h.block g h1 h2]
theorem Besides.strs {B b lo : Nat} {w w' : World} (h : Besides B b w w') {v : Value} {L : List ByteArray} (hv : w.ownsRow lo 9 1 v L.length (L.map Value.string)) (hlt : ∀ g, v.ownBlock = some g → g < B ∧ g ≠ b) : w'.ownsRow lo 9 1 v L.length (L.map Value.string) := by
  refine ⟨hv.1, ?_⟩
  rcases hv.2 with h0 | ⟨g, cap, cur, e, hl, hg, rest⟩
  · exact .inl h0
  · refine .inr ⟨g, cap, cur, e, hl, ?_, rest⟩
    have := hlt g (by rw [e]; rfl)
    rw [h.block g this.1 this.2]; exact hg

theorem bldS_is {B b lo : Nat} {bs : List Value} {w : World} (h : BldS B b bs w) (hl : lo ≤ b) : Lib.IsBuilder 67 5 lo b bs w := by
  obtain ⟨p, v, hp, hb, hown, h1, h2⟩ := h
  have hne : v.ownBlock ≠ some b := Lib.ownBlock_ne hown hb (by decide)
  have hown' : w.ownsRow lo 5 1 v bs.length bs := Go.Joins.ownsRow_le hown (by omega)
  rcases hp with rfl | rfl
  · exact .inl ⟨hl, v, hb, hown', hne⟩
  · exact .inr ⟨hl, v, hb, hown', hne⟩
theorem bldS_below {B b : Nat} {bs : List Value} {w w1 : World} (h : BldS B b bs w) (hb1 : Below w.heap.size w w1) : BldS B b bs w1 := by
  obtain ⟨p, v, hp, hb, hown, h1, h2⟩ := h
  refine ⟨p, v, hp, by rw [hb1.block b (Array.getElem?_eq_some_iff.1 hb).1]; exact hb, ⟨hown.1, ?_⟩, h1, Nat.le_trans h2 hb1.size⟩
  rcases hown.2 with h0 | ⟨g, cap, cur, hv, hl, hg, rest⟩
  · exact .inl h0
  · refine .inr ⟨g, cap, cur, hv, hl, ?_, rest⟩
    rw [hb1.block g (Array.getElem?_eq_some_iff.1 hg).1]; exact hg
/-- a fresh builder, with whatever was laid behind it -/
theorem bldS_fresh {w w1 : World} (hb : w1.heap[w.heap.size]? = some (.cells #[.pointer none, .slice none 0 0] 67 (0, 0))) : BldS w1.heap.size w.heap.size [] w1 :=
  ⟨_, _, .inl rfl, hb, World.ownsRow_nil _ _ _ _, (Array.getElem?_eq_some_iff.1 hb).1, Nat.le_refl _⟩

theorem bCheck2 (B b : Nat) (bs : List Value) (w : World) (h : BldS B b bs w) :
    Calls Tryd.prog 73 #[.pointer (some ⟨b, 0, none⟩)] w fun e w' => e = .returned (.tuple #[]) ∧ (∃ v, w'.heap[b]? = some (.cells #[.pointer (some ⟨b, 0, none⟩), v] 67 (0, 0)) ∧ w'.ownsRow B 5 1 v bs.length bs) ∧ Besides B b w w' := by
  have hI := bldS_is h (Nat.zero_le b)
  obtain ⟨p, v, hp, hb, hown, h1, h2⟩ := h
  rcases hp with rfl | rfl
  · have hI0 : Lib.BuilderAt 67 5 0 b (.pointer none) bs w := by
      rcases hI with h | h
      · exact h
      · obtain ⟨_, v', hb', _⟩ := h
        rw [hb] at hb'; simp at hb'
    refine (bFresh b w hI0.cell0 hI0.shape hI0.frozen0).mono ?_
    rintro e w' ⟨rfl, rfl⟩
    refine ⟨rfl, ⟨v, ?_, ownsRow_setCell_below hown (by show b < B; exact h1) _⟩, ⟨rfl, rfl, rfl, by simp, fun k _ hk => Below.heap_setCell _ _ _ _ hk⟩⟩
    rw [heap_setCell_same w b 0 _ _ _ hb]; rfl
  · refine (bUsed b w (by simp [World.cell?, hb])).mono ?_
    rintro e w' ⟨rfl, rfl⟩
    exact ⟨rfl, ⟨v, hb, hown⟩, Besides.refl _ _ _⟩

set_option maxHeartbeats 1000000 in
set_option maxRecDepth 100000 in
theorem bWrite2 (B b : Nat) (bs : List Value) (s : ByteArray) (w : World) (h : BldS B b bs w) (hlen : bs.length + s.size ≤ 140737488355328) :
    Calls Tryd.prog 40 #[.pointer (some ⟨b, 0, none⟩), .string s] w fun e w' => e = .returned (.tuple #[.int .i64 s.size, .nilIface]) ∧ BldS B b (bs ++ Lib.strCells s) w' ∧ Besides B b w w' := by
  obtain ⟨i0, hi, hz0, hz1, hz2⟩ := info_parts infoByte
  obtain ⟨hbB, hBw⟩ : b < B ∧ B ≤ w.heap.size := ⟨h.choose_spec.choose_spec.2.2.2.1, h.choose_spec.choose_spec.2.2.2.2⟩
  go_enter Tryd.func40, Tryd.ntmps40
  go_wp2_with fail
  refine (bCheck2 B b bs _ h).mono ?_
  rintro e w1 ⟨rfl, ⟨v, hbk, hown⟩, hb1⟩
  have hne : v.ownBlock ≠ some b := Lib.ownBlock_ne hown hbk (by decide)
  have c0 : w1.cell? ⟨b, 0, none⟩ = some (.pointer (some ⟨b, 0, none⟩)) := by rw [Lib.cell_of_heap hbk]; rfl
  have c1 : w1.cell? ⟨b, 1, none⟩ = some v := by rw [Lib.cell_of_heap hbk]; rfl
  go_wp2_with (at_builtin; refine Lib.wpList_append_own_string _ rfl _ _ 22 9 rfl B 5 i0 Tryd.underlying22 Tryd.underlying9 hi hz0 hz1 hz2 _ _ _ rfl hown s rfl ?c3 ?c4 ?c5 ?_)
  case c3 => unfold maxLen; omega
  case c4 => omega
  case c5 => have := hb1.size; omega
  intro v' w2 hown' hgrow _
  have hlt : b < w1.heap.size := (Array.getElem?_eq_some_iff.1 hbk).1
  have hb2 : w2.heap[b]? = some (.cells #[.pointer (some ⟨b, 0, none⟩), v] 67 (0, 0)) := by
    rw [hgrow.block b hlt (fun e => hne e.symm)]
    exact hbk
  have d0 : w2.cell? ⟨b, 0, none⟩ = some (.pointer (some ⟨b, 0, none⟩)) := by rw [Lib.cell_of_heap hb2]; rfl
  have d1 : w2.cell? ⟨b, 1, none⟩ = some v := by rw [Lib.cell_of_heap hb2]; rfl
  have f1 : w2.frozen? ⟨b, 1, none⟩ = false := Lib.frozen_of_heap hb2 1
  obtain ⟨ao, n', cap, rfl⟩ : ∃ ao n' cap, v' = .slice ao n' cap := by
    rcases hown'.2 with ⟨hv, _⟩ | ⟨g, cap, cur, hv, _⟩
    · exact ⟨_, _, _, hv⟩
    · exact ⟨_, _, _, hv⟩
  have hlo := fun k hk => (hown.lt k hk).1
  go_wp2
  go_ret2
  have hbs : Besides B b w1 w2 := ⟨hgrow.os, hgrow.tape, hgrow.output, hgrow.size, fun k hk _ => by
    by_cases hk2 : k < w1.heap.size
    · exact hgrow.block k hk2 (fun e => by have := hlo k e.symm; omega)
    · have := hb1.size; omega⟩
  refine ⟨rfl, ⟨.pointer (some ⟨b, 0, none⟩), .slice ao n' cap, .inr rfl, ?_, ?_, hbB, by simp; have := hb1.size; have := hbs.size; omega⟩, (hb1.trans hbs).trans ⟨rfl, rfl, rfl, by simp, fun k _ hk => Below.heap_setCell _ _ _ _ hk⟩⟩
  · rw [heap_setCell_same w2 b 1 _ _ _ hb2]; rfl
  · have h5 : w2.ownsRow B 5 1 (.slice ao n' cap) (bs ++ Lib.strCells s).length (bs ++ Lib.strCells s) := by simpa [Lib.strCells_length] using hown'
    exact ownsRow_setCell_below h5 (by show b < B; exact hbB) _
end Go.Proofs.YticfnfplpccmgadDoor
