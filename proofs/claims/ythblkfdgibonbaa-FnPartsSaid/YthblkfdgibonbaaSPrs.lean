import Derived.Test.YthblkfdgibonbaaSLin
import Derived.Test.YthblkfdgibonbaaSpSpl
namespace Go.Proofs.Ythblkfdgibonbaa
open Go.ChangeShapes Go.WideShapes Go.ChangeAt Go.RowKit
open Pcs

/-- below B all but block b stands as it stood -/
structure Bes (B b : Nat) (w w' : World) : Prop where
  os : w'.os = w.os
  tape : w'.tape = w.tape
  output : w'.output = w.output
  size : w.heap.size ≤ w'.heap.size
  block : ∀ k, k < B → k ≠ b → w'.heap[k]? = w.heap[k]?
theorem Bes.refl (B b : Nat) (w : World) : Bes B b w w := ⟨rfl, rfl, rfl, Nat.le_refl _, fun _ _ _ => rfl⟩
theorem Bes.trans {B b : Nat} {w w1 w2 : World} (h : Bes B b w w1) (k : Bes B b w1 w2) : Bes B b w w2 :=
  ⟨k.os.trans h.os, k.tape.trans h.tape, k.output.trans h.output, Nat.le_trans h.size k.size, fun j h1 h2 => (k.block j h1 h2).trans (h.block j h1 h2)⟩
theorem Bes.below {B b lo : Nat} {w w' : World} (h : Bes B b w w') (h1 : lo ≤ b) (h2 : lo ≤ B) : Below lo w w' :=
  ⟨h.os, h.tape, h.output, h.size, fun k hk => h.block k (by omega) (by omega)⟩
theorem Bes.of {B b lo : Nat} {w w' : World} (h : Below lo w w') (h1 : B ≤ lo) : Bes B b w w' :=
  ⟨h.os, h.tape, h.output, h.size, fun k hk _ => h.block k (by omega)⟩
theorem Bes.cell {B b : Nat} {w w' : World} (h : Bes B b w w') {g o : Nat} (h1 : g < B) (h2 : g ≠ b) : w'.cell? ⟨g, o, none⟩ = w.cell? ⟨g, o, none⟩ := by
  simp only [World.cell?]; rw [h.block g h1 h2]
theorem Bes.frozen {B b : Nat} {w w' : World} (h : Bes B b w w') {g o : Nat} (h1 : g < B) (h2 : g ≠ b) : w'.frozen? ⟨g, o, none⟩ = w.frozen? ⟨g, o, none⟩ := by
  simp only [World.frozen?]; rw [h.block g h1 h2]

set_option maxHeartbeats 1000000 in
set_option maxRecDepth 100000 in
theorem keepN (s : ByteArray) (n : Nat) (w : World) :
    Calls Try.prog 30 #[.string s, .int .i64 (n : Int)] w fun e w' => (∃ K : ByteArray, e = .returned (.string K) ∧ Hid (K.data.toList = s.data.toList.take n) ∧ K.size ≤ s.size) ∧ w' = w := by
  by_cases h : n ≤ s.size
  · have hi : (n : Int) ≤ s.size := by omega
    have E : Hid ((s.extract 0 n).data.toList = s.data.toList.take n) := by
      show _ = _
      rw [Lib.extract_data, List.drop_zero, Nat.sub_zero]
    have E2 : (s.extract 0 n).size ≤ s.size := by rw [ByteArray.size_extract]; omega
    go_enter Try.func30, Try.ntmps30
    go_wp2
    go_ret
    exact ⟨⟨_, rfl, E, E2⟩, rfl⟩
  · have E : Hid (s.data.toList = s.data.toList.take n) := by
      show _ = _
      rw [List.take_of_length_le (by rw [← Lib.size_eq]; omega)]
    have hi : (s.size : Int) < n := by omega
    go_enter Try.func30, Try.ntmps30
    go_wp2
    go_ret
    exact ⟨⟨_, rfl, E, Nat.le_refl _⟩, rfl⟩
theorem keepIs (s : ByteArray) (w : World) :
    Calls Try.prog 30 #[.string s, .int .i64 26112] w fun e w' => (∃ K : ByteArray, e = .returned (.string K) ∧ Hid (K.data.toList = s.data.toList.take 26112) ∧ K.size ≤ s.size) ∧ w' = w := keepN s 26112 w

/-- the pieces that are left, one by one -/
theorem left_last {r : List UInt8} {x : ByteArray} (h : [x] = (pcs [13, 10] 0 [] r).map mk) : Lib.index r [13, 10] = -1 ∧ mk r = x := by
  rcases pcs_index (sep := [13, 10]) (by simp) r [] with ⟨h1, h2⟩ | ⟨i, h1, h2, h3⟩
  · rw [h2] at h
    simp at h
    exact ⟨h1, h.symm⟩
  · rw [h3] at h
    have := congrArg List.length h
    have h0 : 0 < (pcs [13, 10] 0 [] (r.drop (i + ([13, 10] : List UInt8).length))).length := List.length_pos_iff.2 (pcs_ne _ _ _ _)
    rw [List.length_cons, List.length_nil, List.map_cons, List.length_cons, List.length_map] at this
    omega
theorem left_more {r : List UInt8} {x y : ByteArray} {L : List ByteArray} (h : x :: y :: L = (pcs [13, 10] 0 [] r).map mk) : ∃ i : Nat, Lib.index r [13, 10] = i ∧ mk (r.take i) = x ∧ y :: L = (pcs [13, 10] 0 [] (r.drop (i + 2))).map mk := by
  rcases pcs_index (sep := [13, 10]) (by simp) r [] with ⟨h1, h2⟩ | ⟨i, h1, h2, h3⟩
  · rw [h2] at h; simp at h
  · rw [h3, List.map_cons, List.nil_append] at h
    injection h with e1 e2
    exact ⟨i, h1, e1.symm, e2⟩
theorem trim_cr {x : ByteArray} (h : 0 < x.size) (hd : (x[x.size - 1]'(by omega)).toNat = 13) : mk (Lib.trimSuffix x.data.toList [13]) = x.extract 0 (x.size - 1) := by
  have hl : x.size - 1 < x.data.toList.length := by rw [← Lib.size_eq]; omega
  have hs : Lib.hasSuffix x.data.toList [13] = true := by
    refine List.isSuffixOf_iff_suffix.2 ⟨x.data.toList.take (x.size - 1), ?_⟩
    have e : x.data.toList[x.size - 1] = 13 := UInt8.toNat_inj.1 hd
    have : x.data.toList.drop (x.size - 1) = [13] := by
      rw [List.drop_eq_getElem_cons hl, e, List.drop_of_length_le (by rw [← Lib.size_eq]; omega)]
    rw [← this, List.take_append_drop]
  unfold Lib.trimSuffix
  rw [if_pos hs, ← mk_data (x.extract 0 (x.size - 1)), Lib.extract_data, List.drop_zero, Lib.size_eq]; rfl
theorem trim_nocr {x : ByteArray} (hd : ∀ h : 0 < x.size, (x[x.size - 1]'(by omega)).toNat ≠ 13) : mk (Lib.trimSuffix x.data.toList [13]) = x := by
  have hs : Lib.hasSuffix x.data.toList [13] = false := by
    rw [Bool.eq_false_iff]; intro e
    obtain ⟨t, ht⟩ := List.isSuffixOf_iff_suffix.1 e
    have hz : x.size = t.length + 1 := by rw [Lib.size_eq, ← ht]; simp
    have h0 : 0 < x.size := by omega
    refine hd h0 ?_
    have : x.data.toList[x.size - 1]? = some 13 := by rw [← ht, hz]; simp
    have hl : x.size - 1 < x.data.toList.length := by rw [← Lib.size_eq]; omega
    rw [List.getElem?_eq_getElem hl] at this
    exact congrArg UInt8.toNat (Option.some.inj this)
  unfold Lib.trimSuffix
  rw [if_neg (by rw [hs]; decide), mk_data]
theorem more_trim {x y : ByteArray} (h : mk (Lib.trimSuffix x.data.toList [13]) = y) : moreN x = (decide (x.size < 512) && !(hasN y 13 || hasN y 10)) := by
  unfold moreN; rw [h]; rfl

/-- what stands in memory behind i lines: the answer's block, r's block, the lines -/
structure PrSt (w w2 wr : World) (lv : Value) (cd : Int) (acc : List ByteArray) : Prop where
  res : w2.heap[w.heap.size]? = some (.cells #[.int .i64 0, .slice none 0 0] 26 (0, 0))
  blk : wr.heap[w.heap.size + 1]? = some (.cells #[.int .i64 cd, lv] 26 (0, 0))
  own : Strs wr w2.heap.size lv acc
  bes : Bes w2.heap.size (w.heap.size + 1) w2 wr
  le : w.heap.size + 2 ≤ w2.heap.size
theorem PrSt.facts {w w2 wr : World} {lv : Value} {cd : Int} {acc : List ByteArray} (h : PrSt w w2 wr lv cd acc) :
    wr.cell? ⟨w.heap.size, 0, none⟩ = some (.int .i64 0) ∧ wr.cell? ⟨w.heap.size, 1, none⟩ = some (.slice none 0 0) ∧ (∀ o, wr.frozen? ⟨w.heap.size, o, none⟩ = false) ∧
    wr.cell? ⟨w.heap.size + 1, 0, none⟩ = some (.int .i64 cd) ∧ wr.cell? ⟨w.heap.size + 1, 1, none⟩ = some lv ∧ (∀ o, wr.frozen? ⟨w.heap.size + 1, o, none⟩ = false) := by
  have hle := h.le
  have hr : wr.heap[w.heap.size]? = some (.cells #[.int .i64 0, .slice none 0 0] 26 (0, 0)) := by rw [h.bes.block _ (by omega) (by omega)]; exact h.res
  refine ⟨by simp [World.cell?, hr], by simp [World.cell?, hr], fun o => by simp [World.frozen?, hr], by simp [World.cell?, h.blk], by simp [World.cell?, h.blk], fun o => by simp [World.frozen?, h.blk]⟩
theorem PrSt.after {w w2 wr w3 : World} {lv : Value} {cd : Int} {acc : List ByteArray} (h : PrSt w w2 wr lv cd acc) (hb : Below wr.heap.size wr w3) : PrSt w w2 w3 lv cd acc := by
  have hle := h.le
  have hz := h.bes.size
  exact ⟨h.res, by rw [hb.block _ (by omega)]; exact h.blk, strs_below h.own hb (Nat.le_refl _), h.bes.trans (Bes.of hb hz), hle⟩
end Go.Proofs.Ythblkfdgibonbaa
