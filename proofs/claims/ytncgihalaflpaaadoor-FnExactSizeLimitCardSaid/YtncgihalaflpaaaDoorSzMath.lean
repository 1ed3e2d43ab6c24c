import Derived.Test.YtncgihalaflpaaaDoorSzSpec
import Derived.Test.YtncgihalaflpaaaDoorCut
namespace Go.Proofs.YtncgihalaflpaaaDoor
open Pcs

/-- a byte with a small letter made great -/
def upU (b : UInt8) : UInt8 := UInt8.ofNat (upI (b.toNat : Int)).toNat
theorem ofInts_list (ns : List Int) : (ofInts ns).data.toList = ns.map fun n => UInt8.ofNat n.toNat := by
  unfold ofInts
  suffices h : ∀ (ns : List Int) (s : ByteArray), (ns.foldl (fun r n => r.push (UInt8.ofNat n.toNat)) s).data.toList = s.data.toList ++ ns.map fun n => UInt8.ofNat n.toNat by
    have := h ns ByteArray.empty
    simpa using this
  intro ns
  induction ns with
  | nil => intro s; simp
  | cons n ns ih => intro s; rw [List.foldl_cons, ih]; simp [ByteArray.push]
theorem upB_list (s : ByteArray) : (upB s).data.toList = s.data.toList.map upU := by
  unfold upB bytesI
  rw [ofInts_list, List.map_map, List.map_map]
  rfl
theorem upU_cases (b : UInt8) : (97 ≤ b.toNat ∧ b.toNat ≤ 122 ∧ (upU b).toNat = b.toNat - 32) ∨ upU b = b := by
  unfold upU upI
  by_cases h : (97 : Int) ≤ b.toNat ∧ (b.toNat : Int) ≤ 122
  · left
    refine ⟨by omega, by omega, ?_⟩
    rw [if_pos h, show ((b.toNat : Int) - 32).toNat = b.toNat - 32 by omega, UInt8.toNat_ofNat']
    have := UInt8.toNat_lt b
    omega
  · right
    rw [if_neg h, Int.toNat_natCast]
    exact UInt8.ofNat_toNat
theorem upU_blank {b : UInt8} : upU b = 32 ↔ b = 32 := by
  rcases upU_cases b with ⟨h1, h2, h3⟩ | h
  · constructor
    · intro e; rw [e] at h3; have : (32 : UInt8).toNat = 32 := rfl; omega
    · intro e; rw [e] at h1; have : (32 : UInt8).toNat = 32 := rfl; omega
  · rw [h]
theorem upU_ne {b x : UInt8} (h : upU b = x) (hx : x ≠ 32) : b ≠ 32 := fun e => hx (by rw [← h]; exact upU_blank.2 e)

/-- four bytes that are SIZE in whatever letters -/
def foldN (s : ByteArray) : Bool := s.data.toList.map upU == [83, 73, 90, 69]
theorem szHead_list (X : ByteArray) : szHead X = ((X.data.toList.take 5).map upU == [83, 73, 90, 69, 32]) := by
  unfold szHead
  rw [ByteArray.toList_eq, ByteArray.toList_eq, upB_list, Lib.extract_data]
  by_cases h : 5 ≤ X.size
  · rw [decide_eq_true h]; rfl
  · rw [decide_eq_false h]
    symm
    rw [Bool.false_and, beq_eq_false_iff_ne]
    intro e
    have := congrArg List.length e
    rw [List.length_map, List.length_take, ← Lib.size_eq] at this
    simp only [List.length_cons, List.length_nil] at this
    omega

/-- where the first blank stands behind four bytes -/
theorem index_blank {l : List UInt8} {i : Nat} (h : Lib.index l [32] = i) : l[i]? = some 32 ∧ ∀ j, j < i → l[j]? ≠ some 32 := by
  rcases Lib.index_spec l [32] with ⟨e, _⟩ | ⟨k, e, hk, hocc, hno⟩
  · omega
  · have hki : k = i := by omega
    subst hki
    have occ : ∀ j, Lib.occAt l [32] j = true ↔ l[j]? = some 32 := by
      intro j
      unfold Lib.occAt
      rw [List.isPrefixOf_iff_prefix]
      constructor
      · rintro ⟨t, ht⟩
        have : (l.drop j)[0]? = some 32 := by rw [← ht]; rfl
        simpa using this
      · intro hj
        obtain ⟨hl, he⟩ := List.getElem?_eq_some_iff.1 hj
        rw [List.drop_eq_getElem_cons hl, he]
        exact ⟨_, rfl⟩
    exact ⟨(occ k).1 hocc, fun j hj e => by have := hno j hj; rw [(occ j).2 e] at this; cases this⟩
theorem index_of_blank {l : List UInt8} {i : Nat} (h1 : l[i]? = some 32) (h2 : ∀ j, j < i → l[j]? ≠ some 32) : Lib.index l [32] = i := by
  have occ : ∀ j, Lib.occAt l [32] j = true ↔ l[j]? = some 32 := by
    intro j
    unfold Lib.occAt
    rw [List.isPrefixOf_iff_prefix]
    constructor
    · rintro ⟨t, ht⟩
      have : (l.drop j)[0]? = some 32 := by rw [← ht]; rfl
      simpa using this
    · intro hj
      obtain ⟨hl, he⟩ := List.getElem?_eq_some_iff.1 hj
      rw [List.drop_eq_getElem_cons hl, he]
      exact ⟨_, rfl⟩
  refine Lib.index_first ?_ ((occ i).2 h1) fun j hj => ?_
  · have := (List.getElem?_eq_some_iff.1 h1).1; omega
  · cases e : Lib.occAt l [32] j
    · rfl
    · exact absurd ((occ j).1 e) (h2 j hj)

/-- the line's head by its first blank -/
theorem head_cut {X a b : ByteArray} {f : Bool} (h : CutIs X ⟨#[32]⟩ a b f) : szHead X = (f && (decide (a.size = 4) && foldN a)) ∧ (szHead X = true → b = X.extract 5 X.size) := by
  have hcc := cut_cases h
  obtain ⟨h1, h2, h3⟩ := h
  have hd : (⟨#[32]⟩ : ByteArray).data.toList = [32] := rfl
  rw [hd] at h1 h2 h3 hcc
  have key : szHead X = true → Lib.index X.data.toList [32] = (4 : Nat) := by
    intro e
    rw [szHead_list, beq_iff_eq] at e
    generalize X.data.toList = l at *
    match l, e with
    | [], e => simp at e
    | [_], e => simp at e
    | [_, _], e => simp at e
    | [_, _, _], e => simp at e
    | [_, _, _, _], e => simp at e
    | b0 :: b1 :: b2 :: b3 :: b4 :: r, e =>
      simp only [List.take_succ_cons, List.take_zero, List.map_cons, List.map_nil, List.cons.injEq, and_true] at e
      obtain ⟨e0, e1, e2, e3, e4⟩ := e
      refine index_of_blank (by simp [upU_blank.1 e4]) ?_
      intro j hj
      match j, hj with
      | 0, _ => simpa using upU_ne e0 (by decide)
      | 1, _ => simpa using upU_ne e1 (by decide)
      | 2, _ => simpa using upU_ne e2 (by decide)
      | 3, _ => simpa using upU_ne e3 (by decide)
  constructor
  · rcases hcc with ⟨hf, hi⟩ | ⟨hf, i, hi, ha⟩
    · rw [hf, Bool.false_and, Bool.eq_false_iff]
      intro e
      have := key e
      omega
    · rw [hf, Bool.true_and]
      by_cases h4 : i = 4
      · subst h4
        have hb := index_blank hi
        have hl5 : 5 ≤ X.data.toList.length := (List.getElem?_eq_some_iff.1 hb.1).1
        have hsz : a.size = 4 := by rw [← ha, mk_size, List.length_take]; omega
        rw [decide_eq_true hsz, Bool.true_and, szHead_list]
        unfold foldN
        rw [← ha, show (mk (X.data.toList.take 4)).data.toList = X.data.toList.take 4 from rfl]
        have ht : X.data.toList.take 5 = X.data.toList.take 4 ++ [32] := by
          rw [List.take_add_one, hb.1]; rfl
        rw [ht, List.map_append, Bool.eq_iff_iff, beq_iff_eq, beq_iff_eq]
        have hu : ([32] : List UInt8).map upU = [32] := by simp [upU_blank.2 rfl]
        rw [hu]
        constructor
        · intro e
          exact List.append_cancel_right (bs := [32]) (by simpa using e)
        · intro e; rw [e]; rfl
      · have hno : szHead X = false := by
          rw [Bool.eq_false_iff]; intro e; have := key e; omega
        rw [hno]
        have hil : i ≤ X.data.toList.length := by have := (List.getElem?_eq_some_iff.1 (index_blank hi).1).1; omega
        rw [decide_eq_false (show ¬ a.size = 4 by rw [← ha, mk_size, List.length_take]; omega)]; rfl
  · intro e
    have hi := key e
    unfold Lib.cut at h2
    rw [hi] at h2
    simp at h2
    rw [← h2]
    apply ByteArray.ext
    rw [← Array.toList_inj, Lib.extract_data]
    rw [List.take_of_length_le (by rw [List.length_drop, ← Lib.size_eq]; omega)]
    rfl
end Go.Proofs.YtncgihalaflpaaaDoor
