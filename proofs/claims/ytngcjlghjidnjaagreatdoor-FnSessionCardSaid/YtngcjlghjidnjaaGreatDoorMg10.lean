import Derived.Test.YtngcjlghjidnjaaGreatDoorMg9
import Derived.Test.YtngcjlghjidnjaaGreatDoorMg4
import Derived.Test.YtngcjlghjidnjaaGreatDoorMg7
namespace Go.Proofs.YtngcjlghjidnjaaGreatDoor
open Pcs

/-- a byte of an atom -/
def atomN (b : Nat) : Bool := markN ⟨#[43, 95, 45]⟩ b
def atomOk (a : ByteArray) : Bool := decide (a.size ≠ 0) && okAll atomN a
/-- a local part: atoms with points between, at most 64 bytes -/
def locOk (s : ByteArray) : Bool := decide (s.size ≤ 64) && (pieces ⟨#[46]⟩ s).all atomOk

def noGap : Bool → List UInt8 → Bool
  | e, [] => !e
  | e, b :: l => if b = 46 then !e && noGap true l else noGap false l

theorem pcs_dot_cons (acc : List UInt8) (b : UInt8) (l : List UInt8) : pcs [46] 0 acc (b :: l) = if b = 46 then acc :: pcs [46] 0 [] l else pcs [46] 0 (acc ++ [b]) l := by
  by_cases h : b = 46
  · subst h
    rw [if_pos rfl, pcs_hit (by simp) (by simp [List.isPrefixOf])]; simp
  · rw [if_neg h]
    have : ([46] : List UInt8).isPrefixOf (b :: l) = false := by
      simp only [List.isPrefixOf, Bool.and_eq_false_iff]
      left
      rw [beq_eq_false_iff_ne]; exact fun e => h e.symm
    exact pcs_miss this

theorem pcs_gap (f : UInt8 → Bool) : ∀ (l acc : List UInt8), (pcs [46] 0 acc l).all (fun x => decide (x.length ≠ 0) && x.all f) = (noGap acc.isEmpty l && acc.all f && l.all fun b => decide (b = 46) || f b)
  | [], acc => by
    cases acc <;> simp [pcs, noGap]
  | b :: l, acc => by
    rw [pcs_dot_cons]
    by_cases h : b = 46
    · subst h
      rw [if_pos rfl, List.all_cons, pcs_gap f l []]
      cases acc with
      | nil => simp [noGap]
      | cons c t => simp [noGap, Bool.and_assoc, Bool.and_comm]
    · rw [if_neg h, pcs_gap f l (acc ++ [b])]
      have e : (acc ++ [b]).isEmpty = false := by cases acc <;> rfl
      rw [e, noGap, if_neg h]
      simp [h, Bool.and_assoc]

def has2 (l : List UInt8) : Bool := Lib.contains l [46, 46]
theorem has2_nil : has2 [] = false := rfl
theorem has2_cons (b : UInt8) (l : List UInt8) : has2 (b :: l) = (([46, 46] : List UInt8).isPrefixOf (b :: l) || has2 l) := by
  unfold has2 Lib.contains
  rw [Lib.index]
  have h1 := Lib.index_ge l [46, 46]
  split
  · rename_i h; rw [h]; rfl
  · rename_i h
    rw [Bool.eq_false_iff.2 h, Bool.false_or]
    split
    · rename_i h2
      rw [beq_iff_eq] at h2
      rw [h2]
    · rename_i h2
      rw [beq_iff_eq] at h2
      rw [decide_eq_decide]; omega

theorem noGap_true (l : List UInt8) : noGap true l = (decide (l ≠ []) && decide (l.head? ≠ some 46) && noGap false l) := by
  cases l with
  | nil => simp [noGap]
  | cons b l =>
    by_cases h : b = 46
    · subst h; simp [noGap]
    · simp [noGap, h]
theorem noGap_false : ∀ l : List UInt8, noGap false l = (!has2 l && decide (l.getLast? ≠ some 46))
  | [] => by simp [noGap, has2_nil]
  | b :: l => by
    have ih := noGap_false l
    rw [has2_cons]
    by_cases h : b = 46
    · subst h
      rw [noGap, if_pos rfl, noGap_true, ih]
      cases l with
      | nil => simp [List.isPrefixOf]
      | cons c t =>
        by_cases hc : c = 46
        · subst hc; simp [List.isPrefixOf]
        · have hc' : ((46 : UInt8) == c) = false := beq_eq_false_iff_ne.2 fun e => hc e.symm
          simp [List.isPrefixOf, hc, hc']
    · have hb : ((46 : UInt8) == b) = false := beq_eq_false_iff_ne.2 fun e => h e.symm
      rw [noGap, if_neg h, ih]
      cases l with
      | nil => simp [List.isPrefixOf, h]
      | cons c t => simp [List.isPrefixOf, hb]

theorem pieces_all (sep s : ByteArray) (f : ByteArray → Bool) : (pieces sep s).all f = (pcs sep.data.toList 0 [] s.data.toList).all fun l => f (mk l) := by
  unfold pieces; rw [List.all_map]; rfl

theorem locOk_eq (s : ByteArray) : locOk s = (decide (s.size ≤ 64) && (decide (s.data.toList ≠ []) && decide (s.data.toList.head? ≠ some 46) && (!has2 s.data.toList && decide (s.data.toList.getLast? ≠ some 46))) && okAll (markN ⟨#[46, 43, 95, 45]⟩) s) := by
  unfold locOk
  rw [pieces_all, Bool.and_assoc]
  congr 1
  have e : (fun l => atomOk (mk l)) = fun x : List UInt8 => decide (x.length ≠ 0) && x.all fun b => atomN b.toNat := by
    funext l
    unfold atomOk
    rw [okAll_list, mk_size, data_mk]
  rw [e]
  show (pcs [46] 0 [] s.data.toList).all _ = _
  rw [pcs_gap, okAll_list, ← noGap_false, ← noGap_true]
  simp only [List.all_nil, Bool.and_true]
  congr 1
  congr 1
  funext b
  show (decide (b = 46) || (letN b.toNat || ([43, 95, 45] : List UInt8).contains (UInt8.ofNat b.toNat))) = (letN b.toNat || ([46, 43, 95, 45] : List UInt8).contains (UInt8.ofNat b.toNat))
  rw [UInt8.ofNat_toNat]
  simp only [List.contains_cons]
  have e46 : (b == (46 : UInt8)) = decide (b = 46) := rfl
  rw [e46]
  cases letN b.toNat <;> simp

theorem head_byte {s : ByteArray} (h : 0 < s.size) : s.data.toList.head? = some 46 ↔ byteOf s 0 = 46 := by
  rw [byteOf_eq s 0 h, List.head?_eq_getElem?, List.getElem?_eq_getElem (by rw [← Lib.size_eq]; exact h)]
  rw [Option.some.injEq]
  constructor
  · intro e; exact congrArg UInt8.toNat e
  · intro e; exact UInt8.toNat_inj.1 e
theorem last_byte {s : ByteArray} (h : 0 < s.size) : s.data.toList.getLast? = some 46 ↔ byteOf s (s.size - 1) = 46 := by
  have hl : s.size - 1 < s.data.toList.length := by rw [← Lib.size_eq]; omega
  rw [byteOf_eq s (s.size - 1) (by omega), List.getLast?_eq_getElem?, ← Lib.size_eq, List.getElem?_eq_getElem hl]
  rw [Option.some.injEq]
  constructor
  · intro e; exact congrArg UInt8.toNat e
  · intro e; exact UInt8.toNat_inj.1 e

theorem loc_empty {s : ByteArray} (h : s.size < 1) : locOk s = false := by
  have : s.data.toList = [] := List.eq_nil_of_length_eq_zero (by rw [← Lib.size_eq]; omega)
  rw [locOk_eq, this]; simp
theorem loc_long {s : ByteArray} (h : 64 < s.size) : locOk s = false := by
  unfold locOk; rw [decide_eq_false (by omega)]; rfl
theorem loc_first {s : ByteArray} (h : 0 < s.size) (h1 : byteOf s 0 = 46) : locOk s = false := by
  rw [locOk_eq, (head_byte h).2 h1]; simp
theorem loc_last {s : ByteArray} (h : 0 < s.size) (h1 : byteOf s (s.size - 1) = 46) : locOk s = false := by
  rw [locOk_eq, (last_byte h).2 h1]; simp
theorem loc_rest {s : ByteArray} (h : 0 < s.size) (h64 : s.size ≤ 64) (h0 : byteOf s 0 ≠ 46) (h1 : byteOf s (s.size - 1) ≠ 46) :
    locOk s = (!has2 s.data.toList && okAll (markN ⟨#[46, 43, 95, 45]⟩) s) := by
  have hne : s.data.toList ≠ [] := fun e => by
    have := Lib.size_eq s
    rw [e, List.length_nil] at this; omega
  rw [locOk_eq, decide_eq_true h64, decide_eq_true hne, decide_eq_true (show s.data.toList.head? ≠ some 46 from fun e => h0 ((head_byte h).1 e)), decide_eq_true (show s.data.toList.getLast? ≠ some 46 from fun e => h1 ((last_byte h).1 e))]
  simp

/-- every byte that is no point lies in a piece -/
theorem pcs_cover (f : UInt8 → Bool) : ∀ (l acc : List UInt8), (pcs [46] 0 acc l).all (fun x => x.all f) = (acc.all f && l.all fun b => decide (b = 46) || f b)
  | [], acc => by simp [pcs]
  | b :: l, acc => by
    rw [pcs_dot_cons]
    by_cases h : b = 46
    · subst h
      rw [if_pos rfl, List.all_cons, pcs_cover f l []]; simp
    · rw [if_neg h, pcs_cover f l (acc ++ [b])]
      simp [h, Bool.and_assoc]

theorem dom_noAt {s : ByteArray} (h : domOk s = true) : (64 : UInt8) ∉ s.data.toList := by
  intro hm
  unfold domOk at h
  rw [Bool.and_eq_true, pieces_all] at h
  have h2 : (pcs [46] 0 [] s.data.toList).all (fun x => x.all fun b => letN b.toNat || b.toNat == 45) = true := by
    refine List.all_eq_true.2 fun x hx => ?_
    have h3 := List.all_eq_true.1 h.2 x hx
    unfold labOk at h3
    simp only [Bool.and_eq_true] at h3
    have h4 := h3.2
    rw [okAll_list] at h4
    exact h4
  rw [pcs_cover] at h2
  simp only [List.all_nil, Bool.true_and] at h2
  have := List.all_eq_true.1 h2 64 hm
  revert this; decide

def addrOk (s : ByteArray) : Bool := decide (s.size ≤ 160) && ((Lib.cut s.data.toList [64]).2.2 && (locOk (mk (Lib.cut s.data.toList [64]).1) && domOk (mk (Lib.cut s.data.toList [64]).2.1)))

theorem index_at (l : List UInt8) (h : (64 : UInt8) ∉ l) : Lib.index l [64] = -1 := by
  refine Lib.index_none fun j _ => ?_
  unfold Lib.occAt
  rw [Bool.eq_false_iff]
  intro e
  obtain ⟨r, hr⟩ := List.isPrefixOf_iff_prefix.1 e
  exact h (List.mem_of_mem_drop (i := j) (by rw [← hr]; simp))

/-- what the pieces at the @ say of an address -/
theorem addr_pieces (s : ByteArray) :
    (∃ a b : ByteArray, pieces ⟨#[64]⟩ s = [a, b] ∧ a.size ≤ s.size ∧ b.size ≤ s.size ∧ addrOk s = (decide (s.size ≤ 160) && (locOk a && domOk b))) ∨ ((pieces ⟨#[64]⟩ s).length ≠ 2 ∧ addrOk s = false) := by
  have hne : ([64] : List UInt8) ≠ [] := by simp
  have hp : pieces ⟨#[64]⟩ s = (pcs [64] 0 [] s.data.toList).map mk := rfl
  have hsz := Lib.size_eq s
  rcases pcs_index hne s.data.toList [] with ⟨h1, h2⟩ | ⟨i, h1, h2, h3⟩
  · right
    rw [hp, h2]
    refine ⟨by simp, ?_⟩
    unfold addrOk Lib.cut
    rw [if_neg (by omega)]; simp
  · have hc : Lib.cut s.data.toList [64] = (s.data.toList.take i, s.data.toList.drop (i + 1), true) := by
      unfold Lib.cut
      rw [if_pos (by omega), h1]; rfl
    have ha : addrOk s = (decide (s.size ≤ 160) && (locOk (mk (s.data.toList.take i)) && domOk (mk (s.data.toList.drop (i + 1))))) := by
      unfold addrOk; rw [hc]; simp
    rw [List.nil_append] at h3
    rcases pcs_index hne (s.data.toList.drop (i + 1)) [] with ⟨g1, g2⟩ | ⟨j, g1, g2, g3⟩
    · left
      refine ⟨mk (s.data.toList.take i), mk (s.data.toList.drop (i + 1)), ?_, ?_, ?_, ha⟩
      · rw [hp, h3]
        show (_ :: pcs [64] 0 [] (s.data.toList.drop (i + 1))).map mk = _
        rw [g2]; rfl
      · rw [mk_size, List.length_take]; omega
      · rw [mk_size, List.length_drop]; omega
    · right
      constructor
      · rw [hp, h3]
        show ((_ :: pcs [64] 0 [] (s.data.toList.drop (i + 1))).map mk).length ≠ 2
        rw [g3]
        have := pcs_ne [64] (List.drop (j + ([64] : List UInt8).length) (s.data.toList.drop (i + 1))) 0 []
        have h0 : 0 < (pcs [64] 0 [] (List.drop (j + ([64] : List UInt8).length) (s.data.toList.drop (i + 1)))).length := List.length_pos_iff.2 this
        rw [List.map_cons, List.map_cons, List.length_cons, List.length_cons, List.length_map]; omega
      · rw [ha]
        have : domOk (mk (s.data.toList.drop (i + 1))) = false := by
          rw [Bool.eq_false_iff]; intro e
          have := index_at _ (dom_noAt e)
          rw [data_mk] at this
          omega
        rw [this]; simp
end Go.Proofs.YtngcjlghjidnjaaGreatDoor
namespace Go.Proofs.YtngcjlghjidnjaaGreatDoor
open Go.ChangeShapes Go.WideShapes Go.ChangeAt Go.RowKit
open Pcs

theorem has_marks {b : Nat} (hb : b < 256) : atomN b = (letN b || hasN ⟨#[43, 95, 45]⟩ b) := by
  unfold hasN atomN markN
  rw [okAll_list, any_nat _ hb]

theorem implContains (s sub : ByteArray) (w : World) (hl : LenIn w) (hs : s.size ≤ 1048576) :
    Calls Tryz.prog 96 #[.string s, .string sub] w fun e w' => e = .returned (.bool (Lib.contains s.data.toList sub.data.toList)) ∧ w' = w := by
  obtain ⟨m, hm⟩ := hl
  exact Any.strings_Contains Tryz.lays144 s sub m w (by omega) hm
set_option maxHeartbeats 1000000 in
set_option maxRecDepth 100000 in
theorem implLocal (s : ByteArray) (w : World) (hl : LenIn w) (hs : s.size ≤ 1048576) :
    Calls Tryz.prog 93 #[.string s] w fun e w' => e = .returned (.bool (locOk s)) ∧ w' = w := by
  have HL : Hid (LenIn w) := hl
  clear hl
  by_cases h0 : s.size < 1
  · have e0 : s = ByteArray.empty := by
      have : s.data.size = 0 := by have := h0; change s.data.size < 1 at this; omega
      obtain ⟨d⟩ := s
      simp at this; subst this; rfl
    subst e0
    go_enter Tryz.func93, Tryz.ntmps93
    go_wp2
    go_ret
    exact ⟨ret_bool (loc_empty h0).symm, rfl⟩
  · have h1 : 0 < s.size := by omega
    have h1i : (0 : Int) < s.size := by omega
    have hne : (s.toList == []) = false := by
      rw [ByteArray.toList_eq]
      rw [beq_eq_false_iff_ne]; intro e
      have := Lib.size_eq s; rw [e, List.length_nil] at this; omega
    have hl1 : s.size - 1 < s.size := by omega
    have hl2 : ((s.size : Int) - 1).toNat = s.size - 1 := by omega
    have B0 := byteOf_eq s 0 h1
    have B1 := byteOf_eq s (s.size - 1) hl1
    by_cases h64 : (64 : Int) < s.size
    · go_enter Tryz.func93, Tryz.ntmps93
      go_wp2
      go_ret
      exact ⟨ret_bool (loc_long (by omega)).symm, rfl⟩
    · by_cases hz : (s[0].toNat : Int) = 46
      · go_enter Tryz.func93, Tryz.ntmps93
        go_wp2
        go_ret
        exact ⟨ret_bool (loc_first h1 (by omega)).symm, rfl⟩
      · have hzb : ((s[0].toNat : Int) == 46) = false := beq_eq_false_iff_ne.2 hz
        by_cases hy : (s[s.size - 1].toNat : Int) = 46
        · go_enter Tryz.func93, Tryz.ntmps93
          go_wp2
          go_ret
          exact ⟨ret_bool (loc_last h1 (by omega)).symm, rfl⟩
        · have hyb : ((s[s.size - 1].toNat : Int) == 46) = false := beq_eq_false_iff_ne.2 hy
          have E : Hid (locOk s = (!has2 s.data.toList && okAll (markN ⟨#[46, 43, 95, 45]⟩) s)) := loc_rest h1 (by omega) (by omega) (by omega)
          clear B0 B1 hz hy
          cases hh : has2 s.data.toList with
          | true =>
            have hh' : Lib.contains s.data.toList [46, 46] = true := hh
            go_enter Tryz.func93, Tryz.ntmps93
            go_wp2_with (go_at_call 96; refine (implContains _ _ _ HL.out hs).mono ?_; rintro e w' ⟨rfl, rfl⟩; rw [hh'])
            go_ret
            exact ⟨ret_bool (by rw [E.out, hh]; rfl), rfl⟩
          | false =>
            have hh' : Lib.contains s.data.toList [46, 46] = false := hh
            go_enter Tryz.func93, Tryz.ntmps93
            go_wp2_with (first
              | (go_at_call 96; refine (implContains _ _ _ HL.out hs).mono ?_; rintro e w' ⟨rfl, rfl⟩; rw [hh'])
              | (go_at_call 107; refine (implMade _ _ _ hs).mono ?_; rintro e w' ⟨rfl, rfl⟩))
            go_ret
            exact ⟨ret_bool (by rw [E.out, hh]; rfl), rfl⟩

theorem addr_long {s : ByteArray} (h : 160 < s.size) : addrOk s = false := by
  unfold addrOk; rw [decide_eq_false (by omega)]; rfl
theorem addr_eq {s : ByteArray} {a b : ByteArray} {f : Bool} (h : s.size ≤ 160) (hc : CutIs s ⟨#[64]⟩ a b f) : addrOk s = (f && (locOk a && domOk b)) := by
  obtain ⟨h1, h2, h3⟩ := hc
  unfold addrOk
  rw [decide_eq_true h, ← h1, ← h2, ← h3]; rfl
theorem below_drew (w : World) (n : Nat) : Below w.heap.size w (w.drewN n) := drew_below (Below.refl _ _) n

set_option maxHeartbeats 1000000 in
set_option maxRecDepth 100000 in
theorem implAddress (s : ByteArray) (w : World) (hl : LenIn w) (hs : s.size ≤ 1048576) :
    Calls Tryz.prog 45 #[.string s] w fun e w' => e = .returned (.bool (addrOk s)) ∧ Below w.heap.size w w' := by
  have HL : Hid (LenIn w) := hl
  clear hl
  by_cases hA : 160 < s.size
  · go_enter Tryz.func45, Tryz.ntmps45
    go_wp2
    go_ret
    exact ⟨ret_bool (addr_long hA).symm, Below.refl _ _⟩
  · go_enter Tryz.func45, Tryz.ntmps45
    go_wp2_with fail
    refine (implCut s _ _ HL.out hs).mono ?_
    rintro e w1 ⟨a, b, f, n, rfl, rfl, HC, ha, hb⟩
    have HL1 : Hid (LenIn (w.drewN n)) := HL.out
    have E : Hid (addrOk s = (f && (locOk a && domOk b))) := addr_eq (by omega) HC.out
    have ha' : a.size ≤ 1048576 := Nat.le_trans ha hs
    have hb' : b.size ≤ 1048576 := Nat.le_trans hb hs
    cases f with
    | false =>
      go_wp2
      go_ret
      exact ⟨ret_bool (by rw [E.out]; rfl), below_drew _ _⟩
    | true =>
      cases hlo : locOk a with
      | false =>
        go_wp2_with (go_at_call 93; refine (implLocal _ _ HL1.out ha').mono ?_; rintro e w' ⟨rfl, rfl⟩; rw [hlo])
        go_ret
        exact ⟨ret_bool (by rw [E.out, hlo]; rfl), below_drew _ _⟩
      | true =>
        go_wp2_with (first
          | (go_at_call 93; refine (implLocal _ _ HL1.out ha').mono ?_; rintro e w' ⟨rfl, rfl⟩; rw [hlo])
          | (go_at_call 32; refine (implDomain _ _ HL1.out hb').mono ?_; rintro e w2 ⟨rfl, hb2⟩))
        go_ret
        exact ⟨ret_bool (by rw [E.out, hlo]; rfl), (below_drew w n).trans hb2⟩
end Go.Proofs.YtngcjlghjidnjaaGreatDoor
namespace Go.Proofs.YtngcjlghjidnjaaGreatDoor
open Go.ChangeShapes Go.WideShapes Go.ChangeAt Go.RowKit
open Pcs

theorem loc_bad {s : ByteArray} {L : List ByteArray} (e : pieces ⟨#[46]⟩ s = L) {k : Nat} {h : k < L.length} (hl : atomOk L[k] = false) : locOk s = false := by
  unfold locOk; rw [e, List.all_eq_false.2 ⟨_, List.getElem_mem h, by rw [hl]; decide⟩, Bool.and_false]
theorem loc_ok {s : ByteArray} {L : List ByteArray} (e : pieces ⟨#[46]⟩ s = L) (h : s.size ≤ 64) (hl : ∀ k (h : k < L.length), atomOk L[k] = true) : locOk s = true := by
  unfold locOk; rw [e, decide_eq_true h, Bool.true_and]
  refine List.all_eq_true.2 fun x hx => ?_
  obtain ⟨k, hk, rfl⟩ := List.getElem_of_mem hx
  exact hl k hk
theorem atom_empty : atomOk ByteArray.empty = false := rfl
theorem atom_bad {x : ByteArray} {k : Nat} (hk : k < x.size) (h : atomN (byteOf x k) = false) : atomOk x = false := by
  unfold atomOk; rw [okAll_false hk h, Bool.and_false]
theorem atom_good {x : ByteArray} (h0 : x.size ≠ 0) (h : ∀ k, k < x.size → atomN (byteOf x k) = true) : atomOk x = true := by
  unfold atomOk; rw [okAll_true h, decide_eq_true h0]; rfl
theorem sizePlus : (⟨#[43, 95, 45]⟩ : ByteArray).size ≤ 1048576 := by decide

set_option maxHeartbeats 2000000 in
set_option maxRecDepth 100000 in
theorem specAddress (s : ByteArray) (w : World) (hs : s.size ≤ 1048576) :
    Calls Tryz.prog 77 #[.string s] w fun e w' => e = .returned (.bool (addrOk s)) ∧ Below w.heap.size w w' := by
  by_cases hA : 160 < s.size
  · go_enter Tryz.func77, Tryz.ntmps77
    go_wp2
    go_ret
    exact ⟨ret_bool (addr_long hA).symm, Below.refl _ _⟩
  · go_enter Tryz.func77, Tryz.ntmps77
    go_wp2_with fail
    refine (specSplit s _ _ hs (by decide) (by decide)).mono ?_
    rintro e w1 ⟨⟨v, rfl, S1⟩, hb1⟩
    obtain ⟨g, cap, rfl, A1⟩ := strs_ne S1 (pieces_ne _ _)
    clear S1
    rcases addr_pieces s with ⟨a, b, hp, ha, hb, he⟩ | ⟨hp, he⟩
    · have E : Hid (addrOk s = (locOk a && domOk b)) := by
        show _ = _
        rw [he, decide_eq_true (by omega)]; rfl
      rw [hp] at A1 ⊢
      have c0 := A1.cell 0 (by simp)
      have c1 := A1.cell 1 (by simp)
      simp only [List.getElem_cons_zero, List.getElem_cons_succ] at c0 c1
      have hcap := A1.len
      simp only [List.length_cons, List.length_nil] at hcap ⊢
      have hgl := A1.lt
      clear he hp A1
      have ha' : a.size ≤ 1048576 := by omega
      have hb' : b.size ≤ 1048576 := by omega
      by_cases h64 : (64 : Int) < a.size
      · go_wp2
        go_ret
        exact ⟨ret_bool (by rw [E.out, loc_long (by omega)]; rfl), hb1⟩
      · cases hd : domOk b with
        | false =>
          go_wp2_with (go_at_call 29; refine (specDomain _ _ hb').mono ?_; rintro e w2 ⟨rfl, hb2⟩; rw [hd])
          go_ret
          exact ⟨ret_bool (by rw [E.out, hd, Bool.and_false]), hb1.trans (hb2.mono hb1.size)⟩
        | true =>
          go_wp2_with (go_at_call 29; refine (specDomain _ _ hb').mono ?_; rintro e w2 ⟨rfl, hb2⟩; rw [hd]; have c0' := (bcell hb2).1 g 0 hgl; rw [c0] at c0')
          refine (specSplit a _ _ ha' (by decide) (by decide)).mono ?_
          rintro e w3 ⟨⟨v, rfl, S3⟩, hb3⟩
          obtain ⟨g3, cap3, rfl, A3⟩ := strs_ne S3 (pieces_ne _ _)
          clear S3 c0 c1
          have hlen := pieces_len ⟨#[46]⟩ a
          have hsz : ∀ k (h : k < (pieces ⟨#[46]⟩ a).length), (pieces ⟨#[46]⟩ a)[k].size ≤ 1048576 := fun k h => Nat.le_trans (pieces_size (List.getElem_mem h)) ha'
          generalize hLE : pieces ⟨#[46]⟩ a = L at *
          have HLE : Hid (pieces ⟨#[46]⟩ a = L) := hLE
          have HB3 : Hid (Below w.heap.size w w3) := (hb1.trans (hb2.mono hb1.size)).trans (hb3.mono (Nat.le_trans hb1.size hb2.size))
          have E2 : Hid (addrOk s = locOk a) := by
            show _ = _
            rw [E.out, hd, Bool.and_true]
          clear hLE hb1 hb2 hb3 E hd c0' hgl
          have hcap3 := A3.cap
          have hlc := A3.len
          unfold maxLen at hcap3
          go_wp2
          go_loopw [34] (fun iv wr => ∃ k n : Nat, k ≤ L.length ∧ iv = .int .i64 k ∧ Hid (∀ j (h : j < L.length), j < k → atomOk L[j] = true) ∧ wr = w3.drewN n) (fun iv _ => L.length - (intOf iv).toNat)
          case atStart => exact ⟨0, 0, Nat.zero_le _, rfl, fun j _ h => absurd h (Nat.not_lt_zero _), rfl⟩
          case round =>
            obtain ⟨k, n, hk, rfl, HA, rfl⟩ := hrel
            by_cases hlt : k < L.length
            · have ec := A3.cell k hlt
              have hx := hsz k hlt
              have HB : Hid (atomOk L[k] = true → ∀ j (h : j < L.length), j < k + 1 → atomOk L[j] = true) := by
                intro h1 j h hj
                rcases Nat.lt_succ_iff_lt_or_eq.1 hj with hj | rfl
                · exact HA.out j h hj
                · exact h1
              have HC : Hid (atomOk L[k] = false → addrOk s = false) := fun h => by rw [E2.out]; exact loc_bad HLE.out h
              generalize L[k] = x at *
              by_cases hx0 : x.size = 0
              · obtain rfl := empty_of hx0
                have G : Hid (addrOk s = false) := HC.out atom_empty
                clear HB HC
                go_wp2
                go_ret
                exact ⟨ret_bool G.out.symm, drew_below HB3.out _⟩
              · have hne : (x.toList == []) = false := by
                  rw [ByteArray.toList_eq, beq_eq_false_iff_ne]; intro e
                  have := Lib.size_eq x; rw [e, List.length_nil] at this; omega
                go_wp2
                go_loop [6] (fun i => ∃ m : Nat, m ≤ x.size ∧ i = .int .i64 m ∧ Hid (∀ j, j < m → atomN (byteOf x j) = true)) (fun i => x.size - (intOf i).toNat)
                case atStart => exact ⟨0, Nat.zero_le _, rfl, fun j h => absurd h (Nat.not_lt_zero _)⟩
                case round =>
                  obtain ⟨m, hm, rfl, HM⟩ := hrel
                  by_cases hmt : m < x.size
                  · have HX : Hid (byteOf x m = x[m].toNat) := byteOf_eq x m hmt
                    have GO : Hid (atomN x[m].toNat = true → (∃ k1 : Nat, k1 ≤ x.size ∧ Value.int .i64 ((m : Int) + 1) = .int .i64 k1 ∧ Hid (∀ j, j < k1 → atomN (byteOf x j) = true)) ∧ x.size - (intOf (.int .i64 ((m : Int) + 1))).toNat < x.size - (intOf (.int .i64 (m : Int))).toNat) := by
                      intro h
                      refine ⟨⟨m + 1, by omega, by go_num, fun j hj => ?_⟩, by simp [intOf]; omega⟩
                      rcases Nat.lt_succ_iff_lt_or_eq.1 hj with hj | rfl
                      · exact HM.out j hj
                      · rw [HX.out]; exact h
                    have HN : Hid (atomN x[m].toNat = (letN x[m].toNat || hasN ⟨#[43, 95, 45]⟩ x[m].toNat)) := has_marks (UInt8.toNat_lt _)
                    by_cases hl : letN x[m].toNat = true
                    · have G := GO.out (by rw [HN.out, hl]; rfl)
                      clear GO HB HC
                      go_wp2_with (go_at_call 105; refine (specLetter _ _).mono ?_; rintro e w' ⟨rfl, rfl⟩)
                      exact G
                    · have hlf : letN x[m].toNat = false := Bool.eq_false_iff.2 hl
                      clear hl
                      cases hh : hasN ⟨#[43, 95, 45]⟩ x[m].toNat with
                      | true =>
                        have G := GO.out (by rw [HN.out, hh, Bool.or_true])
                        clear GO HB HC
                        go_wp2_with (first
                          | (go_at_call 105; refine (specLetter _ _).mono ?_; rintro e w' ⟨rfl, rfl⟩)
                          | (go_at_call 106; refine (specHas _ _ _ sizePlus).mono ?_; rintro e w' ⟨rfl, rfl⟩; rw [hh]))
                        exact G
                      | false =>
                        have G : Hid (addrOk s = false) := HC.out (atom_bad hmt (by rw [HX.out, HN.out, hlf, hh]; rfl))
                        clear GO HB HC
                        go_wp2_with (first
                          | (go_at_call 105; refine (specLetter _ _).mono ?_; rintro e w' ⟨rfl, rfl⟩)
                          | (go_at_call 106; refine (specHas _ _ _ sizePlus).mono ?_; rintro e w' ⟨rfl, rfl⟩; rw [hh]))
                        go_ret
                        exact ⟨ret_bool G.out.symm, drew_below HB3.out _⟩
                  · have G : Hid (∀ j (h : j < L.length), j < k + 1 → atomOk L[j] = true) := HB.out (atom_good hx0 fun j hj => HM.out j (by omega))
                    clear HB HC
                    go_wp2
                    go_roundw
                    case rel => exact ⟨k + 1, n, by omega, by go_num, G.out, rfl⟩
                    case measure => simp [intOf]; omega
            · go_wp2
              go_ret
              exact ⟨ret_bool (by rw [E2.out]; exact (loc_ok HLE.out (by omega) fun j h => HA.out j h (by omega)).symm), drew_below HB3.out _⟩
    · have hlen := pieces_len ⟨#[64]⟩ s
      generalize pieces ⟨#[64]⟩ s = L at *
      have hpi : ((L.length : Int) != 2) = true := by rw [bne_iff_ne]; omega
      go_wp2
      go_ret
      exact ⟨ret_bool he.symm, hb1⟩
end Go.Proofs.YtngcjlghjidnjaaGreatDoor
