import Derived.Test.YtnbbhegcijogiaaDoorCmpH
import Derived.Shelf.SlSortCmp.NoneTotal
namespace Go.Proofs.YtnbbhegcijogiaaDoor
open Go.ChangeShapes Go.WideShapes Go.ChangeAt Go.RowKit

theorem toList_inj {a b : ByteArray} (h : a.toList = b.toList) : a = b := by
  rw [Lib.toList_data, Lib.toList_data] at h
  rw [← Lib.mk_data a, ← Lib.mk_data b, h]
theorem bytesLess_lt : ∀ (x y : List UInt8), Op.bytesLess x y = decide (x < y)
  | [], [] => by simp [Op.bytesLess]
  | _ :: _, [] => by simp [Op.bytesLess]
  | [], _ :: _ => by simp [Op.bytesLess]
  | a :: x, b :: y => by
    rw [Op.bytesLess, bytesLess_lt x y]
    simp only [List.cons_lt_cons_iff]
    by_cases h1 : a < b <;> by_cases h2 : a = b <;> by_cases h3 : x < y <;> simp [h1, h2, h3]
/-- one exchanger stands ahead of another -/
abbrev Ahd (x y : Rk) : Prop := x.1 < y.1 ∨ x.1 = y.1 ∧ (x.2.1 < y.2.1 ∨ x.2.1 = y.2.1 ∧ x.2.2.toList < y.2.2.toList)
theorem ltS_iff (a b : ByteArray) : ltS a b = true ↔ a.toList < b.toList := by unfold ltS; rw [bytesLess_lt]; simp
theorem cmpS_neg (a b : ByteArray) : cmpS a b < 0 ↔ a.toList < b.toList := by
  unfold cmpS
  by_cases h : ltS a b = true
  · rw [if_pos h]; exact ⟨fun _ => (ltS_iff a b).1 h, fun _ => by decide⟩
  · rw [if_neg h]
    refine ⟨fun h2 => ?_, fun h2 => absurd ((ltS_iff a b).2 h2) h⟩
    split at h2 <;> exact absurd h2 (by decide)
theorem cmpR_neg (x y : Rk) : cmpR x y < 0 ↔ Ahd x y := by
  unfold cmpR or3 Ahd
  rcases Int.lt_trichotomy x.1 y.1 with h | h | h
  · rw [cmpI_lt h]; simp [h]
  · rw [cmpI_eq (by omega) (by omega)]
    rcases Int.lt_trichotomy x.2.1 y.2.1 with h2 | h2 | h2
    · rw [cmpI_lt h2]; simp [h, h2]
    · rw [cmpI_eq (by omega) (by omega)]
      simp only [if_true]
      rw [cmpS_neg]
      constructor
      · exact fun h3 => .inr ⟨h, .inr ⟨h2, h3⟩⟩
      · rintro (h3 | ⟨_, h3 | ⟨_, h3⟩⟩)
        · omega
        · omega
        · exact h3
    · rw [cmpI_gt h2]
      simp only [if_true, Int.reduceEq, if_false, Int.reduceLT, false_iff]
      rintro (h3 | ⟨_, h3 | ⟨h3, _⟩⟩) <;> omega
  · rw [cmpI_gt h]
    simp only [Int.reduceEq, if_false, Int.reduceLT, false_iff]
    rintro (h3 | ⟨h3, _⟩) <;> omega
theorem ahd_lt (x y : Rk) : ltOf cmpR x y = decide (Ahd x y) := by unfold ltOf; exact decide_eq_decide.2 (cmpR_neg x y)
theorem ahd_irrefl (x : Rk) : ¬ Ahd x x := by
  rintro (h | ⟨_, h | ⟨_, h⟩⟩)
  · omega
  · omega
  · exact List.lt_irrefl _ h
theorem ahd_trans {x y z : Rk} (h1 : Ahd x y) (h2 : Ahd y z) : Ahd x z := by
  unfold Ahd at *
  rcases h1 with a | ⟨a, b | ⟨b, c⟩⟩ <;> rcases h2 with d | ⟨d, e | ⟨e, f⟩⟩
  · left; omega
  · left; omega
  · left; omega
  · left; omega
  · right; exact ⟨by omega, .inl (by omega)⟩
  · right; exact ⟨by omega, .inl (by omega)⟩
  · left; omega
  · right; exact ⟨by omega, .inl (by omega)⟩
  · right; exact ⟨by omega, .inr ⟨by omega, List.lt_trans c f⟩⟩
theorem ahd_total (x y : Rk) : Ahd x y ∨ x = y ∨ Ahd y x := by
  obtain ⟨x1, x2, x3⟩ := x
  obtain ⟨y1, y2, y3⟩ := y
  unfold Ahd
  dsimp only
  rcases Int.lt_trichotomy x1 y1 with h | h | h
  · exact .inl (.inl h)
  · rcases Int.lt_trichotomy x2 y2 with h2 | h2 | h2
    · exact .inl (.inr ⟨h, .inl h2⟩)
    · by_cases h3 : x3.toList < y3.toList
      · exact .inl (.inr ⟨h, .inr ⟨h2, h3⟩⟩)
      · by_cases h4 : y3.toList < x3.toList
        · exact .inr (.inr (.inr ⟨h.symm, .inr ⟨h2.symm, h4⟩⟩))
        · have := toList_inj (List.le_antisymm (List.not_lt.1 h4) (List.not_lt.1 h3))
          subst h h2 this
          exact .inr (.inl rfl)
    · exact .inr (.inr (.inr ⟨h.symm, .inl h2⟩))
  · exact .inr (.inr (.inl h))
theorem ahd_eq {x y : Rk} (h1 : ¬ Ahd x y) (h2 : ¬ Ahd y x) : x = y := by
  rcases ahd_total x y with h | h | h
  · exact absurd h h1
  · exact h
  · exact absurd h h2
theorem ahd_swo : Sort.SWO (ltOf cmpR) := by
  refine ⟨fun x => ?_, fun x y z h1 h2 => ?_, fun x y z h1 h2 => ?_⟩
  · rw [ahd_lt]; exact decide_eq_false (ahd_irrefl x)
  · rw [ahd_lt] at *; exact decide_eq_true (ahd_trans (of_decide_eq_true h1) (of_decide_eq_true h2))
  · rw [ahd_lt] at *
    refine decide_eq_false fun h => ?_
    have n1 := of_decide_eq_false h1
    have n2 := of_decide_eq_false h2
    rcases ahd_total y x with a | a | a
    · exact n2 (ahd_trans a h)
    · subst a; exact n2 h
    · exact n1 a
theorem ahd_one (x y : Rk) (h1 : ltOf cmpR x y = false) (h2 : ltOf cmpR y x = false) : x = y := by
  rw [ahd_lt] at *; exact ahd_eq (of_decide_eq_false h1) (of_decide_eq_false h2)

def leR (x y : Rk) : Bool := !ltOf cmpR y x
theorem leR_iff (x y : Rk) : leR x y = true ↔ ¬ Ahd y x := by unfold leR; rw [ahd_lt, Bool.not_eq_true', decide_eq_false_iff_not]
def sortR (L : List Rk) : List Rk := L.mergeSort leR
theorem leR_trans (a b c : Rk) (h1 : leR a b = true) (h2 : leR b c = true) : leR a c = true := by
  rw [leR_iff] at *
  intro h
  rcases ahd_total b c with e | e | e
  · exact h1 (ahd_trans e h)
  · subst e; exact h1 h
  · exact h2 e
theorem leR_total (a b : Rk) : (leR a b || leR b a) = true := by
  by_cases h : leR a b = true
  · rw [h]; rfl
  · have : leR b a = true := by
      rw [leR_iff] at *
      intro h2
      exact h fun h3 => ahd_irrefl a (ahd_trans h2 h3)
    rw [this]; simp
theorem leR_anti {a b : Rk} (h1 : leR a b = true) (h2 : leR b a = true) : a = b := by
  rw [leR_iff] at *; exact ahd_eq h2 h1
theorem sortR_perm (L : List Rk) : (sortR L).Perm L := List.mergeSort_perm _ _
theorem sortR_pw (L : List Rk) : (sortR L).Pairwise (fun a b => leR a b = true) := List.pairwise_mergeSort leR_trans leR_total L
theorem sortR_uniq {L M : List Rk} (hp : M.Perm L) (hs : M.Pairwise (fun a b => leR a b = true)) : M = sortR L :=
  List.Perm.eq_of_pairwise (le := fun x y => leR x y = true) (fun _ _ _ _ h1 h2 => leR_anti h1 h2) hs (sortR_pw L) (hp.trans (sortR_perm L).symm)
theorem sortR_filter (L : List Rk) (p : Rk → Bool) : (sortR L).filter p = sortR (L.filter p) :=
  sortR_uniq ((sortR_perm L).filter p) ((sortR_pw L).filter p)

/-- each host once, where it stands first -/
def dd : Nat → List Rk → List ByteArray
  | 0, _ => []
  | _, [] => []
  | n + 1, x :: T => x.2.2 :: dd n (T.filter fun y => decide (y.2.2 ≠ x.2.2))
/-- the first one of those that are left, again and again -/
def best (L : List Rk) : Rk → Rk := fun b => L.foldl (fun b m => if Ahd m b then m else b) b
def selR : Nat → List Rk → List ByteArray
  | 0, _ => []
  | _, [] => []
  | n + 1, x :: T => (best (x :: T) x).2.2 :: selR n ((x :: T).filter fun y => decide (y.2.2 ≠ (best (x :: T) x).2.2))
theorem best_mem : ∀ (L : List Rk) (b : Rk), best L b = b ∨ best L b ∈ L
  | [], b => .inl rfl
  | m :: L, b => by
    have e : best (m :: L) b = best L (if Ahd m b then m else b) := rfl
    rw [e]
    rcases best_mem L (if Ahd m b then m else b) with h | h
    · rw [h]
      by_cases hm : Ahd m b
      · rw [if_pos hm]; exact .inr List.mem_cons_self
      · rw [if_neg hm]; exact .inl rfl
    · exact .inr (List.mem_cons_of_mem _ h)
theorem best_le : ∀ (L : List Rk) (b : Rk), leR (best L b) b = true ∧ ∀ x ∈ L, leR (best L b) x = true
  | [], b => ⟨by rw [leR_iff]; exact ahd_irrefl b, fun x hx => by cases hx⟩
  | m :: L, b => by
    have e : best (m :: L) b = best L (if Ahd m b then m else b) := rfl
    obtain ⟨h1, h2⟩ := best_le L (if Ahd m b then m else b)
    rw [e]
    have hb : leR (if Ahd m b then m else b) b = true := by
      rw [leR_iff]
      by_cases hm : Ahd m b
      · rw [if_pos hm]; intro h; exact ahd_irrefl b (ahd_trans h hm)
      · rw [if_neg hm]; exact ahd_irrefl b
    have hm' : leR (if Ahd m b then m else b) m = true := by
      rw [leR_iff]
      by_cases hm : Ahd m b
      · rw [if_pos hm]; exact ahd_irrefl m
      · rw [if_neg hm]; exact hm
    refine ⟨leR_trans _ _ _ h1 hb, fun x hx => ?_⟩
    rcases List.mem_cons.1 hx with rfl | hx
    · exact leR_trans _ _ _ h1 hm'
    · exact h2 x hx
theorem sortR_head {x : Rk} {T : List Rk} : ∃ S, sortR (x :: T) = best (x :: T) x :: S := by
  have hm : best (x :: T) x ∈ x :: T := by
    rcases best_mem (x :: T) x with h | h
    · rw [h]; exact List.mem_cons_self
    · exact h
  obtain ⟨h1, h2⟩ := best_le (x :: T) x
  generalize best (x :: T) x = b at *
  have hms : b ∈ sortR (x :: T) := (sortR_perm _).mem_iff.2 hm
  have hpw := sortR_pw (x :: T)
  have hmem : ∀ y ∈ sortR (x :: T), leR b y = true := fun y hy => h2 y ((sortR_perm _).mem_iff.1 hy)
  cases hS : sortR (x :: T) with
  | nil => rw [hS] at hms; cases hms
  | cons y S =>
    rw [hS] at hms hpw hmem
    refine ⟨S, ?_⟩
    have hyb : leR y b = true := by
      rcases List.mem_cons.1 hms with rfl | hb
      · rw [leR_iff]; exact ahd_irrefl _
      · exact (List.pairwise_cons.1 hpw).1 b hb
    rw [leR_anti hyb (hmem y List.mem_cons_self)]
theorem sortR_len (L : List Rk) : (sortR L).length = L.length := (sortR_perm L).length_eq
theorem filter_lt {x : Rk} {T : List Rk} {b : Rk} (hb : b ∈ x :: T) : ((x :: T).filter fun y => decide (y.2.2 ≠ b.2.2)).length ≤ T.length := by
  have : ((x :: T).filter fun y => decide (y.2.2 ≠ b.2.2)).length < (x :: T).length := List.length_filter_lt_length_iff_exists.2 ⟨b, hb, by simp⟩
  simp at this ⊢; omega
theorem sel_eq : ∀ (n : Nat) (L : List Rk), L.length ≤ n → selR n L = dd n (sortR L)
  | 0, _, _ => rfl
  | n + 1, [], _ => by
    have : sortR [] = [] := List.eq_nil_of_length_eq_zero (sortR_len [])
    rw [this]; rfl
  | n + 1, x :: T, h => by
    obtain ⟨S, hS⟩ := sortR_head (x := x) (T := T)
    have hm : best (x :: T) x ∈ x :: T := by
      rcases best_mem (x :: T) x with h | h
      · rw [h]; exact List.mem_cons_self
      · exact h
    have hf := sortR_filter (x :: T) fun y => decide (y.2.2 ≠ (best (x :: T) x).2.2)
    rw [hS, List.filter_cons_of_neg (by simp)] at hf
    rw [selR, hS, dd, hf]
    congr 1
    exact sel_eq n _ (Nat.le_trans (filter_lt hm) (by simpa using h))
def hasH (H : List ByteArray) (h : ByteArray) : Bool := H.any fun x => decide (x = h)
theorem hasH_snoc (H : List ByteArray) (h x : ByteArray) : hasH (H ++ [h]) x = (hasH H x || decide (x = h)) := by
  unfold hasH
  rw [List.any_append]
  simp only [List.any_cons, List.any_nil, Bool.or_false]
  congr 1
  exact decide_eq_decide.2 eq_comm
/-- the hosts of a route, one by one -/
def addH (H : List ByteArray) (r : Rk) : List ByteArray := if H.length < 8 ∧ hasH H r.2.2 = false then H ++ [r.2.2] else H
theorem add_fold : ∀ (n : Nat) (T : List Rk) (H : List ByteArray), T.length ≤ n → H.length ≤ 8 → T.foldl addH H = (H ++ dd n (T.filter fun y => !hasH H y.2.2)).take 8
  | n, [], H, _, hH => by
    have : dd n [] = [] := by cases n <;> rfl
    rw [List.filter_nil, this, List.append_nil, List.foldl_nil, List.take_of_length_le hH]
  | 0, _ :: _, _, h, _ => by simp at h
  | n + 1, r :: T, H, h, hH => by
    rw [List.foldl_cons]
    cases hr : hasH H r.2.2 with
    | true =>
      have e : addH H r = H := by unfold addH; rw [if_neg (fun c => by rw [hr] at c; cases c.2)]
      rw [e, List.filter_cons_of_neg (by simp [hr])]
      exact add_fold (n + 1) T H (by simp at h; omega) hH
    | false =>
      by_cases h8 : H.length < 8
      · have e : addH H r = H ++ [r.2.2] := by unfold addH; rw [if_pos ⟨h8, hr⟩]
        rw [e, List.filter_cons_of_pos (by simp [hr]), dd, List.filter_filter]
        have ih := add_fold n T (H ++ [r.2.2]) (by simp at h; omega) (by simp; omega)
        rw [ih]
        congr 1
        rw [List.append_assoc]
        congr 1
        show _ = [r.2.2] ++ _
        congr 2
        refine List.filter_congr fun y _ => ?_
        rw [hasH_snoc]
        by_cases hy : y.2.2 = r.2.2 <;> simp [hy]
      · have hH8 : H.length = 8 := by omega
        have e : ∀ (M : List Rk), M.foldl addH H = H := by
          intro M
          induction M with
          | nil => rfl
          | cons m M ih => rw [List.foldl_cons, show addH H m = H by unfold addH; rw [if_neg (fun c => by omega)]]; exact ih
        rw [show addH H r = H by unfold addH; rw [if_neg (fun c => by omega)], e, List.take_append_of_le_length (by omega), List.take_of_length_le (by omega)]
theorem route_eq (L : List Rk) : (sortR L).foldl addH [] = (selR L.length L).take 8 := by
  rw [add_fold L.length (sortR L) [] (by rw [sortR_len]; exact Nat.le_refl _) (by decide), sel_eq _ _ (Nat.le_refl _)]
  rw [show (sortR L).filter (fun y => !hasH [] y.2.2) = sortR L from List.filter_eq_self.2 fun _ _ => rfl, List.nil_append]
end Go.Proofs.YtnbbhegcijogiaaDoor
