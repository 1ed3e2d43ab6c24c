import Derived.Test.YtnbbhegcijogiaaDoorSAh
import Derived.Test.YtnbbhegcijogiaaDoorOffL
namespace Go.Proofs.YtnbbhegcijogiaaDoor
open Go.ChangeShapes Go.WideShapes Go.ChangeAt Go.RowKit
attribute [local go_sem ↓] Go.wp_at_zero Go.wp_at_succ

def mxEnc (m : Mx) : List Value := [.int .i64 m.1, .string m.2]
def mxRow (L : List Mx) : List Value := (L.map mxEnc).flatten
theorem mxRow_len : ∀ L : List Mx, (mxRow L).length = 2 * L.length
  | [] => rfl
  | x :: L => by
    have := mxRow_len L
    unfold mxRow at *
    simp only [List.map_cons, List.flatten_cons, List.length_append, mxEnc, List.length_cons, List.length_nil] at *
    omega
theorem mxRow_snoc (L : List Mx) (x : Mx) : mxRow (L ++ [x]) = mxRow L ++ mxEnc x := by unfold mxRow; simp
/-- a row of exchangers -/
def Mxs (w : World) (lo : Nat) (v : Value) (L : List Mx) : Prop := w.ownsRow lo 34 2 v L.length (mxRow L)
theorem mxRow_get : ∀ (L : List Mx) (i : Nat) (h : i < L.length), (mxRow L)[i * 2]? = some (.int .i64 L[i].1) ∧ (mxRow L)[i * 2 + 1]? = some (.string L[i].2)
  | v :: L, 0, _ => ⟨rfl, rfl⟩
  | v :: L, i + 1, h => by
    have := mxRow_get L i (by simpa using h)
    have e : ∀ j, (mxRow (v :: L))[j + 2]? = (mxRow L)[j]? := fun j => rfl
    rw [show (i + 1) * 2 = i * 2 + 2 by omega, show i * 2 + 2 + 1 = (i * 2 + 1) + 2 by omega, e, e]
    exact this
structure MxsAt (w : World) (lo g cap : Nat) (L : List Mx) : Prop where
  lo : lo ≤ g
  lt : g < w.heap.size
  len : L.length ≤ cap
  capm : cap ≤ maxLen
  cell : ∀ i (hi : i < L.length), w.cell? ⟨g, i * 2, none⟩ = some (.int .i64 L[i].1) ∧ w.cell? ⟨g, i * 2 + 1, none⟩ = some (.string L[i].2)
  ex : ∃ cur : Array Value, w.heap[g]? = some (.cells cur 34) ∧ cur.size = cap * 2 ∧ cur.toList.take (L.length * 2) = mxRow L
theorem Mxs.cases {w : World} {lo : Nat} {v : Value} {L : List Mx} (h : Mxs w lo v L) :
    (v = .slice none 0 0 ∧ L = []) ∨ ∃ g cap, v = .slice (some ⟨g, 0, none⟩) L.length cap ∧ MxsAt w lo g cap L := by
  rcases h.2 with ⟨hv, h0⟩ | ⟨g, cap, cur, hv, hb, hg, hn, hc, hs, ht⟩
  · exact .inl ⟨hv, List.eq_nil_of_length_eq_zero h0⟩
  · refine .inr ⟨g, cap, hv, hb, (Array.getElem?_eq_some_iff.1 hg).1, hn, hc, ?_, ⟨cur, hg, hs, ht⟩⟩
    intro i hi
    have key : ∀ j, j < L.length * 2 → ∀ x, (mxRow L)[j]? = some x → w.cell? ⟨g, j, none⟩ = some x := by
      intro j hj x hx
      have h1 : (cur.toList.take (L.length * 2))[j]? = some x := by rw [ht]; exact hx
      rw [List.getElem?_take_of_lt hj] at h1
      have h2 : cur[j]? = some x := by simpa using h1
      simp [World.cell?, hg, h2]
    obtain ⟨e0, e1⟩ := mxRow_get L i hi
    exact ⟨key _ (by omega) _ e0, key _ (by omega) _ e1⟩
theorem mxs_below {w w' : World} {lo : Nat} {v : Value} {L : List Mx} (h : Mxs w lo v L) {B : Nat} (hb : Below B w w') (hB : w.heap.size ≤ B) : Mxs w' lo v L := by
  refine ⟨h.1, ?_⟩
  rcases h.2 with h0 | ⟨g, cap, cur, hv, hl, hg, rest⟩
  · exact .inl h0
  · refine .inr ⟨g, cap, cur, hv, hl, ?_, rest⟩
    rw [hb.block g (Nat.lt_of_lt_of_le (Array.getElem?_eq_some_iff.1 hg).1 hB)]; exact hg
theorem mxs_lo {w : World} {lo : Nat} {v : Value} {L : List Mx} (h : Mxs w lo v L) : ∀ g, v.ownBlock = some g → lo ≤ g := by
  intro g hg
  rcases h.cases with ⟨rfl, _⟩ | ⟨g', cap, rfl, hs⟩
  · simp [Value.ownBlock] at hg
  · simp only [Value.ownBlock, Option.some.injEq] at hg
    subst hg; exact hs.lo
theorem mxs_le {w : World} {lo lo' : Nat} {v : Value} {L : List Mx} (h : Mxs w lo v L) (hl : lo' ≤ lo) : Mxs w lo' v L := Go.Joins.ownsRow_le h hl
theorem mxs_form {w : World} {lo : Nat} {v : Value} {L : List Mx} (h : Mxs w lo v L) : ∃ a c, v = .slice a L.length c := by
  rcases h.cases with ⟨rfl, rfl⟩ | ⟨g, cap, rfl, _⟩
  · exact ⟨none, 0, rfl⟩
  · exact ⟨_, _, rfl⟩
theorem mxs_own {w : World} {lo : Nat} {v : Value} {L : List Mx} (h : Mxs w lo v L) : ∀ g, v.ownBlock = some g → g < w.heap.size := by
  intro g hg
  rcases h.cases with ⟨rfl, _⟩ | ⟨g', cap, rfl, hs⟩
  · simp [Value.ownBlock] at hg
  · simp only [Value.ownBlock, Option.some.injEq] at hg
    subst hg; exact hs.lt
theorem mxs_nil {w : World} {lo : Nat} : Mxs w lo (.slice none 0 0) [] := ⟨rfl, .inl ⟨rfl, rfl⟩⟩
theorem infoMx : (Tryd.prog.info? 34).map (fun i => (i.zero, i.size, i.bytes)) = some (some (.agg #[.int .i64 0, .string ⟨#[]⟩]), 2, 24) := by kernel_rfl
theorem mxs_args {w : World} {lo : Nat} {v : Value} {L : List Mx} (h : Mxs w lo v L) (hL : L.length ≤ maxLen) (hs : ∀ x ∈ L, x.2.size ≤ maxLen) : ArgM w v L := by
  refine ⟨hL, hs, ?_⟩
  rcases h.cases with ⟨rfl, rfl⟩ | ⟨g, cap, rfl, hs⟩
  · exact .inl ⟨rfl, none, 0, rfl⟩
  · exact .inr ⟨g, 0, cap, rfl, hs.len, hs.lt, fun i hi => by have := hs.cell i hi; simpa using this⟩

/-- those that are left of the first k -/
def leftN (L : List Mx) (k : Nat) : List Mx := (L.take (min k 32)).filter mxOk
theorem left_end {L : List Mx} {seed : Nat} : (leftN L L.length).map (rkOf seed) = rankN seed L 32 := by
  unfold leftN rankN
  congr 2
  by_cases h : L.length ≤ 32
  · rw [Nat.min_eq_left h, List.take_length, List.take_of_length_le h]
  · rw [Nat.min_eq_right (by omega)]
theorem left_far {L : List Mx} {k : Nat} (h : 32 ≤ k) : leftN L (k + 1) = leftN L k := by unfold leftN; rw [Nat.min_eq_right (by omega), Nat.min_eq_right h]
theorem left_step {L : List Mx} {k : Nat} (h : k < L.length) (h32 : k < 32) : leftN L (k + 1) = leftN L k ++ (if mxOk L[k] then [L[k]] else []) := by
  unfold leftN
  rw [Nat.min_eq_left (by omega), Nat.min_eq_left (by omega), List.take_add_one, List.getElem?_eq_getElem h, Option.toList_some, List.filter_append]
  congr 1
  by_cases hm : mxOk L[k] = true
  · rw [if_pos hm, List.filter_cons_of_pos hm]; rfl
  · rw [if_neg hm, List.filter_cons_of_neg hm]; rfl
theorem left_yes {L : List Mx} {k : Nat} (h : k < L.length) (h32 : k < 32) (hm : mxOk L[k] = true) : leftN L (k + 1) = leftN L k ++ [L[k]] := by rw [left_step h h32, if_pos hm]
theorem left_no {L : List Mx} {k : Nat} (h : k < L.length) (h32 : k < 32) (hm : mxOk L[k] = false) : leftN L (k + 1) = leftN L k := by rw [left_step h h32, if_neg (by rw [hm]; decide), List.append_nil]
theorem left_len (L : List Mx) (k : Nat) : (leftN L k).length ≤ 32 := by
  unfold leftN
  exact Nat.le_trans (List.length_filter_le _ _) (by rw [List.length_take]; omega)
theorem left_sub (L : List Mx) (k : Nat) : ∀ x ∈ leftN L k, x ∈ L := fun _ hx => List.mem_of_mem_take (List.mem_filter.1 hx).1

/-- the best of some -/
def bestM (seed : Nat) (L : List Mx) (b : Mx) : Mx := L.foldl (fun b m => if Ahd (rkOf seed m) (rkOf seed b) then m else b) b
theorem bestM_map (seed : Nat) : ∀ (L : List Mx) (b : Mx), rkOf seed (bestM seed L b) = best (L.map (rkOf seed)) (rkOf seed b)
  | [], _ => rfl
  | m :: L, b => by
    have ih := bestM_map seed L (if Ahd (rkOf seed m) (rkOf seed b) then m else b)
    show rkOf seed (bestM seed L _) = best (L.map (rkOf seed)) _
    rw [ih]
    congr 1
    by_cases h : Ahd (rkOf seed m) (rkOf seed b)
    · rw [if_pos h]; exact (if_pos h).symm
    · rw [if_neg h]; exact (if_neg h).symm
theorem bestM_step {seed : Nat} {L : List Mx} {b : Mx} {k : Nat} (h : k < L.length) : bestM seed (L.take (k + 1)) b = if Ahd (rkOf seed L[k]) (rkOf seed (bestM seed (L.take k) b)) then L[k] else bestM seed (L.take k) b := by
  unfold bestM
  rw [List.take_add_one, List.getElem?_eq_getElem h, Option.toList_some, List.foldl_append]; rfl
theorem bestM_mem {seed : Nat} : ∀ (L : List Mx) (b : Mx), bestM seed L b = b ∨ bestM seed L b ∈ L
  | [], b => .inl rfl
  | m :: L, b => by
    have e : bestM seed (m :: L) b = bestM seed L (if Ahd (rkOf seed m) (rkOf seed b) then m else b) := rfl
    rw [e]
    rcases bestM_mem L (if Ahd (rkOf seed m) (rkOf seed b) then m else b) with h | h
    · rw [h]
      by_cases hm : Ahd (rkOf seed m) (rkOf seed b)
      · rw [if_pos hm]; exact .inr List.mem_cons_self
      · rw [if_neg hm]; exact .inl rfl
    · exact .inr (List.mem_cons_of_mem _ h)
def dropH (L : List Mx) (h : ByteArray) : List Mx := L.filter fun y => decide (y.2 ≠ h)
theorem drop_step {L : List Mx} {h : ByteArray} {k : Nat} (hk : k < L.length) : dropH (L.take (k + 1)) h = dropH (L.take k) h ++ (if L[k].2 = h then [] else [L[k]]) := by
  unfold dropH
  rw [List.take_add_one, List.getElem?_eq_getElem hk, Option.toList_some, List.filter_append]
  congr 1
  by_cases hm : L[k].2 = h
  · rw [if_pos hm, List.filter_cons_of_neg (by simp [hm])]; rfl
  · rw [if_neg hm, List.filter_cons_of_pos (by simp [hm])]; rfl
theorem drop_map (L : List Mx) (h : ByteArray) (seed : Nat) : (dropH L h).map (rkOf seed) = (L.map (rkOf seed)).filter fun y => decide (y.2.2 ≠ h) := by
  unfold dropH; rw [List.filter_map]; rfl
theorem sel_fuel : ∀ (n : Nat) (L : List Rk), L.length ≤ n → selR n L = selR L.length L := by
  intro n
  induction n using Nat.strongRecOn with
  | _ n ih =>
  intro L hL
  match n, L, hL with
  | 0, [], _ => rfl
  | 0, _ :: _, h => simp at h
  | n + 1, [], _ => rfl
  | n + 1, x :: T, h =>
    have hm : best (x :: T) x ∈ x :: T := by
      rcases best_mem (x :: T) x with h | h
      · rw [h]; exact List.mem_cons_self
      · exact h
    have hf := filter_lt hm
    have hT : T.length ≤ n := by simpa using h
    rw [selR, show (x :: T).length = T.length + 1 from rfl, selR]
    congr 1
    rw [ih n (by omega) _ (Nat.le_trans hf hT)]
    by_cases e : T.length < n + 1
    · rw [ih T.length e _ hf]
    · omega
/-- one round of the selection -/
theorem sel_round {seed : Nat} {x : Mx} {T : List Mx} : selR (x :: T).length ((x :: T).map (rkOf seed)) = (bestM seed (x :: T) x).2 :: selR (dropH (x :: T) (bestM seed (x :: T) x).2).length ((dropH (x :: T) (bestM seed (x :: T) x).2).map (rkOf seed)) := by
  have e := bestM_map seed (x :: T) x
  have e2 : (best ((x :: T).map (rkOf seed)) (rkOf seed x)).2.2 = (bestM seed (x :: T) x).2 := by rw [← e]; rfl
  show selR (T.length + 1) (rkOf seed x :: T.map (rkOf seed)) = _
  rw [selR]
  show (best ((x :: T).map (rkOf seed)) (rkOf seed x)).2.2 :: selR T.length (((x :: T).map (rkOf seed)).filter fun y => decide (y.2.2 ≠ (best ((x :: T).map (rkOf seed)) (rkOf seed x)).2.2)) = _
  rw [e2, ← drop_map]
  congr 1
  have hm : bestM seed (x :: T) x ∈ x :: T := by
    rcases bestM_mem (seed := seed) (x :: T) x with h | h
    · rw [h]; exact List.mem_cons_self
    · exact h
  have hl : (dropH (x :: T) (bestM seed (x :: T) x).2).length ≤ T.length := by
    have : ((x :: T).filter fun y => decide (y.2 ≠ (bestM seed (x :: T) x).2)).length < (x :: T).length := List.length_filter_lt_length_iff_exists.2 ⟨_, hm, by simp⟩
    unfold dropH
    simp at this ⊢; omega
  rw [sel_fuel T.length _ (by rw [List.length_map]; exact hl), List.length_map]
end Go.Proofs.YtnbbhegcijogiaaDoor
