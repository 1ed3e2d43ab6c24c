import Derived.Test.YtnbbhegcijogiaaDoorMxs
namespace Go.Proofs.YtnbbhegcijogiaaDoor
open Go.ChangeShapes Go.WideShapes Go.ChangeAt Go.RowKit

theorem best_in {x : Rk} {T : List Rk} : best (x :: T) x ∈ x :: T := by
  rcases best_mem (x :: T) x with h | h
  · rw [h]; exact List.mem_cons_self
  · exact h
/-- the selection hangs on which exchangers there are, on nothing else -/
theorem sel_set : ∀ (n : Nat) (A B : List Rk), A.length + B.length ≤ n → (∀ x, x ∈ A ↔ x ∈ B) → selR A.length A = selR B.length B
  | _, [], [], _, _ => rfl
  | _, [], y :: B, _, h => absurd ((h y).2 List.mem_cons_self) (by simp)
  | _, x :: A, [], _, h => absurd ((h x).1 List.mem_cons_self) (by simp)
  | 0, x :: A, y :: B, hl, _ => by simp at hl
  | n + 1, x :: A, y :: B, hl, h => by
    have hA := best_in (x := x) (T := A)
    have hB := best_in (x := y) (T := B)
    have e : best (x :: A) x = best (y :: B) y := by
      refine leR_anti ((best_le (x :: A) x).2 _ ((h _).2 hB)) ((best_le (y :: B) y).2 _ ((h _).1 hA))
    have fA := filter_lt hA
    have fB := filter_lt hB
    show selR (A.length + 1) (x :: A) = selR (B.length + 1) (y :: B)
    rw [selR, selR, e]
    rw [e] at fA
    congr 1
    rw [sel_fuel _ _ fA, sel_fuel _ _ fB]
    refine sel_set n _ _ ?_ fun z => ?_
    · simp only [List.length_cons] at hl; omega
    · rw [List.mem_filter, List.mem_filter, h z]
theorem hasH_mem (H : List ByteArray) (x : ByteArray) : hasH H x = true ↔ x ∈ H := by rw [← hasH_eq, Lib.containsS_iff]
theorem add_nodup : ∀ (S : List Rk) (H : List ByteArray), H.Nodup → (S.foldl addH H).Nodup
  | [], _, h => h
  | r :: S, H, h => by
    rw [List.foldl_cons]
    refine add_nodup S _ ?_
    unfold addH
    split
    · rename_i hc
      rw [List.nodup_append]
      refine ⟨h, by simp, fun a ha b hb => ?_⟩
      rw [List.mem_singleton.1 hb]
      intro e
      have := (hasH_mem H r.2.2).2 (e ▸ ha)
      rw [hc.2] at this; cases this
    · exact h
/-- the preference of a host: that of its first place -/
def prefOf : List Rk → ByteArray → Int
  | [], _ => 0
  | x :: T, h => if x.2.2 = h then x.1 else prefOf T h
theorem pref_filter (h0 h : ByteArray) (hne : h ≠ h0) : ∀ T : List Rk, prefOf (T.filter fun y => decide (y.2.2 ≠ h0)) h = prefOf T h
  | [] => rfl
  | x :: T => by
    by_cases e : x.2.2 = h0
    · rw [List.filter_cons_of_neg (by simp [e]), pref_filter h0 h hne T, prefOf, if_neg (fun c => hne (by rw [← c, e]))]
    · rw [List.filter_cons_of_pos (by simp [e]), prefOf, prefOf, pref_filter h0 h hne T]
theorem dd_mem : ∀ (n : Nat) (S : List Rk) (h : ByteArray), h ∈ dd n S → ∃ x ∈ S, x.2.2 = h
  | 0, S, h, hm => by simp [dd] at hm
  | n + 1, [], h, hm => by simp [dd] at hm
  | n + 1, x :: T, h, hm => by
    rw [dd] at hm
    rcases List.mem_cons.1 hm with e | hm
    · exact ⟨x, List.mem_cons_self, e.symm⟩
    · obtain ⟨y, hy, e⟩ := dd_mem n _ h hm
      exact ⟨y, List.mem_cons_of_mem _ (List.mem_filter.1 hy).1, e⟩
theorem leR_pref {x y : Rk} (h : leR x y = true) : x.1 ≤ y.1 := by
  rw [leR_iff] at h
  by_cases c : y.1 < x.1
  · exact absurd (.inl c) h
  · omega
theorem pref_at : ∀ (S : List Rk) (h : ByteArray), (∃ x ∈ S, x.2.2 = h) → ∃ x ∈ S, x.2.2 = h ∧ x.1 = prefOf S h
  | [], h, ⟨x, hx, _⟩ => by cases hx
  | x :: T, h, he => by
    by_cases e : x.2.2 = h
    · exact ⟨x, List.mem_cons_self, e, by rw [prefOf, if_pos e]⟩
    · obtain ⟨y, hy, ey⟩ := he
      rcases List.mem_cons.1 hy with rfl | hy
      · exact absurd ey e
      · obtain ⟨z, hz, ez, pz⟩ := pref_at T h ⟨y, hy, ey⟩
        exact ⟨z, List.mem_cons_of_mem _ hz, ez, by rw [prefOf, if_neg e]; exact pz⟩
theorem pref_least : ∀ (S : List Rk) (h : ByteArray), S.Pairwise (fun a b => leR a b = true) → ∀ x ∈ S, x.2.2 = h → prefOf S h ≤ x.1
  | [], _, _, x, hx, _ => by cases hx
  | y :: T, h, hp, x, hx, e => by
    obtain ⟨h1, h2⟩ := List.pairwise_cons.1 hp
    rw [prefOf]
    by_cases ey : y.2.2 = h
    · rw [if_pos ey]
      rcases List.mem_cons.1 hx with rfl | hx
      · exact Int.le_refl _
      · exact leR_pref (h1 x hx)
    · rw [if_neg ey]
      rcases List.mem_cons.1 hx with rfl | hx
      · exact absurd e ey
      · exact pref_least T h h2 x hx e
theorem dd_rise : ∀ (n : Nat) (S : List Rk), S.Pairwise (fun a b => leR a b = true) → (dd n S).Pairwise (fun a b => prefOf S a ≤ prefOf S b)
  | 0, _, _ => by simp [dd]
  | n + 1, [], _ => by simp [dd]
  | n + 1, x :: T, hp => by
    obtain ⟨h1, h2⟩ := List.pairwise_cons.1 hp
    have ih := dd_rise n (T.filter fun y => decide (y.2.2 ≠ x.2.2)) (h2.filter _)
    have hne : ∀ h ∈ dd n (T.filter fun y => decide (y.2.2 ≠ x.2.2)), h ≠ x.2.2 := by
      intro h hm
      obtain ⟨y, hy, rfl⟩ := dd_mem n _ h hm
      exact of_decide_eq_true (List.mem_filter.1 hy).2
    rw [dd]
    refine List.pairwise_cons.2 ⟨fun h hm => ?_, ?_⟩
    · rw [prefOf, if_pos rfl, prefOf, if_neg (fun c => hne h hm c.symm)]
      obtain ⟨y, hy, e⟩ := dd_mem n _ h hm
      obtain ⟨z, hz, _, pz⟩ := pref_at T h ⟨y, (List.mem_filter.1 hy).1, e⟩
      rw [← pz]
      exact leR_pref (h1 z hz)
    · refine List.Pairwise.imp_of_mem ?_ ih
      intro a b ha hb hab
      rw [pref_filter _ _ (hne a ha), pref_filter _ _ (hne b hb)] at hab
      rw [prefOf, if_neg (fun c => hne a ha c.symm), prefOf, if_neg (fun c => hne b hb c.symm)]
      exact hab
theorem hosts_rise (L : List Rk) : ((sortR L).foldl addH []).Pairwise (fun a b => prefOf (sortR L) a ≤ prefOf (sortR L) b) := by
  rw [add_fold L.length (sortR L) [] (by rw [sortR_len]; exact Nat.le_refl _) (by decide)]
  rw [show (sortR L).filter (fun y => !hasH [] y.2.2) = sortR L from List.filter_eq_self.2 fun _ _ => rfl, List.nil_append]
  exact (dd_rise _ _ (sortR_pw L)).sublist (List.take_sublist _ _)
theorem hosts_mem (L : List Rk) : ∀ h ∈ (sortR L).foldl addH [], ∃ x ∈ L, x.2.2 = h := by
  rw [add_fold L.length (sortR L) [] (by rw [sortR_len]; exact Nat.le_refl _) (by decide)]
  rw [show (sortR L).filter (fun y => !hasH [] y.2.2) = sortR L from List.filter_eq_self.2 fun _ _ => rfl, List.nil_append]
  intro h hm
  obtain ⟨x, hx, e⟩ := dd_mem _ _ h (List.mem_of_mem_take hm)
  exact ⟨x, (sortR_perm L).mem_iff.1 hx, e⟩

/-- the order and the repetition of the records do not show -/
theorem rank_mem {seed : Nat} {L : List Mx} (h : L.length ≤ 32) (x : Rk) : x ∈ rankN seed L 32 ↔ ∃ m ∈ L, mxOk m = true ∧ rkOf seed m = x := by
  unfold rankN
  rw [List.take_of_length_le h, List.mem_map]
  constructor
  · rintro ⟨m, hm, e⟩
    exact ⟨m, (List.mem_filter.1 hm).1, (List.mem_filter.1 hm).2, e⟩
  · rintro ⟨m, hm, hk, e⟩
    exact ⟨m, List.mem_filter.2 ⟨hm, hk⟩, e⟩
theorem route_same {dom : ByteArray} {addr : Int} {L M : List Mx} {seed : Nat} (hL : L.length ≤ 32) (hM : M.length ≤ 32) (hs : ∀ m, m ∈ L ↔ m ∈ M) (h1 : L.map (·.2) ≠ [⟨#[46]⟩]) (h2 : M.map (·.2) ≠ [⟨#[46]⟩]) : routeN dom 1 addr L seed = routeN dom 1 addr M seed := by
  have hm : ∀ x, x ∈ rankN seed L 32 ↔ x ∈ rankN seed M 32 := fun x => by
    rw [rank_mem hL, rank_mem hM]
    constructor
    · rintro ⟨m, a, b⟩; exact ⟨m, (hs m).1 a, b⟩
    · rintro ⟨m, a, b⟩; exact ⟨m, (hs m).2 a, b⟩
  have he : rankN seed L 32 = [] ↔ rankN seed M 32 = [] := by
    constructor
    · intro e
      refine List.eq_nil_iff_forall_not_mem.2 fun x hx => ?_
      have := (hm x).2 hx
      rw [e] at this; cases this
    · intro e
      refine List.eq_nil_iff_forall_not_mem.2 fun x hx => ?_
      have := (hm x).1 hx
      rw [e] at this; cases this
  have hsel := sel_set _ _ _ (Nat.le_refl _) hm
  unfold routeN
  rw [if_neg h1, if_neg h2, route_eq, route_eq, hsel]
  by_cases e : rankN seed L 32 = []
  · rw [if_pos e, if_pos (he.1 e)]
  · rw [if_neg e, if_neg (fun c => e (he.2 c))]
end Go.Proofs.YtnbbhegcijogiaaDoor
