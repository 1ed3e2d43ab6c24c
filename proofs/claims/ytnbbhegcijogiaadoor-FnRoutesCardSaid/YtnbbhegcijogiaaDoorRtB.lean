import Derived.Test.YtnbbhegcijogiaaDoorRtQ
namespace Go.Proofs.YtnbbhegcijogiaaDoor
open Go.ChangeShapes Go.WideShapes Go.ChangeAt Go.RowKit

/-- the least preference of a host among the first k of the exchangers that count -/
abbrev bpT (m : Mx) (h : ByteArray) (b : Int) : Prop := m.2 = h ∧ 0 ≤ m.1 ∧ m.1 ≤ 65535 ∧ (b < 0 ∨ m.1 < b)
def bp (L : List Mx) (h : ByteArray) : Nat → Int
  | 0 => -1
  | k + 1 => if k < 32 ∧ bpT (L.getD k (0, ⟨#[]⟩)) h (bp L h k) then (L.getD k (0, ⟨#[]⟩)).1 else bp L h k
theorem bp_yes {L : List Mx} {h : ByteArray} {k : Nat} (hk : k < L.length) (h32 : k < 32) (ht : bpT L[k] h (bp L h k)) : bp L h (k + 1) = L[k].1 := by
  have e : L.getD k (0, ⟨#[]⟩) = L[k] := by simp [hk]
  unfold bp; rw [e, if_pos ⟨h32, ht⟩]
theorem bp_no {L : List Mx} {h : ByteArray} {k : Nat} (hk : k < L.length) (hn : ¬ (k < 32 ∧ bpT L[k] h (bp L h k))) : bp L h (k + 1) = bp L h k := by
  have e : L.getD k (0, ⟨#[]⟩) = L[k] := by simp [hk]
  conv => lhs; unfold bp
  rw [e, if_neg hn]
theorem bp_ge (L : List Mx) (h : ByteArray) : ∀ k, -1 ≤ bp L h k
  | 0 => by unfold bp; omega
  | k + 1 => by
    unfold bp
    split
    · rename_i hc; have := hc.2.2.1; omega
    · exact bp_ge L h k
theorem bp_le (L : List Mx) (h : ByteArray) : ∀ k, bp L h k ≤ 65535
  | 0 => by unfold bp; omega
  | k + 1 => by
    unfold bp
    split
    · rename_i hc; exact hc.2.2.2.1
    · exact bp_le L h k
theorem bp_is {L : List Mx} {h : ByteArray} : ∀ k, k ≤ L.length → 0 ≤ bp L h k → ∃ j, ∃ hj : j < L.length, j < 32 ∧ L[j].2 = h ∧ 0 ≤ L[j].1 ∧ L[j].1 ≤ 65535 ∧ L[j].1 = bp L h k
  | 0, _, h0 => by unfold bp at h0; omega
  | k + 1, hk, h0 => by
    by_cases hc : k < 32 ∧ bpT L[k] h (bp L h k)
    · rw [bp_yes (by omega) hc.1 hc.2]
      exact ⟨k, by omega, hc.1, hc.2.1, hc.2.2.1, hc.2.2.2.1, rfl⟩
    · rw [bp_no (by omega) hc] at h0 ⊢
      exact bp_is k (by omega) h0
theorem bp_least {L : List Mx} {h : ByteArray} : ∀ k, k ≤ L.length → ∀ j (hj : j < L.length), j < k → j < 32 → L[j].2 = h → 0 ≤ L[j].1 → L[j].1 ≤ 65535 → 0 ≤ bp L h k ∧ bp L h k ≤ L[j].1
  | k + 1, hk, j, hj, hjk, h32, hh, h0, h1 => by
    by_cases hc : k < 32 ∧ bpT L[k] h (bp L h k)
    · rw [bp_yes (by omega) hc.1 hc.2]
      refine ⟨hc.2.2.1, ?_⟩
      by_cases e : j = k
      · subst e; exact Int.le_refl _
      · have := bp_least k (by omega) j hj (by omega) h32 hh h0 h1
        have := hc.2.2.2.2
        omega
    · rw [bp_no (by omega) hc]
      by_cases e : j = k
      · subst e
        have hb : ¬ (bp L h j < 0 ∨ L[j].1 < bp L h j) := fun c => hc ⟨h32, hh, h0, h1, c⟩
        omega
      · exact bp_least k (by omega) j hj (by omega) h32 hh h0 h1
theorem rank_mem2 {seed : Nat} {L : List Mx} (x : Rk) : x ∈ rankN seed L 32 ↔ ∃ j, ∃ hj : j < L.length, j < 32 ∧ mxOk L[j] = true ∧ rkOf seed L[j] = x := by
  unfold rankN
  rw [List.mem_map]
  constructor
  · rintro ⟨m, hm, e⟩
    obtain ⟨h1, h2⟩ := List.mem_filter.1 hm
    obtain ⟨j, hj, rfl⟩ := List.getElem_of_mem h1
    simp only [List.length_take] at hj
    rw [List.getElem_take] at h2 e
    exact ⟨j, by omega, by omega, h2, e⟩
  · rintro ⟨j, hj, h32, hk, e⟩
    refine ⟨L[j], List.mem_filter.2 ⟨?_, hk⟩, e⟩
    have : (L.take 32)[j]'(by simp; omega) = L[j] := List.getElem_take
    rw [← this]; exact List.getElem_mem _
theorem mxOk_iff (m : Mx) : mxOk m = true ↔ 0 ≤ m.1 ∧ m.1 ≤ 65535 ∧ domOk m.2 = true := by unfold mxOk; simp
/-- a route's host has the preference that the sorted row has for it -/
theorem bp_pref {seed : Nat} {L : List Mx} {h : ByteArray} (hh : h ∈ (sortR (rankN seed L 32)).foldl addH []) : bp L h L.length = prefOf (sortR (rankN seed L 32)) h := by
  obtain ⟨x, hx, hxh⟩ := hosts_mem _ h hh
  have hd : domOk h = true := by
    obtain ⟨j, hj, h32, hk, e⟩ := (rank_mem2 x).1 hx
    rw [← hxh, ← e]; exact ((mxOk_iff _).1 hk).2.2
  have hperm := sortR_perm (rankN seed L 32)
  obtain ⟨y, hy, hyh, hyp⟩ := pref_at (sortR (rankN seed L 32)) h ⟨x, hperm.mem_iff.2 hx, hxh⟩
  obtain ⟨j, hj, h32, hk, e⟩ := (rank_mem2 y).1 (hperm.mem_iff.1 hy)
  have hkk := (mxOk_iff _).1 hk
  have ey1 : L[j].1 = y.1 := by rw [← e]; rfl
  have ey2 : L[j].2 = h := by rw [← hyh, ← e]; rfl
  obtain ⟨b0, b1⟩ := bp_least (h := h) L.length (Nat.le_refl _) j hj hj h32 ey2 hkk.1 hkk.2.1
  obtain ⟨i, hi, hi32, hih, hi0, hi1, hie⟩ := bp_is (h := h) L.length (Nat.le_refl _) b0
  have hz : rkOf seed L[i] ∈ sortR (rankN seed L 32) := hperm.mem_iff.2 ((rank_mem2 _).2 ⟨i, hi, hi32, (mxOk_iff _).2 ⟨hi0, hi1, by rw [hih]; exact hd⟩, rfl⟩)
  have hl := pref_least _ h (sortR_pw _) _ hz (by show L[i].2 = h; exact hih)
  have hl2 : prefOf (sortR (rankN seed L 32)) h ≤ L[i].1 := hl
  omega
/-- rising -/
theorem bp_rise {seed : Nat} {L : List Mx} {i : Nat} (hi : i + 1 < ((sortR (rankN seed L 32)).foldl addH []).length) :
    bp L ((sortR (rankN seed L 32)).foldl addH [])[i] L.length ≤ bp L ((sortR (rankN seed L 32)).foldl addH [])[i + 1] L.length := by
  rw [bp_pref (List.getElem_mem _), bp_pref (List.getElem_mem _)]
  exact List.pairwise_iff_getElem.1 (hosts_rise (rankN seed L 32)) i (i + 1) (by omega) hi (by omega)
theorem hosts_diff {seed : Nat} {L : List Mx} {i j : Nat} (hi : i < ((sortR (rankN seed L 32)).foldl addH []).length) (hj : j < i) :
    ((sortR (rankN seed L 32)).foldl addH [])[j] ≠ ((sortR (rankN seed L 32)).foldl addH [])[i] :=
  List.pairwise_iff_getElem.1 (add_nodup (sortR (rankN seed L 32)) [] List.nodup_nil) j i (by omega) hi hj
/-- what is known of a route that is right, of exchangers -/
theorem route_is {dom : ByteArray} {addr : Int} {L : List Mx} {seed : Nat} (h : (routeN dom 1 addr L seed).2 = 0) : L.map (·.2) ≠ [⟨#[46]⟩] ∧ (routeN dom 1 addr L seed).1 = (sortR (rankN seed L 32)).foldl addH [] ∧ L ≠ [] := by
  unfold routeN at *
  by_cases h1 : domOk dom = false ∨ (1 : Int) = 3
  · rw [if_pos h1] at h; cases h
  · rw [if_neg h1, if_neg (by decide), if_neg (by decide)] at h ⊢
    by_cases h2 : L.map (·.2) = [⟨#[46]⟩]
    · rw [if_pos h2] at h; cases h
    · rw [if_neg h2] at h ⊢
      by_cases h3 : rankN seed L 32 = []
      · rw [if_pos h3] at h; cases h
      · rw [if_neg h3]
        refine ⟨h2, rfl, ?_⟩
        rintro rfl
        exact h3 rfl
theorem route_back {dom : ByteArray} {addr : Int} {L : List Mx} {seed : Nat} (h : (routeN dom 1 addr L seed).2 = 0) (h2 : L.length * 2 ≤ 32) : routeN dom 1 addr L.reverse seed = routeN dom 1 addr L seed ∧ routeN dom 1 addr (L ++ L.reverse) seed = routeN dom 1 addr L seed := by
  obtain ⟨hn, _, hne⟩ := route_is h
  have hl : 1 ≤ L.length := by cases L with | nil => exact absurd rfl hne | cons _ _ => simp
  refine ⟨route_same (by simp; omega) (by omega) (fun m => by simp) (fun e => ?_) hn, route_same (by simp; omega) (by omega) (fun m => by simp) (fun e => ?_) hn⟩
  · rw [List.map_reverse] at e
    have := congrArg List.reverse e
    rw [List.reverse_reverse] at this
    exact hn this
  · have := congrArg List.length e
    simp at this; omega
end Go.Proofs.YtnbbhegcijogiaaDoor
