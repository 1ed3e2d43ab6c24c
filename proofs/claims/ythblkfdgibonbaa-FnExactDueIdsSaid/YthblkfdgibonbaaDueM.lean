import Derived.WalkKit
namespace Go.Proofs.Ythblkfdgibonbaa

/-- an item's turn: its time, its number -/
abbrev Du := Int × Int
abbrev dLt (a b : Du) : Prop := a.1 < b.1 ∨ a.1 = b.1 ∧ a.2 < b.2
def dLe (a b : Du) : Bool := decide (¬ dLt b a)
theorem dLe_iff {a b : Du} : dLe a b = true ↔ ¬ dLt b a := by unfold dLe; exact decide_eq_true_iff
theorem dLe_refl (a : Du) : dLe a a = true := by rw [dLe_iff]; unfold dLt; omega
theorem dLe_trans (a b c : Du) (h1 : dLe a b = true) (h2 : dLe b c = true) : dLe a c = true := by rw [dLe_iff] at *; unfold dLt at *; omega
theorem dLe_total (a b : Du) : (dLe a b || dLe b a) = true := by
  by_cases h : dLe a b = true
  · rw [h]; rfl
  · have : dLe b a = true := by rw [dLe_iff] at *; unfold dLt at *; omega
    rw [this]; simp
theorem dLe_anti {a b : Du} (h1 : dLe a b = true) (h2 : dLe b a = true) : a = b := by
  rw [dLe_iff] at *; unfold dLt at *; exact Prod.ext (by omega) (by omega)
theorem dLt_le {a b : Du} (h : dLt a b) : dLe a b = true := by rw [dLe_iff]; unfold dLt at *; omega
def sortD (L : List Du) : List Du := L.mergeSort dLe
theorem sortD_perm (L : List Du) : (sortD L).Perm L := List.mergeSort_perm _ _
theorem sortD_pw (L : List Du) : (sortD L).Pairwise (fun a b => dLe a b = true) := List.pairwise_mergeSort dLe_trans dLe_total L
theorem sortD_uniq {L M : List Du} (hp : M.Perm L) (hs : M.Pairwise (fun a b => dLe a b = true)) : M = sortD L :=
  List.Perm.eq_of_pairwise (le := fun x y => dLe x y = true) (fun _ _ _ _ h1 h2 => dLe_anti h1 h2) hs (sortD_pw L) (hp.trans (sortD_perm L).symm)
theorem sortD_min {x : Du} {L M : List Du} (hp : M.Perm (x :: L)) (h : ∀ y ∈ L, dLe x y = true) : sortD M = x :: sortD L := by
  symm
  refine sortD_uniq ((List.Perm.cons x (sortD_perm L)).trans hp.symm) ?_
  rw [List.pairwise_cons]
  exact ⟨fun y hy => h y ((sortD_perm L).mem_iff.1 hy), sortD_pw L⟩

def gD (H : List Du) (k : Nat) : Du := H.getD k (0, 0)
theorem gD_get {H : List Du} {k : Nat} (h : k < H.length) : gD H k = H[k] := by simp [gD, h]
/-- two places change what they hold -/
def swD (H : List Du) (i j : Nat) : List Du := (H.set i (gD H j)).set j (gD H i)
theorem swD_len (H : List Du) (i j : Nat) : (swD H i j).length = H.length := by simp [swD]
theorem swD_perm {H : List Du} {i j : Nat} (hi : i < H.length) (hj : j < H.length) : (swD H i j).Perm H := by
  unfold swD
  rw [gD_get hi, gD_get hj]
  exact List.set_set_perm hi hj
theorem swD_at {H : List Du} {i j k : Nat} (hi : i < H.length) (hj : j < H.length) : gD (swD H i j) k = if k = j then gD H i else if k = i then gD H j else gD H k := by
  by_cases h1 : k = j
  · subst h1; rw [if_pos rfl]; simp [gD, swD, List.getD_eq_getElem?_getD, hj]
  · rw [if_neg h1]
    by_cases h2 : k = i
    · subst h2; rw [if_pos rfl]; unfold gD swD; rw [List.getD_eq_getElem?_getD, List.getElem?_set_ne (Ne.symm h1)]; simp [gD, hi]
    · rw [if_neg h2]; simp [gD, swD, List.getD_eq_getElem?_getD, List.getElem?_set_ne (Ne.symm h1), List.getElem?_set_ne (Ne.symm h2)]
theorem swD_other {H : List Du} {i j k : Nat} (hi : i < H.length) (hj : j < H.length) (h1 : k ≠ j) (h2 : k ≠ i) : gD (swD H i j) k = gD H k := by
  rw [swD_at hi hj, if_neg h1, if_neg h2]
theorem swD_i {H : List Du} {i j : Nat} (hi : i < H.length) (hj : j < H.length) (hne : i ≠ j) : gD (swD H i j) i = gD H j := by rw [swD_at hi hj, if_neg hne, if_pos rfl]
theorem swD_j {H : List Du} {i j : Nat} (hi : i < H.length) (hj : j < H.length) : gD (swD H i j) j = gD H i := by rw [swD_at hi hj, if_pos rfl]

/-- a heap in the first n places -/
def HeapD (n : Nat) (H : List Du) : Prop := ∀ k, k < n → 0 < k → dLe (gD H ((k - 1) / 2)) (gD H k) = true
theorem heap_min {n : Nat} {H : List Du} (h : HeapD n H) : ∀ m k, k ≤ m → k < n → dLe (gD H 0) (gD H k) = true
  | _, 0, _, _ => dLe_refl _
  | m + 1, k + 1, hm, hk => dLe_trans _ _ _ (heap_min h m ((k + 1 - 1) / 2) (by omega) (by omega)) (h (k + 1) hk (by omega))
def UpD (H : List Du) (j : Nat) : Prop :=
  (∀ k, k < H.length → 0 < k → k ≠ j → dLe (gD H ((k - 1) / 2)) (gD H k) = true) ∧ (0 < j → ∀ k, k < H.length → 0 < k → (k - 1) / 2 = j → dLe (gD H ((j - 1) / 2)) (gD H k) = true)
theorem up_start {H : List Du} (x : Du) (h : HeapD H.length H) : UpD (H ++ [x]) H.length := by
  refine ⟨fun k hk h0 hne => ?_, fun h0 k hk hk0 hp => ?_⟩
  · have hk2 : k < H.length := by simp at hk; omega
    have := h k hk2 h0
    have e : ∀ i, i < H.length → gD (H ++ [x]) i = gD H i := fun i hi => by simp [gD, List.getD_eq_getElem?_getD, List.getElem?_append_left hi]
    rw [e _ (by omega), e _ hk2]; exact this
  · simp at hk; omega
theorem up_step {H : List Du} {j : Nat} (h : UpD H j) (hj : j < H.length) (h0 : 0 < j) (hl : dLt (gD H j) (gD H ((j - 1) / 2))) : UpD (swD H ((j - 1) / 2) j) ((j - 1) / 2) := by
  obtain ⟨i, hi⟩ : ∃ i, (j - 1) / 2 = i := ⟨_, rfl⟩
  rw [hi] at hl ⊢
  have hij : i < j := by omega
  have hil : i < H.length := by omega
  obtain ⟨a, b⟩ := h
  refine ⟨fun k hk k0 hne => ?_, fun hi0 k hk k0 hp => ?_⟩
  · rw [swD_len] at hk
    by_cases kj : k = j
    · subst kj
      rw [hi, swD_i hil hj (by omega), swD_j hil hj]; exact dLt_le hl
    · rw [swD_other hil hj kj hne]
      by_cases pi : (k - 1) / 2 = i
      · rw [pi, swD_i hil hj (by omega)]
        have := a k hk k0 kj
        rw [pi] at this
        exact dLe_trans _ _ _ (dLt_le hl) this
      · by_cases pj : (k - 1) / 2 = j
        · rw [pj, swD_j hil hj]
          have := b h0 k hk k0 pj
          rw [hi] at this; exact this
        · rw [swD_other hil hj pj pi]; exact a k hk k0 kj
  · rw [swD_len] at hk
    rw [swD_other (k := (i - 1) / 2) hil hj (by omega) (by omega)]
    have pi := a i hil hi0 (by omega)
    by_cases kj : k = j
    · subst kj; rw [swD_j hil hj]; exact pi
    · rw [swD_other hil hj kj (by omega)]
      have := a k hk k0 kj
      rw [hp] at this
      exact dLe_trans _ _ _ pi this
theorem up_end {H : List Du} {j : Nat} (h : UpD H j) (he : j = 0 ∨ ¬ dLt (gD H j) (gD H ((j - 1) / 2))) : HeapD H.length H := by
  intro k hk k0
  by_cases kj : k = j
  · subst kj
    rcases he with he | he
    · omega
    · exact dLe_iff.2 he
  · exact h.1 k hk k0 kj

def DnD (H : List Du) (n i : Nat) : Prop :=
  (∀ k, k < n → 0 < k → (k - 1) / 2 ≠ i → dLe (gD H ((k - 1) / 2)) (gD H k) = true) ∧ (0 < i → ∀ k, k < n → 0 < k → (k - 1) / 2 = i → dLe (gD H ((i - 1) / 2)) (gD H k) = true)
theorem dn_start {H : List Du} {m : Nat} (hm : H.length = m + 1) (h : HeapD (m + 1) H) : DnD (swD H 0 m) m 0 := by
  refine ⟨fun k hk k0 hp => ?_, fun h0 => absurd h0 (by omega)⟩
  rw [swD_other (by omega) (by omega) (by omega) hp, swD_other (by omega) (by omega) (by omega) (by omega)]
  exact h k (by omega) k0
theorem dn_step {H : List Du} {n i j : Nat} (h : DnD H n i) (hn : n ≤ H.length) (hi : i < n) (hj : j < n) (hp : 0 < j ∧ (j - 1) / 2 = i) (hm : ∀ k, k < n → 0 < k → (k - 1) / 2 = i → dLe (gD H j) (gD H k) = true) (hl : dLt (gD H j) (gD H i)) : DnD (swD H i j) n j := by
  obtain ⟨a, b⟩ := h
  have hil : i < H.length := by omega
  have hjl : j < H.length := by omega
  refine ⟨fun k hk k0 hpk => ?_, fun _ k hk k0 hpk => ?_⟩
  · by_cases pi : (k - 1) / 2 = i
    · rw [pi, swD_i hil hjl (by omega)]
      by_cases kj : k = j
      · subst kj; rw [swD_j hil hjl]; exact dLt_le hl
      · rw [swD_other hil hjl kj (by omega)]; exact hm k hk k0 pi
    · rw [swD_other hil hjl hpk pi]
      by_cases ki : k = i
      · subst ki; rw [swD_i hil hjl (by omega)]; exact b k0 j hj hp.1 hp.2
      · rw [swD_other hil hjl (by intro e; subst e; exact pi hp.2) ki]; exact a k hk k0 pi
  · rw [hp.2, swD_i hil hjl (by omega), swD_other hil hjl (by omega) (by omega)]
    have := a k hk k0 (by omega)
    rw [hpk] at this; exact this
theorem dn_end {H : List Du} {n i : Nat} (h : DnD H n i) (he : ∀ k, k < n → 0 < k → (k - 1) / 2 = i → dLe (gD H i) (gD H k) = true) : HeapD n H := by
  intro k hk k0
  by_cases pi : (k - 1) / 2 = i
  · rw [pi]; exact he k hk k0 pi
  · exact h.1 k hk k0 pi
theorem heap_take {n : Nat} {H : List Du} (h : HeapD n H) (hn : n ≤ H.length) : HeapD (H.take n).length (H.take n) := by
  intro k hk k0
  have hk2 : k < n := by simp at hk; omega
  have e : ∀ i, i < n → gD (H.take n) i = gD H i := fun i hi => by simp [gD, List.getD_eq_getElem?_getD, List.getElem?_take_of_lt hi]
  rw [e _ (by omega), e _ hk2]; exact h k hk2 k0
/-- what is taken out, and what is left -/
theorem pop_sort {H G : List Du} {m : Nat} (hm : H.length = m + 1) (h : HeapD (m + 1) H) (hp : G.Perm H) (hl : gD G m = gD H 0) : sortD H = gD H 0 :: sortD (G.take m) := by
  have hg : G.length = m + 1 := by rw [hp.length_eq, hm]
  have e : G = G.take m ++ [gD H 0] := by
    rw [← hl, gD_get (by omega)]
    rw [← List.take_succ_eq_append_getElem (by omega), ← hg, List.take_length]
  refine sortD_min (L := G.take m) ?_ fun y hy => ?_
  · refine hp.symm.trans ?_
    have : G.Perm (gD H 0 :: G.take m) := by
      conv => lhs; rw [e]
      exact List.perm_append_singleton _ _
    exact this
  · have hy2 : y ∈ H := hp.mem_iff.1 (List.mem_of_mem_take hy)
    obtain ⟨k, hk, rfl⟩ := List.getElem_of_mem hy2
    rw [← gD_get hk]
    exact heap_min h k k (Nat.le_refl _) (by omega)
theorem sortD_nil : sortD [] = [] := by simp [sortD]

/-- the place of the first one of those that are left -/
def bestD (L : List Du) : Nat → Nat
  | 0 => 0
  | n + 1 => if dLt (gD L n) (gD L (bestD L n)) then n else bestD L n
theorem bestD_lt {L : List Du} (h : 0 < L.length) : ∀ n, n ≤ L.length → bestD L n < L.length
  | 0, _ => h
  | n + 1, hn => by
    unfold bestD
    split
    · omega
    · exact bestD_lt h n (by omega)
theorem bestD_le {L : List Du} : ∀ n k, k < n → dLe (gD L (bestD L n)) (gD L k) = true
  | n + 1, k, hk => by
    unfold bestD
    split
    · rename_i h
      by_cases e : k = n
      · subst e; exact dLe_refl _
      · exact dLe_trans _ _ _ (dLt_le h) (bestD_le n k (by omega))
    · rename_i h
      by_cases e : k = n
      · subst e; exact dLe_iff.2 h
      · exact bestD_le n k (by omega)
theorem sel_sort {L : List Du} (h : 0 < L.length) : sortD L = gD L (bestD L L.length) :: sortD (L.take (bestD L L.length) ++ L.drop (bestD L L.length + 1)) := by
  have hb := bestD_lt h L.length (Nat.le_refl _)
  obtain ⟨b, hbe⟩ : ∃ b, bestD L L.length = b := ⟨_, rfl⟩
  have hle : ∀ k, k < L.length → dLe (gD L b) (gD L k) = true := fun k hk => by rw [← hbe]; exact bestD_le L.length k hk
  rw [hbe] at hb ⊢
  have e : L = L.take b ++ (gD L b :: L.drop (b + 1)) := by
    rw [gD_get hb, ← List.drop_eq_getElem_cons hb, List.take_append_drop]
  refine sortD_min ?_ fun y hy => ?_
  · conv => lhs; rw [e]
    exact List.perm_middle
  · have hy2 : y ∈ L := by
      rcases List.mem_append.1 hy with h | h
      · exact List.mem_of_mem_take h
      · exact List.mem_of_mem_drop h
    obtain ⟨k, hk, rfl⟩ := List.getElem_of_mem hy2
    rw [← gD_get hk]
    exact hle k hk
end Go.Proofs.Ythblkfdgibonbaa
