import Derived.Test.YthblkfdgibonbaaItE
namespace Go.Proofs.Ythblkfdgibonbaa
open Go.ChangeShapes Go.WideShapes Go.ChangeAt Go.RowKit
attribute [local go_sem ↓] Go.wp_at_zero Go.wp_at_succ

/-- an item whose places bear numbers from k on -/
def imk (k : Nat) (x : It) : It := ⟨(k : Int), ((k + 1 : Nat) : Int), markT (k + 2), marks (k + 3) x.R.length, markT (k + 3 + x.R.length), vmarks (k + 4 + x.R.length) x.V.length, ((k + 4 + x.R.length + 3 * x.V.length : Nat) : Int), ((k + 5 + x.R.length + 3 * x.V.length : Nat) : Int), (k + 6 + x.R.length + 3 * x.V.length) % 3 == 0⟩
def inx (k : Nat) (x : It) : Nat := k + 7 + x.R.length + 3 * x.V.length
def imks : Nat → List It → List It
  | _, [] => []
  | k, x :: L => imk k x :: imks (inx k x) L
def inxs : Nat → List It → Nat
  | k, [] => k
  | k, x :: L => inxs (inx k x) L
theorem imks_len : ∀ (k : Nat) (L : List It), (imks k L).length = L.length
  | _, [] => rfl
  | k, x :: L => by simp [imks, imks_len (inx k x) L]
theorem imks_app : ∀ (k : Nat) (L M : List It), imks k (L ++ M) = imks k L ++ imks (inxs k L) M
  | _, [], _ => rfl
  | k, x :: L, M => by simp [imks, inxs, imks_app (inx k x) L M]
theorem inxs_app : ∀ (k : Nat) (L M : List It), inxs k (L ++ M) = inxs (inxs k L) M
  | _, [], _ => rfl
  | k, x :: L, M => by simp [inxs, inxs_app (inx k x) L M]
theorem inxs_eq : ∀ (k : Nat) (L : List It), inxs k L ≤ k + 7 * L.length + 3 * itsN L ∧ k ≤ inxs k L
  | k, [] => by simp [inxs]
  | k, x :: L => by
    have := inxs_eq (inx k x) L
    have e : itsN (x :: L) = itN x + itsN L := by simp [itsN]
    unfold inxs
    rw [e]
    unfold itN
    unfold inx at *
    simp only [List.length_cons]
    omega
theorem imks_step {k j : Nat} {L : List It} (hj : j < L.length) : (imks k (L.take j) ++ L.drop j).set j (imk (inxs k (L.take j)) L[j]) = imks k (L.take (j + 1)) ++ L.drop (j + 1) ∧ inxs k (L.take (j + 1)) = inx (inxs k (L.take j)) L[j] := by
  have hl : (imks k (L.take j)).length = j := by rw [imks_len]; simp; omega
  constructor
  · rw [List.set_append_right _ _ (by omega), hl, Nat.sub_self, List.drop_eq_getElem_cons hj, List.set_cons_zero, List.take_succ_eq_append_getElem hj, imks_app]
    simp [imks]
  · rw [List.take_succ_eq_append_getElem hj, inxs_app]; rfl
theorem imks_at {k j : Nat} {L : List It} (hj : j < L.length) : (imks k (L.take j) ++ L.drop j)[j]'(by rw [List.length_append, imks_len]; simp; omega) = L[j] := by
  have hl : (imks k (L.take j)).length = j := by rw [imks_len]; simp; omega
  rw [List.getElem_append_right (by omega)]
  simp [hl]
theorem ItsP.scal {w : World} {lo g m cap j i : Nat} {L : List It} {P : List (Value × Value)} (h : ItsP w lo (.slice (some ⟨g, 0, none⟩) m cap) L P) (hj : j < L.length) (hi : i < 9) (x : It) (u : Value)
    (hx : ic x (P[j]'(by have := h.len; omega)) = (ic L[j] (P[j]'(by have := h.len; omega))).set i u) (hR : x.R = L[j].R) (hV : x.V = L[j].V) : ItsP (w.setCell ⟨g, j * 9 + i, none⟩ u) lo (.slice (some ⟨g, 0, none⟩) m cap) (L.set j x) P := by
  have hl := h.len
  obtain ⟨s9, v9⟩ := h.cellN (o := j * 9 + i) u
  refine ⟨by simpa using hl, ?_, fun k hk => ?_, fun k hk => ?_, h.d1, h.d2⟩
  · have hr := h.row.set (i := j) (j := i) (by rw [irow_len hl]; exact hj) hi u
    have e : (irow L P).set j (((irow L P)[j]'(by rw [irow_len hl]; exact hj)).set i u) = irow (L.set j x) P := by
      rw [irow_get hl j hj, ← hx, irow_set L P j x _ hl]
      congr 1
      exact List.set_getElem_self _
    rw [e] at hr
    exact hr
  · rw [List.length_set] at hk
    by_cases e : j = k
    · subst e; simp only [List.getElem_set_self]; rw [hR]; exact s9 j hk
    · simp only [List.getElem_set_ne e]; exact s9 k hk
  · rw [List.length_set] at hk
    by_cases e : j = k
    · subst e; simp only [List.getElem_set_self]; rw [hV]; exact v9 j hk
    · simp only [List.getElem_set_ne e]; exact v9 k hk
theorem ItsP.stR {w w' : World} {lo g m cap j : Nat} {L : List It} {P : List (Value × Value)} (h : ItsP w lo (.slice (some ⟨g, 0, none⟩) m cap) L P) (hj : j < L.length) (R : List ByteArray)
    (hs : Strs w' lo (P[j]'(by have := h.len; omega)).1 R) (ho : OffV (P[j]'(by have := h.len; omega)).1 w w') : ItsP w' lo (.slice (some ⟨g, 0, none⟩) m cap) (L.set j { L[j] with R := R }) P := by
  have hl := h.len
  have hO : OffL [(P[j]'(by omega)).1] w w' := OffL.ofV ho (by simp)
  have e0 : irow (L.set j { L[j] with R := R }) P = irow L P := by
    have := irow_set L P j { L[j] with R := R } (P[j]'(by omega)) hl
    rw [show P.set j (P[j]'(by omega)) = P from List.set_getElem_self _] at this
    rw [← this, show ic { L[j] with R := R } (P[j]'(by omega)) = ic L[j] (P[j]'(by omega)) from rfl, ← irow_get hl j hj]
    exact List.set_getElem_self _
  refine ⟨by simpa using hl, ?_, fun k hk => ?_, fun k hk => ?_, h.d1, h.d2⟩
  · rw [e0]
    refine h.row.off hO fun a ha u hu => ?_
    simp only [List.mem_singleton] at hu
    subst hu
    intro e
    exact row_apart h.row.1 (h.str j hj) TsI a a ha e rfl
  · rw [List.length_set] at hk
    by_cases e : j = k
    · subst e; simp only [List.getElem_set_self]; exact hs
    · simp only [List.getElem_set_ne e]
      refine hO.row (h.str k hk) fun a ha u hu => ?_
      simp only [List.mem_singleton] at hu
      subst hu
      have := h.d1 k (by simp; omega) j (by simp; omega) (Ne.symm e) a (by simpa using ha)
      simpa using this
  · rw [List.length_set] at hk
    have hv : Vds w' lo (P[k]'(by omega)).2 L[k].V := by
      refine hO.row (h.vds k hk) fun a ha u hu => ?_
      simp only [List.mem_singleton] at hu
      subst hu
      intro e
      exact row_apart (h.str j hj) (h.vds k hk) (by decide) a a e ha rfl
    by_cases e : j = k
    · subst e; simp only [List.getElem_set_self]; exact hv
    · simp only [List.getElem_set_ne e]; exact hv
theorem ItsP.vdV {w w' : World} {lo g m cap j : Nat} {L : List It} {P : List (Value × Value)} (h : ItsP w lo (.slice (some ⟨g, 0, none⟩) m cap) L P) (hj : j < L.length) (V : List Vd)
    (hs : Vds w' lo (P[j]'(by have := h.len; omega)).2 V) (ho : OffV (P[j]'(by have := h.len; omega)).2 w w') : ItsP w' lo (.slice (some ⟨g, 0, none⟩) m cap) (L.set j { L[j] with V := V }) P := by
  have hl := h.len
  have hO : OffL [(P[j]'(by omega)).2] w w' := OffL.ofV ho (by simp)
  have e0 : irow (L.set j { L[j] with V := V }) P = irow L P := by
    have := irow_set L P j { L[j] with V := V } (P[j]'(by omega)) hl
    rw [show P.set j (P[j]'(by omega)) = P from List.set_getElem_self _] at this
    rw [← this, show ic { L[j] with V := V } (P[j]'(by omega)) = ic L[j] (P[j]'(by omega)) from rfl, ← irow_get hl j hj]
    exact List.set_getElem_self _
  refine ⟨by simpa using hl, ?_, fun k hk => ?_, fun k hk => ?_, h.d1, h.d2⟩
  · rw [e0]
    refine h.row.off hO fun a ha u hu => ?_
    simp only [List.mem_singleton] at hu
    subst hu
    intro e
    exact row_apart h.row.1 (h.vds j hj) TvI a a ha e rfl
  · rw [List.length_set] at hk
    have hv : Strs w' lo (P[k]'(by omega)).1 L[k].R := by
      refine hO.row (h.str k hk) fun a ha u hu => ?_
      simp only [List.mem_singleton] at hu
      subst hu
      intro e
      exact row_apart (h.str k hk) (h.vds j hj) (by decide) a a ha e rfl
    by_cases e : j = k
    · subst e; simp only [List.getElem_set_self]; exact hv
    · simp only [List.getElem_set_ne e]; exact hv
  · rw [List.length_set] at hk
    by_cases e : j = k
    · subst e; simp only [List.getElem_set_self]; exact hs
    · simp only [List.getElem_set_ne e]
      refine hO.row (h.vds k hk) fun a ha u hu => ?_
      simp only [List.mem_singleton] at hu
      subst hu
      have := h.d2 k (by simp; omega) j (by simp; omega) (Ne.symm e) a (by simpa using ha)
      simpa using this
end Go.Proofs.Ythblkfdgibonbaa
