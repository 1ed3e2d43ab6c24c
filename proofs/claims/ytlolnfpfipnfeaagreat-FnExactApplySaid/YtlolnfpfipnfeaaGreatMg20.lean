import Derived.Test.YtlolnfpfipnfeaaGreatMg16
import Derived.Test.YtlolnfpfipnfeaaGreatMg19
namespace Go.Proofs.YtlolnfpfipnfeaaGreat

/-- a verdict that is not the last -/
def pend (v : Vd) : Bool := v.1 == 0 || v.1 == 2
/-- the place of a message, from i on -/
def findI (id : Int) : List It → Nat → Option Nat
  | [], _ => none
  | x :: L, i => if x.id = id then some i else findI id L (i + 1)
theorem findI_some {id : Int} : ∀ {L : List It} {i j : Nat}, findI id L i = some j → i ≤ j ∧ ∃ h : j - i < L.length, (L[j - i]'h).id = id
  | [], _, _, h => by cases h
  | x :: L, i, j, h => by
    unfold findI at h
    split at h
    · rename_i e
      cases h
      exact ⟨Nat.le_refl _, by simp, by simpa using e⟩
    · obtain ⟨h1, h2, h3⟩ := findI_some h
      have e : j - i = (j - (i + 1)) + 1 := by omega
      refine ⟨by omega, by rw [e, List.length_cons]; omega, ?_⟩
      simp only [e, List.getElem_cons_succ]
      exact h3
/-- the queue behind a record, and whether the record changed it -/
def applyN (L : List It) (nx : Int) (r : Rec) : List It × Int × Bool :=
  if rightR r = false then (L, nx, false)
  else if r.kind = 1 then (if r.mid < nx ∨ 30 ≤ L.length then (L, nx, false) else (L ++ [⟨r.mid, r.born, r.fr, r.R, r.bo, List.replicate r.R.length (0, 0, ⟨#[]⟩), 0, r.born, false⟩], r.mid + 1, true))
  else if r.kind = 6 then (if r.id < nx then (L, nx, false) else (L, r.id, true))
  else match findI r.id L 0 with
    | none => (L, nx, false)
    | some i =>
      if r.kind = 2 then (if ((L.getD i it0).V.length : Int) ≤ r.rc ∨ pend ((L.getD i it0).V.getD r.rc.toNat (0, 0, ⟨#[]⟩)) = false then (L, nx, false) else (L.set i { L.getD i it0 with V := (L.getD i it0).V.set r.rc.toNat (r.vk, r.vc, r.vt) }, nx, true))
      else if r.kind = 3 then (L.set i { L.getD i it0 with tr := r.tr, du := r.due }, nx, true)
      else if r.kind = 4 then (if (L.getD i it0).bn then (L, nx, false) else (L.set i { L.getD i it0 with bn := true }, nx, true))
      else (if (L.getD i it0).V.any pend then (L, nx, false) else (L.eraseIdx i, nx, true))
theorem applyN_len (L : List It) (nx : Int) (r : Rec) : (applyN L nx r).1.length ≤ L.length + 1 := by
  unfold applyN
  repeat' split
  all_goals first
    | (dsimp only; omega)
    | (dsimp only; rw [List.length_append]; simp)
    | (dsimp only; rw [List.length_set]; omega)
    | (dsimp only; have := List.length_eraseIdx_le L ‹Nat›; omega)
end Go.Proofs.YtlolnfpfipnfeaaGreat
namespace Go.Proofs.YtlolnfpfipnfeaaGreat
theorem getD_hi {L : List It} {i : Nat} (hi : i < L.length) : L.getD i it0 = L[i] := by rw [List.getD_eq_getElem?_getD, List.getElem?_eq_getElem hi]; rfl
theorem getD_V {V : List Vd} {i : Nat} (hi : i < V.length) : V.getD i (0, 0, ⟨#[]⟩) = V[i] := by rw [List.getD_eq_getElem?_getD, List.getElem?_eq_getElem hi]; rfl
theorem ap_bad {L : List It} {nx : Int} {r : Rec} (h : rightR r = false) : applyN L nx r = (L, nx, false) := by unfold applyN; rw [if_pos h]
theorem ap_1no (mid born : Int) (fr : ByteArray) (R : List ByteArray) (bo : ByteArray) (id rc vk vc : Int) (vt : ByteArray) (tr due : Int) (L : List It) (nx : Int) (hr : rightR (⟨1, mid, born, fr, R, bo, id, rc, vk, vc, vt, tr, due⟩ : Rec) = true) (c : mid < nx ∨ 30 ≤ L.length) : applyN L nx (⟨1, mid, born, fr, R, bo, id, rc, vk, vc, vt, tr, due⟩ : Rec) = (L, nx, false) := by
  unfold applyN
  rw [if_neg (by rw [hr]; decide)]
  dsimp only
  rw [if_pos rfl, if_pos c]
theorem ap_1yes (mid born : Int) (fr : ByteArray) (R : List ByteArray) (bo : ByteArray) (id rc vk vc : Int) (vt : ByteArray) (tr due : Int) (L : List It) (nx : Int) (hr : rightR (⟨1, mid, born, fr, R, bo, id, rc, vk, vc, vt, tr, due⟩ : Rec) = true) (c : ¬ (mid < nx ∨ 30 ≤ L.length)) : applyN L nx (⟨1, mid, born, fr, R, bo, id, rc, vk, vc, vt, tr, due⟩ : Rec) = (L ++ [⟨mid, born, fr, R, bo, List.replicate R.length (0, 0, ⟨#[]⟩), 0, born, false⟩], mid + 1, true) := by
  unfold applyN
  rw [if_neg (by rw [hr]; decide)]
  dsimp only
  rw [if_pos rfl, if_neg c]
theorem ap_6no (mid born : Int) (fr : ByteArray) (R : List ByteArray) (bo : ByteArray) (id rc vk vc : Int) (vt : ByteArray) (tr due : Int) (L : List It) (nx : Int) (hr : rightR (⟨6, mid, born, fr, R, bo, id, rc, vk, vc, vt, tr, due⟩ : Rec) = true) (c : id < nx) : applyN L nx (⟨6, mid, born, fr, R, bo, id, rc, vk, vc, vt, tr, due⟩ : Rec) = (L, nx, false) := by
  unfold applyN
  rw [if_neg (by rw [hr]; decide)]
  dsimp only
  rw [if_neg (by decide), if_pos rfl, if_pos c]
theorem ap_6yes (mid born : Int) (fr : ByteArray) (R : List ByteArray) (bo : ByteArray) (id rc vk vc : Int) (vt : ByteArray) (tr due : Int) (L : List It) (nx : Int) (hr : rightR (⟨6, mid, born, fr, R, bo, id, rc, vk, vc, vt, tr, due⟩ : Rec) = true) (c : ¬ id < nx) : applyN L nx (⟨6, mid, born, fr, R, bo, id, rc, vk, vc, vt, tr, due⟩ : Rec) = (L, id, true) := by
  unfold applyN
  rw [if_neg (by rw [hr]; decide)]
  dsimp only
  rw [if_neg (by decide), if_pos rfl, if_neg c]
theorem ap_2no (mid born : Int) (fr : ByteArray) (R : List ByteArray) (bo : ByteArray) (id rc vk vc : Int) (vt : ByteArray) (tr due : Int) (L : List It) (nx : Int) (hr : rightR (⟨2, mid, born, fr, R, bo, id, rc, vk, vc, vt, tr, due⟩ : Rec) = true) (hf : findI id L 0 = none) : applyN L nx (⟨2, mid, born, fr, R, bo, id, rc, vk, vc, vt, tr, due⟩ : Rec) = (L, nx, false) := by
  unfold applyN
  rw [if_neg (by rw [hr]; decide)]
  dsimp only
  rw [if_neg (by decide), if_neg (by decide), hf]
theorem ap_3no (mid born : Int) (fr : ByteArray) (R : List ByteArray) (bo : ByteArray) (id rc vk vc : Int) (vt : ByteArray) (tr due : Int) (L : List It) (nx : Int) (hr : rightR (⟨3, mid, born, fr, R, bo, id, rc, vk, vc, vt, tr, due⟩ : Rec) = true) (hf : findI id L 0 = none) : applyN L nx (⟨3, mid, born, fr, R, bo, id, rc, vk, vc, vt, tr, due⟩ : Rec) = (L, nx, false) := by
  unfold applyN
  rw [if_neg (by rw [hr]; decide)]
  dsimp only
  rw [if_neg (by decide), if_neg (by decide), hf]
theorem ap_4no (mid born : Int) (fr : ByteArray) (R : List ByteArray) (bo : ByteArray) (id rc vk vc : Int) (vt : ByteArray) (tr due : Int) (L : List It) (nx : Int) (hr : rightR (⟨4, mid, born, fr, R, bo, id, rc, vk, vc, vt, tr, due⟩ : Rec) = true) (hf : findI id L 0 = none) : applyN L nx (⟨4, mid, born, fr, R, bo, id, rc, vk, vc, vt, tr, due⟩ : Rec) = (L, nx, false) := by
  unfold applyN
  rw [if_neg (by rw [hr]; decide)]
  dsimp only
  rw [if_neg (by decide), if_neg (by decide), hf]
theorem ap_5no (mid born : Int) (fr : ByteArray) (R : List ByteArray) (bo : ByteArray) (id rc vk vc : Int) (vt : ByteArray) (tr due : Int) (L : List It) (nx : Int) (hr : rightR (⟨5, mid, born, fr, R, bo, id, rc, vk, vc, vt, tr, due⟩ : Rec) = true) (hf : findI id L 0 = none) : applyN L nx (⟨5, mid, born, fr, R, bo, id, rc, vk, vc, vt, tr, due⟩ : Rec) = (L, nx, false) := by
  unfold applyN
  rw [if_neg (by rw [hr]; decide)]
  dsimp only
  rw [if_neg (by decide), if_neg (by decide), hf]
theorem ap_2far (mid born : Int) (fr : ByteArray) (R : List ByteArray) (bo : ByteArray) (id rc vk vc : Int) (vt : ByteArray) (tr due : Int) (L : List It) (nx : Int) (hr : rightR (⟨2, mid, born, fr, R, bo, id, rc, vk, vc, vt, tr, due⟩ : Rec) = true) (i : Nat) (hf : findI id L 0 = some i) (hi : i < L.length) (c : (L[i].V.length : Int) ≤ rc) : applyN L nx (⟨2, mid, born, fr, R, bo, id, rc, vk, vc, vt, tr, due⟩ : Rec) = (L, nx, false) := by
  unfold applyN
  rw [if_neg (by rw [hr]; decide)]
  dsimp only
  rw [if_neg (by decide), if_neg (by decide), hf]
  dsimp only
  rw [if_pos rfl, getD_hi hi, if_pos (.inl c)]
theorem ap_2was (mid born : Int) (fr : ByteArray) (R : List ByteArray) (bo : ByteArray) (id rc vk vc : Int) (vt : ByteArray) (tr due : Int) (L : List It) (nx : Int) (hr : rightR (⟨2, mid, born, fr, R, bo, id, rc, vk, vc, vt, tr, due⟩ : Rec) = true) (i : Nat) (hf : findI id L 0 = some i) (hi : i < L.length) (hrc : rc.toNat < L[i].V.length) (hp : pend (L[i].V[rc.toNat]'hrc) = false) : applyN L nx (⟨2, mid, born, fr, R, bo, id, rc, vk, vc, vt, tr, due⟩ : Rec) = (L, nx, false) := by
  unfold applyN
  rw [if_neg (by rw [hr]; decide)]
  dsimp only
  rw [if_neg (by decide), if_neg (by decide), hf]
  dsimp only
  rw [if_pos rfl, getD_hi hi, getD_V hrc, if_pos (.inr hp)]
theorem ap_2yes (mid born : Int) (fr : ByteArray) (R : List ByteArray) (bo : ByteArray) (id rc vk vc : Int) (vt : ByteArray) (tr due : Int) (L : List It) (nx : Int) (hr : rightR (⟨2, mid, born, fr, R, bo, id, rc, vk, vc, vt, tr, due⟩ : Rec) = true) (i : Nat) (hf : findI id L 0 = some i) (hi : i < L.length) (h0 : 0 ≤ rc) (hrc : rc.toNat < L[i].V.length) (hp : pend (L[i].V[rc.toNat]'hrc) = true) : applyN L nx (⟨2, mid, born, fr, R, bo, id, rc, vk, vc, vt, tr, due⟩ : Rec) = (L.set i { L[i] with V := L[i].V.set rc.toNat (vk, vc, vt) }, nx, true) := by
  unfold applyN
  rw [if_neg (by rw [hr]; decide)]
  dsimp only
  rw [if_neg (by decide), if_neg (by decide), hf]
  dsimp only
  rw [if_pos rfl, getD_hi hi, getD_V hrc, if_neg (fun h => h.elim (fun h => by omega) (fun h => by rw [hp] at h; cases h))]
theorem ap_3yes (mid born : Int) (fr : ByteArray) (R : List ByteArray) (bo : ByteArray) (id rc vk vc : Int) (vt : ByteArray) (tr due : Int) (L : List It) (nx : Int) (hr : rightR (⟨3, mid, born, fr, R, bo, id, rc, vk, vc, vt, tr, due⟩ : Rec) = true) (i : Nat) (hf : findI id L 0 = some i) (hi : i < L.length) : applyN L nx (⟨3, mid, born, fr, R, bo, id, rc, vk, vc, vt, tr, due⟩ : Rec) = (L.set i { L[i] with tr := tr, du := due }, nx, true) := by
  unfold applyN
  rw [if_neg (by rw [hr]; decide)]
  dsimp only
  rw [if_neg (by decide), if_neg (by decide), hf]
  dsimp only
  rw [if_neg (by decide), if_pos rfl, getD_hi hi]
theorem ap_4was (mid born : Int) (fr : ByteArray) (R : List ByteArray) (bo : ByteArray) (id rc vk vc : Int) (vt : ByteArray) (tr due : Int) (L : List It) (nx : Int) (hr : rightR (⟨4, mid, born, fr, R, bo, id, rc, vk, vc, vt, tr, due⟩ : Rec) = true) (i : Nat) (hf : findI id L 0 = some i) (hi : i < L.length) (hb : L[i].bn = true) : applyN L nx (⟨4, mid, born, fr, R, bo, id, rc, vk, vc, vt, tr, due⟩ : Rec) = (L, nx, false) := by
  unfold applyN
  rw [if_neg (by rw [hr]; decide)]
  dsimp only
  rw [if_neg (by decide), if_neg (by decide), hf]
  dsimp only
  rw [if_neg (by decide), if_neg (by decide), if_pos rfl, getD_hi hi, if_pos hb]
theorem ap_4yes (mid born : Int) (fr : ByteArray) (R : List ByteArray) (bo : ByteArray) (id rc vk vc : Int) (vt : ByteArray) (tr due : Int) (L : List It) (nx : Int) (hr : rightR (⟨4, mid, born, fr, R, bo, id, rc, vk, vc, vt, tr, due⟩ : Rec) = true) (i : Nat) (hf : findI id L 0 = some i) (hi : i < L.length) (hb : L[i].bn = false) : applyN L nx (⟨4, mid, born, fr, R, bo, id, rc, vk, vc, vt, tr, due⟩ : Rec) = (L.set i { L[i] with bn := true }, nx, true) := by
  unfold applyN
  rw [if_neg (by rw [hr]; decide)]
  dsimp only
  rw [if_neg (by decide), if_neg (by decide), hf]
  dsimp only
  rw [if_neg (by decide), if_neg (by decide), if_pos rfl, getD_hi hi, if_neg (by rw [hb]; decide)]
theorem ap_5was (mid born : Int) (fr : ByteArray) (R : List ByteArray) (bo : ByteArray) (id rc vk vc : Int) (vt : ByteArray) (tr due : Int) (L : List It) (nx : Int) (hr : rightR (⟨5, mid, born, fr, R, bo, id, rc, vk, vc, vt, tr, due⟩ : Rec) = true) (i : Nat) (hf : findI id L 0 = some i) (hi : i < L.length) (ha : L[i].V.any pend = true) : applyN L nx (⟨5, mid, born, fr, R, bo, id, rc, vk, vc, vt, tr, due⟩ : Rec) = (L, nx, false) := by
  unfold applyN
  rw [if_neg (by rw [hr]; decide)]
  dsimp only
  rw [if_neg (by decide), if_neg (by decide), hf]
  dsimp only
  rw [if_neg (by decide), if_neg (by decide), if_neg (by decide), getD_hi hi, if_pos ha]
theorem ap_5yes (mid born : Int) (fr : ByteArray) (R : List ByteArray) (bo : ByteArray) (id rc vk vc : Int) (vt : ByteArray) (tr due : Int) (L : List It) (nx : Int) (hr : rightR (⟨5, mid, born, fr, R, bo, id, rc, vk, vc, vt, tr, due⟩ : Rec) = true) (i : Nat) (hf : findI id L 0 = some i) (hi : i < L.length) (ha : L[i].V.any pend = false) : applyN L nx (⟨5, mid, born, fr, R, bo, id, rc, vk, vc, vt, tr, due⟩ : Rec) = (L.eraseIdx i, nx, true) := by
  unfold applyN
  rw [if_neg (by rw [hr]; decide)]
  dsimp only
  rw [if_neg (by decide), if_neg (by decide), hf]
  dsimp only
  rw [if_neg (by decide), if_neg (by decide), if_neg (by decide), getD_hi hi, if_neg (by rw [ha]; decide)]
end Go.Proofs.YtlolnfpfipnfeaaGreat
