import Derived.Test.YtlolnfpfipnfeaaGreatMg29
import Derived.Test.YtlolnfpfipnfeaaGreatMg21
import Derived.Deep.DeepCutAuto
import Derived.Deep.CutBlock
import Derived.Deep.RegionHeld3
namespace Go.Proofs.YtlolnfpfipnfeaaGreat
open Go.ChangeShapes Go.WideShapes Go.ChangeAt Go.RowKit

theorem dis_iff {vs : List Value} : Dis vs ↔ vs.Pairwise (fun u v => ∀ a, u.ownBlock = some a → v.ownBlock ≠ some a) := by
  rw [List.pairwise_iff_getElem]
  constructor
  · intro h i j hi hj hij a ha
    exact h i hi j hj (by omega) a ha
  · intro h i hi j hj hne a ha hb
    rcases Nat.lt_or_gt_of_ne hne with hl | hl
    · exact h i j hi hj hl a ha hb
    · exact h j i hj hi hl a hb ha
theorem dis_snoc {vs : List Value} (h : Dis vs) (u : Value) (hu : ∀ a, u.ownBlock = some a → ∀ v ∈ vs, v.ownBlock ≠ some a) : Dis (vs ++ [u]) := by
  rw [dis_iff] at h ⊢
  rw [List.pairwise_append]
  refine ⟨h, by simp, fun a ha b hb x hx hy => ?_⟩
  simp only [List.mem_singleton] at hb
  subst hb
  exact hu x hy a ha hx
theorem dis_erase {vs : List Value} (h : Dis vs) (i : Nat) : Dis (vs.eraseIdx i) := by
  rw [dis_iff] at h ⊢
  exact h.sublist (List.eraseIdx_sublist vs i)
theorem map_erase {α β : Type} (f : α → β) : ∀ (l : List α) (i : Nat), (l.eraseIdx i).map f = (l.map f).eraseIdx i
  | [], _ => rfl
  | _ :: _, 0 => rfl
  | x :: l, i + 1 => by
    show f x :: (l.eraseIdx i).map f = f x :: (l.map f).eraseIdx i
    rw [map_erase f l i]
theorem set_map_self {α β : Type} (f : α → β) (l : List α) (i : Nat) (h : i < l.length) : (l.map f).set i (f l[i]) = l.map f := by rw [← List.map_set, List.set_getElem_self]
theorem irow_snoc : ∀ (L : List It) (P : List (Value × Value)) (x : It) (p : Value × Value), P.length = L.length → irow (L ++ [x]) (P ++ [p]) = irow L P ++ [ic x p]
  | [], [], _, _, _ => rfl
  | y :: L, q :: P, x, p, h => by
    have := irow_snoc L P x p (by simpa using h)
    show ic y q :: irow (L ++ [x]) (P ++ [p]) = ic y q :: (irow L P ++ [ic x p])
    rw [this]
theorem irow_erase : ∀ (L : List It) (P : List (Value × Value)) (i : Nat), P.length = L.length → irow (L.eraseIdx i) (P.eraseIdx i) = (irow L P).eraseIdx i
  | [], [], _, _ => rfl
  | y :: L, q :: P, 0, _ => rfl
  | y :: L, q :: P, i + 1, h => by
    have := irow_erase L P i (by simpa using h)
    show ic y q :: irow (L.eraseIdx i) (P.eraseIdx i) = ic y q :: (irow L P).eraseIdx i
    rw [this]
theorem irow_take : ∀ (L : List It) (P : List (Value × Value)) (i : Nat), irow (L.take i) (P.take i) = (irow L P).take i
  | [], _, i => by simp [irow]
  | _ :: _, [], i => by simp [irow]
  | y :: L, q :: P, 0 => rfl
  | y :: L, q :: P, i + 1 => by
    have := irow_take L P i
    show ic y q :: irow (L.take i) (P.take i) = ic y q :: (irow L P).take i
    rw [this]
theorem ItsP.snoc {w w' : World} {lo : Nat} {v v' : Value} {L : List It} {P : List (Value × Value)} (h : ItsP w lo v L P) (ho : OffL [v] w w') (x : It) (p : Value × Value)
    (hr : w'.ownsRow lo 57 9 v' ((irow L P).length + 1) ((irow L P).flatten ++ ic x p)) (hs : Strs w' lo p.1 x.R) (hv : Vds w' lo p.2 x.V)
    (f1 : ∀ a, p.1.ownBlock = some a → ∀ q ∈ P, q.1.ownBlock ≠ some a) (f2 : ∀ a, p.2.ownBlock = some a → ∀ q ∈ P, q.2.ownBlock ≠ some a) : ItsP w' lo v' (L ++ [x]) (P ++ [p]) := by
  have hl := h.len
  refine ⟨by simp [hl], ?_, fun i hi => ?_, fun i hi => ?_, ?_, ?_⟩
  · rw [irow_snoc L P x p hl]
    exact Rw.snoc (irow_nine L P) rfl hr
  · by_cases hi2 : i < L.length
    · have hs := h.str i hi2
      have e1 : (P ++ [p])[i]'(by simp; omega) = P[i]'(by omega) := List.getElem_append_left _
      have e2 : (L ++ [x])[i] = L[i] := List.getElem_append_left _
      rw [e1, e2]
      refine ho.row hs fun a ha u hu => ?_
      simp only [List.mem_singleton] at hu
      subst hu
      intro e
      exact row_apart h.row.1 hs TsI a a e ha rfl
    · have hi3 : i = L.length := by simp at hi; omega
      subst hi3
      have e1 : (P ++ [p])[L.length]'(by simp; omega) = p := by rw [List.getElem_append_right (by omega)]; simp [hl]
      have e2 : (L ++ [x])[L.length] = x := by simp
      rw [e1, e2]; exact hs
  · by_cases hi2 : i < L.length
    · have hs := h.vds i hi2
      have e1 : (P ++ [p])[i]'(by simp; omega) = P[i]'(by omega) := List.getElem_append_left _
      have e2 : (L ++ [x])[i] = L[i] := List.getElem_append_left _
      rw [e1, e2]
      refine ho.row hs fun a ha u hu => ?_
      simp only [List.mem_singleton] at hu
      subst hu
      intro e
      exact row_apart h.row.1 hs TvI a a e ha rfl
    · have hi3 : i = L.length := by simp at hi; omega
      subst hi3
      have e1 : (P ++ [p])[L.length]'(by simp; omega) = p := by rw [List.getElem_append_right (by omega)]; simp [hl]
      have e2 : (L ++ [x])[L.length] = x := by simp
      rw [e1, e2]; exact hv
  · rw [List.map_append]
    exact dis_snoc h.d1 _ fun a ha v hv => by
      obtain ⟨q, hq, rfl⟩ := List.mem_map.1 hv
      exact f1 a ha q hq
  · rw [List.map_append]
    exact dis_snoc h.d2 _ fun a ha v hv => by
      obtain ⟨q, hq, rfl⟩ := List.mem_map.1 hv
      exact f2 a ha q hq
/-- an item is gone; the lists of the others lie as they lay -/
theorem ItsP.erase {w w' : World} {lo lo' : Nat} {v v' : Value} {L : List It} {P : List (Value × Value)} (h : ItsP w lo v L P) (i : Nat) (hi : i < L.length) (hlo : lo' ≤ lo) (ho : OffL [v] w w')
    (hr : Rw 57 9 w' lo' v' ((irow L P).eraseIdx i)) : ItsP w' lo' v' (L.eraseIdx i) (P.eraseIdx i) := by
  have hl := h.len
  have hlen : (P.eraseIdx i).length = (L.eraseIdx i).length := by rw [List.length_eraseIdx, List.length_eraseIdx, hl]
  refine ⟨hlen, by rw [irow_erase L P i hl]; exact hr, fun j hj => ?_, fun j hj => ?_, ?_, ?_⟩
  · have hj2 : j < L.length - 1 := by rw [List.length_eraseIdx_of_lt hi] at hj; exact hj
    have key : ∀ k (hk : k < L.length), Strs w' lo' (P[k]'(by omega)).1 L[k].R := fun k hk => by
      refine row_le (ho.row (h.str k hk) fun a ha u hu => ?_) hlo
      simp only [List.mem_singleton] at hu
      subst hu
      intro e
      exact row_apart h.row.1 (h.str k hk) TsI a a e ha rfl
    simp only [List.getElem_eraseIdx]
    by_cases hji : j < i
    · simp only [hji, dif_pos]; exact key j (by omega)
    · simp only [hji, dif_neg, not_false_iff]; exact key (j + 1) (by omega)
  · have hj2 : j < L.length - 1 := by rw [List.length_eraseIdx_of_lt hi] at hj; exact hj
    have key : ∀ k (hk : k < L.length), Vds w' lo' (P[k]'(by omega)).2 L[k].V := fun k hk => by
      refine row_le (ho.row (h.vds k hk) fun a ha u hu => ?_) hlo
      simp only [List.mem_singleton] at hu
      subst hu
      intro e
      exact row_apart h.row.1 (h.vds k hk) TvI a a e ha rfl
    simp only [List.getElem_eraseIdx]
    by_cases hji : j < i
    · simp only [hji, dif_pos]; exact key j (by omega)
    · simp only [hji, dif_neg, not_false_iff]; exact key (j + 1) (by omega)
  · rw [map_erase]; exact dis_erase h.d1 i
  · rw [map_erase]; exact dis_erase h.d2 i
/-- a cell is written as it was -/
theorem ItsP.same {w : World} {lo g m cap j i : Nat} {L : List It} {P : List (Value × Value)} (h : ItsP w lo (.slice (some ⟨g, 0, none⟩) m cap) L P) (hj : j < L.length) (hi : i < 9) (u : Value)
    (hx : (ic L[j] (P[j]'(by have := h.len; omega)))[i]? = some u) : ItsP (w.setCell ⟨g, j * 9 + i, none⟩ u) lo (.slice (some ⟨g, 0, none⟩) m cap) L P := by
  have e : (ic L[j] (P[j]'(by have := h.len; omega))).set i u = ic L[j] (P[j]'(by have := h.len; omega)) := by
    obtain ⟨hlt, hx2⟩ := List.getElem?_eq_some_iff.1 hx
    subst hx2
    exact List.set_getElem_self hlt
  have := h.scal hj hi L[j] u e.symm rfl rfl
  rwa [List.set_getElem_self] at this
/-- an item's first list is another -/
theorem ItsP.ptr1 {w : World} {lo g m cap j : Nat} {L : List It} {P : List (Value × Value)} (h : ItsP w lo (.slice (some ⟨g, 0, none⟩) m cap) L P) (hj : j < L.length) (u : Value) (hs : Strs w lo u L[j].R)
    (f1 : ∀ a, u.ownBlock = some a → ∀ k (hk : k < P.length), k ≠ j → P[k].1.ownBlock ≠ some a) : ItsP (w.setCell ⟨g, j * 9 + 3, none⟩ u) lo (.slice (some ⟨g, 0, none⟩) m cap) L (P.set j (u, (P[j]'(by have := h.len; omega)).2)) := by
  have hl := h.len
  have hkeep := h.cellN (o := j * 9 + 3) u
  refine ⟨by simpa using hl, ?_, fun k hk => ?_, fun k hk => ?_, ?_, ?_⟩
  · have hjr : j < (irow L P).length := by rw [irow_len hl]; exact hj
    have h1 := h.row.set (i := j) (j := 3) hjr (by decide) u
    have e2 := irow_set L P j L[j] (u, (P[j]'(by omega)).2) hl
    rw [List.set_getElem_self] at e2
    rw [irow_get hl j hj] at h1
    rw [← e2]
    exact h1
  · by_cases e : k = j
    · subst e
      simp only [List.getElem_set_self]
      refine row_set_neR hs (fun a ha => ?_) u
      exact fun e => row_apart hs h.row.1 (Ne.symm TsI) a g ha rfl e
    · simp only [List.getElem_set_ne (Ne.symm e)]
      exact hkeep.1 k hk
  · by_cases e : k = j
    · subst e
      simp only [List.getElem_set_self]
      exact hkeep.2 k hk
    · simp only [List.getElem_set_ne (Ne.symm e)]
      exact hkeep.2 k hk
  · rw [List.map_set]
    refine dis_set h.d1 j _ fun a ha k hk hne => ?_
    simp only [List.getElem_map]
    exact f1 a ha k (by simpa using hk) hne
  · rw [List.map_set]
    have e := set_map_self (·.2) P j (by omega)
    dsimp only at e ⊢
    rw [e]; exact h.d2
theorem ItsP.ptr2 {w : World} {lo g m cap j : Nat} {L : List It} {P : List (Value × Value)} (h : ItsP w lo (.slice (some ⟨g, 0, none⟩) m cap) L P) (hj : j < L.length) (u : Value) (hs : Vds w lo u L[j].V)
    (f1 : ∀ a, u.ownBlock = some a → ∀ k (hk : k < P.length), k ≠ j → P[k].2.ownBlock ≠ some a) : ItsP (w.setCell ⟨g, j * 9 + 5, none⟩ u) lo (.slice (some ⟨g, 0, none⟩) m cap) L (P.set j ((P[j]'(by have := h.len; omega)).1, u)) := by
  have hl := h.len
  have hkeep := h.cellN (o := j * 9 + 5) u
  refine ⟨by simpa using hl, ?_, fun k hk => ?_, fun k hk => ?_, ?_, ?_⟩
  · have hjr : j < (irow L P).length := by rw [irow_len hl]; exact hj
    have h1 := h.row.set (i := j) (j := 5) hjr (by decide) u
    have e2 := irow_set L P j L[j] ((P[j]'(by omega)).1, u) hl
    rw [List.set_getElem_self] at e2
    rw [irow_get hl j hj] at h1
    rw [← e2]
    exact h1
  · by_cases e : k = j
    · subst e
      simp only [List.getElem_set_self]
      exact hkeep.1 k hk
    · simp only [List.getElem_set_ne (Ne.symm e)]
      exact hkeep.1 k hk
  · by_cases e : k = j
    · subst e
      simp only [List.getElem_set_self]
      refine row_set_neR hs (fun a ha => ?_) u
      exact fun e => row_apart hs h.row.1 (Ne.symm TvI) a g ha rfl e
    · simp only [List.getElem_set_ne (Ne.symm e)]
      exact hkeep.2 k hk
  · rw [List.map_set]
    have e := set_map_self (·.1) P j (by omega)
    dsimp only at e ⊢
    rw [e]; exact h.d1
  · rw [List.map_set]
    refine dis_set h.d2 j _ fun a ha k hk hne => ?_
    simp only [List.getElem_map]
    exact f1 a ha k (by simpa using hk) hne
theorem row_raise {w : World} {lo lo' T k n : Nat} {v : Value} {xs : List Value} (h : w.ownsRow lo T k v n xs) (hv : ∀ g, v.ownBlock = some g → lo' ≤ g) : w.ownsRow lo' T k v n xs := by
  refine ⟨h.1, ?_⟩
  rcases h.2 with h0 | ⟨g, cap, cur, e, hl, rest⟩
  · exact .inl h0
  · exact .inr ⟨g, cap, cur, e, hv g (by rw [e]; rfl), rest⟩
/-- all blocks lie from lo' on -/
theorem ItsP.raise {w : World} {lo lo' : Nat} {v : Value} {L : List It} {P : List (Value × Value)} (h : ItsP w lo v L P) (hv : ∀ g, v.ownBlock = some g → lo' ≤ g) (hP : ∀ p ∈ P, (∀ a, p.1.ownBlock = some a → lo' ≤ a) ∧ ∀ a, p.2.ownBlock = some a → lo' ≤ a) : ItsP w lo' v L P :=
  ⟨h.len, ⟨row_raise h.row.1 hv, h.row.2⟩, fun i hi => row_raise (h.str i hi) (hP _ (List.getElem_mem _)).1, fun i hi => row_raise (h.vds i hi) (hP _ (List.getElem_mem _)).2, h.d1, h.d2⟩
end Go.Proofs.YtlolnfpfipnfeaaGreat
namespace Go.Proofs.YtlolnfpfipnfeaaGreat
open Go.ChangeShapes Go.WideShapes Go.ChangeAt Go.RowKit
attribute [local go_sem ↓] Go.wp_at_zero Go.wp_at_succ

theorem blk3I (w : World) (X Y Z : Array Value) (S T U : TypeId) : Blk w.heap.size X (((w.alloc (.cells X S)).alloc (.cells Y T)).alloc (.cells Z U)) ∧ Blk (w.heap.size + 1) Y (((w.alloc (.cells X S)).alloc (.cells Y T)).alloc (.cells Z U)) ∧ Blk (w.heap.size + 1 + 1) Z (((w.alloc (.cells X S)).alloc (.cells Y T)).alloc (.cells Z U)) := by
  refine ⟨((Blk.new w _ _).below (below1 _ _)).below (below1 _ _), ?_, ?_⟩
  · have := (Blk.new (w.alloc (.cells X S)) Y T).below (below1 _ (.cells Z U))
    simpa using this
  · have := Blk.new ((w.alloc (.cells X S)).alloc (.cells Y T)) Z U
    simpa using this
set_option maxHeartbeats 4000000 in
set_option maxRecDepth 100000 in
theorem specItem (x : It) (rv vv : Value) (lo1 lo2 : Nat) (w : World) (h1 : Strs w lo1 rv x.R) (h2 : Vds w lo2 vv x.V) (m1 : x.R.length ≤ 1048576) (m2 : x.V.length ≤ 1048576) :
    Calls Tryz.prog 20 #[.agg #[.int .i64 x.id, .int .i64 x.born, .string x.fr, rv, .string x.bo, vv, .int .i64 x.tr, .int .i64 x.du, .bool x.bn]] w fun e w' => (∃ u1 u2, e = .returned (.agg #[.int .i64 x.id, .int .i64 x.born, .string x.fr, u1, .string x.bo, u2, .int .i64 x.tr, .int .i64 x.du, .bool x.bn]) ∧ Strs w' w.heap.size u1 x.R ∧ Vds w' w.heap.size u2 x.V) ∧ Below w.heap.size w w' := by
  obtain ⟨a3, c3, rfl⟩ := row_formA h1
  obtain ⟨a5, c5, rfl⟩ := row_formA h2
  have H1 : Hid (w.ownsRow lo1 9 1 (.slice a3 x.R.length c3) x.R.length (x.R.map Value.string)) := h1
  have H2 : Hid (w.ownsRow lo2 41 3 (.slice a5 x.V.length c5) x.V.length (vrow x.V)) := h2
  clear h1 h2
  obtain ⟨i0, hinf, hx0, hx1, hx2⟩ := info_parts infoStr
  obtain ⟨l0, hlnf, hz0, hz1, hz2⟩ := info_parts infoVd
  go_enter Tryz.func20, Tryz.ntmps20
  go_upto_region 3 with fail
  generalize hW : World.alloc _ _ = W0
  have HA0 : Hid (Blk w.heap.size #[.int .i64 x.id, .int .i64 x.born, .string x.fr, .slice a3 x.R.length c3, .string x.bo, .slice a5 x.V.length c5, .int .i64 x.tr, .int .i64 x.du, .bool x.bn] W0) := by show Blk _ _ _; rw [← hW]; exact (blk3I w _ _ _ _ _ _).1
  have HZ0 : Hid (Blk (w.heap.size + 1) #[.int .i64 0, .int .i64 0, .string ⟨#[]⟩, .slice none 0 0, .string ⟨#[]⟩, .slice none 0 0, .int .i64 0, .int .i64 0, .bool false] W0) := by show Blk _ _ _; rw [← hW]; exact (blk3I w _ _ _ _ _ _).2.1
  have HO0 : Hid (Blk (w.heap.size + 1 + 1) #[.int .i64 x.id, .int .i64 x.born, .string x.fr, .slice none 0 0, .string x.bo, .slice a5 x.V.length c5, .int .i64 x.tr, .int .i64 x.du, .bool x.bn] W0) := by show Blk _ _ _; rw [← hW]; exact (blk3I w _ _ _ _ _ _).2.2
  have b0 : Below w.heap.size w W0 := by rw [← hW]; exact below3 _ _ _ _
  have z0 : w.heap.size + 3 ≤ W0.heap.size := by rw [← hW]; simp
  clear hW
  have N0 : Hid (W0.ownsRow lo1 9 1 (.slice a3 x.R.length c3) x.R.length (x.R.map Value.string)) := row_below H1.out b0
  have x3 : W0.cell? ⟨w.heap.size, 3, none⟩ = some (.slice a3 x.R.length c3) := HA0.out.cell 3
  have o3 : W0.cell? ⟨w.heap.size + 1 + 1, 3, none⟩ = some (.slice none 0 0) := HO0.out.cell 3
  go_wp2_with (at_builtin; refine wpList_append_row rfl _ _ 25 rfl W0.heap.size 9 i0 (.string ⟨#[]⟩) 1 16 Tryz.underlying25 hinf hx0 hx1 hx2 rfl (by decide) (.slice none 0 0) 0 [] rfl ⟨by rfl, .inl ⟨rfl, rfl⟩⟩ lo1 _ x.R.length (x.R.map Value.string) rfl N0.out (str_one _) ?f4 ?f5 (Nat.le_refl _) ?_)
  case f4 => unfold maxLen; omega
  case f5 => omega
  intro v1 w1 hown hgrow
  have R0 : Hid (w1.ownsRow W0.heap.size 9 1 v1 x.R.length (x.R.map Value.string)) := by show World.ownsRow _ _ _ _ _ _ _; simpa using hown
  have hb : Below W0.heap.size W0 w1 := (Below.refl W0.heap.size W0).grown hgrow (Nat.le_refl _) (by intro k hk; cases hk)
  have zz0 := hb.size
  obtain ⟨p1, q1, hv⟩ := row_formA R0.out
  subst hv
  have HA1 : Hid _ := HA0.out.below hb
  have HZ1 : Hid _ := HZ0.out.below hb
  have HO1 : Hid _ := HO0.out.below hb
  have b1 : Below w.heap.size w w1 := b0.trans (hb.mono (by omega))
  clear hown hgrow hb N0 HA0 HZ0 HO0 x3 o3 b0
  have o3 : w1.cell? ⟨w.heap.size + 1 + 1, 3, none⟩ = some (.slice none 0 0) := HO1.out.cell 3
  have f3 := HO1.out.free 3
  have o5 : w1.cell? ⟨w.heap.size + 1 + 1, 5, none⟩ = some (.slice a5 x.V.length c5) := HO1.out.cell 5
  have f5 := HO1.out.free 5
  go_upto_region 5 with fail
  generalize hW : World.setCell (World.setCell w1 _ _) _ _ = W1
  have HA2 : Hid (Blk w.heap.size #[.int .i64 x.id, .int .i64 x.born, .string x.fr, .slice a3 x.R.length c3, .string x.bo, .slice a5 x.V.length c5, .int .i64 x.tr, .int .i64 x.du, .bool x.bn] W1) := by show Blk _ _ _; rw [← hW]; exact (HA1.out.other (by omega)).other (by omega)
  have HZ2 : Hid (Blk (w.heap.size + 1) #[.int .i64 0, .int .i64 0, .string ⟨#[]⟩, .slice none 0 0, .string ⟨#[]⟩, .slice none 0 0, .int .i64 0, .int .i64 0, .bool false] W1) := by show Blk _ _ _; rw [← hW]; exact (HZ1.out.other (by omega)).other (by omega)
  have HO2 : Hid (Blk (w.heap.size + 1 + 1) #[.int .i64 x.id, .int .i64 x.born, .string x.fr, .slice p1 x.R.length q1, .string x.bo, .slice none 0 0, .int .i64 x.tr, .int .i64 x.du, .bool x.bn] W1) := by show Blk _ _ _; rw [← hW]; exact (HO1.out.set (i := 3) (by simp)).set (i := 5) (by simp)
  have b2 : Below w.heap.size w W1 := by rw [← hW]; exact (b1.setCell (by dsimp only; omega) _).setCell (by dsimp only; omega) _
  have z1 : w1.heap.size = W1.heap.size := by rw [← hW]; simp
  have R1 : Hid (W1.ownsRow W0.heap.size 9 1 (.slice p1 x.R.length q1) x.R.length (x.R.map Value.string)) := by show World.ownsRow _ _ _ _ _ _ _; rw [← hW]; exact row_setA (row_setA R0.out (by dsimp only; omega) _) (by dsimp only; omega) _
  clear hW HA1 HZ1 HO1 b1 R0 o3 f3 o5 f5
  have N1 : Hid (W1.ownsRow lo2 41 3 (.slice a5 x.V.length c5) x.V.length (vrow x.V)) := row_below H2.out b2
  have x5 : W1.cell? ⟨w.heap.size, 5, none⟩ = some (.slice a5 x.V.length c5) := HA2.out.cell 5
  have o5 : W1.cell? ⟨w.heap.size + 1 + 1, 5, none⟩ = some (.slice none 0 0) := HO2.out.cell 5
  go_wp2_with (at_builtin; refine wpList_append_row rfl _ _ 55 rfl W1.heap.size 41 l0 (.agg #[.int .i64 0, .int .i64 0, .string ⟨#[]⟩]) 3 32 Tryz.underlying55 hlnf hz0 hz1 hz2 rfl (by decide) (.slice none 0 0) 0 [] rfl ⟨by rfl, .inl ⟨rfl, rfl⟩⟩ lo2 _ x.V.length (vrow x.V) rfl N1.out (vrow_oneA _) ?f4 ?f5 (Nat.le_refl _) ?_)
  case f4 => unfold maxLen; omega
  case f5 => omega
  intro v2 w2 hown hgrow
  have R2 : Hid (w2.ownsRow W1.heap.size 41 3 v2 x.V.length (vrow x.V)) := by show World.ownsRow _ _ _ _ _ _ _; simpa using hown
  have hb : Below W1.heap.size W1 w2 := (Below.refl W1.heap.size W1).grown hgrow (Nat.le_refl _) (by intro k hk; cases hk)
  have zz1 := hb.size
  obtain ⟨p2, q2, hv⟩ := row_formA R2.out
  subst hv
  have HZ3 : Hid _ := HZ2.out.below hb
  have HO3 : Hid _ := HO2.out.below hb
  have b3 : Below w.heap.size w w2 := b2.trans (hb.mono (by omega))
  have R3 : Hid (w2.ownsRow W0.heap.size 9 1 (.slice p1 x.R.length q1) x.R.length (x.R.map Value.string)) := row_below R1.out hb
  clear hown hgrow hb N1 HA2 HZ2 HO2 x5 o5 b2 R1
  have o0 : w2.cell? ⟨w.heap.size + 1 + 1, 0, none⟩ = some (.int .i64 x.id) := HO3.out.cell 0
  have o1 : w2.cell? ⟨w.heap.size + 1 + 1, 1, none⟩ = some (.int .i64 x.born) := HO3.out.cell 1
  have o2 : w2.cell? ⟨w.heap.size + 1 + 1, 2, none⟩ = some (.string x.fr) := HO3.out.cell 2
  have o3 : w2.cell? ⟨w.heap.size + 1 + 1, 3, none⟩ = some (.slice p1 x.R.length q1) := HO3.out.cell 3
  have o4 : w2.cell? ⟨w.heap.size + 1 + 1, 4, none⟩ = some (.string x.bo) := HO3.out.cell 4
  have o5 : w2.cell? ⟨w.heap.size + 1 + 1, 5, none⟩ = some (.slice none 0 0) := HO3.out.cell 5
  have o6 : w2.cell? ⟨w.heap.size + 1 + 1, 6, none⟩ = some (.int .i64 x.tr) := HO3.out.cell 6
  have o7 : w2.cell? ⟨w.heap.size + 1 + 1, 7, none⟩ = some (.int .i64 x.du) := HO3.out.cell 7
  have o8 : w2.cell? ⟨w.heap.size + 1 + 1, 8, none⟩ = some (.bool x.bn) := HO3.out.cell 8
  have r0 : w2.cell? ⟨w.heap.size + 1, 0, none⟩ = some (.int .i64 0) := HZ3.out.cell 0
  have g0 := HZ3.out.free 0
  have r1 : w2.cell? ⟨w.heap.size + 1, 1, none⟩ = some (.int .i64 0) := HZ3.out.cell 1
  have g1 := HZ3.out.free 1
  have r2 : w2.cell? ⟨w.heap.size + 1, 2, none⟩ = some (.string ⟨#[]⟩) := HZ3.out.cell 2
  have g2 := HZ3.out.free 2
  have r3 : w2.cell? ⟨w.heap.size + 1, 3, none⟩ = some (.slice none 0 0) := HZ3.out.cell 3
  have g3 := HZ3.out.free 3
  have r4 : w2.cell? ⟨w.heap.size + 1, 4, none⟩ = some (.string ⟨#[]⟩) := HZ3.out.cell 4
  have g4 := HZ3.out.free 4
  have r5 : w2.cell? ⟨w.heap.size + 1, 5, none⟩ = some (.slice none 0 0) := HZ3.out.cell 5
  have g5 := HZ3.out.free 5
  have r6 : w2.cell? ⟨w.heap.size + 1, 6, none⟩ = some (.int .i64 0) := HZ3.out.cell 6
  have g6 := HZ3.out.free 6
  have r7 : w2.cell? ⟨w.heap.size + 1, 7, none⟩ = some (.int .i64 0) := HZ3.out.cell 7
  have g7 := HZ3.out.free 7
  have r8 : w2.cell? ⟨w.heap.size + 1, 8, none⟩ = some (.bool false) := HZ3.out.cell 8
  have g8 := HZ3.out.free 8
  have f5 := HO3.out.free 5
  clear HZ3 HO3
  go_wp2
  refine bodyPost_ret (v := .agg #[.int .i64 x.id, .int .i64 x.born, .string x.fr, .slice p1 x.R.length q1, .string x.bo, .slice p2 x.V.length q2, .int .i64 x.tr, .int .i64 x.du, .bool x.bn]) (by simp [results, Tryz.results20, go_sem, r0, r1, r2, r3, r4, r5, r6, r7, r8]) rfl ?_
  refine ⟨⟨_, _, rfl, ?_, ?_⟩, ?_⟩
  · refine row_le (lo := W0.heap.size) ?_ (by omega)
    repeat (refine row_setA ?_ (by dsimp only; omega) _)
    exact R3.out
  · refine row_le (lo := W1.heap.size) ?_ (by omega)
    repeat (refine row_setA ?_ (by dsimp only; omega) _)
    exact R2.out
  · repeat (refine Below.setCell ?_ (by dsimp only; omega) _)
    exact b3

set_option maxHeartbeats 1000000 in
set_option maxRecDepth 100000 in
theorem specPend (v : Vd) (w : World) : Calls Tryz.prog 22 #[.agg #[.int .i64 v.1, .int .i64 v.2.1, .string v.2.2]] w fun e w' => e = .returned (.bool (v.1 == 0 || v.1 == 2)) ∧ Below w.heap.size w w' := by
  by_cases c0 : v.1 = 0
  · rw [show (v.1 == 0 || v.1 == 2) = true by simp [c0]]
    go_enter Tryz.func22, Tryz.ntmps22
    go_wp2
    go_ret
    exact ⟨rfl, below1 _ _⟩
  · go_enter Tryz.func22, Tryz.ntmps22
    go_wp2
    go_ret
    exact ⟨rfl, below1 _ _⟩
end Go.Proofs.YtlolnfpfipnfeaaGreat
