import Derived.Test.YtnbbhegcijogiaaDoorRks
import Derived.Test.YtnbbhegcijogiaaDoorSortShelf
namespace Go.Proofs.YtnbbhegcijogiaaDoor
open Go.ChangeShapes Go.WideShapes Go.ChangeAt Go.RowKit

theorem grow_below {w : World} {os : Array Obj} : Below w.heap.size w (Sort.grow w os) :=
  ⟨rfl, rfl, rfl, by unfold Sort.grow; simp, fun k hk => by unfold Sort.grow; rw [Array.getElem?_append_left hk]⟩
theorem rk_flat (L : List Rk) (t : Nat) (h : t < L.length * 3) : (rkRow L)[t]? = some ((rkEnc (L.toArray[t / 3]!))[t % 3]!) := by
  obtain ⟨i, c, rfl, hc⟩ : ∃ i c, t = i * 3 + c ∧ c < 3 := ⟨t / 3, t % 3, by omega, by omega⟩
  have hi : i < L.length := by omega
  obtain ⟨e0, e1, e2⟩ := rkRow_get L i hi
  have ea : L.toArray[i]! = L[i] := by rw [getElem!_pos L.toArray i (by simpa using hi)]; simp
  rw [show (i * 3 + c) / 3 = i by omega, show (i * 3 + c) % 3 = c by omega, ea]
  match c, hc with
  | 0, _ => exact e0
  | 1, _ => exact e1
  | 2, _ => exact e2
theorem rks_holds {w : World} {lo g cap : Nat} {L : List Rk} (h : RksAt w lo g cap L) : Sort.HoldsK rkEnc 3 w g 0 L.toArray := by
  obtain ⟨cur, hg, hs, ht⟩ := h.ex
  intro j hj
  have hj' : j < L.length * 3 := by simpa using hj
  refine ⟨?_, by simp [World.frozen?, hg]⟩
  have e := rk_flat L j hj'
  rw [← ht, List.getElem?_take_of_lt hj'] at e
  have e2 : cur[j]? = some ((rkEnc (L.toArray[j / 3]!))[j % 3]!) := by simpa using e
  rw [Sort.get_flatK rkEnc 3 L.toArray j (by simpa using hj'), Nat.zero_add]
  unfold World.cell?
  rw [hg]; exact e2
theorem cmpLaysR (blk off size : Nat) (w : World) : CmpLays Tryd.prog 26 #[] rkEnc 3 cmpR blk off size w := fun _ _ _ _ x y => compareHosts x y _

set_option maxHeartbeats 1000000 in
set_option maxRecDepth 100000 in
theorem sortHosts (v : Value) (L : List Rk) (lo : Nat) (w : World) (h : Rks w lo v L) (hL : L ≠ []) (h32 : L.length ≤ 32) :
    Calls Tryd.prog 39 #[v, .func (.func 26) #[] #[]] w fun e w' => e = .returned (.tuple #[]) ∧ (∃ g cap, v = .slice (some ⟨g, 0, none⟩) L.length cap ∧ lo ≤ g ∧ g < w.heap.size ∧ ∀ i (hi : i < (sortR L).length), w'.cell? ⟨g, i * 3, none⟩ = some (.int .i64 (sortR L)[i].1) ∧ w'.cell? ⟨g, i * 3 + 1, none⟩ = some (.int .u32 (sortR L)[i].2.1) ∧ w'.cell? ⟨g, i * 3 + 2, none⟩ = some (.string (sortR L)[i].2.2)) ∧ Below lo w w' := by
  rcases h.cases with ⟨_, h0⟩ | ⟨g, cap, rfl, hs⟩
  · exact absurd h0 hL
  have hh := rks_holds hs
  have eg : ∀ args w, (callFunc 26 args).run Tryd.prog w = .ok (.enter 26 args) w := enters_of Tryd.func26 (by kernel_rfl) rfl
  have hcon := AnyQ.slices_SortFunc_total Tryd.laysSort 3 Tryd.isAgg70 Tryd.sizeOf70 rkEnc (fun _ => rfl) (fun x v hv => by simp [rkEnc] at hv; rcases hv with rfl | rfl | rfl <;> rfl) cmpR ahd_swo 26 #[] g 0 cap L.toArray w eg (cmpLaysR g 0 _ w) hh hs.lt (by simp; omega) ahd_one
  rw [show L.toArray.size = L.length by simp] at hcon
  refine hcon.mono ?_
  rintro e w' ⟨rfl, n, os, rfl⟩
  have hd : (L.toArray.toList.mergeSort fun x y => !ltOf cmpR y x) = sortR L := rfl
  rw [hd]
  have hlen := sortR_len L
  have h2 : Sort.HoldsK rkEnc 3 (sortWorldK rkEnc 3 w g 0 n (sortR L).toArray os) g 0 (sortR L).toArray := by
    unfold sortWorldK
    exact Sort.holdsK_grow rkEnc 3 _ _ _ _ _ (by unfold Sort.putRowK; rw [Sort.size_putRow]; exact hs.lt) (Sort.holdsK_putRowK rkEnc 3 _ _ _ L.toArray _ (Sort.holdsK_ahead rkEnc 3 _ _ _ _ _ hh) (by simp [hlen]))
  refine ⟨rfl, ⟨g, cap, rfl, hs.lo, hs.lt, fun i hi => ?_⟩, ?_⟩
  · have hi2 : i < (sortR L).toArray.size := by simpa using hi
    have c0 := (h2.cell hi2 (c := 0) (by decide)).1
    have c1 := (h2.cell hi2 (c := 1) (by decide)).1
    have c2 := (h2.cell hi2 (c := 2) (by decide)).1
    have ea : (sortR L).toArray[i]! = (sortR L)[i] := by rw [getElem!_pos (sortR L).toArray i hi2]; simp
    rw [ea] at c0 c1 c2
    simp only [Nat.zero_add, Nat.add_zero] at c0 c1 c2
    exact ⟨c0, c1, c2⟩
  · unfold sortWorldK
    have hb : Below lo w (Sort.putRowK rkEnc 3 (Sort.ahead w n) g 0 (sortR L).toArray) := by
      refine ⟨rfl, rfl, rfl, by unfold Sort.putRowK; rw [Sort.size_putRow]; exact Nat.le_refl _, fun k hk => ?_⟩
      have hne : g ≠ k := by have := hs.lo; omega
      unfold Sort.putRowK Sort.putRow Sort.mapBlock
      show (w.heap.modify g _)[k]? = _
      rw [Array.getElem?_modify, if_neg hne]
    exact hb.trans (grow_below.mono (by unfold Sort.putRowK; rw [Sort.size_putRow]; have := hs.lo; have := hs.lt; show lo ≤ w.heap.size; omega))
end Go.Proofs.YtnbbhegcijogiaaDoor
