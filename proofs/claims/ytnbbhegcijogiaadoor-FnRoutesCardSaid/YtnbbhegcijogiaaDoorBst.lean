import Derived.Test.YtnbbhegcijogiaaDoorSrt
import Derived.Test.YtnbbhegcijogiaaDoorShelf
import Derived.Shelf.Slices.Turned
namespace Go.Proofs.YtnbbhegcijogiaaDoor
open Go.ChangeShapes Go.WideShapes Go.ChangeAt Go.RowKit
attribute [local go_sem ↓] Go.wp_at_zero Go.wp_at_succ

theorem add_len : ∀ (T : List Rk) (H : List ByteArray), (T.foldl addH H).length ≤ H.length + T.length
  | [], H => by simp
  | r :: T, H => by
    rw [List.foldl_cons]
    have h1 := add_len T (addH H r)
    have h2 : (addH H r).length ≤ H.length + 1 := by unfold addH; split <;> simp
    simp; omega
theorem add_take {L : List Rk} {k : Nat} (h : k < L.length) : (L.take (k + 1)).foldl addH [] = addH ((L.take k).foldl addH []) L[k] := by
  rw [List.take_add_one, List.getElem?_eq_getElem h, Option.toList_some, List.foldl_append]; rfl
theorem add_len8 (L : List Rk) (k : Nat) : ((L.take k).foldl addH []).length ≤ 8 := by
  have key : ∀ (T : List Rk) (H : List ByteArray), H.length ≤ 8 → (T.foldl addH H).length ≤ 8 := by
    intro T
    induction T with
    | nil => intro H h; exact h
    | cons r T ih =>
      intro H h
      rw [List.foldl_cons]
      refine ih _ ?_
      unfold addH
      split
      · simp; omega
      · exact h
  exact key _ _ (by decide)
theorem hasH_eq (H : List ByteArray) (x : ByteArray) : Lib.containsS H x = hasH H x := by
  rw [Bool.eq_iff_iff, Lib.containsS_iff]
  unfold hasH
  rw [List.any_eq_true]
  constructor
  · exact fun h => ⟨x, h, decide_eq_true rfl⟩
  · rintro ⟨y, hy, e⟩
    rw [← of_decide_eq_true e]; exact hy

set_option maxHeartbeats 1000000 in
set_option maxRecDepth 100000 in
theorem containsH (v : Value) (H : List ByteArray) (x : ByteArray) (lo : Nat) (w : World) (h : Strs w lo v H) (hl : H.length ≤ 8) :
    Calls Tryd.prog 40 #[v, .string x] w fun e w' => e = .returned (.bool (hasH H x)) ∧ w' = w := by
  rcases h.cases with ⟨rfl, rfl⟩ | ⟨g, cap, rfl, A1⟩
  · exact Any.slices_Contains_string_empty Tryd.lays110 _ _ _ _
  · have := Any.slices_Contains_string Tryd.lays110 g 0 H.length cap H x w (Nat.le_refl _) (by omega) (fun j hj => by
      rw [Nat.zero_add, A1.cell j hj]
      simp [List.getD, hj])
    rw [List.take_length, hasH_eq] at this
    exact this

set_option maxHeartbeats 2000000 in
set_option maxRecDepth 100000 in
theorem implBest (v : Value) (L : List Rk) (lo : Nat) (w : World) (h : Rks w lo v L) (hL : L ≠ []) (h32 : L.length ≤ 32) :
    Calls Tryd.prog 25 #[v, .func (.func 26) #[] #[]] w fun e w' => (∃ v', e = .returned v' ∧ Strs w' w.heap.size v' ((sortR L).foldl addH [])) ∧ Below lo w w' := by
  have H : Hid (Rks w lo v L) := h
  have hlo : lo ≤ w.heap.size := by
    rcases h.cases with ⟨_, h0⟩ | ⟨g, cap, rfl, hs⟩
    · exact absurd h0 hL
    · have := hs.lo; have := hs.lt; omega
  clear h
  obtain ⟨i0, hi, hz0, hz1, hz2⟩ := info_parts infoStr
  go_enter Tryd.func25, Tryd.ntmps25
  go_wp2_with fail
  refine (sortHosts v L lo _ H.out hL h32).mono ?_
  rintro e w1 ⟨rfl, ⟨g, cap, rfl, hg, hgl, hc⟩, hb1⟩
  have HC : Hid (∀ i (hi : i < (sortR L).length), w1.cell? ⟨g, i * 3, none⟩ = some (.int .i64 (sortR L)[i].1) ∧ w1.cell? ⟨g, i * 3 + 1, none⟩ = some (.int .u32 (sortR L)[i].2.1) ∧ w1.cell? ⟨g, i * 3 + 2, none⟩ = some (.string (sortR L)[i].2.2)) := hc
  have HB1 : Hid (Below lo w w1) := hb1
  have hz1w := hb1.size
  have hln := sortR_len L
  have HA8 : Hid (∀ k, (((sortR L).take k).foldl addH []).length ≤ 8) := add_len8 _
  have HCE : Hid (Rks w lo (.slice (some ⟨g, 0, none⟩) L.length cap) L) := H.out
  have hcapL : L.length ≤ cap ∧ cap ≤ 9223372036854775807 := by
    rcases HCE.out.cases with ⟨hv, _⟩ | ⟨g', cap', hv, hs⟩
    · cases hv
    · injection hv with _ _ e
      have h1 := hs.len
      have h2 := hs.capm
      unfold maxLen at h2
      omega
  clear hc hb1 H HCE
  generalize hSE : sortR L = S at *
  have HSE : Hid (sortR L = S) := hSE
  clear hSE
  rw [← hln] at hcapL h32 ⊢
  have HST : Hid (∀ k (h : k < S.length), (S.take (k + 1)).foldl addH [] = addH ((S.take k).foldl addH []) S[k]) := fun k h => add_take h
  go_wp2
  go_loopw [5, 13] (fun uv iv wr => ∃ k : Nat, k ≤ S.length ∧ iv = .int .i64 k ∧ Hid (Strs wr w1.heap.size uv ((S.take k).foldl addH [])) ∧ Hid (Below w1.heap.size w1 wr)) (fun _ iv _ => S.length - (intOf iv).toNat)
  case atStart => exact ⟨0, Nat.zero_le _, rfl, ⟨by rfl, .inl ⟨rfl, rfl⟩⟩, Below.refl _ _⟩
  case round =>
    obtain ⟨k, hk, rfl, HR, HB⟩ := hrel
    by_cases hlt2 : k < S.length
    · obtain ⟨c0, c1, c2⟩ := HC.out k hlt2
      have x0 := (HB.out.cell (p := ⟨g, k * 3, none⟩) (by show g < _; omega)).trans c0
      have x1 := (HB.out.cell (p := ⟨g, k * 3 + 1, none⟩) (by show g < _; omega)).trans c1
      have x2 := (HB.out.cell (p := ⟨g, k * 3 + 2, none⟩) (by show g < _; omega)).trans c2
      have HS1 := HST.out k hlt2
      have HS2 : Hid ((S.take (k + 1)).foldl addH [] = addH ((S.take k).foldl addH []) S[k]) := HS1
      have h8 := HA8.out k
      have hzr := HB.out.size
      clear c0 c1 c2 HS1
      generalize S[k] = X at *
      obtain ⟨acc, HAC⟩ : ∃ acc, Hid ((S.take k).foldl addH [] = acc) := ⟨_, rfl⟩
      rw [HAC.out] at HR HS2 h8
      obtain ⟨a5, c5, hu5⟩ : ∃ a c, u5 = .slice a acc.length c := by
        rcases HR.out.cases with ⟨h1, h2⟩ | ⟨g', cap', h1, _⟩
        · exact ⟨none, 0, by rw [h1, h2]; rfl⟩
        · exact ⟨_, _, h1⟩
      subst hu5
      by_cases hl8 : acc.length < 8
      · have hl8i : (acc.length : Int) < 8 := by omega
        go_wp2_with fail
        generalize hW : wr.alloc _ = W
        have hbW : Hid (Below wr.heap.size wr W) := by show Below _ _ _; rw [← hW]; exact below1 _ _
        have m2 : W.cell? ⟨wr.heap.size, 2, none⟩ = some (.string X.2.2) := by rw [← hW]; exact World.cell?_alloc_mark _ _ _ _ _
        have hWz : wr.heap.size < W.heap.size := by rw [← hW]; simp
        clear hW x0 x1 x2
        have HRW : Hid (Strs W w1.heap.size (.slice a5 acc.length c5) acc) := strs_below HR.out hbW.out (Nat.le_refl _)
        have HBW : Hid (Below w1.heap.size w1 W) := HB.out.trans (hbW.out.mono hzr)
        refine (containsH _ acc X.2.2 _ _ HRW.out h8).mono ?_
        rintro e w2 ⟨rfl, hw2⟩
        rw [hw2]
        clear hw2
        cases hh : hasH acc X.2.2 with
        | true =>
          have G : Hid (addH acc X = acc) := by show _ = _; unfold addH; rw [if_neg (fun c => by rw [hh] at c; cases c.2)]
          clear hh
          go_wp2
          go_roundw
          case rel => exact ⟨k + 1, by omega, by go_num, by show Strs _ _ _ _; rw [HS2.out, G.out]; exact HRW.out, HBW⟩
          case measure => simp [intOf]; omega
        | false =>
          have G : Hid (addH acc X = acc ++ [X.2.2]) := by show _ = _; unfold addH; rw [if_pos ⟨hl8, hh⟩]
          clear hh
          have hown' : W.ownsRow w1.heap.size 9 1 (.slice a5 acc.length c5) acc.length (acc.map Value.string) := HRW.out
          have hlos := strs_lo HRW.out
          have hzW := HBW.out.size
          generalize X.2.2 = h at *
          go_wp2_with (at_builtin; refine wpList_append_lies _ rfl _ _ 29 rfl w1.heap.size 9 i0 (.string ⟨#[]⟩) 1 16 Tryd.underlying29 hi hz0 hz1 hz2 rfl (by decide) _ _ _ rfl (hown'.alloc _) ⟨W.heap.size, 0, none⟩ 1 1 [.string h] rfl rfl ?c1 ?c2 ?c3 ?c4 ?c5 ?c6 (W.heap.size + 1) ?c7 ?_)
          case c1 =>
            intro j u hj
            match j, hj with
            | 0, hj => simp at hj; subst hj; simp [Addr.add]
          case c2 => intro u hu; simp at hu; subst hu; rfl
          case c3 => decide
          case c4 => unfold maxLen; omega
          case c5 => omega
          case c6 => simp; omega
          case c7 => simp
          intro g7 cap7 w7 hown7 hgrow hat hlt7
          have HR7 : Hid (Strs w7 w1.heap.size (.slice (some ⟨g7, 0, none⟩) (acc.length + 1) cap7) (acc ++ [h])) := strs_snoc hown7
          have HB7 : Hid (Below w1.heap.size w1 w7) := (HBW.out.alloc hzW _).grown hgrow (by simp; omega) hlos
          clear hown7 hgrow hat hown' hlos
          go_wp2
          go_roundw
          case rel => exact ⟨k + 1, by omega, by go_num, by show Strs _ _ _ _; rw [HS2.out, G.out]; exact HR7.out, HB7⟩
          case measure => simp [intOf]; omega
      · have hl8i : ¬ (acc.length : Int) < 8 := by omega
        have G : Hid (addH acc X = acc) := by show _ = _; unfold addH; rw [if_neg (fun c => by omega)]
        go_wp2
        go_roundw
        case rel => exact ⟨k + 1, by omega, by go_num, by show Strs _ _ _ _; rw [HS2.out, G.out]; exact strs_below HR.out (below1 _ _) (Nat.le_refl _), HB.out.trans ((below1 _ _).mono hzr)⟩
        case measure => simp [intOf]; omega
    · obtain rfl : k = S.length := by omega
      have HF := HR.out
      rw [List.take_length] at HF
      go_wp2
      go_ret
      exact ⟨⟨_, rfl, by rw [HSE.out]; exact strs_le HF (by omega)⟩, HB1.out.trans (HB.out.mono (by omega))⟩
end Go.Proofs.YtnbbhegcijogiaaDoor
