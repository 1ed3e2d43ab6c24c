import Derived.Test.YthblkfdgibonbaaSPrs
import Derived.Deep.AppendLies
namespace Go.Proofs.Ythblkfdgibonbaa
open Go.ChangeShapes Go.WideShapes Go.ChangeAt Go.RowKit
open Pcs

theorem strs_ne2 {w : World} {lo : Nat} {v : Value} {L : List ByteArray} (h : Strs w lo v L) (hL : L ≠ []) : ∃ g cap, v = .slice (some ⟨g, 0, none⟩) L.length cap ∧ StrsAt w lo g cap L := by
  rcases h.cases with ⟨_, h0⟩ | h
  · exact absurd h0 hL
  · exact h

set_option maxHeartbeats 4000000 in
set_option maxRecDepth 100000 in
theorem specParse (s : ByteArray) (w : World) (hs : s.size ≤ 1048576) :
    Calls Try.prog 8 #[.string s] w fun e w' => (∃ v, e = .returned (.tuple #[.agg #[.int .i64 (prCode (parse s) : Int), v], .int .i64 (prUsed (parse s) : Int), .int .i64 (prSt (parse s) : Int)]) ∧ Strs w' w.heap.size v (prLines (parse s))) ∧ Below w.heap.size w w' := by
  obtain ⟨i0, hi, hz0, hz1, hz2⟩ := info_parts infoStr
  go_enter Try.func8, Try.ntmps8
  go_wp2_with fail
  refine (keepIs s _).mono ?_
  rintro e w' ⟨⟨K, rfl, HK, hKs⟩, hw⟩
  rw [hw]
  clear hw
  go_wp2_with fail
  refine (specSplit K _ _ (by omega) (by decide) (by decide)).mono ?_
  rintro e w2 ⟨⟨v, rfl, S2⟩, hb2⟩
  obtain ⟨g, cap, rfl, A2⟩ := strs_ne2 S2 (pieces_ne _ _)
  obtain ⟨n, hn⟩ : ∃ n, (pieces ⟨#[13, 10]⟩ K).length = n + 1 := ⟨(pieces ⟨#[13, 10]⟩ K).length - 1, by have := List.length_pos_iff.2 (pieces_ne ⟨#[13, 10]⟩ K); omega⟩
  have hpl := pieces_len ⟨#[13, 10]⟩ K
  have HSZ : Hid (∀ k (h : k < (pieces ⟨#[13, 10]⟩ K).length), (pieces ⟨#[13, 10]⟩ K)[k].size ≤ 1048576) := fun k h => Nat.le_trans (pieces_size (List.getElem_mem h)) (by omega)
  have CELL : Hid (∀ i (hi : i < (pieces ⟨#[13, 10]⟩ K).length), w2.cell? ⟨g, i, none⟩ = some (.string (pieces ⟨#[13, 10]⟩ K)[i])) := A2.cell
  have HP0 : Hid ((pieces ⟨#[13, 10]⟩ K).drop 0 = (pcs [13, 10] 0 [] (K.data.toList.drop 0)).map mk) := rfl
  have HR0 : Hid (prs 50 none [] 0 (K.data.toList.drop 0) = parse s) := by
    show _ = _
    rw [List.drop_zero, HK.out]
    exact prs_take 50 none [] 0 26112 s.data.toList (by decide)
  have hcap := A2.cap
  have hlc := A2.len
  have hgl := A2.lt
  have hglo := A2.lo
  have hz2' := hb2.size
  simp only [World.size_alloc] at hz2' hglo
  rw [hn] at hlc ⊢
  unfold maxLen at hcap
  have HW2 : Hid (Below w.heap.size w w2) := (below2 w _ _).trans (hb2.mono (by simp; omega))
  have HS0 : Hid (PrSt w w2 w2 (.slice none 0 0) 0 []) := by
    refine ⟨?_, ?_, World.ownsRow_nil _ _ _ _, Bes.refl _ _ _, by omega⟩
    · rw [hb2.block _ (by simp; omega), Below.heap_alloc _ _ _ (by simp)]; exact heap_alloc_new w _
    · rw [hb2.block _ (by simp)]
      have := heap_alloc_new (w.alloc (.cells #[.int .i64 0, .slice none 0 0] 26)) (.cells #[.int .i64 0, .slice none 0 0] 26)
      simpa using this
  have HKL : Hid (K.data.toList.length ≤ 1048576) := by
    show _ ≤ _
    rw [← Lib.size_eq]; omega
  clear S2 A2 hb2 HK
  generalize pieces ⟨#[13, 10]⟩ K = P at *
  go_wp2
  go_loopw [6, 20] (fun uv iv wr => ∃ (i u : Nat) (acc : List ByteArray) (c : Option Nat) (cd : Int) (lv : Value), i ≤ n ∧ iv = .int .i64 i ∧ uv = .int .i64 u ∧ u ≤ K.size ∧ acc.length = i ∧ i ≤ 50 ∧ Hid (prs (50 - i) c acc u (K.data.toList.drop u) = parse s) ∧ Hid (P.drop i = (pcs [13, 10] 0 [] (K.data.toList.drop u)).map mk) ∧ ((i = 0 ∧ c = none) ∨ (0 < i ∧ ∃ m : Nat, c = some m ∧ cd = m)) ∧ Hid (PrSt w w2 wr lv cd acc)) (fun _ iv _ => n + 1 - (intOf iv).toNat)
  case atStart => exact ⟨0, 0, [], none, 0, .slice none 0 0, Nat.zero_le _, rfl, rfl, Nat.zero_le _, rfl, Nat.zero_le _, HR0, HP0, .inl ⟨rfl, rfl⟩, HS0⟩
  case round =>
    obtain ⟨i, u, acc, c, cd, lv, hin, rfl, rfl, huK, hal, hi50, HR, HD, hcc, HS⟩ := hrel
    have hal1 : acc.length ≤ i := by omega
    have hal2 : i ≤ acc.length := by omega
    clear hal
    obtain ⟨a0, a1, af, b0, b1, bf⟩ := HS.out.facts
    have af0 := af 0
    have af1 := af 1
    have bf0 := bf 0
    have bf1 := bf 1
    have hle := HS.out.le
    have HBW : Hid (Below w.heap.size w wr) := HW2.out.trans (HS.out.bes.below (by omega) (by omega))
    have hzw : w2.heap.size ≤ wr.heap.size := HS.out.bes.size
    clear af bf
    have ec := CELL.out i (by omega)
    rw [← HS.out.bes.cell hgl (by omega)] at ec
    have hx := HSZ.out i (by omega)
    by_cases h50 : i = 50
    · subst h50
      have G : Hid (parse s = none) := by
        show _ = _
        rw [← HR.out]; rfl
      generalize P[50]'(by omega) = x at *
      go_wp2
      refine bodyPost_ret (v := .tuple #[.agg #[.int .i64 0, .slice none 0 0], .int .i64 0, .int .i64 3]) (by simp [results, Try.results8, go_sem, a0, a1]) rfl ⟨⟨_, by rw [G.out]; rfl, by rw [G.out]; exact World.ownsRow_nil _ _ _ _⟩, ?_⟩
      repeat (refine Below.setCell ?_ (by simp) _)
      exact HBW.out
    · have h50b : ((i : Int) == 50) = false := beq_eq_false_iff_ne.2 (by omega)
      obtain ⟨q, hq⟩ : ∃ q, 50 - i = q + 1 := ⟨49 - i, by omega⟩
      by_cases hil : i = n
      · subst hil
        have hdr : P.drop i = [P[i]'(by omega)] := by
          rw [List.drop_eq_getElem_cons (by omega), List.drop_of_length_le (by omega)]
        have hd := HD.out
        rw [hdr] at hd
        obtain ⟨hidx, hmk⟩ := left_last hd
        have G : Hid (parse s = if moreN (P[i]'(by omega)) then (some none) else none) := by
          show _ = _
          rw [← HR.out, hq, prs_cut hidx, hmk]
        have hnb : ((i : Int) == (i : Int) + 1 - 1) = true := beq_iff_eq.2 (by omega)
        clear hdr hd hidx hmk HD HR hq
        generalize P[i]'(by omega) = x at *
        -- the two ends
        have key : ∀ (y : ByteArray), mk (Lib.trimSuffix x.data.toList [13]) = y → Hid ((512 ≤ x.size → parse s = none) ∧ (hasN y 13 = true → parse s = none) ∧ (hasN y 10 = true → parse s = none) ∧ (x.size < 512 → hasN y 13 = false → hasN y 10 = false → parse s = (some none))) := by
          intro y hy
          have e := more_trim hy
          refine ⟨fun h => ?_, fun h => ?_, fun h => ?_, fun h1 h2 h3 => ?_⟩
          · rw [G.out, e, decide_eq_false (by omega)]; rfl
          · rw [G.out, e, h]; simp
          · rw [G.out, e, h]; simp
          · rw [G.out, e, decide_eq_true h1, h2, h3]; rfl
        clear G
        have fin : ∀ (wz : World) (y : ByteArray) (hy : y.size ≤ 1048576), True := fun _ _ _ => trivial
        clear fin
        by_cases hcr : ∃ h : 0 < x.size, (x[x.size - 1]'(by omega)).toNat = 13
        · obtain ⟨hx0, hd13⟩ := hcr
          have HT : Hid (mk (Lib.trimSuffix x.data.toList [13]) = x.extract 0 (x.size - 1)) := trim_cr hx0 hd13
          have K := key _ HT.out
          have hx0i : (0 : Int) < x.size := by omega
          have hl1 : x.size - 1 < x.size := by omega
          have hl2 : ((x.size : Int) - 1).toNat = x.size - 1 := by omega
          have hlo : (0 : Int) ≤ (x.size : Int) - 1 := by omega
          have hhi : (x.size : Int) - 1 ≤ x.size := by omega
          have hd13i : ((x[x.size - 1]'hl1).toNat : Int) = 13 := by omega
          have hys : (x.extract 0 (x.size - 1)).size ≤ 1048576 := by rw [ByteArray.size_extract]; omega
          clear key HT hd13
          go_upto_region 13 with fail
          generalize x.extract 0 (x.size - 1) = y at *
          have k13 : hasN y (13 : Int).toNat = hasN y 13 := rfl
          have k10 : hasN y (10 : Int).toNat = hasN y 10 := rfl
          by_cases h512 : x.size < 512
          · go_wp2_with fail
            refine (specHasJ y _ _ (by decide) hys).mono ?_
            rintro e w' ⟨rfl, hw⟩
            rw [hw, k13]
            clear hw
            cases h13 : hasN y 13 with
            | true =>
              have G : Hid (parse s = none) := K.out.2.1 h13
              clear K h13
              go_wp2
              refine bodyPost_ret (v := .tuple #[.agg #[.int .i64 0, .slice none 0 0], .int .i64 0, .int .i64 3]) (by simp [results, Try.results8, go_sem, a0, a1]) rfl ⟨⟨_, by rw [G.out]; rfl, by rw [G.out]; exact World.ownsRow_nil _ _ _ _⟩, ?_⟩
              repeat (refine Below.setCell ?_ (by simp) _)
              exact HBW.out
            | false =>
              go_wp2_with fail
              refine (specHasJ y _ _ (by decide) hys).mono ?_
              rintro e w' ⟨rfl, hw⟩
              rw [hw, k10]
              clear hw
              cases h10 : hasN y 10 with
              | true =>
                have G : Hid (parse s = none) := K.out.2.2.1 h10
                clear K h10 h13
                go_wp2
                refine bodyPost_ret (v := .tuple #[.agg #[.int .i64 0, .slice none 0 0], .int .i64 0, .int .i64 3]) (by simp [results, Try.results8, go_sem, a0, a1]) rfl ⟨⟨_, by rw [G.out]; rfl, by rw [G.out]; exact World.ownsRow_nil _ _ _ _⟩, ?_⟩
                repeat (refine Below.setCell ?_ (by simp) _)
                exact HBW.out
              | false =>
                have G : Hid (parse s = (some none)) := K.out.2.2.2 h512 h13 h10
                clear K h10 h13
                go_wp2
                refine bodyPost_ret (v := .tuple #[.agg #[.int .i64 0, .slice none 0 0], .int .i64 0, .int .i64 1]) (by simp [results, Try.results8, go_sem, a0, a1]) rfl ⟨⟨_, by rw [G.out]; rfl, by rw [G.out]; exact World.ownsRow_nil _ _ _ _⟩, ?_⟩
                repeat (refine Below.setCell ?_ (by simp) _)
                exact HBW.out
          · have h512i : ¬ (x.size : Int) < 512 := by omega
            have G : Hid (parse s = none) := K.out.1 (by omega)
            clear K
            go_wp2
            refine bodyPost_ret (v := .tuple #[.agg #[.int .i64 0, .slice none 0 0], .int .i64 0, .int .i64 3]) (by simp [results, Try.results8, go_sem, a0, a1]) rfl ⟨⟨_, by rw [G.out]; rfl, by rw [G.out]; exact World.ownsRow_nil _ _ _ _⟩, ?_⟩
            repeat (refine Below.setCell ?_ (by simp) _)
            exact HBW.out
        · have HT : Hid (mk (Lib.trimSuffix x.data.toList [13]) = x) := trim_nocr fun h e => hcr ⟨h, e⟩
          have K := key _ HT.out
          obtain ⟨y, Hy⟩ : ∃ y, Hid (x = y) := ⟨x, rfl⟩
          have K : Hid ((512 ≤ x.size → parse s = none) ∧ (hasN x 13 = true → parse s = none) ∧ (hasN x 10 = true → parse s = none) ∧ (x.size < 512 → hasN x 13 = false → hasN x 10 = false → parse s = (some none))) := K
          have hys := hx
          by_cases hx0 : 0 < x.size
          · have hx0i : (0 : Int) < x.size := by omega
            have hl1 : x.size - 1 < x.size := by omega
            have hl2 : ((x.size : Int) - 1).toNat = x.size - 1 := by omega
            have hlo : (0 : Int) ≤ (x.size : Int) - 1 := by omega
            have hne : (((x[x.size - 1]'hl1).toNat : Int) == 13) = false := beq_eq_false_iff_ne.2 fun e => hcr ⟨hx0, by omega⟩
            clear key HT hcr Hy
            go_upto_region 13 with fail
            clear hne
            have k13 : hasN x (13 : Int).toNat = hasN x 13 := rfl
            have k10 : hasN x (10 : Int).toNat = hasN x 10 := rfl
            by_cases h512 : x.size < 512
            · go_wp2_with fail
              refine (specHasJ x _ _ (by decide) hys).mono ?_
              rintro e w' ⟨rfl, hw⟩
              rw [hw, k13]
              clear hw
              cases h13 : hasN x 13 with
              | true =>
                have G : Hid (parse s = none) := K.out.2.1 h13
                clear K h13
                go_wp2
                refine bodyPost_ret (v := .tuple #[.agg #[.int .i64 0, .slice none 0 0], .int .i64 0, .int .i64 3]) (by simp [results, Try.results8, go_sem, a0, a1]) rfl ⟨⟨_, by rw [G.out]; rfl, by rw [G.out]; exact World.ownsRow_nil _ _ _ _⟩, ?_⟩
                repeat (refine Below.setCell ?_ (by simp) _)
                exact HBW.out
              | false =>
                go_wp2_with fail
                refine (specHasJ x _ _ (by decide) hys).mono ?_
                rintro e w' ⟨rfl, hw⟩
                rw [hw, k10]
                clear hw
                cases h10 : hasN x 10 with
                | true =>
                  have G : Hid (parse s = none) := K.out.2.2.1 h10
                  clear K h10 h13
                  go_wp2
                  refine bodyPost_ret (v := .tuple #[.agg #[.int .i64 0, .slice none 0 0], .int .i64 0, .int .i64 3]) (by simp [results, Try.results8, go_sem, a0, a1]) rfl ⟨⟨_, by rw [G.out]; rfl, by rw [G.out]; exact World.ownsRow_nil _ _ _ _⟩, ?_⟩
                  repeat (refine Below.setCell ?_ (by simp) _)
                  exact HBW.out
                | false =>
                  have G : Hid (parse s = (some none)) := K.out.2.2.2 h512 h13 h10
                  clear K h10 h13
                  go_wp2
                  refine bodyPost_ret (v := .tuple #[.agg #[.int .i64 0, .slice none 0 0], .int .i64 0, .int .i64 1]) (by simp [results, Try.results8, go_sem, a0, a1]) rfl ⟨⟨_, by rw [G.out]; rfl, by rw [G.out]; exact World.ownsRow_nil _ _ _ _⟩, ?_⟩
                  repeat (refine Below.setCell ?_ (by simp) _)
                  exact HBW.out
            · have h512i : ¬ (x.size : Int) < 512 := by omega
              have G : Hid (parse s = none) := K.out.1 (by omega)
              clear K
              go_wp2
              refine bodyPost_ret (v := .tuple #[.agg #[.int .i64 0, .slice none 0 0], .int .i64 0, .int .i64 3]) (by simp [results, Try.results8, go_sem, a0, a1]) rfl ⟨⟨_, by rw [G.out]; rfl, by rw [G.out]; exact World.ownsRow_nil _ _ _ _⟩, ?_⟩
              repeat (refine Below.setCell ?_ (by simp) _)
              exact HBW.out
          · have hx1 : (x.size : Int) ≤ 0 := by omega
            clear key HT hcr Hy
            go_upto_region 13 with fail
            have k13 : hasN x (13 : Int).toNat = hasN x 13 := rfl
            have k10 : hasN x (10 : Int).toNat = hasN x 10 := rfl
            by_cases h512 : x.size < 512
            · go_wp2_with fail
              refine (specHasJ x _ _ (by decide) hys).mono ?_
              rintro e w' ⟨rfl, hw⟩
              rw [hw, k13]
              clear hw
              cases h13 : hasN x 13 with
              | true =>
                have G : Hid (parse s = none) := K.out.2.1 h13
                clear K h13
                go_wp2
                refine bodyPost_ret (v := .tuple #[.agg #[.int .i64 0, .slice none 0 0], .int .i64 0, .int .i64 3]) (by simp [results, Try.results8, go_sem, a0, a1]) rfl ⟨⟨_, by rw [G.out]; rfl, by rw [G.out]; exact World.ownsRow_nil _ _ _ _⟩, ?_⟩
                repeat (refine Below.setCell ?_ (by simp) _)
                exact HBW.out
              | false =>
                go_wp2_with fail
                refine (specHasJ x _ _ (by decide) hys).mono ?_
                rintro e w' ⟨rfl, hw⟩
                rw [hw, k10]
                clear hw
                cases h10 : hasN x 10 with
                | true =>
                  have G : Hid (parse s = none) := K.out.2.2.1 h10
                  clear K h10 h13
                  go_wp2
                  refine bodyPost_ret (v := .tuple #[.agg #[.int .i64 0, .slice none 0 0], .int .i64 0, .int .i64 3]) (by simp [results, Try.results8, go_sem, a0, a1]) rfl ⟨⟨_, by rw [G.out]; rfl, by rw [G.out]; exact World.ownsRow_nil _ _ _ _⟩, ?_⟩
                  repeat (refine Below.setCell ?_ (by simp) _)
                  exact HBW.out
                | false =>
                  have G : Hid (parse s = (some none)) := K.out.2.2.2 h512 h13 h10
                  clear K h10 h13
                  go_wp2
                  refine bodyPost_ret (v := .tuple #[.agg #[.int .i64 0, .slice none 0 0], .int .i64 0, .int .i64 1]) (by simp [results, Try.results8, go_sem, a0, a1]) rfl ⟨⟨_, by rw [G.out]; rfl, by rw [G.out]; exact World.ownsRow_nil _ _ _ _⟩, ?_⟩
                  repeat (refine Below.setCell ?_ (by simp) _)
                  exact HBW.out
            · exact absurd h512 (by omega)
      · have hlt : i < n := by omega
        have hnb : ((i : Int) == (n : Int) + 1 - 1) = false := beq_eq_false_iff_ne.2 (by omega)
        have hnb2 : ((i : Int) == (n : Int)) = false := beq_eq_false_iff_ne.2 (by omega)
        have hdr : P.drop i = P[i]'(by omega) :: P[i + 1]'(by omega) :: P.drop (i + 1 + 1) := by
          rw [List.drop_eq_getElem_cons (by omega), List.drop_eq_getElem_cons (by omega)]
        have hdr2 : P.drop (i + 1) = P[i + 1]'(by omega) :: P.drop (i + 1 + 1) := by
          rw [List.drop_eq_getElem_cons (by omega)]
        have hd := HD.out
        rw [hdr] at hd
        obtain ⟨j, hidx, hmk, hrest⟩ := left_more hd
        rw [← hdr2] at hrest
        have hroom := Lib.index_room (K.data.toList.drop u) [13, 10] (by omega)
        rw [hidx, List.length_drop] at hroom
        have hroom2 : u + (j + 2) ≤ K.size := by
          rw [Lib.size_eq] at huK ⊢
          simp only [List.length_cons, List.length_nil] at hroom; omega
        have hxs : (P[i]'(by omega)).size = j := by
          rw [← hmk, mk_size, List.length_take, List.length_drop, ← Lib.size_eq]; omega
        have HG : Hid (parse s = if lineR (P[i]'(by omega)) && (c == none || c == some (codeN (P[i]'(by omega)))) then (if lastN (P[i]'(by omega)) then (some (some (codeN (P[i]'(by omega)), acc ++ [textB (P[i]'(by omega))], u + ((P[i]'(by omega)).size + 2)))) else prs q (some (codeN (P[i]'(by omega)))) (acc ++ [textB (P[i]'(by omega))]) (u + ((P[i]'(by omega)).size + 2)) (K.data.toList.drop (u + ((P[i]'(by omega)).size + 2)))) else none) := by
          show _ = _
          rw [← HR.out, hq, prs_line hidx hmk, hxs, List.drop_drop]
        have HD2 : Hid (P.drop (i + 1) = (pcs [13, 10] 0 [] (K.data.toList.drop (u + ((P[i]'(by omega)).size + 2)))).map mk) := by
          show _ = _
          rw [hrest, hxs, List.drop_drop]
        have hu2 : u + ((P[i]'(by omega)).size + 2) ≤ K.size := by rw [hxs]; exact hroom2
        clear hdr hdr2 hd hidx hmk hrest hroom hroom2 hxs HD HR
        generalize P[i]'(by omega) = x at *
        clear a0 a1 b0 b1 af0 af1 bf0 bf1
        go_wp2_with fail
        refine (specLine x _ hx).mono ?_
        rintro e w3 ⟨⟨code, last, text, ok, rfl, hok, hgood⟩, hb3⟩
        have HS3 : Hid (PrSt w w2 w3 lv cd acc) := HS.out.after hb3
        have HB3 : Hid (Below w.heap.size w w3) := HBW.out.trans (hb3.mono (by omega))
        have hz3 := hb3.size
        obtain ⟨a0, a1, af, b0, b1, bf⟩ := HS3.out.facts
        have af0 := af 0
        have af1 := af 1
        have bf0 := bf 0
        have bf1 := bf 1
        clear af bf hb3
        cases hlr : lineR x with
        | false =>
          rw [hlr] at hok
          subst hok
          have G : Hid (parse s = none) := by
            show _ = _
            rw [HG.out, hlr]; rfl
          clear HG hgood hlr
          go_wp2
          refine bodyPost_ret (v := .tuple #[.agg #[.int .i64 0, .slice none 0 0], .int .i64 0, .int .i64 3]) (by simp [results, Try.results8, go_sem, a0, a1]) rfl ⟨⟨_, by rw [G.out]; rfl, by rw [G.out]; exact World.ownsRow_nil _ _ _ _⟩, ?_⟩
          repeat (refine Below.setCell ?_ (by simp) _)
          exact HB3.out
        | true =>
          rw [hlr] at hok
          subst hok
          obtain ⟨rfl, rfl, rfl⟩ := hgood hlr
          clear hgood
          rcases hcc with ⟨hi0, rfl⟩ | ⟨hpos, m, rfl, rfl⟩
          · have hii : ¬ (0 : Int) < i := by omega
            clear hi0
            have HG2 : Hid (parse s = if lastN x then (some (some (codeN x, acc ++ [textB x], u + (x.size + 2)))) else prs q (some (codeN x)) (acc ++ [textB x]) (u + (x.size + 2)) (K.data.toList.drop (u + (x.size + 2)))) := by
              show _ = _
              rw [HG.out, hlr]; rfl
            clear HG hlr
            have hown' : ∀ ob, ((w3.setCell ⟨w.heap.size + 1, 0, none⟩ (.int .i64 (codeN x : Int))).alloc ob).ownsRow w2.heap.size 9 1 lv acc.length (acc.map Value.string) := fun ob => (ownsRow_setCell_below (show w3.ownsRow w2.heap.size 9 1 lv acc.length (acc.map Value.string) from HS3.out.own) (by show w.heap.size + 1 < _; omega) _).alloc ob
            have hlos := strs_lo HS3.out.own
            generalize textB x = TX at *
            go_wp2_with (at_builtin; refine wpList_append_lies _ rfl _ _ 24 rfl w2.heap.size 9 i0 (.string ⟨#[]⟩) 1 16 Try.underlying24 hi hz0 hz1 hz2 rfl (by decide) _ _ _ rfl (hown' _) ⟨w3.heap.size, 0, none⟩ 1 1 [.string TX] rfl rfl ?c1 ?c2 ?c3 ?c4 ?c5 ?c6 (w3.heap.size + 1) ?c7 ?_)
            case c1 =>
              intro j u hj
              match j, hj with
              | 0, hj =>
                simp at hj; subst hj
                rw [show (⟨w3.heap.size, 0, none⟩ : Addr).add 0 = ⟨w3.heap.size, 0, none⟩ from rfl, World.cell?_alloc_at _ _ _ _ (by simp)]; rfl
            case c2 => intro u hu; simp at hu; subst hu; rfl
            case c3 => decide
            case c4 => unfold maxLen; omega
            case c5 => omega
            case c6 => simp; omega
            case c7 => simp
            intro g' cap' w4 hown4 hgrow hat hlt4
            have HS4 : Hid (Strs w4 w2.heap.size (.slice (some ⟨g', 0, none⟩) (acc.length + 1) cap') (acc ++ [TX])) := strs_snoc hown4
            have hob : ∀ k, k < w2.heap.size → some k ≠ lv.ownBlock := fun k hk e => by have := hlos k e.symm; omega
            have blk4 : w4.heap[w.heap.size + 1]? = some (.cells #[.int .i64 (codeN x : Int), lv] 26 (0, 0)) := by
              rw [hgrow.block _ (by simp; omega) (hob _ (by omega)), Below.heap_alloc _ _ _ (by simp; omega), heap_setCell_same w3 (w.heap.size + 1) 0 _ _ _ HS3.out.blk]; rfl
            have bes4 : Bes w2.heap.size (w.heap.size + 1) w2 w4 := HS3.out.bes.trans ⟨hgrow.os, hgrow.tape, hgrow.output, by have := hgrow.size; simp at this; omega, fun k hk hne => by
              rw [hgrow.block k (by simp; omega) (hob k hk), Below.heap_alloc _ _ _ (by simp; omega), heap_setCell_other _ _ _ _ (by show k ≠ w.heap.size + 1; exact hne)]⟩
            have res4 : w4.heap[w.heap.size]? = some (.cells #[.int .i64 0, .slice none 0 0] 26 (0, 0)) := by rw [bes4.block _ (by omega) (by omega)]; exact HS3.out.res
            have c0 : w4.cell? ⟨w.heap.size, 0, none⟩ = some (.int .i64 0) := by simp [World.cell?, res4]
            have c1 : w4.cell? ⟨w.heap.size, 1, none⟩ = some (.slice none 0 0) := by simp [World.cell?, res4]
            have f0 : ∀ k, w4.frozen? ⟨w.heap.size, k, none⟩ = false := fun k => by simp [World.frozen?, res4]
            have e0 : w4.cell? ⟨w.heap.size + 1, 0, none⟩ = some (.int .i64 (codeN x : Int)) := by simp [World.cell?, blk4]
            have e1 : w4.cell? ⟨w.heap.size + 1, 1, none⟩ = some lv := by simp [World.cell?, blk4]
            have f1 : ∀ k, w4.frozen? ⟨w.heap.size + 1, k, none⟩ = false := fun k => by simp [World.frozen?, blk4]
            have f00 := f0 0
            have f01 := f0 1
            have f10 := f1 0
            have f11 := f1 1
            have HBS : Hid (Bes w2.heap.size (w.heap.size + 1) w2 w4) := bes4
            have HBK : Hid (w4.heap[w.heap.size + 1]? = some (.cells #[.int .i64 (codeN x : Int), lv] 26 (0, 0))) := blk4
            have HRS : Hid (w2.heap[w.heap.size]? = some (.cells #[.int .i64 0, .slice none 0 0] 26 (0, 0))) := HS3.out.res
            have HB4 : Hid (Below w.heap.size w w4) := HW2.out.trans (bes4.below (by omega) (by omega))
            clear hown4 hgrow hat hown' hlos hob blk4 bes4 res4 f0 f1 a0 a1 b0 b1 af0 af1 bf0 bf1
            cases hla : lastN x with
            | true =>
              have G : Hid (parse s = (some (some (codeN x, acc ++ [TX], u + (x.size + 2))))) := by
                show _ = _
                rw [HG2.out, hla]; rfl
              clear HG2 hla
              go_wp2
              refine bodyPost_ret (v := .tuple #[.agg #[.int .i64 (codeN x : Int), .slice (some ⟨g', 0, none⟩) (acc.length + 1) cap'], .int .i64 ((u : Int) + ((x.size : Int) + 2)), .int .i64 2]) (by simp [results, Try.results8, go_sem, c0, c1]) rfl ⟨⟨.slice (some ⟨g', 0, none⟩) (acc.length + 1) cap', by rw [G.out]; simp [prCode, prUsed, prSt], ?_⟩, ?_⟩
              · rw [G.out]
                show Strs _ w.heap.size _ (acc ++ [TX])
                refine strs_le ?_ (show w.heap.size ≤ w2.heap.size by omega)
                repeat (refine strs_setCell ?_ (by simp; omega) _)
                exact HS4.out
              · repeat (refine Below.setCell ?_ (by simp) _)
                exact HB4.out
            | false =>
              have G : Hid (prs (50 - (i + 1)) (some (codeN x)) (acc ++ [TX]) (u + (x.size + 2)) (K.data.toList.drop (u + (x.size + 2))) = parse s) := by
                show _ = _
                rw [HG2.out, hla, show 50 - (i + 1) = q by omega]; rfl
              clear HG2 hla
              go_wp2
              go_roundw
              case rel =>
                refine ⟨i + 1, u + (x.size + 2), acc ++ [TX], some (codeN x), codeN x, .slice (some ⟨g', 0, none⟩) (acc.length + 1) cap', by omega, by go_num, by go_num, hu2, by simp; omega, by omega, G, HD2, .inr ⟨by omega, codeN x, rfl, rfl⟩, ⟨HRS.out, ?_, ?_, ?_, by omega⟩⟩
                · rw [heap_setCell_same w4 (w.heap.size + 1) 1 _ _ _ HBK.out]; rfl
                · exact strs_setCell HS4.out (by show w.heap.size + 1 < _; omega) _
                · exact HBS.out.trans ⟨rfl, rfl, rfl, by simp, fun k _ hne => heap_setCell_other _ _ _ _ hne⟩
              case measure => simp [intOf]; omega
          · have hii : (0 : Int) < i := by omega
            by_cases hm : m = codeN x
            · subst hm
              have HG2 : Hid (parse s = if lastN x then (some (some (codeN x, acc ++ [textB x], u + (x.size + 2)))) else prs q (some (codeN x)) (acc ++ [textB x]) (u + (x.size + 2)) (K.data.toList.drop (u + (x.size + 2)))) := by
                show _ = _
                rw [HG.out, hlr]; simp
              clear HG hlr
              have hown' : ∀ ob, ((w3.setCell ⟨w.heap.size + 1, 0, none⟩ (.int .i64 (codeN x : Int))).alloc ob).ownsRow w2.heap.size 9 1 lv acc.length (acc.map Value.string) := fun ob => (ownsRow_setCell_below (show w3.ownsRow w2.heap.size 9 1 lv acc.length (acc.map Value.string) from HS3.out.own) (by show w.heap.size + 1 < _; omega) _).alloc ob
              have hlos := strs_lo HS3.out.own
              generalize textB x = TX at *
              go_wp2_with (at_builtin; refine wpList_append_lies _ rfl _ _ 24 rfl w2.heap.size 9 i0 (.string ⟨#[]⟩) 1 16 Try.underlying24 hi hz0 hz1 hz2 rfl (by decide) _ _ _ rfl (hown' _) ⟨w3.heap.size, 0, none⟩ 1 1 [.string TX] rfl rfl ?c1 ?c2 ?c3 ?c4 ?c5 ?c6 (w3.heap.size + 1) ?c7 ?_)
              case c1 =>
                intro j u hj
                match j, hj with
                | 0, hj =>
                simp at hj; subst hj
                rw [show (⟨w3.heap.size, 0, none⟩ : Addr).add 0 = ⟨w3.heap.size, 0, none⟩ from rfl, World.cell?_alloc_at _ _ _ _ (by simp)]; rfl
              case c2 => intro u hu; simp at hu; subst hu; rfl
              case c3 => decide
              case c4 => unfold maxLen; omega
              case c5 => omega
              case c6 => simp; omega
              case c7 => simp
              intro g' cap' w4 hown4 hgrow hat hlt4
              have HS4 : Hid (Strs w4 w2.heap.size (.slice (some ⟨g', 0, none⟩) (acc.length + 1) cap') (acc ++ [TX])) := strs_snoc hown4
              have hob : ∀ k, k < w2.heap.size → some k ≠ lv.ownBlock := fun k hk e => by have := hlos k e.symm; omega
              have blk4 : w4.heap[w.heap.size + 1]? = some (.cells #[.int .i64 (codeN x : Int), lv] 26 (0, 0)) := by
                rw [hgrow.block _ (by simp; omega) (hob _ (by omega)), Below.heap_alloc _ _ _ (by simp; omega), heap_setCell_same w3 (w.heap.size + 1) 0 _ _ _ HS3.out.blk]; rfl
              have bes4 : Bes w2.heap.size (w.heap.size + 1) w2 w4 := HS3.out.bes.trans ⟨hgrow.os, hgrow.tape, hgrow.output, by have := hgrow.size; simp at this; omega, fun k hk hne => by
                rw [hgrow.block k (by simp; omega) (hob k hk), Below.heap_alloc _ _ _ (by simp; omega), heap_setCell_other _ _ _ _ (by show k ≠ w.heap.size + 1; exact hne)]⟩
              have res4 : w4.heap[w.heap.size]? = some (.cells #[.int .i64 0, .slice none 0 0] 26 (0, 0)) := by rw [bes4.block _ (by omega) (by omega)]; exact HS3.out.res
              have c0 : w4.cell? ⟨w.heap.size, 0, none⟩ = some (.int .i64 0) := by simp [World.cell?, res4]
              have c1 : w4.cell? ⟨w.heap.size, 1, none⟩ = some (.slice none 0 0) := by simp [World.cell?, res4]
              have f0 : ∀ k, w4.frozen? ⟨w.heap.size, k, none⟩ = false := fun k => by simp [World.frozen?, res4]
              have e0 : w4.cell? ⟨w.heap.size + 1, 0, none⟩ = some (.int .i64 (codeN x : Int)) := by simp [World.cell?, blk4]
              have e1 : w4.cell? ⟨w.heap.size + 1, 1, none⟩ = some lv := by simp [World.cell?, blk4]
              have f1 : ∀ k, w4.frozen? ⟨w.heap.size + 1, k, none⟩ = false := fun k => by simp [World.frozen?, blk4]
              have f00 := f0 0
              have f01 := f0 1
              have f10 := f1 0
              have f11 := f1 1
              have HBS : Hid (Bes w2.heap.size (w.heap.size + 1) w2 w4) := bes4
              have HBK : Hid (w4.heap[w.heap.size + 1]? = some (.cells #[.int .i64 (codeN x : Int), lv] 26 (0, 0))) := blk4
              have HRS : Hid (w2.heap[w.heap.size]? = some (.cells #[.int .i64 0, .slice none 0 0] 26 (0, 0))) := HS3.out.res
              have HB4 : Hid (Below w.heap.size w w4) := HW2.out.trans (bes4.below (by omega) (by omega))
              clear hown4 hgrow hat hown' hlos hob blk4 bes4 res4 f0 f1 a0 a1 b0 b1 af0 af1 bf0 bf1
              cases hla : lastN x with
              | true =>
                have G : Hid (parse s = (some (some (codeN x, acc ++ [TX], u + (x.size + 2))))) := by
                  show _ = _
                  rw [HG2.out, hla]; rfl
                clear HG2 hla
                go_wp2
                refine bodyPost_ret (v := .tuple #[.agg #[.int .i64 (codeN x : Int), .slice (some ⟨g', 0, none⟩) (acc.length + 1) cap'], .int .i64 ((u : Int) + ((x.size : Int) + 2)), .int .i64 2]) (by simp [results, Try.results8, go_sem, c0, c1]) rfl ⟨⟨.slice (some ⟨g', 0, none⟩) (acc.length + 1) cap', by rw [G.out]; simp [prCode, prUsed, prSt], ?_⟩, ?_⟩
                · rw [G.out]
                  show Strs _ w.heap.size _ (acc ++ [TX])
                  refine strs_le ?_ (show w.heap.size ≤ w2.heap.size by omega)
                  repeat (refine strs_setCell ?_ (by simp; omega) _)
                  exact HS4.out
                · repeat (refine Below.setCell ?_ (by simp) _)
                  exact HB4.out
              | false =>
                have G : Hid (prs (50 - (i + 1)) (some (codeN x)) (acc ++ [TX]) (u + (x.size + 2)) (K.data.toList.drop (u + (x.size + 2))) = parse s) := by
                  show _ = _
                  rw [HG2.out, hla, show 50 - (i + 1) = q by omega]; rfl
                clear HG2 hla
                go_wp2
                go_roundw
                case rel =>
                  refine ⟨i + 1, u + (x.size + 2), acc ++ [TX], some (codeN x), codeN x, .slice (some ⟨g', 0, none⟩) (acc.length + 1) cap', by omega, by go_num, by go_num, hu2, by simp; omega, by omega, G, HD2, .inr ⟨by omega, codeN x, rfl, rfl⟩, ⟨HRS.out, ?_, ?_, ?_, by omega⟩⟩
                  · rw [heap_setCell_same w4 (w.heap.size + 1) 1 _ _ _ HBK.out]; rfl
                  · exact strs_setCell HS4.out (by show w.heap.size + 1 < _; omega) _
                  · exact HBS.out.trans ⟨rfl, rfl, rfl, by simp, fun k _ hne => heap_setCell_other _ _ _ _ hne⟩
                case measure => simp [intOf]; omega
            · have hneq : ((codeN x : Int) != (m : Int)) = true := by rw [bne_iff_ne]; omega
              have G : Hid (parse s = none) := by
                show _ = _
                rw [HG.out, hlr]; simp [hm]
              clear HG hlr
              go_wp2
              refine bodyPost_ret (v := .tuple #[.agg #[.int .i64 0, .slice none 0 0], .int .i64 0, .int .i64 3]) (by simp [results, Try.results8, go_sem, a0, a1]) rfl ⟨⟨_, by rw [G.out]; rfl, by rw [G.out]; exact World.ownsRow_nil _ _ _ _⟩, ?_⟩
              repeat (refine Below.setCell ?_ (by simp) _)
              exact HB3.out
end Go.Proofs.Ythblkfdgibonbaa
