import Derived.Test.YtngcjlghjidnjaaGreatDoorMg27
import Derived.Test.YtngcjlghjidnjaaGreatDoorMg9
import Derived.Deep.AppendLies
import Derived.Deep.RegionHeld3
namespace Go.Proofs.YtngcjlghjidnjaaGreatDoor
open Go.ChangeShapes Go.WideShapes Go.ChangeAt Go.RowKit
open Pcs

/-- below B all but block b stands as it stood -/
structure Bes (B b : Nat) (w w' : World) : Prop where
  os : w'.os = w.os
  tape : w'.tape = w.tape
  output : w'.output = w.output
  size : w.heap.size ≤ w'.heap.size
  block : ∀ k, k < B → k ≠ b → w'.heap[k]? = w.heap[k]?
theorem Bes.refl (B b : Nat) (w : World) : Bes B b w w := ⟨rfl, rfl, rfl, Nat.le_refl _, fun _ _ _ => rfl⟩
theorem Bes.trans {B b : Nat} {w w1 w2 : World} (h : Bes B b w w1) (k : Bes B b w1 w2) : Bes B b w w2 :=
  ⟨k.os.trans h.os, k.tape.trans h.tape, k.output.trans h.output, Nat.le_trans h.size k.size, fun j h1 h2 => (k.block j h1 h2).trans (h.block j h1 h2)⟩
theorem Bes.below {B b lo : Nat} {w w' : World} (h : Bes B b w w') (h1 : lo ≤ b) (h2 : lo ≤ B) : Below lo w w' :=
  ⟨h.os, h.tape, h.output, h.size, fun k hk => h.block k (by omega) (by omega)⟩
theorem Bes.of {B b lo : Nat} {w w' : World} (h : Below lo w w') (h1 : B ≤ lo) : Bes B b w w' :=
  ⟨h.os, h.tape, h.output, h.size, fun k hk _ => h.block k (by omega)⟩
theorem Bes.cell {B b : Nat} {w w' : World} (h : Bes B b w w') {g o : Nat} (h1 : g < B) (h2 : g ≠ b) : w'.cell? ⟨g, o, none⟩ = w.cell? ⟨g, o, none⟩ := by
  simp only [World.cell?]; rw [h.block g h1 h2]
theorem Bes.frozen {B b : Nat} {w w' : World} (h : Bes B b w w') {g o : Nat} (h1 : g < B) (h2 : g ≠ b) : w'.frozen? ⟨g, o, none⟩ = w.frozen? ⟨g, o, none⟩ := by
  simp only [World.frozen?]; rw [h.block g h1 h2]

set_option maxHeartbeats 1000000 in
set_option maxRecDepth 100000 in
theorem keepN (s : ByteArray) (n : Nat) (w : World) :
    Calls Tryz.prog 55 #[.string s, .int .i64 (n : Int)] w fun e w' => (∃ K : ByteArray, e = .returned (.string K) ∧ Hid (K.data.toList = s.data.toList.take n) ∧ K.size ≤ s.size) ∧ w' = w := by
  by_cases h : n ≤ s.size
  · have hi : (n : Int) ≤ s.size := by omega
    have E : Hid ((s.extract 0 n).data.toList = s.data.toList.take n) := by
      show _ = _
      rw [Lib.extract_data, List.drop_zero, Nat.sub_zero]
    have E2 : (s.extract 0 n).size ≤ s.size := by rw [ByteArray.size_extract]; omega
    go_enter Tryz.func55, Tryz.ntmps55
    go_wp2
    go_ret
    exact ⟨⟨_, rfl, E, E2⟩, rfl⟩
  · have E : Hid (s.data.toList = s.data.toList.take n) := by
      show _ = _
      rw [List.take_of_length_le (by rw [← Lib.size_eq]; omega)]
    have hi : (s.size : Int) < n := by omega
    go_enter Tryz.func55, Tryz.ntmps55
    go_wp2
    go_ret
    exact ⟨⟨_, rfl, E, Nat.le_refl _⟩, rfl⟩
theorem keepIs (s : ByteArray) (w : World) :
    Calls Tryz.prog 55 #[.string s, .int .i64 26112] w fun e w' => (∃ K : ByteArray, e = .returned (.string K) ∧ Hid (K.data.toList = s.data.toList.take 26112) ∧ K.size ≤ s.size) ∧ w' = w := keepN s 26112 w

/-- the pieces that are left, one by one -/
theorem left_last {r : List UInt8} {x : ByteArray} (h : [x] = (pcs [13, 10] 0 [] r).map mk) : Lib.index r [13, 10] = -1 ∧ mk r = x := by
  rcases pcs_index (sep := [13, 10]) (by simp) r [] with ⟨h1, h2⟩ | ⟨i, h1, h2, h3⟩
  · rw [h2] at h
    simp at h
    exact ⟨h1, h.symm⟩
  · rw [h3] at h
    have := congrArg List.length h
    have h0 : 0 < (pcs [13, 10] 0 [] (r.drop (i + ([13, 10] : List UInt8).length))).length := List.length_pos_iff.2 (pcs_ne _ _ _ _)
    rw [List.length_cons, List.length_nil, List.map_cons, List.length_cons, List.length_map] at this
    omega
theorem left_more {r : List UInt8} {x y : ByteArray} {L : List ByteArray} (h : x :: y :: L = (pcs [13, 10] 0 [] r).map mk) : ∃ i : Nat, Lib.index r [13, 10] = i ∧ mk (r.take i) = x ∧ y :: L = (pcs [13, 10] 0 [] (r.drop (i + 2))).map mk := by
  rcases pcs_index (sep := [13, 10]) (by simp) r [] with ⟨h1, h2⟩ | ⟨i, h1, h2, h3⟩
  · rw [h2] at h; simp at h
  · rw [h3, List.map_cons, List.nil_append] at h
    injection h with e1 e2
    exact ⟨i, h1, e1.symm, e2⟩
theorem trim_cr {x : ByteArray} (h : 0 < x.size) (hd : (x[x.size - 1]'(by omega)).toNat = 13) : mk (Lib.trimSuffix x.data.toList [13]) = x.extract 0 (x.size - 1) := by
  have hl : x.size - 1 < x.data.toList.length := by rw [← Lib.size_eq]; omega
  have hs : Lib.hasSuffix x.data.toList [13] = true := by
    refine List.isSuffixOf_iff_suffix.2 ⟨x.data.toList.take (x.size - 1), ?_⟩
    have e : x.data.toList[x.size - 1] = 13 := UInt8.toNat_inj.1 hd
    have : x.data.toList.drop (x.size - 1) = [13] := by
      rw [List.drop_eq_getElem_cons hl, e, List.drop_of_length_le (by rw [← Lib.size_eq]; omega)]
    rw [← this, List.take_append_drop]
  unfold Lib.trimSuffix
  rw [if_pos hs, ← mk_data (x.extract 0 (x.size - 1)), Lib.extract_data, List.drop_zero, Lib.size_eq]; rfl
theorem trim_nocr {x : ByteArray} (hd : ∀ h : 0 < x.size, (x[x.size - 1]'(by omega)).toNat ≠ 13) : mk (Lib.trimSuffix x.data.toList [13]) = x := by
  have hs : Lib.hasSuffix x.data.toList [13] = false := by
    rw [Bool.eq_false_iff]; intro e
    obtain ⟨t, ht⟩ := List.isSuffixOf_iff_suffix.1 e
    have hz : x.size = t.length + 1 := by rw [Lib.size_eq, ← ht]; simp
    have h0 : 0 < x.size := by omega
    refine hd h0 ?_
    have : x.data.toList[x.size - 1]? = some 13 := by rw [← ht, hz]; simp
    have hl : x.size - 1 < x.data.toList.length := by rw [← Lib.size_eq]; omega
    rw [List.getElem?_eq_getElem hl] at this
    exact congrArg UInt8.toNat (Option.some.inj this)
  unfold Lib.trimSuffix
  rw [if_neg (by rw [hs]; decide), mk_data]
theorem more_trim {x y : ByteArray} (h : mk (Lib.trimSuffix x.data.toList [13]) = y) : moreN x = (decide (x.size < 512) && !(hasN y 13 || hasN y 10)) := by
  unfold moreN; rw [h]; rfl

/-- what stands in memory behind i lines: the answer's block, r's block, the lines -/
structure PrSt (w w2 wr : World) (lv : Value) (cd : Int) (acc : List ByteArray) : Prop where
  res : w2.heap[w.heap.size]? = some (.cells #[.int .i64 0, .slice none 0 0] 102 (0, 0))
  blk : wr.heap[w.heap.size + 1]? = some (.cells #[.int .i64 cd, lv] 102 (0, 0))
  own : Strs wr w2.heap.size lv acc
  bes : Bes w2.heap.size (w.heap.size + 1) w2 wr
  le : w.heap.size + 2 ≤ w2.heap.size
theorem PrSt.facts {w w2 wr : World} {lv : Value} {cd : Int} {acc : List ByteArray} (h : PrSt w w2 wr lv cd acc) :
    wr.cell? ⟨w.heap.size, 0, none⟩ = some (.int .i64 0) ∧ wr.cell? ⟨w.heap.size, 1, none⟩ = some (.slice none 0 0) ∧ (∀ o, wr.frozen? ⟨w.heap.size, o, none⟩ = false) ∧
    wr.cell? ⟨w.heap.size + 1, 0, none⟩ = some (.int .i64 cd) ∧ wr.cell? ⟨w.heap.size + 1, 1, none⟩ = some lv ∧ (∀ o, wr.frozen? ⟨w.heap.size + 1, o, none⟩ = false) := by
  have hle := h.le
  have hr : wr.heap[w.heap.size]? = some (.cells #[.int .i64 0, .slice none 0 0] 102 (0, 0)) := by rw [h.bes.block _ (by omega) (by omega)]; exact h.res
  refine ⟨by simp [World.cell?, hr], by simp [World.cell?, hr], fun o => by simp [World.frozen?, hr], by simp [World.cell?, h.blk], by simp [World.cell?, h.blk], fun o => by simp [World.frozen?, h.blk]⟩
theorem PrSt.after {w w2 wr w3 : World} {lv : Value} {cd : Int} {acc : List ByteArray} (h : PrSt w w2 wr lv cd acc) (hb : Below wr.heap.size wr w3) : PrSt w w2 w3 lv cd acc := by
  have hle := h.le
  have hz := h.bes.size
  exact ⟨h.res, by rw [hb.block _ (by omega)]; exact h.blk, strs_below h.own hb (Nat.le_refl _), h.bes.trans (Bes.of hb hz), hle⟩
end Go.Proofs.YtngcjlghjidnjaaGreatDoor
namespace Go.Proofs.YtngcjlghjidnjaaGreatDoor
open Go.ChangeShapes Go.WideShapes Go.ChangeAt Go.RowKit
open Pcs

theorem strs_ne2 {w : World} {lo : Nat} {v : Value} {L : List ByteArray} (h : Strs w lo v L) (hL : L ≠ []) : ∃ g cap, v = .slice (some ⟨g, 0, none⟩) L.length cap ∧ StrsAt w lo g cap L := by
  rcases h.cases with ⟨_, h0⟩ | h
  · exact absurd h0 hL
  · exact h

set_option maxHeartbeats 4000000 in
set_option maxRecDepth 100000 in
theorem specParse (s : ByteArray) (w : World) (hs : s.size ≤ 1048576) :
    Calls Tryz.prog 90 #[.string s] w fun e w' => (∃ v, e = .returned (.tuple #[.agg #[.int .i64 (prCode (parse s) : Int), v], .int .i64 (prUsed (parse s) : Int), .int .i64 (prSt (parse s) : Int)]) ∧ Strs w' w.heap.size v (prLines (parse s))) ∧ Below w.heap.size w w' := by
  obtain ⟨i0, hi, hz0, hz1, hz2⟩ := info_parts infoStr
  go_enter Tryz.func90, Tryz.ntmps90
  go_wp2_with fail
  refine (keepIs s _).mono ?_
  rintro e w' ⟨⟨K, rfl, HK, hKs⟩, hw⟩
  rw [hw]
  clear hw
  go_wp2_with fail
  refine (specSplit K _ _ (by omega) (by decide) (by decide)).mono ?_
  rintro e w2 ⟨⟨v, rfl, S2⟩, hb2⟩
  obtain ⟨g, cap, rfl, A2⟩ := strs_ne2 S2 (pieces_ne _ _)
  obtain ⟨n, hn⟩ : ∃ n, (pieces ⟨#[13, 10]⟩ K).length = n + 1 := ⟨(pieces ⟨#[13, 10]⟩ K).length - 1, by have := List.length_pos_iff.2 (pieces_ne ⟨#[13, 10]⟩ K); omega⟩
  have hpl := pieces_len ⟨#[13, 10]⟩ K
  have HSZ : Hid (∀ k (h : k < (pieces ⟨#[13, 10]⟩ K).length), (pieces ⟨#[13, 10]⟩ K)[k].size ≤ 1048576) := fun k h => Nat.le_trans (pieces_size (List.getElem_mem h)) (by omega)
  have CELL : Hid (∀ i (hi : i < (pieces ⟨#[13, 10]⟩ K).length), w2.cell? ⟨g, i, none⟩ = some (.string (pieces ⟨#[13, 10]⟩ K)[i])) := A2.cell
  have HP0 : Hid ((pieces ⟨#[13, 10]⟩ K).drop 0 = (pcs [13, 10] 0 [] (K.data.toList.drop 0)).map mk) := rfl
  have HR0 : Hid (prs 50 none [] 0 (K.data.toList.drop 0) = parse s) := by
    show _ = _
    rw [List.drop_zero, HK.out]
    exact prs_take 50 none [] 0 26112 s.data.toList (by decide)
  have hcap := A2.cap
  have hlc := A2.len
  have hgl := A2.lt
  have hglo := A2.lo
  have hz2' := hb2.size
  simp only [World.size_alloc] at hz2' hglo
  rw [hn] at hlc ⊢
  unfold maxLen at hcap
  have HW2 : Hid (Below w.heap.size w w2) := (below2 w _ _).trans (hb2.mono (by simp; omega))
  have HS0 : Hid (PrSt w w2 w2 (.slice none 0 0) 0 []) := by
    refine ⟨?_, ?_, World.ownsRow_nil _ _ _ _, Bes.refl _ _ _, by omega⟩
    · rw [hb2.block _ (by simp; omega), Below.heap_alloc _ _ _ (by simp)]; exact heap_alloc_new w _
    · rw [hb2.block _ (by simp)]
      have := heap_alloc_new (w.alloc (.cells #[.int .i64 0, .slice none 0 0] 102)) (.cells #[.int .i64 0, .slice none 0 0] 102)
      simpa using this
  have HKL : Hid (K.data.toList.length ≤ 1048576) := by
    show _ ≤ _
    rw [← Lib.size_eq]; omega
  clear S2 A2 hb2 HK
  generalize pieces ⟨#[13, 10]⟩ K = P at *
  go_wp2
  go_loopw [6, 20] (fun uv iv wr => ∃ (i u : Nat) (acc : List ByteArray) (c : Option Nat) (cd : Int) (lv : Value), i ≤ n ∧ iv = .int .i64 i ∧ uv = .int .i64 u ∧ u ≤ K.size ∧ acc.length = i ∧ i ≤ 50 ∧ Hid (prs (50 - i) c acc u (K.data.toList.drop u) = parse s) ∧ Hid (P.drop i = (pcs [13, 10] 0 [] (K.data.toList.drop u)).map mk) ∧ ((i = 0 ∧ c = none) ∨ (0 < i ∧ ∃ m : Nat, c = some m ∧ cd = m)) ∧ Hid (PrSt w w2 wr lv cd acc)) (fun _ iv _ => n + 1 - (intOf iv).toNat)
  case atStart => exact ⟨0, 0, [], none, 0, .slice none 0 0, Nat.zero_le _, rfl, rfl, Nat.zero_le _, rfl, Nat.zero_le _, HR0, HP0, .inl ⟨rfl, rfl⟩, HS0⟩
  case round =>
    obtain ⟨i, u, acc, c, cd, lv, hin, rfl, rfl, huK, hal, hi50, HR, HD, hcc, HS⟩ := hrel
    have hal1 : acc.length ≤ i := by omega
    have hal2 : i ≤ acc.length := by omega
    clear hal
    obtain ⟨a0, a1, af, b0, b1, bf⟩ := HS.out.facts
    have af0 := af 0
    have af1 := af 1
    have bf0 := bf 0
    have bf1 := bf 1
    have hle := HS.out.le
    have HBW : Hid (Below w.heap.size w wr) := HW2.out.trans (HS.out.bes.below (by omega) (by omega))
    have hzw : w2.heap.size ≤ wr.heap.size := HS.out.bes.size
    clear af bf
    have ec := CELL.out i (by omega)
    rw [← HS.out.bes.cell hgl (by omega)] at ec
    have hx := HSZ.out i (by omega)
    by_cases h50 : i = 50
    · subst h50
      have G : Hid (parse s = none) := by
        show _ = _
        rw [← HR.out]; rfl
      generalize P[50]'(by omega) = x at *
      go_wp2
      refine bodyPost_ret (v := .tuple #[.agg #[.int .i64 0, .slice none 0 0], .int .i64 0, .int .i64 3]) (by simp [results, Tryz.results90, go_sem, a0, a1]) rfl ⟨⟨_, by rw [G.out]; rfl, by rw [G.out]; exact World.ownsRow_nil _ _ _ _⟩, ?_⟩
      repeat (refine Below.setCell ?_ (by simp) _)
      exact HBW.out
    · have h50b : ((i : Int) == 50) = false := beq_eq_false_iff_ne.2 (by omega)
      obtain ⟨q, hq⟩ : ∃ q, 50 - i = q + 1 := ⟨49 - i, by omega⟩
      by_cases hil : i = n
      · subst hil
        have hdr : P.drop i = [P[i]'(by omega)] := by
          rw [List.drop_eq_getElem_cons (by omega), List.drop_of_length_le (by omega)]
        have hd := HD.out
        rw [hdr] at hd
        obtain ⟨hidx, hmk⟩ := left_last hd
        have G : Hid (parse s = if moreN (P[i]'(by omega)) then (some none) else none) := by
          show _ = _
          rw [← HR.out, hq, prs_cut hidx, hmk]
        have hnb : ((i : Int) == (i : Int) + 1 - 1) = true := beq_iff_eq.2 (by omega)
        clear hdr hd hidx hmk HD HR hq
        generalize P[i]'(by omega) = x at *
        -- the two ends
        have key : ∀ (y : ByteArray), mk (Lib.trimSuffix x.data.toList [13]) = y → Hid ((512 ≤ x.size → parse s = none) ∧ (hasN y 13 = true → parse s = none) ∧ (hasN y 10 = true → parse s = none) ∧ (x.size < 512 → hasN y 13 = false → hasN y 10 = false → parse s = (some none))) := by
          intro y hy
          have e := more_trim hy
          refine ⟨fun h => ?_, fun h => ?_, fun h => ?_, fun h1 h2 h3 => ?_⟩
          · rw [G.out, e, decide_eq_false (by omega)]; rfl
          · rw [G.out, e, h]; simp
          · rw [G.out, e, h]; simp
          · rw [G.out, e, decide_eq_true h1, h2, h3]; rfl
        clear G
        have fin : ∀ (wz : World) (y : ByteArray) (hy : y.size ≤ 1048576), True := fun _ _ _ => trivial
        clear fin
        by_cases hcr : ∃ h : 0 < x.size, (x[x.size - 1]'(by omega)).toNat = 13
        · obtain ⟨hx0, hd13⟩ := hcr
          have HT : Hid (mk (Lib.trimSuffix x.data.toList [13]) = x.extract 0 (x.size - 1)) := trim_cr hx0 hd13
          have K := key _ HT.out
          have hx0i : (0 : Int) < x.size := by omega
          have hl1 : x.size - 1 < x.size := by omega
          have hl2 : ((x.size : Int) - 1).toNat = x.size - 1 := by omega
          have hlo : (0 : Int) ≤ (x.size : Int) - 1 := by omega
          have hhi : (x.size : Int) - 1 ≤ x.size := by omega
          have hd13i : ((x[x.size - 1]'hl1).toNat : Int) = 13 := by omega
          have hys : (x.extract 0 (x.size - 1)).size ≤ 1048576 := by rw [ByteArray.size_extract]; omega
          clear key HT hd13
          go_upto_region 13 with fail
          generalize x.extract 0 (x.size - 1) = y at *
          have k13 : hasN y (13 : Int).toNat = hasN y 13 := rfl
          have k10 : hasN y (10 : Int).toNat = hasN y 10 := rfl
          by_cases h512 : x.size < 512
          · go_wp2_with fail
            refine (specHasJ y _ _ (by decide) hys).mono ?_
            rintro e w' ⟨rfl, hw⟩
            rw [hw, k13]
            clear hw
            cases h13 : hasN y 13 with
            | true =>
              have G : Hid (parse s = none) := K.out.2.1 h13
              clear K h13
              go_wp2
              refine bodyPost_ret (v := .tuple #[.agg #[.int .i64 0, .slice none 0 0], .int .i64 0, .int .i64 3]) (by simp [results, Tryz.results90, go_sem, a0, a1]) rfl ⟨⟨_, by rw [G.out]; rfl, by rw [G.out]; exact World.ownsRow_nil _ _ _ _⟩, ?_⟩
              repeat (refine Below.setCell ?_ (by simp) _)
              exact HBW.out
            | false =>
              go_wp2_with fail
              refine (specHasJ y _ _ (by decide) hys).mono ?_
              rintro e w' ⟨rfl, hw⟩
              rw [hw, k10]
              clear hw
              cases h10 : hasN y 10 with
              | true =>
                have G : Hid (parse s = none) := K.out.2.2.1 h10
                clear K h10 h13
                go_wp2
                refine bodyPost_ret (v := .tuple #[.agg #[.int .i64 0, .slice none 0 0], .int .i64 0, .int .i64 3]) (by simp [results, Tryz.results90, go_sem, a0, a1]) rfl ⟨⟨_, by rw [G.out]; rfl, by rw [G.out]; exact World.ownsRow_nil _ _ _ _⟩, ?_⟩
                repeat (refine Below.setCell ?_ (by simp) _)
                exact HBW.out
              | false =>
                have G : Hid (parse s = (some none)) := K.out.2.2.2 h512 h13 h10
                clear K h10 h13
                go_wp2
                refine bodyPost_ret (v := .tuple #[.agg #[.int .i64 0, .slice none 0 0], .int .i64 0, .int .i64 1]) (by simp [results, Tryz.results90, go_sem, a0, a1]) rfl ⟨⟨_, by rw [G.out]; rfl, by rw [G.out]; exact World.ownsRow_nil _ _ _ _⟩, ?_⟩
                repeat (refine Below.setCell ?_ (by simp) _)
                exact HBW.out
          · have h512i : ¬ (x.size : Int) < 512 := by omega
            have G : Hid (parse s = none) := K.out.1 (by omega)
            clear K
            go_wp2
            refine bodyPost_ret (v := .tuple #[.agg #[.int .i64 0, .slice none 0 0], .int .i64 0, .int .i64 3]) (by simp [results, Tryz.results90, go_sem, a0, a1]) rfl ⟨⟨_, by rw [G.out]; rfl, by rw [G.out]; exact World.ownsRow_nil _ _ _ _⟩, ?_⟩
            repeat (refine Below.setCell ?_ (by simp) _)
            exact HBW.out
        · have HT : Hid (mk (Lib.trimSuffix x.data.toList [13]) = x) := trim_nocr fun h e => hcr ⟨h, e⟩
          have K := key _ HT.out
          obtain ⟨y, Hy⟩ : ∃ y, Hid (x = y) := ⟨x, rfl⟩
          have K : Hid ((512 ≤ x.size → parse s = none) ∧ (hasN x 13 = true → parse s = none) ∧ (hasN x 10 = true → parse s = none) ∧ (x.size < 512 → hasN x 13 = false → hasN x 10 = false → parse s = (some none))) := K
          have hys := hx
          by_cases hx0 : 0 < x.size
          · have hx0i : (0 : Int) < x.size := by omega
            have hl1 : x.size - 1 < x.size := by omega
            have hl2 : ((x.size : Int) - 1).toNat = x.size - 1 := by omega
            have hlo : (0 : Int) ≤ (x.size : Int) - 1 := by omega
            have hne : (((x[x.size - 1]'hl1).toNat : Int) == 13) = false := beq_eq_false_iff_ne.2 fun e => hcr ⟨hx0, by omega⟩
            clear key HT hcr Hy
            go_upto_region 13 with fail
            clear hne
            have k13 : hasN x (13 : Int).toNat = hasN x 13 := rfl
            have k10 : hasN x (10 : Int).toNat = hasN x 10 := rfl
            by_cases h512 : x.size < 512
            · go_wp2_with fail
              refine (specHasJ x _ _ (by decide) hys).mono ?_
              rintro e w' ⟨rfl, hw⟩
              rw [hw, k13]
              clear hw
              cases h13 : hasN x 13 with
              | true =>
                have G : Hid (parse s = none) := K.out.2.1 h13
                clear K h13
                go_wp2
                refine bodyPost_ret (v := .tuple #[.agg #[.int .i64 0, .slice none 0 0], .int .i64 0, .int .i64 3]) (by simp [results, Tryz.results90, go_sem, a0, a1]) rfl ⟨⟨_, by rw [G.out]; rfl, by rw [G.out]; exact World.ownsRow_nil _ _ _ _⟩, ?_⟩
                repeat (refine Below.setCell ?_ (by simp) _)
                exact HBW.out
              | false =>
                go_wp2_with fail
                refine (specHasJ x _ _ (by decide) hys).mono ?_
                rintro e w' ⟨rfl, hw⟩
                rw [hw, k10]
                clear hw
                cases h10 : hasN x 10 with
                | true =>
                  have G : Hid (parse s = none) := K.out.2.2.1 h10
                  clear K h10 h13
                  go_wp2
                  refine bodyPost_ret (v := .tuple #[.agg #[.int .i64 0, .slice none 0 0], .int .i64 0, .int .i64 3]) (by simp [results, Tryz.results90, go_sem, a0, a1]) rfl ⟨⟨_, by rw [G.out]; rfl, by rw [G.out]; exact World.ownsRow_nil _ _ _ _⟩, ?_⟩
                  repeat (refine Below.setCell ?_ (by simp) _)
                  exact HBW.out
                | false =>
                  have G : Hid (parse s = (some none)) := K.out.2.2.2 h512 h13 h10
                  clear K h10 h13
                  go_wp2
                  refine bodyPost_ret (v := .tuple #[.agg #[.int .i64 0, .slice none 0 0], .int .i64 0, .int .i64 1]) (by simp [results, Tryz.results90, go_sem, a0, a1]) rfl ⟨⟨_, by rw [G.out]; rfl, by rw [G.out]; exact World.ownsRow_nil _ _ _ _⟩, ?_⟩
                  repeat (refine Below.setCell ?_ (by simp) _)
                  exact HBW.out
            · have h512i : ¬ (x.size : Int) < 512 := by omega
              have G : Hid (parse s = none) := K.out.1 (by omega)
              clear K
              go_wp2
              refine bodyPost_ret (v := .tuple #[.agg #[.int .i64 0, .slice none 0 0], .int .i64 0, .int .i64 3]) (by simp [results, Tryz.results90, go_sem, a0, a1]) rfl ⟨⟨_, by rw [G.out]; rfl, by rw [G.out]; exact World.ownsRow_nil _ _ _ _⟩, ?_⟩
              repeat (refine Below.setCell ?_ (by simp) _)
              exact HBW.out
          · have hx1 : (x.size : Int) ≤ 0 := by omega
            clear key HT hcr Hy
            go_upto_region 13 with fail
            have k13 : hasN x (13 : Int).toNat = hasN x 13 := rfl
            have k10 : hasN x (10 : Int).toNat = hasN x 10 := rfl
            by_cases h512 : x.size < 512
            · go_wp2_with fail
              refine (specHasJ x _ _ (by decide) hys).mono ?_
              rintro e w' ⟨rfl, hw⟩
              rw [hw, k13]
              clear hw
              cases h13 : hasN x 13 with
              | true =>
                have G : Hid (parse s = none) := K.out.2.1 h13
                clear K h13
                go_wp2
                refine bodyPost_ret (v := .tuple #[.agg #[.int .i64 0, .slice none 0 0], .int .i64 0, .int .i64 3]) (by simp [results, Tryz.results90, go_sem, a0, a1]) rfl ⟨⟨_, by rw [G.out]; rfl, by rw [G.out]; exact World.ownsRow_nil _ _ _ _⟩, ?_⟩
                repeat (refine Below.setCell ?_ (by simp) _)
                exact HBW.out
              | false =>
                go_wp2_with fail
                refine (specHasJ x _ _ (by decide) hys).mono ?_
                rintro e w' ⟨rfl, hw⟩
                rw [hw, k10]
                clear hw
                cases h10 : hasN x 10 with
                | true =>
                  have G : Hid (parse s = none) := K.out.2.2.1 h10
                  clear K h10 h13
                  go_wp2
                  refine bodyPost_ret (v := .tuple #[.agg #[.int .i64 0, .slice none 0 0], .int .i64 0, .int .i64 3]) (by simp [results, Tryz.results90, go_sem, a0, a1]) rfl ⟨⟨_, by rw [G.out]; rfl, by rw [G.out]; exact World.ownsRow_nil _ _ _ _⟩, ?_⟩
                  repeat (refine Below.setCell ?_ (by simp) _)
                  exact HBW.out
                | false =>
                  have G : Hid (parse s = (some none)) := K.out.2.2.2 h512 h13 h10
                  clear K h10 h13
                  go_wp2
                  refine bodyPost_ret (v := .tuple #[.agg #[.int .i64 0, .slice none 0 0], .int .i64 0, .int .i64 1]) (by simp [results, Tryz.results90, go_sem, a0, a1]) rfl ⟨⟨_, by rw [G.out]; rfl, by rw [G.out]; exact World.ownsRow_nil _ _ _ _⟩, ?_⟩
                  repeat (refine Below.setCell ?_ (by simp) _)
                  exact HBW.out
            · exact absurd h512 (by omega)
      · have hlt : i < n := by omega
        have hnb : ((i : Int) == (n : Int) + 1 - 1) = false := beq_eq_false_iff_ne.2 (by omega)
        have hnb2 : ((i : Int) == (n : Int)) = false := beq_eq_false_iff_ne.2 (by omega)
        have hdr : P.drop i = P[i]'(by omega) :: P[i + 1]'(by omega) :: P.drop (i + 1 + 1) := by
          rw [List.drop_eq_getElem_cons (by omega), List.drop_eq_getElem_cons (by omega)]
        have hdr2 : P.drop (i + 1) = P[i + 1]'(by omega) :: P.drop (i + 1 + 1) := by
          rw [List.drop_eq_getElem_cons (by omega)]
        have hd := HD.out
        rw [hdr] at hd
        obtain ⟨j, hidx, hmk, hrest⟩ := left_more hd
        rw [← hdr2] at hrest
        have hroom := Lib.index_room (K.data.toList.drop u) [13, 10] (by omega)
        rw [hidx, List.length_drop] at hroom
        have hroom2 : u + (j + 2) ≤ K.size := by
          rw [Lib.size_eq] at huK ⊢
          simp only [List.length_cons, List.length_nil] at hroom; omega
        have hxs : (P[i]'(by omega)).size = j := by
          rw [← hmk, mk_size, List.length_take, List.length_drop, ← Lib.size_eq]; omega
        have HG : Hid (parse s = if lineR (P[i]'(by omega)) && (c == none || c == some (codeN (P[i]'(by omega)))) then (if lastN (P[i]'(by omega)) then (some (some (codeN (P[i]'(by omega)), acc ++ [textB (P[i]'(by omega))], u + ((P[i]'(by omega)).size + 2)))) else prs q (some (codeN (P[i]'(by omega)))) (acc ++ [textB (P[i]'(by omega))]) (u + ((P[i]'(by omega)).size + 2)) (K.data.toList.drop (u + ((P[i]'(by omega)).size + 2)))) else none) := by
          show _ = _
          rw [← HR.out, hq, prs_line hidx hmk, hxs, List.drop_drop]
        have HD2 : Hid (P.drop (i + 1) = (pcs [13, 10] 0 [] (K.data.toList.drop (u + ((P[i]'(by omega)).size + 2)))).map mk) := by
          show _ = _
          rw [hrest, hxs, List.drop_drop]
        have hu2 : u + ((P[i]'(by omega)).size + 2) ≤ K.size := by rw [hxs]; exact hroom2
        clear hdr hdr2 hd hidx hmk hrest hroom hroom2 hxs HD HR
        generalize P[i]'(by omega) = x at *
        clear a0 a1 b0 b1 af0 af1 bf0 bf1
        go_wp2_with fail
        refine (specLine x _ hx).mono ?_
        rintro e w3 ⟨⟨code, last, text, ok, rfl, hok, hgood⟩, hb3⟩
        have HS3 : Hid (PrSt w w2 w3 lv cd acc) := HS.out.after hb3
        have HB3 : Hid (Below w.heap.size w w3) := HBW.out.trans (hb3.mono (by omega))
        have hz3 := hb3.size
        obtain ⟨a0, a1, af, b0, b1, bf⟩ := HS3.out.facts
        have af0 := af 0
        have af1 := af 1
        have bf0 := bf 0
        have bf1 := bf 1
        clear af bf hb3
        cases hlr : lineR x with
        | false =>
          rw [hlr] at hok
          subst hok
          have G : Hid (parse s = none) := by
            show _ = _
            rw [HG.out, hlr]; rfl
          clear HG hgood hlr
          go_wp2
          refine bodyPost_ret (v := .tuple #[.agg #[.int .i64 0, .slice none 0 0], .int .i64 0, .int .i64 3]) (by simp [results, Tryz.results90, go_sem, a0, a1]) rfl ⟨⟨_, by rw [G.out]; rfl, by rw [G.out]; exact World.ownsRow_nil _ _ _ _⟩, ?_⟩
          repeat (refine Below.setCell ?_ (by simp) _)
          exact HB3.out
        | true =>
          rw [hlr] at hok
          subst hok
          obtain ⟨rfl, rfl, rfl⟩ := hgood hlr
          clear hgood
          rcases hcc with ⟨hi0, rfl⟩ | ⟨hpos, m, rfl, rfl⟩
          · have hii : ¬ (0 : Int) < i := by omega
            clear hi0
            have HG2 : Hid (parse s = if lastN x then (some (some (codeN x, acc ++ [textB x], u + (x.size + 2)))) else prs q (some (codeN x)) (acc ++ [textB x]) (u + (x.size + 2)) (K.data.toList.drop (u + (x.size + 2)))) := by
              show _ = _
              rw [HG.out, hlr]; rfl
            clear HG hlr
            have hown' : ∀ ob, ((w3.setCell ⟨w.heap.size + 1, 0, none⟩ (.int .i64 (codeN x : Int))).alloc ob).ownsRow w2.heap.size 9 1 lv acc.length (acc.map Value.string) := fun ob => (ownsRow_setCell_below (show w3.ownsRow w2.heap.size 9 1 lv acc.length (acc.map Value.string) from HS3.out.own) (by show w.heap.size + 1 < _; omega) _).alloc ob
            have hlos := strs_lo HS3.out.own
            generalize textB x = TX at *
            go_wp2_with (at_builtin; refine wpList_append_lies _ rfl _ _ 23 rfl w2.heap.size 9 i0 (.string ⟨#[]⟩) 1 16 Tryz.underlying23 hi hz0 hz1 hz2 rfl (by decide) _ _ _ rfl (hown' _) ⟨w3.heap.size, 0, none⟩ 1 1 [.string TX] rfl rfl ?c1 ?c2 ?c3 ?c4 ?c5 ?c6 (w3.heap.size + 1) ?c7 ?_)
            case c1 =>
              intro j u hj
              match j, hj with
              | 0, hj =>
                simp at hj; subst hj
                rw [show (⟨w3.heap.size, 0, none⟩ : Addr).add 0 = ⟨w3.heap.size, 0, none⟩ from rfl, World.cell?_alloc_at _ _ _ _ (by simp)]; rfl
            case c2 => intro u hu; simp at hu; subst hu; rfl
            case c3 => decide
            case c4 => unfold maxLen; omega
            case c5 => omega
            case c6 => simp; omega
            case c7 => simp
            intro g' cap' w4 hown4 hgrow hat hlt4
            have HS4 : Hid (Strs w4 w2.heap.size (.slice (some ⟨g', 0, none⟩) (acc.length + 1) cap') (acc ++ [TX])) := strs_snoc hown4
            have hob : ∀ k, k < w2.heap.size → some k ≠ lv.ownBlock := fun k hk e => by have := hlos k e.symm; omega
            have blk4 : w4.heap[w.heap.size + 1]? = some (.cells #[.int .i64 (codeN x : Int), lv] 102 (0, 0)) := by
              rw [hgrow.block _ (by simp; omega) (hob _ (by omega)), Below.heap_alloc _ _ _ (by simp; omega), heap_setCell_same w3 (w.heap.size + 1) 0 _ _ _ HS3.out.blk]; rfl
            have bes4 : Bes w2.heap.size (w.heap.size + 1) w2 w4 := HS3.out.bes.trans ⟨hgrow.os, hgrow.tape, hgrow.output, by have := hgrow.size; simp at this; omega, fun k hk hne => by
              rw [hgrow.block k (by simp; omega) (hob k hk), Below.heap_alloc _ _ _ (by simp; omega), heap_setCell_other _ _ _ _ (by show k ≠ w.heap.size + 1; exact hne)]⟩
            have res4 : w4.heap[w.heap.size]? = some (.cells #[.int .i64 0, .slice none 0 0] 102 (0, 0)) := by rw [bes4.block _ (by omega) (by omega)]; exact HS3.out.res
            have c0 : w4.cell? ⟨w.heap.size, 0, none⟩ = some (.int .i64 0) := by simp [World.cell?, res4]
            have c1 : w4.cell? ⟨w.heap.size, 1, none⟩ = some (.slice none 0 0) := by simp [World.cell?, res4]
            have f0 : ∀ k, w4.frozen? ⟨w.heap.size, k, none⟩ = false := fun k => by simp [World.frozen?, res4]
            have e0 : w4.cell? ⟨w.heap.size + 1, 0, none⟩ = some (.int .i64 (codeN x : Int)) := by simp [World.cell?, blk4]
            have e1 : w4.cell? ⟨w.heap.size + 1, 1, none⟩ = some lv := by simp [World.cell?, blk4]
            have f1 : ∀ k, w4.frozen? ⟨w.heap.size + 1, k, none⟩ = false := fun k => by simp [World.frozen?, blk4]
            have f00 := f0 0
            have f01 := f0 1
            have f10 := f1 0
            have f11 := f1 1
            have HBS : Hid (Bes w2.heap.size (w.heap.size + 1) w2 w4) := bes4
            have HBK : Hid (w4.heap[w.heap.size + 1]? = some (.cells #[.int .i64 (codeN x : Int), lv] 102 (0, 0))) := blk4
            have HRS : Hid (w2.heap[w.heap.size]? = some (.cells #[.int .i64 0, .slice none 0 0] 102 (0, 0))) := HS3.out.res
            have HB4 : Hid (Below w.heap.size w w4) := HW2.out.trans (bes4.below (by omega) (by omega))
            clear hown4 hgrow hat hown' hlos hob blk4 bes4 res4 f0 f1 a0 a1 b0 b1 af0 af1 bf0 bf1
            cases hla : lastN x with
            | true =>
              have G : Hid (parse s = (some (some (codeN x, acc ++ [TX], u + (x.size + 2))))) := by
                show _ = _
                rw [HG2.out, hla]; rfl
              clear HG2 hla
              go_wp2
              refine bodyPost_ret (v := .tuple #[.agg #[.int .i64 (codeN x : Int), .slice (some ⟨g', 0, none⟩) (acc.length + 1) cap'], .int .i64 ((u : Int) + ((x.size : Int) + 2)), .int .i64 2]) (by simp [results, Tryz.results90, go_sem, c0, c1]) rfl ⟨⟨.slice (some ⟨g', 0, none⟩) (acc.length + 1) cap', by rw [G.out]; simp [prCode, prUsed, prSt], ?_⟩, ?_⟩
              · rw [G.out]
                show Strs _ w.heap.size _ (acc ++ [TX])
                refine strs_le ?_ (show w.heap.size ≤ w2.heap.size by omega)
                repeat (refine strs_setCell ?_ (by simp; omega) _)
                exact HS4.out
              · repeat (refine Below.setCell ?_ (by simp) _)
                exact HB4.out
            | false =>
              have G : Hid (prs (50 - (i + 1)) (some (codeN x)) (acc ++ [TX]) (u + (x.size + 2)) (K.data.toList.drop (u + (x.size + 2))) = parse s) := by
                show _ = _
                rw [HG2.out, hla, show 50 - (i + 1) = q by omega]; rfl
              clear HG2 hla
              go_wp2
              go_roundw
              case rel =>
                refine ⟨i + 1, u + (x.size + 2), acc ++ [TX], some (codeN x), codeN x, .slice (some ⟨g', 0, none⟩) (acc.length + 1) cap', by omega, by go_num, by go_num, hu2, by simp; omega, by omega, G, HD2, .inr ⟨by omega, codeN x, rfl, rfl⟩, ⟨HRS.out, ?_, ?_, ?_, by omega⟩⟩
                · rw [heap_setCell_same w4 (w.heap.size + 1) 1 _ _ _ HBK.out]; rfl
                · exact strs_setCell HS4.out (by show w.heap.size + 1 < _; omega) _
                · exact HBS.out.trans ⟨rfl, rfl, rfl, by simp, fun k _ hne => heap_setCell_other _ _ _ _ hne⟩
              case measure => simp [intOf]; omega
          · have hii : (0 : Int) < i := by omega
            by_cases hm : m = codeN x
            · subst hm
              have HG2 : Hid (parse s = if lastN x then (some (some (codeN x, acc ++ [textB x], u + (x.size + 2)))) else prs q (some (codeN x)) (acc ++ [textB x]) (u + (x.size + 2)) (K.data.toList.drop (u + (x.size + 2)))) := by
                show _ = _
                rw [HG.out, hlr]; simp
              clear HG hlr
              have hown' : ∀ ob, ((w3.setCell ⟨w.heap.size + 1, 0, none⟩ (.int .i64 (codeN x : Int))).alloc ob).ownsRow w2.heap.size 9 1 lv acc.length (acc.map Value.string) := fun ob => (ownsRow_setCell_below (show w3.ownsRow w2.heap.size 9 1 lv acc.length (acc.map Value.string) from HS3.out.own) (by show w.heap.size + 1 < _; omega) _).alloc ob
              have hlos := strs_lo HS3.out.own
              generalize textB x = TX at *
              go_wp2_with (at_builtin; refine wpList_append_lies _ rfl _ _ 23 rfl w2.heap.size 9 i0 (.string ⟨#[]⟩) 1 16 Tryz.underlying23 hi hz0 hz1 hz2 rfl (by decide) _ _ _ rfl (hown' _) ⟨w3.heap.size, 0, none⟩ 1 1 [.string TX] rfl rfl ?c1 ?c2 ?c3 ?c4 ?c5 ?c6 (w3.heap.size + 1) ?c7 ?_)
              case c1 =>
                intro j u hj
                match j, hj with
                | 0, hj =>
                simp at hj; subst hj
                rw [show (⟨w3.heap.size, 0, none⟩ : Addr).add 0 = ⟨w3.heap.size, 0, none⟩ from rfl, World.cell?_alloc_at _ _ _ _ (by simp)]; rfl
              case c2 => intro u hu; simp at hu; subst hu; rfl
              case c3 => decide
              case c4 => unfold maxLen; omega
              case c5 => omega
              case c6 => simp; omega
              case c7 => simp
              intro g' cap' w4 hown4 hgrow hat hlt4
              have HS4 : Hid (Strs w4 w2.heap.size (.slice (some ⟨g', 0, none⟩) (acc.length + 1) cap') (acc ++ [TX])) := strs_snoc hown4
              have hob : ∀ k, k < w2.heap.size → some k ≠ lv.ownBlock := fun k hk e => by have := hlos k e.symm; omega
              have blk4 : w4.heap[w.heap.size + 1]? = some (.cells #[.int .i64 (codeN x : Int), lv] 102 (0, 0)) := by
                rw [hgrow.block _ (by simp; omega) (hob _ (by omega)), Below.heap_alloc _ _ _ (by simp; omega), heap_setCell_same w3 (w.heap.size + 1) 0 _ _ _ HS3.out.blk]; rfl
              have bes4 : Bes w2.heap.size (w.heap.size + 1) w2 w4 := HS3.out.bes.trans ⟨hgrow.os, hgrow.tape, hgrow.output, by have := hgrow.size; simp at this; omega, fun k hk hne => by
                rw [hgrow.block k (by simp; omega) (hob k hk), Below.heap_alloc _ _ _ (by simp; omega), heap_setCell_other _ _ _ _ (by show k ≠ w.heap.size + 1; exact hne)]⟩
              have res4 : w4.heap[w.heap.size]? = some (.cells #[.int .i64 0, .slice none 0 0] 102 (0, 0)) := by rw [bes4.block _ (by omega) (by omega)]; exact HS3.out.res
              have c0 : w4.cell? ⟨w.heap.size, 0, none⟩ = some (.int .i64 0) := by simp [World.cell?, res4]
              have c1 : w4.cell? ⟨w.heap.size, 1, none⟩ = some (.slice none 0 0) := by simp [World.cell?, res4]
              have f0 : ∀ k, w4.frozen? ⟨w.heap.size, k, none⟩ = false := fun k => by simp [World.frozen?, res4]
              have e0 : w4.cell? ⟨w.heap.size + 1, 0, none⟩ = some (.int .i64 (codeN x : Int)) := by simp [World.cell?, blk4]
              have e1 : w4.cell? ⟨w.heap.size + 1, 1, none⟩ = some lv := by simp [World.cell?, blk4]
              have f1 : ∀ k, w4.frozen? ⟨w.heap.size + 1, k, none⟩ = false := fun k => by simp [World.frozen?, blk4]
              have f00 := f0 0
              have f01 := f0 1
              have f10 := f1 0
              have f11 := f1 1
              have HBS : Hid (Bes w2.heap.size (w.heap.size + 1) w2 w4) := bes4
              have HBK : Hid (w4.heap[w.heap.size + 1]? = some (.cells #[.int .i64 (codeN x : Int), lv] 102 (0, 0))) := blk4
              have HRS : Hid (w2.heap[w.heap.size]? = some (.cells #[.int .i64 0, .slice none 0 0] 102 (0, 0))) := HS3.out.res
              have HB4 : Hid (Below w.heap.size w w4) := HW2.out.trans (bes4.below (by omega) (by omega))
              clear hown4 hgrow hat hown' hlos hob blk4 bes4 res4 f0 f1 a0 a1 b0 b1 af0 af1 bf0 bf1
              cases hla : lastN x with
              | true =>
                have G : Hid (parse s = (some (some (codeN x, acc ++ [TX], u + (x.size + 2))))) := by
                  show _ = _
                  rw [HG2.out, hla]; rfl
                clear HG2 hla
                go_wp2
                refine bodyPost_ret (v := .tuple #[.agg #[.int .i64 (codeN x : Int), .slice (some ⟨g', 0, none⟩) (acc.length + 1) cap'], .int .i64 ((u : Int) + ((x.size : Int) + 2)), .int .i64 2]) (by simp [results, Tryz.results90, go_sem, c0, c1]) rfl ⟨⟨.slice (some ⟨g', 0, none⟩) (acc.length + 1) cap', by rw [G.out]; simp [prCode, prUsed, prSt], ?_⟩, ?_⟩
                · rw [G.out]
                  show Strs _ w.heap.size _ (acc ++ [TX])
                  refine strs_le ?_ (show w.heap.size ≤ w2.heap.size by omega)
                  repeat (refine strs_setCell ?_ (by simp; omega) _)
                  exact HS4.out
                · repeat (refine Below.setCell ?_ (by simp) _)
                  exact HB4.out
              | false =>
                have G : Hid (prs (50 - (i + 1)) (some (codeN x)) (acc ++ [TX]) (u + (x.size + 2)) (K.data.toList.drop (u + (x.size + 2))) = parse s) := by
                  show _ = _
                  rw [HG2.out, hla, show 50 - (i + 1) = q by omega]; rfl
                clear HG2 hla
                go_wp2
                go_roundw
                case rel =>
                  refine ⟨i + 1, u + (x.size + 2), acc ++ [TX], some (codeN x), codeN x, .slice (some ⟨g', 0, none⟩) (acc.length + 1) cap', by omega, by go_num, by go_num, hu2, by simp; omega, by omega, G, HD2, .inr ⟨by omega, codeN x, rfl, rfl⟩, ⟨HRS.out, ?_, ?_, ?_, by omega⟩⟩
                  · rw [heap_setCell_same w4 (w.heap.size + 1) 1 _ _ _ HBK.out]; rfl
                  · exact strs_setCell HS4.out (by show w.heap.size + 1 < _; omega) _
                  · exact HBS.out.trans ⟨rfl, rfl, rfl, by simp, fun k _ hne => heap_setCell_other _ _ _ _ hne⟩
                case measure => simp [intOf]; omega
            · have hneq : ((codeN x : Int) != (m : Int)) = true := by rw [bne_iff_ne]; omega
              have G : Hid (parse s = none) := by
                show _ = _
                rw [HG.out, hlr]; simp [hm]
              clear HG hlr
              go_wp2
              refine bodyPost_ret (v := .tuple #[.agg #[.int .i64 0, .slice none 0 0], .int .i64 0, .int .i64 3]) (by simp [results, Tryz.results90, go_sem, a0, a1]) rfl ⟨⟨_, by rw [G.out]; rfl, by rw [G.out]; exact World.ownsRow_nil _ _ _ _⟩, ?_⟩
              repeat (refine Below.setCell ?_ (by simp) _)
              exact HB3.out
end Go.Proofs.YtngcjlghjidnjaaGreatDoor
namespace Go.Proofs.YtngcjlghjidnjaaGreatDoor
open Go.ChangeShapes Go.WideShapes Go.ChangeAt Go.RowKit
attribute [local go_sem ↓] Go.wp_at_zero Go.wp_at_succ

theorem first_str2 {w : World} {lo : Nat} {v : Value} {L : List ByteArray} (h : Strs w lo v L) (h1 : 1 ≤ L.length) : ∃ g k, v = .slice (some ⟨g, 0, none⟩) L.length k ∧ w.cell? ⟨g, 0, none⟩ = some (.string (L.getD 0 ⟨#[]⟩)) ∧ g < w.heap.size ∧ lo ≤ g := by
  obtain ⟨g, k, rfl, ha⟩ := strs_ne2 h (by intro e; rw [e] at h1; simp at h1)
  refine ⟨g, k, rfl, ?_, ha.lt, ha.lo⟩
  have := ha.cell 0 h1
  rw [this]
  cases L with
  | nil => simp at h1
  | cons x L => rfl
theorem refV_is2 (c : Nat) (x : ByteArray) : (500 ≤ c ∧ (refV c x).1 = 3) ∨ (c < 500 ∧ (refV c x).1 = 2) := by
  unfold refV
  by_cases h : 500 ≤ c
  · exact .inl ⟨h, by dsimp only; rw [if_pos h]⟩
  · exact .inr ⟨by omega, by dsimp only; rw [if_neg h]⟩
theorem specNo (c : Nat) (v : Value) (L : List ByteArray) (lo : Nat) (w : World) (hS : Strs w lo v L) (h1 : 1 ≤ L.length) :
    Calls Tryz.prog 123 #[.agg #[.int .i64 (c : Int), v]] w fun e w' => e = .returned (.agg #[.int .i64 (refV c (L.getD 0 ⟨#[]⟩)).1, .int .i64 (refV c (L.getD 0 ⟨#[]⟩)).2.1, .string (refV c (L.getD 0 ⟨#[]⟩)).2.2]) ∧ Below w.heap.size w w' := by
  obtain ⟨g, k, rfl, h0, hg, _⟩ := first_str2 hS h1
  exact specNoK _ c _ g _ k w h0 hg h1 (refV_is2 c _)

set_option maxHeartbeats 4000000 in
set_option maxRecDepth 100000 in
theorem specRcptY (s : Sn) (c : Nat) (x : ByteArray) (v : Value) (u1 u2 u3 : Value) (lo : Nat) (w : World) (hk : s.Ok) (h5 : s.ph = 5) (h : SV w lo u1 u2 u3 s) (hc : c = 250 ∨ c = 251) :
    Calls Tryz.prog 124 #[.agg #[.int .i64 s.ph, .string s.buf, .string s.he, .string s.fr, .string s.bo, u1, .int .i64 (s.nx : Int), u2, u3], .agg #[.int .i64 (c : Int), v], .bool true] w fun e w' => SQ ((s.mark c x).next) w e w' := by
  have H : Hid (SV w lo u1 u2 u3 s) := h
  have HK : Hid s.Ok := hk
  obtain ⟨g1, g2, g3, k1, k2, k3, rfl, rfl, rfl⟩ := h.some hk
  clear h hk
  obtain ⟨m1, m2, m3, m4, m5, m6, m7, m8, m9⟩ := HK.out.mark c x h5
  have hn : s.nx < s.R.length := HK.out.n5 h5
  have HL : Hid (s.T.length = s.R.length) := HK.out.t
  generalize hM : s.mark c x = M at *
  have mN : Hid (M.nx = s.nx + 1) := m3
  have mR : Hid (M.R = s.R) := m5
  have mT : Hid (M.T.length = s.R.length) := m1
  have mW : Hid M.Wf := ⟨by rw [m1, m5], by rw [m2, m5], by rw [m5]; exact HK.out.r1, by rw [m5]; exact HK.out.r20⟩
  have HM : Hid ({ ({ s with T := s.T.set s.nx true } : Sn) with nx := s.nx + 1 } = M) := by
    show _ = _
    rw [← hM, Sn.mark, if_pos hc]
  have hr20 : s.R.length ≤ 20 := HK.out.r20
  clear m1 m2 m3 m4 m5 m6 m7 m8 m9 hM hc h5
  go_enter Tryz.func124, Tryz.ntmps124
  go_wp2_with fail
  generalize hW : World.alloc _ _ = W
  have HA : Hid (SB w.heap.size s (.slice (some ⟨g1, 0, none⟩) s.R.length k1) (.slice (some ⟨g2, 0, none⟩) s.R.length k2) (.slice (some ⟨g3, 0, none⟩) s.R.length k3) W) := by show SB _ _ _ _ _ _; rw [← hW]; exact (blk3 w _ _ _ _ _ _).1
  have HZ : Hid (SB (w.heap.size + 1 + 1) sn0 (.slice none 0 0) (.slice none 0 0) (.slice none 0 0) W) := by show SB _ _ _ _ _ _; rw [← hW]; exact (blk3 w _ _ _ _ _ _).2.2
  have b0 : Below w.heap.size w W := by rw [← hW]; exact below3 _ _ _ _
  have z0 : w.heap.size + 3 ≤ W.heap.size := by rw [← hW]; simp
  clear hW
  refine (specCopy s _ _ _ lo W HK.out.wf (H.out.below b0 (Nat.le_refl _))).mono ?_
  rintro e w1 ⟨⟨v1, v2, v3, rfl, S1⟩, hb1⟩
  obtain ⟨p1, p2, p3, q1, q2, q3, rfl, rfl, rfl⟩ := S1.some HK.out
  have b1 : Below w.heap.size w w1 := b0.trans (hb1.mono b0.size)
  have HA1 : Hid (SB w.heap.size s (.slice (some ⟨g1, 0, none⟩) s.R.length k1) (.slice (some ⟨g2, 0, none⟩) s.R.length k2) (.slice (some ⟨g3, 0, none⟩) s.R.length k3) w1) := SB.below HA.out hb1
  have HZ1 : Hid (SB (w.heap.size + 1 + 1) sn0 (.slice none 0 0) (.slice none 0 0) (.slice none 0 0) w1) := SB.below HZ.out hb1
  have HS1 : Hid (SV w1 W.heap.size (.slice (some ⟨p1, 0, none⟩) s.R.length q1) (.slice (some ⟨p2, 0, none⟩) s.R.length q2) (.slice (some ⟨p3, 0, none⟩) s.R.length q3) s) := S1
  have z1 := hb1.size
  clear S1 hb1 HA HZ b0
  go_upto_region 2 with fail
  generalize hW2 : World.alloc _ _ = W2
  have hbb : Below w1.heap.size w1 W2 := by rw [← hW2]; exact below1 _ _
  obtain ⟨tb, htb⟩ : ∃ tb, tb = w1.heap.size := ⟨_, rfl⟩
  have HT2 : Hid (SB tb s (.slice (some ⟨p1, 0, none⟩) s.R.length q1) (.slice (some ⟨p2, 0, none⟩) s.R.length q2) (.slice (some ⟨p3, 0, none⟩) s.R.length q3) W2) := by show SB _ _ _ _ _ _; rw [← hW2, htb]; exact Blk.new w1 _ _
  have HA2 : Hid (SB w.heap.size s (.slice (some ⟨g1, 0, none⟩) s.R.length k1) (.slice (some ⟨g2, 0, none⟩) s.R.length k2) (.slice (some ⟨g3, 0, none⟩) s.R.length k3) W2) := SB.below HA1.out hbb
  have HZ2 : Hid (SB (w.heap.size + 1 + 1) sn0 (.slice none 0 0) (.slice none 0 0) (.slice none 0 0) W2) := SB.below HZ1.out hbb
  have HS2 : Hid (SV W2 W.heap.size (.slice (some ⟨p1, 0, none⟩) s.R.length q1) (.slice (some ⟨p2, 0, none⟩) s.R.length q2) (.slice (some ⟨p3, 0, none⟩) s.R.length q3) s) := HS1.out.below hbb (Nat.le_refl _)
  have b2 : Below w.heap.size w W2 := b1.trans (hbb.mono b1.size)
  have z2 : w1.heap.size + 1 ≤ W2.heap.size := by rw [← hW2]; simp
  have hp1 := (HS1.out.own.1 p1 rfl)
  have hp2 := (HS1.out.own.2.1 p2 rfl)
  have hp3 := (HS1.out.own.2.2 p3 rfl)
  clear hW2 hbb HA1 HZ1 HS1 b1
  rw [← htb] at *
  obtain ⟨t0, t1, t2, t3, t4, t5, t6, t7, t8⟩ := HT2.out.cells
  have x6 : W2.cell? ⟨w.heap.size, 6, none⟩ = some (.int .i64 (s.nx : Int)) := HA2.out.cell 6
  have BA := HS2.out.2.1.at.1
  have y0 := BA.cell s.nx (by rw [HL.out]; exact hn)
  have yf := BA.free s.nx
  have yl := BA.lt
  clear BA
  go_upto_region 5 with fail
  generalize hW5 : World.setCell W2 _ _ = W5
  have ap := HS2.out.apart
  have HT5 : Hid (SB tb ({ s with T := s.T.set s.nx true } : Sn) (.slice (some ⟨p1, 0, none⟩) s.R.length q1) (.slice (some ⟨p2, 0, none⟩) s.R.length q2) (.slice (some ⟨p3, 0, none⟩) s.R.length q3) W5) := by show SB _ _ _ _ _ _; rw [← hW5]; exact Blk.other HT2.out (by omega)
  have HZ5 : Hid (SB (w.heap.size + 1 + 1) sn0 (.slice none 0 0) (.slice none 0 0) (.slice none 0 0) W5) := by show SB _ _ _ _ _ _; rw [← hW5]; exact Blk.other HZ2.out (by omega)
  have HS5 : Hid (SV W5 W.heap.size (.slice (some ⟨p1, 0, none⟩) s.R.length q1) (.slice (some ⟨p2, 0, none⟩) s.R.length q2) (.slice (some ⟨p3, 0, none⟩) s.R.length q3) ({ s with T := s.T.set s.nx true } : Sn)) := by
    show SV _ _ _ _ _ _
    rw [← hW5]
    refine ⟨row_set_neR HS2.out.1 (fun g hg => ap.1 g p2 hg rfl) _, ?_, row_set_neR HS2.out.2.2 (fun g hg e => ap.2.2 p2 g rfl hg e.symm) _⟩
    exact bls_set HS2.out.2.1 true
  have b5 : Below w.heap.size w W5 := by rw [← hW5]; exact b2.setCell (by dsimp only; omega) _
  have z5 : W2.heap.size ≤ W5.heap.size := by rw [← hW5]; simp
  clear hW5 HT2 HA2 HZ2 HS2 b2 t0 t1 t2 t3 t4 t5 t6 t7 t8 x6 y0 yf yl ap
  have e6 : Hid (((s.nx : Int) + 1) = ((s.nx + 1 : Nat) : Int)) := by show _ = _; omega
  obtain ⟨t0, t1, t2, t3, t4, t5, t6, t7, t8⟩ := HT5.out.cells
  have tf6 : W5.frozen? ⟨tb, 6, none⟩ = false := HT5.out.free 6
  have tl5 : tb < W5.heap.size := HT5.out.lt
  go_upto_region 6 with fail
  rw [e6.out]
  generalize hW6 : World.setCell W5 _ _ = W6
  have HT6 : Hid (SB tb M (.slice (some ⟨p1, 0, none⟩) s.R.length q1) (.slice (some ⟨p2, 0, none⟩) s.R.length q2) (.slice (some ⟨p3, 0, none⟩) s.R.length q3) W6) := by
    show SB _ _ _ _ _ _
    rw [← hW6, ← HM.out]
    exact Blk.set HT5.out (i := 6) (by simp [c9])
  have HZ6 : Hid (SB (w.heap.size + 1 + 1) sn0 (.slice none 0 0) (.slice none 0 0) (.slice none 0 0) W6) := by show SB _ _ _ _ _ _; rw [← hW6]; exact Blk.other HZ5.out (by omega)
  have HS6 : Hid (SV W6 W.heap.size (.slice (some ⟨p1, 0, none⟩) s.R.length q1) (.slice (some ⟨p2, 0, none⟩) s.R.length q2) (.slice (some ⟨p3, 0, none⟩) s.R.length q3) M) := by
    show SV _ _ _ _ _ _
    rw [← hW6, ← HM.out]
    exact SV.set_ne (a := ⟨tb, 6, none⟩) HS5.out (fun g hg => by cases hg; dsimp only; omega) (fun g hg => by cases hg; dsimp only; omega) (fun g hg => by cases hg; dsimp only; omega) _
  have b6 : Below w.heap.size w W6 := by rw [← hW6]; exact b5.setCell (by dsimp only; omega) _
  have z6 : W5.heap.size ≤ W6.heap.size := by rw [← hW6]; simp
  clear hW6 HT5 HZ5 HS5 b5 HM t0 t1 t2 t3 t4 t5 t6 t7 t8 tf6 tl5 e6
  obtain ⟨t0, t1, t2, t3, t4, t5, t6, t7, t8⟩ := HT6.out.cells
  have tl6 : tb < W6.heap.size := HT6.out.lt
  have rl6 : w.heap.size + 1 + 1 < W6.heap.size := HZ6.out.lt
  have SA := HS6.out.1.at.1
  have BA := HS6.out.2.1.at.1
  by_cases hlt : M.nx < s.R.length
  · have c1 : W6.cell? ⟨p1, M.nx, none⟩ = some (.string (s.R.getD (M.nx) ⟨#[]⟩)) := by
      have := SA.cell (M.nx) (by rw [mR.out]; exact hlt)
      rw [this]
      simp only [mR.out]
      rw [List.getD_eq_getElem?_getD, List.getElem?_eq_getElem hlt]; rfl
    have HE : Hid (M.next = (M, cmdB 4 (s.R.getD (M.nx) ⟨#[]⟩))) := by
      show _ = _
      unfold Sn.next
      rw [mR.out, if_pos hlt]
    have hx : (s.R.getD (M.nx) ⟨#[]⟩).size ≤ 1048576 := by
      rw [List.getD_eq_getElem?_getD, List.getElem?_eq_getElem hlt]
      have := HK.out.rs _ (List.getElem_mem hlt)
      show (s.R[M.nx]).size ≤ _
      omega
    have pl1 : p1 < W6.heap.size := SA.lt
    generalize s.R.getD (M.nx) ⟨#[]⟩ = X at *
    clear SA BA
    go_upto_region 7 with fail
    go_region_with (first | (go_at_call 125; refine (specCommand 4 X _ hx).mono ?_; rintro e w7 ⟨rfl, hb7⟩; have HB7 : Hid (Below W6.heap.size W6 w7) := ((Below.refl W6.heap.size W6).drew).trans hb7; have HT7 : Hid (SB tb M (.slice (some ⟨p1, 0, none⟩) s.R.length q1) (.slice (some ⟨p2, 0, none⟩) s.R.length q2) (.slice (some ⟨p3, 0, none⟩) s.R.length q3) w7) := SB.below HT6.out HB7.out; obtain ⟨k0, k1, k2, k3, k4, k5, k6, k7, k8⟩ := HT7.out.cells; have k9 := (HB7.out.cell (p := ⟨p1, M.nx, none⟩) pl1).trans c1; have HZ7 : Hid (SB (w.heap.size + 1 + 1) sn0 (.slice none 0 0) (.slice none 0 0) (.slice none 0 0) w7) := SB.below HZ6.out HB7.out; obtain ⟨r0, r1, r2, r3, r4, r5, r6, r7, r8⟩ := HZ7.out.zero; obtain ⟨rf0, rf1, rf2, rf3, rf4, rf5, rf6, rf7, rf8⟩ := HZ7.out.frees; have zl : w.heap.size + 1 + 1 < w7.heap.size := HZ7.out.lt; clear hb7))
    all_goals
      have HS7 : Hid (SV w7 W.heap.size (.slice (some ⟨p1, 0, none⟩) s.R.length q1) (.slice (some ⟨p2, 0, none⟩) s.R.length q2) (.slice (some ⟨p3, 0, none⟩) s.R.length q3) M) := HS6.out.below HB7.out (Nat.le_refl _)
      have b7 : Below w.heap.size w w7 := b6.trans (HB7.out.mono b6.size)
      go_wp2
      refine bodyPost_ret (v := .tuple #[.agg #[.int .i64 M.ph, .string M.buf, .string M.he, .string M.fr, .string M.bo, (.slice (some ⟨p1, 0, none⟩) s.R.length q1), .int .i64 (M.nx : Int), (.slice (some ⟨p2, 0, none⟩) s.R.length q2), (.slice (some ⟨p3, 0, none⟩) s.R.length q3)], .string (cmdB 4 X)]) (by simp [results, Tryz.results124, go_sem, r0, r1, r2, r3, r4, r5, r6, r7, r8]) rfl ?_
      show SQ M.next _ _ _
      rw [HE.out]
      exact ⟨⟨_, _, _, rfl, (HS7.out.nine (b := w.heap.size + 1 + 1) (by omega) _ _ _ _ _ _ _ _ _).le (by omega)⟩, below_nine b7 (by omega) _ _ _ _ _ _ _ _ _⟩
  · have HF0 : Hid (∀ j, j < 0 → M.T[j]? = some false) := fun j hj => by omega
    have pl2 : p2 < W6.heap.size := BA.lt
    clear SA BA
    go_upto_region 9 with fail
    go_loopw [47] (fun kv wr => ∃ k : Nat, k ≤ s.R.length ∧ kv = .int .i64 k ∧ wr = W6 ∧ Hid (∀ j, j < k → M.T[j]? = some false)) (fun kv _ => s.R.length - (intOf kv).toNat)
    case atStart => exact ⟨0, Nat.zero_le _, rfl, rfl, HF0⟩
    case round =>
      obtain ⟨k, hk, rfl, hwr, HF⟩ := hrel
      have hwr2 := hwr.symm
      subst hwr2
      by_cases hlt2 : k < s.R.length
      · have hkt : k < M.T.length := by rw [mT.out]; exact hlt2
        have y0 := HS6.out.2.1.at.1.cell k hkt
        cases hb : M.T[k] with
        | true =>
          rw [hb] at y0
          have HE : Hid (M.next = (M.to 6, cmdB 5 ⟨#[]⟩)) := by
            show _ = _
            unfold Sn.next
            rw [mR.out, if_neg hlt, if_pos (hb ▸ List.getElem_mem hkt)]
          go_upto_region 12 with fail
          go_region_with (first | (go_at_call 125; refine (specCommand 5 ⟨#[]⟩ _ (by decide)).mono ?_; rintro e w7 ⟨rfl, hb7⟩; have HB7 : Hid (Below W6.heap.size W6 w7) := ((Below.refl W6.heap.size W6).drew).trans hb7; have HT7 : Hid (SB tb M (.slice (some ⟨p1, 0, none⟩) s.R.length q1) (.slice (some ⟨p2, 0, none⟩) s.R.length q2) (.slice (some ⟨p3, 0, none⟩) s.R.length q3) w7) := SB.below HT6.out HB7.out; obtain ⟨k0, k1, k2, k3, k4, k5, k6, k7, k8⟩ := HT7.out.cells; clear hb7) | (go_at_call 122; refine (specTo M 6 (cmdB 5 ⟨#[]⟩) _ _ _ W.heap.size _ mW.out (HS6.out.below HB7.out (Nat.le_refl _))).mono ?_; rintro e w8 ⟨⟨v1, v2, v3, rfl, S8⟩, hb8⟩; obtain ⟨p4, p5, p6, q4, q5, q6, y1, y2, y3⟩ : ∃ p4 p5 p6 q4 q5 q6, v1 = .slice (some ⟨p4, 0, none⟩) M.R.length q4 ∧ v2 = .slice (some ⟨p5, 0, none⟩) M.R.length q5 ∧ v3 = .slice (some ⟨p6, 0, none⟩) M.R.length q6 := S8.someW ⟨mW.out.t, mW.out.v, mW.out.r1, mW.out.r20⟩; subst y1; subst y2; subst y3; have HB8 : Hid (Below W6.heap.size W6 w8) := HB7.out.trans (hb8.mono HB7.out.size); have HZ8 : Hid (SB (w.heap.size + 1 + 1) sn0 (.slice none 0 0) (.slice none 0 0) (.slice none 0 0) w8) := SB.below HZ6.out HB8.out; obtain ⟨r0, r1, r2, r3, r4, r5, r6, r7, r8⟩ := HZ8.out.zero; obtain ⟨rf0, rf1, rf2, rf3, rf4, rf5, rf6, rf7, rf8⟩ := HZ8.out.frees; have zl : w.heap.size + 1 + 1 < w8.heap.size := HZ8.out.lt; have HS8 : Hid (SV w8 w7.heap.size (.slice (some ⟨p4, 0, none⟩) M.R.length q4) (.slice (some ⟨p5, 0, none⟩) M.R.length q5) (.slice (some ⟨p6, 0, none⟩) M.R.length q6) (M.to 6)) := S8; clear S8 hb8))
          all_goals
            have b8 : Below w.heap.size w w8 := b6.trans (HB8.out.mono b6.size)
            have z8 : w.heap.size + 1 + 1 < w7.heap.size := Nat.lt_of_lt_of_le rl6 HB7.out.size
            go_wp2
            refine bodyPost_ret (v := .tuple #[.agg #[.int .i64 6, .string M.buf, .string M.he, .string M.fr, .string M.bo, (.slice (some ⟨p4, 0, none⟩) M.R.length q4), .int .i64 (M.nx : Int), (.slice (some ⟨p5, 0, none⟩) M.R.length q5), (.slice (some ⟨p6, 0, none⟩) M.R.length q6)], .string (cmdB 5 ⟨#[]⟩)]) (by simp [results, Tryz.results124, go_sem, r0, r1, r2, r3, r4, r5, r6, r7, r8, Sn.to]) rfl ?_
            show SQ M.next _ _ _
            rw [HE.out]
            exact ⟨⟨_, _, _, rfl, (HS8.out.nine (b := w.heap.size + 1 + 1) z8 _ _ _ _ _ _ _ _ _).le (by omega)⟩, below_nine b8 (by omega) _ _ _ _ _ _ _ _ _⟩
        | false =>
          rw [hb] at y0
          have HF2 : Hid (∀ j, j < k + 1 → M.T[j]? = some false) := fun j hj => by
            by_cases e : j < k
            · exact HF.out j e
            · obtain rfl : j = k := by omega
              rw [List.getElem?_eq_getElem hkt, hb]
          go_wp2
          go_roundw
          case rel => exact ⟨k + 1, by omega, by go_num, by first | rfl | trivial, HF2⟩
          case measure => simp [intOf]; omega
      · obtain rfl : k = s.R.length := by omega
        have HE : Hid (M.next = (M.to 8, cmdB 6 ⟨#[]⟩)) := by
          show _ = _
          unfold Sn.next
          have hno : ¬ true ∈ M.T := fun hm => by
            obtain ⟨j, hj, e⟩ := List.getElem_of_mem hm
            have := HF.out j (by rw [← mT.out]; exact hj)
            rw [List.getElem?_eq_getElem hj, e] at this
            cases this
          rw [mR.out, if_neg hlt, if_neg hno]
          rfl
        go_upto_region 14 with fail
        go_region_with (first | (go_at_call 125; refine (specCommand 6 ⟨#[]⟩ _ (by decide)).mono ?_; rintro e w7 ⟨rfl, hb7⟩; have HB7 : Hid (Below W6.heap.size W6 w7) := ((Below.refl W6.heap.size W6).drew).trans hb7; have HT7 : Hid (SB tb M (.slice (some ⟨p1, 0, none⟩) s.R.length q1) (.slice (some ⟨p2, 0, none⟩) s.R.length q2) (.slice (some ⟨p3, 0, none⟩) s.R.length q3) w7) := SB.below HT6.out HB7.out; obtain ⟨k0, k1, k2, k3, k4, k5, k6, k7, k8⟩ := HT7.out.cells; clear hb7) | (go_at_call 122; refine (specTo M 8 (cmdB 6 ⟨#[]⟩) _ _ _ W.heap.size _ mW.out (HS6.out.below HB7.out (Nat.le_refl _))).mono ?_; rintro e w8 ⟨⟨v1, v2, v3, rfl, S8⟩, hb8⟩; obtain ⟨p4, p5, p6, q4, q5, q6, y1, y2, y3⟩ : ∃ p4 p5 p6 q4 q5 q6, v1 = .slice (some ⟨p4, 0, none⟩) M.R.length q4 ∧ v2 = .slice (some ⟨p5, 0, none⟩) M.R.length q5 ∧ v3 = .slice (some ⟨p6, 0, none⟩) M.R.length q6 := S8.someW ⟨mW.out.t, mW.out.v, mW.out.r1, mW.out.r20⟩; subst y1; subst y2; subst y3; have HB8 : Hid (Below W6.heap.size W6 w8) := HB7.out.trans (hb8.mono HB7.out.size); have HZ8 : Hid (SB (w.heap.size + 1 + 1) sn0 (.slice none 0 0) (.slice none 0 0) (.slice none 0 0) w8) := SB.below HZ6.out HB8.out; obtain ⟨r0, r1, r2, r3, r4, r5, r6, r7, r8⟩ := HZ8.out.zero; obtain ⟨rf0, rf1, rf2, rf3, rf4, rf5, rf6, rf7, rf8⟩ := HZ8.out.frees; have zl : w.heap.size + 1 + 1 < w8.heap.size := HZ8.out.lt; have HS8 : Hid (SV w8 w7.heap.size (.slice (some ⟨p4, 0, none⟩) M.R.length q4) (.slice (some ⟨p5, 0, none⟩) M.R.length q5) (.slice (some ⟨p6, 0, none⟩) M.R.length q6) (M.to 8)) := S8; clear S8 hb8))
        all_goals
          have b8 : Below w.heap.size w w8 := b6.trans (HB8.out.mono b6.size)
          have z8 : w.heap.size + 1 + 1 < w7.heap.size := Nat.lt_of_lt_of_le rl6 HB7.out.size
          go_wp2
          refine bodyPost_ret (v := .tuple #[.agg #[.int .i64 8, .string M.buf, .string M.he, .string M.fr, .string M.bo, (.slice (some ⟨p4, 0, none⟩) M.R.length q4), .int .i64 (M.nx : Int), (.slice (some ⟨p5, 0, none⟩) M.R.length q5), (.slice (some ⟨p6, 0, none⟩) M.R.length q6)], .string (cmdB 6 ⟨#[]⟩)]) (by simp [results, Tryz.results124, go_sem, r0, r1, r2, r3, r4, r5, r6, r7, r8, Sn.to]) rfl ?_
          show SQ M.next _ _ _
          rw [HE.out]
          exact ⟨⟨_, _, _, rfl, (HS8.out.nine (b := w.heap.size + 1 + 1) z8 _ _ _ _ _ _ _ _ _).le (by omega)⟩, below_nine b8 (by omega) _ _ _ _ _ _ _ _ _⟩

end Go.Proofs.YtngcjlghjidnjaaGreatDoor
