import Derived.Test.YtnbbhegcijogiaaDoorRtM
import Derived.Test.YtnbbhegcijogiaaDoorArgS
import Derived.Test.YtnbbhegcijogiaaDoorCrcImpl
import Derived.Test.YtnbbhegcijogiaaDoorWord
import Derived.Test.YtnbbhegcijogiaaDoorDom
import Derived.Deep.AppendLies
import Derived.Deep.RegionHeld3
namespace Go.Proofs.YtnbbhegcijogiaaDoor
open Go.ChangeShapes Go.WideShapes Go.ChangeAt Go.RowKit
attribute [local go_sem ↓] Go.wp_at_zero Go.wp_at_succ

/-- an exchanger: its preference and its host -/
abbrev Mx := Int × ByteArray
/-- a slice of exchangers that can be read -/
def ArgM (w : World) (v : Value) (L : List Mx) : Prop :=
  L.length ≤ maxLen ∧ (∀ x ∈ L, x.2.size ≤ maxLen) ∧ ((L = [] ∧ ∃ a c, v = .slice a 0 c) ∨ ∃ b off cap, v = .slice (some ⟨b, off, none⟩) L.length cap ∧ L.length ≤ cap ∧ b < w.heap.size ∧ ∀ i (hi : i < L.length), w.cell? ⟨b, off + i * 2, none⟩ = some (.int .i64 L[i].1) ∧ w.cell? ⟨b, off + i * 2 + 1, none⟩ = some (.string L[i].2))
theorem ArgM.below {w w1 : World} {v : Value} {L : List Mx} (h : ArgM w v L) (hb : Below w.heap.size w w1) : ArgM w1 v L := by
  refine ⟨h.1, h.2.1, ?_⟩
  rcases h.2.2 with h0 | ⟨b, off, cap, hv, hc0, hlt, hc⟩
  · exact .inl h0
  · exact .inr ⟨b, off, cap, hv, hc0, Nat.lt_of_lt_of_le hlt hb.size, fun i hi => ⟨(hb.cell (p := ⟨b, off + i * 2, none⟩) hlt).trans (hc i hi).1, (hb.cell (p := ⟨b, off + i * 2 + 1, none⟩) hlt).trans (hc i hi).2⟩⟩
theorem ArgM.form {w : World} {v : Value} {L : List Mx} (h : ArgM w v L) : ∃ a c, v = .slice a L.length c := by
  rcases h.2.2 with ⟨rfl, a, c, rfl⟩ | ⟨b, off, cap, rfl, _⟩
  · exact ⟨_, _, rfl⟩
  · exact ⟨_, _, rfl⟩

def rkRow (L : List Rk) : List Value := (L.map rkEnc).flatten
theorem rkRow_len : ∀ L : List Rk, (rkRow L).length = 3 * L.length
  | [] => rfl
  | x :: L => by
    have := rkRow_len L
    unfold rkRow at *
    simp only [List.map_cons, List.flatten_cons, List.length_append, rkEnc, List.length_cons, List.length_nil] at *
    omega
theorem rkRow_snoc (L : List Rk) (x : Rk) : rkRow (L ++ [x]) = rkRow L ++ rkEnc x := by unfold rkRow; simp
/-- a row of ranked exchangers -/
def Rks (w : World) (lo : Nat) (v : Value) (L : List Rk) : Prop := w.ownsRow lo 70 3 v L.length (rkRow L)
theorem rkRow_get : ∀ (L : List Rk) (i : Nat) (h : i < L.length), (rkRow L)[i * 3]? = some (.int .i64 L[i].1) ∧ (rkRow L)[i * 3 + 1]? = some (.int .u32 L[i].2.1) ∧ (rkRow L)[i * 3 + 2]? = some (.string L[i].2.2)
  | v :: L, 0, _ => ⟨rfl, rfl, rfl⟩
  | v :: L, i + 1, h => by
    have := rkRow_get L i (by simpa using h)
    have e : ∀ j, (rkRow (v :: L))[j + 3]? = (rkRow L)[j]? := fun j => rfl
    rw [show (i + 1) * 3 = i * 3 + 3 by omega, show i * 3 + 3 + 1 = (i * 3 + 1) + 3 by omega, show i * 3 + 3 + 2 = (i * 3 + 2) + 3 by omega, e, e, e]
    exact this
structure RksAt (w : World) (lo g cap : Nat) (L : List Rk) : Prop where
  lo : lo ≤ g
  lt : g < w.heap.size
  len : L.length ≤ cap
  capm : cap ≤ maxLen
  cell : ∀ i (hi : i < L.length), w.cell? ⟨g, i * 3, none⟩ = some (.int .i64 L[i].1) ∧ w.cell? ⟨g, i * 3 + 1, none⟩ = some (.int .u32 L[i].2.1) ∧ w.cell? ⟨g, i * 3 + 2, none⟩ = some (.string L[i].2.2)
  ex : ∃ cur : Array Value, w.heap[g]? = some (.cells cur 70) ∧ cur.size = cap * 3 ∧ cur.toList.take (L.length * 3) = rkRow L
theorem Rks.cases {w : World} {lo : Nat} {v : Value} {L : List Rk} (h : Rks w lo v L) :
    (v = .slice none 0 0 ∧ L = []) ∨ ∃ g cap, v = .slice (some ⟨g, 0, none⟩) L.length cap ∧ RksAt w lo g cap L := by
  rcases h.2 with ⟨hv, h0⟩ | ⟨g, cap, cur, hv, hb, hg, hn, hc, hs, ht⟩
  · exact .inl ⟨hv, List.eq_nil_of_length_eq_zero h0⟩
  · refine .inr ⟨g, cap, hv, hb, (Array.getElem?_eq_some_iff.1 hg).1, hn, hc, ?_, ⟨cur, hg, hs, ht⟩⟩
    intro i hi
    have key : ∀ j, j < L.length * 3 → ∀ x, (rkRow L)[j]? = some x → w.cell? ⟨g, j, none⟩ = some x := by
      intro j hj x hx
      have h1 : (cur.toList.take (L.length * 3))[j]? = some x := by rw [ht]; exact hx
      rw [List.getElem?_take_of_lt hj] at h1
      have h2 : cur[j]? = some x := by simpa using h1
      simp [World.cell?, hg, h2]
    obtain ⟨e0, e1, e2⟩ := rkRow_get L i hi
    exact ⟨key _ (by omega) _ e0, key _ (by omega) _ e1, key _ (by omega) _ e2⟩
theorem rks_below {w w' : World} {lo : Nat} {v : Value} {L : List Rk} (h : Rks w lo v L) {B : Nat} (hb : Below B w w') (hB : w.heap.size ≤ B) : Rks w' lo v L := by
  refine ⟨h.1, ?_⟩
  rcases h.2 with h0 | ⟨g, cap, cur, hv, hl, hg, rest⟩
  · exact .inl h0
  · refine .inr ⟨g, cap, cur, hv, hl, ?_, rest⟩
    rw [hb.block g (Nat.lt_of_lt_of_le (Array.getElem?_eq_some_iff.1 hg).1 hB)]; exact hg
theorem rks_lo {w : World} {lo : Nat} {v : Value} {L : List Rk} (h : Rks w lo v L) : ∀ g, v.ownBlock = some g → lo ≤ g := by
  intro g hg
  rcases h.cases with ⟨rfl, _⟩ | ⟨g', cap, rfl, hs⟩
  · simp [Value.ownBlock] at hg
  · simp only [Value.ownBlock, Option.some.injEq] at hg
    subst hg; exact hs.lo
theorem infoRk : (Tryd.prog.info? 70).map (fun i => (i.zero, i.size, i.bytes)) = some (some (.agg #[.int .i64 0, .int .u32 0, .string ⟨#[]⟩]), 3, 32) := by kernel_rfl

/-- an exchanger that counts -/
def mxOk (m : Mx) : Bool := decide (0 ≤ m.1) && (decide (m.1 ≤ 65535) && domOk m.2)
def tieOf (seed : Nat) (h : ByteArray) : Int := (Crc.crc (word seed ++ h.data.toList) : Nat)
def rkOf (seed : Nat) (m : Mx) : Rk := (m.1, tieOf seed m.2, m.2)
def rankN (seed : Nat) (L : List Mx) (k : Nat) : List Rk := ((L.take k).filter mxOk).map (rkOf seed)
theorem rank_step {seed k : Nat} {L : List Mx} (h : k < L.length) : rankN seed L (k + 1) = rankN seed L k ++ (if mxOk L[k] then [rkOf seed L[k]] else []) := by
  unfold rankN
  rw [List.take_add_one, List.getElem?_eq_getElem h, Option.toList_some, List.filter_append, List.map_append]
  congr 1
  by_cases hm : mxOk L[k] = true
  · rw [if_pos hm, List.filter_cons_of_pos hm]; rfl
  · rw [if_neg hm, List.filter_cons_of_neg hm]; rfl
theorem rank_yes {seed k : Nat} {L : List Mx} (h : k < L.length) (hm : mxOk L[k] = true) : rankN seed L (k + 1) = rankN seed L k ++ [rkOf seed L[k]] := by rw [rank_step h, if_pos hm]
theorem rank_no {seed k : Nat} {L : List Mx} (h : k < L.length) (hm : mxOk L[k] = false) : rankN seed L (k + 1) = rankN seed L k := by rw [rank_step h, if_neg (by rw [hm]; decide), List.append_nil]
theorem rank_len (seed k : Nat) (L : List Mx) : (rankN seed L k).length ≤ k := by
  unfold rankN
  rw [List.length_map]
  exact Nat.le_trans (List.length_filter_le _ _) (by rw [List.length_take]; omega)
theorem word_size (n : Nat) : (⟨(word n).toArray⟩ : ByteArray).size = 4 := rfl
theorem tie_eq (seed : Nat) (h : ByteArray) : (Crc.crc ((⟨(word seed).toArray⟩ : ByteArray) ++ h).data.toList : Int) = tieOf seed h := by
  unfold tieOf
  rw [ByteArray.data_append]; simp

theorem lk_newR (W : World) (o : Obj) (k : Nat) (hk : k = W.heap.size) : (W.alloc o).heap[k]? = some o := by subst hk; exact (MapKept.heap_alloc W o).1
theorem block_lt_of {w : World} {b o : Nat} {v : Value} (h : w.cell? ⟨b, o, none⟩ = some v) : b < w.heap.size := World.block_lt_of_cell? w ⟨b, o, none⟩ h

set_option maxHeartbeats 4000000 in
set_option maxRecDepth 100000 in
theorem implRank (v : Value) (L : List Mx) (seed : Nat) (w : World) (h : ArgM w v L) (hsz : ∀ x ∈ L, x.2.size ≤ 1048576) (hseed : seed < 4294967296) (hl : LenIn w) (ht : TabIn w) (hL1 : 1 ≤ L.length) :
    Calls Tryd.prog 24 #[v, .int .u32 seed] w fun e w' => (∃ v', e = .returned v' ∧ Rks w' w.heap.size v' (rankN seed L 32)) ∧ Below w.heap.size w w' := by
  have HL : Hid (LenIn w) := hl
  have HT : Hid (TabIn w) := ht
  have HSZ : Hid (∀ x ∈ L, x.2.size ≤ 1048576) := hsz
  have hm := h.1
  unfold maxLen at hm
  obtain ⟨b, off, cap, rfl, hcap, hlt, hc⟩ : ∃ b off cap, v = .slice (some ⟨b, off, none⟩) L.length cap ∧ L.length ≤ cap ∧ b < w.heap.size ∧ ∀ i (hi : i < L.length), w.cell? ⟨b, off + i * 2, none⟩ = some (.int .i64 L[i].1) ∧ w.cell? ⟨b, off + i * 2 + 1, none⟩ = some (.string L[i].2) := by
    rcases h.2.2 with ⟨rfl, _⟩ | h
    · simp at hL1
    · exact h
  have HC : Hid (∀ i (hi : i < L.length), w.cell? ⟨b, off + i * 2, none⟩ = some (.int .i64 L[i].1) ∧ w.cell? ⟨b, off + i * 2 + 1, none⟩ = some (.string L[i].2)) := hc
  have HIW0 : ∀ wx : World, Calls Tryd.prog 38 #[.int .u32 (seed : Int)] wx fun e w' => e = .returned (.string ⟨(word seed).toArray⟩) ∧ Below wx.heap.size wx w' := fun wx => implWord seed hseed wx
  clear h hc hl ht hsz
  obtain ⟨n, hn, hn32, hnL, hnE⟩ : ∃ n : Nat, min (32 : Int) (L.length : Int) = (n : Int) ∧ n ≤ 32 ∧ n ≤ L.length ∧ (n = 32 ∨ n = L.length) := ⟨min 32 L.length, by omega, by omega, by omega, by omega⟩
  obtain ⟨i0, hi, hz0, hz1, hz2⟩ := info_parts infoRk
  have HE : Hid (rankN seed L n = rankN seed L 32) := by
    rcases hnE with h | h
    · rw [h]; rfl
    · show _ = _
      unfold rankN
      rw [h, List.take_length, List.take_of_length_le (by omega)]
  go_enter Tryd.func24, Tryd.ntmps24
  go_wp2
  go_loopw [5, 15] (fun uv iv wr => ∃ k : Nat, k ≤ n ∧ iv = .int .i64 k ∧ Hid (Rks wr w.heap.size uv (rankN seed L k)) ∧ Hid (Below w.heap.size w wr)) (fun _ iv _ => n - (intOf iv).toNat)
  case atStart => exact ⟨0, Nat.zero_le _, rfl, ⟨by rfl, .inl ⟨rfl, rfl⟩⟩, Below.refl _ _⟩
  case round =>
    obtain ⟨k, hk, rfl, HR, HB⟩ := hrel
    by_cases hlt2 : k < n
    · have hkL : k < L.length := by omega
      obtain ⟨c0, c1⟩ := HC.out k hkL
      have x0 := (HB.out.cell (p := ⟨b, off + k * 2, none⟩) hlt).trans c0
      have x1 := (HB.out.cell (p := ⟨b, off + k * 2 + 1, none⟩) hlt).trans c1
      have hX := HSZ.out _ (List.getElem_mem hkL)
      have HY : Hid (mxOk L[k] = true → rankN seed L (k + 1) = rankN seed L k ++ [rkOf seed L[k]]) := rank_yes hkL
      have HN : Hid (mxOk L[k] = false → rankN seed L (k + 1) = rankN seed L k) := rank_no hkL
      have HML : Hid ((rankN seed L k).length ≤ k) := rank_len seed k L
      have hzr := HB.out.size
      clear c0 c1
      generalize L[k] = X at *
      have HM : Hid (mxOk X = (decide (0 ≤ X.1) && (decide (X.1 ≤ 65535) && domOk X.2))) := rfl
      by_cases p0 : X.1 < 0
      · have G : Hid (rankN seed L (k + 1) = rankN seed L k) := HN.out (by rw [HM.out, decide_eq_false (by omega)]; rfl)
        go_wp2
        go_roundw
        case rel => exact ⟨k + 1, by omega, by go_num, by show Rks _ _ _ _; rw [G.out]; exact rks_below HR.out (below1 _ _) (Nat.le_refl _), HB.out.trans ((below1 _ _).mono hzr)⟩
        case measure => simp [intOf]; omega
      · by_cases p1 : 65535 < X.1
        · have G : Hid (rankN seed L (k + 1) = rankN seed L k) := HN.out (by rw [HM.out, decide_eq_false (show ¬ X.1 ≤ 65535 by omega)]; simp)
          go_wp2
          go_roundw
          case rel => exact ⟨k + 1, by omega, by go_num, by show Rks _ _ _ _; rw [G.out]; exact rks_below HR.out (below1 _ _) (Nat.le_refl _), HB.out.trans ((below1 _ _).mono hzr)⟩
          case measure => simp [intOf]; omega
        · go_wp2_with fail
          generalize hW : wr.alloc _ = W
          have hbW : Hid (Below wr.heap.size wr W) := by show Below _ _ _; rw [← hW]; exact below1 _ _
          have m0 : W.cell? ⟨wr.heap.size, 0, none⟩ = some (.int .i64 X.1) := by rw [← hW]; exact World.cell?_alloc_mark _ _ _ _ _
          have m1 : W.cell? ⟨wr.heap.size, 1, none⟩ = some (.string X.2) := by rw [← hW]; exact World.cell?_alloc_mark _ _ _ _ _
          have hWz : wr.heap.size < W.heap.size := by rw [← hW]; simp
          clear hW
          refine (implDomain X.2 _ (len_below HL.out (HB.out.trans (hbW.out.mono hzr))) hX).mono ?_
          rintro e w1 ⟨rfl, hb1⟩
          have n0 := (hb1.cell (p := ⟨wr.heap.size, 0, none⟩) hWz).trans m0
          have n1 := (hb1.cell (p := ⟨wr.heap.size, 1, none⟩) hWz).trans m1
          have hz1' := hb1.size
          have HB1 : Hid (Below wr.heap.size wr w1) := hbW.out.trans (hb1.mono hbW.out.size)
          clear hbW hb1 m0 m1 x0 x1
          cases hd : domOk X.2 with
          | false =>
            have G : Hid (rankN seed L (k + 1) = rankN seed L k) := HN.out (by rw [HM.out, hd]; simp)
            clear hd
            go_wp2
            go_roundw
            case rel => exact ⟨k + 1, by omega, by go_num, by show Rks _ _ _ _; rw [G.out]; exact rks_below HR.out HB1.out (Nat.le_refl _), HB.out.trans (HB1.out.mono hzr)⟩
            case measure => simp [intOf]; omega
          | true =>
            have G : Hid (rankN seed L (k + 1) = rankN seed L k ++ [rkOf seed X]) := HY.out (by rw [HM.out, hd, decide_eq_true (by omega), decide_eq_true (by omega)]; rfl)
            clear hd
            go_upto_region 6 with fail
            have HTX : Hid (∀ wx : World, Below w1.heap.size w1 wx → TabIn wx) := fun wx hx i hi =>
              ((HB.out.trans (HB1.out.mono hzr)).trans (hx.mono (by have := HB.out.size; omega)) |>.cell (p := ⟨0, i, none⟩) (block_lt_of (HT.out i hi))).trans (HT.out i hi)
            have hw4 := word_size seed
            have HTE : Hid (∀ h : ByteArray, (Crc.crc ((⟨(word seed).toArray⟩ : ByteArray) ++ h).data.toList : Int) = tieOf seed h) := tie_eq seed
            generalize (⟨(word seed).toArray⟩ : ByteArray) = WS at *
            have HIW : Hid (∀ wx : World, Calls Tryd.prog 38 #[.int .u32 (seed : Int)] wx fun e w' => e = .returned (.string WS) ∧ Below wx.heap.size wx w') := HIW0
            have hsum : WS.size + X.2.size ≤ 9223372036854775807 := by omega
            have hadd : ∀ wx : World, (Op.stringOp .add WS X.2).run Tryd.prog wx = .ok (.string (WS ++ X.2)) wx := fun wx => run_string_add_sum wx WS X.2 hsum
            have HSM : Hid (WS.size + X.2.size ≤ maxLen) := by unfold maxLen; exact hsum
            clear hw4
            go_region_held3 (fun w' => w'.cell? ⟨wr.heap.size, 1, none⟩ = some (.string X.2)) (first | assumption | go_keep) (first | (go_at_call 38; refine (HIW.out _).mono ?_; rintro e w5 ⟨rfl, hb5⟩; have HB5 : Hid (Below w1.heap.size w1 w5) := ((Below.refl w1.heap.size w1).drew).trans hb5; have k1 := (HB5.out.cell (p := ⟨wr.heap.size, 1, none⟩) (by show wr.heap.size < _; omega)).trans n1; have k0 := (HB5.out.cell (p := ⟨wr.heap.size, 0, none⟩) (by show wr.heap.size < _; omega)).trans n0; clear hb5) | (go_at_call 37; refine (implCrc _ _ ?_ (HTX.out _ HB5.out)).mono ?_; rw [ByteArray.size_append]; exact HSM.out; rintro e w6 ⟨rfl, hw6⟩; rw [hw6, HTE.out]))
            have HZ5 : Hid (w1.heap.size ≤ w5.heap.size) := HB5.out.size
            have HR5 : Hid (Rks w5 w.heap.size u5 (rankN seed L k)) := rks_below (rks_below HR.out HB1.out (Nat.le_refl _)) HB5.out (Nat.le_refl _)
            have HBB : Hid (Below w.heap.size w w5) := (HB.out.trans (HB1.out.mono hzr)).trans (HB5.out.mono (by have := HB.out.size; omega))
            have hlos := rks_lo HR5.out
            have hown' : w5.ownsRow w.heap.size 70 3 u5 (rankN seed L k).length (rkRow (rankN seed L k)) := HR5.out
            have hml := HML.out
            have hz5 := HZ5.out
            have HG2 : Hid (rankN seed L (k + 1) = rankN seed L k ++ [(X.1, tieOf seed X.2, X.2)]) := G.out
            generalize rankN seed L k = acc at *
            generalize tieOf seed X.2 = TI at *
            go_wp2_with (at_builtin; refine wpList_append_lies _ rfl _ _ 55 rfl w.heap.size 70 i0 (.agg #[.int .i64 0, .int .u32 0, .string ⟨#[]⟩]) 3 32 Tryd.underlying55 hi hz0 hz1 hz2 rfl (by decide) _ _ _ rfl (hown'.alloc _) ⟨w5.heap.size, 0, none⟩ 1 1 [.int .i64 X.1, .int .u32 TI, .string X.2] rfl rfl ?c1 ?c2 ?c3 ?c4 ?c5 ?c6 (w5.heap.size + 1) ?c7 ?_)
            case c1 =>
              intro j u hj
              exact World.news_of_block (lk_newR _ _ _ rfl) j u (by simpa using hj)
            case c2 => intro u hu; simp at hu; rcases hu with rfl | rfl | rfl <;> rfl
            case c3 => decide
            case c4 => unfold maxLen; omega
            case c5 => omega
            case c6 => simp; omega
            case c7 => simp
            intro g cap2 w7 hown7 hgrow hat hlt7
            have HR7 : Hid (Rks w7 w.heap.size (.slice (some ⟨g, 0, none⟩) (acc.length + 1) cap2) (acc ++ [(X.1, TI, X.2)])) := by
              show Rks _ _ _ _
              unfold Rks
              rw [rkRow_snoc, List.length_append]
              exact hown7
            have HB7 : Hid (Below w.heap.size w w7) := (HBB.out.alloc (by have := HBB.out.size; omega) _).grown hgrow (by simp; have := HBB.out.size; omega) hlos
            clear hown7 hgrow hat hown' hlos
            go_wp2
            go_roundw
            case rel => exact ⟨k + 1, by omega, by go_num, by show Rks _ _ _ _; rw [HG2.out]; exact HR7.out, HB7⟩
            case measure => simp [intOf]; omega
    · obtain rfl : k = n := by omega
      go_wp2
      go_ret
      exact ⟨⟨_, rfl, by rw [← HE.out]; exact HR.out⟩, HB.out⟩
end Go.Proofs.YtnbbhegcijogiaaDoor
