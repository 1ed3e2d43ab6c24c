import Derived.Test.YtngcjlghjidnjaaGreatDoorMg4
import Derived.Shelf.Strings.Cut
import Derived.Test.YtngcjlghjidnjaaGreatDoorMg6
import Derived.Deep.AppendLies
import Derived.Deep.DeepCutAuto
namespace Go.Proofs.YtngcjlghjidnjaaGreatDoor
open Go.ChangeShapes Go.WideShapes Go.ChangeAt Go.RowKit
open Pcs

/-- what strings.Cut answers -/
def CutIs (s sep a b : ByteArray) (f : Bool) : Prop := mk (Lib.cut s.data.toList sep.data.toList).1 = a ∧ mk (Lib.cut s.data.toList sep.data.toList).2.1 = b ∧ (Lib.cut s.data.toList sep.data.toList).2.2 = f
theorem cut_size1 (s sep : ByteArray) : (mk (Lib.cut s.data.toList sep.data.toList).1).size ≤ s.size := by
  unfold Lib.cut; split
  · rw [mk_size, List.length_take, Lib.size_eq]; omega
  · rw [mk_size, Lib.size_eq]; exact Nat.le_refl _
theorem cut_size2 (s sep : ByteArray) : (mk (Lib.cut s.data.toList sep.data.toList).2.1).size ≤ s.size := by
  unfold Lib.cut; split
  · rw [mk_size, List.length_drop, Lib.size_eq]; omega
  · rw [mk_size]; exact Nat.zero_le _
theorem implCut (s sep : ByteArray) (w : World) (hl : LenIn w) (hs : s.size ≤ 1048576) :
    Calls Tryz.prog 92 #[.string s, .string sep] w fun e w' => ∃ (a b : ByteArray) (f : Bool) (n : Nat), e = .returned (.tuple #[.string a, .string b, .bool f]) ∧ w' = w.drewN n ∧ Hid (CutIs s sep a b f) ∧ a.size ≤ s.size ∧ b.size ≤ s.size := by
  obtain ⟨m, hm⟩ := hl
  refine (Any.strings_Cut Tryz.lays145 s sep m w (by omega) hm).mono ?_
  rintro e w' ⟨rfl, n, rfl⟩
  exact ⟨_, _, _, n, rfl, rfl, ⟨rfl, rfl, rfl⟩, cut_size1 s sep, cut_size2 s sep⟩
theorem cut_cases {s sep a b : ByteArray} {f : Bool} (h : CutIs s sep a b f) : (f = false ∧ Lib.index s.data.toList sep.data.toList = -1) ∨ (f = true ∧ ∃ i : Nat, Lib.index s.data.toList sep.data.toList = i ∧ mk (s.data.toList.take i) = a) := by
  obtain ⟨h1, _, h3⟩ := h
  have hg := Lib.index_ge s.data.toList sep.data.toList
  unfold Lib.cut at h1 h3
  split at h3
  · rename_i hp
    right
    rw [if_pos hp] at h1
    exact ⟨h3.symm, (Lib.index s.data.toList sep.data.toList).toNat, by omega, h1⟩
  · left
    exact ⟨h3.symm, by omega⟩
end Go.Proofs.YtngcjlghjidnjaaGreatDoor
namespace Go.Proofs.YtngcjlghjidnjaaGreatDoor
open Go.ChangeShapes Go.WideShapes Go.ChangeAt Go.RowKit
open Pcs

/-- a right line whose code is that of the lines ahead, if there are such -/
def okL (l cs : ByteArray) : Bool := lineR l && (decide (cs.size = 0) || decide (l.extract 0 3 = cs))
/-- what readLine answers -/
def RdOut (r cs content : ByteArray) (st : Nat) : Prop :=
  (Lib.index r.data.toList [13, 10] = -1 ∧ st = (if moreN r then 0 else 1)) ∨
  ∃ (i : Nat) (l : ByteArray), Lib.index r.data.toList [13, 10] = i ∧ mk (r.data.toList.take i) = l ∧ ((okL l cs = false ∧ st = 1) ∨ (okL l cs = true ∧ content = l ∧ st = if lastN l then 3 else 2))
theorem drew_below' {B : Nat} {w wr : World} (h : Below B w wr) (n : Nat) : Below B w (wr.drewN n) := ⟨h.os, h.tape, h.output, h.size, h.block⟩
theorem lineR_three {l : ByteArray} (h : lineR l = true) : 3 ≤ l.size := by
  unfold lineR at h
  simp only [Bool.and_eq_true, decide_eq_true_eq] at h
  exact h.2.2.1
theorem empty_of' {x : ByteArray} (h : x.size = 0) : x = ByteArray.empty := by
  obtain ⟨d⟩ := x
  change d.size = 0 at h
  rw [Array.size_eq_zero_iff] at h
  subst h; rfl
theorem list_ne' {x : ByteArray} (h : x.size ≠ 0) : x.toList.isEmpty = false := by
  rw [ByteArray.toList_eq]
  cases e : x.data.toList with
  | nil =>
    have := Lib.size_eq x
    rw [e, List.length_nil] at this; omega
  | cons a l => rfl
theorem str_ne' {a b : ByteArray} (h : a ≠ b) : (a.toList == b.toList) = false := by
  rw [beq_eq_false_iff_ne, Lib.toList_data, Lib.toList_data]
  intro e; exact h (by rw [← mk_data a, ← mk_data b, e])

set_option maxHeartbeats 4000000 in
set_option maxRecDepth 100000 in
theorem implRead (r cs : ByteArray) (w : World) (hl : LenIn w) (hs : r.size ≤ 1048576) :
    Calls Tryz.prog 109 #[.string r, .string cs] w fun e w' => (∃ (content : ByteArray) (st : Nat), e = .returned (.tuple #[.string content, .int .i64 (st : Int)]) ∧ RdOut r cs content st) ∧ Below w.heap.size w w' := by
  have HL : Hid (LenIn w) := hl
  clear hl
  go_enter Tryz.func109, Tryz.ntmps109
  go_wp2_with fail
  refine (implCut r _ _ HL.out hs).mono ?_
  rintro e w1 ⟨a, b, f, n, rfl, rfl, HC, ha, hb⟩
  rcases cut_cases HC.out with ⟨rfl, hi⟩ | ⟨rfl, i, hi, hl⟩
  · have HI : Hid (Lib.index r.data.toList [13, 10] = -1) := hi
    clear hi HC
    go_wp2_with fail
    refine (implMore r _ hs).mono ?_
    rintro e w2 ⟨rfl, hb2⟩
    have HB2 : Hid (Below w.heap.size w w2) := ((drew_below' (Below.refl _ w) n)).trans hb2
    cases hm : moreN r with
    | true =>
      have G : Hid (RdOut r cs ⟨#[]⟩ 0) := .inl ⟨HI.out, by rw [hm]; rfl⟩
      clear hb2 hm
      go_wp2
      go_ret2
      exact ⟨⟨_, 0, rfl, G.out⟩, HB2.out⟩
    | false =>
      have G : Hid (RdOut r cs ⟨#[]⟩ 1) := .inl ⟨HI.out, by rw [hm]; rfl⟩
      clear hb2 hm
      go_wp2
      go_ret2
      exact ⟨⟨_, 1, rfl, G.out⟩, HB2.out⟩
  · have HI : Hid (Lib.index r.data.toList [13, 10] = i) := hi
    have HA : Hid (mk (r.data.toList.take i) = a) := hl
    have ha' : a.size ≤ 1048576 := Nat.le_trans ha hs
    clear hi hl HC
    go_wp2_with fail
    refine (implRight a _ ha').mono ?_
    rintro e w2 ⟨rfl, hb2⟩
    have HB2 : Hid (Below w.heap.size w w2) := ((drew_below' (Below.refl _ w) n)).trans hb2
    clear hb2
    have BAD : Hid (okL a cs = false → RdOut r cs ⟨#[]⟩ 1) := fun h => .inr ⟨i, a, HI.out, HA.out, .inl ⟨h, rfl⟩⟩
    have GOOD : Hid (okL a cs = true → ∀ st, st = (if lastN a then 3 else 2) → RdOut r cs a st) := fun h st hst => .inr ⟨i, a, HI.out, HA.out, .inr ⟨h, rfl, hst⟩⟩
    cases hr : lineR a with
    | false =>
      have G : Hid (RdOut r cs ⟨#[]⟩ 1) := BAD.out (by unfold okL; rw [hr]; rfl)
      clear hr BAD GOOD
      go_wp2
      go_ret2
      exact ⟨⟨_, 1, rfl, G.out⟩, HB2.out⟩
    | true =>
      have h3 := lineR_three hr
      have h3i : (3 : Int) ≤ a.size := by omega
      have key : ∀ (hok : okL a cs = true), Hid ((3 < a.size → byteOf a 3 = 45 → RdOut r cs a 2) ∧ (a.size = 3 → RdOut r cs a 3) ∧ (3 < a.size → byteOf a 3 ≠ 45 → RdOut r cs a 3)) := by
        intro hok
        refine ⟨fun h1 h2 => GOOD.out hok 2 ?_, fun h1 => GOOD.out hok 3 ?_, fun h1 h2 => GOOD.out hok 3 ?_⟩
        · have : lastN a = false := by unfold lastN; rw [decide_eq_false (by omega), h2]; rfl
          rw [this]; rfl
        · have : lastN a = true := by unfold lastN; rw [decide_eq_true h1]; rfl
          rw [this]; rfl
        · have : lastN a = true := by
            unfold lineR at hr
            simp only [Bool.and_eq_true, decide_eq_true_eq, Bool.or_eq_true, beq_iff_eq] at hr
            have h5 := hr.2.2.2.2.2.2.2.2
            unfold lastN
            rcases h5 with h5 | h5 | h5
            · rw [decide_eq_true h5]; rfl
            · rw [h5]; simp
            · exact absurd h5 h2
          rw [this]; rfl
      have fin : ∀ (hok : okL a cs = true), True := fun _ => trivial
      clear fin
      by_cases hc0 : cs.size = 0
      · obtain rfl := empty_of' hc0
        obtain K := key (by unfold okL; rw [hr, decide_eq_true hc0]; rfl)
        clear key BAD GOOD hr hc0
        by_cases he3 : (3 : Int) < a.size
        · have h4 : 3 < a.size := by omega
          have B3 := byteOf_eq a 3 h4
          by_cases h45 : ((a[3]'h4).toNat : Int) = 45
          · have G : Hid (RdOut r ByteArray.empty a 2) := K.out.1 h4 (by omega)
            clear K B3
            go_wp2
            go_ret2
            exact ⟨⟨_, 2, rfl, G.out⟩, HB2.out⟩
          · have h45b : (((a[3]'h4).toNat : Int) == 45) = false := beq_eq_false_iff_ne.2 h45
            have G : Hid (RdOut r ByteArray.empty a 3) := K.out.2.2 h4 (by omega)
            clear K B3
            go_wp2
            go_ret2
            exact ⟨⟨_, 3, rfl, G.out⟩, HB2.out⟩
        · have G : Hid (RdOut r ByteArray.empty a 3) := K.out.2.1 (by omega)
          clear K
          go_wp2
          go_ret2
          exact ⟨⟨_, 3, rfl, G.out⟩, HB2.out⟩
      · have hne := list_ne' hc0
        by_cases hq : a.extract 0 3 = cs
        · have K := key (by unfold okL; rw [hr, decide_eq_true hq]; simp)
          have Hq : Hid (a.extract 0 3 = cs) := hq
          clear key BAD GOOD hr hq
          have hsl : ∀ wx, (Instr.slice 9 (.string a) none (some (.int .i64 3)) none).run Tryz.prog wx = .ok (.string cs) wx := by
            intro wx
            rw [run_slice_string_to_if wx 9 a .i64 3 Tryz.underlying9, if_pos (by omega), ← Hq.out]
            rfl
          have hsq : (cs.toList == cs.toList) = true := by simp
          by_cases he3 : (3 : Int) < a.size
          · have h4 : 3 < a.size := by omega
            have B3 := byteOf_eq a 3 h4
            by_cases h45 : ((a[3]'h4).toNat : Int) = 45
            · have G : Hid (RdOut r cs a 2) := K.out.1 h4 (by omega)
              clear K B3
              go_wp2
              go_ret2
              exact ⟨⟨_, 2, rfl, G.out⟩, HB2.out⟩
            · have h45b : (((a[3]'h4).toNat : Int) == 45) = false := beq_eq_false_iff_ne.2 h45
              have G : Hid (RdOut r cs a 3) := K.out.2.2 h4 (by omega)
              clear K B3
              go_wp2
              go_ret2
              exact ⟨⟨_, 3, rfl, G.out⟩, HB2.out⟩
          · have G : Hid (RdOut r cs a 3) := K.out.2.1 (by omega)
            clear K
            go_wp2
            go_ret2
            exact ⟨⟨_, 3, rfl, G.out⟩, HB2.out⟩
        · have G : Hid (RdOut r cs ⟨#[]⟩ 1) := BAD.out (by unfold okL; rw [hr, decide_eq_false hc0, decide_eq_false hq]; rfl)
          have hqb := str_ne' hq
          clear key BAD GOOD hr
          have hsl : ∀ wx, (Instr.slice 9 (.string a) none (some (.int .i64 3)) none).run Tryz.prog wx = .ok (.string (a.extract 0 3)) wx := by
            intro wx
            rw [run_slice_string_to_if wx 9 a .i64 3 Tryz.underlying9, if_pos (by omega)]
            rfl
          clear hq
          generalize a.extract 0 3 = X at *
          go_wp2
          go_ret2
          exact ⟨⟨_, 1, rfl, G.out⟩, HB2.out⟩
end Go.Proofs.YtngcjlghjidnjaaGreatDoor
namespace Go.Proofs.YtngcjlghjidnjaaGreatDoor
open Go.ChangeShapes Go.WideShapes Go.ChangeAt Go.RowKit
open Pcs

theorem numN_ex {l : ByteArray} (h3 : 3 ≤ l.size) : numN (l.extract 0 3) 3 = codeN l := by
  unfold codeN
  simp only [numN]
  rw [byte_ex l 0 (by decide) h3, byte_ex l 1 (by decide) h3, byte_ex l 2 (by decide) h3]
  omega
theorem lineR_dig {l : ByteArray} (h : lineR l = true) : digN (byteOf l 0) = true ∧ digN (byteOf l 1) = true ∧ digN (byteOf l 2) = true := by
  unfold lineR at h
  simp only [Bool.and_eq_true] at h
  exact ⟨h.2.2.2.1, h.2.2.2.2.1, h.2.2.2.2.2.1⟩
theorem code_inj {l m : ByteArray} (hl : lineR l = true) (hm : lineR m = true) : l.extract 0 3 = m.extract 0 3 ↔ codeN l = codeN m := by
  have h3 := lineR_three hl
  have m3 := lineR_three hm
  obtain ⟨a0, a1, a2⟩ := lineR_dig hl
  obtain ⟨b0, b1, b2⟩ := lineR_dig hm
  simp only [digN, Bool.and_eq_true, decide_eq_true_eq] at a0 a1 a2 b0 b1 b2
  constructor
  · intro e; rw [← numN_ex h3, ← numN_ex m3, e]
  · intro e
    unfold codeN at e
    have e0 : byteOf l 0 = byteOf m 0 := by omega
    have e1 : byteOf l 1 = byteOf m 1 := by omega
    have e2 : byteOf l 2 = byteOf m 2 := by omega
    have s1 : (l.extract 0 3).size = 3 := by rw [ByteArray.size_extract]; omega
    have s2 : (m.extract 0 3).size = 3 := by rw [ByteArray.size_extract]; omega
    refine ByteArray.ext_getElem (by rw [s1, s2]) fun k h1 h2 => ?_
    have hk : k < 3 := by omega
    have q : byteOf (l.extract 0 3) k = byteOf (m.extract 0 3) k := by
      rw [byte_ex l k hk h3, byte_ex m k hk m3]
      match k, hk with
      | 0, _ => exact e0
      | 1, _ => exact e1
      | 2, _ => exact e2
    rw [byteOf_eq _ k h1, byteOf_eq _ k h2] at q
    exact UInt8.toNat_inj.1 q

/-- the text of a code and its number -/
def CodeIs (cs : ByteArray) (c : Option Nat) : Prop := (cs.size = 0 ∧ c = none) ∨ ∃ l, lineR l = true ∧ cs = l.extract 0 3 ∧ c = some (codeN l)
theorem okL_code {l cs : ByteArray} {c : Option Nat} (h : CodeIs cs c) : okL l cs = (lineR l && (c == none || c == some (codeN l))) := by
  unfold okL
  cases hl : lineR l with
  | false => rfl
  | true =>
    rcases h with ⟨h0, rfl⟩ | ⟨m, hm, rfl, rfl⟩
    · rw [decide_eq_true h0]; rfl
    · have m3 := lineR_three hm
      have hs : (m.extract 0 3).size ≠ 0 := by rw [ByteArray.size_extract]; omega
      rw [decide_eq_false hs, Bool.true_and, Bool.true_and, Bool.false_or]
      have : (some (codeN m) == (none : Option Nat)) = false := rfl
      rw [this, Bool.false_or, Bool.eq_iff_iff, decide_eq_true_eq, beq_iff_eq, Option.some.injEq, code_inj hl hm]
      exact eq_comm
def prCode : Prs → Nat | (some (some (c, _, _))) => c | _ => 0
def prLines : Prs → List ByteArray | (some (some (_, L, _))) => L | _ => []
def prUsed : Prs → Nat | (some (some (_, _, u))) => u | _ => 0
def prSt : Prs → Nat | (some none) => 1 | (some (some (_, _, _))) => 2 | none => 3

theorem resAt {w wr : World} {a b : Value} {T : TypeId} (hb : Below (w.heap.size + 1) (w.alloc (.cells #[a, b] T)) wr) :
    wr.cell? ⟨w.heap.size, 0, none⟩ = some a ∧ wr.cell? ⟨w.heap.size, 1, none⟩ = some b ∧ (∀ o, wr.frozen? ⟨w.heap.size, o, none⟩ = false) := by
  refine ⟨?_, ?_, fun o => ?_⟩
  · rw [hb.cell (p := ⟨w.heap.size, 0, none⟩) (by show w.heap.size < _; omega), World.cell?_alloc_at _ _ _ _ rfl]; rfl
  · rw [hb.cell (p := ⟨w.heap.size, 1, none⟩) (by show w.heap.size < _; omega), World.cell?_alloc_at _ _ _ _ rfl]; rfl
  · rw [hb.frozen (p := ⟨w.heap.size, o, none⟩) (by show w.heap.size < _; omega)]
    exact World.frozen?_alloc_at _ _ _ _ rfl

set_option maxHeartbeats 4000000 in
set_option maxRecDepth 100000 in
theorem implParse (s : ByteArray) (w : World) (hl : LenIn w) (hs : s.size ≤ 1048576) :
    Calls Tryz.prog 85 #[.string s] w fun e w' => (∃ v, e = .returned (.tuple #[.agg #[.int .i64 (prCode (parse s) : Int), v], .int .i64 (prUsed (parse s) : Int), .int .i64 (prSt (parse s) : Int)]) ∧ Strs w' w.heap.size v (prLines (parse s))) ∧ Below w.heap.size w w' := by
  have HL : Hid (LenIn w) := hl
  clear hl
  obtain ⟨i0, hi, hz0, hz1, hz2⟩ := info_parts infoStr
  go_enter Tryz.func85, Tryz.ntmps85
  go_wp2
  go_step3
  go_wp2
  go_step3
  go_wp2
  go_loopw [5, 6, 7, 8, 9] (fun tv rv cv _ _ wr => ∃ (u : Nat) (acc : List ByteArray) (cs : ByteArray) (c : Option Nat), u ≤ s.size ∧ rv = .int .i64 u ∧ cv = .string cs ∧ Hid (CodeIs cs c) ∧ acc.length ≤ 50 ∧ Hid (prs (50 - acc.length) c acc u (s.data.toList.drop u) = parse s) ∧ Strs wr (w.heap.size + 1) tv acc ∧ Below (w.heap.size + 1) (w.alloc (.cells #[.int .i64 0, .slice none 0 0] 102)) wr) (fun _ rv _ _ _ _ => s.size - (intOf rv).toNat)
  case atStart => exact ⟨0, [], ⟨#[]⟩, none, Nat.zero_le _, rfl, rfl, .inl ⟨rfl, rfl⟩, Nat.zero_le _, rfl, World.ownsRow_nil _ _ _ _, Below.refl _ _⟩
  case round =>
    obtain ⟨u, acc, cs, c, hu, rfl, rfl, HC, hacc, HP, hown, hb⟩ := hrel
    have hzr : w.heap.size + 1 ≤ wr.heap.size := by have := hb.size; simpa using this
    have HBW : Hid (Below w.heap.size w wr) := (below1 w _).trans (hb.mono (by omega))
    have HLW : Hid (LenIn wr) := len_below HL.out HBW.out
    obtain ⟨d0, d1, df⟩ := resAt hb
    have hf0 := df 0
    have hf1 := df 1
    clear df
    obtain ⟨tp, tn, tc, rfl⟩ : ∃ p n c, u5 = .slice p n c := by
      rcases hown.cases with ⟨rfl, _⟩ | ⟨g, cap, rfl, _⟩
      · exact ⟨_, _, _, rfl⟩
      · exact ⟨_, _, _, rfl⟩
    have htn : tn = acc.length := by
      rcases hown.cases with ⟨h, rfl⟩ | ⟨g, cap, h, _⟩
      · injection h
      · injection h
    subst htn
    by_cases h50 : acc.length < 50
    · have h50i : (acc.length : Int) < 50 := by omega
      obtain ⟨q, hq⟩ : ∃ q, 50 - acc.length = q + 1 := ⟨49 - acc.length, by omega⟩
      have hHP := HP.out
      rw [hq] at hHP
      have HQ : Hid (prs (q + 1) c acc u (s.data.toList.drop u) = parse s) := hHP
      have Hq : Hid (50 - acc.length = q + 1) := hq
      clear hHP hq HP
      go_wp2_with fail
      obtain ⟨R, HR⟩ : ∃ R, Hid (s.extract u s.size = R) := ⟨_, rfl⟩
      rw [HR.out]
      have HRD : Hid (s.data.toList.drop u = R.data.toList) := by
        show _ = _
        rw [← HR.out, Lib.extract_data, Lib.size_eq, List.take_of_length_le (by simp)]
      have hR1 : R.size + u = s.size := by
        have e := congrArg List.length HRD.out
        rw [List.length_drop, ← Lib.size_eq, ← Lib.size_eq] at e; omega
      refine (implRead R cs _ HLW.out (by omega)).mono ?_
      rintro e w1 ⟨⟨content, st, rfl, RO⟩, hb1⟩
      have HB1 : Hid (Below w.heap.size w w1) := HBW.out.trans (hb1.mono (by omega))
      have hb1' : Below (w.heap.size + 1) (w.alloc (.cells #[.int .i64 0, .slice none 0 0] 102)) w1 := hb.trans (hb1.mono hzr)
      obtain ⟨g0, g1, gf⟩ := resAt hb1'
      have gf0 := gf 0
      have gf1 := gf 1
      have hown1 := strs_below hown hb1 (Nat.le_refl _)
      have hz1' := hb1.size
      clear gf d0 d1 hf0 hf1 hown
      rcases RO with ⟨hi1, rfl⟩ | ⟨i, l, hi1, hl1, ⟨hbad, rfl⟩ | ⟨hok, rfl, rfl⟩⟩
      · cases hm : moreN R with
        | true =>
          have G : Hid (parse s = (some none)) := by
            show _ = _
            rw [← HQ.out, HRD.out, prs_cut hi1, mk_data, hm]; rfl
          clear hi1 hm hown1 hb1 hb hb1'
          go_wp2
          repeat (first | rw [Exit.noGoto_ret] | show Exit.noGoto _ Exit.ret _ _)
          refine bodyPost_ret (v := .tuple #[.agg #[.int .i64 0, .slice none 0 0], .int .i64 0, .int .i64 1]) (by simp [results, Tryz.results85, go_sem, g0, g1]) rfl ⟨⟨_, by rw [G.out]; rfl, by rw [G.out]; exact World.ownsRow_nil _ _ _ _⟩, ?_⟩
          repeat (refine Below.setCell ?_ (by simp) _)
          exact HB1.out
        | false =>
          have G : Hid (parse s = none) := by
            show _ = _
            rw [← HQ.out, HRD.out, prs_cut hi1, mk_data, hm]; rfl
          clear hi1 hm hown1 hb1 hb hb1'
          go_wp2
          repeat (first | rw [Exit.noGoto_ret] | show Exit.noGoto _ Exit.ret _ _)
          refine bodyPost_ret (v := .tuple #[.agg #[.int .i64 0, .slice none 0 0], .int .i64 0, .int .i64 3]) (by simp [results, Tryz.results85, go_sem, g0, g1]) rfl ⟨⟨_, by rw [G.out]; rfl, by rw [G.out]; exact World.ownsRow_nil _ _ _ _⟩, ?_⟩
          repeat (refine Below.setCell ?_ (by simp) _)
          exact HB1.out
      · have G : Hid (parse s = none) := by
          show _ = _
          rw [← HQ.out, HRD.out, prs_line hi1 hl1, ← okL_code HC.out, hbad]; rfl
        clear hi1 hl1 hbad hown1 hb1 hb hb1'
        go_wp2
        repeat (first | rw [Exit.noGoto_ret] | show Exit.noGoto _ Exit.ret _ _)
        refine bodyPost_ret (v := .tuple #[.agg #[.int .i64 0, .slice none 0 0], .int .i64 0, .int .i64 3]) (by simp [results, Tryz.results85, go_sem, g0, g1]) rfl ⟨⟨_, by rw [G.out]; rfl, by rw [G.out]; exact World.ownsRow_nil _ _ _ _⟩, ?_⟩
        repeat (refine Below.setCell ?_ (by simp) _)
        exact HB1.out
      · have hroom := Lib.index_room R.data.toList [13, 10] (by omega)
        rw [hi1, ← Lib.size_eq] at hroom
        have hroom2 : i + 2 ≤ R.size := by simp only [List.length_cons, List.length_nil] at hroom; omega
        have hls : content.size = i := by rw [← hl1, mk_size, List.length_take, ← Lib.size_eq]; omega
        have hlr : lineR content = true := by unfold okL at hok; rw [Bool.and_eq_true] at hok; exact hok.1
        have h3 := lineR_three hlr
        have h3i : (3 : Int) ≤ content.size := by omega
        have HN : Hid (prs (q + 1) c acc u (s.data.toList.drop u) = if lastN content then (some (some (codeN content, acc ++ [textB content], u + (content.size + 2)))) else prs q (some (codeN content)) (acc ++ [textB content]) (u + (content.size + 2)) (s.data.toList.drop (u + (content.size + 2)))) := by
          show _ = _
          rw [HRD.out, prs_line hi1 hl1, ← okL_code HC.out, hok, if_pos rfl, hls, ← HRD.out, List.drop_drop]
        have HCO : Hid (CodeIs (content.extract 0 3) (some (codeN content))) := .inr ⟨content, hlr, rfl, rfl⟩
        have HNUM : Hid (numN (content.extract 0 3) 3 = codeN content) := numN_ex h3
        have hx3 : (content.extract 0 3).size = 3 := by rw [ByteArray.size_extract]; omega
        have hdg : okAll digN (content.extract 0 3) = true := by
          obtain ⟨a0, a1, a2⟩ := lineR_dig hlr
          rw [dig3 h3, a0, a1, a2]; rfl
        have hsl : ∀ wx, (Instr.slice 9 (.string content) none (some (.int .i64 3)) none).run Tryz.prog wx = .ok (.string (content.extract 0 3)) wx := by
          intro wx
          rw [run_slice_string_to_if wx 9 content .i64 3 Tryz.underlying9, if_pos (by omega)]
          rfl
        have hcs : content.size ≤ 1048576 := by omega
        have hu2 : u + (content.size + 2) ≤ s.size := by omega
        clear hi1 hl1 hok hlr hroom hroom2 hls
        generalize content.extract 0 3 = X at *
        have hown' : ∀ o, (w1.alloc o).ownsRow (w.heap.size + 1) 9 1 (.slice tp acc.length tc) acc.length (acc.map Value.string) := fun o => (show w1.ownsRow (w.heap.size + 1) 9 1 (.slice tp acc.length tc) acc.length (acc.map Value.string) from hown1).alloc o
        have hlos := strs_lo hown1
        have hz2' : w.heap.size + 1 ≤ w1.heap.size := by omega
        clear hown1
        have HNU := HN.out
        rw [HQ.out] at HNU
        clear HN HQ
        cases hla : lastN content with
        | true =>
          go_wp2_with fail
          refine (implText content _ hcs).mono ?_
          rintro e w2 ⟨rfl, hw2⟩
          rw [hw2]
          clear hw2
          generalize textB content = TX at *
          go_wp2_with (at_builtin; refine wpList_append_lies _ rfl _ _ 23 rfl (w.heap.size + 1) 9 i0 (.string ⟨#[]⟩) 1 16 Tryz.underlying23 hi hz0 hz1 hz2 rfl (by decide) _ _ _ rfl (hown' _) ⟨w1.heap.size, 0, none⟩ 1 1 [.string TX] rfl rfl ?c1 ?c2 ?c3 ?c4 ?c5 ?c6 (w1.heap.size + 1) ?c7 ?_)
          case c1 =>
            intro j u hj
            match j, hj with
            | 0, hj => simp at hj; subst hj; simp [Addr.add]
          case c2 => intro u hu; simp at hu; subst hu; rfl
          case c3 => decide
          case c4 => unfold maxLen; omega
          case c5 => omega
          case c6 => simp; omega
          case c7 => simp
          intro g cap w3 hown3 hgrow hat hlt
          have HS3 : Hid (Strs w3 (w.heap.size + 1) (.slice (some ⟨g, 0, none⟩) (acc.length + 1) cap) (acc ++ [TX])) := strs_snoc hown3
          have hb3 : Below (w.heap.size + 1) (w.alloc (.cells #[.int .i64 0, .slice none 0 0] 102)) w3 := (hb1'.alloc hz2' _).grown hgrow (by simp; omega) hlos
          clear hown3 hgrow hat hown' hlos g0 g1 gf0 gf1
          obtain ⟨g0, g1, gf⟩ := resAt hb3
          have gf0 := gf 0
          have gf1 := gf 1
          clear gf
          have G : Hid (parse s = (some (some (codeN content, acc ++ [TX], u + (content.size + 2))))) := by
            show _ = _
            rw [HNU, hla]; rfl
          have hx10 : X.size ≤ 10 := by omega
          clear HNU hla hb hb1 hb1'
          go_wp2_with fail
          refine (implNumber X _ hx10 hdg).mono ?_
          rintro e w4 ⟨rfl, hw4⟩
          rw [hw4, hx3, HNUM.out]
          clear hw4
          have HB3 : Hid (Below w.heap.size w w3) := (below1 w _).trans (hb3.mono (by omega))
          have hcd : codeN content ≤ 100000 := by
            rw [← HNUM.out]
            have := numN_lt (s := X) (k := 3) (by omega) hdg
            omega
          go_wp2
          repeat (first | rw [Exit.noGoto_ret] | show Exit.noGoto _ Exit.ret _ _)
          refine bodyPost_ret (v := .tuple #[.agg #[.int .i64 (codeN content : Int), .slice (some ⟨g, 0, none⟩) (acc.length + 1) cap], .int .i64 ((u : Int) + ((content.size : Int) + 2)), .int .i64 2]) (by simp [results, Tryz.results85, go_sem, g0, g1]) rfl ⟨⟨.slice (some ⟨g, 0, none⟩) (acc.length + 1) cap, by rw [G.out]; simp [prCode, prUsed, prSt], ?_⟩, ?_⟩
          · rw [G.out]
            show Strs _ w.heap.size _ (acc ++ [TX])
            refine strs_le ?_ (Nat.le_succ _)
            repeat (refine strs_setCell ?_ (by simp) _)
            exact HS3.out
          · repeat (refine Below.setCell ?_ (by simp) _)
            exact HB3.out
        | false =>
          go_wp2_with fail
          refine (implText content _ hcs).mono ?_
          rintro e w2 ⟨rfl, hw2⟩
          rw [hw2]
          clear hw2
          generalize textB content = TX at *
          go_wp2_with (at_builtin; refine wpList_append_lies _ rfl _ _ 23 rfl (w.heap.size + 1) 9 i0 (.string ⟨#[]⟩) 1 16 Tryz.underlying23 hi hz0 hz1 hz2 rfl (by decide) _ _ _ rfl (hown' _) ⟨w1.heap.size, 0, none⟩ 1 1 [.string TX] rfl rfl ?c1 ?c2 ?c3 ?c4 ?c5 ?c6 (w1.heap.size + 1) ?c7 ?_)
          case c1 =>
            intro j u hj
            match j, hj with
            | 0, hj => simp at hj; subst hj; simp [Addr.add]
          case c2 => intro u hu; simp at hu; subst hu; rfl
          case c3 => decide
          case c4 => unfold maxLen; omega
          case c5 => omega
          case c6 => simp; omega
          case c7 => simp
          intro g cap w3 hown3 hgrow hat hlt
          have HS3 : Hid (Strs w3 (w.heap.size + 1) (.slice (some ⟨g, 0, none⟩) (acc.length + 1) cap) (acc ++ [TX])) := strs_snoc hown3
          have hb3 : Below (w.heap.size + 1) (w.alloc (.cells #[.int .i64 0, .slice none 0 0] 102)) w3 := (hb1'.alloc hz2' _).grown hgrow (by simp; omega) hlos
          clear hown3 hgrow hat hown' hlos g0 g1 gf0 gf1
          obtain ⟨g0, g1, gf⟩ := resAt hb3
          have gf0 := gf 0
          have gf1 := gf 1
          clear gf
          have G : Hid (prs (50 - (acc ++ [TX]).length) (some (codeN content)) (acc ++ [TX]) (u + (content.size + 2)) (s.data.toList.drop (u + (content.size + 2))) = parse s) := by
            show _ = _
            rw [HNU, hla, List.length_append]
            have : 50 - (acc.length + [TX].length) = q := by
              have := Hq.out
              simp only [List.length_cons, List.length_nil]; omega
            rw [this]; rfl
          clear HNU hla hb hb1 hb1'
          go_wp2
          go_roundw
          case rel => exact ⟨u + (content.size + 2), acc ++ [TX], X, some (codeN content), hu2, by go_num, rfl, HCO, by simp; omega, G, HS3.out, hb3⟩
          case measure => simp [intOf]; omega
    · have h50i : ¬ (acc.length : Int) < 50 := by omega
      have G : Hid (parse s = none) := by
        show _ = _
        rw [← HP.out, show 50 - acc.length = 0 by omega]; rfl
      clear hown
      go_wp2
      refine bodyPost_ret (v := .tuple #[.agg #[.int .i64 0, .slice none 0 0], .int .i64 0, .int .i64 3]) (by simp [results, Tryz.results85, go_sem, d0, d1]) rfl ⟨⟨_, by rw [G.out]; rfl, by rw [G.out]; exact World.ownsRow_nil _ _ _ _⟩, ?_⟩
      repeat (refine Below.setCell ?_ (by simp) _)
      exact HBW.out
end Go.Proofs.YtngcjlghjidnjaaGreatDoor
