import Derived.Test.YtngcjlghjidnjaaGreatDoorMg4
import Derived.Test.YtngcjlghjidnjaaGreatDoorMg8
namespace Go.Proofs.YtngcjlghjidnjaaGreatDoor
open Go.ChangeShapes Go.WideShapes Go.ChangeAt Go.RowKit
open Pcs

theorem pre_take {at_ s : ByteArray} {i : Nat} (h : i + at_.size ≤ s.size) : ((s.extract i (i + at_.size)).toList == at_.toList) = at_.data.toList.isPrefixOf (s.data.toList.drop i) := by
  rw [Lib.extract_toList, Lib.toList_data, Nat.add_sub_cancel_left, Lib.size_eq at_, ← Lib.occAt_iff_take _ _ _ (by rw [← Lib.size_eq, ← Lib.size_eq]; exact h)]; rfl
theorem piece_next {s : ByteArray} {f i : Nat} (h : f ≤ i) (hi : i < s.data.toList.length) : (s.extract f (i + 1)).data.toList = (s.extract f i).data.toList ++ [s.data.toList[i]] := by
  rw [Lib.extract_data, Lib.extract_data, show i + 1 - f = (i - f) + 1 by omega, List.take_add_one, List.getElem?_drop, show f + (i - f) = i by omega, List.getElem?_eq_getElem hi]; rfl
theorem piece_end {s : ByteArray} {f i : Nat} (h : f ≤ i) : (s.extract f s.size).data.toList = (s.extract f i).data.toList ++ s.data.toList.drop i := by
  rw [Lib.extract_data, Lib.extract_data, Lib.size_eq]
  rw [List.take_of_length_le (by simp)]
  conv => lhs; rw [← List.take_append_drop (i - f) (s.data.toList.drop f)]
  rw [List.drop_drop, show f + (i - f) = i by omega]
theorem piece_none {s : ByteArray} (i : Nat) : (s.extract i i).data.toList = [] := by
  rw [Lib.extract_data, Nat.sub_self, List.take_zero]

set_option maxHeartbeats 1000000 in
set_option maxRecDepth 100000 in
theorem specSplit (s sep : ByteArray) (w : World) (hs : s.size ≤ 1048576) (h1 : 1 ≤ sep.size) (h2 : sep.size ≤ 1048576) :
    Calls Tryz.prog 75 #[.string s, .string sep] w fun e w' => (∃ v, e = .returned v ∧ Strs w' w.heap.size v (pieces sep s)) ∧ Below w.heap.size w w' := by
  obtain ⟨i0, hi, hz0, hz1, hz2⟩ := info_parts infoStr
  have hne := ne_nil h1
  go_enter Tryz.func75, Tryz.ntmps75
  go_wp2
  go_loopw [5, 6, 7] (fun v fv iv wr => ∃ (f i : Nat) (acc : List ByteArray), f ≤ i ∧ i ≤ s.size ∧ fv = .int .i64 f ∧ iv = .int .i64 i ∧ acc.length ≤ f ∧ Hid (acc ++ (pcs sep.data.toList 0 (s.extract f i).data.toList (s.data.toList.drop i)).map mk = pieces sep s) ∧ Strs wr w.heap.size v acc ∧ Below w.heap.size w wr) (fun _ _ iv _ => s.size - (intOf iv).toNat)
  case atStart => exact ⟨0, 0, [], Nat.le_refl _, Nat.zero_le _, rfl, rfl, Nat.le_refl _, by show _ = _; rw [piece_none]; rfl, World.ownsRow_nil _ _ _ _, Below.refl _ _⟩
  case round =>
    obtain ⟨f, i, acc, hfi, his, rfl, rfl, hacc, HG, hown, hb⟩ := hrel
    have hzr : w.heap.size ≤ wr.heap.size := hb.size
    by_cases hA : i + sep.size ≤ s.size
    · have hAi : (i : Int) + sep.size ≤ s.size := by omega
      have hpt := pre_take hA
      have htn : ((i : Int) + (sep.size : Int)).toNat = i + sep.size := by omega
      have hlo : (0 : Int) ≤ (i : Int) + (sep.size : Int) := by omega
      have hii : (i : Int) ≤ (i : Int) + (sep.size : Int) := by omega
      have hsl0 : ∀ wx, (Instr.slice 9 (.string s) (some (.int .i64 (i : Int))) (some (.int .i64 ((i : Int) + (sep.size : Int)))) none).run Tryz.prog wx = .ok (.string (s.extract i (i + sep.size))) wx := by
        intro wx
        rw [run_slice_string wx 9 s .i64 .i64 i ((i : Int) + (sep.size : Int)) Tryz.underlying9 (by omega) (by omega) (by omega), htn]
        rfl
      by_cases hp : sep.data.toList.isPrefixOf (s.data.toList.drop i) = true
      · rw [hp] at hpt
        have HP : Hid _ := hp
        clear hp
        have hown' : wr.ownsRow w.heap.size 9 1 u5 acc.length (acc.map Value.string) := hown
        have hlos := strs_lo hown
        clear hown
        obtain ⟨p, HQ⟩ : ∃ p, Hid (s.extract f i = p) := ⟨_, rfl⟩
        have hsl : ∀ wx, (Instr.slice 9 (.string s) (some (.int .i64 (f : Int))) (some (.int .i64 (i : Int))) none).run Tryz.prog wx = .ok (.string p) wx := by
          intro wx
          rw [run_slice_string wx 9 s .i64 .i64 f i Tryz.underlying9 (by omega) (by omega) (by omega), ← HQ.out]
          rfl
        go_wp2_with (at_builtin; refine wpList_append_lies _ rfl _ _ 23 rfl w.heap.size 9 i0 (.string ⟨#[]⟩) 1 16 Tryz.underlying23 hi hz0 hz1 hz2 rfl (by decide) _ _ _ rfl (hown'.alloc _) ⟨wr.heap.size, 0, none⟩ 1 1 [.string p] rfl rfl ?c1 ?c2 ?c3 ?c4 ?c5 ?c6 (wr.heap.size + 1) ?c7 ?_)
        case c1 =>
          intro j u hj
          match j, hj with
          | 0, hj => simp at hj; subst hj; simp [Addr.add]
        case c2 => intro u hu; simp at hu; subst hu; rfl
        case c3 => decide
        case c4 => unfold maxLen; omega
        case c5 => omega
        case c6 => simp; omega
        case c7 => simp
        intro g cap w1 hown1 hgrow hat hlt
        have HS1 : Hid (Strs w1 w.heap.size (.slice (some ⟨g, 0, none⟩) (acc.length + 1) cap) (acc ++ [p])) := strs_snoc hown1
        have hb1 : Below w.heap.size w w1 := (hb.alloc hzr _).grown hgrow (by simp; omega) hlos
        clear hown1 hgrow hat hown' hlos
        go_wp2
        go_roundw
        case rel =>
          refine ⟨i + sep.size, i + sep.size, acc ++ [p], Nat.le_refl _, hA, by go_num, by go_num, by simp; omega, ?_, HS1.out, hb1⟩
          show _ = _
          have e := HG.out
          rw [pcs_hit hne HP.out, List.map_cons, List.drop_drop, ← Lib.size_eq, mk_data, HQ.out] at e
          rw [piece_none, List.append_assoc]
          exact e
        case measure => simp [intOf]; omega
      · have hpf : sep.data.toList.isPrefixOf (s.data.toList.drop i) = false := Bool.eq_false_iff.2 hp
        rw [hpf] at hpt
        have HP : Hid (sep.data.toList.isPrefixOf (s.data.toList.drop i) = false) := hpf
        clear hp hpf
        go_wp2
        go_roundw
        case rel =>
          refine ⟨f, i + 1, acc, by omega, by omega, rfl, by go_num, hacc, ?_, hown, hb⟩
          show _ = _
          have hil : i < s.data.toList.length := by rw [← Lib.size_eq]; omega
          have e := HG.out
          have e2 := HP.out
          rw [List.drop_eq_getElem_cons hil] at e e2
          rw [pcs_miss e2] at e
          rw [piece_next hfi hil]
          exact e
        case measure => simp [intOf]; omega
    · have hAi : (s.size : Int) < (i : Int) + sep.size := by omega
      have hown' : wr.ownsRow w.heap.size 9 1 u5 acc.length (acc.map Value.string) := hown
      have hlos := strs_lo hown
      clear hown
      obtain ⟨p, HQ⟩ : ∃ p, Hid (s.extract f s.size = p) := ⟨_, rfl⟩
      have hsl : ∀ wx, (Instr.slice 9 (.string s) (some (.int .i64 (f : Int))) none none).run Tryz.prog wx = .ok (.string p) wx := by
        intro wx
        rw [run_slice_string_from_if wx 9 s .i64 f Tryz.underlying9, if_pos (by omega), ← HQ.out]
        rfl
      go_wp2_with (at_builtin; refine wpList_append_lies _ rfl _ _ 23 rfl w.heap.size 9 i0 (.string ⟨#[]⟩) 1 16 Tryz.underlying23 hi hz0 hz1 hz2 rfl (by decide) _ _ _ rfl (hown'.alloc _) ⟨wr.heap.size, 0, none⟩ 1 1 [.string p] rfl rfl ?c1 ?c2 ?c3 ?c4 ?c5 ?c6 (wr.heap.size + 1) ?c7 ?_)
      case c1 =>
        intro j u hj
        match j, hj with
        | 0, hj => simp at hj; subst hj; simp [Addr.add]
      case c2 => intro u hu; simp at hu; subst hu; rfl
      case c3 => decide
      case c4 => unfold maxLen; omega
      case c5 => omega
      case c6 => simp; omega
      case c7 => simp
      intro g cap w1 hown1 hgrow hat hlt
      have HS1 : Hid (Strs w1 w.heap.size (.slice (some ⟨g, 0, none⟩) (acc.length + 1) cap) (acc ++ [p])) := strs_snoc hown1
      have hb1 : Below w.heap.size w w1 := (hb.alloc hzr _).grown hgrow (by simp; omega) hlos
      clear hown1 hgrow hat hown' hlos
      go_wp2
      go_ret
      refine ⟨⟨_, rfl, ?_⟩, hb1⟩
      have e := HG.out
      have hsh : (s.data.toList.drop i).length < sep.data.toList.length := by rw [List.length_drop, ← Lib.size_eq, ← Lib.size_eq]; omega
      rw [pcs_short hsh, ← piece_end hfi, List.map_cons, mk_data, HQ.out, List.map_nil] at e
      rw [← e]
      exact HS1.out
end Go.Proofs.YtngcjlghjidnjaaGreatDoor
namespace Go.Proofs.YtngcjlghjidnjaaGreatDoor
open Go.ChangeShapes Go.WideShapes Go.ChangeAt Go.RowKit
open Pcs

theorem implSplit (s sep : ByteArray) (w : World) (hl : LenIn w) (hs : s.size ≤ 1048576) (h1 : 1 ≤ sep.size) :
    Calls Tryz.prog 79 #[.string s, .string sep] w fun e w' => (∃ v, e = .returned v ∧ Strs w' w.heap.size v (pieces sep s)) ∧ Below w.heap.size w w' := by
  obtain ⟨m, hm⟩ := hl
  have hi : (Tryz.prog.info? 9).map (fun i => (i.zero, i.size, i.bytes)) = some (some (.string ByteArray.empty), 1, 16) := infoStr
  refine (Any.strings_Split Tryz.lays146 hi s sep m w (by omega) hm h1).mono ?_
  rintro e w' ⟨rfl, rfl⟩
  rw [splitB_pieces h1]
  have hlen : Lib.countB s sep + 1 = (pieces sep s).length := by rw [← splitB_pieces h1]; exact (Lib.splitB_all sep h1 0 _ s rfl).symm
  rw [hlen]
  exact ⟨⟨_, rfl, strs_new w _ (by have := pieces_len sep s; unfold maxLen; omega)⟩, below1 _ _⟩
end Go.Proofs.YtngcjlghjidnjaaGreatDoor
namespace Go.Proofs.YtngcjlghjidnjaaGreatDoor
open Go.ChangeShapes Go.WideShapes Go.ChangeAt Go.RowKit
open Pcs

/-- a domain: labels with points between, at most 100 bytes -/
def domOk (s : ByteArray) : Bool := decide (s.size ≤ 100) && (pieces ⟨#[46]⟩ s).all labOk
theorem dom_long {s : ByteArray} (h : 100 < s.size) : domOk s = false := by
  unfold domOk; rw [decide_eq_false (by omega)]; rfl
theorem dom_bad {s : ByteArray} {L : List ByteArray} (e : pieces ⟨#[46]⟩ s = L) {k : Nat} {h : k < L.length} (hl : labOk L[k] = false) : domOk s = false := by
  unfold domOk; rw [e, List.all_eq_false.2 ⟨_, List.getElem_mem h, by rw [hl]; decide⟩, Bool.and_false]
theorem dom_ok {s : ByteArray} {L : List ByteArray} (e : pieces ⟨#[46]⟩ s = L) (h : s.size ≤ 100) (hl : ∀ k (h : k < L.length), labOk L[k] = true) : domOk s = true := by
  unfold domOk; rw [e, decide_eq_true h, Bool.true_and]
  refine List.all_eq_true.2 fun x hx => ?_
  obtain ⟨k, hk, rfl⟩ := List.getElem_of_mem hx
  exact hl k hk
theorem empty_of {x : ByteArray} (h : x.size = 0) : x = ByteArray.empty := by
  obtain ⟨d⟩ := x
  change d.size = 0 at h
  rw [Array.size_eq_zero_iff] at h
  subst h; rfl
theorem list_ne {x : ByteArray} (h : x.size ≠ 0) : (x.toList == []) = false := by
  rw [ByteArray.toList_eq, beq_eq_false_iff_ne]; intro e
  have := Lib.size_eq x
  rw [e, List.length_nil] at this; omega
theorem drew_below {B : Nat} {w wr : World} (h : Below B w wr) (n : Nat) : Below B w (wr.drewN n) := ⟨h.os, h.tape, h.output, h.size, h.block⟩
theorem strs_ne {w : World} {lo : Nat} {v : Value} {L : List ByteArray} (h : Strs w lo v L) (hL : L ≠ []) : ∃ g cap, v = .slice (some ⟨g, 0, none⟩) L.length cap ∧ StrsAt w lo g cap L := by
  rcases h.cases with ⟨_, h0⟩ | h
  · exact absurd h0 hL
  · exact h

set_option maxHeartbeats 1000000 in
set_option maxRecDepth 100000 in
theorem implDomain (s : ByteArray) (w : World) (hl : LenIn w) (hs : s.size ≤ 1048576) :
    Calls Tryz.prog 32 #[.string s] w fun e w' => e = .returned (.bool (domOk s)) ∧ Below w.heap.size w w' := by
  have HL : Hid (LenIn w) := hl
  clear hl
  by_cases hA : 100 < s.size
  · go_enter Tryz.func32, Tryz.ntmps32
    go_wp2
    go_ret
    exact ⟨ret_bool (dom_long hA).symm, Below.refl _ _⟩
  · go_enter Tryz.func32, Tryz.ntmps32
    go_wp2_with fail
    refine (implSplit s _ _ HL.out hs (by decide)).mono ?_
    rintro e w1 ⟨⟨v, rfl, S1⟩, hb1⟩
    obtain ⟨g, cap, rfl, A1⟩ := strs_ne S1 (pieces_ne _ _)
    have hlen := pieces_len ⟨#[46]⟩ s
    have hsz : ∀ k (h : k < (pieces ⟨#[46]⟩ s).length), (pieces ⟨#[46]⟩ s)[k].size ≤ 1048576 := fun k h => Nat.le_trans (pieces_size (List.getElem_mem h)) hs
    generalize hLE : pieces ⟨#[46]⟩ s = L at *
    have HLE : Hid (pieces ⟨#[46]⟩ s = L) := hLE
    clear hLE
    have hcap := A1.cap
    have hlc := A1.len
    unfold maxLen at hcap
    clear S1
    go_wp2
    go_loopw [11] (fun iv wr => ∃ k n : Nat, k ≤ L.length ∧ iv = .int .i64 k ∧ Hid (∀ j (h : j < L.length), j < k → labOk L[j] = true) ∧ wr = w1.drewN n) (fun iv _ => L.length - (intOf iv).toNat)
    case atStart => exact ⟨0, 0, Nat.zero_le _, rfl, fun j _ h => absurd h (Nat.not_lt_zero _), rfl⟩
    case round =>
      obtain ⟨k, n, hk, rfl, HA, rfl⟩ := hrel
      by_cases hlt : k < L.length
      · have ec := A1.cell k hlt
        have hx := hsz k hlt
        have HB : Hid (labOk L[k] = true → ∀ j (h : j < L.length), j < k + 1 → labOk L[j] = true) := by
          intro h1 j h hj
          rcases Nat.lt_succ_iff_lt_or_eq.1 hj with hj | rfl
          · exact HA.out j h hj
          · exact h1
        have HC : Hid (labOk L[k] = false → domOk s = false) := fun h => dom_bad HLE.out h
        generalize L[k] = x at *
        cases hok : labOk x with
        | true =>
          have HD : Hid (∀ j (h : j < L.length), j < k + 1 → labOk L[j] = true) := HB.out hok
          clear HB HC
          go_wp2_with (go_at_call 80; refine (implLabel _ _ hx).mono ?_; rintro e w' ⟨rfl, rfl⟩; rw [hok])
          go_roundw
          case rel => exact ⟨k + 1, n, by omega, by go_num, HD.out, rfl⟩
          case measure => simp [intOf]; omega
        | false =>
          have HD : Hid (domOk s = false) := HC.out hok
          clear HB HC
          go_wp2_with (go_at_call 80; refine (implLabel _ _ hx).mono ?_; rintro e w' ⟨rfl, rfl⟩; rw [hok])
          go_ret
          exact ⟨ret_bool HD.out.symm, drew_below hb1 _⟩
      · go_wp2
        go_ret
        exact ⟨ret_bool (dom_ok HLE.out (by omega) fun j h => HA.out j h (by omega)).symm, drew_below hb1 _⟩

set_option maxHeartbeats 1000000 in
set_option maxRecDepth 100000 in
theorem specDomain (s : ByteArray) (w : World) (hs : s.size ≤ 1048576) :
    Calls Tryz.prog 29 #[.string s] w fun e w' => e = .returned (.bool (domOk s)) ∧ Below w.heap.size w w' := by
  by_cases hA : 100 < s.size
  · go_enter Tryz.func29, Tryz.ntmps29
    go_wp2
    go_ret
    exact ⟨ret_bool (dom_long hA).symm, Below.refl _ _⟩
  · go_enter Tryz.func29, Tryz.ntmps29
    go_wp2_with fail
    refine (specSplit s _ _ hs (by decide) (by decide)).mono ?_
    rintro e w1 ⟨⟨v, rfl, S1⟩, hb1⟩
    obtain ⟨g, cap, rfl, A1⟩ := strs_ne S1 (pieces_ne _ _)
    have hlen := pieces_len ⟨#[46]⟩ s
    have hsz : ∀ k (h : k < (pieces ⟨#[46]⟩ s).length), (pieces ⟨#[46]⟩ s)[k].size ≤ 1048576 := fun k h => Nat.le_trans (pieces_size (List.getElem_mem h)) hs
    generalize hLE : pieces ⟨#[46]⟩ s = L at *
    have HLE : Hid (pieces ⟨#[46]⟩ s = L) := hLE
    clear hLE
    have hcap := A1.cap
    have hlc := A1.len
    unfold maxLen at hcap
    clear S1
    go_wp2
    go_loopw [11] (fun iv wr => ∃ k n : Nat, k ≤ L.length ∧ iv = .int .i64 k ∧ Hid (∀ j (h : j < L.length), j < k → labOk L[j] = true) ∧ wr = w1.drewN n) (fun iv _ => L.length - (intOf iv).toNat)
    case atStart => exact ⟨0, 0, Nat.zero_le _, rfl, fun j _ h => absurd h (Nat.not_lt_zero _), rfl⟩
    case round =>
      obtain ⟨k, n, hk, rfl, HA, rfl⟩ := hrel
      by_cases hlt : k < L.length
      · have ec := A1.cell k hlt
        have hx := hsz k hlt
        have HB : Hid (labOk L[k] = true → ∀ j (h : j < L.length), j < k + 1 → labOk L[j] = true) := by
          intro h1 j h hj
          rcases Nat.lt_succ_iff_lt_or_eq.1 hj with hj | rfl
          · exact HA.out j h hj
          · exact h1
        have HC : Hid (labOk L[k] = false → domOk s = false) := fun h => dom_bad HLE.out h
        generalize L[k] = x at *
        cases hok : labOk x with
        | true =>
          have HD : Hid (∀ j (h : j < L.length), j < k + 1 → labOk L[j] = true) := HB.out hok
          clear HB HC
          go_wp2_with (go_at_call 76; refine (specLabel _ _ hx).mono ?_; rintro e w' ⟨rfl, rfl⟩; rw [hok])
          go_roundw
          case rel => exact ⟨k + 1, n, by omega, by go_num, HD.out, rfl⟩
          case measure => simp [intOf]; omega
        | false =>
          have HD : Hid (domOk s = false) := HC.out hok
          clear HB HC
          go_wp2_with (go_at_call 76; refine (specLabel _ _ hx).mono ?_; rintro e w' ⟨rfl, rfl⟩; rw [hok])
          go_ret
          exact ⟨ret_bool HD.out.symm, drew_below hb1 _⟩
      · go_wp2
        go_ret
        exact ⟨ret_bool (dom_ok HLE.out (by omega) fun j h => HA.out j h (by omega)).symm, drew_below hb1 _⟩
end Go.Proofs.YtngcjlghjidnjaaGreatDoor
