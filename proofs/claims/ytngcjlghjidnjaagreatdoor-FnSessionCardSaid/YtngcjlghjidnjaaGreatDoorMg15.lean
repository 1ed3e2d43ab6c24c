import Derived.Test.YtngcjlghjidnjaaGreatDoorMg12
import Derived.Test.YtngcjlghjidnjaaGreatDoorMg14
import Derived.Deep.Slices
import Derived.Deep.SlicePairs
import Derived.Deep.Fields
import Derived.Test.YtngcjlghjidnjaaGreatDoorMg13
import Derived.Test.YtngcjlghjidnjaaGreatDoorMg11
namespace Go.Proofs.YtngcjlghjidnjaaGreatDoor
open Go.ChangeShapes Go.WideShapes Go.ChangeAt Go.RowKit Go.Deep

/-- a slice of bools that can be read -/
def ArgB (w : World) (v : Value) (L : List Bool) : Prop :=
  L.length ≤ maxLen ∧ ((L = [] ∧ ∃ a c, v = .slice a 0 c) ∨ ∃ b off cap, v = .slice (some ⟨b, off, none⟩) L.length cap ∧ b < w.heap.size ∧ ∀ i (hi : i < L.length), w.cell? ⟨b, off + i, none⟩ = some (.bool L[i]))
theorem ArgB.below {w w1 : World} {v : Value} {L : List Bool} (h : ArgB w v L) (hb : Below w.heap.size w w1) : ArgB w1 v L := by
  refine ⟨h.1, ?_⟩
  rcases h.2 with h0 | ⟨b, off, cap, hv, hlt, hc⟩
  · exact .inl h0
  · exact .inr ⟨b, off, cap, hv, Nat.lt_of_lt_of_le hlt hb.size, fun i hi => (hb.cell (p := ⟨b, off + i, none⟩) hlt).trans (hc i hi)⟩
theorem ArgB.form {w : World} {v : Value} {L : List Bool} (h : ArgB w v L) : ∃ a c, v = .slice a L.length c := by
  rcases h.2 with ⟨rfl, a, c, rfl⟩ | ⟨b, off, cap, rfl, _⟩
  · exact ⟨_, _, rfl⟩
  · exact ⟨_, _, rfl⟩
set_option maxRecDepth 100000 in
theorem openBls {H : Type} {enc : TypeId × Value → H} {W : World} {n : Nat} {v : Value} {y : DataW H × List MemPlace} (h : DataW.trod enc Tryz.prog W 0 (fun _ => true) true n 26 [v] = some y) : ∃ L, ArgB W v L := by
  rcases open_slice1 Tryz.underlying26 (by kernel_rfl) h with ⟨hcs, _⟩ | ⟨a, len, cap, m, n', V, D, Pl, hcs, _, hl, hm, hmm, _, hx⟩
  · simp only [List.cons.injEq, and_true] at hcs
    subst hcs
    exact ⟨[], Nat.zero_le _, .inl ⟨rfl, _, _, rfl⟩⟩
  · simp only [List.cons.injEq, and_true] at hcs
    subst hcs
    by_cases h0 : len = 0
    · subst h0; exact ⟨[], Nat.zero_le _, .inl ⟨rfl, _, _, rfl⟩⟩
    · have hlm : len ≤ m := by rw [hmm]; simp; omega
      have hbool : ∀ i, i < m → ∃ q : Bool, V i = .bool q := by
        intro i hi
        obtain ⟨_, h2⟩ := hx i hi
        obtain ⟨q, e, _⟩ := DataW.trod_bool Tryz.underlying4 h2
        simp only [List.cons.injEq, and_true] at e
        exact ⟨q, e⟩
      obtain ⟨Q, hQ⟩ := choose_lt hbool
      obtain ⟨b, off, spot⟩ := a
      have hc0 := (hx 0 (by omega)).1
      have hspot : spot = none := by simpa [Addr.add] using World.cell?_spot hc0
      subst hspot
      have ea : ∀ i, (⟨b, off, none⟩ : Addr).add i = ⟨b, off + i, none⟩ := fun i => by by_cases hi0 : i = 0 <;> simp [Addr.add, hi0]
      rw [ea] at hc0
      refine ⟨(List.range len).map Q, by simp; omega, .inr ⟨b, off, cap, by simp, block_of hc0, fun i hi => ?_⟩⟩
      simp only [List.length_map, List.length_range] at hi
      have := (hx i (by omega)).1
      rw [ea, hQ i (by omega)] at this
      simpa using this

end Go.Proofs.YtngcjlghjidnjaaGreatDoor
namespace Go.Proofs.YtngcjlghjidnjaaGreatDoor
open Go.ChangeShapes Go.WideShapes Go.ChangeAt Go.RowKit
attribute [local go_sem ↓] Go.wp_at_zero Go.wp_at_succ

set_option maxHeartbeats 1000000 in
set_option maxRecDepth 100000 in
theorem szVd (x : Vd) (n : Int) (w : World) (hx : x.2.2.size ≤ maxLen) (hn : 0 ≤ n) (hn2 : n ≤ 1048576) :
    Calls Tryz.prog 101 #[.agg #[.int .i64 x.1, .int .i64 x.2.1, .string x.2.2], .int .i64 n] w fun e w' => (∃ r : Int, e = .returned (.int .i64 r) ∧ (r < 0 ∨ (0 ≤ r ∧ r ≤ n ∧ (x.2.2.size : Int) ≤ n))) ∧ Below w.heap.size w w' := by
  unfold maxLen at hx
  by_cases c1 : n - (x.2.2.size : Int) < 0
  · go_enter Tryz.func101, Tryz.ntmps101
    go_wp2
    go_ret
    exact ⟨⟨_, rfl, .inl (by decide)⟩, below1 _ _⟩
  · go_enter Tryz.func101, Tryz.ntmps101
    go_wp2
    go_ret
    exact ⟨⟨_, rfl, .inr ⟨by omega, by omega, by omega⟩⟩, below1 _ _⟩

set_option maxHeartbeats 1000000 in
set_option maxRecDepth 100000 in
theorem toVd (x : Vd) (w : World) :
    Calls Tryz.prog 102 #[.agg #[.int .i64 x.1, .int .i64 x.2.1, .string x.2.2]] w fun e w' => e = .returned (.agg #[.int .i64 x.1, .int .i64 x.2.1, .string x.2.2]) ∧ Below w.heap.size w w' := by
  go_enter Tryz.func102, Tryz.ntmps102
  go_wp2
  refine bodyPost_ret (v := .agg #[.int .i64 x.1, .int .i64 x.2.1, .string x.2.2]) (by simp [results, Tryz.results102, go_sem]) rfl ⟨rfl, ?_⟩
  repeat (first | exact Below.refl _ _ | refine Below.setCell ?_ (by simp <;> omega) _ | refine Below.alloc ?_ (by simp <;> omega) _)

end Go.Proofs.YtngcjlghjidnjaaGreatDoor
namespace Go.Proofs.YtngcjlghjidnjaaGreatDoor
open Go.ChangeShapes Go.WideShapes Go.ChangeAt Go.RowKit
open Pcs

theorem list_ne2 {x : ByteArray} (h : x.size ≠ 0) : x.toList.isEmpty = false := by
  rw [ByteArray.toList_eq]
  cases e : x.data.toList with
  | nil =>
    have := Lib.size_eq x
    rw [e, List.length_nil] at this; omega
  | cons a l => rfl
theorem specHasI (s : ByteArray) (c : Int) (w : World) (hc : 0 ≤ c) (hs : s.size ≤ 1048576) :
    Calls Tryz.prog 106 #[.string s, .int .u8 c] w fun e w' => e = .returned (.bool (hasN s c.toNat)) ∧ w' = w := by
  have h := specHas s c.toNat w hs
  rw [Int.toNat_of_nonneg hc] at h; exact h
/-- the front of such a slice -/
theorem strs_front {w : World} {lo g cap m : Nat} {L : List ByteArray} (h : Strs w lo (.slice (some ⟨g, 0, none⟩) L.length cap) L) (hm : m ≤ L.length) : Strs w lo (.slice (some ⟨g, 0, none⟩) m cap) (L.take m) := by
  have hl : (L.take m).length = m := by simp; omega
  unfold Strs at h ⊢
  rw [hl]
  refine ⟨by simp; omega, ?_⟩
  rcases h.2 with ⟨hv, _⟩ | ⟨g', cap', cur, hv, hb, hg, hn, hc, hs, ht⟩
  · cases hv
  · injection hv with h1 h2 h3
    injection h1 with h1
    injection h1 with h1
    subst h1 h3
    refine .inr ⟨g, cap, cur, rfl, hb, hg, by omega, hc, hs, ?_⟩
    rw [List.map_take, ← ht, List.take_take, Nat.mul_one, Nat.mul_one, Nat.min_eq_left (by omega)]

set_option maxHeartbeats 2000000 in
set_option maxRecDepth 100000 in
theorem specLines2 (s : ByteArray) (w : World) (hs : s.size ≤ 1048576) :
    Calls Tryz.prog 78 #[.string s] w fun e w' => (∃ v, e = .returned (.tuple #[v, .bool (bodyOk s)]) ∧ (bodyOk s = true → Strs w' w.heap.size v (pieces ⟨#[13, 10]⟩ s).dropLast) ∧ (bodyOk s = false → v = .slice none 0 0)) ∧ Below w.heap.size w w' := by
  by_cases hA : 3000 < s.size
  · have G : bodyOk s = false := by unfold bodyOk; rw [decide_eq_false (by omega)]; rfl
    rw [G]
    go_enter Tryz.func78, Tryz.ntmps78
    go_wp2
    go_ret2
    exact ⟨⟨_, rfl, fun h => (by cases h), fun _ => rfl⟩, Below.refl _ _⟩
  · go_enter Tryz.func78, Tryz.ntmps78
    go_wp2_with fail
    refine (specSplit s _ _ hs (by decide) (by decide)).mono ?_
    rintro e w1 ⟨⟨v, rfl, S1⟩, hb1⟩
    have hE : bodyOk s = linesOk (pieces ⟨#[13, 10]⟩ s) := by unfold bodyOk; rw [decide_eq_true (by omega)]; rfl
    obtain ⟨g, cap, rfl, A1⟩ := strs_ne S1 (pieces_ne _ _)
    obtain ⟨n, hn⟩ : ∃ n, (pieces ⟨#[13, 10]⟩ s).length = n + 1 := ⟨(pieces ⟨#[13, 10]⟩ s).length - 1, by have := List.length_pos_iff.2 (pieces_ne ⟨#[13, 10]⟩ s); omega⟩
    have hpl := pieces_len ⟨#[13, 10]⟩ s
    have hsz : ∀ k (h : k < (pieces ⟨#[13, 10]⟩ s).length), (pieces ⟨#[13, 10]⟩ s)[k].size ≤ 1048576 := fun k h => Nat.le_trans (pieces_size (List.getElem_mem h)) hs
    have HF : Hid (Strs w1 w.heap.size (.slice (some ⟨g, 0, none⟩) n cap) (pieces ⟨#[13, 10]⟩ s).dropLast) := by
      have := strs_front S1 (m := n) (by omega)
      rw [List.dropLast_eq_take, hn, Nat.add_sub_cancel]; exact this
    have hcap := A1.cap
    have hlc := A1.len
    have hgl := A1.lt
    have cell := A1.cell
    clear S1 A1
    rw [hn] at hlc ⊢
    unfold maxLen at hcap
    generalize hLE : pieces ⟨#[13, 10]⟩ s = P at *
    have HP : Hid (pieces ⟨#[13, 10]⟩ s = P) := hLE
    clear hLE
    have HE : Hid (bodyOk s = linesOk P) := hE
    clear hE
    have cN := cell n (by omega)
    have CELL : Hid (∀ i (hi : i < P.length), w1.cell? ⟨g, i, none⟩ = some (.string P[i])) := cell
    clear cell
    have hN1 : ((n : Int) + 1 - 1) = n := by omega
    by_cases hx0 : (P[n]'(by omega)).size = 0
    · have hx1 := empty_of hx0
      rw [hx1] at cN
      have HZ : Hid ((P[n]'(by omega)).size = 0) := hx0
      clear hx0 hx1
      go_wp2
      go_loop [26] (fun iv => ∃ k : Nat, k ≤ n ∧ iv = .int .i64 k ∧ Hid (∀ j (h : j < n), j < k → lineOk (P[j]'(by omega)) = true)) (fun iv => n - (intOf iv).toNat)
      case atStart => exact ⟨0, Nat.zero_le _, rfl, fun j _ h => absurd h (Nat.not_lt_zero _)⟩
      case round =>
        obtain ⟨k, hk, rfl, HA⟩ := hrel
        by_cases hlt : k < n
        · have ec := CELL.out k (by omega)
          have hx := hsz k (by omega)
          have HB : Hid (lineOk (P[k]'(by omega)) = true → ∀ j (h : j < n), j < k + 1 → lineOk (P[j]'(by omega)) = true) := by
            intro h1 j h hj
            rcases Nat.lt_succ_iff_lt_or_eq.1 hj with hj | rfl
            · exact HA.out j h hj
            · exact h1
          have HC : Hid (lineOk (P[k]'(by omega)) = false → bodyOk s = false) := fun h => by rw [HE.out]; exact lines_bad hn hlt h
          have HLB : Hid (lineOk (P[k]'(by omega)) = (decide ((P[k]'(by omega)).size ≤ 998) && (!hasN (P[k]'(by omega)) 13 && (!hasN (P[k]'(by omega)) 10 && !hasN (P[k]'(by omega)) 0)))) := rfl
          generalize P[k]'(by omega) = x at *
          by_cases h998 : (998 : Int) < x.size
          · have G : Hid (bodyOk s = false) := HC.out (by rw [HLB.out, decide_eq_false (by omega)]; rfl)
            clear HB HC
            go_wp2
            go_ret2
            exact ⟨⟨_, by rw [G.out]; rfl, fun h => (by rw [G.out] at h; cases h), fun _ => rfl⟩, hb1⟩
          · cases h13 : hasN x 13 with
            | true =>
              have G : Hid (bodyOk s = false) := HC.out (by rw [HLB.out, h13]; simp)
              clear HB HC
              have k13 : hasN x (13 : Int).toNat = true := h13
              go_wp2_with (go_at_call 106; refine (specHasI x _ _ (by decide) hx).mono ?_; rintro e w' ⟨rfl, hw⟩; rw [hw, k13])
              go_ret2
              exact ⟨⟨_, by rw [G.out]; rfl, fun h => (by rw [G.out] at h; cases h), fun _ => rfl⟩, hb1⟩
            | false =>
              cases h10 : hasN x 10 with
              | true =>
                have G : Hid (bodyOk s = false) := HC.out (by rw [HLB.out, h13, h10]; simp)
                clear HB HC
                have k13 : hasN x (13 : Int).toNat = false := h13
                have k10 : hasN x (10 : Int).toNat = true := h10
                go_wp2_with (go_at_call 106; refine (specHasI x _ _ (by decide) hx).mono ?_; rintro e w' ⟨rfl, hw⟩; rw [hw]; first | rw [k13] | rw [k10])
                go_ret2
                exact ⟨⟨_, by rw [G.out]; rfl, fun h => (by rw [G.out] at h; cases h), fun _ => rfl⟩, hb1⟩
              | false =>
                cases h0 : hasN x 0 with
                | true =>
                  have G : Hid (bodyOk s = false) := HC.out (by rw [HLB.out, h13, h10, h0]; simp)
                  clear HB HC
                  have k13 : hasN x (13 : Int).toNat = false := h13
                  have k10 : hasN x (10 : Int).toNat = false := h10
                  have k0 : hasN x (0 : Int).toNat = true := h0
                  go_wp2_with (go_at_call 106; refine (specHasI x _ _ (by decide) hx).mono ?_; rintro e w' ⟨rfl, hw⟩; rw [hw]; first | rw [k13] | rw [k10] | rw [k0])
                  go_ret2
                  exact ⟨⟨_, by rw [G.out]; rfl, fun h => (by rw [G.out] at h; cases h), fun _ => rfl⟩, hb1⟩
                | false =>
                  have G : Hid (∀ j (h : j < n), j < k + 1 → lineOk (P[j]'(by omega)) = true) := HB.out (by rw [HLB.out, h13, h10, h0, decide_eq_true (by omega)]; rfl)
                  clear HB HC
                  have k13 : hasN x (13 : Int).toNat = false := h13
                  have k10 : hasN x (10 : Int).toNat = false := h10
                  have k0 : hasN x (0 : Int).toNat = false := h0
                  go_wp2_with (go_at_call 106; refine (specHasI x _ _ (by decide) hx).mono ?_; rintro e w' ⟨rfl, hw⟩; rw [hw]; first | rw [k13] | rw [k10] | rw [k0])
                  go_round
                  case rel => exact ⟨k + 1, by omega, by go_num, G.out⟩
                  case measure => simp [intOf]; omega
        · obtain rfl : k = n := by omega
          have G : Hid (bodyOk s = true) := by
            show _ = _
            rw [HE.out]
            exact lines_good hn (fun j h => HA.out j h h) HZ.out
          go_wp2
          go_ret2
          exact ⟨⟨_, by rw [G.out]; rfl, fun _ => by rw [HP.out]; exact HF.out, fun h => by rw [G.out] at h; cases h⟩, hb1⟩
    · have G : Hid (bodyOk s = false) := by
        show _ = _
        rw [HE.out]; exact lines_last hn hx0
      have hne2 : (P[n]'(by omega)).toList.isEmpty = false := list_ne2 hx0
      clear HE HF
      generalize P[n]'(by omega) = x at *
      go_wp2
      go_ret2
      exact ⟨⟨_, by rw [G.out]; rfl, fun h => (by rw [G.out] at h; cases h), fun _ => rfl⟩, hb1⟩
theorem specLines (s : ByteArray) (w : World) (hs : s.size ≤ 1048576) :
    Calls Tryz.prog 78 #[.string s] w fun e w' => (∃ v, e = .returned (.tuple #[v, .bool (bodyOk s)]) ∧ (bodyOk s = true → Strs w' w.heap.size v (pieces ⟨#[13, 10]⟩ s).dropLast)) ∧ Below w.heap.size w w' :=
  (specLines2 s w hs).mono fun _ _ ⟨⟨v, h1, h2, _⟩, h3⟩ => ⟨⟨v, h1, h2⟩, h3⟩
end Go.Proofs.YtngcjlghjidnjaaGreatDoor
