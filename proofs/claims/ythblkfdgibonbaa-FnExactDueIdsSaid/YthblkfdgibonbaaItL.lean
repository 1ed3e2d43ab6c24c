import Derived.Test.YthblkfdgibonbaaItM
import Derived.Test.YthblkfdgibonbaaMsgL
import Derived.Test.YthblkfdgibonbaaToVd
namespace Go.Proofs.Ythblkfdgibonbaa
open Go.ChangeShapes Go.WideShapes Go.ChangeAt Go.RowKit
attribute [local go_sem ↓] Go.wp_at_zero Go.wp_at_succ

/-- the cells of an item -/
def ItC (w : World) (b o : Nat) (x : It) (rv vv : Value) : Prop :=
  w.cell? ⟨b, o, none⟩ = some (.int .i64 x.id) ∧ w.cell? ⟨b, o + 1, none⟩ = some (.int .i64 x.born) ∧ w.cell? ⟨b, o + 2, none⟩ = some (.string x.fr) ∧ w.cell? ⟨b, o + 3, none⟩ = some rv ∧ w.cell? ⟨b, o + 4, none⟩ = some (.string x.bo) ∧ w.cell? ⟨b, o + 5, none⟩ = some vv ∧ w.cell? ⟨b, o + 6, none⟩ = some (.int .i64 x.tr) ∧ w.cell? ⟨b, o + 7, none⟩ = some (.int .i64 x.du) ∧ w.cell? ⟨b, o + 8, none⟩ = some (.bool x.bn)
theorem ItC.below {w w1 : World} {N b o : Nat} {x : It} {rv vv : Value} (h : ItC w b o x rv vv) (hb : Below N w w1) (hN : b < N) : ItC w1 b o x rv vv := by
  obtain ⟨h0, h1, h2, h3, h4, h5, h6, h7, h8⟩ := h
  exact ⟨(hb.cell (p := ⟨b, o, none⟩) hN).trans h0, (hb.cell (p := ⟨b, o + 1, none⟩) hN).trans h1, (hb.cell (p := ⟨b, o + 2, none⟩) hN).trans h2, (hb.cell (p := ⟨b, o + 3, none⟩) hN).trans h3, (hb.cell (p := ⟨b, o + 4, none⟩) hN).trans h4, (hb.cell (p := ⟨b, o + 5, none⟩) hN).trans h5, (hb.cell (p := ⟨b, o + 6, none⟩) hN).trans h6, (hb.cell (p := ⟨b, o + 7, none⟩) hN).trans h7, (hb.cell (p := ⟨b, o + 8, none⟩) hN).trans h8⟩
/-- an item that can be read -/
def ArgIt (w : World) (x : It) (rv vv : Value) : Prop := ArgS w rv x.R ∧ ArgV w vv x.V ∧ x.fr.size ≤ maxLen ∧ x.bo.size ≤ maxLen
theorem ArgIt.below {w w1 : World} {x : It} {rv vv : Value} (h : ArgIt w x rv vv) (hb : Below w.heap.size w w1) : ArgIt w1 x rv vv := ⟨h.1.below hb, h.2.1.below hb, h.2.2⟩
/-- a slice of items that can be read -/
def ArgI (w : World) (v : Value) (L : List It) : Prop :=
  L.length ≤ maxLen ∧ ((L = [] ∧ ∃ a c, v = .slice a 0 c) ∨ ∃ b off cap, v = .slice (some ⟨b, off, none⟩) L.length cap ∧ b < w.heap.size ∧ ∀ i (hi : i < L.length), ∃ rv vv, ItC w b (off + i * 9) L[i] rv vv ∧ ArgIt w L[i] rv vv)
theorem ArgI.below {w w1 : World} {v : Value} {L : List It} (h : ArgI w v L) (hb : Below w.heap.size w w1) : ArgI w1 v L := by
  refine ⟨h.1, ?_⟩
  rcases h.2 with h0 | ⟨b, off, cap, hv, hlt, hc⟩
  · exact .inl h0
  · refine .inr ⟨b, off, cap, hv, Nat.lt_of_lt_of_le hlt hb.size, fun i hi => ?_⟩
    obtain ⟨rv, vv, h1, h2⟩ := hc i hi
    exact ⟨rv, vv, h1.below hb hlt, h2.below hb⟩
theorem ArgI.form {w : World} {v : Value} {L : List It} (h : ArgI w v L) : ∃ a c, v = .slice a L.length c := by
  rcases h.2 with ⟨rfl, a, c, rfl⟩ | ⟨b, off, cap, rfl, _⟩
  · exact ⟨_, _, rfl⟩
  · exact ⟨_, _, rfl⟩
/-- all parts of an item are small -/
def SmallI (x : It) : Prop := x.fr.size ≤ 1048576 ∧ x.bo.size ≤ 1048576 ∧ x.R.length ≤ 1048576 ∧ (∀ s ∈ x.R, s.size ≤ 1048576) ∧ x.V.length ≤ 1048576 ∧ ∀ y ∈ x.V, y.2.2.size ≤ 1048576
/-- how many places an item's lists have -/
def itN (x : It) : Nat := x.R.length + x.V.length
def itsN (L : List It) : Nat := (L.map itN).sum
theorem itsN_take {L : List It} {k : Nat} (h : k < L.length) : itsN (L.take (k + 1)) = itsN (L.take k) + itN L[k] := by
  unfold itsN; rw [List.take_succ_eq_append_getElem h, List.map_append, List.sum_append]; simp only [List.map_cons, List.map_nil, List.sum_cons, List.sum_nil, Nat.add_zero]

set_option maxHeartbeats 4000000 in
set_option maxRecDepth 100000 in
theorem szIt (x : It) (rv vv : Value) (n : Int) (w : World) (h : ArgIt w x rv vv) (hn : 0 ≤ n) (hn2 : n ≤ 1048576) :
    Calls Try.prog 48 #[.agg #[.int .i64 x.id, .int .i64 x.born, .string x.fr, rv, .string x.bo, vv, .int .i64 x.tr, .int .i64 x.du, .bool x.bn], .int .i64 n] w fun e w' => (∃ q : Int, e = .returned (.int .i64 q) ∧ (q < 0 ∨ (0 ≤ q ∧ q + (itN x : Int) ≤ n ∧ SmallI x))) ∧ Below w.heap.size w w' := by
  obtain ⟨h3, h5, m1, m2⟩ := h
  have H3 : Hid (ArgS w rv x.R) := h3
  have H5 : Hid (ArgV w vv x.V) := h5
  obtain ⟨a3, c3, rfl⟩ := args_formM h3
  obtain ⟨a5, c5, rfl⟩ := h5.form
  clear h3 h5
  go_enter Try.func48, Try.ntmps48
  go_wp2_with fail
  generalize hW : w.alloc _ = W
  have hA : Hid (Blk w.heap.size #[.int .i64 x.id, .int .i64 x.born, .string x.fr, .slice a3 x.R.length c3, .string x.bo, .slice a5 x.V.length c5, .int .i64 x.tr, .int .i64 x.du, .bool x.bn] W) := by show Blk _ _ _; rw [← hW]; exact Blk.new w _ _
  have bw : Below w.heap.size w W := by rw [← hW]; exact below1 _ _
  clear hW
  refine (szMsg x.id x.born x.fr x.bo x.R _ n _ (H3.out.below bw) m1 m2 hn hn2).mono ?_
  rintro e w1 ⟨⟨q, rfl, hq⟩, hb1⟩
  have b1 : Below w.heap.size w w1 := bw.trans (hb1.mono bw.size)
  have x5 : w1.cell? ⟨w.heap.size, 5, none⟩ = some (.slice a5 x.V.length c5) := (hA.out.below hb1).cell 5
  clear hb1 hA bw
  by_cases hq0 : q < 0
  · go_wp2
    go_ret
    exact ⟨⟨_, rfl, .inl (by decide)⟩, b1⟩
  have HQ : Hid (0 ≤ q ∧ q + (x.R.length : Int) ≤ n ∧ (x.fr.size : Int) ≤ n ∧ (x.bo.size : Int) ≤ n ∧ (x.R.length : Int) ≤ n ∧ (sumSz x.R : Int) ≤ n) := hq.resolve_left hq0
  have hq1 : q ≤ n := by have := HQ.out.2.1; omega
  clear hq
  go_wp2_with fail
  refine (szVds _ x.V q _ (H5.out.below b1) (by omega) (by omega)).mono ?_
  rintro e w2 ⟨⟨q2, rfl, hq2⟩, hb2⟩
  have b2 : Below w.heap.size w w2 := b1.trans (hb2.mono b1.size)
  clear hb2 x5
  by_cases hq3 : q2 < 0
  · go_wp2
    go_ret
    exact ⟨⟨_, rfl, .inl (by decide)⟩, b2⟩
  have HV : Hid (0 ≤ q2 ∧ q2 + (x.V.length : Int) ≤ q ∧ (x.V.length : Int) ≤ q ∧ ∀ y ∈ x.V, (y.2.2.size : Int) ≤ q) := hq2.resolve_left hq3
  clear hq2
  go_wp2
  go_ret
  obtain ⟨g1, g2, g3, g4, g5, g6⟩ := HQ.out
  obtain ⟨k1, k2, k3, k4⟩ := HV.out
  refine ⟨⟨q2, rfl, .inr ⟨k1, by unfold itN; omega, by omega, by omega, by omega, sum_allR (by omega), by omega, fun y hy => ?_⟩⟩, b2⟩
  have := k4 y hy
  omega

set_option maxHeartbeats 4000000 in
set_option maxRecDepth 100000 in
theorem szIts (v : Value) (L : List It) (n : Int) (w : World) (h : ArgI w v L) (hn : 0 ≤ n) (hn2 : n ≤ 1048576) :
    Calls Try.prog 36 #[v, .int .i64 n] w fun e w' => (∃ r : Int, e = .returned (.int .i64 r) ∧ (r < 0 ∨ (0 ≤ r ∧ r + (L.length : Int) + (itsN L : Int) ≤ n ∧ ∀ x ∈ L, SmallI x))) ∧ Below w.heap.size w w' := by
  have hm := h.1
  unfold maxLen at hm
  by_cases h0 : L.length = 0
  · obtain ⟨a, c, rfl⟩ := h.form
    have hL := List.eq_nil_of_length_eq_zero h0
    subst hL
    clear h h0
    go_enter Try.func36, Try.ntmps36
    go_wp2
    refine wp_loop_rounds 1 ?_; rw [rounds_succ]
    go_wp2
    go_ret
    exact ⟨⟨_, rfl, .inr ⟨by first | omega | (simp; omega), by simp [itsN], (fun x hx => by cases hx)⟩⟩, Below.refl _ _⟩
  · obtain ⟨b, off, cap, rfl, hlt, hc⟩ : ∃ b off cap, v = .slice (some ⟨b, off, none⟩) L.length cap ∧ b < w.heap.size ∧ ∀ i (hi : i < L.length), ∃ rv vv, ItC w b (off + i * 9) L[i] rv vv ∧ ArgIt w L[i] rv vv := by
      rcases h.2 with ⟨hL, _⟩ | h
      · rw [hL] at h0; exact absurd rfl h0
      · exact h
    have HC : Hid (∀ i (hi : i < L.length), ∃ rv vv, ItC w b (off + i * 9) L[i] rv vv ∧ ArgIt w L[i] rv vv) := hc
    clear h hc
    by_cases c1 : n - (L.length : Int) < 0
    · go_enter Try.func36, Try.ntmps36
      go_wp2
      go_ret
      exact ⟨⟨_, rfl, .inl (by decide)⟩, Below.refl _ _⟩
    · go_enter Try.func36, Try.ntmps36
      go_wp2
      go_loopw [1, 5] (fun lv iv wr => ∃ (k : Nat) (l : Int), k ≤ L.length ∧ iv = .int .i64 k ∧ lv = .int .i64 l ∧ 0 ≤ l ∧ Hid (l + (L.length : Int) + (itsN (L.take k) : Int) ≤ n) ∧ Below w.heap.size w wr ∧ Hid (∀ j (hj : j < L.length), j < k → SmallI L[j])) (fun _ iv _ => L.length - (intOf iv).toNat)
      case atStart => exact ⟨0, n - (L.length : Int), Nat.zero_le _, rfl, rfl, by omega, by show _ ≤ _; simp [itsN], Below.refl _ _, fun j _ hj => absurd hj (Nat.not_lt_zero _)⟩
      case round =>
        obtain ⟨k, l, hk, rfl, rfl, hl0, Hln, hb, HK⟩ := hrel
        by_cases hlt2 : k < L.length
        · obtain ⟨rv, vv, hC, hA⟩ := HC.out k hlt2
          obtain ⟨x0, x1, x2, x3, x4, x5, x6, x7, x8⟩ := hC.below hb hlt
          have HA : Hid (ArgIt wr L[k] rv vv) := hA.below hb
          have hl1 : l ≤ 1048576 := by have := Hln.out; omega
          have HG : Hid (SmallI L[k] → ∀ j (hj : j < L.length), j < k + 1 → SmallI L[j]) := by
            intro h j hj hj2
            by_cases e : j = k
            · subst e; exact h
            · exact HK.out j hj (by omega)
          have HT : Hid (itsN (L.take (k + 1)) = itsN (L.take k) + itN L[k]) := itsN_take hlt2
          clear hC hA HK
          obtain ⟨a3, c3, rfl⟩ := args_formM HA.out.1
          obtain ⟨a5, c5, rfl⟩ := HA.out.2.1.form
          generalize L[k] = X at *
          go_wp2_with fail
          refine (szIt X _ _ l _ HA.out hl0 hl1).mono ?_
          rintro e w1 ⟨⟨r, rfl, hr⟩, hb1⟩
          have b1 : Below w.heap.size w w1 := hb.trans (hb1.mono hb.size)
          clear hb1 x0 x1 x2 x3 x4 x5 x6 x7 x8
          by_cases hr0 : r < 0
          · go_wp2
            go_ret
            exact ⟨⟨_, rfl, .inl (by decide)⟩, b1⟩
          · obtain ⟨r1, r2, r3⟩ := hr.resolve_left hr0
            have HG2 : Hid (∀ j (hj : j < L.length), j < k + 1 → SmallI L[j]) := HG.out r3
            have Hln2 : Hid (r + (L.length : Int) + (itsN (L.take (k + 1)) : Int) ≤ n) := by show _ ≤ _; have := Hln.out; rw [HT.out]; omega
            clear HG hr r2 r3
            go_wp2
            go_roundw
            case rel => exact ⟨k + 1, r, by omega, by go_num, rfl, r1, Hln2, b1, HG2⟩
            case measure => simp [intOf]; omega
        · obtain rfl : k = L.length := by omega
          go_wp2
          go_ret
          refine ⟨⟨_, rfl, .inr ⟨hl0, ?_, fun x hx => ?_⟩⟩, hb⟩
          · have := Hln.out; rw [List.take_length] at this; exact this
          · obtain ⟨j, hj, rfl⟩ := List.getElem_of_mem hx
            exact HK.out j hj hj

set_option maxHeartbeats 2000000 in
set_option maxRecDepth 100000 in
theorem szQu (v : Value) (nx : Int) (L : List It) (w : World) (h : ArgI w v L) :
    Calls Try.prog 13 #[.agg #[v, .int .i64 nx], .int .i64 1048576] w fun e w' => (∃ r : Int, e = .returned (.int .i64 r) ∧ (r < 0 ∨ (0 ≤ r ∧ r + (L.length : Int) + (itsN L : Int) ≤ 1048576 ∧ ∀ x ∈ L, SmallI x))) ∧ Below w.heap.size w w' := by
  have H : Hid (ArgI w v L) := h
  obtain ⟨a, c, rfl⟩ := h.form
  clear h
  go_enter Try.func13, Try.ntmps13
  go_wp2_with fail
  generalize hW : w.alloc _ = W
  have bw : Below w.heap.size w W := by rw [← hW]; exact below1 _ _
  clear hW
  refine (szIts _ L 1048576 _ (H.out.below bw) (by decide) (by decide)).mono ?_
  rintro e w1 ⟨⟨r, rfl, hr⟩, hb1⟩
  have b1 : Below w.heap.size w w1 := bw.trans (hb1.mono bw.size)
  have HR : Hid (r < 0 ∨ (0 ≤ r ∧ r + (L.length : Int) + (itsN L : Int) ≤ 1048576 ∧ ∀ x ∈ L, SmallI x)) := hr
  clear hr hb1
  by_cases hr0 : r < 0
  · go_wp2
    go_ret
    exact ⟨⟨_, rfl, .inl (by decide)⟩, b1⟩
  · go_wp2
    go_ret
    exact ⟨⟨_, rfl, HR.out⟩, b1⟩
end Go.Proofs.Ythblkfdgibonbaa
