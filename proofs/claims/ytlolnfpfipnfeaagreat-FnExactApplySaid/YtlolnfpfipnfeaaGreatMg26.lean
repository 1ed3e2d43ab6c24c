import Derived.Test.YtlolnfpfipnfeaaGreatMg19
import Derived.Test.YtlolnfpfipnfeaaGreatMg22
import Derived.Test.YtlolnfpfipnfeaaGreatMg25
namespace Go.Proofs.YtlolnfpfipnfeaaGreat
open Go.ChangeShapes Go.WideShapes Go.ChangeAt Go.RowKit
attribute [local go_sem ↓] Go.wp_at_zero Go.wp_at_succ

/-- the cells of an item -/
def ItC (w : World) (b o : Nat) (x : It) (rv vv : Value) : Prop :=
  w.cell? ⟨b, o, none⟩ = some (.int .i64 x.id) ∧ w.cell? ⟨b, o + 1, none⟩ = some (.int .i64 x.born) ∧ w.cell? ⟨b, o + 2, none⟩ = some (.string x.fr) ∧ w.cell? ⟨b, o + 3, none⟩ = some rv ∧ w.cell? ⟨b, o + 4, none⟩ = some (.string x.bo) ∧ w.cell? ⟨b, o + 5, none⟩ = some vv ∧ w.cell? ⟨b, o + 6, none⟩ = some (.int .i64 x.tr) ∧ w.cell? ⟨b, o + 7, none⟩ = some (.int .i64 x.du) ∧ w.cell? ⟨b, o + 8, none⟩ = some (.bool x.bn)
theorem ItC.below {w w1 : World} {N b o : Nat} {x : It} {rv vv : Value} (h : ItC w b o x rv vv) (hb : Below N w w1) (hN : b < N) : ItC w1 b o x rv vv := by
  obtain ⟨h0, h1, h2, h3, h4, h5, h6, h7, h8⟩ := h
  exact ⟨(hb.cell (p := ⟨b, o, none⟩) hN).trans h0, (hb.cell (p := ⟨b, o + 1, none⟩) hN).trans h1, (hb.cell (p := ⟨b, o + 2, none⟩) hN).trans h2, (hb.cell (p := ⟨b, o + 3, none⟩) hN).trans h3, (hb.cell (p := ⟨b, o + 4, none⟩) hN).trans h4, (hb.cell (p := ⟨b, o + 5, none⟩) hN).trans h5, (hb.cell (p := ⟨b, o + 6, none⟩) hN).trans h6, (hb.cell (p := ⟨b, o + 7, none⟩) hN).trans h7, (hb.cell (p := ⟨b, o + 8, none⟩) hN).trans h8⟩
/-- an item that can be read -/
def ArgIt (w : World) (x : It) (rv vv : Value) : Prop := ArgS w rv x.R ∧ ArgV w vv x.V ∧ x.fr.size ≤ maxLen ∧ x.bo.size ≤ maxLen
theorem ArgIt.below {w w1 : World} {x : It} {rv vv : Value} (h : ArgIt w x rv vv) (hb : Below w.heap.size w w1) : ArgIt w1 x rv vv := ⟨h.1.below hb, h.2.1.below hb, h.2.2⟩
/-- a slice of items that can be read -/
def ArgI (w : World) (v : Value) (L : List It) : Prop :=
  L.length ≤ maxLen ∧ ((L = [] ∧ ∃ a c, v = .slice a 0 c) ∨ ∃ b off cap, v = .slice (some ⟨b, off, none⟩) L.length cap ∧ b < w.heap.size ∧ ∀ i (hi : i < L.length), ∃ rv vv, ItC w b (off + i * 9) L[i] rv vv ∧ ArgIt w L[i] rv vv)
theorem ArgI.below {w w1 : World} {v : Value} {L : List It} (h : ArgI w v L) (hb : Below w.heap.size w w1) : ArgI w1 v L := by
  refine ⟨h.1, ?_⟩
  rcases h.2 with h0 | ⟨b, off, cap, hv, hlt, hc⟩
  · exact .inl h0
  · refine .inr ⟨b, off, cap, hv, Nat.lt_of_lt_of_le hlt hb.size, fun i hi => ?_⟩
    obtain ⟨rv, vv, h1, h2⟩ := hc i hi
    exact ⟨rv, vv, h1.below hb hlt, h2.below hb⟩
theorem ArgI.form {w : World} {v : Value} {L : List It} (h : ArgI w v L) : ∃ a c, v = .slice a L.length c := by
  rcases h.2 with ⟨rfl, a, c, rfl⟩ | ⟨b, off, cap, rfl, _⟩
  · exact ⟨_, _, rfl⟩
  · exact ⟨_, _, rfl⟩
/-- all parts of an item are small -/
def SmallI (x : It) : Prop := x.fr.size ≤ 1048576 ∧ x.bo.size ≤ 1048576 ∧ x.R.length ≤ 1048576 ∧ (∀ s ∈ x.R, s.size ≤ 1048576) ∧ x.V.length ≤ 1048576 ∧ ∀ y ∈ x.V, y.2.2.size ≤ 1048576
/-- how many places an item's lists have -/
def itN (x : It) : Nat := x.R.length + x.V.length
def itsN (L : List It) : Nat := (L.map itN).sum
theorem itsN_take {L : List It} {k : Nat} (h : k < L.length) : itsN (L.take (k + 1)) = itsN (L.take k) + itN L[k] := by
  unfold itsN; rw [List.take_succ_eq_append_getElem h, List.map_append, List.sum_append]; simp only [List.map_cons, List.map_nil, List.sum_cons, List.sum_nil, Nat.add_zero]

set_option maxHeartbeats 4000000 in
set_option maxRecDepth 100000 in
theorem szIt (x : It) (rv vv : Value) (n : Int) (w : World) (h : ArgIt w x rv vv) (hn : 0 ≤ n) (hn2 : n ≤ 1048576) :
    Calls Tryz.prog 35 #[.agg #[.int .i64 x.id, .int .i64 x.born, .string x.fr, rv, .string x.bo, vv, .int .i64 x.tr, .int .i64 x.du, .bool x.bn], .int .i64 n] w fun e w' => (∃ q : Int, e = .returned (.int .i64 q) ∧ (q < 0 ∨ (0 ≤ q ∧ q + (itN x : Int) ≤ n ∧ SmallI x))) ∧ Below w.heap.size w w' := by
  obtain ⟨h3, h5, m1, m2⟩ := h
  have H3 : Hid (ArgS w rv x.R) := h3
  have H5 : Hid (ArgV w vv x.V) := h5
  obtain ⟨a3, c3, rfl⟩ := args_formM h3
  obtain ⟨a5, c5, rfl⟩ := h5.form
  clear h3 h5
  go_enter Tryz.func35, Tryz.ntmps35
  go_wp2_with fail
  generalize hW : w.alloc _ = W
  have hA : Hid (Blk w.heap.size #[.int .i64 x.id, .int .i64 x.born, .string x.fr, .slice a3 x.R.length c3, .string x.bo, .slice a5 x.V.length c5, .int .i64 x.tr, .int .i64 x.du, .bool x.bn] W) := by show Blk _ _ _; rw [← hW]; exact Blk.new w _ _
  have bw : Below w.heap.size w W := by rw [← hW]; exact below1 _ _
  clear hW
  refine (szMsg x.id x.born x.fr x.bo x.R _ n _ (H3.out.below bw) m1 m2 hn hn2).mono ?_
  rintro e w1 ⟨⟨q, rfl, hq⟩, hb1⟩
  have b1 : Below w.heap.size w w1 := bw.trans (hb1.mono bw.size)
  have x5 : w1.cell? ⟨w.heap.size, 5, none⟩ = some (.slice a5 x.V.length c5) := (hA.out.below hb1).cell 5
  clear hb1 hA bw
  by_cases hq0 : q < 0
  · go_wp2
    go_ret
    exact ⟨⟨_, rfl, .inl (by decide)⟩, b1⟩
  have HQ : Hid (0 ≤ q ∧ q + (x.R.length : Int) ≤ n ∧ (x.fr.size : Int) ≤ n ∧ (x.bo.size : Int) ≤ n ∧ (x.R.length : Int) ≤ n ∧ (sumSz x.R : Int) ≤ n) := hq.resolve_left hq0
  have hq1 : q ≤ n := by have := HQ.out.2.1; omega
  clear hq
  go_wp2_with fail
  refine (szVds _ x.V q _ (H5.out.below b1) (by omega) (by omega)).mono ?_
  rintro e w2 ⟨⟨q2, rfl, hq2⟩, hb2⟩
  have b2 : Below w.heap.size w w2 := b1.trans (hb2.mono b1.size)
  clear hb2 x5
  by_cases hq3 : q2 < 0
  · go_wp2
    go_ret
    exact ⟨⟨_, rfl, .inl (by decide)⟩, b2⟩
  have HV : Hid (0 ≤ q2 ∧ q2 + (x.V.length : Int) ≤ q ∧ (x.V.length : Int) ≤ q ∧ ∀ y ∈ x.V, (y.2.2.size : Int) ≤ q) := hq2.resolve_left hq3
  clear hq2
  go_wp2
  go_ret
  obtain ⟨g1, g2, g3, g4, g5, g6⟩ := HQ.out
  obtain ⟨k1, k2, k3, k4⟩ := HV.out
  refine ⟨⟨q2, rfl, .inr ⟨k1, by unfold itN; omega, by omega, by omega, by omega, sum_allR (by omega), by omega, fun y hy => ?_⟩⟩, b2⟩
  have := k4 y hy
  omega

set_option maxHeartbeats 4000000 in
set_option maxRecDepth 100000 in
theorem szIts (v : Value) (L : List It) (n : Int) (w : World) (h : ArgI w v L) (hn : 0 ≤ n) (hn2 : n ≤ 1048576) :
    Calls Tryz.prog 15 #[v, .int .i64 n] w fun e w' => (∃ r : Int, e = .returned (.int .i64 r) ∧ (r < 0 ∨ (0 ≤ r ∧ r + (L.length : Int) + (itsN L : Int) ≤ n ∧ ∀ x ∈ L, SmallI x))) ∧ Below w.heap.size w w' := by
  have hm := h.1
  unfold maxLen at hm
  by_cases h0 : L.length = 0
  · obtain ⟨a, c, rfl⟩ := h.form
    have hL := List.eq_nil_of_length_eq_zero h0
    subst hL
    clear h h0
    go_enter Tryz.func15, Tryz.ntmps15
    go_wp2
    refine wp_loop_rounds 1 ?_; rw [rounds_succ]
    go_wp2
    go_ret
    exact ⟨⟨_, rfl, .inr ⟨by first | omega | (simp; omega), by simp [itsN], (fun x hx => by cases hx)⟩⟩, Below.refl _ _⟩
  · obtain ⟨b, off, cap, rfl, hlt, hc⟩ : ∃ b off cap, v = .slice (some ⟨b, off, none⟩) L.length cap ∧ b < w.heap.size ∧ ∀ i (hi : i < L.length), ∃ rv vv, ItC w b (off + i * 9) L[i] rv vv ∧ ArgIt w L[i] rv vv := by
      rcases h.2 with ⟨hL, _⟩ | h
      · rw [hL] at h0; exact absurd rfl h0
      · exact h
    have HC : Hid (∀ i (hi : i < L.length), ∃ rv vv, ItC w b (off + i * 9) L[i] rv vv ∧ ArgIt w L[i] rv vv) := hc
    clear h hc
    by_cases c1 : n - (L.length : Int) < 0
    · go_enter Tryz.func15, Tryz.ntmps15
      go_wp2
      go_ret
      exact ⟨⟨_, rfl, .inl (by decide)⟩, Below.refl _ _⟩
    · go_enter Tryz.func15, Tryz.ntmps15
      go_wp2
      go_loopw [1, 5] (fun lv iv wr => ∃ (k : Nat) (l : Int), k ≤ L.length ∧ iv = .int .i64 k ∧ lv = .int .i64 l ∧ 0 ≤ l ∧ Hid (l + (L.length : Int) + (itsN (L.take k) : Int) ≤ n) ∧ Below w.heap.size w wr ∧ Hid (∀ j (hj : j < L.length), j < k → SmallI L[j])) (fun _ iv _ => L.length - (intOf iv).toNat)
      case atStart => exact ⟨0, n - (L.length : Int), Nat.zero_le _, rfl, rfl, by omega, by show _ ≤ _; simp [itsN], Below.refl _ _, fun j _ hj => absurd hj (Nat.not_lt_zero _)⟩
      case round =>
        obtain ⟨k, l, hk, rfl, rfl, hl0, Hln, hb, HK⟩ := hrel
        by_cases hlt2 : k < L.length
        · obtain ⟨rv, vv, hC, hA⟩ := HC.out k hlt2
          obtain ⟨x0, x1, x2, x3, x4, x5, x6, x7, x8⟩ := hC.below hb hlt
          have HA : Hid (ArgIt wr L[k] rv vv) := hA.below hb
          have hl1 : l ≤ 1048576 := by have := Hln.out; omega
          have HG : Hid (SmallI L[k] → ∀ j (hj : j < L.length), j < k + 1 → SmallI L[j]) := by
            intro h j hj hj2
            by_cases e : j = k
            · subst e; exact h
            · exact HK.out j hj (by omega)
          have HT : Hid (itsN (L.take (k + 1)) = itsN (L.take k) + itN L[k]) := itsN_take hlt2
          clear hC hA HK
          obtain ⟨a3, c3, rfl⟩ := args_formM HA.out.1
          obtain ⟨a5, c5, rfl⟩ := HA.out.2.1.form
          generalize L[k] = X at *
          go_wp2_with fail
          refine (szIt X _ _ l _ HA.out hl0 hl1).mono ?_
          rintro e w1 ⟨⟨r, rfl, hr⟩, hb1⟩
          have b1 : Below w.heap.size w w1 := hb.trans (hb1.mono hb.size)
          clear hb1 x0 x1 x2 x3 x4 x5 x6 x7 x8
          by_cases hr0 : r < 0
          · go_wp2
            go_ret
            exact ⟨⟨_, rfl, .inl (by decide)⟩, b1⟩
          · obtain ⟨r1, r2, r3⟩ := hr.resolve_left hr0
            have HG2 : Hid (∀ j (hj : j < L.length), j < k + 1 → SmallI L[j]) := HG.out r3
            have Hln2 : Hid (r + (L.length : Int) + (itsN (L.take (k + 1)) : Int) ≤ n) := by show _ ≤ _; have := Hln.out; rw [HT.out]; omega
            clear HG hr r2 r3
            go_wp2
            go_roundw
            case rel => exact ⟨k + 1, r, by omega, by go_num, rfl, r1, Hln2, b1, HG2⟩
            case measure => simp [intOf]; omega
        · obtain rfl : k = L.length := by omega
          go_wp2
          go_ret
          refine ⟨⟨_, rfl, .inr ⟨hl0, ?_, fun x hx => ?_⟩⟩, hb⟩
          · have := Hln.out; rw [List.take_length] at this; exact this
          · obtain ⟨j, hj, rfl⟩ := List.getElem_of_mem hx
            exact HK.out j hj hj

set_option maxHeartbeats 2000000 in
set_option maxRecDepth 100000 in
theorem szQu (v : Value) (nx : Int) (L : List It) (w : World) (h : ArgI w v L) :
    Calls Tryz.prog 4 #[.agg #[v, .int .i64 nx], .int .i64 1048576] w fun e w' => (∃ r : Int, e = .returned (.int .i64 r) ∧ (r < 0 ∨ (0 ≤ r ∧ r + (L.length : Int) + (itsN L : Int) ≤ 1048576 ∧ ∀ x ∈ L, SmallI x))) ∧ Below w.heap.size w w' := by
  have H : Hid (ArgI w v L) := h
  obtain ⟨a, c, rfl⟩ := h.form
  clear h
  go_enter Tryz.func4, Tryz.ntmps4
  go_wp2_with fail
  generalize hW : w.alloc _ = W
  have bw : Below w.heap.size w W := by rw [← hW]; exact below1 _ _
  clear hW
  refine (szIts _ L 1048576 _ (H.out.below bw) (by decide) (by decide)).mono ?_
  rintro e w1 ⟨⟨r, rfl, hr⟩, hb1⟩
  have b1 : Below w.heap.size w w1 := bw.trans (hb1.mono bw.size)
  have HR : Hid (r < 0 ∨ (0 ≤ r ∧ r + (L.length : Int) + (itsN L : Int) ≤ 1048576 ∧ ∀ x ∈ L, SmallI x)) := hr
  clear hr hb1
  by_cases hr0 : r < 0
  · go_wp2
    go_ret
    exact ⟨⟨_, rfl, .inl (by decide)⟩, b1⟩
  · go_wp2
    go_ret
    exact ⟨⟨_, rfl, HR.out⟩, b1⟩
end Go.Proofs.YtlolnfpfipnfeaaGreat
namespace Go.Proofs.YtlolnfpfipnfeaaGreat
open Go.ChangeShapes Go.WideShapes Go.ChangeAt Go.RowKit
attribute [local go_sem ↓] Go.wp_at_zero Go.wp_at_succ

set_option maxHeartbeats 4000000 in
set_option maxRecDepth 100000 in
theorem toIt (x : It) (rv vv : Value) (w : World) (h : ArgIt w x rv vv) (hs : SmallI x) :
    Calls Tryz.prog 45 #[.agg #[.int .i64 x.id, .int .i64 x.born, .string x.fr, rv, .string x.bo, vv, .int .i64 x.tr, .int .i64 x.du, .bool x.bn]] w fun e w' => (∃ u1 u2, e = .returned (.agg #[.int .i64 x.id, .int .i64 x.born, .string x.fr, u1, .string x.bo, u2, .int .i64 x.tr, .int .i64 x.du, .bool x.bn]) ∧ Strs w' w.heap.size u1 x.R ∧ Vds w' w.heap.size u2 x.V) ∧ Below w.heap.size w w' := by
  obtain ⟨h3, h5, _, _⟩ := h
  obtain ⟨_, _, hR, _, hV, _⟩ := hs
  have H3 : Hid (ArgS w rv x.R) := h3
  have H5 : Hid (ArgV w vv x.V) := h5
  obtain ⟨a3, c3, rfl⟩ := args_formM h3
  obtain ⟨a5, c5, rfl⟩ := h5.form
  clear h3 h5
  go_enter Tryz.func45, Tryz.ntmps45
  go_wp2_with fail
  generalize hW : ((w.alloc _).alloc _).alloc _ = W
  have hA : Hid (Blk w.heap.size #[.int .i64 x.id, .int .i64 x.born, .string x.fr, .slice a3 x.R.length c3, .string x.bo, .slice a5 x.V.length c5, .int .i64 x.tr, .int .i64 x.du, .bool x.bn] W) := by
    show Blk _ _ _
    rw [← hW]
    exact ((Blk.new w _ _).below (below1 _ _)).below (below1 _ _)
  have hRb : Hid (Blk (w.heap.size + 1) #[.int .i64 0, .int .i64 0, .string ⟨#[]⟩, .slice none 0 0, .string ⟨#[]⟩, .slice none 0 0, .int .i64 0, .int .i64 0, .bool false] W) := by
    show Blk _ _ _
    rw [← hW]
    have := (Blk.new (w.alloc (.cells #[.int .i64 x.id, .int .i64 x.born, .string x.fr, .slice a3 x.R.length c3, .string x.bo, .slice a5 x.V.length c5, .int .i64 x.tr, .int .i64 x.du, .bool x.bn] 78)) #[.int .i64 0, .int .i64 0, .string ⟨#[]⟩, .slice none 0 0, .string ⟨#[]⟩, .slice none 0 0, .int .i64 0, .int .i64 0, .bool false] 57).below (below1 _ (.cells #[.int .i64 0, .int .i64 0, .string ⟨#[]⟩, .slice none 0 0, .string ⟨#[]⟩, .slice none 0 0, .int .i64 0, .int .i64 0, .bool false] 57))
    simpa using this
  have hO : Hid (Blk (w.heap.size + 1 + 1) #[.int .i64 0, .int .i64 0, .string ⟨#[]⟩, .slice none 0 0, .string ⟨#[]⟩, .slice none 0 0, .int .i64 0, .int .i64 0, .bool false] W) := by
    show Blk _ _ _
    rw [← hW]
    have := Blk.new ((w.alloc (.cells #[.int .i64 x.id, .int .i64 x.born, .string x.fr, .slice a3 x.R.length c3, .string x.bo, .slice a5 x.V.length c5, .int .i64 x.tr, .int .i64 x.du, .bool x.bn] 78)).alloc (.cells #[.int .i64 0, .int .i64 0, .string ⟨#[]⟩, .slice none 0 0, .string ⟨#[]⟩, .slice none 0 0, .int .i64 0, .int .i64 0, .bool false] 57)) #[.int .i64 0, .int .i64 0, .string ⟨#[]⟩, .slice none 0 0, .string ⟨#[]⟩, .slice none 0 0, .int .i64 0, .int .i64 0, .bool false] 57
    simpa using this
  have bw : Below w.heap.size w W := by
    rw [← hW]
    exact (below2 w _ _).trans ((below1 _ _).mono (by simp; omega))
  have hWz : w.heap.size + 3 ≤ W.heap.size := by rw [← hW]; simp
  clear hW
  refine (toMsg x.id x.born x.fr x.bo x.R _ _ (H3.out.below bw) hR).mono ?_
  rintro e w1 ⟨⟨u1, rfl, S1⟩, hb1⟩
  obtain ⟨p1, q1, hu1⟩ := strs_formR S1
  subst hu1
  have hA1 : Hid _ := hA.out.below hb1
  have hRb1 : Hid _ := hRb.out.below hb1
  have hO1 : Hid _ := hO.out.below hb1
  have bw1 : Below w.heap.size w w1 := bw.trans (hb1.mono bw.size)
  have hz1 := hb1.size
  have HS1 : Hid (Strs w1 W.heap.size (.slice p1 x.R.length q1) x.R) := S1
  have x5 : w1.cell? ⟨w.heap.size, 5, none⟩ = some (.slice a5 x.V.length c5) := hA1.out.cell 5
  have o0 : w1.cell? ⟨w.heap.size + 1 + 1, 0, none⟩ = some (.int .i64 0) := hO1.out.cell 0
  have f0 := hO1.out.free 0
  have o1 : w1.cell? ⟨w.heap.size + 1 + 1, 1, none⟩ = some (.int .i64 0) := hO1.out.cell 1
  have f1 := hO1.out.free 1
  have o2 : w1.cell? ⟨w.heap.size + 1 + 1, 2, none⟩ = some (.string ⟨#[]⟩) := hO1.out.cell 2
  have f2 := hO1.out.free 2
  have o3 : w1.cell? ⟨w.heap.size + 1 + 1, 3, none⟩ = some (.slice none 0 0) := hO1.out.cell 3
  have f3 := hO1.out.free 3
  have o4 : w1.cell? ⟨w.heap.size + 1 + 1, 4, none⟩ = some (.string ⟨#[]⟩) := hO1.out.cell 4
  have f4 := hO1.out.free 4
  clear hA hRb hO hb1 S1 bw
  go_wp2_with fail
  generalize hW1 : World.setCell (World.setCell (World.setCell (World.setCell (World.setCell w1 _ _) _ _) _ _) _ _) _ _ = W1
  have hA2 : Hid (Blk w.heap.size #[.int .i64 x.id, .int .i64 x.born, .string x.fr, .slice a3 x.R.length c3, .string x.bo, .slice a5 x.V.length c5, .int .i64 x.tr, .int .i64 x.du, .bool x.bn] W1) := by show Blk _ _ _; rw [← hW1]; exact ((((hA1.out.other (by omega)).other (by omega)).other (by omega)).other (by omega)).other (by omega)
  have hRb2 : Hid (Blk (w.heap.size + 1) #[.int .i64 0, .int .i64 0, .string ⟨#[]⟩, .slice none 0 0, .string ⟨#[]⟩, .slice none 0 0, .int .i64 0, .int .i64 0, .bool false] W1) := by show Blk _ _ _; rw [← hW1]; exact ((((hRb1.out.other (by omega)).other (by omega)).other (by omega)).other (by omega)).other (by omega)
  have hO2 : Hid (Blk (w.heap.size + 1 + 1) #[.int .i64 x.id, .int .i64 x.born, .string x.fr, .slice p1 x.R.length q1, .string x.bo, .slice none 0 0, .int .i64 0, .int .i64 0, .bool false] W1) := by show Blk _ _ _; rw [← hW1]; exact ((((hO1.out.set (i := 0) (by simp)).set (i := 1) (by simp)).set (i := 2) (by simp)).set (i := 3) (by simp)).set (i := 4) (by simp)
  have HS2 : Hid (Strs W1 W.heap.size (.slice p1 x.R.length q1) x.R) := by show Strs _ _ _ _; rw [← hW1]; exact strs_setCell (strs_setCell (strs_setCell (strs_setCell (strs_setCell (HS1.out) (by dsimp only; omega) _) (by dsimp only; omega) _) (by dsimp only; omega) _) (by dsimp only; omega) _) (by dsimp only; omega) _
  have bW1 : Below w.heap.size w W1 := by rw [← hW1]; exact ((((bw1.setCell (by dsimp only; omega) _).setCell (by dsimp only; omega) _).setCell (by dsimp only; omega) _).setCell (by dsimp only; omega) _).setCell (by dsimp only; omega) _
  have hz2 : W1.heap.size = w1.heap.size := by rw [← hW1]; simp
  clear hW1 hA1 hRb1 hO1 HS1 bw1 x5 o0 o1 o2 o3 o4 f0 f1 f2 f3 f4
  refine (toVds _ x.V _ (H5.out.below bW1) hV).mono ?_
  rintro e w2 ⟨u2, rfl, V2, hb2⟩
  obtain ⟨p2, q2, hu2⟩ := vds_form V2
  subst hu2
  have hA3 : Hid _ := hA2.out.below hb2
  have hRb3 : Hid _ := hRb2.out.below hb2
  have hO3 : Hid _ := hO2.out.below hb2
  have bw2 : Below w.heap.size w w2 := bW1.trans (hb2.mono bW1.size)
  have hz3 := hb2.size
  have HS3 : Hid (Strs w2 W.heap.size (.slice p1 x.R.length q1) x.R) := strs_below HS2.out hb2 (Nat.le_refl _)
  have HV3 : Hid (Vds w2 W1.heap.size (.slice p2 x.V.length q2) x.V) := V2
  have x6 : w2.cell? ⟨w.heap.size, 6, none⟩ = some (.int .i64 x.tr) := hA3.out.cell 6
  have x7 : w2.cell? ⟨w.heap.size, 7, none⟩ = some (.int .i64 x.du) := hA3.out.cell 7
  have x8 : w2.cell? ⟨w.heap.size, 8, none⟩ = some (.bool x.bn) := hA3.out.cell 8
  have o0 : w2.cell? ⟨w.heap.size + 1 + 1, 0, none⟩ = some (.int .i64 x.id) := hO3.out.cell 0
  have o1 : w2.cell? ⟨w.heap.size + 1 + 1, 1, none⟩ = some (.int .i64 x.born) := hO3.out.cell 1
  have o2 : w2.cell? ⟨w.heap.size + 1 + 1, 2, none⟩ = some (.string x.fr) := hO3.out.cell 2
  have o3 : w2.cell? ⟨w.heap.size + 1 + 1, 3, none⟩ = some (.slice p1 x.R.length q1) := hO3.out.cell 3
  have o4 : w2.cell? ⟨w.heap.size + 1 + 1, 4, none⟩ = some (.string x.bo) := hO3.out.cell 4
  have o5 : w2.cell? ⟨w.heap.size + 1 + 1, 5, none⟩ = some (.slice none 0 0) := hO3.out.cell 5
  have o6 : w2.cell? ⟨w.heap.size + 1 + 1, 6, none⟩ = some (.int .i64 0) := hO3.out.cell 6
  have o7 : w2.cell? ⟨w.heap.size + 1 + 1, 7, none⟩ = some (.int .i64 0) := hO3.out.cell 7
  have o8 : w2.cell? ⟨w.heap.size + 1 + 1, 8, none⟩ = some (.bool false) := hO3.out.cell 8
  have f5 := hO3.out.free 5
  have f6 := hO3.out.free 6
  have f7 := hO3.out.free 7
  have f8 := hO3.out.free 8
  have r0 : w2.cell? ⟨w.heap.size + 1, 0, none⟩ = some (.int .i64 0) := hRb3.out.cell 0
  have rf0 := hRb3.out.free 0
  have r1 : w2.cell? ⟨w.heap.size + 1, 1, none⟩ = some (.int .i64 0) := hRb3.out.cell 1
  have rf1 := hRb3.out.free 1
  have r2 : w2.cell? ⟨w.heap.size + 1, 2, none⟩ = some (.string ⟨#[]⟩) := hRb3.out.cell 2
  have rf2 := hRb3.out.free 2
  have r3 : w2.cell? ⟨w.heap.size + 1, 3, none⟩ = some (.slice none 0 0) := hRb3.out.cell 3
  have rf3 := hRb3.out.free 3
  have r4 : w2.cell? ⟨w.heap.size + 1, 4, none⟩ = some (.string ⟨#[]⟩) := hRb3.out.cell 4
  have rf4 := hRb3.out.free 4
  have r5 : w2.cell? ⟨w.heap.size + 1, 5, none⟩ = some (.slice none 0 0) := hRb3.out.cell 5
  have rf5 := hRb3.out.free 5
  have r6 : w2.cell? ⟨w.heap.size + 1, 6, none⟩ = some (.int .i64 0) := hRb3.out.cell 6
  have rf6 := hRb3.out.free 6
  have r7 : w2.cell? ⟨w.heap.size + 1, 7, none⟩ = some (.int .i64 0) := hRb3.out.cell 7
  have rf7 := hRb3.out.free 7
  have r8 : w2.cell? ⟨w.heap.size + 1, 8, none⟩ = some (.bool false) := hRb3.out.cell 8
  have rf8 := hRb3.out.free 8
  clear hA2 hRb2 hO2 hb2 bW1 HS2 hA3 hRb3 hO3 V2
  go_wp2
  refine bodyPost_ret (v := .agg #[.int .i64 x.id, .int .i64 x.born, .string x.fr, .slice p1 x.R.length q1, .string x.bo, .slice p2 x.V.length q2, .int .i64 x.tr, .int .i64 x.du, .bool x.bn]) (by simp [results, Tryz.results45, go_sem, r0, r1, r2, r3, r4, r5, r6, r7, r8]) rfl ?_
  refine ⟨⟨_, _, rfl, ?_, ?_⟩, ?_⟩
  · refine strs_le (lo := W.heap.size) ?_ (by omega)
    repeat (refine strs_setCell ?_ (by dsimp only; omega) _)
    exact HS3.out
  · refine row_le (lo := W1.heap.size) ?_ (by omega)
    repeat (refine row_set_neR ?_ (fun g hg => by have := (row_lt HV3.out g hg).1; dsimp only; omega) _)
    exact HV3.out
  · repeat (refine Below.setCell ?_ (by dsimp only; omega) _)
    exact bw2
end Go.Proofs.YtlolnfpfipnfeaaGreat
