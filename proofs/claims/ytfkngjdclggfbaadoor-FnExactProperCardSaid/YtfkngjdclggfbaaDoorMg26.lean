import Derived.Test.YtfkngjdclggfbaaDoorMg5
import Derived.Test.YtfkngjdclggfbaaDoorMg6
import Derived.Test.YtfkngjdclggfbaaDoorMg25
import Derived.Test.YtfkngjdclggfbaaDoorMg22
namespace Go.Proofs.YtfkngjdclggfbaaDoor
open Go.ChangeShapes Go.WideShapes Go.ChangeAt Go.RowKit
attribute [local go_sem ↓] Go.wp_at_zero Go.wp_at_succ

theorem fill_stepB (L : List Bool) (k : Nat) (h : k < L.length) : (L.take k ++ List.replicate (L.length - k) false).set k L[k] = L.take (k + 1) ++ List.replicate (L.length - (k + 1)) false := by
  have hl : (L.take k).length = k := by simp; omega
  rw [List.set_append_right _ _ (by omega), hl, Nat.sub_self, List.take_succ_eq_append_getElem h]
  obtain ⟨n, hn⟩ : ∃ n, L.length - k = n + 1 := ⟨L.length - k - 1, by omega⟩
  rw [hn, List.replicate_succ, List.set_cons_zero, show L.length - (k + 1) = n by omega, List.append_assoc]
  rfl
set_option maxHeartbeats 1000000 in
set_option maxRecDepth 100000 in
theorem toBls (v : Value) (L : List Bool) (w : World) (h : ArgB w v L) (hL : L.length ≤ 1048576) :
    Calls Tryd.prog 35 #[v] w fun e w' => ∃ v', e = .returned v' ∧ Bls w' w.heap.size v' L ∧ Below w.heap.size w w' := by
  obtain ⟨_, hform⟩ := h
  obtain ⟨i0, hi, hz0, hz1, hz2⟩ := info_parts infoBool
  have hmk : (Instr.makeSlice 24 (.int .i64 (L.length : Int)) (.int .i64 (L.length : Int))).run Tryd.prog w = .ok (.slice (some ⟨w.heap.size, 0, none⟩) L.length L.length) (w.alloc (.cells (madeCells (Value.bool false).cells L.length) 4)) := by
    have e := run_make (P := Tryd.prog) w 24 4 i0 (.bool false) Tryd.underlying24 hi hz0 .i64 .i64 (L.length : Int) (L.length : Int) (by omega) (by omega) (by rw [hz2]; omega) (by omega)
    simpa [hz1] using e
  have HM : Hid (Bls (w.alloc (.cells (madeCells (Value.bool false).cells L.length) 4)) w.heap.size (.slice (some ⟨w.heap.size, 0, none⟩) L.length L.length) (L.take 0 ++ List.replicate (L.length - 0) false)) := bls_made w L.length (by unfold maxLen; omega)
  clear hi hz0 hz1 hz2
  rcases hform with ⟨rfl, a, c, rfl⟩ | ⟨b, off, cap, rfl, hlt, hc⟩
  · simp only [List.length_nil, Int.cast_ofNat_Int] at hmk
    go_enter Tryd.func35, Tryd.ntmps35
    go_wp2
    refine wp_loop_rounds 1 ?_; rw [rounds_succ]
    go_wp2
    go_ret
    exact ⟨_, rfl, HM.out, below1 _ _⟩
  · have HC : Hid (∀ i (hi : i < L.length), w.cell? ⟨b, off + i, none⟩ = some (.bool L[i])) := hc
    clear hc
    obtain ⟨Z, HZ⟩ : ∃ Z, Hid (Obj.cells (madeCells (Value.bool false).cells L.length) 4 = Z) := ⟨_, rfl⟩
    rw [HZ.out] at hmk HM
    go_enter Tryd.func35, Tryd.ntmps35
    go_wp2
    go_loopw [4] (fun i wr => ∃ k : Nat, k ≤ L.length ∧ i = .int .i64 k ∧ Hid (Bls wr w.heap.size (.slice (some ⟨w.heap.size, 0, none⟩) L.length L.length) (L.take k ++ List.replicate (L.length - k) false)) ∧ Below w.heap.size w wr) (fun i _ => L.length - (intOf i).toNat)
    case atStart => exact ⟨0, Nat.zero_le _, rfl, HM, below1 _ _⟩
    case round =>
      obtain ⟨k, hk, rfl, HS, hb⟩ := hrel
      by_cases hlt2 : k < L.length
      · have ex1 := (hb.cell (p := ⟨b, off + k, none⟩) hlt).trans (HC.out k hlt2)
        have HN : Hid ((L.take k ++ List.replicate (L.length - k) false).set k L[k] = L.take (k + 1) ++ List.replicate (L.length - (k + 1)) false) := fill_stepB L k hlt2
        have hlen : (L.take k ++ List.replicate (L.length - k) false).length = L.length := by simp; omega
        obtain ⟨x, ec⟩ : ∃ x, wr.cell? ⟨w.heap.size, k, none⟩ = some (.bool x) := ⟨_, HS.out.at.1.cell k (by omega)⟩
        have ef := HS.out.at.1.free k
        clear hlen
        generalize L[k] = X at ex1 HN
        go_wp2
        go_roundw
        case rel =>
          refine ⟨k + 1, by omega, by go_num, ?_, hb.setCell (Nat.le_refl _) _⟩
          show Bls _ _ _ _
          rw [← HN.out]
          exact bls_set HS.out _
        case measure => simp [intOf]; omega
      · obtain rfl : k = L.length := by omega
        go_wp2
        go_ret
        refine ⟨_, rfl, ?_, hb⟩
        have e := HS.out
        rw [List.take_length, Nat.sub_self, List.replicate_zero, List.append_nil] at e
        exact e

set_option maxHeartbeats 1000000 in
set_option maxRecDepth 100000 in
theorem szBls (v : Value) (L : List Bool) (n : Int) (w : World) (h : ArgB w v L) (hn : 0 ≤ n) (hn2 : n ≤ 1048576) :
    Calls Tryd.prog 32 #[v, .int .i64 n] w fun e w' => (∃ r : Int, e = .returned (.int .i64 r) ∧ (r < 0 ∨ (0 ≤ r ∧ r ≤ n ∧ (L.length : Int) ≤ n))) ∧ Below w.heap.size w w' := by
  have hm := h.1
  unfold maxLen at hm
  obtain ⟨a, c, rfl⟩ := h.form
  clear h
  by_cases c1 : n - (L.length : Int) < 0
  · go_enter Tryd.func32, Tryd.ntmps32
    go_wp2
    go_ret
    exact ⟨⟨_, rfl, .inl (by decide)⟩, Below.refl _ _⟩
  · go_enter Tryd.func32, Tryd.ntmps32
    go_wp2
    go_ret
    exact ⟨⟨_, rfl, .inr ⟨by omega, by omega, by omega⟩⟩, Below.refl _ _⟩

end Go.Proofs.YtfkngjdclggfbaaDoor
namespace Go.Proofs.YtfkngjdclggfbaaDoor
open Go.ChangeShapes Go.WideShapes Go.ChangeAt Go.RowKit

/-- the session that is being made in block sb, its rows in blocks behind it -/
structure SpO (w : World) (sb : Nat) (he fr bo : ByteArray) (v1 v2 v3 : Value) (R : List ByteArray) (T : List Bool) (V : List Vd) (wr : World) : Prop where
  res : ResZ w.heap.size wr
  lo : w.heap.size < sb
  lt : sb < wr.heap.size
  c0 : wr.cell? ⟨sb, 0, none⟩ = some (.int .i64 1)
  c1 : wr.cell? ⟨sb, 1, none⟩ = some (.string ⟨#[]⟩)
  c2 : wr.cell? ⟨sb, 2, none⟩ = some (.string he)
  c3 : wr.cell? ⟨sb, 3, none⟩ = some (.string fr)
  c4 : wr.cell? ⟨sb, 4, none⟩ = some (.string bo)
  c5 : wr.cell? ⟨sb, 5, none⟩ = some v1
  c6 : wr.cell? ⟨sb, 6, none⟩ = some (.int .i64 0)
  c7 : wr.cell? ⟨sb, 7, none⟩ = some v2
  c8 : wr.cell? ⟨sb, 8, none⟩ = some v3
  fz : ∀ o, wr.frozen? ⟨sb, o, none⟩ = false
  s1 : Strs wr (sb + 1) v1 R
  s2 : Bls wr (sb + 1) v2 T
  s3 : Vds wr (sb + 1) v3 V
  ap : Apart3 v1 v2 v3
  bel : Below w.heap.size w wr

theorem ResZ.off {b : Nat} {vs : List Value} {w w1 : World} (h : ResZ b w) (ho : OffL vs w w1) (hb : b < w.heap.size) (hne : ∀ v ∈ vs, v.ownBlock ≠ some b) : ResZ b w1 := by
  obtain ⟨g0, g1, g2, g3, g4, g5, g6, g7, g8, f0, f1, f2, f3, f4, f5, f6, f7, f8, hz⟩ := h
  have c := fun i => ho.cell (i := i) hb hne
  have f := fun i => ho.frozen (i := i) hb hne
  exact ⟨(c 0).trans g0, (c 1).trans g1, (c 2).trans g2, (c 3).trans g3, (c 4).trans g4, (c 5).trans g5, (c 6).trans g6, (c 7).trans g7, (c 8).trans g8, (f 0).trans f0, (f 1).trans f1, (f 2).trans f2, (f 3).trans f3, (f 4).trans f4, (f 5).trans f5, (f 6).trans f6, (f 7).trans f7, (f 8).trans f8, Nat.lt_of_lt_of_le hz ho.size⟩
theorem ResZ.set {b sb i : Nat} {w : World} {v : Value} (h : ResZ b w) (hne : b ≠ sb) : ResZ b (w.setCell ⟨sb, i, none⟩ v) := by
  obtain ⟨g0, g1, g2, g3, g4, g5, g6, g7, g8, f0, f1, f2, f3, f4, f5, f6, f7, f8, hz⟩ := h
  have c : ∀ j, (w.setCell ⟨sb, i, none⟩ v).cell? ⟨b, j, none⟩ = w.cell? ⟨b, j, none⟩ := fun j => World.cell?_setCell_other _ _ _ _ (by intro e; injection e with e; exact hne e.symm)
  exact ⟨(c 0).trans g0, (c 1).trans g1, (c 2).trans g2, (c 3).trans g3, (c 4).trans g4, (c 5).trans g5, (c 6).trans g6, (c 7).trans g7, (c 8).trans g8, by simpa using f0, by simpa using f1, by simpa using f2, by simpa using f3, by simpa using f4, by simpa using f5, by simpa using f6, by simpa using f7, by simpa using f8, by simpa using hz⟩
theorem apart_new {u v v' : Value} {N : Nat} (hv : v'.ownBlock = v.ownBlock ∨ ∃ g, v'.ownBlock = some g ∧ N ≤ g) (hu : ∀ g, u.ownBlock = some g → g < N) (h : ∀ a b, u.ownBlock = some a → v.ownBlock = some b → a ≠ b) : ∀ a b, u.ownBlock = some a → v'.ownBlock = some b → a ≠ b := by
  intro a b ha hb
  rcases hv with hv | ⟨g, hg, hN⟩
  · rw [hv] at hb; exact h a b ha hb
  · rw [hg] at hb; cases hb
    have := hu a ha; omega
theorem apart_symm {u v : Value} (h : ∀ a b, u.ownBlock = some a → v.ownBlock = some b → a ≠ b) : ∀ a b, v.ownBlock = some a → u.ownBlock = some b → a ≠ b := fun a b ha hb e => h b a hb ha e.symm
theorem row_set_below {w : World} {lo sz n : Nat} {T : TypeId} {v : Value} {xs : List Value} (h : w.ownsRow lo T sz v n xs) {a : Addr} (ha : a.block < lo) (u : Value) : (w.setCell a u).ownsRow lo T sz v n xs := ownsRow_setCell_below h ha u

theorem SpO.step1 {w wr w1 : World} {sb : Nat} {he fr bo : ByteArray} {v1 v2 v3 v' : Value} {R : List ByteArray} {T : List Bool} {V : List Vd} {R' : List ByteArray} (h : SpO w sb he fr bo v1 v2 v3 R T V wr) (ho : OffL [v1] wr w1) (hv : v'.ownBlock = v1.ownBlock ∨ ∃ g, v'.ownBlock = some g ∧ wr.heap.size ≤ g) (hrow : Strs w1 (sb + 1) v' R') :
    SpO w sb he fr bo v' v2 v3 R' T V (w1.setCell ⟨sb, 5, none⟩ v') := by
  have hlo : ∀ g, v1.ownBlock = some g → sb + 1 ≤ g := fun g hg => strs_lo h.s1 g hg
  have hsb : ∀ v ∈ [v1], v.ownBlock ≠ some sb := fun v hv e => by rw [List.mem_singleton.1 hv] at e; have := hlo sb e; omega
  have hrb : ∀ v ∈ [v1], v.ownBlock ≠ some w.heap.size := fun v hv e => by rw [List.mem_singleton.1 hv] at e; have := hlo _ e; have := h.lo; omega
  have hbw := h.bel.size
  have hl := h.lo
  have hlt := h.lt
  refine ⟨(h.res.off ho (by omega) hrb).set (by omega), hl, by have := ho.size; simp; omega, (World.cell?_setCell_other _ _ _ _ (by intro e; injection e with _ e; omega)).trans ((ho.cell h.lt hsb).trans h.c0), (World.cell?_setCell_other _ _ _ _ (by intro e; injection e with _ e; omega)).trans ((ho.cell h.lt hsb).trans h.c1), (World.cell?_setCell_other _ _ _ _ (by intro e; injection e with _ e; omega)).trans ((ho.cell h.lt hsb).trans h.c2), (World.cell?_setCell_other _ _ _ _ (by intro e; injection e with _ e; omega)).trans ((ho.cell h.lt hsb).trans h.c3), (World.cell?_setCell_other _ _ _ _ (by intro e; injection e with _ e; omega)).trans ((ho.cell h.lt hsb).trans h.c4), (World.cell?_setCell_same _ _ _ ((ho.cell h.lt hsb).trans h.c5)).trans rfl, (World.cell?_setCell_other _ _ _ _ (by intro e; injection e with _ e; omega)).trans ((ho.cell h.lt hsb).trans h.c6), (World.cell?_setCell_other _ _ _ _ (by intro e; injection e with _ e; omega)).trans ((ho.cell h.lt hsb).trans h.c7), (World.cell?_setCell_other _ _ _ _ (by intro e; injection e with _ e; omega)).trans ((ho.cell h.lt hsb).trans h.c8), fun o => ?_, row_set_below hrow (Nat.lt_succ_self _) _, row_set_below (ho.row h.s2 (fun g hg v hv e => by rw [List.mem_singleton.1 hv] at e; exact h.ap.1 g g e hg rfl)) (Nat.lt_succ_self _) _, row_set_below (ho.row h.s3 (fun g hg v hv e => by rw [List.mem_singleton.1 hv] at e; exact h.ap.2.1 g g e hg rfl)) (Nat.lt_succ_self _) _, ⟨apart_symm (apart_new hv (fun g hg => bls_own h.s2 g hg) (apart_symm h.ap.1)), apart_symm (apart_new hv (fun g hg => (vds_own h.s3 g hg).2) (apart_symm h.ap.2.1)), h.ap.2.2⟩, ?_⟩
  · rw [World.frozen?_setCell]
    exact (ho.frozen hlt hsb).trans (h.fz o)
  · exact (h.bel.trans (ho.below (fun v hv b hb => by rw [List.mem_singleton.1 hv] at hb; have := hlo b hb; omega) hbw)).setCell (by show w.heap.size ≤ sb; omega) _
theorem SpO.step2 {w wr w1 : World} {sb : Nat} {he fr bo : ByteArray} {v1 v2 v3 v' : Value} {R : List ByteArray} {T : List Bool} {V : List Vd} {R' : List Bool} (h : SpO w sb he fr bo v1 v2 v3 R T V wr) (ho : OffL [v2] wr w1) (hv : v'.ownBlock = v2.ownBlock ∨ ∃ g, v'.ownBlock = some g ∧ wr.heap.size ≤ g) (hrow : Bls w1 (sb + 1) v' R') :
    SpO w sb he fr bo v1 v' v3 R R' V (w1.setCell ⟨sb, 7, none⟩ v') := by
  have hlo : ∀ g, v2.ownBlock = some g → sb + 1 ≤ g := fun g hg => bls_lo h.s2 g hg
  have hsb : ∀ v ∈ [v2], v.ownBlock ≠ some sb := fun v hv e => by rw [List.mem_singleton.1 hv] at e; have := hlo sb e; omega
  have hrb : ∀ v ∈ [v2], v.ownBlock ≠ some w.heap.size := fun v hv e => by rw [List.mem_singleton.1 hv] at e; have := hlo _ e; have := h.lo; omega
  have hbw := h.bel.size
  have hl := h.lo
  have hlt := h.lt
  refine ⟨(h.res.off ho (by omega) hrb).set (by omega), hl, by have := ho.size; simp; omega, (World.cell?_setCell_other _ _ _ _ (by intro e; injection e with _ e; omega)).trans ((ho.cell h.lt hsb).trans h.c0), (World.cell?_setCell_other _ _ _ _ (by intro e; injection e with _ e; omega)).trans ((ho.cell h.lt hsb).trans h.c1), (World.cell?_setCell_other _ _ _ _ (by intro e; injection e with _ e; omega)).trans ((ho.cell h.lt hsb).trans h.c2), (World.cell?_setCell_other _ _ _ _ (by intro e; injection e with _ e; omega)).trans ((ho.cell h.lt hsb).trans h.c3), (World.cell?_setCell_other _ _ _ _ (by intro e; injection e with _ e; omega)).trans ((ho.cell h.lt hsb).trans h.c4), (World.cell?_setCell_other _ _ _ _ (by intro e; injection e with _ e; omega)).trans ((ho.cell h.lt hsb).trans h.c5), (World.cell?_setCell_other _ _ _ _ (by intro e; injection e with _ e; omega)).trans ((ho.cell h.lt hsb).trans h.c6), (World.cell?_setCell_same _ _ _ ((ho.cell h.lt hsb).trans h.c7)).trans rfl, (World.cell?_setCell_other _ _ _ _ (by intro e; injection e with _ e; omega)).trans ((ho.cell h.lt hsb).trans h.c8), fun o => ?_, row_set_below (ho.row h.s1 (fun g hg v hv e => by rw [List.mem_singleton.1 hv] at e; exact h.ap.1 g g hg e rfl)) (Nat.lt_succ_self _) _, row_set_below hrow (Nat.lt_succ_self _) _, row_set_below (ho.row h.s3 (fun g hg v hv e => by rw [List.mem_singleton.1 hv] at e; exact h.ap.2.2 g g e hg rfl)) (Nat.lt_succ_self _) _, ⟨apart_new hv (fun g hg => strs_own h.s1 g hg) h.ap.1, h.ap.2.1, apart_symm (apart_new hv (fun g hg => (vds_own h.s3 g hg).2) (apart_symm h.ap.2.2))⟩, ?_⟩
  · rw [World.frozen?_setCell]
    exact (ho.frozen hlt hsb).trans (h.fz o)
  · exact (h.bel.trans (ho.below (fun v hv b hb => by rw [List.mem_singleton.1 hv] at hb; have := hlo b hb; omega) hbw)).setCell (by show w.heap.size ≤ sb; omega) _
theorem SpO.step3 {w wr w1 : World} {sb : Nat} {he fr bo : ByteArray} {v1 v2 v3 v' : Value} {R : List ByteArray} {T : List Bool} {V : List Vd} {R' : List Vd} (h : SpO w sb he fr bo v1 v2 v3 R T V wr) (ho : OffL [v3] wr w1) (hv : v'.ownBlock = v3.ownBlock ∨ ∃ g, v'.ownBlock = some g ∧ wr.heap.size ≤ g) (hrow : Vds w1 (sb + 1) v' R') :
    SpO w sb he fr bo v1 v2 v' R T R' (w1.setCell ⟨sb, 8, none⟩ v') := by
  have hlo : ∀ g, v3.ownBlock = some g → sb + 1 ≤ g := fun g hg => (vds_own h.s3 g hg).1
  have hsb : ∀ v ∈ [v3], v.ownBlock ≠ some sb := fun v hv e => by rw [List.mem_singleton.1 hv] at e; have := hlo sb e; omega
  have hrb : ∀ v ∈ [v3], v.ownBlock ≠ some w.heap.size := fun v hv e => by rw [List.mem_singleton.1 hv] at e; have := hlo _ e; have := h.lo; omega
  have hbw := h.bel.size
  have hl := h.lo
  have hlt := h.lt
  refine ⟨(h.res.off ho (by omega) hrb).set (by omega), hl, by have := ho.size; simp; omega, (World.cell?_setCell_other _ _ _ _ (by intro e; injection e with _ e; omega)).trans ((ho.cell h.lt hsb).trans h.c0), (World.cell?_setCell_other _ _ _ _ (by intro e; injection e with _ e; omega)).trans ((ho.cell h.lt hsb).trans h.c1), (World.cell?_setCell_other _ _ _ _ (by intro e; injection e with _ e; omega)).trans ((ho.cell h.lt hsb).trans h.c2), (World.cell?_setCell_other _ _ _ _ (by intro e; injection e with _ e; omega)).trans ((ho.cell h.lt hsb).trans h.c3), (World.cell?_setCell_other _ _ _ _ (by intro e; injection e with _ e; omega)).trans ((ho.cell h.lt hsb).trans h.c4), (World.cell?_setCell_other _ _ _ _ (by intro e; injection e with _ e; omega)).trans ((ho.cell h.lt hsb).trans h.c5), (World.cell?_setCell_other _ _ _ _ (by intro e; injection e with _ e; omega)).trans ((ho.cell h.lt hsb).trans h.c6), (World.cell?_setCell_other _ _ _ _ (by intro e; injection e with _ e; omega)).trans ((ho.cell h.lt hsb).trans h.c7), (World.cell?_setCell_same _ _ _ ((ho.cell h.lt hsb).trans h.c8)).trans rfl, fun o => ?_, row_set_below (ho.row h.s1 (fun g hg v hv e => by rw [List.mem_singleton.1 hv] at e; exact h.ap.2.1 g g hg e rfl)) (Nat.lt_succ_self _) _, row_set_below (ho.row h.s2 (fun g hg v hv e => by rw [List.mem_singleton.1 hv] at e; exact h.ap.2.2 g g hg e rfl)) (Nat.lt_succ_self _) _, row_set_below hrow (Nat.lt_succ_self _) _, ⟨h.ap.1, apart_new hv (fun g hg => strs_own h.s1 g hg) h.ap.2.1, apart_new hv (fun g hg => bls_own h.s2 g hg) h.ap.2.2⟩, ?_⟩
  · rw [World.frozen?_setCell]
    exact (ho.frozen hlt hsb).trans (h.fz o)
  · exact (h.bel.trans (ho.below (fun v hv b hb => by rw [List.mem_singleton.1 hv] at hb; have := hlo b hb; omega) hbw)).setCell (by show w.heap.size ≤ sb; omega) _
end Go.Proofs.YtfkngjdclggfbaaDoor
