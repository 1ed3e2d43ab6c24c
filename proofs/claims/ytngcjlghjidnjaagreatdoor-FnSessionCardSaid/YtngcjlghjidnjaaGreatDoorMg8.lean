import Derived.Test.YtngcjlghjidnjaaGreatDoorMg7
import Derived.Test.YtngcjlghjidnjaaGreatDoorMg1
import Derived.Test.YtngcjlghjidnjaaGreatDoorMg6
import Derived.Test.YtngcjlghjidnjaaGreatDoorMg5
namespace Go.Proofs.YtngcjlghjidnjaaGreatDoor
open Go.ChangeShapes Go.WideShapes Go.ChangeAt Go.RowKit

/-- the bmarks from k on -/
def bmarks (k n : Nat) : List Bool := (List.range n).map fun i => decide ((k + i) % 3 = 0)
set_option maxRecDepth 100000 in
theorem bmarks_length (k n : Nat) : (bmarks k n).length = n := by simp [bmarks]
theorem bmarks_step (k j : Nat) (L : List Bool) (hj : j < L.length) : (bmarks k j ++ L.drop j).set j (decide ((k + j) % 3 = 0)) = bmarks k (j + 1) ++ L.drop (j + 1) := by
  rw [List.set_append_right _ _ (by rw [bmarks_length]; exact Nat.le_refl _), bmarks_length, Nat.sub_self, List.drop_eq_getElem_cons hj, List.set_cons_zero]
  simp [bmarks, List.range_succ]

set_option maxHeartbeats 1000000 in
set_option maxRecDepth 100000 in
theorem markBls (v : Value) (L : List Bool) (lo k : Nat) (w : World) (h : Bls w lo v L) (hk : 1 ≤ k) (hm : k + L.length ≤ 16777216) :
    Calls Tryz.prog 68 #[v, .int .i64 k] w fun e w' => e = .returned (.int .i64 ((k + L.length : Nat) : Int)) ∧ Bls w' lo v (bmarks k L.length) ∧ OffV v w w' := by
  by_cases h0 : L.length = 0
  · have HS : Hid (Bls w lo v (bmarks k L.length)) := by
      rw [h0]
      have hL := List.eq_nil_of_length_eq_zero h0
      rw [hL] at h
      exact h
    have hk0 : k + L.length = k := by omega
    rw [hk0]
    obtain ⟨a1, c1, hv⟩ : ∃ a c, v = .slice a 0 c := by
      rcases h.cases with ⟨rfl, _⟩ | ⟨g, cap, rfl, _⟩
      · exact ⟨_, _, rfl⟩
      · rw [h0]; exact ⟨_, _, rfl⟩
    subst hv
    clear h h0 hk0
    go_enter Tryz.func68, Tryz.ntmps68
    go_wp2
    refine wp_loop_rounds 1 ?_; rw [rounds_succ]
    go_wp2
    go_ret
    exact ⟨rfl, HS.out, .inr (Below.refl _ _)⟩
  · obtain ⟨g, cap, hv, _⟩ : ∃ g cap, v = .slice (some ⟨g, 0, none⟩) L.length cap ∧ BlsAt w lo g cap L := by
      rcases h.cases with ⟨_, hL⟩ | h
      · rw [hL] at h0; exact absurd rfl h0
      · exact h
    subst hv
    have HI : Hid (Bls w lo (.slice (some ⟨g, 0, none⟩) L.length cap) (bmarks k 0 ++ L.drop 0)) := h
    clear h
    have hl1 : L.length ≤ 16777216 := by omega
    go_enter Tryz.func68, Tryz.ntmps68
    go_wp2
    go_loopw [1, 5] (fun kv i wr => ∃ j : Nat, j ≤ L.length ∧ i = .int .i64 j ∧ kv = .int .i64 ((k + j : Nat) : Int) ∧ Hid (Bls wr lo (.slice (some ⟨g, 0, none⟩) L.length cap) (bmarks k j ++ L.drop j)) ∧ Off g w wr) (fun _ i _ => L.length - (intOf i).toNat)
    case atStart => exact ⟨0, Nat.zero_le _, rfl, rfl, HI, Off.refl _ _⟩
    case round =>
      obtain ⟨j, hj, rfl, rfl, HS, hb⟩ := hrel
      by_cases hlt : j < L.length
      · have HS1 := HS
        have hlen : (bmarks k j ++ L.drop j).length = L.length := by simp [bmarks_length]; omega
        obtain ⟨x, ec⟩ : ∃ x, wr.cell? ⟨g, j, none⟩ = some (.bool x) := ⟨_, HS1.out.at.1.cell j (by omega)⟩
        have ef := HS1.out.at.1.free j
        have hg : lo ≤ g := HS1.out.at.1.lo
        have hk3 : (((k : Int) + (j : Int)) % 3 == 0) = decide ((k + j) % 3 = 0) := by rw [Bool.eq_iff_iff, beq_iff_eq, decide_eq_true_eq]; omega
        clear hlen
        go_wp2
        go_roundw
        case rel =>
          refine ⟨j + 1, by omega, by go_num, by go_num, ?_, hb.setCell _⟩
          show Bls _ _ _ _
          rw [← bmarks_step k j L hlt]
          exact bls_set HS1.out _
        case measure => simp [intOf]; omega
      · obtain rfl : j = L.length := by omega
        go_wp2
        go_ret
        refine ⟨rfl, ?_, .inl ⟨g, rfl, hb⟩⟩
        have e := HS.out
        rw [List.drop_length, List.append_nil] at e
        exact e

set_option maxRecDepth 100000 in
theorem bmarks_get (k n j : Nat) (h : j < (bmarks k n).length) : (bmarks k n)[j] = decide ((k + j) % 3 = 0) := by simp [bmarks]

set_option maxHeartbeats 1000000 in
set_option maxRecDepth 100000 in
theorem heldBls (v : Value) (n lo k : Nat) (w : World) (h : Bls w lo v (bmarks k n)) (hk : 1 ≤ k) (hm : k + n ≤ 16777216) :
    Calls Tryz.prog 71 #[v, .int .i64 k] w fun e w' => e = .returned (.int .i64 ((k + n : Nat) : Int)) ∧ Below w.heap.size w w' := by
  by_cases h0 : n = 0
  · obtain ⟨a1, c1, hv⟩ : ∃ a c, v = .slice a 0 c := by
      rcases h.cases with ⟨rfl, _⟩ | ⟨g, cap, rfl, _⟩
      · exact ⟨_, _, rfl⟩
      · rw [bmarks_length, h0]; exact ⟨_, _, rfl⟩
    subst hv h0
    clear h
    go_enter Tryz.func71, Tryz.ntmps71
    go_wp2
    refine wp_loop_rounds 1 ?_; rw [rounds_succ]
    go_wp2
    go_ret
    exact ⟨rfl, Below.refl _ _⟩
  · obtain ⟨g, cap, hv, hs⟩ : ∃ g cap, v = .slice (some ⟨g, 0, none⟩) n cap ∧ BlsAt w lo g cap (bmarks k n) := by
      rcases h.cases with ⟨_, hL⟩ | ⟨g, cap, hv, hs⟩
      · have := congrArg List.length hL; rw [bmarks_length] at this; exact absurd this h0
      · rw [bmarks_length] at hv; exact ⟨g, cap, hv, hs⟩
    subst hv
    clear h
    have hcell : Hid (∀ j, j < n → w.cell? ⟨g, j, none⟩ = some (.bool (decide ((k + j) % 3 = 0)))) := by
      intro j hj
      rw [← bmarks_get k n j (by rw [bmarks_length]; exact hj)]; exact hs.cell j (by rw [bmarks_length]; exact hj)
    have hg := hs.lt
    clear hs
    go_enter Tryz.func71, Tryz.ntmps71
    go_wp2
    go_loopw [1, 5] (fun kv i wr => ∃ j : Nat, j ≤ n ∧ i = .int .i64 j ∧ kv = .int .i64 ((k + j : Nat) : Int) ∧ Below w.heap.size w wr) (fun _ i _ => n - (intOf i).toNat)
    case atStart => exact ⟨0, Nat.zero_le _, rfl, rfl, Below.refl _ _⟩
    case round =>
      obtain ⟨j, hj, rfl, rfl, hb⟩ := hrel
      by_cases hlt : j < n
      · have ec := (hb.cell (p := ⟨g, j, none⟩) hg).trans (hcell.out j hlt)
        have hk3 : (((k : Int) + (j : Int)) % 3 == 0) = decide ((k + j) % 3 = 0) := by rw [Bool.eq_iff_iff, beq_iff_eq, decide_eq_true_eq]; omega
        generalize decide ((k + j) % 3 = 0) = X at ec hk3
        go_wp2
        go_roundw
        case rel => exact ⟨j + 1, by omega, by go_num, by go_num, hb⟩
        case measure => simp [intOf]; omega
      · obtain rfl : j = n := by omega
        go_wp2
        go_ret
        exact ⟨rfl, hb⟩
end Go.Proofs.YtngcjlghjidnjaaGreatDoor
namespace Go.Proofs.YtngcjlghjidnjaaGreatDoor
open Go.ChangeShapes Go.WideShapes Go.ChangeAt Go.RowKit

/-- all that was there but the own blocks of some slices is as it was -/
def OffL (vs : List Value) (w w1 : World) : Prop := w1.os = w.os ∧ w1.tape = w.tape ∧ w1.output = w.output ∧ w.heap.size ≤ w1.heap.size ∧ ∀ k, k < w.heap.size → (∀ v ∈ vs, v.ownBlock ≠ some k) → w1.heap[k]? = w.heap[k]?
theorem OffL.of_below {vs : List Value} {w w1 : World} (h : Below w.heap.size w w1) : OffL vs w w1 := ⟨h.os, h.tape, h.output, h.size, fun k hk _ => h.block k hk⟩
theorem OffL.ofV {vs : List Value} {v : Value} {w w1 : World} (h : OffV v w w1) (hv : v ∈ vs) : OffL vs w w1 := by
  rcases h with ⟨b, hb, ho⟩ | h
  · exact ⟨ho.os, ho.tape, ho.output, ho.size, fun k hk hne => ho.block k hk (fun e => hne v hv (by rw [hb, e]))⟩
  · exact OffL.of_below h
theorem OffL.ofGrown {vs : List Value} {v : Value} {w w1 : World} (h : w.grownBy w1 v.ownBlock) (hv : v ∈ vs) : OffL vs w w1 :=
  ⟨h.os, h.tape, h.output, h.size, fun k hk hne => h.block k hk (fun e => hne v hv e.symm)⟩
theorem OffL.trans {vs : List Value} {w w1 w2 : World} (h : OffL vs w w1) (k : OffL vs w1 w2) : OffL vs w w2 :=
  ⟨k.1.trans h.1, k.2.1.trans h.2.1, k.2.2.1.trans h.2.2.1, Nat.le_trans h.2.2.2.1 k.2.2.2.1, fun i hi hb => (k.2.2.2.2 i (Nat.lt_of_lt_of_le hi h.2.2.2.1) hb).trans (h.2.2.2.2 i hi hb)⟩
theorem OffL.size {vs : List Value} {w w1 : World} (h : OffL vs w w1) : w.heap.size ≤ w1.heap.size := h.2.2.2.1
theorem OffL.cell {vs : List Value} {w w1 : World} {k i : Nat} (h : OffL vs w w1) (hk : k < w.heap.size) (hne : ∀ v ∈ vs, v.ownBlock ≠ some k) : w1.cell? ⟨k, i, none⟩ = w.cell? ⟨k, i, none⟩ := World.cell?_of_block (w := w) (h.2.2.2.2 k hk hne)
theorem OffL.frozen {vs : List Value} {w w1 : World} {k i : Nat} (h : OffL vs w w1) (hk : k < w.heap.size) (hne : ∀ v ∈ vs, v.ownBlock ≠ some k) : w1.frozen? ⟨k, i, none⟩ = w.frozen? ⟨k, i, none⟩ := World.frozen?_of_block (w := w) (h.2.2.2.2 k hk hne)
theorem OffL.row {vs : List Value} {w w1 : World} {lo sz n : Nat} {T : TypeId} {u : Value} {xs : List Value} (h : OffL vs w w1) (hs : w.ownsRow lo T sz u n xs) (hne : ∀ g, u.ownBlock = some g → ∀ v ∈ vs, v.ownBlock ≠ some g) : w1.ownsRow lo T sz u n xs := by
  refine ⟨hs.1, ?_⟩
  rcases hs.2 with h0 | ⟨g, cap, cur, hv, hl, hg, rest⟩
  · exact .inl h0
  · refine .inr ⟨g, cap, cur, hv, hl, ?_, rest⟩
    rw [h.2.2.2.2 g (Array.getElem?_eq_some_iff.1 hg).1 (hne g (by rw [hv]; rfl))]; exact hg
theorem OffL.below {vs : List Value} {w w1 : World} {N : Nat} (h : OffL vs w w1) (hN : ∀ v ∈ vs, ∀ b, v.ownBlock = some b → N ≤ b) (hs : N ≤ w.heap.size) : Below N w w1 :=
  ⟨h.1, h.2.1, h.2.2.1, h.2.2.2.1, fun k hk => h.2.2.2.2 k (by omega) (fun v hv e => by have := hN v hv k e; omega)⟩
theorem OffL.mono {vs us : List Value} {w w1 : World} (h : OffL vs w w1) (hsub : ∀ v ∈ vs, v ∈ us) : OffL us w w1 :=
  ⟨h.1, h.2.1, h.2.2.1, h.2.2.2.1, fun k hk hne => h.2.2.2.2 k hk fun v hv => hne v (hsub v hv)⟩
end Go.Proofs.YtngcjlghjidnjaaGreatDoor
namespace Go.Proofs.YtngcjlghjidnjaaGreatDoor
open Go.ChangeShapes Go.WideShapes Go.ChangeAt Go.RowKit

theorem strs_form2 {w : World} {lo : Nat} {v : Value} {L : List ByteArray} (h : Strs w lo v L) : ∃ a c, v = .slice a L.length c := by
  rcases h.cases with ⟨rfl, rfl⟩ | ⟨g, cap, rfl, _⟩
  · exact ⟨_, _, rfl⟩
  · exact ⟨_, _, rfl⟩
theorem bls_form {w : World} {lo : Nat} {v : Value} {L : List Bool} (h : Bls w lo v L) : ∃ a c, v = .slice a L.length c := by
  rcases h.cases with ⟨rfl, rfl⟩ | ⟨g, cap, rfl, _⟩
  · exact ⟨_, _, rfl⟩
  · exact ⟨_, _, rfl⟩

/-- the cells of a session -/
def sc (ph nx : Int) (buf he fr bo : ByteArray) (v1 v2 v3 : Value) : Array Value := #[.int .i64 ph, .string buf, .string he, .string fr, .string bo, v1, .int .i64 nx, v2, v3]

set_option maxHeartbeats 2000000 in
set_option maxRecDepth 100000 in
theorem eqSess (ph nx : Int) (buf he fr bo : ByteArray) (u1 u2 u3 v1 v2 v3 : Value) (R : List ByteArray) (T : List Bool) (V : List Vd) (lo lo' : Nat) (w : World)
    (h1 : Strs w lo u1 R) (h2 : Bls w lo u2 T) (h3 : Vds w lo u3 V) (k1 : Strs w lo' v1 R) (k2 : Bls w lo' v2 T) (k3 : Vds w lo' v3 V) :
    Calls Tryz.prog 21 #[.agg #[.int .i64 ph, .string buf, .string he, .string fr, .string bo, u1, .int .i64 nx, u2, u3], .agg #[.int .i64 ph, .string buf, .string he, .string fr, .string bo, v1, .int .i64 nx, v2, v3]] w fun e w' => e = .returned (.bool true) ∧ Below w.heap.size w w' := by
  obtain ⟨p1, q1, rfl⟩ := strs_form2 h1
  obtain ⟨p2, q2, rfl⟩ := bls_form h2
  obtain ⟨p3, q3, rfl⟩ := vds_form h3
  obtain ⟨r1, s1, rfl⟩ := strs_form2 k1
  obtain ⟨r2, s2, rfl⟩ := bls_form k2
  obtain ⟨r3, s3, rfl⟩ := vds_form k3
  have H1 : Hid (Strs w lo (.slice p1 R.length q1) R ∧ Bls w lo (.slice p2 T.length q2) T ∧ Vds w lo (.slice p3 V.length q3) V) := ⟨h1, h2, h3⟩
  have K1 : Hid (Strs w lo' (.slice r1 R.length s1) R ∧ Bls w lo' (.slice r2 T.length s2) T ∧ Vds w lo' (.slice r3 V.length s3) V) := ⟨k1, k2, k3⟩
  clear h1 h2 h3 k1 k2 k3
  go_enter Tryz.func21, Tryz.ntmps21
  go_wp2_with fail
  generalize hW : (w.alloc _).alloc _ = W
  have bw : Below w.heap.size w W := by rw [← hW]; exact below2 _ _ _
  have hWz : w.heap.size + 1 < W.heap.size := by rw [← hW]; simp
  have HX : Hid (∀ i, i = 6 ∨ i = 7 ∨ i = 8 → W.cell? ⟨w.heap.size, i, none⟩ = (#[.int .i64 ph, .string buf, .string he, .string fr, .string bo, .slice p1 R.length q1, .int .i64 nx, .slice p2 T.length q2, .slice p3 V.length q3] : Array Value)[i]? ∧ W.cell? ⟨w.heap.size + 1, i, none⟩ = (#[.int .i64 ph, .string buf, .string he, .string fr, .string bo, .slice r1 R.length s1, .int .i64 nx, .slice r2 T.length s2, .slice r3 V.length s3] : Array Value)[i]?) := by
    intro i hi
    rw [← hW]
    exact ⟨World.cell?_alloc2_first _ _ _ _, World.cell?_alloc2_new _ _ _ _⟩
  clear hW
  have step : ∀ (w1 : World), Below W.heap.size W w1 → Hid ((∀ i, i = 6 ∨ i = 7 ∨ i = 8 → w1.cell? ⟨w.heap.size, i, none⟩ = W.cell? ⟨w.heap.size, i, none⟩ ∧ w1.cell? ⟨w.heap.size + 1, i, none⟩ = W.cell? ⟨w.heap.size + 1, i, none⟩)) := by
    intro w1 hb i _
    exact ⟨hb.cell (p := ⟨w.heap.size, i, none⟩) (by show w.heap.size < _; omega), hb.cell (p := ⟨w.heap.size + 1, i, none⟩) hWz⟩
  have HST : Hid (∀ (w1 : World), Below W.heap.size W w1 → Hid ((∀ i, i = 6 ∨ i = 7 ∨ i = 8 → w1.cell? ⟨w.heap.size, i, none⟩ = W.cell? ⟨w.heap.size, i, none⟩ ∧ w1.cell? ⟨w.heap.size + 1, i, none⟩ = W.cell? ⟨w.heap.size + 1, i, none⟩))) := step
  clear step
  refine (eqStrs _ _ R _ _ _ (strs_below H1.out.1 bw (Nat.le_refl _)) (strs_below K1.out.1 bw (Nat.le_refl _))).mono ?_
  rintro e w1 ⟨rfl, hb1⟩
  have a6 := ((HST.out w1 hb1).out 6 (by simp)).1.trans (HX.out 6 (by simp)).1
  have b6 := ((HST.out w1 hb1).out 6 (by simp)).2.trans (HX.out 6 (by simp)).2
  have a7 := ((HST.out w1 hb1).out 7 (by simp)).1.trans (HX.out 7 (by simp)).1
  have b7 := ((HST.out w1 hb1).out 7 (by simp)).2.trans (HX.out 7 (by simp)).2
  simp only [List.getElem?_toArray, List.getElem?_cons_succ, List.getElem?_cons_zero] at a6 b6 a7 b7
  go_wp2_with fail
  have bw1 : Below w.heap.size w w1 := bw.trans (hb1.mono bw.size)
  refine (eqBls _ _ T _ _ _ (bls_below H1.out.2.1 bw1 (Nat.le_refl _)) (bls_below K1.out.2.1 bw1 (Nat.le_refl _))).mono ?_
  rintro e w2 ⟨rfl, hb2⟩
  have hbW2 : Below W.heap.size W w2 := hb1.trans (hb2.mono hb1.size)
  have a8 := ((HST.out w2 hbW2).out 8 (by simp)).1.trans (HX.out 8 (by simp)).1
  have b8 := ((HST.out w2 hbW2).out 8 (by simp)).2.trans (HX.out 8 (by simp)).2
  simp only [List.getElem?_toArray, List.getElem?_cons_succ, List.getElem?_cons_zero] at a8 b8
  clear a6 b6 a7 b7
  go_wp2_with fail
  have bw2 : Below w.heap.size w w2 := bw1.trans (hb2.mono bw1.size)
  refine (eqVds _ _ V _ _ _ (vds_below H1.out.2.2 bw2 (Nat.le_refl _)) (vds_below K1.out.2.2 bw2 (Nat.le_refl _))).mono ?_
  rintro e w3 ⟨rfl, hb3⟩
  go_wp2
  go_ret
  exact ⟨rfl, bw2.trans (hb3.mono bw2.size)⟩

/-- three slices in blocks that are not the same -/
def Apart3 (u1 u2 u3 : Value) : Prop := (∀ a b, u1.ownBlock = some a → u2.ownBlock = some b → a ≠ b) ∧ (∀ a b, u1.ownBlock = some a → u3.ownBlock = some b → a ≠ b) ∧ ∀ a b, u2.ownBlock = some a → u3.ownBlock = some b → a ≠ b

set_option maxHeartbeats 2000000 in
set_option maxRecDepth 100000 in
theorem markSess (ph nx : Int) (buf he fr bo : ByteArray) (u1 u2 u3 : Value) (R : List ByteArray) (T : List Bool) (V : List Vd) (lo k : Nat) (w : World)
    (h1 : Strs w lo u1 R) (h2 : Bls w lo u2 T) (h3 : Vds w lo u3 V) (hap : Apart3 u1 u2 u3) (hk : 1 ≤ k) (hm : k + R.length + T.length + 3 * V.length ≤ 16777216) :
    Calls Tryz.prog 22 #[.agg #[.int .i64 ph, .string buf, .string he, .string fr, .string bo, u1, .int .i64 nx, u2, u3], .int .i64 k] w fun e w' => e = .returned (.int .i64 ((k + R.length + T.length + 3 * V.length : Nat) : Int)) ∧
      (Strs w' lo u1 (marks k R.length) ∧ Bls w' lo u2 (bmarks (k + R.length) T.length) ∧ Vds w' lo u3 (vmarks (k + R.length + T.length) V.length)) ∧ OffL [u1, u2, u3] w w' := by
  have HO : Hid ((∀ g, u1.ownBlock = some g → g < w.heap.size) ∧ (∀ g, u2.ownBlock = some g → g < w.heap.size) ∧ ∀ g, u3.ownBlock = some g → g < w.heap.size) := ⟨strs_own h1, bls_own h2, fun g hg => (vds_own h3 g hg).2⟩
  have HA : Hid (Apart3 u1 u2 u3) := hap
  obtain ⟨p1, q1, rfl⟩ := strs_form2 h1
  obtain ⟨p2, q2, rfl⟩ := bls_form h2
  obtain ⟨p3, q3, rfl⟩ := vds_form h3
  have H1 : Hid (Strs w lo (.slice p1 R.length q1) R ∧ Bls w lo (.slice p2 T.length q2) T ∧ Vds w lo (.slice p3 V.length q3) V) := ⟨h1, h2, h3⟩
  clear h1 h2 h3 hap
  go_enter Tryz.func22, Tryz.ntmps22
  go_wp2_with fail
  generalize hW : w.alloc _ = W
  have bw : Below w.heap.size w W := by rw [← hW]; exact below1 _ _
  have hWz : w.heap.size < W.heap.size := by rw [← hW]; simp
  have HX : Hid (W.cell? ⟨w.heap.size, 7, none⟩ = some (.slice p2 T.length q2) ∧ W.cell? ⟨w.heap.size, 8, none⟩ = some (.slice p3 V.length q3)) := by
    rw [← hW]
    exact ⟨by rw [World.cell?_alloc_mark]; rfl, by rw [World.cell?_alloc_mark]; rfl⟩
  clear hW
  generalize hU1 : Value.slice p1 R.length q1 = U1 at *
  generalize hU2 : Value.slice p2 T.length q2 = U2 at *
  generalize hU3 : Value.slice p3 V.length q3 = U3 at *
  refine (markStrsO _ R lo k _ (strs_below H1.out.1 bw (Nat.le_refl _)) hk (by omega)).mono ?_
  rintro e w1 ⟨rfl, S1, hv1⟩
  have o1 : OffL [U1, U2, U3] W w1 := OffL.ofV hv1 (by simp)
  have r2 : Bls w1 lo U2 T := by
    rcases hv1 with ⟨b, hb, ho⟩ | hb
    · exact (OffL.ofV (vs := [U1]) (.inl ⟨b, hb, ho⟩) (by simp)).row (bls_below H1.out.2.1 bw (Nat.le_refl _)) (fun g hg v hv e => by
        rw [List.mem_singleton.1 hv] at e
        exact HA.out.1 g g e hg rfl)
    · exact bls_below (bls_below H1.out.2.1 bw (Nat.le_refl _)) hb (Nat.le_refl _)
  have r3 : Vds w1 lo U3 V := (OffL.ofV (vs := [U1]) hv1 (by simp)).row (vds_below H1.out.2.2 bw (Nat.le_refl _)) (fun g hg v hv e => by
        rw [List.mem_singleton.1 hv] at e
        exact HA.out.2.1 g g e hg rfl)
  have a7 := (o1.cell (k := w.heap.size) (i := 7) hWz (fun v hv e => by
    simp only [List.mem_cons, List.mem_nil_iff, or_false] at hv
    rcases hv with rfl | rfl | rfl
    · exact absurd (HO.out.1 _ e) (by omega)
    · exact absurd (HO.out.2.1 _ e) (by omega)
    · exact absurd (HO.out.2.2 _ e) (by omega))).trans HX.out.1
  have a8 := (o1.cell (k := w.heap.size) (i := 8) hWz (fun v hv e => by
    simp only [List.mem_cons, List.mem_nil_iff, or_false] at hv
    rcases hv with rfl | rfl | rfl
    · exact absurd (HO.out.1 _ e) (by omega)
    · exact absurd (HO.out.2.1 _ e) (by omega)
    · exact absurd (HO.out.2.2 _ e) (by omega))).trans HX.out.2
  have HS1 : Hid (Strs w1 lo U1 (marks k R.length)) := S1
  have HR : Hid (Bls w1 lo U2 T ∧ Vds w1 lo U3 V) := ⟨r2, r3⟩
  have hz1 : w.heap.size < w1.heap.size := by have := o1.size; omega
  have HOF1 : Hid (OffL [U1, U2, U3] W w1) := o1
  clear S1 r2 r3 o1 hv1 HX
  subst hU1 hU2 hU3
  go_wp2_with fail
  generalize hU1 : Value.slice p1 R.length q1 = U1 at *
  generalize hU2 : Value.slice p2 T.length q2 = U2 at *
  generalize hU3 : Value.slice p3 V.length q3 = U3 at *
  rw [show (k : Int) + (R.length : Int) = ((k + R.length : Nat) : Int) by omega]
  refine (markBls _ T lo (k + R.length) _ HR.out.1 (by omega) (by omega)).mono ?_
  rintro e w2 ⟨rfl, S2, hv2⟩
  have o2 : OffL [U1, U2, U3] w1 w2 := OffL.ofV hv2 (by simp)
  have r1 : Strs w2 lo U1 (marks k R.length) := (OffL.ofV (vs := [U2]) hv2 (by simp)).row HS1.out (fun g hg v hv e => by
        rw [List.mem_singleton.1 hv] at e
        exact HA.out.1 g g hg e rfl)
  have r3 : Vds w2 lo U3 V := (OffL.ofV (vs := [U2]) hv2 (by simp)).row HR.out.2 (fun g hg v hv e => by
        rw [List.mem_singleton.1 hv] at e
        exact HA.out.2.2 g g e hg rfl)
  have b8 := (o2.cell (k := w.heap.size) (i := 8) hz1 (fun v hv e => by
    simp only [List.mem_cons, List.mem_nil_iff, or_false] at hv
    rcases hv with rfl | rfl | rfl
    · exact absurd (HO.out.1 _ e) (by omega)
    · exact absurd (HO.out.2.1 _ e) (by omega)
    · exact absurd (HO.out.2.2 _ e) (by omega))).trans a8
  have HS2 : Hid (Strs w2 lo U1 (marks k R.length) ∧ Bls w2 lo U2 (bmarks (k + R.length) T.length)) := ⟨r1, S2⟩
  have HR3 : Hid (Vds w2 lo U3 V) := r3
  have hz2 : w.heap.size < w2.heap.size := by have := o2.size; omega
  have HOF2 : Hid (OffL [U1, U2, U3] W w2) := HOF1.out.trans o2
  clear S2 r1 r3 o2 hv2 HOF1 HS1 HR a7 a8
  subst hU1 hU2 hU3
  go_wp2_with fail
  generalize hU1 : Value.slice p1 R.length q1 = U1 at *
  generalize hU2 : Value.slice p2 T.length q2 = U2 at *
  generalize hU3 : Value.slice p3 V.length q3 = U3 at *
  rw [show (k : Int) + (R.length : Int) + (T.length : Int) = ((k + R.length + T.length : Nat) : Int) by omega]
  refine (markVds _ V lo (k + R.length + T.length) _ HR3.out (by omega) (by omega)).mono ?_
  rintro e w3 ⟨rfl, S3, hv3⟩
  have o3 : OffL [U1, U2, U3] w2 w3 := OffL.ofV hv3 (by simp)
  have HF : Hid ((Strs w3 lo U1 (marks k R.length) ∧ Bls w3 lo U2 (bmarks (k + R.length) T.length) ∧ Vds w3 lo U3 (vmarks (k + R.length + T.length) V.length)) ∧ OffL [U1, U2, U3] w w3) :=
    ⟨⟨(OffL.ofV (vs := [U3]) hv3 (by simp)).row HS2.out.1 (fun g hg v hv e => by
        rw [List.mem_singleton.1 hv] at e
        exact HA.out.2.1 g g hg e rfl), (OffL.ofV (vs := [U3]) hv3 (by simp)).row HS2.out.2 (fun g hg v hv e => by
        rw [List.mem_singleton.1 hv] at e
        exact HA.out.2.2 g g hg e rfl), S3⟩, (OffL.of_below bw).trans (HOF2.out.trans o3)⟩
  clear S3 hv3 o3 HOF2 HS2 HR3
  subst hU1 hU2 hU3
  go_wp2
  go_ret
  exact ⟨rfl, HF.out.1, HF.out.2⟩

set_option maxHeartbeats 2000000 in
set_option maxRecDepth 100000 in
theorem heldSess (ph nx : Int) (buf he fr bo : ByteArray) (u1 u2 u3 : Value) (n1 n2 n3 lo k : Nat) (w : World)
    (h1 : Strs w lo u1 (marks k n1)) (h2 : Bls w lo u2 (bmarks (k + n1) n2)) (h3 : Vds w lo u3 (vmarks (k + n1 + n2) n3)) (hk : 1 ≤ k) (hm : k + n1 + n2 + 3 * n3 ≤ 16777216) :
    Calls Tryz.prog 23 #[.agg #[.int .i64 ph, .string buf, .string he, .string fr, .string bo, u1, .int .i64 nx, u2, u3], .int .i64 k] w fun e w' => e = .returned (.int .i64 ((k + n1 + n2 + 3 * n3 : Nat) : Int)) ∧ Below w.heap.size w w' := by
  obtain ⟨p1, q1, hp1⟩ := strs_form2 h1
  obtain ⟨p2, q2, hp2⟩ := bls_form h2
  obtain ⟨p3, q3, hp3⟩ := vds_form h3
  have H1 : Hid (Strs w lo u1 (marks k n1) ∧ Bls w lo u2 (bmarks (k + n1) n2) ∧ Vds w lo u3 (vmarks (k + n1 + n2) n3)) := ⟨h1, h2, h3⟩
  rw [marks_length] at hp1
  rw [bmarks_length] at hp2
  rw [vmarks_length] at hp3
  clear h1 h2 h3
  subst hp1 hp2 hp3
  go_enter Tryz.func23, Tryz.ntmps23
  go_wp2_with fail
  generalize hW : w.alloc _ = W
  have bw : Below w.heap.size w W := by rw [← hW]; exact below1 _ _
  have hWz : w.heap.size < W.heap.size := by rw [← hW]; simp
  have HX : Hid (W.cell? ⟨w.heap.size, 7, none⟩ = some (.slice p2 n2 q2) ∧ W.cell? ⟨w.heap.size, 8, none⟩ = some (.slice p3 n3 q3)) := by
    rw [← hW]
    exact ⟨by rw [World.cell?_alloc_mark]; rfl, by rw [World.cell?_alloc_mark]; rfl⟩
  clear hW
  refine (heldStrs _ n1 lo k _ (strs_below H1.out.1 bw (Nat.le_refl _)) hk (by omega)).mono ?_
  rintro e w1 ⟨rfl, hb1⟩
  have a7 := (hb1.cell (p := ⟨w.heap.size, 7, none⟩) hWz).trans HX.out.1
  have a8 := (hb1.cell (p := ⟨w.heap.size, 8, none⟩) hWz).trans HX.out.2
  have bw1 : Below w.heap.size w w1 := bw.trans (hb1.mono bw.size)
  have hz1 : w.heap.size < w1.heap.size := by have := hb1.size; omega
  clear HX hb1
  go_wp2_with fail
  rw [show (k : Int) + (n1 : Int) = ((k + n1 : Nat) : Int) by omega]
  refine (heldBls _ n2 lo (k + n1) _ (bls_below H1.out.2.1 bw1 (Nat.le_refl _)) (by omega) (by omega)).mono ?_
  rintro e w2 ⟨rfl, hb2⟩
  have b8 := (hb2.cell (p := ⟨w.heap.size, 8, none⟩) hz1).trans a8
  have bw2 : Below w.heap.size w w2 := bw1.trans (hb2.mono bw1.size)
  clear a7 a8 hb2
  go_wp2_with fail
  rw [show (k : Int) + (n1 : Int) + (n2 : Int) = ((k + n1 + n2 : Nat) : Int) by omega]
  refine (heldVds _ n3 lo (k + n1 + n2) _ (vds_below H1.out.2.2 bw2 (Nat.le_refl _)) (by omega) (by omega)).mono ?_
  rintro e w3 ⟨rfl, hb3⟩
  go_wp2
  go_ret
  exact ⟨rfl, bw2.trans (hb3.mono bw2.size)⟩
end Go.Proofs.YtngcjlghjidnjaaGreatDoor
namespace Go.Proofs.YtngcjlghjidnjaaGreatDoor
open Go.ChangeShapes Go.WideShapes Go.ChangeAt Go.RowKit
attribute [local go_sem ↓] Go.wp_at_zero Go.wp_at_succ

theorem strs_offR {w w1 : World} {lo b : Nat} {v : Value} {L : List ByteArray} (h : Strs w lo v L) (ho : Off b w w1) (hb : b < lo) : Strs w1 lo v L := by
  refine ⟨h.1, ?_⟩
  rcases h.2 with h0 | ⟨g, cap, cur, hv, hl, hg, rest⟩
  · exact .inl h0
  · refine .inr ⟨g, cap, cur, hv, hl, ?_, rest⟩
    rw [ho.block g (Array.getElem?_eq_some_iff.1 hg).1 (by omega)]; exact hg
def lenV : Value → Nat
  | .slice _ n _ => n
  | _ => 0
/-- drawn recipients -/
def rcGo : Nat → List UInt8 → Nat → List ByteArray → List ByteArray × Nat
  | 0, _, p, acc => (acc, p)
  | n + 1, B, p, acc => rcGo n B (addrF B p).2 (acc ++ [(addrF B p).1])
def rcN (c : Nat) : Nat := if 252 ≤ c then 20 + c % 2 else 1 + c % 4
def rcF (B : List UInt8) (p : Nat) : List ByteArray × Nat := rcGo (rcN (nx B p)) B (px B p) []
theorem rcGo_len : ∀ (n : Nat) (B : List UInt8) (p : Nat) (acc : List ByteArray), (rcGo n B p acc).1.length = acc.length + n
  | 0, _, _, _ => rfl
  | n + 1, B, p, acc => by rw [rcGo, rcGo_len]; simp; omega
theorem rcGo_size : ∀ (n : Nat) (B : List UInt8) (p : Nat) (acc : List ByteArray), (∀ x ∈ acc, x.size ≤ 300) → ∀ x ∈ (rcGo n B p acc).1, x.size ≤ 300
  | 0, _, _, _, h => h
  | n + 1, B, p, acc, h => by
    rw [rcGo]
    refine rcGo_size n B _ _ ?_
    intro x hx
    rcases List.mem_append.1 hx with e | e
    · exact h x e
    · rw [List.mem_singleton.1 e]; exact addrF_size B p
theorem rcF_len (B : List UInt8) (p : Nat) : (rcF B p).1.length ≤ 21 := by
  unfold rcF rcN
  rw [rcGo_len]
  split
  · simp; omega
  · simp; omega
theorem rcF_size (B : List UInt8) (p : Nat) : ∀ x ∈ (rcF B p).1, x.size ≤ 300 := rcGo_size _ B _ [] (fun x hx => by cases hx)
set_option maxHeartbeats 4000000 in
set_option maxRecDepth 100000 in
theorem rdRcptsX (b p : Nat) (cv : Value) (B : List UInt8) (w : World) (h : RdAt w b cv B p) :
    Calls Tryz.prog 27 #[.pointer (some ⟨b, 0, none⟩)] w fun e w' => (∃ v, e = .returned v ∧ Strs w' w.heap.size v (rcF B p).1) ∧ RdAt w' b cv B (rcF B p).2 ∧ Off b w w' := by
  have H : Hid (RdAt w b cv B p) := h
  have hbl : b < w.heap.size := h.2.2.2.1
  clear h
  obtain ⟨i0, hi, hz0, hz1, hz2⟩ := info_parts infoStr
  go_enter Tryz.func27, Tryz.ntmps27
  go_wp2_with fail
  refine (rdNext b p cv B _ H.out).mono ?_
  rintro e w1 ⟨rfl, h1, ho1⟩
  have hc := nx_lt B p
  have H1 : Hid (RdAt w1 b cv B (px B p)) := h1
  clear h1
  generalize hcE : nx B p = c at hc ⊢
  generalize hqE : px B p = q1 at H1
  obtain ⟨n0, hn0⟩ : ∃ n0, rcN c = n0 := ⟨_, rfl⟩
  obtain ⟨Z, hZ, HE⟩ : ∃ Z, rcGo n0 B q1 [] = Z ∧ Hid (rcF B p = Z) := ⟨_, rfl, by show rcF B p = _; unfold rcF; rw [hcE, hqE, hn0]⟩
  clear hcE hqE
  have hzw := ho1.size
  have hn21 : n0 ≤ 21 := by rw [← hn0]; unfold rcN; split <;> omega
  obtain ⟨c52, hN⟩ | ⟨c52, hN⟩ : ((252 : Int) ≤ c ∧ 20 + (c : Int) % 2 = (n0 : Int)) ∨ (¬ (252 : Int) ≤ c ∧ 1 + (c : Int) % 4 = (n0 : Int)) := by
    rw [← hn0]
    unfold rcN
    by_cases c5 : 252 ≤ c
    · rw [if_pos c5]; exact .inl ⟨by omega, by omega⟩
    · rw [if_neg c5]; exact .inr ⟨by omega, by omega⟩
  all_goals
    clear hn0
    go_wp2_with fail
    go_loopw [4, 5] (fun nv v wr => ∃ (n q : Nat) (acc : List ByteArray), nv = .int .i64 n ∧ acc.length + n ≤ 21 ∧ lenV v = acc.length ∧ Hid (rcGo n B q acc = Z) ∧ Strs wr w.heap.size v acc ∧ Hid (RdAt wr b cv B q) ∧ Off b w wr ∧ w.heap.size ≤ wr.heap.size) (fun nv _ _ => (intOf nv).toNat)
    case atStart => exact ⟨n0, q1, [], by first | rfl | go_num | rw [hN], by simp; omega, rfl, hZ, World.ownsRow_nil _ _ _ _, H1, ho1, hzw⟩
    case round =>
      obtain ⟨n, q, acc, rfl, hf, hlv, HG, hS, HR, hor, hzr⟩ := hrel
      obtain ⟨a8, c8, hv8⟩ : ∃ a8 c8, u5 = .slice a8 acc.length c8 := by
        rcases hS.cases with ⟨rfl, rfl⟩ | ⟨g, cap, rfl, _⟩
        · exact ⟨_, _, rfl⟩
        · exact ⟨_, _, rfl⟩
      subst hv8
      clear hlv
      by_cases hn : 0 < n
      · obtain ⟨k, rfl⟩ : ∃ k, n = k + 1 := ⟨n - 1, by omega⟩
        have HG2 : Hid (rcGo k B (addrF B q).2 (acc ++ [(addrF B q).1]) = Z) := HG.out
        go_wp2_with fail
        refine (rdAddrX b q cv B _ HR.out).mono ?_
        rintro e w4 ⟨rfl, h4, ho4⟩
        have hys := addrF_size B q
        generalize addrF B q = Y at HG2 h4 hys ⊢
        have HR4 : Hid (RdAt w4 b cv B Y.2) := h4
        have hz4 : wr.heap.size ≤ w4.heap.size := ho4.size
        have S4 : Strs w4 w.heap.size (.slice a8 acc.length c8) acc := strs_offR hS ho4 hbl
        have hor4 : Off b w w4 := hor.trans ho4
        have hown' : w4.ownsRow w.heap.size 9 1 (.slice a8 acc.length c8) acc.length (acc.map Value.string) := S4
        have hlos := strs_lo S4
        clear h4 ho4 hS HR HG S4
        go_wp2_with (at_builtin; refine wpList_append_lies _ rfl _ _ 23 rfl w.heap.size 9 i0 (.string ⟨#[]⟩) 1 16 Tryz.underlying23 hi hz0 hz1 hz2 rfl (by decide) _ _ _ rfl (hown'.alloc _) ⟨w4.heap.size, 0, none⟩ 1 1 [.string Y.1] rfl rfl ?c1 ?c2 ?c3 ?c4 ?c5 ?c6 (w4.heap.size + 1) ?c7 ?_)
        case c1 =>
          intro j u hj
          match j, hj with
          | 0, hj =>
            simp at hj; subst hj
            simp only [Addr.add, if_pos]
            exact World.cell?_alloc_mark w4 _ _ _ 0
        case c2 => intro u hu; simp at hu; subst hu; rfl
        case c3 => decide
        case c4 => unfold maxLen; omega
        case c5 => omega
        case c6 => simp; omega
        case c7 => simp
        intro g cap w5 hown5 hgrow hat hlt5
        have HS5 : Hid (Strs w5 w.heap.size (.slice (some ⟨g, 0, none⟩) (acc.length + 1) cap) (acc ++ [Y.1])) := strs_snoc hown5
        have hb5 : Below w.heap.size w4 w5 := ((Below.refl _ w4).alloc (by omega) _).grown hgrow (by simp; omega) hlos
        have HR5 : Hid (RdAt w5 b cv B Y.2) := H.out.carry HR4.out hb5
        have ho5 : Off b w w5 := hor4.carry hb5 (Nat.le_refl _)
        have hz5 := hb5.size
        clear hown5 hgrow hat hown' hlos
        go_wp2
        go_roundw
        case rel => exact ⟨k, Y.2, acc ++ [Y.1], by go_num, by simp; omega, by simp [lenV], HG2, HS5.out, HR5, ho5, by omega⟩
        case measure => simp [intOf]
      · obtain rfl : n = 0 := by omega
        obtain rfl : Z = (acc, q) := HG.out.symm
        go_wp2
        go_ret
        rw [HE.out]
        exact ⟨⟨_, rfl, hS⟩, HR.out, hor⟩

def goods : List ByteArray := [⟨#[]⟩, ⟨#[50, 50, 48, 32, 104, 105, 13, 10]⟩, ⟨#[50, 53, 48, 45, 111, 110, 101, 46, 101, 120, 97, 109, 112, 108, 101, 13, 10, 50, 53, 48, 32, 83, 73, 90, 69, 32, 53, 48, 48, 48, 13, 10]⟩, ⟨#[50, 53, 48, 32, 111, 107, 13, 10]⟩, ⟨#[50, 53, 48, 32, 111, 107, 13, 10]⟩, ⟨#[50, 53, 48, 32, 111, 107, 13, 10]⟩, ⟨#[51, 53, 52, 32, 103, 111, 13, 10]⟩, ⟨#[50, 53, 48, 32, 116, 97, 107, 101, 110, 13, 10]⟩, ⟨#[50, 50, 49, 32, 98, 121, 101, 13, 10]⟩, ⟨#[]⟩]
/-- what a phase hopes for -/
def goodF (ph : Int) : ByteArray := goods.getD ph.toNat ⟨#[]⟩
theorem goodF_size (ph : Int) : (goodF ph).size ≤ 100 := Nat.le_trans (getD_le (n := 32) (by decide) _) (by decide)
set_option maxHeartbeats 1000000 in
set_option maxRecDepth 100000 in
theorem specGood (ph : Int) (w : World) (h0 : 0 ≤ ph) (h9 : ph ≤ 9) :
    Calls Tryz.prog 56 #[.int .i64 ph] w fun e w' => e = .returned (.string (goodF ph)) ∧ Below w.heap.size w w' := by
  obtain ⟨m, rfl, hm8⟩ : ∃ m : Nat, ph = (m : Int) ∧ m < 10 := ⟨ph.toNat, by omega, by omega⟩
  obtain ⟨y, hye, ey⟩ := pickE goods m hm8
  have HE : Hid (goodF (m : Int) = y) := by show goodF (m : Int) = y; unfold goodF; rw [hye]; rfl
  simp only [goods, List.map_cons, List.map_nil] at ey
  clear hye
  go_enter Tryz.func56, Tryz.ntmps56
  go_wp2
  go_ret
  rw [HE.out]
  exact ⟨rfl, below1 _ _⟩
end Go.Proofs.YtngcjlghjidnjaaGreatDoor
