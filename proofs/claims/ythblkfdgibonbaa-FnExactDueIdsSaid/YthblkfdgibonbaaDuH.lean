import Derived.Test.YthblkfdgibonbaaDueM
import Derived.Test.YthblkfdgibonbaaRow
import Derived.WalkKit
import Derived.ProofKit
import Derived.WalkLawsBesides
import Derived.Deep.QuietTactic
import Derived.BigQuiet
import Derived.Deep.RegionWith
import Derived.Deep.DrawnRows
import Derived.Deep.RegionHeld3
import Derived.Laws.IdiomStrings
namespace Go.Proofs.Ythblkfdgibonbaa
open Go.ChangeShapes Go.WideShapes Go.ChangeAt Go.RowKit
attribute [local go_sem ↓] Go.wp_at_zero Go.wp_at_succ

def cmpD (a b : Int) : Int := if a < b then -1 else if b < a then 1 else 0
theorem cmpD_lt {a b : Int} (h : a < b) : cmpD a b = -1 := by rw [cmpD, if_pos h]
theorem cmpD_gt {a b : Int} (h : b < a) : cmpD a b = 1 := by rw [cmpD, if_neg (by omega), if_pos h]
theorem cmpD_eq {a b : Int} (h1 : b ≤ a) (h2 : a ≤ b) : cmpD a b = 0 := by rw [cmpD, if_neg (by omega), if_neg (by omega)]
set_option maxHeartbeats 1000000 in
set_option maxRecDepth 100000 in
theorem nanD (x : Int) (w : World) : Calls Try.prog 111 #[.int .i64 x] w fun e w' => e = .returned (.bool false) ∧ w' = w := by
  go_enter Try.func111, Try.ntmps111
  go_wp2
  go_ret
  exact ⟨rfl, rfl⟩
set_option maxHeartbeats 1000000 in
set_option maxRecDepth 100000 in
theorem nanL (x : Int) (w : World) : Calls Try.prog 110 #[.int .i64 x] w fun e w' => e = .returned (.bool false) ∧ w' = w := by
  go_enter Try.func110, Try.ntmps110
  go_wp2
  go_ret
  exact ⟨rfl, rfl⟩
set_option maxHeartbeats 1000000 in
set_option maxRecDepth 100000 in
theorem compareD (x y : Int) (w : World) : Calls Try.prog 109 #[.int .i64 x, .int .i64 y] w fun e w' => e = .returned (.int .i64 (cmpD x y)) ∧ w' = w := by
  by_cases h1 : x < y
  · go_enter Try.func109, Try.ntmps109
    go_wp2_with (go_at_call 111; refine (nanD _ _).mono ?_; rintro e w' ⟨rfl, rfl⟩)
    go_ret
    exact ⟨ret_int (cmpD_lt h1).symm, rfl⟩
  · by_cases h2 : y < x
    · go_enter Try.func109, Try.ntmps109
      go_wp2_with (go_at_call 111; refine (nanD _ _).mono ?_; rintro e w' ⟨rfl, rfl⟩)
      go_ret
      exact ⟨ret_int (cmpD_gt h2).symm, rfl⟩
    · go_enter Try.func109, Try.ntmps109
      go_wp2_with (go_at_call 111; refine (nanD _ _).mono ?_; rintro e w' ⟨rfl, rfl⟩)
      go_ret
      exact ⟨ret_int (cmpD_eq (by omega) (by omega)).symm, rfl⟩
set_option maxHeartbeats 1000000 in
set_option maxRecDepth 100000 in
theorem compareL (x y : Int) (w : World) : Calls Try.prog 108 #[.int .i64 x, .int .i64 y] w fun e w' => e = .returned (.int .i64 (cmpD x y)) ∧ w' = w := by
  by_cases h1 : x < y
  · go_enter Try.func108, Try.ntmps108
    go_wp2_with (go_at_call 110; refine (nanL _ _).mono ?_; rintro e w' ⟨rfl, rfl⟩)
    go_ret
    exact ⟨ret_int (cmpD_lt h1).symm, rfl⟩
  · by_cases h2 : y < x
    · go_enter Try.func108, Try.ntmps108
      go_wp2_with (go_at_call 110; refine (nanL _ _).mono ?_; rintro e w' ⟨rfl, rfl⟩)
      go_ret
      exact ⟨ret_int (cmpD_gt h2).symm, rfl⟩
    · go_enter Try.func108, Try.ntmps108
      go_wp2_with (go_at_call 110; refine (nanL _ _).mono ?_; rintro e w' ⟨rfl, rfl⟩)
      go_ret
      exact ⟨ret_int (cmpD_eq (by omega) (by omega)).symm, rfl⟩
def orD (a b : Int) : Int := if a = 0 then b else a
set_option maxHeartbeats 1000000 in
set_option maxRecDepth 100000 in
theorem cmpOrD (g cap : Nat) (a b : Int) (w : World) (h0 : w.cell? ⟨g, 0, none⟩ = some (.int .i64 a)) (h1 : w.cell? ⟨g, 1, none⟩ = some (.int .i64 b)) :
    Calls Try.prog 107 #[.slice (some ⟨g, 0, none⟩) 2 cap] w fun e w' => e = .returned (.int .i64 (orD a b)) ∧ w' = w := by
  by_cases ha : a = 0
  · subst ha
    by_cases hb : b = 0
    · subst hb
      go_enter Try.func107, Try.ntmps107
      go_wp2
      refine wp_loop_rounds 3 ?_
      rw [rounds_succ]
      go_wp2
      rw [rounds_succ]
      go_wp2
      rw [rounds_succ]
      go_wp2
      go_ret
      exact ⟨rfl, rfl⟩
    · have hbb : (b == 0) = false := beq_eq_false_iff_ne.2 hb
      have G : Hid (orD 0 b = b) := by show _ = _; rw [orD, if_pos rfl]
      go_enter Try.func107, Try.ntmps107
      go_wp2
      refine wp_loop_rounds 2 ?_
      rw [rounds_succ]
      go_wp2
      rw [rounds_succ]
      go_wp2
      go_ret
      exact ⟨ret_int G.out.symm, rfl⟩
  · have hab : (a == 0) = false := beq_eq_false_iff_ne.2 ha
    have G : Hid (orD a b = a) := by show _ = _; rw [orD, if_neg ha]
    go_enter Try.func107, Try.ntmps107
    go_wp2
    refine wp_loop_rounds 1 ?_
    rw [rounds_succ]
    go_wp2
    go_ret
    exact ⟨ret_int G.out.symm, rfl⟩
theorem or_lt (x y : Du) : decide (orD (cmpD x.1 y.1) (cmpD x.2 y.2) < 0) = decide (dLt x y) := by
  rw [decide_eq_decide]
  unfold orD cmpD dLt
  split <;> split <;> (try split) <;> (try split) <;> omega

/-- the cells of a turn -/
def dc (d : Du) : List Value := [.int .i64 d.1, .int .i64 d.2]
/-- the heap's row -/
def Hp (w : World) (lo : Nat) (v : Value) (D : List Du) : Prop := Rw 77 2 w lo v (D.map dc)
theorem dc_two (D : List Du) : ∀ c ∈ D.map dc, c.length = 2 := by
  intro c hc
  obtain ⟨e, _, rfl⟩ := List.mem_map.1 hc
  rfl
theorem Hp.cell {w : World} {lo g m cap : Nat} {D : List Du} (h : Hp w lo (.slice (some ⟨g, 0, none⟩) m cap) D) (k : Nat) (hk : k < D.length) : w.cell? ⟨g, k * 2, none⟩ = some (.int .i64 D[k].1) ∧ w.cell? ⟨g, k * 2 + 1, none⟩ = some (.int .i64 D[k].2) := by
  have hkr : k < (D.map dc).length := by simpa using hk
  have cl : ∀ j, j < 2 → w.cell? ⟨g, k * 2 + j, none⟩ = (dc D[k])[j]? := fun j hj => by
    rw [h.at.1.cell k hkr j hj, List.getElem_map]
  exact ⟨cl 0 (by decide), cl 1 (by decide)⟩
theorem Hp.form {w : World} {lo : Nat} {v : Value} {D : List Du} (h : Hp w lo v D) : ∃ a c, v = .slice a D.length c := by
  obtain ⟨a, c, e⟩ := Rw.form h
  rw [List.length_map] at e
  exact ⟨a, c, e⟩
theorem Hp.ne {w : World} {lo : Nat} {v : Value} {D : List Du} (h : Hp w lo v D) (h0 : 0 < D.length) : ∃ g cap, v = .slice (some ⟨g, 0, none⟩) D.length cap ∧ g < w.heap.size ∧ lo ≤ g ∧ D.length ≤ cap ∧ cap ≤ maxLen := by
  rcases Rw.cases h with ⟨_, e⟩ | ⟨g, cap, e, hs⟩
  · have := congrArg List.length e; simp at this; subst this; simp at h0
  · rw [List.length_map] at e
    have hl := hs.len
    rw [List.length_map] at hl
    exact ⟨g, cap, e, hs.lt, hs.lo, hl, hs.capm⟩
theorem cellD (w : World) (C : Array Value) (T : TypeId) (j : Nat) : (w.alloc (.cells C T)).drew.cell? ⟨w.heap.size, j, none⟩ = C[j]? := World.cell?_alloc_mark w C T (0, 0) j

set_option maxHeartbeats 2000000 in
set_option maxRecDepth 100000 in
theorem hpLess (g cap i j lo : Nat) (D : List Du) (w : World) (h : Hp w lo (.slice (some ⟨g, 0, none⟩) D.length cap) D) (hi : i < D.length) (hj : j < D.length) :
    Calls Try.prog 105 #[.slice (some ⟨g, 0, none⟩) D.length cap, .int .i64 i, .int .i64 j] w fun e w' => e = .returned (.bool (decide (dLt (gD D i) (gD D j)))) ∧ Below w.heap.size w w' := by
  obtain ⟨c0, c1⟩ := h.cell i hi
  obtain ⟨d0, d1⟩ := h.cell j hj
  have hg := (Rw.at h).1.lt
  have HE : Hid (decide (orD (cmpD D[i].1 D[j].1) (cmpD D[i].2 D[j].2) < 0) = decide (dLt (gD D i) (gD D j))) := by
    rw [gD_get hi, gD_get hj]; exact or_lt _ _
  rw [← HE.out]
  clear HE h
  generalize D[i] = x at *
  generalize D[j] = y at *
  obtain ⟨x1, x2⟩ := x
  obtain ⟨y1, y2⟩ := y
  dsimp only at *
  have H1 : Hid (∀ w, Calls Try.prog 108 #[.int .i64 x1, .int .i64 y1] w fun e w' => e = .returned (.int .i64 (cmpD x1 y1)) ∧ w' = w) := fun w => compareL x1 y1 w
  have H2 : Hid (∀ w, Calls Try.prog 109 #[.int .i64 x2, .int .i64 y2] w fun e w' => e = .returned (.int .i64 (cmpD x2 y2)) ∧ w' = w) := fun w => compareD x2 y2 w
  generalize cmpD x1 y1 = A at *
  generalize cmpD x2 y2 = B at *
  have H4 : Hid (∀ g (w : World), w.cell? ⟨g, 0, none⟩ = some (.int .i64 A) → w.cell? ⟨g, 1, none⟩ = some (.int .i64 B) → Calls Try.prog 107 #[.slice (some ⟨g, 0, none⟩) 2 2] w fun e w' => e = .returned (.int .i64 (orD A B)) ∧ w' = w) := fun g w h0 h1 => cmpOrD g 2 A B w h0 h1
  generalize orD A B = O at *
  have i1 : (0 : Int) ≤ (i : Int) := by omega
  have i2 : (i : Int) < (D.length : Int) := by omega
  have j1 : (0 : Int) ≤ (j : Int) := by omega
  have j2 : (j : Int) < (D.length : Int) := by omega
  generalize D.length = n at *
  go_enter Try.func105, Try.ntmps105
  go_wp2_with fail
  go_region_held3 (fun w' => w'.cell? ⟨g, i * 2, none⟩ = some (.int .i64 x1) ∧ w'.cell? ⟨g, i * 2 + 1, none⟩ = some (.int .i64 x2) ∧ w'.cell? ⟨g, j * 2, none⟩ = some (.int .i64 y1) ∧ w'.cell? ⟨g, j * 2 + 1, none⟩ = some (.int .i64 y2)) (go_keep) (first | (go_at_call 108; refine (H1.out _).mono ?_; rintro e w' ⟨rfl, rfl⟩) | (go_at_call 109; refine (H2.out _).mono ?_; rintro e w' ⟨rfl, rfl⟩) | (go_at_call 107; refine (H4.out _ _ ?_ ?_).mono ?_; exact cellD _ _ _ 0; exact cellD _ _ _ 1; rintro e w' ⟨rfl, rfl⟩))
  all_goals
    go_wp2
    go_ret
    exact ⟨rfl, ((Below.refl w.heap.size w).alloc (Nat.le_refl _) _).drew⟩
end Go.Proofs.Ythblkfdgibonbaa
