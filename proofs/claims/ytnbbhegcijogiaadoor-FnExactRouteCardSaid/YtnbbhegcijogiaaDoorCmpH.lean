import Derived.Test.YtnbbhegcijogiaaDoorCmp3
import Derived.Deep.RegionHeld3
import Derived.Laws.IdiomStrings
namespace Go.Proofs.YtnbbhegcijogiaaDoor
open Go.ChangeShapes Go.WideShapes Go.ChangeAt Go.RowKit
attribute [local go_sem ↓] Go.wp_at_zero Go.wp_at_succ

def or3 (a b c : Int) : Int := if a = 0 then (if b = 0 then c else b) else a
set_option maxHeartbeats 1000000 in
set_option maxRecDepth 100000 in
theorem cmpOr (g cap : Nat) (a b c : Int) (w : World) (h0 : w.cell? ⟨g, 0, none⟩ = some (.int .i64 a)) (h1 : w.cell? ⟨g, 1, none⟩ = some (.int .i64 b)) (h2 : w.cell? ⟨g, 2, none⟩ = some (.int .i64 c)) :
    Calls Tryd.prog 41 #[.slice (some ⟨g, 0, none⟩) 3 cap] w fun e w' => e = .returned (.int .i64 (or3 a b c)) ∧ w' = w := by
  by_cases ha : a = 0
  · subst ha
    by_cases hb : b = 0
    · subst hb
      by_cases hc : c = 0
      · subst hc
        go_enter Tryd.func41, Tryd.ntmps41
        go_wp2
        refine wp_loop_rounds 4 ?_
        rw [rounds_succ]
        go_wp2
        rw [rounds_succ]
        go_wp2
        rw [rounds_succ]
        go_wp2
        rw [rounds_succ]
        go_wp2
        go_ret
        exact ⟨rfl, rfl⟩
      · have hcb : (c == 0) = false := beq_eq_false_iff_ne.2 hc
        go_enter Tryd.func41, Tryd.ntmps41
        go_wp2
        refine wp_loop_rounds 3 ?_
        rw [rounds_succ]
        go_wp2
        rw [rounds_succ]
        go_wp2
        rw [rounds_succ]
        go_wp2
        go_ret
        exact ⟨rfl, rfl⟩
    · have hbb : (b == 0) = false := beq_eq_false_iff_ne.2 hb
      have G : Hid (or3 0 b c = b) := by show _ = _; rw [or3, if_pos rfl, if_neg hb]
      go_enter Tryd.func41, Tryd.ntmps41
      go_wp2
      refine wp_loop_rounds 2 ?_
      rw [rounds_succ]
      go_wp2
      rw [rounds_succ]
      go_wp2
      go_ret
      exact ⟨ret_int G.out.symm, rfl⟩
  · have hab : (a == 0) = false := beq_eq_false_iff_ne.2 ha
    have G : Hid (or3 a b c = a) := by show _ = _; rw [or3, if_neg ha]
    go_enter Tryd.func41, Tryd.ntmps41
    go_wp2
    refine wp_loop_rounds 1 ?_
    rw [rounds_succ]
    go_wp2
    go_ret
    exact ⟨ret_int G.out.symm, rfl⟩

theorem cellW (w : World) (C : Array Value) (T : TypeId) (j : Nat) : (w.alloc (.cells C T)).drew.cell? ⟨w.heap.size, j, none⟩ = C[j]? := World.cell?_alloc_mark w C T (0, 0) j

theorem grown {w W : World} {q : Nat} {os : Array Obj} {o : Obj} (e : W = Sort.grow (w.drewN q) os) : ∃ q os, (W.alloc o).drew = Sort.grow (w.drewN q) os := by
  refine ⟨q + 1, os ++ #[o], ?_⟩
  rw [e, Sort.alloc_eq_grow, Sort.grow_grow]
  rfl

/-- an exchanger with what puts it in order -/
abbrev Rk := Int × Int × ByteArray
def cmpR (x y : Rk) : Int := or3 (cmpI x.1 y.1) (cmpI x.2.1 y.2.1) (cmpS x.2.2 y.2.2)
def rkEnc (x : Rk) : List Value := [.int .i64 x.1, .int .u32 x.2.1, .string x.2.2]

set_option maxHeartbeats 1000000 in
set_option maxRecDepth 100000 in
theorem compareHosts (x y : Rk) (w : World) :
    Calls Tryd.prog 26 #[.agg #[.int .i64 x.1, .int .u32 x.2.1, .string x.2.2], .agg #[.int .i64 y.1, .int .u32 y.2.1, .string y.2.2]] w fun e w' => e = .returned (.int .i64 (cmpR x y)) ∧ ∃ q os, w' = Sort.grow (w.drewN q) os := by
  obtain ⟨x1, x2, x3⟩ := x
  obtain ⟨y1, y2, y3⟩ := y
  have H1 : Hid (∀ w, Calls Tryd.prog 42 #[.int .i64 x1, .int .i64 y1] w fun e w' => e = .returned (.int .i64 (cmpI x1 y1)) ∧ w' = w) := fun w => compareI x1 y1 w
  have H2 : Hid (∀ w, Calls Tryd.prog 43 #[.int .u32 x2, .int .u32 y2] w fun e w' => e = .returned (.int .i64 (cmpI x2 y2)) ∧ w' = w) := fun w => compareU x2 y2 w
  have H3 : Hid (∀ w, Calls Tryd.prog 44 #[.string x3, .string y3] w fun e w' => e = .returned (.int .i64 (cmpS x3 y3)) ∧ w' = w) := fun w => compareS x3 y3 w
  show Calls _ _ _ _ fun e w' => e = .returned (.int .i64 (or3 (cmpI x1 y1) (cmpI x2 y2) (cmpS x3 y3))) ∧ ∃ q os, w' = Sort.grow (w.drewN q) os
  dsimp only
  generalize cmpI x1 y1 = A at *
  generalize cmpI x2 y2 = B at *
  generalize cmpS x3 y3 = C at *
  have H4 : Hid (∀ g (w : World), w.cell? ⟨g, 0, none⟩ = some (.int .i64 A) → w.cell? ⟨g, 1, none⟩ = some (.int .i64 B) → w.cell? ⟨g, 2, none⟩ = some (.int .i64 C) → Calls Tryd.prog 41 #[.slice (some ⟨g, 0, none⟩) 3 3] w fun e w' => e = .returned (.int .i64 (or3 A B C)) ∧ w' = w) := fun g w h0 h1 h2 => cmpOr g 3 A B C w h0 h1 h2
  generalize or3 A B C = D at *
  go_enter Tryd.func26, Tryd.ntmps26
  go_wp2_with fail
  generalize hW : (w.alloc _).alloc _ = W
  have c0 : W.cell? ⟨w.heap.size, 0, none⟩ = some (.int .i64 x1) := by rw [← hW]; exact World.cell?_alloc2_first _ _ _ _
  have c1 : W.cell? ⟨w.heap.size, 1, none⟩ = some (.int .u32 x2) := by rw [← hW]; exact World.cell?_alloc2_first _ _ _ _
  have c2 : W.cell? ⟨w.heap.size, 2, none⟩ = some (.string x3) := by rw [← hW]; exact World.cell?_alloc2_first _ _ _ _
  have d0 : W.cell? ⟨w.heap.size + 1, 0, none⟩ = some (.int .i64 y1) := by rw [← hW]; exact World.cell?_alloc2_new _ _ _ _
  have d1 : W.cell? ⟨w.heap.size + 1, 1, none⟩ = some (.int .u32 y2) := by rw [← hW]; exact World.cell?_alloc2_new _ _ _ _
  have d2 : W.cell? ⟨w.heap.size + 1, 2, none⟩ = some (.string y3) := by rw [← hW]; exact World.cell?_alloc2_new _ _ _ _
  have HW : Hid (∃ q os, W = Sort.grow (w.drewN q) os) := by
    rw [← hW, Sort.alloc_eq_grow, Sort.alloc_eq_grow, Sort.grow_grow]
    exact ⟨0, _, rfl⟩
  clear hW
  generalize w.heap.size = bx at *
  go_region_held3 (fun w' => w'.cell? ⟨bx, 0, none⟩ = some (.int .i64 x1) ∧ w'.cell? ⟨bx, 1, none⟩ = some (.int .u32 x2) ∧ w'.cell? ⟨bx, 2, none⟩ = some (.string x3) ∧ w'.cell? ⟨bx + 1, 0, none⟩ = some (.int .i64 y1) ∧ w'.cell? ⟨bx + 1, 1, none⟩ = some (.int .u32 y2) ∧ w'.cell? ⟨bx + 1, 2, none⟩ = some (.string y3)) (go_keep) (first | (go_at_call 42; refine (H1.out _).mono ?_; rintro e w' ⟨rfl, rfl⟩) | (go_at_call 43; refine (H2.out _).mono ?_; rintro e w' ⟨rfl, rfl⟩) | (go_at_call 44; refine (H3.out _).mono ?_; rintro e w' ⟨rfl, rfl⟩) | (go_at_call 41; refine (H4.out _ _ ?_ ?_ ?_).mono ?_; exact cellW _ _ _ 0; exact cellW _ _ _ 1; exact cellW _ _ _ 2; rintro e w' ⟨rfl, rfl⟩))
  all_goals
    go_wp2
    go_ret
    refine ⟨rfl, ?_⟩
    obtain ⟨q, os, e⟩ := HW.out
    exact grown e
end Go.Proofs.YtnbbhegcijogiaaDoor
