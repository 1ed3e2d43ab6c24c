import Derived.Test.YtfkngjdclggfbaaDoorVd
import Derived.Test.YtfkngjdclggfbaaDoorByt
namespace Go.Proofs.YtfkngjdclggfbaaDoor
open Go.ChangeShapes Go.WideShapes Go.ChangeAt Go.RowKit

def codeOk (c : Int) : Bool := decide (c = 0) || (decide (200 ≤ c) && decide (c ≤ 599))

set_option maxHeartbeats 1000000 in
set_option maxRecDepth 100000 in
theorem specCode (c : Int) (w : World) : Calls Tryd.prog 34 #[.int .i64 c] w fun e w' => e = .returned (.bool (codeOk c)) ∧ Below w.heap.size w w' := by
  by_cases h0 : c = 0
  · subst h0
    go_enter Tryd.func34, Tryd.ntmps34
    go_wp2
    go_ret
    exact ⟨rfl, Below.refl _ _⟩
  · have h0b : (c == 0) = false := beq_eq_false_iff_ne.2 h0
    have G0 : Hid (codeOk c = (decide (200 ≤ c) && decide (c ≤ 599))) := by show _ = _; unfold codeOk; rw [decide_eq_false h0]; rfl
    by_cases h1 : 200 ≤ c
    · by_cases h2 : c ≤ 599
      · have G : Hid (codeOk c = true) := by show _ = _; rw [G0.out, decide_eq_true h1, decide_eq_true h2]; rfl
        go_enter Tryd.func34, Tryd.ntmps34
        go_wp2
        go_ret
        exact ⟨ret_bool G.out.symm, Below.refl _ _⟩
      · have G : Hid (codeOk c = false) := by show _ = _; rw [G0.out, decide_eq_false h2]; simp
        go_enter Tryd.func34, Tryd.ntmps34
        go_wp2
        go_ret
        exact ⟨ret_bool G.out.symm, Below.refl _ _⟩
    · have G : Hid (codeOk c = false) := by show _ = _; rw [G0.out, decide_eq_false h1]; rfl
      go_enter Tryd.func34, Tryd.ntmps34
      go_wp2
      go_ret
      exact ⟨ret_bool G.out.symm, Below.refl _ _⟩

set_option maxHeartbeats 1000000 in
set_option maxRecDepth 100000 in
theorem implCode (c : Int) (w : World) : Calls Tryd.prog 50 #[.int .i64 c] w fun e w' => e = .returned (.bool (codeOk c)) ∧ Below w.heap.size w w' := by
  by_cases h0 : c = 0
  · subst h0
    go_enter Tryd.func50, Tryd.ntmps50
    go_wp2
    go_ret
    exact ⟨rfl, Below.refl _ _⟩
  · have h0b : (c == 0) = false := beq_eq_false_iff_ne.2 h0
    have G0 : Hid (codeOk c = (decide (200 ≤ c) && decide (c ≤ 599))) := by show _ = _; unfold codeOk; rw [decide_eq_false h0]; rfl
    by_cases h1 : 200 ≤ c
    · by_cases h2 : c ≤ 599
      · have G : Hid (codeOk c = true) := by show _ = _; rw [G0.out, decide_eq_true h1, decide_eq_true h2]; rfl
        go_enter Tryd.func50, Tryd.ntmps50
        go_wp2
        go_ret
        exact ⟨ret_bool G.out.symm, Below.refl _ _⟩
      · have G : Hid (codeOk c = false) := by show _ = _; rw [G0.out, decide_eq_false h2]; simp
        go_enter Tryd.func50, Tryd.ntmps50
        go_wp2
        go_ret
        exact ⟨ret_bool G.out.symm, Below.refl _ _⟩
    · have G : Hid (codeOk c = false) := by show _ = _; rw [G0.out, decide_eq_false h1]; rfl
      go_enter Tryd.func50, Tryd.ntmps50
      go_wp2
      go_ret
      exact ⟨ret_bool G.out.symm, Below.refl _ _⟩

set_option maxHeartbeats 1000000 in
set_option maxRecDepth 100000 in
theorem implReason (x : Vd) (w : World) (hx : x.2.2.size ≤ 1048576) :
    Calls Tryd.prog 38 #[.agg #[.int .i64 x.1, .int .i64 x.2.1, .string x.2.2]] w fun e w' => e = .returned (.bool (codeOk x.2.1 && decide (x.2.2.size ≤ 512))) ∧ Below w.heap.size w w' := by
  have H1 : Hid (codeOk x.2.1 = false → (codeOk x.2.1 && decide (x.2.2.size ≤ 512)) = false) := fun h => by rw [h]; rfl
  have H2 : Hid (codeOk x.2.1 = true → (codeOk x.2.1 && decide (x.2.2.size ≤ 512)) = decide (x.2.2.size ≤ 512)) := fun h => by rw [h]; rfl
  generalize (codeOk x.2.1 && decide (x.2.2.size ≤ 512)) = BB at *
  go_enter Tryd.func38, Tryd.ntmps38
  go_wp2_with fail
  refine (implCode x.2.1 _).mono ?_
  rintro e w1 ⟨rfl, hb1⟩
  have b1 : Below w.heap.size w w1 := (below1 w _).trans (hb1.mono (by simp))
  have z2 : w1.cell? ⟨w.heap.size, 2, none⟩ = some (.string x.2.2) := (hb1.cell (p := ⟨w.heap.size, 2, none⟩) (by simp)).trans (World.cell?_alloc_mark _ _ _ _ _)
  clear hb1
  have hcd : codeOk x.2.1 = false ∨ codeOk x.2.1 = true := by cases codeOk x.2.1 <;> simp
  rcases hcd with hcd | hcd
  · have G : Hid (BB = false) := H1.out hcd
    rw [hcd]
    go_wp2
    go_ret
    exact ⟨ret_bool G.out.symm, b1⟩
  · rw [hcd]
    by_cases d : x.2.2.size ≤ 512
    · have di : (x.2.2.size : Int) ≤ 512 := by omega
      have G : Hid (BB = true) := (H2.out hcd).trans (decide_eq_true d)
      clear H1 H2
      go_wp2
      go_ret
      exact ⟨ret_bool G.out.symm, b1⟩
    · have di : ¬ (x.2.2.size : Int) ≤ 512 := by omega
      have G : Hid (BB = false) := (H2.out hcd).trans (decide_eq_false d)
      clear H1 H2
      go_wp2
      go_ret
      exact ⟨ret_bool (by rw [G.out]; exact decide_eq_false (by omega)), b1⟩
end Go.Proofs.YtfkngjdclggfbaaDoor
