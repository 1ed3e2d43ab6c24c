import Derived.Test.YtfkngjdclggfbaaDoorProp
namespace Go.Proofs.YtfkngjdclggfbaaDoor
open Go.ChangeShapes Go.WideShapes Go.ChangeAt Go.RowKit

def nextN (ph nx : Int) (n : Nat) : Bool := decide (0 ≤ nx ∧ nx ≤ (n : Int) ∧ ¬ (nx = (n : Int) ∧ ph = 5))
set_option maxHeartbeats 1000000 in
set_option maxRecDepth 100000 in
theorem implNext (ph nx : Int) (buf he fr bo : ByteArray) (p1 p2 p3 : Option Addr) (q1 q2 q3 n1 n2 n3 : Nat) (w : World) :
    Calls Tryd.prog 37 #[.agg #[.int .i64 ph, .string buf, .string he, .string fr, .string bo, .slice p1 n1 q1, .int .i64 nx, .slice p2 n2 q2, .slice p3 n3 q3]] w fun e w' => e = .returned (.bool (nextN ph nx n1)) ∧ Below w.heap.size w w' := by
  have HN : Hid (nextN ph nx n1 = decide (0 ≤ nx ∧ nx ≤ (n1 : Int) ∧ ¬ (nx = (n1 : Int) ∧ ph = 5))) := rfl
  generalize nextN ph nx n1 = B at *
  have hc : (ph = 5 ∧ nx = (n1 : Int)) ∨ (ph = 5 ∧ nx ≠ (n1 : Int)) ∨ ph ≠ 5 := by omega
  rcases hc with ⟨t1, t2⟩ | ⟨t1, t2⟩ | t1
  · have tb1 : (ph == 5) = true := beq_iff_eq.2 t1
    have tb2 : (nx == (n1 : Int)) = true := beq_iff_eq.2 t2
    have G : Hid (B = false) := by show _ = _; rw [HN.out]; exact decide_eq_false (by omega)
    go_enter Tryd.func37, Tryd.ntmps37
    go_wp2
    go_ret
    exact ⟨ret_bool G.out.symm, below1 _ _⟩
  focus
    have tb1 : (ph == 5) = true := beq_iff_eq.2 t1
    have tb2 : (nx == (n1 : Int)) = false := beq_eq_false_iff_ne.2 t2
    have hno : ¬ (nx = (n1 : Int) ∧ ph = 5) := by omega
    skip
  rotate_left
  focus
    have tb1 : (ph == 5) = false := beq_eq_false_iff_ne.2 t1
    have hno : ¬ (nx = (n1 : Int) ∧ ph = 5) := by omega
    skip
  all_goals
    by_cases t3 : 0 ≤ nx
    · by_cases t4 : nx ≤ (n1 : Int)
      · have G : Hid (B = true) := by show _ = _; rw [HN.out]; exact decide_eq_true ⟨t3, t4, hno⟩
        clear HN
        go_enter Tryd.func37, Tryd.ntmps37
        go_wp2
        go_ret
        exact ⟨ret_bool G.out.symm, below1 _ _⟩
      · have G : Hid (B = false) := by show _ = _; rw [HN.out]; exact decide_eq_false (by omega)
        clear HN
        go_enter Tryd.func37, Tryd.ntmps37
        go_wp2
        go_ret
        exact ⟨ret_bool G.out.symm, below1 _ _⟩
    · have G : Hid (B = false) := by show _ = _; rw [HN.out]; exact decide_eq_false (by omega)
      clear HN
      go_enter Tryd.func37, Tryd.ntmps37
      go_wp2
      go_ret
      exact ⟨ret_bool G.out.symm, below1 _ _⟩

end Go.Proofs.YtfkngjdclggfbaaDoor
