import Derived.Test.YtlolnfpfipnfeaaGreatMg15
import Derived.Test.YtlolnfpfipnfeaaGreatMg4
namespace Go.Proofs.YtlolnfpfipnfeaaGreat
open Go.ChangeShapes Go.WideShapes Go.ChangeAt Go.RowKit

def codeOk (c : Int) : Bool := decide (c = 0) || (decide (200 ≤ c) && decide (c ≤ 599))

set_option maxHeartbeats 1000000 in
set_option maxRecDepth 100000 in
theorem specCode (c : Int) (w : World) : Calls Tryz.prog 44 #[.int .i64 c] w fun e w' => e = .returned (.bool (codeOk c)) ∧ Below w.heap.size w w' := by
  by_cases h0 : c = 0
  · subst h0
    go_enter Tryz.func44, Tryz.ntmps44
    go_wp2
    go_ret
    exact ⟨rfl, Below.refl _ _⟩
  · have h0b : (c == 0) = false := beq_eq_false_iff_ne.2 h0
    have G0 : Hid (codeOk c = (decide (200 ≤ c) && decide (c ≤ 599))) := by show _ = _; unfold codeOk; rw [decide_eq_false h0]; rfl
    by_cases h1 : 200 ≤ c
    · by_cases h2 : c ≤ 599
      · have G : Hid (codeOk c = true) := by show _ = _; rw [G0.out, decide_eq_true h1, decide_eq_true h2]; rfl
        go_enter Tryz.func44, Tryz.ntmps44
        go_wp2
        go_ret
        exact ⟨ret_bool G.out.symm, Below.refl _ _⟩
      · have G : Hid (codeOk c = false) := by show _ = _; rw [G0.out, decide_eq_false h2]; simp
        go_enter Tryz.func44, Tryz.ntmps44
        go_wp2
        go_ret
        exact ⟨ret_bool G.out.symm, Below.refl _ _⟩
    · have G : Hid (codeOk c = false) := by show _ = _; rw [G0.out, decide_eq_false h1]; rfl
      go_enter Tryz.func44, Tryz.ntmps44
      go_wp2
      go_ret
      exact ⟨ret_bool G.out.symm, Below.refl _ _⟩

set_option maxHeartbeats 1000000 in
set_option maxRecDepth 100000 in
theorem implCode (c : Int) (w : World) : Calls Tryz.prog 140 #[.int .i64 c] w fun e w' => e = .returned (.bool (codeOk c)) ∧ Below w.heap.size w w' := by
  by_cases h0 : c = 0
  · subst h0
    go_enter Tryz.func140, Tryz.ntmps140
    go_wp2
    go_ret
    exact ⟨rfl, Below.refl _ _⟩
  · have h0b : (c == 0) = false := beq_eq_false_iff_ne.2 h0
    have G0 : Hid (codeOk c = (decide (200 ≤ c) && decide (c ≤ 599))) := by show _ = _; unfold codeOk; rw [decide_eq_false h0]; rfl
    by_cases h1 : 200 ≤ c
    · by_cases h2 : c ≤ 599
      · have G : Hid (codeOk c = true) := by show _ = _; rw [G0.out, decide_eq_true h1, decide_eq_true h2]; rfl
        go_enter Tryz.func140, Tryz.ntmps140
        go_wp2
        go_ret
        exact ⟨ret_bool G.out.symm, Below.refl _ _⟩
      · have G : Hid (codeOk c = false) := by show _ = _; rw [G0.out, decide_eq_false h2]; simp
        go_enter Tryz.func140, Tryz.ntmps140
        go_wp2
        go_ret
        exact ⟨ret_bool G.out.symm, Below.refl _ _⟩
    · have G : Hid (codeOk c = false) := by show _ = _; rw [G0.out, decide_eq_false h1]; rfl
      go_enter Tryz.func140, Tryz.ntmps140
      go_wp2
      go_ret
      exact ⟨ret_bool G.out.symm, Below.refl _ _⟩

set_option maxHeartbeats 1000000 in
set_option maxRecDepth 100000 in
theorem implReason (x : Vd) (w : World) (hx : x.2.2.size ≤ 1048576) :
    Calls Tryz.prog 138 #[.agg #[.int .i64 x.1, .int .i64 x.2.1, .string x.2.2]] w fun e w' => e = .returned (.bool (codeOk x.2.1 && decide (x.2.2.size ≤ 512))) ∧ Below w.heap.size w w' := by
  have H1 : Hid (codeOk x.2.1 = false → (codeOk x.2.1 && decide (x.2.2.size ≤ 512)) = false) := fun h => by rw [h]; rfl
  have H2 : Hid (codeOk x.2.1 = true → (codeOk x.2.1 && decide (x.2.2.size ≤ 512)) = decide (x.2.2.size ≤ 512)) := fun h => by rw [h]; rfl
  generalize (codeOk x.2.1 && decide (x.2.2.size ≤ 512)) = BB at *
  go_enter Tryz.func138, Tryz.ntmps138
  go_wp2_with fail
  refine (implCode x.2.1 _).mono ?_
  rintro e w1 ⟨rfl, hb1⟩
  have b1 : Below w.heap.size w w1 := (below1 w _).trans (hb1.mono (by simp))
  have z2 : w1.cell? ⟨w.heap.size, 2, none⟩ = some (.string x.2.2) := (hb1.cell (p := ⟨w.heap.size, 2, none⟩) (by simp)).trans (World.cell?_alloc_mark _ _ _ _ _)
  clear hb1
  have hcd : codeOk x.2.1 = false ∨ codeOk x.2.1 = true := by cases codeOk x.2.1 <;> simp
  rcases hcd with hcd | hcd
  · have G : Hid (BB = false) := H1.out hcd
    rw [hcd]
    go_wp2
    go_ret
    exact ⟨ret_bool G.out.symm, b1⟩
  · rw [hcd]
    by_cases d : x.2.2.size ≤ 512
    · have di : (x.2.2.size : Int) ≤ 512 := by omega
      have G : Hid (BB = true) := (H2.out hcd).trans (decide_eq_true d)
      clear H1 H2
      go_wp2
      go_ret
      exact ⟨ret_bool G.out.symm, b1⟩
    · have di : ¬ (x.2.2.size : Int) ≤ 512 := by omega
      have G : Hid (BB = false) := (H2.out hcd).trans (decide_eq_false d)
      clear H1 H2
      go_wp2
      go_ret
      exact ⟨ret_bool (by rw [G.out]; exact decide_eq_false (by omega)), b1⟩
end Go.Proofs.YtlolnfpfipnfeaaGreat
namespace Go.Proofs.YtlolnfpfipnfeaaGreat
open Go.ChangeShapes Go.WideShapes Go.ChangeAt Go.RowKit
open Pcs

/-- a record -/
structure Rec where
  kind : Int
  mid : Int
  born : Int
  fr : ByteArray
  R : List ByteArray
  bo : ByteArray
  id : Int
  rc : Int
  vk : Int
  vc : Int
  vt : ByteArray
  tr : Int
  due : Int

def idN (n : Int) : Bool := decide (1 ≤ n) && decide (n ≤ 999999)
def noV (r : Rec) : Bool := decide (r.vk = 0) && (decide (r.vc = 0) && decide (r.vt.size = 0))
def noTry (r : Rec) : Bool := decide (r.tr = 0) && decide (r.due = 0)
def noMsg (r : Rec) : Bool := decide (r.mid = 0) && (decide (r.born = 0) && (decide (r.fr.size = 0) && (decide (r.R.length = 0) && decide (r.bo.size = 0))))
def rightR (r : Rec) : Bool :=
  if r.kind = 1 then decide (r.id = 0) && (decide (r.rc = 0) && (noV r && (noTry r && (idN r.mid && (decide (0 ≤ r.born) && (decide (r.born ≤ 20000000) && (whomN r.fr r.R && bodyOk r.bo)))))))
  else noMsg r && (
    if r.kind = 2 then idN r.id && (noTry r && (decide (0 ≤ r.rc) && (decide (r.rc < 20) && (decide (1 ≤ r.vk) && (decide (r.vk ≤ 4) && (codeOk r.vc && decide (r.vt.size ≤ 512)))))))
    else if r.kind = 3 then idN r.id && (noV r && (decide (r.rc = 0) && (decide (0 ≤ r.tr) && (decide (r.tr ≤ 999999) && (decide (0 ≤ r.due) && decide (r.due ≤ 20014400))))))
    else if r.kind = 4 ∨ r.kind = 5 then idN r.id && (noV r && (noTry r && decide (r.rc = 0)))
    else if r.kind = 6 then (decide (1 ≤ r.id) && decide (r.id ≤ 1000000)) && (noV r && (noTry r && decide (r.rc = 0)))
    else false)
end Go.Proofs.YtlolnfpfipnfeaaGreat
