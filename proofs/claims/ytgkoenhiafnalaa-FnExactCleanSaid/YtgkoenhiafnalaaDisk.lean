import Derived.Test.YtgkoenhiafnalaaOwn
import Derived.Test.YtgkoenhiafnalaaRows
import Derived.WalkKit
import Derived.ProofKit
import Derived.WalkLawsBesides
namespace Go.Proofs.Ytgkoenhiafnalaa
open Go.ChangeShapes Go.WideShapes Go.ChangeAt Go.RowKit

/-- a block's five cells hold a disk -/
def DiskAt (w : World) (b : Nat) (m l : ByteArray) (h : Bool) (t x : ByteArray) : Prop :=
  w.cell? ⟨b, 0, none⟩ = some (.string m) ∧ w.cell? ⟨b, 1, none⟩ = some (.string l) ∧ w.cell? ⟨b, 2, none⟩ = some (.bool h) ∧ w.cell? ⟨b, 3, none⟩ = some (.string t) ∧ w.cell? ⟨b, 4, none⟩ = some (.string x)
set_option maxRecDepth 100000 in
theorem diskAt_new (w : World) (m l : ByteArray) (h : Bool) (t x : ByteArray) (T : TypeId) : DiskAt (w.alloc (.cells #[.string m, .string l, .bool h, .string t, .string x] T)) w.heap.size m l h t x := by
  refine ⟨?_, ?_, ?_, ?_, ?_⟩ <;> rw [World.cell?_alloc_mark] <;> rfl
theorem DiskAt.below {w w1 : World} {b B : Nat} {m l : ByteArray} {h : Bool} {t x : ByteArray} (d : DiskAt w b m l h t x) (hb : Below B w w1) (hlt : b < B) : DiskAt w1 b m l h t x :=
  ⟨(hb.cell (p := ⟨b, 0, none⟩) hlt).trans d.1, (hb.cell (p := ⟨b, 1, none⟩) hlt).trans d.2.1, (hb.cell (p := ⟨b, 2, none⟩) hlt).trans d.2.2.1, (hb.cell (p := ⟨b, 3, none⟩) hlt).trans d.2.2.2.1, (hb.cell (p := ⟨b, 4, none⟩) hlt).trans d.2.2.2.2⟩
set_option maxRecDepth 100000 in
/-- two disks in new blocks, and whatever lies behind them: what the walk asks of both -/
theorem two_disks {w w1 : World} {m l : ByteArray} {h : Bool} {t x : ByteArray} {m' l' : ByteArray} {h' : Bool} {t' x' : ByteArray} {T T' : TypeId}
    (hb : Below (w.heap.size + 1 + 1) ((w.alloc (.cells #[.string m, .string l, .bool h, .string t, .string x] T)).alloc (.cells #[.string m', .string l', .bool h', .string t', .string x'] T')) w1) :
    DiskAt w1 w.heap.size m l h t x ∧ DiskAt w1 (w.heap.size + 1) m' l' h' t' x' ∧ (∀ o, w1.frozen? ⟨w.heap.size, o, none⟩ = false) ∧ (∀ o, w1.frozen? ⟨w.heap.size + 1, o, none⟩ = false) := by
  have e1 : Below (w.heap.size + 1) (w.alloc (.cells #[.string m, .string l, .bool h, .string t, .string x] T)) ((w.alloc (.cells #[.string m, .string l, .bool h, .string t, .string x] T)).alloc (.cells #[.string m', .string l', .bool h', .string t', .string x'] T')) := by
    have := below1 (w.alloc (.cells #[.string m, .string l, .bool h, .string t, .string x] T)) (.cells #[.string m', .string l', .bool h', .string t', .string x'] T')
    simpa using this
  have e2 : (w.alloc (.cells #[.string m, .string l, .bool h, .string t, .string x] T)).heap.size = w.heap.size + 1 := by simp
  refine ⟨((diskAt_new w m l h t x T).below e1 (by omega)).below hb (by omega), ?_, fun o => ?_, fun o => ?_⟩
  · have := diskAt_new (w.alloc (.cells #[.string m, .string l, .bool h, .string t, .string x] T)) m' l' h' t' x' T'
    rw [e2] at this
    exact this.below hb (by omega)
  · rw [hb.frozen (p := ⟨w.heap.size, o, none⟩) (by show w.heap.size < _; omega), e1.frozen (p := ⟨w.heap.size, o, none⟩) (by show w.heap.size < _; omega)]
    exact World.frozen?_alloc_at _ _ _ _ rfl
  · rw [hb.frozen (p := ⟨w.heap.size + 1, o, none⟩) (by show w.heap.size + 1 < _; omega)]
    exact World.frozen?_alloc_at _ _ _ _ e2.symm


set_option maxRecDepth 100000 in
/-- a disk that came in: its fields -/
theorem openDisk {H : Type} {enc : TypeId × Value → H} {W : World} {base b0 : Nat} {spare : Nat → Bool} {held : Bool} {v : Value} {d : DataW H} {p : List MemPlace} (hv : Value.okWide Try.prog W .any b0 27 v) (h : DataW.Trod enc Try.prog W base spare held 27 v d p) :
    ∃ (m l : ByteArray) (h : Bool) (t x : ByteArray), v = .agg #[.string m, .string l, .bool h, .string t, .string x] ∧ m.size ≤ maxLen ∧ l.size ≤ maxLen ∧ t.size ≤ maxLen ∧ x.size ≤ maxLen := by
  obtain ⟨v0, v1, v2, v3, v4, y0, y1, y2, y3, y4, n, rfl, _, h0, h1, h2, h3, h4⟩ := LawBase.open_agg5 Try.underlying27 (by kernel_rfl) (by kernel_rfl) hv h
  obtain ⟨m, e0, _, hm⟩ := DataW.trod_string Try.underlying9 h0
  obtain ⟨l, e1, _, hl⟩ := DataW.trod_string Try.underlying9 h1
  obtain ⟨b, e2, _⟩ := DataW.trod_bool Try.underlying4 h2
  obtain ⟨t, e3, _, ht⟩ := DataW.trod_string Try.underlying9 h3
  obtain ⟨x, e4, _, hx⟩ := DataW.trod_string Try.underlying9 h4
  simp only [List.cons.injEq, and_true] at e0 e1 e2 e3 e4
  subst e0 e1 e2 e3 e4
  exact ⟨m, l, b, t, x, rfl, hm, hl, ht, hx⟩

set_option maxHeartbeats 400000 in
set_option maxRecDepth 100000 in
theorem toDisk (m l t x : ByteArray) (h : Bool) (w : World) :
    Calls Try.prog 13 #[.agg #[.string m, .string l, .bool h, .string t, .string x]] w fun e w' => e = .returned (.agg #[.string m, .string l, .bool h, .string t, .string x]) ∧ Below w.heap.size w w' := by
  go_enter Try.func13, Try.ntmps13
  go_wp2
  exact bodyPost_ret (v := .agg #[.string m, .string l, .bool h, .string t, .string x]) (by simp [results, Try.results13, go_sem]) rfl ⟨rfl, below3 _ _ _ _⟩

set_option maxHeartbeats 400000 in
set_option maxRecDepth 100000 in
theorem eqDisk (m l t x : ByteArray) (h : Bool) (w : World) :
    Calls Try.prog 15 #[.agg #[.string m, .string l, .bool h, .string t, .string x], .agg #[.string m, .string l, .bool h, .string t, .string x]] w fun e w' => e = .returned (.bool true) ∧ Below w.heap.size w w' := by
  go_enter Try.func15, Try.ntmps15
  go_wp2
  go_ret
  exact ⟨rfl, below2 _ _ _⟩

set_option maxHeartbeats 400000 in
set_option maxRecDepth 100000 in
theorem szDisk (m l t x : ByteArray) (h : Bool) (n : Int) (w : World) (hn : 0 ≤ n) (hn2 : n ≤ 1048576) (hm : m.size ≤ maxLen) (hl : l.size ≤ maxLen) (ht : t.size ≤ maxLen) (hx : x.size ≤ maxLen) :
    Calls Try.prog 11 #[.agg #[.string m, .string l, .bool h, .string t, .string x], .int .i64 n] w fun e w' => ∃ r : Int, e = .returned (.int .i64 r) ∧ (r < 0 ∨ r = n - m.size - l.size - t.size - x.size) ∧ -1 ≤ r ∧ r ≤ 1048576 ∧ Below w.heap.size w w' := by
  unfold maxLen at hm hl ht hx
  by_cases c1 : n - (m.size : Int) < 0
  · go_enter Try.func11, Try.ntmps11
    go_wp2
    go_ret
    exact ⟨_, rfl, Or.inl (by decide), by decide, by decide, below1 _ _⟩
  · by_cases c2 : n - (m.size : Int) - (l.size : Int) < 0
    · go_enter Try.func11, Try.ntmps11
      go_wp2
      go_ret
      exact ⟨_, rfl, Or.inl (by decide), by decide, by decide, below1 _ _⟩
    · by_cases c3 : n - (m.size : Int) - (l.size : Int) - (t.size : Int) < 0
      · go_enter Try.func11, Try.ntmps11
        go_wp2
        go_ret
        exact ⟨_, rfl, Or.inl (by decide), by decide, by decide, below1 _ _⟩
      · by_cases c4 : n - (m.size : Int) - (l.size : Int) - (t.size : Int) - (x.size : Int) < 0
        · go_enter Try.func11, Try.ntmps11
          go_wp2
          go_ret
          exact ⟨_, rfl, Or.inl (by decide), by decide, by decide, below1 _ _⟩
        · go_enter Try.func11, Try.ntmps11
          go_wp2
          go_ret
          exact ⟨_, rfl, Or.inr rfl, by omega, by omega, below1 _ _⟩
end Go.Proofs.Ytgkoenhiafnalaa
