import Derived.Test.YtfkngjdclggfbaaDoorOpenI
import Derived.Test.YtfkngjdclggfbaaDoorCloneS
import Derived.Test.YtfkngjdclggfbaaDoorSess
import Derived.Deep.RegionWith
import Derived.Deep.DrawnRows
import Derived.Test.YtfkngjdclggfbaaDoorVdZ
namespace Go.Proofs.YtfkngjdclggfbaaDoor
open Go.ChangeShapes Go.WideShapes Go.ChangeAt Go.RowKit
attribute [local go_sem ↓] Go.wp_at_zero Go.wp_at_succ

/-- what Open makes -/
def openOk (he fr bo : ByteArray) (L : List ByteArray) : Bool := domOk he && (whomN fr L && bodyOk bo)
theorem bls_made (w : World) (n : Nat) (hn : n ≤ maxLen) : Bls (w.alloc (.cells (madeCells (Value.bool false).cells n) 4)) w.heap.size (.slice (some ⟨w.heap.size, 0, none⟩) n n) (List.replicate n false) := by
  refine ⟨by simp, .inr ⟨w.heap.size, n, madeCells (Value.bool false).cells n, by simp, Nat.le_refl _, (MapKept.heap_alloc w _).1, by simp, hn, by simp [size_madeCells], ?_⟩⟩
  simp [madeCells, Value.cells, Nat.mod_one, List.take_of_length_le]
  exact List.ext_getElem (by simp) (fun i h1 h2 => by simp)
theorem sessAt {w wr : World} {Z : Array Value} {T : TypeId} (hb : Below (w.heap.size + 1) (w.alloc (.cells Z T)) wr) :
    (∀ i, wr.cell? ⟨w.heap.size, i, none⟩ = Z[i]?) ∧ (∀ o, wr.frozen? ⟨w.heap.size, o, none⟩ = false) := by
  refine ⟨fun i => ?_, fun o => ?_⟩
  · rw [hb.cell (p := ⟨w.heap.size, i, none⟩) (by show w.heap.size < _; omega), World.cell?_alloc_mark]
  · rw [hb.frozen (p := ⟨w.heap.size, o, none⟩) (by show w.heap.size < _; omega)]
    exact World.frozen?_alloc_at _ _ _ _ rfl

/-- a session of zeros in block b -/
def ResZ (b : Nat) (w : World) : Prop := w.cell? ⟨b, 0, none⟩ = some (.int .i64 0) ∧ w.cell? ⟨b, 1, none⟩ = some (.string ⟨#[]⟩) ∧ w.cell? ⟨b, 2, none⟩ = some (.string ⟨#[]⟩) ∧ w.cell? ⟨b, 3, none⟩ = some (.string ⟨#[]⟩) ∧ w.cell? ⟨b, 4, none⟩ = some (.string ⟨#[]⟩) ∧ w.cell? ⟨b, 5, none⟩ = some (.slice none 0 0) ∧ w.cell? ⟨b, 6, none⟩ = some (.int .i64 0) ∧ w.cell? ⟨b, 7, none⟩ = some (.slice none 0 0) ∧ w.cell? ⟨b, 8, none⟩ = some (.slice none 0 0) ∧ w.frozen? ⟨b, 0, none⟩ = false ∧ w.frozen? ⟨b, 1, none⟩ = false ∧ w.frozen? ⟨b, 2, none⟩ = false ∧ w.frozen? ⟨b, 3, none⟩ = false ∧ w.frozen? ⟨b, 4, none⟩ = false ∧ w.frozen? ⟨b, 5, none⟩ = false ∧ w.frozen? ⟨b, 6, none⟩ = false ∧ w.frozen? ⟨b, 7, none⟩ = false ∧ w.frozen? ⟨b, 8, none⟩ = false ∧ b < w.heap.size
theorem resZ_of {w wr : World} (hb : Below (w.heap.size + 1) (w.alloc (.cells #[.int .i64 0, .string ⟨#[]⟩, .string ⟨#[]⟩, .string ⟨#[]⟩, .string ⟨#[]⟩, .slice none 0 0, .int .i64 0, .slice none 0 0, .slice none 0 0] 27)) wr) : ResZ w.heap.size wr := by
  obtain ⟨g, gf⟩ := sessAt hb
  exact ⟨g 0, g 1, g 2, g 3, g 4, g 5, g 6, g 7, g 8, gf 0, gf 1, gf 2, gf 3, gf 4, gf 5, gf 6, gf 7, gf 8, by have := hb.size; simp at this; omega⟩

def oPh (b : Bool) : Int := if b then 1 else 9
def oS (b : Bool) (s : ByteArray) : ByteArray := if b then s else ⟨#[]⟩
def oL (b : Bool) (L : List ByteArray) : List ByteArray := if b then L else []
/-- what Open hands back -/
def OpenPost (he fr bo : ByteArray) (L : List ByteArray) (w : World) (e : Ending) (w' : World) : Prop :=
  (∃ v1 v2 v3, e = .returned (.agg #[.int .i64 (oPh (openOk he fr bo L)), .string ⟨#[]⟩, .string (oS (openOk he fr bo L) he), .string (oS (openOk he fr bo L) fr), .string (oS (openOk he fr bo L) bo), v1, .int .i64 0, v2, v3]) ∧
    (Strs w' w.heap.size v1 (oL (openOk he fr bo L) L) ∧ Bls w' w.heap.size v2 (List.replicate (oL (openOk he fr bo L) L).length false) ∧ Vds w' w.heap.size v3 (List.replicate (oL (openOk he fr bo L) L).length vd0)) ∧ Apart3 v1 v2 v3) ∧ Below w.heap.size w w'
theorem open_no {he fr bo : ByteArray} {L : List ByteArray} (h : openOk he fr bo L = false) {w w' : World} (hb : Below w.heap.size w w') :
    OpenPost he fr bo L w (.returned (.agg #[.int .i64 9, .string ⟨#[]⟩, .string ⟨#[]⟩, .string ⟨#[]⟩, .string ⟨#[]⟩, .slice none 0 0, .int .i64 0, .slice none 0 0, .slice none 0 0])) w' := by
  unfold OpenPost
  rw [h]
  exact ⟨⟨_, _, _, rfl, ⟨World.ownsRow_nil _ _ _ _, World.ownsRow_nil _ _ _ _, World.ownsRow_nil _ _ _ _⟩, by simp [Apart3, Value.ownBlock]⟩, hb⟩
theorem bls_at {W : World} {k n lo : Nat} (h : W.heap[k]? = some (.cells (madeCells (Value.bool false).cells n) 4 (0, 0))) (hlo : lo ≤ k) (hn : n ≤ maxLen) : Bls W lo (.slice (some ⟨k, 0, none⟩) n n) (List.replicate n false) := by
  refine ⟨by simp, .inr ⟨k, n, madeCells (Value.bool false).cells n, by simp, hlo, h, by simp, hn, by simp [size_madeCells], ?_⟩⟩
  simp [madeCells, Value.cells, Nat.mod_one, List.take_of_length_le]
  exact List.ext_getElem (by simp) (fun i h1 h2 => by simp)
theorem vds_at {W : World} {k n lo : Nat} (h : W.heap[k]? = some (.cells (madeCells zVd.cells (n * 3)) 44 (0, 0))) (hlo : lo ≤ k) (hn : n ≤ maxLen) : Vds W lo (.slice (some ⟨k, 0, none⟩) n n) (List.replicate n vd0) := by
  refine ⟨by rw [vrow_len]; omega, .inr ⟨k, n, madeCells zVd.cells (n * 3), by simp, hlo, h, by simp, hn, made_size n, ?_⟩⟩
  rw [vrow_made]
  refine List.take_of_length_le ?_
  rw [vrow_len]; simp; omega
theorem lk_new (W : World) (o : Obj) (k : Nat) (hk : k = W.heap.size) : (W.alloc o).heap[k]? = some o := by subst hk; exact (MapKept.heap_alloc W o).1
theorem lk_old (W : World) (o : Obj) (k : Nat) (hk : k < W.heap.size) : (W.alloc o).heap[k]? = W.heap[k]? := by
  show (W.heap.push o)[k]? = _
  rw [Array.getElem?_push_lt hk, Array.getElem?_eq_getElem hk]
theorem open_yes {CB CV : Array Value} {n : Nat} (hCB : madeCells (Value.bool false).cells n = CB) (hCV : madeCells zVd.cells (n * 3) = CV) {he fr bo : ByteArray} {L : List ByteArray} (h : openOk he fr bo L = true) (hn : L.length = n) (hn2 : n ≤ 20) {w F : World} {kB kV c3 : Nat} {a3 : Option Addr}
    (hS : Strs F (w.heap.size + 1) (.slice a3 n c3) L) (hkB : w.heap.size ≤ kB) (hkV : w.heap.size ≤ kV) (hne : kB ≠ kV) (hgB : (Value.slice a3 n c3).ownBlock ≠ some kB) (hgV : (Value.slice a3 n c3).ownBlock ≠ some kV)
    (hB : F.heap[kB]? = some (.cells CB 4 (0, 0))) (hV : F.heap[kV]? = some (.cells CV 44 (0, 0))) (hb : Below w.heap.size w F) :
    OpenPost he fr bo L w (.returned (.agg #[.int .i64 1, .string ⟨#[]⟩, .string he, .string fr, .string bo, .slice a3 n c3, .int .i64 0, .slice (some ⟨kB, 0, none⟩) n n, .slice (some ⟨kV, 0, none⟩) n n])) F := by
  subst hCB hCV
  unfold OpenPost
  rw [h]
  have hm : n ≤ maxLen := by unfold maxLen; omega
  refine ⟨⟨_, _, _, rfl, ⟨strs_le hS (Nat.le_succ _), ?_, ?_⟩, ?_⟩, hb⟩
  · show Bls _ _ _ (List.replicate L.length false)
    rw [hn]; exact bls_at hB hkB hm
  · show Vds _ _ _ (List.replicate L.length vd0)
    rw [hn]; exact vds_at hV hkV hm
  · refine ⟨fun a b ha hb => ?_, fun a b ha hb => ?_, fun a b ha hb => ?_⟩
    · intro e; subst e; simp only [Value.ownBlock, Option.some.injEq] at hb; subst hb; exact hgB ha
    · intro e; subst e; simp only [Value.ownBlock, Option.some.injEq] at hb; subst hb; exact hgV ha
    · simp only [Value.ownBlock, Option.some.injEq] at ha hb; omega
end Go.Proofs.YtfkngjdclggfbaaDoor
