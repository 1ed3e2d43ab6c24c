import Derived.Test.YtnbbhegcijogiaaDoorSts
import Derived.Laws.BytesString
import Derived.Lib.ConvBytes
namespace Go.Proofs.YtnbbhegcijogiaaDoor
open Go.ChangeShapes Go.WideShapes Go.ChangeAt Go.RowKit

/-- the text of byte numbers -/
def ofInts (ns : List Int) : ByteArray := ns.foldl (fun r n => r.push (UInt8.ofNat n.toNat)) ByteArray.empty
set_option maxRecDepth 100000 in
theorem ofInts_size (ns : List Int) : (ofInts ns).size = ns.length := by
  unfold ofInts
  suffices h : ∀ (ns : List Int) (s : ByteArray), (ns.foldl (fun r n => r.push (UInt8.ofNat n.toNat)) s).size = s.size + ns.length by
    have := h ns ByteArray.empty
    simpa using this
  intro ns
  induction ns with
  | nil => intro s; simp
  | cons n ns ih => intro s; rw [List.foldl_cons, ih]; simp [ByteArray.size_push]; omega
def bytesI (s : ByteArray) : List Int := s.data.toList.map fun b => (b.toNat : Int)
set_option maxRecDepth 100000 in
/-- byte cells as a text -/
theorem run_cells_str {w : World} {g cap : Nat} {ns : List Int} (h : ∀ j (hj : j < ns.length), w.cell? ⟨g, j, none⟩ = some (.int .u8 ns[j])) :
    (convert 22 9 (.slice (some ⟨g, 0, none⟩) ns.length cap)).run Tryd.prog w = .ok (.string (ofInts ns)) w := by
  rw [run_convert_bytes_string _ 22 9 5 _ _ _ Tryd.underlying22 Tryd.underlying5 Tryd.underlying9]
  refine run_bytesToString _ _ _ _ _ ?_
  have e := run_loadCells_list (P := Tryd.prog) w ⟨g, 0, none⟩ (ns.map (Value.int .u8)) ?_
  · rwa [List.length_map] at e
  · intro j u hj
    have ea : (⟨g, 0, none⟩ : Addr).add j = ⟨g, j, none⟩ := by simp [Addr.add]; omega
    have hjl : j < ns.length := by
      have := (List.getElem?_eq_some_iff.1 hj).1
      simpa using this
    rw [ea, h j hjl]
    rw [List.getElem?_map, List.getElem?_eq_getElem hjl] at hj
    exact hj
set_option maxRecDepth 100000 in
/-- a text as a new row of bytes -/
theorem run_str_cells (w : World) (s : ByteArray) : ∃ W1 cap, (convert 9 22 (.string s)).run Tryd.prog w = .ok (.slice (some ⟨w.heap.size, 0, none⟩) s.size cap) W1 ∧ Below w.heap.size w W1 ∧ W1.heap.size = w.heap.size + 1 ∧
    (∀ j (hj : j < (bytesI s).length), W1.cell? ⟨w.heap.size, j, none⟩ = some (.int .u8 (bytesI s)[j])) ∧ (∀ j, j < s.size → W1.frozen? ⟨w.heap.size, j, none⟩ = false) := by
  refine ⟨Lib.bytesWorld w 5 s, _, Lib.run_convert_string_bytes w 9 22 5 s Tryd.underlying9 Tryd.underlying22 Tryd.underlying5, ⟨rfl, rfl, rfl, ?_, fun k hk => Lib.bytesWorld_at_old w _ s k hk⟩, Lib.bytesWorld_size w _ s, fun j hj => ?_, fun j hj => ?_⟩
  · rw [Lib.bytesWorld_size]; omega
  · have hjs : j < s.size := by simpa [bytesI] using hj
    rw [Lib.bytesWorld_cell w _ s j hjs]
    have hl : j < s.data.toList.length := hjs
    simp only [bytesI, List.getElem_map]
    rw [List.getD_eq_getElem?_getD, List.getElem?_eq_getElem hl]
    rfl
  · have hsz : s.size ≤ (Lib.bytesCells w 5 s).size := by
      have : s.data.size = s.size := rfl
      simp [Lib.bytesCells]
    simp [World.frozen?, Lib.bytesWorld_at_new]
    omega
end Go.Proofs.YtnbbhegcijogiaaDoor
