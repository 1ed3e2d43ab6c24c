import Derived.Test.YtnbbhegcijogiaaDoorRdStr
namespace Go.Proofs.YtnbbhegcijogiaaDoor
open Go.ChangeShapes Go.WideShapes Go.ChangeAt Go.RowKit

/-- a row of bytes of our own -/
def Byts (w : World) (lo : Nat) (v : Value) (ns : List Int) : Prop := w.ownsRow lo 5 1 v ns.length (ns.map (Value.int .u8))
set_option maxRecDepth 100000 in
theorem Byts.cell {w : World} {lo g n cap : Nat} {ns : List Int} (h : Byts w lo (.slice (some ⟨g, 0, none⟩) n cap) ns) : (∀ i (hi : i < ns.length), w.cell? ⟨g, i, none⟩ = some (.int .u8 ns[i])) ∧ (∀ o, w.frozen? ⟨g, o, none⟩ = false) ∧ lo ≤ g ∧ g < w.heap.size := by
  rcases h.2 with ⟨hv, _⟩ | ⟨g', cap', cur, hv, hl, hg, hn, hc, hs, ht⟩
  · cases hv
  · injection hv with h1 h2 h3
    injection h1 with h1
    injection h1 with h1
    subst h1 h2 h3
    refine ⟨fun i hi => ?_, fun o => by simp [World.frozen?, hg], hl, (Array.getElem?_eq_some_iff.1 hg).1⟩
    have h1 : (cur.toList.take (ns.length * 1))[i]? = (ns.map (Value.int .u8))[i]? := by rw [ht]
    rw [List.getElem?_take_of_lt (by omega), List.getElem?_map, List.getElem?_eq_getElem hi] at h1
    have e : cur[i]? = some (Value.int .u8 ns[i]) := by simpa using h1
    simp [World.cell?, hg, e]
set_option maxRecDepth 100000 in
theorem byts_set {w : World} {lo g n cap i : Nat} {ns : List Int} (h : Byts w lo (.slice (some ⟨g, 0, none⟩) n cap) ns) (x : Int) : Byts (w.setCell ⟨g, i, none⟩ (.int .u8 x)) lo (.slice (some ⟨g, 0, none⟩) n cap) (ns.set i x) := by
  refine ⟨by simp, ?_⟩
  rcases h.2 with ⟨hv, _⟩ | ⟨g', cap', cur, hv, hl, hg, hn, hc, hs, ht⟩
  · cases hv
  · injection hv with h1 h2 h3
    injection h1 with h1
    injection h1 with h1
    subst h1 h2 h3
    refine .inr ⟨g, cap, cur.setIfInBounds i (.int .u8 x), by simp, hl, Go.Joins.block_setCell hg _, by simpa using hn, hc, by simpa using hs, ?_⟩
    rw [List.map_set, ← ht]
    simp [List.take_set]
set_option maxRecDepth 100000 in
theorem byts_made (w : World) (n : Nat) (hn : n ≤ maxLen) : Byts (w.alloc (.cells (madeCells (Value.int .u8 0).cells n) 5)) w.heap.size (.slice (some ⟨w.heap.size, 0, none⟩) n n) (List.replicate n 0) := by
  refine ⟨by simp, .inr ⟨w.heap.size, n, madeCells (Value.int .u8 0).cells n, by simp, Nat.le_refl _, (MapKept.heap_alloc w _).1, by simp, hn, by simp [size_madeCells], ?_⟩⟩
  simp [madeCells, Value.cells, Nat.mod_one, List.take_of_length_le]
  exact List.ext_getElem (by simp) (fun i h1 h2 => by simp)

/-- the letters in turn -/
def fillL (n : Nat) : List Int := (List.range n).map fun i => 97 + ((i % 26 : Nat) : Int)
set_option maxRecDepth 100000 in
theorem fillL_step (n k : Nat) (h : k < n) : (fillL k ++ List.replicate (n - k) (0 : Int)).set k (97 + ((k % 26 : Nat) : Int)) = fillL (k + 1) ++ List.replicate (n - (k + 1)) 0 := by
  have hl : (fillL k).length = k := by simp [fillL]
  obtain ⟨d, hd⟩ : ∃ d, n - k = d + 1 := ⟨n - k - 1, by omega⟩
  rw [List.set_append_right _ _ (by omega), hl, Nat.sub_self, hd, List.replicate_succ, List.set_cons_zero, show n - (k + 1) = d by omega]
  simp [fillL, List.range_succ]

set_option maxHeartbeats 2000000 in
set_option maxRecDepth 100000 in
theorem fill (n : Nat) (w : World) (hn : n ≤ 10000) :
    Calls Tryd.prog 34 #[.int .i64 n] w fun e w' => e = .returned (.string (ofInts (fillL n))) ∧ Below w.heap.size w w' := by
  obtain ⟨i0, hi, hz0, hz1, hz2⟩ := info_parts infoU8
  have hmk : (Instr.makeSlice 22 (.int .i64 (n : Int)) (.int .i64 (n : Int))).run Tryd.prog w = .ok (.slice (some ⟨w.heap.size, 0, none⟩) n n) (w.alloc (.cells (madeCells (Value.int .u8 0).cells n) 5)) := by
    have e := run_make (P := Tryd.prog) w 22 5 i0 (.int .u8 0) Tryd.underlying22 hi hz0 .i64 .i64 (n : Int) (n : Int) (by omega) (by omega) (by rw [hz2]; omega) (by omega)
    simpa [hz1] using e
  have HM : Hid (Byts (w.alloc (.cells (madeCells (Value.int .u8 0).cells n) 5)) w.heap.size (.slice (some ⟨w.heap.size, 0, none⟩) n n) (fillL 0 ++ List.replicate (n - 0) 0)) := byts_made w n (by unfold maxLen; omega)
  clear hi hz0 hz1 hz2
  obtain ⟨Z, HZ⟩ : ∃ Z, Hid (Obj.cells (madeCells (Value.int .u8 0).cells n) 5 = Z) := ⟨_, rfl⟩
  rw [HZ.out] at hmk HM
  go_enter Tryd.func34, Tryd.ntmps34
  go_wp2
  go_loopw [4, 11] (fun _ i wr => ∃ k : Nat, k ≤ n ∧ i = .int .i64 k ∧ Hid (Byts wr w.heap.size (.slice (some ⟨w.heap.size, 0, none⟩) n n) (fillL k ++ List.replicate (n - k) 0)) ∧ Below w.heap.size w wr) (fun _ i _ => n - (intOf i).toNat)
  case atStart => exact ⟨0, Nat.zero_le _, rfl, HM, below1 _ _⟩
  case round =>
    obtain ⟨k, hk, rfl, HS, hb⟩ := hrel
    by_cases hlt : k < n
    · have hlen : (fillL k ++ List.replicate (n - k) (0 : Int)).length = n := by simp [fillL]; omega
      obtain ⟨y, ec⟩ : ∃ y, wr.cell? ⟨w.heap.size, k, none⟩ = some (.int .u8 y) := ⟨_, HS.out.cell.1 k (by omega)⟩
      have ef := HS.out.cell.2.1 k
      clear hlen
      go_wp2
      go_roundw
      case rel =>
        refine ⟨k + 1, by omega, by go_num, ?_, hb.setCell (Nat.le_refl _) _⟩
        show Byts _ _ _ _
        rw [← fillL_step n k hlt]
        exact byts_set HS.out _
      case measure => simp [intOf]; omega
    · obtain rfl : k = n := by omega
      have hcv : (convert 22 9 (.slice (some ⟨w.heap.size, 0, none⟩) k k)).run Tryd.prog wr = .ok (.string (ofInts (fillL k))) wr := by
        have e := run_row_str HS.out
        rw [Nat.sub_self, List.replicate_zero, List.append_nil] at e
        exact e
      go_wp2
      go_ret
      exact ⟨rfl, hb⟩
set_option maxRecDepth 100000 in
theorem fill_size (n : Nat) : (ofInts (fillL n)).size = n := by rw [ofInts_size]; simp [fillL]
end Go.Proofs.YtnbbhegcijogiaaDoor
