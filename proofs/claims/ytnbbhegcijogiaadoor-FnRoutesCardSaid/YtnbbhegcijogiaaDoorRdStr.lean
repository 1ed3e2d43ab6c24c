import Derived.Test.YtnbbhegcijogiaaDoorRd
import Derived.Test.YtnbbhegcijogiaaDoorStrC
import Derived.Deep.AppendLies
import Derived.Laws.MakeOwn
namespace Go.Proofs.YtnbbhegcijogiaaDoor
open Go.ChangeShapes Go.WideShapes Go.ChangeAt Go.RowKit

set_option maxRecDepth 100000 in
/-- a row of bytes of our own as a text -/
theorem run_row_str {w : World} {lo : Nat} {v : Value} {ns : List Int} (h : w.ownsRow lo 5 1 v ns.length (ns.map (Value.int .u8))) :
    (convert 22 9 v).run Tryd.prog w = .ok (.string (ofInts ns)) w := by
  rcases h.2 with ⟨rfl, h0⟩ | ⟨g, cap, cur, rfl, _, hg, hn, _, hs, ht⟩
  · have : ns = [] := List.eq_nil_of_length_eq_zero h0
    subst this
    rw [run_convert_bytes_string _ 22 9 5 _ _ _ Tryd.underlying22 Tryd.underlying5 Tryd.underlying9]
    rfl
  · rw [run_convert_bytes_string _ 22 9 5 _ _ _ Tryd.underlying22 Tryd.underlying5 Tryd.underlying9]
    refine run_bytesToString _ _ _ _ _ ?_
    have e := run_loadCells_list (P := Tryd.prog) w ⟨g, 0, none⟩ (ns.map (Value.int .u8)) ?_
    · rwa [List.length_map] at e
    · intro j u hj
      have ea : (⟨g, 0, none⟩ : Addr).add j = ⟨g, j, none⟩ := by simp [Addr.add]; omega
      rw [ea]
      have hjl : j < ns.length := by
        have := (List.getElem?_eq_some_iff.1 hj).1
        simpa using this
      have h1 : (cur.toList.take (ns.length * 1))[j]? = some u := by rw [ht]; exact hj
      rw [List.getElem?_take_of_lt (by omega)] at h1
      have h2 : cur[j]? = some u := by simpa using h1
      simp [World.cell?, hg, h2]

set_option maxRecDepth 100000 in
theorem infoU8 : (Tryd.prog.info? 5).map (fun i => (i.zero, i.size, i.bytes)) = some (some (.int .u8 0), 1, 1) := by kernel_rfl

theorem RdAt.carry {w w2 w3 : World} {b p q : Nat} {cv : Value} {B : List UInt8} (h : RdAt w b cv B p) (h2 : RdAt w2 b cv B q) (hb : Below w.heap.size w2 w3) : RdAt w3 b cv B q := by
  obtain ⟨_, _, _, hlt, _, ⟨hB, hf⟩, _⟩ := h
  obtain ⟨c0, c1, f1, _, hq, ⟨_, hf2⟩, hne⟩ := h2
  refine ⟨(hb.cell (p := ⟨b, 0, none⟩) hlt).trans c0, (hb.cell (p := ⟨b, 1, none⟩) hlt).trans c1, (hb.frozen (p := ⟨b, 1, none⟩) hlt).trans f1, ?_, hq, ⟨hB, ?_⟩, hne⟩
  · have := hb.size; omega
  · rcases hf2 with h0 | ⟨g, off, cap, hv, hg, hc⟩
    · exact .inl h0
    · rcases hf with ⟨h1, _⟩ | ⟨g', off', cap', hv', hg', _⟩
      · subst h1; exact .inl ⟨rfl, _, _, hv⟩
      · have e : g = g' := by
          rw [hv] at hv'
          injection hv' with h1
          injection h1 with h1
          injection h1 with h1
        subst e
        exact .inr ⟨g, off, cap, hv, by have := hb.size; omega, fun i hi => (hb.cell (p := ⟨g, off + i, none⟩) hg').trans (hc i hi)⟩
set_option maxRecDepth 100000 in
theorem Off.carry {b N : Nat} {w w2 w3 : World} (h : Off b w w2) (hb : Below N w2 w3) (hN : w.heap.size ≤ N) : Off b w w3 :=
  ⟨hb.os.trans h.os, hb.tape.trans h.tape, hb.output.trans h.output, Nat.le_trans h.size hb.size, fun k hk hne => (hb.block k (by omega)).trans (h.block k hk hne)⟩

set_option maxRecDepth 100000 in
theorem rd_new (w : World) (cv : Value) (B : List UInt8) (h : CodeAt w cv B) : RdAt (w.alloc (.cells #[cv, .int .i64 0] 47)) w.heap.size cv B 0 := by
  refine ⟨by rw [World.cell?_alloc_mark]; rfl, by rw [World.cell?_alloc_mark]; rfl, World.frozen?_alloc_at _ _ _ _ rfl, by simp, Nat.zero_le _, h.off (b := w.heap.size) (Off.of_below (below1 w _)) ?_, ?_⟩
  all_goals
    intro a n c hv hB
    rcases h.2 with ⟨h0, _⟩ | ⟨g, off, cap, hv2, hg, _⟩
    · exact absurd h0 hB
    · rw [hv] at hv2
      injection hv2 with h1
      injection h1 with h1
      subst h1
      exact Nat.ne_of_lt hg
set_option maxRecDepth 100000 in
theorem CodeAt.below {w w1 : World} {cv : Value} {B : List UInt8} (h : CodeAt w cv B) (hb : Below w.heap.size w w1) : CodeAt w1 cv B := by
  refine ⟨h.1, ?_⟩
  rcases h.2 with h0 | ⟨g, off, cap, hv, hg, hc⟩
  · exact .inl h0
  · exact .inr ⟨g, off, cap, hv, Nat.lt_of_lt_of_le hg hb.size, fun i hi => (hb.cell (p := ⟨g, off + i, none⟩) hg).trans (hc i hi)⟩
set_option maxRecDepth 100000 in
theorem CodeAt.form {w : World} {cv : Value} {B : List UInt8} (h : CodeAt w cv B) : ∃ a c, cv = .slice a B.length c := by
  rcases h.2 with ⟨rfl, a, c, rfl⟩ | ⟨g, off, cap, rfl, _⟩
  · exact ⟨_, _, rfl⟩
  · exact ⟨_, _, rfl⟩
end Go.Proofs.YtnbbhegcijogiaaDoor
