import Derived.Test.YtngcjlghjidnjaaGreatDoorMg4
import Derived.Laws.BytesString
import Derived.Deep.RegionWith
import Derived.Deep.DrawnRows
namespace Go.Proofs.YtngcjlghjidnjaaGreatDoor
open Go.ChangeShapes Go.WideShapes Go.ChangeAt Go.RowKit

set_option maxHeartbeats 1000000 in
set_option maxRecDepth 100000 in
theorem eqStrs (v1 v2 : Value) (L : List ByteArray) (lo1 lo2 : Nat) (w : World) (h1 : Strs w lo1 v1 L) (h2 : Strs w lo2 v2 L) :
    Calls Tryz.prog 64 #[v1, v2] w fun e w' => e = .returned (.bool true) ∧ Below w.heap.size w w' := by
  by_cases h0 : L.length = 0
  · obtain ⟨a1, c1, rfl⟩ : ∃ a c, v1 = .slice a 0 c := by
      rcases h1.cases with ⟨rfl, _⟩ | ⟨g, cap, rfl, _⟩
      · exact ⟨_, _, rfl⟩
      · rw [h0]; exact ⟨_, _, rfl⟩
    obtain ⟨a2, c2, rfl⟩ : ∃ a c, v2 = .slice a 0 c := by
      rcases h2.cases with ⟨rfl, _⟩ | ⟨g, cap, rfl, _⟩
      · exact ⟨_, _, rfl⟩
      · rw [h0]; exact ⟨_, _, rfl⟩
    clear h1 h2 h0
    go_enter Tryz.func64, Tryz.ntmps64
    go_wp2
    refine wp_loop_rounds 1 ?_; rw [rounds_succ]
    go_wp2
    go_ret
    exact ⟨rfl, Below.refl _ _⟩
  · obtain ⟨g1, c1, rfl, s1⟩ : ∃ g cap, v1 = .slice (some ⟨g, 0, none⟩) L.length cap ∧ StrsAt w lo1 g cap L := by
      rcases h1.cases with ⟨_, hL⟩ | h
      · rw [hL] at h0; exact absurd rfl h0
      · exact h
    obtain ⟨g2, c2, rfl, s2⟩ : ∃ g cap, v2 = .slice (some ⟨g, 0, none⟩) L.length cap ∧ StrsAt w lo2 g cap L := by
      rcases h2.cases with ⟨_, hL⟩ | h
      · rw [hL] at h0; exact absurd rfl h0
      · exact h
    clear h1 h2
    have hl1 := s1.len
    have hm1 := s1.cap
    have hl2 := s2.len
    have hm2 := s2.cap
    unfold maxLen at hm1 hm2
    go_enter Tryz.func64, Tryz.ntmps64
    go_wp2
    go_loopw [5] (fun i wr => ∃ k j : Nat, k ≤ L.length ∧ i = .int .i64 k ∧ wr = w.drewN j) (fun i _ => L.length - (intOf i).toNat)
    case atStart => exact ⟨0, 0, Nat.zero_le _, rfl, rfl⟩
    case round =>
      obtain ⟨k, j, hk, rfl, rfl⟩ := hrel
      by_cases hlt : k < L.length
      · have e1 := s1.cell k hlt
        have e2 := s2.cell k hlt
        generalize L[k] = X at e1 e2
        go_wp2
        go_quiet (fail)
        go_wp2
        go_roundw
        case rel => exact ⟨k + 1, j + nq, by omega, by go_num, rfl⟩
        case measure => simp [intOf]; omega
      · go_wp2
        go_ret
        exact ⟨rfl, Go.Joins.below_draws _ _ _⟩
end Go.Proofs.YtngcjlghjidnjaaGreatDoor
namespace Go.Proofs.YtngcjlghjidnjaaGreatDoor
open Go.ChangeShapes Go.WideShapes Go.ChangeAt Go.RowKit
attribute [local go_sem ↓] Go.wp_at_zero Go.wp_at_succ

/-- the decimal digits of k ahead of o -/
def markGo : Nat → Nat → List UInt8 → List UInt8
  | 0, _, o => o
  | f + 1, k, o => if k = 0 then o else markGo f (k / 10) ((48 + UInt8.ofNat (k % 10)) :: o)
def markT (k : Nat) : ByteArray := ⟨(109 :: markGo k k []).toArray⟩
set_option maxRecDepth 100000 in
theorem markGo_zero (f : Nat) (o : List UInt8) : markGo f 0 o = o := by cases f <;> simp [markGo]
theorem markGo_step (f k : Nat) (o : List UInt8) (hk : 0 < k) (hf : k ≤ f) : markGo f k o = markGo (f - 1) (k / 10) ((48 + UInt8.ofNat (k % 10)) :: o) := by
  obtain ⟨g, rfl⟩ : ∃ g, f = g + 1 := ⟨f - 1, by omega⟩
  rw [markGo, if_neg (by omega)]; rfl

set_option maxRecDepth 100000 in
theorem str_cons (a : UInt8) (o : List UInt8) : Value.string ({ data := #[a] } ++ { data := o.toArray }) = Value.string ⟨(a :: o).toArray⟩ := by
  have := ByteArray.mk_append_mk [a] o
  exact congrArg Value.string this
set_option maxRecDepth 100000 in
/-- one byte cell of a new block as a string -/
theorem run_one (w : World) (n : Int) :
    (convert 22 9 (.slice (some ⟨w.heap.size, 0, none⟩) 1 1)).run Tryz.prog (w.alloc (.cells #[.int .u8 n] 5)) =
      .ok (.string ⟨#[UInt8.ofNat n.toNat]⟩) (w.alloc (.cells #[.int .u8 n] 5)) := by
  have hl : (loadCells ⟨w.heap.size, 0, none⟩ 1).run Tryz.prog (w.alloc (.cells #[.int .u8 n] 5)) = .ok (([n] : List Int).map (Value.int .u8)).toArray (w.alloc (.cells #[.int .u8 n] 5)) := by
    refine run_loadCells_list (P := Tryz.prog) _ ⟨w.heap.size, 0, none⟩ [.int .u8 n] ?_
    intro j v hj
    rw [← hj]
    have ea : (⟨w.heap.size, 0, none⟩ : Addr).add j = ⟨w.heap.size, j, none⟩ := by simp [Addr.add]; omega
    rw [ea, World.cell?_alloc_mark]
    simp
  rw [run_convert_bytes_string _ 22 9 5 _ _ _ Tryz.underlying22 Tryz.underlying5 Tryz.underlying9, run_bytesToString _ _ _ _ _ hl]
  rfl

set_option maxHeartbeats 1000000 in
set_option maxRecDepth 100000 in
theorem markText (k : Nat) (w : World) (h1 : 1 ≤ k) (h2 : k ≤ 16777216) :
    Calls Tryz.prog 104 #[.int .i64 k] w fun e w' => e = .returned (.string (markT k)) ∧ Below w.heap.size w w' := by
  go_enter Tryz.func104, Tryz.ntmps104
  go_wp2
  go_loopw [0, 3] (fun kv ov wr => ∃ (j f : Nat) (o : List UInt8), kv = .int .i64 j ∧ ov = .string ⟨o.toArray⟩ ∧ j ≤ f ∧ o.length + j ≤ k ∧ Hid (markGo f j o = markGo k k []) ∧ Below w.heap.size w wr) (fun kv _ _ => (intOf kv).toNat)
  case atStart => exact ⟨k, k, [], rfl, rfl, Nat.le_refl _, by simp, rfl, Below.refl _ _⟩
  case round =>
    obtain ⟨j, f, o, rfl, rfl, hf, hl, HG, hb⟩ := hrel
    by_cases hj : 0 < j
    · have hc := run_one wr (48 + (j : Int) % 10)
      go_wp2
      go_roundw
      case rel => exact ⟨j / 10, f - 1, _, by go_num, str_cons _ o, by omega, by simp; omega, by rw [Hid, ← markGo_step f j o hj hf]; exact HG.out, hb.alloc hb.size _⟩
      case measure => simp [intOf]; omega
    · obtain rfl : j = 0 := by omega
      go_wp2
      go_ret
      refine ⟨?_, hb⟩
      have e := HG.out
      rw [markGo_zero] at e
      rw [markT, ← e]
      exact congrArg Ending.returned (str_cons 109 o)

set_option maxRecDepth 100000 in
/-- the same at whatever int -/
theorem markTextI (n : Int) (w : World) (h1 : 1 ≤ n) (h2 : n ≤ 16777216) :
    Calls Tryz.prog 104 #[.int .i64 n] w fun e w' => e = .returned (.string (markT n.toNat)) ∧ Below w.heap.size w w' := by
  obtain ⟨k, rfl⟩ := Int.eq_ofNat_of_zero_le (show 0 ≤ n by omega)
  exact markText k w (by omega) (by omega)

/-- the marks from k on -/
def marks (k n : Nat) : List ByteArray := (List.range n).map fun i => markT (k + i)
set_option maxRecDepth 100000 in
theorem marks_length (k n : Nat) : (marks k n).length = n := by simp [marks]
theorem marks_step (k j : Nat) (L : List ByteArray) (hj : j < L.length) : (marks k j ++ L.drop j).set j (markT (k + j)) = marks k (j + 1) ++ L.drop (j + 1) := by
  rw [List.set_append_right _ _ (by rw [marks_length]; exact Nat.le_refl _), marks_length, Nat.sub_self, List.drop_eq_getElem_cons hj, List.set_cons_zero]
  simp [marks, List.range_succ]

set_option maxHeartbeats 1000000 in
set_option maxRecDepth 100000 in
theorem markStrs (v : Value) (L : List ByteArray) (lo k : Nat) (w : World) (h : Strs w lo v L) (hlo : lo ≤ w.heap.size) (hk : 1 ≤ k) (hm : k + L.length ≤ 16777216) :
    Calls Tryz.prog 67 #[v, .int .i64 k] w fun e w' => e = .returned (.int .i64 ((k + L.length : Nat) : Int)) ∧ Strs w' lo v (marks k L.length) ∧ Below lo w w' := by
  by_cases h0 : L.length = 0
  · have HS : Hid (Strs w lo v (marks k L.length)) := by
      rw [h0]
      have hL := List.eq_nil_of_length_eq_zero h0
      rw [hL] at h
      exact h
    have hk0 : k + L.length = k := by omega
    rw [hk0]
    obtain ⟨a1, c1, hv⟩ : ∃ a c, v = .slice a 0 c := by
      rcases h.cases with ⟨rfl, _⟩ | ⟨g, cap, rfl, _⟩
      · exact ⟨_, _, rfl⟩
      · rw [h0]; exact ⟨_, _, rfl⟩
    subst hv
    clear h h0 hk0
    go_enter Tryz.func67, Tryz.ntmps67
    go_wp2
    refine wp_loop_rounds 1 ?_; rw [rounds_succ]
    go_wp2
    go_ret
    exact ⟨rfl, HS.out, Below.refl _ _⟩
  · obtain ⟨g, cap, hv, _⟩ : ∃ g cap, v = .slice (some ⟨g, 0, none⟩) L.length cap ∧ StrsAt w lo g cap L := by
      rcases h.cases with ⟨_, hL⟩ | h
      · rw [hL] at h0; exact absurd rfl h0
      · exact h
    subst hv
    have HI : Hid (Strs w lo (.slice (some ⟨g, 0, none⟩) L.length cap) (marks k 0 ++ L.drop 0)) := h
    clear h
    have hl1 : L.length ≤ 16777216 := by omega
    go_enter Tryz.func67, Tryz.ntmps67
    go_wp2
    go_loopw [1, 5] (fun kv i wr => ∃ j : Nat, j ≤ L.length ∧ i = .int .i64 j ∧ kv = .int .i64 ((k + j : Nat) : Int) ∧ Hid (Strs wr lo (.slice (some ⟨g, 0, none⟩) L.length cap) (marks k j ++ L.drop j)) ∧ Below lo w wr) (fun _ i _ => L.length - (intOf i).toNat)
    case atStart => exact ⟨0, Nat.zero_le _, rfl, rfl, HI, Below.refl _ _⟩
    case round =>
      obtain ⟨j, hj, rfl, rfl, HS, hb⟩ := hrel
      by_cases hlt : j < L.length
      · go_wp2_with fail
        refine (markTextI _ _ (by omega) (by omega)).mono ?_
        rintro e w1 ⟨rfl, hb1⟩
        have hkj : ((k : Int) + (j : Int)).toNat = k + j := by omega
        rw [hkj]
        have HS1 : Hid (Strs w1 lo (.slice (some ⟨g, 0, none⟩) L.length cap) (marks k j ++ L.drop j)) := strs_below HS.out hb1 (Nat.le_refl _)
        have hlw : lo ≤ wr.heap.size := by have := hb.size; omega
        have hlen : (marks k j ++ L.drop j).length = L.length := by simp [marks_length]; omega
        obtain ⟨x, ec⟩ : ∃ x, w1.cell? ⟨g, j, none⟩ = some (.string x) := ⟨_, HS1.out.at.1.cell j (by omega)⟩
        have ef := HS1.out.at.1.free j
        have hg : lo ≤ g := HS1.out.at.1.lo
        clear hkj hlen
        go_wp2
        go_roundw
        case rel =>
          refine ⟨j + 1, by omega, by go_num, by go_num, ?_, (hb.trans (hb1.mono hlw)).setCell hg _⟩
          show Strs _ _ _ _
          rw [← marks_step k j L hlt]
          exact strs_set HS1.out _
        case measure => simp [intOf]; omega
      · obtain rfl : j = L.length := by omega
        go_wp2
        go_ret
        refine ⟨rfl, ?_, hb⟩
        have e := HS.out
        rw [List.drop_length, List.append_nil] at e
        exact e

set_option maxRecDepth 100000 in
theorem marks_get (k n j : Nat) (h : j < (marks k n).length) : (marks k n)[j] = markT (k + j) := by simp [marks]

end Go.Proofs.YtngcjlghjidnjaaGreatDoor
namespace Go.Proofs.YtngcjlghjidnjaaGreatDoor
open Go.ChangeShapes Go.WideShapes Go.ChangeAt Go.RowKit

/-- all that was there but block b is as it was -/
structure Off (b : Nat) (w w' : World) : Prop where
  os : w'.os = w.os
  tape : w'.tape = w.tape
  output : w'.output = w.output
  size : w.heap.size ≤ w'.heap.size
  block : ∀ k, k < w.heap.size → k ≠ b → w'.heap[k]? = w.heap[k]?
set_option maxRecDepth 100000 in
theorem Off.refl (b : Nat) (w : World) : Off b w w := ⟨rfl, rfl, rfl, Nat.le_refl _, fun _ _ _ => rfl⟩
theorem Off.trans {b : Nat} {w w1 w2 : World} (h : Off b w w1) (k : Off b w1 w2) : Off b w w2 :=
  ⟨k.os.trans h.os, k.tape.trans h.tape, k.output.trans h.output, Nat.le_trans h.size k.size, fun i hi hb => (k.block i (Nat.lt_of_lt_of_le hi h.size) hb).trans (h.block i hi hb)⟩
set_option maxRecDepth 100000 in
theorem Off.of_below {b : Nat} {w w1 : World} (h : Below w.heap.size w w1) : Off b w w1 := ⟨h.os, h.tape, h.output, h.size, fun k hk _ => h.block k hk⟩
theorem Off.below {b : Nat} {w w1 : World} (h : Off b w w1) (hb : b ≤ w.heap.size) : Below b w w1 := ⟨h.os, h.tape, h.output, h.size, fun k hk => h.block k (by omega) (by omega)⟩
theorem Off.setCell {b i : Nat} {w w1 : World} (h : Off b w w1) (v : Value) : Off b w (w1.setCell ⟨b, i, none⟩ v) :=
  ⟨h.os, h.tape, h.output, by simpa using h.size, fun k hk hb => (Below.heap_setCell w1 ⟨b, i, none⟩ v k hb).trans (h.block k hk hb)⟩
set_option maxRecDepth 100000 in
theorem Off.drewN {b : Nat} {w w1 : World} (h : Off b w w1) (n : Nat) : Off b w (w1.drewN n) := ⟨h.os, h.tape, h.output, h.size, h.block⟩
theorem Off.cell {b k i : Nat} {w w1 : World} (h : Off b w w1) (hk : k < w.heap.size) (hb : k ≠ b) : w1.cell? ⟨k, i, none⟩ = w.cell? ⟨k, i, none⟩ := World.cell?_of_block (w := w) (h.block k hk hb)
theorem Off.frozen {b k i : Nat} {w w1 : World} (h : Off b w w1) (hk : k < w.heap.size) (hb : k ≠ b) : w1.frozen? ⟨k, i, none⟩ = w.frozen? ⟨k, i, none⟩ := World.frozen?_of_block (w := w) (h.block k hk hb)
theorem Off.belowAt {b N : Nat} {w w1 : World} (h : Off b w w1) (hN : N ≤ b) (hs : N ≤ w.heap.size) : Below N w w1 := ⟨h.os, h.tape, h.output, h.size, fun k hk => h.block k (by omega) (by omega)⟩
theorem strs_off_ne {w w1 : World} {lo b : Nat} {v : Value} {L : List ByteArray} (h : Strs w lo v L) (ho : Off b w w1) (hb : ∀ g, v.ownBlock = some g → g ≠ b) : Strs w1 lo v L := by
  refine ⟨h.1, ?_⟩
  rcases h.2 with h0 | ⟨g, cap, cur, hv, hl, hg, rest⟩
  · exact .inl h0
  · refine .inr ⟨g, cap, cur, hv, hl, ?_, rest⟩
    rw [ho.block g (Array.getElem?_eq_some_iff.1 hg).1 (hb g (by rw [hv]; rfl))]; exact hg
/-- where a block of one's own alone was written to, if there is one -/
def OffV (v : Value) (w w1 : World) : Prop := (∃ b, v.ownBlock = some b ∧ Off b w w1) ∨ Below w.heap.size w w1
theorem OffV.cell {v : Value} {w w1 : World} {k i : Nat} (h : OffV v w w1) (hk : k < w.heap.size) (hne : ∀ b, v.ownBlock = some b → k ≠ b) : w1.cell? ⟨k, i, none⟩ = w.cell? ⟨k, i, none⟩ := by
  rcases h with ⟨b, hb, ho⟩ | h
  · exact ho.cell hk (hne b hb)
  · exact h.cell (p := ⟨k, i, none⟩) hk
theorem OffV.frozen {v : Value} {w w1 : World} {k i : Nat} (h : OffV v w w1) (hk : k < w.heap.size) (hne : ∀ b, v.ownBlock = some b → k ≠ b) : w1.frozen? ⟨k, i, none⟩ = w.frozen? ⟨k, i, none⟩ := by
  rcases h with ⟨b, hb, ho⟩ | h
  · exact ho.frozen hk (hne b hb)
  · exact h.frozen (p := ⟨k, i, none⟩) hk
theorem OffV.strs {v u : Value} {w w1 : World} {lo : Nat} {L : List ByteArray} (h : OffV v w w1) (hs : Strs w lo u L) (hne : ∀ g b, u.ownBlock = some g → v.ownBlock = some b → g ≠ b) : Strs w1 lo u L := by
  rcases h with ⟨b, hb, ho⟩ | h
  · exact strs_off_ne hs ho fun g hg => hne g b hg hb
  · exact strs_below hs h (Nat.le_refl _)
theorem OffV.below {v : Value} {w w1 : World} {N : Nat} (h : OffV v w w1) (hN : ∀ b, v.ownBlock = some b → N ≤ b) (hs : N ≤ w.heap.size) : Below N w w1 := by
  rcases h with ⟨b, hb, ho⟩ | h
  · exact ho.belowAt (hN b hb) hs
  · exact h.mono hs
theorem OffV.size {v : Value} {w w1 : World} (h : OffV v w w1) : w.heap.size ≤ w1.heap.size := by
  rcases h with ⟨b, hb, ho⟩ | h
  · exact ho.size
  · exact h.size
theorem OffV.after {v : Value} {w w1 w2 : World} (h : OffV v w1 w2) (hb : Below w.heap.size w w1) : OffV v w w2 := by
  rcases h with ⟨b, hv, ho⟩ | h
  · exact .inl ⟨b, hv, (Off.of_below hb).trans ho⟩
  · exact .inr (hb.trans (h.mono hb.size))
end Go.Proofs.YtngcjlghjidnjaaGreatDoor
