import Derived.Test.YtngcjlghjidnjaaGreatDoorMg42
import Derived.Test.YtngcjlghjidnjaaGreatDoorMg1
import Derived.WalkKit
import Derived.ProofKit
import Derived.WalkLawsBesides
import Derived.Laws.IdiomStrings
import Derived.Lib.ConvBytes
namespace Go.Proofs.YtngcjlghjidnjaaGreatDoor
open Go.ChangeShapes Go.WideShapes Go.ChangeAt Go.RowKit

set_option maxHeartbeats 1000000 in
set_option maxRecDepth 100000 in
theorem rdTwo (b p : Nat) (cv : Value) (B : List UInt8) (w : World) (h : RdAt w b cv B p) :
    Calls Tryz.prog 100 #[.pointer (some ⟨b, 0, none⟩)] w fun e w' => (∃ n q : Nat, n < 65536 ∧ e = .returned (.int .i64 (n : Int)) ∧ RdAt w' b cv B q) ∧ Off b w w' := by
  have H : Hid (RdAt w b cv B p) := h
  clear h
  go_enter Tryz.func100, Tryz.ntmps100
  go_wp2_with fail
  refine (rdNext b p cv B _ H.out).mono ?_
  rintro e w1 ⟨rfl, h1, ho1⟩
  have hc := nx_lt B p
  generalize nx B p = c at *
  have H1 : Hid (RdAt w1 b cv B (px B p)) := h1
  clear h1
  go_wp2_with fail
  refine (rdNext b (px B p) cv B _ H1.out).mono ?_
  rintro e w2 ⟨rfl, h2, ho2⟩
  have hd := nx_lt B (px B p)
  have H2 : Hid (RdAt w2 b cv B (px B (px B p))) := h2
  clear h2
  generalize nx B (px B p) = d at *
  go_wp2
  go_ret
  exact ⟨⟨c * 256 + d, _, by omega, by go_num, H2.out⟩, ho1.trans ho2⟩

def spoils : List ByteArray := [⟨#[]⟩, ⟨#[64]⟩, ⟨#[46]⟩, ⟨#[45]⟩, ⟨#[46, 46]⟩, ⟨#[65]⟩, ⟨#[13]⟩, ⟨#[10]⟩, ⟨#[13, 10]⟩, ⟨#[32]⟩, ⟨#[0]⟩, ⟨#[48]⟩, ⟨#[50, 53, 48, 32, 111, 107, 13, 10]⟩, ⟨#[120]⟩]
set_option maxHeartbeats 1000000 in
set_option maxRecDepth 100000 in
theorem rdSpoil (b p : Nat) (cv : Value) (B : List UInt8) (s : ByteArray) (w : World) (h : RdAt w b cv B p) (hs : s.size ≤ 1048576) :
    Calls Tryz.prog 54 #[.pointer (some ⟨b, 0, none⟩), .string s] w fun e w' => (∃ (t : ByteArray) (q : Nat), t.size ≤ s.size + 8 ∧ e = .returned (.string t) ∧ RdAt w' b cv B q) ∧ Off b w w' := by
  have H : Hid (RdAt w b cv B p) := h
  clear h
  by_cases h0 : 0 < s.size
  · go_enter Tryz.func54, Tryz.ntmps54
    go_wp2_with fail
    refine (rdTwo b p cv B _ H.out).mono ?_
    rintro e w1 ⟨⟨n, q1, hn, rfl, h1⟩, ho1⟩
    have H1 : Hid (RdAt w1 b cv B q1) := h1
    clear h1
    obtain ⟨a, ha, hal⟩ : ∃ a : Nat, (n : Int) % (s.size : Int) = (a : Int) ∧ a < s.size := ⟨n % s.size, by simp, Nat.mod_lt _ h0⟩
    go_wp2_with fail
    refine (rdNext b q1 cv B _ H1.out).mono ?_
    rintro e w2 ⟨rfl, h2, ho2⟩
    have hd := nx_lt B q1
    have H2 : Hid (RdAt w2 b cv B (px B q1)) := h2
    clear h2
    generalize nx B q1 = d at *
    generalize px B q1 = q2 at *
    obtain ⟨m, hm, hm8⟩ : ∃ m : Nat, (d : Int) % 14 = (m : Int) ∧ m < 14 := ⟨d % 14, by omega, by omega⟩
    obtain ⟨y, hy, ey⟩ := pickV spoils 8 (by decide) m hm8
    simp only [spoils, List.map_cons, List.map_nil] at ey
    obtain ⟨t, ht, ht2⟩ : ∃ t : Nat, (a : Int) + (d : Int) / 64 % 3 = (t : Int) ∧ a ≤ t := ⟨a + d / 64 % 3, by omega, by omega⟩
    by_cases htl : t ≤ s.size
    · have hti : ¬ (s.size : Int) < (t : Int) := by omega
      have hai : (a : Int) ≤ s.size := by omega
      go_wp2_with fail
      go_quiet (fail)
      go_wp2
      go_ret
      refine ⟨⟨_, q2, ?_, rfl, H2.out.below (bel_drewN (below1 _ _) _) (Nat.le_refl _)⟩, (ho1.trans ho2).trans (Off.of_below (bel_drewN (below1 _ _) _))⟩
      try simp only [ByteArray.size_append, ByteArray.size_extract]
      have e0 : (⟨#[]⟩ : ByteArray).size = 0 := rfl
      try simp only [e0]
      omega
    · have hti : (s.size : Int) < (t : Int) := by omega
      have hai : (a : Int) ≤ s.size := by omega
      go_wp2_with fail
      go_quiet (fail)
      go_wp2
      go_ret
      refine ⟨⟨_, q2, ?_, rfl, H2.out.below (bel_drewN (below1 _ _) _) (Nat.le_refl _)⟩, (ho1.trans ho2).trans (Off.of_below (bel_drewN (below1 _ _) _))⟩
      try simp only [ByteArray.size_append, ByteArray.size_extract]
      have e0 : (⟨#[]⟩ : ByteArray).size = 0 := rfl
      try simp only [e0]
      omega
  · have hs0 : s.size = 0 := by omega
    go_enter Tryz.func54, Tryz.ntmps54
    go_wp2_with fail
    refine (rdNext b p cv B _ H.out).mono ?_
    rintro e w2 ⟨rfl, h2, ho2⟩
    have hd := nx_lt B p
    have H2 : Hid (RdAt w2 b cv B (px B p)) := h2
    clear h2
    generalize nx B p = d at *
    generalize px B p = q2 at *
    obtain ⟨m, hm, hm8⟩ : ∃ m : Nat, (d : Int) % 14 = (m : Int) ∧ m < 14 := ⟨d % 14, by omega, by omega⟩
    obtain ⟨y, hy, ey⟩ := pickV spoils 8 (by decide) m hm8
    simp only [spoils, List.map_cons, List.map_nil] at ey
    obtain ⟨t, ht⟩ : ∃ t : Nat, (d : Int) / 64 % 3 = (t : Int) := ⟨d / 64 % 3, by omega⟩
    by_cases htl : t ≤ s.size
    · have hti : ¬ (s.size : Int) < (t : Int) := by omega
      have ht0 : t = 0 := by omega
      subst ht0
      have hai : (0 : Int) ≤ s.size := by omega
      go_wp2_with fail
      go_quiet (fail)
      go_wp2
      go_ret
      refine ⟨⟨_, q2, ?_, rfl, H2.out.below (bel_drewN (below1 _ _) _) (Nat.le_refl _)⟩, ho2.trans (Off.of_below (bel_drewN (below1 _ _) _))⟩
      try simp only [ByteArray.size_append, ByteArray.size_extract]
      have e0 : (⟨#[]⟩ : ByteArray).size = 0 := rfl
      try simp only [e0]
      omega
    · have hti : (s.size : Int) < (t : Int) := by omega
      have hai : (0 : Int) ≤ s.size := by omega
      go_wp2_with fail
      go_quiet (fail)
      go_wp2
      go_ret
      refine ⟨⟨_, q2, ?_, rfl, H2.out.below (bel_drewN (below1 _ _) _) (Nat.le_refl _)⟩, ho2.trans (Off.of_below (bel_drewN (below1 _ _) _))⟩
      try simp only [ByteArray.size_append, ByteArray.size_extract]
      have e0 : (⟨#[]⟩ : ByteArray).size = 0 := rfl
      try simp only [e0]
      omega
end Go.Proofs.YtngcjlghjidnjaaGreatDoor
namespace Go.Proofs.YtngcjlghjidnjaaGreatDoor
open Go.ChangeShapes Go.WideShapes Go.ChangeAt Go.RowKit

/-- a row of bytes of our own -/
def Byts (w : World) (lo : Nat) (v : Value) (ns : List Int) : Prop := w.ownsRow lo 5 1 v ns.length (ns.map (Value.int .u8))
set_option maxRecDepth 100000 in
theorem Byts.cell {w : World} {lo g n cap : Nat} {ns : List Int} (h : Byts w lo (.slice (some ⟨g, 0, none⟩) n cap) ns) : (∀ i (hi : i < ns.length), w.cell? ⟨g, i, none⟩ = some (.int .u8 ns[i])) ∧ (∀ o, w.frozen? ⟨g, o, none⟩ = false) ∧ lo ≤ g ∧ g < w.heap.size := by
  rcases h.2 with ⟨hv, _⟩ | ⟨g', cap', cur, hv, hl, hg, hn, hc, hs, ht⟩
  · cases hv
  · injection hv with h1 h2 h3
    injection h1 with h1
    injection h1 with h1
    subst h1 h2 h3
    refine ⟨fun i hi => ?_, fun o => by simp [World.frozen?, hg], hl, (Array.getElem?_eq_some_iff.1 hg).1⟩
    have h1 : (cur.toList.take (ns.length * 1))[i]? = (ns.map (Value.int .u8))[i]? := by rw [ht]
    rw [List.getElem?_take_of_lt (by omega), List.getElem?_map, List.getElem?_eq_getElem hi] at h1
    have e : cur[i]? = some (Value.int .u8 ns[i]) := by simpa using h1
    simp [World.cell?, hg, e]
set_option maxRecDepth 100000 in
theorem byts_set {w : World} {lo g n cap i : Nat} {ns : List Int} (h : Byts w lo (.slice (some ⟨g, 0, none⟩) n cap) ns) (x : Int) : Byts (w.setCell ⟨g, i, none⟩ (.int .u8 x)) lo (.slice (some ⟨g, 0, none⟩) n cap) (ns.set i x) := by
  refine ⟨by simp, ?_⟩
  rcases h.2 with ⟨hv, _⟩ | ⟨g', cap', cur, hv, hl, hg, hn, hc, hs, ht⟩
  · cases hv
  · injection hv with h1 h2 h3
    injection h1 with h1
    injection h1 with h1
    subst h1 h2 h3
    refine .inr ⟨g, cap, cur.setIfInBounds i (.int .u8 x), by simp, hl, Go.Joins.block_setCell hg _, by simpa using hn, hc, by simpa using hs, ?_⟩
    rw [List.map_set, ← ht]
    simp [List.take_set]
set_option maxRecDepth 100000 in
theorem byts_made (w : World) (n : Nat) (hn : n ≤ maxLen) : Byts (w.alloc (.cells (madeCells (Value.int .u8 0).cells n) 5)) w.heap.size (.slice (some ⟨w.heap.size, 0, none⟩) n n) (List.replicate n 0) := by
  refine ⟨by simp, .inr ⟨w.heap.size, n, madeCells (Value.int .u8 0).cells n, by simp, Nat.le_refl _, (MapKept.heap_alloc w _).1, by simp, hn, by simp [size_madeCells], ?_⟩⟩
  simp [madeCells, Value.cells, Nat.mod_one, List.take_of_length_le]
  exact List.ext_getElem (by simp) (fun i h1 h2 => by simp)

/-- the letters in turn -/
def fillL (n : Nat) : List Int := (List.range n).map fun i => 97 + ((i % 26 : Nat) : Int)
set_option maxRecDepth 100000 in
theorem fillL_step (n k : Nat) (h : k < n) : (fillL k ++ List.replicate (n - k) (0 : Int)).set k (97 + ((k % 26 : Nat) : Int)) = fillL (k + 1) ++ List.replicate (n - (k + 1)) 0 := by
  have hl : (fillL k).length = k := by simp [fillL]
  obtain ⟨d, hd⟩ : ∃ d, n - k = d + 1 := ⟨n - k - 1, by omega⟩
  rw [List.set_append_right _ _ (by omega), hl, Nat.sub_self, hd, List.replicate_succ, List.set_cons_zero, show n - (k + 1) = d by omega]
  simp [fillL, List.range_succ]

set_option maxHeartbeats 2000000 in
set_option maxRecDepth 100000 in
theorem fill (n : Nat) (w : World) (hn : n ≤ 10000) :
    Calls Tryz.prog 57 #[.int .i64 n] w fun e w' => e = .returned (.string (ofInts (fillL n))) ∧ Below w.heap.size w w' := by
  obtain ⟨i0, hi, hz0, hz1, hz2⟩ := info_parts infoU8
  have hmk : (Instr.makeSlice 22 (.int .i64 (n : Int)) (.int .i64 (n : Int))).run Tryz.prog w = .ok (.slice (some ⟨w.heap.size, 0, none⟩) n n) (w.alloc (.cells (madeCells (Value.int .u8 0).cells n) 5)) := by
    have e := run_make (P := Tryz.prog) w 22 5 i0 (.int .u8 0) Tryz.underlying22 hi hz0 .i64 .i64 (n : Int) (n : Int) (by omega) (by omega) (by rw [hz2]; omega) (by omega)
    simpa [hz1] using e
  have HM : Hid (Byts (w.alloc (.cells (madeCells (Value.int .u8 0).cells n) 5)) w.heap.size (.slice (some ⟨w.heap.size, 0, none⟩) n n) (fillL 0 ++ List.replicate (n - 0) 0)) := byts_made w n (by unfold maxLen; omega)
  clear hi hz0 hz1 hz2
  obtain ⟨Z, HZ⟩ : ∃ Z, Hid (Obj.cells (madeCells (Value.int .u8 0).cells n) 5 = Z) := ⟨_, rfl⟩
  rw [HZ.out] at hmk HM
  go_enter Tryz.func57, Tryz.ntmps57
  go_wp2
  go_loopw [4, 11] (fun _ i wr => ∃ k : Nat, k ≤ n ∧ i = .int .i64 k ∧ Hid (Byts wr w.heap.size (.slice (some ⟨w.heap.size, 0, none⟩) n n) (fillL k ++ List.replicate (n - k) 0)) ∧ Below w.heap.size w wr) (fun _ i _ => n - (intOf i).toNat)
  case atStart => exact ⟨0, Nat.zero_le _, rfl, HM, below1 _ _⟩
  case round =>
    obtain ⟨k, hk, rfl, HS, hb⟩ := hrel
    by_cases hlt : k < n
    · have hlen : (fillL k ++ List.replicate (n - k) (0 : Int)).length = n := by simp [fillL]; omega
      obtain ⟨y, ec⟩ : ∃ y, wr.cell? ⟨w.heap.size, k, none⟩ = some (.int .u8 y) := ⟨_, HS.out.cell.1 k (by omega)⟩
      have ef := HS.out.cell.2.1 k
      clear hlen
      go_wp2
      go_roundw
      case rel =>
        refine ⟨k + 1, by omega, by go_num, ?_, hb.setCell (Nat.le_refl _) _⟩
        show Byts _ _ _ _
        rw [← fillL_step n k hlt]
        exact byts_set HS.out _
      case measure => simp [intOf]; omega
    · obtain rfl : k = n := by omega
      have hcv : (convert 22 9 (.slice (some ⟨w.heap.size, 0, none⟩) k k)).run Tryz.prog wr = .ok (.string (ofInts (fillL k))) wr := by
        have e := run_row_str HS.out
        rw [Nat.sub_self, List.replicate_zero, List.append_nil] at e
        exact e
      go_wp2
      go_ret
      exact ⟨rfl, hb⟩
set_option maxRecDepth 100000 in
theorem fill_size (n : Nat) : (ofInts (fillL n)).size = n := by rw [ofInts_size]; simp [fillL]
end Go.Proofs.YtngcjlghjidnjaaGreatDoor
namespace Go.Proofs.YtngcjlghjidnjaaGreatDoor
open Go.ChangeShapes Go.WideShapes Go.ChangeAt Go.RowKit

/-- block g begins with the bytes L, none of them frozen -/
structure BytsAt (w : World) (g : Nat) (L : List UInt8) : Prop where
  ex : ∃ C : Array Value, w.heap[g]? = some (.cells C 5 (C.size, C.size + 1)) ∧ L.length ≤ C.size ∧ ∀ j (h : j < L.length), C[j]? = some (.int .u8 (L[j].toNat : Int))
theorem BytsAt.cell {w : World} {g : Nat} {L : List UInt8} (h : BytsAt w g L) (j : Nat) (hj : j < L.length) : w.cell? ⟨g, j, none⟩ = some (.int .u8 (L[j].toNat : Int)) := by
  obtain ⟨C, h1, h2, h3⟩ := h.ex
  unfold World.cell?
  rw [h1]; exact h3 j hj
theorem BytsAt.free {w : World} {g : Nat} {L : List UInt8} (h : BytsAt w g L) (j : Nat) (hj : j < L.length) : w.frozen? ⟨g, j, none⟩ = false := by
  obtain ⟨C, h1, h2, h3⟩ := h.ex
  unfold World.frozen?
  rw [h1]
  show (decide (C.size ≤ j) && decide (j < C.size + 1)) = false
  have : decide (C.size ≤ j) = false := decide_eq_false (by omega)
  rw [this]; rfl
theorem BytsAt.set {w : World} {g : Nat} {L : List UInt8} (h : BytsAt w g L) (j : Nat) (hj : j < L.length) (c : UInt8) : BytsAt (w.setCell ⟨g, j, none⟩ (.int .u8 (c.toNat : Int))) g (L.set j c) := by
  obtain ⟨C, h1, h2, h3⟩ := h.ex
  refine ⟨⟨C.setIfInBounds j (.int .u8 (c.toNat : Int)), ?_, by simpa using h2, fun i hi => ?_⟩⟩
  · simp only [World.setCell, Array.getElem?_modify]
    rw [h1]
    simp
  · simp at hi
    rw [List.getElem_set]
    by_cases e : j = i
    · subst e
      rw [if_pos rfl, Array.getElem?_setIfInBounds_self_of_lt (by omega)]
    · rw [if_neg e, Array.getElem?_setIfInBounds_ne e]
      exact h3 i hi
theorem bytsNew (w : World) (s : ByteArray) : BytsAt (Lib.bytesWorld w 5 s) w.heap.size s.data.toList := by
  refine ⟨⟨_, Lib.bytesWorld_at_new w _ s, ?_, fun j hj => ?_⟩⟩
  · simp [Lib.bytesCells]
  · have hj' : j < s.data.size := by simpa using hj
    unfold Lib.bytesCells
    rw [Array.getElem?_append_left (by simpa using hj')]
    simp only [Array.getElem?_map, Array.getElem?_eq_getElem hj', Option.map_some, Array.getElem_toList]
theorem bytsBelow (w : World) (s : ByteArray) : Below w.heap.size w (Lib.bytesWorld w 5 s) :=
  ⟨rfl, rfl, rfl, by rw [Lib.bytesWorld_size]; omega, fun k hk => Lib.bytesWorld_at_old w _ s k hk⟩
theorem bytsBack (w : World) (g cap n : Nat) (l : List UInt8) (hn : l.length = n) (h : BytsAt w g l) :
    (convert 22 9 (.slice (some ⟨g, 0, none⟩) n cap)).run Tryz.prog w = .ok (.string ⟨l.toArray⟩) w := by
  subst hn
  exact run_convert_bytes_back (P := Tryz.prog) w _ _ _ _ cap l Tryz.underlying22 Tryz.underlying5 Tryz.underlying9 fun j hj => by
    have := h.cell j hj
    rw [add_plain, Nat.zero_add]; exact this

end Go.Proofs.YtngcjlghjidnjaaGreatDoor
