import Derived.Test.YtngcjlghjidnjaaGreatDoorMg3
import Derived.Test.YtngcjlghjidnjaaGreatDoorMg1
import Derived.WalkKit
import Derived.ProofKit
import Derived.WalkLawsBesides
import Derived.Deep.QuietTactic
import Derived.BigQuiet
import Derived.Deep.AppendLies
import Derived.Test.YtngcjlghjidnjaaGreatDoorShelf
import Derived.HandedShaped
namespace Go.Proofs.YtngcjlghjidnjaaGreatDoor
open Go.ChangeShapes Go.WideShapes Go.ChangeAt Go.RowKit

/-- a byte of s is c -/
def hasN (s : ByteArray) (c : Nat) : Bool := !okAll (fun b => b != c) s
theorem has_yes {s : ByteArray} {c k : Nat} (hk : k < s.size) (h : byteOf s k = c) : hasN s c = true := by
  unfold hasN; rw [okAll_false hk (by rw [h]; simp)]; rfl
theorem has_no {s : ByteArray} {c : Nat} (h : ∀ k, k < s.size → byteOf s k ≠ c) : hasN s c = false := by
  unfold hasN; rw [okAll_true (f := fun b => b != c) fun k hk => bne_iff_ne.2 (h k hk)]; rfl

set_option maxHeartbeats 1000000 in
set_option maxRecDepth 100000 in
theorem specHas (s : ByteArray) (c : Nat) (w : World) (hs : s.size ≤ 1048576) :
    Calls Tryz.prog 106 #[.string s, .int .u8 (c : Int)] w fun e w' => e = .returned (.bool (hasN s c)) ∧ w' = w := by
  go_enter Tryz.func106, Tryz.ntmps106
  go_wp2
  go_loop [5] (fun i => ∃ k : Nat, k ≤ s.size ∧ i = .int .i64 k ∧ Hid (∀ j, j < k → byteOf s j ≠ c)) (fun i => s.size - (intOf i).toNat)
  case atStart => exact ⟨0, Nat.zero_le _, rfl, fun j h => absurd h (Nat.not_lt_zero _)⟩
  case round =>
    obtain ⟨k, hk, rfl, HA⟩ := hrel
    by_cases hlt : k < s.size
    · have HB : Hid (byteOf s k = s[k].toNat) := byteOf_eq s k hlt
      by_cases hc : (s[k].toNat : Int) = (c : Int)
      · have G : Hid (hasN s c = true) := has_yes hlt (by rw [HB.out]; omega)
        go_wp2
        go_ret
        exact ⟨ret_bool G.out.symm, rfl⟩
      · have hcb : ((s[k].toNat : Int) == (c : Int)) = false := beq_eq_false_iff_ne.2 hc
        have G : Hid (∀ j, j < k + 1 → byteOf s j ≠ c) := by
          intro j hj
          rcases Nat.lt_succ_iff_lt_or_eq.1 hj with hj | rfl
          · exact HA.out j hj
          · rw [HB.out]; omega
        go_wp2
        go_round
        case rel => exact ⟨k + 1, by omega, by go_num, G.out⟩
        case measure => simp [intOf]; omega
    · go_wp2
      go_ret
      exact ⟨ret_bool (has_no fun j hj => HA.out j (by omega)).symm, rfl⟩

theorem any_nat (l : List UInt8) {b : Nat} (hb : b < 256) : (!l.all fun x => x.toNat != b) = l.contains (UInt8.ofNat b) := by
  induction l with
  | nil => rfl
  | cons x l ih =>
    rw [List.all_cons, List.contains_cons, Bool.not_and, ih]
    congr 1
    rw [Bool.eq_iff_iff]
    simp only [bne, Bool.not_not, beq_iff_eq]
    constructor
    · rintro rfl; rw [UInt8.ofNat_toNat]
    · intro h
      rw [← h]; simp [UInt8.toNat_ofNat', Nat.mod_eq_of_lt hb]
end Go.Proofs.YtngcjlghjidnjaaGreatDoor
namespace Go.Proofs.YtngcjlghjidnjaaGreatDoor
open Go.ChangeShapes Go.WideShapes Go.ChangeAt Go.RowKit

/-- a slice of strings of the call's own, in a block from lo on, that holds L -/
def Strs (w : World) (lo : Nat) (v : Value) (L : List ByteArray) : Prop := w.ownsRow lo 9 1 v L.length (L.map Value.string)

/-- what such a slice is: no element; or the cells of a block -/
structure StrsAt (w : World) (lo g cap : Nat) (L : List ByteArray) : Prop where
  lo : lo ≤ g
  lt : g < w.heap.size
  len : L.length ≤ cap
  cap : cap ≤ maxLen
  cell : ∀ i (hi : i < L.length), w.cell? ⟨g, i, none⟩ = some (.string L[i])
  free : ∀ o, w.frozen? ⟨g, o, none⟩ = false

theorem Strs.cases {w : World} {lo : Nat} {v : Value} {L : List ByteArray} (h : Strs w lo v L) :
    (v = .slice none 0 0 ∧ L = []) ∨ ∃ g cap, v = .slice (some ⟨g, 0, none⟩) L.length cap ∧ StrsAt w lo g cap L := by
  rcases h.2 with ⟨hv, h0⟩ | ⟨g, cap, cur, hv, hb, hg, hn, hc, hs, ht⟩
  · exact .inl ⟨hv, List.eq_nil_of_length_eq_zero h0⟩
  · refine .inr ⟨g, cap, hv, hb, ?_, hn, hc, ?_, ?_⟩
    · exact (Array.getElem?_eq_some_iff.1 hg).1
    · intro i hi
      have e : cur[i]? = some (Value.string L[i]) := by
        have h1 : (cur.toList.take (L.length * 1))[i]? = (L.map Value.string)[i]? := by rw [ht]
        rw [List.getElem?_take_of_lt (by omega), List.getElem?_map, List.getElem?_eq_getElem hi] at h1
        simpa using h1
      simp [World.cell?, hg, e]
    · intro o; simp [World.frozen?, hg]

theorem strs_below {w w' : World} {lo : Nat} {v : Value} {L : List ByteArray} (h : Strs w lo v L) {B : Nat} (hb : Below B w w') (hB : w.heap.size ≤ B) : Strs w' lo v L := by
  refine ⟨h.1, ?_⟩
  rcases h.2 with h0 | ⟨g, cap, cur, hv, hl, hg, rest⟩
  · exact .inl h0
  · refine .inr ⟨g, cap, cur, hv, hl, ?_, rest⟩
    rw [hb.block g (Nat.lt_of_lt_of_le (Array.getElem?_eq_some_iff.1 hg).1 hB)]; exact hg

/-- where what is written lies from hi on, and the slice below it -/
theorem strs_below_at {w w' : World} {lo hi : Nat} {v : Value} {L : List ByteArray} (h : Strs w lo v L) (hb : Below hi w w') (hlt : ∀ g, v.ownBlock = some g → g < hi) : Strs w' lo v L := by
  refine ⟨h.1, ?_⟩
  rcases h.2 with h0 | ⟨g, cap, cur, hv, hl, hg, rest⟩
  · exact .inl h0
  · refine .inr ⟨g, cap, cur, hv, hl, ?_, rest⟩
    rw [hb.block g (hlt g (by rw [hv]; rfl))]; exact hg
theorem strs_own {w : World} {lo : Nat} {v : Value} {L : List ByteArray} (h : Strs w lo v L) : ∀ g, v.ownBlock = some g → g < w.heap.size := by
  intro g hg
  rcases h.cases with ⟨rfl, _⟩ | ⟨g', cap, rfl, hs⟩
  · simp [Value.ownBlock] at hg
  · simp only [Value.ownBlock, Option.some.injEq] at hg
    subst hg; exact hs.lt


theorem Strs.at {w : World} {lo g n cap : Nat} {L : List ByteArray} (h : Strs w lo (.slice (some ⟨g, 0, none⟩) n cap) L) : StrsAt w lo g cap L ∧ n = L.length := by
  rcases h.cases with ⟨hv, _⟩ | ⟨g', cap', hv, hs⟩
  · cases hv
  · injection hv with h1 h2 h3
    injection h1 with h1
    injection h1 with h1
    subst h1 h2 h3
    exact ⟨hs, rfl⟩

theorem strs_set {w : World} {lo g n cap i : Nat} {L : List ByteArray} (h : Strs w lo (.slice (some ⟨g, 0, none⟩) n cap) L) (X : ByteArray) :
    Strs (w.setCell ⟨g, i, none⟩ (.string X)) lo (.slice (some ⟨g, 0, none⟩) n cap) (L.set i X) := by
  refine ⟨by simp, ?_⟩
  rcases h.2 with ⟨hv, _⟩ | ⟨g', cap', cur, hv, hl, hg, hn, hc, hs, ht⟩
  · cases hv
  · injection hv with h1 h2 h3
    injection h1 with h1
    injection h1 with h1
    subst h1 h2 h3
    refine .inr ⟨g, cap, cur.setIfInBounds i (.string X), by simp, hl, Go.Joins.block_setCell hg _, by simpa using hn, hc, by simpa using hs, ?_⟩
    rw [List.map_set, ← ht]
    simp [List.take_set]

theorem strs_lo {w : World} {lo : Nat} {v : Value} {L : List ByteArray} (h : Strs w lo v L) : ∀ g, v.ownBlock = some g → lo ≤ g := by
  intro g hg
  rcases h.cases with ⟨rfl, _⟩ | ⟨g', cap, rfl, hs⟩
  · simp [Value.ownBlock] at hg
  · simp only [Value.ownBlock, Option.some.injEq] at hg
    subst hg; exact hs.lo
theorem strs_setCell {w : World} {lo : Nat} {v : Value} {L : List ByteArray} (h : Strs w lo v L) {a : Addr} (ha : a.block < lo) (u : Value) : Strs (w.setCell a u) lo v L := ownsRow_setCell_below h ha u
theorem strs_le {w : World} {lo lo' : Nat} {v : Value} {L : List ByteArray} (h : Strs w lo v L) (hl : lo' ≤ lo) : Strs w lo' v L := Go.Joins.ownsRow_le h hl
theorem strs_snoc {w : World} {lo : Nat} {v : Value} {L : List ByteArray} {p : ByteArray} (h : w.ownsRow lo 9 1 v (L.length + 1) (L.map Value.string ++ [.string p])) : Strs w lo v (L ++ [p]) := by
  unfold Strs; simpa using h
theorem infoStr : (Tryz.prog.info? 9).map (fun i => (i.zero, i.size, i.bytes)) = some (some (.string ⟨#[]⟩), 1, 16) := by kernel_rfl
end Go.Proofs.YtngcjlghjidnjaaGreatDoor
namespace Go.Proofs.YtngcjlghjidnjaaGreatDoor
open Go.ChangeShapes Go.WideShapes Go.ChangeAt Go.RowKit
open Pcs

/-- internal/bytealg.MaxLen holds some int -/
def LenIn (w : World) : Prop := ∃ m, w.cell? ⟨0, 0, none⟩ = some (.int .i64 m)
theorem len_below {w w' : World} (h : LenIn w) (hb : Below w.heap.size w w') : LenIn w' := by
  obtain ⟨m, hm⟩ := h
  refine ⟨m, ?_⟩
  rw [hb.cell (p := ⟨0, 0, none⟩) (World.block_lt_of_cell? _ _ hm)]; exact hm

/-- a block of strings just laid is a slice of the call's own -/
theorem strs_new (w : World) (L : List ByteArray) (h : L.length ≤ maxLen) : Strs (w.alloc (.cells (L.map Value.string).toArray 9)) w.heap.size (.slice (some ⟨w.heap.size, 0, none⟩) L.length L.length) L := by
  refine ⟨by simp, .inr ⟨w.heap.size, L.length, (L.map Value.string).toArray, rfl, Nat.le_refl _, heap_alloc_new w _, Nat.le_refl _, h, by simp, ?_⟩⟩
  rw [Nat.mul_one]
  exact List.take_of_length_le (by simp)
end Go.Proofs.YtngcjlghjidnjaaGreatDoor
