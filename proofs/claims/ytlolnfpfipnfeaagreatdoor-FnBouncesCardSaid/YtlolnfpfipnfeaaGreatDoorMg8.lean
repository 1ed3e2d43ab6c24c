import Derived.Test.YtlolnfpfipnfeaaGreatDoorMg1
import Derived.WalkKit
import Derived.ProofKit
import Derived.WalkLawsBesides
import Derived.Deep.QuietTactic
import Derived.BigQuiet
import Derived.Deep.AppendLies
import Derived.Deep.RegionWith
import Derived.Deep.DrawnRows
import Derived.Laws.IdiomStrings
namespace Go.Proofs.YtlolnfpfipnfeaaGreatDoor
open Go.ChangeShapes Go.WideShapes Go.ChangeAt Go.RowKit

/-- a block that holds X, free to be written to -/
structure Blk (b : Nat) (X : Array Value) (w : World) : Prop where
  lt : b < w.heap.size
  cell : ∀ i, w.cell? ⟨b, i, none⟩ = X[i]?
  free : ∀ o, w.frozen? ⟨b, o, none⟩ = false
theorem Blk.below {b : Nat} {X : Array Value} {w w1 : World} (h : Blk b X w) (hb : Below w.heap.size w w1) : Blk b X w1 :=
  ⟨Nat.lt_of_lt_of_le h.lt hb.size, fun i => (hb.cell (p := ⟨b, i, none⟩) h.lt).trans (h.cell i), fun o => (hb.frozen (p := ⟨b, o, none⟩) h.lt).trans (h.free o)⟩
theorem Blk.other {b k i : Nat} {X : Array Value} {w : World} {v : Value} (h : Blk b X w) (hne : b ≠ k) : Blk b X (w.setCell ⟨k, i, none⟩ v) :=
  ⟨by simpa using h.lt, fun j => (World.cell?_setCell_other _ _ _ _ (by intro e; injection e with e; exact hne e.symm)).trans (h.cell j), fun o => by rw [World.frozen?_setCell]; exact h.free o⟩
theorem Blk.set {b i : Nat} {X : Array Value} {w : World} {v : Value} (h : Blk b X w) (hi : i < X.size) : Blk b (X.set i v hi) (w.setCell ⟨b, i, none⟩ v) := by
  refine ⟨by simpa using h.lt, fun j => ?_, fun o => by rw [World.frozen?_setCell]; exact h.free o⟩
  by_cases e : j = i
  · subst e
    rw [World.cell?_setCell_same _ _ _ (u := X[j]) ((h.cell j).trans (Array.getElem?_eq_getElem hi))]
    simp
  · rw [World.cell?_setCell_other _ _ _ _ (by intro e2; injection e2 with _ e2; exact e e2.symm), h.cell j, Array.getElem?_set_ne _ (fun e2 => e e2.symm)]
theorem Blk.new (w : World) (X : Array Value) (T : TypeId) : Blk w.heap.size X (w.alloc (.cells X T)) := ⟨by simp, fun i => World.cell?_alloc_mark _ _ _ _ _, fun o => World.frozen?_alloc_at _ _ _ _ rfl⟩

end Go.Proofs.YtlolnfpfipnfeaaGreatDoor
namespace Go.Proofs.YtlolnfpfipnfeaaGreatDoor
open Go.ChangeShapes Go.WideShapes Go.ChangeAt Go.RowKit

/-- the first n bytes: none if n is less than 0, all if it is more than there are -/
def keepB (s : ByteArray) (n : Int) : ByteArray := if n < 0 then ⟨#[]⟩ else if (s.size : Int) < n then s else s.extract 0 n.toNat

set_option maxRecDepth 100000 in
theorem keepB_neg (s : ByteArray) (n : Int) (h : n < 0) : keepB s n = ⟨#[]⟩ := by rw [keepB, if_pos h]
theorem keepB_big (s : ByteArray) (n : Int) (h0 : 0 ≤ n) (h : (s.size : Int) < n) : keepB s n = s := by rw [keepB, if_neg (by omega), if_pos h]
theorem keepB_mid (s : ByteArray) (n : Int) (h0 : 0 ≤ n) (h : n ≤ (s.size : Int)) : keepB s n = s.extract 0 n.toNat := by rw [keepB, if_neg (by omega), if_neg (by omega)]
set_option maxRecDepth 100000 in
theorem keepB_size (s : ByteArray) (n : Int) : (keepB s n).size ≤ s.size := by
  by_cases h0 : n < 0
  · rw [keepB_neg s n h0]; exact Nat.zero_le _
  · by_cases h : (s.size : Int) < n
    · rw [keepB_big s n (by omega) h]; exact Nat.le_refl _
    · rw [keepB_mid s n (by omega) (by omega), ByteArray.size_extract]; omega

set_option maxRecDepth 100000 in
theorem empty_ofK (s : ByteArray) (h : s.size = 0) : s = ByteArray.empty := by
  apply ByteArray.ext
  exact Array.eq_empty_of_size_eq_zero h

set_option maxHeartbeats 400000 in
set_option maxRecDepth 100000 in
theorem specKeep (s : ByteArray) (n : Int) (w : World) :
    Calls Tryz.prog 24 #[.string s, .int .i64 n] w fun e w' => e = .returned (.string (keepB s n)) ∧ w' = w := by
  by_cases c1 : n < 0
  · go_enter Tryz.func24, Tryz.ntmps24
    go_wp2
    go_ret
    exact ⟨ret_str (keepB_neg s n c1).symm, rfl⟩
  · by_cases c2 : (s.size : Int) < n
    · go_enter Tryz.func24, Tryz.ntmps24
      go_wp2
      go_ret
      exact ⟨ret_str (keepB_big s n c1 c2).symm, rfl⟩
    · go_enter Tryz.func24, Tryz.ntmps24
      go_wp2
      go_ret
      exact ⟨ret_str (keepB_mid s n c1 c2).symm, rfl⟩
end Go.Proofs.YtlolnfpfipnfeaaGreatDoor
