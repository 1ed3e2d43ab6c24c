import Derived.Test.YtnbbhegcijogiaaDoorOwn
import Derived.Test.YtnbbhegcijogiaaDoorPcs
import Derived.Test.YtnbbhegcijogiaaDoorShelf
import Derived.WalkKit
import Derived.ProofKit
import Derived.WalkLawsBesides
import Derived.Deep.QuietTactic
import Derived.BigQuiet
namespace Go.Proofs.YtnbbhegcijogiaaDoor
open Go.ChangeShapes Go.WideShapes Go.ChangeAt Go.RowKit

def digN (b : Nat) : Bool := decide (48 ≤ b) && decide (b ≤ 57)
def smlN (b : Nat) : Bool := decide (97 ≤ b) && decide (b ≤ 122)
def letN (b : Nat) : Bool := smlN b || digN b
theorem ret_bool {a b : Bool} (h : a = b) : Ending.returned (.bool a) = .returned (.bool b) := by rw [h]

/-- the byte at k, 0 beyond the end -/
def byteOf (s : ByteArray) (k : Nat) : Nat := if h : k < s.size then s[k].toNat else 0
theorem byteOf_eq (s : ByteArray) (k : Nat) (h : k < s.size) : byteOf s k = s[k].toNat := dif_pos h
/-- each byte passes -/
def okAll (f : Nat → Bool) (s : ByteArray) : Bool := (List.range s.size).all fun k => f (byteOf s k)
theorem okAll_true {f : Nat → Bool} {s : ByteArray} (h : ∀ k, k < s.size → f (byteOf s k) = true) : okAll f s = true :=
  List.all_eq_true.2 fun k hk => h k (List.mem_range.1 hk)
theorem okAll_false {f : Nat → Bool} {s : ByteArray} {k : Nat} (hk : k < s.size) (h : f (byteOf s k) = false) : okAll f s = false :=
  List.all_eq_false.2 ⟨k, List.mem_range.2 hk, by rw [h]; decide⟩
theorem okAll_congr {f g : Nat → Bool} {s : ByteArray} (h : ∀ b, b < 256 → f b = g b) : okAll f s = okAll g s := by
  unfold okAll
  congr 1; funext k
  refine h _ ?_
  unfold byteOf; split
  · exact UInt8.toNat_lt _
  · decide
theorem byteOf_lt (s : ByteArray) (k : Nat) : byteOf s k < 256 := by
  unfold byteOf; split
  · exact UInt8.toNat_lt _
  · decide

theorem okAll_list (f : Nat → Bool) (s : ByteArray) : okAll f s = s.data.toList.all fun b => f b.toNat := by
  rw [Bool.eq_iff_iff]
  constructor
  · intro h
    refine List.all_eq_true.2 fun x hx => ?_
    obtain ⟨k, hk, rfl⟩ := List.getElem_of_mem hx
    have hk' : k < s.size := by rw [Lib.size_eq]; exact hk
    have := List.all_eq_true.1 h k (List.mem_range.2 hk')
    rw [byteOf_eq s k hk'] at this
    exact this
  · intro h
    refine okAll_true fun k hk => ?_
    rw [byteOf_eq s k hk]
    have hk' : k < s.data.toList.length := by rw [← Lib.size_eq]; exact hk
    exact List.all_eq_true.1 h _ (List.getElem_mem hk')
end Go.Proofs.YtnbbhegcijogiaaDoor
