import Derived.Test.YticfnfplpccmgadDoorFrAll
import Derived.Test.YticfnfplpccmgadDoorDisk
namespace Go.Proofs.YticfnfplpccmgadDoor
open Go.ChangeShapes Go.WideShapes Go.ChangeAt Go.RowKit

/-- the five stores of a disk into a block's cells -/
def set5 (w : World) (b : Nat) (m l : ByteArray) (h : Bool) (t x : ByteArray) : World :=
  ((((w.setCell ⟨b, 0, none⟩ (.string m)).setCell ⟨b, 1, none⟩ (.string l)).setCell ⟨b, 2, none⟩ (.bool h)).setCell ⟨b, 3, none⟩ (.string t)).setCell ⟨b, 4, none⟩ (.string x)

set_option maxRecDepth 100000 in
theorem diskAt_set {w : World} {b : Nat} {m l : ByteArray} {h : Bool} {t x : ByteArray} (d : DiskAt w b m l h t x) :
    (∀ y, DiskAt (w.setCell ⟨b, 0, none⟩ (.string y)) b y l h t x) ∧ (∀ y, DiskAt (w.setCell ⟨b, 1, none⟩ (.string y)) b m y h t x) ∧ (∀ y, DiskAt (w.setCell ⟨b, 2, none⟩ (.bool y)) b m l y t x) ∧ (∀ y, DiskAt (w.setCell ⟨b, 3, none⟩ (.string y)) b m l h y x) ∧ (∀ y, DiskAt (w.setCell ⟨b, 4, none⟩ (.string y)) b m l h t y) := by
  obtain ⟨c0, c1, c2, c3, c4⟩ := d
  have oth : ∀ (i j : Nat) (v : Value), i ≠ j → (w.setCell ⟨b, i, none⟩ v).cell? ⟨b, j, none⟩ = w.cell? ⟨b, j, none⟩ := fun i j v hij => World.cell?_setCell_other _ _ _ _ (by intro e; injection e with _ e; exact hij e)
  exact ⟨fun y => ⟨World.cell?_setCell_same _ _ _ c0, (oth 0 1 _ (by decide)).trans c1, (oth 0 2 _ (by decide)).trans c2, (oth 0 3 _ (by decide)).trans c3, (oth 0 4 _ (by decide)).trans c4⟩,
    fun y => ⟨(oth 1 0 _ (by decide)).trans c0, World.cell?_setCell_same _ _ _ c1, (oth 1 2 _ (by decide)).trans c2, (oth 1 3 _ (by decide)).trans c3, (oth 1 4 _ (by decide)).trans c4⟩,
    fun y => ⟨(oth 2 0 _ (by decide)).trans c0, (oth 2 1 _ (by decide)).trans c1, World.cell?_setCell_same _ _ _ c2, (oth 2 3 _ (by decide)).trans c3, (oth 2 4 _ (by decide)).trans c4⟩,
    fun y => ⟨(oth 3 0 _ (by decide)).trans c0, (oth 3 1 _ (by decide)).trans c1, (oth 3 2 _ (by decide)).trans c2, World.cell?_setCell_same _ _ _ c3, (oth 3 4 _ (by decide)).trans c4⟩,
    fun y => ⟨(oth 4 0 _ (by decide)).trans c0, (oth 4 1 _ (by decide)).trans c1, (oth 4 2 _ (by decide)).trans c2, (oth 4 3 _ (by decide)).trans c3, World.cell?_setCell_same _ _ _ c4⟩⟩

set_option maxRecDepth 100000 in
theorem diskAt_set5 {w : World} {b : Nat} {m l : ByteArray} {h : Bool} {t x : ByteArray} (d : DiskAt w b m l h t x) (m' l' : ByteArray) (h' : Bool) (t' x' : ByteArray) : DiskAt (set5 w b m' l' h' t' x') b m' l' h' t' x' :=
  (diskAt_set ((diskAt_set ((diskAt_set ((diskAt_set ((diskAt_set d).1 m')).2.1 l')).2.2.1 h')).2.2.2.1 t')).2.2.2.2 x'

set_option maxRecDepth 100000 in
theorem diskAt_far {w : World} {b c i : Nat} {v : Value} {m l : ByteArray} {h : Bool} {t x : ByteArray} (d : DiskAt w b m l h t x) (hc : c ≠ b) : DiskAt (w.setCell ⟨c, i, none⟩ v) b m l h t x := by
  have oth : ∀ j, (w.setCell ⟨c, i, none⟩ v).cell? ⟨b, j, none⟩ = w.cell? ⟨b, j, none⟩ := fun j => World.cell?_setCell_other _ _ _ _ (by intro e; injection e with e _; exact hc e)
  exact ⟨(oth 0).trans d.1, (oth 1).trans d.2.1, (oth 2).trans d.2.2.1, (oth 3).trans d.2.2.2.1, (oth 4).trans d.2.2.2.2⟩

/-- a disk of our own and, behind it, the one for the answer; both can be written -/
def TwoD (w : World) (b : Nat) (m l : ByteArray) (h : Bool) (t x : ByteArray) : Prop :=
  DiskAt w b m l h t x ∧ DiskAt w (b + 1) ⟨#[]⟩ ⟨#[]⟩ false ⟨#[]⟩ ⟨#[]⟩ ∧ (∀ o, w.frozen? ⟨b, o, none⟩ = false) ∧ (∀ o, w.frozen? ⟨b + 1, o, none⟩ = false) ∧ b + 1 < w.heap.size

set_option maxRecDepth 100000 in
theorem TwoD.below {w w1 : World} {b B : Nat} {m l : ByteArray} {h : Bool} {t x : ByteArray} (d : TwoD w b m l h t x) (hb : Below B w w1) (hlt : b + 1 < B) : TwoD w1 b m l h t x :=
  ⟨d.1.below hb (by omega), d.2.1.below hb hlt, fun o => (hb.frozen (p := ⟨b, o, none⟩) (by show b < B; omega)).trans (d.2.2.1 o), fun o => (hb.frozen (p := ⟨b + 1, o, none⟩) hlt).trans (d.2.2.2.1 o), Nat.lt_of_lt_of_le d.2.2.2.2 hb.size⟩
theorem TwoD.mk {w w1 : World} {b : Nat} {m l : ByteArray} {h : Bool} {t x : ByteArray} {m' l' : ByteArray} {h' : Bool} {t' x' : ByteArray} (d : TwoD w b m l h t x) (d1 : DiskAt w1 b m' l' h' t' x') (d2 : DiskAt w1 (b + 1) ⟨#[]⟩ ⟨#[]⟩ false ⟨#[]⟩ ⟨#[]⟩) (hf : ∀ a, w1.frozen? a = w.frozen? a) (hz : w1.heap.size = w.heap.size) : TwoD w1 b m' l' h' t' x' :=
  ⟨d1, d2, fun o => (hf _).trans (d.2.2.1 o), fun o => (hf _).trans (d.2.2.2.1 o), by rw [hz]; exact d.2.2.2.2⟩
end Go.Proofs.YticfnfplpccmgadDoor
