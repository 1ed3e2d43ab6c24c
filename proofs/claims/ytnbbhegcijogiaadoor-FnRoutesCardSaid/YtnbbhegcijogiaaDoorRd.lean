import Derived.Test.YtnbbhegcijogiaaDoorOff
import Derived.Laws.BytesString
namespace Go.Proofs.YtnbbhegcijogiaaDoor
open Go.ChangeShapes Go.WideShapes Go.ChangeAt Go.RowKit

/-- the bytes of a slice that can be read -/
def CodeAt (w : World) (cv : Value) (B : List UInt8) : Prop :=
  B.length ≤ 1048576 ∧ ((B = [] ∧ ∃ a c, cv = .slice a 0 c) ∨ ∃ g off cap, cv = .slice (some ⟨g, off, none⟩) B.length cap ∧ g < w.heap.size ∧ ∀ i (hi : i < B.length), w.cell? ⟨g, off + i, none⟩ = some (.int .u8 B[i].toNat))
/-- a reader in block b over such a slice, at place p; the slice lies elsewhere -/
def RdAt (w : World) (b : Nat) (cv : Value) (B : List UInt8) (p : Nat) : Prop :=
  w.cell? ⟨b, 0, none⟩ = some cv ∧ w.cell? ⟨b, 1, none⟩ = some (.int .i64 p) ∧ w.frozen? ⟨b, 1, none⟩ = false ∧ b < w.heap.size ∧ p ≤ B.length ∧ CodeAt w cv B ∧ ∀ a n c, cv = .slice (some a) n c → B ≠ [] → a.block ≠ b

set_option maxRecDepth 100000 in
theorem CodeAt.off {w w1 : World} {b : Nat} {cv : Value} {B : List UInt8} (h : CodeAt w cv B) (ho : Off b w w1) (hb : ∀ a n c, cv = .slice (some a) n c → B ≠ [] → a.block ≠ b) : CodeAt w1 cv B := by
  refine ⟨h.1, ?_⟩
  rcases h.2 with h0 | ⟨g, off, cap, hv, hg, hc⟩
  · exact .inl h0
  · by_cases hB : B = []
    · subst hB; exact .inl ⟨rfl, _, _, hv⟩
    · exact .inr ⟨g, off, cap, hv, Nat.lt_of_lt_of_le hg ho.size, fun i hi => (ho.cell hg (hb _ _ _ hv hB)).trans (hc i hi)⟩

/-- what is read next, and the place behind it -/
def nx (B : List UInt8) (p : Nat) : Nat := (B.getD p 0).toNat
def px (B : List UInt8) (p : Nat) : Nat := if p < B.length then p + 1 else p
set_option maxRecDepth 100000 in
theorem nx_lt (B : List UInt8) (p : Nat) : nx B p < 256 := UInt8.toNat_lt _
theorem px_le (B : List UInt8) (p : Nat) (h : p ≤ B.length) : px B p ≤ B.length := by unfold px; split <;> omega

set_option maxRecDepth 100000 in
/-- the reader has moved on, and all else is as it was -/
theorem RdAt.off {w w1 : World} {b : Nat} {cv : Value} {B : List UInt8} {p q : Nat} (h : RdAt w b cv B p) (ho : Off b w w1) (h0 : w1.cell? ⟨b, 0, none⟩ = some cv) (h1 : w1.cell? ⟨b, 1, none⟩ = some (.int .i64 q)) (hf : w1.frozen? ⟨b, 1, none⟩ = false) (hq : q ≤ B.length) : RdAt w1 b cv B q :=
  ⟨h0, h1, hf, Nat.lt_of_lt_of_le h.2.2.2.1 ho.size, hq, h.2.2.2.2.2.1.off ho h.2.2.2.2.2.2, h.2.2.2.2.2.2⟩
set_option maxRecDepth 100000 in
theorem RdAt.below {w w1 : World} {b B0 : Nat} {cv : Value} {B : List UInt8} {p : Nat} (h : RdAt w b cv B p) (hb : Below B0 w w1) (h0 : w.heap.size ≤ B0) : RdAt w1 b cv B p :=
  have hlt : b < B0 := Nat.lt_of_lt_of_le h.2.2.2.1 h0
  h.off (Off.of_below (hb.mono h0)) ((hb.cell (p := ⟨b, 0, none⟩) hlt).trans h.1) ((hb.cell (p := ⟨b, 1, none⟩) hlt).trans h.2.1) ((hb.frozen (p := ⟨b, 1, none⟩) hlt).trans h.2.2.1) h.2.2.2.2.1

set_option maxHeartbeats 1000000 in
set_option maxRecDepth 100000 in
theorem rdNext (b p : Nat) (cv : Value) (B : List UInt8) (w : World) (h : RdAt w b cv B p) :
    Calls Tryd.prog 16 #[.pointer (some ⟨b, 0, none⟩)] w fun e w' => e = .returned (.int .i64 (nx B p)) ∧ RdAt w' b cv B (px B p) ∧ Off b w w' := by
  have H : Hid (RdAt w b cv B p) := h
  obtain ⟨c0, c1, f1, hlt, hp, ⟨hB, hform⟩, _⟩ := h
  by_cases hin : p < B.length
  · obtain ⟨g, off, cap, hcv, hg, hc⟩ : ∃ g off cap, cv = .slice (some ⟨g, off, none⟩) B.length cap ∧ g < w.heap.size ∧ ∀ i (hi : i < B.length), w.cell? ⟨g, off + i, none⟩ = some (.int .u8 B[i].toNat) := by
      rcases hform with ⟨rfl, _⟩ | h
      · cases hin
      · exact h
    subst hcv
    have ec := hc p hin
    have HN : Hid (nx B p = B[p].toNat) := by show (B.getD p 0).toNat = _; rw [List.getD_eq_getElem?_getD, List.getElem?_eq_getElem hin]; rfl
    have HP : Hid (px B p = p + 1) := by show (if p < B.length then p + 1 else p) = _; rw [if_pos hin]
    have hby : B[p].toNat < 256 := UInt8.toNat_lt _
    generalize B[p].toNat = X at ec HN hby
    clear hform hc
    go_enter Tryd.func16, Tryd.ntmps16
    go_wp2
    go_quiet (fail)
    go_wp2
    go_quiet (fail)
    go_wp2
    go_ret
    refine ⟨ret_int (by rw [HN.out]), ?_, ?_⟩
    · rw [HP.out]
      refine H.out.off ?_ ?_ ?_ ?_ (by omega)
      · exact (((Off.refl b w).drewN _).setCell _)
      · show (w.setCell _ _).cell? _ = _
        rw [World.cell?_setCell_other _ _ _ _ (by intro e; injection e with _ e; cases e)]; exact c0
      · show (w.setCell _ _).cell? _ = _
        rw [World.cell?_setCell_same _ _ _ c1]; rfl
      · simpa using f1
    · exact (((Off.refl b w).drewN _).setCell _)
  · have HN : Hid (nx B p = 0) := by show (B.getD p 0).toNat = _; rw [List.getD_eq_getElem?_getD, List.getElem?_eq_none (by omega)]; rfl
    have HP : Hid (px B p = p) := by show (if p < B.length then p + 1 else p) = _; rw [if_neg hin]
    obtain ⟨a, c, rfl⟩ : ∃ a c, cv = .slice a B.length c := by
      rcases hform with ⟨rfl, a, c, rfl⟩ | ⟨g, off, cap, rfl, _⟩
      · exact ⟨_, _, rfl⟩
      · exact ⟨_, _, rfl⟩
    clear hform
    go_enter Tryd.func16, Tryd.ntmps16
    go_wp2
    go_quiet (fail)
    go_wp2
    go_ret
    refine ⟨ret_int (by rw [HN.out]; rfl), ?_, (Off.refl b w).drewN _⟩
    rw [HP.out]
    exact H.out
end Go.Proofs.YtnbbhegcijogiaaDoor
