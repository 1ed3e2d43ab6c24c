import Derived.Test.YtngcjlghjidnjaaGreatDoorMg18
import Derived.Laws.BytesString
import Derived.Test.YtngcjlghjidnjaaGreatDoorMg12
import Derived.Deep.AppendLies
import Derived.Laws.MakeOwn
namespace Go.Proofs.YtngcjlghjidnjaaGreatDoor
open Go.ChangeShapes Go.WideShapes Go.ChangeAt Go.RowKit

/-- the bytes of a slice that can be read -/
def CodeAt (w : World) (cv : Value) (B : List UInt8) : Prop :=
  B.length ≤ 1048576 ∧ ((B = [] ∧ ∃ a c, cv = .slice a 0 c) ∨ ∃ g off cap, cv = .slice (some ⟨g, off, none⟩) B.length cap ∧ g < w.heap.size ∧ ∀ i (hi : i < B.length), w.cell? ⟨g, off + i, none⟩ = some (.int .u8 B[i].toNat))
/-- a reader in block b over such a slice, at place p; the slice lies elsewhere -/
def RdAt (w : World) (b : Nat) (cv : Value) (B : List UInt8) (p : Nat) : Prop :=
  w.cell? ⟨b, 0, none⟩ = some cv ∧ w.cell? ⟨b, 1, none⟩ = some (.int .i64 p) ∧ w.frozen? ⟨b, 1, none⟩ = false ∧ b < w.heap.size ∧ p ≤ B.length ∧ CodeAt w cv B ∧ ∀ a n c, cv = .slice (some a) n c → B ≠ [] → a.block ≠ b

set_option maxRecDepth 100000 in
theorem CodeAt.off {w w1 : World} {b : Nat} {cv : Value} {B : List UInt8} (h : CodeAt w cv B) (ho : Off b w w1) (hb : ∀ a n c, cv = .slice (some a) n c → B ≠ [] → a.block ≠ b) : CodeAt w1 cv B := by
  refine ⟨h.1, ?_⟩
  rcases h.2 with h0 | ⟨g, off, cap, hv, hg, hc⟩
  · exact .inl h0
  · by_cases hB : B = []
    · subst hB; exact .inl ⟨rfl, _, _, hv⟩
    · exact .inr ⟨g, off, cap, hv, Nat.lt_of_lt_of_le hg ho.size, fun i hi => (ho.cell hg (hb _ _ _ hv hB)).trans (hc i hi)⟩

/-- what is read next, and the place behind it -/
def nx (B : List UInt8) (p : Nat) : Nat := (B.getD p 0).toNat
def px (B : List UInt8) (p : Nat) : Nat := if p < B.length then p + 1 else p
set_option maxRecDepth 100000 in
theorem nx_lt (B : List UInt8) (p : Nat) : nx B p < 256 := UInt8.toNat_lt _
theorem px_le (B : List UInt8) (p : Nat) (h : p ≤ B.length) : px B p ≤ B.length := by unfold px; split <;> omega

set_option maxRecDepth 100000 in
/-- the reader has moved on, and all else is as it was -/
theorem RdAt.off {w w1 : World} {b : Nat} {cv : Value} {B : List UInt8} {p q : Nat} (h : RdAt w b cv B p) (ho : Off b w w1) (h0 : w1.cell? ⟨b, 0, none⟩ = some cv) (h1 : w1.cell? ⟨b, 1, none⟩ = some (.int .i64 q)) (hf : w1.frozen? ⟨b, 1, none⟩ = false) (hq : q ≤ B.length) : RdAt w1 b cv B q :=
  ⟨h0, h1, hf, Nat.lt_of_lt_of_le h.2.2.2.1 ho.size, hq, h.2.2.2.2.2.1.off ho h.2.2.2.2.2.2, h.2.2.2.2.2.2⟩
set_option maxRecDepth 100000 in
theorem RdAt.below {w w1 : World} {b B0 : Nat} {cv : Value} {B : List UInt8} {p : Nat} (h : RdAt w b cv B p) (hb : Below B0 w w1) (h0 : w.heap.size ≤ B0) : RdAt w1 b cv B p :=
  have hlt : b < B0 := Nat.lt_of_lt_of_le h.2.2.2.1 h0
  h.off (Off.of_below (hb.mono h0)) ((hb.cell (p := ⟨b, 0, none⟩) hlt).trans h.1) ((hb.cell (p := ⟨b, 1, none⟩) hlt).trans h.2.1) ((hb.frozen (p := ⟨b, 1, none⟩) hlt).trans h.2.2.1) h.2.2.2.2.1

set_option maxHeartbeats 1000000 in
set_option maxRecDepth 100000 in
theorem rdNext (b p : Nat) (cv : Value) (B : List UInt8) (w : World) (h : RdAt w b cv B p) :
    Calls Tryz.prog 24 #[.pointer (some ⟨b, 0, none⟩)] w fun e w' => e = .returned (.int .i64 (nx B p)) ∧ RdAt w' b cv B (px B p) ∧ Off b w w' := by
  have H : Hid (RdAt w b cv B p) := h
  obtain ⟨c0, c1, f1, hlt, hp, ⟨hB, hform⟩, _⟩ := h
  by_cases hin : p < B.length
  · obtain ⟨g, off, cap, hcv, hg, hc⟩ : ∃ g off cap, cv = .slice (some ⟨g, off, none⟩) B.length cap ∧ g < w.heap.size ∧ ∀ i (hi : i < B.length), w.cell? ⟨g, off + i, none⟩ = some (.int .u8 B[i].toNat) := by
      rcases hform with ⟨rfl, _⟩ | h
      · cases hin
      · exact h
    subst hcv
    have ec := hc p hin
    have HN : Hid (nx B p = B[p].toNat) := by show (B.getD p 0).toNat = _; rw [List.getD_eq_getElem?_getD, List.getElem?_eq_getElem hin]; rfl
    have HP : Hid (px B p = p + 1) := by show (if p < B.length then p + 1 else p) = _; rw [if_pos hin]
    have hby : B[p].toNat < 256 := UInt8.toNat_lt _
    generalize B[p].toNat = X at ec HN hby
    clear hform hc
    go_enter Tryz.func24, Tryz.ntmps24
    go_wp2
    go_quiet (fail)
    go_wp2
    go_quiet (fail)
    go_wp2
    go_ret
    refine ⟨ret_int (by rw [HN.out]), ?_, ?_⟩
    · rw [HP.out]
      refine H.out.off ?_ ?_ ?_ ?_ (by omega)
      · exact (((Off.refl b w).drewN _).setCell _)
      · show (w.setCell _ _).cell? _ = _
        rw [World.cell?_setCell_other _ _ _ _ (by intro e; injection e with _ e; cases e)]; exact c0
      · show (w.setCell _ _).cell? _ = _
        rw [World.cell?_setCell_same _ _ _ c1]; rfl
      · simpa using f1
    · exact (((Off.refl b w).drewN _).setCell _)
  · have HN : Hid (nx B p = 0) := by show (B.getD p 0).toNat = _; rw [List.getD_eq_getElem?_getD, List.getElem?_eq_none (by omega)]; rfl
    have HP : Hid (px B p = p) := by show (if p < B.length then p + 1 else p) = _; rw [if_neg hin]
    obtain ⟨a, c, rfl⟩ : ∃ a c, cv = .slice a B.length c := by
      rcases hform with ⟨rfl, a, c, rfl⟩ | ⟨g, off, cap, rfl, _⟩
      · exact ⟨_, _, rfl⟩
      · exact ⟨_, _, rfl⟩
    clear hform
    go_enter Tryz.func24, Tryz.ntmps24
    go_wp2
    go_quiet (fail)
    go_wp2
    go_ret
    refine ⟨ret_int (by rw [HN.out]; rfl), ?_, (Off.refl b w).drewN _⟩
    rw [HP.out]
    exact H.out
end Go.Proofs.YtngcjlghjidnjaaGreatDoor
namespace Go.Proofs.YtngcjlghjidnjaaGreatDoor
open Go.ChangeShapes Go.WideShapes Go.ChangeAt Go.RowKit

set_option maxRecDepth 100000 in
/-- a row of bytes of our own as a text -/
theorem run_row_str {w : World} {lo : Nat} {v : Value} {ns : List Int} (h : w.ownsRow lo 5 1 v ns.length (ns.map (Value.int .u8))) :
    (convert 22 9 v).run Tryz.prog w = .ok (.string (ofInts ns)) w := by
  rcases h.2 with ⟨rfl, h0⟩ | ⟨g, cap, cur, rfl, _, hg, hn, _, hs, ht⟩
  · have : ns = [] := List.eq_nil_of_length_eq_zero h0
    subst this
    rw [run_convert_bytes_string _ 22 9 5 _ _ _ Tryz.underlying22 Tryz.underlying5 Tryz.underlying9]
    rfl
  · rw [run_convert_bytes_string _ 22 9 5 _ _ _ Tryz.underlying22 Tryz.underlying5 Tryz.underlying9]
    refine run_bytesToString _ _ _ _ _ ?_
    have e := run_loadCells_list (P := Tryz.prog) w ⟨g, 0, none⟩ (ns.map (Value.int .u8)) ?_
    · rwa [List.length_map] at e
    · intro j u hj
      have ea : (⟨g, 0, none⟩ : Addr).add j = ⟨g, j, none⟩ := by simp [Addr.add]; omega
      rw [ea]
      have hjl : j < ns.length := by
        have := (List.getElem?_eq_some_iff.1 hj).1
        simpa using this
      have h1 : (cur.toList.take (ns.length * 1))[j]? = some u := by rw [ht]; exact hj
      rw [List.getElem?_take_of_lt (by omega)] at h1
      have h2 : cur[j]? = some u := by simpa using h1
      simp [World.cell?, hg, h2]

set_option maxRecDepth 100000 in
theorem infoU8 : (Tryz.prog.info? 5).map (fun i => (i.zero, i.size, i.bytes)) = some (some (.int .u8 0), 1, 1) := by kernel_rfl

theorem RdAt.carry {w w2 w3 : World} {b p q : Nat} {cv : Value} {B : List UInt8} (h : RdAt w b cv B p) (h2 : RdAt w2 b cv B q) (hb : Below w.heap.size w2 w3) : RdAt w3 b cv B q := by
  obtain ⟨_, _, _, hlt, _, ⟨hB, hf⟩, _⟩ := h
  obtain ⟨c0, c1, f1, _, hq, ⟨_, hf2⟩, hne⟩ := h2
  refine ⟨(hb.cell (p := ⟨b, 0, none⟩) hlt).trans c0, (hb.cell (p := ⟨b, 1, none⟩) hlt).trans c1, (hb.frozen (p := ⟨b, 1, none⟩) hlt).trans f1, ?_, hq, ⟨hB, ?_⟩, hne⟩
  · have := hb.size; omega
  · rcases hf2 with h0 | ⟨g, off, cap, hv, hg, hc⟩
    · exact .inl h0
    · rcases hf with ⟨h1, _⟩ | ⟨g', off', cap', hv', hg', _⟩
      · subst h1; exact .inl ⟨rfl, _, _, hv⟩
      · have e : g = g' := by
          rw [hv] at hv'
          injection hv' with h1
          injection h1 with h1
          injection h1 with h1
        subst e
        exact .inr ⟨g, off, cap, hv, by have := hb.size; omega, fun i hi => (hb.cell (p := ⟨g, off + i, none⟩) hg').trans (hc i hi)⟩
set_option maxRecDepth 100000 in
theorem Off.carry {b N : Nat} {w w2 w3 : World} (h : Off b w w2) (hb : Below N w2 w3) (hN : w.heap.size ≤ N) : Off b w w3 :=
  ⟨hb.os.trans h.os, hb.tape.trans h.tape, hb.output.trans h.output, Nat.le_trans h.size hb.size, fun k hk hne => (hb.block k (by omega)).trans (h.block k hk hne)⟩

set_option maxRecDepth 100000 in
theorem rd_new (w : World) (cv : Value) (B : List UInt8) (h : CodeAt w cv B) : RdAt (w.alloc (.cells #[cv, .int .i64 0] 58)) w.heap.size cv B 0 := by
  refine ⟨by rw [World.cell?_alloc_mark]; rfl, by rw [World.cell?_alloc_mark]; rfl, World.frozen?_alloc_at _ _ _ _ rfl, by simp, Nat.zero_le _, h.off (b := w.heap.size) (Off.of_below (below1 w _)) ?_, ?_⟩
  all_goals
    intro a n c hv hB
    rcases h.2 with ⟨h0, _⟩ | ⟨g, off, cap, hv2, hg, _⟩
    · exact absurd h0 hB
    · rw [hv] at hv2
      injection hv2 with h1
      injection h1 with h1
      subst h1
      exact Nat.ne_of_lt hg
set_option maxRecDepth 100000 in
theorem CodeAt.below {w w1 : World} {cv : Value} {B : List UInt8} (h : CodeAt w cv B) (hb : Below w.heap.size w w1) : CodeAt w1 cv B := by
  refine ⟨h.1, ?_⟩
  rcases h.2 with h0 | ⟨g, off, cap, hv, hg, hc⟩
  · exact .inl h0
  · exact .inr ⟨g, off, cap, hv, Nat.lt_of_lt_of_le hg hb.size, fun i hi => (hb.cell (p := ⟨g, off + i, none⟩) hg).trans (hc i hi)⟩
set_option maxRecDepth 100000 in
theorem CodeAt.form {w : World} {cv : Value} {B : List UInt8} (h : CodeAt w cv B) : ∃ a c, cv = .slice a B.length c := by
  rcases h.2 with ⟨rfl, a, c, rfl⟩ | ⟨g, off, cap, rfl, _⟩
  · exact ⟨_, _, rfl⟩
  · exact ⟨_, _, rfl⟩
end Go.Proofs.YtngcjlghjidnjaaGreatDoor
namespace Go.Proofs.YtngcjlghjidnjaaGreatDoor
open Go.ChangeShapes Go.WideShapes Go.ChangeAt Go.RowKit

theorem bel_drewN {B : Nat} {w wr : World} (h : Below B w wr) (n : Nat) : Below B w (wr.drewN n) := ⟨h.os, h.tape, h.output, h.size, h.block⟩
/-- one of some texts, none of them long -/
theorem pickV (L : List ByteArray) (n : Nat) (hn : ∀ x ∈ L, x.size ≤ n) (k : Nat) (hk : k < L.length) : ∃ x : ByteArray, x.size ≤ n ∧ ∀ h, (L.map Value.string)[k]'h = .string x :=
  ⟨L[k], hn _ (List.getElem_mem hk), fun h => by simp⟩
end Go.Proofs.YtngcjlghjidnjaaGreatDoor
