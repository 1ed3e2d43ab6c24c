import Derived.WalkKit
import Derived.ProofKit
import Derived.OpenShut
import Derived.OpenVars
import Derived.Deep.Fields
import Derived.Lib.SmallJoins
import Derived.Test.YtngcjlghjidnjaaGreatDoorRows
import Derived.WalkLawsBesides
import Derived.Deep.QuietTactic
import Derived.BigQuiet
import Derived.Deep.AppendLies
namespace Go.Proofs.YtngcjlghjidnjaaGreatDoor.LawBase
open Go.ChangeShapes Go.WideShapes Go.ChangeAt Go.RowKit Go.Deep Go.Joins

/-- each parameter's type can be read and is a row of the table: one closed fact -/
def rowed (P : Program) (ts : List TypeId) : Bool := ts.all fun t => P.readableRec t && decide (t < P.types.size)

theorem below_trodAll {H : Type} {enc : TypeId × Value → H} {P : Program} (hl : laidOutB P = true) {W W' : World} (hb : Below W.heap.size W W') :
    ∀ {ts : List TypeId} {vs : List Value} {ds : List (DataW H)} {ps : List MemPlace}, rowed P ts = true → DataW.TrodAll enc P W 0 (fun _ => true) true ts vs ds ps → DataW.TrodAll enc P W' 0 (fun b => decide (b < W.heap.size)) true ts vs ds ps := by
  intro ts
  induction ts with
  | nil =>
    intro vs ds ps _ h
    obtain ⟨rfl, rfl, rfl⟩ := trodAll_nil h
    exact trodAll_mk0
  | cons t ts ih =>
    intro vs ds ps hr h
    simp only [rowed, List.all_cons, Bool.and_eq_true, decide_eq_true_eq] at hr
    obtain ⟨v0, vs0, d0, ds0, p0, q0, rfl, rfl, rfl, h0, r0⟩ := trodAll_cons h
    have lt0 : ∀ x ∈ p0, x.block < W.heap.size := by obtain ⟨m, hm⟩ := h0; exact DataW.trod_lt m _ _ _ hm
    exact trodAll_cons_mk (Below.trod hl hr.1.1 hr.1.2 h0 hb lt0) (ih (by simpa [rowed] using hr.2) r0)

theorem lawPost {H : Type} {enc : TypeId × Value → H} {P : Program} {f : Func} {s : ChangeSpec} {W W' : World} {args : Array Value} {ds gs : List (DataW H)} {before : List MemPlace} (tb : TypeId)
    (hl : laidOutB P = true) (hp : rowed P f.params.toList = true) (hv : varsRowed P s.vars = true) (hr : f.resultTypes = #[tb]) (htb : P.underlying tb = some .bool)
    (hW : DataW.Whole enc P f.params.toList s.vars false W args.toList ds gs before) (hs : s.fn H (ds ++ gs) = { results := [.lit (.bool true)], args := ds, vars := gs }) (hb : Below W.heap.size W W') :
    s.post enc P f false true false false W args (.bool true) W' := by
  have hW' := hW
  obtain ⟨p, q, hA, hV, rfl, hfz, hnd⟩ := hW
  refine ⟨ds, gs, _, [], p, q, hW', ?_, ?_, ?_, hb.frame _, fun h => by cases h⟩
  · rw [hs, hr]; exact trodAll_mk1 (shut_bool htb _)
  · rw [hs]; exact below_trodAll hl hb hp hA
  · rw [hs]; exact Below.trodVars hl hb hv hV

theorem array5 {α : Type} {cs : Array α} (h : cs.size = 5) : ∃ c0 c1 c2 c3 c4, cs = #[c0, c1, c2, c3, c4] := by
  obtain ⟨l⟩ := cs
  match l, h with
  | [c0, c1, c2, c3, c4], _ => exact ⟨c0, c1, c2, c3, c4, rfl⟩

/-- a struct of five fields by value, each of one cell: written out -/
theorem open_agg5 {H : Type} {enc : TypeId × Value → H} {P : Program} {w : World} {base : Nat} {spare : Nat → Bool} {held : Bool} {r : Reach} {b0 : Nat} {t : TypeId} {f0 f1 f2 f3 f4 : Field} {v : Value} {d : DataW H} {p : List MemPlace}
    (hs : P.underlying t = some (.struct #[f0, f1, f2, f3, f4])) (hone : oneCellFields P #[f0, f1, f2, f3, f4] = true) (hC : P.cellsOf t = 5)
    (hv : Value.okWide P w r b0 t v) (h : DataW.Trod enc P w base spare held t v d p) :
    ∃ (v0 v1 v2 v3 v4 : Value) (y0 y1 y2 y3 y4 : DataW H × List MemPlace) (n : Nat), v = .agg #[v0, v1, v2, v3, v4] ∧ d = .agg [y0.1, y1.1, y2.1, y3.1, y4.1] ∧
      DataW.trod enc P w base spare held n f0.type [v0] = some y0 ∧ DataW.trod enc P w base spare held n f1.type [v1] = some y1 ∧ DataW.trod enc P w base spare held n f2.type [v2] = some y2 ∧ DataW.trod enc P w base spare held n f3.type [v3] = some y3 ∧ DataW.trod enc P w base spare held n f4.type [v4] = some y4 := by
  obtain ⟨cs, rfl, hsz⟩ := okWide_struct hs hv
  obtain ⟨c0, c1, c2, c3, c4, rfl⟩ := array5 (hsz.trans hC)
  obtain ⟨fuel, hf⟩ := h
  obtain ⟨xs, n, _, hx, hl, hlen, hf⟩ := DataW.trod_struct hs hf
  obtain ⟨o0, k0⟩ := hone_of hone 0 f0 rfl
  obtain ⟨o1, k1⟩ := hone_of hone 1 f1 rfl
  obtain ⟨o2, k2⟩ := hone_of hone 2 f2 rfl
  obtain ⟨o3, k3⟩ := hone_of hone 3 f3 rfl
  obtain ⟨o4, k4⟩ := hone_of hone 4 f4 rfl
  match xs, hlen with
  | [y0, y1, y2, y3, y4], _ =>
    have g0 := hf 0 f0 rfl
    have g1 := hf 1 f1 rfl
    have g2 := hf 2 f2 rfl
    have g3 := hf 3 f3 rfl
    have g4 := hf 4 f4 rfl
    simp only [Prod.mk.injEq] at hx
    exact ⟨c0, c1, c2, c3, c4, y0, y1, y2, y3, y4, n, rfl, by simpa using hx.1, by simpa [Value.cells, o0, k0] using g0, by simpa [Value.cells, o1, k1] using g1, by simpa [Value.cells, o2, k2] using g2, by simpa [Value.cells, o3, k3] using g3, by simpa [Value.cells, o4, k4] using g4⟩
end Go.Proofs.YtngcjlghjidnjaaGreatDoor.LawBase
namespace Go.Proofs.YtngcjlghjidnjaaGreatDoor
theorem own : ownKnob Tryz.prog.godebug = none := by kernel_rfl
theorem laidOut : laidOutB Tryz.prog = true := by kernel_rfl
open Go.RowKit
theorem below1 (w : World) (o1 : Obj) : Below w.heap.size w (w.alloc o1) := Go.Joins.below_alloc1 w o1
theorem below2 (w : World) (o1 o2 : Obj) : Below w.heap.size w ((w.alloc o1).alloc o2) := Go.Joins.below_alloc2 w o1 o2
theorem below3 (w : World) (o1 o2 o3 : Obj) : Below w.heap.size w (((w.alloc o1).alloc o2).alloc o3) := Go.Joins.below_alloc3 w o1 o2 o3
/-- what lay below stands as it stood: two rules for the walk -/
theorem bcell {W w1 : World} (hb : Below W.heap.size W w1) : (∀ b o, b < W.heap.size → w1.cell? ⟨b, o, none⟩ = W.cell? ⟨b, o, none⟩) ∧ (∀ b o, b < W.heap.size → w1.frozen? ⟨b, o, none⟩ = W.frozen? ⟨b, o, none⟩) :=
  ⟨fun b o h => hb.cell (p := ⟨b, o, none⟩) h, fun b o h => hb.frozen (p := ⟨b, o, none⟩) h⟩
theorem int_eq {k : IntKind} {a b : Int} (h : a = b) : Value.int k a = Value.int k b := by rw [h]
theorem ret_int {k : IntKind} {a b : Int} (h : a = b) : Ending.returned (.int k a) = .returned (.int k b) := by rw [h]
theorem ret_str {a b : ByteArray} (h : a = b) : Ending.returned (.string a) = .returned (.string b) := by rw [h]
theorem of_drew {B : Nat} {a b : World} (h : Below B a.drew b) : Below B a b := ⟨h.os, h.tape, h.output, h.size, h.block⟩
end Go.Proofs.YtngcjlghjidnjaaGreatDoor
namespace Go.Proofs.YtngcjlghjidnjaaGreatDoor
open Go.ChangeShapes Go.WideShapes Go.ChangeAt Go.RowKit

/-- a slice of strings of the call's own, in a block from lo on, that holds L -/
def Strs (w : World) (lo : Nat) (v : Value) (L : List ByteArray) : Prop := w.ownsRow lo 9 1 v L.length (L.map Value.string)

/-- what such a slice is: no element; or the cells of a block -/
structure StrsAt (w : World) (lo g cap : Nat) (L : List ByteArray) : Prop where
  lo : lo ≤ g
  lt : g < w.heap.size
  len : L.length ≤ cap
  cap : cap ≤ maxLen
  cell : ∀ i (hi : i < L.length), w.cell? ⟨g, i, none⟩ = some (.string L[i])
  free : ∀ o, w.frozen? ⟨g, o, none⟩ = false

theorem Strs.cases {w : World} {lo : Nat} {v : Value} {L : List ByteArray} (h : Strs w lo v L) :
    (v = .slice none 0 0 ∧ L = []) ∨ ∃ g cap, v = .slice (some ⟨g, 0, none⟩) L.length cap ∧ StrsAt w lo g cap L := by
  rcases h.2 with ⟨hv, h0⟩ | ⟨g, cap, cur, hv, hb, hg, hn, hc, hs, ht⟩
  · exact .inl ⟨hv, List.eq_nil_of_length_eq_zero h0⟩
  · refine .inr ⟨g, cap, hv, hb, ?_, hn, hc, ?_, ?_⟩
    · exact (Array.getElem?_eq_some_iff.1 hg).1
    · intro i hi
      have e : cur[i]? = some (Value.string L[i]) := by
        have h1 : (cur.toList.take (L.length * 1))[i]? = (L.map Value.string)[i]? := by rw [ht]
        rw [List.getElem?_take_of_lt (by omega), List.getElem?_map, List.getElem?_eq_getElem hi] at h1
        simpa using h1
      simp [World.cell?, hg, e]
    · intro o; simp [World.frozen?, hg]

theorem strs_below {w w' : World} {lo : Nat} {v : Value} {L : List ByteArray} (h : Strs w lo v L) {B : Nat} (hb : Below B w w') (hB : w.heap.size ≤ B) : Strs w' lo v L := by
  refine ⟨h.1, ?_⟩
  rcases h.2 with h0 | ⟨g, cap, cur, hv, hl, hg, rest⟩
  · exact .inl h0
  · refine .inr ⟨g, cap, cur, hv, hl, ?_, rest⟩
    rw [hb.block g (Nat.lt_of_lt_of_le (Array.getElem?_eq_some_iff.1 hg).1 hB)]; exact hg

/-- where what is written lies from hi on, and the slice below it -/
theorem strs_below_at {w w' : World} {lo hi : Nat} {v : Value} {L : List ByteArray} (h : Strs w lo v L) (hb : Below hi w w') (hlt : ∀ g, v.ownBlock = some g → g < hi) : Strs w' lo v L := by
  refine ⟨h.1, ?_⟩
  rcases h.2 with h0 | ⟨g, cap, cur, hv, hl, hg, rest⟩
  · exact .inl h0
  · refine .inr ⟨g, cap, cur, hv, hl, ?_, rest⟩
    rw [hb.block g (hlt g (by rw [hv]; rfl))]; exact hg
theorem strs_own {w : World} {lo : Nat} {v : Value} {L : List ByteArray} (h : Strs w lo v L) : ∀ g, v.ownBlock = some g → g < w.heap.size := by
  intro g hg
  rcases h.cases with ⟨rfl, _⟩ | ⟨g', cap, rfl, hs⟩
  · simp [Value.ownBlock] at hg
  · simp only [Value.ownBlock, Option.some.injEq] at hg
    subst hg; exact hs.lt


theorem Strs.at {w : World} {lo g n cap : Nat} {L : List ByteArray} (h : Strs w lo (.slice (some ⟨g, 0, none⟩) n cap) L) : StrsAt w lo g cap L ∧ n = L.length := by
  rcases h.cases with ⟨hv, _⟩ | ⟨g', cap', hv, hs⟩
  · cases hv
  · injection hv with h1 h2 h3
    injection h1 with h1
    injection h1 with h1
    subst h1 h2 h3
    exact ⟨hs, rfl⟩

theorem strs_set {w : World} {lo g n cap i : Nat} {L : List ByteArray} (h : Strs w lo (.slice (some ⟨g, 0, none⟩) n cap) L) (X : ByteArray) :
    Strs (w.setCell ⟨g, i, none⟩ (.string X)) lo (.slice (some ⟨g, 0, none⟩) n cap) (L.set i X) := by
  refine ⟨by simp, ?_⟩
  rcases h.2 with ⟨hv, _⟩ | ⟨g', cap', cur, hv, hl, hg, hn, hc, hs, ht⟩
  · cases hv
  · injection hv with h1 h2 h3
    injection h1 with h1
    injection h1 with h1
    subst h1 h2 h3
    refine .inr ⟨g, cap, cur.setIfInBounds i (.string X), by simp, hl, Go.Joins.block_setCell hg _, by simpa using hn, hc, by simpa using hs, ?_⟩
    rw [List.map_set, ← ht]
    simp [List.take_set]

theorem strs_lo {w : World} {lo : Nat} {v : Value} {L : List ByteArray} (h : Strs w lo v L) : ∀ g, v.ownBlock = some g → lo ≤ g := by
  intro g hg
  rcases h.cases with ⟨rfl, _⟩ | ⟨g', cap, rfl, hs⟩
  · simp [Value.ownBlock] at hg
  · simp only [Value.ownBlock, Option.some.injEq] at hg
    subst hg; exact hs.lo
theorem strs_setCell {w : World} {lo : Nat} {v : Value} {L : List ByteArray} (h : Strs w lo v L) {a : Addr} (ha : a.block < lo) (u : Value) : Strs (w.setCell a u) lo v L := ownsRow_setCell_below h ha u
theorem strs_le {w : World} {lo lo' : Nat} {v : Value} {L : List ByteArray} (h : Strs w lo v L) (hl : lo' ≤ lo) : Strs w lo' v L := Go.Joins.ownsRow_le h hl
theorem strs_snoc {w : World} {lo : Nat} {v : Value} {L : List ByteArray} {p : ByteArray} (h : w.ownsRow lo 9 1 v (L.length + 1) (L.map Value.string ++ [.string p])) : Strs w lo v (L ++ [p]) := by
  unfold Strs; simpa using h
theorem infoStr : (Tryz.prog.info? 9).map (fun i => (i.zero, i.size, i.bytes)) = some (some (.string ⟨#[]⟩), 1, 16) := by kernel_rfl
end Go.Proofs.YtngcjlghjidnjaaGreatDoor
namespace Go.Proofs.YtngcjlghjidnjaaGreatDoor
open Go.ChangeShapes Go.WideShapes Go.ChangeAt Go.RowKit

/-- all that was there but block b is as it was -/
structure Off (b : Nat) (w w' : World) : Prop where
  os : w'.os = w.os
  tape : w'.tape = w.tape
  output : w'.output = w.output
  size : w.heap.size ≤ w'.heap.size
  block : ∀ k, k < w.heap.size → k ≠ b → w'.heap[k]? = w.heap[k]?
set_option maxRecDepth 100000 in
theorem Off.refl (b : Nat) (w : World) : Off b w w := ⟨rfl, rfl, rfl, Nat.le_refl _, fun _ _ _ => rfl⟩
theorem Off.trans {b : Nat} {w w1 w2 : World} (h : Off b w w1) (k : Off b w1 w2) : Off b w w2 :=
  ⟨k.os.trans h.os, k.tape.trans h.tape, k.output.trans h.output, Nat.le_trans h.size k.size, fun i hi hb => (k.block i (Nat.lt_of_lt_of_le hi h.size) hb).trans (h.block i hi hb)⟩
set_option maxRecDepth 100000 in
theorem Off.of_below {b : Nat} {w w1 : World} (h : Below w.heap.size w w1) : Off b w w1 := ⟨h.os, h.tape, h.output, h.size, fun k hk _ => h.block k hk⟩
theorem Off.below {b : Nat} {w w1 : World} (h : Off b w w1) (hb : b ≤ w.heap.size) : Below b w w1 := ⟨h.os, h.tape, h.output, h.size, fun k hk => h.block k (by omega) (by omega)⟩
theorem Off.setCell {b i : Nat} {w w1 : World} (h : Off b w w1) (v : Value) : Off b w (w1.setCell ⟨b, i, none⟩ v) :=
  ⟨h.os, h.tape, h.output, by simpa using h.size, fun k hk hb => (Below.heap_setCell w1 ⟨b, i, none⟩ v k hb).trans (h.block k hk hb)⟩
set_option maxRecDepth 100000 in
theorem Off.drewN {b : Nat} {w w1 : World} (h : Off b w w1) (n : Nat) : Off b w (w1.drewN n) := ⟨h.os, h.tape, h.output, h.size, h.block⟩
theorem Off.cell {b k i : Nat} {w w1 : World} (h : Off b w w1) (hk : k < w.heap.size) (hb : k ≠ b) : w1.cell? ⟨k, i, none⟩ = w.cell? ⟨k, i, none⟩ := World.cell?_of_block (w := w) (h.block k hk hb)
theorem Off.frozen {b k i : Nat} {w w1 : World} (h : Off b w w1) (hk : k < w.heap.size) (hb : k ≠ b) : w1.frozen? ⟨k, i, none⟩ = w.frozen? ⟨k, i, none⟩ := World.frozen?_of_block (w := w) (h.block k hk hb)
theorem Off.belowAt {b N : Nat} {w w1 : World} (h : Off b w w1) (hN : N ≤ b) (hs : N ≤ w.heap.size) : Below N w w1 := ⟨h.os, h.tape, h.output, h.size, fun k hk => h.block k (by omega) (by omega)⟩
theorem strs_off_ne {w w1 : World} {lo b : Nat} {v : Value} {L : List ByteArray} (h : Strs w lo v L) (ho : Off b w w1) (hb : ∀ g, v.ownBlock = some g → g ≠ b) : Strs w1 lo v L := by
  refine ⟨h.1, ?_⟩
  rcases h.2 with h0 | ⟨g, cap, cur, hv, hl, hg, rest⟩
  · exact .inl h0
  · refine .inr ⟨g, cap, cur, hv, hl, ?_, rest⟩
    rw [ho.block g (Array.getElem?_eq_some_iff.1 hg).1 (hb g (by rw [hv]; rfl))]; exact hg
/-- where a block of one's own alone was written to, if there is one -/
def OffV (v : Value) (w w1 : World) : Prop := (∃ b, v.ownBlock = some b ∧ Off b w w1) ∨ Below w.heap.size w w1
theorem OffV.cell {v : Value} {w w1 : World} {k i : Nat} (h : OffV v w w1) (hk : k < w.heap.size) (hne : ∀ b, v.ownBlock = some b → k ≠ b) : w1.cell? ⟨k, i, none⟩ = w.cell? ⟨k, i, none⟩ := by
  rcases h with ⟨b, hb, ho⟩ | h
  · exact ho.cell hk (hne b hb)
  · exact h.cell (p := ⟨k, i, none⟩) hk
theorem OffV.frozen {v : Value} {w w1 : World} {k i : Nat} (h : OffV v w w1) (hk : k < w.heap.size) (hne : ∀ b, v.ownBlock = some b → k ≠ b) : w1.frozen? ⟨k, i, none⟩ = w.frozen? ⟨k, i, none⟩ := by
  rcases h with ⟨b, hb, ho⟩ | h
  · exact ho.frozen hk (hne b hb)
  · exact h.frozen (p := ⟨k, i, none⟩) hk
theorem OffV.strs {v u : Value} {w w1 : World} {lo : Nat} {L : List ByteArray} (h : OffV v w w1) (hs : Strs w lo u L) (hne : ∀ g b, u.ownBlock = some g → v.ownBlock = some b → g ≠ b) : Strs w1 lo u L := by
  rcases h with ⟨b, hb, ho⟩ | h
  · exact strs_off_ne hs ho fun g hg => hne g b hg hb
  · exact strs_below hs h (Nat.le_refl _)
theorem OffV.below {v : Value} {w w1 : World} {N : Nat} (h : OffV v w w1) (hN : ∀ b, v.ownBlock = some b → N ≤ b) (hs : N ≤ w.heap.size) : Below N w w1 := by
  rcases h with ⟨b, hb, ho⟩ | h
  · exact ho.belowAt (hN b hb) hs
  · exact h.mono hs
theorem OffV.size {v : Value} {w w1 : World} (h : OffV v w w1) : w.heap.size ≤ w1.heap.size := by
  rcases h with ⟨b, hb, ho⟩ | h
  · exact ho.size
  · exact h.size
theorem OffV.after {v : Value} {w w1 w2 : World} (h : OffV v w1 w2) (hb : Below w.heap.size w w1) : OffV v w w2 := by
  rcases h with ⟨b, hv, ho⟩ | h
  · exact .inl ⟨b, hv, (Off.of_below hb).trans ho⟩
  · exact .inr (hb.trans (h.mono hb.size))
end Go.Proofs.YtngcjlghjidnjaaGreatDoor
