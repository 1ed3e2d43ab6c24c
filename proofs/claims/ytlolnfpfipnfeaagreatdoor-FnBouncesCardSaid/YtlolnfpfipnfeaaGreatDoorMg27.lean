import Derived.Test.YtlolnfpfipnfeaaGreatDoorMg2
import Derived.Test.YtlolnfpfipnfeaaGreatDoorMg24
import Derived.WalkKit
import Derived.ProofKit
import Derived.WalkLawsBesides
import Derived.Deep.QuietTactic
import Derived.BigQuiet
import Derived.Deep.AppendLies
import Derived.Deep.RegionWith
import Derived.Deep.DrawnRows
namespace Go.Proofs.YtlolnfpfipnfeaaGreatDoor
open Go.ChangeShapes Go.WideShapes Go.ChangeAt Go.RowKit

/-- all that was there but the own blocks of some slices is as it was -/
def OffL (vs : List Value) (w w1 : World) : Prop := w1.os = w.os ∧ w1.tape = w.tape ∧ w1.output = w.output ∧ w.heap.size ≤ w1.heap.size ∧ ∀ k, k < w.heap.size → (∀ v ∈ vs, v.ownBlock ≠ some k) → w1.heap[k]? = w.heap[k]?
theorem OffL.of_below {vs : List Value} {w w1 : World} (h : Below w.heap.size w w1) : OffL vs w w1 := ⟨h.os, h.tape, h.output, h.size, fun k hk _ => h.block k hk⟩
theorem OffL.ofV {vs : List Value} {v : Value} {w w1 : World} (h : OffV v w w1) (hv : v ∈ vs) : OffL vs w w1 := by
  rcases h with ⟨b, hb, ho⟩ | h
  · exact ⟨ho.os, ho.tape, ho.output, ho.size, fun k hk hne => ho.block k hk (fun e => hne v hv (by rw [hb, e]))⟩
  · exact OffL.of_below h
theorem OffL.ofGrown {vs : List Value} {v : Value} {w w1 : World} (h : w.grownBy w1 v.ownBlock) (hv : v ∈ vs) : OffL vs w w1 :=
  ⟨h.os, h.tape, h.output, h.size, fun k hk hne => h.block k hk (fun e => hne v hv e.symm)⟩
theorem OffL.trans {vs : List Value} {w w1 w2 : World} (h : OffL vs w w1) (k : OffL vs w1 w2) : OffL vs w w2 :=
  ⟨k.1.trans h.1, k.2.1.trans h.2.1, k.2.2.1.trans h.2.2.1, Nat.le_trans h.2.2.2.1 k.2.2.2.1, fun i hi hb => (k.2.2.2.2 i (Nat.lt_of_lt_of_le hi h.2.2.2.1) hb).trans (h.2.2.2.2 i hi hb)⟩
theorem OffL.size {vs : List Value} {w w1 : World} (h : OffL vs w w1) : w.heap.size ≤ w1.heap.size := h.2.2.2.1
theorem OffL.cell {vs : List Value} {w w1 : World} {k i : Nat} (h : OffL vs w w1) (hk : k < w.heap.size) (hne : ∀ v ∈ vs, v.ownBlock ≠ some k) : w1.cell? ⟨k, i, none⟩ = w.cell? ⟨k, i, none⟩ := World.cell?_of_block (w := w) (h.2.2.2.2 k hk hne)
theorem OffL.frozen {vs : List Value} {w w1 : World} {k i : Nat} (h : OffL vs w w1) (hk : k < w.heap.size) (hne : ∀ v ∈ vs, v.ownBlock ≠ some k) : w1.frozen? ⟨k, i, none⟩ = w.frozen? ⟨k, i, none⟩ := World.frozen?_of_block (w := w) (h.2.2.2.2 k hk hne)
theorem OffL.row {vs : List Value} {w w1 : World} {lo sz n : Nat} {T : TypeId} {u : Value} {xs : List Value} (h : OffL vs w w1) (hs : w.ownsRow lo T sz u n xs) (hne : ∀ g, u.ownBlock = some g → ∀ v ∈ vs, v.ownBlock ≠ some g) : w1.ownsRow lo T sz u n xs := by
  refine ⟨hs.1, ?_⟩
  rcases hs.2 with h0 | ⟨g, cap, cur, hv, hl, hg, rest⟩
  · exact .inl h0
  · refine .inr ⟨g, cap, cur, hv, hl, ?_, rest⟩
    rw [h.2.2.2.2 g (Array.getElem?_eq_some_iff.1 hg).1 (hne g (by rw [hv]; rfl))]; exact hg
theorem OffL.below {vs : List Value} {w w1 : World} {N : Nat} (h : OffL vs w w1) (hN : ∀ v ∈ vs, ∀ b, v.ownBlock = some b → N ≤ b) (hs : N ≤ w.heap.size) : Below N w w1 :=
  ⟨h.1, h.2.1, h.2.2.1, h.2.2.2.1, fun k hk => h.2.2.2.2 k (by omega) (fun v hv e => by have := hN v hv k e; omega)⟩
theorem OffL.mono {vs us : List Value} {w w1 : World} (h : OffL vs w w1) (hsub : ∀ v ∈ vs, v ∈ us) : OffL us w w1 :=
  ⟨h.1, h.2.1, h.2.2.1, h.2.2.2.1, fun k hk hne => h.2.2.2.2 k hk fun v hv => hne v (hsub v hv)⟩
end Go.Proofs.YtlolnfpfipnfeaaGreatDoor
namespace Go.Proofs.YtlolnfpfipnfeaaGreatDoor
open Go.ChangeShapes Go.WideShapes Go.ChangeAt Go.RowKit
attribute [local go_sem ↓] Go.wp_at_zero Go.wp_at_succ

def fcells (f : Fl) : List Value := [.string f.rc, .string f.st, .int .i64 f.cd, .string f.tx]
def flV (f : Fl) : Value := .agg #[.string f.rc, .string f.st, .int .i64 f.cd, .string f.tx]
def frow (L : List Fl) : List Value := (L.map fcells).flatten
theorem frow_len : ∀ L : List Fl, (frow L).length = 4 * L.length
  | [] => rfl
  | v :: L => by
    have := frow_len L
    unfold frow at *
    simp only [List.map_cons, List.flatten_cons, List.length_append, List.length_cons] at *
    rw [this]; simp [fcells]; omega
theorem frow_app (A B : List Fl) : frow (A ++ B) = frow A ++ frow B := by simp [frow]
theorem frow_one (f : Fl) : frow [f] = [.string f.rc, .string f.st, .int .i64 f.cd, .string f.tx] := rfl
theorem frow_get : ∀ (L : List Fl) (i : Nat) (h : i < L.length), (frow L)[i * 4]? = some (.string L[i].rc) ∧ (frow L)[i * 4 + 1]? = some (.string L[i].st) ∧ (frow L)[i * 4 + 2]? = some (.int .i64 L[i].cd) ∧ (frow L)[i * 4 + 3]? = some (.string L[i].tx)
  | v :: L, 0, _ => ⟨rfl, rfl, rfl, rfl⟩
  | v :: L, i + 1, h => by
    have := frow_get L i (by simpa using h)
    have e : ∀ j, (frow (v :: L))[j + 4]? = (frow L)[j]? := fun j => rfl
    rw [show (i + 1) * 4 = i * 4 + 4 by omega, show i * 4 + 4 + 1 = (i * 4 + 1) + 4 by omega, show i * 4 + 4 + 2 = (i * 4 + 2) + 4 by omega, show i * 4 + 4 + 3 = (i * 4 + 3) + 4 by omega, e, e, e, e]
    exact this
/-- a slice of failures of the call's own, in a block from lo on -/
def Fls (w : World) (lo : Nat) (v : Value) (L : List Fl) : Prop := w.ownsRow lo 31 4 v L.length (frow L)
structure FlsAt (w : World) (lo g cap : Nat) (L : List Fl) : Prop where
  lo : lo ≤ g
  lt : g < w.heap.size
  len : L.length ≤ cap
  cap : cap ≤ maxLen
  cell : ∀ i (hi : i < L.length), w.cell? ⟨g, i * 4, none⟩ = some (.string L[i].rc) ∧ w.cell? ⟨g, i * 4 + 1, none⟩ = some (.string L[i].st) ∧ w.cell? ⟨g, i * 4 + 2, none⟩ = some (.int .i64 L[i].cd) ∧ w.cell? ⟨g, i * 4 + 3, none⟩ = some (.string L[i].tx)
  free : ∀ o, w.frozen? ⟨g, o, none⟩ = false
theorem Fls.cases {w : World} {lo : Nat} {v : Value} {L : List Fl} (h : Fls w lo v L) :
    (v = .slice none 0 0 ∧ L = []) ∨ ∃ g cap, v = .slice (some ⟨g, 0, none⟩) L.length cap ∧ FlsAt w lo g cap L := by
  rcases h.2 with ⟨hv, h0⟩ | ⟨g, cap, cur, hv, hb, hg, hn, hc, hs, ht⟩
  · exact .inl ⟨hv, List.eq_nil_of_length_eq_zero h0⟩
  · refine .inr ⟨g, cap, hv, hb, (Array.getElem?_eq_some_iff.1 hg).1, hn, hc, ?_, ?_⟩
    · intro i hi
      have key : ∀ j, j < L.length * 4 → ∀ x, (frow L)[j]? = some x → w.cell? ⟨g, j, none⟩ = some x := by
        intro j hj x hx
        have h1 : (cur.toList.take (L.length * 4))[j]? = some x := by rw [ht]; exact hx
        rw [List.getElem?_take_of_lt hj] at h1
        have h2 : cur[j]? = some x := by simpa using h1
        simp [World.cell?, hg, h2]
      obtain ⟨e0, e1, e2, e3⟩ := frow_get L i hi
      exact ⟨key _ (by omega) _ e0, key _ (by omega) _ e1, key _ (by omega) _ e2, key _ (by omega) _ e3⟩
    · intro o; simp [World.frozen?, hg]
theorem fls_below {w w' : World} {lo : Nat} {v : Value} {L : List Fl} (h : Fls w lo v L) {B : Nat} (hb : Below B w w') (hB : w.heap.size ≤ B) : Fls w' lo v L := by
  refine ⟨h.1, ?_⟩
  rcases h.2 with h0 | ⟨g, cap, cur, hv, hl, hg, rest⟩
  · exact .inl h0
  · refine .inr ⟨g, cap, cur, hv, hl, ?_, rest⟩
    rw [hb.block g (Nat.lt_of_lt_of_le (Array.getElem?_eq_some_iff.1 hg).1 hB)]; exact hg
theorem fls_at_below {w w' : World} {lo B : Nat} {v : Value} {L : List Fl} (h : Fls w lo v L) (hb : Below B w w') (hlt : ∀ g, v.ownBlock = some g → g < B) : Fls w' lo v L := by
  refine ⟨h.1, ?_⟩
  rcases h.2 with h0 | ⟨g, cap, cur, hv, hl, hg, rest⟩
  · exact .inl h0
  · refine .inr ⟨g, cap, cur, hv, hl, ?_, rest⟩
    rw [hb.block g (hlt g (by rw [hv]; rfl))]; exact hg
theorem fls_off {w w' : World} {lo b : Nat} {v : Value} {L : List Fl} (h : Fls w lo v L) (ho : Off b w w') (hne : ∀ g, v.ownBlock = some g → g ≠ b) : Fls w' lo v L := by
  refine ⟨h.1, ?_⟩
  rcases h.2 with h0 | ⟨g, cap, cur, hv, hl, hg, rest⟩
  · exact .inl h0
  · refine .inr ⟨g, cap, cur, hv, hl, ?_, rest⟩
    rw [ho.block g (Array.getElem?_eq_some_iff.1 hg).1 (hne g (by rw [hv]; rfl))]; exact hg
theorem fls_own {w : World} {lo : Nat} {v : Value} {L : List Fl} (h : Fls w lo v L) : ∀ g, v.ownBlock = some g → lo ≤ g ∧ g < w.heap.size := by
  intro g hg
  rcases h.cases with ⟨rfl, _⟩ | ⟨g', cap, rfl, hs⟩
  · simp [Value.ownBlock] at hg
  · simp only [Value.ownBlock, Option.some.injEq] at hg
    subst hg; exact ⟨hs.lo, hs.lt⟩
theorem fls_lo {w : World} {lo lo' : Nat} {v : Value} {L : List Fl} (h : Fls w lo v L) (hl : lo' ≤ lo) : Fls w lo' v L := by
  refine ⟨h.1, ?_⟩
  rcases h.2 with h0 | ⟨g, cap, cur, hv, hb, rest⟩
  · exact .inl h0
  · exact .inr ⟨g, cap, cur, hv, Nat.le_trans hl hb, rest⟩
theorem fls_form {w : World} {lo : Nat} {v : Value} {L : List Fl} (h : Fls w lo v L) : ∃ a c, v = .slice a L.length c := by
  rcases h.cases with ⟨rfl, rfl⟩ | ⟨g, cap, rfl, _⟩
  · exact ⟨_, _, rfl⟩
  · exact ⟨_, _, rfl⟩
theorem Fls.at {w : World} {lo g n cap : Nat} {L : List Fl} (h : Fls w lo (.slice (some ⟨g, 0, none⟩) n cap) L) : FlsAt w lo g cap L ∧ n = L.length := by
  rcases h.cases with ⟨hv, _⟩ | ⟨g', cap', hv, hs⟩
  · cases hv
  · injection hv with h1 h2 h3
    injection h1 with h1
    injection h1 with h1
    subst h1 h2 h3
    exact ⟨hs, rfl⟩
theorem fls_nil (w : World) (lo : Nat) : Fls w lo (.slice none 0 0) [] := ⟨rfl, .inl ⟨rfl, rfl⟩⟩
theorem infoFl : (Tryz.prog.info? 31).map (fun i => (i.zero, i.size, i.bytes)) = some (some (.agg #[.string ⟨#[]⟩, .string ⟨#[]⟩, .int .i64 0, .string ⟨#[]⟩]), 4, 56) := by kernel_rfl
/-- a bounce as a value -/
def bnV (b : Bn) (v : Value) : Value := .agg #[.string b.he, .string b.tw, v, .string b.hd]
end Go.Proofs.YtlolnfpfipnfeaaGreatDoor
