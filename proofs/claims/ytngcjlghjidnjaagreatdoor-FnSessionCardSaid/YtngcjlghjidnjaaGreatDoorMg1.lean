import Derived.WalkKit
import Derived.ProofKit
import Derived.OpenShut
import Derived.OpenVars
import Derived.Deep.Fields
import Derived.Lib.SmallJoins
import Derived.Test.YtngcjlghjidnjaaGreatDoorRows
import Derived.Lib.Split
namespace Go.Proofs.YtngcjlghjidnjaaGreatDoor.LawBase
open Go.ChangeShapes Go.WideShapes Go.ChangeAt Go.RowKit Go.Deep Go.Joins

/-- each parameter's type can be read and is a row of the table: one closed fact -/
def rowed (P : Program) (ts : List TypeId) : Bool := ts.all fun t => P.readableRec t && decide (t < P.types.size)

theorem below_trodAll {H : Type} {enc : TypeId × Value → H} {P : Program} (hl : laidOutB P = true) {W W' : World} (hb : Below W.heap.size W W') :
    ∀ {ts : List TypeId} {vs : List Value} {ds : List (DataW H)} {ps : List MemPlace}, rowed P ts = true → DataW.TrodAll enc P W 0 (fun _ => true) true ts vs ds ps → DataW.TrodAll enc P W' 0 (fun b => decide (b < W.heap.size)) true ts vs ds ps := by
  intro ts
  induction ts with
  | nil =>
    intro vs ds ps _ h
    obtain ⟨rfl, rfl, rfl⟩ := trodAll_nil h
    exact trodAll_mk0
  | cons t ts ih =>
    intro vs ds ps hr h
    simp only [rowed, List.all_cons, Bool.and_eq_true, decide_eq_true_eq] at hr
    obtain ⟨v0, vs0, d0, ds0, p0, q0, rfl, rfl, rfl, h0, r0⟩ := trodAll_cons h
    have lt0 : ∀ x ∈ p0, x.block < W.heap.size := by obtain ⟨m, hm⟩ := h0; exact DataW.trod_lt m _ _ _ hm
    exact trodAll_cons_mk (Below.trod hl hr.1.1 hr.1.2 h0 hb lt0) (ih (by simpa [rowed] using hr.2) r0)

theorem lawPost {H : Type} {enc : TypeId × Value → H} {P : Program} {f : Func} {s : ChangeSpec} {W W' : World} {args : Array Value} {ds gs : List (DataW H)} {before : List MemPlace} (tb : TypeId)
    (hl : laidOutB P = true) (hp : rowed P f.params.toList = true) (hv : varsRowed P s.vars = true) (hr : f.resultTypes = #[tb]) (htb : P.underlying tb = some .bool)
    (hW : DataW.Whole enc P f.params.toList s.vars false W args.toList ds gs before) (hs : s.fn H (ds ++ gs) = { results := [.lit (.bool true)], args := ds, vars := gs }) (hb : Below W.heap.size W W') :
    s.post enc P f false true false false W args (.bool true) W' := by
  have hW' := hW
  obtain ⟨p, q, hA, hV, rfl, hfz, hnd⟩ := hW
  refine ⟨ds, gs, _, [], p, q, hW', ?_, ?_, ?_, hb.frame _, fun h => by cases h⟩
  · rw [hs, hr]; exact trodAll_mk1 (shut_bool htb _)
  · rw [hs]; exact below_trodAll hl hb hp hA
  · rw [hs]; exact Below.trodVars hl hb hv hV

theorem array5 {α : Type} {cs : Array α} (h : cs.size = 5) : ∃ c0 c1 c2 c3 c4, cs = #[c0, c1, c2, c3, c4] := by
  obtain ⟨l⟩ := cs
  match l, h with
  | [c0, c1, c2, c3, c4], _ => exact ⟨c0, c1, c2, c3, c4, rfl⟩

/-- a struct of five fields by value, each of one cell: written out -/
theorem open_agg5 {H : Type} {enc : TypeId × Value → H} {P : Program} {w : World} {base : Nat} {spare : Nat → Bool} {held : Bool} {r : Reach} {b0 : Nat} {t : TypeId} {f0 f1 f2 f3 f4 : Field} {v : Value} {d : DataW H} {p : List MemPlace}
    (hs : P.underlying t = some (.struct #[f0, f1, f2, f3, f4])) (hone : oneCellFields P #[f0, f1, f2, f3, f4] = true) (hC : P.cellsOf t = 5)
    (hv : Value.okWide P w r b0 t v) (h : DataW.Trod enc P w base spare held t v d p) :
    ∃ (v0 v1 v2 v3 v4 : Value) (y0 y1 y2 y3 y4 : DataW H × List MemPlace) (n : Nat), v = .agg #[v0, v1, v2, v3, v4] ∧ d = .agg [y0.1, y1.1, y2.1, y3.1, y4.1] ∧
      DataW.trod enc P w base spare held n f0.type [v0] = some y0 ∧ DataW.trod enc P w base spare held n f1.type [v1] = some y1 ∧ DataW.trod enc P w base spare held n f2.type [v2] = some y2 ∧ DataW.trod enc P w base spare held n f3.type [v3] = some y3 ∧ DataW.trod enc P w base spare held n f4.type [v4] = some y4 := by
  obtain ⟨cs, rfl, hsz⟩ := okWide_struct hs hv
  obtain ⟨c0, c1, c2, c3, c4, rfl⟩ := array5 (hsz.trans hC)
  obtain ⟨fuel, hf⟩ := h
  obtain ⟨xs, n, _, hx, hl, hlen, hf⟩ := DataW.trod_struct hs hf
  obtain ⟨o0, k0⟩ := hone_of hone 0 f0 rfl
  obtain ⟨o1, k1⟩ := hone_of hone 1 f1 rfl
  obtain ⟨o2, k2⟩ := hone_of hone 2 f2 rfl
  obtain ⟨o3, k3⟩ := hone_of hone 3 f3 rfl
  obtain ⟨o4, k4⟩ := hone_of hone 4 f4 rfl
  match xs, hlen with
  | [y0, y1, y2, y3, y4], _ =>
    have g0 := hf 0 f0 rfl
    have g1 := hf 1 f1 rfl
    have g2 := hf 2 f2 rfl
    have g3 := hf 3 f3 rfl
    have g4 := hf 4 f4 rfl
    simp only [Prod.mk.injEq] at hx
    exact ⟨c0, c1, c2, c3, c4, y0, y1, y2, y3, y4, n, rfl, by simpa using hx.1, by simpa [Value.cells, o0, k0] using g0, by simpa [Value.cells, o1, k1] using g1, by simpa [Value.cells, o2, k2] using g2, by simpa [Value.cells, o3, k3] using g3, by simpa [Value.cells, o4, k4] using g4⟩
end Go.Proofs.YtngcjlghjidnjaaGreatDoor.LawBase
namespace Go.Proofs.YtngcjlghjidnjaaGreatDoor
theorem own : ownKnob Tryz.prog.godebug = none := by kernel_rfl
theorem laidOut : laidOutB Tryz.prog = true := by kernel_rfl
open Go.RowKit
theorem below1 (w : World) (o1 : Obj) : Below w.heap.size w (w.alloc o1) := Go.Joins.below_alloc1 w o1
theorem below2 (w : World) (o1 o2 : Obj) : Below w.heap.size w ((w.alloc o1).alloc o2) := Go.Joins.below_alloc2 w o1 o2
theorem below3 (w : World) (o1 o2 o3 : Obj) : Below w.heap.size w (((w.alloc o1).alloc o2).alloc o3) := Go.Joins.below_alloc3 w o1 o2 o3
/-- what lay below stands as it stood: two rules for the walk -/
theorem bcell {W w1 : World} (hb : Below W.heap.size W w1) : (∀ b o, b < W.heap.size → w1.cell? ⟨b, o, none⟩ = W.cell? ⟨b, o, none⟩) ∧ (∀ b o, b < W.heap.size → w1.frozen? ⟨b, o, none⟩ = W.frozen? ⟨b, o, none⟩) :=
  ⟨fun b o h => hb.cell (p := ⟨b, o, none⟩) h, fun b o h => hb.frozen (p := ⟨b, o, none⟩) h⟩
theorem int_eq {k : IntKind} {a b : Int} (h : a = b) : Value.int k a = Value.int k b := by rw [h]
theorem ret_int {k : IntKind} {a b : Int} (h : a = b) : Ending.returned (.int k a) = .returned (.int k b) := by rw [h]
theorem ret_str {a b : ByteArray} (h : a = b) : Ending.returned (.string a) = .returned (.string b) := by rw [h]
theorem of_drew {B : Nat} {a b : World} (h : Below B a.drew b) : Below B a b := ⟨h.os, h.tape, h.output, h.size, h.block⟩
end Go.Proofs.YtngcjlghjidnjaaGreatDoor
namespace Go.Proofs.YtngcjlghjidnjaaGreatDoor.Pcs
open Go

/-- the pieces of a text between the places where sep stands, from the left; k: how many bytes of a sep are still to be passed over; acc: what the piece under way holds -/
def pcs (sep : List UInt8) : Nat → List UInt8 → List UInt8 → List (List UInt8)
  | _, acc, [] => [acc]
  | k + 1, acc, _ :: l => pcs sep k acc l
  | 0, acc, b :: l => if sep.isPrefixOf (b :: l) then acc :: pcs sep (sep.length - 1) [] l else pcs sep 0 (acc ++ [b]) l

theorem pcs_skip (sep : List UInt8) : ∀ (k : Nat) (acc l : List UInt8), pcs sep k acc l = pcs sep 0 acc (l.drop k)
  | 0, _, _ => rfl
  | k + 1, acc, [] => by simp [pcs]
  | k + 1, acc, b :: l => by rw [pcs, pcs_skip sep k acc l, List.drop_succ_cons]

theorem pcs_hit {sep acc l : List UInt8} (hs : sep ≠ []) (h : sep.isPrefixOf l = true) : pcs sep 0 acc l = acc :: pcs sep 0 [] (l.drop sep.length) := by
  cases l with
  | nil => cases sep with
    | nil => exact absurd rfl hs
    | cons c t => simp [List.isPrefixOf] at h
  | cons b l =>
    rw [pcs, if_pos h, pcs_skip]
    cases sep with
    | nil => exact absurd rfl hs
    | cons c t => simp

theorem pcs_miss {sep acc l : List UInt8} {b : UInt8} (h : sep.isPrefixOf (b :: l) = false) : pcs sep 0 acc (b :: l) = pcs sep 0 (acc ++ [b]) l := by
  rw [pcs, if_neg (by rw [h]; decide)]

theorem pcs_short {sep : List UInt8} : ∀ {l acc : List UInt8}, l.length < sep.length → pcs sep 0 acc l = [acc ++ l]
  | [], acc, _ => by simp [pcs]
  | b :: l, acc, h => by
    have hp : sep.isPrefixOf (b :: l) = false := by
      rw [Bool.eq_false_iff]; intro e
      have := (List.isPrefixOf_iff_prefix.1 e).length_le
      omega
    rw [pcs_miss hp, pcs_short (by simp at h; omega)]; simp

theorem pcs_index {sep : List UInt8} (hs : sep ≠ []) : ∀ (s acc : List UInt8), (Lib.index s sep = -1 ∧ pcs sep 0 acc s = [acc ++ s]) ∨ ∃ i : Nat, Lib.index s sep = i ∧ i + sep.length ≤ s.length ∧ pcs sep 0 acc s = (acc ++ s.take i) :: pcs sep 0 [] (s.drop (i + sep.length))
  | [], acc => by
    left
    cases sep with
    | nil => exact absurd rfl hs
    | cons c t => simp [Lib.index, pcs]
  | b :: l, acc => by
    by_cases hp : sep.isPrefixOf (b :: l) = true
    · right
      refine ⟨0, by simp [Lib.index, hp], by simpa using (List.isPrefixOf_iff_prefix.1 hp).length_le, ?_⟩
      rw [pcs_hit hs hp]; simp
    · have hpf : sep.isPrefixOf (b :: l) = false := Bool.eq_false_iff.2 hp
      rcases pcs_index hs l (acc ++ [b]) with ⟨h1, h2⟩ | ⟨i, h1, h2, h3⟩
      · left
        refine ⟨by simp [Lib.index, hpf, h1], ?_⟩
        rw [pcs_miss hpf, h2]; simp
      · right
        refine ⟨i + 1, ?_, by simp; omega, ?_⟩
        · have : ¬ (Lib.index l sep == -1) = true := fun e => by have := beq_iff_eq.1 e; omega
          rw [Lib.index, if_neg hp, if_neg this, h1]; rfl
        · rw [pcs_miss hpf, h3]
          simp only [List.take_succ_cons, List.append_assoc, List.singleton_append]
          rw [show i + 1 + sep.length = (i + sep.length) + 1 by omega, List.drop_succ_cons]

theorem pcs_ne (sep : List UInt8) : ∀ (l : List UInt8) (k : Nat) (acc : List UInt8), pcs sep k acc l ≠ []
  | [], k, acc => by simp [pcs]
  | b :: l, 0, acc => by
    rw [pcs]; split
    · simp
    · exact pcs_ne sep l 0 _
  | b :: l, k + 1, acc => by rw [pcs]; exact pcs_ne sep l k acc

/-- each piece but the last with the sep that ends it -/
def after (sep : List UInt8) : List (List UInt8) → List (List UInt8)
  | [] => []
  | [x] => [x]
  | x :: y :: r => (x ++ sep) :: after sep (y :: r)

theorem after_cons {sep x : List UInt8} {L : List (List UInt8)} (h : L ≠ []) : after sep (x :: L) = (x ++ sep) :: after sep L := by
  cases L with
  | nil => exact absurd rfl h
  | cons y r => rfl

theorem splitK_pcs {sep : List UInt8} (hs : sep ≠ []) : ∀ (k : Nat) (s : List UInt8), Lib.count s sep = k → Lib.splitK sep 0 k s = pcs sep 0 [] s
  | k, s, hk => by
    rcases pcs_index hs s [] with ⟨h1, h2⟩ | ⟨i, h1, h2, h3⟩
    · rw [h2, Lib.count_miss h1] at *
      subst hk; rfl
    · rw [Lib.count_hit hs h1] at hk
      match k, hk with
      | 0, hk => omega
      | k + 1, hk =>
        have e : (Lib.index s sep).toNat = i := by omega
        have hm : ¬ (Lib.index s sep == -1) = true := fun e => by have := beq_iff_eq.1 e; omega
        rw [h3, Lib.splitK, if_neg hm, e, splitK_pcs hs k _ (by omega)]; rfl

theorem take_occ {s sep : List UInt8} {i : Nat} (h1 : Lib.index s sep = i) : s.take (i + sep.length) = s.take i ++ sep := by
  rcases Lib.index_spec s sep with ⟨h, _⟩ | ⟨j, hj, hl, ho, _⟩
  · omega
  · obtain rfl : j = i := by omega
    have hp : sep <+: s.drop j := List.isPrefixOf_iff_prefix.1 ho
    obtain ⟨r, hr⟩ := hp
    have e : s = s.take j ++ (sep ++ r) := by rw [hr, List.take_append_drop]
    have hlen : (s.take j).length = j := by simp [hl]
    conv => lhs; rw [e]
    rw [List.take_append, hlen, Nat.add_sub_cancel_left, List.take_of_length_le (by omega), List.take_left]

theorem splitK_after {sep : List UInt8} (hs : sep ≠ []) : ∀ (k : Nat) (s : List UInt8), Lib.count s sep = k → Lib.splitK sep sep.length k s = after sep (pcs sep 0 [] s)
  | k, s, hk => by
    rcases pcs_index hs s [] with ⟨h1, h2⟩ | ⟨i, h1, h2, h3⟩
    · rw [h2, Lib.count_miss h1] at *
      subst hk; rfl
    · rw [Lib.count_hit hs h1] at hk
      match k, hk with
      | 0, hk => omega
      | k + 1, hk =>
        have e : (Lib.index s sep).toNat = i := by omega
        have hm : ¬ (Lib.index s sep == -1) = true := fun e => by have := beq_iff_eq.1 e; omega
        rw [h3, after_cons (pcs_ne _ _ _ _), Lib.splitK, if_neg hm, e, splitK_after hs k _ (by omega), take_occ h1]; rfl

def mk (l : List UInt8) : ByteArray := ⟨l.toArray⟩
theorem mk_data (s : ByteArray) : mk s.data.toList = s := Lib.mk_data s
theorem data_mk (l : List UInt8) : (mk l).data.toList = l := rfl
theorem mk_size (l : List UInt8) : (mk l).size = l.length := by simp [mk, ByteArray.size]
theorem map_mk {L : List ByteArray} {M : List (List UInt8)} (h : L.map (·.data.toList) = M) : L = M.map mk := by
  subst h; rw [List.map_map]
  have : (mk ∘ fun s : ByteArray => s.data.toList) = id := funext fun s => mk_data s
  rw [this, List.map_id]

/-- the pieces of a text, as texts -/
def pieces (sep s : ByteArray) : List ByteArray := (pcs sep.data.toList 0 [] s.data.toList).map mk
def piecesAfter (sep s : ByteArray) : List ByteArray := (after sep.data.toList (pcs sep.data.toList 0 [] s.data.toList)).map mk

theorem ne_nil {sep : ByteArray} (h : 1 ≤ sep.size) : sep.data.toList ≠ [] := fun e => by
  have h0 := Lib.size_eq sep
  rw [e, List.length_nil] at h0; omega
theorem splitB_pieces {sep : ByteArray} (h : 1 ≤ sep.size) (s : ByteArray) : Lib.splitB sep 0 (Lib.countB s sep) s = pieces sep s :=
  map_mk (by rw [Lib.splitB_data]; exact splitK_pcs (ne_nil h) _ _ rfl)
theorem splitB_after {sep : ByteArray} (h : 1 ≤ sep.size) (s : ByteArray) : Lib.splitB sep sep.size (Lib.countB s sep) s = piecesAfter sep s :=
  map_mk (by rw [Lib.splitB_data, Lib.size_eq sep]; exact splitK_after (ne_nil h) _ _ rfl)
theorem pieces_ne (sep s : ByteArray) : pieces sep s ≠ [] := by
  unfold pieces; intro h; exact pcs_ne _ _ _ _ (List.map_eq_nil_iff.1 h)

/-- a piece is no longer than the text -/
theorem pcs_len {sep : List UInt8} : ∀ (l : List UInt8) (k : Nat) (acc : List UInt8), ∀ x ∈ pcs sep k acc l, x.length ≤ acc.length + l.length
  | [], k, acc, x, h => by simp [pcs] at h; subst h; simp
  | b :: l, 0, acc, x, h => by
    rw [pcs] at h; split at h
    · rcases List.mem_cons.1 h with rfl | h
      · omega
      · have := pcs_len l _ _ x h; simp at this ⊢; omega
    · have := pcs_len l _ _ x h; simp at this ⊢; omega
  | b :: l, k + 1, acc, x, h => by
    rw [pcs] at h
    have := pcs_len l _ _ x h; simp at this ⊢; omega
theorem pcs_count {sep : List UInt8} : ∀ (l : List UInt8) (k : Nat) (acc : List UInt8), (pcs sep k acc l).length ≤ l.length + 1
  | [], k, acc => by simp [pcs]
  | b :: l, 0, acc => by
    rw [pcs]; split
    · have := pcs_count (sep := sep) l (sep.length - 1) []; simp only [List.length_cons] at this ⊢; omega
    · have := pcs_count (sep := sep) l 0 (acc ++ [b]); simp only [List.length_cons] at this ⊢; omega
  | b :: l, k + 1, acc => by
    rw [pcs]; have := pcs_count (sep := sep) l k acc; simp only [List.length_cons] at this ⊢; omega
theorem pieces_len (sep s : ByteArray) : (pieces sep s).length ≤ s.size + 1 := by
  unfold pieces; rw [List.length_map, Lib.size_eq]; exact pcs_count _ _ _
theorem pieces_size {sep s x : ByteArray} (h : x ∈ pieces sep s) : x.size ≤ s.size := by
  obtain ⟨l, hl, rfl⟩ := List.mem_map.1 h
  have := pcs_len _ _ _ _ hl
  rw [mk_size, Lib.size_eq]; simpa using this
end Go.Proofs.YtngcjlghjidnjaaGreatDoor.Pcs
