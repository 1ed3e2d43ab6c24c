import Derived.Test.YtlolnfpfipnfeaaGreatDoorMg9
import Derived.Test.YtlolnfpfipnfeaaGreatDoorMg25
import Derived.Deep.RegionHeld
import Derived.OrdersHeld
namespace Go.Proofs.YtlolnfpfipnfeaaGreatDoor
open Go.ChangeShapes Go.WideShapes Go.ChangeAt Go.RowKit
open Pcs

def stats : List ByteArray := [⟨#[53, 46, 48, 46, 48]⟩, ⟨#[52, 46, 52, 46, 55]⟩, ⟨#[53, 46, 49, 50, 51, 46, 57]⟩]
def codes : List Int := [0, 550, 200, 599]
/-- drawn failures -/
def fltGo : Nat → List UInt8 → Nat → List Fl → List Fl × Nat
  | 0, _, p, acc => (acc, p)
  | n + 1, B, p, acc => fltGo n B (someP B (addrF B (px B p)).2 12) (acc ++ [⟨(addrF B (px B p)).1, stats.getD (nx B p % 3) ⟨#[]⟩, codes.getD (nx B p / 3 % 4) 0, cleanB (someB B (addrF B (px B p)).2 12)⟩])
/-- lines that look like boundaries, from i on -/
def hdGo : Nat → Nat → ByteArray → ByteArray
  | 0, _, h => h
  | n + 1, i, h => hdGo n (i + 1) (h ++ (⟨#[45, 45, 98]⟩ ++ ⟨(Lib.decDigits i).toArray⟩ ++ ⟨#[13, 10]⟩))
def flsP (B : List UInt8) (p : Nat) : List Fl × Nat := fltGo (1 + nx B p % 4) B (px B p) []
/-- a drawn bounce -/
def bncF (B : List UInt8) (p : Nat) : Bn × Nat :=
  (⟨(domF B p).1, (addrF B (domF B p).2).1, (flsP B (addrF B (domF B p).2).2).1, hdGo (nx B (flsP B (addrF B (domF B p).2).2).2 % 4) 0 (headB (bodF B (px B (flsP B (addrF B (domF B p).2).2).2)).1)⟩, (bodF B (px B (flsP B (addrF B (domF B p).2).2).2)).2)

/-- a line that no late boundary and not the third looks like -/
structure GoodL (m : List UInt8) : Prop where
  n10 : (10 : UInt8) ∉ m
  n13 : (13 : UInt8) ∉ m
  st : startsL m = false
  t3 : takes 3 m = false
theorem takes3 (m : List UInt8) : takes 3 m = ([45, 45, 98, 51] : List UInt8).isPrefixOf m := by
  unfold takes
  rw [Lib.decDigits_one (by decide)]
  rfl
theorem good_of {m : List UInt8} (h1 : (10 : UInt8) ∉ m) (h2 : (13 : UInt8) ∉ m) (h3 : startsL m = false) (h4 : ([45, 45, 98, 51] : List UInt8).isPrefixOf m = false) : GoodL m := ⟨h1, h2, h3, by rw [takes3]; exact h4⟩
theorem good_heads : ∀ x ∈ bHeads, GoodL x.data.toList := by
  intro x hx
  unfold bHeads at hx
  simp only [List.mem_cons, List.not_mem_nil, or_false] at hx
  rcases hx with rfl | rfl | rfl | rfl | rfl | rfl | rfl | rfl <;> exact good_of (by decide) (by decide) (by decide) (by decide)
theorem good_getD (k : Nat) : GoodL (bHeads.getD k ⟨#[]⟩).data.toList := by
  rw [List.getD_eq_getElem?_getD]
  cases e : bHeads[k]? with
  | none => exact good_of (by decide) (by decide) (by decide) (by decide)
  | some x => exact good_heads x (List.mem_of_getElem? e)
theorem ofInts_listD (ns : List Int) : (ofInts ns).data.toList = ns.map fun n => UInt8.ofNat n.toNat := by
  unfold ofInts
  suffices h : ∀ (ns : List Int) (s : ByteArray), (ns.foldl (fun r n => r.push (UInt8.ofNat n.toNat)) s).data.toList = s.data.toList ++ ns.map fun n => UInt8.ofNat n.toNat by
    have := h ns ByteArray.empty
    simpa using this
  intro ns
  induction ns with
  | nil => intro s; simp
  | cons n ns ih => intro s; rw [List.foldl_cons, ih]; simp [ByteArray.push]
theorem fill_byte {n : Nat} {c : UInt8} (h : c ∈ (ofInts (fillL n)).data.toList) : 97 ≤ c.toNat ∧ c.toNat ≤ 122 := by
  have e : (ofInts (fillL n)).data.toList = (fillL n).map fun n => UInt8.ofNat n.toNat := ofInts_listD _
  rw [e] at h
  obtain ⟨z, hz, rfl⟩ := List.mem_map.1 h
  unfold fillL at hz
  obtain ⟨i, _, rfl⟩ := List.mem_map.1 hz
  have h1 : i % 26 < 26 := Nat.mod_lt _ (by decide)
  have h2 : (97 + ((i % 26 : Nat) : Int)).toNat = 97 + i % 26 := by omega
  rw [h2, UInt8.toNat_ofNat']
  omega
theorem good_fill (n : Nat) : GoodL (ofInts (fillL n)).data.toList := by
  have key : ∀ c : UInt8, c.toNat < 97 → c ∉ (ofInts (fillL n)).data.toList := fun c hc hm => by have := fill_byte hm; omega
  have h45 : (ofInts (fillL n)).data.toList.head? ≠ some 45 := fun e => key 45 (by decide) (List.mem_of_head? e)
  refine good_of (key 10 (by decide)) (key 13 (by decide)) ?_ ?_
  · generalize (ofInts (fillL n)).data.toList = m at h45
    unfold startsL w6
    split
    · rename_i e
      simp only [List.cons.injEq, true_and] at e
      rw [e] at h45
      simp at h45
    · rfl
  · generalize (ofInts (fillL n)).data.toList = m at h45
    cases m with
    | nil => rfl
    | cons a m =>
      have : a ≠ 45 := fun e => h45 (by rw [e]; rfl)
      have h2 : ((45 : UInt8) == a) = false := beq_eq_false_iff_ne.2 fun e => this e.symm
      simp [List.isPrefixOf, h2]
theorem flat_one (m : List UInt8) : flatL [m] = m ++ [13, 10] := by simp [flatL]
theorem bodGo_good : ∀ (n : Nat) (B : List UInt8) (p : Nat) (acc : ByteArray) (L : List (List UInt8)), acc.data.toList = flatL L → (∀ m ∈ L, GoodL m) → ∃ M, (bodGo n B p acc).1.data.toList = flatL M ∧ ∀ m ∈ M, GoodL m
  | 0, _, _, acc, L, h, hL => ⟨L, h, hL⟩
  | n + 1, B, p, acc, L, h, hL => by
    rw [bodGo]
    refine bodGo_good n B (px B p) _ (L ++ [(bHeads.getD (nx B p % 8) ⟨#[]⟩).data.toList]) ?_ ?_
    · rw [flatL_app, flat_one, ← h]
      simp
    · intro m hm
      rw [List.mem_append, List.mem_singleton] at hm
      rcases hm with hm | rfl
      · exact hL m hm
      · exact good_getD _
theorem bodF_good (B : List UInt8) (p : Nat) : ∃ M, (bodF B p).1.data.toList = flatL M ∧ ∀ m ∈ M, GoodL m := by
  unfold bodF
  split
  · have hg := good_fill 998
    generalize ofInts (fillL 998) = y at hg ⊢
    refine ⟨[y.data.toList, y.data.toList, y.data.toList], ?_, ?_⟩
    · simp [bigBody, flatL]
    · intro m hm
      simp only [List.mem_cons, List.not_mem_nil, or_false] at hm
      rcases hm with rfl | rfl | rfl <;> exact hg
  · split
    · exact ⟨[], rfl, fun m hm => absurd hm (by simp)⟩
    · exact bodGo_good _ B _ ⟨#[]⟩ [] rfl (fun m hm => absurd hm (by simp))
theorem hdr_take : ∀ M : List (List UInt8), ∃ k, hdrL M = flatL (M.take k)
  | [] => ⟨0, rfl⟩
  | m :: M => by
    by_cases h : m = []
    · exact ⟨0, by rw [hdrL, if_pos h]; rfl⟩
    · obtain ⟨k, hk⟩ := hdr_take M
      refine ⟨k + 1, ?_⟩
      rw [hdrL, if_neg h, hk, List.take_succ_cons, flatL_cons]
theorem linesB_flat {s : ByteArray} {M : List (List UInt8)} (h : s.data.toList = flatL M) (hM : ∀ m ∈ M, (13 : UInt8) ∉ m) : linesB s = M := by
  unfold linesB pieces
  have e : pcs [13, 10] 0 [] s.data.toList = M ++ [[]] := by
    have := pcs_flat (r := []) M hM
    rw [List.append_nil] at this
    rw [h, this]
    rfl
  have e2 : (⟨#[13, 10]⟩ : ByteArray).data.toList = [13, 10] := rfl
  rw [e2, e, List.map_append, List.map_cons, List.map_nil, List.dropLast_concat, List.map_map]
  have : ((fun x : ByteArray => x.data.toList) ∘ mk) = id := funext fun l => data_mk l
  rw [this, List.map_id]
theorem head_good {s : ByteArray} {M : List (List UInt8)} (h : s.data.toList = flatL M) (hM : ∀ m ∈ M, GoodL m) : ∃ N, (headB s).data.toList = flatL N ∧ ∀ m ∈ N, GoodL m := by
  cases hb : bodyOk s
  · rw [head_no hb]
    exact ⟨[], rfl, fun m hm => absurd hm (by simp)⟩
  · have e : headB s = mk (hdrL (linesB s)) := head_ok hb rfl
    rw [e, linesB_flat h fun m hm => (hM m hm).n13, data_mk]
    obtain ⟨k, hk⟩ := hdr_take M
    exact ⟨M.take k, hk, fun m hm => hM m (List.mem_of_mem_take hm)⟩
theorem good_b {i : Nat} (h : i < 3) : GoodL (45 :: 45 :: 98 :: Lib.decDigits i) := by
  rw [Lib.decDigits_one (by omega)]
  have : i = 0 ∨ i = 1 ∨ i = 2 := by omega
  rcases this with rfl | rfl | rfl <;> exact good_of (by decide) (by decide) (by decide) (by decide)
theorem hdGo_good : ∀ (n i : Nat) (h : ByteArray) (L : List (List UInt8)), i + n ≤ 3 → h.data.toList = flatL L → (∀ m ∈ L, GoodL m) → ∃ M, (hdGo n i h).data.toList = flatL M ∧ ∀ m ∈ M, GoodL m
  | 0, _, _, L, _, h, hL => ⟨L, h, hL⟩
  | n + 1, i, h, L, hi, he, hL => by
    rw [hdGo]
    refine hdGo_good n (i + 1) _ (L ++ [45 :: 45 :: 98 :: Lib.decDigits i]) (by omega) ?_ ?_
    · rw [flatL_app, flat_one, ← he]
      simp
    · intro m hm
      rw [List.mem_append, List.mem_singleton] at hm
      rcases hm with hm | rfl
      · exact hL m hm
      · exact good_b (by omega)
theorem bncF_good (B : List UInt8) (p : Nat) : ∃ M, (bncF B p).1.hd.data.toList = flatL M ∧ ∀ m ∈ M, GoodL m := by
  obtain ⟨M, h1, h2⟩ := bodF_good B (px B (flsP B (addrF B (domF B p).2).2).2)
  obtain ⟨N, h3, h4⟩ := head_good h1 h2
  exact hdGo_good _ 0 _ N (by have : nx B (flsP B (addrF B (domF B p).2).2).2 % 4 < 4 := Nat.mod_lt _ (by decide); omega) h3 h4
theorem cw_good {M : List (List UInt8)} (h : ∀ m ∈ M, GoodL m) : cw (10 :: flatL M) = 0 := by
  have e := cw_flat [] M fun m hm => (h m hm).n10
  rw [List.append_nil, show cw [10] = 0 from rfl] at e
  rw [e, Nat.add_zero, List.countP_eq_zero]
  intro m hm
  rw [(h m hm).st]
  decide
theorem free3_good {M : List (List UInt8)} (h : ∀ m ∈ M, GoodL m) : freeN M 3 = true := by
  unfold freeN
  rw [List.all_eq_true]
  intro m hm
  rw [(h m hm).t3]
  rfl
/-- the text that a drawn bounce makes has no late boundary -/
theorem cw_drawn (B : List UInt8) (p : Nat) : cw (makeS (bncF B p).1).data.toList = 0 := by
  obtain ⟨M, h1, h2⟩ := bncF_good B p
  generalize (bncF B p).1 = b at *
  cases hb : bnOk b
  · rw [(make_no hb).2]
    rfl
  · have hl := body_lines (head_body (bnR hb).hd)
    have e : linesB b.hd = M := linesB_flat h1 fun m hm => (h2 m hm).n13
    have hk := (bnd_eq (M := M) (by rw [← e]; have := hl.2.2.2; omega) (d := 3) (by decide) (free3_good h2))
    rw [makeS_ok hb, e]
    have hN := bnN hb
    rw [e] at hN
    exact cw_text hN (by omega) (bn_no10 hb (cut_low _ (by decide))) (fun m hm => (h2 m hm).n10) (cw_good h2)
theorem cw_spoils : ∀ x ∈ spoils, cw x.data.toList = 0 := by
  intro x hx
  unfold spoils at hx
  simp only [List.mem_cons, List.not_mem_nil, or_false] at hx
  rcases hx with rfl | rfl | rfl | rfl | rfl | rfl | rfl | rfl | rfl | rfl | rfl | rfl | rfl | rfl <;> decide
theorem cw_spoD (k : Nat) : cw (spoils.getD k ⟨#[]⟩).data.toList = 0 := by
  rw [List.getD_eq_getElem?_getD]
  cases e : spoils[k]? with
  | none => rfl
  | some x => exact cw_spoils x (List.mem_of_getElem? e)
theorem cw_spo (s : ByteArray) (a d : Nat) (h : cw s.data.toList = 0) : cw (spoAt s a d).data.toList ≤ 2 := by
  unfold spoAt
  generalize (if a + d / 64 % 3 ≤ s.size then a + d / 64 % 3 else s.size) = k
  have e : (s.extract 0 a ++ spoils.getD (d % 14) ⟨#[]⟩ ++ s.extract k s.size).data.toList = (s.extract 0 a).data.toList ++ ((spoils.getD (d % 14) ⟨#[]⟩).data.toList ++ (s.extract k s.size).data.toList) := by simp
  rw [e]
  have h1 : cw (s.extract 0 a).data.toList = 0 := by
    have e1 : (s.extract 0 a).data.toList = s.data.toList.take a := by rw [Lib.extract_data]; simp
    have := cw_pre (s.data.toList.drop a) (s.data.toList.take a)
    rw [List.take_append_drop] at this
    rw [e1]; omega
  have h2 : cw (s.extract k s.size).data.toList = 0 := by
    have e1 : (s.extract k s.size).data.toList = s.data.toList.drop k := by
      rw [Lib.extract_data]
      exact List.take_of_length_le (by rw [List.length_drop, ← Lib.size_eq]; omega)
    have := cw_suf (s.data.toList.drop k) (s.data.toList.take k)
    rw [List.take_append_drop] at this
    rw [e1]; omega
  have h3 := cw_app ((spoils.getD (d % 14) ⟨#[]⟩).data.toList ++ (s.extract k s.size).data.toList) (s.extract 0 a).data.toList
  have h4 := cw_app (s.extract k s.size).data.toList (spoils.getD (d % 14) ⟨#[]⟩).data.toList
  have h5 := cw_spoD (d % 14)
  omega
end Go.Proofs.YtlolnfpfipnfeaaGreatDoor
namespace Go.Proofs.YtlolnfpfipnfeaaGreatDoor
open Go

section
variable {P : Program} {md : Region.Mode} {ops : Array Oper} {Q : Exit → Act → World → Prop} {S T : World → Prop}
/-- What is held may be more from here on: a block that an operation of the region has just made can be named, so that its loads are taken first. -/
theorem wpAnyH_more (h : ∀ w, T w → S w) : ∀ (fuel : Nat) (listed : Array Bool) (a : Act) (w : World), wpAnyH P md ops Q T fuel listed a w → wpAnyH P md ops Q S fuel listed a w
  | 0, _, _, _, k => k
  | fuel + 1, _, _, _, k => ⟨k.1, fun i hi => wpOp_mono (fun a' w' h' => ⟨h _ h'.1, wpAnyH_more h fuel _ a' w' h'.2⟩) (k.2 i hi)⟩
end
end Go.Proofs.YtlolnfpfipnfeaaGreatDoor
