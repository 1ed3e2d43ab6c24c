import Derived.Test.YtlolnfpfipnfeaaGreatDoorMg17
namespace Go.Proofs.YtlolnfpfipnfeaaGreatDoor
open Pcs

/-- a line as it goes over the wire -/
def stuffLine (l : List UInt8) : List UInt8 := (if l.head? = some 46 then [46] else []) ++ (l ++ [13, 10])
def stuffL (L : List ByteArray) : List UInt8 := (L.map fun l => stuffLine l.data.toList).flatten
/-- a body as it goes over the wire -/
def stuffB (s : ByteArray) : ByteArray := if bodyOk s then mk (stuffL (pieces ⟨#[13, 10]⟩ s).dropLast ++ [46, 13, 10]) else ⟨#[]⟩

theorem stuffL_step (L : List ByteArray) (k : Nat) (h : k < L.length) : stuffL (L.take (k + 1)) = stuffL (L.take k) ++ stuffLine L[k].data.toList := by
  unfold stuffL
  rw [List.take_add_one, List.getElem?_eq_getElem h, List.map_append, List.flatten_append]
  simp
theorem stuffLine_len (l : List UInt8) : (stuffLine l).length ≤ l.length + 3 := by
  unfold stuffLine; split <;> simp
theorem head_dot {x : ByteArray} : x.data.toList.head? = some 46 ↔ (∃ h : 0 < x.size, (x[0]'h).toNat = 46) := by
  constructor
  · intro e
    have h : 0 < x.size := by
      rw [Lib.size_eq]
      cases hx : x.data.toList with
      | nil => rw [hx] at e; cases e
      | cons a l => simp
    refine ⟨h, ?_⟩
    rw [List.head?_eq_getElem?, List.getElem?_eq_getElem (by rw [← Lib.size_eq]; exact h)] at e
    exact congrArg UInt8.toNat (Option.some.inj e)
  · rintro ⟨h, e⟩
    rw [List.head?_eq_getElem?, List.getElem?_eq_getElem (by rw [← Lib.size_eq]; exact h)]
    exact congrArg some (UInt8.toNat_inj.1 e)
theorem stuffLine_yes {l : List UInt8} (h : l.head? = some 46) : stuffLine l = 46 :: (l ++ [13, 10]) := by
  unfold stuffLine; rw [if_pos h]; rfl
theorem stuffLine_no {l : List UInt8} (h : l.head? ≠ some 46) : stuffLine l = l ++ [13, 10] := by
  unfold stuffLine; rw [if_neg h]; rfl
theorem mk_append (a : List UInt8) (s : ByteArray) : mk a ++ s = mk (a ++ s.data.toList) := by
  rw [← mk_data (mk a ++ s), ByteArray.data_append]
  simp [mk]
theorem take_sum {L : List ByteArray} (k : Nat) : (stuffL (L.take k)).length ≤ (L.map fun l => l.size + 3).sum := by
  unfold stuffL
  rw [List.length_flatten, List.map_map]
  have h1 : ∀ M : List ByteArray, (M.map (List.length ∘ fun l => stuffLine l.data.toList)).sum ≤ (M.map fun l => l.size + 3).sum := by
    intro M
    induction M with
    | nil => simp
    | cons x M ih =>
      simp only [Function.comp_def] at ih
      simp only [List.map_cons, List.sum_cons, Function.comp_def]
      have := stuffLine_len x.data.toList
      rw [← Lib.size_eq] at this
      omega
  refine Nat.le_trans (h1 _) ?_
  rw [List.map_take]
  generalize (L.map fun l => l.size + 3) = M
  induction M generalizing k with
  | nil => simp
  | cons x M ih =>
    cases k with
    | zero => simp
    | succ k => simp only [List.take_succ_cons, List.sum_cons]; have := ih k; omega
/-- all pieces together are no longer than the text -/
theorem pcs_sum {sep : List UInt8} : ∀ (l : List UInt8) (k : Nat) (acc : List UInt8), ((pcs sep k acc l).map List.length).sum ≤ acc.length + l.length
  | [], k, acc => by simp [pcs]
  | b :: l, 0, acc => by
    rw [pcs]; split
    · have := pcs_sum (sep := sep) l (sep.length - 1) []
      simp only [List.map_cons, List.sum_cons, List.length_nil, List.length_cons] at this ⊢; omega
    · have := pcs_sum (sep := sep) l 0 (acc ++ [b])
      simp only [List.length_append, List.length_cons, List.length_nil] at this ⊢; omega
  | b :: l, k + 1, acc => by
    rw [pcs]
    have := pcs_sum (sep := sep) l k acc
    simp only [List.length_cons] at this ⊢; omega
theorem stuff_len (s : ByteArray) (m k : Nat) : (stuffL (((pieces ⟨#[13, 10]⟩ s).take m).take k)).length ≤ 4 * s.size + 3 := by
  refine Nat.le_trans (take_sum k) ?_
  have h1 : (((pieces ⟨#[13, 10]⟩ s).take m).map fun l => l.size + 3).sum ≤ ((pieces ⟨#[13, 10]⟩ s).map fun l => l.size + 3).sum := by
    rw [List.map_take]
    generalize ((pieces ⟨#[13, 10]⟩ s).map fun l => l.size + 3) = M
    induction M generalizing m with
    | nil => simp
    | cons x M ih =>
      cases m with
      | zero => simp
      | succ m => simp only [List.take_succ_cons, List.sum_cons]; have := ih m; omega
  have h2 : ∀ L : List ByteArray, (L.map fun l => l.size + 3).sum = (L.map fun l => l.size).sum + 3 * L.length := by
    intro L
    induction L with
    | nil => rfl
    | cons x L ih => simp only [List.map_cons, List.sum_cons, List.length_cons]; omega
  have h3 : ((pieces ⟨#[13, 10]⟩ s).map fun l => l.size).sum ≤ s.size := by
    have := pcs_sum (sep := [13, 10]) s.data.toList 0 []
    rw [List.length_nil, Nat.zero_add, ← Lib.size_eq] at this
    refine Nat.le_trans (Nat.le_of_eq ?_) this
    show (((pcs [13, 10] 0 [] s.data.toList).map mk).map fun l => l.size).sum = _
    rw [List.map_map]
    have e : ((fun l : ByteArray => l.size) ∘ mk) = List.length := funext fun x => mk_size x
    rw [e]
  have h4 := pieces_len ⟨#[13, 10]⟩ s
  refine Nat.le_trans h1 ?_
  rw [h2]
  omega
end Go.Proofs.YtlolnfpfipnfeaaGreatDoor
namespace Go.Proofs.YtlolnfpfipnfeaaGreatDoor
open Pcs

def trimDot (l : List UInt8) : List UInt8 := Lib.trimPrefix l [46]
theorem trim_yes (l : List UInt8) : trimDot (46 :: l) = l := by
  simp [trimDot, Lib.trimPrefix, Lib.hasPrefix, List.isPrefixOf]
theorem trim_no {l : List UInt8} (h : l.head? ≠ some 46) : trimDot l = l := by
  unfold trimDot Lib.trimPrefix
  have : Lib.hasPrefix l [46] = false := by
    cases l with
    | nil => rfl
    | cons a l =>
      have : ((46 : UInt8) == a) = false := beq_eq_false_iff_ne.2 fun e => h (by rw [← e]; rfl)
      simp only [Lib.hasPrefix, List.isPrefixOf, this, Bool.false_and]
  rw [this, if_neg (by decide)]
theorem trim_le (l : List UInt8) : (trimDot l).length ≤ l.length := Lib.trimPrefix_le _ _

def cand1 (d : List UInt8) : List UInt8 := ((after [13, 10] (pcs [13, 10] 0 [] d)).map trimDot).flatten
def cand2 (d : List UInt8) : List UInt8 := ((pcs [13, 10] 0 [] d).dropLast.map fun m => trimDot m ++ [13, 10]).flatten

/-- all pieces with their ends, put together, are the text -/
theorem after_join {sep : List UInt8} (hs : sep ≠ []) : ∀ (n : Nat) (l acc : List UInt8), l.length ≤ n → (after sep (pcs sep 0 acc l)).flatten = acc ++ l
  | n, l, acc, hn => by
    rcases pcs_index hs l acc with ⟨h1, h2⟩ | ⟨i, h1, h2, h3⟩
    · rw [h2]; simp [after]
    · have hp : 0 < sep.length := List.length_pos_iff.2 hs
      match n, hn with
      | 0, hn => omega
      | n + 1, hn =>
        rw [h3, after_cons (pcs_ne _ _ _ _), List.flatten_cons, after_join hs n _ _ (by rw [List.length_drop]; omega), List.nil_append, List.append_assoc, List.append_assoc]
        congr 1
        rw [← List.append_assoc, ← take_occ h1, List.take_append_drop]

theorem pcs_line {rest : List UInt8} : ∀ (m acc : List UInt8), (13 : UInt8) ∉ m → pcs [13, 10] 0 acc (m ++ ([13, 10] ++ rest)) = (acc ++ m) :: pcs [13, 10] 0 [] rest
  | [], acc, _ => by
    rw [List.nil_append, pcs_hit (by simp) (by simp [List.isPrefixOf])]; simp
  | b :: m, acc, h => by
    have hb : ((13 : UInt8) == b) = false := beq_eq_false_iff_ne.2 fun e => h (by rw [e]; simp)
    have hp : ([13, 10] : List UInt8).isPrefixOf (b :: (m ++ ([13, 10] ++ rest))) = false := by
      simp only [List.isPrefixOf, hb, Bool.false_and]
    rw [List.cons_append, pcs_miss hp, pcs_line m (acc ++ [b]) (fun e => h (List.mem_cons_of_mem _ e))]
    simp
theorem pcs_lines : ∀ (M : List (List UInt8)), (∀ m ∈ M, (13 : UInt8) ∉ m) → pcs [13, 10] 0 [] (M.map fun m => m ++ [13, 10]).flatten = M ++ [[]]
  | [], _ => by simp [pcs]
  | m :: M, h => by
    rw [List.map_cons, List.flatten_cons, List.append_assoc, pcs_line m [] (h m (by simp)), pcs_lines M (fun x hx => h x (List.mem_cons_of_mem _ hx))]; rfl
theorem after_snoc (sep : List UInt8) : ∀ M : List (List UInt8), after sep (M ++ [[]]) = M.map (fun m => m ++ sep) ++ [[]]
  | [] => rfl
  | m :: M => by
    rw [List.cons_append, after_cons (by simp), after_snoc sep M]; rfl

/-- a stuffed line without its end -/
def dotted (l : List UInt8) : List UInt8 := if l.head? = some 46 then 46 :: l else l
theorem dotted_line (l : List UInt8) : stuffLine l = dotted l ++ [13, 10] := by
  unfold stuffLine dotted; split <;> simp
theorem dotted_trim (l : List UInt8) : trimDot (dotted l) = l := by
  unfold dotted; split
  · exact trim_yes l
  · rename_i h; exact trim_no h
theorem dotted_trim2 (l : List UInt8) : trimDot (dotted l ++ [13, 10]) = l ++ [13, 10] := by
  unfold dotted; split
  · exact trim_yes _
  · rename_i h
    refine trim_no ?_
    cases l with
    | nil => simp
    | cons a l => simpa using h
theorem dotted_no13 {l : List UInt8} (h : (13 : UInt8) ∉ l) : (13 : UInt8) ∉ dotted l := by
  unfold dotted; split
  · intro e
    rcases List.mem_cons.1 e with e | e
    · exact absurd e (by decide)
    · exact h e
  · exact h
theorem line_no13 {l : ByteArray} (h : lineOk l = true) : (13 : UInt8) ∉ l.data.toList := by
  intro e
  unfold lineOk at h
  simp only [Bool.and_eq_true, Bool.not_eq_true'] at h
  have h13 := h.2.1
  unfold hasN at h13
  rw [okAll_list, any_nat _ (by decide)] at h13
  have h2 : l.data.toList.contains (UInt8.ofNat 13) = true := List.contains_iff_mem.2 e
  rw [h2] at h13; cases h13

/-- the body out of its lines -/
theorem body_join {b : ByteArray} (hlast : ((pieces ⟨#[13, 10]⟩ b).getLastD ⟨#[]⟩).size = 0) : (((pieces ⟨#[13, 10]⟩ b).dropLast.map (·.data.toList)).map fun l => l ++ [13, 10]).flatten = b.data.toList := by
  obtain ⟨L, hL⟩ : ∃ L : List (List UInt8), L = (pieces ⟨#[13, 10]⟩ b).dropLast.map (·.data.toList) := ⟨_, rfl⟩
  rw [← hL]
  have e1 : pcs [13, 10] 0 [] b.data.toList = L ++ [[]] := by
    have e2 : (pieces ⟨#[13, 10]⟩ b).map (·.data.toList) = pcs [13, 10] 0 [] b.data.toList := by
      unfold pieces; rw [List.map_map]
      have : ((fun s : ByteArray => s.data.toList) ∘ mk) = id := funext fun l => data_mk l
      rw [this, List.map_id]
    rw [← e2]
    have e3 : pieces ⟨#[13, 10]⟩ b = (pieces ⟨#[13, 10]⟩ b).dropLast ++ [(pieces ⟨#[13, 10]⟩ b).getLastD ⟨#[]⟩] := by
      have hne := pieces_ne ⟨#[13, 10]⟩ b
      rw [List.getLastD_eq_getLast?, List.getLast?_eq_some_getLast hne]
      exact (List.dropLast_concat_getLast hne).symm
    have e4 : ((pieces ⟨#[13, 10]⟩ b).getLastD ⟨#[]⟩).data.toList = [] := List.eq_nil_of_length_eq_zero (by rw [← Lib.size_eq]; exact hlast)
    conv => lhs; rw [e3]
    rw [List.map_append, ← hL, List.map_cons, List.map_nil, e4]
  have := after_join (sep := [13, 10]) (by simp) b.data.toList.length b.data.toList [] (Nat.le_refl _)
  rw [e1, after_snoc, List.flatten_append] at this
  simpa using this
theorem stuff_data0 {b : ByteArray} (h : bodyOk b = true) : (stuffB b).data.toList = stuffL (pieces ⟨#[13, 10]⟩ b).dropLast ++ [46, 13, 10] := by
  unfold stuffB; rw [if_pos h]; rfl
theorem stuff_size {b : ByteArray} (h : bodyOk b = true) : (stuffB b).size ≤ 6003 := by
  have hd := stuff_data0 h
  unfold bodyOk linesOk at h
  simp only [Bool.and_eq_true, decide_eq_true_eq] at h
  obtain ⟨h3, _, hlast⟩ := h
  have hj := congrArg List.length (body_join hlast)
  rw [← Lib.size_eq] at hj
  rw [Lib.size_eq, hd, List.length_append]
  have key : ∀ M : List ByteArray, (stuffL M).length ≤ 2 * ((M.map (·.data.toList)).map fun l => l ++ [13, 10]).flatten.length := by
    intro M
    induction M with
    | nil => simp [stuffL]
    | cons x M ih =>
      have h1 := stuffLine_len x.data.toList
      unfold stuffL at ih ⊢
      simp only [List.map_cons, List.flatten_cons, List.length_append, List.length_cons, List.length_nil] at ih ⊢
      omega
  have := key (pieces ⟨#[13, 10]⟩ b).dropLast
  simp only [List.length_cons, List.length_nil]
  omega
/-- what a valid body's stuffed form gives back -/
theorem stuff_back {b : ByteArray} (h : bodyOk b = true) : cand1 (stuffL (pieces ⟨#[13, 10]⟩ b).dropLast) = b.data.toList ∧ cand2 (stuffL (pieces ⟨#[13, 10]⟩ b).dropLast) = b.data.toList := by
  obtain ⟨n, hn⟩ : ∃ n, (pieces ⟨#[13, 10]⟩ b).length = n + 1 := ⟨(pieces ⟨#[13, 10]⟩ b).length - 1, by have := List.length_pos_iff.2 (pieces_ne ⟨#[13, 10]⟩ b); omega⟩
  unfold bodyOk linesOk at h
  simp only [Bool.and_eq_true, decide_eq_true_eq] at h
  obtain ⟨_, hall, hlast⟩ := h
  -- the lines as lists
  obtain ⟨L, hL⟩ : ∃ L : List (List UInt8), L = (pieces ⟨#[13, 10]⟩ b).dropLast.map (·.data.toList) := ⟨_, rfl⟩
  have hD : stuffL (pieces ⟨#[13, 10]⟩ b).dropLast = ((L.map dotted).map fun m => m ++ [13, 10]).flatten := by
    rw [hL, List.map_map, List.map_map]
    unfold stuffL
    congr 1
    refine List.map_congr_left fun x _ => ?_
    exact dotted_line _
  have h13 : ∀ m ∈ L.map dotted, (13 : UInt8) ∉ m := by
    intro m hm
    rw [hL, List.map_map] at hm
    obtain ⟨x, hx, rfl⟩ := List.mem_map.1 hm
    exact dotted_no13 (line_no13 (List.all_eq_true.1 hall x hx))
  have hP : pcs [13, 10] 0 [] (stuffL (pieces ⟨#[13, 10]⟩ b).dropLast) = L.map dotted ++ [[]] := by rw [hD]; exact pcs_lines _ h13
  have hb : (L.map fun l => l ++ [13, 10]).flatten = b.data.toList := by rw [hL]; exact body_join hlast
  constructor
  · unfold cand1
    rw [hP, after_snoc, List.map_append, List.flatten_append, List.map_map, List.map_map]
    have e : ((trimDot ∘ fun m => m ++ [13, 10]) ∘ dotted) = fun l : List UInt8 => l ++ [13, 10] := funext fun l => dotted_trim2 l
    have e0 : ([[]].map trimDot : List (List UInt8)).flatten = [] := rfl
    rw [e0, List.append_nil]
    show (L.map ((trimDot ∘ fun m => m ++ [13, 10]) ∘ dotted)).flatten = _
    rw [e]; exact hb
  · unfold cand2
    rw [hP, List.dropLast_concat, List.map_map]
    have e : ((fun m => trimDot m ++ [13, 10]) ∘ dotted) = fun l : List UInt8 => l ++ [13, 10] := funext fun l => by
      show trimDot (dotted l) ++ [13, 10] = _
      rw [dotted_trim]
    rw [e]; exact hb

/-- what Unstuff answers -/
def Unst (d r : ByteArray) (f : Bool) : Prop := (f = true ∧ bodyOk r = true ∧ stuffB r = d) ∨ (f = false ∧ r = ⟨#[]⟩ ∧ ∀ b, bodyOk b = true → stuffB b ≠ d)
theorem stuff_data {b : ByteArray} (h : bodyOk b = true) : (stuffB b).data.toList = stuffL (pieces ⟨#[13, 10]⟩ b).dropLast ++ [46, 13, 10] := by
  unfold stuffB; rw [if_pos h]; rfl
theorem stuff_inj {a b : ByteArray} (ha : bodyOk a = true) (hb : bodyOk b = true) (h : stuffB a = stuffB b) : a = b := by
  have e : stuffL (pieces ⟨#[13, 10]⟩ a).dropLast = stuffL (pieces ⟨#[13, 10]⟩ b).dropLast := by
    have := stuff_data ha
    rw [h, stuff_data hb] at this
    exact (List.append_cancel_right this).symm
  have e1 := (stuff_back ha).1
  rw [e, (stuff_back hb).1] at e1
  rw [← mk_data a, ← mk_data b, e1]
theorem unst_one {d r1 r2 : ByteArray} {f1 f2 : Bool} (h1 : Unst d r1 f1) (h2 : Unst d r2 f2) : r1 = r2 ∧ f1 = f2 := by
  rcases h1 with ⟨rfl, o1, e1⟩ | ⟨rfl, rfl, n1⟩ <;> rcases h2 with ⟨rfl, o2, e2⟩ | ⟨rfl, rfl, n2⟩
  · exact ⟨stuff_inj o1 o2 (e1.trans e2.symm), rfl⟩
  · exact absurd e1 (n2 _ o1)
  · exact absurd e2 (n1 _ o2)
  · exact ⟨rfl, rfl⟩
theorem body_of_stuff {c d : ByteArray} (h : stuffB c = d) (hd : d.size ≠ 0) : bodyOk c = true := by
  cases hb : bodyOk c with
  | true => rfl
  | false =>
    unfold stuffB at h
    rw [hb] at h
    exact absurd (by rw [← h]; rfl) hd
/-- a text that is no stuffed body -/
theorem unst_no {d : ByteArray} {D c : List UInt8} (hd : d.data.toList = D ++ [46, 13, 10]) (hc : c = cand1 D ∨ c = cand2 D) (hne : stuffB (mk c) ≠ d) : Unst d ⟨#[]⟩ false := by
  refine .inr ⟨rfl, rfl, fun b hb e => hne ?_⟩
  have h1 := stuff_data hb
  rw [e, hd] at h1
  have h2 := List.append_cancel_right h1
  have : c = b.data.toList := by
    rcases hc with rfl | rfl
    · rw [h2]; exact (stuff_back hb).1
    · rw [h2]; exact (stuff_back hb).2
  rw [this, mk_data]; exact e
theorem unst_noend {d : ByteArray} (h : Lib.hasSuffix d.data.toList [46, 13, 10] = false) : Unst d ⟨#[]⟩ false := by
  refine .inr ⟨rfl, rfl, fun b hb e => ?_⟩
  have h1 := stuff_data hb
  rw [e] at h1
  rw [h1] at h
  rw [show Lib.hasSuffix (stuffL (pieces ⟨#[13, 10]⟩ b).dropLast ++ [46, 13, 10]) [46, 13, 10] = true from List.isSuffixOf_iff_suffix.2 (List.suffix_append _ _)] at h
  cases h
theorem unst_long {d : ByteArray} (h : 6003 < d.size) : Unst d ⟨#[]⟩ false := by
  refine .inr ⟨rfl, rfl, fun b hb e => ?_⟩
  have := stuff_size hb
  rw [e] at this; omega
theorem unst_short {d : ByteArray} (h : d.size < 3) : Unst d ⟨#[]⟩ false := by
  refine .inr ⟨rfl, rfl, fun b hb e => ?_⟩
  have h1 := congrArg List.length (stuff_data hb)
  rw [e, ← Lib.size_eq, List.length_append] at h1
  simp only [List.length_cons, List.length_nil] at h1
  omega
theorem cand1_len (d : List UInt8) : (cand1 d).length ≤ d.length := by
  have h := congrArg List.length (after_join (sep := [13, 10]) (by simp) d.length d [] (Nat.le_refl _))
  rw [List.nil_append] at h
  unfold cand1
  rw [← h]
  generalize after [13, 10] (pcs [13, 10] 0 [] d) = M
  induction M with
  | nil => simp
  | cons x M ih =>
    have := trim_le x
    simp only [List.map_cons, List.flatten_cons, List.length_append]
    omega
end Go.Proofs.YtlolnfpfipnfeaaGreatDoor
