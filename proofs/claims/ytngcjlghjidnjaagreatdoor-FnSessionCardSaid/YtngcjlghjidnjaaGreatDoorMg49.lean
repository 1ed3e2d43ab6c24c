import Derived.Test.YtngcjlghjidnjaaGreatDoorMg46
import Derived.Test.YtngcjlghjidnjaaGreatDoorMg9
namespace Go.Proofs.YtngcjlghjidnjaaGreatDoor
open Pcs

/-- RCPT lines, one behind another -/
def accR (a : ByteArray) (L : List ByteArray) : ByteArray := L.foldl (fun a r => a ++ cmdB 4 r) a
theorem accR_cat (a : ByteArray) : ∀ (L : List ByteArray) (b : ByteArray), accR (a ++ b) L = a ++ accR b L
  | [], _ => rfl
  | r :: L, b => by
    show accR (a ++ b ++ cmdB 4 r) L = a ++ accR (b ++ cmdB 4 r) L
    rw [cat_assoc, accR_cat a L]
theorem accR_two (a : ByteArray) (L M : List ByteArray) : accR a (L ++ M) = accR (accR a L) M := List.foldl_append
theorem accR_pre (a : ByteArray) (L : List ByteArray) : accR a L = a ++ accR ⟨#[]⟩ L := by
  have := accR_cat a L ⟨#[]⟩
  rw [cat_nil] at this
  exact this
theorem accR_snoc (a : ByteArray) (L : List ByteArray) (r : ByteArray) : accR a (L ++ [r]) = accR a L ++ cmdB 4 r := accR_two a L [r]
def hdB (b : Bool) (he : ByteArray) : ByteArray := if b then cmdB 1 he ++ cmdB 2 he else cmdB 1 he
def allB (fr bo : ByteArray) (R : List ByteArray) : ByteArray := accR (cmdB 3 fr) R ++ (cmdB 5 ⟨#[]⟩ ++ stuffB bo)
def lineB (s : Sn) (b : Bool) : ByteArray := hdB b s.he ++ allB s.fr s.bo s.R
def Pre (P L : ByteArray) : Prop := ∃ r, L = P ++ r
theorem Pre.refl (P : ByteArray) : Pre P P := ⟨⟨#[]⟩, (cat_nil P).symm⟩
theorem Pre.cat (P r : ByteArray) : Pre P (P ++ r) := ⟨r, rfl⟩
theorem Pre.more {P L : ByteArray} (h : Pre P L) (r : ByteArray) : Pre P (L ++ r) := by
  obtain ⟨x, rfl⟩ := h
  exact ⟨x ++ r, cat_assoc _ _ _⟩
theorem Pre.front {P L : ByteArray} (h : Pre P L) (a : ByteArray) : Pre (a ++ P) (a ++ L) := by
  obtain ⟨x, rfl⟩ := h
  exact ⟨x, (cat_assoc _ _ _).symm⟩
theorem pre_acc (a : ByteArray) (R : List ByteArray) (n : Nat) : Pre (accR a (R.take n)) (accR a R) := by
  refine ⟨accR ⟨#[]⟩ (R.drop n), ?_⟩
  rw [← accR_pre, ← accR_two, List.take_append_drop]
/-- whom nothing has been said of has been taken -/
def Und (s : Sn) (n : Nat) : Prop := ∀ i, i < n → (s.V.getD i vd0).1 = 0 → s.T.getD i false = true
def Mid (s : Sn) (sent : ByteArray) (b : Bool) : Prop := (∀ v ∈ s.V, v.1 ≠ 1) ∧
  ((s.ph = 1 ∧ sent = ⟨#[]⟩ ∧ b = false) ∨ (s.ph = 2 ∧ sent = hdB b s.he ∧ b = false) ∨ (s.ph = 3 ∧ sent = hdB b s.he ∧ b = true) ∨ (s.ph = 4 ∧ sent = hdB b s.he ++ cmdB 3 s.fr) ∨
   (s.ph = 5 ∧ sent = hdB b s.he ++ accR (cmdB 3 s.fr) (s.R.take (s.nx + 1)) ∧ Und s s.nx) ∨
   (s.ph = 6 ∧ sent = hdB b s.he ++ (accR (cmdB 3 s.fr) s.R ++ cmdB 5 ⟨#[]⟩) ∧ Und s s.R.length) ∨ (s.ph = 7 ∧ sent = lineB s b ∧ Und s s.R.length))
def Fin (s : Sn) (sent : ByteArray) (b : Bool) : Prop := 8 ≤ s.ph ∧ (∀ v ∈ s.V, v.1 ≠ 0) ∧ ∃ P, Pre P (lineB s b) ∧ (b = true → Pre (hdB true s.he) P) ∧ (sent = P ∨ sent = P ++ tQuit) ∧ ∀ i, i < s.V.length → (s.V.getD i vd0).1 = 1 → s.T.getD i false = true ∧ P = lineB s b ∧ sent = P ++ tQuit
theorem Mid.pre {s : Sn} {sent : ByteArray} {b : Bool} (h : Mid s sent b) : Pre sent (lineB s b) ∧ (b = true → Pre (hdB true s.he) sent) := by
  unfold lineB allB
  rcases h.2 with ⟨_, rfl, rfl⟩ | ⟨_, rfl, rfl⟩ | ⟨_, rfl, rfl⟩ | ⟨_, rfl⟩ | ⟨_, rfl, _⟩ | ⟨_, rfl, _⟩ | ⟨_, rfl, _⟩
  · exact ⟨⟨_, (nil_cat _).symm⟩, fun e => by cases e⟩
  · exact ⟨Pre.cat _ _, fun e => by cases e⟩
  · exact ⟨Pre.cat _ _, fun _ => Pre.refl _⟩
  · refine ⟨Pre.front (Pre.more ?_ _) _, fun e => by rw [e]; exact Pre.cat _ _⟩
    rw [accR_pre]
    exact Pre.cat _ _
  · exact ⟨Pre.front (Pre.more (pre_acc _ _ _) _) _, fun e => by rw [e]; exact Pre.cat _ _⟩
  · refine ⟨Pre.front (Pre.front (Pre.cat _ _) _) _, fun e => by rw [e]; exact Pre.cat _ _⟩
  · exact ⟨Pre.refl _, fun e => by unfold lineB; rw [e]; exact Pre.cat _ _⟩
theorem getD_mem {V : List Vd} {i : Nat} (h : i < V.length) : V.getD i vd0 ∈ V := by
  rw [List.getD_eq_getElem?_getD, List.getElem?_eq_getElem h]
  exact List.getElem_mem h
theorem dec_ne {v : Vd} {V : List Vd} (h0 : v.1 ≠ 0) : ∀ x ∈ decV v V, x.1 ≠ 0 := by
  intro x hx
  obtain ⟨y, hy, rfl⟩ := List.mem_map.1 hx
  unfold dec1
  split
  · exact h0
  · assumption
theorem dec_no1 {v : Vd} {V : List Vd} (h1 : v.1 ≠ 1) (hV : ∀ x ∈ V, x.1 ≠ 1) : ∀ x ∈ decV v V, x.1 ≠ 1 := by
  intro x hx
  obtain ⟨y, hy, rfl⟩ := List.mem_map.1 hx
  unfold dec1
  split
  · exact h1
  · exact hV y hy
theorem Mid.fin {s : Sn} {sent : ByteArray} {b : Bool} (h : Mid s sent b) {v : Vd} (h0 : v.1 ≠ 0) (h1 : v.1 ≠ 1) {ph : Int} (h8 : 8 ≤ ph) (bb : ByteArray) {sent' : ByteArray} (hs : sent' = sent ∨ sent' = sent ++ tQuit) : Fin { (s.dec v).to ph with buf := bb } sent' b := by
  refine ⟨h8, dec_ne h0, sent, h.pre.1, h.pre.2, hs, ?_⟩
  intro i hi e
  exact absurd e (dec_no1 h1 h.1 _ (getD_mem hi))
theorem ref_ne (c : Nat) (t : ByteArray) : (refV c t).1 ≠ 0 ∧ (refV c t).1 ≠ 1 := by
  unfold refV
  dsimp only
  split <;> decide
/-- what a dialogue has come to, and what it has sent -/
def Hist (s : Sn) (sent : ByteArray) : Prop := ∃ b, Mid s sent b ∨ Fin s sent b
theorem Hist.buf {s : Sn} {sent : ByteArray} (h : Hist s sent) (bb : ByteArray) : Hist { s with buf := bb } sent := h
theorem Mid.quit {s : Sn} {sent : ByteArray} {b : Bool} (h : Mid s sent b) {v : Vd} (h0 : v.1 ≠ 0) (h1 : v.1 ≠ 1) : Hist (s.quit v).1 (sent ++ (s.quit v).2) := ⟨b, .inr (h.fin h0 h1 (ph := 8) (by decide) s.buf (.inr rfl))⟩
theorem set_getD_eq {α : Type} {L : List α} {n : Nat} {x y : α} (h : n < L.length) : (L.set n x).getD n y = x := by simp [h]
theorem set_getD_ne {α : Type} {L : List α} {n i : Nat} {x y : α} (h : n ≠ i) : (L.set n x).getD i y = L.getD i y := by simp [List.getElem?_set_ne h]
theorem hist_rcpt {s : Sn} (hk : s.Ok) {sent : ByteArray} {b : Bool} (hV : ∀ v ∈ s.V, v.1 ≠ 1) (h5 : s.ph = 5) (hs : sent = hdB b s.he ++ accR (cmdB 3 s.fr) (s.R.take (s.nx + 1))) (hu : Und s s.nx) (c : Nat) (t : ByteArray) :
    Hist (s.mark c t).next.1 (sent ++ (s.mark c t).next.2) := by
  obtain ⟨m1, m2, m3, m4, m5, m6, m7, m8, m9⟩ := hk.mark c t h5
  have hn := hk.n5 h5
  have hU : Und (s.mark c t) (s.nx + 1) := by
    intro i hi
    unfold Sn.mark
    split
    · dsimp only
      by_cases e : s.nx = i
      · intro _; rw [← e]; exact set_getD_eq (by rw [hk.t]; exact hn)
      · rw [set_getD_ne e]; exact hu i (by omega)
    · dsimp only
      by_cases e : s.nx = i
      · intro e0; rw [← e, set_getD_eq (by rw [hk.v]; exact hn)] at e0; exact absurd e0 (ref_ne c t).1
      · rw [set_getD_ne e]; exact hu i (by omega)
  have hV1 : ∀ v ∈ (s.mark c t).V, v.1 ≠ 1 := by
    intro v hv
    unfold Sn.mark at hv
    split at hv
    · exact hV v hv
    · rcases List.mem_or_eq_of_mem_set hv with e | e
      · exact hV v e
      · rw [e]; exact (ref_ne c t).2
  have hs2 : sent = hdB b (s.mark c t).he ++ accR (cmdB 3 (s.mark c t).fr) ((s.mark c t).R.take (s.mark c t).nx) := by rw [m6, m7, m5, m3]; exact hs
  have hkT : (s.mark c t).T.length = (s.mark c t).R.length := by rw [m1, m5]
  have hkV : (s.mark c t).V.length = (s.mark c t).R.length := by rw [m2, m5]
  have hn2 : (s.mark c t).nx ≤ (s.mark c t).R.length := by rw [m3, m5]; omega
  rw [← m3] at hU
  generalize s.mark c t = x at *
  unfold Sn.next
  split
  · rename_i hl
    refine ⟨b, .inl ⟨hV1, .inr (.inr (.inr (.inr (.inl ⟨m4, ?_, hU⟩))))⟩⟩
    rw [hs2, List.take_add_one, List.getElem?_eq_getElem hl]
    show _ = _ ++ accR _ (_ ++ [x.R[x.nx]])
    rw [accR_snoc, cat_assoc, List.getD_eq_getElem?_getD, List.getElem?_eq_getElem hl]
    rfl
  · rename_i hl
    have he : x.nx = x.R.length := by omega
    rw [he, List.take_length] at hs2
    rw [he] at hU
    split
    · refine ⟨b, .inl ⟨hV1, .inr (.inr (.inr (.inr (.inr (.inl ⟨rfl, ?_, hU⟩)))))⟩⟩
      rw [hs2, cat_assoc]
      rfl
    · rename_i hT
      refine ⟨b, .inr ⟨by show (8 : Int) ≤ 8; decide, ?_, sent, ?_, ?_, .inr rfl, ?_⟩⟩
      · intro v hv e0
        obtain ⟨i, hi, rfl⟩ := List.getElem_of_mem (show v ∈ x.V from hv)
        have hiR : i < x.R.length := by rw [← hkV]; exact hi
        have e1 : (x.V.getD i vd0).1 = 0 := by rw [List.getD_eq_getElem?_getD, List.getElem?_eq_getElem hi]; exact e0
        have e2 := hU i hiR e1
        have hiT : i < x.T.length := by rw [hkT]; exact hiR
        rw [List.getD_eq_getElem?_getD, List.getElem?_eq_getElem hiT] at e2
        have e3 : x.T[i] = true := e2
        exact hT (by rw [← e3]; exact List.getElem_mem hiT)
      · rw [hs2]
        exact Pre.front (Pre.cat _ _) _
      · intro e
        rw [hs2, e]
        exact Pre.cat _ _
      · intro i hi e
        exact absurd e (hV1 _ (getD_mem hi))
set_option maxHeartbeats 1000000 in
theorem hist_take {s : Sn} (hk : s.Ok) {sent : ByteArray} (h : Hist s sent) (h9 : s.ph ≠ 9) (c : Nat) (L : List ByteArray) : Hist (s.take c L).1 (sent ++ (s.take c L).2) := by
  obtain ⟨b, h⟩ := h
  rcases h with h | h
  · have r := ref_ne c (L.getD 0 ⟨#[]⟩)
    by_cases hc : c = 421
    · subst hc
      have h8 : s.ph ≠ 8 := by rcases h.2 with h | h | h | h | h | h | h <;> (have := h.1; omega)
      rw [take_421 h8, cat_nil]
      exact ⟨b, .inr (h.fin r.1 r.2 (ph := 9) (by decide) s.buf (.inl rfl))⟩
    have h2 := h
    rcases h2.2 with ⟨p, e, eb⟩ | ⟨p, e, eb⟩ | ⟨p, e, eb⟩ | ⟨p, e⟩ | ⟨p, e, u⟩ | ⟨p, e, u⟩ | ⟨p, e, u⟩
    · rw [take_1 p hc]
      split
      · refine ⟨false, .inl ⟨h.1, .inr (.inl ⟨rfl, ?_, rfl⟩)⟩⟩
        rw [e, nil_cat]; rfl
      · exact h.quit r.1 r.2
    · rw [take_2 p hc]
      split
      · split
        · exact h.quit (v := (3, 552, ⟨#[115, 105, 122, 101]⟩)) (by decide) (by decide)
        · refine ⟨b, .inl ⟨h.1, .inr (.inr (.inr (.inl ⟨rfl, ?_⟩)))⟩⟩
          rw [e]; rfl
      · split
        · refine ⟨true, .inl ⟨h.1, .inr (.inr (.inl ⟨rfl, ?_, rfl⟩))⟩⟩
          rw [e, eb]; rfl
        · exact h.quit r.1 r.2
    · rw [take_3 p hc]
      split
      · refine ⟨b, .inl ⟨h.1, .inr (.inr (.inr (.inl ⟨rfl, ?_⟩)))⟩⟩
        rw [e]; rfl
      · exact h.quit r.1 r.2
    · rw [take_4 p hc]
      split
      · refine ⟨b, .inl ⟨h.1, .inr (.inr (.inr (.inr (.inl ⟨rfl, ?_, fun i hi => absurd hi (Nat.not_lt_zero _)⟩))))⟩⟩
        have hr := hk.r1
        show sent ++ cmdB 4 (s.R.getD 0 ⟨#[]⟩) = hdB b s.he ++ accR (cmdB 3 s.fr) (s.R.take 1)
        rw [e, cat_assoc]
        cases hR : s.R with
        | nil => rw [hR] at hr; exact absurd hr (by simp)
        | cons x l => rfl
      · exact h.quit r.1 r.2
    · rw [take_5 p hc]
      exact hist_rcpt hk h.1 p e u c _
    · rw [take_6 p hc]
      split
      · refine ⟨b, .inl ⟨h.1, .inr (.inr (.inr (.inr (.inr (.inr ⟨rfl, ?_, u⟩)))))⟩⟩
        show sent ++ stuffB s.bo = hdB b s.he ++ (accR (cmdB 3 s.fr) s.R ++ (cmdB 5 ⟨#[]⟩ ++ stuffB s.bo))
        rw [e, cat_assoc, cat_assoc]
      · exact h.quit r.1 r.2
    · rw [take_7 p hc]
      split
      · refine ⟨b, .inr ⟨by show (8 : Int) ≤ 8; decide, dec_ne (v := (1, 250, L.getD 0 ⟨#[]⟩)) (by show (1 : Int) ≠ 0; decide), sent, h.pre.1, h.pre.2, .inr rfl, ?_⟩⟩
        intro i hi e1
        refine ⟨?_, e, rfl⟩
        have hi2 : i < s.V.length := by rw [← decV_len (1, 250, L.getD 0 ⟨#[]⟩) s.V]; exact hi
        refine u i (by rw [← hk.v]; exact hi2) ?_
        have e2 : ((decV (1, 250, L.getD 0 ⟨#[]⟩) s.V).getD i vd0).1 = 1 := e1
        rw [List.getD_eq_getElem?_getD, decV, List.getElem?_map, List.getElem?_eq_getElem hi2] at e2
        rw [List.getD_eq_getElem?_getD, List.getElem?_eq_getElem hi2]
        have e3 : (dec1 (1, 250, L.getD 0 ⟨#[]⟩) s.V[i]).1 = 1 := e2
        show s.V[i].1 = 0
        unfold dec1 at e3
        split at e3
        · assumption
        · exact absurd e3 (h.1 _ (List.getElem_mem hi2))
      · exact h.quit r.1 r.2
  · have h8 : s.ph = 8 := by have := h.1; have := hk.p9; omega
    rw [take_8 h8, cat_nil]
    exact ⟨b, .inr ⟨by show (8 : Int) ≤ 9; decide, h.2⟩⟩
theorem hist_lost {s : Sn} {sent : ByteArray} (h : Hist s sent) (t : ByteArray) : Hist (s.lost t) sent := by
  obtain ⟨b, h⟩ := h
  rcases h with h | h
  · exact ⟨b, .inr (h.fin (v := (2, 0, t)) (by show (2 : Int) ≠ 0; decide) (by show (2 : Int) ≠ 1; decide) (ph := 9) (by decide) ⟨#[]⟩ (.inl rfl))⟩
  · obtain ⟨_, hV, P, hP⟩ := h
    have eV : decV (2, 0, t) s.V = s.V := by
      unfold decV
      refine (List.map_congr_left (g := id) ?_).trans (List.map_id _)
      intro x hx
      unfold dec1
      rw [if_neg (hV x hx)]
      rfl
    refine ⟨b, .inr ⟨by show (8 : Int) ≤ 9; decide, ?_, P, ?_⟩⟩
    · show ∀ v ∈ decV (2, 0, t) s.V, v.1 ≠ 0
      rw [eV]; exact hV
    · show Pre P (lineB s b) ∧ _ ∧ _ ∧ ∀ i, i < (decV (2, 0, t) s.V).length → ((decV (2, 0, t) s.V).getD i vd0).1 = 1 → _
      rw [eV]; exact hP
theorem hist_rep : ∀ (k : Nat) (s : Sn) (sent : ByteArray), s.Pr → s.ph ≠ 9 → Hist s sent → Hist (Sn.rep k s).1 (sent ++ (Sn.rep k s).2)
  | 0, s, sent, _, _, h => by rw [Sn.rep, cat_nil]; exact h
  | k + 1, s, sent, hk, h9, h => by
    rcases hp : parse s.buf with _ | _ | ⟨c, L, u⟩
    · rw [rep_bad hp, cat_nil]
      exact hist_lost h tBad
    · rw [rep_more hp, cat_nil]; exact h
    · obtain ⟨c1, c2, c3⟩ := parse_code hp
      have hz : (s.buf.extract u s.buf.size).size ≤ s.buf.size := by rw [ByteArray.size_extract]; omega
      have hkc := hk.bufTo (b := s.buf.extract u s.buf.size) (by have := hk.ok.bf; omega)
      have ht := hist_take hkc.ok (h.buf _) h9 c L
      have hkt := hkc.take L c1 c2 c3
      rw [rep_ok hp]
      split
      · exact ht.buf _
      · rename_i hq
        have := hist_rep k _ _ hkt hq ht
        rw [cat_assoc] at this
        exact this
theorem lost_same (s : Sn) (t : ByteArray) : (s.lost t).he = s.he ∧ (s.lost t).fr = s.fr ∧ (s.lost t).bo = s.bo ∧ (s.lost t).R = s.R := ⟨rfl, rfl, rfl, rfl⟩
def Same (s t : Sn) : Prop := t.he = s.he ∧ t.fr = s.fr ∧ t.bo = s.bo ∧ t.R = s.R
theorem Same.trans {s t u : Sn} (h : Same s t) (k : Same t u) : Same s u := ⟨k.1.trans h.1, k.2.1.trans h.2.1, k.2.2.1.trans h.2.2.1, k.2.2.2.trans h.2.2.2⟩
theorem take_same (s : Sn) (c : Nat) (L : List ByteArray) : Same s (s.take c L).1 := by
  have hm : ∀ t, Same s (s.mark c t) := fun t => by unfold Sn.mark; split <;> exact ⟨rfl, rfl, rfl, rfl⟩
  have hn : ∀ x : Sn, Same x x.next.1 := fun x => by unfold Sn.next; repeat' split <;> try exact ⟨rfl, rfl, rfl, rfl⟩
  unfold Sn.take
  repeat' split
  all_goals first
    | exact ⟨rfl, rfl, rfl, rfl⟩
    | exact (hm _).trans (hn _)
theorem rep_same : ∀ (k : Nat) (s : Sn), Same s (Sn.rep k s).1
  | 0, s => ⟨rfl, rfl, rfl, rfl⟩
  | k + 1, s => by
    rcases hp : parse s.buf with _ | _ | ⟨c, L, u⟩
    · rw [rep_bad hp]; exact ⟨rfl, rfl, rfl, rfl⟩
    · rw [rep_more hp]; exact ⟨rfl, rfl, rfl, rfl⟩
    · have h1 : Same s (Sn.take { s with buf := s.buf.extract u s.buf.size } c L).1 := take_same { s with buf := s.buf.extract u s.buf.size } c L
      rw [rep_ok hp]
      split
      · exact h1
      · exact h1.trans (rep_same k _)
theorem hist_feed {s : Sn} (hk : s.Pr) {sent : ByteArray} (h : Hist s sent) (kind : Int) (d : ByteArray) : Hist (s.feed true kind d).1 (sent ++ (s.feed true kind d).2) ∧ Same s (s.feed true kind d).1 := by
  unfold Sn.feed
  rw [if_neg (by decide)]
  split
  · exact ⟨by rw [cat_nil]; exact h, rfl, rfl, rfl, rfl⟩
  · rename_i h9
    split
    · exact ⟨by rw [cat_nil]; exact hist_lost h _, rfl, rfl, rfl, rfl⟩
    · split
      · exact ⟨by rw [cat_nil]; exact hist_lost h _, rfl, rfl, rfl, rfl⟩
      · split
        · exact ⟨by rw [cat_nil]; exact hist_lost h _, rfl, rfl, rfl, rfl⟩
        · rename_i hz
          exact ⟨hist_rep _ _ _ (hk.bufTo (b := s.buf ++ d) (by rw [ByteArray.size_append]; omega)) h9 (h.buf _), rep_same _ { s with buf := s.buf ++ d }⟩
/-- a session that is closed is done -/
theorem feed_close (s : Sn) (d : ByteArray) : (s.feed true 2 d).1.ph = 9 := by
  unfold Sn.feed
  rw [if_neg (by decide)]
  split
  · assumption
  · rw [if_neg (by decide), if_pos (by decide)]
    rfl
theorem Hist.done {s : Sn} {sent : ByteArray} (h : Hist s sent) (h9 : s.ph = 9) : ∃ b, Fin s sent b := by
  obtain ⟨b, h | h⟩ := h
  · rcases h.2 with h | h | h | h | h | h | h <;> (have := h.1; omega)
  · exact ⟨b, h⟩
end Go.Proofs.YtngcjlghjidnjaaGreatDoor
namespace Go.Proofs.YtngcjlghjidnjaaGreatDoor
open Pcs

theorem cat_parts (d : ByteArray) (k : Nat) : d.extract 0 k ++ d.extract k d.size = d := by
  have h1 : d.size = d.data.toList.length := by rw [Array.length_toList]; rfl
  apply ByteArray.ext
  apply Array.ext'
  rw [cat_list, ByteArray.data_extract, ByteArray.data_extract, Array.toList_extract, Array.toList_extract, List.extract_eq_take_drop, List.extract_eq_take_drop, h1, List.drop_zero, Nat.sub_zero, List.take_of_length_le (i := _ - _) (by simp only [List.length_drop]; omega)]
  exact List.take_append_drop _ _
theorem ext_front (t r : ByteArray) : (t ++ r).extract 0 t.size = t := by
  have h1 : t.size = t.data.toList.length := by rw [Array.length_toList]; rfl
  apply ByteArray.ext
  apply Array.ext'
  rw [ByteArray.data_extract, Array.toList_extract, cat_list, List.extract_eq_take_drop, List.drop_zero, Nat.sub_zero, h1, List.take_left]
theorem ext_back (t r : ByteArray) : (t ++ r).extract t.size (t ++ r).size = r := by
  have h1 : t.size = t.data.toList.length := by rw [Array.length_toList]; rfl
  have h2 : (t ++ r).size = (t ++ r).data.toList.length := by rw [Array.length_toList]; rfl
  apply ByteArray.ext
  apply Array.ext'
  rw [ByteArray.data_extract, Array.toList_extract, h2, cat_list, List.extract_eq_take_drop, h1, List.drop_left, List.take_of_length_le (by simp only [List.length_append]; omega)]
/-- s begins with t -/
def begB (s t : ByteArray) : Bool := decide (t.size ≤ s.size ∧ s.extract 0 t.size = t)
theorem beg_iff {s t : ByteArray} : begB s t = true ↔ Pre t s := by
  unfold begB
  rw [decide_eq_true_eq]
  constructor
  · rintro ⟨_, h⟩
    refine ⟨s.extract t.size s.size, ?_⟩
    have := cat_parts s t.size
    rw [h] at this
    exact this.symm
  · rintro ⟨r, rfl⟩
    exact ⟨by rw [ByteArray.size_append]; omega, ext_front t r⟩
theorem quit_size : tQuit.size = 6 := by decide
def endsQ (sent : ByteArray) : Bool := decide (6 ≤ sent.size ∧ sent.extract (sent.size - 6) sent.size = tQuit)
/-- what was sent, less a QUIT that the line does not have -/
def bareB (line sent : ByteArray) : ByteArray := if endsQ sent = true ∧ begB line sent = false then sent.extract 0 (sent.size - 6) else sent
theorem quit_cut (P : ByteArray) : (P ++ tQuit).extract 0 ((P ++ tQuit).size - 6) = P ∧ endsQ (P ++ tQuit) = true := by
  have h : (P ++ tQuit).size - 6 = P.size := by rw [ByteArray.size_append, quit_size]; omega
  unfold endsQ
  rw [h, decide_eq_true_eq]
  exact ⟨ext_front _ _, by rw [ByteArray.size_append, quit_size]; omega, ext_back _ _⟩
theorem bare_right {s : Sn} {sent : ByteArray} {b : Bool} (h : Fin s sent b) : begB (lineB s b) (bareB (lineB s b) sent) = true := by
  obtain ⟨_, _, P, hP, _, hs, _⟩ := h
  unfold bareB
  rcases hs with rfl | rfl
  · rw [if_neg (by rw [beg_iff.2 hP]; simp)]
    exact beg_iff.2 hP
  · split
    · rw [(quit_cut P).1]; exact beg_iff.2 hP
    · rename_i hn
      cases hb : begB (lineB s b) (P ++ tQuit) with
      | true => rfl
      | false => exact absurd ⟨(quit_cut P).2, hb⟩ hn
theorem bare_full {s : Sn} {sent : ByteArray} {b : Bool} (h : Fin s sent b) {i : Nat} (hi : i < s.V.length) (h1 : (s.V.getD i vd0).1 = 1) : bareB (lineB s b) sent = lineB s b ∧ s.T.getD i false = true := by
  obtain ⟨_, _, P, hP, _, hs, hv⟩ := h
  obtain ⟨hT, rfl, rfl⟩ := hv i hi h1
  refine ⟨?_, hT⟩
  have hb : begB (lineB s b) (lineB s b ++ tQuit) = false := by
    unfold begB
    rw [decide_eq_false]
    rintro ⟨hz, _⟩
    rw [ByteArray.size_append, quit_size] at hz
    omega
  unfold bareB
  rw [if_pos ⟨(quit_cut _).2, hb⟩, (quit_cut _).1]
theorem helo_list {he : ByteArray} (h : domOk he = true) : ∃ t, (cmdB 2 he).data.toList = 72 :: t ∧ 6 ≤ t.length := by
  have e : cmdB 2 he = (⟨#[72, 69, 76, 79, 32]⟩ : ByteArray) ++ he ++ ⟨#[13, 10]⟩ := by
    unfold cmdB
    rw [if_neg (by decide), if_pos rfl, if_pos h]
    rfl
  refine ⟨[69, 76, 79, 32] ++ he.data.toList ++ [13, 10], ?_, by simp⟩
  rw [e, cat_list, cat_list]
  rfl
theorem mail_list {fr : ByteArray} (h : fr.size = 0 ∨ addrOk fr = true) : ∃ t, (cmdB 3 fr).data.toList = 77 :: t := by
  have e : cmdB 3 fr = (⟨#[77, 65, 73, 76, 32, 70, 82, 79, 77, 58, 60]⟩ : ByteArray) ++ fr ++ ⟨#[62, 13, 10]⟩ := by
    unfold cmdB
    rw [if_neg (by decide), if_neg (by decide), if_pos rfl, if_pos h]
    rfl
  refine ⟨[65, 73, 76, 32, 70, 82, 79, 77, 58, 60] ++ fr.data.toList ++ [62, 13, 10], ?_⟩
  rw [e, cat_list, cat_list]
  rfl
theorem Sn.Pr.parts {s : Sn} (h : s.Pr) : domOk s.he = true ∧ (s.fr.size = 0 ∨ addrOk s.fr = true) ∧ ∀ r ∈ s.R, addrOk r = true := by
  obtain ⟨⟨_, _, _, h4, h5, _⟩, _⟩ := Sn.pr_iff.1 h
  unfold whomN at h5
  simp only [Bool.and_eq_true, Bool.or_eq_true, decide_eq_true_eq, List.all_eq_true] at h5
  exact ⟨h4, h5.1, h5.2.2.2⟩
theorem bare_wrong {s : Sn} (hk : s.Pr) {sent : ByteArray} (h : Fin s sent true) : begB (lineB s false) (bareB (lineB s false) sent) = false := by
  obtain ⟨hd, hf, _⟩ := hk.parts
  obtain ⟨_, _, P, _, hE, hs, _⟩ := h
  obtain ⟨r, hr⟩ := hE rfl
  obtain ⟨t, ht, htl⟩ := helo_list hd
  obtain ⟨m, hm⟩ := mail_list hf
  have hh : hdB true s.he = cmdB 1 s.he ++ cmdB 2 s.he := rfl
  obtain ⟨x, hx⟩ : ∃ x : List UInt8, sent.data.toList = (cmdB 1 s.he).data.toList ++ 72 :: (t ++ x) := by
    rcases hs with rfl | rfl
    · exact ⟨r.data.toList, by rw [hr, hh, cat_list, cat_list, ht]; simp⟩
    · exact ⟨r.data.toList ++ tQuit.data.toList, by rw [hr, hh, cat_list, cat_list, cat_list, ht]; simp⟩
  have hsz : sent.size = sent.data.toList.length := by rw [Array.length_toList]; rfl
  obtain ⟨y, hy⟩ : ∃ y : List UInt8, (bareB (lineB s false) sent).data.toList = (cmdB 1 s.he).data.toList ++ 72 :: y := by
    unfold bareB
    split
    · refine ⟨(t ++ x).take (t.length + x.length - 6), ?_⟩
      rw [ByteArray.data_extract, Array.toList_extract, List.extract_eq_take_drop, List.drop_zero, Nat.sub_zero, hsz, hx]
      have e : ((cmdB 1 s.he).data.toList ++ 72 :: (t ++ x)).length - 6 = (cmdB 1 s.he).data.toList.length + ((t.length + x.length - 6) + 1) := by
        simp only [List.length_append, List.length_cons]
        omega
      rw [e, List.take_length_add_append, List.take_succ_cons]
    · exact ⟨t ++ x, hx⟩
  rw [Bool.eq_false_iff]
  intro hb
  obtain ⟨z, hz⟩ := beg_iff.1 hb
  have hz2 : (lineB s false).data.toList = (bareB (lineB s false) sent).data.toList ++ z.data.toList := by
    have := congrArg (fun q : ByteArray => q.data.toList) hz
    rw [cat_list] at this
    exact this
  have hl : (lineB s false).data.toList = (cmdB 1 s.he).data.toList ++ (77 :: (m ++ (accR ⟨#[]⟩ s.R).data.toList) ++ (cmdB 5 ⟨#[]⟩ ++ stuffB s.bo).data.toList) := by
    unfold lineB allB
    rw [accR_pre, cat_list, cat_list, cat_list, hm]
    rfl
  rw [hl, hy, List.append_assoc] at hz2
  have := List.append_cancel_left hz2
  simp at this
theorem rcpt_in {s : Sn} {b : Bool} {i : Nat} (hi : i < s.R.length) : Lib.index (lineB s b).data.toList (cmdB 4 (s.R[i])).data.toList ≠ -1 := by
  have e : s.R = s.R.take i ++ [s.R[i]] ++ s.R.drop (i + 1) := by simp
  have e2 : accR (cmdB 3 s.fr) s.R = accR (cmdB 3 s.fr) (s.R.take i) ++ cmdB 4 s.R[i] ++ accR ⟨#[]⟩ (s.R.drop (i + 1)) := by
    rw [← accR_snoc, ← accR_pre, ← accR_two, ← e]
  have e3 : (lineB s b).data.toList = (hdB b s.he ++ accR (cmdB 3 s.fr) (s.R.take i)).data.toList ++ ((cmdB 4 s.R[i]).data.toList ++ (accR ⟨#[]⟩ (s.R.drop (i + 1)) ++ (cmdB 5 ⟨#[]⟩ ++ stuffB s.bo)).data.toList) := by
    unfold lineB allB
    rw [e2]
    simp only [cat_list, List.append_assoc]
  generalize (lineB s b).data.toList = Ls at *
  subst e3
  rcases Lib.index_spec ((hdB b s.he ++ accR (cmdB 3 s.fr) (s.R.take i)).data.toList ++ ((cmdB 4 s.R[i]).data.toList ++ (accR ⟨#[]⟩ (s.R.drop (i + 1)) ++ (cmdB 5 ⟨#[]⟩ ++ stuffB s.bo)).data.toList)) (cmdB 4 s.R[i]).data.toList with ⟨_, hno⟩ | ⟨j, ej, _⟩
  · have := hno (hdB b s.he ++ accR (cmdB 3 s.fr) (s.R.take i)).data.toList.length (by simp)
    unfold Lib.occAt at this
    rw [List.drop_left, Bool.eq_false_iff] at this
    exact absurd (List.isPrefixOf_iff_prefix.2 (List.prefix_append _ _)) this
  · rw [ej]; omega
theorem acc_size {L : List ByteArray} (hL : ∀ r ∈ L, r.size ≤ 1000) : ∀ (a : ByteArray), (accR a L).size ≤ a.size + L.length * 1020 := by
  induction L with
  | nil => intro a; exact Nat.le_add_right _ _
  | cons r L ih =>
    intro a
    have h1 := ih (fun x hx => hL x (List.mem_cons_of_mem _ hx)) (a ++ cmdB 4 r)
    have h2 := cmd_size 4 r
    have h3 := hL r List.mem_cons_self
    show (accR (a ++ cmdB 4 r) L).size ≤ _
    rw [ByteArray.size_append] at h1
    rw [List.length_cons]
    omega
end Go.Proofs.YtngcjlghjidnjaaGreatDoor
namespace Go.Proofs.YtngcjlghjidnjaaGreatDoor
open Go.ChangeShapes Go.WideShapes Go.ChangeAt Go.RowKit
open Pcs

theorem occ_false_far {s p : List UInt8} {j : Nat} (hp : p ≠ []) (h : s.length < j + p.length) : Lib.occAt s p j = false := by
  rw [Bool.eq_false_iff]; intro e
  rcases Lib.occAt_room e with h1 | h1
  · omega
  · exact hp h1
set_option maxHeartbeats 1000000 in
set_option maxRecDepth 100000 in
theorem lawAt (s sep : ByteArray) (w : World) (hs : s.size ≤ 1048576) (h1 : 1 ≤ sep.size) (h2 : sep.size ≤ 1048576) :
    Calls Tryz.prog 51 #[.string s, .string sep, .int .i64 0] w fun e w' => e = .returned (.int .i64 (Lib.index s.data.toList sep.data.toList)) ∧ Below w.heap.size w w' := by
  have hne : sep.data.toList ≠ [] := ne_nil h1
  go_enter Tryz.func51, Tryz.ntmps51
  go_wp2
  go_loop [7] (fun iv => ∃ i : Nat, i ≤ s.size ∧ iv = .int .i64 i ∧ Hid (∀ j, j < i → Lib.occAt s.data.toList sep.data.toList j = false)) (fun iv => s.size - (intOf iv).toNat)
  case atStart => exact ⟨0, Nat.zero_le _, rfl, fun j hj => absurd hj (Nat.not_lt_zero _)⟩
  case round =>
    obtain ⟨i, hi, rfl, HN⟩ := hrel
    by_cases hA : i + sep.size ≤ s.size
    · have hAi : (i : Int) + sep.size ≤ s.size := by omega
      have hpt := pre_take hA
      have htn : ((i : Int) + (sep.size : Int)).toNat = i + sep.size := by omega
      have hsl0 : ∀ wx, (Instr.slice 9 (.string s) (some (.int .i64 (i : Int))) (some (.int .i64 ((i : Int) + (sep.size : Int)))) none).run Tryz.prog wx = .ok (.string (s.extract i (i + sep.size))) wx := by
        intro wx
        rw [run_slice_string wx 9 s .i64 .i64 i ((i : Int) + (sep.size : Int)) Tryz.underlying9 (by omega) (by omega) (by omega), htn]
        rfl
      by_cases hp : sep.data.toList.isPrefixOf (s.data.toList.drop i) = true
      · rw [hp] at hpt
        have G : Hid (Lib.index s.data.toList sep.data.toList = (i : Int)) := Lib.index_first (by rw [← Lib.size_eq]; omega) hp HN.out
        clear hp
        go_wp2
        go_ret
        exact ⟨by rw [G.out]; rfl, Below.refl _ _⟩
      · rw [Bool.not_eq_true] at hp
        rw [hp] at hpt
        have G : Hid (∀ j, j < i + 1 → Lib.occAt s.data.toList sep.data.toList j = false) := by
          intro j hj
          by_cases e : j = i
          · rw [e]; exact hp
          · exact HN.out j (by omega)
        clear hp
        go_wp2
        go_round
        case rel => exact ⟨i + 1, by omega, by go_num, G⟩
        case measure => simp [intOf]; omega
    · have G : Hid (Lib.index s.data.toList sep.data.toList = -1) := Lib.index_none fun j _ => by
        by_cases hj : j < i
        · exact HN.out j hj
        · exact occ_false_far hne (by rw [← Lib.size_eq, ← Lib.size_eq]; omega)
      go_wp2
      go_ret
      exact ⟨by rw [G.out]; rfl, Below.refl _ _⟩
end Go.Proofs.YtngcjlghjidnjaaGreatDoor
