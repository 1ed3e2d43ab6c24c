import Derived.Test.YtngcjlghjidnjaaGreatDoorMg45
import Derived.Test.YtngcjlghjidnjaaGreatDoorMg21
import Derived.Test.YtngcjlghjidnjaaGreatDoorMg40
import Derived.Test.YtngcjlghjidnjaaGreatDoorMg8
import Derived.Test.YtngcjlghjidnjaaGreatDoorMg22
namespace Go.Proofs.YtngcjlghjidnjaaGreatDoor
open Go.ChangeShapes Go.WideShapes Go.ChangeAt Go.RowKit
attribute [local go_sem ↓] Go.wp_at_zero Go.wp_at_succ

theorem strs_offR {w w1 : World} {lo b : Nat} {v : Value} {L : List ByteArray} (h : Strs w lo v L) (ho : Off b w w1) (hb : b < lo) : Strs w1 lo v L := by
  refine ⟨h.1, ?_⟩
  rcases h.2 with h0 | ⟨g, cap, cur, hv, hl, hg, rest⟩
  · exact .inl h0
  · refine .inr ⟨g, cap, cur, hv, hl, ?_, rest⟩
    rw [ho.block g (Array.getElem?_eq_some_iff.1 hg).1 (by omega)]; exact hg
def lenV : Value → Nat
  | .slice _ n _ => n
  | _ => 0
/-- drawn recipients -/
def rcGo : Nat → List UInt8 → Nat → List ByteArray → List ByteArray × Nat
  | 0, _, p, acc => (acc, p)
  | n + 1, B, p, acc => rcGo n B (addrF B p).2 (acc ++ [(addrF B p).1])
def rcN (c : Nat) : Nat := if 252 ≤ c then 20 + c % 2 else 1 + c % 4
def rcF (B : List UInt8) (p : Nat) : List ByteArray × Nat := rcGo (rcN (nx B p)) B (px B p) []
theorem rcGo_len : ∀ (n : Nat) (B : List UInt8) (p : Nat) (acc : List ByteArray), (rcGo n B p acc).1.length = acc.length + n
  | 0, _, _, _ => rfl
  | n + 1, B, p, acc => by rw [rcGo, rcGo_len]; simp; omega
theorem rcGo_size : ∀ (n : Nat) (B : List UInt8) (p : Nat) (acc : List ByteArray), (∀ x ∈ acc, x.size ≤ 300) → ∀ x ∈ (rcGo n B p acc).1, x.size ≤ 300
  | 0, _, _, _, h => h
  | n + 1, B, p, acc, h => by
    rw [rcGo]
    refine rcGo_size n B _ _ ?_
    intro x hx
    rcases List.mem_append.1 hx with e | e
    · exact h x e
    · rw [List.mem_singleton.1 e]; exact addrF_size B p
theorem rcF_len (B : List UInt8) (p : Nat) : (rcF B p).1.length ≤ 21 := by
  unfold rcF rcN
  rw [rcGo_len]
  split
  · simp; omega
  · simp; omega
theorem rcF_size (B : List UInt8) (p : Nat) : ∀ x ∈ (rcF B p).1, x.size ≤ 300 := rcGo_size _ B _ [] (fun x hx => by cases hx)
set_option maxHeartbeats 4000000 in
set_option maxRecDepth 100000 in
theorem rdRcptsX (b p : Nat) (cv : Value) (B : List UInt8) (w : World) (h : RdAt w b cv B p) :
    Calls Tryz.prog 27 #[.pointer (some ⟨b, 0, none⟩)] w fun e w' => (∃ v, e = .returned v ∧ Strs w' w.heap.size v (rcF B p).1) ∧ RdAt w' b cv B (rcF B p).2 ∧ Off b w w' := by
  have H : Hid (RdAt w b cv B p) := h
  have hbl : b < w.heap.size := h.2.2.2.1
  clear h
  obtain ⟨i0, hi, hz0, hz1, hz2⟩ := info_parts infoStr
  go_enter Tryz.func27, Tryz.ntmps27
  go_wp2_with fail
  refine (rdNext b p cv B _ H.out).mono ?_
  rintro e w1 ⟨rfl, h1, ho1⟩
  have hc := nx_lt B p
  have H1 : Hid (RdAt w1 b cv B (px B p)) := h1
  clear h1
  generalize hcE : nx B p = c at hc ⊢
  generalize hqE : px B p = q1 at H1
  obtain ⟨n0, hn0⟩ : ∃ n0, rcN c = n0 := ⟨_, rfl⟩
  obtain ⟨Z, hZ, HE⟩ : ∃ Z, rcGo n0 B q1 [] = Z ∧ Hid (rcF B p = Z) := ⟨_, rfl, by show rcF B p = _; unfold rcF; rw [hcE, hqE, hn0]⟩
  clear hcE hqE
  have hzw := ho1.size
  have hn21 : n0 ≤ 21 := by rw [← hn0]; unfold rcN; split <;> omega
  obtain ⟨c52, hN⟩ | ⟨c52, hN⟩ : ((252 : Int) ≤ c ∧ 20 + (c : Int) % 2 = (n0 : Int)) ∨ (¬ (252 : Int) ≤ c ∧ 1 + (c : Int) % 4 = (n0 : Int)) := by
    rw [← hn0]
    unfold rcN
    by_cases c5 : 252 ≤ c
    · rw [if_pos c5]; exact .inl ⟨by omega, by omega⟩
    · rw [if_neg c5]; exact .inr ⟨by omega, by omega⟩
  all_goals
    clear hn0
    go_wp2_with fail
    go_loopw [4, 5] (fun nv v wr => ∃ (n q : Nat) (acc : List ByteArray), nv = .int .i64 n ∧ acc.length + n ≤ 21 ∧ lenV v = acc.length ∧ Hid (rcGo n B q acc = Z) ∧ Strs wr w.heap.size v acc ∧ Hid (RdAt wr b cv B q) ∧ Off b w wr ∧ w.heap.size ≤ wr.heap.size) (fun nv _ _ => (intOf nv).toNat)
    case atStart => exact ⟨n0, q1, [], by first | rfl | go_num | rw [hN], by simp; omega, rfl, hZ, World.ownsRow_nil _ _ _ _, H1, ho1, hzw⟩
    case round =>
      obtain ⟨n, q, acc, rfl, hf, hlv, HG, hS, HR, hor, hzr⟩ := hrel
      obtain ⟨a8, c8, hv8⟩ : ∃ a8 c8, u5 = .slice a8 acc.length c8 := by
        rcases hS.cases with ⟨rfl, rfl⟩ | ⟨g, cap, rfl, _⟩
        · exact ⟨_, _, rfl⟩
        · exact ⟨_, _, rfl⟩
      subst hv8
      clear hlv
      by_cases hn : 0 < n
      · obtain ⟨k, rfl⟩ : ∃ k, n = k + 1 := ⟨n - 1, by omega⟩
        have HG2 : Hid (rcGo k B (addrF B q).2 (acc ++ [(addrF B q).1]) = Z) := HG.out
        go_wp2_with fail
        refine (rdAddrX b q cv B _ HR.out).mono ?_
        rintro e w4 ⟨rfl, h4, ho4⟩
        have hys := addrF_size B q
        generalize addrF B q = Y at HG2 h4 hys ⊢
        have HR4 : Hid (RdAt w4 b cv B Y.2) := h4
        have hz4 : wr.heap.size ≤ w4.heap.size := ho4.size
        have S4 : Strs w4 w.heap.size (.slice a8 acc.length c8) acc := strs_offR hS ho4 hbl
        have hor4 : Off b w w4 := hor.trans ho4
        have hown' : w4.ownsRow w.heap.size 9 1 (.slice a8 acc.length c8) acc.length (acc.map Value.string) := S4
        have hlos := strs_lo S4
        clear h4 ho4 hS HR HG S4
        go_wp2_with (at_builtin; refine wpList_append_lies _ rfl _ _ 23 rfl w.heap.size 9 i0 (.string ⟨#[]⟩) 1 16 Tryz.underlying23 hi hz0 hz1 hz2 rfl (by decide) _ _ _ rfl (hown'.alloc _) ⟨w4.heap.size, 0, none⟩ 1 1 [.string Y.1] rfl rfl ?c1 ?c2 ?c3 ?c4 ?c5 ?c6 (w4.heap.size + 1) ?c7 ?_)
        case c1 =>
          intro j u hj
          match j, hj with
          | 0, hj =>
            simp at hj; subst hj
            simp only [Addr.add, if_pos]
            exact World.cell?_alloc_mark w4 _ _ _ 0
        case c2 => intro u hu; simp at hu; subst hu; rfl
        case c3 => decide
        case c4 => unfold maxLen; omega
        case c5 => omega
        case c6 => simp; omega
        case c7 => simp
        intro g cap w5 hown5 hgrow hat hlt5
        have HS5 : Hid (Strs w5 w.heap.size (.slice (some ⟨g, 0, none⟩) (acc.length + 1) cap) (acc ++ [Y.1])) := strs_snoc hown5
        have hb5 : Below w.heap.size w4 w5 := ((Below.refl _ w4).alloc (by omega) _).grown hgrow (by simp; omega) hlos
        have HR5 : Hid (RdAt w5 b cv B Y.2) := H.out.carry HR4.out hb5
        have ho5 : Off b w w5 := hor4.carry hb5 (Nat.le_refl _)
        have hz5 := hb5.size
        clear hown5 hgrow hat hown' hlos
        go_wp2
        go_roundw
        case rel => exact ⟨k, Y.2, acc ++ [Y.1], by go_num, by simp; omega, by simp [lenV], HG2, HS5.out, HR5, ho5, by omega⟩
        case measure => simp [intOf]
      · obtain rfl : n = 0 := by omega
        obtain rfl : Z = (acc, q) := HG.out.symm
        go_wp2
        go_ret
        rw [HE.out]
        exact ⟨⟨_, rfl, hS⟩, HR.out, hor⟩

def goods : List ByteArray := [⟨#[]⟩, ⟨#[50, 50, 48, 32, 104, 105, 13, 10]⟩, ⟨#[50, 53, 48, 45, 111, 110, 101, 46, 101, 120, 97, 109, 112, 108, 101, 13, 10, 50, 53, 48, 32, 83, 73, 90, 69, 32, 53, 48, 48, 48, 13, 10]⟩, ⟨#[50, 53, 48, 32, 111, 107, 13, 10]⟩, ⟨#[50, 53, 48, 32, 111, 107, 13, 10]⟩, ⟨#[50, 53, 48, 32, 111, 107, 13, 10]⟩, ⟨#[51, 53, 52, 32, 103, 111, 13, 10]⟩, ⟨#[50, 53, 48, 32, 116, 97, 107, 101, 110, 13, 10]⟩, ⟨#[50, 50, 49, 32, 98, 121, 101, 13, 10]⟩, ⟨#[]⟩]
/-- what a phase hopes for -/
def goodF (ph : Int) : ByteArray := goods.getD ph.toNat ⟨#[]⟩
theorem goodF_size (ph : Int) : (goodF ph).size ≤ 100 := Nat.le_trans (getD_le (n := 32) (by decide) _) (by decide)
set_option maxHeartbeats 1000000 in
set_option maxRecDepth 100000 in
theorem specGood (ph : Int) (w : World) (h0 : 0 ≤ ph) (h9 : ph ≤ 9) :
    Calls Tryz.prog 56 #[.int .i64 ph] w fun e w' => e = .returned (.string (goodF ph)) ∧ Below w.heap.size w w' := by
  obtain ⟨m, rfl, hm8⟩ : ∃ m : Nat, ph = (m : Int) ∧ m < 10 := ⟨ph.toNat, by omega, by omega⟩
  obtain ⟨y, hye, ey⟩ := pickE goods m hm8
  have HE : Hid (goodF (m : Int) = y) := by show goodF (m : Int) = y; unfold goodF; rw [hye]; rfl
  simp only [goods, List.map_cons, List.map_nil] at ey
  clear hye
  go_enter Tryz.func56, Tryz.ntmps56
  go_wp2
  go_ret
  rw [HE.out]
  exact ⟨rfl, below1 _ _⟩
end Go.Proofs.YtngcjlghjidnjaaGreatDoor
namespace Go.Proofs.YtngcjlghjidnjaaGreatDoor
open Pcs

/-- a proper session -/
def Sn.Pr (s : Sn) : Prop := properN s.ph (s.nx : Int) s.buf s.he s.fr s.bo s.R s.T s.V = true
theorem Sn.pr_iff {s : Sn} : s.Pr ↔ (1 ≤ s.ph ∧ s.ph ≤ 9 ∧ s.buf.size ≤ 40000 ∧ domOk s.he = true ∧ whomN s.fr s.R = true ∧ bodyOk s.bo = true ∧ s.T.length = s.R.length ∧ s.V.length = s.R.length ∧ s.nx ≤ s.R.length ∧ ¬ (s.nx = s.R.length ∧ s.ph = 5)) ∧ ∀ v ∈ s.V, vdOk v = true := by
  unfold Sn.Pr properN
  simp only [Bool.and_eq_true, decide_eq_true_eq, List.all_eq_true]
  constructor
  · rintro ⟨⟨h1, h2, h3, h4, h5, h6, h7, h8, h9, h10, h11⟩, h12⟩
    exact ⟨⟨h1, h2, h3, h4, h5, h6, h7, h8, by omega, fun e => h11 ⟨by omega, e.2⟩⟩, h12⟩
  · rintro ⟨⟨h1, h2, h3, h4, h5, h6, h7, h8, h10, h11⟩, h12⟩
    exact ⟨⟨h1, h2, h3, h4, h5, h6, h7, h8, by omega, by omega, fun e => h11 ⟨by omega, e.2⟩⟩, h12⟩
theorem Sn.Pr.ok {s : Sn} (h : s.Pr) : s.Ok := by
  obtain ⟨n, e, hk⟩ := ok_of h
  obtain rfl : s.nx = n := by omega
  exact hk
theorem vd_ref {c : Nat} {t : ByteArray} (h1 : 200 ≤ c) (h2 : c ≤ 599) (ht : t.size ≤ 512) : vdOk (refV c t) = true := by
  have e : codeOk (c : Int) = true := by unfold codeOk; rw [decide_eq_true (show (200 : Int) ≤ c by omega), decide_eq_true (show (c : Int) ≤ 599 by omega)]; simp
  refine vd_good ?_ ?_ e (by show ¬ 512 < t.size; omega)
  · show ¬ (if 500 ≤ c then (3 : Int) else 2) < 0; split <;> decide
  · show ¬ 3 < (if 500 ≤ c then (3 : Int) else 2); split <;> decide
theorem dec_ok {v : Vd} (hv : vdOk v = true) {V : List Vd} (h : ∀ x ∈ V, vdOk x = true) : ∀ x ∈ decV v V, vdOk x = true := by
  intro x hx
  obtain ⟨y, hy, rfl⟩ := List.mem_map.1 hx
  unfold dec1
  split
  · exact hv
  · exact h y hy
theorem Sn.Pr.dec {s : Sn} (h : s.Pr) {v : Vd} (hv : vdOk v = true) : (s.dec v).Pr := by
  rw [Sn.pr_iff] at *
  obtain ⟨⟨h1, h2, h3, h4, h5, h6, h7, h8, h10, h11⟩, h12⟩ := h
  exact ⟨⟨h1, h2, h3, h4, h5, h6, h7, (decV_len _ _).trans h8, h10, h11⟩, dec_ok hv h12⟩
theorem Sn.Pr.to {s : Sn} (h : s.Pr) {ph : Int} (g1 : 1 ≤ ph) (g9 : ph ≤ 9) (g5 : ph ≠ 5) : (s.to ph).Pr := by
  rw [Sn.pr_iff] at *
  obtain ⟨⟨h1, h2, h3, h4, h5, h6, h7, h8, h10, h11⟩, h12⟩ := h
  exact ⟨⟨g1, g9, h3, h4, h5, h6, h7, h8, h10, fun e => g5 e.2⟩, h12⟩
theorem Sn.Pr.bufTo {s : Sn} (h : s.Pr) {b : ByteArray} (hb : b.size ≤ 40000) : Sn.Pr { s with buf := b } := by
  rw [Sn.pr_iff] at *
  obtain ⟨⟨h1, h2, h3, h4, h5, h6, h7, h8, h10, h11⟩, h12⟩ := h
  exact ⟨⟨h1, h2, hb, h4, h5, h6, h7, h8, h10, h11⟩, h12⟩
theorem Sn.Pr.quit {s : Sn} (h : s.Pr) {v : Vd} (hv : vdOk v = true) : (s.quit v).1.Pr := (h.dec hv).to (by decide) (by decide) (by decide)
theorem Sn.Pr.lost {s : Sn} (h : s.Pr) {t : ByteArray} (ht : t.size ≤ 512) : (s.lost t).Pr :=
  Sn.Pr.bufTo ((h.dec (v := (2, 0, t)) (vd_good (by show ¬ (2 : Int) < 0; decide) (by show ¬ 3 < (2 : Int); decide) rfl (by show ¬ 512 < t.size; omega))).to (ph := 9) (by decide) (by decide) (by decide)) (b := ⟨#[]⟩) (Nat.zero_le _)
theorem Sn.Pr.rcpt {s : Sn} (h : s.Pr) {c : Nat} {t : ByteArray} (h1 : 200 ≤ c) (h2 : c ≤ 599) (ht : t.size ≤ 512) (h5 : s.ph = 5) : (s.mark c t).next.1.Pr := by
  have hk := h.ok.mark c t h5
  obtain ⟨m1, m2, m3, m4, m5, m6, m7, m8, m9⟩ := hk
  have hn := h.ok.n5 h5
  have HV : ∀ v ∈ (s.mark c t).V, vdOk v = true := by
    have h12 := (Sn.pr_iff.1 h).2
    intro v hv
    unfold Sn.mark at hv
    split at hv
    · exact h12 v hv
    · rcases List.mem_or_eq_of_mem_set hv with e | e
      · exact h12 v e
      · rw [e]; exact vd_ref h1 h2 ht
  obtain ⟨⟨p1, p2, p3, p4, p5, p6, p7, p8, p10, p11⟩, _⟩ := Sn.pr_iff.1 h
  have A : ∀ ph : Int, 1 ≤ ph → ph ≤ 9 → (ph = 5 → (s.mark c t).nx < (s.mark c t).R.length) → ((s.mark c t).to ph).Pr := fun ph g1 g9 hp => by
    rw [Sn.pr_iff]
    refine ⟨⟨g1, g9, ?_, ?_, ?_, ?_, ?_, ?_, ?_, ?_⟩, HV⟩
    · show (s.mark c t).buf.size ≤ _; rw [m9]; exact p3
    · show domOk (s.mark c t).he = true; rw [m6]; exact p4
    · show whomN (s.mark c t).fr (s.mark c t).R = true; rw [m7, m5]; exact p5
    · show bodyOk (s.mark c t).bo = true; rw [m8]; exact p6
    · show (s.mark c t).T.length = (s.mark c t).R.length; rw [m1, m5]
    · show (s.mark c t).V.length = (s.mark c t).R.length; rw [m2, m5]
    · show (s.mark c t).nx ≤ (s.mark c t).R.length; rw [m3, m5]; omega
    · rintro ⟨e1, e2⟩; have := hp e2; exact Nat.lt_irrefl _ (e1 ▸ this)
  unfold Sn.next
  split
  · rename_i hl
    have := A 5 (by decide) (by decide) (fun _ => hl)
    have e : (s.mark c t).to 5 = s.mark c t := by unfold Sn.to; rw [← m4]
    rw [e] at this
    exact this
  · split
    · exact A 6 (by decide) (by decide) (fun e => absurd e (by decide))
    · exact A 8 (by decide) (by decide) (fun e => absurd e (by decide))
set_option maxHeartbeats 1000000 in
theorem Sn.Pr.take {s : Sn} (h : s.Pr) {c : Nat} (L : List ByteArray) (h1 : 200 ≤ c) (h2 : c ≤ 599) (ht : (L.getD 0 ⟨#[]⟩).size ≤ 512) : (s.take c L).1.Pr := by
  have h0 := h.ok
  unfold Sn.take
  repeat' split
  all_goals first
    | exact h.to (by decide) (by decide) (by decide)
    | exact (h.dec (vd_ref h1 h2 ht)).to (by decide) (by decide) (by decide)
    | exact h.quit (vd_ref h1 h2 ht)
    | exact h.quit (v := (3, 552, ⟨#[115, 105, 122, 101]⟩)) (by decide)
    | exact h.quit (v := (1, 250, L.getD 0 ⟨#[]⟩)) (vd_good (by show ¬ (1 : Int) < 0; decide) (by show ¬ 3 < (1 : Int); decide) rfl (by show ¬ 512 < (L.getD 0 ⟨#[]⟩).size; omega))
    | exact h.rcpt h1 h2 ht ‹_›
    | (rw [Sn.pr_iff] at *
       obtain ⟨⟨p1, p2, p3, p4, p5, p6, p7, p8, p10, p11⟩, p12⟩ := h
       refine ⟨⟨(by decide : (1 : Int) ≤ 5), (by decide : (5 : Int) ≤ 9), p3, p4, p5, p6, p7, p8, Nat.zero_le _, ?_⟩, p12⟩
       rintro ⟨e1, _⟩
       have e2 : (0 : Nat) = s.R.length := e1
       have := h0.r1
       omega)

/-- a reply's code and its lines -/
theorem lineR_code {l : ByteArray} (h : lineR l = true) : 200 ≤ codeN l ∧ codeN l ≤ 599 ∧ (textB l).size ≤ 512 := by
  unfold lineR digN at h
  simp only [Bool.and_eq_true, decide_eq_true_eq] at h
  obtain ⟨h1, _, h3, ha, hb, hc, h4, h5, _⟩ := h
  refine ⟨?_, ?_, ?_⟩
  · unfold codeN; omega
  · unfold codeN; omega
  · unfold textB; rw [ByteArray.size_extract]; omega
theorem prs_code : ∀ (k : Nat) {c : Option Nat} {acc : List ByteArray} {u : Nat} {r : List UInt8} {n : Nat} {L : List ByteArray} {m : Nat}, prs k c acc u r = (some (some (n, L, m))) → (∀ x ∈ acc, x.size ≤ 512) → 200 ≤ n ∧ n ≤ 599 ∧ ∀ x ∈ L, x.size ≤ 512
  | 0, _, _, _, _, _, _, _, h, _ => by cases h
  | k + 1, c, acc, u, r, n, L, m, h, ha => by
    rcases Lib.index_spec r [13, 10] with ⟨e, _⟩ | ⟨j, e, hj, _⟩
    · rw [prs_cut e] at h; split at h <;> cases h
    · rw [prs_line e rfl] at h
      split at h
      · rename_i hl
        rw [Bool.and_eq_true] at hl
        have hc := lineR_code hl.1
        have ha2 : ∀ x ∈ acc ++ [textB (mk (r.take j))], x.size ≤ 512 := by
          intro x hx
          rcases List.mem_append.1 hx with h | h
          · exact ha x h
          · rw [List.mem_singleton.1 h]; exact hc.2.2
        split at h
        · cases h; exact ⟨hc.1, hc.2.1, ha2⟩
        · exact prs_code k h ha2
      · cases h
theorem parse_code {s : ByteArray} {c : Nat} {L : List ByteArray} {u : Nat} (h : parse s = (some (some (c, L, u)))) : 200 ≤ c ∧ c ≤ 599 ∧ (L.getD 0 ⟨#[]⟩).size ≤ 512 := by
  obtain ⟨h1, h2, h3⟩ := prs_code 50 h (fun x hx => by cases hx)
  refine ⟨h1, h2, ?_⟩
  rw [List.getD_eq_getElem?_getD]
  cases e : L[0]? with
  | none => exact Nat.zero_le _
  | some x => exact h3 x (List.mem_of_getElem? e)
theorem cat_list (s d : ByteArray) : (s ++ d).data.toList = s.data.toList ++ d.data.toList := by simp
/-- a front's reading stays -/
theorem parse_bad_front {s : ByteArray} (d : ByteArray) (h : parse s = none) : parse (s ++ d) = none := by
  have := prs_mono 50 none [] 0 s.data.toList.length (s ++ d).data.toList (by rw [cat_list]; simp)
  rw [cat_list, List.take_left] at this
  have h2 : prs 50 none [] 0 s.data.toList = none := h
  rw [h2] at this
  show prs 50 none [] 0 (s ++ d).data.toList = _
  rw [cat_list]
  exact this
theorem parse_ok_front {s : ByteArray} (d : ByteArray) {c : Nat} {L : List ByteArray} {u : Nat} (h : parse s = (some (some (c, L, u)))) : parse (s ++ d) = (some (some (c, L, u))) := by
  have := prs_mono 50 none [] 0 s.data.toList.length (s ++ d).data.toList (by rw [cat_list]; simp)
  rw [cat_list, List.take_left] at this
  have h2 : prs 50 none [] 0 s.data.toList = (some (some (c, L, u))) := h
  rw [h2] at this
  show prs 50 none [] 0 (s ++ d).data.toList = _
  rw [cat_list]
  exact this
/-- what waits doesn't matter to a reply's taking -/
theorem take_bufTo (s : Sn) (b : ByteArray) (c : Nat) (L : List ByteArray) : Sn.take { s with buf := b } c L = ({ (s.take c L).1 with buf := b }, (s.take c L).2) := by
  have hm : ∀ t, Sn.mark { s with buf := b } c t = { s.mark c t with buf := b } := fun t => by unfold Sn.mark; split <;> rfl
  have hn : ∀ x : Sn, Sn.next { x with buf := b } = ({ x.next.1 with buf := b }, x.next.2) := fun x => by
    unfold Sn.next
    dsimp only
    split
    · rfl
    · split <;> rfl
  by_cases h8 : s.ph = 8
  · rw [take_8 h8, take_8 (s := { s with buf := b }) h8]; rfl
  by_cases hc : c = 421
  · subst hc; rw [take_421 h8, take_421 (s := { s with buf := b }) h8]; rfl
  by_cases h5 : s.ph = 5
  · rw [take_5 h5 hc, take_5 (s := { s with buf := b }) h5 hc, hm, hn]
  by_cases h1 : s.ph = 1
  · rw [take_1 h1 hc, take_1 (s := { s with buf := b }) h1 hc]; split <;> rfl
  by_cases h2 : s.ph = 2
  · rw [take_2 h2 hc, take_2 (s := { s with buf := b }) h2 hc]
    dsimp only
    split
    · split <;> rfl
    · split <;> rfl
  by_cases h3 : s.ph = 3
  · rw [take_3 h3 hc, take_3 (s := { s with buf := b }) h3 hc]; split <;> rfl
  by_cases h4 : s.ph = 4
  · rw [take_4 h4 hc, take_4 (s := { s with buf := b }) h4 hc]; split <;> rfl
  by_cases h6 : s.ph = 6
  · rw [take_6 h6 hc, take_6 (s := { s with buf := b }) h6 hc]; split <;> rfl
  unfold Sn.take
  simp only [h8, hc, h5, h1, h2, h3, h4, h6, ↓reduceIte]
  split <;> rfl
theorem nil_cat (t : ByteArray) : (⟨#[]⟩ : ByteArray) ++ t = t := by
  apply ByteArray.ext; simp
theorem cat_assoc (a b c : ByteArray) : a ++ b ++ c = a ++ (b ++ c) := by
  apply ByteArray.ext; simp
/-- the rounds left don't matter -/
theorem rep_fuel : ∀ (k m : Nat) (s : Sn), s.buf.size < k → s.buf.size < m → Sn.rep k s = Sn.rep m s
  | 0, _, s, h, _ => absurd h (Nat.not_lt_zero _)
  | k + 1, 0, s, _, h => absurd h (Nat.not_lt_zero _)
  | k + 1, m + 1, s, h1, h2 => by
    rcases hp : parse s.buf with _ | _ | ⟨c, L, u⟩
    · rw [rep_bad hp, rep_bad hp]
    · rw [rep_more hp, rep_more hp]
    · obtain ⟨hu2, hus, _, _, _⟩ := parse_ok hp
      rw [rep_ok hp, rep_ok hp]
      have hb : ((Sn.take { s with buf := s.buf.extract u s.buf.size } c L).1).buf.size < s.buf.size := by
        rw [take_buf]; show (s.buf.extract u s.buf.size).size < _; rw [ByteArray.size_extract]; omega
      rw [rep_fuel k m _ (by omega) (by omega)]
theorem ext_cat {s d : ByteArray} {u : Nat} (hu : u ≤ s.size) : (s ++ d).extract u (s ++ d).size = s.extract u s.size ++ d := by
  have h1 : s.size = s.data.toList.length := by rw [Array.length_toList]; rfl
  have h2 : (s ++ d).size = (s ++ d).data.toList.length := by rw [Array.length_toList]; rfl
  apply ByteArray.ext
  apply Array.ext'
  rw [cat_list, ByteArray.data_extract, ByteArray.data_extract, Array.toList_extract, Array.toList_extract, h2, cat_list, h1]
  rw [List.extract_eq_take_drop, List.extract_eq_take_drop, List.drop_append_of_le_length (by omega), List.take_of_length_le (by simp only [List.length_append, List.length_drop]; omega), List.take_of_length_le (by simp only [List.length_drop]; omega)]
/-- a text in two parts -/
theorem rep_cat : ∀ (k : Nat) (s : Sn) (d : ByteArray) (K M : Nat), s.ph ≠ 9 → s.buf.size < k → s.buf.size + d.size < K → s.buf.size + d.size < M →
    Sn.rep K { s with buf := s.buf ++ d } = if (Sn.rep k s).1.ph = 9 then Sn.rep k s else ((Sn.rep M { (Sn.rep k s).1 with buf := (Sn.rep k s).1.buf ++ d }).1, (Sn.rep k s).2 ++ (Sn.rep M { (Sn.rep k s).1 with buf := (Sn.rep k s).1.buf ++ d }).2)
  | 0, s, _, _, _, _, h, _, _ => absurd h (Nat.not_lt_zero _)
  | k + 1, s, d, 0, _, _, _, h, _ => absurd h (Nat.not_lt_zero _)
  | k + 1, s, d, K + 1, M, h9, h1, h2, h3 => by
    rcases hp : parse s.buf with _ | _ | ⟨c, L, u⟩
    · rw [rep_bad hp, if_pos (show (s.lost tBad, (⟨#[]⟩ : ByteArray)).1.ph = 9 from rfl), rep_bad (s := { s with buf := s.buf ++ d }) (parse_bad_front d hp)]
      rfl
    · rw [rep_more hp, if_neg h9]
      dsimp only
      rw [nil_cat, rep_fuel (K + 1) M _ (by show (s.buf ++ d).size < _; rw [ByteArray.size_append]; omega) (by show (s.buf ++ d).size < _; rw [ByteArray.size_append]; omega)]
    · obtain ⟨hu2, hus, _, _, _⟩ := parse_ok hp
      have e1 : ({ ({ s with buf := s.buf ++ d } : Sn) with buf := (s.buf ++ d).extract u (s.buf ++ d).size } : Sn) = { ({ s with buf := s.buf.extract u s.buf.size } : Sn) with buf := s.buf.extract u s.buf.size ++ d } := by rw [ext_cat hus]
      rw [rep_ok hp, rep_ok (s := { s with buf := s.buf ++ d }) (parse_ok_front d hp)]
      have e2 := take_bufTo { s with buf := s.buf.extract u s.buf.size } (s.buf.extract u s.buf.size ++ d) c L
      have hb : ((Sn.take { s with buf := s.buf.extract u s.buf.size } c L).1).buf = s.buf.extract u s.buf.size := take_buf _ _ _
      have hz : (s.buf.extract u s.buf.size).size + 2 ≤ s.buf.size := by rw [ByteArray.size_extract]; omega
      dsimp only at e1 e2 ⊢
      rw [e1, e2]
      generalize hP : Sn.take { s with buf := s.buf.extract u s.buf.size } c L = P at *
      dsimp only
      by_cases hq : P.1.ph = 9
      · rw [if_pos hq, if_pos hq]
        dsimp only
        rw [if_pos hq]
      · rw [if_neg hq, if_neg hq]
        have IH := rep_cat k P.1 d K M hq (by rw [hb]; omega) (by rw [hb]; omega) (by rw [hb]; omega)
        rw [hb] at IH
        rw [IH]
        dsimp only
        by_cases hr : (Sn.rep k P.1).1.ph = 9
        · rw [if_pos hr, if_pos hr]
        · rw [if_neg hr, if_neg hr]
          dsimp only
          rw [cat_assoc]
theorem rep_pr : ∀ (k : Nat) (s : Sn), s.Pr → (Sn.rep k s).1.Pr ∧ (Sn.rep k s).1.buf.size ≤ s.buf.size
  | 0, s, h => ⟨h, Nat.le_refl _⟩
  | k + 1, s, h => by
    rcases hp : parse s.buf with _ | _ | ⟨c, L, u⟩
    · rw [rep_bad hp]; exact ⟨h.lost (by decide), Nat.zero_le _⟩
    · rw [rep_more hp]; exact ⟨h, Nat.le_refl _⟩
    · obtain ⟨hu2, hus, _, _, _⟩ := parse_ok hp
      obtain ⟨c1, c2, c3⟩ := parse_code hp
      have hz : (s.buf.extract u s.buf.size).size ≤ s.buf.size := by rw [ByteArray.size_extract]; omega
      have hk := (h.bufTo (b := s.buf.extract u s.buf.size) (by have := h.ok.bf; omega)).take L c1 c2 c3
      have hb : ((Sn.take { s with buf := s.buf.extract u s.buf.size } c L).1).buf = s.buf.extract u s.buf.size := take_buf _ _ _
      rw [rep_ok hp]
      split
      · exact ⟨hk.bufTo (b := ⟨#[]⟩) (Nat.zero_le _), Nat.zero_le _⟩
      · have := rep_pr k _ hk
        rw [hb] at this
        exact ⟨this.1, Nat.le_trans this.2 hz⟩
theorem feed_pr {s : Sn} (h : s.Pr) (kind : Int) (d : ByteArray) : (s.feed true kind d).1.Pr := by
  unfold Sn.feed
  rw [if_neg (by decide)]
  split
  · exact h
  · split
    · exact h.lost (by decide)
    · split
      · exact h.lost (by decide)
      · split
        · exact h.lost (by decide)
        · rename_i hz
          exact (rep_pr _ _ (h.bufTo (b := s.buf ++ d) (by rw [ByteArray.size_append]; omega))).1
/-- all at once, or in two parts -/
theorem feed_parts {s : Sn} (h : s.Pr) (d1 d2 : ByteArray) (hz : s.buf.size + (d1.size + d2.size) ≤ 40000) :
    s.feed true 1 (d1 ++ d2) = (((s.feed true 1 d1).1.feed true 1 d2).1, (s.feed true 1 d1).2 ++ ((s.feed true 1 d1).1.feed true 1 d2).2) := by
  have F9 : ∀ (x : Sn) (d : ByteArray), x.ph = 9 → x.feed true 1 d = (x, ⟨#[]⟩) := fun x d e => by unfold Sn.feed; rw [if_neg (by decide), if_pos e]
  have FN : ∀ (x : Sn) (d : ByteArray), x.ph ≠ 9 → x.buf.size + d.size ≤ 40000 → x.feed true 1 d = Sn.rep (x.buf.size + d.size + 1) { x with buf := x.buf ++ d } := fun x d e hx => by
    unfold Sn.feed
    rw [if_neg (by decide), if_neg e, if_neg (by decide), if_neg (by decide), if_neg (by omega)]
  by_cases h9 : s.ph = 9
  · rw [F9 s _ h9, F9 s _ h9]
    dsimp only
    rw [F9 s _ h9]
    dsimp only
    rw [nil_cat]
  · rw [FN s d1 h9 (by omega), FN s (d1 ++ d2) h9 (by rw [ByteArray.size_append]; omega)]
    have hb : (s.buf ++ d1).size = s.buf.size + d1.size := ByteArray.size_append
    have hd : (d1 ++ d2).size = d1.size + d2.size := ByteArray.size_append
    have hr := rep_pr (s.buf.size + d1.size + 1) { s with buf := s.buf ++ d1 } (h.bufTo (by rw [hb]; omega))
    have hc := rep_cat (s.buf.size + d1.size + 1) { s with buf := s.buf ++ d1 } d2 (s.buf.size + (d1 ++ d2).size + 1) (s.buf.size + (d1 ++ d2).size + 1) h9 (by show (s.buf ++ d1).size < _; omega) (by show (s.buf ++ d1).size + _ < _; omega) (by show (s.buf ++ d1).size + _ < _; omega)
    have ea : s.buf ++ (d1 ++ d2) = s.buf ++ d1 ++ d2 := (cat_assoc _ _ _).symm
    rw [ea]
    dsimp only at hc hr
    rw [hc]
    generalize Sn.rep (s.buf.size + d1.size + 1) { s with buf := s.buf ++ d1 } = P at *
    by_cases hq : P.1.ph = 9
    · rw [if_pos hq, F9 P.1 d2 hq]
      dsimp only
      rw [cat_nil]
    · rw [if_neg hq, FN P.1 d2 hq (by omega)]
      rw [rep_fuel (P.1.buf.size + d2.size + 1) (s.buf.size + (d1 ++ d2).size + 1) _ (by show (P.1.buf ++ d2).size < _; rw [ByteArray.size_append]; omega) (by show (P.1.buf ++ d2).size < _; rw [ByteArray.size_append]; omega)]
end Go.Proofs.YtngcjlghjidnjaaGreatDoor
namespace Go.Proofs.YtngcjlghjidnjaaGreatDoor
open Go.ChangeShapes Go.WideShapes Go.ChangeAt Go.RowKit

theorem vrow_snoc (L : List Vd) (v : Vd) : vrow (L ++ [v]) = vrow L ++ vcells v := by unfold vrow; simp

set_option maxHeartbeats 4000000 in
set_option maxRecDepth 100000 in
theorem specOpen (he fr bo : ByteArray) (v : Value) (L : List ByteArray) (w : World) (h : ArgS w v L) (hh : he.size ≤ 1048576) (hf : fr.size ≤ 1048576) (hs : ∀ s ∈ L, s.size ≤ 1048576) (hbo : bo.size ≤ 1048576) :
    Calls Tryz.prog 7 #[.string he, .string fr, v, .string bo] w fun e w' => OpenPost he fr bo L w e w' := by
  have HA : Hid (ArgS w v L) := h
  have HS : Hid (∀ s ∈ L, s.size ≤ 1048576) := hs
  obtain ⟨a, c, rfl⟩ := h.form
  clear h hs
  have hd : domOk he = false ∨ domOk he = true := by cases domOk he <;> simp
  rcases hd with hd | hd
  · go_enter Tryz.func7, Tryz.ntmps7
    go_wp2_with fail
    refine (specDomain he _ hh).mono ?_
    rw [hd]
    rintro e w1 ⟨rfl, hb1⟩
    obtain ⟨g0, g1, g2, g3, g4, g5, g6, g7, g8, f0, f1, f2, f3, f4, f5, f6, f7, f8, hrz⟩ := resZ_of (by simpa using hb1)
    go_wp2
    refine bodyPost_ret (v := .agg #[.int .i64 9, .string ⟨#[]⟩, .string ⟨#[]⟩, .string ⟨#[]⟩, .string ⟨#[]⟩, .slice none 0 0, .int .i64 0, .slice none 0 0, .slice none 0 0]) (by simp [results, Tryz.results7, go_sem, g0, g1, g2, g3, g4, g5, g6, g7, g8]) rfl (open_no (by unfold openOk; rw [hd]; rfl) ?_)
    repeat (refine Below.setCell ?_ (by simp) _)
    exact (below1 w _).trans (hb1.mono (by simp))
  · go_enter Tryz.func7, Tryz.ntmps7
    go_wp2_with fail
    refine (specDomain he _ hh).mono ?_
    rw [hd]
    rintro e w1 ⟨rfl, hb1⟩
    have b1 : Below w.heap.size w w1 := (below1 w _).trans (hb1.mono (by simp))
    go_wp2_with fail
    refine (specWhom fr _ L _ (HA.out.below b1) hf HS.out).mono ?_
    rintro e w2 ⟨rfl, hb2⟩
    have b2 : Below w.heap.size w w2 := b1.trans (hb2.mono b1.size)
    have b02 := hb1.trans (hb2.mono hb1.size)
    clear hb1 hb2 b1
    cases hm : whomN fr L
    · obtain ⟨g0, g1, g2, g3, g4, g5, g6, g7, g8, f0, f1, f2, f3, f4, f5, f6, f7, f8, hrz⟩ := resZ_of (by simpa using b02)
      go_wp2
      refine bodyPost_ret (v := .agg #[.int .i64 9, .string ⟨#[]⟩, .string ⟨#[]⟩, .string ⟨#[]⟩, .string ⟨#[]⟩, .slice none 0 0, .int .i64 0, .slice none 0 0, .slice none 0 0]) (by simp [results, Tryz.results7, go_sem, g0, g1, g2, g3, g4, g5, g6, g7, g8]) rfl (open_no (by unfold openOk; rw [hm]; simp) ?_)
      repeat (refine Below.setCell ?_ (by simp) _)
      exact b2
    · go_wp2_with fail
      refine (specBody bo _ hbo).mono ?_
      rintro e w3 ⟨rfl, hb3⟩
      have b3 : Below w.heap.size w w3 := b2.trans (hb3.mono b2.size)
      have b03 := b02.trans (hb3.mono b02.size)
      have hrz3 := resZ_of (by simpa using b03)
      clear hb3 b2 b02
      cases hbk : bodyOk bo
      · obtain ⟨g0, g1, g2, g3, g4, g5, g6, g7, g8, f0, f1, f2, f3, f4, f5, f6, f7, f8, hrz⟩ := hrz3
        go_wp2
        refine bodyPost_ret (v := .agg #[.int .i64 9, .string ⟨#[]⟩, .string ⟨#[]⟩, .string ⟨#[]⟩, .string ⟨#[]⟩, .slice none 0 0, .int .i64 0, .slice none 0 0, .slice none 0 0]) (by simp [results, Tryz.results7, go_sem, g0, g1, g2, g3, g4, g5, g6, g7, g8]) rfl (open_no (by unfold openOk; rw [hbk]; simp) ?_)
        repeat (refine Below.setCell ?_ (by simp) _)
        exact b3
      · have hw : 1 ≤ L.length ∧ L.length ≤ 20 := by
          unfold whomN at hm
          simp only [Bool.and_eq_true, decide_eq_true_eq] at hm
          exact ⟨hm.2.1, hm.2.2.1⟩
        obtain ⟨b, off, cap, hv, hbw, hcell⟩ := HA.out.some hw.1
        injection hv with hv1 hv2 hv3
        subst hv1 hv3
        have HC : Hid (∀ i (hi : i < L.length), w.cell? ⟨b, off + i, none⟩ = some (.string L[i])) := hcell
        have hOK : openOk he fr bo L = true := by unfold openOk; rw [hd, hm, hbk]; rfl
        obtain ⟨i0, hi, hz0, hz1, hz2⟩ := info_parts infoStr
        obtain ⟨j0, hj, hy0, hy1, hy2⟩ := info_parts infoBool
        obtain ⟨k0, hk, hx0, hx1, hx2⟩ := info_parts infoVd
        have hlw : w.heap.size < w3.heap.size := by have := b03.size; simp at this; omega
        have HI : Hid (SpO w w3.heap.size he fr bo (.slice none 0 0) (.slice none 0 0) (.slice none 0 0) [] [] [] (w3.alloc (.cells #[.int .i64 1, .string ⟨#[]⟩, .string he, .string fr, .string bo, .slice none 0 0, .int .i64 0, .slice none 0 0, .slice none 0 0] 29))) := by
          have c : ∀ i, (w3.alloc (.cells #[.int .i64 1, .string ⟨#[]⟩, .string he, .string fr, .string bo, .slice none 0 0, .int .i64 0, .slice none 0 0, .slice none 0 0] 29)).cell? ⟨w3.heap.size, i, none⟩ = (#[.int .i64 1, .string ⟨#[]⟩, .string he, .string fr, .string bo, .slice none 0 0, .int .i64 0, .slice none 0 0, .slice none 0 0] : Array Value)[i]? := fun i => World.cell?_alloc_mark _ _ _ _ _
          exact ⟨hrz3.off (OffL.of_below (vs := []) (below1 w3 _)) hlw (fun v hv => by cases hv), hlw, by simp, c 0, c 1, c 2, c 3, c 4, c 5, c 6, c 7, c 8, fun o => World.frozen?_alloc_at _ _ _ _ rfl, World.ownsRow_nil _ _ _ _, World.ownsRow_nil _ _ _ _, World.ownsRow_nil _ _ _ _, by simp [Apart3, Value.ownBlock], b3.trans ((below1 w3 _).mono b3.size)⟩
        clear hcell hd hm hbk hrz3
        go_wp2_with fail
        generalize hW0 : w3.alloc _ = W0 at *
        generalize w3.heap.size = sb at *
        clear hW0
        go_loopw [33] (fun iv wr => ∃ (k : Nat) (a1 a2 a3 : Option Addr) (c1 c2 c3 : Nat), k ≤ L.length ∧ iv = .int .i64 k ∧ Hid (SpO w sb he fr bo (.slice a1 k c1) (.slice a2 k c2) (.slice a3 k c3) (L.take k) (List.replicate k false) (List.replicate k vd0) wr)) (fun iv _ => L.length - (intOf iv).toNat)
        case atStart => exact ⟨0, none, none, none, 0, 0, 0, Nat.zero_le _, rfl, HI⟩
        case round =>
          obtain ⟨k, a1, a2, a3, c1, c2, c3, hkl, rfl, H⟩ := hrel
          by_cases hlt : k < L.length
          · have H0 := H
            have ec := (H.out.bel.cell (p := ⟨b, off + k, none⟩) hbw).trans (HC.out k hlt)
            have HT1 : Hid (L.take (k + 1) = L.take k ++ [L[k]]) := by show _ = _; rw [List.take_succ_eq_append_getElem hlt]
            have HT2 : Hid ((L.take k).length = k) := by show _ = _; rw [List.length_take]; omega
            generalize L[k] = X at *
            have hown1 : wr.ownsRow (sb + 1) 9 1 (.slice a1 k c1) k ((L.take k).map Value.string) := by
              have := H0.out.s1
              unfold Strs at this
              rw [HT2.out] at this
              exact this
            have hl1 : sb < wr.heap.size := H0.out.lt
            have e1 := H0.out.c5
            go_wp2_with (at_builtin; refine wpList_append_lies _ rfl _ _ 23 rfl (sb + 1) 9 i0 (.string ⟨#[]⟩) 1 16 Tryz.underlying23 hi hz0 hz1 hz2 rfl (by decide) _ _ _ rfl (hown1.alloc _) ⟨wr.heap.size, 0, none⟩ 1 1 [.string X] rfl rfl ?c1 ?c2 ?c3 ?c4 ?c5 ?c6 (wr.heap.size + 1) ?c7 ?_)
            case c1 =>
              intro j u hj
              match j, hj with
              | 0, hj => simp at hj; subst hj; simp [Addr.add]
            case c2 => intro u hu; simp at hu; subst hu; rfl
            case c3 => decide
            case c4 => unfold maxLen; omega
            case c5 => omega
            case c6 => simp; omega
            case c7 => simp
            intro p1 q1 w1 hown1' hgrow1 hat1 hlt1
            have ho1 : OffL [(.slice a1 k c1)] wr w1 := (OffL.of_below (below1 wr _)).trans (OffL.ofGrown hgrow1 (by simp))
            have hlo1 : ∀ v ∈ ([(.slice a1 k c1)] : List Value), v.ownBlock ≠ some sb := fun v hv e => by
              rw [List.mem_singleton.1 hv] at e
              have := (hown1.lt sb e).1
              omega
            have e1' := (ho1.cell hl1 hlo1).trans e1
            have f1' := (ho1.frozen (i := 5) hl1 hlo1).trans (H0.out.fz 5)
            have H1' := H0.out.step1 (v' := .slice (some ⟨p1, 0, none⟩) (k + 1) q1) (R' := L.take (k + 1)) ho1 (by
              rcases hat1 with h | h
              · left; rw [h]; rfl
              · right; exact ⟨p1, rfl, by omega⟩) (by
              unfold Strs
              rw [HT1.out, List.length_append, HT2.out, List.map_append]
              simpa using hown1')
            clear hown1 hown1' hgrow1 hat1 ho1 hlo1
            go_upto_region 8 with fail
            generalize hW1 : World.setCell w1 _ _ = W1 at *
            have H1 : Hid _ := H1'
            clear e1' f1' H1' hW1 e1 H0
            have hown2 : W1.ownsRow (sb + 1) 4 1 (.slice a2 k c2) k ((List.replicate k false).map Value.bool) := by
              have := H1.out.s2
              unfold Bls at this
              rw [List.length_replicate] at this
              exact this
            have hl2 : sb < W1.heap.size := H1.out.lt
            have e2 := H1.out.c7
            go_wp2_with (at_builtin; refine wpList_append_lies _ rfl _ _ 26 rfl (sb + 1) 4 j0 (.bool false) 1 1 Tryz.underlying26 hj hy0 hy1 hy2 rfl (by decide) _ _ _ rfl (hown2.alloc _) ⟨W1.heap.size, 0, none⟩ 1 1 [.bool false] rfl rfl ?c1 ?c2 ?c3 ?c4 ?c5 ?c6 (W1.heap.size + 1) ?c7 ?_)
            case c1 =>
              intro j u hj
              match j, hj with
              | 0, hj => simp at hj; subst hj; simp [Addr.add]
            case c2 => intro u hu; simp at hu; subst hu; rfl
            case c3 => decide
            case c4 => unfold maxLen; omega
            case c5 => omega
            case c6 => simp; omega
            case c7 => simp
            intro p2 q2 w2 hown2' hgrow2 hat2 hlt2
            have ho2 : OffL [(.slice a2 k c2)] W1 w2 := (OffL.of_below (below1 W1 _)).trans (OffL.ofGrown hgrow2 (by simp))
            have hlo2 : ∀ v ∈ ([(.slice a2 k c2)] : List Value), v.ownBlock ≠ some sb := fun v hv e => by
              rw [List.mem_singleton.1 hv] at e
              have := (hown2.lt sb e).1
              omega
            have e2' := (ho2.cell hl2 hlo2).trans e2
            have f2' := (ho2.frozen (i := 7) hl2 hlo2).trans (H1.out.fz 7)
            have H2' := H1.out.step2 (v' := .slice (some ⟨p2, 0, none⟩) (k + 1) q2) (R' := List.replicate (k + 1) false) ho2 (by
              rcases hat2 with h | h
              · left; rw [h]; rfl
              · right; exact ⟨p2, rfl, by omega⟩) (by
              unfold Bls
              rw [List.length_replicate, List.replicate_succ', List.map_append]
              simpa using hown2')
            clear hown2 hown2' hgrow2 hat2 ho2 hlo2
            go_upto_region 9 with fail
            generalize hW2 : World.setCell w2 _ _ = W2 at *
            have H2 : Hid _ := H2'
            clear e2' f2' H2' hW2 e2 H1
            have hown3 : W2.ownsRow (sb + 1) 37 3 (.slice a3 k c3) k (vrow (List.replicate k vd0)) := by
              have := H2.out.s3
              unfold Vds at this
              rw [List.length_replicate] at this
              exact this
            have hl3 : sb < W2.heap.size := H2.out.lt
            have e3 := H2.out.c8
            go_wp2_with (at_builtin; refine wpList_append_lies _ rfl _ _ 27 rfl (sb + 1) 37 k0 (.agg #[.int .i64 0, .int .i64 0, .string ⟨#[]⟩]) 3 32 Tryz.underlying27 hk hx0 hx1 hx2 rfl (by decide) _ _ _ rfl (hown3.alloc _) ⟨W2.heap.size, 0, none⟩ 1 1 [.int .i64 0, .int .i64 0, .string ⟨#[]⟩] rfl rfl ?c1 ?c2 ?c3 ?c4 ?c5 ?c6 (W2.heap.size + 1) ?c7 ?_)
            case c1 =>
              intro j u hj
              exact World.news_of_block (lk_new _ _ _ rfl) j u (by simpa using hj)
            case c2 => intro u hu; simp at hu; rcases hu with rfl | rfl | rfl <;> rfl
            case c3 => decide
            case c4 => unfold maxLen; omega
            case c5 => omega
            case c6 => simp; omega
            case c7 => simp
            intro p3 q3 w3 hown3' hgrow3 hat3 hlt3
            have ho3 : OffL [(.slice a3 k c3)] W2 w3 := (OffL.of_below (below1 W2 _)).trans (OffL.ofGrown hgrow3 (by simp))
            have hlo3 : ∀ v ∈ ([(.slice a3 k c3)] : List Value), v.ownBlock ≠ some sb := fun v hv e => by
              rw [List.mem_singleton.1 hv] at e
              have := (hown3.lt sb e).1
              omega
            have e3' := (ho3.cell hl3 hlo3).trans e3
            have f3' := (ho3.frozen (i := 8) hl3 hlo3).trans (H2.out.fz 8)
            have H3' := H2.out.step3 (v' := .slice (some ⟨p3, 0, none⟩) (k + 1) q3) (R' := List.replicate (k + 1) vd0) ho3 (by
              rcases hat3 with h | h
              · left; rw [h]; rfl
              · right; exact ⟨p3, rfl, by omega⟩) (by
              unfold Vds
              rw [List.length_replicate, List.replicate_succ', vrow_snoc]
              exact hown3')
            clear hown3 hown3' hgrow3 hat3 ho3 hlo3
            go_upto_region 10 with fail
            generalize hW3 : World.setCell w3 _ _ = W3 at *
            have H3 : Hid _ := H3'
            clear e3' f3' H3' hW3 e3 H2
            go_wp2
            go_roundw
            case rel => exact ⟨k + 1, some ⟨p1, 0, none⟩, some ⟨p2, 0, none⟩, some ⟨p3, 0, none⟩, q1, q2, q3, by omega, by go_num, H3⟩
            case measure => simp [intOf]; omega
          · obtain rfl : k = L.length := by omega
            have HF := H.out
            obtain ⟨r0, r1, r2, r3, r4, r5, r6, r7, r8, f0, f1, f2, f3, f4, f5, f6, f7, f8, hrz⟩ := HF.res
            have d0 := HF.c0
            have d1 := HF.c1
            have d2 := HF.c2
            have d3 := HF.c3
            have d4 := HF.c4
            have d5 := HF.c5
            have d6 := HF.c6
            have d7 := HF.c7
            have d8 := HF.c8
            have hsl := HF.lo
            have HH : Hid _ := HF
            clear HF H HC HS HA
            go_wp2
            refine bodyPost_ret (v := .agg #[.int .i64 1, .string ⟨#[]⟩, .string he, .string fr, .string bo, .slice a1 L.length c1, .int .i64 0, .slice a2 L.length c2, .slice a3 L.length c3]) (by simp [results, Tryz.results7, go_sem, r0, r1, r2, r3, r4, r5, r6, r7, r8]) rfl ?_
            generalize hW : World.setCell _ ⟨w.heap.size, 8, none⟩ _ = W3
            unfold OpenPost
            rw [hOK]
            have hl1 : w.heap.size < sb + 1 := by omega
            refine ⟨⟨_, _, _, rfl, ⟨?_, ?_, ?_⟩, HH.out.ap⟩, ?_⟩
            · rw [← hW]
              have := HH.out.s1
              rw [List.take_length] at this
              refine strs_le ?_ (Nat.le_of_lt hl1)
              repeat (refine row_set_below ?_ hl1 _)
              exact this
            · rw [← hW]
              refine Go.Joins.ownsRow_le ?_ (Nat.le_of_lt hl1)
              repeat (refine row_set_below ?_ hl1 _)
              exact HH.out.s2
            · rw [← hW]
              refine Go.Joins.ownsRow_le ?_ (Nat.le_of_lt hl1)
              repeat (refine row_set_below ?_ hl1 _)
              exact HH.out.s3
            · rw [← hW]
              repeat (refine Below.setCell ?_ (by simp) _)
              exact HH.out.bel
end Go.Proofs.YtngcjlghjidnjaaGreatDoor
