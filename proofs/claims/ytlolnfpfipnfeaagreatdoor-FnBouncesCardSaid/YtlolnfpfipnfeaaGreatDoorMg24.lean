import Derived.Test.YtlolnfpfipnfeaaGreatDoorMg19
import Derived.Test.YtlolnfpfipnfeaaGreatDoorMg21
import Derived.Test.YtlolnfpfipnfeaaGreatDoorMg23
import Derived.Test.YtlolnfpfipnfeaaGreatDoorMg6
import Derived.Lib.AtoiAll
namespace Go.Proofs.YtlolnfpfipnfeaaGreatDoor
open Go.ChangeShapes Go.WideShapes Go.ChangeAt Go.RowKit
open Pcs
def frL : List UInt8 := [70, 114, 111, 109, 58, 32, 60, 62]
def toL : List UInt8 := [84, 111, 58, 32, 60]
def sbL : List UInt8 := [83, 117, 98, 106, 101, 99, 116, 58, 32, 85, 110, 100, 101, 108, 105, 118, 101, 114, 101, 100, 32, 109, 97, 105, 108]
def bdL : List UInt8 := [67, 111, 110, 116, 101, 110, 116, 45, 84, 121, 112, 101, 58, 32, 109, 117, 108, 116, 105, 112, 97, 114, 116, 47, 114, 101, 112, 111, 114, 116, 59, 32, 114, 101, 112, 111, 114, 116, 45, 116, 121, 112, 101, 61, 100, 101, 108, 105, 118, 101, 114, 121, 45, 115, 116, 97, 116, 117, 115, 59, 32, 98, 111, 117, 110, 100, 97, 114, 121, 61, 34]
def csL : List UInt8 := [67, 111, 110, 116, 101, 110, 116, 45, 84, 121, 112, 101, 58, 32, 109, 101, 115, 115, 97, 103, 101, 47, 100, 101, 108, 105, 118, 101, 114, 121, 45, 115, 116, 97, 116, 117, 115]
def chL : List UInt8 := [67, 111, 110, 116, 101, 110, 116, 45, 84, 121, 112, 101, 58, 32, 116, 101, 120, 116, 47, 114, 102, 99, 56, 50, 50, 45, 104, 101, 97, 100, 101, 114, 115]
def rpL : List UInt8 := [82, 101, 112, 111, 114, 116, 105, 110, 103, 45, 77, 84, 65, 58, 32, 100, 110, 115, 59, 32]
def rcL : List UInt8 := [70, 105, 110, 97, 108, 45, 82, 101, 99, 105, 112, 105, 101, 110, 116, 58, 32, 114, 102, 99, 56, 50, 50, 59, 32]
def acL : List UInt8 := [65, 99, 116, 105, 111, 110, 58, 32, 102, 97, 105, 108, 101, 100]
def stL : List UInt8 := [83, 116, 97, 116, 117, 115, 58, 32]
def dgL : List UInt8 := [68, 105, 97, 103, 110, 111, 115, 116, 105, 99, 45, 67, 111, 100, 101, 58, 32, 115, 109, 116, 112, 59, 32]
def frcL : List UInt8 := [70, 105, 110, 97, 108, 45, 82, 101, 99, 105, 112, 105, 101, 110, 116, 58, 32]

/-- a recipient that was not reached -/
structure Fl where
  rc : ByteArray
  st : ByteArray
  cd : Int
  tx : ByteArray
/-- a report -/
structure Bn where
  he : ByteArray
  tw : ByteArray
  fs : List Fl
  hd : ByteArray
def dig3 (s : ByteArray) : Bool := decide (1 ≤ s.size) && (decide (s.size ≤ 3) && okAll digN s)
def statP : List ByteArray → Bool
  | [a, b, c] => (decide (a = ⟨#[52]⟩) || decide (a = ⟨#[53]⟩)) && (dig3 b && dig3 c)
  | _ => false
def statOk (s : ByteArray) : Bool := statP (pieces ⟨#[46]⟩ s)
def flOk (f : Fl) : Bool := addrOk f.rc && (statOk f.st && (codeOk f.cd && decide (cleanB f.tx = f.tx)))
def bnOk (b : Bn) : Bool := domOk b.he && (addrOk b.tw && (decide (1 ≤ b.fs.length) && (decide (b.fs.length ≤ 20) && (b.fs.all flOk && decide (headB b.hd = b.hd)))))
/-- the lines of a body -/
def linesB (s : ByteArray) : List (List UInt8) := (pieces ⟨#[13, 10]⟩ s).dropLast.map (·.data.toList)
def takes (k : Nat) (l : List UInt8) : Bool := (45 :: 45 :: 98 :: Lib.decDigits k).isPrefixOf l
def freeN (M : List (List UInt8)) (k : Nat) : Bool := M.all fun l => !takes k l
/-- the first boundary that is free -/
def ffI (M : List (List UInt8)) : Nat → Nat → Nat
  | 0, k => k
  | f + 1, k => if freeN M k then k else ffI M f (k + 1)
def bndI (M : List (List UInt8)) : Nat := ffI M 10000 0
/-- the first boundary that is free or behind all lines -/
def ffS (M : List (List UInt8)) : Nat → Nat → Nat
  | 0, k => k
  | f + 1, k => if freeN M k || decide (M.length < k) then k else ffS M f (k + 1)
def bndS (M : List (List UInt8)) : Nat := ffS M (M.length + 2) 0
def cutL (k : Nat) : List UInt8 := 98 :: Lib.decDigits k
def flLines (f : Fl) : List (List UInt8) := [[], rcL ++ f.rc.data.toList, acL, stL ++ f.st.data.toList, dgL ++ (Lib.itoa f.cd ++ (32 :: f.tx.data.toList))]
def hdLines (b : Bn) (cut : List UInt8) : List (List UInt8) := [frL, toL ++ (b.tw.data.toList ++ [62]), sbL, bdL ++ (cut ++ [34]), [], 45 :: 45 :: cut, csL, [], rpL ++ b.he.data.toList]
def enLines (cut : List UInt8) : List (List UInt8) := [[], 45 :: 45 :: cut, chL, []]
def bnLines (b : Bn) (cut : List UInt8) : List (List UInt8) := hdLines b cut ++ ((b.fs.map flLines).flatten ++ enLines cut)
def lastL (cut : List UInt8) : List UInt8 := 45 :: 45 :: (cut ++ [45, 45, 13, 10])
def bnText (b : Bn) (cut : List UInt8) : List UInt8 := flatL (bnLines b cut) ++ (b.hd.data.toList ++ lastL cut)
def makeS (b : Bn) : ByteArray := if bnOk b then mk (bnText b (cutL (bndS (linesB b.hd)))) else ⟨#[]⟩
def makeI (b : Bn) : ByteArray := if bnOk b then mk (bnText b (cutL (bndI (linesB b.hd)))) else ⟨#[]⟩

/-- the program's reader -/
def lnI (r : List UInt8) : List UInt8 × List UInt8 := ((Lib.cut r [13, 10]).1, (Lib.cut r [13, 10]).2.1)
def skI : Nat → List UInt8 → List UInt8
  | 0, r => r
  | n + 1, r => skI n (lnI r).2
def fdI (lead tail l : List UInt8) : List UInt8 := Lib.trimSuffix (Lib.trimPrefix l lead) tail
def atoiV (l : List UInt8) : Int := match Lib.atoiAll l with
  | .ok v => v
  | .range => Lib.atoiSat l
  | _ => 0
def flI (r : List UInt8) : Fl × List UInt8 :=
  let r1 := skI 1 r
  let r2 := skI 1 (lnI r1).2
  let r3 := (lnI r2).2
  let d := Lib.cut (fdI dgL [] (lnI r3).1) [32]
  (⟨mk (fdI rcL [] (lnI r1).1), mk (fdI stL [] (lnI r2).1), atoiV d.1, mk d.2.1⟩, (lnI r3).2)
def flsI : Nat → List UInt8 → List Fl → List Fl × List UInt8
  | 0, r, acc => (acc, r)
  | f + 1, r, acc => if (13 :: 10 :: rcL).isPrefixOf r then flsI f (flI r).2 (acc ++ [(flI r).1]) else (acc, r)
def readI (t : List UInt8) : Bn :=
  let r1 := skI 1 t
  let r2 := skI 1 (lnI r1).2
  let bd := fdI bdL [34] (lnI r2).1
  let r3 := skI 4 (lnI r2).2
  let r4 := (lnI r3).2
  let q := flsI (t.length + 1) r4 []
  ⟨mk (fdI rpL [] (lnI r3).1), mk (fdI toL [62] (lnI r1).1), q.1, mk (Lib.trimSuffix (skI 4 q.2) (lastL bd))⟩

/-- the specification's reader, out of the pieces -/
def afS (s head : List UInt8) : List UInt8 := if head.isPrefixOf s then s.drop head.length else []
def num3 (s : List UInt8) : Int := if 1 ≤ s.length ∧ s.length ≤ 3 ∧ s.all (fun b => digN b.toNat) = true then ((s.foldl (fun n b => n * 10 + (b.toNat - 48)) 0 : Nat) : Int) else 0
def wordL : List UInt8 → List UInt8
  | [] => []
  | b :: l => if b = 32 then [] else b :: wordL l
def flS (a c d : List UInt8) : Fl :=
  let g := afS d dgL
  ⟨mk (afS a rcL), mk (afS c stL), num3 (wordL g), mk (g.drop ((wordL g).length + 1))⟩
def flsS : Nat → List (List UInt8) → List Fl → List Fl × List (List UInt8)
  | 0, Q, acc => (acc, Q)
  | f + 1, Q, acc => match Q with
    | _ :: a :: _ :: c :: d :: R => if frcL.isPrefixOf a then flsS f R (acc ++ [flS a c d]) else (acc, Q)
    | _ => (acc, Q)
def readP (P : List (List UInt8)) : Bn :=
  let q := flsS (P.length + 1) (P.drop 9) []
  ⟨mk (afS (P.getD 8 []) rpL), mk (afS (P.getD 1 []) toL).dropLast, q.1, mk (flatL (q.2.drop 4).dropLast.dropLast)⟩
def readS (t : List UInt8) : Bn := readP (pcs [13, 10] 0 [] t)
end Go.Proofs.YtlolnfpfipnfeaaGreatDoor
namespace Go.Proofs.YtlolnfpfipnfeaaGreatDoor
open Go.ChangeShapes Go.WideShapes Go.ChangeAt Go.RowKit
open Pcs

theorem ffI_at (M : List (List UInt8)) : ∀ (f k n : Nat), k ≤ n → n < k + f → (∀ j, k ≤ j → j < n → freeN M j = false) → freeN M n = true → ffI M f k = n
  | 0, k, n, h1, h2, _, _ => by omega
  | f + 1, k, n, h1, h2, h3, h4 => by
    rw [ffI]
    by_cases e : k = n
    · subst e; rw [if_pos h4]
    · rw [if_neg (by rw [h3 k (Nat.le_refl _) (by omega)]; decide)]
      exact ffI_at M f (k + 1) n (by omega) (by omega) (fun j h5 h6 => h3 j (by omega) h6) h4
theorem ffS_at (M : List (List UInt8)) : ∀ (f k n : Nat), k ≤ n → n < k + f → (∀ j, k ≤ j → j < n → freeN M j = false ∧ j ≤ M.length) → (freeN M n = true ∨ M.length < n) → ffS M f k = n
  | 0, k, n, h1, h2, _, _ => by omega
  | f + 1, k, n, h1, h2, h3, h4 => by
    rw [ffS]
    by_cases e : k = n
    · subst e; rw [if_pos (by rcases h4 with h4 | h4 <;> simp [h4])]
    · obtain ⟨a, b⟩ := h3 k (Nat.le_refl _) (by omega)
      rw [if_neg (by rw [a]; simp; omega)]
      exact ffS_at M f (k + 1) n (by omega) (by omega) (fun j h5 h6 => h3 j (by omega) h6) h4
theorem bndS_at {M : List (List UInt8)} {n : Nat} (h3 : ∀ j, j < n → freeN M j = false ∧ j ≤ M.length) (h4 : freeN M n = true ∨ M.length < n) : bndS M = n := by
  have hn : n < M.length + 2 := by
    by_cases e : n = 0
    · omega
    · have := (h3 (n - 1) (by omega)).2; omega
  exact ffS_at M _ 0 n (Nat.zero_le _) (by omega) (fun j _ h => h3 j h) h4

theorem dec_inj : ∀ (n a b : Nat), a ≤ n → Lib.decDigits a = Lib.decDigits b → a = b
  | n, a, b, hn, h => by
    have hl := congrArg List.length h
    have ofN : ∀ {i j : Nat}, i < 10 → j < 10 → UInt8.ofNat (48 + i) = UInt8.ofNat (48 + j) → i = j := by
      intro i j hi hj e
      have := congrArg UInt8.toNat e
      rw [UInt8.toNat_ofNat', UInt8.toNat_ofNat'] at this
      omega
    by_cases ha : a < 10
    · by_cases hb : b < 10
      · rw [Lib.decDigits_one ha, Lib.decDigits_one hb] at h
        exact ofN ha hb (by simpa using h)
      · rw [Lib.decDigits_length, Lib.decDigits_length, Lib.nDigits_small ha, Lib.nDigits_big hb] at hl
        have := Lib.nDigits_pos (b / 10); omega
    · by_cases hb : b < 10
      · rw [Lib.decDigits_length, Lib.decDigits_length, Lib.nDigits_small hb, Lib.nDigits_big ha] at hl
        have := Lib.nDigits_pos (a / 10); omega
      · rw [Lib.decDigits, dif_neg ha, Lib.decDigits.eq_def b, dif_neg hb] at h
        obtain ⟨h1, h2⟩ := List.append_inj' h rfl
        obtain ⟨m, rfl⟩ : ∃ m, n = m + 1 := ⟨n - 1, by omega⟩
        have e1 := dec_inj m (a / 10) (b / 10) (by omega) h1
        have e2 := ofN (Nat.mod_lt a (by decide)) (Nat.mod_lt b (by decide)) (by simpa using h2)
        omega
theorem takes_inj {k j : Nat} {l : List UInt8} (hk : takes k l = true) (hj : takes j l = true) (h : (Lib.decDigits k).length = (Lib.decDigits j).length) : k = j := by
  unfold takes at hk hj
  rw [List.isPrefixOf_iff_prefix] at hk hj
  have e := List.prefix_of_prefix_length_le hk hj (by simp [h])
  have := e.eq_of_length (by simp [h])
  simp only [List.cons.injEq, true_and] at this
  exact dec_inj k k j (Nat.le_refl _) this
theorem one_of_len {n : Nat} (l : List UInt8) : ∀ D : List Nat, D.Nodup → (∀ k ∈ D, (Lib.decDigits k).length = n) → D.countP (takes · l) ≤ 1
  | [], _, _ => by simp
  | a :: D, hd, hn => by
    have hd' := List.nodup_cons.1 hd
    have ih := one_of_len l D hd'.2 fun k hk => hn k (List.mem_cons_of_mem _ hk)
    by_cases ha : takes a l = true
    · have h0 : D.countP (takes · l) = 0 := by
        rw [List.countP_eq_zero]
        intro k hk hkl
        have := takes_inj ha hkl (by rw [hn a List.mem_cons_self, hn k (List.mem_cons_of_mem _ hk)])
        subst this
        exact hd'.1 hk
      rw [List.countP_cons, h0]; split <;> omega
    · rw [List.countP_cons_of_neg (by simpa using ha)]; exact ih
theorem countP_or (p q : Nat → Bool) : ∀ D : List Nat, D.countP (fun k => p k || q k) ≤ D.countP p + D.countP q
  | [] => by simp
  | a :: D => by
    have ih := countP_or p q D
    rw [List.countP_cons, List.countP_cons, List.countP_cons]
    cases p a <;> cases q a <;> simp <;> omega
theorem pig (D : List Nat) (hD : ∀ l, D.countP (takes · l) ≤ 1) : ∀ M : List (List UInt8), D.countP (fun k => !freeN M k) ≤ M.length
  | [] => by
    have : D.countP (fun k => !freeN [] k) = 0 := by rw [List.countP_eq_zero]; intro k _; simp [freeN]
    omega
  | l :: M => by
    have ih := pig D hD M
    have h := countP_or (takes · l) (fun k => !freeN M k) D
    have e : (fun k => !freeN (l :: M) k) = fun k => (takes k l || !freeN M k) := by
      funext k
      simp [freeN]
    rw [e]
    have := hD l
    simp only [List.length_cons]
    omega
theorem digs4 {k : Nat} (h1 : 1000 ≤ k) (h2 : k < 10000) : (Lib.decDigits k).length = 4 := by
  rw [Lib.decDigits_length]; exact Lib.nDigits_unique 3 k h1 h2
theorem free_some {M : List (List UInt8)} (h : M.length < 9000) : ∃ k, 1000 ≤ k ∧ k < 10000 ∧ freeN M k = true := by
  apply Classical.byContradiction
  intro hn
  have hall : ∀ k ∈ List.range' 1000 9000, (!freeN M k) = true := by
    intro k hk
    rw [List.mem_range'_1] at hk
    cases hf : freeN M k
    · rfl
    · exact absurd ⟨k, by omega, by omega, hf⟩ hn
  have h1 := pig (List.range' 1000 9000) (fun l => one_of_len (n := 4) l _ (List.nodup_range' (step := 1)) fun k hk => by rw [List.mem_range'_1] at hk; exact digs4 (by omega) (by omega)) M
  have h2 : (List.range' 1000 9000).countP (fun k => !freeN M k) = (List.range' 1000 9000).length := List.countP_eq_length.2 hall
  rw [h2, List.length_range'] at h1
  omega
theorem bnd_room {M : List (List UInt8)} (h : M.length < 9000) {n : Nat} (hn : ∀ j, j < n → freeN M j = false) : n < 10000 := by
  obtain ⟨k, h1, h2, h3⟩ := free_some h
  apply Classical.byContradiction
  intro hc
  rw [hn k (by omega)] at h3
  cases h3
theorem bndI_at {M : List (List UInt8)} (h : M.length < 9000) {n : Nat} (hn : ∀ j, j < n → freeN M j = false) (hf : freeN M n = true) : bndI M = n :=
  ffI_at M 10000 0 n (Nat.zero_le _) (by have := bnd_room h hn; omega) (fun j _ hj => hn j hj) hf
theorem least_free {M : List (List UInt8)} : ∀ d : Nat, freeN M d = true → ∃ n, n ≤ d ∧ freeN M n = true ∧ ∀ j, j < n → freeN M j = false
  | d, h => by
    by_cases e : ∃ j, j < d ∧ freeN M j = true
    · obtain ⟨j, hj, hf⟩ := e
      obtain ⟨n, h1, h2, h3⟩ := least_free j hf
      exact ⟨n, by omega, h2, h3⟩
    · refine ⟨d, Nat.le_refl _, h, fun j hj => ?_⟩
      cases hf : freeN M j
      · rfl
      · exact absurd ⟨j, hj, hf⟩ e
theorem bnd_eq {M : List (List UInt8)} (h : M.length < 9000) {d : Nat} (hd : d ≤ 9) (hf : freeN M d = true) : bndS M = bndI M ∧ bndI M ≤ d := by
  obtain ⟨n, h1, h2, h3⟩ := least_free d hf
  rw [bndI_at h h3 h2]
  refine ⟨bndS_at (fun j hj => ⟨h3 j hj, ?_⟩) (.inl h2), h1⟩
  have hp := pig (List.range n) (fun l => one_of_len (n := 1) l _ List.nodup_range fun k hk => by rw [List.mem_range] at hk; rw [Lib.decDigits_one (by omega)]; rfl) M
  rw [List.countP_eq_length.2 (fun k hk => by rw [List.mem_range] at hk; rw [h3 k hk]; rfl), List.length_range] at hp
  omega
theorem idx0 {l p : List UInt8} (hp : p ≠ []) (h : p.isPrefixOf l = true) : Lib.index l p = 0 := by
  cases l with
  | nil => cases p with
    | nil => exact absurd rfl hp
    | cons a p => simp [List.isPrefixOf] at h
  | cons a l => rw [Lib.index, if_pos h]
theorem ln_at {l r : List UInt8} (h : (13 : UInt8) ∉ l) : lnI (l ++ 13 :: 10 :: r) = (l, r) := by
  have e0 : Lib.index (13 :: 10 :: r) [13, 10] = 0 := idx0 (by simp) (by simp [List.isPrefixOf])
  have e := idx_skip (r := 13 :: 10 :: r) (t := [10]) l h
  rw [e0, if_neg (by decide)] at e
  unfold lnI Lib.cut
  rw [e, if_pos (by omega)]
  simp
theorem ln_nil (r : List UInt8) : lnI (13 :: 10 :: r) = ([], r) := ln_at (l := []) (by simp)
theorem trim_pre (p x : List UInt8) : Lib.trimPrefix (p ++ x) p = x := by
  unfold Lib.trimPrefix Lib.hasPrefix
  rw [if_pos (by rw [List.isPrefixOf_iff_prefix]; exact ⟨x, rfl⟩)]
  simp
theorem trim_suf (x s : List UInt8) : Lib.trimSuffix (x ++ s) s = x := by
  unfold Lib.trimSuffix Lib.hasSuffix
  rw [if_pos (by rw [List.isSuffixOf_iff_suffix]; exact ⟨x, rfl⟩)]
  simp
theorem fd_at (p x s : List UInt8) : fdI p s (p ++ (x ++ s)) = x := by unfold fdI; rw [trim_pre, trim_suf]
theorem fd_at0 (p x : List UInt8) : fdI p [] (p ++ x) = x := by
  have := fd_at p x []
  rwa [List.append_nil] at this
theorem dig3_eq {u : Nat} (h1 : 100 ≤ u) (h2 : u < 1000) : Lib.decDigits u = [UInt8.ofNat (48 + u / 100), UInt8.ofNat (48 + u / 10 % 10), UInt8.ofNat (48 + u % 10)] := by
  rw [Lib.decDigits, dif_neg (by omega), Lib.decDigits_two (by omega) (by omega), Nat.div_div_eq_div_mul]; rfl
theorem dgt_nat {i : Nat} (h : i < 10) : (UInt8.ofNat (48 + i)).toNat = 48 + i := by
  rw [UInt8.toNat_ofNat']; omega
theorem dgt_ne {i : Nat} (h : i < 10) {c : UInt8} (hc : c.toNat < 48) : UInt8.ofNat (48 + i) ≠ c := fun e => by
  have := congrArg UInt8.toNat e
  rw [dgt_nat h] at this; omega
theorem atoi3 {a b c : Nat} (ha : a < 10) (hb : b < 10) (hc : c < 10) : atoiV [UInt8.ofNat (48 + a), UInt8.ofNat (48 + b), UInt8.ofNat (48 + c)] = ((a * 100 + b * 10 + c : Nat) : Int) := by
  have h1 := dgt_nat ha; have h2 := dgt_nat hb; have h3 := dgt_nat hc
  have e : Lib.parseMag [UInt8.ofNat (48 + a), UInt8.ofNat (48 + b), UInt8.ofNat (48 + c)] = .ok (a * 100 + b * 10 + c) := by
    unfold Lib.parseMag
    rw [if_neg (by simp)]
    simp only [Lib.parseUint10, h1, h2, h3]
    rw [if_pos (by omega), if_neg (by omega), if_neg (by omega), if_pos (by omega), if_neg (by omega), if_neg (by omega), if_pos (by omega), if_neg (by omega), if_neg (by omega)]
    congr 1; omega
  have e2 : Lib.atoiAll [UInt8.ofNat (48 + a), UInt8.ofNat (48 + b), UInt8.ofNat (48 + c)] = .ok ((a * 100 + b * 10 + c : Nat) : Int) := by
    unfold Lib.atoiAll
    simp only [h1]
    rw [if_neg (by omega), e]
    simp only []
    rw [if_neg (by omega), if_neg (by omega), if_neg (by omega)]
  unfold atoiV; rw [e2]
theorem code_digs {c : Int} (h : codeOk c = true) : c = 0 ∨ ∃ x y z : Nat, x < 10 ∧ y < 10 ∧ z < 10 ∧ c = ((x * 100 + y * 10 + z : Nat) : Int) ∧ Lib.itoa c = [UInt8.ofNat (48 + x), UInt8.ofNat (48 + y), UInt8.ofNat (48 + z)] := by
  unfold codeOk at h
  simp only [Bool.or_eq_true, Bool.and_eq_true, decide_eq_true_eq] at h
  rcases h with h | ⟨h1, h2⟩
  · exact .inl h
  · right
    obtain ⟨u, rfl⟩ : ∃ u : Nat, c = u := ⟨c.toNat, by omega⟩
    refine ⟨u / 100, u / 10 % 10, u % 10, by omega, by omega, by omega, by omega, ?_⟩
    unfold Lib.itoa
    rw [if_neg (by omega), Int.toNat_natCast, dig3_eq (by omega) (by omega)]
theorem itoa0 : Lib.itoa 0 = [48] := by unfold Lib.itoa; rw [if_neg (by decide)]; rw [show (0 : Int).toNat = 0 from rfl, Lib.decDigits_one (by decide)]; rfl
theorem code_atoi {c : Int} (h : codeOk c = true) : atoiV (Lib.itoa c) = c := by
  rcases code_digs h with rfl | ⟨x, y, z, hx, hy, hz, e, e2⟩
  · rw [itoa0]; rfl
  · rw [e2, atoi3 hx hy hz, e]
theorem code_num {c : Int} (h : codeOk c = true) : num3 (Lib.itoa c) = c := by
  rcases code_digs h with rfl | ⟨x, y, z, hx, hy, hz, e, e2⟩
  · rw [itoa0]; rfl
  · rw [e2, e]
    unfold num3
    have h1 := dgt_nat hx; have h2 := dgt_nat hy; have h3 := dgt_nat hz
    rw [if_pos ⟨by simp, by simp, by simp only [List.all_cons, List.all_nil, digN, h1, h2, h3, Bool.and_true, Bool.and_eq_true, decide_eq_true_eq]; omega⟩]
    simp only [List.foldl_cons, List.foldl_nil, h1, h2, h3]
    omega
theorem code_no {c : Int} (h : codeOk c = true) {d : UInt8} (hd : d.toNat < 48) : d ∉ Lib.itoa c := by
  rcases code_digs h with rfl | ⟨x, y, z, hx, hy, hz, e, e2⟩
  · rw [itoa0]; intro hm; rw [List.mem_singleton] at hm; subst hm; revert hd; decide
  · rw [e2]
    intro hm
    simp only [List.mem_cons, List.not_mem_nil, or_false] at hm
    rcases hm with hm | hm | hm
    · exact dgt_ne hx hd hm.symm
    · exact dgt_ne hy hd hm.symm
    · exact dgt_ne hz hd hm.symm
theorem cut_sp {l r : List UInt8} (h : (32 : UInt8) ∉ l) : Lib.cut (l ++ 32 :: r) [32] = (l, r, true) := by
  have e0 : Lib.index (32 :: r) [32] = 0 := idx0 (by simp) (by simp [List.isPrefixOf])
  have e := idx_skip (r := 32 :: r) (t := []) l h
  rw [e0, if_neg (by decide)] at e
  unfold Lib.cut
  rw [e, if_pos (by omega)]
  simp
theorem word_at : ∀ {l r : List UInt8}, (32 : UInt8) ∉ l → wordL (l ++ 32 :: r) = l
  | [], r, _ => by simp [wordL]
  | b :: l, r, h => by
    have hb : b ≠ 32 := fun e => h (by rw [e]; exact List.mem_cons_self)
    rw [List.cons_append, wordL, if_neg hb, word_at fun hm => h (List.mem_cons_of_mem _ hm)]

/-- a report whose fields stand in one line each -/
structure FlN (f : Fl) : Prop where
  rc : (13 : UInt8) ∉ f.rc.data.toList
  st : (13 : UInt8) ∉ f.st.data.toList
  cd : codeOk f.cd = true
  tx : (13 : UInt8) ∉ f.tx.data.toList
structure BnN (b : Bn) (M : List (List UInt8)) : Prop where
  tw : (13 : UInt8) ∉ b.tw.data.toList
  he : (13 : UInt8) ∉ b.he.data.toList
  fs : ∀ f ∈ b.fs, FlN f
  hd : b.hd.data.toList = flatL M
  ln : ∀ m ∈ M, (13 : UInt8) ∉ m
theorem flatL_app (A B : List (List UInt8)) : flatL (A ++ B) = flatL A ++ flatL B := by simp [flatL]
theorem flatL_cons' (m : List UInt8) (M : List (List UInt8)) (r : List UInt8) : flatL (m :: M) ++ r = m ++ 13 :: 10 :: (flatL M ++ r) := by simp [flatL]
theorem flatL_nil' (r : List UInt8) : flatL [] ++ r = r := rfl
theorem no_app {c : UInt8} {a b : List UInt8} (ha : c ∉ a) (hb : c ∉ b) : c ∉ a ++ b := by simp [ha, hb]
theorem no_cons {c d : UInt8} {b : List UInt8} (ha : c ≠ d) (hb : c ∉ b) : c ∉ d :: b := by simp [ha, hb]
theorem flI_at {f : Fl} (h : FlN f) (r : List UInt8) : flI (flatL (flLines f) ++ r) = (f, r) := by
  have h32 := code_no h.cd (d := 32) (by decide)
  have h13 := code_no h.cd (d := 13) (by decide)
  obtain ⟨e1, e2, e3, e4, e5⟩ : lnI (flatL (flLines f) ++ r) = ([], rcL ++ f.rc.data.toList ++ 13 :: 10 :: (acL ++ 13 :: 10 :: (stL ++ f.st.data.toList ++ 13 :: 10 :: (dgL ++ (Lib.itoa f.cd ++ (32 :: f.tx.data.toList)) ++ 13 :: 10 :: r)))) ∧
      lnI (rcL ++ f.rc.data.toList ++ 13 :: 10 :: (acL ++ 13 :: 10 :: (stL ++ f.st.data.toList ++ 13 :: 10 :: (dgL ++ (Lib.itoa f.cd ++ (32 :: f.tx.data.toList)) ++ 13 :: 10 :: r)))) = (rcL ++ f.rc.data.toList, acL ++ 13 :: 10 :: (stL ++ f.st.data.toList ++ 13 :: 10 :: (dgL ++ (Lib.itoa f.cd ++ (32 :: f.tx.data.toList)) ++ 13 :: 10 :: r))) ∧
      lnI (acL ++ 13 :: 10 :: (stL ++ f.st.data.toList ++ 13 :: 10 :: (dgL ++ (Lib.itoa f.cd ++ (32 :: f.tx.data.toList)) ++ 13 :: 10 :: r))) = (acL, stL ++ f.st.data.toList ++ 13 :: 10 :: (dgL ++ (Lib.itoa f.cd ++ (32 :: f.tx.data.toList)) ++ 13 :: 10 :: r)) ∧
      lnI (stL ++ f.st.data.toList ++ 13 :: 10 :: (dgL ++ (Lib.itoa f.cd ++ (32 :: f.tx.data.toList)) ++ 13 :: 10 :: r)) = (stL ++ f.st.data.toList, dgL ++ (Lib.itoa f.cd ++ (32 :: f.tx.data.toList)) ++ 13 :: 10 :: r) ∧
      lnI (dgL ++ (Lib.itoa f.cd ++ (32 :: f.tx.data.toList)) ++ 13 :: 10 :: r) = (dgL ++ (Lib.itoa f.cd ++ (32 :: f.tx.data.toList)), r) := by
    refine ⟨?_, ln_at (no_app (by decide) h.rc), ln_at (by decide), ln_at (no_app (by decide) h.st), ln_at (no_app (by decide) (no_app h13 (no_cons (by decide) h.tx)))⟩
    unfold flLines
    rw [flatL_cons', flatL_cons', flatL_cons', flatL_cons', flatL_cons', flatL_nil']
    exact ln_at (by simp)
  unfold flI
  simp only [skI, e1, e2, e3, e4, e5]
  rw [fd_at0, fd_at0, fd_at0, cut_sp h32]
  simp only [code_atoi h.cd, mk_data]
theorem flI_pre (f : Fl) (r : List UInt8) : (13 :: 10 :: rcL).isPrefixOf (flatL (flLines f) ++ r) = true := by
  unfold flLines
  rw [flatL_cons', flatL_cons', List.isPrefixOf_iff_prefix]
  exact ⟨_, by simp only [List.nil_append, List.append_assoc, List.cons_append]; rfl⟩
theorem flsI_at (r : List UInt8) (hr : (13 :: 10 :: rcL).isPrefixOf r = false) : ∀ (fs : List Fl) (f : Nat) (acc : List Fl), (∀ x ∈ fs, FlN x) → fs.length < f → flsI f (flatL (fs.map flLines).flatten ++ r) acc = (acc ++ fs, r)
  | [], f + 1, acc, _, _ => by
    have e : flatL ((([] : List Fl).map flLines).flatten) ++ r = r := rfl
    rw [e, flsI, if_neg (by rw [hr]; decide), List.append_nil]
  | x :: fs, f + 1, acc, h, hf => by
    rw [List.map_cons, List.flatten_cons, flatL_app, List.append_assoc, flsI, if_pos (flI_pre x _), flI_at (h x List.mem_cons_self)]
    rw [flsI_at r hr fs f (acc ++ [x]) (fun y hy => h y (List.mem_cons_of_mem _ hy)) (by simp only [List.length_cons] at hf; omega)]
    simp
theorem flat_long : ∀ M : List (List UInt8), M.length ≤ (flatL M).length
  | [] => by simp
  | m :: M => by
    have := flat_long M
    rw [flatL_cons]
    simp only [List.length_append, List.length_cons, List.length_nil]
    omega
theorem fls_len : ∀ fs : List Fl, fs.length ≤ ((fs.map flLines).flatten).length
  | [] => by simp
  | f :: fs => by
    have := fls_len fs
    simp only [List.map_cons, List.flatten_cons, List.length_append, flLines, List.length_cons, List.length_nil]
    omega
theorem readI_at {b : Bn} {M : List (List UInt8)} (h : BnN b M) {cut : List UInt8} (hc : (13 : UInt8) ∉ cut) : readI (bnText b cut) = b := by
  have hlen : b.fs.length < (bnText b cut).length + 1 := by
    have h1 := fls_len b.fs
    have h2 := flat_long (bnLines b cut)
    unfold bnText
    unfold bnLines at h2 ⊢
    simp only [List.length_append] at h2 ⊢
    omega
  have he : (13 :: 10 :: rcL).isPrefixOf (flatL (enLines cut) ++ (b.hd.data.toList ++ lastL cut)) = false := by
    unfold enLines
    rw [flatL_cons', flatL_cons']
    simp [List.isPrefixOf, rcL]
  have e9 := flsI_at _ he b.fs ((bnText b cut).length + 1) [] h.fs hlen
  generalize hN : (bnText b cut).length + 1 = N at e9
  have hT : bnText b cut = frL ++ 13 :: 10 :: (toL ++ (b.tw.data.toList ++ [62]) ++ 13 :: 10 :: (sbL ++ 13 :: 10 :: (bdL ++ (cut ++ [34]) ++ 13 :: 10 :: ([] ++ 13 :: 10 :: (45 :: 45 :: cut ++ 13 :: 10 :: (csL ++ 13 :: 10 :: ([] ++ 13 :: 10 :: (rpL ++ b.he.data.toList ++ 13 :: 10 :: (flatL (b.fs.map flLines).flatten ++ (flatL (enLines cut) ++ (b.hd.data.toList ++ lastL cut))))))))))) := by
    unfold bnText bnLines hdLines
    rw [flatL_app, flatL_app, List.append_assoc, List.append_assoc, flatL_cons', flatL_cons', flatL_cons', flatL_cons', flatL_cons', flatL_cons', flatL_cons', flatL_cons', flatL_cons', flatL_nil']
  have hE : skI 4 (flatL (enLines cut) ++ (b.hd.data.toList ++ lastL cut)) = b.hd.data.toList ++ lastL cut := by
    unfold enLines
    rw [flatL_cons', flatL_cons', flatL_cons', flatL_cons', flatL_nil']
    simp only [skI]
    rw [ln_at (by simp), ln_at (no_cons (by decide) (no_cons (by decide) hc)), ln_at (by decide), ln_at (by simp)]
  unfold readI
  simp only [skI, hN]
  rw [hT]
  simp only [ln_at (show (13 : UInt8) ∉ frL by decide), ln_at (show (13 : UInt8) ∉ toL ++ (b.tw.data.toList ++ [62]) from no_app (by decide) (no_app h.tw (by decide))), ln_at (show (13 : UInt8) ∉ sbL by decide), ln_at (show (13 : UInt8) ∉ bdL ++ (cut ++ [34]) from no_app (by decide) (no_app hc (by decide))), ln_nil, ln_at (show (13 : UInt8) ∉ 45 :: 45 :: cut from no_cons (by decide) (no_cons (by decide) hc)), ln_at (show (13 : UInt8) ∉ csL by decide), ln_at (show (13 : UInt8) ∉ rpL ++ b.he.data.toList from no_app (by decide) h.he), e9, List.nil_append, fd_at, fd_at0, mk_data]
  simp only [skI] at hE
  rw [hE, trim_suf, mk_data]
theorem pcs_lineB {r : List UInt8} : ∀ (m acc : List UInt8), (13 : UInt8) ∉ m → pcs [13, 10] 0 acc (m ++ 13 :: 10 :: r) = (acc ++ m) :: pcs [13, 10] 0 [] r
  | [], acc, _ => by
    rw [List.nil_append, pcs_hit (by simp) (by simp [List.isPrefixOf])]
    simp
  | b :: m, acc, h => by
    have hb : ((13 : UInt8) == b) = false := beq_eq_false_iff_ne.2 fun e => h (by rw [e]; exact List.mem_cons_self)
    rw [List.cons_append, pcs_miss (by simp [List.isPrefixOf, hb]), pcs_lineB m (acc ++ [b]) fun hm => h (List.mem_cons_of_mem _ hm)]
    simp
theorem pcs_flat {r : List UInt8} : ∀ M : List (List UInt8), (∀ m ∈ M, (13 : UInt8) ∉ m) → pcs [13, 10] 0 [] (flatL M ++ r) = M ++ pcs [13, 10] 0 [] r
  | [], _ => by simp [flatL]
  | m :: M, h => by
    rw [flatL_cons', pcs_lineB m [] (h m List.mem_cons_self), pcs_flat M fun x hx => h x (List.mem_cons_of_mem _ hx)]
    simp
theorem af_at (p x : List UInt8) : afS (p ++ x) p = x := by
  unfold afS
  rw [if_pos (by rw [List.isPrefixOf_iff_prefix]; exact ⟨x, rfl⟩)]
  simp
theorem flS_at {f : Fl} (h : FlN f) : flS (rcL ++ f.rc.data.toList) (stL ++ f.st.data.toList) (dgL ++ (Lib.itoa f.cd ++ (32 :: f.tx.data.toList))) = f := by
  have h32 := code_no h.cd (d := 32) (by decide)
  unfold flS
  simp only [af_at, word_at h32, code_num h.cd, mk_data]
  have : (Lib.itoa f.cd ++ 32 :: f.tx.data.toList).drop ((Lib.itoa f.cd).length + 1) = f.tx.data.toList := by
    rw [show (Lib.itoa f.cd ++ 32 :: f.tx.data.toList) = (Lib.itoa f.cd ++ [32]) ++ f.tx.data.toList by simp]
    exact List.drop_left' (by simp)
  rw [this, mk_data]
theorem frc_pre (x : List UInt8) : frcL.isPrefixOf (rcL ++ x) = true := by
  rw [List.isPrefixOf_iff_prefix]
  exact ⟨[114, 102, 99, 56, 50, 50, 59, 32] ++ x, rfl⟩
theorem flsS_at (Q : List (List UInt8)) (hQ : ∀ (f : Nat) (acc : List Fl), flsS (f + 1) Q acc = (acc, Q)) : ∀ (fs : List Fl) (f : Nat) (acc : List Fl), (∀ x ∈ fs, FlN x) → fs.length < f → flsS f ((fs.map flLines).flatten ++ Q) acc = (acc ++ fs, Q)
  | [], f + 1, acc, _, _ => by
    rw [List.map_nil, List.flatten_nil, List.nil_append, hQ, List.append_nil]
  | x :: fs, f + 1, acc, h, hf => by
    rw [List.map_cons, List.flatten_cons, List.append_assoc]
    show flsS (f + 1) ([] :: (rcL ++ x.rc.data.toList) :: acL :: (stL ++ x.st.data.toList) :: (dgL ++ (Lib.itoa x.cd ++ (32 :: x.tx.data.toList))) :: ((fs.map flLines).flatten ++ Q)) acc = _
    rw [flsS]
    simp only [frc_pre, if_true]
    rw [flS_at (h x List.mem_cons_self), flsS_at Q hQ fs f (acc ++ [x]) (fun y hy => h y (List.mem_cons_of_mem _ hy)) (by simp only [List.length_cons] at hf; omega)]
    simp
theorem bnLines_no {b : Bn} {M : List (List UInt8)} (h : BnN b M) {cut : List UInt8} (hc : (13 : UInt8) ∉ cut) : ∀ m ∈ bnLines b cut, (13 : UInt8) ∉ m := by
  intro m hm
  unfold bnLines at hm
  rw [List.mem_append, List.mem_append] at hm
  rcases hm with hm | hm | hm
  · unfold hdLines at hm
    simp only [List.mem_cons, List.not_mem_nil, or_false] at hm
    rcases hm with rfl | rfl | rfl | rfl | rfl | rfl | rfl | rfl | rfl
    · decide
    · exact no_app (by decide) (no_app h.tw (by decide))
    · decide
    · exact no_app (by decide) (no_app hc (by decide))
    · simp
    · exact no_cons (by decide) (no_cons (by decide) hc)
    · decide
    · simp
    · exact no_app (by decide) h.he
  · rw [List.mem_flatten] at hm
    obtain ⟨L, hL, hm⟩ := hm
    obtain ⟨f, hf, rfl⟩ := List.mem_map.1 hL
    have g := h.fs f hf
    unfold flLines at hm
    simp only [List.mem_cons, List.not_mem_nil, or_false] at hm
    rcases hm with rfl | rfl | rfl | rfl | rfl
    · simp
    · exact no_app (by decide) g.rc
    · decide
    · exact no_app (by decide) g.st
    · exact no_app (by decide) (no_app (code_no g.cd (by decide)) (no_cons (by decide) g.tx))
  · unfold enLines at hm
    simp only [List.mem_cons, List.not_mem_nil, or_false] at hm
    rcases hm with rfl | rfl | rfl | rfl
    · simp
    · exact no_cons (by decide) (no_cons (by decide) hc)
    · decide
    · simp
theorem text_pcs {b : Bn} {M : List (List UInt8)} (h : BnN b M) {cut : List UInt8} (hc : (13 : UInt8) ∉ cut) : pcs [13, 10] 0 [] (bnText b cut) = bnLines b cut ++ (M ++ [45 :: 45 :: (cut ++ [45, 45]), []]) := by
  unfold bnText
  rw [pcs_flat _ (bnLines_no h hc), h.hd, pcs_flat _ h.ln]
  have e : lastL cut = (45 :: 45 :: (cut ++ [45, 45])) ++ 13 :: 10 :: [] := by unfold lastL; simp
  rw [e, pcs_lineB _ [] (no_cons (by decide) (no_cons (by decide) (no_app hc (by decide))))]
  rfl
theorem readS_at {b : Bn} {M : List (List UInt8)} (h : BnN b M) {cut : List UInt8} (hc : (13 : UInt8) ∉ cut) : readS (bnText b cut) = b ∧ 10 ≤ (pcs [13, 10] 0 [] (bnText b cut)).length := by
  unfold readS
  rw [text_pcs h hc]

  generalize hX : (M ++ [45 :: 45 :: (cut ++ [45, 45]), []] : List (List UInt8)) = X
  have hX1 : X ≠ [] := by rw [← hX]; simp
  have hX2 : X.dropLast.dropLast = M := by
    rw [← hX, List.dropLast_append_of_ne_nil (by simp)]
    simp
  obtain ⟨x0, X', rfl⟩ : ∃ x0 X', X = x0 :: X' := by
    cases X with
    | nil => exact absurd rfl hX1
    | cons a l => exact ⟨a, l, rfl⟩
  have hQ : ∀ (f : Nat) (acc : List Fl), flsS (f + 1) (enLines cut ++ (x0 :: X')) acc = (acc, enLines cut ++ (x0 :: X')) := by
    intro f acc
    show flsS (f + 1) ([] :: (45 :: 45 :: cut) :: chL :: [] :: x0 :: X') acc = _
    rw [flsS, if_neg (by simp [frcL, List.isPrefixOf])]
    rfl
  have hlen : b.fs.length < (bnLines b cut ++ (x0 :: X')).length + 1 := by
    have := fls_len b.fs
    unfold bnLines
    simp only [List.length_append]
    omega
  have e9 := flsS_at _ hQ b.fs ((bnLines b cut ++ (x0 :: X')).length + 1) [] h.fs hlen
  generalize hN : (bnLines b cut ++ (x0 :: X')).length + 1 = N at e9
  constructor
  · have hB : bnLines b cut ++ (x0 :: X') = hdLines b cut ++ ((b.fs.map flLines).flatten ++ (enLines cut ++ (x0 :: X'))) := by unfold bnLines; simp only [List.append_assoc]
    have h9 : (bnLines b cut ++ (x0 :: X')).drop 9 = (b.fs.map flLines).flatten ++ (enLines cut ++ (x0 :: X')) := by rw [hB]; rfl
    have h8 : (bnLines b cut ++ (x0 :: X')).getD 8 [] = rpL ++ b.he.data.toList := by rw [hB]; rfl
    have h1 : (bnLines b cut ++ (x0 :: X')).getD 1 [] = toL ++ (b.tw.data.toList ++ [62]) := by rw [hB]; rfl
    have h4 : (enLines cut ++ (x0 :: X')).drop 4 = x0 :: X' := rfl
    unfold readP
    simp only [h9, h8, h1, hN, e9, af_at, h4, hX2, List.nil_append, mk_data, List.dropLast_concat]
    rw [← h.hd, mk_data]
  · unfold bnLines
    have e1 : (hdLines b cut).length = 9 := rfl
    have e2 : (enLines cut).length = 4 := rfl
    rw [List.length_append, List.length_append, List.length_append, e1, e2]
    omega
theorem pre_line : ∀ (x m r : List UInt8), (13 : UInt8) ∉ x → x.isPrefixOf (m ++ 13 :: 10 :: r) = x.isPrefixOf m
  | [], m, r, _ => by simp
  | a :: x, [], r, h => by
    have ha : (a == 13) = false := beq_eq_false_iff_ne.2 fun e => h (by rw [e]; exact List.mem_cons_self)
    simp [List.isPrefixOf, ha]
  | a :: x, b :: m, r, h => by
    rw [List.cons_append, List.isPrefixOf, List.isPrefixOf, pre_line x m r fun hm => h (List.mem_cons_of_mem _ hm)]
theorem con_lines (x : List UInt8) (hx : (13 : UInt8) ∉ x) (h0 : x ≠ []) : ∀ M : List (List UInt8), (∀ m ∈ M, (13 : UInt8) ∉ m) → Lib.contains (13 :: 10 :: flatL M) (13 :: 10 :: x) = M.any fun m => x.isPrefixOf m
  | [], _ => by
    cases x with
    | nil => exact absurd rfl h0
    | cons a x => simp [Lib.contains, flatL, Lib.index, List.isPrefixOf]
  | m :: M, h => by
    have ih := con_lines x hx h0 M fun y hy => h y (List.mem_cons_of_mem _ hy)
    have hm := h m List.mem_cons_self
    have e : flatL (m :: M) = m ++ 13 :: 10 :: flatL M := by rw [flatL_cons]; simp
    rw [List.any_cons, ← ih, e]
    by_cases hp : x.isPrefixOf m = true
    · have : (13 :: 10 :: x).isPrefixOf (13 :: 10 :: (m ++ 13 :: 10 :: flatL M)) = true := by
        simp only [List.isPrefixOf, beq_self_eq_true, Bool.true_and]
        rw [pre_line x m _ hx]; exact hp
      unfold Lib.contains
      rw [idx0 (by simp) this, hp]; rfl
    · rw [Bool.not_eq_true] at hp
      have p1 : (13 :: 10 :: x).isPrefixOf (13 :: 10 :: (m ++ 13 :: 10 :: flatL M)) = false := by
        simp only [List.isPrefixOf, beq_self_eq_true, Bool.true_and]
        rw [pre_line x m _ hx]; exact hp
      have p2 : (13 :: 10 :: x).isPrefixOf (10 :: (m ++ 13 :: 10 :: flatL M)) = false := by simp [List.isPrefixOf]
      rw [hp, Bool.false_or]
      unfold Lib.contains
      rw [idx_miss p1, idx_miss p2, idx_skip m hm]
      have hg := Lib.index_ge (13 :: 10 :: flatL M) (13 :: 10 :: x)
      by_cases hr : Lib.index (13 :: 10 :: flatL M) (13 :: 10 :: x) = -1
      · simp [hr]
      · rw [if_neg hr, if_neg (by omega), if_neg (by omega)]
        congr 1
        apply propext
        omega
/-- places where a line begins as a late boundary does -/
def w6 : List UInt8 → Bool
  | 10 :: 45 :: 45 :: 98 :: e :: _ => decide (52 ≤ e.toNat ∧ e.toNat ≤ 57)
  | _ => false
def cw : List UInt8 → Nat
  | [] => 0
  | a :: l => (if w6 (a :: l) then 1 else 0) + cw l
theorem w6_ne {a : UInt8} (l : List UInt8) (h : a ≠ 10) : w6 (a :: l) = false := by
  unfold w6
  split
  · rename_i e1 e2; simp only [List.cons.injEq] at e2; exact absurd e2.1 h
  · rfl
theorem cw_ne {a : UInt8} (l : List UInt8) (h : a ≠ 10) : cw (a :: l) = cw l := by rw [cw, w6_ne l h]; simp
theorem cw_no10 {r : List UInt8} : ∀ m : List UInt8, (10 : UInt8) ∉ m → cw (m ++ r) = cw r
  | [], _ => rfl
  | a :: m, h => by
    rw [List.cons_append, cw_ne _ (fun e => h (by rw [e]; exact List.mem_cons_self)), cw_no10 m fun hm => h (List.mem_cons_of_mem _ hm)]
theorem cw_suf (y : List UInt8) : ∀ x : List UInt8, cw y ≤ cw (x ++ y)
  | [] => Nat.le_refl _
  | a :: x => by rw [List.cons_append, cw]; have := cw_suf y x; omega
theorem w6_app (x y : List UInt8) (h : w6 x = true) : w6 (x ++ y) = true := by
  unfold w6 at h
  split at h
  · rename_i e l; simp only [List.cons_append, w6]; exact h
  · cases h
theorem cw_pre (y : List UInt8) : ∀ x : List UInt8, cw x ≤ cw (x ++ y)
  | [] => Nat.zero_le _
  | a :: x => by
    have ih := cw_pre y x
    rw [List.cons_append, cw, cw]
    by_cases h : w6 (a :: x) = true
    · have := w6_app (a :: x) y h
      rw [List.cons_append] at this
      rw [if_pos h, if_pos this]; omega
    · rw [if_neg h]; split <;> omega
theorem cw_app (y : List UInt8) : ∀ x : List UInt8, cw (x ++ y) ≤ cw x + cw y + 1
  | [] => by simp [cw]
  | a :: x => by
    by_cases h : w6 (a :: (x ++ y)) = true
    · by_cases h2 : w6 (a :: x) = true
      · have ih := cw_app y x
        rw [List.cons_append, cw, cw, if_pos h, if_pos h2]; omega
      · have key : cw (x ++ y) ≤ cw y := by
          unfold w6 at h
          split at h
          · rename_i e l hl
            simp only [List.cons.injEq] at hl
            obtain ⟨rfl, hl⟩ := hl
            rcases x with _ | ⟨x1, x⟩
            · exact Nat.le_refl _
            simp only [List.cons_append, List.cons.injEq] at hl
            obtain ⟨rfl, hl⟩ := hl
            rw [List.cons_append, cw_ne _ (by decide)]
            rcases x with _ | ⟨x2, x⟩
            · exact Nat.le_refl _
            simp only [List.cons_append, List.cons.injEq] at hl
            obtain ⟨rfl, hl⟩ := hl
            rw [List.cons_append, cw_ne _ (by decide)]
            rcases x with _ | ⟨x3, x⟩
            · exact Nat.le_refl _
            simp only [List.cons_append, List.cons.injEq] at hl
            obtain ⟨rfl, hl⟩ := hl
            rw [List.cons_append, cw_ne _ (by decide)]
            rcases x with _ | ⟨x4, x⟩
            · exact Nat.le_refl _
            simp only [List.cons_append, List.cons.injEq] at hl
            obtain ⟨rfl, hl⟩ := hl
            exact absurd h (by simpa [w6] using h2)
          · cases h
        rw [List.cons_append, cw, if_pos h]; omega
    · have ih := cw_app y x
      rw [List.cons_append, cw, cw, if_neg h]; omega
def startsL (m : List UInt8) : Bool := w6 (10 :: m)
theorem w6_line (m r : List UInt8) : w6 (10 :: (m ++ 13 :: 10 :: r)) = w6 (10 :: m) := by
  rcases m with _ | ⟨a, _ | ⟨b, _ | ⟨c, _ | ⟨d, m⟩⟩⟩⟩
  · simp [w6]
  · by_cases h : a = 45
    · subst h; simp [w6]
    · have : ∀ l : List UInt8, w6 (10 :: a :: l) = false := fun l => by
        unfold w6; split
        · rename_i e; simp only [List.cons.injEq, true_and] at e; exact absurd e.1 h
        · rfl
      rw [List.cons_append, this, this]
  · by_cases h : a = 45 ∧ b = 45
    · obtain ⟨rfl, rfl⟩ := h; simp [w6]
    · have : ∀ l : List UInt8, w6 (10 :: a :: b :: l) = false := fun l => by
        unfold w6; split
        · rename_i e; simp only [List.cons.injEq, true_and] at e; exact absurd ⟨e.1, e.2.1⟩ h
        · rfl
      rw [List.cons_append, List.cons_append, this, this]
  · by_cases h : a = 45 ∧ b = 45 ∧ c = 98
    · obtain ⟨rfl, rfl, rfl⟩ := h; simp [w6]
    · have : ∀ l : List UInt8, w6 (10 :: a :: b :: c :: l) = false := fun l => by
        unfold w6; split
        · rename_i e; simp only [List.cons.injEq, true_and] at e; exact absurd ⟨e.1, e.2.1, e.2.2.1⟩ h
        · rfl
      rw [List.cons_append, List.cons_append, List.cons_append, this, this]
  · by_cases h : a = 45 ∧ b = 45 ∧ c = 98
    · obtain ⟨rfl, rfl, rfl⟩ := h; simp [w6]
    · have : ∀ l : List UInt8, w6 (10 :: a :: b :: c :: l) = false := fun l => by
        unfold w6; split
        · rename_i e; simp only [List.cons.injEq, true_and] at e; exact absurd ⟨e.1, e.2.1, e.2.2.1⟩ h
        · rfl
      rw [List.cons_append, List.cons_append, List.cons_append, List.cons_append, this, this]
theorem cw_flat (r : List UInt8) : ∀ M : List (List UInt8), (∀ m ∈ M, (10 : UInt8) ∉ m) → cw (10 :: (flatL M ++ r)) = M.countP startsL + cw (10 :: r)
  | [], _ => by simp [flatL]
  | m :: M, h => by
    have ih := cw_flat r M fun x hx => h x (List.mem_cons_of_mem _ hx)
    rw [flatL_cons', cw, w6_line, cw_no10 m (h m List.mem_cons_self), cw_ne _ (by decide), ih, List.countP_cons]
    unfold startsL
    omega
theorem takes_starts {d : Nat} {l : List UInt8} (h1 : 4 ≤ d) (h2 : d ≤ 9) (h : takes d l = true) : startsL l = true := by
  unfold takes at h
  rw [Lib.decDigits_one (by omega), List.isPrefixOf_iff_prefix] at h
  obtain ⟨r, rfl⟩ := h
  simp [startsL, w6]
  omega
theorem pig6 (D : List Nat) (hD : ∀ l, D.countP (takes · l) ≤ 1) (h6 : ∀ d ∈ D, 4 ≤ d ∧ d ≤ 9) : ∀ M : List (List UInt8), D.countP (fun k => !freeN M k) ≤ M.countP startsL
  | [] => by
    have : D.countP (fun k => !freeN [] k) = 0 := by rw [List.countP_eq_zero]; intro k _; simp [freeN]
    omega
  | l :: M => by
    have ih := pig6 D hD h6 M
    have h := countP_or (takes · l) (fun k => !freeN M k) D
    have e : (fun k => !freeN (l :: M) k) = fun k => (takes k l || !freeN M k) := by
      funext k
      simp [freeN]
    rw [e, List.countP_cons]
    by_cases hs : startsL l = true
    · rw [if_pos hs]
      have := hD l
      omega
    · rw [if_neg hs]
      have h0 : D.countP (takes · l) = 0 := by
        rw [List.countP_eq_zero]
        intro d hd ht
        exact hs (takes_starts (h6 d hd).1 (h6 d hd).2 ht)
      omega
theorem free_late {M : List (List UInt8)} (h10 : ∀ m ∈ M, (10 : UInt8) ∉ m) (h : cw (10 :: flatL M) < 6) : ∃ d, 4 ≤ d ∧ d ≤ 9 ∧ freeN M d = true := by
  have e := cw_flat [] M h10
  rw [List.append_nil, show cw [10] = 0 from rfl] at e
  apply Classical.byContradiction
  intro hn
  have hall : ∀ k ∈ List.range' 4 6, (!freeN M k) = true := by
    intro k hk
    rw [List.mem_range'_1] at hk
    cases hf : freeN M k
    · rfl
    · exact absurd ⟨k, by omega, by omega, hf⟩ hn
  have h1 := pig6 (List.range' 4 6) (fun l => one_of_len (n := 1) l _ (List.nodup_range' (step := 1)) fun k hk => by rw [List.mem_range'_1] at hk; rw [Lib.decDigits_one (by omega)]; rfl) (fun d hd => by rw [List.mem_range'_1] at hd; omega) M
  rw [List.countP_eq_length.2 hall, List.length_range'] at h1
  omega
theorem bnText_hd {b : Bn} {M : List (List UInt8)} (h : BnN b M) (cut : List UInt8) : cw (10 :: flatL M) ≤ cw (bnText b cut) := by
  have e : bnText b cut = (flatL (hdLines b cut ++ ((b.fs.map flLines).flatten ++ [[], 45 :: 45 :: cut, chL])) ++ [13]) ++ ((10 :: flatL M) ++ lastL cut) := by
    unfold bnText bnLines enLines
    rw [h.hd, show ([[], 45 :: 45 :: cut, chL, []] : List (List UInt8)) = [[], 45 :: 45 :: cut, chL] ++ [[]] from rfl, ← List.append_assoc, ← List.append_assoc, flatL_app, ← List.append_assoc (hdLines b cut)]
    simp [flatL]
  rw [e]
  exact Nat.le_trans (cw_pre (lastL cut) _) (cw_suf _ _)
theorem starts_app {m : List UInt8} (r : List UInt8) (h : 5 ≤ m.length) : startsL (m ++ r) = startsL m := by
  rcases m with _ | ⟨a, _ | ⟨b, _ | ⟨c, _ | ⟨d, m⟩⟩⟩⟩
  · simp at h
  · simp at h
  · simp at h
  · simp at h
  · by_cases h : a = 45 ∧ b = 45 ∧ c = 98
    · obtain ⟨rfl, rfl, rfl⟩ := h; simp [startsL, w6]
    · have : ∀ l : List UInt8, w6 (10 :: a :: b :: c :: l) = false := fun l => by
        unfold w6; split
        · rename_i e; simp only [List.cons.injEq, true_and] at e; exact absurd ⟨e.1, e.2.1, e.2.2.1⟩ h
        · rfl
      unfold startsL
      rw [List.cons_append, List.cons_append, List.cons_append, List.cons_append, this, this]
theorem starts_cut {k : Nat} (hk : k ≤ 3) (r : List UInt8) : startsL (45 :: 45 :: (cutL k ++ r)) = false := by
  unfold cutL
  rw [Lib.decDigits_one (by omega)]
  simp [startsL, w6]
  omega
/-- a made text without late boundaries has none -/
theorem cw_text {b : Bn} {M : List (List UInt8)} (h : BnN b M) {k : Nat} (hk : k ≤ 3) (h10 : ∀ m ∈ bnLines b (cutL k), (10 : UInt8) ∉ m) (hM : ∀ m ∈ M, (10 : UInt8) ∉ m) (h0 : cw (10 :: flatL M) = 0) : cw (bnText b (cutL k)) = 0 := by
  have hk10 : (10 : UInt8) ∉ Lib.decDigits k := by
    rw [Lib.decDigits_one (by omega)]
    intro hm
    rw [List.mem_singleton] at hm
    exact dgt_ne (i := k) (by omega) (c := 10) (by decide) hm.symm
  have e0 := cw_flat [] M hM
  rw [List.append_nil, show cw [10] = 0 from rfl, h0] at e0
  have e1 : bnText b (cutL k) = flatL (bnLines b (cutL k)) ++ (flatL M ++ (flatL [45 :: 45 :: (cutL k ++ [45, 45])] ++ [])) := by
    unfold bnText lastL
    rw [h.hd]
    simp [flatL]
  have e2 : cw (10 :: bnText b (cutL k)) = 0 := by
    rw [e1, cw_flat _ _ h10, cw_flat _ _ hM, cw_flat _ _ (by
      intro m hm
      rw [List.mem_singleton] at hm
      subst hm
      exact no_cons (by decide) (no_cons (by decide) (no_app (no_cons (by decide) hk10) (by decide))))]
    have e3 : (bnLines b (cutL k)).countP startsL = 0 := by
      rw [List.countP_eq_zero]
      intro m hm
      unfold bnLines at hm
      rw [List.mem_append, List.mem_append] at hm
      have hc := starts_cut hk []
      rw [List.append_nil] at hc
      rcases hm with hm | hm | hm
      · unfold hdLines at hm
        simp only [List.mem_cons, List.not_mem_nil, or_false] at hm
        rcases hm with rfl | rfl | rfl | rfl | rfl | rfl | rfl | rfl | rfl
        · decide
        · rw [starts_app _ (by decide)]; decide
        · decide
        · rw [starts_app _ (by decide)]; decide
        · decide
        · rw [hc]; decide
        · decide
        · decide
        · rw [starts_app _ (by decide)]; decide
      · rw [List.mem_flatten] at hm
        obtain ⟨L, hL, hm⟩ := hm
        obtain ⟨f, hf, rfl⟩ := List.mem_map.1 hL
        unfold flLines at hm
        simp only [List.mem_cons, List.not_mem_nil, or_false] at hm
        rcases hm with rfl | rfl | rfl | rfl | rfl
        · decide
        · rw [starts_app _ (by decide)]; decide
        · decide
        · rw [starts_app _ (by decide)]; decide
        · rw [starts_app _ (by decide)]; decide
      · unfold enLines at hm
        simp only [List.mem_cons, List.not_mem_nil, or_false] at hm
        rcases hm with rfl | rfl | rfl | rfl
        · decide
        · rw [hc]; decide
        · decide
        · decide
    have e4 : ([45 :: 45 :: (cutL k ++ [45, 45])] : List (List UInt8)).countP startsL = 0 := by
      rw [List.countP_eq_zero]
      intro m hm
      rw [List.mem_singleton] at hm
      subst hm
      rw [starts_cut hk]; decide
    rw [e3, e4, show cw [10] = 0 from rfl]
    omega
  rw [cw] at e2
  omega
end Go.Proofs.YtlolnfpfipnfeaaGreatDoor
