import Derived.Test.YtlolnfpfipnfeaaGreatMg32
import Derived.Deep.QuietTactic
import Derived.BigQuiet
import Derived.Lib.ItoaNum
import Derived.Lib.ItoaMem
import Derived.Test.YtlolnfpfipnfeaaGreatMg29
import Derived.Deep.DeepCutAuto
import Derived.Deep.CutBlock
import Derived.Deep.RegionHeld3
namespace Go.Proofs.YtlolnfpfipnfeaaGreat
open Go.ChangeShapes Go.WideShapes Go.ChangeAt Go.RowKit

theorem dec_last {n : Nat} (h : ¬ n < 10) : Lib.decDigits n = Lib.decDigits (n / 10) ++ Lib.decDigits (n % 10) := by
  rw [Lib.decDigits, dif_neg h, Lib.decDigits_one (i := n % 10) (by omega)]
theorem dec_cat {n : Nat} (h : ¬ n < 10) : (⟨(Lib.decDigits (n / 10)).toArray⟩ : ByteArray) ++ (⟨(Lib.decDigits (n % 10)).toArray⟩ : ByteArray) = ⟨(Lib.decDigits n).toArray⟩ := by
  rw [dec_last h]
  apply ByteArray.ext
  rw [ByteArray.data_append]
  simp
theorem dec_len : ∀ (k n : Nat), n < 10 ^ k → 1 ≤ k → (Lib.decDigits n).length ≤ k
  | 0, _, _, h => absurd h (by decide)
  | k + 1, n, h, _ => by
    by_cases h1 : n < 10
    · rw [Lib.decDigits_one h1]; simp
    · have hk : 1 ≤ k := by
        by_cases e : k = 0
        · subst e; simp at h; omega
        · omega
      have : n / 10 < 10 ^ k := by rw [Nat.div_lt_iff_lt_mul (by decide)]; rw [Nat.pow_succ] at h; exact h
      have ih := dec_len k (n / 10) this hk
      rw [dec_last h1, List.length_append, Lib.decDigits_one (i := n % 10) (by omega)]
      simp; omega

set_option maxHeartbeats 1000000 in
set_option maxRecDepth 100000 in
theorem specDec : ∀ (m n : Nat) (_ : n ≤ m) (_ : n ≤ 9223372036854775807) (w : World),
    Calls Tryz.prog 41 #[.int .i64 n] w fun e w' => e = .returned (.string ⟨(Lib.decDigits n).toArray⟩) ∧ Below w.heap.size w w' := by
  intro m
  induction m using Nat.strongRecOn with
  | _ m ih =>
  intro n hn hm w
  by_cases h10 : n < 10
  · have h10i : (n : Int) < 10 := by omega
    have hback : (convert 100 9 (.slice (some ⟨w.heap.size, 0, none⟩) 1 1)).run Tryz.prog (w.alloc (.cells #[.int .u8 (48 + (n : Int))] 5)) = .ok (.string ⟨(Lib.decDigits n).toArray⟩) (w.alloc (.cells #[.int .u8 (48 + (n : Int))] 5)) := by
      rw [Lib.decDigits_one h10]
      refine run_convert_bytes_back (P := Tryz.prog) _ _ _ _ _ 1 [UInt8.ofNat (48 + n)] Tryz.underlying100 Tryz.underlying5 Tryz.underlying9 fun j hj => ?_
      obtain rfl : j = 0 := by simpa using hj
      have e : ((UInt8.ofNat (48 + n)).toNat : Int) = 48 + (n : Int) := by rw [UInt8.toNat_ofNat_of_lt' (by show 48 + n < 256; omega)]; omega
      rw [add_plain]
      simp only [List.getElem_cons_zero, e, Nat.add_zero]
      exact World.cell?_alloc_mark w #[.int .u8 (48 + (n : Int))] _ (0, 0) 0
    go_enter Tryz.func41, Tryz.ntmps41
    go_wp2
    go_ret
    exact ⟨rfl, below1 _ _⟩
  · have h10i : ¬ (n : Int) < 10 := by omega
    have IH : Hid (∀ k : Nat, k < n → ∀ w : World, Calls Tryz.prog 41 #[.int .i64 k] w fun e w' => e = .returned (.string ⟨(Lib.decDigits k).toArray⟩) ∧ Below w.heap.size w w') := fun k hk w => ih k (by omega) k (Nat.le_refl _) (by omega) w
    have HC : Hid ((⟨(Lib.decDigits (n / 10)).toArray⟩ : ByteArray) ++ (⟨(Lib.decDigits (n % 10)).toArray⟩ : ByteArray) = ⟨(Lib.decDigits n).toArray⟩) := dec_cat h10
    have E1 : Hid ((n : Int) / 10 = ((n / 10 : Nat) : Int)) := by show _ = _; omega
    have E2 : Hid ((n : Int) % 10 = ((n % 10 : Nat) : Int)) := by show _ = _; omega
    have L1 : Hid ((⟨(Lib.decDigits (n / 10)).toArray⟩ : ByteArray).size ≤ 19) := by
      show _ ≤ _
      have := dec_len 19 (n / 10) (by omega) (by decide)
      simpa [ByteArray.size] using this
    have L2 : Hid ((⟨(Lib.decDigits (n % 10)).toArray⟩ : ByteArray).size ≤ 19) := by
      show _ ≤ _
      have := dec_len 19 (n % 10) (by omega) (by decide)
      simpa [ByteArray.size] using this
    clear ih
    go_enter Tryz.func41, Tryz.ntmps41
    go_wp2_with fail
    rw [E1.out]
    refine (IH.out (n / 10) (by omega) _).mono ?_
    rintro e w1 ⟨rfl, hb1⟩
    go_wp2_with fail
    rw [E2.out]
    refine (IH.out (n % 10) (by omega) _).mono ?_
    rintro e w2 ⟨rfl, hb2⟩
    generalize (⟨(Lib.decDigits (n / 10)).toArray⟩ : ByteArray) = X at *
    generalize (⟨(Lib.decDigits (n % 10)).toArray⟩ : ByteArray) = Y at *
    have l1 := L1.out
    have l2 := L2.out
    go_wp2
    go_ret
    exact ⟨ret_str HC.out, hb1.trans (hb2.mono hb1.size)⟩
theorem specDecN (n : Int) (h0 : 0 ≤ n) (h1 : n ≤ 9223372036854775807) (w : World) :
    Calls Tryz.prog 41 #[.int .i64 n] w fun e w' => e = .returned (.string ⟨(Lib.itoa n).toArray⟩) ∧ Below w.heap.size w w' := by
  obtain ⟨k, rfl⟩ := Int.eq_ofNat_of_zero_le h0
  rw [Lib.itoa_nonneg]
  exact specDec k k (Nat.le_refl _) (by omega) w
end Go.Proofs.YtlolnfpfipnfeaaGreat
namespace Go.Proofs.YtlolnfpfipnfeaaGreat
open Go.ChangeShapes Go.WideShapes Go.ChangeAt Go.RowKit
attribute [local go_sem ↓] Go.wp_at_zero Go.wp_at_succ

def decB (n : Nat) : ByteArray := ⟨(Lib.decDigits n).toArray⟩
def numB (n : Nat) : ByteArray := (⟨#[32]⟩ : ByteArray) ++ decB n
def strB (s : ByteArray) : ByteArray := (numB s.size ++ (⟨#[58]⟩ : ByteArray)) ++ s
theorem decB_size {n : Nat} (h : n ≤ 9223372036854775807) : (decB n).size ≤ 19 := by
  have := dec_len 19 n (Nat.lt_of_le_of_lt h (by decide)) (by decide)
  show (Lib.decDigits n).toArray.size ≤ 19
  simpa using this
theorem sz1 (a : UInt8) : (⟨#[a]⟩ : ByteArray).size = 1 := rfl
theorem numB_size {n : Nat} (h : n ≤ 9223372036854775807) : 1 ≤ (numB n).size ∧ (numB n).size ≤ 20 := by
  have := decB_size h
  unfold numB
  rw [ByteArray.size_append, sz1]
  omega
theorem strB_size {s : ByteArray} (h : s.size ≤ 1048576) : 1 ≤ (strB s).size ∧ (strB s).size ≤ 1048600 := by
  have := numB_size (n := s.size) (by omega)
  unfold strB
  rw [ByteArray.size_append, ByteArray.size_append, sz1]
  omega

set_option maxHeartbeats 1000000 in
set_option maxRecDepth 100000 in
theorem specNum (n : Nat) (h : n ≤ 9223372036854775807) (w : World) : Calls Tryz.prog 40 #[.int .i64 n] w fun e w' => e = .returned (.string (numB n)) ∧ Below w.heap.size w w' := by
  have g1 : ∀ wx : World, (Op.stringOp .add (⟨#[32]⟩ : ByteArray) (decB n)).run Tryz.prog wx = .ok (.string (numB n)) wx := fun wx => run_string_add_sum wx _ _ (by rw [sz1]; have := decB_size h; omega)
  go_enter Tryz.func40, Tryz.ntmps40
  go_wp2_with fail
  refine (specDec n n (Nat.le_refl _) h _).mono ?_
  rintro e w1 ⟨rfl, hb1⟩
  rw [show (⟨(Lib.decDigits n).toArray⟩ : ByteArray) = decB n from rfl]
  go_wp2
  go_ret
  exact ⟨rfl, hb1⟩

set_option maxHeartbeats 1000000 in
set_option maxRecDepth 100000 in
theorem specStr (s : ByteArray) (h : s.size ≤ 1048576) (w : World) : Calls Tryz.prog 42 #[.string s] w fun e w' => e = .returned (.string (strB s)) ∧ Below w.heap.size w w' := by
  have hn := numB_size (n := s.size) (by omega)
  obtain ⟨D, HD⟩ : ∃ D, Hid (decB s.size = D) := ⟨_, rfl⟩
  obtain ⟨N, HN⟩ : ∃ N, Hid (numB s.size = N) := ⟨_, rfl⟩
  obtain ⟨M, HM⟩ : ∃ M, Hid (N ++ (⟨#[58]⟩ : ByteArray) = M) := ⟨_, rfl⟩
  obtain ⟨G, HG⟩ : ∃ G, Hid (strB s = G) := ⟨_, rfl⟩
  rw [HN.out] at hn
  have hM : M.size ≤ 21 := by rw [← HM.out, ByteArray.size_append, sz1]; omega
  have g1 : ∀ wx : World, (Op.stringOp .add (⟨#[32]⟩ : ByteArray) D).run Tryz.prog wx = .ok (.string N) wx := fun wx => by
    rw [← HD.out, ← HN.out]; exact run_string_add_sum wx _ _ (by rw [sz1]; have := decB_size (n := s.size) (by omega); omega)
  have g2 : ∀ wx : World, (Op.stringOp .add N (⟨#[58]⟩ : ByteArray)).run Tryz.prog wx = .ok (.string M) wx := fun wx => by
    rw [← HM.out]; exact run_string_add_sum wx _ _ (by rw [sz1]; omega)
  have g3 : ∀ wx : World, (Op.stringOp .add M s).run Tryz.prog wx = .ok (.string G) wx := fun wx => by
    rw [← HG.out]; unfold strB; rw [HN.out, HM.out]; exact run_string_add_sum wx _ _ (by omega)
  rw [HG.out]
  go_enter Tryz.func42, Tryz.ntmps42
  go_wp2_with fail
  refine (specDec s.size s.size (Nat.le_refl _) (by omega) _).mono ?_
  rintro e w1 ⟨rfl, hb1⟩
  rw [show (⟨(Lib.decDigits s.size).toArray⟩ : ByteArray) = D from HD.out]
  go_wp2
  go_ret
  exact ⟨rfl, hb1⟩

set_option maxHeartbeats 1000000 in
set_option maxRecDepth 100000 in
theorem specId (n : Int) (w : World) : Calls Tryz.prog 37 #[.int .i64 n] w fun e w' => e = .returned (.bool (idN n)) ∧ w' = w := by
  unfold idN
  by_cases c1 : 1 ≤ n
  · rw [decide_eq_true c1, Bool.true_and]
    go_enter Tryz.func37, Tryz.ntmps37
    go_wp2
    go_ret
    exact ⟨rfl, rfl⟩
  · rw [decide_eq_false c1, Bool.false_and]
    go_enter Tryz.func37, Tryz.ntmps37
    go_wp2
    go_ret
    exact ⟨rfl, rfl⟩

def noMsgB (mid born : Int) (fr : ByteArray) (n : Nat) (bo : ByteArray) : Bool := decide (mid = 0) && (decide (born = 0) && (decide (fr.size = 0) && (decide (n = 0) && decide (bo.size = 0))))
set_option maxHeartbeats 2000000 in
set_option maxRecDepth 100000 in
theorem specNoMsg (mid born : Int) (fr bo : ByteArray) (a3 : Option Addr) (n c3 : Nat) (w : World) : Calls Tryz.prog 43 #[.agg #[.int .i64 mid, .int .i64 born, .string fr, .slice a3 n c3, .string bo]] w fun e w' => e = .returned (.bool (noMsgB mid born fr n bo)) ∧ Below w.heap.size w w' := by
  unfold noMsgB
  by_cases c1 : mid = 0
  · subst c1
    rw [decide_eq_true rfl, Bool.true_and]
    by_cases c2 : born = 0
    · subst c2
      rw [decide_eq_true rfl, Bool.true_and]
      rcases Nat.eq_zero_or_pos fr.size with h0 | h0
      · have he := empty_of h0
        subst he
        rw [decide_eq_true h0, Bool.true_and]
        clear h0
        by_cases c4 : n = 0
        · subst c4
          rw [decide_eq_true rfl, Bool.true_and]
          rcases Nat.eq_zero_or_pos bo.size with h5 | h5
          · have he := empty_of h5
            subst he
            rw [decide_eq_true h5]
            clear h5
            go_enter Tryz.func43, Tryz.ntmps43
            go_wp2
            go_ret
            exact ⟨rfl, below1 _ _⟩
          · have hln := list_ne (x := bo) (by omega)
            rw [decide_eq_false (by omega)]
            clear h5
            go_enter Tryz.func43, Tryz.ntmps43
            go_wp2
            go_ret
            exact ⟨rfl, below1 _ _⟩
        · rw [decide_eq_false c4, Bool.false_and]
          have c4b : ((n : Int) == 0) = false := by rw [beq_eq_false_iff_ne]; omega
          go_enter Tryz.func43, Tryz.ntmps43
          go_wp2
          go_ret
          exact ⟨rfl, below1 _ _⟩
      · have hln := list_ne (x := fr) (by omega)
        rw [decide_eq_false (by omega), Bool.false_and]
        clear h0
        go_enter Tryz.func43, Tryz.ntmps43
        go_wp2
        go_ret
        exact ⟨rfl, below1 _ _⟩
    · rw [decide_eq_false c2, Bool.false_and]
      go_enter Tryz.func43, Tryz.ntmps43
      go_wp2
      go_ret
      exact ⟨rfl, below1 _ _⟩
  · rw [decide_eq_false c1, Bool.false_and]
    go_enter Tryz.func43, Tryz.ntmps43
    go_wp2
    go_ret
    exact ⟨rfl, below1 _ _⟩
end Go.Proofs.YtlolnfpfipnfeaaGreat
