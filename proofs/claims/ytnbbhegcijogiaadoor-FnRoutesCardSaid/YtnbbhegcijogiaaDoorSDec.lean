import Derived.Test.YtnbbhegcijogiaaDoorByts
import Derived.Deep.QuietTactic
import Derived.BigQuiet
import Derived.Lib.ItoaNum
import Derived.Lib.ItoaMem
namespace Go.Proofs.YtnbbhegcijogiaaDoor
open Go.ChangeShapes Go.WideShapes Go.ChangeAt Go.RowKit

theorem dec_last {n : Nat} (h : ¬ n < 10) : Lib.decDigits n = Lib.decDigits (n / 10) ++ Lib.decDigits (n % 10) := by
  rw [Lib.decDigits, dif_neg h, Lib.decDigits_one (i := n % 10) (by omega)]
theorem dec_cat {n : Nat} (h : ¬ n < 10) : (⟨(Lib.decDigits (n / 10)).toArray⟩ : ByteArray) ++ (⟨(Lib.decDigits (n % 10)).toArray⟩ : ByteArray) = ⟨(Lib.decDigits n).toArray⟩ := by
  rw [dec_last h]
  apply ByteArray.ext
  rw [ByteArray.data_append]
  simp
theorem dec_len : ∀ (k n : Nat), n < 10 ^ k → 1 ≤ k → (Lib.decDigits n).length ≤ k
  | 0, _, _, h => absurd h (by decide)
  | k + 1, n, h, _ => by
    by_cases h1 : n < 10
    · rw [Lib.decDigits_one h1]; simp
    · have hk : 1 ≤ k := by
        by_cases e : k = 0
        · subst e; simp at h; omega
        · omega
      have : n / 10 < 10 ^ k := by rw [Nat.div_lt_iff_lt_mul (by decide)]; rw [Nat.pow_succ] at h; exact h
      have ih := dec_len k (n / 10) this hk
      rw [dec_last h1, List.length_append, Lib.decDigits_one (i := n % 10) (by omega)]
      simp; omega

set_option maxHeartbeats 1000000 in
set_option maxRecDepth 100000 in
theorem specDec : ∀ (m n : Nat) (_ : n ≤ m) (_ : n ≤ 9223372036854775807) (w : World),
    Calls Tryd.prog 20 #[.int .i64 n] w fun e w' => e = .returned (.string ⟨(Lib.decDigits n).toArray⟩) ∧ Below w.heap.size w w' := by
  intro m
  induction m using Nat.strongRecOn with
  | _ m ih =>
  intro n hn hm w
  by_cases h10 : n < 10
  · have h10i : (n : Int) < 10 := by omega
    have hback : (convert 22 9 (.slice (some ⟨w.heap.size, 0, none⟩) 1 1)).run Tryd.prog (w.alloc (.cells #[.int .u8 (48 + (n : Int))] 5)) = .ok (.string ⟨(Lib.decDigits n).toArray⟩) (w.alloc (.cells #[.int .u8 (48 + (n : Int))] 5)) := by
      rw [Lib.decDigits_one h10]
      refine run_convert_bytes_back (P := Tryd.prog) _ _ _ _ _ 1 [UInt8.ofNat (48 + n)] Tryd.underlying22 Tryd.underlying5 Tryd.underlying9 fun j hj => ?_
      obtain rfl : j = 0 := by simpa using hj
      have e : ((UInt8.ofNat (48 + n)).toNat : Int) = 48 + (n : Int) := by rw [UInt8.toNat_ofNat_of_lt' (by show 48 + n < 256; omega)]; omega
      rw [add_plain]
      simp only [List.getElem_cons_zero, e, Nat.add_zero]
      exact World.cell?_alloc_mark w #[.int .u8 (48 + (n : Int))] _ (0, 0) 0
    go_enter Tryd.func20, Tryd.ntmps20
    go_wp2
    go_ret
    exact ⟨rfl, below1 _ _⟩
  · have h10i : ¬ (n : Int) < 10 := by omega
    have IH : Hid (∀ k : Nat, k < n → ∀ w : World, Calls Tryd.prog 20 #[.int .i64 k] w fun e w' => e = .returned (.string ⟨(Lib.decDigits k).toArray⟩) ∧ Below w.heap.size w w') := fun k hk w => ih k (by omega) k (Nat.le_refl _) (by omega) w
    have HC : Hid ((⟨(Lib.decDigits (n / 10)).toArray⟩ : ByteArray) ++ (⟨(Lib.decDigits (n % 10)).toArray⟩ : ByteArray) = ⟨(Lib.decDigits n).toArray⟩) := dec_cat h10
    have E1 : Hid ((n : Int) / 10 = ((n / 10 : Nat) : Int)) := by show _ = _; omega
    have E2 : Hid ((n : Int) % 10 = ((n % 10 : Nat) : Int)) := by show _ = _; omega
    have L1 : Hid ((⟨(Lib.decDigits (n / 10)).toArray⟩ : ByteArray).size ≤ 19) := by
      show _ ≤ _
      have := dec_len 19 (n / 10) (by omega) (by decide)
      simpa [ByteArray.size] using this
    have L2 : Hid ((⟨(Lib.decDigits (n % 10)).toArray⟩ : ByteArray).size ≤ 19) := by
      show _ ≤ _
      have := dec_len 19 (n % 10) (by omega) (by decide)
      simpa [ByteArray.size] using this
    clear ih
    go_enter Tryd.func20, Tryd.ntmps20
    go_wp2_with fail
    rw [E1.out]
    refine (IH.out (n / 10) (by omega) _).mono ?_
    rintro e w1 ⟨rfl, hb1⟩
    go_wp2_with fail
    rw [E2.out]
    refine (IH.out (n % 10) (by omega) _).mono ?_
    rintro e w2 ⟨rfl, hb2⟩
    generalize (⟨(Lib.decDigits (n / 10)).toArray⟩ : ByteArray) = X at *
    generalize (⟨(Lib.decDigits (n % 10)).toArray⟩ : ByteArray) = Y at *
    have l1 := L1.out
    have l2 := L2.out
    go_wp2
    go_ret
    exact ⟨ret_str HC.out, hb1.trans (hb2.mono hb1.size)⟩
theorem specDecN (n : Int) (h0 : 0 ≤ n) (h1 : n ≤ 9223372036854775807) (w : World) :
    Calls Tryd.prog 20 #[.int .i64 n] w fun e w' => e = .returned (.string ⟨(Lib.itoa n).toArray⟩) ∧ Below w.heap.size w w' := by
  obtain ⟨k, rfl⟩ := Int.eq_ofNat_of_zero_le h0
  rw [Lib.itoa_nonneg]
  exact specDec k k (Nat.le_refl _) (by omega) w
end Go.Proofs.YtnbbhegcijogiaaDoor
