import Derived.Test.YtlolnfpfipnfeaaGreatDoorMg1
import Derived.WalkKit
import Derived.ProofKit
import Derived.WalkLawsBesides
import Derived.Laws.IdiomStrings
import Derived.Lib.ConvBytes
import Derived.Deep.QuietTactic
import Derived.BigQuiet
import Derived.Lib.ItoaNum
import Derived.Lib.ItoaMem
namespace Go.Proofs.YtlolnfpfipnfeaaGreatDoor
open Go.ChangeShapes Go.WideShapes Go.ChangeAt Go.RowKit

/-- block g begins with the bytes L, none of them frozen -/
structure BytsAt (w : World) (g : Nat) (L : List UInt8) : Prop where
  ex : ∃ C : Array Value, w.heap[g]? = some (.cells C 5 (C.size, C.size + 1)) ∧ L.length ≤ C.size ∧ ∀ j (h : j < L.length), C[j]? = some (.int .u8 (L[j].toNat : Int))
theorem BytsAt.cell {w : World} {g : Nat} {L : List UInt8} (h : BytsAt w g L) (j : Nat) (hj : j < L.length) : w.cell? ⟨g, j, none⟩ = some (.int .u8 (L[j].toNat : Int)) := by
  obtain ⟨C, h1, h2, h3⟩ := h.ex
  unfold World.cell?
  rw [h1]; exact h3 j hj
theorem BytsAt.free {w : World} {g : Nat} {L : List UInt8} (h : BytsAt w g L) (j : Nat) (hj : j < L.length) : w.frozen? ⟨g, j, none⟩ = false := by
  obtain ⟨C, h1, h2, h3⟩ := h.ex
  unfold World.frozen?
  rw [h1]
  show (decide (C.size ≤ j) && decide (j < C.size + 1)) = false
  have : decide (C.size ≤ j) = false := decide_eq_false (by omega)
  rw [this]; rfl
theorem BytsAt.set {w : World} {g : Nat} {L : List UInt8} (h : BytsAt w g L) (j : Nat) (hj : j < L.length) (c : UInt8) : BytsAt (w.setCell ⟨g, j, none⟩ (.int .u8 (c.toNat : Int))) g (L.set j c) := by
  obtain ⟨C, h1, h2, h3⟩ := h.ex
  refine ⟨⟨C.setIfInBounds j (.int .u8 (c.toNat : Int)), ?_, by simpa using h2, fun i hi => ?_⟩⟩
  · simp only [World.setCell, Array.getElem?_modify]
    rw [h1]
    simp
  · simp at hi
    rw [List.getElem_set]
    by_cases e : j = i
    · subst e
      rw [if_pos rfl, Array.getElem?_setIfInBounds_self_of_lt (by omega)]
    · rw [if_neg e, Array.getElem?_setIfInBounds_ne e]
      exact h3 i hi
theorem bytsNew (w : World) (s : ByteArray) : BytsAt (Lib.bytesWorld w 5 s) w.heap.size s.data.toList := by
  refine ⟨⟨_, Lib.bytesWorld_at_new w _ s, ?_, fun j hj => ?_⟩⟩
  · simp [Lib.bytesCells]
  · have hj' : j < s.data.size := by simpa using hj
    unfold Lib.bytesCells
    rw [Array.getElem?_append_left (by simpa using hj')]
    simp only [Array.getElem?_map, Array.getElem?_eq_getElem hj', Option.map_some, Array.getElem_toList]
theorem bytsBelow (w : World) (s : ByteArray) : Below w.heap.size w (Lib.bytesWorld w 5 s) :=
  ⟨rfl, rfl, rfl, by rw [Lib.bytesWorld_size]; omega, fun k hk => Lib.bytesWorld_at_old w _ s k hk⟩
theorem bytsBack (w : World) (g cap n : Nat) (l : List UInt8) (hn : l.length = n) (h : BytsAt w g l) :
    (convert 22 9 (.slice (some ⟨g, 0, none⟩) n cap)).run Tryz.prog w = .ok (.string ⟨l.toArray⟩) w := by
  subst hn
  exact run_convert_bytes_back (P := Tryz.prog) w _ _ _ _ cap l Tryz.underlying22 Tryz.underlying5 Tryz.underlying9 fun j hj => by
    have := h.cell j hj
    rw [add_plain, Nat.zero_add]; exact this

end Go.Proofs.YtlolnfpfipnfeaaGreatDoor
namespace Go.Proofs.YtlolnfpfipnfeaaGreatDoor
open Go.ChangeShapes Go.WideShapes Go.ChangeAt Go.RowKit

theorem dec_last {n : Nat} (h : ¬ n < 10) : Lib.decDigits n = Lib.decDigits (n / 10) ++ Lib.decDigits (n % 10) := by
  rw [Lib.decDigits, dif_neg h, Lib.decDigits_one (i := n % 10) (by omega)]
theorem dec_cat {n : Nat} (h : ¬ n < 10) : (⟨(Lib.decDigits (n / 10)).toArray⟩ : ByteArray) ++ (⟨(Lib.decDigits (n % 10)).toArray⟩ : ByteArray) = ⟨(Lib.decDigits n).toArray⟩ := by
  rw [dec_last h]
  apply ByteArray.ext
  rw [ByteArray.data_append]
  simp
theorem dec_len : ∀ (k n : Nat), n < 10 ^ k → 1 ≤ k → (Lib.decDigits n).length ≤ k
  | 0, _, _, h => absurd h (by decide)
  | k + 1, n, h, _ => by
    by_cases h1 : n < 10
    · rw [Lib.decDigits_one h1]; simp
    · have hk : 1 ≤ k := by
        by_cases e : k = 0
        · subst e; simp at h; omega
        · omega
      have : n / 10 < 10 ^ k := by rw [Nat.div_lt_iff_lt_mul (by decide)]; rw [Nat.pow_succ] at h; exact h
      have ih := dec_len k (n / 10) this hk
      rw [dec_last h1, List.length_append, Lib.decDigits_one (i := n % 10) (by omega)]
      simp; omega

set_option maxHeartbeats 1000000 in
set_option maxRecDepth 100000 in
theorem specDec : ∀ (m n : Nat) (_ : n ≤ m) (_ : n ≤ 9223372036854775807) (w : World),
    Calls Tryz.prog 19 #[.int .i64 n] w fun e w' => e = .returned (.string ⟨(Lib.decDigits n).toArray⟩) ∧ Below w.heap.size w w' := by
  intro m
  induction m using Nat.strongRecOn with
  | _ m ih =>
  intro n hn hm w
  by_cases h10 : n < 10
  · have h10i : (n : Int) < 10 := by omega
    have hback : (convert 22 9 (.slice (some ⟨w.heap.size, 0, none⟩) 1 1)).run Tryz.prog (w.alloc (.cells #[.int .u8 (48 + (n : Int))] 5)) = .ok (.string ⟨(Lib.decDigits n).toArray⟩) (w.alloc (.cells #[.int .u8 (48 + (n : Int))] 5)) := by
      rw [Lib.decDigits_one h10]
      refine run_convert_bytes_back (P := Tryz.prog) _ _ _ _ _ 1 [UInt8.ofNat (48 + n)] Tryz.underlying22 Tryz.underlying5 Tryz.underlying9 fun j hj => ?_
      obtain rfl : j = 0 := by simpa using hj
      have e : ((UInt8.ofNat (48 + n)).toNat : Int) = 48 + (n : Int) := by rw [UInt8.toNat_ofNat_of_lt' (by show 48 + n < 256; omega)]; omega
      rw [add_plain]
      simp only [List.getElem_cons_zero, e, Nat.add_zero]
      exact World.cell?_alloc_mark w #[.int .u8 (48 + (n : Int))] _ (0, 0) 0
    go_enter Tryz.func19, Tryz.ntmps19
    go_wp2
    go_ret
    exact ⟨rfl, below1 _ _⟩
  · have h10i : ¬ (n : Int) < 10 := by omega
    have IH : Hid (∀ k : Nat, k < n → ∀ w : World, Calls Tryz.prog 19 #[.int .i64 k] w fun e w' => e = .returned (.string ⟨(Lib.decDigits k).toArray⟩) ∧ Below w.heap.size w w') := fun k hk w => ih k (by omega) k (Nat.le_refl _) (by omega) w
    have HC : Hid ((⟨(Lib.decDigits (n / 10)).toArray⟩ : ByteArray) ++ (⟨(Lib.decDigits (n % 10)).toArray⟩ : ByteArray) = ⟨(Lib.decDigits n).toArray⟩) := dec_cat h10
    have E1 : Hid ((n : Int) / 10 = ((n / 10 : Nat) : Int)) := by show _ = _; omega
    have E2 : Hid ((n : Int) % 10 = ((n % 10 : Nat) : Int)) := by show _ = _; omega
    have L1 : Hid ((⟨(Lib.decDigits (n / 10)).toArray⟩ : ByteArray).size ≤ 19) := by
      show _ ≤ _
      have := dec_len 19 (n / 10) (by omega) (by decide)
      simpa [ByteArray.size] using this
    have L2 : Hid ((⟨(Lib.decDigits (n % 10)).toArray⟩ : ByteArray).size ≤ 19) := by
      show _ ≤ _
      have := dec_len 19 (n % 10) (by omega) (by decide)
      simpa [ByteArray.size] using this
    clear ih
    go_enter Tryz.func19, Tryz.ntmps19
    go_wp2_with fail
    rw [E1.out]
    refine (IH.out (n / 10) (by omega) _).mono ?_
    rintro e w1 ⟨rfl, hb1⟩
    go_wp2_with fail
    rw [E2.out]
    refine (IH.out (n % 10) (by omega) _).mono ?_
    rintro e w2 ⟨rfl, hb2⟩
    generalize (⟨(Lib.decDigits (n / 10)).toArray⟩ : ByteArray) = X at *
    generalize (⟨(Lib.decDigits (n % 10)).toArray⟩ : ByteArray) = Y at *
    have l1 := L1.out
    have l2 := L2.out
    go_wp2
    go_ret
    exact ⟨ret_str HC.out, hb1.trans (hb2.mono hb1.size)⟩
theorem specDecN (n : Int) (h0 : 0 ≤ n) (h1 : n ≤ 9223372036854775807) (w : World) :
    Calls Tryz.prog 19 #[.int .i64 n] w fun e w' => e = .returned (.string ⟨(Lib.itoa n).toArray⟩) ∧ Below w.heap.size w w' := by
  obtain ⟨k, rfl⟩ := Int.eq_ofNat_of_zero_le h0
  rw [Lib.itoa_nonneg]
  exact specDec k k (Nat.le_refl _) (by omega) w
end Go.Proofs.YtlolnfpfipnfeaaGreatDoor
