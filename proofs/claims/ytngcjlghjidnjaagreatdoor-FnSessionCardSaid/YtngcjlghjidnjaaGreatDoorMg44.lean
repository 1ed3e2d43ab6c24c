import Derived.Test.YtngcjlghjidnjaaGreatDoorMg43
import Derived.Deep.QuietTactic
import Derived.BigQuiet
import Derived.Lib.ItoaNum
import Derived.Lib.ItoaMem
import Derived.Test.YtngcjlghjidnjaaGreatDoorMg42
namespace Go.Proofs.YtngcjlghjidnjaaGreatDoor
open Go.ChangeShapes Go.WideShapes Go.ChangeAt Go.RowKit

theorem dec_last {n : Nat} (h : ¬ n < 10) : Lib.decDigits n = Lib.decDigits (n / 10) ++ Lib.decDigits (n % 10) := by
  rw [Lib.decDigits, dif_neg h, Lib.decDigits_one (i := n % 10) (by omega)]
theorem dec_cat {n : Nat} (h : ¬ n < 10) : (⟨(Lib.decDigits (n / 10)).toArray⟩ : ByteArray) ++ (⟨(Lib.decDigits (n % 10)).toArray⟩ : ByteArray) = ⟨(Lib.decDigits n).toArray⟩ := by
  rw [dec_last h]
  apply ByteArray.ext
  rw [ByteArray.data_append]
  simp
theorem dec_len : ∀ (k n : Nat), n < 10 ^ k → 1 ≤ k → (Lib.decDigits n).length ≤ k
  | 0, _, _, h => absurd h (by decide)
  | k + 1, n, h, _ => by
    by_cases h1 : n < 10
    · rw [Lib.decDigits_one h1]; simp
    · have hk : 1 ≤ k := by
        by_cases e : k = 0
        · subst e; simp at h; omega
        · omega
      have : n / 10 < 10 ^ k := by rw [Nat.div_lt_iff_lt_mul (by decide)]; rw [Nat.pow_succ] at h; exact h
      have ih := dec_len k (n / 10) this hk
      rw [dec_last h1, List.length_append, Lib.decDigits_one (i := n % 10) (by omega)]
      simp; omega

set_option maxHeartbeats 1000000 in
set_option maxRecDepth 100000 in
theorem specDec : ∀ (m n : Nat) (_ : n ≤ m) (_ : n ≤ 9223372036854775807) (w : World),
    Calls Tryz.prog 73 #[.int .i64 n] w fun e w' => e = .returned (.string ⟨(Lib.decDigits n).toArray⟩) ∧ Below w.heap.size w w' := by
  intro m
  induction m using Nat.strongRecOn with
  | _ m ih =>
  intro n hn hm w
  by_cases h10 : n < 10
  · have h10i : (n : Int) < 10 := by omega
    have hback : (convert 22 9 (.slice (some ⟨w.heap.size, 0, none⟩) 1 1)).run Tryz.prog (w.alloc (.cells #[.int .u8 (48 + (n : Int))] 5)) = .ok (.string ⟨(Lib.decDigits n).toArray⟩) (w.alloc (.cells #[.int .u8 (48 + (n : Int))] 5)) := by
      rw [Lib.decDigits_one h10]
      refine run_convert_bytes_back (P := Tryz.prog) _ _ _ _ _ 1 [UInt8.ofNat (48 + n)] Tryz.underlying22 Tryz.underlying5 Tryz.underlying9 fun j hj => ?_
      obtain rfl : j = 0 := by simpa using hj
      have e : ((UInt8.ofNat (48 + n)).toNat : Int) = 48 + (n : Int) := by rw [UInt8.toNat_ofNat_of_lt' (by show 48 + n < 256; omega)]; omega
      rw [add_plain]
      simp only [List.getElem_cons_zero, e, Nat.add_zero]
      exact World.cell?_alloc_mark w #[.int .u8 (48 + (n : Int))] _ (0, 0) 0
    go_enter Tryz.func73, Tryz.ntmps73
    go_wp2
    go_ret
    exact ⟨rfl, below1 _ _⟩
  · have h10i : ¬ (n : Int) < 10 := by omega
    have IH : Hid (∀ k : Nat, k < n → ∀ w : World, Calls Tryz.prog 73 #[.int .i64 k] w fun e w' => e = .returned (.string ⟨(Lib.decDigits k).toArray⟩) ∧ Below w.heap.size w w') := fun k hk w => ih k (by omega) k (Nat.le_refl _) (by omega) w
    have HC : Hid ((⟨(Lib.decDigits (n / 10)).toArray⟩ : ByteArray) ++ (⟨(Lib.decDigits (n % 10)).toArray⟩ : ByteArray) = ⟨(Lib.decDigits n).toArray⟩) := dec_cat h10
    have E1 : Hid ((n : Int) / 10 = ((n / 10 : Nat) : Int)) := by show _ = _; omega
    have E2 : Hid ((n : Int) % 10 = ((n % 10 : Nat) : Int)) := by show _ = _; omega
    have L1 : Hid ((⟨(Lib.decDigits (n / 10)).toArray⟩ : ByteArray).size ≤ 19) := by
      show _ ≤ _
      have := dec_len 19 (n / 10) (by omega) (by decide)
      simpa [ByteArray.size] using this
    have L2 : Hid ((⟨(Lib.decDigits (n % 10)).toArray⟩ : ByteArray).size ≤ 19) := by
      show _ ≤ _
      have := dec_len 19 (n % 10) (by omega) (by decide)
      simpa [ByteArray.size] using this
    clear ih
    go_enter Tryz.func73, Tryz.ntmps73
    go_wp2_with fail
    rw [E1.out]
    refine (IH.out (n / 10) (by omega) _).mono ?_
    rintro e w1 ⟨rfl, hb1⟩
    go_wp2_with fail
    rw [E2.out]
    refine (IH.out (n % 10) (by omega) _).mono ?_
    rintro e w2 ⟨rfl, hb2⟩
    generalize (⟨(Lib.decDigits (n / 10)).toArray⟩ : ByteArray) = X at *
    generalize (⟨(Lib.decDigits (n % 10)).toArray⟩ : ByteArray) = Y at *
    have l1 := L1.out
    have l2 := L2.out
    go_wp2
    go_ret
    exact ⟨ret_str HC.out, hb1.trans (hb2.mono hb1.size)⟩
theorem specDecN (n : Int) (h0 : 0 ≤ n) (h1 : n ≤ 9223372036854775807) (w : World) :
    Calls Tryz.prog 73 #[.int .i64 n] w fun e w' => e = .returned (.string ⟨(Lib.itoa n).toArray⟩) ∧ Below w.heap.size w w' := by
  obtain ⟨k, rfl⟩ := Int.eq_ofNat_of_zero_le h0
  rw [Lib.itoa_nonneg]
  exact specDec k k (Nat.le_refl _) (by omega) w
end Go.Proofs.YtngcjlghjidnjaaGreatDoor
namespace Go.Proofs.YtngcjlghjidnjaaGreatDoor
open Go.ChangeShapes Go.WideShapes Go.ChangeAt Go.RowKit

def doms : List ByteArray := [⟨#[111, 110, 101, 46, 101, 120, 97, 109, 112, 108, 101]⟩, ⟨#[116, 119, 111, 46, 101, 120, 97, 109, 112, 108, 101]⟩, ⟨#[116, 104, 114, 101, 101, 46, 101, 120, 97, 109, 112, 108, 101]⟩, ⟨#[109, 120, 46, 111, 110, 101, 46, 101, 120, 97, 109, 112, 108, 101]⟩, ⟨#[97, 46, 98]⟩]
theorem dec_small {n : Nat} (h : n < 1000) : (⟨(Lib.decDigits n).toArray⟩ : ByteArray).size ≤ 3 := by
  have := dec_len 3 n h (by decide)
  simpa [ByteArray.size] using this

set_option maxHeartbeats 1000000 in
set_option maxRecDepth 100000 in
theorem rdDom (b p : Nat) (cv : Value) (B : List UInt8) (w : World) (h : RdAt w b cv B p) :
    Calls Tryz.prog 25 #[.pointer (some ⟨b, 0, none⟩)] w fun e w' => (∃ (t : ByteArray) (q : Nat), t.size ≤ 200 ∧ e = .returned (.string t) ∧ RdAt w' b cv B q) ∧ Off b w w' := by
  have H : Hid (RdAt w b cv B p) := h
  clear h
  go_enter Tryz.func25, Tryz.ntmps25
  go_wp2_with fail
  refine (rdNext b p cv B _ H.out).mono ?_
  rintro e w1 ⟨rfl, h1, ho1⟩
  have hc := nx_lt B p
  have H1 : Hid (RdAt w1 b cv B (px B p)) := h1
  clear h1
  generalize nx B p = c at *
  generalize px B p = q1 at *
  by_cases c255 : c = 255
  · subst c255
    go_wp2_with fail
    refine (fill 63 _ (by decide)).mono ?_
    rintro e w2 ⟨rfl, hb2⟩
    have hs2 := fill_size 63
    generalize ofInts (fillL 63) = F1 at *
    go_wp2_with fail
    refine (fill 36 _ (by decide)).mono ?_
    rintro e w3 ⟨rfl, hb3⟩
    have hs3 := fill_size 36
    generalize ofInts (fillL 36) = F2 at *
    have hb13 : Below w1.heap.size w1 w3 := hb2.trans (hb3.mono hb2.size)
    have e46 : (⟨#[46]⟩ : ByteArray).size = 1 := rfl
    go_wp2
    go_ret
    refine ⟨⟨_, q1, ?_, rfl, H1.out.below hb13 (Nat.le_refl _)⟩, ho1.trans (Off.of_below hb13)⟩
    simp only [ByteArray.size_append]
    omega
  · have c255b : ((c : Int) == 255) = false := beq_eq_false_iff_ne.2 (by omega)
    by_cases c254 : c = 254
    · subst c254
      go_wp2_with fail
      refine (rdNext b q1 cv B _ H1.out).mono ?_
      rintro e w2 ⟨rfl, h2, ho2⟩
      have hd := nx_lt B q1
      have H2 : Hid (RdAt w2 b cv B (px B q1)) := h2
      clear h2
      generalize nx B q1 = d at *
      go_wp2_with fail
      refine (specDec d d (Nat.le_refl _) (by omega) _).mono ?_
      rintro e w3 ⟨rfl, hb3⟩
      have hs3 := dec_small (n := d) (by omega)
      generalize (⟨(Lib.decDigits d).toArray⟩ : ByteArray) = F2 at *
      have e7 : (⟨#[97, 45, 98, 46, 57, 46, 120]⟩ : ByteArray).size = 7 := rfl
      go_wp2
      go_ret
      refine ⟨⟨_, px B q1, ?_, rfl, H2.out.below hb3 (Nat.le_refl _)⟩, (ho1.trans ho2).trans (Off.of_below hb3)⟩
      simp only [ByteArray.size_append]
      omega
    · have c254b : ((c : Int) == 254) = false := beq_eq_false_iff_ne.2 (by omega)
      obtain ⟨m, hm, hm8⟩ : ∃ m : Nat, (c : Int) % 5 = (m : Int) ∧ m < 5 := ⟨c % 5, by omega, by omega⟩
      obtain ⟨y, hy, ey⟩ := pickV doms 14 (by decide) m hm8
      simp only [doms, List.map_cons, List.map_nil] at ey
      go_wp2
      go_ret
      exact ⟨⟨_, q1, by omega, rfl, H1.out.below (below1 _ _) (Nat.le_refl _)⟩, ho1.trans (Off.of_below (below1 _ _))⟩
end Go.Proofs.YtngcjlghjidnjaaGreatDoor
namespace Go.Proofs.YtngcjlghjidnjaaGreatDoor
open Go.ChangeShapes Go.WideShapes Go.ChangeAt Go.RowKit

def codes : List ByteArray := [⟨#[50, 53, 48]⟩, ⟨#[50, 50, 48]⟩, ⟨#[51, 53, 52]⟩, ⟨#[52, 53, 49]⟩, ⟨#[53, 53, 48]⟩, ⟨#[52, 50, 49]⟩, ⟨#[50, 53, 49]⟩, ⟨#[50, 50, 49]⟩]
def words : List ByteArray := [⟨#[111, 110, 101, 46, 101, 120, 97, 109, 112, 108, 101]⟩, ⟨#[83, 73, 90, 69, 32, 49, 48, 48]⟩, ⟨#[115, 105, 122, 101, 32, 50, 48, 48, 48, 48, 48, 48]⟩, ⟨#[83, 73, 90, 69]⟩, ⟨#[83, 73, 90, 69, 32, 49, 50, 120]⟩, ⟨#[56, 66, 73, 84, 77, 73, 77, 69]⟩, ⟨#[]⟩, ⟨#[83, 105, 122, 101, 32, 48]⟩]
def ends : List ByteArray := [⟨#[32, 111, 107]⟩, ⟨#[]⟩, ⟨#[32]⟩, ⟨#[32, 110, 111, 32, 115, 117, 99, 104, 32, 117, 115, 101, 114, 32, 104, 101, 114, 101]⟩, ⟨#[32, 255, 32, 111, 100, 100, 32, 1]⟩]
set_option maxHeartbeats 1000000 in
set_option maxRecDepth 100000 in
theorem rdReply (b p : Nat) (cv : Value) (B : List UInt8) (w : World) (h : RdAt w b cv B p) :
    Calls Tryz.prog 53 #[.pointer (some ⟨b, 0, none⟩)] w fun e w' => (∃ (s : ByteArray) (q : Nat), s.size ≤ 200 ∧ e = .returned (.string s) ∧ RdAt w' b cv B q) ∧ Off b w w' := by
  have H : Hid (RdAt w b cv B p) := h
  clear h
  go_enter Tryz.func53, Tryz.ntmps53
  go_wp2_with fail
  refine (rdNext b p cv B _ H.out).mono ?_
  rintro e w1 ⟨rfl, h1, ho1⟩
  have hc := nx_lt B p
  have H1 : Hid (RdAt w1 b cv B (px B p)) := h1
  clear h1
  generalize nx B p = c at *
  generalize px B p = q1 at *
  obtain ⟨m, hm, hm8⟩ : ∃ m : Nat, (c : Int) % 8 = (m : Int) ∧ m < 8 := ⟨c % 8, by omega, by omega⟩
  obtain ⟨x, hx, ex⟩ := pickV codes 3 (by decide) m hm8
  simp only [codes, List.map_cons, List.map_nil] at ex
  go_wp2_with fail
  clear ex
  generalize hW : w1.alloc _ = W1
  have hb1 : Below w1.heap.size w1 W1 := by rw [← hW]; exact below1 _ _
  have HR1 : Hid (RdAt W1 b cv B q1) := H1.out.below hb1 (Nat.le_refl _)
  have ho : Off b w W1 := ho1.trans (Off.of_below hb1)
  clear hW hb1 H1 ho1 hm
  go_loopw [5, 6] (fun sv nv wr => ∃ (n q : Nat) (s : ByteArray), sv = .string s ∧ nv = .int .i64 n ∧ n ≤ 3 ∧ s.size + n * 20 ≤ 60 ∧ Hid (RdAt wr b cv B q) ∧ Off b w wr) (fun _ nv _ => (intOf nv).toNat)
  case atStart => exact ⟨c / 8 % 4, q1, ⟨#[]⟩, rfl, by go_num, by omega, by simp [ByteArray.size]; omega, HR1, ho⟩
  case round =>
    obtain ⟨n, q, s, rfl, rfl, hn3, hsz, HR, ho2⟩ := hrel
    by_cases hn : 0 < n
    · go_wp2_with fail
      refine (rdNext b q cv B _ HR.out).mono ?_
      rintro e w2 ⟨rfl, h2, ho3⟩
      have hd := nx_lt B q
      have H2 : Hid (RdAt w2 b cv B (px B q)) := h2
      clear h2
      generalize nx B q = d at *
      generalize px B q = q2 at *
      obtain ⟨m, hm, hm8⟩ : ∃ m : Nat, (d : Int) % 8 = (m : Int) ∧ m < 8 := ⟨d % 8, by omega, by omega⟩
      obtain ⟨y, hy, ey⟩ := pickV words 12 (by decide) m hm8
      simp only [words, List.map_cons, List.map_nil] at ey
      go_wp2_with fail
      clear ey
      generalize hW : w2.alloc _ = W2
      have hb2 : Below w2.heap.size w2 W2 := by rw [← hW]; exact below1 _ _
      have HR2 : Hid (RdAt W2 b cv B q2) := H2.out.below hb2 (Nat.le_refl _)
      have ho4 : Off b w W2 := (ho2.trans ho3).trans (Off.of_below hb2)
      clear hW hb2 H2 ho3 ho2
      go_wp2
      go_roundw
      case rel =>
        refine ⟨n - 1, q2, _, rfl, by go_num, by omega, ?_, HR2, ho4⟩
        simp only [ByteArray.size_append]
        have e1 : (⟨#[45]⟩ : ByteArray).size = 1 := rfl
        have e2 : (⟨#[13, 10]⟩ : ByteArray).size = 2 := rfl
        omega
      case measure => simp [intOf]; omega
    · obtain rfl : n = 0 := by omega
      go_wp2_with fail
      refine (rdNext b q cv B _ HR.out).mono ?_
      rintro e w2 ⟨rfl, h2, ho3⟩
      have hd := nx_lt B q
      have H2 : Hid (RdAt w2 b cv B (px B q)) := h2
      clear h2
      generalize nx B q = d at *
      generalize px B q = q2 at *
      obtain ⟨m, hm, hm8⟩ : ∃ m : Nat, (d : Int) % 5 = (m : Int) ∧ m < 5 := ⟨d % 5, by omega, by omega⟩
      obtain ⟨y, hy, ey⟩ := pickV ends 18 (by decide) m hm8
      simp only [ends, List.map_cons, List.map_nil] at ey
      go_wp2
      go_ret
      refine ⟨⟨_, q2, ?_, rfl, ?_⟩, ?_⟩
      · simp only [ByteArray.size_append]
        have e2 : (⟨#[13, 10]⟩ : ByteArray).size = 2 := rfl
        omega
      · exact H2.out.below (below1 _ _) (Nat.le_refl _)
      · exact (ho2.trans ho3).trans (Off.of_below (below1 _ _))
end Go.Proofs.YtngcjlghjidnjaaGreatDoor
