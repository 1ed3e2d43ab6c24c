import Derived.Test.YthblkfdgibonbaaRdPck
namespace Go.Proofs.Ythblkfdgibonbaa
open Go.ChangeShapes Go.WideShapes Go.ChangeAt Go.RowKit

def codes : List ByteArray := [⟨#[50, 53, 48]⟩, ⟨#[50, 50, 48]⟩, ⟨#[51, 53, 52]⟩, ⟨#[52, 53, 49]⟩, ⟨#[53, 53, 48]⟩, ⟨#[52, 50, 49]⟩, ⟨#[50, 53, 49]⟩, ⟨#[50, 50, 49]⟩]
def words : List ByteArray := [⟨#[111, 110, 101, 46, 101, 120, 97, 109, 112, 108, 101]⟩, ⟨#[83, 73, 90, 69, 32, 49, 48, 48]⟩, ⟨#[115, 105, 122, 101, 32, 50, 48, 48, 48, 48, 48, 48]⟩, ⟨#[83, 73, 90, 69]⟩, ⟨#[83, 73, 90, 69, 32, 49, 50, 120]⟩, ⟨#[56, 66, 73, 84, 77, 73, 77, 69]⟩, ⟨#[]⟩, ⟨#[83, 105, 122, 101, 32, 48]⟩]
def ends : List ByteArray := [⟨#[32, 111, 107]⟩, ⟨#[]⟩, ⟨#[32]⟩, ⟨#[32, 110, 111, 32, 115, 117, 99, 104, 32, 117, 115, 101, 114, 32, 104, 101, 114, 101]⟩, ⟨#[32, 255, 32, 111, 100, 100, 32, 1]⟩]
set_option maxHeartbeats 1000000 in
set_option maxRecDepth 100000 in
theorem rdReply (b p : Nat) (cv : Value) (B : List UInt8) (w : World) (h : RdAt w b cv B p) :
    Calls Try.prog 23 #[.pointer (some ⟨b, 0, none⟩)] w fun e w' => (∃ (s : ByteArray) (q : Nat), s.size ≤ 200 ∧ e = .returned (.string s) ∧ RdAt w' b cv B q) ∧ Off b w w' := by
  have H : Hid (RdAt w b cv B p) := h
  clear h
  go_enter Try.func23, Try.ntmps23
  go_wp2_with fail
  refine (rdNext b p cv B _ H.out).mono ?_
  rintro e w1 ⟨rfl, h1, ho1⟩
  have hc := nx_lt B p
  have H1 : Hid (RdAt w1 b cv B (px B p)) := h1
  clear h1
  generalize nx B p = c at *
  generalize px B p = q1 at *
  obtain ⟨m, hm, hm8⟩ : ∃ m : Nat, (c : Int) % 8 = (m : Int) ∧ m < 8 := ⟨c % 8, by omega, by omega⟩
  obtain ⟨x, hx, ex⟩ := pickV codes 3 (by decide) m hm8
  simp only [codes, List.map_cons, List.map_nil] at ex
  go_wp2_with fail
  clear ex
  generalize hW : w1.alloc _ = W1
  have hb1 : Below w1.heap.size w1 W1 := by rw [← hW]; exact below1 _ _
  have HR1 : Hid (RdAt W1 b cv B q1) := H1.out.below hb1 (Nat.le_refl _)
  have ho : Off b w W1 := ho1.trans (Off.of_below hb1)
  clear hW hb1 H1 ho1 hm
  go_loopw [5, 6] (fun sv nv wr => ∃ (n q : Nat) (s : ByteArray), sv = .string s ∧ nv = .int .i64 n ∧ n ≤ 3 ∧ s.size + n * 20 ≤ 60 ∧ Hid (RdAt wr b cv B q) ∧ Off b w wr) (fun _ nv _ => (intOf nv).toNat)
  case atStart => exact ⟨c / 8 % 4, q1, ⟨#[]⟩, rfl, by go_num, by omega, by simp [ByteArray.size]; omega, HR1, ho⟩
  case round =>
    obtain ⟨n, q, s, rfl, rfl, hn3, hsz, HR, ho2⟩ := hrel
    by_cases hn : 0 < n
    · go_wp2_with fail
      refine (rdNext b q cv B _ HR.out).mono ?_
      rintro e w2 ⟨rfl, h2, ho3⟩
      have hd := nx_lt B q
      have H2 : Hid (RdAt w2 b cv B (px B q)) := h2
      clear h2
      generalize nx B q = d at *
      generalize px B q = q2 at *
      obtain ⟨m, hm, hm8⟩ : ∃ m : Nat, (d : Int) % 8 = (m : Int) ∧ m < 8 := ⟨d % 8, by omega, by omega⟩
      obtain ⟨y, hy, ey⟩ := pickV words 12 (by decide) m hm8
      simp only [words, List.map_cons, List.map_nil] at ey
      go_wp2_with fail
      clear ey
      generalize hW : w2.alloc _ = W2
      have hb2 : Below w2.heap.size w2 W2 := by rw [← hW]; exact below1 _ _
      have HR2 : Hid (RdAt W2 b cv B q2) := H2.out.below hb2 (Nat.le_refl _)
      have ho4 : Off b w W2 := (ho2.trans ho3).trans (Off.of_below hb2)
      clear hW hb2 H2 ho3 ho2
      go_wp2
      go_roundw
      case rel =>
        refine ⟨n - 1, q2, _, rfl, by go_num, by omega, ?_, HR2, ho4⟩
        simp only [ByteArray.size_append]
        have e1 : (⟨#[45]⟩ : ByteArray).size = 1 := rfl
        have e2 : (⟨#[13, 10]⟩ : ByteArray).size = 2 := rfl
        omega
      case measure => simp [intOf]; omega
    · obtain rfl : n = 0 := by omega
      go_wp2_with fail
      refine (rdNext b q cv B _ HR.out).mono ?_
      rintro e w2 ⟨rfl, h2, ho3⟩
      have hd := nx_lt B q
      have H2 : Hid (RdAt w2 b cv B (px B q)) := h2
      clear h2
      generalize nx B q = d at *
      generalize px B q = q2 at *
      obtain ⟨m, hm, hm8⟩ : ∃ m : Nat, (d : Int) % 5 = (m : Int) ∧ m < 5 := ⟨d % 5, by omega, by omega⟩
      obtain ⟨y, hy, ey⟩ := pickV ends 18 (by decide) m hm8
      simp only [ends, List.map_cons, List.map_nil] at ey
      go_wp2
      go_ret
      refine ⟨⟨_, q2, ?_, rfl, ?_⟩, ?_⟩
      · simp only [ByteArray.size_append]
        have e2 : (⟨#[13, 10]⟩ : ByteArray).size = 2 := rfl
        omega
      · exact H2.out.below (below1 _ _) (Nat.le_refl _)
      · exact (ho2.trans ho3).trans (Off.of_below (below1 _ _))
end Go.Proofs.Ythblkfdgibonbaa
