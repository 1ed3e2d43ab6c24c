import Derived.Test.YtngcjlghjidnjaaGreatDoorMg3
import Derived.Test.YtngcjlghjidnjaaGreatDoorMg2
import Derived.Test.YtngcjlghjidnjaaGreatDoorMg1
import Derived.WalkKit
import Derived.ProofKit
import Derived.WalkLawsBesides
import Derived.Deep.QuietTactic
import Derived.BigQuiet
import Derived.Deep.AppendLies
import Derived.Deep.RegionWith
import Derived.Deep.DrawnRows
import Derived.Laws.IdiomStrings
namespace Go.Proofs.YtngcjlghjidnjaaGreatDoor
open Go.ChangeShapes Go.WideShapes Go.ChangeAt Go.RowKit

def doms : List ByteArray := [⟨#[111, 110, 101, 46, 101, 120, 97, 109, 112, 108, 101]⟩, ⟨#[116, 119, 111, 46, 101, 120, 97, 109, 112, 108, 101]⟩, ⟨#[116, 104, 114, 101, 101, 46, 101, 120, 97, 109, 112, 108, 101]⟩, ⟨#[109, 120, 46, 111, 110, 101, 46, 101, 120, 97, 109, 112, 108, 101]⟩, ⟨#[97, 46, 98]⟩]
theorem dec_small {n : Nat} (h : n < 1000) : (⟨(Lib.decDigits n).toArray⟩ : ByteArray).size ≤ 3 := by
  have := dec_len 3 n h (by decide)
  simpa [ByteArray.size] using this

set_option maxHeartbeats 1000000 in
set_option maxRecDepth 100000 in
theorem rdDom (b p : Nat) (cv : Value) (B : List UInt8) (w : World) (h : RdAt w b cv B p) :
    Calls Tryz.prog 25 #[.pointer (some ⟨b, 0, none⟩)] w fun e w' => (∃ (t : ByteArray) (q : Nat), t.size ≤ 200 ∧ e = .returned (.string t) ∧ RdAt w' b cv B q) ∧ Off b w w' := by
  have H : Hid (RdAt w b cv B p) := h
  clear h
  go_enter Tryz.func25, Tryz.ntmps25
  go_wp2_with fail
  refine (rdNext b p cv B _ H.out).mono ?_
  rintro e w1 ⟨rfl, h1, ho1⟩
  have hc := nx_lt B p
  have H1 : Hid (RdAt w1 b cv B (px B p)) := h1
  clear h1
  generalize nx B p = c at *
  generalize px B p = q1 at *
  by_cases c255 : c = 255
  · subst c255
    go_wp2_with fail
    refine (fill 63 _ (by decide)).mono ?_
    rintro e w2 ⟨rfl, hb2⟩
    have hs2 := fill_size 63
    generalize ofInts (fillL 63) = F1 at *
    go_wp2_with fail
    refine (fill 36 _ (by decide)).mono ?_
    rintro e w3 ⟨rfl, hb3⟩
    have hs3 := fill_size 36
    generalize ofInts (fillL 36) = F2 at *
    have hb13 : Below w1.heap.size w1 w3 := hb2.trans (hb3.mono hb2.size)
    have e46 : (⟨#[46]⟩ : ByteArray).size = 1 := rfl
    go_wp2
    go_ret
    refine ⟨⟨_, q1, ?_, rfl, H1.out.below hb13 (Nat.le_refl _)⟩, ho1.trans (Off.of_below hb13)⟩
    simp only [ByteArray.size_append]
    omega
  · have c255b : ((c : Int) == 255) = false := beq_eq_false_iff_ne.2 (by omega)
    by_cases c254 : c = 254
    · subst c254
      go_wp2_with fail
      refine (rdNext b q1 cv B _ H1.out).mono ?_
      rintro e w2 ⟨rfl, h2, ho2⟩
      have hd := nx_lt B q1
      have H2 : Hid (RdAt w2 b cv B (px B q1)) := h2
      clear h2
      generalize nx B q1 = d at *
      go_wp2_with fail
      refine (specDec d d (Nat.le_refl _) (by omega) _).mono ?_
      rintro e w3 ⟨rfl, hb3⟩
      have hs3 := dec_small (n := d) (by omega)
      generalize (⟨(Lib.decDigits d).toArray⟩ : ByteArray) = F2 at *
      have e7 : (⟨#[97, 45, 98, 46, 57, 46, 120]⟩ : ByteArray).size = 7 := rfl
      go_wp2
      go_ret
      refine ⟨⟨_, px B q1, ?_, rfl, H2.out.below hb3 (Nat.le_refl _)⟩, (ho1.trans ho2).trans (Off.of_below hb3)⟩
      simp only [ByteArray.size_append]
      omega
    · have c254b : ((c : Int) == 254) = false := beq_eq_false_iff_ne.2 (by omega)
      obtain ⟨m, hm, hm8⟩ : ∃ m : Nat, (c : Int) % 5 = (m : Int) ∧ m < 5 := ⟨c % 5, by omega, by omega⟩
      obtain ⟨y, hy, ey⟩ := pickV doms 14 (by decide) m hm8
      simp only [doms, List.map_cons, List.map_nil] at ey
      go_wp2
      go_ret
      exact ⟨⟨_, q1, by omega, rfl, H1.out.below (below1 _ _) (Nat.le_refl _)⟩, ho1.trans (Off.of_below (below1 _ _))⟩
end Go.Proofs.YtngcjlghjidnjaaGreatDoor
namespace Go.Proofs.YtngcjlghjidnjaaGreatDoor
open Go.ChangeShapes Go.WideShapes Go.ChangeAt Go.RowKit

def codes : List ByteArray := [⟨#[50, 53, 48]⟩, ⟨#[50, 50, 48]⟩, ⟨#[51, 53, 52]⟩, ⟨#[52, 53, 49]⟩, ⟨#[53, 53, 48]⟩, ⟨#[52, 50, 49]⟩, ⟨#[50, 53, 49]⟩, ⟨#[50, 50, 49]⟩]
def words : List ByteArray := [⟨#[111, 110, 101, 46, 101, 120, 97, 109, 112, 108, 101]⟩, ⟨#[83, 73, 90, 69, 32, 49, 48, 48]⟩, ⟨#[115, 105, 122, 101, 32, 50, 48, 48, 48, 48, 48, 48]⟩, ⟨#[83, 73, 90, 69]⟩, ⟨#[83, 73, 90, 69, 32, 49, 50, 120]⟩, ⟨#[56, 66, 73, 84, 77, 73, 77, 69]⟩, ⟨#[]⟩, ⟨#[83, 105, 122, 101, 32, 48]⟩]
def ends : List ByteArray := [⟨#[32, 111, 107]⟩, ⟨#[]⟩, ⟨#[32]⟩, ⟨#[32, 110, 111, 32, 115, 117, 99, 104, 32, 117, 115, 101, 114, 32, 104, 101, 114, 101]⟩, ⟨#[32, 255, 32, 111, 100, 100, 32, 1]⟩]
set_option maxHeartbeats 1000000 in
set_option maxRecDepth 100000 in
theorem rdReply (b p : Nat) (cv : Value) (B : List UInt8) (w : World) (h : RdAt w b cv B p) :
    Calls Tryz.prog 53 #[.pointer (some ⟨b, 0, none⟩)] w fun e w' => (∃ (s : ByteArray) (q : Nat), s.size ≤ 200 ∧ e = .returned (.string s) ∧ RdAt w' b cv B q) ∧ Off b w w' := by
  have H : Hid (RdAt w b cv B p) := h
  clear h
  go_enter Tryz.func53, Tryz.ntmps53
  go_wp2_with fail
  refine (rdNext b p cv B _ H.out).mono ?_
  rintro e w1 ⟨rfl, h1, ho1⟩
  have hc := nx_lt B p
  have H1 : Hid (RdAt w1 b cv B (px B p)) := h1
  clear h1
  generalize nx B p = c at *
  generalize px B p = q1 at *
  obtain ⟨m, hm, hm8⟩ : ∃ m : Nat, (c : Int) % 8 = (m : Int) ∧ m < 8 := ⟨c % 8, by omega, by omega⟩
  obtain ⟨x, hx, ex⟩ := pickV codes 3 (by decide) m hm8
  simp only [codes, List.map_cons, List.map_nil] at ex
  go_wp2_with fail
  clear ex
  generalize hW : w1.alloc _ = W1
  have hb1 : Below w1.heap.size w1 W1 := by rw [← hW]; exact below1 _ _
  have HR1 : Hid (RdAt W1 b cv B q1) := H1.out.below hb1 (Nat.le_refl _)
  have ho : Off b w W1 := ho1.trans (Off.of_below hb1)
  clear hW hb1 H1 ho1 hm
  go_loopw [5, 6] (fun sv nv wr => ∃ (n q : Nat) (s : ByteArray), sv = .string s ∧ nv = .int .i64 n ∧ n ≤ 3 ∧ s.size + n * 20 ≤ 60 ∧ Hid (RdAt wr b cv B q) ∧ Off b w wr) (fun _ nv _ => (intOf nv).toNat)
  case atStart => exact ⟨c / 8 % 4, q1, ⟨#[]⟩, rfl, by go_num, by omega, by simp [ByteArray.size]; omega, HR1, ho⟩
  case round =>
    obtain ⟨n, q, s, rfl, rfl, hn3, hsz, HR, ho2⟩ := hrel
    by_cases hn : 0 < n
    · go_wp2_with fail
      refine (rdNext b q cv B _ HR.out).mono ?_
      rintro e w2 ⟨rfl, h2, ho3⟩
      have hd := nx_lt B q
      have H2 : Hid (RdAt w2 b cv B (px B q)) := h2
      clear h2
      generalize nx B q = d at *
      generalize px B q = q2 at *
      obtain ⟨m, hm, hm8⟩ : ∃ m : Nat, (d : Int) % 8 = (m : Int) ∧ m < 8 := ⟨d % 8, by omega, by omega⟩
      obtain ⟨y, hy, ey⟩ := pickV words 12 (by decide) m hm8
      simp only [words, List.map_cons, List.map_nil] at ey
      go_wp2_with fail
      clear ey
      generalize hW : w2.alloc _ = W2
      have hb2 : Below w2.heap.size w2 W2 := by rw [← hW]; exact below1 _ _
      have HR2 : Hid (RdAt W2 b cv B q2) := H2.out.below hb2 (Nat.le_refl _)
      have ho4 : Off b w W2 := (ho2.trans ho3).trans (Off.of_below hb2)
      clear hW hb2 H2 ho3 ho2
      go_wp2
      go_roundw
      case rel =>
        refine ⟨n - 1, q2, _, rfl, by go_num, by omega, ?_, HR2, ho4⟩
        simp only [ByteArray.size_append]
        have e1 : (⟨#[45]⟩ : ByteArray).size = 1 := rfl
        have e2 : (⟨#[13, 10]⟩ : ByteArray).size = 2 := rfl
        omega
      case measure => simp [intOf]; omega
    · obtain rfl : n = 0 := by omega
      go_wp2_with fail
      refine (rdNext b q cv B _ HR.out).mono ?_
      rintro e w2 ⟨rfl, h2, ho3⟩
      have hd := nx_lt B q
      have H2 : Hid (RdAt w2 b cv B (px B q)) := h2
      clear h2
      generalize nx B q = d at *
      generalize px B q = q2 at *
      obtain ⟨m, hm, hm8⟩ : ∃ m : Nat, (d : Int) % 5 = (m : Int) ∧ m < 5 := ⟨d % 5, by omega, by omega⟩
      obtain ⟨y, hy, ey⟩ := pickV ends 18 (by decide) m hm8
      simp only [ends, List.map_cons, List.map_nil] at ey
      go_wp2
      go_ret
      refine ⟨⟨_, q2, ?_, rfl, ?_⟩, ?_⟩
      · simp only [ByteArray.size_append]
        have e2 : (⟨#[13, 10]⟩ : ByteArray).size = 2 := rfl
        omega
      · exact H2.out.below (below1 _ _) (Nat.le_refl _)
      · exact (ho2.trans ho3).trans (Off.of_below (below1 _ _))
end Go.Proofs.YtngcjlghjidnjaaGreatDoor
namespace Go.Proofs.YtngcjlghjidnjaaGreatDoor
open Go.ChangeShapes Go.WideShapes Go.ChangeAt Go.RowKit

theorem pickE (L : List ByteArray) (k : Nat) (hk : k < L.length) : ∃ y : ByteArray, y = L.getD k ⟨#[]⟩ ∧ ∀ h, (L.map Value.string)[k]'h = .string y :=
  ⟨_, rfl, fun h => by simp [hk]⟩
theorem getD_le {L : List ByteArray} {n : Nat} (h : ∀ x ∈ L, x.size ≤ n) (k : Nat) : (L.getD k ⟨#[]⟩).size ≤ n := by
  rw [List.getD_eq_getElem?_getD]
  cases e : L[k]? with
  | none => exact Nat.zero_le _
  | some x => exact h x (List.mem_of_getElem? e)
/-- a drawn domain -/
def domF (B : List UInt8) (p : Nat) : ByteArray × Nat :=
  if nx B p = 255 then (ofInts (fillL 63) ++ ⟨#[46]⟩ ++ ofInts (fillL 36), px B p)
  else if nx B p = 254 then (⟨#[97, 45, 98, 46, 57, 46, 120]⟩ ++ ⟨(Lib.decDigits (nx B (px B p))).toArray⟩, px B (px B p))
  else (doms.getD (nx B p % 5) ⟨#[]⟩, px B p)
theorem domF_255 {B : List UInt8} {p q : Nat} (h : nx B p = 255) (hq : px B p = q) : domF B p = (ofInts (fillL 63) ++ ⟨#[46]⟩ ++ ofInts (fillL 36), q) := by unfold domF; rw [if_pos h, hq]
theorem domF_254 {B : List UInt8} {p q : Nat} (h : nx B p = 254) (hq : px B p = q) : domF B p = (⟨#[97, 45, 98, 46, 57, 46, 120]⟩ ++ ⟨(Lib.decDigits (nx B q)).toArray⟩, px B q) := by unfold domF; rw [if_neg (by omega), if_pos h, hq]
theorem domF_no {B : List UInt8} {p q c : Nat} (h : nx B p = c) (h1 : c ≠ 255) (h2 : c ≠ 254) (hq : px B p = q) : domF B p = (doms.getD (c % 5) ⟨#[]⟩, q) := by unfold domF; rw [if_neg (by omega), if_neg (by omega), hq, h]
theorem domF_size (B : List UInt8) (p : Nat) : (domF B p).1.size ≤ 200 := by
  unfold domF
  split
  · simp only [ByteArray.size_append, fill_size]; decide
  · split
    · have := dec_small (n := nx B (px B p)) (by have := nx_lt B (px B p); omega)
      have e7 : (⟨#[97, 45, 98, 46, 57, 46, 120]⟩ : ByteArray).size = 7 := rfl
      simp only [ByteArray.size_append]; omega
    · exact Nat.le_trans (getD_le (n := 14) (by decide) _) (by decide)
set_option maxHeartbeats 1000000 in
set_option maxRecDepth 100000 in
theorem rdDomX (b p : Nat) (cv : Value) (B : List UInt8) (w : World) (h : RdAt w b cv B p) :
    Calls Tryz.prog 25 #[.pointer (some ⟨b, 0, none⟩)] w fun e w' => e = .returned (.string (domF B p).1) ∧ RdAt w' b cv B (domF B p).2 ∧ Off b w w' := by
  have H : Hid (RdAt w b cv B p) := h
  clear h
  go_enter Tryz.func25, Tryz.ntmps25
  go_wp2_with fail
  refine (rdNext b p cv B _ H.out).mono ?_
  rintro e w1 ⟨rfl, h1, ho1⟩
  have hc := nx_lt B p
  have H1 : Hid (RdAt w1 b cv B (px B p)) := h1
  clear h1
  generalize hcE : nx B p = c at hc ⊢
  generalize hqE : px B p = q1 at H1
  have HC : Hid (nx B p = c) := hcE
  have HP : Hid (px B p = q1) := hqE
  clear hcE hqE
  by_cases c255 : c = 255
  · subst c255
    go_wp2_with fail
    refine (fill 63 _ (by decide)).mono ?_
    rintro e w2 ⟨rfl, hb2⟩
    generalize hF1 : ofInts (fillL 63) = F1
    have hs2 : F1.size = 63 := by rw [← hF1]; exact fill_size 63
    go_wp2_with fail
    refine (fill 36 _ (by decide)).mono ?_
    rintro e w3 ⟨rfl, hb3⟩
    generalize hF2 : ofInts (fillL 36) = F2
    have hs3 : F2.size = 36 := by rw [← hF2]; exact fill_size 36
    have hb13 : Below w1.heap.size w1 w3 := hb2.trans (hb3.mono hb2.size)
    have e46 : (⟨#[46]⟩ : ByteArray).size = 1 := rfl
    go_wp2
    go_ret
    rw [domF_255 HC.out HP.out, hF1, hF2]
    exact ⟨rfl, H1.out.below hb13 (Nat.le_refl _), ho1.trans (Off.of_below hb13)⟩
  · have c255b : ((c : Int) == 255) = false := beq_eq_false_iff_ne.2 (by omega)
    by_cases c254 : c = 254
    · subst c254
      go_wp2_with fail
      refine (rdNext b q1 cv B _ H1.out).mono ?_
      rintro e w2 ⟨rfl, h2, ho2⟩
      have hd := nx_lt B q1
      have H2 : Hid (RdAt w2 b cv B (px B q1)) := h2
      clear h2
      generalize hdE : nx B q1 = d at hd ⊢
      have HD : Hid (nx B q1 = d) := hdE
      clear hdE
      go_wp2_with fail
      refine (specDec d d (Nat.le_refl _) (by omega) _).mono ?_
      rintro e w3 ⟨rfl, hb3⟩
      have hs3 := dec_small (n := d) (by omega)
      generalize hF2 : (⟨(Lib.decDigits d).toArray⟩ : ByteArray) = F2 at hs3 ⊢
      have HF2 : Hid ((⟨(Lib.decDigits d).toArray⟩ : ByteArray) = F2) := hF2
      clear hF2
      have e7 : (⟨#[97, 45, 98, 46, 57, 46, 120]⟩ : ByteArray).size = 7 := rfl
      go_wp2
      go_ret
      rw [domF_254 HC.out HP.out, HD.out, HF2.out]
      exact ⟨rfl, H2.out.below hb3 (Nat.le_refl _), (ho1.trans ho2).trans (Off.of_below hb3)⟩
    · have c254b : ((c : Int) == 254) = false := beq_eq_false_iff_ne.2 (by omega)
      obtain ⟨m, hm0, hm, hm8⟩ : ∃ m : Nat, c % 5 = m ∧ (c : Int) % 5 = (m : Int) ∧ m < 5 := ⟨c % 5, rfl, by omega, by omega⟩
      have HE := domF_no HC.out c255 c254 HP.out
      rw [hm0] at HE
      obtain ⟨y, hy, ey⟩ := pickE doms m hm8
      rw [← hy] at HE
      have HE2 : Hid _ := HE
      simp only [doms, List.map_cons, List.map_nil] at ey
      clear hy HE hm0
      go_wp2
      go_ret
      rw [HE2.out]
      exact ⟨rfl, H1.out.below (below1 _ _) (Nat.le_refl _), ho1.trans (Off.of_below (below1 _ _))⟩

def locals : List ByteArray := [⟨#[97, 110, 110]⟩, ⟨#[98, 111, 98]⟩, ⟨#[99, 46, 100]⟩, ⟨#[101, 43, 102]⟩, ⟨#[103, 95, 45, 104]⟩, ⟨#[122, 57]⟩]
/-- a drawn address -/
def addrF (B : List UInt8) (p : Nat) : ByteArray × Nat :=
  ((if 250 ≤ nx B p then ofInts (fillL 64) else locals.getD (nx B p % 6) ⟨#[]⟩) ++ ⟨#[64]⟩ ++ (domF B (px B p)).1, (domF B (px B p)).2)
theorem addrF_big {B : List UInt8} {p q c : Nat} {D : ByteArray × Nat} (h : nx B p = c) (hc : 250 ≤ c) (hq : px B p = q) (hD : domF B q = D) : addrF B p = (ofInts (fillL 64) ++ ⟨#[64]⟩ ++ D.1, D.2) := by unfold addrF; rw [hq, hD, if_pos (by omega)]
theorem addrF_low {B : List UInt8} {p q c : Nat} {D : ByteArray × Nat} (h : nx B p = c) (hc : ¬ 250 ≤ c) (hq : px B p = q) (hD : domF B q = D) : addrF B p = (locals.getD (c % 6) ⟨#[]⟩ ++ ⟨#[64]⟩ ++ D.1, D.2) := by unfold addrF; rw [hq, hD, if_neg (by omega), h]
theorem addrF_size (B : List UInt8) (p : Nat) : (addrF B p).1.size ≤ 300 := by
  unfold addrF
  have h1 := domF_size B (px B p)
  have e : (⟨#[64]⟩ : ByteArray).size = 1 := rfl
  have h2 : (if 250 ≤ nx B p then ofInts (fillL 64) else locals.getD (nx B p % 6) ⟨#[]⟩).size ≤ 64 := by
    split
    · rw [fill_size]; exact Nat.le_refl _
    · exact Nat.le_trans (getD_le (n := 4) (by decide) _) (by decide)
  simp only [ByteArray.size_append]
  omega
set_option maxHeartbeats 1000000 in
set_option maxRecDepth 100000 in
theorem rdAddrX (b p : Nat) (cv : Value) (B : List UInt8) (w : World) (h : RdAt w b cv B p) :
    Calls Tryz.prog 74 #[.pointer (some ⟨b, 0, none⟩)] w fun e w' => e = .returned (.string (addrF B p).1) ∧ RdAt w' b cv B (addrF B p).2 ∧ Off b w w' := by
  have H : Hid (RdAt w b cv B p) := h
  clear h
  go_enter Tryz.func74, Tryz.ntmps74
  go_wp2_with fail
  refine (rdNext b p cv B _ H.out).mono ?_
  rintro e w1 ⟨rfl, h1, ho1⟩
  have hc := nx_lt B p
  have H1 : Hid (RdAt w1 b cv B (px B p)) := h1
  clear h1
  generalize hcE : nx B p = c at hc ⊢
  generalize hqE : px B p = q1 at H1
  have HC : Hid (nx B p = c) := hcE
  have HP : Hid (px B p = q1) := hqE
  clear hcE hqE
  have hds := domF_size B q1
  have HD : Hid (∀ wx, RdAt wx b cv B q1 → Calls Tryz.prog 25 #[.pointer (some ⟨b, 0, none⟩)] wx fun e w' => e = .returned (.string (domF B q1).1) ∧ RdAt w' b cv B (domF B q1).2 ∧ Off b wx w') := fun wx hx => rdDomX b q1 cv B wx hx
  generalize hDE : domF B q1 = D at hds HD
  have HDE : Hid (domF B q1 = D) := hDE
  clear hDE
  obtain ⟨m, hm0, hm, hm8⟩ : ∃ m : Nat, c % 6 = m ∧ (c : Int) % 6 = (m : Int) ∧ m < 6 := ⟨c % 6, rfl, by omega, by omega⟩
  have hys := getD_le (L := locals) (n := 4) (by decide) m
  obtain ⟨y, hy, ey⟩ := pickE locals m hm8
  rw [← hy] at hys
  have HY : Hid (y = locals.getD (c % 6) ⟨#[]⟩) := by rw [hm0]; exact hy
  simp only [locals, List.map_cons, List.map_nil] at ey
  clear hy hm0
  have e64 : (⟨#[64]⟩ : ByteArray).size = 1 := rfl
  by_cases c250 : 250 ≤ c
  · have c250i : (250 : Int) ≤ c := by omega
    go_wp2_with fail
    clear ey
    generalize hW : w1.alloc _ = W1
    have hb1 : Below w1.heap.size w1 W1 := by rw [← hW]; exact below1 _ _
    refine (fill 64 _ (by decide)).mono ?_
    rintro e w2 ⟨rfl, hb2⟩
    generalize hF1 : ofInts (fillL 64) = F1
    have hs2 : F1.size = 64 := by rw [← hF1]; exact fill_size 64
    have hb12 : Below w1.heap.size w1 w2 := hb1.trans (hb2.mono hb1.size)
    have H2 : Hid (RdAt w2 b cv B q1) := H1.out.below hb12 (Nat.le_refl _)
    have ho2 : Off b w w2 := ho1.trans (Off.of_below hb12)
    clear hW hb1 hb2 hb12 H1 ho1
    go_wp2_with fail
    refine (HD.out _ H2.out).mono ?_
    rintro e w3 ⟨rfl, h3, ho3⟩
    go_wp2
    go_ret
    rw [addrF_big HC.out c250 HP.out HDE.out, hF1]
    exact ⟨rfl, h3, ho2.trans ho3⟩
  · have c250i : ¬ (250 : Int) ≤ c := by omega
    go_wp2_with fail
    clear ey
    generalize hW : w1.alloc _ = W1
    have hb1 : Below w1.heap.size w1 W1 := by rw [← hW]; exact below1 _ _
    have H2 : Hid (RdAt W1 b cv B q1) := H1.out.below hb1 (Nat.le_refl _)
    have ho2 : Off b w W1 := ho1.trans (Off.of_below hb1)
    clear hW hb1 H1 ho1
    refine (HD.out _ H2.out).mono ?_
    rintro e w3 ⟨rfl, h3, ho3⟩
    go_wp2
    go_ret
    rw [addrF_low HC.out c250 HP.out HDE.out, ← HY.out]
    exact ⟨rfl, h3, ho2.trans ho3⟩

/-- a drawn sender -/
def fromF (B : List UInt8) (p : Nat) : ByteArray × Nat := if nx B p % 6 = 5 then (⟨#[]⟩, px B p) else addrF B (px B p)
theorem fromF_size (B : List UInt8) (p : Nat) : (fromF B p).1.size ≤ 300 := by
  unfold fromF
  split
  · exact Nat.zero_le _
  · exact addrF_size _ _
set_option maxHeartbeats 1000000 in
set_option maxRecDepth 100000 in
theorem rdFromX (b p : Nat) (cv : Value) (B : List UInt8) (w : World) (h : RdAt w b cv B p) :
    Calls Tryz.prog 26 #[.pointer (some ⟨b, 0, none⟩)] w fun e w' => e = .returned (.string (fromF B p).1) ∧ RdAt w' b cv B (fromF B p).2 ∧ Off b w w' := by
  have H : Hid (RdAt w b cv B p) := h
  clear h
  go_enter Tryz.func26, Tryz.ntmps26
  go_wp2_with fail
  refine (rdNext b p cv B _ H.out).mono ?_
  rintro e w1 ⟨rfl, h1, ho1⟩
  have hc := nx_lt B p
  have H1 : Hid (RdAt w1 b cv B (px B p)) := h1
  clear h1
  generalize hcE : nx B p = c at hc ⊢
  generalize hqE : px B p = q1 at H1
  have HC : Hid (nx B p = c) := hcE
  have HP : Hid (px B p = q1) := hqE
  clear hcE hqE
  by_cases c5 : c % 6 = 5
  · have c5i : (c : Int) % 6 = 5 := by omega
    go_wp2
    go_ret
    have e : fromF B p = (⟨#[]⟩, q1) := by unfold fromF; rw [HC.out, HP.out, if_pos c5]
    rw [e]
    exact ⟨rfl, H1.out, ho1⟩
  · have c5i : ¬ (c : Int) % 6 = 5 := by omega
    go_wp2_with fail
    refine (rdAddrX b q1 cv B _ H1.out).mono ?_
    rintro e w3 ⟨rfl, h3, ho3⟩
    go_wp2
    go_ret
    have e : fromF B p = addrF B q1 := by unfold fromF; rw [HC.out, HP.out, if_neg c5]
    rw [e]
    exact ⟨rfl, h3, ho1.trans ho3⟩

/-- a drawn reply -/
def repGo : Nat → List UInt8 → Nat → ByteArray → ByteArray → ByteArray × Nat
  | 0, _, p, _, acc => (acc, p)
  | n + 1, B, p, x, acc => repGo n B (px B p) x (acc ++ (x ++ ⟨#[45]⟩ ++ words.getD (nx B p % 8) ⟨#[]⟩ ++ ⟨#[13, 10]⟩))
def repF (B : List UInt8) (p : Nat) : ByteArray × Nat :=
  ((repGo (nx B p / 8 % 4) B (px B p) (codes.getD (nx B p % 8) ⟨#[]⟩) ⟨#[]⟩).1 ++ codes.getD (nx B p % 8) ⟨#[]⟩ ++ ends.getD (nx B (repGo (nx B p / 8 % 4) B (px B p) (codes.getD (nx B p % 8) ⟨#[]⟩) ⟨#[]⟩).2 % 5) ⟨#[]⟩ ++ ⟨#[13, 10]⟩, px B (repGo (nx B p / 8 % 4) B (px B p) (codes.getD (nx B p % 8) ⟨#[]⟩) ⟨#[]⟩).2)
theorem repGo_size : ∀ (n : Nat) (B : List UInt8) (p : Nat) (x acc : ByteArray), x.size ≤ 3 → (repGo n B p x acc).1.size ≤ acc.size + n * 20
  | 0, _, _, _, _, _ => by simp [repGo]
  | n + 1, B, p, x, acc, h => by
    rw [repGo]
    have h1 := repGo_size n B (px B p) x (acc ++ (x ++ ⟨#[45]⟩ ++ words.getD (nx B p % 8) ⟨#[]⟩ ++ ⟨#[13, 10]⟩)) h
    have h2 := getD_le (L := words) (n := 12) (by decide) (nx B p % 8)
    have e1 : (⟨#[45]⟩ : ByteArray).size = 1 := rfl
    have e2 : (⟨#[13, 10]⟩ : ByteArray).size = 2 := rfl
    simp only [ByteArray.size_append] at h1
    omega
theorem repF_size (B : List UInt8) (p : Nat) : (repF B p).1.size ≤ 200 := by
  have h0 := getD_le (L := codes) (n := 3) (by decide) (nx B p % 8)
  unfold repF
  have h1 := repGo_size (nx B p / 8 % 4) B (px B p) (codes.getD (nx B p % 8) ⟨#[]⟩) ⟨#[]⟩ h0
  have e0 : (⟨#[]⟩ : ByteArray).size = 0 := rfl
  rw [e0] at h1
  generalize repGo (nx B p / 8 % 4) B (px B p) (codes.getD (nx B p % 8) ⟨#[]⟩) ⟨#[]⟩ = Z at *
  have h3 := getD_le (L := ends) (n := 18) (by decide) (nx B Z.2 % 5)
  have e2 : (⟨#[13, 10]⟩ : ByteArray).size = 2 := rfl
  simp only [ByteArray.size_append]
  have h4 : nx B p / 8 % 4 ≤ 3 := by omega
  omega
set_option maxHeartbeats 1000000 in
set_option maxRecDepth 100000 in
theorem rdReplyX (b p : Nat) (cv : Value) (B : List UInt8) (w : World) (h : RdAt w b cv B p) :
    Calls Tryz.prog 53 #[.pointer (some ⟨b, 0, none⟩)] w fun e w' => e = .returned (.string (repF B p).1) ∧ RdAt w' b cv B (repF B p).2 ∧ Off b w w' := by
  have H : Hid (RdAt w b cv B p) := h
  clear h
  go_enter Tryz.func53, Tryz.ntmps53
  go_wp2_with fail
  refine (rdNext b p cv B _ H.out).mono ?_
  rintro e w1 ⟨rfl, h1, ho1⟩
  have hc := nx_lt B p
  have H1 : Hid (RdAt w1 b cv B (px B p)) := h1
  clear h1
  generalize hcE : nx B p = c at hc ⊢
  generalize hqE : px B p = q1 at H1
  have HC : Hid (nx B p = c) := hcE
  have HP : Hid (px B p = q1) := hqE
  clear hcE hqE
  obtain ⟨m, hm0, hm, hm8⟩ : ∃ m : Nat, c % 8 = m ∧ (c : Int) % 8 = (m : Int) ∧ m < 8 := ⟨c % 8, rfl, by omega, by omega⟩
  have hx := getD_le (L := codes) (n := 3) (by decide) m
  obtain ⟨x, hxe, ex⟩ := pickE codes m hm8
  rw [← hxe] at hx
  simp only [codes, List.map_cons, List.map_nil] at ex
  have HX : Hid (repF B p = ((repGo (c / 8 % 4) B q1 x ⟨#[]⟩).1 ++ x ++ ends.getD (nx B (repGo (c / 8 % 4) B q1 x ⟨#[]⟩).2 % 5) ⟨#[]⟩ ++ ⟨#[13, 10]⟩, px B (repGo (c / 8 % 4) B q1 x ⟨#[]⟩).2)) := by show repF B p = _; unfold repF; rw [HC.out, HP.out, hm0, ← hxe]
  clear hxe hm0
  go_wp2_with fail
  clear ex
  generalize hW : w1.alloc _ = W1
  have hb1 : Below w1.heap.size w1 W1 := by rw [← hW]; exact below1 _ _
  have HR1 : Hid (RdAt W1 b cv B q1) := H1.out.below hb1 (Nat.le_refl _)
  have ho : Off b w W1 := ho1.trans (Off.of_below hb1)
  clear hW hb1 H1 ho1 hm
  generalize hZ : repGo (c / 8 % 4) B q1 x ⟨#[]⟩ = Z at HX
  go_loopw [5, 6] (fun sv nv wr => ∃ (n q : Nat) (s : ByteArray), sv = .string s ∧ nv = .int .i64 n ∧ n ≤ 3 ∧ s.size + n * 20 ≤ 60 ∧ Hid (repGo n B q x s = Z) ∧ Hid (RdAt wr b cv B q) ∧ Off b w wr) (fun _ nv _ => (intOf nv).toNat)
  case atStart => exact ⟨c / 8 % 4, q1, ⟨#[]⟩, rfl, by go_num, by omega, by simp [ByteArray.size]; omega, hZ, HR1, ho⟩
  case round =>
    obtain ⟨n, q, s, rfl, rfl, hn3, hsz, HZ, HR, ho2⟩ := hrel
    by_cases hn : 0 < n
    · go_wp2_with fail
      refine (rdNext b q cv B _ HR.out).mono ?_
      rintro e w2 ⟨rfl, h2, ho3⟩
      have hd := nx_lt B q
      have H2 : Hid (RdAt w2 b cv B (px B q)) := h2
      clear h2
      obtain ⟨k, rfl⟩ : ∃ k, n = k + 1 := ⟨n - 1, by omega⟩
      have HY : Hid (repGo k B (px B q) x (s ++ (x ++ ⟨#[45]⟩ ++ words.getD (nx B q % 8) ⟨#[]⟩ ++ ⟨#[13, 10]⟩)) = Z) := HZ.out
      clear HZ
      generalize nx B q = d at *
      generalize px B q = q2 at *
      obtain ⟨m, hm0, hm, hm8⟩ : ∃ m : Nat, d % 8 = m ∧ (d : Int) % 8 = (m : Int) ∧ m < 8 := ⟨d % 8, rfl, by omega, by omega⟩
      rw [hm0] at HY
      have hy := getD_le (L := words) (n := 12) (by decide) m
      obtain ⟨y, hye, ey⟩ := pickE words m hm8
      rw [← hye] at HY hy
      simp only [words, List.map_cons, List.map_nil] at ey
      clear hye
      go_wp2_with fail
      clear ey
      generalize hW : w2.alloc _ = W2
      have hb2 : Below w2.heap.size w2 W2 := by rw [← hW]; exact below1 _ _
      have HR2 : Hid (RdAt W2 b cv B q2) := H2.out.below hb2 (Nat.le_refl _)
      have ho4 : Off b w W2 := (ho2.trans ho3).trans (Off.of_below hb2)
      clear hW hb2 H2 ho3 ho2
      go_wp2
      go_roundw
      case rel =>
        refine ⟨k, q2, _, rfl, by go_num, by omega, ?_, HY, HR2, ho4⟩
        simp only [ByteArray.size_append]
        have e1 : (⟨#[45]⟩ : ByteArray).size = 1 := rfl
        have e2 : (⟨#[13, 10]⟩ : ByteArray).size = 2 := rfl
        omega
      case measure => simp [intOf]
    · obtain rfl : n = 0 := by omega
      obtain rfl : Z = (s, q) := HZ.out.symm
      go_wp2_with fail
      refine (rdNext b q cv B _ HR.out).mono ?_
      rintro e w2 ⟨rfl, h2, ho3⟩
      have hd := nx_lt B q
      have H2 : Hid (RdAt w2 b cv B (px B q)) := h2
      clear h2
      have HW : Hid (repF B p = (s ++ x ++ ends.getD (nx B q % 5) ⟨#[]⟩ ++ ⟨#[13, 10]⟩, px B q)) := HX.out
      clear HX
      generalize nx B q = d at *
      generalize px B q = q2 at *
      obtain ⟨m, hm0, hm, hm8⟩ : ∃ m : Nat, d % 5 = m ∧ (d : Int) % 5 = (m : Int) ∧ m < 5 := ⟨d % 5, rfl, by omega, by omega⟩
      have hy := getD_le (L := ends) (n := 18) (by decide) m
      obtain ⟨y, hye, ey⟩ := pickE ends m hm8
      rw [hm0, ← hye] at HW
      rw [← hye] at hy
      simp only [ends, List.map_cons, List.map_nil] at ey
      clear hye hm0
      go_wp2
      go_ret
      rw [HW.out]
      exact ⟨rfl, H2.out.below (below1 _ _) (Nat.le_refl _), (ho2.trans ho3).trans (Off.of_below (below1 _ _))⟩
end Go.Proofs.YtngcjlghjidnjaaGreatDoor
namespace Go.Proofs.YtngcjlghjidnjaaGreatDoor
open Go.ChangeShapes Go.WideShapes Go.ChangeAt Go.RowKit

/-- a block that holds X, free to be written to -/
structure Blk (b : Nat) (X : Array Value) (w : World) : Prop where
  lt : b < w.heap.size
  cell : ∀ i, w.cell? ⟨b, i, none⟩ = X[i]?
  free : ∀ o, w.frozen? ⟨b, o, none⟩ = false
theorem Blk.below {b : Nat} {X : Array Value} {w w1 : World} (h : Blk b X w) (hb : Below w.heap.size w w1) : Blk b X w1 :=
  ⟨Nat.lt_of_lt_of_le h.lt hb.size, fun i => (hb.cell (p := ⟨b, i, none⟩) h.lt).trans (h.cell i), fun o => (hb.frozen (p := ⟨b, o, none⟩) h.lt).trans (h.free o)⟩
theorem Blk.other {b k i : Nat} {X : Array Value} {w : World} {v : Value} (h : Blk b X w) (hne : b ≠ k) : Blk b X (w.setCell ⟨k, i, none⟩ v) :=
  ⟨by simpa using h.lt, fun j => (World.cell?_setCell_other _ _ _ _ (by intro e; injection e with e; exact hne e.symm)).trans (h.cell j), fun o => by rw [World.frozen?_setCell]; exact h.free o⟩
theorem Blk.set {b i : Nat} {X : Array Value} {w : World} {v : Value} (h : Blk b X w) (hi : i < X.size) : Blk b (X.set i v hi) (w.setCell ⟨b, i, none⟩ v) := by
  refine ⟨by simpa using h.lt, fun j => ?_, fun o => by rw [World.frozen?_setCell]; exact h.free o⟩
  by_cases e : j = i
  · subst e
    rw [World.cell?_setCell_same _ _ _ (u := X[j]) ((h.cell j).trans (Array.getElem?_eq_getElem hi))]
    simp
  · rw [World.cell?_setCell_other _ _ _ _ (by intro e2; injection e2 with _ e2; exact e e2.symm), h.cell j, Array.getElem?_set_ne _ (fun e2 => e e2.symm)]
theorem Blk.new (w : World) (X : Array Value) (T : TypeId) : Blk w.heap.size X (w.alloc (.cells X T)) := ⟨by simp, fun i => World.cell?_alloc_mark _ _ _ _ _, fun o => World.frozen?_alloc_at _ _ _ _ rfl⟩

end Go.Proofs.YtngcjlghjidnjaaGreatDoor
