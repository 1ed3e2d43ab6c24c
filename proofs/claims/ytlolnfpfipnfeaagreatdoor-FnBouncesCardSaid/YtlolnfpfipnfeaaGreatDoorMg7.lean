import Derived.Test.YtlolnfpfipnfeaaGreatDoorMg5
import Derived.Test.YtlolnfpfipnfeaaGreatDoorMg6
namespace Go.Proofs.YtlolnfpfipnfeaaGreatDoor
open Go.ChangeShapes Go.WideShapes Go.ChangeAt Go.RowKit

def doms : List ByteArray := [⟨#[111, 110, 101, 46, 101, 120, 97, 109, 112, 108, 101]⟩, ⟨#[116, 119, 111, 46, 101, 120, 97, 109, 112, 108, 101]⟩, ⟨#[116, 104, 114, 101, 101, 46, 101, 120, 97, 109, 112, 108, 101]⟩, ⟨#[109, 120, 46, 111, 110, 101, 46, 101, 120, 97, 109, 112, 108, 101]⟩, ⟨#[97, 46, 98]⟩]
theorem dec_small {n : Nat} (h : n < 1000) : (⟨(Lib.decDigits n).toArray⟩ : ByteArray).size ≤ 3 := by
  have := dec_len 3 n h (by decide)
  simpa [ByteArray.size] using this

set_option maxHeartbeats 1000000 in
set_option maxRecDepth 100000 in
theorem rdDom (b p : Nat) (cv : Value) (B : List UInt8) (w : World) (h : RdAt w b cv B p) :
    Calls Tryz.prog 26 #[.pointer (some ⟨b, 0, none⟩)] w fun e w' => (∃ (t : ByteArray) (q : Nat), t.size ≤ 200 ∧ e = .returned (.string t) ∧ RdAt w' b cv B q) ∧ Off b w w' := by
  have H : Hid (RdAt w b cv B p) := h
  clear h
  go_enter Tryz.func26, Tryz.ntmps26
  go_wp2_with fail
  refine (rdNext b p cv B _ H.out).mono ?_
  rintro e w1 ⟨rfl, h1, ho1⟩
  have hc := nx_lt B p
  have H1 : Hid (RdAt w1 b cv B (px B p)) := h1
  clear h1
  generalize nx B p = c at *
  generalize px B p = q1 at *
  by_cases c255 : c = 255
  · subst c255
    go_wp2_with fail
    refine (fill 63 _ (by decide)).mono ?_
    rintro e w2 ⟨rfl, hb2⟩
    have hs2 := fill_size 63
    generalize ofInts (fillL 63) = F1 at *
    go_wp2_with fail
    refine (fill 36 _ (by decide)).mono ?_
    rintro e w3 ⟨rfl, hb3⟩
    have hs3 := fill_size 36
    generalize ofInts (fillL 36) = F2 at *
    have hb13 : Below w1.heap.size w1 w3 := hb2.trans (hb3.mono hb2.size)
    have e46 : (⟨#[46]⟩ : ByteArray).size = 1 := rfl
    go_wp2
    go_ret
    refine ⟨⟨_, q1, ?_, rfl, H1.out.below hb13 (Nat.le_refl _)⟩, ho1.trans (Off.of_below hb13)⟩
    simp only [ByteArray.size_append]
    omega
  · have c255b : ((c : Int) == 255) = false := beq_eq_false_iff_ne.2 (by omega)
    by_cases c254 : c = 254
    · subst c254
      go_wp2_with fail
      refine (rdNext b q1 cv B _ H1.out).mono ?_
      rintro e w2 ⟨rfl, h2, ho2⟩
      have hd := nx_lt B q1
      have H2 : Hid (RdAt w2 b cv B (px B q1)) := h2
      clear h2
      generalize nx B q1 = d at *
      go_wp2_with fail
      refine (specDec d d (Nat.le_refl _) (by omega) _).mono ?_
      rintro e w3 ⟨rfl, hb3⟩
      have hs3 := dec_small (n := d) (by omega)
      generalize (⟨(Lib.decDigits d).toArray⟩ : ByteArray) = F2 at *
      have e7 : (⟨#[97, 45, 98, 46, 57, 46, 120]⟩ : ByteArray).size = 7 := rfl
      go_wp2
      go_ret
      refine ⟨⟨_, px B q1, ?_, rfl, H2.out.below hb3 (Nat.le_refl _)⟩, (ho1.trans ho2).trans (Off.of_below hb3)⟩
      simp only [ByteArray.size_append]
      omega
    · have c254b : ((c : Int) == 254) = false := beq_eq_false_iff_ne.2 (by omega)
      obtain ⟨m, hm, hm8⟩ : ∃ m : Nat, (c : Int) % 5 = (m : Int) ∧ m < 5 := ⟨c % 5, by omega, by omega⟩
      obtain ⟨y, hy, ey⟩ := pickV doms 14 (by decide) m hm8
      simp only [doms, List.map_cons, List.map_nil] at ey
      go_wp2
      go_ret
      exact ⟨⟨_, q1, by omega, rfl, H1.out.below (below1 _ _) (Nat.le_refl _)⟩, ho1.trans (Off.of_below (below1 _ _))⟩
end Go.Proofs.YtlolnfpfipnfeaaGreatDoor
namespace Go.Proofs.YtlolnfpfipnfeaaGreatDoor
open Go.ChangeShapes Go.WideShapes Go.ChangeAt Go.RowKit

theorem pickE (L : List ByteArray) (k : Nat) (hk : k < L.length) : ∃ y : ByteArray, y = L.getD k ⟨#[]⟩ ∧ ∀ h, (L.map Value.string)[k]'h = .string y :=
  ⟨_, rfl, fun h => by simp [hk]⟩
theorem getD_le {L : List ByteArray} {n : Nat} (h : ∀ x ∈ L, x.size ≤ n) (k : Nat) : (L.getD k ⟨#[]⟩).size ≤ n := by
  rw [List.getD_eq_getElem?_getD]
  cases e : L[k]? with
  | none => exact Nat.zero_le _
  | some x => exact h x (List.mem_of_getElem? e)
/-- a drawn domain -/
def domF (B : List UInt8) (p : Nat) : ByteArray × Nat :=
  if nx B p = 255 then (ofInts (fillL 63) ++ ⟨#[46]⟩ ++ ofInts (fillL 36), px B p)
  else if nx B p = 254 then (⟨#[97, 45, 98, 46, 57, 46, 120]⟩ ++ ⟨(Lib.decDigits (nx B (px B p))).toArray⟩, px B (px B p))
  else (doms.getD (nx B p % 5) ⟨#[]⟩, px B p)
theorem domF_255 {B : List UInt8} {p q : Nat} (h : nx B p = 255) (hq : px B p = q) : domF B p = (ofInts (fillL 63) ++ ⟨#[46]⟩ ++ ofInts (fillL 36), q) := by unfold domF; rw [if_pos h, hq]
theorem domF_254 {B : List UInt8} {p q : Nat} (h : nx B p = 254) (hq : px B p = q) : domF B p = (⟨#[97, 45, 98, 46, 57, 46, 120]⟩ ++ ⟨(Lib.decDigits (nx B q)).toArray⟩, px B q) := by unfold domF; rw [if_neg (by omega), if_pos h, hq]
theorem domF_no {B : List UInt8} {p q c : Nat} (h : nx B p = c) (h1 : c ≠ 255) (h2 : c ≠ 254) (hq : px B p = q) : domF B p = (doms.getD (c % 5) ⟨#[]⟩, q) := by unfold domF; rw [if_neg (by omega), if_neg (by omega), hq, h]
theorem domF_size (B : List UInt8) (p : Nat) : (domF B p).1.size ≤ 200 := by
  unfold domF
  split
  · simp only [ByteArray.size_append, fill_size]; decide
  · split
    · have := dec_small (n := nx B (px B p)) (by have := nx_lt B (px B p); omega)
      have e7 : (⟨#[97, 45, 98, 46, 57, 46, 120]⟩ : ByteArray).size = 7 := rfl
      simp only [ByteArray.size_append]; omega
    · exact Nat.le_trans (getD_le (n := 14) (by decide) _) (by decide)
set_option maxHeartbeats 1000000 in
set_option maxRecDepth 100000 in
theorem rdDomX (b p : Nat) (cv : Value) (B : List UInt8) (w : World) (h : RdAt w b cv B p) :
    Calls Tryz.prog 26 #[.pointer (some ⟨b, 0, none⟩)] w fun e w' => e = .returned (.string (domF B p).1) ∧ RdAt w' b cv B (domF B p).2 ∧ Off b w w' := by
  have H : Hid (RdAt w b cv B p) := h
  clear h
  go_enter Tryz.func26, Tryz.ntmps26
  go_wp2_with fail
  refine (rdNext b p cv B _ H.out).mono ?_
  rintro e w1 ⟨rfl, h1, ho1⟩
  have hc := nx_lt B p
  have H1 : Hid (RdAt w1 b cv B (px B p)) := h1
  clear h1
  generalize hcE : nx B p = c at hc ⊢
  generalize hqE : px B p = q1 at H1
  have HC : Hid (nx B p = c) := hcE
  have HP : Hid (px B p = q1) := hqE
  clear hcE hqE
  by_cases c255 : c = 255
  · subst c255
    go_wp2_with fail
    refine (fill 63 _ (by decide)).mono ?_
    rintro e w2 ⟨rfl, hb2⟩
    generalize hF1 : ofInts (fillL 63) = F1
    have hs2 : F1.size = 63 := by rw [← hF1]; exact fill_size 63
    go_wp2_with fail
    refine (fill 36 _ (by decide)).mono ?_
    rintro e w3 ⟨rfl, hb3⟩
    generalize hF2 : ofInts (fillL 36) = F2
    have hs3 : F2.size = 36 := by rw [← hF2]; exact fill_size 36
    have hb13 : Below w1.heap.size w1 w3 := hb2.trans (hb3.mono hb2.size)
    have e46 : (⟨#[46]⟩ : ByteArray).size = 1 := rfl
    go_wp2
    go_ret
    rw [domF_255 HC.out HP.out, hF1, hF2]
    exact ⟨rfl, H1.out.below hb13 (Nat.le_refl _), ho1.trans (Off.of_below hb13)⟩
  · have c255b : ((c : Int) == 255) = false := beq_eq_false_iff_ne.2 (by omega)
    by_cases c254 : c = 254
    · subst c254
      go_wp2_with fail
      refine (rdNext b q1 cv B _ H1.out).mono ?_
      rintro e w2 ⟨rfl, h2, ho2⟩
      have hd := nx_lt B q1
      have H2 : Hid (RdAt w2 b cv B (px B q1)) := h2
      clear h2
      generalize hdE : nx B q1 = d at hd ⊢
      have HD : Hid (nx B q1 = d) := hdE
      clear hdE
      go_wp2_with fail
      refine (specDec d d (Nat.le_refl _) (by omega) _).mono ?_
      rintro e w3 ⟨rfl, hb3⟩
      have hs3 := dec_small (n := d) (by omega)
      generalize hF2 : (⟨(Lib.decDigits d).toArray⟩ : ByteArray) = F2 at hs3 ⊢
      have HF2 : Hid ((⟨(Lib.decDigits d).toArray⟩ : ByteArray) = F2) := hF2
      clear hF2
      have e7 : (⟨#[97, 45, 98, 46, 57, 46, 120]⟩ : ByteArray).size = 7 := rfl
      go_wp2
      go_ret
      rw [domF_254 HC.out HP.out, HD.out, HF2.out]
      exact ⟨rfl, H2.out.below hb3 (Nat.le_refl _), (ho1.trans ho2).trans (Off.of_below hb3)⟩
    · have c254b : ((c : Int) == 254) = false := beq_eq_false_iff_ne.2 (by omega)
      obtain ⟨m, hm0, hm, hm8⟩ : ∃ m : Nat, c % 5 = m ∧ (c : Int) % 5 = (m : Int) ∧ m < 5 := ⟨c % 5, rfl, by omega, by omega⟩
      have HE := domF_no HC.out c255 c254 HP.out
      rw [hm0] at HE
      obtain ⟨y, hy, ey⟩ := pickE doms m hm8
      rw [← hy] at HE
      have HE2 : Hid _ := HE
      simp only [doms, List.map_cons, List.map_nil] at ey
      clear hy HE hm0
      go_wp2
      go_ret
      rw [HE2.out]
      exact ⟨rfl, H1.out.below (below1 _ _) (Nat.le_refl _), ho1.trans (Off.of_below (below1 _ _))⟩

def locals : List ByteArray := [⟨#[97, 110, 110]⟩, ⟨#[98, 111, 98]⟩, ⟨#[99, 46, 100]⟩, ⟨#[101, 43, 102]⟩, ⟨#[103, 95, 45, 104]⟩, ⟨#[122, 57]⟩]
/-- a drawn address -/
def addrF (B : List UInt8) (p : Nat) : ByteArray × Nat :=
  ((if 250 ≤ nx B p then ofInts (fillL 64) else locals.getD (nx B p % 6) ⟨#[]⟩) ++ ⟨#[64]⟩ ++ (domF B (px B p)).1, (domF B (px B p)).2)
theorem addrF_big {B : List UInt8} {p q c : Nat} {D : ByteArray × Nat} (h : nx B p = c) (hc : 250 ≤ c) (hq : px B p = q) (hD : domF B q = D) : addrF B p = (ofInts (fillL 64) ++ ⟨#[64]⟩ ++ D.1, D.2) := by unfold addrF; rw [hq, hD, if_pos (by omega)]
theorem addrF_low {B : List UInt8} {p q c : Nat} {D : ByteArray × Nat} (h : nx B p = c) (hc : ¬ 250 ≤ c) (hq : px B p = q) (hD : domF B q = D) : addrF B p = (locals.getD (c % 6) ⟨#[]⟩ ++ ⟨#[64]⟩ ++ D.1, D.2) := by unfold addrF; rw [hq, hD, if_neg (by omega), h]
theorem addrF_size (B : List UInt8) (p : Nat) : (addrF B p).1.size ≤ 300 := by
  unfold addrF
  have h1 := domF_size B (px B p)
  have e : (⟨#[64]⟩ : ByteArray).size = 1 := rfl
  have h2 : (if 250 ≤ nx B p then ofInts (fillL 64) else locals.getD (nx B p % 6) ⟨#[]⟩).size ≤ 64 := by
    split
    · rw [fill_size]; exact Nat.le_refl _
    · exact Nat.le_trans (getD_le (n := 4) (by decide) _) (by decide)
  simp only [ByteArray.size_append]
  omega
set_option maxHeartbeats 1000000 in
set_option maxRecDepth 100000 in
theorem rdAddrX (b p : Nat) (cv : Value) (B : List UInt8) (w : World) (h : RdAt w b cv B p) :
    Calls Tryz.prog 27 #[.pointer (some ⟨b, 0, none⟩)] w fun e w' => e = .returned (.string (addrF B p).1) ∧ RdAt w' b cv B (addrF B p).2 ∧ Off b w w' := by
  have H : Hid (RdAt w b cv B p) := h
  clear h
  go_enter Tryz.func27, Tryz.ntmps27
  go_wp2_with fail
  refine (rdNext b p cv B _ H.out).mono ?_
  rintro e w1 ⟨rfl, h1, ho1⟩
  have hc := nx_lt B p
  have H1 : Hid (RdAt w1 b cv B (px B p)) := h1
  clear h1
  generalize hcE : nx B p = c at hc ⊢
  generalize hqE : px B p = q1 at H1
  have HC : Hid (nx B p = c) := hcE
  have HP : Hid (px B p = q1) := hqE
  clear hcE hqE
  have hds := domF_size B q1
  have HD : Hid (∀ wx, RdAt wx b cv B q1 → Calls Tryz.prog 26 #[.pointer (some ⟨b, 0, none⟩)] wx fun e w' => e = .returned (.string (domF B q1).1) ∧ RdAt w' b cv B (domF B q1).2 ∧ Off b wx w') := fun wx hx => rdDomX b q1 cv B wx hx
  generalize hDE : domF B q1 = D at hds HD
  have HDE : Hid (domF B q1 = D) := hDE
  clear hDE
  obtain ⟨m, hm0, hm, hm8⟩ : ∃ m : Nat, c % 6 = m ∧ (c : Int) % 6 = (m : Int) ∧ m < 6 := ⟨c % 6, rfl, by omega, by omega⟩
  have hys := getD_le (L := locals) (n := 4) (by decide) m
  obtain ⟨y, hy, ey⟩ := pickE locals m hm8
  rw [← hy] at hys
  have HY : Hid (y = locals.getD (c % 6) ⟨#[]⟩) := by rw [hm0]; exact hy
  simp only [locals, List.map_cons, List.map_nil] at ey
  clear hy hm0
  have e64 : (⟨#[64]⟩ : ByteArray).size = 1 := rfl
  by_cases c250 : 250 ≤ c
  · have c250i : (250 : Int) ≤ c := by omega
    go_wp2_with fail
    clear ey
    generalize hW : w1.alloc _ = W1
    have hb1 : Below w1.heap.size w1 W1 := by rw [← hW]; exact below1 _ _
    refine (fill 64 _ (by decide)).mono ?_
    rintro e w2 ⟨rfl, hb2⟩
    generalize hF1 : ofInts (fillL 64) = F1
    have hs2 : F1.size = 64 := by rw [← hF1]; exact fill_size 64
    have hb12 : Below w1.heap.size w1 w2 := hb1.trans (hb2.mono hb1.size)
    have H2 : Hid (RdAt w2 b cv B q1) := H1.out.below hb12 (Nat.le_refl _)
    have ho2 : Off b w w2 := ho1.trans (Off.of_below hb12)
    clear hW hb1 hb2 hb12 H1 ho1
    go_wp2_with fail
    refine (HD.out _ H2.out).mono ?_
    rintro e w3 ⟨rfl, h3, ho3⟩
    go_wp2
    go_ret
    rw [addrF_big HC.out c250 HP.out HDE.out, hF1]
    exact ⟨rfl, h3, ho2.trans ho3⟩
  · have c250i : ¬ (250 : Int) ≤ c := by omega
    go_wp2_with fail
    clear ey
    generalize hW : w1.alloc _ = W1
    have hb1 : Below w1.heap.size w1 W1 := by rw [← hW]; exact below1 _ _
    have H2 : Hid (RdAt W1 b cv B q1) := H1.out.below hb1 (Nat.le_refl _)
    have ho2 : Off b w W1 := ho1.trans (Off.of_below hb1)
    clear hW hb1 H1 ho1
    refine (HD.out _ H2.out).mono ?_
    rintro e w3 ⟨rfl, h3, ho3⟩
    go_wp2
    go_ret
    rw [addrF_low HC.out c250 HP.out HDE.out, ← HY.out]
    exact ⟨rfl, h3, ho2.trans ho3⟩

end Go.Proofs.YtlolnfpfipnfeaaGreatDoor
