import Derived.Test.YtngcjlghjidnjaaGreatDoorMg43
import Derived.Test.YtngcjlghjidnjaaGreatDoorMg44
import Derived.Test.YtngcjlghjidnjaaGreatDoorMg23
import Derived.Deep.RegionWith
namespace Go.Proofs.YtngcjlghjidnjaaGreatDoor
open Go.ChangeShapes Go.WideShapes Go.ChangeAt Go.RowKit

theorem pickE (L : List ByteArray) (k : Nat) (hk : k < L.length) : ∃ y : ByteArray, y = L.getD k ⟨#[]⟩ ∧ ∀ h, (L.map Value.string)[k]'h = .string y :=
  ⟨_, rfl, fun h => by simp [hk]⟩
theorem getD_le {L : List ByteArray} {n : Nat} (h : ∀ x ∈ L, x.size ≤ n) (k : Nat) : (L.getD k ⟨#[]⟩).size ≤ n := by
  rw [List.getD_eq_getElem?_getD]
  cases e : L[k]? with
  | none => exact Nat.zero_le _
  | some x => exact h x (List.mem_of_getElem? e)
/-- a drawn domain -/
def domF (B : List UInt8) (p : Nat) : ByteArray × Nat :=
  if nx B p = 255 then (ofInts (fillL 63) ++ ⟨#[46]⟩ ++ ofInts (fillL 36), px B p)
  else if nx B p = 254 then (⟨#[97, 45, 98, 46, 57, 46, 120]⟩ ++ ⟨(Lib.decDigits (nx B (px B p))).toArray⟩, px B (px B p))
  else (doms.getD (nx B p % 5) ⟨#[]⟩, px B p)
theorem domF_255 {B : List UInt8} {p q : Nat} (h : nx B p = 255) (hq : px B p = q) : domF B p = (ofInts (fillL 63) ++ ⟨#[46]⟩ ++ ofInts (fillL 36), q) := by unfold domF; rw [if_pos h, hq]
theorem domF_254 {B : List UInt8} {p q : Nat} (h : nx B p = 254) (hq : px B p = q) : domF B p = (⟨#[97, 45, 98, 46, 57, 46, 120]⟩ ++ ⟨(Lib.decDigits (nx B q)).toArray⟩, px B q) := by unfold domF; rw [if_neg (by omega), if_pos h, hq]
theorem domF_no {B : List UInt8} {p q c : Nat} (h : nx B p = c) (h1 : c ≠ 255) (h2 : c ≠ 254) (hq : px B p = q) : domF B p = (doms.getD (c % 5) ⟨#[]⟩, q) := by unfold domF; rw [if_neg (by omega), if_neg (by omega), hq, h]
theorem domF_size (B : List UInt8) (p : Nat) : (domF B p).1.size ≤ 200 := by
  unfold domF
  split
  · simp only [ByteArray.size_append, fill_size]; decide
  · split
    · have := dec_small (n := nx B (px B p)) (by have := nx_lt B (px B p); omega)
      have e7 : (⟨#[97, 45, 98, 46, 57, 46, 120]⟩ : ByteArray).size = 7 := rfl
      simp only [ByteArray.size_append]; omega
    · exact Nat.le_trans (getD_le (n := 14) (by decide) _) (by decide)
set_option maxHeartbeats 1000000 in
set_option maxRecDepth 100000 in
theorem rdDomX (b p : Nat) (cv : Value) (B : List UInt8) (w : World) (h : RdAt w b cv B p) :
    Calls Tryz.prog 25 #[.pointer (some ⟨b, 0, none⟩)] w fun e w' => e = .returned (.string (domF B p).1) ∧ RdAt w' b cv B (domF B p).2 ∧ Off b w w' := by
  have H : Hid (RdAt w b cv B p) := h
  clear h
  go_enter Tryz.func25, Tryz.ntmps25
  go_wp2_with fail
  refine (rdNext b p cv B _ H.out).mono ?_
  rintro e w1 ⟨rfl, h1, ho1⟩
  have hc := nx_lt B p
  have H1 : Hid (RdAt w1 b cv B (px B p)) := h1
  clear h1
  generalize hcE : nx B p = c at hc ⊢
  generalize hqE : px B p = q1 at H1
  have HC : Hid (nx B p = c) := hcE
  have HP : Hid (px B p = q1) := hqE
  clear hcE hqE
  by_cases c255 : c = 255
  · subst c255
    go_wp2_with fail
    refine (fill 63 _ (by decide)).mono ?_
    rintro e w2 ⟨rfl, hb2⟩
    generalize hF1 : ofInts (fillL 63) = F1
    have hs2 : F1.size = 63 := by rw [← hF1]; exact fill_size 63
    go_wp2_with fail
    refine (fill 36 _ (by decide)).mono ?_
    rintro e w3 ⟨rfl, hb3⟩
    generalize hF2 : ofInts (fillL 36) = F2
    have hs3 : F2.size = 36 := by rw [← hF2]; exact fill_size 36
    have hb13 : Below w1.heap.size w1 w3 := hb2.trans (hb3.mono hb2.size)
    have e46 : (⟨#[46]⟩ : ByteArray).size = 1 := rfl
    go_wp2
    go_ret
    rw [domF_255 HC.out HP.out, hF1, hF2]
    exact ⟨rfl, H1.out.below hb13 (Nat.le_refl _), ho1.trans (Off.of_below hb13)⟩
  · have c255b : ((c : Int) == 255) = false := beq_eq_false_iff_ne.2 (by omega)
    by_cases c254 : c = 254
    · subst c254
      go_wp2_with fail
      refine (rdNext b q1 cv B _ H1.out).mono ?_
      rintro e w2 ⟨rfl, h2, ho2⟩
      have hd := nx_lt B q1
      have H2 : Hid (RdAt w2 b cv B (px B q1)) := h2
      clear h2
      generalize hdE : nx B q1 = d at hd ⊢
      have HD : Hid (nx B q1 = d) := hdE
      clear hdE
      go_wp2_with fail
      refine (specDec d d (Nat.le_refl _) (by omega) _).mono ?_
      rintro e w3 ⟨rfl, hb3⟩
      have hs3 := dec_small (n := d) (by omega)
      generalize hF2 : (⟨(Lib.decDigits d).toArray⟩ : ByteArray) = F2 at hs3 ⊢
      have HF2 : Hid ((⟨(Lib.decDigits d).toArray⟩ : ByteArray) = F2) := hF2
      clear hF2
      have e7 : (⟨#[97, 45, 98, 46, 57, 46, 120]⟩ : ByteArray).size = 7 := rfl
      go_wp2
      go_ret
      rw [domF_254 HC.out HP.out, HD.out, HF2.out]
      exact ⟨rfl, H2.out.below hb3 (Nat.le_refl _), (ho1.trans ho2).trans (Off.of_below hb3)⟩
    · have c254b : ((c : Int) == 254) = false := beq_eq_false_iff_ne.2 (by omega)
      obtain ⟨m, hm0, hm, hm8⟩ : ∃ m : Nat, c % 5 = m ∧ (c : Int) % 5 = (m : Int) ∧ m < 5 := ⟨c % 5, rfl, by omega, by omega⟩
      have HE := domF_no HC.out c255 c254 HP.out
      rw [hm0] at HE
      obtain ⟨y, hy, ey⟩ := pickE doms m hm8
      rw [← hy] at HE
      have HE2 : Hid _ := HE
      simp only [doms, List.map_cons, List.map_nil] at ey
      clear hy HE hm0
      go_wp2
      go_ret
      rw [HE2.out]
      exact ⟨rfl, H1.out.below (below1 _ _) (Nat.le_refl _), ho1.trans (Off.of_below (below1 _ _))⟩

def locals : List ByteArray := [⟨#[97, 110, 110]⟩, ⟨#[98, 111, 98]⟩, ⟨#[99, 46, 100]⟩, ⟨#[101, 43, 102]⟩, ⟨#[103, 95, 45, 104]⟩, ⟨#[122, 57]⟩]
/-- a drawn address -/
def addrF (B : List UInt8) (p : Nat) : ByteArray × Nat :=
  ((if 250 ≤ nx B p then ofInts (fillL 64) else locals.getD (nx B p % 6) ⟨#[]⟩) ++ ⟨#[64]⟩ ++ (domF B (px B p)).1, (domF B (px B p)).2)
theorem addrF_big {B : List UInt8} {p q c : Nat} {D : ByteArray × Nat} (h : nx B p = c) (hc : 250 ≤ c) (hq : px B p = q) (hD : domF B q = D) : addrF B p = (ofInts (fillL 64) ++ ⟨#[64]⟩ ++ D.1, D.2) := by unfold addrF; rw [hq, hD, if_pos (by omega)]
theorem addrF_low {B : List UInt8} {p q c : Nat} {D : ByteArray × Nat} (h : nx B p = c) (hc : ¬ 250 ≤ c) (hq : px B p = q) (hD : domF B q = D) : addrF B p = (locals.getD (c % 6) ⟨#[]⟩ ++ ⟨#[64]⟩ ++ D.1, D.2) := by unfold addrF; rw [hq, hD, if_neg (by omega), h]
theorem addrF_size (B : List UInt8) (p : Nat) : (addrF B p).1.size ≤ 300 := by
  unfold addrF
  have h1 := domF_size B (px B p)
  have e : (⟨#[64]⟩ : ByteArray).size = 1 := rfl
  have h2 : (if 250 ≤ nx B p then ofInts (fillL 64) else locals.getD (nx B p % 6) ⟨#[]⟩).size ≤ 64 := by
    split
    · rw [fill_size]; exact Nat.le_refl _
    · exact Nat.le_trans (getD_le (n := 4) (by decide) _) (by decide)
  simp only [ByteArray.size_append]
  omega
set_option maxHeartbeats 1000000 in
set_option maxRecDepth 100000 in
theorem rdAddrX (b p : Nat) (cv : Value) (B : List UInt8) (w : World) (h : RdAt w b cv B p) :
    Calls Tryz.prog 74 #[.pointer (some ⟨b, 0, none⟩)] w fun e w' => e = .returned (.string (addrF B p).1) ∧ RdAt w' b cv B (addrF B p).2 ∧ Off b w w' := by
  have H : Hid (RdAt w b cv B p) := h
  clear h
  go_enter Tryz.func74, Tryz.ntmps74
  go_wp2_with fail
  refine (rdNext b p cv B _ H.out).mono ?_
  rintro e w1 ⟨rfl, h1, ho1⟩
  have hc := nx_lt B p
  have H1 : Hid (RdAt w1 b cv B (px B p)) := h1
  clear h1
  generalize hcE : nx B p = c at hc ⊢
  generalize hqE : px B p = q1 at H1
  have HC : Hid (nx B p = c) := hcE
  have HP : Hid (px B p = q1) := hqE
  clear hcE hqE
  have hds := domF_size B q1
  have HD : Hid (∀ wx, RdAt wx b cv B q1 → Calls Tryz.prog 25 #[.pointer (some ⟨b, 0, none⟩)] wx fun e w' => e = .returned (.string (domF B q1).1) ∧ RdAt w' b cv B (domF B q1).2 ∧ Off b wx w') := fun wx hx => rdDomX b q1 cv B wx hx
  generalize hDE : domF B q1 = D at hds HD
  have HDE : Hid (domF B q1 = D) := hDE
  clear hDE
  obtain ⟨m, hm0, hm, hm8⟩ : ∃ m : Nat, c % 6 = m ∧ (c : Int) % 6 = (m : Int) ∧ m < 6 := ⟨c % 6, rfl, by omega, by omega⟩
  have hys := getD_le (L := locals) (n := 4) (by decide) m
  obtain ⟨y, hy, ey⟩ := pickE locals m hm8
  rw [← hy] at hys
  have HY : Hid (y = locals.getD (c % 6) ⟨#[]⟩) := by rw [hm0]; exact hy
  simp only [locals, List.map_cons, List.map_nil] at ey
  clear hy hm0
  have e64 : (⟨#[64]⟩ : ByteArray).size = 1 := rfl
  by_cases c250 : 250 ≤ c
  · have c250i : (250 : Int) ≤ c := by omega
    go_wp2_with fail
    clear ey
    generalize hW : w1.alloc _ = W1
    have hb1 : Below w1.heap.size w1 W1 := by rw [← hW]; exact below1 _ _
    refine (fill 64 _ (by decide)).mono ?_
    rintro e w2 ⟨rfl, hb2⟩
    generalize hF1 : ofInts (fillL 64) = F1
    have hs2 : F1.size = 64 := by rw [← hF1]; exact fill_size 64
    have hb12 : Below w1.heap.size w1 w2 := hb1.trans (hb2.mono hb1.size)
    have H2 : Hid (RdAt w2 b cv B q1) := H1.out.below hb12 (Nat.le_refl _)
    have ho2 : Off b w w2 := ho1.trans (Off.of_below hb12)
    clear hW hb1 hb2 hb12 H1 ho1
    go_wp2_with fail
    refine (HD.out _ H2.out).mono ?_
    rintro e w3 ⟨rfl, h3, ho3⟩
    go_wp2
    go_ret
    rw [addrF_big HC.out c250 HP.out HDE.out, hF1]
    exact ⟨rfl, h3, ho2.trans ho3⟩
  · have c250i : ¬ (250 : Int) ≤ c := by omega
    go_wp2_with fail
    clear ey
    generalize hW : w1.alloc _ = W1
    have hb1 : Below w1.heap.size w1 W1 := by rw [← hW]; exact below1 _ _
    have H2 : Hid (RdAt W1 b cv B q1) := H1.out.below hb1 (Nat.le_refl _)
    have ho2 : Off b w W1 := ho1.trans (Off.of_below hb1)
    clear hW hb1 H1 ho1
    refine (HD.out _ H2.out).mono ?_
    rintro e w3 ⟨rfl, h3, ho3⟩
    go_wp2
    go_ret
    rw [addrF_low HC.out c250 HP.out HDE.out, ← HY.out]
    exact ⟨rfl, h3, ho2.trans ho3⟩

/-- a drawn sender -/
def fromF (B : List UInt8) (p : Nat) : ByteArray × Nat := if nx B p % 6 = 5 then (⟨#[]⟩, px B p) else addrF B (px B p)
theorem fromF_size (B : List UInt8) (p : Nat) : (fromF B p).1.size ≤ 300 := by
  unfold fromF
  split
  · exact Nat.zero_le _
  · exact addrF_size _ _
set_option maxHeartbeats 1000000 in
set_option maxRecDepth 100000 in
theorem rdFromX (b p : Nat) (cv : Value) (B : List UInt8) (w : World) (h : RdAt w b cv B p) :
    Calls Tryz.prog 26 #[.pointer (some ⟨b, 0, none⟩)] w fun e w' => e = .returned (.string (fromF B p).1) ∧ RdAt w' b cv B (fromF B p).2 ∧ Off b w w' := by
  have H : Hid (RdAt w b cv B p) := h
  clear h
  go_enter Tryz.func26, Tryz.ntmps26
  go_wp2_with fail
  refine (rdNext b p cv B _ H.out).mono ?_
  rintro e w1 ⟨rfl, h1, ho1⟩
  have hc := nx_lt B p
  have H1 : Hid (RdAt w1 b cv B (px B p)) := h1
  clear h1
  generalize hcE : nx B p = c at hc ⊢
  generalize hqE : px B p = q1 at H1
  have HC : Hid (nx B p = c) := hcE
  have HP : Hid (px B p = q1) := hqE
  clear hcE hqE
  by_cases c5 : c % 6 = 5
  · have c5i : (c : Int) % 6 = 5 := by omega
    go_wp2
    go_ret
    have e : fromF B p = (⟨#[]⟩, q1) := by unfold fromF; rw [HC.out, HP.out, if_pos c5]
    rw [e]
    exact ⟨rfl, H1.out, ho1⟩
  · have c5i : ¬ (c : Int) % 6 = 5 := by omega
    go_wp2_with fail
    refine (rdAddrX b q1 cv B _ H1.out).mono ?_
    rintro e w3 ⟨rfl, h3, ho3⟩
    go_wp2
    go_ret
    have e : fromF B p = addrF B q1 := by unfold fromF; rw [HC.out, HP.out, if_neg c5]
    rw [e]
    exact ⟨rfl, h3, ho1.trans ho3⟩

/-- a drawn reply -/
def repGo : Nat → List UInt8 → Nat → ByteArray → ByteArray → ByteArray × Nat
  | 0, _, p, _, acc => (acc, p)
  | n + 1, B, p, x, acc => repGo n B (px B p) x (acc ++ (x ++ ⟨#[45]⟩ ++ words.getD (nx B p % 8) ⟨#[]⟩ ++ ⟨#[13, 10]⟩))
def repF (B : List UInt8) (p : Nat) : ByteArray × Nat :=
  ((repGo (nx B p / 8 % 4) B (px B p) (codes.getD (nx B p % 8) ⟨#[]⟩) ⟨#[]⟩).1 ++ codes.getD (nx B p % 8) ⟨#[]⟩ ++ ends.getD (nx B (repGo (nx B p / 8 % 4) B (px B p) (codes.getD (nx B p % 8) ⟨#[]⟩) ⟨#[]⟩).2 % 5) ⟨#[]⟩ ++ ⟨#[13, 10]⟩, px B (repGo (nx B p / 8 % 4) B (px B p) (codes.getD (nx B p % 8) ⟨#[]⟩) ⟨#[]⟩).2)
theorem repGo_size : ∀ (n : Nat) (B : List UInt8) (p : Nat) (x acc : ByteArray), x.size ≤ 3 → (repGo n B p x acc).1.size ≤ acc.size + n * 20
  | 0, _, _, _, _, _ => by simp [repGo]
  | n + 1, B, p, x, acc, h => by
    rw [repGo]
    have h1 := repGo_size n B (px B p) x (acc ++ (x ++ ⟨#[45]⟩ ++ words.getD (nx B p % 8) ⟨#[]⟩ ++ ⟨#[13, 10]⟩)) h
    have h2 := getD_le (L := words) (n := 12) (by decide) (nx B p % 8)
    have e1 : (⟨#[45]⟩ : ByteArray).size = 1 := rfl
    have e2 : (⟨#[13, 10]⟩ : ByteArray).size = 2 := rfl
    simp only [ByteArray.size_append] at h1
    omega
theorem repF_size (B : List UInt8) (p : Nat) : (repF B p).1.size ≤ 200 := by
  have h0 := getD_le (L := codes) (n := 3) (by decide) (nx B p % 8)
  unfold repF
  have h1 := repGo_size (nx B p / 8 % 4) B (px B p) (codes.getD (nx B p % 8) ⟨#[]⟩) ⟨#[]⟩ h0
  have e0 : (⟨#[]⟩ : ByteArray).size = 0 := rfl
  rw [e0] at h1
  generalize repGo (nx B p / 8 % 4) B (px B p) (codes.getD (nx B p % 8) ⟨#[]⟩) ⟨#[]⟩ = Z at *
  have h3 := getD_le (L := ends) (n := 18) (by decide) (nx B Z.2 % 5)
  have e2 : (⟨#[13, 10]⟩ : ByteArray).size = 2 := rfl
  simp only [ByteArray.size_append]
  have h4 : nx B p / 8 % 4 ≤ 3 := by omega
  omega
set_option maxHeartbeats 1000000 in
set_option maxRecDepth 100000 in
theorem rdReplyX (b p : Nat) (cv : Value) (B : List UInt8) (w : World) (h : RdAt w b cv B p) :
    Calls Tryz.prog 53 #[.pointer (some ⟨b, 0, none⟩)] w fun e w' => e = .returned (.string (repF B p).1) ∧ RdAt w' b cv B (repF B p).2 ∧ Off b w w' := by
  have H : Hid (RdAt w b cv B p) := h
  clear h
  go_enter Tryz.func53, Tryz.ntmps53
  go_wp2_with fail
  refine (rdNext b p cv B _ H.out).mono ?_
  rintro e w1 ⟨rfl, h1, ho1⟩
  have hc := nx_lt B p
  have H1 : Hid (RdAt w1 b cv B (px B p)) := h1
  clear h1
  generalize hcE : nx B p = c at hc ⊢
  generalize hqE : px B p = q1 at H1
  have HC : Hid (nx B p = c) := hcE
  have HP : Hid (px B p = q1) := hqE
  clear hcE hqE
  obtain ⟨m, hm0, hm, hm8⟩ : ∃ m : Nat, c % 8 = m ∧ (c : Int) % 8 = (m : Int) ∧ m < 8 := ⟨c % 8, rfl, by omega, by omega⟩
  have hx := getD_le (L := codes) (n := 3) (by decide) m
  obtain ⟨x, hxe, ex⟩ := pickE codes m hm8
  rw [← hxe] at hx
  simp only [codes, List.map_cons, List.map_nil] at ex
  have HX : Hid (repF B p = ((repGo (c / 8 % 4) B q1 x ⟨#[]⟩).1 ++ x ++ ends.getD (nx B (repGo (c / 8 % 4) B q1 x ⟨#[]⟩).2 % 5) ⟨#[]⟩ ++ ⟨#[13, 10]⟩, px B (repGo (c / 8 % 4) B q1 x ⟨#[]⟩).2)) := by show repF B p = _; unfold repF; rw [HC.out, HP.out, hm0, ← hxe]
  clear hxe hm0
  go_wp2_with fail
  clear ex
  generalize hW : w1.alloc _ = W1
  have hb1 : Below w1.heap.size w1 W1 := by rw [← hW]; exact below1 _ _
  have HR1 : Hid (RdAt W1 b cv B q1) := H1.out.below hb1 (Nat.le_refl _)
  have ho : Off b w W1 := ho1.trans (Off.of_below hb1)
  clear hW hb1 H1 ho1 hm
  generalize hZ : repGo (c / 8 % 4) B q1 x ⟨#[]⟩ = Z at HX
  go_loopw [5, 6] (fun sv nv wr => ∃ (n q : Nat) (s : ByteArray), sv = .string s ∧ nv = .int .i64 n ∧ n ≤ 3 ∧ s.size + n * 20 ≤ 60 ∧ Hid (repGo n B q x s = Z) ∧ Hid (RdAt wr b cv B q) ∧ Off b w wr) (fun _ nv _ => (intOf nv).toNat)
  case atStart => exact ⟨c / 8 % 4, q1, ⟨#[]⟩, rfl, by go_num, by omega, by simp [ByteArray.size]; omega, hZ, HR1, ho⟩
  case round =>
    obtain ⟨n, q, s, rfl, rfl, hn3, hsz, HZ, HR, ho2⟩ := hrel
    by_cases hn : 0 < n
    · go_wp2_with fail
      refine (rdNext b q cv B _ HR.out).mono ?_
      rintro e w2 ⟨rfl, h2, ho3⟩
      have hd := nx_lt B q
      have H2 : Hid (RdAt w2 b cv B (px B q)) := h2
      clear h2
      obtain ⟨k, rfl⟩ : ∃ k, n = k + 1 := ⟨n - 1, by omega⟩
      have HY : Hid (repGo k B (px B q) x (s ++ (x ++ ⟨#[45]⟩ ++ words.getD (nx B q % 8) ⟨#[]⟩ ++ ⟨#[13, 10]⟩)) = Z) := HZ.out
      clear HZ
      generalize nx B q = d at *
      generalize px B q = q2 at *
      obtain ⟨m, hm0, hm, hm8⟩ : ∃ m : Nat, d % 8 = m ∧ (d : Int) % 8 = (m : Int) ∧ m < 8 := ⟨d % 8, rfl, by omega, by omega⟩
      rw [hm0] at HY
      have hy := getD_le (L := words) (n := 12) (by decide) m
      obtain ⟨y, hye, ey⟩ := pickE words m hm8
      rw [← hye] at HY hy
      simp only [words, List.map_cons, List.map_nil] at ey
      clear hye
      go_wp2_with fail
      clear ey
      generalize hW : w2.alloc _ = W2
      have hb2 : Below w2.heap.size w2 W2 := by rw [← hW]; exact below1 _ _
      have HR2 : Hid (RdAt W2 b cv B q2) := H2.out.below hb2 (Nat.le_refl _)
      have ho4 : Off b w W2 := (ho2.trans ho3).trans (Off.of_below hb2)
      clear hW hb2 H2 ho3 ho2
      go_wp2
      go_roundw
      case rel =>
        refine ⟨k, q2, _, rfl, by go_num, by omega, ?_, HY, HR2, ho4⟩
        simp only [ByteArray.size_append]
        have e1 : (⟨#[45]⟩ : ByteArray).size = 1 := rfl
        have e2 : (⟨#[13, 10]⟩ : ByteArray).size = 2 := rfl
        omega
      case measure => simp [intOf]
    · obtain rfl : n = 0 := by omega
      obtain rfl : Z = (s, q) := HZ.out.symm
      go_wp2_with fail
      refine (rdNext b q cv B _ HR.out).mono ?_
      rintro e w2 ⟨rfl, h2, ho3⟩
      have hd := nx_lt B q
      have H2 : Hid (RdAt w2 b cv B (px B q)) := h2
      clear h2
      have HW : Hid (repF B p = (s ++ x ++ ends.getD (nx B q % 5) ⟨#[]⟩ ++ ⟨#[13, 10]⟩, px B q)) := HX.out
      clear HX
      generalize nx B q = d at *
      generalize px B q = q2 at *
      obtain ⟨m, hm0, hm, hm8⟩ : ∃ m : Nat, d % 5 = m ∧ (d : Int) % 5 = (m : Int) ∧ m < 5 := ⟨d % 5, rfl, by omega, by omega⟩
      have hy := getD_le (L := ends) (n := 18) (by decide) m
      obtain ⟨y, hye, ey⟩ := pickE ends m hm8
      rw [hm0, ← hye] at HW
      rw [← hye] at hy
      simp only [ends, List.map_cons, List.map_nil] at ey
      clear hye hm0
      go_wp2
      go_ret
      rw [HW.out]
      exact ⟨rfl, H2.out.below (below1 _ _) (Nat.le_refl _), (ho2.trans ho3).trans (Off.of_below (below1 _ _))⟩
end Go.Proofs.YtngcjlghjidnjaaGreatDoor
namespace Go.Proofs.YtngcjlghjidnjaaGreatDoor
open Go.ChangeShapes Go.WideShapes Go.ChangeAt Go.RowKit

/-- the first n bytes: none if n is less than 0, all if it is more than there are -/
def keepB (s : ByteArray) (n : Int) : ByteArray := if n < 0 then ⟨#[]⟩ else if (s.size : Int) < n then s else s.extract 0 n.toNat

set_option maxRecDepth 100000 in
theorem keepB_neg (s : ByteArray) (n : Int) (h : n < 0) : keepB s n = ⟨#[]⟩ := by rw [keepB, if_pos h]
theorem keepB_big (s : ByteArray) (n : Int) (h0 : 0 ≤ n) (h : (s.size : Int) < n) : keepB s n = s := by rw [keepB, if_neg (by omega), if_pos h]
theorem keepB_mid (s : ByteArray) (n : Int) (h0 : 0 ≤ n) (h : n ≤ (s.size : Int)) : keepB s n = s.extract 0 n.toNat := by rw [keepB, if_neg (by omega), if_neg (by omega)]
set_option maxRecDepth 100000 in
theorem keepB_size (s : ByteArray) (n : Int) : (keepB s n).size ≤ s.size := by
  by_cases h0 : n < 0
  · rw [keepB_neg s n h0]; exact Nat.zero_le _
  · by_cases h : (s.size : Int) < n
    · rw [keepB_big s n (by omega) h]; exact Nat.le_refl _
    · rw [keepB_mid s n (by omega) (by omega), ByteArray.size_extract]; omega

set_option maxRecDepth 100000 in
theorem empty_ofK (s : ByteArray) (h : s.size = 0) : s = ByteArray.empty := by
  apply ByteArray.ext
  exact Array.eq_empty_of_size_eq_zero h

set_option maxHeartbeats 400000 in
set_option maxRecDepth 100000 in
theorem specKeep (s : ByteArray) (n : Int) (w : World) :
    Calls Tryz.prog 55 #[.string s, .int .i64 n] w fun e w' => e = .returned (.string (keepB s n)) ∧ w' = w := by
  by_cases c1 : n < 0
  · go_enter Tryz.func55, Tryz.ntmps55
    go_wp2
    go_ret
    exact ⟨ret_str (keepB_neg s n c1).symm, rfl⟩
  · by_cases c2 : (s.size : Int) < n
    · go_enter Tryz.func55, Tryz.ntmps55
      go_wp2
      go_ret
      exact ⟨ret_str (keepB_big s n c1 c2).symm, rfl⟩
    · go_enter Tryz.func55, Tryz.ntmps55
      go_wp2
      go_ret
      exact ⟨ret_str (keepB_mid s n c1 c2).symm, rfl⟩
end Go.Proofs.YtngcjlghjidnjaaGreatDoor
namespace Go.Proofs.YtngcjlghjidnjaaGreatDoor
open Go.ChangeShapes Go.WideShapes Go.ChangeAt Go.RowKit

set_option maxHeartbeats 1000000 in
set_option maxRecDepth 100000 in
theorem rdTwoX (b p : Nat) (cv : Value) (B : List UInt8) (w : World) (h : RdAt w b cv B p) :
    Calls Tryz.prog 100 #[.pointer (some ⟨b, 0, none⟩)] w fun e w' => e = .returned (.int .i64 ((nx B p * 256 + nx B (px B p) : Nat) : Int)) ∧ RdAt w' b cv B (px B (px B p)) ∧ Off b w w' := by
  have H : Hid (RdAt w b cv B p) := h
  clear h
  go_enter Tryz.func100, Tryz.ntmps100
  go_wp2_with fail
  refine (rdNext b p cv B _ H.out).mono ?_
  rintro e w1 ⟨rfl, h1, ho1⟩
  have hc := nx_lt B p
  generalize hcE : nx B p = c at hc ⊢
  have HC : Hid (nx B p = c) := hcE
  have H1 : Hid (RdAt w1 b cv B (px B p)) := h1
  clear h1 hcE
  go_wp2_with fail
  refine (rdNext b (px B p) cv B _ H1.out).mono ?_
  rintro e w2 ⟨rfl, h2, ho2⟩
  have hd := nx_lt B (px B p)
  have H2 : Hid (RdAt w2 b cv B (px B (px B p))) := h2
  clear h2
  generalize hdE : nx B (px B p) = d at hd ⊢
  have HD : Hid (nx B (px B p) = d) := hdE
  clear hdE
  go_wp2
  go_ret
  rw [HC.out, HD.out]
  exact ⟨by go_num, H2.out, ho1.trans ho2⟩

/-- a text with one place changed -/
def spoAt (s : ByteArray) (a d : Nat) : ByteArray := s.extract 0 a ++ spoils.getD (d % 14) ⟨#[]⟩ ++ s.extract (if a + d / 64 % 3 ≤ s.size then a + d / 64 % 3 else s.size) s.size
def spoF (B : List UInt8) (p : Nat) (s : ByteArray) : ByteArray × Nat :=
  if 0 < s.size then (spoAt s ((nx B p * 256 + nx B (px B p)) % s.size) (nx B (px B (px B p))), px B (px B (px B p))) else (spoAt s 0 (nx B p), px B p)
theorem spo_nil {s : ByteArray} (h : s.size = 0) (y : ByteArray) (i j : Nat) : s.extract 0 0 ++ y ++ s.extract i j = y := by
  rw [empty_ofK s h]
  apply ByteArray.ext
  simp
theorem spo_end (s x : ByteArray) : x ++ s.extract s.size s.size = x := by
  apply ByteArray.ext
  simp
theorem spoAt_size (s : ByteArray) (a d : Nat) : (spoAt s a d).size ≤ 2 * s.size + 8 := by
  unfold spoAt
  have h2 := getD_le (L := spoils) (n := 8) (by decide) (d % 14)
  simp only [ByteArray.size_append, ByteArray.size_extract]
  omega
theorem spoF_size (B : List UInt8) (p : Nat) (s : ByteArray) : (spoF B p s).1.size ≤ 2 * s.size + 8 := by
  unfold spoF
  split
  · exact spoAt_size _ _ _
  · exact spoAt_size _ _ _
set_option maxHeartbeats 1000000 in
set_option maxRecDepth 100000 in
theorem rdSpoilX (b p : Nat) (cv : Value) (B : List UInt8) (s : ByteArray) (w : World) (h : RdAt w b cv B p) (hs : s.size ≤ 1048576) :
    Calls Tryz.prog 54 #[.pointer (some ⟨b, 0, none⟩), .string s] w fun e w' => e = .returned (.string (spoF B p s).1) ∧ RdAt w' b cv B (spoF B p s).2 ∧ Off b w w' := by
  have H : Hid (RdAt w b cv B p) := h
  clear h
  by_cases h0 : 0 < s.size
  · have HE : Hid (spoF B p s = (spoAt s ((nx B p * 256 + nx B (px B p)) % s.size) (nx B (px B (px B p))), px B (px B (px B p)))) := by show spoF B p s = _; unfold spoF; rw [if_pos h0]
    go_enter Tryz.func54, Tryz.ntmps54
    go_wp2_with fail
    refine (rdTwoX b p cv B _ H.out).mono ?_
    rintro e w1 ⟨rfl, h1, ho1⟩
    have hn1 := nx_lt B p
    have hn2 := nx_lt B (px B p)
    generalize hn : nx B p * 256 + nx B (px B p) = n at HE ⊢
    generalize hq1 : px B (px B p) = q1 at HE h1
    have hn3 : n < 65536 := by omega
    clear hn hq1 hn1 hn2
    have H1 : Hid (RdAt w1 b cv B q1) := h1
    clear h1
    obtain ⟨a, ha0, ha, hal⟩ : ∃ a : Nat, n % s.size = a ∧ (n : Int) % (s.size : Int) = (a : Int) ∧ a < s.size := ⟨n % s.size, rfl, by simp, Nat.mod_lt _ h0⟩
    rw [ha0] at HE
    clear ha0
    go_wp2_with fail
    refine (rdNext b q1 cv B _ H1.out).mono ?_
    rintro e w2 ⟨rfl, h2, ho2⟩
    have hd := nx_lt B q1
    have H2 : Hid (RdAt w2 b cv B (px B q1)) := h2
    clear h2
    generalize nx B q1 = d at *
    generalize px B q1 = q2 at *
    obtain ⟨m, hm0, hm, hm8⟩ : ∃ m : Nat, d % 14 = m ∧ (d : Int) % 14 = (m : Int) ∧ m < 14 := ⟨d % 14, rfl, by omega, by omega⟩
    have hys := getD_le (L := spoils) (n := 8) (by decide) m
    obtain ⟨y, hy, ey⟩ := pickE spoils m hm8
    rw [← hy] at hys
    simp only [spoils, List.map_cons, List.map_nil] at ey
    obtain ⟨t, ht0, ht, ht2⟩ : ∃ t : Nat, a + d / 64 % 3 = t ∧ (a : Int) + (d : Int) / 64 % 3 = (t : Int) ∧ a ≤ t := ⟨a + d / 64 % 3, rfl, by omega, by omega⟩
    have HA : Hid (spoAt s a d = s.extract 0 a ++ y ++ s.extract (if t ≤ s.size then t else s.size) s.size) := by show spoAt s a d = _; unfold spoAt; rw [hm0, ht0, ← hy]
    clear hm0 hy ht0
    by_cases htl : t ≤ s.size
    · have hti : ¬ (s.size : Int) < (t : Int) := by omega
      have hai : (a : Int) ≤ s.size := by omega
      go_wp2_with fail
      go_quiet (fail)
      go_wp2
      go_ret
      refine ⟨?_, by rw [HE.out]; exact H2.out.below (bel_drewN (below1 _ _) _) (Nat.le_refl _), (ho1.trans ho2).trans (Off.of_below (bel_drewN (below1 _ _) _))⟩
      rw [HE.out, HA.out, if_pos htl]
      rfl
    · have hti : (s.size : Int) < (t : Int) := by omega
      have hai : (a : Int) ≤ s.size := by omega
      go_wp2_with fail
      go_quiet (fail)
      go_wp2
      go_ret
      refine ⟨?_, by rw [HE.out]; exact H2.out.below (bel_drewN (below1 _ _) _) (Nat.le_refl _), (ho1.trans ho2).trans (Off.of_below (bel_drewN (below1 _ _) _))⟩
      rw [HE.out, HA.out, if_neg htl]
      first
        | rfl
        | (show Ending.returned (Value.string (s.extract 0 a ++ y)) = _; rw [spo_end])
  · have hs0 : s.size = 0 := by omega
    have HE : Hid (spoF B p s = (spoAt s 0 (nx B p), px B p)) := by show spoF B p s = _; unfold spoF; rw [if_neg h0]
    go_enter Tryz.func54, Tryz.ntmps54
    go_wp2_with fail
    refine (rdNext b p cv B _ H.out).mono ?_
    rintro e w2 ⟨rfl, h2, ho2⟩
    have hd := nx_lt B p
    have H2 : Hid (RdAt w2 b cv B (px B p)) := h2
    clear h2
    generalize nx B p = d at *
    generalize px B p = q2 at *
    obtain ⟨m, hm0, hm, hm8⟩ : ∃ m : Nat, d % 14 = m ∧ (d : Int) % 14 = (m : Int) ∧ m < 14 := ⟨d % 14, rfl, by omega, by omega⟩
    have hys := getD_le (L := spoils) (n := 8) (by decide) m
    obtain ⟨y, hy, ey⟩ := pickE spoils m hm8
    rw [← hy] at hys
    simp only [spoils, List.map_cons, List.map_nil] at ey
    obtain ⟨t, ht0, ht⟩ : ∃ t : Nat, 0 + d / 64 % 3 = t ∧ (d : Int) / 64 % 3 = (t : Int) := ⟨0 + d / 64 % 3, rfl, by omega⟩
    have HA : Hid (spoAt s 0 d = s.extract 0 0 ++ y ++ s.extract (if t ≤ s.size then t else s.size) s.size) := by show spoAt s 0 d = _; unfold spoAt; rw [hm0, ht0, ← hy]
    clear hm0 hy ht0
    by_cases htl : t ≤ s.size
    · have hti : ¬ (s.size : Int) < (t : Int) := by omega
      have ht0 : t = 0 := by omega
      subst ht0
      have hai : (0 : Int) ≤ s.size := by omega
      go_wp2_with fail
      go_quiet (fail)
      go_wp2
      go_ret
      refine ⟨?_, by rw [HE.out]; exact H2.out.below (bel_drewN (below1 _ _) _) (Nat.le_refl _), ho2.trans (Off.of_below (bel_drewN (below1 _ _) _))⟩
      rw [HE.out, HA.out, spo_nil hs0]
      rfl
    · have hti : (s.size : Int) < (t : Int) := by omega
      have hai : (0 : Int) ≤ s.size := by omega
      go_wp2_with fail
      go_quiet (fail)
      go_wp2
      go_ret
      refine ⟨?_, by rw [HE.out]; exact H2.out.below (bel_drewN (below1 _ _) _) (Nat.le_refl _), ho2.trans (Off.of_below (bel_drewN (below1 _ _) _))⟩
      rw [HE.out, HA.out, spo_nil hs0]
      rfl

def bHeads : List ByteArray := [⟨#[83, 117, 98, 106, 101, 99, 116, 58, 32, 104, 105]⟩, ⟨#[84, 111, 58, 32, 121, 111, 117]⟩, ⟨#[]⟩, ⟨#[46]⟩, ⟨#[46, 46, 120]⟩, ⟨#[115, 111, 109, 101, 32, 119, 111, 114, 100, 115]⟩, ⟨#[45, 45, 98, 48]⟩, ⟨#[46, 101, 110, 100]⟩]
/-- a drawn body -/
def bodGo : Nat → List UInt8 → Nat → ByteArray → ByteArray × Nat
  | 0, _, p, acc => (acc, p)
  | n + 1, B, p, acc => bodGo n B (px B p) (acc ++ (bHeads.getD (nx B p % 8) ⟨#[]⟩ ++ ⟨#[13, 10]⟩))
def bigBody (y : ByteArray) : ByteArray := y ++ ⟨#[13, 10]⟩ ++ y ++ ⟨#[13, 10]⟩ ++ y ++ ⟨#[13, 10]⟩
def bodF (B : List UInt8) (p : Nat) : ByteArray × Nat :=
  if nx B p = 255 then (bigBody (ofInts (fillL 998)), px B p) else if nx B p = 254 then (⟨#[]⟩, px B p) else bodGo (nx B p % 6) B (px B p) ⟨#[]⟩
theorem bodGo_size : ∀ (n : Nat) (B : List UInt8) (p : Nat) (acc : ByteArray), (bodGo n B p acc).1.size ≤ acc.size + n * 20
  | 0, _, _, _ => by simp [bodGo]
  | n + 1, B, p, acc => by
    rw [bodGo]
    have h1 := bodGo_size n B (px B p) (acc ++ (bHeads.getD (nx B p % 8) ⟨#[]⟩ ++ ⟨#[13, 10]⟩))
    have h2 := getD_le (L := bHeads) (n := 11) (by decide) (nx B p % 8)
    have e2 : (⟨#[13, 10]⟩ : ByteArray).size = 2 := rfl
    simp only [ByteArray.size_append] at h1
    omega
theorem bodF_size (B : List UInt8) (p : Nat) : (bodF B p).1.size ≤ 4000 := by
  unfold bodF
  split
  · have h := fill_size 998
    generalize ofInts (fillL 998) = y at *
    unfold bigBody
    have e2 : (⟨#[13, 10]⟩ : ByteArray).size = 2 := rfl
    simp only [ByteArray.size_append]
    omega
  · split
    · exact Nat.zero_le _
    · have h1 := bodGo_size (nx B p % 6) B (px B p) ⟨#[]⟩
      have e0 : (⟨#[]⟩ : ByteArray).size = 0 := rfl
      have : nx B p % 6 ≤ 5 := by omega
      omega
set_option maxHeartbeats 2000000 in
set_option maxRecDepth 100000 in
theorem rdBodyX (b p : Nat) (cv : Value) (B : List UInt8) (w : World) (h : RdAt w b cv B p) :
    Calls Tryz.prog 28 #[.pointer (some ⟨b, 0, none⟩)] w fun e w' => e = .returned (.string (bodF B p).1) ∧ RdAt w' b cv B (bodF B p).2 ∧ Off b w w' := by
  have H : Hid (RdAt w b cv B p) := h
  clear h
  go_enter Tryz.func28, Tryz.ntmps28
  go_wp2_with fail
  refine (rdNext b p cv B _ H.out).mono ?_
  rintro e w1 ⟨rfl, h1, ho1⟩
  have hc := nx_lt B p
  have H1 : Hid (RdAt w1 b cv B (px B p)) := h1
  clear h1
  generalize hcE : nx B p = c at hc ⊢
  generalize hqE : px B p = q1 at H1
  have HC : Hid (nx B p = c) := hcE
  have HP : Hid (px B p = q1) := hqE
  clear hcE hqE
  by_cases c1 : c = 255
  · subst c1
    obtain ⟨y, hyE, hys⟩ : ∃ y : ByteArray, ofInts (fillL 998) = y ∧ y.size = 998 := ⟨_, rfl, fill_size 998⟩
    have hf : Hid (∀ wx : World, Calls Tryz.prog 57 #[.int .i64 998] wx fun e w' => e = .returned (.string y) ∧ Below wx.heap.size wx w') := by
      intro wx
      refine (fill 998 wx (by decide)).mono ?_
      rintro e w' ⟨rfl, hb⟩
      exact ⟨by rw [hyE], hb⟩
    have HE : Hid (bodF B p = (bigBody y, q1)) := by show bodF B p = _; unfold bodF; rw [HC.out, HP.out, if_pos rfl, hyE]
    clear hyE
    go_wp2_with fail
    refine (hf.out _).mono ?_
    rintro e w2 ⟨rfl, hb2⟩
    have H2 : Hid (RdAt w2 b cv B q1) := H1.out.below hb2 (Nat.le_refl _)
    have ho2 : Off b w w2 := ho1.trans (Off.of_below hb2)
    clear H1 ho1 hb2
    go_wp2_with fail
    refine (hf.out _).mono ?_
    rintro e w3 ⟨rfl, hb3⟩
    have H3 : Hid (RdAt w3 b cv B q1) := H2.out.below hb3 (Nat.le_refl _)
    have ho3 : Off b w w3 := ho2.trans (Off.of_below hb3)
    clear H2 ho2 hb3
    go_wp2_with fail
    refine (hf.out _).mono ?_
    rintro e w4 ⟨rfl, hb4⟩
    have H4 : Hid (RdAt w4 b cv B q1) := H3.out.below hb4 (Nat.le_refl _)
    have ho4 : Off b w w4 := ho3.trans (Off.of_below hb4)
    clear H3 ho3 hb4 hf
    have e2 : (⟨#[13, 10]⟩ : ByteArray).size = 2 := rfl
    go_wp2
    go_ret
    rw [HE.out]
    exact ⟨rfl, H4.out, ho4⟩
  · have c1i : ((c : Int) == 255) = false := by rw [beq_eq_false_iff_ne]; omega
    by_cases c2 : c = 254
    · subst c2
      have HE : Hid (bodF B p = (⟨#[]⟩, q1)) := by show bodF B p = _; unfold bodF; rw [HC.out, HP.out, if_neg c1, if_pos rfl]
      go_wp2
      go_ret
      rw [HE.out]
      exact ⟨rfl, H1.out, ho1⟩
    · have c2i : ((c : Int) == 254) = false := by rw [beq_eq_false_iff_ne]; omega
      obtain ⟨Z, hZ, HE⟩ : ∃ Z, bodGo (c % 6) B q1 ⟨#[]⟩ = Z ∧ Hid (bodF B p = Z) := ⟨_, rfl, by show bodF B p = _; unfold bodF; rw [HC.out, HP.out, if_neg c1, if_neg c2]⟩
      go_wp2_with fail
      go_loopw [4, 5] (fun sv nv wr => ∃ (n q : Nat) (s : ByteArray), sv = .string s ∧ nv = .int .i64 n ∧ n ≤ 5 ∧ s.size + n * 20 ≤ 100 ∧ Hid (bodGo n B q s = Z) ∧ Hid (RdAt wr b cv B q) ∧ Off b w wr) (fun _ nv _ => (intOf nv).toNat)
      case atStart => exact ⟨c % 6, q1, ⟨#[]⟩, rfl, by go_num, by omega, by simp [ByteArray.size]; omega, hZ, H1, ho1⟩
      case round =>
        obtain ⟨n, q, s, rfl, rfl, hn3, hsz, HZ, HR, ho2⟩ := hrel
        by_cases hn : 0 < n
        · go_wp2_with fail
          refine (rdNext b q cv B _ HR.out).mono ?_
          rintro e w2 ⟨rfl, h2, ho3⟩
          have hd := nx_lt B q
          have H2 : Hid (RdAt w2 b cv B (px B q)) := h2
          clear h2
          obtain ⟨k, rfl⟩ : ∃ k, n = k + 1 := ⟨n - 1, by omega⟩
          have HY : Hid (bodGo k B (px B q) (s ++ (bHeads.getD (nx B q % 8) ⟨#[]⟩ ++ ⟨#[13, 10]⟩)) = Z) := HZ.out
          clear HZ
          generalize nx B q = d at *
          generalize px B q = q2 at *
          obtain ⟨m, hm0, hm, hm8⟩ : ∃ m : Nat, d % 8 = m ∧ (d : Int) % 8 = (m : Int) ∧ m < 8 := ⟨d % 8, rfl, by omega, by omega⟩
          rw [hm0] at HY
          have hy := getD_le (L := bHeads) (n := 11) (by decide) m
          obtain ⟨y, hye, ey⟩ := pickE bHeads m hm8
          rw [← hye] at HY hy
          simp only [bHeads, List.map_cons, List.map_nil] at ey
          clear hye hm0
          go_wp2_with fail
          clear ey
          generalize hW : w2.alloc _ = W2
          have hb2 : Below w2.heap.size w2 W2 := by rw [← hW]; exact below1 _ _
          have HR2 : Hid (RdAt W2 b cv B q2) := H2.out.below hb2 (Nat.le_refl _)
          have ho4 : Off b w W2 := (ho2.trans ho3).trans (Off.of_below hb2)
          clear hW hb2 H2 ho3 ho2
          go_wp2
          go_roundw
          case rel =>
            refine ⟨k, q2, _, rfl, by go_num, by omega, ?_, HY, HR2, ho4⟩
            simp only [ByteArray.size_append]
            have e2 : (⟨#[13, 10]⟩ : ByteArray).size = 2 := rfl
            omega
          case measure => simp [intOf]
        · obtain rfl : n = 0 := by omega
          obtain rfl : Z = (s, q) := HZ.out.symm
          go_wp2
          go_ret
          rw [HE.out]
          exact ⟨rfl, HR.out, ho2⟩
end Go.Proofs.YtngcjlghjidnjaaGreatDoor
