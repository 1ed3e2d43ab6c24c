import Derived.Test.YtngcjlghjidnjaaGreatDoorMg46
import Derived.Test.YtngcjlghjidnjaaGreatDoorMg32
import Derived.Test.YtngcjlghjidnjaaGreatDoorMg12
import Derived.Test.YtngcjlghjidnjaaGreatDoorMg21
import Derived.Test.YtngcjlghjidnjaaGreatDoorMg25
namespace Go.Proofs.YtngcjlghjidnjaaGreatDoor
open Go.ChangeShapes Go.WideShapes Go.ChangeAt Go.RowKit
attribute [local go_sem ↓] Go.wp_at_zero Go.wp_at_succ

theorem vds_formD {w : World} {lo : Nat} {v : Value} {L : List Vd} (h : Vds w lo v L) : ∃ a c, v = .slice a L.length c := by
  rcases h.cases with ⟨e, e0⟩ | ⟨g, k, e, _⟩
  · exact ⟨none, 0, by rw [e, e0]; rfl⟩
  · exact ⟨_, _, e⟩
theorem offL_of {b : Nat} {w w1 : World} (h : Off b w w1) : OffL [.slice (some ⟨b, 0, none⟩) 0 0] w w1 := ⟨h.os, h.tape, h.output, h.size, fun k hk hne => h.block k hk (fun e => hne _ (List.mem_singleton.2 rfl) (by rw [e]; rfl))⟩
theorem ne_off1 {b k : Nat} (h : k ≠ b) : ∀ v ∈ ([.slice (some ⟨b, 0, none⟩) 0 0] : List Value), v.ownBlock ≠ some k := by
  intro v hv e
  rw [List.mem_singleton.1 hv] at e
  exact h (Option.some.inj e).symm
theorem Blk.offR {a b : Nat} {X : Array Value} {w w1 : World} (h : Blk a X w) (ho : Off b w w1) (hne : a ≠ b) : Blk a X w1 := Blk.offL h (offL_of ho) (ne_off1 hne)
/-- a session in block B, its rows in other blocks, all from N on -/
structure Ses (N B : Nat) (s : Sn) (u1 u2 u3 : Value) (w : World) : Prop where
  le : N ≤ B
  sb : SB B s u1 u2 u3 w
  sv : SV w N u1 u2 u3 s
  n1 : u1.ownBlock ≠ some B
  n2 : u2.ownBlock ≠ some B
  n3 : u3.ownBlock ≠ some B
theorem Ses.below {N B : Nat} {s : Sn} {u1 u2 u3 : Value} {w w1 : World} (h : Ses N B s u1 u2 u3 w) (hb : Below w.heap.size w w1) : Ses N B s u1 u2 u3 w1 := ⟨h.le, SB.below h.sb hb, h.sv.below hb (Nat.le_refl _), h.n1, h.n2, h.n3⟩
theorem SV.offR {w w1 : World} {lo b : Nat} {u1 u2 u3 : Value} {s : Sn} (h : SV w lo u1 u2 u3 s) (ho : Off b w w1) (hb : b < lo) : SV w1 lo u1 u2 u3 s := by
  have hne : ∀ u : Value, (∀ g, u.ownBlock = Option.some g → lo ≤ g ∧ g < w.heap.size) → ∀ g, u.ownBlock = Option.some g → ∀ v ∈ ([.slice (Option.some ⟨b, 0, none⟩) 0 0] : List Value), v.ownBlock ≠ Option.some g := fun u hu g hg => ne_off1 (by have := (hu g hg).1; omega)
  exact ⟨(offL_of ho).row h.1 (hne _ h.own.1), (offL_of ho).row h.2.1 (hne _ h.own.2.1), (offL_of ho).row h.2.2 (hne _ h.own.2.2)⟩
theorem Ses.offR {N B b : Nat} {s : Sn} {u1 u2 u3 : Value} {w w1 : World} (h : Ses N B s u1 u2 u3 w) (ho : Off b w w1) (hb : b < N) : Ses N B s u1 u2 u3 w1 :=
  ⟨h.le, Blk.offR h.sb ho (by have := h.le; omega), h.sv.offR ho hb, h.n1, h.n2, h.n3⟩
theorem Ses.put {N B : Nat} {s t : Sn} {u1 u2 u3 v1 v2 v3 : Value} {w w1 : World} (h : Ses N B s u1 u2 u3 w) (hb : Below w.heap.size w w1) (hv : SV w1 w.heap.size v1 v2 v3 t) : Ses N B t v1 v2 v3 (nine w1 B (.int .i64 t.ph) (.string t.buf) (.string t.he) (.string t.fr) (.string t.bo) v1 (.int .i64 (t.nx : Int)) v2 v3) :=
  have hl := h.sb.lt
  have hN : N ≤ w.heap.size := Nat.le_of_lt (Nat.lt_of_le_of_lt h.le hl)
  ⟨h.le, blk_nine (SB.below h.sb hb) _ _ _ _ _ _ _ _ _, (hv.nine hl _ _ _ _ _ _ _ _ _).le hN, fun e => by have := (hv.own.1 _ e).1; omega, fun e => by have := (hv.own.2.1 _ e).1; omega, fun e => by have := (hv.own.2.2 _ e).1; omega⟩
theorem Ses.new {N : Nat} {s : Sn} {u1 u2 u3 : Value} {w : World} (T : TypeId) (h : SV w N u1 u2 u3 s) (hN : N ≤ w.heap.size) : Ses N w.heap.size s u1 u2 u3 (w.alloc (.cells (c9 s u1 u2 u3) T)) :=
  ⟨hN, Blk.new w _ _, h.below (below1 _ _) (Nat.le_refl _), fun e => Nat.lt_irrefl _ (h.own.1 _ e).2, fun e => Nat.lt_irrefl _ (h.own.2.1 _ e).2, fun e => Nat.lt_irrefl _ (h.own.2.2 _ e).2⟩

/-- Open's and Feed's sessions -/
def openN (he fr bo : ByteArray) (L : List ByteArray) : Sn := ⟨oPh (openOk he fr bo L), ⟨#[]⟩, oS (openOk he fr bo L) he, oS (openOk he fr bo L) fr, oS (openOk he fr bo L) bo, oL (openOk he fr bo L) L, 0, List.replicate (oL (openOk he fr bo L) L).length false, List.replicate (oL (openOk he fr bo L) L).length vd0⟩
def feedS (s : Sn) (kind : Int) (d : ByteArray) : Sn × ByteArray := feedN s.ph (s.nx : Int) s.buf s.he s.fr s.bo s.R s.T s.V kind d
def Fine (s : Sn) : Prop := s.Pr ∨ s = snDone
theorem open_fine (he fr bo : ByteArray) (L : List ByteArray) : Fine (openN he fr bo L) := by
  unfold openN
  cases h : openOk he fr bo L with
  | false => exact .inr rfl
  | true =>
    refine .inl ?_
    unfold openOk at h
    simp only [Bool.and_eq_true] at h
    rw [Sn.pr_iff]
    refine ⟨⟨by show (1 : Int) ≤ 1; decide, by show (1 : Int) ≤ 9; decide, Nat.zero_le _, h.1, h.2.1, h.2.2, by simp, by simp, Nat.zero_le _, by rintro ⟨_, e⟩; exact absurd e (by show ¬ (1 : Int) = 5; decide)⟩, ?_⟩
    intro v hv
    rw [List.eq_of_mem_replicate hv]
    decide
theorem feedN_fine (ph : Int) (nx : Int) (buf he fr bo : ByteArray) (R : List ByteArray) (T : List Bool) (V : List Vd) (kind : Int) (d : ByteArray) : Fine (feedN ph nx buf he fr bo R T V kind d).1 := by
  unfold feedN
  cases hp : properN ph nx buf he fr bo R T V with
  | false => exact .inr rfl
  | true =>
    obtain ⟨n, rfl, _⟩ := ok_of hp
    exact .inl (feed_pr (s := ⟨ph, buf, he, fr, bo, R, n, T, V⟩) hp kind d)
theorem Fine.ph {s : Sn} (h : Fine s) : 1 ≤ s.ph ∧ s.ph ≤ 9 := by
  rcases h with h | rfl
  · exact ⟨h.ok.p1, h.ok.p9⟩
  · decide
theorem Fine.small {s : Sn} (h : Fine s) : Small9 s.buf s.he s.fr s.bo s.R s.T s.V ∧ s.buf.size ≤ 40000 ∧ s.R.length ≤ 20 ∧ s.T.length ≤ 20 ∧ s.V.length ≤ 20 := by
  rcases h with h | rfl
  · have k := h.ok
    have k1 := k.bf
    have k2 := k.he
    have k3 := k.fr
    have k4 := k.bo
    have k5 := k.r20
    have k6 := k.t
    have k7 := k.v
    refine ⟨⟨by omega, by omega, by omega, by omega, by omega, fun x hx => by have := k.rs x hx; omega, by omega, by omega, fun x hx => ?_⟩, k1, k5, by omega, by omega⟩
    have := (Sn.pr_iff.1 h).2 x hx
    unfold vdOk at this
    simp only [Bool.and_eq_true, decide_eq_true_eq] at this
    omega
  · exact ⟨⟨Nat.zero_le _, Nat.zero_le _, Nat.zero_le _, Nat.zero_le _, Nat.zero_le _, fun x hx => absurd hx List.not_mem_nil, Nat.zero_le _, Nat.zero_le _, fun x hx => absurd hx List.not_mem_nil⟩, Nat.zero_le _, Nat.zero_le _, Nat.zero_le _, Nat.zero_le _⟩
/-- a drawn session -/
def sesGo : Nat → List UInt8 → Nat → Sn → Sn × Nat
  | 0, _, p, s => (s, p)
  | n + 1, B, p, s => if nx B p % 5 = 4 then sesGo n B (repF B (px B p)).2 (feedS s 1 (repF B (px B p)).1).1 else sesGo n B (px B p) (feedS s 1 (goodF s.ph)).1
def tOut : ByteArray := ⟨#[111, 117, 116, 46, 101, 120, 97, 109, 112, 108, 101]⟩
def sesF (B : List UInt8) (p : Nat) : Sn × Nat :=
  sesGo (nx B (bodF B (rcF B (fromF B p).2).2).2 % 14) B (px B (bodF B (rcF B (fromF B p).2).2).2) (openN tOut (fromF B p).1 (bodF B (rcF B (fromF B p).2).2).1 ((rcF B (fromF B p).2).1.take 20))
theorem sesGo_fine : ∀ (n : Nat) (B : List UInt8) (p : Nat) (s : Sn), Fine s → Fine (sesGo n B p s).1
  | 0, _, _, _, h => h
  | n + 1, B, p, s, h => by
    rw [sesGo]
    split
    · exact sesGo_fine n B _ _ (feedN_fine _ _ _ _ _ _ _ _ _ _ _)
    · exact sesGo_fine n B _ _ (feedN_fine _ _ _ _ _ _ _ _ _ _ _)
theorem sesF_fine (B : List UInt8) (p : Nat) : Fine (sesF B p).1 := sesGo_fine _ _ _ _ (open_fine _ _ _ _)
theorem take_args {w : World} {lo : Nat} {a : Option Addr} {c : Nat} {L : List ByteArray} (h : Strs w lo (.slice a L.length c) L) (hs : ∀ x ∈ L, x.size ≤ 300) (h20 : 20 < L.length) : ArgS w (.slice a 20 c) (L.take 20) ∧ 20 ≤ c ∧ ∃ g, a = some ⟨g, 0, none⟩ := by
  rcases h.cases with ⟨e, e0⟩ | ⟨g, cap, e, hg⟩
  · rw [e0] at h20; exact absurd h20 (by simp)
  · injection e with e1 e2 e3
    subst e1
    subst e3
    have hl := hg.len
    have hc := hg.cap
    have hl2 : (L.take 20).length = 20 := by rw [List.length_take]; omega
    refine ⟨⟨by rw [hl2]; decide, fun x hx => by have := hs x (List.mem_of_mem_take hx); unfold maxLen; omega, .inr ⟨g, 0, c, by rw [hl2], hg.lt, fun i hi => ?_⟩⟩, by omega, g, rfl⟩
    rw [Nat.zero_add, hg.cell i (by omega)]
    simp

set_option maxHeartbeats 8000000 in
set_option maxRecDepth 100000 in
theorem rdSessX (b p : Nat) (cv : Value) (B : List UInt8) (w : World) (h : RdAt w b cv B p) :
    Calls Tryz.prog 52 #[.pointer (some ⟨b, 0, none⟩)] w fun e w' => (∃ u1 u2 u3, e = .returned (.agg #[.int .i64 (sesF B p).1.ph, .string (sesF B p).1.buf, .string (sesF B p).1.he, .string (sesF B p).1.fr, .string (sesF B p).1.bo, u1, .int .i64 ((sesF B p).1.nx : Int), u2, u3]) ∧ SV w' w.heap.size u1 u2 u3 (sesF B p).1) ∧ RdAt w' b cv B (sesF B p).2 ∧ Off b w w' := by
  have H : Hid (RdAt w b cv B p) := h
  have hbl : b < w.heap.size := h.2.2.2.1
  clear h
  go_enter Tryz.func52, Tryz.ntmps52
  go_wp2_with fail
  generalize hW : World.alloc _ _ = W
  have HZ : Hid (SB w.heap.size sn0 (.slice none 0 0) (.slice none 0 0) (.slice none 0 0) W) := by show SB _ _ _ _ _ _; rw [← hW]; exact Blk.new w _ _
  have b0 : Below w.heap.size w W := by rw [← hW]; exact below1 _ _
  have hz0 : w.heap.size < W.heap.size := HZ.out.lt
  have H0 : Hid (RdAt W b cv B p) := H.out.below b0 (Nat.le_refl _)
  clear hW
  refine (rdFromX b p cv B W H0.out).mono ?_
  rintro e w1 ⟨rfl, h1, ho1⟩
  have hfs := fromF_size B p
  generalize hF : fromF B p = F at h1 hfs ⊢
  have HF : Hid (fromF B p = F) := hF
  have H1 : Hid (RdAt w1 b cv B F.2) := h1
  have HZ1 : Hid (SB w.heap.size sn0 (.slice none 0 0) (.slice none 0 0) (.slice none 0 0) w1) := Blk.offR HZ.out ho1 (by omega)
  have o1 : Off b w w1 := (Off.of_below b0).trans ho1
  have z1 := ho1.size
  clear h1 ho1 H0 HZ hF b0
  go_wp2_with fail
  refine (rdRcptsX b F.2 cv B w1 H1.out).mono ?_
  rintro e w2 ⟨⟨v, rfl, S2⟩, h2, ho2⟩
  have hrl := rcF_len B F.2
  have hrs := rcF_size B F.2
  generalize hL : rcF B F.2 = L at h2 S2 hrl hrs
  have HL : Hid (rcF B F.2 = L) := hL
  have HRS : Hid (∀ x ∈ L.1, x.size ≤ 300) := hrs
  have H2 : Hid (RdAt w2 b cv B L.2) := h2
  have HZ2 : Hid (SB w.heap.size sn0 (.slice none 0 0) (.slice none 0 0) (.slice none 0 0) w2) := Blk.offR HZ1.out ho2 (by omega)
  have o2 : Off b w w2 := o1.trans ho2
  have z2 := ho2.size
  obtain ⟨av, ac, hv⟩ := strs_form2 S2
  subst hv
  have HS2 : Hid (Strs w2 w1.heap.size (.slice av L.1.length ac) L.1) := S2
  clear h2 ho2 H1 HZ1 hL S2 o1 hrs
  have HY : Hid (∀ x ∈ L.1.take 20, x.size ≤ 1048576) := fun x hx => by have := HRS.out x (List.mem_of_mem_take hx); omega
  rcases Nat.lt_or_ge 20 L.1.length with h20 | h20
  · obtain ⟨_, hac, g, rfl⟩ := take_args HS2.out HRS.out h20
    have HA : Hid (∀ wx, Strs wx w1.heap.size (.slice (some ⟨g, 0, none⟩) L.1.length ac) L.1 → ArgS wx (.slice (some ⟨g, 0, none⟩) 20 ac) (L.1.take 20)) := fun wx hx => (take_args hx HRS.out h20).1
    have h20i : (20 : Int) < L.1.length := by omega
    have haci : (20 : Int) ≤ ac := by omega
    go_wp2_with fail
    refine (rdBodyX b L.2 cv B w2 H2.out).mono ?_
    rintro e w3 ⟨rfl, h3, ho3⟩
    have hbs := bodF_size B L.2
    generalize hD : bodF B L.2 = D at h3 hbs ⊢
    have HD : Hid (bodF B L.2 = D) := hD
    have H3 : Hid (RdAt w3 b cv B D.2) := h3
    have HZ3 : Hid (SB w.heap.size sn0 (.slice none 0 0) (.slice none 0 0) (.slice none 0 0) w3) := Blk.offR HZ2.out ho3 (by omega)
    have HA3 : Hid (ArgS w3 _ (L.1.take 20)) := HA.out w3 (strs_offR HS2.out ho3 (by omega))
    have o3 : Off b w w3 := o2.trans ho3
    have z3 := ho3.size
    clear h3 ho3 H2 HZ2 hD HA HS2 o2
    go_wp2_with fail
    refine (specOpen tOut F.1 D.1 _ (L.1.take 20) w3 HA3.out (by decide) (by omega) HY.out (by omega)).mono ?_
    rintro e w4 ⟨⟨v1, v2, v3, he, hr, _⟩, hb4⟩
    have hfine := open_fine tOut F.1 D.1 (L.1.take 20)
    obtain ⟨s0, hs0⟩ : ∃ s0, openN tOut F.1 D.1 (L.1.take 20) = s0 := ⟨_, rfl⟩
    have he2 : e = .returned (.agg #[.int .i64 s0.ph, .string s0.buf, .string s0.he, .string s0.fr, .string s0.bo, v1, .int .i64 (s0.nx : Int), v2, v3]) := by rw [← hs0]; exact he
    have S4 : SV w4 w3.heap.size v1 v2 v3 s0 := by rw [← hs0]; exact hr
    have HFi0 : Hid (Fine s0) := by rw [← hs0]; exact hfine
    have HS0 : Hid (openN tOut F.1 D.1 (L.1.take 20) = s0) := hs0
    subst he2
    obtain ⟨m1, j1, hx1⟩ := strs_form2 S4.1
    obtain ⟨m2, j2, hx2⟩ := bls_form S4.2.1
    obtain ⟨m3, j3, hx3⟩ := vds_formD S4.2.2
    subst hx1 hx2 hx3
    have HS4 : Hid (SV w4 w3.heap.size _ _ _ s0) := S4
    have HB4 : Hid (Below w3.heap.size w3 w4) := hb4
    clear he hr hfine hs0 S4 hb4 HA3
    go_wp2_with fail
    generalize hW4 : World.alloc _ _ = W4
    have HSs : Hid (Ses w3.heap.size w4.heap.size s0 (.slice m1 s0.R.length j1) (.slice m2 s0.T.length j2) (.slice m3 s0.V.length j3) W4) := by show Ses _ _ _ _ _ _ _; rw [← hW4]; exact Ses.new _ HS4.out HB4.out.size
    have b4 : Below w3.heap.size w3 W4 := by rw [← hW4]; exact HB4.out.trans ((below1 _ _).mono HB4.out.size)
    have H4 : Hid (RdAt W4 b cv B D.2) := H3.out.below b4 (Nat.le_refl _)
    have HZ4 : Hid (SB w.heap.size sn0 (.slice none 0 0) (.slice none 0 0) (.slice none 0 0) W4) := SB.below HZ3.out b4
    have o4 : Off b w W4 := o3.trans (Off.of_below b4)
    have z4 := b4.size
    have z34 := HB4.out.size
    clear hW4 HS4 HB4 H3 HZ3 o3 b4
    refine (rdNext b D.2 cv B W4 H4.out).mono ?_
    rintro e w5 ⟨rfl, h5, ho5⟩
    have hc5 := nx_lt B D.2
    generalize hcE : nx B D.2 = c at hc5 ⊢
    generalize hqE : px B D.2 = q5 at h5
    have H5 : Hid (RdAt w5 b cv B q5) := h5
    have HS5 : Hid (Ses w3.heap.size w4.heap.size s0 (.slice m1 s0.R.length j1) (.slice m2 s0.T.length j2) (.slice m3 s0.V.length j3) w5) := HSs.out.offR ho5 (by omega)
    have HZ5 : Hid (SB w.heap.size sn0 (.slice none 0 0) (.slice none 0 0) (.slice none 0 0) w5) := Blk.offR HZ4.out ho5 (by omega)
    have o5 : Off b w w5 := o4.trans ho5
    have z5 := ho5.size
    obtain ⟨Z, hZ, HE⟩ : ∃ Z, sesGo (c % 14) B q5 s0 = Z ∧ Hid (sesF B p = Z) := ⟨_, rfl, by show sesF B p = _; unfold sesF; rw [HF.out, HL.out, HD.out, hcE, hqE, HS0.out]⟩
    clear hcE hqE h5 ho5 HSs HZ4 o4 H4 HF HL HD HS0
    go_wp2_with fail
    go_loopw [6] (fun nv wr => ∃ (n q : Nat) (s : Sn) (y1 y2 y3 : Option Addr) (k1 k2 k3 : Nat), nv = .int .i64 n ∧ n ≤ 13 ∧ Hid (sesGo n B q s = Z) ∧ Hid (Fine s) ∧ Hid (Ses w3.heap.size w4.heap.size s (.slice y1 s.R.length k1) (.slice y2 s.T.length k2) (.slice y3 s.V.length k3) wr) ∧ Hid (SB w.heap.size sn0 (.slice none 0 0) (.slice none 0 0) (.slice none 0 0) wr) ∧ Hid (RdAt wr b cv B q) ∧ Off b w wr ∧ w5.heap.size ≤ wr.heap.size) (fun nv _ => (intOf nv).toNat)
    case atStart => exact ⟨c % 14, q5, s0, _, _, _, _, _, _, by go_num, by omega, hZ, HFi0, HS5, HZ5, H5, o5, Nat.le_refl _⟩
    case round =>
      obtain ⟨n, q, s, y1, y2, y3, k1, k2, k3, rfl, hn13, HG, HFi, HSr, HZr, HR, orr, zr⟩ := hrel
      have hph := HFi.out.ph
      obtain ⟨t0, t1, t2, t3, t4, t5, t6, t7, t8⟩ := HSr.out.sb.cells
      have ltS : w4.heap.size < wr.heap.size := HSr.out.sb.lt
      by_cases hn : 0 < n
      · go_wp2_with fail
        refine (specGood s.ph wr (by omega) (by omega)).mono ?_
        rintro e w6 ⟨rfl, hb6⟩
        have hgs := goodF_size s.ph
        have HS6 : Hid (Ses w3.heap.size w4.heap.size s (.slice y1 s.R.length k1) (.slice y2 s.T.length k2) (.slice y3 s.V.length k3) w6) := HSr.out.below hb6
        have HZ6 : Hid (SB w.heap.size sn0 (.slice none 0 0) (.slice none 0 0) (.slice none 0 0) w6) := SB.below HZr.out hb6
        have H6 : Hid (RdAt w6 b cv B q) := HR.out.below hb6 (Nat.le_refl _)
        have o6 : Off b w w6 := orr.trans (Off.of_below hb6)
        have z6 := hb6.size
        clear hb6 HSr HZr HR orr t0 t1 t2 t3 t4 t5 t6 t7 t8
        go_wp2_with fail
        refine (rdNext b q cv B w6 H6.out).mono ?_
        rintro e w7 ⟨rfl, h7, ho7⟩
        have hc7 := nx_lt B q
        obtain ⟨k, rfl⟩ : ∃ k, n = k + 1 := ⟨n - 1, by omega⟩
        have H7 : Hid (RdAt w7 b cv B (px B q)) := h7
        have HS7 : Hid (Ses w3.heap.size w4.heap.size s (.slice y1 s.R.length k1) (.slice y2 s.T.length k2) (.slice y3 s.V.length k3) w7) := HS6.out.offR ho7 (by omega)
        have HZ7 : Hid (SB w.heap.size sn0 (.slice none 0 0) (.slice none 0 0) (.slice none 0 0) w7) := Blk.offR HZ6.out ho7 (by omega)
        have o7 : Off b w w7 := o6.trans ho7
        have z7 := ho7.size
        clear h7 ho7 H6 HS6 HZ6 o6
        by_cases c4 : nx B q % 5 = 4
        · have HG2 : Hid (sesGo k B (repF B (px B q)).2 (feedS s 1 (repF B (px B q)).1).1 = Z) := by show _ = _; rw [← HG.out, sesGo, if_pos c4]
          have c4i : (nx B q : Int) % 5 = 4 := by omega
          clear HG
          generalize nx B q = c7 at *
          generalize px B q = q7 at *
          go_wp2_with fail
          refine (rdReplyX b q7 cv B w7 H7.out).mono ?_
          rintro e w8 ⟨rfl, h8, ho8⟩
          have hrs := repF_size B q7
          generalize repF B q7 = Y at HG2 h8 hrs ⊢
          have H8 : Hid (RdAt w8 b cv B Y.2) := h8
          have HS8 : Hid (Ses w3.heap.size w4.heap.size s (.slice y1 s.R.length k1) (.slice y2 s.T.length k2) (.slice y3 s.V.length k3) w8) := HS7.out.offR ho8 (by omega)
          have HZ8 : Hid (SB w.heap.size sn0 (.slice none 0 0) (.slice none 0 0) (.slice none 0 0) w8) := Blk.offR HZ7.out ho8 (by omega)
          have o8 : Off b w w8 := o7.trans ho8
          have z8 := ho8.size
          obtain ⟨t0, t1, t2, t3, t4, t5, t6, t7, t8⟩ := HS8.out.sb.cells
          have ltS8 : w4.heap.size < w8.heap.size := HS8.out.sb.lt
          clear h8 ho8 H7 HS7 HZ7 o7
          go_wp2_with fail
          refine (specFeed s.ph (s.nx : Int) s.buf s.he s.fr s.bo _ _ _ s.R s.T s.V 1 Y.1 w3.heap.size w8 HS8.out.sv.1 HS8.out.sv.2.1 HS8.out.sv.2.2 HFi.out.small.1 (by omega)).mono ?_
          rintro e w9 ⟨⟨x1, x2, x3, rfl, S9⟩, hb9⟩
          have HFq : Hid (Fine (feedN s.ph (s.nx : Int) s.buf s.he s.fr s.bo s.R s.T s.V 1 Y.1).1) := feedN_fine _ _ _ _ _ _ _ _ _ _ _
          have HG3 : Hid (sesGo k B Y.2 (feedN s.ph (s.nx : Int) s.buf s.he s.fr s.bo s.R s.T s.V 1 Y.1).1 = Z) := HG2.out
          generalize feedN s.ph (s.nx : Int) s.buf s.he s.fr s.bo s.R s.T s.V 1 Y.1 = Q at S9 HFq HG3 ⊢
          obtain ⟨m1, j1, hx1⟩ := strs_form2 S9.1
          obtain ⟨m2, j2, hx2⟩ := bls_form S9.2.1
          obtain ⟨m3, j3, hx3⟩ := vds_formD S9.2.2
          subst hx1 hx2 hx3
          have HP : Hid _ := HS8.out.put hb9 S9
          have HB9 : Hid (SB w4.heap.size s _ _ _ w9) := SB.below HS8.out.sb hb9
          have HZ9 : Hid (SB w.heap.size sn0 (.slice none 0 0) (.slice none 0 0) (.slice none 0 0) w9) := SB.below HZ8.out hb9
          have H9 : Hid (RdAt w9 b cv B Y.2) := H8.out.below hb9 (Nat.le_refl _)
          have o9 : Off b w w9 := o8.trans (Off.of_below hb9)
          have z9 := hb9.size
          obtain ⟨a0, a1, a2, a3, a4, a5, a6, a7, a8⟩ := HB9.out.cells
          obtain ⟨f0, f1, f2, f3, f4, f5, f6, f7, f8⟩ := HB9.out.frees
          have ltB : w4.heap.size < w9.heap.size := HB9.out.lt
          clear S9 hb9 HS8 HZ8 H8 o8 HG2
          go_wp2
          go_roundw
          case rel => exact ⟨k, Y.2, Q.1, _, _, _, _, _, _, by go_num, by omega, HG3, HFq, HP, sb_nine HZ9.out (by omega) _ _ _ _ _ _ _ _ _, H.out.carry H9.out (below_nine (Below.refl _ _) (by omega) _ _ _ _ _ _ _ _ _), o9.carry (below_nine (Below.refl _ _) (by omega) _ _ _ _ _ _ _ _ _) (Nat.le_refl _), by simp; omega⟩
          case measure => simp [intOf]
        · have HG2 : Hid (sesGo k B (px B q) (feedS s 1 (goodF s.ph)).1 = Z) := by show _ = _; rw [← HG.out, sesGo, if_neg c4]
          have c4i : ¬ (nx B q : Int) % 5 = 4 := by omega
          clear HG
          generalize nx B q = c7 at *
          generalize px B q = q7 at *
          obtain ⟨w8, hw8⟩ : ∃ w8 : World, w8 = w7 := ⟨w7, rfl⟩
          subst hw8
          generalize goodF s.ph = Y at HG2 hgs ⊢
          have HS8 : Hid (Ses w3.heap.size w4.heap.size s (.slice y1 s.R.length k1) (.slice y2 s.T.length k2) (.slice y3 s.V.length k3) w8) := HS7
          have HZ8 : Hid (SB w.heap.size sn0 (.slice none 0 0) (.slice none 0 0) (.slice none 0 0) w8) := HZ7
          have H8 : Hid (RdAt w8 b cv B q7) := H7
          have o8 : Off b w w8 := o7
          obtain ⟨t0, t1, t2, t3, t4, t5, t6, t7, t8⟩ := HS8.out.sb.cells
          have ltS8 : w4.heap.size < w8.heap.size := HS8.out.sb.lt
          clear H7 HS7 HZ7 o7
          go_wp2_with fail
          refine (specFeed s.ph (s.nx : Int) s.buf s.he s.fr s.bo _ _ _ s.R s.T s.V 1 Y w3.heap.size w8 HS8.out.sv.1 HS8.out.sv.2.1 HS8.out.sv.2.2 HFi.out.small.1 (by omega)).mono ?_
          rintro e w9 ⟨⟨x1, x2, x3, rfl, S9⟩, hb9⟩
          have HFq : Hid (Fine (feedN s.ph (s.nx : Int) s.buf s.he s.fr s.bo s.R s.T s.V 1 Y).1) := feedN_fine _ _ _ _ _ _ _ _ _ _ _
          have HG3 : Hid (sesGo k B q7 (feedN s.ph (s.nx : Int) s.buf s.he s.fr s.bo s.R s.T s.V 1 Y).1 = Z) := HG2.out
          generalize feedN s.ph (s.nx : Int) s.buf s.he s.fr s.bo s.R s.T s.V 1 Y = Q at S9 HFq HG3 ⊢
          obtain ⟨m1, j1, hx1⟩ := strs_form2 S9.1
          obtain ⟨m2, j2, hx2⟩ := bls_form S9.2.1
          obtain ⟨m3, j3, hx3⟩ := vds_formD S9.2.2
          subst hx1 hx2 hx3
          have HP : Hid _ := HS8.out.put hb9 S9
          have HB9 : Hid (SB w4.heap.size s _ _ _ w9) := SB.below HS8.out.sb hb9
          have HZ9 : Hid (SB w.heap.size sn0 (.slice none 0 0) (.slice none 0 0) (.slice none 0 0) w9) := SB.below HZ8.out hb9
          have H9 : Hid (RdAt w9 b cv B q7) := H8.out.below hb9 (Nat.le_refl _)
          have o9 : Off b w w9 := o8.trans (Off.of_below hb9)
          have z9 := hb9.size
          obtain ⟨a0, a1, a2, a3, a4, a5, a6, a7, a8⟩ := HB9.out.cells
          obtain ⟨f0, f1, f2, f3, f4, f5, f6, f7, f8⟩ := HB9.out.frees
          have ltB : w4.heap.size < w9.heap.size := HB9.out.lt
          clear S9 hb9 HS8 HZ8 H8 o8 HG2
          go_wp2
          go_roundw
          case rel => exact ⟨k, q7, Q.1, _, _, _, _, _, _, by go_num, by omega, HG3, HFq, HP, sb_nine HZ9.out (by omega) _ _ _ _ _ _ _ _ _, H.out.carry H9.out (below_nine (Below.refl _ _) (by omega) _ _ _ _ _ _ _ _ _), o9.carry (below_nine (Below.refl _ _) (by omega) _ _ _ _ _ _ _ _ _) (Nat.le_refl _), by simp; omega⟩
          case measure => simp [intOf]
      · obtain rfl : n = 0 := by omega
        obtain rfl : Z = (s, q) := HG.out.symm
        obtain ⟨r0, r1, r2, r3, r4, r5, r6, r7, r8⟩ := HZr.out.zero
        obtain ⟨rf0, rf1, rf2, rf3, rf4, rf5, rf6, rf7, rf8⟩ := HZr.out.frees
        have zl : w.heap.size < wr.heap.size := HZr.out.lt
        go_wp2
        refine bodyPost_ret (v := .agg #[.int .i64 s.ph, .string s.buf, .string s.he, .string s.fr, .string s.bo, .slice y1 s.R.length k1, .int .i64 (s.nx : Int), .slice y2 s.T.length k2, .slice y3 s.V.length k3]) (by simp [results, Tryz.results52, go_sem, r0, r1, r2, r3, r4, r5, r6, r7, r8]) rfl ?_
        rw [HE.out]
        refine ⟨⟨_, _, _, rfl, ?_⟩, ?_, ?_⟩
        · exact (HSr.out.sv.nine (b := w.heap.size) (by omega) _ _ _ _ _ _ _ _ _).le (by omega)
        · exact H.out.carry HR.out (below_nine (Below.refl _ _) (Nat.le_refl _) _ _ _ _ _ _ _ _ _)
        · exact orr.carry (below_nine (Below.refl _ _) (Nat.le_refl _) _ _ _ _ _ _ _ _ _) (Nat.le_refl _)
  · have HA : Hid (∀ wx, Strs wx w1.heap.size (.slice av L.1.length ac) L.1 → ArgS wx (.slice av L.1.length ac) (L.1.take 20)) := fun wx hx => by
      rw [List.take_of_length_le h20]; exact strs_args hx (by unfold maxLen; omega) (fun x hx => by have := HRS.out x hx; unfold maxLen; omega)
    have h20i : ¬ (20 : Int) < L.1.length := by omega
    go_wp2_with fail
    refine (rdBodyX b L.2 cv B w2 H2.out).mono ?_
    rintro e w3 ⟨rfl, h3, ho3⟩
    have hbs := bodF_size B L.2
    generalize hD : bodF B L.2 = D at h3 hbs ⊢
    have HD : Hid (bodF B L.2 = D) := hD
    have H3 : Hid (RdAt w3 b cv B D.2) := h3
    have HZ3 : Hid (SB w.heap.size sn0 (.slice none 0 0) (.slice none 0 0) (.slice none 0 0) w3) := Blk.offR HZ2.out ho3 (by omega)
    have HA3 : Hid (ArgS w3 _ (L.1.take 20)) := HA.out w3 (strs_offR HS2.out ho3 (by omega))
    have o3 : Off b w w3 := o2.trans ho3
    have z3 := ho3.size
    clear h3 ho3 H2 HZ2 hD HA HS2 o2
    go_wp2_with fail
    refine (specOpen tOut F.1 D.1 _ (L.1.take 20) w3 HA3.out (by decide) (by omega) HY.out (by omega)).mono ?_
    rintro e w4 ⟨⟨v1, v2, v3, he, hr, _⟩, hb4⟩
    have hfine := open_fine tOut F.1 D.1 (L.1.take 20)
    obtain ⟨s0, hs0⟩ : ∃ s0, openN tOut F.1 D.1 (L.1.take 20) = s0 := ⟨_, rfl⟩
    have he2 : e = .returned (.agg #[.int .i64 s0.ph, .string s0.buf, .string s0.he, .string s0.fr, .string s0.bo, v1, .int .i64 (s0.nx : Int), v2, v3]) := by rw [← hs0]; exact he
    have S4 : SV w4 w3.heap.size v1 v2 v3 s0 := by rw [← hs0]; exact hr
    have HFi0 : Hid (Fine s0) := by rw [← hs0]; exact hfine
    have HS0 : Hid (openN tOut F.1 D.1 (L.1.take 20) = s0) := hs0
    subst he2
    obtain ⟨m1, j1, hx1⟩ := strs_form2 S4.1
    obtain ⟨m2, j2, hx2⟩ := bls_form S4.2.1
    obtain ⟨m3, j3, hx3⟩ := vds_formD S4.2.2
    subst hx1 hx2 hx3
    have HS4 : Hid (SV w4 w3.heap.size _ _ _ s0) := S4
    have HB4 : Hid (Below w3.heap.size w3 w4) := hb4
    clear he hr hfine hs0 S4 hb4 HA3
    go_wp2_with fail
    generalize hW4 : World.alloc _ _ = W4
    have HSs : Hid (Ses w3.heap.size w4.heap.size s0 (.slice m1 s0.R.length j1) (.slice m2 s0.T.length j2) (.slice m3 s0.V.length j3) W4) := by show Ses _ _ _ _ _ _ _; rw [← hW4]; exact Ses.new _ HS4.out HB4.out.size
    have b4 : Below w3.heap.size w3 W4 := by rw [← hW4]; exact HB4.out.trans ((below1 _ _).mono HB4.out.size)
    have H4 : Hid (RdAt W4 b cv B D.2) := H3.out.below b4 (Nat.le_refl _)
    have HZ4 : Hid (SB w.heap.size sn0 (.slice none 0 0) (.slice none 0 0) (.slice none 0 0) W4) := SB.below HZ3.out b4
    have o4 : Off b w W4 := o3.trans (Off.of_below b4)
    have z4 := b4.size
    have z34 := HB4.out.size
    clear hW4 HS4 HB4 H3 HZ3 o3 b4
    refine (rdNext b D.2 cv B W4 H4.out).mono ?_
    rintro e w5 ⟨rfl, h5, ho5⟩
    have hc5 := nx_lt B D.2
    generalize hcE : nx B D.2 = c at hc5 ⊢
    generalize hqE : px B D.2 = q5 at h5
    have H5 : Hid (RdAt w5 b cv B q5) := h5
    have HS5 : Hid (Ses w3.heap.size w4.heap.size s0 (.slice m1 s0.R.length j1) (.slice m2 s0.T.length j2) (.slice m3 s0.V.length j3) w5) := HSs.out.offR ho5 (by omega)
    have HZ5 : Hid (SB w.heap.size sn0 (.slice none 0 0) (.slice none 0 0) (.slice none 0 0) w5) := Blk.offR HZ4.out ho5 (by omega)
    have o5 : Off b w w5 := o4.trans ho5
    have z5 := ho5.size
    obtain ⟨Z, hZ, HE⟩ : ∃ Z, sesGo (c % 14) B q5 s0 = Z ∧ Hid (sesF B p = Z) := ⟨_, rfl, by show sesF B p = _; unfold sesF; rw [HF.out, HL.out, HD.out, hcE, hqE, HS0.out]⟩
    clear hcE hqE h5 ho5 HSs HZ4 o4 H4 HF HL HD HS0
    go_wp2_with fail
    go_loopw [6] (fun nv wr => ∃ (n q : Nat) (s : Sn) (y1 y2 y3 : Option Addr) (k1 k2 k3 : Nat), nv = .int .i64 n ∧ n ≤ 13 ∧ Hid (sesGo n B q s = Z) ∧ Hid (Fine s) ∧ Hid (Ses w3.heap.size w4.heap.size s (.slice y1 s.R.length k1) (.slice y2 s.T.length k2) (.slice y3 s.V.length k3) wr) ∧ Hid (SB w.heap.size sn0 (.slice none 0 0) (.slice none 0 0) (.slice none 0 0) wr) ∧ Hid (RdAt wr b cv B q) ∧ Off b w wr ∧ w5.heap.size ≤ wr.heap.size) (fun nv _ => (intOf nv).toNat)
    case atStart => exact ⟨c % 14, q5, s0, _, _, _, _, _, _, by go_num, by omega, hZ, HFi0, HS5, HZ5, H5, o5, Nat.le_refl _⟩
    case round =>
      obtain ⟨n, q, s, y1, y2, y3, k1, k2, k3, rfl, hn13, HG, HFi, HSr, HZr, HR, orr, zr⟩ := hrel
      have hph := HFi.out.ph
      obtain ⟨t0, t1, t2, t3, t4, t5, t6, t7, t8⟩ := HSr.out.sb.cells
      have ltS : w4.heap.size < wr.heap.size := HSr.out.sb.lt
      by_cases hn : 0 < n
      · go_wp2_with fail
        refine (specGood s.ph wr (by omega) (by omega)).mono ?_
        rintro e w6 ⟨rfl, hb6⟩
        have hgs := goodF_size s.ph
        have HS6 : Hid (Ses w3.heap.size w4.heap.size s (.slice y1 s.R.length k1) (.slice y2 s.T.length k2) (.slice y3 s.V.length k3) w6) := HSr.out.below hb6
        have HZ6 : Hid (SB w.heap.size sn0 (.slice none 0 0) (.slice none 0 0) (.slice none 0 0) w6) := SB.below HZr.out hb6
        have H6 : Hid (RdAt w6 b cv B q) := HR.out.below hb6 (Nat.le_refl _)
        have o6 : Off b w w6 := orr.trans (Off.of_below hb6)
        have z6 := hb6.size
        clear hb6 HSr HZr HR orr t0 t1 t2 t3 t4 t5 t6 t7 t8
        go_wp2_with fail
        refine (rdNext b q cv B w6 H6.out).mono ?_
        rintro e w7 ⟨rfl, h7, ho7⟩
        have hc7 := nx_lt B q
        obtain ⟨k, rfl⟩ : ∃ k, n = k + 1 := ⟨n - 1, by omega⟩
        have H7 : Hid (RdAt w7 b cv B (px B q)) := h7
        have HS7 : Hid (Ses w3.heap.size w4.heap.size s (.slice y1 s.R.length k1) (.slice y2 s.T.length k2) (.slice y3 s.V.length k3) w7) := HS6.out.offR ho7 (by omega)
        have HZ7 : Hid (SB w.heap.size sn0 (.slice none 0 0) (.slice none 0 0) (.slice none 0 0) w7) := Blk.offR HZ6.out ho7 (by omega)
        have o7 : Off b w w7 := o6.trans ho7
        have z7 := ho7.size
        clear h7 ho7 H6 HS6 HZ6 o6
        by_cases c4 : nx B q % 5 = 4
        · have HG2 : Hid (sesGo k B (repF B (px B q)).2 (feedS s 1 (repF B (px B q)).1).1 = Z) := by show _ = _; rw [← HG.out, sesGo, if_pos c4]
          have c4i : (nx B q : Int) % 5 = 4 := by omega
          clear HG
          generalize nx B q = c7 at *
          generalize px B q = q7 at *
          go_wp2_with fail
          refine (rdReplyX b q7 cv B w7 H7.out).mono ?_
          rintro e w8 ⟨rfl, h8, ho8⟩
          have hrs := repF_size B q7
          generalize repF B q7 = Y at HG2 h8 hrs ⊢
          have H8 : Hid (RdAt w8 b cv B Y.2) := h8
          have HS8 : Hid (Ses w3.heap.size w4.heap.size s (.slice y1 s.R.length k1) (.slice y2 s.T.length k2) (.slice y3 s.V.length k3) w8) := HS7.out.offR ho8 (by omega)
          have HZ8 : Hid (SB w.heap.size sn0 (.slice none 0 0) (.slice none 0 0) (.slice none 0 0) w8) := Blk.offR HZ7.out ho8 (by omega)
          have o8 : Off b w w8 := o7.trans ho8
          have z8 := ho8.size
          obtain ⟨t0, t1, t2, t3, t4, t5, t6, t7, t8⟩ := HS8.out.sb.cells
          have ltS8 : w4.heap.size < w8.heap.size := HS8.out.sb.lt
          clear h8 ho8 H7 HS7 HZ7 o7
          go_wp2_with fail
          refine (specFeed s.ph (s.nx : Int) s.buf s.he s.fr s.bo _ _ _ s.R s.T s.V 1 Y.1 w3.heap.size w8 HS8.out.sv.1 HS8.out.sv.2.1 HS8.out.sv.2.2 HFi.out.small.1 (by omega)).mono ?_
          rintro e w9 ⟨⟨x1, x2, x3, rfl, S9⟩, hb9⟩
          have HFq : Hid (Fine (feedN s.ph (s.nx : Int) s.buf s.he s.fr s.bo s.R s.T s.V 1 Y.1).1) := feedN_fine _ _ _ _ _ _ _ _ _ _ _
          have HG3 : Hid (sesGo k B Y.2 (feedN s.ph (s.nx : Int) s.buf s.he s.fr s.bo s.R s.T s.V 1 Y.1).1 = Z) := HG2.out
          generalize feedN s.ph (s.nx : Int) s.buf s.he s.fr s.bo s.R s.T s.V 1 Y.1 = Q at S9 HFq HG3 ⊢
          obtain ⟨m1, j1, hx1⟩ := strs_form2 S9.1
          obtain ⟨m2, j2, hx2⟩ := bls_form S9.2.1
          obtain ⟨m3, j3, hx3⟩ := vds_formD S9.2.2
          subst hx1 hx2 hx3
          have HP : Hid _ := HS8.out.put hb9 S9
          have HB9 : Hid (SB w4.heap.size s _ _ _ w9) := SB.below HS8.out.sb hb9
          have HZ9 : Hid (SB w.heap.size sn0 (.slice none 0 0) (.slice none 0 0) (.slice none 0 0) w9) := SB.below HZ8.out hb9
          have H9 : Hid (RdAt w9 b cv B Y.2) := H8.out.below hb9 (Nat.le_refl _)
          have o9 : Off b w w9 := o8.trans (Off.of_below hb9)
          have z9 := hb9.size
          obtain ⟨a0, a1, a2, a3, a4, a5, a6, a7, a8⟩ := HB9.out.cells
          obtain ⟨f0, f1, f2, f3, f4, f5, f6, f7, f8⟩ := HB9.out.frees
          have ltB : w4.heap.size < w9.heap.size := HB9.out.lt
          clear S9 hb9 HS8 HZ8 H8 o8 HG2
          go_wp2
          go_roundw
          case rel => exact ⟨k, Y.2, Q.1, _, _, _, _, _, _, by go_num, by omega, HG3, HFq, HP, sb_nine HZ9.out (by omega) _ _ _ _ _ _ _ _ _, H.out.carry H9.out (below_nine (Below.refl _ _) (by omega) _ _ _ _ _ _ _ _ _), o9.carry (below_nine (Below.refl _ _) (by omega) _ _ _ _ _ _ _ _ _) (Nat.le_refl _), by simp; omega⟩
          case measure => simp [intOf]
        · have HG2 : Hid (sesGo k B (px B q) (feedS s 1 (goodF s.ph)).1 = Z) := by show _ = _; rw [← HG.out, sesGo, if_neg c4]
          have c4i : ¬ (nx B q : Int) % 5 = 4 := by omega
          clear HG
          generalize nx B q = c7 at *
          generalize px B q = q7 at *
          obtain ⟨w8, hw8⟩ : ∃ w8 : World, w8 = w7 := ⟨w7, rfl⟩
          subst hw8
          generalize goodF s.ph = Y at HG2 hgs ⊢
          have HS8 : Hid (Ses w3.heap.size w4.heap.size s (.slice y1 s.R.length k1) (.slice y2 s.T.length k2) (.slice y3 s.V.length k3) w8) := HS7
          have HZ8 : Hid (SB w.heap.size sn0 (.slice none 0 0) (.slice none 0 0) (.slice none 0 0) w8) := HZ7
          have H8 : Hid (RdAt w8 b cv B q7) := H7
          have o8 : Off b w w8 := o7
          obtain ⟨t0, t1, t2, t3, t4, t5, t6, t7, t8⟩ := HS8.out.sb.cells
          have ltS8 : w4.heap.size < w8.heap.size := HS8.out.sb.lt
          clear H7 HS7 HZ7 o7
          go_wp2_with fail
          refine (specFeed s.ph (s.nx : Int) s.buf s.he s.fr s.bo _ _ _ s.R s.T s.V 1 Y w3.heap.size w8 HS8.out.sv.1 HS8.out.sv.2.1 HS8.out.sv.2.2 HFi.out.small.1 (by omega)).mono ?_
          rintro e w9 ⟨⟨x1, x2, x3, rfl, S9⟩, hb9⟩
          have HFq : Hid (Fine (feedN s.ph (s.nx : Int) s.buf s.he s.fr s.bo s.R s.T s.V 1 Y).1) := feedN_fine _ _ _ _ _ _ _ _ _ _ _
          have HG3 : Hid (sesGo k B q7 (feedN s.ph (s.nx : Int) s.buf s.he s.fr s.bo s.R s.T s.V 1 Y).1 = Z) := HG2.out
          generalize feedN s.ph (s.nx : Int) s.buf s.he s.fr s.bo s.R s.T s.V 1 Y = Q at S9 HFq HG3 ⊢
          obtain ⟨m1, j1, hx1⟩ := strs_form2 S9.1
          obtain ⟨m2, j2, hx2⟩ := bls_form S9.2.1
          obtain ⟨m3, j3, hx3⟩ := vds_formD S9.2.2
          subst hx1 hx2 hx3
          have HP : Hid _ := HS8.out.put hb9 S9
          have HB9 : Hid (SB w4.heap.size s _ _ _ w9) := SB.below HS8.out.sb hb9
          have HZ9 : Hid (SB w.heap.size sn0 (.slice none 0 0) (.slice none 0 0) (.slice none 0 0) w9) := SB.below HZ8.out hb9
          have H9 : Hid (RdAt w9 b cv B q7) := H8.out.below hb9 (Nat.le_refl _)
          have o9 : Off b w w9 := o8.trans (Off.of_below hb9)
          have z9 := hb9.size
          obtain ⟨a0, a1, a2, a3, a4, a5, a6, a7, a8⟩ := HB9.out.cells
          obtain ⟨f0, f1, f2, f3, f4, f5, f6, f7, f8⟩ := HB9.out.frees
          have ltB : w4.heap.size < w9.heap.size := HB9.out.lt
          clear S9 hb9 HS8 HZ8 H8 o8 HG2
          go_wp2
          go_roundw
          case rel => exact ⟨k, q7, Q.1, _, _, _, _, _, _, by go_num, by omega, HG3, HFq, HP, sb_nine HZ9.out (by omega) _ _ _ _ _ _ _ _ _, H.out.carry H9.out (below_nine (Below.refl _ _) (by omega) _ _ _ _ _ _ _ _ _), o9.carry (below_nine (Below.refl _ _) (by omega) _ _ _ _ _ _ _ _ _) (Nat.le_refl _), by simp; omega⟩
          case measure => simp [intOf]
      · obtain rfl : n = 0 := by omega
        obtain rfl : Z = (s, q) := HG.out.symm
        obtain ⟨r0, r1, r2, r3, r4, r5, r6, r7, r8⟩ := HZr.out.zero
        obtain ⟨rf0, rf1, rf2, rf3, rf4, rf5, rf6, rf7, rf8⟩ := HZr.out.frees
        have zl : w.heap.size < wr.heap.size := HZr.out.lt
        go_wp2
        refine bodyPost_ret (v := .agg #[.int .i64 s.ph, .string s.buf, .string s.he, .string s.fr, .string s.bo, .slice y1 s.R.length k1, .int .i64 (s.nx : Int), .slice y2 s.T.length k2, .slice y3 s.V.length k3]) (by simp [results, Tryz.results52, go_sem, r0, r1, r2, r3, r4, r5, r6, r7, r8]) rfl ?_
        rw [HE.out]
        refine ⟨⟨_, _, _, rfl, ?_⟩, ?_, ?_⟩
        · exact (HSr.out.sv.nine (b := w.heap.size) (by omega) _ _ _ _ _ _ _ _ _).le (by omega)
        · exact H.out.carry HR.out (below_nine (Below.refl _ _) (Nat.le_refl _) _ _ _ _ _ _ _ _ _)
        · exact orr.carry (below_nine (Below.refl _ _) (Nat.le_refl _) _ _ _ _ _ _ _ _ _) (Nat.le_refl _)
end Go.Proofs.YtngcjlghjidnjaaGreatDoor
namespace Go.Proofs.YtngcjlghjidnjaaGreatDoor
open Go.ChangeShapes Go.WideShapes Go.ChangeAt Go.RowKit

set_option maxHeartbeats 1000000 in
set_option maxRecDepth 100000 in
theorem sameT (v1 v2 : Value) (L : List ByteArray) (w : World) (h1 : ArgS w v1 L) (h2 : ArgS w v2 L) :
    Calls Tryz.prog 35 #[v1, v2] w fun e w' => e = .returned (.bool true) ∧ Below w.heap.size w w' := by
  obtain ⟨hL, _, hf1⟩ := h1
  obtain ⟨_, _, hf2⟩ := h2
  unfold maxLen at hL
  by_cases h0 : L = []
  · subst h0
    obtain ⟨a1, c1, rfl⟩ : ∃ a c, v1 = .slice a 0 c := by
      rcases hf1 with ⟨_, h⟩ | ⟨b, off, cap, rfl, _⟩
      · exact h
      · exact ⟨_, _, rfl⟩
    obtain ⟨a2, c2, rfl⟩ : ∃ a c, v2 = .slice a 0 c := by
      rcases hf2 with ⟨_, h⟩ | ⟨b, off, cap, rfl, _⟩
      · exact h
      · exact ⟨_, _, rfl⟩
    clear hf1 hf2
    go_enter Tryz.func35, Tryz.ntmps35
    go_wp2
    refine wp_loop_rounds 1 ?_; rw [rounds_succ]
    go_wp2
    go_ret
    exact ⟨rfl, Below.refl _ _⟩
  · obtain ⟨g1, o1, c1, hv1, hc1⟩ : ∃ b off cap, v1 = .slice (some ⟨b, off, none⟩) L.length cap ∧ ∀ i (hi : i < L.length), w.cell? ⟨b, off + i, none⟩ = some (.string L[i]) := by
      rcases hf1 with ⟨h, _⟩ | ⟨b, off, cap, hv, _, hc⟩
      · exact absurd h h0
      · exact ⟨b, off, cap, hv, hc⟩
    obtain ⟨g2, o2, c2, hv2, hc2⟩ : ∃ b off cap, v2 = .slice (some ⟨b, off, none⟩) L.length cap ∧ ∀ i (hi : i < L.length), w.cell? ⟨b, off + i, none⟩ = some (.string L[i]) := by
      rcases hf2 with ⟨h, _⟩ | ⟨b, off, cap, hv, _, hc⟩
      · exact absurd h h0
      · exact ⟨b, off, cap, hv, hc⟩
    have HC1 : Hid (∀ i (hi : i < L.length), w.cell? ⟨g1, o1 + i, none⟩ = some (.string L[i])) := hc1
    have HC2 : Hid (∀ i (hi : i < L.length), w.cell? ⟨g2, o2 + i, none⟩ = some (.string L[i])) := hc2
    subst hv1 hv2
    clear hf1 hf2 hc1 hc2
    go_enter Tryz.func35, Tryz.ntmps35
    go_wp2
    go_loop [5, 6, 14] (fun _ _ i => ∃ k : Nat, k ≤ L.length ∧ i = .int .i64 k) (fun _ _ i => L.length - (intOf i).toNat)
    case atStart => exact ⟨0, Nat.zero_le _, rfl⟩
    case round =>
      obtain ⟨k, hk, rfl⟩ := hrel
      by_cases hlt : k < L.length
      · have e1 := HC1.out k hlt
        have e2 := HC2.out k hlt
        generalize L[k] = X at e1 e2
        go_wp2
        go_round
        case rel => exact ⟨k + 1, by omega, by go_num⟩
        case measure => simp [intOf]; omega
      · go_wp2
        go_ret
        exact ⟨rfl, Below.refl _ _⟩
end Go.Proofs.YtngcjlghjidnjaaGreatDoor
namespace Go.Proofs.YtngcjlghjidnjaaGreatDoor
open Go.ChangeShapes Go.WideShapes Go.ChangeAt Go.RowKit
attribute [local go_sem ↓] Go.wp_at_zero Go.wp_at_succ

theorem bel_drewS {B : Nat} {w wr : World} (h : Below B w wr) (n : Nat) : Below B w (wr.drewN n) := ⟨h.os, h.tape, h.output, h.size, h.block⟩
theorem vds_form4 {w : World} {lo : Nat} {v : Value} {L : List Vd} (h : Vds w lo v L) : ∃ a c, v = .slice a L.length c := by
  rcases h.cases with ⟨e, e0⟩ | ⟨g, k, e, _⟩
  · exact ⟨none, 0, by rw [e, e0]; rfl⟩
  · exact ⟨_, _, e⟩
set_option maxHeartbeats 2000000 in
set_option maxRecDepth 100000 in
theorem sameV (v1 v2 : Value) (L : List Vd) (lo lo' : Nat) (w : World) (h1 : Vds w lo v1 L) (h2 : Vds w lo' v2 L) (hL : L.length ≤ 1048576) :
    Calls Tryz.prog 36 #[v1, v2] w fun e w' => e = .returned (.bool true) ∧ Below w.heap.size w w' := by
  by_cases h0 : L = []
  · subst h0
    obtain ⟨a1, c1, rfl⟩ : ∃ a c, v1 = .slice a 0 c := by
      rcases h1.cases with ⟨e, _⟩ | ⟨g, cap, e, _⟩
      · exact ⟨_, _, e⟩
      · exact ⟨_, _, e⟩
    obtain ⟨a2, c2, rfl⟩ : ∃ a c, v2 = .slice a 0 c := by
      rcases h2.cases with ⟨e, _⟩ | ⟨g, cap, e, _⟩
      · exact ⟨_, _, e⟩
      · exact ⟨_, _, e⟩
    clear h1 h2
    go_enter Tryz.func36, Tryz.ntmps36
    go_wp2
    refine wp_loop_rounds 1 ?_; rw [rounds_succ]
    go_wp2
    go_ret
    exact ⟨rfl, Below.refl _ _⟩
  · obtain ⟨g1, c1, hv1, VA⟩ : ∃ g cap, v1 = .slice (some ⟨g, 0, none⟩) L.length cap ∧ VdsAt w lo g cap L := by
      rcases h1.cases with ⟨_, e⟩ | h
      · exact absurd e h0
      · exact h
    obtain ⟨g2, c2, hv2, VB⟩ : ∃ g cap, v2 = .slice (some ⟨g, 0, none⟩) L.length cap ∧ VdsAt w lo' g cap L := by
      rcases h2.cases with ⟨_, e⟩ | h
      · exact absurd e h0
      · exact h
    have HA : Hid (Vds w lo v1 L) := h1
    have HB : Hid (Vds w lo' v2 L) := h2
    subst hv1 hv2
    clear h1 h2 VA VB
    go_enter Tryz.func36, Tryz.ntmps36
    go_wp2
    go_loopw [5, 6, 14] (fun _ _ i wr => ∃ k : Nat, k ≤ L.length ∧ i = .int .i64 k ∧ Below w.heap.size w wr) (fun _ _ i _ => L.length - (intOf i).toNat)
    case atStart => exact ⟨0, Nat.zero_le _, rfl, Below.refl _ _⟩
    case round =>
      obtain ⟨k, hk, rfl, hb⟩ := hrel
      by_cases hlt : k < L.length
      · have VA := (vds_below HA.out hb (Nat.le_refl _)).at.1
        have VB := (vds_below HB.out hb (Nat.le_refl _)).at.1
        obtain ⟨d0, d1, d2⟩ := VA.cell k hlt
        obtain ⟨e0, e1, e2⟩ := VB.cell k hlt
        have l1 := VA.lt
        have l2 := VB.lt
        generalize L[k] = X at d0 d1 d2 e0 e1 e2
        clear VA VB
        go_wp2_with fail
        go_quiet (fail)
        go_wp2
        go_roundw
        case rel => exact ⟨k + 1, by omega, by go_num, bel_drewS (hb.alloc hb.size _) _⟩
        case measure => simp [intOf]; omega
      · go_wp2
        go_ret
        exact ⟨rfl, hb⟩
set_option maxHeartbeats 4000000 in
set_option maxRecDepth 100000 in
theorem sameSess (s : Sn) (u1 u2 u3 v1 v2 v3 : Value) (lo lo' : Nat) (w : World) (h : SV w lo u1 u2 u3 s) (k : SV w lo' v1 v2 v3 s) (hR : s.R.length ≤ 20) (hT : s.T.length ≤ 20) (hV : s.V.length ≤ 20) (hs : ∀ x ∈ s.R, x.size ≤ 1048576) :
    Calls Tryz.prog 9 #[.agg #[.int .i64 s.ph, .string s.buf, .string s.he, .string s.fr, .string s.bo, u1, .int .i64 (s.nx : Int), u2, u3], .agg #[.int .i64 s.ph, .string s.buf, .string s.he, .string s.fr, .string s.bo, v1, .int .i64 (s.nx : Int), v2, v3]] w fun e w' => e = .returned (.bool true) ∧ Below w.heap.size w w' := by
  obtain ⟨p1, q1, hp1⟩ := strs_form2 h.1
  obtain ⟨p2, q2, hp2⟩ := bls_form h.2.1
  obtain ⟨p3, q3, hp3⟩ := vds_form4 h.2.2
  obtain ⟨r1, t1, hr1⟩ := strs_form2 k.1
  obtain ⟨r2, t2, hr2⟩ := bls_form k.2.1
  obtain ⟨r3, t3, hr3⟩ := vds_form4 k.2.2
  subst hp1 hp2 hp3 hr1 hr2 hr3
  have H : Hid (SV w lo _ _ _ s) := h
  have K : Hid (SV w lo' _ _ _ s) := k
  have HS : Hid (∀ x ∈ s.R, x.size ≤ maxLen) := fun x hx => by have := hs x hx; unfold maxLen; omega
  clear h k hs
  go_enter Tryz.func9, Tryz.ntmps9
  go_wp2_with fail
  generalize hW : World.alloc _ _ = W
  have HA : Hid (SB w.heap.size s (.slice p1 s.R.length q1) (.slice p2 s.T.length q2) (.slice p3 s.V.length q3) W) := by show SB _ _ _ _ _ _; rw [← hW]; exact (blk2 w _ _ _ _).1
  have HB : Hid (SB (w.heap.size + 1) s (.slice r1 s.R.length t1) (.slice r2 s.T.length t2) (.slice r3 s.V.length t3) W) := by show SB _ _ _ _ _ _; rw [← hW]; exact (blk2 w _ _ _ _).2
  have b0 : Below w.heap.size w W := by rw [← hW]; exact below2 _ _ _
  clear hW
  obtain ⟨d0, d1, d2, d3, d4, d5, d6, d7, d8⟩ := HA.out.cells
  obtain ⟨e0, e1, e2, e3, e4, e5, e6, e7, e8⟩ := HB.out.cells
  go_loop [5, 6, 59] (fun _ _ i => ∃ k : Nat, k ≤ s.T.length ∧ i = .int .i64 k) (fun _ _ i => s.T.length - (intOf i).toNat)
  case atStart => exact ⟨0, Nat.zero_le _, rfl⟩
  case round =>
    obtain ⟨k, hk, rfl⟩ := hrel
    by_cases hlt : k < s.T.length
    · have TA0 := bls_below H.out.2.1 b0 (Nat.le_refl _)
      have TB0 := bls_below K.out.2.1 b0 (Nat.le_refl _)
      obtain ⟨g1, rfl⟩ : ∃ g, p2 = some ⟨g, 0, none⟩ := by
        rcases TA0.cases with ⟨_, e⟩ | ⟨g, cap, e, _⟩
        · rw [e] at hlt; exact absurd hlt (by simp)
        · injection e with e _; exact ⟨g, e⟩
      obtain ⟨g2, rfl⟩ : ∃ g, r2 = some ⟨g, 0, none⟩ := by
        rcases TB0.cases with ⟨_, e⟩ | ⟨g, cap, e, _⟩
        · rw [e] at hlt; exact absurd hlt (by simp)
        · injection e with e _; exact ⟨g, e⟩
      have c1 := TA0.at.1.cell k hlt
      have c2 := TB0.at.1.cell k hlt
      generalize s.T[k] = X at c1 c2
      clear TA0 TB0
      go_wp2
      go_round
      case rel => exact ⟨k + 1, by omega, by go_num⟩
      case measure => simp [intOf]; omega
    · go_wp2_with fail
      refine (sameT _ _ s.R W (strs_args (strs_below H.out.1 b0 (Nat.le_refl _)) (by unfold maxLen; omega) HS.out) (strs_args (strs_below K.out.1 b0 (Nat.le_refl _)) (by unfold maxLen; omega) HS.out)).mono ?_
      rintro e w1 ⟨rfl, hb1⟩
      have b1 : Below w.heap.size w w1 := b0.trans (hb1.mono b0.size)
      clear d0 d1 d2 d3 d4 d5 d6 d7 d8 e0 e1 e2 e3 e4 e5 e6 e7 e8
      obtain ⟨_, _, _, _, _, _, _, _, d8⟩ := (SB.below HA.out hb1).cells
      obtain ⟨_, _, _, _, _, _, _, _, e8⟩ := (SB.below HB.out hb1).cells
      go_wp2_with fail
      refine (sameV _ _ s.V lo lo' w1 (vds_below H.out.2.2 b1 (Nat.le_refl _)) (vds_below K.out.2.2 b1 (Nat.le_refl _)) (by omega)).mono ?_
      rintro e w2 ⟨rfl, hb2⟩
      go_wp2
      go_ret
      exact ⟨rfl, b1.trans (hb2.mono b1.size)⟩
end Go.Proofs.YtngcjlghjidnjaaGreatDoor
