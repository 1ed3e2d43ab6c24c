import Derived.Test.YtngcjlghjidnjaaGreatDoorMg17
import Derived.Test.YtngcjlghjidnjaaGreatDoorMg8
import Derived.Test.YtngcjlghjidnjaaGreatDoorMg23
import Derived.ChangeSlices
import Derived.Test.YtngcjlghjidnjaaGreatDoorMg35
import Derived.Deep.RegionHeld3
namespace Go.Proofs.YtngcjlghjidnjaaGreatDoor
open Go.ChangeShapes Go.WideShapes Go.ChangeAt Go.RowKit

set_option maxHeartbeats 1000000 in
set_option maxRecDepth 100000 in
theorem sameT (v1 v2 : Value) (L : List ByteArray) (w : World) (h1 : ArgS w v1 L) (h2 : ArgS w v2 L) :
    Calls Tryz.prog 35 #[v1, v2] w fun e w' => e = .returned (.bool true) ∧ Below w.heap.size w w' := by
  obtain ⟨hL, _, hf1⟩ := h1
  obtain ⟨_, _, hf2⟩ := h2
  unfold maxLen at hL
  by_cases h0 : L = []
  · subst h0
    obtain ⟨a1, c1, rfl⟩ : ∃ a c, v1 = .slice a 0 c := by
      rcases hf1 with ⟨_, h⟩ | ⟨b, off, cap, rfl, _⟩
      · exact h
      · exact ⟨_, _, rfl⟩
    obtain ⟨a2, c2, rfl⟩ : ∃ a c, v2 = .slice a 0 c := by
      rcases hf2 with ⟨_, h⟩ | ⟨b, off, cap, rfl, _⟩
      · exact h
      · exact ⟨_, _, rfl⟩
    clear hf1 hf2
    go_enter Tryz.func35, Tryz.ntmps35
    go_wp2
    refine wp_loop_rounds 1 ?_; rw [rounds_succ]
    go_wp2
    go_ret
    exact ⟨rfl, Below.refl _ _⟩
  · obtain ⟨g1, o1, c1, hv1, hc1⟩ : ∃ b off cap, v1 = .slice (some ⟨b, off, none⟩) L.length cap ∧ ∀ i (hi : i < L.length), w.cell? ⟨b, off + i, none⟩ = some (.string L[i]) := by
      rcases hf1 with ⟨h, _⟩ | ⟨b, off, cap, hv, _, hc⟩
      · exact absurd h h0
      · exact ⟨b, off, cap, hv, hc⟩
    obtain ⟨g2, o2, c2, hv2, hc2⟩ : ∃ b off cap, v2 = .slice (some ⟨b, off, none⟩) L.length cap ∧ ∀ i (hi : i < L.length), w.cell? ⟨b, off + i, none⟩ = some (.string L[i]) := by
      rcases hf2 with ⟨h, _⟩ | ⟨b, off, cap, hv, _, hc⟩
      · exact absurd h h0
      · exact ⟨b, off, cap, hv, hc⟩
    have HC1 : Hid (∀ i (hi : i < L.length), w.cell? ⟨g1, o1 + i, none⟩ = some (.string L[i])) := hc1
    have HC2 : Hid (∀ i (hi : i < L.length), w.cell? ⟨g2, o2 + i, none⟩ = some (.string L[i])) := hc2
    subst hv1 hv2
    clear hf1 hf2 hc1 hc2
    go_enter Tryz.func35, Tryz.ntmps35
    go_wp2
    go_loop [5, 6, 14] (fun _ _ i => ∃ k : Nat, k ≤ L.length ∧ i = .int .i64 k) (fun _ _ i => L.length - (intOf i).toNat)
    case atStart => exact ⟨0, Nat.zero_le _, rfl⟩
    case round =>
      obtain ⟨k, hk, rfl⟩ := hrel
      by_cases hlt : k < L.length
      · have e1 := HC1.out k hlt
        have e2 := HC2.out k hlt
        generalize L[k] = X at e1 e2
        go_wp2
        go_round
        case rel => exact ⟨k + 1, by omega, by go_num⟩
        case measure => simp [intOf]; omega
      · go_wp2
        go_ret
        exact ⟨rfl, Below.refl _ _⟩
end Go.Proofs.YtngcjlghjidnjaaGreatDoor
namespace Go.Proofs.YtngcjlghjidnjaaGreatDoor
open Go.ChangeShapes Go.WideShapes Go.ChangeAt Go.RowKit
attribute [local go_sem ↓] Go.wp_at_zero Go.wp_at_succ

theorem bel_drewS {B : Nat} {w wr : World} (h : Below B w wr) (n : Nat) : Below B w (wr.drewN n) := ⟨h.os, h.tape, h.output, h.size, h.block⟩
theorem vds_form4 {w : World} {lo : Nat} {v : Value} {L : List Vd} (h : Vds w lo v L) : ∃ a c, v = .slice a L.length c := by
  rcases h.cases with ⟨e, e0⟩ | ⟨g, k, e, _⟩
  · exact ⟨none, 0, by rw [e, e0]; rfl⟩
  · exact ⟨_, _, e⟩
set_option maxHeartbeats 2000000 in
set_option maxRecDepth 100000 in
theorem sameV (v1 v2 : Value) (L : List Vd) (lo lo' : Nat) (w : World) (h1 : Vds w lo v1 L) (h2 : Vds w lo' v2 L) (hL : L.length ≤ 1048576) :
    Calls Tryz.prog 36 #[v1, v2] w fun e w' => e = .returned (.bool true) ∧ Below w.heap.size w w' := by
  by_cases h0 : L = []
  · subst h0
    obtain ⟨a1, c1, rfl⟩ : ∃ a c, v1 = .slice a 0 c := by
      rcases h1.cases with ⟨e, _⟩ | ⟨g, cap, e, _⟩
      · exact ⟨_, _, e⟩
      · exact ⟨_, _, e⟩
    obtain ⟨a2, c2, rfl⟩ : ∃ a c, v2 = .slice a 0 c := by
      rcases h2.cases with ⟨e, _⟩ | ⟨g, cap, e, _⟩
      · exact ⟨_, _, e⟩
      · exact ⟨_, _, e⟩
    clear h1 h2
    go_enter Tryz.func36, Tryz.ntmps36
    go_wp2
    refine wp_loop_rounds 1 ?_; rw [rounds_succ]
    go_wp2
    go_ret
    exact ⟨rfl, Below.refl _ _⟩
  · obtain ⟨g1, c1, hv1, VA⟩ : ∃ g cap, v1 = .slice (some ⟨g, 0, none⟩) L.length cap ∧ VdsAt w lo g cap L := by
      rcases h1.cases with ⟨_, e⟩ | h
      · exact absurd e h0
      · exact h
    obtain ⟨g2, c2, hv2, VB⟩ : ∃ g cap, v2 = .slice (some ⟨g, 0, none⟩) L.length cap ∧ VdsAt w lo' g cap L := by
      rcases h2.cases with ⟨_, e⟩ | h
      · exact absurd e h0
      · exact h
    have HA : Hid (Vds w lo v1 L) := h1
    have HB : Hid (Vds w lo' v2 L) := h2
    subst hv1 hv2
    clear h1 h2 VA VB
    go_enter Tryz.func36, Tryz.ntmps36
    go_wp2
    go_loopw [5, 6, 14] (fun _ _ i wr => ∃ k : Nat, k ≤ L.length ∧ i = .int .i64 k ∧ Below w.heap.size w wr) (fun _ _ i _ => L.length - (intOf i).toNat)
    case atStart => exact ⟨0, Nat.zero_le _, rfl, Below.refl _ _⟩
    case round =>
      obtain ⟨k, hk, rfl, hb⟩ := hrel
      by_cases hlt : k < L.length
      · have VA := (vds_below HA.out hb (Nat.le_refl _)).at.1
        have VB := (vds_below HB.out hb (Nat.le_refl _)).at.1
        obtain ⟨d0, d1, d2⟩ := VA.cell k hlt
        obtain ⟨e0, e1, e2⟩ := VB.cell k hlt
        have l1 := VA.lt
        have l2 := VB.lt
        generalize L[k] = X at d0 d1 d2 e0 e1 e2
        clear VA VB
        go_wp2_with fail
        go_quiet (fail)
        go_wp2
        go_roundw
        case rel => exact ⟨k + 1, by omega, by go_num, bel_drewS (hb.alloc hb.size _) _⟩
        case measure => simp [intOf]; omega
      · go_wp2
        go_ret
        exact ⟨rfl, hb⟩
set_option maxHeartbeats 4000000 in
set_option maxRecDepth 100000 in
theorem sameSess (s : Sn) (u1 u2 u3 v1 v2 v3 : Value) (lo lo' : Nat) (w : World) (h : SV w lo u1 u2 u3 s) (k : SV w lo' v1 v2 v3 s) (hR : s.R.length ≤ 20) (hT : s.T.length ≤ 20) (hV : s.V.length ≤ 20) (hs : ∀ x ∈ s.R, x.size ≤ 1048576) :
    Calls Tryz.prog 9 #[.agg #[.int .i64 s.ph, .string s.buf, .string s.he, .string s.fr, .string s.bo, u1, .int .i64 (s.nx : Int), u2, u3], .agg #[.int .i64 s.ph, .string s.buf, .string s.he, .string s.fr, .string s.bo, v1, .int .i64 (s.nx : Int), v2, v3]] w fun e w' => e = .returned (.bool true) ∧ Below w.heap.size w w' := by
  obtain ⟨p1, q1, hp1⟩ := strs_form2 h.1
  obtain ⟨p2, q2, hp2⟩ := bls_form h.2.1
  obtain ⟨p3, q3, hp3⟩ := vds_form4 h.2.2
  obtain ⟨r1, t1, hr1⟩ := strs_form2 k.1
  obtain ⟨r2, t2, hr2⟩ := bls_form k.2.1
  obtain ⟨r3, t3, hr3⟩ := vds_form4 k.2.2
  subst hp1 hp2 hp3 hr1 hr2 hr3
  have H : Hid (SV w lo _ _ _ s) := h
  have K : Hid (SV w lo' _ _ _ s) := k
  have HS : Hid (∀ x ∈ s.R, x.size ≤ maxLen) := fun x hx => by have := hs x hx; unfold maxLen; omega
  clear h k hs
  go_enter Tryz.func9, Tryz.ntmps9
  go_wp2_with fail
  generalize hW : World.alloc _ _ = W
  have HA : Hid (SB w.heap.size s (.slice p1 s.R.length q1) (.slice p2 s.T.length q2) (.slice p3 s.V.length q3) W) := by show SB _ _ _ _ _ _; rw [← hW]; exact (blk2 w _ _ _ _).1
  have HB : Hid (SB (w.heap.size + 1) s (.slice r1 s.R.length t1) (.slice r2 s.T.length t2) (.slice r3 s.V.length t3) W) := by show SB _ _ _ _ _ _; rw [← hW]; exact (blk2 w _ _ _ _).2
  have b0 : Below w.heap.size w W := by rw [← hW]; exact below2 _ _ _
  clear hW
  obtain ⟨d0, d1, d2, d3, d4, d5, d6, d7, d8⟩ := HA.out.cells
  obtain ⟨e0, e1, e2, e3, e4, e5, e6, e7, e8⟩ := HB.out.cells
  go_loop [5, 6, 59] (fun _ _ i => ∃ k : Nat, k ≤ s.T.length ∧ i = .int .i64 k) (fun _ _ i => s.T.length - (intOf i).toNat)
  case atStart => exact ⟨0, Nat.zero_le _, rfl⟩
  case round =>
    obtain ⟨k, hk, rfl⟩ := hrel
    by_cases hlt : k < s.T.length
    · have TA0 := bls_below H.out.2.1 b0 (Nat.le_refl _)
      have TB0 := bls_below K.out.2.1 b0 (Nat.le_refl _)
      obtain ⟨g1, rfl⟩ : ∃ g, p2 = some ⟨g, 0, none⟩ := by
        rcases TA0.cases with ⟨_, e⟩ | ⟨g, cap, e, _⟩
        · rw [e] at hlt; exact absurd hlt (by simp)
        · injection e with e _; exact ⟨g, e⟩
      obtain ⟨g2, rfl⟩ : ∃ g, r2 = some ⟨g, 0, none⟩ := by
        rcases TB0.cases with ⟨_, e⟩ | ⟨g, cap, e, _⟩
        · rw [e] at hlt; exact absurd hlt (by simp)
        · injection e with e _; exact ⟨g, e⟩
      have c1 := TA0.at.1.cell k hlt
      have c2 := TB0.at.1.cell k hlt
      generalize s.T[k] = X at c1 c2
      clear TA0 TB0
      go_wp2
      go_round
      case rel => exact ⟨k + 1, by omega, by go_num⟩
      case measure => simp [intOf]; omega
    · go_wp2_with fail
      refine (sameT _ _ s.R W (strs_args (strs_below H.out.1 b0 (Nat.le_refl _)) (by unfold maxLen; omega) HS.out) (strs_args (strs_below K.out.1 b0 (Nat.le_refl _)) (by unfold maxLen; omega) HS.out)).mono ?_
      rintro e w1 ⟨rfl, hb1⟩
      have b1 : Below w.heap.size w w1 := b0.trans (hb1.mono b0.size)
      clear d0 d1 d2 d3 d4 d5 d6 d7 d8 e0 e1 e2 e3 e4 e5 e6 e7 e8
      obtain ⟨_, _, _, _, _, _, _, _, d8⟩ := (SB.below HA.out hb1).cells
      obtain ⟨_, _, _, _, _, _, _, _, e8⟩ := (SB.below HB.out hb1).cells
      go_wp2_with fail
      refine (sameV _ _ s.V lo lo' w1 (vds_below H.out.2.2 b1 (Nat.le_refl _)) (vds_below K.out.2.2 b1 (Nat.le_refl _)) (by omega)).mono ?_
      rintro e w2 ⟨rfl, hb2⟩
      go_wp2
      go_ret
      exact ⟨rfl, b1.trans (hb2.mono b1.size)⟩
end Go.Proofs.YtngcjlghjidnjaaGreatDoor
namespace Go.Proofs.YtngcjlghjidnjaaGreatDoor
open Go.ChangeShapes Go.WideShapes Go.ChangeAt Go.RowKit

/-- bytes that came in, however many -/
def BytesArg (w : World) (v : Value) (B : List UInt8) : Prop :=
  B.length ≤ maxLen ∧ ((B = [] ∧ ∃ a c, v = .slice a 0 c) ∨ ∃ g off cap, v = .slice (some ⟨g, off, none⟩) B.length cap ∧ g < w.heap.size ∧ ∀ i (hi : i < B.length), w.cell? ⟨g, off + i, none⟩ = some (.int .u8 B[i].toNat))
set_option maxRecDepth 100000 in
theorem openBytes {H : Type} {enc : TypeId × Value → H} {W : World} {b0 : Nat} {v : Value} {d : DataW H} {p : List MemPlace} (hv : Value.okWide Tryz.prog W .any b0 22 v) (h : DataW.Trod enc Tryz.prog W 0 (fun _ => true) true 22 v d p) : ∃ B, BytesArg W v B := by
  obtain ⟨a0, len, cap, rfl⟩ := okWide_slice Tryz.underlying22 hv
  obtain ⟨fuel, hf⟩ := h
  rcases open_ints Tryz.underlying22 Tryz.underlying5 (by kernel_rfl) hf with ⟨hcs, _⟩ | ⟨a, len', cap', zs, hcs, _, hl, hm, hz, _, hcell, hwz⟩
  · simp [Value.cells] at hcs
    obtain ⟨rfl, rfl, rfl⟩ := hcs
    exact ⟨[], Nat.zero_le _, .inl ⟨rfl, _, _, rfl⟩⟩
  · simp [Value.cells] at hcs
    obtain ⟨rfl, rfl, rfl⟩ := hcs
    have hz' : zs.length = cap := by simpa using hz
    by_cases h0 : len = 0
    · subst h0
      exact ⟨[], Nat.zero_le _, .inl ⟨rfl, _, _, rfl⟩⟩
    · obtain ⟨b, off, spot⟩ := a
      have hc0 := hcell 0 (by omega)
      have hspot : spot = none := by simpa [Addr.add] using World.cell?_spot hc0
      subst hspot
      have hlt : ((zs.take len).map fun z => UInt8.ofNat z.toNat).length = len := by simp; omega
      refine ⟨(zs.take len).map fun z => UInt8.ofNat z.toNat, by rw [hlt]; omega, .inr ⟨b, off, cap, by rw [hlt], ?_, fun i hi => ?_⟩⟩
      · by_cases hb : b < W.heap.size
        · exact hb
        · exfalso
          have e : W.heap[b]? = none := Array.getElem?_eq_none (by omega)
          have ea : (⟨b, off, none⟩ : Addr).add 0 = ⟨b, off, none⟩ := by simp [Addr.add]
          rw [ea] at hc0
          simp [World.cell?, e] at hc0
      · rw [hlt] at hi
        have hci := hcell i (by omega)
        have ea : (⟨b, off, none⟩ : Addr).add i = ⟨b, off + i, none⟩ := by by_cases hi0 : i = 0 <;> simp [Addr.add, hi0]
        rw [ea] at hci
        rw [hci]
        have hzi : i < zs.length := by omega
        have hw := hwz zs[i] (List.getElem_mem hzi)
        have hr : 0 ≤ zs[i] ∧ zs[i] ≤ 255 := by simpa [Lit.wf, IntKind.min, IntKind.max, IntKind.signed, IntKind.bits] using hw
        rw [List.getD_eq_getElem?_getD, List.getElem?_eq_getElem hzi]
        simp only [List.getElem_map, List.getElem_take, Option.getD_some]
        congr 2
        simp
        omega
end Go.Proofs.YtngcjlghjidnjaaGreatDoor
namespace Go.Proofs.YtngcjlghjidnjaaGreatDoor
open Go.ChangeShapes Go.WideShapes Go.ChangeAt Go.RowKit
attribute [local go_sem ↓] Go.wp_at_zero Go.wp_at_succ

/-- a session that a Feed has answered with, in a variable of the law's -/
def FRc (N B : Nat) (Q : Sn) (u1 u2 u3 : Value) (w0 w : World) : Prop := N ≤ B ∧ SB B Q u1 u2 u3 w ∧ SV w N u1 u2 u3 Q ∧ Below N w0 w
theorem Blk.nineO {a b : Nat} {X : Array Value} {w : World} (h : Blk b X w) (hne : b ≠ a) (x0 x1 x2 x3 x4 x5 x6 x7 x8 : Value) : Blk b X (nine w a x0 x1 x2 x3 x4 x5 x6 x7 x8) :=
  Blk.other (Blk.other (Blk.other (Blk.other (Blk.other (Blk.other (Blk.other (Blk.other (Blk.other h hne) hne) hne) hne) hne) hne) hne) hne) hne
/-- what stands behind the second draw -/
structure ChM (w W2 W4 : World) (S2 : Array Value) (B2 B3 : Nat) (kind : Int) (d : ByteArray) (Q : Sn) (q1 q2 q3 v1 v2 v3 : Value) (s : Sn) (wx : World) : Prop where
  sb : Blk B2 S2 wx
  ev : Blk (B2 + 1) #[.int .i64 kind, .string d] wx
  want : SB B3 Q q1 q2 q3 wx
  wrows : SV wx W2.heap.size q1 q2 q3 Q
  rows : SV wx W4.heap.size v1 v2 v3 s
  bel : Below w.heap.size w wx
  lt : W4.heap.size ≤ wx.heap.size
theorem ext_none (d : ByteArray) : d.extract 0 0 = ByteArray.empty := by apply ByteArray.ext; simp
theorem ext_all (d : ByteArray) : d.extract 0 d.size = d := by apply ByteArray.ext; simp
theorem Blk.drewN {b : Nat} {X : Array Value} {w : World} (h : Blk b X w) (n : Nat) : Blk b X (w.drewN n) := ⟨h.lt, h.cell, h.free⟩
theorem ChM.drewN {w W2 W4 : World} {S2 : Array Value} {B2 B3 : Nat} {kind : Int} {d : ByteArray} {Q : Sn} {q1 q2 q3 v1 v2 v3 : Value} {s : Sn} {wx : World} (h : ChM w W2 W4 S2 B2 B3 kind d Q q1 q2 q3 v1 v2 v3 s wx) (n : Nat) : ChM w W2 W4 S2 B2 B3 kind d Q q1 q2 q3 v1 v2 v3 s (wx.drewN n) :=
  ⟨h.sb.drewN n, h.ev.drewN n, Blk.drewN h.want n, h.wrows, h.rows, bel_drewS h.bel n, h.lt⟩

set_option maxHeartbeats 20000000 in
set_option maxRecDepth 100000 in
theorem chunksLaw (cv : Value) (B : List UInt8) (w : World) (hB : BytesArg w cv B) (hl : LenIn w) (hf : FoldAt w) :
    Calls Tryz.prog 4 #[cv] w fun e w' => e = .returned (.bool true) ∧ Below w.heap.size w w' := by
  have HL : Hid (LenIn w) := hl
  have HFo : Hid (FoldAt w) := hf
  obtain ⟨ca, cc, hcv⟩ : ∃ a c, cv = .slice a B.length c := by
    rcases hB.2 with ⟨rfl, a, c, rfl⟩ | ⟨g, off, cap, rfl, _⟩
    · exact ⟨_, _, rfl⟩
    · exact ⟨_, _, rfl⟩
  have hBm := hB.1
  unfold maxLen at hBm
  clear hl hf
  by_cases hbig : 1048576 < B.length
  · subst hcv
    clear hB
    go_enter Tryz.func4, Tryz.ntmps4
    go_wp2
    go_ret
    exact ⟨rfl, Below.refl _ _⟩
  have HC : Hid (CodeAt w cv B) := ⟨by omega, hB.2⟩
  obtain ⟨ph, nx, buf, he, fr, bo, R, T, V, kind, d, hdr, hsm, hbz, hdz⟩ := drawnX cv B
  have HDr : Hid _ := hdr
  have HSM : Hid (Small9 buf he fr bo R T V) := hsm
  subst hcv
  clear hB hdr hsm
  obtain ⟨Q, hQ⟩ : ∃ Q, feedN ph nx buf he fr bo R T V kind d = Q := ⟨_, rfl⟩
  have HQ : Hid (feedN ph nx buf he fr bo R T V kind d = Q) := hQ
  have HFq : Hid (Fine Q.1) := by show Fine Q.1; rw [← hQ]; exact feedN_fine _ _ _ _ _ _ _ _ _ _ _
  have hqs : Q.2.size ≤ 800000000 := by rw [← hQ]; exact feedN_said _ _ _ _ _ _ _ _ _ _ _
  clear hQ
  have HSp : Hid (∀ (wx : World) (lo : Nat) (x1 x2 x3 : Value), SV wx lo x1 x2 x3 ⟨ph, buf, he, fr, bo, R, 0, T, V⟩ → Calls Tryz.prog 11 #[.agg #[.int .i64 ph, .string buf, .string he, .string fr, .string bo, x1, .int .i64 nx, x2, x3], .agg #[.int .i64 kind, .string d]] wx fun e w' => SQ Q wx e w') := fun wx lo x1 x2 x3 h => by rw [← HQ.out]; exact specFeed ph nx buf he fr bo x1 x2 x3 R T V kind d lo wx h.1 h.2.1 h.2.2 HSM.out (by omega)
  have HIm : Hid (∀ (wx : World) (lo : Nat) (x1 x2 x3 : Value) (kd : Int) (dt : ByteArray), Below w.heap.size w wx → dt.size ≤ 1048576 → SV wx lo x1 x2 x3 ⟨ph, buf, he, fr, bo, R, 0, T, V⟩ → Calls Tryz.prog 10 #[.agg #[.int .i64 ph, .string buf, .string he, .string fr, .string bo, x1, .int .i64 nx, x2, x3], .agg #[.int .i64 kd, .string dt]] wx fun e w' => SQ (feedN ph nx buf he fr bo R T V kd dt) wx e w') := fun wx lo x1 x2 x3 kd dt hb hz h => implFeed ph nx buf he fr bo x1 x2 x3 R T V kd dt lo wx h.1 h.2.1 h.2.2 HSM.out (len_below HL.out hb) (HFo.out.below hb) hz
  go_enter Tryz.func4, Tryz.ntmps4
  go_wp2_with fail
  refine (HDr.out w HC.out).mono ?_
  rintro e w1 ⟨⟨a5, c5, a7, c7, a8, c8, rfl, r1⟩, hb1⟩
  have HR1 : Hid (SV w1 w.heap.size (.slice a5 R.length c5) (.slice a7 T.length c7) (.slice a8 V.length c8) ⟨ph, buf, he, fr, bo, R, 0, T, V⟩) := r1
  have z1 := hb1.size
  clear r1
  go_wp2_with fail
  generalize hW2 : World.alloc _ _ = W2
  have hA2 : Hid (Blk (w1.heap.size) #[.int .i64 ph, .string buf, .string he, .string fr, .string bo, .slice a5 R.length c5, .int .i64 nx, .slice a7 T.length c7, .slice a8 V.length c8] W2) := by show Blk _ _ _; rw [← hW2]; exact (blk2 w1 _ _ _ _).1
  have hE2 : Hid (Blk (w1.heap.size + 1) #[.int .i64 kind, .string d] W2) := by show Blk _ _ _; rw [← hW2]; exact (blk2 w1 _ _ _ _).2
  have b12 : Below w1.heap.size w1 W2 := by rw [← hW2]; exact below2 _ _ _
  have b2 : Below w.heap.size w W2 := hb1.trans (b12.mono hb1.size)
  have z2 : w1.heap.size + 2 ≤ W2.heap.size := by rw [← hW2]; simp
  clear hW2
  refine (HSp.out W2 w.heap.size _ _ _ (HR1.out.below b12 (Nat.le_refl _))).mono ?_
  rintro e w3 ⟨⟨f1, f2, f3, rfl, S3⟩, hb3⟩
  obtain ⟨n1, l1, e1⟩ := strs_form2 S3.1
  obtain ⟨n2, l2, e2⟩ := bls_form S3.2.1
  obtain ⟨n3, l3, e3⟩ := vds_formD S3.2.2
  subst e1 e2 e3
  have HS3 : Hid (SV w3 W2.heap.size (.slice n1 Q.1.R.length l1) (.slice n2 Q.1.T.length l2) (.slice n3 Q.1.V.length l3) Q.1) := S3
  have hA3 : Hid (Blk (w1.heap.size) #[.int .i64 ph, .string buf, .string he, .string fr, .string bo, .slice a5 R.length c5, .int .i64 nx, .slice a7 T.length c7, .slice a8 V.length c8] w3) := Blk.below hA2.out hb3
  have hE3 : Hid (Blk (w1.heap.size + 1) #[.int .i64 kind, .string d] w3) := Blk.below hE2.out hb3
  have b3 : Below w.heap.size w w3 := b2.trans (hb3.mono b2.size)
  have z3 := hb3.size
  clear S3 hb3 hA2 hE2 b12 b2 HR1 hb1
  go_wp2_with fail
  generalize hW4 : World.alloc _ _ = W4
  have hb4 : Below w3.heap.size w3 W4 := by rw [← hW4]; exact below1 _ _
  have HW4 : Hid (SB w3.heap.size Q.1 (.slice n1 Q.1.R.length l1) (.slice n2 Q.1.T.length l2) (.slice n3 Q.1.V.length l3) W4) := by show SB _ _ _ _ _ _; rw [← hW4]; exact Blk.new w3 _ _
  have HS4 : Hid (SV W4 W2.heap.size (.slice n1 Q.1.R.length l1) (.slice n2 Q.1.T.length l2) (.slice n3 Q.1.V.length l3) Q.1) := HS3.out.below hb4 (Nat.le_refl _)
  have hA4 : Hid (Blk (w1.heap.size) #[.int .i64 ph, .string buf, .string he, .string fr, .string bo, .slice a5 R.length c5, .int .i64 nx, .slice a7 T.length c7, .slice a8 V.length c8] W4) := Blk.below hA3.out hb4
  have hE4 : Hid (Blk (w1.heap.size + 1) #[.int .i64 kind, .string d] W4) := Blk.below hE3.out hb4
  have b4 : Below w.heap.size w W4 := b3.trans (hb4.mono b3.size)
  have z4 := hb4.size
  clear hW4 hb4 HS3 hA3 hE3 b3
  refine (HDr.out W4 (HC.out.below b4)).mono ?_
  rintro e w5 ⟨⟨m5, o5, m7, o7, m8, o8, rfl, r5⟩, hb5⟩
  have HR5 : Hid (SV w5 W4.heap.size (.slice m5 R.length o5) (.slice m7 T.length o7) (.slice m8 V.length o8) ⟨ph, buf, he, fr, bo, R, 0, T, V⟩) := r5
  have HW5 : Hid (SB w3.heap.size Q.1 (.slice n1 Q.1.R.length l1) (.slice n2 Q.1.T.length l2) (.slice n3 Q.1.V.length l3) w5) := SB.below HW4.out hb5
  have HS5 : Hid (SV w5 W2.heap.size (.slice n1 Q.1.R.length l1) (.slice n2 Q.1.T.length l2) (.slice n3 Q.1.V.length l3) Q.1) := HS4.out.below hb5 (Nat.le_refl _)
  have hA5 : Hid (Blk (w1.heap.size) #[.int .i64 ph, .string buf, .string he, .string fr, .string bo, .slice a5 R.length c5, .int .i64 nx, .slice a7 T.length c7, .slice a8 V.length c8] w5) := Blk.below hA4.out hb5
  have hE5 : Hid (Blk (w1.heap.size + 1) #[.int .i64 kind, .string d] w5) := Blk.below hE4.out hb5
  have b5 : Below w.heap.size w w5 := b4.trans (hb5.mono b4.size)
  have z5 := hb5.size
  clear r5 hb5 HW4 HS4 hA4 hE4 b4
  obtain ⟨t0, t1, t2, t3, t4, t5, t6, t7, t8⟩ : w5.cell? ⟨w1.heap.size, 0, none⟩ = some (.int .i64 ph) ∧ w5.cell? ⟨w1.heap.size, 1, none⟩ = some (.string buf) ∧ w5.cell? ⟨w1.heap.size, 2, none⟩ = some (.string he) ∧ w5.cell? ⟨w1.heap.size, 3, none⟩ = some (.string fr) ∧ w5.cell? ⟨w1.heap.size, 4, none⟩ = some (.string bo) ∧ w5.cell? ⟨w1.heap.size, 5, none⟩ = some (.slice a5 R.length c5) ∧ w5.cell? ⟨w1.heap.size, 6, none⟩ = some (.int .i64 nx) ∧ w5.cell? ⟨w1.heap.size, 7, none⟩ = some (.slice a7 T.length c7) ∧ w5.cell? ⟨w1.heap.size, 8, none⟩ = some (.slice a8 V.length c8) := ⟨hA5.out.cell 0, hA5.out.cell 1, hA5.out.cell 2, hA5.out.cell 3, hA5.out.cell 4, hA5.out.cell 5, hA5.out.cell 6, hA5.out.cell 7, hA5.out.cell 8⟩
  obtain ⟨tf0, tf1, tf2, tf3, tf4, tf5, tf6, tf7, tf8⟩ : w5.frozen? ⟨w1.heap.size, 0, none⟩ = false ∧ w5.frozen? ⟨w1.heap.size, 1, none⟩ = false ∧ w5.frozen? ⟨w1.heap.size, 2, none⟩ = false ∧ w5.frozen? ⟨w1.heap.size, 3, none⟩ = false ∧ w5.frozen? ⟨w1.heap.size, 4, none⟩ = false ∧ w5.frozen? ⟨w1.heap.size, 5, none⟩ = false ∧ w5.frozen? ⟨w1.heap.size, 6, none⟩ = false ∧ w5.frozen? ⟨w1.heap.size, 7, none⟩ = false ∧ w5.frozen? ⟨w1.heap.size, 8, none⟩ = false := ⟨hA5.out.free 0, hA5.out.free 1, hA5.out.free 2, hA5.out.free 3, hA5.out.free 4, hA5.out.free 5, hA5.out.free 6, hA5.out.free 7, hA5.out.free 8⟩
  have v0 : w5.cell? ⟨w1.heap.size + 1, 0, none⟩ = some (.int .i64 kind) := hE5.out.cell 0
  have v1 : w5.cell? ⟨w1.heap.size + 1, 1, none⟩ = some (.string d) := hE5.out.cell 1
  have vf0 : w5.frozen? ⟨w1.heap.size + 1, 0, none⟩ = false := hE5.out.free 0
  have vf1 : w5.frozen? ⟨w1.heap.size + 1, 1, none⟩ = false := hE5.out.free 1
  have la : w1.heap.size < w5.heap.size := hA5.out.lt
  have lb : w1.heap.size + 1 < w5.heap.size := hE5.out.lt
  go_upto_region 6 with fail
  generalize hW6 : World.setCell _ _ _ = W6
  have M6 : ChM w W2 W4 #[.int .i64 ph, .string buf, .string he, .string fr, .string bo, .slice m5 R.length o5, .int .i64 nx, .slice m7 T.length o7, .slice m8 V.length o8] (w1.heap.size) w3.heap.size kind d Q.1 (.slice n1 Q.1.R.length l1) (.slice n2 Q.1.T.length l2) (.slice n3 Q.1.V.length l3) (.slice m5 R.length o5) (.slice m7 T.length o7) (.slice m8 V.length o8) ⟨ph, buf, he, fr, bo, R, 0, T, V⟩ W6 := by
    rw [← hW6]
    exact ⟨Blk.other (Blk.other (blk_nine hA5.out _ _ _ _ _ _ _ _ _) (by omega)) (by omega), Blk.set (Blk.set (Blk.nineO hE5.out (by omega) _ _ _ _ _ _ _ _ _) (i := 0) (v := .int .i64 kind) (show 0 < 2 by decide)) (i := 1) (v := .string d) (show 1 < 2 by decide), Blk.other (Blk.other (Blk.nineO HW5.out (by omega) _ _ _ _ _ _ _ _ _) (by omega)) (by omega), SV.set (SV.set (HS5.out.nine (by omega) _ _ _ _ _ _ _ _ _) (by show w1.heap.size + 1 < _; omega) _) (by show w1.heap.size + 1 < _; omega) _, SV.set (SV.set (HR5.out.nine (by omega) _ _ _ _ _ _ _ _ _) (by show w1.heap.size + 1 < _; omega) _) (by show w1.heap.size + 1 < _; omega) _, Below.setCell (Below.setCell (below_nine b5 (by omega) _ _ _ _ _ _ _ _ _) (by show w.heap.size ≤ w1.heap.size + 1; omega) _) (by show w.heap.size ≤ w1.heap.size + 1; omega) _, by simp; omega⟩
  have HM : Hid _ := M6
  clear hW6 M6 hA5 hE5 HW5 HS5 HR5 b5 t0 t1 t2 t3 t4 t5 t6 t7 t8 tf0 tf1 tf2 tf3 tf4 tf5 tf6 tf7 tf8 v0 v1 vf0 vf1 la lb
  have v0 : W6.cell? ⟨w1.heap.size + 1, 0, none⟩ = some (.int .i64 kind) := HM.out.ev.cell 0
  have v1 : W6.cell? ⟨w1.heap.size + 1, 1, none⟩ = some (.string d) := HM.out.ev.cell 1
  obtain ⟨t0, t1, t2, t3, t4, t5, t6, t7, t8⟩ : W6.cell? ⟨w1.heap.size, 0, none⟩ = some (.int .i64 ph) ∧ W6.cell? ⟨w1.heap.size, 1, none⟩ = some (.string buf) ∧ W6.cell? ⟨w1.heap.size, 2, none⟩ = some (.string he) ∧ W6.cell? ⟨w1.heap.size, 3, none⟩ = some (.string fr) ∧ W6.cell? ⟨w1.heap.size, 4, none⟩ = some (.string bo) ∧ W6.cell? ⟨w1.heap.size, 5, none⟩ = some (.slice m5 R.length o5) ∧ W6.cell? ⟨w1.heap.size, 6, none⟩ = some (.int .i64 nx) ∧ W6.cell? ⟨w1.heap.size, 7, none⟩ = some (.slice m7 T.length o7) ∧ W6.cell? ⟨w1.heap.size, 8, none⟩ = some (.slice m8 V.length o8) := ⟨HM.out.sb.cell 0, HM.out.sb.cell 1, HM.out.sb.cell 2, HM.out.sb.cell 3, HM.out.sb.cell 4, HM.out.sb.cell 5, HM.out.sb.cell 6, HM.out.sb.cell 7, HM.out.sb.cell 8⟩
  by_cases hk1 : kind = 1
  · subst hk1
    by_cases hbp : 0 < B.length ∧ 0 < d.size
    · obtain ⟨hb0, hd0⟩ := hbp
      have hb0i : (0 : Int) < B.length := by omega
      have hd0i : (0 : Int) < d.size := by omega
      obtain ⟨g, off, j, y, rfl, hj, hy, cy, hgl⟩ : ∃ g off j y : Nat, ca = some ⟨g, off, none⟩ ∧ B.length = j + 1 ∧ y < 256 ∧ W6.cell? ⟨g, off + j, none⟩ = some (.int .u8 (y : Int)) ∧ g < W6.heap.size := by
        rcases (HC.out.below HM.out.bel).2 with ⟨e, _⟩ | ⟨g, off, cap, e, hlt, hc⟩
        · rw [e] at hb0; exact absurd hb0 (by simp)
        · injection e with e1 e2 e3
          exact ⟨g, off, B.length - 1, _, e1, by omega, UInt8.toNat_lt _, hc (B.length - 1) (by omega), hlt⟩
      have hj1 : (B.length : Int) - 1 = (j : Int) := by omega
      have hj2 : (j : Int) < B.length := by omega
      have hj3 : j < B.length := by omega
      clear hj
      obtain ⟨k, hk0, hkd⟩ : ∃ k : Nat, (y : Int) % ((d.size : Int) + 1) = (k : Int) ∧ k ≤ d.size := ⟨y % (d.size + 1), rfl, by have := Nat.mod_lt y (show 0 < d.size + 1 by omega); omega⟩
      have hkdi : (k : Int) ≤ d.size := by omega
      by_cases hz : buf.size + d.size ≤ 40000
      · go_wp2_with fail
        go_quiet (fail)
        go_upto_region 12 with fail
        generalize hW7 : World.drewN _ _ = W7
        rw [hk0]
        clear hk0
        have HM7 : Hid (ChM w W2 W4 #[.int .i64 ph, .string buf, .string he, .string fr, .string bo, .slice m5 R.length o5, .int .i64 nx, .slice m7 T.length o7, .slice m8 V.length o8] (w1.heap.size) w3.heap.size 1 d Q.1 (.slice n1 Q.1.R.length l1) (.slice n2 Q.1.T.length l2) (.slice n3 Q.1.V.length l3) (.slice m5 R.length o5) (.slice m7 T.length o7) (.slice m8 V.length o8) ⟨ph, buf, he, fr, bo, R, 0, T, V⟩ W7) := by show ChM _ _ _ _ _ _ _ _ _ _ _ _ _ _ _ _ _; rw [← hW7]; exact ChM.drewN HM.out _
        clear hW7 t0 t1 t2 t3 t4 t5 t6 t7 t8 v0 v1
        have v1 : W7.cell? ⟨w1.heap.size + 1, 1, none⟩ = some (.string d) := HM7.out.ev.cell 1
        obtain ⟨t0, t1, t2, t3, t4, t5, t6, t7, t8⟩ : W7.cell? ⟨w1.heap.size, 0, none⟩ = some (.int .i64 ph) ∧ W7.cell? ⟨w1.heap.size, 1, none⟩ = some (.string buf) ∧ W7.cell? ⟨w1.heap.size, 2, none⟩ = some (.string he) ∧ W7.cell? ⟨w1.heap.size, 3, none⟩ = some (.string fr) ∧ W7.cell? ⟨w1.heap.size, 4, none⟩ = some (.string bo) ∧ W7.cell? ⟨w1.heap.size, 5, none⟩ = some (.slice m5 R.length o5) ∧ W7.cell? ⟨w1.heap.size, 6, none⟩ = some (.int .i64 nx) ∧ W7.cell? ⟨w1.heap.size, 7, none⟩ = some (.slice m7 T.length o7) ∧ W7.cell? ⟨w1.heap.size, 8, none⟩ = some (.slice m8 V.length o8) := ⟨HM7.out.sb.cell 0, HM7.out.sb.cell 1, HM7.out.sb.cell 2, HM7.out.sb.cell 3, HM7.out.sb.cell 4, HM7.out.sb.cell 5, HM7.out.sb.cell 6, HM7.out.sb.cell 7, HM7.out.sb.cell 8⟩
        obtain ⟨Q1, hQ1⟩ : ∃ Q1, feedN ph nx buf he fr bo R T V 1 (d.extract 0 k) = Q1 := ⟨_, rfl⟩
        obtain ⟨Q2, hQ2⟩ : ∃ Q2, feedS Q1.1 1 (d.extract k d.size) = Q2 := ⟨_, rfl⟩
        have hpure := chunk_pure ph nx buf he fr bo R T V d k hz
        rw [HQ.out, hQ1, hQ2] at hpure
        have HF1 : Hid (Fine Q1.1) := by show Fine Q1.1; rw [← hQ1]; exact feedN_fine _ _ _ _ _ _ _ _ _ _ _
        have HPu : Hid (Q2.1 = Q.1 ∧ Q1.2 ++ Q2.2 = Q.2) := by show _ ∧ _; rw [hpure]; exact ⟨rfl, rfl⟩
        have hs1 : Q1.2.size ≤ 800000000 := by rw [← hQ1]; exact feedN_said _ _ _ _ _ _ _ _ _ _ _
        have hs2 : Q2.2.size ≤ 800000000 := by rw [← hQ2]; exact feedN_said _ _ _ _ _ _ _ _ _ _ _
        have HC1 : Hid (∀ wx : World, Below W7.heap.size W7 wx → Calls Tryz.prog 10 #[.agg #[.int .i64 ph, .string buf, .string he, .string fr, .string bo, .slice m5 R.length o5, .int .i64 nx, .slice m7 T.length o7, .slice m8 V.length o8], .agg #[.int .i64 1, .string (d.extract 0 k)]] wx fun e w' => SQ Q1 wx e w') := fun wx hx => by
          rw [← hQ1]
          exact HIm.out wx W4.heap.size _ _ _ 1 (d.extract 0 k) (HM7.out.bel.trans (hx.mono HM7.out.bel.size)) (by rw [ByteArray.size_extract]; omega) (HM7.out.rows.below hx (Nat.le_refl _))
        have HQ2 : Hid (feedS Q1.1 1 (d.extract k d.size) = Q2) := hQ2
        clear hpure hQ1 hQ2
        have hzi : ¬ (40000 : Int) < (buf.size : Int) + (d.size : Int) := by omega
        go_upto_region 14 with fail
        have HSk : Hid (Blk (w1.heap.size) #[.int .i64 ph, .string buf, .string he, .string fr, .string bo, .slice m5 R.length o5, .int .i64 nx, .slice m7 T.length o7, .slice m8 V.length o8] W7) := HM7.out.sb
        have HEk : Hid (Blk (w1.heap.size + 1) #[.int .i64 1, .string d] W7) := HM7.out.ev
        go_cut [10, 11] (fun pv xv wx => ∃ B u1 u2 u3, pv = .pointer (some ⟨B, 0, none⟩) ∧ xv = .string Q1.2 ∧ Hid (FRc W7.heap.size B Q1.1 u1 u2 u3 W7 wx))
        case first =>
          have HBc : Hid (Below W7.heap.size W7 W7) := (Below.refl _ _ : Below _ _ _)
          have zA : w1.heap.size < W7.heap.size := HSk.out.lt
          have zB : w1.heap.size + 1 < W7.heap.size := HEk.out.lt
          go_region_held3 (fun w' => w'.cell? ⟨w1.heap.size, 0, none⟩ = some (.int .i64 ph) ∧ w'.cell? ⟨w1.heap.size, 1, none⟩ = some (.string buf) ∧ w'.cell? ⟨w1.heap.size, 2, none⟩ = some (.string he) ∧ w'.cell? ⟨w1.heap.size, 3, none⟩ = some (.string fr) ∧ w'.cell? ⟨w1.heap.size, 4, none⟩ = some (.string bo) ∧ w'.cell? ⟨w1.heap.size, 5, none⟩ = some (.slice m5 R.length o5) ∧ w'.cell? ⟨w1.heap.size, 6, none⟩ = some (.int .i64 nx) ∧ w'.cell? ⟨w1.heap.size, 7, none⟩ = some (.slice m7 T.length o7) ∧ w'.cell? ⟨w1.heap.size, 8, none⟩ = some (.slice m8 V.length o8) ∧ w'.cell? ⟨w1.heap.size + 1, 1, none⟩ = some (.string d)) (first | (simp only [j0, j1, j2, j3, j4, j5, j6, j7, j8, i1, and_self]; done) | go_keep) (first | (go_at_call 10; refine (HC1.out _ (by repeat (first | exact HBc.out | refine Below.drew ?_ | refine Below.alloc ?_ HBc.out.size _))).mono ?_; rintro e w8 ⟨⟨f1, f2, f3, rfl, S8⟩, hb⟩; obtain ⟨n1, l1, e1⟩ := strs_form2 S8.1; obtain ⟨n2, l2, e2⟩ := bls_form S8.2.1; obtain ⟨n3, l3, e3⟩ := vds_formD S8.2.2; subst e1; subst e2; subst e3; have HOW : ∀ g, ((Value.slice n1 Q1.1.R.length l1).ownBlock = some g ∨ (Value.slice n2 Q1.1.T.length l2).ownBlock = some g ∨ (Value.slice n3 Q1.1.V.length l3).ownBlock = some g) → _ ≤ g := fun g h => h.elim (fun e => (S8.own.1 g e).1) (fun h => h.elim (fun e => (S8.own.2.1 g e).1) (fun e => (S8.own.2.2 g e).1)); (first | (have HAP : Hid (∀ g, ((Value.slice n1 Q1.1.R.length l1).ownBlock = some g ∨ (Value.slice n2 Q1.1.T.length l2).ownBlock = some g ∨ (Value.slice n3 Q1.1.V.length l3).ownBlock = some g) → g ≠ W7.heap.size) := fun g h => (by have hh := HOW g h; simp at hh; omega)) | skip); clear HOW; have HS8 : Hid (SV w8 W7.heap.size (.slice n1 Q1.1.R.length l1) (.slice n2 Q1.1.T.length l2) (.slice n3 Q1.1.V.length l3) Q1.1) := S8.le (Below.size (B := W7.heap.size) (by repeat (first | exact HBc.out | refine Below.drew ?_ | refine Below.alloc ?_ HBc.out.size _))); (first | (have HNz : Hid (W7.heap.size ≤ _ ∧ Blk _ #[.int .i64 0, .string ⟨#[]⟩, .string ⟨#[]⟩, .string ⟨#[]⟩, .string ⟨#[]⟩, .slice none 0 0, .int .i64 0, .slice none 0 0, .slice none 0 0] w8) := ⟨HNz.out.1, Blk.below HNz.out.2 (of_drew hb)⟩) | (have HNz : Hid (W7.heap.size ≤ _ ∧ Blk _ #[.int .i64 0, .string ⟨#[]⟩, .string ⟨#[]⟩, .string ⟨#[]⟩, .string ⟨#[]⟩, .slice none 0 0, .int .i64 0, .slice none 0 0, .slice none 0 0] w8) := ⟨HNz.out.1, Blk.below HNz.out.2 hb⟩) | (have HNz : Hid (W7.heap.size ≤ _ ∧ Blk _ #[.int .i64 0, .string ⟨#[]⟩, .string ⟨#[]⟩, .string ⟨#[]⟩, .string ⟨#[]⟩, .slice none 0 0, .int .i64 0, .slice none 0 0, .slice none 0 0] w8) := ⟨HBc.out.size, Blk.below (Blk.new _ _ _) (of_drew hb)⟩) | (have HNz : Hid (W7.heap.size ≤ _ ∧ Blk _ #[.int .i64 0, .string ⟨#[]⟩, .string ⟨#[]⟩, .string ⟨#[]⟩, .string ⟨#[]⟩, .slice none 0 0, .int .i64 0, .slice none 0 0, .slice none 0 0] w8) := ⟨HBc.out.size, Blk.below (Blk.new _ _ _) hb⟩) | skip); have HBc : Hid (Below W7.heap.size W7 w8) := Below.trans (by repeat (first | exact HBc.out | refine Below.drew ?_ | refine Below.alloc ?_ HBc.out.size _)) (hb.mono (Below.size (B := W7.heap.size) (by repeat (first | exact HBc.out | refine Below.drew ?_ | refine Below.alloc ?_ HBc.out.size _)))); have hAn : Hid (Blk (w1.heap.size) #[.int .i64 ph, .string buf, .string he, .string fr, .string bo, .slice m5 R.length o5, .int .i64 nx, .slice m7 T.length o7, .slice m8 V.length o8] w8) := Blk.below HSk.out HBc.out; have hEn : Hid (Blk (w1.heap.size + 1) #[.int .i64 1, .string d] w8) := Blk.below HEk.out HBc.out; obtain ⟨j0, j1, j2, j3, j4, j5, j6, j7, j8⟩ : w8.cell? ⟨w1.heap.size, 0, none⟩ = some (.int .i64 ph) ∧ w8.cell? ⟨w1.heap.size, 1, none⟩ = some (.string buf) ∧ w8.cell? ⟨w1.heap.size, 2, none⟩ = some (.string he) ∧ w8.cell? ⟨w1.heap.size, 3, none⟩ = some (.string fr) ∧ w8.cell? ⟨w1.heap.size, 4, none⟩ = some (.string bo) ∧ w8.cell? ⟨w1.heap.size, 5, none⟩ = some (.slice m5 R.length o5) ∧ w8.cell? ⟨w1.heap.size, 6, none⟩ = some (.int .i64 nx) ∧ w8.cell? ⟨w1.heap.size, 7, none⟩ = some (.slice m7 T.length o7) ∧ w8.cell? ⟨w1.heap.size, 8, none⟩ = some (.slice m8 V.length o8) := ⟨hAn.out.cell 0, hAn.out.cell 1, hAn.out.cell 2, hAn.out.cell 3, hAn.out.cell 4, hAn.out.cell 5, hAn.out.cell 6, hAn.out.cell 7, hAn.out.cell 8⟩; have i1 : w8.cell? ⟨w1.heap.size + 1, 1, none⟩ = some (.string d) := hEn.out.cell 1; have zAn : w1.heap.size < w8.heap.size := hAn.out.lt; have zBn : w1.heap.size + 1 < w8.heap.size := hEn.out.lt; (try (have h0 : w8.cell? ⟨_, 0, none⟩ = some (.int .i64 0) := HNz.out.2.cell 0; have h1 : w8.cell? ⟨_, 1, none⟩ = some (.string ⟨#[]⟩) := HNz.out.2.cell 1; have h2 : w8.cell? ⟨_, 2, none⟩ = some (.string ⟨#[]⟩) := HNz.out.2.cell 2; have h3 : w8.cell? ⟨_, 3, none⟩ = some (.string ⟨#[]⟩) := HNz.out.2.cell 3; have h4 : w8.cell? ⟨_, 4, none⟩ = some (.string ⟨#[]⟩) := HNz.out.2.cell 4; have h5 : w8.cell? ⟨_, 5, none⟩ = some (.slice none 0 0) := HNz.out.2.cell 5; have h6 : w8.cell? ⟨_, 6, none⟩ = some (.int .i64 0) := HNz.out.2.cell 6; have h7 : w8.cell? ⟨_, 7, none⟩ = some (.slice none 0 0) := HNz.out.2.cell 7; have h8 : w8.cell? ⟨_, 8, none⟩ = some (.slice none 0 0) := HNz.out.2.cell 8; have g0 : w8.frozen? ⟨_, 0, none⟩ = false := HNz.out.2.free 0; have g1 : w8.frozen? ⟨_, 1, none⟩ = false := HNz.out.2.free 1; have g2 : w8.frozen? ⟨_, 2, none⟩ = false := HNz.out.2.free 2; have g3 : w8.frozen? ⟨_, 3, none⟩ = false := HNz.out.2.free 3; have g4 : w8.frozen? ⟨_, 4, none⟩ = false := HNz.out.2.free 4; have g5 : w8.frozen? ⟨_, 5, none⟩ = false := HNz.out.2.free 5; have g6 : w8.frozen? ⟨_, 6, none⟩ = false := HNz.out.2.free 6; have g7 : w8.frozen? ⟨_, 7, none⟩ = false := HNz.out.2.free 7; have g8 : w8.frozen? ⟨_, 8, none⟩ = false := HNz.out.2.free 8; have q1 : ¬ _ = w1.heap.size := Nat.ne_of_gt (Nat.lt_of_lt_of_le zA HNz.out.1); have q2 : ¬ w1.heap.size = _ := Nat.ne_of_lt (Nat.lt_of_lt_of_le zA HNz.out.1); have q3 : ¬ _ = w1.heap.size + 1 := Nat.ne_of_gt (Nat.lt_of_lt_of_le zB HNz.out.1); have q4 : ¬ w1.heap.size + 1 = _ := Nat.ne_of_lt (Nat.lt_of_lt_of_le zB HNz.out.1))); clear S8 hb))
          all_goals
            go_wp2_with fail
            go_meet
            first
              | exact ⟨_, _, _, _, rfl, rfl, ⟨HNz.out.1, blk_nine HNz.out.2 _ _ _ _ _ _ _ _ _, nine_ne HS8.out (fun g hg => HAP.out g (.inl hg)) (fun g hg => HAP.out g (.inr (.inl hg))) (fun g hg => HAP.out g (.inr (.inr hg))) _ _ _ _ _ _ _ _ _, below_nine HBc.out HNz.out.1 _ _ _ _ _ _ _ _ _⟩⟩
              | exact ⟨_, _, _, _, rfl, rfl, ⟨HBc.out.size, Blk.new w8 _ _, HS8.out.below (below1 _ _) (Nat.le_refl _), HBc.out.trans ((below1 _ _).mono HBc.out.size)⟩⟩
        case rest =>
          obtain ⟨B1, p1, p2, p3, rfl, rfl, HG1⟩ := hcut
          obtain ⟨wG, hwG⟩ : ∃ wG : World, wG = wc := ⟨wc, rfl⟩
          subst hwG
          obtain ⟨gB, gSB, gSV, gBw⟩ := HG1.out
          clear HSk HEk HG1 t0 t1 t2 t3 t4 t5 t6 t7 t8 v1
          have HSk : Hid (Blk (B1) #[.int .i64 Q1.1.ph, .string Q1.1.buf, .string Q1.1.he, .string Q1.1.fr, .string Q1.1.bo, p1, .int .i64 (Q1.1.nx : Int), p2, p3] wG) := gSB
          have HEk : Hid (Blk (w1.heap.size + 1) #[.int .i64 1, .string d] wG) := Blk.below HM7.out.ev gBw
          have HGs : Hid (SV wG W7.heap.size p1 p2 p3 Q1.1) := gSV
          have bG : Below w.heap.size w wG := HM7.out.bel.trans (gBw.mono HM7.out.bel.size)
          have HGw : Hid (Below W7.heap.size W7 wG) := gBw
          clear gSB gSV gBw
          have HC2 : Hid (∀ wx : World, Below wG.heap.size wG wx → Calls Tryz.prog 10 #[.agg #[.int .i64 Q1.1.ph, .string Q1.1.buf, .string Q1.1.he, .string Q1.1.fr, .string Q1.1.bo, p1, .int .i64 (Q1.1.nx : Int), p2, p3], .agg #[.int .i64 1, .string (d.extract k d.size)]] wx fun e w' => SQ Q2 wx e w') := fun wx hx => by
            rw [← HQ2.out]
            exact implFeed Q1.1.ph (Q1.1.nx : Int) Q1.1.buf Q1.1.he Q1.1.fr Q1.1.bo p1 p2 p3 Q1.1.R Q1.1.T Q1.1.V 1 (d.extract k d.size) W7.heap.size wx (HGs.out.below hx (Nat.le_refl _)).1 (HGs.out.below hx (Nat.le_refl _)).2.1 (HGs.out.below hx (Nat.le_refl _)).2.2 HF1.out.small.1 (len_below HL.out (bG.trans (hx.mono bG.size))) (HFo.out.below (bG.trans (hx.mono bG.size))) (by rw [ByteArray.size_extract]; omega)
          obtain ⟨t0, t1, t2, t3, t4, t5, t6, t7, t8⟩ : wG.cell? ⟨B1, 0, none⟩ = some (.int .i64 Q1.1.ph) ∧ wG.cell? ⟨B1, 1, none⟩ = some (.string Q1.1.buf) ∧ wG.cell? ⟨B1, 2, none⟩ = some (.string Q1.1.he) ∧ wG.cell? ⟨B1, 3, none⟩ = some (.string Q1.1.fr) ∧ wG.cell? ⟨B1, 4, none⟩ = some (.string Q1.1.bo) ∧ wG.cell? ⟨B1, 5, none⟩ = some (p1) ∧ wG.cell? ⟨B1, 6, none⟩ = some (.int .i64 (Q1.1.nx : Int)) ∧ wG.cell? ⟨B1, 7, none⟩ = some (p2) ∧ wG.cell? ⟨B1, 8, none⟩ = some (p3) := ⟨HSk.out.cell 0, HSk.out.cell 1, HSk.out.cell 2, HSk.out.cell 3, HSk.out.cell 4, HSk.out.cell 5, HSk.out.cell 6, HSk.out.cell 7, HSk.out.cell 8⟩
          have v1 : wG.cell? ⟨w1.heap.size + 1, 1, none⟩ = some (.string d) := HEk.out.cell 1
          go_upto_region 15 with fail
          go_cut [12, 13] (fun pv xv wx => ∃ B u1 u2 u3, pv = .pointer (some ⟨B, 0, none⟩) ∧ xv = .string Q2.2 ∧ Hid (FRc wG.heap.size B Q2.1 u1 u2 u3 wG wx))
          case first =>
            have HBc : Hid (Below wG.heap.size wG wG) := (Below.refl _ _ : Below _ _ _)
            have zA : B1 < wG.heap.size := HSk.out.lt
            have zB : w1.heap.size + 1 < wG.heap.size := HEk.out.lt
            go_region_held3 (fun w' => w'.cell? ⟨B1, 0, none⟩ = some (.int .i64 Q1.1.ph) ∧ w'.cell? ⟨B1, 1, none⟩ = some (.string Q1.1.buf) ∧ w'.cell? ⟨B1, 2, none⟩ = some (.string Q1.1.he) ∧ w'.cell? ⟨B1, 3, none⟩ = some (.string Q1.1.fr) ∧ w'.cell? ⟨B1, 4, none⟩ = some (.string Q1.1.bo) ∧ w'.cell? ⟨B1, 5, none⟩ = some (p1) ∧ w'.cell? ⟨B1, 6, none⟩ = some (.int .i64 (Q1.1.nx : Int)) ∧ w'.cell? ⟨B1, 7, none⟩ = some (p2) ∧ w'.cell? ⟨B1, 8, none⟩ = some (p3) ∧ w'.cell? ⟨w1.heap.size + 1, 1, none⟩ = some (.string d)) (first | (simp only [j0, j1, j2, j3, j4, j5, j6, j7, j8, i1, and_self]; done) | go_keep) (first | (go_at_call 10; refine (HC2.out _ (by repeat (first | exact HBc.out | refine Below.drew ?_ | refine Below.alloc ?_ HBc.out.size _))).mono ?_; rintro e w8 ⟨⟨f1, f2, f3, rfl, S8⟩, hb⟩; obtain ⟨n1, l1, e1⟩ := strs_form2 S8.1; obtain ⟨n2, l2, e2⟩ := bls_form S8.2.1; obtain ⟨n3, l3, e3⟩ := vds_formD S8.2.2; subst e1; subst e2; subst e3; have HOW : ∀ g, ((Value.slice n1 Q2.1.R.length l1).ownBlock = some g ∨ (Value.slice n2 Q2.1.T.length l2).ownBlock = some g ∨ (Value.slice n3 Q2.1.V.length l3).ownBlock = some g) → _ ≤ g := fun g h => h.elim (fun e => (S8.own.1 g e).1) (fun h => h.elim (fun e => (S8.own.2.1 g e).1) (fun e => (S8.own.2.2 g e).1)); (first | (have HAP : Hid (∀ g, ((Value.slice n1 Q2.1.R.length l1).ownBlock = some g ∨ (Value.slice n2 Q2.1.T.length l2).ownBlock = some g ∨ (Value.slice n3 Q2.1.V.length l3).ownBlock = some g) → g ≠ wG.heap.size) := fun g h => (by have hh := HOW g h; simp at hh; omega)) | skip); clear HOW; have HS8 : Hid (SV w8 wG.heap.size (.slice n1 Q2.1.R.length l1) (.slice n2 Q2.1.T.length l2) (.slice n3 Q2.1.V.length l3) Q2.1) := S8.le (Below.size (B := wG.heap.size) (by repeat (first | exact HBc.out | refine Below.drew ?_ | refine Below.alloc ?_ HBc.out.size _))); (first | (have HNz : Hid (wG.heap.size ≤ _ ∧ Blk _ #[.int .i64 0, .string ⟨#[]⟩, .string ⟨#[]⟩, .string ⟨#[]⟩, .string ⟨#[]⟩, .slice none 0 0, .int .i64 0, .slice none 0 0, .slice none 0 0] w8) := ⟨HNz.out.1, Blk.below HNz.out.2 (of_drew hb)⟩) | (have HNz : Hid (wG.heap.size ≤ _ ∧ Blk _ #[.int .i64 0, .string ⟨#[]⟩, .string ⟨#[]⟩, .string ⟨#[]⟩, .string ⟨#[]⟩, .slice none 0 0, .int .i64 0, .slice none 0 0, .slice none 0 0] w8) := ⟨HNz.out.1, Blk.below HNz.out.2 hb⟩) | (have HNz : Hid (wG.heap.size ≤ _ ∧ Blk _ #[.int .i64 0, .string ⟨#[]⟩, .string ⟨#[]⟩, .string ⟨#[]⟩, .string ⟨#[]⟩, .slice none 0 0, .int .i64 0, .slice none 0 0, .slice none 0 0] w8) := ⟨HBc.out.size, Blk.below (Blk.new _ _ _) (of_drew hb)⟩) | (have HNz : Hid (wG.heap.size ≤ _ ∧ Blk _ #[.int .i64 0, .string ⟨#[]⟩, .string ⟨#[]⟩, .string ⟨#[]⟩, .string ⟨#[]⟩, .slice none 0 0, .int .i64 0, .slice none 0 0, .slice none 0 0] w8) := ⟨HBc.out.size, Blk.below (Blk.new _ _ _) hb⟩) | skip); have HBc : Hid (Below wG.heap.size wG w8) := Below.trans (by repeat (first | exact HBc.out | refine Below.drew ?_ | refine Below.alloc ?_ HBc.out.size _)) (hb.mono (Below.size (B := wG.heap.size) (by repeat (first | exact HBc.out | refine Below.drew ?_ | refine Below.alloc ?_ HBc.out.size _)))); have hAn : Hid (Blk (B1) #[.int .i64 Q1.1.ph, .string Q1.1.buf, .string Q1.1.he, .string Q1.1.fr, .string Q1.1.bo, p1, .int .i64 (Q1.1.nx : Int), p2, p3] w8) := Blk.below HSk.out HBc.out; have hEn : Hid (Blk (w1.heap.size + 1) #[.int .i64 1, .string d] w8) := Blk.below HEk.out HBc.out; obtain ⟨j0, j1, j2, j3, j4, j5, j6, j7, j8⟩ : w8.cell? ⟨B1, 0, none⟩ = some (.int .i64 Q1.1.ph) ∧ w8.cell? ⟨B1, 1, none⟩ = some (.string Q1.1.buf) ∧ w8.cell? ⟨B1, 2, none⟩ = some (.string Q1.1.he) ∧ w8.cell? ⟨B1, 3, none⟩ = some (.string Q1.1.fr) ∧ w8.cell? ⟨B1, 4, none⟩ = some (.string Q1.1.bo) ∧ w8.cell? ⟨B1, 5, none⟩ = some (p1) ∧ w8.cell? ⟨B1, 6, none⟩ = some (.int .i64 (Q1.1.nx : Int)) ∧ w8.cell? ⟨B1, 7, none⟩ = some (p2) ∧ w8.cell? ⟨B1, 8, none⟩ = some (p3) := ⟨hAn.out.cell 0, hAn.out.cell 1, hAn.out.cell 2, hAn.out.cell 3, hAn.out.cell 4, hAn.out.cell 5, hAn.out.cell 6, hAn.out.cell 7, hAn.out.cell 8⟩; have i1 : w8.cell? ⟨w1.heap.size + 1, 1, none⟩ = some (.string d) := hEn.out.cell 1; have zAn : B1 < w8.heap.size := hAn.out.lt; have zBn : w1.heap.size + 1 < w8.heap.size := hEn.out.lt; (try (have h0 : w8.cell? ⟨_, 0, none⟩ = some (.int .i64 0) := HNz.out.2.cell 0; have h1 : w8.cell? ⟨_, 1, none⟩ = some (.string ⟨#[]⟩) := HNz.out.2.cell 1; have h2 : w8.cell? ⟨_, 2, none⟩ = some (.string ⟨#[]⟩) := HNz.out.2.cell 2; have h3 : w8.cell? ⟨_, 3, none⟩ = some (.string ⟨#[]⟩) := HNz.out.2.cell 3; have h4 : w8.cell? ⟨_, 4, none⟩ = some (.string ⟨#[]⟩) := HNz.out.2.cell 4; have h5 : w8.cell? ⟨_, 5, none⟩ = some (.slice none 0 0) := HNz.out.2.cell 5; have h6 : w8.cell? ⟨_, 6, none⟩ = some (.int .i64 0) := HNz.out.2.cell 6; have h7 : w8.cell? ⟨_, 7, none⟩ = some (.slice none 0 0) := HNz.out.2.cell 7; have h8 : w8.cell? ⟨_, 8, none⟩ = some (.slice none 0 0) := HNz.out.2.cell 8; have g0 : w8.frozen? ⟨_, 0, none⟩ = false := HNz.out.2.free 0; have g1 : w8.frozen? ⟨_, 1, none⟩ = false := HNz.out.2.free 1; have g2 : w8.frozen? ⟨_, 2, none⟩ = false := HNz.out.2.free 2; have g3 : w8.frozen? ⟨_, 3, none⟩ = false := HNz.out.2.free 3; have g4 : w8.frozen? ⟨_, 4, none⟩ = false := HNz.out.2.free 4; have g5 : w8.frozen? ⟨_, 5, none⟩ = false := HNz.out.2.free 5; have g6 : w8.frozen? ⟨_, 6, none⟩ = false := HNz.out.2.free 6; have g7 : w8.frozen? ⟨_, 7, none⟩ = false := HNz.out.2.free 7; have g8 : w8.frozen? ⟨_, 8, none⟩ = false := HNz.out.2.free 8; have q1 : ¬ _ = B1 := Nat.ne_of_gt (Nat.lt_of_lt_of_le zA HNz.out.1); have q2 : ¬ B1 = _ := Nat.ne_of_lt (Nat.lt_of_lt_of_le zA HNz.out.1); have q3 : ¬ _ = w1.heap.size + 1 := Nat.ne_of_gt (Nat.lt_of_lt_of_le zB HNz.out.1); have q4 : ¬ w1.heap.size + 1 = _ := Nat.ne_of_lt (Nat.lt_of_lt_of_le zB HNz.out.1))); clear S8 hb))
            all_goals
              go_wp2_with fail
              go_meet
              first
                | exact ⟨_, _, _, _, rfl, rfl, ⟨HNz.out.1, blk_nine HNz.out.2 _ _ _ _ _ _ _ _ _, nine_ne HS8.out (fun g hg => HAP.out g (.inl hg)) (fun g hg => HAP.out g (.inr (.inl hg))) (fun g hg => HAP.out g (.inr (.inr hg))) _ _ _ _ _ _ _ _ _, below_nine HBc.out HNz.out.1 _ _ _ _ _ _ _ _ _⟩⟩
                | exact ⟨_, _, _, _, rfl, rfl, ⟨HBc.out.size, Blk.new w8 _ _, HS8.out.below (below1 _ _) (Nat.le_refl _), HBc.out.trans ((below1 _ _).mono HBc.out.size)⟩⟩
          case rest =>
            obtain ⟨B2, x1, x2, x3, rfl, rfl, HG2⟩ := hcut
            obtain ⟨hB, hSB, hSV, hBw⟩ := HG2.out
            clear t0 t1 t2 t3 t4 t5 t6 t7 t8 v1 HG2
            rw [HPu.out.1] at hSB hSV
            have HU : Hid (SV wc wG.heap.size x1 x2 x3 Q.1) := hSV
            have b7c : Below W7.heap.size W7 wc := HGw.out.trans (hBw.mono HGw.out.size)
            have bc : Below w.heap.size w wc := bG.trans (hBw.mono bG.size)
            have HWt : Hid (SV wc W2.heap.size (.slice n1 Q.1.R.length l1) (.slice n2 Q.1.T.length l2) (.slice n3 Q.1.V.length l3) Q.1) := HM7.out.wrows.below b7c (Nat.le_refl _)
            obtain ⟨t0, t1, t2, t3, t4, t5, t6, t7, t8⟩ := hSB.cells
            obtain ⟨d0, d1, d2, d3, d4, d5, d6, d7, d8⟩ := (SB.below HM7.out.want b7c).cells
            clear hSB hSV
            have hcat := HPu.out.2
            go_wp2_with fail
            refine (sameSess Q.1 _ _ _ _ _ _ _ _ wc HU.out HWt.out HFq.out.small.2.2.1 HFq.out.small.2.2.2.1 HFq.out.small.2.2.2.2 HFq.out.small.1.2.2.2.2.2.1).mono ?_
            rintro e wn ⟨rfl, hbn⟩
            clear t0 t1 t2 t3 t4 t5 t6 t7 t8 d0 d1 d2 d3 d4 d5 d6 d7 d8
            go_wp2
            go_ret
            exact ⟨rfl, bc.trans (hbn.mono bc.size)⟩
      · have hzi : (40000 : Int) < (buf.size : Int) + (d.size : Int) := by omega
        go_wp2_with fail
        go_quiet (fail)
        go_wp2
        go_ret
        exact ⟨rfl, bel_drewS HM.out.bel _⟩
    · rcases (show (¬ (0 : Int) < B.length ∧ B.length = 0) ∨ ((0 : Int) < B.length ∧ ¬ (0 : Int) < d.size ∧ d.size = 0) by omega) with ⟨hb0i, hcl⟩ | ⟨hb0i, hd0i, hcl⟩
      all_goals
        clear hbp
        by_cases hz : buf.size + d.size ≤ 40000
        · clear hcl
          go_upto_region 12 with fail
          obtain ⟨W7, hW7⟩ : ∃ W7 : World, W7 = W6 := ⟨W6, rfl⟩
          subst hW7
          have HM7 : Hid (ChM w W2 W4 #[.int .i64 ph, .string buf, .string he, .string fr, .string bo, .slice m5 R.length o5, .int .i64 nx, .slice m7 T.length o7, .slice m8 V.length o8] (w1.heap.size) w3.heap.size 1 d Q.1 (.slice n1 Q.1.R.length l1) (.slice n2 Q.1.T.length l2) (.slice n3 Q.1.V.length l3) (.slice m5 R.length o5) (.slice m7 T.length o7) (.slice m8 V.length o8) ⟨ph, buf, he, fr, bo, R, 0, T, V⟩ W7) := HM
          obtain ⟨Q1, hQ1⟩ : ∃ Q1, feedN ph nx buf he fr bo R T V 1 ByteArray.empty = Q1 := ⟨_, rfl⟩
          obtain ⟨Q2, hQ2⟩ : ∃ Q2, feedS Q1.1 1 d = Q2 := ⟨_, rfl⟩
          have hpure := chunk_pure ph nx buf he fr bo R T V d 0 hz
          rw [ext_none, ext_all] at hpure
          rw [HQ.out, hQ1, hQ2] at hpure
          have HF1 : Hid (Fine Q1.1) := by show Fine Q1.1; rw [← hQ1]; exact feedN_fine _ _ _ _ _ _ _ _ _ _ _
          have HPu : Hid (Q2.1 = Q.1 ∧ Q1.2 ++ Q2.2 = Q.2) := by show _ ∧ _; rw [hpure]; exact ⟨rfl, rfl⟩
          have hs1 : Q1.2.size ≤ 800000000 := by rw [← hQ1]; exact feedN_said _ _ _ _ _ _ _ _ _ _ _
          have hs2 : Q2.2.size ≤ 800000000 := by rw [← hQ2]; exact feedN_said _ _ _ _ _ _ _ _ _ _ _
          have HC1 : Hid (∀ wx : World, Below W7.heap.size W7 wx → Calls Tryz.prog 10 #[.agg #[.int .i64 ph, .string buf, .string he, .string fr, .string bo, .slice m5 R.length o5, .int .i64 nx, .slice m7 T.length o7, .slice m8 V.length o8], .agg #[.int .i64 1, .string ByteArray.empty]] wx fun e w' => SQ Q1 wx e w') := fun wx hx => by
            rw [← hQ1]
            exact HIm.out wx W4.heap.size _ _ _ 1 ByteArray.empty (HM7.out.bel.trans (hx.mono HM7.out.bel.size)) (by first | omega | exact Nat.zero_le _) (HM7.out.rows.below hx (Nat.le_refl _))
          have HQ2 : Hid (feedS Q1.1 1 d = Q2) := hQ2
          clear hpure hQ1 hQ2
          have hzi : ¬ (40000 : Int) < (buf.size : Int) + (d.size : Int) := by omega
          go_upto_region 14 with fail
          have HSk : Hid (Blk (w1.heap.size) #[.int .i64 ph, .string buf, .string he, .string fr, .string bo, .slice m5 R.length o5, .int .i64 nx, .slice m7 T.length o7, .slice m8 V.length o8] W7) := HM7.out.sb
          have HEk : Hid (Blk (w1.heap.size + 1) #[.int .i64 1, .string d] W7) := HM7.out.ev
          go_cut [10, 11] (fun pv xv wx => ∃ B u1 u2 u3, pv = .pointer (some ⟨B, 0, none⟩) ∧ xv = .string Q1.2 ∧ Hid (FRc W7.heap.size B Q1.1 u1 u2 u3 W7 wx))
          case first =>
            have HBc : Hid (Below W7.heap.size W7 W7) := (Below.refl _ _ : Below _ _ _)
            have zA : w1.heap.size < W7.heap.size := HSk.out.lt
            have zB : w1.heap.size + 1 < W7.heap.size := HEk.out.lt
            go_region_held3 (fun w' => w'.cell? ⟨w1.heap.size, 0, none⟩ = some (.int .i64 ph) ∧ w'.cell? ⟨w1.heap.size, 1, none⟩ = some (.string buf) ∧ w'.cell? ⟨w1.heap.size, 2, none⟩ = some (.string he) ∧ w'.cell? ⟨w1.heap.size, 3, none⟩ = some (.string fr) ∧ w'.cell? ⟨w1.heap.size, 4, none⟩ = some (.string bo) ∧ w'.cell? ⟨w1.heap.size, 5, none⟩ = some (.slice m5 R.length o5) ∧ w'.cell? ⟨w1.heap.size, 6, none⟩ = some (.int .i64 nx) ∧ w'.cell? ⟨w1.heap.size, 7, none⟩ = some (.slice m7 T.length o7) ∧ w'.cell? ⟨w1.heap.size, 8, none⟩ = some (.slice m8 V.length o8) ∧ w'.cell? ⟨w1.heap.size + 1, 1, none⟩ = some (.string d)) (first | (simp only [j0, j1, j2, j3, j4, j5, j6, j7, j8, i1, and_self]; done) | go_keep) (first | (go_at_call 10; refine (HC1.out _ (by repeat (first | exact HBc.out | refine Below.drew ?_ | refine Below.alloc ?_ HBc.out.size _))).mono ?_; rintro e w8 ⟨⟨f1, f2, f3, rfl, S8⟩, hb⟩; obtain ⟨n1, l1, e1⟩ := strs_form2 S8.1; obtain ⟨n2, l2, e2⟩ := bls_form S8.2.1; obtain ⟨n3, l3, e3⟩ := vds_formD S8.2.2; subst e1; subst e2; subst e3; have HOW : ∀ g, ((Value.slice n1 Q1.1.R.length l1).ownBlock = some g ∨ (Value.slice n2 Q1.1.T.length l2).ownBlock = some g ∨ (Value.slice n3 Q1.1.V.length l3).ownBlock = some g) → _ ≤ g := fun g h => h.elim (fun e => (S8.own.1 g e).1) (fun h => h.elim (fun e => (S8.own.2.1 g e).1) (fun e => (S8.own.2.2 g e).1)); (first | (have HAP : Hid (∀ g, ((Value.slice n1 Q1.1.R.length l1).ownBlock = some g ∨ (Value.slice n2 Q1.1.T.length l2).ownBlock = some g ∨ (Value.slice n3 Q1.1.V.length l3).ownBlock = some g) → g ≠ W7.heap.size) := fun g h => (by have hh := HOW g h; simp at hh; omega)) | skip); clear HOW; have HS8 : Hid (SV w8 W7.heap.size (.slice n1 Q1.1.R.length l1) (.slice n2 Q1.1.T.length l2) (.slice n3 Q1.1.V.length l3) Q1.1) := S8.le (Below.size (B := W7.heap.size) (by repeat (first | exact HBc.out | refine Below.drew ?_ | refine Below.alloc ?_ HBc.out.size _))); (first | (have HNz : Hid (W7.heap.size ≤ _ ∧ Blk _ #[.int .i64 0, .string ⟨#[]⟩, .string ⟨#[]⟩, .string ⟨#[]⟩, .string ⟨#[]⟩, .slice none 0 0, .int .i64 0, .slice none 0 0, .slice none 0 0] w8) := ⟨HNz.out.1, Blk.below HNz.out.2 (of_drew hb)⟩) | (have HNz : Hid (W7.heap.size ≤ _ ∧ Blk _ #[.int .i64 0, .string ⟨#[]⟩, .string ⟨#[]⟩, .string ⟨#[]⟩, .string ⟨#[]⟩, .slice none 0 0, .int .i64 0, .slice none 0 0, .slice none 0 0] w8) := ⟨HNz.out.1, Blk.below HNz.out.2 hb⟩) | (have HNz : Hid (W7.heap.size ≤ _ ∧ Blk _ #[.int .i64 0, .string ⟨#[]⟩, .string ⟨#[]⟩, .string ⟨#[]⟩, .string ⟨#[]⟩, .slice none 0 0, .int .i64 0, .slice none 0 0, .slice none 0 0] w8) := ⟨HBc.out.size, Blk.below (Blk.new _ _ _) (of_drew hb)⟩) | (have HNz : Hid (W7.heap.size ≤ _ ∧ Blk _ #[.int .i64 0, .string ⟨#[]⟩, .string ⟨#[]⟩, .string ⟨#[]⟩, .string ⟨#[]⟩, .slice none 0 0, .int .i64 0, .slice none 0 0, .slice none 0 0] w8) := ⟨HBc.out.size, Blk.below (Blk.new _ _ _) hb⟩) | skip); have HBc : Hid (Below W7.heap.size W7 w8) := Below.trans (by repeat (first | exact HBc.out | refine Below.drew ?_ | refine Below.alloc ?_ HBc.out.size _)) (hb.mono (Below.size (B := W7.heap.size) (by repeat (first | exact HBc.out | refine Below.drew ?_ | refine Below.alloc ?_ HBc.out.size _)))); have hAn : Hid (Blk (w1.heap.size) #[.int .i64 ph, .string buf, .string he, .string fr, .string bo, .slice m5 R.length o5, .int .i64 nx, .slice m7 T.length o7, .slice m8 V.length o8] w8) := Blk.below HSk.out HBc.out; have hEn : Hid (Blk (w1.heap.size + 1) #[.int .i64 1, .string d] w8) := Blk.below HEk.out HBc.out; obtain ⟨j0, j1, j2, j3, j4, j5, j6, j7, j8⟩ : w8.cell? ⟨w1.heap.size, 0, none⟩ = some (.int .i64 ph) ∧ w8.cell? ⟨w1.heap.size, 1, none⟩ = some (.string buf) ∧ w8.cell? ⟨w1.heap.size, 2, none⟩ = some (.string he) ∧ w8.cell? ⟨w1.heap.size, 3, none⟩ = some (.string fr) ∧ w8.cell? ⟨w1.heap.size, 4, none⟩ = some (.string bo) ∧ w8.cell? ⟨w1.heap.size, 5, none⟩ = some (.slice m5 R.length o5) ∧ w8.cell? ⟨w1.heap.size, 6, none⟩ = some (.int .i64 nx) ∧ w8.cell? ⟨w1.heap.size, 7, none⟩ = some (.slice m7 T.length o7) ∧ w8.cell? ⟨w1.heap.size, 8, none⟩ = some (.slice m8 V.length o8) := ⟨hAn.out.cell 0, hAn.out.cell 1, hAn.out.cell 2, hAn.out.cell 3, hAn.out.cell 4, hAn.out.cell 5, hAn.out.cell 6, hAn.out.cell 7, hAn.out.cell 8⟩; have i1 : w8.cell? ⟨w1.heap.size + 1, 1, none⟩ = some (.string d) := hEn.out.cell 1; have zAn : w1.heap.size < w8.heap.size := hAn.out.lt; have zBn : w1.heap.size + 1 < w8.heap.size := hEn.out.lt; (try (have h0 : w8.cell? ⟨_, 0, none⟩ = some (.int .i64 0) := HNz.out.2.cell 0; have h1 : w8.cell? ⟨_, 1, none⟩ = some (.string ⟨#[]⟩) := HNz.out.2.cell 1; have h2 : w8.cell? ⟨_, 2, none⟩ = some (.string ⟨#[]⟩) := HNz.out.2.cell 2; have h3 : w8.cell? ⟨_, 3, none⟩ = some (.string ⟨#[]⟩) := HNz.out.2.cell 3; have h4 : w8.cell? ⟨_, 4, none⟩ = some (.string ⟨#[]⟩) := HNz.out.2.cell 4; have h5 : w8.cell? ⟨_, 5, none⟩ = some (.slice none 0 0) := HNz.out.2.cell 5; have h6 : w8.cell? ⟨_, 6, none⟩ = some (.int .i64 0) := HNz.out.2.cell 6; have h7 : w8.cell? ⟨_, 7, none⟩ = some (.slice none 0 0) := HNz.out.2.cell 7; have h8 : w8.cell? ⟨_, 8, none⟩ = some (.slice none 0 0) := HNz.out.2.cell 8; have g0 : w8.frozen? ⟨_, 0, none⟩ = false := HNz.out.2.free 0; have g1 : w8.frozen? ⟨_, 1, none⟩ = false := HNz.out.2.free 1; have g2 : w8.frozen? ⟨_, 2, none⟩ = false := HNz.out.2.free 2; have g3 : w8.frozen? ⟨_, 3, none⟩ = false := HNz.out.2.free 3; have g4 : w8.frozen? ⟨_, 4, none⟩ = false := HNz.out.2.free 4; have g5 : w8.frozen? ⟨_, 5, none⟩ = false := HNz.out.2.free 5; have g6 : w8.frozen? ⟨_, 6, none⟩ = false := HNz.out.2.free 6; have g7 : w8.frozen? ⟨_, 7, none⟩ = false := HNz.out.2.free 7; have g8 : w8.frozen? ⟨_, 8, none⟩ = false := HNz.out.2.free 8; have q1 : ¬ _ = w1.heap.size := Nat.ne_of_gt (Nat.lt_of_lt_of_le zA HNz.out.1); have q2 : ¬ w1.heap.size = _ := Nat.ne_of_lt (Nat.lt_of_lt_of_le zA HNz.out.1); have q3 : ¬ _ = w1.heap.size + 1 := Nat.ne_of_gt (Nat.lt_of_lt_of_le zB HNz.out.1); have q4 : ¬ w1.heap.size + 1 = _ := Nat.ne_of_lt (Nat.lt_of_lt_of_le zB HNz.out.1))); clear S8 hb))
            all_goals
              go_wp2_with fail
              go_meet
              first
                | exact ⟨_, _, _, _, rfl, rfl, ⟨HNz.out.1, blk_nine HNz.out.2 _ _ _ _ _ _ _ _ _, nine_ne HS8.out (fun g hg => HAP.out g (.inl hg)) (fun g hg => HAP.out g (.inr (.inl hg))) (fun g hg => HAP.out g (.inr (.inr hg))) _ _ _ _ _ _ _ _ _, below_nine HBc.out HNz.out.1 _ _ _ _ _ _ _ _ _⟩⟩
                | exact ⟨_, _, _, _, rfl, rfl, ⟨HBc.out.size, Blk.new w8 _ _, HS8.out.below (below1 _ _) (Nat.le_refl _), HBc.out.trans ((below1 _ _).mono HBc.out.size)⟩⟩
          case rest =>
            obtain ⟨B1, p1, p2, p3, rfl, rfl, HG1⟩ := hcut
            obtain ⟨wG, hwG⟩ : ∃ wG : World, wG = wc := ⟨wc, rfl⟩
            subst hwG
            obtain ⟨gB, gSB, gSV, gBw⟩ := HG1.out
            clear HSk HEk HG1 t0 t1 t2 t3 t4 t5 t6 t7 t8 v0 v1
            have HSk : Hid (Blk (B1) #[.int .i64 Q1.1.ph, .string Q1.1.buf, .string Q1.1.he, .string Q1.1.fr, .string Q1.1.bo, p1, .int .i64 (Q1.1.nx : Int), p2, p3] wG) := gSB
            have HEk : Hid (Blk (w1.heap.size + 1) #[.int .i64 1, .string d] wG) := Blk.below HM7.out.ev gBw
            have HGs : Hid (SV wG W7.heap.size p1 p2 p3 Q1.1) := gSV
            have bG : Below w.heap.size w wG := HM7.out.bel.trans (gBw.mono HM7.out.bel.size)
            have HGw : Hid (Below W7.heap.size W7 wG) := gBw
            clear gSB gSV gBw
            have HC2 : Hid (∀ wx : World, Below wG.heap.size wG wx → Calls Tryz.prog 10 #[.agg #[.int .i64 Q1.1.ph, .string Q1.1.buf, .string Q1.1.he, .string Q1.1.fr, .string Q1.1.bo, p1, .int .i64 (Q1.1.nx : Int), p2, p3], .agg #[.int .i64 1, .string d]] wx fun e w' => SQ Q2 wx e w') := fun wx hx => by
              rw [← HQ2.out]
              exact implFeed Q1.1.ph (Q1.1.nx : Int) Q1.1.buf Q1.1.he Q1.1.fr Q1.1.bo p1 p2 p3 Q1.1.R Q1.1.T Q1.1.V 1 d W7.heap.size wx (HGs.out.below hx (Nat.le_refl _)).1 (HGs.out.below hx (Nat.le_refl _)).2.1 (HGs.out.below hx (Nat.le_refl _)).2.2 HF1.out.small.1 (len_below HL.out (bG.trans (hx.mono bG.size))) (HFo.out.below (bG.trans (hx.mono bG.size))) (by first | omega | exact Nat.zero_le _)
            obtain ⟨t0, t1, t2, t3, t4, t5, t6, t7, t8⟩ : wG.cell? ⟨B1, 0, none⟩ = some (.int .i64 Q1.1.ph) ∧ wG.cell? ⟨B1, 1, none⟩ = some (.string Q1.1.buf) ∧ wG.cell? ⟨B1, 2, none⟩ = some (.string Q1.1.he) ∧ wG.cell? ⟨B1, 3, none⟩ = some (.string Q1.1.fr) ∧ wG.cell? ⟨B1, 4, none⟩ = some (.string Q1.1.bo) ∧ wG.cell? ⟨B1, 5, none⟩ = some (p1) ∧ wG.cell? ⟨B1, 6, none⟩ = some (.int .i64 (Q1.1.nx : Int)) ∧ wG.cell? ⟨B1, 7, none⟩ = some (p2) ∧ wG.cell? ⟨B1, 8, none⟩ = some (p3) := ⟨HSk.out.cell 0, HSk.out.cell 1, HSk.out.cell 2, HSk.out.cell 3, HSk.out.cell 4, HSk.out.cell 5, HSk.out.cell 6, HSk.out.cell 7, HSk.out.cell 8⟩
            have v1 : wG.cell? ⟨w1.heap.size + 1, 1, none⟩ = some (.string d) := HEk.out.cell 1
            go_upto_region 15 with fail
            go_cut [12, 13] (fun pv xv wx => ∃ B u1 u2 u3, pv = .pointer (some ⟨B, 0, none⟩) ∧ xv = .string Q2.2 ∧ Hid (FRc wG.heap.size B Q2.1 u1 u2 u3 wG wx))
            case first =>
              have HBc : Hid (Below wG.heap.size wG wG) := (Below.refl _ _ : Below _ _ _)
              have zA : B1 < wG.heap.size := HSk.out.lt
              have zB : w1.heap.size + 1 < wG.heap.size := HEk.out.lt
              go_region_held3 (fun w' => w'.cell? ⟨B1, 0, none⟩ = some (.int .i64 Q1.1.ph) ∧ w'.cell? ⟨B1, 1, none⟩ = some (.string Q1.1.buf) ∧ w'.cell? ⟨B1, 2, none⟩ = some (.string Q1.1.he) ∧ w'.cell? ⟨B1, 3, none⟩ = some (.string Q1.1.fr) ∧ w'.cell? ⟨B1, 4, none⟩ = some (.string Q1.1.bo) ∧ w'.cell? ⟨B1, 5, none⟩ = some (p1) ∧ w'.cell? ⟨B1, 6, none⟩ = some (.int .i64 (Q1.1.nx : Int)) ∧ w'.cell? ⟨B1, 7, none⟩ = some (p2) ∧ w'.cell? ⟨B1, 8, none⟩ = some (p3) ∧ w'.cell? ⟨w1.heap.size + 1, 1, none⟩ = some (.string d)) (first | (simp only [j0, j1, j2, j3, j4, j5, j6, j7, j8, i1, and_self]; done) | go_keep) (first | (go_at_call 10; refine (HC2.out _ (by repeat (first | exact HBc.out | refine Below.drew ?_ | refine Below.alloc ?_ HBc.out.size _))).mono ?_; rintro e w8 ⟨⟨f1, f2, f3, rfl, S8⟩, hb⟩; obtain ⟨n1, l1, e1⟩ := strs_form2 S8.1; obtain ⟨n2, l2, e2⟩ := bls_form S8.2.1; obtain ⟨n3, l3, e3⟩ := vds_formD S8.2.2; subst e1; subst e2; subst e3; have HOW : ∀ g, ((Value.slice n1 Q2.1.R.length l1).ownBlock = some g ∨ (Value.slice n2 Q2.1.T.length l2).ownBlock = some g ∨ (Value.slice n3 Q2.1.V.length l3).ownBlock = some g) → _ ≤ g := fun g h => h.elim (fun e => (S8.own.1 g e).1) (fun h => h.elim (fun e => (S8.own.2.1 g e).1) (fun e => (S8.own.2.2 g e).1)); (first | (have HAP : Hid (∀ g, ((Value.slice n1 Q2.1.R.length l1).ownBlock = some g ∨ (Value.slice n2 Q2.1.T.length l2).ownBlock = some g ∨ (Value.slice n3 Q2.1.V.length l3).ownBlock = some g) → g ≠ wG.heap.size) := fun g h => (by have hh := HOW g h; simp at hh; omega)) | skip); clear HOW; have HS8 : Hid (SV w8 wG.heap.size (.slice n1 Q2.1.R.length l1) (.slice n2 Q2.1.T.length l2) (.slice n3 Q2.1.V.length l3) Q2.1) := S8.le (Below.size (B := wG.heap.size) (by repeat (first | exact HBc.out | refine Below.drew ?_ | refine Below.alloc ?_ HBc.out.size _))); (first | (have HNz : Hid (wG.heap.size ≤ _ ∧ Blk _ #[.int .i64 0, .string ⟨#[]⟩, .string ⟨#[]⟩, .string ⟨#[]⟩, .string ⟨#[]⟩, .slice none 0 0, .int .i64 0, .slice none 0 0, .slice none 0 0] w8) := ⟨HNz.out.1, Blk.below HNz.out.2 (of_drew hb)⟩) | (have HNz : Hid (wG.heap.size ≤ _ ∧ Blk _ #[.int .i64 0, .string ⟨#[]⟩, .string ⟨#[]⟩, .string ⟨#[]⟩, .string ⟨#[]⟩, .slice none 0 0, .int .i64 0, .slice none 0 0, .slice none 0 0] w8) := ⟨HNz.out.1, Blk.below HNz.out.2 hb⟩) | (have HNz : Hid (wG.heap.size ≤ _ ∧ Blk _ #[.int .i64 0, .string ⟨#[]⟩, .string ⟨#[]⟩, .string ⟨#[]⟩, .string ⟨#[]⟩, .slice none 0 0, .int .i64 0, .slice none 0 0, .slice none 0 0] w8) := ⟨HBc.out.size, Blk.below (Blk.new _ _ _) (of_drew hb)⟩) | (have HNz : Hid (wG.heap.size ≤ _ ∧ Blk _ #[.int .i64 0, .string ⟨#[]⟩, .string ⟨#[]⟩, .string ⟨#[]⟩, .string ⟨#[]⟩, .slice none 0 0, .int .i64 0, .slice none 0 0, .slice none 0 0] w8) := ⟨HBc.out.size, Blk.below (Blk.new _ _ _) hb⟩) | skip); have HBc : Hid (Below wG.heap.size wG w8) := Below.trans (by repeat (first | exact HBc.out | refine Below.drew ?_ | refine Below.alloc ?_ HBc.out.size _)) (hb.mono (Below.size (B := wG.heap.size) (by repeat (first | exact HBc.out | refine Below.drew ?_ | refine Below.alloc ?_ HBc.out.size _)))); have hAn : Hid (Blk (B1) #[.int .i64 Q1.1.ph, .string Q1.1.buf, .string Q1.1.he, .string Q1.1.fr, .string Q1.1.bo, p1, .int .i64 (Q1.1.nx : Int), p2, p3] w8) := Blk.below HSk.out HBc.out; have hEn : Hid (Blk (w1.heap.size + 1) #[.int .i64 1, .string d] w8) := Blk.below HEk.out HBc.out; obtain ⟨j0, j1, j2, j3, j4, j5, j6, j7, j8⟩ : w8.cell? ⟨B1, 0, none⟩ = some (.int .i64 Q1.1.ph) ∧ w8.cell? ⟨B1, 1, none⟩ = some (.string Q1.1.buf) ∧ w8.cell? ⟨B1, 2, none⟩ = some (.string Q1.1.he) ∧ w8.cell? ⟨B1, 3, none⟩ = some (.string Q1.1.fr) ∧ w8.cell? ⟨B1, 4, none⟩ = some (.string Q1.1.bo) ∧ w8.cell? ⟨B1, 5, none⟩ = some (p1) ∧ w8.cell? ⟨B1, 6, none⟩ = some (.int .i64 (Q1.1.nx : Int)) ∧ w8.cell? ⟨B1, 7, none⟩ = some (p2) ∧ w8.cell? ⟨B1, 8, none⟩ = some (p3) := ⟨hAn.out.cell 0, hAn.out.cell 1, hAn.out.cell 2, hAn.out.cell 3, hAn.out.cell 4, hAn.out.cell 5, hAn.out.cell 6, hAn.out.cell 7, hAn.out.cell 8⟩; have i1 : w8.cell? ⟨w1.heap.size + 1, 1, none⟩ = some (.string d) := hEn.out.cell 1; have zAn : B1 < w8.heap.size := hAn.out.lt; have zBn : w1.heap.size + 1 < w8.heap.size := hEn.out.lt; (try (have h0 : w8.cell? ⟨_, 0, none⟩ = some (.int .i64 0) := HNz.out.2.cell 0; have h1 : w8.cell? ⟨_, 1, none⟩ = some (.string ⟨#[]⟩) := HNz.out.2.cell 1; have h2 : w8.cell? ⟨_, 2, none⟩ = some (.string ⟨#[]⟩) := HNz.out.2.cell 2; have h3 : w8.cell? ⟨_, 3, none⟩ = some (.string ⟨#[]⟩) := HNz.out.2.cell 3; have h4 : w8.cell? ⟨_, 4, none⟩ = some (.string ⟨#[]⟩) := HNz.out.2.cell 4; have h5 : w8.cell? ⟨_, 5, none⟩ = some (.slice none 0 0) := HNz.out.2.cell 5; have h6 : w8.cell? ⟨_, 6, none⟩ = some (.int .i64 0) := HNz.out.2.cell 6; have h7 : w8.cell? ⟨_, 7, none⟩ = some (.slice none 0 0) := HNz.out.2.cell 7; have h8 : w8.cell? ⟨_, 8, none⟩ = some (.slice none 0 0) := HNz.out.2.cell 8; have g0 : w8.frozen? ⟨_, 0, none⟩ = false := HNz.out.2.free 0; have g1 : w8.frozen? ⟨_, 1, none⟩ = false := HNz.out.2.free 1; have g2 : w8.frozen? ⟨_, 2, none⟩ = false := HNz.out.2.free 2; have g3 : w8.frozen? ⟨_, 3, none⟩ = false := HNz.out.2.free 3; have g4 : w8.frozen? ⟨_, 4, none⟩ = false := HNz.out.2.free 4; have g5 : w8.frozen? ⟨_, 5, none⟩ = false := HNz.out.2.free 5; have g6 : w8.frozen? ⟨_, 6, none⟩ = false := HNz.out.2.free 6; have g7 : w8.frozen? ⟨_, 7, none⟩ = false := HNz.out.2.free 7; have g8 : w8.frozen? ⟨_, 8, none⟩ = false := HNz.out.2.free 8; have q1 : ¬ _ = B1 := Nat.ne_of_gt (Nat.lt_of_lt_of_le zA HNz.out.1); have q2 : ¬ B1 = _ := Nat.ne_of_lt (Nat.lt_of_lt_of_le zA HNz.out.1); have q3 : ¬ _ = w1.heap.size + 1 := Nat.ne_of_gt (Nat.lt_of_lt_of_le zB HNz.out.1); have q4 : ¬ w1.heap.size + 1 = _ := Nat.ne_of_lt (Nat.lt_of_lt_of_le zB HNz.out.1))); clear S8 hb))
              all_goals
                go_wp2_with fail
                go_meet
                first
                  | exact ⟨_, _, _, _, rfl, rfl, ⟨HNz.out.1, blk_nine HNz.out.2 _ _ _ _ _ _ _ _ _, nine_ne HS8.out (fun g hg => HAP.out g (.inl hg)) (fun g hg => HAP.out g (.inr (.inl hg))) (fun g hg => HAP.out g (.inr (.inr hg))) _ _ _ _ _ _ _ _ _, below_nine HBc.out HNz.out.1 _ _ _ _ _ _ _ _ _⟩⟩
                  | exact ⟨_, _, _, _, rfl, rfl, ⟨HBc.out.size, Blk.new w8 _ _, HS8.out.below (below1 _ _) (Nat.le_refl _), HBc.out.trans ((below1 _ _).mono HBc.out.size)⟩⟩
            case rest =>
              obtain ⟨B2, x1, x2, x3, rfl, rfl, HG2⟩ := hcut
              obtain ⟨hB, hSB, hSV, hBw⟩ := HG2.out
              clear t0 t1 t2 t3 t4 t5 t6 t7 t8 v1 HG2
              rw [HPu.out.1] at hSB hSV
              have HU : Hid (SV wc wG.heap.size x1 x2 x3 Q.1) := hSV
              have b7c : Below W7.heap.size W7 wc := HGw.out.trans (hBw.mono HGw.out.size)
              have bc : Below w.heap.size w wc := bG.trans (hBw.mono bG.size)
              have HWt : Hid (SV wc W2.heap.size (.slice n1 Q.1.R.length l1) (.slice n2 Q.1.T.length l2) (.slice n3 Q.1.V.length l3) Q.1) := HM7.out.wrows.below b7c (Nat.le_refl _)
              obtain ⟨t0, t1, t2, t3, t4, t5, t6, t7, t8⟩ := hSB.cells
              obtain ⟨d0, d1, d2, d3, d4, d5, d6, d7, d8⟩ := (SB.below HM7.out.want b7c).cells
              clear hSB hSV
              have hcat := HPu.out.2
              go_wp2_with fail
              refine (sameSess Q.1 _ _ _ _ _ _ _ _ wc HU.out HWt.out HFq.out.small.2.2.1 HFq.out.small.2.2.2.1 HFq.out.small.2.2.2.2 HFq.out.small.1.2.2.2.2.2.1).mono ?_
              rintro e wn ⟨rfl, hbn⟩
              clear t0 t1 t2 t3 t4 t5 t6 t7 t8 d0 d1 d2 d3 d4 d5 d6 d7 d8
              go_wp2
              go_ret
              exact ⟨rfl, bc.trans (hbn.mono bc.size)⟩
        · first
            | exact absurd hz (by omega)
            | (have hzi : (40000 : Int) < (buf.size : Int) + (d.size : Int) := by omega
               go_wp2
               go_ret
               exact ⟨rfl, HM.out.bel⟩)
  · have hk1b : (kind == 1) = false := beq_eq_false_iff_ne.2 hk1
    go_wp2_with fail
    have hI := HIm.out W6 W4.heap.size _ _ _ kind d HM.out.bel (by omega) HM.out.rows
    rw [HQ.out] at hI
    refine hI.mono ?_
    clear hI t0 t1 t2 t3 t4 t5 t6 t7 t8 v0 v1
    rintro e w7 ⟨⟨f1, f2, f3, rfl, S7⟩, hb7⟩
    obtain ⟨g1, k1, e1⟩ := strs_form2 S7.1
    obtain ⟨g2, k2, e2⟩ := bls_form S7.2.1
    obtain ⟨g3, k3, e3⟩ := vds_formD S7.2.2
    subst e1 e2 e3
    have HS7 : Hid (SV w7 W6.heap.size (.slice g1 Q.1.R.length k1) (.slice g2 Q.1.T.length k2) (.slice g3 Q.1.V.length k3) Q.1) := S7
    have HB7 : Hid (Below W6.heap.size W6 w7) := hb7
    clear S7 hb7
    obtain ⟨d0, d1, d2, d3, d4, d5, d6, d7, d8⟩ := (SB.below HM.out.want HB7.out).cells
    have lw : w3.heap.size < w7.heap.size := (SB.below HM.out.want HB7.out).lt
    go_wp2_with fail
    generalize hW8 : World.alloc _ _ = W8
    have hb8 : Below w7.heap.size w7 W8 := by rw [← hW8]; exact below1 _ _
    have b68 : Below W6.heap.size W6 W8 := HB7.out.trans (hb8.mono HB7.out.size)
    have b8 : Below w.heap.size w W8 := HM.out.bel.trans (b68.mono HM.out.bel.size)
    refine (sameSess Q.1 _ _ _ _ _ _ _ _ W8 (HS7.out.below hb8 (Nat.le_refl _)) (HM.out.wrows.below b68 (Nat.le_refl _)) HFq.out.small.2.2.1 HFq.out.small.2.2.2.1 HFq.out.small.2.2.2.2 HFq.out.small.1.2.2.2.2.2.1).mono ?_
    rintro e w9 ⟨rfl, hb9⟩
    clear d0 d1 d2 d3 d4 d5 d6 d7 d8
    go_wp2
    go_ret
    exact ⟨rfl, b8.trans (hb9.mono b8.size)⟩
end Go.Proofs.YtngcjlghjidnjaaGreatDoor
