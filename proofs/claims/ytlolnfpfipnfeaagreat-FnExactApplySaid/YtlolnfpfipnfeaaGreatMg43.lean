import Derived.Test.YtlolnfpfipnfeaaGreatMg41
import Derived.Deep.RegionLaw
import Derived.Deep.RegionWith
import Derived.Deep.DrawnRows
import Derived.Test.YtlolnfpfipnfeaaGreatMg15
namespace Go.Proofs.YtlolnfpfipnfeaaGreat
open Go.ChangeShapes Go.WideShapes Go.ChangeAt Go.RowKit
attribute [local go_sem ↓] Go.wp_at_zero Go.wp_at_succ

set_option maxHeartbeats 4000000 in
set_option maxRecDepth 100000 in
theorem ap1old (mid born : Int) (fr bo : ByteArray) (R : List ByteArray) (rv : Value) (lor : Nat) (b : Nat) (nx : Int) (v : Value) (L : List It) (P : List (Value × Value)) (lo : Nat) (w : World) (hB : Blk b #[v, .int .i64 nx] w) (h : ItsP w lo v L P) (hlw : lo ≤ w.heap.size) (hR : Strs w lor rv R) (c : mid < nx) :
    Calls Tryz.prog 87 #[.agg #[.int .i64 mid, .int .i64 born, .string fr, rv, .string bo], .pointer (some ⟨b, 0, none⟩)] w fun e w' => e = .returned (.bool false) ∧ (∃ v' P', Blk b #[v', .int .i64 nx] w' ∧ ItsP w' lo v' L P') ∧ Kp b lo w w' := by
  obtain ⟨a3, c3, rfl⟩ := row_formA hR
  clear hR
  obtain ⟨a1, c1, rfl⟩ := h.form
  have H : Hid (ItsP w lo (.slice a1 L.length c1) L P) := h
  have HQ : Hid (Blk b #[.slice a1 L.length c1, .int .i64 nx] w) := hB
  have lb : b < w.heap.size := hB.lt
  clear h hB
  go_enter Tryz.func87, Tryz.ntmps87
  go_wp2_with fail
  generalize hW : World.alloc _ _ = W0
  have HA : Hid (Blk w.heap.size #[.int .i64 mid, .int .i64 born, .string fr, .slice a3 R.length c3, .string bo] W0) := by show Blk _ _ _; rw [← hW]; exact Blk.new w _ _
  have b0 : Below w.heap.size w W0 := by rw [← hW]; exact below1 _ _
  clear hW
  have x0 : W0.cell? ⟨w.heap.size, 0, none⟩ = some (.int .i64 mid) := HA.out.cell 0
  have y0 : W0.cell? ⟨b, 0, none⟩ = some (.slice a1 L.length c1) := (HQ.out.below b0).cell 0
  have y1 : W0.cell? ⟨b, 1, none⟩ = some (.int .i64 nx) := (HQ.out.below b0).cell 1
  go_quiet (fail)
  clear x0 y0 y1
  go_wp2
  go_ret
  exact ⟨rfl, ⟨_, P, HQ.out.below (drew_below b0 _), H.out.below (drew_below b0 _) (Nat.le_refl _)⟩, Kp.of ((drew_below b0 _).mono (by omega))⟩

set_option maxHeartbeats 4000000 in
set_option maxRecDepth 100000 in
theorem ap1full (mid born : Int) (fr bo : ByteArray) (R : List ByteArray) (rv : Value) (lor : Nat) (b : Nat) (nx : Int) (v : Value) (L : List It) (P : List (Value × Value)) (lo : Nat) (w : World) (hB : Blk b #[v, .int .i64 nx] w) (h : ItsP w lo v L P) (hlw : lo ≤ w.heap.size) (hR : Strs w lor rv R) (c : ¬ mid < nx) (cf : 30 ≤ L.length) :
    Calls Tryz.prog 87 #[.agg #[.int .i64 mid, .int .i64 born, .string fr, rv, .string bo], .pointer (some ⟨b, 0, none⟩)] w fun e w' => e = .returned (.bool false) ∧ (∃ v' P', Blk b #[v', .int .i64 nx] w' ∧ ItsP w' lo v' L P') ∧ Kp b lo w w' := by
  obtain ⟨a3, c3, rfl⟩ := row_formA hR
  clear hR
  obtain ⟨a1, c1, rfl⟩ := h.form
  have H : Hid (ItsP w lo (.slice a1 L.length c1) L P) := h
  have HQ : Hid (Blk b #[.slice a1 L.length c1, .int .i64 nx] w) := hB
  have lb : b < w.heap.size := hB.lt
  clear h hB
  have cd : decide (mid < nx) = false := decide_eq_false c
  have ci : (30 : Int) ≤ (L.length : Int) := by omega
  go_enter Tryz.func87, Tryz.ntmps87
  go_wp2_with fail
  generalize hW : World.alloc _ _ = W0
  have HA : Hid (Blk w.heap.size #[.int .i64 mid, .int .i64 born, .string fr, .slice a3 R.length c3, .string bo] W0) := by show Blk _ _ _; rw [← hW]; exact Blk.new w _ _
  have b0 : Below w.heap.size w W0 := by rw [← hW]; exact below1 _ _
  clear hW
  have x0 : W0.cell? ⟨w.heap.size, 0, none⟩ = some (.int .i64 mid) := HA.out.cell 0
  have y0 : W0.cell? ⟨b, 0, none⟩ = some (.slice a1 L.length c1) := (HQ.out.below b0).cell 0
  have y1 : W0.cell? ⟨b, 1, none⟩ = some (.int .i64 nx) := (HQ.out.below b0).cell 1
  go_quiet (fail)
  clear x0 y0 y1
  go_wp2
  go_ret
  exact ⟨rfl, ⟨_, P, HQ.out.below (drew_below b0 _), H.out.below (drew_below b0 _) (Nat.le_refl _)⟩, Kp.of ((drew_below b0 _).mono (by omega))⟩

end Go.Proofs.YtlolnfpfipnfeaaGreat
namespace Go.Proofs.YtlolnfpfipnfeaaGreat
open Go.ChangeShapes Go.WideShapes Go.ChangeAt Go.RowKit

set_option maxHeartbeats 2000000 in
set_option maxRecDepth 100000 in
theorem implMail (fr bo : ByteArray) (v : Value) (L : List ByteArray) (w : World) (h : ArgS w v L) (hf : fr.size ≤ 1048576) (hs : ∀ s ∈ L, s.size ≤ 1048576) (hbo : bo.size ≤ 1048576) (hl : LenIn w) :
    Calls Tryz.prog 92 #[.string fr, v, .string bo] w fun e w' => e = .returned (.bool (whomN fr L && bodyOk bo)) ∧ Below w.heap.size w w' := by
  have HL : Hid (LenIn w) := hl
  have HA : Hid (ArgS w v L) := h
  have HS : Hid (∀ s ∈ L, s.size ≤ 1048576) := hs
  have hLm := h.1
  unfold maxLen at hLm
  obtain ⟨a, c, rfl⟩ := h.form
  clear h hs hl
  by_cases hbad : L.length < 1 ∨ 20 < L.length
  · have G : Hid ((whomN fr L && bodyOk bo) = false) := by
      show _ = _
      rcases hbad with h | h
      · rw [whom_none (by omega)]; rfl
      · rw [whom_many (by omega)]; rfl
    have hbi : (L.length : Int) < 1 ∨ (20 : Int) < L.length := by omega
    have hbi1 : ¬ (L.length : Int) < 1 ∨ (L.length : Int) < 1 := by omega
    rcases Nat.eq_zero_or_pos fr.size with h0 | h0
    · have he := empty_of h0
      subst he
      rcases hbi1 with hb1 | hb1
      · have hb2 : (20 : Int) < L.length := by omega
        go_enter Tryz.func92, Tryz.ntmps92
        go_wp2
        go_ret
        exact ⟨ret_bool G.out.symm, Below.refl _ _⟩
      · go_enter Tryz.func92, Tryz.ntmps92
        go_wp2
        go_ret
        exact ⟨ret_bool G.out.symm, Below.refl _ _⟩
    · have hln := list_ne (x := fr) (by omega)
      go_enter Tryz.func92, Tryz.ntmps92
      go_wp2_with fail
      refine (implAddress fr _ HL.out hf).mono ?_
      rintro e w1 ⟨rfl, hb1⟩
      cases addrOk fr
      · go_wp2
        go_ret
        exact ⟨ret_bool G.out.symm, hb1⟩
      · rcases hbi1 with hb2 | hb2
        · have hb3 : (20 : Int) < L.length := by omega
          go_wp2
          go_ret
          exact ⟨ret_bool G.out.symm, hb1⟩
        · go_wp2
          go_ret
          exact ⟨ret_bool G.out.symm, hb1⟩
  · have hb1 : ¬ (L.length : Int) < 1 := by omega
    have hb2 : ¬ (20 : Int) < L.length := by omega
    obtain ⟨b, off, cap, hv, hbw, hcell⟩ := HA.out.some (by omega)
    injection hv with hv1 hv2 hv3
    subst hv1 hv3
    have HC : Hid (∀ i (hi : i < L.length), w.cell? ⟨b, off + i, none⟩ = some (.string L[i])) := hcell
    clear hcell hv2
    have HB1 : Hid (∀ k (hk : k < L.length), addrOk L[k] = false → (whomN fr L && bodyOk bo) = false) := fun k hk h => by rw [whom_bad hk h]; rfl
    have HB2 : Hid (fr.size = 0 ∨ addrOk fr = true → (∀ k (hk : k < L.length), addrOk L[k] = true) → (whomN fr L && bodyOk bo) = bodyOk bo) := fun h1 h2 => by rw [whom_good h1 (by omega) (by omega) h2]; rfl
    have HB3 : Hid (fr.size ≠ 0 → addrOk fr = false → (whomN fr L && bodyOk bo) = false) := fun h1 h2 => by rw [whom_from h1 h2]; rfl
    generalize (whomN fr L && bodyOk bo) = WH at *
    rcases Nat.eq_zero_or_pos fr.size with h0 | h0
    focus
      have HG := HB2.out (.inl h0)
      clear HB2 HB3
      have he := empty_of h0
      subst he
      have bz := Below.refl w.heap.size w
      go_enter Tryz.func92, Tryz.ntmps92
      go_wp2_with fail
    rotate_left
    focus
      have hln := list_ne (x := fr) (by omega)
      have hab : addrOk fr = false ∨ addrOk fr = true := by cases addrOk fr <;> simp
      rcases hab with ha | ha
      focus
        have G : Hid (WH = false) := HB3.out (by omega) ha
        go_enter Tryz.func92, Tryz.ntmps92
        go_wp2_with fail
        refine (implAddress fr _ HL.out hf).mono ?_
        rw [ha]
        rintro e w1 ⟨rfl, hbz⟩
        go_wp2
        go_ret
        exact ⟨ret_bool G.out.symm, hbz⟩
      focus
        have HG := HB2.out (.inr ha)
        clear HB2 HB3
        go_enter Tryz.func92, Tryz.ntmps92
        go_wp2_with fail
        refine (implAddress fr _ HL.out hf).mono ?_
        rw [ha]
        rintro e w1 ⟨rfl, bz⟩
        clear ha
        go_wp2_with fail
    all_goals
      go_loopw [28] (fun iv wr => ∃ k : Nat, k ≤ L.length ∧ iv = .int .i64 k ∧ Below w.heap.size w wr ∧ Hid (∀ j (hj : j < L.length), j < k → addrOk L[j] = true)) (fun iv _ => L.length - (intOf iv).toNat)
      case atStart => exact ⟨0, Nat.zero_le _, rfl, bz, fun j _ hj => absurd hj (Nat.not_lt_zero _)⟩
      case round =>
        obtain ⟨k, hk, rfl, hb, HK⟩ := hrel
        by_cases hlt : k < L.length
        · have ec := (hb.cell (p := ⟨b, off + k, none⟩) hbw).trans (HC.out k hlt)
          have hsk := HS.out L[k] (List.getElem_mem hlt)
          have G1 : Hid (addrOk L[k] = false → WH = false) := HB1.out k hlt
          have G2 : Hid (addrOk L[k] = true → ∀ j (hj : j < L.length), j < k + 1 → addrOk L[j] = true) := by
            intro h j hj hj2
            by_cases e : j = k
            · subst e; exact h
            · exact HK.out j hj (by omega)
          generalize L[k] = X at *
          go_wp2_with fail
          refine (implAddress X _ (len_below HL.out hb) hsk).mono ?_
          rintro e w5 ⟨rfl, hb5⟩
          have b5 : Below w.heap.size w w5 := hb.trans (hb5.mono hb.size)
          clear hb5
          cases hx : addrOk X
          · have G : Hid (WH = false) := G1.out hx
            clear hx
            go_wp2
            go_ret
            exact ⟨ret_bool G.out.symm, b5⟩
          · have G := G2.out hx
            have HG3 : Hid (∀ j (hj : j < L.length), j < k + 1 → addrOk L[j] = true) := G
            clear hx G G1 G2
            go_wp2
            go_roundw
            case rel => exact ⟨k + 1, by omega, by go_num, b5, HG3⟩
            case measure => simp [intOf]; omega
        · obtain rfl : k = L.length := by omega
          have G : Hid (WH = bodyOk bo) := HG fun j hj => HK.out j hj hj
          go_wp2_with fail
          refine (implBody bo _ (len_below HL.out hb) hbo).mono ?_
          rintro e w6 ⟨rfl, hb6⟩
          go_wp2
          go_ret
          exact ⟨ret_bool G.out.symm, hb.trans (hb6.mono hb.size)⟩
end Go.Proofs.YtlolnfpfipnfeaaGreat
