import Derived.Test.YtngcjlghjidnjaaGreatDoorMg10
import Derived.Test.YtngcjlghjidnjaaGreatDoorMg16
import Derived.Test.YtngcjlghjidnjaaGreatDoorMg12
import Derived.Deep.AppendLies
import Derived.Laws.AppendOwn
import Derived.Lib.Walk
namespace Go.Proofs.YtngcjlghjidnjaaGreatDoor
open Go.ChangeShapes Go.WideShapes Go.ChangeAt Go.RowKit

/-- sender and recipients as they should be -/
def whomN (fr : ByteArray) (L : List ByteArray) : Bool := (decide (fr.size = 0) || addrOk fr) && (decide (1 ≤ L.length) && (decide (L.length ≤ 20) && L.all addrOk))
theorem whom_from {fr : ByteArray} {L : List ByteArray} (h : fr.size ≠ 0) (ha : addrOk fr = false) : whomN fr L = false := by unfold whomN; rw [decide_eq_false h, ha]; rfl
theorem whom_none {fr : ByteArray} {L : List ByteArray} (h : ¬ 1 ≤ L.length) : whomN fr L = false := by unfold whomN; rw [decide_eq_false h]; simp
theorem whom_many {fr : ByteArray} {L : List ByteArray} (h : ¬ L.length ≤ 20) : whomN fr L = false := by unfold whomN; rw [decide_eq_false h]; simp
theorem whom_bad {fr : ByteArray} {L : List ByteArray} {k : Nat} (hk : k < L.length) (h : addrOk L[k] = false) : whomN fr L = false := by
  unfold whomN
  rw [List.all_eq_false.2 ⟨L[k], List.getElem_mem hk, by rw [h]; decide⟩]; simp
theorem whom_good {fr : ByteArray} {L : List ByteArray} (h1 : fr.size = 0 ∨ addrOk fr = true) (h2 : 1 ≤ L.length) (h3 : L.length ≤ 20) (h4 : ∀ k (hk : k < L.length), addrOk L[k] = true) : whomN fr L = true := by
  unfold whomN
  rw [decide_eq_true h2, decide_eq_true h3, List.all_eq_true.2 (fun x hx => by obtain ⟨k, hk, rfl⟩ := List.getElem_of_mem hx; exact h4 k hk)]
  rcases h1 with h | h
  · rw [decide_eq_true h]; rfl
  · rw [h]; simp
/-- the cells of a slice that came in -/
theorem ArgS.some {w : World} {v : Value} {L : List ByteArray} (h : ArgS w v L) (h1 : 1 ≤ L.length) : ∃ b off cap, v = .slice (some ⟨b, off, none⟩) L.length cap ∧ b < w.heap.size ∧ ∀ i (hi : i < L.length), w.cell? ⟨b, off + i, none⟩ = some (.string L[i]) := by
  rcases h.2.2 with ⟨rfl, _⟩ | h
  · simp at h1
  · exact h
theorem ArgS.form {w : World} {v : Value} {L : List ByteArray} (h : ArgS w v L) : ∃ a c, v = .slice a L.length c := by
  rcases h.2.2 with ⟨rfl, a, c, rfl⟩ | ⟨b, off, cap, rfl, _⟩
  · exact ⟨_, _, rfl⟩
  · exact ⟨_, _, rfl⟩

set_option maxHeartbeats 2000000 in
set_option maxRecDepth 100000 in
theorem specWhom (fr : ByteArray) (v : Value) (L : List ByteArray) (w : World) (h : ArgS w v L) (hf : fr.size ≤ 1048576) (hs : ∀ s ∈ L, s.size ≤ 1048576) :
    Calls Tryz.prog 30 #[.string fr, v] w fun e w' => e = .returned (.bool (whomN fr L)) ∧ Below w.heap.size w w' := by
  have HA : Hid (ArgS w v L) := h
  have HS : Hid (∀ s ∈ L, s.size ≤ 1048576) := hs
  have hLm := h.1
  unfold maxLen at hLm
  obtain ⟨a, c, rfl⟩ := h.form
  clear h hs
  by_cases hbad : L.length < 1 ∨ 20 < L.length
  · have G : Hid (whomN fr L = false) := by
      rcases hbad with h | h
      · exact whom_none (by omega)
      · exact whom_many (by omega)
    have hbi : (L.length : Int) < 1 ∨ (20 : Int) < L.length := by omega
    have hbi1 : ¬ (L.length : Int) < 1 ∨ (L.length : Int) < 1 := by omega
    rcases Nat.eq_zero_or_pos fr.size with h0 | h0
    · have he := empty_of h0
      subst he
      rcases hbi1 with hb1 | hb1
      · have hb2 : (20 : Int) < L.length := by omega
        go_enter Tryz.func30, Tryz.ntmps30
        go_wp2
        go_ret
        exact ⟨ret_bool G.out.symm, Below.refl _ _⟩
      · go_enter Tryz.func30, Tryz.ntmps30
        go_wp2
        go_ret
        exact ⟨ret_bool G.out.symm, Below.refl _ _⟩
    · have hln := list_ne (x := fr) (by omega)
      go_enter Tryz.func30, Tryz.ntmps30
      go_wp2_with fail
      refine (specAddress fr _ hf).mono ?_
      rintro e w1 ⟨rfl, hb1⟩
      cases addrOk fr
      · go_wp2
        go_ret
        exact ⟨ret_bool G.out.symm, hb1⟩
      · rcases hbi1 with hb2 | hb2
        · have hb3 : (20 : Int) < L.length := by omega
          go_wp2
          go_ret
          exact ⟨ret_bool G.out.symm, hb1⟩
        · go_wp2
          go_ret
          exact ⟨ret_bool G.out.symm, hb1⟩
  · have hb1 : ¬ (L.length : Int) < 1 := by omega
    have hb2 : ¬ (20 : Int) < L.length := by omega
    obtain ⟨b, off, cap, hv, hbw, hcell⟩ := HA.out.some (by omega)
    injection hv with hv1 hv2 hv3
    subst hv1 hv3
    have HC : Hid (∀ i (hi : i < L.length), w.cell? ⟨b, off + i, none⟩ = some (.string L[i])) := hcell
    clear hcell hv2
    have HB1 : Hid (∀ k (hk : k < L.length), addrOk L[k] = false → whomN fr L = false) := fun k hk h => whom_bad hk h
    have HB2 : Hid (fr.size = 0 ∨ addrOk fr = true → (∀ k (hk : k < L.length), addrOk L[k] = true) → whomN fr L = true) := fun h1 h2 => whom_good h1 (by omega) (by omega) h2
    have HB3 : Hid (fr.size ≠ 0 → addrOk fr = false → whomN fr L = false) := whom_from
    generalize whomN fr L = WH at *
    rcases Nat.eq_zero_or_pos fr.size with h0 | h0
    focus
      have HG := HB2.out (.inl h0)
      clear HB2 HB3
      have he := empty_of h0
      subst he
      have bz := Below.refl w.heap.size w
      go_enter Tryz.func30, Tryz.ntmps30
      go_wp2_with fail
    rotate_left
    focus
      have hln := list_ne (x := fr) (by omega)
      have hab : addrOk fr = false ∨ addrOk fr = true := by cases addrOk fr <;> simp
      rcases hab with ha | ha
      focus
        have G : Hid (WH = false) := HB3.out (by omega) ha
        go_enter Tryz.func30, Tryz.ntmps30
        go_wp2_with fail
        refine (specAddress fr _ hf).mono ?_
        rw [ha]
        rintro e w1 ⟨rfl, hbz⟩
        go_wp2
        go_ret
        exact ⟨ret_bool G.out.symm, hbz⟩
      focus
        have HG := HB2.out (.inr ha)
        clear HB2 HB3
        go_enter Tryz.func30, Tryz.ntmps30
        go_wp2_with fail
        refine (specAddress fr _ hf).mono ?_
        rw [ha]
        rintro e w1 ⟨rfl, bz⟩
        clear ha
        go_wp2_with fail
    all_goals
      go_loopw [26] (fun iv wr => ∃ k : Nat, k ≤ L.length ∧ iv = .int .i64 k ∧ Below w.heap.size w wr ∧ Hid (∀ j (hj : j < L.length), j < k → addrOk L[j] = true)) (fun iv _ => L.length - (intOf iv).toNat)
      case atStart => exact ⟨0, Nat.zero_le _, rfl, bz, fun j _ hj => absurd hj (Nat.not_lt_zero _)⟩
      case round =>
        obtain ⟨k, hk, rfl, hb, HK⟩ := hrel
        by_cases hlt : k < L.length
        · have ec := (hb.cell (p := ⟨b, off + k, none⟩) hbw).trans (HC.out k hlt)
          have hsk := HS.out L[k] (List.getElem_mem hlt)
          have G1 : Hid (addrOk L[k] = false → WH = false) := HB1.out k hlt
          have G2 : Hid (addrOk L[k] = true → ∀ j (hj : j < L.length), j < k + 1 → addrOk L[j] = true) := by
            intro h j hj hj2
            by_cases e : j = k
            · subst e; exact h
            · exact HK.out j hj (by omega)
          generalize L[k] = X at *
          go_wp2_with fail
          refine (specAddress X _ hsk).mono ?_
          rintro e w5 ⟨rfl, hb5⟩
          have b5 : Below w.heap.size w w5 := hb.trans (hb5.mono hb.size)
          clear hb5
          cases hx : addrOk X
          · have G : Hid (WH = false) := G1.out hx
            clear hx
            go_wp2
            go_ret
            exact ⟨ret_bool G.out.symm, b5⟩
          · have G := G2.out hx
            have HG3 : Hid (∀ j (hj : j < L.length), j < k + 1 → addrOk L[j] = true) := G
            clear hx G G1 G2
            go_wp2
            go_roundw
            case rel => exact ⟨k + 1, by omega, by go_num, b5, HG3⟩
            case measure => simp [intOf]; omega
        · obtain rfl : k = L.length := by omega
          have G : Hid (WH = true) := HG fun j hj => HK.out j hj hj
          go_wp2
          go_ret
          exact ⟨ret_bool G.out.symm, hb⟩
end Go.Proofs.YtngcjlghjidnjaaGreatDoor
namespace Go.Proofs.YtngcjlghjidnjaaGreatDoor
open Go.ChangeShapes Go.WideShapes Go.ChangeAt Go.RowKit

set_option maxHeartbeats 2000000 in
set_option maxRecDepth 100000 in
theorem implMail (fr bo : ByteArray) (v : Value) (L : List ByteArray) (w : World) (h : ArgS w v L) (hf : fr.size ≤ 1048576) (hs : ∀ s ∈ L, s.size ≤ 1048576) (hbo : bo.size ≤ 1048576) (hl : LenIn w) :
    Calls Tryz.prog 33 #[.string fr, v, .string bo] w fun e w' => e = .returned (.bool (whomN fr L && bodyOk bo)) ∧ Below w.heap.size w w' := by
  have HL : Hid (LenIn w) := hl
  have HA : Hid (ArgS w v L) := h
  have HS : Hid (∀ s ∈ L, s.size ≤ 1048576) := hs
  have hLm := h.1
  unfold maxLen at hLm
  obtain ⟨a, c, rfl⟩ := h.form
  clear h hs hl
  by_cases hbad : L.length < 1 ∨ 20 < L.length
  · have G : Hid ((whomN fr L && bodyOk bo) = false) := by
      show _ = _
      rcases hbad with h | h
      · rw [whom_none (by omega)]; rfl
      · rw [whom_many (by omega)]; rfl
    have hbi : (L.length : Int) < 1 ∨ (20 : Int) < L.length := by omega
    have hbi1 : ¬ (L.length : Int) < 1 ∨ (L.length : Int) < 1 := by omega
    rcases Nat.eq_zero_or_pos fr.size with h0 | h0
    · have he := empty_of h0
      subst he
      rcases hbi1 with hb1 | hb1
      · have hb2 : (20 : Int) < L.length := by omega
        go_enter Tryz.func33, Tryz.ntmps33
        go_wp2
        go_ret
        exact ⟨ret_bool G.out.symm, Below.refl _ _⟩
      · go_enter Tryz.func33, Tryz.ntmps33
        go_wp2
        go_ret
        exact ⟨ret_bool G.out.symm, Below.refl _ _⟩
    · have hln := list_ne (x := fr) (by omega)
      go_enter Tryz.func33, Tryz.ntmps33
      go_wp2_with fail
      refine (implAddress fr _ HL.out hf).mono ?_
      rintro e w1 ⟨rfl, hb1⟩
      cases addrOk fr
      · go_wp2
        go_ret
        exact ⟨ret_bool G.out.symm, hb1⟩
      · rcases hbi1 with hb2 | hb2
        · have hb3 : (20 : Int) < L.length := by omega
          go_wp2
          go_ret
          exact ⟨ret_bool G.out.symm, hb1⟩
        · go_wp2
          go_ret
          exact ⟨ret_bool G.out.symm, hb1⟩
  · have hb1 : ¬ (L.length : Int) < 1 := by omega
    have hb2 : ¬ (20 : Int) < L.length := by omega
    obtain ⟨b, off, cap, hv, hbw, hcell⟩ := HA.out.some (by omega)
    injection hv with hv1 hv2 hv3
    subst hv1 hv3
    have HC : Hid (∀ i (hi : i < L.length), w.cell? ⟨b, off + i, none⟩ = some (.string L[i])) := hcell
    clear hcell hv2
    have HB1 : Hid (∀ k (hk : k < L.length), addrOk L[k] = false → (whomN fr L && bodyOk bo) = false) := fun k hk h => by rw [whom_bad hk h]; rfl
    have HB2 : Hid (fr.size = 0 ∨ addrOk fr = true → (∀ k (hk : k < L.length), addrOk L[k] = true) → (whomN fr L && bodyOk bo) = bodyOk bo) := fun h1 h2 => by rw [whom_good h1 (by omega) (by omega) h2]; rfl
    have HB3 : Hid (fr.size ≠ 0 → addrOk fr = false → (whomN fr L && bodyOk bo) = false) := fun h1 h2 => by rw [whom_from h1 h2]; rfl
    generalize (whomN fr L && bodyOk bo) = WH at *
    rcases Nat.eq_zero_or_pos fr.size with h0 | h0
    focus
      have HG := HB2.out (.inl h0)
      clear HB2 HB3
      have he := empty_of h0
      subst he
      have bz := Below.refl w.heap.size w
      go_enter Tryz.func33, Tryz.ntmps33
      go_wp2_with fail
    rotate_left
    focus
      have hln := list_ne (x := fr) (by omega)
      have hab : addrOk fr = false ∨ addrOk fr = true := by cases addrOk fr <;> simp
      rcases hab with ha | ha
      focus
        have G : Hid (WH = false) := HB3.out (by omega) ha
        go_enter Tryz.func33, Tryz.ntmps33
        go_wp2_with fail
        refine (implAddress fr _ HL.out hf).mono ?_
        rw [ha]
        rintro e w1 ⟨rfl, hbz⟩
        go_wp2
        go_ret
        exact ⟨ret_bool G.out.symm, hbz⟩
      focus
        have HG := HB2.out (.inr ha)
        clear HB2 HB3
        go_enter Tryz.func33, Tryz.ntmps33
        go_wp2_with fail
        refine (implAddress fr _ HL.out hf).mono ?_
        rw [ha]
        rintro e w1 ⟨rfl, bz⟩
        clear ha
        go_wp2_with fail
    all_goals
      go_loopw [28] (fun iv wr => ∃ k : Nat, k ≤ L.length ∧ iv = .int .i64 k ∧ Below w.heap.size w wr ∧ Hid (∀ j (hj : j < L.length), j < k → addrOk L[j] = true)) (fun iv _ => L.length - (intOf iv).toNat)
      case atStart => exact ⟨0, Nat.zero_le _, rfl, bz, fun j _ hj => absurd hj (Nat.not_lt_zero _)⟩
      case round =>
        obtain ⟨k, hk, rfl, hb, HK⟩ := hrel
        by_cases hlt : k < L.length
        · have ec := (hb.cell (p := ⟨b, off + k, none⟩) hbw).trans (HC.out k hlt)
          have hsk := HS.out L[k] (List.getElem_mem hlt)
          have G1 : Hid (addrOk L[k] = false → WH = false) := HB1.out k hlt
          have G2 : Hid (addrOk L[k] = true → ∀ j (hj : j < L.length), j < k + 1 → addrOk L[j] = true) := by
            intro h j hj hj2
            by_cases e : j = k
            · subst e; exact h
            · exact HK.out j hj (by omega)
          generalize L[k] = X at *
          go_wp2_with fail
          refine (implAddress X _ (len_below HL.out hb) hsk).mono ?_
          rintro e w5 ⟨rfl, hb5⟩
          have b5 : Below w.heap.size w w5 := hb.trans (hb5.mono hb.size)
          clear hb5
          cases hx : addrOk X
          · have G : Hid (WH = false) := G1.out hx
            clear hx
            go_wp2
            go_ret
            exact ⟨ret_bool G.out.symm, b5⟩
          · have G := G2.out hx
            have HG3 : Hid (∀ j (hj : j < L.length), j < k + 1 → addrOk L[j] = true) := G
            clear hx G G1 G2
            go_wp2
            go_roundw
            case rel => exact ⟨k + 1, by omega, by go_num, b5, HG3⟩
            case measure => simp [intOf]; omega
        · obtain rfl : k = L.length := by omega
          have G : Hid (WH = bodyOk bo) := HG fun j hj => HK.out j hj hj
          go_wp2_with fail
          refine (implBody bo _ (len_below HL.out hb) hbo).mono ?_
          rintro e w6 ⟨rfl, hb6⟩
          go_wp2
          go_ret
          exact ⟨ret_bool G.out.symm, hb.trans (hb6.mono hb.size)⟩
end Go.Proofs.YtngcjlghjidnjaaGreatDoor
namespace Go.Proofs.YtngcjlghjidnjaaGreatDoor
open Go.ChangeShapes Go.WideShapes Go.ChangeAt Go.RowKit

set_option maxHeartbeats 2000000 in
set_option maxRecDepth 100000 in
theorem cloneStrs (b off cap : Nat) (L : List ByteArray) (w : World) (hL : L.length ≤ 1048576) (hc : ∀ i (hi : i < L.length), w.cell? ⟨b, off + i, none⟩ = some (.string L[i])) :
    Calls Tryz.prog 34 #[.slice (some ⟨b, off, none⟩) L.length cap] w fun e w' => ∃ v', e = .returned v' ∧ Strs w' w.heap.size v' L ∧ Below w.heap.size w w' := by
  obtain ⟨i0, hi, hz0, hz1, hz2⟩ := info_parts infoStr
  have HC : Hid (∀ i (hi : i < L.length), w.cell? ⟨b, off + i, none⟩ = some (.string L[i])) := hc
  have q24 : ∀ (w : World) (a : Option Addr) (n c n' c' : Nat), (binOp .eql 23 (.slice a n c) (.slice none n' c')).run Tryz.prog w = .ok (.bool a.isNone) w := fun w a n c n' c' => Lib.run_eql_slice_nil w _ _ a n c n' c' Tryz.underlying23
  clear hc
  go_enter Tryz.func34, Tryz.ntmps34
  go_wp2_with (at_builtin; refine wpList_append_own _ rfl _ _ 23 rfl w.heap.size 9 i0 (.string { data := #[] }) 1 16 Tryz.underlying23 hi hz0 hz1 hz2 rfl (by decide) _ _ _ rfl (World.ownsRow_made w #[] 0 (Nat.le_refl _) (Nat.zero_le _) rfl) ⟨b, off, none⟩ L.length cap (L.map Value.string) rfl ?qc1 ?qc2 ?qc3 ?qc4 ?qc5 ?qc6 ?_)
  case qc1 => simp
  case qc2 =>
    intro j u hj
    have hjn : j < L.length := by
      have := (List.getElem?_eq_some_iff.1 hj).1
      simpa using this
    rw [Addr.add_lit]
    refine Lib.cell?_alloc_some _ ?_
    rw [HC.out j hjn]
    rw [List.getElem?_map, List.getElem?_eq_getElem hjn] at hj
    simpa using hj
  case qc3 => intro u hu; obtain ⟨x, _, rfl⟩ := List.mem_map.1 hu; rfl
  case qc4 => unfold maxLen; omega
  case qc5 => omega
  case qc6 => simp
  intro v' w1 hown hgrow hnil
  go_wp2
  go_ret
  refine ⟨v', rfl, ?_, ?_⟩
  · show World.ownsRow _ _ _ _ _ _ _
    simpa using hown
  · exact ((Below.refl _ w).alloc (Nat.le_refl _) _).grown hgrow (by simp) (by intro k hk; simp [Value.ownBlock] at hk; omega)
end Go.Proofs.YtngcjlghjidnjaaGreatDoor
