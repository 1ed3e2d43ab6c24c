import Derived.Test.YthblkfdgibonbaaItS
import Derived.Deep.RegionHeld3
namespace Go.Proofs.Ythblkfdgibonbaa
open Go.ChangeShapes Go.WideShapes Go.ChangeAt Go.RowKit
attribute [local go_sem ↓] Go.wp_at_zero Go.wp_at_succ

theorem fill_it {α : Type} (L : List α) (z : α) (k : Nat) (h : k < L.length) : (L.take k ++ List.replicate (L.length - k) z).set k L[k] = L.take (k + 1) ++ List.replicate (L.length - (k + 1)) z := by
  have hl : (L.take k).length = k := by simp; omega
  rw [List.set_append_right _ _ (by omega), hl, Nat.sub_self, List.take_succ_eq_append_getElem h]
  obtain ⟨n, hn⟩ : ∃ n, L.length - k = n + 1 := ⟨L.length - k - 1, by omega⟩
  rw [hn, List.replicate_succ, List.set_cons_zero, show L.length - (k + 1) = n by omega, List.append_assoc]
  rfl
/-- all blocks of the pairs lie below N -/
def PB (N : Nat) (P : List (Value × Value)) : Prop := ∀ p ∈ P, (∀ a, p.1.ownBlock = some a → a < N) ∧ ∀ a, p.2.ownBlock = some a → a < N
theorem PB.of {w : World} {lo : Nat} {v : Value} {L : List It} {P : List (Value × Value)} (h : ItsP w lo v L P) : PB w.heap.size P := by
  intro p hp
  obtain ⟨i, hi, rfl⟩ := List.getElem_of_mem hp
  exact ⟨fun a ha => (row_lt (h.str i (by rw [← h.len]; exact hi)) a ha).2, fun a ha => (row_lt (h.vds i (by rw [← h.len]; exact hi)) a ha).2⟩

set_option maxHeartbeats 4000000 in
set_option maxRecDepth 100000 in
theorem toIts (v : Value) (L : List It) (w : World) (h : ArgI w v L) (hL : L.length ≤ 1048576) (hsm : ∀ x ∈ L, SmallI x) :
    Calls Try.prog 37 #[v] w fun e w' => ∃ v', e = .returned v' ∧ Its w' w.heap.size v' L ∧ Below w.heap.size w w' := by
  obtain ⟨_, hform⟩ := h
  obtain ⟨k0, hk, hx0, hx1, hx2⟩ := info_parts infoIt
  have hmk : (Instr.makeSlice 40 (.int .i64 (L.length : Int)) (.int .i64 (L.length : Int))).run Try.prog w = .ok (.slice (some ⟨w.heap.size, 0, none⟩) L.length L.length) (w.alloc (.cells (madeCells zIt.cells (L.length * 9)) 70)) := by
    have e := run_make (P := Try.prog) w 40 70 k0 zIt Try.underlying40 hk hx0 .i64 .i64 (L.length : Int) (L.length : Int) (by omega) (by omega) (by rw [hx2]; omega) (by omega)
    simpa [hx1] using e
  have HM : Hid (Its (w.alloc (.cells (madeCells zIt.cells (L.length * 9)) 70)) w.heap.size (.slice (some ⟨w.heap.size, 0, none⟩) L.length L.length) (L.take 0 ++ List.replicate (L.length - 0) it0)) := ⟨_, its_made w L.length (by unfold maxLen; omega)⟩
  have HSm : Hid (∀ x ∈ L, SmallI x) := hsm
  clear hk hx0 hx1 hx2 hsm
  obtain ⟨Z, HZ⟩ : ∃ Z, Hid (Obj.cells (madeCells zIt.cells (L.length * 9)) 70 = Z) := ⟨_, rfl⟩
  rw [HZ.out] at hmk HM
  clear HZ
  by_cases h0 : L.length = 0
  · have hL0 := List.eq_nil_of_length_eq_zero h0
    subst hL0
    obtain ⟨a, c, rfl⟩ : ∃ a c, v = .slice a 0 c := by
      rcases hform with ⟨_, h⟩ | ⟨b, off, cap, rfl, _⟩
      · exact h
      · exact ⟨_, _, rfl⟩
    simp only [List.length_nil, Int.cast_ofNat_Int] at hmk
    go_enter Try.func37, Try.ntmps37
    go_wp2
    refine wp_loop_rounds 1 ?_; rw [rounds_succ]
    go_wp2
    go_ret
    exact ⟨_, rfl, HM.out, below1 _ _⟩
  · obtain ⟨b, off, cap, rfl, hlt, hc⟩ : ∃ b off cap, v = .slice (some ⟨b, off, none⟩) L.length cap ∧ b < w.heap.size ∧ ∀ i (hi : i < L.length), ∃ rv vv, ItC w b (off + i * 9) L[i] rv vv ∧ ArgIt w L[i] rv vv := by
      rcases hform with ⟨hL, _⟩ | h
      · rw [hL] at h0; exact absurd rfl h0
      · exact h
    have HC : Hid (∀ i (hi : i < L.length), ∃ rv vv, ItC w b (off + i * 9) L[i] rv vv ∧ ArgIt w L[i] rv vv) := hc
    clear hc
    go_enter Try.func37, Try.ntmps37
    go_wp2
    go_loopw [4] (fun i wr => ∃ k : Nat, k ≤ L.length ∧ i = .int .i64 k ∧ Hid (Its wr w.heap.size (.slice (some ⟨w.heap.size, 0, none⟩) L.length L.length) (L.take k ++ List.replicate (L.length - k) it0)) ∧ Below w.heap.size w wr) (fun i _ => L.length - (intOf i).toNat)
    case atStart => exact ⟨0, Nat.zero_le _, rfl, HM, below1 _ _⟩
    case round =>
      obtain ⟨k, hk, rfl, HS, hb⟩ := hrel
      by_cases hlt2 : k < L.length
      · obtain ⟨rv, vv, hC, hA⟩ := HC.out k hlt2
        obtain ⟨x0, x1, x2, x3, x4, x5, x6, x7, x8⟩ := hC.below hb hlt
        have HA : Hid (ArgIt wr L[k] rv vv) := hA.below hb
        have HSk : Hid (SmallI L[k]) := HSm.out _ (List.getElem_mem _)
        have HN : Hid ((L.take k ++ List.replicate (L.length - k) it0).set k L[k] = L.take (k + 1) ++ List.replicate (L.length - (k + 1)) it0) := fill_it L it0 k hlt2
        have hlen : (L.take k ++ List.replicate (L.length - k) it0).length = L.length := by simp; omega
        clear hC hA
        obtain ⟨a3, c3, rfl⟩ := args_formM HA.out.1
        obtain ⟨a5, c5, rfl⟩ := HA.out.2.1.form
        generalize L[k] = X at *
        generalize hM : L.take k ++ List.replicate (L.length - k) it0 = M at *
        have hz := hb.size
        go_wp2_with fail
        refine (toIt X _ _ _ HA.out HSk.out).mono ?_
        rintro e w1 ⟨⟨u1, u2, rfl, S1, V1⟩, hb1⟩
        obtain ⟨p1, q1, rfl⟩ := strs_formR S1
        obtain ⟨p2, q2, rfl⟩ := vds_form V1
        have b1 : Below w.heap.size w w1 := hb.trans (hb1.mono hb.size)
        obtain ⟨P, hP⟩ := HS.out
        have hPB := PB.of hP
        have hP1 := hP.below hb1 (Nat.le_refl _)
        have hrow := hP1.row.at.1
        have hkr : k < (irow M P).length := by rw [irow_len hP.len]; omega
        have cl : ∀ j, j < 9 → ∃ y, w1.cell? ⟨w.heap.size, k * 9 + j, none⟩ = some y := fun j hj => hP1.row.has k hkr j hj
        obtain ⟨y0, d0⟩ := cl 0 (by decide)
        obtain ⟨y1, d1⟩ := cl 1 (by decide)
        obtain ⟨y2, d2⟩ := cl 2 (by decide)
        obtain ⟨y3, d3⟩ := cl 3 (by decide)
        obtain ⟨y4, d4⟩ := cl 4 (by decide)
        obtain ⟨y5, d5⟩ := cl 5 (by decide)
        obtain ⟨y6, d6⟩ := cl 6 (by decide)
        obtain ⟨y7, d7⟩ := cl 7 (by decide)
        obtain ⟨y8, d8⟩ := cl 8 (by decide)
        rw [Nat.add_zero] at d0
        have ef : ∀ o, w1.frozen? ⟨w.heap.size, o, none⟩ = false := hrow.free
        have HF : Hid (Its _ w.heap.size (.slice (some ⟨w.heap.size, 0, none⟩) L.length L.length) (M.set k X)) := ⟨_, hP1.set (by omega) X (.slice p1 X.R.length q1, .slice p2 X.V.length q2) (strs_le S1 (by omega)) (row_le V1 (by omega))
          (fun a ha j hj _ => fun e => by have h1 := (hPB P[j] (List.getElem_mem _)).1 a e; have h2 := (row_lt S1 a ha).1; omega) (fun a ha j hj _ => fun e => by have h1 := (hPB P[j] (List.getElem_mem _)).2 a e; have h2 := (row_lt V1 a ha).1; omega)⟩
        clear x0 x1 x2 x3 x4 x5 x6 x7 x8 hb1 HS hP hP1 hrow hkr cl S1 V1 hPB
        go_wp2
        go_roundw
        case rel =>
          refine ⟨k + 1, by omega, by go_num, ?_, ?_⟩
          · rw [HN.out] at HF; exact HF
          · exact ((((((((b1.setCell (Nat.le_refl _) _).setCell (Nat.le_refl _) _).setCell (Nat.le_refl _) _).setCell (Nat.le_refl _) _).setCell (Nat.le_refl _) _).setCell (Nat.le_refl _) _).setCell (Nat.le_refl _) _).setCell (Nat.le_refl _) _).setCell (Nat.le_refl _) _
        case measure => simp [intOf]; omega
      · obtain rfl : k = L.length := by omega
        go_wp2
        go_ret
        refine ⟨_, rfl, ?_, hb⟩
        have e := HS.out
        rw [List.take_length, Nat.sub_self, List.replicate_zero, List.append_nil] at e
        exact e
end Go.Proofs.Ythblkfdgibonbaa
