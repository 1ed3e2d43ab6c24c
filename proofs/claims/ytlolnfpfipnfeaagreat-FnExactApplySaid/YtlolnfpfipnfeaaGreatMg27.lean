import Derived.Test.YtlolnfpfipnfeaaGreatMg26
import Derived.Deep.RegionHeld3
namespace Go.Proofs.YtlolnfpfipnfeaaGreat
open Go.ChangeShapes Go.WideShapes Go.ChangeAt Go.RowKit
attribute [local go_sem ↓] Go.wp_at_zero Go.wp_at_succ

theorem list9 {α : Type} {l : List α} (h : l.length = 9) : ∃ a b c d e f g i j, l = [a, b, c, d, e, f, g, i, j] := by
  match l, h with
  | [a, b, c, d, e, f, g, i, j], _ => exact ⟨a, b, c, d, e, f, g, i, j, rfl⟩
theorem Rw.set9 {T : Nat} {w : World} {lo g m cap i : Nat} {C : List (List Value)} (h : Rw T 9 w lo (.slice (some ⟨g, 0, none⟩) m cap) C) (hi : i < C.length) (a0 a1 a2 a3 a4 a5 a6 a7 a8 : Value) :
    Rw T 9 (((((((((w.setCell ⟨g, i * 9, none⟩ a0).setCell ⟨g, i * 9 + 1, none⟩ a1).setCell ⟨g, i * 9 + 2, none⟩ a2).setCell ⟨g, i * 9 + 3, none⟩ a3).setCell ⟨g, i * 9 + 4, none⟩ a4).setCell ⟨g, i * 9 + 5, none⟩ a5).setCell ⟨g, i * 9 + 6, none⟩ a6).setCell ⟨g, i * 9 + 7, none⟩ a7).setCell ⟨g, i * 9 + 8, none⟩ a8) lo (.slice (some ⟨g, 0, none⟩) m cap) (C.set i [a0, a1, a2, a3, a4, a5, a6, a7, a8]) := by
  obtain ⟨b0, b1, b2, b3, b4, b5, b6, b7, b8, hc⟩ := list9 (h.2 C[i] (List.getElem_mem _))
  have h1 := h.set hi (j := 0) (by decide) a0
  have h2 := h1.set (i := i) (j := 1) (by simpa using hi) (by decide) a1
  have h3 := h2.set (i := i) (j := 2) (by simpa using hi) (by decide) a2
  have h4 := h3.set (i := i) (j := 3) (by simpa using hi) (by decide) a3
  have h5 := h4.set (i := i) (j := 4) (by simpa using hi) (by decide) a4
  have h6 := h5.set (i := i) (j := 5) (by simpa using hi) (by decide) a5
  have h7 := h6.set (i := i) (j := 6) (by simpa using hi) (by decide) a6
  have h8 := h7.set (i := i) (j := 7) (by simpa using hi) (by decide) a7
  have h9 := h8.set (i := i) (j := 8) (by simpa using hi) (by decide) a8
  simpa [List.getElem_set_self, List.set_set, hc] using h9
def nil2 : Value × Value := (.slice none 0 0, .slice none 0 0)
def zIt : Value := .agg #[.int .i64 0, .int .i64 0, .string ⟨#[]⟩, .slice none 0 0, .string ⟨#[]⟩, .slice none 0 0, .int .i64 0, .int .i64 0, .bool false]
theorem irow_rep : ∀ n, irow (List.replicate n it0) (List.replicate n nil2) = List.replicate n (ic it0 nil2)
  | 0 => rfl
  | n + 1 => by
    rw [List.replicate_succ, List.replicate_succ, List.replicate_succ, ← irow_rep n]; rfl
theorem dis_none {vs : List Value} (h : ∀ v ∈ vs, v.ownBlock = none) : Dis vs := fun i hi j hj _ a ha => by rw [h _ (List.getElem_mem _)] at ha; cases ha
theorem its_made (w : World) (n : Nat) (hn : n ≤ maxLen) : ItsP (w.alloc (.cells (madeCells zIt.cells (n * 9)) 57)) w.heap.size (.slice (some ⟨w.heap.size, 0, none⟩) n n) (List.replicate n it0) (List.replicate n nil2) := by
  refine ⟨by simp, ?_, fun i hi => ?_, fun i hi => ?_, dis_none fun v hv => ?_, dis_none fun v hv => ?_⟩
  · rw [irow_rep]; exact Rw.made 57 9 w n zIt.cells rfl (by decide) hn
  · simp only [List.getElem_replicate]; exact ⟨by rfl, .inl ⟨rfl, rfl⟩⟩
  · simp only [List.getElem_replicate]; exact ⟨by rfl, .inl ⟨rfl, rfl⟩⟩
  · simp only [List.map_replicate] at hv; rw [List.eq_of_mem_replicate hv]; rfl
  · simp only [List.map_replicate] at hv; rw [List.eq_of_mem_replicate hv]; rfl
theorem dis_set {vs : List Value} (h : Dis vs) (i : Nat) (u : Value) (hu : ∀ a, u.ownBlock = some a → ∀ j (hj : j < vs.length), j ≠ i → vs[j].ownBlock ≠ some a) : Dis (vs.set i u) := by
  intro j hj k hk hne a ha
  rw [List.length_set] at hj hk
  by_cases e1 : i = j
  · subst e1
    rw [List.getElem_set_self] at ha
    rw [List.getElem_set_ne (by omega)]
    exact hu a ha k hk (by omega)
  · rw [List.getElem_set_ne (by omega)] at ha
    by_cases e2 : i = k
    · subst e2
      rw [List.getElem_set_self]
      intro hb
      exact hu a hb j hj (by omega) ha
    · rw [List.getElem_set_ne (by omega)]
      exact h j hj k hk hne a ha
theorem TsI : (57 : Nat) ≠ 9 := by decide
theorem TvI : (57 : Nat) ≠ 41 := by decide
/-- the strings and verdicts of items stay where a cell of their row is set -/
theorem ItsP.cellN {w : World} {lo g m cap o : Nat} {L : List It} {P : List (Value × Value)} (h : ItsP w lo (.slice (some ⟨g, 0, none⟩) m cap) L P) (u : Value) :
    (∀ i (hi : i < L.length), Strs (w.setCell ⟨g, o, none⟩ u) lo (P[i]'(by have := h.len; omega)).1 L[i].R) ∧ (∀ i (hi : i < L.length), Vds (w.setCell ⟨g, o, none⟩ u) lo (P[i]'(by have := h.len; omega)).2 L[i].V) := by
  refine ⟨fun i hi => row_set_neR (h.str i hi) (fun a ha => ?_) u, fun i hi => row_set_neR (h.vds i hi) (fun a ha => ?_) u⟩
  · exact fun e => row_apart h.row.1 (h.str i hi) TsI g a rfl ha e.symm
  · exact fun e => row_apart h.row.1 (h.vds i hi) TvI g a rfl ha e.symm
theorem strs_set_ne {w : World} {lo : Nat} {v : Value} {L : List ByteArray} (h : Strs w lo v L) {a : Addr} (hne : ∀ g, v.ownBlock = some g → g ≠ a.block) (u : Value) : Strs (w.setCell a u) lo v L := row_set_neR h hne u
theorem vds_set_ne {w : World} {lo : Nat} {v : Value} {L : List Vd} (h : Vds w lo v L) {a : Addr} (hne : ∀ g, v.ownBlock = some g → g ≠ a.block) (u : Value) : Vds (w.setCell a u) lo v L := row_set_neR h hne u
theorem ItsP.set {w : World} {lo g m cap i : Nat} {L : List It} {P : List (Value × Value)} (h : ItsP w lo (.slice (some ⟨g, 0, none⟩) m cap) L P) (hi : i < L.length) (x : It) (p : Value × Value) (hs : Strs w lo p.1 x.R) (hv : Vds w lo p.2 x.V)
    (f1 : ∀ a, p.1.ownBlock = some a → ∀ j (hj : j < P.length), j ≠ i → P[j].1.ownBlock ≠ some a) (f2 : ∀ a, p.2.ownBlock = some a → ∀ j (hj : j < P.length), j ≠ i → P[j].2.ownBlock ≠ some a) :
    ItsP (((((((((w.setCell ⟨g, i * 9, none⟩ (.int .i64 x.id)).setCell ⟨g, i * 9 + 1, none⟩ (.int .i64 x.born)).setCell ⟨g, i * 9 + 2, none⟩ (.string x.fr)).setCell ⟨g, i * 9 + 3, none⟩ p.1).setCell ⟨g, i * 9 + 4, none⟩ (.string x.bo)).setCell ⟨g, i * 9 + 5, none⟩ p.2).setCell ⟨g, i * 9 + 6, none⟩ (.int .i64 x.tr)).setCell ⟨g, i * 9 + 7, none⟩ (.int .i64 x.du)).setCell ⟨g, i * 9 + 8, none⟩ (.bool x.bn)) lo (.slice (some ⟨g, 0, none⟩) m cap) (L.set i x) (P.set i p) := by
  have hl := h.len
  have n1 : ∀ {u : Value} {k : Nat} {R : List ByteArray}, k = k → Strs w lo u R → ∀ a, u.ownBlock = some a → a ≠ g := fun _ hs a ha e => row_apart h.row.1 hs TsI g a rfl ha e.symm
  have n2 : ∀ {u : Value} {R : List Vd}, Vds w lo u R → ∀ a, u.ownBlock = some a → a ≠ g := fun hs a ha e => row_apart h.row.1 hs TvI g a rfl ha e.symm
  have s9 : ∀ {u : Value} {R : List ByteArray}, Strs w lo u R → Strs (((((((((w.setCell ⟨g, i * 9, none⟩ (.int .i64 x.id)).setCell ⟨g, i * 9 + 1, none⟩ (.int .i64 x.born)).setCell ⟨g, i * 9 + 2, none⟩ (.string x.fr)).setCell ⟨g, i * 9 + 3, none⟩ p.1).setCell ⟨g, i * 9 + 4, none⟩ (.string x.bo)).setCell ⟨g, i * 9 + 5, none⟩ p.2).setCell ⟨g, i * 9 + 6, none⟩ (.int .i64 x.tr)).setCell ⟨g, i * 9 + 7, none⟩ (.int .i64 x.du)).setCell ⟨g, i * 9 + 8, none⟩ (.bool x.bn)) lo u R := by
    intro u R hs
    have hn := n1 (k := 0) rfl hs
    repeat (refine strs_set_ne ?_ hn _)
    exact hs
  have v9 : ∀ {u : Value} {R : List Vd}, Vds w lo u R → Vds (((((((((w.setCell ⟨g, i * 9, none⟩ (.int .i64 x.id)).setCell ⟨g, i * 9 + 1, none⟩ (.int .i64 x.born)).setCell ⟨g, i * 9 + 2, none⟩ (.string x.fr)).setCell ⟨g, i * 9 + 3, none⟩ p.1).setCell ⟨g, i * 9 + 4, none⟩ (.string x.bo)).setCell ⟨g, i * 9 + 5, none⟩ p.2).setCell ⟨g, i * 9 + 6, none⟩ (.int .i64 x.tr)).setCell ⟨g, i * 9 + 7, none⟩ (.int .i64 x.du)).setCell ⟨g, i * 9 + 8, none⟩ (.bool x.bn)) lo u R := by
    intro u R hs
    have hn := n2 hs
    repeat (refine vds_set_ne ?_ hn _)
    exact hs
  refine ⟨by simpa using hl, ?_, fun j hj => ?_, fun j hj => ?_, ?_, ?_⟩
  · rw [← irow_set L P i x p hl]
    exact h.row.set9 (by rw [irow_len hl]; exact hi) _ _ _ _ _ _ _ _ _
  · rw [List.length_set] at hj
    by_cases e : i = j
    · subst e; simp only [List.getElem_set_self]; exact s9 hs
    · simp only [List.getElem_set_ne e]; exact s9 (h.str j hj)
  · rw [List.length_set] at hj
    by_cases e : i = j
    · subst e; simp only [List.getElem_set_self]; exact v9 hv
    · simp only [List.getElem_set_ne e]; exact v9 (h.vds j hj)
  · rw [List.map_set]
    refine dis_set h.d1 i p.1 fun a ha j hj hne => ?_
    simp only [List.getElem_map]
    exact f1 a ha j (by simpa using hj) hne
  · rw [List.map_set]
    refine dis_set h.d2 i p.2 fun a ha j hj hne => ?_
    simp only [List.getElem_map]
    exact f2 a ha j (by simpa using hj) hne
end Go.Proofs.YtlolnfpfipnfeaaGreat
namespace Go.Proofs.YtlolnfpfipnfeaaGreat
open Go.ChangeShapes Go.WideShapes Go.ChangeAt Go.RowKit
attribute [local go_sem ↓] Go.wp_at_zero Go.wp_at_succ

theorem fill_it {α : Type} (L : List α) (z : α) (k : Nat) (h : k < L.length) : (L.take k ++ List.replicate (L.length - k) z).set k L[k] = L.take (k + 1) ++ List.replicate (L.length - (k + 1)) z := by
  have hl : (L.take k).length = k := by simp; omega
  rw [List.set_append_right _ _ (by omega), hl, Nat.sub_self, List.take_succ_eq_append_getElem h]
  obtain ⟨n, hn⟩ : ∃ n, L.length - k = n + 1 := ⟨L.length - k - 1, by omega⟩
  rw [hn, List.replicate_succ, List.set_cons_zero, show L.length - (k + 1) = n by omega, List.append_assoc]
  rfl
/-- all blocks of the pairs lie below N -/
def PB (N : Nat) (P : List (Value × Value)) : Prop := ∀ p ∈ P, (∀ a, p.1.ownBlock = some a → a < N) ∧ ∀ a, p.2.ownBlock = some a → a < N
theorem PB.of {w : World} {lo : Nat} {v : Value} {L : List It} {P : List (Value × Value)} (h : ItsP w lo v L P) : PB w.heap.size P := by
  intro p hp
  obtain ⟨i, hi, rfl⟩ := List.getElem_of_mem hp
  exact ⟨fun a ha => (row_lt (h.str i (by rw [← h.len]; exact hi)) a ha).2, fun a ha => (row_lt (h.vds i (by rw [← h.len]; exact hi)) a ha).2⟩

set_option maxHeartbeats 4000000 in
set_option maxRecDepth 100000 in
theorem toIts (v : Value) (L : List It) (w : World) (h : ArgI w v L) (hL : L.length ≤ 1048576) (hsm : ∀ x ∈ L, SmallI x) :
    Calls Tryz.prog 24 #[v] w fun e w' => ∃ v', e = .returned v' ∧ Its w' w.heap.size v' L ∧ Below w.heap.size w w' := by
  obtain ⟨_, hform⟩ := h
  obtain ⟨k0, hk, hx0, hx1, hx2⟩ := info_parts infoIt
  have hmk : (Instr.makeSlice 34 (.int .i64 (L.length : Int)) (.int .i64 (L.length : Int))).run Tryz.prog w = .ok (.slice (some ⟨w.heap.size, 0, none⟩) L.length L.length) (w.alloc (.cells (madeCells zIt.cells (L.length * 9)) 57)) := by
    have e := run_make (P := Tryz.prog) w 34 57 k0 zIt Tryz.underlying34 hk hx0 .i64 .i64 (L.length : Int) (L.length : Int) (by omega) (by omega) (by rw [hx2]; omega) (by omega)
    simpa [hx1] using e
  have HM : Hid (Its (w.alloc (.cells (madeCells zIt.cells (L.length * 9)) 57)) w.heap.size (.slice (some ⟨w.heap.size, 0, none⟩) L.length L.length) (L.take 0 ++ List.replicate (L.length - 0) it0)) := ⟨_, its_made w L.length (by unfold maxLen; omega)⟩
  have HSm : Hid (∀ x ∈ L, SmallI x) := hsm
  clear hk hx0 hx1 hx2 hsm
  obtain ⟨Z, HZ⟩ : ∃ Z, Hid (Obj.cells (madeCells zIt.cells (L.length * 9)) 57 = Z) := ⟨_, rfl⟩
  rw [HZ.out] at hmk HM
  clear HZ
  by_cases h0 : L.length = 0
  · have hL0 := List.eq_nil_of_length_eq_zero h0
    subst hL0
    obtain ⟨a, c, rfl⟩ : ∃ a c, v = .slice a 0 c := by
      rcases hform with ⟨_, h⟩ | ⟨b, off, cap, rfl, _⟩
      · exact h
      · exact ⟨_, _, rfl⟩
    simp only [List.length_nil, Int.cast_ofNat_Int] at hmk
    go_enter Tryz.func24, Tryz.ntmps24
    go_wp2
    refine wp_loop_rounds 1 ?_; rw [rounds_succ]
    go_wp2
    go_ret
    exact ⟨_, rfl, HM.out, below1 _ _⟩
  · obtain ⟨b, off, cap, rfl, hlt, hc⟩ : ∃ b off cap, v = .slice (some ⟨b, off, none⟩) L.length cap ∧ b < w.heap.size ∧ ∀ i (hi : i < L.length), ∃ rv vv, ItC w b (off + i * 9) L[i] rv vv ∧ ArgIt w L[i] rv vv := by
      rcases hform with ⟨hL, _⟩ | h
      · rw [hL] at h0; exact absurd rfl h0
      · exact h
    have HC : Hid (∀ i (hi : i < L.length), ∃ rv vv, ItC w b (off + i * 9) L[i] rv vv ∧ ArgIt w L[i] rv vv) := hc
    clear hc
    go_enter Tryz.func24, Tryz.ntmps24
    go_wp2
    go_loopw [4] (fun i wr => ∃ k : Nat, k ≤ L.length ∧ i = .int .i64 k ∧ Hid (Its wr w.heap.size (.slice (some ⟨w.heap.size, 0, none⟩) L.length L.length) (L.take k ++ List.replicate (L.length - k) it0)) ∧ Below w.heap.size w wr) (fun i _ => L.length - (intOf i).toNat)
    case atStart => exact ⟨0, Nat.zero_le _, rfl, HM, below1 _ _⟩
    case round =>
      obtain ⟨k, hk, rfl, HS, hb⟩ := hrel
      by_cases hlt2 : k < L.length
      · obtain ⟨rv, vv, hC, hA⟩ := HC.out k hlt2
        obtain ⟨x0, x1, x2, x3, x4, x5, x6, x7, x8⟩ := hC.below hb hlt
        have HA : Hid (ArgIt wr L[k] rv vv) := hA.below hb
        have HSk : Hid (SmallI L[k]) := HSm.out _ (List.getElem_mem _)
        have HN : Hid ((L.take k ++ List.replicate (L.length - k) it0).set k L[k] = L.take (k + 1) ++ List.replicate (L.length - (k + 1)) it0) := fill_it L it0 k hlt2
        have hlen : (L.take k ++ List.replicate (L.length - k) it0).length = L.length := by simp; omega
        clear hC hA
        obtain ⟨a3, c3, rfl⟩ := args_formM HA.out.1
        obtain ⟨a5, c5, rfl⟩ := HA.out.2.1.form
        generalize L[k] = X at *
        generalize hM : L.take k ++ List.replicate (L.length - k) it0 = M at *
        have hz := hb.size
        go_wp2_with fail
        refine (toIt X _ _ _ HA.out HSk.out).mono ?_
        rintro e w1 ⟨⟨u1, u2, rfl, S1, V1⟩, hb1⟩
        obtain ⟨p1, q1, rfl⟩ := strs_formR S1
        obtain ⟨p2, q2, rfl⟩ := vds_form V1
        have b1 : Below w.heap.size w w1 := hb.trans (hb1.mono hb.size)
        obtain ⟨P, hP⟩ := HS.out
        have hPB := PB.of hP
        have hP1 := hP.below hb1 (Nat.le_refl _)
        have hrow := hP1.row.at.1
        have hkr : k < (irow M P).length := by rw [irow_len hP.len]; omega
        have cl : ∀ j, j < 9 → ∃ y, w1.cell? ⟨w.heap.size, k * 9 + j, none⟩ = some y := fun j hj => hP1.row.has k hkr j hj
        obtain ⟨y0, d0⟩ := cl 0 (by decide)
        obtain ⟨y1, d1⟩ := cl 1 (by decide)
        obtain ⟨y2, d2⟩ := cl 2 (by decide)
        obtain ⟨y3, d3⟩ := cl 3 (by decide)
        obtain ⟨y4, d4⟩ := cl 4 (by decide)
        obtain ⟨y5, d5⟩ := cl 5 (by decide)
        obtain ⟨y6, d6⟩ := cl 6 (by decide)
        obtain ⟨y7, d7⟩ := cl 7 (by decide)
        obtain ⟨y8, d8⟩ := cl 8 (by decide)
        rw [Nat.add_zero] at d0
        have ef : ∀ o, w1.frozen? ⟨w.heap.size, o, none⟩ = false := hrow.free
        have HF : Hid (Its _ w.heap.size (.slice (some ⟨w.heap.size, 0, none⟩) L.length L.length) (M.set k X)) := ⟨_, hP1.set (by omega) X (.slice p1 X.R.length q1, .slice p2 X.V.length q2) (strs_le S1 (by omega)) (row_le V1 (by omega))
          (fun a ha j hj _ => fun e => by have h1 := (hPB P[j] (List.getElem_mem _)).1 a e; have h2 := (row_lt S1 a ha).1; omega) (fun a ha j hj _ => fun e => by have h1 := (hPB P[j] (List.getElem_mem _)).2 a e; have h2 := (row_lt V1 a ha).1; omega)⟩
        clear x0 x1 x2 x3 x4 x5 x6 x7 x8 hb1 HS hP hP1 hrow hkr cl S1 V1 hPB
        go_wp2
        go_roundw
        case rel =>
          refine ⟨k + 1, by omega, by go_num, ?_, ?_⟩
          · rw [HN.out] at HF; exact HF
          · exact ((((((((b1.setCell (Nat.le_refl _) _).setCell (Nat.le_refl _) _).setCell (Nat.le_refl _) _).setCell (Nat.le_refl _) _).setCell (Nat.le_refl _) _).setCell (Nat.le_refl _) _).setCell (Nat.le_refl _) _).setCell (Nat.le_refl _) _).setCell (Nat.le_refl _) _
        case measure => simp [intOf]; omega
      · obtain rfl : k = L.length := by omega
        go_wp2
        go_ret
        refine ⟨_, rfl, ?_, hb⟩
        have e := HS.out
        rw [List.take_length, Nat.sub_self, List.replicate_zero, List.append_nil] at e
        exact e
end Go.Proofs.YtlolnfpfipnfeaaGreat
