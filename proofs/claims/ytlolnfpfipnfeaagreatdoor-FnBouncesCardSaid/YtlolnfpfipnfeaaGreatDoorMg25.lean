import Derived.Test.YtlolnfpfipnfeaaGreatDoorMg24
import Derived.Test.YtlolnfpfipnfeaaGreatDoorMg15
namespace Go.Proofs.YtlolnfpfipnfeaaGreatDoor
open Go.ChangeShapes Go.WideShapes Go.ChangeAt Go.RowKit
open Pcs

theorem dom_low {s : ByteArray} (h : domOk s = true) {c : UInt8} (hc : c.toNat < 32) : c ∉ s.data.toList := by
  intro hm
  unfold domOk at h
  rw [Bool.and_eq_true, pieces_all] at h
  have h2 : (pcs [46] 0 [] s.data.toList).all (fun x => x.all fun b => letN b.toNat || b.toNat == 45) = true := by
    refine List.all_eq_true.2 fun x hx => ?_
    have h3 := List.all_eq_true.1 h.2 x hx
    unfold labOk at h3
    simp only [Bool.and_eq_true] at h3
    have h4 := h3.2
    rw [okAll_list] at h4
    exact h4
  rw [pcs_cover] at h2
  simp only [List.all_nil, Bool.true_and] at h2
  have h5 := List.all_eq_true.1 h2 c hm
  simp only [letN, smlN, digN, Bool.or_eq_true, Bool.and_eq_true, decide_eq_true_eq, beq_iff_eq] at h5
  have h6 : c = 46 → c.toNat = 46 := fun e => by rw [e]; rfl
  rcases h5 with h5 | h5
  · have := h6 h5; omega
  · omega
theorem loc_low {s : ByteArray} (h : locOk s = true) {c : UInt8} (hc : c.toNat < 32) : c ∉ s.data.toList := by
  intro hm
  unfold locOk at h
  rw [Bool.and_eq_true, pieces_all] at h
  have h2 : (pcs [46] 0 [] s.data.toList).all (fun x => x.all fun b => decide (32 ≤ b.toNat)) = true := by
    refine List.all_eq_true.2 fun x hx => ?_
    have h3 := List.all_eq_true.1 h.2 x hx
    unfold atomOk at h3
    rw [Bool.and_eq_true, okAll_list] at h3
    refine List.all_eq_true.2 fun b hb => ?_
    have h4 := List.all_eq_true.1 h3.2 b hb
    rw [has_marks (UInt8.toNat_lt b)] at h4
    rw [decide_eq_true_eq]
    apply Classical.byContradiction
    intro hn
    rw [Bool.or_eq_true] at h4
    rcases h4 with h4 | h4
    · simp only [letN, smlN, digN, Bool.or_eq_true, Bool.and_eq_true, decide_eq_true_eq] at h4
      omega
    · have hl : b.toNat < 32 := by omega
      have h5 : ∀ n : Fin 32, hasN ⟨#[43, 95, 45]⟩ n.val = false := by decide
      rw [h5 ⟨b.toNat, hl⟩] at h4
      cases h4
  rw [pcs_cover] at h2
  simp only [List.all_nil, Bool.true_and] at h2
  have h5 := List.all_eq_true.1 h2 c hm
  simp only [Bool.or_eq_true, decide_eq_true_eq] at h5
  have h6 : c = 46 → c.toNat = 46 := fun e => by rw [e]; rfl
  rcases h5 with h5 | h5
  · have := h6 h5; omega
  · omega
theorem addr_low {s : ByteArray} (h : addrOk s = true) {c : UInt8} (hc : c.toNat < 32) : c ∉ s.data.toList := by
  intro hm
  unfold addrOk at h
  simp only [Bool.and_eq_true] at h
  obtain ⟨_, h2, h3, h4⟩ := h
  have hL := loc_low h3 hc
  have hD := dom_low h4 hc
  rw [data_mk] at hL hD
  unfold Lib.cut at h2 hL hD
  by_cases hi : 0 ≤ Lib.index s.data.toList [64]
  · rw [if_pos hi] at hL hD
    have e := Lib.index_ge s.data.toList [64]
    obtain ⟨i, he⟩ : ∃ i : Nat, Lib.index s.data.toList [64] = (i : Int) := ⟨_, (Int.toNat_of_nonneg hi).symm⟩
    rw [he, Int.toNat_natCast] at hL hD
    have ht := take_occ he
    have hs : s.data.toList = (s.data.toList.take i ++ [64]) ++ s.data.toList.drop (i + 1) := by
      have := (List.take_append_drop (i + ([64] : List UInt8).length) s.data.toList).symm
      rw [ht] at this
      exact this
    rw [hs, List.mem_append, List.mem_append] at hm
    rcases hm with (hm | hm) | hm
    · exact hL hm
    · rw [List.mem_singleton] at hm; subst hm; revert hc; decide
    · exact hD hm
  · rw [if_neg hi] at h2
    cases h2
theorem dig3_low {s : ByteArray} (h : dig3 s = true) {c : UInt8} (hc : c.toNat < 32) : c ∉ s.data.toList := by
  intro hm
  unfold dig3 at h
  simp only [Bool.and_eq_true] at h
  have h2 := h.2.2
  rw [okAll_list] at h2
  have := List.all_eq_true.1 h2 c hm
  simp only [digN, Bool.and_eq_true, decide_eq_true_eq] at this
  omega
theorem stat_low {s : ByteArray} (h : statOk s = true) {c : UInt8} (hc : c.toNat < 32) : c ∉ s.data.toList := by
  intro hm
  unfold statOk at h
  have h2 : (pcs [46] 0 [] s.data.toList).all (fun x => x.all fun b => decide (32 ≤ b.toNat)) = true := by
    refine (pieces_all ⟨#[46]⟩ s (fun y : ByteArray => y.data.toList.all fun b => decide (32 ≤ b.toNat))).symm.trans ?_
    have key : ∀ y : ByteArray, dig3 y = true → (y.data.toList.all fun b => decide (32 ≤ b.toNat)) = true := fun y hy => List.all_eq_true.2 fun b hb => by
      rw [decide_eq_true_eq]
      apply Classical.byContradiction
      intro hn
      exact dig3_low hy (c := b) (by omega) hb
    unfold statP at h
    split at h
    · rename_i a b c2 he
      simp only [Bool.and_eq_true, Bool.or_eq_true, decide_eq_true_eq] at h
      rw [he]
      simp only [List.all_cons, List.all_nil, Bool.and_true]
      rw [key b h.2.1, key c2 h.2.2]
      rcases h.1 with rfl | rfl <;> decide
    · cases h
  rw [pcs_cover] at h2
  simp only [List.all_nil, Bool.true_and] at h2
  have h5 := List.all_eq_true.1 h2 c hm
  simp only [Bool.or_eq_true, decide_eq_true_eq] at h5
  have h6 : c = 46 → c.toNat = 46 := fun e => by rw [e]; rfl
  rcases h5 with h5 | h5
  · have := h6 h5; omega
  · omega
theorem clean_low {s : ByteArray} (h : cleanB s = s) {c : UInt8} (hc : c.toNat < 32) : c ∉ s.data.toList := by
  intro hm
  rw [← h] at hm
  unfold cleanB at hm
  simp only [List.mem_map] at hm
  obtain ⟨b, _, rfl⟩ := hm
  unfold clB at hc
  split at hc
  · revert hc; decide
  · omega
theorem head_body {s : ByteArray} (h : headB s = s) : bodyOk s = true := by
  cases hb : bodyOk s
  · rw [head_no hb] at h
    rw [← h] at hb
    revert hb; decide
  · rfl
theorem body_lines {s : ByteArray} (h : bodyOk s = true) : s.data.toList = flatL (linesB s) ∧ (∀ m ∈ linesB s, (13 : UInt8) ∉ m) ∧ (∀ m ∈ linesB s, (10 : UInt8) ∉ m) ∧ (linesB s).length ≤ 3000 := by
  have h1 := h
  unfold bodyOk linesOk at h1
  simp only [Bool.and_eq_true, decide_eq_true_eq] at h1
  have hj := body_join h1.2.2
  refine ⟨hj.symm, ?_, ?_, ?_⟩
  · intro m hm
    obtain ⟨x, hx, rfl⟩ := List.mem_map.1 hm
    exact line_no13 (List.all_eq_true.1 h1.2.1 x hx)
  · intro m hm
    obtain ⟨x, hx, rfl⟩ := List.mem_map.1 hm
    have hl := List.all_eq_true.1 h1.2.1 x hx
    intro e
    unfold lineOk at hl
    simp only [Bool.and_eq_true, Bool.not_eq_true'] at hl
    have h13 := hl.2.2.1
    unfold hasN at h13
    rw [okAll_list, any_nat _ (by decide)] at h13
    have h2 : x.data.toList.contains (UInt8.ofNat 10) = true := List.contains_iff_mem.2 e
    rw [h2] at h13; cases h13
  · have := pieces_len ⟨#[13, 10]⟩ s
    unfold linesB
    rw [List.length_map, List.length_dropLast]
    omega
structure BnR (b : Bn) : Prop where
  he : domOk b.he = true
  tw : addrOk b.tw = true
  n1 : 1 ≤ b.fs.length
  n20 : b.fs.length ≤ 20
  fs : ∀ f ∈ b.fs, flOk f = true
  hd : headB b.hd = b.hd
theorem bnR {b : Bn} (h : bnOk b = true) : BnR b := by
  unfold bnOk at h
  simp only [Bool.and_eq_true, decide_eq_true_eq] at h
  exact ⟨h.1, h.2.1, h.2.2.1, h.2.2.2.1, List.all_eq_true.1 h.2.2.2.2.1, h.2.2.2.2.2⟩
theorem flOk_of {f : Fl} (h : flOk f = true) : addrOk f.rc = true ∧ statOk f.st = true ∧ codeOk f.cd = true ∧ cleanB f.tx = f.tx := by
  unfold flOk at h
  simp only [Bool.and_eq_true, decide_eq_true_eq] at h
  exact h
theorem bnN {b : Bn} (h : bnOk b = true) : BnN b (linesB b.hd) := by
  have r := bnR h
  have hl := body_lines (head_body r.hd)
  refine ⟨addr_low r.tw (by decide), dom_low r.he (by decide), fun f hf => ?_, hl.1, hl.2.1⟩
  obtain ⟨g1, g2, g3, g4⟩ := flOk_of (r.fs f hf)
  exact ⟨addr_low g1 (by decide), stat_low g2 (by decide), g3, clean_low g4 (by decide)⟩
theorem bn_no10 {b : Bn} (h : bnOk b = true) {cut : List UInt8} (hc : (10 : UInt8) ∉ cut) : ∀ m ∈ bnLines b cut, (10 : UInt8) ∉ m := by
  have r := bnR h
  intro m hm
  unfold bnLines at hm
  rw [List.mem_append, List.mem_append] at hm
  rcases hm with hm | hm | hm
  · unfold hdLines at hm
    simp only [List.mem_cons, List.not_mem_nil, or_false] at hm
    rcases hm with rfl | rfl | rfl | rfl | rfl | rfl | rfl | rfl | rfl
    · decide
    · exact no_app (by decide) (no_app (addr_low r.tw (by decide)) (by decide))
    · decide
    · exact no_app (by decide) (no_app hc (by decide))
    · simp
    · exact no_cons (by decide) (no_cons (by decide) hc)
    · decide
    · simp
    · exact no_app (by decide) (dom_low r.he (by decide))
  · rw [List.mem_flatten] at hm
    obtain ⟨L, hL, hm⟩ := hm
    obtain ⟨f, hf, rfl⟩ := List.mem_map.1 hL
    obtain ⟨g1, g2, g3, g4⟩ := flOk_of (r.fs f hf)
    unfold flLines at hm
    simp only [List.mem_cons, List.not_mem_nil, or_false] at hm
    rcases hm with rfl | rfl | rfl | rfl | rfl
    · simp
    · exact no_app (by decide) (addr_low g1 (by decide))
    · decide
    · exact no_app (by decide) (stat_low g2 (by decide))
    · exact no_app (by decide) (no_app (code_no g3 (by decide)) (no_cons (by decide) (clean_low g4 (by decide))))
  · unfold enLines at hm
    simp only [List.mem_cons, List.not_mem_nil, or_false] at hm
    rcases hm with rfl | rfl | rfl | rfl
    · simp
    · exact no_cons (by decide) (no_cons (by decide) hc)
    · decide
    · simp
theorem dec_low {k : Nat} : ∀ (n : Nat), k ≤ n → ∀ c ∈ Lib.decDigits k, 48 ≤ c.toNat := by
  intro n
  induction n generalizing k with
  | zero =>
    intro hk c hc
    rw [Lib.decDigits_one (by omega), List.mem_singleton] at hc
    rw [hc, dgt_nat (by omega)]; omega
  | succ n ih =>
    intro hk c hc
    by_cases h : k < 10
    · rw [Lib.decDigits_one h, List.mem_singleton] at hc
      rw [hc, dgt_nat h]; omega
    · rw [Lib.decDigits, dif_neg h, List.mem_append, List.mem_singleton] at hc
      rcases hc with hc | hc
      · exact ih (by omega) c hc
      · rw [hc, dgt_nat (Nat.mod_lt _ (by decide))]; omega
theorem cut_low (k : Nat) {c : UInt8} (hc : c.toNat < 48) : c ∉ cutL k := by
  intro hm
  unfold cutL at hm
  rw [List.mem_cons] at hm
  rcases hm with rfl | hm
  · revert hc; decide
  · have := dec_low k (Nat.le_refl _) c hm; omega
theorem makeI_ok {b : Bn} (h : bnOk b = true) : (makeI b).data.toList = bnText b (cutL (bndI (linesB b.hd))) := by unfold makeI; rw [if_pos h]; rfl
theorem makeS_ok {b : Bn} (h : bnOk b = true) : (makeS b).data.toList = bnText b (cutL (bndS (linesB b.hd))) := by unfold makeS; rw [if_pos h]; rfl
theorem make_no {b : Bn} (h : bnOk b = false) : makeI b = ⟨#[]⟩ ∧ makeS b = ⟨#[]⟩ := by unfold makeI makeS; rw [h]; exact ⟨rfl, rfl⟩
/-- where few lines look like a late boundary both sides write the same -/
theorem makeSame {b : Bn} (hc : cw (10 :: b.hd.data.toList) < 6) : makeS b = makeI b := by
  cases h : bnOk b
  · rw [(make_no h).1, (make_no h).2]
  · have hl := body_lines (head_body (bnR h).hd)
    rw [hl.1] at hc
    obtain ⟨d, _, h9, hf⟩ := free_late hl.2.2.1 hc
    have := (bnd_eq (by have := hl.2.2.2; omega) h9 hf).1
    unfold makeS makeI
    rw [if_pos h, if_pos h, this]
theorem readBack {b : Bn} (h : bnOk b = true) : readI (makeI b).data.toList = b := by
  rw [makeI_ok h]
  exact readI_at (bnN h) (cut_low _ (by decide))
theorem make_cw {b : Bn} (h : bnOk b = true) (cut : List UInt8) : cw (10 :: b.hd.data.toList) ≤ cw (bnText b cut) := by
  have := bnText_hd (bnN h) cut
  rwa [(bnN h).hd]
/-- both readers believe the same texts -/
theorem okSame {t : ByteArray} (hc : cw t.data.toList < 6) :
    (t.size ≠ 0 ∧ makeI (readI t.data.toList) = t) ↔ (10 ≤ (pieces ⟨#[13, 10]⟩ t).length ∧ makeS (readS t.data.toList) = t) := by
  have hp : (pieces ⟨#[13, 10]⟩ t).length = (pcs [13, 10] 0 [] t.data.toList).length := by unfold pieces; rw [List.length_map]
  rw [hp]
  constructor
  · rintro ⟨h0, h1⟩
    generalize readI t.data.toList = b at h1
    have hb : bnOk b = true := by
      cases h : bnOk b
      · rw [(make_no h).1] at h1
        rw [← h1] at h0
        exact absurd rfl h0
      · rfl
    have e1 := makeI_ok hb
    have hs : makeS b = makeI b := makeSame (by rw [← h1, e1] at hc; exact Nat.lt_of_le_of_lt (make_cw hb _) hc)
    have hr := readS_at (bnN hb) (cut_low (bndI (linesB b.hd)) (c := 13) (by decide))
    rw [← e1, h1] at hr
    exact ⟨hr.2, by rw [hr.1, hs, h1]⟩
  · rintro ⟨h0, h1⟩
    generalize readS t.data.toList = b at h1
    have hb : bnOk b = true := by
      cases h : bnOk b
      · rw [(make_no h).2] at h1
        rw [← h1] at h0
        revert h0; decide
      · rfl
    have e1 := makeS_ok hb
    have hs : makeS b = makeI b := makeSame (by rw [← h1, e1] at hc; exact Nat.lt_of_le_of_lt (make_cw hb _) hc)
    have hr := readI_at (bnN hb) (cut_low (bndS (linesB b.hd)) (c := 13) (by decide))
    rw [← e1, h1] at hr
    refine ⟨?_, by rw [hr, ← hs, h1]⟩
    intro hz
    rw [empty_ofK t hz] at h0
    revert h0; decide
end Go.Proofs.YtlolnfpfipnfeaaGreatDoor
namespace Go.Proofs.YtlolnfpfipnfeaaGreatDoor
open Go.ChangeShapes Go.WideShapes Go.ChangeAt Go.RowKit
open Pcs

set_option maxHeartbeats 1000000 in
set_option maxRecDepth 100000 in
theorem implDigits (s : ByteArray) (w : World) (hs : s.size ≤ 1048576) :
    Calls Tryz.prog 75 #[.string s] w fun e w' => e = .returned (.bool (okAll digN s)) ∧ w' = w := by
  go_enter Tryz.func75, Tryz.ntmps75
  go_wp2
  go_loop [6] (fun i => ∃ k : Nat, k ≤ s.size ∧ i = .int .i64 k ∧ Hid (∀ j, j < k → digN (byteOf s j) = true)) (fun i => s.size - (intOf i).toNat)
  case atStart => exact ⟨0, Nat.zero_le _, rfl, fun j h => absurd h (Nat.not_lt_zero _)⟩
  case round =>
    obtain ⟨k, hk, rfl, HA⟩ := hrel
    by_cases hlt : k < s.size
    · have HB : Hid (byteOf s k = s[k].toNat) := byteOf_eq s k hlt
      cases hd : digN s[k].toNat with
      | true =>
        have G : Hid (∀ j, j < k + 1 → digN (byteOf s j) = true) := by
          intro j hj
          rcases Nat.lt_succ_iff_lt_or_eq.1 hj with hj | rfl
          · exact HA.out j hj
          · rw [HB.out]; exact hd
        go_wp2_with (go_at_call 89; refine (implDigit _ _).mono ?_; rintro e w' ⟨rfl, rfl⟩; rw [hd])
        go_round
        case rel => exact ⟨k + 1, by omega, by go_num, G.out⟩
        case measure => simp [intOf]; omega
      | false =>
        have G : Hid (okAll digN s = false) := okAll_false hlt (by rw [HB.out]; exact hd)
        go_wp2_with (go_at_call 89; refine (implDigit _ _).mono ?_; rintro e w' ⟨rfl, rfl⟩; rw [hd])
        go_ret
        exact ⟨ret_bool G.out.symm, rfl⟩
    · go_wp2
      go_ret
      exact ⟨ret_bool (okAll_true fun j hj => HA.out j (by omega)).symm, rfl⟩

/-- what the first k digits stand for -/
def numN (s : ByteArray) : Nat → Nat
  | 0 => 0
  | k + 1 => numN s k * 10 + (byteOf s k - 48)
theorem numN_lt {s : ByteArray} : ∀ {k : Nat}, k ≤ s.size → okAll digN s = true → numN s k < 10 ^ k
  | 0, _, _ => by simp [numN]
  | k + 1, hk, h => by
    have h1 := numN_lt (s := s) (k := k) (by omega) h
    have h2 := List.all_eq_true.1 h k (List.mem_range.2 (by omega))
    simp only [digN, Bool.and_eq_true, decide_eq_true_eq] at h2
    rw [numN, Nat.pow_succ]; omega

def num3V (d : ByteArray) : Nat := if dig3 d then numN d d.size else 0
set_option maxHeartbeats 2000000 in
set_option maxRecDepth 100000 in
theorem specNum3 (d : ByteArray) (w : World) (hs : d.size ≤ 1048576) :
    Calls Tryz.prog 25 #[.string d, .int .i64 3] w fun e w' => e = .returned (.tuple #[.int .i64 (num3V d : Int), .bool (dig3 d)]) ∧ w' = w := by
  by_cases hb : d.size < 1 ∨ 3 < d.size
  · have G : Hid (num3V d = 0 ∧ dig3 d = false) := by
      have h : dig3 d = false := by
        unfold dig3
        rcases hb with h | h
        · rw [decide_eq_false (by omega)]; rfl
        · rw [decide_eq_false (show ¬ d.size ≤ 3 by omega)]; simp
      exact ⟨by unfold num3V; rw [h]; rfl, h⟩
    rcases hb with h | h
    · have hi : (d.size : Int) < 1 := by omega
      go_enter Tryz.func25, Tryz.ntmps25
      go_wp2
      refine bodyPost_ret (v := .tuple #[.int .i64 0, .bool false]) (by simp [results, Tryz.results25, go_sem]) rfl ⟨by rw [G.out.1, G.out.2]; rfl, rfl⟩
    · have hi : ¬ (d.size : Int) < 1 := by omega
      have hi2 : (3 : Int) < d.size := by omega
      go_enter Tryz.func25, Tryz.ntmps25
      go_wp2
      refine bodyPost_ret (v := .tuple #[.int .i64 0, .bool false]) (by simp [results, Tryz.results25, go_sem]) rfl ⟨by rw [G.out.1, G.out.2]; rfl, rfl⟩
  · have hi : ¬ (d.size : Int) < 1 := by omega
    have hi2 : ¬ (3 : Int) < d.size := by omega
    have HNO : Hid (dig3 d = okAll digN d) := by show _ = _; unfold dig3; rw [decide_eq_true (show 1 ≤ d.size by omega), decide_eq_true (show d.size ≤ 3 by omega)]; rfl
    have HNV : Hid (okAll digN d = true → num3V d = numN d d.size) := fun h => by unfold num3V; rw [HNO.out, h]; rfl
    have HNW : Hid (okAll digN d = false → num3V d = 0) := fun h => by unfold num3V; rw [HNO.out, h]; rfl
    go_enter Tryz.func25, Tryz.ntmps25
    go_wp2
    go_loop [6, 7] (fun nv iv => ∃ k : Nat, k ≤ d.size ∧ iv = .int .i64 k ∧ nv = .int .i64 (numN d k) ∧ Hid (numN d k < 10 ^ k) ∧ Hid (∀ j, j < k → digN (byteOf d j) = true)) (fun _ iv => d.size - (intOf iv).toNat)
    case atStart => exact ⟨0, Nat.zero_le _, rfl, rfl, by show _ < _; simp [numN], fun j h => absurd h (Nat.not_lt_zero _)⟩
    case round =>
      obtain ⟨k, hk, rfl, rfl, HN, HD⟩ := hrel
      by_cases hlt : k < d.size
      · have hn2 : numN d k < 1000000000 := Nat.lt_of_lt_of_le HN.out (Nat.le_trans (Nat.pow_le_pow_right (by decide) (show k ≤ 9 by omega)) (by decide))
        have HB : Hid (byteOf d k = d[k].toNat) := byteOf_eq d k hlt
        have hb256 : d[k].toNat < 256 := UInt8.toNat_lt _
        by_cases hdg : 48 ≤ d[k].toNat ∧ d[k].toNat ≤ 57
        · have HD2 : Hid (∀ j, j < k + 1 → digN (byteOf d j) = true) := by
            intro j hj
            by_cases e : j = k
            · subst e; rw [HB.out]; unfold digN; rw [decide_eq_true hdg.1, decide_eq_true hdg.2]; rfl
            · exact HD.out j (by omega)
          have HST2 : Hid (numN d (k + 1) = numN d k * 10 + (d[k].toNat - 48)) := by show _ = _; rw [numN, HB.out]
          have HN2 : Hid (numN d (k + 1) < 10 ^ (k + 1)) := by
            show _ < _
            rw [HST2.out, Nat.pow_succ]
            have := HN.out
            omega
          have hw : ((d[k].toNat : Int) - 48) % 256 = (d[k].toNat : Int) - 48 := by omega
          clear HB HD HN
          have h48 : ¬ (d[k].toNat : Int) < 48 := by omega
          have h57 : ¬ (57 : Int) < (d[k].toNat : Int) := by omega
          go_wp2
          go_round
          case rel => exact ⟨k + 1, by omega, by go_num, int_eq (by rw [HST2.out]; omega), HN2, HD2⟩
          case measure => simp [intOf]; omega
        · have G : Hid (okAll digN d = false) := okAll_false hlt (by
            rw [HB.out]; unfold digN
            by_cases h : 48 ≤ d[k].toNat
            · rw [decide_eq_false (show ¬ d[k].toNat ≤ 57 by omega)]; simp
            · rw [decide_eq_false h]; rfl)
          clear HB
          have hq : (d[k].toNat : Int) < 48 ∨ (¬ (d[k].toNat : Int) < 48 ∧ (57 : Int) < (d[k].toNat : Int)) := by omega
          rcases hq with h | ⟨h, h'⟩
          · go_wp2
            refine bodyPost_ret (v := .tuple #[.int .i64 0, .bool false]) (by simp [results, Tryz.results25, go_sem]) rfl ⟨by rw [HNW.out G.out, HNO.out, G.out]; rfl, rfl⟩
          · go_wp2
            refine bodyPost_ret (v := .tuple #[.int .i64 0, .bool false]) (by simp [results, Tryz.results25, go_sem]) rfl ⟨by rw [HNW.out G.out, HNO.out, G.out]; rfl, rfl⟩
      · obtain rfl : k = d.size := by omega
        have G : Hid (okAll digN d = true) := okAll_true fun j hj => HD.out j hj
        go_wp2
        refine bodyPost_ret (v := .tuple #[.int .i64 (numN d d.size : Int), .bool true]) (by simp [results, Tryz.results25, go_sem]) rfl ⟨by rw [HNV.out G.out, HNO.out, G.out], rfl⟩

theorem numN_fold (s : ByteArray) : ∀ k, k ≤ s.size → numN s k = (s.data.toList.take k).foldl (fun n b => n * 10 + (b.toNat - 48)) 0
  | 0, _ => rfl
  | k + 1, hk => by
    have hl : k < s.data.toList.length := by rw [← Lib.size_eq]; omega
    rw [numN, numN_fold s k (by omega), List.take_succ_eq_append_getElem hl, List.foldl_append, byteOf_eq s k (by omega)]
    rfl
theorem num3V_eq (s : ByteArray) : (num3V s : Int) = num3 s.data.toList := by
  unfold num3V num3 dig3
  rw [okAll_list, ← Lib.size_eq]
  by_cases h1 : 1 ≤ s.size
  · by_cases h2 : s.size ≤ 3
    · cases h3 : s.data.toList.all fun b => digN b.toNat
      · simp
      · have := numN_fold s s.size (Nat.le_refl _)
        rw [List.take_of_length_le (by rw [← Lib.size_eq]; exact Nat.le_refl _)] at this
        simp [h1, h2, this]
    · simp [h2]
  · simp [h1]
end Go.Proofs.YtlolnfpfipnfeaaGreatDoor
