import Derived.Test.YtlolnfpfipnfeaaGreatMg36
import Derived.Test.YtlolnfpfipnfeaaGreatMg43
namespace Go.Proofs.YtlolnfpfipnfeaaGreat
open Go.ChangeShapes Go.WideShapes Go.ChangeAt Go.RowKit
attribute [local go_sem ↓] Go.wp_at_zero Go.wp_at_succ

set_option maxHeartbeats 2000000 in
set_option maxRecDepth 100000 in
theorem equalNil (a : Option Addr) (n c : Nat) (w : World) (hn : n ≤ 1048576) :
    Calls Tryz.prog 70 #[.slice none 0 0, .slice a n c] w fun e w' => e = .returned (.bool (decide (n = 0))) ∧ Below w.heap.size w w' := by
  by_cases h : n = 0
  · subst h
    go_enter Tryz.func70, Tryz.ntmps70
    go_wp2
    refine wp_loop_rounds 1 ?_; rw [rounds_succ]
    go_wp2
    go_ret
    exact ⟨rfl, Below.refl _ _⟩
  · rw [decide_eq_false h]
    have h2 : ((0 : Int) == (n : Int)) = false := by rw [beq_eq_false_iff_ne]; omega
    go_enter Tryz.func70, Tryz.ntmps70
    go_wp2
    go_ret
    exact ⟨rfl, Below.refl _ _⟩

set_option maxHeartbeats 4000000 in
set_option maxRecDepth 100000 in
theorem equalSelf (v : Value) (L : List ByteArray) (w : World) (h : ArgS w v L) (hL : L.length ≤ 1048576) :
    Calls Tryz.prog 70 #[v, v] w fun e w' => e = .returned (.bool true) ∧ Below w.heap.size w w' := by
  by_cases h0 : L.length = 0
  · obtain ⟨a, c, rfl⟩ := args_formM h
    rw [h0]
    clear h
    go_enter Tryz.func70, Tryz.ntmps70
    go_wp2
    refine wp_loop_rounds 1 ?_; rw [rounds_succ]
    go_wp2
    go_ret
    exact ⟨rfl, Below.refl _ _⟩
  · obtain ⟨b, off, cap, rfl, hbw, hcell⟩ := h.some (by omega)
    have HC : Hid (∀ i (hi : i < L.length), w.cell? ⟨b, off + i, none⟩ = some (.string L[i])) := hcell
    clear hcell h
    go_enter Tryz.func70, Tryz.ntmps70
    go_wp2
    go_loopw [13] (fun iv wr => ∃ k : Nat, k ≤ L.length ∧ iv = .int .i64 k ∧ Hid (Below w.heap.size w wr)) (fun iv _ => L.length - (intOf iv).toNat)
    case atStart => exact ⟨0, Nat.zero_le _, rfl, Below.refl _ _⟩
    case round =>
      obtain ⟨k, hk, rfl, HB⟩ := hrel
      by_cases hlt : k < L.length
      · have y0 : wr.cell? ⟨b, off + k, none⟩ = some (.string L[k]) := (HB.out.cell (p := ⟨b, off + k, none⟩) hbw).trans (HC.out k hlt)
        generalize L[k] = X at *
        have k1 : (0 : Int) ≤ (k : Int) := by omega
        have k2 : (k : Int) < (L.length : Int) := by omega
        go_wp2_with fail
        go_region_held3 (fun w' => w'.cell? ⟨b, off + k, none⟩ = some (.string X)) (go_keep) (fail)
        all_goals
          go_wp2
          go_roundw
          case rel => exact ⟨k + 1, by omega, by go_num, HB.out.drew⟩
          case measure => simp [intOf]; omega
      · go_wp2
        go_ret
        exact ⟨rfl, HB.out⟩

set_option maxHeartbeats 2000000 in
set_option maxRecDepth 100000 in
theorem sameMsgSelf (mid born : Int) (fr bo : ByteArray) (R : List ByteArray) (v : Value) (w : World) (h : ArgS w v R) (hR : R.length ≤ 1048576) :
    Calls Tryz.prog 64 #[(.agg #[.int .i64 mid, .int .i64 born, .string fr, v, .string bo]), (.agg #[.int .i64 mid, .int .i64 born, .string fr, v, .string bo])] w fun e w' => e = .returned (.bool true) ∧ Below w.heap.size w w' := by
  have H : Hid (ArgS w v R) := h
  obtain ⟨a3, c3, rfl⟩ := args_formM h
  clear h
  go_enter Tryz.func64, Tryz.ntmps64
  go_wp2_with fail
  generalize hW : World.alloc _ _ = W0
  have b0 : Below w.heap.size w W0 := by rw [← hW]; exact below2 _ _ _
  clear hW
  refine (equalSelf _ R _ (H.out.below b0) hR).mono ?_
  rintro e w1 ⟨rfl, hb1⟩
  go_wp2
  go_ret
  exact ⟨rfl, b0.trans (hb1.mono b0.size)⟩

set_option maxHeartbeats 2000000 in
set_option maxRecDepth 100000 in
theorem sameMsgZero (mid born : Int) (fr bo : ByteArray) (a3 : Option Addr) (n c3 : Nat) (w : World) (hn : n ≤ 1048576) :
    Calls Tryz.prog 64 #[(.agg #[.int .i64 0, .int .i64 0, .string ⟨#[]⟩, .slice none 0 0, .string ⟨#[]⟩]), (.agg #[.int .i64 mid, .int .i64 born, .string fr, .slice a3 n c3, .string bo])] w fun e w' => e = .returned (.bool (noMsgB mid born fr n bo)) ∧ Below w.heap.size w w' := by
  have HE : Hid (noMsgB mid born fr n bo = (decide (mid = 0) && (decide (born = 0) && (decide (fr.size = 0) && (decide (bo.size = 0) && decide (n = 0)))))) := by
    show _ = _
    unfold noMsgB
    rw [Bool.and_comm (decide (n = 0))]
  by_cases c1 : ¬ mid = 0
  · rw [HE.out, decide_eq_false c1, Bool.false_and]
    have c1b : ¬ ((0 : Int) = mid) := by omega
    clear HE c1
    go_enter Tryz.func64, Tryz.ntmps64
    go_wp2
    go_ret
    exact ⟨rfl, below2 _ _ _⟩
  replace c1 := Decidable.not_not.1 c1
  subst c1
  rw [HE.out, decide_eq_true rfl, Bool.true_and]
  clear HE
  by_cases c2 : ¬ born = 0
  · rw [decide_eq_false c2, Bool.false_and]
    have c2b : ¬ ((0 : Int) = born) := by omega
    clear c2
    go_enter Tryz.func64, Tryz.ntmps64
    go_wp2
    go_ret
    exact ⟨rfl, below2 _ _ _⟩
  replace c2 := Decidable.not_not.1 c2
  subst c2
  rw [decide_eq_true rfl, Bool.true_and]
  rcases Nat.eq_zero_or_pos fr.size with h0 | h0
  · have he := empty_of h0
    subst he
    rw [decide_eq_true h0, Bool.true_and]
    clear h0
    rcases Nat.eq_zero_or_pos bo.size with h5 | h5
    · have he := empty_of h5
      subst he
      rw [decide_eq_true h5, Bool.true_and]
      clear h5
      go_enter Tryz.func64, Tryz.ntmps64
      go_wp2_with fail
      generalize hW : World.alloc _ _ = W0
      have b0 : Below w.heap.size w W0 := by rw [← hW]; exact below2 _ _ _
      clear hW
      refine (equalNil a3 n c3 _ hn).mono ?_
      rintro e w1 ⟨rfl, hb1⟩
      go_wp2
      go_ret
      exact ⟨rfl, b0.trans (hb1.mono b0.size)⟩
    · have hln := list_ne (x := bo) (by omega)
      have hl2 := list_ne2 (x := bo) (by omega)
      rw [decide_eq_false (by omega), Bool.false_and]
      clear h5
      go_enter Tryz.func64, Tryz.ntmps64
      go_wp2
      go_ret
      exact ⟨rfl, below2 _ _ _⟩
  · have hln := list_ne (x := fr) (by omega)
    have hl2 := list_ne2 (x := fr) (by omega)
    rw [decide_eq_false (by omega), Bool.false_and]
    clear h0
    go_enter Tryz.func64, Tryz.ntmps64
    go_wp2
    go_ret
    exact ⟨rfl, below2 _ _ _⟩

set_option maxHeartbeats 1000000 in
set_option maxRecDepth 100000 in
theorem vd_neq0 (vk vc : Int) (vt : ByteArray) (wx : World) : (binOp .neq 41 (.agg #[.int .i64 0, .int .i64 0, .string ⟨#[]⟩]) (.agg #[.int .i64 vk, .int .i64 vc, .string vt])).run Tryz.prog wx = .ok (.bool (!noVB vk vc vt)) wx := by
  unfold noVB
  by_cases c1 : vk = 0
  · subst c1
    by_cases c2 : vc = 0
    · subst c2
      rcases Nat.eq_zero_or_pos vt.size with h0 | h0
      · have he := empty_of h0
        subst he
        rw [decide_eq_true h0]
        clear h0
        go_simp
      · have hln := list_ne (x := vt) (by omega)
        have hl2 : ¬ (vt.toList = []) := by intro h; rw [h] at hln; cases hln
        rw [decide_eq_false (p := vt.size = 0) (by omega)]
        go_simp
    · have c2b : ¬ (0 = vc) := fun h => c2 h.symm
      go_simp
  · have c1b : ¬ (0 = vk) := fun h => c1 h.symm
    go_simp
set_option maxHeartbeats 1000000 in
set_option maxRecDepth 100000 in
theorem vd_neqS (vk vc : Int) (vt : ByteArray) (wx : World) : (binOp .neq 41 (.agg #[.int .i64 vk, .int .i64 vc, .string vt]) (.agg #[.int .i64 vk, .int .i64 vc, .string vt])).run Tryz.prog wx = .ok (.bool (!true)) wx := by
  go_simp
end Go.Proofs.YtlolnfpfipnfeaaGreat
namespace Go.Proofs.YtlolnfpfipnfeaaGreat
open Go.ChangeShapes Go.WideShapes Go.ChangeAt Go.RowKit
attribute [local go_sem ↓] Go.wp_at_zero Go.wp_at_succ

set_option maxHeartbeats 8000000 in
set_option maxRecDepth 100000 in
theorem sameRec (xk xm xb : Int) (xf : ByteArray) (xs : Option Addr) (xn xc : Nat) (xo : ByteArray) (xi xr xvk xvc : Int) (xvt : ByteArray) (xt xd : Int) (yk ym yb : Int) (yf : ByteArray) (ys : Option Addr) (yn yc : Nat) (yo : ByteArray) (yi yr yvk yvc : Int) (yvt : ByteArray) (yt yd : Int) (vb mb : Bool) (w : World)
    (hV : ∀ wx : World, (binOp .neq 41 (.agg #[.int .i64 xvk, .int .i64 xvc, .string xvt]) (.agg #[.int .i64 yvk, .int .i64 yvc, .string yvt])).run Tryz.prog wx = .ok (.bool (!vb)) wx)
    (hM : ∀ wx : World, Below w.heap.size w wx → Calls Tryz.prog 64 #[.agg #[.int .i64 xm, .int .i64 xb, .string xf, .slice xs xn xc, .string xo], .agg #[.int .i64 ym, .int .i64 yb, .string yf, .slice ys yn yc, .string yo]] wx fun e w' => e = .returned (.bool mb) ∧ Below wx.heap.size wx w') :
    Calls Tryz.prog 51 #[.agg #[.int .i64 xk, .int .i64 xm, .int .i64 xb, .string xf, .slice xs xn xc, .string xo, .int .i64 xi, .int .i64 xr, .int .i64 xvk, .int .i64 xvc, .string xvt, .int .i64 xt, .int .i64 xd], .agg #[.int .i64 yk, .int .i64 ym, .int .i64 yb, .string yf, .slice ys yn yc, .string yo, .int .i64 yi, .int .i64 yr, .int .i64 yvk, .int .i64 yvc, .string yvt, .int .i64 yt, .int .i64 yd]] w fun e w' => e = .returned (.bool (decide (xk = yk) && (decide (xi = yi) && (decide (xr = yr) && (vb && (decide (xt = yt) && (decide (xd = yd) && mb))))))) ∧ Below w.heap.size w w' := by
  have HM : Hid (∀ wx : World, Below w.heap.size w wx → Calls Tryz.prog 64 #[.agg #[.int .i64 xm, .int .i64 xb, .string xf, .slice xs xn xc, .string xo], .agg #[.int .i64 ym, .int .i64 yb, .string yf, .slice ys yn yc, .string yo]] wx fun e w' => e = .returned (.bool mb) ∧ Below wx.heap.size wx w') := hM
  clear hM
  by_cases c1 : ¬ xk = yk
  · rw [decide_eq_false c1, Bool.false_and]
    go_enter Tryz.func51, Tryz.ntmps51
    go_wp2
    go_ret
    exact ⟨rfl, below2 _ _ _⟩
  replace c1 := Decidable.not_not.1 c1
  rw [decide_eq_true c1, Bool.true_and]
  subst c1
  by_cases c2 : ¬ xi = yi
  · rw [decide_eq_false c2, Bool.false_and]
    go_enter Tryz.func51, Tryz.ntmps51
    go_wp2
    go_ret
    exact ⟨rfl, below2 _ _ _⟩
  replace c2 := Decidable.not_not.1 c2
  rw [decide_eq_true c2, Bool.true_and]
  subst c2
  by_cases c3 : ¬ xr = yr
  · rw [decide_eq_false c3, Bool.false_and]
    go_enter Tryz.func51, Tryz.ntmps51
    go_wp2
    go_ret
    exact ⟨rfl, below2 _ _ _⟩
  replace c3 := Decidable.not_not.1 c3
  rw [decide_eq_true c3, Bool.true_and]
  subst c3
  cases vb
  · rw [Bool.false_and]
    go_enter Tryz.func51, Tryz.ntmps51
    go_wp2
    go_ret
    exact ⟨rfl, below2 _ _ _⟩
  rw [Bool.true_and]
  by_cases c4 : ¬ xt = yt
  · rw [decide_eq_false c4, Bool.false_and]
    go_enter Tryz.func51, Tryz.ntmps51
    go_wp2
    go_ret
    exact ⟨rfl, below2 _ _ _⟩
  replace c4 := Decidable.not_not.1 c4
  rw [decide_eq_true c4, Bool.true_and]
  subst c4
  by_cases c5 : ¬ xd = yd
  · rw [decide_eq_false c5, Bool.false_and]
    go_enter Tryz.func51, Tryz.ntmps51
    go_wp2
    go_ret
    exact ⟨rfl, below2 _ _ _⟩
  replace c5 := Decidable.not_not.1 c5
  rw [decide_eq_true c5, Bool.true_and]
  subst c5
  go_enter Tryz.func51, Tryz.ntmps51
  go_wp2_with fail
  generalize hW : World.alloc _ _ = W0
  have b0 : Below w.heap.size w W0 := by rw [← hW]; exact below2 _ _ _
  clear hW
  refine (HM.out _ b0).mono ?_
  rintro e w1 ⟨rfl, hb1⟩
  go_wp2
  go_ret
  exact ⟨rfl, b0.trans (hb1.mono b0.size)⟩

set_option maxHeartbeats 1000000 in
set_option maxRecDepth 100000 in
theorem rec1 (mid born : Int) (fr bo : ByteArray) (s : Option Addr) (n c : Nat) (w : World) : Calls Tryz.prog 89 #[.agg #[.int .i64 mid, .int .i64 born, .string fr, .slice s n c, .string bo]] w fun e w' => e = .returned (.agg #[.int .i64 1, .int .i64 mid, .int .i64 born, .string fr, .slice s n c, .string bo, .int .i64 0, .int .i64 0, .int .i64 0, .int .i64 0, .string ⟨#[]⟩, .int .i64 0, .int .i64 0]) ∧ Below w.heap.size w w' := by
  go_enter Tryz.func89, Tryz.ntmps89
  go_wp2
  refine bodyPost_ret (v := .agg #[.int .i64 1, .int .i64 mid, .int .i64 born, .string fr, .slice s n c, .string bo, .int .i64 0, .int .i64 0, .int .i64 0, .int .i64 0, .string ⟨#[]⟩, .int .i64 0, .int .i64 0]) (by simp [results, Tryz.results89, go_sem]) rfl ?_
  refine ⟨rfl, ?_⟩
  first | exact below1 _ _ | exact below2 _ _ _ | exact below3 _ _ _ _

set_option maxHeartbeats 1000000 in
set_option maxRecDepth 100000 in
theorem rec2 (id rc vk vc : Int) (vt : ByteArray) (w : World) : Calls Tryz.prog 134 #[.agg #[.int .i64 id, .int .i64 rc, .int .i64 vk, .int .i64 vc, .string vt]] w fun e w' => e = .returned (.agg #[.int .i64 2, .int .i64 0, .int .i64 0, .string ⟨#[]⟩, .slice none 0 0, .string ⟨#[]⟩, .int .i64 id, .int .i64 rc, .int .i64 vk, .int .i64 vc, .string vt, .int .i64 0, .int .i64 0]) ∧ Below w.heap.size w w' := by
  go_enter Tryz.func134, Tryz.ntmps134
  go_wp2
  refine bodyPost_ret (v := .agg #[.int .i64 2, .int .i64 0, .int .i64 0, .string ⟨#[]⟩, .slice none 0 0, .string ⟨#[]⟩, .int .i64 id, .int .i64 rc, .int .i64 vk, .int .i64 vc, .string vt, .int .i64 0, .int .i64 0]) (by simp [results, Tryz.results134, go_sem]) rfl ?_
  refine ⟨rfl, ?_⟩
  first | exact below1 _ _ | exact below2 _ _ _ | exact below3 _ _ _ _

set_option maxHeartbeats 1000000 in
set_option maxRecDepth 100000 in
theorem rec3 (id tr due : Int) (w : World) : Calls Tryz.prog 145 #[.agg #[.int .i64 id, .int .i64 tr, .int .i64 due]] w fun e w' => e = .returned (.agg #[.int .i64 3, .int .i64 0, .int .i64 0, .string ⟨#[]⟩, .slice none 0 0, .string ⟨#[]⟩, .int .i64 id, .int .i64 0, .int .i64 0, .int .i64 0, .string ⟨#[]⟩, .int .i64 tr, .int .i64 due]) ∧ Below w.heap.size w w' := by
  go_enter Tryz.func145, Tryz.ntmps145
  go_wp2
  refine bodyPost_ret (v := .agg #[.int .i64 3, .int .i64 0, .int .i64 0, .string ⟨#[]⟩, .slice none 0 0, .string ⟨#[]⟩, .int .i64 id, .int .i64 0, .int .i64 0, .int .i64 0, .string ⟨#[]⟩, .int .i64 tr, .int .i64 due]) (by simp [results, Tryz.results145, go_sem]) rfl ?_
  refine ⟨rfl, ?_⟩
  first | exact below1 _ _ | exact below2 _ _ _ | exact below3 _ _ _ _

set_option maxHeartbeats 1000000 in
set_option maxRecDepth 100000 in
theorem rec4 (id : Int) (w : World) : Calls Tryz.prog 149 #[.agg #[.int .i64 id]] w fun e w' => e = .returned (.agg #[.int .i64 4, .int .i64 0, .int .i64 0, .string ⟨#[]⟩, .slice none 0 0, .string ⟨#[]⟩, .int .i64 id, .int .i64 0, .int .i64 0, .int .i64 0, .string ⟨#[]⟩, .int .i64 0, .int .i64 0]) ∧ Below w.heap.size w w' := by
  go_enter Tryz.func149, Tryz.ntmps149
  go_wp2
  refine bodyPost_ret (v := .agg #[.int .i64 4, .int .i64 0, .int .i64 0, .string ⟨#[]⟩, .slice none 0 0, .string ⟨#[]⟩, .int .i64 id, .int .i64 0, .int .i64 0, .int .i64 0, .string ⟨#[]⟩, .int .i64 0, .int .i64 0]) (by simp [results, Tryz.results149, go_sem]) rfl ?_
  refine ⟨rfl, ?_⟩
  first | exact below1 _ _ | exact below2 _ _ _ | exact below3 _ _ _ _

set_option maxHeartbeats 1000000 in
set_option maxRecDepth 100000 in
theorem rec5 (id : Int) (w : World) : Calls Tryz.prog 153 #[.agg #[.int .i64 id]] w fun e w' => e = .returned (.agg #[.int .i64 5, .int .i64 0, .int .i64 0, .string ⟨#[]⟩, .slice none 0 0, .string ⟨#[]⟩, .int .i64 id, .int .i64 0, .int .i64 0, .int .i64 0, .string ⟨#[]⟩, .int .i64 0, .int .i64 0]) ∧ Below w.heap.size w w' := by
  go_enter Tryz.func153, Tryz.ntmps153
  go_wp2
  refine bodyPost_ret (v := .agg #[.int .i64 5, .int .i64 0, .int .i64 0, .string ⟨#[]⟩, .slice none 0 0, .string ⟨#[]⟩, .int .i64 id, .int .i64 0, .int .i64 0, .int .i64 0, .string ⟨#[]⟩, .int .i64 0, .int .i64 0]) (by simp [results, Tryz.results153, go_sem]) rfl ?_
  refine ⟨rfl, ?_⟩
  first | exact below1 _ _ | exact below2 _ _ _ | exact below3 _ _ _ _

set_option maxHeartbeats 1000000 in
set_option maxRecDepth 100000 in
theorem rec6 (id : Int) (w : World) : Calls Tryz.prog 160 #[.agg #[.int .i64 id]] w fun e w' => e = .returned (.agg #[.int .i64 6, .int .i64 0, .int .i64 0, .string ⟨#[]⟩, .slice none 0 0, .string ⟨#[]⟩, .int .i64 id, .int .i64 0, .int .i64 0, .int .i64 0, .string ⟨#[]⟩, .int .i64 0, .int .i64 0]) ∧ Below w.heap.size w w' := by
  go_enter Tryz.func160, Tryz.ntmps160
  go_wp2
  refine bodyPost_ret (v := .agg #[.int .i64 6, .int .i64 0, .int .i64 0, .string ⟨#[]⟩, .slice none 0 0, .string ⟨#[]⟩, .int .i64 id, .int .i64 0, .int .i64 0, .int .i64 0, .string ⟨#[]⟩, .int .i64 0, .int .i64 0]) (by simp [results, Tryz.results160, go_sem]) rfl ?_
  refine ⟨rfl, ?_⟩
  first | exact below1 _ _ | exact below2 _ _ _ | exact below3 _ _ _ _

set_option maxHeartbeats 1000000 in
set_option maxRecDepth 100000 in
theorem implId (n : Int) (w : World) : Calls Tryz.prog 91 #[.int .i64 n] w fun e w' => e = .returned (.bool (idN n)) ∧ w' = w := by
  unfold idN
  by_cases c1 : 1 ≤ n
  · rw [decide_eq_true c1, Bool.true_and]
    go_enter Tryz.func91, Tryz.ntmps91
    go_wp2
    go_ret
    exact ⟨rfl, rfl⟩
  · rw [decide_eq_false c1, Bool.false_and]
    go_enter Tryz.func91, Tryz.ntmps91
    go_wp2
    go_ret
    exact ⟨rfl, rfl⟩

set_option maxHeartbeats 1000000 in
set_option maxRecDepth 100000 in
theorem rightE4 (id : Int) (w : World) : Calls Tryz.prog 150 #[.agg #[.int .i64 id]] w fun e w' => e = .returned (.bool (idN id)) ∧ Below w.heap.size w w' := by
  go_enter Tryz.func150, Tryz.ntmps150
  go_wp2_with fail
  refine (implId id _).mono ?_
  rintro e w1 ⟨rfl, hw⟩
  subst hw
  go_wp2
  go_ret
  exact ⟨rfl, below1 _ _⟩

set_option maxHeartbeats 1000000 in
set_option maxRecDepth 100000 in
theorem rightE5 (id : Int) (w : World) : Calls Tryz.prog 154 #[.agg #[.int .i64 id]] w fun e w' => e = .returned (.bool (idN id)) ∧ Below w.heap.size w w' := by
  go_enter Tryz.func154, Tryz.ntmps154
  go_wp2_with fail
  refine (implId id _).mono ?_
  rintro e w1 ⟨rfl, hw⟩
  subst hw
  go_wp2
  go_ret
  exact ⟨rfl, below1 _ _⟩

set_option maxHeartbeats 1000000 in
set_option maxRecDepth 100000 in
theorem rightE6 (id : Int) (w : World) : Calls Tryz.prog 161 #[.agg #[.int .i64 id]] w fun e w' => e = .returned (.bool (decide (1 ≤ id) && decide (id ≤ 1000000))) ∧ Below w.heap.size w w' := by
  by_cases c1 : 1 ≤ id
  · rw [decide_eq_true c1, Bool.true_and]
    go_enter Tryz.func161, Tryz.ntmps161
    go_wp2
    go_ret
    exact ⟨rfl, below1 _ _⟩
  · rw [decide_eq_false c1, Bool.false_and]
    go_enter Tryz.func161, Tryz.ntmps161
    go_wp2
    go_ret
    exact ⟨rfl, below1 _ _⟩

set_option maxHeartbeats 2000000 in
set_option maxRecDepth 100000 in
theorem rightE3 (id tr due : Int) (w : World) : Calls Tryz.prog 146 #[.agg #[.int .i64 id, .int .i64 tr, .int .i64 due]] w fun e w' => e = .returned (.bool (idN id && (decide (0 ≤ tr) && (decide (tr ≤ 999999) && (decide (0 ≤ due) && (decide (due ≤ 20014400))))))) ∧ Below w.heap.size w w' := by
  obtain ⟨Q, HQ⟩ : ∃ Q : Bool, Hid ((decide (0 ≤ tr) && (decide (tr ≤ 999999) && (decide (0 ≤ due) && (decide (due ≤ 20014400))))) = Q) := ⟨_, rfl⟩
  obtain ⟨I, HI⟩ : ∃ I : Bool, Hid (idN id = I) := ⟨_, rfl⟩
  rw [HQ.out, HI.out]
  go_enter Tryz.func146, Tryz.ntmps146
  go_wp2_with fail
  generalize hW : World.alloc _ _ = W0
  have HM0 : Hid (Blk w.heap.size #[.int .i64 id, .int .i64 tr, .int .i64 due] W0) := by show Blk _ _ _; rw [← hW]; exact Blk.new w _ _
  have b0 : Below w.heap.size w W0 := by rw [← hW]; exact below1 _ _
  clear hW
  refine (implId id _).mono ?_
  rw [HI.out]
  rintro e w1 ⟨rfl, hw⟩
  subst hw
  have x1 : w1.cell? ⟨w.heap.size, 1, none⟩ = some (.int .i64 tr) := HM0.out.cell 1
  have x2 : w1.cell? ⟨w.heap.size, 2, none⟩ = some (.int .i64 due) := HM0.out.cell 2
  cases I
  · go_wp2
    go_ret
    exact ⟨rfl, b0⟩
  by_cases d1 : ¬ 0 ≤ tr
  · have hq : Q = false := by rw [← HQ.out, decide_eq_false d1]; rfl
    clear HQ
    subst hq
    go_wp2
    go_ret
    exact ⟨by first | rfl | exact ret_bool (decide_eq_false (by omega)), b0⟩
  replace d1 := Decidable.not_not.1 d1
  by_cases d2 : ¬ tr ≤ 999999
  · have hq : Q = false := by rw [← HQ.out, decide_eq_true d1, decide_eq_false d2]; rfl
    clear HQ
    subst hq
    go_wp2
    go_ret
    exact ⟨by first | rfl | exact ret_bool (decide_eq_false (by omega)), b0⟩
  replace d2 := Decidable.not_not.1 d2
  by_cases d3 : ¬ 0 ≤ due
  · have hq : Q = false := by rw [← HQ.out, decide_eq_true d1, decide_eq_true d2, decide_eq_false d3]; rfl
    clear HQ
    subst hq
    go_wp2
    go_ret
    exact ⟨by first | rfl | exact ret_bool (decide_eq_false (by omega)), b0⟩
  replace d3 := Decidable.not_not.1 d3
  by_cases d4 : ¬ due ≤ 20014400
  · have hq : Q = false := by rw [← HQ.out, decide_eq_true d1, decide_eq_true d2, decide_eq_true d3, decide_eq_false d4]; rfl
    clear HQ
    subst hq
    go_wp2
    go_ret
    exact ⟨by first | rfl | exact ret_bool (decide_eq_false (by omega)), b0⟩
  replace d4 := Decidable.not_not.1 d4
  have hq : Q = true := by rw [← HQ.out, decide_eq_true d1, decide_eq_true d2, decide_eq_true d3, decide_eq_true d4]; rfl
  clear HQ
  subst hq
  go_wp2
  go_ret
  exact ⟨rfl, b0⟩
end Go.Proofs.YtlolnfpfipnfeaaGreat
