import Derived.Test.YthblkfdgibonbaaDuP
namespace Go.Proofs.Ythblkfdgibonbaa
open Go.ChangeShapes Go.WideShapes Go.ChangeAt Go.RowKit
attribute [local go_sem ↓] Go.wp_at_zero Go.wp_at_succ

/-- the heap's variable in block b, its row behind it -/
structure HpV (w : World) (b : Nat) (v : Value) (D : List Du) : Prop where
  c : w.cell? ⟨b, 0, none⟩ = some v
  f : w.frozen? ⟨b, 0, none⟩ = false
  lt : b < w.heap.size
  row : Hp w (b + 1) v D

theorem mLess (n b : Nat) (w : World) (a : Option Addr) (m c : Nat) (h : w.cell? ⟨b, 0, none⟩ = some (.slice a m c)) : (method (n + 1) 75 (.pointer (some ⟨b, 0, none⟩)) "Less").run Try.prog w = .ok (105, .slice a m c) w := by
  have hm : (Array.find? (fun x => x.name == "Less") Try.t75.methods).map (fun m => (m.path, m.func)) = some (#[], some (105, false)) := by kernel_rfl
  obtain ⟨r, h1, h2⟩ := Option.map_eq_some_iff.1 hm
  simp only [Prod.mk.injEq] at h2
  obtain ⟨h3, h4⟩ := h2
  have hu := Try.underlying75
  have hs : ∀ (x y : String), (Builtin.ssaWrapNilChk_ #[75] 75 #[.pointer (some ⟨b, 0, none⟩), strVal x, strVal y]).run Try.prog w = .ok (.pointer (some ⟨b, 0, none⟩)) w := fun _ _ => rfl
  unfold method
  go_simp
  simp only [follow, receiverAt, Place.get]
  go_simp
theorem mLen (n b : Nat) (w : World) (a : Option Addr) (m c : Nat) (h : w.cell? ⟨b, 0, none⟩ = some (.slice a m c)) : (method (n + 1) 75 (.pointer (some ⟨b, 0, none⟩)) "Len").run Try.prog w = .ok (39, .slice a m c) w := by
  have hm : (Array.find? (fun x => x.name == "Len") Try.t75.methods).map (fun m => (m.path, m.func)) = some (#[], some (39, false)) := by kernel_rfl
  obtain ⟨r, h1, h2⟩ := Option.map_eq_some_iff.1 hm
  simp only [Prod.mk.injEq] at h2
  obtain ⟨h3, h4⟩ := h2
  have hu := Try.underlying75
  have hs : ∀ (x y : String), (Builtin.ssaWrapNilChk_ #[75] 75 #[.pointer (some ⟨b, 0, none⟩), strVal x, strVal y]).run Try.prog w = .ok (.pointer (some ⟨b, 0, none⟩)) w := fun _ _ => rfl
  unfold method
  go_simp
  simp only [follow, receiverAt, Place.get]
  go_simp
theorem mSwap (n b : Nat) (w : World) (a : Option Addr) (m c : Nat) (h : w.cell? ⟨b, 0, none⟩ = some (.slice a m c)) : (method (n + 1) 75 (.pointer (some ⟨b, 0, none⟩)) "Swap").run Try.prog w = .ok (106, .slice a m c) w := by
  have hm : (Array.find? (fun x => x.name == "Swap") Try.t75.methods).map (fun m => (m.path, m.func)) = some (#[], some (106, false)) := by kernel_rfl
  obtain ⟨r, h1, h2⟩ := Option.map_eq_some_iff.1 hm
  simp only [Prod.mk.injEq] at h2
  obtain ⟨h3, h4⟩ := h2
  have hu := Try.underlying75
  have hs : ∀ (x y : String), (Builtin.ssaWrapNilChk_ #[75] 75 #[.pointer (some ⟨b, 0, none⟩), strVal x, strVal y]).run Try.prog w = .ok (.pointer (some ⟨b, 0, none⟩)) w := fun _ _ => rfl
  unfold method
  go_simp
  simp only [follow, receiverAt, Place.get]
  go_simp
theorem mPush (n : Nat) (a : Addr) (w : World) : (method (n + 1) 75 (.pointer (some a)) "Push").run Try.prog w = .ok (113, .pointer (some a)) w := by kernel_rfl
theorem mPop (n : Nat) (a : Addr) (w : World) : (method (n + 1) 75 (.pointer (some a)) "Pop").run Try.prog w = .ok (112, .pointer (some a)) w := by kernel_rfl
theorem tDue (x y : Int) (w : World) : (Instr.typeAssert (.iface 77 (.agg #[.int .i64 x, .int .i64 y])) 20 77 false).run Try.prog w = .ok (.agg #[.int .i64 x, .int .i64 y]) w := by kernel_rfl
theorem infoDu : (Try.prog.info? 77).map (fun i => (i.zero, i.size, i.bytes)) = some (some (.agg #[.int .i64 0, .int .i64 0]), 2, 16) := by kernel_rfl
set_option maxHeartbeats 4000000 in
set_option maxRecDepth 100000 in
theorem hpPush (b : Nat) (v : Value) (D : List Du) (d : Du) (w : World) (h : HpV w b v D) (hL : D.length ≤ 1048576) :
    Calls Try.prog 113 #[.pointer (some ⟨b, 0, none⟩), .iface 77 (.agg #[.int .i64 d.1, .int .i64 d.2])] w fun e w' => e = .returned (.tuple #[]) ∧ (∃ v', HpV w' b v' (D ++ [d])) ∧ Below b w w' := by
  obtain ⟨c, f, lt, row⟩ := h
  obtain ⟨a1, c1, rfl⟩ := row.form
  have HR : Hid (Hp w (b + 1) (.slice a1 D.length c1) D) := row
  clear row
  go_enter Try.func113, Try.ntmps113
  go_wp2_with fail
  obtain ⟨i0, hinf, hx0, hx1, hx2⟩ := info_parts infoDu
  have hta := fun w => tDue d.1 d.2 w
  have hlo : ∀ g, (Value.slice a1 D.length c1).ownBlock = some g → b + 1 ≤ g := fun g hg => (row_lt HR.out.1 g hg).1
  have HMi : Hid (w.ownsRow (b + 1) 77 2 (.slice a1 D.length c1) D.length (D.map dc).flatten) := by
    have := HR.out.1
    rw [List.length_map] at this
    exact this
  go_region_law (refine step_append_lies _ (by rfl) _ _ 73 (by rfl) (b + 1) 77 i0 (.agg #[.int .i64 0, .int .i64 0]) 2 16 Try.underlying73 hinf hx0 hx1 hx2 (by rfl) (by decide) (.slice a1 D.length c1) D.length (D.map dc).flatten (by rfl) (by exact (row_belowB HMi.out (Below.refl w.heap.size w).drew (fun g hg => (row_lt HMi.out g hg).2)).alloc _) ⟨w.heap.size, 0, none⟩ 1 1 [.int .i64 d.1, .int .i64 d.2] (by rfl) (by rfl) (by intro j u hj; exact World.news_of_block (lk_newW _ _ _ rfl) j u (by simpa using hj)) (by intro u hu; simp at hu; rcases hu with rfl | rfl <;> rfl) (by decide) (by unfold maxLen; omega) (by omega) (by simp; omega) (w.heap.size + 1) (by simp) ?_; intro g cap w7 hown hgrow hat hlt7; have HB7 : Hid (Below (b + 1) w w7) := ((((Below.refl (b + 1) w).drew).alloc (by simp; omega) _).grown hgrow (by simp; omega) hlo); have k7 := (HB7.out.cell (p := ⟨b, 0, none⟩) (by show b < _; omega)).trans c; have f7 := (HB7.out.frozen (p := ⟨b, 0, none⟩) (by show b < _; omega)).trans f)
  all_goals
    have HR7 : Hid (Hp w7 (b + 1) (.slice (some ⟨g, 0, none⟩) (D.length + 1) cap) (D ++ [d])) := by
      show Rw _ _ _ _ _ _
      rw [List.map_append]
      refine Rw.snoc (c := dc d) (dc_two D) rfl ?_
      rw [List.length_map]; exact hown
    go_end0
    exact ⟨rfl, ⟨_, World.cell?_setCell_same _ _ _ k7, by rw [World.frozen?_setCell]; exact f7, by simp; have := HB7.out.size; omega, Rw.set_below HR7.out (a := ⟨b, 0, none⟩) (by show b < _; omega) _⟩, (HB7.out.mono (show b ≤ b + 1 by omega)).setCell (Nat.le_refl _) _⟩

theorem HpV.off {w w' : World} {b : Nat} {v : Value} {D : List Du} (h : HpV w b v D) (hb : Below w.heap.size w w') : HpV w' b v D :=
  ⟨(hb.cell (p := ⟨b, 0, none⟩) h.lt).trans h.c, (hb.frozen (p := ⟨b, 0, none⟩) h.lt).trans h.f, Nat.lt_of_lt_of_le h.lt hb.size, h.row.below hb (Nat.le_refl _)⟩

set_option maxHeartbeats 4000000 in
set_option maxRecDepth 100000 in
theorem heapUp (b g cap j : Nat) (D : List Du) (w : World) (h : HpV w b (.slice (some ⟨g, 0, none⟩) D.length cap) D) (hu : UpD D j) (hj : j < D.length) (hL : D.length ≤ 1048577) :
    Calls Try.prog 50 #[.iface 75 (.pointer (some ⟨b, 0, none⟩)), .int .i64 j] w fun e w' => e = .returned (.tuple #[]) ∧ (∃ D', HpV w' b (.slice (some ⟨g, 0, none⟩) D.length cap) D' ∧ D'.Perm D ∧ HeapD D'.length D') ∧ OffL [.slice (some ⟨g, 0, none⟩) D.length cap] w w' := by
  have H : Hid (HpV w b (.slice (some ⟨g, 0, none⟩) D.length cap) D) := h
  have HU : Hid (UpD D j) := hu
  clear h hu
  go_enter Try.func50, Try.ntmps50
  go_wp2_with fail
  go_loopw [1] (fun jv wr => ∃ (k : Nat) (E : List Du), k < D.length ∧ jv = .int .i64 k ∧ E.length = D.length ∧ Hid (HpV wr b (.slice (some ⟨g, 0, none⟩) D.length cap) E) ∧ Hid (UpD E k) ∧ Hid (E.Perm D) ∧ Hid (OffL [.slice (some ⟨g, 0, none⟩) D.length cap] w wr)) (fun jv _ => (intOf jv).toNat)
  case atStart => exact ⟨j, D, hj, rfl, rfl, H, HU, List.Perm.refl _, OffL.of_below (Below.refl _ _)⟩
  case round =>
    obtain ⟨k, E, hk, rfl, hE, HV, HK, HP, HO⟩ := hrel
    have hml := fun n => mLess n b wr _ _ _ HV.out.c
    have hms := fun n => mSwap n b wr _ _ _ HV.out.c
    by_cases hk0 : k = 0
    · subst hk0
      go_wp2
      go_end0
      exact ⟨rfl, ⟨E, HV.out, HP.out, up_end HK.out (.inl rfl)⟩, HO.out⟩
    · obtain ⟨i, hi, hin⟩ : ∃ i : Nat, ((k : Int) - 1) / 2 = (i : Int) ∧ (k - 1) / 2 = i := ⟨(k - 1) / 2, by omega, rfl⟩
      have hik : ((i : Int) == (k : Int)) = false := beq_eq_false_iff_ne.2 (by omega)
      have Hin : Hid ((k - 1) / 2 = i) := hin
      have hlt : i < k := by omega
      clear hin
      go_wp2_with fail
      have HL := hpLess g cap k i (b + 1) E wr (by rw [hE]; exact HV.out.row) (by omega) (by omega)
      rw [hE] at HL
      refine HL.mono ?_
      clear HL
      rintro e w1 ⟨rfl, hb1⟩
      have HV1 : Hid (HpV w1 b (.slice (some ⟨g, 0, none⟩) D.length cap) E) := HV.out.off hb1
      have HO1 : Hid (OffL [.slice (some ⟨g, 0, none⟩) D.length cap] w w1) := HO.out.trans (OffL.of_below hb1)
      have hms := fun n => mSwap n b w1 _ _ _ HV1.out.c
      clear hb1 HV HO hml
      by_cases hlt2 : dLt (gD E k) (gD E i)
      · have hd : decide (dLt (gD E k) (gD E i)) = true := decide_eq_true hlt2
        have HU2 : Hid (UpD (swD E i k) i) := by
          have := up_step HK.out (by omega) (by omega) (by rw [Hin.out]; exact hlt2)
          rw [Hin.out] at this
          exact this
        have HP2 : Hid ((swD E i k).Perm D) := (swD_perm (by omega) (by omega)).trans HP.out
        have hl2 := swD_len E i k
        clear hlt2
        go_wp2_with fail
        have HL := hpSwap g cap i k (b + 1) E w1 (by rw [hE]; exact HV1.out.row) (by omega) (by omega)
        rw [hE] at HL
        refine HL.mono ?_
        clear HL
        rintro e w2 ⟨rfl, hh2, ho2⟩
        have hne : b ≠ g := by
          have := (row_lt HV1.out.row.1 g rfl).1
          omega
        have HV2 : Hid (HpV w2 b (.slice (some ⟨g, 0, none⟩) D.length cap) (swD E i k)) := ⟨(ho2.cell HV1.out.lt hne).trans HV1.out.c, (ho2.frozen HV1.out.lt hne).trans HV1.out.f, Nat.lt_of_lt_of_le HV1.out.lt ho2.size, hh2⟩
        have HO2 : Hid (OffL [.slice (some ⟨g, 0, none⟩) D.length cap] w w2) := HO1.out.trans (OffL.ofV (v := .slice (some ⟨g, 0, none⟩) D.length cap) (.inl ⟨g, rfl, ho2⟩) (by simp))
        clear hh2 ho2
        go_wp2
        go_roundw
        case rel => exact ⟨i, swD E i k, by omega, rfl, by omega, HV2, HU2, HP2, HO2⟩
        case measure => simp [intOf]; omega
      · have hd : decide (dLt (gD E k) (gD E i)) = false := decide_eq_false hlt2
        have HF : Hid (HeapD E.length E) := up_end HK.out (.inr (by rw [Hin.out]; exact hlt2))
        clear hlt2
        go_wp2
        go_end0
        exact ⟨rfl, ⟨E, HV1.out, HP.out, HF.out⟩, HO1.out⟩

set_option maxHeartbeats 4000000 in
set_option maxRecDepth 100000 in
theorem hpLen (a : Option Addr) (n c : Nat) (w : World) : Calls Try.prog 39 #[.slice a n c] w fun e w' => e = .returned (.int .i64 n) ∧ w' = w := by
  go_enter Try.func39, Try.ntmps39
  go_wp2
  go_ret
  exact ⟨rfl, rfl⟩

set_option maxHeartbeats 4000000 in
set_option maxRecDepth 100000 in
theorem heapPush (b : Nat) (v : Value) (D : List Du) (d : Du) (w : World) (h : HpV w b v D) (hh : HeapD D.length D) (hL : D.length ≤ 1048576) :
    Calls Try.prog 38 #[.iface 75 (.pointer (some ⟨b, 0, none⟩)), .iface 77 (.agg #[.int .i64 d.1, .int .i64 d.2])] w fun e w' => e = .returned (.tuple #[]) ∧ (∃ v' D', HpV w' b v' D' ∧ D'.Perm (D ++ [d]) ∧ HeapD D'.length D') ∧ Below b w w' := by
  have H : Hid (HpV w b v D) := h
  have HH : Hid (HeapD D.length D) := hh
  have hmp := fun n => mPush n ⟨b, 0, none⟩ w
  clear h hh
  go_enter Try.func38, Try.ntmps38
  go_wp2_with fail
  refine (hpPush b v D d _ H.out hL).mono ?_
  rintro e w1 ⟨rfl, ⟨v1, h1⟩, hb1⟩
  obtain ⟨g, cap, rfl, _⟩ := h1.row.ne (by simp)
  have H1 : Hid (HpV w1 b (.slice (some ⟨g, 0, none⟩) (D ++ [d]).length cap) (D ++ [d])) := h1
  have hml := fun n => mLen n b w1 _ _ _ h1.c
  have HB1 : Hid (Below b w w1) := hb1
  have hlen : (D ++ [d]).length = D.length + 1 := by simp
  clear h1 hmp hb1
  go_wp2_with fail
  refine (hpLen _ _ _ _).mono ?_
  rintro e w2 ⟨rfl, rfl⟩
  clear hml
  go_wp2_with fail
  have HU := heapUp b g cap D.length (D ++ [d]) w2 H1.out (up_start d HH.out) (by omega) (by omega)
  refine HU.mono ?_
  clear HU
  rintro e w3 ⟨rfl, ⟨D', h3, hp3, hh3⟩, ho3⟩
  have H3 : Hid (HpV w3 b (.slice (some ⟨g, 0, none⟩) (D ++ [d]).length cap) D') := h3
  have hg : b + 1 ≤ g := (row_lt H1.out.row.1 g rfl).1
  have HB3 : Hid (Below b w w3) := HB1.out.trans (ho3.below (by intro v hv a ha; simp only [List.mem_singleton] at hv; subst hv; cases ha; show b ≤ g; omega) (by have := H1.out.lt; omega))
  clear h3 ho3
  go_wp2
  go_end0
  exact ⟨rfl, ⟨_, D', H3.out, hp3, hh3⟩, HB3.out⟩
end Go.Proofs.Ythblkfdgibonbaa
