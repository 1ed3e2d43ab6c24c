import Derived.Test.YthblkfdgibonbaaDuK
namespace Go.Proofs.Ythblkfdgibonbaa
open Go.ChangeShapes Go.WideShapes Go.ChangeAt Go.RowKit
attribute [local go_sem ↓] Go.wp_at_zero Go.wp_at_succ

theorem sortD_congr {L M : List Du} (h : M.Perm L) : sortD M = sortD L := sortD_uniq ((sortD_perm M).trans h) (sortD_pw M)
theorem frozen_newW (W : World) (c : Array Value) (T k o : Nat) (hk : k = W.heap.size) : (W.alloc (.cells c T)).frozen? ⟨k, o, none⟩ = false := by
  have h := lk_newW W (.cells c T) k hk
  simp only [World.frozen?, h]
  simp
theorem fDue (x y : Int) (w : World) : (Instr.field 77 (.agg #[.int .i64 x, .int .i64 y]) 1).run Try.prog w = .ok (.int .i64 y) w := by kernel_rfl
def cellN (w : World) (b : Nat) : Nat := match w.cell? ⟨b, 0, none⟩ with
  | some (.slice _ n _) => n
  | _ => 0
theorem cellN_at {w : World} {b n c : Nat} {a : Option Addr} (h : w.cell? ⟨b, 0, none⟩ = some (.slice a n c)) : cellN w b = n := by unfold cellN; rw [h]
theorem HpV.form {w : World} {b : Nat} {v : Value} {D : List Du} (h : HpV w b v D) : ∃ a c, v = .slice a D.length c := by
  obtain ⟨a, c, e⟩ := Rw.form h.row
  rw [List.length_map] at e
  exact ⟨a, c, e⟩

set_option maxHeartbeats 4000000 in
set_option maxRecDepth 100000 in
theorem implDue (v : Value) (nx now : Int) (L : List It) (P : List (Value × Value)) (lo : Nat) (w : World) (h : ItsP w lo v L P) (hL : L.length ≤ 1048576) :
    Calls Try.prog 16 #[.agg #[v, .int .i64 nx], .int .i64 now] w fun e w' => (∃ u, e = .returned u ∧ Ins w' w.heap.size u ((sortD (dueK L now)).map (·.2))) ∧ Below w.heap.size w w' := by
  have H : Hid (ItsP w lo v L P) := h
  have HK : Hid ((dueE (L.zip P) now).map ek = dueK L now) := due_zip L P now h.len
  have HO : Hid (∀ e ∈ L.zip P, eOk e) := zip_ok h
  have hPl := h.len
  have hEl : (L.zip P).length = L.length := by simp; omega
  obtain ⟨a1, c1, rfl⟩ := h.form
  clear h
  obtain ⟨j0, hjnf, hy0, hy1, hy2⟩ := info_parts infoInt
  go_enter Try.func16, Try.ntmps16
  obtain ⟨E, hE⟩ : ∃ E, L.zip P = E := ⟨_, rfl⟩
  rw [hE] at HK HO hEl
  have HE : Hid (L.zip P = E) := hE
  clear hE
  go_wp2_with fail
  generalize hW : World.alloc _ _ = W
  have hbW : Below w.heap.size w W := by rw [← hW]; exact below2 _ _ _
  have hWz : W.heap.size = w.heap.size + 2 := by rw [← hW]; simp
  have HV0 : Hid (HpV W (w.heap.size + 1) (.slice none 0 0) []) := by
    show HpV _ _ _ _
    rw [← hW]
    exact ⟨World.news_of_block (lk_newW _ _ _ (by simp)) 0 _ rfl, frozen_newW _ _ _ _ _ (by simp), by simp, ⟨⟨by rfl, .inl ⟨rfl, rfl⟩⟩, fun c hc => by cases hc⟩⟩
  clear hW
  go_loopw [12] (fun kv wr => ∃ (k : Nat) (v : Value) (D : List Du), k ≤ L.length ∧ kv = .int .i64 k ∧ D.length ≤ k ∧ Hid (HpV wr (w.heap.size + 1) v D) ∧ Hid (D.Perm ((dueE (E.take k) now).map ek)) ∧ Hid (HeapD D.length D) ∧ Hid (Below w.heap.size w wr)) (fun kv _ => L.length - (intOf kv).toNat)
  case atStart => exact ⟨0, _, [], Nat.zero_le _, rfl, Nat.le_refl _, HV0, List.Perm.refl _, fun k hk => by simp at hk, hbW⟩
  case round =>
    obtain ⟨k, lv, D, hk, rfl, hDk, HV, HP, HH, HB⟩ := hrel
    by_cases hlt : k < L.length
    · obtain ⟨g1, rfl, hg1⟩ : ∃ g, a1 = some ⟨g, 0, none⟩ ∧ g < w.heap.size := by
        rcases H.out.row.cases with ⟨_, hL0⟩ | ⟨g, cap, hv, hs⟩
        · have := congrArg List.length hL0; rw [irow_len H.out.len] at this; simp only [List.length_nil] at this; omega
        · injection hv with h1; exact ⟨g, h1, hs.lt⟩
      obtain ⟨x0, x1, x2, x3, x4, x5, x6, x7, x8⟩ := (H.out.cells k hlt).below HB.out hg1
      have hek : E[k]'(by omega) = (L[k], P[k]'(by omega)) := by
        have := zip_get H.out.len k hlt
        simp only [HE.out] at this
        exact this
      obtain ⟨p1, q1, e1⟩ := strs_formR (H.out.str k hlt)
      obtain ⟨p2, q2, e2⟩ := vds_form (H.out.vds k hlt)
      have HT : Hid (dueE (E.take (k + 1)) now = dueE (E.take k) now ++ (if L[k].du ≤ now then [(L[k], P[k]'(by omega))] else [])) := by
        have := due_take (now := now) (E := E) (k := k) (by omega)
        rw [hek] at this
        exact this
      rw [e1] at x3
      rw [e2] at x5
      clear e1 e2 hek
      generalize L[k] = X at *
      generalize P[k] = p at *
      by_cases hd : X.du ≤ now
      · rw [if_pos hd] at HT
        have HT2 : Hid ((dueE (E.take (k + 1)) now).map ek = (dueE (E.take k) now).map ek ++ [(X.du, X.id)]) := by show _ = _; rw [HT.out, List.map_append]; rfl
        go_wp2_with fail
        generalize hW1 : World.alloc _ _ = W1
        have hb1 : Below wr.heap.size wr W1 := by rw [← hW1]; exact below1 _ _
        have HP1 := heapPush (w.heap.size + 1) lv D (X.du, X.id) W1 (HV.out.off hb1) HH.out (by omega)
        refine HP1.mono ?_
        clear HP1
        rintro e w2 ⟨rfl, ⟨v2, D2, hv2, hp2, hh2⟩, hb2⟩
        have HV2 : Hid (HpV w2 (w.heap.size + 1) v2 D2) := hv2
        have HPP : Hid (D2.Perm ((dueE (E.take (k + 1)) now).map ek)) := by show List.Perm _ _; rw [HT2.out]; exact hp2.trans (HP.out.append_right _)
        have hl2 : D2.length = D.length + 1 := by rw [hp2.length_eq]; simp
        have HB2 : Hid (Below w.heap.size w w2) := (HB.out.trans (hb1.mono HB.out.size)).trans (hb2.mono (by omega))
        have HH2 : Hid (HeapD D2.length D2) := hh2
        clear hb2 hb1 hv2 hp2 hh2 hW1 x0 x1 x2 x3 x4 x5 x6 x7 x8
        go_wp2
        go_roundw
        case rel => exact ⟨k + 1, v2, D2, by omega, by go_num, by omega, HV2, HPP, HH2, HB2⟩
        case measure => simp [intOf]; omega
      · rw [if_neg hd, List.append_nil] at HT
        go_wp2
        go_roundw
        case rel =>
          refine ⟨k + 1, lv, D, by omega, by go_num, by omega, HV.out.off (below1 _ _), ?_, HH, HB.out.alloc HB.out.size _⟩
          rw [HT.out]
          exact HP
        case measure => simp [intOf]; omega
    · obtain rfl : k = L.length := by omega
      have HG : Hid (sortD D = sortD (dueK L now)) := by
        have := HP.out
        rw [List.take_of_length_le (by omega), HK.out] at this
        exact sortD_congr this
      clear HP HK HO HE HV0 hlt
      obtain ⟨G, HGG⟩ : ∃ G, Hid ((sortD (dueK L now)).map (·.2) = G) := ⟨_, rfl⟩
      have HGD : Hid ((sortD D).map (·.2) = G) := by show _ = _; rw [HG.out, HGG.out]
      obtain ⟨a5, c5, rfl⟩ := HV.out.form
      obtain ⟨wq, hwq⟩ : ∃ wq : World, wq = wr := ⟨wr, rfl⟩
      subst hwq
      have Hown : Hid (∀ g, (Value.slice a5 D.length c5).ownBlock = some g → g < wq.heap.size) := fun g hg => (row_lt HV.out.row.1 g hg).2
      have hwz := HV.out.lt
      go_wp2_with fail
      go_loopw [8] (fun ov wr => ∃ (D : List Du) (O : List Int) (a : Option Addr) (c : Nat), O.length + D.length ≤ 1048576 ∧ Hid (HpV wr (w.heap.size + 1) (.slice a D.length c) D) ∧ Hid (HeapD D.length D) ∧ Hid (∀ g, (Value.slice a D.length c).ownBlock = some g → g < wq.heap.size) ∧ Hid (Ins wr wq.heap.size ov O) ∧ Hid (O ++ (sortD D).map (·.2) = G) ∧ Hid (Below w.heap.size w wr) ∧ wq.heap.size ≤ wr.heap.size) (fun _ wr => cellN wr (w.heap.size + 1))
      case atStart => exact ⟨D, [], a5, c5, by simp; omega, HV, HH, Hown, ⟨by rfl, .inl ⟨rfl, rfl⟩⟩, HGD, HB, Nat.le_refl _⟩
      case round =>
        clear HV HH Hown HGD HB hDk HG
        clear D
        obtain ⟨D, O, a, c, hlen, HV, HH, HOwn, HI, HGD, HB, hsz⟩ := hrel
        obtain ⟨ao, co, hov⟩ : ∃ a c, u8 = .slice a O.length c := by
          rcases HI.out.cases with ⟨h1, h2⟩ | ⟨g, cap, h1, _⟩
          · subst h2; exact ⟨_, _, h1⟩
          · exact ⟨_, _, h1⟩
        subst hov
        have hc := HV.out.c
        by_cases h0 : D.length = 0
        · have hD := List.eq_nil_of_length_eq_zero h0
          subst hD
          have hG := HGD.out
          simp only [List.map_nil, sortD_nil, List.append_nil] at hG
          have HGO : Hid (O = G) := hG
          clear hG
          go_wp2_with fail
          refine (hpLen _ _ _ _).mono ?_
          rintro e w0 ⟨rfl, hw0⟩
          rw [hw0]
          clear hw0 w0
          go_wp2
          go_ret
          refine ⟨⟨_, rfl, ?_⟩, HB.out⟩
          rw [HGG.out, ← HGO.out]
          exact ins_le HI.out (by omega)
        · obtain ⟨m, hm⟩ : ∃ m, D.length = m + 1 := ⟨D.length - 1, by omega⟩
          obtain ⟨g, cap, hgv, _⟩ := HV.out.row.ne (by omega)
          injection hgv with h1 h2 h3
          subst h1 h3
          have HI2 : Hid (Ins wr wq.heap.size (.slice ao O.length co) O) := HI
          have hglt := HOwn.out g rfl
          have hci : (0 : Int) < (D.length : Int) := by omega
          have hmeas := cellN_at hc
          go_wp2_with fail
          refine (hpLen _ _ _ _).mono ?_
          rintro e w0 ⟨rfl, hw0⟩
          rw [hw0]
          clear hw0 w0
          go_wp2_with fail
          have HF := heapFirst (w.heap.size + 1) g c m D wr HV.out HH.out hm (by omega)
          refine HF.mono ?_
          clear HF
          rintro e w1 ⟨rfl, ⟨D1, hv1, hl1, hf1, hs1⟩, ho1⟩
          have hgl := (row_lt HV.out.row.1 g rfl).1
          have hbb : Below (w.heap.size + 1) wr w1 := ho1.below (by intro v hv a ha; simp at hv; rcases hv with rfl | rfl <;> cases ha <;> (dsimp only; omega)) (by have := HV.out.lt; omega)
          have HV1 : Hid (HpV w1 (w.heap.size + 1) (.slice (some ⟨g, 0, none⟩) D1.length c) D1) := by rw [hl1]; exact hv1
          have HF1 : Hid (HeapD D1.length D1) := hf1
          have HB1 : Hid (Below w.heap.size w w1) := HB.out.trans (hbb.mono (by omega))
          have HI1 : Hid (Ins w1 wq.heap.size (.slice ao O.length co) O) := ho1.row HI.out (by
            intro a ha v hv e
            have := ins_lo HI.out a ha
            simp at hv
            rcases hv with rfl | rfl <;> cases e <;> (dsimp only at *; omega))
          have hsz1 : wq.heap.size ≤ w1.heap.size := Nat.le_trans hsz ho1.size
          have HG1 : Hid ((O ++ [(gD D 0).2]) ++ (sortD D1).map (·.2) = G) := by
            show _ = _
            rw [← HGD.out, hs1]; simp
          have Hlo : Hid (∀ g', (Value.slice ao O.length co).ownBlock = some g' → wq.heap.size ≤ g') := fun g' hg' => ins_lo HI1.out g' hg'
          clear hv1 hf1 hs1 ho1 hbb HV HH HB HI HI2 HGD
          generalize (gD D 0).1 = d1 at *
          generalize (gD D 0).2 = d at *
          have hfl := fun w => fDue d1 d w
          go_wp2_with (at_builtin; refine wpList_append_lies _ rfl _ _ 38 rfl wq.heap.size 3 j0 (.int .i64 0) 1 8 Try.underlying38 hjnf hy0 hy1 hy2 rfl (by decide) _ _ _ rfl (World.ownsRow.alloc HI1.out _) ⟨w1.heap.size, 0, none⟩ 1 1 [.int .i64 d] rfl rfl ?e1 ?e2 (by decide) ?e4 ?e5 ?e6 (w1.heap.size + 1) ?e7 ?_)
          case e1 =>
            intro j u hj
            exact World.news_of_block (lk_newW _ _ _ rfl) j u (by simpa using hj)
          case e2 => intro u hu; simp at hu; subst hu; rfl
          case e4 => unfold maxLen; omega
          case e5 => omega
          case e6 => simp; omega
          case e7 => simp
          intro g2 cap2 w7 hown hgrow hat hlt7
          have HI7 : Hid (Ins w7 wq.heap.size (.slice (some ⟨g2, 0, none⟩) (O.length + 1) cap2) (O ++ [d])) := ins_snoc hown
          have hb7 : Below wq.heap.size w1 w7 := ((Below.refl wq.heap.size w1).alloc (by omega) _).grown hgrow (by simp; omega) Hlo.out
          have HB7 : Hid (Below w.heap.size w w7) := HB1.out.trans (hb7.mono (by omega))
          have HV7 : Hid (HpV w7 (w.heap.size + 1) (.slice (some ⟨g, 0, none⟩) D1.length c) D1) :=
            ⟨(hb7.cell (p := ⟨w.heap.size + 1, 0, none⟩) (by show _ < _; omega)).trans HV1.out.c, (hb7.frozen (p := ⟨w.heap.size + 1, 0, none⟩) (by show _ < _; omega)).trans HV1.out.f, Nat.lt_of_lt_of_le HV1.out.lt hb7.size, ⟨row_belowB HV1.out.row.1 hb7 (fun a ha => by cases ha; exact hglt), HV1.out.row.2⟩⟩
          have hsz7 : wq.heap.size ≤ w7.heap.size := Nat.le_trans hsz1 hb7.size
          have hm7 := cellN_at HV7.out.c
          clear hown hgrow hat hb7 HI1 HV1 HB1
          go_wp2
          go_roundw
          case rel => exact ⟨D1, O ++ [d], some ⟨g, 0, none⟩, c, by simp; omega, HV7, HF1, fun g' hg' => by cases hg'; exact hglt, by simpa using HI7, HG1, HB7, hsz7⟩
          case measure => omega
end Go.Proofs.Ythblkfdgibonbaa
