import Derived.Test.YthblkfdgibonbaaDueM
import Derived.Test.YthblkfdgibonbaaItE
import Derived.Test.YthblkfdgibonbaaIns
import Derived.Laws.AppendOwn
import Derived.Deep.DeepCutAuto
import Derived.Deep.CutBlock
namespace Go.Proofs.Ythblkfdgibonbaa
open Go.ChangeShapes Go.WideShapes Go.ChangeAt Go.RowKit
attribute [local go_sem ↓] Go.wp_at_zero Go.wp_at_succ

/-- an item with its two slices -/
abbrev Ie := It × Value × Value
def ec (e : Ie) : List Value := ic e.1 e.2
def ek (e : Ie) : Du := (e.1.du, e.1.id)
def eOk (e : Ie) : Prop := (∃ a n c, e.2.1 = .slice a n c) ∧ ∃ a n c, e.2.2 = .slice a n c
theorem ec_nine (E : List Ie) : ∀ c ∈ E.map ec, c.length = 9 := by
  intro c hc
  obtain ⟨e, _, rfl⟩ := List.mem_map.1 hc
  rfl
theorem ec_one (E : List Ie) (hE : ∀ e ∈ E, eOk e) : ∀ u ∈ (E.map ec).flatten, u.oneCell' = true := by
  intro u hu
  obtain ⟨c, hc, hu⟩ := List.mem_flatten.1 hu
  obtain ⟨e, he, rfl⟩ := List.mem_map.1 hc
  obtain ⟨⟨a, n, c, h1⟩, ⟨a', n', c', h2⟩⟩ := hE e he
  unfold ec ic at hu
  rw [h1, h2] at hu
  simp at hu
  rcases hu with rfl | rfl | rfl | rfl | rfl | rfl | rfl | rfl | rfl <;> rfl
/-- what is due -/
def dueE (E : List Ie) (now : Int) : List Ie := E.filter fun e => decide (e.1.du ≤ now)
def dueK (L : List It) (now : Int) : List Du := (L.filter fun x => decide (x.du ≤ now)).map fun x => (x.du, x.id)
theorem due_zip : ∀ (L : List It) (P : List (Value × Value)) (now : Int), P.length = L.length → (dueE (L.zip P) now).map ek = dueK L now
  | [], [], _, _ => rfl
  | x :: L, p :: P, now, h => by
    have := due_zip L P now (by simpa using h)
    unfold dueE dueK at *
    rw [List.zip_cons_cons]
    by_cases hd : x.du ≤ now
    · rw [List.filter_cons_of_pos (by simpa using hd), List.filter_cons_of_pos (by simpa using hd), List.map_cons, List.map_cons, this]; rfl
    · rw [List.filter_cons_of_neg (by simpa using hd), List.filter_cons_of_neg (by simpa using hd), this]
theorem due_take {E : List Ie} {now : Int} {k : Nat} (h : k < E.length) : dueE (E.take (k + 1)) now = dueE (E.take k) now ++ (if E[k].1.du ≤ now then [E[k]] else []) := by
  unfold dueE
  rw [List.take_succ_eq_append_getElem h, List.filter_append]
  by_cases hd : E[k].1.du ≤ now
  · rw [if_pos hd, List.filter_cons_of_pos (by simpa using hd)]; rfl
  · rw [if_neg hd, List.filter_cons_of_neg (by simpa using hd)]; rfl
theorem due_len (E : List Ie) (now : Int) : (dueE E now).length ≤ E.length := List.length_filter_le _ _
theorem zip_get {L : List It} {P : List (Value × Value)} (h : P.length = L.length) (k : Nat) (hk : k < L.length) : (L.zip P)[k]'(by simp; omega) = (L[k], P[k]'(by omega)) := by simp
theorem zip_ok {w : World} {lo : Nat} {v : Value} {L : List It} {P : List (Value × Value)} (h : ItsP w lo v L P) : ∀ e ∈ L.zip P, eOk e := by
  intro e he
  obtain ⟨k, hk, rfl⟩ := List.getElem_of_mem he
  have hk2 : k < L.length := by simp at hk; omega
  rw [zip_get h.len k hk2]
  obtain ⟨a, c, e1⟩ := strs_formR (h.str k hk2)
  obtain ⟨a', c', e2⟩ := vds_form (h.vds k hk2)
  exact ⟨⟨_, _, _, e1⟩, ⟨_, _, _, e2⟩⟩
theorem rwE_cells {w : World} {lo g m cap : Nat} {F : List Ie} (h : Rw 70 9 w lo (.slice (some ⟨g, 0, none⟩) m cap) (F.map ec)) (k : Nat) (hk : k < F.length) : ItC w g (k * 9) F[k].1 F[k].2.1 F[k].2.2 := by
  have hkr : k < (F.map ec).length := by simpa using hk
  have cl : ∀ j, j < 9 → w.cell? ⟨g, k * 9 + j, none⟩ = (ec F[k])[j]? := fun j hj => by
    rw [h.at.1.cell k hkr j hj, List.getElem_map]
  exact ⟨cl 0 (by decide), cl 1 (by decide), cl 2 (by decide), cl 3 (by decide), cl 4 (by decide), cl 5 (by decide), cl 6 (by decide), cl 7 (by decide), cl 8 (by decide)⟩
theorem rwE_news {w : World} {lo g m cap : Nat} {F : List Ie} (h : Rw 70 9 w lo (.slice (some ⟨g, 0, none⟩) m cap) (F.map ec)) (s n : Nat) (hn : s + n ≤ F.length) : ∀ j u, (((F.drop s).take n).map ec).flatten[j]? = some u → w.cell? ((⟨g, s * 9, none⟩ : Addr).add j) = some u := by
  intro j u hu
  have hnine := ec_nine ((F.drop s).take n)
  have hlen : (((F.drop s).take n).map ec).flatten.length = n * 9 := by rw [flat_len hnine]; simp; omega
  have hj : j < n * 9 := by rw [← hlen]; exact (List.getElem?_eq_some_iff.1 hu).1
  have hq : j / 9 < n := by omega
  have hr : j % 9 < 9 := by omega
  have e : j / 9 * 9 + j % 9 = j := by omega
  have h1 := flat_get hnine (j / 9) (j % 9) (by simp; omega) hr
  rw [e, hu] at h1
  have h2 := h.at.1.cell (s + j / 9) (by simp; omega) (j % 9) hr
  rw [Addr.add_lit, show s * 9 + j = (s + j / 9) * 9 + j % 9 by omega, h2, h1]
  simp
def lenQ : Value → Nat
  | .slice _ n _ => n
  | _ => 0
theorem gD_ek {F : List Ie} {k : Nat} (h : k < F.length) : gD (F.map ek) k = (F[k].1.du, F[k].1.id) := by rw [gD_get (by simpa using h), List.getElem_map]; rfl
theorem best_yes {F : List Ie} {k : Nat} (h : dLt (gD (F.map ek) k) (gD (F.map ek) (bestD (F.map ek) k))) : bestD (F.map ek) (k + 1) = k := by
  rw [bestD, if_pos h]
theorem best_no {F : List Ie} {k : Nat} (h : ¬ dLt (gD (F.map ek) k) (gD (F.map ek) (bestD (F.map ek) k))) : bestD (F.map ek) (k + 1) = bestD (F.map ek) k := by
  rw [bestD, if_neg h]

set_option maxHeartbeats 4000000 in
set_option maxRecDepth 100000 in
theorem specDue (v : Value) (nx now : Int) (L : List It) (P : List (Value × Value)) (lo : Nat) (w : World) (h : ItsP w lo v L P) (hL : L.length ≤ 1048576) :
    Calls Try.prog 14 #[.agg #[v, .int .i64 nx], .int .i64 now] w fun e w' => (∃ u, e = .returned u ∧ Ins w' w.heap.size u ((sortD (dueK L now)).map (·.2))) ∧ Below w.heap.size w w' := by
  have H : Hid (ItsP w lo v L P) := h
  have HK : Hid ((dueE (L.zip P) now).map ek = dueK L now) := due_zip L P now h.len
  have HO : Hid (∀ e ∈ L.zip P, eOk e) := zip_ok h
  have hPl := h.len
  have hEl : (L.zip P).length = L.length := by simp; omega
  obtain ⟨a1, c1, rfl⟩ := h.form
  clear h
  obtain ⟨i0, hinf, hx0, hx1, hx2⟩ := info_parts infoIt
  obtain ⟨j0, hjnf, hy0, hy1, hy2⟩ := info_parts infoInt
  go_enter Try.func14, Try.ntmps14
  go_wp2_with fail
  obtain ⟨E, hE⟩ : ∃ E, L.zip P = E := ⟨_, rfl⟩
  rw [hE] at HK HO hEl
  have HE : Hid (L.zip P = E) := hE
  clear hE
  generalize hW : w.alloc _ = W
  have hbW : Below w.heap.size w W := by rw [← hW]; exact below1 _ _
  have hWz : w.heap.size < W.heap.size := by rw [← hW]; simp
  clear hW
  go_loopw [5, 17] (fun lv kv wr => ∃ k : Nat, k ≤ L.length ∧ kv = .int .i64 k ∧ Hid (Rw 70 9 wr (w.heap.size + 1) lv ((dueE (E.take k) now).map ec)) ∧ Hid (Below w.heap.size w wr) ∧ w.heap.size < wr.heap.size) (fun _ kv _ => L.length - (intOf kv).toNat)
  case atStart => exact ⟨0, Nat.zero_le _, rfl, ⟨⟨by rfl, .inl ⟨rfl, rfl⟩⟩, fun c hc => by cases hc⟩, hbW, hWz⟩
  case round =>
    obtain ⟨k, hk, rfl, HR, HB, hz⟩ := hrel
    by_cases hlt : k < L.length
    · obtain ⟨g1, rfl, hg1⟩ : ∃ g, a1 = some ⟨g, 0, none⟩ ∧ g < w.heap.size := by
        rcases H.out.row.cases with ⟨_, hL0⟩ | ⟨g, cap, hv, hs⟩
        · have := congrArg List.length hL0; rw [irow_len H.out.len] at this; simp only [List.length_nil] at this; omega
        · injection hv with h1; exact ⟨g, h1, hs.lt⟩
      obtain ⟨x0, x1, x2, x3, x4, x5, x6, x7, x8⟩ := (H.out.cells k hlt).below HB.out hg1
      have hek : E[k]'(by omega) = (L[k], P[k]'(by omega)) := by
        have := zip_get H.out.len k hlt
        simp only [HE.out] at this
        exact this
      obtain ⟨p1, q1, e1⟩ := strs_formR (H.out.str k hlt)
      obtain ⟨p2, q2, e2⟩ := vds_form (H.out.vds k hlt)
      have HT : Hid (dueE (E.take (k + 1)) now = dueE (E.take k) now ++ (if L[k].du ≤ now then [(L[k], P[k]'(by omega))] else [])) := by
        have := due_take (now := now) (E := E) (k := k) (by omega)
        rw [hek] at this
        exact this
      rw [e1] at x3
      rw [e2] at x5
      have hpe : P[k]'(by omega) = (.slice p1 L[k].R.length q1, .slice p2 L[k].V.length q2) := by
        rw [← e1, ← e2]
      rw [hpe] at HT
      clear e1 e2 hpe hek
      generalize L[k] = X at *
      obtain ⟨a5, c5, hf⟩ := HR.out.form
      rename_i lv
      subst hf
      by_cases hd : X.du ≤ now
      · rw [if_pos hd] at HT
        have hlen : ((dueE (E.take k) now).map ec).length ≤ 1048576 := by
          have := due_len (E.take k) now
          simp at this ⊢; omega
        have hlo := fun g hg => (HR.out.own g hg).1
        have Hlo : Hid (∀ g, (Value.slice a5 ((dueE (E.take k) now).map ec).length c5).ownBlock = some g → w.heap.size + 1 ≤ g) := hlo
        clear hlo
        generalize hC : (dueE (E.take k) now).map ec = C at *
        go_wp2_with (at_builtin; refine wpList_append_lies _ rfl _ _ 40 rfl (w.heap.size + 1) 70 i0 (.agg #[.int .i64 0, .int .i64 0, .string ⟨#[]⟩, .slice none 0 0, .string ⟨#[]⟩, .slice none 0 0, .int .i64 0, .int .i64 0, .bool false]) 9 120 Try.underlying40 hinf hx0 hx1 hx2 rfl (by decide) _ _ _ rfl ((HR.out.1.alloc _).alloc _) ⟨wr.heap.size + 1, 0, none⟩ 1 1 [.int .i64 X.id, .int .i64 X.born, .string X.fr, .slice p1 X.R.length q1, .string X.bo, .slice p2 X.V.length q2, .int .i64 X.tr, .int .i64 X.du, .bool X.bn] rfl rfl ?c1 ?c2 (by decide) ?c4 ?c5 ?c6 (wr.heap.size + 2) ?c7 ?_)
        case c1 =>
          intro j u hj
          exact World.news_of_block (lk_newW _ _ _ (by simp)) j u (by simpa using hj)
        case c2 => intro u hu; simp at hu; rcases hu with rfl | rfl | rfl | rfl | rfl | rfl | rfl | rfl | rfl <;> rfl
        case c4 => unfold maxLen; omega
        case c5 => omega
        case c6 => simp; omega
        case c7 => simp
        intro g cap w7 hown hgrow hat hlt7
        have HT2 : Hid ((dueE (E.take (k + 1)) now).map ec = C ++ [ec (X, .slice p1 X.R.length q1, .slice p2 X.V.length q2)]) := by
          show _ = _
          rw [HT.out, List.map_append, hC]; rfl
        have HR7 : Hid (Rw 70 9 w7 (w.heap.size + 1) (.slice (some ⟨g, 0, none⟩) (C.length + 1) cap) (C ++ [ec (X, .slice p1 X.R.length q1, .slice p2 X.V.length q2)])) := Rw.snoc HR.out.2 rfl hown
        have HB7 : Hid (Below w.heap.size w w7) := ((HB.out.alloc HB.out.size _).alloc (by simp; omega) _).grown hgrow (by simp; omega) (fun g hg => by have := Hlo.out g hg; omega)
        have hz7 : w.heap.size < w7.heap.size := by have := hgrow.size; simp at this; omega
        clear hown hgrow hat x0 x1 x2 x3 x4 x5 x6 x7 x8
        go_wp2
        go_roundw
        case rel => exact ⟨k + 1, by omega, by go_num, by rw [HT2.out]; exact HR7, HB7, hz7⟩
        case measure => simp [intOf]; omega
      · rw [if_neg hd, List.append_nil] at HT
        go_wp2
        go_roundw
        case rel =>
          refine ⟨k + 1, by omega, by go_num, ?_, HB.out.alloc HB.out.size _, by simp; omega⟩
          rw [HT.out]
          exact HR.out.below (below1 _ _) (Nat.le_refl _)
        case measure => simp [intOf]; omega
    · obtain rfl : k = L.length := by omega
      have HR0 : Hid (Rw 70 9 wr (w.heap.size + 1) u5 ((dueE E now).map ec)) := by
        have := HR.out
        rw [List.take_of_length_le (by omega)] at this
        exact this
      have hl0 : (dueE E now).length ≤ 1048576 := by have := due_len E now; omega
      have HO0 : Hid (∀ e ∈ dueE E now, eOk e) := fun e he => HO.out e (List.mem_filter.1 he).1
      have HT0 : Hid ((sortD ((dueE E now).map ek)).map (·.2) = (sortD (dueK L now)).map (·.2)) := by show _ = _; rw [HK.out]
      clear HR HK HO HE hlt
      generalize dueE E now = E0 at *
      obtain ⟨G, HGG⟩ : ∃ G, Hid ((sortD (dueK L now)).map (·.2) = G) := ⟨_, rfl⟩
      rw [HGG.out] at HT0
      obtain ⟨wq, hwq⟩ : ∃ wq : World, wq = wr := ⟨wr, rfl⟩
      subst hwq
      go_wp2_with fail
      go_loopw [5, 8] (fun lv ov wr => ∃ (F : List Ie) (O : List Int), lenQ lv = F.length ∧ O.length + F.length ≤ 1048576 ∧ Hid (Rw 70 9 wr (w.heap.size + 1) lv (F.map ec)) ∧ Hid (Ins wr (w.heap.size + 1) ov O) ∧ Hid (O ++ (sortD (F.map ek)).map (·.2) = G) ∧ Hid (∀ e ∈ F, eOk e) ∧ Hid (Below w.heap.size w wr) ∧ w.heap.size < wr.heap.size) (fun lv _ _ => lenQ lv)
      case atStart =>
        refine ⟨E0, [], ?_, by simpa using hl0, HR0, ⟨by rfl, .inl ⟨rfl, rfl⟩⟩, HT0, HO0, HB, hz⟩
        obtain ⟨a, c, e⟩ := HR0.out.form
        show lenQ u5 = _
        rw [e]; simp [lenQ]
      case round =>
        obtain ⟨F, O, hlv, hlen, HRF, HI, HG, HOF, HB2, hz2⟩ := hrel
        obtain ⟨ao, co, hov⟩ : ∃ a c, u8 = .slice a O.length c := by
          rcases HI.out.cases with ⟨h1, h2⟩ | ⟨g, cap, h1, _⟩
          · subst h2; exact ⟨_, _, h1⟩
          · exact ⟨_, _, h1⟩
        subst hov
        by_cases h0 : F.length = 0
        · have hF := List.eq_nil_of_length_eq_zero h0
          subst hF
          obtain ⟨a5, c5, hf⟩ := HRF.out.form
          subst hf
          have hG := HG.out
          simp only [List.map_nil, sortD_nil, List.append_nil] at hG
          have HGO : Hid (O = G) := hG
          clear hG
          go_wp2
          go_ret
          refine ⟨⟨_, rfl, ?_⟩, HB2.out⟩
          rw [HGG.out, ← HGO.out]
          exact ins_le HI.out (by omega)
        · obtain ⟨g, cap, hf, hgR⟩ : ∃ g cap, u5 = .slice (some ⟨g, 0, none⟩) F.length cap ∧ RwAt 9 wr (w.heap.size + 1) g cap (F.map ec) := by
            rcases HRF.out.cases with ⟨_, h1⟩ | ⟨g, cap, h1, h2⟩
            · have := congrArg List.length h1; simp only [List.length_map, List.length_nil] at this; exact absurd this h0
            · rw [List.length_map] at h1; exact ⟨g, cap, h1, h2⟩
          subst hf
          have hg := hgR.lt
          have hglo := hgR.lo
          have hcap := hgR.len
          have hcapm := hgR.capm
          unfold maxLen at hcapm
          rw [List.length_map] at hcap
          clear hgR hlv
          have h0' : 0 < F.length := by omega
          obtain ⟨wz, hwz⟩ : ∃ wz : World, wz = wr := ⟨wr, rfl⟩
          subst hwz
          have HOK : Hid (∀ k (hk : k < F.length), ∃ r1 n1 s1 r2 n2 s2, F[k].2 = (.slice r1 n1 s1, .slice r2 n2 s2)) := by
            intro k hk
            obtain ⟨⟨a, n, c, h1⟩, ⟨a', n', c', h2⟩⟩ := HOF.out F[k] (List.getElem_mem _)
            exact ⟨a, n, c, a', n', c', Prod.ext h1 h2⟩
          go_wp2_with fail
          go_loopw [9, 35] (fun bv iv wr => ∃ k : Nat, k ≤ F.length ∧ iv = .int .i64 k ∧ bv = .int .i64 (bestD (F.map ek) k : Int) ∧ Hid (Below wz.heap.size wz wr)) (fun _ iv _ => F.length - (intOf iv).toNat)
          case atStart => exact ⟨0, Nat.zero_le _, rfl, rfl, Below.refl _ _⟩
          case round =>
            obtain ⟨k, hk, rfl, rfl, HB3⟩ := hrel
            have hbl := bestD_lt (L := F.map ek) (by simpa using h0') k (by simpa using hk)
            rw [List.length_map] at hbl
            by_cases hlt : k < F.length
            · obtain ⟨x0, x1, x2, x3, x4, x5, x6, x7, x8⟩ := (rwE_cells HRF.out k hlt).below HB3.out hg
              obtain ⟨y0, y1, y2, y3, y4, y5, y6, y7, y8⟩ := (rwE_cells HRF.out (bestD (F.map ek) k) hbl).below HB3.out hg
              obtain ⟨r1, n1, s1, r2, n2, s2, hp⟩ := HOK.out k hlt
              obtain ⟨r3, n3, s3, r4, n4, s4, hp2⟩ := HOK.out (bestD (F.map ek) k) hbl
              rw [hp] at x3 x5
              rw [hp2] at y3 y5
              have HY : Hid (dLt (F[k].1.du, F[k].1.id) (F[bestD (F.map ek) k].1.du, F[bestD (F.map ek) k].1.id) → bestD (F.map ek) (k + 1) = k) := fun hd => best_yes (by rw [gD_ek hlt, gD_ek hbl]; exact hd)
              have HN : Hid (¬ dLt (F[k].1.du, F[k].1.id) (F[bestD (F.map ek) k].1.du, F[bestD (F.map ek) k].1.id) → bestD (F.map ek) (k + 1) = bestD (F.map ek) k) := fun hd => best_no (by rw [gD_ek hlt, gD_ek hbl]; exact hd)
              clear hp hp2
              generalize F[k].1 = X at *
              generalize F[bestD (F.map ek) k].1 = Y at *
              have hbl2 : ((bestD (F.map ek) k : Nat) : Int) < (F.length : Int) := by omega
              have hgr : g < wr.heap.size := Nat.lt_of_lt_of_le hg HB3.out.size
              have HE3 : Hid (∀ (r : Nat) (wx : World), bestD (F.map ek) (k + 1) = r → Below wr.heap.size wr wx → ∃ j : Nat, j ≤ F.length ∧ Value.int .i64 ((k : Int) + 1) = .int .i64 j ∧ Value.int .i64 (r : Int) = .int .i64 (bestD (F.map ek) j : Int) ∧ Hid (Below wz.heap.size wz wx)) :=
                fun r wx hr hx => ⟨k + 1, by omega, by go_num, by rw [hr], HB3.out.trans (hx.mono HB3.out.size)⟩
              generalize bestD (F.map ek) k = b at *
              unfold dLt at HY HN
              dsimp only at HY HN
              by_cases t1 : X.du < Y.du
              · have hr := HY.out (.inl t1)
                go_wp2
                go_roundw
                case rel => exact HE3.out k _ hr (below2 _ _ _)
                case measure => simp [intOf]; omega
              · by_cases t2 : X.du = Y.du
                · have t2b : (X.du == Y.du) = true := beq_iff_eq.2 t2
                  by_cases t3 : X.id < Y.id
                  · have hr := HY.out (.inr ⟨t2, t3⟩)
                    clear t2
                    go_wp2
                    go_roundw
                    case rel => exact HE3.out k _ hr (below2 _ _ _)
                    case measure => simp [intOf]; omega
                  · have hr := HN.out (by omega)
                    clear t2
                    go_wp2
                    go_roundw
                    case rel => exact HE3.out b _ hr (below2 _ _ _)
                    case measure => simp [intOf]; omega
                · have t2b : (X.du == Y.du) = false := beq_eq_false_iff_ne.2 t2
                  have hr := HN.out (by omega)
                  go_wp2
                  go_roundw
                  case rel => exact HE3.out b _ hr (below2 _ _ _)
                  case measure => simp [intOf]; omega
            · obtain rfl : k = F.length := by omega
              have HSel : Hid (sortD (F.map ek) = gD (F.map ek) (bestD (F.map ek) F.length) :: sortD ((F.take (bestD (F.map ek) F.length) ++ F.drop (bestD (F.map ek) F.length + 1)).map ek)) := by
                have := sel_sort (L := F.map ek) (by simpa using h0')
                rw [List.length_map] at this
                rw [List.map_append, List.map_take, List.map_drop]
                exact this
              generalize bestD (F.map ek) F.length = b at *
              rw [gD_ek hbl] at HSel
              obtain ⟨x0, x1, x2, x3, x4, x5, x6, x7, x8⟩ := (rwE_cells HRF.out b hbl).below HB3.out hg
              have HRF3 : Hid (Rw 70 9 wr (w.heap.size + 1) (.slice (some ⟨g, 0, none⟩) F.length cap) (F.map ec)) := HRF.out.below HB3.out (Nat.le_refl _)
              have HI3 : Hid (Ins wr (w.heap.size + 1) (.slice ao O.length co) O) := ins_below HI.out HB3.out (Nat.le_refl _)
              have HB4 : Hid (Below w.heap.size w wr) := HB2.out.trans (HB3.out.mono HB2.out.size)
              have hz3 : w.heap.size < wr.heap.size := Nat.lt_of_lt_of_le hz2 HB3.out.size
              have hgz : g < wr.heap.size := Nat.lt_of_lt_of_le hg HB3.out.size
              have hbl2 : ((b : Nat) : Int) < (F.length : Int) := by omega
              clear HRF HI HB2 HB3 x1 x2 x3 x4 x5 x6 x7 x8
              have hlo : Hid (∀ g', (Value.slice ao O.length co).ownBlock = some g' → w.heap.size + 1 ≤ g') := fun g' hg' => ins_lo HI3.out g' hg'
              have hne : Hid (∀ a c, (Value.slice ao O.length co).ownBlock = some a → (Value.slice (some ⟨g, 0, none⟩) F.length cap).ownBlock = some c → a ≠ c) := row_apart HI3.out HRF3.out.1 (by decide)
              generalize hd : F[b].1.id = d at *
              go_wp2_with (at_builtin; refine wpList_append_lies _ rfl _ _ 38 rfl (w.heap.size + 1) 3 j0 (.int .i64 0) 1 8 Try.underlying38 hjnf hy0 hy1 hy2 rfl (by decide) _ _ _ rfl (World.ownsRow.alloc HI3.out _) ⟨wr.heap.size, 0, none⟩ 1 1 [.int .i64 d] rfl rfl ?e1 ?e2 (by decide) ?e4 ?e5 ?e6 (wr.heap.size + 1) ?e7 ?_)
              case e1 =>
                intro j u hj
                exact World.news_of_block (lk_newW _ _ _ rfl) j u (by simpa using hj)
              case e2 => intro u hu; simp at hu; subst hu; rfl
              case e4 => unfold maxLen; omega
              case e5 => omega
              case e6 => simp; omega
              case e7 => simp
              intro g2 cap2 w7 hown hgrow hat hlt7
              have HI7 : Hid (Ins w7 (w.heap.size + 1) (.slice (some ⟨g2, 0, none⟩) (O.length + 1) cap2) (O ++ [d])) := ins_snoc hown
              have hb7 : Below (w.heap.size + 1) wr w7 := ((Below.refl (w.heap.size + 1) wr).alloc (by omega) _).grown hgrow (by simp; omega) hlo.out
              have HB7 : Hid (Below w.heap.size w w7) := HB4.out.trans (hb7.mono (by omega))
              have HR7 : Hid (Rw 70 9 w7 (w.heap.size + 1) (.slice (some ⟨g, 0, none⟩) F.length cap) (F.map ec)) := by
                refine (HRF3.out.below (below1 wr _) (Nat.le_refl _)).off (OffL.ofGrown (vs := [.slice ao O.length co]) hgrow (by simp)) fun a ha u hu => ?_
                simp only [List.mem_singleton] at hu
                subst hu
                intro e
                exact hne.out a a e ha rfl
              have hz7 : w.heap.size < w7.heap.size := Nat.lt_of_lt_of_le hz3 hb7.size
              have hg7 : g < w7.heap.size := HR7.out.at.1.lt
              clear hown hgrow hat hb7 HI3 HRF3 HB4 x0
              go_upto_region 20 with fail
              have hF9 : Hid (∀ j u, (((F.drop 0).take b).map ec).flatten[j]? = some u → w7.cell? ((⟨g, 0 * 9, none⟩ : Addr).add j) = some u) := rwE_news HR7.out 0 b (by omega)
              have hG9 : Hid (∀ wx, Below w7.heap.size w7 wx → ∀ j u, (((F.drop (b + 1)).take (F.length - (b + 1))).map ec).flatten[j]? = some u → wx.cell? ((⟨g, (b + 1) * 9, none⟩ : Addr).add j) = some u) := fun wx hx => rwE_news (HR7.out.below hx (Nat.le_refl _)) (b + 1) (F.length - (b + 1)) (by omega)
              have HO1 : Hid (∀ u ∈ (((F.drop 0).take b).map ec).flatten, u.oneCell' = true) := ec_one _ fun e he => HOF.out e (List.mem_of_mem_drop (List.mem_of_mem_take he))
              have HO2 : Hid (∀ u ∈ (((F.drop (b + 1)).take (F.length - (b + 1))).map ec).flatten, u.oneCell' = true) := ec_one _ fun e he => HOF.out e (List.mem_of_mem_drop (List.mem_of_mem_take he))
              go_wp2_with (at_builtin; refine wpList_append_own _ rfl _ _ 40 rfl w7.heap.size 70 i0 (.agg #[.int .i64 0, .int .i64 0, .string ⟨#[]⟩, .slice none 0 0, .string ⟨#[]⟩, .slice none 0 0, .int .i64 0, .int .i64 0, .bool false]) 9 120 Try.underlying40 hinf hx0 hx1 hx2 rfl (by decide) (.slice none 0 0) 0 [] rfl ⟨by rfl, .inl ⟨rfl, rfl⟩⟩ ⟨g, 0, none⟩ b cap (((F.drop 0).take b).map ec).flatten rfl ?f1 hF9.out HO1.out ?f4 ?f5 (Nat.le_refl _) ?_)
              case f1 => rw [flat_len (ec_nine _)]; simp; omega
              case f4 => unfold maxLen; omega
              case f5 => omega
              intro v8 w8 hown hgrow _
              obtain ⟨a8, c8, hv8⟩ : ∃ a c, v8 = .slice a b c := by
                rcases hown.2 with ⟨hv, h0⟩ | ⟨g', cap', cur, hv, _⟩
                · have : b = 0 := by omega
                  subst this; exact ⟨_, _, hv⟩
                · exact ⟨_, _, by simpa using hv⟩
              subst hv8
              have hb8 : Below w7.heap.size w7 w8 := (Below.refl w7.heap.size w7).grown hgrow (Nat.le_refl _) (by intro k hk; cases hk)
              have HR8 : Hid (w8.ownsRow w7.heap.size 70 9 (.slice a8 b c8) b (((F.drop 0).take b).map ec).flatten) := by
                show World.ownsRow _ _ _ _ _ _ _
                simpa using hown
              have H9 := hG9.out w8 hb8
              have HI8 : Hid (Ins w8 (w.heap.size + 1) (.slice (some ⟨g2, 0, none⟩) (O.length + 1) cap2) (O ++ [d])) := ins_below HI7.out hb8 (Nat.le_refl _)
              have HB8 : Hid (Below w.heap.size w w8) := HB7.out.trans (hb8.mono (by omega))
              have hz8 : w7.heap.size ≤ w8.heap.size := hb8.size
              have h8lo : Hid (∀ a, (Value.slice a8 b c8).ownBlock = some a → w7.heap.size ≤ a ∧ a < w8.heap.size) := row_lt HR8.out
              have hbi1 : (b : Int) + 1 ≤ (F.length : Int) := by omega
              have hbi2 : (F.length : Int) ≤ (cap : Int) := by omega
              clear hown hgrow hF9 HO1 hG9
              have HFin : Hid (∀ (v9 : Value) (w9 : World), w9.ownsRow w7.heap.size 70 9 v9 (b + (F.length - (b + 1))) ((((F.drop 0).take b).map ec).flatten ++ (((F.drop (b + 1)).take (F.length - (b + 1))).map ec).flatten) → w8.grownBy w9 (Value.slice a8 b c8).ownBlock → ∃ (F' : List Ie) (O' : List Int), lenQ v9 = F'.length ∧ O'.length + F'.length ≤ 1048576 ∧ Hid (Rw 70 9 w9 (w.heap.size + 1) v9 (F'.map ec)) ∧ Hid (Ins w9 (w.heap.size + 1) (.slice (some ⟨g2, 0, none⟩) (O.length + 1) cap2) O') ∧ Hid (O' ++ (sortD (F'.map ek)).map (·.2) = G) ∧ Hid (∀ e ∈ F', eOk e) ∧ Hid (Below w.heap.size w w9) ∧ w.heap.size < w9.heap.size ∧ lenQ v9 < F.length) := by
                intro v9 w9 h9 hg9
                have hs : (F.drop (b + 1)).take (F.length - (b + 1)) = F.drop (b + 1) := List.take_of_length_le (by simp)
                rw [hs, List.drop_zero, ← List.flatten_append, ← List.map_append] at h9
                have hl : (F.take b ++ F.drop (b + 1)).length = b + (F.length - (b + 1)) := by simp; omega
                rw [← hl] at h9
                have hb9 : Below w7.heap.size w8 w9 := (Below.refl w7.heap.size w8).grown hg9 hz8 (fun k hk => (h8lo.out k hk).1)
                have hbo : Below w.heap.size w8 w9 := hb9.mono (by omega)
                have hRw : Rw 70 9 w9 w7.heap.size v9 ((F.take b ++ F.drop (b + 1)).map ec) := ⟨by rw [List.length_map]; exact h9, ec_nine _⟩
                obtain ⟨a9, c9, hv9⟩ := hRw.form
                have hlq : lenQ v9 = (F.take b ++ F.drop (b + 1)).length := by rw [hv9]; simp [lenQ]
                refine ⟨F.take b ++ F.drop (b + 1), O ++ [d], hlq, ?_, hRw.le (by omega), ?_, ?_, ?_, HB8.out.trans hbo, ?_, ?_⟩
                · simp; omega
                · exact row_belowB HI8.out hb9 (fun a ha => by have := (row_lt HI7.out a ha).2; omega)
                · show _ = _
                  rw [← HG.out, HSel.out, List.map_cons, List.append_assoc]; rfl
                · intro e he
                  rcases List.mem_append.1 he with he | he
                  · exact HOF.out e (List.mem_of_mem_take he)
                  · exact HOF.out e (List.mem_of_mem_drop he)
                · exact Nat.lt_of_lt_of_le (by omega) hb9.size
                · rw [hlq, hl]; omega
              clear HI8 HB8 h8lo HG HSel HOF HI7 HB7 HR7
              by_cases hcb : cap = b + 1
              · have hFb : F.length - (b + 1) = 0 := by omega
                rw [hFb] at HFin
                simp only [List.take_zero, List.map_nil, List.flatten_nil, List.append_nil, Nat.add_zero] at HFin
                have hFl : F.length = b + 1 := by omega
                go_wp2_with (at_builtin; refine wpList_append_own _ rfl _ _ 40 rfl w7.heap.size 70 i0 (.agg #[.int .i64 0, .int .i64 0, .string ⟨#[]⟩, .slice none 0 0, .string ⟨#[]⟩, .slice none 0 0, .int .i64 0, .int .i64 0, .bool false]) 9 120 Try.underlying40 hinf hx0 hx1 hx2 rfl (by decide) (.slice a8 b c8) b _ rfl HR8.out ⟨g, 0, none⟩ 0 0 [] rfl rfl (fun j u hj => by simp at hj) (fun u hu => by cases hu) ?k4 ?k5 hz8 ?_)
                case k4 => unfold maxLen; omega
                case k5 => omega
                intro v9 w9 hown9 hgrow9 _
                obtain ⟨F', O', r1, r2, r3, r4, r5, r6, r7, r8, r9⟩ := HFin.out v9 w9 (by simpa using hown9) hgrow9
                clear hown9 hgrow9
                go_wp2
                go_roundw
                case rel => exact ⟨F', O', r1, r2, r3, r4, r5, r6, r7, r8⟩
                case measure => exact r9
              · go_wp2_with (at_builtin; refine wpList_append_own _ rfl _ _ 40 rfl w7.heap.size 70 i0 (.agg #[.int .i64 0, .int .i64 0, .string ⟨#[]⟩, .slice none 0 0, .string ⟨#[]⟩, .slice none 0 0, .int .i64 0, .int .i64 0, .bool false]) 9 120 Try.underlying40 hinf hx0 hx1 hx2 rfl (by decide) (.slice a8 b c8) b _ rfl HR8.out ⟨g, (b + 1) * 9, none⟩ (F.length - (b + 1)) (cap - (b + 1)) (((F.drop (b + 1)).take (F.length - (b + 1))).map ec).flatten rfl ?m1 H9 HO2.out ?m4 ?m5 hz8 ?_)
                case m1 => rw [flat_len (ec_nine _)]; simp
                case m4 => unfold maxLen; omega
                case m5 => omega
                intro v9 w9 hown9 hgrow9 _
                obtain ⟨F', O', r1, r2, r3, r4, r5, r6, r7, r8, r9⟩ := HFin.out v9 w9 (by rw [List.map_take, List.map_drop, List.map_take, List.map_drop, List.drop_zero]; exact hown9) hgrow9
                clear hown9 hgrow9
                go_wp2
                go_roundw
                case rel => exact ⟨F', O', r1, r2, r3, r4, r5, r6, r7, r8⟩
                case measure => exact r9
end Go.Proofs.Ythblkfdgibonbaa
