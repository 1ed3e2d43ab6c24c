import Derived.Test.YtngcjlghjidnjaaGreatDoorMg21
import Derived.Test.YtngcjlghjidnjaaGreatDoorMg8
import Derived.Test.YtngcjlghjidnjaaGreatDoorMg34
import Derived.Test.YtngcjlghjidnjaaGreatDoorMg28
namespace Go.Proofs.YtngcjlghjidnjaaGreatDoor
open Go.ChangeShapes Go.WideShapes Go.ChangeAt Go.RowKit

theorem vrow_snoc (L : List Vd) (v : Vd) : vrow (L ++ [v]) = vrow L ++ vcells v := by unfold vrow; simp

set_option maxHeartbeats 4000000 in
set_option maxRecDepth 100000 in
theorem specOpen (he fr bo : ByteArray) (v : Value) (L : List ByteArray) (w : World) (h : ArgS w v L) (hh : he.size ≤ 1048576) (hf : fr.size ≤ 1048576) (hs : ∀ s ∈ L, s.size ≤ 1048576) (hbo : bo.size ≤ 1048576) :
    Calls Tryz.prog 7 #[.string he, .string fr, v, .string bo] w fun e w' => OpenPost he fr bo L w e w' := by
  have HA : Hid (ArgS w v L) := h
  have HS : Hid (∀ s ∈ L, s.size ≤ 1048576) := hs
  obtain ⟨a, c, rfl⟩ := h.form
  clear h hs
  have hd : domOk he = false ∨ domOk he = true := by cases domOk he <;> simp
  rcases hd with hd | hd
  · go_enter Tryz.func7, Tryz.ntmps7
    go_wp2_with fail
    refine (specDomain he _ hh).mono ?_
    rw [hd]
    rintro e w1 ⟨rfl, hb1⟩
    obtain ⟨g0, g1, g2, g3, g4, g5, g6, g7, g8, f0, f1, f2, f3, f4, f5, f6, f7, f8, hrz⟩ := resZ_of (by simpa using hb1)
    go_wp2
    refine bodyPost_ret (v := .agg #[.int .i64 9, .string ⟨#[]⟩, .string ⟨#[]⟩, .string ⟨#[]⟩, .string ⟨#[]⟩, .slice none 0 0, .int .i64 0, .slice none 0 0, .slice none 0 0]) (by simp [results, Tryz.results7, go_sem, g0, g1, g2, g3, g4, g5, g6, g7, g8]) rfl (open_no (by unfold openOk; rw [hd]; rfl) ?_)
    repeat (refine Below.setCell ?_ (by simp) _)
    exact (below1 w _).trans (hb1.mono (by simp))
  · go_enter Tryz.func7, Tryz.ntmps7
    go_wp2_with fail
    refine (specDomain he _ hh).mono ?_
    rw [hd]
    rintro e w1 ⟨rfl, hb1⟩
    have b1 : Below w.heap.size w w1 := (below1 w _).trans (hb1.mono (by simp))
    go_wp2_with fail
    refine (specWhom fr _ L _ (HA.out.below b1) hf HS.out).mono ?_
    rintro e w2 ⟨rfl, hb2⟩
    have b2 : Below w.heap.size w w2 := b1.trans (hb2.mono b1.size)
    have b02 := hb1.trans (hb2.mono hb1.size)
    clear hb1 hb2 b1
    cases hm : whomN fr L
    · obtain ⟨g0, g1, g2, g3, g4, g5, g6, g7, g8, f0, f1, f2, f3, f4, f5, f6, f7, f8, hrz⟩ := resZ_of (by simpa using b02)
      go_wp2
      refine bodyPost_ret (v := .agg #[.int .i64 9, .string ⟨#[]⟩, .string ⟨#[]⟩, .string ⟨#[]⟩, .string ⟨#[]⟩, .slice none 0 0, .int .i64 0, .slice none 0 0, .slice none 0 0]) (by simp [results, Tryz.results7, go_sem, g0, g1, g2, g3, g4, g5, g6, g7, g8]) rfl (open_no (by unfold openOk; rw [hm]; simp) ?_)
      repeat (refine Below.setCell ?_ (by simp) _)
      exact b2
    · go_wp2_with fail
      refine (specBody bo _ hbo).mono ?_
      rintro e w3 ⟨rfl, hb3⟩
      have b3 : Below w.heap.size w w3 := b2.trans (hb3.mono b2.size)
      have b03 := b02.trans (hb3.mono b02.size)
      have hrz3 := resZ_of (by simpa using b03)
      clear hb3 b2 b02
      cases hbk : bodyOk bo
      · obtain ⟨g0, g1, g2, g3, g4, g5, g6, g7, g8, f0, f1, f2, f3, f4, f5, f6, f7, f8, hrz⟩ := hrz3
        go_wp2
        refine bodyPost_ret (v := .agg #[.int .i64 9, .string ⟨#[]⟩, .string ⟨#[]⟩, .string ⟨#[]⟩, .string ⟨#[]⟩, .slice none 0 0, .int .i64 0, .slice none 0 0, .slice none 0 0]) (by simp [results, Tryz.results7, go_sem, g0, g1, g2, g3, g4, g5, g6, g7, g8]) rfl (open_no (by unfold openOk; rw [hbk]; simp) ?_)
        repeat (refine Below.setCell ?_ (by simp) _)
        exact b3
      · have hw : 1 ≤ L.length ∧ L.length ≤ 20 := by
          unfold whomN at hm
          simp only [Bool.and_eq_true, decide_eq_true_eq] at hm
          exact ⟨hm.2.1, hm.2.2.1⟩
        obtain ⟨b, off, cap, hv, hbw, hcell⟩ := HA.out.some hw.1
        injection hv with hv1 hv2 hv3
        subst hv1 hv3
        have HC : Hid (∀ i (hi : i < L.length), w.cell? ⟨b, off + i, none⟩ = some (.string L[i])) := hcell
        have hOK : openOk he fr bo L = true := by unfold openOk; rw [hd, hm, hbk]; rfl
        obtain ⟨i0, hi, hz0, hz1, hz2⟩ := info_parts infoStr
        obtain ⟨j0, hj, hy0, hy1, hy2⟩ := info_parts infoBool
        obtain ⟨k0, hk, hx0, hx1, hx2⟩ := info_parts infoVd
        have hlw : w.heap.size < w3.heap.size := by have := b03.size; simp at this; omega
        have HI : Hid (SpO w w3.heap.size he fr bo (.slice none 0 0) (.slice none 0 0) (.slice none 0 0) [] [] [] (w3.alloc (.cells #[.int .i64 1, .string ⟨#[]⟩, .string he, .string fr, .string bo, .slice none 0 0, .int .i64 0, .slice none 0 0, .slice none 0 0] 29))) := by
          have c : ∀ i, (w3.alloc (.cells #[.int .i64 1, .string ⟨#[]⟩, .string he, .string fr, .string bo, .slice none 0 0, .int .i64 0, .slice none 0 0, .slice none 0 0] 29)).cell? ⟨w3.heap.size, i, none⟩ = (#[.int .i64 1, .string ⟨#[]⟩, .string he, .string fr, .string bo, .slice none 0 0, .int .i64 0, .slice none 0 0, .slice none 0 0] : Array Value)[i]? := fun i => World.cell?_alloc_mark _ _ _ _ _
          exact ⟨hrz3.off (OffL.of_below (vs := []) (below1 w3 _)) hlw (fun v hv => by cases hv), hlw, by simp, c 0, c 1, c 2, c 3, c 4, c 5, c 6, c 7, c 8, fun o => World.frozen?_alloc_at _ _ _ _ rfl, World.ownsRow_nil _ _ _ _, World.ownsRow_nil _ _ _ _, World.ownsRow_nil _ _ _ _, by simp [Apart3, Value.ownBlock], b3.trans ((below1 w3 _).mono b3.size)⟩
        clear hcell hd hm hbk hrz3
        go_wp2_with fail
        generalize hW0 : w3.alloc _ = W0 at *
        generalize w3.heap.size = sb at *
        clear hW0
        go_loopw [33] (fun iv wr => ∃ (k : Nat) (a1 a2 a3 : Option Addr) (c1 c2 c3 : Nat), k ≤ L.length ∧ iv = .int .i64 k ∧ Hid (SpO w sb he fr bo (.slice a1 k c1) (.slice a2 k c2) (.slice a3 k c3) (L.take k) (List.replicate k false) (List.replicate k vd0) wr)) (fun iv _ => L.length - (intOf iv).toNat)
        case atStart => exact ⟨0, none, none, none, 0, 0, 0, Nat.zero_le _, rfl, HI⟩
        case round =>
          obtain ⟨k, a1, a2, a3, c1, c2, c3, hkl, rfl, H⟩ := hrel
          by_cases hlt : k < L.length
          · have H0 := H
            have ec := (H.out.bel.cell (p := ⟨b, off + k, none⟩) hbw).trans (HC.out k hlt)
            have HT1 : Hid (L.take (k + 1) = L.take k ++ [L[k]]) := by show _ = _; rw [List.take_succ_eq_append_getElem hlt]
            have HT2 : Hid ((L.take k).length = k) := by show _ = _; rw [List.length_take]; omega
            generalize L[k] = X at *
            have hown1 : wr.ownsRow (sb + 1) 9 1 (.slice a1 k c1) k ((L.take k).map Value.string) := by
              have := H0.out.s1
              unfold Strs at this
              rw [HT2.out] at this
              exact this
            have hl1 : sb < wr.heap.size := H0.out.lt
            have e1 := H0.out.c5
            go_wp2_with (at_builtin; refine wpList_append_lies _ rfl _ _ 23 rfl (sb + 1) 9 i0 (.string ⟨#[]⟩) 1 16 Tryz.underlying23 hi hz0 hz1 hz2 rfl (by decide) _ _ _ rfl (hown1.alloc _) ⟨wr.heap.size, 0, none⟩ 1 1 [.string X] rfl rfl ?c1 ?c2 ?c3 ?c4 ?c5 ?c6 (wr.heap.size + 1) ?c7 ?_)
            case c1 =>
              intro j u hj
              match j, hj with
              | 0, hj => simp at hj; subst hj; simp [Addr.add]
            case c2 => intro u hu; simp at hu; subst hu; rfl
            case c3 => decide
            case c4 => unfold maxLen; omega
            case c5 => omega
            case c6 => simp; omega
            case c7 => simp
            intro p1 q1 w1 hown1' hgrow1 hat1 hlt1
            have ho1 : OffL [(.slice a1 k c1)] wr w1 := (OffL.of_below (below1 wr _)).trans (OffL.ofGrown hgrow1 (by simp))
            have hlo1 : ∀ v ∈ ([(.slice a1 k c1)] : List Value), v.ownBlock ≠ some sb := fun v hv e => by
              rw [List.mem_singleton.1 hv] at e
              have := (hown1.lt sb e).1
              omega
            have e1' := (ho1.cell hl1 hlo1).trans e1
            have f1' := (ho1.frozen (i := 5) hl1 hlo1).trans (H0.out.fz 5)
            have H1' := H0.out.step1 (v' := .slice (some ⟨p1, 0, none⟩) (k + 1) q1) (R' := L.take (k + 1)) ho1 (by
              rcases hat1 with h | h
              · left; rw [h]; rfl
              · right; exact ⟨p1, rfl, by omega⟩) (by
              unfold Strs
              rw [HT1.out, List.length_append, HT2.out, List.map_append]
              simpa using hown1')
            clear hown1 hown1' hgrow1 hat1 ho1 hlo1
            go_upto_region 8 with fail
            generalize hW1 : World.setCell w1 _ _ = W1 at *
            have H1 : Hid _ := H1'
            clear e1' f1' H1' hW1 e1 H0
            have hown2 : W1.ownsRow (sb + 1) 4 1 (.slice a2 k c2) k ((List.replicate k false).map Value.bool) := by
              have := H1.out.s2
              unfold Bls at this
              rw [List.length_replicate] at this
              exact this
            have hl2 : sb < W1.heap.size := H1.out.lt
            have e2 := H1.out.c7
            go_wp2_with (at_builtin; refine wpList_append_lies _ rfl _ _ 26 rfl (sb + 1) 4 j0 (.bool false) 1 1 Tryz.underlying26 hj hy0 hy1 hy2 rfl (by decide) _ _ _ rfl (hown2.alloc _) ⟨W1.heap.size, 0, none⟩ 1 1 [.bool false] rfl rfl ?c1 ?c2 ?c3 ?c4 ?c5 ?c6 (W1.heap.size + 1) ?c7 ?_)
            case c1 =>
              intro j u hj
              match j, hj with
              | 0, hj => simp at hj; subst hj; simp [Addr.add]
            case c2 => intro u hu; simp at hu; subst hu; rfl
            case c3 => decide
            case c4 => unfold maxLen; omega
            case c5 => omega
            case c6 => simp; omega
            case c7 => simp
            intro p2 q2 w2 hown2' hgrow2 hat2 hlt2
            have ho2 : OffL [(.slice a2 k c2)] W1 w2 := (OffL.of_below (below1 W1 _)).trans (OffL.ofGrown hgrow2 (by simp))
            have hlo2 : ∀ v ∈ ([(.slice a2 k c2)] : List Value), v.ownBlock ≠ some sb := fun v hv e => by
              rw [List.mem_singleton.1 hv] at e
              have := (hown2.lt sb e).1
              omega
            have e2' := (ho2.cell hl2 hlo2).trans e2
            have f2' := (ho2.frozen (i := 7) hl2 hlo2).trans (H1.out.fz 7)
            have H2' := H1.out.step2 (v' := .slice (some ⟨p2, 0, none⟩) (k + 1) q2) (R' := List.replicate (k + 1) false) ho2 (by
              rcases hat2 with h | h
              · left; rw [h]; rfl
              · right; exact ⟨p2, rfl, by omega⟩) (by
              unfold Bls
              rw [List.length_replicate, List.replicate_succ', List.map_append]
              simpa using hown2')
            clear hown2 hown2' hgrow2 hat2 ho2 hlo2
            go_upto_region 9 with fail
            generalize hW2 : World.setCell w2 _ _ = W2 at *
            have H2 : Hid _ := H2'
            clear e2' f2' H2' hW2 e2 H1
            have hown3 : W2.ownsRow (sb + 1) 37 3 (.slice a3 k c3) k (vrow (List.replicate k vd0)) := by
              have := H2.out.s3
              unfold Vds at this
              rw [List.length_replicate] at this
              exact this
            have hl3 : sb < W2.heap.size := H2.out.lt
            have e3 := H2.out.c8
            go_wp2_with (at_builtin; refine wpList_append_lies _ rfl _ _ 27 rfl (sb + 1) 37 k0 (.agg #[.int .i64 0, .int .i64 0, .string ⟨#[]⟩]) 3 32 Tryz.underlying27 hk hx0 hx1 hx2 rfl (by decide) _ _ _ rfl (hown3.alloc _) ⟨W2.heap.size, 0, none⟩ 1 1 [.int .i64 0, .int .i64 0, .string ⟨#[]⟩] rfl rfl ?c1 ?c2 ?c3 ?c4 ?c5 ?c6 (W2.heap.size + 1) ?c7 ?_)
            case c1 =>
              intro j u hj
              exact World.news_of_block (lk_new _ _ _ rfl) j u (by simpa using hj)
            case c2 => intro u hu; simp at hu; rcases hu with rfl | rfl | rfl <;> rfl
            case c3 => decide
            case c4 => unfold maxLen; omega
            case c5 => omega
            case c6 => simp; omega
            case c7 => simp
            intro p3 q3 w3 hown3' hgrow3 hat3 hlt3
            have ho3 : OffL [(.slice a3 k c3)] W2 w3 := (OffL.of_below (below1 W2 _)).trans (OffL.ofGrown hgrow3 (by simp))
            have hlo3 : ∀ v ∈ ([(.slice a3 k c3)] : List Value), v.ownBlock ≠ some sb := fun v hv e => by
              rw [List.mem_singleton.1 hv] at e
              have := (hown3.lt sb e).1
              omega
            have e3' := (ho3.cell hl3 hlo3).trans e3
            have f3' := (ho3.frozen (i := 8) hl3 hlo3).trans (H2.out.fz 8)
            have H3' := H2.out.step3 (v' := .slice (some ⟨p3, 0, none⟩) (k + 1) q3) (R' := List.replicate (k + 1) vd0) ho3 (by
              rcases hat3 with h | h
              · left; rw [h]; rfl
              · right; exact ⟨p3, rfl, by omega⟩) (by
              unfold Vds
              rw [List.length_replicate, List.replicate_succ', vrow_snoc]
              exact hown3')
            clear hown3 hown3' hgrow3 hat3 ho3 hlo3
            go_upto_region 10 with fail
            generalize hW3 : World.setCell w3 _ _ = W3 at *
            have H3 : Hid _ := H3'
            clear e3' f3' H3' hW3 e3 H2
            go_wp2
            go_roundw
            case rel => exact ⟨k + 1, some ⟨p1, 0, none⟩, some ⟨p2, 0, none⟩, some ⟨p3, 0, none⟩, q1, q2, q3, by omega, by go_num, H3⟩
            case measure => simp [intOf]; omega
          · obtain rfl : k = L.length := by omega
            have HF := H.out
            obtain ⟨r0, r1, r2, r3, r4, r5, r6, r7, r8, f0, f1, f2, f3, f4, f5, f6, f7, f8, hrz⟩ := HF.res
            have d0 := HF.c0
            have d1 := HF.c1
            have d2 := HF.c2
            have d3 := HF.c3
            have d4 := HF.c4
            have d5 := HF.c5
            have d6 := HF.c6
            have d7 := HF.c7
            have d8 := HF.c8
            have hsl := HF.lo
            have HH : Hid _ := HF
            clear HF H HC HS HA
            go_wp2
            refine bodyPost_ret (v := .agg #[.int .i64 1, .string ⟨#[]⟩, .string he, .string fr, .string bo, .slice a1 L.length c1, .int .i64 0, .slice a2 L.length c2, .slice a3 L.length c3]) (by simp [results, Tryz.results7, go_sem, r0, r1, r2, r3, r4, r5, r6, r7, r8]) rfl ?_
            generalize hW : World.setCell _ ⟨w.heap.size, 8, none⟩ _ = W3
            unfold OpenPost
            rw [hOK]
            have hl1 : w.heap.size < sb + 1 := by omega
            refine ⟨⟨_, _, _, rfl, ⟨?_, ?_, ?_⟩, HH.out.ap⟩, ?_⟩
            · rw [← hW]
              have := HH.out.s1
              rw [List.take_length] at this
              refine strs_le ?_ (Nat.le_of_lt hl1)
              repeat (refine row_set_below ?_ hl1 _)
              exact this
            · rw [← hW]
              refine Go.Joins.ownsRow_le ?_ (Nat.le_of_lt hl1)
              repeat (refine row_set_below ?_ hl1 _)
              exact HH.out.s2
            · rw [← hW]
              refine Go.Joins.ownsRow_le ?_ (Nat.le_of_lt hl1)
              repeat (refine row_set_below ?_ hl1 _)
              exact HH.out.s3
            · rw [← hW]
              repeat (refine Below.setCell ?_ (by simp) _)
              exact HH.out.bel
end Go.Proofs.YtngcjlghjidnjaaGreatDoor
namespace Go.Proofs.YtngcjlghjidnjaaGreatDoor
open Go.ChangeShapes Go.WideShapes Go.ChangeAt Go.RowKit
attribute [local go_sem ↓] Go.wp_at_zero Go.wp_at_succ

theorem vds_formD {w : World} {lo : Nat} {v : Value} {L : List Vd} (h : Vds w lo v L) : ∃ a c, v = .slice a L.length c := by
  rcases h.cases with ⟨e, e0⟩ | ⟨g, k, e, _⟩
  · exact ⟨none, 0, by rw [e, e0]; rfl⟩
  · exact ⟨_, _, e⟩
theorem offL_of {b : Nat} {w w1 : World} (h : Off b w w1) : OffL [.slice (some ⟨b, 0, none⟩) 0 0] w w1 := ⟨h.os, h.tape, h.output, h.size, fun k hk hne => h.block k hk (fun e => hne _ (List.mem_singleton.2 rfl) (by rw [e]; rfl))⟩
theorem ne_off1 {b k : Nat} (h : k ≠ b) : ∀ v ∈ ([.slice (some ⟨b, 0, none⟩) 0 0] : List Value), v.ownBlock ≠ some k := by
  intro v hv e
  rw [List.mem_singleton.1 hv] at e
  exact h (Option.some.inj e).symm
theorem Blk.offR {a b : Nat} {X : Array Value} {w w1 : World} (h : Blk a X w) (ho : Off b w w1) (hne : a ≠ b) : Blk a X w1 := Blk.offL h (offL_of ho) (ne_off1 hne)
/-- a session in block B, its rows in other blocks, all from N on -/
structure Ses (N B : Nat) (s : Sn) (u1 u2 u3 : Value) (w : World) : Prop where
  le : N ≤ B
  sb : SB B s u1 u2 u3 w
  sv : SV w N u1 u2 u3 s
  n1 : u1.ownBlock ≠ some B
  n2 : u2.ownBlock ≠ some B
  n3 : u3.ownBlock ≠ some B
theorem Ses.below {N B : Nat} {s : Sn} {u1 u2 u3 : Value} {w w1 : World} (h : Ses N B s u1 u2 u3 w) (hb : Below w.heap.size w w1) : Ses N B s u1 u2 u3 w1 := ⟨h.le, SB.below h.sb hb, h.sv.below hb (Nat.le_refl _), h.n1, h.n2, h.n3⟩
theorem SV.offR {w w1 : World} {lo b : Nat} {u1 u2 u3 : Value} {s : Sn} (h : SV w lo u1 u2 u3 s) (ho : Off b w w1) (hb : b < lo) : SV w1 lo u1 u2 u3 s := by
  have hne : ∀ u : Value, (∀ g, u.ownBlock = Option.some g → lo ≤ g ∧ g < w.heap.size) → ∀ g, u.ownBlock = Option.some g → ∀ v ∈ ([.slice (Option.some ⟨b, 0, none⟩) 0 0] : List Value), v.ownBlock ≠ Option.some g := fun u hu g hg => ne_off1 (by have := (hu g hg).1; omega)
  exact ⟨(offL_of ho).row h.1 (hne _ h.own.1), (offL_of ho).row h.2.1 (hne _ h.own.2.1), (offL_of ho).row h.2.2 (hne _ h.own.2.2)⟩
theorem Ses.offR {N B b : Nat} {s : Sn} {u1 u2 u3 : Value} {w w1 : World} (h : Ses N B s u1 u2 u3 w) (ho : Off b w w1) (hb : b < N) : Ses N B s u1 u2 u3 w1 :=
  ⟨h.le, Blk.offR h.sb ho (by have := h.le; omega), h.sv.offR ho hb, h.n1, h.n2, h.n3⟩
theorem Ses.put {N B : Nat} {s t : Sn} {u1 u2 u3 v1 v2 v3 : Value} {w w1 : World} (h : Ses N B s u1 u2 u3 w) (hb : Below w.heap.size w w1) (hv : SV w1 w.heap.size v1 v2 v3 t) : Ses N B t v1 v2 v3 (nine w1 B (.int .i64 t.ph) (.string t.buf) (.string t.he) (.string t.fr) (.string t.bo) v1 (.int .i64 (t.nx : Int)) v2 v3) :=
  have hl := h.sb.lt
  have hN : N ≤ w.heap.size := Nat.le_of_lt (Nat.lt_of_le_of_lt h.le hl)
  ⟨h.le, blk_nine (SB.below h.sb hb) _ _ _ _ _ _ _ _ _, (hv.nine hl _ _ _ _ _ _ _ _ _).le hN, fun e => by have := (hv.own.1 _ e).1; omega, fun e => by have := (hv.own.2.1 _ e).1; omega, fun e => by have := (hv.own.2.2 _ e).1; omega⟩
theorem Ses.new {N : Nat} {s : Sn} {u1 u2 u3 : Value} {w : World} (T : TypeId) (h : SV w N u1 u2 u3 s) (hN : N ≤ w.heap.size) : Ses N w.heap.size s u1 u2 u3 (w.alloc (.cells (c9 s u1 u2 u3) T)) :=
  ⟨hN, Blk.new w _ _, h.below (below1 _ _) (Nat.le_refl _), fun e => Nat.lt_irrefl _ (h.own.1 _ e).2, fun e => Nat.lt_irrefl _ (h.own.2.1 _ e).2, fun e => Nat.lt_irrefl _ (h.own.2.2 _ e).2⟩

/-- Open's and Feed's sessions -/
def openN (he fr bo : ByteArray) (L : List ByteArray) : Sn := ⟨oPh (openOk he fr bo L), ⟨#[]⟩, oS (openOk he fr bo L) he, oS (openOk he fr bo L) fr, oS (openOk he fr bo L) bo, oL (openOk he fr bo L) L, 0, List.replicate (oL (openOk he fr bo L) L).length false, List.replicate (oL (openOk he fr bo L) L).length vd0⟩
def feedS (s : Sn) (kind : Int) (d : ByteArray) : Sn × ByteArray := feedN s.ph (s.nx : Int) s.buf s.he s.fr s.bo s.R s.T s.V kind d
def Fine (s : Sn) : Prop := s.Pr ∨ s = snDone
theorem open_fine (he fr bo : ByteArray) (L : List ByteArray) : Fine (openN he fr bo L) := by
  unfold openN
  cases h : openOk he fr bo L with
  | false => exact .inr rfl
  | true =>
    refine .inl ?_
    unfold openOk at h
    simp only [Bool.and_eq_true] at h
    rw [Sn.pr_iff]
    refine ⟨⟨by show (1 : Int) ≤ 1; decide, by show (1 : Int) ≤ 9; decide, Nat.zero_le _, h.1, h.2.1, h.2.2, by simp, by simp, Nat.zero_le _, by rintro ⟨_, e⟩; exact absurd e (by show ¬ (1 : Int) = 5; decide)⟩, ?_⟩
    intro v hv
    rw [List.eq_of_mem_replicate hv]
    decide
theorem feedN_fine (ph : Int) (nx : Int) (buf he fr bo : ByteArray) (R : List ByteArray) (T : List Bool) (V : List Vd) (kind : Int) (d : ByteArray) : Fine (feedN ph nx buf he fr bo R T V kind d).1 := by
  unfold feedN
  cases hp : properN ph nx buf he fr bo R T V with
  | false => exact .inr rfl
  | true =>
    obtain ⟨n, rfl, _⟩ := ok_of hp
    exact .inl (feed_pr (s := ⟨ph, buf, he, fr, bo, R, n, T, V⟩) hp kind d)
theorem Fine.ph {s : Sn} (h : Fine s) : 1 ≤ s.ph ∧ s.ph ≤ 9 := by
  rcases h with h | rfl
  · exact ⟨h.ok.p1, h.ok.p9⟩
  · decide
theorem Fine.small {s : Sn} (h : Fine s) : Small9 s.buf s.he s.fr s.bo s.R s.T s.V ∧ s.buf.size ≤ 40000 ∧ s.R.length ≤ 20 ∧ s.T.length ≤ 20 ∧ s.V.length ≤ 20 := by
  rcases h with h | rfl
  · have k := h.ok
    have k1 := k.bf
    have k2 := k.he
    have k3 := k.fr
    have k4 := k.bo
    have k5 := k.r20
    have k6 := k.t
    have k7 := k.v
    refine ⟨⟨by omega, by omega, by omega, by omega, by omega, fun x hx => by have := k.rs x hx; omega, by omega, by omega, fun x hx => ?_⟩, k1, k5, by omega, by omega⟩
    have := (Sn.pr_iff.1 h).2 x hx
    unfold vdOk at this
    simp only [Bool.and_eq_true, decide_eq_true_eq] at this
    omega
  · exact ⟨⟨Nat.zero_le _, Nat.zero_le _, Nat.zero_le _, Nat.zero_le _, Nat.zero_le _, fun x hx => absurd hx List.not_mem_nil, Nat.zero_le _, Nat.zero_le _, fun x hx => absurd hx List.not_mem_nil⟩, Nat.zero_le _, Nat.zero_le _, Nat.zero_le _, Nat.zero_le _⟩
/-- a drawn session -/
def sesGo : Nat → List UInt8 → Nat → Sn → Sn × Nat
  | 0, _, p, s => (s, p)
  | n + 1, B, p, s => if nx B p % 5 = 4 then sesGo n B (repF B (px B p)).2 (feedS s 1 (repF B (px B p)).1).1 else sesGo n B (px B p) (feedS s 1 (goodF s.ph)).1
def tOut : ByteArray := ⟨#[111, 117, 116, 46, 101, 120, 97, 109, 112, 108, 101]⟩
def sesF (B : List UInt8) (p : Nat) : Sn × Nat :=
  sesGo (nx B (bodF B (rcF B (fromF B p).2).2).2 % 14) B (px B (bodF B (rcF B (fromF B p).2).2).2) (openN tOut (fromF B p).1 (bodF B (rcF B (fromF B p).2).2).1 ((rcF B (fromF B p).2).1.take 20))
theorem sesGo_fine : ∀ (n : Nat) (B : List UInt8) (p : Nat) (s : Sn), Fine s → Fine (sesGo n B p s).1
  | 0, _, _, _, h => h
  | n + 1, B, p, s, h => by
    rw [sesGo]
    split
    · exact sesGo_fine n B _ _ (feedN_fine _ _ _ _ _ _ _ _ _ _ _)
    · exact sesGo_fine n B _ _ (feedN_fine _ _ _ _ _ _ _ _ _ _ _)
theorem sesF_fine (B : List UInt8) (p : Nat) : Fine (sesF B p).1 := sesGo_fine _ _ _ _ (open_fine _ _ _ _)
theorem take_args {w : World} {lo : Nat} {a : Option Addr} {c : Nat} {L : List ByteArray} (h : Strs w lo (.slice a L.length c) L) (hs : ∀ x ∈ L, x.size ≤ 300) (h20 : 20 < L.length) : ArgS w (.slice a 20 c) (L.take 20) ∧ 20 ≤ c ∧ ∃ g, a = some ⟨g, 0, none⟩ := by
  rcases h.cases with ⟨e, e0⟩ | ⟨g, cap, e, hg⟩
  · rw [e0] at h20; exact absurd h20 (by simp)
  · injection e with e1 e2 e3
    subst e1
    subst e3
    have hl := hg.len
    have hc := hg.cap
    have hl2 : (L.take 20).length = 20 := by rw [List.length_take]; omega
    refine ⟨⟨by rw [hl2]; decide, fun x hx => by have := hs x (List.mem_of_mem_take hx); unfold maxLen; omega, .inr ⟨g, 0, c, by rw [hl2], hg.lt, fun i hi => ?_⟩⟩, by omega, g, rfl⟩
    rw [Nat.zero_add, hg.cell i (by omega)]
    simp

set_option maxHeartbeats 8000000 in
set_option maxRecDepth 100000 in
theorem rdSessX (b p : Nat) (cv : Value) (B : List UInt8) (w : World) (h : RdAt w b cv B p) :
    Calls Tryz.prog 52 #[.pointer (some ⟨b, 0, none⟩)] w fun e w' => (∃ u1 u2 u3, e = .returned (.agg #[.int .i64 (sesF B p).1.ph, .string (sesF B p).1.buf, .string (sesF B p).1.he, .string (sesF B p).1.fr, .string (sesF B p).1.bo, u1, .int .i64 ((sesF B p).1.nx : Int), u2, u3]) ∧ SV w' w.heap.size u1 u2 u3 (sesF B p).1) ∧ RdAt w' b cv B (sesF B p).2 ∧ Off b w w' := by
  have H : Hid (RdAt w b cv B p) := h
  have hbl : b < w.heap.size := h.2.2.2.1
  clear h
  go_enter Tryz.func52, Tryz.ntmps52
  go_wp2_with fail
  generalize hW : World.alloc _ _ = W
  have HZ : Hid (SB w.heap.size sn0 (.slice none 0 0) (.slice none 0 0) (.slice none 0 0) W) := by show SB _ _ _ _ _ _; rw [← hW]; exact Blk.new w _ _
  have b0 : Below w.heap.size w W := by rw [← hW]; exact below1 _ _
  have hz0 : w.heap.size < W.heap.size := HZ.out.lt
  have H0 : Hid (RdAt W b cv B p) := H.out.below b0 (Nat.le_refl _)
  clear hW
  refine (rdFromX b p cv B W H0.out).mono ?_
  rintro e w1 ⟨rfl, h1, ho1⟩
  have hfs := fromF_size B p
  generalize hF : fromF B p = F at h1 hfs ⊢
  have HF : Hid (fromF B p = F) := hF
  have H1 : Hid (RdAt w1 b cv B F.2) := h1
  have HZ1 : Hid (SB w.heap.size sn0 (.slice none 0 0) (.slice none 0 0) (.slice none 0 0) w1) := Blk.offR HZ.out ho1 (by omega)
  have o1 : Off b w w1 := (Off.of_below b0).trans ho1
  have z1 := ho1.size
  clear h1 ho1 H0 HZ hF b0
  go_wp2_with fail
  refine (rdRcptsX b F.2 cv B w1 H1.out).mono ?_
  rintro e w2 ⟨⟨v, rfl, S2⟩, h2, ho2⟩
  have hrl := rcF_len B F.2
  have hrs := rcF_size B F.2
  generalize hL : rcF B F.2 = L at h2 S2 hrl hrs
  have HL : Hid (rcF B F.2 = L) := hL
  have HRS : Hid (∀ x ∈ L.1, x.size ≤ 300) := hrs
  have H2 : Hid (RdAt w2 b cv B L.2) := h2
  have HZ2 : Hid (SB w.heap.size sn0 (.slice none 0 0) (.slice none 0 0) (.slice none 0 0) w2) := Blk.offR HZ1.out ho2 (by omega)
  have o2 : Off b w w2 := o1.trans ho2
  have z2 := ho2.size
  obtain ⟨av, ac, hv⟩ := strs_form2 S2
  subst hv
  have HS2 : Hid (Strs w2 w1.heap.size (.slice av L.1.length ac) L.1) := S2
  clear h2 ho2 H1 HZ1 hL S2 o1 hrs
  have HY : Hid (∀ x ∈ L.1.take 20, x.size ≤ 1048576) := fun x hx => by have := HRS.out x (List.mem_of_mem_take hx); omega
  rcases Nat.lt_or_ge 20 L.1.length with h20 | h20
  · obtain ⟨_, hac, g, rfl⟩ := take_args HS2.out HRS.out h20
    have HA : Hid (∀ wx, Strs wx w1.heap.size (.slice (some ⟨g, 0, none⟩) L.1.length ac) L.1 → ArgS wx (.slice (some ⟨g, 0, none⟩) 20 ac) (L.1.take 20)) := fun wx hx => (take_args hx HRS.out h20).1
    have h20i : (20 : Int) < L.1.length := by omega
    have haci : (20 : Int) ≤ ac := by omega
    go_wp2_with fail
    refine (rdBodyX b L.2 cv B w2 H2.out).mono ?_
    rintro e w3 ⟨rfl, h3, ho3⟩
    have hbs := bodF_size B L.2
    generalize hD : bodF B L.2 = D at h3 hbs ⊢
    have HD : Hid (bodF B L.2 = D) := hD
    have H3 : Hid (RdAt w3 b cv B D.2) := h3
    have HZ3 : Hid (SB w.heap.size sn0 (.slice none 0 0) (.slice none 0 0) (.slice none 0 0) w3) := Blk.offR HZ2.out ho3 (by omega)
    have HA3 : Hid (ArgS w3 _ (L.1.take 20)) := HA.out w3 (strs_offR HS2.out ho3 (by omega))
    have o3 : Off b w w3 := o2.trans ho3
    have z3 := ho3.size
    clear h3 ho3 H2 HZ2 hD HA HS2 o2
    go_wp2_with fail
    refine (specOpen tOut F.1 D.1 _ (L.1.take 20) w3 HA3.out (by decide) (by omega) HY.out (by omega)).mono ?_
    rintro e w4 ⟨⟨v1, v2, v3, he, hr, _⟩, hb4⟩
    have hfine := open_fine tOut F.1 D.1 (L.1.take 20)
    obtain ⟨s0, hs0⟩ : ∃ s0, openN tOut F.1 D.1 (L.1.take 20) = s0 := ⟨_, rfl⟩
    have he2 : e = .returned (.agg #[.int .i64 s0.ph, .string s0.buf, .string s0.he, .string s0.fr, .string s0.bo, v1, .int .i64 (s0.nx : Int), v2, v3]) := by rw [← hs0]; exact he
    have S4 : SV w4 w3.heap.size v1 v2 v3 s0 := by rw [← hs0]; exact hr
    have HFi0 : Hid (Fine s0) := by rw [← hs0]; exact hfine
    have HS0 : Hid (openN tOut F.1 D.1 (L.1.take 20) = s0) := hs0
    subst he2
    obtain ⟨m1, j1, hx1⟩ := strs_form2 S4.1
    obtain ⟨m2, j2, hx2⟩ := bls_form S4.2.1
    obtain ⟨m3, j3, hx3⟩ := vds_formD S4.2.2
    subst hx1 hx2 hx3
    have HS4 : Hid (SV w4 w3.heap.size _ _ _ s0) := S4
    have HB4 : Hid (Below w3.heap.size w3 w4) := hb4
    clear he hr hfine hs0 S4 hb4 HA3
    go_wp2_with fail
    generalize hW4 : World.alloc _ _ = W4
    have HSs : Hid (Ses w3.heap.size w4.heap.size s0 (.slice m1 s0.R.length j1) (.slice m2 s0.T.length j2) (.slice m3 s0.V.length j3) W4) := by show Ses _ _ _ _ _ _ _; rw [← hW4]; exact Ses.new _ HS4.out HB4.out.size
    have b4 : Below w3.heap.size w3 W4 := by rw [← hW4]; exact HB4.out.trans ((below1 _ _).mono HB4.out.size)
    have H4 : Hid (RdAt W4 b cv B D.2) := H3.out.below b4 (Nat.le_refl _)
    have HZ4 : Hid (SB w.heap.size sn0 (.slice none 0 0) (.slice none 0 0) (.slice none 0 0) W4) := SB.below HZ3.out b4
    have o4 : Off b w W4 := o3.trans (Off.of_below b4)
    have z4 := b4.size
    have z34 := HB4.out.size
    clear hW4 HS4 HB4 H3 HZ3 o3 b4
    refine (rdNext b D.2 cv B W4 H4.out).mono ?_
    rintro e w5 ⟨rfl, h5, ho5⟩
    have hc5 := nx_lt B D.2
    generalize hcE : nx B D.2 = c at hc5 ⊢
    generalize hqE : px B D.2 = q5 at h5
    have H5 : Hid (RdAt w5 b cv B q5) := h5
    have HS5 : Hid (Ses w3.heap.size w4.heap.size s0 (.slice m1 s0.R.length j1) (.slice m2 s0.T.length j2) (.slice m3 s0.V.length j3) w5) := HSs.out.offR ho5 (by omega)
    have HZ5 : Hid (SB w.heap.size sn0 (.slice none 0 0) (.slice none 0 0) (.slice none 0 0) w5) := Blk.offR HZ4.out ho5 (by omega)
    have o5 : Off b w w5 := o4.trans ho5
    have z5 := ho5.size
    obtain ⟨Z, hZ, HE⟩ : ∃ Z, sesGo (c % 14) B q5 s0 = Z ∧ Hid (sesF B p = Z) := ⟨_, rfl, by show sesF B p = _; unfold sesF; rw [HF.out, HL.out, HD.out, hcE, hqE, HS0.out]⟩
    clear hcE hqE h5 ho5 HSs HZ4 o4 H4 HF HL HD HS0
    go_wp2_with fail
    go_loopw [6] (fun nv wr => ∃ (n q : Nat) (s : Sn) (y1 y2 y3 : Option Addr) (k1 k2 k3 : Nat), nv = .int .i64 n ∧ n ≤ 13 ∧ Hid (sesGo n B q s = Z) ∧ Hid (Fine s) ∧ Hid (Ses w3.heap.size w4.heap.size s (.slice y1 s.R.length k1) (.slice y2 s.T.length k2) (.slice y3 s.V.length k3) wr) ∧ Hid (SB w.heap.size sn0 (.slice none 0 0) (.slice none 0 0) (.slice none 0 0) wr) ∧ Hid (RdAt wr b cv B q) ∧ Off b w wr ∧ w5.heap.size ≤ wr.heap.size) (fun nv _ => (intOf nv).toNat)
    case atStart => exact ⟨c % 14, q5, s0, _, _, _, _, _, _, by go_num, by omega, hZ, HFi0, HS5, HZ5, H5, o5, Nat.le_refl _⟩
    case round =>
      obtain ⟨n, q, s, y1, y2, y3, k1, k2, k3, rfl, hn13, HG, HFi, HSr, HZr, HR, orr, zr⟩ := hrel
      have hph := HFi.out.ph
      obtain ⟨t0, t1, t2, t3, t4, t5, t6, t7, t8⟩ := HSr.out.sb.cells
      have ltS : w4.heap.size < wr.heap.size := HSr.out.sb.lt
      by_cases hn : 0 < n
      · go_wp2_with fail
        refine (specGood s.ph wr (by omega) (by omega)).mono ?_
        rintro e w6 ⟨rfl, hb6⟩
        have hgs := goodF_size s.ph
        have HS6 : Hid (Ses w3.heap.size w4.heap.size s (.slice y1 s.R.length k1) (.slice y2 s.T.length k2) (.slice y3 s.V.length k3) w6) := HSr.out.below hb6
        have HZ6 : Hid (SB w.heap.size sn0 (.slice none 0 0) (.slice none 0 0) (.slice none 0 0) w6) := SB.below HZr.out hb6
        have H6 : Hid (RdAt w6 b cv B q) := HR.out.below hb6 (Nat.le_refl _)
        have o6 : Off b w w6 := orr.trans (Off.of_below hb6)
        have z6 := hb6.size
        clear hb6 HSr HZr HR orr t0 t1 t2 t3 t4 t5 t6 t7 t8
        go_wp2_with fail
        refine (rdNext b q cv B w6 H6.out).mono ?_
        rintro e w7 ⟨rfl, h7, ho7⟩
        have hc7 := nx_lt B q
        obtain ⟨k, rfl⟩ : ∃ k, n = k + 1 := ⟨n - 1, by omega⟩
        have H7 : Hid (RdAt w7 b cv B (px B q)) := h7
        have HS7 : Hid (Ses w3.heap.size w4.heap.size s (.slice y1 s.R.length k1) (.slice y2 s.T.length k2) (.slice y3 s.V.length k3) w7) := HS6.out.offR ho7 (by omega)
        have HZ7 : Hid (SB w.heap.size sn0 (.slice none 0 0) (.slice none 0 0) (.slice none 0 0) w7) := Blk.offR HZ6.out ho7 (by omega)
        have o7 : Off b w w7 := o6.trans ho7
        have z7 := ho7.size
        clear h7 ho7 H6 HS6 HZ6 o6
        by_cases c4 : nx B q % 5 = 4
        · have HG2 : Hid (sesGo k B (repF B (px B q)).2 (feedS s 1 (repF B (px B q)).1).1 = Z) := by show _ = _; rw [← HG.out, sesGo, if_pos c4]
          have c4i : (nx B q : Int) % 5 = 4 := by omega
          clear HG
          generalize nx B q = c7 at *
          generalize px B q = q7 at *
          go_wp2_with fail
          refine (rdReplyX b q7 cv B w7 H7.out).mono ?_
          rintro e w8 ⟨rfl, h8, ho8⟩
          have hrs := repF_size B q7
          generalize repF B q7 = Y at HG2 h8 hrs ⊢
          have H8 : Hid (RdAt w8 b cv B Y.2) := h8
          have HS8 : Hid (Ses w3.heap.size w4.heap.size s (.slice y1 s.R.length k1) (.slice y2 s.T.length k2) (.slice y3 s.V.length k3) w8) := HS7.out.offR ho8 (by omega)
          have HZ8 : Hid (SB w.heap.size sn0 (.slice none 0 0) (.slice none 0 0) (.slice none 0 0) w8) := Blk.offR HZ7.out ho8 (by omega)
          have o8 : Off b w w8 := o7.trans ho8
          have z8 := ho8.size
          obtain ⟨t0, t1, t2, t3, t4, t5, t6, t7, t8⟩ := HS8.out.sb.cells
          have ltS8 : w4.heap.size < w8.heap.size := HS8.out.sb.lt
          clear h8 ho8 H7 HS7 HZ7 o7
          go_wp2_with fail
          refine (specFeed s.ph (s.nx : Int) s.buf s.he s.fr s.bo _ _ _ s.R s.T s.V 1 Y.1 w3.heap.size w8 HS8.out.sv.1 HS8.out.sv.2.1 HS8.out.sv.2.2 HFi.out.small.1 (by omega)).mono ?_
          rintro e w9 ⟨⟨x1, x2, x3, rfl, S9⟩, hb9⟩
          have HFq : Hid (Fine (feedN s.ph (s.nx : Int) s.buf s.he s.fr s.bo s.R s.T s.V 1 Y.1).1) := feedN_fine _ _ _ _ _ _ _ _ _ _ _
          have HG3 : Hid (sesGo k B Y.2 (feedN s.ph (s.nx : Int) s.buf s.he s.fr s.bo s.R s.T s.V 1 Y.1).1 = Z) := HG2.out
          generalize feedN s.ph (s.nx : Int) s.buf s.he s.fr s.bo s.R s.T s.V 1 Y.1 = Q at S9 HFq HG3 ⊢
          obtain ⟨m1, j1, hx1⟩ := strs_form2 S9.1
          obtain ⟨m2, j2, hx2⟩ := bls_form S9.2.1
          obtain ⟨m3, j3, hx3⟩ := vds_formD S9.2.2
          subst hx1 hx2 hx3
          have HP : Hid _ := HS8.out.put hb9 S9
          have HB9 : Hid (SB w4.heap.size s _ _ _ w9) := SB.below HS8.out.sb hb9
          have HZ9 : Hid (SB w.heap.size sn0 (.slice none 0 0) (.slice none 0 0) (.slice none 0 0) w9) := SB.below HZ8.out hb9
          have H9 : Hid (RdAt w9 b cv B Y.2) := H8.out.below hb9 (Nat.le_refl _)
          have o9 : Off b w w9 := o8.trans (Off.of_below hb9)
          have z9 := hb9.size
          obtain ⟨a0, a1, a2, a3, a4, a5, a6, a7, a8⟩ := HB9.out.cells
          obtain ⟨f0, f1, f2, f3, f4, f5, f6, f7, f8⟩ := HB9.out.frees
          have ltB : w4.heap.size < w9.heap.size := HB9.out.lt
          clear S9 hb9 HS8 HZ8 H8 o8 HG2
          go_wp2
          go_roundw
          case rel => exact ⟨k, Y.2, Q.1, _, _, _, _, _, _, by go_num, by omega, HG3, HFq, HP, sb_nine HZ9.out (by omega) _ _ _ _ _ _ _ _ _, H.out.carry H9.out (below_nine (Below.refl _ _) (by omega) _ _ _ _ _ _ _ _ _), o9.carry (below_nine (Below.refl _ _) (by omega) _ _ _ _ _ _ _ _ _) (Nat.le_refl _), by simp; omega⟩
          case measure => simp [intOf]
        · have HG2 : Hid (sesGo k B (px B q) (feedS s 1 (goodF s.ph)).1 = Z) := by show _ = _; rw [← HG.out, sesGo, if_neg c4]
          have c4i : ¬ (nx B q : Int) % 5 = 4 := by omega
          clear HG
          generalize nx B q = c7 at *
          generalize px B q = q7 at *
          obtain ⟨w8, hw8⟩ : ∃ w8 : World, w8 = w7 := ⟨w7, rfl⟩
          subst hw8
          generalize goodF s.ph = Y at HG2 hgs ⊢
          have HS8 : Hid (Ses w3.heap.size w4.heap.size s (.slice y1 s.R.length k1) (.slice y2 s.T.length k2) (.slice y3 s.V.length k3) w8) := HS7
          have HZ8 : Hid (SB w.heap.size sn0 (.slice none 0 0) (.slice none 0 0) (.slice none 0 0) w8) := HZ7
          have H8 : Hid (RdAt w8 b cv B q7) := H7
          have o8 : Off b w w8 := o7
          obtain ⟨t0, t1, t2, t3, t4, t5, t6, t7, t8⟩ := HS8.out.sb.cells
          have ltS8 : w4.heap.size < w8.heap.size := HS8.out.sb.lt
          clear H7 HS7 HZ7 o7
          go_wp2_with fail
          refine (specFeed s.ph (s.nx : Int) s.buf s.he s.fr s.bo _ _ _ s.R s.T s.V 1 Y w3.heap.size w8 HS8.out.sv.1 HS8.out.sv.2.1 HS8.out.sv.2.2 HFi.out.small.1 (by omega)).mono ?_
          rintro e w9 ⟨⟨x1, x2, x3, rfl, S9⟩, hb9⟩
          have HFq : Hid (Fine (feedN s.ph (s.nx : Int) s.buf s.he s.fr s.bo s.R s.T s.V 1 Y).1) := feedN_fine _ _ _ _ _ _ _ _ _ _ _
          have HG3 : Hid (sesGo k B q7 (feedN s.ph (s.nx : Int) s.buf s.he s.fr s.bo s.R s.T s.V 1 Y).1 = Z) := HG2.out
          generalize feedN s.ph (s.nx : Int) s.buf s.he s.fr s.bo s.R s.T s.V 1 Y = Q at S9 HFq HG3 ⊢
          obtain ⟨m1, j1, hx1⟩ := strs_form2 S9.1
          obtain ⟨m2, j2, hx2⟩ := bls_form S9.2.1
          obtain ⟨m3, j3, hx3⟩ := vds_formD S9.2.2
          subst hx1 hx2 hx3
          have HP : Hid _ := HS8.out.put hb9 S9
          have HB9 : Hid (SB w4.heap.size s _ _ _ w9) := SB.below HS8.out.sb hb9
          have HZ9 : Hid (SB w.heap.size sn0 (.slice none 0 0) (.slice none 0 0) (.slice none 0 0) w9) := SB.below HZ8.out hb9
          have H9 : Hid (RdAt w9 b cv B q7) := H8.out.below hb9 (Nat.le_refl _)
          have o9 : Off b w w9 := o8.trans (Off.of_below hb9)
          have z9 := hb9.size
          obtain ⟨a0, a1, a2, a3, a4, a5, a6, a7, a8⟩ := HB9.out.cells
          obtain ⟨f0, f1, f2, f3, f4, f5, f6, f7, f8⟩ := HB9.out.frees
          have ltB : w4.heap.size < w9.heap.size := HB9.out.lt
          clear S9 hb9 HS8 HZ8 H8 o8 HG2
          go_wp2
          go_roundw
          case rel => exact ⟨k, q7, Q.1, _, _, _, _, _, _, by go_num, by omega, HG3, HFq, HP, sb_nine HZ9.out (by omega) _ _ _ _ _ _ _ _ _, H.out.carry H9.out (below_nine (Below.refl _ _) (by omega) _ _ _ _ _ _ _ _ _), o9.carry (below_nine (Below.refl _ _) (by omega) _ _ _ _ _ _ _ _ _) (Nat.le_refl _), by simp; omega⟩
          case measure => simp [intOf]
      · obtain rfl : n = 0 := by omega
        obtain rfl : Z = (s, q) := HG.out.symm
        obtain ⟨r0, r1, r2, r3, r4, r5, r6, r7, r8⟩ := HZr.out.zero
        obtain ⟨rf0, rf1, rf2, rf3, rf4, rf5, rf6, rf7, rf8⟩ := HZr.out.frees
        have zl : w.heap.size < wr.heap.size := HZr.out.lt
        go_wp2
        refine bodyPost_ret (v := .agg #[.int .i64 s.ph, .string s.buf, .string s.he, .string s.fr, .string s.bo, .slice y1 s.R.length k1, .int .i64 (s.nx : Int), .slice y2 s.T.length k2, .slice y3 s.V.length k3]) (by simp [results, Tryz.results52, go_sem, r0, r1, r2, r3, r4, r5, r6, r7, r8]) rfl ?_
        rw [HE.out]
        refine ⟨⟨_, _, _, rfl, ?_⟩, ?_, ?_⟩
        · exact (HSr.out.sv.nine (b := w.heap.size) (by omega) _ _ _ _ _ _ _ _ _).le (by omega)
        · exact H.out.carry HR.out (below_nine (Below.refl _ _) (Nat.le_refl _) _ _ _ _ _ _ _ _ _)
        · exact orr.carry (below_nine (Below.refl _ _) (Nat.le_refl _) _ _ _ _ _ _ _ _ _) (Nat.le_refl _)
  · have HA : Hid (∀ wx, Strs wx w1.heap.size (.slice av L.1.length ac) L.1 → ArgS wx (.slice av L.1.length ac) (L.1.take 20)) := fun wx hx => by
      rw [List.take_of_length_le h20]; exact strs_args hx (by unfold maxLen; omega) (fun x hx => by have := HRS.out x hx; unfold maxLen; omega)
    have h20i : ¬ (20 : Int) < L.1.length := by omega
    go_wp2_with fail
    refine (rdBodyX b L.2 cv B w2 H2.out).mono ?_
    rintro e w3 ⟨rfl, h3, ho3⟩
    have hbs := bodF_size B L.2
    generalize hD : bodF B L.2 = D at h3 hbs ⊢
    have HD : Hid (bodF B L.2 = D) := hD
    have H3 : Hid (RdAt w3 b cv B D.2) := h3
    have HZ3 : Hid (SB w.heap.size sn0 (.slice none 0 0) (.slice none 0 0) (.slice none 0 0) w3) := Blk.offR HZ2.out ho3 (by omega)
    have HA3 : Hid (ArgS w3 _ (L.1.take 20)) := HA.out w3 (strs_offR HS2.out ho3 (by omega))
    have o3 : Off b w w3 := o2.trans ho3
    have z3 := ho3.size
    clear h3 ho3 H2 HZ2 hD HA HS2 o2
    go_wp2_with fail
    refine (specOpen tOut F.1 D.1 _ (L.1.take 20) w3 HA3.out (by decide) (by omega) HY.out (by omega)).mono ?_
    rintro e w4 ⟨⟨v1, v2, v3, he, hr, _⟩, hb4⟩
    have hfine := open_fine tOut F.1 D.1 (L.1.take 20)
    obtain ⟨s0, hs0⟩ : ∃ s0, openN tOut F.1 D.1 (L.1.take 20) = s0 := ⟨_, rfl⟩
    have he2 : e = .returned (.agg #[.int .i64 s0.ph, .string s0.buf, .string s0.he, .string s0.fr, .string s0.bo, v1, .int .i64 (s0.nx : Int), v2, v3]) := by rw [← hs0]; exact he
    have S4 : SV w4 w3.heap.size v1 v2 v3 s0 := by rw [← hs0]; exact hr
    have HFi0 : Hid (Fine s0) := by rw [← hs0]; exact hfine
    have HS0 : Hid (openN tOut F.1 D.1 (L.1.take 20) = s0) := hs0
    subst he2
    obtain ⟨m1, j1, hx1⟩ := strs_form2 S4.1
    obtain ⟨m2, j2, hx2⟩ := bls_form S4.2.1
    obtain ⟨m3, j3, hx3⟩ := vds_formD S4.2.2
    subst hx1 hx2 hx3
    have HS4 : Hid (SV w4 w3.heap.size _ _ _ s0) := S4
    have HB4 : Hid (Below w3.heap.size w3 w4) := hb4
    clear he hr hfine hs0 S4 hb4 HA3
    go_wp2_with fail
    generalize hW4 : World.alloc _ _ = W4
    have HSs : Hid (Ses w3.heap.size w4.heap.size s0 (.slice m1 s0.R.length j1) (.slice m2 s0.T.length j2) (.slice m3 s0.V.length j3) W4) := by show Ses _ _ _ _ _ _ _; rw [← hW4]; exact Ses.new _ HS4.out HB4.out.size
    have b4 : Below w3.heap.size w3 W4 := by rw [← hW4]; exact HB4.out.trans ((below1 _ _).mono HB4.out.size)
    have H4 : Hid (RdAt W4 b cv B D.2) := H3.out.below b4 (Nat.le_refl _)
    have HZ4 : Hid (SB w.heap.size sn0 (.slice none 0 0) (.slice none 0 0) (.slice none 0 0) W4) := SB.below HZ3.out b4
    have o4 : Off b w W4 := o3.trans (Off.of_below b4)
    have z4 := b4.size
    have z34 := HB4.out.size
    clear hW4 HS4 HB4 H3 HZ3 o3 b4
    refine (rdNext b D.2 cv B W4 H4.out).mono ?_
    rintro e w5 ⟨rfl, h5, ho5⟩
    have hc5 := nx_lt B D.2
    generalize hcE : nx B D.2 = c at hc5 ⊢
    generalize hqE : px B D.2 = q5 at h5
    have H5 : Hid (RdAt w5 b cv B q5) := h5
    have HS5 : Hid (Ses w3.heap.size w4.heap.size s0 (.slice m1 s0.R.length j1) (.slice m2 s0.T.length j2) (.slice m3 s0.V.length j3) w5) := HSs.out.offR ho5 (by omega)
    have HZ5 : Hid (SB w.heap.size sn0 (.slice none 0 0) (.slice none 0 0) (.slice none 0 0) w5) := Blk.offR HZ4.out ho5 (by omega)
    have o5 : Off b w w5 := o4.trans ho5
    have z5 := ho5.size
    obtain ⟨Z, hZ, HE⟩ : ∃ Z, sesGo (c % 14) B q5 s0 = Z ∧ Hid (sesF B p = Z) := ⟨_, rfl, by show sesF B p = _; unfold sesF; rw [HF.out, HL.out, HD.out, hcE, hqE, HS0.out]⟩
    clear hcE hqE h5 ho5 HSs HZ4 o4 H4 HF HL HD HS0
    go_wp2_with fail
    go_loopw [6] (fun nv wr => ∃ (n q : Nat) (s : Sn) (y1 y2 y3 : Option Addr) (k1 k2 k3 : Nat), nv = .int .i64 n ∧ n ≤ 13 ∧ Hid (sesGo n B q s = Z) ∧ Hid (Fine s) ∧ Hid (Ses w3.heap.size w4.heap.size s (.slice y1 s.R.length k1) (.slice y2 s.T.length k2) (.slice y3 s.V.length k3) wr) ∧ Hid (SB w.heap.size sn0 (.slice none 0 0) (.slice none 0 0) (.slice none 0 0) wr) ∧ Hid (RdAt wr b cv B q) ∧ Off b w wr ∧ w5.heap.size ≤ wr.heap.size) (fun nv _ => (intOf nv).toNat)
    case atStart => exact ⟨c % 14, q5, s0, _, _, _, _, _, _, by go_num, by omega, hZ, HFi0, HS5, HZ5, H5, o5, Nat.le_refl _⟩
    case round =>
      obtain ⟨n, q, s, y1, y2, y3, k1, k2, k3, rfl, hn13, HG, HFi, HSr, HZr, HR, orr, zr⟩ := hrel
      have hph := HFi.out.ph
      obtain ⟨t0, t1, t2, t3, t4, t5, t6, t7, t8⟩ := HSr.out.sb.cells
      have ltS : w4.heap.size < wr.heap.size := HSr.out.sb.lt
      by_cases hn : 0 < n
      · go_wp2_with fail
        refine (specGood s.ph wr (by omega) (by omega)).mono ?_
        rintro e w6 ⟨rfl, hb6⟩
        have hgs := goodF_size s.ph
        have HS6 : Hid (Ses w3.heap.size w4.heap.size s (.slice y1 s.R.length k1) (.slice y2 s.T.length k2) (.slice y3 s.V.length k3) w6) := HSr.out.below hb6
        have HZ6 : Hid (SB w.heap.size sn0 (.slice none 0 0) (.slice none 0 0) (.slice none 0 0) w6) := SB.below HZr.out hb6
        have H6 : Hid (RdAt w6 b cv B q) := HR.out.below hb6 (Nat.le_refl _)
        have o6 : Off b w w6 := orr.trans (Off.of_below hb6)
        have z6 := hb6.size
        clear hb6 HSr HZr HR orr t0 t1 t2 t3 t4 t5 t6 t7 t8
        go_wp2_with fail
        refine (rdNext b q cv B w6 H6.out).mono ?_
        rintro e w7 ⟨rfl, h7, ho7⟩
        have hc7 := nx_lt B q
        obtain ⟨k, rfl⟩ : ∃ k, n = k + 1 := ⟨n - 1, by omega⟩
        have H7 : Hid (RdAt w7 b cv B (px B q)) := h7
        have HS7 : Hid (Ses w3.heap.size w4.heap.size s (.slice y1 s.R.length k1) (.slice y2 s.T.length k2) (.slice y3 s.V.length k3) w7) := HS6.out.offR ho7 (by omega)
        have HZ7 : Hid (SB w.heap.size sn0 (.slice none 0 0) (.slice none 0 0) (.slice none 0 0) w7) := Blk.offR HZ6.out ho7 (by omega)
        have o7 : Off b w w7 := o6.trans ho7
        have z7 := ho7.size
        clear h7 ho7 H6 HS6 HZ6 o6
        by_cases c4 : nx B q % 5 = 4
        · have HG2 : Hid (sesGo k B (repF B (px B q)).2 (feedS s 1 (repF B (px B q)).1).1 = Z) := by show _ = _; rw [← HG.out, sesGo, if_pos c4]
          have c4i : (nx B q : Int) % 5 = 4 := by omega
          clear HG
          generalize nx B q = c7 at *
          generalize px B q = q7 at *
          go_wp2_with fail
          refine (rdReplyX b q7 cv B w7 H7.out).mono ?_
          rintro e w8 ⟨rfl, h8, ho8⟩
          have hrs := repF_size B q7
          generalize repF B q7 = Y at HG2 h8 hrs ⊢
          have H8 : Hid (RdAt w8 b cv B Y.2) := h8
          have HS8 : Hid (Ses w3.heap.size w4.heap.size s (.slice y1 s.R.length k1) (.slice y2 s.T.length k2) (.slice y3 s.V.length k3) w8) := HS7.out.offR ho8 (by omega)
          have HZ8 : Hid (SB w.heap.size sn0 (.slice none 0 0) (.slice none 0 0) (.slice none 0 0) w8) := Blk.offR HZ7.out ho8 (by omega)
          have o8 : Off b w w8 := o7.trans ho8
          have z8 := ho8.size
          obtain ⟨t0, t1, t2, t3, t4, t5, t6, t7, t8⟩ := HS8.out.sb.cells
          have ltS8 : w4.heap.size < w8.heap.size := HS8.out.sb.lt
          clear h8 ho8 H7 HS7 HZ7 o7
          go_wp2_with fail
          refine (specFeed s.ph (s.nx : Int) s.buf s.he s.fr s.bo _ _ _ s.R s.T s.V 1 Y.1 w3.heap.size w8 HS8.out.sv.1 HS8.out.sv.2.1 HS8.out.sv.2.2 HFi.out.small.1 (by omega)).mono ?_
          rintro e w9 ⟨⟨x1, x2, x3, rfl, S9⟩, hb9⟩
          have HFq : Hid (Fine (feedN s.ph (s.nx : Int) s.buf s.he s.fr s.bo s.R s.T s.V 1 Y.1).1) := feedN_fine _ _ _ _ _ _ _ _ _ _ _
          have HG3 : Hid (sesGo k B Y.2 (feedN s.ph (s.nx : Int) s.buf s.he s.fr s.bo s.R s.T s.V 1 Y.1).1 = Z) := HG2.out
          generalize feedN s.ph (s.nx : Int) s.buf s.he s.fr s.bo s.R s.T s.V 1 Y.1 = Q at S9 HFq HG3 ⊢
          obtain ⟨m1, j1, hx1⟩ := strs_form2 S9.1
          obtain ⟨m2, j2, hx2⟩ := bls_form S9.2.1
          obtain ⟨m3, j3, hx3⟩ := vds_formD S9.2.2
          subst hx1 hx2 hx3
          have HP : Hid _ := HS8.out.put hb9 S9
          have HB9 : Hid (SB w4.heap.size s _ _ _ w9) := SB.below HS8.out.sb hb9
          have HZ9 : Hid (SB w.heap.size sn0 (.slice none 0 0) (.slice none 0 0) (.slice none 0 0) w9) := SB.below HZ8.out hb9
          have H9 : Hid (RdAt w9 b cv B Y.2) := H8.out.below hb9 (Nat.le_refl _)
          have o9 : Off b w w9 := o8.trans (Off.of_below hb9)
          have z9 := hb9.size
          obtain ⟨a0, a1, a2, a3, a4, a5, a6, a7, a8⟩ := HB9.out.cells
          obtain ⟨f0, f1, f2, f3, f4, f5, f6, f7, f8⟩ := HB9.out.frees
          have ltB : w4.heap.size < w9.heap.size := HB9.out.lt
          clear S9 hb9 HS8 HZ8 H8 o8 HG2
          go_wp2
          go_roundw
          case rel => exact ⟨k, Y.2, Q.1, _, _, _, _, _, _, by go_num, by omega, HG3, HFq, HP, sb_nine HZ9.out (by omega) _ _ _ _ _ _ _ _ _, H.out.carry H9.out (below_nine (Below.refl _ _) (by omega) _ _ _ _ _ _ _ _ _), o9.carry (below_nine (Below.refl _ _) (by omega) _ _ _ _ _ _ _ _ _) (Nat.le_refl _), by simp; omega⟩
          case measure => simp [intOf]
        · have HG2 : Hid (sesGo k B (px B q) (feedS s 1 (goodF s.ph)).1 = Z) := by show _ = _; rw [← HG.out, sesGo, if_neg c4]
          have c4i : ¬ (nx B q : Int) % 5 = 4 := by omega
          clear HG
          generalize nx B q = c7 at *
          generalize px B q = q7 at *
          obtain ⟨w8, hw8⟩ : ∃ w8 : World, w8 = w7 := ⟨w7, rfl⟩
          subst hw8
          generalize goodF s.ph = Y at HG2 hgs ⊢
          have HS8 : Hid (Ses w3.heap.size w4.heap.size s (.slice y1 s.R.length k1) (.slice y2 s.T.length k2) (.slice y3 s.V.length k3) w8) := HS7
          have HZ8 : Hid (SB w.heap.size sn0 (.slice none 0 0) (.slice none 0 0) (.slice none 0 0) w8) := HZ7
          have H8 : Hid (RdAt w8 b cv B q7) := H7
          have o8 : Off b w w8 := o7
          obtain ⟨t0, t1, t2, t3, t4, t5, t6, t7, t8⟩ := HS8.out.sb.cells
          have ltS8 : w4.heap.size < w8.heap.size := HS8.out.sb.lt
          clear H7 HS7 HZ7 o7
          go_wp2_with fail
          refine (specFeed s.ph (s.nx : Int) s.buf s.he s.fr s.bo _ _ _ s.R s.T s.V 1 Y w3.heap.size w8 HS8.out.sv.1 HS8.out.sv.2.1 HS8.out.sv.2.2 HFi.out.small.1 (by omega)).mono ?_
          rintro e w9 ⟨⟨x1, x2, x3, rfl, S9⟩, hb9⟩
          have HFq : Hid (Fine (feedN s.ph (s.nx : Int) s.buf s.he s.fr s.bo s.R s.T s.V 1 Y).1) := feedN_fine _ _ _ _ _ _ _ _ _ _ _
          have HG3 : Hid (sesGo k B q7 (feedN s.ph (s.nx : Int) s.buf s.he s.fr s.bo s.R s.T s.V 1 Y).1 = Z) := HG2.out
          generalize feedN s.ph (s.nx : Int) s.buf s.he s.fr s.bo s.R s.T s.V 1 Y = Q at S9 HFq HG3 ⊢
          obtain ⟨m1, j1, hx1⟩ := strs_form2 S9.1
          obtain ⟨m2, j2, hx2⟩ := bls_form S9.2.1
          obtain ⟨m3, j3, hx3⟩ := vds_formD S9.2.2
          subst hx1 hx2 hx3
          have HP : Hid _ := HS8.out.put hb9 S9
          have HB9 : Hid (SB w4.heap.size s _ _ _ w9) := SB.below HS8.out.sb hb9
          have HZ9 : Hid (SB w.heap.size sn0 (.slice none 0 0) (.slice none 0 0) (.slice none 0 0) w9) := SB.below HZ8.out hb9
          have H9 : Hid (RdAt w9 b cv B q7) := H8.out.below hb9 (Nat.le_refl _)
          have o9 : Off b w w9 := o8.trans (Off.of_below hb9)
          have z9 := hb9.size
          obtain ⟨a0, a1, a2, a3, a4, a5, a6, a7, a8⟩ := HB9.out.cells
          obtain ⟨f0, f1, f2, f3, f4, f5, f6, f7, f8⟩ := HB9.out.frees
          have ltB : w4.heap.size < w9.heap.size := HB9.out.lt
          clear S9 hb9 HS8 HZ8 H8 o8 HG2
          go_wp2
          go_roundw
          case rel => exact ⟨k, q7, Q.1, _, _, _, _, _, _, by go_num, by omega, HG3, HFq, HP, sb_nine HZ9.out (by omega) _ _ _ _ _ _ _ _ _, H.out.carry H9.out (below_nine (Below.refl _ _) (by omega) _ _ _ _ _ _ _ _ _), o9.carry (below_nine (Below.refl _ _) (by omega) _ _ _ _ _ _ _ _ _) (Nat.le_refl _), by simp; omega⟩
          case measure => simp [intOf]
      · obtain rfl : n = 0 := by omega
        obtain rfl : Z = (s, q) := HG.out.symm
        obtain ⟨r0, r1, r2, r3, r4, r5, r6, r7, r8⟩ := HZr.out.zero
        obtain ⟨rf0, rf1, rf2, rf3, rf4, rf5, rf6, rf7, rf8⟩ := HZr.out.frees
        have zl : w.heap.size < wr.heap.size := HZr.out.lt
        go_wp2
        refine bodyPost_ret (v := .agg #[.int .i64 s.ph, .string s.buf, .string s.he, .string s.fr, .string s.bo, .slice y1 s.R.length k1, .int .i64 (s.nx : Int), .slice y2 s.T.length k2, .slice y3 s.V.length k3]) (by simp [results, Tryz.results52, go_sem, r0, r1, r2, r3, r4, r5, r6, r7, r8]) rfl ?_
        rw [HE.out]
        refine ⟨⟨_, _, _, rfl, ?_⟩, ?_, ?_⟩
        · exact (HSr.out.sv.nine (b := w.heap.size) (by omega) _ _ _ _ _ _ _ _ _).le (by omega)
        · exact H.out.carry HR.out (below_nine (Below.refl _ _) (Nat.le_refl _) _ _ _ _ _ _ _ _ _)
        · exact orr.carry (below_nine (Below.refl _ _) (Nat.le_refl _) _ _ _ _ _ _ _ _ _) (Nat.le_refl _)
end Go.Proofs.YtngcjlghjidnjaaGreatDoor
namespace Go.Proofs.YtngcjlghjidnjaaGreatDoor
open Pcs

/-- RCPT lines, one behind another -/
def accR (a : ByteArray) (L : List ByteArray) : ByteArray := L.foldl (fun a r => a ++ cmdB 4 r) a
theorem accR_cat (a : ByteArray) : ∀ (L : List ByteArray) (b : ByteArray), accR (a ++ b) L = a ++ accR b L
  | [], _ => rfl
  | r :: L, b => by
    show accR (a ++ b ++ cmdB 4 r) L = a ++ accR (b ++ cmdB 4 r) L
    rw [cat_assoc, accR_cat a L]
theorem accR_two (a : ByteArray) (L M : List ByteArray) : accR a (L ++ M) = accR (accR a L) M := List.foldl_append
theorem accR_pre (a : ByteArray) (L : List ByteArray) : accR a L = a ++ accR ⟨#[]⟩ L := by
  have := accR_cat a L ⟨#[]⟩
  rw [cat_nil] at this
  exact this
theorem accR_snoc (a : ByteArray) (L : List ByteArray) (r : ByteArray) : accR a (L ++ [r]) = accR a L ++ cmdB 4 r := accR_two a L [r]
def hdB (b : Bool) (he : ByteArray) : ByteArray := if b then cmdB 1 he ++ cmdB 2 he else cmdB 1 he
def allB (fr bo : ByteArray) (R : List ByteArray) : ByteArray := accR (cmdB 3 fr) R ++ (cmdB 5 ⟨#[]⟩ ++ stuffB bo)
def lineB (s : Sn) (b : Bool) : ByteArray := hdB b s.he ++ allB s.fr s.bo s.R
def Pre (P L : ByteArray) : Prop := ∃ r, L = P ++ r
theorem Pre.refl (P : ByteArray) : Pre P P := ⟨⟨#[]⟩, (cat_nil P).symm⟩
theorem Pre.cat (P r : ByteArray) : Pre P (P ++ r) := ⟨r, rfl⟩
theorem Pre.more {P L : ByteArray} (h : Pre P L) (r : ByteArray) : Pre P (L ++ r) := by
  obtain ⟨x, rfl⟩ := h
  exact ⟨x ++ r, cat_assoc _ _ _⟩
theorem Pre.front {P L : ByteArray} (h : Pre P L) (a : ByteArray) : Pre (a ++ P) (a ++ L) := by
  obtain ⟨x, rfl⟩ := h
  exact ⟨x, (cat_assoc _ _ _).symm⟩
theorem pre_acc (a : ByteArray) (R : List ByteArray) (n : Nat) : Pre (accR a (R.take n)) (accR a R) := by
  refine ⟨accR ⟨#[]⟩ (R.drop n), ?_⟩
  rw [← accR_pre, ← accR_two, List.take_append_drop]
/-- whom nothing has been said of has been taken -/
def Und (s : Sn) (n : Nat) : Prop := ∀ i, i < n → (s.V.getD i vd0).1 = 0 → s.T.getD i false = true
def Mid (s : Sn) (sent : ByteArray) (b : Bool) : Prop := (∀ v ∈ s.V, v.1 ≠ 1) ∧
  ((s.ph = 1 ∧ sent = ⟨#[]⟩ ∧ b = false) ∨ (s.ph = 2 ∧ sent = hdB b s.he ∧ b = false) ∨ (s.ph = 3 ∧ sent = hdB b s.he ∧ b = true) ∨ (s.ph = 4 ∧ sent = hdB b s.he ++ cmdB 3 s.fr) ∨
   (s.ph = 5 ∧ sent = hdB b s.he ++ accR (cmdB 3 s.fr) (s.R.take (s.nx + 1)) ∧ Und s s.nx) ∨
   (s.ph = 6 ∧ sent = hdB b s.he ++ (accR (cmdB 3 s.fr) s.R ++ cmdB 5 ⟨#[]⟩) ∧ Und s s.R.length) ∨ (s.ph = 7 ∧ sent = lineB s b ∧ Und s s.R.length))
def Fin (s : Sn) (sent : ByteArray) (b : Bool) : Prop := 8 ≤ s.ph ∧ (∀ v ∈ s.V, v.1 ≠ 0) ∧ ∃ P, Pre P (lineB s b) ∧ (b = true → Pre (hdB true s.he) P) ∧ (sent = P ∨ sent = P ++ tQuit) ∧ ∀ i, i < s.V.length → (s.V.getD i vd0).1 = 1 → s.T.getD i false = true ∧ P = lineB s b ∧ sent = P ++ tQuit
theorem Mid.pre {s : Sn} {sent : ByteArray} {b : Bool} (h : Mid s sent b) : Pre sent (lineB s b) ∧ (b = true → Pre (hdB true s.he) sent) := by
  unfold lineB allB
  rcases h.2 with ⟨_, rfl, rfl⟩ | ⟨_, rfl, rfl⟩ | ⟨_, rfl, rfl⟩ | ⟨_, rfl⟩ | ⟨_, rfl, _⟩ | ⟨_, rfl, _⟩ | ⟨_, rfl, _⟩
  · exact ⟨⟨_, (nil_cat _).symm⟩, fun e => by cases e⟩
  · exact ⟨Pre.cat _ _, fun e => by cases e⟩
  · exact ⟨Pre.cat _ _, fun _ => Pre.refl _⟩
  · refine ⟨Pre.front (Pre.more ?_ _) _, fun e => by rw [e]; exact Pre.cat _ _⟩
    rw [accR_pre]
    exact Pre.cat _ _
  · exact ⟨Pre.front (Pre.more (pre_acc _ _ _) _) _, fun e => by rw [e]; exact Pre.cat _ _⟩
  · refine ⟨Pre.front (Pre.front (Pre.cat _ _) _) _, fun e => by rw [e]; exact Pre.cat _ _⟩
  · exact ⟨Pre.refl _, fun e => by unfold lineB; rw [e]; exact Pre.cat _ _⟩
theorem getD_mem {V : List Vd} {i : Nat} (h : i < V.length) : V.getD i vd0 ∈ V := by
  rw [List.getD_eq_getElem?_getD, List.getElem?_eq_getElem h]
  exact List.getElem_mem h
theorem dec_ne {v : Vd} {V : List Vd} (h0 : v.1 ≠ 0) : ∀ x ∈ decV v V, x.1 ≠ 0 := by
  intro x hx
  obtain ⟨y, hy, rfl⟩ := List.mem_map.1 hx
  unfold dec1
  split
  · exact h0
  · assumption
theorem dec_no1 {v : Vd} {V : List Vd} (h1 : v.1 ≠ 1) (hV : ∀ x ∈ V, x.1 ≠ 1) : ∀ x ∈ decV v V, x.1 ≠ 1 := by
  intro x hx
  obtain ⟨y, hy, rfl⟩ := List.mem_map.1 hx
  unfold dec1
  split
  · exact h1
  · exact hV y hy
theorem Mid.fin {s : Sn} {sent : ByteArray} {b : Bool} (h : Mid s sent b) {v : Vd} (h0 : v.1 ≠ 0) (h1 : v.1 ≠ 1) {ph : Int} (h8 : 8 ≤ ph) (bb : ByteArray) {sent' : ByteArray} (hs : sent' = sent ∨ sent' = sent ++ tQuit) : Fin { (s.dec v).to ph with buf := bb } sent' b := by
  refine ⟨h8, dec_ne h0, sent, h.pre.1, h.pre.2, hs, ?_⟩
  intro i hi e
  exact absurd e (dec_no1 h1 h.1 _ (getD_mem hi))
theorem ref_ne (c : Nat) (t : ByteArray) : (refV c t).1 ≠ 0 ∧ (refV c t).1 ≠ 1 := by
  unfold refV
  dsimp only
  split <;> decide
/-- what a dialogue has come to, and what it has sent -/
def Hist (s : Sn) (sent : ByteArray) : Prop := ∃ b, Mid s sent b ∨ Fin s sent b
theorem Hist.buf {s : Sn} {sent : ByteArray} (h : Hist s sent) (bb : ByteArray) : Hist { s with buf := bb } sent := h
theorem Mid.quit {s : Sn} {sent : ByteArray} {b : Bool} (h : Mid s sent b) {v : Vd} (h0 : v.1 ≠ 0) (h1 : v.1 ≠ 1) : Hist (s.quit v).1 (sent ++ (s.quit v).2) := ⟨b, .inr (h.fin h0 h1 (ph := 8) (by decide) s.buf (.inr rfl))⟩
theorem set_getD_eq {α : Type} {L : List α} {n : Nat} {x y : α} (h : n < L.length) : (L.set n x).getD n y = x := by simp [h]
theorem set_getD_ne {α : Type} {L : List α} {n i : Nat} {x y : α} (h : n ≠ i) : (L.set n x).getD i y = L.getD i y := by simp [List.getElem?_set_ne h]
theorem hist_rcpt {s : Sn} (hk : s.Ok) {sent : ByteArray} {b : Bool} (hV : ∀ v ∈ s.V, v.1 ≠ 1) (h5 : s.ph = 5) (hs : sent = hdB b s.he ++ accR (cmdB 3 s.fr) (s.R.take (s.nx + 1))) (hu : Und s s.nx) (c : Nat) (t : ByteArray) :
    Hist (s.mark c t).next.1 (sent ++ (s.mark c t).next.2) := by
  obtain ⟨m1, m2, m3, m4, m5, m6, m7, m8, m9⟩ := hk.mark c t h5
  have hn := hk.n5 h5
  have hU : Und (s.mark c t) (s.nx + 1) := by
    intro i hi
    unfold Sn.mark
    split
    · dsimp only
      by_cases e : s.nx = i
      · intro _; rw [← e]; exact set_getD_eq (by rw [hk.t]; exact hn)
      · rw [set_getD_ne e]; exact hu i (by omega)
    · dsimp only
      by_cases e : s.nx = i
      · intro e0; rw [← e, set_getD_eq (by rw [hk.v]; exact hn)] at e0; exact absurd e0 (ref_ne c t).1
      · rw [set_getD_ne e]; exact hu i (by omega)
  have hV1 : ∀ v ∈ (s.mark c t).V, v.1 ≠ 1 := by
    intro v hv
    unfold Sn.mark at hv
    split at hv
    · exact hV v hv
    · rcases List.mem_or_eq_of_mem_set hv with e | e
      · exact hV v e
      · rw [e]; exact (ref_ne c t).2
  have hs2 : sent = hdB b (s.mark c t).he ++ accR (cmdB 3 (s.mark c t).fr) ((s.mark c t).R.take (s.mark c t).nx) := by rw [m6, m7, m5, m3]; exact hs
  have hkT : (s.mark c t).T.length = (s.mark c t).R.length := by rw [m1, m5]
  have hkV : (s.mark c t).V.length = (s.mark c t).R.length := by rw [m2, m5]
  have hn2 : (s.mark c t).nx ≤ (s.mark c t).R.length := by rw [m3, m5]; omega
  rw [← m3] at hU
  generalize s.mark c t = x at *
  unfold Sn.next
  split
  · rename_i hl
    refine ⟨b, .inl ⟨hV1, .inr (.inr (.inr (.inr (.inl ⟨m4, ?_, hU⟩))))⟩⟩
    rw [hs2, List.take_add_one, List.getElem?_eq_getElem hl]
    show _ = _ ++ accR _ (_ ++ [x.R[x.nx]])
    rw [accR_snoc, cat_assoc, List.getD_eq_getElem?_getD, List.getElem?_eq_getElem hl]
    rfl
  · rename_i hl
    have he : x.nx = x.R.length := by omega
    rw [he, List.take_length] at hs2
    rw [he] at hU
    split
    · refine ⟨b, .inl ⟨hV1, .inr (.inr (.inr (.inr (.inr (.inl ⟨rfl, ?_, hU⟩)))))⟩⟩
      rw [hs2, cat_assoc]
      rfl
    · rename_i hT
      refine ⟨b, .inr ⟨by show (8 : Int) ≤ 8; decide, ?_, sent, ?_, ?_, .inr rfl, ?_⟩⟩
      · intro v hv e0
        obtain ⟨i, hi, rfl⟩ := List.getElem_of_mem (show v ∈ x.V from hv)
        have hiR : i < x.R.length := by rw [← hkV]; exact hi
        have e1 : (x.V.getD i vd0).1 = 0 := by rw [List.getD_eq_getElem?_getD, List.getElem?_eq_getElem hi]; exact e0
        have e2 := hU i hiR e1
        have hiT : i < x.T.length := by rw [hkT]; exact hiR
        rw [List.getD_eq_getElem?_getD, List.getElem?_eq_getElem hiT] at e2
        have e3 : x.T[i] = true := e2
        exact hT (by rw [← e3]; exact List.getElem_mem hiT)
      · rw [hs2]
        exact Pre.front (Pre.cat _ _) _
      · intro e
        rw [hs2, e]
        exact Pre.cat _ _
      · intro i hi e
        exact absurd e (hV1 _ (getD_mem hi))
set_option maxHeartbeats 1000000 in
theorem hist_take {s : Sn} (hk : s.Ok) {sent : ByteArray} (h : Hist s sent) (h9 : s.ph ≠ 9) (c : Nat) (L : List ByteArray) : Hist (s.take c L).1 (sent ++ (s.take c L).2) := by
  obtain ⟨b, h⟩ := h
  rcases h with h | h
  · have r := ref_ne c (L.getD 0 ⟨#[]⟩)
    by_cases hc : c = 421
    · subst hc
      have h8 : s.ph ≠ 8 := by rcases h.2 with h | h | h | h | h | h | h <;> (have := h.1; omega)
      rw [take_421 h8, cat_nil]
      exact ⟨b, .inr (h.fin r.1 r.2 (ph := 9) (by decide) s.buf (.inl rfl))⟩
    have h2 := h
    rcases h2.2 with ⟨p, e, eb⟩ | ⟨p, e, eb⟩ | ⟨p, e, eb⟩ | ⟨p, e⟩ | ⟨p, e, u⟩ | ⟨p, e, u⟩ | ⟨p, e, u⟩
    · rw [take_1 p hc]
      split
      · refine ⟨false, .inl ⟨h.1, .inr (.inl ⟨rfl, ?_, rfl⟩)⟩⟩
        rw [e, nil_cat]; rfl
      · exact h.quit r.1 r.2
    · rw [take_2 p hc]
      split
      · split
        · exact h.quit (v := (3, 552, ⟨#[115, 105, 122, 101]⟩)) (by decide) (by decide)
        · refine ⟨b, .inl ⟨h.1, .inr (.inr (.inr (.inl ⟨rfl, ?_⟩)))⟩⟩
          rw [e]; rfl
      · split
        · refine ⟨true, .inl ⟨h.1, .inr (.inr (.inl ⟨rfl, ?_, rfl⟩))⟩⟩
          rw [e, eb]; rfl
        · exact h.quit r.1 r.2
    · rw [take_3 p hc]
      split
      · refine ⟨b, .inl ⟨h.1, .inr (.inr (.inr (.inl ⟨rfl, ?_⟩)))⟩⟩
        rw [e]; rfl
      · exact h.quit r.1 r.2
    · rw [take_4 p hc]
      split
      · refine ⟨b, .inl ⟨h.1, .inr (.inr (.inr (.inr (.inl ⟨rfl, ?_, fun i hi => absurd hi (Nat.not_lt_zero _)⟩))))⟩⟩
        have hr := hk.r1
        show sent ++ cmdB 4 (s.R.getD 0 ⟨#[]⟩) = hdB b s.he ++ accR (cmdB 3 s.fr) (s.R.take 1)
        rw [e, cat_assoc]
        cases hR : s.R with
        | nil => rw [hR] at hr; exact absurd hr (by simp)
        | cons x l => rfl
      · exact h.quit r.1 r.2
    · rw [take_5 p hc]
      exact hist_rcpt hk h.1 p e u c _
    · rw [take_6 p hc]
      split
      · refine ⟨b, .inl ⟨h.1, .inr (.inr (.inr (.inr (.inr (.inr ⟨rfl, ?_, u⟩)))))⟩⟩
        show sent ++ stuffB s.bo = hdB b s.he ++ (accR (cmdB 3 s.fr) s.R ++ (cmdB 5 ⟨#[]⟩ ++ stuffB s.bo))
        rw [e, cat_assoc, cat_assoc]
      · exact h.quit r.1 r.2
    · rw [take_7 p hc]
      split
      · refine ⟨b, .inr ⟨by show (8 : Int) ≤ 8; decide, dec_ne (v := (1, 250, L.getD 0 ⟨#[]⟩)) (by show (1 : Int) ≠ 0; decide), sent, h.pre.1, h.pre.2, .inr rfl, ?_⟩⟩
        intro i hi e1
        refine ⟨?_, e, rfl⟩
        have hi2 : i < s.V.length := by rw [← decV_len (1, 250, L.getD 0 ⟨#[]⟩) s.V]; exact hi
        refine u i (by rw [← hk.v]; exact hi2) ?_
        have e2 : ((decV (1, 250, L.getD 0 ⟨#[]⟩) s.V).getD i vd0).1 = 1 := e1
        rw [List.getD_eq_getElem?_getD, decV, List.getElem?_map, List.getElem?_eq_getElem hi2] at e2
        rw [List.getD_eq_getElem?_getD, List.getElem?_eq_getElem hi2]
        have e3 : (dec1 (1, 250, L.getD 0 ⟨#[]⟩) s.V[i]).1 = 1 := e2
        show s.V[i].1 = 0
        unfold dec1 at e3
        split at e3
        · assumption
        · exact absurd e3 (h.1 _ (List.getElem_mem hi2))
      · exact h.quit r.1 r.2
  · have h8 : s.ph = 8 := by have := h.1; have := hk.p9; omega
    rw [take_8 h8, cat_nil]
    exact ⟨b, .inr ⟨by show (8 : Int) ≤ 9; decide, h.2⟩⟩
theorem hist_lost {s : Sn} {sent : ByteArray} (h : Hist s sent) (t : ByteArray) : Hist (s.lost t) sent := by
  obtain ⟨b, h⟩ := h
  rcases h with h | h
  · exact ⟨b, .inr (h.fin (v := (2, 0, t)) (by show (2 : Int) ≠ 0; decide) (by show (2 : Int) ≠ 1; decide) (ph := 9) (by decide) ⟨#[]⟩ (.inl rfl))⟩
  · obtain ⟨_, hV, P, hP⟩ := h
    have eV : decV (2, 0, t) s.V = s.V := by
      unfold decV
      refine (List.map_congr_left (g := id) ?_).trans (List.map_id _)
      intro x hx
      unfold dec1
      rw [if_neg (hV x hx)]
      rfl
    refine ⟨b, .inr ⟨by show (8 : Int) ≤ 9; decide, ?_, P, ?_⟩⟩
    · show ∀ v ∈ decV (2, 0, t) s.V, v.1 ≠ 0
      rw [eV]; exact hV
    · show Pre P (lineB s b) ∧ _ ∧ _ ∧ ∀ i, i < (decV (2, 0, t) s.V).length → ((decV (2, 0, t) s.V).getD i vd0).1 = 1 → _
      rw [eV]; exact hP
theorem hist_rep : ∀ (k : Nat) (s : Sn) (sent : ByteArray), s.Pr → s.ph ≠ 9 → Hist s sent → Hist (Sn.rep k s).1 (sent ++ (Sn.rep k s).2)
  | 0, s, sent, _, _, h => by rw [Sn.rep, cat_nil]; exact h
  | k + 1, s, sent, hk, h9, h => by
    cases hp : parse s.buf with
    | more => rw [rep_more hp, cat_nil]; exact h
    | bad =>
      rw [rep_bad hp, cat_nil]
      exact hist_lost h tBad
    | ok c L u =>
      obtain ⟨c1, c2, c3⟩ := parse_code hp
      have hz : (s.buf.extract u s.buf.size).size ≤ s.buf.size := by rw [ByteArray.size_extract]; omega
      have hkc := hk.bufTo (b := s.buf.extract u s.buf.size) (by have := hk.ok.bf; omega)
      have ht := hist_take hkc.ok (h.buf _) h9 c L
      have hkt := hkc.take L c1 c2 c3
      rw [rep_ok hp]
      split
      · exact ht.buf _
      · rename_i hq
        have := hist_rep k _ _ hkt hq ht
        rw [cat_assoc] at this
        exact this
theorem lost_same (s : Sn) (t : ByteArray) : (s.lost t).he = s.he ∧ (s.lost t).fr = s.fr ∧ (s.lost t).bo = s.bo ∧ (s.lost t).R = s.R := ⟨rfl, rfl, rfl, rfl⟩
def Same (s t : Sn) : Prop := t.he = s.he ∧ t.fr = s.fr ∧ t.bo = s.bo ∧ t.R = s.R
theorem Same.trans {s t u : Sn} (h : Same s t) (k : Same t u) : Same s u := ⟨k.1.trans h.1, k.2.1.trans h.2.1, k.2.2.1.trans h.2.2.1, k.2.2.2.trans h.2.2.2⟩
theorem take_same (s : Sn) (c : Nat) (L : List ByteArray) : Same s (s.take c L).1 := by
  have hm : ∀ t, Same s (s.mark c t) := fun t => by unfold Sn.mark; split <;> exact ⟨rfl, rfl, rfl, rfl⟩
  have hn : ∀ x : Sn, Same x x.next.1 := fun x => by unfold Sn.next; repeat' split <;> try exact ⟨rfl, rfl, rfl, rfl⟩
  unfold Sn.take
  repeat' split
  all_goals first
    | exact ⟨rfl, rfl, rfl, rfl⟩
    | exact (hm _).trans (hn _)
theorem rep_same : ∀ (k : Nat) (s : Sn), Same s (Sn.rep k s).1
  | 0, s => ⟨rfl, rfl, rfl, rfl⟩
  | k + 1, s => by
    cases hp : parse s.buf with
    | more => rw [rep_more hp]; exact ⟨rfl, rfl, rfl, rfl⟩
    | bad => rw [rep_bad hp]; exact ⟨rfl, rfl, rfl, rfl⟩
    | ok c L u =>
      have h1 : Same s (Sn.take { s with buf := s.buf.extract u s.buf.size } c L).1 := take_same { s with buf := s.buf.extract u s.buf.size } c L
      rw [rep_ok hp]
      split
      · exact h1
      · exact h1.trans (rep_same k _)
theorem hist_feed {s : Sn} (hk : s.Pr) {sent : ByteArray} (h : Hist s sent) (kind : Int) (d : ByteArray) : Hist (s.feed true kind d).1 (sent ++ (s.feed true kind d).2) ∧ Same s (s.feed true kind d).1 := by
  unfold Sn.feed
  rw [if_neg (by decide)]
  split
  · exact ⟨by rw [cat_nil]; exact h, rfl, rfl, rfl, rfl⟩
  · rename_i h9
    split
    · exact ⟨by rw [cat_nil]; exact hist_lost h _, rfl, rfl, rfl, rfl⟩
    · split
      · exact ⟨by rw [cat_nil]; exact hist_lost h _, rfl, rfl, rfl, rfl⟩
      · split
        · exact ⟨by rw [cat_nil]; exact hist_lost h _, rfl, rfl, rfl, rfl⟩
        · rename_i hz
          exact ⟨hist_rep _ _ _ (hk.bufTo (b := s.buf ++ d) (by rw [ByteArray.size_append]; omega)) h9 (h.buf _), rep_same _ { s with buf := s.buf ++ d }⟩
/-- a session that is closed is done -/
theorem feed_close (s : Sn) (d : ByteArray) : (s.feed true 2 d).1.ph = 9 := by
  unfold Sn.feed
  rw [if_neg (by decide)]
  split
  · assumption
  · rw [if_neg (by decide), if_pos (by decide)]
    rfl
theorem Hist.done {s : Sn} {sent : ByteArray} (h : Hist s sent) (h9 : s.ph = 9) : ∃ b, Fin s sent b := by
  obtain ⟨b, h | h⟩ := h
  · rcases h.2 with h | h | h | h | h | h | h <;> (have := h.1; omega)
  · exact ⟨b, h⟩
end Go.Proofs.YtngcjlghjidnjaaGreatDoor
namespace Go.Proofs.YtngcjlghjidnjaaGreatDoor
open Pcs

theorem cat_parts (d : ByteArray) (k : Nat) : d.extract 0 k ++ d.extract k d.size = d := by
  have h1 : d.size = d.data.toList.length := by rw [Array.length_toList]; rfl
  apply ByteArray.ext
  apply Array.ext'
  rw [cat_list, ByteArray.data_extract, ByteArray.data_extract, Array.toList_extract, Array.toList_extract, List.extract_eq_take_drop, List.extract_eq_take_drop, h1, List.drop_zero, Nat.sub_zero, List.take_of_length_le (i := _ - _) (by simp only [List.length_drop]; omega)]
  exact List.take_append_drop _ _
theorem ext_front (t r : ByteArray) : (t ++ r).extract 0 t.size = t := by
  have h1 : t.size = t.data.toList.length := by rw [Array.length_toList]; rfl
  apply ByteArray.ext
  apply Array.ext'
  rw [ByteArray.data_extract, Array.toList_extract, cat_list, List.extract_eq_take_drop, List.drop_zero, Nat.sub_zero, h1, List.take_left]
theorem ext_back (t r : ByteArray) : (t ++ r).extract t.size (t ++ r).size = r := by
  have h1 : t.size = t.data.toList.length := by rw [Array.length_toList]; rfl
  have h2 : (t ++ r).size = (t ++ r).data.toList.length := by rw [Array.length_toList]; rfl
  apply ByteArray.ext
  apply Array.ext'
  rw [ByteArray.data_extract, Array.toList_extract, h2, cat_list, List.extract_eq_take_drop, h1, List.drop_left, List.take_of_length_le (by simp only [List.length_append]; omega)]
/-- s begins with t -/
def begB (s t : ByteArray) : Bool := decide (t.size ≤ s.size ∧ s.extract 0 t.size = t)
theorem beg_iff {s t : ByteArray} : begB s t = true ↔ Pre t s := by
  unfold begB
  rw [decide_eq_true_eq]
  constructor
  · rintro ⟨_, h⟩
    refine ⟨s.extract t.size s.size, ?_⟩
    have := cat_parts s t.size
    rw [h] at this
    exact this.symm
  · rintro ⟨r, rfl⟩
    exact ⟨by rw [ByteArray.size_append]; omega, ext_front t r⟩
theorem quit_size : tQuit.size = 6 := by decide
def endsQ (sent : ByteArray) : Bool := decide (6 ≤ sent.size ∧ sent.extract (sent.size - 6) sent.size = tQuit)
/-- what was sent, less a QUIT that the line does not have -/
def bareB (line sent : ByteArray) : ByteArray := if endsQ sent = true ∧ begB line sent = false then sent.extract 0 (sent.size - 6) else sent
theorem quit_cut (P : ByteArray) : (P ++ tQuit).extract 0 ((P ++ tQuit).size - 6) = P ∧ endsQ (P ++ tQuit) = true := by
  have h : (P ++ tQuit).size - 6 = P.size := by rw [ByteArray.size_append, quit_size]; omega
  unfold endsQ
  rw [h, decide_eq_true_eq]
  exact ⟨ext_front _ _, by rw [ByteArray.size_append, quit_size]; omega, ext_back _ _⟩
theorem bare_right {s : Sn} {sent : ByteArray} {b : Bool} (h : Fin s sent b) : begB (lineB s b) (bareB (lineB s b) sent) = true := by
  obtain ⟨_, _, P, hP, _, hs, _⟩ := h
  unfold bareB
  rcases hs with rfl | rfl
  · rw [if_neg (by rw [beg_iff.2 hP]; simp)]
    exact beg_iff.2 hP
  · split
    · rw [(quit_cut P).1]; exact beg_iff.2 hP
    · rename_i hn
      cases hb : begB (lineB s b) (P ++ tQuit) with
      | true => rfl
      | false => exact absurd ⟨(quit_cut P).2, hb⟩ hn
theorem bare_full {s : Sn} {sent : ByteArray} {b : Bool} (h : Fin s sent b) {i : Nat} (hi : i < s.V.length) (h1 : (s.V.getD i vd0).1 = 1) : bareB (lineB s b) sent = lineB s b ∧ s.T.getD i false = true := by
  obtain ⟨_, _, P, hP, _, hs, hv⟩ := h
  obtain ⟨hT, rfl, rfl⟩ := hv i hi h1
  refine ⟨?_, hT⟩
  have hb : begB (lineB s b) (lineB s b ++ tQuit) = false := by
    unfold begB
    rw [decide_eq_false]
    rintro ⟨hz, _⟩
    rw [ByteArray.size_append, quit_size] at hz
    omega
  unfold bareB
  rw [if_pos ⟨(quit_cut _).2, hb⟩, (quit_cut _).1]
theorem helo_list {he : ByteArray} (h : domOk he = true) : ∃ t, (cmdB 2 he).data.toList = 72 :: t ∧ 6 ≤ t.length := by
  have e : cmdB 2 he = (⟨#[72, 69, 76, 79, 32]⟩ : ByteArray) ++ he ++ ⟨#[13, 10]⟩ := by
    unfold cmdB
    rw [if_neg (by decide), if_pos rfl, if_pos h]
    rfl
  refine ⟨[69, 76, 79, 32] ++ he.data.toList ++ [13, 10], ?_, by simp⟩
  rw [e, cat_list, cat_list]
  rfl
theorem mail_list {fr : ByteArray} (h : fr.size = 0 ∨ addrOk fr = true) : ∃ t, (cmdB 3 fr).data.toList = 77 :: t := by
  have e : cmdB 3 fr = (⟨#[77, 65, 73, 76, 32, 70, 82, 79, 77, 58, 60]⟩ : ByteArray) ++ fr ++ ⟨#[62, 13, 10]⟩ := by
    unfold cmdB
    rw [if_neg (by decide), if_neg (by decide), if_pos rfl, if_pos h]
    rfl
  refine ⟨[65, 73, 76, 32, 70, 82, 79, 77, 58, 60] ++ fr.data.toList ++ [62, 13, 10], ?_⟩
  rw [e, cat_list, cat_list]
  rfl
theorem Sn.Pr.parts {s : Sn} (h : s.Pr) : domOk s.he = true ∧ (s.fr.size = 0 ∨ addrOk s.fr = true) ∧ ∀ r ∈ s.R, addrOk r = true := by
  obtain ⟨⟨_, _, _, h4, h5, _⟩, _⟩ := Sn.pr_iff.1 h
  unfold whomN at h5
  simp only [Bool.and_eq_true, Bool.or_eq_true, decide_eq_true_eq, List.all_eq_true] at h5
  exact ⟨h4, h5.1, h5.2.2.2⟩
theorem bare_wrong {s : Sn} (hk : s.Pr) {sent : ByteArray} (h : Fin s sent true) : begB (lineB s false) (bareB (lineB s false) sent) = false := by
  obtain ⟨hd, hf, _⟩ := hk.parts
  obtain ⟨_, _, P, _, hE, hs, _⟩ := h
  obtain ⟨r, hr⟩ := hE rfl
  obtain ⟨t, ht, htl⟩ := helo_list hd
  obtain ⟨m, hm⟩ := mail_list hf
  have hh : hdB true s.he = cmdB 1 s.he ++ cmdB 2 s.he := rfl
  obtain ⟨x, hx⟩ : ∃ x : List UInt8, sent.data.toList = (cmdB 1 s.he).data.toList ++ 72 :: (t ++ x) := by
    rcases hs with rfl | rfl
    · exact ⟨r.data.toList, by rw [hr, hh, cat_list, cat_list, ht]; simp⟩
    · exact ⟨r.data.toList ++ tQuit.data.toList, by rw [hr, hh, cat_list, cat_list, cat_list, ht]; simp⟩
  have hsz : sent.size = sent.data.toList.length := by rw [Array.length_toList]; rfl
  obtain ⟨y, hy⟩ : ∃ y : List UInt8, (bareB (lineB s false) sent).data.toList = (cmdB 1 s.he).data.toList ++ 72 :: y := by
    unfold bareB
    split
    · refine ⟨(t ++ x).take (t.length + x.length - 6), ?_⟩
      rw [ByteArray.data_extract, Array.toList_extract, List.extract_eq_take_drop, List.drop_zero, Nat.sub_zero, hsz, hx]
      have e : ((cmdB 1 s.he).data.toList ++ 72 :: (t ++ x)).length - 6 = (cmdB 1 s.he).data.toList.length + ((t.length + x.length - 6) + 1) := by
        simp only [List.length_append, List.length_cons]
        omega
      rw [e, List.take_length_add_append, List.take_succ_cons]
    · exact ⟨t ++ x, hx⟩
  rw [Bool.eq_false_iff]
  intro hb
  obtain ⟨z, hz⟩ := beg_iff.1 hb
  have hz2 : (lineB s false).data.toList = (bareB (lineB s false) sent).data.toList ++ z.data.toList := by
    have := congrArg (fun q : ByteArray => q.data.toList) hz
    rw [cat_list] at this
    exact this
  have hl : (lineB s false).data.toList = (cmdB 1 s.he).data.toList ++ (77 :: (m ++ (accR ⟨#[]⟩ s.R).data.toList) ++ (cmdB 5 ⟨#[]⟩ ++ stuffB s.bo).data.toList) := by
    unfold lineB allB
    rw [accR_pre, cat_list, cat_list, cat_list, hm]
    rfl
  rw [hl, hy, List.append_assoc] at hz2
  have := List.append_cancel_left hz2
  simp at this
theorem rcpt_in {s : Sn} {b : Bool} {i : Nat} (hi : i < s.R.length) : Lib.index (lineB s b).data.toList (cmdB 4 (s.R[i])).data.toList ≠ -1 := by
  have e : s.R = s.R.take i ++ [s.R[i]] ++ s.R.drop (i + 1) := by simp
  have e2 : accR (cmdB 3 s.fr) s.R = accR (cmdB 3 s.fr) (s.R.take i) ++ cmdB 4 s.R[i] ++ accR ⟨#[]⟩ (s.R.drop (i + 1)) := by
    rw [← accR_snoc, ← accR_pre, ← accR_two, ← e]
  have e3 : (lineB s b).data.toList = (hdB b s.he ++ accR (cmdB 3 s.fr) (s.R.take i)).data.toList ++ ((cmdB 4 s.R[i]).data.toList ++ (accR ⟨#[]⟩ (s.R.drop (i + 1)) ++ (cmdB 5 ⟨#[]⟩ ++ stuffB s.bo)).data.toList) := by
    unfold lineB allB
    rw [e2]
    simp only [cat_list, List.append_assoc]
  generalize (lineB s b).data.toList = Ls at *
  subst e3
  rcases Lib.index_spec ((hdB b s.he ++ accR (cmdB 3 s.fr) (s.R.take i)).data.toList ++ ((cmdB 4 s.R[i]).data.toList ++ (accR ⟨#[]⟩ (s.R.drop (i + 1)) ++ (cmdB 5 ⟨#[]⟩ ++ stuffB s.bo)).data.toList)) (cmdB 4 s.R[i]).data.toList with ⟨_, hno⟩ | ⟨j, ej, _⟩
  · have := hno (hdB b s.he ++ accR (cmdB 3 s.fr) (s.R.take i)).data.toList.length (by simp)
    unfold Lib.occAt at this
    rw [List.drop_left, Bool.eq_false_iff] at this
    exact absurd (List.isPrefixOf_iff_prefix.2 (List.prefix_append _ _)) this
  · rw [ej]; omega
theorem acc_size {L : List ByteArray} (hL : ∀ r ∈ L, r.size ≤ 1000) : ∀ (a : ByteArray), (accR a L).size ≤ a.size + L.length * 1020 := by
  induction L with
  | nil => intro a; exact Nat.le_add_right _ _
  | cons r L ih =>
    intro a
    have h1 := ih (fun x hx => hL x (List.mem_cons_of_mem _ hx)) (a ++ cmdB 4 r)
    have h2 := cmd_size 4 r
    have h3 := hL r List.mem_cons_self
    show (accR (a ++ cmdB 4 r) L).size ≤ _
    rw [ByteArray.size_append] at h1
    rw [List.length_cons]
    omega
end Go.Proofs.YtngcjlghjidnjaaGreatDoor
