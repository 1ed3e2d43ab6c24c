import Derived.Test.YtngcjlghjidnjaaGreatDoorMg21
import Derived.Test.YtngcjlghjidnjaaGreatDoorMg8
import Derived.Test.YtngcjlghjidnjaaGreatDoorMg34
import Derived.Test.YtngcjlghjidnjaaGreatDoorMg28
import Derived.Deep.RegionHeld3
namespace Go.Proofs.YtngcjlghjidnjaaGreatDoor
open Go.ChangeShapes Go.WideShapes Go.ChangeAt Go.RowKit

theorem vrow_snoc (L : List Vd) (v : Vd) : vrow (L ++ [v]) = vrow L ++ vcells v := by unfold vrow; simp

set_option maxHeartbeats 4000000 in
set_option maxRecDepth 100000 in
theorem specOpen (he fr bo : ByteArray) (v : Value) (L : List ByteArray) (w : World) (h : ArgS w v L) (hh : he.size ≤ 1048576) (hf : fr.size ≤ 1048576) (hs : ∀ s ∈ L, s.size ≤ 1048576) (hbo : bo.size ≤ 1048576) :
    Calls Tryz.prog 7 #[.string he, .string fr, v, .string bo] w fun e w' => OpenPost he fr bo L w e w' := by
  have HA : Hid (ArgS w v L) := h
  have HS : Hid (∀ s ∈ L, s.size ≤ 1048576) := hs
  obtain ⟨a, c, rfl⟩ := h.form
  clear h hs
  have hd : domOk he = false ∨ domOk he = true := by cases domOk he <;> simp
  rcases hd with hd | hd
  · go_enter Tryz.func7, Tryz.ntmps7
    go_wp2_with fail
    refine (specDomain he _ hh).mono ?_
    rw [hd]
    rintro e w1 ⟨rfl, hb1⟩
    obtain ⟨g0, g1, g2, g3, g4, g5, g6, g7, g8, f0, f1, f2, f3, f4, f5, f6, f7, f8, hrz⟩ := resZ_of (by simpa using hb1)
    go_wp2
    refine bodyPost_ret (v := .agg #[.int .i64 9, .string ⟨#[]⟩, .string ⟨#[]⟩, .string ⟨#[]⟩, .string ⟨#[]⟩, .slice none 0 0, .int .i64 0, .slice none 0 0, .slice none 0 0]) (by simp [results, Tryz.results7, go_sem, g0, g1, g2, g3, g4, g5, g6, g7, g8]) rfl (open_no (by unfold openOk; rw [hd]; rfl) ?_)
    repeat (refine Below.setCell ?_ (by simp) _)
    exact (below1 w _).trans (hb1.mono (by simp))
  · go_enter Tryz.func7, Tryz.ntmps7
    go_wp2_with fail
    refine (specDomain he _ hh).mono ?_
    rw [hd]
    rintro e w1 ⟨rfl, hb1⟩
    have b1 : Below w.heap.size w w1 := (below1 w _).trans (hb1.mono (by simp))
    go_wp2_with fail
    refine (specWhom fr _ L _ (HA.out.below b1) hf HS.out).mono ?_
    rintro e w2 ⟨rfl, hb2⟩
    have b2 : Below w.heap.size w w2 := b1.trans (hb2.mono b1.size)
    have b02 := hb1.trans (hb2.mono hb1.size)
    clear hb1 hb2 b1
    cases hm : whomN fr L
    · obtain ⟨g0, g1, g2, g3, g4, g5, g6, g7, g8, f0, f1, f2, f3, f4, f5, f6, f7, f8, hrz⟩ := resZ_of (by simpa using b02)
      go_wp2
      refine bodyPost_ret (v := .agg #[.int .i64 9, .string ⟨#[]⟩, .string ⟨#[]⟩, .string ⟨#[]⟩, .string ⟨#[]⟩, .slice none 0 0, .int .i64 0, .slice none 0 0, .slice none 0 0]) (by simp [results, Tryz.results7, go_sem, g0, g1, g2, g3, g4, g5, g6, g7, g8]) rfl (open_no (by unfold openOk; rw [hm]; simp) ?_)
      repeat (refine Below.setCell ?_ (by simp) _)
      exact b2
    · go_wp2_with fail
      refine (specBody bo _ hbo).mono ?_
      rintro e w3 ⟨rfl, hb3⟩
      have b3 : Below w.heap.size w w3 := b2.trans (hb3.mono b2.size)
      have b03 := b02.trans (hb3.mono b02.size)
      have hrz3 := resZ_of (by simpa using b03)
      clear hb3 b2 b02
      cases hbk : bodyOk bo
      · obtain ⟨g0, g1, g2, g3, g4, g5, g6, g7, g8, f0, f1, f2, f3, f4, f5, f6, f7, f8, hrz⟩ := hrz3
        go_wp2
        refine bodyPost_ret (v := .agg #[.int .i64 9, .string ⟨#[]⟩, .string ⟨#[]⟩, .string ⟨#[]⟩, .string ⟨#[]⟩, .slice none 0 0, .int .i64 0, .slice none 0 0, .slice none 0 0]) (by simp [results, Tryz.results7, go_sem, g0, g1, g2, g3, g4, g5, g6, g7, g8]) rfl (open_no (by unfold openOk; rw [hbk]; simp) ?_)
        repeat (refine Below.setCell ?_ (by simp) _)
        exact b3
      · have hw : 1 ≤ L.length ∧ L.length ≤ 20 := by
          unfold whomN at hm
          simp only [Bool.and_eq_true, decide_eq_true_eq] at hm
          exact ⟨hm.2.1, hm.2.2.1⟩
        obtain ⟨b, off, cap, hv, hbw, hcell⟩ := HA.out.some hw.1
        injection hv with hv1 hv2 hv3
        subst hv1 hv3
        have HC : Hid (∀ i (hi : i < L.length), w.cell? ⟨b, off + i, none⟩ = some (.string L[i])) := hcell
        have hOK : openOk he fr bo L = true := by unfold openOk; rw [hd, hm, hbk]; rfl
        obtain ⟨i0, hi, hz0, hz1, hz2⟩ := info_parts infoStr
        obtain ⟨j0, hj, hy0, hy1, hy2⟩ := info_parts infoBool
        obtain ⟨k0, hk, hx0, hx1, hx2⟩ := info_parts infoVd
        have hlw : w.heap.size < w3.heap.size := by have := b03.size; simp at this; omega
        have HI : Hid (SpO w w3.heap.size he fr bo (.slice none 0 0) (.slice none 0 0) (.slice none 0 0) [] [] [] (w3.alloc (.cells #[.int .i64 1, .string ⟨#[]⟩, .string he, .string fr, .string bo, .slice none 0 0, .int .i64 0, .slice none 0 0, .slice none 0 0] 29))) := by
          have c : ∀ i, (w3.alloc (.cells #[.int .i64 1, .string ⟨#[]⟩, .string he, .string fr, .string bo, .slice none 0 0, .int .i64 0, .slice none 0 0, .slice none 0 0] 29)).cell? ⟨w3.heap.size, i, none⟩ = (#[.int .i64 1, .string ⟨#[]⟩, .string he, .string fr, .string bo, .slice none 0 0, .int .i64 0, .slice none 0 0, .slice none 0 0] : Array Value)[i]? := fun i => World.cell?_alloc_mark _ _ _ _ _
          exact ⟨hrz3.off (OffL.of_below (vs := []) (below1 w3 _)) hlw (fun v hv => by cases hv), hlw, by simp, c 0, c 1, c 2, c 3, c 4, c 5, c 6, c 7, c 8, fun o => World.frozen?_alloc_at _ _ _ _ rfl, World.ownsRow_nil _ _ _ _, World.ownsRow_nil _ _ _ _, World.ownsRow_nil _ _ _ _, by simp [Apart3, Value.ownBlock], b3.trans ((below1 w3 _).mono b3.size)⟩
        clear hcell hd hm hbk hrz3
        go_wp2_with fail
        generalize hW0 : w3.alloc _ = W0 at *
        generalize w3.heap.size = sb at *
        clear hW0
        go_loopw [33] (fun iv wr => ∃ (k : Nat) (a1 a2 a3 : Option Addr) (c1 c2 c3 : Nat), k ≤ L.length ∧ iv = .int .i64 k ∧ Hid (SpO w sb he fr bo (.slice a1 k c1) (.slice a2 k c2) (.slice a3 k c3) (L.take k) (List.replicate k false) (List.replicate k vd0) wr)) (fun iv _ => L.length - (intOf iv).toNat)
        case atStart => exact ⟨0, none, none, none, 0, 0, 0, Nat.zero_le _, rfl, HI⟩
        case round =>
          obtain ⟨k, a1, a2, a3, c1, c2, c3, hkl, rfl, H⟩ := hrel
          by_cases hlt : k < L.length
          · have H0 := H
            have ec := (H.out.bel.cell (p := ⟨b, off + k, none⟩) hbw).trans (HC.out k hlt)
            have HT1 : Hid (L.take (k + 1) = L.take k ++ [L[k]]) := by show _ = _; rw [List.take_succ_eq_append_getElem hlt]
            have HT2 : Hid ((L.take k).length = k) := by show _ = _; rw [List.length_take]; omega
            generalize L[k] = X at *
            have hown1 : wr.ownsRow (sb + 1) 9 1 (.slice a1 k c1) k ((L.take k).map Value.string) := by
              have := H0.out.s1
              unfold Strs at this
              rw [HT2.out] at this
              exact this
            have hl1 : sb < wr.heap.size := H0.out.lt
            have e1 := H0.out.c5
            go_wp2_with (at_builtin; refine wpList_append_lies _ rfl _ _ 23 rfl (sb + 1) 9 i0 (.string ⟨#[]⟩) 1 16 Tryz.underlying23 hi hz0 hz1 hz2 rfl (by decide) _ _ _ rfl (hown1.alloc _) ⟨wr.heap.size, 0, none⟩ 1 1 [.string X] rfl rfl ?c1 ?c2 ?c3 ?c4 ?c5 ?c6 (wr.heap.size + 1) ?c7 ?_)
            case c1 =>
              intro j u hj
              match j, hj with
              | 0, hj => simp at hj; subst hj; simp [Addr.add]
            case c2 => intro u hu; simp at hu; subst hu; rfl
            case c3 => decide
            case c4 => unfold maxLen; omega
            case c5 => omega
            case c6 => simp; omega
            case c7 => simp
            intro p1 q1 w1 hown1' hgrow1 hat1 hlt1
            have ho1 : OffL [(.slice a1 k c1)] wr w1 := (OffL.of_below (below1 wr _)).trans (OffL.ofGrown hgrow1 (by simp))
            have hlo1 : ∀ v ∈ ([(.slice a1 k c1)] : List Value), v.ownBlock ≠ some sb := fun v hv e => by
              rw [List.mem_singleton.1 hv] at e
              have := (hown1.lt sb e).1
              omega
            have e1' := (ho1.cell hl1 hlo1).trans e1
            have f1' := (ho1.frozen (i := 5) hl1 hlo1).trans (H0.out.fz 5)
            have H1' := H0.out.step1 (v' := .slice (some ⟨p1, 0, none⟩) (k + 1) q1) (R' := L.take (k + 1)) ho1 (by
              rcases hat1 with h | h
              · left; rw [h]; rfl
              · right; exact ⟨p1, rfl, by omega⟩) (by
              unfold Strs
              rw [HT1.out, List.length_append, HT2.out, List.map_append]
              simpa using hown1')
            clear hown1 hown1' hgrow1 hat1 ho1 hlo1
            go_upto_region 8 with fail
            generalize hW1 : World.setCell w1 _ _ = W1 at *
            have H1 : Hid _ := H1'
            clear e1' f1' H1' hW1 e1 H0
            have hown2 : W1.ownsRow (sb + 1) 4 1 (.slice a2 k c2) k ((List.replicate k false).map Value.bool) := by
              have := H1.out.s2
              unfold Bls at this
              rw [List.length_replicate] at this
              exact this
            have hl2 : sb < W1.heap.size := H1.out.lt
            have e2 := H1.out.c7
            go_wp2_with (at_builtin; refine wpList_append_lies _ rfl _ _ 26 rfl (sb + 1) 4 j0 (.bool false) 1 1 Tryz.underlying26 hj hy0 hy1 hy2 rfl (by decide) _ _ _ rfl (hown2.alloc _) ⟨W1.heap.size, 0, none⟩ 1 1 [.bool false] rfl rfl ?c1 ?c2 ?c3 ?c4 ?c5 ?c6 (W1.heap.size + 1) ?c7 ?_)
            case c1 =>
              intro j u hj
              match j, hj with
              | 0, hj => simp at hj; subst hj; simp [Addr.add]
            case c2 => intro u hu; simp at hu; subst hu; rfl
            case c3 => decide
            case c4 => unfold maxLen; omega
            case c5 => omega
            case c6 => simp; omega
            case c7 => simp
            intro p2 q2 w2 hown2' hgrow2 hat2 hlt2
            have ho2 : OffL [(.slice a2 k c2)] W1 w2 := (OffL.of_below (below1 W1 _)).trans (OffL.ofGrown hgrow2 (by simp))
            have hlo2 : ∀ v ∈ ([(.slice a2 k c2)] : List Value), v.ownBlock ≠ some sb := fun v hv e => by
              rw [List.mem_singleton.1 hv] at e
              have := (hown2.lt sb e).1
              omega
            have e2' := (ho2.cell hl2 hlo2).trans e2
            have f2' := (ho2.frozen (i := 7) hl2 hlo2).trans (H1.out.fz 7)
            have H2' := H1.out.step2 (v' := .slice (some ⟨p2, 0, none⟩) (k + 1) q2) (R' := List.replicate (k + 1) false) ho2 (by
              rcases hat2 with h | h
              · left; rw [h]; rfl
              · right; exact ⟨p2, rfl, by omega⟩) (by
              unfold Bls
              rw [List.length_replicate, List.replicate_succ', List.map_append]
              simpa using hown2')
            clear hown2 hown2' hgrow2 hat2 ho2 hlo2
            go_upto_region 9 with fail
            generalize hW2 : World.setCell w2 _ _ = W2 at *
            have H2 : Hid _ := H2'
            clear e2' f2' H2' hW2 e2 H1
            have hown3 : W2.ownsRow (sb + 1) 37 3 (.slice a3 k c3) k (vrow (List.replicate k vd0)) := by
              have := H2.out.s3
              unfold Vds at this
              rw [List.length_replicate] at this
              exact this
            have hl3 : sb < W2.heap.size := H2.out.lt
            have e3 := H2.out.c8
            go_wp2_with (at_builtin; refine wpList_append_lies _ rfl _ _ 27 rfl (sb + 1) 37 k0 (.agg #[.int .i64 0, .int .i64 0, .string ⟨#[]⟩]) 3 32 Tryz.underlying27 hk hx0 hx1 hx2 rfl (by decide) _ _ _ rfl (hown3.alloc _) ⟨W2.heap.size, 0, none⟩ 1 1 [.int .i64 0, .int .i64 0, .string ⟨#[]⟩] rfl rfl ?c1 ?c2 ?c3 ?c4 ?c5 ?c6 (W2.heap.size + 1) ?c7 ?_)
            case c1 =>
              intro j u hj
              exact World.news_of_block (lk_new _ _ _ rfl) j u (by simpa using hj)
            case c2 => intro u hu; simp at hu; rcases hu with rfl | rfl | rfl <;> rfl
            case c3 => decide
            case c4 => unfold maxLen; omega
            case c5 => omega
            case c6 => simp; omega
            case c7 => simp
            intro p3 q3 w3 hown3' hgrow3 hat3 hlt3
            have ho3 : OffL [(.slice a3 k c3)] W2 w3 := (OffL.of_below (below1 W2 _)).trans (OffL.ofGrown hgrow3 (by simp))
            have hlo3 : ∀ v ∈ ([(.slice a3 k c3)] : List Value), v.ownBlock ≠ some sb := fun v hv e => by
              rw [List.mem_singleton.1 hv] at e
              have := (hown3.lt sb e).1
              omega
            have e3' := (ho3.cell hl3 hlo3).trans e3
            have f3' := (ho3.frozen (i := 8) hl3 hlo3).trans (H2.out.fz 8)
            have H3' := H2.out.step3 (v' := .slice (some ⟨p3, 0, none⟩) (k + 1) q3) (R' := List.replicate (k + 1) vd0) ho3 (by
              rcases hat3 with h | h
              · left; rw [h]; rfl
              · right; exact ⟨p3, rfl, by omega⟩) (by
              unfold Vds
              rw [List.length_replicate, List.replicate_succ', vrow_snoc]
              exact hown3')
            clear hown3 hown3' hgrow3 hat3 ho3 hlo3
            go_upto_region 10 with fail
            generalize hW3 : World.setCell w3 _ _ = W3 at *
            have H3 : Hid _ := H3'
            clear e3' f3' H3' hW3 e3 H2
            go_wp2
            go_roundw
            case rel => exact ⟨k + 1, some ⟨p1, 0, none⟩, some ⟨p2, 0, none⟩, some ⟨p3, 0, none⟩, q1, q2, q3, by omega, by go_num, H3⟩
            case measure => simp [intOf]; omega
          · obtain rfl : k = L.length := by omega
            have HF := H.out
            obtain ⟨r0, r1, r2, r3, r4, r5, r6, r7, r8, f0, f1, f2, f3, f4, f5, f6, f7, f8, hrz⟩ := HF.res
            have d0 := HF.c0
            have d1 := HF.c1
            have d2 := HF.c2
            have d3 := HF.c3
            have d4 := HF.c4
            have d5 := HF.c5
            have d6 := HF.c6
            have d7 := HF.c7
            have d8 := HF.c8
            have hsl := HF.lo
            have HH : Hid _ := HF
            clear HF H HC HS HA
            go_wp2
            refine bodyPost_ret (v := .agg #[.int .i64 1, .string ⟨#[]⟩, .string he, .string fr, .string bo, .slice a1 L.length c1, .int .i64 0, .slice a2 L.length c2, .slice a3 L.length c3]) (by simp [results, Tryz.results7, go_sem, r0, r1, r2, r3, r4, r5, r6, r7, r8]) rfl ?_
            generalize hW : World.setCell _ ⟨w.heap.size, 8, none⟩ _ = W3
            unfold OpenPost
            rw [hOK]
            have hl1 : w.heap.size < sb + 1 := by omega
            refine ⟨⟨_, _, _, rfl, ⟨?_, ?_, ?_⟩, HH.out.ap⟩, ?_⟩
            · rw [← hW]
              have := HH.out.s1
              rw [List.take_length] at this
              refine strs_le ?_ (Nat.le_of_lt hl1)
              repeat (refine row_set_below ?_ hl1 _)
              exact this
            · rw [← hW]
              refine Go.Joins.ownsRow_le ?_ (Nat.le_of_lt hl1)
              repeat (refine row_set_below ?_ hl1 _)
              exact HH.out.s2
            · rw [← hW]
              refine Go.Joins.ownsRow_le ?_ (Nat.le_of_lt hl1)
              repeat (refine row_set_below ?_ hl1 _)
              exact HH.out.s3
            · rw [← hW]
              repeat (refine Below.setCell ?_ (by simp) _)
              exact HH.out.bel
end Go.Proofs.YtngcjlghjidnjaaGreatDoor
namespace Go.Proofs.YtngcjlghjidnjaaGreatDoor
open Go.ChangeShapes Go.WideShapes Go.ChangeAt Go.RowKit
attribute [local go_sem ↓] Go.wp_at_zero Go.wp_at_succ

theorem vds_formD {w : World} {lo : Nat} {v : Value} {L : List Vd} (h : Vds w lo v L) : ∃ a c, v = .slice a L.length c := by
  rcases h.cases with ⟨e, e0⟩ | ⟨g, k, e, _⟩
  · exact ⟨none, 0, by rw [e, e0]; rfl⟩
  · exact ⟨_, _, e⟩
theorem offL_of {b : Nat} {w w1 : World} (h : Off b w w1) : OffL [.slice (some ⟨b, 0, none⟩) 0 0] w w1 := ⟨h.os, h.tape, h.output, h.size, fun k hk hne => h.block k hk (fun e => hne _ (List.mem_singleton.2 rfl) (by rw [e]; rfl))⟩
theorem ne_off1 {b k : Nat} (h : k ≠ b) : ∀ v ∈ ([.slice (some ⟨b, 0, none⟩) 0 0] : List Value), v.ownBlock ≠ some k := by
  intro v hv e
  rw [List.mem_singleton.1 hv] at e
  exact h (Option.some.inj e).symm
theorem Blk.offR {a b : Nat} {X : Array Value} {w w1 : World} (h : Blk a X w) (ho : Off b w w1) (hne : a ≠ b) : Blk a X w1 := Blk.offL h (offL_of ho) (ne_off1 hne)
/-- a session in block B, its rows in other blocks, all from N on -/
structure Ses (N B : Nat) (s : Sn) (u1 u2 u3 : Value) (w : World) : Prop where
  le : N ≤ B
  sb : SB B s u1 u2 u3 w
  sv : SV w N u1 u2 u3 s
  n1 : u1.ownBlock ≠ some B
  n2 : u2.ownBlock ≠ some B
  n3 : u3.ownBlock ≠ some B
theorem Ses.below {N B : Nat} {s : Sn} {u1 u2 u3 : Value} {w w1 : World} (h : Ses N B s u1 u2 u3 w) (hb : Below w.heap.size w w1) : Ses N B s u1 u2 u3 w1 := ⟨h.le, SB.below h.sb hb, h.sv.below hb (Nat.le_refl _), h.n1, h.n2, h.n3⟩
theorem SV.offR {w w1 : World} {lo b : Nat} {u1 u2 u3 : Value} {s : Sn} (h : SV w lo u1 u2 u3 s) (ho : Off b w w1) (hb : b < lo) : SV w1 lo u1 u2 u3 s := by
  have hne : ∀ u : Value, (∀ g, u.ownBlock = Option.some g → lo ≤ g ∧ g < w.heap.size) → ∀ g, u.ownBlock = Option.some g → ∀ v ∈ ([.slice (Option.some ⟨b, 0, none⟩) 0 0] : List Value), v.ownBlock ≠ Option.some g := fun u hu g hg => ne_off1 (by have := (hu g hg).1; omega)
  exact ⟨(offL_of ho).row h.1 (hne _ h.own.1), (offL_of ho).row h.2.1 (hne _ h.own.2.1), (offL_of ho).row h.2.2 (hne _ h.own.2.2)⟩
theorem Ses.offR {N B b : Nat} {s : Sn} {u1 u2 u3 : Value} {w w1 : World} (h : Ses N B s u1 u2 u3 w) (ho : Off b w w1) (hb : b < N) : Ses N B s u1 u2 u3 w1 :=
  ⟨h.le, Blk.offR h.sb ho (by have := h.le; omega), h.sv.offR ho hb, h.n1, h.n2, h.n3⟩
theorem Ses.put {N B : Nat} {s t : Sn} {u1 u2 u3 v1 v2 v3 : Value} {w w1 : World} (h : Ses N B s u1 u2 u3 w) (hb : Below w.heap.size w w1) (hv : SV w1 w.heap.size v1 v2 v3 t) : Ses N B t v1 v2 v3 (nine w1 B (.int .i64 t.ph) (.string t.buf) (.string t.he) (.string t.fr) (.string t.bo) v1 (.int .i64 (t.nx : Int)) v2 v3) :=
  have hl := h.sb.lt
  have hN : N ≤ w.heap.size := Nat.le_of_lt (Nat.lt_of_le_of_lt h.le hl)
  ⟨h.le, blk_nine (SB.below h.sb hb) _ _ _ _ _ _ _ _ _, (hv.nine hl _ _ _ _ _ _ _ _ _).le hN, fun e => by have := (hv.own.1 _ e).1; omega, fun e => by have := (hv.own.2.1 _ e).1; omega, fun e => by have := (hv.own.2.2 _ e).1; omega⟩
theorem Ses.new {N : Nat} {s : Sn} {u1 u2 u3 : Value} {w : World} (T : TypeId) (h : SV w N u1 u2 u3 s) (hN : N ≤ w.heap.size) : Ses N w.heap.size s u1 u2 u3 (w.alloc (.cells (c9 s u1 u2 u3) T)) :=
  ⟨hN, Blk.new w _ _, h.below (below1 _ _) (Nat.le_refl _), fun e => Nat.lt_irrefl _ (h.own.1 _ e).2, fun e => Nat.lt_irrefl _ (h.own.2.1 _ e).2, fun e => Nat.lt_irrefl _ (h.own.2.2 _ e).2⟩

/-- Open's and Feed's sessions -/
def openN (he fr bo : ByteArray) (L : List ByteArray) : Sn := ⟨oPh (openOk he fr bo L), ⟨#[]⟩, oS (openOk he fr bo L) he, oS (openOk he fr bo L) fr, oS (openOk he fr bo L) bo, oL (openOk he fr bo L) L, 0, List.replicate (oL (openOk he fr bo L) L).length false, List.replicate (oL (openOk he fr bo L) L).length vd0⟩
def feedS (s : Sn) (kind : Int) (d : ByteArray) : Sn × ByteArray := feedN s.ph (s.nx : Int) s.buf s.he s.fr s.bo s.R s.T s.V kind d
def Fine (s : Sn) : Prop := s.Pr ∨ s = snDone
theorem open_fine (he fr bo : ByteArray) (L : List ByteArray) : Fine (openN he fr bo L) := by
  unfold openN
  cases h : openOk he fr bo L with
  | false => exact .inr rfl
  | true =>
    refine .inl ?_
    unfold openOk at h
    simp only [Bool.and_eq_true] at h
    rw [Sn.pr_iff]
    refine ⟨⟨by show (1 : Int) ≤ 1; decide, by show (1 : Int) ≤ 9; decide, Nat.zero_le _, h.1, h.2.1, h.2.2, by simp, by simp, Nat.zero_le _, by rintro ⟨_, e⟩; exact absurd e (by show ¬ (1 : Int) = 5; decide)⟩, ?_⟩
    intro v hv
    rw [List.eq_of_mem_replicate hv]
    decide
theorem feedN_fine (ph : Int) (nx : Int) (buf he fr bo : ByteArray) (R : List ByteArray) (T : List Bool) (V : List Vd) (kind : Int) (d : ByteArray) : Fine (feedN ph nx buf he fr bo R T V kind d).1 := by
  unfold feedN
  cases hp : properN ph nx buf he fr bo R T V with
  | false => exact .inr rfl
  | true =>
    obtain ⟨n, rfl, _⟩ := ok_of hp
    exact .inl (feed_pr (s := ⟨ph, buf, he, fr, bo, R, n, T, V⟩) hp kind d)
theorem Fine.ph {s : Sn} (h : Fine s) : 1 ≤ s.ph ∧ s.ph ≤ 9 := by
  rcases h with h | rfl
  · exact ⟨h.ok.p1, h.ok.p9⟩
  · decide
theorem Fine.small {s : Sn} (h : Fine s) : Small9 s.buf s.he s.fr s.bo s.R s.T s.V ∧ s.buf.size ≤ 40000 ∧ s.R.length ≤ 20 ∧ s.T.length ≤ 20 ∧ s.V.length ≤ 20 := by
  rcases h with h | rfl
  · have k := h.ok
    have k1 := k.bf
    have k2 := k.he
    have k3 := k.fr
    have k4 := k.bo
    have k5 := k.r20
    have k6 := k.t
    have k7 := k.v
    refine ⟨⟨by omega, by omega, by omega, by omega, by omega, fun x hx => by have := k.rs x hx; omega, by omega, by omega, fun x hx => ?_⟩, k1, k5, by omega, by omega⟩
    have := (Sn.pr_iff.1 h).2 x hx
    unfold vdOk at this
    simp only [Bool.and_eq_true, decide_eq_true_eq] at this
    omega
  · exact ⟨⟨Nat.zero_le _, Nat.zero_le _, Nat.zero_le _, Nat.zero_le _, Nat.zero_le _, fun x hx => absurd hx List.not_mem_nil, Nat.zero_le _, Nat.zero_le _, fun x hx => absurd hx List.not_mem_nil⟩, Nat.zero_le _, Nat.zero_le _, Nat.zero_le _, Nat.zero_le _⟩
/-- a drawn session -/
def sesGo : Nat → List UInt8 → Nat → Sn → Sn × Nat
  | 0, _, p, s => (s, p)
  | n + 1, B, p, s => if nx B p % 5 = 4 then sesGo n B (repF B (px B p)).2 (feedS s 1 (repF B (px B p)).1).1 else sesGo n B (px B p) (feedS s 1 (goodF s.ph)).1
def tOut : ByteArray := ⟨#[111, 117, 116, 46, 101, 120, 97, 109, 112, 108, 101]⟩
def sesF (B : List UInt8) (p : Nat) : Sn × Nat :=
  sesGo (nx B (bodF B (rcF B (fromF B p).2).2).2 % 14) B (px B (bodF B (rcF B (fromF B p).2).2).2) (openN tOut (fromF B p).1 (bodF B (rcF B (fromF B p).2).2).1 ((rcF B (fromF B p).2).1.take 20))
theorem sesGo_fine : ∀ (n : Nat) (B : List UInt8) (p : Nat) (s : Sn), Fine s → Fine (sesGo n B p s).1
  | 0, _, _, _, h => h
  | n + 1, B, p, s, h => by
    rw [sesGo]
    split
    · exact sesGo_fine n B _ _ (feedN_fine _ _ _ _ _ _ _ _ _ _ _)
    · exact sesGo_fine n B _ _ (feedN_fine _ _ _ _ _ _ _ _ _ _ _)
theorem sesF_fine (B : List UInt8) (p : Nat) : Fine (sesF B p).1 := sesGo_fine _ _ _ _ (open_fine _ _ _ _)
theorem take_args {w : World} {lo : Nat} {a : Option Addr} {c : Nat} {L : List ByteArray} (h : Strs w lo (.slice a L.length c) L) (hs : ∀ x ∈ L, x.size ≤ 300) (h20 : 20 < L.length) : ArgS w (.slice a 20 c) (L.take 20) ∧ 20 ≤ c ∧ ∃ g, a = some ⟨g, 0, none⟩ := by
  rcases h.cases with ⟨e, e0⟩ | ⟨g, cap, e, hg⟩
  · rw [e0] at h20; exact absurd h20 (by simp)
  · injection e with e1 e2 e3
    subst e1
    subst e3
    have hl := hg.len
    have hc := hg.cap
    have hl2 : (L.take 20).length = 20 := by rw [List.length_take]; omega
    refine ⟨⟨by rw [hl2]; decide, fun x hx => by have := hs x (List.mem_of_mem_take hx); unfold maxLen; omega, .inr ⟨g, 0, c, by rw [hl2], hg.lt, fun i hi => ?_⟩⟩, by omega, g, rfl⟩
    rw [Nat.zero_add, hg.cell i (by omega)]
    simp

set_option maxHeartbeats 8000000 in
set_option maxRecDepth 100000 in
theorem rdSessX (b p : Nat) (cv : Value) (B : List UInt8) (w : World) (h : RdAt w b cv B p) :
    Calls Tryz.prog 52 #[.pointer (some ⟨b, 0, none⟩)] w fun e w' => (∃ u1 u2 u3, e = .returned (.agg #[.int .i64 (sesF B p).1.ph, .string (sesF B p).1.buf, .string (sesF B p).1.he, .string (sesF B p).1.fr, .string (sesF B p).1.bo, u1, .int .i64 ((sesF B p).1.nx : Int), u2, u3]) ∧ SV w' w.heap.size u1 u2 u3 (sesF B p).1) ∧ RdAt w' b cv B (sesF B p).2 ∧ Off b w w' := by
  have H : Hid (RdAt w b cv B p) := h
  have hbl : b < w.heap.size := h.2.2.2.1
  clear h
  go_enter Tryz.func52, Tryz.ntmps52
  go_wp2_with fail
  generalize hW : World.alloc _ _ = W
  have HZ : Hid (SB w.heap.size sn0 (.slice none 0 0) (.slice none 0 0) (.slice none 0 0) W) := by show SB _ _ _ _ _ _; rw [← hW]; exact Blk.new w _ _
  have b0 : Below w.heap.size w W := by rw [← hW]; exact below1 _ _
  have hz0 : w.heap.size < W.heap.size := HZ.out.lt
  have H0 : Hid (RdAt W b cv B p) := H.out.below b0 (Nat.le_refl _)
  clear hW
  refine (rdFromX b p cv B W H0.out).mono ?_
  rintro e w1 ⟨rfl, h1, ho1⟩
  have hfs := fromF_size B p
  generalize hF : fromF B p = F at h1 hfs ⊢
  have HF : Hid (fromF B p = F) := hF
  have H1 : Hid (RdAt w1 b cv B F.2) := h1
  have HZ1 : Hid (SB w.heap.size sn0 (.slice none 0 0) (.slice none 0 0) (.slice none 0 0) w1) := Blk.offR HZ.out ho1 (by omega)
  have o1 : Off b w w1 := (Off.of_below b0).trans ho1
  have z1 := ho1.size
  clear h1 ho1 H0 HZ hF b0
  go_wp2_with fail
  refine (rdRcptsX b F.2 cv B w1 H1.out).mono ?_
  rintro e w2 ⟨⟨v, rfl, S2⟩, h2, ho2⟩
  have hrl := rcF_len B F.2
  have hrs := rcF_size B F.2
  generalize hL : rcF B F.2 = L at h2 S2 hrl hrs
  have HL : Hid (rcF B F.2 = L) := hL
  have HRS : Hid (∀ x ∈ L.1, x.size ≤ 300) := hrs
  have H2 : Hid (RdAt w2 b cv B L.2) := h2
  have HZ2 : Hid (SB w.heap.size sn0 (.slice none 0 0) (.slice none 0 0) (.slice none 0 0) w2) := Blk.offR HZ1.out ho2 (by omega)
  have o2 : Off b w w2 := o1.trans ho2
  have z2 := ho2.size
  obtain ⟨av, ac, hv⟩ := strs_form2 S2
  subst hv
  have HS2 : Hid (Strs w2 w1.heap.size (.slice av L.1.length ac) L.1) := S2
  clear h2 ho2 H1 HZ1 hL S2 o1 hrs
  have HY : Hid (∀ x ∈ L.1.take 20, x.size ≤ 1048576) := fun x hx => by have := HRS.out x (List.mem_of_mem_take hx); omega
  rcases Nat.lt_or_ge 20 L.1.length with h20 | h20
  · obtain ⟨_, hac, g, rfl⟩ := take_args HS2.out HRS.out h20
    have HA : Hid (∀ wx, Strs wx w1.heap.size (.slice (some ⟨g, 0, none⟩) L.1.length ac) L.1 → ArgS wx (.slice (some ⟨g, 0, none⟩) 20 ac) (L.1.take 20)) := fun wx hx => (take_args hx HRS.out h20).1
    have h20i : (20 : Int) < L.1.length := by omega
    have haci : (20 : Int) ≤ ac := by omega
    go_wp2_with fail
    refine (rdBodyX b L.2 cv B w2 H2.out).mono ?_
    rintro e w3 ⟨rfl, h3, ho3⟩
    have hbs := bodF_size B L.2
    generalize hD : bodF B L.2 = D at h3 hbs ⊢
    have HD : Hid (bodF B L.2 = D) := hD
    have H3 : Hid (RdAt w3 b cv B D.2) := h3
    have HZ3 : Hid (SB w.heap.size sn0 (.slice none 0 0) (.slice none 0 0) (.slice none 0 0) w3) := Blk.offR HZ2.out ho3 (by omega)
    have HA3 : Hid (ArgS w3 _ (L.1.take 20)) := HA.out w3 (strs_offR HS2.out ho3 (by omega))
    have o3 : Off b w w3 := o2.trans ho3
    have z3 := ho3.size
    clear h3 ho3 H2 HZ2 hD HA HS2 o2
    go_wp2_with fail
    refine (specOpen tOut F.1 D.1 _ (L.1.take 20) w3 HA3.out (by decide) (by omega) HY.out (by omega)).mono ?_
    rintro e w4 ⟨⟨v1, v2, v3, he, hr, _⟩, hb4⟩
    have hfine := open_fine tOut F.1 D.1 (L.1.take 20)
    obtain ⟨s0, hs0⟩ : ∃ s0, openN tOut F.1 D.1 (L.1.take 20) = s0 := ⟨_, rfl⟩
    have he2 : e = .returned (.agg #[.int .i64 s0.ph, .string s0.buf, .string s0.he, .string s0.fr, .string s0.bo, v1, .int .i64 (s0.nx : Int), v2, v3]) := by rw [← hs0]; exact he
    have S4 : SV w4 w3.heap.size v1 v2 v3 s0 := by rw [← hs0]; exact hr
    have HFi0 : Hid (Fine s0) := by rw [← hs0]; exact hfine
    have HS0 : Hid (openN tOut F.1 D.1 (L.1.take 20) = s0) := hs0
    subst he2
    obtain ⟨m1, j1, hx1⟩ := strs_form2 S4.1
    obtain ⟨m2, j2, hx2⟩ := bls_form S4.2.1
    obtain ⟨m3, j3, hx3⟩ := vds_formD S4.2.2
    subst hx1 hx2 hx3
    have HS4 : Hid (SV w4 w3.heap.size _ _ _ s0) := S4
    have HB4 : Hid (Below w3.heap.size w3 w4) := hb4
    clear he hr hfine hs0 S4 hb4 HA3
    go_wp2_with fail
    generalize hW4 : World.alloc _ _ = W4
    have HSs : Hid (Ses w3.heap.size w4.heap.size s0 (.slice m1 s0.R.length j1) (.slice m2 s0.T.length j2) (.slice m3 s0.V.length j3) W4) := by show Ses _ _ _ _ _ _ _; rw [← hW4]; exact Ses.new _ HS4.out HB4.out.size
    have b4 : Below w3.heap.size w3 W4 := by rw [← hW4]; exact HB4.out.trans ((below1 _ _).mono HB4.out.size)
    have H4 : Hid (RdAt W4 b cv B D.2) := H3.out.below b4 (Nat.le_refl _)
    have HZ4 : Hid (SB w.heap.size sn0 (.slice none 0 0) (.slice none 0 0) (.slice none 0 0) W4) := SB.below HZ3.out b4
    have o4 : Off b w W4 := o3.trans (Off.of_below b4)
    have z4 := b4.size
    have z34 := HB4.out.size
    clear hW4 HS4 HB4 H3 HZ3 o3 b4
    refine (rdNext b D.2 cv B W4 H4.out).mono ?_
    rintro e w5 ⟨rfl, h5, ho5⟩
    have hc5 := nx_lt B D.2
    generalize hcE : nx B D.2 = c at hc5 ⊢
    generalize hqE : px B D.2 = q5 at h5
    have H5 : Hid (RdAt w5 b cv B q5) := h5
    have HS5 : Hid (Ses w3.heap.size w4.heap.size s0 (.slice m1 s0.R.length j1) (.slice m2 s0.T.length j2) (.slice m3 s0.V.length j3) w5) := HSs.out.offR ho5 (by omega)
    have HZ5 : Hid (SB w.heap.size sn0 (.slice none 0 0) (.slice none 0 0) (.slice none 0 0) w5) := Blk.offR HZ4.out ho5 (by omega)
    have o5 : Off b w w5 := o4.trans ho5
    have z5 := ho5.size
    obtain ⟨Z, hZ, HE⟩ : ∃ Z, sesGo (c % 14) B q5 s0 = Z ∧ Hid (sesF B p = Z) := ⟨_, rfl, by show sesF B p = _; unfold sesF; rw [HF.out, HL.out, HD.out, hcE, hqE, HS0.out]⟩
    clear hcE hqE h5 ho5 HSs HZ4 o4 H4 HF HL HD HS0
    go_wp2_with fail
    go_loopw [6] (fun nv wr => ∃ (n q : Nat) (s : Sn) (y1 y2 y3 : Option Addr) (k1 k2 k3 : Nat), nv = .int .i64 n ∧ n ≤ 13 ∧ Hid (sesGo n B q s = Z) ∧ Hid (Fine s) ∧ Hid (Ses w3.heap.size w4.heap.size s (.slice y1 s.R.length k1) (.slice y2 s.T.length k2) (.slice y3 s.V.length k3) wr) ∧ Hid (SB w.heap.size sn0 (.slice none 0 0) (.slice none 0 0) (.slice none 0 0) wr) ∧ Hid (RdAt wr b cv B q) ∧ Off b w wr ∧ w5.heap.size ≤ wr.heap.size) (fun nv _ => (intOf nv).toNat)
    case atStart => exact ⟨c % 14, q5, s0, _, _, _, _, _, _, by go_num, by omega, hZ, HFi0, HS5, HZ5, H5, o5, Nat.le_refl _⟩
    case round =>
      obtain ⟨n, q, s, y1, y2, y3, k1, k2, k3, rfl, hn13, HG, HFi, HSr, HZr, HR, orr, zr⟩ := hrel
      have hph := HFi.out.ph
      obtain ⟨t0, t1, t2, t3, t4, t5, t6, t7, t8⟩ := HSr.out.sb.cells
      have ltS : w4.heap.size < wr.heap.size := HSr.out.sb.lt
      by_cases hn : 0 < n
      · go_wp2_with fail
        refine (specGood s.ph wr (by omega) (by omega)).mono ?_
        rintro e w6 ⟨rfl, hb6⟩
        have hgs := goodF_size s.ph
        have HS6 : Hid (Ses w3.heap.size w4.heap.size s (.slice y1 s.R.length k1) (.slice y2 s.T.length k2) (.slice y3 s.V.length k3) w6) := HSr.out.below hb6
        have HZ6 : Hid (SB w.heap.size sn0 (.slice none 0 0) (.slice none 0 0) (.slice none 0 0) w6) := SB.below HZr.out hb6
        have H6 : Hid (RdAt w6 b cv B q) := HR.out.below hb6 (Nat.le_refl _)
        have o6 : Off b w w6 := orr.trans (Off.of_below hb6)
        have z6 := hb6.size
        clear hb6 HSr HZr HR orr t0 t1 t2 t3 t4 t5 t6 t7 t8
        go_wp2_with fail
        refine (rdNext b q cv B w6 H6.out).mono ?_
        rintro e w7 ⟨rfl, h7, ho7⟩
        have hc7 := nx_lt B q
        obtain ⟨k, rfl⟩ : ∃ k, n = k + 1 := ⟨n - 1, by omega⟩
        have H7 : Hid (RdAt w7 b cv B (px B q)) := h7
        have HS7 : Hid (Ses w3.heap.size w4.heap.size s (.slice y1 s.R.length k1) (.slice y2 s.T.length k2) (.slice y3 s.V.length k3) w7) := HS6.out.offR ho7 (by omega)
        have HZ7 : Hid (SB w.heap.size sn0 (.slice none 0 0) (.slice none 0 0) (.slice none 0 0) w7) := Blk.offR HZ6.out ho7 (by omega)
        have o7 : Off b w w7 := o6.trans ho7
        have z7 := ho7.size
        clear h7 ho7 H6 HS6 HZ6 o6
        by_cases c4 : nx B q % 5 = 4
        · have HG2 : Hid (sesGo k B (repF B (px B q)).2 (feedS s 1 (repF B (px B q)).1).1 = Z) := by show _ = _; rw [← HG.out, sesGo, if_pos c4]
          have c4i : (nx B q : Int) % 5 = 4 := by omega
          clear HG
          generalize nx B q = c7 at *
          generalize px B q = q7 at *
          go_wp2_with fail
          refine (rdReplyX b q7 cv B w7 H7.out).mono ?_
          rintro e w8 ⟨rfl, h8, ho8⟩
          have hrs := repF_size B q7
          generalize repF B q7 = Y at HG2 h8 hrs ⊢
          have H8 : Hid (RdAt w8 b cv B Y.2) := h8
          have HS8 : Hid (Ses w3.heap.size w4.heap.size s (.slice y1 s.R.length k1) (.slice y2 s.T.length k2) (.slice y3 s.V.length k3) w8) := HS7.out.offR ho8 (by omega)
          have HZ8 : Hid (SB w.heap.size sn0 (.slice none 0 0) (.slice none 0 0) (.slice none 0 0) w8) := Blk.offR HZ7.out ho8 (by omega)
          have o8 : Off b w w8 := o7.trans ho8
          have z8 := ho8.size
          obtain ⟨t0, t1, t2, t3, t4, t5, t6, t7, t8⟩ := HS8.out.sb.cells
          have ltS8 : w4.heap.size < w8.heap.size := HS8.out.sb.lt
          clear h8 ho8 H7 HS7 HZ7 o7
          go_wp2_with fail
          refine (specFeed s.ph (s.nx : Int) s.buf s.he s.fr s.bo _ _ _ s.R s.T s.V 1 Y.1 w3.heap.size w8 HS8.out.sv.1 HS8.out.sv.2.1 HS8.out.sv.2.2 HFi.out.small.1 (by omega)).mono ?_
          rintro e w9 ⟨⟨x1, x2, x3, rfl, S9⟩, hb9⟩
          have HFq : Hid (Fine (feedN s.ph (s.nx : Int) s.buf s.he s.fr s.bo s.R s.T s.V 1 Y.1).1) := feedN_fine _ _ _ _ _ _ _ _ _ _ _
          have HG3 : Hid (sesGo k B Y.2 (feedN s.ph (s.nx : Int) s.buf s.he s.fr s.bo s.R s.T s.V 1 Y.1).1 = Z) := HG2.out
          generalize feedN s.ph (s.nx : Int) s.buf s.he s.fr s.bo s.R s.T s.V 1 Y.1 = Q at S9 HFq HG3 ⊢
          obtain ⟨m1, j1, hx1⟩ := strs_form2 S9.1
          obtain ⟨m2, j2, hx2⟩ := bls_form S9.2.1
          obtain ⟨m3, j3, hx3⟩ := vds_formD S9.2.2
          subst hx1 hx2 hx3
          have HP : Hid _ := HS8.out.put hb9 S9
          have HB9 : Hid (SB w4.heap.size s _ _ _ w9) := SB.below HS8.out.sb hb9
          have HZ9 : Hid (SB w.heap.size sn0 (.slice none 0 0) (.slice none 0 0) (.slice none 0 0) w9) := SB.below HZ8.out hb9
          have H9 : Hid (RdAt w9 b cv B Y.2) := H8.out.below hb9 (Nat.le_refl _)
          have o9 : Off b w w9 := o8.trans (Off.of_below hb9)
          have z9 := hb9.size
          obtain ⟨a0, a1, a2, a3, a4, a5, a6, a7, a8⟩ := HB9.out.cells
          obtain ⟨f0, f1, f2, f3, f4, f5, f6, f7, f8⟩ := HB9.out.frees
          have ltB : w4.heap.size < w9.heap.size := HB9.out.lt
          clear S9 hb9 HS8 HZ8 H8 o8 HG2
          go_wp2
          go_roundw
          case rel => exact ⟨k, Y.2, Q.1, _, _, _, _, _, _, by go_num, by omega, HG3, HFq, HP, sb_nine HZ9.out (by omega) _ _ _ _ _ _ _ _ _, H.out.carry H9.out (below_nine (Below.refl _ _) (by omega) _ _ _ _ _ _ _ _ _), o9.carry (below_nine (Below.refl _ _) (by omega) _ _ _ _ _ _ _ _ _) (Nat.le_refl _), by simp; omega⟩
          case measure => simp [intOf]
        · have HG2 : Hid (sesGo k B (px B q) (feedS s 1 (goodF s.ph)).1 = Z) := by show _ = _; rw [← HG.out, sesGo, if_neg c4]
          have c4i : ¬ (nx B q : Int) % 5 = 4 := by omega
          clear HG
          generalize nx B q = c7 at *
          generalize px B q = q7 at *
          obtain ⟨w8, hw8⟩ : ∃ w8 : World, w8 = w7 := ⟨w7, rfl⟩
          subst hw8
          generalize goodF s.ph = Y at HG2 hgs ⊢
          have HS8 : Hid (Ses w3.heap.size w4.heap.size s (.slice y1 s.R.length k1) (.slice y2 s.T.length k2) (.slice y3 s.V.length k3) w8) := HS7
          have HZ8 : Hid (SB w.heap.size sn0 (.slice none 0 0) (.slice none 0 0) (.slice none 0 0) w8) := HZ7
          have H8 : Hid (RdAt w8 b cv B q7) := H7
          have o8 : Off b w w8 := o7
          obtain ⟨t0, t1, t2, t3, t4, t5, t6, t7, t8⟩ := HS8.out.sb.cells
          have ltS8 : w4.heap.size < w8.heap.size := HS8.out.sb.lt
          clear H7 HS7 HZ7 o7
          go_wp2_with fail
          refine (specFeed s.ph (s.nx : Int) s.buf s.he s.fr s.bo _ _ _ s.R s.T s.V 1 Y w3.heap.size w8 HS8.out.sv.1 HS8.out.sv.2.1 HS8.out.sv.2.2 HFi.out.small.1 (by omega)).mono ?_
          rintro e w9 ⟨⟨x1, x2, x3, rfl, S9⟩, hb9⟩
          have HFq : Hid (Fine (feedN s.ph (s.nx : Int) s.buf s.he s.fr s.bo s.R s.T s.V 1 Y).1) := feedN_fine _ _ _ _ _ _ _ _ _ _ _
          have HG3 : Hid (sesGo k B q7 (feedN s.ph (s.nx : Int) s.buf s.he s.fr s.bo s.R s.T s.V 1 Y).1 = Z) := HG2.out
          generalize feedN s.ph (s.nx : Int) s.buf s.he s.fr s.bo s.R s.T s.V 1 Y = Q at S9 HFq HG3 ⊢
          obtain ⟨m1, j1, hx1⟩ := strs_form2 S9.1
          obtain ⟨m2, j2, hx2⟩ := bls_form S9.2.1
          obtain ⟨m3, j3, hx3⟩ := vds_formD S9.2.2
          subst hx1 hx2 hx3
          have HP : Hid _ := HS8.out.put hb9 S9
          have HB9 : Hid (SB w4.heap.size s _ _ _ w9) := SB.below HS8.out.sb hb9
          have HZ9 : Hid (SB w.heap.size sn0 (.slice none 0 0) (.slice none 0 0) (.slice none 0 0) w9) := SB.below HZ8.out hb9
          have H9 : Hid (RdAt w9 b cv B q7) := H8.out.below hb9 (Nat.le_refl _)
          have o9 : Off b w w9 := o8.trans (Off.of_below hb9)
          have z9 := hb9.size
          obtain ⟨a0, a1, a2, a3, a4, a5, a6, a7, a8⟩ := HB9.out.cells
          obtain ⟨f0, f1, f2, f3, f4, f5, f6, f7, f8⟩ := HB9.out.frees
          have ltB : w4.heap.size < w9.heap.size := HB9.out.lt
          clear S9 hb9 HS8 HZ8 H8 o8 HG2
          go_wp2
          go_roundw
          case rel => exact ⟨k, q7, Q.1, _, _, _, _, _, _, by go_num, by omega, HG3, HFq, HP, sb_nine HZ9.out (by omega) _ _ _ _ _ _ _ _ _, H.out.carry H9.out (below_nine (Below.refl _ _) (by omega) _ _ _ _ _ _ _ _ _), o9.carry (below_nine (Below.refl _ _) (by omega) _ _ _ _ _ _ _ _ _) (Nat.le_refl _), by simp; omega⟩
          case measure => simp [intOf]
      · obtain rfl : n = 0 := by omega
        obtain rfl : Z = (s, q) := HG.out.symm
        obtain ⟨r0, r1, r2, r3, r4, r5, r6, r7, r8⟩ := HZr.out.zero
        obtain ⟨rf0, rf1, rf2, rf3, rf4, rf5, rf6, rf7, rf8⟩ := HZr.out.frees
        have zl : w.heap.size < wr.heap.size := HZr.out.lt
        go_wp2
        refine bodyPost_ret (v := .agg #[.int .i64 s.ph, .string s.buf, .string s.he, .string s.fr, .string s.bo, .slice y1 s.R.length k1, .int .i64 (s.nx : Int), .slice y2 s.T.length k2, .slice y3 s.V.length k3]) (by simp [results, Tryz.results52, go_sem, r0, r1, r2, r3, r4, r5, r6, r7, r8]) rfl ?_
        rw [HE.out]
        refine ⟨⟨_, _, _, rfl, ?_⟩, ?_, ?_⟩
        · exact (HSr.out.sv.nine (b := w.heap.size) (by omega) _ _ _ _ _ _ _ _ _).le (by omega)
        · exact H.out.carry HR.out (below_nine (Below.refl _ _) (Nat.le_refl _) _ _ _ _ _ _ _ _ _)
        · exact orr.carry (below_nine (Below.refl _ _) (Nat.le_refl _) _ _ _ _ _ _ _ _ _) (Nat.le_refl _)
  · have HA : Hid (∀ wx, Strs wx w1.heap.size (.slice av L.1.length ac) L.1 → ArgS wx (.slice av L.1.length ac) (L.1.take 20)) := fun wx hx => by
      rw [List.take_of_length_le h20]; exact strs_args hx (by unfold maxLen; omega) (fun x hx => by have := HRS.out x hx; unfold maxLen; omega)
    have h20i : ¬ (20 : Int) < L.1.length := by omega
    go_wp2_with fail
    refine (rdBodyX b L.2 cv B w2 H2.out).mono ?_
    rintro e w3 ⟨rfl, h3, ho3⟩
    have hbs := bodF_size B L.2
    generalize hD : bodF B L.2 = D at h3 hbs ⊢
    have HD : Hid (bodF B L.2 = D) := hD
    have H3 : Hid (RdAt w3 b cv B D.2) := h3
    have HZ3 : Hid (SB w.heap.size sn0 (.slice none 0 0) (.slice none 0 0) (.slice none 0 0) w3) := Blk.offR HZ2.out ho3 (by omega)
    have HA3 : Hid (ArgS w3 _ (L.1.take 20)) := HA.out w3 (strs_offR HS2.out ho3 (by omega))
    have o3 : Off b w w3 := o2.trans ho3
    have z3 := ho3.size
    clear h3 ho3 H2 HZ2 hD HA HS2 o2
    go_wp2_with fail
    refine (specOpen tOut F.1 D.1 _ (L.1.take 20) w3 HA3.out (by decide) (by omega) HY.out (by omega)).mono ?_
    rintro e w4 ⟨⟨v1, v2, v3, he, hr, _⟩, hb4⟩
    have hfine := open_fine tOut F.1 D.1 (L.1.take 20)
    obtain ⟨s0, hs0⟩ : ∃ s0, openN tOut F.1 D.1 (L.1.take 20) = s0 := ⟨_, rfl⟩
    have he2 : e = .returned (.agg #[.int .i64 s0.ph, .string s0.buf, .string s0.he, .string s0.fr, .string s0.bo, v1, .int .i64 (s0.nx : Int), v2, v3]) := by rw [← hs0]; exact he
    have S4 : SV w4 w3.heap.size v1 v2 v3 s0 := by rw [← hs0]; exact hr
    have HFi0 : Hid (Fine s0) := by rw [← hs0]; exact hfine
    have HS0 : Hid (openN tOut F.1 D.1 (L.1.take 20) = s0) := hs0
    subst he2
    obtain ⟨m1, j1, hx1⟩ := strs_form2 S4.1
    obtain ⟨m2, j2, hx2⟩ := bls_form S4.2.1
    obtain ⟨m3, j3, hx3⟩ := vds_formD S4.2.2
    subst hx1 hx2 hx3
    have HS4 : Hid (SV w4 w3.heap.size _ _ _ s0) := S4
    have HB4 : Hid (Below w3.heap.size w3 w4) := hb4
    clear he hr hfine hs0 S4 hb4 HA3
    go_wp2_with fail
    generalize hW4 : World.alloc _ _ = W4
    have HSs : Hid (Ses w3.heap.size w4.heap.size s0 (.slice m1 s0.R.length j1) (.slice m2 s0.T.length j2) (.slice m3 s0.V.length j3) W4) := by show Ses _ _ _ _ _ _ _; rw [← hW4]; exact Ses.new _ HS4.out HB4.out.size
    have b4 : Below w3.heap.size w3 W4 := by rw [← hW4]; exact HB4.out.trans ((below1 _ _).mono HB4.out.size)
    have H4 : Hid (RdAt W4 b cv B D.2) := H3.out.below b4 (Nat.le_refl _)
    have HZ4 : Hid (SB w.heap.size sn0 (.slice none 0 0) (.slice none 0 0) (.slice none 0 0) W4) := SB.below HZ3.out b4
    have o4 : Off b w W4 := o3.trans (Off.of_below b4)
    have z4 := b4.size
    have z34 := HB4.out.size
    clear hW4 HS4 HB4 H3 HZ3 o3 b4
    refine (rdNext b D.2 cv B W4 H4.out).mono ?_
    rintro e w5 ⟨rfl, h5, ho5⟩
    have hc5 := nx_lt B D.2
    generalize hcE : nx B D.2 = c at hc5 ⊢
    generalize hqE : px B D.2 = q5 at h5
    have H5 : Hid (RdAt w5 b cv B q5) := h5
    have HS5 : Hid (Ses w3.heap.size w4.heap.size s0 (.slice m1 s0.R.length j1) (.slice m2 s0.T.length j2) (.slice m3 s0.V.length j3) w5) := HSs.out.offR ho5 (by omega)
    have HZ5 : Hid (SB w.heap.size sn0 (.slice none 0 0) (.slice none 0 0) (.slice none 0 0) w5) := Blk.offR HZ4.out ho5 (by omega)
    have o5 : Off b w w5 := o4.trans ho5
    have z5 := ho5.size
    obtain ⟨Z, hZ, HE⟩ : ∃ Z, sesGo (c % 14) B q5 s0 = Z ∧ Hid (sesF B p = Z) := ⟨_, rfl, by show sesF B p = _; unfold sesF; rw [HF.out, HL.out, HD.out, hcE, hqE, HS0.out]⟩
    clear hcE hqE h5 ho5 HSs HZ4 o4 H4 HF HL HD HS0
    go_wp2_with fail
    go_loopw [6] (fun nv wr => ∃ (n q : Nat) (s : Sn) (y1 y2 y3 : Option Addr) (k1 k2 k3 : Nat), nv = .int .i64 n ∧ n ≤ 13 ∧ Hid (sesGo n B q s = Z) ∧ Hid (Fine s) ∧ Hid (Ses w3.heap.size w4.heap.size s (.slice y1 s.R.length k1) (.slice y2 s.T.length k2) (.slice y3 s.V.length k3) wr) ∧ Hid (SB w.heap.size sn0 (.slice none 0 0) (.slice none 0 0) (.slice none 0 0) wr) ∧ Hid (RdAt wr b cv B q) ∧ Off b w wr ∧ w5.heap.size ≤ wr.heap.size) (fun nv _ => (intOf nv).toNat)
    case atStart => exact ⟨c % 14, q5, s0, _, _, _, _, _, _, by go_num, by omega, hZ, HFi0, HS5, HZ5, H5, o5, Nat.le_refl _⟩
    case round =>
      obtain ⟨n, q, s, y1, y2, y3, k1, k2, k3, rfl, hn13, HG, HFi, HSr, HZr, HR, orr, zr⟩ := hrel
      have hph := HFi.out.ph
      obtain ⟨t0, t1, t2, t3, t4, t5, t6, t7, t8⟩ := HSr.out.sb.cells
      have ltS : w4.heap.size < wr.heap.size := HSr.out.sb.lt
      by_cases hn : 0 < n
      · go_wp2_with fail
        refine (specGood s.ph wr (by omega) (by omega)).mono ?_
        rintro e w6 ⟨rfl, hb6⟩
        have hgs := goodF_size s.ph
        have HS6 : Hid (Ses w3.heap.size w4.heap.size s (.slice y1 s.R.length k1) (.slice y2 s.T.length k2) (.slice y3 s.V.length k3) w6) := HSr.out.below hb6
        have HZ6 : Hid (SB w.heap.size sn0 (.slice none 0 0) (.slice none 0 0) (.slice none 0 0) w6) := SB.below HZr.out hb6
        have H6 : Hid (RdAt w6 b cv B q) := HR.out.below hb6 (Nat.le_refl _)
        have o6 : Off b w w6 := orr.trans (Off.of_below hb6)
        have z6 := hb6.size
        clear hb6 HSr HZr HR orr t0 t1 t2 t3 t4 t5 t6 t7 t8
        go_wp2_with fail
        refine (rdNext b q cv B w6 H6.out).mono ?_
        rintro e w7 ⟨rfl, h7, ho7⟩
        have hc7 := nx_lt B q
        obtain ⟨k, rfl⟩ : ∃ k, n = k + 1 := ⟨n - 1, by omega⟩
        have H7 : Hid (RdAt w7 b cv B (px B q)) := h7
        have HS7 : Hid (Ses w3.heap.size w4.heap.size s (.slice y1 s.R.length k1) (.slice y2 s.T.length k2) (.slice y3 s.V.length k3) w7) := HS6.out.offR ho7 (by omega)
        have HZ7 : Hid (SB w.heap.size sn0 (.slice none 0 0) (.slice none 0 0) (.slice none 0 0) w7) := Blk.offR HZ6.out ho7 (by omega)
        have o7 : Off b w w7 := o6.trans ho7
        have z7 := ho7.size
        clear h7 ho7 H6 HS6 HZ6 o6
        by_cases c4 : nx B q % 5 = 4
        · have HG2 : Hid (sesGo k B (repF B (px B q)).2 (feedS s 1 (repF B (px B q)).1).1 = Z) := by show _ = _; rw [← HG.out, sesGo, if_pos c4]
          have c4i : (nx B q : Int) % 5 = 4 := by omega
          clear HG
          generalize nx B q = c7 at *
          generalize px B q = q7 at *
          go_wp2_with fail
          refine (rdReplyX b q7 cv B w7 H7.out).mono ?_
          rintro e w8 ⟨rfl, h8, ho8⟩
          have hrs := repF_size B q7
          generalize repF B q7 = Y at HG2 h8 hrs ⊢
          have H8 : Hid (RdAt w8 b cv B Y.2) := h8
          have HS8 : Hid (Ses w3.heap.size w4.heap.size s (.slice y1 s.R.length k1) (.slice y2 s.T.length k2) (.slice y3 s.V.length k3) w8) := HS7.out.offR ho8 (by omega)
          have HZ8 : Hid (SB w.heap.size sn0 (.slice none 0 0) (.slice none 0 0) (.slice none 0 0) w8) := Blk.offR HZ7.out ho8 (by omega)
          have o8 : Off b w w8 := o7.trans ho8
          have z8 := ho8.size
          obtain ⟨t0, t1, t2, t3, t4, t5, t6, t7, t8⟩ := HS8.out.sb.cells
          have ltS8 : w4.heap.size < w8.heap.size := HS8.out.sb.lt
          clear h8 ho8 H7 HS7 HZ7 o7
          go_wp2_with fail
          refine (specFeed s.ph (s.nx : Int) s.buf s.he s.fr s.bo _ _ _ s.R s.T s.V 1 Y.1 w3.heap.size w8 HS8.out.sv.1 HS8.out.sv.2.1 HS8.out.sv.2.2 HFi.out.small.1 (by omega)).mono ?_
          rintro e w9 ⟨⟨x1, x2, x3, rfl, S9⟩, hb9⟩
          have HFq : Hid (Fine (feedN s.ph (s.nx : Int) s.buf s.he s.fr s.bo s.R s.T s.V 1 Y.1).1) := feedN_fine _ _ _ _ _ _ _ _ _ _ _
          have HG3 : Hid (sesGo k B Y.2 (feedN s.ph (s.nx : Int) s.buf s.he s.fr s.bo s.R s.T s.V 1 Y.1).1 = Z) := HG2.out
          generalize feedN s.ph (s.nx : Int) s.buf s.he s.fr s.bo s.R s.T s.V 1 Y.1 = Q at S9 HFq HG3 ⊢
          obtain ⟨m1, j1, hx1⟩ := strs_form2 S9.1
          obtain ⟨m2, j2, hx2⟩ := bls_form S9.2.1
          obtain ⟨m3, j3, hx3⟩ := vds_formD S9.2.2
          subst hx1 hx2 hx3
          have HP : Hid _ := HS8.out.put hb9 S9
          have HB9 : Hid (SB w4.heap.size s _ _ _ w9) := SB.below HS8.out.sb hb9
          have HZ9 : Hid (SB w.heap.size sn0 (.slice none 0 0) (.slice none 0 0) (.slice none 0 0) w9) := SB.below HZ8.out hb9
          have H9 : Hid (RdAt w9 b cv B Y.2) := H8.out.below hb9 (Nat.le_refl _)
          have o9 : Off b w w9 := o8.trans (Off.of_below hb9)
          have z9 := hb9.size
          obtain ⟨a0, a1, a2, a3, a4, a5, a6, a7, a8⟩ := HB9.out.cells
          obtain ⟨f0, f1, f2, f3, f4, f5, f6, f7, f8⟩ := HB9.out.frees
          have ltB : w4.heap.size < w9.heap.size := HB9.out.lt
          clear S9 hb9 HS8 HZ8 H8 o8 HG2
          go_wp2
          go_roundw
          case rel => exact ⟨k, Y.2, Q.1, _, _, _, _, _, _, by go_num, by omega, HG3, HFq, HP, sb_nine HZ9.out (by omega) _ _ _ _ _ _ _ _ _, H.out.carry H9.out (below_nine (Below.refl _ _) (by omega) _ _ _ _ _ _ _ _ _), o9.carry (below_nine (Below.refl _ _) (by omega) _ _ _ _ _ _ _ _ _) (Nat.le_refl _), by simp; omega⟩
          case measure => simp [intOf]
        · have HG2 : Hid (sesGo k B (px B q) (feedS s 1 (goodF s.ph)).1 = Z) := by show _ = _; rw [← HG.out, sesGo, if_neg c4]
          have c4i : ¬ (nx B q : Int) % 5 = 4 := by omega
          clear HG
          generalize nx B q = c7 at *
          generalize px B q = q7 at *
          obtain ⟨w8, hw8⟩ : ∃ w8 : World, w8 = w7 := ⟨w7, rfl⟩
          subst hw8
          generalize goodF s.ph = Y at HG2 hgs ⊢
          have HS8 : Hid (Ses w3.heap.size w4.heap.size s (.slice y1 s.R.length k1) (.slice y2 s.T.length k2) (.slice y3 s.V.length k3) w8) := HS7
          have HZ8 : Hid (SB w.heap.size sn0 (.slice none 0 0) (.slice none 0 0) (.slice none 0 0) w8) := HZ7
          have H8 : Hid (RdAt w8 b cv B q7) := H7
          have o8 : Off b w w8 := o7
          obtain ⟨t0, t1, t2, t3, t4, t5, t6, t7, t8⟩ := HS8.out.sb.cells
          have ltS8 : w4.heap.size < w8.heap.size := HS8.out.sb.lt
          clear H7 HS7 HZ7 o7
          go_wp2_with fail
          refine (specFeed s.ph (s.nx : Int) s.buf s.he s.fr s.bo _ _ _ s.R s.T s.V 1 Y w3.heap.size w8 HS8.out.sv.1 HS8.out.sv.2.1 HS8.out.sv.2.2 HFi.out.small.1 (by omega)).mono ?_
          rintro e w9 ⟨⟨x1, x2, x3, rfl, S9⟩, hb9⟩
          have HFq : Hid (Fine (feedN s.ph (s.nx : Int) s.buf s.he s.fr s.bo s.R s.T s.V 1 Y).1) := feedN_fine _ _ _ _ _ _ _ _ _ _ _
          have HG3 : Hid (sesGo k B q7 (feedN s.ph (s.nx : Int) s.buf s.he s.fr s.bo s.R s.T s.V 1 Y).1 = Z) := HG2.out
          generalize feedN s.ph (s.nx : Int) s.buf s.he s.fr s.bo s.R s.T s.V 1 Y = Q at S9 HFq HG3 ⊢
          obtain ⟨m1, j1, hx1⟩ := strs_form2 S9.1
          obtain ⟨m2, j2, hx2⟩ := bls_form S9.2.1
          obtain ⟨m3, j3, hx3⟩ := vds_formD S9.2.2
          subst hx1 hx2 hx3
          have HP : Hid _ := HS8.out.put hb9 S9
          have HB9 : Hid (SB w4.heap.size s _ _ _ w9) := SB.below HS8.out.sb hb9
          have HZ9 : Hid (SB w.heap.size sn0 (.slice none 0 0) (.slice none 0 0) (.slice none 0 0) w9) := SB.below HZ8.out hb9
          have H9 : Hid (RdAt w9 b cv B q7) := H8.out.below hb9 (Nat.le_refl _)
          have o9 : Off b w w9 := o8.trans (Off.of_below hb9)
          have z9 := hb9.size
          obtain ⟨a0, a1, a2, a3, a4, a5, a6, a7, a8⟩ := HB9.out.cells
          obtain ⟨f0, f1, f2, f3, f4, f5, f6, f7, f8⟩ := HB9.out.frees
          have ltB : w4.heap.size < w9.heap.size := HB9.out.lt
          clear S9 hb9 HS8 HZ8 H8 o8 HG2
          go_wp2
          go_roundw
          case rel => exact ⟨k, q7, Q.1, _, _, _, _, _, _, by go_num, by omega, HG3, HFq, HP, sb_nine HZ9.out (by omega) _ _ _ _ _ _ _ _ _, H.out.carry H9.out (below_nine (Below.refl _ _) (by omega) _ _ _ _ _ _ _ _ _), o9.carry (below_nine (Below.refl _ _) (by omega) _ _ _ _ _ _ _ _ _) (Nat.le_refl _), by simp; omega⟩
          case measure => simp [intOf]
      · obtain rfl : n = 0 := by omega
        obtain rfl : Z = (s, q) := HG.out.symm
        obtain ⟨r0, r1, r2, r3, r4, r5, r6, r7, r8⟩ := HZr.out.zero
        obtain ⟨rf0, rf1, rf2, rf3, rf4, rf5, rf6, rf7, rf8⟩ := HZr.out.frees
        have zl : w.heap.size < wr.heap.size := HZr.out.lt
        go_wp2
        refine bodyPost_ret (v := .agg #[.int .i64 s.ph, .string s.buf, .string s.he, .string s.fr, .string s.bo, .slice y1 s.R.length k1, .int .i64 (s.nx : Int), .slice y2 s.T.length k2, .slice y3 s.V.length k3]) (by simp [results, Tryz.results52, go_sem, r0, r1, r2, r3, r4, r5, r6, r7, r8]) rfl ?_
        rw [HE.out]
        refine ⟨⟨_, _, _, rfl, ?_⟩, ?_, ?_⟩
        · exact (HSr.out.sv.nine (b := w.heap.size) (by omega) _ _ _ _ _ _ _ _ _).le (by omega)
        · exact H.out.carry HR.out (below_nine (Below.refl _ _) (Nat.le_refl _) _ _ _ _ _ _ _ _ _)
        · exact orr.carry (below_nine (Below.refl _ _) (Nat.le_refl _) _ _ _ _ _ _ _ _ _) (Nat.le_refl _)
end Go.Proofs.YtngcjlghjidnjaaGreatDoor
namespace Go.Proofs.YtngcjlghjidnjaaGreatDoor
open Go.ChangeShapes Go.WideShapes Go.ChangeAt Go.RowKit
attribute [local go_sem ↓] Go.wp_at_zero Go.wp_at_succ
theorem rd_drewX {w : World} {b p : Nat} {cv : Value} {B : List UInt8} (h : RdAt w b cv B p) : RdAt w.drew b cv B p := h
theorem SV.drewX {w : World} {lo : Nat} {u1 u2 u3 : Value} {s : Sn} (h : SV w lo u1 u2 u3 s) : SV w.drew lo u1 u2 u3 s := h
set_option maxHeartbeats 2000000 in
set_option maxRecDepth 100000 in
theorem fillX (n : Nat) (w : World) (hn : n ≤ 100000) :
    Calls Tryz.prog 57 #[.int .i64 n] w fun e w' => e = .returned (.string (ofInts (fillL n))) ∧ Below w.heap.size w w' := by
  obtain ⟨i0, hi, hz0, hz1, hz2⟩ := info_parts infoU8
  have hmk : (Instr.makeSlice 22 (.int .i64 (n : Int)) (.int .i64 (n : Int))).run Tryz.prog w = .ok (.slice (some ⟨w.heap.size, 0, none⟩) n n) (w.alloc (.cells (madeCells (Value.int .u8 0).cells n) 5)) := by
    have e := run_make (P := Tryz.prog) w 22 5 i0 (.int .u8 0) Tryz.underlying22 hi hz0 .i64 .i64 (n : Int) (n : Int) (by omega) (by omega) (by rw [hz2]; omega) (by omega)
    simpa [hz1] using e
  have HM : Hid (Byts (w.alloc (.cells (madeCells (Value.int .u8 0).cells n) 5)) w.heap.size (.slice (some ⟨w.heap.size, 0, none⟩) n n) (fillL 0 ++ List.replicate (n - 0) 0)) := byts_made w n (by unfold maxLen; omega)
  clear hi hz0 hz1 hz2
  obtain ⟨Z, HZ⟩ : ∃ Z, Hid (Obj.cells (madeCells (Value.int .u8 0).cells n) 5 = Z) := ⟨_, rfl⟩
  rw [HZ.out] at hmk HM
  go_enter Tryz.func57, Tryz.ntmps57
  go_wp2
  go_loopw [4, 11] (fun _ i wr => ∃ k : Nat, k ≤ n ∧ i = .int .i64 k ∧ Hid (Byts wr w.heap.size (.slice (some ⟨w.heap.size, 0, none⟩) n n) (fillL k ++ List.replicate (n - k) 0)) ∧ Below w.heap.size w wr) (fun _ i _ => n - (intOf i).toNat)
  case atStart => exact ⟨0, Nat.zero_le _, rfl, HM, below1 _ _⟩
  case round =>
    obtain ⟨k, hk, rfl, HS, hb⟩ := hrel
    by_cases hlt : k < n
    · have hlen : (fillL k ++ List.replicate (n - k) (0 : Int)).length = n := by simp [fillL]; omega
      obtain ⟨y, ec⟩ : ∃ y, wr.cell? ⟨w.heap.size, k, none⟩ = some (.int .u8 y) := ⟨_, HS.out.cell.1 k (by omega)⟩
      have ef := HS.out.cell.2.1 k
      clear hlen
      go_wp2
      go_roundw
      case rel =>
        refine ⟨k + 1, by omega, by go_num, ?_, hb.setCell (Nat.le_refl _) _⟩
        show Byts _ _ _ _
        rw [← fillL_step n k hlt]
        exact byts_set HS.out _
      case measure => simp [intOf]; omega
    · obtain rfl : k = n := by omega
      have hcv : (convert 22 9 (.slice (some ⟨w.heap.size, 0, none⟩) k k)).run Tryz.prog wr = .ok (.string (ofInts (fillL k))) wr := by
        have e := run_row_str HS.out
        rw [Nat.sub_self, List.replicate_zero, List.append_nil] at e
        exact e
      go_wp2
      go_ret
      exact ⟨rfl, hb⟩

def tAnd : ByteArray := ⟨#[50, 53, 48, 32, 97, 110, 100]⟩
/-- some replies, one behind another -/
def rpGo : Nat → List UInt8 → Nat → ByteArray → ByteArray × Nat
  | 0, _, p, acc => (acc, p)
  | n + 1, B, p, acc => rpGo n B (repF B p).2 (acc ++ (repF B p).1)
theorem rpGo_size : ∀ (n : Nat) (B : List UInt8) (p : Nat) (acc : ByteArray), (rpGo n B p acc).1.size ≤ acc.size + n * 200
  | 0, _, _, _ => by simp [rpGo]
  | n + 1, B, p, acc => by
    rw [rpGo]
    have h1 := rpGo_size n B (repF B p).2 (acc ++ (repF B p).1)
    have h2 := repF_size B p
    rw [ByteArray.size_append] at h1
    omega
/-- a drawn session's waiting bytes, and a drawn event -/
def drwD (B : List UInt8) (c : Nat) (s : Sn) (q : Nat) : ByteArray × Int × ByteArray :=
  if c % 10 = 0 then (s.buf, 2 + (c : Int) / 10 % 3, if c = 250 then ofInts (fillL 40001) else ⟨#[]⟩)
  else if c % 10 = 1 ∨ c % 10 = 2 then (s.buf, 1, (repF B q).1 ++ tAnd)
  else if c % 10 = 3 then (s.buf, 1, (spoF B (repF B q).2 (repF B q).1).1)
  else if c % 10 = 4 then (s.buf, 1, keepB (repF B q).1 ((c : Int) / 10))
  else if c % 10 = 5 then (s.buf, 1, (rpGo 3 B q ⟨#[]⟩).1)
  else if c % 10 = 6 then (keepB (goodF s.ph) ((c : Int) / 10 % 8), 1, (goodF s.ph).extract (keepB (goodF s.ph) ((c : Int) / 10 % 8)).size (goodF s.ph).size)
  else (s.buf, 1, goodF s.ph)
def drS (B : List UInt8) : Sn := (sesF B (px B 0)).1
def drD (B : List UInt8) : ByteArray × Int × ByteArray := drwD B (nx B 0) (sesF B (px B 0)).1 (sesF B (px B 0)).2
def drX (B : List UInt8) : Int := if nx B 0 % 31 = 30 then -1 else ((drS B).nx : Int)
theorem drwD_size (B : List UInt8) (c : Nat) (s : Sn) (q : Nat) (h : s.buf.size ≤ 40000) : (drwD B c s q).1.size ≤ 40000 ∧ (drwD B c s q).2.2.size ≤ 40001 := by
  unfold drwD
  have g := goodF_size s.ph
  have r := repF_size B q
  have e0 : (⟨#[]⟩ : ByteArray).size = 0 := rfl
  have e7 : tAnd.size = 7 := rfl
  split
  · refine ⟨h, ?_⟩
    dsimp only
    split
    · rw [fill_size]; decide
    · exact Nat.zero_le _
  · split
    · refine ⟨h, ?_⟩
      dsimp only
      rw [ByteArray.size_append]
      omega
    · split
      · have := spoF_size B (repF B q).2 (repF B q).1
        refine ⟨h, ?_⟩
        dsimp only
        omega
      · split
        · have := keepB_size (repF B q).1 ((c : Int) / 10)
          refine ⟨h, ?_⟩
          dsimp only
          omega
        · split
          · have := rpGo_size 3 B q ⟨#[]⟩
            refine ⟨h, ?_⟩
            dsimp only
            omega
          · split
            · have := keepB_size (goodF s.ph) ((c : Int) / 10 % 8)
              refine ⟨?_, ?_⟩
              · dsimp only; omega
              · dsimp only; rw [ByteArray.size_extract]; omega
            · exact ⟨h, by dsimp only; omega⟩

set_option maxHeartbeats 8000000 in
set_option maxRecDepth 100000 in
theorem drawFeedX (cv : Value) (B : List UInt8) (w : World) (hC : CodeAt w cv B) :
    Calls Tryz.prog 16 #[cv] w fun e w' => (∃ u1 u2 u3, e = .returned (.tuple #[.agg #[.int .i64 (drS B).ph, .string (drD B).1, .string (drS B).he, .string (drS B).fr, .string (drS B).bo, u1, .int .i64 (drX B), u2, u3], .agg #[.int .i64 (drD B).2.1, .string (drD B).2.2]]) ∧ SV w' w.heap.size u1 u2 u3 (drS B)) ∧ Below w.heap.size w w' := by
  obtain ⟨ca, cc, hcv⟩ := hC.form
  have HCo : Hid (CodeAt w cv B) := hC
  subst hcv
  clear hC
  go_enter Tryz.func16, Tryz.ntmps16
  go_wp2_with fail
  generalize hW : World.alloc _ _ = W
  have HZS_W : Hid (SB w.heap.size sn0 (.slice none 0 0) (.slice none 0 0) (.slice none 0 0) W) := by show SB _ _ _ _ _ _; rw [← hW]; exact (blk3 w _ _ _ _ _ _).1
  have HZE_W : Hid (Blk (w.heap.size + 1) #[.int .i64 0, .string ⟨#[]⟩] W) := by show Blk _ _ _; rw [← hW]; exact (blk3 w _ _ _ _ _ _).2.1
  have b_W : Below w.heap.size w W := by rw [← hW]; exact below3 _ _ _ _
  have H0 : Hid (RdAt W (w.heap.size + 1 + 1) (.slice ca B.length cc) B 0) := by
    show RdAt _ _ _ _ _
    rw [← hW]
    have e := rd_new ((w.alloc (.cells #[.int .i64 0, .string ⟨#[]⟩, .string ⟨#[]⟩, .string ⟨#[]⟩, .string ⟨#[]⟩, .slice none 0 0, .int .i64 0, .slice none 0 0, .slice none 0 0] 29)).alloc (.cells #[.int .i64 0, .string ⟨#[]⟩] 35)) (.slice ca B.length cc) B (HCo.out.below (below2 w _ _))
    simpa using e
  have z_W : w.heap.size + 2 < W.heap.size := by rw [← hW]; simp
  clear hW
  refine (rdNext _ 0 _ B W H0.out).mono ?_
  rintro e w1 ⟨rfl, h1, ho1⟩
  have hc := nx_lt B 0
  generalize hcE : nx B 0 = c at hc ⊢
  generalize hqE : px B 0 = q1 at h1
  have HC : Hid (nx B 0 = c) := hcE
  have HP : Hid (px B 0 = q1) := hqE
  have H1 : Hid (RdAt w1 (w.heap.size + 1 + 1) (.slice ca B.length cc) B q1) := h1
  have HZS_w1 : Hid (SB w.heap.size sn0 (.slice none 0 0) (.slice none 0 0) (.slice none 0 0) w1) := Blk.offR HZS_W.out ho1 (by omega)
  have HZE_w1 : Hid (Blk (w.heap.size + 1) #[.int .i64 0, .string ⟨#[]⟩] w1) := Blk.offR HZE_W.out ho1 (by omega)
  have b_w1 : Below w.heap.size w w1 := b_W.trans ((ho1.belowAt (N := w.heap.size) (by omega) (by omega)).mono (Nat.le_refl _))
  have z_w1 := ho1.size
  clear hcE hqE h1 ho1 H0 HZS_W HZE_W
  go_wp2_with fail
  refine (rdSessX _ q1 _ B w1 H1.out).mono ?_
  rintro e w2 ⟨⟨u1, u2, u3, rfl, S2⟩, h2, ho2⟩
  have hfin := sesF_fine B q1
  obtain ⟨s, q2, hSF⟩ : ∃ s q2, sesF B q1 = (s, q2) := ⟨_, _, rfl⟩
  rw [hSF] at S2 h2 hfin ⊢
  have HSF : Hid (sesF B q1 = (s, q2)) := hSF
  have HFi : Hid (Fine s) := hfin
  have hph := hfin.ph
  have H2 : Hid (RdAt w2 (w.heap.size + 1 + 1) (.slice ca B.length cc) B q2) := h2
  obtain ⟨y1, k1, hx1⟩ := strs_form2 S2.1
  obtain ⟨y2, k2, hx2⟩ := bls_form S2.2.1
  obtain ⟨y3, k3, hx3⟩ := vds_formD S2.2.2
  subst hx1 hx2 hx3
  have HV2 : Hid (SV w2 w1.heap.size (.slice y1 s.R.length k1) (.slice y2 s.T.length k2) (.slice y3 s.V.length k3) s) := S2
  have HZS_w2 : Hid (SB w.heap.size sn0 (.slice none 0 0) (.slice none 0 0) (.slice none 0 0) w2) := Blk.offR HZS_w1.out ho2 (by omega)
  have HZE_w2 : Hid (Blk (w.heap.size + 1) #[.int .i64 0, .string ⟨#[]⟩] w2) := Blk.offR HZE_w1.out ho2 (by omega)
  have b_w2 : Below w.heap.size w w2 := b_w1.trans ((ho2.belowAt (N := w.heap.size) (by omega) (by omega)).mono (Nat.le_refl _))
  have z_w2 := ho2.size
  clear hSF S2 h2 ho2 hfin H1 HZS_w1 HZE_w1
  have HW3 : Hid (∀ W3, W3 = (w2.alloc (.cells (c9 s (.slice y1 s.R.length k1) (.slice y2 s.T.length k2) (.slice y3 s.V.length k3)) 29)).alloc (.cells #[.int .i64 1, .string ⟨#[]⟩] 35) → Below w2.heap.size w2 W3 ∧ SB w2.heap.size s (.slice y1 s.R.length k1) (.slice y2 s.T.length k2) (.slice y3 s.V.length k3) W3 ∧ Blk (w2.heap.size + 1) #[.int .i64 1, .string ⟨#[]⟩] W3 ∧ w2.heap.size + 2 ≤ W3.heap.size) := by
    rintro W3 rfl
    exact ⟨below2 _ _ _, (blk2 w2 _ _ _ _).1, (blk2 w2 _ _ _ _).2, by simp⟩
  have HdS : Hid (drS B = s) := by show drS B = s; unfold drS; rw [HP.out, HSF.out]
  have HN : Hid (∀ (wx : World) (a : Addr) (u : Value), (w2.heap.size ≤ a.block ∨ a.block < w1.heap.size) → SV wx w1.heap.size (.slice y1 s.R.length k1) (.slice y2 s.T.length k2) (.slice y3 s.V.length k3) s → SV (wx.setCell a u) w1.heap.size (.slice y1 s.R.length k1) (.slice y2 s.T.length k2) (.slice y3 s.V.length k3) s) := by
    intro wx a u hor hx
    have o := HV2.out.own
    exact SV.set_ne hx (fun g hg => by have := o.1 g hg; omega) (fun g hg => by have := o.2.1 g hg; omega) (fun g hg => by have := o.2.2 g hg; omega) u
  obtain ⟨m, hm0, hm, hm10⟩ : ∃ m : Nat, c % 10 = m ∧ (c : Int) % 10 = (m : Int) ∧ m < 10 := ⟨c % 10, rfl, by omega, by omega⟩
  go_upto_region 5 with fail
  generalize hW3 : World.alloc _ _ = W3
  obtain ⟨hb3, hs3, he3, z3⟩ := HW3.out W3 hW3.symm
  have HSb_W3 : Hid (SB w2.heap.size s (.slice y1 s.R.length k1) (.slice y2 s.T.length k2) (.slice y3 s.V.length k3) W3) := hs3
  have HEv_W3 : Hid (Blk (w2.heap.size + 1) #[.int .i64 1, .string ⟨#[]⟩] W3) := he3
  have HV_W3 : Hid (SV W3 w1.heap.size (.slice y1 s.R.length k1) (.slice y2 s.T.length k2) (.slice y3 s.V.length k3) s) := HV2.out.below hb3 (Nat.le_refl _)
  have H3 : Hid (RdAt W3 (w.heap.size + 1 + 1) (.slice ca B.length cc) B q2) := H2.out.below hb3 (Nat.le_refl _)
  have HZS_W3 : Hid (SB w.heap.size sn0 (.slice none 0 0) (.slice none 0 0) (.slice none 0 0) W3) := SB.below HZS_w2.out hb3
  have HZE_W3 : Hid (Blk (w.heap.size + 1) #[.int .i64 0, .string ⟨#[]⟩] W3) := Blk.below HZE_w2.out hb3
  have b_W3 : Below w.heap.size w W3 := b_w2.trans (hb3.mono b_w2.size)
  have z_W3 := hb3.size
  clear hW3 hb3 hs3 he3 HW3 HV2 HZS_w2 HZE_w2
  by_cases m7 : 7 ≤ m
  · have a0 : ((m : Int) == 0) = false := beq_eq_false_iff_ne.2 (by omega)
    have a1 : ((m : Int) == 1) = false := beq_eq_false_iff_ne.2 (by omega)
    have a2 : ((m : Int) == 2) = false := beq_eq_false_iff_ne.2 (by omega)
    have a3 : ((m : Int) == 3) = false := beq_eq_false_iff_ne.2 (by omega)
    have a4 : ((m : Int) == 4) = false := beq_eq_false_iff_ne.2 (by omega)
    have a5 : ((m : Int) == 5) = false := beq_eq_false_iff_ne.2 (by omega)
    have a6 : ((m : Int) == 6) = false := beq_eq_false_iff_ne.2 (by omega)
    have c250 : ((c : Int) == 250) = false := beq_eq_false_iff_ne.2 (by omega)
    obtain ⟨t0, t1, t2, t3, t4, t5, t6, t7, t8⟩ := HSb_W3.out.cells
    go_wp2_with fail
    clear t0 t1 t2 t3 t4 t5 t6 t7 t8
    refine (specGood s.ph W3 (by omega) (by omega)).mono ?_
    rintro e w4 ⟨rfl, hb4⟩
    have hgs := goodF_size s.ph
    have HDD : Hid (drD B = (s.buf, 1, goodF s.ph)) := by show drD B = _; unfold drD drwD; rw [HP.out, HC.out, HSF.out, if_neg (by omega), if_neg (by omega), if_neg (by omega), if_neg (by omega), if_neg (by omega), if_neg (by omega)]
    have HZS_w4 : Hid (SB w.heap.size sn0 (.slice none 0 0) (.slice none 0 0) (.slice none 0 0) w4) := SB.below HZS_W3.out hb4
    have HZE_w4 : Hid (Blk (w.heap.size + 1) #[.int .i64 0, .string ⟨#[]⟩] w4) := Blk.below HZE_W3.out hb4
    have b_w4 : Below w.heap.size w w4 := b_W3.trans (hb4.mono b_W3.size)
    have z_w4 := hb4.size
    have HSb_w4 : Hid (SB w2.heap.size s (.slice y1 s.R.length k1) (.slice y2 s.T.length k2) (.slice y3 s.V.length k3) w4) := SB.below HSb_W3.out hb4
    have HEv_w4 : Hid (Blk (w2.heap.size + 1) #[.int .i64 1, .string ⟨#[]⟩] w4) := Blk.below HEv_W3.out hb4
    have HV_w4 : Hid (SV w4 w1.heap.size (.slice y1 s.R.length k1) (.slice y2 s.T.length k2) (.slice y3 s.V.length k3) s) := HV_W3.out.below hb4 (Nat.le_refl _)
    generalize goodF s.ph = Y at HDD hgs ⊢
    clear hb4
    obtain ⟨t0, t1, t2, t3, t4, t5, t6, t7, t8⟩ := HSb_w4.out.cells
    obtain ⟨tf0, tf1, tf2, tf3, tf4, tf5, tf6, tf7, tf8⟩ := HSb_w4.out.frees
    have v0 := HEv_w4.out.cell 0
    have v1 := HEv_w4.out.cell 1
    simp only [List.getElem?_toArray, List.getElem?_cons_succ, List.getElem?_cons_zero] at v0 v1
    have vf0 := HEv_w4.out.free 0
    have vf1 := HEv_w4.out.free 1
    have n3 : ¬ w2.heap.size + 1 = w2.heap.size := by omega
    have n4 : ¬ w2.heap.size = w2.heap.size + 1 := by omega
    by_cases h31 : c % 31 = 30
    · have h31i : (c : Int) % 31 = 30 := by omega
      have HXn : Hid (drX B = -1) := by show drX B = -1; unfold drX; rw [HC.out, if_pos h31]
      go_wp2_with fail
      generalize hW9 : World.setCell _ _ _ = W9
      have HS9 : Hid (Blk w2.heap.size #[.int .i64 s.ph, .string s.buf, .string s.he, .string s.fr, .string s.bo, .slice y1 s.R.length k1, .int .i64 (-1), .slice y2 s.T.length k2, .slice y3 s.V.length k3] W9) := by show Blk _ _ _; rw [← hW9]; exact (Blk.set (Blk.other HSb_w4.out (by omega)) (i := 6) (v := .int .i64 (-1)) (show 6 < 9 by decide))
      have HE9 : Hid (Blk (w2.heap.size + 1) #[.int .i64 1, .string Y] W9) := by show Blk _ _ _; rw [← hW9]; exact (Blk.other (Blk.set HEv_w4.out (i := 1) (v := .string Y) (show 1 < 2 by decide)) (by omega))
      have HZ9 : Hid (SB w.heap.size sn0 (.slice none 0 0) (.slice none 0 0) (.slice none 0 0) W9) := by show SB _ _ _ _ _ _; rw [← hW9]; exact (Blk.other (Blk.other HZS_w4.out (by omega)) (by omega))
      have HY9 : Hid (Blk (w.heap.size + 1) #[.int .i64 0, .string ⟨#[]⟩] W9) := by show Blk _ _ _; rw [← hW9]; exact (Blk.other (Blk.other HZE_w4.out (by omega)) (by omega))
      have HV9 : Hid (SV W9 w1.heap.size (.slice y1 s.R.length k1) (.slice y2 s.T.length k2) (.slice y3 s.V.length k3) s) := by show SV _ _ _ _ _ _; rw [← hW9]; exact (HN.out _ _ _ (.inl (by show w2.heap.size ≤ w2.heap.size; omega)) (HN.out _ _ _ (.inl (by show w2.heap.size ≤ w2.heap.size + 1; omega)) HV_w4.out))
      have b9 : Below w.heap.size w W9 := by rw [← hW9]; exact (Below.setCell (Below.setCell b_w4 (by show w.heap.size ≤ w2.heap.size + 1; omega) _) (by show w.heap.size ≤ w2.heap.size; omega) _)
      clear hW9 HSb_w4 HEv_w4 HZS_w4 HZE_w4 HV_w4 b_w4
      clear t0 t1 t2 t3 t4 t5 t6 t7 t8 tf0 tf1 tf2 tf3 tf4 tf5 tf6 tf7 tf8 v0 v1 vf0 vf1
      have t0 : W9.cell? ⟨w2.heap.size, 0, none⟩ = some (.int .i64 s.ph) := HS9.out.cell 0
      have t1 : W9.cell? ⟨w2.heap.size, 1, none⟩ = some (.string s.buf) := HS9.out.cell 1
      have t2 : W9.cell? ⟨w2.heap.size, 2, none⟩ = some (.string s.he) := HS9.out.cell 2
      have t3 : W9.cell? ⟨w2.heap.size, 3, none⟩ = some (.string s.fr) := HS9.out.cell 3
      have t4 : W9.cell? ⟨w2.heap.size, 4, none⟩ = some (.string s.bo) := HS9.out.cell 4
      have t5 : W9.cell? ⟨w2.heap.size, 5, none⟩ = some (.slice y1 s.R.length k1) := HS9.out.cell 5
      have t6 : W9.cell? ⟨w2.heap.size, 6, none⟩ = some (.int .i64 (-1)) := HS9.out.cell 6
      have t7 : W9.cell? ⟨w2.heap.size, 7, none⟩ = some (.slice y2 s.T.length k2) := HS9.out.cell 7
      have t8 : W9.cell? ⟨w2.heap.size, 8, none⟩ = some (.slice y3 s.V.length k3) := HS9.out.cell 8
      have v0 : W9.cell? ⟨w2.heap.size + 1, 0, none⟩ = some (.int .i64 1) := HE9.out.cell 0
      have v1 : W9.cell? ⟨w2.heap.size + 1, 1, none⟩ = some (.string Y) := HE9.out.cell 1
      obtain ⟨r0, r1, r2, r3, r4, r5, r6, r7, r8⟩ := HZ9.out.zero
      obtain ⟨rf0, rf1, rf2, rf3, rf4, rf5, rf6, rf7, rf8⟩ := HZ9.out.frees
      have x0 : W9.cell? ⟨w.heap.size + 1, 0, none⟩ = some (.int .i64 0) := HY9.out.cell 0
      have x1 : W9.cell? ⟨w.heap.size + 1, 1, none⟩ = some (.string ⟨#[]⟩) := HY9.out.cell 1
      have xf0 := HY9.out.free 0
      have xf1 := HY9.out.free 1
      have la : w2.heap.size < W9.heap.size := HS9.out.lt
      have lb : w2.heap.size + 1 < W9.heap.size := HE9.out.lt
      have lc : w.heap.size < W9.heap.size := HZ9.out.lt
      have ld : w.heap.size + 1 < W9.heap.size := HY9.out.lt
      have h1 : w.heap.size < w1.heap.size := by omega
      have h2 : w.heap.size + 1 < w1.heap.size := by omega
      go_region
      all_goals
        go_wp2
        refine bodyPost_ret (v := .tuple #[.agg #[.int .i64 s.ph, .string s.buf, .string s.he, .string s.fr, .string s.bo, .slice y1 s.R.length k1, .int .i64 (-1), .slice y2 s.T.length k2, .slice y3 s.V.length k3], .agg #[.int .i64 1, .string Y]]) (by simp [results, Tryz.results16, go_sem, r0, r1, r2, r3, r4, r5, r6, r7, r8, x0, x1]) rfl ?_
        rw [HDD.out, HXn.out, HdS.out]
        refine ⟨⟨_, _, _, rfl, ?_⟩, ?_⟩
        · exact SV.le (SV.drewX (HN.out _ _ _ (.inr h2) (HN.out _ _ _ (.inr h2) (SV.nine HV9.out h1 _ _ _ _ _ _ _ _ _)))) (Nat.le_of_lt h1)
        · exact Below.drew (Below.setCell (Below.setCell (below_nine b9 (Nat.le_refl _) _ _ _ _ _ _ _ _ _) (Nat.le_succ _) _) (Nat.le_succ _) _)
    · have h31i : ¬ (c : Int) % 31 = 30 := by omega
      have HXn : Hid (drX B = (s.nx : Int)) := by show drX B = _; unfold drX; rw [HC.out, if_neg h31, HdS.out]
      go_wp2_with fail
      generalize hW9 : World.setCell _ _ _ = W9
      have HS9 : Hid (Blk w2.heap.size #[.int .i64 s.ph, .string s.buf, .string s.he, .string s.fr, .string s.bo, .slice y1 s.R.length k1, .int .i64 (s.nx : Int), .slice y2 s.T.length k2, .slice y3 s.V.length k3] W9) := by show Blk _ _ _; rw [← hW9]; exact (Blk.other HSb_w4.out (by omega))
      have HE9 : Hid (Blk (w2.heap.size + 1) #[.int .i64 1, .string Y] W9) := by show Blk _ _ _; rw [← hW9]; exact (Blk.set HEv_w4.out (i := 1) (v := .string Y) (show 1 < 2 by decide))
      have HZ9 : Hid (SB w.heap.size sn0 (.slice none 0 0) (.slice none 0 0) (.slice none 0 0) W9) := by show SB _ _ _ _ _ _; rw [← hW9]; exact (Blk.other HZS_w4.out (by omega))
      have HY9 : Hid (Blk (w.heap.size + 1) #[.int .i64 0, .string ⟨#[]⟩] W9) := by show Blk _ _ _; rw [← hW9]; exact (Blk.other HZE_w4.out (by omega))
      have HV9 : Hid (SV W9 w1.heap.size (.slice y1 s.R.length k1) (.slice y2 s.T.length k2) (.slice y3 s.V.length k3) s) := by show SV _ _ _ _ _ _; rw [← hW9]; exact (HN.out _ _ _ (.inl (by show w2.heap.size ≤ w2.heap.size + 1; omega)) HV_w4.out)
      have b9 : Below w.heap.size w W9 := by rw [← hW9]; exact (Below.setCell b_w4 (by show w.heap.size ≤ w2.heap.size + 1; omega) _)
      clear hW9 HSb_w4 HEv_w4 HZS_w4 HZE_w4 HV_w4 b_w4
      clear t0 t1 t2 t3 t4 t5 t6 t7 t8 tf0 tf1 tf2 tf3 tf4 tf5 tf6 tf7 tf8 v0 v1 vf0 vf1
      have t0 : W9.cell? ⟨w2.heap.size, 0, none⟩ = some (.int .i64 s.ph) := HS9.out.cell 0
      have t1 : W9.cell? ⟨w2.heap.size, 1, none⟩ = some (.string s.buf) := HS9.out.cell 1
      have t2 : W9.cell? ⟨w2.heap.size, 2, none⟩ = some (.string s.he) := HS9.out.cell 2
      have t3 : W9.cell? ⟨w2.heap.size, 3, none⟩ = some (.string s.fr) := HS9.out.cell 3
      have t4 : W9.cell? ⟨w2.heap.size, 4, none⟩ = some (.string s.bo) := HS9.out.cell 4
      have t5 : W9.cell? ⟨w2.heap.size, 5, none⟩ = some (.slice y1 s.R.length k1) := HS9.out.cell 5
      have t6 : W9.cell? ⟨w2.heap.size, 6, none⟩ = some (.int .i64 (s.nx : Int)) := HS9.out.cell 6
      have t7 : W9.cell? ⟨w2.heap.size, 7, none⟩ = some (.slice y2 s.T.length k2) := HS9.out.cell 7
      have t8 : W9.cell? ⟨w2.heap.size, 8, none⟩ = some (.slice y3 s.V.length k3) := HS9.out.cell 8
      have v0 : W9.cell? ⟨w2.heap.size + 1, 0, none⟩ = some (.int .i64 1) := HE9.out.cell 0
      have v1 : W9.cell? ⟨w2.heap.size + 1, 1, none⟩ = some (.string Y) := HE9.out.cell 1
      obtain ⟨r0, r1, r2, r3, r4, r5, r6, r7, r8⟩ := HZ9.out.zero
      obtain ⟨rf0, rf1, rf2, rf3, rf4, rf5, rf6, rf7, rf8⟩ := HZ9.out.frees
      have x0 : W9.cell? ⟨w.heap.size + 1, 0, none⟩ = some (.int .i64 0) := HY9.out.cell 0
      have x1 : W9.cell? ⟨w.heap.size + 1, 1, none⟩ = some (.string ⟨#[]⟩) := HY9.out.cell 1
      have xf0 := HY9.out.free 0
      have xf1 := HY9.out.free 1
      have la : w2.heap.size < W9.heap.size := HS9.out.lt
      have lb : w2.heap.size + 1 < W9.heap.size := HE9.out.lt
      have lc : w.heap.size < W9.heap.size := HZ9.out.lt
      have ld : w.heap.size + 1 < W9.heap.size := HY9.out.lt
      have h1 : w.heap.size < w1.heap.size := by omega
      have h2 : w.heap.size + 1 < w1.heap.size := by omega
      go_region
      all_goals
        go_wp2
        refine bodyPost_ret (v := .tuple #[.agg #[.int .i64 s.ph, .string s.buf, .string s.he, .string s.fr, .string s.bo, .slice y1 s.R.length k1, .int .i64 (s.nx : Int), .slice y2 s.T.length k2, .slice y3 s.V.length k3], .agg #[.int .i64 1, .string Y]]) (by simp [results, Tryz.results16, go_sem, r0, r1, r2, r3, r4, r5, r6, r7, r8, x0, x1]) rfl ?_
        rw [HDD.out, HXn.out, HdS.out]
        refine ⟨⟨_, _, _, rfl, ?_⟩, ?_⟩
        · exact SV.le (SV.drewX (HN.out _ _ _ (.inr h2) (HN.out _ _ _ (.inr h2) (SV.nine HV9.out h1 _ _ _ _ _ _ _ _ _)))) (Nat.le_of_lt h1)
        · exact Below.drew (Below.setCell (Below.setCell (below_nine b9 (Nat.le_refl _) _ _ _ _ _ _ _ _ _) (Nat.le_succ _) _) (Nat.le_succ _) _)
  · have mm : m = 0 ∨ m = 3 ∨ m = 4 ∨ m = 5 ∨ m = 6 ∨ (m = 1 ∨ m = 2) := by omega
    rcases mm with rfl | rfl | rfl | rfl | rfl | h12
    · have hmk : (c : Int) % 10 = 0 := by omega
      clear hm
      by_cases c25 : c = 250
      · have HDD : Hid (drD B = (s.buf, 3, ofInts (fillL 40001))) := by show drD B = _; unfold drD drwD; rw [HP.out, HC.out, HSF.out, if_pos (by omega), if_pos c25, c25]; rfl
        have c25i : (c : Int) = 250 := by omega
        obtain ⟨t0, t1, t2, t3, t4, t5, t6, t7, t8⟩ := HSb_W3.out.cells
        have v0 : W3.cell? ⟨w2.heap.size + 1, 0, none⟩ = some (.int .i64 1) := HEv_W3.out.cell 0
        have vf0 := HEv_W3.out.free 0
        have la : w2.heap.size + 1 < W3.heap.size := HEv_W3.out.lt
        go_wp2_with fail
        generalize hW5 : World.setCell _ _ _ = W5
        have HSb_W5 : Hid (SB w2.heap.size s (.slice y1 s.R.length k1) (.slice y2 s.T.length k2) (.slice y3 s.V.length k3) W5) := by show SB _ _ _ _ _ _; rw [← hW5]; exact Blk.other HSb_W3.out (by omega)
        have HEv_W5 : Hid (Blk (w2.heap.size + 1) #[.int .i64 3, .string ⟨#[]⟩] W5) := by show Blk _ _ _; rw [← hW5]; exact Blk.set HEv_W3.out (i := 0) (v := .int .i64 3) (show 0 < 2 by decide)
        have HZS_W5 : Hid (SB w.heap.size sn0 (.slice none 0 0) (.slice none 0 0) (.slice none 0 0) W5) := by show SB _ _ _ _ _ _; rw [← hW5]; exact Blk.other HZS_W3.out (by omega)
        have HZE_W5 : Hid (Blk (w.heap.size + 1) #[.int .i64 0, .string ⟨#[]⟩] W5) := by show Blk _ _ _; rw [← hW5]; exact Blk.other HZE_W3.out (by omega)
        have HV_W5 : Hid (SV W5 w1.heap.size (.slice y1 s.R.length k1) (.slice y2 s.T.length k2) (.slice y3 s.V.length k3) s) := by show SV _ _ _ _ _ _; rw [← hW5]; exact HN.out _ _ _ (.inl (by show w2.heap.size ≤ w2.heap.size + 1; omega)) HV_W3.out
        have b_W5 : Below w.heap.size w W5 := by rw [← hW5]; exact Below.setCell b_W3 (by show w.heap.size ≤ w2.heap.size + 1; omega) _
        have z_W5 : W3.heap.size ≤ W5.heap.size := by rw [← hW5]; simp
        clear hW5 t0 t1 t2 t3 t4 t5 t6 t7 t8 v0 vf0
        refine (fillX 40001 _ (by decide)).mono ?_
        rintro e w6 ⟨rfl, hb6⟩
        have hys := fill_size 40001
        have HZS_w6 : Hid (SB w.heap.size sn0 (.slice none 0 0) (.slice none 0 0) (.slice none 0 0) w6) := SB.below HZS_W5.out hb6
        have HZE_w6 : Hid (Blk (w.heap.size + 1) #[.int .i64 0, .string ⟨#[]⟩] w6) := Blk.below HZE_W5.out hb6
        have b_w6 : Below w.heap.size w w6 := b_W5.trans (hb6.mono b_W5.size)
        have z_w6 := hb6.size
        have HSb_w6 : Hid (SB w2.heap.size s (.slice y1 s.R.length k1) (.slice y2 s.T.length k2) (.slice y3 s.V.length k3) w6) := SB.below HSb_W5.out hb6
        have HEv_w6 : Hid (Blk (w2.heap.size + 1) #[.int .i64 3, .string ⟨#[]⟩] w6) := Blk.below HEv_W5.out hb6
        have HV_w6 : Hid (SV w6 w1.heap.size (.slice y1 s.R.length k1) (.slice y2 s.T.length k2) (.slice y3 s.V.length k3) s) := HV_W5.out.below hb6 (Nat.le_refl _)
        generalize ofInts (fillL 40001) = Y at HDD hys ⊢
        clear hb6
        obtain ⟨t0, t1, t2, t3, t4, t5, t6, t7, t8⟩ := HSb_w6.out.cells
        obtain ⟨tf0, tf1, tf2, tf3, tf4, tf5, tf6, tf7, tf8⟩ := HSb_w6.out.frees
        have v0 := HEv_w6.out.cell 0
        have v1 := HEv_w6.out.cell 1
        simp only [List.getElem?_toArray, List.getElem?_cons_succ, List.getElem?_cons_zero] at v0 v1
        have vf0 := HEv_w6.out.free 0
        have vf1 := HEv_w6.out.free 1
        have n3 : ¬ w2.heap.size + 1 = w2.heap.size := by omega
        have n4 : ¬ w2.heap.size = w2.heap.size + 1 := by omega
        have h31 : ¬ c % 31 = 30 := by omega
        have h31i : ¬ (c : Int) % 31 = 30 := by omega
        have HXn : Hid (drX B = (s.nx : Int)) := by show drX B = _; unfold drX; rw [HC.out, if_neg h31, HdS.out]
        go_wp2_with fail
        generalize hW9 : World.setCell _ _ _ = W9
        have HS9 : Hid (Blk w2.heap.size #[.int .i64 s.ph, .string s.buf, .string s.he, .string s.fr, .string s.bo, .slice y1 s.R.length k1, .int .i64 (s.nx : Int), .slice y2 s.T.length k2, .slice y3 s.V.length k3] W9) := by show Blk _ _ _; rw [← hW9]; exact (Blk.other HSb_w6.out (by omega))
        have HE9 : Hid (Blk (w2.heap.size + 1) #[.int .i64 3, .string Y] W9) := by show Blk _ _ _; rw [← hW9]; exact (Blk.set HEv_w6.out (i := 1) (v := .string Y) (show 1 < 2 by decide))
        have HZ9 : Hid (SB w.heap.size sn0 (.slice none 0 0) (.slice none 0 0) (.slice none 0 0) W9) := by show SB _ _ _ _ _ _; rw [← hW9]; exact (Blk.other HZS_w6.out (by omega))
        have HY9 : Hid (Blk (w.heap.size + 1) #[.int .i64 0, .string ⟨#[]⟩] W9) := by show Blk _ _ _; rw [← hW9]; exact (Blk.other HZE_w6.out (by omega))
        have HV9 : Hid (SV W9 w1.heap.size (.slice y1 s.R.length k1) (.slice y2 s.T.length k2) (.slice y3 s.V.length k3) s) := by show SV _ _ _ _ _ _; rw [← hW9]; exact (HN.out _ _ _ (.inl (by show w2.heap.size ≤ w2.heap.size + 1; omega)) HV_w6.out)
        have b9 : Below w.heap.size w W9 := by rw [← hW9]; exact (Below.setCell b_w6 (by show w.heap.size ≤ w2.heap.size + 1; omega) _)
        clear hW9 HSb_w6 HEv_w6 HZS_w6 HZE_w6 HV_w6 b_w6
        clear t0 t1 t2 t3 t4 t5 t6 t7 t8 tf0 tf1 tf2 tf3 tf4 tf5 tf6 tf7 tf8 v0 v1 vf0 vf1
        have t0 : W9.cell? ⟨w2.heap.size, 0, none⟩ = some (.int .i64 s.ph) := HS9.out.cell 0
        have t1 : W9.cell? ⟨w2.heap.size, 1, none⟩ = some (.string s.buf) := HS9.out.cell 1
        have t2 : W9.cell? ⟨w2.heap.size, 2, none⟩ = some (.string s.he) := HS9.out.cell 2
        have t3 : W9.cell? ⟨w2.heap.size, 3, none⟩ = some (.string s.fr) := HS9.out.cell 3
        have t4 : W9.cell? ⟨w2.heap.size, 4, none⟩ = some (.string s.bo) := HS9.out.cell 4
        have t5 : W9.cell? ⟨w2.heap.size, 5, none⟩ = some (.slice y1 s.R.length k1) := HS9.out.cell 5
        have t6 : W9.cell? ⟨w2.heap.size, 6, none⟩ = some (.int .i64 (s.nx : Int)) := HS9.out.cell 6
        have t7 : W9.cell? ⟨w2.heap.size, 7, none⟩ = some (.slice y2 s.T.length k2) := HS9.out.cell 7
        have t8 : W9.cell? ⟨w2.heap.size, 8, none⟩ = some (.slice y3 s.V.length k3) := HS9.out.cell 8
        have v0 : W9.cell? ⟨w2.heap.size + 1, 0, none⟩ = some (.int .i64 3) := HE9.out.cell 0
        have v1 : W9.cell? ⟨w2.heap.size + 1, 1, none⟩ = some (.string Y) := HE9.out.cell 1
        obtain ⟨r0, r1, r2, r3, r4, r5, r6, r7, r8⟩ := HZ9.out.zero
        obtain ⟨rf0, rf1, rf2, rf3, rf4, rf5, rf6, rf7, rf8⟩ := HZ9.out.frees
        have x0 : W9.cell? ⟨w.heap.size + 1, 0, none⟩ = some (.int .i64 0) := HY9.out.cell 0
        have x1 : W9.cell? ⟨w.heap.size + 1, 1, none⟩ = some (.string ⟨#[]⟩) := HY9.out.cell 1
        have xf0 := HY9.out.free 0
        have xf1 := HY9.out.free 1
        have la : w2.heap.size < W9.heap.size := HS9.out.lt
        have lb : w2.heap.size + 1 < W9.heap.size := HE9.out.lt
        have lc : w.heap.size < W9.heap.size := HZ9.out.lt
        have ld : w.heap.size + 1 < W9.heap.size := HY9.out.lt
        have h1 : w.heap.size < w1.heap.size := by omega
        have h2 : w.heap.size + 1 < w1.heap.size := by omega
        go_region
        all_goals
          go_wp2
          refine bodyPost_ret (v := .tuple #[.agg #[.int .i64 s.ph, .string s.buf, .string s.he, .string s.fr, .string s.bo, .slice y1 s.R.length k1, .int .i64 (s.nx : Int), .slice y2 s.T.length k2, .slice y3 s.V.length k3], .agg #[.int .i64 3, .string Y]]) (by simp [results, Tryz.results16, go_sem, r0, r1, r2, r3, r4, r5, r6, r7, r8, x0, x1]) rfl ?_
          rw [HDD.out, HXn.out, HdS.out]
          refine ⟨⟨_, _, _, rfl, ?_⟩, ?_⟩
          · exact SV.le (SV.drewX (HN.out _ _ _ (.inr h2) (HN.out _ _ _ (.inr h2) (SV.nine HV9.out h1 _ _ _ _ _ _ _ _ _)))) (Nat.le_of_lt h1)
          · exact Below.drew (Below.setCell (Below.setCell (below_nine b9 (Nat.le_refl _) _ _ _ _ _ _ _ _ _) (Nat.le_succ _) _) (Nat.le_succ _) _)
      · have HDD : Hid (drD B = (s.buf, (2 + (c : Int) / 10 % 3), ⟨#[]⟩)) := by show drD B = _; unfold drD drwD; rw [HP.out, HC.out, HSF.out, if_pos (by omega), if_neg c25]
        have c250 : ((c : Int) == 250) = false := beq_eq_false_iff_ne.2 (by omega)
        obtain ⟨t0, t1, t2, t3, t4, t5, t6, t7, t8⟩ := HSb_W3.out.cells
        obtain ⟨tf0, tf1, tf2, tf3, tf4, tf5, tf6, tf7, tf8⟩ := HSb_W3.out.frees
        have v0 := HEv_W3.out.cell 0
        have v1 := HEv_W3.out.cell 1
        simp only [List.getElem?_toArray, List.getElem?_cons_succ, List.getElem?_cons_zero] at v0 v1
        have vf0 := HEv_W3.out.free 0
        have vf1 := HEv_W3.out.free 1
        have n3 : ¬ w2.heap.size + 1 = w2.heap.size := by omega
        have n4 : ¬ w2.heap.size = w2.heap.size + 1 := by omega
        by_cases h31 : c % 31 = 30
        · have h31i : (c : Int) % 31 = 30 := by omega
          have HXn : Hid (drX B = -1) := by show drX B = -1; unfold drX; rw [HC.out, if_pos h31]
          go_wp2_with fail
          generalize hW9 : World.setCell _ _ _ = W9
          have HS9 : Hid (Blk w2.heap.size #[.int .i64 s.ph, .string s.buf, .string s.he, .string s.fr, .string s.bo, .slice y1 s.R.length k1, .int .i64 (-1), .slice y2 s.T.length k2, .slice y3 s.V.length k3] W9) := by show Blk _ _ _; rw [← hW9]; exact (Blk.set (Blk.other HSb_W3.out (by omega)) (i := 6) (v := .int .i64 (-1)) (show 6 < 9 by decide))
          have HE9 : Hid (Blk (w2.heap.size + 1) #[.int .i64 (2 + (c : Int) / 10 % 3), .string ⟨#[]⟩] W9) := by show Blk _ _ _; rw [← hW9]; exact (Blk.other (Blk.set HEv_W3.out (i := 0) (v := .int .i64 (2 + (c : Int) / 10 % 3)) (show 0 < 2 by decide)) (by omega))
          have HZ9 : Hid (SB w.heap.size sn0 (.slice none 0 0) (.slice none 0 0) (.slice none 0 0) W9) := by show SB _ _ _ _ _ _; rw [← hW9]; exact (Blk.other (Blk.other HZS_W3.out (by omega)) (by omega))
          have HY9 : Hid (Blk (w.heap.size + 1) #[.int .i64 0, .string ⟨#[]⟩] W9) := by show Blk _ _ _; rw [← hW9]; exact (Blk.other (Blk.other HZE_W3.out (by omega)) (by omega))
          have HV9 : Hid (SV W9 w1.heap.size (.slice y1 s.R.length k1) (.slice y2 s.T.length k2) (.slice y3 s.V.length k3) s) := by show SV _ _ _ _ _ _; rw [← hW9]; exact (HN.out _ _ _ (.inl (by show w2.heap.size ≤ w2.heap.size; omega)) (HN.out _ _ _ (.inl (by show w2.heap.size ≤ w2.heap.size + 1; omega)) HV_W3.out))
          have b9 : Below w.heap.size w W9 := by rw [← hW9]; exact (Below.setCell (Below.setCell b_W3 (by show w.heap.size ≤ w2.heap.size + 1; omega) _) (by show w.heap.size ≤ w2.heap.size; omega) _)
          clear hW9 HSb_W3 HEv_W3 HZS_W3 HZE_W3 HV_W3 b_W3
          clear t0 t1 t2 t3 t4 t5 t6 t7 t8 tf0 tf1 tf2 tf3 tf4 tf5 tf6 tf7 tf8 v0 v1 vf0 vf1
          have t0 : W9.cell? ⟨w2.heap.size, 0, none⟩ = some (.int .i64 s.ph) := HS9.out.cell 0
          have t1 : W9.cell? ⟨w2.heap.size, 1, none⟩ = some (.string s.buf) := HS9.out.cell 1
          have t2 : W9.cell? ⟨w2.heap.size, 2, none⟩ = some (.string s.he) := HS9.out.cell 2
          have t3 : W9.cell? ⟨w2.heap.size, 3, none⟩ = some (.string s.fr) := HS9.out.cell 3
          have t4 : W9.cell? ⟨w2.heap.size, 4, none⟩ = some (.string s.bo) := HS9.out.cell 4
          have t5 : W9.cell? ⟨w2.heap.size, 5, none⟩ = some (.slice y1 s.R.length k1) := HS9.out.cell 5
          have t6 : W9.cell? ⟨w2.heap.size, 6, none⟩ = some (.int .i64 (-1)) := HS9.out.cell 6
          have t7 : W9.cell? ⟨w2.heap.size, 7, none⟩ = some (.slice y2 s.T.length k2) := HS9.out.cell 7
          have t8 : W9.cell? ⟨w2.heap.size, 8, none⟩ = some (.slice y3 s.V.length k3) := HS9.out.cell 8
          have v0 : W9.cell? ⟨w2.heap.size + 1, 0, none⟩ = some (.int .i64 (2 + (c : Int) / 10 % 3)) := HE9.out.cell 0
          have v1 : W9.cell? ⟨w2.heap.size + 1, 1, none⟩ = some (.string ⟨#[]⟩) := HE9.out.cell 1
          obtain ⟨r0, r1, r2, r3, r4, r5, r6, r7, r8⟩ := HZ9.out.zero
          obtain ⟨rf0, rf1, rf2, rf3, rf4, rf5, rf6, rf7, rf8⟩ := HZ9.out.frees
          have x0 : W9.cell? ⟨w.heap.size + 1, 0, none⟩ = some (.int .i64 0) := HY9.out.cell 0
          have x1 : W9.cell? ⟨w.heap.size + 1, 1, none⟩ = some (.string ⟨#[]⟩) := HY9.out.cell 1
          have xf0 := HY9.out.free 0
          have xf1 := HY9.out.free 1
          have la : w2.heap.size < W9.heap.size := HS9.out.lt
          have lb : w2.heap.size + 1 < W9.heap.size := HE9.out.lt
          have lc : w.heap.size < W9.heap.size := HZ9.out.lt
          have ld : w.heap.size + 1 < W9.heap.size := HY9.out.lt
          have h1 : w.heap.size < w1.heap.size := by omega
          have h2 : w.heap.size + 1 < w1.heap.size := by omega
          go_region
          all_goals
            go_wp2
            refine bodyPost_ret (v := .tuple #[.agg #[.int .i64 s.ph, .string s.buf, .string s.he, .string s.fr, .string s.bo, .slice y1 s.R.length k1, .int .i64 (-1), .slice y2 s.T.length k2, .slice y3 s.V.length k3], .agg #[.int .i64 (2 + (c : Int) / 10 % 3), .string ⟨#[]⟩]]) (by simp [results, Tryz.results16, go_sem, r0, r1, r2, r3, r4, r5, r6, r7, r8, x0, x1]) rfl ?_
            rw [HDD.out, HXn.out, HdS.out]
            refine ⟨⟨_, _, _, rfl, ?_⟩, ?_⟩
            · exact SV.le (SV.drewX (HN.out _ _ _ (.inr h2) (HN.out _ _ _ (.inr h2) (SV.nine HV9.out h1 _ _ _ _ _ _ _ _ _)))) (Nat.le_of_lt h1)
            · exact Below.drew (Below.setCell (Below.setCell (below_nine b9 (Nat.le_refl _) _ _ _ _ _ _ _ _ _) (Nat.le_succ _) _) (Nat.le_succ _) _)
        · have h31i : ¬ (c : Int) % 31 = 30 := by omega
          have HXn : Hid (drX B = (s.nx : Int)) := by show drX B = _; unfold drX; rw [HC.out, if_neg h31, HdS.out]
          go_wp2_with fail
          generalize hW9 : World.setCell _ _ _ = W9
          have HS9 : Hid (Blk w2.heap.size #[.int .i64 s.ph, .string s.buf, .string s.he, .string s.fr, .string s.bo, .slice y1 s.R.length k1, .int .i64 (s.nx : Int), .slice y2 s.T.length k2, .slice y3 s.V.length k3] W9) := by show Blk _ _ _; rw [← hW9]; exact (Blk.other HSb_W3.out (by omega))
          have HE9 : Hid (Blk (w2.heap.size + 1) #[.int .i64 (2 + (c : Int) / 10 % 3), .string ⟨#[]⟩] W9) := by show Blk _ _ _; rw [← hW9]; exact (Blk.set HEv_W3.out (i := 0) (v := .int .i64 (2 + (c : Int) / 10 % 3)) (show 0 < 2 by decide))
          have HZ9 : Hid (SB w.heap.size sn0 (.slice none 0 0) (.slice none 0 0) (.slice none 0 0) W9) := by show SB _ _ _ _ _ _; rw [← hW9]; exact (Blk.other HZS_W3.out (by omega))
          have HY9 : Hid (Blk (w.heap.size + 1) #[.int .i64 0, .string ⟨#[]⟩] W9) := by show Blk _ _ _; rw [← hW9]; exact (Blk.other HZE_W3.out (by omega))
          have HV9 : Hid (SV W9 w1.heap.size (.slice y1 s.R.length k1) (.slice y2 s.T.length k2) (.slice y3 s.V.length k3) s) := by show SV _ _ _ _ _ _; rw [← hW9]; exact (HN.out _ _ _ (.inl (by show w2.heap.size ≤ w2.heap.size + 1; omega)) HV_W3.out)
          have b9 : Below w.heap.size w W9 := by rw [← hW9]; exact (Below.setCell b_W3 (by show w.heap.size ≤ w2.heap.size + 1; omega) _)
          clear hW9 HSb_W3 HEv_W3 HZS_W3 HZE_W3 HV_W3 b_W3
          clear t0 t1 t2 t3 t4 t5 t6 t7 t8 tf0 tf1 tf2 tf3 tf4 tf5 tf6 tf7 tf8 v0 v1 vf0 vf1
          have t0 : W9.cell? ⟨w2.heap.size, 0, none⟩ = some (.int .i64 s.ph) := HS9.out.cell 0
          have t1 : W9.cell? ⟨w2.heap.size, 1, none⟩ = some (.string s.buf) := HS9.out.cell 1
          have t2 : W9.cell? ⟨w2.heap.size, 2, none⟩ = some (.string s.he) := HS9.out.cell 2
          have t3 : W9.cell? ⟨w2.heap.size, 3, none⟩ = some (.string s.fr) := HS9.out.cell 3
          have t4 : W9.cell? ⟨w2.heap.size, 4, none⟩ = some (.string s.bo) := HS9.out.cell 4
          have t5 : W9.cell? ⟨w2.heap.size, 5, none⟩ = some (.slice y1 s.R.length k1) := HS9.out.cell 5
          have t6 : W9.cell? ⟨w2.heap.size, 6, none⟩ = some (.int .i64 (s.nx : Int)) := HS9.out.cell 6
          have t7 : W9.cell? ⟨w2.heap.size, 7, none⟩ = some (.slice y2 s.T.length k2) := HS9.out.cell 7
          have t8 : W9.cell? ⟨w2.heap.size, 8, none⟩ = some (.slice y3 s.V.length k3) := HS9.out.cell 8
          have v0 : W9.cell? ⟨w2.heap.size + 1, 0, none⟩ = some (.int .i64 (2 + (c : Int) / 10 % 3)) := HE9.out.cell 0
          have v1 : W9.cell? ⟨w2.heap.size + 1, 1, none⟩ = some (.string ⟨#[]⟩) := HE9.out.cell 1
          obtain ⟨r0, r1, r2, r3, r4, r5, r6, r7, r8⟩ := HZ9.out.zero
          obtain ⟨rf0, rf1, rf2, rf3, rf4, rf5, rf6, rf7, rf8⟩ := HZ9.out.frees
          have x0 : W9.cell? ⟨w.heap.size + 1, 0, none⟩ = some (.int .i64 0) := HY9.out.cell 0
          have x1 : W9.cell? ⟨w.heap.size + 1, 1, none⟩ = some (.string ⟨#[]⟩) := HY9.out.cell 1
          have xf0 := HY9.out.free 0
          have xf1 := HY9.out.free 1
          have la : w2.heap.size < W9.heap.size := HS9.out.lt
          have lb : w2.heap.size + 1 < W9.heap.size := HE9.out.lt
          have lc : w.heap.size < W9.heap.size := HZ9.out.lt
          have ld : w.heap.size + 1 < W9.heap.size := HY9.out.lt
          have h1 : w.heap.size < w1.heap.size := by omega
          have h2 : w.heap.size + 1 < w1.heap.size := by omega
          go_region
          all_goals
            go_wp2
            refine bodyPost_ret (v := .tuple #[.agg #[.int .i64 s.ph, .string s.buf, .string s.he, .string s.fr, .string s.bo, .slice y1 s.R.length k1, .int .i64 (s.nx : Int), .slice y2 s.T.length k2, .slice y3 s.V.length k3], .agg #[.int .i64 (2 + (c : Int) / 10 % 3), .string ⟨#[]⟩]]) (by simp [results, Tryz.results16, go_sem, r0, r1, r2, r3, r4, r5, r6, r7, r8, x0, x1]) rfl ?_
            rw [HDD.out, HXn.out, HdS.out]
            refine ⟨⟨_, _, _, rfl, ?_⟩, ?_⟩
            · exact SV.le (SV.drewX (HN.out _ _ _ (.inr h2) (HN.out _ _ _ (.inr h2) (SV.nine HV9.out h1 _ _ _ _ _ _ _ _ _)))) (Nat.le_of_lt h1)
            · exact Below.drew (Below.setCell (Below.setCell (below_nine b9 (Nat.le_refl _) _ _ _ _ _ _ _ _ _) (Nat.le_succ _) _) (Nat.le_succ _) _)
    · have hmk : (c : Int) % 10 = 3 := by omega
      clear hm
      have c250 : ((c : Int) == 250) = false := beq_eq_false_iff_ne.2 (by omega)
      go_wp2_with fail
      refine (rdReplyX _ q2 _ B W3 H3.out).mono ?_
      rintro e w4 ⟨rfl, h4, ho4⟩
      have hrs := repF_size B q2
      have HDD : Hid (drD B = (s.buf, 1, (spoF B (repF B q2).2 (repF B q2).1).1)) := by show drD B = _; unfold drD drwD; rw [HP.out, HC.out, HSF.out, if_neg (by omega), if_neg (by omega), if_pos (by omega)]
      have HZS_w4 : Hid (SB w.heap.size sn0 (.slice none 0 0) (.slice none 0 0) (.slice none 0 0) w4) := Blk.offR HZS_W3.out ho4 (by omega)
      have HZE_w4 : Hid (Blk (w.heap.size + 1) #[.int .i64 0, .string ⟨#[]⟩] w4) := Blk.offR HZE_W3.out ho4 (by omega)
      have b_w4 : Below w.heap.size w w4 := b_W3.trans ((ho4.belowAt (N := w.heap.size) (by omega) (by omega)).mono (Nat.le_refl _))
      have z_w4 := ho4.size
      have HSb_w4 : Hid (SB w2.heap.size s (.slice y1 s.R.length k1) (.slice y2 s.T.length k2) (.slice y3 s.V.length k3) w4) := Blk.offR HSb_W3.out ho4 (by omega)
      have HEv_w4 : Hid (Blk (w2.heap.size + 1) #[.int .i64 1, .string ⟨#[]⟩] w4) := Blk.offR HEv_W3.out ho4 (by omega)
      have HV_w4 : Hid (SV w4 w1.heap.size (.slice y1 s.R.length k1) (.slice y2 s.T.length k2) (.slice y3 s.V.length k3) s) := HV_W3.out.offR ho4 (by omega)
      have H4 : Hid (RdAt w4 (w.heap.size + 1 + 1) (.slice ca B.length cc) B (repF B q2).2) := h4
      generalize repF B q2 = Y at HDD hrs H4 ⊢
      clear h4 ho4
      go_wp2_with fail
      refine (rdSpoilX _ Y.2 _ B Y.1 w4 H4.out (by omega)).mono ?_
      rintro e w5 ⟨rfl, h5, ho5⟩
      have HZS_w5 : Hid (SB w.heap.size sn0 (.slice none 0 0) (.slice none 0 0) (.slice none 0 0) w5) := Blk.offR HZS_w4.out ho5 (by omega)
      have HZE_w5 : Hid (Blk (w.heap.size + 1) #[.int .i64 0, .string ⟨#[]⟩] w5) := Blk.offR HZE_w4.out ho5 (by omega)
      have b_w5 : Below w.heap.size w w5 := b_w4.trans ((ho5.belowAt (N := w.heap.size) (by omega) (by omega)).mono (Nat.le_refl _))
      have z_w5 := ho5.size
      have HSb_w5 : Hid (SB w2.heap.size s (.slice y1 s.R.length k1) (.slice y2 s.T.length k2) (.slice y3 s.V.length k3) w5) := Blk.offR HSb_w4.out ho5 (by omega)
      have HEv_w5 : Hid (Blk (w2.heap.size + 1) #[.int .i64 1, .string ⟨#[]⟩] w5) := Blk.offR HEv_w4.out ho5 (by omega)
      have HV_w5 : Hid (SV w5 w1.heap.size (.slice y1 s.R.length k1) (.slice y2 s.T.length k2) (.slice y3 s.V.length k3) s) := HV_w4.out.offR ho5 (by omega)
      generalize spoF B Y.2 Y.1 = X at HDD ⊢
      clear h5 ho5
      obtain ⟨t0, t1, t2, t3, t4, t5, t6, t7, t8⟩ := HSb_w5.out.cells
      obtain ⟨tf0, tf1, tf2, tf3, tf4, tf5, tf6, tf7, tf8⟩ := HSb_w5.out.frees
      have v0 := HEv_w5.out.cell 0
      have v1 := HEv_w5.out.cell 1
      simp only [List.getElem?_toArray, List.getElem?_cons_succ, List.getElem?_cons_zero] at v0 v1
      have vf0 := HEv_w5.out.free 0
      have vf1 := HEv_w5.out.free 1
      have n3 : ¬ w2.heap.size + 1 = w2.heap.size := by omega
      have n4 : ¬ w2.heap.size = w2.heap.size + 1 := by omega
      by_cases h31 : c % 31 = 30
      · have h31i : (c : Int) % 31 = 30 := by omega
        have HXn : Hid (drX B = -1) := by show drX B = -1; unfold drX; rw [HC.out, if_pos h31]
        go_wp2_with fail
        generalize hW9 : World.setCell _ _ _ = W9
        have HS9 : Hid (Blk w2.heap.size #[.int .i64 s.ph, .string s.buf, .string s.he, .string s.fr, .string s.bo, .slice y1 s.R.length k1, .int .i64 (-1), .slice y2 s.T.length k2, .slice y3 s.V.length k3] W9) := by show Blk _ _ _; rw [← hW9]; exact (Blk.set (Blk.other HSb_w5.out (by omega)) (i := 6) (v := .int .i64 (-1)) (show 6 < 9 by decide))
        have HE9 : Hid (Blk (w2.heap.size + 1) #[.int .i64 1, .string X.1] W9) := by show Blk _ _ _; rw [← hW9]; exact (Blk.other (Blk.set HEv_w5.out (i := 1) (v := .string X.1) (show 1 < 2 by decide)) (by omega))
        have HZ9 : Hid (SB w.heap.size sn0 (.slice none 0 0) (.slice none 0 0) (.slice none 0 0) W9) := by show SB _ _ _ _ _ _; rw [← hW9]; exact (Blk.other (Blk.other HZS_w5.out (by omega)) (by omega))
        have HY9 : Hid (Blk (w.heap.size + 1) #[.int .i64 0, .string ⟨#[]⟩] W9) := by show Blk _ _ _; rw [← hW9]; exact (Blk.other (Blk.other HZE_w5.out (by omega)) (by omega))
        have HV9 : Hid (SV W9 w1.heap.size (.slice y1 s.R.length k1) (.slice y2 s.T.length k2) (.slice y3 s.V.length k3) s) := by show SV _ _ _ _ _ _; rw [← hW9]; exact (HN.out _ _ _ (.inl (by show w2.heap.size ≤ w2.heap.size; omega)) (HN.out _ _ _ (.inl (by show w2.heap.size ≤ w2.heap.size + 1; omega)) HV_w5.out))
        have b9 : Below w.heap.size w W9 := by rw [← hW9]; exact (Below.setCell (Below.setCell b_w5 (by show w.heap.size ≤ w2.heap.size + 1; omega) _) (by show w.heap.size ≤ w2.heap.size; omega) _)
        clear hW9 HSb_w5 HEv_w5 HZS_w5 HZE_w5 HV_w5 b_w5
        clear t0 t1 t2 t3 t4 t5 t6 t7 t8 tf0 tf1 tf2 tf3 tf4 tf5 tf6 tf7 tf8 v0 v1 vf0 vf1
        have t0 : W9.cell? ⟨w2.heap.size, 0, none⟩ = some (.int .i64 s.ph) := HS9.out.cell 0
        have t1 : W9.cell? ⟨w2.heap.size, 1, none⟩ = some (.string s.buf) := HS9.out.cell 1
        have t2 : W9.cell? ⟨w2.heap.size, 2, none⟩ = some (.string s.he) := HS9.out.cell 2
        have t3 : W9.cell? ⟨w2.heap.size, 3, none⟩ = some (.string s.fr) := HS9.out.cell 3
        have t4 : W9.cell? ⟨w2.heap.size, 4, none⟩ = some (.string s.bo) := HS9.out.cell 4
        have t5 : W9.cell? ⟨w2.heap.size, 5, none⟩ = some (.slice y1 s.R.length k1) := HS9.out.cell 5
        have t6 : W9.cell? ⟨w2.heap.size, 6, none⟩ = some (.int .i64 (-1)) := HS9.out.cell 6
        have t7 : W9.cell? ⟨w2.heap.size, 7, none⟩ = some (.slice y2 s.T.length k2) := HS9.out.cell 7
        have t8 : W9.cell? ⟨w2.heap.size, 8, none⟩ = some (.slice y3 s.V.length k3) := HS9.out.cell 8
        have v0 : W9.cell? ⟨w2.heap.size + 1, 0, none⟩ = some (.int .i64 1) := HE9.out.cell 0
        have v1 : W9.cell? ⟨w2.heap.size + 1, 1, none⟩ = some (.string X.1) := HE9.out.cell 1
        obtain ⟨r0, r1, r2, r3, r4, r5, r6, r7, r8⟩ := HZ9.out.zero
        obtain ⟨rf0, rf1, rf2, rf3, rf4, rf5, rf6, rf7, rf8⟩ := HZ9.out.frees
        have x0 : W9.cell? ⟨w.heap.size + 1, 0, none⟩ = some (.int .i64 0) := HY9.out.cell 0
        have x1 : W9.cell? ⟨w.heap.size + 1, 1, none⟩ = some (.string ⟨#[]⟩) := HY9.out.cell 1
        have xf0 := HY9.out.free 0
        have xf1 := HY9.out.free 1
        have la : w2.heap.size < W9.heap.size := HS9.out.lt
        have lb : w2.heap.size + 1 < W9.heap.size := HE9.out.lt
        have lc : w.heap.size < W9.heap.size := HZ9.out.lt
        have ld : w.heap.size + 1 < W9.heap.size := HY9.out.lt
        have h1 : w.heap.size < w1.heap.size := by omega
        have h2 : w.heap.size + 1 < w1.heap.size := by omega
        go_region
        all_goals
          go_wp2
          refine bodyPost_ret (v := .tuple #[.agg #[.int .i64 s.ph, .string s.buf, .string s.he, .string s.fr, .string s.bo, .slice y1 s.R.length k1, .int .i64 (-1), .slice y2 s.T.length k2, .slice y3 s.V.length k3], .agg #[.int .i64 1, .string X.1]]) (by simp [results, Tryz.results16, go_sem, r0, r1, r2, r3, r4, r5, r6, r7, r8, x0, x1]) rfl ?_
          rw [HDD.out, HXn.out, HdS.out]
          refine ⟨⟨_, _, _, rfl, ?_⟩, ?_⟩
          · exact SV.le (SV.drewX (HN.out _ _ _ (.inr h2) (HN.out _ _ _ (.inr h2) (SV.nine HV9.out h1 _ _ _ _ _ _ _ _ _)))) (Nat.le_of_lt h1)
          · exact Below.drew (Below.setCell (Below.setCell (below_nine b9 (Nat.le_refl _) _ _ _ _ _ _ _ _ _) (Nat.le_succ _) _) (Nat.le_succ _) _)
      · have h31i : ¬ (c : Int) % 31 = 30 := by omega
        have HXn : Hid (drX B = (s.nx : Int)) := by show drX B = _; unfold drX; rw [HC.out, if_neg h31, HdS.out]
        go_wp2_with fail
        generalize hW9 : World.setCell _ _ _ = W9
        have HS9 : Hid (Blk w2.heap.size #[.int .i64 s.ph, .string s.buf, .string s.he, .string s.fr, .string s.bo, .slice y1 s.R.length k1, .int .i64 (s.nx : Int), .slice y2 s.T.length k2, .slice y3 s.V.length k3] W9) := by show Blk _ _ _; rw [← hW9]; exact (Blk.other HSb_w5.out (by omega))
        have HE9 : Hid (Blk (w2.heap.size + 1) #[.int .i64 1, .string X.1] W9) := by show Blk _ _ _; rw [← hW9]; exact (Blk.set HEv_w5.out (i := 1) (v := .string X.1) (show 1 < 2 by decide))
        have HZ9 : Hid (SB w.heap.size sn0 (.slice none 0 0) (.slice none 0 0) (.slice none 0 0) W9) := by show SB _ _ _ _ _ _; rw [← hW9]; exact (Blk.other HZS_w5.out (by omega))
        have HY9 : Hid (Blk (w.heap.size + 1) #[.int .i64 0, .string ⟨#[]⟩] W9) := by show Blk _ _ _; rw [← hW9]; exact (Blk.other HZE_w5.out (by omega))
        have HV9 : Hid (SV W9 w1.heap.size (.slice y1 s.R.length k1) (.slice y2 s.T.length k2) (.slice y3 s.V.length k3) s) := by show SV _ _ _ _ _ _; rw [← hW9]; exact (HN.out _ _ _ (.inl (by show w2.heap.size ≤ w2.heap.size + 1; omega)) HV_w5.out)
        have b9 : Below w.heap.size w W9 := by rw [← hW9]; exact (Below.setCell b_w5 (by show w.heap.size ≤ w2.heap.size + 1; omega) _)
        clear hW9 HSb_w5 HEv_w5 HZS_w5 HZE_w5 HV_w5 b_w5
        clear t0 t1 t2 t3 t4 t5 t6 t7 t8 tf0 tf1 tf2 tf3 tf4 tf5 tf6 tf7 tf8 v0 v1 vf0 vf1
        have t0 : W9.cell? ⟨w2.heap.size, 0, none⟩ = some (.int .i64 s.ph) := HS9.out.cell 0
        have t1 : W9.cell? ⟨w2.heap.size, 1, none⟩ = some (.string s.buf) := HS9.out.cell 1
        have t2 : W9.cell? ⟨w2.heap.size, 2, none⟩ = some (.string s.he) := HS9.out.cell 2
        have t3 : W9.cell? ⟨w2.heap.size, 3, none⟩ = some (.string s.fr) := HS9.out.cell 3
        have t4 : W9.cell? ⟨w2.heap.size, 4, none⟩ = some (.string s.bo) := HS9.out.cell 4
        have t5 : W9.cell? ⟨w2.heap.size, 5, none⟩ = some (.slice y1 s.R.length k1) := HS9.out.cell 5
        have t6 : W9.cell? ⟨w2.heap.size, 6, none⟩ = some (.int .i64 (s.nx : Int)) := HS9.out.cell 6
        have t7 : W9.cell? ⟨w2.heap.size, 7, none⟩ = some (.slice y2 s.T.length k2) := HS9.out.cell 7
        have t8 : W9.cell? ⟨w2.heap.size, 8, none⟩ = some (.slice y3 s.V.length k3) := HS9.out.cell 8
        have v0 : W9.cell? ⟨w2.heap.size + 1, 0, none⟩ = some (.int .i64 1) := HE9.out.cell 0
        have v1 : W9.cell? ⟨w2.heap.size + 1, 1, none⟩ = some (.string X.1) := HE9.out.cell 1
        obtain ⟨r0, r1, r2, r3, r4, r5, r6, r7, r8⟩ := HZ9.out.zero
        obtain ⟨rf0, rf1, rf2, rf3, rf4, rf5, rf6, rf7, rf8⟩ := HZ9.out.frees
        have x0 : W9.cell? ⟨w.heap.size + 1, 0, none⟩ = some (.int .i64 0) := HY9.out.cell 0
        have x1 : W9.cell? ⟨w.heap.size + 1, 1, none⟩ = some (.string ⟨#[]⟩) := HY9.out.cell 1
        have xf0 := HY9.out.free 0
        have xf1 := HY9.out.free 1
        have la : w2.heap.size < W9.heap.size := HS9.out.lt
        have lb : w2.heap.size + 1 < W9.heap.size := HE9.out.lt
        have lc : w.heap.size < W9.heap.size := HZ9.out.lt
        have ld : w.heap.size + 1 < W9.heap.size := HY9.out.lt
        have h1 : w.heap.size < w1.heap.size := by omega
        have h2 : w.heap.size + 1 < w1.heap.size := by omega
        go_region
        all_goals
          go_wp2
          refine bodyPost_ret (v := .tuple #[.agg #[.int .i64 s.ph, .string s.buf, .string s.he, .string s.fr, .string s.bo, .slice y1 s.R.length k1, .int .i64 (s.nx : Int), .slice y2 s.T.length k2, .slice y3 s.V.length k3], .agg #[.int .i64 1, .string X.1]]) (by simp [results, Tryz.results16, go_sem, r0, r1, r2, r3, r4, r5, r6, r7, r8, x0, x1]) rfl ?_
          rw [HDD.out, HXn.out, HdS.out]
          refine ⟨⟨_, _, _, rfl, ?_⟩, ?_⟩
          · exact SV.le (SV.drewX (HN.out _ _ _ (.inr h2) (HN.out _ _ _ (.inr h2) (SV.nine HV9.out h1 _ _ _ _ _ _ _ _ _)))) (Nat.le_of_lt h1)
          · exact Below.drew (Below.setCell (Below.setCell (below_nine b9 (Nat.le_refl _) _ _ _ _ _ _ _ _ _) (Nat.le_succ _) _) (Nat.le_succ _) _)
    · have hmk : (c : Int) % 10 = 4 := by omega
      clear hm
      have c250 : ((c : Int) == 250) = false := beq_eq_false_iff_ne.2 (by omega)
      go_wp2_with fail
      refine (rdReplyX _ q2 _ B W3 H3.out).mono ?_
      rintro e w4 ⟨rfl, h4, ho4⟩
      have hrs := repF_size B q2
      have HDD : Hid (drD B = (s.buf, 1, keepB (repF B q2).1 ((c : Int) / 10))) := by show drD B = _; unfold drD drwD; rw [HP.out, HC.out, HSF.out, if_neg (by omega), if_neg (by omega), if_neg (by omega), if_pos (by omega)]
      have HZS_w4 : Hid (SB w.heap.size sn0 (.slice none 0 0) (.slice none 0 0) (.slice none 0 0) w4) := Blk.offR HZS_W3.out ho4 (by omega)
      have HZE_w4 : Hid (Blk (w.heap.size + 1) #[.int .i64 0, .string ⟨#[]⟩] w4) := Blk.offR HZE_W3.out ho4 (by omega)
      have b_w4 : Below w.heap.size w w4 := b_W3.trans ((ho4.belowAt (N := w.heap.size) (by omega) (by omega)).mono (Nat.le_refl _))
      have z_w4 := ho4.size
      have HSb_w4 : Hid (SB w2.heap.size s (.slice y1 s.R.length k1) (.slice y2 s.T.length k2) (.slice y3 s.V.length k3) w4) := Blk.offR HSb_W3.out ho4 (by omega)
      have HEv_w4 : Hid (Blk (w2.heap.size + 1) #[.int .i64 1, .string ⟨#[]⟩] w4) := Blk.offR HEv_W3.out ho4 (by omega)
      have HV_w4 : Hid (SV w4 w1.heap.size (.slice y1 s.R.length k1) (.slice y2 s.T.length k2) (.slice y3 s.V.length k3) s) := HV_W3.out.offR ho4 (by omega)
      have H4 : Hid (RdAt w4 (w.heap.size + 1 + 1) (.slice ca B.length cc) B (repF B q2).2) := h4
      generalize repF B q2 = Y at HDD hrs H4 ⊢
      clear h4 ho4
      go_wp2_with fail
      refine (specKeep Y.1 ((c : Int) / 10) w4).mono ?_
      rintro e w5 ⟨rfl, hw5⟩
      rw [hw5]
      clear hw5 w5
      generalize keepB Y.1 ((c : Int) / 10) = X at HDD ⊢
      obtain ⟨t0, t1, t2, t3, t4, t5, t6, t7, t8⟩ := HSb_w4.out.cells
      obtain ⟨tf0, tf1, tf2, tf3, tf4, tf5, tf6, tf7, tf8⟩ := HSb_w4.out.frees
      have v0 := HEv_w4.out.cell 0
      have v1 := HEv_w4.out.cell 1
      simp only [List.getElem?_toArray, List.getElem?_cons_succ, List.getElem?_cons_zero] at v0 v1
      have vf0 := HEv_w4.out.free 0
      have vf1 := HEv_w4.out.free 1
      have n3 : ¬ w2.heap.size + 1 = w2.heap.size := by omega
      have n4 : ¬ w2.heap.size = w2.heap.size + 1 := by omega
      by_cases h31 : c % 31 = 30
      · have h31i : (c : Int) % 31 = 30 := by omega
        have HXn : Hid (drX B = -1) := by show drX B = -1; unfold drX; rw [HC.out, if_pos h31]
        go_wp2_with fail
        generalize hW9 : World.setCell _ _ _ = W9
        have HS9 : Hid (Blk w2.heap.size #[.int .i64 s.ph, .string s.buf, .string s.he, .string s.fr, .string s.bo, .slice y1 s.R.length k1, .int .i64 (-1), .slice y2 s.T.length k2, .slice y3 s.V.length k3] W9) := by show Blk _ _ _; rw [← hW9]; exact (Blk.set (Blk.other HSb_w4.out (by omega)) (i := 6) (v := .int .i64 (-1)) (show 6 < 9 by decide))
        have HE9 : Hid (Blk (w2.heap.size + 1) #[.int .i64 1, .string X] W9) := by show Blk _ _ _; rw [← hW9]; exact (Blk.other (Blk.set HEv_w4.out (i := 1) (v := .string X) (show 1 < 2 by decide)) (by omega))
        have HZ9 : Hid (SB w.heap.size sn0 (.slice none 0 0) (.slice none 0 0) (.slice none 0 0) W9) := by show SB _ _ _ _ _ _; rw [← hW9]; exact (Blk.other (Blk.other HZS_w4.out (by omega)) (by omega))
        have HY9 : Hid (Blk (w.heap.size + 1) #[.int .i64 0, .string ⟨#[]⟩] W9) := by show Blk _ _ _; rw [← hW9]; exact (Blk.other (Blk.other HZE_w4.out (by omega)) (by omega))
        have HV9 : Hid (SV W9 w1.heap.size (.slice y1 s.R.length k1) (.slice y2 s.T.length k2) (.slice y3 s.V.length k3) s) := by show SV _ _ _ _ _ _; rw [← hW9]; exact (HN.out _ _ _ (.inl (by show w2.heap.size ≤ w2.heap.size; omega)) (HN.out _ _ _ (.inl (by show w2.heap.size ≤ w2.heap.size + 1; omega)) HV_w4.out))
        have b9 : Below w.heap.size w W9 := by rw [← hW9]; exact (Below.setCell (Below.setCell b_w4 (by show w.heap.size ≤ w2.heap.size + 1; omega) _) (by show w.heap.size ≤ w2.heap.size; omega) _)
        clear hW9 HSb_w4 HEv_w4 HZS_w4 HZE_w4 HV_w4 b_w4
        clear t0 t1 t2 t3 t4 t5 t6 t7 t8 tf0 tf1 tf2 tf3 tf4 tf5 tf6 tf7 tf8 v0 v1 vf0 vf1
        have t0 : W9.cell? ⟨w2.heap.size, 0, none⟩ = some (.int .i64 s.ph) := HS9.out.cell 0
        have t1 : W9.cell? ⟨w2.heap.size, 1, none⟩ = some (.string s.buf) := HS9.out.cell 1
        have t2 : W9.cell? ⟨w2.heap.size, 2, none⟩ = some (.string s.he) := HS9.out.cell 2
        have t3 : W9.cell? ⟨w2.heap.size, 3, none⟩ = some (.string s.fr) := HS9.out.cell 3
        have t4 : W9.cell? ⟨w2.heap.size, 4, none⟩ = some (.string s.bo) := HS9.out.cell 4
        have t5 : W9.cell? ⟨w2.heap.size, 5, none⟩ = some (.slice y1 s.R.length k1) := HS9.out.cell 5
        have t6 : W9.cell? ⟨w2.heap.size, 6, none⟩ = some (.int .i64 (-1)) := HS9.out.cell 6
        have t7 : W9.cell? ⟨w2.heap.size, 7, none⟩ = some (.slice y2 s.T.length k2) := HS9.out.cell 7
        have t8 : W9.cell? ⟨w2.heap.size, 8, none⟩ = some (.slice y3 s.V.length k3) := HS9.out.cell 8
        have v0 : W9.cell? ⟨w2.heap.size + 1, 0, none⟩ = some (.int .i64 1) := HE9.out.cell 0
        have v1 : W9.cell? ⟨w2.heap.size + 1, 1, none⟩ = some (.string X) := HE9.out.cell 1
        obtain ⟨r0, r1, r2, r3, r4, r5, r6, r7, r8⟩ := HZ9.out.zero
        obtain ⟨rf0, rf1, rf2, rf3, rf4, rf5, rf6, rf7, rf8⟩ := HZ9.out.frees
        have x0 : W9.cell? ⟨w.heap.size + 1, 0, none⟩ = some (.int .i64 0) := HY9.out.cell 0
        have x1 : W9.cell? ⟨w.heap.size + 1, 1, none⟩ = some (.string ⟨#[]⟩) := HY9.out.cell 1
        have xf0 := HY9.out.free 0
        have xf1 := HY9.out.free 1
        have la : w2.heap.size < W9.heap.size := HS9.out.lt
        have lb : w2.heap.size + 1 < W9.heap.size := HE9.out.lt
        have lc : w.heap.size < W9.heap.size := HZ9.out.lt
        have ld : w.heap.size + 1 < W9.heap.size := HY9.out.lt
        have h1 : w.heap.size < w1.heap.size := by omega
        have h2 : w.heap.size + 1 < w1.heap.size := by omega
        go_region
        all_goals
          go_wp2
          refine bodyPost_ret (v := .tuple #[.agg #[.int .i64 s.ph, .string s.buf, .string s.he, .string s.fr, .string s.bo, .slice y1 s.R.length k1, .int .i64 (-1), .slice y2 s.T.length k2, .slice y3 s.V.length k3], .agg #[.int .i64 1, .string X]]) (by simp [results, Tryz.results16, go_sem, r0, r1, r2, r3, r4, r5, r6, r7, r8, x0, x1]) rfl ?_
          rw [HDD.out, HXn.out, HdS.out]
          refine ⟨⟨_, _, _, rfl, ?_⟩, ?_⟩
          · exact SV.le (SV.drewX (HN.out _ _ _ (.inr h2) (HN.out _ _ _ (.inr h2) (SV.nine HV9.out h1 _ _ _ _ _ _ _ _ _)))) (Nat.le_of_lt h1)
          · exact Below.drew (Below.setCell (Below.setCell (below_nine b9 (Nat.le_refl _) _ _ _ _ _ _ _ _ _) (Nat.le_succ _) _) (Nat.le_succ _) _)
      · have h31i : ¬ (c : Int) % 31 = 30 := by omega
        have HXn : Hid (drX B = (s.nx : Int)) := by show drX B = _; unfold drX; rw [HC.out, if_neg h31, HdS.out]
        go_wp2_with fail
        generalize hW9 : World.setCell _ _ _ = W9
        have HS9 : Hid (Blk w2.heap.size #[.int .i64 s.ph, .string s.buf, .string s.he, .string s.fr, .string s.bo, .slice y1 s.R.length k1, .int .i64 (s.nx : Int), .slice y2 s.T.length k2, .slice y3 s.V.length k3] W9) := by show Blk _ _ _; rw [← hW9]; exact (Blk.other HSb_w4.out (by omega))
        have HE9 : Hid (Blk (w2.heap.size + 1) #[.int .i64 1, .string X] W9) := by show Blk _ _ _; rw [← hW9]; exact (Blk.set HEv_w4.out (i := 1) (v := .string X) (show 1 < 2 by decide))
        have HZ9 : Hid (SB w.heap.size sn0 (.slice none 0 0) (.slice none 0 0) (.slice none 0 0) W9) := by show SB _ _ _ _ _ _; rw [← hW9]; exact (Blk.other HZS_w4.out (by omega))
        have HY9 : Hid (Blk (w.heap.size + 1) #[.int .i64 0, .string ⟨#[]⟩] W9) := by show Blk _ _ _; rw [← hW9]; exact (Blk.other HZE_w4.out (by omega))
        have HV9 : Hid (SV W9 w1.heap.size (.slice y1 s.R.length k1) (.slice y2 s.T.length k2) (.slice y3 s.V.length k3) s) := by show SV _ _ _ _ _ _; rw [← hW9]; exact (HN.out _ _ _ (.inl (by show w2.heap.size ≤ w2.heap.size + 1; omega)) HV_w4.out)
        have b9 : Below w.heap.size w W9 := by rw [← hW9]; exact (Below.setCell b_w4 (by show w.heap.size ≤ w2.heap.size + 1; omega) _)
        clear hW9 HSb_w4 HEv_w4 HZS_w4 HZE_w4 HV_w4 b_w4
        clear t0 t1 t2 t3 t4 t5 t6 t7 t8 tf0 tf1 tf2 tf3 tf4 tf5 tf6 tf7 tf8 v0 v1 vf0 vf1
        have t0 : W9.cell? ⟨w2.heap.size, 0, none⟩ = some (.int .i64 s.ph) := HS9.out.cell 0
        have t1 : W9.cell? ⟨w2.heap.size, 1, none⟩ = some (.string s.buf) := HS9.out.cell 1
        have t2 : W9.cell? ⟨w2.heap.size, 2, none⟩ = some (.string s.he) := HS9.out.cell 2
        have t3 : W9.cell? ⟨w2.heap.size, 3, none⟩ = some (.string s.fr) := HS9.out.cell 3
        have t4 : W9.cell? ⟨w2.heap.size, 4, none⟩ = some (.string s.bo) := HS9.out.cell 4
        have t5 : W9.cell? ⟨w2.heap.size, 5, none⟩ = some (.slice y1 s.R.length k1) := HS9.out.cell 5
        have t6 : W9.cell? ⟨w2.heap.size, 6, none⟩ = some (.int .i64 (s.nx : Int)) := HS9.out.cell 6
        have t7 : W9.cell? ⟨w2.heap.size, 7, none⟩ = some (.slice y2 s.T.length k2) := HS9.out.cell 7
        have t8 : W9.cell? ⟨w2.heap.size, 8, none⟩ = some (.slice y3 s.V.length k3) := HS9.out.cell 8
        have v0 : W9.cell? ⟨w2.heap.size + 1, 0, none⟩ = some (.int .i64 1) := HE9.out.cell 0
        have v1 : W9.cell? ⟨w2.heap.size + 1, 1, none⟩ = some (.string X) := HE9.out.cell 1
        obtain ⟨r0, r1, r2, r3, r4, r5, r6, r7, r8⟩ := HZ9.out.zero
        obtain ⟨rf0, rf1, rf2, rf3, rf4, rf5, rf6, rf7, rf8⟩ := HZ9.out.frees
        have x0 : W9.cell? ⟨w.heap.size + 1, 0, none⟩ = some (.int .i64 0) := HY9.out.cell 0
        have x1 : W9.cell? ⟨w.heap.size + 1, 1, none⟩ = some (.string ⟨#[]⟩) := HY9.out.cell 1
        have xf0 := HY9.out.free 0
        have xf1 := HY9.out.free 1
        have la : w2.heap.size < W9.heap.size := HS9.out.lt
        have lb : w2.heap.size + 1 < W9.heap.size := HE9.out.lt
        have lc : w.heap.size < W9.heap.size := HZ9.out.lt
        have ld : w.heap.size + 1 < W9.heap.size := HY9.out.lt
        have h1 : w.heap.size < w1.heap.size := by omega
        have h2 : w.heap.size + 1 < w1.heap.size := by omega
        go_region
        all_goals
          go_wp2
          refine bodyPost_ret (v := .tuple #[.agg #[.int .i64 s.ph, .string s.buf, .string s.he, .string s.fr, .string s.bo, .slice y1 s.R.length k1, .int .i64 (s.nx : Int), .slice y2 s.T.length k2, .slice y3 s.V.length k3], .agg #[.int .i64 1, .string X]]) (by simp [results, Tryz.results16, go_sem, r0, r1, r2, r3, r4, r5, r6, r7, r8, x0, x1]) rfl ?_
          rw [HDD.out, HXn.out, HdS.out]
          refine ⟨⟨_, _, _, rfl, ?_⟩, ?_⟩
          · exact SV.le (SV.drewX (HN.out _ _ _ (.inr h2) (HN.out _ _ _ (.inr h2) (SV.nine HV9.out h1 _ _ _ _ _ _ _ _ _)))) (Nat.le_of_lt h1)
          · exact Below.drew (Below.setCell (Below.setCell (below_nine b9 (Nat.le_refl _) _ _ _ _ _ _ _ _ _) (Nat.le_succ _) _) (Nat.le_succ _) _)
    · have hmk : (c : Int) % 10 = 5 := by omega
      clear hm
      have c250 : ((c : Int) == 250) = false := beq_eq_false_iff_ne.2 (by omega)
      go_wp2_with fail
      obtain ⟨Z, hZ, HDD⟩ : ∃ Z, rpGo 3 B q2 ⟨#[]⟩ = Z ∧ Hid (drD B = (s.buf, 1, Z.1)) := ⟨_, rfl, by show drD B = _; unfold drD drwD; rw [HP.out, HC.out, HSF.out, if_neg (by omega), if_neg (by omega), if_neg (by omega), if_neg (by omega), if_pos (by omega)]⟩
      clear hmk
      go_loopw [8] (fun iv wr => ∃ (i q : Nat) (acc : ByteArray), iv = .int .i64 i ∧ i ≤ 3 ∧ acc.size ≤ i * 200 ∧ Hid (rpGo (3 - i) B q acc = Z) ∧ Hid (SB w2.heap.size s (.slice y1 s.R.length k1) (.slice y2 s.T.length k2) (.slice y3 s.V.length k3) wr) ∧ Hid (Blk (w2.heap.size + 1) #[.int .i64 1, .string acc] wr) ∧ Hid (SB w.heap.size sn0 (.slice none 0 0) (.slice none 0 0) (.slice none 0 0) wr) ∧ Hid (Blk (w.heap.size + 1) #[.int .i64 0, .string ⟨#[]⟩] wr) ∧ Hid (SV wr w1.heap.size (.slice y1 s.R.length k1) (.slice y2 s.T.length k2) (.slice y3 s.V.length k3) s) ∧ Hid (RdAt wr (w.heap.size + 1 + 1) (.slice ca B.length cc) B q) ∧ Below w.heap.size w wr ∧ W3.heap.size ≤ wr.heap.size) (fun iv _ => 3 - (intOf iv).toNat)
      case atStart => exact ⟨0, q2, ⟨#[]⟩, rfl, by decide, Nat.zero_le _, hZ, HSb_W3, HEv_W3, HZS_W3, HZE_W3, HV_W3, H3, b_W3, Nat.le_refl _⟩
      case round =>
        obtain ⟨i, q, acc, rfl, hi3, hacc, HG, HSb_wr, HEv_wr, HZS_wr, HZE_wr, HV_wr, HR, b_wr, z_wr⟩ := hrel
        clear HSb_W3 HEv_W3 HZS_W3 HZE_W3 HV_W3 H3 b_W3
        by_cases hi : i < 3
        · obtain ⟨k, hk⟩ : ∃ k, 3 - i = k + 1 := ⟨3 - i - 1, by omega⟩
          have HG2 : Hid (rpGo k B (repF B q).2 (acc ++ (repF B q).1) = Z) := by show _ = _; rw [← HG.out, hk, rpGo]
          have hrs := repF_size B q
          have HRP : Hid (∀ wx, RdAt wx (w.heap.size + 1 + 1) (.slice ca B.length cc) B q → Calls Tryz.prog 53 #[.pointer (some ⟨w.heap.size + 1 + 1, 0, none⟩)] wx fun e w' => e = .returned (.string (repF B q).1) ∧ RdAt w' (w.heap.size + 1 + 1) (.slice ca B.length cc) B (repF B q).2 ∧ Off (w.heap.size + 1 + 1) wx w') := fun wx hx => rdReplyX _ q _ B wx hx
          generalize repF B q = Y at HG2 hrs HRP
          have hadd : ∀ wx : World, (Op.stringOp .add acc Y.1).run Tryz.prog wx = .ok (.string (acc ++ Y.1)) wx := fun wx => run_string_add_sum wx acc Y.1 (by omega)
          have v1 : wr.cell? ⟨w2.heap.size + 1, 1, none⟩ = some (.string acc) := HEv_wr.out.cell 1
          have la : w2.heap.size + 1 < wr.heap.size := HEv_wr.out.lt
          go_wp2_with fail
          go_region_with (first | (go_at_call 53; refine (HRP.out _ (by first | exact HR.out | exact rd_drewX HR.out)).mono ?_; rintro e w4 ⟨rfl, h4, ho4⟩; have HO4 : Hid (Off (w.heap.size + 1 + 1) wr w4) := (by first | exact ho4 | exact (Off.of_below ((Below.refl _ wr).drew)).trans ho4); have HR4 : Hid (RdAt w4 (w.heap.size + 1 + 1) (.slice ca B.length cc) B Y.2) := h4; have HEv_w4 : Hid (Blk (w2.heap.size + 1) #[.int .i64 1, .string acc] w4) := Blk.offR HEv_wr.out HO4.out (by omega); have ey1 : w4.cell? ⟨w2.heap.size + 1, 1, none⟩ = some (.string acc) := HEv_w4.out.cell 1; have yf1 := HEv_w4.out.free 1; have yl : w2.heap.size + 1 < w4.heap.size := HEv_w4.out.lt; clear h4 ho4))
          all_goals
            go_wp2
            go_roundw
            case rel =>
              have hz4 := HO4.out.size
              refine ⟨i + 1, Y.2, acc ++ Y.1, by go_num, by omega, by rw [ByteArray.size_append]; omega, (by show rpGo (3 - (i + 1)) _ _ _ = Z; rw [show 3 - (i + 1) = k by omega]; exact HG2.out), Blk.other (Blk.offR HSb_wr.out HO4.out (by omega)) (by omega), Blk.set HEv_w4.out (i := 1) (v := .string (acc ++ Y.1)) (show 1 < 2 by decide), Blk.other (Blk.offR HZS_wr.out HO4.out (by omega)) (by omega), Blk.other (Blk.offR HZE_wr.out HO4.out (by omega)) (by omega), HN.out _ _ _ (.inl (by show w2.heap.size ≤ w2.heap.size + 1; omega)) (HV_wr.out.offR HO4.out (by omega)), H2.out.carry HR4.out (Below.setCell (Below.refl _ _) (by show w2.heap.size ≤ w2.heap.size + 1; omega) _), Below.setCell (b_wr.trans (HO4.out.belowAt (N := w.heap.size) (by omega) (by omega))) (by show w.heap.size ≤ w2.heap.size + 1; omega) _, ?_⟩
              simp
              omega
            case measure => simp [intOf]; omega
        · obtain rfl : i = 3 := by omega
          obtain rfl : Z = (acc, q) := HG.out.symm
          dsimp only at HDD
          obtain ⟨t0, t1, t2, t3, t4, t5, t6, t7, t8⟩ := HSb_wr.out.cells
          obtain ⟨tf0, tf1, tf2, tf3, tf4, tf5, tf6, tf7, tf8⟩ := HSb_wr.out.frees
          have v0 := HEv_wr.out.cell 0
          have v1 := HEv_wr.out.cell 1
          simp only [List.getElem?_toArray, List.getElem?_cons_succ, List.getElem?_cons_zero] at v0 v1
          have vf0 := HEv_wr.out.free 0
          have vf1 := HEv_wr.out.free 1
          have n3 : ¬ w2.heap.size + 1 = w2.heap.size := by omega
          have n4 : ¬ w2.heap.size = w2.heap.size + 1 := by omega
          by_cases h31 : c % 31 = 30
          · have h31i : (c : Int) % 31 = 30 := by omega
            have HXn : Hid (drX B = -1) := by show drX B = -1; unfold drX; rw [HC.out, if_pos h31]
            go_wp2_with fail
            generalize hW9 : World.setCell _ _ _ = W9
            have HS9 : Hid (Blk w2.heap.size #[.int .i64 s.ph, .string s.buf, .string s.he, .string s.fr, .string s.bo, .slice y1 s.R.length k1, .int .i64 (-1), .slice y2 s.T.length k2, .slice y3 s.V.length k3] W9) := by show Blk _ _ _; rw [← hW9]; exact (Blk.set HSb_wr.out (i := 6) (v := .int .i64 (-1)) (show 6 < 9 by decide))
            have HE9 : Hid (Blk (w2.heap.size + 1) #[.int .i64 1, .string acc] W9) := by show Blk _ _ _; rw [← hW9]; exact (Blk.other HEv_wr.out (by omega))
            have HZ9 : Hid (SB w.heap.size sn0 (.slice none 0 0) (.slice none 0 0) (.slice none 0 0) W9) := by show SB _ _ _ _ _ _; rw [← hW9]; exact (Blk.other HZS_wr.out (by omega))
            have HY9 : Hid (Blk (w.heap.size + 1) #[.int .i64 0, .string ⟨#[]⟩] W9) := by show Blk _ _ _; rw [← hW9]; exact (Blk.other HZE_wr.out (by omega))
            have HV9 : Hid (SV W9 w1.heap.size (.slice y1 s.R.length k1) (.slice y2 s.T.length k2) (.slice y3 s.V.length k3) s) := by show SV _ _ _ _ _ _; rw [← hW9]; exact (HN.out _ _ _ (.inl (by show w2.heap.size ≤ w2.heap.size; omega)) HV_wr.out)
            have b9 : Below w.heap.size w W9 := by rw [← hW9]; exact (Below.setCell b_wr (by show w.heap.size ≤ w2.heap.size; omega) _)
            clear hW9 HSb_wr HEv_wr HZS_wr HZE_wr HV_wr b_wr
            clear t0 t1 t2 t3 t4 t5 t6 t7 t8 tf0 tf1 tf2 tf3 tf4 tf5 tf6 tf7 tf8 v0 v1 vf0 vf1
            have t0 : W9.cell? ⟨w2.heap.size, 0, none⟩ = some (.int .i64 s.ph) := HS9.out.cell 0
            have t1 : W9.cell? ⟨w2.heap.size, 1, none⟩ = some (.string s.buf) := HS9.out.cell 1
            have t2 : W9.cell? ⟨w2.heap.size, 2, none⟩ = some (.string s.he) := HS9.out.cell 2
            have t3 : W9.cell? ⟨w2.heap.size, 3, none⟩ = some (.string s.fr) := HS9.out.cell 3
            have t4 : W9.cell? ⟨w2.heap.size, 4, none⟩ = some (.string s.bo) := HS9.out.cell 4
            have t5 : W9.cell? ⟨w2.heap.size, 5, none⟩ = some (.slice y1 s.R.length k1) := HS9.out.cell 5
            have t6 : W9.cell? ⟨w2.heap.size, 6, none⟩ = some (.int .i64 (-1)) := HS9.out.cell 6
            have t7 : W9.cell? ⟨w2.heap.size, 7, none⟩ = some (.slice y2 s.T.length k2) := HS9.out.cell 7
            have t8 : W9.cell? ⟨w2.heap.size, 8, none⟩ = some (.slice y3 s.V.length k3) := HS9.out.cell 8
            have v0 : W9.cell? ⟨w2.heap.size + 1, 0, none⟩ = some (.int .i64 1) := HE9.out.cell 0
            have v1 : W9.cell? ⟨w2.heap.size + 1, 1, none⟩ = some (.string acc) := HE9.out.cell 1
            obtain ⟨r0, r1, r2, r3, r4, r5, r6, r7, r8⟩ := HZ9.out.zero
            obtain ⟨rf0, rf1, rf2, rf3, rf4, rf5, rf6, rf7, rf8⟩ := HZ9.out.frees
            have x0 : W9.cell? ⟨w.heap.size + 1, 0, none⟩ = some (.int .i64 0) := HY9.out.cell 0
            have x1 : W9.cell? ⟨w.heap.size + 1, 1, none⟩ = some (.string ⟨#[]⟩) := HY9.out.cell 1
            have xf0 := HY9.out.free 0
            have xf1 := HY9.out.free 1
            have la : w2.heap.size < W9.heap.size := HS9.out.lt
            have lb : w2.heap.size + 1 < W9.heap.size := HE9.out.lt
            have lc : w.heap.size < W9.heap.size := HZ9.out.lt
            have ld : w.heap.size + 1 < W9.heap.size := HY9.out.lt
            have h1 : w.heap.size < w1.heap.size := by omega
            have h2 : w.heap.size + 1 < w1.heap.size := by omega
            go_region
            all_goals
              go_wp2
              refine bodyPost_ret (v := .tuple #[.agg #[.int .i64 s.ph, .string s.buf, .string s.he, .string s.fr, .string s.bo, .slice y1 s.R.length k1, .int .i64 (-1), .slice y2 s.T.length k2, .slice y3 s.V.length k3], .agg #[.int .i64 1, .string acc]]) (by simp [results, Tryz.results16, go_sem, r0, r1, r2, r3, r4, r5, r6, r7, r8, x0, x1]) rfl ?_
              rw [HDD.out, HXn.out, HdS.out]
              refine ⟨⟨_, _, _, rfl, ?_⟩, ?_⟩
              · exact SV.le (SV.drewX (HN.out _ _ _ (.inr h2) (HN.out _ _ _ (.inr h2) (SV.nine HV9.out h1 _ _ _ _ _ _ _ _ _)))) (Nat.le_of_lt h1)
              · exact Below.drew (Below.setCell (Below.setCell (below_nine b9 (Nat.le_refl _) _ _ _ _ _ _ _ _ _) (Nat.le_succ _) _) (Nat.le_succ _) _)
          · have h31i : ¬ (c : Int) % 31 = 30 := by omega
            have HXn : Hid (drX B = (s.nx : Int)) := by show drX B = _; unfold drX; rw [HC.out, if_neg h31, HdS.out]
            go_wp2_with fail
            obtain ⟨W9, hW9⟩ : ∃ W9 : World, wr = W9 := ⟨_, rfl⟩
            rw [hW9]
            have HS9 : Hid (Blk w2.heap.size #[.int .i64 s.ph, .string s.buf, .string s.he, .string s.fr, .string s.bo, .slice y1 s.R.length k1, .int .i64 (s.nx : Int), .slice y2 s.T.length k2, .slice y3 s.V.length k3] W9) := by show Blk _ _ _; rw [← hW9]; exact HSb_wr.out
            have HE9 : Hid (Blk (w2.heap.size + 1) #[.int .i64 1, .string acc] W9) := by show Blk _ _ _; rw [← hW9]; exact HEv_wr.out
            have HZ9 : Hid (SB w.heap.size sn0 (.slice none 0 0) (.slice none 0 0) (.slice none 0 0) W9) := by show SB _ _ _ _ _ _; rw [← hW9]; exact HZS_wr.out
            have HY9 : Hid (Blk (w.heap.size + 1) #[.int .i64 0, .string ⟨#[]⟩] W9) := by show Blk _ _ _; rw [← hW9]; exact HZE_wr.out
            have HV9 : Hid (SV W9 w1.heap.size (.slice y1 s.R.length k1) (.slice y2 s.T.length k2) (.slice y3 s.V.length k3) s) := by show SV _ _ _ _ _ _; rw [← hW9]; exact HV_wr.out
            have b9 : Below w.heap.size w W9 := by rw [← hW9]; exact b_wr
            clear hW9 HSb_wr HEv_wr HZS_wr HZE_wr HV_wr b_wr
            clear t0 t1 t2 t3 t4 t5 t6 t7 t8 tf0 tf1 tf2 tf3 tf4 tf5 tf6 tf7 tf8 v0 v1 vf0 vf1
            have t0 : W9.cell? ⟨w2.heap.size, 0, none⟩ = some (.int .i64 s.ph) := HS9.out.cell 0
            have t1 : W9.cell? ⟨w2.heap.size, 1, none⟩ = some (.string s.buf) := HS9.out.cell 1
            have t2 : W9.cell? ⟨w2.heap.size, 2, none⟩ = some (.string s.he) := HS9.out.cell 2
            have t3 : W9.cell? ⟨w2.heap.size, 3, none⟩ = some (.string s.fr) := HS9.out.cell 3
            have t4 : W9.cell? ⟨w2.heap.size, 4, none⟩ = some (.string s.bo) := HS9.out.cell 4
            have t5 : W9.cell? ⟨w2.heap.size, 5, none⟩ = some (.slice y1 s.R.length k1) := HS9.out.cell 5
            have t6 : W9.cell? ⟨w2.heap.size, 6, none⟩ = some (.int .i64 (s.nx : Int)) := HS9.out.cell 6
            have t7 : W9.cell? ⟨w2.heap.size, 7, none⟩ = some (.slice y2 s.T.length k2) := HS9.out.cell 7
            have t8 : W9.cell? ⟨w2.heap.size, 8, none⟩ = some (.slice y3 s.V.length k3) := HS9.out.cell 8
            have v0 : W9.cell? ⟨w2.heap.size + 1, 0, none⟩ = some (.int .i64 1) := HE9.out.cell 0
            have v1 : W9.cell? ⟨w2.heap.size + 1, 1, none⟩ = some (.string acc) := HE9.out.cell 1
            obtain ⟨r0, r1, r2, r3, r4, r5, r6, r7, r8⟩ := HZ9.out.zero
            obtain ⟨rf0, rf1, rf2, rf3, rf4, rf5, rf6, rf7, rf8⟩ := HZ9.out.frees
            have x0 : W9.cell? ⟨w.heap.size + 1, 0, none⟩ = some (.int .i64 0) := HY9.out.cell 0
            have x1 : W9.cell? ⟨w.heap.size + 1, 1, none⟩ = some (.string ⟨#[]⟩) := HY9.out.cell 1
            have xf0 := HY9.out.free 0
            have xf1 := HY9.out.free 1
            have la : w2.heap.size < W9.heap.size := HS9.out.lt
            have lb : w2.heap.size + 1 < W9.heap.size := HE9.out.lt
            have lc : w.heap.size < W9.heap.size := HZ9.out.lt
            have ld : w.heap.size + 1 < W9.heap.size := HY9.out.lt
            have h1 : w.heap.size < w1.heap.size := by omega
            have h2 : w.heap.size + 1 < w1.heap.size := by omega
            go_region
            all_goals
              go_wp2
              refine bodyPost_ret (v := .tuple #[.agg #[.int .i64 s.ph, .string s.buf, .string s.he, .string s.fr, .string s.bo, .slice y1 s.R.length k1, .int .i64 (s.nx : Int), .slice y2 s.T.length k2, .slice y3 s.V.length k3], .agg #[.int .i64 1, .string acc]]) (by simp [results, Tryz.results16, go_sem, r0, r1, r2, r3, r4, r5, r6, r7, r8, x0, x1]) rfl ?_
              rw [HDD.out, HXn.out, HdS.out]
              refine ⟨⟨_, _, _, rfl, ?_⟩, ?_⟩
              · exact SV.le (SV.drewX (HN.out _ _ _ (.inr h2) (HN.out _ _ _ (.inr h2) (SV.nine HV9.out h1 _ _ _ _ _ _ _ _ _)))) (Nat.le_of_lt h1)
              · exact Below.drew (Below.setCell (Below.setCell (below_nine b9 (Nat.le_refl _) _ _ _ _ _ _ _ _ _) (Nat.le_succ _) _) (Nat.le_succ _) _)
    · have hmk : (c : Int) % 10 = 6 := by omega
      clear hm
      have c250 : ((c : Int) == 250) = false := beq_eq_false_iff_ne.2 (by omega)
      obtain ⟨t0, t1, t2, t3, t4, t5, t6, t7, t8⟩ := HSb_W3.out.cells
      go_wp2_with fail
      clear t0 t1 t2 t3 t4 t5 t6 t7 t8
      refine (specGood s.ph W3 (by omega) (by omega)).mono ?_
      rintro e w4 ⟨rfl, hb4⟩
      have hgs := goodF_size s.ph
      have hks := keepB_size (goodF s.ph) ((c : Int) / 10 % 8)
      have HDD : Hid (drD B = (keepB (goodF s.ph) ((c : Int) / 10 % 8), 1, (goodF s.ph).extract (keepB (goodF s.ph) ((c : Int) / 10 % 8)).size (goodF s.ph).size)) := by show drD B = _; unfold drD drwD; rw [HP.out, HC.out, HSF.out, if_neg (by omega), if_neg (by omega), if_neg (by omega), if_neg (by omega), if_neg (by omega), if_pos (by omega)]
      have HZS_w4 : Hid (SB w.heap.size sn0 (.slice none 0 0) (.slice none 0 0) (.slice none 0 0) w4) := SB.below HZS_W3.out hb4
      have HZE_w4 : Hid (Blk (w.heap.size + 1) #[.int .i64 0, .string ⟨#[]⟩] w4) := Blk.below HZE_W3.out hb4
      have b_w4 : Below w.heap.size w w4 := b_W3.trans (hb4.mono b_W3.size)
      have z_w4 := hb4.size
      have HSb_w4 : Hid (SB w2.heap.size s (.slice y1 s.R.length k1) (.slice y2 s.T.length k2) (.slice y3 s.V.length k3) w4) := SB.below HSb_W3.out hb4
      have HEv_w4 : Hid (Blk (w2.heap.size + 1) #[.int .i64 1, .string ⟨#[]⟩] w4) := Blk.below HEv_W3.out hb4
      have HV_w4 : Hid (SV w4 w1.heap.size (.slice y1 s.R.length k1) (.slice y2 s.T.length k2) (.slice y3 s.V.length k3) s) := HV_W3.out.below hb4 (Nat.le_refl _)
      generalize goodF s.ph = Y at HDD hgs hks ⊢
      clear hb4
      go_wp2_with fail
      refine (specKeep Y ((c : Int) / 10 % 8) w4).mono ?_
      rintro e w5 ⟨rfl, hw5⟩
      rw [hw5]
      clear hw5 w5
      generalize keepB Y ((c : Int) / 10 % 8) = X at HDD hks ⊢
      have hksi : (X.size : Int) ≤ Y.size := by omega
      obtain ⟨t0, t1, t2, t3, t4, t5, t6, t7, t8⟩ := HSb_w4.out.cells
      obtain ⟨tf0, tf1, tf2, tf3, tf4, tf5, tf6, tf7, tf8⟩ := HSb_w4.out.frees
      have v0 := HEv_w4.out.cell 0
      have v1 := HEv_w4.out.cell 1
      simp only [List.getElem?_toArray, List.getElem?_cons_succ, List.getElem?_cons_zero] at v0 v1
      have vf0 := HEv_w4.out.free 0
      have vf1 := HEv_w4.out.free 1
      have n3 : ¬ w2.heap.size + 1 = w2.heap.size := by omega
      have n4 : ¬ w2.heap.size = w2.heap.size + 1 := by omega
      by_cases h31 : c % 31 = 30
      · have h31i : (c : Int) % 31 = 30 := by omega
        have HXn : Hid (drX B = -1) := by show drX B = -1; unfold drX; rw [HC.out, if_pos h31]
        go_wp2_with fail
        generalize hW9 : World.setCell _ _ _ = W9
        have HS9 : Hid (Blk w2.heap.size #[.int .i64 s.ph, .string X, .string s.he, .string s.fr, .string s.bo, .slice y1 s.R.length k1, .int .i64 (-1), .slice y2 s.T.length k2, .slice y3 s.V.length k3] W9) := by show Blk _ _ _; rw [← hW9]; exact (Blk.set (Blk.other (Blk.set HSb_w4.out (i := 1) (v := .string X) (show 1 < 9 by decide)) (by omega)) (i := 6) (v := .int .i64 (-1)) (show 6 < 9 by decide))
        have HE9 : Hid (Blk (w2.heap.size + 1) #[.int .i64 1, .string (Y.extract X.size Y.size)] W9) := by show Blk _ _ _; rw [← hW9]; exact (Blk.other (Blk.set (Blk.other HEv_w4.out (by omega)) (i := 1) (v := .string (Y.extract X.size Y.size)) (show 1 < 2 by decide)) (by omega))
        have HZ9 : Hid (SB w.heap.size sn0 (.slice none 0 0) (.slice none 0 0) (.slice none 0 0) W9) := by show SB _ _ _ _ _ _; rw [← hW9]; exact (Blk.other (Blk.other (Blk.other HZS_w4.out (by omega)) (by omega)) (by omega))
        have HY9 : Hid (Blk (w.heap.size + 1) #[.int .i64 0, .string ⟨#[]⟩] W9) := by show Blk _ _ _; rw [← hW9]; exact (Blk.other (Blk.other (Blk.other HZE_w4.out (by omega)) (by omega)) (by omega))
        have HV9 : Hid (SV W9 w1.heap.size (.slice y1 s.R.length k1) (.slice y2 s.T.length k2) (.slice y3 s.V.length k3) s) := by show SV _ _ _ _ _ _; rw [← hW9]; exact (HN.out _ _ _ (.inl (by show w2.heap.size ≤ w2.heap.size; omega)) (HN.out _ _ _ (.inl (by show w2.heap.size ≤ w2.heap.size + 1; omega)) (HN.out _ _ _ (.inl (by show w2.heap.size ≤ w2.heap.size; omega)) HV_w4.out)))
        have b9 : Below w.heap.size w W9 := by rw [← hW9]; exact (Below.setCell (Below.setCell (Below.setCell b_w4 (by show w.heap.size ≤ w2.heap.size; omega) _) (by show w.heap.size ≤ w2.heap.size + 1; omega) _) (by show w.heap.size ≤ w2.heap.size; omega) _)
        clear hW9 HSb_w4 HEv_w4 HZS_w4 HZE_w4 HV_w4 b_w4
        clear t0 t1 t2 t3 t4 t5 t6 t7 t8 tf0 tf1 tf2 tf3 tf4 tf5 tf6 tf7 tf8 v0 v1 vf0 vf1
        have t0 : W9.cell? ⟨w2.heap.size, 0, none⟩ = some (.int .i64 s.ph) := HS9.out.cell 0
        have t1 : W9.cell? ⟨w2.heap.size, 1, none⟩ = some (.string X) := HS9.out.cell 1
        have t2 : W9.cell? ⟨w2.heap.size, 2, none⟩ = some (.string s.he) := HS9.out.cell 2
        have t3 : W9.cell? ⟨w2.heap.size, 3, none⟩ = some (.string s.fr) := HS9.out.cell 3
        have t4 : W9.cell? ⟨w2.heap.size, 4, none⟩ = some (.string s.bo) := HS9.out.cell 4
        have t5 : W9.cell? ⟨w2.heap.size, 5, none⟩ = some (.slice y1 s.R.length k1) := HS9.out.cell 5
        have t6 : W9.cell? ⟨w2.heap.size, 6, none⟩ = some (.int .i64 (-1)) := HS9.out.cell 6
        have t7 : W9.cell? ⟨w2.heap.size, 7, none⟩ = some (.slice y2 s.T.length k2) := HS9.out.cell 7
        have t8 : W9.cell? ⟨w2.heap.size, 8, none⟩ = some (.slice y3 s.V.length k3) := HS9.out.cell 8
        have v0 : W9.cell? ⟨w2.heap.size + 1, 0, none⟩ = some (.int .i64 1) := HE9.out.cell 0
        have v1 : W9.cell? ⟨w2.heap.size + 1, 1, none⟩ = some (.string (Y.extract X.size Y.size)) := HE9.out.cell 1
        obtain ⟨r0, r1, r2, r3, r4, r5, r6, r7, r8⟩ := HZ9.out.zero
        obtain ⟨rf0, rf1, rf2, rf3, rf4, rf5, rf6, rf7, rf8⟩ := HZ9.out.frees
        have x0 : W9.cell? ⟨w.heap.size + 1, 0, none⟩ = some (.int .i64 0) := HY9.out.cell 0
        have x1 : W9.cell? ⟨w.heap.size + 1, 1, none⟩ = some (.string ⟨#[]⟩) := HY9.out.cell 1
        have xf0 := HY9.out.free 0
        have xf1 := HY9.out.free 1
        have la : w2.heap.size < W9.heap.size := HS9.out.lt
        have lb : w2.heap.size + 1 < W9.heap.size := HE9.out.lt
        have lc : w.heap.size < W9.heap.size := HZ9.out.lt
        have ld : w.heap.size + 1 < W9.heap.size := HY9.out.lt
        have h1 : w.heap.size < w1.heap.size := by omega
        have h2 : w.heap.size + 1 < w1.heap.size := by omega
        go_region
        all_goals
          go_wp2
          refine bodyPost_ret (v := .tuple #[.agg #[.int .i64 s.ph, .string X, .string s.he, .string s.fr, .string s.bo, .slice y1 s.R.length k1, .int .i64 (-1), .slice y2 s.T.length k2, .slice y3 s.V.length k3], .agg #[.int .i64 1, .string (Y.extract X.size Y.size)]]) (by simp [results, Tryz.results16, go_sem, r0, r1, r2, r3, r4, r5, r6, r7, r8, x0, x1]) rfl ?_
          rw [HDD.out, HXn.out, HdS.out]
          refine ⟨⟨_, _, _, rfl, ?_⟩, ?_⟩
          · exact SV.le (SV.drewX (HN.out _ _ _ (.inr h2) (HN.out _ _ _ (.inr h2) (SV.nine HV9.out h1 _ _ _ _ _ _ _ _ _)))) (Nat.le_of_lt h1)
          · exact Below.drew (Below.setCell (Below.setCell (below_nine b9 (Nat.le_refl _) _ _ _ _ _ _ _ _ _) (Nat.le_succ _) _) (Nat.le_succ _) _)
      · have h31i : ¬ (c : Int) % 31 = 30 := by omega
        have HXn : Hid (drX B = (s.nx : Int)) := by show drX B = _; unfold drX; rw [HC.out, if_neg h31, HdS.out]
        go_wp2_with fail
        generalize hW9 : World.setCell _ _ _ = W9
        have HS9 : Hid (Blk w2.heap.size #[.int .i64 s.ph, .string X, .string s.he, .string s.fr, .string s.bo, .slice y1 s.R.length k1, .int .i64 (s.nx : Int), .slice y2 s.T.length k2, .slice y3 s.V.length k3] W9) := by show Blk _ _ _; rw [← hW9]; exact (Blk.other (Blk.set HSb_w4.out (i := 1) (v := .string X) (show 1 < 9 by decide)) (by omega))
        have HE9 : Hid (Blk (w2.heap.size + 1) #[.int .i64 1, .string (Y.extract X.size Y.size)] W9) := by show Blk _ _ _; rw [← hW9]; exact (Blk.set (Blk.other HEv_w4.out (by omega)) (i := 1) (v := .string (Y.extract X.size Y.size)) (show 1 < 2 by decide))
        have HZ9 : Hid (SB w.heap.size sn0 (.slice none 0 0) (.slice none 0 0) (.slice none 0 0) W9) := by show SB _ _ _ _ _ _; rw [← hW9]; exact (Blk.other (Blk.other HZS_w4.out (by omega)) (by omega))
        have HY9 : Hid (Blk (w.heap.size + 1) #[.int .i64 0, .string ⟨#[]⟩] W9) := by show Blk _ _ _; rw [← hW9]; exact (Blk.other (Blk.other HZE_w4.out (by omega)) (by omega))
        have HV9 : Hid (SV W9 w1.heap.size (.slice y1 s.R.length k1) (.slice y2 s.T.length k2) (.slice y3 s.V.length k3) s) := by show SV _ _ _ _ _ _; rw [← hW9]; exact (HN.out _ _ _ (.inl (by show w2.heap.size ≤ w2.heap.size + 1; omega)) (HN.out _ _ _ (.inl (by show w2.heap.size ≤ w2.heap.size; omega)) HV_w4.out))
        have b9 : Below w.heap.size w W9 := by rw [← hW9]; exact (Below.setCell (Below.setCell b_w4 (by show w.heap.size ≤ w2.heap.size; omega) _) (by show w.heap.size ≤ w2.heap.size + 1; omega) _)
        clear hW9 HSb_w4 HEv_w4 HZS_w4 HZE_w4 HV_w4 b_w4
        clear t0 t1 t2 t3 t4 t5 t6 t7 t8 tf0 tf1 tf2 tf3 tf4 tf5 tf6 tf7 tf8 v0 v1 vf0 vf1
        have t0 : W9.cell? ⟨w2.heap.size, 0, none⟩ = some (.int .i64 s.ph) := HS9.out.cell 0
        have t1 : W9.cell? ⟨w2.heap.size, 1, none⟩ = some (.string X) := HS9.out.cell 1
        have t2 : W9.cell? ⟨w2.heap.size, 2, none⟩ = some (.string s.he) := HS9.out.cell 2
        have t3 : W9.cell? ⟨w2.heap.size, 3, none⟩ = some (.string s.fr) := HS9.out.cell 3
        have t4 : W9.cell? ⟨w2.heap.size, 4, none⟩ = some (.string s.bo) := HS9.out.cell 4
        have t5 : W9.cell? ⟨w2.heap.size, 5, none⟩ = some (.slice y1 s.R.length k1) := HS9.out.cell 5
        have t6 : W9.cell? ⟨w2.heap.size, 6, none⟩ = some (.int .i64 (s.nx : Int)) := HS9.out.cell 6
        have t7 : W9.cell? ⟨w2.heap.size, 7, none⟩ = some (.slice y2 s.T.length k2) := HS9.out.cell 7
        have t8 : W9.cell? ⟨w2.heap.size, 8, none⟩ = some (.slice y3 s.V.length k3) := HS9.out.cell 8
        have v0 : W9.cell? ⟨w2.heap.size + 1, 0, none⟩ = some (.int .i64 1) := HE9.out.cell 0
        have v1 : W9.cell? ⟨w2.heap.size + 1, 1, none⟩ = some (.string (Y.extract X.size Y.size)) := HE9.out.cell 1
        obtain ⟨r0, r1, r2, r3, r4, r5, r6, r7, r8⟩ := HZ9.out.zero
        obtain ⟨rf0, rf1, rf2, rf3, rf4, rf5, rf6, rf7, rf8⟩ := HZ9.out.frees
        have x0 : W9.cell? ⟨w.heap.size + 1, 0, none⟩ = some (.int .i64 0) := HY9.out.cell 0
        have x1 : W9.cell? ⟨w.heap.size + 1, 1, none⟩ = some (.string ⟨#[]⟩) := HY9.out.cell 1
        have xf0 := HY9.out.free 0
        have xf1 := HY9.out.free 1
        have la : w2.heap.size < W9.heap.size := HS9.out.lt
        have lb : w2.heap.size + 1 < W9.heap.size := HE9.out.lt
        have lc : w.heap.size < W9.heap.size := HZ9.out.lt
        have ld : w.heap.size + 1 < W9.heap.size := HY9.out.lt
        have h1 : w.heap.size < w1.heap.size := by omega
        have h2 : w.heap.size + 1 < w1.heap.size := by omega
        go_region
        all_goals
          go_wp2
          refine bodyPost_ret (v := .tuple #[.agg #[.int .i64 s.ph, .string X, .string s.he, .string s.fr, .string s.bo, .slice y1 s.R.length k1, .int .i64 (s.nx : Int), .slice y2 s.T.length k2, .slice y3 s.V.length k3], .agg #[.int .i64 1, .string (Y.extract X.size Y.size)]]) (by simp [results, Tryz.results16, go_sem, r0, r1, r2, r3, r4, r5, r6, r7, r8, x0, x1]) rfl ?_
          rw [HDD.out, HXn.out, HdS.out]
          refine ⟨⟨_, _, _, rfl, ?_⟩, ?_⟩
          · exact SV.le (SV.drewX (HN.out _ _ _ (.inr h2) (HN.out _ _ _ (.inr h2) (SV.nine HV9.out h1 _ _ _ _ _ _ _ _ _)))) (Nat.le_of_lt h1)
          · exact Below.drew (Below.setCell (Below.setCell (below_nine b9 (Nat.le_refl _) _ _ _ _ _ _ _ _ _) (Nat.le_succ _) _) (Nat.le_succ _) _)
    · rcases (show ((c : Int) % 10 = 1) ∨ ((c : Int) % 10 = 2) by omega) with hmk | hmk
      all_goals
        clear hm
        have c250 : ((c : Int) == 250) = false := beq_eq_false_iff_ne.2 (by omega)
        go_wp2_with fail
        refine (rdReplyX _ q2 _ B W3 H3.out).mono ?_
        rintro e w4 ⟨rfl, h4, ho4⟩
        have hrs := repF_size B q2
        have HDD : Hid (drD B = (s.buf, 1, (repF B q2).1 ++ (⟨#[50, 53, 48, 32, 97, 110, 100]⟩ : ByteArray))) := by show drD B = _; unfold drD drwD tAnd; rw [HP.out, HC.out, HSF.out, if_neg (by omega), if_pos (by omega)]
        have e7 : (⟨#[50, 53, 48, 32, 97, 110, 100]⟩ : ByteArray).size = 7 := rfl
        have HZS_w4 : Hid (SB w.heap.size sn0 (.slice none 0 0) (.slice none 0 0) (.slice none 0 0) w4) := Blk.offR HZS_W3.out ho4 (by omega)
        have HZE_w4 : Hid (Blk (w.heap.size + 1) #[.int .i64 0, .string ⟨#[]⟩] w4) := Blk.offR HZE_W3.out ho4 (by omega)
        have b_w4 : Below w.heap.size w w4 := b_W3.trans ((ho4.belowAt (N := w.heap.size) (by omega) (by omega)).mono (Nat.le_refl _))
        have z_w4 := ho4.size
        have HSb_w4 : Hid (SB w2.heap.size s (.slice y1 s.R.length k1) (.slice y2 s.T.length k2) (.slice y3 s.V.length k3) w4) := Blk.offR HSb_W3.out ho4 (by omega)
        have HEv_w4 : Hid (Blk (w2.heap.size + 1) #[.int .i64 1, .string ⟨#[]⟩] w4) := Blk.offR HEv_W3.out ho4 (by omega)
        have HV_w4 : Hid (SV w4 w1.heap.size (.slice y1 s.R.length k1) (.slice y2 s.T.length k2) (.slice y3 s.V.length k3) s) := HV_W3.out.offR ho4 (by omega)
        have H4 : Hid (RdAt w4 (w.heap.size + 1 + 1) (.slice ca B.length cc) B (repF B q2).2) := h4
        generalize repF B q2 = Y at HDD hrs H4 ⊢
        clear h4 ho4
        obtain ⟨t0, t1, t2, t3, t4, t5, t6, t7, t8⟩ := HSb_w4.out.cells
        obtain ⟨tf0, tf1, tf2, tf3, tf4, tf5, tf6, tf7, tf8⟩ := HSb_w4.out.frees
        have v0 := HEv_w4.out.cell 0
        have v1 := HEv_w4.out.cell 1
        simp only [List.getElem?_toArray, List.getElem?_cons_succ, List.getElem?_cons_zero] at v0 v1
        have vf0 := HEv_w4.out.free 0
        have vf1 := HEv_w4.out.free 1
        have n3 : ¬ w2.heap.size + 1 = w2.heap.size := by omega
        have n4 : ¬ w2.heap.size = w2.heap.size + 1 := by omega
        by_cases h31 : c % 31 = 30
        · have h31i : (c : Int) % 31 = 30 := by omega
          have HXn : Hid (drX B = -1) := by show drX B = -1; unfold drX; rw [HC.out, if_pos h31]
          go_wp2_with fail
          generalize hW9 : World.setCell _ _ _ = W9
          have HS9 : Hid (Blk w2.heap.size #[.int .i64 s.ph, .string s.buf, .string s.he, .string s.fr, .string s.bo, .slice y1 s.R.length k1, .int .i64 (-1), .slice y2 s.T.length k2, .slice y3 s.V.length k3] W9) := by show Blk _ _ _; rw [← hW9]; exact (Blk.set (Blk.other HSb_w4.out (by omega)) (i := 6) (v := .int .i64 (-1)) (show 6 < 9 by decide))
          have HE9 : Hid (Blk (w2.heap.size + 1) #[.int .i64 1, .string (Y.1 ++ (⟨#[50, 53, 48, 32, 97, 110, 100]⟩ : ByteArray))] W9) := by show Blk _ _ _; rw [← hW9]; exact (Blk.other (Blk.set HEv_w4.out (i := 1) (v := .string (Y.1 ++ (⟨#[50, 53, 48, 32, 97, 110, 100]⟩ : ByteArray))) (show 1 < 2 by decide)) (by omega))
          have HZ9 : Hid (SB w.heap.size sn0 (.slice none 0 0) (.slice none 0 0) (.slice none 0 0) W9) := by show SB _ _ _ _ _ _; rw [← hW9]; exact (Blk.other (Blk.other HZS_w4.out (by omega)) (by omega))
          have HY9 : Hid (Blk (w.heap.size + 1) #[.int .i64 0, .string ⟨#[]⟩] W9) := by show Blk _ _ _; rw [← hW9]; exact (Blk.other (Blk.other HZE_w4.out (by omega)) (by omega))
          have HV9 : Hid (SV W9 w1.heap.size (.slice y1 s.R.length k1) (.slice y2 s.T.length k2) (.slice y3 s.V.length k3) s) := by show SV _ _ _ _ _ _; rw [← hW9]; exact (HN.out _ _ _ (.inl (by show w2.heap.size ≤ w2.heap.size; omega)) (HN.out _ _ _ (.inl (by show w2.heap.size ≤ w2.heap.size + 1; omega)) HV_w4.out))
          have b9 : Below w.heap.size w W9 := by rw [← hW9]; exact (Below.setCell (Below.setCell b_w4 (by show w.heap.size ≤ w2.heap.size + 1; omega) _) (by show w.heap.size ≤ w2.heap.size; omega) _)
          clear hW9 HSb_w4 HEv_w4 HZS_w4 HZE_w4 HV_w4 b_w4
          clear t0 t1 t2 t3 t4 t5 t6 t7 t8 tf0 tf1 tf2 tf3 tf4 tf5 tf6 tf7 tf8 v0 v1 vf0 vf1
          have t0 : W9.cell? ⟨w2.heap.size, 0, none⟩ = some (.int .i64 s.ph) := HS9.out.cell 0
          have t1 : W9.cell? ⟨w2.heap.size, 1, none⟩ = some (.string s.buf) := HS9.out.cell 1
          have t2 : W9.cell? ⟨w2.heap.size, 2, none⟩ = some (.string s.he) := HS9.out.cell 2
          have t3 : W9.cell? ⟨w2.heap.size, 3, none⟩ = some (.string s.fr) := HS9.out.cell 3
          have t4 : W9.cell? ⟨w2.heap.size, 4, none⟩ = some (.string s.bo) := HS9.out.cell 4
          have t5 : W9.cell? ⟨w2.heap.size, 5, none⟩ = some (.slice y1 s.R.length k1) := HS9.out.cell 5
          have t6 : W9.cell? ⟨w2.heap.size, 6, none⟩ = some (.int .i64 (-1)) := HS9.out.cell 6
          have t7 : W9.cell? ⟨w2.heap.size, 7, none⟩ = some (.slice y2 s.T.length k2) := HS9.out.cell 7
          have t8 : W9.cell? ⟨w2.heap.size, 8, none⟩ = some (.slice y3 s.V.length k3) := HS9.out.cell 8
          have v0 : W9.cell? ⟨w2.heap.size + 1, 0, none⟩ = some (.int .i64 1) := HE9.out.cell 0
          have v1 : W9.cell? ⟨w2.heap.size + 1, 1, none⟩ = some (.string (Y.1 ++ (⟨#[50, 53, 48, 32, 97, 110, 100]⟩ : ByteArray))) := HE9.out.cell 1
          obtain ⟨r0, r1, r2, r3, r4, r5, r6, r7, r8⟩ := HZ9.out.zero
          obtain ⟨rf0, rf1, rf2, rf3, rf4, rf5, rf6, rf7, rf8⟩ := HZ9.out.frees
          have x0 : W9.cell? ⟨w.heap.size + 1, 0, none⟩ = some (.int .i64 0) := HY9.out.cell 0
          have x1 : W9.cell? ⟨w.heap.size + 1, 1, none⟩ = some (.string ⟨#[]⟩) := HY9.out.cell 1
          have xf0 := HY9.out.free 0
          have xf1 := HY9.out.free 1
          have la : w2.heap.size < W9.heap.size := HS9.out.lt
          have lb : w2.heap.size + 1 < W9.heap.size := HE9.out.lt
          have lc : w.heap.size < W9.heap.size := HZ9.out.lt
          have ld : w.heap.size + 1 < W9.heap.size := HY9.out.lt
          have h1 : w.heap.size < w1.heap.size := by omega
          have h2 : w.heap.size + 1 < w1.heap.size := by omega
          go_region
          all_goals
            go_wp2
            refine bodyPost_ret (v := .tuple #[.agg #[.int .i64 s.ph, .string s.buf, .string s.he, .string s.fr, .string s.bo, .slice y1 s.R.length k1, .int .i64 (-1), .slice y2 s.T.length k2, .slice y3 s.V.length k3], .agg #[.int .i64 1, .string (Y.1 ++ (⟨#[50, 53, 48, 32, 97, 110, 100]⟩ : ByteArray))]]) (by simp [results, Tryz.results16, go_sem, r0, r1, r2, r3, r4, r5, r6, r7, r8, x0, x1]) rfl ?_
            rw [HDD.out, HXn.out, HdS.out]
            refine ⟨⟨_, _, _, rfl, ?_⟩, ?_⟩
            · exact SV.le (SV.drewX (HN.out _ _ _ (.inr h2) (HN.out _ _ _ (.inr h2) (SV.nine HV9.out h1 _ _ _ _ _ _ _ _ _)))) (Nat.le_of_lt h1)
            · exact Below.drew (Below.setCell (Below.setCell (below_nine b9 (Nat.le_refl _) _ _ _ _ _ _ _ _ _) (Nat.le_succ _) _) (Nat.le_succ _) _)
        · have h31i : ¬ (c : Int) % 31 = 30 := by omega
          have HXn : Hid (drX B = (s.nx : Int)) := by show drX B = _; unfold drX; rw [HC.out, if_neg h31, HdS.out]
          go_wp2_with fail
          generalize hW9 : World.setCell _ _ _ = W9
          have HS9 : Hid (Blk w2.heap.size #[.int .i64 s.ph, .string s.buf, .string s.he, .string s.fr, .string s.bo, .slice y1 s.R.length k1, .int .i64 (s.nx : Int), .slice y2 s.T.length k2, .slice y3 s.V.length k3] W9) := by show Blk _ _ _; rw [← hW9]; exact (Blk.other HSb_w4.out (by omega))
          have HE9 : Hid (Blk (w2.heap.size + 1) #[.int .i64 1, .string (Y.1 ++ (⟨#[50, 53, 48, 32, 97, 110, 100]⟩ : ByteArray))] W9) := by show Blk _ _ _; rw [← hW9]; exact (Blk.set HEv_w4.out (i := 1) (v := .string (Y.1 ++ (⟨#[50, 53, 48, 32, 97, 110, 100]⟩ : ByteArray))) (show 1 < 2 by decide))
          have HZ9 : Hid (SB w.heap.size sn0 (.slice none 0 0) (.slice none 0 0) (.slice none 0 0) W9) := by show SB _ _ _ _ _ _; rw [← hW9]; exact (Blk.other HZS_w4.out (by omega))
          have HY9 : Hid (Blk (w.heap.size + 1) #[.int .i64 0, .string ⟨#[]⟩] W9) := by show Blk _ _ _; rw [← hW9]; exact (Blk.other HZE_w4.out (by omega))
          have HV9 : Hid (SV W9 w1.heap.size (.slice y1 s.R.length k1) (.slice y2 s.T.length k2) (.slice y3 s.V.length k3) s) := by show SV _ _ _ _ _ _; rw [← hW9]; exact (HN.out _ _ _ (.inl (by show w2.heap.size ≤ w2.heap.size + 1; omega)) HV_w4.out)
          have b9 : Below w.heap.size w W9 := by rw [← hW9]; exact (Below.setCell b_w4 (by show w.heap.size ≤ w2.heap.size + 1; omega) _)
          clear hW9 HSb_w4 HEv_w4 HZS_w4 HZE_w4 HV_w4 b_w4
          clear t0 t1 t2 t3 t4 t5 t6 t7 t8 tf0 tf1 tf2 tf3 tf4 tf5 tf6 tf7 tf8 v0 v1 vf0 vf1
          have t0 : W9.cell? ⟨w2.heap.size, 0, none⟩ = some (.int .i64 s.ph) := HS9.out.cell 0
          have t1 : W9.cell? ⟨w2.heap.size, 1, none⟩ = some (.string s.buf) := HS9.out.cell 1
          have t2 : W9.cell? ⟨w2.heap.size, 2, none⟩ = some (.string s.he) := HS9.out.cell 2
          have t3 : W9.cell? ⟨w2.heap.size, 3, none⟩ = some (.string s.fr) := HS9.out.cell 3
          have t4 : W9.cell? ⟨w2.heap.size, 4, none⟩ = some (.string s.bo) := HS9.out.cell 4
          have t5 : W9.cell? ⟨w2.heap.size, 5, none⟩ = some (.slice y1 s.R.length k1) := HS9.out.cell 5
          have t6 : W9.cell? ⟨w2.heap.size, 6, none⟩ = some (.int .i64 (s.nx : Int)) := HS9.out.cell 6
          have t7 : W9.cell? ⟨w2.heap.size, 7, none⟩ = some (.slice y2 s.T.length k2) := HS9.out.cell 7
          have t8 : W9.cell? ⟨w2.heap.size, 8, none⟩ = some (.slice y3 s.V.length k3) := HS9.out.cell 8
          have v0 : W9.cell? ⟨w2.heap.size + 1, 0, none⟩ = some (.int .i64 1) := HE9.out.cell 0
          have v1 : W9.cell? ⟨w2.heap.size + 1, 1, none⟩ = some (.string (Y.1 ++ (⟨#[50, 53, 48, 32, 97, 110, 100]⟩ : ByteArray))) := HE9.out.cell 1
          obtain ⟨r0, r1, r2, r3, r4, r5, r6, r7, r8⟩ := HZ9.out.zero
          obtain ⟨rf0, rf1, rf2, rf3, rf4, rf5, rf6, rf7, rf8⟩ := HZ9.out.frees
          have x0 : W9.cell? ⟨w.heap.size + 1, 0, none⟩ = some (.int .i64 0) := HY9.out.cell 0
          have x1 : W9.cell? ⟨w.heap.size + 1, 1, none⟩ = some (.string ⟨#[]⟩) := HY9.out.cell 1
          have xf0 := HY9.out.free 0
          have xf1 := HY9.out.free 1
          have la : w2.heap.size < W9.heap.size := HS9.out.lt
          have lb : w2.heap.size + 1 < W9.heap.size := HE9.out.lt
          have lc : w.heap.size < W9.heap.size := HZ9.out.lt
          have ld : w.heap.size + 1 < W9.heap.size := HY9.out.lt
          have h1 : w.heap.size < w1.heap.size := by omega
          have h2 : w.heap.size + 1 < w1.heap.size := by omega
          go_region
          all_goals
            go_wp2
            refine bodyPost_ret (v := .tuple #[.agg #[.int .i64 s.ph, .string s.buf, .string s.he, .string s.fr, .string s.bo, .slice y1 s.R.length k1, .int .i64 (s.nx : Int), .slice y2 s.T.length k2, .slice y3 s.V.length k3], .agg #[.int .i64 1, .string (Y.1 ++ (⟨#[50, 53, 48, 32, 97, 110, 100]⟩ : ByteArray))]]) (by simp [results, Tryz.results16, go_sem, r0, r1, r2, r3, r4, r5, r6, r7, r8, x0, x1]) rfl ?_
            rw [HDD.out, HXn.out, HdS.out]
            refine ⟨⟨_, _, _, rfl, ?_⟩, ?_⟩
            · exact SV.le (SV.drewX (HN.out _ _ _ (.inr h2) (HN.out _ _ _ (.inr h2) (SV.nine HV9.out h1 _ _ _ _ _ _ _ _ _)))) (Nat.le_of_lt h1)
            · exact Below.drew (Below.setCell (Below.setCell (below_nine b9 (Nat.le_refl _) _ _ _ _ _ _ _ _ _) (Nat.le_succ _) _) (Nat.le_succ _) _)
end Go.Proofs.YtngcjlghjidnjaaGreatDoor
namespace Go.Proofs.YtngcjlghjidnjaaGreatDoor
open Go.ChangeShapes Go.WideShapes Go.ChangeAt Go.RowKit
attribute [local go_sem ↓] Go.wp_at_zero Go.wp_at_succ

open Pcs
theorem ext_parts (d : ByteArray) (k : Nat) : d.extract 0 k ++ d.extract k d.size = d := by
  have h1 : d.size = d.data.toList.length := by rw [Array.length_toList]; rfl
  apply ByteArray.ext
  apply Array.ext'
  rw [cat_list, ByteArray.data_extract, ByteArray.data_extract, Array.toList_extract, Array.toList_extract, List.extract_eq_take_drop, List.extract_eq_take_drop, h1, List.drop_zero, Nat.sub_zero, List.take_of_length_le (i := _ - _) (by simp only [List.length_drop]; omega)]
  exact List.take_append_drop _ _
/-- all at once, or in two parts -/
theorem chunk_pure (ph nx : Int) (buf he fr bo : ByteArray) (R : List ByteArray) (T : List Bool) (V : List Vd) (d : ByteArray) (k : Nat) (hz : buf.size + d.size ≤ 40000) :
    feedN ph nx buf he fr bo R T V 1 d = ((feedS (feedN ph nx buf he fr bo R T V 1 (d.extract 0 k)).1 1 (d.extract k d.size)).1, (feedN ph nx buf he fr bo R T V 1 (d.extract 0 k)).2 ++ (feedS (feedN ph nx buf he fr bo R T V 1 (d.extract 0 k)).1 1 (d.extract k d.size)).2) := by
  cases hp : properN ph nx buf he fr bo R T V with
  | false =>
    have e : ∀ x, feedN ph nx buf he fr bo R T V 1 x = (snDone, ⟨#[]⟩) := fun x => by unfold feedN; rw [hp]; rfl
    have e2 : ∀ x, feedS snDone 1 x = (snDone, ⟨#[]⟩) := fun x => by
      unfold feedS feedN
      rw [proper_head (by rintro ⟨_, _, _, h, _⟩; exact absurd h (by decide))]
      rfl
    rw [e, e]
    dsimp only
    rw [e2]
    rfl
  | true =>
    obtain ⟨n, rfl, _⟩ := ok_of hp
    have hPr : Sn.Pr ⟨ph, buf, he, fr, bo, R, n, T, V⟩ := hp
    have e : ∀ x, feedN ph (n : Int) buf he fr bo R T V 1 x = Sn.feed ⟨ph, buf, he, fr, bo, R, n, T, V⟩ true 1 x := fun x => by unfold feedN; rw [hp]; rfl
    have e2 : ∀ (s : Sn), s.Pr → ∀ x, feedS s 1 x = s.feed true 1 x := fun s h x => by
      unfold feedS feedN
      rw [show properN s.ph (s.nx : Int) s.buf s.he s.fr s.bo s.R s.T s.V = true from h]
      rfl
    have hd : (d.extract 0 k).size + (d.extract k d.size).size = d.size := by rw [← ByteArray.size_append, ext_parts d k]
    rw [e, e, e2 _ (feed_pr hPr 1 _)]
    have := feed_parts hPr (d.extract 0 k) (d.extract k d.size) (by show buf.size + _ ≤ _; omega)
    rw [ext_parts d k] at this
    exact this
theorem feedN_said (ph nx : Int) (buf he fr bo : ByteArray) (R : List ByteArray) (T : List Bool) (V : List Vd) (kind : Int) (d : ByteArray) : (feedN ph nx buf he fr bo R T V kind d).2.size ≤ 800000000 := by
  unfold feedN
  cases hp : properN ph nx buf he fr bo R T V with
  | false => exact Nat.zero_le _
  | true =>
    obtain ⟨n, rfl, hk⟩ := ok_of hp
    show (Sn.feed ⟨ph, buf, he, fr, bo, R, n, T, V⟩ true kind d).2.size ≤ _
    unfold Sn.feed
    rw [if_neg (by decide)]
    split
    · exact Nat.zero_le _
    · split
      · exact Nat.zero_le _
      · split
        · exact Nat.zero_le _
        · split
          · exact Nat.zero_le _
          · rename_i hz
            dsimp only at hz
            have hb : (buf ++ d).size = buf.size + d.size := ByteArray.size_append
            have := rep_size (buf.size + d.size + 1) { (⟨ph, buf, he, fr, bo, R, n, T, V⟩ : Sn) with buf := buf ++ d } ⟨hk.p1, hk.p9, hk.t, hk.v, hk.r1, hk.r20, hk.n, hk.n5, hk.he, hk.fr, hk.bo, hk.rs, by show (buf ++ d).size ≤ _; omega⟩
            refine Nat.le_trans this ?_
            show 20000 * (buf ++ d).size ≤ _
            omega
/-- a drawn session and a drawn event -/
theorem drawnX (cv : Value) (B : List UInt8) : ∃ (ph nx : Int) (buf he fr bo : ByteArray) (R : List ByteArray) (T : List Bool) (V : List Vd) (kind : Int) (d : ByteArray), (∀ wx : World, CodeAt wx cv B → Calls Tryz.prog 16 #[cv] wx fun e w' => (∃ n1 l1 n2 l2 n3 l3, e = .returned (.tuple #[.agg #[.int .i64 ph, .string buf, .string he, .string fr, .string bo, .slice n1 R.length l1, .int .i64 nx, .slice n2 T.length l2, .slice n3 V.length l3], .agg #[.int .i64 kind, .string d]]) ∧ SV w' wx.heap.size (.slice n1 R.length l1) (.slice n2 T.length l2) (.slice n3 V.length l3) ⟨ph, buf, he, fr, bo, R, 0, T, V⟩) ∧ Below wx.heap.size wx w') ∧ Small9 buf he fr bo R T V ∧ buf.size ≤ 40000 ∧ d.size ≤ 40001 := by
  have hs := (sesF_fine B (px B 0)).small
  have hz := drwD_size B (nx B 0) (sesF B (px B 0)).1 (sesF B (px B 0)).2 hs.2.1
  refine ⟨(drS B).ph, drX B, (drD B).1, (drS B).he, (drS B).fr, (drS B).bo, (drS B).R, (drS B).T, (drS B).V, (drD B).2.1, (drD B).2.2, ?_, ?_, hz.1, hz.2⟩
  · intro wx hC
    refine (drawFeedX cv B wx hC).mono ?_
    rintro e w' ⟨⟨u1, u2, u3, rfl, S⟩, hb⟩
    obtain ⟨n1, l1, e1⟩ := strs_form2 S.1
    obtain ⟨n2, l2, e2⟩ := bls_form S.2.1
    obtain ⟨n3, l3, e3⟩ := vds_formD S.2.2
    subst e1 e2 e3
    exact ⟨⟨_, _, _, _, _, _, rfl, S⟩, hb⟩
  · obtain ⟨_, h2, h3, h4, h5, h6, h7, h8, h9⟩ := hs.1
    exact ⟨by have : (drD B).1.size ≤ 40000 := hz.1; omega, h2, h3, h4, h5, h6, h7, h8, h9⟩
end Go.Proofs.YtngcjlghjidnjaaGreatDoor
