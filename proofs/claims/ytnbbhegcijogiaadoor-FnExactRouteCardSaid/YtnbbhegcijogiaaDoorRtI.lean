import Derived.Test.YtnbbhegcijogiaaDoorBst
namespace Go.Proofs.YtnbbhegcijogiaaDoor
open Go.ChangeShapes Go.WideShapes Go.ChangeAt Go.RowKit
attribute [local go_sem ↓] Go.wp_at_zero Go.wp_at_succ

theorem tab_belowR {w w1 : World} (h : TabIn w) (hb : Below w.heap.size w w1) : TabIn w1 := fun i hi => (hb.cell (p := ⟨0, i, none⟩) (block_lt_of (h i hi))).trans (h i hi)
/-- a route -/
def routeN (dom : ByteArray) (kind addr : Int) (L : List Mx) (seed : Nat) : List ByteArray × Int :=
  if domOk dom = false ∨ kind = 3 then ([], 2)
  else if kind = 2 then (if addr = 1 then ([dom], 0) else if addr = 4 then ([], 1) else ([], 2))
  else if kind ≠ 1 then ([], 1)
  else if L.map (·.2) = [⟨#[46]⟩] then ([], 3)
  else if rankN seed L 32 = [] then ([], 2)
  else ((sortR (rankN seed L 32)).foldl addH [], 0)
theorem strs_one {w : World} {x : ByteArray} : Strs (w.alloc (.cells #[.string x] 9)) w.heap.size (.slice (some ⟨w.heap.size, 0, none⟩) 1 1) [x] :=
  ⟨rfl, .inr ⟨w.heap.size, 1, #[.string x], rfl, Nat.le_refl _, (MapKept.heap_alloc w _).1, Nat.le_refl _, by unfold maxLen; omega, rfl, rfl⟩⟩
theorem strs_none {w : World} {lo : Nat} : Strs w lo (.slice none 0 0) [] := ⟨rfl, .inl ⟨rfl, rfl⟩⟩

set_option maxHeartbeats 1000000 in
set_option maxRecDepth 100000 in
theorem implByAddr (dom : ByteArray) (addr : Int) (w : World) :
    Calls Tryd.prog 23 #[.string dom, .int .i64 addr] w fun e w' => (∃ v, e = .returned (.tuple #[v, .int .i64 (if addr = 1 then ([dom], 0) else if addr = 4 then (([] : List ByteArray), (1 : Int)) else ([], 2)).2]) ∧ Strs w' w.heap.size v (if addr = 1 then ([dom], 0) else if addr = 4 then (([] : List ByteArray), (1 : Int)) else ([], 2)).1) ∧ Below w.heap.size w w' := by
  by_cases h1 : addr = 1
  · rw [if_pos h1]
    subst h1
    go_enter Tryd.func23, Tryd.ntmps23
    go_wp2
    go_ret2
    exact ⟨⟨_, rfl, strs_one⟩, below1 _ _⟩
  · rw [if_neg h1]
    have h1b : (addr == 1) = false := beq_eq_false_iff_ne.2 h1
    by_cases h4 : addr = 4
    · rw [if_pos h4]
      subst h4
      go_enter Tryd.func23, Tryd.ntmps23
      go_wp2
      go_ret2
      exact ⟨⟨_, rfl, strs_none⟩, Below.refl _ _⟩
    · rw [if_neg h4]
      have h4b : (addr == 4) = false := beq_eq_false_iff_ne.2 h4
      go_enter Tryd.func23, Tryd.ntmps23
      go_wp2
      go_ret2
      exact ⟨⟨_, rfl, strs_none⟩, Below.refl _ _⟩

theorem route_not {dom : ByteArray} {kind : Int} (h : domOk dom = true) (h3 : ¬ kind = 3) : ¬ (domOk dom = false ∨ kind = 3) := by
  rintro (c | c)
  · rw [h] at c; cases c
  · exact h3 c
theorem route_dom {dom : ByteArray} {kind addr : Int} {L : List Mx} {seed : Nat} (h : domOk dom = false ∨ kind = 3) : routeN dom kind addr L seed = ([], 2) := by unfold routeN; rw [if_pos h]
theorem route_two {dom : ByteArray} {kind addr : Int} {L : List Mx} {seed : Nat} (h : ¬ (domOk dom = false ∨ kind = 3)) (h2 : kind = 2) : routeN dom kind addr L seed = (if addr = 1 then ([dom], 0) else if addr = 4 then ([], 1) else ([], 2)) := by unfold routeN; rw [if_neg h, if_pos h2]
theorem route_kind {dom : ByteArray} {kind addr : Int} {L : List Mx} {seed : Nat} (h : ¬ (domOk dom = false ∨ kind = 3)) (h2 : kind ≠ 2) (h1 : kind ≠ 1) : routeN dom kind addr L seed = ([], 1) := by unfold routeN; rw [if_neg h, if_neg h2, if_pos h1]
theorem route_null {dom : ByteArray} {kind addr : Int} {L : List Mx} {seed : Nat} (h : ¬ (domOk dom = false ∨ kind = 3)) (h1 : kind = 1) (hn : L.map (·.2) = [⟨#[46]⟩]) : routeN dom kind addr L seed = ([], 3) := by unfold routeN; rw [if_neg h, if_neg (by omega), if_neg (by omega), if_pos hn]
theorem route_gone {dom : ByteArray} {kind addr : Int} {L : List Mx} {seed : Nat} (h : ¬ (domOk dom = false ∨ kind = 3)) (h1 : kind = 1) (hn : L.map (·.2) ≠ [⟨#[46]⟩]) (hr : rankN seed L 32 = []) : routeN dom kind addr L seed = ([], 2) := by unfold routeN; rw [if_neg h, if_neg (by omega), if_neg (by omega), if_neg hn, if_pos hr]
theorem route_ok {dom : ByteArray} {kind addr : Int} {L : List Mx} {seed : Nat} (h : ¬ (domOk dom = false ∨ kind = 3)) (h1 : kind = 1) (hn : L.map (·.2) ≠ [⟨#[46]⟩]) (hr : rankN seed L 32 ≠ []) : routeN dom kind addr L seed = ((sortR (rankN seed L 32)).foldl addH [], 0) := by unfold routeN; rw [if_neg h, if_neg (by omega), if_neg (by omega), if_neg hn, if_neg hr]

set_option maxHeartbeats 1000000 in
set_option maxRecDepth 100000 in
theorem implRank0 (a : Option Addr) (c seed : Nat) (w : World) :
    Calls Tryd.prog 24 #[.slice a (([] : List Mx).length) c, .int .u32 seed] w fun e w' => (∃ v', e = .returned v' ∧ Rks w' w.heap.size v' (rankN seed [] 32)) ∧ Below w.heap.size w w' := by
  show Calls _ _ #[.slice a 0 c, _] _ _
  go_enter Tryd.func24, Tryd.ntmps24
  go_wp2
  refine wp_loop_rounds 1 ?_; rw [rounds_succ]
  go_wp2
  go_ret
  exact ⟨⟨_, rfl, ⟨by rfl, .inl ⟨rfl, rfl⟩⟩⟩, Below.refl _ _⟩

set_option maxHeartbeats 4000000 in
set_option maxRecDepth 100000 in
theorem implRoute (dom : ByteArray) (kind addr : Int) (v : Value) (L : List Mx) (seed : Nat) (w : World) (h : ArgM w v L) (hd : dom.size ≤ 1048576) (hsz : ∀ x ∈ L, x.2.size ≤ 1048576) (hseed : seed < 4294967296) (hl : LenIn w) (ht : TabIn w) :
    Calls Tryd.prog 6 #[.string dom, .agg #[.int .i64 kind, v, .int .i64 addr], .int .u32 seed] w fun e w' => (∃ u, e = .returned (.tuple #[u, .int .i64 (routeN dom kind addr L seed).2]) ∧ Strs w' w.heap.size u (routeN dom kind addr L seed).1) ∧ Below w.heap.size w w' := by
  have HL : Hid (LenIn w) := hl
  have HT : Hid (TabIn w) := ht
  have HSZ : Hid (∀ x ∈ L, x.2.size ≤ 1048576) := hsz
  have HA : Hid (ArgM w v L) := h
  have hm := h.1
  unfold maxLen at hm
  obtain ⟨a1, c1, rfl⟩ := h.form
  clear h hl ht hsz
  go_enter Tryd.func6, Tryd.ntmps6
  go_wp2_with fail
  generalize hW : w.alloc _ = W
  have x0 : W.cell? ⟨w.heap.size, 0, none⟩ = some (.int .i64 kind) := by rw [← hW]; exact World.cell?_alloc_mark _ _ _ _ _
  have x1 : W.cell? ⟨w.heap.size, 1, none⟩ = some (.slice a1 L.length c1) := by rw [← hW]; exact World.cell?_alloc_mark _ _ _ _ _
  have x2 : W.cell? ⟨w.heap.size, 2, none⟩ = some (.int .i64 addr) := by rw [← hW]; exact World.cell?_alloc_mark _ _ _ _ _
  have hbW : Hid (Below w.heap.size w W) := by show Below _ _ _; rw [← hW]; exact below1 _ _
  have hWz : w.heap.size < W.heap.size := by rw [← hW]; simp
  clear hW
  refine (implDomain dom _ (len_below HL.out hbW.out) hd).mono ?_
  rintro e w1 ⟨rfl, hb1⟩
  have y0 := (hb1.cell (p := ⟨w.heap.size, 0, none⟩) hWz).trans x0
  have y1 := (hb1.cell (p := ⟨w.heap.size, 1, none⟩) hWz).trans x1
  have y2 := (hb1.cell (p := ⟨w.heap.size, 2, none⟩) hWz).trans x2
  have HB1 : Hid (Below w.heap.size w w1) := hbW.out.trans (hb1.mono hbW.out.size)
  have hz1 : w.heap.size < w1.heap.size := by have := hb1.size; omega
  clear hbW hb1 x0 x1 x2
  cases hdo : domOk dom with
  | false =>
    have G : Hid (routeN dom kind addr L seed = ([], 2)) := route_dom (.inl hdo)
    go_wp2
    go_ret2
    exact ⟨⟨_, by rw [G.out]; rfl, by rw [G.out]; exact strs_none⟩, HB1.out⟩
  | true =>
    by_cases hk3 : kind = 3
    · have G : Hid (routeN dom kind addr L seed = ([], 2)) := route_dom (.inr hk3)
      subst hk3
      go_wp2
      go_ret2
      exact ⟨⟨_, by rw [G.out]; rfl, by rw [G.out]; exact strs_none⟩, HB1.out⟩
    have hk3b : (kind == 3) = false := beq_eq_false_iff_ne.2 hk3
    have HN : Hid (¬ (domOk dom = false ∨ kind = 3)) := route_not hdo hk3
    clear hdo
    by_cases hk2 : kind = 2
    · have G : Hid (routeN dom kind addr L seed = (if addr = 1 then ([dom], 0) else if addr = 4 then ([], 1) else ([], 2))) := route_two HN.out hk2
      subst hk2
      go_wp2_with fail
      refine (implByAddr dom addr _).mono ?_
      rintro e w2 ⟨⟨u, rfl, S2⟩, hb2⟩
      have HS2 : Hid (Strs w2 w1.heap.size u (routeN dom 2 addr L seed).1) := by show Strs _ _ _ _; rw [G.out]; exact S2
      have HB2 : Hid (Below w.heap.size w w2) := HB1.out.trans (hb2.mono (by omega))
      clear S2 hb2
      rw [← G.out]
      go_wp2
      go_ret2
      exact ⟨⟨_, rfl, strs_le HS2.out (by omega)⟩, HB2.out⟩
    have hk2b : (kind == 2) = false := beq_eq_false_iff_ne.2 hk2
    by_cases hk1 : kind = 1
    case neg =>
      have G : Hid (routeN dom kind addr L seed = ([], 1)) := route_kind HN.out hk2 hk1
      have hk1b : (kind == 1) = false := beq_eq_false_iff_ne.2 hk1
      go_wp2
      go_ret2
      exact ⟨⟨_, by rw [G.out]; rfl, by rw [G.out]; exact strs_none⟩, HB1.out⟩
    have HK1 : Hid (kind = 1) := hk1
    subst hk1
    have HA1 : Hid (ArgM w1 (.slice a1 L.length c1) L) := HA.out.below HB1.out
    have HL1 : Hid (LenIn w1) := len_below HL.out HB1.out
    have HT1 : Hid (TabIn w1) := tab_belowR HT.out HB1.out
    have HF : Hid (∀ (u : Value) (w2 : World), Rks w2 w1.heap.size u (rankN seed L 32) → rankN seed L 32 ≠ [] → Calls Tryd.prog 25 #[u, .func (.func 26) #[] #[]] w2 fun e w' => (∃ v', e = .returned v' ∧ Strs w' w2.heap.size v' ((sortR (rankN seed L 32)).foldl addH [])) ∧ Below w1.heap.size w2 w') := fun u w2 h hne => implBest u _ _ w2 h hne (rank_len seed 32 L)
    have HRK : Hid (∀ nn : Nat, nn = L.length → Calls Tryd.prog 24 #[.slice a1 nn c1, .int .u32 seed] w1 fun e w' => (∃ v', e = .returned v' ∧ Rks w' w1.heap.size v' (rankN seed L 32)) ∧ Below w1.heap.size w1 w') := by
      rintro nn rfl
      by_cases h1 : 1 ≤ L.length
      · exact implRank _ L seed w1 HA1.out HSZ.out hseed HL1.out HT1.out h1
      · have h0 : L = [] := List.eq_nil_of_length_eq_zero (by omega)
        rw [h0]
        exact implRank0 a1 c1 seed w1
    have HG0 : Hid (rankN seed L 32 = [] → L.map (·.2) ≠ [⟨#[46]⟩] → routeN dom 1 addr L seed = ([], 2)) := fun h1 h2 => route_gone HN.out rfl h2 h1
    have HG1 : Hid (rankN seed L 32 ≠ [] → L.map (·.2) ≠ [⟨#[46]⟩] → routeN dom 1 addr L seed = ((sortR (rankN seed L 32)).foldl addH [], 0)) := fun h1 h2 => route_ok HN.out rfl h2 h1
    have hcase : (∃ m, L = [m]) ∨ L.length ≠ 1 := by
      match L with
      | [] => exact .inr (by simp)
      | [m] => exact .inl ⟨m, rfl⟩
      | _ :: _ :: _ => exact .inr (by simp)
    rcases hcase with ⟨m, hLm⟩ | hl1
    · obtain ⟨b, off, cap, hv, _, hlt, hc⟩ : ∃ b off cap, (Value.slice a1 L.length c1) = .slice (some ⟨b, off, none⟩) L.length cap ∧ L.length ≤ cap ∧ b < w1.heap.size ∧ ∀ i (hi : i < L.length), w1.cell? ⟨b, off + i * 2, none⟩ = some (.int .i64 L[i].1) ∧ w1.cell? ⟨b, off + i * 2 + 1, none⟩ = some (.string L[i].2) := by
        rcases HA1.out.2.2 with ⟨h0, _⟩ | h
        · rw [h0] at hLm; cases hLm
        · exact h
      injection hv with hv1 _ hv2
      subst hv1 hv2
      have z1 : w1.cell? ⟨b, off + 1, none⟩ = some (.string m.2) := by
        have := (hc 0 (by rw [hLm]; simp)).2
        simpa [hLm] using this
      have HLL : Hid (L = [m]) := hLm
      have hlen1 : L.length = 1 := by rw [hLm]; rfl
      have hlen1i : (L.length : Int) = 1 := by omega
      clear hc hLm hlt
      by_cases hdot : m.2 = ⟨#[46]⟩
      · have G : Hid (routeN dom 1 addr L seed = ([], 3)) := route_null HN.out rfl (by rw [HLL.out]; simp [hdot])
        rw [hdot] at z1
        go_wp2
        go_ret2
        exact ⟨⟨_, by rw [G.out]; rfl, by rw [G.out]; exact strs_none⟩, HB1.out⟩
      · have HNU : Hid (L.map (·.2) ≠ [⟨#[46]⟩]) := by
          intro c; rw [HLL.out] at c; simp at c; exact hdot c
        have hdb : (m.2.toList == [46]) = false := by
          rw [beq_eq_false_iff_ne]
          intro c
          refine hdot (toList_inj (c.trans ?_))
          rw [Lib.toList_data]
        clear HLL
        go_upto_region 9 with fail
        go_wp2_with fail
        refine (HRK.out _ (by omega)).mono ?_
        rintro e w2 ⟨⟨u, rfl, S2⟩, hb2⟩
        have HS2 : Hid (Rks w2 w1.heap.size u (rankN seed L 32)) := S2
        have HB2 : Hid (Below w1.heap.size w1 w2) := hb2
        have hz2 := hb2.size
        obtain ⟨a5, c5, hu⟩ : ∃ a c, u = .slice a (rankN seed L 32).length c := by
          rcases S2.cases with ⟨h1, h2⟩ | ⟨g', cap', h1, _⟩
          · exact ⟨none, 0, by rw [h1, h2]; rfl⟩
          · exact ⟨_, _, h1⟩
        have hr32 := rank_len seed 32 L
        subst hu
        clear S2 hb2 HRK
        obtain ⟨RK, HRE⟩ : ∃ RK, Hid (rankN seed L 32 = RK) := ⟨_, rfl⟩
        rw [HRE.out] at HS2 HF HG0 HG1 hr32 ⊢
        by_cases hr0 : RK = []
        · have G : Hid (routeN dom 1 addr L seed = ([], 2)) := HG0.out hr0 HNU.out
          have hl0 : RK.length = 0 := by rw [hr0]; rfl
          rw [hl0] at HS2 ⊢
          clear hr0
          go_wp2
          go_ret2
          exact ⟨⟨_, by rw [G.out]; rfl, by rw [G.out]; exact strs_none⟩, HB1.out.trans (HB2.out.mono (by omega))⟩
        · have G : Hid (routeN dom 1 addr L seed = ((sortR RK).foldl addH [], 0)) := HG1.out hr0 HNU.out
          have hlp : RK.length ≠ 0 := fun c => hr0 (List.eq_nil_of_length_eq_zero c)
          have hlpb : ((RK.length : Int) == 0) = false := beq_eq_false_iff_ne.2 (by omega)
          have HR0 : Hid (RK ≠ []) := hr0
          clear hr0
          go_wp2_with fail
          refine (HF.out _ _ HS2.out HR0.out).mono ?_
          rintro e w3 ⟨⟨u3, rfl, S3⟩, hb3⟩
          have HS3 : Hid (Strs w3 w2.heap.size u3 ((sortR RK).foldl addH [])) := S3
          have HB3 : Hid (Below w1.heap.size w2 w3) := hb3
          clear S3 hb3
          go_wp2
          go_ret2
          exact ⟨⟨_, by rw [G.out]; rfl, by rw [G.out]; exact strs_le HS3.out (by omega)⟩, HB1.out.trans ((HB2.out.trans HB3.out).mono (by omega))⟩
    · have HNU : Hid (L.map (·.2) ≠ [⟨#[46]⟩]) := by
        intro c
        have := congrArg List.length c
        simp at this; exact hl1 this
      have hl1b : ((L.length : Int) == 1) = false := beq_eq_false_iff_ne.2 (by omega)
      go_upto_region 9 with fail
      go_wp2_with fail
      refine (HRK.out _ rfl).mono ?_
      rintro e w2 ⟨⟨u, rfl, S2⟩, hb2⟩
      have HS2 : Hid (Rks w2 w1.heap.size u (rankN seed L 32)) := S2
      have HB2 : Hid (Below w1.heap.size w1 w2) := hb2
      have hz2 := hb2.size
      obtain ⟨a5, c5, hu⟩ : ∃ a c, u = .slice a (rankN seed L 32).length c := by
        rcases S2.cases with ⟨h1, h2⟩ | ⟨g', cap', h1, _⟩
        · exact ⟨none, 0, by rw [h1, h2]; rfl⟩
        · exact ⟨_, _, h1⟩
      have hr32 := rank_len seed 32 L
      subst hu
      clear S2 hb2 HRK
      obtain ⟨RK, HRE⟩ : ∃ RK, Hid (rankN seed L 32 = RK) := ⟨_, rfl⟩
      rw [HRE.out] at HS2 HF HG0 HG1 hr32 ⊢
      by_cases hr0 : RK = []
      · have G : Hid (routeN dom 1 addr L seed = ([], 2)) := HG0.out hr0 HNU.out
        have hl0 : RK.length = 0 := by rw [hr0]; rfl
        rw [hl0] at HS2 ⊢
        clear hr0
        go_wp2
        go_ret2
        exact ⟨⟨_, by rw [G.out]; rfl, by rw [G.out]; exact strs_none⟩, HB1.out.trans (HB2.out.mono (by omega))⟩
      · have G : Hid (routeN dom 1 addr L seed = ((sortR RK).foldl addH [], 0)) := HG1.out hr0 HNU.out
        have hlp : RK.length ≠ 0 := fun c => hr0 (List.eq_nil_of_length_eq_zero c)
        have hlpb : ((RK.length : Int) == 0) = false := beq_eq_false_iff_ne.2 (by omega)
        have HR0 : Hid (RK ≠ []) := hr0
        clear hr0
        go_wp2_with fail
        refine (HF.out _ _ HS2.out HR0.out).mono ?_
        rintro e w3 ⟨⟨u3, rfl, S3⟩, hb3⟩
        have HS3 : Hid (Strs w3 w2.heap.size u3 ((sortR RK).foldl addH [])) := S3
        have HB3 : Hid (Below w1.heap.size w2 w3) := hb3
        clear S3 hb3
        go_wp2
        go_ret2
        exact ⟨⟨_, by rw [G.out]; rfl, by rw [G.out]; exact strs_le HS3.out (by omega)⟩, HB1.out.trans ((HB2.out.trans HB3.out).mono (by omega))⟩
end Go.Proofs.YtnbbhegcijogiaaDoor
