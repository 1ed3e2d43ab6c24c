import Derived.Test.YticfnfplpccmgadDoorRdDisk
import Derived.Test.YticfnfplpccmgadDoorRdLeft
namespace Go.Proofs.YticfnfplpccmgadDoor
open Go.ChangeShapes Go.WideShapes Go.ChangeAt Go.RowKit

/-- the numbers of drawn payloads -/
def recGo : Nat → List UInt8 → Nat → List ByteArray → List ByteArray
  | 0, _, _, acc => acc
  | f + 1, B, p, acc => if p < B.length ∧ acc.length < 20 then recGo f B (payP B p) (acc ++ [payB B p]) else acc

def lenOf : Value → Nat
  | .slice _ n _ => n
  | _ => 0
def recs (B : List UInt8) : List ByteArray := recGo 20 B (px B (dTL B 0).2) []
def drawnSteps (B : List UInt8) : Int := ((nx B (dTL B 0).2 % 6 : Nat) : Int) - 1
set_option maxRecDepth 100000 in
theorem recGo_bound : ∀ (f : Nat) (B : List UInt8) (p : Nat) (acc : List ByteArray), acc.length + f ≤ 20 → (∀ s ∈ acc, s.size ≤ 8001) → (recGo f B p acc).length ≤ 20 ∧ ∀ s ∈ recGo f B p acc, s.size ≤ 8001
  | 0, _, _, acc, h, hs => ⟨by show acc.length ≤ 20; omega, hs⟩
  | f + 1, B, p, acc, h, hs => by
    rw [recGo]
    split
    · refine recGo_bound f B _ _ (by simp; omega) ?_
      intro s hm
      rcases List.mem_append.1 hm with h1 | h1
      · exact hs s h1
      · rw [List.mem_singleton] at h1
        rw [h1]; exact payB_size B p
    · exact ⟨by omega, hs⟩
set_option maxRecDepth 100000 in
theorem recs_bound (B : List UInt8) : (recs B).length ≤ 20 ∧ ∀ s ∈ recs B, s.size ≤ 8001 := recGo_bound 20 B _ [] (by simp) (fun s h => by cases h)

theorem strs_off {w w1 : World} {lo b : Nat} {v : Value} {L : List ByteArray} (h : Strs w lo v L) (ho : Off b w w1) (hb : b < lo) : Strs w1 lo v L := by
  refine ⟨h.1, ?_⟩
  rcases h.2 with h0 | ⟨g, cap, cur, hv, hl, hg, rest⟩
  · exact .inl h0
  · refine .inr ⟨g, cap, cur, hv, hl, ?_, rest⟩
    rw [ho.block g (Array.getElem?_eq_some_iff.1 hg).1 (by omega)]; exact hg
set_option maxRecDepth 100000 in
theorem TD.bel {w w1 : World} {N R D : Nat} {m l : ByteArray} {h : Bool} {t x : ByteArray} (d : TD w R D m l h t x) (hb : Below N w w1) (hR : R < N) (hD : D < N) : TD w1 R D m l h t x :=
  ⟨d.1.below hb hD, d.2.1.below hb hR, fun o => (hb.frozen (p := ⟨D, o, none⟩) hD).trans (d.2.2.1 o), fun o => (hb.frozen (p := ⟨R, o, none⟩) hR).trans (d.2.2.2.1 o), Nat.lt_of_lt_of_le d.2.2.2.2.1 hb.size, Nat.lt_of_lt_of_le d.2.2.2.2.2 hb.size⟩

set_option maxRecDepth 100000 in
theorem recGo_stop (f : Nat) (B : List UInt8) (q : Nat) (acc : List ByteArray) (h : ¬ (q < B.length ∧ acc.length < 20)) : recGo f B q acc = acc := by
  cases f
  · rfl
  · rw [recGo, if_neg h]
set_option maxRecDepth 100000 in
theorem rd_drew {w : World} {b p : Nat} {cv : Value} {B : List UInt8} (h : RdAt w b cv B p) (n : Nat) : RdAt (w.drewN n) b cv B p := h
theorem strs_drew {lo : Nat} {v : Value} {L : List ByteArray} {wr : World} (h : Strs wr lo v L) (n : Nat) : Strs (wr.drewN n) lo v L := h
theorem td_drew {w : World} {R D : Nat} {m l : ByteArray} {h : Bool} {t x : ByteArray} (d : TD w R D m l h t x) (n : Nat) : TD (w.drewN n) R D m l h t x := d
set_option maxRecDepth 100000 in
theorem drew_bel {B : Nat} {w wr : World} (h : Below B w wr) (n : Nat) : Below B w (wr.drewN n) := ⟨h.os, h.tape, h.output, h.size, h.block⟩

set_option maxRecDepth 100000 in
set_option maxHeartbeats 4000000 in
set_option maxRecDepth 100000 in
theorem drawCompact (cv : Value) (B : List UInt8) (w : World) (hC : CodeAt w cv B) :
    Calls Tryd.prog 24 #[cv] w fun e w' => (∃ v, e = .returned (.tuple #[.agg #[.string (jR B 0).1, .string (dLoose B 0).1, .bool (dHas B 0), .string (dTemp B 0), .string (dTL B 0).1], v, .int .i64 (drawnSteps B)]) ∧ Strs w' w.heap.size v (recs B)) ∧ Below w.heap.size w w' := by
  have HC : Hid (CodeAt w cv B) := hC
  have hBl := hC.1
  obtain ⟨i0, hi, hz0, hz1, hz2⟩ := info_parts infoStr
  have H0 : Hid (RdAt ((w.alloc (.cells #[.string ⟨#[]⟩, .string ⟨#[]⟩, .bool false, .string ⟨#[]⟩, .string ⟨#[]⟩] 33)).alloc (.cells #[cv, .int .i64 0] 62)) (w.heap.size + 1) cv B 0) := by
    have e := rd_new (w.alloc (.cells #[.string ⟨#[]⟩, .string ⟨#[]⟩, .bool false, .string ⟨#[]⟩, .string ⟨#[]⟩] 33)) cv B (hC.below (below1 w _))
    show RdAt _ _ _ _ _
    simpa using e
  obtain ⟨ca, cc, hcv⟩ := hC.form
  clear hC
  subst hcv
  go_enter Tryd.func24, Tryd.ntmps24
  go_wp2_with fail
  refine (rdDisk _ 0 _ B _ H0.out).mono ?_
  rintro e w1 ⟨rfl, h1, ho1⟩
  have hz1w : w.heap.size + 1 < w1.heap.size := by have := ho1.size; simp at this; omega
  have g1 : Below w.heap.size w w1 := (below2 w _ _).trans ((ho1.below (by simp)).mono (by omega))
  have DR1 : Hid (DiskAt w1 w.heap.size ⟨#[]⟩ ⟨#[]⟩ false ⟨#[]⟩ ⟨#[]⟩ ∧ ∀ o, w1.frozen? ⟨w.heap.size, o, none⟩ = false) := by
    have q : Below (w.heap.size + 1) (w.alloc (.cells #[.string ⟨#[]⟩, .string ⟨#[]⟩, .bool false, .string ⟨#[]⟩, .string ⟨#[]⟩] 33)) w1 := by
      have e1 := below1 (w.alloc (.cells #[.string ⟨#[]⟩, .string ⟨#[]⟩, .bool false, .string ⟨#[]⟩, .string ⟨#[]⟩] 33)) (.cells #[(.slice ca B.length cc), .int .i64 0] 62)
      have e2 : Below (w.heap.size + 1) ((w.alloc (.cells #[.string ⟨#[]⟩, .string ⟨#[]⟩, .bool false, .string ⟨#[]⟩, .string ⟨#[]⟩] 33)).alloc (.cells #[(.slice ca B.length cc), .int .i64 0] 62)) w1 := ho1.below (by simp)
      exact (by simpa using e1 : Below (w.heap.size + 1) (w.alloc (.cells #[.string ⟨#[]⟩, .string ⟨#[]⟩, .bool false, .string ⟨#[]⟩, .string ⟨#[]⟩] 33)) ((w.alloc (.cells #[.string ⟨#[]⟩, .string ⟨#[]⟩, .bool false, .string ⟨#[]⟩, .string ⟨#[]⟩] 33)).alloc (.cells #[(.slice ca B.length cc), .int .i64 0] 62))).trans e2
    exact ⟨(diskAt_new w ⟨#[]⟩ ⟨#[]⟩ false ⟨#[]⟩ ⟨#[]⟩ _).below q (by omega), fun o => (q.frozen (p := ⟨w.heap.size, o, none⟩) (by show w.heap.size < _; omega)).trans (World.frozen?_alloc_at _ _ _ _ rfl)⟩
  obtain ⟨m, Hm⟩ : ∃ m, Hid ((jR B 0).1 = m) := ⟨_, rfl⟩
  obtain ⟨l, Hl⟩ : ∃ l, Hid ((dLoose B 0).1 = l) := ⟨_, rfl⟩
  obtain ⟨h, Hh⟩ : ∃ h, Hid (dHas B 0 = h) := ⟨_, rfl⟩
  obtain ⟨t, Ht⟩ : ∃ t, Hid (dTemp B 0 = t) := ⟨_, rfl⟩
  obtain ⟨x, Hx⟩ : ∃ x, Hid ((dTL B 0).1 = x) := ⟨_, rfl⟩
  obtain ⟨p1, HP1⟩ : ∃ p1, Hid ((dTL B 0).2 = p1) := ⟨_, rfl⟩
  rw [Hm.out, Hl.out, Hh.out, Ht.out, Hx.out]
  rw [HP1.out] at h1
  have HE1 : Hid (RdAt w1 (w.heap.size + 1) (.slice ca B.length cc) B p1) := h1
  have H1 : Hid (RdAt (w1.alloc (.cells #[.string m, .string l, .bool h, .string t, .string x] 33)) (w.heap.size + 1) (.slice ca B.length cc) B p1) := h1.below (below1 w1 _) (Nat.le_refl _)
  clear h1 ho1 H0
  go_wp2_with fail
  refine (rdNext _ p1 _ B _ H1.out).mono ?_
  rintro e w2 ⟨rfl, h2, ho2⟩
  have hz2w : w1.heap.size < w2.heap.size := by have := ho2.size; simp at this; omega
  have q12 : Off (w.heap.size + 1) w1 w2 := (Off.of_below (below1 w1 _)).trans ho2
  have HD2 : Hid (TD w2 w.heap.size w1.heap.size m l h t x) :=
    ⟨diskAt_off (diskAt_new w1 m l h t x _) ho2 (by simp) (by omega), diskAt_off DR1.out.1 q12 (by omega) (by omega), fun o => (ho2.frozen (by simp) (by omega)).trans (World.frozen?_alloc_at _ _ _ _ rfl), fun o => (q12.frozen (by omega) (by omega)).trans (DR1.out.2 o), hz2w, by omega⟩
  have g2 : Below w.heap.size w w2 := g1.trans ((q12.below (by omega)).mono (by omega))
  have hnc := nx_lt B p1
  obtain ⟨c, HCc⟩ : ∃ c, Hid (nx B p1 = c) := ⟨_, rfl⟩
  obtain ⟨p2, HP2⟩ : ∃ p2, Hid (px B p1 = p2) := ⟨_, rfl⟩
  rw [HCc.out] at hnc ⊢
  rw [HP2.out] at h2
  have H2 : Hid (RdAt w2 (w.heap.size + 1) (.slice ca B.length cc) B p2) := h2
  have HRc : Hid (recGo 20 B p2 [] = recs B) := by show _ = _; rw [recs, HP1.out, HP2.out]
  have HSt : Hid (drawnSteps B = (c : Int) % 6 - 1) := by show _ = _; rw [drawnSteps, HP1.out, HCc.out]; simp
  clear h2 ho2 H1 q12 DR1 g1
  go_wp2
  go_loopw [8] (fun v wr => ∃ (q f : Nat) (acc : List ByteArray), acc.length + f = 20 ∧ lenOf v = acc.length ∧ Hid (recGo f B q acc = recs B) ∧ Strs wr (w1.heap.size + 1) v acc ∧ Hid (RdAt wr (w.heap.size + 1) (.slice ca B.length cc) B q) ∧ Hid (TD wr w.heap.size w1.heap.size m l h t x) ∧ Below w.heap.size w wr ∧ w2.heap.size ≤ wr.heap.size) (fun v _ => 20 - lenOf v)
  case atStart => exact ⟨p2, 20, [], by simp, rfl, HRc, World.ownsRow_nil _ _ _ _, H2, HD2, g2, Nat.le_refl _⟩
  case round =>
    obtain ⟨q, f, acc, hf, hlv, HG, hS, HR, HD, hb, hzr⟩ := hrel
    have HRw := HR.out
    have hq := HRw.2.2.2.2.1
    obtain ⟨a8, c8, hv8⟩ : ∃ a8 c8, u8 = .slice a8 acc.length c8 := by
      rcases hS.cases with ⟨rfl, rfl⟩ | ⟨g, cap, rfl, _⟩
      · exact ⟨_, _, rfl⟩
      · exact ⟨_, _, rfl⟩
    have HlT : Hid (lenOf u8 = acc.length) := hlv
    subst hv8
    clear hlv
    have hS' := hS
    by_cases hcond : q < B.length ∧ acc.length < 20
    · obtain ⟨hq1, hl20⟩ := hcond
      have HG2 : Hid (recGo (f - 1) B (payP B q) (acc ++ [payB B q]) = recs B) := by
        show _ = _
        rw [← HG.out]
        obtain ⟨f', rfl⟩ : ∃ f', f = f' + 1 := ⟨f - 1, by omega⟩
        rw [recGo, if_pos ⟨hq1, hl20⟩]
        rfl
      clear HRw hS'
      go_wp2_with fail
      refine (rdLeft _ q _ B _ HR.out).mono ?_
      rintro e wd ⟨rfl, nd, rfl⟩
      go_wp2_with fail
      refine (rdPay _ q _ B _ (rd_drew HR.out nd)).mono ?_
      rintro e w4 ⟨rfl, h4, ho4⟩
      have HR4 : Hid (RdAt w4 (w.heap.size + 1) (.slice ca B.length cc) B (payP B q)) := h4
      have hz4 : wr.heap.size ≤ w4.heap.size := ho4.size
      have S4 : Strs w4 (w1.heap.size + 1) (.slice a8 acc.length c8) acc := strs_off (strs_drew hS nd) ho4 (by omega)
      have HD4 : Hid (TD w4 w.heap.size w1.heap.size m l h t x) := (td_drew HD.out nd).off ho4 (by omega) (by omega)
      have hb4 : Below w.heap.size w w4 := (drew_bel hb nd).trans ((ho4.below (by show _ ≤ wr.heap.size; omega)).mono (by omega))
      have hown' : w4.ownsRow (w1.heap.size + 1) 9 1 (.slice a8 acc.length c8) acc.length (acc.map Value.string) := S4
      have hlos := strs_lo S4
      generalize payB B q = Y at HG2 ⊢
      generalize payP B q = q4 at HG2 HR4
      clear h4 ho4 hS HR HD HG S4
      go_wp2_with (at_builtin; refine wpList_append_lies _ rfl _ _ 34 rfl (w1.heap.size + 1) 9 i0 (.string ⟨#[]⟩) 1 16 Tryd.underlying34 hi hz0 hz1 hz2 rfl (by decide) _ _ _ rfl (hown'.alloc _) ⟨w4.heap.size, 0, none⟩ 1 1 [.string Y] rfl rfl ?c1 ?c2 ?c3 ?c4 ?c5 ?c6 (w4.heap.size + 1) ?c7 ?_)
      case c1 =>
        intro j u hj
        match j, hj with
        | 0, hj =>
          simp at hj; subst hj
          simp only [Addr.add, if_pos]
          exact World.cell?_alloc_mark w4 _ _ _ 0
      case c2 => intro u hu; simp at hu; subst hu; rfl
      case c3 => decide
      case c4 => unfold maxLen; omega
      case c5 => omega
      case c6 => simp; omega
      case c7 => simp
      intro g cap w5 hown5 hgrow hat hlt5
      have HS5 : Hid (Strs w5 (w1.heap.size + 1) (.slice (some ⟨g, 0, none⟩) (acc.length + 1) cap) (acc ++ [Y])) := strs_snoc hown5
      have hb5 : Below (w1.heap.size + 1) w4 w5 := ((Below.refl _ w4).alloc (by omega) _).grown hgrow (by simp; omega) hlos
      have HR5 : Hid (RdAt w5 (w.heap.size + 1) (.slice ca B.length cc) B q4) := HE1.out.carry HR4.out (hb5.mono (by omega))
      clear hown5 hgrow hat hown' hlos
      go_wp2
      go_roundw
      case rel => exact ⟨q4, f - 1, acc ++ [Y], by simp; omega, by simp [lenOf], HG2, HS5.out, HR5, HD4.out.bel hb5 (by omega) (by omega), hb4.trans (hb5.mono (by omega)), by have := hb5.size; omega⟩
      case measure => simp [lenOf]; omega
    · have hstop := hcond
      by_cases hq1 : q < B.length
      · have hl20 : 20 ≤ acc.length := by omega
        clear hcond
        have HSt2 : Hid (¬ (q < B.length ∧ acc.length < 20)) := hstop
        clear hstop
        go_wp2_with fail
        refine (rdLeft _ q _ B _ HR.out).mono ?_
        rintro e wd ⟨rfl, nd, rfl⟩
        have hstop := HSt2.out
        have HE : Hid (acc = recs B) := by
          show acc = _
          rw [← HG.out]
          exact (recGo_stop f B q acc hstop).symm
        clear hstop
        obtain ⟨⟨c0, c1, c2, c3, c4⟩, ⟨d0, d1, d2, d3, d4⟩, f0, f1, hzD, hzR⟩ := HD.out
        clear HG hS' HRw
        go_wp2
        refine bodyPost_ret (v := .tuple #[.agg #[.string m, .string l, .bool h, .string t, .string x], .slice a8 acc.length c8, .int .i64 ((c : Int) % 6 - 1)]) (by simp [results, Tryd.results24, go_sem, d0, d1, d2, d3, d4]) rfl ⟨⟨.slice a8 acc.length c8, ?_, ?_⟩, ?_⟩
        · rw [Hm.out, Hl.out, Hh.out, Ht.out, Hx.out, HSt.out]
        · rw [← HE.out]
          refine strs_le (lo := w1.heap.size + 1) ?_ (by omega)
          repeat (refine strs_setCell ?_ (by show w.heap.size < _; omega) _)
          exact hS
        · repeat (refine Below.setCell ?_ (by simp) _)
          exact drew_bel hb _
      · clear hcond
        have HSt2 : Hid (¬ (q < B.length ∧ acc.length < 20)) := hstop
        clear hstop
        go_wp2_with fail
        refine (rdLeft _ q _ B _ HR.out).mono ?_
        rintro e wd ⟨rfl, nd, rfl⟩
        have hstop := HSt2.out
        have HE : Hid (acc = recs B) := by
          show acc = _
          rw [← HG.out]
          exact (recGo_stop f B q acc hstop).symm
        clear hstop
        obtain ⟨⟨c0, c1, c2, c3, c4⟩, ⟨d0, d1, d2, d3, d4⟩, f0, f1, hzD, hzR⟩ := HD.out
        clear HG hS' HRw
        go_wp2
        refine bodyPost_ret (v := .tuple #[.agg #[.string m, .string l, .bool h, .string t, .string x], .slice a8 acc.length c8, .int .i64 ((c : Int) % 6 - 1)]) (by simp [results, Tryd.results24, go_sem, d0, d1, d2, d3, d4]) rfl ⟨⟨.slice a8 acc.length c8, ?_, ?_⟩, ?_⟩
        · rw [Hm.out, Hl.out, Hh.out, Ht.out, Hx.out, HSt.out]
        · rw [← HE.out]
          refine strs_le (lo := w1.heap.size + 1) ?_ (by omega)
          repeat (refine strs_setCell ?_ (by show w.heap.size < _; omega) _)
          exact hS
        · repeat (refine Below.setCell ?_ (by simp) _)
          exact drew_bel hb _

set_option maxRecDepth 100000 in
set_option maxHeartbeats 4000000 in
set_option maxRecDepth 100000 in
theorem drawMount (cv : Value) (B : List UInt8) (w : World) (hC : CodeAt w cv B) :
    Calls Tryd.prog 31 #[cv] w fun e w' => e = .returned (.agg #[.string (jR B 0).1, .string (dLoose B 0).1, .bool (dHas B 0), .string (dTemp B 0), .string (dTL B 0).1]) ∧ Below w.heap.size w w' := by
  obtain ⟨ca, cc, hcv⟩ := hC.form
  subst hcv
  have H0 : Hid (RdAt ((w.alloc (.cells #[.string ⟨#[]⟩, .string ⟨#[]⟩, .bool false, .string ⟨#[]⟩, .string ⟨#[]⟩] 33)).alloc (.cells #[(.slice ca B.length cc), .int .i64 0] 62)) (w.heap.size + 1) (.slice ca B.length cc) B 0) := by
    have e := rd_new (w.alloc (.cells #[.string ⟨#[]⟩, .string ⟨#[]⟩, .bool false, .string ⟨#[]⟩, .string ⟨#[]⟩] 33)) (.slice ca B.length cc) B (hC.below (below1 w _))
    show RdAt _ _ _ _ _
    simpa using e
  clear hC
  go_enter Tryd.func31, Tryd.ntmps31
  go_wp2_with fail
  refine (rdDisk _ 0 _ B _ H0.out).mono ?_
  rintro e w1 ⟨rfl, h1, ho1⟩
  have hz1w : w.heap.size + 1 < w1.heap.size := by have := ho1.size; simp at this; omega
  have g1 : Below w.heap.size w w1 := (below2 w _ _).trans ((ho1.below (by simp)).mono (by omega))
  have DR1 : DiskAt w1 w.heap.size ⟨#[]⟩ ⟨#[]⟩ false ⟨#[]⟩ ⟨#[]⟩ ∧ ∀ o, w1.frozen? ⟨w.heap.size, o, none⟩ = false := by
    have q : Below (w.heap.size + 1) (w.alloc (.cells #[.string ⟨#[]⟩, .string ⟨#[]⟩, .bool false, .string ⟨#[]⟩, .string ⟨#[]⟩] 33)) w1 := by
      have e1 := below1 (w.alloc (.cells #[.string ⟨#[]⟩, .string ⟨#[]⟩, .bool false, .string ⟨#[]⟩, .string ⟨#[]⟩] 33)) (.cells #[(.slice ca B.length cc), .int .i64 0] 62)
      have e2 : Below (w.heap.size + 1) ((w.alloc (.cells #[.string ⟨#[]⟩, .string ⟨#[]⟩, .bool false, .string ⟨#[]⟩, .string ⟨#[]⟩] 33)).alloc (.cells #[(.slice ca B.length cc), .int .i64 0] 62)) w1 := ho1.below (by simp)
      exact (by simpa using e1 : Below (w.heap.size + 1) (w.alloc (.cells #[.string ⟨#[]⟩, .string ⟨#[]⟩, .bool false, .string ⟨#[]⟩, .string ⟨#[]⟩] 33)) ((w.alloc (.cells #[.string ⟨#[]⟩, .string ⟨#[]⟩, .bool false, .string ⟨#[]⟩, .string ⟨#[]⟩] 33)).alloc (.cells #[(.slice ca B.length cc), .int .i64 0] 62))).trans e2
    exact ⟨(diskAt_new w ⟨#[]⟩ ⟨#[]⟩ false ⟨#[]⟩ ⟨#[]⟩ _).below q (by omega), fun o => (q.frozen (p := ⟨w.heap.size, o, none⟩) (by show w.heap.size < _; omega)).trans (World.frozen?_alloc_at _ _ _ _ rfl)⟩
  obtain ⟨⟨d0, d1, d2, d3, d4⟩, f1⟩ := DR1
  clear h1 ho1 H0
  go_wp2
  refine bodyPost_ret (v := .agg #[.string (jR B 0).1, .string (dLoose B 0).1, .bool (dHas B 0), .string (dTemp B 0), .string (dTL B 0).1]) (by simp [results, Tryd.results31, go_sem, d0, d1, d2, d3, d4]) rfl ⟨rfl, ?_⟩
  repeat (refine Below.setCell ?_ (by simp) _)
  exact g1
end Go.Proofs.YticfnfplpccmgadDoor
