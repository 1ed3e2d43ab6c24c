import Derived.Test.YtngcjlghjidnjaaGreatDoorMg30
import Derived.Laws.EntriesVeiled
namespace Go.Proofs.YtngcjlghjidnjaaGreatDoor
open Go.ChangeShapes Go.WideShapes Go.ChangeAt Go.RowKit
attribute [local go_sem ↓] Go.wp_at_zero Go.wp_at_succ

theorem Sn.Ok.zero {s : Sn} (h : s.Ok) : Sn.Ok { s with nx := 0 } := ⟨h.p1, h.p9, h.t, h.v, h.r1, h.r20, Nat.zero_le _, fun _ => h.r1, h.he, h.fr, h.bo, h.rs, h.bf⟩
set_option maxHeartbeats 4000000 in
set_option maxRecDepth 100000 in
theorem implAsk (b : Nat) (w0 : World) (u1 u2 u3 : Value) (s : Sn) (t : ByteArray) (w : World) (hl : LenIn w0) (hk : s.Ok) (hn : s.nx < s.R.length) (hz : t.size ≤ 700000000) (h : DB b w0 u1 u2 u3 s t w) :
    Calls Tryz.prog 144 #[.pointer (some ⟨b, 0, none⟩)] w fun e w' => DP b w0 u1 u2 u3 (s.to 5) (t ++ cmdB 4 (s.R.getD s.nx ⟨#[]⟩)) w e w' := by
  have H : Hid (DB b w0 u1 u2 u3 s t w) := h
  have bl : b < w.heap.size := h.blk.lt
  obtain ⟨g1, g2, g3, k1, k2, k3, rfl, rfl, rfl⟩ := h.sv.some hk
  have SA := h.sv.1.at.1
  have gl : g1 < w.heap.size := SA.lt
  have x2 : w.cell? ⟨g1, s.nx, none⟩ = some (.string (s.R.getD s.nx ⟨#[]⟩)) := by
    rw [SA.cell s.nx hn, List.getD_eq_getElem?_getD, List.getElem?_eq_getElem hn]; rfl
  have hx : (s.R.getD s.nx ⟨#[]⟩).size ≤ 160 := by
    rw [List.getD_eq_getElem?_getD, List.getElem?_eq_getElem hn]
    exact hk.rs _ (List.getElem_mem hn)
  have hX := cmd_size 4 (s.R.getD s.nx ⟨#[]⟩)
  have x0 : w.cell? ⟨b, 5, none⟩ = some (.slice (some ⟨g1, 0, none⟩) s.R.length k1) := h.blk.cell 5
  have x1 : w.cell? ⟨b, 6, none⟩ = some (.int .i64 (s.nx : Int)) := h.blk.cell 6
  have HCX : Hid (∀ wx, Below w.heap.size w wx → Calls Tryz.prog 12 #[.int .i64 4, .string (s.R.getD s.nx ⟨#[]⟩)] wx fun e w' => e = .returned (.string (cmdB 4 (s.R.getD s.nx ⟨#[]⟩))) ∧ Below wx.heap.size wx w') := fun wx hb => implCommand 4 _ wx (len_below hl (h.bel.trans (hb.mono h.bel.size))) (by omega)
  have HBH : Hid (∀ wx, Below w.heap.size w wx → Calls Tryz.prog 142 #[.pointer (some ⟨b, 0, none⟩), .string (cmdB 4 (s.R.getD s.nx ⟨#[]⟩)), .int .i64 5] wx fun e w' => DP b w0 (.slice (some ⟨g1, 0, none⟩) s.R.length k1) (.slice (some ⟨g2, 0, none⟩) s.R.length k2) (.slice (some ⟨g3, 0, none⟩) s.R.length k3) (s.to 5) (t ++ cmdB 4 (s.R.getD s.nx ⟨#[]⟩)) wx e w') := fun wx hb => implSay b w0 _ _ _ s t _ 5 wx (by omega) (h.below hb)
  have gn1 : g1 ≠ b := own_ne h.a1 g1 rfl
  have gn2 : g1 ≠ g2 := h.sv.apart.1 g1 g2 rfl rfl
  have gn3 : g1 ≠ g3 := h.sv.apart.2.1 g1 g3 rfl rfl
  clear h hk SA hX hx
  generalize cmdB 4 (s.R.getD s.nx ⟨#[]⟩) = X at *
  generalize s.R.getD s.nx ⟨#[]⟩ = Y at *
  have i0 : (0 : Int) ≤ (s.nx : Int) := by omega
  have i1 : (s.nx : Int) < (s.R.length : Int) := by omega
  go_enter Tryz.func144, Tryz.ntmps144
  go_region_held3 (fun w' => w'.cell? ⟨b, 5, none⟩ = some (.slice (some ⟨g1, 0, none⟩) s.R.length k1) ∧ w'.cell? ⟨b, 6, none⟩ = some (.int .i64 (s.nx : Int)) ∧ w'.cell? ⟨g1, s.nx, none⟩ = some (.string Y)) (first | assumption | (exact ⟨e0, e1, e2⟩) | (exact ⟨l0, l1, l2⟩) | go_keep) (first | (go_at_call 12; refine (HCX.out _ (by repeat (first | exact Below.refl _ _ | refine Below.drew ?_))).mono ?_; rintro e w1 ⟨rfl, hb1⟩; have HB1 : Hid (Below w.heap.size w w1) := ((Below.refl w.heap.size w).drew).trans hb1; have e0 := (HB1.out.cell (p := ⟨b, 5, none⟩) bl).trans x0; have e1 := (HB1.out.cell (p := ⟨b, 6, none⟩) bl).trans x1; have e2 := (HB1.out.cell (p := ⟨g1, s.nx, none⟩) gl).trans x2; clear hb1) | (go_at_call 142; refine (HBH.out _ HB1.out).mono ?_; rintro e w2 ⟨rfl, D2, O2⟩; have HD2 : Hid (DB b w0 (.slice (some ⟨g1, 0, none⟩) s.R.length k1) (.slice (some ⟨g2, 0, none⟩) s.R.length k2) (.slice (some ⟨g3, 0, none⟩) s.R.length k3) (s.to 5) (t ++ X) w2) := D2; have l0 : w2.cell? ⟨b, 5, none⟩ = some (.slice (some ⟨g1, 0, none⟩) s.R.length k1) := HD2.out.blk.cell 5; have l1 : w2.cell? ⟨b, 6, none⟩ = some (.int .i64 (s.nx : Int)) := HD2.out.blk.cell 6; have l2 : w2.cell? ⟨g1, s.nx, none⟩ = some (.string Y) := (OffL.cell O2 (Nat.lt_of_lt_of_le gl HB1.out.size) (by intro u hu; simp only [List.mem_cons, List.not_mem_nil, or_false] at hu; rcases hu with rfl | rfl | rfl <;> (intro e; injection e with e; dsimp only at e; omega))).trans e2; have HO2 : Hid (DO b (.slice (some ⟨g2, 0, none⟩) s.R.length k2) (.slice (some ⟨g3, 0, none⟩) s.R.length k3) w w2) := (DO.of_below HB1.out).trans O2; clear D2 O2))
  all_goals
    go_wp2
    refine bodyPost_ret (v := .tuple #[]) (by simp [results, Tryz.results144, go_sem]) rfl ?_
    exact ⟨rfl, HD2.out, HO2.out⟩

set_option maxHeartbeats 4000000 in
set_option maxRecDepth 100000 in
theorem implTMail (b : Nat) (w0 : World) (u1 u2 u3 : Value) (s : Sn) (t : ByteArray) (c : Nat) (v : Value) (L : List ByteArray) (lo : Nat) (P : Sn × ByteArray) (w : World) (hl : LenIn w0) (hk : s.Ok) (hz : t.size ≤ 700000000) (hS : Strs w lo v L) (h1 : 1 ≤ L.length) (h : DB b w0 u1 u2 u3 s t w)
    (hP : (c = 250 ∧ P = ({ s.to 5 with nx := 0 }, cmdB 4 (s.R.getD 0 ⟨#[]⟩))) ∨ (c ≠ 250 ∧ P = s.quit (refV c (L.getD 0 ⟨#[]⟩)))) :
    Calls Tryz.prog 116 #[.pointer (some ⟨b, 0, none⟩), .agg #[.int .i64 (c : Int), v]] w fun e w' => DP b w0 u1 u2 u3 P.1 (t ++ P.2) w e w' := by
  have H : Hid (DB b w0 u1 u2 u3 s t w) := h
  have HK : Hid s.Ok := hk
  have HS : Hid (Strs w lo v L) := hS
  have bl : b < w.heap.size := h.blk.lt
  clear h hk hS
  rcases hP with ⟨hc, rfl⟩ | ⟨hc, rfl⟩
  · subst hc
    have c6 : w.cell? ⟨b, 6, none⟩ = some (.int .i64 (s.nx : Int)) := H.out.blk.cell 6
    have f6 : w.frozen? ⟨b, 6, none⟩ = false := H.out.blk.free 6
    go_enter Tryz.func116, Tryz.ntmps116
    go_wp2_with fail
    refine (implAsk b w0 u1 u2 u3 { s with nx := 0 } t _ hl HK.out.zero HK.out.r1 hz ((H.out.nx 0).below (below1 _ _))).mono ?_
    rintro e w2 ⟨rfl, D2, O2⟩
    go_wp2
    refine bodyPost_ret (v := .tuple #[]) (by simp [results, Tryz.results116, go_sem]) rfl ?_
    exact ⟨rfl, D2, (((DO.of_below (Below.refl _ _)).put 6 _).trans (DO.of_below (below1 _ _))).trans O2⟩
  · have hcb : (((c : Nat) : Int) == 250) = false := beq_eq_false_iff_ne.2 (by omega)
    clear hc
    go_enter Tryz.func116, Tryz.ntmps116
    go_wp2_with fail
    refine (implNo c v L lo _ (strs_below HS.out (below1 _ _) (Nat.le_refl _)) h1).mono ?_
    rintro e w1 ⟨rfl, hb1⟩
    have b1 : Below w.heap.size w w1 := (below1 w _).trans (hb1.mono (by simp))
    go_wp2_with fail
    refine (implGive b w0 u1 u2 u3 s t _ w1 hl HK.out (by omega) (H.out.below b1)).mono ?_
    rintro e w2 ⟨rfl, D2, O2⟩
    go_wp2
    refine bodyPost_ret (v := .tuple #[]) (by simp [results, Tryz.results116, go_sem]) rfl ?_
    exact ⟨rfl, D2, (DO.of_below b1).trans O2⟩

set_option maxHeartbeats 4000000 in
set_option maxRecDepth 100000 in
theorem implDot (b : Nat) (w0 : World) (u1 u2 u3 : Value) (s : Sn) (t : ByteArray) (c : Nat) (v : Value) (L : List ByteArray) (lo : Nat) (P : Sn × ByteArray) (w : World) (hl : LenIn w0) (hk : s.Ok) (hz : t.size ≤ 700000000) (hS : Strs w lo v L) (h1 : 1 ≤ L.length) (h : DB b w0 u1 u2 u3 s t w)
    (hP : (c = 250 ∧ P = s.quit (1, 250, L.getD 0 ⟨#[]⟩)) ∨ (c ≠ 250 ∧ P = s.quit (refV c (L.getD 0 ⟨#[]⟩)))) :
    Calls Tryz.prog 119 #[.pointer (some ⟨b, 0, none⟩), .agg #[.int .i64 (c : Int), v]] w fun e w' => DP b w0 u1 u2 u3 P.1 (t ++ P.2) w e w' := by
  have H : Hid (DB b w0 u1 u2 u3 s t w) := h
  have HK : Hid s.Ok := hk
  have HS : Hid (Strs w lo v L) := hS
  clear h hk hS
  rcases hP with ⟨hc, rfl⟩ | ⟨hc, rfl⟩
  · subst hc
    obtain ⟨g, k, rfl, h0, hg, _⟩ := first_str HS.out h1
    go_enter Tryz.func119, Tryz.ntmps119
    go_wp2_with fail
    refine (implDecide b w0 u1 u2 u3 s t (1, 250, L.getD 0 ⟨#[]⟩) _ HK.out (H.out.below (below1 _ _))).mono ?_
    rintro e w1 ⟨rfl, D1, O1⟩
    go_wp2_with fail
    refine (implQuit b w0 u1 u2 u3 _ t w1 hl (by omega) D1).mono ?_
    rintro e w2 ⟨rfl, D2, O2⟩
    go_wp2
    refine bodyPost_ret (v := .tuple #[]) (by simp [results, Tryz.results119, go_sem]) rfl ?_
    exact ⟨rfl, D2, ((DO.of_below (below1 _ _)).trans O1).trans O2⟩
  · have hcb : (((c : Nat) : Int) == 250) = false := beq_eq_false_iff_ne.2 (by omega)
    clear hc
    go_enter Tryz.func119, Tryz.ntmps119
    go_wp2_with fail
    refine (implNo c v L lo _ (strs_below HS.out (below1 _ _) (Nat.le_refl _)) h1).mono ?_
    rintro e w1 ⟨rfl, hb1⟩
    have b1 : Below w.heap.size w w1 := (below1 w _).trans (hb1.mono (by simp))
    go_wp2_with fail
    refine (implGive b w0 u1 u2 u3 s t _ w1 hl HK.out (by omega) (H.out.below b1)).mono ?_
    rintro e w2 ⟨rfl, D2, O2⟩
    go_wp2
    refine bodyPost_ret (v := .tuple #[]) (by simp [results, Tryz.results119, go_sem]) rfl ?_
    exact ⟨rfl, D2, (DO.of_below b1).trans O2⟩

set_option maxHeartbeats 4000000 in
set_option maxRecDepth 100000 in
theorem implTQuit (b : Nat) (w0 : World) (u1 u2 u3 : Value) (s : Sn) (t : ByteArray) (c : Int) (v : Value) (w : World) (h : DB b w0 u1 u2 u3 s t w) :
    Calls Tryz.prog 120 #[.pointer (some ⟨b, 0, none⟩), .agg #[.int .i64 c, v]] w fun e w' => DP b w0 u1 u2 u3 (s.to 9) t w e w' := by
  have H : Hid (DB b w0 u1 u2 u3 s t w) := h
  have c0 : w.cell? ⟨b, 0, none⟩ = some (.int .i64 s.ph) := h.blk.cell 0
  have f0 : w.frozen? ⟨b, 0, none⟩ = false := h.blk.free 0
  have bl : b < w.heap.size := h.blk.lt
  clear h
  go_enter Tryz.func120, Tryz.ntmps120
  go_wp2
  refine bodyPost_ret (v := .tuple #[]) (by simp [results, Tryz.results120, go_sem]) rfl ?_
  exact ⟨rfl, (H.out.ph 9).below (below1 _ _), ((DO.of_below (Below.refl _ _)).put 0 _).trans (DO.of_below (below1 _ _))⟩
end Go.Proofs.YtngcjlghjidnjaaGreatDoor
namespace Go.Proofs.YtngcjlghjidnjaaGreatDoor
open Go.ChangeShapes Go.WideShapes Go.ChangeAt Go.RowKit
attribute [local go_sem ↓] Go.wp_at_zero Go.wp_at_succ

set_option maxHeartbeats 4000000 in
set_option maxRecDepth 100000 in
theorem implTake1 (b : Nat) (w0 : World) (u1 u2 u3 : Value) (s : Sn) (t : ByteArray) (c : Nat) (v : Value) (P : Sn × ByteArray) (w : World) (hp : s.ph = 1) (h : DB b w0 u1 u2 u3 s t w) (hb : ((c : Int) == 421) = false) (hM : ∀ wx, Below w.heap.size w wx → Calls Tryz.prog 113 #[.pointer (some ⟨b, 0, none⟩), .agg #[.int .i64 (c : Int), v]] wx fun e w' => DP b w0 u1 u2 u3 P.1 (t ++ P.2) wx e w') :
    Calls Tryz.prog 86 #[.pointer (some ⟨b, 0, none⟩), .agg #[.int .i64 (c : Int), v]] w fun e w' => DP b w0 u1 u2 u3 P.1 (t ++ P.2) w e w' := by
  have h0 : w.cell? ⟨b, 0, none⟩ = some (.int .i64 1) := by
    have := h.blk.cell 0
    rw [this]
    show some (Value.int .i64 s.ph) = _
    rw [hp]
  have bl : b < w.heap.size := h.blk.lt
  have HM : Hid (∀ wx, Below w.heap.size w wx → Calls Tryz.prog 113 #[.pointer (some ⟨b, 0, none⟩), .agg #[.int .i64 (c : Int), v]] wx fun e w' => DP b w0 u1 u2 u3 P.1 (t ++ P.2) wx e w') := hM
  clear hM hp h
  have hmf : ∀ (fn : Fn) (first cap : Array Value) (w : World), (Instr.makeFunc fn first cap).run Tryz.prog w = .ok (.func fn first cap) w := fun _ _ _ _ => rfl
  go_enter Tryz.func86, Tryz.ntmps86
  go_upto_region 5 with fail
  generalize hW : World.alloc _ _ = W
  have b0 : Below w.heap.size w W := by rw [← hW]; exact below2 _ _ _
  have HR : Hid (Blk w.heap.size #[.int .i64 (c : Int), v] W) := by show Blk _ _ _; rw [← hW]; exact (blk2 w _ _ _ _).1
  have HA : W.cell? ⟨w.heap.size + 1, 1, none⟩ = some (.func (.func 113) #[.pointer (some ⟨b, 0, none⟩)] #[]) := by rw [← hW]; exact (blk2 w _ _ _ _).2.cell 1
  have x0 : W.cell? ⟨b, 0, none⟩ = some (.int .i64 1) := (b0.cell (p := ⟨b, 0, none⟩) bl).trans h0
  have y0 : W.cell? ⟨w.heap.size, 0, none⟩ = some (.int .i64 (c : Int)) := HR.out.cell 0
  have y1 : W.cell? ⟨w.heap.size, 1, none⟩ = some v := HR.out.cell 1
  clear hW

  go_region_with (first | (go_at_call 113; refine (HM.out _ (b0.trans (by repeat (first | exact Below.refl _ _ | refine Below.drew ?_)))).mono ?_; rintro e w2 ⟨rfl, D2, O2⟩; have HD2 : Hid (DB b w0 u1 u2 u3 P.1 (t ++ P.2) w2) := D2; have HO2 : Hid (DO b u2 u3 w w2) := ((DO.of_below b0).trans (DO.of_below (by repeat (first | exact Below.refl _ _ | refine Below.drew ?_)))).trans O2; clear D2 O2))
  all_goals
    go_wp2
    refine bodyPost_ret (v := .tuple #[]) (by simp [results, Tryz.results86, go_sem]) rfl ?_
    exact ⟨rfl, HD2.out, HO2.out⟩

set_option maxHeartbeats 4000000 in
set_option maxRecDepth 100000 in
theorem implTake2 (b : Nat) (w0 : World) (u1 u2 u3 : Value) (s : Sn) (t : ByteArray) (c : Nat) (v : Value) (P : Sn × ByteArray) (w : World) (hp : s.ph = 2) (h : DB b w0 u1 u2 u3 s t w) (hb : ((c : Int) == 421) = false) (hM : ∀ wx, Below w.heap.size w wx → Calls Tryz.prog 114 #[.pointer (some ⟨b, 0, none⟩), .agg #[.int .i64 (c : Int), v]] wx fun e w' => DP b w0 u1 u2 u3 P.1 (t ++ P.2) wx e w') :
    Calls Tryz.prog 86 #[.pointer (some ⟨b, 0, none⟩), .agg #[.int .i64 (c : Int), v]] w fun e w' => DP b w0 u1 u2 u3 P.1 (t ++ P.2) w e w' := by
  have h0 : w.cell? ⟨b, 0, none⟩ = some (.int .i64 2) := by
    have := h.blk.cell 0
    rw [this]
    show some (Value.int .i64 s.ph) = _
    rw [hp]
  have bl : b < w.heap.size := h.blk.lt
  have HM : Hid (∀ wx, Below w.heap.size w wx → Calls Tryz.prog 114 #[.pointer (some ⟨b, 0, none⟩), .agg #[.int .i64 (c : Int), v]] wx fun e w' => DP b w0 u1 u2 u3 P.1 (t ++ P.2) wx e w') := hM
  clear hM hp h
  have hmf : ∀ (fn : Fn) (first cap : Array Value) (w : World), (Instr.makeFunc fn first cap).run Tryz.prog w = .ok (.func fn first cap) w := fun _ _ _ _ => rfl
  go_enter Tryz.func86, Tryz.ntmps86
  go_upto_region 5 with fail
  generalize hW : World.alloc _ _ = W
  have b0 : Below w.heap.size w W := by rw [← hW]; exact below2 _ _ _
  have HR : Hid (Blk w.heap.size #[.int .i64 (c : Int), v] W) := by show Blk _ _ _; rw [← hW]; exact (blk2 w _ _ _ _).1
  have HA : W.cell? ⟨w.heap.size + 1, 2, none⟩ = some (.func (.func 114) #[.pointer (some ⟨b, 0, none⟩)] #[]) := by rw [← hW]; exact (blk2 w _ _ _ _).2.cell 2
  have x0 : W.cell? ⟨b, 0, none⟩ = some (.int .i64 2) := (b0.cell (p := ⟨b, 0, none⟩) bl).trans h0
  have y0 : W.cell? ⟨w.heap.size, 0, none⟩ = some (.int .i64 (c : Int)) := HR.out.cell 0
  have y1 : W.cell? ⟨w.heap.size, 1, none⟩ = some v := HR.out.cell 1
  clear hW

  go_region_with (first | (go_at_call 114; refine (HM.out _ (b0.trans (by repeat (first | exact Below.refl _ _ | refine Below.drew ?_)))).mono ?_; rintro e w2 ⟨rfl, D2, O2⟩; have HD2 : Hid (DB b w0 u1 u2 u3 P.1 (t ++ P.2) w2) := D2; have HO2 : Hid (DO b u2 u3 w w2) := ((DO.of_below b0).trans (DO.of_below (by repeat (first | exact Below.refl _ _ | refine Below.drew ?_)))).trans O2; clear D2 O2))
  all_goals
    go_wp2
    refine bodyPost_ret (v := .tuple #[]) (by simp [results, Tryz.results86, go_sem]) rfl ?_
    exact ⟨rfl, HD2.out, HO2.out⟩

set_option maxHeartbeats 4000000 in
set_option maxRecDepth 100000 in
theorem implTake3 (b : Nat) (w0 : World) (u1 u2 u3 : Value) (s : Sn) (t : ByteArray) (c : Nat) (v : Value) (P : Sn × ByteArray) (w : World) (hp : s.ph = 3) (h : DB b w0 u1 u2 u3 s t w) (hb : ((c : Int) == 421) = false) (hM : ∀ wx, Below w.heap.size w wx → Calls Tryz.prog 115 #[.pointer (some ⟨b, 0, none⟩), .agg #[.int .i64 (c : Int), v]] wx fun e w' => DP b w0 u1 u2 u3 P.1 (t ++ P.2) wx e w') :
    Calls Tryz.prog 86 #[.pointer (some ⟨b, 0, none⟩), .agg #[.int .i64 (c : Int), v]] w fun e w' => DP b w0 u1 u2 u3 P.1 (t ++ P.2) w e w' := by
  have h0 : w.cell? ⟨b, 0, none⟩ = some (.int .i64 3) := by
    have := h.blk.cell 0
    rw [this]
    show some (Value.int .i64 s.ph) = _
    rw [hp]
  have bl : b < w.heap.size := h.blk.lt
  have HM : Hid (∀ wx, Below w.heap.size w wx → Calls Tryz.prog 115 #[.pointer (some ⟨b, 0, none⟩), .agg #[.int .i64 (c : Int), v]] wx fun e w' => DP b w0 u1 u2 u3 P.1 (t ++ P.2) wx e w') := hM
  clear hM hp h
  have hmf : ∀ (fn : Fn) (first cap : Array Value) (w : World), (Instr.makeFunc fn first cap).run Tryz.prog w = .ok (.func fn first cap) w := fun _ _ _ _ => rfl
  go_enter Tryz.func86, Tryz.ntmps86
  go_upto_region 5 with fail
  generalize hW : World.alloc _ _ = W
  have b0 : Below w.heap.size w W := by rw [← hW]; exact below2 _ _ _
  have HR : Hid (Blk w.heap.size #[.int .i64 (c : Int), v] W) := by show Blk _ _ _; rw [← hW]; exact (blk2 w _ _ _ _).1
  have HA : W.cell? ⟨w.heap.size + 1, 3, none⟩ = some (.func (.func 115) #[.pointer (some ⟨b, 0, none⟩)] #[]) := by rw [← hW]; exact (blk2 w _ _ _ _).2.cell 3
  have x0 : W.cell? ⟨b, 0, none⟩ = some (.int .i64 3) := (b0.cell (p := ⟨b, 0, none⟩) bl).trans h0
  have y0 : W.cell? ⟨w.heap.size, 0, none⟩ = some (.int .i64 (c : Int)) := HR.out.cell 0
  have y1 : W.cell? ⟨w.heap.size, 1, none⟩ = some v := HR.out.cell 1
  clear hW

  go_region_with (first | (go_at_call 115; refine (HM.out _ (b0.trans (by repeat (first | exact Below.refl _ _ | refine Below.drew ?_)))).mono ?_; rintro e w2 ⟨rfl, D2, O2⟩; have HD2 : Hid (DB b w0 u1 u2 u3 P.1 (t ++ P.2) w2) := D2; have HO2 : Hid (DO b u2 u3 w w2) := ((DO.of_below b0).trans (DO.of_below (by repeat (first | exact Below.refl _ _ | refine Below.drew ?_)))).trans O2; clear D2 O2))
  all_goals
    go_wp2
    refine bodyPost_ret (v := .tuple #[]) (by simp [results, Tryz.results86, go_sem]) rfl ?_
    exact ⟨rfl, HD2.out, HO2.out⟩

set_option maxHeartbeats 4000000 in
set_option maxRecDepth 100000 in
theorem implTake4 (b : Nat) (w0 : World) (u1 u2 u3 : Value) (s : Sn) (t : ByteArray) (c : Nat) (v : Value) (P : Sn × ByteArray) (w : World) (hp : s.ph = 4) (h : DB b w0 u1 u2 u3 s t w) (hb : ((c : Int) == 421) = false) (hM : ∀ wx, Below w.heap.size w wx → Calls Tryz.prog 116 #[.pointer (some ⟨b, 0, none⟩), .agg #[.int .i64 (c : Int), v]] wx fun e w' => DP b w0 u1 u2 u3 P.1 (t ++ P.2) wx e w') :
    Calls Tryz.prog 86 #[.pointer (some ⟨b, 0, none⟩), .agg #[.int .i64 (c : Int), v]] w fun e w' => DP b w0 u1 u2 u3 P.1 (t ++ P.2) w e w' := by
  have h0 : w.cell? ⟨b, 0, none⟩ = some (.int .i64 4) := by
    have := h.blk.cell 0
    rw [this]
    show some (Value.int .i64 s.ph) = _
    rw [hp]
  have bl : b < w.heap.size := h.blk.lt
  have HM : Hid (∀ wx, Below w.heap.size w wx → Calls Tryz.prog 116 #[.pointer (some ⟨b, 0, none⟩), .agg #[.int .i64 (c : Int), v]] wx fun e w' => DP b w0 u1 u2 u3 P.1 (t ++ P.2) wx e w') := hM
  clear hM hp h
  have hmf : ∀ (fn : Fn) (first cap : Array Value) (w : World), (Instr.makeFunc fn first cap).run Tryz.prog w = .ok (.func fn first cap) w := fun _ _ _ _ => rfl
  go_enter Tryz.func86, Tryz.ntmps86
  go_upto_region 5 with fail
  generalize hW : World.alloc _ _ = W
  have b0 : Below w.heap.size w W := by rw [← hW]; exact below2 _ _ _
  have HR : Hid (Blk w.heap.size #[.int .i64 (c : Int), v] W) := by show Blk _ _ _; rw [← hW]; exact (blk2 w _ _ _ _).1
  have HA : W.cell? ⟨w.heap.size + 1, 4, none⟩ = some (.func (.func 116) #[.pointer (some ⟨b, 0, none⟩)] #[]) := by rw [← hW]; exact (blk2 w _ _ _ _).2.cell 4
  have x0 : W.cell? ⟨b, 0, none⟩ = some (.int .i64 4) := (b0.cell (p := ⟨b, 0, none⟩) bl).trans h0
  have y0 : W.cell? ⟨w.heap.size, 0, none⟩ = some (.int .i64 (c : Int)) := HR.out.cell 0
  have y1 : W.cell? ⟨w.heap.size, 1, none⟩ = some v := HR.out.cell 1
  clear hW

  go_region_with (first | (go_at_call 116; refine (HM.out _ (b0.trans (by repeat (first | exact Below.refl _ _ | refine Below.drew ?_)))).mono ?_; rintro e w2 ⟨rfl, D2, O2⟩; have HD2 : Hid (DB b w0 u1 u2 u3 P.1 (t ++ P.2) w2) := D2; have HO2 : Hid (DO b u2 u3 w w2) := ((DO.of_below b0).trans (DO.of_below (by repeat (first | exact Below.refl _ _ | refine Below.drew ?_)))).trans O2; clear D2 O2))
  all_goals
    go_wp2
    refine bodyPost_ret (v := .tuple #[]) (by simp [results, Tryz.results86, go_sem]) rfl ?_
    exact ⟨rfl, HD2.out, HO2.out⟩

set_option maxHeartbeats 4000000 in
set_option maxRecDepth 100000 in
theorem implTake5 (b : Nat) (w0 : World) (u1 u2 u3 : Value) (s : Sn) (t : ByteArray) (c : Nat) (v : Value) (P : Sn × ByteArray) (w : World) (hp : s.ph = 5) (h : DB b w0 u1 u2 u3 s t w) (hb : ((c : Int) == 421) = false) (hM : ∀ wx, Below w.heap.size w wx → Calls Tryz.prog 117 #[.pointer (some ⟨b, 0, none⟩), .agg #[.int .i64 (c : Int), v]] wx fun e w' => DP b w0 u1 u2 u3 P.1 (t ++ P.2) wx e w') :
    Calls Tryz.prog 86 #[.pointer (some ⟨b, 0, none⟩), .agg #[.int .i64 (c : Int), v]] w fun e w' => DP b w0 u1 u2 u3 P.1 (t ++ P.2) w e w' := by
  have h0 : w.cell? ⟨b, 0, none⟩ = some (.int .i64 5) := by
    have := h.blk.cell 0
    rw [this]
    show some (Value.int .i64 s.ph) = _
    rw [hp]
  have bl : b < w.heap.size := h.blk.lt
  have HM : Hid (∀ wx, Below w.heap.size w wx → Calls Tryz.prog 117 #[.pointer (some ⟨b, 0, none⟩), .agg #[.int .i64 (c : Int), v]] wx fun e w' => DP b w0 u1 u2 u3 P.1 (t ++ P.2) wx e w') := hM
  clear hM hp h
  have hmf : ∀ (fn : Fn) (first cap : Array Value) (w : World), (Instr.makeFunc fn first cap).run Tryz.prog w = .ok (.func fn first cap) w := fun _ _ _ _ => rfl
  go_enter Tryz.func86, Tryz.ntmps86
  go_upto_region 5 with fail
  generalize hW : World.alloc _ _ = W
  have b0 : Below w.heap.size w W := by rw [← hW]; exact below2 _ _ _
  have HR : Hid (Blk w.heap.size #[.int .i64 (c : Int), v] W) := by show Blk _ _ _; rw [← hW]; exact (blk2 w _ _ _ _).1
  have HA : W.cell? ⟨w.heap.size + 1, 5, none⟩ = some (.func (.func 117) #[.pointer (some ⟨b, 0, none⟩)] #[]) := by rw [← hW]; exact (blk2 w _ _ _ _).2.cell 5
  have x0 : W.cell? ⟨b, 0, none⟩ = some (.int .i64 5) := (b0.cell (p := ⟨b, 0, none⟩) bl).trans h0
  have y0 : W.cell? ⟨w.heap.size, 0, none⟩ = some (.int .i64 (c : Int)) := HR.out.cell 0
  have y1 : W.cell? ⟨w.heap.size, 1, none⟩ = some v := HR.out.cell 1
  clear hW

  go_region_with (first | (go_at_call 117; refine (HM.out _ (b0.trans (by repeat (first | exact Below.refl _ _ | refine Below.drew ?_)))).mono ?_; rintro e w2 ⟨rfl, D2, O2⟩; have HD2 : Hid (DB b w0 u1 u2 u3 P.1 (t ++ P.2) w2) := D2; have HO2 : Hid (DO b u2 u3 w w2) := ((DO.of_below b0).trans (DO.of_below (by repeat (first | exact Below.refl _ _ | refine Below.drew ?_)))).trans O2; clear D2 O2))
  all_goals
    go_wp2
    refine bodyPost_ret (v := .tuple #[]) (by simp [results, Tryz.results86, go_sem]) rfl ?_
    exact ⟨rfl, HD2.out, HO2.out⟩

set_option maxHeartbeats 4000000 in
set_option maxRecDepth 100000 in
theorem implTake6 (b : Nat) (w0 : World) (u1 u2 u3 : Value) (s : Sn) (t : ByteArray) (c : Nat) (v : Value) (P : Sn × ByteArray) (w : World) (hp : s.ph = 6) (h : DB b w0 u1 u2 u3 s t w) (hb : ((c : Int) == 421) = false) (hM : ∀ wx, Below w.heap.size w wx → Calls Tryz.prog 118 #[.pointer (some ⟨b, 0, none⟩), .agg #[.int .i64 (c : Int), v]] wx fun e w' => DP b w0 u1 u2 u3 P.1 (t ++ P.2) wx e w') :
    Calls Tryz.prog 86 #[.pointer (some ⟨b, 0, none⟩), .agg #[.int .i64 (c : Int), v]] w fun e w' => DP b w0 u1 u2 u3 P.1 (t ++ P.2) w e w' := by
  have h0 : w.cell? ⟨b, 0, none⟩ = some (.int .i64 6) := by
    have := h.blk.cell 0
    rw [this]
    show some (Value.int .i64 s.ph) = _
    rw [hp]
  have bl : b < w.heap.size := h.blk.lt
  have HM : Hid (∀ wx, Below w.heap.size w wx → Calls Tryz.prog 118 #[.pointer (some ⟨b, 0, none⟩), .agg #[.int .i64 (c : Int), v]] wx fun e w' => DP b w0 u1 u2 u3 P.1 (t ++ P.2) wx e w') := hM
  clear hM hp h
  have hmf : ∀ (fn : Fn) (first cap : Array Value) (w : World), (Instr.makeFunc fn first cap).run Tryz.prog w = .ok (.func fn first cap) w := fun _ _ _ _ => rfl
  go_enter Tryz.func86, Tryz.ntmps86
  go_upto_region 5 with fail
  generalize hW : World.alloc _ _ = W
  have b0 : Below w.heap.size w W := by rw [← hW]; exact below2 _ _ _
  have HR : Hid (Blk w.heap.size #[.int .i64 (c : Int), v] W) := by show Blk _ _ _; rw [← hW]; exact (blk2 w _ _ _ _).1
  have HA : W.cell? ⟨w.heap.size + 1, 6, none⟩ = some (.func (.func 118) #[.pointer (some ⟨b, 0, none⟩)] #[]) := by rw [← hW]; exact (blk2 w _ _ _ _).2.cell 6
  have x0 : W.cell? ⟨b, 0, none⟩ = some (.int .i64 6) := (b0.cell (p := ⟨b, 0, none⟩) bl).trans h0
  have y0 : W.cell? ⟨w.heap.size, 0, none⟩ = some (.int .i64 (c : Int)) := HR.out.cell 0
  have y1 : W.cell? ⟨w.heap.size, 1, none⟩ = some v := HR.out.cell 1
  clear hW

  go_region_with (first | (go_at_call 118; refine (HM.out _ (b0.trans (by repeat (first | exact Below.refl _ _ | refine Below.drew ?_)))).mono ?_; rintro e w2 ⟨rfl, D2, O2⟩; have HD2 : Hid (DB b w0 u1 u2 u3 P.1 (t ++ P.2) w2) := D2; have HO2 : Hid (DO b u2 u3 w w2) := ((DO.of_below b0).trans (DO.of_below (by repeat (first | exact Below.refl _ _ | refine Below.drew ?_)))).trans O2; clear D2 O2))
  all_goals
    go_wp2
    refine bodyPost_ret (v := .tuple #[]) (by simp [results, Tryz.results86, go_sem]) rfl ?_
    exact ⟨rfl, HD2.out, HO2.out⟩

set_option maxHeartbeats 4000000 in
set_option maxRecDepth 100000 in
theorem implTake7 (b : Nat) (w0 : World) (u1 u2 u3 : Value) (s : Sn) (t : ByteArray) (c : Nat) (v : Value) (P : Sn × ByteArray) (w : World) (hp : s.ph = 7) (h : DB b w0 u1 u2 u3 s t w) (hb : ((c : Int) == 421) = false) (hM : ∀ wx, Below w.heap.size w wx → Calls Tryz.prog 119 #[.pointer (some ⟨b, 0, none⟩), .agg #[.int .i64 (c : Int), v]] wx fun e w' => DP b w0 u1 u2 u3 P.1 (t ++ P.2) wx e w') :
    Calls Tryz.prog 86 #[.pointer (some ⟨b, 0, none⟩), .agg #[.int .i64 (c : Int), v]] w fun e w' => DP b w0 u1 u2 u3 P.1 (t ++ P.2) w e w' := by
  have h0 : w.cell? ⟨b, 0, none⟩ = some (.int .i64 7) := by
    have := h.blk.cell 0
    rw [this]
    show some (Value.int .i64 s.ph) = _
    rw [hp]
  have bl : b < w.heap.size := h.blk.lt
  have HM : Hid (∀ wx, Below w.heap.size w wx → Calls Tryz.prog 119 #[.pointer (some ⟨b, 0, none⟩), .agg #[.int .i64 (c : Int), v]] wx fun e w' => DP b w0 u1 u2 u3 P.1 (t ++ P.2) wx e w') := hM
  clear hM hp h
  have hmf : ∀ (fn : Fn) (first cap : Array Value) (w : World), (Instr.makeFunc fn first cap).run Tryz.prog w = .ok (.func fn first cap) w := fun _ _ _ _ => rfl
  go_enter Tryz.func86, Tryz.ntmps86
  go_upto_region 5 with fail
  generalize hW : World.alloc _ _ = W
  have b0 : Below w.heap.size w W := by rw [← hW]; exact below2 _ _ _
  have HR : Hid (Blk w.heap.size #[.int .i64 (c : Int), v] W) := by show Blk _ _ _; rw [← hW]; exact (blk2 w _ _ _ _).1
  have HA : W.cell? ⟨w.heap.size + 1, 7, none⟩ = some (.func (.func 119) #[.pointer (some ⟨b, 0, none⟩)] #[]) := by rw [← hW]; exact (blk2 w _ _ _ _).2.cell 7
  have x0 : W.cell? ⟨b, 0, none⟩ = some (.int .i64 7) := (b0.cell (p := ⟨b, 0, none⟩) bl).trans h0
  have y0 : W.cell? ⟨w.heap.size, 0, none⟩ = some (.int .i64 (c : Int)) := HR.out.cell 0
  have y1 : W.cell? ⟨w.heap.size, 1, none⟩ = some v := HR.out.cell 1
  clear hW

  go_region_with (first | (go_at_call 119; refine (HM.out _ (b0.trans (by repeat (first | exact Below.refl _ _ | refine Below.drew ?_)))).mono ?_; rintro e w2 ⟨rfl, D2, O2⟩; have HD2 : Hid (DB b w0 u1 u2 u3 P.1 (t ++ P.2) w2) := D2; have HO2 : Hid (DO b u2 u3 w w2) := ((DO.of_below b0).trans (DO.of_below (by repeat (first | exact Below.refl _ _ | refine Below.drew ?_)))).trans O2; clear D2 O2))
  all_goals
    go_wp2
    refine bodyPost_ret (v := .tuple #[]) (by simp [results, Tryz.results86, go_sem]) rfl ?_
    exact ⟨rfl, HD2.out, HO2.out⟩

set_option maxHeartbeats 4000000 in
set_option maxRecDepth 100000 in
theorem implTake8 (b : Nat) (w0 : World) (u1 u2 u3 : Value) (s : Sn) (t : ByteArray) (c : Nat) (v : Value) (P : Sn × ByteArray) (w : World) (hp : s.ph = 8) (h : DB b w0 u1 u2 u3 s t w) (hM : ∀ wx, Below w.heap.size w wx → Calls Tryz.prog 120 #[.pointer (some ⟨b, 0, none⟩), .agg #[.int .i64 (c : Int), v]] wx fun e w' => DP b w0 u1 u2 u3 P.1 (t ++ P.2) wx e w') :
    Calls Tryz.prog 86 #[.pointer (some ⟨b, 0, none⟩), .agg #[.int .i64 (c : Int), v]] w fun e w' => DP b w0 u1 u2 u3 P.1 (t ++ P.2) w e w' := by
  have h0 : w.cell? ⟨b, 0, none⟩ = some (.int .i64 8) := by
    have := h.blk.cell 0
    rw [this]
    show some (Value.int .i64 s.ph) = _
    rw [hp]
  have bl : b < w.heap.size := h.blk.lt
  have HM : Hid (∀ wx, Below w.heap.size w wx → Calls Tryz.prog 120 #[.pointer (some ⟨b, 0, none⟩), .agg #[.int .i64 (c : Int), v]] wx fun e w' => DP b w0 u1 u2 u3 P.1 (t ++ P.2) wx e w') := hM
  clear hM hp h
  have hmf : ∀ (fn : Fn) (first cap : Array Value) (w : World), (Instr.makeFunc fn first cap).run Tryz.prog w = .ok (.func fn first cap) w := fun _ _ _ _ => rfl
  by_cases hc : (c : Int) = 421
  · have hb : ((c : Int) == 421) = true := beq_iff_eq.2 hc
    clear hc
    go_enter Tryz.func86, Tryz.ntmps86
    go_upto_region 5 with fail
    generalize hW : World.alloc _ _ = W
    have b0 : Below w.heap.size w W := by rw [← hW]; exact below2 _ _ _
    have HR : Hid (Blk w.heap.size #[.int .i64 (c : Int), v] W) := by show Blk _ _ _; rw [← hW]; exact (blk2 w _ _ _ _).1
    have HA : W.cell? ⟨w.heap.size + 1, 8, none⟩ = some (.func (.func 120) #[.pointer (some ⟨b, 0, none⟩)] #[]) := by rw [← hW]; exact (blk2 w _ _ _ _).2.cell 8
    have x0 : W.cell? ⟨b, 0, none⟩ = some (.int .i64 8) := (b0.cell (p := ⟨b, 0, none⟩) bl).trans h0
    have y0 : W.cell? ⟨w.heap.size, 0, none⟩ = some (.int .i64 (c : Int)) := HR.out.cell 0
    have y1 : W.cell? ⟨w.heap.size, 1, none⟩ = some v := HR.out.cell 1
    clear hW

    go_region_with (first | (go_at_call 120; refine (HM.out _ (b0.trans (by repeat (first | exact Below.refl _ _ | refine Below.drew ?_)))).mono ?_; rintro e w2 ⟨rfl, D2, O2⟩; have HD2 : Hid (DB b w0 u1 u2 u3 P.1 (t ++ P.2) w2) := D2; have HO2 : Hid (DO b u2 u3 w w2) := ((DO.of_below b0).trans (DO.of_below (by repeat (first | exact Below.refl _ _ | refine Below.drew ?_)))).trans O2; clear D2 O2))
    all_goals
      go_wp2
      refine bodyPost_ret (v := .tuple #[]) (by simp [results, Tryz.results86, go_sem]) rfl ?_
      exact ⟨rfl, HD2.out, HO2.out⟩
  · have hb : ((c : Int) == 421) = false := beq_eq_false_iff_ne.2 hc
    clear hc
    go_enter Tryz.func86, Tryz.ntmps86
    go_upto_region 5 with fail
    generalize hW : World.alloc _ _ = W
    have b0 : Below w.heap.size w W := by rw [← hW]; exact below2 _ _ _
    have HR : Hid (Blk w.heap.size #[.int .i64 (c : Int), v] W) := by show Blk _ _ _; rw [← hW]; exact (blk2 w _ _ _ _).1
    have HA : W.cell? ⟨w.heap.size + 1, 8, none⟩ = some (.func (.func 120) #[.pointer (some ⟨b, 0, none⟩)] #[]) := by rw [← hW]; exact (blk2 w _ _ _ _).2.cell 8
    have x0 : W.cell? ⟨b, 0, none⟩ = some (.int .i64 8) := (b0.cell (p := ⟨b, 0, none⟩) bl).trans h0
    have y0 : W.cell? ⟨w.heap.size, 0, none⟩ = some (.int .i64 (c : Int)) := HR.out.cell 0
    have y1 : W.cell? ⟨w.heap.size, 1, none⟩ = some v := HR.out.cell 1
    clear hW

    go_region_with (first | (go_at_call 120; refine (HM.out _ (b0.trans (by repeat (first | exact Below.refl _ _ | refine Below.drew ?_)))).mono ?_; rintro e w2 ⟨rfl, D2, O2⟩; have HD2 : Hid (DB b w0 u1 u2 u3 P.1 (t ++ P.2) w2) := D2; have HO2 : Hid (DO b u2 u3 w w2) := ((DO.of_below b0).trans (DO.of_below (by repeat (first | exact Below.refl _ _ | refine Below.drew ?_)))).trans O2; clear D2 O2))
    all_goals
      go_wp2
      refine bodyPost_ret (v := .tuple #[]) (by simp [results, Tryz.results86, go_sem]) rfl ?_
      exact ⟨rfl, HD2.out, HO2.out⟩

set_option maxHeartbeats 4000000 in
set_option maxRecDepth 100000 in
theorem implTake421 (b : Nat) (w0 : World) (u1 u2 u3 : Value) (s : Sn) (t : ByteArray) (v : Value) (L : List ByteArray) (lo : Nat) (w : World) (hk : s.Ok) (hp : (s.ph == 8) = false) (hS : Strs w lo v L) (h1 : 1 ≤ L.length) (h : DB b w0 u1 u2 u3 s t w) :
    Calls Tryz.prog 86 #[.pointer (some ⟨b, 0, none⟩), .agg #[.int .i64 421, v]] w fun e w' => DP b w0 u1 u2 u3 ((s.dec (refV 421 (L.getD 0 ⟨#[]⟩))).to 9) t w e w' := by
  have H : Hid (DB b w0 u1 u2 u3 s t w) := h
  have HK : Hid s.Ok := hk
  have HS : Hid (Strs w lo v L) := hS
  have c0 : w.cell? ⟨b, 0, none⟩ = some (.int .i64 s.ph) := h.blk.cell 0
  have bl : b < w.heap.size := h.blk.lt
  clear h hk hS
  go_enter Tryz.func86, Tryz.ntmps86
  go_wp2_with fail
  refine (implNo 421 v L lo _ (strs_below HS.out (below1 _ _) (Nat.le_refl _)) h1).mono ?_
  rintro e w1 ⟨rfl, hb1⟩
  have b1 : Below w.heap.size w w1 := (below1 w _).trans (hb1.mono (by simp))
  go_wp2_with fail
  refine (implDecide b w0 u1 u2 u3 s t (refV 421 (L.getD 0 ⟨#[]⟩)) w1 HK.out (H.out.below b1)).mono ?_
  rintro e w2 ⟨rfl, D2, O2⟩
  have HD2 : Hid (DB b w0 u1 u2 u3 (s.dec (refV 421 (L.getD 0 ⟨#[]⟩))) t w2) := D2
  have x0 : w2.cell? ⟨b, 0, none⟩ = some (.int .i64 s.ph) := D2.blk.cell 0
  have f0 : w2.frozen? ⟨b, 0, none⟩ = false := D2.blk.free 0
  have HO2 : Hid (DO b u2 u3 w w2) := (DO.of_below b1).trans O2
  clear D2 O2 c0
  go_wp2
  refine bodyPost_ret (v := .tuple #[]) (by simp [results, Tryz.results86, go_sem]) rfl ?_
  exact ⟨rfl, HD2.out.ph 9, HO2.out.put 0 _⟩
end Go.Proofs.YtngcjlghjidnjaaGreatDoor
namespace Go.Proofs.YtngcjlghjidnjaaGreatDoor
open Go.ChangeShapes Go.WideShapes Go.ChangeAt Go.RowKit
attribute [local go_sem ↓] Go.wp_at_zero Go.wp_at_succ

set_option maxHeartbeats 4000000 in
set_option maxRecDepth 100000 in
theorem implEhlo (b : Nat) (w0 : World) (u1 u2 u3 : Value) (s : Sn) (t : ByteArray) (c : Nat) (v : Value) (L : List ByteArray) (lo : Nat) (K : Nat) (Q : Bool) (P : Sn × ByteArray) (w : World) (hl : LenIn w0) (hk : s.Ok) (hz : t.size ≤ 700000000) (hS : Strs w lo v L) (h1 : 1 ≤ L.length) (h : DB b w0 u1 u2 u3 s t w)
    (hSz : ∀ wx, Below w.heap.size w wx → Calls Tryz.prog 141 #[v] wx fun e w' => e = .returned (.tuple #[.int .i64 (K : Int), .bool Q]) ∧ Below wx.heap.size wx w')
    (hP : (500 ≤ c ∧ P = (s.to 3, cmdB 2 s.he)) ∨ (c < 500 ∧ c ≠ 250 ∧ P = s.quit (refV c (L.getD 0 ⟨#[]⟩))) ∨ (c = 250 ∧ (Q = true ∧ 0 < K ∧ K < s.bo.size) ∧ P = s.quit (3, 552, ⟨#[115, 105, 122, 101]⟩)) ∨ (c = 250 ∧ (Q = false ∨ K = 0 ∨ s.bo.size ≤ K) ∧ P = (s.to 4, cmdB 3 s.fr))) :
    Calls Tryz.prog 114 #[.pointer (some ⟨b, 0, none⟩), .agg #[.int .i64 (c : Int), v]] w fun e w' => DP b w0 u1 u2 u3 P.1 (t ++ P.2) w e w' := by
  have H : Hid (DB b w0 u1 u2 u3 s t w) := h
  have HK : Hid s.Ok := hk
  have HS : Hid (Strs w lo v L) := hS
  have HSz : Hid (∀ wx, Below w.heap.size w wx → Calls Tryz.prog 141 #[v] wx fun e w' => e = .returned (.tuple #[.int .i64 (K : Int), .bool Q]) ∧ Below wx.heap.size wx w') := hSz
  have bl : b < w.heap.size := h.blk.lt
  have hhe : s.he.size ≤ 100 := hk.he
  have hfr : s.fr.size ≤ 160 := hk.fr
  have hbo : s.bo.size ≤ 3000 := hk.bo
  clear h hk hS hSz
  go_enter Tryz.func114, Tryz.ntmps114
  go_wp2_with fail
  refine (HSz.out _ (below1 _ _)).mono ?_
  rintro e w1 ⟨rfl, hb1⟩
  have b1 : Below w.heap.size w w1 := (below1 w _).trans (hb1.mono (by simp))
  have HB : Hid (Blk w.heap.size #[.int .i64 (c : Int), v] w1) := (Blk.new w _ _).below hb1
  have HD : Hid (DB b w0 u1 u2 u3 s t w1) := H.out.below b1
  have x0 : w1.cell? ⟨w.heap.size, 0, none⟩ = some (.int .i64 (c : Int)) := HB.out.cell 0
  have x1 : w1.cell? ⟨w.heap.size, 1, none⟩ = some v := HB.out.cell 1
  have y2 : w1.cell? ⟨b, 2, none⟩ = some (.string s.he) := HD.out.blk.cell 2
  have y3 : w1.cell? ⟨b, 3, none⟩ = some (.string s.fr) := HD.out.blk.cell 3
  have y4 : w1.cell? ⟨b, 4, none⟩ = some (.string s.bo) := HD.out.blk.cell 4
  clear hb1 HSz
  rcases hP with ⟨hc, rfl⟩ | ⟨hc, hc2, rfl⟩ | ⟨hc, ⟨rfl, hK0, hK1⟩, rfl⟩ | ⟨hc, hQ, rfl⟩
  · go_wp2_with fail
    refine (implCommand 2 s.he _ (len_below hl HD.out.bel) (by omega)).mono ?_
    rintro e w2 ⟨rfl, hb2⟩
    have b2 : Below w.heap.size w w2 := b1.trans (hb2.mono b1.size)
    have hX := cmd_size 2 s.he
    go_wp2_with fail
    refine (implSay b w0 u1 u2 u3 s t _ 3 w2 (by omega) (H.out.below b2)).mono ?_
    rintro e w3 ⟨rfl, D3, O3⟩
    go_wp2
    refine bodyPost_ret (v := .tuple #[]) (by simp [results, Tryz.results114, go_sem]) rfl ?_
    exact ⟨rfl, D3, (DO.of_below b2).trans O3⟩

  · have hcb : (((c : Nat) : Int) == 250) = false := beq_eq_false_iff_ne.2 (by omega)
    clear hc2
    go_wp2_with fail
    refine (implNo c v L lo _ (strs_below HS.out b1 (Nat.le_refl _)) h1).mono ?_
    rintro e w2 ⟨rfl, hb2⟩
    have b2 : Below w.heap.size w w2 := b1.trans (hb2.mono b1.size)
    go_wp2_with fail
    refine (implGive b w0 u1 u2 u3 s t _ w2 hl HK.out (by omega) (H.out.below b2)).mono ?_
    rintro e w3 ⟨rfl, D3, O3⟩
    go_wp2
    refine bodyPost_ret (v := .tuple #[]) (by simp [results, Tryz.results114, go_sem]) rfl ?_
    exact ⟨rfl, D3, (DO.of_below b2).trans O3⟩

  · subst hc
    go_wp2_with fail
    refine (implGive b w0 u1 u2 u3 s t (3, 552, ⟨#[115, 105, 122, 101]⟩) w1 hl HK.out (by omega) HD.out).mono ?_
    rintro e w3 ⟨rfl, D3, O3⟩
    go_wp2
    refine bodyPost_ret (v := .tuple #[]) (by simp [results, Tryz.results114, go_sem]) rfl ?_
    exact ⟨rfl, D3, (DO.of_below b1).trans O3⟩

  · subst hc
    have hX := cmd_size 3 s.fr
    have HC : Hid (∀ w2, Below w1.heap.size w1 w2 → Calls Tryz.prog 142 #[.pointer (some ⟨b, 0, none⟩), .string (cmdB 3 s.fr), .int .i64 4] w2 fun e w' => DP b w0 u1 u2 u3 (s.to 4) (t ++ cmdB 3 s.fr) w2 e w') := fun w2 hb => implSay b w0 u1 u2 u3 s t _ 4 w2 (by omega) (HD.out.below hb)
    clear hX
    rcases hQ with rfl | rfl | hQ
    · go_wp2_with fail
      refine (implCommand 3 s.fr _ (len_below hl HD.out.bel) (by omega)).mono ?_
      rintro e w2 ⟨rfl, hb2⟩
      go_wp2_with fail
      refine (HC.out w2 hb2).mono ?_
      rintro e w3 ⟨rfl, D3, O3⟩
      go_wp2
      refine bodyPost_ret (v := .tuple #[]) (by simp [results, Tryz.results114, go_sem]) rfl ?_
      exact ⟨rfl, D3, (DO.of_below (b1.trans (hb2.mono b1.size))).trans O3⟩
    · cases Q
      · go_wp2_with fail
        refine (implCommand 3 s.fr _ (len_below hl HD.out.bel) (by omega)).mono ?_
        rintro e w2 ⟨rfl, hb2⟩
        go_wp2_with fail
        refine (HC.out w2 hb2).mono ?_
        rintro e w3 ⟨rfl, D3, O3⟩
        go_wp2
        refine bodyPost_ret (v := .tuple #[]) (by simp [results, Tryz.results114, go_sem]) rfl ?_
        exact ⟨rfl, D3, (DO.of_below (b1.trans (hb2.mono b1.size))).trans O3⟩
      · go_wp2_with fail
        refine (implCommand 3 s.fr _ (len_below hl HD.out.bel) (by omega)).mono ?_
        rintro e w2 ⟨rfl, hb2⟩
        go_wp2_with fail
        refine (HC.out w2 hb2).mono ?_
        rintro e w3 ⟨rfl, D3, O3⟩
        go_wp2
        refine bodyPost_ret (v := .tuple #[]) (by simp [results, Tryz.results114, go_sem]) rfl ?_
        exact ⟨rfl, D3, (DO.of_below (b1.trans (hb2.mono b1.size))).trans O3⟩
    · cases Q
      · go_wp2_with fail
        refine (implCommand 3 s.fr _ (len_below hl HD.out.bel) (by omega)).mono ?_
        rintro e w2 ⟨rfl, hb2⟩
        go_wp2_with fail
        refine (HC.out w2 hb2).mono ?_
        rintro e w3 ⟨rfl, D3, O3⟩
        go_wp2
        refine bodyPost_ret (v := .tuple #[]) (by simp [results, Tryz.results114, go_sem]) rfl ?_
        exact ⟨rfl, D3, (DO.of_below (b1.trans (hb2.mono b1.size))).trans O3⟩
      · by_cases hK : 0 < K
        · go_wp2_with fail
          refine (implCommand 3 s.fr _ (len_below hl HD.out.bel) (by omega)).mono ?_
          rintro e w2 ⟨rfl, hb2⟩
          go_wp2_with fail
          refine (HC.out w2 hb2).mono ?_
          rintro e w3 ⟨rfl, D3, O3⟩
          go_wp2
          refine bodyPost_ret (v := .tuple #[]) (by simp [results, Tryz.results114, go_sem]) rfl ?_
          exact ⟨rfl, D3, (DO.of_below (b1.trans (hb2.mono b1.size))).trans O3⟩
        · obtain rfl : K = 0 := by omega
          go_wp2_with fail
          refine (implCommand 3 s.fr _ (len_below hl HD.out.bel) (by omega)).mono ?_
          rintro e w2 ⟨rfl, hb2⟩
          go_wp2_with fail
          refine (HC.out w2 hb2).mono ?_
          rintro e w3 ⟨rfl, D3, O3⟩
          go_wp2
          refine bodyPost_ret (v := .tuple #[]) (by simp [results, Tryz.results114, go_sem]) rfl ?_
          exact ⟨rfl, D3, (DO.of_below (b1.trans (hb2.mono b1.size))).trans O3⟩
end Go.Proofs.YtngcjlghjidnjaaGreatDoor
namespace Go.Proofs.YtngcjlghjidnjaaGreatDoor
open Go.ChangeShapes Go.WideShapes Go.ChangeAt Go.RowKit
attribute [local go_sem ↓] Go.wp_at_zero Go.wp_at_succ

set_option maxHeartbeats 4000000 in
set_option maxRecDepth 100000 in
theorem indexB (T : List Bool) (u : Value) (lo : Nat) (w : World) (h : Bls w lo u T) (hT : T.length ≤ 20) (h1 : 1 ≤ T.length) :
    Calls Tryz.prog 159 #[u, .bool true] w fun e w' => (∃ i : Int, e = .returned (.int .i64 i) ∧ ((0 ≤ i ∧ true ∈ T) ∨ (i = -1 ∧ ¬ true ∈ T))) ∧ w' = w := by
  obtain ⟨g, k, rfl⟩ : ∃ g k, u = .slice (some ⟨g, 0, none⟩) T.length k := by
    rcases h.cases with ⟨_, e⟩ | ⟨g, k, e, _⟩
    · rw [e] at h1; simp at h1
    · exact ⟨g, k, e⟩
  have HB : Hid (Bls w lo (.slice (some ⟨g, 0, none⟩) T.length k) T) := h
  clear h
  have gl : g < w.heap.size := HB.out.at.1.lt
  go_enter Tryz.func159, Tryz.ntmps159
  go_upto_region 2 with fail
  go_loopw [8] (fun kv wr => ∃ j : Nat, j ≤ T.length ∧ kv = .int .i64 j ∧ wr = w ∧ Hid (∀ i, i < j → T[i]? = some false)) (fun kv _ => T.length - (intOf kv).toNat)
  case atStart => exact ⟨0, Nat.zero_le _, rfl, rfl, fun i hi => by omega⟩
  case round =>
    obtain ⟨j, hj, rfl, hwr, HF⟩ := hrel
    have hwr2 := hwr.symm
    subst hwr2
    by_cases hlt : j < T.length
    · have y0 := HB.out.at.1.cell j hlt
      cases hb : T[j] with
      | true =>
        rw [hb] at y0
        have hm : Hid (true ∈ T) := (hb ▸ List.getElem_mem hlt : true ∈ T)
        go_wp2
        go_ret
        exact ⟨⟨_, rfl, .inl ⟨by omega, hm.out⟩⟩, rfl⟩
      | false =>
        rw [hb] at y0
        have HF2 : Hid (∀ i, i < j + 1 → T[i]? = some false) := fun i hi => by
          by_cases e : i < j
          · exact HF.out i e
          · obtain rfl : i = j := by omega
            rw [List.getElem?_eq_getElem hlt, hb]
        go_wp2
        go_roundw
        case rel => exact ⟨j + 1, by omega, by go_num, by first | rfl | trivial, HF2⟩
        case measure => simp [intOf]; omega
    · obtain rfl : j = T.length := by omega
      have hno : Hid (¬ true ∈ T) := fun hm => by
        obtain ⟨i, hi, e⟩ := List.getElem_of_mem hm
        have := HF.out i hi
        rw [List.getElem?_eq_getElem hi, e] at this
        cases this
      go_wp2
      go_ret
      exact ⟨⟨-1, rfl, .inr ⟨rfl, hno.out⟩⟩, rfl⟩

set_option maxHeartbeats 4000000 in
set_option maxRecDepth 100000 in
theorem containsB (T : List Bool) (u : Value) (lo : Nat) (w : World) (h : Bls w lo u T) (hT : T.length ≤ 20) (h1 : 1 ≤ T.length) :
    Calls Tryz.prog 145 #[u, .bool true] w fun e w' => e = .returned (.bool (decide (true ∈ T))) ∧ w' = w := by
  obtain ⟨g, k, rfl⟩ : ∃ g k, u = .slice (some ⟨g, 0, none⟩) T.length k := by
    rcases h.cases with ⟨_, e⟩ | ⟨g, k, e, _⟩
    · rw [e] at h1; simp at h1
    · exact ⟨g, k, e⟩
  have HI := indexB T _ lo w h hT h1
  clear h hT h1
  go_enter Tryz.func145, Tryz.ntmps145
  go_wp2_with fail
  refine HI.mono ?_
  rintro e w1 ⟨⟨i, rfl, hi⟩, rfl⟩
  rcases hi with ⟨hi, hm⟩ | ⟨rfl, hm⟩
  · have G : Hid (decide (true ∈ T) = true) := decide_eq_true hm
    clear hm
    go_wp2
    go_ret
    exact ⟨ret_bool G.out.symm, rfl⟩
  · have G : Hid (decide (true ∈ T) = false) := decide_eq_false hm
    clear hm
    go_wp2
    go_ret
    exact ⟨ret_bool G.out.symm, rfl⟩
end Go.Proofs.YtngcjlghjidnjaaGreatDoor
