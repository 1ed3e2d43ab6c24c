import Derived.Test.YtngcjlghjidnjaaGreatDoorMg30
import Derived.Test.YtngcjlghjidnjaaGreatDoorMg31
import Derived.Test.YtngcjlghjidnjaaGreatDoorMg32
import Derived.Test.YtngcjlghjidnjaaGreatDoorMg26
import Derived.Deep.RegionWith
import Derived.Laws.Concat
import Derived.Test.YtngcjlghjidnjaaGreatDoorMg11
namespace Go.Proofs.YtngcjlghjidnjaaGreatDoor
open Go.ChangeShapes Go.WideShapes Go.ChangeAt Go.RowKit
attribute [local go_sem ↓] Go.wp_at_zero Go.wp_at_succ

theorem specTake (s : Sn) (c : Nat) (v : Value) (L : List ByteArray) (u1 u2 u3 : Value) (lo lo2 : Nat) (w : World) (hk : s.Ok) (h9 : s.ph ≠ 9) (h : SV w lo u1 u2 u3 s) (hS : Strs w lo2 v L) (h1 : 1 ≤ L.length) (hL : L.length ≤ 50) (hsz : ∀ x ∈ L, x.size ≤ 1048576) :
    Calls Tryz.prog 91 #[.agg #[.int .i64 s.ph, .string s.buf, .string s.he, .string s.fr, .string s.bo, u1, .int .i64 (s.nx : Int), u2, u3], .agg #[.int .i64 (c : Int), v]] w fun e w' => SQ (s.take c L) w e w' := by
  obtain ⟨ph, buf, he, fr, bo, R, nx, T, V⟩ := s
  have hp1 := hk.p1
  have hp9 := hk.p9
  dsimp only at hp1 hp9 h9 ⊢
  by_cases e8 : ph = 8
  · subst e8
    rw [take_8 rfl]
    exact takeA buf he fr bo R nx T V c v L u1 u2 u3 lo lo2 w hk h hS h1 hsz
  by_cases ec : c = 421
  · subst ec
    rw [take_421 e8]
    exact takeB ph buf he fr bo R nx T V v L u1 u2 u3 lo lo2 w hk h hS h1 hsz (beq_eq_false_iff_ne.2 e8)
  have hb : ((c : Int) == 421) = false := beq_eq_false_iff_ne.2 (by omega)
  have NE : ∀ k : Nat, c ≠ k → ((c : Int) == (k : Int)) = false := fun k hk => beq_eq_false_iff_ne.2 (by omega)
  have HSz : ∀ wx, Below w.heap.size w wx → Calls Tryz.prog 127 #[v] wx fun e w' => e = .returned (.tuple #[.int .i64 ((szLim L).getD 0 : Int), .bool (szLim L).isSome]) ∧ Below wx.heap.size wx w' := fun wx hbx =>
    specSize v L wx (strs_args (strs_below hS hbx (Nat.le_refl _)) (by unfold maxLen; omega) (fun x hx => by have := hsz x hx; unfold maxLen; omega)) hsz
  have hcase : ph = 1 ∨ ph = 2 ∨ ph = 3 ∨ ph = 4 ∨ ph = 5 ∨ ph = 6 ∨ ph = 7 := by omega
  rcases hcase with e | e | e | e | e | e | e
  · subst e
    rw [take_1 rfl ec]
    by_cases q : c = 220
    · rw [if_pos q]
      subst q
      exact takeF buf he fr bo R nx T V v L u1 u2 u3 lo lo2 w hk h hS h1 hsz
    · rw [if_neg q]
      exact takeE1 buf he fr bo R nx T V c v L u1 u2 u3 lo lo2 w hk h hS h1 hsz (NE 220 q) hb
  · subst e
    rw [take_2 rfl ec]
    by_cases q : c = 250
    · rw [if_pos q]
      subst q
      rcases big_cases L bo.size with ⟨hB, hq1, hq2, hq3⟩ | ⟨hB, hh⟩
      · rw [if_pos hB]
        exact takeG1 buf he fr bo R nx T V v L u1 u2 u3 lo lo2 w hk h hS h1 hsz ((szLim L).getD 0) (szLim L).isSome HSz hq1 hq2 hq3
      · rw [if_neg (by rw [hB]; decide)]
        exact takeG2 buf he fr bo R nx T V v L u1 u2 u3 lo lo2 w hk h hS h1 hsz ((szLim L).getD 0) (szLim L).isSome HSz hh
    · rw [if_neg q]
      by_cases q5 : 500 ≤ c
      · rw [if_pos q5]
        exact takeD buf he fr bo R nx T V c v L u1 u2 u3 lo lo2 w hk h hS h1 hsz (NE 250 q) hb q5
      · rw [if_neg q5]
        exact takeE2 buf he fr bo R nx T V c v L u1 u2 u3 lo lo2 w hk h hS h1 hsz (NE 250 q) hb (by omega)
  · subst e
    rw [take_3 rfl ec]
    by_cases q : c = 250
    · rw [if_pos q]
      subst q
      exact takeG3 buf he fr bo R nx T V v L u1 u2 u3 lo lo2 w hk h hS h1 hsz ((szLim L).getD 0) (szLim L).isSome HSz
    · rw [if_neg q]
      exact takeE3 buf he fr bo R nx T V c v L u1 u2 u3 lo lo2 w hk h hS h1 hsz (NE 250 q) hb
  · subst e
    rw [take_4 rfl ec]
    by_cases q : c = 250
    · rw [if_pos q]
      subst q
      exact takeH buf he fr bo R nx T V v L u1 u2 u3 lo lo2 w hk h hS h1 hsz
    · rw [if_neg q]
      exact takeE4 buf he fr bo R nx T V c v L u1 u2 u3 lo lo2 w hk h hS h1 hsz (NE 250 q) hb
  · subst e
    rw [take_5 rfl ec]
    by_cases q : c = 250 ∨ c = 251
    · rcases q with q | q
      · subst q
        exact takeC250 buf he fr bo R nx T V v L u1 u2 u3 lo lo2 w hk h hS h1 hsz
      · subst q
        exact takeC251 buf he fr bo R nx T V v L u1 u2 u3 lo lo2 w hk h hS h1 hsz
    · exact takeCN buf he fr bo R nx T V c v L u1 u2 u3 lo lo2 w hk h hS h1 hsz q (NE 250 (by omega)) (NE 251 (by omega)) hb
  · subst e
    rw [take_6 rfl ec]
    by_cases q : c = 354
    · rw [if_pos q]
      subst q
      exact takeI buf he fr bo R nx T V v L u1 u2 u3 lo lo2 w hk h hS h1 hsz
    · rw [if_neg q]
      exact takeE6 buf he fr bo R nx T V c v L u1 u2 u3 lo lo2 w hk h hS h1 hsz (NE 354 q) hb
  · subst e
    rw [take_7 rfl ec]
    by_cases q : c = 250
    · rw [if_pos q]
      subst q
      exact takeJ buf he fr bo R nx T V v L u1 u2 u3 lo lo2 w hk h hS h1 hsz
    · rw [if_neg q]
      exact takeE7 buf he fr bo R nx T V c v L u1 u2 u3 lo lo2 w hk h hS h1 hsz (NE 250 q) hb
end Go.Proofs.YtngcjlghjidnjaaGreatDoor
namespace Go.Proofs.YtngcjlghjidnjaaGreatDoor
open Go.ChangeShapes Go.WideShapes Go.ChangeAt Go.RowKit
attribute [local go_sem ↓] Go.wp_at_zero Go.wp_at_succ

/-- the cells of a dialogue: a session, and what was sent -/
def c10 (s : Sn) (u1 u2 u3 : Value) (t : ByteArray) : Array Value := #[.int .i64 s.ph, .string s.buf, .string s.he, .string s.fr, .string s.bo, u1, .int .i64 (s.nx : Int), u2, u3, .string t]
structure DB (b : Nat) (w0 : World) (u1 u2 u3 : Value) (s : Sn) (t : ByteArray) (w : World) : Prop where
  blk : Blk b (c10 s u1 u2 u3 t) w
  sv : SV w w0.heap.size u1 u2 u3 s
  a1 : u1.ownBlock ≠ some b
  a2 : u2.ownBlock ≠ some b
  a3 : u3.ownBlock ≠ some b
  nb : w0.heap.size ≤ b
  bel : Below w0.heap.size w0 w
def bv (b : Nat) : Value := .slice (some ⟨b, 0, none⟩) 0 0
/-- all but the dialogue is as it was -/
def DO (b : Nat) (u2 u3 : Value) (w w' : World) : Prop := OffL [bv b, u2, u3] w w'
theorem DO.trans {b : Nat} {u2 u3 : Value} {w w1 w2 : World} (h : DO b u2 u3 w w1) (k : DO b u2 u3 w1 w2) : DO b u2 u3 w w2 := OffL.trans h k
theorem DO.of_below {b : Nat} {u2 u3 : Value} {w w1 : World} (h : Below w.heap.size w w1) : DO b u2 u3 w w1 := OffL.of_below h
theorem DO.size {b : Nat} {u2 u3 : Value} {w w1 : World} (h : DO b u2 u3 w w1) : w.heap.size ≤ w1.heap.size := OffL.size h
theorem DO.blk {b c : Nat} {u2 u3 : Value} {w w1 : World} {X : Array Value} (h : DO b u2 u3 w w1) (k : Blk c X w) (hb : c ≠ b) (h2 : u2.ownBlock ≠ some c) (h3 : u3.ownBlock ≠ some c) : Blk c X w1 := by
  refine Blk.offL k h ?_
  intro v hv
  simp only [List.mem_cons, List.not_mem_nil, or_false] at hv
  rcases hv with rfl | rfl | rfl
  · intro e; exact hb (by injection e with e; exact e.symm)
  · exact h2
  · exact h3
theorem DO.put {b : Nat} {u2 u3 : Value} {w w1 : World} (h : DO b u2 u3 w w1) (o : Nat) (u : Value) : DO b u2 u3 w (w1.setCell ⟨b, o, none⟩ u) :=
  OffL.trans h (OffL.mono (vs := [bv b]) (OffL.put (g := b) (OffL.of_below (Below.refl _ _)) rfl u) (by simp))
theorem DB.below {b : Nat} {w0 : World} {u1 u2 u3 : Value} {s : Sn} {t : ByteArray} {w w1 : World} (h : DB b w0 u1 u2 u3 s t w) (hb : Below w.heap.size w w1) : DB b w0 u1 u2 u3 s t w1 :=
  ⟨h.blk.below hb, h.sv.below hb (Nat.le_refl _), h.a1, h.a2, h.a3, h.nb, h.bel.trans (hb.mono h.bel.size)⟩
theorem own_ne {u : Value} {b : Nat} (h : u.ownBlock ≠ some b) : ∀ g, u.ownBlock = some g → g ≠ b := fun g hg e => h (by rw [hg, e])
theorem DB.ph {b : Nat} {w0 : World} {u1 u2 u3 : Value} {s : Sn} {t : ByteArray} {w : World} (h : DB b w0 u1 u2 u3 s t w) (x : Int) : DB b w0 u1 u2 u3 (s.to x) t (w.setCell ⟨b, 0, none⟩ (.int .i64 x)) :=
  ⟨h.blk.set (i := 0) (by simp [c10]), h.sv.set_ne (a := ⟨b, 0, none⟩) (own_ne h.a1) (own_ne h.a2) (own_ne h.a3) _, h.a1, h.a2, h.a3, h.nb, h.bel.setCell h.nb _⟩
theorem DB.buf {b : Nat} {w0 : World} {u1 u2 u3 : Value} {s : Sn} {t : ByteArray} {w : World} (h : DB b w0 u1 u2 u3 s t w) (x : ByteArray) : DB b w0 u1 u2 u3 { s with buf := x } t (w.setCell ⟨b, 1, none⟩ (.string x)) :=
  ⟨h.blk.set (i := 1) (by simp [c10]), h.sv.set_ne (a := ⟨b, 1, none⟩) (own_ne h.a1) (own_ne h.a2) (own_ne h.a3) _, h.a1, h.a2, h.a3, h.nb, h.bel.setCell h.nb _⟩
theorem DB.nx {b : Nat} {w0 : World} {u1 u2 u3 : Value} {s : Sn} {t : ByteArray} {w : World} (h : DB b w0 u1 u2 u3 s t w) (x : Nat) : DB b w0 u1 u2 u3 { s with nx := x } t (w.setCell ⟨b, 6, none⟩ (.int .i64 (x : Int))) :=
  ⟨h.blk.set (i := 6) (by simp [c10]), h.sv.set_ne (a := ⟨b, 6, none⟩) (own_ne h.a1) (own_ne h.a2) (own_ne h.a3) _, h.a1, h.a2, h.a3, h.nb, h.bel.setCell h.nb _⟩
theorem DB.sent {b : Nat} {w0 : World} {u1 u2 u3 : Value} {s : Sn} {t : ByteArray} {w : World} (h : DB b w0 u1 u2 u3 s t w) (x : ByteArray) : DB b w0 u1 u2 u3 s x (w.setCell ⟨b, 9, none⟩ (.string x)) :=
  ⟨h.blk.set (i := 9) (by simp [c10]), h.sv.set_ne (a := ⟨b, 9, none⟩) (own_ne h.a1) (own_ne h.a2) (own_ne h.a3) _, h.a1, h.a2, h.a3, h.nb, h.bel.setCell h.nb _⟩
theorem DB.cells {b : Nat} {w0 : World} {u1 u2 u3 : Value} {s : Sn} {t : ByteArray} {w : World} (h : DB b w0 u1 u2 u3 s t w) : w.cell? ⟨b, 0, none⟩ = some (.int .i64 s.ph) ∧ w.cell? ⟨b, 1, none⟩ = some (.string s.buf) ∧ w.cell? ⟨b, 2, none⟩ = some (.string s.he) ∧ w.cell? ⟨b, 3, none⟩ = some (.string s.fr) ∧ w.cell? ⟨b, 4, none⟩ = some (.string s.bo) ∧ w.cell? ⟨b, 5, none⟩ = some u1 ∧ w.cell? ⟨b, 6, none⟩ = some (.int .i64 (s.nx : Int)) ∧ w.cell? ⟨b, 7, none⟩ = some u2 ∧ w.cell? ⟨b, 8, none⟩ = some u3 ∧ w.cell? ⟨b, 9, none⟩ = some (.string t) :=
  ⟨h.blk.cell 0, h.blk.cell 1, h.blk.cell 2, h.blk.cell 3, h.blk.cell 4, h.blk.cell 5, h.blk.cell 6, h.blk.cell 7, h.blk.cell 8, h.blk.cell 9⟩
theorem DB.frees {b : Nat} {w0 : World} {u1 u2 u3 : Value} {s : Sn} {t : ByteArray} {w : World} (h : DB b w0 u1 u2 u3 s t w) : w.frozen? ⟨b, 0, none⟩ = false ∧ w.frozen? ⟨b, 1, none⟩ = false ∧ w.frozen? ⟨b, 6, none⟩ = false ∧ w.frozen? ⟨b, 9, none⟩ = false :=
  ⟨h.blk.free 0, h.blk.free 1, h.blk.free 6, h.blk.free 9⟩
/-- what a method leaves: the dialogue, and all else as it was -/
def DP (b : Nat) (w0 : World) (u1 u2 u3 : Value) (s : Sn) (t : ByteArray) (w : World) (e : Ending) (w' : World) : Prop :=
  e = .returned (.tuple #[]) ∧ DB b w0 u1 u2 u3 s t w' ∧ DO b u2 u3 w w'

set_option maxHeartbeats 4000000 in
set_option maxRecDepth 100000 in
theorem implDecide (b : Nat) (w0 : World) (u1 u2 u3 : Value) (s : Sn) (t : ByteArray) (v : Vd) (w : World) (hk : s.Ok) (h : DB b w0 u1 u2 u3 s t w) :
    Calls Tryz.prog 87 #[.pointer (some ⟨b, 0, none⟩), .agg #[.int .i64 v.1, .int .i64 v.2.1, .string v.2.2]] w fun e w' => DP b w0 u1 u2 u3 (s.dec v) t w e w' := by
  have H : Hid (DB b w0 u1 u2 u3 s t w) := h
  obtain ⟨g1, g2, g3, k1, k2, k3, rfl, rfl, rfl⟩ := h.sv.some hk
  have HV : Hid (s.V.length = s.R.length) := hk.v
  have hl : s.R.length ≤ 20 := hk.r20
  have gb : g3 ≠ b := own_ne h.a3 g3 rfl
  have gl : g3 < w.heap.size := (h.sv.own.2.2 g3 rfl).2
  have bl : b < w.heap.size := h.blk.lt
  clear h hk
  go_enter Tryz.func87, Tryz.ntmps87
  have e8 : w.cell? ⟨b, 8, none⟩ = some (.slice (some ⟨g3, 0, none⟩) s.R.length k3) := H.out.blk.cell 8
  go_upto_region 2 with fail
  generalize hW : World.alloc _ _ = W
  have HBv : Hid (Blk w.heap.size #[.int .i64 v.1, .int .i64 v.2.1, .string v.2.2] W) := by show Blk _ _ _; rw [← hW]; exact Blk.new _ _ _
  have b0 : Below w.heap.size w W := by rw [← hW]; exact below1 _ _
  have HD : Hid (DB b w0 (.slice (some ⟨g1, 0, none⟩) s.R.length k1) (.slice (some ⟨g2, 0, none⟩) s.R.length k2) (.slice (some ⟨g3, 0, none⟩) s.R.length k3) s t W) := DB.below H.out b0
  have z0 : w.heap.size < W.heap.size := HBv.out.lt
  clear hW e8
  go_loopw [12] (fun kv wr => ∃ k : Nat, k ≤ s.R.length ∧ kv = .int .i64 k ∧ Hid (OffL [(.slice (some ⟨g3, 0, none⟩) s.R.length k3)] W wr) ∧ Hid (Vds wr w0.heap.size (.slice (some ⟨g3, 0, none⟩) s.R.length k3) (decP v s.V k))) (fun kv _ => s.R.length - (intOf kv).toNat)
  case atStart => exact ⟨0, Nat.zero_le _, rfl, OffL.of_below (Below.refl _ _), by rw [decP_zero]; exact HD.out.sv.2.2⟩
  case round =>
    obtain ⟨k, hk, rfl, HO, HR⟩ := hrel
    have hne : ∀ c, c ≠ g3 → ∀ v ∈ ([(.slice (some ⟨g3, 0, none⟩) s.R.length k3)] : List Value), v.ownBlock ≠ some c := fun c hc v hv e => by
      simp only [List.mem_singleton] at hv
      subst hv
      cases e
      exact hc rfl
    have HBr : Hid (Blk w.heap.size #[.int .i64 v.1, .int .i64 v.2.1, .string v.2.2] wr) := Blk.offL HBv.out HO.out (hne _ (by omega))
    have HDr : Hid (Blk b (c10 s (.slice (some ⟨g1, 0, none⟩) s.R.length k1) (.slice (some ⟨g2, 0, none⟩) s.R.length k2) (.slice (some ⟨g3, 0, none⟩) s.R.length k3) t) wr) := Blk.offL HD.out.blk HO.out (hne _ (fun e => gb e.symm))
    have zr := HO.out.size
    by_cases hlt : k < s.R.length
    · have hkv : k < s.V.length := by rw [HV.out]; exact hlt
      have VA := HR.out.at.1
      obtain ⟨c0, c1, c2⟩ := VA.cell k (by rw [decP_len]; exact hkv)
      rw [decP_get hkv] at c0 c1 c2
      have f0 := VA.free (k * 3)
      have f1 := VA.free (k * 3 + 1)
      have f2 := VA.free (k * 3 + 2)
      have lt3 := VA.lt
      clear VA
      have HN : Hid (∀ wx, OffL [(.slice (some ⟨g3, 0, none⟩) s.R.length k3)] wr wx → Vds wx w0.heap.size (.slice (some ⟨g3, 0, none⟩) s.R.length k3) (decP v s.V (k + 1)) → ∃ j : Nat, j ≤ s.R.length ∧ Value.int .i64 ((k : Int) + 1) = .int .i64 j ∧ Hid (OffL [(.slice (some ⟨g3, 0, none⟩) s.R.length k3)] W wx) ∧ Hid (Vds wx w0.heap.size (.slice (some ⟨g3, 0, none⟩) s.R.length k3) (decP v s.V j))) :=
        fun wx h1 h2 => ⟨k + 1, by omega, by go_num, HO.out.trans h1, h2⟩
      by_cases h0 : s.V[k].1 = 0
      · have HP : Hid ((decP v s.V k).set k v = decP v s.V (k + 1)) := decP_put hkv h0
        rw [h0] at c0
        clear h0
        generalize s.V[k] = X at *
        go_upto_region 5 with fail
        generalize hwa : World.alloc _ _ = wa
        have ba : Below wr.heap.size wr wa := by rw [← hwa]; exact below1 _ _
        have HRa : Hid (Vds wa w0.heap.size (.slice (some ⟨g3, 0, none⟩) s.R.length k3) (decP v s.V k)) := vds_below HR.out ba (Nat.le_refl _)
        obtain ⟨y0, y1, y2⟩ := (Blk.below HBr.out ba).v3
        have e8 : wa.cell? ⟨b, 8, none⟩ = some (.slice (some ⟨g3, 0, none⟩) s.R.length k3) := (Blk.below HDr.out ba).cell 8
        have lt3a : g3 < wa.heap.size := HRa.out.at.1.lt
        have d0 : wa.cell? ⟨g3, k * 3, none⟩ = some (.int .i64 0) := (ba.cell (p := ⟨g3, k * 3, none⟩) lt3).trans c0
        have d1 : wa.cell? ⟨g3, k * 3 + 1, none⟩ = some (.int .i64 X.2.1) := (ba.cell (p := ⟨g3, k * 3 + 1, none⟩) lt3).trans c1
        have d2 : wa.cell? ⟨g3, k * 3 + 2, none⟩ = some (.string X.2.2) := (ba.cell (p := ⟨g3, k * 3 + 2, none⟩) lt3).trans c2
        have f0 : wa.frozen? ⟨g3, k * 3, none⟩ = false := HRa.out.at.1.free _
        have f1 : wa.frozen? ⟨g3, k * 3 + 1, none⟩ = false := HRa.out.at.1.free _
        have f2 : wa.frozen? ⟨g3, k * 3 + 2, none⟩ = false := HRa.out.at.1.free _
        clear hwa
        go_region
        go_wp2
        go_roundw
        case rel =>
          refine HN.out _ ?_ ?_
          · exact (OffL.of_below ba).trans (((((OffL.of_below (vs := [(.slice (some ⟨g3, 0, none⟩) s.R.length k3)]) (Below.refl wa.heap.size wa)).put (g := g3) rfl _).put (g := g3) rfl _).put (g := g3) rfl _).trans (OffL.of_below (Below.refl _ _).drew))
          · rw [← HP.out]
            exact vds_below (vds_put HRa.out (by rw [decP_len]; exact hkv) v) (Below.refl _ _).drew (Nat.le_refl _)
        case measure => simp [intOf]; omega
      · have HP : Hid (decP v s.V k = decP v s.V (k + 1)) := decP_skip hkv h0
        have h0b : (s.V[k].1 == 0) = false := beq_eq_false_iff_ne.2 h0
        generalize s.V[k] = X at *
        go_wp2
        go_roundw
        case rel =>
          refine HN.out _ (OffL.of_below (below1 _ _)) ?_
          rw [← HP.out]
          exact vds_below HR.out (below1 _ _) (Nat.le_refl _)
        case measure => simp [intOf]; omega
    · obtain rfl : k = s.R.length := by omega
      have ap := HD.out.sv.apart
      have HSr : Hid (SV wr w0.heap.size (.slice (some ⟨g1, 0, none⟩) s.R.length k1) (.slice (some ⟨g2, 0, none⟩) s.R.length k2) (.slice (some ⟨g3, 0, none⟩) s.R.length k3) (s.dec v)) := by
        refine ⟨HO.out.row HD.out.sv.1 (fun g hg u hu e => ?_), HO.out.row HD.out.sv.2.1 (fun g hg u hu e => ?_), ?_⟩
        · simp only [List.mem_singleton] at hu
          subst hu
          exact ap.2.1 g g hg e rfl
        · simp only [List.mem_singleton] at hu
          subst hu
          exact ap.2.2 g g hg e rfl
        · have := HR.out
          rw [← HV.out, decP_end, HV.out] at this
          exact this
      go_wp2
      refine bodyPost_ret (v := .tuple #[]) (by simp [results, Tryz.results87, go_sem]) rfl ?_
      exact ⟨rfl, ⟨HDr.out, HSr.out, HD.out.a1, HD.out.a2, HD.out.a3, HD.out.nb, HD.out.bel.trans (HO.out.below (by intro u hu c hc; simp only [List.mem_singleton] at hu; subst hu; exact (HD.out.sv.own.2.2 c hc).1) HD.out.bel.size)⟩, (DO.of_below b0).trans (OffL.mono HO.out (by intro x hx; simp only [List.mem_singleton] at hx; subst hx; simp))⟩
end Go.Proofs.YtngcjlghjidnjaaGreatDoor
namespace Go.Proofs.YtngcjlghjidnjaaGreatDoor
open Go.ChangeShapes Go.WideShapes Go.ChangeAt Go.RowKit
attribute [local go_sem ↓] Go.wp_at_zero Go.wp_at_succ

set_option maxHeartbeats 4000000 in
set_option maxRecDepth 100000 in
theorem implLose (b : Nat) (w0 : World) (u1 u2 u3 : Value) (s : Sn) (t : ByteArray) (x : ByteArray) (w : World) (hk : s.Ok) (h : DB b w0 u1 u2 u3 s t w) :
    Calls Tryz.prog 40 #[.pointer (some ⟨b, 0, none⟩), .string x] w fun e w' => DP b w0 u1 u2 u3 (s.lost x) t w e w' := by
  have H : Hid (DB b w0 u1 u2 u3 s t w) := h
  have HK : Hid s.Ok := hk
  clear h hk
  go_enter Tryz.func40, Tryz.ntmps40
  go_wp2_with fail
  refine (implDecide b w0 u1 u2 u3 s t (2, 0, x) _ HK.out H.out).mono ?_
  rintro e w1 ⟨rfl, D1, O1⟩
  have HD : Hid (DB b w0 u1 u2 u3 (s.dec (2, 0, x)) t w1) := D1
  have HO : Hid (DO b u2 u3 w w1) := O1
  clear D1 O1
  obtain ⟨c0, c1, c2, c3, c4, c5, c6, c7, c8, c9⟩ := HD.out.cells
  obtain ⟨f0, f1, f6, f9⟩ := HD.out.frees
  go_wp2
  refine bodyPost_ret (v := .tuple #[]) (by simp [results, Tryz.results40, go_sem]) rfl ?_
  exact ⟨rfl, (HD.out.ph 9).buf ⟨#[]⟩, (HO.out.put 0 _).put 1 _⟩

set_option maxHeartbeats 4000000 in
set_option maxRecDepth 100000 in
theorem implSay (b : Nat) (w0 : World) (u1 u2 u3 : Value) (s : Sn) (t : ByteArray) (x : ByteArray) (p : Int) (w : World) (hz : t.size + x.size ≤ 900000000) (h : DB b w0 u1 u2 u3 s t w) :
    Calls Tryz.prog 142 #[.pointer (some ⟨b, 0, none⟩), .string x, .int .i64 p] w fun e w' => DP b w0 u1 u2 u3 (s.to p) (t ++ x) w e w' := by
  have H : Hid (DB b w0 u1 u2 u3 s t w) := h
  clear h
  obtain ⟨c0, c1, c2, c3, c4, c5, c6, c7, c8, c9⟩ := H.out.cells
  obtain ⟨f0, f1, f6, f9⟩ := H.out.frees
  have hadd : ∀ wx : World, (Op.stringOp .add t x).run Tryz.prog wx = .ok (.string (t ++ x)) wx := fun wx => run_string_add_sum wx t x (by omega)
  go_enter Tryz.func142, Tryz.ntmps142
  go_wp2
  refine bodyPost_ret (v := .tuple #[]) (by simp [results, Tryz.results142, go_sem]) rfl ?_
  exact ⟨rfl, (H.out.sent (t ++ x)).ph p, ((DO.of_below (Below.refl _ _)).put 9 _).put 0 _⟩

set_option maxHeartbeats 4000000 in
set_option maxRecDepth 100000 in
theorem implQuit (b : Nat) (w0 : World) (u1 u2 u3 : Value) (s : Sn) (t : ByteArray) (w : World) (hl : LenIn w0) (hz : t.size ≤ 800000000) (h : DB b w0 u1 u2 u3 s t w) :
    Calls Tryz.prog 146 #[.pointer (some ⟨b, 0, none⟩)] w fun e w' => DP b w0 u1 u2 u3 (s.to 8) (t ++ tQuit) w e w' := by
  have H : Hid (DB b w0 u1 u2 u3 s t w) := h
  clear h
  have hq : tQuit.size ≤ 20 := cmd_size 6 ⟨#[]⟩
  go_enter Tryz.func146, Tryz.ntmps146
  go_wp2_with fail
  refine (implCommand 6 ⟨#[]⟩ w (len_below hl H.out.bel) (by decide)).mono ?_
  rintro e w1 ⟨rfl, hb1⟩
  go_wp2_with fail
  refine (implSay b w0 u1 u2 u3 s t tQuit 8 w1 (by omega) (H.out.below hb1)).mono ?_
  rintro e w2 ⟨rfl, D2, O2⟩
  go_wp2
  refine bodyPost_ret (v := .tuple #[]) (by simp [results, Tryz.results146, go_sem]) rfl ?_
  exact ⟨rfl, D2, (DO.of_below hb1).trans O2⟩

set_option maxHeartbeats 4000000 in
set_option maxRecDepth 100000 in
theorem implGive (b : Nat) (w0 : World) (u1 u2 u3 : Value) (s : Sn) (t : ByteArray) (v : Vd) (w : World) (hl : LenIn w0) (hk : s.Ok) (hz : t.size ≤ 800000000) (h : DB b w0 u1 u2 u3 s t w) :
    Calls Tryz.prog 143 #[.pointer (some ⟨b, 0, none⟩), .agg #[.int .i64 v.1, .int .i64 v.2.1, .string v.2.2]] w fun e w' => DP b w0 u1 u2 u3 (s.quit v).1 (t ++ tQuit) w e w' := by
  have H : Hid (DB b w0 u1 u2 u3 s t w) := h
  have HK : Hid s.Ok := hk
  clear h hk
  go_enter Tryz.func143, Tryz.ntmps143
  go_wp2_with fail
  refine (implDecide b w0 u1 u2 u3 s t v _ HK.out (H.out.below (below1 _ _))).mono ?_
  rintro e w1 ⟨rfl, D1, O1⟩
  have HD : Hid (DB b w0 u1 u2 u3 (s.dec v) t w1) := D1
  have HO : Hid (DO b u2 u3 w w1) := (DO.of_below (below1 _ _)).trans O1
  clear D1 O1
  go_wp2_with fail
  refine (implQuit b w0 u1 u2 u3 (s.dec v) t w1 hl hz HD.out).mono ?_
  rintro e w2 ⟨rfl, D2, O2⟩
  go_wp2
  refine bodyPost_ret (v := .tuple #[]) (by simp [results, Tryz.results143, go_sem]) rfl ?_
  exact ⟨rfl, D2, HO.out.trans O2⟩
end Go.Proofs.YtngcjlghjidnjaaGreatDoor
