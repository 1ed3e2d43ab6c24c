import Derived.Test.YtlolnfpfipnfeaaGreatDoorMg26
import Derived.Test.YtlolnfpfipnfeaaGreatDoorMg27
import Derived.Test.YtlolnfpfipnfeaaGreatDoorMg36
import Derived.Test.YtlolnfpfipnfeaaGreatDoorMg32
import Derived.Deep.AppendLies
namespace Go.Proofs.YtlolnfpfipnfeaaGreatDoor
open Go.ChangeShapes Go.WideShapes Go.ChangeAt Go.RowKit
open Pcs

set_option maxHeartbeats 4000000 in
set_option maxRecDepth 100000 in
theorem rdBounceX (b p : Nat) (cv : Value) (B : List UInt8) (w : World) (h : RdAt w b cv B p) (hbw : b < w.heap.size) :
    Calls Tryz.prog 11 #[.pointer (some ⟨b, 0, none⟩)] w fun e w' => (∃ fv, e = .returned (bnV (bncF B p).1 fv) ∧ Fls w' w.heap.size fv (bncF B p).1.fs) ∧ RdAt w' b cv B (bncF B p).2 ∧ Off b w w' := by
  have H : Hid (RdAt w b cv B p) := h
  clear h
  go_enter Tryz.func11, Tryz.ntmps11
  go_wp2_with fail
  generalize hV : w.alloc _ = V0
  have b0 : Below w.heap.size w V0 := by rw [← hV]; exact below1 _ _
  have P0 : Hid (Blk w.heap.size #[.string ⟨#[]⟩, .string ⟨#[]⟩, .slice none 0 0, .string ⟨#[]⟩] V0) := by show Blk _ _ _; rw [← hV]; exact Blk.new _ _ _
  have R0 : Hid (RdAt V0 b cv B p) := H.out.below b0 (Nat.le_refl _)
  have O0 : Hid (Off b w V0) := Off.of_below b0
  have npb : w.heap.size ≠ b := by omega
  clear hV b0
  refine (rdDomX b p cv B _ R0.out).mono ?_
  rintro e w1 ⟨rfl, h1, o1⟩
  obtain ⟨D, hD⟩ : ∃ D, domF B p = D := ⟨_, rfl⟩
  have HD0 : Hid (domF B p = D) := hD
  rw [hD] at h1 ⊢
  have zD : D.1.size ≤ 200 := by rw [← hD]; exact domF_size B p
  have R1 : Hid (RdAt w1 b cv B D.2) := h1
  have O1 : Hid (Off b w w1) := O0.out.trans o1
  have P1 : Hid (Blk w.heap.size #[.string ⟨#[]⟩, .string ⟨#[]⟩, .slice none 0 0, .string ⟨#[]⟩] w1) := P0.out.offB o1 npb
  clear h1 o1 hD
  go_wp2_with fail
  generalize hV : w1.alloc _ = V1
  obtain ⟨q, hq⟩ : ∃ q, q = w1.heap.size := ⟨_, rfl⟩
  have b1 : Below w1.heap.size w1 V1 := by rw [← hV]; exact below1 _ _
  have Q1 : Hid (Blk q #[.string D.1, .string ⟨#[]⟩, .slice none 0 0, .string ⟨#[]⟩] V1) := by show Blk _ _ _; rw [← hV, hq]; exact Blk.new _ _ _
  have nqw : w.heap.size < q := by rw [hq]; exact P1.out.lt
  have nqb : q ≠ b := by omega
  rw [← hq]
  have R1' : Hid (RdAt V1 b cv B D.2) := R1.out.below b1 (Nat.le_refl _)
  have O1' : Hid (Off b w V1) := O1.out.trans (Off.of_below b1)
  have P1' : Hid (Blk w.heap.size #[.string ⟨#[]⟩, .string ⟨#[]⟩, .slice none 0 0, .string ⟨#[]⟩] V1) := P1.out.below b1
  clear hV hq b1
  refine (rdAddrX b D.2 cv B _ R1'.out).mono ?_
  rintro e w2 ⟨rfl, h2, o2⟩
  obtain ⟨A, hA⟩ : ∃ A, addrF B D.2 = A := ⟨_, rfl⟩
  have HA : Hid (addrF B D.2 = A) := hA
  rw [hA] at h2 ⊢
  have zA : A.1.size ≤ 300 := by rw [← hA]; exact addrF_size B D.2
  have R2 : Hid (RdAt w2 b cv B A.2) := h2
  have O2 : Hid (Off b w w2) := O1'.out.trans o2
  have P2 : Hid (Blk w.heap.size #[.string ⟨#[]⟩, .string ⟨#[]⟩, .slice none 0 0, .string ⟨#[]⟩] w2) := P1'.out.offB o2 npb
  have Q2 : Hid (Blk q #[.string D.1, .string ⟨#[]⟩, .slice none 0 0, .string ⟨#[]⟩] w2) := Q1.out.offB o2 nqb
  have c1 : w2.cell? ⟨q, 1, none⟩ = some (.string ⟨#[]⟩) := Q2.out.cell 1
  have f1 := Q2.out.free 1
  clear h2 o2 hA
  go_wp2_with fail
  generalize hV : w2.setCell _ _ = V2
  have Q3 : Hid (Blk q #[.string D.1, .string A.1, .slice none 0 0, .string ⟨#[]⟩] V2) := by show Blk _ _ _; rw [← hV]; exact Q2.out.set (i := 1) (by simp)
  have P3 : Hid (Blk w.heap.size #[.string ⟨#[]⟩, .string ⟨#[]⟩, .slice none 0 0, .string ⟨#[]⟩] V2) := by show Blk _ _ _; rw [← hV]; exact P2.out.other (by omega)
  have O3 : Hid (Off b w V2) := by show Off _ _ _; rw [← hV]; exact O2.out.setHi (by omega)
  have R3 : Hid (RdAt V2 b cv B A.2) := H.out.carry R2.out (by rw [← hV]; exact (Below.refl _ _).setCell (p := ⟨q, 1, none⟩) (by show w.heap.size ≤ q; omega) _)
  clear hV c1 f1 Q1 Q2 P0 P1 P1' P2 R0 R1 R1' R2 O0 O1 O1' O2
  refine (rdNext b A.2 cv B _ R3.out).mono ?_
  rintro e w3 ⟨rfl, h3, o3⟩
  have R4 : Hid (RdAt w3 b cv B (px B A.2)) := h3
  have O4 : Hid (Off b w w3) := O3.out.trans o3
  have P4 : Hid (Blk w.heap.size #[.string ⟨#[]⟩, .string ⟨#[]⟩, .slice none 0 0, .string ⟨#[]⟩] w3) := P3.out.offB o3 npb
  have Q4 : Hid (Blk q #[.string D.1, .string A.1, .slice none 0 0, .string ⟨#[]⟩] w3) := Q3.out.offB o3 nqb
  obtain ⟨F, hF⟩ : ∃ F, flsP B A.2 = F := ⟨_, rfl⟩
  have HF : Hid (flsP B A.2 = F) := hF
  have HF0 : Hid (fltGo (1 + nx B A.2 % 4) B (px B A.2) [] = F) := hF
  have hn0 := nx_lt B A.2
  clear h3 o3 hF P3 Q3 R3 O3
  generalize hn : nx B A.2 = n0 at hn0 HF0 ⊢
  clear hn
  obtain ⟨m0, hm0, hm, hm4⟩ : ∃ m : Nat, 1 + n0 % 4 = m ∧ 1 + (n0 : Int) % 4 = (m : Int) ∧ m ≤ 4 := ⟨1 + n0 % 4, rfl, by omega, by omega⟩
  rw [hm0] at HF0
  clear hm0
  go_wp2_with fail
  go_loopw [4] (fun nv wr => ∃ (n pp : Nat) (acc : List Fl) (a4 : Option Addr) (c4 : Nat), nv = .int .i64 n ∧ n ≤ 4 ∧ acc.length + n ≤ 4 ∧ Hid (RdAt wr b cv B pp) ∧ Hid (Blk q #[.string D.1, .string A.1, .slice a4 acc.length c4, .string ⟨#[]⟩] wr) ∧ Hid (Blk w.heap.size #[.string ⟨#[]⟩, .string ⟨#[]⟩, .slice none 0 0, .string ⟨#[]⟩] wr) ∧ Hid (Fls wr w.heap.size (.slice a4 acc.length c4) acc) ∧ Hid (∀ g, (Value.slice a4 acc.length c4).ownBlock = some g → g ≠ q ∧ g ≠ w.heap.size) ∧ Hid (fltGo n B pp acc = F) ∧ Hid (Off b w wr)) (fun nv _ => (intOf nv).toNat)
  case atStart => exact ⟨m0, px B A.2, [], none, 0, by first | rfl | go_num, hm4, by simpa using hm4, R4, Q4, P4, fls_nil _ _, (fun g hg => by simp [Value.ownBlock] at hg), HF0, O4⟩
  case round =>
    obtain ⟨n, pp, acc, a4, c4, rfl, hn4, hna, Rk, Qk, Pk, Fk, Nk, Gk, Ok⟩ := hrel
    by_cases hn : 0 < n
    · go_wp2_with fail
      refine (rdNext b pp cv B _ Rk.out).mono ?_
      rintro e w4 ⟨rfl, h4, o4⟩
      have Rq0 : Hid (RdAt w4 b cv B (px B pp)) := h4
      have Qq0 : Hid (Blk q #[.string D.1, .string A.1, .slice a4 acc.length c4, .string ⟨#[]⟩] w4) := Qk.out.offB o4 nqb
      have Pq0 : Hid (Blk w.heap.size #[.string ⟨#[]⟩, .string ⟨#[]⟩, .slice none 0 0, .string ⟨#[]⟩] w4) := Pk.out.offB o4 npb
      have Fq0 : Hid (Fls w4 w.heap.size (.slice a4 acc.length c4) acc) := fls_off Fk.out o4 (fun g hg => by have := (fls_own Fk.out g hg).1; omega)
      have Oq0 : Hid (Off b w w4) := Ok.out.trans o4
      have hc := nx_lt B pp
      clear h4 o4 Rk Qk Pk Fk Ok
      obtain ⟨p1, hp1⟩ : ∃ p1, px B pp = p1 := ⟨_, rfl⟩
      obtain ⟨X, hX⟩ : ∃ X, addrF B p1 = X := ⟨_, rfl⟩
      obtain ⟨c, hcE⟩ : ∃ c, nx B pp = c := ⟨_, rfl⟩
      rw [hp1] at Rq0
      rw [hcE] at hc ⊢
      have HAD : Hid (∀ wx : World, RdAt wx b cv B p1 → Calls Tryz.prog 27 #[.pointer (some ⟨b, 0, none⟩)] wx fun e w' => e = .returned (.string X.1) ∧ RdAt w' b cv B X.2 ∧ Off b wx w') := fun wx hx => by rw [← hX]; exact rdAddrX b p1 cv B wx hx
      obtain ⟨m3, em3, hm3, lm3⟩ : ∃ m3 : Nat, c % 3 = m3 ∧ (c : Int) % 3 = (m3 : Int) ∧ m3 < 3 := ⟨c % 3, rfl, by omega, by omega⟩
      obtain ⟨k3, ek3, hk3⟩ : ∃ k3 : Nat, c / 3 = k3 ∧ (c : Int) / 3 = (k3 : Int) := ⟨c / 3, rfl, by omega⟩
      obtain ⟨m4, em4, hm4', lm4⟩ : ∃ m4 : Nat, k3 % 4 = m4 ∧ (k3 : Int) % 4 = (m4 : Int) ∧ m4 < 4 := ⟨k3 % 4, rfl, by omega, by omega⟩
      obtain ⟨y, hy⟩ : ∃ y, stats.getD m3 ⟨#[]⟩ = y := ⟨_, rfl⟩
      obtain ⟨z, hz⟩ : ∃ z, codes.getD m4 0 = z := ⟨_, rfl⟩
      obtain ⟨O1, hO1⟩ : ∃ O : Obj, O = .cells #[.string ⟨#[53, 46, 48, 46, 48]⟩, .string ⟨#[52, 46, 52, 46, 55]⟩, .string ⟨#[53, 46, 49, 50, 51, 46, 57]⟩] 9 (0, 0) := ⟨_, rfl⟩
      have HO1 : Hid (O1 = _) := hO1
      obtain ⟨O2, hO2⟩ : ∃ O : Obj, O = .cells #[.int .i64 0, .int .i64 550, .int .i64 200, .int .i64 599] 3 (0, 0) := ⟨_, rfl⟩
      have HO2 : Hid (O2 = _) := hO2
      obtain ⟨OF, hOF⟩ : ∃ O : Obj, O = .cells #[.string ⟨#[]⟩, .string ⟨#[]⟩, .int .i64 0, .string ⟨#[]⟩] 31 (0, 0) := ⟨_, rfl⟩
      have HOF : Hid (OF = _) := hOF
      clear hO1 hO2 hOF
      have HC1 : Hid (∀ (wx : World) (n1 : Nat), wx.heap[n1]? = some O1 → wx.cell? ⟨n1, m3, none⟩ = some (.string y)) := fun wx n1 hx => by
        rw [HO1.out] at hx
        rw [Lib.cell_of_heap hx, ← hy]
        rcases (show m3 = 0 ∨ m3 = 1 ∨ m3 = 2 by omega) with e | e | e <;> rw [e] <;> rfl
      have HC2 : Hid (∀ (wx : World) (n2 : Nat), wx.heap[n2]? = some O2 → wx.cell? ⟨n2, m4, none⟩ = some (.int .i64 z)) := fun wx n2 hx => by
        rw [HO2.out] at hx
        rw [Lib.cell_of_heap hx, ← hz]
        rcases (show m4 = 0 ∨ m4 = 1 ∨ m4 = 2 ∨ m4 = 3 by omega) with e | e | e | e <;> rw [e] <;> rfl
      have b3a : (m3 : Int) < 3 := by omega
      have hm3t : (c : Int).tmod 3 = (m3 : Int) := by rw [Int.tmod_eq_emod_of_nonneg (by omega)]; exact hm3
      have hm4t : (k3 : Int).tmod 4 = (m4 : Int) := by rw [Int.tmod_eq_emod_of_nonneg (by omega)]; exact hm4'
      have hkb : k3 ≤ 100 := by omega
      have hkw : IntKind.i64.wrap (k3 : Int) = (k3 : Int) := by rw [IntKind.wrap_i64]; omega
      have b4a : (m4 : Int) < 4 := by omega
      obtain ⟨n1, hn1⟩ : ∃ n1, n = n1 + 1 := ⟨n - 1, by omega⟩
      have HN1 : Hid (n = n1 + 1) := hn1
      obtain ⟨P2, hP2⟩ : ∃ P2, someP B X.2 12 = P2 := ⟨_, rfl⟩
      obtain ⟨tb, htb⟩ : ∃ tb, someB B X.2 12 = tb := ⟨_, rfl⟩
      obtain ⟨tx, htx⟩ : ∃ tx, cleanB tb = tx := ⟨_, rfl⟩
      have ztb : tb.size ≤ 12 := by rw [← htb]; exact someB_size _ _ _
      have HG2 : Hid (fltGo n1 B P2 (acc ++ [⟨X.1, y, z, tx⟩]) = F) := by
        show _ = _
        have := Gk.out
        rw [hn1, fltGo, hp1, hX, hcE, em3, ek3, em4, hy, hz, hP2, htb, htx] at this
        exact this
      have HSM : Hid (∀ wx : World, RdAt wx b cv B X.2 → Calls Tryz.prog 29 #[.pointer (some ⟨b, 0, none⟩), .int .i64 12] wx fun e w' => e = .returned (.string tb) ∧ RdAt w' b cv B P2 ∧ Off b wx w') := fun wx hx => by
        have := rdSome b X.2 12 cv B wx hx (by decide)
        rw [htb, hP2] at this
        exact this
      have HCL : Hid (∀ wx : World, Calls Tryz.prog 28 #[.string tb] wx fun e w' => e = .returned (.string tx) ∧ Below wx.heap.size wx w') := fun wx => by rw [← htx]; exact specClean tb wx (by omega)
      clear em3 ek3 em4 hy hz hn1 hP2 htb htx hX hp1 hcE Gk
      go_upto_region 7 with fail
      go_cut [6] from 19 to 48 (fun s wx => ∃ fb, s = .pointer (some ⟨fb, 0, none⟩) ∧ q < fb ∧ Hid (Blk fb #[.string X.1, .string y, .int .i64 z, .string ⟨#[]⟩] wx) ∧ Hid (RdAt wx b cv B X.2) ∧ Hid (Blk q #[.string D.1, .string A.1, .slice a4 acc.length c4, .string ⟨#[]⟩] wx) ∧ Hid (Blk w.heap.size #[.string ⟨#[]⟩, .string ⟨#[]⟩, .slice none 0 0, .string ⟨#[]⟩] wx) ∧ Hid (Fls wx w.heap.size (.slice a4 acc.length c4) acc) ∧ Hid (Off b w wx) ∧ Hid (∀ g, (Value.slice a4 acc.length c4).ownBlock = some g → g ≠ fb))
      case first =>
        have Rq : Hid (RdAt w4.drew b cv B p1) := Rq0.out.below (Below.refl w4.heap.size w4).drew (Nat.le_refl _)
        have Qq : Hid (Blk q #[.string D.1, .string A.1, .slice a4 acc.length c4, .string ⟨#[]⟩] w4.drew) := Qq0.out.below (Below.refl w4.heap.size w4).drew
        have Pq : Hid (Blk w.heap.size #[.string ⟨#[]⟩, .string ⟨#[]⟩, .slice none 0 0, .string ⟨#[]⟩] w4.drew) := Pq0.out.below (Below.refl w4.heap.size w4).drew
        have Fq : Hid (Fls w4.drew w.heap.size (.slice a4 acc.length c4) acc) := fls_below Fq0.out (Below.refl w4.heap.size w4).drew (Nat.le_refl _)
        have Oq : Hid (Off b w w4.drew) := Oq0.out.trans (Off.of_below (Below.refl w4.heap.size w4).drew)
        obtain ⟨YQ, hYQ⟩ : ∃ Y : Array Value, Y = #[.string D.1, .string A.1, .slice a4 acc.length c4, .string ⟨#[]⟩] := ⟨_, rfl⟩
        obtain ⟨ZZ, hZZ⟩ : ∃ Y : Array Value, Y = #[.string ⟨#[]⟩, .string ⟨#[]⟩, .slice none 0 0, .string ⟨#[]⟩] := ⟨_, rfl⟩
        rw [← hYQ] at Qq
        rw [← hZZ] at Pq
        have HYQ : Hid (YQ = _) := hYQ
        have HZZ : Hid (ZZ = _) := hZZ
        have HNB : Hid (∀ g, (Value.slice a4 acc.length c4).ownBlock = some g → g ≠ b) := fun g hg => by have := (fls_own Fq.out g hg).1; omega
        clear hYQ hZZ Rq0 Qq0 Pq0 Fq0 Oq0
        refine wp_region_held_drew (S := fun _ => True) (by kernel_rfl) trivial (fun hHeld => ?_)
        generalize w4.drew = x0 at hHeld Rq Qq Pq Fq Oq ⊢
        refine wpAnyH_take (i := 0) (oi := { dst := some 25, op := Op.move (Operand.tmp 0), type := 34, pos := "l5_bounce.go:162", after := #[], guard := none }) (v := .pointer (some ⟨b, 0, none⟩)) rfl (by kernel_rfl) (by kernel_rfl) (by kernel_rfl) (fun _ _ _ h => h) (Or.inl ⟨by rfl, fun wz hSw => ?_⟩) hHeld ?_
        · clear hHeld hSw
          go_simp
        simp only [Act.put, List.setIfInBounds_toArray, List.set_cons_zero, List.set_cons_succ]
        refine wpAnyH_take (i := 3) (oi := { dst := some 28, op := Op.move (Operand.tmp 5), type := 3, pos := "l5_bounce.go:162", after := #[], guard := none }) (v := .int .i64 (c : Int)) rfl (by kernel_rfl) (by kernel_rfl) (by kernel_rfl) (fun _ _ _ h => h) (Or.inl ⟨by rfl, fun wz hSw => ?_⟩) hHeld ?_
        · clear hHeld hSw
          go_simp
        simp only [Act.put, List.setIfInBounds_toArray, List.set_cons_zero, List.set_cons_succ]
        refine wpAnyH_take (i := 4) (oi := { dst := some 29, op := Op.binOp BinOp.rem 3 (Operand.tmp 28) (Operand.const (Value.int IntKind.i64 3)) 3, type := 3, pos := "l5_bounce.go:162", after := #[{ on := 3, ground := Ground.data }], guard := none }) (v := .int .i64 (m3 : Int)) rfl (by kernel_rfl) (by kernel_rfl) (by kernel_rfl) (fun _ _ _ h => h) (Or.inl ⟨by rfl, fun wz hSw => ?_⟩) hHeld ?_
        · clear hHeld hSw
          go_simp
        simp only [Act.put, List.setIfInBounds_toArray, List.set_cons_zero, List.set_cons_succ]
        refine wpAnyH_take (i := 8) (oi := { dst := some 33, op := Op.move (Operand.tmp 5), type := 3, pos := "l5_bounce.go:162", after := #[], guard := none }) (v := .int .i64 (c : Int)) rfl (by kernel_rfl) (by kernel_rfl) (by kernel_rfl) (fun _ _ _ h => h) (Or.inl ⟨by rfl, fun wz hSw => ?_⟩) hHeld ?_
        · clear hHeld hSw
          go_simp
        simp only [Act.put, List.setIfInBounds_toArray, List.set_cons_zero, List.set_cons_succ]
        refine wpAnyH_take (i := 9) (oi := { dst := some 34, op := Op.binOp BinOp.quo 3 (Operand.tmp 33) (Operand.const (Value.int IntKind.i64 3)) 3, type := 3, pos := "l5_bounce.go:162", after := #[{ on := 8, ground := Ground.data }], guard := none }) (v := .int .i64 (k3 : Int)) rfl (by kernel_rfl) (by kernel_rfl) (by kernel_rfl) (fun _ _ _ h => h) (Or.inl ⟨by rfl, fun wz hSw => ?_⟩) hHeld ?_
        · clear hHeld hSw
          go_simp
        simp only [Act.put, List.setIfInBounds_toArray, List.set_cons_zero, List.set_cons_succ]
        refine wpAnyH_take (i := 10) (oi := { dst := some 35, op := Op.binOp BinOp.rem 3 (Operand.tmp 34) (Operand.const (Value.int IntKind.i64 4)) 3, type := 3, pos := "l5_bounce.go:162", after := #[{ on := 9, ground := Ground.data }], guard := none }) (v := .int .i64 (m4 : Int)) rfl (by kernel_rfl) (by kernel_rfl) (by kernel_rfl) (fun _ _ _ h => h) (Or.inl ⟨by rfl, fun wz hSw => ?_⟩) hHeld ?_
        · clear hHeld hSw
          go_simp
        simp only [Act.put, List.setIfInBounds_toArray, List.set_cons_zero, List.set_cons_succ]
        refine wpAnyH_ready (rs := [1, 2, 7, 14]) (by kernel_rfl) (by simp) ?_
        refine AllReadyH.cons rfl (fun K hK => ?_) (AllReadyH.cons rfl (fun K hK => ?_) (AllReadyH.cons rfl (fun K hK => ?_) (AllReadyH.cons rfl (fun K hK => ?_) AllReadyH.nil)))
        · clear hHeld
          go_simp
          go_at_call 27
          refine (HAD.out _ Rq.out).mono ?_
          rintro e x1 ⟨rfl, h1, o1⟩
          have Rq : Hid (RdAt x1 b cv B X.2) := h1
          have Qq : Hid (Blk q YQ x1) := Qq.out.offB o1 nqb
          have Pq : Hid (Blk w.heap.size ZZ x1) := Pq.out.offB o1 npb
          have Fq : Hid (Fls x1 w.heap.size (.slice a4 acc.length c4) acc) := fls_off Fq.out o1 HNB.out
          have Oq : Hid (Off b w x1) := Oq.out.trans o1
          refine hK.out _ _ trivial (fun hHeld => ?_)
          clear hK K h1 o1
          try simp only [Act.put, List.setIfInBounds_toArray, List.set_cons_zero, List.set_cons_succ]
          refine wpAnyH_ready (rs := [2, 7, 14]) (by kernel_rfl) (by simp) ?_
          refine AllReadyH.cons rfl (fun K hK => ?_) (AllReadyH.cons rfl (fun K hK => ?_) (AllReadyH.cons rfl (fun K hK => ?_) AllReadyH.nil))
          · clear hHeld
            go_simp
            generalize hW : World.alloc x1 _ = x2
            obtain ⟨n1, hnb⟩ : ∃ nb, nb = x1.heap.size := ⟨_, rfl⟩
            have HN1 : Hid (x2.heap[n1]? = some O1) := by show _ = _; rw [← hW, hnb, HO1.out]; exact heap_newB _ _ _
            have hb : Below x1.heap.size x1 x2 := by rw [← hW]; exact below1 _ _
            have Ln1 : Hid (q < n1) := by show _ < _; rw [hnb]; exact Qq.out.lt
            rw [← hnb]
            have Rq : Hid (RdAt x2 b cv B X.2) := Rq.out.below hb (Nat.le_refl _)
            have Qq : Hid (Blk q YQ x2) := Qq.out.below hb
            have Pq : Hid (Blk w.heap.size ZZ x2) := Pq.out.below hb
            have Fq : Hid (Fls x2 w.heap.size (.slice a4 acc.length c4) acc) := fls_below Fq.out hb (Nat.le_refl _)
            have Oq : Hid (Off b w x2) := Oq.out.trans (Off.of_below hb)
            clear hW hnb
            refine hK.out _ _ trivial (fun hHeld => ?_)
            clear hK K hb
            try simp only [Act.put, List.setIfInBounds_toArray, List.set_cons_zero, List.set_cons_succ]
            clear hHeld
            refine wpAnyH_more (T := fun wq => wq.cell? ⟨n1, m3, none⟩ = some (.string y) ∧ True) (fun _ h => trivial) _ _ _ _ ?_
            have hHeld : (fun wq => wq.cell? ⟨n1, m3, none⟩ = some (.string y) ∧ True) x2 := ⟨HC1.out _ _ HN1.out, trivial⟩
            refine wpAnyH_take (i := 5) (oi := { dst := some 30, op := Op.indexAddr 39 (Operand.tmp 27) (Operand.tmp 29), type := 0, pos := "l5_bounce.go:162", after := #[{ on := 2, ground := Ground.data }, { on := 4, ground := Ground.data }], guard := none }) (v := .pointer (some ⟨n1, m3, none⟩)) rfl (by kernel_rfl) (by kernel_rfl) (by kernel_rfl) (fun _ _ _ h => h) (Or.inl ⟨by rfl, fun wz hSw => ?_⟩) hHeld ?_
            · obtain ⟨e0, _⟩ := hSw
              clear hHeld
              go_simp
            simp only [Act.put, List.setIfInBounds_toArray, List.set_cons_zero, List.set_cons_succ]
            refine wpAnyH_take (i := 6) (oi := { dst := some 31, op := Op.load 9 (Operand.tmp 30), type := 9, pos := "l5_bounce.go:162", after := #[{ on := 5, ground := Ground.data }], guard := none }) (v := .string y) rfl (by kernel_rfl) (by kernel_rfl) (by kernel_rfl) (fun _ _ _ h => h) (Or.inl ⟨by rfl, fun wz hSw => ?_⟩) hHeld ?_
            · obtain ⟨e0, _⟩ := hSw
              clear hHeld
              go_simp
            simp only [Act.put, List.setIfInBounds_toArray, List.set_cons_zero, List.set_cons_succ]
            refine wpAnyH_ready (rs := [7, 14]) (by kernel_rfl) (by simp) ?_
            refine AllReadyH.cons rfl (fun K hK => ?_) (AllReadyH.cons rfl (fun K hK => ?_) AllReadyH.nil)
            · clear hHeld
              go_simp
              generalize hW : World.alloc x2 _ = x3
              obtain ⟨n2, hnb⟩ : ∃ nb, nb = x2.heap.size := ⟨_, rfl⟩
              have HN2 : Hid (x3.heap[n2]? = some O2) := by show _ = _; rw [← hW, hnb, HO2.out]; exact heap_newB _ _ _
              have hb : Below x2.heap.size x2 x3 := by rw [← hW]; exact below1 _ _
              have Ln2 : Hid (q < n2) := by show _ < _; rw [hnb]; exact Qq.out.lt
              rw [← hnb]
              have Rq : Hid (RdAt x3 b cv B X.2) := Rq.out.below hb (Nat.le_refl _)
              have Qq : Hid (Blk q YQ x3) := Qq.out.below hb
              have Pq : Hid (Blk w.heap.size ZZ x3) := Pq.out.below hb
              have Fq : Hid (Fls x3 w.heap.size (.slice a4 acc.length c4) acc) := fls_below Fq.out hb (Nat.le_refl _)
              have Oq : Hid (Off b w x3) := Oq.out.trans (Off.of_below hb)
              have HN1 : Hid (x3.heap[n1]? = some O1) := by show _ = _; rw [hb.block n1 (Array.getElem?_eq_some_iff.1 HN1.out).1]; exact HN1.out
              clear hW hnb
              refine hK.out _ _ ⟨HC1.out _ _ HN1.out, trivial⟩ (fun hHeld => ?_)
              clear hK K hb
              try simp only [Act.put, List.setIfInBounds_toArray, List.set_cons_zero, List.set_cons_succ]
              clear hHeld
              refine wpAnyH_more (T := fun wq => wq.cell? ⟨n2, m4, none⟩ = some (.int .i64 z) ∧ wq.cell? ⟨n1, m3, none⟩ = some (.string y) ∧ True) (fun _ h => h.2) _ _ _ _ ?_
              have hHeld : (fun wq => wq.cell? ⟨n2, m4, none⟩ = some (.int .i64 z) ∧ wq.cell? ⟨n1, m3, none⟩ = some (.string y) ∧ True) x3 := ⟨HC2.out _ _ HN2.out, HC1.out _ _ HN1.out, trivial⟩
              refine wpAnyH_take (i := 11) (oi := { dst := some 36, op := Op.indexAddr 59 (Operand.tmp 32) (Operand.tmp 35), type := 0, pos := "l5_bounce.go:162", after := #[{ on := 7, ground := Ground.data }, { on := 10, ground := Ground.data }], guard := none }) (v := .pointer (some ⟨n2, m4, none⟩)) rfl (by kernel_rfl) (by kernel_rfl) (by kernel_rfl) (fun _ _ _ h => h) (Or.inl ⟨by rfl, fun wz hSw => ?_⟩) hHeld ?_
              · obtain ⟨e0, e1, _⟩ := hSw
                clear hHeld
                go_simp
              simp only [Act.put, List.setIfInBounds_toArray, List.set_cons_zero, List.set_cons_succ]
              refine wpAnyH_take (i := 12) (oi := { dst := some 37, op := Op.load 3 (Operand.tmp 36), type := 3, pos := "l5_bounce.go:162", after := #[{ on := 11, ground := Ground.data }], guard := none }) (v := .int .i64 z) rfl (by kernel_rfl) (by kernel_rfl) (by kernel_rfl) (fun _ _ _ h => h) (Or.inl ⟨by rfl, fun wz hSw => ?_⟩) hHeld ?_
              · obtain ⟨e0, e1, _⟩ := hSw
                clear hHeld
                go_simp
              simp only [Act.put, List.setIfInBounds_toArray, List.set_cons_zero, List.set_cons_succ]
              refine wpAnyH_take (i := 13) (oi := { dst := some 38, op := Op.build 31 #[(0, Operand.tmp 26), (1, Operand.tmp 31), (2, Operand.tmp 37)], type := 31, pos := "l5_bounce.go:162", after := #[{ on := 1, ground := Ground.data }, { on := 6, ground := Ground.data }, { on := 12, ground := Ground.data }], guard := none }) (v := .agg #[.string X.1, .string y, .int .i64 z, .string ⟨#[]⟩]) rfl (by kernel_rfl) (by kernel_rfl) (by kernel_rfl) (fun _ _ _ h => h) (Or.inl ⟨by rfl, fun wz hSw => ?_⟩) hHeld ?_
              · obtain ⟨e0, e1, _⟩ := hSw
                clear hHeld
                go_simp
              simp only [Act.put, List.setIfInBounds_toArray, List.set_cons_zero, List.set_cons_succ]
              refine wpAnyH_ready (rs := [14]) (by kernel_rfl) (by simp) ?_
              refine AllReadyH.cons rfl (fun K hK => ?_) AllReadyH.nil
              clear hHeld
              go_simp
              generalize hW : World.alloc x3 _ = x4
              obtain ⟨fb, hnb⟩ : ∃ nb, nb = x3.heap.size := ⟨_, rfl⟩
              have HNf : Hid (x4.heap[fb]? = some OF) := by show _ = _; rw [← hW, hnb, HOF.out]; exact heap_newB _ _ _
              have hb : Below x3.heap.size x3 x4 := by rw [← hW]; exact below1 _ _
              have Lfb : Hid (q < fb) := by show _ < _; rw [hnb]; exact Qq.out.lt
              rw [← hnb]
              have GFB : Hid (∀ g, (Value.slice a4 acc.length c4).ownBlock = some g → g ≠ fb) := fun g hg => by have := (fls_own Fq.out g hg).2; omega
              have Dfn1 : Hid (n1 ≠ fb) := by have := (Array.getElem?_eq_some_iff.1 HN1.out).1; show _ ≠ _; omega
              have Dfn2 : Hid (n2 ≠ fb) := by have := (Array.getElem?_eq_some_iff.1 HN2.out).1; show _ ≠ _; omega
              have Rq : Hid (RdAt x4 b cv B X.2) := Rq.out.below hb (Nat.le_refl _)
              have Qq : Hid (Blk q YQ x4) := Qq.out.below hb
              have Pq : Hid (Blk w.heap.size ZZ x4) := Pq.out.below hb
              have Fq : Hid (Fls x4 w.heap.size (.slice a4 acc.length c4) acc) := fls_below Fq.out hb (Nat.le_refl _)
              have Oq : Hid (Off b w x4) := Oq.out.trans (Off.of_below hb)
              have HN1 : Hid (x4.heap[n1]? = some O1) := by show _ = _; rw [hb.block n1 (Array.getElem?_eq_some_iff.1 HN1.out).1]; exact HN1.out
              have HN2 : Hid (x4.heap[n2]? = some O2) := by show _ = _; rw [hb.block n2 (Array.getElem?_eq_some_iff.1 HN2.out).1]; exact HN2.out
              clear hW hnb
              refine hK.out _ _ ⟨HC2.out _ _ HN2.out, HC1.out _ _ HN1.out, trivial⟩ (fun hHeld => ?_)
              clear hK K hb
              try simp only [Act.put, List.setIfInBounds_toArray, List.set_cons_zero, List.set_cons_succ]
              refine wpAnyH_ready (rs := [15]) (by kernel_rfl) (by simp) ?_
              refine AllReadyH.cons rfl (fun K hK => ?_) AllReadyH.nil
              have HNg := HNf.out
              rw [HOF.out] at HNg
              have z0 : x4.cell? ⟨fb, 0, none⟩ = some (.string ⟨#[]⟩) := by rw [Lib.cell_of_heap HNg]; rfl
              have z1 : x4.cell? ⟨fb, 1, none⟩ = some (.string ⟨#[]⟩) := by rw [Lib.cell_of_heap HNg]; rfl
              have z2 : x4.cell? ⟨fb, 2, none⟩ = some (.int .i64 0) := by rw [Lib.cell_of_heap HNg]; rfl
              have z3 : x4.cell? ⟨fb, 3, none⟩ = some (.string ⟨#[]⟩) := by rw [Lib.cell_of_heap HNg]; rfl
              have g0 : x4.frozen? ⟨fb, 0, none⟩ = false := Lib.frozen_of_heap HNg 0
              have g1 : x4.frozen? ⟨fb, 1, none⟩ = false := Lib.frozen_of_heap HNg 1
              have g2 : x4.frozen? ⟨fb, 2, none⟩ = false := Lib.frozen_of_heap HNg 2
              have g3 : x4.frozen? ⟨fb, 3, none⟩ = false := Lib.frozen_of_heap HNg 3
              clear hHeld
              go_simp
              generalize hV : ((((x4.setCell ⟨fb, 0, none⟩ (.string X.1)).setCell ⟨fb, 1, none⟩ (.string y)).setCell ⟨fb, 2, none⟩ (.int .i64 z)).setCell ⟨fb, 3, none⟩ (.string ⟨#[]⟩)) = x5
              obtain ⟨FBk, o5, b5⟩ : Hid (Blk fb #[.string X.1, .string y, .int .i64 z, .string ⟨#[]⟩] x5) ∧ Off fb x4 x5 ∧ Below w.heap.size x4 x5 := by rw [← hV]; exact set4 HNg (by have := Lfb.out; omega)
              clear hV z0 z1 z2 z3 g0 g1 g2 g3 HNg
              have Rq : Hid (RdAt x5 b cv B X.2) := H.out.carry Rq.out b5
              have Qq : Hid (Blk q YQ x5) := Qq.out.offB o5 (by have := Lfb.out; omega)
              have Pq : Hid (Blk w.heap.size ZZ x5) := Pq.out.offB o5 (by have := Lfb.out; omega)
              have Fq : Hid (Fls x5 w.heap.size (.slice a4 acc.length c4) acc) := fls_off Fq.out o5 GFB.out
              have Oq : Hid (Off b w x5) := off_belowN Oq.out b5
              have HN2 : Hid (x5.heap[n2]? = some O2) := by show _ = _; rw [o5.block n2 (Array.getElem?_eq_some_iff.1 HN2.out).1 Dfn2.out]; exact HN2.out
              have HN1 : Hid (x5.heap[n1]? = some O1) := by show _ = _; rw [o5.block n1 (Array.getElem?_eq_some_iff.1 HN1.out).1 Dfn1.out]; exact HN1.out
              refine hK.out _ _ ⟨HC2.out _ _ HN2.out, HC1.out _ _ HN1.out, trivial⟩ (fun hHeld => ?_)
              clear hK K hHeld o5 b5
              try simp only [Act.put, List.setIfInBounds_toArray, List.set_cons_zero, List.set_cons_succ]
              refine wpAnyH_done (by kernel_rfl) ?_ _
              go_wp2_with fail
              go_meet
              exact ⟨fb, rfl, Lfb.out, FBk, Rq, HYQ.out ▸ Qq, HZZ.out ▸ Pq, Fq, Oq, GFB⟩
            · clear hHeld
              go_simp
              generalize hW : World.alloc x2 _ = x3
              obtain ⟨fb, hnb⟩ : ∃ nb, nb = x2.heap.size := ⟨_, rfl⟩
              have HNf : Hid (x3.heap[fb]? = some OF) := by show _ = _; rw [← hW, hnb, HOF.out]; exact heap_newB _ _ _
              have hb : Below x2.heap.size x2 x3 := by rw [← hW]; exact below1 _ _
              have Lfb : Hid (q < fb) := by show _ < _; rw [hnb]; exact Qq.out.lt
              rw [← hnb]
              have GFB : Hid (∀ g, (Value.slice a4 acc.length c4).ownBlock = some g → g ≠ fb) := fun g hg => by have := (fls_own Fq.out g hg).2; omega
              have Dfn1 : Hid (n1 ≠ fb) := by have := (Array.getElem?_eq_some_iff.1 HN1.out).1; show _ ≠ _; omega
              have Rq : Hid (RdAt x3 b cv B X.2) := Rq.out.below hb (Nat.le_refl _)
              have Qq : Hid (Blk q YQ x3) := Qq.out.below hb
              have Pq : Hid (Blk w.heap.size ZZ x3) := Pq.out.below hb
              have Fq : Hid (Fls x3 w.heap.size (.slice a4 acc.length c4) acc) := fls_below Fq.out hb (Nat.le_refl _)
              have Oq : Hid (Off b w x3) := Oq.out.trans (Off.of_below hb)
              have HN1 : Hid (x3.heap[n1]? = some O1) := by show _ = _; rw [hb.block n1 (Array.getElem?_eq_some_iff.1 HN1.out).1]; exact HN1.out
              clear hW hnb
              refine hK.out _ _ ⟨HC1.out _ _ HN1.out, trivial⟩ (fun hHeld => ?_)
              clear hK K hb
              try simp only [Act.put, List.setIfInBounds_toArray, List.set_cons_zero, List.set_cons_succ]
              refine wpAnyH_ready (rs := [7]) (by kernel_rfl) (by simp) ?_
              refine AllReadyH.cons rfl (fun K hK => ?_) AllReadyH.nil
              clear hHeld
              go_simp
              generalize hW : World.alloc x3 _ = x4
              obtain ⟨n2, hnb⟩ : ∃ nb, nb = x3.heap.size := ⟨_, rfl⟩
              have HN2 : Hid (x4.heap[n2]? = some O2) := by show _ = _; rw [← hW, hnb, HO2.out]; exact heap_newB _ _ _
              have hb : Below x3.heap.size x3 x4 := by rw [← hW]; exact below1 _ _
              have Ln2 : Hid (q < n2) := by show _ < _; rw [hnb]; exact Qq.out.lt
              rw [← hnb]
              have Dfn2 : Hid (n2 ≠ fb) := by have := (Array.getElem?_eq_some_iff.1 HNf.out).1; show _ ≠ _; omega
              have Rq : Hid (RdAt x4 b cv B X.2) := Rq.out.below hb (Nat.le_refl _)
              have Qq : Hid (Blk q YQ x4) := Qq.out.below hb
              have Pq : Hid (Blk w.heap.size ZZ x4) := Pq.out.below hb
              have Fq : Hid (Fls x4 w.heap.size (.slice a4 acc.length c4) acc) := fls_below Fq.out hb (Nat.le_refl _)
              have Oq : Hid (Off b w x4) := Oq.out.trans (Off.of_below hb)
              have HN1 : Hid (x4.heap[n1]? = some O1) := by show _ = _; rw [hb.block n1 (Array.getElem?_eq_some_iff.1 HN1.out).1]; exact HN1.out
              have HNf : Hid (x4.heap[fb]? = some OF) := by show _ = _; rw [hb.block fb (Array.getElem?_eq_some_iff.1 HNf.out).1]; exact HNf.out
              clear hW hnb
              refine hK.out _ _ ⟨HC1.out _ _ HN1.out, trivial⟩ (fun hHeld => ?_)
              clear hK K hb
              try simp only [Act.put, List.setIfInBounds_toArray, List.set_cons_zero, List.set_cons_succ]
              clear hHeld
              refine wpAnyH_more (T := fun wq => wq.cell? ⟨n2, m4, none⟩ = some (.int .i64 z) ∧ wq.cell? ⟨n1, m3, none⟩ = some (.string y) ∧ True) (fun _ h => h.2) _ _ _ _ ?_
              have hHeld : (fun wq => wq.cell? ⟨n2, m4, none⟩ = some (.int .i64 z) ∧ wq.cell? ⟨n1, m3, none⟩ = some (.string y) ∧ True) x4 := ⟨HC2.out _ _ HN2.out, HC1.out _ _ HN1.out, trivial⟩
              refine wpAnyH_take (i := 11) (oi := { dst := some 36, op := Op.indexAddr 59 (Operand.tmp 32) (Operand.tmp 35), type := 0, pos := "l5_bounce.go:162", after := #[{ on := 7, ground := Ground.data }, { on := 10, ground := Ground.data }], guard := none }) (v := .pointer (some ⟨n2, m4, none⟩)) rfl (by kernel_rfl) (by kernel_rfl) (by kernel_rfl) (fun _ _ _ h => h) (Or.inl ⟨by rfl, fun wz hSw => ?_⟩) hHeld ?_
              · obtain ⟨e0, e1, _⟩ := hSw
                clear hHeld
                go_simp
              simp only [Act.put, List.setIfInBounds_toArray, List.set_cons_zero, List.set_cons_succ]
              refine wpAnyH_take (i := 12) (oi := { dst := some 37, op := Op.load 3 (Operand.tmp 36), type := 3, pos := "l5_bounce.go:162", after := #[{ on := 11, ground := Ground.data }], guard := none }) (v := .int .i64 z) rfl (by kernel_rfl) (by kernel_rfl) (by kernel_rfl) (fun _ _ _ h => h) (Or.inl ⟨by rfl, fun wz hSw => ?_⟩) hHeld ?_
              · obtain ⟨e0, e1, _⟩ := hSw
                clear hHeld
                go_simp
              simp only [Act.put, List.setIfInBounds_toArray, List.set_cons_zero, List.set_cons_succ]
              refine wpAnyH_take (i := 13) (oi := { dst := some 38, op := Op.build 31 #[(0, Operand.tmp 26), (1, Operand.tmp 31), (2, Operand.tmp 37)], type := 31, pos := "l5_bounce.go:162", after := #[{ on := 1, ground := Ground.data }, { on := 6, ground := Ground.data }, { on := 12, ground := Ground.data }], guard := none }) (v := .agg #[.string X.1, .string y, .int .i64 z, .string ⟨#[]⟩]) rfl (by kernel_rfl) (by kernel_rfl) (by kernel_rfl) (fun _ _ _ h => h) (Or.inl ⟨by rfl, fun wz hSw => ?_⟩) hHeld ?_
              · obtain ⟨e0, e1, _⟩ := hSw
                clear hHeld
                go_simp
              simp only [Act.put, List.setIfInBounds_toArray, List.set_cons_zero, List.set_cons_succ]
              refine wpAnyH_ready (rs := [15]) (by kernel_rfl) (by simp) ?_
              refine AllReadyH.cons rfl (fun K hK => ?_) AllReadyH.nil
              have HNg := HNf.out
              rw [HOF.out] at HNg
              have z0 : x4.cell? ⟨fb, 0, none⟩ = some (.string ⟨#[]⟩) := by rw [Lib.cell_of_heap HNg]; rfl
              have z1 : x4.cell? ⟨fb, 1, none⟩ = some (.string ⟨#[]⟩) := by rw [Lib.cell_of_heap HNg]; rfl
              have z2 : x4.cell? ⟨fb, 2, none⟩ = some (.int .i64 0) := by rw [Lib.cell_of_heap HNg]; rfl
              have z3 : x4.cell? ⟨fb, 3, none⟩ = some (.string ⟨#[]⟩) := by rw [Lib.cell_of_heap HNg]; rfl
              have g0 : x4.frozen? ⟨fb, 0, none⟩ = false := Lib.frozen_of_heap HNg 0
              have g1 : x4.frozen? ⟨fb, 1, none⟩ = false := Lib.frozen_of_heap HNg 1
              have g2 : x4.frozen? ⟨fb, 2, none⟩ = false := Lib.frozen_of_heap HNg 2
              have g3 : x4.frozen? ⟨fb, 3, none⟩ = false := Lib.frozen_of_heap HNg 3
              clear hHeld
              go_simp
              generalize hV : ((((x4.setCell ⟨fb, 0, none⟩ (.string X.1)).setCell ⟨fb, 1, none⟩ (.string y)).setCell ⟨fb, 2, none⟩ (.int .i64 z)).setCell ⟨fb, 3, none⟩ (.string ⟨#[]⟩)) = x5
              obtain ⟨FBk, o5, b5⟩ : Hid (Blk fb #[.string X.1, .string y, .int .i64 z, .string ⟨#[]⟩] x5) ∧ Off fb x4 x5 ∧ Below w.heap.size x4 x5 := by rw [← hV]; exact set4 HNg (by have := Lfb.out; omega)
              clear hV z0 z1 z2 z3 g0 g1 g2 g3 HNg
              have Rq : Hid (RdAt x5 b cv B X.2) := H.out.carry Rq.out b5
              have Qq : Hid (Blk q YQ x5) := Qq.out.offB o5 (by have := Lfb.out; omega)
              have Pq : Hid (Blk w.heap.size ZZ x5) := Pq.out.offB o5 (by have := Lfb.out; omega)
              have Fq : Hid (Fls x5 w.heap.size (.slice a4 acc.length c4) acc) := fls_off Fq.out o5 GFB.out
              have Oq : Hid (Off b w x5) := off_belowN Oq.out b5
              have HN2 : Hid (x5.heap[n2]? = some O2) := by show _ = _; rw [o5.block n2 (Array.getElem?_eq_some_iff.1 HN2.out).1 Dfn2.out]; exact HN2.out
              have HN1 : Hid (x5.heap[n1]? = some O1) := by show _ = _; rw [o5.block n1 (Array.getElem?_eq_some_iff.1 HN1.out).1 Dfn1.out]; exact HN1.out
              refine hK.out _ _ ⟨HC2.out _ _ HN2.out, HC1.out _ _ HN1.out, trivial⟩ (fun hHeld => ?_)
              clear hK K hHeld o5 b5
              try simp only [Act.put, List.setIfInBounds_toArray, List.set_cons_zero, List.set_cons_succ]
              refine wpAnyH_done (by kernel_rfl) ?_ _
              go_wp2_with fail
              go_meet
              exact ⟨fb, rfl, Lfb.out, FBk, Rq, HYQ.out ▸ Qq, HZZ.out ▸ Pq, Fq, Oq, GFB⟩
          · clear hHeld
            go_simp
            generalize hW : World.alloc x1 _ = x2
            obtain ⟨n2, hnb⟩ : ∃ nb, nb = x1.heap.size := ⟨_, rfl⟩
            have HN2 : Hid (x2.heap[n2]? = some O2) := by show _ = _; rw [← hW, hnb, HO2.out]; exact heap_newB _ _ _
            have hb : Below x1.heap.size x1 x2 := by rw [← hW]; exact below1 _ _
            have Ln2 : Hid (q < n2) := by show _ < _; rw [hnb]; exact Qq.out.lt
            rw [← hnb]
            have Rq : Hid (RdAt x2 b cv B X.2) := Rq.out.below hb (Nat.le_refl _)
            have Qq : Hid (Blk q YQ x2) := Qq.out.below hb
            have Pq : Hid (Blk w.heap.size ZZ x2) := Pq.out.below hb
            have Fq : Hid (Fls x2 w.heap.size (.slice a4 acc.length c4) acc) := fls_below Fq.out hb (Nat.le_refl _)
            have Oq : Hid (Off b w x2) := Oq.out.trans (Off.of_below hb)
            clear hW hnb
            refine hK.out _ _ trivial (fun hHeld => ?_)
            clear hK K hb
            try simp only [Act.put, List.setIfInBounds_toArray, List.set_cons_zero, List.set_cons_succ]
            clear hHeld
            refine wpAnyH_more (T := fun wq => wq.cell? ⟨n2, m4, none⟩ = some (.int .i64 z) ∧ True) (fun _ h => trivial) _ _ _ _ ?_
            have hHeld : (fun wq => wq.cell? ⟨n2, m4, none⟩ = some (.int .i64 z) ∧ True) x2 := ⟨HC2.out _ _ HN2.out, trivial⟩
            refine wpAnyH_take (i := 11) (oi := { dst := some 36, op := Op.indexAddr 59 (Operand.tmp 32) (Operand.tmp 35), type := 0, pos := "l5_bounce.go:162", after := #[{ on := 7, ground := Ground.data }, { on := 10, ground := Ground.data }], guard := none }) (v := .pointer (some ⟨n2, m4, none⟩)) rfl (by kernel_rfl) (by kernel_rfl) (by kernel_rfl) (fun _ _ _ h => h) (Or.inl ⟨by rfl, fun wz hSw => ?_⟩) hHeld ?_
            · obtain ⟨e0, _⟩ := hSw
              clear hHeld
              go_simp
            simp only [Act.put, List.setIfInBounds_toArray, List.set_cons_zero, List.set_cons_succ]
            refine wpAnyH_take (i := 12) (oi := { dst := some 37, op := Op.load 3 (Operand.tmp 36), type := 3, pos := "l5_bounce.go:162", after := #[{ on := 11, ground := Ground.data }], guard := none }) (v := .int .i64 z) rfl (by kernel_rfl) (by kernel_rfl) (by kernel_rfl) (fun _ _ _ h => h) (Or.inl ⟨by rfl, fun wz hSw => ?_⟩) hHeld ?_
            · obtain ⟨e0, _⟩ := hSw
              clear hHeld
              go_simp
            simp only [Act.put, List.setIfInBounds_toArray, List.set_cons_zero, List.set_cons_succ]
            refine wpAnyH_ready (rs := [2, 14]) (by kernel_rfl) (by simp) ?_
            refine AllReadyH.cons rfl (fun K hK => ?_) (AllReadyH.cons rfl (fun K hK => ?_) AllReadyH.nil)
            · clear hHeld
              go_simp
              generalize hW : World.alloc x2 _ = x3
              obtain ⟨n1, hnb⟩ : ∃ nb, nb = x2.heap.size := ⟨_, rfl⟩
              have HN1 : Hid (x3.heap[n1]? = some O1) := by show _ = _; rw [← hW, hnb, HO1.out]; exact heap_newB _ _ _
              have hb : Below x2.heap.size x2 x3 := by rw [← hW]; exact below1 _ _
              have Ln1 : Hid (q < n1) := by show _ < _; rw [hnb]; exact Qq.out.lt
              rw [← hnb]
              have Rq : Hid (RdAt x3 b cv B X.2) := Rq.out.below hb (Nat.le_refl _)
              have Qq : Hid (Blk q YQ x3) := Qq.out.below hb
              have Pq : Hid (Blk w.heap.size ZZ x3) := Pq.out.below hb
              have Fq : Hid (Fls x3 w.heap.size (.slice a4 acc.length c4) acc) := fls_below Fq.out hb (Nat.le_refl _)
              have Oq : Hid (Off b w x3) := Oq.out.trans (Off.of_below hb)
              have HN2 : Hid (x3.heap[n2]? = some O2) := by show _ = _; rw [hb.block n2 (Array.getElem?_eq_some_iff.1 HN2.out).1]; exact HN2.out
              clear hW hnb
              refine hK.out _ _ ⟨HC2.out _ _ HN2.out, trivial⟩ (fun hHeld => ?_)
              clear hK K hb
              try simp only [Act.put, List.setIfInBounds_toArray, List.set_cons_zero, List.set_cons_succ]
              clear hHeld
              refine wpAnyH_more (T := fun wq => wq.cell? ⟨n1, m3, none⟩ = some (.string y) ∧ wq.cell? ⟨n2, m4, none⟩ = some (.int .i64 z) ∧ True) (fun _ h => h.2) _ _ _ _ ?_
              have hHeld : (fun wq => wq.cell? ⟨n1, m3, none⟩ = some (.string y) ∧ wq.cell? ⟨n2, m4, none⟩ = some (.int .i64 z) ∧ True) x3 := ⟨HC1.out _ _ HN1.out, HC2.out _ _ HN2.out, trivial⟩
              refine wpAnyH_take (i := 5) (oi := { dst := some 30, op := Op.indexAddr 39 (Operand.tmp 27) (Operand.tmp 29), type := 0, pos := "l5_bounce.go:162", after := #[{ on := 2, ground := Ground.data }, { on := 4, ground := Ground.data }], guard := none }) (v := .pointer (some ⟨n1, m3, none⟩)) rfl (by kernel_rfl) (by kernel_rfl) (by kernel_rfl) (fun _ _ _ h => h) (Or.inl ⟨by rfl, fun wz hSw => ?_⟩) hHeld ?_
              · obtain ⟨e0, e1, _⟩ := hSw
                clear hHeld
                go_simp
              simp only [Act.put, List.setIfInBounds_toArray, List.set_cons_zero, List.set_cons_succ]
              refine wpAnyH_take (i := 6) (oi := { dst := some 31, op := Op.load 9 (Operand.tmp 30), type := 9, pos := "l5_bounce.go:162", after := #[{ on := 5, ground := Ground.data }], guard := none }) (v := .string y) rfl (by kernel_rfl) (by kernel_rfl) (by kernel_rfl) (fun _ _ _ h => h) (Or.inl ⟨by rfl, fun wz hSw => ?_⟩) hHeld ?_
              · obtain ⟨e0, e1, _⟩ := hSw
                clear hHeld
                go_simp
              simp only [Act.put, List.setIfInBounds_toArray, List.set_cons_zero, List.set_cons_succ]
              refine wpAnyH_take (i := 13) (oi := { dst := some 38, op := Op.build 31 #[(0, Operand.tmp 26), (1, Operand.tmp 31), (2, Operand.tmp 37)], type := 31, pos := "l5_bounce.go:162", after := #[{ on := 1, ground := Ground.data }, { on := 6, ground := Ground.data }, { on := 12, ground := Ground.data }], guard := none }) (v := .agg #[.string X.1, .string y, .int .i64 z, .string ⟨#[]⟩]) rfl (by kernel_rfl) (by kernel_rfl) (by kernel_rfl) (fun _ _ _ h => h) (Or.inl ⟨by rfl, fun wz hSw => ?_⟩) hHeld ?_
              · obtain ⟨e0, e1, _⟩ := hSw
                clear hHeld
                go_simp
              simp only [Act.put, List.setIfInBounds_toArray, List.set_cons_zero, List.set_cons_succ]
              refine wpAnyH_ready (rs := [14]) (by kernel_rfl) (by simp) ?_
              refine AllReadyH.cons rfl (fun K hK => ?_) AllReadyH.nil
              clear hHeld
              go_simp
              generalize hW : World.alloc x3 _ = x4
              obtain ⟨fb, hnb⟩ : ∃ nb, nb = x3.heap.size := ⟨_, rfl⟩
              have HNf : Hid (x4.heap[fb]? = some OF) := by show _ = _; rw [← hW, hnb, HOF.out]; exact heap_newB _ _ _
              have hb : Below x3.heap.size x3 x4 := by rw [← hW]; exact below1 _ _
              have Lfb : Hid (q < fb) := by show _ < _; rw [hnb]; exact Qq.out.lt
              rw [← hnb]
              have GFB : Hid (∀ g, (Value.slice a4 acc.length c4).ownBlock = some g → g ≠ fb) := fun g hg => by have := (fls_own Fq.out g hg).2; omega
              have Dfn2 : Hid (n2 ≠ fb) := by have := (Array.getElem?_eq_some_iff.1 HN2.out).1; show _ ≠ _; omega
              have Dfn1 : Hid (n1 ≠ fb) := by have := (Array.getElem?_eq_some_iff.1 HN1.out).1; show _ ≠ _; omega
              have Rq : Hid (RdAt x4 b cv B X.2) := Rq.out.below hb (Nat.le_refl _)
              have Qq : Hid (Blk q YQ x4) := Qq.out.below hb
              have Pq : Hid (Blk w.heap.size ZZ x4) := Pq.out.below hb
              have Fq : Hid (Fls x4 w.heap.size (.slice a4 acc.length c4) acc) := fls_below Fq.out hb (Nat.le_refl _)
              have Oq : Hid (Off b w x4) := Oq.out.trans (Off.of_below hb)
              have HN2 : Hid (x4.heap[n2]? = some O2) := by show _ = _; rw [hb.block n2 (Array.getElem?_eq_some_iff.1 HN2.out).1]; exact HN2.out
              have HN1 : Hid (x4.heap[n1]? = some O1) := by show _ = _; rw [hb.block n1 (Array.getElem?_eq_some_iff.1 HN1.out).1]; exact HN1.out
              clear hW hnb
              refine hK.out _ _ ⟨HC1.out _ _ HN1.out, HC2.out _ _ HN2.out, trivial⟩ (fun hHeld => ?_)
              clear hK K hb
              try simp only [Act.put, List.setIfInBounds_toArray, List.set_cons_zero, List.set_cons_succ]
              refine wpAnyH_ready (rs := [15]) (by kernel_rfl) (by simp) ?_
              refine AllReadyH.cons rfl (fun K hK => ?_) AllReadyH.nil
              have HNg := HNf.out
              rw [HOF.out] at HNg
              have z0 : x4.cell? ⟨fb, 0, none⟩ = some (.string ⟨#[]⟩) := by rw [Lib.cell_of_heap HNg]; rfl
              have z1 : x4.cell? ⟨fb, 1, none⟩ = some (.string ⟨#[]⟩) := by rw [Lib.cell_of_heap HNg]; rfl
              have z2 : x4.cell? ⟨fb, 2, none⟩ = some (.int .i64 0) := by rw [Lib.cell_of_heap HNg]; rfl
              have z3 : x4.cell? ⟨fb, 3, none⟩ = some (.string ⟨#[]⟩) := by rw [Lib.cell_of_heap HNg]; rfl
              have g0 : x4.frozen? ⟨fb, 0, none⟩ = false := Lib.frozen_of_heap HNg 0
              have g1 : x4.frozen? ⟨fb, 1, none⟩ = false := Lib.frozen_of_heap HNg 1
              have g2 : x4.frozen? ⟨fb, 2, none⟩ = false := Lib.frozen_of_heap HNg 2
              have g3 : x4.frozen? ⟨fb, 3, none⟩ = false := Lib.frozen_of_heap HNg 3
              clear hHeld
              go_simp
              generalize hV : ((((x4.setCell ⟨fb, 0, none⟩ (.string X.1)).setCell ⟨fb, 1, none⟩ (.string y)).setCell ⟨fb, 2, none⟩ (.int .i64 z)).setCell ⟨fb, 3, none⟩ (.string ⟨#[]⟩)) = x5
              obtain ⟨FBk, o5, b5⟩ : Hid (Blk fb #[.string X.1, .string y, .int .i64 z, .string ⟨#[]⟩] x5) ∧ Off fb x4 x5 ∧ Below w.heap.size x4 x5 := by rw [← hV]; exact set4 HNg (by have := Lfb.out; omega)
              clear hV z0 z1 z2 z3 g0 g1 g2 g3 HNg
              have Rq : Hid (RdAt x5 b cv B X.2) := H.out.carry Rq.out b5
              have Qq : Hid (Blk q YQ x5) := Qq.out.offB o5 (by have := Lfb.out; omega)
              have Pq : Hid (Blk w.heap.size ZZ x5) := Pq.out.offB o5 (by have := Lfb.out; omega)
              have Fq : Hid (Fls x5 w.heap.size (.slice a4 acc.length c4) acc) := fls_off Fq.out o5 GFB.out
              have Oq : Hid (Off b w x5) := off_belowN Oq.out b5
              have HN1 : Hid (x5.heap[n1]? = some O1) := by show _ = _; rw [o5.block n1 (Array.getElem?_eq_some_iff.1 HN1.out).1 Dfn1.out]; exact HN1.out
              have HN2 : Hid (x5.heap[n2]? = some O2) := by show _ = _; rw [o5.block n2 (Array.getElem?_eq_some_iff.1 HN2.out).1 Dfn2.out]; exact HN2.out
              refine hK.out _ _ ⟨HC1.out _ _ HN1.out, HC2.out _ _ HN2.out, trivial⟩ (fun hHeld => ?_)
              clear hK K hHeld o5 b5
              try simp only [Act.put, List.setIfInBounds_toArray, List.set_cons_zero, List.set_cons_succ]
              refine wpAnyH_done (by kernel_rfl) ?_ _
              go_wp2_with fail
              go_meet
              exact ⟨fb, rfl, Lfb.out, FBk, Rq, HYQ.out ▸ Qq, HZZ.out ▸ Pq, Fq, Oq, GFB⟩
            · clear hHeld
              go_simp
              generalize hW : World.alloc x2 _ = x3
              obtain ⟨fb, hnb⟩ : ∃ nb, nb = x2.heap.size := ⟨_, rfl⟩
              have HNf : Hid (x3.heap[fb]? = some OF) := by show _ = _; rw [← hW, hnb, HOF.out]; exact heap_newB _ _ _
              have hb : Below x2.heap.size x2 x3 := by rw [← hW]; exact below1 _ _
              have Lfb : Hid (q < fb) := by show _ < _; rw [hnb]; exact Qq.out.lt
              rw [← hnb]
              have GFB : Hid (∀ g, (Value.slice a4 acc.length c4).ownBlock = some g → g ≠ fb) := fun g hg => by have := (fls_own Fq.out g hg).2; omega
              have Dfn2 : Hid (n2 ≠ fb) := by have := (Array.getElem?_eq_some_iff.1 HN2.out).1; show _ ≠ _; omega
              have Rq : Hid (RdAt x3 b cv B X.2) := Rq.out.below hb (Nat.le_refl _)
              have Qq : Hid (Blk q YQ x3) := Qq.out.below hb
              have Pq : Hid (Blk w.heap.size ZZ x3) := Pq.out.below hb
              have Fq : Hid (Fls x3 w.heap.size (.slice a4 acc.length c4) acc) := fls_below Fq.out hb (Nat.le_refl _)
              have Oq : Hid (Off b w x3) := Oq.out.trans (Off.of_below hb)
              have HN2 : Hid (x3.heap[n2]? = some O2) := by show _ = _; rw [hb.block n2 (Array.getElem?_eq_some_iff.1 HN2.out).1]; exact HN2.out
              clear hW hnb
              refine hK.out _ _ ⟨HC2.out _ _ HN2.out, trivial⟩ (fun hHeld => ?_)
              clear hK K hb
              try simp only [Act.put, List.setIfInBounds_toArray, List.set_cons_zero, List.set_cons_succ]
              refine wpAnyH_ready (rs := [2]) (by kernel_rfl) (by simp) ?_
              refine AllReadyH.cons rfl (fun K hK => ?_) AllReadyH.nil
              clear hHeld
              go_simp
              generalize hW : World.alloc x3 _ = x4
              obtain ⟨n1, hnb⟩ : ∃ nb, nb = x3.heap.size := ⟨_, rfl⟩
              have HN1 : Hid (x4.heap[n1]? = some O1) := by show _ = _; rw [← hW, hnb, HO1.out]; exact heap_newB _ _ _
              have hb : Below x3.heap.size x3 x4 := by rw [← hW]; exact below1 _ _
              have Ln1 : Hid (q < n1) := by show _ < _; rw [hnb]; exact Qq.out.lt
              rw [← hnb]
              have Dfn1 : Hid (n1 ≠ fb) := by have := (Array.getElem?_eq_some_iff.1 HNf.out).1; show _ ≠ _; omega
              have Rq : Hid (RdAt x4 b cv B X.2) := Rq.out.below hb (Nat.le_refl _)
              have Qq : Hid (Blk q YQ x4) := Qq.out.below hb
              have Pq : Hid (Blk w.heap.size ZZ x4) := Pq.out.below hb
              have Fq : Hid (Fls x4 w.heap.size (.slice a4 acc.length c4) acc) := fls_below Fq.out hb (Nat.le_refl _)
              have Oq : Hid (Off b w x4) := Oq.out.trans (Off.of_below hb)
              have HN2 : Hid (x4.heap[n2]? = some O2) := by show _ = _; rw [hb.block n2 (Array.getElem?_eq_some_iff.1 HN2.out).1]; exact HN2.out
              have HNf : Hid (x4.heap[fb]? = some OF) := by show _ = _; rw [hb.block fb (Array.getElem?_eq_some_iff.1 HNf.out).1]; exact HNf.out
              clear hW hnb
              refine hK.out _ _ ⟨HC2.out _ _ HN2.out, trivial⟩ (fun hHeld => ?_)
              clear hK K hb
              try simp only [Act.put, List.setIfInBounds_toArray, List.set_cons_zero, List.set_cons_succ]
              clear hHeld
              refine wpAnyH_more (T := fun wq => wq.cell? ⟨n1, m3, none⟩ = some (.string y) ∧ wq.cell? ⟨n2, m4, none⟩ = some (.int .i64 z) ∧ True) (fun _ h => h.2) _ _ _ _ ?_
              have hHeld : (fun wq => wq.cell? ⟨n1, m3, none⟩ = some (.string y) ∧ wq.cell? ⟨n2, m4, none⟩ = some (.int .i64 z) ∧ True) x4 := ⟨HC1.out _ _ HN1.out, HC2.out _ _ HN2.out, trivial⟩
              refine wpAnyH_take (i := 5) (oi := { dst := some 30, op := Op.indexAddr 39 (Operand.tmp 27) (Operand.tmp 29), type := 0, pos := "l5_bounce.go:162", after := #[{ on := 2, ground := Ground.data }, { on := 4, ground := Ground.data }], guard := none }) (v := .pointer (some ⟨n1, m3, none⟩)) rfl (by kernel_rfl) (by kernel_rfl) (by kernel_rfl) (fun _ _ _ h => h) (Or.inl ⟨by rfl, fun wz hSw => ?_⟩) hHeld ?_
              · obtain ⟨e0, e1, _⟩ := hSw
                clear hHeld
                go_simp
              simp only [Act.put, List.setIfInBounds_toArray, List.set_cons_zero, List.set_cons_succ]
              refine wpAnyH_take (i := 6) (oi := { dst := some 31, op := Op.load 9 (Operand.tmp 30), type := 9, pos := "l5_bounce.go:162", after := #[{ on := 5, ground := Ground.data }], guard := none }) (v := .string y) rfl (by kernel_rfl) (by kernel_rfl) (by kernel_rfl) (fun _ _ _ h => h) (Or.inl ⟨by rfl, fun wz hSw => ?_⟩) hHeld ?_
              · obtain ⟨e0, e1, _⟩ := hSw
                clear hHeld
                go_simp
              simp only [Act.put, List.setIfInBounds_toArray, List.set_cons_zero, List.set_cons_succ]
              refine wpAnyH_take (i := 13) (oi := { dst := some 38, op := Op.build 31 #[(0, Operand.tmp 26), (1, Operand.tmp 31), (2, Operand.tmp 37)], type := 31, pos := "l5_bounce.go:162", after := #[{ on := 1, ground := Ground.data }, { on := 6, ground := Ground.data }, { on := 12, ground := Ground.data }], guard := none }) (v := .agg #[.string X.1, .string y, .int .i64 z, .string ⟨#[]⟩]) rfl (by kernel_rfl) (by kernel_rfl) (by kernel_rfl) (fun _ _ _ h => h) (Or.inl ⟨by rfl, fun wz hSw => ?_⟩) hHeld ?_
              · obtain ⟨e0, e1, _⟩ := hSw
                clear hHeld
                go_simp
              simp only [Act.put, List.setIfInBounds_toArray, List.set_cons_zero, List.set_cons_succ]
              refine wpAnyH_ready (rs := [15]) (by kernel_rfl) (by simp) ?_
              refine AllReadyH.cons rfl (fun K hK => ?_) AllReadyH.nil
              have HNg := HNf.out
              rw [HOF.out] at HNg
              have z0 : x4.cell? ⟨fb, 0, none⟩ = some (.string ⟨#[]⟩) := by rw [Lib.cell_of_heap HNg]; rfl
              have z1 : x4.cell? ⟨fb, 1, none⟩ = some (.string ⟨#[]⟩) := by rw [Lib.cell_of_heap HNg]; rfl
              have z2 : x4.cell? ⟨fb, 2, none⟩ = some (.int .i64 0) := by rw [Lib.cell_of_heap HNg]; rfl
              have z3 : x4.cell? ⟨fb, 3, none⟩ = some (.string ⟨#[]⟩) := by rw [Lib.cell_of_heap HNg]; rfl
              have g0 : x4.frozen? ⟨fb, 0, none⟩ = false := Lib.frozen_of_heap HNg 0
              have g1 : x4.frozen? ⟨fb, 1, none⟩ = false := Lib.frozen_of_heap HNg 1
              have g2 : x4.frozen? ⟨fb, 2, none⟩ = false := Lib.frozen_of_heap HNg 2
              have g3 : x4.frozen? ⟨fb, 3, none⟩ = false := Lib.frozen_of_heap HNg 3
              clear hHeld
              go_simp
              generalize hV : ((((x4.setCell ⟨fb, 0, none⟩ (.string X.1)).setCell ⟨fb, 1, none⟩ (.string y)).setCell ⟨fb, 2, none⟩ (.int .i64 z)).setCell ⟨fb, 3, none⟩ (.string ⟨#[]⟩)) = x5
              obtain ⟨FBk, o5, b5⟩ : Hid (Blk fb #[.string X.1, .string y, .int .i64 z, .string ⟨#[]⟩] x5) ∧ Off fb x4 x5 ∧ Below w.heap.size x4 x5 := by rw [← hV]; exact set4 HNg (by have := Lfb.out; omega)
              clear hV z0 z1 z2 z3 g0 g1 g2 g3 HNg
              have Rq : Hid (RdAt x5 b cv B X.2) := H.out.carry Rq.out b5
              have Qq : Hid (Blk q YQ x5) := Qq.out.offB o5 (by have := Lfb.out; omega)
              have Pq : Hid (Blk w.heap.size ZZ x5) := Pq.out.offB o5 (by have := Lfb.out; omega)
              have Fq : Hid (Fls x5 w.heap.size (.slice a4 acc.length c4) acc) := fls_off Fq.out o5 GFB.out
              have Oq : Hid (Off b w x5) := off_belowN Oq.out b5
              have HN1 : Hid (x5.heap[n1]? = some O1) := by show _ = _; rw [o5.block n1 (Array.getElem?_eq_some_iff.1 HN1.out).1 Dfn1.out]; exact HN1.out
              have HN2 : Hid (x5.heap[n2]? = some O2) := by show _ = _; rw [o5.block n2 (Array.getElem?_eq_some_iff.1 HN2.out).1 Dfn2.out]; exact HN2.out
              refine hK.out _ _ ⟨HC1.out _ _ HN1.out, HC2.out _ _ HN2.out, trivial⟩ (fun hHeld => ?_)
              clear hK K hHeld o5 b5
              try simp only [Act.put, List.setIfInBounds_toArray, List.set_cons_zero, List.set_cons_succ]
              refine wpAnyH_done (by kernel_rfl) ?_ _
              go_wp2_with fail
              go_meet
              exact ⟨fb, rfl, Lfb.out, FBk, Rq, HYQ.out ▸ Qq, HZZ.out ▸ Pq, Fq, Oq, GFB⟩
          · clear hHeld
            go_simp
            generalize hW : World.alloc x1 _ = x2
            obtain ⟨fb, hnb⟩ : ∃ nb, nb = x1.heap.size := ⟨_, rfl⟩
            have HNf : Hid (x2.heap[fb]? = some OF) := by show _ = _; rw [← hW, hnb, HOF.out]; exact heap_newB _ _ _
            have hb : Below x1.heap.size x1 x2 := by rw [← hW]; exact below1 _ _
            have Lfb : Hid (q < fb) := by show _ < _; rw [hnb]; exact Qq.out.lt
            rw [← hnb]
            have GFB : Hid (∀ g, (Value.slice a4 acc.length c4).ownBlock = some g → g ≠ fb) := fun g hg => by have := (fls_own Fq.out g hg).2; omega
            have Rq : Hid (RdAt x2 b cv B X.2) := Rq.out.below hb (Nat.le_refl _)
            have Qq : Hid (Blk q YQ x2) := Qq.out.below hb
            have Pq : Hid (Blk w.heap.size ZZ x2) := Pq.out.below hb
            have Fq : Hid (Fls x2 w.heap.size (.slice a4 acc.length c4) acc) := fls_below Fq.out hb (Nat.le_refl _)
            have Oq : Hid (Off b w x2) := Oq.out.trans (Off.of_below hb)
            clear hW hnb
            refine hK.out _ _ trivial (fun hHeld => ?_)
            clear hK K hb
            try simp only [Act.put, List.setIfInBounds_toArray, List.set_cons_zero, List.set_cons_succ]
            refine wpAnyH_ready (rs := [2, 7]) (by kernel_rfl) (by simp) ?_
            refine AllReadyH.cons rfl (fun K hK => ?_) (AllReadyH.cons rfl (fun K hK => ?_) AllReadyH.nil)
            · clear hHeld
              go_simp
              generalize hW : World.alloc x2 _ = x3
              obtain ⟨n1, hnb⟩ : ∃ nb, nb = x2.heap.size := ⟨_, rfl⟩
              have HN1 : Hid (x3.heap[n1]? = some O1) := by show _ = _; rw [← hW, hnb, HO1.out]; exact heap_newB _ _ _
              have hb : Below x2.heap.size x2 x3 := by rw [← hW]; exact below1 _ _
              have Ln1 : Hid (q < n1) := by show _ < _; rw [hnb]; exact Qq.out.lt
              rw [← hnb]
              have Dfn1 : Hid (n1 ≠ fb) := by have := (Array.getElem?_eq_some_iff.1 HNf.out).1; show _ ≠ _; omega
              have Rq : Hid (RdAt x3 b cv B X.2) := Rq.out.below hb (Nat.le_refl _)
              have Qq : Hid (Blk q YQ x3) := Qq.out.below hb
              have Pq : Hid (Blk w.heap.size ZZ x3) := Pq.out.below hb
              have Fq : Hid (Fls x3 w.heap.size (.slice a4 acc.length c4) acc) := fls_below Fq.out hb (Nat.le_refl _)
              have Oq : Hid (Off b w x3) := Oq.out.trans (Off.of_below hb)
              have HNf : Hid (x3.heap[fb]? = some OF) := by show _ = _; rw [hb.block fb (Array.getElem?_eq_some_iff.1 HNf.out).1]; exact HNf.out
              clear hW hnb
              refine hK.out _ _ trivial (fun hHeld => ?_)
              clear hK K hb
              try simp only [Act.put, List.setIfInBounds_toArray, List.set_cons_zero, List.set_cons_succ]
              clear hHeld
              refine wpAnyH_more (T := fun wq => wq.cell? ⟨n1, m3, none⟩ = some (.string y) ∧ True) (fun _ h => trivial) _ _ _ _ ?_
              have hHeld : (fun wq => wq.cell? ⟨n1, m3, none⟩ = some (.string y) ∧ True) x3 := ⟨HC1.out _ _ HN1.out, trivial⟩
              refine wpAnyH_take (i := 5) (oi := { dst := some 30, op := Op.indexAddr 39 (Operand.tmp 27) (Operand.tmp 29), type := 0, pos := "l5_bounce.go:162", after := #[{ on := 2, ground := Ground.data }, { on := 4, ground := Ground.data }], guard := none }) (v := .pointer (some ⟨n1, m3, none⟩)) rfl (by kernel_rfl) (by kernel_rfl) (by kernel_rfl) (fun _ _ _ h => h) (Or.inl ⟨by rfl, fun wz hSw => ?_⟩) hHeld ?_
              · obtain ⟨e0, _⟩ := hSw
                clear hHeld
                go_simp
              simp only [Act.put, List.setIfInBounds_toArray, List.set_cons_zero, List.set_cons_succ]
              refine wpAnyH_take (i := 6) (oi := { dst := some 31, op := Op.load 9 (Operand.tmp 30), type := 9, pos := "l5_bounce.go:162", after := #[{ on := 5, ground := Ground.data }], guard := none }) (v := .string y) rfl (by kernel_rfl) (by kernel_rfl) (by kernel_rfl) (fun _ _ _ h => h) (Or.inl ⟨by rfl, fun wz hSw => ?_⟩) hHeld ?_
              · obtain ⟨e0, _⟩ := hSw
                clear hHeld
                go_simp
              simp only [Act.put, List.setIfInBounds_toArray, List.set_cons_zero, List.set_cons_succ]
              refine wpAnyH_ready (rs := [7]) (by kernel_rfl) (by simp) ?_
              refine AllReadyH.cons rfl (fun K hK => ?_) AllReadyH.nil
              clear hHeld
              go_simp
              generalize hW : World.alloc x3 _ = x4
              obtain ⟨n2, hnb⟩ : ∃ nb, nb = x3.heap.size := ⟨_, rfl⟩
              have HN2 : Hid (x4.heap[n2]? = some O2) := by show _ = _; rw [← hW, hnb, HO2.out]; exact heap_newB _ _ _
              have hb : Below x3.heap.size x3 x4 := by rw [← hW]; exact below1 _ _
              have Ln2 : Hid (q < n2) := by show _ < _; rw [hnb]; exact Qq.out.lt
              rw [← hnb]
              have Dfn2 : Hid (n2 ≠ fb) := by have := (Array.getElem?_eq_some_iff.1 HNf.out).1; show _ ≠ _; omega
              have Rq : Hid (RdAt x4 b cv B X.2) := Rq.out.below hb (Nat.le_refl _)
              have Qq : Hid (Blk q YQ x4) := Qq.out.below hb
              have Pq : Hid (Blk w.heap.size ZZ x4) := Pq.out.below hb
              have Fq : Hid (Fls x4 w.heap.size (.slice a4 acc.length c4) acc) := fls_below Fq.out hb (Nat.le_refl _)
              have Oq : Hid (Off b w x4) := Oq.out.trans (Off.of_below hb)
              have HNf : Hid (x4.heap[fb]? = some OF) := by show _ = _; rw [hb.block fb (Array.getElem?_eq_some_iff.1 HNf.out).1]; exact HNf.out
              have HN1 : Hid (x4.heap[n1]? = some O1) := by show _ = _; rw [hb.block n1 (Array.getElem?_eq_some_iff.1 HN1.out).1]; exact HN1.out
              clear hW hnb
              refine hK.out _ _ ⟨HC1.out _ _ HN1.out, trivial⟩ (fun hHeld => ?_)
              clear hK K hb
              try simp only [Act.put, List.setIfInBounds_toArray, List.set_cons_zero, List.set_cons_succ]
              clear hHeld
              refine wpAnyH_more (T := fun wq => wq.cell? ⟨n2, m4, none⟩ = some (.int .i64 z) ∧ wq.cell? ⟨n1, m3, none⟩ = some (.string y) ∧ True) (fun _ h => h.2) _ _ _ _ ?_
              have hHeld : (fun wq => wq.cell? ⟨n2, m4, none⟩ = some (.int .i64 z) ∧ wq.cell? ⟨n1, m3, none⟩ = some (.string y) ∧ True) x4 := ⟨HC2.out _ _ HN2.out, HC1.out _ _ HN1.out, trivial⟩
              refine wpAnyH_take (i := 11) (oi := { dst := some 36, op := Op.indexAddr 59 (Operand.tmp 32) (Operand.tmp 35), type := 0, pos := "l5_bounce.go:162", after := #[{ on := 7, ground := Ground.data }, { on := 10, ground := Ground.data }], guard := none }) (v := .pointer (some ⟨n2, m4, none⟩)) rfl (by kernel_rfl) (by kernel_rfl) (by kernel_rfl) (fun _ _ _ h => h) (Or.inl ⟨by rfl, fun wz hSw => ?_⟩) hHeld ?_
              · obtain ⟨e0, e1, _⟩ := hSw
                clear hHeld
                go_simp
              simp only [Act.put, List.setIfInBounds_toArray, List.set_cons_zero, List.set_cons_succ]
              refine wpAnyH_take (i := 12) (oi := { dst := some 37, op := Op.load 3 (Operand.tmp 36), type := 3, pos := "l5_bounce.go:162", after := #[{ on := 11, ground := Ground.data }], guard := none }) (v := .int .i64 z) rfl (by kernel_rfl) (by kernel_rfl) (by kernel_rfl) (fun _ _ _ h => h) (Or.inl ⟨by rfl, fun wz hSw => ?_⟩) hHeld ?_
              · obtain ⟨e0, e1, _⟩ := hSw
                clear hHeld
                go_simp
              simp only [Act.put, List.setIfInBounds_toArray, List.set_cons_zero, List.set_cons_succ]
              refine wpAnyH_take (i := 13) (oi := { dst := some 38, op := Op.build 31 #[(0, Operand.tmp 26), (1, Operand.tmp 31), (2, Operand.tmp 37)], type := 31, pos := "l5_bounce.go:162", after := #[{ on := 1, ground := Ground.data }, { on := 6, ground := Ground.data }, { on := 12, ground := Ground.data }], guard := none }) (v := .agg #[.string X.1, .string y, .int .i64 z, .string ⟨#[]⟩]) rfl (by kernel_rfl) (by kernel_rfl) (by kernel_rfl) (fun _ _ _ h => h) (Or.inl ⟨by rfl, fun wz hSw => ?_⟩) hHeld ?_
              · obtain ⟨e0, e1, _⟩ := hSw
                clear hHeld
                go_simp
              simp only [Act.put, List.setIfInBounds_toArray, List.set_cons_zero, List.set_cons_succ]
              refine wpAnyH_ready (rs := [15]) (by kernel_rfl) (by simp) ?_
              refine AllReadyH.cons rfl (fun K hK => ?_) AllReadyH.nil
              have HNg := HNf.out
              rw [HOF.out] at HNg
              have z0 : x4.cell? ⟨fb, 0, none⟩ = some (.string ⟨#[]⟩) := by rw [Lib.cell_of_heap HNg]; rfl
              have z1 : x4.cell? ⟨fb, 1, none⟩ = some (.string ⟨#[]⟩) := by rw [Lib.cell_of_heap HNg]; rfl
              have z2 : x4.cell? ⟨fb, 2, none⟩ = some (.int .i64 0) := by rw [Lib.cell_of_heap HNg]; rfl
              have z3 : x4.cell? ⟨fb, 3, none⟩ = some (.string ⟨#[]⟩) := by rw [Lib.cell_of_heap HNg]; rfl
              have g0 : x4.frozen? ⟨fb, 0, none⟩ = false := Lib.frozen_of_heap HNg 0
              have g1 : x4.frozen? ⟨fb, 1, none⟩ = false := Lib.frozen_of_heap HNg 1
              have g2 : x4.frozen? ⟨fb, 2, none⟩ = false := Lib.frozen_of_heap HNg 2
              have g3 : x4.frozen? ⟨fb, 3, none⟩ = false := Lib.frozen_of_heap HNg 3
              clear hHeld
              go_simp
              generalize hV : ((((x4.setCell ⟨fb, 0, none⟩ (.string X.1)).setCell ⟨fb, 1, none⟩ (.string y)).setCell ⟨fb, 2, none⟩ (.int .i64 z)).setCell ⟨fb, 3, none⟩ (.string ⟨#[]⟩)) = x5
              obtain ⟨FBk, o5, b5⟩ : Hid (Blk fb #[.string X.1, .string y, .int .i64 z, .string ⟨#[]⟩] x5) ∧ Off fb x4 x5 ∧ Below w.heap.size x4 x5 := by rw [← hV]; exact set4 HNg (by have := Lfb.out; omega)
              clear hV z0 z1 z2 z3 g0 g1 g2 g3 HNg
              have Rq : Hid (RdAt x5 b cv B X.2) := H.out.carry Rq.out b5
              have Qq : Hid (Blk q YQ x5) := Qq.out.offB o5 (by have := Lfb.out; omega)
              have Pq : Hid (Blk w.heap.size ZZ x5) := Pq.out.offB o5 (by have := Lfb.out; omega)
              have Fq : Hid (Fls x5 w.heap.size (.slice a4 acc.length c4) acc) := fls_off Fq.out o5 GFB.out
              have Oq : Hid (Off b w x5) := off_belowN Oq.out b5
              have HN2 : Hid (x5.heap[n2]? = some O2) := by show _ = _; rw [o5.block n2 (Array.getElem?_eq_some_iff.1 HN2.out).1 Dfn2.out]; exact HN2.out
              have HN1 : Hid (x5.heap[n1]? = some O1) := by show _ = _; rw [o5.block n1 (Array.getElem?_eq_some_iff.1 HN1.out).1 Dfn1.out]; exact HN1.out
              refine hK.out _ _ ⟨HC2.out _ _ HN2.out, HC1.out _ _ HN1.out, trivial⟩ (fun hHeld => ?_)
              clear hK K hHeld o5 b5
              try simp only [Act.put, List.setIfInBounds_toArray, List.set_cons_zero, List.set_cons_succ]
              refine wpAnyH_done (by kernel_rfl) ?_ _
              go_wp2_with fail
              go_meet
              exact ⟨fb, rfl, Lfb.out, FBk, Rq, HYQ.out ▸ Qq, HZZ.out ▸ Pq, Fq, Oq, GFB⟩
            · clear hHeld
              go_simp
              generalize hW : World.alloc x2 _ = x3
              obtain ⟨n2, hnb⟩ : ∃ nb, nb = x2.heap.size := ⟨_, rfl⟩
              have HN2 : Hid (x3.heap[n2]? = some O2) := by show _ = _; rw [← hW, hnb, HO2.out]; exact heap_newB _ _ _
              have hb : Below x2.heap.size x2 x3 := by rw [← hW]; exact below1 _ _
              have Ln2 : Hid (q < n2) := by show _ < _; rw [hnb]; exact Qq.out.lt
              rw [← hnb]
              have Dfn2 : Hid (n2 ≠ fb) := by have := (Array.getElem?_eq_some_iff.1 HNf.out).1; show _ ≠ _; omega
              have Rq : Hid (RdAt x3 b cv B X.2) := Rq.out.below hb (Nat.le_refl _)
              have Qq : Hid (Blk q YQ x3) := Qq.out.below hb
              have Pq : Hid (Blk w.heap.size ZZ x3) := Pq.out.below hb
              have Fq : Hid (Fls x3 w.heap.size (.slice a4 acc.length c4) acc) := fls_below Fq.out hb (Nat.le_refl _)
              have Oq : Hid (Off b w x3) := Oq.out.trans (Off.of_below hb)
              have HNf : Hid (x3.heap[fb]? = some OF) := by show _ = _; rw [hb.block fb (Array.getElem?_eq_some_iff.1 HNf.out).1]; exact HNf.out
              clear hW hnb
              refine hK.out _ _ trivial (fun hHeld => ?_)
              clear hK K hb
              try simp only [Act.put, List.setIfInBounds_toArray, List.set_cons_zero, List.set_cons_succ]
              clear hHeld
              refine wpAnyH_more (T := fun wq => wq.cell? ⟨n2, m4, none⟩ = some (.int .i64 z) ∧ True) (fun _ h => trivial) _ _ _ _ ?_
              have hHeld : (fun wq => wq.cell? ⟨n2, m4, none⟩ = some (.int .i64 z) ∧ True) x3 := ⟨HC2.out _ _ HN2.out, trivial⟩
              refine wpAnyH_take (i := 11) (oi := { dst := some 36, op := Op.indexAddr 59 (Operand.tmp 32) (Operand.tmp 35), type := 0, pos := "l5_bounce.go:162", after := #[{ on := 7, ground := Ground.data }, { on := 10, ground := Ground.data }], guard := none }) (v := .pointer (some ⟨n2, m4, none⟩)) rfl (by kernel_rfl) (by kernel_rfl) (by kernel_rfl) (fun _ _ _ h => h) (Or.inl ⟨by rfl, fun wz hSw => ?_⟩) hHeld ?_
              · obtain ⟨e0, _⟩ := hSw
                clear hHeld
                go_simp
              simp only [Act.put, List.setIfInBounds_toArray, List.set_cons_zero, List.set_cons_succ]
              refine wpAnyH_take (i := 12) (oi := { dst := some 37, op := Op.load 3 (Operand.tmp 36), type := 3, pos := "l5_bounce.go:162", after := #[{ on := 11, ground := Ground.data }], guard := none }) (v := .int .i64 z) rfl (by kernel_rfl) (by kernel_rfl) (by kernel_rfl) (fun _ _ _ h => h) (Or.inl ⟨by rfl, fun wz hSw => ?_⟩) hHeld ?_
              · obtain ⟨e0, _⟩ := hSw
                clear hHeld
                go_simp
              simp only [Act.put, List.setIfInBounds_toArray, List.set_cons_zero, List.set_cons_succ]
              refine wpAnyH_ready (rs := [2]) (by kernel_rfl) (by simp) ?_
              refine AllReadyH.cons rfl (fun K hK => ?_) AllReadyH.nil
              clear hHeld
              go_simp
              generalize hW : World.alloc x3 _ = x4
              obtain ⟨n1, hnb⟩ : ∃ nb, nb = x3.heap.size := ⟨_, rfl⟩
              have HN1 : Hid (x4.heap[n1]? = some O1) := by show _ = _; rw [← hW, hnb, HO1.out]; exact heap_newB _ _ _
              have hb : Below x3.heap.size x3 x4 := by rw [← hW]; exact below1 _ _
              have Ln1 : Hid (q < n1) := by show _ < _; rw [hnb]; exact Qq.out.lt
              rw [← hnb]
              have Dfn1 : Hid (n1 ≠ fb) := by have := (Array.getElem?_eq_some_iff.1 HNf.out).1; show _ ≠ _; omega
              have Rq : Hid (RdAt x4 b cv B X.2) := Rq.out.below hb (Nat.le_refl _)
              have Qq : Hid (Blk q YQ x4) := Qq.out.below hb
              have Pq : Hid (Blk w.heap.size ZZ x4) := Pq.out.below hb
              have Fq : Hid (Fls x4 w.heap.size (.slice a4 acc.length c4) acc) := fls_below Fq.out hb (Nat.le_refl _)
              have Oq : Hid (Off b w x4) := Oq.out.trans (Off.of_below hb)
              have HNf : Hid (x4.heap[fb]? = some OF) := by show _ = _; rw [hb.block fb (Array.getElem?_eq_some_iff.1 HNf.out).1]; exact HNf.out
              have HN2 : Hid (x4.heap[n2]? = some O2) := by show _ = _; rw [hb.block n2 (Array.getElem?_eq_some_iff.1 HN2.out).1]; exact HN2.out
              clear hW hnb
              refine hK.out _ _ ⟨HC2.out _ _ HN2.out, trivial⟩ (fun hHeld => ?_)
              clear hK K hb
              try simp only [Act.put, List.setIfInBounds_toArray, List.set_cons_zero, List.set_cons_succ]
              clear hHeld
              refine wpAnyH_more (T := fun wq => wq.cell? ⟨n1, m3, none⟩ = some (.string y) ∧ wq.cell? ⟨n2, m4, none⟩ = some (.int .i64 z) ∧ True) (fun _ h => h.2) _ _ _ _ ?_
              have hHeld : (fun wq => wq.cell? ⟨n1, m3, none⟩ = some (.string y) ∧ wq.cell? ⟨n2, m4, none⟩ = some (.int .i64 z) ∧ True) x4 := ⟨HC1.out _ _ HN1.out, HC2.out _ _ HN2.out, trivial⟩
              refine wpAnyH_take (i := 5) (oi := { dst := some 30, op := Op.indexAddr 39 (Operand.tmp 27) (Operand.tmp 29), type := 0, pos := "l5_bounce.go:162", after := #[{ on := 2, ground := Ground.data }, { on := 4, ground := Ground.data }], guard := none }) (v := .pointer (some ⟨n1, m3, none⟩)) rfl (by kernel_rfl) (by kernel_rfl) (by kernel_rfl) (fun _ _ _ h => h) (Or.inl ⟨by rfl, fun wz hSw => ?_⟩) hHeld ?_
              · obtain ⟨e0, e1, _⟩ := hSw
                clear hHeld
                go_simp
              simp only [Act.put, List.setIfInBounds_toArray, List.set_cons_zero, List.set_cons_succ]
              refine wpAnyH_take (i := 6) (oi := { dst := some 31, op := Op.load 9 (Operand.tmp 30), type := 9, pos := "l5_bounce.go:162", after := #[{ on := 5, ground := Ground.data }], guard := none }) (v := .string y) rfl (by kernel_rfl) (by kernel_rfl) (by kernel_rfl) (fun _ _ _ h => h) (Or.inl ⟨by rfl, fun wz hSw => ?_⟩) hHeld ?_
              · obtain ⟨e0, e1, _⟩ := hSw
                clear hHeld
                go_simp
              simp only [Act.put, List.setIfInBounds_toArray, List.set_cons_zero, List.set_cons_succ]
              refine wpAnyH_take (i := 13) (oi := { dst := some 38, op := Op.build 31 #[(0, Operand.tmp 26), (1, Operand.tmp 31), (2, Operand.tmp 37)], type := 31, pos := "l5_bounce.go:162", after := #[{ on := 1, ground := Ground.data }, { on := 6, ground := Ground.data }, { on := 12, ground := Ground.data }], guard := none }) (v := .agg #[.string X.1, .string y, .int .i64 z, .string ⟨#[]⟩]) rfl (by kernel_rfl) (by kernel_rfl) (by kernel_rfl) (fun _ _ _ h => h) (Or.inl ⟨by rfl, fun wz hSw => ?_⟩) hHeld ?_
              · obtain ⟨e0, e1, _⟩ := hSw
                clear hHeld
                go_simp
              simp only [Act.put, List.setIfInBounds_toArray, List.set_cons_zero, List.set_cons_succ]
              refine wpAnyH_ready (rs := [15]) (by kernel_rfl) (by simp) ?_
              refine AllReadyH.cons rfl (fun K hK => ?_) AllReadyH.nil
              have HNg := HNf.out
              rw [HOF.out] at HNg
              have z0 : x4.cell? ⟨fb, 0, none⟩ = some (.string ⟨#[]⟩) := by rw [Lib.cell_of_heap HNg]; rfl
              have z1 : x4.cell? ⟨fb, 1, none⟩ = some (.string ⟨#[]⟩) := by rw [Lib.cell_of_heap HNg]; rfl
              have z2 : x4.cell? ⟨fb, 2, none⟩ = some (.int .i64 0) := by rw [Lib.cell_of_heap HNg]; rfl
              have z3 : x4.cell? ⟨fb, 3, none⟩ = some (.string ⟨#[]⟩) := by rw [Lib.cell_of_heap HNg]; rfl
              have g0 : x4.frozen? ⟨fb, 0, none⟩ = false := Lib.frozen_of_heap HNg 0
              have g1 : x4.frozen? ⟨fb, 1, none⟩ = false := Lib.frozen_of_heap HNg 1
              have g2 : x4.frozen? ⟨fb, 2, none⟩ = false := Lib.frozen_of_heap HNg 2
              have g3 : x4.frozen? ⟨fb, 3, none⟩ = false := Lib.frozen_of_heap HNg 3
              clear hHeld
              go_simp
              generalize hV : ((((x4.setCell ⟨fb, 0, none⟩ (.string X.1)).setCell ⟨fb, 1, none⟩ (.string y)).setCell ⟨fb, 2, none⟩ (.int .i64 z)).setCell ⟨fb, 3, none⟩ (.string ⟨#[]⟩)) = x5
              obtain ⟨FBk, o5, b5⟩ : Hid (Blk fb #[.string X.1, .string y, .int .i64 z, .string ⟨#[]⟩] x5) ∧ Off fb x4 x5 ∧ Below w.heap.size x4 x5 := by rw [← hV]; exact set4 HNg (by have := Lfb.out; omega)
              clear hV z0 z1 z2 z3 g0 g1 g2 g3 HNg
              have Rq : Hid (RdAt x5 b cv B X.2) := H.out.carry Rq.out b5
              have Qq : Hid (Blk q YQ x5) := Qq.out.offB o5 (by have := Lfb.out; omega)
              have Pq : Hid (Blk w.heap.size ZZ x5) := Pq.out.offB o5 (by have := Lfb.out; omega)
              have Fq : Hid (Fls x5 w.heap.size (.slice a4 acc.length c4) acc) := fls_off Fq.out o5 GFB.out
              have Oq : Hid (Off b w x5) := off_belowN Oq.out b5
              have HN1 : Hid (x5.heap[n1]? = some O1) := by show _ = _; rw [o5.block n1 (Array.getElem?_eq_some_iff.1 HN1.out).1 Dfn1.out]; exact HN1.out
              have HN2 : Hid (x5.heap[n2]? = some O2) := by show _ = _; rw [o5.block n2 (Array.getElem?_eq_some_iff.1 HN2.out).1 Dfn2.out]; exact HN2.out
              refine hK.out _ _ ⟨HC1.out _ _ HN1.out, HC2.out _ _ HN2.out, trivial⟩ (fun hHeld => ?_)
              clear hK K hHeld o5 b5
              try simp only [Act.put, List.setIfInBounds_toArray, List.set_cons_zero, List.set_cons_succ]
              refine wpAnyH_done (by kernel_rfl) ?_ _
              go_wp2_with fail
              go_meet
              exact ⟨fb, rfl, Lfb.out, FBk, Rq, HYQ.out ▸ Qq, HZZ.out ▸ Pq, Fq, Oq, GFB⟩
        · clear hHeld
          go_simp
          generalize hW : World.alloc x0 _ = x1
          obtain ⟨n1, hnb⟩ : ∃ nb, nb = x0.heap.size := ⟨_, rfl⟩
          have HN1 : Hid (x1.heap[n1]? = some O1) := by show _ = _; rw [← hW, hnb, HO1.out]; exact heap_newB _ _ _
          have hb : Below x0.heap.size x0 x1 := by rw [← hW]; exact below1 _ _
          have Ln1 : Hid (q < n1) := by show _ < _; rw [hnb]; exact Qq.out.lt
          rw [← hnb]
          have Rq : Hid (RdAt x1 b cv B p1) := Rq.out.below hb (Nat.le_refl _)
          have Qq : Hid (Blk q YQ x1) := Qq.out.below hb
          have Pq : Hid (Blk w.heap.size ZZ x1) := Pq.out.below hb
          have Fq : Hid (Fls x1 w.heap.size (.slice a4 acc.length c4) acc) := fls_below Fq.out hb (Nat.le_refl _)
          have Oq : Hid (Off b w x1) := Oq.out.trans (Off.of_below hb)
          clear hW hnb
          refine hK.out _ _ trivial (fun hHeld => ?_)
          clear hK K hb
          try simp only [Act.put, List.setIfInBounds_toArray, List.set_cons_zero, List.set_cons_succ]
          clear hHeld
          refine wpAnyH_more (T := fun wq => wq.cell? ⟨n1, m3, none⟩ = some (.string y) ∧ True) (fun _ h => trivial) _ _ _ _ ?_
          have hHeld : (fun wq => wq.cell? ⟨n1, m3, none⟩ = some (.string y) ∧ True) x1 := ⟨HC1.out _ _ HN1.out, trivial⟩
          refine wpAnyH_take (i := 5) (oi := { dst := some 30, op := Op.indexAddr 39 (Operand.tmp 27) (Operand.tmp 29), type := 0, pos := "l5_bounce.go:162", after := #[{ on := 2, ground := Ground.data }, { on := 4, ground := Ground.data }], guard := none }) (v := .pointer (some ⟨n1, m3, none⟩)) rfl (by kernel_rfl) (by kernel_rfl) (by kernel_rfl) (fun _ _ _ h => h) (Or.inl ⟨by rfl, fun wz hSw => ?_⟩) hHeld ?_
          · obtain ⟨e0, _⟩ := hSw
            clear hHeld
            go_simp
          simp only [Act.put, List.setIfInBounds_toArray, List.set_cons_zero, List.set_cons_succ]
          refine wpAnyH_take (i := 6) (oi := { dst := some 31, op := Op.load 9 (Operand.tmp 30), type := 9, pos := "l5_bounce.go:162", after := #[{ on := 5, ground := Ground.data }], guard := none }) (v := .string y) rfl (by kernel_rfl) (by kernel_rfl) (by kernel_rfl) (fun _ _ _ h => h) (Or.inl ⟨by rfl, fun wz hSw => ?_⟩) hHeld ?_
          · obtain ⟨e0, _⟩ := hSw
            clear hHeld
            go_simp
          simp only [Act.put, List.setIfInBounds_toArray, List.set_cons_zero, List.set_cons_succ]
          refine wpAnyH_ready (rs := [1, 7, 14]) (by kernel_rfl) (by simp) ?_
          refine AllReadyH.cons rfl (fun K hK => ?_) (AllReadyH.cons rfl (fun K hK => ?_) (AllReadyH.cons rfl (fun K hK => ?_) AllReadyH.nil))
          · clear hHeld
            go_simp
            go_at_call 27
            refine (HAD.out _ Rq.out).mono ?_
            rintro e x2 ⟨rfl, h1, o1⟩
            have Rq : Hid (RdAt x2 b cv B X.2) := h1
            have Qq : Hid (Blk q YQ x2) := Qq.out.offB o1 nqb
            have Pq : Hid (Blk w.heap.size ZZ x2) := Pq.out.offB o1 npb
            have Fq : Hid (Fls x2 w.heap.size (.slice a4 acc.length c4) acc) := fls_off Fq.out o1 HNB.out
            have Oq : Hid (Off b w x2) := Oq.out.trans o1
            have HN1 : Hid (x2.heap[n1]? = some O1) := by show _ = _; rw [o1.block n1 (Array.getElem?_eq_some_iff.1 HN1.out).1 (by have := Ln1.out; omega)]; exact HN1.out
            refine hK.out _ _ ⟨HC1.out _ _ HN1.out, trivial⟩ (fun hHeld => ?_)
            clear hK K h1 o1
            try simp only [Act.put, List.setIfInBounds_toArray, List.set_cons_zero, List.set_cons_succ]
            refine wpAnyH_ready (rs := [7, 14]) (by kernel_rfl) (by simp) ?_
            refine AllReadyH.cons rfl (fun K hK => ?_) (AllReadyH.cons rfl (fun K hK => ?_) AllReadyH.nil)
            · clear hHeld
              go_simp
              generalize hW : World.alloc x2 _ = x3
              obtain ⟨n2, hnb⟩ : ∃ nb, nb = x2.heap.size := ⟨_, rfl⟩
              have HN2 : Hid (x3.heap[n2]? = some O2) := by show _ = _; rw [← hW, hnb, HO2.out]; exact heap_newB _ _ _
              have hb : Below x2.heap.size x2 x3 := by rw [← hW]; exact below1 _ _
              have Ln2 : Hid (q < n2) := by show _ < _; rw [hnb]; exact Qq.out.lt
              rw [← hnb]
              have Rq : Hid (RdAt x3 b cv B X.2) := Rq.out.below hb (Nat.le_refl _)
              have Qq : Hid (Blk q YQ x3) := Qq.out.below hb
              have Pq : Hid (Blk w.heap.size ZZ x3) := Pq.out.below hb
              have Fq : Hid (Fls x3 w.heap.size (.slice a4 acc.length c4) acc) := fls_below Fq.out hb (Nat.le_refl _)
              have Oq : Hid (Off b w x3) := Oq.out.trans (Off.of_below hb)
              have HN1 : Hid (x3.heap[n1]? = some O1) := by show _ = _; rw [hb.block n1 (Array.getElem?_eq_some_iff.1 HN1.out).1]; exact HN1.out
              clear hW hnb
              refine hK.out _ _ ⟨HC1.out _ _ HN1.out, trivial⟩ (fun hHeld => ?_)
              clear hK K hb
              try simp only [Act.put, List.setIfInBounds_toArray, List.set_cons_zero, List.set_cons_succ]
              clear hHeld
              refine wpAnyH_more (T := fun wq => wq.cell? ⟨n2, m4, none⟩ = some (.int .i64 z) ∧ wq.cell? ⟨n1, m3, none⟩ = some (.string y) ∧ True) (fun _ h => h.2) _ _ _ _ ?_
              have hHeld : (fun wq => wq.cell? ⟨n2, m4, none⟩ = some (.int .i64 z) ∧ wq.cell? ⟨n1, m3, none⟩ = some (.string y) ∧ True) x3 := ⟨HC2.out _ _ HN2.out, HC1.out _ _ HN1.out, trivial⟩
              refine wpAnyH_take (i := 11) (oi := { dst := some 36, op := Op.indexAddr 59 (Operand.tmp 32) (Operand.tmp 35), type := 0, pos := "l5_bounce.go:162", after := #[{ on := 7, ground := Ground.data }, { on := 10, ground := Ground.data }], guard := none }) (v := .pointer (some ⟨n2, m4, none⟩)) rfl (by kernel_rfl) (by kernel_rfl) (by kernel_rfl) (fun _ _ _ h => h) (Or.inl ⟨by rfl, fun wz hSw => ?_⟩) hHeld ?_
              · obtain ⟨e0, e1, _⟩ := hSw
                clear hHeld
                go_simp
              simp only [Act.put, List.setIfInBounds_toArray, List.set_cons_zero, List.set_cons_succ]
              refine wpAnyH_take (i := 12) (oi := { dst := some 37, op := Op.load 3 (Operand.tmp 36), type := 3, pos := "l5_bounce.go:162", after := #[{ on := 11, ground := Ground.data }], guard := none }) (v := .int .i64 z) rfl (by kernel_rfl) (by kernel_rfl) (by kernel_rfl) (fun _ _ _ h => h) (Or.inl ⟨by rfl, fun wz hSw => ?_⟩) hHeld ?_
              · obtain ⟨e0, e1, _⟩ := hSw
                clear hHeld
                go_simp
              simp only [Act.put, List.setIfInBounds_toArray, List.set_cons_zero, List.set_cons_succ]
              refine wpAnyH_take (i := 13) (oi := { dst := some 38, op := Op.build 31 #[(0, Operand.tmp 26), (1, Operand.tmp 31), (2, Operand.tmp 37)], type := 31, pos := "l5_bounce.go:162", after := #[{ on := 1, ground := Ground.data }, { on := 6, ground := Ground.data }, { on := 12, ground := Ground.data }], guard := none }) (v := .agg #[.string X.1, .string y, .int .i64 z, .string ⟨#[]⟩]) rfl (by kernel_rfl) (by kernel_rfl) (by kernel_rfl) (fun _ _ _ h => h) (Or.inl ⟨by rfl, fun wz hSw => ?_⟩) hHeld ?_
              · obtain ⟨e0, e1, _⟩ := hSw
                clear hHeld
                go_simp
              simp only [Act.put, List.setIfInBounds_toArray, List.set_cons_zero, List.set_cons_succ]
              refine wpAnyH_ready (rs := [14]) (by kernel_rfl) (by simp) ?_
              refine AllReadyH.cons rfl (fun K hK => ?_) AllReadyH.nil
              clear hHeld
              go_simp
              generalize hW : World.alloc x3 _ = x4
              obtain ⟨fb, hnb⟩ : ∃ nb, nb = x3.heap.size := ⟨_, rfl⟩
              have HNf : Hid (x4.heap[fb]? = some OF) := by show _ = _; rw [← hW, hnb, HOF.out]; exact heap_newB _ _ _
              have hb : Below x3.heap.size x3 x4 := by rw [← hW]; exact below1 _ _
              have Lfb : Hid (q < fb) := by show _ < _; rw [hnb]; exact Qq.out.lt
              rw [← hnb]
              have GFB : Hid (∀ g, (Value.slice a4 acc.length c4).ownBlock = some g → g ≠ fb) := fun g hg => by have := (fls_own Fq.out g hg).2; omega
              have Dfn1 : Hid (n1 ≠ fb) := by have := (Array.getElem?_eq_some_iff.1 HN1.out).1; show _ ≠ _; omega
              have Dfn2 : Hid (n2 ≠ fb) := by have := (Array.getElem?_eq_some_iff.1 HN2.out).1; show _ ≠ _; omega
              have Rq : Hid (RdAt x4 b cv B X.2) := Rq.out.below hb (Nat.le_refl _)
              have Qq : Hid (Blk q YQ x4) := Qq.out.below hb
              have Pq : Hid (Blk w.heap.size ZZ x4) := Pq.out.below hb
              have Fq : Hid (Fls x4 w.heap.size (.slice a4 acc.length c4) acc) := fls_below Fq.out hb (Nat.le_refl _)
              have Oq : Hid (Off b w x4) := Oq.out.trans (Off.of_below hb)
              have HN1 : Hid (x4.heap[n1]? = some O1) := by show _ = _; rw [hb.block n1 (Array.getElem?_eq_some_iff.1 HN1.out).1]; exact HN1.out
              have HN2 : Hid (x4.heap[n2]? = some O2) := by show _ = _; rw [hb.block n2 (Array.getElem?_eq_some_iff.1 HN2.out).1]; exact HN2.out
              clear hW hnb
              refine hK.out _ _ ⟨HC2.out _ _ HN2.out, HC1.out _ _ HN1.out, trivial⟩ (fun hHeld => ?_)
              clear hK K hb
              try simp only [Act.put, List.setIfInBounds_toArray, List.set_cons_zero, List.set_cons_succ]
              refine wpAnyH_ready (rs := [15]) (by kernel_rfl) (by simp) ?_
              refine AllReadyH.cons rfl (fun K hK => ?_) AllReadyH.nil
              have HNg := HNf.out
              rw [HOF.out] at HNg
              have z0 : x4.cell? ⟨fb, 0, none⟩ = some (.string ⟨#[]⟩) := by rw [Lib.cell_of_heap HNg]; rfl
              have z1 : x4.cell? ⟨fb, 1, none⟩ = some (.string ⟨#[]⟩) := by rw [Lib.cell_of_heap HNg]; rfl
              have z2 : x4.cell? ⟨fb, 2, none⟩ = some (.int .i64 0) := by rw [Lib.cell_of_heap HNg]; rfl
              have z3 : x4.cell? ⟨fb, 3, none⟩ = some (.string ⟨#[]⟩) := by rw [Lib.cell_of_heap HNg]; rfl
              have g0 : x4.frozen? ⟨fb, 0, none⟩ = false := Lib.frozen_of_heap HNg 0
              have g1 : x4.frozen? ⟨fb, 1, none⟩ = false := Lib.frozen_of_heap HNg 1
              have g2 : x4.frozen? ⟨fb, 2, none⟩ = false := Lib.frozen_of_heap HNg 2
              have g3 : x4.frozen? ⟨fb, 3, none⟩ = false := Lib.frozen_of_heap HNg 3
              clear hHeld
              go_simp
              generalize hV : ((((x4.setCell ⟨fb, 0, none⟩ (.string X.1)).setCell ⟨fb, 1, none⟩ (.string y)).setCell ⟨fb, 2, none⟩ (.int .i64 z)).setCell ⟨fb, 3, none⟩ (.string ⟨#[]⟩)) = x5
              obtain ⟨FBk, o5, b5⟩ : Hid (Blk fb #[.string X.1, .string y, .int .i64 z, .string ⟨#[]⟩] x5) ∧ Off fb x4 x5 ∧ Below w.heap.size x4 x5 := by rw [← hV]; exact set4 HNg (by have := Lfb.out; omega)
              clear hV z0 z1 z2 z3 g0 g1 g2 g3 HNg
              have Rq : Hid (RdAt x5 b cv B X.2) := H.out.carry Rq.out b5
              have Qq : Hid (Blk q YQ x5) := Qq.out.offB o5 (by have := Lfb.out; omega)
              have Pq : Hid (Blk w.heap.size ZZ x5) := Pq.out.offB o5 (by have := Lfb.out; omega)
              have Fq : Hid (Fls x5 w.heap.size (.slice a4 acc.length c4) acc) := fls_off Fq.out o5 GFB.out
              have Oq : Hid (Off b w x5) := off_belowN Oq.out b5
              have HN2 : Hid (x5.heap[n2]? = some O2) := by show _ = _; rw [o5.block n2 (Array.getElem?_eq_some_iff.1 HN2.out).1 Dfn2.out]; exact HN2.out
              have HN1 : Hid (x5.heap[n1]? = some O1) := by show _ = _; rw [o5.block n1 (Array.getElem?_eq_some_iff.1 HN1.out).1 Dfn1.out]; exact HN1.out
              refine hK.out _ _ ⟨HC2.out _ _ HN2.out, HC1.out _ _ HN1.out, trivial⟩ (fun hHeld => ?_)
              clear hK K hHeld o5 b5
              try simp only [Act.put, List.setIfInBounds_toArray, List.set_cons_zero, List.set_cons_succ]
              refine wpAnyH_done (by kernel_rfl) ?_ _
              go_wp2_with fail
              go_meet
              exact ⟨fb, rfl, Lfb.out, FBk, Rq, HYQ.out ▸ Qq, HZZ.out ▸ Pq, Fq, Oq, GFB⟩
            · clear hHeld
              go_simp
              generalize hW : World.alloc x2 _ = x3
              obtain ⟨fb, hnb⟩ : ∃ nb, nb = x2.heap.size := ⟨_, rfl⟩
              have HNf : Hid (x3.heap[fb]? = some OF) := by show _ = _; rw [← hW, hnb, HOF.out]; exact heap_newB _ _ _
              have hb : Below x2.heap.size x2 x3 := by rw [← hW]; exact below1 _ _
              have Lfb : Hid (q < fb) := by show _ < _; rw [hnb]; exact Qq.out.lt
              rw [← hnb]
              have GFB : Hid (∀ g, (Value.slice a4 acc.length c4).ownBlock = some g → g ≠ fb) := fun g hg => by have := (fls_own Fq.out g hg).2; omega
              have Dfn1 : Hid (n1 ≠ fb) := by have := (Array.getElem?_eq_some_iff.1 HN1.out).1; show _ ≠ _; omega
              have Rq : Hid (RdAt x3 b cv B X.2) := Rq.out.below hb (Nat.le_refl _)
              have Qq : Hid (Blk q YQ x3) := Qq.out.below hb
              have Pq : Hid (Blk w.heap.size ZZ x3) := Pq.out.below hb
              have Fq : Hid (Fls x3 w.heap.size (.slice a4 acc.length c4) acc) := fls_below Fq.out hb (Nat.le_refl _)
              have Oq : Hid (Off b w x3) := Oq.out.trans (Off.of_below hb)
              have HN1 : Hid (x3.heap[n1]? = some O1) := by show _ = _; rw [hb.block n1 (Array.getElem?_eq_some_iff.1 HN1.out).1]; exact HN1.out
              clear hW hnb
              refine hK.out _ _ ⟨HC1.out _ _ HN1.out, trivial⟩ (fun hHeld => ?_)
              clear hK K hb
              try simp only [Act.put, List.setIfInBounds_toArray, List.set_cons_zero, List.set_cons_succ]
              refine wpAnyH_ready (rs := [7]) (by kernel_rfl) (by simp) ?_
              refine AllReadyH.cons rfl (fun K hK => ?_) AllReadyH.nil
              clear hHeld
              go_simp
              generalize hW : World.alloc x3 _ = x4
              obtain ⟨n2, hnb⟩ : ∃ nb, nb = x3.heap.size := ⟨_, rfl⟩
              have HN2 : Hid (x4.heap[n2]? = some O2) := by show _ = _; rw [← hW, hnb, HO2.out]; exact heap_newB _ _ _
              have hb : Below x3.heap.size x3 x4 := by rw [← hW]; exact below1 _ _
              have Ln2 : Hid (q < n2) := by show _ < _; rw [hnb]; exact Qq.out.lt
              rw [← hnb]
              have Dfn2 : Hid (n2 ≠ fb) := by have := (Array.getElem?_eq_some_iff.1 HNf.out).1; show _ ≠ _; omega
              have Rq : Hid (RdAt x4 b cv B X.2) := Rq.out.below hb (Nat.le_refl _)
              have Qq : Hid (Blk q YQ x4) := Qq.out.below hb
              have Pq : Hid (Blk w.heap.size ZZ x4) := Pq.out.below hb
              have Fq : Hid (Fls x4 w.heap.size (.slice a4 acc.length c4) acc) := fls_below Fq.out hb (Nat.le_refl _)
              have Oq : Hid (Off b w x4) := Oq.out.trans (Off.of_below hb)
              have HN1 : Hid (x4.heap[n1]? = some O1) := by show _ = _; rw [hb.block n1 (Array.getElem?_eq_some_iff.1 HN1.out).1]; exact HN1.out
              have HNf : Hid (x4.heap[fb]? = some OF) := by show _ = _; rw [hb.block fb (Array.getElem?_eq_some_iff.1 HNf.out).1]; exact HNf.out
              clear hW hnb
              refine hK.out _ _ ⟨HC1.out _ _ HN1.out, trivial⟩ (fun hHeld => ?_)
              clear hK K hb
              try simp only [Act.put, List.setIfInBounds_toArray, List.set_cons_zero, List.set_cons_succ]
              clear hHeld
              refine wpAnyH_more (T := fun wq => wq.cell? ⟨n2, m4, none⟩ = some (.int .i64 z) ∧ wq.cell? ⟨n1, m3, none⟩ = some (.string y) ∧ True) (fun _ h => h.2) _ _ _ _ ?_
              have hHeld : (fun wq => wq.cell? ⟨n2, m4, none⟩ = some (.int .i64 z) ∧ wq.cell? ⟨n1, m3, none⟩ = some (.string y) ∧ True) x4 := ⟨HC2.out _ _ HN2.out, HC1.out _ _ HN1.out, trivial⟩
              refine wpAnyH_take (i := 11) (oi := { dst := some 36, op := Op.indexAddr 59 (Operand.tmp 32) (Operand.tmp 35), type := 0, pos := "l5_bounce.go:162", after := #[{ on := 7, ground := Ground.data }, { on := 10, ground := Ground.data }], guard := none }) (v := .pointer (some ⟨n2, m4, none⟩)) rfl (by kernel_rfl) (by kernel_rfl) (by kernel_rfl) (fun _ _ _ h => h) (Or.inl ⟨by rfl, fun wz hSw => ?_⟩) hHeld ?_
              · obtain ⟨e0, e1, _⟩ := hSw
                clear hHeld
                go_simp
              simp only [Act.put, List.setIfInBounds_toArray, List.set_cons_zero, List.set_cons_succ]
              refine wpAnyH_take (i := 12) (oi := { dst := some 37, op := Op.load 3 (Operand.tmp 36), type := 3, pos := "l5_bounce.go:162", after := #[{ on := 11, ground := Ground.data }], guard := none }) (v := .int .i64 z) rfl (by kernel_rfl) (by kernel_rfl) (by kernel_rfl) (fun _ _ _ h => h) (Or.inl ⟨by rfl, fun wz hSw => ?_⟩) hHeld ?_
              · obtain ⟨e0, e1, _⟩ := hSw
                clear hHeld
                go_simp
              simp only [Act.put, List.setIfInBounds_toArray, List.set_cons_zero, List.set_cons_succ]
              refine wpAnyH_take (i := 13) (oi := { dst := some 38, op := Op.build 31 #[(0, Operand.tmp 26), (1, Operand.tmp 31), (2, Operand.tmp 37)], type := 31, pos := "l5_bounce.go:162", after := #[{ on := 1, ground := Ground.data }, { on := 6, ground := Ground.data }, { on := 12, ground := Ground.data }], guard := none }) (v := .agg #[.string X.1, .string y, .int .i64 z, .string ⟨#[]⟩]) rfl (by kernel_rfl) (by kernel_rfl) (by kernel_rfl) (fun _ _ _ h => h) (Or.inl ⟨by rfl, fun wz hSw => ?_⟩) hHeld ?_
              · obtain ⟨e0, e1, _⟩ := hSw
                clear hHeld
                go_simp
              simp only [Act.put, List.setIfInBounds_toArray, List.set_cons_zero, List.set_cons_succ]
              refine wpAnyH_ready (rs := [15]) (by kernel_rfl) (by simp) ?_
              refine AllReadyH.cons rfl (fun K hK => ?_) AllReadyH.nil
              have HNg := HNf.out
              rw [HOF.out] at HNg
              have z0 : x4.cell? ⟨fb, 0, none⟩ = some (.string ⟨#[]⟩) := by rw [Lib.cell_of_heap HNg]; rfl
              have z1 : x4.cell? ⟨fb, 1, none⟩ = some (.string ⟨#[]⟩) := by rw [Lib.cell_of_heap HNg]; rfl
              have z2 : x4.cell? ⟨fb, 2, none⟩ = some (.int .i64 0) := by rw [Lib.cell_of_heap HNg]; rfl
              have z3 : x4.cell? ⟨fb, 3, none⟩ = some (.string ⟨#[]⟩) := by rw [Lib.cell_of_heap HNg]; rfl
              have g0 : x4.frozen? ⟨fb, 0, none⟩ = false := Lib.frozen_of_heap HNg 0
              have g1 : x4.frozen? ⟨fb, 1, none⟩ = false := Lib.frozen_of_heap HNg 1
              have g2 : x4.frozen? ⟨fb, 2, none⟩ = false := Lib.frozen_of_heap HNg 2
              have g3 : x4.frozen? ⟨fb, 3, none⟩ = false := Lib.frozen_of_heap HNg 3
              clear hHeld
              go_simp
              generalize hV : ((((x4.setCell ⟨fb, 0, none⟩ (.string X.1)).setCell ⟨fb, 1, none⟩ (.string y)).setCell ⟨fb, 2, none⟩ (.int .i64 z)).setCell ⟨fb, 3, none⟩ (.string ⟨#[]⟩)) = x5
              obtain ⟨FBk, o5, b5⟩ : Hid (Blk fb #[.string X.1, .string y, .int .i64 z, .string ⟨#[]⟩] x5) ∧ Off fb x4 x5 ∧ Below w.heap.size x4 x5 := by rw [← hV]; exact set4 HNg (by have := Lfb.out; omega)
              clear hV z0 z1 z2 z3 g0 g1 g2 g3 HNg
              have Rq : Hid (RdAt x5 b cv B X.2) := H.out.carry Rq.out b5
              have Qq : Hid (Blk q YQ x5) := Qq.out.offB o5 (by have := Lfb.out; omega)
              have Pq : Hid (Blk w.heap.size ZZ x5) := Pq.out.offB o5 (by have := Lfb.out; omega)
              have Fq : Hid (Fls x5 w.heap.size (.slice a4 acc.length c4) acc) := fls_off Fq.out o5 GFB.out
              have Oq : Hid (Off b w x5) := off_belowN Oq.out b5
              have HN2 : Hid (x5.heap[n2]? = some O2) := by show _ = _; rw [o5.block n2 (Array.getElem?_eq_some_iff.1 HN2.out).1 Dfn2.out]; exact HN2.out
              have HN1 : Hid (x5.heap[n1]? = some O1) := by show _ = _; rw [o5.block n1 (Array.getElem?_eq_some_iff.1 HN1.out).1 Dfn1.out]; exact HN1.out
              refine hK.out _ _ ⟨HC2.out _ _ HN2.out, HC1.out _ _ HN1.out, trivial⟩ (fun hHeld => ?_)
              clear hK K hHeld o5 b5
              try simp only [Act.put, List.setIfInBounds_toArray, List.set_cons_zero, List.set_cons_succ]
              refine wpAnyH_done (by kernel_rfl) ?_ _
              go_wp2_with fail
              go_meet
              exact ⟨fb, rfl, Lfb.out, FBk, Rq, HYQ.out ▸ Qq, HZZ.out ▸ Pq, Fq, Oq, GFB⟩
          · clear hHeld
            go_simp
            generalize hW : World.alloc x1 _ = x2
            obtain ⟨n2, hnb⟩ : ∃ nb, nb = x1.heap.size := ⟨_, rfl⟩
            have HN2 : Hid (x2.heap[n2]? = some O2) := by show _ = _; rw [← hW, hnb, HO2.out]; exact heap_newB _ _ _
            have hb : Below x1.heap.size x1 x2 := by rw [← hW]; exact below1 _ _
            have Ln2 : Hid (q < n2) := by show _ < _; rw [hnb]; exact Qq.out.lt
            rw [← hnb]
            have Rq : Hid (RdAt x2 b cv B p1) := Rq.out.below hb (Nat.le_refl _)
            have Qq : Hid (Blk q YQ x2) := Qq.out.below hb
            have Pq : Hid (Blk w.heap.size ZZ x2) := Pq.out.below hb
            have Fq : Hid (Fls x2 w.heap.size (.slice a4 acc.length c4) acc) := fls_below Fq.out hb (Nat.le_refl _)
            have Oq : Hid (Off b w x2) := Oq.out.trans (Off.of_below hb)
            have HN1 : Hid (x2.heap[n1]? = some O1) := by show _ = _; rw [hb.block n1 (Array.getElem?_eq_some_iff.1 HN1.out).1]; exact HN1.out
            clear hW hnb
            refine hK.out _ _ ⟨HC1.out _ _ HN1.out, trivial⟩ (fun hHeld => ?_)
            clear hK K hb
            try simp only [Act.put, List.setIfInBounds_toArray, List.set_cons_zero, List.set_cons_succ]
            clear hHeld
            refine wpAnyH_more (T := fun wq => wq.cell? ⟨n2, m4, none⟩ = some (.int .i64 z) ∧ wq.cell? ⟨n1, m3, none⟩ = some (.string y) ∧ True) (fun _ h => h.2) _ _ _ _ ?_
            have hHeld : (fun wq => wq.cell? ⟨n2, m4, none⟩ = some (.int .i64 z) ∧ wq.cell? ⟨n1, m3, none⟩ = some (.string y) ∧ True) x2 := ⟨HC2.out _ _ HN2.out, HC1.out _ _ HN1.out, trivial⟩
            refine wpAnyH_take (i := 11) (oi := { dst := some 36, op := Op.indexAddr 59 (Operand.tmp 32) (Operand.tmp 35), type := 0, pos := "l5_bounce.go:162", after := #[{ on := 7, ground := Ground.data }, { on := 10, ground := Ground.data }], guard := none }) (v := .pointer (some ⟨n2, m4, none⟩)) rfl (by kernel_rfl) (by kernel_rfl) (by kernel_rfl) (fun _ _ _ h => h) (Or.inl ⟨by rfl, fun wz hSw => ?_⟩) hHeld ?_
            · obtain ⟨e0, e1, _⟩ := hSw
              clear hHeld
              go_simp
            simp only [Act.put, List.setIfInBounds_toArray, List.set_cons_zero, List.set_cons_succ]
            refine wpAnyH_take (i := 12) (oi := { dst := some 37, op := Op.load 3 (Operand.tmp 36), type := 3, pos := "l5_bounce.go:162", after := #[{ on := 11, ground := Ground.data }], guard := none }) (v := .int .i64 z) rfl (by kernel_rfl) (by kernel_rfl) (by kernel_rfl) (fun _ _ _ h => h) (Or.inl ⟨by rfl, fun wz hSw => ?_⟩) hHeld ?_
            · obtain ⟨e0, e1, _⟩ := hSw
              clear hHeld
              go_simp
            simp only [Act.put, List.setIfInBounds_toArray, List.set_cons_zero, List.set_cons_succ]
            refine wpAnyH_ready (rs := [1, 14]) (by kernel_rfl) (by simp) ?_
            refine AllReadyH.cons rfl (fun K hK => ?_) (AllReadyH.cons rfl (fun K hK => ?_) AllReadyH.nil)
            · clear hHeld
              go_simp
              go_at_call 27
              refine (HAD.out _ Rq.out).mono ?_
              rintro e x3 ⟨rfl, h1, o1⟩
              have Rq : Hid (RdAt x3 b cv B X.2) := h1
              have Qq : Hid (Blk q YQ x3) := Qq.out.offB o1 nqb
              have Pq : Hid (Blk w.heap.size ZZ x3) := Pq.out.offB o1 npb
              have Fq : Hid (Fls x3 w.heap.size (.slice a4 acc.length c4) acc) := fls_off Fq.out o1 HNB.out
              have Oq : Hid (Off b w x3) := Oq.out.trans o1
              have HN1 : Hid (x3.heap[n1]? = some O1) := by show _ = _; rw [o1.block n1 (Array.getElem?_eq_some_iff.1 HN1.out).1 (by have := Ln1.out; omega)]; exact HN1.out
              have HN2 : Hid (x3.heap[n2]? = some O2) := by show _ = _; rw [o1.block n2 (Array.getElem?_eq_some_iff.1 HN2.out).1 (by have := Ln2.out; omega)]; exact HN2.out
              refine hK.out _ _ ⟨HC2.out _ _ HN2.out, HC1.out _ _ HN1.out, trivial⟩ (fun hHeld => ?_)
              clear hK K h1 o1
              try simp only [Act.put, List.setIfInBounds_toArray, List.set_cons_zero, List.set_cons_succ]
              refine wpAnyH_take (i := 13) (oi := { dst := some 38, op := Op.build 31 #[(0, Operand.tmp 26), (1, Operand.tmp 31), (2, Operand.tmp 37)], type := 31, pos := "l5_bounce.go:162", after := #[{ on := 1, ground := Ground.data }, { on := 6, ground := Ground.data }, { on := 12, ground := Ground.data }], guard := none }) (v := .agg #[.string X.1, .string y, .int .i64 z, .string ⟨#[]⟩]) rfl (by kernel_rfl) (by kernel_rfl) (by kernel_rfl) (fun _ _ _ h => h) (Or.inl ⟨by rfl, fun wz hSw => ?_⟩) hHeld ?_
              · obtain ⟨e0, e1, _⟩ := hSw
                clear hHeld
                go_simp
              simp only [Act.put, List.setIfInBounds_toArray, List.set_cons_zero, List.set_cons_succ]
              refine wpAnyH_ready (rs := [14]) (by kernel_rfl) (by simp) ?_
              refine AllReadyH.cons rfl (fun K hK => ?_) AllReadyH.nil
              clear hHeld
              go_simp
              generalize hW : World.alloc x3 _ = x4
              obtain ⟨fb, hnb⟩ : ∃ nb, nb = x3.heap.size := ⟨_, rfl⟩
              have HNf : Hid (x4.heap[fb]? = some OF) := by show _ = _; rw [← hW, hnb, HOF.out]; exact heap_newB _ _ _
              have hb : Below x3.heap.size x3 x4 := by rw [← hW]; exact below1 _ _
              have Lfb : Hid (q < fb) := by show _ < _; rw [hnb]; exact Qq.out.lt
              rw [← hnb]
              have GFB : Hid (∀ g, (Value.slice a4 acc.length c4).ownBlock = some g → g ≠ fb) := fun g hg => by have := (fls_own Fq.out g hg).2; omega
              have Dfn1 : Hid (n1 ≠ fb) := by have := (Array.getElem?_eq_some_iff.1 HN1.out).1; show _ ≠ _; omega
              have Dfn2 : Hid (n2 ≠ fb) := by have := (Array.getElem?_eq_some_iff.1 HN2.out).1; show _ ≠ _; omega
              have Rq : Hid (RdAt x4 b cv B X.2) := Rq.out.below hb (Nat.le_refl _)
              have Qq : Hid (Blk q YQ x4) := Qq.out.below hb
              have Pq : Hid (Blk w.heap.size ZZ x4) := Pq.out.below hb
              have Fq : Hid (Fls x4 w.heap.size (.slice a4 acc.length c4) acc) := fls_below Fq.out hb (Nat.le_refl _)
              have Oq : Hid (Off b w x4) := Oq.out.trans (Off.of_below hb)
              have HN1 : Hid (x4.heap[n1]? = some O1) := by show _ = _; rw [hb.block n1 (Array.getElem?_eq_some_iff.1 HN1.out).1]; exact HN1.out
              have HN2 : Hid (x4.heap[n2]? = some O2) := by show _ = _; rw [hb.block n2 (Array.getElem?_eq_some_iff.1 HN2.out).1]; exact HN2.out
              clear hW hnb
              refine hK.out _ _ ⟨HC2.out _ _ HN2.out, HC1.out _ _ HN1.out, trivial⟩ (fun hHeld => ?_)
              clear hK K hb
              try simp only [Act.put, List.setIfInBounds_toArray, List.set_cons_zero, List.set_cons_succ]
              refine wpAnyH_ready (rs := [15]) (by kernel_rfl) (by simp) ?_
              refine AllReadyH.cons rfl (fun K hK => ?_) AllReadyH.nil
              have HNg := HNf.out
              rw [HOF.out] at HNg
              have z0 : x4.cell? ⟨fb, 0, none⟩ = some (.string ⟨#[]⟩) := by rw [Lib.cell_of_heap HNg]; rfl
              have z1 : x4.cell? ⟨fb, 1, none⟩ = some (.string ⟨#[]⟩) := by rw [Lib.cell_of_heap HNg]; rfl
              have z2 : x4.cell? ⟨fb, 2, none⟩ = some (.int .i64 0) := by rw [Lib.cell_of_heap HNg]; rfl
              have z3 : x4.cell? ⟨fb, 3, none⟩ = some (.string ⟨#[]⟩) := by rw [Lib.cell_of_heap HNg]; rfl
              have g0 : x4.frozen? ⟨fb, 0, none⟩ = false := Lib.frozen_of_heap HNg 0
              have g1 : x4.frozen? ⟨fb, 1, none⟩ = false := Lib.frozen_of_heap HNg 1
              have g2 : x4.frozen? ⟨fb, 2, none⟩ = false := Lib.frozen_of_heap HNg 2
              have g3 : x4.frozen? ⟨fb, 3, none⟩ = false := Lib.frozen_of_heap HNg 3
              clear hHeld
              go_simp
              generalize hV : ((((x4.setCell ⟨fb, 0, none⟩ (.string X.1)).setCell ⟨fb, 1, none⟩ (.string y)).setCell ⟨fb, 2, none⟩ (.int .i64 z)).setCell ⟨fb, 3, none⟩ (.string ⟨#[]⟩)) = x5
              obtain ⟨FBk, o5, b5⟩ : Hid (Blk fb #[.string X.1, .string y, .int .i64 z, .string ⟨#[]⟩] x5) ∧ Off fb x4 x5 ∧ Below w.heap.size x4 x5 := by rw [← hV]; exact set4 HNg (by have := Lfb.out; omega)
              clear hV z0 z1 z2 z3 g0 g1 g2 g3 HNg
              have Rq : Hid (RdAt x5 b cv B X.2) := H.out.carry Rq.out b5
              have Qq : Hid (Blk q YQ x5) := Qq.out.offB o5 (by have := Lfb.out; omega)
              have Pq : Hid (Blk w.heap.size ZZ x5) := Pq.out.offB o5 (by have := Lfb.out; omega)
              have Fq : Hid (Fls x5 w.heap.size (.slice a4 acc.length c4) acc) := fls_off Fq.out o5 GFB.out
              have Oq : Hid (Off b w x5) := off_belowN Oq.out b5
              have HN2 : Hid (x5.heap[n2]? = some O2) := by show _ = _; rw [o5.block n2 (Array.getElem?_eq_some_iff.1 HN2.out).1 Dfn2.out]; exact HN2.out
              have HN1 : Hid (x5.heap[n1]? = some O1) := by show _ = _; rw [o5.block n1 (Array.getElem?_eq_some_iff.1 HN1.out).1 Dfn1.out]; exact HN1.out
              refine hK.out _ _ ⟨HC2.out _ _ HN2.out, HC1.out _ _ HN1.out, trivial⟩ (fun hHeld => ?_)
              clear hK K hHeld o5 b5
              try simp only [Act.put, List.setIfInBounds_toArray, List.set_cons_zero, List.set_cons_succ]
              refine wpAnyH_done (by kernel_rfl) ?_ _
              go_wp2_with fail
              go_meet
              exact ⟨fb, rfl, Lfb.out, FBk, Rq, HYQ.out ▸ Qq, HZZ.out ▸ Pq, Fq, Oq, GFB⟩
            · clear hHeld
              go_simp
              generalize hW : World.alloc x2 _ = x3
              obtain ⟨fb, hnb⟩ : ∃ nb, nb = x2.heap.size := ⟨_, rfl⟩
              have HNf : Hid (x3.heap[fb]? = some OF) := by show _ = _; rw [← hW, hnb, HOF.out]; exact heap_newB _ _ _
              have hb : Below x2.heap.size x2 x3 := by rw [← hW]; exact below1 _ _
              have Lfb : Hid (q < fb) := by show _ < _; rw [hnb]; exact Qq.out.lt
              rw [← hnb]
              have GFB : Hid (∀ g, (Value.slice a4 acc.length c4).ownBlock = some g → g ≠ fb) := fun g hg => by have := (fls_own Fq.out g hg).2; omega
              have Dfn1 : Hid (n1 ≠ fb) := by have := (Array.getElem?_eq_some_iff.1 HN1.out).1; show _ ≠ _; omega
              have Dfn2 : Hid (n2 ≠ fb) := by have := (Array.getElem?_eq_some_iff.1 HN2.out).1; show _ ≠ _; omega
              have Rq : Hid (RdAt x3 b cv B p1) := Rq.out.below hb (Nat.le_refl _)
              have Qq : Hid (Blk q YQ x3) := Qq.out.below hb
              have Pq : Hid (Blk w.heap.size ZZ x3) := Pq.out.below hb
              have Fq : Hid (Fls x3 w.heap.size (.slice a4 acc.length c4) acc) := fls_below Fq.out hb (Nat.le_refl _)
              have Oq : Hid (Off b w x3) := Oq.out.trans (Off.of_below hb)
              have HN1 : Hid (x3.heap[n1]? = some O1) := by show _ = _; rw [hb.block n1 (Array.getElem?_eq_some_iff.1 HN1.out).1]; exact HN1.out
              have HN2 : Hid (x3.heap[n2]? = some O2) := by show _ = _; rw [hb.block n2 (Array.getElem?_eq_some_iff.1 HN2.out).1]; exact HN2.out
              clear hW hnb
              refine hK.out _ _ ⟨HC2.out _ _ HN2.out, HC1.out _ _ HN1.out, trivial⟩ (fun hHeld => ?_)
              clear hK K hb
              try simp only [Act.put, List.setIfInBounds_toArray, List.set_cons_zero, List.set_cons_succ]
              refine wpAnyH_ready (rs := [1]) (by kernel_rfl) (by simp) ?_
              refine AllReadyH.cons rfl (fun K hK => ?_) AllReadyH.nil
              clear hHeld
              go_simp
              go_at_call 27
              refine (HAD.out _ Rq.out).mono ?_
              rintro e x4 ⟨rfl, h1, o1⟩
              have Rq : Hid (RdAt x4 b cv B X.2) := h1
              have Qq : Hid (Blk q YQ x4) := Qq.out.offB o1 nqb
              have Pq : Hid (Blk w.heap.size ZZ x4) := Pq.out.offB o1 npb
              have Fq : Hid (Fls x4 w.heap.size (.slice a4 acc.length c4) acc) := fls_off Fq.out o1 HNB.out
              have Oq : Hid (Off b w x4) := Oq.out.trans o1
              have HN1 : Hid (x4.heap[n1]? = some O1) := by show _ = _; rw [o1.block n1 (Array.getElem?_eq_some_iff.1 HN1.out).1 (by have := Ln1.out; omega)]; exact HN1.out
              have HN2 : Hid (x4.heap[n2]? = some O2) := by show _ = _; rw [o1.block n2 (Array.getElem?_eq_some_iff.1 HN2.out).1 (by have := Ln2.out; omega)]; exact HN2.out
              have HNf : Hid (x4.heap[fb]? = some OF) := by show _ = _; rw [o1.block fb (Array.getElem?_eq_some_iff.1 HNf.out).1 (by have := Lfb.out; omega)]; exact HNf.out
              refine hK.out _ _ ⟨HC2.out _ _ HN2.out, HC1.out _ _ HN1.out, trivial⟩ (fun hHeld => ?_)
              clear hK K h1 o1
              try simp only [Act.put, List.setIfInBounds_toArray, List.set_cons_zero, List.set_cons_succ]
              refine wpAnyH_take (i := 13) (oi := { dst := some 38, op := Op.build 31 #[(0, Operand.tmp 26), (1, Operand.tmp 31), (2, Operand.tmp 37)], type := 31, pos := "l5_bounce.go:162", after := #[{ on := 1, ground := Ground.data }, { on := 6, ground := Ground.data }, { on := 12, ground := Ground.data }], guard := none }) (v := .agg #[.string X.1, .string y, .int .i64 z, .string ⟨#[]⟩]) rfl (by kernel_rfl) (by kernel_rfl) (by kernel_rfl) (fun _ _ _ h => h) (Or.inl ⟨by rfl, fun wz hSw => ?_⟩) hHeld ?_
              · obtain ⟨e0, e1, _⟩ := hSw
                clear hHeld
                go_simp
              simp only [Act.put, List.setIfInBounds_toArray, List.set_cons_zero, List.set_cons_succ]
              refine wpAnyH_ready (rs := [15]) (by kernel_rfl) (by simp) ?_
              refine AllReadyH.cons rfl (fun K hK => ?_) AllReadyH.nil
              have HNg := HNf.out
              rw [HOF.out] at HNg
              have z0 : x4.cell? ⟨fb, 0, none⟩ = some (.string ⟨#[]⟩) := by rw [Lib.cell_of_heap HNg]; rfl
              have z1 : x4.cell? ⟨fb, 1, none⟩ = some (.string ⟨#[]⟩) := by rw [Lib.cell_of_heap HNg]; rfl
              have z2 : x4.cell? ⟨fb, 2, none⟩ = some (.int .i64 0) := by rw [Lib.cell_of_heap HNg]; rfl
              have z3 : x4.cell? ⟨fb, 3, none⟩ = some (.string ⟨#[]⟩) := by rw [Lib.cell_of_heap HNg]; rfl
              have g0 : x4.frozen? ⟨fb, 0, none⟩ = false := Lib.frozen_of_heap HNg 0
              have g1 : x4.frozen? ⟨fb, 1, none⟩ = false := Lib.frozen_of_heap HNg 1
              have g2 : x4.frozen? ⟨fb, 2, none⟩ = false := Lib.frozen_of_heap HNg 2
              have g3 : x4.frozen? ⟨fb, 3, none⟩ = false := Lib.frozen_of_heap HNg 3
              clear hHeld
              go_simp
              generalize hV : ((((x4.setCell ⟨fb, 0, none⟩ (.string X.1)).setCell ⟨fb, 1, none⟩ (.string y)).setCell ⟨fb, 2, none⟩ (.int .i64 z)).setCell ⟨fb, 3, none⟩ (.string ⟨#[]⟩)) = x5
              obtain ⟨FBk, o5, b5⟩ : Hid (Blk fb #[.string X.1, .string y, .int .i64 z, .string ⟨#[]⟩] x5) ∧ Off fb x4 x5 ∧ Below w.heap.size x4 x5 := by rw [← hV]; exact set4 HNg (by have := Lfb.out; omega)
              clear hV z0 z1 z2 z3 g0 g1 g2 g3 HNg
              have Rq : Hid (RdAt x5 b cv B X.2) := H.out.carry Rq.out b5
              have Qq : Hid (Blk q YQ x5) := Qq.out.offB o5 (by have := Lfb.out; omega)
              have Pq : Hid (Blk w.heap.size ZZ x5) := Pq.out.offB o5 (by have := Lfb.out; omega)
              have Fq : Hid (Fls x5 w.heap.size (.slice a4 acc.length c4) acc) := fls_off Fq.out o5 GFB.out
              have Oq : Hid (Off b w x5) := off_belowN Oq.out b5
              have HN2 : Hid (x5.heap[n2]? = some O2) := by show _ = _; rw [o5.block n2 (Array.getElem?_eq_some_iff.1 HN2.out).1 Dfn2.out]; exact HN2.out
              have HN1 : Hid (x5.heap[n1]? = some O1) := by show _ = _; rw [o5.block n1 (Array.getElem?_eq_some_iff.1 HN1.out).1 Dfn1.out]; exact HN1.out
              refine hK.out _ _ ⟨HC2.out _ _ HN2.out, HC1.out _ _ HN1.out, trivial⟩ (fun hHeld => ?_)
              clear hK K hHeld o5 b5
              try simp only [Act.put, List.setIfInBounds_toArray, List.set_cons_zero, List.set_cons_succ]
              refine wpAnyH_done (by kernel_rfl) ?_ _
              go_wp2_with fail
              go_meet
              exact ⟨fb, rfl, Lfb.out, FBk, Rq, HYQ.out ▸ Qq, HZZ.out ▸ Pq, Fq, Oq, GFB⟩
          · clear hHeld
            go_simp
            generalize hW : World.alloc x1 _ = x2
            obtain ⟨fb, hnb⟩ : ∃ nb, nb = x1.heap.size := ⟨_, rfl⟩
            have HNf : Hid (x2.heap[fb]? = some OF) := by show _ = _; rw [← hW, hnb, HOF.out]; exact heap_newB _ _ _
            have hb : Below x1.heap.size x1 x2 := by rw [← hW]; exact below1 _ _
            have Lfb : Hid (q < fb) := by show _ < _; rw [hnb]; exact Qq.out.lt
            rw [← hnb]
            have GFB : Hid (∀ g, (Value.slice a4 acc.length c4).ownBlock = some g → g ≠ fb) := fun g hg => by have := (fls_own Fq.out g hg).2; omega
            have Dfn1 : Hid (n1 ≠ fb) := by have := (Array.getElem?_eq_some_iff.1 HN1.out).1; show _ ≠ _; omega
            have Rq : Hid (RdAt x2 b cv B p1) := Rq.out.below hb (Nat.le_refl _)
            have Qq : Hid (Blk q YQ x2) := Qq.out.below hb
            have Pq : Hid (Blk w.heap.size ZZ x2) := Pq.out.below hb
            have Fq : Hid (Fls x2 w.heap.size (.slice a4 acc.length c4) acc) := fls_below Fq.out hb (Nat.le_refl _)
            have Oq : Hid (Off b w x2) := Oq.out.trans (Off.of_below hb)
            have HN1 : Hid (x2.heap[n1]? = some O1) := by show _ = _; rw [hb.block n1 (Array.getElem?_eq_some_iff.1 HN1.out).1]; exact HN1.out
            clear hW hnb
            refine hK.out _ _ ⟨HC1.out _ _ HN1.out, trivial⟩ (fun hHeld => ?_)
            clear hK K hb
            try simp only [Act.put, List.setIfInBounds_toArray, List.set_cons_zero, List.set_cons_succ]
            refine wpAnyH_ready (rs := [1, 7]) (by kernel_rfl) (by simp) ?_
            refine AllReadyH.cons rfl (fun K hK => ?_) (AllReadyH.cons rfl (fun K hK => ?_) AllReadyH.nil)
            · clear hHeld
              go_simp
              go_at_call 27
              refine (HAD.out _ Rq.out).mono ?_
              rintro e x3 ⟨rfl, h1, o1⟩
              have Rq : Hid (RdAt x3 b cv B X.2) := h1
              have Qq : Hid (Blk q YQ x3) := Qq.out.offB o1 nqb
              have Pq : Hid (Blk w.heap.size ZZ x3) := Pq.out.offB o1 npb
              have Fq : Hid (Fls x3 w.heap.size (.slice a4 acc.length c4) acc) := fls_off Fq.out o1 HNB.out
              have Oq : Hid (Off b w x3) := Oq.out.trans o1
              have HN1 : Hid (x3.heap[n1]? = some O1) := by show _ = _; rw [o1.block n1 (Array.getElem?_eq_some_iff.1 HN1.out).1 (by have := Ln1.out; omega)]; exact HN1.out
              have HNf : Hid (x3.heap[fb]? = some OF) := by show _ = _; rw [o1.block fb (Array.getElem?_eq_some_iff.1 HNf.out).1 (by have := Lfb.out; omega)]; exact HNf.out
              refine hK.out _ _ ⟨HC1.out _ _ HN1.out, trivial⟩ (fun hHeld => ?_)
              clear hK K h1 o1
              try simp only [Act.put, List.setIfInBounds_toArray, List.set_cons_zero, List.set_cons_succ]
              refine wpAnyH_ready (rs := [7]) (by kernel_rfl) (by simp) ?_
              refine AllReadyH.cons rfl (fun K hK => ?_) AllReadyH.nil
              clear hHeld
              go_simp
              generalize hW : World.alloc x3 _ = x4
              obtain ⟨n2, hnb⟩ : ∃ nb, nb = x3.heap.size := ⟨_, rfl⟩
              have HN2 : Hid (x4.heap[n2]? = some O2) := by show _ = _; rw [← hW, hnb, HO2.out]; exact heap_newB _ _ _
              have hb : Below x3.heap.size x3 x4 := by rw [← hW]; exact below1 _ _
              have Ln2 : Hid (q < n2) := by show _ < _; rw [hnb]; exact Qq.out.lt
              rw [← hnb]
              have Dfn2 : Hid (n2 ≠ fb) := by have := (Array.getElem?_eq_some_iff.1 HNf.out).1; show _ ≠ _; omega
              have Rq : Hid (RdAt x4 b cv B X.2) := Rq.out.below hb (Nat.le_refl _)
              have Qq : Hid (Blk q YQ x4) := Qq.out.below hb
              have Pq : Hid (Blk w.heap.size ZZ x4) := Pq.out.below hb
              have Fq : Hid (Fls x4 w.heap.size (.slice a4 acc.length c4) acc) := fls_below Fq.out hb (Nat.le_refl _)
              have Oq : Hid (Off b w x4) := Oq.out.trans (Off.of_below hb)
              have HN1 : Hid (x4.heap[n1]? = some O1) := by show _ = _; rw [hb.block n1 (Array.getElem?_eq_some_iff.1 HN1.out).1]; exact HN1.out
              have HNf : Hid (x4.heap[fb]? = some OF) := by show _ = _; rw [hb.block fb (Array.getElem?_eq_some_iff.1 HNf.out).1]; exact HNf.out
              clear hW hnb
              refine hK.out _ _ ⟨HC1.out _ _ HN1.out, trivial⟩ (fun hHeld => ?_)
              clear hK K hb
              try simp only [Act.put, List.setIfInBounds_toArray, List.set_cons_zero, List.set_cons_succ]
              clear hHeld
              refine wpAnyH_more (T := fun wq => wq.cell? ⟨n2, m4, none⟩ = some (.int .i64 z) ∧ wq.cell? ⟨n1, m3, none⟩ = some (.string y) ∧ True) (fun _ h => h.2) _ _ _ _ ?_
              have hHeld : (fun wq => wq.cell? ⟨n2, m4, none⟩ = some (.int .i64 z) ∧ wq.cell? ⟨n1, m3, none⟩ = some (.string y) ∧ True) x4 := ⟨HC2.out _ _ HN2.out, HC1.out _ _ HN1.out, trivial⟩
              refine wpAnyH_take (i := 11) (oi := { dst := some 36, op := Op.indexAddr 59 (Operand.tmp 32) (Operand.tmp 35), type := 0, pos := "l5_bounce.go:162", after := #[{ on := 7, ground := Ground.data }, { on := 10, ground := Ground.data }], guard := none }) (v := .pointer (some ⟨n2, m4, none⟩)) rfl (by kernel_rfl) (by kernel_rfl) (by kernel_rfl) (fun _ _ _ h => h) (Or.inl ⟨by rfl, fun wz hSw => ?_⟩) hHeld ?_
              · obtain ⟨e0, e1, _⟩ := hSw
                clear hHeld
                go_simp
              simp only [Act.put, List.setIfInBounds_toArray, List.set_cons_zero, List.set_cons_succ]
              refine wpAnyH_take (i := 12) (oi := { dst := some 37, op := Op.load 3 (Operand.tmp 36), type := 3, pos := "l5_bounce.go:162", after := #[{ on := 11, ground := Ground.data }], guard := none }) (v := .int .i64 z) rfl (by kernel_rfl) (by kernel_rfl) (by kernel_rfl) (fun _ _ _ h => h) (Or.inl ⟨by rfl, fun wz hSw => ?_⟩) hHeld ?_
              · obtain ⟨e0, e1, _⟩ := hSw
                clear hHeld
                go_simp
              simp only [Act.put, List.setIfInBounds_toArray, List.set_cons_zero, List.set_cons_succ]
              refine wpAnyH_take (i := 13) (oi := { dst := some 38, op := Op.build 31 #[(0, Operand.tmp 26), (1, Operand.tmp 31), (2, Operand.tmp 37)], type := 31, pos := "l5_bounce.go:162", after := #[{ on := 1, ground := Ground.data }, { on := 6, ground := Ground.data }, { on := 12, ground := Ground.data }], guard := none }) (v := .agg #[.string X.1, .string y, .int .i64 z, .string ⟨#[]⟩]) rfl (by kernel_rfl) (by kernel_rfl) (by kernel_rfl) (fun _ _ _ h => h) (Or.inl ⟨by rfl, fun wz hSw => ?_⟩) hHeld ?_
              · obtain ⟨e0, e1, _⟩ := hSw
                clear hHeld
                go_simp
              simp only [Act.put, List.setIfInBounds_toArray, List.set_cons_zero, List.set_cons_succ]
              refine wpAnyH_ready (rs := [15]) (by kernel_rfl) (by simp) ?_
              refine AllReadyH.cons rfl (fun K hK => ?_) AllReadyH.nil
              have HNg := HNf.out
              rw [HOF.out] at HNg
              have z0 : x4.cell? ⟨fb, 0, none⟩ = some (.string ⟨#[]⟩) := by rw [Lib.cell_of_heap HNg]; rfl
              have z1 : x4.cell? ⟨fb, 1, none⟩ = some (.string ⟨#[]⟩) := by rw [Lib.cell_of_heap HNg]; rfl
              have z2 : x4.cell? ⟨fb, 2, none⟩ = some (.int .i64 0) := by rw [Lib.cell_of_heap HNg]; rfl
              have z3 : x4.cell? ⟨fb, 3, none⟩ = some (.string ⟨#[]⟩) := by rw [Lib.cell_of_heap HNg]; rfl
              have g0 : x4.frozen? ⟨fb, 0, none⟩ = false := Lib.frozen_of_heap HNg 0
              have g1 : x4.frozen? ⟨fb, 1, none⟩ = false := Lib.frozen_of_heap HNg 1
              have g2 : x4.frozen? ⟨fb, 2, none⟩ = false := Lib.frozen_of_heap HNg 2
              have g3 : x4.frozen? ⟨fb, 3, none⟩ = false := Lib.frozen_of_heap HNg 3
              clear hHeld
              go_simp
              generalize hV : ((((x4.setCell ⟨fb, 0, none⟩ (.string X.1)).setCell ⟨fb, 1, none⟩ (.string y)).setCell ⟨fb, 2, none⟩ (.int .i64 z)).setCell ⟨fb, 3, none⟩ (.string ⟨#[]⟩)) = x5
              obtain ⟨FBk, o5, b5⟩ : Hid (Blk fb #[.string X.1, .string y, .int .i64 z, .string ⟨#[]⟩] x5) ∧ Off fb x4 x5 ∧ Below w.heap.size x4 x5 := by rw [← hV]; exact set4 HNg (by have := Lfb.out; omega)
              clear hV z0 z1 z2 z3 g0 g1 g2 g3 HNg
              have Rq : Hid (RdAt x5 b cv B X.2) := H.out.carry Rq.out b5
              have Qq : Hid (Blk q YQ x5) := Qq.out.offB o5 (by have := Lfb.out; omega)
              have Pq : Hid (Blk w.heap.size ZZ x5) := Pq.out.offB o5 (by have := Lfb.out; omega)
              have Fq : Hid (Fls x5 w.heap.size (.slice a4 acc.length c4) acc) := fls_off Fq.out o5 GFB.out
              have Oq : Hid (Off b w x5) := off_belowN Oq.out b5
              have HN2 : Hid (x5.heap[n2]? = some O2) := by show _ = _; rw [o5.block n2 (Array.getElem?_eq_some_iff.1 HN2.out).1 Dfn2.out]; exact HN2.out
              have HN1 : Hid (x5.heap[n1]? = some O1) := by show _ = _; rw [o5.block n1 (Array.getElem?_eq_some_iff.1 HN1.out).1 Dfn1.out]; exact HN1.out
              refine hK.out _ _ ⟨HC2.out _ _ HN2.out, HC1.out _ _ HN1.out, trivial⟩ (fun hHeld => ?_)
              clear hK K hHeld o5 b5
              try simp only [Act.put, List.setIfInBounds_toArray, List.set_cons_zero, List.set_cons_succ]
              refine wpAnyH_done (by kernel_rfl) ?_ _
              go_wp2_with fail
              go_meet
              exact ⟨fb, rfl, Lfb.out, FBk, Rq, HYQ.out ▸ Qq, HZZ.out ▸ Pq, Fq, Oq, GFB⟩
            · clear hHeld
              go_simp
              generalize hW : World.alloc x2 _ = x3
              obtain ⟨n2, hnb⟩ : ∃ nb, nb = x2.heap.size := ⟨_, rfl⟩
              have HN2 : Hid (x3.heap[n2]? = some O2) := by show _ = _; rw [← hW, hnb, HO2.out]; exact heap_newB _ _ _
              have hb : Below x2.heap.size x2 x3 := by rw [← hW]; exact below1 _ _
              have Ln2 : Hid (q < n2) := by show _ < _; rw [hnb]; exact Qq.out.lt
              rw [← hnb]
              have Dfn2 : Hid (n2 ≠ fb) := by have := (Array.getElem?_eq_some_iff.1 HNf.out).1; show _ ≠ _; omega
              have Rq : Hid (RdAt x3 b cv B p1) := Rq.out.below hb (Nat.le_refl _)
              have Qq : Hid (Blk q YQ x3) := Qq.out.below hb
              have Pq : Hid (Blk w.heap.size ZZ x3) := Pq.out.below hb
              have Fq : Hid (Fls x3 w.heap.size (.slice a4 acc.length c4) acc) := fls_below Fq.out hb (Nat.le_refl _)
              have Oq : Hid (Off b w x3) := Oq.out.trans (Off.of_below hb)
              have HN1 : Hid (x3.heap[n1]? = some O1) := by show _ = _; rw [hb.block n1 (Array.getElem?_eq_some_iff.1 HN1.out).1]; exact HN1.out
              have HNf : Hid (x3.heap[fb]? = some OF) := by show _ = _; rw [hb.block fb (Array.getElem?_eq_some_iff.1 HNf.out).1]; exact HNf.out
              clear hW hnb
              refine hK.out _ _ ⟨HC1.out _ _ HN1.out, trivial⟩ (fun hHeld => ?_)
              clear hK K hb
              try simp only [Act.put, List.setIfInBounds_toArray, List.set_cons_zero, List.set_cons_succ]
              clear hHeld
              refine wpAnyH_more (T := fun wq => wq.cell? ⟨n2, m4, none⟩ = some (.int .i64 z) ∧ wq.cell? ⟨n1, m3, none⟩ = some (.string y) ∧ True) (fun _ h => h.2) _ _ _ _ ?_
              have hHeld : (fun wq => wq.cell? ⟨n2, m4, none⟩ = some (.int .i64 z) ∧ wq.cell? ⟨n1, m3, none⟩ = some (.string y) ∧ True) x3 := ⟨HC2.out _ _ HN2.out, HC1.out _ _ HN1.out, trivial⟩
              refine wpAnyH_take (i := 11) (oi := { dst := some 36, op := Op.indexAddr 59 (Operand.tmp 32) (Operand.tmp 35), type := 0, pos := "l5_bounce.go:162", after := #[{ on := 7, ground := Ground.data }, { on := 10, ground := Ground.data }], guard := none }) (v := .pointer (some ⟨n2, m4, none⟩)) rfl (by kernel_rfl) (by kernel_rfl) (by kernel_rfl) (fun _ _ _ h => h) (Or.inl ⟨by rfl, fun wz hSw => ?_⟩) hHeld ?_
              · obtain ⟨e0, e1, _⟩ := hSw
                clear hHeld
                go_simp
              simp only [Act.put, List.setIfInBounds_toArray, List.set_cons_zero, List.set_cons_succ]
              refine wpAnyH_take (i := 12) (oi := { dst := some 37, op := Op.load 3 (Operand.tmp 36), type := 3, pos := "l5_bounce.go:162", after := #[{ on := 11, ground := Ground.data }], guard := none }) (v := .int .i64 z) rfl (by kernel_rfl) (by kernel_rfl) (by kernel_rfl) (fun _ _ _ h => h) (Or.inl ⟨by rfl, fun wz hSw => ?_⟩) hHeld ?_
              · obtain ⟨e0, e1, _⟩ := hSw
                clear hHeld
                go_simp
              simp only [Act.put, List.setIfInBounds_toArray, List.set_cons_zero, List.set_cons_succ]
              refine wpAnyH_ready (rs := [1]) (by kernel_rfl) (by simp) ?_
              refine AllReadyH.cons rfl (fun K hK => ?_) AllReadyH.nil
              clear hHeld
              go_simp
              go_at_call 27
              refine (HAD.out _ Rq.out).mono ?_
              rintro e x4 ⟨rfl, h1, o1⟩
              have Rq : Hid (RdAt x4 b cv B X.2) := h1
              have Qq : Hid (Blk q YQ x4) := Qq.out.offB o1 nqb
              have Pq : Hid (Blk w.heap.size ZZ x4) := Pq.out.offB o1 npb
              have Fq : Hid (Fls x4 w.heap.size (.slice a4 acc.length c4) acc) := fls_off Fq.out o1 HNB.out
              have Oq : Hid (Off b w x4) := Oq.out.trans o1
              have HN1 : Hid (x4.heap[n1]? = some O1) := by show _ = _; rw [o1.block n1 (Array.getElem?_eq_some_iff.1 HN1.out).1 (by have := Ln1.out; omega)]; exact HN1.out
              have HNf : Hid (x4.heap[fb]? = some OF) := by show _ = _; rw [o1.block fb (Array.getElem?_eq_some_iff.1 HNf.out).1 (by have := Lfb.out; omega)]; exact HNf.out
              have HN2 : Hid (x4.heap[n2]? = some O2) := by show _ = _; rw [o1.block n2 (Array.getElem?_eq_some_iff.1 HN2.out).1 (by have := Ln2.out; omega)]; exact HN2.out
              refine hK.out _ _ ⟨HC2.out _ _ HN2.out, HC1.out _ _ HN1.out, trivial⟩ (fun hHeld => ?_)
              clear hK K h1 o1
              try simp only [Act.put, List.setIfInBounds_toArray, List.set_cons_zero, List.set_cons_succ]
              refine wpAnyH_take (i := 13) (oi := { dst := some 38, op := Op.build 31 #[(0, Operand.tmp 26), (1, Operand.tmp 31), (2, Operand.tmp 37)], type := 31, pos := "l5_bounce.go:162", after := #[{ on := 1, ground := Ground.data }, { on := 6, ground := Ground.data }, { on := 12, ground := Ground.data }], guard := none }) (v := .agg #[.string X.1, .string y, .int .i64 z, .string ⟨#[]⟩]) rfl (by kernel_rfl) (by kernel_rfl) (by kernel_rfl) (fun _ _ _ h => h) (Or.inl ⟨by rfl, fun wz hSw => ?_⟩) hHeld ?_
              · obtain ⟨e0, e1, _⟩ := hSw
                clear hHeld
                go_simp
              simp only [Act.put, List.setIfInBounds_toArray, List.set_cons_zero, List.set_cons_succ]
              refine wpAnyH_ready (rs := [15]) (by kernel_rfl) (by simp) ?_
              refine AllReadyH.cons rfl (fun K hK => ?_) AllReadyH.nil
              have HNg := HNf.out
              rw [HOF.out] at HNg
              have z0 : x4.cell? ⟨fb, 0, none⟩ = some (.string ⟨#[]⟩) := by rw [Lib.cell_of_heap HNg]; rfl
              have z1 : x4.cell? ⟨fb, 1, none⟩ = some (.string ⟨#[]⟩) := by rw [Lib.cell_of_heap HNg]; rfl
              have z2 : x4.cell? ⟨fb, 2, none⟩ = some (.int .i64 0) := by rw [Lib.cell_of_heap HNg]; rfl
              have z3 : x4.cell? ⟨fb, 3, none⟩ = some (.string ⟨#[]⟩) := by rw [Lib.cell_of_heap HNg]; rfl
              have g0 : x4.frozen? ⟨fb, 0, none⟩ = false := Lib.frozen_of_heap HNg 0
              have g1 : x4.frozen? ⟨fb, 1, none⟩ = false := Lib.frozen_of_heap HNg 1
              have g2 : x4.frozen? ⟨fb, 2, none⟩ = false := Lib.frozen_of_heap HNg 2
              have g3 : x4.frozen? ⟨fb, 3, none⟩ = false := Lib.frozen_of_heap HNg 3
              clear hHeld
              go_simp
              generalize hV : ((((x4.setCell ⟨fb, 0, none⟩ (.string X.1)).setCell ⟨fb, 1, none⟩ (.string y)).setCell ⟨fb, 2, none⟩ (.int .i64 z)).setCell ⟨fb, 3, none⟩ (.string ⟨#[]⟩)) = x5
              obtain ⟨FBk, o5, b5⟩ : Hid (Blk fb #[.string X.1, .string y, .int .i64 z, .string ⟨#[]⟩] x5) ∧ Off fb x4 x5 ∧ Below w.heap.size x4 x5 := by rw [← hV]; exact set4 HNg (by have := Lfb.out; omega)
              clear hV z0 z1 z2 z3 g0 g1 g2 g3 HNg
              have Rq : Hid (RdAt x5 b cv B X.2) := H.out.carry Rq.out b5
              have Qq : Hid (Blk q YQ x5) := Qq.out.offB o5 (by have := Lfb.out; omega)
              have Pq : Hid (Blk w.heap.size ZZ x5) := Pq.out.offB o5 (by have := Lfb.out; omega)
              have Fq : Hid (Fls x5 w.heap.size (.slice a4 acc.length c4) acc) := fls_off Fq.out o5 GFB.out
              have Oq : Hid (Off b w x5) := off_belowN Oq.out b5
              have HN2 : Hid (x5.heap[n2]? = some O2) := by show _ = _; rw [o5.block n2 (Array.getElem?_eq_some_iff.1 HN2.out).1 Dfn2.out]; exact HN2.out
              have HN1 : Hid (x5.heap[n1]? = some O1) := by show _ = _; rw [o5.block n1 (Array.getElem?_eq_some_iff.1 HN1.out).1 Dfn1.out]; exact HN1.out
              refine hK.out _ _ ⟨HC2.out _ _ HN2.out, HC1.out _ _ HN1.out, trivial⟩ (fun hHeld => ?_)
              clear hK K hHeld o5 b5
              try simp only [Act.put, List.setIfInBounds_toArray, List.set_cons_zero, List.set_cons_succ]
              refine wpAnyH_done (by kernel_rfl) ?_ _
              go_wp2_with fail
              go_meet
              exact ⟨fb, rfl, Lfb.out, FBk, Rq, HYQ.out ▸ Qq, HZZ.out ▸ Pq, Fq, Oq, GFB⟩
        · clear hHeld
          go_simp
          generalize hW : World.alloc x0 _ = x1
          obtain ⟨n2, hnb⟩ : ∃ nb, nb = x0.heap.size := ⟨_, rfl⟩
          have HN2 : Hid (x1.heap[n2]? = some O2) := by show _ = _; rw [← hW, hnb, HO2.out]; exact heap_newB _ _ _
          have hb : Below x0.heap.size x0 x1 := by rw [← hW]; exact below1 _ _
          have Ln2 : Hid (q < n2) := by show _ < _; rw [hnb]; exact Qq.out.lt
          rw [← hnb]
          have Rq : Hid (RdAt x1 b cv B p1) := Rq.out.below hb (Nat.le_refl _)
          have Qq : Hid (Blk q YQ x1) := Qq.out.below hb
          have Pq : Hid (Blk w.heap.size ZZ x1) := Pq.out.below hb
          have Fq : Hid (Fls x1 w.heap.size (.slice a4 acc.length c4) acc) := fls_below Fq.out hb (Nat.le_refl _)
          have Oq : Hid (Off b w x1) := Oq.out.trans (Off.of_below hb)
          clear hW hnb
          refine hK.out _ _ trivial (fun hHeld => ?_)
          clear hK K hb
          try simp only [Act.put, List.setIfInBounds_toArray, List.set_cons_zero, List.set_cons_succ]
          clear hHeld
          refine wpAnyH_more (T := fun wq => wq.cell? ⟨n2, m4, none⟩ = some (.int .i64 z) ∧ True) (fun _ h => trivial) _ _ _ _ ?_
          have hHeld : (fun wq => wq.cell? ⟨n2, m4, none⟩ = some (.int .i64 z) ∧ True) x1 := ⟨HC2.out _ _ HN2.out, trivial⟩
          refine wpAnyH_take (i := 11) (oi := { dst := some 36, op := Op.indexAddr 59 (Operand.tmp 32) (Operand.tmp 35), type := 0, pos := "l5_bounce.go:162", after := #[{ on := 7, ground := Ground.data }, { on := 10, ground := Ground.data }], guard := none }) (v := .pointer (some ⟨n2, m4, none⟩)) rfl (by kernel_rfl) (by kernel_rfl) (by kernel_rfl) (fun _ _ _ h => h) (Or.inl ⟨by rfl, fun wz hSw => ?_⟩) hHeld ?_
          · obtain ⟨e0, _⟩ := hSw
            clear hHeld
            go_simp
          simp only [Act.put, List.setIfInBounds_toArray, List.set_cons_zero, List.set_cons_succ]
          refine wpAnyH_take (i := 12) (oi := { dst := some 37, op := Op.load 3 (Operand.tmp 36), type := 3, pos := "l5_bounce.go:162", after := #[{ on := 11, ground := Ground.data }], guard := none }) (v := .int .i64 z) rfl (by kernel_rfl) (by kernel_rfl) (by kernel_rfl) (fun _ _ _ h => h) (Or.inl ⟨by rfl, fun wz hSw => ?_⟩) hHeld ?_
          · obtain ⟨e0, _⟩ := hSw
            clear hHeld
            go_simp
          simp only [Act.put, List.setIfInBounds_toArray, List.set_cons_zero, List.set_cons_succ]
          refine wpAnyH_ready (rs := [1, 2, 14]) (by kernel_rfl) (by simp) ?_
          refine AllReadyH.cons rfl (fun K hK => ?_) (AllReadyH.cons rfl (fun K hK => ?_) (AllReadyH.cons rfl (fun K hK => ?_) AllReadyH.nil))
          · clear hHeld
            go_simp
            go_at_call 27
            refine (HAD.out _ Rq.out).mono ?_
            rintro e x2 ⟨rfl, h1, o1⟩
            have Rq : Hid (RdAt x2 b cv B X.2) := h1
            have Qq : Hid (Blk q YQ x2) := Qq.out.offB o1 nqb
            have Pq : Hid (Blk w.heap.size ZZ x2) := Pq.out.offB o1 npb
            have Fq : Hid (Fls x2 w.heap.size (.slice a4 acc.length c4) acc) := fls_off Fq.out o1 HNB.out
            have Oq : Hid (Off b w x2) := Oq.out.trans o1
            have HN2 : Hid (x2.heap[n2]? = some O2) := by show _ = _; rw [o1.block n2 (Array.getElem?_eq_some_iff.1 HN2.out).1 (by have := Ln2.out; omega)]; exact HN2.out
            refine hK.out _ _ ⟨HC2.out _ _ HN2.out, trivial⟩ (fun hHeld => ?_)
            clear hK K h1 o1
            try simp only [Act.put, List.setIfInBounds_toArray, List.set_cons_zero, List.set_cons_succ]
            refine wpAnyH_ready (rs := [2, 14]) (by kernel_rfl) (by simp) ?_
            refine AllReadyH.cons rfl (fun K hK => ?_) (AllReadyH.cons rfl (fun K hK => ?_) AllReadyH.nil)
            · clear hHeld
              go_simp
              generalize hW : World.alloc x2 _ = x3
              obtain ⟨n1, hnb⟩ : ∃ nb, nb = x2.heap.size := ⟨_, rfl⟩
              have HN1 : Hid (x3.heap[n1]? = some O1) := by show _ = _; rw [← hW, hnb, HO1.out]; exact heap_newB _ _ _
              have hb : Below x2.heap.size x2 x3 := by rw [← hW]; exact below1 _ _
              have Ln1 : Hid (q < n1) := by show _ < _; rw [hnb]; exact Qq.out.lt
              rw [← hnb]
              have Rq : Hid (RdAt x3 b cv B X.2) := Rq.out.below hb (Nat.le_refl _)
              have Qq : Hid (Blk q YQ x3) := Qq.out.below hb
              have Pq : Hid (Blk w.heap.size ZZ x3) := Pq.out.below hb
              have Fq : Hid (Fls x3 w.heap.size (.slice a4 acc.length c4) acc) := fls_below Fq.out hb (Nat.le_refl _)
              have Oq : Hid (Off b w x3) := Oq.out.trans (Off.of_below hb)
              have HN2 : Hid (x3.heap[n2]? = some O2) := by show _ = _; rw [hb.block n2 (Array.getElem?_eq_some_iff.1 HN2.out).1]; exact HN2.out
              clear hW hnb
              refine hK.out _ _ ⟨HC2.out _ _ HN2.out, trivial⟩ (fun hHeld => ?_)
              clear hK K hb
              try simp only [Act.put, List.setIfInBounds_toArray, List.set_cons_zero, List.set_cons_succ]
              clear hHeld
              refine wpAnyH_more (T := fun wq => wq.cell? ⟨n1, m3, none⟩ = some (.string y) ∧ wq.cell? ⟨n2, m4, none⟩ = some (.int .i64 z) ∧ True) (fun _ h => h.2) _ _ _ _ ?_
              have hHeld : (fun wq => wq.cell? ⟨n1, m3, none⟩ = some (.string y) ∧ wq.cell? ⟨n2, m4, none⟩ = some (.int .i64 z) ∧ True) x3 := ⟨HC1.out _ _ HN1.out, HC2.out _ _ HN2.out, trivial⟩
              refine wpAnyH_take (i := 5) (oi := { dst := some 30, op := Op.indexAddr 39 (Operand.tmp 27) (Operand.tmp 29), type := 0, pos := "l5_bounce.go:162", after := #[{ on := 2, ground := Ground.data }, { on := 4, ground := Ground.data }], guard := none }) (v := .pointer (some ⟨n1, m3, none⟩)) rfl (by kernel_rfl) (by kernel_rfl) (by kernel_rfl) (fun _ _ _ h => h) (Or.inl ⟨by rfl, fun wz hSw => ?_⟩) hHeld ?_
              · obtain ⟨e0, e1, _⟩ := hSw
                clear hHeld
                go_simp
              simp only [Act.put, List.setIfInBounds_toArray, List.set_cons_zero, List.set_cons_succ]
              refine wpAnyH_take (i := 6) (oi := { dst := some 31, op := Op.load 9 (Operand.tmp 30), type := 9, pos := "l5_bounce.go:162", after := #[{ on := 5, ground := Ground.data }], guard := none }) (v := .string y) rfl (by kernel_rfl) (by kernel_rfl) (by kernel_rfl) (fun _ _ _ h => h) (Or.inl ⟨by rfl, fun wz hSw => ?_⟩) hHeld ?_
              · obtain ⟨e0, e1, _⟩ := hSw
                clear hHeld
                go_simp
              simp only [Act.put, List.setIfInBounds_toArray, List.set_cons_zero, List.set_cons_succ]
              refine wpAnyH_take (i := 13) (oi := { dst := some 38, op := Op.build 31 #[(0, Operand.tmp 26), (1, Operand.tmp 31), (2, Operand.tmp 37)], type := 31, pos := "l5_bounce.go:162", after := #[{ on := 1, ground := Ground.data }, { on := 6, ground := Ground.data }, { on := 12, ground := Ground.data }], guard := none }) (v := .agg #[.string X.1, .string y, .int .i64 z, .string ⟨#[]⟩]) rfl (by kernel_rfl) (by kernel_rfl) (by kernel_rfl) (fun _ _ _ h => h) (Or.inl ⟨by rfl, fun wz hSw => ?_⟩) hHeld ?_
              · obtain ⟨e0, e1, _⟩ := hSw
                clear hHeld
                go_simp
              simp only [Act.put, List.setIfInBounds_toArray, List.set_cons_zero, List.set_cons_succ]
              refine wpAnyH_ready (rs := [14]) (by kernel_rfl) (by simp) ?_
              refine AllReadyH.cons rfl (fun K hK => ?_) AllReadyH.nil
              clear hHeld
              go_simp
              generalize hW : World.alloc x3 _ = x4
              obtain ⟨fb, hnb⟩ : ∃ nb, nb = x3.heap.size := ⟨_, rfl⟩
              have HNf : Hid (x4.heap[fb]? = some OF) := by show _ = _; rw [← hW, hnb, HOF.out]; exact heap_newB _ _ _
              have hb : Below x3.heap.size x3 x4 := by rw [← hW]; exact below1 _ _
              have Lfb : Hid (q < fb) := by show _ < _; rw [hnb]; exact Qq.out.lt
              rw [← hnb]
              have GFB : Hid (∀ g, (Value.slice a4 acc.length c4).ownBlock = some g → g ≠ fb) := fun g hg => by have := (fls_own Fq.out g hg).2; omega
              have Dfn2 : Hid (n2 ≠ fb) := by have := (Array.getElem?_eq_some_iff.1 HN2.out).1; show _ ≠ _; omega
              have Dfn1 : Hid (n1 ≠ fb) := by have := (Array.getElem?_eq_some_iff.1 HN1.out).1; show _ ≠ _; omega
              have Rq : Hid (RdAt x4 b cv B X.2) := Rq.out.below hb (Nat.le_refl _)
              have Qq : Hid (Blk q YQ x4) := Qq.out.below hb
              have Pq : Hid (Blk w.heap.size ZZ x4) := Pq.out.below hb
              have Fq : Hid (Fls x4 w.heap.size (.slice a4 acc.length c4) acc) := fls_below Fq.out hb (Nat.le_refl _)
              have Oq : Hid (Off b w x4) := Oq.out.trans (Off.of_below hb)
              have HN2 : Hid (x4.heap[n2]? = some O2) := by show _ = _; rw [hb.block n2 (Array.getElem?_eq_some_iff.1 HN2.out).1]; exact HN2.out
              have HN1 : Hid (x4.heap[n1]? = some O1) := by show _ = _; rw [hb.block n1 (Array.getElem?_eq_some_iff.1 HN1.out).1]; exact HN1.out
              clear hW hnb
              refine hK.out _ _ ⟨HC1.out _ _ HN1.out, HC2.out _ _ HN2.out, trivial⟩ (fun hHeld => ?_)
              clear hK K hb
              try simp only [Act.put, List.setIfInBounds_toArray, List.set_cons_zero, List.set_cons_succ]
              refine wpAnyH_ready (rs := [15]) (by kernel_rfl) (by simp) ?_
              refine AllReadyH.cons rfl (fun K hK => ?_) AllReadyH.nil
              have HNg := HNf.out
              rw [HOF.out] at HNg
              have z0 : x4.cell? ⟨fb, 0, none⟩ = some (.string ⟨#[]⟩) := by rw [Lib.cell_of_heap HNg]; rfl
              have z1 : x4.cell? ⟨fb, 1, none⟩ = some (.string ⟨#[]⟩) := by rw [Lib.cell_of_heap HNg]; rfl
              have z2 : x4.cell? ⟨fb, 2, none⟩ = some (.int .i64 0) := by rw [Lib.cell_of_heap HNg]; rfl
              have z3 : x4.cell? ⟨fb, 3, none⟩ = some (.string ⟨#[]⟩) := by rw [Lib.cell_of_heap HNg]; rfl
              have g0 : x4.frozen? ⟨fb, 0, none⟩ = false := Lib.frozen_of_heap HNg 0
              have g1 : x4.frozen? ⟨fb, 1, none⟩ = false := Lib.frozen_of_heap HNg 1
              have g2 : x4.frozen? ⟨fb, 2, none⟩ = false := Lib.frozen_of_heap HNg 2
              have g3 : x4.frozen? ⟨fb, 3, none⟩ = false := Lib.frozen_of_heap HNg 3
              clear hHeld
              go_simp
              generalize hV : ((((x4.setCell ⟨fb, 0, none⟩ (.string X.1)).setCell ⟨fb, 1, none⟩ (.string y)).setCell ⟨fb, 2, none⟩ (.int .i64 z)).setCell ⟨fb, 3, none⟩ (.string ⟨#[]⟩)) = x5
              obtain ⟨FBk, o5, b5⟩ : Hid (Blk fb #[.string X.1, .string y, .int .i64 z, .string ⟨#[]⟩] x5) ∧ Off fb x4 x5 ∧ Below w.heap.size x4 x5 := by rw [← hV]; exact set4 HNg (by have := Lfb.out; omega)
              clear hV z0 z1 z2 z3 g0 g1 g2 g3 HNg
              have Rq : Hid (RdAt x5 b cv B X.2) := H.out.carry Rq.out b5
              have Qq : Hid (Blk q YQ x5) := Qq.out.offB o5 (by have := Lfb.out; omega)
              have Pq : Hid (Blk w.heap.size ZZ x5) := Pq.out.offB o5 (by have := Lfb.out; omega)
              have Fq : Hid (Fls x5 w.heap.size (.slice a4 acc.length c4) acc) := fls_off Fq.out o5 GFB.out
              have Oq : Hid (Off b w x5) := off_belowN Oq.out b5
              have HN1 : Hid (x5.heap[n1]? = some O1) := by show _ = _; rw [o5.block n1 (Array.getElem?_eq_some_iff.1 HN1.out).1 Dfn1.out]; exact HN1.out
              have HN2 : Hid (x5.heap[n2]? = some O2) := by show _ = _; rw [o5.block n2 (Array.getElem?_eq_some_iff.1 HN2.out).1 Dfn2.out]; exact HN2.out
              refine hK.out _ _ ⟨HC1.out _ _ HN1.out, HC2.out _ _ HN2.out, trivial⟩ (fun hHeld => ?_)
              clear hK K hHeld o5 b5
              try simp only [Act.put, List.setIfInBounds_toArray, List.set_cons_zero, List.set_cons_succ]
              refine wpAnyH_done (by kernel_rfl) ?_ _
              go_wp2_with fail
              go_meet
              exact ⟨fb, rfl, Lfb.out, FBk, Rq, HYQ.out ▸ Qq, HZZ.out ▸ Pq, Fq, Oq, GFB⟩
            · clear hHeld
              go_simp
              generalize hW : World.alloc x2 _ = x3
              obtain ⟨fb, hnb⟩ : ∃ nb, nb = x2.heap.size := ⟨_, rfl⟩
              have HNf : Hid (x3.heap[fb]? = some OF) := by show _ = _; rw [← hW, hnb, HOF.out]; exact heap_newB _ _ _
              have hb : Below x2.heap.size x2 x3 := by rw [← hW]; exact below1 _ _
              have Lfb : Hid (q < fb) := by show _ < _; rw [hnb]; exact Qq.out.lt
              rw [← hnb]
              have GFB : Hid (∀ g, (Value.slice a4 acc.length c4).ownBlock = some g → g ≠ fb) := fun g hg => by have := (fls_own Fq.out g hg).2; omega
              have Dfn2 : Hid (n2 ≠ fb) := by have := (Array.getElem?_eq_some_iff.1 HN2.out).1; show _ ≠ _; omega
              have Rq : Hid (RdAt x3 b cv B X.2) := Rq.out.below hb (Nat.le_refl _)
              have Qq : Hid (Blk q YQ x3) := Qq.out.below hb
              have Pq : Hid (Blk w.heap.size ZZ x3) := Pq.out.below hb
              have Fq : Hid (Fls x3 w.heap.size (.slice a4 acc.length c4) acc) := fls_below Fq.out hb (Nat.le_refl _)
              have Oq : Hid (Off b w x3) := Oq.out.trans (Off.of_below hb)
              have HN2 : Hid (x3.heap[n2]? = some O2) := by show _ = _; rw [hb.block n2 (Array.getElem?_eq_some_iff.1 HN2.out).1]; exact HN2.out
              clear hW hnb
              refine hK.out _ _ ⟨HC2.out _ _ HN2.out, trivial⟩ (fun hHeld => ?_)
              clear hK K hb
              try simp only [Act.put, List.setIfInBounds_toArray, List.set_cons_zero, List.set_cons_succ]
              refine wpAnyH_ready (rs := [2]) (by kernel_rfl) (by simp) ?_
              refine AllReadyH.cons rfl (fun K hK => ?_) AllReadyH.nil
              clear hHeld
              go_simp
              generalize hW : World.alloc x3 _ = x4
              obtain ⟨n1, hnb⟩ : ∃ nb, nb = x3.heap.size := ⟨_, rfl⟩
              have HN1 : Hid (x4.heap[n1]? = some O1) := by show _ = _; rw [← hW, hnb, HO1.out]; exact heap_newB _ _ _
              have hb : Below x3.heap.size x3 x4 := by rw [← hW]; exact below1 _ _
              have Ln1 : Hid (q < n1) := by show _ < _; rw [hnb]; exact Qq.out.lt
              rw [← hnb]
              have Dfn1 : Hid (n1 ≠ fb) := by have := (Array.getElem?_eq_some_iff.1 HNf.out).1; show _ ≠ _; omega
              have Rq : Hid (RdAt x4 b cv B X.2) := Rq.out.below hb (Nat.le_refl _)
              have Qq : Hid (Blk q YQ x4) := Qq.out.below hb
              have Pq : Hid (Blk w.heap.size ZZ x4) := Pq.out.below hb
              have Fq : Hid (Fls x4 w.heap.size (.slice a4 acc.length c4) acc) := fls_below Fq.out hb (Nat.le_refl _)
              have Oq : Hid (Off b w x4) := Oq.out.trans (Off.of_below hb)
              have HN2 : Hid (x4.heap[n2]? = some O2) := by show _ = _; rw [hb.block n2 (Array.getElem?_eq_some_iff.1 HN2.out).1]; exact HN2.out
              have HNf : Hid (x4.heap[fb]? = some OF) := by show _ = _; rw [hb.block fb (Array.getElem?_eq_some_iff.1 HNf.out).1]; exact HNf.out
              clear hW hnb
              refine hK.out _ _ ⟨HC2.out _ _ HN2.out, trivial⟩ (fun hHeld => ?_)
              clear hK K hb
              try simp only [Act.put, List.setIfInBounds_toArray, List.set_cons_zero, List.set_cons_succ]
              clear hHeld
              refine wpAnyH_more (T := fun wq => wq.cell? ⟨n1, m3, none⟩ = some (.string y) ∧ wq.cell? ⟨n2, m4, none⟩ = some (.int .i64 z) ∧ True) (fun _ h => h.2) _ _ _ _ ?_
              have hHeld : (fun wq => wq.cell? ⟨n1, m3, none⟩ = some (.string y) ∧ wq.cell? ⟨n2, m4, none⟩ = some (.int .i64 z) ∧ True) x4 := ⟨HC1.out _ _ HN1.out, HC2.out _ _ HN2.out, trivial⟩
              refine wpAnyH_take (i := 5) (oi := { dst := some 30, op := Op.indexAddr 39 (Operand.tmp 27) (Operand.tmp 29), type := 0, pos := "l5_bounce.go:162", after := #[{ on := 2, ground := Ground.data }, { on := 4, ground := Ground.data }], guard := none }) (v := .pointer (some ⟨n1, m3, none⟩)) rfl (by kernel_rfl) (by kernel_rfl) (by kernel_rfl) (fun _ _ _ h => h) (Or.inl ⟨by rfl, fun wz hSw => ?_⟩) hHeld ?_
              · obtain ⟨e0, e1, _⟩ := hSw
                clear hHeld
                go_simp
              simp only [Act.put, List.setIfInBounds_toArray, List.set_cons_zero, List.set_cons_succ]
              refine wpAnyH_take (i := 6) (oi := { dst := some 31, op := Op.load 9 (Operand.tmp 30), type := 9, pos := "l5_bounce.go:162", after := #[{ on := 5, ground := Ground.data }], guard := none }) (v := .string y) rfl (by kernel_rfl) (by kernel_rfl) (by kernel_rfl) (fun _ _ _ h => h) (Or.inl ⟨by rfl, fun wz hSw => ?_⟩) hHeld ?_
              · obtain ⟨e0, e1, _⟩ := hSw
                clear hHeld
                go_simp
              simp only [Act.put, List.setIfInBounds_toArray, List.set_cons_zero, List.set_cons_succ]
              refine wpAnyH_take (i := 13) (oi := { dst := some 38, op := Op.build 31 #[(0, Operand.tmp 26), (1, Operand.tmp 31), (2, Operand.tmp 37)], type := 31, pos := "l5_bounce.go:162", after := #[{ on := 1, ground := Ground.data }, { on := 6, ground := Ground.data }, { on := 12, ground := Ground.data }], guard := none }) (v := .agg #[.string X.1, .string y, .int .i64 z, .string ⟨#[]⟩]) rfl (by kernel_rfl) (by kernel_rfl) (by kernel_rfl) (fun _ _ _ h => h) (Or.inl ⟨by rfl, fun wz hSw => ?_⟩) hHeld ?_
              · obtain ⟨e0, e1, _⟩ := hSw
                clear hHeld
                go_simp
              simp only [Act.put, List.setIfInBounds_toArray, List.set_cons_zero, List.set_cons_succ]
              refine wpAnyH_ready (rs := [15]) (by kernel_rfl) (by simp) ?_
              refine AllReadyH.cons rfl (fun K hK => ?_) AllReadyH.nil
              have HNg := HNf.out
              rw [HOF.out] at HNg
              have z0 : x4.cell? ⟨fb, 0, none⟩ = some (.string ⟨#[]⟩) := by rw [Lib.cell_of_heap HNg]; rfl
              have z1 : x4.cell? ⟨fb, 1, none⟩ = some (.string ⟨#[]⟩) := by rw [Lib.cell_of_heap HNg]; rfl
              have z2 : x4.cell? ⟨fb, 2, none⟩ = some (.int .i64 0) := by rw [Lib.cell_of_heap HNg]; rfl
              have z3 : x4.cell? ⟨fb, 3, none⟩ = some (.string ⟨#[]⟩) := by rw [Lib.cell_of_heap HNg]; rfl
              have g0 : x4.frozen? ⟨fb, 0, none⟩ = false := Lib.frozen_of_heap HNg 0
              have g1 : x4.frozen? ⟨fb, 1, none⟩ = false := Lib.frozen_of_heap HNg 1
              have g2 : x4.frozen? ⟨fb, 2, none⟩ = false := Lib.frozen_of_heap HNg 2
              have g3 : x4.frozen? ⟨fb, 3, none⟩ = false := Lib.frozen_of_heap HNg 3
              clear hHeld
              go_simp
              generalize hV : ((((x4.setCell ⟨fb, 0, none⟩ (.string X.1)).setCell ⟨fb, 1, none⟩ (.string y)).setCell ⟨fb, 2, none⟩ (.int .i64 z)).setCell ⟨fb, 3, none⟩ (.string ⟨#[]⟩)) = x5
              obtain ⟨FBk, o5, b5⟩ : Hid (Blk fb #[.string X.1, .string y, .int .i64 z, .string ⟨#[]⟩] x5) ∧ Off fb x4 x5 ∧ Below w.heap.size x4 x5 := by rw [← hV]; exact set4 HNg (by have := Lfb.out; omega)
              clear hV z0 z1 z2 z3 g0 g1 g2 g3 HNg
              have Rq : Hid (RdAt x5 b cv B X.2) := H.out.carry Rq.out b5
              have Qq : Hid (Blk q YQ x5) := Qq.out.offB o5 (by have := Lfb.out; omega)
              have Pq : Hid (Blk w.heap.size ZZ x5) := Pq.out.offB o5 (by have := Lfb.out; omega)
              have Fq : Hid (Fls x5 w.heap.size (.slice a4 acc.length c4) acc) := fls_off Fq.out o5 GFB.out
              have Oq : Hid (Off b w x5) := off_belowN Oq.out b5
              have HN1 : Hid (x5.heap[n1]? = some O1) := by show _ = _; rw [o5.block n1 (Array.getElem?_eq_some_iff.1 HN1.out).1 Dfn1.out]; exact HN1.out
              have HN2 : Hid (x5.heap[n2]? = some O2) := by show _ = _; rw [o5.block n2 (Array.getElem?_eq_some_iff.1 HN2.out).1 Dfn2.out]; exact HN2.out
              refine hK.out _ _ ⟨HC1.out _ _ HN1.out, HC2.out _ _ HN2.out, trivial⟩ (fun hHeld => ?_)
              clear hK K hHeld o5 b5
              try simp only [Act.put, List.setIfInBounds_toArray, List.set_cons_zero, List.set_cons_succ]
              refine wpAnyH_done (by kernel_rfl) ?_ _
              go_wp2_with fail
              go_meet
              exact ⟨fb, rfl, Lfb.out, FBk, Rq, HYQ.out ▸ Qq, HZZ.out ▸ Pq, Fq, Oq, GFB⟩
          · clear hHeld
            go_simp
            generalize hW : World.alloc x1 _ = x2
            obtain ⟨n1, hnb⟩ : ∃ nb, nb = x1.heap.size := ⟨_, rfl⟩
            have HN1 : Hid (x2.heap[n1]? = some O1) := by show _ = _; rw [← hW, hnb, HO1.out]; exact heap_newB _ _ _
            have hb : Below x1.heap.size x1 x2 := by rw [← hW]; exact below1 _ _
            have Ln1 : Hid (q < n1) := by show _ < _; rw [hnb]; exact Qq.out.lt
            rw [← hnb]
            have Rq : Hid (RdAt x2 b cv B p1) := Rq.out.below hb (Nat.le_refl _)
            have Qq : Hid (Blk q YQ x2) := Qq.out.below hb
            have Pq : Hid (Blk w.heap.size ZZ x2) := Pq.out.below hb
            have Fq : Hid (Fls x2 w.heap.size (.slice a4 acc.length c4) acc) := fls_below Fq.out hb (Nat.le_refl _)
            have Oq : Hid (Off b w x2) := Oq.out.trans (Off.of_below hb)
            have HN2 : Hid (x2.heap[n2]? = some O2) := by show _ = _; rw [hb.block n2 (Array.getElem?_eq_some_iff.1 HN2.out).1]; exact HN2.out
            clear hW hnb
            refine hK.out _ _ ⟨HC2.out _ _ HN2.out, trivial⟩ (fun hHeld => ?_)
            clear hK K hb
            try simp only [Act.put, List.setIfInBounds_toArray, List.set_cons_zero, List.set_cons_succ]
            clear hHeld
            refine wpAnyH_more (T := fun wq => wq.cell? ⟨n1, m3, none⟩ = some (.string y) ∧ wq.cell? ⟨n2, m4, none⟩ = some (.int .i64 z) ∧ True) (fun _ h => h.2) _ _ _ _ ?_
            have hHeld : (fun wq => wq.cell? ⟨n1, m3, none⟩ = some (.string y) ∧ wq.cell? ⟨n2, m4, none⟩ = some (.int .i64 z) ∧ True) x2 := ⟨HC1.out _ _ HN1.out, HC2.out _ _ HN2.out, trivial⟩
            refine wpAnyH_take (i := 5) (oi := { dst := some 30, op := Op.indexAddr 39 (Operand.tmp 27) (Operand.tmp 29), type := 0, pos := "l5_bounce.go:162", after := #[{ on := 2, ground := Ground.data }, { on := 4, ground := Ground.data }], guard := none }) (v := .pointer (some ⟨n1, m3, none⟩)) rfl (by kernel_rfl) (by kernel_rfl) (by kernel_rfl) (fun _ _ _ h => h) (Or.inl ⟨by rfl, fun wz hSw => ?_⟩) hHeld ?_
            · obtain ⟨e0, e1, _⟩ := hSw
              clear hHeld
              go_simp
            simp only [Act.put, List.setIfInBounds_toArray, List.set_cons_zero, List.set_cons_succ]
            refine wpAnyH_take (i := 6) (oi := { dst := some 31, op := Op.load 9 (Operand.tmp 30), type := 9, pos := "l5_bounce.go:162", after := #[{ on := 5, ground := Ground.data }], guard := none }) (v := .string y) rfl (by kernel_rfl) (by kernel_rfl) (by kernel_rfl) (fun _ _ _ h => h) (Or.inl ⟨by rfl, fun wz hSw => ?_⟩) hHeld ?_
            · obtain ⟨e0, e1, _⟩ := hSw
              clear hHeld
              go_simp
            simp only [Act.put, List.setIfInBounds_toArray, List.set_cons_zero, List.set_cons_succ]
            refine wpAnyH_ready (rs := [1, 14]) (by kernel_rfl) (by simp) ?_
            refine AllReadyH.cons rfl (fun K hK => ?_) (AllReadyH.cons rfl (fun K hK => ?_) AllReadyH.nil)
            · clear hHeld
              go_simp
              go_at_call 27
              refine (HAD.out _ Rq.out).mono ?_
              rintro e x3 ⟨rfl, h1, o1⟩
              have Rq : Hid (RdAt x3 b cv B X.2) := h1
              have Qq : Hid (Blk q YQ x3) := Qq.out.offB o1 nqb
              have Pq : Hid (Blk w.heap.size ZZ x3) := Pq.out.offB o1 npb
              have Fq : Hid (Fls x3 w.heap.size (.slice a4 acc.length c4) acc) := fls_off Fq.out o1 HNB.out
              have Oq : Hid (Off b w x3) := Oq.out.trans o1
              have HN2 : Hid (x3.heap[n2]? = some O2) := by show _ = _; rw [o1.block n2 (Array.getElem?_eq_some_iff.1 HN2.out).1 (by have := Ln2.out; omega)]; exact HN2.out
              have HN1 : Hid (x3.heap[n1]? = some O1) := by show _ = _; rw [o1.block n1 (Array.getElem?_eq_some_iff.1 HN1.out).1 (by have := Ln1.out; omega)]; exact HN1.out
              refine hK.out _ _ ⟨HC1.out _ _ HN1.out, HC2.out _ _ HN2.out, trivial⟩ (fun hHeld => ?_)
              clear hK K h1 o1
              try simp only [Act.put, List.setIfInBounds_toArray, List.set_cons_zero, List.set_cons_succ]
              refine wpAnyH_take (i := 13) (oi := { dst := some 38, op := Op.build 31 #[(0, Operand.tmp 26), (1, Operand.tmp 31), (2, Operand.tmp 37)], type := 31, pos := "l5_bounce.go:162", after := #[{ on := 1, ground := Ground.data }, { on := 6, ground := Ground.data }, { on := 12, ground := Ground.data }], guard := none }) (v := .agg #[.string X.1, .string y, .int .i64 z, .string ⟨#[]⟩]) rfl (by kernel_rfl) (by kernel_rfl) (by kernel_rfl) (fun _ _ _ h => h) (Or.inl ⟨by rfl, fun wz hSw => ?_⟩) hHeld ?_
              · obtain ⟨e0, e1, _⟩ := hSw
                clear hHeld
                go_simp
              simp only [Act.put, List.setIfInBounds_toArray, List.set_cons_zero, List.set_cons_succ]
              refine wpAnyH_ready (rs := [14]) (by kernel_rfl) (by simp) ?_
              refine AllReadyH.cons rfl (fun K hK => ?_) AllReadyH.nil
              clear hHeld
              go_simp
              generalize hW : World.alloc x3 _ = x4
              obtain ⟨fb, hnb⟩ : ∃ nb, nb = x3.heap.size := ⟨_, rfl⟩
              have HNf : Hid (x4.heap[fb]? = some OF) := by show _ = _; rw [← hW, hnb, HOF.out]; exact heap_newB _ _ _
              have hb : Below x3.heap.size x3 x4 := by rw [← hW]; exact below1 _ _
              have Lfb : Hid (q < fb) := by show _ < _; rw [hnb]; exact Qq.out.lt
              rw [← hnb]
              have GFB : Hid (∀ g, (Value.slice a4 acc.length c4).ownBlock = some g → g ≠ fb) := fun g hg => by have := (fls_own Fq.out g hg).2; omega
              have Dfn2 : Hid (n2 ≠ fb) := by have := (Array.getElem?_eq_some_iff.1 HN2.out).1; show _ ≠ _; omega
              have Dfn1 : Hid (n1 ≠ fb) := by have := (Array.getElem?_eq_some_iff.1 HN1.out).1; show _ ≠ _; omega
              have Rq : Hid (RdAt x4 b cv B X.2) := Rq.out.below hb (Nat.le_refl _)
              have Qq : Hid (Blk q YQ x4) := Qq.out.below hb
              have Pq : Hid (Blk w.heap.size ZZ x4) := Pq.out.below hb
              have Fq : Hid (Fls x4 w.heap.size (.slice a4 acc.length c4) acc) := fls_below Fq.out hb (Nat.le_refl _)
              have Oq : Hid (Off b w x4) := Oq.out.trans (Off.of_below hb)
              have HN2 : Hid (x4.heap[n2]? = some O2) := by show _ = _; rw [hb.block n2 (Array.getElem?_eq_some_iff.1 HN2.out).1]; exact HN2.out
              have HN1 : Hid (x4.heap[n1]? = some O1) := by show _ = _; rw [hb.block n1 (Array.getElem?_eq_some_iff.1 HN1.out).1]; exact HN1.out
              clear hW hnb
              refine hK.out _ _ ⟨HC1.out _ _ HN1.out, HC2.out _ _ HN2.out, trivial⟩ (fun hHeld => ?_)
              clear hK K hb
              try simp only [Act.put, List.setIfInBounds_toArray, List.set_cons_zero, List.set_cons_succ]
              refine wpAnyH_ready (rs := [15]) (by kernel_rfl) (by simp) ?_
              refine AllReadyH.cons rfl (fun K hK => ?_) AllReadyH.nil
              have HNg := HNf.out
              rw [HOF.out] at HNg
              have z0 : x4.cell? ⟨fb, 0, none⟩ = some (.string ⟨#[]⟩) := by rw [Lib.cell_of_heap HNg]; rfl
              have z1 : x4.cell? ⟨fb, 1, none⟩ = some (.string ⟨#[]⟩) := by rw [Lib.cell_of_heap HNg]; rfl
              have z2 : x4.cell? ⟨fb, 2, none⟩ = some (.int .i64 0) := by rw [Lib.cell_of_heap HNg]; rfl
              have z3 : x4.cell? ⟨fb, 3, none⟩ = some (.string ⟨#[]⟩) := by rw [Lib.cell_of_heap HNg]; rfl
              have g0 : x4.frozen? ⟨fb, 0, none⟩ = false := Lib.frozen_of_heap HNg 0
              have g1 : x4.frozen? ⟨fb, 1, none⟩ = false := Lib.frozen_of_heap HNg 1
              have g2 : x4.frozen? ⟨fb, 2, none⟩ = false := Lib.frozen_of_heap HNg 2
              have g3 : x4.frozen? ⟨fb, 3, none⟩ = false := Lib.frozen_of_heap HNg 3
              clear hHeld
              go_simp
              generalize hV : ((((x4.setCell ⟨fb, 0, none⟩ (.string X.1)).setCell ⟨fb, 1, none⟩ (.string y)).setCell ⟨fb, 2, none⟩ (.int .i64 z)).setCell ⟨fb, 3, none⟩ (.string ⟨#[]⟩)) = x5
              obtain ⟨FBk, o5, b5⟩ : Hid (Blk fb #[.string X.1, .string y, .int .i64 z, .string ⟨#[]⟩] x5) ∧ Off fb x4 x5 ∧ Below w.heap.size x4 x5 := by rw [← hV]; exact set4 HNg (by have := Lfb.out; omega)
              clear hV z0 z1 z2 z3 g0 g1 g2 g3 HNg
              have Rq : Hid (RdAt x5 b cv B X.2) := H.out.carry Rq.out b5
              have Qq : Hid (Blk q YQ x5) := Qq.out.offB o5 (by have := Lfb.out; omega)
              have Pq : Hid (Blk w.heap.size ZZ x5) := Pq.out.offB o5 (by have := Lfb.out; omega)
              have Fq : Hid (Fls x5 w.heap.size (.slice a4 acc.length c4) acc) := fls_off Fq.out o5 GFB.out
              have Oq : Hid (Off b w x5) := off_belowN Oq.out b5
              have HN1 : Hid (x5.heap[n1]? = some O1) := by show _ = _; rw [o5.block n1 (Array.getElem?_eq_some_iff.1 HN1.out).1 Dfn1.out]; exact HN1.out
              have HN2 : Hid (x5.heap[n2]? = some O2) := by show _ = _; rw [o5.block n2 (Array.getElem?_eq_some_iff.1 HN2.out).1 Dfn2.out]; exact HN2.out
              refine hK.out _ _ ⟨HC1.out _ _ HN1.out, HC2.out _ _ HN2.out, trivial⟩ (fun hHeld => ?_)
              clear hK K hHeld o5 b5
              try simp only [Act.put, List.setIfInBounds_toArray, List.set_cons_zero, List.set_cons_succ]
              refine wpAnyH_done (by kernel_rfl) ?_ _
              go_wp2_with fail
              go_meet
              exact ⟨fb, rfl, Lfb.out, FBk, Rq, HYQ.out ▸ Qq, HZZ.out ▸ Pq, Fq, Oq, GFB⟩
            · clear hHeld
              go_simp
              generalize hW : World.alloc x2 _ = x3
              obtain ⟨fb, hnb⟩ : ∃ nb, nb = x2.heap.size := ⟨_, rfl⟩
              have HNf : Hid (x3.heap[fb]? = some OF) := by show _ = _; rw [← hW, hnb, HOF.out]; exact heap_newB _ _ _
              have hb : Below x2.heap.size x2 x3 := by rw [← hW]; exact below1 _ _
              have Lfb : Hid (q < fb) := by show _ < _; rw [hnb]; exact Qq.out.lt
              rw [← hnb]
              have GFB : Hid (∀ g, (Value.slice a4 acc.length c4).ownBlock = some g → g ≠ fb) := fun g hg => by have := (fls_own Fq.out g hg).2; omega
              have Dfn2 : Hid (n2 ≠ fb) := by have := (Array.getElem?_eq_some_iff.1 HN2.out).1; show _ ≠ _; omega
              have Dfn1 : Hid (n1 ≠ fb) := by have := (Array.getElem?_eq_some_iff.1 HN1.out).1; show _ ≠ _; omega
              have Rq : Hid (RdAt x3 b cv B p1) := Rq.out.below hb (Nat.le_refl _)
              have Qq : Hid (Blk q YQ x3) := Qq.out.below hb
              have Pq : Hid (Blk w.heap.size ZZ x3) := Pq.out.below hb
              have Fq : Hid (Fls x3 w.heap.size (.slice a4 acc.length c4) acc) := fls_below Fq.out hb (Nat.le_refl _)
              have Oq : Hid (Off b w x3) := Oq.out.trans (Off.of_below hb)
              have HN2 : Hid (x3.heap[n2]? = some O2) := by show _ = _; rw [hb.block n2 (Array.getElem?_eq_some_iff.1 HN2.out).1]; exact HN2.out
              have HN1 : Hid (x3.heap[n1]? = some O1) := by show _ = _; rw [hb.block n1 (Array.getElem?_eq_some_iff.1 HN1.out).1]; exact HN1.out
              clear hW hnb
              refine hK.out _ _ ⟨HC1.out _ _ HN1.out, HC2.out _ _ HN2.out, trivial⟩ (fun hHeld => ?_)
              clear hK K hb
              try simp only [Act.put, List.setIfInBounds_toArray, List.set_cons_zero, List.set_cons_succ]
              refine wpAnyH_ready (rs := [1]) (by kernel_rfl) (by simp) ?_
              refine AllReadyH.cons rfl (fun K hK => ?_) AllReadyH.nil
              clear hHeld
              go_simp
              go_at_call 27
              refine (HAD.out _ Rq.out).mono ?_
              rintro e x4 ⟨rfl, h1, o1⟩
              have Rq : Hid (RdAt x4 b cv B X.2) := h1
              have Qq : Hid (Blk q YQ x4) := Qq.out.offB o1 nqb
              have Pq : Hid (Blk w.heap.size ZZ x4) := Pq.out.offB o1 npb
              have Fq : Hid (Fls x4 w.heap.size (.slice a4 acc.length c4) acc) := fls_off Fq.out o1 HNB.out
              have Oq : Hid (Off b w x4) := Oq.out.trans o1
              have HN2 : Hid (x4.heap[n2]? = some O2) := by show _ = _; rw [o1.block n2 (Array.getElem?_eq_some_iff.1 HN2.out).1 (by have := Ln2.out; omega)]; exact HN2.out
              have HN1 : Hid (x4.heap[n1]? = some O1) := by show _ = _; rw [o1.block n1 (Array.getElem?_eq_some_iff.1 HN1.out).1 (by have := Ln1.out; omega)]; exact HN1.out
              have HNf : Hid (x4.heap[fb]? = some OF) := by show _ = _; rw [o1.block fb (Array.getElem?_eq_some_iff.1 HNf.out).1 (by have := Lfb.out; omega)]; exact HNf.out
              refine hK.out _ _ ⟨HC1.out _ _ HN1.out, HC2.out _ _ HN2.out, trivial⟩ (fun hHeld => ?_)
              clear hK K h1 o1
              try simp only [Act.put, List.setIfInBounds_toArray, List.set_cons_zero, List.set_cons_succ]
              refine wpAnyH_take (i := 13) (oi := { dst := some 38, op := Op.build 31 #[(0, Operand.tmp 26), (1, Operand.tmp 31), (2, Operand.tmp 37)], type := 31, pos := "l5_bounce.go:162", after := #[{ on := 1, ground := Ground.data }, { on := 6, ground := Ground.data }, { on := 12, ground := Ground.data }], guard := none }) (v := .agg #[.string X.1, .string y, .int .i64 z, .string ⟨#[]⟩]) rfl (by kernel_rfl) (by kernel_rfl) (by kernel_rfl) (fun _ _ _ h => h) (Or.inl ⟨by rfl, fun wz hSw => ?_⟩) hHeld ?_
              · obtain ⟨e0, e1, _⟩ := hSw
                clear hHeld
                go_simp
              simp only [Act.put, List.setIfInBounds_toArray, List.set_cons_zero, List.set_cons_succ]
              refine wpAnyH_ready (rs := [15]) (by kernel_rfl) (by simp) ?_
              refine AllReadyH.cons rfl (fun K hK => ?_) AllReadyH.nil
              have HNg := HNf.out
              rw [HOF.out] at HNg
              have z0 : x4.cell? ⟨fb, 0, none⟩ = some (.string ⟨#[]⟩) := by rw [Lib.cell_of_heap HNg]; rfl
              have z1 : x4.cell? ⟨fb, 1, none⟩ = some (.string ⟨#[]⟩) := by rw [Lib.cell_of_heap HNg]; rfl
              have z2 : x4.cell? ⟨fb, 2, none⟩ = some (.int .i64 0) := by rw [Lib.cell_of_heap HNg]; rfl
              have z3 : x4.cell? ⟨fb, 3, none⟩ = some (.string ⟨#[]⟩) := by rw [Lib.cell_of_heap HNg]; rfl
              have g0 : x4.frozen? ⟨fb, 0, none⟩ = false := Lib.frozen_of_heap HNg 0
              have g1 : x4.frozen? ⟨fb, 1, none⟩ = false := Lib.frozen_of_heap HNg 1
              have g2 : x4.frozen? ⟨fb, 2, none⟩ = false := Lib.frozen_of_heap HNg 2
              have g3 : x4.frozen? ⟨fb, 3, none⟩ = false := Lib.frozen_of_heap HNg 3
              clear hHeld
              go_simp
              generalize hV : ((((x4.setCell ⟨fb, 0, none⟩ (.string X.1)).setCell ⟨fb, 1, none⟩ (.string y)).setCell ⟨fb, 2, none⟩ (.int .i64 z)).setCell ⟨fb, 3, none⟩ (.string ⟨#[]⟩)) = x5
              obtain ⟨FBk, o5, b5⟩ : Hid (Blk fb #[.string X.1, .string y, .int .i64 z, .string ⟨#[]⟩] x5) ∧ Off fb x4 x5 ∧ Below w.heap.size x4 x5 := by rw [← hV]; exact set4 HNg (by have := Lfb.out; omega)
              clear hV z0 z1 z2 z3 g0 g1 g2 g3 HNg
              have Rq : Hid (RdAt x5 b cv B X.2) := H.out.carry Rq.out b5
              have Qq : Hid (Blk q YQ x5) := Qq.out.offB o5 (by have := Lfb.out; omega)
              have Pq : Hid (Blk w.heap.size ZZ x5) := Pq.out.offB o5 (by have := Lfb.out; omega)
              have Fq : Hid (Fls x5 w.heap.size (.slice a4 acc.length c4) acc) := fls_off Fq.out o5 GFB.out
              have Oq : Hid (Off b w x5) := off_belowN Oq.out b5
              have HN1 : Hid (x5.heap[n1]? = some O1) := by show _ = _; rw [o5.block n1 (Array.getElem?_eq_some_iff.1 HN1.out).1 Dfn1.out]; exact HN1.out
              have HN2 : Hid (x5.heap[n2]? = some O2) := by show _ = _; rw [o5.block n2 (Array.getElem?_eq_some_iff.1 HN2.out).1 Dfn2.out]; exact HN2.out
              refine hK.out _ _ ⟨HC1.out _ _ HN1.out, HC2.out _ _ HN2.out, trivial⟩ (fun hHeld => ?_)
              clear hK K hHeld o5 b5
              try simp only [Act.put, List.setIfInBounds_toArray, List.set_cons_zero, List.set_cons_succ]
              refine wpAnyH_done (by kernel_rfl) ?_ _
              go_wp2_with fail
              go_meet
              exact ⟨fb, rfl, Lfb.out, FBk, Rq, HYQ.out ▸ Qq, HZZ.out ▸ Pq, Fq, Oq, GFB⟩
          · clear hHeld
            go_simp
            generalize hW : World.alloc x1 _ = x2
            obtain ⟨fb, hnb⟩ : ∃ nb, nb = x1.heap.size := ⟨_, rfl⟩
            have HNf : Hid (x2.heap[fb]? = some OF) := by show _ = _; rw [← hW, hnb, HOF.out]; exact heap_newB _ _ _
            have hb : Below x1.heap.size x1 x2 := by rw [← hW]; exact below1 _ _
            have Lfb : Hid (q < fb) := by show _ < _; rw [hnb]; exact Qq.out.lt
            rw [← hnb]
            have GFB : Hid (∀ g, (Value.slice a4 acc.length c4).ownBlock = some g → g ≠ fb) := fun g hg => by have := (fls_own Fq.out g hg).2; omega
            have Dfn2 : Hid (n2 ≠ fb) := by have := (Array.getElem?_eq_some_iff.1 HN2.out).1; show _ ≠ _; omega
            have Rq : Hid (RdAt x2 b cv B p1) := Rq.out.below hb (Nat.le_refl _)
            have Qq : Hid (Blk q YQ x2) := Qq.out.below hb
            have Pq : Hid (Blk w.heap.size ZZ x2) := Pq.out.below hb
            have Fq : Hid (Fls x2 w.heap.size (.slice a4 acc.length c4) acc) := fls_below Fq.out hb (Nat.le_refl _)
            have Oq : Hid (Off b w x2) := Oq.out.trans (Off.of_below hb)
            have HN2 : Hid (x2.heap[n2]? = some O2) := by show _ = _; rw [hb.block n2 (Array.getElem?_eq_some_iff.1 HN2.out).1]; exact HN2.out
            clear hW hnb
            refine hK.out _ _ ⟨HC2.out _ _ HN2.out, trivial⟩ (fun hHeld => ?_)
            clear hK K hb
            try simp only [Act.put, List.setIfInBounds_toArray, List.set_cons_zero, List.set_cons_succ]
            refine wpAnyH_ready (rs := [1, 2]) (by kernel_rfl) (by simp) ?_
            refine AllReadyH.cons rfl (fun K hK => ?_) (AllReadyH.cons rfl (fun K hK => ?_) AllReadyH.nil)
            · clear hHeld
              go_simp
              go_at_call 27
              refine (HAD.out _ Rq.out).mono ?_
              rintro e x3 ⟨rfl, h1, o1⟩
              have Rq : Hid (RdAt x3 b cv B X.2) := h1
              have Qq : Hid (Blk q YQ x3) := Qq.out.offB o1 nqb
              have Pq : Hid (Blk w.heap.size ZZ x3) := Pq.out.offB o1 npb
              have Fq : Hid (Fls x3 w.heap.size (.slice a4 acc.length c4) acc) := fls_off Fq.out o1 HNB.out
              have Oq : Hid (Off b w x3) := Oq.out.trans o1
              have HN2 : Hid (x3.heap[n2]? = some O2) := by show _ = _; rw [o1.block n2 (Array.getElem?_eq_some_iff.1 HN2.out).1 (by have := Ln2.out; omega)]; exact HN2.out
              have HNf : Hid (x3.heap[fb]? = some OF) := by show _ = _; rw [o1.block fb (Array.getElem?_eq_some_iff.1 HNf.out).1 (by have := Lfb.out; omega)]; exact HNf.out
              refine hK.out _ _ ⟨HC2.out _ _ HN2.out, trivial⟩ (fun hHeld => ?_)
              clear hK K h1 o1
              try simp only [Act.put, List.setIfInBounds_toArray, List.set_cons_zero, List.set_cons_succ]
              refine wpAnyH_ready (rs := [2]) (by kernel_rfl) (by simp) ?_
              refine AllReadyH.cons rfl (fun K hK => ?_) AllReadyH.nil
              clear hHeld
              go_simp
              generalize hW : World.alloc x3 _ = x4
              obtain ⟨n1, hnb⟩ : ∃ nb, nb = x3.heap.size := ⟨_, rfl⟩
              have HN1 : Hid (x4.heap[n1]? = some O1) := by show _ = _; rw [← hW, hnb, HO1.out]; exact heap_newB _ _ _
              have hb : Below x3.heap.size x3 x4 := by rw [← hW]; exact below1 _ _
              have Ln1 : Hid (q < n1) := by show _ < _; rw [hnb]; exact Qq.out.lt
              rw [← hnb]
              have Dfn1 : Hid (n1 ≠ fb) := by have := (Array.getElem?_eq_some_iff.1 HNf.out).1; show _ ≠ _; omega
              have Rq : Hid (RdAt x4 b cv B X.2) := Rq.out.below hb (Nat.le_refl _)
              have Qq : Hid (Blk q YQ x4) := Qq.out.below hb
              have Pq : Hid (Blk w.heap.size ZZ x4) := Pq.out.below hb
              have Fq : Hid (Fls x4 w.heap.size (.slice a4 acc.length c4) acc) := fls_below Fq.out hb (Nat.le_refl _)
              have Oq : Hid (Off b w x4) := Oq.out.trans (Off.of_below hb)
              have HN2 : Hid (x4.heap[n2]? = some O2) := by show _ = _; rw [hb.block n2 (Array.getElem?_eq_some_iff.1 HN2.out).1]; exact HN2.out
              have HNf : Hid (x4.heap[fb]? = some OF) := by show _ = _; rw [hb.block fb (Array.getElem?_eq_some_iff.1 HNf.out).1]; exact HNf.out
              clear hW hnb
              refine hK.out _ _ ⟨HC2.out _ _ HN2.out, trivial⟩ (fun hHeld => ?_)
              clear hK K hb
              try simp only [Act.put, List.setIfInBounds_toArray, List.set_cons_zero, List.set_cons_succ]
              clear hHeld
              refine wpAnyH_more (T := fun wq => wq.cell? ⟨n1, m3, none⟩ = some (.string y) ∧ wq.cell? ⟨n2, m4, none⟩ = some (.int .i64 z) ∧ True) (fun _ h => h.2) _ _ _ _ ?_
              have hHeld : (fun wq => wq.cell? ⟨n1, m3, none⟩ = some (.string y) ∧ wq.cell? ⟨n2, m4, none⟩ = some (.int .i64 z) ∧ True) x4 := ⟨HC1.out _ _ HN1.out, HC2.out _ _ HN2.out, trivial⟩
              refine wpAnyH_take (i := 5) (oi := { dst := some 30, op := Op.indexAddr 39 (Operand.tmp 27) (Operand.tmp 29), type := 0, pos := "l5_bounce.go:162", after := #[{ on := 2, ground := Ground.data }, { on := 4, ground := Ground.data }], guard := none }) (v := .pointer (some ⟨n1, m3, none⟩)) rfl (by kernel_rfl) (by kernel_rfl) (by kernel_rfl) (fun _ _ _ h => h) (Or.inl ⟨by rfl, fun wz hSw => ?_⟩) hHeld ?_
              · obtain ⟨e0, e1, _⟩ := hSw
                clear hHeld
                go_simp
              simp only [Act.put, List.setIfInBounds_toArray, List.set_cons_zero, List.set_cons_succ]
              refine wpAnyH_take (i := 6) (oi := { dst := some 31, op := Op.load 9 (Operand.tmp 30), type := 9, pos := "l5_bounce.go:162", after := #[{ on := 5, ground := Ground.data }], guard := none }) (v := .string y) rfl (by kernel_rfl) (by kernel_rfl) (by kernel_rfl) (fun _ _ _ h => h) (Or.inl ⟨by rfl, fun wz hSw => ?_⟩) hHeld ?_
              · obtain ⟨e0, e1, _⟩ := hSw
                clear hHeld
                go_simp
              simp only [Act.put, List.setIfInBounds_toArray, List.set_cons_zero, List.set_cons_succ]
              refine wpAnyH_take (i := 13) (oi := { dst := some 38, op := Op.build 31 #[(0, Operand.tmp 26), (1, Operand.tmp 31), (2, Operand.tmp 37)], type := 31, pos := "l5_bounce.go:162", after := #[{ on := 1, ground := Ground.data }, { on := 6, ground := Ground.data }, { on := 12, ground := Ground.data }], guard := none }) (v := .agg #[.string X.1, .string y, .int .i64 z, .string ⟨#[]⟩]) rfl (by kernel_rfl) (by kernel_rfl) (by kernel_rfl) (fun _ _ _ h => h) (Or.inl ⟨by rfl, fun wz hSw => ?_⟩) hHeld ?_
              · obtain ⟨e0, e1, _⟩ := hSw
                clear hHeld
                go_simp
              simp only [Act.put, List.setIfInBounds_toArray, List.set_cons_zero, List.set_cons_succ]
              refine wpAnyH_ready (rs := [15]) (by kernel_rfl) (by simp) ?_
              refine AllReadyH.cons rfl (fun K hK => ?_) AllReadyH.nil
              have HNg := HNf.out
              rw [HOF.out] at HNg
              have z0 : x4.cell? ⟨fb, 0, none⟩ = some (.string ⟨#[]⟩) := by rw [Lib.cell_of_heap HNg]; rfl
              have z1 : x4.cell? ⟨fb, 1, none⟩ = some (.string ⟨#[]⟩) := by rw [Lib.cell_of_heap HNg]; rfl
              have z2 : x4.cell? ⟨fb, 2, none⟩ = some (.int .i64 0) := by rw [Lib.cell_of_heap HNg]; rfl
              have z3 : x4.cell? ⟨fb, 3, none⟩ = some (.string ⟨#[]⟩) := by rw [Lib.cell_of_heap HNg]; rfl
              have g0 : x4.frozen? ⟨fb, 0, none⟩ = false := Lib.frozen_of_heap HNg 0
              have g1 : x4.frozen? ⟨fb, 1, none⟩ = false := Lib.frozen_of_heap HNg 1
              have g2 : x4.frozen? ⟨fb, 2, none⟩ = false := Lib.frozen_of_heap HNg 2
              have g3 : x4.frozen? ⟨fb, 3, none⟩ = false := Lib.frozen_of_heap HNg 3
              clear hHeld
              go_simp
              generalize hV : ((((x4.setCell ⟨fb, 0, none⟩ (.string X.1)).setCell ⟨fb, 1, none⟩ (.string y)).setCell ⟨fb, 2, none⟩ (.int .i64 z)).setCell ⟨fb, 3, none⟩ (.string ⟨#[]⟩)) = x5
              obtain ⟨FBk, o5, b5⟩ : Hid (Blk fb #[.string X.1, .string y, .int .i64 z, .string ⟨#[]⟩] x5) ∧ Off fb x4 x5 ∧ Below w.heap.size x4 x5 := by rw [← hV]; exact set4 HNg (by have := Lfb.out; omega)
              clear hV z0 z1 z2 z3 g0 g1 g2 g3 HNg
              have Rq : Hid (RdAt x5 b cv B X.2) := H.out.carry Rq.out b5
              have Qq : Hid (Blk q YQ x5) := Qq.out.offB o5 (by have := Lfb.out; omega)
              have Pq : Hid (Blk w.heap.size ZZ x5) := Pq.out.offB o5 (by have := Lfb.out; omega)
              have Fq : Hid (Fls x5 w.heap.size (.slice a4 acc.length c4) acc) := fls_off Fq.out o5 GFB.out
              have Oq : Hid (Off b w x5) := off_belowN Oq.out b5
              have HN1 : Hid (x5.heap[n1]? = some O1) := by show _ = _; rw [o5.block n1 (Array.getElem?_eq_some_iff.1 HN1.out).1 Dfn1.out]; exact HN1.out
              have HN2 : Hid (x5.heap[n2]? = some O2) := by show _ = _; rw [o5.block n2 (Array.getElem?_eq_some_iff.1 HN2.out).1 Dfn2.out]; exact HN2.out
              refine hK.out _ _ ⟨HC1.out _ _ HN1.out, HC2.out _ _ HN2.out, trivial⟩ (fun hHeld => ?_)
              clear hK K hHeld o5 b5
              try simp only [Act.put, List.setIfInBounds_toArray, List.set_cons_zero, List.set_cons_succ]
              refine wpAnyH_done (by kernel_rfl) ?_ _
              go_wp2_with fail
              go_meet
              exact ⟨fb, rfl, Lfb.out, FBk, Rq, HYQ.out ▸ Qq, HZZ.out ▸ Pq, Fq, Oq, GFB⟩
            · clear hHeld
              go_simp
              generalize hW : World.alloc x2 _ = x3
              obtain ⟨n1, hnb⟩ : ∃ nb, nb = x2.heap.size := ⟨_, rfl⟩
              have HN1 : Hid (x3.heap[n1]? = some O1) := by show _ = _; rw [← hW, hnb, HO1.out]; exact heap_newB _ _ _
              have hb : Below x2.heap.size x2 x3 := by rw [← hW]; exact below1 _ _
              have Ln1 : Hid (q < n1) := by show _ < _; rw [hnb]; exact Qq.out.lt
              rw [← hnb]
              have Dfn1 : Hid (n1 ≠ fb) := by have := (Array.getElem?_eq_some_iff.1 HNf.out).1; show _ ≠ _; omega
              have Rq : Hid (RdAt x3 b cv B p1) := Rq.out.below hb (Nat.le_refl _)
              have Qq : Hid (Blk q YQ x3) := Qq.out.below hb
              have Pq : Hid (Blk w.heap.size ZZ x3) := Pq.out.below hb
              have Fq : Hid (Fls x3 w.heap.size (.slice a4 acc.length c4) acc) := fls_below Fq.out hb (Nat.le_refl _)
              have Oq : Hid (Off b w x3) := Oq.out.trans (Off.of_below hb)
              have HN2 : Hid (x3.heap[n2]? = some O2) := by show _ = _; rw [hb.block n2 (Array.getElem?_eq_some_iff.1 HN2.out).1]; exact HN2.out
              have HNf : Hid (x3.heap[fb]? = some OF) := by show _ = _; rw [hb.block fb (Array.getElem?_eq_some_iff.1 HNf.out).1]; exact HNf.out
              clear hW hnb
              refine hK.out _ _ ⟨HC2.out _ _ HN2.out, trivial⟩ (fun hHeld => ?_)
              clear hK K hb
              try simp only [Act.put, List.setIfInBounds_toArray, List.set_cons_zero, List.set_cons_succ]
              clear hHeld
              refine wpAnyH_more (T := fun wq => wq.cell? ⟨n1, m3, none⟩ = some (.string y) ∧ wq.cell? ⟨n2, m4, none⟩ = some (.int .i64 z) ∧ True) (fun _ h => h.2) _ _ _ _ ?_
              have hHeld : (fun wq => wq.cell? ⟨n1, m3, none⟩ = some (.string y) ∧ wq.cell? ⟨n2, m4, none⟩ = some (.int .i64 z) ∧ True) x3 := ⟨HC1.out _ _ HN1.out, HC2.out _ _ HN2.out, trivial⟩
              refine wpAnyH_take (i := 5) (oi := { dst := some 30, op := Op.indexAddr 39 (Operand.tmp 27) (Operand.tmp 29), type := 0, pos := "l5_bounce.go:162", after := #[{ on := 2, ground := Ground.data }, { on := 4, ground := Ground.data }], guard := none }) (v := .pointer (some ⟨n1, m3, none⟩)) rfl (by kernel_rfl) (by kernel_rfl) (by kernel_rfl) (fun _ _ _ h => h) (Or.inl ⟨by rfl, fun wz hSw => ?_⟩) hHeld ?_
              · obtain ⟨e0, e1, _⟩ := hSw
                clear hHeld
                go_simp
              simp only [Act.put, List.setIfInBounds_toArray, List.set_cons_zero, List.set_cons_succ]
              refine wpAnyH_take (i := 6) (oi := { dst := some 31, op := Op.load 9 (Operand.tmp 30), type := 9, pos := "l5_bounce.go:162", after := #[{ on := 5, ground := Ground.data }], guard := none }) (v := .string y) rfl (by kernel_rfl) (by kernel_rfl) (by kernel_rfl) (fun _ _ _ h => h) (Or.inl ⟨by rfl, fun wz hSw => ?_⟩) hHeld ?_
              · obtain ⟨e0, e1, _⟩ := hSw
                clear hHeld
                go_simp
              simp only [Act.put, List.setIfInBounds_toArray, List.set_cons_zero, List.set_cons_succ]
              refine wpAnyH_ready (rs := [1]) (by kernel_rfl) (by simp) ?_
              refine AllReadyH.cons rfl (fun K hK => ?_) AllReadyH.nil
              clear hHeld
              go_simp
              go_at_call 27
              refine (HAD.out _ Rq.out).mono ?_
              rintro e x4 ⟨rfl, h1, o1⟩
              have Rq : Hid (RdAt x4 b cv B X.2) := h1
              have Qq : Hid (Blk q YQ x4) := Qq.out.offB o1 nqb
              have Pq : Hid (Blk w.heap.size ZZ x4) := Pq.out.offB o1 npb
              have Fq : Hid (Fls x4 w.heap.size (.slice a4 acc.length c4) acc) := fls_off Fq.out o1 HNB.out
              have Oq : Hid (Off b w x4) := Oq.out.trans o1
              have HN2 : Hid (x4.heap[n2]? = some O2) := by show _ = _; rw [o1.block n2 (Array.getElem?_eq_some_iff.1 HN2.out).1 (by have := Ln2.out; omega)]; exact HN2.out
              have HNf : Hid (x4.heap[fb]? = some OF) := by show _ = _; rw [o1.block fb (Array.getElem?_eq_some_iff.1 HNf.out).1 (by have := Lfb.out; omega)]; exact HNf.out
              have HN1 : Hid (x4.heap[n1]? = some O1) := by show _ = _; rw [o1.block n1 (Array.getElem?_eq_some_iff.1 HN1.out).1 (by have := Ln1.out; omega)]; exact HN1.out
              refine hK.out _ _ ⟨HC1.out _ _ HN1.out, HC2.out _ _ HN2.out, trivial⟩ (fun hHeld => ?_)
              clear hK K h1 o1
              try simp only [Act.put, List.setIfInBounds_toArray, List.set_cons_zero, List.set_cons_succ]
              refine wpAnyH_take (i := 13) (oi := { dst := some 38, op := Op.build 31 #[(0, Operand.tmp 26), (1, Operand.tmp 31), (2, Operand.tmp 37)], type := 31, pos := "l5_bounce.go:162", after := #[{ on := 1, ground := Ground.data }, { on := 6, ground := Ground.data }, { on := 12, ground := Ground.data }], guard := none }) (v := .agg #[.string X.1, .string y, .int .i64 z, .string ⟨#[]⟩]) rfl (by kernel_rfl) (by kernel_rfl) (by kernel_rfl) (fun _ _ _ h => h) (Or.inl ⟨by rfl, fun wz hSw => ?_⟩) hHeld ?_
              · obtain ⟨e0, e1, _⟩ := hSw
                clear hHeld
                go_simp
              simp only [Act.put, List.setIfInBounds_toArray, List.set_cons_zero, List.set_cons_succ]
              refine wpAnyH_ready (rs := [15]) (by kernel_rfl) (by simp) ?_
              refine AllReadyH.cons rfl (fun K hK => ?_) AllReadyH.nil
              have HNg := HNf.out
              rw [HOF.out] at HNg
              have z0 : x4.cell? ⟨fb, 0, none⟩ = some (.string ⟨#[]⟩) := by rw [Lib.cell_of_heap HNg]; rfl
              have z1 : x4.cell? ⟨fb, 1, none⟩ = some (.string ⟨#[]⟩) := by rw [Lib.cell_of_heap HNg]; rfl
              have z2 : x4.cell? ⟨fb, 2, none⟩ = some (.int .i64 0) := by rw [Lib.cell_of_heap HNg]; rfl
              have z3 : x4.cell? ⟨fb, 3, none⟩ = some (.string ⟨#[]⟩) := by rw [Lib.cell_of_heap HNg]; rfl
              have g0 : x4.frozen? ⟨fb, 0, none⟩ = false := Lib.frozen_of_heap HNg 0
              have g1 : x4.frozen? ⟨fb, 1, none⟩ = false := Lib.frozen_of_heap HNg 1
              have g2 : x4.frozen? ⟨fb, 2, none⟩ = false := Lib.frozen_of_heap HNg 2
              have g3 : x4.frozen? ⟨fb, 3, none⟩ = false := Lib.frozen_of_heap HNg 3
              clear hHeld
              go_simp
              generalize hV : ((((x4.setCell ⟨fb, 0, none⟩ (.string X.1)).setCell ⟨fb, 1, none⟩ (.string y)).setCell ⟨fb, 2, none⟩ (.int .i64 z)).setCell ⟨fb, 3, none⟩ (.string ⟨#[]⟩)) = x5
              obtain ⟨FBk, o5, b5⟩ : Hid (Blk fb #[.string X.1, .string y, .int .i64 z, .string ⟨#[]⟩] x5) ∧ Off fb x4 x5 ∧ Below w.heap.size x4 x5 := by rw [← hV]; exact set4 HNg (by have := Lfb.out; omega)
              clear hV z0 z1 z2 z3 g0 g1 g2 g3 HNg
              have Rq : Hid (RdAt x5 b cv B X.2) := H.out.carry Rq.out b5
              have Qq : Hid (Blk q YQ x5) := Qq.out.offB o5 (by have := Lfb.out; omega)
              have Pq : Hid (Blk w.heap.size ZZ x5) := Pq.out.offB o5 (by have := Lfb.out; omega)
              have Fq : Hid (Fls x5 w.heap.size (.slice a4 acc.length c4) acc) := fls_off Fq.out o5 GFB.out
              have Oq : Hid (Off b w x5) := off_belowN Oq.out b5
              have HN1 : Hid (x5.heap[n1]? = some O1) := by show _ = _; rw [o5.block n1 (Array.getElem?_eq_some_iff.1 HN1.out).1 Dfn1.out]; exact HN1.out
              have HN2 : Hid (x5.heap[n2]? = some O2) := by show _ = _; rw [o5.block n2 (Array.getElem?_eq_some_iff.1 HN2.out).1 Dfn2.out]; exact HN2.out
              refine hK.out _ _ ⟨HC1.out _ _ HN1.out, HC2.out _ _ HN2.out, trivial⟩ (fun hHeld => ?_)
              clear hK K hHeld o5 b5
              try simp only [Act.put, List.setIfInBounds_toArray, List.set_cons_zero, List.set_cons_succ]
              refine wpAnyH_done (by kernel_rfl) ?_ _
              go_wp2_with fail
              go_meet
              exact ⟨fb, rfl, Lfb.out, FBk, Rq, HYQ.out ▸ Qq, HZZ.out ▸ Pq, Fq, Oq, GFB⟩
        · clear hHeld
          go_simp
          generalize hW : World.alloc x0 _ = x1
          obtain ⟨fb, hnb⟩ : ∃ nb, nb = x0.heap.size := ⟨_, rfl⟩
          have HNf : Hid (x1.heap[fb]? = some OF) := by show _ = _; rw [← hW, hnb, HOF.out]; exact heap_newB _ _ _
          have hb : Below x0.heap.size x0 x1 := by rw [← hW]; exact below1 _ _
          have Lfb : Hid (q < fb) := by show _ < _; rw [hnb]; exact Qq.out.lt
          rw [← hnb]
          have GFB : Hid (∀ g, (Value.slice a4 acc.length c4).ownBlock = some g → g ≠ fb) := fun g hg => by have := (fls_own Fq.out g hg).2; omega
          have Rq : Hid (RdAt x1 b cv B p1) := Rq.out.below hb (Nat.le_refl _)
          have Qq : Hid (Blk q YQ x1) := Qq.out.below hb
          have Pq : Hid (Blk w.heap.size ZZ x1) := Pq.out.below hb
          have Fq : Hid (Fls x1 w.heap.size (.slice a4 acc.length c4) acc) := fls_below Fq.out hb (Nat.le_refl _)
          have Oq : Hid (Off b w x1) := Oq.out.trans (Off.of_below hb)
          clear hW hnb
          refine hK.out _ _ trivial (fun hHeld => ?_)
          clear hK K hb
          try simp only [Act.put, List.setIfInBounds_toArray, List.set_cons_zero, List.set_cons_succ]
          refine wpAnyH_ready (rs := [1, 2, 7]) (by kernel_rfl) (by simp) ?_
          refine AllReadyH.cons rfl (fun K hK => ?_) (AllReadyH.cons rfl (fun K hK => ?_) (AllReadyH.cons rfl (fun K hK => ?_) AllReadyH.nil))
          · clear hHeld
            go_simp
            go_at_call 27
            refine (HAD.out _ Rq.out).mono ?_
            rintro e x2 ⟨rfl, h1, o1⟩
            have Rq : Hid (RdAt x2 b cv B X.2) := h1
            have Qq : Hid (Blk q YQ x2) := Qq.out.offB o1 nqb
            have Pq : Hid (Blk w.heap.size ZZ x2) := Pq.out.offB o1 npb
            have Fq : Hid (Fls x2 w.heap.size (.slice a4 acc.length c4) acc) := fls_off Fq.out o1 HNB.out
            have Oq : Hid (Off b w x2) := Oq.out.trans o1
            have HNf : Hid (x2.heap[fb]? = some OF) := by show _ = _; rw [o1.block fb (Array.getElem?_eq_some_iff.1 HNf.out).1 (by have := Lfb.out; omega)]; exact HNf.out
            refine hK.out _ _ trivial (fun hHeld => ?_)
            clear hK K h1 o1
            try simp only [Act.put, List.setIfInBounds_toArray, List.set_cons_zero, List.set_cons_succ]
            refine wpAnyH_ready (rs := [2, 7]) (by kernel_rfl) (by simp) ?_
            refine AllReadyH.cons rfl (fun K hK => ?_) (AllReadyH.cons rfl (fun K hK => ?_) AllReadyH.nil)
            · clear hHeld
              go_simp
              generalize hW : World.alloc x2 _ = x3
              obtain ⟨n1, hnb⟩ : ∃ nb, nb = x2.heap.size := ⟨_, rfl⟩
              have HN1 : Hid (x3.heap[n1]? = some O1) := by show _ = _; rw [← hW, hnb, HO1.out]; exact heap_newB _ _ _
              have hb : Below x2.heap.size x2 x3 := by rw [← hW]; exact below1 _ _
              have Ln1 : Hid (q < n1) := by show _ < _; rw [hnb]; exact Qq.out.lt
              rw [← hnb]
              have Dfn1 : Hid (n1 ≠ fb) := by have := (Array.getElem?_eq_some_iff.1 HNf.out).1; show _ ≠ _; omega
              have Rq : Hid (RdAt x3 b cv B X.2) := Rq.out.below hb (Nat.le_refl _)
              have Qq : Hid (Blk q YQ x3) := Qq.out.below hb
              have Pq : Hid (Blk w.heap.size ZZ x3) := Pq.out.below hb
              have Fq : Hid (Fls x3 w.heap.size (.slice a4 acc.length c4) acc) := fls_below Fq.out hb (Nat.le_refl _)
              have Oq : Hid (Off b w x3) := Oq.out.trans (Off.of_below hb)
              have HNf : Hid (x3.heap[fb]? = some OF) := by show _ = _; rw [hb.block fb (Array.getElem?_eq_some_iff.1 HNf.out).1]; exact HNf.out
              clear hW hnb
              refine hK.out _ _ trivial (fun hHeld => ?_)
              clear hK K hb
              try simp only [Act.put, List.setIfInBounds_toArray, List.set_cons_zero, List.set_cons_succ]
              clear hHeld
              refine wpAnyH_more (T := fun wq => wq.cell? ⟨n1, m3, none⟩ = some (.string y) ∧ True) (fun _ h => trivial) _ _ _ _ ?_
              have hHeld : (fun wq => wq.cell? ⟨n1, m3, none⟩ = some (.string y) ∧ True) x3 := ⟨HC1.out _ _ HN1.out, trivial⟩
              refine wpAnyH_take (i := 5) (oi := { dst := some 30, op := Op.indexAddr 39 (Operand.tmp 27) (Operand.tmp 29), type := 0, pos := "l5_bounce.go:162", after := #[{ on := 2, ground := Ground.data }, { on := 4, ground := Ground.data }], guard := none }) (v := .pointer (some ⟨n1, m3, none⟩)) rfl (by kernel_rfl) (by kernel_rfl) (by kernel_rfl) (fun _ _ _ h => h) (Or.inl ⟨by rfl, fun wz hSw => ?_⟩) hHeld ?_
              · obtain ⟨e0, _⟩ := hSw
                clear hHeld
                go_simp
              simp only [Act.put, List.setIfInBounds_toArray, List.set_cons_zero, List.set_cons_succ]
              refine wpAnyH_take (i := 6) (oi := { dst := some 31, op := Op.load 9 (Operand.tmp 30), type := 9, pos := "l5_bounce.go:162", after := #[{ on := 5, ground := Ground.data }], guard := none }) (v := .string y) rfl (by kernel_rfl) (by kernel_rfl) (by kernel_rfl) (fun _ _ _ h => h) (Or.inl ⟨by rfl, fun wz hSw => ?_⟩) hHeld ?_
              · obtain ⟨e0, _⟩ := hSw
                clear hHeld
                go_simp
              simp only [Act.put, List.setIfInBounds_toArray, List.set_cons_zero, List.set_cons_succ]
              refine wpAnyH_ready (rs := [7]) (by kernel_rfl) (by simp) ?_
              refine AllReadyH.cons rfl (fun K hK => ?_) AllReadyH.nil
              clear hHeld
              go_simp
              generalize hW : World.alloc x3 _ = x4
              obtain ⟨n2, hnb⟩ : ∃ nb, nb = x3.heap.size := ⟨_, rfl⟩
              have HN2 : Hid (x4.heap[n2]? = some O2) := by show _ = _; rw [← hW, hnb, HO2.out]; exact heap_newB _ _ _
              have hb : Below x3.heap.size x3 x4 := by rw [← hW]; exact below1 _ _
              have Ln2 : Hid (q < n2) := by show _ < _; rw [hnb]; exact Qq.out.lt
              rw [← hnb]
              have Dfn2 : Hid (n2 ≠ fb) := by have := (Array.getElem?_eq_some_iff.1 HNf.out).1; show _ ≠ _; omega
              have Rq : Hid (RdAt x4 b cv B X.2) := Rq.out.below hb (Nat.le_refl _)
              have Qq : Hid (Blk q YQ x4) := Qq.out.below hb
              have Pq : Hid (Blk w.heap.size ZZ x4) := Pq.out.below hb
              have Fq : Hid (Fls x4 w.heap.size (.slice a4 acc.length c4) acc) := fls_below Fq.out hb (Nat.le_refl _)
              have Oq : Hid (Off b w x4) := Oq.out.trans (Off.of_below hb)
              have HNf : Hid (x4.heap[fb]? = some OF) := by show _ = _; rw [hb.block fb (Array.getElem?_eq_some_iff.1 HNf.out).1]; exact HNf.out
              have HN1 : Hid (x4.heap[n1]? = some O1) := by show _ = _; rw [hb.block n1 (Array.getElem?_eq_some_iff.1 HN1.out).1]; exact HN1.out
              clear hW hnb
              refine hK.out _ _ ⟨HC1.out _ _ HN1.out, trivial⟩ (fun hHeld => ?_)
              clear hK K hb
              try simp only [Act.put, List.setIfInBounds_toArray, List.set_cons_zero, List.set_cons_succ]
              clear hHeld
              refine wpAnyH_more (T := fun wq => wq.cell? ⟨n2, m4, none⟩ = some (.int .i64 z) ∧ wq.cell? ⟨n1, m3, none⟩ = some (.string y) ∧ True) (fun _ h => h.2) _ _ _ _ ?_
              have hHeld : (fun wq => wq.cell? ⟨n2, m4, none⟩ = some (.int .i64 z) ∧ wq.cell? ⟨n1, m3, none⟩ = some (.string y) ∧ True) x4 := ⟨HC2.out _ _ HN2.out, HC1.out _ _ HN1.out, trivial⟩
              refine wpAnyH_take (i := 11) (oi := { dst := some 36, op := Op.indexAddr 59 (Operand.tmp 32) (Operand.tmp 35), type := 0, pos := "l5_bounce.go:162", after := #[{ on := 7, ground := Ground.data }, { on := 10, ground := Ground.data }], guard := none }) (v := .pointer (some ⟨n2, m4, none⟩)) rfl (by kernel_rfl) (by kernel_rfl) (by kernel_rfl) (fun _ _ _ h => h) (Or.inl ⟨by rfl, fun wz hSw => ?_⟩) hHeld ?_
              · obtain ⟨e0, e1, _⟩ := hSw
                clear hHeld
                go_simp
              simp only [Act.put, List.setIfInBounds_toArray, List.set_cons_zero, List.set_cons_succ]
              refine wpAnyH_take (i := 12) (oi := { dst := some 37, op := Op.load 3 (Operand.tmp 36), type := 3, pos := "l5_bounce.go:162", after := #[{ on := 11, ground := Ground.data }], guard := none }) (v := .int .i64 z) rfl (by kernel_rfl) (by kernel_rfl) (by kernel_rfl) (fun _ _ _ h => h) (Or.inl ⟨by rfl, fun wz hSw => ?_⟩) hHeld ?_
              · obtain ⟨e0, e1, _⟩ := hSw
                clear hHeld
                go_simp
              simp only [Act.put, List.setIfInBounds_toArray, List.set_cons_zero, List.set_cons_succ]
              refine wpAnyH_take (i := 13) (oi := { dst := some 38, op := Op.build 31 #[(0, Operand.tmp 26), (1, Operand.tmp 31), (2, Operand.tmp 37)], type := 31, pos := "l5_bounce.go:162", after := #[{ on := 1, ground := Ground.data }, { on := 6, ground := Ground.data }, { on := 12, ground := Ground.data }], guard := none }) (v := .agg #[.string X.1, .string y, .int .i64 z, .string ⟨#[]⟩]) rfl (by kernel_rfl) (by kernel_rfl) (by kernel_rfl) (fun _ _ _ h => h) (Or.inl ⟨by rfl, fun wz hSw => ?_⟩) hHeld ?_
              · obtain ⟨e0, e1, _⟩ := hSw
                clear hHeld
                go_simp
              simp only [Act.put, List.setIfInBounds_toArray, List.set_cons_zero, List.set_cons_succ]
              refine wpAnyH_ready (rs := [15]) (by kernel_rfl) (by simp) ?_
              refine AllReadyH.cons rfl (fun K hK => ?_) AllReadyH.nil
              have HNg := HNf.out
              rw [HOF.out] at HNg
              have z0 : x4.cell? ⟨fb, 0, none⟩ = some (.string ⟨#[]⟩) := by rw [Lib.cell_of_heap HNg]; rfl
              have z1 : x4.cell? ⟨fb, 1, none⟩ = some (.string ⟨#[]⟩) := by rw [Lib.cell_of_heap HNg]; rfl
              have z2 : x4.cell? ⟨fb, 2, none⟩ = some (.int .i64 0) := by rw [Lib.cell_of_heap HNg]; rfl
              have z3 : x4.cell? ⟨fb, 3, none⟩ = some (.string ⟨#[]⟩) := by rw [Lib.cell_of_heap HNg]; rfl
              have g0 : x4.frozen? ⟨fb, 0, none⟩ = false := Lib.frozen_of_heap HNg 0
              have g1 : x4.frozen? ⟨fb, 1, none⟩ = false := Lib.frozen_of_heap HNg 1
              have g2 : x4.frozen? ⟨fb, 2, none⟩ = false := Lib.frozen_of_heap HNg 2
              have g3 : x4.frozen? ⟨fb, 3, none⟩ = false := Lib.frozen_of_heap HNg 3
              clear hHeld
              go_simp
              generalize hV : ((((x4.setCell ⟨fb, 0, none⟩ (.string X.1)).setCell ⟨fb, 1, none⟩ (.string y)).setCell ⟨fb, 2, none⟩ (.int .i64 z)).setCell ⟨fb, 3, none⟩ (.string ⟨#[]⟩)) = x5
              obtain ⟨FBk, o5, b5⟩ : Hid (Blk fb #[.string X.1, .string y, .int .i64 z, .string ⟨#[]⟩] x5) ∧ Off fb x4 x5 ∧ Below w.heap.size x4 x5 := by rw [← hV]; exact set4 HNg (by have := Lfb.out; omega)
              clear hV z0 z1 z2 z3 g0 g1 g2 g3 HNg
              have Rq : Hid (RdAt x5 b cv B X.2) := H.out.carry Rq.out b5
              have Qq : Hid (Blk q YQ x5) := Qq.out.offB o5 (by have := Lfb.out; omega)
              have Pq : Hid (Blk w.heap.size ZZ x5) := Pq.out.offB o5 (by have := Lfb.out; omega)
              have Fq : Hid (Fls x5 w.heap.size (.slice a4 acc.length c4) acc) := fls_off Fq.out o5 GFB.out
              have Oq : Hid (Off b w x5) := off_belowN Oq.out b5
              have HN2 : Hid (x5.heap[n2]? = some O2) := by show _ = _; rw [o5.block n2 (Array.getElem?_eq_some_iff.1 HN2.out).1 Dfn2.out]; exact HN2.out
              have HN1 : Hid (x5.heap[n1]? = some O1) := by show _ = _; rw [o5.block n1 (Array.getElem?_eq_some_iff.1 HN1.out).1 Dfn1.out]; exact HN1.out
              refine hK.out _ _ ⟨HC2.out _ _ HN2.out, HC1.out _ _ HN1.out, trivial⟩ (fun hHeld => ?_)
              clear hK K hHeld o5 b5
              try simp only [Act.put, List.setIfInBounds_toArray, List.set_cons_zero, List.set_cons_succ]
              refine wpAnyH_done (by kernel_rfl) ?_ _
              go_wp2_with fail
              go_meet
              exact ⟨fb, rfl, Lfb.out, FBk, Rq, HYQ.out ▸ Qq, HZZ.out ▸ Pq, Fq, Oq, GFB⟩
            · clear hHeld
              go_simp
              generalize hW : World.alloc x2 _ = x3
              obtain ⟨n2, hnb⟩ : ∃ nb, nb = x2.heap.size := ⟨_, rfl⟩
              have HN2 : Hid (x3.heap[n2]? = some O2) := by show _ = _; rw [← hW, hnb, HO2.out]; exact heap_newB _ _ _
              have hb : Below x2.heap.size x2 x3 := by rw [← hW]; exact below1 _ _
              have Ln2 : Hid (q < n2) := by show _ < _; rw [hnb]; exact Qq.out.lt
              rw [← hnb]
              have Dfn2 : Hid (n2 ≠ fb) := by have := (Array.getElem?_eq_some_iff.1 HNf.out).1; show _ ≠ _; omega
              have Rq : Hid (RdAt x3 b cv B X.2) := Rq.out.below hb (Nat.le_refl _)
              have Qq : Hid (Blk q YQ x3) := Qq.out.below hb
              have Pq : Hid (Blk w.heap.size ZZ x3) := Pq.out.below hb
              have Fq : Hid (Fls x3 w.heap.size (.slice a4 acc.length c4) acc) := fls_below Fq.out hb (Nat.le_refl _)
              have Oq : Hid (Off b w x3) := Oq.out.trans (Off.of_below hb)
              have HNf : Hid (x3.heap[fb]? = some OF) := by show _ = _; rw [hb.block fb (Array.getElem?_eq_some_iff.1 HNf.out).1]; exact HNf.out
              clear hW hnb
              refine hK.out _ _ trivial (fun hHeld => ?_)
              clear hK K hb
              try simp only [Act.put, List.setIfInBounds_toArray, List.set_cons_zero, List.set_cons_succ]
              clear hHeld
              refine wpAnyH_more (T := fun wq => wq.cell? ⟨n2, m4, none⟩ = some (.int .i64 z) ∧ True) (fun _ h => trivial) _ _ _ _ ?_
              have hHeld : (fun wq => wq.cell? ⟨n2, m4, none⟩ = some (.int .i64 z) ∧ True) x3 := ⟨HC2.out _ _ HN2.out, trivial⟩
              refine wpAnyH_take (i := 11) (oi := { dst := some 36, op := Op.indexAddr 59 (Operand.tmp 32) (Operand.tmp 35), type := 0, pos := "l5_bounce.go:162", after := #[{ on := 7, ground := Ground.data }, { on := 10, ground := Ground.data }], guard := none }) (v := .pointer (some ⟨n2, m4, none⟩)) rfl (by kernel_rfl) (by kernel_rfl) (by kernel_rfl) (fun _ _ _ h => h) (Or.inl ⟨by rfl, fun wz hSw => ?_⟩) hHeld ?_
              · obtain ⟨e0, _⟩ := hSw
                clear hHeld
                go_simp
              simp only [Act.put, List.setIfInBounds_toArray, List.set_cons_zero, List.set_cons_succ]
              refine wpAnyH_take (i := 12) (oi := { dst := some 37, op := Op.load 3 (Operand.tmp 36), type := 3, pos := "l5_bounce.go:162", after := #[{ on := 11, ground := Ground.data }], guard := none }) (v := .int .i64 z) rfl (by kernel_rfl) (by kernel_rfl) (by kernel_rfl) (fun _ _ _ h => h) (Or.inl ⟨by rfl, fun wz hSw => ?_⟩) hHeld ?_
              · obtain ⟨e0, _⟩ := hSw
                clear hHeld
                go_simp
              simp only [Act.put, List.setIfInBounds_toArray, List.set_cons_zero, List.set_cons_succ]
              refine wpAnyH_ready (rs := [2]) (by kernel_rfl) (by simp) ?_
              refine AllReadyH.cons rfl (fun K hK => ?_) AllReadyH.nil
              clear hHeld
              go_simp
              generalize hW : World.alloc x3 _ = x4
              obtain ⟨n1, hnb⟩ : ∃ nb, nb = x3.heap.size := ⟨_, rfl⟩
              have HN1 : Hid (x4.heap[n1]? = some O1) := by show _ = _; rw [← hW, hnb, HO1.out]; exact heap_newB _ _ _
              have hb : Below x3.heap.size x3 x4 := by rw [← hW]; exact below1 _ _
              have Ln1 : Hid (q < n1) := by show _ < _; rw [hnb]; exact Qq.out.lt
              rw [← hnb]
              have Dfn1 : Hid (n1 ≠ fb) := by have := (Array.getElem?_eq_some_iff.1 HNf.out).1; show _ ≠ _; omega
              have Rq : Hid (RdAt x4 b cv B X.2) := Rq.out.below hb (Nat.le_refl _)
              have Qq : Hid (Blk q YQ x4) := Qq.out.below hb
              have Pq : Hid (Blk w.heap.size ZZ x4) := Pq.out.below hb
              have Fq : Hid (Fls x4 w.heap.size (.slice a4 acc.length c4) acc) := fls_below Fq.out hb (Nat.le_refl _)
              have Oq : Hid (Off b w x4) := Oq.out.trans (Off.of_below hb)
              have HNf : Hid (x4.heap[fb]? = some OF) := by show _ = _; rw [hb.block fb (Array.getElem?_eq_some_iff.1 HNf.out).1]; exact HNf.out
              have HN2 : Hid (x4.heap[n2]? = some O2) := by show _ = _; rw [hb.block n2 (Array.getElem?_eq_some_iff.1 HN2.out).1]; exact HN2.out
              clear hW hnb
              refine hK.out _ _ ⟨HC2.out _ _ HN2.out, trivial⟩ (fun hHeld => ?_)
              clear hK K hb
              try simp only [Act.put, List.setIfInBounds_toArray, List.set_cons_zero, List.set_cons_succ]
              clear hHeld
              refine wpAnyH_more (T := fun wq => wq.cell? ⟨n1, m3, none⟩ = some (.string y) ∧ wq.cell? ⟨n2, m4, none⟩ = some (.int .i64 z) ∧ True) (fun _ h => h.2) _ _ _ _ ?_
              have hHeld : (fun wq => wq.cell? ⟨n1, m3, none⟩ = some (.string y) ∧ wq.cell? ⟨n2, m4, none⟩ = some (.int .i64 z) ∧ True) x4 := ⟨HC1.out _ _ HN1.out, HC2.out _ _ HN2.out, trivial⟩
              refine wpAnyH_take (i := 5) (oi := { dst := some 30, op := Op.indexAddr 39 (Operand.tmp 27) (Operand.tmp 29), type := 0, pos := "l5_bounce.go:162", after := #[{ on := 2, ground := Ground.data }, { on := 4, ground := Ground.data }], guard := none }) (v := .pointer (some ⟨n1, m3, none⟩)) rfl (by kernel_rfl) (by kernel_rfl) (by kernel_rfl) (fun _ _ _ h => h) (Or.inl ⟨by rfl, fun wz hSw => ?_⟩) hHeld ?_
              · obtain ⟨e0, e1, _⟩ := hSw
                clear hHeld
                go_simp
              simp only [Act.put, List.setIfInBounds_toArray, List.set_cons_zero, List.set_cons_succ]
              refine wpAnyH_take (i := 6) (oi := { dst := some 31, op := Op.load 9 (Operand.tmp 30), type := 9, pos := "l5_bounce.go:162", after := #[{ on := 5, ground := Ground.data }], guard := none }) (v := .string y) rfl (by kernel_rfl) (by kernel_rfl) (by kernel_rfl) (fun _ _ _ h => h) (Or.inl ⟨by rfl, fun wz hSw => ?_⟩) hHeld ?_
              · obtain ⟨e0, e1, _⟩ := hSw
                clear hHeld
                go_simp
              simp only [Act.put, List.setIfInBounds_toArray, List.set_cons_zero, List.set_cons_succ]
              refine wpAnyH_take (i := 13) (oi := { dst := some 38, op := Op.build 31 #[(0, Operand.tmp 26), (1, Operand.tmp 31), (2, Operand.tmp 37)], type := 31, pos := "l5_bounce.go:162", after := #[{ on := 1, ground := Ground.data }, { on := 6, ground := Ground.data }, { on := 12, ground := Ground.data }], guard := none }) (v := .agg #[.string X.1, .string y, .int .i64 z, .string ⟨#[]⟩]) rfl (by kernel_rfl) (by kernel_rfl) (by kernel_rfl) (fun _ _ _ h => h) (Or.inl ⟨by rfl, fun wz hSw => ?_⟩) hHeld ?_
              · obtain ⟨e0, e1, _⟩ := hSw
                clear hHeld
                go_simp
              simp only [Act.put, List.setIfInBounds_toArray, List.set_cons_zero, List.set_cons_succ]
              refine wpAnyH_ready (rs := [15]) (by kernel_rfl) (by simp) ?_
              refine AllReadyH.cons rfl (fun K hK => ?_) AllReadyH.nil
              have HNg := HNf.out
              rw [HOF.out] at HNg
              have z0 : x4.cell? ⟨fb, 0, none⟩ = some (.string ⟨#[]⟩) := by rw [Lib.cell_of_heap HNg]; rfl
              have z1 : x4.cell? ⟨fb, 1, none⟩ = some (.string ⟨#[]⟩) := by rw [Lib.cell_of_heap HNg]; rfl
              have z2 : x4.cell? ⟨fb, 2, none⟩ = some (.int .i64 0) := by rw [Lib.cell_of_heap HNg]; rfl
              have z3 : x4.cell? ⟨fb, 3, none⟩ = some (.string ⟨#[]⟩) := by rw [Lib.cell_of_heap HNg]; rfl
              have g0 : x4.frozen? ⟨fb, 0, none⟩ = false := Lib.frozen_of_heap HNg 0
              have g1 : x4.frozen? ⟨fb, 1, none⟩ = false := Lib.frozen_of_heap HNg 1
              have g2 : x4.frozen? ⟨fb, 2, none⟩ = false := Lib.frozen_of_heap HNg 2
              have g3 : x4.frozen? ⟨fb, 3, none⟩ = false := Lib.frozen_of_heap HNg 3
              clear hHeld
              go_simp
              generalize hV : ((((x4.setCell ⟨fb, 0, none⟩ (.string X.1)).setCell ⟨fb, 1, none⟩ (.string y)).setCell ⟨fb, 2, none⟩ (.int .i64 z)).setCell ⟨fb, 3, none⟩ (.string ⟨#[]⟩)) = x5
              obtain ⟨FBk, o5, b5⟩ : Hid (Blk fb #[.string X.1, .string y, .int .i64 z, .string ⟨#[]⟩] x5) ∧ Off fb x4 x5 ∧ Below w.heap.size x4 x5 := by rw [← hV]; exact set4 HNg (by have := Lfb.out; omega)
              clear hV z0 z1 z2 z3 g0 g1 g2 g3 HNg
              have Rq : Hid (RdAt x5 b cv B X.2) := H.out.carry Rq.out b5
              have Qq : Hid (Blk q YQ x5) := Qq.out.offB o5 (by have := Lfb.out; omega)
              have Pq : Hid (Blk w.heap.size ZZ x5) := Pq.out.offB o5 (by have := Lfb.out; omega)
              have Fq : Hid (Fls x5 w.heap.size (.slice a4 acc.length c4) acc) := fls_off Fq.out o5 GFB.out
              have Oq : Hid (Off b w x5) := off_belowN Oq.out b5
              have HN1 : Hid (x5.heap[n1]? = some O1) := by show _ = _; rw [o5.block n1 (Array.getElem?_eq_some_iff.1 HN1.out).1 Dfn1.out]; exact HN1.out
              have HN2 : Hid (x5.heap[n2]? = some O2) := by show _ = _; rw [o5.block n2 (Array.getElem?_eq_some_iff.1 HN2.out).1 Dfn2.out]; exact HN2.out
              refine hK.out _ _ ⟨HC1.out _ _ HN1.out, HC2.out _ _ HN2.out, trivial⟩ (fun hHeld => ?_)
              clear hK K hHeld o5 b5
              try simp only [Act.put, List.setIfInBounds_toArray, List.set_cons_zero, List.set_cons_succ]
              refine wpAnyH_done (by kernel_rfl) ?_ _
              go_wp2_with fail
              go_meet
              exact ⟨fb, rfl, Lfb.out, FBk, Rq, HYQ.out ▸ Qq, HZZ.out ▸ Pq, Fq, Oq, GFB⟩
          · clear hHeld
            go_simp
            generalize hW : World.alloc x1 _ = x2
            obtain ⟨n1, hnb⟩ : ∃ nb, nb = x1.heap.size := ⟨_, rfl⟩
            have HN1 : Hid (x2.heap[n1]? = some O1) := by show _ = _; rw [← hW, hnb, HO1.out]; exact heap_newB _ _ _
            have hb : Below x1.heap.size x1 x2 := by rw [← hW]; exact below1 _ _
            have Ln1 : Hid (q < n1) := by show _ < _; rw [hnb]; exact Qq.out.lt
            rw [← hnb]
            have Dfn1 : Hid (n1 ≠ fb) := by have := (Array.getElem?_eq_some_iff.1 HNf.out).1; show _ ≠ _; omega
            have Rq : Hid (RdAt x2 b cv B p1) := Rq.out.below hb (Nat.le_refl _)
            have Qq : Hid (Blk q YQ x2) := Qq.out.below hb
            have Pq : Hid (Blk w.heap.size ZZ x2) := Pq.out.below hb
            have Fq : Hid (Fls x2 w.heap.size (.slice a4 acc.length c4) acc) := fls_below Fq.out hb (Nat.le_refl _)
            have Oq : Hid (Off b w x2) := Oq.out.trans (Off.of_below hb)
            have HNf : Hid (x2.heap[fb]? = some OF) := by show _ = _; rw [hb.block fb (Array.getElem?_eq_some_iff.1 HNf.out).1]; exact HNf.out
            clear hW hnb
            refine hK.out _ _ trivial (fun hHeld => ?_)
            clear hK K hb
            try simp only [Act.put, List.setIfInBounds_toArray, List.set_cons_zero, List.set_cons_succ]
            clear hHeld
            refine wpAnyH_more (T := fun wq => wq.cell? ⟨n1, m3, none⟩ = some (.string y) ∧ True) (fun _ h => trivial) _ _ _ _ ?_
            have hHeld : (fun wq => wq.cell? ⟨n1, m3, none⟩ = some (.string y) ∧ True) x2 := ⟨HC1.out _ _ HN1.out, trivial⟩
            refine wpAnyH_take (i := 5) (oi := { dst := some 30, op := Op.indexAddr 39 (Operand.tmp 27) (Operand.tmp 29), type := 0, pos := "l5_bounce.go:162", after := #[{ on := 2, ground := Ground.data }, { on := 4, ground := Ground.data }], guard := none }) (v := .pointer (some ⟨n1, m3, none⟩)) rfl (by kernel_rfl) (by kernel_rfl) (by kernel_rfl) (fun _ _ _ h => h) (Or.inl ⟨by rfl, fun wz hSw => ?_⟩) hHeld ?_
            · obtain ⟨e0, _⟩ := hSw
              clear hHeld
              go_simp
            simp only [Act.put, List.setIfInBounds_toArray, List.set_cons_zero, List.set_cons_succ]
            refine wpAnyH_take (i := 6) (oi := { dst := some 31, op := Op.load 9 (Operand.tmp 30), type := 9, pos := "l5_bounce.go:162", after := #[{ on := 5, ground := Ground.data }], guard := none }) (v := .string y) rfl (by kernel_rfl) (by kernel_rfl) (by kernel_rfl) (fun _ _ _ h => h) (Or.inl ⟨by rfl, fun wz hSw => ?_⟩) hHeld ?_
            · obtain ⟨e0, _⟩ := hSw
              clear hHeld
              go_simp
            simp only [Act.put, List.setIfInBounds_toArray, List.set_cons_zero, List.set_cons_succ]
            refine wpAnyH_ready (rs := [1, 7]) (by kernel_rfl) (by simp) ?_
            refine AllReadyH.cons rfl (fun K hK => ?_) (AllReadyH.cons rfl (fun K hK => ?_) AllReadyH.nil)
            · clear hHeld
              go_simp
              go_at_call 27
              refine (HAD.out _ Rq.out).mono ?_
              rintro e x3 ⟨rfl, h1, o1⟩
              have Rq : Hid (RdAt x3 b cv B X.2) := h1
              have Qq : Hid (Blk q YQ x3) := Qq.out.offB o1 nqb
              have Pq : Hid (Blk w.heap.size ZZ x3) := Pq.out.offB o1 npb
              have Fq : Hid (Fls x3 w.heap.size (.slice a4 acc.length c4) acc) := fls_off Fq.out o1 HNB.out
              have Oq : Hid (Off b w x3) := Oq.out.trans o1
              have HNf : Hid (x3.heap[fb]? = some OF) := by show _ = _; rw [o1.block fb (Array.getElem?_eq_some_iff.1 HNf.out).1 (by have := Lfb.out; omega)]; exact HNf.out
              have HN1 : Hid (x3.heap[n1]? = some O1) := by show _ = _; rw [o1.block n1 (Array.getElem?_eq_some_iff.1 HN1.out).1 (by have := Ln1.out; omega)]; exact HN1.out
              refine hK.out _ _ ⟨HC1.out _ _ HN1.out, trivial⟩ (fun hHeld => ?_)
              clear hK K h1 o1
              try simp only [Act.put, List.setIfInBounds_toArray, List.set_cons_zero, List.set_cons_succ]
              refine wpAnyH_ready (rs := [7]) (by kernel_rfl) (by simp) ?_
              refine AllReadyH.cons rfl (fun K hK => ?_) AllReadyH.nil
              clear hHeld
              go_simp
              generalize hW : World.alloc x3 _ = x4
              obtain ⟨n2, hnb⟩ : ∃ nb, nb = x3.heap.size := ⟨_, rfl⟩
              have HN2 : Hid (x4.heap[n2]? = some O2) := by show _ = _; rw [← hW, hnb, HO2.out]; exact heap_newB _ _ _
              have hb : Below x3.heap.size x3 x4 := by rw [← hW]; exact below1 _ _
              have Ln2 : Hid (q < n2) := by show _ < _; rw [hnb]; exact Qq.out.lt
              rw [← hnb]
              have Dfn2 : Hid (n2 ≠ fb) := by have := (Array.getElem?_eq_some_iff.1 HNf.out).1; show _ ≠ _; omega
              have Rq : Hid (RdAt x4 b cv B X.2) := Rq.out.below hb (Nat.le_refl _)
              have Qq : Hid (Blk q YQ x4) := Qq.out.below hb
              have Pq : Hid (Blk w.heap.size ZZ x4) := Pq.out.below hb
              have Fq : Hid (Fls x4 w.heap.size (.slice a4 acc.length c4) acc) := fls_below Fq.out hb (Nat.le_refl _)
              have Oq : Hid (Off b w x4) := Oq.out.trans (Off.of_below hb)
              have HNf : Hid (x4.heap[fb]? = some OF) := by show _ = _; rw [hb.block fb (Array.getElem?_eq_some_iff.1 HNf.out).1]; exact HNf.out
              have HN1 : Hid (x4.heap[n1]? = some O1) := by show _ = _; rw [hb.block n1 (Array.getElem?_eq_some_iff.1 HN1.out).1]; exact HN1.out
              clear hW hnb
              refine hK.out _ _ ⟨HC1.out _ _ HN1.out, trivial⟩ (fun hHeld => ?_)
              clear hK K hb
              try simp only [Act.put, List.setIfInBounds_toArray, List.set_cons_zero, List.set_cons_succ]
              clear hHeld
              refine wpAnyH_more (T := fun wq => wq.cell? ⟨n2, m4, none⟩ = some (.int .i64 z) ∧ wq.cell? ⟨n1, m3, none⟩ = some (.string y) ∧ True) (fun _ h => h.2) _ _ _ _ ?_
              have hHeld : (fun wq => wq.cell? ⟨n2, m4, none⟩ = some (.int .i64 z) ∧ wq.cell? ⟨n1, m3, none⟩ = some (.string y) ∧ True) x4 := ⟨HC2.out _ _ HN2.out, HC1.out _ _ HN1.out, trivial⟩
              refine wpAnyH_take (i := 11) (oi := { dst := some 36, op := Op.indexAddr 59 (Operand.tmp 32) (Operand.tmp 35), type := 0, pos := "l5_bounce.go:162", after := #[{ on := 7, ground := Ground.data }, { on := 10, ground := Ground.data }], guard := none }) (v := .pointer (some ⟨n2, m4, none⟩)) rfl (by kernel_rfl) (by kernel_rfl) (by kernel_rfl) (fun _ _ _ h => h) (Or.inl ⟨by rfl, fun wz hSw => ?_⟩) hHeld ?_
              · obtain ⟨e0, e1, _⟩ := hSw
                clear hHeld
                go_simp
              simp only [Act.put, List.setIfInBounds_toArray, List.set_cons_zero, List.set_cons_succ]
              refine wpAnyH_take (i := 12) (oi := { dst := some 37, op := Op.load 3 (Operand.tmp 36), type := 3, pos := "l5_bounce.go:162", after := #[{ on := 11, ground := Ground.data }], guard := none }) (v := .int .i64 z) rfl (by kernel_rfl) (by kernel_rfl) (by kernel_rfl) (fun _ _ _ h => h) (Or.inl ⟨by rfl, fun wz hSw => ?_⟩) hHeld ?_
              · obtain ⟨e0, e1, _⟩ := hSw
                clear hHeld
                go_simp
              simp only [Act.put, List.setIfInBounds_toArray, List.set_cons_zero, List.set_cons_succ]
              refine wpAnyH_take (i := 13) (oi := { dst := some 38, op := Op.build 31 #[(0, Operand.tmp 26), (1, Operand.tmp 31), (2, Operand.tmp 37)], type := 31, pos := "l5_bounce.go:162", after := #[{ on := 1, ground := Ground.data }, { on := 6, ground := Ground.data }, { on := 12, ground := Ground.data }], guard := none }) (v := .agg #[.string X.1, .string y, .int .i64 z, .string ⟨#[]⟩]) rfl (by kernel_rfl) (by kernel_rfl) (by kernel_rfl) (fun _ _ _ h => h) (Or.inl ⟨by rfl, fun wz hSw => ?_⟩) hHeld ?_
              · obtain ⟨e0, e1, _⟩ := hSw
                clear hHeld
                go_simp
              simp only [Act.put, List.setIfInBounds_toArray, List.set_cons_zero, List.set_cons_succ]
              refine wpAnyH_ready (rs := [15]) (by kernel_rfl) (by simp) ?_
              refine AllReadyH.cons rfl (fun K hK => ?_) AllReadyH.nil
              have HNg := HNf.out
              rw [HOF.out] at HNg
              have z0 : x4.cell? ⟨fb, 0, none⟩ = some (.string ⟨#[]⟩) := by rw [Lib.cell_of_heap HNg]; rfl
              have z1 : x4.cell? ⟨fb, 1, none⟩ = some (.string ⟨#[]⟩) := by rw [Lib.cell_of_heap HNg]; rfl
              have z2 : x4.cell? ⟨fb, 2, none⟩ = some (.int .i64 0) := by rw [Lib.cell_of_heap HNg]; rfl
              have z3 : x4.cell? ⟨fb, 3, none⟩ = some (.string ⟨#[]⟩) := by rw [Lib.cell_of_heap HNg]; rfl
              have g0 : x4.frozen? ⟨fb, 0, none⟩ = false := Lib.frozen_of_heap HNg 0
              have g1 : x4.frozen? ⟨fb, 1, none⟩ = false := Lib.frozen_of_heap HNg 1
              have g2 : x4.frozen? ⟨fb, 2, none⟩ = false := Lib.frozen_of_heap HNg 2
              have g3 : x4.frozen? ⟨fb, 3, none⟩ = false := Lib.frozen_of_heap HNg 3
              clear hHeld
              go_simp
              generalize hV : ((((x4.setCell ⟨fb, 0, none⟩ (.string X.1)).setCell ⟨fb, 1, none⟩ (.string y)).setCell ⟨fb, 2, none⟩ (.int .i64 z)).setCell ⟨fb, 3, none⟩ (.string ⟨#[]⟩)) = x5
              obtain ⟨FBk, o5, b5⟩ : Hid (Blk fb #[.string X.1, .string y, .int .i64 z, .string ⟨#[]⟩] x5) ∧ Off fb x4 x5 ∧ Below w.heap.size x4 x5 := by rw [← hV]; exact set4 HNg (by have := Lfb.out; omega)
              clear hV z0 z1 z2 z3 g0 g1 g2 g3 HNg
              have Rq : Hid (RdAt x5 b cv B X.2) := H.out.carry Rq.out b5
              have Qq : Hid (Blk q YQ x5) := Qq.out.offB o5 (by have := Lfb.out; omega)
              have Pq : Hid (Blk w.heap.size ZZ x5) := Pq.out.offB o5 (by have := Lfb.out; omega)
              have Fq : Hid (Fls x5 w.heap.size (.slice a4 acc.length c4) acc) := fls_off Fq.out o5 GFB.out
              have Oq : Hid (Off b w x5) := off_belowN Oq.out b5
              have HN2 : Hid (x5.heap[n2]? = some O2) := by show _ = _; rw [o5.block n2 (Array.getElem?_eq_some_iff.1 HN2.out).1 Dfn2.out]; exact HN2.out
              have HN1 : Hid (x5.heap[n1]? = some O1) := by show _ = _; rw [o5.block n1 (Array.getElem?_eq_some_iff.1 HN1.out).1 Dfn1.out]; exact HN1.out
              refine hK.out _ _ ⟨HC2.out _ _ HN2.out, HC1.out _ _ HN1.out, trivial⟩ (fun hHeld => ?_)
              clear hK K hHeld o5 b5
              try simp only [Act.put, List.setIfInBounds_toArray, List.set_cons_zero, List.set_cons_succ]
              refine wpAnyH_done (by kernel_rfl) ?_ _
              go_wp2_with fail
              go_meet
              exact ⟨fb, rfl, Lfb.out, FBk, Rq, HYQ.out ▸ Qq, HZZ.out ▸ Pq, Fq, Oq, GFB⟩
            · clear hHeld
              go_simp
              generalize hW : World.alloc x2 _ = x3
              obtain ⟨n2, hnb⟩ : ∃ nb, nb = x2.heap.size := ⟨_, rfl⟩
              have HN2 : Hid (x3.heap[n2]? = some O2) := by show _ = _; rw [← hW, hnb, HO2.out]; exact heap_newB _ _ _
              have hb : Below x2.heap.size x2 x3 := by rw [← hW]; exact below1 _ _
              have Ln2 : Hid (q < n2) := by show _ < _; rw [hnb]; exact Qq.out.lt
              rw [← hnb]
              have Dfn2 : Hid (n2 ≠ fb) := by have := (Array.getElem?_eq_some_iff.1 HNf.out).1; show _ ≠ _; omega
              have Rq : Hid (RdAt x3 b cv B p1) := Rq.out.below hb (Nat.le_refl _)
              have Qq : Hid (Blk q YQ x3) := Qq.out.below hb
              have Pq : Hid (Blk w.heap.size ZZ x3) := Pq.out.below hb
              have Fq : Hid (Fls x3 w.heap.size (.slice a4 acc.length c4) acc) := fls_below Fq.out hb (Nat.le_refl _)
              have Oq : Hid (Off b w x3) := Oq.out.trans (Off.of_below hb)
              have HNf : Hid (x3.heap[fb]? = some OF) := by show _ = _; rw [hb.block fb (Array.getElem?_eq_some_iff.1 HNf.out).1]; exact HNf.out
              have HN1 : Hid (x3.heap[n1]? = some O1) := by show _ = _; rw [hb.block n1 (Array.getElem?_eq_some_iff.1 HN1.out).1]; exact HN1.out
              clear hW hnb
              refine hK.out _ _ ⟨HC1.out _ _ HN1.out, trivial⟩ (fun hHeld => ?_)
              clear hK K hb
              try simp only [Act.put, List.setIfInBounds_toArray, List.set_cons_zero, List.set_cons_succ]
              clear hHeld
              refine wpAnyH_more (T := fun wq => wq.cell? ⟨n2, m4, none⟩ = some (.int .i64 z) ∧ wq.cell? ⟨n1, m3, none⟩ = some (.string y) ∧ True) (fun _ h => h.2) _ _ _ _ ?_
              have hHeld : (fun wq => wq.cell? ⟨n2, m4, none⟩ = some (.int .i64 z) ∧ wq.cell? ⟨n1, m3, none⟩ = some (.string y) ∧ True) x3 := ⟨HC2.out _ _ HN2.out, HC1.out _ _ HN1.out, trivial⟩
              refine wpAnyH_take (i := 11) (oi := { dst := some 36, op := Op.indexAddr 59 (Operand.tmp 32) (Operand.tmp 35), type := 0, pos := "l5_bounce.go:162", after := #[{ on := 7, ground := Ground.data }, { on := 10, ground := Ground.data }], guard := none }) (v := .pointer (some ⟨n2, m4, none⟩)) rfl (by kernel_rfl) (by kernel_rfl) (by kernel_rfl) (fun _ _ _ h => h) (Or.inl ⟨by rfl, fun wz hSw => ?_⟩) hHeld ?_
              · obtain ⟨e0, e1, _⟩ := hSw
                clear hHeld
                go_simp
              simp only [Act.put, List.setIfInBounds_toArray, List.set_cons_zero, List.set_cons_succ]
              refine wpAnyH_take (i := 12) (oi := { dst := some 37, op := Op.load 3 (Operand.tmp 36), type := 3, pos := "l5_bounce.go:162", after := #[{ on := 11, ground := Ground.data }], guard := none }) (v := .int .i64 z) rfl (by kernel_rfl) (by kernel_rfl) (by kernel_rfl) (fun _ _ _ h => h) (Or.inl ⟨by rfl, fun wz hSw => ?_⟩) hHeld ?_
              · obtain ⟨e0, e1, _⟩ := hSw
                clear hHeld
                go_simp
              simp only [Act.put, List.setIfInBounds_toArray, List.set_cons_zero, List.set_cons_succ]
              refine wpAnyH_ready (rs := [1]) (by kernel_rfl) (by simp) ?_
              refine AllReadyH.cons rfl (fun K hK => ?_) AllReadyH.nil
              clear hHeld
              go_simp
              go_at_call 27
              refine (HAD.out _ Rq.out).mono ?_
              rintro e x4 ⟨rfl, h1, o1⟩
              have Rq : Hid (RdAt x4 b cv B X.2) := h1
              have Qq : Hid (Blk q YQ x4) := Qq.out.offB o1 nqb
              have Pq : Hid (Blk w.heap.size ZZ x4) := Pq.out.offB o1 npb
              have Fq : Hid (Fls x4 w.heap.size (.slice a4 acc.length c4) acc) := fls_off Fq.out o1 HNB.out
              have Oq : Hid (Off b w x4) := Oq.out.trans o1
              have HNf : Hid (x4.heap[fb]? = some OF) := by show _ = _; rw [o1.block fb (Array.getElem?_eq_some_iff.1 HNf.out).1 (by have := Lfb.out; omega)]; exact HNf.out
              have HN1 : Hid (x4.heap[n1]? = some O1) := by show _ = _; rw [o1.block n1 (Array.getElem?_eq_some_iff.1 HN1.out).1 (by have := Ln1.out; omega)]; exact HN1.out
              have HN2 : Hid (x4.heap[n2]? = some O2) := by show _ = _; rw [o1.block n2 (Array.getElem?_eq_some_iff.1 HN2.out).1 (by have := Ln2.out; omega)]; exact HN2.out
              refine hK.out _ _ ⟨HC2.out _ _ HN2.out, HC1.out _ _ HN1.out, trivial⟩ (fun hHeld => ?_)
              clear hK K h1 o1
              try simp only [Act.put, List.setIfInBounds_toArray, List.set_cons_zero, List.set_cons_succ]
              refine wpAnyH_take (i := 13) (oi := { dst := some 38, op := Op.build 31 #[(0, Operand.tmp 26), (1, Operand.tmp 31), (2, Operand.tmp 37)], type := 31, pos := "l5_bounce.go:162", after := #[{ on := 1, ground := Ground.data }, { on := 6, ground := Ground.data }, { on := 12, ground := Ground.data }], guard := none }) (v := .agg #[.string X.1, .string y, .int .i64 z, .string ⟨#[]⟩]) rfl (by kernel_rfl) (by kernel_rfl) (by kernel_rfl) (fun _ _ _ h => h) (Or.inl ⟨by rfl, fun wz hSw => ?_⟩) hHeld ?_
              · obtain ⟨e0, e1, _⟩ := hSw
                clear hHeld
                go_simp
              simp only [Act.put, List.setIfInBounds_toArray, List.set_cons_zero, List.set_cons_succ]
              refine wpAnyH_ready (rs := [15]) (by kernel_rfl) (by simp) ?_
              refine AllReadyH.cons rfl (fun K hK => ?_) AllReadyH.nil
              have HNg := HNf.out
              rw [HOF.out] at HNg
              have z0 : x4.cell? ⟨fb, 0, none⟩ = some (.string ⟨#[]⟩) := by rw [Lib.cell_of_heap HNg]; rfl
              have z1 : x4.cell? ⟨fb, 1, none⟩ = some (.string ⟨#[]⟩) := by rw [Lib.cell_of_heap HNg]; rfl
              have z2 : x4.cell? ⟨fb, 2, none⟩ = some (.int .i64 0) := by rw [Lib.cell_of_heap HNg]; rfl
              have z3 : x4.cell? ⟨fb, 3, none⟩ = some (.string ⟨#[]⟩) := by rw [Lib.cell_of_heap HNg]; rfl
              have g0 : x4.frozen? ⟨fb, 0, none⟩ = false := Lib.frozen_of_heap HNg 0
              have g1 : x4.frozen? ⟨fb, 1, none⟩ = false := Lib.frozen_of_heap HNg 1
              have g2 : x4.frozen? ⟨fb, 2, none⟩ = false := Lib.frozen_of_heap HNg 2
              have g3 : x4.frozen? ⟨fb, 3, none⟩ = false := Lib.frozen_of_heap HNg 3
              clear hHeld
              go_simp
              generalize hV : ((((x4.setCell ⟨fb, 0, none⟩ (.string X.1)).setCell ⟨fb, 1, none⟩ (.string y)).setCell ⟨fb, 2, none⟩ (.int .i64 z)).setCell ⟨fb, 3, none⟩ (.string ⟨#[]⟩)) = x5
              obtain ⟨FBk, o5, b5⟩ : Hid (Blk fb #[.string X.1, .string y, .int .i64 z, .string ⟨#[]⟩] x5) ∧ Off fb x4 x5 ∧ Below w.heap.size x4 x5 := by rw [← hV]; exact set4 HNg (by have := Lfb.out; omega)
              clear hV z0 z1 z2 z3 g0 g1 g2 g3 HNg
              have Rq : Hid (RdAt x5 b cv B X.2) := H.out.carry Rq.out b5
              have Qq : Hid (Blk q YQ x5) := Qq.out.offB o5 (by have := Lfb.out; omega)
              have Pq : Hid (Blk w.heap.size ZZ x5) := Pq.out.offB o5 (by have := Lfb.out; omega)
              have Fq : Hid (Fls x5 w.heap.size (.slice a4 acc.length c4) acc) := fls_off Fq.out o5 GFB.out
              have Oq : Hid (Off b w x5) := off_belowN Oq.out b5
              have HN2 : Hid (x5.heap[n2]? = some O2) := by show _ = _; rw [o5.block n2 (Array.getElem?_eq_some_iff.1 HN2.out).1 Dfn2.out]; exact HN2.out
              have HN1 : Hid (x5.heap[n1]? = some O1) := by show _ = _; rw [o5.block n1 (Array.getElem?_eq_some_iff.1 HN1.out).1 Dfn1.out]; exact HN1.out
              refine hK.out _ _ ⟨HC2.out _ _ HN2.out, HC1.out _ _ HN1.out, trivial⟩ (fun hHeld => ?_)
              clear hK K hHeld o5 b5
              try simp only [Act.put, List.setIfInBounds_toArray, List.set_cons_zero, List.set_cons_succ]
              refine wpAnyH_done (by kernel_rfl) ?_ _
              go_wp2_with fail
              go_meet
              exact ⟨fb, rfl, Lfb.out, FBk, Rq, HYQ.out ▸ Qq, HZZ.out ▸ Pq, Fq, Oq, GFB⟩
          · clear hHeld
            go_simp
            generalize hW : World.alloc x1 _ = x2
            obtain ⟨n2, hnb⟩ : ∃ nb, nb = x1.heap.size := ⟨_, rfl⟩
            have HN2 : Hid (x2.heap[n2]? = some O2) := by show _ = _; rw [← hW, hnb, HO2.out]; exact heap_newB _ _ _
            have hb : Below x1.heap.size x1 x2 := by rw [← hW]; exact below1 _ _
            have Ln2 : Hid (q < n2) := by show _ < _; rw [hnb]; exact Qq.out.lt
            rw [← hnb]
            have Dfn2 : Hid (n2 ≠ fb) := by have := (Array.getElem?_eq_some_iff.1 HNf.out).1; show _ ≠ _; omega
            have Rq : Hid (RdAt x2 b cv B p1) := Rq.out.below hb (Nat.le_refl _)
            have Qq : Hid (Blk q YQ x2) := Qq.out.below hb
            have Pq : Hid (Blk w.heap.size ZZ x2) := Pq.out.below hb
            have Fq : Hid (Fls x2 w.heap.size (.slice a4 acc.length c4) acc) := fls_below Fq.out hb (Nat.le_refl _)
            have Oq : Hid (Off b w x2) := Oq.out.trans (Off.of_below hb)
            have HNf : Hid (x2.heap[fb]? = some OF) := by show _ = _; rw [hb.block fb (Array.getElem?_eq_some_iff.1 HNf.out).1]; exact HNf.out
            clear hW hnb
            refine hK.out _ _ trivial (fun hHeld => ?_)
            clear hK K hb
            try simp only [Act.put, List.setIfInBounds_toArray, List.set_cons_zero, List.set_cons_succ]
            clear hHeld
            refine wpAnyH_more (T := fun wq => wq.cell? ⟨n2, m4, none⟩ = some (.int .i64 z) ∧ True) (fun _ h => trivial) _ _ _ _ ?_
            have hHeld : (fun wq => wq.cell? ⟨n2, m4, none⟩ = some (.int .i64 z) ∧ True) x2 := ⟨HC2.out _ _ HN2.out, trivial⟩
            refine wpAnyH_take (i := 11) (oi := { dst := some 36, op := Op.indexAddr 59 (Operand.tmp 32) (Operand.tmp 35), type := 0, pos := "l5_bounce.go:162", after := #[{ on := 7, ground := Ground.data }, { on := 10, ground := Ground.data }], guard := none }) (v := .pointer (some ⟨n2, m4, none⟩)) rfl (by kernel_rfl) (by kernel_rfl) (by kernel_rfl) (fun _ _ _ h => h) (Or.inl ⟨by rfl, fun wz hSw => ?_⟩) hHeld ?_
            · obtain ⟨e0, _⟩ := hSw
              clear hHeld
              go_simp
            simp only [Act.put, List.setIfInBounds_toArray, List.set_cons_zero, List.set_cons_succ]
            refine wpAnyH_take (i := 12) (oi := { dst := some 37, op := Op.load 3 (Operand.tmp 36), type := 3, pos := "l5_bounce.go:162", after := #[{ on := 11, ground := Ground.data }], guard := none }) (v := .int .i64 z) rfl (by kernel_rfl) (by kernel_rfl) (by kernel_rfl) (fun _ _ _ h => h) (Or.inl ⟨by rfl, fun wz hSw => ?_⟩) hHeld ?_
            · obtain ⟨e0, _⟩ := hSw
              clear hHeld
              go_simp
            simp only [Act.put, List.setIfInBounds_toArray, List.set_cons_zero, List.set_cons_succ]
            refine wpAnyH_ready (rs := [1, 2]) (by kernel_rfl) (by simp) ?_
            refine AllReadyH.cons rfl (fun K hK => ?_) (AllReadyH.cons rfl (fun K hK => ?_) AllReadyH.nil)
            · clear hHeld
              go_simp
              go_at_call 27
              refine (HAD.out _ Rq.out).mono ?_
              rintro e x3 ⟨rfl, h1, o1⟩
              have Rq : Hid (RdAt x3 b cv B X.2) := h1
              have Qq : Hid (Blk q YQ x3) := Qq.out.offB o1 nqb
              have Pq : Hid (Blk w.heap.size ZZ x3) := Pq.out.offB o1 npb
              have Fq : Hid (Fls x3 w.heap.size (.slice a4 acc.length c4) acc) := fls_off Fq.out o1 HNB.out
              have Oq : Hid (Off b w x3) := Oq.out.trans o1
              have HNf : Hid (x3.heap[fb]? = some OF) := by show _ = _; rw [o1.block fb (Array.getElem?_eq_some_iff.1 HNf.out).1 (by have := Lfb.out; omega)]; exact HNf.out
              have HN2 : Hid (x3.heap[n2]? = some O2) := by show _ = _; rw [o1.block n2 (Array.getElem?_eq_some_iff.1 HN2.out).1 (by have := Ln2.out; omega)]; exact HN2.out
              refine hK.out _ _ ⟨HC2.out _ _ HN2.out, trivial⟩ (fun hHeld => ?_)
              clear hK K h1 o1
              try simp only [Act.put, List.setIfInBounds_toArray, List.set_cons_zero, List.set_cons_succ]
              refine wpAnyH_ready (rs := [2]) (by kernel_rfl) (by simp) ?_
              refine AllReadyH.cons rfl (fun K hK => ?_) AllReadyH.nil
              clear hHeld
              go_simp
              generalize hW : World.alloc x3 _ = x4
              obtain ⟨n1, hnb⟩ : ∃ nb, nb = x3.heap.size := ⟨_, rfl⟩
              have HN1 : Hid (x4.heap[n1]? = some O1) := by show _ = _; rw [← hW, hnb, HO1.out]; exact heap_newB _ _ _
              have hb : Below x3.heap.size x3 x4 := by rw [← hW]; exact below1 _ _
              have Ln1 : Hid (q < n1) := by show _ < _; rw [hnb]; exact Qq.out.lt
              rw [← hnb]
              have Dfn1 : Hid (n1 ≠ fb) := by have := (Array.getElem?_eq_some_iff.1 HNf.out).1; show _ ≠ _; omega
              have Rq : Hid (RdAt x4 b cv B X.2) := Rq.out.below hb (Nat.le_refl _)
              have Qq : Hid (Blk q YQ x4) := Qq.out.below hb
              have Pq : Hid (Blk w.heap.size ZZ x4) := Pq.out.below hb
              have Fq : Hid (Fls x4 w.heap.size (.slice a4 acc.length c4) acc) := fls_below Fq.out hb (Nat.le_refl _)
              have Oq : Hid (Off b w x4) := Oq.out.trans (Off.of_below hb)
              have HNf : Hid (x4.heap[fb]? = some OF) := by show _ = _; rw [hb.block fb (Array.getElem?_eq_some_iff.1 HNf.out).1]; exact HNf.out
              have HN2 : Hid (x4.heap[n2]? = some O2) := by show _ = _; rw [hb.block n2 (Array.getElem?_eq_some_iff.1 HN2.out).1]; exact HN2.out
              clear hW hnb
              refine hK.out _ _ ⟨HC2.out _ _ HN2.out, trivial⟩ (fun hHeld => ?_)
              clear hK K hb
              try simp only [Act.put, List.setIfInBounds_toArray, List.set_cons_zero, List.set_cons_succ]
              clear hHeld
              refine wpAnyH_more (T := fun wq => wq.cell? ⟨n1, m3, none⟩ = some (.string y) ∧ wq.cell? ⟨n2, m4, none⟩ = some (.int .i64 z) ∧ True) (fun _ h => h.2) _ _ _ _ ?_
              have hHeld : (fun wq => wq.cell? ⟨n1, m3, none⟩ = some (.string y) ∧ wq.cell? ⟨n2, m4, none⟩ = some (.int .i64 z) ∧ True) x4 := ⟨HC1.out _ _ HN1.out, HC2.out _ _ HN2.out, trivial⟩
              refine wpAnyH_take (i := 5) (oi := { dst := some 30, op := Op.indexAddr 39 (Operand.tmp 27) (Operand.tmp 29), type := 0, pos := "l5_bounce.go:162", after := #[{ on := 2, ground := Ground.data }, { on := 4, ground := Ground.data }], guard := none }) (v := .pointer (some ⟨n1, m3, none⟩)) rfl (by kernel_rfl) (by kernel_rfl) (by kernel_rfl) (fun _ _ _ h => h) (Or.inl ⟨by rfl, fun wz hSw => ?_⟩) hHeld ?_
              · obtain ⟨e0, e1, _⟩ := hSw
                clear hHeld
                go_simp
              simp only [Act.put, List.setIfInBounds_toArray, List.set_cons_zero, List.set_cons_succ]
              refine wpAnyH_take (i := 6) (oi := { dst := some 31, op := Op.load 9 (Operand.tmp 30), type := 9, pos := "l5_bounce.go:162", after := #[{ on := 5, ground := Ground.data }], guard := none }) (v := .string y) rfl (by kernel_rfl) (by kernel_rfl) (by kernel_rfl) (fun _ _ _ h => h) (Or.inl ⟨by rfl, fun wz hSw => ?_⟩) hHeld ?_
              · obtain ⟨e0, e1, _⟩ := hSw
                clear hHeld
                go_simp
              simp only [Act.put, List.setIfInBounds_toArray, List.set_cons_zero, List.set_cons_succ]
              refine wpAnyH_take (i := 13) (oi := { dst := some 38, op := Op.build 31 #[(0, Operand.tmp 26), (1, Operand.tmp 31), (2, Operand.tmp 37)], type := 31, pos := "l5_bounce.go:162", after := #[{ on := 1, ground := Ground.data }, { on := 6, ground := Ground.data }, { on := 12, ground := Ground.data }], guard := none }) (v := .agg #[.string X.1, .string y, .int .i64 z, .string ⟨#[]⟩]) rfl (by kernel_rfl) (by kernel_rfl) (by kernel_rfl) (fun _ _ _ h => h) (Or.inl ⟨by rfl, fun wz hSw => ?_⟩) hHeld ?_
              · obtain ⟨e0, e1, _⟩ := hSw
                clear hHeld
                go_simp
              simp only [Act.put, List.setIfInBounds_toArray, List.set_cons_zero, List.set_cons_succ]
              refine wpAnyH_ready (rs := [15]) (by kernel_rfl) (by simp) ?_
              refine AllReadyH.cons rfl (fun K hK => ?_) AllReadyH.nil
              have HNg := HNf.out
              rw [HOF.out] at HNg
              have z0 : x4.cell? ⟨fb, 0, none⟩ = some (.string ⟨#[]⟩) := by rw [Lib.cell_of_heap HNg]; rfl
              have z1 : x4.cell? ⟨fb, 1, none⟩ = some (.string ⟨#[]⟩) := by rw [Lib.cell_of_heap HNg]; rfl
              have z2 : x4.cell? ⟨fb, 2, none⟩ = some (.int .i64 0) := by rw [Lib.cell_of_heap HNg]; rfl
              have z3 : x4.cell? ⟨fb, 3, none⟩ = some (.string ⟨#[]⟩) := by rw [Lib.cell_of_heap HNg]; rfl
              have g0 : x4.frozen? ⟨fb, 0, none⟩ = false := Lib.frozen_of_heap HNg 0
              have g1 : x4.frozen? ⟨fb, 1, none⟩ = false := Lib.frozen_of_heap HNg 1
              have g2 : x4.frozen? ⟨fb, 2, none⟩ = false := Lib.frozen_of_heap HNg 2
              have g3 : x4.frozen? ⟨fb, 3, none⟩ = false := Lib.frozen_of_heap HNg 3
              clear hHeld
              go_simp
              generalize hV : ((((x4.setCell ⟨fb, 0, none⟩ (.string X.1)).setCell ⟨fb, 1, none⟩ (.string y)).setCell ⟨fb, 2, none⟩ (.int .i64 z)).setCell ⟨fb, 3, none⟩ (.string ⟨#[]⟩)) = x5
              obtain ⟨FBk, o5, b5⟩ : Hid (Blk fb #[.string X.1, .string y, .int .i64 z, .string ⟨#[]⟩] x5) ∧ Off fb x4 x5 ∧ Below w.heap.size x4 x5 := by rw [← hV]; exact set4 HNg (by have := Lfb.out; omega)
              clear hV z0 z1 z2 z3 g0 g1 g2 g3 HNg
              have Rq : Hid (RdAt x5 b cv B X.2) := H.out.carry Rq.out b5
              have Qq : Hid (Blk q YQ x5) := Qq.out.offB o5 (by have := Lfb.out; omega)
              have Pq : Hid (Blk w.heap.size ZZ x5) := Pq.out.offB o5 (by have := Lfb.out; omega)
              have Fq : Hid (Fls x5 w.heap.size (.slice a4 acc.length c4) acc) := fls_off Fq.out o5 GFB.out
              have Oq : Hid (Off b w x5) := off_belowN Oq.out b5
              have HN1 : Hid (x5.heap[n1]? = some O1) := by show _ = _; rw [o5.block n1 (Array.getElem?_eq_some_iff.1 HN1.out).1 Dfn1.out]; exact HN1.out
              have HN2 : Hid (x5.heap[n2]? = some O2) := by show _ = _; rw [o5.block n2 (Array.getElem?_eq_some_iff.1 HN2.out).1 Dfn2.out]; exact HN2.out
              refine hK.out _ _ ⟨HC1.out _ _ HN1.out, HC2.out _ _ HN2.out, trivial⟩ (fun hHeld => ?_)
              clear hK K hHeld o5 b5
              try simp only [Act.put, List.setIfInBounds_toArray, List.set_cons_zero, List.set_cons_succ]
              refine wpAnyH_done (by kernel_rfl) ?_ _
              go_wp2_with fail
              go_meet
              exact ⟨fb, rfl, Lfb.out, FBk, Rq, HYQ.out ▸ Qq, HZZ.out ▸ Pq, Fq, Oq, GFB⟩
            · clear hHeld
              go_simp
              generalize hW : World.alloc x2 _ = x3
              obtain ⟨n1, hnb⟩ : ∃ nb, nb = x2.heap.size := ⟨_, rfl⟩
              have HN1 : Hid (x3.heap[n1]? = some O1) := by show _ = _; rw [← hW, hnb, HO1.out]; exact heap_newB _ _ _
              have hb : Below x2.heap.size x2 x3 := by rw [← hW]; exact below1 _ _
              have Ln1 : Hid (q < n1) := by show _ < _; rw [hnb]; exact Qq.out.lt
              rw [← hnb]
              have Dfn1 : Hid (n1 ≠ fb) := by have := (Array.getElem?_eq_some_iff.1 HNf.out).1; show _ ≠ _; omega
              have Rq : Hid (RdAt x3 b cv B p1) := Rq.out.below hb (Nat.le_refl _)
              have Qq : Hid (Blk q YQ x3) := Qq.out.below hb
              have Pq : Hid (Blk w.heap.size ZZ x3) := Pq.out.below hb
              have Fq : Hid (Fls x3 w.heap.size (.slice a4 acc.length c4) acc) := fls_below Fq.out hb (Nat.le_refl _)
              have Oq : Hid (Off b w x3) := Oq.out.trans (Off.of_below hb)
              have HNf : Hid (x3.heap[fb]? = some OF) := by show _ = _; rw [hb.block fb (Array.getElem?_eq_some_iff.1 HNf.out).1]; exact HNf.out
              have HN2 : Hid (x3.heap[n2]? = some O2) := by show _ = _; rw [hb.block n2 (Array.getElem?_eq_some_iff.1 HN2.out).1]; exact HN2.out
              clear hW hnb
              refine hK.out _ _ ⟨HC2.out _ _ HN2.out, trivial⟩ (fun hHeld => ?_)
              clear hK K hb
              try simp only [Act.put, List.setIfInBounds_toArray, List.set_cons_zero, List.set_cons_succ]
              clear hHeld
              refine wpAnyH_more (T := fun wq => wq.cell? ⟨n1, m3, none⟩ = some (.string y) ∧ wq.cell? ⟨n2, m4, none⟩ = some (.int .i64 z) ∧ True) (fun _ h => h.2) _ _ _ _ ?_
              have hHeld : (fun wq => wq.cell? ⟨n1, m3, none⟩ = some (.string y) ∧ wq.cell? ⟨n2, m4, none⟩ = some (.int .i64 z) ∧ True) x3 := ⟨HC1.out _ _ HN1.out, HC2.out _ _ HN2.out, trivial⟩
              refine wpAnyH_take (i := 5) (oi := { dst := some 30, op := Op.indexAddr 39 (Operand.tmp 27) (Operand.tmp 29), type := 0, pos := "l5_bounce.go:162", after := #[{ on := 2, ground := Ground.data }, { on := 4, ground := Ground.data }], guard := none }) (v := .pointer (some ⟨n1, m3, none⟩)) rfl (by kernel_rfl) (by kernel_rfl) (by kernel_rfl) (fun _ _ _ h => h) (Or.inl ⟨by rfl, fun wz hSw => ?_⟩) hHeld ?_
              · obtain ⟨e0, e1, _⟩ := hSw
                clear hHeld
                go_simp
              simp only [Act.put, List.setIfInBounds_toArray, List.set_cons_zero, List.set_cons_succ]
              refine wpAnyH_take (i := 6) (oi := { dst := some 31, op := Op.load 9 (Operand.tmp 30), type := 9, pos := "l5_bounce.go:162", after := #[{ on := 5, ground := Ground.data }], guard := none }) (v := .string y) rfl (by kernel_rfl) (by kernel_rfl) (by kernel_rfl) (fun _ _ _ h => h) (Or.inl ⟨by rfl, fun wz hSw => ?_⟩) hHeld ?_
              · obtain ⟨e0, e1, _⟩ := hSw
                clear hHeld
                go_simp
              simp only [Act.put, List.setIfInBounds_toArray, List.set_cons_zero, List.set_cons_succ]
              refine wpAnyH_ready (rs := [1]) (by kernel_rfl) (by simp) ?_
              refine AllReadyH.cons rfl (fun K hK => ?_) AllReadyH.nil
              clear hHeld
              go_simp
              go_at_call 27
              refine (HAD.out _ Rq.out).mono ?_
              rintro e x4 ⟨rfl, h1, o1⟩
              have Rq : Hid (RdAt x4 b cv B X.2) := h1
              have Qq : Hid (Blk q YQ x4) := Qq.out.offB o1 nqb
              have Pq : Hid (Blk w.heap.size ZZ x4) := Pq.out.offB o1 npb
              have Fq : Hid (Fls x4 w.heap.size (.slice a4 acc.length c4) acc) := fls_off Fq.out o1 HNB.out
              have Oq : Hid (Off b w x4) := Oq.out.trans o1
              have HNf : Hid (x4.heap[fb]? = some OF) := by show _ = _; rw [o1.block fb (Array.getElem?_eq_some_iff.1 HNf.out).1 (by have := Lfb.out; omega)]; exact HNf.out
              have HN2 : Hid (x4.heap[n2]? = some O2) := by show _ = _; rw [o1.block n2 (Array.getElem?_eq_some_iff.1 HN2.out).1 (by have := Ln2.out; omega)]; exact HN2.out
              have HN1 : Hid (x4.heap[n1]? = some O1) := by show _ = _; rw [o1.block n1 (Array.getElem?_eq_some_iff.1 HN1.out).1 (by have := Ln1.out; omega)]; exact HN1.out
              refine hK.out _ _ ⟨HC1.out _ _ HN1.out, HC2.out _ _ HN2.out, trivial⟩ (fun hHeld => ?_)
              clear hK K h1 o1
              try simp only [Act.put, List.setIfInBounds_toArray, List.set_cons_zero, List.set_cons_succ]
              refine wpAnyH_take (i := 13) (oi := { dst := some 38, op := Op.build 31 #[(0, Operand.tmp 26), (1, Operand.tmp 31), (2, Operand.tmp 37)], type := 31, pos := "l5_bounce.go:162", after := #[{ on := 1, ground := Ground.data }, { on := 6, ground := Ground.data }, { on := 12, ground := Ground.data }], guard := none }) (v := .agg #[.string X.1, .string y, .int .i64 z, .string ⟨#[]⟩]) rfl (by kernel_rfl) (by kernel_rfl) (by kernel_rfl) (fun _ _ _ h => h) (Or.inl ⟨by rfl, fun wz hSw => ?_⟩) hHeld ?_
              · obtain ⟨e0, e1, _⟩ := hSw
                clear hHeld
                go_simp
              simp only [Act.put, List.setIfInBounds_toArray, List.set_cons_zero, List.set_cons_succ]
              refine wpAnyH_ready (rs := [15]) (by kernel_rfl) (by simp) ?_
              refine AllReadyH.cons rfl (fun K hK => ?_) AllReadyH.nil
              have HNg := HNf.out
              rw [HOF.out] at HNg
              have z0 : x4.cell? ⟨fb, 0, none⟩ = some (.string ⟨#[]⟩) := by rw [Lib.cell_of_heap HNg]; rfl
              have z1 : x4.cell? ⟨fb, 1, none⟩ = some (.string ⟨#[]⟩) := by rw [Lib.cell_of_heap HNg]; rfl
              have z2 : x4.cell? ⟨fb, 2, none⟩ = some (.int .i64 0) := by rw [Lib.cell_of_heap HNg]; rfl
              have z3 : x4.cell? ⟨fb, 3, none⟩ = some (.string ⟨#[]⟩) := by rw [Lib.cell_of_heap HNg]; rfl
              have g0 : x4.frozen? ⟨fb, 0, none⟩ = false := Lib.frozen_of_heap HNg 0
              have g1 : x4.frozen? ⟨fb, 1, none⟩ = false := Lib.frozen_of_heap HNg 1
              have g2 : x4.frozen? ⟨fb, 2, none⟩ = false := Lib.frozen_of_heap HNg 2
              have g3 : x4.frozen? ⟨fb, 3, none⟩ = false := Lib.frozen_of_heap HNg 3
              clear hHeld
              go_simp
              generalize hV : ((((x4.setCell ⟨fb, 0, none⟩ (.string X.1)).setCell ⟨fb, 1, none⟩ (.string y)).setCell ⟨fb, 2, none⟩ (.int .i64 z)).setCell ⟨fb, 3, none⟩ (.string ⟨#[]⟩)) = x5
              obtain ⟨FBk, o5, b5⟩ : Hid (Blk fb #[.string X.1, .string y, .int .i64 z, .string ⟨#[]⟩] x5) ∧ Off fb x4 x5 ∧ Below w.heap.size x4 x5 := by rw [← hV]; exact set4 HNg (by have := Lfb.out; omega)
              clear hV z0 z1 z2 z3 g0 g1 g2 g3 HNg
              have Rq : Hid (RdAt x5 b cv B X.2) := H.out.carry Rq.out b5
              have Qq : Hid (Blk q YQ x5) := Qq.out.offB o5 (by have := Lfb.out; omega)
              have Pq : Hid (Blk w.heap.size ZZ x5) := Pq.out.offB o5 (by have := Lfb.out; omega)
              have Fq : Hid (Fls x5 w.heap.size (.slice a4 acc.length c4) acc) := fls_off Fq.out o5 GFB.out
              have Oq : Hid (Off b w x5) := off_belowN Oq.out b5
              have HN1 : Hid (x5.heap[n1]? = some O1) := by show _ = _; rw [o5.block n1 (Array.getElem?_eq_some_iff.1 HN1.out).1 Dfn1.out]; exact HN1.out
              have HN2 : Hid (x5.heap[n2]? = some O2) := by show _ = _; rw [o5.block n2 (Array.getElem?_eq_some_iff.1 HN2.out).1 Dfn2.out]; exact HN2.out
              refine hK.out _ _ ⟨HC1.out _ _ HN1.out, HC2.out _ _ HN2.out, trivial⟩ (fun hHeld => ?_)
              clear hK K hHeld o5 b5
              try simp only [Act.put, List.setIfInBounds_toArray, List.set_cons_zero, List.set_cons_succ]
              refine wpAnyH_done (by kernel_rfl) ?_ _
              go_wp2_with fail
              go_meet
              exact ⟨fb, rfl, Lfb.out, FBk, Rq, HYQ.out ▸ Qq, HZZ.out ▸ Pq, Fq, Oq, GFB⟩
      case rest =>

      obtain ⟨fb, rfl, lfb, FBk, Rq, Qq, Pq, Fq, Oq, Nf⟩ := hcut
      obtain ⟨i0, hi, hy0, hy1, hy2⟩ := info_parts infoFl
      have nfb : fb ≠ b := by omega
      clear HAD HC1 HC2 HO1 HO2 HOF Rq0 Qq0 Pq0 Fq0 Oq0
      go_wp2_with fail
      refine (HSM.out _ Rq.out).mono ?_
      rintro e w5 ⟨rfl, h5, o5⟩
      have R5 : Hid (RdAt w5 b cv B P2) := h5
      have B5 : Hid (Blk fb #[.string X.1, .string y, .int .i64 z, .string ⟨#[]⟩] w5) := FBk.out.offB o5 nfb
      have Q5 : Hid (Blk q #[.string D.1, .string A.1, .slice a4 acc.length c4, .string ⟨#[]⟩] w5) := Qq.out.offB o5 nqb
      have P5 : Hid (Blk w.heap.size #[.string ⟨#[]⟩, .string ⟨#[]⟩, .slice none 0 0, .string ⟨#[]⟩] w5) := Pq.out.offB o5 npb
      have F5 : Hid (Fls w5 w.heap.size (.slice a4 acc.length c4) acc) := fls_off Fq.out o5 (fun g hg => by have := (fls_own Fq.out g hg).1; omega)
      have O5 : Hid (Off b w w5) := Oq.out.trans o5
      clear h5 o5 HSM Rq Qq Pq Fq Oq FBk
      go_wp2_with fail
      refine (HCL.out _).mono ?_
      rintro e w6 ⟨rfl, b6⟩
      have R6 : Hid (RdAt w6 b cv B P2) := R5.out.below b6 (Nat.le_refl _)
      have B6 : Hid (Blk fb #[.string X.1, .string y, .int .i64 z, .string ⟨#[]⟩] w6) := B5.out.below b6
      have Q6 : Hid (Blk q #[.string D.1, .string A.1, .slice a4 acc.length c4, .string ⟨#[]⟩] w6) := Q5.out.below b6
      have P6 : Hid (Blk w.heap.size #[.string ⟨#[]⟩, .string ⟨#[]⟩, .slice none 0 0, .string ⟨#[]⟩] w6) := P5.out.below b6
      have F6 : Hid (Fls w6 w.heap.size (.slice a4 acc.length c4) acc) := fls_below F5.out b6 (Nat.le_refl _)
      have O6 : Hid (Off b w w6) := O5.out.trans (Off.of_below b6)
      clear b6 HCL R5 B5 Q5 P5 F5 O5
      have c3 : w6.cell? ⟨fb, 3, none⟩ = some (.string ⟨#[]⟩) := B6.out.cell 3
      have g3 := B6.out.free 3
      go_upto_region 9 with fail
      generalize hV : w6.setCell _ _ = V
      have B7 : Hid (Blk fb #[.string X.1, .string y, .int .i64 z, .string tx] V) := by show Blk _ _ _; rw [← hV]; exact B6.out.set (i := 3) (by simp)
      have Q7 : Hid (Blk q #[.string D.1, .string A.1, .slice a4 acc.length c4, .string ⟨#[]⟩] V) := by show Blk _ _ _; rw [← hV]; exact Q6.out.other (by omega)
      have P7 : Hid (Blk w.heap.size #[.string ⟨#[]⟩, .string ⟨#[]⟩, .slice none 0 0, .string ⟨#[]⟩] V) := by show Blk _ _ _; rw [← hV]; exact P6.out.other (by omega)
      have F7 : Hid (Fls V w.heap.size (.slice a4 acc.length c4) acc) := by show Fls _ _ _ _; rw [← hV]; exact fls_setO F6.out Nf.out _
      have O7 : Hid (Off b w V) := by show Off _ _ _; rw [← hV]; exact O6.out.setHi (by omega)
      have R7 : Hid (RdAt V b cv B P2) := H.out.carry R6.out (by rw [← hV]; exact (Below.refl _ _).setCell (p := ⟨fb, 3, none⟩) (by show w.heap.size ≤ fb; omega) _)
      clear hV c3 g3 B6 Q6 P6 F6 O6 R6
      have x0 : V.cell? ⟨fb, 0, none⟩ = some (.string X.1) := B7.out.cell 0
      have x1 : V.cell? ⟨fb, 1, none⟩ = some (.string y) := B7.out.cell 1
      have x2 : V.cell? ⟨fb, 2, none⟩ = some (.int .i64 z) := B7.out.cell 2
      have x3 : V.cell? ⟨fb, 3, none⟩ = some (.string tx) := B7.out.cell 3
      have k2 : V.cell? ⟨q, 2, none⟩ = some (.slice a4 acc.length c4) := Q7.out.cell 2
      have hown' : V.ownsRow w.heap.size 31 4 (.slice a4 acc.length c4) acc.length (frow acc) := F7.out
      have hQz := Q7.out.lt
      have hOz := O7.out.size
      go_wp2_with (at_builtin; refine wpList_append_lies _ rfl _ _ 23 rfl w.heap.size 31 i0 (.agg #[.string ⟨#[]⟩, .string ⟨#[]⟩, .int .i64 0, .string ⟨#[]⟩]) 4 56 Tryz.underlying23 hi hy0 hy1 hy2 rfl (by decide) _ _ _ rfl (hown'.alloc _) ⟨V.heap.size, 0, none⟩ 1 1 (fcells ⟨X.1, y, z, tx⟩) rfl rfl ?c1 (fl_one _) (by decide) ?c4 ?c5 ?c6 (V.heap.size + 1) ?c7 ?_)
      case c1 => exact fun j u hj => World.news_of_block (heap_newB V _ _) j u (by simpa [fcells] using hj)
      case c4 => unfold maxLen; omega
      case c5 => omega
      case c6 => simp; omega
      case c7 => simp
      intro g7 c7 w7 hown7 hgrow hat hlt7
      have F8 : Hid (Fls w7 w.heap.size (.slice (some ⟨g7, 0, none⟩) (acc.length + 1) c7) (acc ++ [⟨X.1, y, z, tx⟩])) := fls_snoc hown7
      have n8 : g7 ≠ q ∧ g7 ≠ w.heap.size := by
        rcases hat with h | h
        · exact Nk.out g7 h
        · exact ⟨by omega, by omega⟩
      have b8 : Below w.heap.size V w7 := Below.grown (below1 _ _ |>.mono hOz) hgrow (by simp; omega) (fun g hg => (fls_own F7.out g hg).1)
      have Q8 : Hid (Blk q #[.string D.1, .string A.1, .slice a4 acc.length c4, .string ⟨#[]⟩] w7) := blk_grown (Q7.out.alloc _) hgrow (fun e => (Nk.out q e.symm).1 rfl)
      have P8 : Hid (Blk w.heap.size #[.string ⟨#[]⟩, .string ⟨#[]⟩, .slice none 0 0, .string ⟨#[]⟩] w7) := blk_grown (P7.out.alloc _) hgrow (fun e => (Nk.out _ e.symm).2 rfl)
      have R8 : Hid (RdAt w7 b cv B P2) := H.out.carry R7.out b8
      have O8 : Hid (Off b w w7) := off_belowN O7.out b8
      have k2' : w7.cell? ⟨q, 2, none⟩ = some (.slice a4 acc.length c4) := Q8.out.cell 2
      have f2' := Q8.out.free 2
      have Q9 : Hid (Blk q #[.string D.1, .string A.1, .slice (some ⟨g7, 0, none⟩) (acc.length + 1) c7, .string ⟨#[]⟩] (w7.setCell ⟨q, 2, none⟩ (.slice (some ⟨g7, 0, none⟩) (acc.length + 1) c7))) := Q8.out.set (i := 2) (by simp)
      have P9 : Hid (Blk w.heap.size #[.string ⟨#[]⟩, .string ⟨#[]⟩, .slice none 0 0, .string ⟨#[]⟩] (w7.setCell ⟨q, 2, none⟩ (.slice (some ⟨g7, 0, none⟩) (acc.length + 1) c7))) := P8.out.other (by omega)
      have F9 : Hid (Fls (w7.setCell ⟨q, 2, none⟩ (.slice (some ⟨g7, 0, none⟩) (acc.length + 1) c7)) w.heap.size (.slice (some ⟨g7, 0, none⟩) (acc.length + 1) c7) (acc ++ [⟨X.1, y, z, tx⟩])) := fls_setO F8.out (fun g hg => by simp only [Value.ownBlock, Option.some.injEq] at hg; omega) _
      have O9 : Hid (Off b w (w7.setCell ⟨q, 2, none⟩ (.slice (some ⟨g7, 0, none⟩) (acc.length + 1) c7))) := O8.out.setHi (by omega)
      have R9 : Hid (RdAt (w7.setCell ⟨q, 2, none⟩ (.slice (some ⟨g7, 0, none⟩) (acc.length + 1) c7)) b cv B P2) := H.out.carry R8.out ((Below.refl _ _).setCell (p := ⟨q, 2, none⟩) (by show w.heap.size ≤ q; omega) _)
      have e9 : ((n : Int) - 1) = (n1 : Int) := by have := HN1.out; omega
      have hn1 := HN1.out
      clear x0 x1 x2 x3 k2 hown' hown7 hgrow hat b8 Q7 P7 F7 O7 R7 Q8 P8 R8 O8 F8 B7
      go_wp2
      go_roundw
      case rel => exact ⟨n1, P2, acc ++ [⟨X.1, y, z, tx⟩], some ⟨g7, 0, none⟩, c7, by first | rfl | go_num, by omega, by simp; omega, R9, by simpa using Q9, P9, by simpa using F9, (fun g hg => by simp only [Value.ownBlock, Option.some.injEq] at hg; exact hg ▸ n8), HG2, O9⟩
      case measure => simp [intOf]; omega
    · obtain rfl : n = 0 := by omega
      have EF : Hid (F = (acc, pp)) := by have := Gk.out; rw [fltGo] at this; exact this.symm
      obtain ⟨p1, hp1⟩ : ∃ p1, px B pp = p1 := ⟨_, rfl⟩
      obtain ⟨Y, hY⟩ : ∃ Y, bodF B p1 = Y := ⟨_, rfl⟩
      obtain ⟨PZ, hPZ⟩ : ∃ PZ, Y.2 = PZ := ⟨_, rfl⟩
      obtain ⟨h0, hh0⟩ : ∃ h0, headB Y.1 = h0 := ⟨_, rfl⟩
      obtain ⟨c, hcE⟩ : ∃ c, nx B pp = c := ⟨_, rfl⟩
      obtain ⟨m, hmE⟩ : ∃ m, c % 4 = m := ⟨_, rfl⟩
      obtain ⟨HD, hHD⟩ : ∃ HD, hdGo m 0 h0 = HD := ⟨_, rfl⟩
      have hm3 : m ≤ 3 := by omega
      have hmi : (c : Int) % 4 = (m : Int) := by omega
      have zY : Y.1.size ≤ 4000 := by rw [← hY]; exact bodF_size B p1
      have zh0 : h0.size ≤ 16020 := by rw [← hh0]; exact head_zB zY
      have HRES : Hid (bncF B p = (⟨D.1, A.1, acc, HD⟩, PZ)) := by
        show _ = _
        unfold bncF
        rw [HD0.out, HA.out, HF.out, EF.out]
        dsimp only
        rw [hp1, hY, hcE, hmE, hh0, hHD, hPZ]
      have HNX : Hid (∀ wx : World, RdAt wx b cv B pp → Calls Tryz.prog 10 #[.pointer (some ⟨b, 0, none⟩)] wx fun e w' => e = .returned (.int .i64 c) ∧ RdAt w' b cv B p1 ∧ Off b wx w') := fun wx hx => by rw [← hcE, ← hp1]; exact rdNext b pp cv B wx hx
      have HBO : Hid (∀ wx : World, RdAt wx b cv B p1 → Calls Tryz.prog 31 #[.pointer (some ⟨b, 0, none⟩)] wx fun e w' => e = .returned (.string Y.1) ∧ RdAt w' b cv B PZ ∧ Off b wx w') := fun wx hx => by rw [← hPZ, ← hY]; exact rdBodyX b p1 cv B wx hx
      have HHE : Hid (∀ wx : World, Calls Tryz.prog 30 #[.string Y.1] wx fun e w' => e = .returned (.string h0) ∧ Below wx.heap.size wx w') := fun wx => by rw [← hh0]; exact specHeaders Y.1 wx (by omega)
      have HHD0 : Hid (hdGo m 0 h0 = HD) := hHD
      have HM : Hid (c % 4 = m) := hmE
      have hcl : c < 256 := by rw [← hcE]; exact nx_lt B pp
      clear hp1 hY hPZ hh0 hcE hmE hHD EF Gk HF HA HD0
      go_wp2_with fail
      refine (HNX.out _ Rk.out).mono ?_
      rintro e w5 ⟨rfl, h5, o5⟩
      have R5 : Hid (RdAt w5 b cv B p1) := h5
      have Q5 : Hid (Blk q #[.string D.1, .string A.1, .slice a4 acc.length c4, .string ⟨#[]⟩] w5) := Qk.out.offB o5 nqb
      have P5 : Hid (Blk w.heap.size #[.string ⟨#[]⟩, .string ⟨#[]⟩, .slice none 0 0, .string ⟨#[]⟩] w5) := Pk.out.offB o5 npb
      have F5 : Hid (Fls w5 w.heap.size (.slice a4 acc.length c4) acc) := fls_off Fk.out o5 (fun g hg => by have := (fls_own Fk.out g hg).1; omega)
      have O5 : Hid (Off b w w5) := Ok.out.trans o5
      clear h5 o5 HNX Rk Qk Pk Fk Ok
      go_wp2_with fail
      refine (HBO.out _ R5.out).mono ?_
      rintro e w6 ⟨rfl, h6, o6⟩
      have R6 : Hid (RdAt w6 b cv B PZ) := h6
      have Q6 : Hid (Blk q #[.string D.1, .string A.1, .slice a4 acc.length c4, .string ⟨#[]⟩] w6) := Q5.out.offB o6 nqb
      have P6 : Hid (Blk w.heap.size #[.string ⟨#[]⟩, .string ⟨#[]⟩, .slice none 0 0, .string ⟨#[]⟩] w6) := P5.out.offB o6 npb
      have F6 : Hid (Fls w6 w.heap.size (.slice a4 acc.length c4) acc) := fls_off F5.out o6 (fun g hg => by have := (fls_own F5.out g hg).1; omega)
      have O6 : Hid (Off b w w6) := O5.out.trans o6
      clear h6 o6 HBO R5 Q5 P5 F5 O5
      go_wp2_with fail
      refine (HHE.out _).mono ?_
      rintro e w7 ⟨rfl, b7⟩
      have R7 : Hid (RdAt w7 b cv B PZ) := R6.out.below b7 (Nat.le_refl _)
      have Q7 : Hid (Blk q #[.string D.1, .string A.1, .slice a4 acc.length c4, .string ⟨#[]⟩] w7) := Q6.out.below b7
      have P7 : Hid (Blk w.heap.size #[.string ⟨#[]⟩, .string ⟨#[]⟩, .slice none 0 0, .string ⟨#[]⟩] w7) := P6.out.below b7
      have F7 : Hid (Fls w7 w.heap.size (.slice a4 acc.length c4) acc) := fls_below F6.out b7 (Nat.le_refl _)
      have O7 : Hid (Off b w w7) := O6.out.trans (Off.of_below b7)
      clear b7 HHE R6 Q6 P6 F6 O6
      have c3 : w7.cell? ⟨q, 3, none⟩ = some (.string ⟨#[]⟩) := Q7.out.cell 3
      have g3 := Q7.out.free 3
      go_wp2_with fail
      generalize hV : w7.setCell _ _ = V
      have R8 : Hid (RdAt V b cv B PZ) := H.out.carry R7.out (by rw [← hV]; exact (Below.refl _ _).setCell (p := ⟨q, 3, none⟩) (by show w.heap.size ≤ q; omega) _)
      have Q8 : Hid (Blk q #[.string D.1, .string A.1, .slice a4 acc.length c4, .string h0] V) := by show Blk _ _ _; rw [← hV]; exact Q7.out.set (i := 3) (by simp)
      have P8 : Hid (Blk w.heap.size #[.string ⟨#[]⟩, .string ⟨#[]⟩, .slice none 0 0, .string ⟨#[]⟩] V) := by show Blk _ _ _; rw [← hV]; exact P7.out.other (by omega)
      have F8 : Hid (Fls V w.heap.size (.slice a4 acc.length c4) acc) := by show Fls _ _ _ _; rw [← hV]; exact fls_setO F7.out (fun g hg => (Nk.out g hg).1) _
      have O8 : Hid (Off b w V) := by show Off _ _ _; rw [← hV]; exact O7.out.setHi (by omega)
      clear hV c3 g3 R7 Q7 P7 F7 O7
      go_loopw [8] (fun iv wr => ∃ (i k : Nat) (h : ByteArray), iv = .int .i64 i ∧ Hid (i + k = m) ∧ i ≤ m ∧ h.size ≤ 16020 + i * 100 ∧ Hid (hdGo k i h = HD) ∧ Hid (RdAt wr b cv B PZ) ∧ Hid (Blk q #[.string D.1, .string A.1, .slice a4 acc.length c4, .string h] wr) ∧ Hid (Blk w.heap.size #[.string ⟨#[]⟩, .string ⟨#[]⟩, .slice none 0 0, .string ⟨#[]⟩] wr) ∧ Hid (Fls wr w.heap.size (.slice a4 acc.length c4) acc) ∧ Hid (Off b w wr)) (fun iv _ => 3 - (intOf iv).toNat)
      case atStart => exact ⟨0, m, h0, rfl, (by show _ = _; omega), Nat.zero_le _, by omega, HHD0, R8, Q8, P8, F8, O8⟩
      case round =>
        obtain ⟨wq, hwq⟩ : ∃ wq : World, wq = wr := ⟨wr, rfl⟩
        obtain ⟨i, k, h, rfl, HKi, him, zh, HGk, Rh, Qh, Ph, Fh, Oh⟩ := hrel
        subst hwq
        clear R8 Q8 P8 F8 O8
        by_cases hlt : i < m
        · obtain ⟨k1, hk1⟩ : ∃ k1, k = k1 + 1 := ⟨k - 1, by have := HKi.out; omega⟩
          have HK1 : Hid (k = k1 + 1) := hk1
          have hlti : (i : Int) < (m : Int) := by omega
          obtain ⟨dd, hdd⟩ : ∃ dd : ByteArray, ⟨(Lib.decDigits i).toArray⟩ = dd := ⟨_, rfl⟩
          have zdd : dd.size = 1 := by rw [← hdd, Lib.decDigits_one (by omega)]; rfl
          have HDC : Hid (∀ wx : World, Calls Tryz.prog 19 #[.int .i64 (i : Int)] wx fun e w' => e = .returned (.string dd) ∧ Below wx.heap.size wx w') := fun wx => by rw [← hdd]; exact specDec i i (Nat.le_refl _) (by omega) wx
          have q1 : (⟨#[45, 45, 98]⟩ : ByteArray).size = 3 := rfl
          have q2 : (⟨#[13, 10]⟩ : ByteArray).size = 2 := rfl
          obtain ⟨s1, hs1⟩ : ∃ s1, (⟨#[45, 45, 98]⟩ : ByteArray) ++ dd = s1 := ⟨_, rfl⟩
          obtain ⟨s2, hs2⟩ : ∃ s2, s1 ++ (⟨#[13, 10]⟩ : ByteArray) = s2 := ⟨_, rfl⟩
          obtain ⟨s3, hs3⟩ : ∃ s3, h ++ s2 = s3 := ⟨_, rfl⟩
          have y1 : s1.size = 4 := by rw [← hs1, ByteArray.size_append]; omega
          have y2 : s2.size = 6 := by rw [← hs2, ByteArray.size_append]; omega
          have y3 : s3.size ≤ 16020 + (i + 1) * 100 := by rw [← hs3, ByteArray.size_append]; omega
          have ha1 : ∀ wx : World, (Op.stringOp .add (⟨#[45, 45, 98]⟩ : ByteArray) dd).run Tryz.prog wx = .ok (.string s1) wx := fun wx => by rw [← hs1]; exact run_string_add_sum wx _ _ (by omega)
          have ha2 : ∀ wx : World, (Op.stringOp .add s1 (⟨#[13, 10]⟩ : ByteArray)).run Tryz.prog wx = .ok (.string s2) wx := fun wx => by rw [← hs2]; exact run_string_add_sum wx _ _ (by omega)
          have ha3 : ∀ wx : World, (Op.stringOp .add h s2).run Tryz.prog wx = .ok (.string s3) wx := fun wx => by rw [← hs3]; exact run_string_add_sum wx _ _ (by omega)
          have HG1 : Hid (hdGo k1 (i + 1) s3 = HD) := by
            show _ = _
            have := HGk.out
            rw [hk1, hdGo, hdd, hs1, hs2, hs3] at this
            exact this
          clear hs1 hs2 hs3 hdd hk1 HGk q1 q2 y1 y2
          go_upto_region 15 with fail
          refine wp_region_held_drew (S := fun _ => True) (by kernel_rfl) trivial (fun hHeld => ?_)
          have Rh : Hid (RdAt wq.drew b cv B PZ) := Rh.out.below (Below.refl wq.heap.size wq).drew (Nat.le_refl _)
          have Qh : Hid (Blk q #[.string D.1, .string A.1, .slice a4 acc.length c4, .string h] wq.drew) := Qh.out.below (Below.refl wq.heap.size wq).drew
          have Ph : Hid (Blk w.heap.size #[.string ⟨#[]⟩, .string ⟨#[]⟩, .slice none 0 0, .string ⟨#[]⟩] wq.drew) := Ph.out.below (Below.refl wq.heap.size wq).drew
          have Fh : Hid (Fls wq.drew w.heap.size (.slice a4 acc.length c4) acc) := fls_below Fh.out (Below.refl wq.heap.size wq).drew (Nat.le_refl _)
          have Oh : Hid (Off b w wq.drew) := Oh.out.trans (Off.of_below (Below.refl wq.heap.size wq).drew)
          generalize wq.drew = y0 at hHeld Rh Qh Ph Fh Oh ⊢
          refine wpAnyH_take (i := 0) (oi := { dst := some 61, op := Op.fieldAddr 25 (Operand.tmp 3) 3, type := 0, pos := "l5_bounce.go:169", after := #[], guard := none }) (v := .pointer (some ⟨q, 3, none⟩)) rfl (by kernel_rfl) (by kernel_rfl) (by kernel_rfl) (fun _ _ _ h => h) (Or.inl ⟨by rfl, fun wz hSw => ?_⟩) hHeld ?_
          · clear hHeld hSw
            go_simp
          simp only [Act.put, List.setIfInBounds_toArray, List.set_cons_zero, List.set_cons_succ]
          refine wpAnyH_take (i := 2) (oi := { dst := some 63, op := Op.move (Operand.tmp 8), type := 3, pos := "l5_bounce.go:169", after := #[], guard := none }) (v := .int .i64 (i : Int)) rfl (by kernel_rfl) (by kernel_rfl) (by kernel_rfl) (fun _ _ _ h => h) (Or.inl ⟨by rfl, fun wz hSw => ?_⟩) hHeld ?_
          · clear hHeld hSw
            go_simp
          simp only [Act.put, List.setIfInBounds_toArray, List.set_cons_zero, List.set_cons_succ]
          refine wpAnyH_ready (rs := [1, 3]) (by kernel_rfl) (by simp) ?_
          refine AllReadyH.cons rfl (fun K hK => ?_) (AllReadyH.cons rfl (fun K hK => ?_) AllReadyH.nil)
          · clear hHeld
            have c3 : y0.cell? ⟨q, 3, none⟩ = some (.string h) := Qh.out.cell 3
            go_simp
            refine hK.out _ _ trivial (fun hHeld => ?_)
            clear hK K c3
            try simp only [Act.put, List.setIfInBounds_toArray, List.set_cons_zero, List.set_cons_succ]
            refine wpAnyH_ready (rs := [3]) (by kernel_rfl) (by simp) ?_
            refine AllReadyH.cons rfl (fun K hK => ?_) AllReadyH.nil
            clear hHeld
            go_simp
            go_at_call 19
            refine (HDC.out _).mono ?_
            rintro e y1 ⟨rfl, b1⟩
            have Rh : Hid (RdAt y1 b cv B PZ) := Rh.out.below b1 (Nat.le_refl _)
            have Qh : Hid (Blk q #[.string D.1, .string A.1, .slice a4 acc.length c4, .string h] y1) := Qh.out.below b1
            have Ph : Hid (Blk w.heap.size #[.string ⟨#[]⟩, .string ⟨#[]⟩, .slice none 0 0, .string ⟨#[]⟩] y1) := Ph.out.below b1
            have Fh : Hid (Fls y1 w.heap.size (.slice a4 acc.length c4) acc) := fls_below Fh.out b1 (Nat.le_refl _)
            have Oh : Hid (Off b w y1) := Oh.out.trans (Off.of_below b1)
            refine hK.out _ _ trivial (fun hHeld => ?_)
            clear hK K b1
            try simp only [Act.put, List.setIfInBounds_toArray, List.set_cons_zero, List.set_cons_succ]
            refine wpAnyH_take (i := 4) (oi := { dst := some 65, op := Op.binOp BinOp.add 9 (Operand.const (Value.string { data := #[45, 45, 98] })) (Operand.tmp 64) 9, type := 9, pos := "l5_bounce.go:169", after := #[{ on := 3, ground := Ground.data }], guard := none }) (v := .string s1) rfl (by kernel_rfl) (by kernel_rfl) (by kernel_rfl) (fun _ _ _ h => h) (Or.inl ⟨by rfl, fun wz hSw => ?_⟩) hHeld ?_
            · clear hHeld hSw
              go_simp
            simp only [Act.put, List.setIfInBounds_toArray, List.set_cons_zero, List.set_cons_succ]
            refine wpAnyH_take (i := 5) (oi := { dst := some 66, op := Op.binOp BinOp.add 9 (Operand.tmp 65) (Operand.const (Value.string { data := #[13, 10] })) 9, type := 9, pos := "l5_bounce.go:169", after := #[{ on := 4, ground := Ground.data }], guard := none }) (v := .string s2) rfl (by kernel_rfl) (by kernel_rfl) (by kernel_rfl) (fun _ _ _ h => h) (Or.inl ⟨by rfl, fun wz hSw => ?_⟩) hHeld ?_
            · clear hHeld hSw
              go_simp
            simp only [Act.put, List.setIfInBounds_toArray, List.set_cons_zero, List.set_cons_succ]
            refine wpAnyH_take (i := 6) (oi := { dst := some 67, op := Op.binOp BinOp.add 9 (Operand.tmp 62) (Operand.tmp 66) 9, type := 9, pos := "l5_bounce.go:169", after := #[{ on := 1, ground := Ground.data }, { on := 5, ground := Ground.data }], guard := none }) (v := .string s3) rfl (by kernel_rfl) (by kernel_rfl) (by kernel_rfl) (fun _ _ _ h => h) (Or.inl ⟨by rfl, fun wz hSw => ?_⟩) hHeld ?_
            · clear hHeld hSw
              go_simp
            simp only [Act.put, List.setIfInBounds_toArray, List.set_cons_zero, List.set_cons_succ]
            refine wpAnyH_take (i := 7) (oi := { dst := some 68, op := Op.fieldAddr 25 (Operand.tmp 3) 3, type := 0, pos := "l5_bounce.go:169", after := #[{ on := 0, ground := Ground.phase }, { on := 1, ground := Ground.phase }, { on := 2, ground := Ground.phase }, { on := 3, ground := Ground.phase }, { on := 4, ground := Ground.phase }, { on := 5, ground := Ground.phase }, { on := 6, ground := Ground.phase }], guard := none }) (v := .pointer (some ⟨q, 3, none⟩)) rfl (by kernel_rfl) (by kernel_rfl) (by kernel_rfl) (fun _ _ _ h => h) (Or.inl ⟨by rfl, fun wz hSw => ?_⟩) hHeld ?_
            · clear hHeld hSw
              go_simp
            simp only [Act.put, List.setIfInBounds_toArray, List.set_cons_zero, List.set_cons_succ]
            refine wpAnyH_ready (rs := [8]) (by kernel_rfl) (by simp) ?_
            refine AllReadyH.cons rfl (fun K hK => ?_) AllReadyH.nil
            have c3 : y1.cell? ⟨q, 3, none⟩ = some (.string h) := Qh.out.cell 3
            have f3 := Qh.out.free 3
            clear hHeld
            go_simp
            refine hK.out _ _ trivial (fun hHeld => ?_)
            clear hK K hHeld
            try simp only [Act.put, List.setIfInBounds_toArray, List.set_cons_zero, List.set_cons_succ]
            refine wpAnyH_done (by kernel_rfl) ?_ _
            generalize hV : y1.setCell _ _ = y8
            have Rn : Hid (RdAt y8 b cv B PZ) := H.out.carry Rh.out (by rw [← hV]; exact (Below.refl _ _).setCell (p := ⟨q, 3, none⟩) (by show w.heap.size ≤ q; omega) _)
            have Qn : Hid (Blk q #[.string D.1, .string A.1, .slice a4 acc.length c4, .string s3] y8) := by show Blk _ _ _; rw [← hV]; exact Qh.out.set (i := 3) (by simp)
            have Pn : Hid (Blk w.heap.size #[.string ⟨#[]⟩, .string ⟨#[]⟩, .slice none 0 0, .string ⟨#[]⟩] y8) := by show Blk _ _ _; rw [← hV]; exact Ph.out.other (by omega)
            have Fn : Hid (Fls y8 w.heap.size (.slice a4 acc.length c4) acc) := by show Fls _ _ _ _; rw [← hV]; exact fls_setO Fh.out (fun g hg => (Nk.out g hg).1) _
            have On : Hid (Off b w y8) := by show Off _ _ _; rw [← hV]; exact Oh.out.setHi (by omega)
            clear hV c3 f3
            go_simp
            go_wp2
            go_roundw
            case rel => exact ⟨i + 1, k1, s3, by go_num, (by have := HKi.out; have := HK1.out; show _ = _; omega), by omega, by have := HKi.out; have := HK1.out; omega, HG1, Rn, Qn, Pn, Fn, On⟩
            case measure => simp [intOf]; omega
          · clear hHeld
            go_simp
            go_at_call 19
            refine (HDC.out _).mono ?_
            rintro e y1 ⟨rfl, b1⟩
            have Rh : Hid (RdAt y1 b cv B PZ) := Rh.out.below b1 (Nat.le_refl _)
            have Qh : Hid (Blk q #[.string D.1, .string A.1, .slice a4 acc.length c4, .string h] y1) := Qh.out.below b1
            have Ph : Hid (Blk w.heap.size #[.string ⟨#[]⟩, .string ⟨#[]⟩, .slice none 0 0, .string ⟨#[]⟩] y1) := Ph.out.below b1
            have Fh : Hid (Fls y1 w.heap.size (.slice a4 acc.length c4) acc) := fls_below Fh.out b1 (Nat.le_refl _)
            have Oh : Hid (Off b w y1) := Oh.out.trans (Off.of_below b1)
            refine hK.out _ _ trivial (fun hHeld => ?_)
            clear hK K b1
            try simp only [Act.put, List.setIfInBounds_toArray, List.set_cons_zero, List.set_cons_succ]
            refine wpAnyH_take (i := 4) (oi := { dst := some 65, op := Op.binOp BinOp.add 9 (Operand.const (Value.string { data := #[45, 45, 98] })) (Operand.tmp 64) 9, type := 9, pos := "l5_bounce.go:169", after := #[{ on := 3, ground := Ground.data }], guard := none }) (v := .string s1) rfl (by kernel_rfl) (by kernel_rfl) (by kernel_rfl) (fun _ _ _ h => h) (Or.inl ⟨by rfl, fun wz hSw => ?_⟩) hHeld ?_
            · clear hHeld hSw
              go_simp
            simp only [Act.put, List.setIfInBounds_toArray, List.set_cons_zero, List.set_cons_succ]
            refine wpAnyH_take (i := 5) (oi := { dst := some 66, op := Op.binOp BinOp.add 9 (Operand.tmp 65) (Operand.const (Value.string { data := #[13, 10] })) 9, type := 9, pos := "l5_bounce.go:169", after := #[{ on := 4, ground := Ground.data }], guard := none }) (v := .string s2) rfl (by kernel_rfl) (by kernel_rfl) (by kernel_rfl) (fun _ _ _ h => h) (Or.inl ⟨by rfl, fun wz hSw => ?_⟩) hHeld ?_
            · clear hHeld hSw
              go_simp
            simp only [Act.put, List.setIfInBounds_toArray, List.set_cons_zero, List.set_cons_succ]
            refine wpAnyH_ready (rs := [1]) (by kernel_rfl) (by simp) ?_
            refine AllReadyH.cons rfl (fun K hK => ?_) AllReadyH.nil
            clear hHeld
            have c3 : y1.cell? ⟨q, 3, none⟩ = some (.string h) := Qh.out.cell 3
            go_simp
            refine hK.out _ _ trivial (fun hHeld => ?_)
            clear hK K c3
            try simp only [Act.put, List.setIfInBounds_toArray, List.set_cons_zero, List.set_cons_succ]
            refine wpAnyH_take (i := 6) (oi := { dst := some 67, op := Op.binOp BinOp.add 9 (Operand.tmp 62) (Operand.tmp 66) 9, type := 9, pos := "l5_bounce.go:169", after := #[{ on := 1, ground := Ground.data }, { on := 5, ground := Ground.data }], guard := none }) (v := .string s3) rfl (by kernel_rfl) (by kernel_rfl) (by kernel_rfl) (fun _ _ _ h => h) (Or.inl ⟨by rfl, fun wz hSw => ?_⟩) hHeld ?_
            · clear hHeld hSw
              go_simp
            simp only [Act.put, List.setIfInBounds_toArray, List.set_cons_zero, List.set_cons_succ]
            refine wpAnyH_take (i := 7) (oi := { dst := some 68, op := Op.fieldAddr 25 (Operand.tmp 3) 3, type := 0, pos := "l5_bounce.go:169", after := #[{ on := 0, ground := Ground.phase }, { on := 1, ground := Ground.phase }, { on := 2, ground := Ground.phase }, { on := 3, ground := Ground.phase }, { on := 4, ground := Ground.phase }, { on := 5, ground := Ground.phase }, { on := 6, ground := Ground.phase }], guard := none }) (v := .pointer (some ⟨q, 3, none⟩)) rfl (by kernel_rfl) (by kernel_rfl) (by kernel_rfl) (fun _ _ _ h => h) (Or.inl ⟨by rfl, fun wz hSw => ?_⟩) hHeld ?_
            · clear hHeld hSw
              go_simp
            simp only [Act.put, List.setIfInBounds_toArray, List.set_cons_zero, List.set_cons_succ]
            refine wpAnyH_ready (rs := [8]) (by kernel_rfl) (by simp) ?_
            refine AllReadyH.cons rfl (fun K hK => ?_) AllReadyH.nil
            have c3 : y1.cell? ⟨q, 3, none⟩ = some (.string h) := Qh.out.cell 3
            have f3 := Qh.out.free 3
            clear hHeld
            go_simp
            refine hK.out _ _ trivial (fun hHeld => ?_)
            clear hK K hHeld
            try simp only [Act.put, List.setIfInBounds_toArray, List.set_cons_zero, List.set_cons_succ]
            refine wpAnyH_done (by kernel_rfl) ?_ _
            generalize hV : y1.setCell _ _ = y8
            have Rn : Hid (RdAt y8 b cv B PZ) := H.out.carry Rh.out (by rw [← hV]; exact (Below.refl _ _).setCell (p := ⟨q, 3, none⟩) (by show w.heap.size ≤ q; omega) _)
            have Qn : Hid (Blk q #[.string D.1, .string A.1, .slice a4 acc.length c4, .string s3] y8) := by show Blk _ _ _; rw [← hV]; exact Qh.out.set (i := 3) (by simp)
            have Pn : Hid (Blk w.heap.size #[.string ⟨#[]⟩, .string ⟨#[]⟩, .slice none 0 0, .string ⟨#[]⟩] y8) := by show Blk _ _ _; rw [← hV]; exact Ph.out.other (by omega)
            have Fn : Hid (Fls y8 w.heap.size (.slice a4 acc.length c4) acc) := by show Fls _ _ _ _; rw [← hV]; exact fls_setO Fh.out (fun g hg => (Nk.out g hg).1) _
            have On : Hid (Off b w y8) := by show Off _ _ _; rw [← hV]; exact Oh.out.setHi (by omega)
            clear hV c3 f3
            go_simp
            go_wp2
            go_roundw
            case rel => exact ⟨i + 1, k1, s3, by go_num, (by have := HKi.out; have := HK1.out; show _ = _; omega), by omega, by have := HKi.out; have := HK1.out; omega, HG1, Rn, Qn, Pn, Fn, On⟩
            case measure => simp [intOf]; omega
        · have hk0 : k = 0 := by have := HKi.out; omega
          have hlti : ¬ (i : Int) < (m : Int) := by omega
          have HH : Hid (h = HD) := by have := HGk.out; rw [hk0, hdGo] at this; exact this
          have x0 : wq.cell? ⟨q, 0, none⟩ = some (.string D.1) := Qh.out.cell 0
          have x1 : wq.cell? ⟨q, 1, none⟩ = some (.string A.1) := Qh.out.cell 1
          have x2 : wq.cell? ⟨q, 2, none⟩ = some (.slice a4 acc.length c4) := Qh.out.cell 2
          have x3 : wq.cell? ⟨q, 3, none⟩ = some (.string h) := Qh.out.cell 3
          have p0 : wq.cell? ⟨w.heap.size, 0, none⟩ = some (.string ⟨#[]⟩) := Ph.out.cell 0
          have p1' : wq.cell? ⟨w.heap.size, 1, none⟩ = some (.string ⟨#[]⟩) := Ph.out.cell 1
          have p2 : wq.cell? ⟨w.heap.size, 2, none⟩ = some (.slice none 0 0) := Ph.out.cell 2
          have p3 : wq.cell? ⟨w.heap.size, 3, none⟩ = some (.string ⟨#[]⟩) := Ph.out.cell 3
          have t0 := Ph.out.free 0
          have t1 := Ph.out.free 1
          have t2 := Ph.out.free 2
          have t3 := Ph.out.free 3
          clear hk0 HGk
          go_wp2
          generalize hV : (((wq.setCell ⟨w.heap.size, 0, none⟩ (.string D.1)).setCell ⟨w.heap.size, 1, none⟩ (.string A.1)).setCell ⟨w.heap.size, 2, none⟩ (.slice a4 acc.length c4)).setCell ⟨w.heap.size, 3, none⟩ (.string h) = Wf
          have PF : Blk w.heap.size #[.string D.1, .string A.1, .slice a4 acc.length c4, .string h] Wf := by
            rw [← hV]
            exact (((Ph.out.set (i := 0) (by simp)).set (i := 1) (by simp)).set (i := 2) (by simp)).set (i := 3) (by simp)
          have OF : Off b w Wf := by rw [← hV]; exact (((Oh.out.setHi (Nat.le_refl _)).setHi (Nat.le_refl _)).setHi (Nat.le_refl _)).setHi (Nat.le_refl _)
          have FF : Fls Wf w.heap.size (.slice a4 acc.length c4) acc := by
            rw [← hV]
            exact fls_setO (fls_setO (fls_setO (fls_setO Fh.out (fun g hg => (Nk.out g hg).2) _) (fun g hg => (Nk.out g hg).2) _) (fun g hg => (Nk.out g hg).2) _) (fun g hg => (Nk.out g hg).2) _
          have RF : RdAt Wf b cv B PZ := by
            rw [← hV]
            exact H.out.carry Rh.out (((((Below.refl w.heap.size _).setCell (p := ⟨w.heap.size, 0, none⟩) (Nat.le_refl _) _).setCell (p := ⟨w.heap.size, 1, none⟩) (Nat.le_refl _) _).setCell (p := ⟨w.heap.size, 2, none⟩) (Nat.le_refl _) _).setCell (p := ⟨w.heap.size, 3, none⟩) (Nat.le_refl _) _)
          clear hV
          have r0 : Wf.cell? ⟨w.heap.size, 0, none⟩ = some (.string D.1) := PF.cell 0
          have r1 : Wf.cell? ⟨w.heap.size, 1, none⟩ = some (.string A.1) := PF.cell 1
          have r2 : Wf.cell? ⟨w.heap.size, 2, none⟩ = some (.slice a4 acc.length c4) := PF.cell 2
          have r3 : Wf.cell? ⟨w.heap.size, 3, none⟩ = some (.string h) := PF.cell 3
          refine bodyPost_ret (v := .agg #[.string D.1, .string A.1, .slice a4 acc.length c4, .string h]) (by simp [results, Tryz.results11, go_sem, r0, r1, r2, r3]) rfl ?_
          rw [HRES.out, HH.out]
          exact ⟨⟨_, rfl, FF⟩, RF, OF⟩
end Go.Proofs.YtlolnfpfipnfeaaGreatDoor
