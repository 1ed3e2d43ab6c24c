import Derived.Test.YtnbbhegcijogiaaDoorRtI
namespace Go.Proofs.YtnbbhegcijogiaaDoor
open Go.ChangeShapes Go.WideShapes Go.ChangeAt Go.RowKit
attribute [local go_sem ↓] Go.wp_at_zero Go.wp_at_succ

theorem ahd_pref {a b : Mx} {seed : Nat} (h : a.1 ≠ b.1) : decide (Ahd (rkOf seed a) (rkOf seed b)) = decide (a.1 < b.1) := by
  refine decide_eq_decide.2 ⟨?_, fun h1 => .inl h1⟩
  rintro (h1 | ⟨h1, _⟩)
  · exact h1
  · exact absurd h1 h
theorem ahd_tie {a b : Mx} {seed : Nat} (h : a.1 = b.1) (h2 : tieOf seed a.2 ≠ tieOf seed b.2) : decide (Ahd (rkOf seed a) (rkOf seed b)) = decide (tieOf seed a.2 < tieOf seed b.2) := by
  refine decide_eq_decide.2 ⟨?_, fun h1 => .inr ⟨h, .inl h1⟩⟩
  rintro (h1 | ⟨_, h1 | ⟨h1, _⟩⟩)
  · exact absurd h1 (by show ¬ a.1 < b.1; omega)
  · exact h1
  · exact absurd h1 h2
theorem ahd_host {a b : Mx} {seed : Nat} (h : a.1 = b.1) (h2 : tieOf seed a.2 = tieOf seed b.2) : decide (Ahd (rkOf seed a) (rkOf seed b)) = Op.bytesLess a.2.toList b.2.toList := by
  rw [bytesLess_lt]
  refine decide_eq_decide.2 ⟨?_, fun h1 => .inr ⟨h, .inr ⟨h2, h1⟩⟩⟩
  rintro (h1 | ⟨_, h1 | ⟨_, h1⟩⟩)
  · exact absurd h1 (by show ¬ a.1 < b.1; omega)
  · exact absurd h1 (by show ¬ tieOf seed a.2 < tieOf seed b.2; omega)
  · exact h1

set_option maxHeartbeats 4000000 in
set_option maxRecDepth 100000 in
theorem specAhead (a b : Mx) (seed : Nat) (w : World) (ha : a.2.size ≤ 1048576) (hb : b.2.size ≤ 1048576) (hseed : seed < 4294967296) :
    Calls Tryd.prog 28 #[.agg #[.int .i64 a.1, .string a.2], .agg #[.int .i64 b.1, .string b.2], .int .u32 seed] w fun e w' => e = .returned (.bool (decide (Ahd (rkOf seed a) (rkOf seed b)))) ∧ Below w.heap.size w w' := by
  have HP : Hid (a.1 ≠ b.1 → decide (Ahd (rkOf seed a) (rkOf seed b)) = decide (a.1 < b.1)) := ahd_pref
  have HT : Hid (a.1 = b.1 → tieOf seed a.2 ≠ tieOf seed b.2 → decide (Ahd (rkOf seed a) (rkOf seed b)) = decide (tieOf seed a.2 < tieOf seed b.2)) := ahd_tie
  have HH : Hid (a.1 = b.1 → tieOf seed a.2 = tieOf seed b.2 → decide (Ahd (rkOf seed a) (rkOf seed b)) = Op.bytesLess a.2.toList b.2.toList) := ahd_host
  obtain ⟨a1, a2⟩ := a
  obtain ⟨b1, b2⟩ := b
  dsimp only at *
  generalize decide (Ahd (rkOf seed (a1, a2)) (rkOf seed (b1, b2))) = R at *
  by_cases hp : a1 = b1
  case neg =>
    have hpb : (a1 == b1) = false := beq_eq_false_iff_ne.2 hp
    have G : Hid (R = decide (a1 < b1)) := HP.out hp
    go_enter Tryd.func28, Tryd.ntmps28
    go_wp2
    go_ret
    exact ⟨ret_bool G.out.symm, below2 _ _ _⟩
  subst hp
  have hw4 := word_size seed
  have HTE : Hid (∀ h : ByteArray, (Crc.crc ((⟨(word seed).toArray⟩ : ByteArray) ++ h).data.toList : Int) = tieOf seed h) := tie_eq seed
  have HIW0 : ∀ wx : World, Calls Tryd.prog 48 #[.int .u32 (seed : Int)] wx fun e w' => e = .returned (.string ⟨(word seed).toArray⟩) ∧ Below wx.heap.size wx w' := fun wx => specWord seed hseed wx
  generalize (⟨(word seed).toArray⟩ : ByteArray) = WS at *
  have HIW : Hid (∀ wx : World, Calls Tryd.prog 48 #[.int .u32 (seed : Int)] wx fun e w' => e = .returned (.string WS) ∧ Below wx.heap.size wx w') := HIW0
  have hsa : WS.size + a2.size ≤ 9223372036854775807 := by omega
  have hsb : WS.size + b2.size ≤ 9223372036854775807 := by omega
  have hadda : ∀ wx : World, (Op.stringOp .add WS a2).run Tryd.prog wx = .ok (.string (WS ++ a2)) wx := fun wx => run_string_add_sum wx WS a2 hsa
  have haddb : ∀ wx : World, (Op.stringOp .add WS b2).run Tryd.prog wx = .ok (.string (WS ++ b2)) wx := fun wx => run_string_add_sum wx WS b2 hsb
  have HCA : Hid (∀ wx : World, Calls Tryd.prog 47 #[.string (WS ++ a2)] wx fun e w' => e = .returned (.int .u32 (tieOf seed a2)) ∧ w' = wx) := fun wx => by
    have := specCrc (WS ++ a2) wx (by unfold maxLen; rw [ByteArray.size_append]; omega)
    rw [HTE.out] at this
    exact this
  have HCB : Hid (∀ wx : World, Calls Tryd.prog 47 #[.string (WS ++ b2)] wx fun e w' => e = .returned (.int .u32 (tieOf seed b2)) ∧ w' = wx) := fun wx => by
    have := specCrc (WS ++ b2) wx (by unfold maxLen; rw [ByteArray.size_append]; omega)
    rw [HTE.out] at this
    exact this
  clear HIW0 hw4 HP HTE
  go_enter Tryd.func28, Tryd.ntmps28
  go_upto_region 3 with fail
  generalize hW : (w.alloc _).alloc _ = W
  have c0 : W.cell? ⟨w.heap.size, 1, none⟩ = some (.string a2) := by rw [← hW]; exact World.cell?_alloc2_first _ _ _ _
  have d0 : W.cell? ⟨w.heap.size + 1, 1, none⟩ = some (.string b2) := by rw [← hW]; exact World.cell?_alloc2_new _ _ _ _
  have hbW : Hid (Below w.heap.size w W) := by show Below _ _ _; rw [← hW]; exact below2 _ _ _
  have hWz : w.heap.size + 1 < W.heap.size := by rw [← hW]; simp
  clear hW
  generalize hBX : w.heap.size = bx at *
  have HBX : Hid (w.heap.size = bx) := hBX
  clear hBX
  go_region_held3 (fun w' => w'.cell? ⟨bx, 1, none⟩ = some (.string a2) ∧ w'.cell? ⟨bx + 1, 1, none⟩ = some (.string b2)) (first | assumption | (exact ⟨k0, k1⟩) | go_keep) (first | (go_at_call 48; refine (HIW.out _).mono ?_; rintro e w5 ⟨rfl, hb5⟩; have HB5 : Hid (Below W.heap.size W w5) := ((Below.refl W.heap.size W).drew).trans hb5; have k0 := (HB5.out.cell (p := ⟨bx, 1, none⟩) (by show bx < _; omega)).trans c0; have k1 := (HB5.out.cell (p := ⟨bx + 1, 1, none⟩) hWz).trans d0; clear hb5) | (go_at_call 47; refine (HCA.out _).mono ?_; rintro e w6 ⟨rfl, hw6⟩; rw [hw6]))
  have hz5 := HB5.out.size
  clear c0 d0
  go_upto_region 4 with fail
  go_region_held3 (fun w' => w'.cell? ⟨bx, 1, none⟩ = some (.string a2) ∧ w'.cell? ⟨bx + 1, 1, none⟩ = some (.string b2)) (first | assumption | (exact ⟨l0, l1⟩) | go_keep) (first | (go_at_call 48; refine (HIW.out _).mono ?_; rintro e w7 ⟨rfl, hb7⟩; have HB7 : Hid (Below w5.heap.size w5 w7) := ((Below.refl w5.heap.size w5).drew).trans hb7; have l0 := (HB7.out.cell (p := ⟨bx, 1, none⟩) (by show bx < _; omega)).trans k0; have l1 := (HB7.out.cell (p := ⟨bx + 1, 1, none⟩) (by show bx + 1 < _; omega)).trans k1; clear hb7) | (go_at_call 47; refine (HCB.out _).mono ?_; rintro e w8 ⟨rfl, hw8⟩; rw [hw8]))
  have HBE : Hid (Below bx w w7) := (hbW.out.trans (HB5.out.mono (by omega))).trans (HB7.out.mono (by omega))
  clear k0 k1 HIW HCA HCB hadda haddb
  by_cases ht : tieOf seed a2 = tieOf seed b2
  · have G : Hid (R = Op.bytesLess a2.toList b2.toList) := HH.out (by first | rfl | trivial) ht
    rw [ht]
    clear HT HH
    generalize tieOf seed b2 = T at *
    go_wp2
    go_ret
    exact ⟨ret_bool G.out.symm, by rw [HBX.out]; exact HBE.out⟩
  · have G : Hid (R = decide (tieOf seed a2 < tieOf seed b2)) := HT.out (by first | rfl | trivial) ht
    clear HT HH
    generalize tieOf seed a2 = T at *
    generalize tieOf seed b2 = U at *
    have htb : (T == U) = false := beq_eq_false_iff_ne.2 ht
    go_wp2
    go_ret
    exact ⟨ret_bool G.out.symm, by rw [HBX.out]; exact HBE.out⟩
end Go.Proofs.YtnbbhegcijogiaaDoor
