import Derived.Test.YticfnfplpccmgacDoorICompact
import Derived.Deep.RegionWith
import Derived.Deep.DrawnRows
namespace Go.Proofs.YticfnfplpccmgacDoor
open Go.ChangeShapes Go.WideShapes Go.ChangeAt Go.RowKit
attribute [local go_sem ↓] Go.wp_at_zero Go.wp_at_succ

set_option maxRecDepth 100000 in
theorem compactRest1 (n : Int) (h : n = 1) (F m l t x : ByteArray) (hh : Bool) : Value.agg #[.string (cM F m (stepsN n)), .string (cL l (stepsN n)), .bool (cH hh (stepsN n)), .string (cT F t (stepsN n)), .string (cX F x (stepsN n))] = .agg #[.string m, .string l, .bool true, .string ⟨#[]⟩, .string F] := by subst h; rfl
theorem compactRest2 (n : Int) (h : n = 2) (F m l t x : ByteArray) (hh : Bool) : Value.agg #[.string (cM F m (stepsN n)), .string (cL l (stepsN n)), .bool (cH hh (stepsN n)), .string (cT F t (stepsN n)), .string (cX F x (stepsN n))] = .agg #[.string m, .string l, .bool true, .string F, .string ⟨#[]⟩] := by subst h; rfl
theorem compactRest3 (n : Int) (h : 3 ≤ n) (F m l t x : ByteArray) (hh : Bool) : Value.agg #[.string (cM F m (stepsN n)), .string (cL l (stepsN n)), .bool (cH hh (stepsN n)), .string (cT F t (stepsN n)), .string (cX F x (stepsN n))] = .agg #[.string F, .string ⟨#[]⟩, .bool false, .string ⟨#[]⟩, .string ⟨#[]⟩] := by
  have e : stepsN n = 3 := by rw [stepsN, if_neg (by omega), if_neg (by omega)]
  rw [e]; rfl
set_option maxRecDepth 100000 in
theorem compactRest0 (n : Int) (h : n < 1) (F m l t x : ByteArray) (hh : Bool) : Value.agg #[.string (cM F m (stepsN n)), .string (cL l (stepsN n)), .bool (cH hh (stepsN n)), .string (cT F t (stepsN n)), .string (cX F x (stepsN n))] = .agg #[.string m, .string l, .bool hh, .string t, .string x] := by
  have e : stepsN n = 0 := by rw [stepsN, if_pos h]
  rw [e]; rfl

set_option maxHeartbeats 2000000 in
set_option maxRecDepth 100000 in
theorem specCompact (m l t x F : ByteArray) (h : Bool) (v : Value) (L : List ByteArray) (n : Int) (w : World) (hF : framesB L = F) (hA : ArgS w v L) (hsum : L.length + sumSz L ≤ 1048576) :
    Calls Tryd.prog 21 #[.agg #[.string m, .string l, .bool h, .string t, .string x], v, .int .i64 n] w fun e w' => e = .returned (.agg #[.string (cM F m (stepsN n)), .string (cL l (stepsN n)), .bool (cH h (stepsN n)), .string (cT F t (stepsN n)), .string (cX F x (stepsN n))]) ∧ Below w.heap.size w w' := by
  by_cases hn : n < 1
  · obtain ⟨_, _, hform⟩ := hA
    obtain ⟨a, c, k, rfl⟩ : ∃ a c k, v = .slice a k c := by
      rcases hform with ⟨_, a, c, rfl⟩ | ⟨b, off, cap, rfl, _⟩
      · exact ⟨_, _, _, rfl⟩
      · exact ⟨_, _, _, rfl⟩
    clear hform
    go_enter Tryd.func21, Tryd.ntmps21
    go_wp2
    exact bodyPost_ret (v := .agg #[.string m, .string l, .bool h, .string t, .string x]) (by simp [results, Tryd.results21, go_sem]) rfl ⟨congrArg Ending.returned (compactRest0 n hn F m l t x h).symm, below2 _ _ _⟩
  · have HA : Hid (ArgS w v L) := hA
    have HF : Hid (framesB L = F) := hF
    have hL : L.length ≤ 1048576 := by omega
    have HD0 : Hid (TwoD ((w.alloc (.cells #[.string m, .string l, .bool true, .string ⟨#[]⟩, .string ⟨#[]⟩] 25)).alloc (.cells #[.string ⟨#[]⟩, .string ⟨#[]⟩, .bool false, .string ⟨#[]⟩, .string ⟨#[]⟩] 25)) w.heap.size m l true ⟨#[]⟩ (framesB (L.take 0))) := by
      obtain ⟨a, b, c, d⟩ := two_disks (Below.refl (w.heap.size + 1 + 1) ((w.alloc (.cells #[.string m, .string l, .bool true, .string ⟨#[]⟩, .string ⟨#[]⟩] 25)).alloc (.cells #[.string ⟨#[]⟩, .string ⟨#[]⟩, .bool false, .string ⟨#[]⟩, .string ⟨#[]⟩] 25)))
      exact ⟨a, b, c, d, by simp⟩
    clear hA hF
    obtain ⟨_, _, hform⟩ := HA.out
    obtain ⟨ao, cap, rfl⟩ : ∃ ao cap, v = .slice ao L.length cap := by
      rcases hform with ⟨rfl, a, c, rfl⟩ | ⟨b, off, cap, rfl, _⟩
      · exact ⟨_, _, rfl⟩
      · exact ⟨_, _, rfl⟩
    clear hform
    go_enter Tryd.func21, Tryd.ntmps21
    go_wp2
    go_loopw [8, 16] (fun _ i wr => ∃ k : Nat, k ≤ L.length ∧ i = .int .i64 k ∧ Hid (TwoD wr w.heap.size m l true ⟨#[]⟩ (framesB (L.take k))) ∧ Below w.heap.size w wr) (fun _ i _ => L.length - (intOf i).toNat)
    case atStart => exact ⟨0, Nat.zero_le _, rfl, HD0, below2 _ _ _⟩
    case round =>
      obtain ⟨k, hk, rfl, HD, hb⟩ := hrel
      by_cases hlt : k < L.length
      · obtain ⟨b, off, hao, hbl, hcell⟩ : ∃ b off, ao = some ⟨b, off, none⟩ ∧ b < wr.heap.size ∧ wr.cell? ⟨b, off + k, none⟩ = some (.string L[k]) := by
          obtain ⟨_, _, hf⟩ := HA.out.below hb
          rcases hf with ⟨rfl, _⟩ | ⟨b, off, cap', hv, hbl, hc⟩
          · cases hlt
          · injection hv with h1 _ _
            exact ⟨b, off, h1, hbl, hc k hlt⟩
        have hX : L[k].size ≤ 1048576 := by
          have h1 := sumSz_take L k hlt
          have h2 := sumSz_take_le L (k + 1)
          omega
        have hfl : (framesB (L.take k)).size ≤ 9437184 := by
          have h1 := framesB_size (L.take k)
          have h2 := sumSz_take_le L k
          have h3 : (L.take k).length ≤ k := List.length_take_le _ _
          omega
        have HS : Hid (framesB (L.take (k + 1)) = framesB (L.take k) ++ frameB L[k]) := framesB_step L k hlt
        generalize L[k] = X at hcell hX HS
        generalize framesB (L.take k) = Y at hfl HS HD
        have hfs := frameB_size X
        obtain ⟨⟨c0, c1, c2, c3, c4⟩, _, f0, f1, hsz⟩ := HD.out
        subst hao
        go_wp2_with fail
        go_region_with (go_at_call 26; refine (specFrame X _ hX).mono ?_; rintro e w1 ⟨rfl, hb1⟩; obtain ⟨⟨e0, e1, e2, e3, e4⟩, _, g0, g1, hsz1⟩ := HD.out.below (of_drew hb1) hsz)
        all_goals
          have D1 : TwoD w1 w.heap.size m l true ⟨#[]⟩ Y := HD.out.below (of_drew hb1) hsz
          clear c0 c1 c2 c3 c4 e0 e1 e2 e3 e4 g0 g1 f0 f1
          go_wp2
          go_roundw
          case rel =>
            refine ⟨k + 1, by omega, by go_num, ?_, ?_⟩
            · show TwoD _ _ _ _ _ _ _
              rw [HS.out]
              exact D1.mk ((diskAt_set D1.1).2.2.2.2 _) (diskAt_far D1.2.1 (by omega)) (fun a => by simp) (by simp)
            · exact (hb.trans ((of_drew hb1).mono hb.size)).setCell (p := ⟨w.heap.size, 4, none⟩) (Nat.le_refl _) _
          case measure => simp [intOf]; omega
      · obtain rfl : k = L.length := by omega
        have HD' : TwoD wr w.heap.size m l true ⟨#[]⟩ F := by
          have e := HD.out
          rw [List.take_length, HF.out] at e
          exact e
        obtain ⟨⟨c0, c1, c2, c3, c4⟩, ⟨d0, d1, d2, d3, d4⟩, f0, f1, hsz⟩ := HD'
        by_cases hn1 : n = 1
        · have n2 : ¬ 2 ≤ n := by omega
          have n3 : ¬ 3 ≤ n := by omega
          have HN : Hid (n = 1) := hn1
          clear hn1
          go_wp2
          refine bodyPost_ret (v := .agg #[.string m, .string l, .bool true, .string ⟨#[]⟩, .string F]) (by simp [results, Tryd.results21, go_sem, d0, d1, d2, d3, d4]) rfl ⟨congrArg Ending.returned (compactRest1 n HN.out F m l t x h).symm, ?_⟩
          repeat (refine Below.setCell ?_ (by simp) _)
          exact hb
        · by_cases hn2 : n = 2
          · have n2 : 2 ≤ n := by omega
            have n3 : ¬ 3 ≤ n := by omega
            have HN : Hid (n = 2) := hn2
            clear hn2 hn1
            go_wp2
            refine bodyPost_ret (v := .agg #[.string m, .string l, .bool true, .string F, .string ⟨#[]⟩]) (by simp [results, Tryd.results21, go_sem, d0, d1, d2, d3, d4]) rfl ⟨congrArg Ending.returned (compactRest2 n HN.out F m l t x h).symm, ?_⟩
            repeat (refine Below.setCell ?_ (by simp) _)
            exact hb
          · have n2 : 2 ≤ n := by omega
            have n3 : 3 ≤ n := by omega
            clear hn1 hn2
            go_wp2
            refine bodyPost_ret (v := .agg #[.string F, .string ⟨#[]⟩, .bool false, .string ⟨#[]⟩, .string ⟨#[]⟩]) (by simp [results, Tryd.results21, go_sem, d0, d1, d2, d3, d4]) rfl ⟨congrArg Ending.returned (compactRest3 n n3 F m l t x h).symm, ?_⟩
            repeat (refine Below.setCell ?_ (by simp) _)
            exact hb
end Go.Proofs.YticfnfplpccmgacDoor
