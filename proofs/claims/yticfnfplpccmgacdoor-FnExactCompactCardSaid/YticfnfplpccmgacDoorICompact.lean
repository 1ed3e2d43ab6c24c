import Derived.Test.YticfnfplpccmgacDoorCStep
namespace Go.Proofs.YticfnfplpccmgacDoor
open Go.ChangeShapes Go.WideShapes Go.ChangeAt Go.RowKit

/-- the fields of a disk behind k steps of a compaction to the text F -/
def cM (F m : ByteArray) (k : Nat) : ByteArray := if 3 ≤ k then F else m
def cL (l : ByteArray) (k : Nat) : ByteArray := if 3 ≤ k then ⟨#[]⟩ else l
def cH (h : Bool) (k : Nat) : Bool := if k = 0 then h else if 3 ≤ k then false else true
def cT (F t : ByteArray) (k : Nat) : ByteArray := if k = 0 then t else if k = 2 then F else ⟨#[]⟩
def cX (F x : ByteArray) (k : Nat) : ByteArray := if k = 0 then x else if k = 1 then F else ⟨#[]⟩
/-- how many steps are done -/
def stepsN (n : Int) : Nat := if n < 1 then 0 else if n < 3 then n.toNat else 3
set_option maxRecDepth 100000 in
theorem stepsN_eq (n : Int) (k : Nat) (h1 : k ≤ 3) (h2 : k = 0 ∨ (k : Int) ≤ n) (h3 : ¬ (k < 3 ∧ (k : Int) + 1 ≤ n)) : k = stepsN n := by
  unfold stepsN
  split
  · omega
  · split <;> omega

set_option maxRecDepth 100000 in
theorem stepAny (m l t x F : ByteArray) (h : Bool) (v : Value) (L : List ByteArray) (k : Nat) (w : World) (hk : k < 3) (hF : framesB L = F) (hA : ArgS w v L) (hsum : L.length + sumSz L ≤ 1048576) (ht : TabIn w) :
    Calls Tryd.prog 39 #[.agg #[.string (cM F m k), .string (cL l k), .bool (cH h k), .string (cT F t k), .string (cX F x k)], v, .int .i64 ((k : Int) + 1)] w fun e w' => e = .returned (.agg #[.string (cM F m (k + 1)), .string (cL l (k + 1)), .bool (cH h (k + 1)), .string (cT F t (k + 1)), .string (cX F x (k + 1))]) ∧ Below w.heap.size w w' := by
  match k, hk with
  | 0, _ =>
    refine (step1 m l t x h v L w hA hsum ht).mono ?_
    rw [hF]
    exact fun e w' q => q
  | 1, _ => exact step2 m l ⟨#[]⟩ F true v w
  | 2, _ => exact step3 m l F ⟨#[]⟩ true v w

set_option maxHeartbeats 1000000 in
set_option maxRecDepth 100000 in
theorem implCompact (m l t x F : ByteArray) (h : Bool) (v : Value) (L : List ByteArray) (n : Int) (w : World) (hF : framesB L = F) (hA : ArgS w v L) (hsum : L.length + sumSz L ≤ 1048576) (ht : TabIn w) :
    Calls Tryd.prog 23 #[.agg #[.string m, .string l, .bool h, .string t, .string x], v, .int .i64 n] w fun e w' => e = .returned (.agg #[.string (cM F m (stepsN n)), .string (cL l (stepsN n)), .bool (cH h (stepsN n)), .string (cT F t (stepsN n)), .string (cX F x (stepsN n))]) ∧ Below w.heap.size w w' := by
  have HT : Hid (TabIn w) := ht
  have HA : Hid (ArgS w v L) := hA
  have HF : Hid (framesB L = F) := hF
  have HD0 : Hid (TwoD ((w.alloc (.cells #[.string m, .string l, .bool h, .string t, .string x] 25)).alloc (.cells #[.string ⟨#[]⟩, .string ⟨#[]⟩, .bool false, .string ⟨#[]⟩, .string ⟨#[]⟩] 25)) w.heap.size (cM F m 0) (cL l 0) (cH h 0) (cT F t 0) (cX F x 0)) := by
    obtain ⟨a, b, c, d⟩ := two_disks (Below.refl (w.heap.size + 1 + 1) ((w.alloc (.cells #[.string m, .string l, .bool h, .string t, .string x] 25)).alloc (.cells #[.string ⟨#[]⟩, .string ⟨#[]⟩, .bool false, .string ⟨#[]⟩, .string ⟨#[]⟩] 25)))
    exact ⟨a, b, c, d, by simp⟩
  clear ht hA hF
  go_enter Tryd.func23, Tryd.ntmps23
  go_wp2
  go_loopw [7] (fun s wr => ∃ k : Nat, k ≤ 3 ∧ s = .int .i64 ((k : Int) + 1) ∧ (k = 0 ∨ (k : Int) ≤ n) ∧ Hid (TwoD wr w.heap.size (cM F m k) (cL l k) (cH h k) (cT F t k) (cX F x k)) ∧ Below w.heap.size w wr) (fun s _ => 4 - (intOf s).toNat)
  case atStart => exact ⟨0, by decide, rfl, .inl rfl, HD0, below2 _ _ _⟩
  case round =>
    obtain ⟨k, hk, rfl, hkn, HD, hb⟩ := hrel
    by_cases hgo : k < 3 ∧ (k : Int) + 1 ≤ n
    · obtain ⟨h3, hn⟩ := hgo
      obtain ⟨⟨c0, c1, c2, c3, c4⟩, _, _, _, hsz⟩ := HD.out
      have h3i : (k : Int) + 1 ≤ 3 := by omega
      go_wp2_with fail
      clear c0 c1 c2 c3 c4
      refine (stepAny m l t x F h v L k _ h3 HF.out (HA.out.below hb) hsum (tab_below HT.out hb)).mono ?_
      rintro e w1 ⟨rfl, hb1⟩
      have HD1 : Hid (TwoD w1 w.heap.size (cM F m k) (cL l k) (cH h k) (cT F t k) (cX F x k)) := HD.out.below hb1 hsz
      obtain ⟨⟨c0, c1, c2, c3, c4⟩, _, f0, f1, hsz1⟩ := HD1.out
      go_wp2
      go_roundw
      case rel =>
        refine ⟨k + 1, by omega, by go_num, .inr (by omega), ?_, ?_⟩
        · show TwoD _ _ _ _ _ _ _
          refine HD1.out.mk (diskAt_set5 HD1.out.1 (cM F m (k + 1)) (cL l (k + 1)) (cH h (k + 1)) (cT F t (k + 1)) (cX F x (k + 1))) ?_ (fun a => by simp) (by simp)
          exact diskAt_far (diskAt_far (diskAt_far (diskAt_far (diskAt_far HD1.out.2.1 (by omega)) (by omega)) (by omega)) (by omega)) (by omega)
        · have g := hb.trans (hb1.mono hb.size)
          repeat (refine Below.setCell ?_ (by simp) _)
          exact g
      case measure => simp [intOf]; omega
    · have HE : Hid (k = stepsN n) := stepsN_eq n k hk hkn hgo
      obtain ⟨⟨c0, c1, c2, c3, c4⟩, ⟨d0, d1, d2, d3, d4⟩, f0, f1, hsz⟩ := HD.out
      by_cases h3 : k < 3
      · have hn : ¬ (k : Int) + 1 ≤ n := by omega
        have h3i : (k : Int) + 1 ≤ 3 := by omega
        go_wp2
        refine bodyPost_ret (v := .agg #[.string (cM F m k), .string (cL l k), .bool (cH h k), .string (cT F t k), .string (cX F x k)]) (by simp [results, Tryd.results23, go_sem, d0, d1, d2, d3, d4]) rfl ⟨by rw [← HE.out], ?_⟩
        repeat (refine Below.setCell ?_ (by simp) _)
        exact hb
      · have h3i : ¬ (k : Int) + 1 ≤ 3 := by omega
        go_wp2
        refine bodyPost_ret (v := .agg #[.string (cM F m k), .string (cL l k), .bool (cH h k), .string (cT F t k), .string (cX F x k)]) (by simp [results, Tryd.results23, go_sem, d0, d1, d2, d3, d4]) rfl ⟨by rw [← HE.out], ?_⟩
        repeat (refine Below.setCell ?_ (by simp) _)
        exact hb
end Go.Proofs.YticfnfplpccmgacDoor
