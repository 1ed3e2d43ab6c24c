import Derived.Test.YticfnfplpccmgadDoorSteps
namespace Go.Proofs.YticfnfplpccmgadDoor
open Go.ChangeShapes Go.WideShapes Go.ChangeAt Go.RowKit

set_option maxHeartbeats 1000000 in
set_option maxRecDepth 100000 in
theorem step1 (m l t x : ByteArray) (h : Bool) (v : Value) (L : List ByteArray) (w : World) (hA : ArgS w v L) (hsum : L.length + sumSz L ≤ 1048576) (ht : TabIn w) :
    Calls Tryd.prog 55 #[.agg #[.string m, .string l, .bool h, .string t, .string x], v, .int .i64 1] w fun e w' => e = .returned (.agg #[.string m, .string l, .bool true, .string ⟨#[]⟩, .string (framesB L)]) ∧ Below w.heap.size w w' := by
  have HT : Hid (TabIn ((w.alloc (.cells #[.string m, .string l, .bool h, .string t, .string x] 33)).alloc (.cells #[.string ⟨#[]⟩, .string ⟨#[]⟩, .bool false, .string ⟨#[]⟩, .string ⟨#[]⟩] 33))) := tab_below ht (below2 w _ _)
  have HA : Hid (ArgS ((w.alloc (.cells #[.string m, .string l, .bool h, .string t, .string x] 33)).alloc (.cells #[.string ⟨#[]⟩, .string ⟨#[]⟩, .bool false, .string ⟨#[]⟩, .string ⟨#[]⟩] 33)) v L) := hA.below (below2 w _ _)
  clear ht hA
  go_enter Tryd.func55, Tryd.ntmps55
  go_wp2_with fail
  refine (frameAll v L _ HA.out hsum HT.out).mono ?_
  rintro e w1 ⟨rfl, hb1⟩
  have hb1' : Below (w.heap.size + 1 + 1) ((w.alloc (.cells #[.string m, .string l, .bool h, .string t, .string x] 33)).alloc (.cells #[.string ⟨#[]⟩, .string ⟨#[]⟩, .bool false, .string ⟨#[]⟩, .string ⟨#[]⟩] 33)) w1 := by simpa using hb1
  obtain ⟨⟨c0, c1, c2, c3, c4⟩, ⟨d0, d1, d2, d3, d4⟩, f0, f1⟩ := two_disks hb1'
  have hz : w.heap.size + 1 + 1 ≤ w1.heap.size := by have := hb1'.size; simpa using this
  have hw : Below w.heap.size w w1 := (below2 w _ _).trans (hb1'.mono (by omega))
  clear hb1 hb1'
  go_wp2
  refine bodyPost_ret (v := .agg #[.string m, .string l, .bool true, .string ⟨#[]⟩, .string (framesB L)]) (by simp [results, Tryd.results55, go_sem, d0, d1, d2, d3, d4]) rfl ⟨rfl, ?_⟩
  repeat (refine Below.setCell ?_ (by simp) _)
  exact hw

set_option maxHeartbeats 1000000 in
set_option maxRecDepth 100000 in
theorem step2 (m l t x : ByteArray) (h : Bool) (v : Value) (w : World) :
    Calls Tryd.prog 55 #[.agg #[.string m, .string l, .bool h, .string t, .string x], v, .int .i64 2] w fun e w' => e = .returned (.agg #[.string m, .string l, .bool h, .string x, .string ⟨#[]⟩]) ∧ Below w.heap.size w w' := by
  go_enter Tryd.func55, Tryd.ntmps55
  go_wp2
  exact bodyPost_ret (v := .agg #[.string m, .string l, .bool h, .string x, .string ⟨#[]⟩]) (by simp [results, Tryd.results55, go_sem]) rfl ⟨rfl, below2 _ _ _⟩

set_option maxHeartbeats 1000000 in
set_option maxRecDepth 100000 in
theorem step3 (m l t x : ByteArray) (h : Bool) (v : Value) (w : World) :
    Calls Tryd.prog 55 #[.agg #[.string m, .string l, .bool h, .string t, .string x], v, .int .i64 3] w fun e w' => e = .returned (.agg #[.string t, .string ⟨#[]⟩, .bool false, .string ⟨#[]⟩, .string ⟨#[]⟩]) ∧ Below w.heap.size w w' := by
  go_enter Tryd.func55, Tryd.ntmps55
  go_wp2
  exact bodyPost_ret (v := .agg #[.string t, .string ⟨#[]⟩, .bool false, .string ⟨#[]⟩, .string ⟨#[]⟩]) (by simp [results, Tryd.results55, go_sem]) rfl ⟨rfl, below2 _ _ _⟩
end Go.Proofs.YticfnfplpccmgadDoor
