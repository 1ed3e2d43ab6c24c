import Derived.Test.YticfnfplpccmgadDoorSpecUn
import Derived.Test.YticfnfplpccmgadDoorImplUn
import Derived.Test.YticfnfplpccmgadDoorDisk
namespace Go.Proofs.YticfnfplpccmgadDoor
open Go.ChangeShapes Go.WideShapes Go.ChangeAt Go.RowKit

set_option maxHeartbeats 1000000 in
set_option maxRecDepth 100000 in
theorem specMount (m l t x : ByteArray) (h : Bool) (w : World) (hm : m.size ≤ 1048576) :
    Calls Tryd.prog 17 #[.agg #[.string m, .string l, .bool h, .string t, .string x]] w fun e w' => (∃ v, e = .returned (.tuple #[.agg #[.string (m.extract 0 (unfr m).2), .string ⟨#[]⟩, .bool false, .string ⟨#[]⟩, .string ⟨#[]⟩], v]) ∧ Strs w' w.heap.size v (unfr m).1) ∧ Below w.heap.size w w' := by
  have hu := (unfr_len m).2
  go_enter Tryd.func17, Tryd.ntmps17
  go_wp2_with fail
  refine (specUnframe m _ hm).mono ?_
  rintro e w1 ⟨⟨v, rfl, S1⟩, hb1⟩
  have hb1' : Below (w.heap.size + 1 + 1) (((w.alloc (.cells #[.string m, .string l, .bool h, .string t, .string x] 33)).alloc (.cells #[.string ⟨#[]⟩, .string ⟨#[]⟩, .bool false, .string ⟨#[]⟩, .string ⟨#[]⟩] 33))) w1 := by simpa using hb1
  obtain ⟨⟨c0, c1, c2, c3, c4⟩, ⟨d0, d1, d2, d3, d4⟩, f0, f1⟩ := two_disks hb1'
  have hz : w.heap.size + 1 + 1 ≤ w1.heap.size := by have := hb1'.size; simpa using this
  have hw : Below w.heap.size w w1 := (below2 w _ _).trans (hb1'.mono (by omega))
  have S1' : Strs w1 (w.heap.size + 1 + 1) v (unfr m).1 := by simpa using S1
  have hui : ((unfr m).2 : Int) ≤ (m.size : Int) := by omega
  clear hb1 hb1' S1
  go_wp2
  refine bodyPost_ret (v := .tuple #[.agg #[.string (m.extract 0 (unfr m).2), .string ⟨#[]⟩, .bool false, .string ⟨#[]⟩, .string ⟨#[]⟩], v]) (by simp [results, Tryd.results17, go_sem, d0, d1, d2, d3, d4]) rfl ⟨⟨v, rfl, ?_⟩, ?_⟩
  · refine strs_le (lo := w.heap.size + 1 + 1) ?_ (by omega)
    repeat (refine strs_setCell ?_ (by show w.heap.size + 1 < _; omega) _)
    exact S1'
  · repeat (refine Below.setCell ?_ (by show w.heap.size ≤ w.heap.size + 1; omega) _)
    exact hw
set_option maxHeartbeats 1000000 in
set_option maxRecDepth 100000 in
theorem implMount (m l t x : ByteArray) (h : Bool) (w : World) (hm : m.size ≤ 1048576) (tb : TabIn w) :
    Calls Tryd.prog 19 #[.agg #[.string m, .string l, .bool h, .string t, .string x]] w fun e w' => (∃ v, e = .returned (.tuple #[.agg #[.string (m.extract 0 (unfr m).2), .string ⟨#[]⟩, .bool false, .string ⟨#[]⟩, .string ⟨#[]⟩], v]) ∧ Strs w' w.heap.size v (unfr m).1) ∧ Below w.heap.size w w' := by
  have hu := (unfr_len m).2
  have HT : Hid (TabIn (((w.alloc (.cells #[.string m, .string l, .bool h, .string t, .string x] 33)).alloc (.cells #[.string ⟨#[]⟩, .string ⟨#[]⟩, .bool false, .string ⟨#[]⟩, .string ⟨#[]⟩] 33)))) := tab_below tb (below2 w _ _)
  clear tb
  go_enter Tryd.func19, Tryd.ntmps19
  go_wp2_with fail
  refine (implUnframe m _ hm HT.out).mono ?_
  rintro e w1 ⟨⟨v, rfl, S1⟩, hb1⟩
  have hb1' : Below (w.heap.size + 1 + 1) (((w.alloc (.cells #[.string m, .string l, .bool h, .string t, .string x] 33)).alloc (.cells #[.string ⟨#[]⟩, .string ⟨#[]⟩, .bool false, .string ⟨#[]⟩, .string ⟨#[]⟩] 33))) w1 := by simpa using hb1
  obtain ⟨⟨c0, c1, c2, c3, c4⟩, ⟨d0, d1, d2, d3, d4⟩, f0, f1⟩ := two_disks hb1'
  have hz : w.heap.size + 1 + 1 ≤ w1.heap.size := by have := hb1'.size; simpa using this
  have hw : Below w.heap.size w w1 := (below2 w _ _).trans (hb1'.mono (by omega))
  have S1' : Strs w1 (w.heap.size + 1 + 1) v (unfr m).1 := by simpa using S1
  have hui : ((unfr m).2 : Int) ≤ (m.size : Int) := by omega
  clear hb1 hb1' S1
  go_wp2
  refine bodyPost_ret (v := .tuple #[.agg #[.string (m.extract 0 (unfr m).2), .string ⟨#[]⟩, .bool false, .string ⟨#[]⟩, .string ⟨#[]⟩], v]) (by simp [results, Tryd.results19, go_sem, d0, d1, d2, d3, d4]) rfl ⟨⟨v, rfl, ?_⟩, ?_⟩
  · refine strs_le (lo := w.heap.size + 1 + 1) ?_ (by omega)
    repeat (refine strs_setCell ?_ (by show w.heap.size + 1 < _; omega) _)
    exact S1'
  · repeat (refine Below.setCell ?_ (by show w.heap.size ≤ w.heap.size + 1; omega) _)
    exact hw
end Go.Proofs.YticfnfplpccmgadDoor
