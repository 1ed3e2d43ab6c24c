import Derived.Test.YticfnfplpccmgadDoorFrame
import Derived.Test.YticfnfplpccmgadDoorDisk
import Derived.Deep.RegionWith
import Derived.Deep.DrawnRows
import Derived.Deep.DeepCutAuto
namespace Go.Proofs.YticfnfplpccmgadDoor
open Go.ChangeShapes Go.WideShapes Go.ChangeAt Go.RowKit
attribute [local go_sem ↓] Go.wp_at_zero Go.wp_at_succ

set_option maxHeartbeats 1000000 in
set_option maxRecDepth 100000 in
theorem implAppend (m l t x p : ByteArray) (h : Bool) (w : World) (hl : l.size ≤ 1048576) (hp : p.size ≤ 1048576) (ht : TabIn w) :
    Calls Tryd.prog 32 #[.agg #[.string m, .string l, .bool h, .string t, .string x], .string p] w fun e w' => e = .returned (.agg #[.string m, .string (l ++ frameB p), .bool h, .string t, .string x]) ∧ Below w.heap.size w w' := by
  have hfl := frameB_size p
  have HT : Hid (TabIn ((w.alloc (.cells #[.string m, .string l, .bool h, .string t, .string x] 33)).alloc (.cells #[.string ⟨#[]⟩, .string ⟨#[]⟩, .bool false, .string ⟨#[]⟩, .string ⟨#[]⟩] 33)).drew) := tab_below ht (below2 w _ _).drew
  clear ht
  go_enter Tryd.func32, Tryd.ntmps32
  go_upto_region 1 with fail
  go_cut [] (fun wx => ∃ w1 : World, Below (w.heap.size + 1 + 1) ((w.alloc (.cells #[.string m, .string l, .bool h, .string t, .string x] 33)).alloc (.cells #[.string ⟨#[]⟩, .string ⟨#[]⟩, .bool false, .string ⟨#[]⟩, .string ⟨#[]⟩] 33)) w1 ∧ wx = w1.setCell ⟨w.heap.size, 1, none⟩ (.string (l ++ frameB p)))
  case first =>
    go_region_with (go_at_call 67; refine (implFrame p _ (by omega) HT.out).mono ?_; rintro e w1 ⟨rfl, hb1⟩; obtain ⟨hc1, hf1⟩ := bcell hb1)
    all_goals (go_wp2_with fail; go_meet; exact ⟨_, Go.Proofs.YticfnfplpccmgadDoor.of_drew (by simpa using hb1), rfl⟩)
  case rest =>
  obtain ⟨w1, hb, rfl⟩ := hcut
  obtain ⟨⟨c0, c1, c2, c3, c4⟩, ⟨d0, d1, d2, d3, d4⟩, f0, f1⟩ := two_disks hb
  have hz : w.heap.size + 1 + 1 ≤ w1.heap.size := by have := hb.size; simpa using this
  have hw := (below2 w _ _).trans (hb.mono (by omega))
  go_wp2
  exact bodyPost_ret (v := .agg #[.string m, .string (l ++ frameB p), .bool h, .string t, .string x]) (by simp [results, Tryd.results32, go_sem, d0, d1, d2, d3, d4]) rfl ⟨rfl, by
    repeat (refine Below.setCell ?_ (by simp) _)
    exact hw⟩
end Go.Proofs.YticfnfplpccmgadDoor
