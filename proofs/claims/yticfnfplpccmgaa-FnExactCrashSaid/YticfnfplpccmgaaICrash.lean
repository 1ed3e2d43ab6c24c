import Derived.Test.YticfnfplpccmgaaKeep
import Derived.Deep.RegionWith
import Derived.Deep.DrawnRows
import Derived.Deep.DeepCutAuto
namespace Go.Proofs.Yticfnfplpccmgaa
open Go.ChangeShapes Go.WideShapes Go.ChangeAt Go.RowKit
attribute [local go_sem ↓] Go.wp_at_zero Go.wp_at_succ

set_option maxHeartbeats 1000000 in
set_option maxRecDepth 100000 in
theorem implCrash (m l t x : ByteArray) (h : Bool) (a b : Int) (w : World) (hm : m.size ≤ 1048576) (hl : l.size ≤ 1048576) (ht : t.size ≤ 1048576) (hx : x.size ≤ 1048576) :
    Calls Try.prog 17 #[.agg #[.string m, .string l, .bool h, .string t, .string x], .int .i64 a, .int .i64 b] w fun e w' => e = .returned (.agg #[.string (m ++ keepB l a), .string ⟨#[]⟩, .bool h, .string (t ++ keepB x b), .string ⟨#[]⟩]) ∧ Below w.heap.size w w' := by
  have k1 := keepB_size l a
  have k2 := keepB_size x b
  go_enter Try.func17, Try.ntmps17
  go_upto_region 1 with fail
  go_cut [] (fun wx => wx = ((w.alloc (.cells #[.string (m ++ keepB l a), .string ⟨#[]⟩, .bool h, .string t, .string x] 29)).alloc (.cells #[.string ⟨#[]⟩, .string ⟨#[]⟩, .bool false, .string ⟨#[]⟩, .string ⟨#[]⟩] 29)).drew)
  case first =>
    go_region_with (go_at_call 19; refine (implKeep _ _ _ (by omega)).mono ?_; rintro e w' ⟨rfl, rfl⟩)
    all_goals (go_wp2_with fail; go_meet; exact rfl)
  case rest =>
  obtain rfl := hcut
  go_upto_region 2 with fail
  go_cut [] (fun wx => wx = ((w.alloc (.cells #[.string (m ++ keepB l a), .string ⟨#[]⟩, .bool h, .string (t ++ keepB x b), .string ⟨#[]⟩] 29)).alloc (.cells #[.string ⟨#[]⟩, .string ⟨#[]⟩, .bool false, .string ⟨#[]⟩, .string ⟨#[]⟩] 29)).drew.drew)
  case first =>
    go_region_with (go_at_call 19; refine (implKeep _ _ _ (by omega)).mono ?_; rintro e w' ⟨rfl, rfl⟩)
    all_goals (go_wp2_with fail; go_meet; exact rfl)
  case rest =>
  obtain rfl := hcut
  go_wp2
  exact bodyPost_ret (v := .agg #[.string (m ++ keepB l a), .string ⟨#[]⟩, .bool h, .string (t ++ keepB x b), .string ⟨#[]⟩]) (by simp [results, Try.results17, go_sem]) rfl ⟨rfl, (below2 _ _ _).drew.drew⟩
end Go.Proofs.Yticfnfplpccmgaa
