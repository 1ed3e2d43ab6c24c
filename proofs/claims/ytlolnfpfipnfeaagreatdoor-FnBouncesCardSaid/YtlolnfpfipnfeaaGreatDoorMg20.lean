import Derived.Test.YtlolnfpfipnfeaaGreatDoorMg8
import Derived.WalkKit
import Derived.ProofKit
import Derived.WalkLawsBesides
import Derived.Deep.RegionWith
namespace Go.Proofs.YtlolnfpfipnfeaaGreatDoor
open Go.ChangeShapes Go.WideShapes Go.ChangeAt Go.RowKit

set_option maxHeartbeats 400000 in
set_option maxRecDepth 100000 in
theorem implKeep (s : ByteArray) (n : Int) (w : World) (hs : s.size ≤ 1048576) :
    Calls Tryz.prog 76 #[.string s, .int .i64 n] w fun e w' => e = .returned (.string (keepB s n)) ∧ w' = w := by
  by_cases c1 : n < 0
  · go_enter Tryz.func76, Tryz.ntmps76
    go_wp2
    go_ret
    exact ⟨ret_str (keepB_neg s n c1).symm, rfl⟩
  · by_cases c2 : (s.size : Int) < n
    · go_enter Tryz.func76, Tryz.ntmps76
      go_wp2
      all_goals
        go_ret
        refine ⟨ret_str ?_, rfl⟩
      · exact (keepB_big s n c1 c2).symm
      · rw [keepB_big s n c1 c2]; exact (empty_ofK s (by omega)).symm
    · go_enter Tryz.func76, Tryz.ntmps76
      go_wp2
      all_goals
        go_ret
        refine ⟨ret_str ?_, rfl⟩
      · exact (keepB_mid s n c1 c2).symm
      · rw [keepB_mid s n c1 c2]; exact (empty_ofK _ (by rw [ByteArray.size_extract]; omega)).symm
end Go.Proofs.YtlolnfpfipnfeaaGreatDoor
