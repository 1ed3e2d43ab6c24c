import Derived.Test.YtlolnfpfipnfeaaGreatMg44
import Derived.Test.YtlolnfpfipnfeaaGreatMg37
import Derived.Test.YtlolnfpfipnfeaaGreatMg42
import Derived.Test.YtlolnfpfipnfeaaGreatMg43
namespace Go.Proofs.YtlolnfpfipnfeaaGreat
open Go.ChangeShapes Go.WideShapes Go.ChangeAt Go.RowKit
attribute [local go_sem ↓] Go.wp_at_zero Go.wp_at_succ

set_option maxHeartbeats 4000000 in
set_option maxRecDepth 100000 in
theorem rightE1 (mid born : Int) (fr bo : ByteArray) (R : List ByteArray) (v : Value) (w : World) (h : ArgS w v R) (m1 : fr.size ≤ 1048576) (m2 : bo.size ≤ 1048576) (m3 : ∀ s ∈ R, s.size ≤ 1048576) (hl : LenIn w) :
    Calls Tryz.prog 90 #[.agg #[.int .i64 mid, .int .i64 born, .string fr, v, .string bo]] w fun e w' => e = .returned (.bool (idN mid && (decide (0 ≤ born) && (decide (born ≤ 20000000) && (whomN fr R && bodyOk bo))))) ∧ Below w.heap.size w w' := by
  have H : Hid (ArgS w v R) := h
  have HL : Hid (LenIn w) := hl
  have HS : Hid (∀ s ∈ R, s.size ≤ 1048576) := m3
  obtain ⟨a3, c3, rfl⟩ := args_formM h
  clear h hl m3
  obtain ⟨I, HI⟩ : ∃ I : Bool, Hid (idN mid = I) := ⟨_, rfl⟩
  obtain ⟨Q, HQ⟩ : ∃ Q : Bool, Hid ((whomN fr R && bodyOk bo) = Q) := ⟨_, rfl⟩
  rw [HI.out, HQ.out]
  by_cases c1 : ¬ 0 ≤ born
  · rw [decide_eq_false c1, Bool.false_and, Bool.and_false]
    go_enter Tryz.func90, Tryz.ntmps90
    go_wp2_with fail
    refine (implId mid _).mono ?_
    rw [HI.out]
    rintro e w1 ⟨rfl, hw⟩
    rw [hw]
    clear HI
    cases I
    · go_wp2
      go_ret
      exact ⟨rfl, below2 _ _ _⟩
    · go_wp2
      go_ret
      exact ⟨rfl, below2 _ _ _⟩
  replace c1 := Decidable.not_not.1 c1
  rw [decide_eq_true c1, Bool.true_and]
  by_cases c2 : ¬ born ≤ 20000000
  · rw [decide_eq_false c2, Bool.false_and, Bool.and_false]
    go_enter Tryz.func90, Tryz.ntmps90
    go_wp2_with fail
    refine (implId mid _).mono ?_
    rw [HI.out]
    rintro e w1 ⟨rfl, hw⟩
    rw [hw]
    clear HI
    cases I
    · go_wp2
      go_ret
      exact ⟨rfl, below2 _ _ _⟩
    · go_wp2
      go_ret
      exact ⟨rfl, below2 _ _ _⟩
  replace c2 := Decidable.not_not.1 c2
  rw [decide_eq_true c2, Bool.true_and]
  go_enter Tryz.func90, Tryz.ntmps90
  go_wp2_with fail
  generalize hW : World.alloc _ _ = W0
  have HM0 : Hid (Blk (w.heap.size + 1) #[.int .i64 mid, .int .i64 born, .string fr, .slice a3 R.length c3, .string bo] W0) := by
    show Blk _ _ _
    rw [← hW]
    have := Blk.new (w.alloc (.cells #[.int .i64 mid, .int .i64 born, .string fr, .slice a3 R.length c3, .string bo] 103)) #[.int .i64 mid, .int .i64 born, .string fr, .slice a3 R.length c3, .string bo] 40
    simpa using this
  have b0 : Below w.heap.size w W0 := by rw [← hW]; exact below2 _ _ _
  clear hW
  refine (implId mid _).mono ?_
  rw [HI.out]
  rintro e w1 ⟨rfl, hw⟩
  subst hw
  clear HI
  cases I
  · go_wp2
    go_ret
    exact ⟨rfl, b0⟩
  have x1 : w1.cell? ⟨w.heap.size + 1, 1, none⟩ = some (.int .i64 born) := HM0.out.cell 1
  have x2 : w1.cell? ⟨w.heap.size + 1, 2, none⟩ = some (.string fr) := HM0.out.cell 2
  have x3 : w1.cell? ⟨w.heap.size + 1, 3, none⟩ = some (.slice a3 R.length c3) := HM0.out.cell 3
  have x4 : w1.cell? ⟨w.heap.size + 1, 4, none⟩ = some (.string bo) := HM0.out.cell 4
  go_wp2_with fail
  refine (implMail fr bo _ R _ (H.out.below b0) m1 HS.out m2 (len_below HL.out b0)).mono ?_
  rw [HQ.out]
  rintro e w2 ⟨rfl, hb2⟩
  go_wp2
  go_ret
  exact ⟨rfl, b0.trans (hb2.mono b0.size)⟩

set_option maxHeartbeats 4000000 in
set_option maxRecDepth 100000 in
theorem rightE2 (id rc vk vc : Int) (vt : ByteArray) (w : World) (m4 : vt.size ≤ 1048576) :
    Calls Tryz.prog 135 #[.agg #[.int .i64 id, .int .i64 rc, .int .i64 vk, .int .i64 vc, .string vt]] w fun e w' => e = .returned (.bool (idN id && (decide (0 ≤ rc) && (decide (rc < 20) && (decide (1 ≤ vk) && (decide (vk ≤ 4) && (codeOk vc && decide (vt.size ≤ 512)))))))) ∧ Below w.heap.size w w' := by
  obtain ⟨I, HI⟩ : ∃ I : Bool, Hid (idN id = I) := ⟨_, rfl⟩
  obtain ⟨C, HC⟩ : ∃ C : Bool, Hid ((codeOk vc && decide (vt.size ≤ 512)) = C) := ⟨_, rfl⟩
  obtain ⟨Q, HQ⟩ : ∃ Q : Bool, Hid ((decide (0 ≤ rc) && (decide (rc < 20) && (decide (1 ≤ vk) && (decide (vk ≤ 4) && C)))) = Q) := ⟨_, rfl⟩
  rw [HI.out, HC.out, HQ.out]
  go_enter Tryz.func135, Tryz.ntmps135
  go_wp2_with fail
  generalize hW : World.alloc _ _ = W0
  have HM0 : Hid (Blk w.heap.size #[.int .i64 id, .int .i64 rc, .int .i64 vk, .int .i64 vc, .string vt] W0) := by show Blk _ _ _; rw [← hW]; exact Blk.new w _ _
  have b0 : Below w.heap.size w W0 := by rw [← hW]; exact below1 _ _
  clear hW
  refine (implId id _).mono ?_
  rw [HI.out]
  rintro e w1 ⟨rfl, hw⟩
  subst hw
  clear HI
  cases I
  · go_wp2
    go_ret
    exact ⟨rfl, b0⟩
  have x1 : w1.cell? ⟨w.heap.size, 1, none⟩ = some (.int .i64 rc) := HM0.out.cell 1
  have x2 : w1.cell? ⟨w.heap.size, 2, none⟩ = some (.int .i64 vk) := HM0.out.cell 2
  have x3 : w1.cell? ⟨w.heap.size, 3, none⟩ = some (.int .i64 vc) := HM0.out.cell 3
  have x4 : w1.cell? ⟨w.heap.size, 4, none⟩ = some (.string vt) := HM0.out.cell 4
  by_cases d1 : ¬ 0 ≤ rc
  · have hq : Q = false := by rw [← HQ.out, decide_eq_false d1]; rfl
    clear HQ
    subst hq
    go_wp2
    go_ret
    exact ⟨rfl, b0⟩
  replace d1 := Decidable.not_not.1 d1
  by_cases d2 : ¬ rc < 20
  · have hq : Q = false := by rw [← HQ.out, decide_eq_true d1, decide_eq_false d2]; rfl
    clear HQ
    subst hq
    go_wp2
    go_ret
    exact ⟨rfl, b0⟩
  replace d2 := Decidable.not_not.1 d2
  by_cases d3 : ¬ 1 ≤ vk
  · have hq : Q = false := by rw [← HQ.out, decide_eq_true d1, decide_eq_true d2, decide_eq_false d3]; rfl
    clear HQ
    subst hq
    go_wp2
    go_ret
    exact ⟨rfl, b0⟩
  replace d3 := Decidable.not_not.1 d3
  by_cases d4 : ¬ vk ≤ 4
  · have hq : Q = false := by rw [← HQ.out, decide_eq_true d1, decide_eq_true d2, decide_eq_true d3, decide_eq_false d4]; rfl
    clear HQ
    subst hq
    go_wp2
    go_ret
    exact ⟨rfl, b0⟩
  replace d4 := Decidable.not_not.1 d4
  have hq : Q = C := by rw [← HQ.out, decide_eq_true d1, decide_eq_true d2, decide_eq_true d3, decide_eq_true d4]; rfl
  clear HQ
  subst hq
  go_wp2_with fail
  refine (implReason (vk, vc, vt) _ m4).mono ?_
  dsimp only
  rw [HC.out]
  rintro e w2 ⟨rfl, hb2⟩
  go_wp2
  go_ret
  exact ⟨rfl, b0.trans (hb2.mono b0.size)⟩

set_option maxHeartbeats 2000000 in
set_option maxRecDepth 100000 in
theorem entryOf1 (mid born : Int) (fr : ByteArray) (bo : ByteArray) (id rc vk vc : Int) (vt : ByteArray) (tr due : Int) (a3 : Option Addr) (n3 c3 : Nat) (w : World) :
    Calls Tryz.prog 50 #[.agg #[.int .i64 1, .int .i64 mid, .int .i64 born, .string fr, .slice a3 n3 c3, .string bo, .int .i64 id, .int .i64 rc, .int .i64 vk, .int .i64 vc, .string vt, .int .i64 tr, .int .i64 due]] w fun e w' => e = .returned (.tuple #[(.iface 103 (.agg #[.int .i64 mid, .int .i64 born, .string fr, .slice a3 n3 c3, .string bo])), .bool true]) ∧ Below w.heap.size w w' := by
  go_enter Tryz.func50, Tryz.ntmps50
  go_wp2
  refine bodyPost_ret (v := .tuple #[(.iface 103 (.agg #[.int .i64 mid, .int .i64 born, .string fr, .slice a3 n3 c3, .string bo])), .bool true]) (by simp [results, Tryz.results50, go_sem]) rfl ?_
  exact ⟨rfl, below1 _ _⟩
theorem mRight1 (n : Nat) (x : Array Value) (w : World) : (method (n + 1) 103 (.agg x) "loop.example/s01729/impl.right").run Tryz.prog w = .ok (90, .agg x) w := by kernel_rfl
theorem mRec1 (n : Nat) (x : Array Value) (w : World) : (method (n + 1) 103 (.agg x) "loop.example/s01729/impl.record").run Tryz.prog w = .ok (89, .agg x) w := by kernel_rfl
theorem mApp1 (n : Nat) (x : Array Value) (w : World) : (method (n + 1) 103 (.agg x) "loop.example/s01729/impl.apply").run Tryz.prog w = .ok (87, .agg x) w := by kernel_rfl

set_option maxHeartbeats 2000000 in
set_option maxRecDepth 100000 in
theorem entryOf2 (mid born : Int) (fr : ByteArray) (bo : ByteArray) (id rc vk vc : Int) (vt : ByteArray) (tr due : Int) (a3 : Option Addr) (n3 c3 : Nat) (w : World) :
    Calls Tryz.prog 50 #[.agg #[.int .i64 2, .int .i64 mid, .int .i64 born, .string fr, .slice a3 n3 c3, .string bo, .int .i64 id, .int .i64 rc, .int .i64 vk, .int .i64 vc, .string vt, .int .i64 tr, .int .i64 due]] w fun e w' => e = .returned (.tuple #[(.iface 105 (.agg #[.int .i64 id, .int .i64 rc, .int .i64 vk, .int .i64 vc, .string vt])), .bool true]) ∧ Below w.heap.size w w' := by
  go_enter Tryz.func50, Tryz.ntmps50
  go_wp2
  refine bodyPost_ret (v := .tuple #[(.iface 105 (.agg #[.int .i64 id, .int .i64 rc, .int .i64 vk, .int .i64 vc, .string vt])), .bool true]) (by simp [results, Tryz.results50, go_sem]) rfl ?_
  exact ⟨rfl, below1 _ _⟩
theorem mRight2 (n : Nat) (x : Array Value) (w : World) : (method (n + 1) 105 (.agg x) "loop.example/s01729/impl.right").run Tryz.prog w = .ok (135, .agg x) w := by kernel_rfl
theorem mRec2 (n : Nat) (x : Array Value) (w : World) : (method (n + 1) 105 (.agg x) "loop.example/s01729/impl.record").run Tryz.prog w = .ok (134, .agg x) w := by kernel_rfl
theorem mApp2 (n : Nat) (x : Array Value) (w : World) : (method (n + 1) 105 (.agg x) "loop.example/s01729/impl.apply").run Tryz.prog w = .ok (132, .agg x) w := by kernel_rfl

set_option maxHeartbeats 2000000 in
set_option maxRecDepth 100000 in
theorem entryOf3 (mid born : Int) (fr : ByteArray) (bo : ByteArray) (id rc vk vc : Int) (vt : ByteArray) (tr due : Int) (a3 : Option Addr) (n3 c3 : Nat) (w : World) :
    Calls Tryz.prog 50 #[.agg #[.int .i64 3, .int .i64 mid, .int .i64 born, .string fr, .slice a3 n3 c3, .string bo, .int .i64 id, .int .i64 rc, .int .i64 vk, .int .i64 vc, .string vt, .int .i64 tr, .int .i64 due]] w fun e w' => e = .returned (.tuple #[(.iface 107 (.agg #[.int .i64 id, .int .i64 tr, .int .i64 due])), .bool true]) ∧ Below w.heap.size w w' := by
  go_enter Tryz.func50, Tryz.ntmps50
  go_wp2
  refine bodyPost_ret (v := .tuple #[(.iface 107 (.agg #[.int .i64 id, .int .i64 tr, .int .i64 due])), .bool true]) (by simp [results, Tryz.results50, go_sem]) rfl ?_
  exact ⟨rfl, below1 _ _⟩
theorem mRight3 (n : Nat) (x : Array Value) (w : World) : (method (n + 1) 107 (.agg x) "loop.example/s01729/impl.right").run Tryz.prog w = .ok (146, .agg x) w := by kernel_rfl
theorem mRec3 (n : Nat) (x : Array Value) (w : World) : (method (n + 1) 107 (.agg x) "loop.example/s01729/impl.record").run Tryz.prog w = .ok (145, .agg x) w := by kernel_rfl
theorem mApp3 (n : Nat) (x : Array Value) (w : World) : (method (n + 1) 107 (.agg x) "loop.example/s01729/impl.apply").run Tryz.prog w = .ok (143, .agg x) w := by kernel_rfl

set_option maxHeartbeats 2000000 in
set_option maxRecDepth 100000 in
theorem entryOf4 (mid born : Int) (fr : ByteArray) (bo : ByteArray) (id rc vk vc : Int) (vt : ByteArray) (tr due : Int) (a3 : Option Addr) (n3 c3 : Nat) (w : World) :
    Calls Tryz.prog 50 #[.agg #[.int .i64 4, .int .i64 mid, .int .i64 born, .string fr, .slice a3 n3 c3, .string bo, .int .i64 id, .int .i64 rc, .int .i64 vk, .int .i64 vc, .string vt, .int .i64 tr, .int .i64 due]] w fun e w' => e = .returned (.tuple #[(.iface 109 (.agg #[.int .i64 id])), .bool true]) ∧ Below w.heap.size w w' := by
  go_enter Tryz.func50, Tryz.ntmps50
  go_wp2
  refine bodyPost_ret (v := .tuple #[(.iface 109 (.agg #[.int .i64 id])), .bool true]) (by simp [results, Tryz.results50, go_sem]) rfl ?_
  exact ⟨rfl, below1 _ _⟩
theorem mRight4 (n : Nat) (x : Array Value) (w : World) : (method (n + 1) 109 (.agg x) "loop.example/s01729/impl.right").run Tryz.prog w = .ok (150, .agg x) w := by kernel_rfl
theorem mRec4 (n : Nat) (x : Array Value) (w : World) : (method (n + 1) 109 (.agg x) "loop.example/s01729/impl.record").run Tryz.prog w = .ok (149, .agg x) w := by kernel_rfl
theorem mApp4 (n : Nat) (x : Array Value) (w : World) : (method (n + 1) 109 (.agg x) "loop.example/s01729/impl.apply").run Tryz.prog w = .ok (147, .agg x) w := by kernel_rfl

set_option maxHeartbeats 2000000 in
set_option maxRecDepth 100000 in
theorem entryOf5 (mid born : Int) (fr : ByteArray) (bo : ByteArray) (id rc vk vc : Int) (vt : ByteArray) (tr due : Int) (a3 : Option Addr) (n3 c3 : Nat) (w : World) :
    Calls Tryz.prog 50 #[.agg #[.int .i64 5, .int .i64 mid, .int .i64 born, .string fr, .slice a3 n3 c3, .string bo, .int .i64 id, .int .i64 rc, .int .i64 vk, .int .i64 vc, .string vt, .int .i64 tr, .int .i64 due]] w fun e w' => e = .returned (.tuple #[(.iface 110 (.agg #[.int .i64 id])), .bool true]) ∧ Below w.heap.size w w' := by
  go_enter Tryz.func50, Tryz.ntmps50
  go_wp2
  refine bodyPost_ret (v := .tuple #[(.iface 110 (.agg #[.int .i64 id])), .bool true]) (by simp [results, Tryz.results50, go_sem]) rfl ?_
  exact ⟨rfl, below1 _ _⟩
theorem mRight5 (n : Nat) (x : Array Value) (w : World) : (method (n + 1) 110 (.agg x) "loop.example/s01729/impl.right").run Tryz.prog w = .ok (154, .agg x) w := by kernel_rfl
theorem mRec5 (n : Nat) (x : Array Value) (w : World) : (method (n + 1) 110 (.agg x) "loop.example/s01729/impl.record").run Tryz.prog w = .ok (153, .agg x) w := by kernel_rfl
theorem mApp5 (n : Nat) (x : Array Value) (w : World) : (method (n + 1) 110 (.agg x) "loop.example/s01729/impl.apply").run Tryz.prog w = .ok (151, .agg x) w := by kernel_rfl

set_option maxHeartbeats 2000000 in
set_option maxRecDepth 100000 in
theorem entryOf6 (mid born : Int) (fr : ByteArray) (bo : ByteArray) (id rc vk vc : Int) (vt : ByteArray) (tr due : Int) (a3 : Option Addr) (n3 c3 : Nat) (w : World) :
    Calls Tryz.prog 50 #[.agg #[.int .i64 6, .int .i64 mid, .int .i64 born, .string fr, .slice a3 n3 c3, .string bo, .int .i64 id, .int .i64 rc, .int .i64 vk, .int .i64 vc, .string vt, .int .i64 tr, .int .i64 due]] w fun e w' => e = .returned (.tuple #[(.iface 111 (.agg #[.int .i64 id])), .bool true]) ∧ Below w.heap.size w w' := by
  go_enter Tryz.func50, Tryz.ntmps50
  go_wp2
  refine bodyPost_ret (v := .tuple #[(.iface 111 (.agg #[.int .i64 id])), .bool true]) (by simp [results, Tryz.results50, go_sem]) rfl ?_
  exact ⟨rfl, below1 _ _⟩
theorem mRight6 (n : Nat) (x : Array Value) (w : World) : (method (n + 1) 111 (.agg x) "loop.example/s01729/impl.right").run Tryz.prog w = .ok (161, .agg x) w := by kernel_rfl
theorem mRec6 (n : Nat) (x : Array Value) (w : World) : (method (n + 1) 111 (.agg x) "loop.example/s01729/impl.record").run Tryz.prog w = .ok (160, .agg x) w := by kernel_rfl
theorem mApp6 (n : Nat) (x : Array Value) (w : World) : (method (n + 1) 111 (.agg x) "loop.example/s01729/impl.apply").run Tryz.prog w = .ok (158, .agg x) w := by kernel_rfl

set_option maxHeartbeats 2000000 in
set_option maxRecDepth 100000 in
theorem entryOfX (kind : Int) (mid born : Int) (fr : ByteArray) (bo : ByteArray) (id rc vk vc : Int) (vt : ByteArray) (tr due : Int) (a3 : Option Addr) (n3 c3 : Nat) (w : World) (hk : ¬ (1 ≤ kind ∧ kind ≤ 6)) :
    Calls Tryz.prog 50 #[.agg #[.int .i64 kind, .int .i64 mid, .int .i64 born, .string fr, .slice a3 n3 c3, .string bo, .int .i64 id, .int .i64 rc, .int .i64 vk, .int .i64 vc, .string vt, .int .i64 tr, .int .i64 due]] w fun e w' => e = .returned (.tuple #[.nilIface, .bool false]) ∧ Below w.heap.size w w' := by
  have k1 : (kind == 1) = false := by rw [beq_eq_false_iff_ne]; omega
  have k2 : (kind == 2) = false := by rw [beq_eq_false_iff_ne]; omega
  have k3 : (kind == 3) = false := by rw [beq_eq_false_iff_ne]; omega
  have k4 : (kind == 4) = false := by rw [beq_eq_false_iff_ne]; omega
  have k5 : (kind == 5) = false := by rw [beq_eq_false_iff_ne]; omega
  have k6 : (kind == 6) = false := by rw [beq_eq_false_iff_ne]; omega
  clear hk
  go_enter Tryz.func50, Tryz.ntmps50
  go_wp2
  refine bodyPost_ret (v := .tuple #[.nilIface, .bool false]) (by simp [results, Tryz.results50, go_sem]) rfl ?_
  exact ⟨rfl, below1 _ _⟩
end Go.Proofs.YtlolnfpfipnfeaaGreat
namespace Go.Proofs.YtlolnfpfipnfeaaGreat
open Go.ChangeShapes Go.WideShapes Go.ChangeAt Go.RowKit
attribute [local go_sem ↓] Go.wp_at_zero Go.wp_at_succ

set_option maxHeartbeats 8000000 in
set_option maxRecDepth 100000 in
theorem iaBad (kind mid born : Int) (fr bo : ByteArray) (a3 : Option Addr) (n3 c3 : Nat) (id rc vk vc : Int) (vt : ByteArray) (tr due : Int) (nx : Int) (v : Value) (L : List It) (P : List (Value × Value)) (lo : Nat) (w : World) (h : ItsP w lo v L P) (hlo : lo ≤ w.heap.size) (hL : L.length ≤ 1048576) (hs : ∀ x ∈ L, SmallI x) (hre : ∀ wx, Below w.heap.size w wx → Calls Tryz.prog 28 #[.agg #[.int .i64 kind, .int .i64 mid, .int .i64 born, .string fr, .slice a3 n3 c3, .string bo, .int .i64 id, .int .i64 rc, .int .i64 vk, .int .i64 vc, .string vt, .int .i64 tr, .int .i64 due]] wx fun e w' => e = .returned (.tuple #[.nilIface, .bool false]) ∧ Below wx.heap.size wx w') :
    Calls Tryz.prog 9 #[.agg #[v, .int .i64 nx], .agg #[.int .i64 kind, .int .i64 mid, .int .i64 born, .string fr, .slice a3 n3 c3, .string bo, .int .i64 id, .int .i64 rc, .int .i64 vk, .int .i64 vc, .string vt, .int .i64 tr, .int .i64 due]] w fun e w' => (∃ u P', e = .returned (.tuple #[.agg #[u, .int .i64 nx], .bool false]) ∧ ItsP w' w.heap.size u L P') ∧ Below w.heap.size w w' := by
  obtain ⟨a1, c1, rfl⟩ := h.form
  have H : Hid (ItsP w lo (.slice a1 L.length c1) L P) := h
  have HS : Hid (∀ x ∈ L, SmallI x) := hs
  have HRE : Hid (∀ wx, Below w.heap.size w wx → Calls Tryz.prog 28 #[.agg #[.int .i64 kind, .int .i64 mid, .int .i64 born, .string fr, .slice a3 n3 c3, .string bo, .int .i64 id, .int .i64 rc, .int .i64 vk, .int .i64 vc, .string vt, .int .i64 tr, .int .i64 due]] wx fun e w' => e = .returned (.tuple #[.nilIface, .bool false]) ∧ Below wx.heap.size wx w') := hre
  clear h hs hre
  go_enter Tryz.func9, Tryz.ntmps9
  go_wp2_with fail
  generalize hW : World.alloc _ _ = W0
  have HQ0 : Hid (Blk w.heap.size #[.slice a1 L.length c1, .int .i64 nx] W0) := by show Blk _ _ _; rw [← hW]; exact (blk3I w _ _ _ _ _ _).1
  have HR0 : Hid (Blk (w.heap.size + 1) #[.int .i64 kind, .int .i64 mid, .int .i64 born, .string fr, .slice a3 n3 c3, .string bo, .int .i64 id, .int .i64 rc, .int .i64 vk, .int .i64 vc, .string vt, .int .i64 tr, .int .i64 due] W0) := by show Blk _ _ _; rw [← hW]; exact (blk3I w _ _ _ _ _ _).2.1
  have HZ0 : Hid (Blk (w.heap.size + 1 + 1) #[.slice none 0 0, .int .i64 0] W0) := by show Blk _ _ _; rw [← hW]; exact (blk3I w _ _ _ _ _ _).2.2
  have b0 : Below w.heap.size w W0 := by rw [← hW]; exact below3 _ _ _ _
  have z0 : W0.heap.size = w.heap.size + 3 := by rw [← hW]; simp
  clear hW
  refine (implCopyQ _ nx L P lo _ (H.out.below b0 (Nat.le_refl _)) (by omega) hL HS.out).mono ?_
  rintro e w1 ⟨⟨u, P1, rfl, S1⟩, hb1⟩
  obtain ⟨a5, c5, hf⟩ := S1.form
  subst hf
  have z1 := hb1.size
  have b1 : Below w.heap.size w w1 := b0.trans (hb1.mono b0.size)
  have HI1 : Hid (ItsP w1 W0.heap.size (.slice a5 L.length c5) L P1) := S1
  have HQ1 : Hid _ := HQ0.out.below hb1
  have HR1 : Hid _ := HR0.out.below hb1
  have HZ1 : Hid _ := HZ0.out.below hb1
  clear hb1 S1 HQ0 HR0 HZ0 b0 H
  have q0 : w1.cell? ⟨w.heap.size, 0, none⟩ = some (.slice a1 L.length c1) := HQ1.out.cell 0
  have q1 : w1.cell? ⟨w.heap.size, 1, none⟩ = some (.int .i64 nx) := HQ1.out.cell 1
  have f0 := HQ1.out.free 0
  have f1 := HQ1.out.free 1
  have x0 : w1.cell? ⟨w.heap.size + 1, 0, none⟩ = some (.int .i64 kind) := HR1.out.cell 0
  have x1 : w1.cell? ⟨w.heap.size + 1, 1, none⟩ = some (.int .i64 mid) := HR1.out.cell 1
  have x2 : w1.cell? ⟨w.heap.size + 1, 2, none⟩ = some (.int .i64 born) := HR1.out.cell 2
  have x3 : w1.cell? ⟨w.heap.size + 1, 3, none⟩ = some (.string fr) := HR1.out.cell 3
  have x4 : w1.cell? ⟨w.heap.size + 1, 4, none⟩ = some (.slice a3 n3 c3) := HR1.out.cell 4
  have x5 : w1.cell? ⟨w.heap.size + 1, 5, none⟩ = some (.string bo) := HR1.out.cell 5
  have x6 : w1.cell? ⟨w.heap.size + 1, 6, none⟩ = some (.int .i64 id) := HR1.out.cell 6
  have x7 : w1.cell? ⟨w.heap.size + 1, 7, none⟩ = some (.int .i64 rc) := HR1.out.cell 7
  have x8 : w1.cell? ⟨w.heap.size + 1, 8, none⟩ = some (.int .i64 vk) := HR1.out.cell 8
  have x9 : w1.cell? ⟨w.heap.size + 1, 9, none⟩ = some (.int .i64 vc) := HR1.out.cell 9
  have x10 : w1.cell? ⟨w.heap.size + 1, 10, none⟩ = some (.string vt) := HR1.out.cell 10
  have x11 : w1.cell? ⟨w.heap.size + 1, 11, none⟩ = some (.int .i64 tr) := HR1.out.cell 11
  have x12 : w1.cell? ⟨w.heap.size + 1, 12, none⟩ = some (.int .i64 due) := HR1.out.cell 12
  go_wp2_with fail
  generalize hW : World.setCell (World.setCell w1 _ _) _ _ = W2
  have HQ2 : Hid (Blk w.heap.size #[.slice a5 L.length c5, .int .i64 nx] W2) := by show Blk _ _ _; rw [← hW]; exact (HQ1.out.set (i := 0) (by simp)).set (i := 1) (by simp)
  have HZ2 : Hid (Blk (w.heap.size + 1 + 1) #[.slice none 0 0, .int .i64 0] W2) := by show Blk _ _ _; rw [← hW]; exact (HZ1.out.other (by omega)).other (by omega)
  have HI2 : Hid (ItsP W2 W0.heap.size (.slice a5 L.length c5) L P1) := by show ItsP _ _ _ _ _; rw [← hW]; exact (HI1.out.setB (by dsimp only; omega) _).setB (by dsimp only; omega) _
  have b2 : Below w.heap.size w W2 := by rw [← hW]; exact (b1.setCell (by dsimp only; omega) _).setCell (by dsimp only; omega) _
  have z2 : W2.heap.size = w1.heap.size := by rw [← hW]; simp
  clear hW q0 q1 f0 f1 HQ1 HR1 HZ1 HI1 b1 x0 x1 x2 x3 x4 x5 x6 x7 x8 x9 x10 x11 x12
  refine (HRE.out _ b2).mono ?_
  rintro e w3 ⟨rfl, hb3⟩
  have z3 := hb3.size
  have b3 : Below w.heap.size w w3 := b2.trans (hb3.mono b2.size)
  have HQ3 : Hid (Blk w.heap.size #[.slice a5 L.length c5, .int .i64 nx] w3) := HQ2.out.below hb3
  have HZ3 : Hid (Blk (w.heap.size + 1 + 1) #[.slice none 0 0, .int .i64 0] w3) := HZ2.out.below hb3
  have HI3 : Hid (ItsP w3 W0.heap.size (.slice a5 L.length c5) L P1) := HI2.out.below hb3 (Nat.le_refl _)
  clear hb3 HQ2 HZ2 HI2 b2
  have q0 : w3.cell? ⟨w.heap.size, 0, none⟩ = some (.slice a5 L.length c5) := HQ3.out.cell 0
  have q1 : w3.cell? ⟨w.heap.size, 1, none⟩ = some (.int .i64 nx) := HQ3.out.cell 1
  have r0 : w3.cell? ⟨w.heap.size + 1 + 1, 0, none⟩ = some (.slice none 0 0) := HZ3.out.cell 0
  have r1 : w3.cell? ⟨w.heap.size + 1 + 1, 1, none⟩ = some (.int .i64 0) := HZ3.out.cell 1
  have g0 := HZ3.out.free 0
  have g1 := HZ3.out.free 1
  go_wp2
  refine bodyPost_ret (v := .tuple #[.agg #[.slice a5 L.length c5, .int .i64 nx], .bool false]) (by simp [results, Tryz.results9, go_sem, r0, r1]) rfl ?_
  refine ⟨⟨_, P1, rfl, ?_⟩, ?_⟩
  · refine ItsP.le (lo := W0.heap.size) ?_ (by omega)
    exact ((HI3.out).setB (by dsimp only; omega) _).setB (by dsimp only; omega) _
  · exact ((b3).setCell (by dsimp only; omega) _).setCell (by dsimp only; omega) _

set_option maxHeartbeats 8000000 in
set_option maxRecDepth 100000 in
theorem iaYes1 (L' : List It) (nx' : Int) (ch : Bool) (kind mid born : Int) (fr bo : ByteArray) (a3 : Option Addr) (n3 c3 : Nat) (id rc vk vc : Int) (vt : ByteArray) (tr due : Int) (nx : Int) (v : Value) (L : List It) (P : List (Value × Value)) (lo : Nat) (w : World) (h : ItsP w lo v L P) (hlo : lo ≤ w.heap.size) (hL : L.length ≤ 1048576) (hs : ∀ x ∈ L, SmallI x) (hre : ∀ wx, Below w.heap.size w wx → Calls Tryz.prog 28 #[.agg #[.int .i64 kind, .int .i64 mid, .int .i64 born, .string fr, .slice a3 n3 c3, .string bo, .int .i64 id, .int .i64 rc, .int .i64 vk, .int .i64 vc, .string vt, .int .i64 tr, .int .i64 due]] wx fun e w' => e = .returned (.tuple #[(.iface 103 (.agg #[.int .i64 mid, .int .i64 born, .string fr, .slice a3 n3 c3, .string bo])), .bool true]) ∧ Below wx.heap.size wx w') (hap : ∀ (wx : World) (v0 : Value) (P0 : List (Value × Value)) (lo0 : Nat), Below w.heap.size w wx → Blk w.heap.size #[v0, .int .i64 nx] wx → ItsP wx lo0 v0 L P0 → lo0 ≤ wx.heap.size → w.heap.size < lo0 → Calls Tryz.prog 87 #[.agg #[.int .i64 mid, .int .i64 born, .string fr, .slice a3 n3 c3, .string bo], .pointer (some ⟨w.heap.size, 0, none⟩)] wx fun e w' => e = .returned (.bool ch) ∧ (∃ v' P', Blk w.heap.size #[v', .int .i64 nx'] w' ∧ ItsP w' lo0 v' L' P') ∧ Kp w.heap.size lo0 wx w') :
    Calls Tryz.prog 9 #[.agg #[v, .int .i64 nx], .agg #[.int .i64 kind, .int .i64 mid, .int .i64 born, .string fr, .slice a3 n3 c3, .string bo, .int .i64 id, .int .i64 rc, .int .i64 vk, .int .i64 vc, .string vt, .int .i64 tr, .int .i64 due]] w fun e w' => (∃ u P', e = .returned (.tuple #[.agg #[u, .int .i64 nx'], .bool ch]) ∧ ItsP w' w.heap.size u L' P') ∧ Below w.heap.size w w' := by
  have HAP : Hid (∀ (wx : World) (v0 : Value) (P0 : List (Value × Value)) (lo0 : Nat), Below w.heap.size w wx → Blk w.heap.size #[v0, .int .i64 nx] wx → ItsP wx lo0 v0 L P0 → lo0 ≤ wx.heap.size → w.heap.size < lo0 → Calls Tryz.prog 87 #[.agg #[.int .i64 mid, .int .i64 born, .string fr, .slice a3 n3 c3, .string bo], .pointer (some ⟨w.heap.size, 0, none⟩)] wx fun e w' => e = .returned (.bool ch) ∧ (∃ v' P', Blk w.heap.size #[v', .int .i64 nx'] w' ∧ ItsP w' lo0 v' L' P') ∧ Kp w.heap.size lo0 wx w') := hap
  clear hap
  obtain ⟨a1, c1, rfl⟩ := h.form
  have H : Hid (ItsP w lo (.slice a1 L.length c1) L P) := h
  have HS : Hid (∀ x ∈ L, SmallI x) := hs
  have HRE : Hid (∀ wx, Below w.heap.size w wx → Calls Tryz.prog 28 #[.agg #[.int .i64 kind, .int .i64 mid, .int .i64 born, .string fr, .slice a3 n3 c3, .string bo, .int .i64 id, .int .i64 rc, .int .i64 vk, .int .i64 vc, .string vt, .int .i64 tr, .int .i64 due]] wx fun e w' => e = .returned (.tuple #[(.iface 103 (.agg #[.int .i64 mid, .int .i64 born, .string fr, .slice a3 n3 c3, .string bo])), .bool true]) ∧ Below wx.heap.size wx w') := hre
  clear h hs hre
  go_enter Tryz.func9, Tryz.ntmps9
  go_wp2_with fail
  generalize hW : World.alloc _ _ = W0
  have HQ0 : Hid (Blk w.heap.size #[.slice a1 L.length c1, .int .i64 nx] W0) := by show Blk _ _ _; rw [← hW]; exact (blk3I w _ _ _ _ _ _).1
  have HR0 : Hid (Blk (w.heap.size + 1) #[.int .i64 kind, .int .i64 mid, .int .i64 born, .string fr, .slice a3 n3 c3, .string bo, .int .i64 id, .int .i64 rc, .int .i64 vk, .int .i64 vc, .string vt, .int .i64 tr, .int .i64 due] W0) := by show Blk _ _ _; rw [← hW]; exact (blk3I w _ _ _ _ _ _).2.1
  have HZ0 : Hid (Blk (w.heap.size + 1 + 1) #[.slice none 0 0, .int .i64 0] W0) := by show Blk _ _ _; rw [← hW]; exact (blk3I w _ _ _ _ _ _).2.2
  have b0 : Below w.heap.size w W0 := by rw [← hW]; exact below3 _ _ _ _
  have z0 : W0.heap.size = w.heap.size + 3 := by rw [← hW]; simp
  clear hW
  refine (implCopyQ _ nx L P lo _ (H.out.below b0 (Nat.le_refl _)) (by omega) hL HS.out).mono ?_
  rintro e w1 ⟨⟨u, P1, rfl, S1⟩, hb1⟩
  obtain ⟨a5, c5, hf⟩ := S1.form
  subst hf
  have z1 := hb1.size
  have b1 : Below w.heap.size w w1 := b0.trans (hb1.mono b0.size)
  have HI1 : Hid (ItsP w1 W0.heap.size (.slice a5 L.length c5) L P1) := S1
  have HQ1 : Hid _ := HQ0.out.below hb1
  have HR1 : Hid _ := HR0.out.below hb1
  have HZ1 : Hid _ := HZ0.out.below hb1
  clear hb1 S1 HQ0 HR0 HZ0 b0 H
  have q0 : w1.cell? ⟨w.heap.size, 0, none⟩ = some (.slice a1 L.length c1) := HQ1.out.cell 0
  have q1 : w1.cell? ⟨w.heap.size, 1, none⟩ = some (.int .i64 nx) := HQ1.out.cell 1
  have f0 := HQ1.out.free 0
  have f1 := HQ1.out.free 1
  have x0 : w1.cell? ⟨w.heap.size + 1, 0, none⟩ = some (.int .i64 kind) := HR1.out.cell 0
  have x1 : w1.cell? ⟨w.heap.size + 1, 1, none⟩ = some (.int .i64 mid) := HR1.out.cell 1
  have x2 : w1.cell? ⟨w.heap.size + 1, 2, none⟩ = some (.int .i64 born) := HR1.out.cell 2
  have x3 : w1.cell? ⟨w.heap.size + 1, 3, none⟩ = some (.string fr) := HR1.out.cell 3
  have x4 : w1.cell? ⟨w.heap.size + 1, 4, none⟩ = some (.slice a3 n3 c3) := HR1.out.cell 4
  have x5 : w1.cell? ⟨w.heap.size + 1, 5, none⟩ = some (.string bo) := HR1.out.cell 5
  have x6 : w1.cell? ⟨w.heap.size + 1, 6, none⟩ = some (.int .i64 id) := HR1.out.cell 6
  have x7 : w1.cell? ⟨w.heap.size + 1, 7, none⟩ = some (.int .i64 rc) := HR1.out.cell 7
  have x8 : w1.cell? ⟨w.heap.size + 1, 8, none⟩ = some (.int .i64 vk) := HR1.out.cell 8
  have x9 : w1.cell? ⟨w.heap.size + 1, 9, none⟩ = some (.int .i64 vc) := HR1.out.cell 9
  have x10 : w1.cell? ⟨w.heap.size + 1, 10, none⟩ = some (.string vt) := HR1.out.cell 10
  have x11 : w1.cell? ⟨w.heap.size + 1, 11, none⟩ = some (.int .i64 tr) := HR1.out.cell 11
  have x12 : w1.cell? ⟨w.heap.size + 1, 12, none⟩ = some (.int .i64 due) := HR1.out.cell 12
  go_wp2_with fail
  generalize hW : World.setCell (World.setCell w1 _ _) _ _ = W2
  have HQ2 : Hid (Blk w.heap.size #[.slice a5 L.length c5, .int .i64 nx] W2) := by show Blk _ _ _; rw [← hW]; exact (HQ1.out.set (i := 0) (by simp)).set (i := 1) (by simp)
  have HZ2 : Hid (Blk (w.heap.size + 1 + 1) #[.slice none 0 0, .int .i64 0] W2) := by show Blk _ _ _; rw [← hW]; exact (HZ1.out.other (by omega)).other (by omega)
  have HI2 : Hid (ItsP W2 W0.heap.size (.slice a5 L.length c5) L P1) := by show ItsP _ _ _ _ _; rw [← hW]; exact (HI1.out.setB (by dsimp only; omega) _).setB (by dsimp only; omega) _
  have b2 : Below w.heap.size w W2 := by rw [← hW]; exact (b1.setCell (by dsimp only; omega) _).setCell (by dsimp only; omega) _
  have z2 : W2.heap.size = w1.heap.size := by rw [← hW]; simp
  clear hW q0 q1 f0 f1 HQ1 HR1 HZ1 HI1 b1 x0 x1 x2 x3 x4 x5 x6 x7 x8 x9 x10 x11 x12
  refine (HRE.out _ b2).mono ?_
  rintro e w3 ⟨rfl, hb3⟩
  have z3 := hb3.size
  have b3 : Below w.heap.size w w3 := b2.trans (hb3.mono b2.size)
  have HQ3 : Hid (Blk w.heap.size #[.slice a5 L.length c5, .int .i64 nx] w3) := HQ2.out.below hb3
  have HZ3 : Hid (Blk (w.heap.size + 1 + 1) #[.slice none 0 0, .int .i64 0] w3) := HZ2.out.below hb3
  have HI3 : Hid (ItsP w3 W0.heap.size (.slice a5 L.length c5) L P1) := HI2.out.below hb3 (Nat.le_refl _)
  clear hb3 HQ2 HZ2 HI2 b2
  have hma := fun n w => mApp1 n #[.int .i64 mid, .int .i64 born, .string fr, .slice a3 n3 c3, .string bo] w
  go_wp2_with fail
  refine (HAP.out _ _ P1 W0.heap.size b3 HQ3.out HI3.out (by omega) (by omega)).mono ?_
  rintro e w4 ⟨rfl, ⟨v', P', hQ4, hI4⟩, hk4⟩
  obtain ⟨a6, c6, hf6⟩ := hI4.form
  subst hf6
  have HQ4 : Hid (Blk w.heap.size #[.slice a6 L'.length c6, .int .i64 nx'] w4) := hQ4
  have HI4 : Hid (ItsP w4 W0.heap.size (.slice a6 L'.length c6) L' P') := hI4
  have HZ4 : Hid (Blk (w.heap.size + 1 + 1) #[.slice none 0 0, .int .i64 0] w4) := hk4.blk (by omega) (by omega) HZ3.out
  have b4 : Below w.heap.size w w4 := b3.trans (hk4.below (by omega))
  clear hQ4 hI4 hk4 HQ3 HI3 HZ3 b3 hma
  have q0 : w4.cell? ⟨w.heap.size, 0, none⟩ = some ((.slice a6 L'.length c6)) := HQ4.out.cell 0
  have q1 : w4.cell? ⟨w.heap.size, 1, none⟩ = some (.int .i64 nx') := HQ4.out.cell 1
  have r0 : w4.cell? ⟨w.heap.size + 1 + 1, 0, none⟩ = some (.slice none 0 0) := HZ4.out.cell 0
  have r1 : w4.cell? ⟨w.heap.size + 1 + 1, 1, none⟩ = some (.int .i64 0) := HZ4.out.cell 1
  have g0 := HZ4.out.free 0
  have g1 := HZ4.out.free 1
  go_wp2
  refine bodyPost_ret (v := .tuple #[.agg #[(.slice a6 L'.length c6), .int .i64 nx'], .bool ch]) (by simp [results, Tryz.results9, go_sem, r0, r1]) rfl ?_
  refine ⟨⟨_, P', rfl, ?_⟩, ?_⟩
  · refine ItsP.le (lo := W0.heap.size) ?_ (by omega)
    exact ((HI4.out).setB (by dsimp only; omega) _).setB (by dsimp only; omega) _
  · exact ((b4).setCell (by dsimp only; omega) _).setCell (by dsimp only; omega) _

set_option maxHeartbeats 8000000 in
set_option maxRecDepth 100000 in
theorem iaYes2 (L' : List It) (nx' : Int) (ch : Bool) (kind mid born : Int) (fr bo : ByteArray) (a3 : Option Addr) (n3 c3 : Nat) (id rc vk vc : Int) (vt : ByteArray) (tr due : Int) (nx : Int) (v : Value) (L : List It) (P : List (Value × Value)) (lo : Nat) (w : World) (h : ItsP w lo v L P) (hlo : lo ≤ w.heap.size) (hL : L.length ≤ 1048576) (hs : ∀ x ∈ L, SmallI x) (hre : ∀ wx, Below w.heap.size w wx → Calls Tryz.prog 28 #[.agg #[.int .i64 kind, .int .i64 mid, .int .i64 born, .string fr, .slice a3 n3 c3, .string bo, .int .i64 id, .int .i64 rc, .int .i64 vk, .int .i64 vc, .string vt, .int .i64 tr, .int .i64 due]] wx fun e w' => e = .returned (.tuple #[(.iface 105 (.agg #[.int .i64 id, .int .i64 rc, .int .i64 vk, .int .i64 vc, .string vt])), .bool true]) ∧ Below wx.heap.size wx w') (hap : ∀ (wx : World) (v0 : Value) (P0 : List (Value × Value)) (lo0 : Nat), Below w.heap.size w wx → Blk w.heap.size #[v0, .int .i64 nx] wx → ItsP wx lo0 v0 L P0 → lo0 ≤ wx.heap.size → w.heap.size < lo0 → Calls Tryz.prog 132 #[.agg #[.int .i64 id, .int .i64 rc, .int .i64 vk, .int .i64 vc, .string vt], .pointer (some ⟨w.heap.size, 0, none⟩)] wx fun e w' => e = .returned (.bool ch) ∧ (∃ v' P', Blk w.heap.size #[v', .int .i64 nx'] w' ∧ ItsP w' lo0 v' L' P') ∧ Kp w.heap.size lo0 wx w') :
    Calls Tryz.prog 9 #[.agg #[v, .int .i64 nx], .agg #[.int .i64 kind, .int .i64 mid, .int .i64 born, .string fr, .slice a3 n3 c3, .string bo, .int .i64 id, .int .i64 rc, .int .i64 vk, .int .i64 vc, .string vt, .int .i64 tr, .int .i64 due]] w fun e w' => (∃ u P', e = .returned (.tuple #[.agg #[u, .int .i64 nx'], .bool ch]) ∧ ItsP w' w.heap.size u L' P') ∧ Below w.heap.size w w' := by
  have HAP : Hid (∀ (wx : World) (v0 : Value) (P0 : List (Value × Value)) (lo0 : Nat), Below w.heap.size w wx → Blk w.heap.size #[v0, .int .i64 nx] wx → ItsP wx lo0 v0 L P0 → lo0 ≤ wx.heap.size → w.heap.size < lo0 → Calls Tryz.prog 132 #[.agg #[.int .i64 id, .int .i64 rc, .int .i64 vk, .int .i64 vc, .string vt], .pointer (some ⟨w.heap.size, 0, none⟩)] wx fun e w' => e = .returned (.bool ch) ∧ (∃ v' P', Blk w.heap.size #[v', .int .i64 nx'] w' ∧ ItsP w' lo0 v' L' P') ∧ Kp w.heap.size lo0 wx w') := hap
  clear hap
  obtain ⟨a1, c1, rfl⟩ := h.form
  have H : Hid (ItsP w lo (.slice a1 L.length c1) L P) := h
  have HS : Hid (∀ x ∈ L, SmallI x) := hs
  have HRE : Hid (∀ wx, Below w.heap.size w wx → Calls Tryz.prog 28 #[.agg #[.int .i64 kind, .int .i64 mid, .int .i64 born, .string fr, .slice a3 n3 c3, .string bo, .int .i64 id, .int .i64 rc, .int .i64 vk, .int .i64 vc, .string vt, .int .i64 tr, .int .i64 due]] wx fun e w' => e = .returned (.tuple #[(.iface 105 (.agg #[.int .i64 id, .int .i64 rc, .int .i64 vk, .int .i64 vc, .string vt])), .bool true]) ∧ Below wx.heap.size wx w') := hre
  clear h hs hre
  go_enter Tryz.func9, Tryz.ntmps9
  go_wp2_with fail
  generalize hW : World.alloc _ _ = W0
  have HQ0 : Hid (Blk w.heap.size #[.slice a1 L.length c1, .int .i64 nx] W0) := by show Blk _ _ _; rw [← hW]; exact (blk3I w _ _ _ _ _ _).1
  have HR0 : Hid (Blk (w.heap.size + 1) #[.int .i64 kind, .int .i64 mid, .int .i64 born, .string fr, .slice a3 n3 c3, .string bo, .int .i64 id, .int .i64 rc, .int .i64 vk, .int .i64 vc, .string vt, .int .i64 tr, .int .i64 due] W0) := by show Blk _ _ _; rw [← hW]; exact (blk3I w _ _ _ _ _ _).2.1
  have HZ0 : Hid (Blk (w.heap.size + 1 + 1) #[.slice none 0 0, .int .i64 0] W0) := by show Blk _ _ _; rw [← hW]; exact (blk3I w _ _ _ _ _ _).2.2
  have b0 : Below w.heap.size w W0 := by rw [← hW]; exact below3 _ _ _ _
  have z0 : W0.heap.size = w.heap.size + 3 := by rw [← hW]; simp
  clear hW
  refine (implCopyQ _ nx L P lo _ (H.out.below b0 (Nat.le_refl _)) (by omega) hL HS.out).mono ?_
  rintro e w1 ⟨⟨u, P1, rfl, S1⟩, hb1⟩
  obtain ⟨a5, c5, hf⟩ := S1.form
  subst hf
  have z1 := hb1.size
  have b1 : Below w.heap.size w w1 := b0.trans (hb1.mono b0.size)
  have HI1 : Hid (ItsP w1 W0.heap.size (.slice a5 L.length c5) L P1) := S1
  have HQ1 : Hid _ := HQ0.out.below hb1
  have HR1 : Hid _ := HR0.out.below hb1
  have HZ1 : Hid _ := HZ0.out.below hb1
  clear hb1 S1 HQ0 HR0 HZ0 b0 H
  have q0 : w1.cell? ⟨w.heap.size, 0, none⟩ = some (.slice a1 L.length c1) := HQ1.out.cell 0
  have q1 : w1.cell? ⟨w.heap.size, 1, none⟩ = some (.int .i64 nx) := HQ1.out.cell 1
  have f0 := HQ1.out.free 0
  have f1 := HQ1.out.free 1
  have x0 : w1.cell? ⟨w.heap.size + 1, 0, none⟩ = some (.int .i64 kind) := HR1.out.cell 0
  have x1 : w1.cell? ⟨w.heap.size + 1, 1, none⟩ = some (.int .i64 mid) := HR1.out.cell 1
  have x2 : w1.cell? ⟨w.heap.size + 1, 2, none⟩ = some (.int .i64 born) := HR1.out.cell 2
  have x3 : w1.cell? ⟨w.heap.size + 1, 3, none⟩ = some (.string fr) := HR1.out.cell 3
  have x4 : w1.cell? ⟨w.heap.size + 1, 4, none⟩ = some (.slice a3 n3 c3) := HR1.out.cell 4
  have x5 : w1.cell? ⟨w.heap.size + 1, 5, none⟩ = some (.string bo) := HR1.out.cell 5
  have x6 : w1.cell? ⟨w.heap.size + 1, 6, none⟩ = some (.int .i64 id) := HR1.out.cell 6
  have x7 : w1.cell? ⟨w.heap.size + 1, 7, none⟩ = some (.int .i64 rc) := HR1.out.cell 7
  have x8 : w1.cell? ⟨w.heap.size + 1, 8, none⟩ = some (.int .i64 vk) := HR1.out.cell 8
  have x9 : w1.cell? ⟨w.heap.size + 1, 9, none⟩ = some (.int .i64 vc) := HR1.out.cell 9
  have x10 : w1.cell? ⟨w.heap.size + 1, 10, none⟩ = some (.string vt) := HR1.out.cell 10
  have x11 : w1.cell? ⟨w.heap.size + 1, 11, none⟩ = some (.int .i64 tr) := HR1.out.cell 11
  have x12 : w1.cell? ⟨w.heap.size + 1, 12, none⟩ = some (.int .i64 due) := HR1.out.cell 12
  go_wp2_with fail
  generalize hW : World.setCell (World.setCell w1 _ _) _ _ = W2
  have HQ2 : Hid (Blk w.heap.size #[.slice a5 L.length c5, .int .i64 nx] W2) := by show Blk _ _ _; rw [← hW]; exact (HQ1.out.set (i := 0) (by simp)).set (i := 1) (by simp)
  have HZ2 : Hid (Blk (w.heap.size + 1 + 1) #[.slice none 0 0, .int .i64 0] W2) := by show Blk _ _ _; rw [← hW]; exact (HZ1.out.other (by omega)).other (by omega)
  have HI2 : Hid (ItsP W2 W0.heap.size (.slice a5 L.length c5) L P1) := by show ItsP _ _ _ _ _; rw [← hW]; exact (HI1.out.setB (by dsimp only; omega) _).setB (by dsimp only; omega) _
  have b2 : Below w.heap.size w W2 := by rw [← hW]; exact (b1.setCell (by dsimp only; omega) _).setCell (by dsimp only; omega) _
  have z2 : W2.heap.size = w1.heap.size := by rw [← hW]; simp
  clear hW q0 q1 f0 f1 HQ1 HR1 HZ1 HI1 b1 x0 x1 x2 x3 x4 x5 x6 x7 x8 x9 x10 x11 x12
  refine (HRE.out _ b2).mono ?_
  rintro e w3 ⟨rfl, hb3⟩
  have z3 := hb3.size
  have b3 : Below w.heap.size w w3 := b2.trans (hb3.mono b2.size)
  have HQ3 : Hid (Blk w.heap.size #[.slice a5 L.length c5, .int .i64 nx] w3) := HQ2.out.below hb3
  have HZ3 : Hid (Blk (w.heap.size + 1 + 1) #[.slice none 0 0, .int .i64 0] w3) := HZ2.out.below hb3
  have HI3 : Hid (ItsP w3 W0.heap.size (.slice a5 L.length c5) L P1) := HI2.out.below hb3 (Nat.le_refl _)
  clear hb3 HQ2 HZ2 HI2 b2
  have hma := fun n w => mApp2 n #[.int .i64 id, .int .i64 rc, .int .i64 vk, .int .i64 vc, .string vt] w
  go_wp2_with fail
  refine (HAP.out _ _ P1 W0.heap.size b3 HQ3.out HI3.out (by omega) (by omega)).mono ?_
  rintro e w4 ⟨rfl, ⟨v', P', hQ4, hI4⟩, hk4⟩
  obtain ⟨a6, c6, hf6⟩ := hI4.form
  subst hf6
  have HQ4 : Hid (Blk w.heap.size #[.slice a6 L'.length c6, .int .i64 nx'] w4) := hQ4
  have HI4 : Hid (ItsP w4 W0.heap.size (.slice a6 L'.length c6) L' P') := hI4
  have HZ4 : Hid (Blk (w.heap.size + 1 + 1) #[.slice none 0 0, .int .i64 0] w4) := hk4.blk (by omega) (by omega) HZ3.out
  have b4 : Below w.heap.size w w4 := b3.trans (hk4.below (by omega))
  clear hQ4 hI4 hk4 HQ3 HI3 HZ3 b3 hma
  have q0 : w4.cell? ⟨w.heap.size, 0, none⟩ = some ((.slice a6 L'.length c6)) := HQ4.out.cell 0
  have q1 : w4.cell? ⟨w.heap.size, 1, none⟩ = some (.int .i64 nx') := HQ4.out.cell 1
  have r0 : w4.cell? ⟨w.heap.size + 1 + 1, 0, none⟩ = some (.slice none 0 0) := HZ4.out.cell 0
  have r1 : w4.cell? ⟨w.heap.size + 1 + 1, 1, none⟩ = some (.int .i64 0) := HZ4.out.cell 1
  have g0 := HZ4.out.free 0
  have g1 := HZ4.out.free 1
  go_wp2
  refine bodyPost_ret (v := .tuple #[.agg #[(.slice a6 L'.length c6), .int .i64 nx'], .bool ch]) (by simp [results, Tryz.results9, go_sem, r0, r1]) rfl ?_
  refine ⟨⟨_, P', rfl, ?_⟩, ?_⟩
  · refine ItsP.le (lo := W0.heap.size) ?_ (by omega)
    exact ((HI4.out).setB (by dsimp only; omega) _).setB (by dsimp only; omega) _
  · exact ((b4).setCell (by dsimp only; omega) _).setCell (by dsimp only; omega) _

set_option maxHeartbeats 8000000 in
set_option maxRecDepth 100000 in
theorem iaYes3 (L' : List It) (nx' : Int) (ch : Bool) (kind mid born : Int) (fr bo : ByteArray) (a3 : Option Addr) (n3 c3 : Nat) (id rc vk vc : Int) (vt : ByteArray) (tr due : Int) (nx : Int) (v : Value) (L : List It) (P : List (Value × Value)) (lo : Nat) (w : World) (h : ItsP w lo v L P) (hlo : lo ≤ w.heap.size) (hL : L.length ≤ 1048576) (hs : ∀ x ∈ L, SmallI x) (hre : ∀ wx, Below w.heap.size w wx → Calls Tryz.prog 28 #[.agg #[.int .i64 kind, .int .i64 mid, .int .i64 born, .string fr, .slice a3 n3 c3, .string bo, .int .i64 id, .int .i64 rc, .int .i64 vk, .int .i64 vc, .string vt, .int .i64 tr, .int .i64 due]] wx fun e w' => e = .returned (.tuple #[(.iface 107 (.agg #[.int .i64 id, .int .i64 tr, .int .i64 due])), .bool true]) ∧ Below wx.heap.size wx w') (hap : ∀ (wx : World) (v0 : Value) (P0 : List (Value × Value)) (lo0 : Nat), Below w.heap.size w wx → Blk w.heap.size #[v0, .int .i64 nx] wx → ItsP wx lo0 v0 L P0 → lo0 ≤ wx.heap.size → w.heap.size < lo0 → Calls Tryz.prog 143 #[.agg #[.int .i64 id, .int .i64 tr, .int .i64 due], .pointer (some ⟨w.heap.size, 0, none⟩)] wx fun e w' => e = .returned (.bool ch) ∧ (∃ v' P', Blk w.heap.size #[v', .int .i64 nx'] w' ∧ ItsP w' lo0 v' L' P') ∧ Kp w.heap.size lo0 wx w') :
    Calls Tryz.prog 9 #[.agg #[v, .int .i64 nx], .agg #[.int .i64 kind, .int .i64 mid, .int .i64 born, .string fr, .slice a3 n3 c3, .string bo, .int .i64 id, .int .i64 rc, .int .i64 vk, .int .i64 vc, .string vt, .int .i64 tr, .int .i64 due]] w fun e w' => (∃ u P', e = .returned (.tuple #[.agg #[u, .int .i64 nx'], .bool ch]) ∧ ItsP w' w.heap.size u L' P') ∧ Below w.heap.size w w' := by
  have HAP : Hid (∀ (wx : World) (v0 : Value) (P0 : List (Value × Value)) (lo0 : Nat), Below w.heap.size w wx → Blk w.heap.size #[v0, .int .i64 nx] wx → ItsP wx lo0 v0 L P0 → lo0 ≤ wx.heap.size → w.heap.size < lo0 → Calls Tryz.prog 143 #[.agg #[.int .i64 id, .int .i64 tr, .int .i64 due], .pointer (some ⟨w.heap.size, 0, none⟩)] wx fun e w' => e = .returned (.bool ch) ∧ (∃ v' P', Blk w.heap.size #[v', .int .i64 nx'] w' ∧ ItsP w' lo0 v' L' P') ∧ Kp w.heap.size lo0 wx w') := hap
  clear hap
  obtain ⟨a1, c1, rfl⟩ := h.form
  have H : Hid (ItsP w lo (.slice a1 L.length c1) L P) := h
  have HS : Hid (∀ x ∈ L, SmallI x) := hs
  have HRE : Hid (∀ wx, Below w.heap.size w wx → Calls Tryz.prog 28 #[.agg #[.int .i64 kind, .int .i64 mid, .int .i64 born, .string fr, .slice a3 n3 c3, .string bo, .int .i64 id, .int .i64 rc, .int .i64 vk, .int .i64 vc, .string vt, .int .i64 tr, .int .i64 due]] wx fun e w' => e = .returned (.tuple #[(.iface 107 (.agg #[.int .i64 id, .int .i64 tr, .int .i64 due])), .bool true]) ∧ Below wx.heap.size wx w') := hre
  clear h hs hre
  go_enter Tryz.func9, Tryz.ntmps9
  go_wp2_with fail
  generalize hW : World.alloc _ _ = W0
  have HQ0 : Hid (Blk w.heap.size #[.slice a1 L.length c1, .int .i64 nx] W0) := by show Blk _ _ _; rw [← hW]; exact (blk3I w _ _ _ _ _ _).1
  have HR0 : Hid (Blk (w.heap.size + 1) #[.int .i64 kind, .int .i64 mid, .int .i64 born, .string fr, .slice a3 n3 c3, .string bo, .int .i64 id, .int .i64 rc, .int .i64 vk, .int .i64 vc, .string vt, .int .i64 tr, .int .i64 due] W0) := by show Blk _ _ _; rw [← hW]; exact (blk3I w _ _ _ _ _ _).2.1
  have HZ0 : Hid (Blk (w.heap.size + 1 + 1) #[.slice none 0 0, .int .i64 0] W0) := by show Blk _ _ _; rw [← hW]; exact (blk3I w _ _ _ _ _ _).2.2
  have b0 : Below w.heap.size w W0 := by rw [← hW]; exact below3 _ _ _ _
  have z0 : W0.heap.size = w.heap.size + 3 := by rw [← hW]; simp
  clear hW
  refine (implCopyQ _ nx L P lo _ (H.out.below b0 (Nat.le_refl _)) (by omega) hL HS.out).mono ?_
  rintro e w1 ⟨⟨u, P1, rfl, S1⟩, hb1⟩
  obtain ⟨a5, c5, hf⟩ := S1.form
  subst hf
  have z1 := hb1.size
  have b1 : Below w.heap.size w w1 := b0.trans (hb1.mono b0.size)
  have HI1 : Hid (ItsP w1 W0.heap.size (.slice a5 L.length c5) L P1) := S1
  have HQ1 : Hid _ := HQ0.out.below hb1
  have HR1 : Hid _ := HR0.out.below hb1
  have HZ1 : Hid _ := HZ0.out.below hb1
  clear hb1 S1 HQ0 HR0 HZ0 b0 H
  have q0 : w1.cell? ⟨w.heap.size, 0, none⟩ = some (.slice a1 L.length c1) := HQ1.out.cell 0
  have q1 : w1.cell? ⟨w.heap.size, 1, none⟩ = some (.int .i64 nx) := HQ1.out.cell 1
  have f0 := HQ1.out.free 0
  have f1 := HQ1.out.free 1
  have x0 : w1.cell? ⟨w.heap.size + 1, 0, none⟩ = some (.int .i64 kind) := HR1.out.cell 0
  have x1 : w1.cell? ⟨w.heap.size + 1, 1, none⟩ = some (.int .i64 mid) := HR1.out.cell 1
  have x2 : w1.cell? ⟨w.heap.size + 1, 2, none⟩ = some (.int .i64 born) := HR1.out.cell 2
  have x3 : w1.cell? ⟨w.heap.size + 1, 3, none⟩ = some (.string fr) := HR1.out.cell 3
  have x4 : w1.cell? ⟨w.heap.size + 1, 4, none⟩ = some (.slice a3 n3 c3) := HR1.out.cell 4
  have x5 : w1.cell? ⟨w.heap.size + 1, 5, none⟩ = some (.string bo) := HR1.out.cell 5
  have x6 : w1.cell? ⟨w.heap.size + 1, 6, none⟩ = some (.int .i64 id) := HR1.out.cell 6
  have x7 : w1.cell? ⟨w.heap.size + 1, 7, none⟩ = some (.int .i64 rc) := HR1.out.cell 7
  have x8 : w1.cell? ⟨w.heap.size + 1, 8, none⟩ = some (.int .i64 vk) := HR1.out.cell 8
  have x9 : w1.cell? ⟨w.heap.size + 1, 9, none⟩ = some (.int .i64 vc) := HR1.out.cell 9
  have x10 : w1.cell? ⟨w.heap.size + 1, 10, none⟩ = some (.string vt) := HR1.out.cell 10
  have x11 : w1.cell? ⟨w.heap.size + 1, 11, none⟩ = some (.int .i64 tr) := HR1.out.cell 11
  have x12 : w1.cell? ⟨w.heap.size + 1, 12, none⟩ = some (.int .i64 due) := HR1.out.cell 12
  go_wp2_with fail
  generalize hW : World.setCell (World.setCell w1 _ _) _ _ = W2
  have HQ2 : Hid (Blk w.heap.size #[.slice a5 L.length c5, .int .i64 nx] W2) := by show Blk _ _ _; rw [← hW]; exact (HQ1.out.set (i := 0) (by simp)).set (i := 1) (by simp)
  have HZ2 : Hid (Blk (w.heap.size + 1 + 1) #[.slice none 0 0, .int .i64 0] W2) := by show Blk _ _ _; rw [← hW]; exact (HZ1.out.other (by omega)).other (by omega)
  have HI2 : Hid (ItsP W2 W0.heap.size (.slice a5 L.length c5) L P1) := by show ItsP _ _ _ _ _; rw [← hW]; exact (HI1.out.setB (by dsimp only; omega) _).setB (by dsimp only; omega) _
  have b2 : Below w.heap.size w W2 := by rw [← hW]; exact (b1.setCell (by dsimp only; omega) _).setCell (by dsimp only; omega) _
  have z2 : W2.heap.size = w1.heap.size := by rw [← hW]; simp
  clear hW q0 q1 f0 f1 HQ1 HR1 HZ1 HI1 b1 x0 x1 x2 x3 x4 x5 x6 x7 x8 x9 x10 x11 x12
  refine (HRE.out _ b2).mono ?_
  rintro e w3 ⟨rfl, hb3⟩
  have z3 := hb3.size
  have b3 : Below w.heap.size w w3 := b2.trans (hb3.mono b2.size)
  have HQ3 : Hid (Blk w.heap.size #[.slice a5 L.length c5, .int .i64 nx] w3) := HQ2.out.below hb3
  have HZ3 : Hid (Blk (w.heap.size + 1 + 1) #[.slice none 0 0, .int .i64 0] w3) := HZ2.out.below hb3
  have HI3 : Hid (ItsP w3 W0.heap.size (.slice a5 L.length c5) L P1) := HI2.out.below hb3 (Nat.le_refl _)
  clear hb3 HQ2 HZ2 HI2 b2
  have hma := fun n w => mApp3 n #[.int .i64 id, .int .i64 tr, .int .i64 due] w
  go_wp2_with fail
  refine (HAP.out _ _ P1 W0.heap.size b3 HQ3.out HI3.out (by omega) (by omega)).mono ?_
  rintro e w4 ⟨rfl, ⟨v', P', hQ4, hI4⟩, hk4⟩
  obtain ⟨a6, c6, hf6⟩ := hI4.form
  subst hf6
  have HQ4 : Hid (Blk w.heap.size #[.slice a6 L'.length c6, .int .i64 nx'] w4) := hQ4
  have HI4 : Hid (ItsP w4 W0.heap.size (.slice a6 L'.length c6) L' P') := hI4
  have HZ4 : Hid (Blk (w.heap.size + 1 + 1) #[.slice none 0 0, .int .i64 0] w4) := hk4.blk (by omega) (by omega) HZ3.out
  have b4 : Below w.heap.size w w4 := b3.trans (hk4.below (by omega))
  clear hQ4 hI4 hk4 HQ3 HI3 HZ3 b3 hma
  have q0 : w4.cell? ⟨w.heap.size, 0, none⟩ = some ((.slice a6 L'.length c6)) := HQ4.out.cell 0
  have q1 : w4.cell? ⟨w.heap.size, 1, none⟩ = some (.int .i64 nx') := HQ4.out.cell 1
  have r0 : w4.cell? ⟨w.heap.size + 1 + 1, 0, none⟩ = some (.slice none 0 0) := HZ4.out.cell 0
  have r1 : w4.cell? ⟨w.heap.size + 1 + 1, 1, none⟩ = some (.int .i64 0) := HZ4.out.cell 1
  have g0 := HZ4.out.free 0
  have g1 := HZ4.out.free 1
  go_wp2
  refine bodyPost_ret (v := .tuple #[.agg #[(.slice a6 L'.length c6), .int .i64 nx'], .bool ch]) (by simp [results, Tryz.results9, go_sem, r0, r1]) rfl ?_
  refine ⟨⟨_, P', rfl, ?_⟩, ?_⟩
  · refine ItsP.le (lo := W0.heap.size) ?_ (by omega)
    exact ((HI4.out).setB (by dsimp only; omega) _).setB (by dsimp only; omega) _
  · exact ((b4).setCell (by dsimp only; omega) _).setCell (by dsimp only; omega) _

set_option maxHeartbeats 8000000 in
set_option maxRecDepth 100000 in
theorem iaYes4 (L' : List It) (nx' : Int) (ch : Bool) (kind mid born : Int) (fr bo : ByteArray) (a3 : Option Addr) (n3 c3 : Nat) (id rc vk vc : Int) (vt : ByteArray) (tr due : Int) (nx : Int) (v : Value) (L : List It) (P : List (Value × Value)) (lo : Nat) (w : World) (h : ItsP w lo v L P) (hlo : lo ≤ w.heap.size) (hL : L.length ≤ 1048576) (hs : ∀ x ∈ L, SmallI x) (hre : ∀ wx, Below w.heap.size w wx → Calls Tryz.prog 28 #[.agg #[.int .i64 kind, .int .i64 mid, .int .i64 born, .string fr, .slice a3 n3 c3, .string bo, .int .i64 id, .int .i64 rc, .int .i64 vk, .int .i64 vc, .string vt, .int .i64 tr, .int .i64 due]] wx fun e w' => e = .returned (.tuple #[(.iface 109 (.agg #[.int .i64 id])), .bool true]) ∧ Below wx.heap.size wx w') (hap : ∀ (wx : World) (v0 : Value) (P0 : List (Value × Value)) (lo0 : Nat), Below w.heap.size w wx → Blk w.heap.size #[v0, .int .i64 nx] wx → ItsP wx lo0 v0 L P0 → lo0 ≤ wx.heap.size → w.heap.size < lo0 → Calls Tryz.prog 147 #[.agg #[.int .i64 id], .pointer (some ⟨w.heap.size, 0, none⟩)] wx fun e w' => e = .returned (.bool ch) ∧ (∃ v' P', Blk w.heap.size #[v', .int .i64 nx'] w' ∧ ItsP w' lo0 v' L' P') ∧ Kp w.heap.size lo0 wx w') :
    Calls Tryz.prog 9 #[.agg #[v, .int .i64 nx], .agg #[.int .i64 kind, .int .i64 mid, .int .i64 born, .string fr, .slice a3 n3 c3, .string bo, .int .i64 id, .int .i64 rc, .int .i64 vk, .int .i64 vc, .string vt, .int .i64 tr, .int .i64 due]] w fun e w' => (∃ u P', e = .returned (.tuple #[.agg #[u, .int .i64 nx'], .bool ch]) ∧ ItsP w' w.heap.size u L' P') ∧ Below w.heap.size w w' := by
  have HAP : Hid (∀ (wx : World) (v0 : Value) (P0 : List (Value × Value)) (lo0 : Nat), Below w.heap.size w wx → Blk w.heap.size #[v0, .int .i64 nx] wx → ItsP wx lo0 v0 L P0 → lo0 ≤ wx.heap.size → w.heap.size < lo0 → Calls Tryz.prog 147 #[.agg #[.int .i64 id], .pointer (some ⟨w.heap.size, 0, none⟩)] wx fun e w' => e = .returned (.bool ch) ∧ (∃ v' P', Blk w.heap.size #[v', .int .i64 nx'] w' ∧ ItsP w' lo0 v' L' P') ∧ Kp w.heap.size lo0 wx w') := hap
  clear hap
  obtain ⟨a1, c1, rfl⟩ := h.form
  have H : Hid (ItsP w lo (.slice a1 L.length c1) L P) := h
  have HS : Hid (∀ x ∈ L, SmallI x) := hs
  have HRE : Hid (∀ wx, Below w.heap.size w wx → Calls Tryz.prog 28 #[.agg #[.int .i64 kind, .int .i64 mid, .int .i64 born, .string fr, .slice a3 n3 c3, .string bo, .int .i64 id, .int .i64 rc, .int .i64 vk, .int .i64 vc, .string vt, .int .i64 tr, .int .i64 due]] wx fun e w' => e = .returned (.tuple #[(.iface 109 (.agg #[.int .i64 id])), .bool true]) ∧ Below wx.heap.size wx w') := hre
  clear h hs hre
  go_enter Tryz.func9, Tryz.ntmps9
  go_wp2_with fail
  generalize hW : World.alloc _ _ = W0
  have HQ0 : Hid (Blk w.heap.size #[.slice a1 L.length c1, .int .i64 nx] W0) := by show Blk _ _ _; rw [← hW]; exact (blk3I w _ _ _ _ _ _).1
  have HR0 : Hid (Blk (w.heap.size + 1) #[.int .i64 kind, .int .i64 mid, .int .i64 born, .string fr, .slice a3 n3 c3, .string bo, .int .i64 id, .int .i64 rc, .int .i64 vk, .int .i64 vc, .string vt, .int .i64 tr, .int .i64 due] W0) := by show Blk _ _ _; rw [← hW]; exact (blk3I w _ _ _ _ _ _).2.1
  have HZ0 : Hid (Blk (w.heap.size + 1 + 1) #[.slice none 0 0, .int .i64 0] W0) := by show Blk _ _ _; rw [← hW]; exact (blk3I w _ _ _ _ _ _).2.2
  have b0 : Below w.heap.size w W0 := by rw [← hW]; exact below3 _ _ _ _
  have z0 : W0.heap.size = w.heap.size + 3 := by rw [← hW]; simp
  clear hW
  refine (implCopyQ _ nx L P lo _ (H.out.below b0 (Nat.le_refl _)) (by omega) hL HS.out).mono ?_
  rintro e w1 ⟨⟨u, P1, rfl, S1⟩, hb1⟩
  obtain ⟨a5, c5, hf⟩ := S1.form
  subst hf
  have z1 := hb1.size
  have b1 : Below w.heap.size w w1 := b0.trans (hb1.mono b0.size)
  have HI1 : Hid (ItsP w1 W0.heap.size (.slice a5 L.length c5) L P1) := S1
  have HQ1 : Hid _ := HQ0.out.below hb1
  have HR1 : Hid _ := HR0.out.below hb1
  have HZ1 : Hid _ := HZ0.out.below hb1
  clear hb1 S1 HQ0 HR0 HZ0 b0 H
  have q0 : w1.cell? ⟨w.heap.size, 0, none⟩ = some (.slice a1 L.length c1) := HQ1.out.cell 0
  have q1 : w1.cell? ⟨w.heap.size, 1, none⟩ = some (.int .i64 nx) := HQ1.out.cell 1
  have f0 := HQ1.out.free 0
  have f1 := HQ1.out.free 1
  have x0 : w1.cell? ⟨w.heap.size + 1, 0, none⟩ = some (.int .i64 kind) := HR1.out.cell 0
  have x1 : w1.cell? ⟨w.heap.size + 1, 1, none⟩ = some (.int .i64 mid) := HR1.out.cell 1
  have x2 : w1.cell? ⟨w.heap.size + 1, 2, none⟩ = some (.int .i64 born) := HR1.out.cell 2
  have x3 : w1.cell? ⟨w.heap.size + 1, 3, none⟩ = some (.string fr) := HR1.out.cell 3
  have x4 : w1.cell? ⟨w.heap.size + 1, 4, none⟩ = some (.slice a3 n3 c3) := HR1.out.cell 4
  have x5 : w1.cell? ⟨w.heap.size + 1, 5, none⟩ = some (.string bo) := HR1.out.cell 5
  have x6 : w1.cell? ⟨w.heap.size + 1, 6, none⟩ = some (.int .i64 id) := HR1.out.cell 6
  have x7 : w1.cell? ⟨w.heap.size + 1, 7, none⟩ = some (.int .i64 rc) := HR1.out.cell 7
  have x8 : w1.cell? ⟨w.heap.size + 1, 8, none⟩ = some (.int .i64 vk) := HR1.out.cell 8
  have x9 : w1.cell? ⟨w.heap.size + 1, 9, none⟩ = some (.int .i64 vc) := HR1.out.cell 9
  have x10 : w1.cell? ⟨w.heap.size + 1, 10, none⟩ = some (.string vt) := HR1.out.cell 10
  have x11 : w1.cell? ⟨w.heap.size + 1, 11, none⟩ = some (.int .i64 tr) := HR1.out.cell 11
  have x12 : w1.cell? ⟨w.heap.size + 1, 12, none⟩ = some (.int .i64 due) := HR1.out.cell 12
  go_wp2_with fail
  generalize hW : World.setCell (World.setCell w1 _ _) _ _ = W2
  have HQ2 : Hid (Blk w.heap.size #[.slice a5 L.length c5, .int .i64 nx] W2) := by show Blk _ _ _; rw [← hW]; exact (HQ1.out.set (i := 0) (by simp)).set (i := 1) (by simp)
  have HZ2 : Hid (Blk (w.heap.size + 1 + 1) #[.slice none 0 0, .int .i64 0] W2) := by show Blk _ _ _; rw [← hW]; exact (HZ1.out.other (by omega)).other (by omega)
  have HI2 : Hid (ItsP W2 W0.heap.size (.slice a5 L.length c5) L P1) := by show ItsP _ _ _ _ _; rw [← hW]; exact (HI1.out.setB (by dsimp only; omega) _).setB (by dsimp only; omega) _
  have b2 : Below w.heap.size w W2 := by rw [← hW]; exact (b1.setCell (by dsimp only; omega) _).setCell (by dsimp only; omega) _
  have z2 : W2.heap.size = w1.heap.size := by rw [← hW]; simp
  clear hW q0 q1 f0 f1 HQ1 HR1 HZ1 HI1 b1 x0 x1 x2 x3 x4 x5 x6 x7 x8 x9 x10 x11 x12
  refine (HRE.out _ b2).mono ?_
  rintro e w3 ⟨rfl, hb3⟩
  have z3 := hb3.size
  have b3 : Below w.heap.size w w3 := b2.trans (hb3.mono b2.size)
  have HQ3 : Hid (Blk w.heap.size #[.slice a5 L.length c5, .int .i64 nx] w3) := HQ2.out.below hb3
  have HZ3 : Hid (Blk (w.heap.size + 1 + 1) #[.slice none 0 0, .int .i64 0] w3) := HZ2.out.below hb3
  have HI3 : Hid (ItsP w3 W0.heap.size (.slice a5 L.length c5) L P1) := HI2.out.below hb3 (Nat.le_refl _)
  clear hb3 HQ2 HZ2 HI2 b2
  have hma := fun n w => mApp4 n #[.int .i64 id] w
  go_wp2_with fail
  refine (HAP.out _ _ P1 W0.heap.size b3 HQ3.out HI3.out (by omega) (by omega)).mono ?_
  rintro e w4 ⟨rfl, ⟨v', P', hQ4, hI4⟩, hk4⟩
  obtain ⟨a6, c6, hf6⟩ := hI4.form
  subst hf6
  have HQ4 : Hid (Blk w.heap.size #[.slice a6 L'.length c6, .int .i64 nx'] w4) := hQ4
  have HI4 : Hid (ItsP w4 W0.heap.size (.slice a6 L'.length c6) L' P') := hI4
  have HZ4 : Hid (Blk (w.heap.size + 1 + 1) #[.slice none 0 0, .int .i64 0] w4) := hk4.blk (by omega) (by omega) HZ3.out
  have b4 : Below w.heap.size w w4 := b3.trans (hk4.below (by omega))
  clear hQ4 hI4 hk4 HQ3 HI3 HZ3 b3 hma
  have q0 : w4.cell? ⟨w.heap.size, 0, none⟩ = some ((.slice a6 L'.length c6)) := HQ4.out.cell 0
  have q1 : w4.cell? ⟨w.heap.size, 1, none⟩ = some (.int .i64 nx') := HQ4.out.cell 1
  have r0 : w4.cell? ⟨w.heap.size + 1 + 1, 0, none⟩ = some (.slice none 0 0) := HZ4.out.cell 0
  have r1 : w4.cell? ⟨w.heap.size + 1 + 1, 1, none⟩ = some (.int .i64 0) := HZ4.out.cell 1
  have g0 := HZ4.out.free 0
  have g1 := HZ4.out.free 1
  go_wp2
  refine bodyPost_ret (v := .tuple #[.agg #[(.slice a6 L'.length c6), .int .i64 nx'], .bool ch]) (by simp [results, Tryz.results9, go_sem, r0, r1]) rfl ?_
  refine ⟨⟨_, P', rfl, ?_⟩, ?_⟩
  · refine ItsP.le (lo := W0.heap.size) ?_ (by omega)
    exact ((HI4.out).setB (by dsimp only; omega) _).setB (by dsimp only; omega) _
  · exact ((b4).setCell (by dsimp only; omega) _).setCell (by dsimp only; omega) _

set_option maxHeartbeats 8000000 in
set_option maxRecDepth 100000 in
theorem iaYes5 (L' : List It) (nx' : Int) (ch : Bool) (kind mid born : Int) (fr bo : ByteArray) (a3 : Option Addr) (n3 c3 : Nat) (id rc vk vc : Int) (vt : ByteArray) (tr due : Int) (nx : Int) (v : Value) (L : List It) (P : List (Value × Value)) (lo : Nat) (w : World) (h : ItsP w lo v L P) (hlo : lo ≤ w.heap.size) (hL : L.length ≤ 1048576) (hs : ∀ x ∈ L, SmallI x) (hre : ∀ wx, Below w.heap.size w wx → Calls Tryz.prog 28 #[.agg #[.int .i64 kind, .int .i64 mid, .int .i64 born, .string fr, .slice a3 n3 c3, .string bo, .int .i64 id, .int .i64 rc, .int .i64 vk, .int .i64 vc, .string vt, .int .i64 tr, .int .i64 due]] wx fun e w' => e = .returned (.tuple #[(.iface 110 (.agg #[.int .i64 id])), .bool true]) ∧ Below wx.heap.size wx w') (hap : ∀ (wx : World) (v0 : Value) (P0 : List (Value × Value)) (lo0 : Nat), Below w.heap.size w wx → Blk w.heap.size #[v0, .int .i64 nx] wx → ItsP wx lo0 v0 L P0 → lo0 ≤ wx.heap.size → w.heap.size < lo0 → Calls Tryz.prog 151 #[.agg #[.int .i64 id], .pointer (some ⟨w.heap.size, 0, none⟩)] wx fun e w' => e = .returned (.bool ch) ∧ (∃ v' P', Blk w.heap.size #[v', .int .i64 nx'] w' ∧ ItsP w' lo0 v' L' P') ∧ Kp w.heap.size lo0 wx w') :
    Calls Tryz.prog 9 #[.agg #[v, .int .i64 nx], .agg #[.int .i64 kind, .int .i64 mid, .int .i64 born, .string fr, .slice a3 n3 c3, .string bo, .int .i64 id, .int .i64 rc, .int .i64 vk, .int .i64 vc, .string vt, .int .i64 tr, .int .i64 due]] w fun e w' => (∃ u P', e = .returned (.tuple #[.agg #[u, .int .i64 nx'], .bool ch]) ∧ ItsP w' w.heap.size u L' P') ∧ Below w.heap.size w w' := by
  have HAP : Hid (∀ (wx : World) (v0 : Value) (P0 : List (Value × Value)) (lo0 : Nat), Below w.heap.size w wx → Blk w.heap.size #[v0, .int .i64 nx] wx → ItsP wx lo0 v0 L P0 → lo0 ≤ wx.heap.size → w.heap.size < lo0 → Calls Tryz.prog 151 #[.agg #[.int .i64 id], .pointer (some ⟨w.heap.size, 0, none⟩)] wx fun e w' => e = .returned (.bool ch) ∧ (∃ v' P', Blk w.heap.size #[v', .int .i64 nx'] w' ∧ ItsP w' lo0 v' L' P') ∧ Kp w.heap.size lo0 wx w') := hap
  clear hap
  obtain ⟨a1, c1, rfl⟩ := h.form
  have H : Hid (ItsP w lo (.slice a1 L.length c1) L P) := h
  have HS : Hid (∀ x ∈ L, SmallI x) := hs
  have HRE : Hid (∀ wx, Below w.heap.size w wx → Calls Tryz.prog 28 #[.agg #[.int .i64 kind, .int .i64 mid, .int .i64 born, .string fr, .slice a3 n3 c3, .string bo, .int .i64 id, .int .i64 rc, .int .i64 vk, .int .i64 vc, .string vt, .int .i64 tr, .int .i64 due]] wx fun e w' => e = .returned (.tuple #[(.iface 110 (.agg #[.int .i64 id])), .bool true]) ∧ Below wx.heap.size wx w') := hre
  clear h hs hre
  go_enter Tryz.func9, Tryz.ntmps9
  go_wp2_with fail
  generalize hW : World.alloc _ _ = W0
  have HQ0 : Hid (Blk w.heap.size #[.slice a1 L.length c1, .int .i64 nx] W0) := by show Blk _ _ _; rw [← hW]; exact (blk3I w _ _ _ _ _ _).1
  have HR0 : Hid (Blk (w.heap.size + 1) #[.int .i64 kind, .int .i64 mid, .int .i64 born, .string fr, .slice a3 n3 c3, .string bo, .int .i64 id, .int .i64 rc, .int .i64 vk, .int .i64 vc, .string vt, .int .i64 tr, .int .i64 due] W0) := by show Blk _ _ _; rw [← hW]; exact (blk3I w _ _ _ _ _ _).2.1
  have HZ0 : Hid (Blk (w.heap.size + 1 + 1) #[.slice none 0 0, .int .i64 0] W0) := by show Blk _ _ _; rw [← hW]; exact (blk3I w _ _ _ _ _ _).2.2
  have b0 : Below w.heap.size w W0 := by rw [← hW]; exact below3 _ _ _ _
  have z0 : W0.heap.size = w.heap.size + 3 := by rw [← hW]; simp
  clear hW
  refine (implCopyQ _ nx L P lo _ (H.out.below b0 (Nat.le_refl _)) (by omega) hL HS.out).mono ?_
  rintro e w1 ⟨⟨u, P1, rfl, S1⟩, hb1⟩
  obtain ⟨a5, c5, hf⟩ := S1.form
  subst hf
  have z1 := hb1.size
  have b1 : Below w.heap.size w w1 := b0.trans (hb1.mono b0.size)
  have HI1 : Hid (ItsP w1 W0.heap.size (.slice a5 L.length c5) L P1) := S1
  have HQ1 : Hid _ := HQ0.out.below hb1
  have HR1 : Hid _ := HR0.out.below hb1
  have HZ1 : Hid _ := HZ0.out.below hb1
  clear hb1 S1 HQ0 HR0 HZ0 b0 H
  have q0 : w1.cell? ⟨w.heap.size, 0, none⟩ = some (.slice a1 L.length c1) := HQ1.out.cell 0
  have q1 : w1.cell? ⟨w.heap.size, 1, none⟩ = some (.int .i64 nx) := HQ1.out.cell 1
  have f0 := HQ1.out.free 0
  have f1 := HQ1.out.free 1
  have x0 : w1.cell? ⟨w.heap.size + 1, 0, none⟩ = some (.int .i64 kind) := HR1.out.cell 0
  have x1 : w1.cell? ⟨w.heap.size + 1, 1, none⟩ = some (.int .i64 mid) := HR1.out.cell 1
  have x2 : w1.cell? ⟨w.heap.size + 1, 2, none⟩ = some (.int .i64 born) := HR1.out.cell 2
  have x3 : w1.cell? ⟨w.heap.size + 1, 3, none⟩ = some (.string fr) := HR1.out.cell 3
  have x4 : w1.cell? ⟨w.heap.size + 1, 4, none⟩ = some (.slice a3 n3 c3) := HR1.out.cell 4
  have x5 : w1.cell? ⟨w.heap.size + 1, 5, none⟩ = some (.string bo) := HR1.out.cell 5
  have x6 : w1.cell? ⟨w.heap.size + 1, 6, none⟩ = some (.int .i64 id) := HR1.out.cell 6
  have x7 : w1.cell? ⟨w.heap.size + 1, 7, none⟩ = some (.int .i64 rc) := HR1.out.cell 7
  have x8 : w1.cell? ⟨w.heap.size + 1, 8, none⟩ = some (.int .i64 vk) := HR1.out.cell 8
  have x9 : w1.cell? ⟨w.heap.size + 1, 9, none⟩ = some (.int .i64 vc) := HR1.out.cell 9
  have x10 : w1.cell? ⟨w.heap.size + 1, 10, none⟩ = some (.string vt) := HR1.out.cell 10
  have x11 : w1.cell? ⟨w.heap.size + 1, 11, none⟩ = some (.int .i64 tr) := HR1.out.cell 11
  have x12 : w1.cell? ⟨w.heap.size + 1, 12, none⟩ = some (.int .i64 due) := HR1.out.cell 12
  go_wp2_with fail
  generalize hW : World.setCell (World.setCell w1 _ _) _ _ = W2
  have HQ2 : Hid (Blk w.heap.size #[.slice a5 L.length c5, .int .i64 nx] W2) := by show Blk _ _ _; rw [← hW]; exact (HQ1.out.set (i := 0) (by simp)).set (i := 1) (by simp)
  have HZ2 : Hid (Blk (w.heap.size + 1 + 1) #[.slice none 0 0, .int .i64 0] W2) := by show Blk _ _ _; rw [← hW]; exact (HZ1.out.other (by omega)).other (by omega)
  have HI2 : Hid (ItsP W2 W0.heap.size (.slice a5 L.length c5) L P1) := by show ItsP _ _ _ _ _; rw [← hW]; exact (HI1.out.setB (by dsimp only; omega) _).setB (by dsimp only; omega) _
  have b2 : Below w.heap.size w W2 := by rw [← hW]; exact (b1.setCell (by dsimp only; omega) _).setCell (by dsimp only; omega) _
  have z2 : W2.heap.size = w1.heap.size := by rw [← hW]; simp
  clear hW q0 q1 f0 f1 HQ1 HR1 HZ1 HI1 b1 x0 x1 x2 x3 x4 x5 x6 x7 x8 x9 x10 x11 x12
  refine (HRE.out _ b2).mono ?_
  rintro e w3 ⟨rfl, hb3⟩
  have z3 := hb3.size
  have b3 : Below w.heap.size w w3 := b2.trans (hb3.mono b2.size)
  have HQ3 : Hid (Blk w.heap.size #[.slice a5 L.length c5, .int .i64 nx] w3) := HQ2.out.below hb3
  have HZ3 : Hid (Blk (w.heap.size + 1 + 1) #[.slice none 0 0, .int .i64 0] w3) := HZ2.out.below hb3
  have HI3 : Hid (ItsP w3 W0.heap.size (.slice a5 L.length c5) L P1) := HI2.out.below hb3 (Nat.le_refl _)
  clear hb3 HQ2 HZ2 HI2 b2
  have hma := fun n w => mApp5 n #[.int .i64 id] w
  go_wp2_with fail
  refine (HAP.out _ _ P1 W0.heap.size b3 HQ3.out HI3.out (by omega) (by omega)).mono ?_
  rintro e w4 ⟨rfl, ⟨v', P', hQ4, hI4⟩, hk4⟩
  obtain ⟨a6, c6, hf6⟩ := hI4.form
  subst hf6
  have HQ4 : Hid (Blk w.heap.size #[.slice a6 L'.length c6, .int .i64 nx'] w4) := hQ4
  have HI4 : Hid (ItsP w4 W0.heap.size (.slice a6 L'.length c6) L' P') := hI4
  have HZ4 : Hid (Blk (w.heap.size + 1 + 1) #[.slice none 0 0, .int .i64 0] w4) := hk4.blk (by omega) (by omega) HZ3.out
  have b4 : Below w.heap.size w w4 := b3.trans (hk4.below (by omega))
  clear hQ4 hI4 hk4 HQ3 HI3 HZ3 b3 hma
  have q0 : w4.cell? ⟨w.heap.size, 0, none⟩ = some ((.slice a6 L'.length c6)) := HQ4.out.cell 0
  have q1 : w4.cell? ⟨w.heap.size, 1, none⟩ = some (.int .i64 nx') := HQ4.out.cell 1
  have r0 : w4.cell? ⟨w.heap.size + 1 + 1, 0, none⟩ = some (.slice none 0 0) := HZ4.out.cell 0
  have r1 : w4.cell? ⟨w.heap.size + 1 + 1, 1, none⟩ = some (.int .i64 0) := HZ4.out.cell 1
  have g0 := HZ4.out.free 0
  have g1 := HZ4.out.free 1
  go_wp2
  refine bodyPost_ret (v := .tuple #[.agg #[(.slice a6 L'.length c6), .int .i64 nx'], .bool ch]) (by simp [results, Tryz.results9, go_sem, r0, r1]) rfl ?_
  refine ⟨⟨_, P', rfl, ?_⟩, ?_⟩
  · refine ItsP.le (lo := W0.heap.size) ?_ (by omega)
    exact ((HI4.out).setB (by dsimp only; omega) _).setB (by dsimp only; omega) _
  · exact ((b4).setCell (by dsimp only; omega) _).setCell (by dsimp only; omega) _

set_option maxHeartbeats 8000000 in
set_option maxRecDepth 100000 in
theorem iaYes6 (L' : List It) (nx' : Int) (ch : Bool) (kind mid born : Int) (fr bo : ByteArray) (a3 : Option Addr) (n3 c3 : Nat) (id rc vk vc : Int) (vt : ByteArray) (tr due : Int) (nx : Int) (v : Value) (L : List It) (P : List (Value × Value)) (lo : Nat) (w : World) (h : ItsP w lo v L P) (hlo : lo ≤ w.heap.size) (hL : L.length ≤ 1048576) (hs : ∀ x ∈ L, SmallI x) (hre : ∀ wx, Below w.heap.size w wx → Calls Tryz.prog 28 #[.agg #[.int .i64 kind, .int .i64 mid, .int .i64 born, .string fr, .slice a3 n3 c3, .string bo, .int .i64 id, .int .i64 rc, .int .i64 vk, .int .i64 vc, .string vt, .int .i64 tr, .int .i64 due]] wx fun e w' => e = .returned (.tuple #[(.iface 111 (.agg #[.int .i64 id])), .bool true]) ∧ Below wx.heap.size wx w') (hap : ∀ (wx : World) (v0 : Value) (P0 : List (Value × Value)) (lo0 : Nat), Below w.heap.size w wx → Blk w.heap.size #[v0, .int .i64 nx] wx → ItsP wx lo0 v0 L P0 → lo0 ≤ wx.heap.size → w.heap.size < lo0 → Calls Tryz.prog 158 #[.agg #[.int .i64 id], .pointer (some ⟨w.heap.size, 0, none⟩)] wx fun e w' => e = .returned (.bool ch) ∧ (∃ v' P', Blk w.heap.size #[v', .int .i64 nx'] w' ∧ ItsP w' lo0 v' L' P') ∧ Kp w.heap.size lo0 wx w') :
    Calls Tryz.prog 9 #[.agg #[v, .int .i64 nx], .agg #[.int .i64 kind, .int .i64 mid, .int .i64 born, .string fr, .slice a3 n3 c3, .string bo, .int .i64 id, .int .i64 rc, .int .i64 vk, .int .i64 vc, .string vt, .int .i64 tr, .int .i64 due]] w fun e w' => (∃ u P', e = .returned (.tuple #[.agg #[u, .int .i64 nx'], .bool ch]) ∧ ItsP w' w.heap.size u L' P') ∧ Below w.heap.size w w' := by
  have HAP : Hid (∀ (wx : World) (v0 : Value) (P0 : List (Value × Value)) (lo0 : Nat), Below w.heap.size w wx → Blk w.heap.size #[v0, .int .i64 nx] wx → ItsP wx lo0 v0 L P0 → lo0 ≤ wx.heap.size → w.heap.size < lo0 → Calls Tryz.prog 158 #[.agg #[.int .i64 id], .pointer (some ⟨w.heap.size, 0, none⟩)] wx fun e w' => e = .returned (.bool ch) ∧ (∃ v' P', Blk w.heap.size #[v', .int .i64 nx'] w' ∧ ItsP w' lo0 v' L' P') ∧ Kp w.heap.size lo0 wx w') := hap
  clear hap
  obtain ⟨a1, c1, rfl⟩ := h.form
  have H : Hid (ItsP w lo (.slice a1 L.length c1) L P) := h
  have HS : Hid (∀ x ∈ L, SmallI x) := hs
  have HRE : Hid (∀ wx, Below w.heap.size w wx → Calls Tryz.prog 28 #[.agg #[.int .i64 kind, .int .i64 mid, .int .i64 born, .string fr, .slice a3 n3 c3, .string bo, .int .i64 id, .int .i64 rc, .int .i64 vk, .int .i64 vc, .string vt, .int .i64 tr, .int .i64 due]] wx fun e w' => e = .returned (.tuple #[(.iface 111 (.agg #[.int .i64 id])), .bool true]) ∧ Below wx.heap.size wx w') := hre
  clear h hs hre
  go_enter Tryz.func9, Tryz.ntmps9
  go_wp2_with fail
  generalize hW : World.alloc _ _ = W0
  have HQ0 : Hid (Blk w.heap.size #[.slice a1 L.length c1, .int .i64 nx] W0) := by show Blk _ _ _; rw [← hW]; exact (blk3I w _ _ _ _ _ _).1
  have HR0 : Hid (Blk (w.heap.size + 1) #[.int .i64 kind, .int .i64 mid, .int .i64 born, .string fr, .slice a3 n3 c3, .string bo, .int .i64 id, .int .i64 rc, .int .i64 vk, .int .i64 vc, .string vt, .int .i64 tr, .int .i64 due] W0) := by show Blk _ _ _; rw [← hW]; exact (blk3I w _ _ _ _ _ _).2.1
  have HZ0 : Hid (Blk (w.heap.size + 1 + 1) #[.slice none 0 0, .int .i64 0] W0) := by show Blk _ _ _; rw [← hW]; exact (blk3I w _ _ _ _ _ _).2.2
  have b0 : Below w.heap.size w W0 := by rw [← hW]; exact below3 _ _ _ _
  have z0 : W0.heap.size = w.heap.size + 3 := by rw [← hW]; simp
  clear hW
  refine (implCopyQ _ nx L P lo _ (H.out.below b0 (Nat.le_refl _)) (by omega) hL HS.out).mono ?_
  rintro e w1 ⟨⟨u, P1, rfl, S1⟩, hb1⟩
  obtain ⟨a5, c5, hf⟩ := S1.form
  subst hf
  have z1 := hb1.size
  have b1 : Below w.heap.size w w1 := b0.trans (hb1.mono b0.size)
  have HI1 : Hid (ItsP w1 W0.heap.size (.slice a5 L.length c5) L P1) := S1
  have HQ1 : Hid _ := HQ0.out.below hb1
  have HR1 : Hid _ := HR0.out.below hb1
  have HZ1 : Hid _ := HZ0.out.below hb1
  clear hb1 S1 HQ0 HR0 HZ0 b0 H
  have q0 : w1.cell? ⟨w.heap.size, 0, none⟩ = some (.slice a1 L.length c1) := HQ1.out.cell 0
  have q1 : w1.cell? ⟨w.heap.size, 1, none⟩ = some (.int .i64 nx) := HQ1.out.cell 1
  have f0 := HQ1.out.free 0
  have f1 := HQ1.out.free 1
  have x0 : w1.cell? ⟨w.heap.size + 1, 0, none⟩ = some (.int .i64 kind) := HR1.out.cell 0
  have x1 : w1.cell? ⟨w.heap.size + 1, 1, none⟩ = some (.int .i64 mid) := HR1.out.cell 1
  have x2 : w1.cell? ⟨w.heap.size + 1, 2, none⟩ = some (.int .i64 born) := HR1.out.cell 2
  have x3 : w1.cell? ⟨w.heap.size + 1, 3, none⟩ = some (.string fr) := HR1.out.cell 3
  have x4 : w1.cell? ⟨w.heap.size + 1, 4, none⟩ = some (.slice a3 n3 c3) := HR1.out.cell 4
  have x5 : w1.cell? ⟨w.heap.size + 1, 5, none⟩ = some (.string bo) := HR1.out.cell 5
  have x6 : w1.cell? ⟨w.heap.size + 1, 6, none⟩ = some (.int .i64 id) := HR1.out.cell 6
  have x7 : w1.cell? ⟨w.heap.size + 1, 7, none⟩ = some (.int .i64 rc) := HR1.out.cell 7
  have x8 : w1.cell? ⟨w.heap.size + 1, 8, none⟩ = some (.int .i64 vk) := HR1.out.cell 8
  have x9 : w1.cell? ⟨w.heap.size + 1, 9, none⟩ = some (.int .i64 vc) := HR1.out.cell 9
  have x10 : w1.cell? ⟨w.heap.size + 1, 10, none⟩ = some (.string vt) := HR1.out.cell 10
  have x11 : w1.cell? ⟨w.heap.size + 1, 11, none⟩ = some (.int .i64 tr) := HR1.out.cell 11
  have x12 : w1.cell? ⟨w.heap.size + 1, 12, none⟩ = some (.int .i64 due) := HR1.out.cell 12
  go_wp2_with fail
  generalize hW : World.setCell (World.setCell w1 _ _) _ _ = W2
  have HQ2 : Hid (Blk w.heap.size #[.slice a5 L.length c5, .int .i64 nx] W2) := by show Blk _ _ _; rw [← hW]; exact (HQ1.out.set (i := 0) (by simp)).set (i := 1) (by simp)
  have HZ2 : Hid (Blk (w.heap.size + 1 + 1) #[.slice none 0 0, .int .i64 0] W2) := by show Blk _ _ _; rw [← hW]; exact (HZ1.out.other (by omega)).other (by omega)
  have HI2 : Hid (ItsP W2 W0.heap.size (.slice a5 L.length c5) L P1) := by show ItsP _ _ _ _ _; rw [← hW]; exact (HI1.out.setB (by dsimp only; omega) _).setB (by dsimp only; omega) _
  have b2 : Below w.heap.size w W2 := by rw [← hW]; exact (b1.setCell (by dsimp only; omega) _).setCell (by dsimp only; omega) _
  have z2 : W2.heap.size = w1.heap.size := by rw [← hW]; simp
  clear hW q0 q1 f0 f1 HQ1 HR1 HZ1 HI1 b1 x0 x1 x2 x3 x4 x5 x6 x7 x8 x9 x10 x11 x12
  refine (HRE.out _ b2).mono ?_
  rintro e w3 ⟨rfl, hb3⟩
  have z3 := hb3.size
  have b3 : Below w.heap.size w w3 := b2.trans (hb3.mono b2.size)
  have HQ3 : Hid (Blk w.heap.size #[.slice a5 L.length c5, .int .i64 nx] w3) := HQ2.out.below hb3
  have HZ3 : Hid (Blk (w.heap.size + 1 + 1) #[.slice none 0 0, .int .i64 0] w3) := HZ2.out.below hb3
  have HI3 : Hid (ItsP w3 W0.heap.size (.slice a5 L.length c5) L P1) := HI2.out.below hb3 (Nat.le_refl _)
  clear hb3 HQ2 HZ2 HI2 b2
  have hma := fun n w => mApp6 n #[.int .i64 id] w
  go_wp2_with fail
  refine (HAP.out _ _ P1 W0.heap.size b3 HQ3.out HI3.out (by omega) (by omega)).mono ?_
  rintro e w4 ⟨rfl, ⟨v', P', hQ4, hI4⟩, hk4⟩
  obtain ⟨a6, c6, hf6⟩ := hI4.form
  subst hf6
  have HQ4 : Hid (Blk w.heap.size #[.slice a6 L'.length c6, .int .i64 nx'] w4) := hQ4
  have HI4 : Hid (ItsP w4 W0.heap.size (.slice a6 L'.length c6) L' P') := hI4
  have HZ4 : Hid (Blk (w.heap.size + 1 + 1) #[.slice none 0 0, .int .i64 0] w4) := hk4.blk (by omega) (by omega) HZ3.out
  have b4 : Below w.heap.size w w4 := b3.trans (hk4.below (by omega))
  clear hQ4 hI4 hk4 HQ3 HI3 HZ3 b3 hma
  have q0 : w4.cell? ⟨w.heap.size, 0, none⟩ = some ((.slice a6 L'.length c6)) := HQ4.out.cell 0
  have q1 : w4.cell? ⟨w.heap.size, 1, none⟩ = some (.int .i64 nx') := HQ4.out.cell 1
  have r0 : w4.cell? ⟨w.heap.size + 1 + 1, 0, none⟩ = some (.slice none 0 0) := HZ4.out.cell 0
  have r1 : w4.cell? ⟨w.heap.size + 1 + 1, 1, none⟩ = some (.int .i64 0) := HZ4.out.cell 1
  have g0 := HZ4.out.free 0
  have g1 := HZ4.out.free 1
  go_wp2
  refine bodyPost_ret (v := .tuple #[.agg #[(.slice a6 L'.length c6), .int .i64 nx'], .bool ch]) (by simp [results, Tryz.results9, go_sem, r0, r1]) rfl ?_
  refine ⟨⟨_, P', rfl, ?_⟩, ?_⟩
  · refine ItsP.le (lo := W0.heap.size) ?_ (by omega)
    exact ((HI4.out).setB (by dsimp only; omega) _).setB (by dsimp only; omega) _
  · exact ((b4).setCell (by dsimp only; omega) _).setCell (by dsimp only; omega) _
end Go.Proofs.YtlolnfpfipnfeaaGreat
