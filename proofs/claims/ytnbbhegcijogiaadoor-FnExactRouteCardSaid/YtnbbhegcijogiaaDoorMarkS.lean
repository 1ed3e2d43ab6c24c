import Derived.Test.YtnbbhegcijogiaaDoorStrs
import Derived.Laws.BytesString
import Derived.Deep.RegionWith
import Derived.Deep.DrawnRows
namespace Go.Proofs.YtnbbhegcijogiaaDoor
open Go.ChangeShapes Go.WideShapes Go.ChangeAt Go.RowKit
attribute [local go_sem ↓] Go.wp_at_zero Go.wp_at_succ

/-- the decimal digits of k ahead of o -/
def markGo : Nat → Nat → List UInt8 → List UInt8
  | 0, _, o => o
  | f + 1, k, o => if k = 0 then o else markGo f (k / 10) ((48 + UInt8.ofNat (k % 10)) :: o)
def markT (k : Nat) : ByteArray := ⟨(109 :: markGo k k []).toArray⟩
set_option maxRecDepth 100000 in
theorem markGo_zero (f : Nat) (o : List UInt8) : markGo f 0 o = o := by cases f <;> simp [markGo]
theorem markGo_step (f k : Nat) (o : List UInt8) (hk : 0 < k) (hf : k ≤ f) : markGo f k o = markGo (f - 1) (k / 10) ((48 + UInt8.ofNat (k % 10)) :: o) := by
  obtain ⟨g, rfl⟩ : ∃ g, f = g + 1 := ⟨f - 1, by omega⟩
  rw [markGo, if_neg (by omega)]; rfl

set_option maxRecDepth 100000 in
theorem str_cons (a : UInt8) (o : List UInt8) : Value.string ({ data := #[a] } ++ { data := o.toArray }) = Value.string ⟨(a :: o).toArray⟩ := by
  have := ByteArray.mk_append_mk [a] o
  exact congrArg Value.string this
set_option maxRecDepth 100000 in
/-- one byte cell of a new block as a string -/
theorem run_one (w : World) (n : Int) :
    (convert 22 9 (.slice (some ⟨w.heap.size, 0, none⟩) 1 1)).run Tryd.prog (w.alloc (.cells #[.int .u8 n] 5)) =
      .ok (.string ⟨#[UInt8.ofNat n.toNat]⟩) (w.alloc (.cells #[.int .u8 n] 5)) := by
  have hl : (loadCells ⟨w.heap.size, 0, none⟩ 1).run Tryd.prog (w.alloc (.cells #[.int .u8 n] 5)) = .ok (([n] : List Int).map (Value.int .u8)).toArray (w.alloc (.cells #[.int .u8 n] 5)) := by
    refine run_loadCells_list (P := Tryd.prog) _ ⟨w.heap.size, 0, none⟩ [.int .u8 n] ?_
    intro j v hj
    rw [← hj]
    have ea : (⟨w.heap.size, 0, none⟩ : Addr).add j = ⟨w.heap.size, j, none⟩ := by simp [Addr.add]; omega
    rw [ea, World.cell?_alloc_mark]
    simp
  rw [run_convert_bytes_string _ 22 9 5 _ _ _ Tryd.underlying22 Tryd.underlying5 Tryd.underlying9, run_bytesToString _ _ _ _ _ hl]
  rfl

set_option maxHeartbeats 1000000 in
set_option maxRecDepth 100000 in
theorem markText (k : Nat) (w : World) (h1 : 1 ≤ k) (h2 : k ≤ 16777216) :
    Calls Tryd.prog 33 #[.int .i64 k] w fun e w' => e = .returned (.string (markT k)) ∧ Below w.heap.size w w' := by
  go_enter Tryd.func33, Tryd.ntmps33
  go_wp2
  go_loopw [0, 3] (fun kv ov wr => ∃ (j f : Nat) (o : List UInt8), kv = .int .i64 j ∧ ov = .string ⟨o.toArray⟩ ∧ j ≤ f ∧ o.length + j ≤ k ∧ Hid (markGo f j o = markGo k k []) ∧ Below w.heap.size w wr) (fun kv _ _ => (intOf kv).toNat)
  case atStart => exact ⟨k, k, [], rfl, rfl, Nat.le_refl _, by simp, rfl, Below.refl _ _⟩
  case round =>
    obtain ⟨j, f, o, rfl, rfl, hf, hl, HG, hb⟩ := hrel
    by_cases hj : 0 < j
    · have hc := run_one wr (48 + (j : Int) % 10)
      go_wp2
      go_roundw
      case rel => exact ⟨j / 10, f - 1, _, by go_num, str_cons _ o, by omega, by simp; omega, by rw [Hid, ← markGo_step f j o hj hf]; exact HG.out, hb.alloc hb.size _⟩
      case measure => simp [intOf]; omega
    · obtain rfl : j = 0 := by omega
      go_wp2
      go_ret
      refine ⟨?_, hb⟩
      have e := HG.out
      rw [markGo_zero] at e
      rw [markT, ← e]
      exact congrArg Ending.returned (str_cons 109 o)

set_option maxRecDepth 100000 in
/-- the same at whatever int -/
theorem markTextI (n : Int) (w : World) (h1 : 1 ≤ n) (h2 : n ≤ 16777216) :
    Calls Tryd.prog 33 #[.int .i64 n] w fun e w' => e = .returned (.string (markT n.toNat)) ∧ Below w.heap.size w w' := by
  obtain ⟨k, rfl⟩ := Int.eq_ofNat_of_zero_le (show 0 ≤ n by omega)
  exact markText k w (by omega) (by omega)

/-- the marks from k on -/
def marks (k n : Nat) : List ByteArray := (List.range n).map fun i => markT (k + i)
set_option maxRecDepth 100000 in
theorem marks_length (k n : Nat) : (marks k n).length = n := by simp [marks]
theorem marks_step (k j : Nat) (L : List ByteArray) (hj : j < L.length) : (marks k j ++ L.drop j).set j (markT (k + j)) = marks k (j + 1) ++ L.drop (j + 1) := by
  rw [List.set_append_right _ _ (by rw [marks_length]; exact Nat.le_refl _), marks_length, Nat.sub_self, List.drop_eq_getElem_cons hj, List.set_cons_zero]
  simp [marks, List.range_succ]

set_option maxHeartbeats 1000000 in
set_option maxRecDepth 100000 in
theorem markStrs (v : Value) (L : List ByteArray) (lo k : Nat) (w : World) (h : Strs w lo v L) (hlo : lo ≤ w.heap.size) (hk : 1 ≤ k) (hm : k + L.length ≤ 16777216) :
    Calls Tryd.prog 14 #[v, .int .i64 k] w fun e w' => e = .returned (.int .i64 ((k + L.length : Nat) : Int)) ∧ Strs w' lo v (marks k L.length) ∧ Below lo w w' := by
  by_cases h0 : L.length = 0
  · have HS : Hid (Strs w lo v (marks k L.length)) := by
      rw [h0]
      have hL := List.eq_nil_of_length_eq_zero h0
      rw [hL] at h
      exact h
    have hk0 : k + L.length = k := by omega
    rw [hk0]
    obtain ⟨a1, c1, hv⟩ : ∃ a c, v = .slice a 0 c := by
      rcases h.cases with ⟨rfl, _⟩ | ⟨g, cap, rfl, _⟩
      · exact ⟨_, _, rfl⟩
      · rw [h0]; exact ⟨_, _, rfl⟩
    subst hv
    clear h h0 hk0
    go_enter Tryd.func14, Tryd.ntmps14
    go_wp2
    refine wp_loop_rounds 1 ?_; rw [rounds_succ]
    go_wp2
    go_ret
    exact ⟨rfl, HS.out, Below.refl _ _⟩
  · obtain ⟨g, cap, hv, _⟩ : ∃ g cap, v = .slice (some ⟨g, 0, none⟩) L.length cap ∧ StrsAt w lo g cap L := by
      rcases h.cases with ⟨_, hL⟩ | h
      · rw [hL] at h0; exact absurd rfl h0
      · exact h
    subst hv
    have HI : Hid (Strs w lo (.slice (some ⟨g, 0, none⟩) L.length cap) (marks k 0 ++ L.drop 0)) := h
    clear h
    have hl1 : L.length ≤ 16777216 := by omega
    go_enter Tryd.func14, Tryd.ntmps14
    go_wp2
    go_loopw [1, 5] (fun kv i wr => ∃ j : Nat, j ≤ L.length ∧ i = .int .i64 j ∧ kv = .int .i64 ((k + j : Nat) : Int) ∧ Hid (Strs wr lo (.slice (some ⟨g, 0, none⟩) L.length cap) (marks k j ++ L.drop j)) ∧ Below lo w wr) (fun _ i _ => L.length - (intOf i).toNat)
    case atStart => exact ⟨0, Nat.zero_le _, rfl, rfl, HI, Below.refl _ _⟩
    case round =>
      obtain ⟨j, hj, rfl, rfl, HS, hb⟩ := hrel
      by_cases hlt : j < L.length
      · go_wp2_with fail
        refine (markTextI _ _ (by omega) (by omega)).mono ?_
        rintro e w1 ⟨rfl, hb1⟩
        have hkj : ((k : Int) + (j : Int)).toNat = k + j := by omega
        rw [hkj]
        have HS1 : Hid (Strs w1 lo (.slice (some ⟨g, 0, none⟩) L.length cap) (marks k j ++ L.drop j)) := strs_below HS.out hb1 (Nat.le_refl _)
        have hlw : lo ≤ wr.heap.size := by have := hb.size; omega
        have hlen : (marks k j ++ L.drop j).length = L.length := by simp [marks_length]; omega
        obtain ⟨x, ec⟩ : ∃ x, w1.cell? ⟨g, j, none⟩ = some (.string x) := ⟨_, HS1.out.at.1.cell j (by omega)⟩
        have ef := HS1.out.at.1.free j
        have hg : lo ≤ g := HS1.out.at.1.lo
        clear hkj hlen
        go_wp2
        go_roundw
        case rel =>
          refine ⟨j + 1, by omega, by go_num, by go_num, ?_, (hb.trans (hb1.mono hlw)).setCell hg _⟩
          show Strs _ _ _ _
          rw [← marks_step k j L hlt]
          exact strs_set HS1.out _
        case measure => simp [intOf]; omega
      · obtain rfl : j = L.length := by omega
        go_wp2
        go_ret
        refine ⟨rfl, ?_, hb⟩
        have e := HS.out
        rw [List.drop_length, List.append_nil] at e
        exact e

set_option maxRecDepth 100000 in
theorem marks_get (k n j : Nat) (h : j < (marks k n).length) : (marks k n)[j] = markT (k + j) := by simp [marks]

end Go.Proofs.YtnbbhegcijogiaaDoor
