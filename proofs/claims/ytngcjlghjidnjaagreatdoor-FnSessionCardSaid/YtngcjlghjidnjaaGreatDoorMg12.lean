import Derived.Test.YtngcjlghjidnjaaGreatDoorMg4
import Derived.Laws.BytesString
import Derived.Lib.ConvBytes
import Derived.SliceStrings
import Derived.Laws.MakeOwn
import Derived.Test.YtngcjlghjidnjaaGreatDoorMg3
import Derived.Test.YtngcjlghjidnjaaGreatDoorMg6
namespace Go.Proofs.YtngcjlghjidnjaaGreatDoor
open Go.ChangeShapes Go.WideShapes Go.ChangeAt Go.RowKit

/-- the text of byte numbers -/
def ofInts (ns : List Int) : ByteArray := ns.foldl (fun r n => r.push (UInt8.ofNat n.toNat)) ByteArray.empty
set_option maxRecDepth 100000 in
theorem ofInts_size (ns : List Int) : (ofInts ns).size = ns.length := by
  unfold ofInts
  suffices h : ∀ (ns : List Int) (s : ByteArray), (ns.foldl (fun r n => r.push (UInt8.ofNat n.toNat)) s).size = s.size + ns.length by
    have := h ns ByteArray.empty
    simpa using this
  intro ns
  induction ns with
  | nil => intro s; simp
  | cons n ns ih => intro s; rw [List.foldl_cons, ih]; simp [ByteArray.size_push]; omega
def bytesI (s : ByteArray) : List Int := s.data.toList.map fun b => (b.toNat : Int)
set_option maxRecDepth 100000 in
/-- byte cells as a text -/
theorem run_cells_str {w : World} {g cap : Nat} {ns : List Int} (h : ∀ j (hj : j < ns.length), w.cell? ⟨g, j, none⟩ = some (.int .u8 ns[j])) :
    (convert 22 9 (.slice (some ⟨g, 0, none⟩) ns.length cap)).run Tryz.prog w = .ok (.string (ofInts ns)) w := by
  rw [run_convert_bytes_string _ 22 9 5 _ _ _ Tryz.underlying22 Tryz.underlying5 Tryz.underlying9]
  refine run_bytesToString _ _ _ _ _ ?_
  have e := run_loadCells_list (P := Tryz.prog) w ⟨g, 0, none⟩ (ns.map (Value.int .u8)) ?_
  · rwa [List.length_map] at e
  · intro j u hj
    have ea : (⟨g, 0, none⟩ : Addr).add j = ⟨g, j, none⟩ := by simp [Addr.add]; omega
    have hjl : j < ns.length := by
      have := (List.getElem?_eq_some_iff.1 hj).1
      simpa using this
    rw [ea, h j hjl]
    rw [List.getElem?_map, List.getElem?_eq_getElem hjl] at hj
    exact hj
set_option maxRecDepth 100000 in
/-- a text as a new row of bytes -/
theorem run_str_cells (w : World) (s : ByteArray) : ∃ W1 cap, (convert 9 22 (.string s)).run Tryz.prog w = .ok (.slice (some ⟨w.heap.size, 0, none⟩) s.size cap) W1 ∧ Below w.heap.size w W1 ∧ W1.heap.size = w.heap.size + 1 ∧
    (∀ j (hj : j < (bytesI s).length), W1.cell? ⟨w.heap.size, j, none⟩ = some (.int .u8 (bytesI s)[j])) ∧ (∀ j, j < s.size → W1.frozen? ⟨w.heap.size, j, none⟩ = false) := by
  refine ⟨Lib.bytesWorld w 5 s, _, Lib.run_convert_string_bytes w 9 22 5 s Tryz.underlying9 Tryz.underlying22 Tryz.underlying5, ⟨rfl, rfl, rfl, ?_, fun k hk => Lib.bytesWorld_at_old w _ s k hk⟩, Lib.bytesWorld_size w _ s, fun j hj => ?_, fun j hj => ?_⟩
  · rw [Lib.bytesWorld_size]; omega
  · have hjs : j < s.size := by simpa [bytesI] using hj
    rw [Lib.bytesWorld_cell w _ s j hjs]
    have hl : j < s.data.toList.length := hjs
    simp only [bytesI, List.getElem_map]
    rw [List.getD_eq_getElem?_getD, List.getElem?_eq_getElem hl]
    rfl
  · have hsz : s.size ≤ (Lib.bytesCells w 5 s).size := by
      have : s.data.size = s.size := rfl
      simp [Lib.bytesCells]
    simp [World.frozen?, Lib.bytesWorld_at_new]
    omega
end Go.Proofs.YtngcjlghjidnjaaGreatDoor
namespace Go.Proofs.YtngcjlghjidnjaaGreatDoor
open Go.ChangeShapes Go.WideShapes Go.ChangeAt Go.RowKit

/-- a slice of strings that can be read: none, or the cells of a block from off on -/
def ArgS (w : World) (v : Value) (L : List ByteArray) : Prop :=
  L.length ≤ maxLen ∧ (∀ s ∈ L, s.size ≤ maxLen) ∧ ((L = [] ∧ ∃ a c, v = .slice a 0 c) ∨ ∃ b off cap, v = .slice (some ⟨b, off, none⟩) L.length cap ∧ b < w.heap.size ∧ ∀ i (hi : i < L.length), w.cell? ⟨b, off + i, none⟩ = some (.string L[i]))

set_option maxRecDepth 100000 in
theorem ArgS.below {w w1 : World} {v : Value} {L : List ByteArray} (h : ArgS w v L) (hb : Below w.heap.size w w1) : ArgS w1 v L := by
  refine ⟨h.1, h.2.1, ?_⟩
  rcases h.2.2 with h0 | ⟨b, off, cap, hv, hlt, hc⟩
  · exact .inl h0
  · exact .inr ⟨b, off, cap, hv, Nat.lt_of_lt_of_le hlt hb.size, fun i hi => (hb.cell (p := ⟨b, off + i, none⟩) hlt).trans (hc i hi)⟩

set_option maxRecDepth 100000 in
theorem openStrs {H : Type} {enc : TypeId × Value → H} {W : World} {b0 : Nat} {v : Value} {d : DataW H} {p : List MemPlace} (hv : Value.okWide Tryz.prog W .any b0 23 v) (h : DataW.Trod enc Tryz.prog W 0 (fun _ => true) true 23 v d p) : ∃ L, ArgS W v L := by
  obtain ⟨a0, len, cap, rfl⟩ := okWide_slice Tryz.underlying23 hv
  obtain ⟨fuel, hf⟩ := h
  rcases open_strings Tryz.underlying23 Tryz.underlying9 (by kernel_rfl) hf with ⟨hcs, _⟩ | ⟨a, len', cap', ss, hcs, _, hl, hm, hz, _, hcell, hws⟩
  · simp [Value.cells] at hcs
    obtain ⟨rfl, rfl, rfl⟩ := hcs
    exact ⟨[], Nat.zero_le _, (fun s hs => by cases hs), .inl ⟨rfl, _, _, rfl⟩⟩
  · simp [Value.cells] at hcs
    obtain ⟨rfl, rfl, rfl⟩ := hcs
    have hz' : ss.length = cap := by simpa using hz
    by_cases h0 : len = 0
    · subst h0
      exact ⟨[], Nat.zero_le _, (fun s hs => by cases hs), .inl ⟨rfl, _, _, rfl⟩⟩
    · obtain ⟨b, off, spot⟩ := a
      have hc0 := hcell 0 (by omega)
      have hspot : spot = none := by simpa [Addr.add] using World.cell?_spot hc0
      subst hspot
      have hlt : (ss.take len).length = len := by simp; omega
      refine ⟨ss.take len, by rw [hlt]; omega, fun s hs => hws s (List.mem_of_mem_take hs), .inr ⟨b, off, cap, by rw [hlt], ?_, fun i hi => ?_⟩⟩
      · by_cases hb : b < W.heap.size
        · exact hb
        · exfalso
          have e : W.heap[b]? = none := Array.getElem?_eq_none (by omega)
          have ea : (⟨b, off, none⟩ : Addr).add 0 = ⟨b, off, none⟩ := by simp [Addr.add]
          rw [ea] at hc0
          simp [World.cell?, e] at hc0
      · rw [hlt] at hi
        have hci := hcell i (by omega)
        have ea : (⟨b, off, none⟩ : Addr).add i = ⟨b, off + i, none⟩ := by by_cases hi0 : i = 0 <;> simp [Addr.add, hi0]
        rw [ea] at hci
        rw [hci]
        congr 2
        rw [List.getD_eq_getElem?_getD, List.getElem?_eq_getElem (by omega)]
        simp

def sumSz (L : List ByteArray) : Nat := (L.map ByteArray.size).sum
set_option maxRecDepth 100000 in
theorem sumSz_take (L : List ByteArray) (k : Nat) (h : k < L.length) : sumSz (L.take (k + 1)) = sumSz (L.take k) + L[k].size := by
  unfold sumSz
  rw [List.take_succ_eq_append_getElem h, List.map_append, List.sum_append]
  simp only [List.map_cons, List.map_nil, List.sum_cons, List.sum_nil, Nat.add_zero]
set_option maxRecDepth 100000 in
theorem sumSz_take_le (L : List ByteArray) (k : Nat) : sumSz (L.take k) ≤ sumSz L := by
  unfold sumSz
  conv => rhs; rw [← List.take_append_drop k L, List.map_append, List.sum_append]
  exact Nat.le_add_right _ _
set_option maxRecDepth 100000 in
theorem sumSz_le (L : List ByteArray) (k n : Nat) (h : L.length ≤ n) (hs : ∀ s ∈ L, s.size ≤ k) : sumSz L ≤ n * k := by
  induction L generalizing n with
  | nil => simp [sumSz]
  | cons p L ih =>
    obtain ⟨n', rfl⟩ : ∃ n', n = n' + 1 := ⟨n - 1, by simp at h; omega⟩
    have h1 := ih n' (by simpa using h) (fun s hm => hs s (List.mem_cons_of_mem _ hm))
    have h2 := hs p (List.mem_cons_self ..)
    simp only [sumSz, List.map_cons, List.sum_cons] at h1 ⊢
    rw [Nat.succ_mul]
    omega
set_option maxRecDepth 100000 in
theorem strs_args {w : World} {lo : Nat} {v : Value} {L : List ByteArray} (h : Strs w lo v L) (hL : L.length ≤ maxLen) (hs : ∀ s ∈ L, s.size ≤ maxLen) : ArgS w v L := by
  refine ⟨hL, hs, ?_⟩
  rcases h.cases with ⟨rfl, rfl⟩ | ⟨g, cap, rfl, hg⟩
  · exact .inl ⟨rfl, _, _, rfl⟩
  · exact .inr ⟨g, 0, cap, rfl, hg.lt, fun i hi => by rw [Nat.zero_add]; exact hg.cell i hi⟩
end Go.Proofs.YtngcjlghjidnjaaGreatDoor
namespace Go.Proofs.YtngcjlghjidnjaaGreatDoor
open Go.ChangeShapes Go.WideShapes Go.ChangeAt Go.RowKit

open Pcs
/-- a byte's number with small letters made great -/
def upI (c : Int) : Int := if 97 ≤ c ∧ c ≤ 122 then c - 32 else c
def upB (s : ByteArray) : ByteArray := ofInts ((bytesI s).map upI)
theorem up_step (L : List Int) (k : Nat) (h : k < L.length) : ((L.take k).map upI ++ L.drop k).set k (upI L[k]) = (L.take (k + 1)).map upI ++ L.drop (k + 1) := by
  have hl : ((L.take k).map upI).length = k := by simp; omega
  rw [List.set_append_right _ _ (by omega), hl, Nat.sub_self, List.drop_eq_getElem_cons h, List.set_cons_zero, List.take_succ_eq_append_getElem h, List.map_append, List.append_assoc]
  rfl
theorem up_same (L : List Int) (k : Nat) (h : k < L.length) (hn : upI L[k] = L[k]) : (L.take k).map upI ++ L.drop k = (L.take (k + 1)).map upI ++ L.drop (k + 1) := by
  rw [List.take_succ_eq_append_getElem h, List.map_append, List.append_assoc, List.drop_eq_getElem_cons h]
  show _ = _ ++ ([upI L[k]] ++ _)
  rw [hn]; rfl

set_option maxHeartbeats 2000000 in
set_option maxRecDepth 100000 in
theorem specUpper (s : ByteArray) (w : World) (hs : s.size ≤ 1048576) (h1 : 1 ≤ s.size) :
    Calls Tryz.prog 147 #[.string s] w fun e w' => e = .returned (.string (upB s)) ∧ Below w.heap.size w w' := by
  obtain ⟨W1, cap, hcv, hb1, hz1, hcell, hfz⟩ := run_str_cells w s
  have hbl : (bytesI s).length = s.size := by unfold bytesI; rw [List.length_map, ← Lib.size_eq]
  have HCE : Hid (∀ j (hj : j < (bytesI s).length), W1.cell? ⟨w.heap.size, j, none⟩ = some (.int .u8 ((bytesI s)[j]))) := hcell
  have HFZ : Hid (∀ j, j < s.size → W1.frozen? ⟨w.heap.size, j, none⟩ = false) := hfz
  have HBB : Hid (∀ j (hj : j < (bytesI s).length), 0 ≤ (bytesI s)[j] ∧ (bytesI s)[j] < 256) := by
    intro j hj
    simp only [bytesI, List.getElem_map]
    have := UInt8.toNat_lt (s.data.toList[j]'(by simpa [bytesI] using hj))
    omega
  have HU : Hid (upB s = ofInts ((bytesI s).map upI)) := rfl
  generalize upB s = UB at *
  generalize bytesI s = L at *
  clear hcell hfz
  rw [← hbl] at hcv
  go_enter Tryz.func147, Tryz.ntmps147
  go_wp2
  go_loopw [10] (fun iv wr => ∃ k : Nat, k ≤ L.length ∧ iv = .int .i64 k ∧ Below w.heap.size w wr ∧ w.heap.size < wr.heap.size ∧ Hid (∀ j (hj : j < ((L.take k).map upI ++ L.drop k).length), wr.cell? ⟨w.heap.size, j, none⟩ = some (.int .u8 (((L.take k).map upI ++ L.drop k)[j]))) ∧ Hid (∀ j, j < L.length → wr.frozen? ⟨w.heap.size, j, none⟩ = false)) (fun iv _ => L.length - (intOf iv).toNat)
  case atStart => exact ⟨0, Nat.zero_le _, rfl, hb1, by omega, fun j hj => by simpa using HCE.out j (by simpa using hj), fun j hj => HFZ.out j (by omega)⟩
  case round =>
    obtain ⟨k, hk, rfl, hb, hz, HC, HF⟩ := hrel
    have hlen : ((L.take k).map upI ++ L.drop k).length = L.length := by simp; omega
    by_cases hlt : k < L.length
    · have ek : wr.cell? ⟨w.heap.size, k, none⟩ = some (.int .u8 L[k]) := by
        have := HC.out k (by omega)
        rw [List.getElem_append_right (by simp; omega)] at this
        simpa [Nat.min_eq_left hk] using this
      have hbk := HBB.out k hlt
      have fk := HF.out k hlt
      have HS1 := up_step L k hlt
      have HS2 := up_same L k hlt
      by_cases hup : 97 ≤ L[k] ∧ L[k] ≤ 122
      · have hu : upI L[k] = L[k] - 32 := by unfold upI; rw [if_pos hup]
        rw [hu] at HS1
        have HS : Hid _ := HS1
        clear HS1 HS2 hu
        generalize L[k] = X at *
        have hw : (X - 32) % 256 = X - 32 := by omega
        go_wp2
        go_roundw
        case rel =>
          refine ⟨k + 1, by omega, by go_num, hb.setCell (Nat.le_refl _) _, by simpa using hz, ?_, fun j hj => by rw [World.frozen?_setCell]; exact HF.out j hj⟩
          rw [← HS.out]
          intro j hj
          by_cases e : j = k
          · subst e
            rw [World.cell?_setCell_same _ _ _ ek]
            simp
          · rw [World.cell?_setCell_other _ _ _ _ (by intro e2; injection e2 with _ e2; exact e e2.symm), List.getElem_set_ne (fun e2 => e e2.symm)]
            exact HC.out j (by simpa using hj)
        case measure => simp [intOf]; omega
      · have hu : upI L[k] = L[k] := by unfold upI; rw [if_neg hup]
        have HS : Hid _ := HS2 hu
        clear HS1 HS2 hu
        generalize L[k] = X at *
        have hq : X < 97 ∨ (97 ≤ X ∧ 122 < X) := by omega
        rcases hq with h | ⟨h, h'⟩
        · go_wp2
          go_roundw
          case rel => exact ⟨k + 1, by omega, by go_num, hb, hz, by rw [← HS.out]; exact HC, HF⟩
          case measure => simp [intOf]; omega
        · go_wp2
          go_roundw
          case rel => exact ⟨k + 1, by omega, by go_num, hb, hz, by rw [← HS.out]; exact HC, HF⟩
          case measure => simp [intOf]; omega
    · obtain rfl : k = L.length := by omega
      have hcv2 := run_cells_str (w := wr) (g := w.heap.size) (cap := cap) (ns := L.map upI) (fun j hj => by
        have := HC.out j (by simpa using hj)
        simpa using this)
      rw [List.length_map, hbl] at hcv2
      go_wp2
      go_ret
      exact ⟨by rw [HU.out]; rfl, hb⟩

def numOk (d : ByteArray) : Bool := decide (1 ≤ d.size) && (decide (d.size ≤ 10) && okAll digN d)
def numV (d : ByteArray) : Nat := if numOk d then numN d d.size else 0
set_option maxHeartbeats 2000000 in
set_option maxRecDepth 100000 in
theorem specNumber (d : ByteArray) (w : World) (hs : d.size ≤ 1048576) :
    Calls Tryz.prog 148 #[.string d, .int .i64 10] w fun e w' => e = .returned (.tuple #[.int .i64 (numV d : Int), .bool (numOk d)]) ∧ w' = w := by
  by_cases hb : d.size < 1 ∨ 10 < d.size
  · have G : Hid (numV d = 0 ∧ numOk d = false) := by
      have h : numOk d = false := by
        unfold numOk
        rcases hb with h | h
        · rw [decide_eq_false (by omega)]; rfl
        · rw [decide_eq_false (show ¬ d.size ≤ 10 by omega)]; simp
      exact ⟨by unfold numV; rw [h]; rfl, h⟩
    rcases hb with h | h
    · have hi : (d.size : Int) < 1 := by omega
      go_enter Tryz.func148, Tryz.ntmps148
      go_wp2
      refine bodyPost_ret (v := .tuple #[.int .i64 0, .bool false]) (by simp [results, Tryz.results148, go_sem]) rfl ⟨by rw [G.out.1, G.out.2]; rfl, rfl⟩
    · have hi : ¬ (d.size : Int) < 1 := by omega
      have hi2 : (10 : Int) < d.size := by omega
      go_enter Tryz.func148, Tryz.ntmps148
      go_wp2
      refine bodyPost_ret (v := .tuple #[.int .i64 0, .bool false]) (by simp [results, Tryz.results148, go_sem]) rfl ⟨by rw [G.out.1, G.out.2]; rfl, rfl⟩
  · have hi : ¬ (d.size : Int) < 1 := by omega
    have hi2 : ¬ (10 : Int) < d.size := by omega
    have HNO : Hid (numOk d = okAll digN d) := by show _ = _; unfold numOk; rw [decide_eq_true (show 1 ≤ d.size by omega), decide_eq_true (show d.size ≤ 10 by omega)]; rfl
    have HNV : Hid (okAll digN d = true → numV d = numN d d.size) := fun h => by unfold numV; rw [HNO.out, h]; rfl
    have HNW : Hid (okAll digN d = false → numV d = 0) := fun h => by unfold numV; rw [HNO.out, h]; rfl
    go_enter Tryz.func148, Tryz.ntmps148
    go_wp2
    go_loop [6, 7] (fun nv iv => ∃ k : Nat, k ≤ d.size ∧ iv = .int .i64 k ∧ nv = .int .i64 (numN d k) ∧ Hid (numN d k < 10 ^ k) ∧ Hid (∀ j, j < k → digN (byteOf d j) = true)) (fun _ iv => d.size - (intOf iv).toNat)
    case atStart => exact ⟨0, Nat.zero_le _, rfl, rfl, by show _ < _; simp [numN], fun j h => absurd h (Nat.not_lt_zero _)⟩
    case round =>
      obtain ⟨k, hk, rfl, rfl, HN, HD⟩ := hrel
      by_cases hlt : k < d.size
      · have hn2 : numN d k < 1000000000 := Nat.lt_of_lt_of_le HN.out (Nat.le_trans (Nat.pow_le_pow_right (by decide) (show k ≤ 9 by omega)) (by decide))
        have HB : Hid (byteOf d k = d[k].toNat) := byteOf_eq d k hlt
        have hb256 : d[k].toNat < 256 := UInt8.toNat_lt _
        by_cases hdg : 48 ≤ d[k].toNat ∧ d[k].toNat ≤ 57
        · have HD2 : Hid (∀ j, j < k + 1 → digN (byteOf d j) = true) := by
            intro j hj
            by_cases e : j = k
            · subst e; rw [HB.out]; unfold digN; rw [decide_eq_true hdg.1, decide_eq_true hdg.2]; rfl
            · exact HD.out j (by omega)
          have HST2 : Hid (numN d (k + 1) = numN d k * 10 + (d[k].toNat - 48)) := by show _ = _; rw [numN, HB.out]
          have HN2 : Hid (numN d (k + 1) < 10 ^ (k + 1)) := by
            show _ < _
            rw [HST2.out, Nat.pow_succ]
            have := HN.out
            omega
          have hw : ((d[k].toNat : Int) - 48) % 256 = (d[k].toNat : Int) - 48 := by omega
          clear HB HD HN
          have h48 : ¬ (d[k].toNat : Int) < 48 := by omega
          have h57 : ¬ (57 : Int) < (d[k].toNat : Int) := by omega
          go_wp2
          go_round
          case rel => exact ⟨k + 1, by omega, by go_num, int_eq (by rw [HST2.out]; omega), HN2, HD2⟩
          case measure => simp [intOf]; omega
        · have G : Hid (okAll digN d = false) := okAll_false hlt (by
            rw [HB.out]; unfold digN
            by_cases h : 48 ≤ d[k].toNat
            · rw [decide_eq_false (show ¬ d[k].toNat ≤ 57 by omega)]; simp
            · rw [decide_eq_false h]; rfl)
          clear HB
          have hq : (d[k].toNat : Int) < 48 ∨ (¬ (d[k].toNat : Int) < 48 ∧ (57 : Int) < (d[k].toNat : Int)) := by omega
          rcases hq with h | ⟨h, h'⟩
          · go_wp2
            refine bodyPost_ret (v := .tuple #[.int .i64 0, .bool false]) (by simp [results, Tryz.results148, go_sem]) rfl ⟨by rw [HNW.out G.out, HNO.out, G.out]; rfl, rfl⟩
          · go_wp2
            refine bodyPost_ret (v := .tuple #[.int .i64 0, .bool false]) (by simp [results, Tryz.results148, go_sem]) rfl ⟨by rw [HNW.out G.out, HNO.out, G.out]; rfl, rfl⟩
      · obtain rfl : k = d.size := by omega
        have G : Hid (okAll digN d = true) := okAll_true fun j hj => HD.out j hj
        go_wp2
        refine bodyPost_ret (v := .tuple #[.int .i64 (numN d d.size : Int), .bool true]) (by simp [results, Tryz.results148, go_sem]) rfl ⟨by rw [HNV.out G.out, HNO.out, G.out], rfl⟩
end Go.Proofs.YtngcjlghjidnjaaGreatDoor
