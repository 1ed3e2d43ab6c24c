import Derived.Test.YtliianllikdgnaeDoorOpenI
import Derived.Test.YtliianllikdgnaeDoorCloneS
import Derived.Test.YtliianllikdgnaeDoorSess
import Derived.Deep.RegionWith
import Derived.Deep.DrawnRows
namespace Go.Proofs.YtliianllikdgnaeDoor
open Go.ChangeShapes Go.WideShapes Go.ChangeAt Go.RowKit
attribute [local go_sem ↓] Go.wp_at_zero Go.wp_at_succ

/-- what Open makes -/
def openOk (he fr bo : ByteArray) (L : List ByteArray) : Bool := domOk he && (whomN fr L && bodyOk bo)
theorem bls_made (w : World) (n : Nat) (hn : n ≤ maxLen) : Bls (w.alloc (.cells (madeCells (Value.bool false).cells n) 4)) w.heap.size (.slice (some ⟨w.heap.size, 0, none⟩) n n) (List.replicate n false) := by
  refine ⟨by simp, .inr ⟨w.heap.size, n, madeCells (Value.bool false).cells n, by simp, Nat.le_refl _, (MapKept.heap_alloc w _).1, by simp, hn, by simp [size_madeCells], ?_⟩⟩
  simp [madeCells, Value.cells, Nat.mod_one, List.take_of_length_le]
  exact List.ext_getElem (by simp) (fun i h1 h2 => by simp)
def vd0 : Vd := (0, 0, ⟨#[]⟩)
def zVd : Value := .agg #[.int .i64 0, .int .i64 0, .string ⟨#[]⟩]
theorem zVd_cells : zVd.cells = #[.int .i64 0, .int .i64 0, .string ⟨#[]⟩] := rfl
theorem made_size (n : Nat) : (madeCells zVd.cells (n * 3)).size = n * 3 := size_madeCells _ _
theorem vrow_made (n : Nat) : (madeCells zVd.cells (n * 3)).toList = vrow (List.replicate n vd0) := by
  refine List.ext_getElem? fun i => ?_
  by_cases hi : i < n * 3
  · have h1 : (madeCells zVd.cells (n * 3)).toList[i]? = zVd.cells[i % 3]? := by
      have hr : i % 3 = 0 ∨ i % 3 = 1 ∨ i % 3 = 2 := by omega
      rw [Array.getElem?_toList, Array.getElem?_eq_getElem (by rw [made_size]; exact hi)]
      unfold madeCells
      rw [Array.getElem_map, Array.getElem_range, zVd_cells]
      show some ((#[.int .i64 0, .int .i64 0, .string ⟨#[]⟩] : Array Value)[i % 3]!) = _
      rcases hr with h | h | h <;> rw [h] <;> rfl
    rw [h1, zVd_cells]
    have hq : i / 3 < (List.replicate n vd0).length := by simp; omega
    obtain ⟨e0, e1, e2⟩ := vrow_get (List.replicate n vd0) (i / 3) hq
    have hv : (List.replicate n vd0)[i / 3] = vd0 := by simp
    rw [hv] at e0 e1 e2
    have hr : i % 3 = 0 ∨ i % 3 = 1 ∨ i % 3 = 2 := by omega
    rcases hr with h | h | h
    · rw [h]
      have : i = i / 3 * 3 := by omega
      conv => rhs; rw [this, e0]
      rfl
    · rw [h]
      have : i = i / 3 * 3 + 1 := by omega
      conv => rhs; rw [this, e1]
      rfl
    · rw [h]
      have : i = i / 3 * 3 + 2 := by omega
      conv => rhs; rw [this, e2]
      rfl
  · rw [List.getElem?_eq_none (by rw [Array.length_toList, made_size]; omega), List.getElem?_eq_none (by rw [vrow_len]; simp; omega)]
theorem vds_made (w : World) (n : Nat) (hn : n ≤ maxLen) : Vds (w.alloc (.cells (madeCells zVd.cells (n * 3)) 82)) w.heap.size (.slice (some ⟨w.heap.size, 0, none⟩) n n) (List.replicate n vd0) := by
  refine ⟨by rw [vrow_len]; omega, .inr ⟨w.heap.size, n, madeCells zVd.cells (n * 3), by simp, Nat.le_refl _, (MapKept.heap_alloc w _).1, by simp, hn, made_size n, ?_⟩⟩
  rw [vrow_made]
  refine List.take_of_length_le ?_
  rw [vrow_len]; simp; omega

theorem sessAt {w wr : World} {Z : Array Value} {T : TypeId} (hb : Below (w.heap.size + 1) (w.alloc (.cells Z T)) wr) :
    (∀ i, wr.cell? ⟨w.heap.size, i, none⟩ = Z[i]?) ∧ (∀ o, wr.frozen? ⟨w.heap.size, o, none⟩ = false) := by
  refine ⟨fun i => ?_, fun o => ?_⟩
  · rw [hb.cell (p := ⟨w.heap.size, i, none⟩) (by show w.heap.size < _; omega), World.cell?_alloc_mark]
  · rw [hb.frozen (p := ⟨w.heap.size, o, none⟩) (by show w.heap.size < _; omega)]
    exact World.frozen?_alloc_at _ _ _ _ rfl

/-- a session of zeros in block b -/
def ResZ (b : Nat) (w : World) : Prop := w.cell? ⟨b, 0, none⟩ = some (.int .i64 0) ∧ w.cell? ⟨b, 1, none⟩ = some (.string ⟨#[]⟩) ∧ w.cell? ⟨b, 2, none⟩ = some (.string ⟨#[]⟩) ∧ w.cell? ⟨b, 3, none⟩ = some (.string ⟨#[]⟩) ∧ w.cell? ⟨b, 4, none⟩ = some (.string ⟨#[]⟩) ∧ w.cell? ⟨b, 5, none⟩ = some (.slice none 0 0) ∧ w.cell? ⟨b, 6, none⟩ = some (.int .i64 0) ∧ w.cell? ⟨b, 7, none⟩ = some (.slice none 0 0) ∧ w.cell? ⟨b, 8, none⟩ = some (.slice none 0 0) ∧ w.frozen? ⟨b, 0, none⟩ = false ∧ w.frozen? ⟨b, 1, none⟩ = false ∧ w.frozen? ⟨b, 2, none⟩ = false ∧ w.frozen? ⟨b, 3, none⟩ = false ∧ w.frozen? ⟨b, 4, none⟩ = false ∧ w.frozen? ⟨b, 5, none⟩ = false ∧ w.frozen? ⟨b, 6, none⟩ = false ∧ w.frozen? ⟨b, 7, none⟩ = false ∧ w.frozen? ⟨b, 8, none⟩ = false ∧ b < w.heap.size
theorem resZ_of {w wr : World} (hb : Below (w.heap.size + 1) (w.alloc (.cells #[.int .i64 0, .string ⟨#[]⟩, .string ⟨#[]⟩, .string ⟨#[]⟩, .string ⟨#[]⟩, .slice none 0 0, .int .i64 0, .slice none 0 0, .slice none 0 0] 42)) wr) : ResZ w.heap.size wr := by
  obtain ⟨g, gf⟩ := sessAt hb
  exact ⟨g 0, g 1, g 2, g 3, g 4, g 5, g 6, g 7, g 8, gf 0, gf 1, gf 2, gf 3, gf 4, gf 5, gf 6, gf 7, gf 8, by have := hb.size; simp at this; omega⟩

def oPh (b : Bool) : Int := if b then 1 else 9
def oS (b : Bool) (s : ByteArray) : ByteArray := if b then s else ⟨#[]⟩
def oL (b : Bool) (L : List ByteArray) : List ByteArray := if b then L else []
/-- what Open hands back -/
def OpenPost (he fr bo : ByteArray) (L : List ByteArray) (w : World) (e : Ending) (w' : World) : Prop :=
  (∃ v1 v2 v3, e = .returned (.agg #[.int .i64 (oPh (openOk he fr bo L)), .string ⟨#[]⟩, .string (oS (openOk he fr bo L) he), .string (oS (openOk he fr bo L) fr), .string (oS (openOk he fr bo L) bo), v1, .int .i64 0, v2, v3]) ∧
    (Strs w' w.heap.size v1 (oL (openOk he fr bo L) L) ∧ Bls w' w.heap.size v2 (List.replicate (oL (openOk he fr bo L) L).length false) ∧ Vds w' w.heap.size v3 (List.replicate (oL (openOk he fr bo L) L).length vd0)) ∧ Apart3 v1 v2 v3) ∧ Below w.heap.size w w'
theorem open_no {he fr bo : ByteArray} {L : List ByteArray} (h : openOk he fr bo L = false) {w w' : World} (hb : Below w.heap.size w w') :
    OpenPost he fr bo L w (.returned (.agg #[.int .i64 9, .string ⟨#[]⟩, .string ⟨#[]⟩, .string ⟨#[]⟩, .string ⟨#[]⟩, .slice none 0 0, .int .i64 0, .slice none 0 0, .slice none 0 0])) w' := by
  unfold OpenPost
  rw [h]
  exact ⟨⟨_, _, _, rfl, ⟨World.ownsRow_nil _ _ _ _, World.ownsRow_nil _ _ _ _, World.ownsRow_nil _ _ _ _⟩, by simp [Apart3, Value.ownBlock]⟩, hb⟩
theorem bls_at {W : World} {k n lo : Nat} (h : W.heap[k]? = some (.cells (madeCells (Value.bool false).cells n) 4 (0, 0))) (hlo : lo ≤ k) (hn : n ≤ maxLen) : Bls W lo (.slice (some ⟨k, 0, none⟩) n n) (List.replicate n false) := by
  refine ⟨by simp, .inr ⟨k, n, madeCells (Value.bool false).cells n, by simp, hlo, h, by simp, hn, by simp [size_madeCells], ?_⟩⟩
  simp [madeCells, Value.cells, Nat.mod_one, List.take_of_length_le]
  exact List.ext_getElem (by simp) (fun i h1 h2 => by simp)
theorem vds_at {W : World} {k n lo : Nat} (h : W.heap[k]? = some (.cells (madeCells zVd.cells (n * 3)) 82 (0, 0))) (hlo : lo ≤ k) (hn : n ≤ maxLen) : Vds W lo (.slice (some ⟨k, 0, none⟩) n n) (List.replicate n vd0) := by
  refine ⟨by rw [vrow_len]; omega, .inr ⟨k, n, madeCells zVd.cells (n * 3), by simp, hlo, h, by simp, hn, made_size n, ?_⟩⟩
  rw [vrow_made]
  refine List.take_of_length_le ?_
  rw [vrow_len]; simp; omega
theorem lk_new (W : World) (o : Obj) (k : Nat) (hk : k = W.heap.size) : (W.alloc o).heap[k]? = some o := by subst hk; exact (MapKept.heap_alloc W o).1
theorem lk_old (W : World) (o : Obj) (k : Nat) (hk : k < W.heap.size) : (W.alloc o).heap[k]? = W.heap[k]? := by
  show (W.heap.push o)[k]? = _
  rw [Array.getElem?_push_lt hk, Array.getElem?_eq_getElem hk]
theorem open_yes {CB CV : Array Value} {n : Nat} (hCB : madeCells (Value.bool false).cells n = CB) (hCV : madeCells zVd.cells (n * 3) = CV) {he fr bo : ByteArray} {L : List ByteArray} (h : openOk he fr bo L = true) (hn : L.length = n) (hn2 : n ≤ 20) {w F : World} {kB kV c3 : Nat} {a3 : Option Addr}
    (hS : Strs F (w.heap.size + 1) (.slice a3 n c3) L) (hkB : w.heap.size ≤ kB) (hkV : w.heap.size ≤ kV) (hne : kB ≠ kV) (hgB : (Value.slice a3 n c3).ownBlock ≠ some kB) (hgV : (Value.slice a3 n c3).ownBlock ≠ some kV)
    (hB : F.heap[kB]? = some (.cells CB 4 (0, 0))) (hV : F.heap[kV]? = some (.cells CV 82 (0, 0))) (hb : Below w.heap.size w F) :
    OpenPost he fr bo L w (.returned (.agg #[.int .i64 1, .string ⟨#[]⟩, .string he, .string fr, .string bo, .slice a3 n c3, .int .i64 0, .slice (some ⟨kB, 0, none⟩) n n, .slice (some ⟨kV, 0, none⟩) n n])) F := by
  subst hCB hCV
  unfold OpenPost
  rw [h]
  have hm : n ≤ maxLen := by unfold maxLen; omega
  refine ⟨⟨_, _, _, rfl, ⟨strs_le hS (Nat.le_succ _), ?_, ?_⟩, ?_⟩, hb⟩
  · show Bls _ _ _ (List.replicate L.length false)
    rw [hn]; exact bls_at hB hkB hm
  · show Vds _ _ _ (List.replicate L.length vd0)
    rw [hn]; exact vds_at hV hkV hm
  · refine ⟨fun a b ha hb => ?_, fun a b ha hb => ?_, fun a b ha hb => ?_⟩
    · intro e; subst e; simp only [Value.ownBlock, Option.some.injEq] at hb; subst hb; exact hgB ha
    · intro e; subst e; simp only [Value.ownBlock, Option.some.injEq] at hb; subst hb; exact hgV ha
    · simp only [Value.ownBlock, Option.some.injEq] at ha hb; omega

set_option maxHeartbeats 2000000 in
set_option maxRecDepth 100000 in
theorem implOpen (he fr bo : ByteArray) (v : Value) (L : List ByteArray) (w : World) (h : ArgS w v L) (hh : he.size ≤ 1048576) (hf : fr.size ≤ 1048576) (hs : ∀ s ∈ L, s.size ≤ 1048576) (hbo : bo.size ≤ 1048576) (hl : LenIn w) :
    Calls Tryd.prog 19 #[.string he, .string fr, v, .string bo] w fun e w' => OpenPost he fr bo L w e w' := by
  have HL : Hid (LenIn w) := hl
  have HA : Hid (ArgS w v L) := h
  have HS : Hid (∀ s ∈ L, s.size ≤ 1048576) := hs
  obtain ⟨a, c, rfl⟩ := h.form
  clear h hs hl
  have hd : domOk he = false ∨ domOk he = true := by cases domOk he <;> simp
  rcases hd with hd | hd
  · go_enter Tryd.func19, Tryd.ntmps19
    go_wp2_with fail
    refine (implDomain he _ (len_below HL.out (below1 _ _)) hh).mono ?_
    rw [hd]
    rintro e w1 ⟨rfl, hb1⟩
    obtain ⟨g0, g1, g2, g3, g4, g5, g6, g7, g8, f0, f1, f2, f3, f4, f5, f6, f7, f8, hrz⟩ := resZ_of (by simpa using hb1)
    go_wp2
    refine bodyPost_ret (v := .agg #[.int .i64 9, .string ⟨#[]⟩, .string ⟨#[]⟩, .string ⟨#[]⟩, .string ⟨#[]⟩, .slice none 0 0, .int .i64 0, .slice none 0 0, .slice none 0 0]) (by simp [results, Tryd.results19, go_sem, g0, g1, g2, g3, g4, g5, g6, g7, g8]) rfl (open_no (by unfold openOk; rw [hd]; rfl) ?_)
    repeat (refine Below.setCell ?_ (by simp) _)
    exact (below1 w _).trans (hb1.mono (by simp))
  · go_enter Tryd.func19, Tryd.ntmps19
    go_wp2_with fail
    refine (implDomain he _ (len_below HL.out (below1 _ _)) hh).mono ?_
    rw [hd]
    rintro e w1 ⟨rfl, hb1⟩
    have b1 : Below w.heap.size w w1 := (below1 w _).trans (hb1.mono (by simp))
    go_wp2_with fail
    refine (implMail fr bo _ L _ (HA.out.below b1) hf HS.out hbo (len_below HL.out b1)).mono ?_
    rintro e w2 ⟨rfl, hb2⟩
    have b2 : Below w.heap.size w w2 := b1.trans (hb2.mono b1.size)
    have b02 := hb1.trans (hb2.mono hb1.size)
    cases hm : (whomN fr L && bodyOk bo)
    · obtain ⟨g0, g1, g2, g3, g4, g5, g6, g7, g8, f0, f1, f2, f3, f4, f5, f6, f7, f8, hrz⟩ := resZ_of (by simpa using b02)
      go_wp2
      refine bodyPost_ret (v := .agg #[.int .i64 9, .string ⟨#[]⟩, .string ⟨#[]⟩, .string ⟨#[]⟩, .string ⟨#[]⟩, .slice none 0 0, .int .i64 0, .slice none 0 0, .slice none 0 0]) (by simp [results, Tryd.results19, go_sem, g0, g1, g2, g3, g4, g5, g6, g7, g8]) rfl (open_no (by unfold openOk; rw [hm, Bool.and_false]) ?_)
      repeat (refine Below.setCell ?_ (by simp) _)
      exact b2
    · have hw : 1 ≤ L.length ∧ L.length ≤ 20 := by
        unfold whomN at hm
        simp only [Bool.and_eq_true, decide_eq_true_eq] at hm
        exact ⟨hm.1.2.1, hm.1.2.2.1⟩
      obtain ⟨b, off, cap, hv, hbw, hcell⟩ := HA.out.some hw.1
      injection hv with hv1 hv2 hv3
      subst hv1 hv3
      obtain ⟨j0, hj, hy0, hy1, hy2⟩ := info_parts infoBool
      obtain ⟨k0, hk, hx0, hx1, hx2⟩ := info_parts infoVd
      obtain ⟨n, hn⟩ : ∃ n, L.length = n := ⟨_, rfl⟩
      have hmkB : ∀ wx : World, (Instr.makeSlice 39 (.int .i64 (n : Int)) (.int .i64 (n : Int))).run Tryd.prog wx = .ok (.slice (some ⟨wx.heap.size, 0, none⟩) n n) (wx.alloc (.cells (madeCells (Value.bool false).cells n) 4)) := by
        intro wx
        have e := run_make (P := Tryd.prog) wx 39 4 j0 (.bool false) Tryd.underlying39 hj hy0 .i64 .i64 (n : Int) (n : Int) (by omega) (by omega) (by rw [hy2]; omega) (by omega)
        simpa [hy1] using e
      have hmkV : ∀ wx : World, (Instr.makeSlice 40 (.int .i64 (n : Int)) (.int .i64 (n : Int))).run Tryd.prog wx = .ok (.slice (some ⟨wx.heap.size, 0, none⟩) n n) (wx.alloc (.cells (madeCells zVd.cells (n * 3)) 82)) := by
        intro wx
        have e := run_make (P := Tryd.prog) wx 40 82 k0 zVd Tryd.underlying40 hk hx0 .i64 .i64 (n : Int) (n : Int) (by omega) (by omega) (by rw [hx2]; omega) (by omega)
        simpa [hx1] using e
      obtain ⟨CB, HCB⟩ : ∃ CB, Hid (madeCells (Value.bool false).cells n = CB) := ⟨_, rfl⟩
      obtain ⟨CV, HCV⟩ : ∃ CV, Hid (madeCells zVd.cells (n * 3) = CV) := ⟨_, rfl⟩
      rw [HCB.out] at hmkB
      rw [HCV.out] at hmkV
      have hOK : openOk he fr bo L = true := by unfold openOk; rw [hd, hm]; rfl
      clear hj hk hy0 hy1 hy2 hx0 hx1 hx2 hd hm
      rw [hn]
      have b02' : Below (w.heap.size + 1) (w.alloc (.cells #[.int .i64 0, .string ⟨#[]⟩, .string ⟨#[]⟩, .string ⟨#[]⟩, .string ⟨#[]⟩, .slice none 0 0, .int .i64 0, .slice none 0 0, .slice none 0 0] 42)) w2 := by simpa using b02
      have HCL : Hid (∀ wx : World, Below w2.heap.size w2 wx → Calls Tryd.prog 47 #[.slice (some ⟨b, off, none⟩) n c] wx fun e w' => ∃ a' c', e = .returned (.slice a' n c') ∧ (Strs w' wx.heap.size (.slice a' n c') L ∧ Below wx.heap.size wx w' ∧ Below w2.heap.size w2 w') ∧ ResZ w.heap.size w') := by
        intro wx hx
        have hbx : Below w.heap.size w wx := b2.trans (hx.mono b2.size)
        have := cloneStrs b off c L wx (by omega) (fun i hi => (hbx.cell (p := ⟨b, off + i, none⟩) hbw).trans (hcell i hi))
        rw [hn] at this
        refine this.mono ?_
        rintro e w' ⟨v', rfl, hS, hB⟩
        obtain ⟨a', c', rfl⟩ := strs_form2 hS
        rw [hn] at *
        have hz2 : w.heap.size + 1 ≤ w2.heap.size := by have := b02'.size; simp at this; omega
        exact ⟨a', c', rfl, ⟨hS, hB, hx.trans (hB.mono hx.size)⟩, resZ_of ((b02'.trans (hx.mono hz2)).trans (hB.mono (by have := hx.size; omega)))⟩
      clear hcell
      go_wp2_with fail
      go_region_with (go_at_call 47; refine (HCL.out _ (by repeat (first | exact Below.refl _ _ | refine Below.drew ?_ | refine Below.alloc ?_ (by simp) _))).mono ?_; rintro e w3 ⟨a3, c3, rfl, HS3, g0, g1, g2, g3, g4, g5, g6, g7, g8, f0, f1, f2, f3, f4, f5, f6, f7, f8, hrz⟩)
      all_goals
        obtain ⟨S3, hb3, b23⟩ := HS3
        have hz3 := hb3.size
        have hw2 : w.heap.size + 1 ≤ w2.heap.size := by have := b02'.size; simp at this; omega
        have hown := strs_own S3
        have hlow := strs_lo S3
        simp at hz3 hlow
        have hlo : w.heap.size + 1 ≤ w3.heap.size := by omega
        have S3' := strs_le (lo' := w.heap.size + 1) S3 (by simp; omega)
        have b3 : Below w.heap.size w w3 := b2.trans (b23.mono b2.size)
        clear S3
        go_wp2
      · refine bodyPost_ret (v := .agg #[.int .i64 1, .string ⟨#[]⟩, .string he, .string fr, .string bo, .slice a3 n c3, .int .i64 0, .slice (some ⟨w3.heap.size, 0, none⟩) n n, .slice (some ⟨w3.heap.size + 1, 0, none⟩) n n]) (by simp [results, Tryd.results19, go_sem, hrz, g0, g1, g2, g3, g4, g5, g6, g7, g8]) rfl ?_
        generalize hW : World.setCell _ ⟨w.heap.size, 8, none⟩ _ = W3
        have hsz : W3.heap.size = w3.heap.size := by rw [← hW]; simp
        have hblk : ∀ k, k ≠ w.heap.size → W3.heap[k]? = w3.heap[k]? := by
          intro k hk
          rw [← hW]
          repeat rw [Below.heap_setCell _ _ _ _ hk]
        have hS : Strs W3 (w.heap.size + 1) (.slice a3 n c3) L := by
          rw [← hW]
          repeat (refine strs_setCell ?_ (by simp) _)
          exact S3'
        have hbW : Below w.heap.size w W3 := by
          rw [← hW]
          repeat (refine Below.setCell ?_ (by simp) _)
          exact b3
        clear hW
        have hB := show (((W3.alloc (.cells CB 4)).alloc (.cells CV 82))).heap[w3.heap.size]? = some _ from (lk_old _ _ _ (by simp; omega)).trans (lk_new _ _ _ hsz.symm)
        have hV := show (((W3.alloc (.cells CB 4)).alloc (.cells CV 82))).heap[w3.heap.size + 1]? = some _ from lk_new _ _ _ (by simp; omega)
        exact open_yes HCB.out HCV.out hOK hn (by omega) (strs_below hS (below2 W3 _ _) (Nat.le_refl _)) (by omega) (by omega) (by omega) (fun e => by have := hown _ e; have := hlow _ e; omega) (fun e => by have := hown _ e; have := hlow _ e; omega) hB hV (hbW.trans ((below2 W3 _ _).mono hbW.size))
      · refine bodyPost_ret (v := .agg #[.int .i64 1, .string ⟨#[]⟩, .string he, .string fr, .string bo, .slice a3 n c3, .int .i64 0, .slice (some ⟨w3.heap.size + 1, 0, none⟩) n n, .slice (some ⟨w3.heap.size, 0, none⟩) n n]) (by simp [results, Tryd.results19, go_sem, hrz, g0, g1, g2, g3, g4, g5, g6, g7, g8]) rfl ?_
        generalize hW : World.setCell _ ⟨w.heap.size, 8, none⟩ _ = W3
        have hsz : W3.heap.size = w3.heap.size := by rw [← hW]; simp
        have hblk : ∀ k, k ≠ w.heap.size → W3.heap[k]? = w3.heap[k]? := by
          intro k hk
          rw [← hW]
          repeat rw [Below.heap_setCell _ _ _ _ hk]
        have hS : Strs W3 (w.heap.size + 1) (.slice a3 n c3) L := by
          rw [← hW]
          repeat (refine strs_setCell ?_ (by simp) _)
          exact S3'
        have hbW : Below w.heap.size w W3 := by
          rw [← hW]
          repeat (refine Below.setCell ?_ (by simp) _)
          exact b3
        clear hW
        have hB := show (((W3.alloc (.cells CV 82)).alloc (.cells CB 4))).heap[w3.heap.size + 1]? = some _ from lk_new _ _ _ (by simp; omega)
        have hV := show (((W3.alloc (.cells CV 82)).alloc (.cells CB 4))).heap[w3.heap.size]? = some _ from (lk_old _ _ _ (by simp; omega)).trans (lk_new _ _ _ hsz.symm)
        exact open_yes HCB.out HCV.out hOK hn (by omega) (strs_below hS (below2 W3 _ _) (Nat.le_refl _)) (by omega) (by omega) (by omega) (fun e => by have := hown _ e; have := hlow _ e; omega) (fun e => by have := hown _ e; have := hlow _ e; omega) hB hV (hbW.trans ((below2 W3 _ _).mono hbW.size))
      · refine bodyPost_ret (v := .agg #[.int .i64 1, .string ⟨#[]⟩, .string he, .string fr, .string bo, .slice a3 n c3, .int .i64 0, .slice (some ⟨w2.heap.size, 0, none⟩) n n, .slice (some ⟨w3.heap.size, 0, none⟩) n n]) (by simp [results, Tryd.results19, go_sem, hrz, g0, g1, g2, g3, g4, g5, g6, g7, g8]) rfl ?_
        generalize hW : World.setCell _ ⟨w.heap.size, 8, none⟩ _ = W3
        have hsz : W3.heap.size = w3.heap.size := by rw [← hW]; simp
        have hblk : ∀ k, k ≠ w.heap.size → W3.heap[k]? = w3.heap[k]? := by
          intro k hk
          rw [← hW]
          repeat rw [Below.heap_setCell _ _ _ _ hk]
        have hS : Strs W3 (w.heap.size + 1) (.slice a3 n c3) L := by
          rw [← hW]
          repeat (refine strs_setCell ?_ (by simp) _)
          exact S3'
        have hbW : Below w.heap.size w W3 := by
          rw [← hW]
          repeat (refine Below.setCell ?_ (by simp) _)
          exact b3
        clear hW
        have hB := show ((W3.alloc (.cells CV 82))).heap[w2.heap.size]? = some _ from (lk_old _ _ _ (by omega)).trans ((hblk _ (by omega)).trans ((hb3.block _ (by simp)).trans (lk_new w2 _ _ rfl)))
        have hV := show ((W3.alloc (.cells CV 82))).heap[w3.heap.size]? = some _ from lk_new _ _ _ hsz.symm
        exact open_yes HCB.out HCV.out hOK hn (by omega) (strs_below hS (below1 W3 _) (Nat.le_refl _)) (by omega) (by omega) (by omega) (fun e => by have := hown _ e; have := hlow _ e; omega) (fun e => by have := hown _ e; have := hlow _ e; omega) hB hV (hbW.trans ((below1 W3 _).mono hbW.size))
      · refine bodyPost_ret (v := .agg #[.int .i64 1, .string ⟨#[]⟩, .string he, .string fr, .string bo, .slice a3 n c3, .int .i64 0, .slice (some ⟨w2.heap.size, 0, none⟩) n n, .slice (some ⟨w2.heap.size + 1, 0, none⟩) n n]) (by simp [results, Tryd.results19, go_sem, g0, g1, g2, g3, g4, g5, g6, g7, g8]) rfl ?_
        generalize hW : World.setCell _ ⟨w.heap.size, 8, none⟩ _ = W3
        have hsz : W3.heap.size = w3.heap.size := by rw [← hW]; simp
        have hblk : ∀ k, k ≠ w.heap.size → W3.heap[k]? = w3.heap[k]? := by
          intro k hk
          rw [← hW]
          repeat rw [Below.heap_setCell _ _ _ _ hk]
        have hS : Strs W3 (w.heap.size + 1) (.slice a3 n c3) L := by
          rw [← hW]
          repeat (refine strs_setCell ?_ (by simp) _)
          exact S3'
        have hbW : Below w.heap.size w W3 := by
          rw [← hW]
          repeat (refine Below.setCell ?_ (by simp) _)
          exact b3
        clear hW
        have hB := show (W3).heap[w2.heap.size]? = some _ from (hblk _ (by omega)).trans ((hb3.block _ (by simp; omega)).trans ((lk_old (w2.alloc _) _ _ (by simp)).trans (lk_new w2 _ _ rfl)))
        have hV := show (W3).heap[w2.heap.size + 1]? = some _ from (hblk _ (by omega)).trans ((hb3.block _ (by simp)).trans (lk_new (w2.alloc _) _ _ (by simp)))
        exact open_yes HCB.out HCV.out hOK hn (by omega) (strs_below hS (Below.refl _ W3) (Nat.le_refl _)) (by omega) (by omega) (by omega) (fun e => by have := hown _ e; have := hlow _ e; omega) (fun e => by have := hown _ e; have := hlow _ e; omega) hB hV (hbW.trans ((Below.refl _ W3).mono hbW.size))
      · refine bodyPost_ret (v := .agg #[.int .i64 1, .string ⟨#[]⟩, .string he, .string fr, .string bo, .slice a3 n c3, .int .i64 0, .slice (some ⟨w3.heap.size, 0, none⟩) n n, .slice (some ⟨w2.heap.size, 0, none⟩) n n]) (by simp [results, Tryd.results19, go_sem, hrz, g0, g1, g2, g3, g4, g5, g6, g7, g8]) rfl ?_
        generalize hW : World.setCell _ ⟨w.heap.size, 8, none⟩ _ = W3
        have hsz : W3.heap.size = w3.heap.size := by rw [← hW]; simp
        have hblk : ∀ k, k ≠ w.heap.size → W3.heap[k]? = w3.heap[k]? := by
          intro k hk
          rw [← hW]
          repeat rw [Below.heap_setCell _ _ _ _ hk]
        have hS : Strs W3 (w.heap.size + 1) (.slice a3 n c3) L := by
          rw [← hW]
          repeat (refine strs_setCell ?_ (by simp) _)
          exact S3'
        have hbW : Below w.heap.size w W3 := by
          rw [← hW]
          repeat (refine Below.setCell ?_ (by simp) _)
          exact b3
        clear hW
        have hB := show ((W3.alloc (.cells CB 4))).heap[w3.heap.size]? = some _ from lk_new _ _ _ hsz.symm
        have hV := show ((W3.alloc (.cells CB 4))).heap[w2.heap.size]? = some _ from (lk_old _ _ _ (by omega)).trans ((hblk _ (by omega)).trans ((hb3.block _ (by simp)).trans (lk_new w2 _ _ rfl)))
        exact open_yes HCB.out HCV.out hOK hn (by omega) (strs_below hS (below1 W3 _) (Nat.le_refl _)) (by omega) (by omega) (by omega) (fun e => by have := hown _ e; have := hlow _ e; omega) (fun e => by have := hown _ e; have := hlow _ e; omega) hB hV (hbW.trans ((below1 W3 _).mono hbW.size))
      · refine bodyPost_ret (v := .agg #[.int .i64 1, .string ⟨#[]⟩, .string he, .string fr, .string bo, .slice a3 n c3, .int .i64 0, .slice (some ⟨w2.heap.size + 1, 0, none⟩) n n, .slice (some ⟨w2.heap.size, 0, none⟩) n n]) (by simp [results, Tryd.results19, go_sem, g0, g1, g2, g3, g4, g5, g6, g7, g8]) rfl ?_
        generalize hW : World.setCell _ ⟨w.heap.size, 8, none⟩ _ = W3
        have hsz : W3.heap.size = w3.heap.size := by rw [← hW]; simp
        have hblk : ∀ k, k ≠ w.heap.size → W3.heap[k]? = w3.heap[k]? := by
          intro k hk
          rw [← hW]
          repeat rw [Below.heap_setCell _ _ _ _ hk]
        have hS : Strs W3 (w.heap.size + 1) (.slice a3 n c3) L := by
          rw [← hW]
          repeat (refine strs_setCell ?_ (by simp) _)
          exact S3'
        have hbW : Below w.heap.size w W3 := by
          rw [← hW]
          repeat (refine Below.setCell ?_ (by simp) _)
          exact b3
        clear hW
        have hB := show (W3).heap[w2.heap.size + 1]? = some _ from (hblk _ (by omega)).trans ((hb3.block _ (by simp)).trans (lk_new (w2.alloc _) _ _ (by simp)))
        have hV := show (W3).heap[w2.heap.size]? = some _ from (hblk _ (by omega)).trans ((hb3.block _ (by simp; omega)).trans ((lk_old (w2.alloc _) _ _ (by simp)).trans (lk_new w2 _ _ rfl)))
        exact open_yes HCB.out HCV.out hOK hn (by omega) (strs_below hS (Below.refl _ W3) (Nat.le_refl _)) (by omega) (by omega) (by omega) (fun e => by have := hown _ e; have := hlow _ e; omega) (fun e => by have := hown _ e; have := hlow _ e; omega) hB hV (hbW.trans ((Below.refl _ W3).mono hbW.size))
end Go.Proofs.YtliianllikdgnaeDoor
