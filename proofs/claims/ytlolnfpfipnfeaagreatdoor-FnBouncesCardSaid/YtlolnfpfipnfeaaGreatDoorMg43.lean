import Derived.Test.YtlolnfpfipnfeaaGreatDoorMg35
import Derived.Test.YtlolnfpfipnfeaaGreatDoorMg38
import Derived.Test.YtlolnfpfipnfeaaGreatDoorMg2
import Derived.SliceStrings
import Derived.Laws.MakeOwn
namespace Go.Proofs.YtlolnfpfipnfeaaGreatDoor
open Go.ChangeShapes Go.WideShapes Go.ChangeAt Go.RowKit
open Pcs

def okI (t : ByteArray) : Bool := decide (t.size ≠ 0) && decide (makeI (readI t.data.toList) = t)
def bn0 : Bn := ⟨⟨#[]⟩, ⟨#[]⟩, [], ⟨#[]⟩⟩
/-- what ReadBounce answers -/
def RdOk (t : ByteArray) (lo : Nat) (e : Ending) (w' : World) : Prop :=
  (okI t = true ∧ ∃ fv, e = .returned (.tuple #[bnV (readI t.data.toList) fv, .bool true]) ∧ Fls w' lo fv (readI t.data.toList).fs ∧ BnZ (readI t.data.toList)) ∨ (okI t = false ∧ e = .returned (.tuple #[bnV bn0 (.slice none 0 0), .bool false]))

set_option maxHeartbeats 4000000 in
set_option maxRecDepth 100000 in
theorem implRead (t : ByteArray) (w : World) (he : Env w) (ht : t.size ≤ 1048576) :
    Calls Tryz.prog 7 #[.string t] w fun e w' => RdOk t w.heap.size e w' ∧ Below w.heap.size w w' := by
  have HE0 : Hid (Env w) := he
  have ht' : t.data.toList.length ≤ 1048576 := by rw [← Lib.size_eq]; exact ht
  have HOK : okI t = (decide (t.size ≠ 0) && decide (makeI (readI t.data.toList) = t)) := rfl
  have HY : ∀ (e : Ending) (w' : World), okI t = true → (∃ fv, e = .returned (.tuple #[bnV (readI t.data.toList) fv, .bool true]) ∧ Fls w' w.heap.size fv (readI t.data.toList).fs ∧ BnZ (readI t.data.toList)) → RdOk t w.heap.size e w' := fun e w' h1 h2 => .inl ⟨h1, h2⟩
  have HN : ∀ (e : Ending) (w' : World), okI t = false → e = .returned (.tuple #[bnV bn0 (.slice none 0 0), .bool false]) → RdOk t w.heap.size e w' := fun e w' h1 h2 => .inr ⟨h1, h2⟩
  have HRD : ∀ (b : Nat) (wx : World), (∀ wy, Off b wx wy → Env wy) → Blk b (rdC (.string ⟨#[]⟩) (.string ⟨#[]⟩) (.slice none 0 0) (.string ⟨#[]⟩) (.string ⟨#[]⟩) t.data.toList) wx → Calls Tryz.prog 20 #[.pointer (some ⟨b, 0, none⟩)] wx fun e w' => e = .returned (.tuple #[]) ∧ (∃ fv y4 r, Blk b (rdC (.string (readI t.data.toList).he) (.string (readI t.data.toList).tw) fv (.string (readI t.data.toList).hd) y4 r) w' ∧ Fls w' wx.heap.size fv (readI t.data.toList).fs) ∧ BnZ (readI t.data.toList) ∧ Off b wx w' := fun b wx h1 h2 => rRead b t.data.toList wx h1 h2 ht'
  generalize readI t.data.toList = c at *
  obtain ⟨dm, tw, L, hd⟩ := c
  dsimp only at HY HRD
  have HOKh : Hid (okI t = (decide (t.size ≠ 0) && decide (makeI ⟨dm, tw, L, hd⟩ = t))) := HOK
  have HYh : Hid _ := HY
  have HNh : Hid _ := HN
  have HRh : Hid _ := HRD
  clear HY HN HRD HOK he
  go_enter Tryz.func7, Tryz.ntmps7
  go_wp2_with fail
  generalize hV : (w.alloc _).alloc _ = V
  have bV : Below w.heap.size w V := by rw [← hV]; exact below2 _ _ _
  have PV : Hid (Blk w.heap.size #[.string ⟨#[]⟩, .string ⟨#[]⟩, .slice none 0 0, .string ⟨#[]⟩] V) := by show Blk _ _ _; rw [← hV]; exact (Blk.new _ _ _).below (below1 _ _)
  have BV : Hid (Blk (w.heap.size + 1) (rdC (.string ⟨#[]⟩) (.string ⟨#[]⟩) (.slice none 0 0) (.string ⟨#[]⟩) (.string ⟨#[]⟩) t.data.toList) V) := by
    show Blk _ _ _
    rw [← hV]
    unfold rdC
    rw [mk_data]
    have := Blk.new (w.alloc (.cells #[.string ⟨#[]⟩, .string ⟨#[]⟩, .slice none 0 0, .string ⟨#[]⟩] 25)) #[.string ⟨#[]⟩, .string ⟨#[]⟩, .slice none 0 0, .string ⟨#[]⟩, .string ⟨#[]⟩, .string t] 53
    simpa using this
  have hVz : w.heap.size ≤ V.heap.size := bV.size
  have hVs : w.heap.size < V.heap.size := PV.out.lt
  have HE : Hid (∀ wx, Off (w.heap.size + 1) V wx → Env wx) := fun wx hx => HE0.out.below (bV.trans (hx.belowAt (by omega) hVz))
  have HBW : Hid (∀ wx, Off (w.heap.size + 1) V wx → Below w.heap.size w wx) := fun wx hx => bV.trans (hx.belowAt (by omega) hVz)
  clear hV bV
  refine (HRh.out (w.heap.size + 1) V HE.out BV.out).mono ?_
  rintro e w1 ⟨rfl, ⟨fv, y4, r, h1, hf1⟩, hz, o1⟩
  obtain ⟨a, cp, rfl⟩ := fls_form hf1
  have HB1 : Hid (Blk (w.heap.size + 1) (rdC (.string dm) (.string tw) (.slice a L.length cp) (.string hd) y4 r) w1) := h1
  have HF1 : Hid (Fls w1 V.heap.size (.slice a L.length cp) L) := hf1
  have HP1 : Hid (Blk w.heap.size #[.string ⟨#[]⟩, .string ⟨#[]⟩, .slice none 0 0, .string ⟨#[]⟩] w1) := PV.out.offB o1 (by omega)
  have HW1 : Hid (Below w.heap.size w w1) := HBW.out _ o1
  have HEn : Hid (Env w1) := HE.out _ o1
  have HZ : Hid (BnZ ⟨dm, tw, L, hd⟩) := hz
  clear h1 hf1 o1 hz HE HBW PV BV HRh
  by_cases hz0 : t.size = 0
  · have hte := empty_ofK t hz0
    have G : Hid (okI t = false) := by show _ = _; rw [HOKh.out, decide_eq_false (show ¬ t.size ≠ 0 from fun h => h hz0)]; rfl
    have HN2 : Hid _ := HNh.out
    have htl : t.toList.isEmpty = true := by rw [hte, Lib.toList_data]; rfl
    have p0 : w1.cell? ⟨w.heap.size, 0, none⟩ = some (.string ⟨#[]⟩) := HP1.out.cell 0
    have p1 : w1.cell? ⟨w.heap.size, 1, none⟩ = some (.string ⟨#[]⟩) := HP1.out.cell 1
    have p2 : w1.cell? ⟨w.heap.size, 2, none⟩ = some (.slice none 0 0) := HP1.out.cell 2
    have p3 : w1.cell? ⟨w.heap.size, 3, none⟩ = some (.string ⟨#[]⟩) := HP1.out.cell 3
    have t0 := HP1.out.free 0
    have t1 := HP1.out.free 1
    have t2 := HP1.out.free 2
    have t3 := HP1.out.free 3
    clear hte
    go_wp2
    generalize hF : (((w1.setCell ⟨w.heap.size, 0, none⟩ (.string ⟨#[]⟩)).setCell ⟨w.heap.size, 1, none⟩ (.string ⟨#[]⟩)).setCell ⟨w.heap.size, 2, none⟩ (.slice none 0 0)).setCell ⟨w.heap.size, 3, none⟩ (.string ⟨#[]⟩) = Wf
    have PF : Blk w.heap.size #[.string ⟨#[]⟩, .string ⟨#[]⟩, .slice none 0 0, .string ⟨#[]⟩] Wf := by
      rw [← hF]
      exact (((HP1.out.set (i := 0) (by simp)).set (i := 1) (by simp)).set (i := 2) (by simp)).set (i := 3) (by simp)
    have OF : Below w.heap.size w Wf := by
      rw [← hF]
      exact ((((HW1.out.setCell (p := ⟨w.heap.size, 0, none⟩) (Nat.le_refl _) _).setCell (p := ⟨w.heap.size, 1, none⟩) (Nat.le_refl _) _).setCell (p := ⟨w.heap.size, 2, none⟩) (Nat.le_refl _) _).setCell (p := ⟨w.heap.size, 3, none⟩) (Nat.le_refl _) _)
    clear hF
    have r0 : Wf.cell? ⟨w.heap.size, 0, none⟩ = some (.string ⟨#[]⟩) := PF.cell 0
    have r1 : Wf.cell? ⟨w.heap.size, 1, none⟩ = some (.string ⟨#[]⟩) := PF.cell 1
    have r2 : Wf.cell? ⟨w.heap.size, 2, none⟩ = some (.slice none 0 0) := PF.cell 2
    have r3 : Wf.cell? ⟨w.heap.size, 3, none⟩ = some (.string ⟨#[]⟩) := PF.cell 3
    refine bodyPost_ret (v := .tuple #[.agg #[.string ⟨#[]⟩, .string ⟨#[]⟩, .slice none 0 0, .string ⟨#[]⟩], .bool false]) (by simp [results, Tryz.results7, go_sem, r0, r1, r2, r3]) rfl ⟨HN2.out _ _ G.out rfl, OF⟩
  · have hne : t.toList.isEmpty = false := by
      have : (t.toList == []) = false := strNeL (l := []) fun e => hz0 (by rw [e]; rfl)
      simpa using this
    have HMK : Hid (∀ wx : World, Below w1.heap.size w1 wx → Calls Tryz.prog 5 #[.agg #[.string dm, .string tw, .slice a L.length cp, .string hd]] wx fun e w' => e = .returned (.string (makeI ⟨dm, tw, L, hd⟩)) ∧ Below wx.heap.size wx w') := fun wx hx => implMake ⟨dm, tw, L, hd⟩ (.slice a L.length cp) V.heap.size wx (HEn.out.below hx) (fls_below HF1.out hx (Nat.le_refl _)) HZ.out
    have HOK2 : Hid (okI t = decide (makeI ⟨dm, tw, L, hd⟩ = t)) := by show _ = _; rw [HOKh.out, decide_eq_true (show t.size ≠ 0 from hz0)]; rfl
    clear HOKh
    generalize makeI ⟨dm, tw, L, hd⟩ = MT at *
    have x0 : w1.cell? ⟨w.heap.size + 1, 0, none⟩ = some (.string dm) := HB1.out.cell 0
    have x1 : w1.cell? ⟨w.heap.size + 1, 1, none⟩ = some (.string tw) := HB1.out.cell 1
    have x2 : w1.cell? ⟨w.heap.size + 1, 2, none⟩ = some (.slice a L.length cp) := HB1.out.cell 2
    have x3 : w1.cell? ⟨w.heap.size + 1, 3, none⟩ = some (.string hd) := HB1.out.cell 3
    go_wp2_with fail
    refine (HMK.out _ (Below.refl _ _)).mono ?_
    rintro e w2 ⟨rfl, hb2⟩
    have HB2 : Hid (Blk (w.heap.size + 1) (rdC (.string dm) (.string tw) (.slice a L.length cp) (.string hd) y4 r) w2) := HB1.out.below hb2
    have HF2 : Hid (Fls w2 V.heap.size (.slice a L.length cp) L) := fls_below HF1.out hb2 (Nat.le_refl _)
    have HP2 : Hid (Blk w.heap.size #[.string ⟨#[]⟩, .string ⟨#[]⟩, .slice none 0 0, .string ⟨#[]⟩] w2) := HP1.out.below hb2
    have HW2 : Hid (Below w.heap.size w w2) := HW1.out.trans (hb2.mono HW1.out.size)
    clear hb2 x0 x1 x2 x3 HMK HB1 HF1 HP1 HW1
    have x0 : w2.cell? ⟨w.heap.size + 1, 0, none⟩ = some (.string dm) := HB2.out.cell 0
    have x1 : w2.cell? ⟨w.heap.size + 1, 1, none⟩ = some (.string tw) := HB2.out.cell 1
    have x2 : w2.cell? ⟨w.heap.size + 1, 2, none⟩ = some (.slice a L.length cp) := HB2.out.cell 2
    have x3 : w2.cell? ⟨w.heap.size + 1, 3, none⟩ = some (.string hd) := HB2.out.cell 3
    have p0 : w2.cell? ⟨w.heap.size, 0, none⟩ = some (.string ⟨#[]⟩) := HP2.out.cell 0
    have p1 : w2.cell? ⟨w.heap.size, 1, none⟩ = some (.string ⟨#[]⟩) := HP2.out.cell 1
    have p2 : w2.cell? ⟨w.heap.size, 2, none⟩ = some (.slice none 0 0) := HP2.out.cell 2
    have p3 : w2.cell? ⟨w.heap.size, 3, none⟩ = some (.string ⟨#[]⟩) := HP2.out.cell 3
    have t0 := HP2.out.free 0
    have t1 := HP2.out.free 1
    have t2 := HP2.out.free 2
    have t3 := HP2.out.free 3
    have HN2 : Hid _ := HNh.out
    have HY2 : Hid _ := HYh.out
    by_cases hmt : MT = t
    · have hmb : (MT.toList == t.toList) = true := by rw [hmt]; simp
      have G : Hid (okI t = true) := by show _ = _; rw [HOK2.out, decide_eq_true hmt]
      clear hmt
      go_wp2
      generalize hF : (((w2.setCell ⟨w.heap.size, 0, none⟩ (.string dm)).setCell ⟨w.heap.size, 1, none⟩ (.string tw)).setCell ⟨w.heap.size, 2, none⟩ (.slice a L.length cp)).setCell ⟨w.heap.size, 3, none⟩ (.string hd) = Wf
      have PF : Blk w.heap.size #[.string dm, .string tw, .slice a L.length cp, .string hd] Wf := by
        rw [← hF]
        exact (((HP2.out.set (i := 0) (by simp)).set (i := 1) (by simp)).set (i := 2) (by simp)).set (i := 3) (by simp)
      have OF : Below w.heap.size w Wf := by
        rw [← hF]
        exact ((((HW2.out.setCell (p := ⟨w.heap.size, 0, none⟩) (Nat.le_refl _) _).setCell (p := ⟨w.heap.size, 1, none⟩) (Nat.le_refl _) _).setCell (p := ⟨w.heap.size, 2, none⟩) (Nat.le_refl _) _).setCell (p := ⟨w.heap.size, 3, none⟩) (Nat.le_refl _) _)
      have FF : Fls Wf w.heap.size (.slice a L.length cp) L := by
        rw [← hF]
        exact fls_lo (ownsRow_set_low (ownsRow_set_low (ownsRow_set_low (ownsRow_set_low HF2.out (by show w.heap.size < _; omega) _) (by show w.heap.size < _; omega) _) (by show w.heap.size < _; omega) _) (by show w.heap.size < _; omega) _) hVz
      clear hF
      have r0 : Wf.cell? ⟨w.heap.size, 0, none⟩ = some (.string dm) := PF.cell 0
      have r1 : Wf.cell? ⟨w.heap.size, 1, none⟩ = some (.string tw) := PF.cell 1
      have r2 : Wf.cell? ⟨w.heap.size, 2, none⟩ = some (.slice a L.length cp) := PF.cell 2
      have r3 : Wf.cell? ⟨w.heap.size, 3, none⟩ = some (.string hd) := PF.cell 3
      refine bodyPost_ret (v := .tuple #[.agg #[.string dm, .string tw, .slice a L.length cp, .string hd], .bool true]) (by simp [results, Tryz.results7, go_sem, r0, r1, r2, r3]) rfl ⟨HY2.out _ _ G.out ⟨_, rfl, FF, HZ.out⟩, OF⟩
    · have hmb : (MT.toList == t.toList) = false := strNe hmt
      have G : Hid (okI t = false) := by show _ = _; rw [HOK2.out, decide_eq_false hmt]
      clear hmt
      go_wp2
      generalize hF : (((w2.setCell ⟨w.heap.size, 0, none⟩ (.string ⟨#[]⟩)).setCell ⟨w.heap.size, 1, none⟩ (.string ⟨#[]⟩)).setCell ⟨w.heap.size, 2, none⟩ (.slice none 0 0)).setCell ⟨w.heap.size, 3, none⟩ (.string ⟨#[]⟩) = Wf
      have PF : Blk w.heap.size #[.string ⟨#[]⟩, .string ⟨#[]⟩, .slice none 0 0, .string ⟨#[]⟩] Wf := by
        rw [← hF]
        exact (((HP2.out.set (i := 0) (by simp)).set (i := 1) (by simp)).set (i := 2) (by simp)).set (i := 3) (by simp)
      have OF : Below w.heap.size w Wf := by
        rw [← hF]
        exact ((((HW2.out.setCell (p := ⟨w.heap.size, 0, none⟩) (Nat.le_refl _) _).setCell (p := ⟨w.heap.size, 1, none⟩) (Nat.le_refl _) _).setCell (p := ⟨w.heap.size, 2, none⟩) (Nat.le_refl _) _).setCell (p := ⟨w.heap.size, 3, none⟩) (Nat.le_refl _) _)
      clear hF
      have r0 : Wf.cell? ⟨w.heap.size, 0, none⟩ = some (.string ⟨#[]⟩) := PF.cell 0
      have r1 : Wf.cell? ⟨w.heap.size, 1, none⟩ = some (.string ⟨#[]⟩) := PF.cell 1
      have r2 : Wf.cell? ⟨w.heap.size, 2, none⟩ = some (.slice none 0 0) := PF.cell 2
      have r3 : Wf.cell? ⟨w.heap.size, 3, none⟩ = some (.string ⟨#[]⟩) := PF.cell 3
      refine bodyPost_ret (v := .tuple #[.agg #[.string ⟨#[]⟩, .string ⟨#[]⟩, .slice none 0 0, .string ⟨#[]⟩], .bool false]) (by simp [results, Tryz.results7, go_sem, r0, r1, r2, r3]) rfl ⟨HN2.out _ _ G.out rfl, OF⟩
end Go.Proofs.YtlolnfpfipnfeaaGreatDoor
namespace Go.Proofs.YtlolnfpfipnfeaaGreatDoor
open Go.ChangeShapes Go.WideShapes Go.ChangeAt Go.RowKit

/-- a slice of strings that can be read: none, or the cells of a block from off on -/
def ArgS (w : World) (v : Value) (L : List ByteArray) : Prop :=
  L.length ≤ maxLen ∧ (∀ s ∈ L, s.size ≤ maxLen) ∧ ((L = [] ∧ ∃ a c, v = .slice a 0 c) ∨ ∃ b off cap, v = .slice (some ⟨b, off, none⟩) L.length cap ∧ b < w.heap.size ∧ ∀ i (hi : i < L.length), w.cell? ⟨b, off + i, none⟩ = some (.string L[i]))

set_option maxRecDepth 100000 in
theorem ArgS.below {w w1 : World} {v : Value} {L : List ByteArray} (h : ArgS w v L) (hb : Below w.heap.size w w1) : ArgS w1 v L := by
  refine ⟨h.1, h.2.1, ?_⟩
  rcases h.2.2 with h0 | ⟨b, off, cap, hv, hlt, hc⟩
  · exact .inl h0
  · exact .inr ⟨b, off, cap, hv, Nat.lt_of_lt_of_le hlt hb.size, fun i hi => (hb.cell (p := ⟨b, off + i, none⟩) hlt).trans (hc i hi)⟩

set_option maxRecDepth 100000 in
theorem openStrs {H : Type} {enc : TypeId × Value → H} {W : World} {b0 : Nat} {v : Value} {d : DataW H} {p : List MemPlace} (hv : Value.okWide Tryz.prog W .any b0 39 v) (h : DataW.Trod enc Tryz.prog W 0 (fun _ => true) true 39 v d p) : ∃ L, ArgS W v L := by
  obtain ⟨a0, len, cap, rfl⟩ := okWide_slice Tryz.underlying39 hv
  obtain ⟨fuel, hf⟩ := h
  rcases open_strings Tryz.underlying39 Tryz.underlying9 (by kernel_rfl) hf with ⟨hcs, _⟩ | ⟨a, len', cap', ss, hcs, _, hl, hm, hz, _, hcell, hws⟩
  · simp [Value.cells] at hcs
    obtain ⟨rfl, rfl, rfl⟩ := hcs
    exact ⟨[], Nat.zero_le _, (fun s hs => by cases hs), .inl ⟨rfl, _, _, rfl⟩⟩
  · simp [Value.cells] at hcs
    obtain ⟨rfl, rfl, rfl⟩ := hcs
    have hz' : ss.length = cap := by simpa using hz
    by_cases h0 : len = 0
    · subst h0
      exact ⟨[], Nat.zero_le _, (fun s hs => by cases hs), .inl ⟨rfl, _, _, rfl⟩⟩
    · obtain ⟨b, off, spot⟩ := a
      have hc0 := hcell 0 (by omega)
      have hspot : spot = none := by simpa [Addr.add] using World.cell?_spot hc0
      subst hspot
      have hlt : (ss.take len).length = len := by simp; omega
      refine ⟨ss.take len, by rw [hlt]; omega, fun s hs => hws s (List.mem_of_mem_take hs), .inr ⟨b, off, cap, by rw [hlt], ?_, fun i hi => ?_⟩⟩
      · by_cases hb : b < W.heap.size
        · exact hb
        · exfalso
          have e : W.heap[b]? = none := Array.getElem?_eq_none (by omega)
          have ea : (⟨b, off, none⟩ : Addr).add 0 = ⟨b, off, none⟩ := by simp [Addr.add]
          rw [ea] at hc0
          simp [World.cell?, e] at hc0
      · rw [hlt] at hi
        have hci := hcell i (by omega)
        have ea : (⟨b, off, none⟩ : Addr).add i = ⟨b, off + i, none⟩ := by by_cases hi0 : i = 0 <;> simp [Addr.add, hi0]
        rw [ea] at hci
        rw [hci]
        congr 2
        rw [List.getD_eq_getElem?_getD, List.getElem?_eq_getElem (by omega)]
        simp

def sumSz (L : List ByteArray) : Nat := (L.map ByteArray.size).sum
set_option maxRecDepth 100000 in
theorem sumSz_take (L : List ByteArray) (k : Nat) (h : k < L.length) : sumSz (L.take (k + 1)) = sumSz (L.take k) + L[k].size := by
  unfold sumSz
  rw [List.take_succ_eq_append_getElem h, List.map_append, List.sum_append]
  simp only [List.map_cons, List.map_nil, List.sum_cons, List.sum_nil, Nat.add_zero]
set_option maxRecDepth 100000 in
theorem sumSz_take_le (L : List ByteArray) (k : Nat) : sumSz (L.take k) ≤ sumSz L := by
  unfold sumSz
  conv => rhs; rw [← List.take_append_drop k L, List.map_append, List.sum_append]
  exact Nat.le_add_right _ _
set_option maxRecDepth 100000 in
theorem sumSz_le (L : List ByteArray) (k n : Nat) (h : L.length ≤ n) (hs : ∀ s ∈ L, s.size ≤ k) : sumSz L ≤ n * k := by
  induction L generalizing n with
  | nil => simp [sumSz]
  | cons p L ih =>
    obtain ⟨n', rfl⟩ : ∃ n', n = n' + 1 := ⟨n - 1, by simp at h; omega⟩
    have h1 := ih n' (by simpa using h) (fun s hm => hs s (List.mem_cons_of_mem _ hm))
    have h2 := hs p (List.mem_cons_self ..)
    simp only [sumSz, List.map_cons, List.sum_cons] at h1 ⊢
    rw [Nat.succ_mul]
    omega
set_option maxRecDepth 100000 in
theorem strs_args {w : World} {lo : Nat} {v : Value} {L : List ByteArray} (h : Strs w lo v L) (hL : L.length ≤ maxLen) (hs : ∀ s ∈ L, s.size ≤ maxLen) : ArgS w v L := by
  refine ⟨hL, hs, ?_⟩
  rcases h.cases with ⟨rfl, rfl⟩ | ⟨g, cap, rfl, hg⟩
  · exact .inl ⟨rfl, _, _, rfl⟩
  · exact .inr ⟨g, 0, cap, rfl, hg.lt, fun i hi => by rw [Nat.zero_add]; exact hg.cell i hi⟩
end Go.Proofs.YtlolnfpfipnfeaaGreatDoor
