import Derived.Test.YtlolnfpfipnfeaaGreatDoorMg43
import Derived.ChangeSlices
import Derived.Test.YtlolnfpfipnfeaaGreatDoorMg39
import Derived.Test.YtlolnfpfipnfeaaGreatDoorMg38
namespace Go.Proofs.YtlolnfpfipnfeaaGreatDoor
open Go.ChangeShapes Go.WideShapes Go.ChangeAt Go.RowKit

/-- bytes that came in, however many -/
def BytesArg (w : World) (v : Value) (B : List UInt8) : Prop :=
  B.length ≤ maxLen ∧ ((B = [] ∧ ∃ a c, v = .slice a 0 c) ∨ ∃ g off cap, v = .slice (some ⟨g, off, none⟩) B.length cap ∧ g < w.heap.size ∧ ∀ i (hi : i < B.length), w.cell? ⟨g, off + i, none⟩ = some (.int .u8 B[i].toNat))
set_option maxRecDepth 100000 in
theorem openBytes {H : Type} {enc : TypeId × Value → H} {W : World} {b0 : Nat} {v : Value} {d : DataW H} {p : List MemPlace} (hv : Value.okWide Tryz.prog W .any b0 22 v) (h : DataW.Trod enc Tryz.prog W 0 (fun _ => true) true 22 v d p) : ∃ B, BytesArg W v B := by
  obtain ⟨a0, len, cap, rfl⟩ := okWide_slice Tryz.underlying22 hv
  obtain ⟨fuel, hf⟩ := h
  rcases open_ints Tryz.underlying22 Tryz.underlying5 (by kernel_rfl) hf with ⟨hcs, _⟩ | ⟨a, len', cap', zs, hcs, _, hl, hm, hz, _, hcell, hwz⟩
  · simp [Value.cells] at hcs
    obtain ⟨rfl, rfl, rfl⟩ := hcs
    exact ⟨[], Nat.zero_le _, .inl ⟨rfl, _, _, rfl⟩⟩
  · simp [Value.cells] at hcs
    obtain ⟨rfl, rfl, rfl⟩ := hcs
    have hz' : zs.length = cap := by simpa using hz
    by_cases h0 : len = 0
    · subst h0
      exact ⟨[], Nat.zero_le _, .inl ⟨rfl, _, _, rfl⟩⟩
    · obtain ⟨b, off, spot⟩ := a
      have hc0 := hcell 0 (by omega)
      have hspot : spot = none := by simpa [Addr.add] using World.cell?_spot hc0
      subst hspot
      have hlt : ((zs.take len).map fun z => UInt8.ofNat z.toNat).length = len := by simp; omega
      refine ⟨(zs.take len).map fun z => UInt8.ofNat z.toNat, by rw [hlt]; omega, .inr ⟨b, off, cap, by rw [hlt], ?_, fun i hi => ?_⟩⟩
      · by_cases hb : b < W.heap.size
        · exact hb
        · exfalso
          have e : W.heap[b]? = none := Array.getElem?_eq_none (by omega)
          have ea : (⟨b, off, none⟩ : Addr).add 0 = ⟨b, off, none⟩ := by simp [Addr.add]
          rw [ea] at hc0
          simp [World.cell?, e] at hc0
      · rw [hlt] at hi
        have hci := hcell i (by omega)
        have ea : (⟨b, off, none⟩ : Addr).add i = ⟨b, off + i, none⟩ := by by_cases hi0 : i = 0 <;> simp [Addr.add, hi0]
        rw [ea] at hci
        rw [hci]
        have hzi : i < zs.length := by omega
        have hw := hwz zs[i] (List.getElem_mem hzi)
        have hr : 0 ≤ zs[i] ∧ zs[i] ≤ 255 := by simpa [Lit.wf, IntKind.min, IntKind.max, IntKind.signed, IntKind.bits] using hw
        rw [List.getD_eq_getElem?_getD, List.getElem?_eq_getElem hzi]
        simp only [List.getElem_map, List.getElem_take, Option.getD_some]
        congr 2
        simp
        omega
end Go.Proofs.YtlolnfpfipnfeaaGreatDoor
namespace Go.Proofs.YtlolnfpfipnfeaaGreatDoor
open Go.ChangeShapes Go.WideShapes Go.ChangeAt Go.RowKit
open Pcs

structure FlX (f : Fl) : Prop where
  rc : f.rc.size ≤ 300
  st : f.st.size ≤ 8
  tx : f.tx.size ≤ 210
structure MkS (b : Bn) : Prop where
  he : b.he.size ≤ 200
  tw : b.tw.size ≤ 300
  hd : b.hd.size ≤ 4100
  fs : ∀ f ∈ b.fs, FlX f
theorem FlY.x {f : Fl} (h : FlY f) : FlX f := ⟨h.rc, h.st, h.tx⟩
theorem BnY.s {b : Bn} (h : BnY b) : MkS b := ⟨h.he, h.tw, Nat.le_trans h.hd (by decide), fun f hf => (h.fs f hf).x⟩
theorem spoB_s {k j : Nat} {b : Bn} {f : Fl} {L : List Fl} (hy : BnY b) (hf : b.fs = f :: L) : MkS (spoB k j b f L) := by
  have h1 : FlX f := (hy.fs f (by rw [hf]; exact List.mem_cons_self ..)).x
  have h2 : ∀ g ∈ L, FlX g := fun g hg => (hy.fs g (by rw [hf]; exact List.mem_cons_of_mem _ hg)).x
  have h3 : ∀ f', FlX f' → ∀ g ∈ f' :: L, FlX g := fun f' hf' g hg => by
    rcases List.mem_cons.1 hg with rfl | hg
    · exact hf'
    · exact h2 g hg
  have z1 := hy.he
  have z2 := hy.tw
  have z4 : b.hd.size ≤ 4050 := hy.hd
  have z3 : b.hd.size ≤ 4100 := by omega
  have h6 : (ofInts (fillL 201)).size ≤ 210 := by rw [fill_size]; omega
  unfold spoB
  generalize ofInts (fillL 201) = y6 at h6
  split
  · exact ⟨Nat.zero_le _, z2, z3, h3 f h1⟩
  · exact ⟨z1, by show 3 ≤ 300; omega, z3, h3 f h1⟩
  · exact ⟨z1, z2, z3, fun g hg => absurd hg (by simp)⟩
  · exact ⟨z1, z2, z3, h3 _ ⟨h1.rc, getD_le (L := sts5) (n := 8) (by decide) _, h1.tx⟩⟩
  · exact ⟨z1, z2, z3, h3 _ ⟨h1.rc, h1.st, h1.tx⟩⟩
  · exact ⟨z1, z2, z3, h3 _ ⟨h1.rc, h1.st, by show 4 ≤ 210; omega⟩⟩
  · exact ⟨z1, z2, z3, h3 _ ⟨h1.rc, h1.st, h6⟩⟩
  · refine ⟨z1, z2, ?_, h3 f h1⟩
    show (b.hd ++ _).size ≤ _
    have e2 : (⟨#[13, 10]⟩ : ByteArray).size = 2 := rfl
    rw [ByteArray.size_append]; omega
  · refine ⟨z1, z2, ?_, h3 f h1⟩
    show (b.hd ++ _).size ≤ _
    have e2 : (⟨#[120]⟩ : ByteArray).size = 1 := rfl
    rw [ByteArray.size_append]; omega
  · refine ⟨z1, z2, z3, fun g hg => ?_⟩
    rcases List.mem_append.1 hg with hg | hg
    · exact h3 f h1 g hg
    · rw [(List.mem_replicate.1 hg).2]; exact h1
theorem mkbF_s (B : List UInt8) : MkS (mkbF B) := by
  have hy := bncF_small B (px B 0)
  unfold mkbF
  generalize (bncF B (px B 0)).1 = b at *
  by_cases h : nx B 0 % 5 = 4
  · cases hf : b.fs with
    | nil => exact absurd hf hy.ne
    | cons f L => rw [spoC_yes h hf]; exact spoB_s hy hf
  · rw [spoC_no h]; exact hy.s
theorem flines_x {f : Fl} (h : FlX f) (h4 : (Lib.itoa f.cd).length ≤ 4) : (flatL (flLines f)).length ≤ 650 := by
  have h1 := h.rc
  have h2 := h.st
  have h3 := h.tx
  rw [Lib.size_eq] at h1 h2 h3
  simp only [flLines, flatL, List.map_cons, List.map_nil, List.flatten_cons, List.flatten_nil, List.length_append, List.length_cons, List.length_nil]
  have e1 : rcL.length = 25 := rfl
  have e2 : acL.length = 14 := rfl
  have e3 : stL.length = 8 := rfl
  have e4 : dgL.length = 23 := rfl
  omega
theorem flall_x : ∀ (L : List Fl), (∀ f ∈ L, FlX f) → (∀ f ∈ L, (Lib.itoa f.cd).length ≤ 4) → (flatL (L.map flLines).flatten).length ≤ L.length * 650
  | [], _, _ => by simp [flatL]
  | f :: L, h, hi => by
    have h1 := flall_x L (fun g hg => h g (List.mem_cons_of_mem _ hg)) fun g hg => hi g (List.mem_cons_of_mem _ hg)
    have h2 := flines_x (h f (List.mem_cons_self ..)) (hi f (List.mem_cons_self ..))
    rw [List.map_cons, List.flatten_cons, flatL_app, List.length_append, List.length_cons]
    omega
theorem mk_small {b : Bn} (h : MkS b) : (makeS b).size ≤ 30000 := by
  cases hb : bnOk b
  · rw [(make_no hb).2]; exact Nat.zero_le _
  · rw [makeS_yes hb, mk_size]
    have hc := cutS_size (head_body (bnR hb).hd)
    rw [mk_size] at hc
    generalize cutL (bndS (linesB b.hd)) = cut at hc
    have hb2 := hb
    unfold bnOk at hb2
    simp only [Bool.and_eq_true, decide_eq_true_eq] at hb2
    have hl : b.fs.length ≤ 20 := hb2.2.2.2.1
    have hi : ∀ f ∈ b.fs, (Lib.itoa f.cd).length ≤ 4 := fun f hf => by
      have := flOk_of (List.all_eq_true.1 hb2.2.2.2.2.1 f hf)
      have hcd := code_bnd this.2.2.1
      exact itoa_len hcd.1 hcd.2
    have h1 := h.he
    have h2 := h.tw
    have h3 := h.hd
    rw [Lib.size_eq] at h1 h2 h3
    have h4 := flall_x b.fs h.fs hi
    unfold bnText bnLines
    rw [flatL_app, flatL_app]
    simp only [List.length_append]
    have e0 : (flatL (hdLines b cut)).length ≤ 900 := by
      simp only [hdLines, flatL, List.map_cons, List.map_nil, List.flatten_cons, List.flatten_nil, List.length_append, List.length_cons, List.length_nil]
      have e1 : frL.length = 8 := rfl
      have e2 : toL.length = 5 := rfl
      have e3 : sbL.length = 25 := rfl
      have e4 : bdL.length = 71 := rfl
      have e5 : csL.length = 37 := rfl
      have e6 : rpL.length = 20 := rfl
      omega
    have e1 : (flatL (enLines cut)).length ≤ 100 := by
      simp only [enLines, flatL, List.map_cons, List.map_nil, List.flatten_cons, List.flatten_nil, List.length_append, List.length_cons, List.length_nil]
      have e5 : chL.length = 33 := rfl
      omega
    have e2 : (lastL cut).length ≤ 20 := by
      simp only [lastL, List.length_append, List.length_cons, List.length_nil]
      omega
    omega
end Go.Proofs.YtlolnfpfipnfeaaGreatDoor
