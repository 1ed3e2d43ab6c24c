import Derived.Test.YtngcjlghjidnjaaGreatDoorMg12
import Derived.ChangeSlices
namespace Go.Proofs.YtngcjlghjidnjaaGreatDoor
open Go.ChangeShapes Go.WideShapes Go.ChangeAt Go.RowKit

/-- bytes that came in, however many -/
def BytesArg (w : World) (v : Value) (B : List UInt8) : Prop :=
  B.length ≤ maxLen ∧ ((B = [] ∧ ∃ a c, v = .slice a 0 c) ∨ ∃ g off cap, v = .slice (some ⟨g, off, none⟩) B.length cap ∧ g < w.heap.size ∧ ∀ i (hi : i < B.length), w.cell? ⟨g, off + i, none⟩ = some (.int .u8 B[i].toNat))
set_option maxRecDepth 100000 in
theorem openBytes {H : Type} {enc : TypeId × Value → H} {W : World} {b0 : Nat} {v : Value} {d : DataW H} {p : List MemPlace} (hv : Value.okWide Tryz.prog W .any b0 22 v) (h : DataW.Trod enc Tryz.prog W 0 (fun _ => true) true 22 v d p) : ∃ B, BytesArg W v B := by
  obtain ⟨a0, len, cap, rfl⟩ := okWide_slice Tryz.underlying22 hv
  obtain ⟨fuel, hf⟩ := h
  rcases open_ints Tryz.underlying22 Tryz.underlying5 (by kernel_rfl) hf with ⟨hcs, _⟩ | ⟨a, len', cap', zs, hcs, _, hl, hm, hz, _, hcell, hwz⟩
  · simp [Value.cells] at hcs
    obtain ⟨rfl, rfl, rfl⟩ := hcs
    exact ⟨[], Nat.zero_le _, .inl ⟨rfl, _, _, rfl⟩⟩
  · simp [Value.cells] at hcs
    obtain ⟨rfl, rfl, rfl⟩ := hcs
    have hz' : zs.length = cap := by simpa using hz
    by_cases h0 : len = 0
    · subst h0
      exact ⟨[], Nat.zero_le _, .inl ⟨rfl, _, _, rfl⟩⟩
    · obtain ⟨b, off, spot⟩ := a
      have hc0 := hcell 0 (by omega)
      have hspot : spot = none := by simpa [Addr.add] using World.cell?_spot hc0
      subst hspot
      have hlt : ((zs.take len).map fun z => UInt8.ofNat z.toNat).length = len := by simp; omega
      refine ⟨(zs.take len).map fun z => UInt8.ofNat z.toNat, by rw [hlt]; omega, .inr ⟨b, off, cap, by rw [hlt], ?_, fun i hi => ?_⟩⟩
      · by_cases hb : b < W.heap.size
        · exact hb
        · exfalso
          have e : W.heap[b]? = none := Array.getElem?_eq_none (by omega)
          have ea : (⟨b, off, none⟩ : Addr).add 0 = ⟨b, off, none⟩ := by simp [Addr.add]
          rw [ea] at hc0
          simp [World.cell?, e] at hc0
      · rw [hlt] at hi
        have hci := hcell i (by omega)
        have ea : (⟨b, off, none⟩ : Addr).add i = ⟨b, off + i, none⟩ := by by_cases hi0 : i = 0 <;> simp [Addr.add, hi0]
        rw [ea] at hci
        rw [hci]
        have hzi : i < zs.length := by omega
        have hw := hwz zs[i] (List.getElem_mem hzi)
        have hr : 0 ≤ zs[i] ∧ zs[i] ≤ 255 := by simpa [Lit.wf, IntKind.min, IntKind.max, IntKind.signed, IntKind.bits] using hw
        rw [List.getD_eq_getElem?_getD, List.getElem?_eq_getElem hzi]
        simp only [List.getElem_map, List.getElem_take, Option.getD_some]
        congr 2
        simp
        omega
end Go.Proofs.YtngcjlghjidnjaaGreatDoor
