import Derived.Test.YticfnfplpccmgadDoorRdStr
namespace Go.Proofs.YticfnfplpccmgadDoor
open Go.ChangeShapes Go.WideShapes Go.ChangeAt Go.RowKit

/-- the numbers of m bytes more -/
def someGo : Nat → List UInt8 → Nat → List Int → List Int × Nat
  | 0, _, p, acc => (acc, p)
  | m + 1, B, p, acc => someGo m B (px B p) (acc ++ [((nx B p : Nat) : Int)])
def someV (B : List UInt8) (p n : Nat) : List Int × Nat := someGo (nx B p % (n + 1)) B (px B p) []
def someB (B : List UInt8) (p n : Nat) : ByteArray := ofInts (someV B p n).1
def someP (B : List UInt8) (p n : Nat) : Nat := (someV B p n).2
set_option maxRecDepth 100000 in
theorem someGo_len : ∀ (m : Nat) (B : List UInt8) (p : Nat) (acc : List Int), (someGo m B p acc).1.length = acc.length + m
  | 0, _, _, _ => rfl
  | m + 1, B, p, acc => by rw [someGo, someGo_len]; simp; omega
set_option maxRecDepth 100000 in
theorem someB_size (B : List UInt8) (p n : Nat) : (someB B p n).size ≤ n := by
  rw [someB, ofInts_size, someV, someGo_len]
  have := Nat.mod_lt (nx B p) (show 0 < n + 1 by omega)
  simp; omega

set_option maxHeartbeats 2000000 in
set_option maxRecDepth 100000 in
theorem rdSome (b p n : Nat) (cv : Value) (B : List UInt8) (w : World) (h : RdAt w b cv B p) (hn : n ≤ 1000) :
    Calls Tryd.prog 83 #[.pointer (some ⟨b, 0, none⟩), .int .i64 n] w fun e w' => e = .returned (.string (someB B p n)) ∧ RdAt w' b cv B (someP B p n) ∧ Off b w w' := by
  have H : Hid (RdAt w b cv B p) := h
  have hbw : b < w.heap.size := h.2.2.2.1
  obtain ⟨i0, hi, hz0, hz1, hz2⟩ := info_parts infoU8
  clear h
  go_enter Tryd.func83, Tryd.ntmps83
  go_wp2_with fail
  refine (rdNext b p cv B _ H.out).mono ?_
  rintro e w1 ⟨rfl, h1, ho1⟩
  have hnx := nx_lt B p
  have hml : nx B p % (n + 1) ≤ n := by have := Nat.mod_lt (nx B p) (show 0 < n + 1 by omega); omega
  have HR1 : Hid (RdAt w1 b cv B (px B p)) := h1
  clear h1
  go_wp2
  go_loopw [5, 6] (fun v mv wr => ∃ (m q : Nat) (acc : List Int), mv = .int .i64 m ∧ wr.ownsRow w.heap.size 5 1 v acc.length (acc.map (Value.int .u8)) ∧ Hid (RdAt wr b cv B q) ∧ Off b w wr ∧ Hid (someGo m B q acc = someV B p n) ∧ acc.length + m ≤ 1000) (fun _ mv _ => (intOf mv).toNat)
  case atStart => exact ⟨nx B p % (n + 1), px B p, [], by go_num, World.ownsRow_nil _ _ _ _, HR1, ho1, rfl, by simp; omega⟩
  case round =>
    obtain ⟨m, q, acc, rfl, hown, HR, ho, HG, hlen⟩ := hrel
    by_cases hm : 0 < m
    · go_wp2_with fail
      refine (rdNext b q cv B _ HR.out).mono ?_
      rintro e w2 ⟨rfl, h2, ho2⟩
      have HR2 : Hid (RdAt w2 b cv B (px B q)) := h2
      have hnq := nx_lt B q
      have hzw := ho.size
      have hsz2 := ho2.size
      have hown2 : w2.ownsRow w.heap.size 5 1 u5 acc.length (acc.map (Value.int .u8)) := by
        refine ⟨hown.1, ?_⟩
        rcases hown.2 with h0 | ⟨g, cap, cur, hv, hl, hg, rest⟩
        · exact .inl h0
        · refine .inr ⟨g, cap, cur, hv, hl, ?_, rest⟩
          rw [ho2.block g (Array.getElem?_eq_some_iff.1 hg).1 (by omega)]; exact hg
      have hlos : ∀ k, u5.ownBlock = some k → w.heap.size ≤ k := fun k hk => (hown2.lt k hk).1
      have HG2 : Hid (someGo (m - 1) B (px B q) (acc ++ [((nx B q : Nat) : Int)]) = someV B p n) := by
        show _ = _
        rw [← HG.out]
        obtain ⟨m', rfl⟩ : ∃ m', m = m' + 1 := ⟨m - 1, by omega⟩
        rfl
      have ho02 : Off b w w2 := ho.trans ho2
      clear h2 hown ho ho2 HR HG
      generalize nx B q = X at hnq HG2 ⊢
      go_wp2_with (at_builtin; refine wpList_append_lies _ rfl _ _ 22 rfl w.heap.size 5 i0 (.int .u8 0) 1 1 Tryd.underlying22 hi hz0 hz1 hz2 rfl (by decide) _ _ _ rfl (hown2.alloc _) ⟨w2.heap.size, 0, none⟩ 1 1 [.int .u8 (X : Int)] rfl rfl ?c1 ?c2 ?c3 ?c4 ?c5 ?c6 (w2.heap.size + 1) ?c7 ?_)
      case c1 =>
        intro j u hj
        match j, hj with
        | 0, hj =>
          simp at hj; subst hj
          simp only [Addr.add, if_pos]
          exact World.cell?_alloc_mark w2 _ _ _ 0
      case c2 => intro u hu; simp at hu; subst hu; rfl
      case c3 => decide
      case c4 => unfold maxLen; omega
      case c5 => omega
      case c6 => simp; omega
      case c7 => simp
      intro g cap w3 hown3 hgrow hat hlt3
      have hown3' : w3.ownsRow w.heap.size 5 1 (.slice (some ⟨g, 0, none⟩) (acc.length + 1) cap) (acc ++ [(X : Int)]).length ((acc ++ [(X : Int)]).map (Value.int .u8)) := by simpa using hown3
      have hb3 : Below w.heap.size w2 w3 := ((Below.refl _ w2).alloc (by omega) _).grown hgrow (by simp; omega) hlos
      have HR3 : Hid (RdAt w3 b cv B (px B q)) := H.out.carry HR2.out hb3
      clear hown3 hgrow hat hown2 hlos
      go_wp2
      go_roundw
      case rel => exact ⟨m - 1, px B q, acc ++ [(X : Int)], by go_num, by simpa using hown3', HR3, ho02.carry hb3 (Nat.le_refl _), HG2, by simp; omega⟩
      case measure => simp [intOf]; omega
    · obtain rfl : m = 0 := by omega
      have hcv := run_row_str hown
      have HE : Hid ((acc, q) = someV B p n) := HG.out
      go_wp2
      go_ret
      refine ⟨?_, ?_, ho⟩
      · rw [someB, ← HE.out]; rfl
      · rw [someP, ← HE.out]; exact HR.out
end Go.Proofs.YticfnfplpccmgadDoor
