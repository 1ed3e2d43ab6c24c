import Derived.Test.YtlolnfpfipnfeaaGreatMg40
import Derived.Deep.RegionLaw
import Derived.Lib.SliceRun
import Derived.Deep.RegionWith
import Derived.Deep.DrawnRows
namespace Go.Proofs.YtlolnfpfipnfeaaGreat
open Go.ChangeShapes Go.WideShapes Go.ChangeAt Go.RowKit
attribute [local go_sem ↓] Go.wp_at_zero Go.wp_at_succ

def setsL (L : List Value) : Nat → List Value → List Value
  | _, [] => L
  | o, v :: r => setsL (L.set o v) (o + 1) r
theorem setsL_mid : ∀ (vs A B : List Value), vs.length ≤ B.length → setsL (A ++ B) A.length vs = A ++ (vs ++ B.drop vs.length)
  | [], A, B, _ => by simp [setsL]
  | v :: r, A, B, h => by
    cases B with
    | nil => simp at h
    | cons b B =>
      have e : (A ++ b :: B).set A.length v = (A ++ [v]) ++ B := by simp
      show setsL ((A ++ b :: B).set A.length v) (A.length + 1) r = _
      rw [e, show A.length + 1 = (A ++ [v]).length by simp, setsL_mid r (A ++ [v]) B (by simpa using h)]
      simp
theorem row_setsR {lo T k g n cap : Nat} : ∀ (vs : List Value) (o : Nat) (w : World) (L : List Value), w.ownsRow lo T k (.slice (some ⟨g, 0, none⟩) n cap) n L → (w.setCells g o vs).ownsRow lo T k (.slice (some ⟨g, 0, none⟩) n cap) n (setsL L o vs)
  | [], _, _, _, h => h
  | v :: r, o, _, _, h => row_setsR r (o + 1) _ _ (row_setR h v)
theorem off_sets {g : Nat} : ∀ (vs : List Value) (o : Nat) (w w1 : World), Off g w w1 → Off g w (w1.setCells g o vs)
  | [], _, _, _, h => h
  | v :: r, o, w, _, h => off_sets r (o + 1) w _ (h.setCell v)
theorem row_frontD {w : World} {lo T k n m : Nat} {g cap : Nat} {xs : List Value} (h : w.ownsRow lo T k (.slice (some ⟨g, 0, none⟩) n cap) n xs) (hm : m ≤ n) : w.ownsRow lo T k (.slice (some ⟨g, 0, none⟩) m cap) m (xs.take (m * k)) := by
  refine ⟨?_, ?_⟩
  · have := h.1
    have h2 : m * k ≤ n * k := Nat.mul_le_mul_right k hm
    rw [List.length_take, this]; omega
  · rcases h.2 with ⟨hv, _⟩ | ⟨g', cap', cur, hv, hl, hg, hn, hc, hs, ht⟩
    · cases hv
    · injection hv with h1 h2 h3
      injection h1 with h1
      injection h1 with h1
      subst h1 h3
      refine .inr ⟨g, cap, cur, rfl, hl, hg, by omega, hc, hs, ?_⟩
      rw [← ht, List.take_take]
      congr 1
      have h2 : m * k ≤ n * k := Nat.mul_le_mul_right k hm
      omega
theorem erase_flat (C : List (List Value)) (i : Nat) (hi : i < C.length) (h9 : ∀ c ∈ C, c.length = 9) (Z : List Value) (hZ : Z.length = 9) :
    (setsL (setsL C.flatten (i * 9) (C.drop (i + 1)).flatten) ((C.length - 1) * 9) Z).take ((C.length - 1) * 9) = (C.eraseIdx i).flatten := by
  have hA : (C.take i).flatten.length = i * 9 := by rw [flat_len (fun c hc => h9 c (List.mem_of_mem_take hc)), List.length_take]; congr 1; omega
  have hB : (C.drop (i + 1)).flatten.length = (C.length - (i + 1)) * 9 := by rw [flat_len (fun c hc => h9 c (List.mem_of_mem_drop hc)), List.length_drop]
  have hD : (C.drop i).flatten.length = (C.length - i) * 9 := by rw [flat_len (fun c hc => h9 c (List.mem_of_mem_drop hc)), List.length_drop]
  have e1 : C.flatten = (C.take i).flatten ++ (C.drop i).flatten := by rw [← List.flatten_append, List.take_append_drop]
  have s1 : setsL C.flatten (i * 9) (C.drop (i + 1)).flatten = (C.take i).flatten ++ ((C.drop (i + 1)).flatten ++ (C.drop i).flatten.drop (C.drop (i + 1)).flatten.length) := by
    rw [e1, ← hA]
    exact setsL_mid _ _ _ (by rw [hB, hD]; omega)
  have hE : (C.eraseIdx i).flatten = (C.take i).flatten ++ (C.drop (i + 1)).flatten := by rw [List.eraseIdx_eq_take_drop_succ, List.flatten_append]
  have hEl : (C.eraseIdx i).flatten.length = (C.length - 1) * 9 := by rw [hE, List.length_append, hA, hB, ← Nat.add_mul]; congr 1; omega
  rw [s1, ← List.append_assoc, ← hE]
  have hT : ((C.drop i).flatten.drop (C.drop (i + 1)).flatten.length).length = 9 := by rw [List.length_drop, hD, hB]; omega
  rw [← hEl, setsL_mid _ _ _ (by rw [hZ, hT]; exact Nat.le_refl _), List.take_left]
theorem clearIt (w : World) (ty : TypeId) (b o c : Nat) (hc : ∀ j, j < 9 → (w.cell? ⟨b, o + j, none⟩).isSome = true) (hf : ∀ j, j < 9 → w.frozen? ⟨b, o + j, none⟩ = false) :
    (Builtin.clear_ #[34] ty #[.slice (some ⟨b, o, none⟩) 1 c]).run Tryz.prog w = .ok (.tuple #[]) (w.setCells b o [.int .i64 0, .int .i64 0, .string ⟨#[]⟩, .slice none 0 0, .string ⟨#[]⟩, .slice none 0 0, .int .i64 0, .int .i64 0, .bool false]) := by
  have hv : ∀ w, (zeroValue 57).run Tryz.prog w = .ok (.agg #[.int .i64 0, .int .i64 0, .string ⟨#[]⟩, .slice none 0 0, .string ⟨#[]⟩, .slice none 0 0, .int .i64 0, .int .i64 0, .bool false]) w := fun _ => by kernel_rfl
  have hst := run_storeCells_cells (P := Tryz.prog) b o [.int .i64 0, .int .i64 0, .string ⟨#[]⟩, .slice none 0 0, .string ⟨#[]⟩, .slice none 0 0, .int .i64 0, .int .i64 0, .bool false] 0 w (by simpa using hc) (by simpa using hf) (by intro v hv'; simp at hv'; rcases hv' with rfl | rfl | rfl | rfl | rfl | rfl | rfl | rfl | rfl <;> rfl)
  simp only [Nat.add_zero] at hst
  have hzc : (Builtin.zeroCells (Value.agg #[.int .i64 0, .int .i64 0, .string ⟨#[]⟩, .slice none 0 0, .string ⟨#[]⟩, .slice none 0 0, .int .i64 0, .int .i64 0, .bool false]).cells 1).toList = [.int .i64 0, .int .i64 0, .string ⟨#[]⟩, .slice none 0 0, .string ⟨#[]⟩, .slice none 0 0, .int .i64 0, .int .i64 0, .bool false] := by kernel_rfl
  simp [Builtin.clear_, run_underlying Tryz.underlying34, hv, hzc, hst]

set_option maxHeartbeats 4000000 in
set_option maxRecDepth 100000 in
theorem delRow (g cap i m : Nat) (C : List (List Value)) (w : World) (h9 : ∀ c ∈ C, c.length = 9) (hC : C.length = m + 1) (ho : ∀ u ∈ C.flatten, u.oneCell' = true) (hi : i < m + 1) (hL : m + 1 ≤ 1048576) (hcap : m + 1 ≤ cap) (hcm : cap ≤ maxLen)
    (hcell : ∀ j, j < (m + 1) * 9 → (w.cell? ⟨g, j, none⟩).isSome = true) (hfree : ∀ o, w.frozen? ⟨g, o, none⟩ = false) (hnews : ∀ j u, (C.drop (i + 1)).flatten[j]? = some u → w.cell? ⟨g, (i + 1) * 9 + j, none⟩ = some u) :
    Calls Tryz.prog 156 #[.slice (some ⟨g, 0, none⟩) (m + 1) cap, .int .i64 i, .int .i64 ((i : Int) + 1)] w fun e w' => e = .returned (.slice (some ⟨g, 0, none⟩) m cap) ∧ w' = (w.drew.setCells g (i * 9) (C.drop (i + 1)).flatten).setCells g (m * 9) [.int .i64 0, .int .i64 0, .string ⟨#[]⟩, .slice none 0 0, .string ⟨#[]⟩, .slice none 0 0, .int .i64 0, .int .i64 0, .bool false] := by
  obtain ⟨i0, hinf, hx0, hx1, hx2⟩ := info_parts infoIt
  obtain ⟨news, Hn⟩ : ∃ news, Hid ((C.drop (i + 1)).flatten = news) := ⟨_, rfl⟩
  have hnl : news.length = (m - i) * 9 := by rw [← Hn.out, flat_len (fun c hc => h9 c (List.mem_of_mem_drop hc)), List.length_drop, hC]; congr 1; omega
  have ho1 : Hid (∀ u ∈ news, u.oneCell' = true) := by
    intro u hu
    rw [← Hn.out] at hu
    refine ho u ?_
    rw [← List.take_append_drop (i + 1) C, List.flatten_append]
    exact List.mem_append_right _ hu
  rw [Hn.out] at hnews ⊢
  unfold maxLen at hcm
  obtain ⟨W1, hW1⟩ : ∃ W1, W1 = w.drew.setCells g (0 + i * 9) news := ⟨_, rfl⟩
  have hcl : ∀ ty, (Builtin.clear_ #[34] ty #[.slice (some ⟨g, m * 9, none⟩) 1 (cap - m)]).run Tryz.prog W1 = .ok (.tuple #[]) (W1.setCells g (m * 9) [.int .i64 0, .int .i64 0, .string ⟨#[]⟩, .slice none 0 0, .string ⟨#[]⟩, .slice none 0 0, .int .i64 0, .int .i64 0, .bool false]) := fun ty => by
    refine clearIt W1 ty g (m * 9) (cap - m) (fun j hj => ?_) (fun j _ => ?_)
    · rw [hW1]; exact World.isSome_setCells g _ _ _ _ (hcell _ (by omega))
    · rw [hW1, World.frozen?_setCells]; exact hfree _
  have HW : Hid (W1 = w.drew.setCells g (0 + i * 9) news) := hW1
  have s3 : Hid (∀ t, t < news.length → (w.drew.cell? ⟨g, 0 + i * 9 + t, none⟩).isSome = true ∧ w.drew.frozen? ⟨g, 0 + i * 9 + t, none⟩ = false) := fun t ht => by
    refine ⟨?_, hfree _⟩
    show (w.cell? _).isSome = true
    exact hcell _ (by rw [hnl] at ht; omega)
  have HNL : Hid (news.length = (m - i) * 9) := hnl
  have HNS : Hid (∀ j u, news[j]? = some u → w.cell? ⟨g, (i + 1) * 9 + j, none⟩ = some u) := hnews
  have q1 : (0 : Int) ≤ (i : Int) := by omega
  have q2 : (i : Int) ≤ (i : Int) + 1 := by omega
  have q3 : (i : Int) + 1 ≤ (m : Int) + 1 := by omega
  have q4 : (m : Int) + 1 ≤ (cap : Int) := by omega
  have q5 : ((i : Int) == (i : Int) + 1) = false := by rw [beq_eq_false_iff_ne]; omega
  have q6 : (i : Int) ≤ (cap : Int) := by omega
  have q7 : (i : Int) + 1 ≤ (cap : Int) := by omega
  have e1 : i + (m - i) = m := by omega
  clear h9 ho hcell hfree hnews hnl hW1 hx0 hx2 hC
  have e2 : m + 1 - m = 1 := by omega
  have q0 : (0 : Int) ≤ (i : Int) + 1 := by omega
  have q8 : (m : Int) ≤ (m : Int) + 1 := by omega
  have q9 : ¬ (cap = m) := by omega
  by_cases hcb : cap = i + 1
  · obtain rfl : i = m := by omega
    subst hcb
    rw [show i + 1 - i = 1 by omega] at hcl
    have HN0 : Hid (news.length = 0 * 9) := by show _ = _; rw [HNL.out]; simp
    have hsrc : Hid (∀ j u, news[j]? = some u → w.drew.cell? ((⟨g, 0, none⟩ : Addr).add j) = some u) := fun j u hj => by
      have := (List.getElem?_eq_some_iff.1 hj).1
      rw [HN0.out] at this
      omega
    go_enter Tryz.func156, Tryz.ntmps156
    go_wp2_with fail
    go_region_law (refine step_append_room rfl (.tmp 22) (.tmp 25) 34 rfl 57 i0 9 Tryz.underlying34 hinf hx1 g 0 i (i + 1) (by simp [Act.eval, Act.put]) ⟨g, 0, none⟩ 0 0 news (by simp [Act.eval, Act.put]) HN0.out hsrc.out ho1.out (by omega) s3.out ?_; rw [← HW.out, Nat.add_zero])
    go_wp2
    go_ret
    rw [show i * 9 = 0 + i * 9 by omega, ← HW.out]
    exact ⟨rfl, rfl⟩
  · have hsrc : Hid (∀ j u, news[j]? = some u → w.drew.cell? ((⟨g, (i + 1) * 9, none⟩ : Addr).add j) = some u) := fun j u hj => by
      rw [Addr.add_lit]
      exact HNS.out j u hj
    go_enter Tryz.func156, Tryz.ntmps156
    go_wp2_with fail
    go_region_law (refine step_append_room rfl (.tmp 22) (.tmp 25) 34 rfl 57 i0 9 Tryz.underlying34 hinf hx1 g 0 i cap (by simp [Act.eval, Act.put]) ⟨g, (i + 1) * 9, none⟩ (m - i) (cap - (i + 1)) news (by simp [Act.eval, Act.put]) HNL.out hsrc.out ho1.out (by omega) s3.out ?_; rw [← HW.out, e1])
    go_wp2
    go_ret
    rw [show i * 9 = 0 + i * 9 by omega, ← HW.out]
    exact ⟨rfl, rfl⟩

theorem off_drew {g : Nat} (w : World) : Off g w w.drew := Off.of_below (Below.refl _ w).drew
set_option maxHeartbeats 1000000 in
theorem implDel (g cap i lo : Nat) (L : List It) (P : List (Value × Value)) (w : World) (h : ItsP w lo (.slice (some ⟨g, 0, none⟩) L.length cap) L P) (hi : i < L.length) (hL : L.length ≤ 1048576) :
    Calls Tryz.prog 156 #[.slice (some ⟨g, 0, none⟩) L.length cap, .int .i64 i, .int .i64 ((i : Int) + 1)] w fun e w' => e = .returned (.slice (some ⟨g, 0, none⟩) (L.length - 1) cap) ∧ ItsP w' lo (.slice (some ⟨g, 0, none⟩) (L.length - 1) cap) (L.eraseIdx i) (P.eraseIdx i) ∧ Off g w w' := by
  have hl := h.len
  have hCl := irow_len hl
  obtain ⟨m, hm⟩ : ∃ m, L.length = m + 1 := ⟨L.length - 1, by omega⟩
  have hrow : w.ownsRow lo 57 9 (.slice (some ⟨g, 0, none⟩) (m + 1) cap) (m + 1) (irow L P).flatten := by
    have := h.row.1
    rw [hCl, hm] at this
    exact this
  have hA := h.row.at.1
  have hcell : ∀ q, q < (m + 1) * 9 → ∃ u, w.cell? ⟨g, q, none⟩ = some u ∧ (irow L P).flatten[q]? = some u := fun q hq => by
    have hlen : (irow L P).flatten.length = (m + 1) * 9 := by rw [flat_len (irow_nine L P), hCl, hm]
    refine ⟨(irow L P).flatten[q]'(by omega), ?_, List.getElem?_eq_getElem (by omega)⟩
    have h2 := World.ownsRow.cells hrow (g := g) rfl q _ (List.getElem?_eq_getElem (by omega))
    rwa [Addr.add_lit, Nat.zero_add] at h2
  have hdel := delRow g cap i m (irow L P) w (irow_nine L P) (by rw [hCl, hm]) (irow_one h) (by omega) (by omega) (by have := hA.len; rw [hCl, hm] at this; exact this) hA.capm
    (fun q hq => by obtain ⟨u, h1, _⟩ := hcell q hq; rw [h1]; rfl) hA.free (fun j u hj => by
      have hj2 : j < ((irow L P).drop (i + 1)).flatten.length := (List.getElem?_eq_some_iff.1 hj).1
      rw [flat_len (fun c hc => irow_nine L P c (List.mem_of_mem_drop hc)), List.length_drop, hCl, hm] at hj2
      obtain ⟨u', h1, h2⟩ := hcell ((i + 1) * 9 + j) (by omega)
      have e1 : (irow L P).flatten = ((irow L P).take (i + 1)).flatten ++ ((irow L P).drop (i + 1)).flatten := by rw [← List.flatten_append, List.take_append_drop]
      have e2 : ((irow L P).take (i + 1)).flatten.length = (i + 1) * 9 := by rw [flat_len (fun c hc => irow_nine L P c (List.mem_of_mem_take hc)), List.length_take, hCl, hm]; congr 1; omega
      rw [e1, ← e2, List.getElem?_append_right (by omega), Nat.add_sub_cancel_left, hj] at h2
      rw [h1, ← h2])
  rw [hm]
  refine hdel.mono ?_
  rintro e w' ⟨rfl, hw'⟩
  have hoff : Off g w w' := by rw [hw']; exact off_sets _ _ _ _ (off_sets _ _ _ _ (off_drew w))
  refine ⟨rfl, ?_, hoff⟩
  have hd : w.drew.ownsRow lo 57 9 (.slice (some ⟨g, 0, none⟩) (m + 1) cap) (m + 1) (irow L P).flatten := row_below hrow (Below.refl _ w).drew
  have hr := row_frontD (row_setsR [.int .i64 0, .int .i64 0, .string ⟨#[]⟩, .slice none 0 0, .string ⟨#[]⟩, .slice none 0 0, .int .i64 0, .int .i64 0, .bool false] (m * 9) _ _ (row_setsR ((irow L P).drop (i + 1)).flatten (i * 9) _ _ hd)) (m := m) (Nat.le_succ m)
  rw [← hw'] at hr
  have he := erase_flat (irow L P) i (by rw [hCl]; exact hi) (irow_nine L P) [.int .i64 0, .int .i64 0, .string ⟨#[]⟩, .slice none 0 0, .string ⟨#[]⟩, .slice none 0 0, .int .i64 0, .int .i64 0, .bool false] rfl
  rw [hCl, hm, Nat.add_sub_cancel] at he
  rw [he] at hr
  refine ItsP.erase h i hi (Nat.le_refl _) (OffL.ofV (v := .slice (some ⟨g, 0, none⟩) L.length cap) (.inl ⟨g, rfl, hoff⟩) (by simp)) ⟨?_, fun c hc => irow_nine L P c (List.mem_of_mem_eraseIdx hc)⟩
  have hle : ((irow L P).eraseIdx i).length = m := by rw [List.length_eraseIdx_of_lt (by rw [hCl]; exact hi), hCl, hm, Nat.add_sub_cancel]
  rw [hle]
  simpa using hr
end Go.Proofs.YtlolnfpfipnfeaaGreat
namespace Go.Proofs.YtlolnfpfipnfeaaGreat
open Go.ChangeShapes Go.WideShapes Go.ChangeAt Go.RowKit
attribute [local go_sem ↓] Go.wp_at_zero Go.wp_at_succ

/-- below lo nothing changes but block b -/
structure Kp (b lo : Nat) (w w1 : World) : Prop where
  os : w1.os = w.os
  tape : w1.tape = w.tape
  output : w1.output = w.output
  size : w.heap.size ≤ w1.heap.size
  block : ∀ k, k < lo → k ≠ b → w1.heap[k]? = w.heap[k]?
theorem Kp.of {b lo : Nat} {w w1 : World} (h : Below lo w w1) : Kp b lo w w1 := ⟨h.os, h.tape, h.output, h.size, fun k hk _ => h.block k hk⟩
theorem Kp.set {b lo o : Nat} {w w1 : World} (h : Kp b lo w w1) (u : Value) : Kp b lo w (w1.setCell ⟨b, o, none⟩ u) :=
  ⟨by rw [← h.os]; rfl, by rw [← h.tape]; rfl, by rw [← h.output]; rfl, by simpa using h.size, fun k hk hne => by
    rw [Below.heap_setCell w1 ⟨b, o, none⟩ u k (by show k ≠ b; exact hne)]; exact h.block k hk hne⟩
theorem Kp.below {b lo : Nat} {w w1 : World} (h : Kp b lo w w1) (hb : b ≤ lo) : Below b w w1 := ⟨h.os, h.tape, h.output, h.size, fun k hk => h.block k (by omega) (by omega)⟩
theorem Kp.blk {b lo q : Nat} {X : Array Value} {w w1 : World} (h : Kp b lo w w1) (hq : q < lo) (hne : q ≠ b) (hB : Blk q X w) : Blk q X w1 :=
  ⟨Nat.lt_of_lt_of_le hB.lt h.size, fun i => (World.cell?_of_block (w := w) (h.block q hq hne)).trans (hB.cell i), fun o => (World.frozen?_of_block (w := w) (h.block q hq hne)).trans (hB.free o)⟩

set_option maxHeartbeats 4000000 in
set_option maxRecDepth 100000 in
theorem ap6no (id : Int) (b : Nat) (nx : Int) (v : Value) (L : List It) (P : List (Value × Value)) (lo : Nat) (w : World) (hB : Blk b #[v, .int .i64 nx] w) (h : ItsP w lo v L P) (hlw : lo ≤ w.heap.size) (c : id < nx) :
    Calls Tryz.prog 158 #[.agg #[.int .i64 id], .pointer (some ⟨b, 0, none⟩)] w fun e w' => e = .returned (.bool false) ∧ (∃ v' P', Blk b #[v', .int .i64 nx] w' ∧ ItsP w' lo v' L P') ∧ Kp b lo w w' := by
  obtain ⟨a1, c1, rfl⟩ := h.form
  have H : Hid (ItsP w lo (.slice a1 L.length c1) L P) := h
  have HQ : Hid (Blk b #[.slice a1 L.length c1, .int .i64 nx] w) := hB
  have lb : b < w.heap.size := hB.lt
  clear h hB
  have y1 : w.cell? ⟨b, 1, none⟩ = some (.int .i64 nx) := HQ.out.cell 1
  · skip
    go_enter Tryz.func158, Tryz.ntmps158
    go_wp2_with fail
    generalize hW : World.alloc _ _ = W0
    have HA : Hid (Blk w.heap.size #[.int .i64 id] W0) := by show Blk _ _ _; rw [← hW]; exact Blk.new w _ _
    have b0 : Below w.heap.size w W0 := by rw [← hW]; exact below1 _ _
    clear hW
    have x0 : W0.cell? ⟨w.heap.size, 0, none⟩ = some (.int .i64 id) := HA.out.cell 0
    have z1 : W0.cell? ⟨b, 1, none⟩ = some (.int .i64 nx) := (b0.cell (p := ⟨b, 1, none⟩) lb).trans y1
    go_region_held3 (fun w' => w'.cell? ⟨w.heap.size, 0, none⟩ = some (.int .i64 id) ∧ w'.cell? ⟨b, 1, none⟩ = some (.int .i64 nx)) (go_keep) (fail)
    go_wp2
    go_ret
    exact ⟨rfl, ⟨_, P, (HQ.out.below b0).below (Below.refl _ W0).drew, (H.out.below b0 (Nat.le_refl _)).below (Below.refl _ W0).drew (Nat.le_refl _)⟩, Kp.of (b0.drew.mono (by omega))⟩

set_option maxHeartbeats 4000000 in
set_option maxRecDepth 100000 in
theorem ap6yes (id : Int) (b : Nat) (nx : Int) (v : Value) (L : List It) (P : List (Value × Value)) (lo : Nat) (w : World) (hB : Blk b #[v, .int .i64 nx] w) (h : ItsP w lo v L P) (hlw : lo ≤ w.heap.size) (hlo : b < lo) (c : ¬ id < nx) :
    Calls Tryz.prog 158 #[.agg #[.int .i64 id], .pointer (some ⟨b, 0, none⟩)] w fun e w' => e = .returned (.bool true) ∧ (∃ v' P', Blk b #[v', .int .i64 id] w' ∧ ItsP w' lo v' L P') ∧ Kp b lo w w' := by
  obtain ⟨a1, c1, rfl⟩ := h.form
  have H : Hid (ItsP w lo (.slice a1 L.length c1) L P) := h
  have HQ : Hid (Blk b #[.slice a1 L.length c1, .int .i64 nx] w) := hB
  have lb : b < w.heap.size := hB.lt
  clear h hB
  have y1 : w.cell? ⟨b, 1, none⟩ = some (.int .i64 nx) := HQ.out.cell 1
  have f1 := HQ.out.free 1
  · go_enter Tryz.func158, Tryz.ntmps158
    go_wp2_with fail
    generalize hW : World.alloc _ _ = W0
    have HA : Hid (Blk w.heap.size #[.int .i64 id] W0) := by show Blk _ _ _; rw [← hW]; exact Blk.new w _ _
    have b0 : Below w.heap.size w W0 := by rw [← hW]; exact below1 _ _
    clear hW
    have x0 : W0.cell? ⟨w.heap.size, 0, none⟩ = some (.int .i64 id) := HA.out.cell 0
    have z1 : W0.cell? ⟨b, 1, none⟩ = some (.int .i64 nx) := (b0.cell (p := ⟨b, 1, none⟩) lb).trans y1
    have g1 : W0.frozen? ⟨b, 1, none⟩ = false := (b0.frozen (p := ⟨b, 1, none⟩) lb).trans f1
    go_region_held3 (fun w' => w'.cell? ⟨w.heap.size, 0, none⟩ = some (.int .i64 id) ∧ w'.cell? ⟨b, 1, none⟩ = some (.int .i64 nx)) (go_keep) (fail)
    go_wp2
    go_ret
    exact ⟨rfl, ⟨_, P, ((HQ.out.below b0).below (Below.refl _ W0).drew).set (i := 1) (by simp), ((H.out.below b0 (Nat.le_refl _)).below (Below.refl _ W0).drew (Nat.le_refl _)).setB (by show b < lo; omega) _⟩, (Kp.of (b0.drew.mono (by omega))).set _⟩

set_option maxHeartbeats 4000000 in
set_option maxRecDepth 100000 in
theorem ap4no (id : Int) (b : Nat) (nx : Int) (v : Value) (L : List It) (P : List (Value × Value)) (lo : Nat) (w : World) (hB : Blk b #[v, .int .i64 nx] w) (h : ItsP w lo v L P) (hlw : lo ≤ w.heap.size) (hL : L.length ≤ 1048576) (hf : findI id L 0 = none) :
    Calls Tryz.prog 147 #[.agg #[.int .i64 id], .pointer (some ⟨b, 0, none⟩)] w fun e w' => e = .returned (.bool false) ∧ (∃ v' P', Blk b #[v', .int .i64 nx] w' ∧ ItsP w' lo v' L P') ∧ Kp b lo w w' := by
  obtain ⟨a1, c1, rfl⟩ := h.form
  have H : Hid (ItsP w lo (.slice a1 L.length c1) L P) := h
  have HQ : Hid (Blk b #[.slice a1 L.length c1, .int .i64 nx] w) := hB
  have lb : b < w.heap.size := hB.lt
  clear h hB
  go_enter Tryz.func147, Tryz.ntmps147
  go_wp2_with fail
  generalize hW : World.alloc _ _ = W0
  have b0 : Below w.heap.size w W0 := by rw [← hW]; exact below1 _ _
  clear hW
  refine (implItemNo b _ nx id L P lo _ (HQ.out.below b0) (H.out.below b0 (Nat.le_refl _)) hL hf).mono ?_
  rintro e w1 ⟨rfl, hb1⟩
  go_wp2
  go_ret
  have b1 := b0.trans (hb1.mono b0.size)
  exact ⟨rfl, ⟨_, P, HQ.out.below b1, H.out.below b1 (Nat.le_refl _)⟩, Kp.of (b1.mono (by omega))⟩

set_option maxHeartbeats 4000000 in
set_option maxRecDepth 100000 in
theorem ap4yes (id : Int) (b : Nat) (nx : Int) (v : Value) (L : List It) (P : List (Value × Value)) (lo : Nat) (w : World) (hB : Blk b #[v, .int .i64 nx] w) (h : ItsP w lo v L P) (hlw : lo ≤ w.heap.size) (hlo : b < lo) (hL : L.length ≤ 1048576) (i : Nat) (hf : findI id L 0 = some i) (hi0 : i < L.length) (hbn : L[i].bn = false) :
    Calls Tryz.prog 147 #[.agg #[.int .i64 id], .pointer (some ⟨b, 0, none⟩)] w fun e w' => e = .returned (.bool true) ∧ (∃ v' P', Blk b #[v', .int .i64 nx] w' ∧ ItsP w' lo v' (L.set i { L[i] with bn := true }) P') ∧ Kp b lo w w' := by
  have HBN : Hid (L[i].bn = false) := hbn
  clear hbn
  obtain ⟨a1, c1, rfl⟩ := h.form
  have H : Hid (ItsP w lo (.slice a1 L.length c1) L P) := h
  have HQ : Hid (Blk b #[.slice a1 L.length c1, .int .i64 nx] w) := hB
  have lb : b < w.heap.size := hB.lt
  clear h hB
  obtain ⟨_, hi, _⟩ := placeI_some hf
  obtain ⟨g, rfl⟩ : ∃ g, a1 = some ⟨g, 0, none⟩ := by
    rcases H.out.row.cases with ⟨_, hL0⟩ | ⟨g, cap, hv, hs⟩
    · have := congrArg List.length hL0; rw [irow_len H.out.len] at this; simp only [List.length_nil] at this; omega
    · injection hv with h1; exact ⟨g, h1⟩
  have hg : lo ≤ g ∧ g < w.heap.size := H.out.row.own g rfl
  have hPl := H.out.len
  go_enter Tryz.func147, Tryz.ntmps147
  go_wp2_with fail
  generalize hW : World.alloc _ _ = W0
  have HA : Hid (Blk w.heap.size #[.int .i64 id] W0) := by show Blk _ _ _; rw [← hW]; exact Blk.new w _ _
  have b0 : Below w.heap.size w W0 := by rw [← hW]; exact below1 _ _
  clear hW
  refine (implItemYes b g c1 i nx id L P lo _ (HQ.out.below b0) (H.out.below b0 (Nat.le_refl _)) hL hf).mono ?_
  rintro e w1 ⟨rfl, hb1⟩
  have b1 : Below w.heap.size w w1 := b0.trans (hb1.mono b0.size)
  have H1 : Hid (ItsP w1 lo (.slice (some ⟨g, 0, none⟩) L.length c1) L P) := H.out.below b1 (Nat.le_refl _)
  have HQ1 : Hid (Blk b #[.slice (some ⟨g, 0, none⟩) L.length c1, .int .i64 nx] w1) := HQ.out.below b1
  have HA1 : Hid (Blk w.heap.size #[.int .i64 id] w1) := HA.out.below hb1
  have lg1 : g < w1.heap.size := Nat.lt_of_lt_of_le hg.2 b1.size
  have hne : w.heap.size ≠ g := by omega
  have hne2 : b ≠ g := by omega
  have hne3 : g ≠ w.heap.size := by omega
  obtain ⟨x0, x1, x2, x3, x4, x5, x6, x7, x8⟩ := H1.out.cells i hi
  have fz : ∀ o, w1.frozen? ⟨g, o, none⟩ = false := H1.out.row.at.1.free
  clear hb1 HA H HQ b0
  clear x0 x1 x2 x3 x4 x5 x6 x7
  rw [HBN.out] at x8
  go_wp2
  go_ret
  have s1 := H1.out.scal hi (i := 8) (by decide) { L[i] with bn := true } (.bool true) rfl rfl rfl
  exact ⟨rfl, ⟨_, P, HQ1.out.other hne2, s1⟩, Kp.of ((b1.mono (by omega)).setCell (by show lo ≤ g; omega) _)⟩

set_option maxHeartbeats 4000000 in
set_option maxRecDepth 100000 in
theorem ap4was (id : Int) (b : Nat) (nx : Int) (v : Value) (L : List It) (P : List (Value × Value)) (lo : Nat) (w : World) (hB : Blk b #[v, .int .i64 nx] w) (h : ItsP w lo v L P) (hlw : lo ≤ w.heap.size) (hlo : b < lo) (hL : L.length ≤ 1048576) (i : Nat) (hf : findI id L 0 = some i) (hi0 : i < L.length) (hbn : L[i].bn = true) :
    Calls Tryz.prog 147 #[.agg #[.int .i64 id], .pointer (some ⟨b, 0, none⟩)] w fun e w' => e = .returned (.bool false) ∧ (∃ v' P', Blk b #[v', .int .i64 nx] w' ∧ ItsP w' lo v' L P') ∧ Kp b lo w w' := by
  have HBN : Hid (L[i].bn = true) := hbn
  clear hbn
  obtain ⟨a1, c1, rfl⟩ := h.form
  have H : Hid (ItsP w lo (.slice a1 L.length c1) L P) := h
  have HQ : Hid (Blk b #[.slice a1 L.length c1, .int .i64 nx] w) := hB
  have lb : b < w.heap.size := hB.lt
  clear h hB
  obtain ⟨_, hi, _⟩ := placeI_some hf
  obtain ⟨g, rfl⟩ : ∃ g, a1 = some ⟨g, 0, none⟩ := by
    rcases H.out.row.cases with ⟨_, hL0⟩ | ⟨g, cap, hv, hs⟩
    · have := congrArg List.length hL0; rw [irow_len H.out.len] at this; simp only [List.length_nil] at this; omega
    · injection hv with h1; exact ⟨g, h1⟩
  have hg : lo ≤ g ∧ g < w.heap.size := H.out.row.own g rfl
  have hPl := H.out.len
  go_enter Tryz.func147, Tryz.ntmps147
  go_wp2_with fail
  generalize hW : World.alloc _ _ = W0
  have HA : Hid (Blk w.heap.size #[.int .i64 id] W0) := by show Blk _ _ _; rw [← hW]; exact Blk.new w _ _
  have b0 : Below w.heap.size w W0 := by rw [← hW]; exact below1 _ _
  clear hW
  refine (implItemYes b g c1 i nx id L P lo _ (HQ.out.below b0) (H.out.below b0 (Nat.le_refl _)) hL hf).mono ?_
  rintro e w1 ⟨rfl, hb1⟩
  have b1 : Below w.heap.size w w1 := b0.trans (hb1.mono b0.size)
  have H1 : Hid (ItsP w1 lo (.slice (some ⟨g, 0, none⟩) L.length c1) L P) := H.out.below b1 (Nat.le_refl _)
  have HQ1 : Hid (Blk b #[.slice (some ⟨g, 0, none⟩) L.length c1, .int .i64 nx] w1) := HQ.out.below b1
  have HA1 : Hid (Blk w.heap.size #[.int .i64 id] w1) := HA.out.below hb1
  have lg1 : g < w1.heap.size := Nat.lt_of_lt_of_le hg.2 b1.size
  have hne : w.heap.size ≠ g := by omega
  have hne2 : b ≠ g := by omega
  have hne3 : g ≠ w.heap.size := by omega
  obtain ⟨x0, x1, x2, x3, x4, x5, x6, x7, x8⟩ := H1.out.cells i hi
  have fz : ∀ o, w1.frozen? ⟨g, o, none⟩ = false := H1.out.row.at.1.free
  clear hb1 HA H HQ b0
  clear x0 x1 x2 x3 x4 x5 x6 x7
  rw [HBN.out] at x8
  clear fz hne hne2 hne3 lg1
  go_wp2
  go_ret
  exact ⟨rfl, ⟨_, P, HQ1.out, H1.out⟩, Kp.of (b1.mono (by omega))⟩

set_option maxHeartbeats 4000000 in
set_option maxRecDepth 100000 in
theorem ap3no (id tr due : Int) (b : Nat) (nx : Int) (v : Value) (L : List It) (P : List (Value × Value)) (lo : Nat) (w : World) (hB : Blk b #[v, .int .i64 nx] w) (h : ItsP w lo v L P) (hlw : lo ≤ w.heap.size) (hL : L.length ≤ 1048576) (hf : findI id L 0 = none) :
    Calls Tryz.prog 143 #[.agg #[.int .i64 id, .int .i64 tr, .int .i64 due], .pointer (some ⟨b, 0, none⟩)] w fun e w' => e = .returned (.bool false) ∧ (∃ v' P', Blk b #[v', .int .i64 nx] w' ∧ ItsP w' lo v' L P') ∧ Kp b lo w w' := by
  obtain ⟨a1, c1, rfl⟩ := h.form
  have H : Hid (ItsP w lo (.slice a1 L.length c1) L P) := h
  have HQ : Hid (Blk b #[.slice a1 L.length c1, .int .i64 nx] w) := hB
  have lb : b < w.heap.size := hB.lt
  clear h hB
  go_enter Tryz.func143, Tryz.ntmps143
  go_wp2_with fail
  generalize hW : World.alloc _ _ = W0
  have b0 : Below w.heap.size w W0 := by rw [← hW]; exact below1 _ _
  clear hW
  refine (implItemNo b _ nx id L P lo _ (HQ.out.below b0) (H.out.below b0 (Nat.le_refl _)) hL hf).mono ?_
  rintro e w1 ⟨rfl, hb1⟩
  go_wp2
  go_ret
  have b1 := b0.trans (hb1.mono b0.size)
  exact ⟨rfl, ⟨_, P, HQ.out.below b1, H.out.below b1 (Nat.le_refl _)⟩, Kp.of (b1.mono (by omega))⟩

set_option maxHeartbeats 4000000 in
set_option maxRecDepth 100000 in
theorem ap3yes (id tr due : Int) (b : Nat) (nx : Int) (v : Value) (L : List It) (P : List (Value × Value)) (lo : Nat) (w : World) (hB : Blk b #[v, .int .i64 nx] w) (h : ItsP w lo v L P) (hlw : lo ≤ w.heap.size) (hlo : b < lo) (hL : L.length ≤ 1048576) (i : Nat) (hf : findI id L 0 = some i) (hi0 : i < L.length) :
    Calls Tryz.prog 143 #[.agg #[.int .i64 id, .int .i64 tr, .int .i64 due], .pointer (some ⟨b, 0, none⟩)] w fun e w' => e = .returned (.bool true) ∧ (∃ v' P', Blk b #[v', .int .i64 nx] w' ∧ ItsP w' lo v' (L.set i { L[i] with tr := tr, du := due }) P') ∧ Kp b lo w w' := by
  obtain ⟨a1, c1, rfl⟩ := h.form
  have H : Hid (ItsP w lo (.slice a1 L.length c1) L P) := h
  have HQ : Hid (Blk b #[.slice a1 L.length c1, .int .i64 nx] w) := hB
  have lb : b < w.heap.size := hB.lt
  clear h hB
  obtain ⟨_, hi, _⟩ := placeI_some hf
  obtain ⟨g, rfl⟩ : ∃ g, a1 = some ⟨g, 0, none⟩ := by
    rcases H.out.row.cases with ⟨_, hL0⟩ | ⟨g, cap, hv, hs⟩
    · have := congrArg List.length hL0; rw [irow_len H.out.len] at this; simp only [List.length_nil] at this; omega
    · injection hv with h1; exact ⟨g, h1⟩
  have hg : lo ≤ g ∧ g < w.heap.size := H.out.row.own g rfl
  have hPl := H.out.len
  go_enter Tryz.func143, Tryz.ntmps143
  go_wp2_with fail
  generalize hW : World.alloc _ _ = W0
  have HA : Hid (Blk w.heap.size #[.int .i64 id, .int .i64 tr, .int .i64 due] W0) := by show Blk _ _ _; rw [← hW]; exact Blk.new w _ _
  have b0 : Below w.heap.size w W0 := by rw [← hW]; exact below1 _ _
  clear hW
  refine (implItemYes b g c1 i nx id L P lo _ (HQ.out.below b0) (H.out.below b0 (Nat.le_refl _)) hL hf).mono ?_
  rintro e w1 ⟨rfl, hb1⟩
  have b1 : Below w.heap.size w w1 := b0.trans (hb1.mono b0.size)
  have H1 : Hid (ItsP w1 lo (.slice (some ⟨g, 0, none⟩) L.length c1) L P) := H.out.below b1 (Nat.le_refl _)
  have HQ1 : Hid (Blk b #[.slice (some ⟨g, 0, none⟩) L.length c1, .int .i64 nx] w1) := HQ.out.below b1
  have HA1 : Hid (Blk w.heap.size #[.int .i64 id, .int .i64 tr, .int .i64 due] w1) := HA.out.below hb1
  have lg1 : g < w1.heap.size := Nat.lt_of_lt_of_le hg.2 b1.size
  have hne : w.heap.size ≠ g := by omega
  have hne2 : b ≠ g := by omega
  have hne3 : g ≠ w.heap.size := by omega
  obtain ⟨x0, x1, x2, x3, x4, x5, x6, x7, x8⟩ := H1.out.cells i hi
  have fz : ∀ o, w1.frozen? ⟨g, o, none⟩ = false := H1.out.row.at.1.free
  clear hb1 HA H HQ b0
  clear x0 x1 x2 x3 x4 x5 x8
  have a1 : w1.cell? ⟨w.heap.size, 1, none⟩ = some (.int .i64 tr) := HA1.out.cell 1
  have a2 : w1.cell? ⟨w.heap.size, 2, none⟩ = some (.int .i64 due) := HA1.out.cell 2
  go_upto_region 4 with fail
  go_region_held3 (fun w' => w'.cell? ⟨w.heap.size, 1, none⟩ = some (.int .i64 tr) ∧ w'.cell? ⟨w.heap.size, 2, none⟩ = some (.int .i64 due)) (go_keep) (fail)
  all_goals
    go_wp2
    go_ret
    have hd := H1.out.below (Below.refl _ w1).drew (Nat.le_refl _)
    have s1 := hd.scal hi (i := 6) (by decide) { L[i] with tr := tr } (.int .i64 tr) rfl rfl rfl
    have s2 := s1.scalS hi (i := 7) (by decide) { L[i] with tr := tr, du := due } (.int .i64 due) (fun _ => rfl) rfl rfl
    refine ⟨rfl, ⟨_, P, (((HQ1.out.below (Below.refl _ w1).drew).other hne2).other hne2), s2⟩, ?_⟩
    exact Kp.of (((b1.drew.mono (by omega)).setCell (by show lo ≤ g; omega) _).setCell (by show lo ≤ g; omega) _)
end Go.Proofs.YtlolnfpfipnfeaaGreat
