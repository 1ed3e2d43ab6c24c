import Derived.StillTail
import Derived.Deep.RegionHeld
import Derived.Test.YtlolnfpfipnfeaaGreatMg43
import Derived.Test.YtlolnfpfipnfeaaGreatMg23
import Derived.Deep.AppendLies
import Derived.Deep.RegionLaw
import Derived.Deep.RegionWith
import Derived.Deep.DrawnRows
namespace Go.Proofs.YtlolnfpfipnfeaaGreat

section
variable {P : Program} {ops0 : Array Oper} {oL : Oper} {Q : Exit → Act → World → Prop} {md : Region.Mode}

/-- What is asked behind all but the last operation: that the last one goes through. -/
def lastQ (P : Program) (oL : Oper) (Q : Exit → Act → World → Prop) : Exit → Act → World → Prop
  | .normal, a, w => oL.wp P a w (fun a' w' => Q .normal a' w') Q
  | .panic c, a, w => Q (.panic c) a w
  | e, a, w => Q e a w

/-- Every operation waits for earlier ones alone. -/
def lowB (ops : Array Oper) : Bool :=
  (List.range ops.size).all fun j => match ops[j]? with
    | some o => o.after.all fun e => decide (e.on < j)
    | none => true

theorem lowB_spec {ops : Array Oper} (h : lowB ops = true) {j : Nat} {o : Oper} (ho : ops[j]? = some o) (e : _) (he : e ∈ o.after) : e.on < j := by
  have h1 := List.all_eq_true.1 h j (List.mem_range.2 (Array.getElem?_eq_some_iff.1 ho).1)
  simp only [ho] at h1
  simpa using Array.all_eq_true_iff_forall_mem.1 h1 e he

/-- Where nothing may come up, all are listed. -/
theorem all_listed {ops : Array Oper} (hl : lowB ops = true) {listed : Array Bool} (hz : listed.size = ops.size) (hr : Region.ready md ops listed = []) :
    ∀ j, j < ops.size → listed.getD j false = true := by
  intro j
  induction j using Nat.strongRecOn with
  | _ j ih =>
    intro hj
    cases hd : listed.getD j false with
    | true => rfl
    | false =>
      have hm : j ∈ Region.ready md ops listed := mem_ready.2 ⟨getD_in (by omega) hd, ops[j], by simp [hj], fun e he _ => by
        have h1 := lowB_spec hl (j := j) (o := ops[j]) (by simp [hj]) e he
        exact ih e.on h1 (by omega)⟩
      rw [hr] at hm
      cases hm

theorem push_get {j : Nat} (hj : j < ops0.size) : (ops0.push oL)[j]? = ops0[j]? := by
  rw [Array.getElem?_push]
  simp [Nat.ne_of_lt hj]

theorem yield_push (hd : oL.dst = none) (t : Array Value) (g : Nat) : yielded (ops0.push oL) t g = yielded ops0 t g := by
  by_cases h : g = ops0.size
  · subst h
    simp [yielded, hd]
  · have e : (ops0.push oL)[g]? = ops0[g]? := by rw [Array.getElem?_push]; simp [h]
    simp only [yielded, e]

theorem wpOp_push (hd : oL.dst = none) {i : Nat} (hi : i < ops0.size) {K K' : Act → World → Prop} (hK : ∀ a w, K a w → K' a w) {a : Act} {w : World}
    (hl : LetsOut (lastQ P oL Q) → LetsOut Q)
    (h : wpOp P ops0 (lastQ P oL Q) i K a w) : wpOp P (ops0.push oL) Q i K' a w := by
  unfold wpOp at *
  rw [push_get hi]
  cases ho : ops0[i]? with
  | none => simp only [ho] at h; exact hK _ _ h
  | some o =>
    simp only [ho] at h
    have hw : Region.wanted o (yielded (ops0.push oL) a.tmps) = Region.wanted o (yielded ops0 a.tmps) := by
      unfold Region.wanted
      split
      · rfl
      · rw [yield_push hd]
    simp only [hw]
    split
    · rename_i c
      simp only [c, if_true] at h
      rcases h with h | ⟨h1, h2⟩
      · refine .inl ?_
        unfold Oper.wp at *
        generalize (execOp a.eval o).run P w = r at *
        cases r with
        | ok n w' =>
          cases n <;> simp only [Oper.upon] at h ⊢ <;>
            first
              | exact hK _ _ h
              | exact Calls.mono h (fun e w'' he => by cases e <;> first | exact hK _ _ he | exact he | exact hl he)
              | exact Rows.mono h (fun _ _ he => hK _ _ he)
        | halt x w' => cases x <;> simp only [Oper.upon] at h ⊢ <;> exact h
      · exact .inr ⟨h1, hl h2⟩
    · rename_i c
      simp only [c] at h
      exact hK _ _ h

/-- **All but the last operation in whatever order, then the last.** -/
theorem wpAny_last (hd : oL.dst = none) (hg : oL.guard = none) (hl : lowB (ops0.push oL) = true) (hs : Region.sinkB md (ops0.push oL) ops0.size = true)
    :
    ∀ (fuel : Nat) (listed : Array Bool) (a : Act) (w : World), listed.size = ops0.size → HeadInv md (ops0.push oL) ops0.size (listed.push false) →
      wpAny P md ops0 (lastQ P oL Q) fuel listed a w → wpAny P md (ops0.push oL) Q (fuel + 1) (listed.push false) a w := by
  have hl0 : lowB ops0 = true := by
    refine List.all_eq_true.2 fun j hj => ?_
    have hj' := List.mem_range.1 hj
    have h1 := List.all_eq_true.1 hl j (List.mem_range.2 (by simp; omega))
    rw [push_get hj'] at h1
    exact h1
  have get : ∀ (listed : Array Bool) (j : Nat) (d : Bool), listed.size = ops0.size → j < ops0.size → (listed.push false).getD j d = listed.getD j d := fun listed j d hz hj => by
    simp [Array.getElem?_push, hz, Nat.ne_of_lt hj]
  have up : ∀ (listed : Array Bool) (j : Nat), listed.size = ops0.size → j < ops0.size → (j ∈ Region.ready md (ops0.push oL) (listed.push false) ↔ j ∈ Region.ready md ops0 listed) := fun listed j hz hj => by
    rw [mem_ready, mem_ready, get listed j true hz hj, push_get hj]
    refine and_congr_right fun _ => exists_congr fun o => and_congr_right fun ho => forall_congr' fun e => ⟨fun h he hb => ?_, fun h he hb => ?_⟩
    · have h1 := h he hb
      rwa [get listed e.on false hz (by have := lowB_spec hl0 ho e he; omega)] at h1
    · rw [get listed e.on false hz (by have := lowB_spec hl0 ho e he; omega)]
      exact h he hb
  have fin : ∀ (fuel : Nat) (listed : Array Bool) (a : Act) (w : World), listed.size = ops0.size → Region.ready md ops0 listed = [] → lastQ P oL Q .normal a w →
      wpAny P md (ops0.push oL) Q (fuel + 1) (listed.push false) a w := fun fuel listed a w hz hr hq => by
    have hall := all_listed hl0 hz hr
    have hn : ops0.size ∈ Region.ready md (ops0.push oL) (listed.push false) := mem_ready.2 ⟨by rw [← hz]; simp, oL, by simp, fun e he _ => by
      have h1 := lowB_spec hl (j := ops0.size) (o := oL) (by simp) e he
      rw [get listed e.on false hz h1]
      exact hall _ h1⟩
    refine ⟨fun h => absurd (h ▸ hn) (by simp), fun i hi => ?_⟩
    have hin : i = ops0.size := by
      obtain ⟨_, o, ho, _⟩ := mem_ready.1 hi
      have h1 := (Array.getElem?_eq_some_iff.1 ho).1
      simp at h1
      rcases Nat.lt_or_ge i ops0.size with h2 | h2
      · have h3 := (up listed i hz h2).1 hi
        rw [hr] at h3
        cases h3
      · omega
    subst hin
    unfold wpOp
    simp only [Array.getElem?_push_size, Region.wanted, hg, if_true]
    refine .inl (Oper.wp_mono (fun a' w' hq' => ?_) hq)
    have hz0 : Region.ready md (ops0.push oL) ((listed.push false).setIfInBounds ops0.size true) = [] := by
      refine List.eq_nil_iff_forall_not_mem.2 fun j hj => ?_
      obtain ⟨h0, o, ho, _⟩ := mem_ready.1 hj
      have h1 := (Array.getElem?_eq_some_iff.1 ho).1
      simp at h1
      by_cases hjn : j = ops0.size
      · subst hjn; simp [hz] at h0
      · rw [getD_set_ne true (Ne.symm hjn), get listed j true hz (by omega)] at h0
        have h2 := getD_both h0
        rw [hall j (by omega)] at h2
        cases h2
    cases fuel with
    | zero => exact ⟨hz0, hq'⟩
    | succ k => exact ⟨fun _ => hq', by rw [hz0]; simp⟩
  intro fuel
  induction fuel with
  | zero => intro listed a w hz _ h; exact fin 0 listed a w hz h.1 h.2
  | succ fuel ih =>
    intro listed a w hz inv h
    by_cases hr : Region.ready md ops0 listed = []
    · exact fin (fuel + 1) listed a w hz hr (h.1 hr)
    · obtain ⟨j0, hj0⟩ := List.exists_mem_of_ne_nil _ hr
      have hj0n : j0 < ops0.size := by
        obtain ⟨_, o, ho, _⟩ := mem_ready.1 hj0
        exact (Array.getElem?_eq_some_iff.1 ho).1
      refine ⟨fun h0 => ?_, fun i hi => ?_⟩
      · have := (up listed j0 hz hj0n).2 hj0
        rw [h0] at this
        cases this
      · have hin : i < ops0.size := by
          rcases Nat.lt_or_ge i ops0.size with h2 | h2
          · exact h2
          · have hch : Region.chainB md (ops0.push oL) ops0.size = true := List.all_eq_true.2 fun t ht => by
              have := List.mem_range.1 ht
              simp at this
              simp
              exact .inl (by omega)
            have hu : (listed.push false).getD j0 true = false := by
              rw [get listed j0 true hz hj0n]
              exact (mem_ready.1 hj0).1
            exact absurd hi (tail_waits hs hch (by simp) inv (ops0.size - j0) j0 rfl hj0n hu i h2)
        refine wpOp_push hd hin (fun a' w' hk => ?_) (fun h => h) (h.2 i ((up listed i hz hin).1 hi))
        have hset : (listed.push false).setIfInBounds i true = (listed.setIfInBounds i true).push false := by
          apply Array.toList_inj.1
          simp only [Array.toList_setIfInBounds, Array.toList_push]
          rw [List.set_append_left _ _ (by simpa [hz] using hin)]
        rw [hset]
        refine ih _ a' w' (by simp [hz]) ?_ hk
        rw [← hset]
        exact inv.set hi hin

/-- The region's beginning: all but the last under S, then the last. -/
theorem wp_region_last {S : World → Prop} {id : Nat} {a : Act} {w : World} {ops : Array Oper} (hops : ops = ops0.push oL) (hm : P.follows .mixedOrders = true) (hd : oL.dst = none) (hg : oL.guard = none)
    (hl : lowB (ops0.push oL) = true) (hs : Region.sinkB .any (ops0.push oL) ops0.size = true)
    (hS : S w.drew) (h : S w.drew → wpAnyH P .any ops0 (lastQ P oL Q) S ops0.size (Array.replicate ops0.size false) a w.drew) : (Code.region id ops true).wp P Q a w := by
  subst hops
  refine wp_region_any hm ?_
  have h1 := wpAny_last hd hg hl hs ops0.size (Array.replicate ops0.size false) a w.drew (by simp) ⟨by simp, fun j oj _ h => ?_, fun t h1 h2 => ?_⟩ (wpAny_of_held _ _ _ _ (h hS))
  · have h2 : (Array.replicate (ops0.push oL).size false) = (Array.replicate ops0.size false).push false := by
      simp [Array.replicate_succ]
    rw [h2]
    simpa using h1
  · rw [← Array.replicate_succ, getD_replicate_false] at h
    cases h
  · rw [← Array.replicate_succ]
    exact getD_in (by simp at h2; simp; omega) (getD_replicate_false _ _)
end
end Go.Proofs.YtlolnfpfipnfeaaGreat
namespace Go.Proofs.YtlolnfpfipnfeaaGreat
open Go.ChangeShapes Go.WideShapes Go.ChangeAt Go.RowKit
attribute [local go_sem ↓] Go.wp_at_zero Go.wp_at_succ

def mo0 : Oper := ⟨some 21, .move (.tmp 1), 69, "l6_queue.go:307", #[], none⟩
def mo1 : Oper := ⟨some 22, .move (.tmp 1), 69, "l6_queue.go:307", #[], none⟩
def mo2 : Oper := ⟨some 23, .nilCheck (.tmp 22), 0, "l6_queue.go:307", #[⟨1, .data⟩], none⟩
def mo3 : Oper := ⟨some 24, .fieldAddr 36 (.tmp 23) 0, 0, "l6_queue.go:307", #[⟨2, .data⟩], none⟩
def mo4 : Oper := ⟨some 25, .load 34 (.tmp 24), 34, "l6_queue.go:307", #[⟨3, .data⟩], none⟩
def mo5 : Oper := ⟨some 26, .fieldAddr 103 (.tmp 2) 0, 0, "l6_queue.go:307", #[], none⟩
def mo6 : Oper := ⟨some 27, .load 40 (.tmp 26), 40, "l6_queue.go:307", #[⟨5, .data⟩], none⟩
def mo7 : Oper := ⟨some 28, .call ⟨.value (.func 48), #[.tmp 27], #[40]⟩, 40, "l6_queue.go:308", #[⟨6, .data⟩], none⟩
def mo8 : Oper := ⟨some 29, .fieldAddr 103 (.tmp 2) 0, 0, "l6_queue.go:307", #[], none⟩
def mo9 : Oper := ⟨some 30, .fieldAddr 40 (.tmp 29) 3, 0, "l6_queue.go:307", #[⟨8, .data⟩], none⟩
def mo10 : Oper := ⟨some 31, .load 25 (.tmp 30), 25, "l6_queue.go:307", #[⟨9, .data⟩], none⟩
def mo11 : Oper := ⟨some 32, .call ⟨.builtin .len, #[.tmp 31], #[25]⟩, 3, "l6_queue.go:307", #[⟨10, .data⟩], none⟩
def mo12 : Oper := ⟨some 33, .makeSlice 55 (.tmp 32) (.tmp 32), 55, "l6_queue.go:307", #[⟨11, .data⟩, ⟨11, .data⟩], none⟩
def mo13 : Oper := ⟨some 34, .fieldAddr 103 (.tmp 2) 0, 0, "l6_queue.go:307", #[], none⟩
def mo14 : Oper := ⟨some 35, .fieldAddr 40 (.tmp 34) 1, 0, "l6_queue.go:307", #[⟨13, .data⟩], none⟩
def mo15 : Oper := ⟨some 36, .load 2 (.tmp 35), 2, "l6_queue.go:307", #[⟨14, .data⟩], none⟩
def mo16 : Oper := ⟨some 37, .build 57 #[(0, .tmp 28), (1, .tmp 33), (3, .tmp 36)], 57, "l6_queue.go:307", #[⟨7, .data⟩, ⟨12, .data⟩, ⟨15, .data⟩], none⟩
def mo17 : Oper := ⟨some 38, .buildSlice 34 1 #[(0, .tmp 37)], 34, "l6_queue.go:307", #[⟨16, .data⟩], none⟩
def mo18 : Oper := ⟨some 39, .call ⟨.builtin .append, #[.tmp 25, .tmp 38], #[34, 34]⟩, 34, "l6_queue.go:307", #[⟨4, .data⟩, ⟨17, .data⟩, ⟨7, .chain⟩], none⟩
def mo19 : Oper := ⟨some 40, .nilCheck (.tmp 21), 0, "l6_queue.go:307", #[⟨0, .data⟩, ⟨0, .phase⟩, ⟨1, .phase⟩, ⟨2, .phase⟩, ⟨3, .phase⟩, ⟨4, .phase⟩, ⟨5, .phase⟩, ⟨6, .phase⟩, ⟨7, .phase⟩, ⟨8, .phase⟩, ⟨9, .phase⟩, ⟨10, .phase⟩, ⟨11, .phase⟩, ⟨12, .phase⟩, ⟨13, .phase⟩, ⟨14, .phase⟩, ⟨15, .phase⟩, ⟨16, .phase⟩, ⟨17, .phase⟩, ⟨18, .phase⟩], none⟩
def mo20 : Oper := ⟨some 41, .fieldAddr 36 (.tmp 40) 0, 0, "l6_queue.go:307", #[⟨19, .data⟩, ⟨0, .phase⟩, ⟨1, .phase⟩, ⟨2, .phase⟩, ⟨3, .phase⟩, ⟨4, .phase⟩, ⟨5, .phase⟩, ⟨6, .phase⟩, ⟨7, .phase⟩, ⟨8, .phase⟩, ⟨9, .phase⟩, ⟨10, .phase⟩, ⟨11, .phase⟩, ⟨12, .phase⟩, ⟨13, .phase⟩, ⟨14, .phase⟩, ⟨15, .phase⟩, ⟨16, .phase⟩, ⟨17, .phase⟩, ⟨18, .phase⟩], none⟩
def mo21 : Oper := ⟨none, .store 34 (.tmp 41) (.tmp 39), 0, "l6_queue.go:307", #[⟨20, .data⟩, ⟨18, .data⟩, ⟨18, .chain⟩, ⟨0, .phase⟩, ⟨1, .phase⟩, ⟨2, .phase⟩, ⟨3, .phase⟩, ⟨4, .phase⟩, ⟨5, .phase⟩, ⟨6, .phase⟩, ⟨7, .phase⟩, ⟨8, .phase⟩, ⟨9, .phase⟩, ⟨10, .phase⟩, ⟨11, .phase⟩, ⟨12, .phase⟩, ⟨13, .phase⟩, ⟨14, .phase⟩, ⟨15, .phase⟩, ⟨16, .phase⟩, ⟨17, .phase⟩, ⟨18, .phase⟩], none⟩
def mOps : Array Oper := #[mo0, mo1, mo2, mo3, mo4, mo5, mo6, mo7, mo8, mo9, mo10, mo11, mo12, mo13, mo14, mo15, mo16, mo17, mo18, mo19, mo20]


theorem ap1fin {mid born : Int} {fr bo : ByteArray} {R : List ByteArray} {w1 w6 w7 : World} {lo : Nat} {v v' u vv : Value} {L : List It} {P : List (Value × Value)} (H1 : ItsP w1 lo v L P) (hlw : lo ≤ w1.heap.size)
    (hb : Below w1.heap.size w1 w6) (hs : Strs w6 w1.heap.size u R) (hv : Vds w6 w1.heap.size vv (List.replicate R.length (0, 0, ⟨#[]⟩))) (hgrow : w6.grownBy w7 v.ownBlock)
    (hown : w7.ownsRow lo 57 9 v' (L.length + 1) ((irow L P).flatten ++ ic (⟨mid, born, fr, R, bo, List.replicate R.length (0, 0, ⟨#[]⟩), 0, born, false⟩ : It) (u, vv))) : ItsP w7 lo v' (L ++ [(⟨mid, born, fr, R, bo, List.replicate R.length (0, 0, ⟨#[]⟩), 0, born, false⟩ : It)]) (P ++ [(u, vv)]) := by
  have hO : OffL [v] w6 w7 := OffL.ofGrown hgrow (by simp)
  have HP := PB.of H1
  have HV := H1.row.own
  refine ItsP.snoc (H1.below hb (Nat.le_refl _)) hO (⟨mid, born, fr, R, bo, List.replicate R.length (0, 0, ⟨#[]⟩), 0, born, false⟩ : It) (u, vv) ?_ ?_ ?_ ?_ ?_
  · rw [irow_len H1.len]; exact hown
  · refine row_le (hO.row hs fun a ha x hx e => ?_) hlw
    simp only [List.mem_singleton] at hx
    subst hx
    have h1 := (row_lt hs a ha).1
    have h2 := (HV a e).2
    omega
  · refine row_le (hO.row hv fun a ha x hx e => ?_) hlw
    simp only [List.mem_singleton] at hx
    subst hx
    have h1 := (row_lt hv a ha).1
    have h2 := (HV a e).2
    omega
  · intro a ha q hq e
    have h1 := (row_lt hs a ha).1
    have h2 := (HP q hq).1 a e
    omega
  · intro a ha q hq e
    have h1 := (row_lt hv a ha).1
    have h2 := (HP q hq).2 a e
    omega

set_option maxHeartbeats 8000000 in
set_option maxRecDepth 100000 in
theorem ap1yes (mid born : Int) (fr bo : ByteArray) (R : List ByteArray) (rv : Value) (lor : Nat) (b : Nat) (nx : Int) (v : Value) (L : List It) (P : List (Value × Value)) (lo : Nat) (w : World) (hB : Blk b #[v, .int .i64 nx] w) (h : ItsP w lo v L P) (hlw : lo ≤ w.heap.size) (hlo : b < lo) (hL : L.length ≤ 1048576) (hR : Strs w lor rv R) (hRl : R.length ≤ 20) (hR1 : 1 ≤ R.length) (c : ¬ mid < nx) (cf : L.length < 30) (hm0 : 0 ≤ mid) (hm1 : mid ≤ 999999) :
    Calls Tryz.prog 87 #[.agg #[.int .i64 mid, .int .i64 born, .string fr, rv, .string bo], .pointer (some ⟨b, 0, none⟩)] w fun e w' => e = .returned (.bool true) ∧ (∃ v' P', Blk b #[v', .int .i64 (mid + 1)] w' ∧ ItsP w' lo v' (L ++ [⟨mid, born, fr, R, bo, List.replicate R.length (0, 0, ⟨#[]⟩), 0, born, false⟩]) P') ∧ Kp b lo w w' := by
  obtain ⟨a3, c3, rfl⟩ := row_formA hR
  have HR : Hid (Strs w lor (.slice a3 R.length c3) R) := hR
  clear hR
  obtain ⟨a1, c1, rfl⟩ := h.form
  have H : Hid (ItsP w lo (.slice a1 L.length c1) L P) := h
  have HQ : Hid (Blk b #[.slice a1 L.length c1, .int .i64 nx] w) := hB
  have lb : b < w.heap.size := hB.lt
  clear h hB
  have cd : decide (mid < nx) = false := decide_eq_false c
  have ci : decide ((30 : Int) ≤ (L.length : Int)) = false := decide_eq_false (by omega)
  have cn : decide (30 ≤ L.length) = false := decide_eq_false (by omega)
  obtain ⟨i0, hinf, hx0, hx1, hx2⟩ := info_parts infoIt
  obtain ⟨l0, hlnf, hz0, hz1, hz2⟩ := info_parts infoVd
  have hmk : ∀ wx : World, (Instr.makeSlice 55 (.int .i64 (R.length : Int)) (.int .i64 (R.length : Int))).run Tryz.prog wx = .ok (.slice (some ⟨wx.heap.size, 0, none⟩) R.length R.length) (wx.alloc (.cells (madeCells (Value.agg #[.int .i64 0, .int .i64 0, .string ⟨#[]⟩]).cells (R.length * 3)) 41)) := fun wx => by
    have e := run_make (P := Tryz.prog) wx 55 41 l0 (.agg #[.int .i64 0, .int .i64 0, .string ⟨#[]⟩]) Tryz.underlying55 hlnf hz0 .i64 .i64 (R.length : Int) (R.length : Int) (by omega) (by omega) (by rw [hz2]; omega) (by omega)
    simpa [hz1] using e
  obtain ⟨MC, HMC⟩ : ∃ X, Hid (madeCells (Value.agg #[.int .i64 0, .int .i64 0, .string ⟨#[]⟩]).cells (R.length * 3) = X) := ⟨_, rfl⟩
  rw [HMC.out] at hmk
  go_enter Tryz.func87, Tryz.ntmps87
  go_wp2_with fail
  generalize hW : World.alloc _ _ = W0
  have HA : Hid (Blk w.heap.size #[.int .i64 mid, .int .i64 born, .string fr, .slice a3 R.length c3, .string bo] W0) := by show Blk _ _ _; rw [← hW]; exact Blk.new w _ _
  have b0 : Below w.heap.size w W0 := by rw [← hW]; exact below1 _ _
  clear hW
  have x0 : W0.cell? ⟨w.heap.size, 0, none⟩ = some (.int .i64 mid) := HA.out.cell 0
  have y0 : W0.cell? ⟨b, 0, none⟩ = some (.slice a1 L.length c1) := (HQ.out.below b0).cell 0
  have y1 : W0.cell? ⟨b, 1, none⟩ = some (.int .i64 nx) := (HQ.out.below b0).cell 1
  go_quiet (fail)
  generalize hW1 : W0.drewN _ = w1
  have hbd : Below W0.heap.size W0 w1 := by rw [← hW1]; exact drew_below (Below.refl _ W0) _
  clear hW1
  have b1 : Below w.heap.size w w1 := b0.trans (hbd.mono b0.size)
  have HA1 : Hid (Blk w.heap.size #[.int .i64 mid, .int .i64 born, .string fr, .slice a3 R.length c3, .string bo] w1) := HA.out.below hbd
  have HQ1 : Hid (Blk b #[.slice a1 L.length c1, .int .i64 nx] w1) := HQ.out.below b1
  have H1 : Hid (ItsP w1 lo (.slice a1 L.length c1) L P) := H.out.below b1 (Nat.le_refl _)
  have HR1 : Hid (Strs w1 lor (.slice a3 R.length c3) R) := strs_below HR.out b1 (Nat.le_refl _)
  have HOW0 : ∀ g, (Value.slice a1 L.length c1).ownBlock = some g → lo ≤ g ∧ g < w.heap.size := H.out.row.own
  clear x0 y0 y1 HA b0 hbd H HQ HR cd ci cn
  have lb1 : b < w1.heap.size := HQ1.out.lt
  have lA1 : w.heap.size < w1.heap.size := HA1.out.lt
  have x0 : w1.cell? ⟨w.heap.size, 0, none⟩ = some (.int .i64 mid) := HA1.out.cell 0
  have x1 : w1.cell? ⟨w.heap.size, 1, none⟩ = some (.int .i64 born) := HA1.out.cell 1
  have x2 : w1.cell? ⟨w.heap.size, 2, none⟩ = some (.string fr) := HA1.out.cell 2
  have x3 : w1.cell? ⟨w.heap.size, 3, none⟩ = some (.slice a3 R.length c3) := HA1.out.cell 3
  have x4 : w1.cell? ⟨w.heap.size, 4, none⟩ = some (.string bo) := HA1.out.cell 4
  have y0 : w1.cell? ⟨b, 0, none⟩ = some (.slice a1 L.length c1) := HQ1.out.cell 0
  have fb0 := HQ1.out.free 0
  have HOW : Hid (∀ g, (Value.slice a1 L.length c1).ownBlock = some g → lo ≤ g ∧ g < w.heap.size) := HOW0
  have HRk : Hid (w1.ownsRow lo 57 9 (.slice a1 L.length c1) L.length (irow L P).flatten) := by
    have := H1.out.row.1
    rw [irow_len H1.out.len] at this
    exact this
  have NC : Hid (∀ wx, Below w1.heap.size w1 wx → Calls Tryz.prog 48 #[.agg #[.int .i64 mid, .int .i64 born, .string fr, .slice a3 R.length c3, .string bo]] wx fun e w' => (∃ u, e = .returned (.agg #[.int .i64 mid, .int .i64 born, .string fr, u, .string bo]) ∧ Strs w' wx.heap.size u R) ∧ Below wx.heap.size wx w') := fun wx hx => implCopyMsg mid born fr bo R _ lor wx (strs_below HR1.out hx (Nat.le_refl _)) (by omega)
  have hlw1 : lo ≤ w1.heap.size := Nat.le_trans hlw b1.size
  go_upto_region 3 with fail
  refine wp_region_last (ops0 := mOps) (oL := ⟨none, .store 34 (.tmp 41) (.tmp 39), 0, "l6_queue.go:307", #[⟨20, .data⟩, ⟨18, .data⟩, ⟨18, .chain⟩, ⟨0, .phase⟩, ⟨1, .phase⟩, ⟨2, .phase⟩, ⟨3, .phase⟩, ⟨4, .phase⟩, ⟨5, .phase⟩, ⟨6, .phase⟩, ⟨7, .phase⟩, ⟨8, .phase⟩, ⟨9, .phase⟩, ⟨10, .phase⟩, ⟨11, .phase⟩, ⟨12, .phase⟩, ⟨13, .phase⟩, ⟨14, .phase⟩, ⟨15, .phase⟩, ⟨16, .phase⟩, ⟨17, .phase⟩, ⟨18, .phase⟩], none⟩) (S := fun wz => wz.cell? ⟨b, 0, none⟩ = some (.slice a1 L.length c1) ∧ wz.cell? ⟨w.heap.size, 0, none⟩ = some (.int .i64 mid) ∧ wz.cell? ⟨w.heap.size, 1, none⟩ = some (.int .i64 born) ∧ wz.cell? ⟨w.heap.size, 2, none⟩ = some (.string fr) ∧ wz.cell? ⟨w.heap.size, 3, none⟩ = some (.slice a3 R.length c3) ∧ wz.cell? ⟨w.heap.size, 4, none⟩ = some (.string bo)) rfl (by kernel_rfl) rfl rfl (by kernel_rfl) (by kernel_rfl) ⟨by simpa using y0, by simpa using x0, by simpa using x1, by simpa using x2, by simpa using x3, by simpa using x4⟩ (fun hHeld => ?_)
  have BD : Hid (Below w1.heap.size w1 w1.drew) := (Below.refl w1.heap.size w1).drew
  generalize w1.drew = wd at hHeld BD ⊢
  refine wpAnyH_take (i := 0) (oi := ⟨some 21, .move (.tmp 1), 69, "l6_queue.go:307", #[], none⟩) (v := .pointer (some ⟨b, 0, none⟩)) rfl (by kernel_rfl) (by kernel_rfl) (by kernel_rfl) (fun _ _ _ h => h) (Or.inl ⟨by rfl, fun wz hSw => ?_⟩) hHeld ?_
  · obtain ⟨e0, e1, e2, e3, e4, e5⟩ := hSw
    clear hHeld
    go_simp
  simp only [Act.put, List.setIfInBounds_toArray, List.set_cons_zero, List.set_cons_succ]
  refine wpAnyH_take (i := 1) (oi := ⟨some 22, .move (.tmp 1), 69, "l6_queue.go:307", #[], none⟩) (v := .pointer (some ⟨b, 0, none⟩)) rfl (by kernel_rfl) (by kernel_rfl) (by kernel_rfl) (fun _ _ _ h => h) (Or.inl ⟨by rfl, fun wz hSw => ?_⟩) hHeld ?_
  · obtain ⟨e0, e1, e2, e3, e4, e5⟩ := hSw
    clear hHeld
    go_simp
  simp only [Act.put, List.setIfInBounds_toArray, List.set_cons_zero, List.set_cons_succ]
  refine wpAnyH_take (i := 2) (oi := ⟨some 23, .nilCheck (.tmp 22), 0, "l6_queue.go:307", #[⟨1, .data⟩], none⟩) (v := .pointer (some ⟨b, 0, none⟩)) rfl (by kernel_rfl) (by kernel_rfl) (by kernel_rfl) (fun _ _ _ h => h) (Or.inl ⟨by rfl, fun wz hSw => ?_⟩) hHeld ?_
  · obtain ⟨e0, e1, e2, e3, e4, e5⟩ := hSw
    clear hHeld
    go_simp
  simp only [Act.put, List.setIfInBounds_toArray, List.set_cons_zero, List.set_cons_succ]
  refine wpAnyH_take (i := 3) (oi := ⟨some 24, .fieldAddr 36 (.tmp 23) 0, 0, "l6_queue.go:307", #[⟨2, .data⟩], none⟩) (v := .pointer (some ⟨b, 0, none⟩)) rfl (by kernel_rfl) (by kernel_rfl) (by kernel_rfl) (fun _ _ _ h => h) (Or.inl ⟨by rfl, fun wz hSw => ?_⟩) hHeld ?_
  · obtain ⟨e0, e1, e2, e3, e4, e5⟩ := hSw
    clear hHeld
    go_simp
  simp only [Act.put, List.setIfInBounds_toArray, List.set_cons_zero, List.set_cons_succ]
  refine wpAnyH_take (i := 4) (oi := ⟨some 25, .load 34 (.tmp 24), 34, "l6_queue.go:307", #[⟨3, .data⟩], none⟩) (v := .slice a1 L.length c1) rfl (by kernel_rfl) (by kernel_rfl) (by kernel_rfl) (fun _ _ _ h => h) (Or.inl ⟨by rfl, fun wz hSw => ?_⟩) hHeld ?_
  · obtain ⟨e0, e1, e2, e3, e4, e5⟩ := hSw
    clear hHeld
    go_simp
  simp only [Act.put, List.setIfInBounds_toArray, List.set_cons_zero, List.set_cons_succ]
  refine wpAnyH_take (i := 5) (oi := ⟨some 26, .fieldAddr 103 (.tmp 2) 0, 0, "l6_queue.go:307", #[], none⟩) (v := .pointer (some ⟨w.heap.size, 0, none⟩)) rfl (by kernel_rfl) (by kernel_rfl) (by kernel_rfl) (fun _ _ _ h => h) (Or.inl ⟨by rfl, fun wz hSw => ?_⟩) hHeld ?_
  · obtain ⟨e0, e1, e2, e3, e4, e5⟩ := hSw
    clear hHeld
    go_simp
  simp only [Act.put, List.setIfInBounds_toArray, List.set_cons_zero, List.set_cons_succ]
  refine wpAnyH_take (i := 6) (oi := ⟨some 27, .load 40 (.tmp 26), 40, "l6_queue.go:307", #[⟨5, .data⟩], none⟩) (v := .agg #[.int .i64 mid, .int .i64 born, .string fr, .slice a3 R.length c3, .string bo]) rfl (by kernel_rfl) (by kernel_rfl) (by kernel_rfl) (fun _ _ _ h => h) (Or.inl ⟨by rfl, fun wz hSw => ?_⟩) hHeld ?_
  · obtain ⟨e0, e1, e2, e3, e4, e5⟩ := hSw
    clear hHeld
    go_simp
  simp only [Act.put, List.setIfInBounds_toArray, List.set_cons_zero, List.set_cons_succ]
  refine wpAnyH_take (i := 8) (oi := ⟨some 29, .fieldAddr 103 (.tmp 2) 0, 0, "l6_queue.go:307", #[], none⟩) (v := .pointer (some ⟨w.heap.size, 0, none⟩)) rfl (by kernel_rfl) (by kernel_rfl) (by kernel_rfl) (fun _ _ _ h => h) (Or.inl ⟨by rfl, fun wz hSw => ?_⟩) hHeld ?_
  · obtain ⟨e0, e1, e2, e3, e4, e5⟩ := hSw
    clear hHeld
    go_simp
  simp only [Act.put, List.setIfInBounds_toArray, List.set_cons_zero, List.set_cons_succ]
  refine wpAnyH_take (i := 9) (oi := ⟨some 30, .fieldAddr 40 (.tmp 29) 3, 0, "l6_queue.go:307", #[⟨8, .data⟩], none⟩) (v := .pointer (some ⟨w.heap.size, 3, none⟩)) rfl (by kernel_rfl) (by kernel_rfl) (by kernel_rfl) (fun _ _ _ h => h) (Or.inl ⟨by rfl, fun wz hSw => ?_⟩) hHeld ?_
  · obtain ⟨e0, e1, e2, e3, e4, e5⟩ := hSw
    clear hHeld
    go_simp
  simp only [Act.put, List.setIfInBounds_toArray, List.set_cons_zero, List.set_cons_succ]
  refine wpAnyH_take (i := 10) (oi := ⟨some 31, .load 25 (.tmp 30), 25, "l6_queue.go:307", #[⟨9, .data⟩], none⟩) (v := .slice a3 R.length c3) rfl (by kernel_rfl) (by kernel_rfl) (by kernel_rfl) (fun _ _ _ h => h) (Or.inl ⟨by rfl, fun wz hSw => ?_⟩) hHeld ?_
  · obtain ⟨e0, e1, e2, e3, e4, e5⟩ := hSw
    clear hHeld
    go_simp
  simp only [Act.put, List.setIfInBounds_toArray, List.set_cons_zero, List.set_cons_succ]
  refine wpAnyH_take (i := 11) (oi := ⟨some 32, .call ⟨.builtin .len, #[.tmp 31], #[25]⟩, 3, "l6_queue.go:307", #[⟨10, .data⟩], none⟩) (v := .int .i64 (R.length : Int)) rfl (by kernel_rfl) (by kernel_rfl) (by kernel_rfl) (fun _ _ _ h => h) (Or.inl ⟨by rfl, fun wz hSw => ?_⟩) hHeld ?_
  · obtain ⟨e0, e1, e2, e3, e4, e5⟩ := hSw
    clear hHeld
    go_simp
  simp only [Act.put, List.setIfInBounds_toArray, List.set_cons_zero, List.set_cons_succ]
  refine wpAnyH_take (i := 13) (oi := ⟨some 34, .fieldAddr 103 (.tmp 2) 0, 0, "l6_queue.go:307", #[], none⟩) (v := .pointer (some ⟨w.heap.size, 0, none⟩)) rfl (by kernel_rfl) (by kernel_rfl) (by kernel_rfl) (fun _ _ _ h => h) (Or.inl ⟨by rfl, fun wz hSw => ?_⟩) hHeld ?_
  · obtain ⟨e0, e1, e2, e3, e4, e5⟩ := hSw
    clear hHeld
    go_simp
  simp only [Act.put, List.setIfInBounds_toArray, List.set_cons_zero, List.set_cons_succ]
  refine wpAnyH_take (i := 14) (oi := ⟨some 35, .fieldAddr 40 (.tmp 34) 1, 0, "l6_queue.go:307", #[⟨13, .data⟩], none⟩) (v := .pointer (some ⟨w.heap.size, 1, none⟩)) rfl (by kernel_rfl) (by kernel_rfl) (by kernel_rfl) (fun _ _ _ h => h) (Or.inl ⟨by rfl, fun wz hSw => ?_⟩) hHeld ?_
  · obtain ⟨e0, e1, e2, e3, e4, e5⟩ := hSw
    clear hHeld
    go_simp
  simp only [Act.put, List.setIfInBounds_toArray, List.set_cons_zero, List.set_cons_succ]
  refine wpAnyH_take (i := 15) (oi := ⟨some 36, .load 2 (.tmp 35), 2, "l6_queue.go:307", #[⟨14, .data⟩], none⟩) (v := .int .i64 born) rfl (by kernel_rfl) (by kernel_rfl) (by kernel_rfl) (fun _ _ _ h => h) (Or.inl ⟨by rfl, fun wz hSw => ?_⟩) hHeld ?_
  · obtain ⟨e0, e1, e2, e3, e4, e5⟩ := hSw
    clear hHeld
    go_simp
  simp only [Act.put, List.setIfInBounds_toArray, List.set_cons_zero, List.set_cons_succ]
  refine wpAnyH_ready (rs := [7, 12]) (by kernel_rfl) (by simp) ?_
  refine AllReadyH.cons (o := ⟨some 28, .call ⟨.value (.func 48), #[.tmp 27], #[40]⟩, 40, "l6_queue.go:308", #[⟨6, .data⟩], none⟩) rfl (fun K hK => ?_) (AllReadyH.cons (o := ⟨some 33, .makeSlice 55 (.tmp 32) (.tmp 32), 55, "l6_queue.go:307", #[⟨11, .data⟩, ⟨11, .data⟩], none⟩) rfl (fun K hK => ?_) AllReadyH.nil)
  · clear hHeld
    go_simp
    go_at_call 48
    refine (NC.out _ BD.out).mono ?_
    rintro e w2 ⟨⟨u, rfl, S2⟩, hb2⟩
    obtain ⟨s1, t1, hu⟩ := row_formA S2
    subst hu
    have BB : Hid (Below w1.heap.size w1 w2) := BD.out.trans (hb2.mono BD.out.size)
    have HU : Hid (Strs w2 w1.heap.size (.slice s1 R.length t1) R) := row_le S2 BD.out.size
    refine hK.out _ _ ⟨(BB.out.cell (p := ⟨b, 0, none⟩) lb1).trans y0, (BB.out.cell (p := ⟨w.heap.size, 0, none⟩) lA1).trans x0, (BB.out.cell (p := ⟨w.heap.size, 1, none⟩) lA1).trans x1, (BB.out.cell (p := ⟨w.heap.size, 2, none⟩) lA1).trans x2, (BB.out.cell (p := ⟨w.heap.size, 3, none⟩) lA1).trans x3, (BB.out.cell (p := ⟨w.heap.size, 4, none⟩) lA1).trans x4⟩ (fun hHeld => ?_)
    clear hK K S2
    try simp only [Act.put, List.setIfInBounds_toArray, List.set_cons_zero, List.set_cons_succ]
    refine wpAnyH_ready (rs := [12]) (by kernel_rfl) (by simp) ?_
    refine AllReadyH.cons (o := ⟨some 33, .makeSlice 55 (.tmp 32) (.tmp 32), 55, "l6_queue.go:307", #[⟨11, .data⟩, ⟨11, .data⟩], none⟩) rfl (fun K hK => ?_) AllReadyH.nil
    clear hHeld
    go_simp
    generalize hW : World.alloc w2 _ = w3
    obtain ⟨mb, hmb⟩ : ∃ mb, mb = w2.heap.size := ⟨_, rfl⟩
    have hb3 : Below w2.heap.size w2 w3 := by rw [← hW]; exact below1 _ _
    have HV : Hid (Vds w3 w1.heap.size (.slice (some ⟨mb, 0, none⟩) R.length R.length) (List.replicate R.length (0, 0, ⟨#[]⟩))) := by
      show Vds _ _ _ _
      rw [← hW, ← HMC.out, hmb]
      exact row_le (vds_made w2 R.length (by unfold maxLen; omega)) BB.out.size
    rw [← hmb]
    have BB3 : Hid (Below w1.heap.size w1 w3) := BB.out.trans (hb3.mono BB.out.size)
    clear hW hmb
    refine hK.out _ _ ⟨(BB3.out.cell (p := ⟨b, 0, none⟩) lb1).trans y0, (BB3.out.cell (p := ⟨w.heap.size, 0, none⟩) lA1).trans x0, (BB3.out.cell (p := ⟨w.heap.size, 1, none⟩) lA1).trans x1, (BB3.out.cell (p := ⟨w.heap.size, 2, none⟩) lA1).trans x2, (BB3.out.cell (p := ⟨w.heap.size, 3, none⟩) lA1).trans x3, (BB3.out.cell (p := ⟨w.heap.size, 4, none⟩) lA1).trans x4⟩ (fun hHeld => ?_)
    clear hK K
    try simp only [Act.put, List.setIfInBounds_toArray, List.set_cons_zero, List.set_cons_succ]
    have HU3 : Hid (Strs w3 w1.heap.size (.slice s1 R.length t1) R) := row_below HU.out hb3
    clear BB HU hb3 hb2 BD
    have BB := BB3
    have HU := HU3
    clear BB3 HU3
    clear hmk
    refine wpAnyH_take (i := 16) (oi := ⟨some 37, .build 57 #[(0, .tmp 28), (1, .tmp 33), (3, .tmp 36)], 57, "l6_queue.go:307", #[⟨7, .data⟩, ⟨12, .data⟩, ⟨15, .data⟩], none⟩) (v := .agg #[.int .i64 mid, .int .i64 born, .string fr, .slice s1 R.length t1, .string bo, .slice (some ⟨mb, 0, none⟩) R.length R.length, .int .i64 0, .int .i64 born, .bool false]) rfl (by kernel_rfl) (by kernel_rfl) (by kernel_rfl) (fun _ _ _ h => h) (Or.inl ⟨by rfl, fun wz hSw => ?_⟩) hHeld ?_
    · obtain ⟨e0, e1, e2, e3, e4, e5⟩ := hSw
      clear hHeld
      go_simp
    simp only [Act.put, List.setIfInBounds_toArray, List.set_cons_zero, List.set_cons_succ]
    refine wpAnyH_ready (rs := [17]) (by kernel_rfl) (by simp) ?_
    refine AllReadyH.cons (o := ⟨some 38, .buildSlice 34 1 #[(0, .tmp 37)], 34, "l6_queue.go:307", #[⟨16, .data⟩], none⟩) rfl (fun K hK => ?_) AllReadyH.nil
    go_simp
    generalize hW : World.alloc w3 _ = w4
    have hb4 : Below w3.heap.size w3 w4 := by rw [← hW]; exact below1 _ _
    have z4 : w4.heap.size = w3.heap.size + 1 := by rw [← hW]; simp
    have HN4 : Hid (w4.heap[w3.heap.size]? = some (.cells #[.int .i64 mid, .int .i64 born, .string fr, .slice s1 R.length t1, .string bo, .slice (some ⟨mb, 0, none⟩) R.length R.length, .int .i64 0, .int .i64 born, .bool false] 57)) := by show _ = _; rw [← hW]; exact lk_newW _ _ _ rfl
    have BB4 : Hid (Below w1.heap.size w1 w4) := BB.out.trans (hb4.mono BB.out.size)
    have HU4 : Hid (Strs w4 w1.heap.size (.slice s1 R.length t1) R) := row_below HU.out hb4
    have HV4 : Hid (Vds w4 w1.heap.size (.slice (some ⟨mb, 0, none⟩) R.length R.length) (List.replicate R.length (0, 0, ⟨#[]⟩))) := row_below HV.out hb4
    have HRk4 : Hid (w4.ownsRow lo 57 9 (.slice a1 L.length c1) L.length (irow L P).flatten) := row_below HRk.out BB4.out
    clear hW
    refine hK.out _ _ ⟨(BB4.out.cell (p := ⟨b, 0, none⟩) lb1).trans y0, (BB4.out.cell (p := ⟨w.heap.size, 0, none⟩) lA1).trans x0, (BB4.out.cell (p := ⟨w.heap.size, 1, none⟩) lA1).trans x1, (BB4.out.cell (p := ⟨w.heap.size, 2, none⟩) lA1).trans x2, (BB4.out.cell (p := ⟨w.heap.size, 3, none⟩) lA1).trans x3, (BB4.out.cell (p := ⟨w.heap.size, 4, none⟩) lA1).trans x4⟩ (fun hHeld => ?_)
    clear hK K BB HU HV hb4
    try simp only [Act.put, List.setIfInBounds_toArray, List.set_cons_zero, List.set_cons_succ]
    refine wpAnyH_ready (rs := [18]) (by kernel_rfl) (by simp) ?_
    refine AllReadyH.cons (o := ⟨some 39, .call ⟨.builtin .append, #[.tmp 25, .tmp 38], #[34, 34]⟩, 34, "l6_queue.go:307", #[⟨4, .data⟩, ⟨17, .data⟩, ⟨7, .chain⟩], none⟩) rfl (fun K hK => ?_) AllReadyH.nil
    refine step_append_lies _ (by rfl) _ _ 34 (by rfl) lo 57 i0 (.agg #[.int .i64 0, .int .i64 0, .string ⟨#[]⟩, .slice none 0 0, .string ⟨#[]⟩, .slice none 0 0, .int .i64 0, .int .i64 0, .bool false]) 9 120 Tryz.underlying34 hinf hx0 hx1 hx2 (by rfl) (by decide) (.slice a1 L.length c1) L.length (irow L P).flatten (by rfl) HRk4.out ⟨w3.heap.size, 0, none⟩ 1 1 [.int .i64 mid, .int .i64 born, .string fr, .slice s1 R.length t1, .string bo, .slice (some ⟨mb, 0, none⟩) R.length R.length, .int .i64 0, .int .i64 born, .bool false] (by rfl) (by rfl) (fun j u hj => World.news_of_block HN4.out j u (by simpa using hj)) (ic_oneA (⟨mid, born, fr, R, bo, List.replicate R.length (0, 0, ⟨#[]⟩), 0, born, false⟩ : It) s1 (some ⟨mb, 0, none⟩) R.length R.length t1 R.length) (by decide) (by unfold maxLen; omega) (by omega) (by have := BB4.out.size; omega) _ rfl ?_
    intro g cap w7 hown hgrow hat hlt7
    have HI7 : Hid (ItsP w7 lo (.slice (some ⟨g, 0, none⟩) (L.length + 1) cap) (L ++ [(⟨mid, born, fr, R, bo, List.replicate R.length (0, 0, ⟨#[]⟩), 0, born, false⟩ : It)]) (P ++ [(.slice s1 R.length t1, .slice (some ⟨mb, 0, none⟩) R.length R.length)])) := ap1fin H1.out hlw1 BB4.out HU4.out HV4.out hgrow hown
    have hO : OffL [.slice a1 L.length c1] w4 w7 := OffL.ofGrown hgrow (by simp)
    have zz4 := BB4.out.size
    have nb : ∀ v ∈ [Value.slice a1 L.length c1], v.ownBlock ≠ some b := fun v hv e => by
      simp only [List.mem_singleton] at hv
      subst hv
      have := (HOW.out b e).1
      omega
    have nA : ∀ v ∈ [Value.slice a1 L.length c1], v.ownBlock ≠ some w.heap.size := fun v hv e => by
      simp only [List.mem_singleton] at hv
      subst hv
      have := (HOW.out _ e).2
      omega
    have hb7 : Below lo w1 w7 := (BB4.out.mono hlw1).trans (hO.below (fun v hv g hg => by
      simp only [List.mem_singleton] at hv
      subst hv
      exact (HOW.out g hg).1) (by omega))
    have HQ7 : Hid (Blk b #[.slice a1 L.length c1, .int .i64 nx] w7) := HQ1.out.belowN hb7 hlo
    have x0' : w7.cell? ⟨w.heap.size, 0, none⟩ = some (.int .i64 mid) := (hO.cell (by omega) nA).trans ((BB4.out.cell (p := ⟨w.heap.size, 0, none⟩) lA1).trans x0)
    refine hK.out _ _ ⟨(hO.cell (by omega) nb).trans ((BB4.out.cell (p := ⟨b, 0, none⟩) lb1).trans y0), (hO.cell (by omega) nA).trans ((BB4.out.cell (p := ⟨w.heap.size, 0, none⟩) lA1).trans x0), (hO.cell (by omega) nA).trans ((BB4.out.cell (p := ⟨w.heap.size, 1, none⟩) lA1).trans x1), (hO.cell (by omega) nA).trans ((BB4.out.cell (p := ⟨w.heap.size, 2, none⟩) lA1).trans x2), (hO.cell (by omega) nA).trans ((BB4.out.cell (p := ⟨w.heap.size, 3, none⟩) lA1).trans x3), (hO.cell (by omega) nA).trans ((BB4.out.cell (p := ⟨w.heap.size, 4, none⟩) lA1).trans x4)⟩ (fun hHeld => ?_)
    clear hK K hown hgrow hat hlt7 hO nb nA BB4 HU4 HV4 HRk4 HN4
    try simp only [Act.put, List.setIfInBounds_toArray, List.set_cons_zero, List.set_cons_succ]
    refine wpAnyH_take (i := 19) (oi := ⟨some 40, .nilCheck (.tmp 21), 0, "l6_queue.go:307", #[⟨0, .data⟩, ⟨0, .phase⟩, ⟨1, .phase⟩, ⟨2, .phase⟩, ⟨3, .phase⟩, ⟨4, .phase⟩, ⟨5, .phase⟩, ⟨6, .phase⟩, ⟨7, .phase⟩, ⟨8, .phase⟩, ⟨9, .phase⟩, ⟨10, .phase⟩, ⟨11, .phase⟩, ⟨12, .phase⟩, ⟨13, .phase⟩, ⟨14, .phase⟩, ⟨15, .phase⟩, ⟨16, .phase⟩, ⟨17, .phase⟩, ⟨18, .phase⟩], none⟩) (v := .pointer (some ⟨b, 0, none⟩)) rfl (by kernel_rfl) (by kernel_rfl) (by kernel_rfl) (fun _ _ _ h => h) (Or.inl ⟨by rfl, fun wz hSw => ?_⟩) hHeld ?_
    · obtain ⟨e0, e1, e2, e3, e4, e5⟩ := hSw
      clear hHeld
      go_simp
    simp only [Act.put, List.setIfInBounds_toArray, List.set_cons_zero, List.set_cons_succ]
    refine wpAnyH_take (i := 20) (oi := ⟨some 41, .fieldAddr 36 (.tmp 40) 0, 0, "l6_queue.go:307", #[⟨19, .data⟩, ⟨0, .phase⟩, ⟨1, .phase⟩, ⟨2, .phase⟩, ⟨3, .phase⟩, ⟨4, .phase⟩, ⟨5, .phase⟩, ⟨6, .phase⟩, ⟨7, .phase⟩, ⟨8, .phase⟩, ⟨9, .phase⟩, ⟨10, .phase⟩, ⟨11, .phase⟩, ⟨12, .phase⟩, ⟨13, .phase⟩, ⟨14, .phase⟩, ⟨15, .phase⟩, ⟨16, .phase⟩, ⟨17, .phase⟩, ⟨18, .phase⟩], none⟩) (v := .pointer (some ⟨b, 0, none⟩)) rfl (by kernel_rfl) (by kernel_rfl) (by kernel_rfl) (fun _ _ _ h => h) (Or.inl ⟨by rfl, fun wz hSw => ?_⟩) hHeld ?_
    · obtain ⟨e0, e1, e2, e3, e4, e5⟩ := hSw
      clear hHeld
      go_simp
    simp only [Act.put, List.setIfInBounds_toArray, List.set_cons_zero, List.set_cons_succ]
    refine wpAnyH_done (by kernel_rfl) ?_ _
    clear hHeld x0 x1 x2 x3 x4 y0 fb0 HRk HR1 NC H1 HQ1
    have y0 : w7.cell? ⟨b, 0, none⟩ = some (.slice a1 L.length c1) := HQ7.out.cell 0
    have y1 : w7.cell? ⟨b, 1, none⟩ = some (.int .i64 nx) := HQ7.out.cell 1
    have fb0 := HQ7.out.free 0
    have fb1 := HQ7.out.free 1
    have hwr : IntKind.i64.wrap (mid + 1) = mid + 1 := by rw [IntKind.wrap_i64]; omega
    have hnA : w.heap.size ≠ b := by omega
    have l7 : b < w7.heap.size := HQ7.out.lt
    unfold lastQ
    go_simp
    go_wp2
    go_ret
    exact ⟨rfl, ⟨_, _, (HQ7.out.set (i := 0) (by simp)).set (i := 1) (by simp), (HI7.out.setB (by show b < lo; omega) _).setB (by show b < lo; omega) _⟩, ((Kp.of ((b1.mono (by omega)).trans hb7)).set _).set _⟩
  · clear hHeld
    go_simp
    generalize hW : World.alloc wd _ = w2
    obtain ⟨mb, hmb⟩ : ∃ mb, mb = wd.heap.size := ⟨_, rfl⟩
    have hb3 : Below wd.heap.size wd w2 := by rw [← hW]; exact below1 _ _
    have HV : Hid (Vds w2 w1.heap.size (.slice (some ⟨mb, 0, none⟩) R.length R.length) (List.replicate R.length (0, 0, ⟨#[]⟩))) := by
      show Vds _ _ _ _
      rw [← hW, ← HMC.out, hmb]
      exact row_le (vds_made wd R.length (by unfold maxLen; omega)) BD.out.size
    rw [← hmb]
    have BB : Hid (Below w1.heap.size w1 w2) := BD.out.trans (hb3.mono BD.out.size)
    clear hW hmb
    refine hK.out _ _ ⟨(BB.out.cell (p := ⟨b, 0, none⟩) lb1).trans y0, (BB.out.cell (p := ⟨w.heap.size, 0, none⟩) lA1).trans x0, (BB.out.cell (p := ⟨w.heap.size, 1, none⟩) lA1).trans x1, (BB.out.cell (p := ⟨w.heap.size, 2, none⟩) lA1).trans x2, (BB.out.cell (p := ⟨w.heap.size, 3, none⟩) lA1).trans x3, (BB.out.cell (p := ⟨w.heap.size, 4, none⟩) lA1).trans x4⟩ (fun hHeld => ?_)
    clear hK K
    try simp only [Act.put, List.setIfInBounds_toArray, List.set_cons_zero, List.set_cons_succ]
    refine wpAnyH_ready (rs := [7]) (by kernel_rfl) (by simp) ?_
    refine AllReadyH.cons (o := ⟨some 28, .call ⟨.value (.func 48), #[.tmp 27], #[40]⟩, 40, "l6_queue.go:308", #[⟨6, .data⟩], none⟩) rfl (fun K hK => ?_) AllReadyH.nil
    clear hHeld
    have BE := BB
    clear BB
    go_simp
    go_at_call 48
    refine (NC.out _ BE.out).mono ?_
    rintro e w3 ⟨⟨u, rfl, S2⟩, hb2⟩
    obtain ⟨s1, t1, hu⟩ := row_formA S2
    subst hu
    have BB : Hid (Below w1.heap.size w1 w3) := BE.out.trans (hb2.mono BE.out.size)
    have HU : Hid (Strs w3 w1.heap.size (.slice s1 R.length t1) R) := row_le S2 BE.out.size
    refine hK.out _ _ ⟨(BB.out.cell (p := ⟨b, 0, none⟩) lb1).trans y0, (BB.out.cell (p := ⟨w.heap.size, 0, none⟩) lA1).trans x0, (BB.out.cell (p := ⟨w.heap.size, 1, none⟩) lA1).trans x1, (BB.out.cell (p := ⟨w.heap.size, 2, none⟩) lA1).trans x2, (BB.out.cell (p := ⟨w.heap.size, 3, none⟩) lA1).trans x3, (BB.out.cell (p := ⟨w.heap.size, 4, none⟩) lA1).trans x4⟩ (fun hHeld => ?_)
    clear hK K S2
    try simp only [Act.put, List.setIfInBounds_toArray, List.set_cons_zero, List.set_cons_succ]
    have HV3 : Hid (Vds w3 w1.heap.size (.slice (some ⟨mb, 0, none⟩) R.length R.length) (List.replicate R.length (0, 0, ⟨#[]⟩))) := row_below HV.out hb2
    clear HV BE hb2 hb3 BD
    have HV := HV3
    clear HV3
    clear hmk
    refine wpAnyH_take (i := 16) (oi := ⟨some 37, .build 57 #[(0, .tmp 28), (1, .tmp 33), (3, .tmp 36)], 57, "l6_queue.go:307", #[⟨7, .data⟩, ⟨12, .data⟩, ⟨15, .data⟩], none⟩) (v := .agg #[.int .i64 mid, .int .i64 born, .string fr, .slice s1 R.length t1, .string bo, .slice (some ⟨mb, 0, none⟩) R.length R.length, .int .i64 0, .int .i64 born, .bool false]) rfl (by kernel_rfl) (by kernel_rfl) (by kernel_rfl) (fun _ _ _ h => h) (Or.inl ⟨by rfl, fun wz hSw => ?_⟩) hHeld ?_
    · obtain ⟨e0, e1, e2, e3, e4, e5⟩ := hSw
      clear hHeld
      go_simp
    simp only [Act.put, List.setIfInBounds_toArray, List.set_cons_zero, List.set_cons_succ]
    refine wpAnyH_ready (rs := [17]) (by kernel_rfl) (by simp) ?_
    refine AllReadyH.cons (o := ⟨some 38, .buildSlice 34 1 #[(0, .tmp 37)], 34, "l6_queue.go:307", #[⟨16, .data⟩], none⟩) rfl (fun K hK => ?_) AllReadyH.nil
    go_simp
    generalize hW : World.alloc w3 _ = w4
    have hb4 : Below w3.heap.size w3 w4 := by rw [← hW]; exact below1 _ _
    have z4 : w4.heap.size = w3.heap.size + 1 := by rw [← hW]; simp
    have HN4 : Hid (w4.heap[w3.heap.size]? = some (.cells #[.int .i64 mid, .int .i64 born, .string fr, .slice s1 R.length t1, .string bo, .slice (some ⟨mb, 0, none⟩) R.length R.length, .int .i64 0, .int .i64 born, .bool false] 57)) := by show _ = _; rw [← hW]; exact lk_newW _ _ _ rfl
    have BB4 : Hid (Below w1.heap.size w1 w4) := BB.out.trans (hb4.mono BB.out.size)
    have HU4 : Hid (Strs w4 w1.heap.size (.slice s1 R.length t1) R) := row_below HU.out hb4
    have HV4 : Hid (Vds w4 w1.heap.size (.slice (some ⟨mb, 0, none⟩) R.length R.length) (List.replicate R.length (0, 0, ⟨#[]⟩))) := row_below HV.out hb4
    have HRk4 : Hid (w4.ownsRow lo 57 9 (.slice a1 L.length c1) L.length (irow L P).flatten) := row_below HRk.out BB4.out
    clear hW
    refine hK.out _ _ ⟨(BB4.out.cell (p := ⟨b, 0, none⟩) lb1).trans y0, (BB4.out.cell (p := ⟨w.heap.size, 0, none⟩) lA1).trans x0, (BB4.out.cell (p := ⟨w.heap.size, 1, none⟩) lA1).trans x1, (BB4.out.cell (p := ⟨w.heap.size, 2, none⟩) lA1).trans x2, (BB4.out.cell (p := ⟨w.heap.size, 3, none⟩) lA1).trans x3, (BB4.out.cell (p := ⟨w.heap.size, 4, none⟩) lA1).trans x4⟩ (fun hHeld => ?_)
    clear hK K BB HU HV hb4
    try simp only [Act.put, List.setIfInBounds_toArray, List.set_cons_zero, List.set_cons_succ]
    refine wpAnyH_ready (rs := [18]) (by kernel_rfl) (by simp) ?_
    refine AllReadyH.cons (o := ⟨some 39, .call ⟨.builtin .append, #[.tmp 25, .tmp 38], #[34, 34]⟩, 34, "l6_queue.go:307", #[⟨4, .data⟩, ⟨17, .data⟩, ⟨7, .chain⟩], none⟩) rfl (fun K hK => ?_) AllReadyH.nil
    refine step_append_lies _ (by rfl) _ _ 34 (by rfl) lo 57 i0 (.agg #[.int .i64 0, .int .i64 0, .string ⟨#[]⟩, .slice none 0 0, .string ⟨#[]⟩, .slice none 0 0, .int .i64 0, .int .i64 0, .bool false]) 9 120 Tryz.underlying34 hinf hx0 hx1 hx2 (by rfl) (by decide) (.slice a1 L.length c1) L.length (irow L P).flatten (by rfl) HRk4.out ⟨w3.heap.size, 0, none⟩ 1 1 [.int .i64 mid, .int .i64 born, .string fr, .slice s1 R.length t1, .string bo, .slice (some ⟨mb, 0, none⟩) R.length R.length, .int .i64 0, .int .i64 born, .bool false] (by rfl) (by rfl) (fun j u hj => World.news_of_block HN4.out j u (by simpa using hj)) (ic_oneA (⟨mid, born, fr, R, bo, List.replicate R.length (0, 0, ⟨#[]⟩), 0, born, false⟩ : It) s1 (some ⟨mb, 0, none⟩) R.length R.length t1 R.length) (by decide) (by unfold maxLen; omega) (by omega) (by have := BB4.out.size; omega) _ rfl ?_
    intro g cap w7 hown hgrow hat hlt7
    have HI7 : Hid (ItsP w7 lo (.slice (some ⟨g, 0, none⟩) (L.length + 1) cap) (L ++ [(⟨mid, born, fr, R, bo, List.replicate R.length (0, 0, ⟨#[]⟩), 0, born, false⟩ : It)]) (P ++ [(.slice s1 R.length t1, .slice (some ⟨mb, 0, none⟩) R.length R.length)])) := ap1fin H1.out hlw1 BB4.out HU4.out HV4.out hgrow hown
    have hO : OffL [.slice a1 L.length c1] w4 w7 := OffL.ofGrown hgrow (by simp)
    have zz4 := BB4.out.size
    have nb : ∀ v ∈ [Value.slice a1 L.length c1], v.ownBlock ≠ some b := fun v hv e => by
      simp only [List.mem_singleton] at hv
      subst hv
      have := (HOW.out b e).1
      omega
    have nA : ∀ v ∈ [Value.slice a1 L.length c1], v.ownBlock ≠ some w.heap.size := fun v hv e => by
      simp only [List.mem_singleton] at hv
      subst hv
      have := (HOW.out _ e).2
      omega
    have hb7 : Below lo w1 w7 := (BB4.out.mono hlw1).trans (hO.below (fun v hv g hg => by
      simp only [List.mem_singleton] at hv
      subst hv
      exact (HOW.out g hg).1) (by omega))
    have HQ7 : Hid (Blk b #[.slice a1 L.length c1, .int .i64 nx] w7) := HQ1.out.belowN hb7 hlo
    have x0' : w7.cell? ⟨w.heap.size, 0, none⟩ = some (.int .i64 mid) := (hO.cell (by omega) nA).trans ((BB4.out.cell (p := ⟨w.heap.size, 0, none⟩) lA1).trans x0)
    refine hK.out _ _ ⟨(hO.cell (by omega) nb).trans ((BB4.out.cell (p := ⟨b, 0, none⟩) lb1).trans y0), (hO.cell (by omega) nA).trans ((BB4.out.cell (p := ⟨w.heap.size, 0, none⟩) lA1).trans x0), (hO.cell (by omega) nA).trans ((BB4.out.cell (p := ⟨w.heap.size, 1, none⟩) lA1).trans x1), (hO.cell (by omega) nA).trans ((BB4.out.cell (p := ⟨w.heap.size, 2, none⟩) lA1).trans x2), (hO.cell (by omega) nA).trans ((BB4.out.cell (p := ⟨w.heap.size, 3, none⟩) lA1).trans x3), (hO.cell (by omega) nA).trans ((BB4.out.cell (p := ⟨w.heap.size, 4, none⟩) lA1).trans x4)⟩ (fun hHeld => ?_)
    clear hK K hown hgrow hat hlt7 hO nb nA BB4 HU4 HV4 HRk4 HN4
    try simp only [Act.put, List.setIfInBounds_toArray, List.set_cons_zero, List.set_cons_succ]
    refine wpAnyH_take (i := 19) (oi := ⟨some 40, .nilCheck (.tmp 21), 0, "l6_queue.go:307", #[⟨0, .data⟩, ⟨0, .phase⟩, ⟨1, .phase⟩, ⟨2, .phase⟩, ⟨3, .phase⟩, ⟨4, .phase⟩, ⟨5, .phase⟩, ⟨6, .phase⟩, ⟨7, .phase⟩, ⟨8, .phase⟩, ⟨9, .phase⟩, ⟨10, .phase⟩, ⟨11, .phase⟩, ⟨12, .phase⟩, ⟨13, .phase⟩, ⟨14, .phase⟩, ⟨15, .phase⟩, ⟨16, .phase⟩, ⟨17, .phase⟩, ⟨18, .phase⟩], none⟩) (v := .pointer (some ⟨b, 0, none⟩)) rfl (by kernel_rfl) (by kernel_rfl) (by kernel_rfl) (fun _ _ _ h => h) (Or.inl ⟨by rfl, fun wz hSw => ?_⟩) hHeld ?_
    · obtain ⟨e0, e1, e2, e3, e4, e5⟩ := hSw
      clear hHeld
      go_simp
    simp only [Act.put, List.setIfInBounds_toArray, List.set_cons_zero, List.set_cons_succ]
    refine wpAnyH_take (i := 20) (oi := ⟨some 41, .fieldAddr 36 (.tmp 40) 0, 0, "l6_queue.go:307", #[⟨19, .data⟩, ⟨0, .phase⟩, ⟨1, .phase⟩, ⟨2, .phase⟩, ⟨3, .phase⟩, ⟨4, .phase⟩, ⟨5, .phase⟩, ⟨6, .phase⟩, ⟨7, .phase⟩, ⟨8, .phase⟩, ⟨9, .phase⟩, ⟨10, .phase⟩, ⟨11, .phase⟩, ⟨12, .phase⟩, ⟨13, .phase⟩, ⟨14, .phase⟩, ⟨15, .phase⟩, ⟨16, .phase⟩, ⟨17, .phase⟩, ⟨18, .phase⟩], none⟩) (v := .pointer (some ⟨b, 0, none⟩)) rfl (by kernel_rfl) (by kernel_rfl) (by kernel_rfl) (fun _ _ _ h => h) (Or.inl ⟨by rfl, fun wz hSw => ?_⟩) hHeld ?_
    · obtain ⟨e0, e1, e2, e3, e4, e5⟩ := hSw
      clear hHeld
      go_simp
    simp only [Act.put, List.setIfInBounds_toArray, List.set_cons_zero, List.set_cons_succ]
    refine wpAnyH_done (by kernel_rfl) ?_ _
    clear hHeld x0 x1 x2 x3 x4 y0 fb0 HRk HR1 NC H1 HQ1
    have y0 : w7.cell? ⟨b, 0, none⟩ = some (.slice a1 L.length c1) := HQ7.out.cell 0
    have y1 : w7.cell? ⟨b, 1, none⟩ = some (.int .i64 nx) := HQ7.out.cell 1
    have fb0 := HQ7.out.free 0
    have fb1 := HQ7.out.free 1
    have hwr : IntKind.i64.wrap (mid + 1) = mid + 1 := by rw [IntKind.wrap_i64]; omega
    have hnA : w.heap.size ≠ b := by omega
    have l7 : b < w7.heap.size := HQ7.out.lt
    unfold lastQ
    go_simp
    go_wp2
    go_ret
    exact ⟨rfl, ⟨_, _, (HQ7.out.set (i := 0) (by simp)).set (i := 1) (by simp), (HI7.out.setB (by show b < lo; omega) _).setB (by show b < lo; omega) _⟩, ((Kp.of ((b1.mono (by omega)).trans hb7)).set _).set _⟩
end Go.Proofs.YtlolnfpfipnfeaaGreat
