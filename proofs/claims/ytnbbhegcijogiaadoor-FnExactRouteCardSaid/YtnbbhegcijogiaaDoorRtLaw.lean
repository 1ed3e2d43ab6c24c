import Derived.Test.YtnbbhegcijogiaaDoorRtLawV
import Derived.Test.YtnbbhegcijogiaaDoorPin
import Derived.Lib.LaidTab
import Derived.Deep.Slices
import Derived.Deep.SlicePairs
import Derived.Deep.Fields
import Derived.Lib.SmallJoins
namespace Go.Proofs.YtnbbhegcijogiaaDoor
open Go.ChangeShapes Go.WideShapes Go.ChangeAt Go.RowKit Go.Deep
open Go.ChangeMaps (open_string)

set_option maxRecDepth 100000 in
/-- one named variable: one datum -/
theorem vars_oneR {H : Type} {enc : TypeId × Value → H} {W : World} {n : String} {gs : List (DataW H)} {q : List MemPlace} {sp : Nat → Bool} (hV : DataW.TrodVars enc Tryd.prog W sp [n] gs q) : ∃ g, gs = [g] := by
  match gs, hV with
  | [g], _ => exact ⟨g, rfl⟩
  | [], h => exact h.elim
  | _ :: _ :: _, h => obtain ⟨_, _, _, _, _, _, _, _, _, _, hs, _⟩ := h; exact hs.elim
set_option maxRecDepth 100000 in
theorem gTabR : Tryd.prog.globalNamed "loop.example/s01729/impl.checksumTable" = some 0 := by kernel_rfl
theorem gTabTypeR : (Tryd.prog.globals[0]?).map (·.type) = some 83 := by kernel_rfl
theorem cellsTabR : Tryd.prog.cellsOf 83 = 16 := by kernel_rfl
theorem cellsU32R : Tryd.prog.cellsOf 26 = 1 := by kernel_rfl
theorem tab_castR (i : Nat) (h : i < 16) : (Crc.tabL.map fun n : Nat => (n : Int))[i]? = some (Crc.tab i : Int) := by
  have hl : Crc.tabL.length = 16 := rfl
  rw [List.getElem?_map, List.getElem?_eq_getElem (by omega)]
  unfold Crc.tab
  rw [List.getD_eq_getElem?_getD, List.getElem?_eq_getElem (by omega)]
  rfl
set_option maxRecDepth 100000 in
theorem ck_eq : (Rows.laid_loop_example_s01729_impl_checksumTable : DataW Unit) = Lib.tabData .u32 (Crc.tabL.map fun n : Nat => (n : Int)) := by kernel_rfl
set_option maxHeartbeats 1000000 in
set_option maxRecDepth 100000 in
/-- what the row's list gives: the table's cells -/
theorem tableIn2 {W : World} {n0 : String} {d0 : DataW Unit} {r : List (String × DataW Unit)} (h : laidMet Tryd.prog ((n0, d0) :: ("loop.example/s01729/impl.checksumTable", Rows.laid_loop_example_s01729_impl_checksumTable) :: r) W) : TabIn W := by
  obtain ⟨ps, ⟨_, _, _, _, _, q, _, _, _, _, h1, _⟩, _⟩ := h
  obtain ⟨g, t, cs, fuel, p, q, hg, ht, hv, hd, _, _⟩ := h1
  obtain rfl := Option.some.inj (gTabR.symm.trans hg)
  obtain rfl := Option.some.inj (gTabTypeR.symm.trans ht)
  rw [ck_eq] at hd
  have hc := Lib.cells_of_tab Tryd.underlying83 Tryd.underlying26 cellsU32R cellsTabR hd
  intro i hi
  rw [World.var?_cell hg hv i, ← Array.getElem?_toList, hc, List.getElem?_map, tab_castR i hi]
  rfl

set_option maxRecDepth 100000 in
theorem openMxs {H : Type} {enc : TypeId × Value → H} {W : World} {n : Nat} {v : Value} {y : DataW H × List MemPlace} (h : DataW.trod enc Tryd.prog W 0 (fun _ => true) true n 36 [v] = some y) : ∃ L, ArgM W v L := by
  rcases open_slice Tryd.underlying36 h with ⟨hcs, _⟩ | ⟨a, len, cap, m, n', D, Pl, hcs, _, hl, hm, hmm, _, hx⟩
  · simp only [List.cons.injEq, and_true] at hcs
    subst hcs
    exact ⟨[], Nat.zero_le _, (fun x hx => by cases hx), .inl ⟨rfl, _, _, rfl⟩⟩
  · simp only [List.cons.injEq, and_true] at hcs
    subst hcs
    by_cases h0 : len = 0
    · subst h0; exact ⟨[], Nat.zero_le _, (fun x hx => by cases hx), .inl ⟨rfl, _, _, rfl⟩⟩
    · have hlm : len ≤ m := by rw [hmm]; simp; omega
      have ce : Tryd.prog.cellsOf 78 = 2 := by kernel_rfl
      have hvd : ∀ i, i < m → ∃ q : Mx, q.2.size ≤ maxLen ∧ W.cell? (a.add (i * 2)) = some (.int .i64 q.1) ∧ W.cell? (a.add (i * 2 + 1)) = some (.string q.2) := by
        intro i hi
        obtain ⟨cs', h1, h2⟩ := hx i hi
        rw [ce] at h1
        obtain ⟨_, hlen, hcell⟩ := World.cells?_some h1
        obtain ⟨xs, k, hk, hxy, _, hxl, hf⟩ := DataW.trod_struct Tryd.underlying78 h2
        match xs, hxl, cs', hlen with
        | [y0, y1], _, [u0, u1], _ =>
          have g0 := hf 0 _ rfl
          have g1 := hf 1 _ rfl
          have cI : Tryd.prog.cellsOf 3 = 1 := by kernel_rfl
          have cS : Tryd.prog.cellsOf 9 = 1 := by kernel_rfl
          simp [cI, cS] at g0 g1
          obtain ⟨n0, e0, _⟩ := DataW.trod_int Tryd.underlying3 g0
          obtain ⟨s2, e2, _, hs2⟩ := DataW.trod_string Tryd.underlying9 g1
          simp only [List.cons.injEq, and_true] at e0 e2
          have q0 := hcell 0 (by omega)
          have q1 := hcell 1 (by omega)
          rw [add_add] at q0 q1
          refine ⟨(n0, s2), hs2, by simpa [e0] using q0, by simpa [e2] using q1⟩
      obtain ⟨Q, hQ⟩ := choose_lt hvd
      obtain ⟨b, off, spot⟩ := a
      have hc0 := (hQ 0 (by omega)).2.1
      have hspot : spot = none := by simpa [Addr.add] using World.cell?_spot hc0
      subst hspot
      have ea : ∀ i, (⟨b, off, none⟩ : Addr).add i = ⟨b, off + i, none⟩ := fun i => by by_cases hi0 : i = 0 <;> simp [Addr.add, hi0]
      rw [ea] at hc0
      refine ⟨(List.range len).map Q, by simp; omega, ?_, .inr ⟨b, off, cap, by simp, by simp; omega, block_lt_of hc0, fun i hi => ?_⟩⟩
      · intro x hx'
        obtain ⟨i, hi, rfl⟩ := List.mem_map.1 hx'
        exact (hQ i (by have := List.mem_range.1 hi; omega)).1
      · simp only [List.length_map, List.length_range] at hi
        have := hQ i (by omega)
        rw [ea, ea] at this
        simpa [Nat.add_assoc] using this.2

set_option maxRecDepth 100000 in
theorem openZone {H : Type} {enc : TypeId × Value → H} {W : World} {b0 : Nat} {v : Value} {d : DataW H} {p : List MemPlace} (hv : Value.okWide Tryd.prog W .any b0 38 v) (h : DataW.Trod enc Tryd.prog W 0 (fun _ => true) true 38 v d p) :
    ∃ (kind addr : Int) (u : Value) (L : List Mx), v = .agg #[.int .i64 kind, u, .int .i64 addr] ∧ ArgM W u L := by
  obtain ⟨v0, v1, v2, y0, y1, y2, n, rfl, _, _, h0, h1, h2⟩ := Joins.open_agg3 Tryd.underlying38 (by kernel_rfl) (by kernel_rfl) hv h
  obtain ⟨kind, e0, _⟩ := DataW.trod_int Tryd.underlying3 h0
  obtain ⟨addr, e2, _⟩ := DataW.trod_int Tryd.underlying3 h2
  obtain ⟨L, hM⟩ := openMxs h1
  simp only [List.cons.injEq, and_true] at e0 e2
  subst e0 e2
  exact ⟨kind, addr, v1, L, rfl, hM⟩
theorem nat_of_u32 {x : Int} (h : (Lit.int .u32 x).wf = true) : ∃ n : Nat, x = (n : Int) ∧ n < 4294967296 := by
  simp [Lit.wf] at h
  have h1 : (0 : Int) ≤ x := h.1
  have h2 : x ≤ 4294967295 := h.2
  exact ⟨x.toNat, by omega, by omega⟩

set_option maxRecDepth 100000 in
theorem routeContract (H : Type) (enc : TypeId × Value → H) (W : World) (base : Nat) (args : Array Value) (ds gs : List (DataW H)) (before : List MemPlace)
    (hval : ∀ (j : Nat) t v, Tryd.f4.params[j]? = some t → args[j]? = some v → Value.okWide Tryd.prog W .any base t v)
    (hW : DataW.Whole enc Tryd.prog Tryd.f4.params.toList Rows.fnExactRouteSpec.vars false W args.toList ds gs before) (hL : laidMetH Tryd.prog Rows.fnExactRouteRow.laid W) (hSh : W.ShapedOpen Tryd.prog) :
    Calls Tryd.prog 4 args W fun e W' => ∃ v, e = .returned v ∧ Rows.fnExactRouteSpec.post enc Tryd.prog Tryd.f4 false true false false W args v W' := by
  have hW' := hW
  obtain ⟨p, q, hA0, hV, rfl, hfz, hnd⟩ := hW
  have hA : DataW.TrodAll enc Tryd.prog W 0 (fun _ => true) true Tryd.f4.params.toList args.toList ds p := hA0
  rw [Tryd.params4] at hA hval
  obtain ⟨v0, vs0, d0, ds0, p0, q0, hargs, rfl, rfl, h0, r0⟩ := trodAll_cons hA
  obtain ⟨v1, vs1, d1, ds1, p1, q1, rfl, rfl, rfl, h1, r1⟩ := trodAll_cons r0
  obtain ⟨v2, vs2, d2, ds2, p2, q2, rfl, rfl, rfl, h2, r2⟩ := trodAll_cons r1
  obtain ⟨rfl, rfl, rfl⟩ := trodAll_nil r2
  obtain rfl : args = #[v0, v1, v2] := by cases args; simp_all
  obtain ⟨s, rfl, rfl, rfl, hs⟩ := open_string Tryd.underlying9 (hval 0 9 v0 rfl rfl) h0
  obtain ⟨kind, addr, vm, L, rfl, hM⟩ := openZone (hval 1 38 v1 rfl rfl) h1
  obtain ⟨x, rfl, rfl, rfl, hx⟩ := open_int Tryd.underlying26 (hval 2 26 v2 rfl rfl) h2
  obtain ⟨sd, rfl, hsd⟩ := nat_of_u32 hx
  obtain ⟨g0, rfl⟩ := vars_oneR hV
  clear hA0
  refine (routeLaw s kind addr vm L sd W hs hM hsd (lenIn hSh) (tableIn2 hL)).mono fun e W' ⟨he, hb⟩ => ?_
  subst he
  exact ⟨_, rfl, LawBase.lawPost 4 laidOut (by kernel_rfl) (by kernel_rfl) (by kernel_rfl) Tryd.underlying4 hW' rfl hb⟩

set_option maxRecDepth 100000 in
theorem routeMet (os : Os) : laidMet Tryd.prog Rows.fnExactRouteRow.laid ((World.laidAll Tryd.prog os Rows.fnExactRouteRow.laid).forCall (fun _ _ => 0) ⟨#[], #[.string ByteArray.empty, .agg #[.int .i64 0, .slice none 0 0, .int .i64 0], .int .u32 0], []⟩).memory :=
  laidMet_laidAll _ (by kernel_rfl) (by kernel_rfl)
set_option maxRecDepth 100000 in
theorem routeReads (os : Os) {H : Type} (enc : TypeId × Value → H) : ∃ places, DataW.whole enc Tryd.prog ((World.laidAll Tryd.prog os Rows.fnExactRouteRow.laid).forCall (fun _ _ => 0) ⟨#[], #[.string ByteArray.empty, .agg #[.int .i64 0, .slice none 0 0, .int .i64 0], .int .u32 0], []⟩).memory Tryd.f4.params.toList Rows.fnExactRouteSpec.vars false (#[.string ByteArray.empty, .agg #[.int .i64 0, .slice none 0 0, .int .i64 0], .int .u32 0] : Array Value).toList 8 = some ([.lit (.string []), .agg [.lit (.int .i64 0), .nil, .lit (.int .i64 0)], .lit (.int .u32 0)], [Rows.laid_loop_example_s01729_impl_checksumTable], places) :=
  read_of (by kernel_rfl)

set_option maxRecDepth 100000 in
theorem routeLifted (os : Os) (started : os.Started) (H : Type) (enc : TypeId × Value → H) (F : Stop.Interp) :
    ReturnsInHanded {} Tryd.checked os 4 .any ((OpenSpec.ofChange Rows.fnExactRouteSpec).preRow enc Tryd.prog Tryd.f4 Rows.fnExactRouteRow.domain false Rows.fnExactRouteRow.laid) (((OpenSpec.ofChange Rows.fnExactRouteSpec).at F).post enc Tryd.prog Tryd.f4 false true false false) := by
  obtain ⟨places, hx⟩ := routeReads os enc
  refine returnsInHanded_of_row (C := Tryd.checked) (s := OpenSpec.ofChange Rows.fnExactRouteSpec) own started (by kernel_rfl) Tryd.func4
    (witness_row_at (enc := enc) (C := Tryd.checked) false (World.laidAll Tryd.prog os Rows.fnExactRouteRow.laid) #[.string ByteArray.empty, .agg #[.int .i64 0, .slice none 0 0, .int .i64 0], .int .u32 0] (World.laidAll_os _ _ _) (by kernel_rfl) (by kernel_rfl) (by kernel_rfl)
      (OpenSpec.preRow_of_cond 8 hx (by kernel_rfl) (fun k hk => by cases hk) (by kernel_rfl) (routeMet os))) ?_
  intro W base args ds gs before hval hW _ _ _ hL hSh _
  exact routeContract H enc W base args ds gs before hval hW hL hSh

set_option maxRecDepth 100000 in
theorem routeSaid : Rows.FnExactRouteSaid :=
  OpenClaim.holds_of_cond 4 Tryd.f4 rfl rfl rfl rfl rfl rfl rfl ⟨rfl, rfl, rfl, rfl, rfl⟩ rfl rfl rfl rfl rfl (by kernel_rfl) Tryd.func4 (by kernel_rfl)
    (of_decide_eq_true (by kernel_rfl)) (by unfold Func.isWrapper; first | (rw [if_pos (by decide +kernel)]; kernel_rfl) | (rw [if_neg (by decide +kernel)]; exact ⟨rfl, rfl⟩))
    (fun os started H enc _ F => by rw [OpenClaim.pre_eq_preRow]; exact routeLifted os started H enc F)

set_option maxRecDepth 100000 in
theorem routePlain (f : FuncId) (fn : Func) (hf : Tryd.pinned.checked.prog.funcNamed "loop.example/s01729/laws.FnExactRoute" = some f) (hfn : Tryd.pinned.checked.prog.funcs[f]? = some fn) :
    false = Tryd.pinned.checked.prog.looks [] ∧ ∀ (j : Nat) t, fn.params[j]? = some t → Tryd.pinned.checked.prog.wantsStandIn t = false := by
  obtain rfl : f = 4 := Option.some.inj ((show Tryd.prog.funcNamed "loop.example/s01729/laws.FnExactRoute" = some 4 by kernel_rfl).symm.trans hf) |>.symm
  obtain rfl : fn = Tryd.f4 := (Option.some.inj (Tryd.func4.symm.trans hfn)).symm
  refine ⟨by kernel_rfl, fun j t ht => ?_⟩
  rw [Tryd.params4] at ht
  have hall : ∀ t ∈ ([9, 38, 26] : List TypeId), Tryd.prog.wantsStandIn t = false := fun t h => by
    have h2 : ([9, 38, 26] : List TypeId).all (fun t => !Tryd.prog.wantsStandIn t) = true := by kernel_rfl
    simpa using List.all_eq_true.1 h2 t h
  exact hall t (by simpa using Array.mem_of_getElem? ht)

set_option maxRecDepth 100000 in
theorem routeCard : Rows.FnExactRouteCardSaid :=
  Claim7.holds_tied_plain_at .later [] _ _ _ _ routeSaid (fun _ h => by cases h) (by kernel_rfl) (fun _ h => by cases h) fnExactRoute_row_tie rfl ⟨rfl, rfl⟩ (by kernel_rfl) rfl routePlain (by kernel_rfl)
#print axioms routeCard
end Go.Proofs.YtnbbhegcijogiaaDoor
