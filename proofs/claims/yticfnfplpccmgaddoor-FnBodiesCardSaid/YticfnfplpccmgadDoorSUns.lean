import Derived.Test.YticfnfplpccmgadDoorUns
namespace Go.Proofs.YticfnfplpccmgadDoor
open Go.ChangeShapes Go.WideShapes Go.ChangeAt Go.RowKit
open Pcs

/-- what the text holds behind k lines -/
def candB (L : List ByteArray) : List UInt8 := (L.map fun x => trimDot x.data.toList ++ [13, 10]).flatten
theorem candB_step (L : List ByteArray) (k : Nat) (h : k < L.length) : candB (L.take (k + 1)) = candB (L.take k) ++ (trimDot L[k].data.toList ++ [13, 10]) := by
  unfold candB
  rw [List.take_add_one, List.getElem?_eq_getElem h, List.map_append, List.flatten_append]
  simp
theorem candB_all (F : ByteArray) : candB (pieces ⟨#[13, 10]⟩ F).dropLast = cand2 F.data.toList := by
  unfold candB pieces cand2
  rw [← List.map_dropLast, List.map_map]; rfl
theorem candB_le (L : List ByteArray) (k : Nat) : (candB (L.take k)).length ≤ (L.map fun x => x.size + 2).sum := by
  unfold candB
  rw [List.map_take]
  have h1 : ∀ M : List ByteArray, (M.map fun x => trimDot x.data.toList ++ [13, 10]).flatten.length ≤ (M.map fun x => x.size + 2).sum := by
    intro M
    induction M with
    | nil => simp
    | cons x M ih =>
      have := trim_le x.data.toList
      rw [← Lib.size_eq] at this
      simp only [List.map_cons, List.flatten_cons, List.length_append, List.sum_cons, List.length_cons, List.length_nil]
      omega
  refine Nat.le_trans ?_ (h1 L)
  generalize (L.map fun x => trimDot x.data.toList ++ [13, 10]) = M
  induction M generalizing k with
  | nil => simp
  | cons x M ih =>
    cases k with
    | zero => simp
    | succ k =>
      have := ih k
      simp only [List.take_succ_cons, List.flatten_cons, List.length_append]; omega
theorem candB_bound (F : ByteArray) (k : Nat) : (candB ((pieces ⟨#[13, 10]⟩ F).dropLast.take k)).length ≤ 3 * F.size + 2 := by
  refine Nat.le_trans (candB_le _ k) ?_
  have h1 : ((pieces ⟨#[13, 10]⟩ F).dropLast.map fun x => x.size + 2).sum ≤ ((pieces ⟨#[13, 10]⟩ F).map fun x => x.size + 2).sum := by
    rw [List.map_dropLast]
    generalize ((pieces ⟨#[13, 10]⟩ F).map fun x => x.size + 2) = M
    rw [List.dropLast_eq_take]
    generalize M.length - 1 = m
    induction M generalizing m with
    | nil => simp
    | cons x M ih =>
      cases m with
      | zero => simp
      | succ m => simp only [List.take_succ_cons, List.sum_cons]; have := ih m; omega
  have h2 : ∀ L : List ByteArray, (L.map fun l => l.size + 2).sum = (L.map fun l => l.size).sum + 2 * L.length := by
    intro L
    induction L with
    | nil => rfl
    | cons x L ih => simp only [List.map_cons, List.sum_cons, List.length_cons]; omega
  have h3 : ((pieces ⟨#[13, 10]⟩ F).map fun l => l.size).sum ≤ F.size := by
    have := pcs_sum (sep := [13, 10]) F.data.toList 0 []
    rw [List.length_nil, Nat.zero_add, ← Lib.size_eq] at this
    refine Nat.le_trans (Nat.le_of_eq ?_) this
    show (((pcs [13, 10] 0 [] F.data.toList).map mk).map fun l => l.size).sum = _
    rw [List.map_map]
    have e : ((fun l : ByteArray => l.size) ∘ mk) = List.length := funext fun x => mk_size x
    rw [e]
  have h4 := pieces_len ⟨#[13, 10]⟩ F
  refine Nat.le_trans h1 ?_
  rw [h2]
  omega
theorem trim_cut {x : ByteArray} (h : 0 < x.size) (hd : (x[0]'h).toNat = 46) : trimDot x.data.toList = (x.extract 1 x.size).data.toList := by
  have hh := head_dot.2 ⟨h, hd⟩
  rw [Lib.extract_data]
  cases e : x.data.toList with
  | nil => rw [e] at hh; cases hh
  | cons a l =>
    rw [e] at hh
    simp only [List.head?_cons, Option.some.injEq] at hh
    subst hh
    rw [trim_yes, Lib.size_eq, e]; simp

set_option maxHeartbeats 2000000 in
set_option maxRecDepth 100000 in
theorem specUnstuff (d : ByteArray) (w : World) (hs : d.size ≤ 1048576) :
    Calls Tryd.prog 15 #[.string d] w fun e w' => (∃ r f, e = .returned (.tuple #[.string r, .bool f]) ∧ Unst d r f) ∧ Below w.heap.size w w' := by
  by_cases hA : 6003 < d.size
  · have G : Hid (Unst d ⟨#[]⟩ false) := unst_long hA
    go_enter Tryd.func15, Tryd.ntmps15
    go_wp2
    go_ret2
    exact ⟨⟨⟨#[]⟩, .inl ⟨rfl, G.out⟩⟩, Below.refl _ _⟩
  · by_cases hB : d.size < 3
    · have G : Hid (Unst d ⟨#[]⟩ false) := unst_short hB
      go_enter Tryd.func15, Tryd.ntmps15
      go_wp2
      go_ret2
      exact ⟨⟨⟨#[]⟩, false, rfl, G.out⟩, Below.refl _ _⟩
    · have hF1 : (d.extract 0 (d.size - 3)).size ≤ 6000 := by rw [ByteArray.size_extract]; omega
      have hdd : d.data.toList = (d.extract 0 (d.size - 3)).data.toList ++ d.data.toList.drop (d.size - 3) := by
        rw [Lib.extract_data, List.drop_zero, Nat.sub_zero, List.take_append_drop]
      have hT : (d.data.toList.drop (d.size - 3)).length = 3 := by rw [List.length_drop, ← Lib.size_eq]; omega
      have NO : Hid (∀ c, c = cand2 (d.extract 0 (d.size - 3)).data.toList → stuffB (mk c) ≠ d → Unst d ⟨#[]⟩ false) := fun c hc hne => unst_no2 hdd hT hc hne
      have YES : Hid (∀ c, stuffB c = d → Unst d c true) := fun c h => unst_yes h (by omega)
      have hn3 : ((d.size : Int) - 3).toNat = d.size - 3 := by omega
      clear hdd hT
      have hsl : ∀ wx, (Instr.slice 9 (.string d) none (some (.int .i64 ((d.size : Int) - 3))) none).run Tryd.prog wx = .ok (.string (d.extract 0 (d.size - 3))) wx := by
        intro wx
        rw [run_slice_string_to_if wx 9 d .i64 _ Tryd.underlying9, if_pos (by omega), hn3]
      generalize d.extract 0 (d.size - 3) = F at *
      have hlo : (0 : Int) ≤ (d.size : Int) - 3 := by omega
      have hhi : (d.size : Int) - 3 ≤ d.size := by omega
      go_enter Tryd.func15, Tryd.ntmps15
      go_wp2_with fail
      refine (specSplit F _ _ (by omega) (by decide) (by decide)).mono ?_
      rintro e w1 ⟨⟨v, rfl, S1⟩, hb1⟩
      obtain ⟨g, cap, rfl, A1⟩ := strs_ne S1 (pieces_ne _ _)
      obtain ⟨n, hn⟩ : ∃ n, (pieces ⟨#[13, 10]⟩ F).length = n + 1 := ⟨(pieces ⟨#[13, 10]⟩ F).length - 1, by have := List.length_pos_iff.2 (pieces_ne ⟨#[13, 10]⟩ F); omega⟩
      have hpl := pieces_len ⟨#[13, 10]⟩ F
      have hkn : ∀ k, k < n → k < (pieces ⟨#[13, 10]⟩ F).length := fun k h => by omega
      have HSZ : Hid (∀ k (h : k < (pieces ⟨#[13, 10]⟩ F).length), (pieces ⟨#[13, 10]⟩ F)[k].size ≤ 6000) := fun k h => Nat.le_trans (pieces_size (List.getElem_mem h)) hF1
      have CELL : Hid (∀ i (hi : i < (pieces ⟨#[13, 10]⟩ F).length), w1.cell? ⟨g, i, none⟩ = some (.string (pieces ⟨#[13, 10]⟩ F)[i])) := A1.cell
      have HST : Hid (∀ k (h : k < n), candB ((pieces ⟨#[13, 10]⟩ F).dropLast.take (k + 1)) = candB ((pieces ⟨#[13, 10]⟩ F).dropLast.take k) ++ (trimDot ((pieces ⟨#[13, 10]⟩ F)[k]'(hkn k h)).data.toList ++ [13, 10])) := by
        intro k h
        have hd : k < (pieces ⟨#[13, 10]⟩ F).dropLast.length := by rw [List.length_dropLast]; omega
        rw [candB_step _ k hd, List.getElem_dropLast hd]
      have HDE : Hid ((pieces ⟨#[13, 10]⟩ F).dropLast.take n = (pieces ⟨#[13, 10]⟩ F).dropLast) := List.take_of_length_le (by rw [List.length_dropLast]; omega)
      have HALL : Hid (candB (pieces ⟨#[13, 10]⟩ F).dropLast = cand2 F.data.toList) := candB_all F
      have HLE : Hid (∀ k, (candB ((pieces ⟨#[13, 10]⟩ F).dropLast.take k)).length ≤ 20000) := fun k => Nat.le_trans (candB_bound F k) (by omega)
      have hcap := A1.cap
      have hlc := A1.len
      rw [hn] at hlc ⊢
      unfold maxLen at hcap
      have hN1 : ((n : Int) + 1 - 1) = n := by omega
      clear S1 A1 hsl
      generalize pieces ⟨#[13, 10]⟩ F = P at *
      go_wp2
      go_loopw [5, 7, 28] (fun ov _ iv wr => ∃ (k m : Nat) (O : ByteArray), k ≤ n ∧ iv = .int .i64 k ∧ ov = .string O ∧ Hid (O = mk (candB (P.dropLast.take k))) ∧ wr = w1.drewN m) (fun _ _ iv _ => n - (intOf iv).toNat)
      case atStart => exact ⟨0, 0, ⟨#[]⟩, Nat.zero_le _, rfl, rfl, rfl, rfl⟩
      case round =>
        obtain ⟨k, m, O, hk, rfl, rfl, HO, rfl⟩ := hrel
        have hO : O.size ≤ 20000 := by
          have := HLE.out k
          rw [HO.out, mk_size]; exact this
        by_cases hlt : k < n
        · have ec := CELL.out k (by omega)
          have hx := HSZ.out k (by omega)
          have HS := HST.out k hlt
          generalize P[k]'(hkn k hlt) = x at *
          have HS' : Hid (candB (P.dropLast.take (k + 1)) = candB (P.dropLast.take k) ++ (trimDot x.data.toList ++ [13, 10])) := HS
          clear HS
          by_cases hx0 : 0 < x.size
          · have hx0i : (0 : Int) < x.size := by omega
            by_cases hd : ((x[0]'hx0).toNat : Int) = 46
            · have HY : Hid (trimDot x.data.toList = (x.extract 1 x.size).data.toList) := trim_cut hx0 (by omega)
              have h1i : (1 : Int) ≤ x.size := by omega
              have hys : (x.extract 1 x.size).size ≤ 6000 := by rw [ByteArray.size_extract]; omega
              have hsl2 : ∀ wx, (Instr.slice 9 (.string x) (some (.int .i64 1)) none none).run Tryd.prog wx = .ok (.string (x.extract 1 x.size)) wx := by
                intro wx
                rw [run_slice_string_from_if wx 9 x .i64 1 Tryd.underlying9, if_pos (by omega)]
                rfl
              go_wp2
              go_roundw
              case rel => exact ⟨k + 1, m, _, by omega, by go_num, rfl, by show _ = _; rw [HS'.out, HY.out]; exact cat_no HO.out, rfl⟩
              case measure => simp [intOf]; omega
            · have hdb : (((x[0]'hx0).toNat : Int) == 46) = false := beq_eq_false_iff_ne.2 hd
              have HY : Hid (trimDot x.data.toList = x.data.toList) := trim_no fun e => by
                obtain ⟨h, e2⟩ := head_dot.1 e
                omega
              go_wp2
              go_roundw
              case rel => exact ⟨k + 1, m, _, by omega, by go_num, rfl, by show _ = _; rw [HS'.out, HY.out]; exact cat_no HO.out, rfl⟩
              case measure => simp [intOf]; omega
          · have HY : Hid (trimDot x.data.toList = x.data.toList) := trim_no fun e => by
              obtain ⟨h, e2⟩ := head_dot.1 e
              omega
            have hx1 : (x.size : Int) ≤ 0 := by omega
            go_wp2
            go_roundw
            case rel => exact ⟨k + 1, m, _, by omega, by go_num, rfl, by show _ = _; rw [HS'.out, HY.out]; exact cat_no HO.out, rfl⟩
            case measure => simp [intOf]; omega
        · obtain rfl : k = n := by omega
          have HOE : Hid (O = mk (cand2 F.data.toList)) := by
            show _ = _
            rw [HO.out, HDE.out, HALL.out]
          go_wp2_with fail
          refine (specStuff O _ (by omega)).mono ?_
          rintro e w3 ⟨rfl, hb3⟩
          have HB3 : Hid (Below w.heap.size w w3) := (drew_below hb1 m).trans (hb3.mono hb1.size)
          by_cases hq : stuffB O = d
          · have G : Hid (Unst d O true) := YES.out O hq
            have Hq : Hid (stuffB O = d) := hq
            rw [Hq.out]
            clear hq hb3
            go_wp2
            go_ret2
            exact ⟨⟨_, _, rfl, G.out⟩, HB3.out⟩
          · have G : Hid (Unst d ⟨#[]⟩ false) := NO.out _ rfl (by rw [← HOE.out]; exact hq)
            have hqb := str_ne hq
            clear hq hb3
            generalize stuffB O = T at *
            go_wp2
            go_ret2
            exact ⟨⟨_, _, rfl, G.out⟩, HB3.out⟩
end Go.Proofs.YticfnfplpccmgadDoor
