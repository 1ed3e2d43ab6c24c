import Derived.Test.YtlolnfpfipnfeaaGreatMg39
import Derived.Test.YtlolnfpfipnfeaaGreatMg45
import Derived.Test.YtlolnfpfipnfeaaGreatMg46
import Derived.Test.YtlolnfpfipnfeaaGreatMg47
import Derived.Test.YtlolnfpfipnfeaaGreatMg20
import Derived.Test.YtlolnfpfipnfeaaGreatMg28
import Derived.Test.YtlolnfpfipnfeaaGreatMg32
namespace Go.Proofs.YtlolnfpfipnfeaaGreat
open Go.ChangeShapes Go.WideShapes Go.ChangeAt Go.RowKit

set_option maxHeartbeats 1000000 in
set_option maxRecDepth 100000 in
theorem rightEntX (kind mid born : Int) (fr : ByteArray) (bo : ByteArray) (id rc vk vc : Int) (vt : ByteArray) (tr due : Int) (a3 : Option Addr) (n3 c3 : Nat) (w : World) (hk : ¬ (1 ≤ kind ∧ kind ≤ 6)) :
    Calls Tryz.prog 28 #[.agg #[.int .i64 kind, .int .i64 mid, .int .i64 born, .string fr, .slice a3 n3 c3, .string bo, .int .i64 id, .int .i64 rc, .int .i64 vk, .int .i64 vc, .string vt, .int .i64 tr, .int .i64 due]] w fun e w' => e = .returned (.tuple #[.nilIface, .bool false]) ∧ Below w.heap.size w w' := by
  go_enter Tryz.func28, Tryz.ntmps28
  go_wp2_with fail
  generalize hW : World.alloc _ _ = W0
  have b0 : Below w.heap.size w W0 := by rw [← hW]; exact below1 _ _
  clear hW
  refine (entryOfX kind mid born fr bo id rc vk vc vt tr due a3 n3 c3 _ hk).mono ?_
  rintro e w1 ⟨rfl, hb1⟩
  have b1 : Below w.heap.size w w1 := b0.trans (hb1.mono b0.size)
  clear hb1
  go_upto_region 2 with fail
  go_quiet (fail)
  go_wp2
  refine bodyPost_ret (v := .tuple #[.nilIface, .bool false]) (by simp [results, Tryz.results28, go_sem]) rfl ?_
  exact ⟨rfl, drew_below b1 _⟩

set_option maxHeartbeats 1000000 in
theorem implApply (r : Rec) (rv : Value) (lor : Nat) (nx : Int) (v : Value) (L : List It) (P : List (Value × Value)) (lo : Nat) (w : World) (h : ItsP w lo v L P) (hlo : lo ≤ w.heap.size) (hL : L.length ≤ 1048576) (hs : ∀ x ∈ L, SmallI x) (hR : Strs w lor rv r.R) (hsm : SmallR r) (hl : LenIn w) :
    Calls Tryz.prog 9 #[.agg #[v, .int .i64 nx], .agg #[.int .i64 r.kind, .int .i64 r.mid, .int .i64 r.born, .string r.fr, rv, .string r.bo, .int .i64 r.id, .int .i64 r.rc, .int .i64 r.vk, .int .i64 r.vc, .string r.vt, .int .i64 r.tr, .int .i64 r.due]] w fun e w' => ApPost L nx r w e w' := by
  obtain ⟨kind, mid, born, fr, R, bo, id, rc, vk, vc, vt, tr, due⟩ := r
  obtain ⟨m1, m2, m3, m4, m5⟩ := hsm
  dsimp only at hR m1 m2 m3 m4 m5 ⊢
  have hA : ArgS w rv R := strs_args hR (by unfold maxLen; omega) (fun s hs => by have := m5 s hs; unfold maxLen; omega)
  obtain ⟨a3, c3, rfl⟩ := row_formA hR
  rcases kind_cases kind with rfl | rfl | rfl | rfl | rfl | rfl | hk
  · cases hr : rightR (⟨1, mid, born, fr, R, bo, id, rc, vk, vc, vt, tr, due⟩ : Rec)
    · exact ap_post (ap_bad hr) (iaBad 1 mid born fr bo a3 R.length c3 id rc vk vc vt tr due nx _ L P lo w h hlo hL hs (fun wx hx => (rightEnt1 mid born fr R bo id rc vk vc vt tr due _ wx (hA.below hx) m4 m1 m2 m5 (len_below hl hx)).mono (fun e w' ⟨h1, h3⟩ => ⟨by rw [h1, if_neg (by rw [hr]; decide)], h3⟩)))
    · obtain ⟨f1, f2, f3, f4⟩ := right1_facts _ _ _ _ _ _ _ _ _ _ _ _ hr
      by_cases c : mid < nx
      · exact ap_post (ap_1no _ _ _ _ _ _ _ _ _ _ _ _ L nx hr (.inl c)) (iaYes1 _ _ _ 1 mid born fr bo a3 R.length c3 id rc vk vc vt tr due nx _ L P lo w h hlo hL hs (fun wx hx => (rightEnt1 mid born fr R bo id rc vk vc vt tr due _ wx (hA.below hx) m4 m1 m2 m5 (len_below hl hx)).mono (fun e w' ⟨h1, h3⟩ => ⟨by rw [h1, if_pos hr], h3⟩)) (fun wx v0 P0 lo0 hb hB hI hlw _ => ap1old mid born fr bo R _ lor w.heap.size nx v0 L P0 lo0 wx hB hI hlw (strs_below hR hb (Nat.le_refl _)) c))
      by_cases cf : 30 ≤ L.length
      · exact ap_post (ap_1no _ _ _ _ _ _ _ _ _ _ _ _ L nx hr (.inr cf)) (iaYes1 _ _ _ 1 mid born fr bo a3 R.length c3 id rc vk vc vt tr due nx _ L P lo w h hlo hL hs (fun wx hx => (rightEnt1 mid born fr R bo id rc vk vc vt tr due _ wx (hA.below hx) m4 m1 m2 m5 (len_below hl hx)).mono (fun e w' ⟨h1, h3⟩ => ⟨by rw [h1, if_pos hr], h3⟩)) (fun wx v0 P0 lo0 hb hB hI hlw _ => ap1full mid born fr bo R _ lor w.heap.size nx v0 L P0 lo0 wx hB hI hlw (strs_below hR hb (Nat.le_refl _)) c cf))
      exact ap_post (ap_1yes _ _ _ _ _ _ _ _ _ _ _ _ L nx hr (by omega)) (iaYes1 _ _ _ 1 mid born fr bo a3 R.length c3 id rc vk vc vt tr due nx _ L P lo w h hlo hL hs (fun wx hx => (rightEnt1 mid born fr R bo id rc vk vc vt tr due _ wx (hA.below hx) m4 m1 m2 m5 (len_below hl hx)).mono (fun e w' ⟨h1, h3⟩ => ⟨by rw [h1, if_pos hr], h3⟩)) (fun wx v0 P0 lo0 hb hB hI hlw hlt => ap1yes mid born fr bo R _ lor w.heap.size nx v0 L P0 lo0 wx hB hI hlw hlt hL (strs_below hR hb (Nat.le_refl _)) f1 f2 c (by omega) (by omega) f4))
  · cases hr : rightR (⟨2, mid, born, fr, R, bo, id, rc, vk, vc, vt, tr, due⟩ : Rec)
    · exact ap_post (ap_bad hr) (iaBad 2 mid born fr bo a3 R.length c3 id rc vk vc vt tr due nx _ L P lo w h hlo hL hs (fun wx hx => (rightEnt2 mid born fr R bo id rc vk vc vt tr due _ wx (hA.below hx) m4 m3).mono (fun e w' ⟨h1, h3⟩ => ⟨by rw [h1, if_neg (by rw [hr]; decide)], h3⟩)))
    · cases hf : findI id L 0 with
      | none => exact ap_post (ap_2no _ _ _ _ _ _ _ _ _ _ _ _ L nx hr hf) (iaYes2 _ _ _ 2 mid born fr bo a3 R.length c3 id rc vk vc vt tr due nx _ L P lo w h hlo hL hs (fun wx hx => (rightEnt2 mid born fr R bo id rc vk vc vt tr due _ wx (hA.below hx) m4 m3).mono (fun e w' ⟨h1, h3⟩ => ⟨by rw [h1, if_pos hr], h3⟩)) (fun wx v0 P0 lo0 _ hB hI hlw _ => ap2no id rc vk vc vt w.heap.size nx v0 L P0 lo0 wx hB hI hlw hL hf))
      | some i =>
        obtain ⟨_, h2, _⟩ := findI_some hf
        have hi : i < L.length := by omega
        have hV : L[i].V.length ≤ 1048576 := (hs L[i] (List.getElem_mem _)).2.2.2.2.1
        obtain ⟨f1, f2⟩ := right2_facts _ _ _ _ _ _ _ _ _ _ _ _ hr
        by_cases c : (L[i].V.length : Int) ≤ rc
        · exact ap_post (ap_2far _ _ _ _ _ _ _ _ _ _ _ _ L nx hr i hf hi c) (iaYes2 _ _ _ 2 mid born fr bo a3 R.length c3 id rc vk vc vt tr due nx _ L P lo w h hlo hL hs (fun wx hx => (rightEnt2 mid born fr R bo id rc vk vc vt tr due _ wx (hA.below hx) m4 m3).mono (fun e w' ⟨h1, h3⟩ => ⟨by rw [h1, if_pos hr], h3⟩)) (fun wx v0 P0 lo0 _ hB hI hlw _ => ap2far id rc vk vc vt w.heap.size nx v0 L P0 lo0 wx hB hI hlw hL i hf hi c))
        obtain ⟨kr, rfl⟩ : ∃ k : Nat, rc = (k : Int) := ⟨rc.toNat, by omega⟩
        have hrc : kr < L[i].V.length := by omega
        cases hp : pend (L[i].V[kr]'hrc)
        · exact ap_post (ap_2was _ _ _ _ _ _ _ _ _ _ _ _ L nx hr i hf hi hrc hp) (iaYes2 _ _ _ 2 mid born fr bo a3 R.length c3 id (kr : Int) vk vc vt tr due nx _ L P lo w h hlo hL hs (fun wx hx => (rightEnt2 mid born fr R bo id (kr : Int) vk vc vt tr due _ wx (hA.below hx) m4 m3).mono (fun e w' ⟨h1, h3⟩ => ⟨by rw [h1, if_pos hr], h3⟩)) (fun wx v0 P0 lo0 _ hB hI hlw _ => ap2was id kr vk vc vt w.heap.size nx v0 L P0 lo0 wx hB hI hlw hL i hf hi hrc hV hp))
        · exact ap_post (ap_2yes _ _ _ _ _ _ _ _ _ _ _ _ L nx hr i hf hi f1 hrc hp) (iaYes2 _ _ _ 2 mid born fr bo a3 R.length c3 id (kr : Int) vk vc vt tr due nx _ L P lo w h hlo hL hs (fun wx hx => (rightEnt2 mid born fr R bo id (kr : Int) vk vc vt tr due _ wx (hA.below hx) m4 m3).mono (fun e w' ⟨h1, h3⟩ => ⟨by rw [h1, if_pos hr], h3⟩)) (fun wx v0 P0 lo0 _ hB hI hlw hlt => ap2yes id kr vk vc vt w.heap.size nx v0 L P0 lo0 wx hB hI hlw hlt hL i hf hi hrc hV hp))
  · cases hr : rightR (⟨3, mid, born, fr, R, bo, id, rc, vk, vc, vt, tr, due⟩ : Rec)
    · exact ap_post (ap_bad hr) (iaBad 3 mid born fr bo a3 R.length c3 id rc vk vc vt tr due nx _ L P lo w h hlo hL hs (fun wx hx => (rightEnt3 mid born fr R bo id rc vk vc vt tr due _ wx (hA.below hx) m4).mono (fun e w' ⟨h1, h3⟩ => ⟨by rw [h1, if_neg (by rw [hr]; decide)], h3⟩)))
    · cases hf : findI id L 0 with
      | none => exact ap_post (ap_3no _ _ _ _ _ _ _ _ _ _ _ _ L nx hr hf) (iaYes3 _ _ _ 3 mid born fr bo a3 R.length c3 id rc vk vc vt tr due nx _ L P lo w h hlo hL hs (fun wx hx => (rightEnt3 mid born fr R bo id rc vk vc vt tr due _ wx (hA.below hx) m4).mono (fun e w' ⟨h1, h3⟩ => ⟨by rw [h1, if_pos hr], h3⟩)) (fun wx v0 P0 lo0 _ hB hI hlw _ => ap3no id tr due w.heap.size nx v0 L P0 lo0 wx hB hI hlw hL hf))
      | some i =>
        obtain ⟨_, h2, _⟩ := findI_some hf
        have hi : i < L.length := by omega
        exact ap_post (ap_3yes _ _ _ _ _ _ _ _ _ _ _ _ L nx hr i hf hi) (iaYes3 _ _ _ 3 mid born fr bo a3 R.length c3 id rc vk vc vt tr due nx _ L P lo w h hlo hL hs (fun wx hx => (rightEnt3 mid born fr R bo id rc vk vc vt tr due _ wx (hA.below hx) m4).mono (fun e w' ⟨h1, h3⟩ => ⟨by rw [h1, if_pos hr], h3⟩)) (fun wx v0 P0 lo0 _ hB hI hlw hlt => ap3yes id tr due w.heap.size nx v0 L P0 lo0 wx hB hI hlw hlt hL i hf hi))
  · cases hr : rightR (⟨4, mid, born, fr, R, bo, id, rc, vk, vc, vt, tr, due⟩ : Rec)
    · exact ap_post (ap_bad hr) (iaBad 4 mid born fr bo a3 R.length c3 id rc vk vc vt tr due nx _ L P lo w h hlo hL hs (fun wx hx => (rightEnt4 mid born fr R bo id rc vk vc vt tr due _ wx (hA.below hx) m4).mono (fun e w' ⟨h1, h3⟩ => ⟨by rw [h1, if_neg (by rw [hr]; decide)], h3⟩)))
    · cases hf : findI id L 0 with
      | none => exact ap_post (ap_4no _ _ _ _ _ _ _ _ _ _ _ _ L nx hr hf) (iaYes4 _ _ _ 4 mid born fr bo a3 R.length c3 id rc vk vc vt tr due nx _ L P lo w h hlo hL hs (fun wx hx => (rightEnt4 mid born fr R bo id rc vk vc vt tr due _ wx (hA.below hx) m4).mono (fun e w' ⟨h1, h3⟩ => ⟨by rw [h1, if_pos hr], h3⟩)) (fun wx v0 P0 lo0 _ hB hI hlw _ => ap4no id w.heap.size nx v0 L P0 lo0 wx hB hI hlw hL hf))
      | some i =>
        obtain ⟨_, h2, _⟩ := findI_some hf
        have hi : i < L.length := by omega
        cases hb : L[i].bn
        · exact ap_post (ap_4yes _ _ _ _ _ _ _ _ _ _ _ _ L nx hr i hf hi hb) (iaYes4 _ _ _ 4 mid born fr bo a3 R.length c3 id rc vk vc vt tr due nx _ L P lo w h hlo hL hs (fun wx hx => (rightEnt4 mid born fr R bo id rc vk vc vt tr due _ wx (hA.below hx) m4).mono (fun e w' ⟨h1, h3⟩ => ⟨by rw [h1, if_pos hr], h3⟩)) (fun wx v0 P0 lo0 _ hB hI hlw hlt => ap4yes id w.heap.size nx v0 L P0 lo0 wx hB hI hlw hlt hL i hf hi hb))
        · exact ap_post (ap_4was _ _ _ _ _ _ _ _ _ _ _ _ L nx hr i hf hi hb) (iaYes4 _ _ _ 4 mid born fr bo a3 R.length c3 id rc vk vc vt tr due nx _ L P lo w h hlo hL hs (fun wx hx => (rightEnt4 mid born fr R bo id rc vk vc vt tr due _ wx (hA.below hx) m4).mono (fun e w' ⟨h1, h3⟩ => ⟨by rw [h1, if_pos hr], h3⟩)) (fun wx v0 P0 lo0 _ hB hI hlw hlt => ap4was id w.heap.size nx v0 L P0 lo0 wx hB hI hlw hlt hL i hf hi hb))
  · cases hr : rightR (⟨5, mid, born, fr, R, bo, id, rc, vk, vc, vt, tr, due⟩ : Rec)
    · exact ap_post (ap_bad hr) (iaBad 5 mid born fr bo a3 R.length c3 id rc vk vc vt tr due nx _ L P lo w h hlo hL hs (fun wx hx => (rightEnt5 mid born fr R bo id rc vk vc vt tr due _ wx (hA.below hx) m4).mono (fun e w' ⟨h1, h3⟩ => ⟨by rw [h1, if_neg (by rw [hr]; decide)], h3⟩)))
    · cases hf : findI id L 0 with
      | none => exact ap_post (ap_5no _ _ _ _ _ _ _ _ _ _ _ _ L nx hr hf) (iaYes5 _ _ _ 5 mid born fr bo a3 R.length c3 id rc vk vc vt tr due nx _ L P lo w h hlo hL hs (fun wx hx => (rightEnt5 mid born fr R bo id rc vk vc vt tr due _ wx (hA.below hx) m4).mono (fun e w' ⟨h1, h3⟩ => ⟨by rw [h1, if_pos hr], h3⟩)) (fun wx v0 P0 lo0 _ hB hI hlw _ => ap5no id w.heap.size nx v0 L P0 lo0 wx hB hI hlw hL hf))
      | some i =>
        obtain ⟨_, h2, _⟩ := findI_some hf
        have hi : i < L.length := by omega
        have hV : L[i].V.length ≤ 1048576 := (hs L[i] (List.getElem_mem _)).2.2.2.2.1
        cases ha : L[i].V.any pend
        · exact ap_post (ap_5yes _ _ _ _ _ _ _ _ _ _ _ _ L nx hr i hf hi ha) (iaYes5 _ _ _ 5 mid born fr bo a3 R.length c3 id rc vk vc vt tr due nx _ L P lo w h hlo hL hs (fun wx hx => (rightEnt5 mid born fr R bo id rc vk vc vt tr due _ wx (hA.below hx) m4).mono (fun e w' ⟨h1, h3⟩ => ⟨by rw [h1, if_pos hr], h3⟩)) (fun wx v0 P0 lo0 _ hB hI hlw hlt => ap5yes id w.heap.size nx v0 L P0 lo0 wx hB hI hlw hlt hL i hf hi hV ha))
        · exact ap_post (ap_5was _ _ _ _ _ _ _ _ _ _ _ _ L nx hr i hf hi ha) (iaYes5 _ _ _ 5 mid born fr bo a3 R.length c3 id rc vk vc vt tr due nx _ L P lo w h hlo hL hs (fun wx hx => (rightEnt5 mid born fr R bo id rc vk vc vt tr due _ wx (hA.below hx) m4).mono (fun e w' ⟨h1, h3⟩ => ⟨by rw [h1, if_pos hr], h3⟩)) (fun wx v0 P0 lo0 _ hB hI hlw _ => ap5was id w.heap.size nx v0 L P0 lo0 wx hB hI hlw hL i hf hi hV ha))
  · cases hr : rightR (⟨6, mid, born, fr, R, bo, id, rc, vk, vc, vt, tr, due⟩ : Rec)
    · exact ap_post (ap_bad hr) (iaBad 6 mid born fr bo a3 R.length c3 id rc vk vc vt tr due nx _ L P lo w h hlo hL hs (fun wx hx => (rightEnt6 mid born fr R bo id rc vk vc vt tr due _ wx (hA.below hx) m4).mono (fun e w' ⟨h1, h3⟩ => ⟨by rw [h1, if_neg (by rw [hr]; decide)], h3⟩)))
    · by_cases c : id < nx
      · exact ap_post (ap_6no _ _ _ _ _ _ _ _ _ _ _ _ L nx hr c) (iaYes6 _ _ _ 6 mid born fr bo a3 R.length c3 id rc vk vc vt tr due nx _ L P lo w h hlo hL hs (fun wx hx => (rightEnt6 mid born fr R bo id rc vk vc vt tr due _ wx (hA.below hx) m4).mono (fun e w' ⟨h1, h3⟩ => ⟨by rw [h1, if_pos hr], h3⟩)) (fun wx v0 P0 lo0 _ hB hI hlw _ => ap6no id w.heap.size nx v0 L P0 lo0 wx hB hI hlw c))
      · exact ap_post (ap_6yes _ _ _ _ _ _ _ _ _ _ _ _ L nx hr c) (iaYes6 _ _ _ 6 mid born fr bo a3 R.length c3 id rc vk vc vt tr due nx _ L P lo w h hlo hL hs (fun wx hx => (rightEnt6 mid born fr R bo id rc vk vc vt tr due _ wx (hA.below hx) m4).mono (fun e w' ⟨h1, h3⟩ => ⟨by rw [h1, if_pos hr], h3⟩)) (fun wx v0 P0 lo0 _ hB hI hlw hlt => ap6yes id w.heap.size nx v0 L P0 lo0 wx hB hI hlw hlt c))
  · have hr := rightO kind mid born fr R bo id rc vk vc vt tr due hk
    exact ap_post (ap_bad hr) (iaBad kind mid born fr bo a3 R.length c3 id rc vk vc vt tr due nx _ L P lo w h hlo hL hs (fun wx _ => rightEntX kind mid born fr bo id rc vk vc vt tr due a3 R.length c3 wx hk))
end Go.Proofs.YtlolnfpfipnfeaaGreat
namespace Go.Proofs.YtlolnfpfipnfeaaGreat

theorem itsN_set {L : List It} {i : Nat} {x : It} (h : itN x = itN (L.getD i it0)) : itsN (L.set i x) = itsN L := by
  unfold itsN
  by_cases hi : i < L.length
  · have e : (L.set i x).map itN = L.map itN := by
      apply List.ext_getElem
      · simp
      · intro k h1 h2
        simp only [List.getElem_map, List.getElem_set]
        by_cases hk : i = k
        · subst hk
          simp only [if_true]
          rw [h]
          simp [hi]
        · simp [hk]
    rw [e]
  · rw [List.set_eq_of_length_le (by omega)]
theorem itsN_erase : ∀ (L : List It) (i : Nat), itsN (L.eraseIdx i) ≤ itsN L
  | [], _ => by simp [itsN]
  | x :: L, 0 => by simp [itsN]
  | x :: L, i + 1 => by
    have := itsN_erase L i
    unfold itsN at *
    simp only [List.eraseIdx_cons_succ, List.map_cons, List.sum_cons]
    omega
theorem applyN_itsN (L : List It) (nx : Int) (r : Rec) : itsN (applyN L nx r).1 ≤ itsN L + 2 * r.R.length := by
  unfold applyN
  repeat' split
  all_goals first
    | (dsimp only; omega)
    | (dsimp only; rw [itsN_set (by simp [itN])]; omega)
    | (dsimp only; have := itsN_erase L ‹Nat›; omega)
    | (dsimp only; simp only [itsN, itN, List.map_append, List.map_cons, List.map_nil, List.sum_append, List.sum_cons, List.sum_nil, List.length_replicate]; omega)
end Go.Proofs.YtlolnfpfipnfeaaGreat
