import Derived.Test.YthblkfdgibonbaaDrPrs
import Derived.Test.YthblkfdgibonbaaSPar
import Derived.Test.YthblkfdgibonbaaIPrs
import Derived.Test.YthblkfdgibonbaaPrsL
import Derived.Test.YthblkfdgibonbaaSameT
import Derived.Test.YthblkfdgibonbaaOpB
namespace Go.Proofs.Ythblkfdgibonbaa
open Go.ChangeShapes Go.WideShapes Go.ChangeAt Go.RowKit
open Pcs

/-- a front of a text is read as the whole, or waits, and bad stays bad -/
theorem parse_front (s : ByteArray) (m : Nat) (hm : m ≤ s.size) :
    (prSt (parse (s.extract 0 m)) = 3 ∧ prSt (parse s) = 3) ∨ (prSt (parse (s.extract 0 m)) = 2 ∧ parse s = parse (s.extract 0 m)) ∨ (prSt (parse (s.extract 0 m)) = 1 ∧ (prSt (parse s) = 2 → m < prUsed (parse s))) := by
  have h := prs_mono 50 none [] 0 m s.data.toList (by rw [← Lib.size_eq]; exact hm)
  have e : parse (s.extract 0 m) = prs 50 none [] 0 (s.data.toList.take m) := by
    unfold parse; rw [Lib.extract_data]; rfl
  rw [e]
  unfold parse
  generalize prs 50 none [] 0 s.data.toList = P at *
  generalize prs 50 none [] 0 (s.data.toList.take m) = Q at *
  rcases Q with _ | _ | ⟨n, L, x⟩
  · left; rw [h]; exact ⟨rfl, rfl⟩
  · right; right
    refine ⟨rfl, fun h2 => ?_⟩
    rcases P with _ | _ | ⟨n, L, x⟩
    · cases h2
    · cases h2
    · have := h n L x rfl; simpa [prUsed] using this
  · right; left; rw [h]; exact ⟨rfl, rfl⟩
theorem prSt_cases (P : Prs) : prSt P = 1 ∨ prSt P = 2 ∨ prSt P = 3 := by rcases P with _ | _ | ⟨_, _, _⟩ <;> simp [prSt]

set_option maxHeartbeats 4000000 in
set_option maxRecDepth 100000 in
theorem partsLaw (cv : Value) (B : List UInt8) (w : World) (hB : BytesArg w cv B) (hl : LenIn w) :
    Calls Try.prog 3 #[cv] w fun e w' => e = .returned (.bool true) ∧ Below w.heap.size w w' := by
  have HL : Hid (LenIn w) := hl
  obtain ⟨ca, cc, hcv⟩ : ∃ a c, cv = .slice a B.length c := by
    rcases hB.2 with ⟨rfl, a, c, rfl⟩ | ⟨g, off, cap, rfl, _⟩
    · exact ⟨_, _, rfl⟩
    · exact ⟨_, _, rfl⟩
  have hBm := hB.1
  unfold maxLen at hBm
  clear hl
  by_cases hbig : 1048576 < B.length
  · subst hcv
    clear hB
    go_enter Try.func3, Try.ntmps3
    go_wp2
    go_ret
    exact ⟨rfl, Below.refl _ _⟩
  · have HC : Hid (CodeAt w cv B) := ⟨by omega, hB.2⟩
    subst hcv
    clear hB
    go_enter Try.func3, Try.ntmps3
    go_wp2_with fail
    refine (drawParse _ B _ HC.out).mono ?_
    rintro e w1 ⟨⟨s, hs, rfl⟩, hb1⟩
    go_wp2_with fail
    refine (implParse s _ (len_below HL.out hb1) (by omega)).mono ?_
    rintro e w2 ⟨⟨v2, rfl, S2⟩, hb2⟩
    have HF : Hid (∀ m, m ≤ s.size → (prSt (parse (s.extract 0 m)) = 3 ∧ prSt (parse s) = 3) ∨ (prSt (parse (s.extract 0 m)) = 2 ∧ parse s = parse (s.extract 0 m)) ∨ (prSt (parse (s.extract 0 m)) = 1 ∧ (prSt (parse s) = 2 → m < prUsed (parse s)))) := fun m hm => parse_front s m hm
    obtain ⟨P, HP⟩ : ∃ P, Hid (parse s = P) := ⟨_, rfl⟩
    rw [HP.out] at S2 HF
    rw [HP.out]
    obtain ⟨a2, c2, rfl⟩ := strs_form S2
    have b2 : Below w.heap.size w w2 := hb1.trans (hb2.mono hb1.size)
    have HS2 : Hid (Strs w2 w1.heap.size (.slice a2 (prLines P).length c2) (prLines P)) := S2
    clear S2 hb2
    go_wp2_with fail
    refine (specParse s _ (by omega)).mono ?_
    rw [HP.out]
    rintro e w3 ⟨⟨v3, rfl, S3⟩, hb3⟩
    obtain ⟨a3, c3, rfl⟩ := strs_form S3
    obtain ⟨f0, f1, _⟩ := resAt (w := w2) (by simpa using hb3)
    have hz3 : w2.heap.size < w3.heap.size := by have := hb3.size; simp at this; omega
    have b3 : Below w.heap.size w w3 := b2.trans ((below1 w2 _).trans (hb3.mono (by simp)) |>.mono b2.size)
    have HS3 : Hid (Strs w3 (w2.heap.size + 1) (.slice a3 (prLines P).length c3) (prLines P)) := by
      show Strs _ _ _ _
      simpa using S3
    have HS23 : Hid (Strs w3 w1.heap.size (.slice a2 (prLines P).length c2) (prLines P)) := strs_below HS2.out ((below1 w2 _).trans (hb3.mono (by simp))) (Nat.le_refl _)
    have HA : Hid ((prLines P).length ≤ maxLen ∧ ∀ x ∈ prLines P, x.size ≤ maxLen) := by
      have := parse_lines s
      rw [HP.out] at this
      unfold maxLen
      exact ⟨by omega, fun x hx => by have := this.1 x hx; omega⟩
    clear S3 hb3 HS2
    go_wp2_with fail
    refine (sameT _ _ (prLines P) _ ((strs_args HS23.out HA.out.1 HA.out.2).below (below1 _ _)) ((strs_args HS3.out HA.out.1 HA.out.2).below (below1 _ _))).mono ?_
    rintro e w4 ⟨rfl, hb4⟩
    have f0' := (hb4.cell (p := ⟨w2.heap.size, 0, none⟩) (by simp; omega)).trans (Lib.cell?_alloc_some _ f0)
    have f1' := (hb4.cell (p := ⟨w2.heap.size, 1, none⟩) (by simp; omega)).trans (Lib.cell?_alloc_some _ f1)
    have b4 : Below w.heap.size w w4 := b3.trans ((below1 w3 _).trans (hb4.mono (by simp)) |>.mono b3.size)
    have HS24 : Hid (Strs w4 w1.heap.size (.slice a2 (prLines P).length c2) (prLines P)) := strs_below HS23.out ((below1 w3 _).trans (hb4.mono (by simp))) (Nat.le_refl _)
    have b4z : w3.heap.size < w4.heap.size := by have := hb4.size; simp at this; omega
    clear f0 f1 hb4 HS3 HS23
    -- the cut
    by_cases hne : 0 < B.length ∧ 0 < s.size
    focus
      obtain ⟨g, off, hca, hg, x, hx, ec⟩ : ∃ g off, ca = some ⟨g, off, none⟩ ∧ g < w.heap.size ∧ ∃ x : Nat, x < 256 ∧ w4.cell? ⟨g, off + (B.length - 1), none⟩ = some (.int .u8 (x : Int)) := by
        rcases HC.out.2 with ⟨h0, _⟩ | ⟨g, off, cap, hv, hg, hc⟩
        · rw [h0] at hne; exact absurd hne.1 (by simp)
        · injection hv with h1 h2 h3
          exact ⟨g, off, h1, hg, _, UInt8.toNat_lt _, (b4.cell (p := ⟨g, off + (B.length - 1), none⟩) hg).trans (hc (B.length - 1) (by omega))⟩
      subst hca
      obtain ⟨k, hk⟩ : ∃ k, B.length = k + 1 := ⟨B.length - 1, by omega⟩
      rw [hk, Nat.add_sub_cancel] at ec
      have hs0 : (0 : Int) < s.size := by omega
      rw [hk]
      obtain ⟨m, hmi, hm⟩ : ∃ m : Nat, (x : Int) % ((s.size : Int) + 1) = (m : Int) ∧ m ≤ s.size := ⟨x % (s.size + 1), by simp, by have := Nat.mod_lt x (show 0 < s.size + 1 by omega); omega⟩
      have hmi2 : (m : Int) ≤ s.size := by omega
      go_wp2_with fail
    rotate_left
    focus
      obtain ⟨m, hmi, hm⟩ : ∃ m : Nat, s.size = m ∧ m ≤ s.size := ⟨s.size, rfl, Nat.le_refl _⟩
      have hmi2 : (m : Int) ≤ s.size := by omega
      go_wp2_with fail
    all_goals
      have HF2 := HF.out m hm
      have hz4 : w2.heap.size < w4.heap.size := by have := b4z; omega
      refine (implParse (s.extract 0 m) _ (len_below HL.out b4) (by rw [ByteArray.size_extract]; omega)).mono ?_
      rintro e w5 ⟨⟨v5, rfl, S5⟩, hb5⟩
      obtain ⟨Q, HQ⟩ : ∃ Q, Hid (parse (s.extract 0 m) = Q) := ⟨_, rfl⟩
      rw [HQ.out] at S5 HF2
      rw [HQ.out]
      obtain ⟨a5, c5, rfl⟩ := strs_form S5
      have g0 := (hb5.cell (p := ⟨w2.heap.size, 0, none⟩) (by show w2.heap.size < _; omega)).trans f0'
      have g1 := (hb5.cell (p := ⟨w2.heap.size, 1, none⟩) (by show w2.heap.size < _; omega)).trans f1'
      have hz5 : w2.heap.size < w5.heap.size := by have := hb5.size; omega
      have b5 : Below w.heap.size w w5 := b4.trans (hb5.mono b4.size)
      have HS5 : Hid (Strs w5 w4.heap.size (.slice a5 (prLines Q).length c5) (prLines Q)) := S5
      have HS25 : Hid (Strs w5 w1.heap.size (.slice a2 (prLines P).length c2) (prLines P)) := strs_below HS24.out hb5 (Nat.le_refl _)
      clear S5 hb5 f0' f1' HS24
      rcases HF2 with ⟨q3, p3⟩ | ⟨q2, hPQ⟩ | ⟨q1, hlt⟩
      · rw [q3, p3]
        go_wp2
        go_ret
        exact ⟨rfl, b5.trans ((below1 w5 _).mono b5.size)⟩
      · subst hPQ
        rw [q2]
        go_wp2_with fail
        refine (sameT _ _ (prLines P) _ ((strs_args HS5.out HA.out.1 HA.out.2).below (below1 _ _)) ((strs_args HS25.out HA.out.1 HA.out.2).below (below1 _ _))).mono ?_
        rintro e w6 ⟨rfl, hb6⟩
        go_wp2
        go_ret
        exact ⟨rfl, b5.trans (((below1 w5 _).trans (hb6.mono (by simp))).mono b5.size)⟩
      · rw [q1]
        by_cases h2 : prSt P = 2
        · have hlt2 : (m : Int) < (prUsed P : Int) := by have := hlt h2; omega
          rw [h2]
          go_wp2
          go_ret
          exact ⟨rfl, b5.trans ((below1 w5 _).mono b5.size)⟩
        · have h2b : ((prSt P : Int) != 2) = true := by rw [bne_iff_ne]; omega
          go_wp2
          go_ret
          exact ⟨rfl, b5.trans ((below1 w5 _).mono b5.size)⟩
end Go.Proofs.Ythblkfdgibonbaa
