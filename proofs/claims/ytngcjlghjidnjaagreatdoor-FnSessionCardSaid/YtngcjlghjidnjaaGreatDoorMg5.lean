import Derived.Test.YtngcjlghjidnjaaGreatDoorMg3
import Derived.Test.YtngcjlghjidnjaaGreatDoorMg4
import Derived.Lib.OthersKept
namespace Go.Proofs.YtngcjlghjidnjaaGreatDoor
open Go.ChangeShapes Go.WideShapes Go.ChangeAt Go.RowKit
open Pcs

/-- a CR or an LF -/
def brkN (s : ByteArray) : Bool := hasN s 13 || hasN s 10
theorem brk_yes {s : ByteArray} {k : Nat} (hk : k < s.size) (h : byteOf s k = 13 ∨ byteOf s k = 10) : brkN s = true := by
  unfold brkN
  rcases h with h | h
  · rw [has_yes hk h]; rfl
  · rw [has_yes hk h, Bool.or_true]
theorem brk_no {s : ByteArray} (h : ∀ k, k < s.size → byteOf s k ≠ 13 ∧ byteOf s k ≠ 10) : brkN s = false := by
  unfold brkN
  rw [has_no fun k hk => (h k hk).1, has_no fun k hk => (h k hk).2]; rfl
theorem brk_byte (x : UInt8) : ([13, 10] : List UInt8).contains x = true ↔ x.toNat = 13 ∨ x.toNat = 10 := by
  simp only [List.contains_cons, List.contains_nil, Bool.or_false, Bool.or_eq_true, beq_iff_eq]
  constructor
  · rintro (rfl | rfl)
    · left; rfl
    · right; rfl
  · rintro (h | h)
    · left; exact UInt8.toNat_inj.1 h
    · right; exact UInt8.toNat_inj.1 h
theorem any_brk (s : ByteArray) : decide (0 ≤ Lib.indexAny s.data.toList [13, 10]) = brkN s := by
  by_cases h : ∃ k, ∃ _ : k < s.size, (byteOf s k = 13 ∨ byteOf s k = 10)
  · obtain ⟨k, hk, hb⟩ := h
    rw [brk_yes hk hb]
    refine decide_eq_true ?_
    have hge := Lib.indexAny_ge [13, 10] s.data.toList
    rcases Int.lt_or_le (Lib.indexAny s.data.toList [13, 10]) 0 with hlt | hle
    · exfalso
      have : ∀ (l : List UInt8), Lib.indexAny l [13, 10] = -1 → ∀ x ∈ l, ([13, 10] : List UInt8).contains x = false := by
        intro l
        induction l with
        | nil => intro _ x hx; cases hx
        | cons b l ih =>
          intro e x hx
          rw [Lib.indexAny] at e
          split at e
          · exact absurd e (by decide)
          · rename_i hb'
            split at e
            · rename_i h2
              rcases List.mem_cons.1 hx with rfl | hx
              · exact Bool.eq_false_iff.2 hb'
              · exact ih (beq_iff_eq.1 h2) x hx
            · have := Lib.indexAny_ge [13, 10] l
              rename_i h2
              have h3 : Lib.indexAny l [13, 10] ≠ -1 := fun e => h2 (beq_iff_eq.2 e)
              omega
      have hm : s[k] ∈ s.data.toList := by
        have hk' : k < s.data.toList.length := by rw [← Lib.size_eq]; exact hk
        exact List.getElem_mem hk'
      have := this s.data.toList (by omega) _ hm
      rw [byteOf_eq s k hk] at hb
      rw [(brk_byte s[k]).2 hb] at this
      cases this
    · exact hle
  · have h' : ∀ k, k < s.size → byteOf s k ≠ 13 ∧ byteOf s k ≠ 10 := fun k hk => ⟨fun e => h ⟨k, hk, .inl e⟩, fun e => h ⟨k, hk, .inr e⟩⟩
    rw [brk_no h']
    have : Lib.indexAny s.data.toList [13, 10] = -1 := by
      refine Lib.indexAny_none fun j b hj hb => ?_
      have hj' : j < s.size := by rw [Lib.size_eq]; exact hj
      rw [Bool.eq_false_iff]; intro e
      have e1 := (brk_byte b).1 e
      have e2 : b = s[j] := by
        have h3 : s.data.toList[j]? = some s[j] := by rw [List.getElem?_eq_getElem hj]; rfl
        rw [h3] at hb; exact (Option.some.inj hb).symm
      rw [e2, ← byteOf_eq s j hj'] at e1
      rcases e1 with e1 | e1
      · exact (h' j hj').1 e1
      · exact (h' j hj').2 e1
    rw [this]; rfl

theorem h116 : (Tryz.prog.info? (Tryz.lays153_ren.t 116)).map (fun i => (i.zero, i.size)) = some (some (.agg (Array.replicate 256 (.bool false))), 256) := by kernel_rfl
theorem crlfAscii : ∀ (j : Nat) (b : UInt8), (⟨#[13, 10]⟩ : ByteArray).data.toList[j]? = some b → b.toNat < 128 := by
  intro j b h
  match j, h with
  | 0, h => simp at h; subst h; decide
  | 1, h => simp at h; subst h; decide
  | n + 2, h => simp at h
theorem crlfLow : ∀ (k : Nat) (h : k < (⟨#[13, 10]⟩ : ByteArray).size), ((⟨#[13, 10]⟩ : ByteArray)[k]'h).toNat < 128 := by
  intro k h
  match k, h with
  | 0, _ => show (13 : UInt8).toNat < 128; decide
  | 1, _ => show (10 : UInt8).toNat < 128; decide
  | n + 2, h => exact absurd h (by change ¬ (n + 2 < 2); omega)
theorem below_iter {w wx : World} {s : ByteArray} {p : Nat} (h : Below w.heap.size w wx) : Below w.heap.size w (wx.iterAt w.heap.size s p) := by
  refine ⟨h.os, h.tape, h.output, by simpa [World.iterAt] using h.size, fun k hk => ?_⟩
  rw [← h.block k hk]
  simp only [World.iterAt]
  rw [Array.getElem?_setIfInBounds_ne (by omega)]

set_option maxHeartbeats 4000000 in
set_option maxRecDepth 1000000 in
theorem implAny (s : ByteArray) (w : World) (hs : s.size ≤ 1048576) :
    Calls Tryz.prog 151 #[.string s, .string ⟨#[13, 10]⟩] w fun e w' => (∃ z : Int, e = .returned (.int .i64 z) ∧ decide (0 ≤ z) = brkN s) ∧ Below w.heap.size w w' := by
  by_cases h8 : 8 < s.size
  · refine (Any.strings_IndexAny_long Tryz.lays153 (zero_of_info h116).1 (zero_of_info h116).2 s ⟨#[13, 10]⟩ w (by decide) h8 (by omega) (by decide) crlfAscii).mono ?_
    rintro e w' ⟨rfl, rfl⟩
    exact ⟨⟨_, rfl, any_brk s⟩, below2 _ _ _⟩
  · have h8z : decide ((8 : Int) < (s.size : Int)) = false := decide_eq_false (by omega)
    go_enter Tryz.func151, Tryz.ntmps151
    go_wp2_with (go_at_call 164; refine (Any.strings_shouldUseASCIISet Tryz.lays226 _ _).mono ?_; rintro e w' ⟨rfl, hw⟩; rw [hw, h8z])
    go_loopg [9, 10] s.size (fun g _ _ wx => ∃ i : Nat, i + g = s.size ∧ wx.heap[w.heap.size]? = some (.stringIter s i) ∧ Hid (∀ k, k < i → byteOf s k ≠ 13 ∧ byteOf s k ≠ 10) ∧ Below w.heap.size w wx)
    case atStart => exact ⟨0, by omega, World.iter_heap w s 0, fun k h => absurd h (Nat.not_lt_zero _), below1 _ _⟩
    case round =>
      obtain ⟨i, hig, hit, HN, hbw⟩ := hrel
      by_cases hi : i < s.size
      · have hits : ∀ p, (wr.iterAt w.heap.size s p).heap[w.heap.size]? = some (.stringIter s p) := fun p => Lib.iterAt_heap wr _ s i p hit
        have hbi : ∀ p, Below w.heap.size w (wr.iterAt w.heap.size s p) := fun p => below_iter hbw
        have HI : Hid (∀ p, (wr.iterAt w.heap.size s p).heap[w.heap.size]? = some (.stringIter s p)) := hits
        have HBI : Hid (∀ p, Below w.heap.size w (wr.iterAt w.heap.size s p)) := hbi
        have hzr : w.heap.size < wr.heap.size := (Array.getElem?_eq_some_iff.1 hit).1
        by_cases ha : (s[i]'hi).toNat < 128
        · have hnx := fun ty => Lib.run_next_ascii_at (P := Tryz.prog) wr w.heap.size s i ty hit hi ha
          have HB : Hid (byteOf s i = s[i].toNat) := byteOf_eq s i hi
          clear hits hbi hit hbw
          cases hin : ([13, 10] : List UInt8).contains s[i] with
          | true =>
            have G : Hid (brkN s = true) := brk_yes hi (by rw [HB.out]; exact (brk_byte _).1 hin)
            have hge : (0 : Int) ≤ Lib.indexByte [13, 10] s[i] := by rw [Lib.contains_iff_indexByte] at hin; exact of_decide_eq_true hin
            go_wp2_with (go_at_call 163; refine (Any.strings_IndexRune_ascii Tryz.lays152 _ _ _ (by omega) (by omega)).mono ?_; rintro e w' ⟨rfl, hw⟩; rw [hw])
            go_ret
            exact ⟨⟨_, rfl, by rw [G.out]; exact decide_eq_true (Int.natCast_nonneg _)⟩, HBI.out _⟩
          | false =>
            have hlt : Lib.indexByte [13, 10] s[i] < 0 := by rw [Lib.contains_iff_indexByte] at hin; have := of_decide_eq_false hin; omega
            have G : Hid (∀ k, k < i + 1 → byteOf s k ≠ 13 ∧ byteOf s k ≠ 10) := by
              intro k hk
              rcases Nat.lt_succ_iff_lt_or_eq.1 hk with hk | rfl
              · exact HN.out k hk
              · rw [HB.out]
                exact ⟨fun e => absurd ((brk_byte _).2 (.inl e)) (by rw [hin]; decide), fun e => absurd ((brk_byte _).2 (.inr e)) (by rw [hin]; decide)⟩
            go_wp2_with (go_at_call 163; refine (Any.strings_IndexRune_ascii Tryz.lays152 _ _ _ (by omega) (by omega)).mono ?_; rintro e w' ⟨rfl, hw⟩; rw [hw])
            go_roundg (s.size - (i + 1))
            case measure => omega
            case rel => exact ⟨i + 1, by omega, HI.out _, G.out, HBI.out _⟩
        · obtain ⟨d1, d2, d3, d4⟩ := decode_skip s i hi (by omega)
          have d5 := decode_le s i
          have hnx := fun ty => Lib.run_next_any_at (P := Tryz.prog) wr w.heap.size s i ty hit hi
          obtain ⟨r, Hr⟩ : ∃ r, Hid ((Utf8.decode s i).1 = r) := ⟨_, rfl⟩
          obtain ⟨m, Hm⟩ : ∃ m, Hid ((Utf8.decode s i).2 = m) := ⟨_, rfl⟩
          rw [Hr.out] at d1 d5 hnx
          rw [Hm.out] at d2 d3 d4 hnx
          have G : Hid (∀ k, k < i + m → byteOf s k ≠ 13 ∧ byteOf s k ≠ 10) := by
            intro k hk
            by_cases hki : k < i
            · exact HN.out k hki
            · have := d4 k (by omega) hk; omega
          clear hits hbi hit hbw d4
          by_cases he : r = 65533
          · subst he
            go_wp2_with (go_at_call 163; refine (runeErr _ crlfLow _).mono ?_; rintro e w2 ⟨⟨z, rfl, hz⟩, hb2⟩)
            go_roundg (s.size - (i + m))
            case measure => omega
            case rel =>
              refine ⟨i + m, by omega, ?_, G.out, (HBI.out _).trans (hb2.mono (by simp [World.iterAt]; omega))⟩
              rw [hb2.block _ (by simpa [World.iterAt] using hzr)]; exact HI.out _
          · go_wp2_with (go_at_call 163; refine (runeNo _ (by decide) (crlfLow 1 (by decide)) _ _ d1 d5 he).mono ?_; rintro e w2 ⟨⟨z, rfl, hz⟩, hb2⟩)
            go_roundg (s.size - (i + m))
            case measure => omega
            case rel =>
              refine ⟨i + m, by omega, ?_, G.out, (HBI.out _).trans (hb2.mono (by simp [World.iterAt]; omega))⟩
              rw [hb2.block _ (by simpa [World.iterAt] using hzr)]; exact HI.out _
      · have hnx := fun ty => Lib.run_next_end_at (P := Tryz.prog) wr w.heap.size s i ty hit hi
        have G : Hid (brkN s = false) := brk_no fun k hk => HN.out k (by omega)
        clear hit
        go_wp2
        go_ret
        exact ⟨⟨_, rfl, by rw [G.out]; rfl⟩, hbw⟩

set_option maxHeartbeats 1000000 in
set_option maxRecDepth 100000 in
theorem implBreak (s : ByteArray) (w : World) (hs : s.size ≤ 1048576) :
    Calls Tryz.prog 95 #[.string s] w fun e w' => e = .returned (.bool (brkN s)) ∧ Below w.heap.size w w' := by
  have any : Calls Tryz.prog 131 #[.string s, .string ⟨#[13, 10]⟩] w fun e w' => e = .returned (.bool (brkN s)) ∧ Below w.heap.size w w' := by
    go_enter Tryz.func131, Tryz.ntmps131
    go_wp2_with (go_at_call 151; refine (implAny _ _ hs).mono ?_; rintro e w2 ⟨⟨z, rfl, hz⟩, hb2⟩)
    go_ret
    exact ⟨rfl, hb2⟩
  go_enter Tryz.func95, Tryz.ntmps95
  go_wp2_with (go_at_call 131; refine any.mono ?_; rintro e w2 ⟨rfl, hb2⟩)
  go_ret
  exact ⟨rfl, hb2⟩
end Go.Proofs.YtngcjlghjidnjaaGreatDoor
namespace Go.Proofs.YtngcjlghjidnjaaGreatDoor
open Pcs

/-- a whole line of a reply, its end aside -/
def lineR (c : ByteArray) : Bool := decide (c.size ≤ 510) && (!brkN c && (decide (3 ≤ c.size) && (digN (byteOf c 0) && (digN (byteOf c 1) && (digN (byteOf c 2) && (decide (50 ≤ byteOf c 0) && (decide (byteOf c 0 ≤ 53) && (decide (c.size = 3) || (byteOf c 3 == 32 || byteOf c 3 == 45)))))))))
def codeN (c : ByteArray) : Nat := ((byteOf c 0 - 48) * 10 + (byteOf c 1 - 48)) * 10 + (byteOf c 2 - 48)
def lastN (c : ByteArray) : Bool := decide (c.size = 3) || byteOf c 3 == 32
def textB (c : ByteArray) : ByteArray := c.extract (min 4 c.size) c.size
/-- no line yet, but it may become one -/
def moreN (r : ByteArray) : Bool := decide (r.size < 512) && !brkN (mk (Lib.trimSuffix r.data.toList [13]))

abbrev Prs := Option (Option (Nat × List ByteArray × Nat))

/-- a reply out of a text: k: how many lines it may still have; c: the code of the lines ahead; acc: their texts; u: their bytes -/
def prs : Nat → Option Nat → List ByteArray → Nat → List UInt8 → Prs
  | 0, _, _, _, _ => none
  | k + 1, c, acc, u, r =>
    if Lib.index r [13, 10] == -1 then (if moreN (mk r) then (some none) else none)
    else
      let i := (Lib.index r [13, 10]).toNat
      let l := mk (r.take i)
      if lineR l && (c == none || c == some (codeN l)) then
        (if lastN l then (some (some (codeN l, acc ++ [textB l], u + (i + 2)))) else prs k (some (codeN l)) (acc ++ [textB l]) (u + (i + 2)) (r.drop (i + 2)))
      else none
def parse (s : ByteArray) : Prs := prs 50 none [] 0 s.data.toList

theorem prs_cut {k : Nat} {c : Option Nat} {acc : List ByteArray} {u : Nat} {r : List UInt8} (h : Lib.index r [13, 10] = -1) : prs (k + 1) c acc u r = if moreN (mk r) then (some none) else none := by
  rw [prs, if_pos (beq_iff_eq.2 h)]
theorem prs_line {k : Nat} {c : Option Nat} {acc : List ByteArray} {u : Nat} {r : List UInt8} {i : Nat} {l : ByteArray} (h : Lib.index r [13, 10] = i) (hl : mk (r.take i) = l) :
    prs (k + 1) c acc u r = if lineR l && (c == none || c == some (codeN l)) then (if lastN l then (some (some (codeN l, acc ++ [textB l], u + (i + 2)))) else prs k (some (codeN l)) (acc ++ [textB l]) (u + (i + 2)) (r.drop (i + 2))) else none := by
  have hm : ¬ (Lib.index r [13, 10] == -1) = true := fun e => by have := beq_iff_eq.1 e; omega
  have e : (Lib.index r [13, 10]).toNat = i := by omega
  subst hl
  rw [prs, if_neg hm]
  simp only [e]

/-- where the end of a line stands in a front of the text -/
theorem index_take {r : List UInt8} {m : Nat} : (∃ i : Nat, Lib.index r [13, 10] = i ∧ i + 2 ≤ m ∧ Lib.index (r.take m) [13, 10] = i) ∨ ((∀ i : Nat, Lib.index r [13, 10] = i → m < i + 2) ∧ Lib.index (r.take m) [13, 10] = -1) := by
  have occ : ∀ j, j + 2 ≤ m → Lib.occAt (r.take m) [13, 10] j = Lib.occAt r [13, 10] j := by
    intro j hj
    unfold Lib.occAt
    rw [List.drop_take, Bool.eq_iff_iff, List.isPrefixOf_iff_prefix, List.isPrefixOf_iff_prefix]
    constructor
    · intro h; exact h.trans (List.take_prefix _ _)
    · rintro ⟨t, ht⟩
      refine ⟨t.take (m - j - 2), ?_⟩
      obtain ⟨q, hq⟩ : ∃ q, m - j = q + 2 := ⟨m - j - 2, by omega⟩
      rw [← ht, hq, Nat.add_sub_cancel]; rfl
  have none_ : ∀ j, m < j + 2 → Lib.occAt (r.take m) [13, 10] j = false := by
    intro j hj
    rw [Bool.eq_false_iff]; intro e
    rcases Lib.occAt_room e with h | h
    · simp only [List.length_cons, List.length_nil, List.length_take] at h; omega
    · cases h
  rcases Lib.index_spec r [13, 10] with ⟨h1, h2⟩ | ⟨i, h1, h2, h3, h4⟩
  · right
    refine ⟨fun i hi => by omega, Lib.index_none fun j _ => ?_⟩
    by_cases hj : j + 2 ≤ m
    · rw [occ j hj]
      by_cases hl : j ≤ r.length
      · exact h2 j hl
      · rw [Bool.eq_false_iff]; intro e
        rcases Lib.occAt_room e with h | h
        · omega
        · cases h
    · exact none_ j (by omega)
  · by_cases hi : i + 2 ≤ m
    · left
      refine ⟨i, h1, hi, Lib.index_first ?_ (by rw [occ i hi]; exact h3) fun j hj => by rw [occ j (by omega)]; exact h4 j hj⟩
      rcases Lib.occAt_room h3 with h | h
      · simp only [List.length_cons, List.length_nil] at h
        rw [List.length_take]; omega
      · cases h
    · right
      refine ⟨fun i' hi' => by omega, Lib.index_none fun j _ => ?_⟩
      by_cases hj : j + 2 ≤ m
      · rw [occ j hj]; exact h4 j (by omega)
      · exact none_ j (by omega)

/-- a front that is long enough is read as the whole -/
theorem prs_take : ∀ (k : Nat) (c : Option Nat) (acc : List ByteArray) (u m : Nat) (r : List UInt8), 512 * (k + 1) ≤ m → prs k c acc u (r.take m) = prs k c acc u r
  | 0, _, _, _, _, _, _ => rfl
  | k + 1, c, acc, u, m, r, hm => by
    by_cases hr : r.length ≤ m
    · rw [List.take_of_length_le hr]
    · rcases index_take (r := r) (m := m) with ⟨i, h1, h2, h3⟩ | ⟨h1, h2⟩
      · have hl : mk ((r.take m).take i) = mk (r.take i) := by rw [List.take_take, Nat.min_eq_left (by omega)]
        rw [prs_line h3 hl, prs_line h1 rfl]
        by_cases hok : (lineR (mk (r.take i)) && (c == none || c == some (codeN (mk (r.take i))))) = true
        · rw [if_pos hok, if_pos hok]
          have hsz : i ≤ 510 := by
            rw [Bool.and_eq_true] at hok
            have := hok.1
            unfold lineR at this
            rw [Bool.and_eq_true, decide_eq_true_eq, mk_size, List.length_take] at this
            have hi : i ≤ r.length := by
              rcases Lib.index_spec r [13, 10] with ⟨e, _⟩ | ⟨j, e, hj, _⟩ <;> omega
            omega
          have := prs_take k (some (codeN (mk (r.take i)))) (acc ++ [textB (mk (r.take i))]) (u + (i + 2)) (m - (i + 2)) (r.drop (i + 2)) (by omega)
          rw [List.drop_take, this]
        · rw [if_neg hok, if_neg hok]
      · rw [prs_cut h2]
        have hmo : moreN (mk (r.take m)) = false := by
          unfold moreN
          rw [mk_size, List.length_take, decide_eq_false (by omega)]; rfl
        rw [hmo, if_neg (by decide)]
        rcases Lib.index_spec r [13, 10] with ⟨e, _⟩ | ⟨j, e, hj, _⟩
        · rw [prs_cut e]
          have hmo2 : moreN (mk r) = false := by
            unfold moreN
            rw [mk_size, decide_eq_false (by omega)]; rfl
          rw [hmo2, if_neg (by decide)]
        · have hj2 := h1 j e
          rw [prs_line e rfl]
          have : lineR (mk (r.take j)) = false := by
            unfold lineR
            rw [mk_size, List.length_take, decide_eq_false (by omega)]; rfl
          rw [this]; rfl
end Go.Proofs.YtngcjlghjidnjaaGreatDoor
namespace Go.Proofs.YtngcjlghjidnjaaGreatDoor
open Go.ChangeShapes Go.WideShapes Go.ChangeAt Go.RowKit

set_option maxHeartbeats 1000000 in
set_option maxRecDepth 100000 in
theorem implDigit (c : Nat) (w : World) :
    Calls Tryz.prog 136 #[.int .u8 (c : Int)] w fun e w' => e = .returned (.bool (digN c)) ∧ w' = w := by
  go_enter Tryz.func136, Tryz.ntmps136
  go_wp2
  all_goals go_ret
  all_goals refine ⟨ret_bool ?_, rfl⟩
  all_goals (rw [Bool.eq_iff_iff]; simp [digN]; try omega)
end Go.Proofs.YtngcjlghjidnjaaGreatDoor
