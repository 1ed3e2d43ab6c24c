namespace Go.Proofs.YtnbbhegcijogiaaDoor.Crc
/-- one bit of the register's rule -/
def bit (r : Nat) : Nat := if r % 2 = 1 then r / 2 ^^^ 3988292384 else r / 2
def bitN : Nat → Nat → Nat
  | 0, r => r
  | n + 1, r => bit (bitN n r)
def tabL : List Nat := [0, 498536548, 997073096, 651767980, 1994146192, 1802195444, 1303535960, 1342533948, 3988292384, 4027552580, 3604390888, 3412177804, 2607071920, 2262029012, 2685067896, 3183342108]
def tab (i : Nat) : Nat := tabL.getD i 0
def nib (r : Nat) : Nat := r / 16 ^^^ tab (r % 16)
theorem bit_even {x c : Nat} (hc : c % 2 = 0) : (x ^^^ c) % 2 = x % 2 := by
  have := @Nat.xor_mod_two_pow x c 1
  simp only [Nat.pow_one] at this
  rw [this, hc, Nat.xor_zero]
theorem four (r : Nat) : bit (bit (bit (bit r))) = nib r := by
  have e16 : r / 2 / 2 / 2 / 2 = r / 16 := by omega
  rcases Nat.mod_two_eq_zero_or_one r with h0 | h0 <;> rcases Nat.mod_two_eq_zero_or_one (r / 2) with h1 | h1 <;> rcases Nat.mod_two_eq_zero_or_one (r / 2 / 2) with h2 | h2 <;> rcases Nat.mod_two_eq_zero_or_one (r / 2 / 2 / 2) with h3 | h3
  all_goals
    simp [bit, h0, h1, h2, h3, Nat.xor_div_two, bit_even, Nat.xor_assoc, e16]
    unfold nib
  · rw [show r % 16 = 0 by omega]; simp [tab, tabL]
  · rw [show r % 16 = 8 by omega]; simp [tab, tabL]
  · rw [show r % 16 = 4 by omega]; simp [tab, tabL]
  · rw [show r % 16 = 12 by omega]; simp [tab, tabL]
  · rw [show r % 16 = 2 by omega]; simp [tab, tabL]
  · rw [show r % 16 = 10 by omega]; simp [tab, tabL]
  · rw [show r % 16 = 6 by omega]; simp [tab, tabL]
  · rw [show r % 16 = 14 by omega]; simp [tab, tabL]
  · rw [show r % 16 = 1 by omega]; simp [tab, tabL]
  · rw [show r % 16 = 9 by omega]; simp [tab, tabL]
  · rw [show r % 16 = 5 by omega]; simp [tab, tabL]
  · rw [show r % 16 = 13 by omega]; simp [tab, tabL]
  · rw [show r % 16 = 3 by omega]; simp [tab, tabL]
  · rw [show r % 16 = 11 by omega]; simp [tab, tabL]
  · rw [show r % 16 = 7 by omega]; simp [tab, tabL]
  · rw [show r % 16 = 15 by omega]; simp [tab, tabL]
theorem eight (r : Nat) : bitN 8 r = nib (nib r) := by
  show bit (bit (bit (bit (bit (bit (bit (bit r))))))) = _
  rw [four r]; exact four (nib r)
theorem xor_lt {a b : Nat} (ha : a < 4294967296) (hb : b < 4294967296) : a ^^^ b < 4294967296 := Nat.xor_lt_two_pow (n := 32) ha hb
theorem bit_lt {r : Nat} (h : r < 4294967296) : bit r < 4294967296 := by
  unfold bit
  split
  · exact xor_lt (by omega) (by omega)
  · omega
theorem bitN_lt {r : Nat} (h : r < 4294967296) : ∀ n, bitN n r < 4294967296
  | 0 => h
  | n + 1 => bit_lt (bitN_lt h n)
/-- the register behind the bytes -/
def reg (l : List UInt8) : Nat := l.foldl (fun r b => bitN 8 (r ^^^ b.toNat)) 4294967295
def crc (l : List UInt8) : Nat := reg l ^^^ 4294967295
theorem reg_snoc (l : List UInt8) (b : UInt8) : reg (l ++ [b]) = bitN 8 (reg l ^^^ b.toNat) := by simp [reg]
theorem byte_lt (b : UInt8) : b.toNat < 4294967296 := Nat.lt_of_lt_of_le b.toNat_lt (by decide)
theorem reg_lt (l : List UInt8) : reg l < 4294967296 := by
  unfold reg
  suffices h : ∀ (l : List UInt8) (r : Nat), r < 4294967296 → l.foldl (fun r b => bitN 8 (r ^^^ b.toNat)) r < 4294967296 from h l _ (by decide)
  intro l
  induction l with
  | nil => intro r h; exact h
  | cons b l ih => intro r h; exact ih _ (bitN_lt (xor_lt h (byte_lt b)) 8)
theorem crc_lt (l : List UInt8) : crc l < 4294967296 := xor_lt (reg_lt l) (by decide)
theorem tab_lt (i : Nat) : tab i < 4294967296 := by
  unfold tab
  by_cases h : i < 16
  · have : ∀ i < 16, tabL.getD i 0 < 4294967296 := by decide
    exact this i h
  · have e : tabL.getD i 0 = 0 := by rw [List.getD_eq_getElem?_getD, List.getElem?_eq_none (by simp [tabL]; omega)]; rfl
    rw [e]; decide
theorem nib_lt {r : Nat} (h : r < 4294967296) : nib r < 4294967296 := xor_lt (by omega) (tab_lt _)
theorem take_snoc (s : ByteArray) (k : Nat) (h : k < s.size) : s.data.toList.take (k + 1) = s.data.toList.take k ++ [s[k]] := by
  rw [List.take_succ_eq_append_getElem (by simpa using h)]; rfl
theorem reg_take (s : ByteArray) (k : Nat) (h : k < s.size) : reg (s.data.toList.take (k + 1)) = bitN 8 (reg (s.data.toList.take k) ^^^ s[k].toNat) := by
  rw [take_snoc s k h, reg_snoc]
end Go.Proofs.YtnbbhegcijogiaaDoor.Crc
