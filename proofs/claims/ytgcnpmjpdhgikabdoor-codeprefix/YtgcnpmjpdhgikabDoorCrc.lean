/-
  Plain mathematics of the sum of bytes (CRC-32): no program in it.
-/
namespace Go.Proofs.YtgcnpmjpdhgikabDoor
theorem xor_left (a b c : Nat) : a ^^^ (b ^^^ c) = b ^^^ (a ^^^ c) := by rw [← Nat.xor_assoc, ← Nat.xor_assoc, Nat.xor_comm a b]
theorem xor_twice (a b : Nat) : a ^^^ (a ^^^ b) = b := by rw [← Nat.xor_assoc, Nat.xor_self, Nat.zero_xor]
theorem xor_eq_zero {a b : Nat} (h : a ^^^ b = 0) : a = b := by
  have := xor_twice a b
  rw [h, Nat.xor_zero] at this
  exact this
theorem xor_half (a b : Nat) : (a ^^^ b) / 2 = a / 2 ^^^ b / 2 := Nat.xor_div_two_pow (n := 1)
/-- One bit taken off a sum. -/
def bitS (s : Nat) : Nat := if s % 2 = 1 then s / 2 ^^^ 3988292384 else s / 2
theorem bitS_xor (a b : Nat) : bitS (a ^^^ b) = bitS a ^^^ bitS b := by
  unfold bitS
  have h := @Nat.xor_mod_two_eq_one a b
  rw [xor_half]
  by_cases ha : a % 2 = 1 <;> by_cases hb : b % 2 = 1
  · rw [if_neg (by rw [h]; simp [ha, hb]), if_pos ha, if_pos hb, Nat.xor_assoc (a / 2), xor_left 3988292384 (b / 2), Nat.xor_self, Nat.xor_zero]
  · rw [if_pos (by rw [h]; simp [ha, hb]), if_pos ha, if_neg hb, Nat.xor_assoc, Nat.xor_assoc, Nat.xor_comm (b / 2)]
  · rw [if_pos (by rw [h]; simp [ha, hb]), if_neg ha, if_pos hb, Nat.xor_assoc]
  · rw [if_neg (by rw [h]; simp [ha, hb]), if_neg ha, if_neg hb]
theorem bitS_double (x : Nat) : bitS (2 * x) = x := by
  unfold bitS
  rw [if_neg (by omega)]; omega
theorem bitS_lt {s : Nat} (h : s < 4294967296) : bitS s < 4294967296 := by
  unfold bitS
  split
  · exact Nat.xor_lt_two_pow (n := 32) (by omega) (by omega)
  · omega
theorem bitS_zero {s : Nat} (h : s < 4294967296) (h0 : bitS s = 0) : s = 0 := by
  unfold bitS at h0
  split at h0
  · have := xor_eq_zero h0
    omega
  · omega
/-- Four bits taken off a sum. -/
def bit4 (s : Nat) : Nat := bitS (bitS (bitS (bitS s)))
/-- What four bits do to a sum. -/
def hTab : List Nat := [0, 498536548, 997073096, 651767980, 1994146192, 1802195444, 1303535960, 1342533948, 3988292384, 4027552580, 3604390888, 3412177804, 2607071920, 2262029012, 2685067896, 3183342108]
theorem bit4_xor (a b : Nat) : bit4 (a ^^^ b) = bit4 a ^^^ bit4 b := by
  unfold bit4
  rw [bitS_xor, bitS_xor, bitS_xor, bitS_xor]
theorem bit4_high (q : Nat) : bit4 (16 * q) = q := by
  unfold bit4
  rw [show 16 * q = 2 * (2 * (2 * (2 * q))) by omega, bitS_double, bitS_double, bitS_double, bitS_double]
theorem bit4_low : ∀ r : Fin 16, bit4 r.1 = hTab.getD r.1 0 := by decide
theorem bit4_eq (s : Nat) : bit4 s = s / 16 ^^^ hTab.getD (s % 16) 0 := by
  have hs : s = 16 * (s / 16) ^^^ s % 16 := by
    apply Nat.eq_of_testBit_eq
    intro i
    rw [Nat.testBit_xor, show (16 : Nat) = 2 ^ 4 from rfl, Nat.testBit_two_pow_mul, Nat.testBit_div_two_pow, Nat.testBit_mod_two_pow]
    by_cases hi : i < 4
    · simp [hi, Nat.not_le.2 hi]
    · have h4 : 4 ≤ i := by omega
      simp [hi, h4]
  have h1 : bit4 s = bit4 (16 * (s / 16) ^^^ s % 16) := by rw [← hs]
  rw [h1, bit4_xor, bit4_high, bit4_low ⟨s % 16, by omega⟩]
theorem hTab_lt : ∀ r : Fin 16, hTab.getD r.1 0 < 4294967296 := by decide
theorem bit4_lt {s : Nat} (h : s < 4294967296) : bit4 s < 4294967296 := bitS_lt (bitS_lt (bitS_lt (bitS_lt h)))
theorem bit4_zero {s : Nat} (h : s < 4294967296) (h0 : bit4 s = 0) : s = 0 :=
  bitS_zero h (bitS_zero (bitS_lt h) (bitS_zero (bitS_lt (bitS_lt h)) (bitS_zero (bitS_lt (bitS_lt (bitS_lt h))) h0)))
/-- A byte put to a sum. -/
def byteS (s b : Nat) : Nat := bit4 (bit4 (s ^^^ b))
theorem byteS_lt {s b : Nat} (hs : s < 4294967296) (hb : b < 256) : byteS s b < 4294967296 :=
  bit4_lt (bit4_lt (Nat.xor_lt_two_pow (n := 32) (by omega) (by omega)))
theorem byteS_xor (s t a b : Nat) : byteS (s ^^^ t) (a ^^^ b) = byteS s a ^^^ byteS t b := by
  unfold byteS
  rw [← bit4_xor, ← bit4_xor]
  congr 2
  rw [Nat.xor_assoc, Nat.xor_assoc, xor_left t a b]
theorem byteS_inj {s t a b : Nat} (hs : s < 4294967296) (ht : t < 4294967296) (ha : a < 256) (hb : b < 256) (h : byteS s a = byteS t b) : s ^^^ a = t ^^^ b := by
  have h0 : byteS (s ^^^ t) (a ^^^ b) = 0 := by rw [byteS_xor, h, Nat.xor_self]
  have h1 : (s ^^^ t) ^^^ (a ^^^ b) < 4294967296 := Nat.xor_lt_two_pow (n := 32) (Nat.xor_lt_two_pow (n := 32) hs ht) (Nat.xor_lt_two_pow (n := 32) (by omega) (by omega))
  have h2 := bit4_zero h1 (bit4_zero (bit4_lt h1) h0)
  apply xor_eq_zero
  rw [← h2, Nat.xor_assoc, Nat.xor_assoc, xor_left a t b]
/-- Bytes put to a sum, one behind the other. -/
def crcS (s : Nat) (l : List UInt8) : Nat := l.foldl (fun s b => byteS s b.toNat) s
theorem crcS_nil (s : Nat) : crcS s [] = s := rfl
theorem crcS_cons (s : Nat) (b : UInt8) (l : List UInt8) : crcS s (b :: l) = crcS (byteS s b.toNat) l := rfl
theorem crcS_append (s : Nat) (l m : List UInt8) : crcS s (l ++ m) = crcS (crcS s l) m := List.foldl_append ..
theorem crcS_lt (l : List UInt8) : ∀ {s : Nat}, s < 4294967296 → crcS s l < 4294967296 := by
  induction l with
  | nil => intro s h; exact h
  | cons b l ih => intro s h; exact ih (byteS_lt h b.toNat_lt)
theorem crcS_take (l : List UInt8) (s k : Nat) (hk : k < l.length) : crcS s (l.take (k + 1)) = byteS (crcS s (l.take k)) (l.getD k 0).toNat := by
  rw [List.take_add_one, List.getElem?_eq_getElem hk, crcS_append]
  simp [List.getD, List.getElem?_eq_getElem hk, crcS]
theorem crcS_xor (l m : List UInt8) (h : l.length = m.length) : ∀ s t : Nat, crcS (s ^^^ t) (List.zipWith (· ^^^ ·) l m) = crcS s l ^^^ crcS t m := by
  induction l generalizing m with
  | nil => intro s t; cases m with
    | nil => rfl
    | cons => simp at h
  | cons a l ih => intro s t; cases m with
    | nil => simp at h
    | cons b m =>
      rw [List.zipWith_cons_cons, crcS_cons, crcS_cons, crcS_cons, UInt8.toNat_xor, byteS_xor]
      exact ih m (by simpa using h) _ _
theorem crcS_inj (l : List UInt8) : ∀ {s t : Nat}, s < 4294967296 → t < 4294967296 → crcS s l = crcS t l → s = t := by
  induction l with
  | nil => intro s t _ _ h; exact h
  | cons b l ih =>
    intro s t hs ht h
    have h1 := byteS_inj hs ht b.toNat_lt b.toNat_lt (ih (byteS_lt hs b.toNat_lt) (byteS_lt ht b.toNat_lt) h)
    have h2 := congrArg (fun x => b.toNat ^^^ x) h1
    simp only [Nat.xor_comm _ b.toNat, xor_twice] at h2
    exact h2
/-- The sum of bytes. -/
def crcD (l : List UInt8) : Nat := crcS 4294967295 l ^^^ 4294967295
theorem crcD_lt (l : List UInt8) : crcD l < 4294967296 := Nat.xor_lt_two_pow (n := 32) (crcS_lt l (by decide)) (by decide)
/-- The sum of bytes' differences. -/
theorem crcD_xor (l m : List UInt8) (h : l.length = m.length) : crcD (List.zipWith (· ^^^ ·) l m) = crcD l ^^^ crcD m ^^^ crcD (List.replicate l.length 0) := by
  unfold crcD
  have e1 : List.zipWith (· ^^^ ·) (List.zipWith (· ^^^ ·) l m) (List.replicate l.length (0 : UInt8)) = List.zipWith (· ^^^ ·) l m := by
    apply List.ext_getElem
    · simp [h]
    · intro i h1 h2
      simp
  have e2 := crcS_xor (List.zipWith (· ^^^ ·) l m) (List.replicate l.length (0 : UInt8)) (by simp [h]) (4294967295 ^^^ 4294967295) 4294967295
  rw [e1, crcS_xor l m h 4294967295 4294967295, show (4294967295 ^^^ 4294967295) ^^^ 4294967295 = 4294967295 from rfl] at e2
  rw [e2]
  generalize crcS 4294967295 l = x
  generalize crcS 4294967295 m = y
  generalize crcS 4294967295 (List.replicate l.length 0) = z
  generalize 4294967295 = o
  rw [Nat.xor_assoc x o, xor_left o y o, Nat.xor_self, Nat.xor_zero, Nat.xor_assoc (x ^^^ y) z o]
/-- Where one byte is another one, the sum is another one. -/
theorem crcD_torn (l m : List UInt8) (a b : UInt8) (h : a ≠ b) : crcD (l ++ a :: m) ≠ crcD (l ++ b :: m) := by
  intro e
  unfold crcD at e
  have e1 : crcS 4294967295 (l ++ a :: m) = crcS 4294967295 (l ++ b :: m) := by
    have h2 := congrArg (fun x => 4294967295 ^^^ x) e
    simp only [Nat.xor_comm _ 4294967295, xor_twice] at h2
    exact h2
  rw [crcS_append, crcS_append, crcS_cons, crcS_cons] at e1
  have hl := crcS_lt l (s := 4294967295) (by decide)
  have e2 := byteS_inj hl hl a.toNat_lt b.toNat_lt (crcS_inj m (byteS_lt hl a.toNat_lt) (byteS_lt hl b.toNat_lt) e1)
  have e3 := congrArg (fun x => crcS 4294967295 l ^^^ x) e2
  simp only [xor_twice] at e3
  exact h (UInt8.toNat_inj.1 e3)
theorem crcD_example : crcD [49, 50, 51, 52, 53, 54, 55, 56, 57] = 3421780262 := by decide +kernel
end Go.Proofs.YtgcnpmjpdhgikabDoor
