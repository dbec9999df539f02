/-
  The walk of the statement DistBack: it returns true for every distance and every text.
-/
import Derived.Test.YtcpbnmboeafloaaDoorRparse
namespace Go.Proofs.YtcpbnmboeafloaaDoor
open Go.RowKit
open Go.Lib (decDigits parseUintM parseUintB NumEnd)
theorem pm_digit {acc d : Nat} {r : List UInt8} (hd : d < 10) (h : acc * 10 + d ≤ 18446744073709551615) : parseUintM 18446744073709551615 acc (UInt8.ofNat (48 + d) :: r) = parseUintM 18446744073709551615 (acc * 10 + d) r := by
  have e : (UInt8.ofNat (48 + d)).toNat = 48 + d := by rw [UInt8.toNat_ofNat']; omega
  conv => lhs; unfold parseUintM
  rw [e, if_pos (by omega), if_neg (by omega), if_neg (by omega), show 48 + d - 48 = d by omega]
theorem pm_dec (u : Nat) (h : u ≤ 18446744073709551615) (r : List UInt8) : parseUintM 18446744073709551615 0 (decDigits u ++ r) = parseUintM 18446744073709551615 u r := by
  induction u using Nat.strongRecOn generalizing r with
  | _ u ih =>
    by_cases h10 : u < 10
    · rw [Lib.decDigits_one h10]
      show parseUintM _ 0 (UInt8.ofNat (48 + u) :: r) = _
      rw [pm_digit h10 (by omega)]
      rw [show 0 * 10 + u = u by omega]
    · rw [decDigits, dif_neg h10, List.append_assoc, ih (u / 10) (by omega) (by omega)]
      show parseUintM _ (u / 10) (UInt8.ofNat (48 + u % 10) :: r) = _
      rw [pm_digit (Nat.mod_lt _ (by omega)) (by omega)]
      rw [show u / 10 * 10 + u % 10 = u by omega]
theorem dec_ne (u : Nat) : decDigits u ≠ [] := by
  intro e
  have := Lib.decDigits_length u
  rw [e] at this
  have h1 := Lib.nDigits_pos u
  simp at this
  omega
theorem pb_dec (u : Nat) (h : u ≤ 18446744073709551615) : parseUintB 64 (decDigits u) = .ok u := by
  unfold parseUintB
  rw [if_neg (dec_ne u)]
  have := pm_dec u h []
  rw [List.append_nil] at this
  exact this
theorem dec_head (u : Nat) : ∃ d r, d < 10 ∧ decDigits u = UInt8.ofNat (48 + d) :: r := by
  induction u using Nat.strongRecOn with
  | _ u ih =>
    by_cases h10 : u < 10
    · exact ⟨u, [], h10, Lib.decDigits_one h10⟩
    · obtain ⟨d, r, hd, e⟩ := ih (u / 10) (by omega)
      rw [decDigits, dif_neg h10, e]
      exact ⟨d, _, hd, rfl⟩
theorem dec_no_inf (u : Nat) : decDigits u ≠ [105, 110, 102] := by
  obtain ⟨d, r, hd, e⟩ := dec_head u
  rw [e]
  intro h
  have h1 : UInt8.ofNat (48 + d) = 105 := (List.cons.inj h).1
  have h2 := congrArg UInt8.toNat h1
  rw [UInt8.toNat_ofNat'] at h2
  have h3 : (105 : UInt8).toNat = 105 := rfl
  omega
theorem parse_text (u : Nat) (h : u < 18446744073709551616) : parseD (textD u) = (u, 0) := by
  by_cases hi : u = 18446744073709551615
  · subst hi; exact parseD_inf
  · have e : textD u = decDigits u := if_neg hi
    have h20 := dec_le20 h
    rw [e, parseD_ok (by omega) (dec_no_inf u) (pb_dec u (by omega)), if_pos ⟨rfl, hi⟩]
theorem parseD_back (s : List UInt8) : (parseD s).1 < 18446744073709551616 ∧ ((parseD s).2 = 0 ∧ textD (parseD s).1 = s ∨ (parseD s).2 ≠ 0 ∧ (parseD s).1 = 0) := by
  by_cases hl : 262144 < s.length
  · rw [parseD_long hl]; exact ⟨by omega, Or.inr ⟨by decide, rfl⟩⟩
  · by_cases hi : s = [105, 110, 102]
    · subst hi; rw [parseD_inf]; exact ⟨by omega, Or.inl ⟨rfl, rfl⟩⟩
    · by_cases hp : ∃ u, parseUintB 64 s = .ok u
      · obtain ⟨u, hu⟩ := hp
        rw [parseD_ok (by omega) hi hu]
        split
        · rename_i h; exact ⟨parseUintB_lt hu, Or.inl ⟨rfl, (textD_iff hi u).2 h⟩⟩
        · exact ⟨by show 0 < _; omega, Or.inr ⟨by decide, rfl⟩⟩
      · rw [parseD_no (by omega) hi (fun u hu => hp ⟨u, hu⟩)]; exact ⟨by omega, Or.inr ⟨by decide, rfl⟩⟩
theorem parse_text_any (u : Nat) (h : u < 18446744073709551616) (w : World) (he : Errs w) (htab : Tab w) :
    Calls Tryd.prog 25 #[.string ⟨(textD u).toArray⟩] w fun e w' => e = .returned (.tuple #[.int .u64 u, .agg #[.int .i64 0, .int .i64 0]]) ∧ Below w.heap.size w w' := by
  have h20 : (textD u).length ≤ 20 := by
    by_cases hi : u = 18446744073709551615
    · subst hi; decide
    · rw [show textD u = decDigits u from if_neg hi]; exact dec_le20 h
  have hp := parse_any ⟨(textD u).toArray⟩ (by rw [← size_list]; show (textD u).length ≤ _; omega) w he htab
  unfold parseV at hp
  rw [show (⟨(textD u).toArray⟩ : ByteArray).data.toList = textD u from rfl, parse_text u h] at hp
  exact hp
set_option maxHeartbeats 400000 in
theorem law_back (u : Nat) (hu : u < 18446744073709551616) (s : ByteArray) (hs : s.size ≤ 9223372036854775807) (w : World) (he : Errs w) (htab : Tab w) :
    Calls Tryd.prog 8 #[.int .u64 u, .string s] w fun e w' => e = .returned (.bool true) ∧ Below w.heap.size w w' := by
  have hp := fun w he ht => parse_any s hs w he ht
  unfold parseV at hp
  obtain ⟨hn, hd⟩ := parseD_back s.data.toList
  generalize (parseD s.data.toList).1 = n at hp hn hd
  generalize (parseD s.data.toList).2 = c at hp hd
  have HP := Lib.hid hp
  have HD := Lib.hid hd
  clear hp hd
  go_enter Tryd.func8, Tryd.ntmps8
  go_wp2_with fail
  refine (text_any u hu _ htab).mono ?_
  rintro e w1 ⟨rfl, hb1⟩
  go_wp2_with fail
  refine (parse_text_any u hu _ (he.on hb1) (htab.on hb1)).mono ?_
  rintro e w2 ⟨rfl, hb2⟩
  go_wp2_with fail
  refine (works_any _).mono ?_
  rintro e w3 ⟨rfl, hb3⟩
  have z3 : w2.heap.size + 1 ≤ w3.heap.size := by have := hb3.size; simp at this; omega
  have f1 : ∀ o, w3.cell? ⟨w2.heap.size, o, none⟩ = (w2.alloc (.cells #[.int .i64 0, .int .i64 0] 43)).cell? ⟨w2.heap.size, o, none⟩ := fun o => hb3.cell (by simp)
  have b3 : Below w.heap.size w w3 := by
    have s1 := hb1.size
    have s2 := hb2.size
    exact (((hb1.trans (hb2.mono s1)).alloc (by omega) _).trans (hb3.mono (by simp; omega)))
  go_wp2_with fail
  refine (HP.out _ (he.on b3) (htab.on b3)).mono ?_
  rintro e w4 ⟨rfl, hb4⟩
  rcases HD.out with ⟨hc0, htx⟩ | ⟨hc0, hn0⟩
  · subst hc0
    have htt : ((⟨(textD n).toArray⟩ : ByteArray).toList == s.toList) = true := by rw [text_beq]; exact decide_eq_true htx
    have HT := Lib.hid htt
    clear htx HD htt
    have b4 := b3.trans (hb4.mono b3.size)
    go_wp2_with fail
    refine (text_any n hn _ ((htab.on b4).on ((Below.refl _ _).alloc (Nat.le_refl _) _))).mono ?_
    rintro e w5 ⟨rfl, hb5⟩
    have htt := HT.out
    clear HT
    generalize (⟨(textD n).toArray⟩ : ByteArray) = t at *
    go_wp2_with fail
    go_ret
    exact ⟨rfl, (b4.alloc b4.size _).trans (hb5.mono (by have := b4.size; simp; omega))⟩
  · subst hn0
    clear HD
    have hcb : (c == 0) = false := beq_eq_false_iff_ne.2 hc0
    have b4 := b3.trans (hb4.mono b3.size)
    go_wp2_with fail
    go_ret
    exact ⟨rfl, b4.alloc b4.size _⟩
end Go.Proofs.YtcpbnmboeafloaaDoor
