/-
  Contracts of (*Net).Copy, Lose, Take.
-/
import Derived.Test.YtfhlfklgngpklaaDrp
namespace Go.Proofs.Ytfhlfklgngpklaa
open Go.RowKit Go.Maps
theorem let_ok {S : NS} {p : Pr} {i : Int} (he : letE S p i = 0) : In S.N p ∧ ∃ j : Nat, i = j ∧ j < (S.bg p).length ∧ letS S p i = (S.bg p).getD j ⟨#[]⟩ := by
  unfold letE at he
  by_cases hl : lkB S.N p = true
  · rw [if_pos hl] at he
    by_cases hk : 0 ≤ i ∧ i < (S.bg p).length
    · obtain ⟨j, rfl⟩ := Int.eq_ofNat_of_zero_le hk.1
      have hI : In S.N p := by unfold lkB at hl; simpa using hl
      refine ⟨hI, j, rfl, by omega, ?_⟩
      unfold letS
      rw [if_pos hl, if_pos hk]
      rfl
    · rw [if_neg hk] at he
      cases he
  · rw [if_neg hl] at he
    cases he
theorem getD_mem {l : List ByteArray} {j : Nat} (h : j < l.length) : l.getD j ⟨#[]⟩ ∈ l := by
  rw [List.getD, List.getElem?_eq_getElem h]
  exact List.getElem_mem h
/-- What Copy, Lose and Take answer and leave. -/
def cpE (S : NS) (p : Pr) (i : Int) : Int := if letE S p i = 0 then putE S p else letE S p i
def cpS (S : NS) (p : Pr) (i : Int) : NS := if letE S p i = 0 then putS S p (letS S p i) else S
def loE (S : NS) (p : Pr) (i : Int) : Int := letE S p i
def loS (S : NS) (p : Pr) (i : Int) : NS := if letE S p i = 0 then S.set p ((S.bg p).eraseIdx i.toNat) else S
def tkE (S : NS) (p : Pr) (i : Int) : Int := if letE S p i = 0 then (if isDn S p.b = true then 191 else 0) else letE S p i
def tkT (S : NS) (p : Pr) (i : Int) : ByteArray := if letE S p i = 0 then (if isDn S p.b = true then ⟨#[]⟩ else letS S p i) else ⟨#[]⟩
def tkS (S : NS) (p : Pr) (i : Int) : NS := if letE S p i = 0 then (if isDn S p.b = true then S else S.set p ((S.bg p).eraseIdx i.toNat)) else S
section
variable {w : World} {n : Nat} {P : Nat → Prop} {S : NS} {db mb : Nat} {tv : Value} {sv : Pr → Value} {D : DataW Unit} {k : Nat}
set_option maxRecDepth 100000 in
set_option maxHeartbeats 1600000 in
theorem Copy_any (h : NTx w n P S db mb tv sv D k) (p : Pr) (i : Int) :
    Calls Try.prog 15 #[.pointer (some ⟨n, 0, none⟩), .int .i64 p.a, .int .i64 p.b, .int .i64 i] w fun e w' => e = .returned (.int .i64 (cpE S p i)) ∧ To w w' n P (cpS S p i) := by
  have hb1 : Below w.heap.size w (w.alloc (.cells #[.int .i64 p.a, .int .i64 p.b] 64)) := (Below.refl _ _).alloc (Nat.le_refl _) _
  have h1 := h.on_ hb1
  have HL := Lib.hid (letter_any h1 p i)
  have HN := Lib.hid h.nt
  have HB1 := Lib.hid hb1
  have HSZ : Hid (w.heap.size < (w.alloc (.cells #[.int .i64 p.a, .int .i64 p.b] 64)).heap.size) := Lib.hid (by simp)
  have H1 := Lib.hid h1
  have HY := Lib.hid (boxed w (.int .i64 p.a) (.int .i64 p.b))
  unfold cpE cpS
  by_cases he : letE S p i = 0
  · rw [if_pos he, if_pos he]
    rw [he] at HL
    obtain ⟨hI, j, rfl, hj, hs⟩ := let_ok he
    rw [hs] at HL ⊢
    have hm := (h.short p hI).2 _ (getD_mem hj)
    have HM := Lib.hid hm
    generalize (S.bg p).getD j ⟨#[]⟩ = s at *
    have HI := Lib.hid hI
    clear h1 h hb1 hI he hs hj hm
    go_enter Try.func15, Try.ntmps15
    go_wp2_with fail
    refine HL.out.mono ?_
    rintro e w1 ⟨rfl, hb⟩
    have k1 := H1.out.on_ hb
    have y0 := (hb.cell (p := ⟨w.heap.size, 0, none⟩) HSZ.out).trans HY.out.1
    have y1 := (hb.cell (p := ⟨w.heap.size, 1, none⟩) HSZ.out).trans HY.out.2
    have HB := Lib.hid (bthen HB1.out hb (by have := HSZ.out; omega))
    have HP := Lib.hid (put_any k1 p HI.out s HM.out)
    clear hb k1 H1 HY HL HSZ HB1 HN
    go_wp2_with fail
    refine HP.out.mono ?_
    rintro e w2 ⟨rfl, h2⟩
    have HT := Lib.hid h2
    clear h2 y0 y1
    go_wp2_with fail
    go_ret
    exact ⟨rfl, HT.out.before HB.out⟩
  · rw [if_neg he, if_neg he]
    generalize letE S p i = E at *
    generalize letS S p i = T at *
    clear h1 h hb1 H1 HY
    go_enter Try.func15, Try.ntmps15
    go_wp2_with fail
    refine HL.out.mono ?_
    rintro e w1 ⟨rfl, hb⟩
    have HB := Lib.hid hb
    clear hb
    go_wp2_with fail
    go_ret
    exact ⟨rfl, HN.out.to (bthen HB1.out HB.out (by have := HSZ.out; omega))⟩
set_option maxRecDepth 100000 in
set_option maxHeartbeats 1600000 in
theorem Lose_any (h : NTx w n P S db mb tv sv D k) (p : Pr) (i : Int) :
    Calls Try.prog 18 #[.pointer (some ⟨n, 0, none⟩), .int .i64 p.a, .int .i64 p.b, .int .i64 i] w fun e w' => e = .returned (.int .i64 (loE S p i)) ∧ To w w' n P (loS S p i) := by
  have hb1 : Below w.heap.size w (w.alloc (.cells #[.int .i64 p.a, .int .i64 p.b] 64)) := (Below.refl _ _).alloc (Nat.le_refl _) _
  have h1 := h.on_ hb1
  have HL := Lib.hid (letter_any h1 p i)
  have HN := Lib.hid h.nt
  have HB1 := Lib.hid hb1
  have HSZ : Hid (w.heap.size < (w.alloc (.cells #[.int .i64 p.a, .int .i64 p.b] 64)).heap.size) := Lib.hid (by simp)
  have H1 := Lib.hid h1
  have HY := Lib.hid (boxed w (.int .i64 p.a) (.int .i64 p.b))
  unfold loE loS
  by_cases he : letE S p i = 0
  · rw [if_pos he, he]
    rw [he] at HL
    obtain ⟨hI, j, rfl, hj, hs⟩ := let_ok he
    have HI := Lib.hid hI
    have HJ := Lib.hid hj
    rw [show ((j : Int)).toNat = j from rfl]
    generalize letS S p j = s at *
    clear h1 h hb1 hI he hs hj
    go_enter Try.func18, Try.ntmps18
    go_wp2_with fail
    refine HL.out.mono ?_
    rintro e w1 ⟨rfl, hb⟩
    have k1 := H1.out.on_ hb
    have y0 := (hb.cell (p := ⟨w.heap.size, 0, none⟩) HSZ.out).trans HY.out.1
    have y1 := (hb.cell (p := ⟨w.heap.size, 1, none⟩) HSZ.out).trans HY.out.2
    have HB := Lib.hid (bthen HB1.out hb (by have := HSZ.out; omega))
    have HP := Lib.hid (drop_any k1 p HI.out j HJ.out)
    clear hb k1 H1 HY HL HSZ HB1 HN
    go_wp2_with fail
    refine HP.out.mono ?_
    rintro e w2 ⟨rfl, h2⟩
    have HT := Lib.hid h2
    clear h2 y0 y1
    go_wp2_with fail
    go_ret
    exact ⟨rfl, HT.out.before HB.out⟩
  · rw [if_neg he]
    generalize letE S p i = E at *
    generalize letS S p i = T at *
    clear h1 h hb1 H1 HY
    go_enter Try.func18, Try.ntmps18
    go_wp2_with fail
    refine HL.out.mono ?_
    rintro e w1 ⟨rfl, hb⟩
    have HB := Lib.hid hb
    clear hb
    go_wp2_with fail
    go_ret
    exact ⟨rfl, HN.out.to (bthen HB1.out HB.out (by have := HSZ.out; omega))⟩
set_option maxRecDepth 100000 in
set_option maxHeartbeats 1600000 in
theorem Take_any (h : NTx w n P S db mb tv sv D k) (p : Pr) (i : Int) :
    Calls Try.prog 16 #[.pointer (some ⟨n, 0, none⟩), .int .i64 p.a, .int .i64 p.b, .int .i64 i] w fun e w' => e = .returned (.tuple #[.string (tkT S p i), .int .i64 (tkE S p i)]) ∧ To w w' n P (tkS S p i) := by
  have hb1 : Below w.heap.size w (w.alloc (.cells #[.int .i64 p.a, .int .i64 p.b] 64)) := (Below.refl _ _).alloc (Nat.le_refl _) _
  have h1 := h.on_ hb1
  have HL := Lib.hid (letter_any h1 p i)
  have HN := Lib.hid h.nt
  have HB1 := Lib.hid hb1
  have HSZ : Hid (w.heap.size < (w.alloc (.cells #[.int .i64 p.a, .int .i64 p.b] 64)).heap.size) := Lib.hid (by simp)
  have H1 := Lib.hid h1
  have HY := Lib.hid (boxed w (.int .i64 p.a) (.int .i64 p.b))
  unfold tkE tkS tkT
  by_cases he : letE S p i = 0
  · rw [if_pos he, if_pos he, if_pos he]
    rw [he] at HL
    obtain ⟨hI, j, rfl, hj, hs⟩ := let_ok he
    rw [hs] at HL ⊢
    have HM := Lib.hid ((h.short p hI).2 _ (getD_mem hj))
    rw [show ((j : Int)).toNat = j from rfl]
    generalize (S.bg p).getD j ⟨#[]⟩ = s at *
    obtain ⟨a, b⟩ := p
    obtain ⟨i2, rfl⟩ := Int.eq_ofNat_of_zero_le hI.2.2.1
    have hi : i2 < S.N := by have := hI.2.2.2.1; simp only at this; omega
    have HI := Lib.hid hI
    have HJ := Lib.hid hj
    clear h1 h hb1 hI he hs hj
    by_cases hd : isDn S (i2 : Int) = true
    · rw [if_pos hd, if_pos hd, if_pos hd]
      have HD := Lib.hid hd
      clear hd
      go_enter Try.func16, Try.ntmps16
      go_wp2_with fail
      refine HL.out.mono ?_
      rintro e w1 ⟨rfl, hb⟩
      have k1 := H1.out.on_ hb
      obtain ⟨c0, c1, c2, c3⟩ := (cells4 k1.hn).1
      have z := k1.dnc i2 hi
      rw [HD.out] at z
      have HB := Lib.hid hb
      clear hb k1 c1 c2 c3
      go_wp2_with fail
      go_ret2
      exact ⟨rfl, HN.out.to (bthen HB1.out HB.out (by have := HSZ.out; omega))⟩
    · rw [if_neg hd, if_neg hd, if_neg hd]
      have hd0 : isDn S (i2 : Int) = false := by simpa using hd
      have HD := Lib.hid hd0
      clear hd hd0
      go_enter Try.func16, Try.ntmps16
      go_wp2_with fail
      refine HL.out.mono ?_
      rintro e w1 ⟨rfl, hb⟩
      obtain ⟨c0, c1, c2, c3⟩ := (cells4 (H1.out.on_ hb).hn).1
      have z := (H1.out.on_ hb).dnc i2 hi
      rw [HD.out] at z
      have k1 := H1.out.on_ hb
      have y0 := (hb.cell (p := ⟨w.heap.size, 0, none⟩) HSZ.out).trans HY.out.1
      have y1 := (hb.cell (p := ⟨w.heap.size, 1, none⟩) HSZ.out).trans HY.out.2
      have HB := Lib.hid (bthen HB1.out hb (by have := HSZ.out; omega))
      have HP := Lib.hid (drop_any k1 ⟨a, i2⟩ HI.out j HJ.out)
      clear hb k1 H1 HY HL HSZ HB1 HN c1 c2 c3
      go_wp2_with fail
      refine HP.out.mono ?_
      rintro e w2 ⟨rfl, h2⟩
      have HT := Lib.hid h2
      have HC := Lib.hid (sclone_any s HM.out w2)
      clear h2 y0 y1 c0 z
      go_wp2_with fail
      refine HC.out.mono ?_
      rintro e w3 ⟨rfl, h3⟩
      have H3 := Lib.hid h3
      clear h3
      go_wp2_with fail
      go_ret2
      exact ⟨rfl, (HT.out.before HB.out).behind H3.out⟩
  · rw [if_neg he, if_neg he, if_neg he]
    generalize letE S p i = E at *
    generalize letS S p i = T at *
    clear h1 h hb1 H1 HY
    go_enter Try.func16, Try.ntmps16
    go_wp2_with fail
    refine HL.out.mono ?_
    rintro e w1 ⟨rfl, hb⟩
    have HB := Lib.hid hb
    clear hb
    go_wp2_with fail
    go_ret2
    exact ⟨rfl, HN.out.to (bthen HB1.out HB.out (by have := HSZ.out; omega))⟩
end
end Go.Proofs.Ytfhlfklgngpklaa
