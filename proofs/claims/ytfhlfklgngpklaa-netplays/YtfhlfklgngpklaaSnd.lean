/-
  Contract of (*Net).Send.
-/
import Derived.Test.YtfhlfklgngpklaaPut
import Derived.Test.YtfhlfklgngpklaaShelf
namespace Go.Proofs.Ytfhlfklgngpklaa
open Go.RowKit Go.Maps
theorem sclone_any (s : ByteArray) (hs : s.size ≤ 262144) (w : World) :
    Calls Try.prog 40 #[.string s] w fun e w' => e = .returned (.string s) ∧ Below w.heap.size w w' := by
  have H := Lib.hid (Try.stringslite_Clone s w (by omega))
  go_enter Try.func40, Try.ntmps40
  go_wp2_with fail
  refine H.out.mono ?_
  rintro e w1 ⟨rfl, hb⟩
  have HB := Lib.hid hb
  clear hb
  go_wp2_with fail
  go_ret
  exact ⟨rfl, HB.out⟩
/-- Is a node down? -/
def isDn (S : NS) (a : Int) : Bool := S.dn.getD a.toNat false
/-- What Send answers and leaves. -/
def sdE (S : NS) (p : Pr) (s : ByteArray) : Int := if lkB S.N p = true then (if 262144 < s.size then 2 else if isDn S p.a = true then 191 else putE S p) else 190
def sdS (S : NS) (p : Pr) (s : ByteArray) : NS := if lkB S.N p = true then (if 262144 < s.size then S else if isDn S p.a = true then S else putS S p s) else S
section
variable {w : World} {n : Nat} {P : Nat → Prop} {S : NS} {db mb : Nat} {tv : Value} {sv : Pr → Value} {D : DataW Unit} {k : Nat}
theorem NTx.dnc (h : NTx w n P S db mb tv sv D k) (i : Nat) (hi : i < S.N) : w.cell? ⟨db, i, none⟩ = some (.bool (isDn S (i : Int))) := by
  have hl := h.hl
  rw [cell_of_row w db i _ 4 (0, 0) h.hd]
  unfold isDn boolsC
  rw [show ((i : Int)).toNat = i from rfl, List.getElem?_toArray, List.getElem?_map, List.getElem?_eq_getElem (by omega)]
  simp [List.getD, List.getElem?_eq_getElem (show i < S.dn.length by omega)]
theorem NTx.nt (h : NTx w n P S db mb tv sv D k) : NT w n P S := ⟨_, _, _, _, _, _, h⟩
set_option maxRecDepth 100000 in
set_option maxHeartbeats 1600000 in
theorem Send_any (h : NTx w n P S db mb tv sv D k) (p : Pr) (s : ByteArray) :
    Calls Try.prog 14 #[.pointer (some ⟨n, 0, none⟩), .int .i64 p.a, .int .i64 p.b, .string s] w fun e w' => e = .returned (.int .i64 (sdE S p s)) ∧ To w w' n P (sdS S p s) := by
  have hb1 : Below w.heap.size w (w.alloc (.cells #[.int .i64 p.a, .int .i64 p.b] 64)) := (Below.refl _ _).alloc (Nat.le_refl _) _
  have h1 := h.on_ hb1
  have HK := Lib.hid (isLink_any (cells4 h1.hn).1.1 (lt_of_block h1.hn) p)
  have HN := Lib.hid h.nt
  have HB1 := Lib.hid hb1
  have HSZ : Hid (w.heap.size < (w.alloc (.cells #[.int .i64 p.a, .int .i64 p.b] 64)).heap.size) := Lib.hid (by simp)
  have H1 := Lib.hid h1
  have HY := Lib.hid (boxed w (.int .i64 p.a) (.int .i64 p.b))
  by_cases hI : In S.N p
  · rw [lkB_in hI] at HK
    unfold sdE sdS
    rw [if_pos (lkB_in hI), if_pos (lkB_in hI)]
    by_cases hlong : 262144 < s.size
    · rw [if_pos hlong, if_pos hlong]
      have hlong' : (262144 : Int) < s.size := by omega
      clear h1 h hb1 H1 hI
      go_enter Try.func14, Try.ntmps14
      go_wp2_with fail
      refine HK.out.mono ?_
      rintro e w1 ⟨rfl, hb⟩
      have HB := Lib.hid hb
      clear hb
      go_wp2_with fail
      go_ret
      exact ⟨rfl, HN.out.to (bthen HB1.out HB.out (by have := HSZ.out; omega))⟩
    · rw [if_neg hlong, if_neg hlong]
      have hlong' : ¬ (262144 : Int) < s.size := by omega
      obtain ⟨a, b⟩ := p
      obtain ⟨i, rfl⟩ := Int.eq_ofNat_of_zero_le hI.1
      have hi : i < S.N := by have := hI.2.1; simp only at this; omega
      have hiI : (i : Int) < S.N := by omega
      have HI := Lib.hid hI
      have HLO := Lib.hid hlong
      by_cases hd : isDn S (i : Int) = true
      · rw [if_pos hd, if_pos hd]
        have HD := Lib.hid hd
        clear h1 h hb1 hI hlong hd
        go_enter Try.func14, Try.ntmps14
        go_wp2_with fail
        refine HK.out.mono ?_
        rintro e w1 ⟨rfl, hb⟩
        have k1 := H1.out.on_ hb
        obtain ⟨c0, c1, c2, c3⟩ := (cells4 k1.hn).1
        have z := k1.dnc i hi
        rw [HD.out] at z
        have HB := Lib.hid hb
        clear hb k1 c1 c2 c3
        go_wp2_with fail
        go_ret
        exact ⟨rfl, HN.out.to (bthen HB1.out HB.out (by have := HSZ.out; omega))⟩
      · rw [if_neg hd, if_neg hd]
        have hd0 : isDn S (i : Int) = false := by simpa using hd
        have HD := Lib.hid hd0
        clear h1 h hb1 hI hd hd0
        go_enter Try.func14, Try.ntmps14
        go_wp2_with fail
        refine HK.out.mono ?_
        rintro e w1 ⟨rfl, hb⟩
        have k1 := H1.out.on_ hb
        obtain ⟨c0, c1, c2, c3⟩ := (cells4 k1.hn).1
        have z := k1.dnc i hi
        rw [HD.out] at z
        have y0 := (hb.cell (p := ⟨w.heap.size, 0, none⟩) HSZ.out).trans HY.out.1
        have y1 := (hb.cell (p := ⟨w.heap.size, 1, none⟩) HSZ.out).trans HY.out.2
        have HY0 := Lib.hid y0
        have HY1 := Lib.hid y1
        have HSL : Hid (w.heap.size < w1.heap.size) := Lib.hid (Nat.lt_of_lt_of_le HSZ.out hb.size)
        have HB := Lib.hid (bthen HB1.out hb (by have := HSZ.out; omega))
        have HCL := Lib.hid (fun W : World => sclone_any s (by have := HLO.out; omega) W)
        have HPUT := Lib.hid (fun (w3 : World) (h3 : Below w1.heap.size w1 w3) => put_any (k1.on_ h3) ⟨(i : Int), b⟩ HI.out s (by have := HLO.out; omega))
        clear hb k1 c1 c2 c3 HD H1 HK HY HB1 HSZ HN
        go_wp2_with fail
        clear z c0 hi hiI hlong' HLO hlong
        generalize hBQ : w.heap.size = B at *
        have HBQ := Lib.hid hBQ
        clear hBQ
        go_region_law (first
          | (rw [if_pos (by rfl)]; go_simp; go_at_call 40; refine (HCL.out _).mono ?_; rintro e w3 ⟨rfl, h3⟩; have HB3 := Lib.hid (show Below w1.heap.size w1 w3 from (show Below w1.heap.size w1 w1.drew from (Below.refl _ _).drew).trans h3); have y2 := (HB3.out.cell (p := ⟨B, 0, none⟩) HSL.out).trans HY0.out; have y3 := (HB3.out.cell (p := ⟨B, 1, none⟩) HSL.out).trans HY1.out; clear h3)
          | (rw [if_pos (by rfl)]; go_simp; go_at_call 39; refine (HPUT.out _ HB3.out).mono ?_; rintro e w4 ⟨rfl, h4⟩; have HT := Lib.hid h4; clear h4))
        all_goals
          go_wp2_with fail
          go_ret
          exact ⟨rfl, HT.out.before (by rw [HBQ.out]; exact HB.out.trans (HB3.out.mono (by have := HSL.out; omega)))⟩
  · rw [lkB_not hI] at HK
    unfold sdE sdS
    rw [if_neg (by rw [lkB_not hI]; decide), if_neg (by rw [lkB_not hI]; decide)]
    clear h1 h hb1 H1 hI
    go_enter Try.func14, Try.ntmps14
    go_wp2_with fail
    refine HK.out.mono ?_
    rintro e w1 ⟨rfl, hb⟩
    have HB := Lib.hid hb
    clear hb
    go_wp2_with fail
    go_ret
    exact ⟨rfl, HN.out.to (bthen HB1.out HB.out (by have := HSZ.out; omega))⟩
end
end Go.Proofs.Ytfhlfklgngpklaa
