/-
  NetFull: a bag takes just so many letters.
-/
import Derived.Test.YtfhlfklgngpklaaOrd
namespace Go.Proofs.Ytfhlfklgngpklaa
open Go.RowKit Go.Maps
def lk10 : Pr := ⟨1, 0⟩
/-- So many of one letter. -/
def rep (k : Nat) (s : ByteArray) : Pr → List ByteArray := upd (fun _ => []) lk01 (List.replicate k s)
theorem in2 : In 2 lk01 := ⟨by decide, by decide, by decide, by decide, by decide⟩
theorem in2' : In 2 lk10 := ⟨by decide, by decide, by decide, by decide, by decide⟩
theorem rep_at (k : Nat) (s : ByteArray) : rep k s lk01 = List.replicate k s := upd_same _ _ _
theorem rep_set (k m : Nat) (s : ByteArray) : upd (rep k s) lk01 (List.replicate m s) = rep m s := upd_twice _ _ _ _
section
variable {B n : Nat} {w : World} {s : ByteArray}
theorem SendR {k : Nat} (h : NB B w n (ST 2 (rep k s))) (hs : s.size ≤ 262144) (hk : k < 4096) :
    Calls Try.prog 14 #[.pointer (some ⟨n, 0, none⟩), .int .i64 0, .int .i64 1, .string s] w fun e w' => e = .returned (.int .i64 0) ∧ NB B w' n (ST 2 (rep (k + 1) s)) ∧ Below B w w' := by
  have := Send_nb h lk01 s
  obtain ⟨e1, e2⟩ := sd_ok (f := rep k s) in2 hs (by rw [rep_at, List.length_replicate]; omega)
  rw [rep_at, ← List.replicate_succ', rep_set] at e2
  rw [e1, e2] at this
  exact this
theorem SendF (h : NB B w n (ST 2 (rep 4096 s))) (hs : s.size ≤ 262144) :
    Calls Try.prog 14 #[.pointer (some ⟨n, 0, none⟩), .int .i64 0, .int .i64 1, .string s] w fun e w' => e = .returned (.int .i64 2) ∧ NB B w' n (ST 2 (rep 4096 s)) ∧ Below B w w' := by
  have := Send_nb h lk01 s
  obtain ⟨e1, e2⟩ := sd_full (f := rep 4096 s) in2 hs (by rw [rep_at, List.length_replicate])
  rw [e1, e2] at this
  exact this
theorem CopyF (h : NB B w n (ST 2 (rep 4096 s))) :
    Calls Try.prog 15 #[.pointer (some ⟨n, 0, none⟩), .int .i64 0, .int .i64 1, .int .i64 0] w fun e w' => e = .returned (.int .i64 2) ∧ NB B w' n (ST 2 (rep 4096 s)) ∧ Below B w w' := by
  have := Copy_nb h lk01 ((0 : Nat) : Int)
  obtain ⟨e1, e2⟩ := cp_full (f := rep 4096 s) in2 (k := 0) (by rw [rep_at, List.length_replicate]; omega) (by rw [rep_at, List.length_replicate])
  rw [e1, e2] at this
  exact this
theorem TakeR (h : NB B w n (ST 2 (rep 4096 s))) :
    Calls Try.prog 16 #[.pointer (some ⟨n, 0, none⟩), .int .i64 0, .int .i64 1, .int .i64 4095] w fun e w' => e = .returned (.tuple #[.string s, .int .i64 0]) ∧ NB B w' n (ST 2 (rep 4095 s)) ∧ Below B w w' := by
  have := Take_nb h lk01 ((4095 : Nat) : Int)
  obtain ⟨e1, e2, e3⟩ := tk_ok (f := rep 4096 s) in2 (k := 4095) (by rw [rep_at, List.length_replicate]; omega)
  rw [rep_at] at e2 e3
  have r1 : (List.replicate 4096 s).getD 4095 ⟨#[]⟩ = s := by
    rw [List.getD, List.getElem?_replicate, if_pos (by omega)]
    rfl
  have r2 : (List.replicate 4096 s).eraseIdx 4095 = List.replicate 4095 s := by
    rw [List.eraseIdx_replicate, if_pos (by omega)]
  rw [r1] at e2
  rw [r2, rep_set] at e3
  rw [e1, e2, e3] at this
  exact this
theorem SendB {k : Nat} (h : NB B w n (ST 2 (rep k s))) (hs : s.size ≤ 262144) :
    Calls Try.prog 14 #[.pointer (some ⟨n, 0, none⟩), .int .i64 1, .int .i64 0, .string s] w fun e w' => e = .returned (.int .i64 0) ∧ Below B w w' := by
  have := Send_nb h lk10 s
  obtain ⟨e1, e2⟩ := sd_ok (f := rep k s) in2' hs (by unfold rep; rw [upd_other _ (by decide)]; decide)
  rw [e1, e2] at this
  refine this.mono ?_
  rintro e w' ⟨h1, _, h2⟩
  exact ⟨h1, h2⟩
end
set_option maxRecDepth 100000 in
set_option maxHeartbeats 3200000 in
theorem law_full (s : ByteArray) (W : World) (hsz : s.size ≤ 140737488351232) :
    Calls Try.prog 4 #[.string s] W fun e w' => e = .returned (.bool true) ∧ Below W.heap.size W w' := by
  have HN := Lib.hid (New_nb 2 W (by decide) (by decide))
  go_enter Try.func4, Try.ntmps4
  go_wp2_with fail
  refine HN.out.mono ?_
  rintro e w1 ⟨n, rfl, h1, hb1⟩
  have H1 := Lib.hid h1
  have HB1 := Lib.hid hb1
  clear h1 hb1 HN
  go_wp2_with fail
  refine (works_any w1).mono ?_
  rintro e w2 ⟨rfl, hb2⟩
  have H2 : Hid (NB W.heap.size w2 n (ST 2 (rep 0 s))) := by
    show NB _ _ _ _
    have e : rep 0 s = fun _ => [] := by
      funext q
      unfold rep upd
      split <;> rfl
    rw [e]
    exact H1.out.on hb2
  have HB2 := Lib.hid (bthen HB1.out hb2 HB1.out.size)
  clear hb2 H1 HB1
  by_cases hs : 100 < s.size
  · have hs' : (100 : Int) < s.size := by omega
    go_wp2_with fail
    go_ret
    exact ⟨rfl, HB2.out⟩
  have hs' : ¬ (100 : Int) < s.size := by omega
  have HSS : Hid (s.size ≤ 262144) := Lib.hid (by omega)
  go_wp2_with fail
  go_loopw [5] (fun i wr => ∃ j : Nat, j ≤ 4096 ∧ i = .int .i64 j ∧ Hid (NB W.heap.size wr n (ST 2 (rep j s))) ∧ Hid (Below W.heap.size W wr)) (fun i _ => 4096 - (intOf i).toNat)
  case atStart => exact ⟨0, by omega, rfl, H2, HB2⟩
  case round =>
    clear H2 HB2
    obtain ⟨j, hj, rfl, H, HB⟩ := hrel
    by_cases hlt : j < 4096
    · go_wp2_with fail
      refine (SendR H.out HSS.out hlt).mono ?_
      rintro e w3 ⟨rfl, h3, hb3⟩
      have H3 := Lib.hid h3
      have HB3 := Lib.hid (HB.out.trans hb3)
      clear h3 hb3
      go_wp2_with fail
      exact ⟨⟨j + 1, by omega, by go_num, H3, HB3⟩, by simp [intOf]; omega⟩
    · obtain rfl : j = 4096 := by omega
      clear hj hlt
      go_wp2_with fail
      refine (SendF H.out HSS.out).mono ?_
      rintro e w3 ⟨rfl, h3, hb3⟩
      have H3 := Lib.hid h3
      have HB3 := Lib.hid (HB.out.trans hb3)
      clear h3 hb3 H HB
      go_wp2_with fail
      refine (CopyF H3.out).mono ?_
      rintro e w4 ⟨rfl, h4, hb4⟩
      have H4 := Lib.hid h4
      have HB4 := Lib.hid (HB3.out.trans hb4)
      clear h4 hb4 H3 HB3
      go_wp2_with fail
      refine (TakeR H4.out).mono ?_
      rintro e w5 ⟨rfl, h5, hb5⟩
      have H5 := Lib.hid h5
      have HB5 := Lib.hid (HB4.out.trans hb5)
      clear h5 hb5 H4 HB4
      go_wp2_with fail
      refine (SendR H5.out HSS.out (by omega)).mono ?_
      rintro e w6 ⟨rfl, h6, hb6⟩
      have H6 : Hid (NB W.heap.size w6 n (ST 2 (rep 4096 s))) := Lib.hid h6
      have HB6 := Lib.hid (HB5.out.trans hb6)
      clear h6 hb6 H5 HB5
      go_wp2_with fail
      refine (SendF H6.out HSS.out).mono ?_
      rintro e w7 ⟨rfl, h7, hb7⟩
      have H7 := Lib.hid h7
      have HB7 := Lib.hid (HB6.out.trans hb7)
      clear h7 hb7 H6 HB6
      go_wp2_with fail
      refine (SendB H7.out HSS.out).mono ?_
      rintro e w8 ⟨rfl, hb8⟩
      have HB8 := Lib.hid (HB7.out.trans hb8)
      clear hb8 H7 HB7
      go_wp2_with fail
      go_ret
      exact ⟨rfl, HB8.out⟩
end Go.Proofs.Ytfhlfklgngpklaa
