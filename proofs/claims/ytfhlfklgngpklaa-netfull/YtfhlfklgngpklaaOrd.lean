/-
  NetOrder: letters that are always taken from the front come in the order in which they were sent.
-/
import Derived.Test.YtfhlfklgngpklaaGiv
namespace Go.Proofs.Ytfhlfklgngpklaa
open Go.RowKit Go.Maps
/-- Letters that are not too long. -/
def shorts (l : List ByteArray) : List ByteArray := l.filter fun s => decide (s.size ≤ 262144)
def lk01 : Pr := ⟨0, 1⟩
def lk21 : Pr := ⟨2, 1⟩
def f2 (x y : List ByteArray) : Pr → List ByteArray := upd (upd (fun _ => []) lk01 x) lk21 y
theorem f2_01 (x y : List ByteArray) : f2 x y lk01 = x := by unfold f2; rw [upd_other _ (by decide), upd_same]
theorem f2_21 (x y : List ByteArray) : f2 x y lk21 = y := by unfold f2; rw [upd_same]
theorem f2_set01 (x y z : List ByteArray) : upd (f2 x y) lk01 z = f2 z y := by
  funext q
  unfold f2 upd
  by_cases h : q = lk01
  · subst h
    simp [show lk01 ≠ lk21 by decide]
  · simp [h]
theorem f2_set21 (x y z : List ByteArray) : upd (f2 x y) lk21 z = f2 x z := by unfold f2; rw [upd_twice]
theorem f2_nil : f2 [] [] = fun _ => [] := by
  funext q
  unfold f2 upd
  split
  · rfl
  · split <;> rfl
theorem in01 : In 3 lk01 := i3 0 1 (by decide) (by decide) (by decide)
theorem in21 : In 3 lk21 := i3 2 1 (by decide) (by decide) (by decide)
theorem shorts_le (l : List ByteArray) : (shorts l).length ≤ l.length := List.length_filter_le _ _
theorem shorts_succ (l : List ByteArray) (i : Nat) (h : i < l.length) : shorts (l.take (i + 1)) = shorts (l.take i) ++ (if (l[i]).size ≤ 262144 then [l[i]] else []) := by
  unfold shorts
  rw [List.take_succ_eq_append_getElem h, List.filter_append]
  congr 1
  by_cases hs : (l[i]).size ≤ 262144 <;> simp [hs]
theorem shorts_drop (l : List ByteArray) (i : Nat) (h : i < l.length) : shorts (l.drop i) = (if (l[i]).size ≤ 262144 then [l[i]] else []) ++ shorts (l.drop (i + 1)) := by
  unfold shorts
  rw [List.drop_eq_getElem_cons h, List.filter_cons]
  by_cases hs : (l[i]).size ≤ 262144 <;> simp [hs]
/-- A letter sent on a link: what is there then. -/
def snt (l : List ByteArray) (s : ByteArray) : List ByteArray := l ++ (if s.size ≤ 262144 then [s] else [])
theorem sd01 (x y : List ByteArray) (s : ByteArray) (hx : x.length ≤ 4000) : sdE (ST 3 (f2 x y)) lk01 s = (if s.size ≤ 262144 then 0 else 2) ∧ sdS (ST 3 (f2 x y)) lk01 s = ST 3 (f2 (snt x s) y) := by
  unfold snt
  by_cases hs : s.size ≤ 262144
  · obtain ⟨e1, e2⟩ := sd_ok (f := f2 x y) in01 hs (by rw [f2_01]; omega)
    rw [f2_01, f2_set01] at e2
    rw [if_pos hs, if_pos hs]
    exact ⟨e1, e2⟩
  · obtain ⟨e1, e2⟩ := sd_long (f := f2 x y) in01 (s := s) (by omega)
    rw [if_neg hs, if_neg hs, List.append_nil]
    exact ⟨e1, e2⟩
theorem sd21 (x y : List ByteArray) (s : ByteArray) (hy : y.length ≤ 4000) : sdE (ST 3 (f2 x y)) lk21 s = (if s.size ≤ 262144 then 0 else 2) ∧ sdS (ST 3 (f2 x y)) lk21 s = ST 3 (f2 x (snt y s)) := by
  unfold snt
  by_cases hs : s.size ≤ 262144
  · obtain ⟨e1, e2⟩ := sd_ok (f := f2 x y) in21 hs (by rw [f2_21]; omega)
    rw [f2_21, f2_set21] at e2
    rw [if_pos hs, if_pos hs]
    exact ⟨e1, e2⟩
  · obtain ⟨e1, e2⟩ := sd_long (f := f2 x y) in21 (s := s) (by omega)
    rw [if_neg hs, if_neg hs, List.append_nil]
    exact ⟨e1, e2⟩
theorem Send01 {B n : Nat} {w : World} {x y : List ByteArray} (h : NB B w n (ST 3 (f2 x y))) (s : ByteArray) (hx : x.length ≤ 4000) :
    Calls Try.prog 14 #[.pointer (some ⟨n, 0, none⟩), .int .i64 0, .int .i64 1, .string s] w fun e w' => e = .returned (.int .i64 (if s.size ≤ 262144 then 0 else 2)) ∧ NB B w' n (ST 3 (f2 (snt x s) y)) ∧ Below B w w' := by
  have := Send_nb h lk01 s
  rw [(sd01 x y s hx).1, (sd01 x y s hx).2] at this
  exact this
theorem Send21 {B n : Nat} {w : World} {x y : List ByteArray} (h : NB B w n (ST 3 (f2 x y))) (s : ByteArray) (hy : y.length ≤ 4000) :
    Calls Try.prog 14 #[.pointer (some ⟨n, 0, none⟩), .int .i64 2, .int .i64 1, .string s] w fun e w' => e = .returned (.int .i64 (if s.size ≤ 262144 then 0 else 2)) ∧ NB B w' n (ST 3 (f2 x (snt y s))) ∧ Below B w w' := by
  have := Send_nb h lk21 s
  rw [(sd21 x y s hy).1, (sd21 x y s hy).2] at this
  exact this
theorem Take01 {B n : Nat} {w : World} {s : ByteArray} {x y : List ByteArray} (h : NB B w n (ST 3 (f2 (s :: x) y))) :
    Calls Try.prog 16 #[.pointer (some ⟨n, 0, none⟩), .int .i64 0, .int .i64 1, .int .i64 0] w fun e w' => e = .returned (.tuple #[.string s, .int .i64 0]) ∧ NB B w' n (ST 3 (f2 x y)) ∧ Below B w w' := by
  have := Take_nb h lk01 ((0 : Nat) : Int)
  obtain ⟨e1, e2, e3⟩ := tk_ok (f := f2 (s :: x) y) in01 (k := 0) (by rw [f2_01]; simp)
  rw [f2_01] at e2
  rw [f2_01, f2_set01] at e3
  rw [e1, e2, e3] at this
  exact this
theorem Take0 {B n : Nat} {w : World} {y : List ByteArray} (h : NB B w n (ST 3 (f2 [] y))) :
    Calls Try.prog 16 #[.pointer (some ⟨n, 0, none⟩), .int .i64 0, .int .i64 1, .int .i64 0] w fun e w' => e = .returned (.tuple #[.string ⟨#[]⟩, .int .i64 5]) ∧ Below B w w' := by
  have := Take_nb h lk01 ((0 : Nat) : Int)
  obtain ⟨e1, e2, e3⟩ := tk_no (f := f2 [] y) in01 (by rw [f2_01]) ((0 : Nat) : Int)
  rw [e1, e2, e3] at this
  refine this.mono ?_
  rintro e w' ⟨h1, _, h2⟩
  exact ⟨h1, h2⟩
theorem snt_take (l : List ByteArray) (i : Nat) (h : i < l.length) : snt (shorts (l.take i)) l[i] = shorts (l.take (i + 1)) := by
  rw [shorts_succ l i h]
  rfl
theorem take_more {l : List ByteArray} {i : Nat} (h : ¬ i < l.length) : l.take (i + 1) = l.take i := by
  rw [List.take_of_length_le (by omega), List.take_of_length_le (by omega)]
set_option maxRecDepth 100000 in
set_option maxHeartbeats 3200000 in
theorem law_order (a : Option Addr) (l : List ByteArray) (c : Nat) (a2 : Option Addr) (m : List ByteArray) (c2 : Nat) (W : World) (hl : StrB W.heap.size W a l) (hm : StrB W.heap.size W a2 m) (hl2 : l.length ≤ 140737488351232) (hm2 : m.length ≤ 140737488351232) :
    Calls Try.prog 7 #[.slice a l.length c, .slice a2 m.length c2] W fun e w' => e = .returned (.bool true) ∧ Below W.heap.size W w' := by
  have HN := Lib.hid (New_nb 3 W (by decide) (by decide))
  have HLI := Lib.hid hl
  have HMI := Lib.hid hm
  obtain ⟨L, HLL⟩ := named l.length
  obtain ⟨M, HMM⟩ := named m.length
  rw [HLL.out] at hl2 ⊢
  rw [HMM.out] at hm2 ⊢
  clear hl hm
  go_enter Try.func7, Try.ntmps7
  go_wp2_with fail
  refine HN.out.mono ?_
  rintro e w1 ⟨n, rfl, h1, hb1⟩
  have H1 := Lib.hid h1
  have HB1 := Lib.hid hb1
  clear h1 hb1 HN
  go_wp2_with fail
  refine (works_any w1).mono ?_
  rintro e w2 ⟨rfl, hb2⟩
  have H2 := Lib.hid (H1.out.on hb2)
  have HB2 := Lib.hid (bthen HB1.out hb2 HB1.out.size)
  clear hb2 H1 HB1
  by_cases hlL : 100 < L
  · have hlL' : (100 : Int) < L := by omega
    go_wp2_with fail
    go_ret
    exact ⟨rfl, HB2.out⟩
  by_cases hlM : 100 < M
  · have hlM' : (100 : Int) < M := by omega
    have hlL' : ¬ (100 : Int) < L := by omega
    go_wp2_with fail
    go_ret
    exact ⟨rfl, HB2.out⟩
  have hlM' : ¬ (100 : Int) < M := by omega
  have hlL' : ¬ (100 : Int) < L := by omega
  have H2' : Hid (NB W.heap.size w2 n (ST 3 (f2 (shorts (l.take 0)) (shorts (m.take 0))))) := by
    show NB _ _ _ _
    rw [List.take_zero, List.take_zero, show shorts [] = [] from rfl, f2_nil]
    exact H2.out
  clear H2
  go_wp2_with fail
  go_loopw [7] (fun i wr => ∃ j : Nat, j ≤ 100 ∧ i = .int .i64 j ∧ Hid (NB W.heap.size wr n (ST 3 (f2 (shorts (l.take j)) (shorts (m.take j))))) ∧ Hid (Below W.heap.size W wr)) (fun i _ => 100 - (intOf i).toNat)
  case atStart => exact ⟨0, by omega, rfl, H2', HB2⟩
  case round =>
    clear H2' HB2
    obtain ⟨j, hj, rfl, H, HB⟩ := hrel
    have HX : Hid ((shorts (l.take j)).length ≤ 4000) := Lib.hid (by have := shorts_le (l.take j); rw [List.length_take] at this; omega)
    have HY : Hid ((shorts (m.take j)).length ≤ 4000) := Lib.hid (by have := shorts_le (m.take j); rw [List.length_take] at this; omega)
    by_cases hp : j < L
    · by_cases hr : j < M
      · have hjp : j < l.length := by rw [HLL.out]; exact hp
        obtain ⟨bp, op, ep, hbp, hcp⟩ := HLI.out (by omega)
        subst ep
        obtain ⟨hqp, hzp⟩ := hcp j hjp
        have qp := (HB.out.cell (p := ⟨bp, op + j, none⟩) hbp).trans hqp
        have HSp := Lib.hid (snt_take l j hjp)
        generalize l[j] = sp at *
        clear hcp hqp
        have hjr : j < m.length := by rw [HMM.out]; exact hr
        obtain ⟨br, or, er, hbr, hcr⟩ := HMI.out (by omega)
        subst er
        obtain ⟨hqr, hzr⟩ := hcr j hjr
        have qr := (HB.out.cell (p := ⟨br, or + j, none⟩) hbr).trans hqr
        have HSr := Lib.hid (snt_take m j hjr)
        generalize m[j] = sr at *
        clear hcr hqr
        by_cases hsp : sp.size ≤ 262144
        · have hsp' : (sp.size : Int) ≤ 262144 := by omega
          by_cases hsr : sr.size ≤ 262144
          · have hsr' : (sr.size : Int) ≤ 262144 := by omega
            go_wp2_with fail
            refine (Send01 H.out sp HX.out).mono ?_
            rintro e w3 ⟨rfl, h3, hb3⟩
            rw [if_pos hsp]
            rw [HSp.out] at h3
            have H3 := Lib.hid h3
            have HB3 := Lib.hid (HB.out.trans hb3)
            have qr3 := (hb3.cell (p := ⟨br, or + j, none⟩) hbr).trans qr
            have qp3 := (hb3.cell (p := ⟨bp, op + j, none⟩) hbp).trans qp
            clear h3 hb3
            go_wp2_with fail
            refine (Send21 H3.out sr HY.out).mono ?_
            rintro e w4 ⟨rfl, h4, hb4⟩
            rw [if_pos hsr]
            rw [HSr.out] at h4
            have H4 := Lib.hid h4
            have HB4 := Lib.hid (HB3.out.trans hb4)
            have qr4 := (hb4.cell (p := ⟨br, or + j, none⟩) hbr).trans qr3
            clear h4 hb4
            go_wp2_with fail
            exact ⟨⟨j + 1, by omega, by go_num, H4.out, HB4.out⟩, by simp [intOf]; omega⟩
          · have hsr' : ¬ (sr.size : Int) ≤ 262144 := by omega
            go_wp2_with fail
            refine (Send01 H.out sp HX.out).mono ?_
            rintro e w3 ⟨rfl, h3, hb3⟩
            rw [if_pos hsp]
            rw [HSp.out] at h3
            have H3 := Lib.hid h3
            have HB3 := Lib.hid (HB.out.trans hb3)
            have qr3 := (hb3.cell (p := ⟨br, or + j, none⟩) hbr).trans qr
            have qp3 := (hb3.cell (p := ⟨bp, op + j, none⟩) hbp).trans qp
            clear h3 hb3
            go_wp2_with fail
            refine (Send21 H3.out sr HY.out).mono ?_
            rintro e w4 ⟨rfl, h4, hb4⟩
            rw [if_neg hsr]
            rw [HSr.out] at h4
            have H4 := Lib.hid h4
            have HB4 := Lib.hid (HB3.out.trans hb4)
            have qr4 := (hb4.cell (p := ⟨br, or + j, none⟩) hbr).trans qr3
            clear h4 hb4
            go_wp2_with fail
            exact ⟨⟨j + 1, by omega, by go_num, H4.out, HB4.out⟩, by simp [intOf]; omega⟩
        · have hsp' : ¬ (sp.size : Int) ≤ 262144 := by omega
          by_cases hsr : sr.size ≤ 262144
          · have hsr' : (sr.size : Int) ≤ 262144 := by omega
            go_wp2_with fail
            refine (Send01 H.out sp HX.out).mono ?_
            rintro e w3 ⟨rfl, h3, hb3⟩
            rw [if_neg hsp]
            rw [HSp.out] at h3
            have H3 := Lib.hid h3
            have HB3 := Lib.hid (HB.out.trans hb3)
            have qr3 := (hb3.cell (p := ⟨br, or + j, none⟩) hbr).trans qr
            have qp3 := (hb3.cell (p := ⟨bp, op + j, none⟩) hbp).trans qp
            clear h3 hb3
            go_wp2_with fail
            refine (Send21 H3.out sr HY.out).mono ?_
            rintro e w4 ⟨rfl, h4, hb4⟩
            rw [if_pos hsr]
            rw [HSr.out] at h4
            have H4 := Lib.hid h4
            have HB4 := Lib.hid (HB3.out.trans hb4)
            have qr4 := (hb4.cell (p := ⟨br, or + j, none⟩) hbr).trans qr3
            clear h4 hb4
            go_wp2_with fail
            exact ⟨⟨j + 1, by omega, by go_num, H4.out, HB4.out⟩, by simp [intOf]; omega⟩
          · have hsr' : ¬ (sr.size : Int) ≤ 262144 := by omega
            go_wp2_with fail
            refine (Send01 H.out sp HX.out).mono ?_
            rintro e w3 ⟨rfl, h3, hb3⟩
            rw [if_neg hsp]
            rw [HSp.out] at h3
            have H3 := Lib.hid h3
            have HB3 := Lib.hid (HB.out.trans hb3)
            have qr3 := (hb3.cell (p := ⟨br, or + j, none⟩) hbr).trans qr
            have qp3 := (hb3.cell (p := ⟨bp, op + j, none⟩) hbp).trans qp
            clear h3 hb3
            go_wp2_with fail
            refine (Send21 H3.out sr HY.out).mono ?_
            rintro e w4 ⟨rfl, h4, hb4⟩
            rw [if_neg hsr]
            rw [HSr.out] at h4
            have H4 := Lib.hid h4
            have HB4 := Lib.hid (HB3.out.trans hb4)
            have qr4 := (hb4.cell (p := ⟨br, or + j, none⟩) hbr).trans qr3
            clear h4 hb4
            go_wp2_with fail
            exact ⟨⟨j + 1, by omega, by go_num, H4.out, HB4.out⟩, by simp [intOf]; omega⟩
      · have hjp : j < l.length := by rw [HLL.out]; exact hp
        obtain ⟨bp, op, ep, hbp, hcp⟩ := HLI.out (by omega)
        subst ep
        obtain ⟨hqp, hzp⟩ := hcp j hjp
        have qp := (HB.out.cell (p := ⟨bp, op + j, none⟩) hbp).trans hqp
        have HSp := Lib.hid (snt_take l j hjp)
        generalize l[j] = sp at *
        clear hcp hqp
        have HSr : Hid (shorts (m.take (j + 1)) = shorts (m.take j)) := Lib.hid (by rw [take_more (by rw [HMM.out]; exact hr)])
        by_cases hsp : sp.size ≤ 262144
        · have hsp' : (sp.size : Int) ≤ 262144 := by omega
          go_wp2_with fail
          refine (Send01 H.out sp HX.out).mono ?_
          rintro e w3 ⟨rfl, h3, hb3⟩
          rw [if_pos hsp]
          rw [HSp.out] at h3
          have H3 := Lib.hid h3
          have HB3 := Lib.hid (HB.out.trans hb3)
          have qp3 := (hb3.cell (p := ⟨bp, op + j, none⟩) hbp).trans qp
          clear h3 hb3
          go_wp2_with fail
          exact ⟨⟨j + 1, by omega, by go_num, (by rw [HSr.out]; exact H3.out), HB3.out⟩, by simp [intOf]; omega⟩
        · have hsp' : ¬ (sp.size : Int) ≤ 262144 := by omega
          go_wp2_with fail
          refine (Send01 H.out sp HX.out).mono ?_
          rintro e w3 ⟨rfl, h3, hb3⟩
          rw [if_neg hsp]
          rw [HSp.out] at h3
          have H3 := Lib.hid h3
          have HB3 := Lib.hid (HB.out.trans hb3)
          have qp3 := (hb3.cell (p := ⟨bp, op + j, none⟩) hbp).trans qp
          clear h3 hb3
          go_wp2_with fail
          exact ⟨⟨j + 1, by omega, by go_num, (by rw [HSr.out]; exact H3.out), HB3.out⟩, by simp [intOf]; omega⟩
    · by_cases hr : j < M
      · have HSp : Hid (shorts (l.take (j + 1)) = shorts (l.take j)) := Lib.hid (by rw [take_more (by rw [HLL.out]; exact hp)])
        have hjr : j < m.length := by rw [HMM.out]; exact hr
        obtain ⟨br, or, er, hbr, hcr⟩ := HMI.out (by omega)
        subst er
        obtain ⟨hqr, hzr⟩ := hcr j hjr
        have qr := (HB.out.cell (p := ⟨br, or + j, none⟩) hbr).trans hqr
        have HSr := Lib.hid (snt_take m j hjr)
        generalize m[j] = sr at *
        clear hcr hqr
        by_cases hsr : sr.size ≤ 262144
        · have hsr' : (sr.size : Int) ≤ 262144 := by omega
          go_wp2_with fail
          refine (Send21 H.out sr HY.out).mono ?_
          rintro e w4 ⟨rfl, h4, hb4⟩
          rw [if_pos hsr]
          rw [HSr.out] at h4
          rw [← HSp.out] at h4
          have H4 := Lib.hid h4
          have HB4 := Lib.hid (HB.out.trans hb4)
          have qr4 := (hb4.cell (p := ⟨br, or + j, none⟩) hbr).trans qr
          clear h4 hb4
          go_wp2_with fail
          exact ⟨⟨j + 1, by omega, by go_num, H4.out, HB4.out⟩, by simp [intOf]; omega⟩
        · have hsr' : ¬ (sr.size : Int) ≤ 262144 := by omega
          go_wp2_with fail
          refine (Send21 H.out sr HY.out).mono ?_
          rintro e w4 ⟨rfl, h4, hb4⟩
          rw [if_neg hsr]
          rw [HSr.out] at h4
          rw [← HSp.out] at h4
          have H4 := Lib.hid h4
          have HB4 := Lib.hid (HB.out.trans hb4)
          have qr4 := (hb4.cell (p := ⟨br, or + j, none⟩) hbr).trans qr
          clear h4 hb4
          go_wp2_with fail
          exact ⟨⟨j + 1, by omega, by go_num, H4.out, HB4.out⟩, by simp [intOf]; omega⟩
      · clear HX HY
        have ht1 : l.take j = l := List.take_of_length_le (by rw [HLL.out]; omega)
        have ht2 : m.take j = m := List.take_of_length_le (by rw [HMM.out]; omega)
        rw [ht1, ht2] at H
        have H0 : Hid (NB W.heap.size wr n (ST 3 (f2 (shorts (l.drop 0)) (shorts m)))) := by rw [List.drop_zero]; exact H
        clear H ht1 ht2
        go_wp2_with fail
        go_loopw [94] (fun i wq => ∃ k : Nat, k ≤ L ∧ i = .int .i64 k ∧ Hid (NB W.heap.size wq n (ST 3 (f2 (shorts (l.drop k)) (shorts m)))) ∧ Hid (Below W.heap.size W wq)) (fun i _ => L - (intOf i).toNat)
        case atStart => exact ⟨0, by omega, rfl, H0, HB⟩
        case round =>
          clear H0 HB
          obtain ⟨k, hk, rfl, H, HB⟩ := hrel
          by_cases hkL : k < L
          · have hkl : k < l.length := by rw [HLL.out]; exact hkL
            obtain ⟨b, o, e0, hb, hc⟩ := HLI.out (by omega)
            subst e0
            obtain ⟨hq, hz⟩ := hc k hkl
            have q := (HB.out.cell (p := ⟨b, o + k, none⟩) hb).trans hq
            have HD := Lib.hid (shorts_drop l k hkl)
            generalize l[k] = s at *
            clear hc hq
            by_cases hs : s.size ≤ 262144
            · have hs' : ¬ (262144 : Int) < s.size := by omega
              have HD2 : Hid (shorts (l.drop k) = s :: shorts (l.drop (k + 1))) := by
                show _ = _
                rw [HD.out, if_pos hs]
                rfl
              rw [HD2.out] at H
              go_wp2_with fail
              refine (Take01 H.out).mono ?_
              rintro e w5 ⟨rfl, h5, hb5⟩
              have H5 := Lib.hid h5
              have HB5 := Lib.hid (HB.out.trans hb5)
              clear h5 hb5
              go_wp2_with fail
              exact ⟨⟨k + 1, by omega, by go_num, H5, HB5⟩, by simp [intOf]; omega⟩
            · have hs' : (262144 : Int) < s.size := by omega
              have HD2 : Hid (shorts (l.drop k) = shorts (l.drop (k + 1))) := by
                show _ = _
                rw [HD.out, if_neg hs]
                rfl
              rw [HD2.out] at H
              go_wp2_with fail
              exact ⟨⟨k + 1, by omega, by go_num, H, HB⟩, by simp [intOf]; omega⟩
          · have hd : l.drop k = [] := List.drop_of_length_le (by rw [HLL.out]; omega)
            rw [hd, show shorts [] = [] from rfl] at H
            clear hd
            go_wp2_with fail
            refine (Take0 H.out).mono ?_
            rintro e w6 ⟨rfl, hb6⟩
            have HB6 := Lib.hid (HB.out.trans hb6)
            clear hb6
            go_wp2_with fail
            go_ret
            exact ⟨rfl, HB6.out⟩
end Go.Proofs.Ytfhlfklgngpklaa
