/-
  Nets whose nodes are all up: what a call leaves; works.
-/
import Derived.Test.YtfhlfklgngpklaaBag
namespace Go.Proofs.Ytfhlfklgngpklaa
open Go.RowKit Go.Maps
/-- A net in blocks from B on. -/
def NB (B : Nat) (w : World) (n : Nat) (S : NS) : Prop := ∃ P, NT w n P S ∧ ∀ b, P b → B ≤ b
def upd (f : Pr → List ByteArray) (p : Pr) (l : List ByteArray) : Pr → List ByteArray := fun q => if q = p then l else f q
theorem upd_same (f : Pr → List ByteArray) (p : Pr) (l : List ByteArray) : upd f p l p = l := by unfold upd; rw [if_pos rfl]
theorem upd_other (f : Pr → List ByteArray) {p q : Pr} (h : q ≠ p) (l : List ByteArray) : upd f p l q = f q := by unfold upd; rw [if_neg h]
theorem upd_twice (f : Pr → List ByteArray) (p : Pr) (l m : List ByteArray) : upd (upd f p l) p m = upd f p m := by
  funext q
  unfold upd
  by_cases h : q = p <;> simp [h]
/-- All nodes up, no timers. -/
def ST (N : Nat) (f : Pr → List ByteArray) : NS := ⟨N, List.replicate N false, f, [], 0⟩
section
variable {B n N : Nat} {w w' : World} {f : Pr → List ByteArray} {p : Pr} {S : NS}
theorem NB.le (h : NB B w n S) : B ≤ w.heap.size := by
  obtain ⟨P, ⟨db, mb, tv, sv, D, k, h⟩, hP⟩ := h
  have := hP n h.on
  have := h.lt n h.on
  omega
theorem NB.on (h : NB B w n S) (hb : Below w.heap.size w w') : NB B w' n S := by
  obtain ⟨P, h, hP⟩ := h
  exact ⟨P, h.on hb, hP⟩
theorem To.nb {P : Nat → Prop} {S' : NS} (h : To w w' n P S') (hP : ∀ b, P b → B ≤ b) (hB : B ≤ w.heap.size) : NB B w' n S' ∧ Below B w w' := by
  have hb := h.below hB hP
  obtain ⟨P', h1, h2, h3⟩ := h
  exact ⟨⟨P', h1, fun b hb => by rcases h2 b hb with e | e; exact hP b e; omega⟩, hb⟩
theorem ST.up (h : In N p) : isDn (ST N f) p.a = false ∧ isDn (ST N f) p.b = false := by
  obtain ⟨h1, h2, h3, h4, _⟩ := h
  have e1 : p.a.toNat < N := by omega
  have e2 : p.b.toNat < N := by omega
  constructor
  · simp [isDn, ST, List.getD, e1]
  · simp [isDn, ST, List.getD, e2]
theorem ST.set_ (l : List ByteArray) : (ST N f).set p l = ST N (upd f p l) := rfl
theorem sd_ok (hI : In N p) {s : ByteArray} (hs : s.size ≤ 262144) (hl : (f p).length ≠ 4096) : sdE (ST N f) p s = 0 ∧ sdS (ST N f) p s = ST N (upd f p (f p ++ [s])) := by
  have e := (ST.up (f := f) hI).1
  have e1 : lkB (ST N f).N p = true := lkB_in hI
  have e2 : ¬ 262144 < s.size := by omega
  have e3 : ¬ ((ST N f).bg p).length = 4096 := hl
  unfold sdE sdS putE putS
  simp only [e1, e2, e, e3, if_true, if_false, Bool.false_eq_true, ST.set_]
  exact ⟨trivial, rfl⟩
theorem sd_full (hI : In N p) {s : ByteArray} (hs : s.size ≤ 262144) (hl : (f p).length = 4096) : sdE (ST N f) p s = 2 ∧ sdS (ST N f) p s = ST N f := by
  have e := (ST.up (f := f) hI).1
  have e1 : lkB (ST N f).N p = true := lkB_in hI
  have e2 : ¬ 262144 < s.size := by omega
  have e3 : ((ST N f).bg p).length = 4096 := hl
  unfold sdE sdS putE putS
  simp only [e1, e2, e, e3, if_true, if_false, Bool.false_eq_true]
  exact ⟨trivial, trivial⟩
theorem sd_long (hI : In N p) {s : ByteArray} (hs : 262144 < s.size) : sdE (ST N f) p s = 2 ∧ sdS (ST N f) p s = ST N f := by
  have e1 : lkB (ST N f).N p = true := lkB_in hI
  unfold sdE sdS
  simp only [e1, hs, if_true]
  exact ⟨trivial, trivial⟩
theorem sd_none (hI : ¬ In N p) (s : ByteArray) : sdE (ST N f) p s = 190 ∧ sdS (ST N f) p s = ST N f := by
  have e1 : lkB (ST N f).N p = false := lkB_not hI
  unfold sdE sdS
  simp only [e1, if_false, Bool.false_eq_true]
  exact ⟨trivial, trivial⟩
theorem let_in (hI : In N p) {k : Nat} (hk : k < (f p).length) : letE (ST N f) p k = 0 ∧ letS (ST N f) p k = (f p).getD k ⟨#[]⟩ := by
  have e1 : lkB (ST N f).N p = true := lkB_in hI
  have e2 : (0 : Int) ≤ (k : Int) ∧ (k : Int) < ((ST N f).bg p).length := ⟨by omega, by show (k : Int) < (f p).length; omega⟩
  unfold letE letS
  rw [if_pos e1, if_pos e1, if_pos e2, if_pos e2]
  exact ⟨rfl, rfl⟩
theorem let_no (hI : In N p) (hk : f p = []) (i : Int) : letE (ST N f) p i = 5 := by
  have e1 : lkB (ST N f).N p = true := lkB_in hI
  unfold letE
  rw [if_pos e1, if_neg]
  show ¬ (0 ≤ i ∧ i < (f p).length)
  rw [hk]
  simp only [List.length_nil]
  omega
theorem cp_ok (hI : In N p) {k : Nat} (hk : k < (f p).length) (hl : (f p).length ≠ 4096) : cpE (ST N f) p k = 0 ∧ cpS (ST N f) p k = ST N (upd f p (f p ++ [(f p).getD k ⟨#[]⟩])) := by
  obtain ⟨e1, e2⟩ := let_in hI hk
  unfold cpE cpS
  rw [if_pos e1, if_pos e1, e2]
  unfold putE putS
  have e3 : ¬ ((ST N f).bg p).length = 4096 := hl
  rw [if_neg e3, if_neg e3]
  exact ⟨rfl, rfl⟩
theorem cp_full (hI : In N p) {k : Nat} (hk : k < (f p).length) (hl : (f p).length = 4096) : cpE (ST N f) p k = 2 ∧ cpS (ST N f) p k = ST N f := by
  obtain ⟨e1, e2⟩ := let_in hI hk
  unfold cpE cpS
  rw [if_pos e1, if_pos e1, e2]
  unfold putE putS
  have e3 : ((ST N f).bg p).length = 4096 := hl
  rw [if_pos e3, if_pos e3]
  exact ⟨rfl, rfl⟩
theorem tk_ok (hI : In N p) {k : Nat} (hk : k < (f p).length) : tkE (ST N f) p k = 0 ∧ tkT (ST N f) p k = (f p).getD k ⟨#[]⟩ ∧ tkS (ST N f) p k = ST N (upd f p ((f p).eraseIdx k)) := by
  obtain ⟨e1, e2⟩ := let_in hI hk
  have e := (ST.up (f := f) hI).2
  have e3 : ¬ (isDn (ST N f) p.b = true) := by rw [e]; decide
  unfold tkE tkT tkS
  rw [if_pos e1, if_pos e1, if_pos e1, if_neg e3, if_neg e3, if_neg e3, e2]
  exact ⟨rfl, rfl, rfl⟩
theorem tk_no (hI : In N p) (hk : f p = []) (i : Int) : tkE (ST N f) p i = 5 ∧ tkT (ST N f) p i = ⟨#[]⟩ ∧ tkS (ST N f) p i = ST N f := by
  have e1 := let_no hI hk i
  have e2 : ¬ letE (ST N f) p i = 0 := by rw [e1]; decide
  unfold tkE tkT tkS
  rw [if_neg e2, if_neg e2, if_neg e2]
  exact ⟨e1, rfl, rfl⟩
/-! The calls. -/
theorem New_nb (N : Nat) (w : World) (h1 : 1 ≤ N) (h2 : N ≤ 65) :
    Calls Try.prog 8 #[.int .i64 (N : Int)] w fun e w' => ∃ n, e = .returned (.tuple #[.pointer (some ⟨n, 0, none⟩), .int .i64 0]) ∧ NB w.heap.size w' n (ST N (fun _ => [])) ∧ Below w.heap.size w w' := by
  refine (New_any N w h1 h2).mono ?_
  rintro e w' ⟨n, P, h1, h2, h3, h4⟩
  exact ⟨n, h1, ⟨P, h2, h3⟩, h4⟩
theorem Send_nb (h : NB B w n S) (p : Pr) (s : ByteArray) :
    Calls Try.prog 14 #[.pointer (some ⟨n, 0, none⟩), .int .i64 p.a, .int .i64 p.b, .string s] w fun e w' => e = .returned (.int .i64 (sdE S p s)) ∧ NB B w' n (sdS S p s) ∧ Below B w w' := by
  have hB := h.le
  obtain ⟨P, ⟨db, mb, tv, sv, D, k, h⟩, hP⟩ := h
  refine (Send_any h p s).mono ?_
  rintro e w' ⟨h1, h2⟩
  exact ⟨h1, h2.nb hP hB⟩
theorem Copy_nb (h : NB B w n S) (p : Pr) (i : Int) :
    Calls Try.prog 15 #[.pointer (some ⟨n, 0, none⟩), .int .i64 p.a, .int .i64 p.b, .int .i64 i] w fun e w' => e = .returned (.int .i64 (cpE S p i)) ∧ NB B w' n (cpS S p i) ∧ Below B w w' := by
  have hB := h.le
  obtain ⟨P, ⟨db, mb, tv, sv, D, k, h⟩, hP⟩ := h
  refine (Copy_any h p i).mono ?_
  rintro e w' ⟨h1, h2⟩
  exact ⟨h1, h2.nb hP hB⟩
theorem Lose_nb (h : NB B w n S) (p : Pr) (i : Int) :
    Calls Try.prog 18 #[.pointer (some ⟨n, 0, none⟩), .int .i64 p.a, .int .i64 p.b, .int .i64 i] w fun e w' => e = .returned (.int .i64 (loE S p i)) ∧ NB B w' n (loS S p i) ∧ Below B w w' := by
  have hB := h.le
  obtain ⟨P, ⟨db, mb, tv, sv, D, k, h⟩, hP⟩ := h
  refine (Lose_any h p i).mono ?_
  rintro e w' ⟨h1, h2⟩
  exact ⟨h1, h2.nb hP hB⟩
theorem Take_nb (h : NB B w n S) (p : Pr) (i : Int) :
    Calls Try.prog 16 #[.pointer (some ⟨n, 0, none⟩), .int .i64 p.a, .int .i64 p.b, .int .i64 i] w fun e w' => e = .returned (.tuple #[.string (tkT S p i), .int .i64 (tkE S p i)]) ∧ NB B w' n (tkS S p i) ∧ Below B w w' := by
  have hB := h.le
  obtain ⟨P, ⟨db, mb, tv, sv, D, k, h⟩, hP⟩ := h
  refine (Take_any h p i).mono ?_
  rintro e w' ⟨h1, h2⟩
  exact ⟨h1, h2.nb hP hB⟩
theorem Bag_nb (h : NB B w n S) (p : Pr) :
    Calls Try.prog 21 #[.pointer (some ⟨n, 0, none⟩), .int .i64 p.a, .int .i64 p.b] w fun e w' => ∃ a c, e = .returned (.tuple #[.slice a (bgL S p).length c, .int .i64 (bgE S p)]) ∧
      w'.ownsRow w.heap.size 9 1 (.slice a (bgL S p).length c) (bgL S p).length (strs (bgL S p)) ∧ Below w.heap.size w w' := by
  obtain ⟨P, ⟨db, mb, tv, sv, D, k, h⟩, hP⟩ := h
  exact Bag_any h p
end
theorem i3 (a b : Int) (ha : 0 ≤ a ∧ a < 3) (hb : 0 ≤ b ∧ b < 3) (hab : a ≠ b) : In 3 ⟨a, b⟩ := ⟨ha.1, ha.2, hb.1, hb.2, hab⟩
set_option maxRecDepth 100000 in
set_option maxHeartbeats 1600000 in
theorem works_any (w : World) : Calls Try.prog 13 #[] w fun e w' => e = .returned (.bool true) ∧ Below w.heap.size w w' := by
  have hI : In 3 ⟨0, 1⟩ := i3 0 1 (by decide) (by decide) (by decide)
  have hJ : ¬ In 3 ⟨0, 0⟩ := fun h => h.2.2.2.2 rfl
  have HN := Lib.hid (New_nb 3 w (by decide) (by decide))
  have q1 := sd_ok (f := fun _ => []) hI (s := (⟨#[97]⟩ : ByteArray)) (by decide) (by decide)
  have q2 := sd_ok (f := upd (fun _ => []) ⟨0, 1⟩ [(⟨#[97]⟩ : ByteArray)]) hI (s := (⟨#[98]⟩ : ByteArray)) (by decide) (by rw [upd_same]; decide)
  rw [upd_same, upd_twice] at q2
  have q3 := cp_ok (f := upd (fun _ => []) ⟨0, 1⟩ [(⟨#[97]⟩ : ByteArray), (⟨#[98]⟩ : ByteArray)]) hI (k := 0) (by rw [upd_same]; decide) (by rw [upd_same]; decide)
  rw [upd_same, upd_twice] at q3
  have q4 := tk_ok (f := upd (fun _ => []) ⟨0, 1⟩ [(⟨#[97]⟩ : ByteArray), (⟨#[98]⟩ : ByteArray), (⟨#[97]⟩ : ByteArray)]) hI (k := 1) (by rw [upd_same]; decide)
  rw [upd_same, upd_twice] at q4
  have q5 : bgE (ST 3 (upd (fun _ => []) ⟨0, 1⟩ [(⟨#[97]⟩ : ByteArray), (⟨#[97]⟩ : ByteArray)])) ⟨0, 1⟩ = 0 ∧ bgL (ST 3 (upd (fun _ => []) ⟨0, 1⟩ [(⟨#[97]⟩ : ByteArray), (⟨#[97]⟩ : ByteArray)])) ⟨0, 1⟩ = [(⟨#[97]⟩ : ByteArray), (⟨#[97]⟩ : ByteArray)] := by
    have e1 : lkB (ST 3 (upd (fun _ => []) ⟨0, 1⟩ [(⟨#[97]⟩ : ByteArray), (⟨#[97]⟩ : ByteArray)])).N ⟨0, 1⟩ = true := lkB_in hI
    unfold bgE bgL
    rw [if_pos e1, if_pos e1]
    exact ⟨rfl, upd_same (fun _ => []) ⟨0, 1⟩ [(⟨#[97]⟩ : ByteArray), (⟨#[97]⟩ : ByteArray)]⟩
  have q6 := sd_none (f := upd (fun _ => []) ⟨0, 1⟩ [(⟨#[97]⟩ : ByteArray), (⟨#[97]⟩ : ByteArray)]) hJ ⟨#[]⟩
  have Q1 := Lib.hid q1
  have Q2 := Lib.hid q2
  have Q3 := Lib.hid q3
  have Q4 := Lib.hid q4
  have Q5 := Lib.hid q5
  have Q6 := Lib.hid q6
  clear q1 q2 q3 q4 q5 q6 hI hJ
  go_enter Try.func13, Try.ntmps13
  go_wp2_with fail
  refine HN.out.mono ?_
  rintro e w1 ⟨n, rfl, h1, hb1⟩
  have H1 := Lib.hid (Send_nb h1 ⟨0, 1⟩ (⟨#[97]⟩ : ByteArray))
  rw [Q1.out.1, Q1.out.2] at H1
  have HB1 := Lib.hid hb1
  clear h1 hb1 HN
  go_wp2_with fail
  refine H1.out.mono ?_
  rintro e w2 ⟨rfl, h2, hb2⟩
  have H2 := Lib.hid (Send_nb h2 ⟨0, 1⟩ (⟨#[98]⟩ : ByteArray))
  rw [show ([] ++ [(⟨#[97]⟩ : ByteArray)] : List ByteArray) = [(⟨#[97]⟩ : ByteArray)] from rfl, Q2.out.1, Q2.out.2] at H2
  have HB2 := Lib.hid (HB1.out.trans hb2)
  clear h2 hb2 HB1
  go_wp2_with fail
  refine H2.out.mono ?_
  rintro e w3 ⟨rfl, h3, hb3⟩
  have H3 := Lib.hid (Copy_nb h3 ⟨0, 1⟩ (0 : Nat))
  rw [show ([(⟨#[97]⟩ : ByteArray)] ++ [(⟨#[98]⟩ : ByteArray)] : List ByteArray) = [(⟨#[97]⟩ : ByteArray), (⟨#[98]⟩ : ByteArray)] from rfl, Q3.out.1, Q3.out.2] at H3
  have HB3 := Lib.hid (HB2.out.trans hb3)
  clear h3 hb3 HB2
  go_wp2_with fail
  refine H3.out.mono ?_
  rintro e w4 ⟨rfl, h4, hb4⟩
  have H4 := Lib.hid (Take_nb h4 ⟨0, 1⟩ (1 : Nat))
  rw [show ([(⟨#[97]⟩ : ByteArray), (⟨#[98]⟩ : ByteArray)] ++ [[(⟨#[97]⟩ : ByteArray), (⟨#[98]⟩ : ByteArray)].getD 0 ⟨#[]⟩] : List ByteArray) = [(⟨#[97]⟩ : ByteArray), (⟨#[98]⟩ : ByteArray), (⟨#[97]⟩ : ByteArray)] from rfl, Q4.out.1, Q4.out.2.1, Q4.out.2.2] at H4
  rw [show ([(⟨#[97]⟩ : ByteArray), (⟨#[98]⟩ : ByteArray), (⟨#[97]⟩ : ByteArray)] : List ByteArray).getD 1 ⟨#[]⟩ = (⟨#[98]⟩ : ByteArray) from rfl, show ([(⟨#[97]⟩ : ByteArray), (⟨#[98]⟩ : ByteArray), (⟨#[97]⟩ : ByteArray)] : List ByteArray).eraseIdx 1 = [(⟨#[97]⟩ : ByteArray), (⟨#[97]⟩ : ByteArray)] from rfl] at H4
  have HB4 := Lib.hid (HB3.out.trans hb4)
  clear h4 hb4 HB3
  go_wp2_with fail
  refine H4.out.mono ?_
  rintro e w5 ⟨rfl, h5, hb5⟩
  have H5 := Lib.hid (Bag_nb h5 ⟨0, 1⟩)
  rw [Q5.out.1, Q5.out.2] at H5
  have HB5 := Lib.hid (HB4.out.trans hb5)
  have HN5 := Lib.hid h5
  clear h5 hb5 HB4
  go_wp2_with fail
  refine H5.out.mono ?_
  rintro e w6 ⟨a, c, rfl, ho6, hb6⟩
  obtain ⟨g, c', hv⟩ := own_form ho6 (by decide)
  injection hv with hv1 hv2 hv3
  subst hv1 hv3
  have z := (ho6.cellAt 1 (by decide)).trans (strs_at [(⟨#[97]⟩ : ByteArray), (⟨#[97]⟩ : ByteArray)] 1 (by decide))
  rw [show ([(⟨#[97]⟩ : ByteArray), (⟨#[97]⟩ : ByteArray)] : List ByteArray).getD 1 ⟨#[]⟩ = ⟨#[97]⟩ from rfl] at z
  have H6 := Lib.hid (Send_nb (HN5.out.on hb6) ⟨0, 0⟩ ⟨#[]⟩)
  rw [Q6.out.1, Q6.out.2] at H6
  have HB6 := Lib.hid (bthen HB5.out hb6 HB5.out.size)
  clear ho6 hb6 HB5 HN5
  go_wp2_with fail
  refine H6.out.mono ?_
  rintro e w7 ⟨rfl, h7, hb7⟩
  have HB7 := Lib.hid (HB6.out.trans hb7)
  clear h7 hb7
  go_wp2_with fail
  go_ret
  exact ⟨rfl, HB7.out⟩
end Go.Proofs.Ytfhlfklgngpklaa
