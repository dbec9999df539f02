/-
  NetPlays: the net answers, call by call, as the document's. A call of both nets: Take. A call of both nets: Bag. A call of both nets, whatever the act: they stay alike.
-/
import Derived.Test.YtfhlfklgngpklaaS3U
import Derived.Test.YtfhlfklgngpklaaS3Z
import Derived.Test.YtfhlfklgngpklaaS7
import Derived.Test.YtfhlfklgngpklaaS3D
import Derived.Test.YtfhlfklgngpklaaS4
import Derived.Test.YtfhlfklgngpklaaR12
import Derived.Test.YtfhlfklgngpklaaGiv
import Derived.Test.YtfhlfklgngpklaaWk
namespace Go.Proofs.Ytfhlfklgngpklaa
open Go.RowKit Go.Maps
section
variable {w w' : World} {n r : Nat} {P D : Nat → Prop} {S : NS} {R : RS} {c : Nat}
set_option maxRecDepth 100000 in
set_option maxHeartbeats 12800000 in
theorem step_take (hd : NT w n P S) (hr : RK w r R D) (hj : ∀ k, P k → ¬ D k) (h : Rel S R c) (hc : c ≤ 300) (x : Ac) (hk : amg x.kd 9 = 1) :
    Calls Try.prog 11 #[.pointer (some ⟨n, 0, none⟩), .pointer (some ⟨r, 0, none⟩), .agg #[.int .i64 x.kd, .int .i64 x.fr, .int .i64 x.to_, .int .i64 x.k, .string x.s]] w fun e w' => e = .returned (.bool true) ∧ PTo w w' n r (tkS S ⟨x.fr, x.to_⟩ x.k) (rtS R ⟨x.fr, x.to_⟩ x.k) P D := by
  have HR0 := Lib.hid (h.b.take ⟨x.fr, x.to_⟩ x.k)
  have hl : R.ls.length ≤ 1000000 := by have := h.few.1; omega
  obtain ⟨kd, fr, to_, k, s⟩ := x
  have HA := Lib.hid (fun W : World => among_any kd 9 (by omega) (by omega) W)
  rw [show amg kd 9 = 1 from hk] at HA
  have HDK := Lib.hid hd
  have HRK := Lib.hid hr
  have HJ := Lib.hid hj
  have hb0 : Below w.heap.size w (w.alloc (.cells #[.int .i64 kd, .int .i64 fr, .int .i64 to_, .int .i64 k, .string s] 33)) := (Below.refl _ _).alloc (Nat.le_refl _) _
  have HB0 := Lib.hid hb0
  have HBX := Lib.hid (heap_top w (.cells #[.int .i64 kd, .int .i64 fr, .int .i64 to_, .int .i64 k, .string s] 33))
  obtain ⟨q0, q1, q2, q3, q4⟩ := cells5 HBX.out
  have HOG : Hid (¬ P w.heap.size) := Lib.hid (fun h => by have := NT.lt hd h; omega)
  have HDG : Hid (¬ D w.heap.size) := Lib.hid (fun h => by have := hr.lt _ h; omega)
  obtain ⟨T, HT⟩ := named (tkT S ⟨fr, to_⟩ k)
  obtain ⟨E, HE⟩ := named (tkE S ⟨fr, to_⟩ k)
  have HC1 : Hid (Calls Try.prog 16 #[.pointer (some ⟨n, 0, none⟩), .int .i64 fr, .int .i64 to_, .int .i64 k] (w.alloc (.cells #[.int .i64 kd, .int .i64 fr, .int .i64 to_, .int .i64 k, .string s] 33)) fun e w' => e = .returned (.tuple #[.string T, .int .i64 E]) ∧ To (w.alloc (.cells #[.int .i64 kd, .int .i64 fr, .int .i64 to_, .int .i64 k, .string s] 33)) w' n P (tkS S ⟨fr, to_⟩ k)) := Lib.hid (by
    obtain ⟨_, _, _, _, _, _, h⟩ := hd.on hb0
    have := Take_any h ⟨fr, to_⟩ k
    rw [HE.out, HT.out] at this
    exact this)
  have HC2 : Hid (∀ W, RK W r R D → Calls Try.prog 27 #[.pointer (some ⟨r, 0, none⟩), .int .i64 fr, .int .i64 to_, .int .i64 k] W fun e w' => e = .returned (.tuple #[.string T, .int .i64 E]) ∧ RTo W w' r (rtS R ⟨fr, to_⟩ k) D) := Lib.hid (fun W h => by
    have := RTake_any h hl ⟨fr, to_⟩ k
    rw [HR0.out.1, HR0.out.2.1] at this
    have e1 : tkE S ⟨fr, to_⟩ k = E := HE.out
    have e2 : tkT S ⟨fr, to_⟩ k = T := HT.out
    rw [e1, e2] at this
    exact this)
  have HRW := Lib.hid (hr.on hb0)
  clear hd hr hj hk hb0 h HR0 hc hl HT HE
  go_enter Try.func11, Try.ntmps11
  go_wp2_with fail
  refine (HA.out _).mono ?_
  rintro e w1 ⟨rfl, rfl⟩
  go_wp2_with fail
  generalize w.alloc (.cells #[.int .i64 kd, .int .i64 fr, .int .i64 to_, .int .i64 k, .string s] 33) = W0 at *
  refine HC1.out.mono ?_
  rintro e w2 ⟨rfl, h2⟩
  have H2 := Lib.hid h2
  obtain ⟨x0, x1, x2, x3, x4⟩ := cells5 (bx_to HBX.out HOG.out h2)
  have HC3 := Lib.hid (HC2.out w2 (h2.rk HRW.out HJ.out))
  clear h2 q0 q1 q2 q3 q4 HA
  go_wp2_with fail
  refine HC3.out.mono ?_
  rintro e w3 ⟨rfl, h3⟩
  have H3 := Lib.hid h3
  clear h3
  go_wp2_with fail
  go_ret
  exact ⟨by simp, (PTo.pr HRW.out HJ.out H2.out H3.out).after HB0.out⟩
end
end Go.Proofs.Ytfhlfklgngpklaa
namespace Go.Proofs.Ytfhlfklgngpklaa
open Go.RowKit Go.Maps
section
variable {w w' : World} {n r : Nat} {P D : Nat → Prop} {S : NS} {R : RS} {c : Nat}
set_option maxRecDepth 100000 in
set_option maxHeartbeats 12800000 in
theorem step_bag (hd : NT w n P S) (hr : RK w r R D) (hj : ∀ k, P k → ¬ D k) (h : Rel S R c) (hc : c ≤ 300) (x : Ac) (hk : amg x.kd 9 = 4) :
    Calls Try.prog 11 #[.pointer (some ⟨n, 0, none⟩), .pointer (some ⟨r, 0, none⟩), .agg #[.int .i64 x.kd, .int .i64 x.fr, .int .i64 x.to_, .int .i64 x.k, .string x.s]] w fun e w' => e = .returned (.bool true) ∧ PTo w w' n r S R P D := by
  have HR0 := Lib.hid (h.b.bagE ⟨x.fr, x.to_⟩)
  have HSH := Lib.hid h.sh
  have hl : R.ls.length ≤ 999999 := by have := h.few.1; omega
  obtain ⟨kd, fr, to_, k, s⟩ := x
  have HA := Lib.hid (fun W : World => among_any kd 9 (by omega) (by omega) W)
  rw [show amg kd 9 = 4 from hk] at HA
  have hb0 : Below w.heap.size w (w.alloc (.cells #[.int .i64 kd, .int .i64 fr, .int .i64 to_, .int .i64 k, .string s] 33)) := (Below.refl _ _).alloc (Nat.le_refl _) _
  have HB0 := Lib.hid hb0
  have HSZ : Hid (w.heap.size < (w.alloc (.cells #[.int .i64 kd, .int .i64 fr, .int .i64 to_, .int .i64 k, .string s] 33)).heap.size) := Lib.hid (by simp)
  have HBX := Lib.hid (heap_top w (.cells #[.int .i64 kd, .int .i64 fr, .int .i64 to_, .int .i64 k, .string s] 33))
  obtain ⟨q0, q1, q2, q3, q4⟩ := cells5 HBX.out
  have HFIN : Hid (∀ w', Below w.heap.size w w' → PTo w w' n r S R P D) := Lib.hid (fun w' hb => ⟨P, D, hd.on hb, hr.on hb, hj, fun _ e => Or.inl e, fun _ e => Or.inl e, Fr.of hb⟩)
  obtain ⟨T, HT⟩ := named (bgL S ⟨fr, to_⟩)
  obtain ⟨E, HE⟩ := named (bgE S ⟨fr, to_⟩)
  have HTL : Hid (T.length ≤ 1000000) := Lib.hid (by
    rw [← HT.out]
    unfold bgL
    by_cases hI : In S.N ⟨fr, to_⟩
    · have := HSH.out _ hI
      rw [lkB_in hI, if_pos rfl]
      omega
    · rw [lkB_not hI, if_neg (by decide)]
      simp)
  have HC1 : Hid (∀ W, Below w.heap.size w W → Calls Try.prog 21 #[.pointer (some ⟨n, 0, none⟩), .int .i64 fr, .int .i64 to_] W fun e w' => ∃ a c, e = .returned (.tuple #[.slice a T.length c, .int .i64 E]) ∧ w'.ownsRow W.heap.size 9 1 (.slice a T.length c) T.length (strs T) ∧ Below W.heap.size W w') := Lib.hid (fun W hb => by
    obtain ⟨_, _, _, _, _, _, h⟩ := hd.on hb
    have := Bag_any h ⟨fr, to_⟩
    rw [HE.out, HT.out] at this
    exact this)
  have HC2 : Hid (∀ W, Below w.heap.size w W → Calls Try.prog 30 #[.pointer (some ⟨r, 0, none⟩), .int .i64 fr, .int .i64 to_] W fun e w' => ∃ a c, e = .returned (.tuple #[.slice a T.length c, .int .i64 E]) ∧ w'.ownsRow W.heap.size 9 1 (.slice a T.length c) T.length (strs T) ∧ Below W.heap.size W w') := Lib.hid (fun W hb => by
    obtain ⟨_, _, _, h, _⟩ := hr.on hb
    have := RBag_any h hl ⟨fr, to_⟩
    have e1 : bgE S ⟨fr, to_⟩ = E := HE.out
    have e2 : bgL S ⟨fr, to_⟩ = T := HT.out
    have e3 : rbE R ⟨fr, to_⟩ = bgE S ⟨fr, to_⟩ := HR0.out.1
    have e4 : rbL R ⟨fr, to_⟩ = bgL S ⟨fr, to_⟩ := HR0.out.2
    rw [e3, e4, e1, e2] at this
    exact this)
  clear hd hr hj hk hb0 h HR0 hc hl HT HE HSH
  go_enter Try.func11, Try.ntmps11
  go_wp2_with fail
  refine (HA.out _).mono ?_
  rintro e w1 ⟨rfl, rfl⟩
  go_wp2_with fail
  generalize w.alloc (.cells #[.int .i64 kd, .int .i64 fr, .int .i64 to_, .int .i64 k, .string s] 33) = W0 at *
  have HC1a := Lib.hid (HC1.out W0 HB0.out)
  refine HC1a.out.mono ?_
  rintro e w2 ⟨a1, c1, rfl, ho1, hb2⟩
  obtain ⟨x0, x1, x2, x3, x4⟩ := cells5 ((hb2.block w.heap.size HSZ.out).trans HBX.out)
  have hb3 := bthen HB0.out hb2 HB0.out.size
  have HB2 := Lib.hid hb3
  have HO1 := Lib.hid ho1
  have HC2a := Lib.hid (HC2.out w2 hb3)
  clear q0 q1 q2 q3 q4 HA ho1 hb2 hb3 HC1 HC2 HC1a
  go_wp2_with fail
  refine HC2a.out.mono ?_
  rintro e w3 ⟨a2, c2, rfl, ho2, hb3⟩
  have HB3 := Lib.hid (bthen HB2.out hb3 HB2.out.size)
  have HTX := Lib.hid (texts_any T (own_below HO1.out hb3) ho2 HTL.out)
  clear ho2 hb3 HC2a x0 x1 x2 x3 x4
  go_wp2_with fail
  refine HTX.out.mono ?_
  rintro e w4 ⟨rfl, hb4⟩
  have HB4 := Lib.hid (bthen HB3.out hb4 HB3.out.size)
  clear hb4
  go_wp2_with fail
  go_ret
  exact ⟨by simp, HFIN.out _ HB4.out⟩
end
end Go.Proofs.Ytfhlfklgngpklaa
namespace Go.Proofs.Ytfhlfklgngpklaa
open Go.RowKit Go.Maps
theorem cut_len (R : RS) (i : Nat) : (R.cut i).ls.length ≤ R.ls.length := by
  show (R.ls.take i ++ R.ls.drop (i + 1)).length ≤ _
  simp
  omega
/-- The letters of the one net changed, and no timer: so do those of the other. -/
structure Same4 (S S' : NS) (R R' : RS) : Prop where
  st : S'.tm = S.tm
  sn : S'.now = S.now
  sN : S'.N = S.N
  rt : R'.tm = R.tm
  rn : R'.now = R.now
  rl : R'.ls.length ≤ R.ls.length + 1
theorem Same4.rt_ {S S' : NS} {R R' : RS} (h : Same4 S S' R R') (ht : RelT S R) : RelT S' R' :=
  ⟨by rw [h.st, h.rt]; exact ht.tm, by rw [h.rn, h.sn]; exact ht.now, by rw [h.sn, h.sN, h.rt]; exact ht.lat⟩
theorem put4 (S : NS) (p : Pr) (s : ByteArray) : (putS S p s).tm = S.tm ∧ (putS S p s).now = S.now ∧ (putS S p s).N = S.N := by
  unfold putS
  repeat' split
  all_goals exact ⟨rfl, rfl, rfl⟩
theorem rput4 (R : RS) (x : Lt) (b : Prop) [Decidable b] : (if b then R.put x else R).tm = R.tm ∧ (if b then R.put x else R).now = R.now ∧ (if b then R.put x else R).ls.length ≤ R.ls.length + 1 := by
  split
  · exact ⟨rfl, rfl, by show (R.ls ++ [_]).length ≤ _; simp⟩
  · exact ⟨rfl, rfl, by omega⟩
theorem rcut4 (R : RS) (i : Nat) (b : Prop) [Decidable b] : (if b then R.cut i else R).tm = R.tm ∧ (if b then R.cut i else R).now = R.now ∧ (if b then R.cut i else R).ls.length ≤ R.ls.length + 1 := by
  have := cut_len R i
  split
  · exact ⟨rfl, rfl, by omega⟩
  · exact ⟨rfl, rfl, by omega⟩
theorem same4_send (S : NS) (R : RS) (p : Pr) (s : ByteArray) : Same4 S (sdS S p s) R (rsS R p s) := by
  obtain ⟨b1, b2, b3⟩ := rput4 R ⟨p, s⟩ (rsE R p s = 0)
  have h : (sdS S p s).tm = S.tm ∧ (sdS S p s).now = S.now ∧ (sdS S p s).N = S.N := by
    unfold sdS
    repeat' split
    all_goals first | exact put4 S p s | exact ⟨rfl, rfl, rfl⟩
  exact ⟨h.1, h.2.1, h.2.2, b1, b2, b3⟩
theorem same4_copy (S : NS) (R : RS) (p : Pr) (k : Int) : Same4 S (cpS S p k) R (rcS R p k) := by
  obtain ⟨b1, b2, b3⟩ := rput4 R (R.ls.getD (rfP R p k) lz) (rcE R p k = 0)
  have h : (cpS S p k).tm = S.tm ∧ (cpS S p k).now = S.now ∧ (cpS S p k).N = S.N := by
    unfold cpS
    split
    · exact put4 S p _
    · exact ⟨rfl, rfl, rfl⟩
  exact ⟨h.1, h.2.1, h.2.2, b1, b2, b3⟩
theorem same4_lose (S : NS) (R : RS) (p : Pr) (k : Int) : Same4 S (loS S p k) R (rlS R p k) := by
  obtain ⟨b1, b2, b3⟩ := rcut4 R (rfP R p k) (rfE R p k = 0)
  have h : (loS S p k).tm = S.tm ∧ (loS S p k).now = S.now ∧ (loS S p k).N = S.N := by
    unfold loS
    repeat' split
    all_goals exact ⟨rfl, rfl, rfl⟩
  exact ⟨h.1, h.2.1, h.2.2, b1, b2, b3⟩
theorem same4_take (S : NS) (R : RS) (p : Pr) (k : Int) : Same4 S (tkS S p k) R (rtS R p k) := by
  obtain ⟨b1, b2, b3⟩ := rcut4 R (rfP R p k) (rtE R p k = 0)
  have h : (tkS S p k).tm = S.tm ∧ (tkS S p k).now = S.now ∧ (tkS S p k).N = S.N := by
    unfold tkS
    repeat' split
    all_goals exact ⟨rfl, rfl, rfl⟩
  exact ⟨h.1, h.2.1, h.2.2, b1, b2, b3⟩
/-- Both nets, apart, alike, in blocks from B on. -/
def PP (B : Nat) (w : World) (n r c : Nat) : Prop := ∃ S R P D, NT w n P S ∧ RK w r R D ∧ (∀ k, P k → ¬ D k) ∧ (∀ k, P k → B ≤ k) ∧ (∀ k, D k → B ≤ k) ∧ Rel S R c
section
variable {B n r c : Nat} {w w' : World}
theorem PP.on (h : PP B w n r c) (hb : Below w.heap.size w w') : PP B w' n r c := by
  obtain ⟨S, R, P, D, h1, h2, h3⟩ := h
  exact ⟨S, R, P, D, h1.on hb, h2.on hb, h3⟩
theorem PP.le (h : PP B w n r c) : B ≤ w.heap.size := by
  obtain ⟨S, R, P, D, ⟨_, _, _, _, _, _, h1⟩, _, _, h4, _⟩ := h
  have := h4 _ h1.on
  have := h1.lt _ h1.on
  omega
theorem Rel.next {S : NS} {R : RS} {P : Nat → Prop} (h : NT w n P S) (hb : RelB S R) (ht : RelT S R) (hf : R.ls.length ≤ c ∧ R.tm.length ≤ c) : Rel S R c := by
  obtain ⟨_, _, _, _, _, _, h⟩ := h
  exact ⟨hb, ht, hf, h.hN, fun p hp => (h.short p hp).1, h.now0⟩
theorem PTo.pp {P D : Nat → Prop} {S' : NS} {R' : RS} (h : PTo w w' n r S' R' P D) (hB : B ≤ w.heap.size) (hP : ∀ k, P k → B ≤ k) (hD : ∀ k, D k → B ≤ k) (hb : RelB S' R') (ht : RelT S' R') (hf : R'.ls.length ≤ c ∧ R'.tm.length ≤ c) : PP B w' n r c ∧ Below B w w' := by
  obtain ⟨P', D', h1, h2, h3, h4, h5, f⟩ := h
  refine ⟨⟨S', R', P', D', h1, h2, h3, fun k hk => ?_, fun k hk => ?_, Rel.next h1 hb ht hf⟩, f.below hB (fun k hk => hk.elim (hP k) (hD k))⟩
  · rcases h4 k hk with e | e
    · exact hP k e
    · omega
  · rcases h5 k hk with e | e
    · exact hD k e
    · omega
theorem step_p (h : PP B w n r c) (hc : c < 300) (x : Ac) :
    Calls Try.prog 11 #[.pointer (some ⟨n, 0, none⟩), .pointer (some ⟨r, 0, none⟩), .agg #[.int .i64 x.kd, .int .i64 x.fr, .int .i64 x.to_, .int .i64 x.k, .string x.s]] w fun e w' => e = .returned (.bool true) ∧ PP B w' n r (c + 1) ∧ Below B w w' := by
  have hB := h.le
  obtain ⟨S, R, P, D, h1, h2, h3, h4, h5, h6⟩ := h
  obtain ⟨f1, f2⟩ := h6.few
  have hk : 0 ≤ amg x.kd 9 ∧ amg x.kd 9 < 9 := by unfold amg; omega
  have hc' : c ≤ 300 := by omega
  have hkk : amg x.kd 9 = 0 ∨ amg x.kd 9 = 1 ∨ amg x.kd 9 = 2 ∨ amg x.kd 9 = 3 ∨ amg x.kd 9 = 4 ∨ amg x.kd 9 = 5 ∨ amg x.kd 9 = 6 ∨ amg x.kd 9 = 7 ∨ amg x.kd 9 = 8 := by omega
  rcases hkk with hk | hk | hk | hk | hk | hk | hk | hk | hk
  · refine (step_send h1 h2 h3 h6 hc' x hk).mono ?_
    rintro e w' ⟨rfl, h⟩
    have s := same4_send S R ⟨x.fr, x.to_⟩ x.s
    exact ⟨rfl, h.pp hB h4 h5 (h6.b.send h6.sh _ _).2 (s.rt_ h6.t) ⟨by have := s.rl; omega, by rw [s.rt]; omega⟩⟩
  · refine (step_take h1 h2 h3 h6 hc' x hk).mono ?_
    rintro e w' ⟨rfl, h⟩
    have s := same4_take S R ⟨x.fr, x.to_⟩ x.k
    exact ⟨rfl, h.pp hB h4 h5 (h6.b.take _ _).2.2 (s.rt_ h6.t) ⟨by have := s.rl; omega, by rw [s.rt]; omega⟩⟩
  · refine (step_copy h1 h2 h3 h6 hc' x hk).mono ?_
    rintro e w' ⟨rfl, h⟩
    have s := same4_copy S R ⟨x.fr, x.to_⟩ x.k
    exact ⟨rfl, h.pp hB h4 h5 (h6.b.copy h6.sh _ _).2 (s.rt_ h6.t) ⟨by have := s.rl; omega, by rw [s.rt]; omega⟩⟩
  · refine (step_lose h1 h2 h3 h6 hc' x hk).mono ?_
    rintro e w' ⟨rfl, h⟩
    have s := same4_lose S R ⟨x.fr, x.to_⟩ x.k
    exact ⟨rfl, h.pp hB h4 h5 (h6.b.lose _ _).2 (s.rt_ h6.t) ⟨by have := s.rl; omega, by rw [s.rt]; omega⟩⟩
  · refine (step_bag h1 h2 h3 h6 hc' x hk).mono ?_
    rintro e w' ⟨rfl, h⟩
    exact ⟨rfl, h.pp hB h4 h5 h6.b h6.t ⟨by omega, by omega⟩⟩
  · refine (step_down h1 h2 h3 h6 hc' x hk).mono ?_
    rintro e w' ⟨rfl, h⟩
    obtain ⟨a1, a2, a3, a4⟩ := Rel.fall_ h6.b h6.t x.fr
    exact ⟨rfl, h.pp hB h4 h5 a1 a2 ⟨by rw [a3]; omega, by omega⟩⟩
  · refine (step_up h1 h2 h3 h6 hc' x hk).mono ?_
    rintro e w' ⟨rfl, h⟩
    obtain ⟨a1, a2, a3, a4⟩ := Rel.rise_ h6.b h6.t x.fr
    exact ⟨rfl, h.pp hB h4 h5 a1 a2 ⟨by rw [a3]; omega, by rw [a4]; omega⟩⟩
  · refine (step_set h1 h2 h3 h6 hc' x hk).mono ?_
    rintro e w' ⟨rfl, h⟩
    obtain ⟨_, a1, a2, a3, a4⟩ := Rel.set_ h6.b h6.t (by omega) x.fr x.k x.to_
    exact ⟨rfl, h.pp hB h4 h5 a1 a2 ⟨by rw [a3]; omega, by omega⟩⟩
  · refine (step_tick h1 h2 h3 h6 hc' x hk).mono ?_
    rintro e w' ⟨rfl, h⟩
    obtain ⟨a1, a2, a3, a4⟩ := Rel.tick_ h6.b h6.t h6.n0
    exact ⟨rfl, h.pp hB h4 h5 a1 a2 ⟨by rw [a3]; omega, by omega⟩⟩
theorem same_p (h : PP B w n r c) (hc : c ≤ 300) :
    Calls Try.prog 12 #[.pointer (some ⟨n, 0, none⟩), .pointer (some ⟨r, 0, none⟩)] w fun e w' => e = .returned (.bool true) ∧ PP B w' n r c ∧ Below B w w' := by
  have hB := h.le
  have h0 := h
  obtain ⟨S, R, P, D, h1, h2, h3, h4, h5, h6⟩ := h
  refine (same_any h1 h2 h6.b h6.t.now h6.big.2 (by have := h6.few.1; omega)).mono ?_
  rintro e w' ⟨rfl, h⟩
  exact ⟨rfl, h0.on h, h.mono hB⟩
theorem news_p (N : Nat) (w : World) (h1 : 1 ≤ N) (h2 : N ≤ 65) :
    Calls Try.prog 8 #[.int .i64 (N : Int)] w fun e w' => ∃ n, e = .returned (.tuple #[.pointer (some ⟨n, 0, none⟩), .int .i64 0]) ∧ Below w.heap.size w w' ∧ ∀ w2, Below w'.heap.size w' w2 →
      Calls Try.prog 9 #[.int .i64 (N : Int)] w2 fun e w3 => ∃ r, e = .returned (.tuple #[.pointer (some ⟨r, 0, none⟩), .int .i64 0]) ∧ PP w.heap.size w3 n r 0 ∧ Below w.heap.size w w3 := by
  refine (New_any N w h1 h2).mono ?_
  rintro e w' ⟨n, P, rfl, hn, hP, hb⟩
  refine ⟨n, rfl, hb, fun w2 hb2 => ?_⟩
  refine (RNew_any N w2 h1 h2).mono ?_
  rintro e w3 ⟨r, D, rfl, hr, hD, hb3⟩
  have hs := hb.size
  have hs2 := hb2.size
  have hn2 := hn.on hb2
  refine ⟨r, rfl, ⟨_, _, P, D, hn2.on hb3, hr, fun k hk hd => ?_, hP, fun k hk => ?_, Rel.first N h1 h2⟩, (hb.trans (hb2.mono hs)).trans (hb3.mono (by omega))⟩
  · have := NT.lt hn2 hk
    have := hD k hd
    omega
  · have := hD k hk
    omega
end
end Go.Proofs.Ytfhlfklgngpklaa
namespace Go.Proofs.Ytfhlfklgngpklaa
open Go.RowKit Go.Maps
set_option maxRecDepth 100000 in
set_option maxHeartbeats 12800000 in
theorem plays_no (nodes : Int) (a : Option Addr) (L cap : Nat) (W : World) (h : nodes < 1 ∨ 65 < nodes) :
    Calls Try.prog 3 #[.int .i64 nodes, .slice a L cap] W fun e w' => e = .returned (.bool true) ∧ Below W.heap.size W w' := by
  have H1 := Lib.hid (fun w : World => New_no nodes w h)
  have H2 := Lib.hid (fun w : World => RNew_no nodes w h)
  clear h
  go_enter Try.func3, Try.ntmps3
  go_wp2_with fail
  refine (H1.out W).mono ?_
  rintro e w1 ⟨rfl, e1⟩
  obtain rfl : W = w1 := e1.symm
  go_wp2_with fail
  refine (H2.out W).mono ?_
  rintro e w2 ⟨rfl, e2⟩
  obtain rfl : W = w2 := e2.symm
  go_wp2_with fail
  refine (names_any W).mono ?_
  rintro e w3 ⟨rfl, e3⟩
  obtain rfl : W = w3 := e3.symm
  go_wp2_with fail
  go_loopw [9] (fun i wr => i = .int .i64 0 ∧ Hid (Below W.heap.size W wr)) (fun _ _ => 0)
  case atStart => exact ⟨rfl, Below.refl _ _⟩
  case round =>
    obtain ⟨rfl, HB⟩ := hrel
    go_wp2_with fail
    refine (works_any wr).mono ?_
    rintro e w4 ⟨rfl, hb4⟩
    have HB4 := Lib.hid (HB.out.trans (hb4.mono HB.out.size))
    clear hb4
    go_wp2_with fail
    go_ret
    exact ⟨rfl, HB4.out⟩
set_option maxRecDepth 100000 in
set_option maxHeartbeats 12800000 in
theorem plays_yes (N : Nat) (h1 : 1 ≤ N) (h2 : N ≤ 65) (a : Option Addr) (l : List Ac) (cap : Nat) (W : World) (hl : l.length ≤ 140737488351232) (hr : Acs W.heap.size W a l) :
    Calls Try.prog 3 #[.int .i64 (N : Int), .slice a l.length cap] W fun e w' => e = .returned (.bool true) ∧ Below W.heap.size W w' := by
  have HACS := Lib.hid hr
  obtain ⟨L, HL⟩ := named l.length
  rw [HL.out]
  have hL : L ≤ 140737488351232 := by rw [← HL.out]; exact hl
  clear hr hl
  have HN := Lib.hid (news_p N W h1 h2)
  go_enter Try.func3, Try.ntmps3
  go_wp2_with fail
  refine HN.out.mono ?_
  rintro e w1 ⟨n, rfl, hb1, hr1⟩
  have HR := Lib.hid (hr1 w1 (Below.refl _ _))
  clear HN hr1 hb1
  go_wp2_with fail
  refine HR.out.mono ?_
  rintro e w2 ⟨r, rfl, hp, hb2⟩
  have HP := Lib.hid hp
  have HB2 := Lib.hid hb2
  clear hp hb2 HR
  go_wp2_with fail
  refine (names_any w2).mono ?_
  rintro e w3 ⟨rfl, e3⟩
  obtain rfl : w2 = w3 := e3.symm
  go_wp2_with fail
  go_loopw [9] (fun i wr => ∃ j : Nat, j ≤ L ∧ j ≤ 300 ∧ i = .int .i64 j ∧ Hid (PP W.heap.size wr n r j) ∧ Hid (Below W.heap.size W wr)) (fun i _ => L - (intOf i).toNat)
  case atStart => exact ⟨0, by omega, by omega, rfl, HP, HB2⟩
  case round =>
    clear HP HB2
    obtain ⟨j, hj, hj3, rfl, HP, HB⟩ := hrel
    by_cases hgo : j < L ∧ j < 300
    · obtain ⟨hlt, hh⟩ := hgo
      have hjl : j < l.length := by rw [HL.out]; exact hlt
      obtain ⟨bb, o, rfl, hbb, hat⟩ := HACS.out (by omega)
      obtain ⟨p0, p1, p2, p3, p4, hok⟩ := hat j hjl
      clear hat hok
      generalize l[j] = x at *
      have q0 := (HB.out.cell (p := ⟨bb, o + j * 5, none⟩) hbb).trans p0
      have q1 := (HB.out.cell (p := ⟨bb, o + j * 5 + 1, none⟩) hbb).trans p1
      have q2 := (HB.out.cell (p := ⟨bb, o + j * 5 + 2, none⟩) hbb).trans p2
      have q3 := (HB.out.cell (p := ⟨bb, o + j * 5 + 3, none⟩) hbb).trans p3
      have q4 := (HB.out.cell (p := ⟨bb, o + j * 5 + 4, none⟩) hbb).trans p4
      clear p0 p1 p2 p3 p4
      have HS := Lib.hid (step_p HP.out hh x)
      clear HP
      go_wp2_with fail
      refine HS.out.mono ?_
      rintro e w4 ⟨rfl, hp4, hb4⟩
      have HM := Lib.hid (same_p hp4 (by omega))
      have HB4 := Lib.hid (HB.out.trans hb4)
      clear hp4 hb4 HS HB q0 q1 q2 q3 q4
      go_wp2_with fail
      refine HM.out.mono ?_
      rintro e w5 ⟨rfl, hp5, hb5⟩
      have HP5 := Lib.hid hp5
      have HB5 := Lib.hid (HB4.out.trans hb5)
      clear hp5 hb5 HM HB4
      go_wp2_with fail
      exact ⟨⟨j + 1, by omega, by omega, by go_num, HP5, HB5⟩, by simp [intOf]; omega⟩
    · have HW := Lib.hid (works_any wr)
      clear HP HACS
      by_cases hlt : j < L
      · have hh : ¬ j < 300 := fun h => hgo ⟨hlt, h⟩
        clear hgo
        go_wp2_with fail
        refine HW.out.mono ?_
        rintro e w4 ⟨rfl, hb4⟩
        have HB4 := Lib.hid (HB.out.trans (hb4.mono HB.out.size))
        clear hb4 HW
        go_wp2_with fail
        go_ret
        exact ⟨rfl, HB4.out⟩
      · clear hgo
        go_wp2_with fail
        refine HW.out.mono ?_
        rintro e w4 ⟨rfl, hb4⟩
        have HB4 := Lib.hid (HB.out.trans (hb4.mono HB.out.size))
        clear hb4 HW
        go_wp2_with fail
        go_ret
        exact ⟨rfl, HB4.out⟩
theorem law_plays (nodes : Int) (a : Option Addr) (l : List Ac) (cap : Nat) (W : World) (hl : l.length ≤ 140737488351232) (hr : Acs W.heap.size W a l) :
    Calls Try.prog 3 #[.int .i64 nodes, .slice a l.length cap] W fun e w' => e = .returned (.bool true) ∧ Below W.heap.size W w' := by
  by_cases h : nodes < 1 ∨ 65 < nodes
  · exact plays_no nodes a l.length cap W h
  · obtain ⟨N, rfl⟩ := Int.eq_ofNat_of_zero_le (a := nodes) (by omega)
    exact plays_yes N (by omega) (by omega) a l cap W hl hr
end Go.Proofs.Ytfhlfklgngpklaa
