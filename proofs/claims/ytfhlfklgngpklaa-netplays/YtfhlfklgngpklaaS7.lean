/-
  Both nets stay alike: timers set, ticks. Both nets when they are new. Both nets stay alike: a node turned. A call of both nets: Tick.
-/
import Derived.Test.YtfhlfklgngpklaaS3U
import Derived.Test.YtfhlfklgngpklaaS3D
namespace Go.Proofs.Ytfhlfklgngpklaa
open Go.RowKit Go.Maps
theorem RNew_no (a : Int) (w : World) (h : a < 1 ∨ 65 < a) : Calls Try.prog 9 #[.int .i64 a] w fun e w' => e = .returned (.tuple #[.pointer none, .int .i64 1]) ∧ w' = w := by
  by_cases h1 : a < 1
  · clear h
    go_enter Try.func9, Try.ntmps9
    go_wp2_with fail
    go_ret2
    exact ⟨rfl, rfl⟩
  · have h2 : 65 < a := by omega
    clear h
    go_enter Try.func9, Try.ntmps9
    go_wp2_with fail
    go_ret2
    exact ⟨rfl, rfl⟩
theorem Rel.first (N : Nat) (h1 : 1 ≤ N) (h2 : N ≤ 65) : Rel (ST N (fun _ => [])) (R0 N) 0 := by
  refine ⟨⟨?_, ?_, ?_, ?_, ?_⟩, ⟨rfl, rfl, ?_⟩, ⟨?_, ?_⟩, ⟨h1, h2⟩, ?_, ?_⟩
  · show (List.replicate N true).length = N
    simp
  · show (List.replicate N false).length = N
    simp
  · intro a h0 ha
    have ha : a < N := ha
    have hn : a.toNat < N := by omega
    show (List.replicate N true).getD a.toNat false = !(List.replicate N false).getD a.toNat false
    simp [List.getD, hn]
  · intro p hp
    rfl
  · intro x hx
    cases hx
  · intro t ht
    cases ht
  · show 0 ≤ 0
    omega
  · show 0 ≤ 0
    omega
  · intro p hp
    show 0 ≤ 4096
    omega
  · show (0 : Int) ≤ 0 ∧ (0 : Int) ≤ 1073741824
    omega
end Go.Proofs.Ytfhlfklgngpklaa
namespace Go.Proofs.Ytfhlfklgngpklaa
open Go.RowKit Go.Maps
theorem RelB.turned {S : NS} {R : RS} (h : RelB S R) (a : Int) (x : Bool) (h0 : 0 ≤ a) (h1 : a < S.N) (l m : List Tm) : RelB ((S.turn a x).timed l) ((R.turn a (!x)).left m) := by
  have hn : a.toNat < S.N := by omega
  refine ⟨?_, ?_, ?_, h.bg, h.inn⟩
  · show (R.up.set a.toNat (!x)).length = S.N
    rw [List.length_set]
    exact h.len
  · show (S.dn.set a.toNat x).length = S.N
    rw [List.length_set]
    exact h.dl
  · intro b hb0 hb1
    have hb1 : b < S.N := hb1
    have hu := h.up b hb0 hb1
    show (R.up.set a.toNat (!x)).getD b.toNat false = !(S.dn.set a.toNat x).getD b.toNat false
    have h2 := h.len
    have h3 := h.dl
    by_cases e : a.toNat = b.toNat
    · rw [← e]
      simp [List.getD, hn, h2, h3]
    · unfold upB isDn at hu
      simp only [List.getD, List.getElem?_set_ne e] at hu ⊢
      exact hu
theorem nd_zero {S : NS} {a : Int} {x : Bool} (h : tuE S a x = 0) : 0 ≤ a ∧ a < S.N := by
  unfold tuE at h
  by_cases hn : ndB S.N a = true
  · simpa [ndB] using hn
  · rw [if_neg hn] at h
    cases h
theorem Rel.rise_ {S : NS} {R : RS} (hb : RelB S R) (ht : RelT S R) (a : Int) : RelB (tuS S a false) (riS R a) ∧ RelT (tuS S a false) (riS R a) ∧ (riS R a).ls = R.ls ∧ (riS R a).tm = R.tm := by
  unfold tuS riS
  rw [(hb.rise a).1]
  by_cases e : tuE S a false = 0
  · rw [if_pos e, if_pos e]
    obtain ⟨h0, h1⟩ := nd_zero e
    exact ⟨hb.turned a false h0 h1 S.tm R.tm, ⟨ht.tm, ht.now, ht.lat⟩, rfl, rfl⟩
  · rw [if_neg e, if_neg e]
    exact ⟨hb, ht, rfl, rfl⟩
theorem Rel.fall_ {S : NS} {R : RS} (hb : RelB S R) (ht : RelT S R) (a : Int) : RelB (dwS S a) (rdS R a) ∧ RelT (dwS S a) (rdS R a) ∧ (rdS R a).ls = R.ls ∧ (rdS R a).tm.length ≤ R.tm.length := by
  unfold dwS rdS
  rw [(hb.fall a).1]
  by_cases e : tuE S a true = 0
  · rw [if_pos e, if_pos e]
    obtain ⟨h0, h1⟩ := nd_zero e
    exact ⟨hb.turned a true h0 h1 _ _, ht.fall a _ _ rfl rfl rfl rfl rfl, rfl, flt_len a R.tm⟩
  · rw [if_neg e, if_neg e]
    exact ⟨hb, ht, rfl, Nat.le_refl _⟩
end Go.Proofs.Ytfhlfklgngpklaa
namespace Go.Proofs.Ytfhlfklgngpklaa
open Go.RowKit Go.Maps
theorem Rel.ticks {S : NS} {R : RS} {c : Nat} (h : Rel S R c) : rkE R = tiE S ∧ rkL R = tiL S := by
  obtain ⟨h1, h2⟩ := h.t.tick h.b.len
  have hn := h.n0
  rw [h1]
  unfold tiE tiL
  by_cases e : S.now = 1073741824
  · rw [if_pos e, if_pos e, if_pos (by omega)]
    refine ⟨rfl, ?_⟩
    unfold rkL
    rw [if_pos (by rw [h.t.now]; omega)]
  · rw [if_neg e, if_neg e, if_neg (by omega)]
    exact ⟨rfl, (h2 (by omega)).1⟩
section
variable {w w' : World} {n r : Nat} {P D : Nat → Prop} {S : NS} {R : RS} {c : Nat}
set_option maxRecDepth 100000 in
set_option maxHeartbeats 12800000 in
theorem step_tick (hd : NT w n P S) (hr : RK w r R D) (hj : ∀ k, P k → ¬ D k) (h : Rel S R c) (hc : c ≤ 300) (x : Ac) (hk : amg x.kd 9 = 8) :
    Calls Try.prog 11 #[.pointer (some ⟨n, 0, none⟩), .pointer (some ⟨r, 0, none⟩), .agg #[.int .i64 x.kd, .int .i64 x.fr, .int .i64 x.to_, .int .i64 x.k, .string x.s]] w fun e w' => e = .returned (.bool true) ∧ PTo w w' n r (tiS S) (rkS R) P D := by
  have HR0 := Lib.hid h.ticks
  have hl : R.tm.length ≤ 10000 := by have := h.few.2; omega
  have hu : R.up.length ≤ 65 := by rw [h.b.len]; exact h.big.2
  have hn0 : 0 ≤ R.now := by rw [h.t.now]; exact h.n0.1
  have hst : S.tm.length ≤ 300 := by have := h.few.2; rw [← h.t.len]; omega
  obtain ⟨kd, fr, to_, k, s⟩ := x
  have HA := Lib.hid (fun W : World => among_any kd 9 (by omega) (by omega) W)
  rw [show amg kd 9 = 8 from hk] at HA
  have HJ := Lib.hid hj
  have hb0 : Below w.heap.size w (w.alloc (.cells #[.int .i64 kd, .int .i64 fr, .int .i64 to_, .int .i64 k, .string s] 33)) := (Below.refl _ _).alloc (Nat.le_refl _) _
  have HB0 := Lib.hid hb0
  have HBX := Lib.hid (heap_top w (.cells #[.int .i64 kd, .int .i64 fr, .int .i64 to_, .int .i64 k, .string s] 33))
  obtain ⟨q0, q1, q2, q3, q4⟩ := cells5 HBX.out
  have HRW := Lib.hid (hr.on hb0)
  have HPW := Lib.hid (hd.on hb0)
  obtain ⟨T, HT⟩ := named (tiL S)
  obtain ⟨E, HE⟩ := named (tiE S)
  have HTL : Hid (T.length ≤ 1000000) := Lib.hid (by
    rw [← HT.out]
    unfold tiL
    split
    · simp
    · have := (List.takeWhile_prefix (l := S.tm) (due S)).length_le
      omega)
  have HC1 : Hid (∀ W, NT W n P S → Calls Try.prog 24 #[.pointer (some ⟨n, 0, none⟩)] W fun e w' => ∃ a c, e = .returned (.tuple #[.slice a T.length c, .int .i64 E]) ∧ w'.ownsRow W.heap.size 53 3 (.slice a T.length c) T.length (tmC T) ∧ To W w' n P (tiS S)) := Lib.hid (fun W h => by
    obtain ⟨_, _, _, _, _, _, h⟩ := h
    have := Tick_any h
    rw [HE.out, HT.out] at this
    exact this)
  have HC2 : Hid (∀ W, RK W r R D → Calls Try.prog 35 #[.pointer (some ⟨r, 0, none⟩)] W fun e w' => ∃ a c, e = .returned (.tuple #[.slice a T.length c, .int .i64 E]) ∧ w'.ownsRow W.heap.size 53 3 (.slice a T.length c) T.length (tmC T) ∧ RTo W w' r (rkS R) D) := Lib.hid (fun W h => by
    have := RTick_any h hu hl hn0
    rw [HR0.out.1, HR0.out.2, HE.out, HT.out] at this
    exact this)
  clear hd hr hj hk hb0 h HR0 hc hl HT HE hu hn0 hst
  go_enter Try.func11, Try.ntmps11
  go_wp2_with fail
  refine (HA.out _).mono ?_
  rintro e w1 ⟨rfl, rfl⟩
  go_wp2_with fail
  generalize w.alloc (.cells #[.int .i64 kd, .int .i64 fr, .int .i64 to_, .int .i64 k, .string s] 33) = W0 at *
  have HC1a := Lib.hid (HC1.out W0 HPW.out)
  refine HC1a.out.mono ?_
  rintro e w2 ⟨a1, c1, rfl, ho1, h2⟩
  have H2 := Lib.hid h2
  have HO1 := Lib.hid ho1
  have HC2a := Lib.hid (HC2.out w2 (h2.rk HRW.out HJ.out))
  clear q0 q1 q2 q3 q4 HA ho1 h2 HC1 HC2 HC1a
  go_wp2_with fail
  refine HC2a.out.mono ?_
  rintro e w3 ⟨a2, c2, rfl, ho2, h3⟩
  have H3 := Lib.hid h3
  have ho3 : w3.ownsRow W0.heap.size 53 3 (.slice a1 T.length c1) T.length (tmC T) := by
    obtain ⟨_, _, _, f⟩ := h3
    exact ownsRow_same HO1.out (fun k hk => f.block k (HO1.out.lt k hk).2 (fun e => by have := HRW.out.lt k e; have := (HO1.out.lt k hk).1; omega))
  have HTX := Lib.hid (timers_any T ho3 ho2 HTL.out)
  clear ho2 ho3 h3 HC2a
  go_wp2_with fail
  refine HTX.out.mono ?_
  rintro e w4 ⟨rfl, hb4⟩
  have HB4 := Lib.hid hb4
  clear hb4
  go_wp2_with fail
  go_ret
  exact ⟨by simp, ((PTo.pr HRW.out HJ.out H2.out H3.out).same HB4.out).after HB0.out⟩
end
end Go.Proofs.Ytfhlfklgngpklaa
namespace Go.Proofs.Ytfhlfklgngpklaa
open Go.RowKit Go.Maps
theorem Rel.set_ {S : NS} {R : RS} (hb : RelB S R) (ht : RelT S R) (hf : R.tm.length ≤ 300) (a at_ tg : Int) : rzE R a at_ = seE S a at_ ∧ RelB (seS S a at_ tg) (rzS R a at_ tg) ∧ RelT (seS S a at_ tg) (rzS R a at_ tg) ∧ (rzS R a at_ tg).ls = R.ls ∧ (rzS R a at_ tg).tm.length ≤ R.tm.length + 1 := by
  have hl := ht.len
  have hE : rzE R a at_ = seE S a at_ := by
    unfold rzE seE
    rw [hb.len, ht.now]
    by_cases hn : ndB S.N a = true
    · have h0 : 0 ≤ a ∧ a < S.N := by simpa [ndB] using hn
      rw [if_pos hn, if_pos hn, hb.up a h0.1 h0.2]
      have e1 : ¬ 16384 ≤ R.tm.length := by omega
      have e2 : ¬ S.tm.length = 16384 := by omega
      rw [if_neg e1, if_neg e2]
      cases isDn S a <;> simp
    · rw [if_neg hn, if_neg hn]
  refine ⟨hE, ?_⟩
  unfold rzS seS
  rw [hE]
  by_cases e : seE S a at_ = 0
  · rw [if_pos e, if_pos e]
    have hq : (0 ≤ a ∧ a < S.N) ∧ S.now < at_ := by
      unfold seE at e
      by_cases hn : ndB S.N a = true
      · rw [if_pos hn] at e
        refine ⟨by simpa [ndB] using hn, ?_⟩
        by_cases h1 : isDn S a = true
        · rw [if_pos h1] at e; cases e
        · rw [if_neg h1] at e
          by_cases h2 : at_ ≤ S.now ∨ 1073741824 < at_
          · rw [if_pos h2] at e; cases e
          · omega
      · rw [if_neg hn] at e; cases e
    refine ⟨⟨hb.len, hb.dl, hb.up, hb.bg, hb.inn⟩, ht.set ⟨a, at_, tg⟩ hq.2 hq.1.1 hq.1.2, rfl, ?_⟩
    show (R.tm ++ [_]).length ≤ _
    simp
  · rw [if_neg e, if_neg e]
    exact ⟨hb, ht, rfl, by omega⟩
theorem Rel.tick_ {S : NS} {R : RS} (hb : RelB S R) (ht : RelT S R) (hn : 0 ≤ S.now ∧ S.now ≤ 1073741824) : RelB (tiS S) (rkS R) ∧ RelT (tiS S) (rkS R) ∧ (rkS R).ls = R.ls ∧ (rkS R).tm.length ≤ R.tm.length := by
  by_cases e : S.now = 1073741824
  · have e1 : tiS S = S := by unfold tiS; rw [if_pos e]
    have e2 : rkS R = R := by unfold rkS; rw [if_pos (by rw [ht.now]; omega)]
    rw [e1, e2]
    exact ⟨hb, ht, rfl, Nat.le_refl _⟩
  · have h1 := ((ht.tick hb.len).2 (by omega)).2
    have e1 : tiS S = (S.clocked (S.now + 1)).timed (S.tm.dropWhile (due S)) := by unfold tiS; rw [if_neg e]
    have e2 : rkS R = (R.clocked (R.now + 1)).left (R.tm.filter (notB (R.now + 1))) := by unfold rkS; rw [if_neg (by rw [ht.now]; omega)]
    rw [e1]
    refine ⟨?_, h1, ?_, ?_⟩
    · rw [e2]
      exact ⟨hb.len, hb.dl, hb.up, hb.bg, hb.inn⟩
    · rw [e2]
      rfl
    · rw [e2]
      exact List.length_filter_le _ _
end Go.Proofs.Ytfhlfklgngpklaa
