/-
  NetDue: a timer comes due at just its time, once, as long as its node stays up.
-/
import Derived.Test.YtfhlfklgngpklaaTck
namespace Go.Proofs.Ytfhlfklgngpklaa
open Go.RowKit Go.Maps
section
variable {B n : Nat} {w : World} {S : NS}
theorem Set_nb (h : NB B w n S) (hs : Rising S.tm) (a at_ tg : Int) :
    Calls Try.prog 23 #[.pointer (some ⟨n, 0, none⟩), .int .i64 a, .int .i64 at_, .int .i64 tg] w fun e w' => e = .returned (.int .i64 (seE S a at_)) ∧ NB B w' n (seS S a at_ tg) ∧ Below B w w' := by
  have hB := h.le
  obtain ⟨P, ⟨db, mb, tv, sv, D, k, h⟩, hP⟩ := h
  refine (Set_any h hs a at_ tg).mono ?_
  rintro e w' ⟨h1, h2⟩
  exact ⟨h1, h2.nb hP hB⟩
theorem Down_nb (h : NB B w n S) (a : Int) :
    Calls Try.prog 19 #[.pointer (some ⟨n, 0, none⟩), .int .i64 a] w fun e w' => e = .returned (.int .i64 (tuE S a true)) ∧ NB B w' n (dwS S a) ∧ Below B w w' := by
  have hB := h.le
  obtain ⟨P, ⟨db, mb, tv, sv, D, k, h⟩, hP⟩ := h
  refine (Down_any h a).mono ?_
  rintro e w' ⟨h1, h2⟩
  exact ⟨h1, h2.nb hP hB⟩
theorem Up_nb (h : NB B w n S) (a : Int) :
    Calls Try.prog 20 #[.pointer (some ⟨n, 0, none⟩), .int .i64 a] w fun e w' => e = .returned (.int .i64 (tuE S a false)) ∧ NB B w' n (tuS S a false) ∧ Below B w w' := by
  have hB := h.le
  obtain ⟨P, ⟨db, mb, tv, sv, D, k, h⟩, hP⟩ := h
  refine (Up_any h a).mono ?_
  rintro e w' ⟨h1, h2⟩
  exact ⟨h1, h2.nb hP hB⟩
theorem Tick_nb (h : NB B w n S) :
    Calls Try.prog 24 #[.pointer (some ⟨n, 0, none⟩)] w fun e w' => ∃ a c, e = .returned (.tuple #[.slice a (tiL S).length c, .int .i64 (tiE S)]) ∧ w'.ownsRow w.heap.size 53 3 (.slice a (tiL S).length c) (tiL S).length (tmC (tiL S)) ∧ NB B w' n (tiS S) ∧ Below B w w' := by
  have hB := h.le
  obtain ⟨P, ⟨db, mb, tv, sv, D, k, h⟩, hP⟩ := h
  refine (Tick_any h).mono ?_
  rintro e w' ⟨a, c, h1, h2, h3⟩
  exact ⟨a, c, h1, h2, h3.nb hP hB⟩
theorem Now_nb (h : NB B w n S) : Calls Try.prog 25 #[.pointer (some ⟨n, 0, none⟩)] w fun e w' => e = .returned (.int .i64 S.now) ∧ w' = w := by
  obtain ⟨P, ⟨db, mb, tv, sv, D, k, h⟩, hP⟩ := h
  exact Now_any h
end
def t1 (T tg : Int) : Tm := ⟨1, T, tg⟩
def t0 (T tg : Int) : Tm := ⟨0, T, tg⟩
def S2 : NS := ST 2 (fun _ => [])
/-- The net behind its ticks. -/
def DS (T tg now : Int) : NS := ⟨2, [true, false], fun _ => [], if now < T then [t1 T tg] else [], now⟩
theorem set1 (T tg : Int) (h : 1 ≤ T ∧ T ≤ 40) : seE S2 1 T = 0 ∧ seS S2 1 T tg = S2.timed [t1 T tg] := by
  have e : seE S2 1 T = 0 := by
    unfold seE
    rw [if_pos (by decide), if_neg (by decide), if_neg (by show ¬ (T ≤ 0 ∨ 1073741824 < T); omega), if_neg (by decide)]
  refine ⟨e, ?_⟩
  unfold seS
  rw [if_pos e]
  rfl
theorem set0 (T tg : Int) (h : 1 ≤ T ∧ T ≤ 40) : seE (S2.timed [t1 T tg]) 0 T = 0 ∧ seS (S2.timed [t1 T tg]) 0 T tg = S2.timed [t0 T tg, t1 T tg] := by
  have e : seE (S2.timed [t1 T tg]) 0 T = 0 := by
    unfold seE
    rw [if_pos (by show ndB 2 0 = true; decide), if_neg (by show ¬ isDn S2 0 = true; decide), if_neg (by show ¬ (T ≤ 0 ∨ 1073741824 < T); omega), if_neg (by show ¬ (1 = 16384); decide)]
  refine ⟨e, ?_⟩
  unfold seS
  rw [if_pos e]
  have hi : insT ⟨0, T, tg⟩ [t1 T tg] = [t0 T tg, t1 T tg] := by
    have : ahT ⟨0, T, tg⟩ (t1 T tg) = true := by simp [ahT, t1]
    simp [insT, this, t0]
  show (S2.timed [t1 T tg]).timed (insT ⟨0, T, tg⟩ [t1 T tg]) = _
  rw [hi]
  rfl
theorem setr (T tg : Int) : seE (S2.timed [t0 T tg, t1 T tg]) 1 0 = 1 ∧ seS (S2.timed [t0 T tg, t1 T tg]) 1 0 tg = S2.timed [t0 T tg, t1 T tg] := by
  have e : seE (S2.timed [t0 T tg, t1 T tg]) 1 0 = 1 := by
    unfold seE
    rw [if_pos (by show ndB 2 1 = true; decide), if_neg (by show ¬ isDn S2 1 = true; decide), if_pos (Or.inl (by show (0 : Int) ≤ 0; decide))]
  refine ⟨e, ?_⟩
  unfold seS
  rw [e]
  rfl
theorem down0 (T tg : Int) (h : 1 ≤ T ∧ T ≤ 40) : tuE (S2.timed [t0 T tg, t1 T tg]) 0 true = 0 ∧ dwS (S2.timed [t0 T tg, t1 T tg]) 0 = DS T tg 0 := by
  have e : tuE (S2.timed [t0 T tg, t1 T tg]) 0 true = 0 := by
    unfold tuE
    rw [if_pos (by show ndB 2 0 = true; decide), if_neg (by show ¬ isDn S2 0 = true; decide)]
  refine ⟨e, ?_⟩
  unfold dwS
  rw [if_pos e]
  have hf : flt 0 (S2.timed [t0 T tg, t1 T tg]).tm = [t1 T tg] := by
    show flt 0 [t0 T tg, t1 T tg] = _
    simp [flt, t0, t1]
  rw [hf]
  unfold DS
  rw [if_pos (by omega)]
  rfl
theorem tick_ds (T tg : Int) (now : Int) (h0 : 0 ≤ now ∧ now ≤ 100) : tiE (DS T tg now) = 0 ∧ tiL (DS T tg now) = (if now + 1 = T then [t1 T tg] else []) ∧ tiS (DS T tg now) = DS T tg (now + 1) := by
  have hn : ¬ (DS T tg now).now = 1073741824 := by show ¬ now = _; omega
  unfold tiE tiL tiS
  rw [if_neg hn, if_neg hn, if_neg hn]
  have hd : ∀ t, due (DS T tg now) t = decide (t.at_ = now + 1) := fun t => rfl
  have htm : (DS T tg now).tm = if now < T then [t1 T tg] else [] := rfl
  refine ⟨rfl, ?_, ?_⟩
  · rw [htm]
    by_cases h1 : now < T
    · rw [if_pos h1]
      by_cases h2 : now + 1 = T
      · rw [if_pos h2]
        simp [hd, t1, h2]
      · rw [if_neg h2]
        simp [hd, t1, show ¬ T = now + 1 by omega]
    · rw [if_neg h1, if_neg (by omega)]
      rfl
  · rw [htm]
    show NS.timed (NS.clocked (DS T tg now) (now + 1)) _ = _
    by_cases h1 : now < T
    · rw [if_pos h1]
      by_cases h2 : now + 1 = T
      · have : List.dropWhile (due (DS T tg now)) [t1 T tg] = [] := by simp [hd, t1, h2]
        rw [this]
        unfold DS
        rw [if_neg (show ¬ now + 1 < T by omega)]
        rfl
      · have : List.dropWhile (due (DS T tg now)) [t1 T tg] = [t1 T tg] := by simp [hd, t1, show ¬ T = now + 1 by omega]
        rw [this]
        unfold DS
        rw [if_pos (show now + 1 < T by omega)]
        rfl
    · rw [if_neg h1]
      unfold DS
      rw [if_neg (show ¬ now + 1 < T by omega)]
      rfl
theorem one_t {w : World} {B : Nat} {a : Option Addr} {c : Nat} {t : Tm} (h : w.ownsRow B 53 3 (.slice a 1 c) 1 (tmC [t])) : ∃ g, a = some ⟨g, 0, none⟩ ∧ w.cell? ⟨g, 0, none⟩ = some (.int .i64 t.nd) ∧ w.cell? ⟨g, 1, none⟩ = some (.int .i64 t.at_) ∧ w.cell? ⟨g, 2, none⟩ = some (.int .i64 t.tg) := by
  rcases h.2 with ⟨e, h0⟩ | ⟨g, cap, cur, e, e2, e3, e4, e5, e6, e7⟩
  · cases h0
  · injection e with e1 _ _
    refine ⟨g, e1, ?_, ?_, ?_⟩ <;> rw [cell_of_row w g _ cur 53 (0, 0) e3] <;> rw [← Array.getElem?_toList]
    · have := congrArg (fun l => l[0]?) e7
      simpa [tmC] using this
    · have := congrArg (fun l => l[1]?) e7
      simpa [tmC] using this
    · have := congrArg (fun l => l[2]?) e7
      simpa [tmC] using this
set_option maxRecDepth 100000 in
set_option maxHeartbeats 3200000 in
theorem law_due (at_ tg ticks : Int) (W : World) :
    Calls Try.prog 6 #[.int .i64 at_, .int .i64 tg, .int .i64 ticks] W fun e w' => e = .returned (.bool true) ∧ Below W.heap.size W w' := by
  have HN := Lib.hid (New_nb 2 W (by decide) (by decide))
  have hu := amg_bd at_ 40 (by decide)
  have hk := amg_bd ticks 60 (by decide)
  have HA1 := Lib.hid (fun w : World => among_any at_ 40 (by decide) (by decide) w)
  have HA2 := Lib.hid (fun w : World => among_any ticks 60 (by decide) (by decide) w)
  generalize amg at_ 40 = u at *
  generalize amg ticks 60 = k0 at *
  obtain ⟨K, rfl⟩ := Int.eq_ofNat_of_zero_le hk.1
  have hu0 : 0 ≤ u := hu.1
  have hu1 : u < 40 := hu.2
  have hK : K < 60 := by have := hk.2; omega
  clear hu hk
  have HT : Hid (1 ≤ 1 + u ∧ 1 + u ≤ 40) := Lib.hid (by omega)
  go_enter Try.func6, Try.ntmps6
  go_wp2_with fail
  refine HN.out.mono ?_
  rintro e w1 ⟨n, rfl, h1, hb1⟩
  have H1 := Lib.hid h1
  have HB1 := Lib.hid hb1
  clear h1 hb1 HN
  go_wp2_with fail
  refine (works_any w1).mono ?_
  rintro e w2 ⟨rfl, hb2⟩
  have H2 : Hid (NB W.heap.size w2 n S2) := Lib.hid (H1.out.on hb2)
  have HB2 := Lib.hid (bthen HB1.out hb2 HB1.out.size)
  clear hb2 H1 HB1
  go_wp2_with fail
  refine (HA1.out w2).mono ?_
  rintro e w3 ⟨rfl, rfl⟩
  go_wp2_with fail
  refine (HA2.out w3).mono ?_
  rintro e w4 ⟨rfl, rfl⟩
  have HS1 := Lib.hid (Set_nb H2.out List.Pairwise.nil 1 (1 + u) tg)
  rw [(set1 (1 + u) tg HT.out).1, (set1 (1 + u) tg HT.out).2] at HS1
  clear HA1 HA2
  go_wp2_with fail
  refine HS1.out.mono ?_
  rintro e w5 ⟨rfl, h5, hb5⟩
  have HS2 := Lib.hid (Set_nb h5 (List.pairwise_singleton _ _) 0 (1 + u) tg)
  rw [(set0 (1 + u) tg HT.out).1, (set0 (1 + u) tg HT.out).2] at HS2
  have HB5 := Lib.hid (HB2.out.trans hb5)
  clear h5 hb5 H2 HB2 HS1
  go_wp2_with fail
  refine HS2.out.mono ?_
  rintro e w6 ⟨rfl, h6, hb6⟩
  have hri : Rising [t0 (1 + u) tg, t1 (1 + u) tg] := by
    unfold Rising
    simp [ahT, t0, t1]
  have HS3 := Lib.hid (Set_nb h6 hri 1 0 tg)
  rw [(setr (1 + u) tg).1, (setr (1 + u) tg).2] at HS3
  have HB6 := Lib.hid (HB5.out.trans hb6)
  clear h6 hb6 HB5 HS2 hri
  go_wp2_with fail
  refine HS3.out.mono ?_
  rintro e w7 ⟨rfl, h7, hb7⟩
  have HD := Lib.hid (Down_nb h7 0)
  rw [(down0 (1 + u) tg HT.out).1, (down0 (1 + u) tg HT.out).2] at HD
  have HB7 := Lib.hid (HB6.out.trans hb7)
  clear h7 hb7 HB6 HS3
  go_wp2_with fail
  refine HD.out.mono ?_
  rintro e w8 ⟨rfl, h8, hb8⟩
  have H8 := Lib.hid h8
  have HB8 := Lib.hid (HB7.out.trans hb8)
  clear h8 hb8 HB7 HD
  go_wp2_with fail
  go_loopw [9] (fun i wr => ∃ j : Nat, j ≤ K ∧ i = .int .i64 ((j : Int) + 1) ∧ Hid (NB W.heap.size wr n (DS (1 + u) tg (j : Int))) ∧ Hid (Below W.heap.size W wr)) (fun i _ => K + 1 - (intOf i).toNat)
  case atStart => exact ⟨0, by omega, rfl, H8, HB8⟩
  case round =>
    clear H8 HB8
    obtain ⟨j, hj, rfl, H, HB⟩ := hrel
    by_cases hlt : j < K
    · have hle : (j : Int) + 1 ≤ K := by omega
      have hti := tick_ds (1 + u) tg (j : Int) (by omega)
      have HTI := Lib.hid (Tick_nb H.out)
      rw [hti.1, hti.2.1, hti.2.2] at HTI
      clear hti
      by_cases hat : (j : Int) + 1 = 1 + u
      · rw [if_pos hat] at HTI
        have hjb : ((j : Int) + 1 == 1 + u) = true := by simp [hat]
        have HJE := Lib.hid hat
        clear hat
        go_wp2_with fail
        refine HTI.out.mono ?_
        rintro e w9 ⟨a, c, rfl, ho, h9, hb9⟩
        obtain ⟨g, rfl, q0, q1, q2⟩ := one_t ho
        have H9 := Lib.hid h9
        have HB9 := Lib.hid (HB.out.trans hb9)
        have HNW := Lib.hid (Now_nb h9)
        have q1 : w9.cell? ⟨g, 1, none⟩ = some (.int .i64 (1 + u)) := q1
        have q0 : w9.cell? ⟨g, 0, none⟩ = some (.int .i64 1) := q0
        have q2 : w9.cell? ⟨g, 2, none⟩ = some (.int .i64 tg) := q2
        clear ho h9 hb9 HTI
        go_wp2_with fail
        refine HNW.out.mono ?_
        rintro e w10 ⟨rfl, rfl⟩
        go_wp2_with fail
        exact ⟨⟨j + 1, by omega, by go_num, H9, HB9⟩, by simp [intOf]; omega⟩
      · rw [if_neg hat] at HTI
        have hjb : ((j : Int) + 1 == 1 + u) = false := by simp [hat]
        clear hat
        go_wp2_with fail
        refine HTI.out.mono ?_
        rintro e w9 ⟨a, c, rfl, ho, h9, hb9⟩
        have H9 := Lib.hid h9
        have HB9 := Lib.hid (HB.out.trans hb9)
        have HNW := Lib.hid (Now_nb h9)
        clear ho h9 hb9 HTI
        go_wp2_with fail
        refine HNW.out.mono ?_
        rintro e w10 ⟨rfl, rfl⟩
        go_wp2_with fail
        exact ⟨⟨j + 1, by omega, by go_num, H9, HB9⟩, by simp [intOf]; omega⟩
    · have hle : ¬ (j : Int) + 1 ≤ K := by omega
      go_wp2_with fail
      go_ret
      exact ⟨rfl, HB.out⟩
end Go.Proofs.Ytfhlfklgngpklaa
