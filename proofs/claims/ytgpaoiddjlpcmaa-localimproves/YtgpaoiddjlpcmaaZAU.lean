/-
  Moves come to an end: the mathematics.
-/
import Derived.Test.YtgpaoiddjlpcmaaZAQ
namespace Go.Proofs.Ytgpaoiddjlpcmaa
open Go.RowKit
/-- A pair between labels. -/
def btB (L : List Nat) (p : Pr) : Bool := !(L.getD p.a 0 == L.getD p.b 0)
/-- How many pairs are between labels. -/
def bt (P : List Pr) (L : List Nat) : Nat := P.countP (btB L)
theorem cntB_bt (L : List Nat) (P : List Pr) : cntB (ints L) P = bt P L := by
  unfold cntB bt
  rw [List.countP_eq_length_filter]
  congr 1
  refine List.filter_congr (fun p _ => ?_)
  unfold btB
  rw [getD_ints, getD_ints]
  by_cases h : L.getD p.a 0 = L.getD p.b 0
  · rw [h]; simp
  · have h2 : ((L.getD p.a 0 : Nat) : Int) ≠ ((L.getD p.b 0 : Nat) : Int) := by omega
    rw [beq_eq_false_iff_ne.2 h, beq_eq_false_iff_ne.2 h2]
theorem bt_le (P : List Pr) (L : List Nat) : bt P L ≤ P.length := List.countP_le_length
theorem bt_iff {L : List Nat} {p : Pr} : btB L p = true ↔ L.getD p.a 0 ≠ L.getD p.b 0 := by
  unfold btB
  simp
theorem bt_set {L : List Nat} {v x : Nat} (hv : v < L.length) (hx : x ≠ L.getD v 0) : ∀ P : List Pr, (∀ p, p ∈ P → p.a ≠ p.b) → (bt P (L.set v x) : Int) = (bt P L : Int) - (cv P L v x : Int) + (cv P L v (L.getD v 0) : Int)
  | [], _ => by simp [bt, cv]
  | p :: P, hp => by
    have ih := bt_set hv hx P (fun q hq => hp q (List.mem_cons_of_mem _ hq))
    have hne := hp p (List.mem_cons_self ..)
    have c1 : bt (p :: P) (L.set v x) = bt P (L.set v x) + if btB (L.set v x) p = true then 1 else 0 := by unfold bt; rw [List.countP_cons]
    have c2 : bt (p :: P) L = bt P L + if btB L p = true then 1 else 0 := by unfold bt; rw [List.countP_cons]
    have c3 : cv (p :: P) L v x = cv P L v x + if hitV L v x p = true then 1 else 0 := by unfold cv; rw [List.countP_cons]
    have c4 : cv (p :: P) L v (L.getD v 0) = cv P L v (L.getD v 0) + if hitV L v (L.getD v 0) p = true then 1 else 0 := by unfold cv; rw [List.countP_cons]
    have key : ((if btB (L.set v x) p = true then 1 else 0 : Nat) : Int) = ((if btB L p = true then 1 else 0 : Nat) : Int) - ((if hitV L v x p = true then 1 else 0 : Nat) : Int) + ((if hitV L v (L.getD v 0) p = true then 1 else 0 : Nat) : Int) := by
      have ea : (L.set v x).getD p.a 0 = if p.a = v then x else L.getD p.a 0 := getD_setN' hv
      have eb : (L.set v x).getD p.b 0 = if p.b = v then x else L.getD p.b 0 := getD_setN' hv
      simp only [bt_iff, hit_iff]
      rw [ea, eb]
      clear ih c1 c2 c3 c4 ea eb
      by_cases a1 : p.a = v
      · have b1 : p.b ≠ v := fun e => hne (a1.trans e.symm)
        rw [if_pos a1, if_neg b1, a1]
        generalize L.getD v 0 = z at hx ⊢
        generalize L.getD p.b 0 = lb
        generalize p.b = pb at b1 ⊢
        clear hne a1 hp hv
        repeat' split
        all_goals omega
      · rw [if_neg a1]
        by_cases b1 : p.b = v
        · rw [if_pos b1, b1]
          generalize L.getD v 0 = z at hx ⊢
          generalize L.getD p.a 0 = la
          generalize p.a = pa at a1 ⊢
          clear hne hp hv b1
          repeat' split
          all_goals omega
        · rw [if_neg b1]
          generalize L.getD v 0 = z at hx ⊢
          generalize L.getD p.a 0 = la
          generalize L.getD p.b 0 = lb
          generalize p.a = pa at a1 ⊢
          generalize p.b = pb at b1 ⊢
          clear hne hp hv
          repeat' split
          all_goals omega
    rw [c1, c2, c3, c4]
    push_cast
    push_cast at key
    omega
/-- A move leaves as many pairs fewer as it gains. -/
theorem Open.bt {P : List Pr} {L : List Nat} {B v f : Nat} (h : Open P L B v f) (hd : ∀ p, p ∈ P → p.a ≠ p.b) : L.getD f 0 ≠ L.getD v 0 ∧ (bt P (L.set v (L.getD f 0)) : Int) = (bt P L : Int) - gn P L v f := by
  have hg := h.2.2.2.1
  have hne : L.getD f 0 ≠ L.getD v 0 := fun e => by
    unfold gn at hg
    rw [e] at hg
    omega
  refine ⟨hne, ?_⟩
  rw [bt_set h.1 hne P hd]
  unfold gn
  omega
theorem Imp.bt {P : List Pr} {B k m : Nat} {L E : List Nat} (h : Imp P B k L E m) (hd : ∀ p, p ∈ P → p.a ≠ p.b) : bt P E + m ≤ bt P L := by
  induction h with
  | zero => omega
  | stop _ => omega
  | @step k m v f L E hn _ ih =>
    have h1 := hn.1.bt hd
    have h2 := hn.1.2.2.2.1
    omega
/-- Where no pair is between no move is open. -/
theorem no_open {P : List Pr} {L : List Nat} {B v f : Nat} (h : bt P L = 0) : ¬ Open P L B v f := fun ho => by
  have hg := ho.2.2.2.1
  have hne : L.getD f 0 ≠ L.getD v 0 := fun e => by
    unfold gn at hg
    rw [e] at hg
    omega
  have hpos : 0 < cv P L v (L.getD f 0) := by
    unfold gn at hg
    omega
  unfold cv at hpos
  rw [List.countP_pos_iff] at hpos
  obtain ⟨p, hp, hh⟩ := hpos
  unfold Go.Proofs.Ytgpaoiddjlpcmaa.bt at h
  rw [List.countP_eq_zero] at h
  refine h p hp (bt_iff.2 ?_)
  rcases hit_iff.1 hh with ⟨e1, e2⟩ | ⟨e1, e2⟩
  · rw [e1, e2]; exact fun e => hne e.symm
  · rw [e1, e2]; exact hne
theorem Imp.ends {P : List Pr} {B k m : Nat} {L E : List Nat} (h : Imp P B k L E m) : (∀ v f, ¬ Open P E B v f) ∨ m = k := by
  induction h with
  | zero => exact .inr rfl
  | stop h => exact .inl h
  | step _ _ ih => rcases ih with ih | ih
                   · exact .inl ih
                   · exact .inr (by rw [ih])
/-- As many moves as there are pairs between are enough. -/
theorem Imp.last {P : List Pr} {B k m : Nat} {L E : List Nat} (h : Imp P B k L E m) (hd : ∀ p, p ∈ P → p.a ≠ p.b) (hk : Go.Proofs.Ytgpaoiddjlpcmaa.bt P L ≤ k) : ∀ v f, ¬ Open P E B v f := by
  rcases h.ends with h1 | h1
  · exact h1
  · have := h.bt hd
    exact fun v f => no_open (by omega)
theorem Imp.more {P : List Pr} {B k m : Nat} {L E : List Nat} (h : Imp P B k L E m) (hs : ∀ v f, ¬ Open P E B v f) : ∀ K, m ≤ K → Imp P B K L E m := by
  induction h with
  | zero => exact fun K _ => .stop hs
  | stop h => exact fun K _ => .stop h
  | step hn _ ih =>
    intro K hK
    obtain ⟨K', rfl⟩ : ∃ K', K = K' + 1 := ⟨K - 1, by omega⟩
    exact .step hn (ih hs K' (by omega))
theorem Imp.join {P : List Pr} {B k k2 m m2 : Nat} {L E E2 : List Nat} (h : Imp P B k L E m) (h2 : Imp P B k2 E E2 m2) (hs : ∀ v f, ¬ Open P E2 B v f) : ∀ K, m + m2 ≤ K → Imp P B K L E2 (m + m2) := by
  induction h with
  | zero => intro K hK; rw [Nat.zero_add] at hK ⊢; exact h2.more hs K hK
  | stop h => intro K hK; rw [Nat.zero_add] at hK ⊢; exact h2.more hs K hK
  | step hn _ ih =>
    intro K hK
    obtain ⟨K', rfl⟩ : ∃ K', K = K' + 1 := ⟨K - 1, by omega⟩
    rw [Nat.add_right_comm]
    exact .step hn (ih h2 K' (by omega))
/-- No label has more than B. -/
def Und (B : Nat) (L : List Nat) : Prop := ∀ y, L.count y ≤ B
theorem und_set {B : Nat} {L : List Nat} {v x : Nat} (h : Und B L) (hv : v < L.length) (hx : x ≠ L.getD v 0) (hc : L.count x < B) : Und B (L.set v x) := fun y => by
  by_cases c1 : y = x
  · rw [c1, (count_set_at hv hx).1]; omega
  · by_cases c2 : y = L.getD v 0
    · have := (count_set_at hv hx).2
      have := h y
      rw [c2] at this ⊢
      omega
    · rw [count_set_far hv c1 c2]; exact h y
theorem Imp.und {P : List Pr} {B k m : Nat} {L E : List Nat} (h : Imp P B k L E m) (hd : ∀ p, p ∈ P → p.a ≠ p.b) (hu : Und B L) : Und B E := by
  induction h with
  | zero => exact hu
  | stop _ => exact hu
  | step hn _ ih => exact ih (und_set hu hn.1.1 (hn.1.bt hd).1 hn.1.2.2.2.2)
theorem und_pat {B : Nat} {L T : List Nat} (h : Pat L T) (hu : Und B L) : Und B T := fun y => by
  by_cases c : y ∈ T
  · obtain ⟨u, hu1, rfl⟩ := mem_getDN c
    have hu2 : u < L.length := by rw [← h.len]; exact hu1
    rw [h.count hu2]
    exact hu _
  · rw [List.count_eq_zero.2 c]; exact Nat.zero_le _
theorem bt_pat {P : List Pr} {L T : List Nat} (h : Pat L T) (hP : PIn P L.length) : bt P T = bt P L := by
  unfold bt
  refine List.countP_congr (fun p hp => ?_)
  have hp := hP p hp
  rw [bt_iff, bt_iff]
  exact not_congr (h.eq p.a p.b hp.1 hp.2).symm
theorem szL_getD_le {L : List Nat} {B : Nat} (htd : tdy (ints L) 0 = true) (hu : Und B L) (y : Nat) : (szL (ints L)).getD y 0 ≤ B := by rw [sz_cnt htd]; exact hu y
theorem lu_ok {N : Int} {l : List A} {L : List Nat} {B : Nat} (hc : chkE N l = 0) (hN : N = (L.length : Int)) (htd : tdy (ints L) 0 = true) (h1 : 1 ≤ B) (h2 : B ≤ 1024) (hu : Und B L) : cntE N l (ints L) = 0 ∧ luE N l (ints L) (B : Int) = 0 := by
  have hcn : cntE N l (ints L) = 0 := by
    unfold cntE
    rw [hc, if_neg (by simp), ints_len, htd, if_neg (by simp; omega)]
  refine ⟨hcn, ?_⟩
  unfold luE
  rw [hcn, if_neg (by simp), if_neg (by omega)]
  obtain ⟨j, _, e⟩ := mxL_at (szL (ints L)) ((szL (ints L)).length - 1)
  have := szL_getD_le htd hu j
  rw [if_neg (by omega)]
theorem lu_und {N : Int} {l : List A} {L : List Nat} {B : Nat} (h : luE N l (ints L) (B : Int) = 0) (htd : tdy (ints L) 0 = true) : 1 ≤ B ∧ B ≤ 1024 ∧ Und B L := by
  unfold luE at h
  by_cases c0 : cntE N l (ints L) ≠ 0
  · rw [if_pos c0] at h; exact absurd h c0
  · rw [if_neg c0] at h
    by_cases c1 : (B : Int) < 1 ∨ 1024 < (B : Int)
    · rw [if_pos c1] at h; cases h
    · rw [if_neg c1] at h
      by_cases c2 : (B : Int) < ((mxL (szL (ints L)) ((szL (ints L)).length - 1) : Nat) : Int)
      · rw [if_pos c2] at h; cases h
      · refine ⟨by omega, by omega, fun y => ?_⟩
        rw [← sz_cnt htd]
        by_cases c3 : y ≤ (szL (ints L)).length - 1
        · have := mxL_le (szL (ints L)) _ y c3
          omega
        · by_cases c4 : y < (szL (ints L)).length
          · omega
          · simp [List.getD, List.getElem?_eq_none (Nat.le_of_not_lt c4)]
/-- What Improve comes to is right, under the bound. -/
theorem ImR.right {N : Int} {l : List A} {L : List Nat} {B : Nat} {mo : Int} {out : List Nat} {m : Nat} (h : ImR N l (ints L) (B : Int) mo out m) (hlu : luE N l (ints L) (B : Int) = 0) : ∃ E, Imp (prl l) B mo.toNat L E m ∧ out = tdL E ∧ chkE N l = 0 ∧ N = (L.length : Int) ∧ N = (out.length : Int) ∧ tdy (ints L) 0 = true ∧ tdy (ints out) 0 = true ∧ Und B L ∧ Und B out ∧ Pat E out ∧ 1 ≤ B ∧ B ≤ 1024 := by
  obtain ⟨L', B', E, h1, h2, h3, h4, h5, h6, h7⟩ := h
  have e1 : L' = L := by
    have q := congrArg (List.map Int.toNat) h1
    simpa [ints, Function.comp_def] using q.symm
  have e2 : B' = B := by omega
  subst e1
  subst e2
  obtain ⟨b1, b2, hu⟩ := lu_und hlu h5
  have hel := h6.len
  refine ⟨E, h6, h7, h4, h2, ?_, h5, ?_, hu, ?_, ?_, b1, b2⟩
  · rw [h7, tdL_len, hel]; exact h2
  · rw [h7]; exact tdL_right E
  · rw [h7]; exact und_pat (pat_tdL E) (h6.und (prl_ne h4) hu)
  · rw [h7]; exact pat_tdL E
end Go.Proofs.Ytgpaoiddjlpcmaa
