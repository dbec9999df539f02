/-
  The reference's next move: the mathematics. The reference's Wrong. How many neighbours a vertex has in a label: the mathematics.
-/
import Derived.Test.YtgpaoiddjlpcmaaZAW
import Derived.Test.YtgpaoiddjlpcmaaZAV
namespace Go.Proofs.Ytgpaoiddjlpcmaa
open Go.RowKit
theorem szL_len2 (xs : List Int) : ∀ k, k ≤ xs.length → (szL (xs.take k)).length ≤ k
  | 0, _ => by simp [szL]
  | k + 1, h => by
    have ih := szL_len2 xs k (by omega)
    rw [take_snocI (by omega), szL_snoc]
    unfold szS
    split
    · simp; omega
    · rw [List.length_set]; omega
set_option maxRecDepth 100000 in
set_option maxHeartbeats 1600000 in
theorem wrong_any (N : Int) (a : Option Addr) (l : List A) (cap : Nat) (b : Option Addr) (xs : List Int) (bc : Nat) (bd : Int) (w : World) (hl : l.length ≤ 9223372036854775807) (hx : xs.length ≤ 9223372036854775807) (hr : Arcs w a l) (hi : Ints w b xs) :
    Calls Try.prog 32 #[.agg #[.int .i64 N, .slice a l.length cap], .slice b xs.length bc, .int .i64 bd] w fun e w' => e = .returned (.int .i64 (luE N l xs bd)) ∧ Below w.heap.size w w' := by
  have hb0 : Below w.heap.size w (w.alloc (.cells #[.int .i64 N, .slice a l.length cap] 24)) := (Below.refl _ _).alloc (Nat.le_refl _) _
  have hg := heap_top w (.cells #[.int .i64 N, .slice a l.length cap] 24)
  have HI := Lib.hid (hi.on hb0)
  have HB0 := Lib.hid hb0
  have hwz : w.heap.size ≤ (w.alloc (.cells #[.int .i64 N, .slice a l.length cap] 24)).heap.size := hb0.size
  have HLK := Lib.hid (looked_any N a l cap b xs bc (w.alloc (.cells #[.int .i64 N, .slice a l.length cap] 24)) hl hx (hr.on hb0) (hi.on hb0))
  obtain ⟨V, HV⟩ := named (luE N l xs bd)
  rw [HV.out]
  have hsc := si_cnt N l xs
  obtain ⟨E, HE⟩ := named (siE N l xs)
  have HEC : Hid (cntE N l xs = E) := hsc.symm.trans HE.out
  clear hsc
  rw [HE.out] at HLK
  obtain ⟨⟨c0, c1⟩, _⟩ := two_cells hg
  clear hb0 hr hi hg
  generalize hp : w.heap.size = p at *
  go_enter Try.func32, Try.ntmps32
  go_wp2_with fail
  generalize hW : w.alloc (.cells #[.int .i64 N, .slice a l.length cap] 24) = W at *
  clear hW
  refine HLK.out.mono ?_
  rintro e w1 ⟨rfl, hb1⟩
  have HB1 : Hid (Below p w w1) := HB0.out.trans (hb1.mono hwz)
  have HI1 := Lib.hid (HI.out.on hb1)
  have hwz1 : p ≤ w1.heap.size := Nat.le_trans hwz hb1.size
  clear hb1 HLK c0 c1
  by_cases hE : E ≠ 0
  · have e1 : (E != 0) = true := by simpa using hE
    obtain rfl : V = E := by rw [← HV.out]; unfold luE; rw [HEC.out, if_pos hE]
    go_wp2_with fail
    go_ret
    exact ⟨rfl, HB1.out⟩
  obtain rfl : E = 0 := by omega
  clear hE
  have HVS : Hid (V = if bd < 1 ∨ 1024 < bd then 1 else if bd < ((mxL (szL xs) ((szL xs).length - 1) : Nat) : Int) then 90 else 0) := by
    show V = _
    rw [← HV.out]
    unfold luE
    rw [HEC.out, if_neg (by simp)]
  by_cases h1 : bd < 1
  · obtain rfl : V = 1 := by rw [HVS.out, if_pos (.inl h1)]
    go_wp2_with fail
    go_ret
    exact ⟨rfl, HB1.out⟩
  by_cases h2 : 1024 < bd
  · obtain rfl : V = 1 := by rw [HVS.out, if_pos (.inr h2)]
    go_wp2_with fail
    go_ret
    exact ⟨rfl, HB1.out⟩
  rw [if_neg (show ¬ (bd < 1 ∨ 1024 < bd) by omega)] at HVS
  have hz : xs.length ≤ 1024 ∧ tdy xs 0 = true ∧ 0 < xs.length := by
    have h := HE.out
    unfold siE at h
    by_cases c : chkE N l ≠ 0
    · rw [if_pos c] at h; exact absurd h c
    · rw [if_neg c] at h
      have c' : chkE N l = 0 := by omega
      have hN := chk_zero c'
      have hN2 := hN.2.1
      unfold szE at h
      by_cases q : (xs.length : Int) ≠ N ∨ tdy xs 0 = false
      · rw [if_pos q] at h; omega
      · refine ⟨by omega, ?_, by have := hN.1; omega⟩
        cases t : tdy xs 0
        · exact absurd (.inr t) q
        · rfl
  have HSZ := Lib.hid (rsize_any b xs bc w1 hz.1 hz.2.1 HI1.out)
  obtain ⟨R, HR⟩ := named (szL xs)
  have h0 : 0 < R.length := by
    have e := ints_back hz.2.1
    have t := hz.2.1
    have l0 := hz.2.2
    rw [e] at t
    have q := lab_lt t (u := 0) (by rw [List.length_map]; exact l0)
    rw [← e, HR.out] at q
    omega
  have hRl : R.length ≤ 1024 := by
    have q := szL_len2 xs xs.length (Nat.le_refl _)
    rw [List.take_length, HR.out] at q
    omega
  rw [HR.out] at HSZ HVS
  clear hz
  go_wp2_with fail
  refine HSZ.out.mono ?_
  rintro e w2 ⟨v2, c2, rfl, hown2, hb2⟩
  have HI2 := Lib.hid (own_ints hown2 rfl)
  have HB2 : Hid (Below p w w2) := HB1.out.trans (hb2.mono hwz1)
  clear hown2 hb2 HSZ
  obtain ⟨g2, o2, hget⟩ := HI2.out.get
  rw [ints_len] at hget
  · obtain ⟨hv2, _, hc2⟩ := hget h0
    subst hv2
    have HGT := Lib.hid hc2
    clear hget hc2
    go_wp2_with fail
    go_loopw [9] (fun i wr => ∃ j : Nat, j ≤ R.length ∧ i = .int .i64 (j : Int) ∧ Hid (∀ u, u < j → ¬ bd < ((R.getD u 0 : Nat) : Int)) ∧ wr = w2) (fun i _ => R.length - (intOf i).toNat)
    case atStart => exact ⟨0, Nat.zero_le _, rfl, fun u hu => absurd hu (Nat.not_lt_zero _), rfl⟩
    case round =>
      obtain ⟨j, hj, rfl, HS, rfl⟩ := hrel
      by_cases hlk : j < R.length
      · have hlk' : (j : Int) < R.length := by omega
        have c := HGT.out j hlk
        rw [ints_at hlk] at c
        obtain ⟨z, HZ⟩ := named (R.getD j 0)
        rw [HZ.out] at c
        by_cases he : bd < (z : Int)
        · obtain rfl : V = 90 := by
            have q := mxL_le R (R.length - 1) j (by omega)
            rw [HZ.out] at q
            rw [HVS.out, if_pos (by omega)]
          go_wp2_with fail
          refine bodyPost_ret (results_tmp rfl _ _ _) rfl ?_
          exact ⟨rfl, HB2.out⟩
        · have HS3 : Hid (∀ u, u < j + 1 → ¬ bd < ((R.getD u 0 : Nat) : Int)) := fun u hu => by
            by_cases e : u = j
            · rw [e, HZ.out]; exact he
            · exact HS.out u (by omega)
          go_wp2_with fail
          exact ⟨⟨j + 1, hlk, by simp, HS3, trivial⟩, by simp [intOf]; omega⟩
      · have hlk' : ¬ (j : Int) < R.length := by omega
        obtain rfl : V = 0 := by
          obtain ⟨q, hq, eq⟩ := mxL_at R (R.length - 1)
          have := HS.out q (by omega)
          rw [HVS.out, if_neg (by rw [eq]; exact this)]
        go_wp2_with fail
        refine bodyPost_ret (results_tmp rfl _ _ _) rfl ?_
        exact ⟨rfl, HB2.out⟩
end Go.Proofs.Ytgpaoiddjlpcmaa
namespace Go.Proofs.Ytgpaoiddjlpcmaa
open Go.RowKit
/-- A sum over the first numbers. -/
def sm (f : Nat → Nat) : Nat → Nat
  | 0 => 0
  | n + 1 => sm f n + f n
theorem sm_add (f g : Nat → Nat) : ∀ n, sm (fun u => f u + g u) n = sm f n + sm g n
  | 0 => rfl
  | n + 1 => by simp only [sm]; rw [sm_add f g n]; omega
theorem sm_cong {f g : Nat → Nat} : ∀ n, (∀ u, u < n → f u = g u) → sm f n = sm g n
  | 0, _ => rfl
  | n + 1, h => by simp only [sm]; rw [sm_cong n (fun u hu => h u (by omega)), h n (by omega)]
theorem sm_zero : ∀ n, sm (fun _ => 0) n = 0
  | 0 => rfl
  | n + 1 => by simp only [sm]; rw [sm_zero n]
theorem sm_one (t : Nat) : ∀ n, sm (fun u => if u = t then 1 else 0) n = if t < n then 1 else 0
  | 0 => by simp [sm]
  | n + 1 => by
    simp only [sm]
    rw [sm_one t n]
    by_cases c : t < n
    · rw [if_pos c, if_neg (by omega), if_pos (by omega)]
    · by_cases c2 : n = t
      · rw [if_neg c, if_pos c2, if_pos (by omega)]
      · rw [if_neg c, if_neg c2, if_neg (by omega)]
theorem countP_sm (q : Nat → Bool) (n : Nat) : ∀ l : List Nat, (∀ u, u ∈ l → u < n) → l.countP q = sm (fun u => if q u = true then l.count u else 0) n
  | [], _ => by
    rw [sm_cong (g := fun _ => 0) n (fun u _ => by simp), sm_zero]; rfl
  | t :: l, h => by
    have ih := countP_sm q n l (fun u hu => h u (List.mem_cons_of_mem _ hu))
    have ht := h t (List.mem_cons_self ..)
    rw [List.countP_cons, ih]
    have e : sm (fun u => if q u = true then (t :: l).count u else 0) n = sm (fun u => (if q u = true then l.count u else 0) + (if u = t then (if q t = true then 1 else 0) else 0)) n := by
      refine sm_cong n (fun u _ => ?_)
      rw [List.count_cons]
      by_cases c : u = t
      · subst c
        rw [if_pos rfl]
        by_cases d : q u = true
        · rw [if_pos d, if_pos d, if_pos d, if_pos (by simp)]
        · rw [if_neg d, if_neg d, if_neg d]
      · have nt : (t == u) = false := by simp only [beq_eq_false_iff_ne]; exact fun e => c e.symm
        rw [if_neg c, Nat.add_zero, nt]
        simp
    rw [e, sm_add]
    congr 1
    by_cases d : q t = true
    · rw [if_pos d]
      have := sm_one t n
      rw [if_pos ht] at this
      exact this.symm
    · rw [if_neg d, sm_cong (g := fun _ => 0) n (fun u _ => by split <;> rfl), sm_zero]
/-- Pairs of v in a label, by those who stand beside it. -/
theorem cv_besd (L : List Nat) (v x : Nat) : ∀ P : List Pr, (∀ p, p ∈ P → p.a ≠ p.b) → cv P L v x = (besd P v).countP (fun u => decide (L.getD u 0 = x))
  | [], _ => rfl
  | p :: P, hp => by
    have ih := cv_besd L v x P (fun q hq => hp q (List.mem_cons_of_mem _ hq))
    have hne := hp p (List.mem_cons_self ..)
    have c3 : cv (p :: P) L v x = cv P L v x + if hitV L v x p = true then 1 else 0 := by unfold cv; rw [List.countP_cons]
    rw [c3, ih]
    unfold besd
    rw [List.filterMap_cons]
    by_cases a1 : p.a = v
    · have b1 : p.b ≠ v := fun e => hne (a1.trans e.symm)
      rw [if_pos a1]
      show _ = (p.b :: _).countP _
      rw [List.countP_cons]
      by_cases c : L.getD p.b 0 = x
      · rw [if_pos (hit_iff.2 (.inl ⟨a1, c⟩)), if_pos (by simpa using c)]
      · rw [if_neg (fun q => (hit_iff.1 q).elim (fun q => c q.2) (fun q => b1 q.1)), if_neg (by simpa using c)]
    · rw [if_neg a1]
      by_cases b1 : p.b = v
      · rw [if_pos b1]
        show _ = (p.a :: _).countP _
        rw [List.countP_cons]
        by_cases c : L.getD p.a 0 = x
        · rw [if_pos (hit_iff.2 (.inr ⟨b1, c⟩)), if_pos (by simpa using c)]
        · rw [if_neg (fun q => (hit_iff.1 q).elim (fun q => a1 q.1) (fun q => c q.2)), if_neg (by simpa using c)]
      · rw [if_neg b1, if_neg (fun q => (hit_iff.1 q).elim (fun q => a1 q.1) (fun q => b1 q.1))]
        rfl
theorem nr_symm (l : List A) (v u : Nat) : nr l v u = nr l u v := by
  unfold nr
  congr 1
  funext x
  rw [Bool.or_comm]
  congr 1 <;> rw [Bool.and_comm]
theorem ltP_irr (p : Pr) : ¬ ltP p p := fun h => by unfold ltP at h; omega
theorem nb_one {P : List Pr} (hs : P.Pairwise ltP) (hl : ∀ p, p ∈ P → p.a < p.b) (v u : Nat) : nb P v u ≤ 1 := by
  unfold nb
  induction P with
  | nil => simp
  | cons p P ih =>
    rw [List.pairwise_cons] at hs
    rw [List.countP_cons]
    have ih := ih hs.2 (fun q hq => hl q (List.mem_cons_of_mem _ hq))
    by_cases c : joinB v u p = true
    · rw [if_pos c]
      have z : P.countP (joinB v u) = 0 := by
        rw [List.countP_eq_zero]
        intro q hq hj
        have h1 := hl p (List.mem_cons_self ..)
        have h2 := hl q (List.mem_cons_of_mem _ hq)
        have e : p = q := by
          unfold joinB at c hj
          simp only [Bool.or_eq_true, Bool.and_eq_true, decide_eq_true_eq] at c hj
          obtain ⟨pa, pb⟩ := p
          obtain ⟨qa, qb⟩ := q
          simp only at c hj h1 h2
          have : pa = qa ∧ pb = qb := by omega
          rw [this.1, this.2]
        have h3 := hs.1 q hq
        rw [e] at h3
        exact ltP_irr q h3
      omega
    · rw [if_neg c]; omega
theorem nb_prl {l : List A} (hpo : ∀ x, x ∈ l → 0 ≤ x.f ∧ 0 ≤ x.t) (v u : Nat) : nb (prl l) v u = if nr l v u && !decide (u = v) then 1 else 0 := by
  have hl : ∀ p, p ∈ prl l → p.a < p.b := fun p hp => ((prl_mem hpo).1 hp).1
  have h1 := nb_one (prl_sorted l) hl v u
  by_cases c : (nr l v u && !decide (u = v)) = true
  · rw [if_pos c]
    rw [Bool.and_eq_true, Bool.not_eq_true', decide_eq_false_iff_not] at c
    have pos : 0 < nb (prl l) v u := by
      unfold nb
      rw [List.countP_pos_iff]
      rcases Nat.lt_or_ge v u with d | d
      · refine ⟨⟨v, u⟩, (prl_mem hpo).2 ⟨d, c.1⟩, ?_⟩
        unfold joinB
        simp
      · refine ⟨⟨u, v⟩, (prl_mem hpo).2 ⟨by show u < v; omega, by rw [nr_symm]; exact c.1⟩, ?_⟩
        unfold joinB
        simp
    omega
  · rw [if_neg c]
    rcases Nat.eq_zero_or_pos (nb (prl l) v u) with d | d
    · exact d
    · exfalso
      have d' : 0 < nb (prl l) v u := d
      unfold nb at d'
      rw [List.countP_pos_iff] at d'
      obtain ⟨p, hp, hj⟩ := d'
      obtain ⟨q1, q2⟩ := (prl_mem hpo).1 hp
      refine c ?_
      unfold joinB at hj
      simp only [Bool.or_eq_true, Bool.and_eq_true, decide_eq_true_eq] at hj
      rw [Bool.and_eq_true, Bool.not_eq_true', decide_eq_false_iff_not]
      rcases hj with ⟨e1, e2⟩ | ⟨e1, e2⟩
      · rw [← e1, ← e2]; exact ⟨q2, by omega⟩
      · rw [← e1, ← e2]; exact ⟨by rw [nr_symm]; exact q2, by omega⟩
/-- The neighbours of v in a label, one by one. -/
def nf (l : List A) (L : List Nat) (v x u : Nat) : Nat := if (nr l v u && !decide (u = v)) = true ∧ L.getD u 0 = x then 1 else 0
theorem cv_near {l : List A} {n : Nat} (hpo : ∀ x, x ∈ l → (0 ≤ x.f ∧ x.f < (n : Int)) ∧ (0 ≤ x.t ∧ x.t < (n : Int))) (L : List Nat) (v x : Nat) : cv (prl l) L v x = sm (nf l L v x) n := by
  have hp2 : ∀ x, x ∈ l → 0 ≤ x.f ∧ 0 ≤ x.t := fun x hx => ⟨(hpo x hx).1.1, (hpo x hx).2.1⟩
  have hd : ∀ p, p ∈ prl l → p.a ≠ p.b := fun p hp => by have := ((prl_mem hp2).1 hp).1; omega
  have hP : PIn (prl l) n := fun p hp => prl_lt hpo hp
  rw [cv_besd L v x (prl l) hd, countP_sm _ n _ (fun u hu => besd_in hP hu)]
  refine sm_cong n (fun u _ => ?_)
  rw [besd_count _ hd, nb_prl hp2]
  unfold nf
  by_cases c : L.getD u 0 = x
  · rw [if_pos (by simpa using c)]
    by_cases d : (nr l v u && !decide (u = v)) = true
    · rw [if_pos d, if_pos ⟨d, c⟩]
    · rw [if_neg d, if_neg (fun h => d h.1)]
  · rw [if_neg (by simpa using c), if_neg (fun h => c h.2)]
theorem sm_le {f : Nat → Nat} (h : ∀ u, f u ≤ 1) : ∀ n, sm f n ≤ n
  | 0 => Nat.le_refl _
  | n + 1 => by have := sm_le h n; have := h n; simp only [sm]; omega
theorem nf_le (l : List A) (L : List Nat) (v x u : Nat) : nf l L v x u ≤ 1 := by unfold nf; split <;> omega
end Go.Proofs.Ytgpaoiddjlpcmaa
namespace Go.Proofs.Ytgpaoiddjlpcmaa
open Go.RowKit
/-- Of right labels the least vertices stand as the labels. -/
theorem lead_lt {L : List Nat} (htd : tdy (ints L) 0 = true) {f f' : Nat} (hf : f < L.length) (hf' : f' < L.length) (h1 : ldI (ints L) f = f) (h2 : ldI (ints L) f' = f') (h : L.getD f 0 ≤ L.getD f' 0) : f ≤ f' := by
  rcases Nat.lt_or_ge f' f with c | c
  · exfalso
    have e := tdL_self htd
    have e1 := tdL_getD hf
    have e2 := tdL_getD hf'
    rw [e] at e1 e2
    unfold T3.lab at e1 e2
    rw [h1] at e1
    rw [h2] at e2
    have m := T3.cnt_root h2 c
    omega
  · exact c
theorem ga_open2 {P : List Pr} {L : List Nat} {B u y : Nat} (hP : PIn P L.length) (hg : 0 < gaV P L u y) (hu : u < L.length) (hc : L.count y < B) : ∃ f, Open P L B u f ∧ gn P L u f = gaV P L u y ∧ L.getD f 0 = y := by
  have hpos : 0 < cv P L u y := by unfold gaV at hg; omega
  obtain ⟨_, t, ht, rfl⟩ := cv_pos hP hpos
  have a1 := ldI_le (ints L) t
  have hf : ldI (ints L) t < L.length := by omega
  have e : L.getD (ldI (ints L) t) 0 = L.getD t 0 := by
    have q := ldI_at (ints L) t
    rw [ints_at hf, ints_at ht] at q
    omega
  have eg : gn P L u (ldI (ints L) t) = gaV P L u (L.getD t 0) := by unfold gn gaV; rw [e]
  refine ⟨ldI (ints L) t, ⟨hu, hf, ?_, by rw [eg]; exact hg, by rw [e]; exact hc⟩, eg, e⟩
  refine (lead_iff hf).2 (fun s hs q => ?_)
  have := ldI_min (xs := ints L) (u := s) (v := t) hs
  rw [ints_at (by omega), ints_at ht] at this
  rw [e] at q
  exact this (by rw [q])
/-- What the reference has found among some places. -/
structure Rn (P : List Pr) (L : List Nat) (B n k : Nat) (D : Nat → Nat → Prop) (x y : Nat) (b : Int) : Prop where
  nn : 0 ≤ b
  zr : b = 0 → x = 0 ∧ y = 0
  hit : 0 < b → x < n ∧ y < k ∧ y ≠ L.getD x 0 ∧ L.count y < B ∧ gaV P L x y = b
  ub : ∀ u z, D u z → u < n → z < k → z ≠ L.getD u 0 → L.count z < B → gaV P L u z < b ∨ gaV P L u z ≤ 0 ∨ (gaV P L u z = b ∧ (x < u ∨ (x = u ∧ y ≤ z)))
theorem Rn.start {P : List Pr} {L : List Nat} {B n k : Nat} {D : Nat → Nat → Prop} (h : ∀ u y, ¬ D u y) : Rn P L B n k D 0 0 0 := ⟨Int.le_refl _, fun _ => ⟨rfl, rfl⟩, fun h => absurd h (by decide), fun u y hd => absurd hd (h u y)⟩
theorem Rn.take {P : List Pr} {L : List Nat} {B n k x y u z : Nat} {D D' : Nat → Nat → Prop} {b : Int} (h : Rn P L B n k D x y b) (hD : ∀ u' z', D' u' z' → D u' z' ∨ (u' = u ∧ z' = z)) (hu : u < n) (hz : z < k) (h1 : z ≠ L.getD u 0) (h2 : L.count z < B) (hg : b < gaV P L u z) : Rn P L B n k D' u z (gaV P L u z) := by
  have hn := h.nn
  refine ⟨by omega, fun e => by omega, fun _ => ⟨hu, hz, h1, h2, rfl⟩, fun u' z' hd hu' hz' e1 e2 => ?_⟩
  rcases hD u' z' hd with q | ⟨rfl, rfl⟩
  · have := h.ub u' z' q hu' hz' e1 e2
    omega
  · right; right; exact ⟨rfl, .inr ⟨rfl, Nat.le_refl _⟩⟩
theorem Rn.pass {P : List Pr} {L : List Nat} {B n k x y u z : Nat} {D D' : Nat → Nat → Prop} {b : Int} (h : Rn P L B n k D x y b) (hD : ∀ u' z', D' u' z' → D u' z' ∨ (u' = u ∧ z' = z)) (hlex : 0 < b → x < u ∨ (x = u ∧ y ≤ z)) (hg : ¬ b < gaV P L u z) : Rn P L B n k D' x y b := by
  have hn := h.nn
  refine ⟨hn, h.zr, h.hit, fun u' z' hd hu' hz' e1 e2 => ?_⟩
  rcases hD u' z' hd with q | ⟨rfl, rfl⟩
  · exact h.ub u' z' q hu' hz' e1 e2
  · by_cases c : gaV P L u' z' = b
    · by_cases c2 : 0 < b
      · exact .inr (.inr ⟨c, hlex c2⟩)
      · exact .inr (.inl (by omega))
    · exact .inl (by omega)
theorem Rn.leave {P : List Pr} {L : List Nat} {B n k x y u z : Nat} {D D' : Nat → Nat → Prop} {b : Int} (h : Rn P L B n k D x y b) (hD : ∀ u' z', D' u' z' → D u' z' ∨ (u' = u ∧ z' = z)) (hn : ¬ (z ≠ L.getD u 0 ∧ L.count z < B)) : Rn P L B n k D' x y b := by
  refine ⟨h.nn, h.zr, h.hit, fun u' z' hd hu' hz' e1 e2 => ?_⟩
  rcases hD u' z' hd with q | ⟨rfl, rfl⟩
  · exact h.ub u' z' q hu' hz' e1 e2
  · exact absurd ⟨e1, e2⟩ hn
theorem Rn.same {P : List Pr} {L : List Nat} {B n k x y : Nat} {D D' : Nat → Nat → Prop} {b : Int} (h : Rn P L B n k D x y b) (hD : ∀ u' z', D' u' z' → u' < n → z' < k → D u' z') : Rn P L B n k D' x y b := ⟨h.nn, h.zr, h.hit, fun u' z' hd hu' hz' e1 e2 => h.ub u' z' (hD u' z' hd hu' hz') hu' hz' e1 e2⟩
theorem Rn.nxm {P : List Pr} {L : List Nat} {B x y : Nat} {D : Nat → Nat → Prop} {b : Int} (h : Rn P L B L.length (szL (ints L)).length D x y b) (hD : ∀ u z, u < L.length → z < (szL (ints L)).length → D u z) (htd : tdy (ints L) 0 = true) (hP : PIn P L.length) : NxM P L B x y (decide (0 < b)) := by
  have all : ∀ v' f', Open P L B v' f' → gn P L v' f' < b ∨ (gn P L v' f' = b ∧ (x < v' ∨ (x = v' ∧ y ≤ L.getD f' 0))) := fun v' f' ho => by
    have hne : L.getD f' 0 ≠ L.getD v' 0 := fun e => by have := ho.2.2.2.1; unfold gn at this; rw [e] at this; omega
    have hk := lab_lt htd ho.2.1
    have q := h.ub v' (L.getD f' 0) (hD v' _ ho.1 hk) ho.1 hk hne ho.2.2.2.2
    have hpos := ho.2.2.2.1
    have e : gn P L v' f' = gaV P L v' (L.getD f' 0) := rfl
    omega
  by_cases c : 0 < b
  · obtain ⟨hx, hy, hne, hc, hg⟩ := h.hit c
    obtain ⟨f, ho, hgf, hfy⟩ := ga_open2 hP (by rw [hg]; exact c) hx hc
    left
    refine ⟨decide_eq_true c, f, ⟨ho, fun v' f' ho' => ?_⟩, hfy⟩
    have q := all v' f' ho'
    unfold noWorse
    rcases q with q | ⟨q, r | ⟨r, s⟩⟩
    · left; omega
    · right; exact ⟨by omega, .inl r⟩
    · right
      refine ⟨by omega, .inr ⟨r, lead_lt htd ho.2.1 ho'.2.1 ho.2.2.1 ho'.2.2.1 (by rw [hfy]; exact s)⟩⟩
  · right
    obtain ⟨e1, e2⟩ := h.zr (by have := h.nn; omega)
    refine ⟨decide_eq_false c, e1, e2, fun v' f' ho => ?_⟩
    have q := all v' f' ho
    have := ho.2.2.2.1
    have := h.nn
    omega
theorem NxM.one {P : List Pr} {L : List Nat} {B v x v' x' : Nat} {so so' : Bool} (h : NxM P L B v x so) (h' : NxM P L B v' x' so') : v = v' ∧ x = x' ∧ so = so' := by
  rcases h with ⟨rfl, f, h1, h2⟩ | ⟨rfl, h1, h2, h3⟩
  · rcases h' with ⟨rfl, f', h1', h2'⟩ | ⟨rfl, _, _, h3'⟩
    · obtain ⟨rfl, rfl⟩ := h1.one h1'
      exact ⟨rfl, h2.symm.trans h2', rfl⟩
    · exact absurd h1.1 (h3' _ _)
  · rcases h' with ⟨rfl, f', h1', h2'⟩ | ⟨rfl, h1', h2', h3'⟩
    · exact absurd h1'.1 (h3 _ _)
    · exact ⟨h1.trans h1'.symm, h2.trans h2'.symm, rfl⟩
end Go.Proofs.Ytgpaoiddjlpcmaa
