/-
  The law GraphEnds: each arc is out of one vertex and into one; both lists say what the arcs are.
-/
import Derived.Test.YtkhgnefnmibomaaWorks
namespace Go.Proofs.Ytkhgnefnmibomaa
open Go.RowKit
theorem hits_mem {q : Nat → Bool} {n j : Nat} (h : j < (hits q n).length) : ∃ i : Nat, i < n ∧ (hits q n).getD j 0 = (i : Int) ∧ q i = true := by
  induction n with
  | zero => simp [hits] at h
  | succ n ih =>
    by_cases hq : q n = true
    · rw [hits_t hq] at h ⊢
      by_cases hj : j < (hits q n).length
      · obtain ⟨i, h1, h2, h3⟩ := ih hj
        refine ⟨i, by omega, ?_, h3⟩
        rw [← h2]
        simp [List.getD, List.getElem?_append_left hj]
      · rw [List.length_append, List.length_singleton] at h
        have e : j = (hits q n).length := by omega
        exact ⟨n, by omega, by rw [e]; simp [List.getD], hq⟩
    · have hq' : q n = false := by simpa using hq
      rw [hits_f hq'] at h ⊢
      obtain ⟨i, h1, h2, h3⟩ := ih h
      exact ⟨i, by omega, h2, h3⟩
theorem hits_len_succ (q : Nat → Bool) (n : Nat) : (hits q (n + 1)).length = (hits q n).length + (if q n then 1 else 0) := by
  by_cases hq : q n = true
  · rw [hits_t hq, if_pos hq]; simp
  · have hq' : q n = false := by simpa using hq
    rw [hits_f hq', if_neg (by simp [hq'])]; omega
/-- A sum of so many. -/
def tot (F : Nat → Nat) : Nat → Nat
  | 0 => 0
  | n + 1 => tot F n + F n
theorem tot_add (f g : Nat → Nat) (n : Nat) : tot (fun u => f u + g u) n = tot f n + tot g n := by
  induction n with
  | zero => rfl
  | succ n ih => simp only [tot]; omega
theorem tot_zero {f : Nat → Nat} {n : Nat} (h : ∀ u, u < n → f u = 0) : tot f n = 0 := by
  induction n with
  | zero => rfl
  | succ n ih => simp only [tot]; rw [ih (fun u hu => h u (by omega)), h n (by omega)]
theorem tot_one (x : Int) (n : Nat) (h0 : 0 ≤ x) (h1 : x < n) : tot (fun u => if decide (x = (u : Int)) then 1 else 0) n = 1 := by
  induction n with
  | zero => omega
  | succ n ih =>
    simp only [tot]
    by_cases e : x = (n : Int)
    · rw [tot_zero (fun u hu => by rw [if_neg (by simp; omega)])]
      simp [e]
    · rw [ih (by omega)]
      simp [e]
theorem tot_mono (f : Nat → Nat) {m n : Nat} (h : m ≤ n) : tot f m ≤ tot f n := by
  induction n with
  | zero => have : m = 0 := by omega
            subst this; exact Nat.le_refl _
  | succ n ih =>
    by_cases e : m = n + 1
    · subst e; exact Nat.le_refl _
    · have := ih (by omega)
      simp only [tot]; omega
theorem tot_hits (F : Nat → Int) (n k : Nat) (h : ∀ i, i < k → 0 ≤ F i ∧ F i < n) : tot (fun u => (hits (fun i => decide (F i = (u : Int))) k).length) n = k := by
  induction k with
  | zero => exact tot_zero (fun u _ => rfl)
  | succ k ih =>
    have e : (fun u : Nat => (hits (fun i => decide (F i = (u : Int))) (k + 1)).length) = fun u : Nat => (hits (fun i => decide (F i = (u : Int))) k).length + (if decide (F k = (u : Int)) then 1 else 0) := by
      funext u; exact hits_len_succ _ _
    rw [e, tot_add, ih (fun i hi => h i (by omega)), tot_one _ _ (h k (by omega)).1 (h k (by omega)).2]
theorem tot_outs (n : Nat) (l : List A) (h : ∀ x ∈ l, (0 ≤ x.f ∧ x.f < n) ∧ (0 ≤ x.t ∧ x.t < n)) : tot (fun u => (outs l u).length) n = l.length ∧ tot (fun u => (ins l u).length) n = l.length := by
  have hg : ∀ i, i < l.length → l.getD i A.zero ∈ l := fun i hi => by
    rw [show l.getD i A.zero = l[i] by simp [List.getD, List.getElem?_eq_getElem hi]]; exact List.getElem_mem hi
  exact ⟨tot_hits (fun i => (l.getD i A.zero).f) n l.length (fun i hi => (h _ (hg i hi)).1), tot_hits (fun i => (l.getD i A.zero).t) n l.length (fun i hi => (h _ (hg i hi)).2)⟩
set_option maxHeartbeats 1600000 in
set_option maxRecDepth 100000 in
theorem law_ends (N : Int) (a : Option Addr) (l : List A) (cap : Nat) (w : World) (hl : l.length ≤ 9223372036854775807) (hr : Arcs w a l) :
    Calls Try.prog 6 #[.agg #[.int .i64 N, .slice a l.length cap]] w fun e w' => e = .returned (.bool true) ∧ Below w.heap.size w w' := by
  have hb0 : Below w.heap.size w (w.alloc (.cells #[.int .i64 N, .slice a l.length cap] 24)) := (Below.refl _ _).alloc (Nat.le_refl _) _
  obtain ⟨T, HT⟩ := named (chkAt N l)
  by_cases hE : chkE N l = 0
  · obtain ⟨hN1, hN2, hlen, hall⟩ := chk_zero hE
    obtain ⟨n, rfl⟩ : ∃ n : Nat, N = n := ⟨N.toNat, by omega⟩
    have hn1 : 1 ≤ n := by omega
    have hn2 : n ≤ 1024 := by omega
    have HALL := Lib.hid hall
    have HE := Lib.hid hE
    have HTO := Lib.hid (tot_outs n l hall)
    clear hall hN1 hN2 hE
    by_cases hbig : 100 < n
    · have hbig' : (100 : Int) < (n : Int) := by omega
      go_enter Try.func6, Try.ntmps6
      go_wp2_with fail
      refine (works_any _).mono ?_
      rintro e w1 ⟨rfl, hb1⟩
      have hg1 := (hb1.block _ (by simp)).trans (heap_top w _)
      have b1 := bthen hb0 hb1 (by simp)
      have s1 := lt_of_block hg1
      have hr1 := hr.on b1
      clear hb1 hb0
      obtain ⟨⟨g0, g1⟩, gf0, gf1⟩ := two_cells hg1
      go_wp2_with fail
      refine (check_any n a l cap _ hl hr1).mono ?_
      rintro e w2 ⟨rfl, hb2⟩
      rw [HE.out, HT.out]
      have hg2 := (hb2.block _ s1).trans hg1
      have b2 := bthen b1 hb2 (by omega)
      clear hb2 hg1 g0 g1 gf0 gf1
      obtain ⟨⟨g0, g1⟩, gf0, gf1⟩ := two_cells hg2
      go_wp2_with fail
      go_ret
      exact ⟨rfl, b2⟩
    · have hbig' : ¬ (100 : Int) < (n : Int) := by omega
      go_enter Try.func6, Try.ntmps6
      go_wp2_with fail
      refine (works_any _).mono ?_
      rintro e w1 ⟨rfl, hb1⟩
      have hg1 := (hb1.block _ (by simp)).trans (heap_top w _)
      have b1 := bthen hb0 hb1 (by simp)
      have s1 := lt_of_block hg1
      have hr1 := hr.on b1
      clear hb1 hb0
      obtain ⟨⟨g0, g1⟩, gf0, gf1⟩ := two_cells hg1
      go_wp2_with fail
      refine (check_any n a l cap _ hl hr1).mono ?_
      rintro e w2 ⟨rfl, hb2⟩
      rw [HE.out, HT.out]
      have hg2 := (hb2.block _ s1).trans hg1
      have b2 := bthen b1 hb2 (by omega)
      clear hb2 hg1 g0 g1 gf0 gf1 s1 hr1
      obtain ⟨⟨g0, g1⟩, gf0, gf1⟩ := two_cells hg2
      obtain ⟨FO, HFO⟩ := named (fun u : Nat => (outs l u).length)
      obtain ⟨FI, HFI⟩ := named (fun u : Nat => (ins l u).length)
      rw [HFO.out, HFI.out] at HTO
      obtain ⟨b, o, hab⟩ := hr.b.get
      go_wp2_with fail
      go_loopw [5, 6, 7] (fun x y i wr => ∃ k : Nat, k ≤ n ∧ i = .int .i64 (k : Int) ∧ x = .int .i64 ((tot FO k : Nat) : Int) ∧ y = .int .i64 ((tot FI k : Nat) : Int) ∧ wr.heap[w.heap.size]? = some (.cells #[.int .i64 n, .slice a l.length cap] 24) ∧ Below w.heap.size w wr) (fun _ _ i _ => n - (intOf i).toNat)
      case atStart => exact ⟨0, Nat.zero_le _, rfl, rfl, rfl, hg2, b2⟩
      case round =>
        obtain ⟨k, hk, rfl, rfl, rfl, hg3, b3⟩ := hrel
        clear g0 g1 gf0 gf1 hg2 b2
        obtain ⟨⟨g0, g1⟩, gf0, gf1⟩ := two_cells hg3
        have s3 := lt_of_block hg3
        have hr3 := hr.on b3
        by_cases hkn : k < n
        · have hO1 : tot FO k ≤ 8192 := by have := tot_mono FO hk; rw [HTO.out.1] at this; omega
          have hI1 : tot FI k ≤ 8192 := by have := tot_mono FI hk; rw [HTO.out.2] at this; omega
          have HOS : Hid (tot FO (k + 1) = tot FO k + (outs l k).length) := by show _ = _; rw [← HFO.out]; rfl
          have HIS : Hid (tot FI (k + 1) = tot FI k + (ins l k).length) := by show _ = _; rw [← HFI.out]; rfl
          have hvk : outE n l k = 0 := by
            have : okV n k = true := by simp [okV]; omega
            simp [outE, HE.out, this]
          have hLo : outL n l k (outs l k) = outs l k := if_pos hvk
          have hLi : outL n l k (ins l k) = ins l k := if_pos hvk
          have hMo := Lib.hid (fun j (h : j < (outs l k).length) => hits_mem (q := fun i => decide ((l.getD i A.zero).f = (k : Int))) h)
          have hMi := Lib.hid (fun j (h : j < (ins l k).length) => hits_mem (q := fun i => decide ((l.getD i A.zero).t = (k : Int))) h)
          have lo1 : (outs l k).length ≤ l.length := hits_len _ _
          have li1 : (ins l k).length ≤ l.length := hits_len _ _
          have HO := Lib.hid (outs_any n k a l cap wr hl hr3)
          have HI := Lib.hid (fun w' hr' => ins_any n k a l cap w' hl hr')
          rw [hLo, hvk] at HO
          rw [hLi, hvk] at HI
          clear hLo hLi hvk
          have HMO : Hid (∀ j, j < (outs l k).length → ∃ i : Nat, i < l.length ∧ (outs l k).getD j 0 = (i : Int) ∧ (l.getD i A.zero).f = k) := by
            show ∀ j, _
            intro j hj
            obtain ⟨i, h1, h2, h3⟩ := hMo.out j hj
            exact ⟨i, h1, h2, by simpa using h3⟩
          have HMI : Hid (∀ j, j < (ins l k).length → ∃ i : Nat, i < l.length ∧ (ins l k).getD j 0 = (i : Int) ∧ (l.getD i A.zero).t = k) := by
            show ∀ j, _
            intro j hj
            obtain ⟨i, h1, h2, h3⟩ := hMi.out j hj
            exact ⟨i, h1, h2, by simpa using h3⟩
          clear hMo hMi
          generalize outs l k = xo at *
          generalize ins l k = xi at *
          generalize tot FO k = TO at *
          generalize tot FI k = TI at *
          go_wp2_with fail
          refine HO.out.mono ?_
          rintro e w4 ⟨a4, c4, rfl, hown4, hb4⟩
          have hi4 := ints_own hown4
          have hg4 := (hb4.block _ s3).trans hg3
          have b4 := bthen b3 hb4 (by omega)
          have s4 := lt_of_block hg4
          have hr4 := hr.on b4
          clear hb4 hown4 hg3 g0 g1 gf0 gf1 b3 hr3
          obtain ⟨⟨g0, g1⟩, gf0, gf1⟩ := two_cells hg4
          go_wp2_with fail
          refine (HI.out _ hr4).mono ?_
          rintro e w5 ⟨a5, c5, rfl, hown5, hb5⟩
          have hi5 := ints_own hown5
          have hi4' := hi4.on hb5
          have hg5 := (hb5.block _ s4).trans hg4
          have b5 := bthen b4 hb5 (by omega)
          have s5 := lt_of_block hg5
          clear hb5 hown5 hg4 g0 g1 gf0 gf1 hi4 hr4 b4
          obtain ⟨⟨g0, g1⟩, gf0, gf1⟩ := two_cells hg5
          obtain ⟨p4, q4, h4⟩ := hi4'.get
          obtain ⟨p5, q5, h5⟩ := hi5.get
          go_wp2_with fail
          go_loop [65] (fun i => ∃ j : Nat, j ≤ xo.length ∧ i = .int .i64 (j : Int)) (fun i => xo.length - (intOf i).toNat)
          case atStart => exact ⟨0, Nat.zero_le _, rfl⟩
          case round =>
            obtain ⟨j, hj, rfl⟩ := hrel
            by_cases hjl : j < xo.length
            · obtain ⟨i, hi, e1, e2⟩ := HMO.out j hjl
              obtain ⟨rfl, _, d4⟩ := h4 (by omega)
              have dj := d4 j hjl
              rw [e1] at dj
              obtain ⟨rfl, hbl, hat⟩ := hab (by omega)
              obtain ⟨c0, c1, c2⟩ := (hat i hi).onB hbl b5
              rw [e2] at c0
              clear e1 e2 hat d4
              go_wp2_with fail
              exact ⟨⟨j + 1, by omega, by go_num⟩, by simp [intOf]; omega⟩
            · go_wp2_with fail
              go_loop [91] (fun i => ∃ j : Nat, j ≤ xi.length ∧ i = .int .i64 (j : Int)) (fun i => xi.length - (intOf i).toNat)
              case atStart => exact ⟨0, Nat.zero_le _, rfl⟩
              case round =>
                obtain ⟨z, hz, rfl⟩ := hrel
                by_cases hzl : z < xi.length
                · obtain ⟨i, hi, e1, e2⟩ := HMI.out z hzl
                  obtain ⟨rfl, _, d5⟩ := h5 (by omega)
                  have dj := d5 z hzl
                  rw [e1] at dj
                  obtain ⟨rfl, hbl, hat⟩ := hab (by omega)
                  obtain ⟨c0, c1, c2⟩ := (hat i hi).onB hbl b5
                  rw [e2] at c1
                  clear e1 e2 hat d5
                  go_wp2_with fail
                  exact ⟨⟨z + 1, by omega, by go_num⟩, by simp [intOf]; omega⟩
                · go_wp2_with fail
                  exact ⟨⟨k + 1, by omega, by go_num, by rw [HOS.out]; go_num, by rw [HIS.out]; go_num, hg5, b5⟩, by simp [intOf]; omega⟩
        · have e1 : tot FO k = l.length := by rw [show k = n by omega]; exact HTO.out.1
          have e2 : tot FI k = l.length := by rw [show k = n by omega]; exact HTO.out.2
          rw [e1, e2]
          clear e1 e2
          go_wp2_with fail
          go_ret
          exact ⟨rfl, b3⟩
  · obtain ⟨E, HE⟩ := named (chkE N l)
    rw [HE.out] at hE
    have hE' : (E == 0) = false := beq_eq_false_iff_ne.2 hE
    have HE2 : Hid ((E != 0) = true) := (by simp [hE] : (E != 0) = true)
    go_enter Try.func6, Try.ntmps6
    go_wp2_with fail
    refine (works_any _).mono ?_
    rintro e w1 ⟨rfl, hb1⟩
    have hg1 := (hb1.block _ (by simp)).trans (heap_top w _)
    have b1 := bthen hb0 hb1 (by simp)
    have s1 := lt_of_block hg1
    have hr1 := hr.on b1
    clear hb1 hb0
    obtain ⟨⟨g0, g1⟩, gf0, gf1⟩ := two_cells hg1
    go_wp2_with fail
    refine (check_any N a l cap _ hl hr1).mono ?_
    rintro e w2 ⟨rfl, hb2⟩
    rw [HE.out, HT.out]
    have b2 := bthen b1 hb2 (by omega)
    clear hb2 hg1 g0 g1 gf0 gf1
    go_wp2_with fail
    refine (works_any _).mono ?_
    rintro e w3 ⟨rfl, hb3⟩
    have b3 := bthen b2 hb3 (by have := b2.size; omega)
    go_wp2_with fail
    go_ret
    exact ⟨ret_bool HE2.out, b3⟩
end Go.Proofs.Ytkhgnefnmibomaa
