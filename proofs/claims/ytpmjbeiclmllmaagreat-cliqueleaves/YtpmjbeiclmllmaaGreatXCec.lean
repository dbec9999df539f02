/-
  Contracts of touched and Stale. The contract of flyoverref03.Check. The contract of large. Arcs between cells join boundary vertices: the mathematics.
-/
import Derived.Test.YtpmjbeiclmllmaaGreatXKp
import Derived.Test.YtpmjbeiclmllmaaGreatXCeb
namespace Go.Proofs.YtpmjbeiclmllmaaGreat
open Go.RowKit
set_option maxHeartbeats 800000 in
theorem rcheck_any (N : Int) (a : Option Addr) (l : List A) (cap : Nat) (w : World) (hl : l.length ≤ 9223372036854775807) (hr : Arcs w a l) :
    Calls Tryz.prog 31 #[.agg #[.int .i64 N, .slice a l.length cap]] w fun e w' => e = .returned (.tuple #[.int .i64 (chkAt N l), .int .i64 (chkE N l)]) ∧ Below w.heap.size w w' := by
  by_cases h1 : N < 1
  · rw [(chk_range (l := l) (Or.inl h1)).1, (chk_range (l := l) (Or.inl h1)).2]
    go_enter Tryz.func31, Tryz.ntmps31
    go_wp2_with fail
    go_ret2
    exact ⟨rfl, (Below.refl _ _).alloc (Nat.le_refl _) _⟩
  by_cases h2 : 1024 < N
  · rw [(chk_range (l := l) (Or.inr h2)).1, (chk_range (l := l) (Or.inr h2)).2]
    go_enter Tryz.func31, Tryz.ntmps31
    go_wp2_with fail
    go_ret2
    exact ⟨rfl, (Below.refl _ _).alloc (Nat.le_refl _) _⟩
  have hN : ¬ (N < 1 ∨ 1024 < N) := by omega
  by_cases h3 : 8192 < l.length
  · have h3' : (8192 : Int) < l.length := by omega
    rw [(chk_long hN h3).1, (chk_long hN h3).2]
    clear hN
    go_enter Tryz.func31, Tryz.ntmps31
    go_wp2_with fail
    go_ret2
    exact ⟨rfl, (Below.refl _ _).alloc (Nat.le_refl _) _⟩
  have h3' : ¬ (8192 : Int) < l.length := by omega
  have HN := Lib.hid hN
  clear hN
  obtain ⟨E, HE⟩ := named (chkE N l)
  obtain ⟨T, HAT⟩ := named (chkAt N l)
  rw [HE.out, HAT.out]
  have hb0 : Below w.heap.size w (w.alloc (.cells #[.int .i64 N, .slice a l.length cap] 24)) := (Below.refl _ _).alloc (Nat.le_refl _) _
  obtain ⟨b, o, hab⟩ := hr.b.get
  go_enter Tryz.func31, Tryz.ntmps31
  go_wp2_with fail
  go_loopw [4] (fun i wr => ∃ k : Nat, k ≤ l.length ∧ i = .int .i64 k ∧ Hid ((l.take k).all (okA N) = true) ∧ wr.heap[w.heap.size]? = some (.cells #[.int .i64 N, .slice a l.length cap] 24) ∧ Below w.heap.size w wr) (fun i _ => l.length - (intOf i).toNat)
  case atStart => exact ⟨0, Nat.zero_le _, rfl, by show _ = _; simp, heap_top w _, hb0⟩
  case round =>
    obtain ⟨k, hk, rfl, hall, hg, hb⟩ := hrel
    obtain ⟨⟨g0, g1⟩, gf0, gf1⟩ := two_cells hg
    have hsz : w.heap.size < wr.heap.size := lt_of_block hg
    by_cases hlt : k < l.length
    · obtain ⟨rfl, hbl, hat⟩ := hab (by omega)
      obtain ⟨c0, c1, c2⟩ := (hat k hlt).onB hbl hb
      have HT := Lib.hid (fun (h : okA N (l.getD k A.zero) = true) => all_take hlt hall.out h)
      have HF := Lib.hid (fun (h : okA N (l.getD k A.zero) = false) => chk_bad HN.out h3 (find_at hlt hall.out h))
      generalize l.getD k A.zero = x at *
      have b3 : Below w.heap.size w (wr.alloc (.cells #[.int .i64 x.f, .int .i64 x.t, .int .u32 x.w] 68)) := hb.alloc (by omega) _
      have hg3 := (Below.heap_alloc wr (.cells #[.int .i64 x.f, .int .i64 x.t, .int .u32 x.w] 68) _ hsz).trans hg
      by_cases q1 : 0 ≤ x.f
      · by_cases q2 : x.f < N
        · by_cases q3 : 0 ≤ x.t
          · by_cases q4 : x.t < N
            · have hA : okA N x = true := by simp [okA, okV, q1, q2, q3, q4]
              go_wp2_with fail
              exact ⟨⟨k + 1, by omega, by go_num, HT.out hA, hg3, b3⟩, by simp [intOf]; omega⟩
            · have hE := HF.out (by simp [okA, okV, q4])
              rw [HE.out, HAT.out] at hE
              obtain ⟨rfl, rfl⟩ := hE
              go_wp2_with fail
              go_ret2
              exact ⟨rfl, b3⟩
          · have hE := HF.out (by simp [okA, okV, q3])
            rw [HE.out, HAT.out] at hE
            obtain ⟨rfl, rfl⟩ := hE
            go_wp2_with fail
            go_ret2
            exact ⟨rfl, b3⟩
        · have hE := HF.out (by simp [okA, okV, q2])
          rw [HE.out, HAT.out] at hE
          obtain ⟨rfl, rfl⟩ := hE
          go_wp2_with fail
          go_ret2
          exact ⟨rfl, b3⟩
      · have hE := HF.out (by simp [okA, okV, q1])
        rw [HE.out, HAT.out] at hE
        obtain ⟨rfl, rfl⟩ := hE
        go_wp2_with fail
        go_ret2
        exact ⟨rfl, b3⟩
    · have hE := chk_ok HN.out h3 (by have := hall.out; rw [List.take_of_length_le (by omega)] at this; exact this)
      rw [HE.out, HAT.out] at hE
      obtain ⟨rfl, rfl⟩ := hE
      go_wp2_with fail
      go_ret2
      exact ⟨rfl, hb⟩
end Go.Proofs.YtpmjbeiclmllmaaGreat
namespace Go.Proofs.YtpmjbeiclmllmaaGreat
open Go.RowKit
/-- A right graph that is large. -/
def lgB (N : Int) (l : List A) : Bool := decide (chkE N l = 0) && (decide (40 < N) || decide (200 < l.length))
theorem lgB_true {N : Int} {l : List A} (h : lgB N l = true) : chkE N l = 0 := by
  unfold lgB at h
  rw [Bool.and_eq_true, decide_eq_true_eq] at h
  exact h.1
set_option maxRecDepth 100000 in
theorem large_any (N : Int) (a : Option Addr) (l : List A) (cap : Nat) (w : World) (hl : l.length ≤ 9223372036854775807) (hr : Arcs w a l) :
    Calls Tryz.prog 6 #[.agg #[.int .i64 N, .slice a l.length cap]] w fun e w' => e = .returned (.bool (lgB N l)) ∧ Below w.heap.size w w' := by
  have hb0 : Below w.heap.size w (w.alloc (.cells #[.int .i64 N, .slice a l.length cap] 24)) := (Below.refl _ _).alloc (Nat.le_refl _) _
  have hg := heap_top w (.cells #[.int .i64 N, .slice a l.length cap] 24)
  have HCH := Lib.hid (rcheck_any N a l cap (w.alloc (.cells #[.int .i64 N, .slice a l.length cap] 24)) hl (hr.on hb0))
  have HB0 := Lib.hid hb0
  have HG := Lib.hid hg
  obtain ⟨⟨c0, c1⟩, _⟩ := two_cells hg
  obtain ⟨V, HV⟩ := named (lgB N l)
  rw [HV.out]
  have HVV : Hid (V = (decide (chkE N l = 0) && (decide (40 < N) || decide (200 < l.length)))) := HV.out.symm
  obtain ⟨E, HE⟩ := named (chkE N l)
  obtain ⟨AT, HAT⟩ := named (chkAt N l)
  rw [HE.out] at HVV HCH
  rw [HAT.out] at HCH
  have hwz : w.heap.size ≤ (w.alloc (.cells #[.int .i64 N, .slice a l.length cap] 24)).heap.size := hb0.size
  have hpW : w.heap.size < (w.alloc (.cells #[.int .i64 N, .slice a l.length cap] 24)).heap.size := by simp
  clear hg hr hb0
  generalize hp : w.heap.size = p at *
  go_enter Tryz.func6, Tryz.ntmps6
  go_wp2_with fail
  generalize hW : w.alloc (.cells #[.int .i64 N, .slice a l.length cap] 24) = W at *
  clear hW
  refine HCH.out.mono ?_
  rintro e w1 ⟨rfl, hb1⟩
  have HB1 : Hid (Below p w w1) := HB0.out.trans (hb1.mono hwz)
  obtain ⟨⟨d0, d1⟩, _⟩ := two_cells ((hb1.block p hpW).trans HG.out)
  clear hb1 HCH c0 c1 HG HB0
  by_cases hE : E = 0
  · subst hE
    by_cases h1 : 40 < N
    · obtain rfl : V = true := by rw [HVV.out]; simp [h1]
      go_wp2_with fail
      go_ret
      exact ⟨rfl, HB1.out⟩
    · by_cases h2 : 200 < l.length
      · obtain rfl : V = true := by rw [HVV.out]; simp [h2]
        have h2' : (200 : Int) < l.length := by omega
        go_wp2_with fail
        go_ret
        exact ⟨rfl, HB1.out⟩
      · obtain rfl : V = false := by rw [HVV.out]; simp [h1]; omega
        have h2' : ¬ (200 : Int) < l.length := by omega
        go_wp2_with fail
        go_ret
        refine ⟨?_, HB1.out⟩
        show Ending.returned (Value.bool (decide (40 < N) || decide (200 < (l.length : Int)))) = _
        rw [decide_eq_false (show ¬ 40 < N by omega), decide_eq_false (show ¬ (200 : Int) < (l.length : Int) by omega)]
        rfl
  · obtain rfl : V = false := by rw [HVV.out]; simp [hE]
    have hE' : (E == 0) = false := by simpa using hE
    clear hE
    go_wp2_with fail
    go_ret
    exact ⟨rfl, HB1.out⟩
set_option maxRecDepth 100000 in
theorem large3_any (N : Int) (a : Option Addr) (l : List A) (cap : Nat) (w : World) (hl : l.length ≤ 9223372036854775807) (hr : Arcs w a l) :
    Calls Tryz.prog 6 #[.agg #[.int .i64 N, .slice a l.length cap]] w fun e w' => e = .returned (.bool (lgB N l)) ∧ Below w.heap.size w w' := by
  have hb0 : Below w.heap.size w (w.alloc (.cells #[.int .i64 N, .slice a l.length cap] 24)) := (Below.refl _ _).alloc (Nat.le_refl _) _
  have hg := heap_top w (.cells #[.int .i64 N, .slice a l.length cap] 24)
  have HCH := Lib.hid (rcheck_any N a l cap (w.alloc (.cells #[.int .i64 N, .slice a l.length cap] 24)) hl (hr.on hb0))
  have HB0 := Lib.hid hb0
  have HG := Lib.hid hg
  obtain ⟨⟨c0, c1⟩, _⟩ := two_cells hg
  obtain ⟨V, HV⟩ := named (lgB N l)
  rw [HV.out]
  have HVV : Hid (V = (decide (chkE N l = 0) && (decide (40 < N) || decide (200 < l.length)))) := HV.out.symm
  obtain ⟨E, HE⟩ := named (chkE N l)
  obtain ⟨AT, HAT⟩ := named (chkAt N l)
  rw [HE.out] at HVV HCH
  rw [HAT.out] at HCH
  have hwz : w.heap.size ≤ (w.alloc (.cells #[.int .i64 N, .slice a l.length cap] 24)).heap.size := hb0.size
  have hpW : w.heap.size < (w.alloc (.cells #[.int .i64 N, .slice a l.length cap] 24)).heap.size := by simp
  clear hg hr hb0
  generalize hp : w.heap.size = p at *
  go_enter Tryz.func6, Tryz.ntmps6
  go_wp2_with fail
  generalize hW : w.alloc (.cells #[.int .i64 N, .slice a l.length cap] 24) = W at *
  clear hW
  refine HCH.out.mono ?_
  rintro e w1 ⟨rfl, hb1⟩
  have HB1 : Hid (Below p w w1) := HB0.out.trans (hb1.mono hwz)
  obtain ⟨⟨d0, d1⟩, _⟩ := two_cells ((hb1.block p hpW).trans HG.out)
  clear hb1 HCH c0 c1 HG HB0
  by_cases hE : E = 0
  · subst hE
    by_cases h1 : 40 < N
    · obtain rfl : V = true := by rw [HVV.out]; simp [h1]
      go_wp2_with fail
      go_ret
      exact ⟨rfl, HB1.out⟩
    · by_cases h2 : 200 < l.length
      · obtain rfl : V = true := by rw [HVV.out]; simp [h2]
        have h2' : (200 : Int) < l.length := by omega
        go_wp2_with fail
        go_ret
        exact ⟨rfl, HB1.out⟩
      · obtain rfl : V = false := by rw [HVV.out]; simp [h1]; omega
        have h2' : ¬ (200 : Int) < l.length := by omega
        go_wp2_with fail
        go_ret
        refine ⟨?_, HB1.out⟩
        show Ending.returned (Value.bool (decide (40 < N) || decide (200 < (l.length : Int)))) = _
        rw [decide_eq_false (show ¬ 40 < N by omega), decide_eq_false (show ¬ (200 : Int) < (l.length : Int) by omega)]
        rfl
  · obtain rfl : V = false := by rw [HVV.out]; simp [hE]
    have hE' : (E == 0) = false := by simpa using hE
    clear hE
    go_wp2_with fail
    go_ret
    exact ⟨rfl, HB1.out⟩
end Go.Proofs.YtpmjbeiclmllmaaGreat
namespace Go.Proofs.YtpmjbeiclmllmaaGreat
open Go.RowKit
theorem getA_mem {l : List A} {i : Nat} (h : i < l.length) : l.getD i A.zero ∈ l := by
  rw [show l.getD i A.zero = l[i] by simp [List.getD, List.getElem?_eq_getElem h]]; exact List.getElem_mem h
theorem memA_get {l : List A} {x : A} (h : x ∈ l) : ∃ i, i < l.length ∧ l.getD i A.zero = x := by
  obtain ⟨i, hi, rfl⟩ := List.getElem_of_mem h
  exact ⟨i, hi, by simp [List.getD, List.getElem?_eq_getElem hi]⟩
theorem crs_iff {L : List Int} {l : List A} {v : Nat} : crs L l l.length v = true ↔ ∃ i, i < l.length ∧ prt L (l.getD i A.zero) = true ∧ ((l.getD i A.zero).f.toNat = v ∨ (l.getD i A.zero).t.toNat = v) := by
  unfold crs
  rw [List.take_length]
  simp only [List.any_eq_true, Bool.and_eq_true, Bool.or_eq_true, decide_eq_true_eq]
  constructor
  · rintro ⟨x, hx, h1, h2⟩
    obtain ⟨i, hi, rfl⟩ := memA_get hx
    exact ⟨i, hi, h1, h2⟩
  · rintro ⟨i, hi, h1, h2⟩
    exact ⟨_, getA_mem hi, h1, h2⟩
/-- The ends of the first arcs of a list. -/
def mkd (S : List Nat) (l : List A) (k v : Nat) : Bool := (S.take k).any (fun i => decide ((l.getD i A.zero).f.toNat = v) || decide ((l.getD i A.zero).t.toNat = v))
theorem take_snocN {S : List Nat} {k : Nat} (h : k < S.length) : S.take (k + 1) = S.take k ++ [S.getD k 0] := by
  rw [List.take_add_one]
  simp [List.getD, List.getElem?_eq_getElem h]
theorem mkd_step {S : List Nat} (l : List A) {k : Nat} (h : k < S.length) (v : Nat) : mkd S l (k + 1) v = if v = (l.getD (S.getD k 0) A.zero).t.toNat then true else if v = (l.getD (S.getD k 0) A.zero).f.toNat then true else mkd S l k v := by
  unfold mkd
  rw [take_snocN h, List.any_append]
  simp only [List.any_cons, List.any_nil, Bool.or_false]
  by_cases h1 : v = (l.getD (S.getD k 0) A.zero).t.toNat
  · rw [if_pos h1, decide_eq_true h1.symm]; simp
  · have e1 : decide ((l.getD (S.getD k 0) A.zero).t.toNat = v) = false := decide_eq_false (fun e => h1 e.symm)
    rw [if_neg h1, e1]
    by_cases h2 : v = (l.getD (S.getD k 0) A.zero).f.toNat
    · rw [if_pos h2, decide_eq_true h2.symm]; simp
    · have e2 : decide ((l.getD (S.getD k 0) A.zero).f.toNat = v) = false := decide_eq_false (fun e => h2 e.symm)
      rw [if_neg h2, e2]; simp
theorem mkd_all (L : List Int) (l : List A) (v : Nat) : mkd (arL l (prt L)) l (arL l (prt L)).length v = crs L l l.length v := by
  rw [Bool.eq_iff_iff, crs_iff]
  unfold mkd
  rw [List.take_length]
  simp only [List.any_eq_true, Bool.or_eq_true, decide_eq_true_eq]
  constructor
  · rintro ⟨i, hi, h⟩
    obtain ⟨h1, h2⟩ := cho_mem.1 hi
    exact ⟨i, h1, h2, h⟩
  · rintro ⟨i, hi, h1, h2⟩
    exact ⟨i, cho_mem.2 ⟨hi, h1⟩, h2⟩
theorem getN_mem {S : List Nat} {k : Nat} (h : k < S.length) : S.getD k 0 ∈ S := by
  rw [show S.getD k 0 = S[k] by simp [List.getD, List.getElem?_eq_getElem h]]; exact List.getElem_mem h
theorem count_lt : ∀ {S : List Nat} {k : Nat}, S.Pairwise (· < ·) → k < S.length → (ints S).countP (· < ((S.getD k 0 : Nat) : Int)) = k
  | [], k, _, h => by simp at h
  | a :: r, 0, h, _ => by
    obtain ⟨h1, h2⟩ := List.pairwise_cons.1 h
    rw [List.countP_eq_zero]
    intro x hx
    simp only [ints, List.map_cons, List.mem_cons, List.mem_map] at hx
    simp only [List.getD_cons_zero, decide_eq_true_eq]
    rcases hx with rfl | ⟨y, hy, rfl⟩
    · omega
    · have := h1 y hy
      omega
  | a :: r, k + 1, h, hk => by
    obtain ⟨h1, h2⟩ := List.pairwise_cons.1 h
    have hk' : k < r.length := by simpa using hk
    have ih := count_lt h2 hk'
    have h3 := h1 _ (getN_mem hk')
    have e : ints (a :: r) = (a : Int) :: ints r := rfl
    rw [e, List.getD_cons_succ, List.countP_cons, ih, decide_eq_true (by omega : (a : Int) < ((r.getD k 0 : Nat) : Int))]
    simp
theorem contains_at {S : List Nat} {k : Nat} (h : k < S.length) : (ints S).contains ((S.getD k 0 : Nat) : Int) = true := by
  rw [List.contains_iff_mem]
  exact List.mem_map.2 ⟨_, getN_mem h, rfl⟩
theorem ints_mem {S : List Nat} {v : Nat} : (v : Int) ∈ ints S ↔ v ∈ S := by
  unfold ints
  rw [List.mem_map]
  constructor
  · rintro ⟨x, hx, e⟩
    have : x = v := by omega
    exact this ▸ hx
  · exact fun h => ⟨v, h, rfl⟩
theorem bdL_mem {n : Nat} {L : List Int} {l : List A} {q : Int} {v : Nat} : v ∈ bdL n L l q ↔ v < n ∧ L.getD v 0 = q ∧ crs L l l.length v = true := by
  unfold bdL
  rw [cho_mem]
  unfold bdP
  rw [Bool.and_eq_true, decide_eq_true_eq]
theorem RowI.set {w : World} {B d : Nat} {v : Option Addr} {xs : List Int} (h : RowI w B v xs) (hd : d < B) (k : Nat) (u : Value) : RowI (w.setCell ⟨d, k, none⟩ u) B v xs := by
  rcases h with h | ⟨g, cur, h1, h2, h3, h4⟩
  · exact Or.inl h
  · exact Or.inr ⟨g, cur, h1, h2, (Below.heap_setCell w ⟨d, k, none⟩ u g (by show g ≠ d; omega)).trans h3, h4⟩
/-- What is left of the ends, behind some cells and some vertices of the next one. -/
def lft (L : List Int) (l : List A) (n c k v : Nat) : Bool := crs L l l.length v && (decide ((c : Int) < L.getD v 0) || (decide (L.getD v 0 = (c : Int)) && !((bdL n L l c).take k).contains v))
theorem lft_zero {L : List Int} {l : List A} {n v : Nat} (h : 0 ≤ L.getD v 0) : lft L l n 0 0 v = crs L l l.length v := by
  unfold lft
  rcases Int.lt_or_eq_of_le h with h1 | h1
  · rw [decide_eq_true (show ((0 : Nat) : Int) < L.getD v 0 by omega)]; simp
  · rw [decide_eq_false (show ¬ ((0 : Nat) : Int) < L.getD v 0 by omega), decide_eq_true (show L.getD v 0 = ((0 : Nat) : Int) by omega)]; simp
theorem nodup_at {S : List Nat} (h : S.Pairwise (· < ·)) {k : Nat} (hk : k < S.length) : ¬ (S.take k).contains (S.getD k 0) = true := by
  rw [List.contains_iff_mem]
  intro h1
  have e : S.take (k + 1) = S.take k ++ [S.getD k 0] := take_snocN hk
  have h2 : (S.take (k + 1)).Pairwise (· < ·) := h.sublist (List.take_sublist _ _)
  rw [e, List.pairwise_append] at h2
  exact Nat.lt_irrefl _ (h2.2.2 _ h1 _ (by simp))
/-- The next boundary vertex is left, and then taken. -/
theorem lft_at {L : List Int} {l : List A} {n c k : Nat} (hk : k < (bdL n L l c).length) : lft L l n c k ((bdL n L l c).getD k 0) = true := by
  have h1 := bdL_mem.1 (getN_mem hk)
  unfold lft
  rw [h1.2.2, h1.2.1, decide_eq_true (show (c : Int) = (c : Int) from rfl), Bool.eq_false_iff.2 (nodup_at (S := bdL n L l c) (cho_sorted _ _) hk)]
  simp
theorem lft_step {L : List Int} {l : List A} {n c k : Nat} (hk : k < (bdL n L l c).length) (v : Nat) : lft L l n c (k + 1) v = if v = (bdL n L l c).getD k 0 then false else lft L l n c k v := by
  by_cases e : v = (bdL n L l c).getD k 0
  · rw [if_pos e]
    have h1 := bdL_mem.1 (getN_mem hk)
    rw [← e] at h1
    unfold lft
    rw [take_snocN hk, ← e, h1.2.1, decide_eq_false (show ¬ (c : Int) < (c : Int) by omega)]
    simp
  · rw [if_neg e]
    unfold lft
    rw [take_snocN hk]
    congr 3
    rw [Bool.eq_iff_iff]
    simp only [Bool.not_eq_true', Bool.eq_false_iff, ne_eq, List.contains_iff_mem, List.mem_append, List.mem_singleton, e, or_false]
theorem lft_next {L : List Int} {l : List A} {n c v : Nat} (hv : v < n) : lft L l n c (bdL n L l c).length v = lft L l n (c + 1) 0 v := by
  unfold lft
  rw [List.take_length]
  by_cases hc : crs L l l.length v = true
  · rw [hc, Bool.true_and, Bool.true_and]
    by_cases h1 : L.getD v 0 = (c : Int)
    · have h2 : (bdL n L l c).contains v = true := by rw [List.contains_iff_mem]; exact bdL_mem.2 ⟨hv, h1, hc⟩
      rw [h2, h1, decide_eq_false (show ¬ (c : Int) < (c : Int) by omega), decide_eq_false (show ¬ ((c + 1 : Nat) : Int) < (c : Int) by omega), decide_eq_false (show ¬ (c : Int) = ((c + 1 : Nat) : Int) by omega)]
      simp
    · rw [decide_eq_false h1]
      simp only [Bool.false_and, Bool.or_false, List.take_zero, List.contains_nil, Bool.not_false, Bool.and_true]
      rw [Bool.eq_iff_iff]
      simp only [Bool.or_eq_true, decide_eq_true_eq]
      omega
  · rw [Bool.not_eq_true] at hc
    rw [hc, Bool.false_and, Bool.false_and]
theorem lft_end {L : List Int} {l : List A} {n c v : Nat} (h : L.getD v 0 < (c : Int)) : lft L l n c 0 v = false := by
  unfold lft
  rw [decide_eq_false (show ¬ (c : Int) < L.getD v 0 by omega), decide_eq_false (show ¬ L.getD v 0 = (c : Int) by omega)]
  simp
/-- A boundary vertex is one of the child in which it lies. -/
theorem crs_below {n : Nat} {l : List A} {M L : List Int} (hC : chkE n l = 0) (hM : M.length = n) (hN : Nst M L) {v : Nat} (h : crs L l l.length v = true) : crs M l l.length v = true := by
  obtain ⟨i, hi, h1, h2⟩ := crs_iff.1 h
  refine crs_iff.2 ⟨i, hi, ?_, h2⟩
  obtain ⟨⟨f0, f1⟩, t0, t1⟩ := chk_in hC hi
  unfold prt lb at h1 ⊢
  rw [decide_eq_true_eq] at h1 ⊢
  exact fun e => h1 (hN _ (by omega) _ (by omega) e)
end Go.Proofs.YtpmjbeiclmllmaaGreat
namespace Go.Proofs.YtpmjbeiclmllmaaGreat
open Go.RowKit
theorem info25 : (Tryz.prog.info? 25).map (fun i => (i.zero, i.size, i.bytes)) = some (some (.slice none 0 0), 1, 24) := by kernel_rfl
theorem made_sl (n : Nat) : madeCells (Value.slice none 0 0).cells (n * 1) = ((List.range n).map (fun _ => Value.slice none 0 0)).toArray := by
  apply Array.ext'
  show (madeCells #[Value.slice none 0 0] (n * 1)).toList = _
  rw [toList_madeCells_one, Nat.mul_one]
  apply List.ext_getElem
  · simp
  · intro i h1 h2
    simp
theorem tcP_zero (L : List Int) (l : List A) (ids : List Int) (c : Nat) : tcP L l ids 0 c = false := by simp [tcP]
set_option maxRecDepth 100000 in
set_option maxHeartbeats 1600000 in
theorem touched_any (b : Option Addr) (L : List Int) (bc n : Nat) (a : Option Addr) (l : List A) (cap : Nat) (d : Option Addr) (ids : List Int) (dc : Nat) (w : World) (hLn : L.length = n) (hC : chkE n l = 0) (hT : ∀ v, v < n → 0 ≤ L.getD v 0 ∧ L.getD v 0 < n) (h8 : ids.length ≤ 16384) (hd : ∀ i, i < ids.length → 0 ≤ ids.getD i 0 ∧ ids.getD i 0 < l.length) (hr : Arcs w a l) (hi : Ints w b L) (hj : Ints w d ids) :
    Calls Tryz.prog 84 #[.slice b L.length bc, .agg #[.int .i64 n, .slice a l.length cap], .slice d ids.length dc] w fun e w' => ∃ g, e = .returned (.slice (some ⟨g, 0, none⟩) n n) ∧ w.heap.size ≤ g ∧ TbV w' g n 4 (boV (tcP L l ids ids.length)) ∧ Below w.heap.size w w' := by
  have hb0 : Below w.heap.size w (w.alloc (.cells #[.int .i64 n, .slice a l.length cap] 24)) := (Below.refl _ _).alloc (Nat.le_refl _) _
  have hg := heap_top w (.cells #[.int .i64 n, .slice a l.length cap] 24)
  have HGG := Lib.hid hg
  obtain ⟨⟨c0, c1⟩, _⟩ := two_cells hg
  have hL : n ≤ 1024 := by have := (chk_zero hC).2.1; omega
  have hl8 : l.length ≤ 8192 := (chk_zero hC).2.2.1
  obtain ⟨i4, hi4, hz4, hs4, hby4⟩ := info_parts info4
  have hmk : ∀ w, (Instr.makeSlice 113 (.int .i64 n) (.int .i64 n)).run Tryz.prog w = .ok (.slice (some ⟨w.heap.size, 0, none⟩) n n) (w.alloc (.cells ((List.range n).map (fun _ => Value.bool false)).toArray 4)) := fun w => by
    have := run_make (P := Tryz.prog) w 113 4 i4 (.bool false) Tryz.underlying113 hi4 hz4 .i64 .i64 n n (by omega) (by omega) (by rw [hby4]; omega) (by omega)
    rw [hs4] at this
    rw [this, Int.toNat_natCast, made_bool]
  obtain ⟨ix, ox, hix⟩ := hr.get
  obtain ⟨iy, oy, hiy⟩ := hi.get
  obtain ⟨iz, oz, hiz⟩ := hj.get
  have HIX := Lib.hid hix
  have HIY := Lib.hid hiy
  have HIZ := Lib.hid hiz
  have HIN : Hid (∀ j, j < l.length → inA n (l.getD j A.zero)) := fun j hj => chk_in hC hj
  have HI := Lib.hid hi
  have HB0 := Lib.hid hb0
  have HT := Lib.hid hT
  have HD := Lib.hid hd
  have HN := Lib.hid hLn
  rw [hLn]
  clear hr hi hj hix hiy hiz hC hb0 hT hd hLn
  generalize hp : w.heap.size = p at *
  go_enter Tryz.func84, Tryz.ntmps84
  go_wp2_with fail
  have hw1 : (w.alloc (.cells #[.int .i64 n, .slice a l.length cap] 24)).heap.size = p + 1 := by simp [hp]
  generalize hW : (w.alloc (.cells #[.int .i64 n, .slice a l.length cap] 24)) = W at *
  clear hW hg
  have HT0 : Hid (TbV (W.alloc (.cells ((List.range n).map (fun _ => Value.bool false)).toArray 4)) (p + 1) n 4 (boV (tcP L l ids 0))) := by
    have h := heap_top W (.cells ((List.range n).map (fun _ => Value.bool false)).toArray 4)
    rw [hw1] at h
    show TbV _ _ _ _ _
    unfold TbV
    rw [h]
    congr 3
  have HB1 : Hid (Below p w (W.alloc (.cells ((List.range n).map (fun _ => Value.bool false)).toArray 4))) := HB0.out.alloc (by omega) _
  have HG1 : Hid ((W.alloc (.cells ((List.range n).map (fun _ => Value.bool false)).toArray 4)).heap[p]? = some (.cells #[.int .i64 n, .slice a l.length cap] 24)) := (Below.heap_alloc _ _ _ (by omega)).trans HGG.out
  generalize W.alloc (.cells ((List.range n).map (fun _ => Value.bool false)).toArray 4) = V at *
  clear c0 c1 HB0 hw1 hmk HGG
  go_loopw [16] (fun i wr => ∃ (k : Nat), k ≤ ids.length ∧ i = .int .i64 k ∧ Hid (TbV wr (p + 1) n 4 (boV (tcP L l ids k))) ∧ Hid (wr.heap[p]? = some (.cells #[.int .i64 n, .slice a l.length cap] 24)) ∧ Hid (Below p w wr)) (fun i _ => ids.length - (intOf i).toNat)
  case atStart => exact ⟨0, Nat.zero_le _, rfl, HT0, HG1, HB1⟩
  case round =>
    obtain ⟨k, hk, rfl, HTR, HGR, HBR⟩ := hrel
    have hwr : p + 1 < wr.heap.size := HTR.out.lt
    by_cases hlk : k < ids.length
    · have hlk' : (k : Int) < ids.length := by omega
      obtain ⟨rfl, hzl, hzat⟩ := HIZ.out (by omega)
      have s0 := (HBR.out.cell (p := ⟨iz, oz + k, none⟩) (hp ▸ hzl)).trans (hzat k hlk)
      have HCT := Lib.hid (tcP_t (L := L) (l := l) hlk)
      have HCF := Lib.hid (tcP_f (L := L) (l := l) hlk)
      obtain ⟨d0, d1⟩ := HD.out k hlk
      obtain ⟨i, HII⟩ : ∃ i : Nat, Hid (ids.getD k 0 = (i : Int)) := ⟨(ids.getD k 0).toNat, by show _ = _; omega⟩
      rw [HII.out, Int.toNat_natCast] at HCT HCF
      rw [HII.out] at s0 d0 d1
      have hil : i < l.length := by omega
      obtain ⟨rfl, hbl, hat⟩ := HIX.out (by omega)
      obtain ⟨x0, x1, x2⟩ := hat i hil
      have y0 := (HBR.out.cell (p := ⟨ix, ox + i * 3, none⟩) (hp ▸ hbl)).trans x0
      have y1 := (HBR.out.cell (p := ⟨ix, ox + i * 3 + 1, none⟩) (hp ▸ hbl)).trans x1
      have y2 := (HBR.out.cell (p := ⟨ix, ox + i * 3 + 2, none⟩) (hp ▸ hbl)).trans x2
      have hin := HIN.out i hil
      generalize l.getD i A.zero = x at *
      obtain ⟨xf, xt, xw⟩ := x
      obtain ⟨⟨f0, f1⟩, t0, t1⟩ := hin
      simp only at f0 f1 t0 t1 y0 y1 y2
      obtain ⟨u, rfl⟩ : ∃ u : Nat, xf = u := ⟨xf.toNat, by omega⟩
      obtain ⟨v, rfl⟩ : ∃ v : Nat, xt = v := ⟨xt.toNat, by omega⟩
      obtain ⟨P, HP⟩ := named (prt L ⟨u, v, xw⟩)
      have HPT : Hid (∀ W2, Below p w W2 → Calls Tryz.prog 59 #[.slice b n bc, .agg #[.int .i64 u, .int .i64 v, .int .u32 xw]] W2 fun e w' => e = .returned (.bool P) ∧ Below W2.heap.size W2 w') := by
        intro W2 hb
        have := cePart_any b L bc ⟨u, v, xw⟩ W2 (by rw [HN.out]; exact ⟨⟨f0, f1⟩, t0, t1⟩) (by rw [HN.out]; exact hL) (HI.out.on (hp ▸ hb))
        rw [HN.out, HP.out] at this
        exact this
      obtain ⟨rfl, hyl, hyat⟩ := HIY.out (by rw [HN.out]; omega)
      have z0 := hyat u (by rw [HN.out]; omega)
      obtain ⟨e0, e1⟩ := HT.out u (by omega)
      have HLB : Hid (lb L (u : Int) = L.getD u 0) := by show _ = _; unfold lb; rw [Int.toNat_natCast]
      obtain ⟨y, HY⟩ : ∃ y : Nat, Hid (L.getD u 0 = (y : Int)) := ⟨(L.getD u 0).toNat, by show _ = _; omega⟩
      rw [HY.out] at z0 e0 e1 HLB
      have Z0 := Lib.hid z0
      have hyn : y < n := by omega
      clear x0 x1 x2 hat hyat hzat z0
      have HB2 : Hid (Below p w (wr.alloc (.cells #[.int .i64 u, .int .i64 v, .int .u32 xw] 68))) := HBR.out.alloc (by omega) _
      have HG2 := Lib.hid (heap_top wr (.cells #[.int .i64 u, .int .i64 v, .int .u32 xw] 68))
      have HT2 : Hid (TbV (wr.alloc (.cells #[.int .i64 u, .int .i64 v, .int .u32 xw] 68)) (p + 1) n 4 (boV (tcP L l ids k))) := HTR.out.same (Below.heap_alloc _ _ _ hwr)
      have HGB : Hid ((wr.alloc (.cells #[.int .i64 u, .int .i64 v, .int .u32 xw] 68)).heap[p]? = some (.cells #[.int .i64 n, .slice (some ⟨ix, ox, none⟩) l.length cap] 24)) := (Below.heap_alloc _ _ _ (by omega)).trans HGR.out
      obtain ⟨⟨k0, k1⟩, _⟩ := two_cells HGR.out
      have hii : (i : Int) < l.length := by omega
      go_wp2_with fail
      refine (HPT.out _ HB2.out).mono ?_
      rintro e w2 ⟨rfl, hb2⟩
      have HT3 : Hid (TbV w2 (p + 1) n 4 (boV (tcP L l ids k))) := HT2.out.same (hb2.block _ HT2.out.lt)
      have hG3 := (hb2.block _ (lt_of_block HG2.out)).trans HG2.out
      have HGC : Hid (w2.heap[p]? = some (.cells #[.int .i64 n, .slice (some ⟨ix, ox, none⟩) l.length cap] 24)) := (hb2.block _ (lt_of_block HGB.out)).trans HGB.out
      obtain ⟨z0, z1, z2⟩ := three_cells hG3
      have HB3 : Hid (Below p w w2) := HB2.out.trans (hb2.mono (by simp; omega))
      have l0 := (HB3.out.cell (p := ⟨iy, oy + u, none⟩) (hp ▸ hyl)).trans Z0.out
      have hu' : (u : Int) < n := by omega
      have hy' : (y : Int) < n := by omega
      clear HG2 HT2 HB2 hb2 y0 y1 y2 HGB k0 k1 hG3 z1 z2 s0
      generalize wr.heap.size = q at *
      rcases P with _ | _
      · have q0 := HT3.out.free y
        have r0 := HT3.out.cell (v := y) hyn
        have HTN : Hid (TbV (w2.setCell ⟨p + 1, y, none⟩ (.bool true)) (p + 1) n 4 (boV (tcP L l ids (k + 1)))) := (HT3.out.set y (.bool true)).congr (fun c _ => by
          rw [boV_set]
          show Value.bool _ = Value.bool _
          rw [HCT.out HP.out]
          simp only [HLB.out, Int.toNat_natCast])
        have HBN : Hid (Below p w (w2.setCell ⟨p + 1, y, none⟩ (.bool true))) := HB3.out.setCell (p := ⟨p + 1, y, none⟩) (by simp) _
        have HGN : Hid ((w2.setCell ⟨p + 1, y, none⟩ (.bool true)).heap[p]? = some (.cells #[.int .i64 n, .slice (some ⟨ix, ox, none⟩) l.length cap] 24)) := (Below.heap_setCell w2 ⟨p + 1, y, none⟩ _ p (by show p ≠ p + 1; omega)).trans HGC.out
        go_wp2_with fail
        exact ⟨⟨k + 1, by omega, by simp, HTN, HGN, HBN⟩, by simp [intOf]; omega⟩
      · have HTN : Hid (TbV w2 (p + 1) n 4 (boV (tcP L l ids (k + 1)))) := HT3.out.congr (fun c _ => by show Value.bool _ = Value.bool _; rw [HCF.out HP.out])
        go_wp2_with fail
        exact ⟨⟨k + 1, by omega, by simp, HTN, HGC, HB3⟩, by simp [intOf]; omega⟩
    · have hlk' : ¬ (k : Int) < ids.length := by omega
      obtain rfl : k = ids.length := by omega
      go_wp2_with fail
      go_ret
      exact ⟨p + 1, rfl, by omega, HTR.out, HBR.out⟩
set_option maxRecDepth 100000 in
set_option maxHeartbeats 1600000 in
theorem ceS1_any (c n b1 g : Nat) (T : Nat → Bool) (w : World) (hc : c < n) (c1 : w.cell? ⟨b1, 0, none⟩ = some (.slice (some ⟨g, 0, none⟩) n n)) (hT : TbV w g n 4 (boV T)) :
    Calls Tryz.prog 86 #[.int .i64 c, .pointer (some ⟨b1, 0, none⟩)] w fun e w' => e = .returned (.bool (T c)) ∧ Below w.heap.size w w' := by
  have d2 := hT.cell hc
  have e2 : boV T c = .bool (T c) := rfl
  rw [e2] at d2
  have hc1 : (c : Int) < n := by omega
  clear e2 hT
  generalize T c = tv at *
  go_enter Tryz.func86, Tryz.ntmps86
  go_wp2_with fail
  go_ret
  exact ⟨rfl, Below.refl _ _⟩
/-- What is wrong with arcs that are given. -/
def stE (N : Int) (l : List A) (bs : List Int) (cs : List (List Int)) (ids : List Int) : Int := if nsE N l bs cs ≠ 0 then nsE N l bs cs else if 16384 < ids.length then 2 else if ids.all (fun i => decide (0 ≤ i ∧ i < (l.length : Int))) then 0 else 5
/-- The rows of stale cells, as far as they are made. -/
def rwV (n : Nat) (cs : List (List Int)) (l : List A) (ids : List Int) (vs : Nat → Option Addr) (k j : Nat) : Value := if j < k then .slice (vs j) (tcL n (lvl cs j) l ids).length (tcL n (lvl cs j) l ids).length else .slice none 0 0
theorem rwV_step (n : Nat) (cs : List (List Int)) (l : List A) (ids : List Int) (vs : Nat → Option Addr) (k : Nat) (v : Option Addr) (j : Nat) : updV (rwV n cs l ids vs k) k (.slice v (tcL n (lvl cs k) l ids).length (tcL n (lvl cs k) l ids).length) j = rwV n cs l ids (fun y => if y = k then v else vs y) (k + 1) j := by
  unfold updV rwV
  by_cases h : j = k
  · subst h; simp
  · by_cases h2 : j < k
    · rw [if_neg h, if_pos h2, if_pos (by omega)]; simp [h]
    · rw [if_neg h, if_neg h2, if_neg (by omega)]
theorem all_take_I {xs : List Int} {p : Int → Bool} {k : Nat} (hk : k < xs.length) (h : (xs.take k).all p = true) (hp : p (xs.getD k 0) = true) : (xs.take (k + 1)).all p = true := by
  rw [take_snocI hk, List.all_append, h]
  simp only [List.all_cons, List.all_nil, Bool.and_true, Bool.true_and]
  exact hp
theorem all_at_I {xs : List Int} {p : Int → Bool} (h : xs.all p = true) {k : Nat} (hk : k < xs.length) : p (xs.getD k 0) = true := by
  rw [List.all_eq_true] at h
  refine h _ ?_
  rw [show xs.getD k 0 = xs[k] by simp [List.getD, List.getElem?_eq_getElem hk]]
  exact List.getElem_mem hk
theorem all_not_I {xs : List Int} {p : Int → Bool} {k : Nat} (hk : k < xs.length) (hp : p (xs.getD k 0) = false) : xs.all p = false := by
  cases h : xs.all p with
  | false => rfl
  | true => rw [all_at_I h hk] at hp; cases hp
/-- The lists of stale cells as they lie. -/
def stC (n : Nat) (cs : List (List Int)) (l : List A) (ids : List Int) (vs : Nat → Option Addr) (m : Nat) : List Cl := (List.range m).map (fun j => ⟨vs j, (tcL n (lvl cs j) l ids).length, ints (tcL n (lvl cs j) l ids)⟩)
theorem stC_len (n : Nat) (cs : List (List Int)) (l : List A) (ids : List Int) (vs : Nat → Option Addr) (m : Nat) : (stC n cs l ids vs m).length = m := by simp [stC]
theorem stC_at {n : Nat} {cs : List (List Int)} {l : List A} {ids : List Int} {vs : Nat → Option Addr} {m j : Nat} (hj : j < m) : cl (stC n cs l ids vs m) j = ⟨vs j, (tcL n (lvl cs j) l ids).length, ints (tcL n (lvl cs j) l ids)⟩ := by
  simp [cl, stC, List.getD, hj]
theorem stC_rws {w : World} {g n m B : Nat} {cs : List (List Int)} {l : List A} {ids : List Int} {vs : Nat → Option Addr} (hn : n ≤ 1024) (hT : TbV w g m 25 (rwV n cs l ids vs m)) (hR : ∀ j, j < m → RowI w B (vs j) (ints (tcL n (lvl cs j) l ids))) : Rws w (some ⟨g, 0, none⟩) (stC n cs l ids vs m) := by
  refine ⟨.inr ⟨g, 0, rfl, hT.lt, fun j hj => ?_⟩, fun j hj => ?_⟩
  · rw [stC_len] at hj
    rw [Nat.zero_add, hT.cell hj, stC_at hj]
    unfold rwV Cl.val
    rw [if_pos hj, ints_len]
  · rw [stC_len] at hj
    rw [stC_at hj]
    refine ⟨(hR j hj).ints, ?_⟩
    show (ints _).length ≤ _
    rw [ints_len]
    have := cho_len (tcP (lvl cs j) l ids ids.length) n
    unfold tcL
    omega
set_option maxRecDepth 100000 in
set_option maxHeartbeats 1600000 in
theorem stale_any (N : Int) (a : Option Addr) (l : List A) (cap : Nat) (ba : Option Addr) (bs : List Int) (bc : Nat) (ca : Option Addr) (C : List Cl) (cc : Nat) (d : Option Addr) (ids : List Int) (dc : Nat) (w : World) (hl : l.length ≤ 9223372036854775807) (hbl : bs.length ≤ 9223372036854775807) (hr : Arcs w a l) (hi : Ints w ba bs) (hR : Rws w ca C) (hdl : ids.length ≤ 9223372036854775807) (hj : Ints w d ids) :
    Calls Tryz.prog 47 #[.agg #[.int .i64 N, .slice a l.length cap], .agg #[.slice ba bs.length bc, .slice ca C.length cc], .slice d ids.length dc] w fun e w' => (stE N l bs (csl C) ids = 0 → ∃ g vs, e = .returned (.tuple #[.slice (some ⟨g, 0, none⟩) C.length C.length, .int .i64 0]) ∧ Rws w' (some ⟨g, 0, none⟩) (stC N.toNat (csl C) l ids vs C.length)) ∧ (stE N l bs (csl C) ids ≠ 0 → e = .returned (.tuple #[.slice none 0 0, .int .i64 (stE N l bs (csl C) ids)])) ∧ Below w.heap.size w w' := by
  have hb0 : Below w.heap.size w ((w.alloc (.cells #[.int .i64 N, .slice a l.length cap] 24)).alloc (.cells #[.slice ba bs.length bc, .slice ca C.length cc] 28)) := (top2 w _ _).2.2.1
  have hg0 := (top2 w (.cells #[.int .i64 N, .slice a l.length cap] 24) (.cells #[.slice ba bs.length bc, .slice ca C.length cc] 28)).1
  have hg1 := (top2 w (.cells #[.int .i64 N, .slice a l.length cap] 24) (.cells #[.slice ba bs.length bc, .slice ca C.length cc] 28)).2.1
  have hsz := (top2 w (.cells #[.int .i64 N, .slice a l.length cap] 24) (.cells #[.slice ba bs.length bc, .slice ca C.length cc] 28)).2.2.2
  obtain ⟨⟨a0, a1⟩, _⟩ := two_cells hg0
  obtain ⟨⟨a2, a3⟩, _⟩ := two_cells hg1
  have HB0 := Lib.hid hb0
  have HCK := Lib.hid (ncheck_any N a l cap ba bs bc ca C cc _ hl hbl (hr.on hb0) (hi.on hb0) (hR.on hb0))
  obtain ⟨E, HE⟩ := named (nsE N l bs (csl C))
  generalize nsW N l bs (csl C) = nw at *
  rw [HE.out] at HCK
  have HG0 := Lib.hid hg0
  have HG1 := Lib.hid hg1
  have HST : Hid (stE N l bs (csl C) ids = if E ≠ 0 then E else if 16384 < ids.length then 2 else if ids.all (fun i => decide (0 ≤ i ∧ i < (l.length : Int))) then 0 else 5) := by
    show _ = _
    unfold stE
    rw [HE.out]
  obtain ⟨S, HSS⟩ := named (stE N l bs (csl C) ids)
  rw [HSS.out] at HST
  rw [HSS.out]
  have HRA := Lib.hid hr
  have HRR := Lib.hid hR
  have HJ := Lib.hid hj
  clear hr hi hR hj hb0 HSS
  generalize hp : w.heap.size = p at *
  go_enter Tryz.func47, Tryz.ntmps47
  go_wp2_with fail
  generalize hW : (w.alloc (.cells #[.int .i64 N, .slice a l.length cap] 24)).alloc (.cells #[.slice ba bs.length bc, .slice ca C.length cc] 28) = W at *
  clear hW
  refine HCK.out.mono ?_
  rintro e w1 ⟨rfl, hb1⟩
  have HB1 : Hid (Below p w w1) := HB0.out.trans (hb1.mono (by omega))
  have HG0 : Hid (w1.heap[p]? = some (.cells #[.int .i64 N, .slice a l.length cap] 24)) := (hb1.block p (by omega)).trans HG0.out
  have HG1 : Hid (w1.heap[p + 1]? = some (.cells #[.slice ba bs.length bc, .slice ca C.length cc] 28)) := (hb1.block (p + 1) (by omega)).trans HG1.out
  have hw1 : p + 2 ≤ w1.heap.size := by have := hb1.size; omega
  clear a0 a1 a2 a3 hg0 hg1 hb1 HCK HB0
  obtain ⟨⟨a0, a1⟩, _⟩ := two_cells HG0.out
  obtain ⟨⟨a2, a3⟩, _⟩ := two_cells HG1.out
  by_cases hE : E = 0
  · subst hE
    have HST : Hid (S = if 16384 < ids.length then 2 else if ids.all (fun i => decide (0 ≤ i ∧ i < (l.length : Int))) then 0 else 5) := by
      show _ = _
      rw [HST.out, if_neg (by simp)]
    by_cases h16 : 16384 < ids.length
    · have h16' : (16384 : Int) < ids.length := by omega
      obtain rfl : S = 2 := by rw [HST.out, if_pos h16]
      go_wp2_with fail
      go_ret2
      first | exact ⟨rfl, HB1.out⟩ | exact ⟨(fun h => absurd h (by decide)), (fun _ => rfl), HB1.out⟩
    · have h16' : ¬ (16384 : Int) < ids.length := by omega
      have HST : Hid (S = if ids.all (fun i => decide (0 ≤ i ∧ i < (l.length : Int))) then 0 else 5) := by
        show _ = _
        rw [HST.out, if_neg h16]
      obtain ⟨iz, oz, hiz⟩ := HJ.out.get
      have HIZ := Lib.hid hiz
      clear hiz
      go_wp2_with fail
      go_loop [30] (fun i => ∃ (k : Nat), k ≤ ids.length ∧ i = .int .i64 k ∧ Hid ((ids.take k).all (fun i => decide (0 ≤ i ∧ i < (l.length : Int))) = true)) (fun i => ids.length - (intOf i).toNat)
      case atStart => exact ⟨0, Nat.zero_le _, rfl, by show _ = _; simp⟩
      case round =>
        obtain ⟨k, hk, rfl, HK⟩ := hrel
        by_cases hlk : k < ids.length
        · have hlk' : (k : Int) < ids.length := by omega
          obtain ⟨rfl, hzl, hzat⟩ := HIZ.out (by omega)
          have s0 := (HB1.out.cell (p := ⟨iz, oz + k, none⟩) (hp ▸ hzl)).trans (hzat k hlk)
          have HT := Lib.hid (all_take_I (p := fun i => decide (0 ≤ i ∧ i < (l.length : Int))) hlk HK.out)
          have HF := Lib.hid (all_not_I (p := fun i => decide (0 ≤ i ∧ i < (l.length : Int))) hlk)
          generalize ids.getD k 0 = x at *
          clear hzat
          by_cases h1 : x < 0
          · obtain rfl : S = 5 := by rw [HST.out, if_neg (by rw [HF.out (decide_eq_false (by omega))]; simp)]
            go_wp2_with fail
            go_ret2
            first | exact ⟨rfl, HB1.out⟩ | exact ⟨(fun h => absurd h (by decide)), (fun _ => rfl), HB1.out⟩
          · by_cases h2 : (l.length : Int) ≤ x
            · obtain rfl : S = 5 := by rw [HST.out, if_neg (by rw [HF.out (decide_eq_false (by omega))]; simp)]
              go_wp2_with fail
              go_ret2
              first | exact ⟨rfl, HB1.out⟩ | exact ⟨(fun h => absurd h (by decide)), (fun _ => rfl), HB1.out⟩
            · have HK2 : Hid ((ids.take (k + 1)).all (fun i => decide (0 ≤ i ∧ i < (l.length : Int))) = true) := HT.out (decide_eq_true (by omega))
              go_wp2_with fail
              exact ⟨⟨k + 1, by omega, by simp, HK2⟩, by simp [intOf]; omega⟩
        · obtain rfl : k = ids.length := by omega
          have hlk' : ¬ (ids.length : Int) < ids.length := by omega
          have HAL := HK.out
          rw [List.take_length] at HAL
          obtain rfl : S = 0 := by rw [HST.out, if_pos HAL]
          have HALL := Lib.hid HAL
          have hNR := nsE_zero.1 HE.out
          have h1024 := (chk_zero hNR.1).2.1
          have h0N := (chk_zero hNR.1).1
          obtain ⟨n, hn⟩ : ∃ n : Nat, N = n := ⟨N.toNat, by omega⟩
          subst hn
          have hcl : C.length = bs.length := by have := hNR.2.2.2.1; rw [csl_len] at this; exact this
          have h5 : C.length ≤ 5 := by have := hNR.2.2.1; omega
          have HNR := Lib.hid hNR
          have HCL := Lib.hid hcl
          have hn8 : n ≤ 1024 := by omega
          obtain ⟨i25, hi25, hz25, hs25, hby25⟩ := info_parts info25
          have hmk : ∀ w, (Instr.makeSlice 26 (.int .i64 C.length) (.int .i64 C.length)).run Tryz.prog w = .ok (.slice (some ⟨w.heap.size, 0, none⟩) C.length C.length) (w.alloc (.cells ((List.range C.length).map (fun _ => Value.slice none 0 0)).toArray 25)) := fun w => by
            have := run_make (P := Tryz.prog) w 26 25 i25 (.slice none 0 0) Tryz.underlying26 hi25 hz25 .i64 .i64 C.length C.length (by omega) (by omega) (by rw [hby25]; omega) (by omega)
            rw [hs25] at this
            rw [this, Int.toNat_natCast, made_sl]
          have HD : Hid (∀ i, i < ids.length → 0 ≤ ids.getD i 0 ∧ ids.getD i 0 < l.length) := fun i hi => by have := all_at_I HALL.out hi; simpa using this
          have HBA : Hid (Below p w (w1.alloc (.cells ((List.range C.length).map (fun _ => Value.slice none 0 0)).toArray 25))) := HB1.out.alloc (by omega) _
          have HBX : Hid (Below w1.heap.size w1 (w1.alloc (.cells ((List.range C.length).map (fun _ => Value.slice none 0 0)).toArray 25))) := (Below.refl _ _).alloc (Nat.le_refl _) _
          have HT0 : Hid (TbV (w1.alloc (.cells ((List.range C.length).map (fun _ => Value.slice none 0 0)).toArray 25)) w1.heap.size C.length 25 (rwV n (csl C) l ids (fun _ => none) 0)) := by
            have h := heap_top w1 (.cells ((List.range C.length).map (fun _ => Value.slice none 0 0)).toArray 25)
            show TbV _ _ _ _ _
            unfold TbV
            rw [h]
            congr 3
          have b1 := (HBX.out.cell (p := ⟨p + 1, 1, none⟩) (by show p + 1 < _; omega)).trans a3
          obtain ⟨bx, ox, hbx⟩ := HRR.out.get
          have HBXX := Lib.hid hbx
          clear hbx hNR hcl HAL HK HST HIZ a2 hlk'
          go_wp2_with fail
          generalize w1.alloc (.cells ((List.range C.length).map (fun _ => Value.slice none 0 0)).toArray 25) = w2 at *
          clear a0 a1 a3 b1 hmk hi25 hz25 hs25 hby25
          have HGW := Lib.hid HG0.out
          go_loopw [51] (fun i wr => ∃ (k : Nat) (vs : Nat → Option Addr), k ≤ C.length ∧ i = .int .i64 k ∧ Hid (TbV wr w1.heap.size C.length 25 (rwV n (csl C) l ids vs k)) ∧ Hid (∀ j, j < k → RowI wr (w1.heap.size + 1) (vs j) (ints (tcL n (lvl (csl C) j) l ids))) ∧ Hid (Below w1.heap.size w1 wr)) (fun i _ => C.length - (intOf i).toNat)
          case atStart => exact ⟨0, fun _ => none, Nat.zero_le _, rfl, HT0, fun j hj => absurd hj (by omega), HBX⟩
          case round =>
            clear HT0 HBX HBA
            obtain ⟨k, vs, hk, rfl, HTR, HRR2, HBR⟩ := hrel
            by_cases hlk : k < C.length
            · have hlk' : (k : Int) < C.length := by omega
              have hbw : Below p w wr := HB1.out.trans (HBR.out.mono (by omega))
              have HBW := Lib.hid hbw
              obtain ⟨rfl, hbl2, hcell⟩ := HBXX.out (by omega)
              have d0 := (hbw.cell (p := ⟨bx, ox + k, none⟩) (hp ▸ hbl2)).trans (hcell k hlk)
              unfold Cl.val at d0
              have hkb : k < bs.length := by have := HCL.out; omega
              obtain ⟨hLn, hty, _, _⟩ := HNR.out.lv hkb
              have hIL := ((HRR.out.2 k hlk).1.on (hp ▸ hbw))
              have HRN := Lib.hid (rwV_step n (csl C) l ids vs k)
              have HTL : Hid (tcL n (lvl (csl C) k) l ids = cho (tcP (lvl (csl C) k) l ids ids.length) n) := rfl
              rw [csl_at] at hLn hty HRN HTL
              obtain ⟨L, va, vc, HLL, HVA, HVC⟩ : ∃ L va vc, Hid ((cl C k).xs = L) ∧ Hid ((cl C k).a = va) ∧ Hid ((cl C k).c = vc) := ⟨_, _, _, rfl, rfl, rfl⟩
              rw [HLL.out] at hLn hty hIL d0 HRN HTL
              rw [HVA.out] at d0 hIL
              rw [HVC.out] at d0
              have hLn' : L.length = n := by omega
              have hC0 : chkE n l = 0 := HNR.out.1
              have hLT : ∀ v, v < n → 0 ≤ L.getD v 0 ∧ L.getD v 0 < n := fun v hv => by
                obtain ⟨y, h1, h2⟩ := right_lt hty (u := v) (by rw [hLn']; exact hv)
                have h3 := szL_length L
                rw [h1]
                omega
              have HTC := Lib.hid (touched_any va L vc n a l cap d ids dc wr hLn' hC0 hLT (by omega) HD.out (HRA.out.on (hp ▸ hbw)) hIL (HJ.out.on (hp ▸ hbw)))
              rw [hLn'] at HTC d0
              obtain ⟨⟨a0, a1⟩, _⟩ := two_cells ((HBR.out.block p (by omega)).trans HGW.out)
              have hmf : ∀ (fn : Fn) (first cap : Array Value) (w : World), (Instr.makeFunc fn first cap).run Tryz.prog w = .ok (.func fn first cap) w := fun _ _ _ _ => rfl
              have hgw : w1.heap.size < wr.heap.size := HTR.out.lt
              clear hcell hIL hLT hC0 hty hLn hbw hLn'
              go_wp2_with fail
              refine HTC.out.mono ?_
              rintro e w3 ⟨g, rfl, hgV, hT3, hb3⟩
              have hz3 := hb3.size
              have hg3 : g < w3.heap.size := hT3.lt
              have HB4 : Hid (Below w1.heap.size w1 (w3.alloc (.cells #[.slice (some ⟨g, 0, none⟩) n n] 113))) := (HBR.out.trans (hb3.mono (by omega))).alloc (by omega) _
              have HBV : Hid (Below wr.heap.size wr (w3.alloc (.cells #[.slice (some ⟨g, 0, none⟩) n n] 113))) := hb3.alloc (by omega) _
              have HG4 := Lib.hid (heap_top w3 (.cells #[.slice (some ⟨g, 0, none⟩) n n] 113))
              have HT4 : Hid (TbV (w3.alloc (.cells #[.slice (some ⟨g, 0, none⟩) n n] 113)) g n 4 (boV (tcP L l ids ids.length))) := hT3.same (Below.heap_alloc _ _ _ hg3)
              have i0 := cell_of_one HG4.out
              have hu1 : (w3.alloc (.cells #[.slice (some ⟨g, 0, none⟩) n n] 113)).heap.size = w3.heap.size + 1 := by simp
              clear HTC hT3 hb3 a0 a1 d0
              go_wp2_with fail
              generalize hU : w3.alloc (.cells #[.slice (some ⟨g, 0, none⟩) n n] 113) = U at *
              clear hU
              refine (chosenS_any n (tcP L l ids ids.length) (.pointer (some ⟨w3.heap.size, 0, none⟩)) U (by omega) (fun c hc W2 hb => ?_)).mono ?_
              · exact ceS1_any c n w3.heap.size g (tcP L l ids ids.length) W2 hc ((hb.cell (p := ⟨w3.heap.size, 0, none⟩) (by show w3.heap.size < _; omega)).trans (cell_of_one HG4.out)) (HT4.out.same (hb.block g (by omega)))
              · rintro e w5 ⟨v, rfl, hrow5, hb5⟩
                have HB5 : Hid (Below w1.heap.size w1 w5) := HB4.out.trans (hb5.mono (by omega))
                have hbV5 : Below wr.heap.size wr w5 := HBV.out.trans (hb5.mono (by omega))
                have HT5 : Hid (TbV w5 w1.heap.size C.length 25 (rwV n (csl C) l ids vs k)) := HTR.out.same (hbV5.block _ hgw)
                have q0 := HT5.out.free k
                have r0 := HT5.out.cell hlk
                rw [← HTL.out] at hrow5
                obtain ⟨m5, HM5⟩ := named (cho (tcP L l ids ids.length) n).length
                have HTN : Hid (TbV (w5.setCell ⟨w1.heap.size, k, none⟩ (.slice v m5 m5)) w1.heap.size C.length 25 (rwV n (csl C) l ids (fun y => if y = k then v else vs y) (k + 1))) := (HT5.out.set k _).congr (fun j _ => by
                  have := HRN.out v j
                  rw [HTL.out, HM5.out] at this
                  exact this)
                have HBN : Hid (Below w1.heap.size w1 (w5.setCell ⟨w1.heap.size, k, none⟩ (.slice v m5 m5))) := HB5.out.setCell (p := ⟨w1.heap.size, k, none⟩) (Nat.le_refl _) _
                have HRO : Hid (∀ j, j < k + 1 → RowI (w5.setCell ⟨w1.heap.size, k, none⟩ (.slice v m5 m5)) (w1.heap.size + 1) ((fun y => if y = k then v else vs y) j) (ints (tcL n (lvl (csl C) j) l ids))) := fun j hj2 => by
                  refine RowI.set ?_ (Nat.lt_succ_self _) _ _
                  by_cases e : j = k
                  · subst e
                    rw [csl_at, HLL.out]
                    simp only [if_true]
                    exact hrow5.base (by omega)
                  · simp only [e, if_false]
                    exact (HRR2.out j (by omega)).on hbV5
                rw [HM5.out]
                clear hrow5 hb5 hbV5 HT4 HG4 i0 HTR HRR2
                go_wp2_with fail
                exact ⟨⟨k + 1, _, by omega, by simp, HTN, HRO, HBN⟩, by simp [intOf]; omega⟩
            · obtain rfl : k = C.length := by omega
              have hlk' : ¬ (C.length : Int) < C.length := by omega
              have HFIN := Lib.hid (stC_rws hn8 HTR.out HRR2.out)
              have HBF : Hid (Below p w wr) := HB1.out.trans (HBR.out.mono (by omega))
              clear HTR HRR2
              go_wp2_with fail
              go_ret2
              first | exact ⟨⟨w1.heap.size, vs, rfl, HFIN.out⟩, HBF.out⟩ | exact ⟨(fun _ => ⟨w1.heap.size, vs, rfl, HFIN.out⟩), (fun h => absurd rfl h), HBF.out⟩ | exact ⟨⟨w1.heap.size, rfl, vs, HFIN.out⟩, HBF.out⟩
  · have e1 : (E != 0) = true := by simpa using hE
    obtain rfl : S = E := by rw [HST.out, if_pos hE]
    go_wp2_with fail
    go_ret2
    first | exact ⟨rfl, HB1.out⟩ | exact ⟨(fun h => absurd h hE), (fun _ => rfl), HB1.out⟩
end Go.Proofs.YtpmjbeiclmllmaaGreat
