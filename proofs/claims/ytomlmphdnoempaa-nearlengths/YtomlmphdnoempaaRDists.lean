/-
  Contracts of flyoverref05.looked, Every and Dists, and of flyoverref01.Add. All arcs, gone over again and again: mathematics.
-/
import Derived.Test.YtomlmphdnoempaaBMath
import Derived.Test.YtomlmphdnoempaaTight
import Derived.Test.YtomlmphdnoempaaRCopy
namespace Go.Proofs.Ytomlmphdnoempaa
theorem Wk.ok {l : List A} {ok : Nat → Bool} {s v : Nat} {d : Int} (h : Wk l ok s v d) : ok v = true := by
  cases h with
  | nil h => exact h
  | snoc _ _ h => exact h
/-- Lengths that some walks have. -/
structure BF (l : List A) (ok : Nat → Bool) (s : Nat) (F : Nat → Int) : Prop where
  lo : ∀ v, 0 ≤ F v
  hi : ∀ v, F v ≤ Inf
  wk : ∀ v, F v < Inf → Wk l ok s v (F v)
  s0 : F s ≤ 0
/-- An arc tells a lesser one. -/
def better (l : List A) (ok : Nat → Bool) (F : Nat → Int) (j : Nat) : Prop := ok (src (ar l j)) = true ∧ ok (dst (ar l j)) = true ∧ sat (F (src (ar l j))) (ar l j).w < F (dst (ar l j))
theorem BF.init (l : List A) (ok : Nat → Bool) (s : Nat) (h : ok s = true) : BF l ok s (updI (fun _ => Inf) s 0) := by
  have i0 : (0 : Int) < Inf := by unfold Inf; omega
  refine ⟨fun v => ?_, fun v => ?_, fun v hv => ?_, by rw [updI_self]; omega⟩
  · unfold updI; split <;> (try dsimp only) <;> omega
  · unfold updI; split <;> (try dsimp only) <;> omega
  · by_cases e : v = s
    · subst e; rw [updI_self]; exact Wk.nil h
    · rw [updI_ne _ _ e] at hv; omega
theorem BF.put {l : List A} {ok : Nat → Bool} {s : Nat} {F : Nat → Int} (h : BF l ok s F) (hw : ∀ x ∈ l, 0 ≤ x.w) {j : Nat} (hj : j < l.length) (hb : better l ok F j) : BF l ok s (updI F (dst (ar l j)) (sat (F (src (ar l j))) (ar l j).w)) := by
  obtain ⟨h1, h2, h3⟩ := hb
  have a1 := h.lo (src (ar l j))
  have a2 := hw _ (ar_mem hj)
  have a3 := h.hi (dst (ar l j))
  have a4 := sat_lt (show sat (F (src (ar l j))) (ar l j).w < Inf by omega)
  refine ⟨fun v => ?_, fun v => ?_, fun v hv => ?_, ?_⟩
  · unfold updI; split
    · omega
    · exact h.lo v
  · unfold updI; split
    · exact sat_inf _ _
    · exact h.hi v
  · by_cases e : v = dst (ar l j)
    · subst e
      rw [updI_self, a4]
      exact Wk.snoc (ar_mem hj) (h.wk _ (by omega)) h2
    · rw [updI_ne _ _ e] at hv ⊢; exact h.wk v hv
  · have := h.s0
    by_cases e : s = dst (ar l j)
    · rw [← e] at h3; omega
    · rw [updI_ne _ _ e]; exact this
theorem BF.done {l : List A} {ok : Nat → Bool} {s : Nat} {F : Nat → Int} (h : BF l ok s F) (hn : ∀ j, j < l.length → ¬ better l ok F j) : IsD l ok s F := by
  refine ⟨h.lo, h.hi, h.wk, fun v d w => ?_⟩
  induction w with
  | nil _ => exact h.s0
  | @snoc x d hx hp ho ih =>
    obtain ⟨j, hj, rfl⟩ := mem_ar hx
    have h1 := hn j hj
    have h2 := sat_le (F (src (ar l j))) (ar l j).w
    by_cases e : sat (F (src (ar l j))) (ar l j).w < F (dst (ar l j))
    · exact absurd ⟨hp.ok, ho, e⟩ h1
    · omega
theorem isD_none (l : List A) (ok : Nat → Bool) (s : Nat) (h : ok s = false) : IsD l ok s (fun _ => Inf) := by
  have key : ∀ {v d}, ¬ Wk l ok s v d := by
    intro v d w
    induction w with
    | nil h' => rw [h] at h'; cases h'
    | snoc _ _ _ ih => exact ih
  exact ⟨fun _ => by unfold Inf; omega, fun _ => Int.le_refl _, fun _ h => absurd h (by omega), fun _ _ w => absurd w key⟩
/-- All lengths together. -/
def sumN (F : Nat → Int) : Nat → Nat
  | 0 => 0
  | k + 1 => sumN F k + (F k).toNat
theorem sumN_ne (F : Nat → Int) (v : Nat) (d : Int) : ∀ k, k ≤ v → sumN (updI F v d) k = sumN F k := by
  intro k
  induction k with
  | zero => intro _; rfl
  | succ k ih => intro h; simp [sumN, ih (by omega), updI_ne F d (show k ≠ v by omega)]
theorem sumN_put (F : Nat → Int) (v : Nat) (d : Int) (h0 : 0 ≤ d) (h1 : d < F v) : ∀ k, v < k → sumN (updI F v d) k < sumN F k := by
  intro k
  induction k with
  | zero => intro h; omega
  | succ k ih =>
    intro h
    by_cases e : v = k
    · subst e
      simp only [sumN, updI_self]
      rw [sumN_ne F v d v (Nat.le_refl _)]
      omega
    · have := ih (by omega)
      simp only [sumN, updI_ne F d (show k ≠ v by omega)]
      omega
/-- What holds within a round: F0 at its beginning, b: something has changed. -/
structure Rnd (l : List A) (ok : Nat → Bool) (s n : Nat) (F0 F : Nat → Int) (b : Bool) (k : Nat) : Prop where
  bf : BF l ok s F
  yes : b = true → sumN F n < sumN F0 n
  no : b = false → F = F0 ∧ ∀ j, j < k → ¬ better l ok F j
theorem Rnd.init {l : List A} {ok : Nat → Bool} {s n : Nat} {F : Nat → Int} (h : BF l ok s F) : Rnd l ok s n F F false 0 := ⟨h, fun h => (by cases h), fun _ => ⟨rfl, fun j hj => by omega⟩⟩
theorem Rnd.put {l : List A} {ok : Nat → Bool} {s n : Nat} {F0 F : Nat → Int} {b : Bool} {k : Nat} (h : Rnd l ok s n F0 F b k) (g : RG n l) (hk : k < l.length) (hb : better l ok F k) : Rnd l ok s n F0 (updI F (dst (ar l k)) (sat (F (src (ar l k))) (ar l k).w)) true (k + 1) := by
  have hw : ∀ x ∈ l, 0 ≤ x.w := fun x hx => (g.wt x hx).1
  refine ⟨h.bf.put hw hk hb, fun _ => ?_, fun e => by cases e⟩
  have h1 := h.bf.lo (src (ar l k))
  have h2 := hw _ (ar_mem hk)
  have h3 := sumN_put F (dst (ar l k)) _ (sat_ge (show (0 : Int) ≤ F (src (ar l k)) + (ar l k).w by omega) (by unfold Inf; omega)) hb.2.2 n (g.dst_lt (ar_mem hk))
  cases b with
  | true => have := h.yes rfl; omega
  | false => rw [(h.no rfl).1] at h3 ⊢; exact h3
theorem Rnd.skip {l : List A} {ok : Nat → Bool} {s n : Nat} {F0 F : Nat → Int} {b : Bool} {k : Nat} (h : Rnd l ok s n F0 F b k) (hb : ¬ better l ok F k) : Rnd l ok s n F0 F b (k + 1) := by
  refine ⟨h.bf, h.yes, fun e => ⟨(h.no e).1, fun j hj => ?_⟩⟩
  by_cases e' : j = k
  · subst e'; exact hb
  · exact (h.no e).2 j (by omega)
/-- What holds at a round's head. -/
structure Hd (l : List A) (ok : Nat → Bool) (s n : Nat) (F : Nat → Int) (b : Bool) (gk : Nat) : Prop where
  gk : gk = 2 * sumN F n + b.toNat
  bf : BF l ok s F
  no : b = false → IsD l ok s F
theorem Rnd.head {l : List A} {ok : Nat → Bool} {s n : Nat} {F0 F : Nat → Int} {b : Bool} {gk : Nat} (h : Rnd l ok s n F0 F b l.length) (hg : gk = 2 * sumN F0 n + 1) : Hd l ok s n F b (2 * sumN F n + b.toNat) ∧ 2 * sumN F n + b.toNat < gk := by
  refine ⟨⟨rfl, h.bf, fun e => h.bf.done (h.no e).2⟩, ?_⟩
  cases b with
  | true => have := h.yes rfl; simp; omega
  | false => rw [(h.no rfl).1]; simp; omega
end Go.Proofs.Ytomlmphdnoempaa
namespace Go.Proofs.Ytomlmphdnoempaa
open Go.RowKit
open Hp (Fr)
set_option maxHeartbeats 400000 in
theorem radd_any (a b : Int) (ha : 0 ≤ a ∧ a ≤ Inf) (hb : 0 ≤ b ∧ b ≤ Inf) (w : World) :
    Calls Try.prog 60 #[.int .u64 a, .int .u64 b] w fun e w' => e = .returned (.int .u64 (sat a b)) ∧ w' = w := by
  unfold Inf at ha hb
  by_cases h : 18446744073709551615 - b < a
  · have HS : Hid (sat a b = 18446744073709551615) := by show _ = _; unfold sat Inf; rw [if_pos (by omega)]
    go_enter Try.func60, Try.ntmps60
    go_wp2_with fail
    go_ret
    exact ⟨by rw [HS.out]; rfl, rfl⟩
  · have HS : Hid (sat a b = a + b) := by show _ = _; unfold sat Inf; split <;> omega
    go_enter Try.func60, Try.ntmps60
    go_wp2_with fail
    go_ret
    exact ⟨by rw [HS.out]; rfl, rfl⟩
theorem nearE_two {N : Int} {l : List A} {s t : Int} : nearE N l [s, t] = if chkE N l = 0 then (if okV N s = true ∧ okV N t = true then 0 else 5) else chkE N l := by
  unfold nearE
  by_cases h1 : chkE N l = 0
  · rw [if_pos h1, if_pos h1]
    by_cases h2 : okV N s = true <;> by_cases h3 : okV N t = true <;> simp [h2, h3]
  · rw [if_neg h1, if_neg h1]
set_option maxHeartbeats 800000 in
theorem looked_any (N : Int) (a : Option Addr) (l : List A) (cap : Nat) (s t : Int) (w : World) (hl : l.length ≤ 9223372036854775807) (hr : Arcs w a l) :
    Calls Try.prog 38 #[.agg #[.int .i64 N, .slice a l.length cap], .int .i64 s, .int .i64 t] w fun e w' => e = .returned (.int .i64 (nearE N l [s, t])) ∧ Below w.heap.size w w' := by
  have hb0 : Below w.heap.size w (w.alloc (.cells #[.int .i64 N, .slice a l.length cap] 24)) := (Below.refl _ _).alloc (Nat.le_refl _) _
  have hg := heap_top w (.cells #[.int .i64 N, .slice a l.length cap] 24)
  have HCK := Lib.hid (rcheck_any N a l cap _ hl (hr.on hb0))
  obtain ⟨T, HT⟩ := named (chkAt N l)
  rw [HT.out] at HCK
  rw [nearE_two]
  by_cases hE : chkE N l = 0
  · rw [if_pos hE]
    rw [hE] at HCK
    obtain ⟨E, HEQ⟩ := named (if okV N s = true ∧ okV N t = true then (0 : Int) else 5)
    rw [HEQ.out]
    clear hE
    go_enter Try.func38, Try.ntmps38
    go_wp2_with fail
    refine HCK.out.mono ?_
    rintro e w1 ⟨rfl, hb1⟩
    have hg1 := (hb1.block _ (lt_of_block hg)).trans hg
    have b1 : Below w.heap.size w w1 := hb0.trans (hb1.mono hb0.size)
    clear hb1 hb0 hg HCK
    obtain ⟨⟨g0, g1⟩, -⟩ := two_cells hg1
    by_cases h1 : s < 0
    · obtain rfl : E = 5 := by rw [← HEQ.out, if_neg (fun h => by have := okV_t h.1; omega)]
      go_wp2_with fail
      go_ret
      exact ⟨rfl, b1⟩
    · by_cases h2 : N ≤ s
      · obtain rfl : E = 5 := by rw [← HEQ.out, if_neg (fun h => by have := okV_t h.1; omega)]
        go_wp2_with fail
        go_ret
        exact ⟨rfl, b1⟩
      · by_cases h3 : t < 0
        · obtain rfl : E = 5 := by rw [← HEQ.out, if_neg (fun h => by have := okV_t h.2; omega)]
          go_wp2_with fail
          go_ret
          exact ⟨rfl, b1⟩
        · by_cases h4 : N ≤ t
          · obtain rfl : E = 5 := by rw [← HEQ.out, if_neg (fun h => by have := okV_t h.2; omega)]
            go_wp2_with fail
            go_ret
            exact ⟨rfl, b1⟩
          · obtain rfl : E = 0 := by rw [← HEQ.out, if_pos ⟨by simp [okV]; omega, by simp [okV]; omega⟩]
            go_wp2_with fail
            go_ret
            exact ⟨rfl, b1⟩
  · rw [if_neg hE]
    obtain ⟨E, HE⟩ := named (chkE N l)
    rw [HE.out] at hE HCK ⊢
    have hE' : (E == 0) = false := beq_eq_false_iff_ne.2 hE
    clear hE
    go_enter Try.func38, Try.ntmps38
    go_wp2_with fail
    refine HCK.out.mono ?_
    rintro e w1 ⟨rfl, hb1⟩
    have b1 : Below w.heap.size w w1 := hb0.trans (hb1.mono hb0.size)
    go_wp2_with fail
    go_ret
    exact ⟨rfl, b1⟩
/-- Marks of n vertices can be read. -/
def Mks (w : World) (a : Option Addr) (n : Nat) (ok : Nat → Bool) : Prop := ∃ b o, a = some ⟨b, o, none⟩ ∧ b < w.heap.size ∧ ∀ v, v < n → w.cell? ⟨b, o + v, none⟩ = some (.bool (ok v))
theorem Mks.on {w w' : World} {a : Option Addr} {n : Nat} {ok : Nat → Bool} (h : Mks w a n ok) (hb : Below w.heap.size w w') : Mks w' a n ok := by
  obtain ⟨b, o, rfl, hl, hc⟩ := h
  exact ⟨b, o, rfl, Nat.lt_of_lt_of_le hl hb.size, fun v hv => (hb.cell (p := ⟨b, o + v, none⟩) hl).trans (hc v hv)⟩
theorem TbB.mks {w : World} {b n : Nat} {q : Nat → Bool} (h : TbB w b n q) : Mks w (some ⟨b, 0, none⟩) n q := ⟨b, 0, rfl, h.lt, fun v hv => by rw [Nat.zero_add]; exact h.cell hv⟩
set_option maxHeartbeats 800000 in
theorem every_any (n : Nat) (hn : n ≤ 1024) (a : Option Addr) (m cap : Nat) (w : World) :
    Calls Try.prog 40 #[.agg #[.int .i64 n, .slice a m cap]] w fun e w' => ∃ b, e = .returned (.slice (some ⟨b, 0, none⟩) n n) ∧ TbB w' b n Al ∧ w.heap.size ≤ b ∧ Below w.heap.size w w' := by
  obtain ⟨i0, hi, hz0, hz1, hz2⟩ := info_parts infoB4
  have HM := Lib.hid (made_bool n)
  have hb0 : Below w.heap.size w (w.alloc (.cells #[.int .i64 n, .slice a m cap] 24)) := (Below.refl _ _).alloc (Nat.le_refl _) _
  have hg := heap_top w (.cells #[.int .i64 n, .slice a m cap] 24)
  have s0 : (w.alloc (.cells #[.int .i64 n, .slice a m cap] 24)).heap.size = w.heap.size + 1 := by simp
  go_enter Try.func40, Try.ntmps40
  go_wp2_with (at_make; refine wpList_make_full _ rfl (.tmp 6) (.tmp 6) 40 rfl 0 4 i0 (.bool false) 1 Try.underlying40 hi hz0 hz1 .i64 .i64 n n n rfl rfl rfl rfl (by rw [hz2]; omega) (by unfold maxLen; omega) (Nat.zero_le _) ?_; intro w1 hown1 hgrow1; rw [HM.out] at hown1)
  generalize w.alloc (.cells #[.int .i64 n, .slice a m cap] 24) = W at *
  have t1 : TbB w1 (w.heap.size + 1) n (fun _ => false) := by rw [s0] at hown1; exact row_made hown1
  have b1 : Below (w.heap.size + 1) W w1 := (Below.refl _ _).grown hgrow1 (by omega) (by intro k hk; cases hk)
  clear hown1 hgrow1 HM hi hz0 hz1 hz2
  clear i0
  go_loopw [4] (fun i wr => ∃ k : Nat, k ≤ n ∧ i = .int .i64 k ∧ TbB wr (w.heap.size + 1) n (fun v => decide (v < k)) ∧ Below (w.heap.size + 1) W wr) (fun i _ => n - (intOf i).toNat)
  case atStart => exact ⟨0, Nat.zero_le _, rfl, t1.congr (fun v _ => by simp), b1⟩
  case round =>
    obtain ⟨k, hk, rfl, tk, hb⟩ := hrel
    obtain ⟨⟨g0, g1⟩, -⟩ := two_cells ((hb.block w.heap.size (by omega)).trans hg)
    by_cases hlt : k < n
    · have hlt' : (k : Int) < n := by omega
      have c0 := tk.cell hlt
      have f0 := tk.free k
      go_wp2_with fail
      refine ⟨⟨k + 1, by omega, by go_num, (tk.set k true).congr (fun v _ => ?_), hb.setCell (Nat.le_refl _) _⟩, by simp [intOf]; omega⟩
      unfold updB
      by_cases e : v = k
      · subst e; simp
      · rw [if_neg e]
        by_cases e2 : v < k
        · simp [e2, show v < k + 1 by omega]
        · simp [e2, show ¬ v < k + 1 by omega]
    · have hlt' : ¬ (k : Int) < n := by omega
      go_wp2_with fail
      go_ret
      exact ⟨_, rfl, tk.congr (fun v hv => by simp; omega), by omega, hb0.trans (hb.mono (by omega))⟩
end Go.Proofs.Ytomlmphdnoempaa
