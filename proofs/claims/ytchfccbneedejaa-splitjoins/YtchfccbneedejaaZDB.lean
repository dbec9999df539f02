/-
  The contract of flyoverref09.best. Those that are joined next, as they are looked for: the mathematics.
-/
import Derived.Test.YtchfccbneedejaaZAC
import Derived.Test.YtchfccbneedejaaZAK
import Derived.Test.YtchfccbneedejaaZAN
import Derived.Test.YtchfccbneedejaaZAM
namespace Go.Proofs.Ytchfccbneedejaa
open Go.RowKit
/-- The table of pairs between labels. -/
def tbF (P : List Pr) (T : List Nat) (k i : Nat) : Nat := if i / k < i % k then bw P T (i / k) (i % k) else 0
theorem tb_at {k x y : Nat} (hy : y < k) : (x * k + y) / k = x ∧ (x * k + y) % k = y := by
  have hk : 0 < k := by omega
  rw [Nat.mul_comm]
  exact ⟨by rw [Nat.mul_add_div hk, Nat.div_eq_of_lt hy, Nat.add_zero], by rw [Nat.mul_add_mod, Nat.mod_eq_of_lt hy]⟩
theorem tbF_at {P : List Pr} {T : List Nat} {k x y : Nat} (hxy : x < y) (hy : y < k) : tbF P T k (x * k + y) = bw P T x y := by
  obtain ⟨h1, h2⟩ := tb_at (x := x) hy
  unfold tbF
  rw [h1, h2, if_pos hxy]
theorem tb_lt {k x y : Nat} (hx : x < k) (hy : y < k) : x * k + y < k * k := by
  have h := Nat.mul_le_mul_right k (show x + 1 ≤ k by omega)
  rw [Nat.succ_mul] at h
  omega
theorem tbF_skip {P : List Pr} {T : List Nat} {k : Nat} {p : Pr} (e : T.getD p.a 0 = T.getD p.b 0) (i : Nat) : tbF (P ++ [p]) T k i = tbF P T k i := by
  unfold tbF
  split
  · rename_i h
    rw [bw_next P T _ _ p h, if_neg (fun h => h.1 e), Nat.add_zero]
  · rfl
theorem tbF_hit {P : List Pr} {T : List Nat} {k x y : Nat} {p : Pr} (hne : T.getD p.a 0 ≠ T.getD p.b 0) (hx : x = min (T.getD p.a 0) (T.getD p.b 0)) (hy : y = max (T.getD p.a 0) (T.getD p.b 0)) (hk : y < k) (i : Nat) : tbF (P ++ [p]) T k i = if i = x * k + y then tbF P T k i + 1 else tbF P T k i := by
  have hxy : x < y := by omega
  by_cases e : i = x * k + y
  · rw [if_pos e, e, tbF_at hxy hk, tbF_at hxy hk, bw_next P T x y p hxy, if_pos ⟨hne, hx, hy⟩]
  · rw [if_neg e]
    unfold tbF
    split
    · rename_i h
      rw [bw_next P T _ _ p h, if_neg (fun h2 => e ?_), Nat.add_zero]
      have h3 := Nat.div_add_mod i k
      rw [h2.2.1, h2.2.2, ← hx, ← hy, Nat.mul_comm] at h3
      exact h3.symm
    · rfl
/-- What has been found among the first pairs of labels. -/
def Sc (P : List Pr) (T : List Nat) (B a b x y m : Nat) : Prop :=
  (m = 0 ∧ ∀ c d, Fit P T B c d → c < a ∨ c = a ∧ d < b → False) ∨ (0 < m ∧ Fit P T B x y ∧ bw P T x y = m ∧ (x < a ∨ x = a ∧ y < b) ∧ ∀ c d, Fit P T B c d → c < a ∨ c = a ∧ d < b → noWorse m x y (bw P T c d) c d)
theorem Sc.start (P : List Pr) (T : List Nat) (B : Nat) : Sc P T B 0 1 0 0 0 := .inl ⟨rfl, fun c d hf h => by have := hf.1; omega⟩
theorem Sc.hit {P : List Pr} {T : List Nat} {B a b x y m : Nat} (h : Sc P T B a b x y m) (hf : Fit P T B a b) (hm : m < bw P T a b) : Sc P T B a (b + 1) a b (bw P T a b) := by
  refine .inr ⟨by omega, hf, rfl, by omega, fun c d hc hcd => ?_⟩
  by_cases e : c = a ∧ d = b
  · rw [e.1, e.2]; exact .inr ⟨rfl, .inr ⟨rfl, Nat.le_refl _⟩⟩
  · rcases h with ⟨h1, h2⟩ | ⟨h1, h2, h3, h4, h5⟩
    · exact absurd (h2 c d hc (by omega)) id
    · have := h5 c d hc (by omega)
      unfold noWorse at this ⊢
      omega
theorem Sc.miss {P : List Pr} {T : List Nat} {B a b x y m : Nat} (h : Sc P T B a b x y m) (hn : ¬ (Fit P T B a b ∧ m < bw P T a b)) : Sc P T B a (b + 1) x y m := by
  rcases h with ⟨h1, h2⟩ | ⟨h1, h2, h3, h4, h5⟩
  · refine .inl ⟨h1, fun c d hc hcd => ?_⟩
    by_cases e : c = a ∧ d = b
    · rw [e.1, e.2] at hc
      exact hn ⟨hc, by have := hc.2.1; omega⟩
    · exact h2 c d hc (by omega)
  · refine .inr ⟨h1, h2, h3, by omega, fun c d hc hcd => ?_⟩
    by_cases e : c = a ∧ d = b
    · rw [e.1, e.2] at hc ⊢
      have : ¬ m < bw P T a b := fun h => hn ⟨hc, h⟩
      unfold noWorse
      omega
    · exact h5 c d hc (by omega)
theorem Sc.row {P : List Pr} {T : List Nat} {B a k x y m : Nat} (hP : PIn P T.length) (hk : ∀ z, z ∈ T → z < k) (h : Sc P T B a k x y m) : Sc P T B (a + 1) (a + 1 + 1) x y m := by
  have key : ∀ c d, Fit P T B c d → (c < a + 1 ∨ c = a + 1 ∧ d < a + 1 + 1) → c < a ∨ c = a ∧ d < k := fun c d hf hcd => by
    have h1 := hf.1
    have h2 := hk d (hf.mem hP).2
    omega
  rcases h with ⟨h1, h2⟩ | ⟨h1, h2, h3, h4, h5⟩
  · exact .inl ⟨h1, fun c d hc hcd => h2 c d hc (key c d hc hcd)⟩
  · exact .inr ⟨h1, h2, h3, by omega, fun c d hc hcd => h5 c d hc (key c d hc hcd)⟩
/-- What best answers. -/
def BestIs (P : List Pr) (T : List Nat) (B x y : Nat) (V : Bool) : Prop := (V = true → Bst P T B x y) ∧ (V = false → ∀ a b, ¬ Fit P T B a b)
theorem Sc.best {P : List Pr} {T : List Nat} {B k b x y m : Nat} (hP : PIn P T.length) (hk : ∀ z, z ∈ T → z < k) (h : Sc P T B k b x y m) : BestIs P T B x y (decide (0 < m)) := by
  have key : ∀ c d, Fit P T B c d → c < k := fun c d hf => hk c (hf.mem hP).1
  rcases h with ⟨h1, h2⟩ | ⟨h1, h2, h3, h4, h5⟩
  · refine ⟨fun hv => ?_, fun _ c d hf => h2 c d hf (.inl (key c d hf))⟩
    rw [decide_eq_true_eq] at hv; omega
  · refine ⟨fun _ => ⟨h2, fun c d hf => ?_⟩, fun hv => ?_⟩
    · rw [h3]; exact h5 c d hf (.inl (key c d hf))
    · rw [decide_eq_false_iff_not] at hv; omega
theorem fit_iff {P : List Pr} {T : List Nat} {B a b m : Nat} (hT : tdy (ints T) 0 = true) (hab : a < b) : (Fit P T B a b ∧ m < bw P T a b) ↔ ((szL (ints T)).getD a 0 + (szL (ints T)).getD b 0 ≤ B ∧ m < bw P T a b) := by
  rw [sz_cnt hT, sz_cnt hT]
  constructor
  · rintro ⟨h1, h2⟩; exact ⟨h1.2.2, h2⟩
  · rintro ⟨h1, h2⟩; exact ⟨⟨hab, by omega, h1⟩, h2⟩
end Go.Proofs.Ytchfccbneedejaa
namespace Go.Proofs.Ytchfccbneedejaa
open Go.RowKit
theorem take_snocB {P : List Pr} {k : Nat} (h : k < P.length) : P.take (k + 1) = P.take k ++ [P.getD k Pr.zero] := by
  rw [List.take_succ_eq_append_getElem h]
  simp [List.getD, h]
theorem getD_memB {P : List Pr} {k : Nat} (h : k < P.length) : P.getD k Pr.zero ∈ P := by simp [List.getD, h]
/-- The labels of a pair. -/
def LabB (L : List Nat) (q : Pr) (la lb : Nat) : Prop := L.getD q.a 0 = la ∧ L.getD q.b 0 = lb
theorem tbF_skipL {P : List Pr} {T : List Nat} {k : Nat} {p : Pr} {la : Nat} (e : LabB T p la la) (i : Nat) : tbF (P ++ [p]) T k i = tbF P T k i := tbF_skip (e.1.trans e.2.symm) i
theorem tbF_hitL {P : List Pr} {T : List Nat} {k x y la lb : Nat} {p : Pr} (e : LabB T p la lb) (hne : la ≠ lb) (hx : x = min la lb) (hy : y = max la lb) (hk : y < k) (i : Nat) : tbF (P ++ [p]) T k i = if i = x * k + y then tbF P T k i + 1 else tbF P T k i :=
  tbF_hit (by rw [e.1, e.2]; exact hne) (by rw [e.1, e.2]; exact hx) (by rw [e.1, e.2]; exact hy) hk i
theorem tbF_le (P : List Pr) (T : List Nat) (k i : Nat) : tbF P T k i ≤ P.length := by
  unfold tbF
  split
  · exact bw_le _ _ _ _
  · exact Nat.zero_le _
set_option maxRecDepth 100000 in
set_option maxHeartbeats 3200000 in
theorem rbest_any (pa : Option Addr) (P : List Pr) (pc : Nat) (b : Option Addr) (T : List Nat) (bc B : Nat) (w : World) (hP : P.length ≤ 8192) (hTn : T.length ≤ 1024) (hT1 : 0 < T.length) (hPI : PIn P T.length) (hT : tdy (ints T) 0 = true) (hpr : Prs w pa P) (hi : Ints w b (ints T)) :
    Calls Try.prog 65 #[.slice pa P.length pc, .slice b T.length bc, .int .i64 B] w fun e w' => ∃ (x y : Nat) (V : Bool), e = .returned (.tuple #[.int .i64 x, .int .i64 y, .bool V]) ∧ Hid (BestIs P T B x y V) ∧ Below w.heap.size w w' := by
  have HSZ := Lib.hid (rsize_any b (ints T) bc w (by rw [ints_len]; exact hTn) hT hi)
  rw [ints_len] at HSZ
  have HKL : Hid (∀ z, z ∈ T → z < (szL (ints T)).length) := fun z hz => (right_sz hT z hz).1
  have hk1 : (szL (ints T)).length ≤ 1024 := Nat.le_trans (szL_length _) (by rw [ints_len]; exact hTn)
  have hk0 := szL_pos hT hT1
  have HSB : Hid (∀ j, (szL (ints T)).getD j 0 ≤ 1024) := fun j => by rw [sz_cnt hT]; exact Nat.le_trans List.count_le_length hTn
  have HFI : Hid (∀ a b m, a < b → ((Fit P T B a b ∧ m < bw P T a b) ↔ ((szL (ints T)).getD a 0 + (szL (ints T)).getD b 0 ≤ B ∧ m < bw P T a b))) := fun a b m h => fit_iff hT h
  obtain ⟨S, HS⟩ := named (szL (ints T))
  rw [HS.out] at HSZ HKL hk1 hk0 HSB HFI
  obtain ⟨ib, io, hib⟩ := hpr.get
  obtain ⟨ix, ox, hix⟩ := hi.get
  have HIB := Lib.hid hib
  have HIX := Lib.hid hix
  have HPI := Lib.hid hPI
  clear hpr hi hib hix hPI hT
  obtain ⟨kk, HKK⟩ := named (S.length * S.length)
  have hkk : kk ≤ 1048576 := by rw [← HKK.out]; exact Nat.mul_le_mul hk1 hk1
  have hwk : IntKind.i64.wrap ((S.length : Int) * (S.length : Int)) = (kk : Int) := by
    have e : ((S.length : Int) * (S.length : Int)) = (kk : Int) := by rw [← HKK.out]; simp
    rw [e, IntKind.wrap_i64]; omega
  obtain ⟨i3, hi3, hz3, hs3, hb3⟩ := info_parts info3
  have hmk : ∀ w, (Instr.makeSlice 25 (.int .i64 kk) (.int .i64 kk)).run Try.prog w = .ok (.slice (some ⟨w.heap.size, 0, none⟩) kk kk) (w.alloc (.cells ((List.range kk).map (fun _ => Value.int .i64 0)).toArray 3)) := fun w => by
    have := run_make (P := Try.prog) w 25 3 i3 (.int .i64 0) Try.underlying25 hi3 hz3 .i64 .i64 kk kk (by omega) (by omega) (by rw [hb3]; omega) (by omega)
    rw [this, Int.toNat_natCast, hs3, made_int]
  clear hi3 hz3 hs3 hb3
  clear i3
  generalize hp : w.heap.size = p at *
  go_enter Try.func65, Try.ntmps65
  go_wp2_with fail
  refine HSZ.out.mono ?_
  rintro e w1 ⟨sv, sc, rfl, hown1, hb1⟩
  have HB1 := Lib.hid hb1
  have HI1 := Lib.hid (own_ints hown1 rfl)
  have hp1 : p ≤ w1.heap.size := by have := hb1.size; omega
  obtain ⟨is, os, his⟩ := HI1.out.get
  obtain ⟨rfl, hbs, hats⟩ := his (by rw [ints_len]; exact hk0)
  have HAS : Hid (∀ j, j < S.length → w1.cell? ⟨is, os + j, none⟩ = some (.int .i64 ((S.getD j 0 : Nat) : Int))) := fun j hj => by rw [← ints_getD hj]; exact hats j (by rw [ints_len]; exact hj)
  have HBX : Hid (Below w1.heap.size w1 (w1.alloc (.cells ((List.range kk).map (fun _ => Value.int .i64 0)).toArray 3))) := (Below.refl _ _).alloc (Nat.le_refl _) _
  have HT0 : Hid (TbV (w1.alloc (.cells ((List.range kk).map (fun _ => Value.int .i64 0)).toArray 3)) w1.heap.size kk 3 (fun _ => .int .i64 0)) := heap_top w1 _
  clear hown1 hb1 HSZ his hats
  go_wp2_with fail
  generalize hX : w1.alloc (.cells ((List.range kk).map (fun _ => Value.int .i64 0)).toArray 3) = X at *
  generalize hg : w1.heap.size = g at *
  clear hX hmk hwk
  go_loopw [12] (fun i wr => ∃ k : Nat, k ≤ P.length ∧ i = .int .i64 k ∧ Hid (TbV wr g kk 3 (fun i => .int .i64 ((tbF (P.take k) T S.length i : Nat) : Int))) ∧ Hid (Below g w1 wr)) (fun i _ => P.length - (intOf i).toNat)
  case atStart =>
    refine ⟨0, Nat.zero_le _, rfl, ?_, HBX⟩
    refine HT0.out.congr (fun i _ => ?_)
    have : tbF ([] : List Pr) T S.length i = 0 := Nat.eq_zero_of_le_zero (tbF_le _ _ _ _)
    rw [List.take_zero, this]; rfl
  case round =>
    obtain ⟨k, hk, rfl, HTB, HBK⟩ := hrel
    clear HT0 HBX
    have HBW : Hid (Below p w wr) := HB1.out.trans (HBK.out.mono hp1)
    by_cases hlk : k < P.length
    · have hlk' : (k : Int) < P.length := by omega
      obtain ⟨rfl, hbl, hat⟩ := HIB.out (by omega)
      have hat := hat k hlk
      have hPk := HPI.out _ (getD_memB hlk)
      have HPT := Lib.hid (take_snocB hlk)
      obtain ⟨q, HQ⟩ := named (P.getD k Pr.zero)
      rw [HQ.out] at hat hPk HPT
      obtain ⟨qa, qb⟩ := q
      have y0 : wr.cell? ⟨ib, io + k * 2, none⟩ = some (.int .i64 (qa : Int)) := (HBW.out.cell (p := ⟨ib, io + k * 2, none⟩) (hp ▸ hbl)).trans hat.1
      have y1 : wr.cell? ⟨ib, io + k * 2 + 1, none⟩ = some (.int .i64 (qb : Int)) := (HBW.out.cell (p := ⟨ib, io + k * 2 + 1, none⟩) (hp ▸ hbl)).trans hat.2
      have hqa : qa < T.length := hPk.1
      have hqb : qb < T.length := hPk.2
      have hqa' : (qa : Int) < T.length := by omega
      have hqb' : (qb : Int) < T.length := by omega
      clear hat hPk
      obtain ⟨rfl, hbx, hax⟩ := HIX.out (by rw [ints_len]; omega)
      have z0 := (HBW.out.cell (p := ⟨ix, ox + qa, none⟩) (hp ▸ hbx)).trans (hax qa (by rw [ints_len]; exact hqa))
      have z1 := (HBW.out.cell (p := ⟨ix, ox + qb, none⟩) (hp ▸ hbx)).trans (hax qb (by rw [ints_len]; exact hqb))
      rw [ints_getD hqa] at z0
      rw [ints_getD hqb] at z1
      have hla := HKL.out _ (by rw [getD_in hqa]; exact List.getElem_mem _ : T.getD qa 0 ∈ T)
      have hlb := HKL.out _ (by rw [getD_in hqb]; exact List.getElem_mem _ : T.getD qb 0 ∈ T)
      have HLA : Hid (LabB T ⟨qa, qb⟩ (T.getD qa 0) (T.getD qb 0)) := ⟨rfl, rfl⟩
      generalize T.getD qa 0 = la at *
      generalize T.getD qb 0 = lb at *
      clear hax
      go_wp2_with fail
      go_quiet (fail)
      clear y0 y1 z0 z1
      have HT2 : Hid (TbV (wr.drewN nq) g kk 3 (fun i => .int .i64 ((tbF (P.take k) T S.length i : Nat) : Int))) := HTB.out
      have HB2 : Hid (Below g w1 (wr.drewN nq)) := HBK.out.trans ⟨rfl, rfl, rfl, Nat.le_refl _, fun _ _ => rfl⟩
      clear HTB HBK HBW
      generalize wr.drewN nq = Y at *
      by_cases hab : la = lb
      · subst hab
        have hab' : ((la : Int) != (la : Int)) = false := by simp
        have HTN : Hid (TbV Y g kk 3 (fun i => .int .i64 ((tbF (P.take (k + 1)) T S.length i : Nat) : Int))) := HT2.out.congr (fun i _ => by rw [HPT.out, tbF_skipL HLA.out])
        go_wp2_with fail
        exact ⟨⟨k + 1, by omega, by simp, HTN, HB2⟩, by simp [intOf]; omega⟩
      · have hab' : ((la : Int) != (lb : Int)) = true := by simp; omega
        rcases Nat.lt_or_ge la lb with hc | hc
        · have h1 : (la : Int) < lb := by omega
          have h2 : ¬ (lb : Int) < la := by omega
          have hmn : min (la : Int) (lb : Int) = (la : Int) := by omega
          have hmx : max (la : Int) (lb : Int) = (lb : Int) := by omega
          have HIX2 := Lib.hid (tb_lt (k := S.length) (x := la) (y := lb) (by omega) (by omega))
          have HTH := Lib.hid (fun i => tbF_hitL (P := P.take k) (T := T) (k := S.length) (x := la) (y := lb) HLA.out hab (by omega) (by omega) (by omega) i)
          rw [HKK.out] at HIX2
          obtain ⟨xk, HXK⟩ := named (la * S.length)
          rw [HXK.out] at HIX2 HTH
          have hxk : xk + lb < kk := HIX2.out
          have hw1 : IntKind.i64.wrap ((la : Int) * (S.length : Int)) = (xk : Int) := by
            have e : ((la : Int) * (S.length : Int)) = (xk : Int) := by rw [← HXK.out]; simp
            rw [e, IntKind.wrap_i64]; omega
          have hw2 : IntKind.i64.wrap ((xk : Int) + (lb : Int)) = (xk : Int) + (lb : Int) := by rw [IntKind.wrap_i64]; omega
          have hxk' : (xk : Int) + (lb : Int) < kk := by omega
          have hxk0 : (0 : Int) ≤ (xk : Int) + (lb : Int) := by omega
          have ht : ((xk : Int) + (lb : Int)).toNat = xk + lb := by omega
          have d1 := HT2.out.cell hxk
          have d2 := HT2.out.free (xk + lb)
          have hle := tbF_le (P.take k) T S.length (xk + lb)
          rw [List.length_take] at hle
          have HTN : Hid (TbV (Y.setCell ⟨g, xk + lb, none⟩ (.int .i64 ((tbF (P.take k) T S.length (xk + lb) : Nat) + 1 : Int))) g kk 3 (fun i => .int .i64 ((tbF (P.take (k + 1)) T S.length i : Nat) : Int))) := (HT2.out.set (xk + lb) (.int .i64 ((tbF (P.take k) T S.length (xk + lb) : Nat) + 1 : Int))).congr (fun i _ => by
            rw [HPT.out, HTH.out i]
            by_cases e : i = xk + lb
            · subst e; rw [updV_self, if_pos rfl]; rfl
            · rw [updV_ne _ _ e, if_neg e])
          generalize tbF (P.take k) T S.length (xk + lb) = old at *
          have ho : (old : Int) + 1 ≤ 8193 := by omega
          clear hle hxk HTH HIX2
          go_wp2_with fail
          exact ⟨⟨k + 1, by omega, by simp, HTN, HB2.out.setCell (Nat.le_refl _) _⟩, by simp [intOf]; omega⟩
        · have h1 : (lb : Int) < la := by omega
          have h2 : ¬ (la : Int) < lb := by omega
          have hmn : min (la : Int) (lb : Int) = (lb : Int) := by omega
          have hmx : max (la : Int) (lb : Int) = (la : Int) := by omega
          have HIX2 := Lib.hid (tb_lt (k := S.length) (x := lb) (y := la) (by omega) (by omega))
          have HTH := Lib.hid (fun i => tbF_hitL (P := P.take k) (T := T) (k := S.length) (x := lb) (y := la) HLA.out hab (by omega) (by omega) (by omega) i)
          rw [HKK.out] at HIX2
          obtain ⟨xk, HXK⟩ := named (lb * S.length)
          rw [HXK.out] at HIX2 HTH
          have hxk : xk + la < kk := HIX2.out
          have hw1 : IntKind.i64.wrap ((lb : Int) * (S.length : Int)) = (xk : Int) := by
            have e : ((lb : Int) * (S.length : Int)) = (xk : Int) := by rw [← HXK.out]; simp
            rw [e, IntKind.wrap_i64]; omega
          have hw2 : IntKind.i64.wrap ((xk : Int) + (la : Int)) = (xk : Int) + (la : Int) := by rw [IntKind.wrap_i64]; omega
          have hxk' : (xk : Int) + (la : Int) < kk := by omega
          have hxk0 : (0 : Int) ≤ (xk : Int) + (la : Int) := by omega
          have ht : ((xk : Int) + (la : Int)).toNat = xk + la := by omega
          have d1 := HT2.out.cell hxk
          have d2 := HT2.out.free (xk + la)
          have hle := tbF_le (P.take k) T S.length (xk + la)
          rw [List.length_take] at hle
          have HTN : Hid (TbV (Y.setCell ⟨g, xk + la, none⟩ (.int .i64 ((tbF (P.take k) T S.length (xk + la) : Nat) + 1 : Int))) g kk 3 (fun i => .int .i64 ((tbF (P.take (k + 1)) T S.length i : Nat) : Int))) := (HT2.out.set (xk + la) (.int .i64 ((tbF (P.take k) T S.length (xk + la) : Nat) + 1 : Int))).congr (fun i _ => by
            rw [HPT.out, HTH.out i]
            by_cases e : i = xk + la
            · subst e; rw [updV_self, if_pos rfl]; rfl
            · rw [updV_ne _ _ e, if_neg e])
          generalize tbF (P.take k) T S.length (xk + la) = old at *
          have ho : (old : Int) + 1 ≤ 8193 := by omega
          clear hle hxk HTH HIX2
          go_wp2_with fail
          exact ⟨⟨k + 1, by omega, by simp, HTN, HB2.out.setCell (Nat.le_refl _) _⟩, by simp [intOf]; omega⟩
    · obtain rfl : k = P.length := by omega
      have hlk' : ¬ (P.length : Int) < P.length := by omega
      rw [List.take_length] at HTB
      go_wp2_with fail
      obtain ⟨Z, rfl⟩ : ∃ Z, Z = wr := ⟨wr, rfl⟩
      have HSC0 := Lib.hid (Sc.start P T B)
      go_loopw [15, 16, 17, 18] (fun s15 s16 s17 i wr => ∃ a x y m : Nat, a ≤ S.length ∧ s15 = .int .i64 x ∧ s16 = .int .i64 y ∧ s17 = .int .i64 m ∧ i = .int .i64 a ∧ Hid (Sc P T B a (a + 1) x y m) ∧ Hid (Below Z.heap.size Z wr)) (fun _ _ _ i _ => S.length - (intOf i).toNat)
      case atStart => exact ⟨0, 0, 0, 0, Nat.zero_le _, rfl, rfl, rfl, rfl, HSC0, Below.refl _ _⟩
      case round =>
        obtain ⟨a, x, y, m, ha, rfl, rfl, rfl, rfl, HSC, HBZ⟩ := hrel
        clear HSC0
        by_cases hla : a < S.length
        · have hla' : (a : Int) < S.length := by omega
          go_wp2_with fail
          go_loopw [15, 16, 17, 19] (fun s15 s16 s17 i wr => ∃ b x y m : Nat, a + 1 ≤ b ∧ b ≤ S.length ∧ s15 = .int .i64 x ∧ s16 = .int .i64 y ∧ s17 = .int .i64 m ∧ i = .int .i64 b ∧ Hid (Sc P T B a b x y m) ∧ Hid (Below Z.heap.size Z wr)) (fun _ _ _ i _ => S.length - (intOf i).toNat)
          case atStart => exact ⟨a + 1, x, y, m, Nat.le_refl _, by omega, rfl, rfl, rfl, by simp, HSC, HBZ⟩
          case round =>
            obtain ⟨c, x, y, m, hc1, hc2, rfl, rfl, rfl, rfl, HSD, HBY⟩ := hrel
            by_cases hlc : c < S.length
            · have hlc' : (c : Int) < S.length := by omega
              have hbsZ : is < Z.heap.size := Nat.lt_of_lt_of_le (hg ▸ hbs) HBK.out.size
              have y0 := (HBY.out.cell (p := ⟨is, os + a, none⟩) hbsZ).trans ((HBK.out.cell (p := ⟨is, os + a, none⟩) (hg ▸ hbs)).trans (HAS.out a hla))
              have y1 := (HBY.out.cell (p := ⟨is, os + c, none⟩) hbsZ).trans ((HBK.out.cell (p := ⟨is, os + c, none⟩) (hg ▸ hbs)).trans (HAS.out c hlc))
              have hix := tb_lt hla hlc
              have HTA := Lib.hid (tbF_at (P := P) (T := T) (k := S.length) (show a < c by omega) hlc)
              have HFF := Lib.hid (HFI.out a c m (by omega))
              rw [HKK.out] at hix
              obtain ⟨ak, HAK⟩ := named (a * S.length)
              rw [HAK.out] at hix HTA
              have hw1 : IntKind.i64.wrap ((a : Int) * (S.length : Int)) = (ak : Int) := by
                have e : ((a : Int) * (S.length : Int)) = (ak : Int) := by rw [← HAK.out]; simp
                rw [e, IntKind.wrap_i64]; omega
              have hw2 : IntKind.i64.wrap ((ak : Int) + (c : Int)) = (ak : Int) + (c : Int) := by rw [IntKind.wrap_i64]; omega
              have hix' : (ak : Int) + (c : Int) < kk := by omega
              have hix0 : (0 : Int) ≤ (ak : Int) + (c : Int) := by omega
              have ht : ((ak : Int) + (c : Int)).toNat = ak + c := by omega
              have d1 := (HBY.out.cell (p := ⟨g, ak + c, none⟩) HTB.out.lt).trans (HTB.out.cell hix)
              rw [HTA.out] at d1
              have hsa := HSB.out a
              have hsb := HSB.out c
              have HHT : Hid (S.getD a 0 + S.getD c 0 ≤ B ∧ m < bw P T a c → Sc P T B a (c + 1) a c (bw P T a c)) := fun h => HSD.out.hit (HFF.out.2 h).1 h.2
              have HMI : Hid (¬ (S.getD a 0 + S.getD c 0 ≤ B ∧ m < bw P T a c) → Sc P T B a (c + 1) x y m) := fun h => HSD.out.miss (fun h2 => h (HFF.out.1 h2))
              generalize S.getD a 0 = sa at *
              generalize S.getD c 0 = sb at *
              generalize bw P T a c = tv at *
              have hw0 : IntKind.i64.wrap ((sa : Int) + (sb : Int)) = (sa : Int) + (sb : Int) := by rw [IntKind.wrap_i64]; omega
              clear HTA HFF hix
              by_cases hB1 : sa + sb ≤ B
              · have hB1' : (sa : Int) + (sb : Int) ≤ B := by omega
                by_cases hm : m < tv
                · have hm' : (m : Int) < tv := by omega
                  have HSN := Lib.hid (HHT.out ⟨hB1, hm⟩)
                  clear hB1 hm HHT HMI
                  go_wp2_with fail
                  go_quiet (fail)
                  go_wp2_with fail
                  go_quiet (fail)
                  go_wp2_with fail
                  exact ⟨⟨c + 1, a, c, tv, by omega, by omega, rfl, rfl, rfl, by simp, HSN, HBY.out.trans ⟨rfl, rfl, rfl, Nat.le_refl _, fun _ _ => rfl⟩⟩, by simp [intOf]; omega⟩
                · have hm' : ¬ (m : Int) < tv := by omega
                  have HSN := Lib.hid (HMI.out (fun h => hm h.2))
                  clear hB1 hm HHT HMI
                  go_wp2_with fail
                  go_quiet (fail)
                  go_wp2_with fail
                  exact ⟨⟨c + 1, x, y, m, by omega, by omega, rfl, rfl, rfl, by simp, HSN, HBY.out.trans ⟨rfl, rfl, rfl, Nat.le_refl _, fun _ _ => rfl⟩⟩, by simp [intOf]; omega⟩
              · have hB1' : ¬ (sa : Int) + (sb : Int) ≤ B := by omega
                have HSN := Lib.hid (HMI.out (fun h => hB1 h.1))
                have hB2 : B < sa + sb := by omega
                have hB3 : (B : Int) < (sa : Int) + (sb : Int) := by omega
                have hd1 : decide ((sa : Int) + (sb : Int) ≤ (B : Int)) = false := decide_eq_false hB1'
                have hd2 : decide (sa + sb ≤ B) = false := decide_eq_false hB1
                clear HHT HMI
                go_wp2_with fail
                go_quiet (fail)
                go_wp2_with fail
                exact ⟨⟨c + 1, x, y, m, by omega, by omega, rfl, rfl, rfl, by simp, HSN, HBY.out.trans ⟨rfl, rfl, rfl, Nat.le_refl _, fun _ _ => rfl⟩⟩, by simp [intOf]; omega⟩
            · obtain rfl : c = S.length := by omega
              have hlc' : ¬ (S.length : Int) < S.length := by omega
              have HSN := Lib.hid (HSD.out.row HPI.out HKL.out)
              go_wp2_with fail
              exact ⟨⟨a + 1, x, y, m, by omega, rfl, rfl, rfl, by simp, HSN, HBY⟩, by simp [intOf]; omega⟩
        · obtain rfl : a = S.length := by omega
          have hla' : ¬ (S.length : Int) < S.length := by omega
          have HBE := Lib.hid (HSC.out.best HPI.out HKL.out)
          have HBR : Hid (Below p w wr) := HB1.out.trans ((HBK.out.mono hp1).trans (HBZ.out.mono (by have := HBK.out.size; omega)))
          by_cases hm0 : 0 < m
          · have hm0' : (0 : Int) < m := by omega
            rw [decide_eq_true hm0] at HBE
            go_wp2_with fail
            go_ret3
            exact ⟨x, y, .inr ⟨rfl, HBE, HBR.out⟩⟩
          · have hm0' : ¬ (0 : Int) < m := by omega
            rw [decide_eq_false hm0] at HBE
            have hm1 : m = 0 := by omega
            clear hm1
            go_wp2_with fail
            go_ret3
            exact ⟨x, y, .inl ⟨rfl, HBE, HBR.out⟩⟩
end Go.Proofs.Ytchfccbneedejaa
