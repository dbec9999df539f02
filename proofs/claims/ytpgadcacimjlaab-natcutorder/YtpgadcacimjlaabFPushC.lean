/-
  Contracts of (*pipes).least and (*pipes).push.
-/
import Derived.Test.YtpgadcacimjlaabFPipe
import Derived.BigRegion
namespace Go.Proofs.Ytpgadcacimjlaab.F6
open Go.RowKit
theorem TbV.set {w : World} {b n : Nat} {ty : TypeId} {V : Nat → Value} (h : TbV w b n ty V) (v : Nat) (x : Value) : TbV (w.setCell ⟨b, v, none⟩ x) b n ty (updV V v x) := by
  unfold TbV
  rw [heap_setCell_same w b v _ _ _ h, tabV_set]
/-- The room of the other direction. -/
def rmo (E : List Ed) (fl : Nat → Int) (k : Nat) : Int := if k % 2 = 0 then fl (k / 2) else (ed E (k / 2)).c - fl (k / 2)
theorem lv_rmo (E : List Ed) (fl nx : Nat → Int) (k : Nat) : lv E fl nx (k / 2 * 6 + 2 + (1 - k % 2)) = .int .u32 (rmo E fl k) := by
  unfold lv rmo
  have h : k % 2 = 0 ∨ k % 2 = 1 := by omega
  have e : (k / 2 * 6 + 2 + (1 - k % 2)) / 6 = k / 2 := by omega
  rcases h with h | h
  · rw [if_neg (by omega), if_neg (by omega), if_neg (by omega), if_pos (by omega), if_pos h, e]
  · rw [if_neg (by omega), if_neg (by omega), if_pos (by omega), if_neg (by omega), e]
theorem lv_push (E : List Ed) (fl nx : Nat → Int) (k : Nat) (x : Int) (q : Nat) : updV (updV (lv E fl nx) (k / 2 * 6 + 2 + k % 2) (.int .u32 (rm E fl k - x))) (k / 2 * 6 + 2 + (1 - k % 2)) (.int .u32 (rmo E fl k + x)) q = lv E (push1 fl k x) nx q := by
  have hq : q / 6 = k / 2 ∨ q / 6 ≠ k / 2 := by omega
  rcases hq with hq | hq
  · have hk : k % 2 = 0 ∨ k % 2 = 1 := by omega
    have hr : q % 6 = 0 ∨ q % 6 = 1 ∨ q % 6 = 2 ∨ q % 6 = 3 ∨ q % 6 = 4 ∨ q % 6 = 5 := by omega
    have hp : push1 fl k x (k / 2) = if k % 2 = 0 then fl (k / 2) + x else fl (k / 2) - x := by unfold push1; rw [if_pos rfl]
    unfold updV
    rcases hk with hk | hk <;> rcases hr with hr | hr | hr | hr | hr | hr
    all_goals
      first
        | (rw [if_neg (by omega), if_neg (by omega)]; unfold lv; rw [hq]; simp [hr]; done)
        | (rw [if_neg (by omega), if_pos (by omega)]; unfold lv rm; rw [hq, hp]; simp [hr, hk] <;> omega)
        | (rw [if_pos (by omega)]; unfold lv rmo; rw [hq, hp]; simp [hr, hk] <;> omega)
  · have hp : push1 fl k x (q / 6) = fl (q / 6) := by unfold push1; rw [if_neg hq]
    unfold updV
    rw [if_neg (by omega), if_neg (by omega)]
    unfold lv
    rw [hp]
/-- All blocks outside of D stay. -/
structure Fr (D : Nat → Prop) (w w' : World) : Prop where
  os : w'.os = w.os
  tape : w'.tape = w.tape
  output : w'.output = w.output
  size : w.heap.size ≤ w'.heap.size
  block : ∀ k, k < w.heap.size → ¬ D k → w'.heap[k]? = w.heap[k]?
theorem Fr.refl (D : Nat → Prop) (w : World) : Fr D w w := ⟨rfl, rfl, rfl, Nat.le_refl _, fun _ _ _ => rfl⟩
theorem Fr.setCell {D : Nat → Prop} {a b : World} (h : Fr D a b) (p : Addr) (u : Value) (hp : D p.block) : Fr D a (b.setCell p u) :=
  ⟨h.os, h.tape, h.output, by have := h.size; simpa [World.setCell] using this, fun k hk hn => (Below.heap_setCell b p u k (fun e => hn (e ▸ hp))).trans (h.block k hk hn)⟩
theorem Fr.drew {D : Nat → Prop} {a b : World} (h : Fr D a b) : Fr D a b.drew := ⟨h.os, h.tape, h.output, h.size, h.block⟩
theorem Fr.drewN {D : Nat → Prop} {a b : World} (h : Fr D a b) (n : Nat) : Fr D a (b.drewN n) := ⟨h.os, h.tape, h.output, h.size, h.block⟩
theorem rm_other {E : List Ed} {F : Nat → Int} {k j : Nat} {x : Int} (h : j / 2 ≠ k / 2) : rm E (push1 F k x) j = rm E F j := by
  have e : push1 F k x (j / 2) = F (j / 2) := by unfold push1; rw [if_neg h]
  unfold rm
  rw [e]
theorem rm_self (E : List Ed) (F : Nat → Int) (k : Nat) (x : Int) : rm E (push1 F k x) k = rm E F k - x := by
  unfold rm push1
  by_cases h : k % 2 = 0
  · simp only [h, if_true]; omega
  · simp only [h, if_false]; simp
theorem once_get : ∀ {p : List Nat}, Once p → ∀ {i j : Nat}, i < j → j < p.length → p.getD i 0 / 2 ≠ p.getD j 0 / 2 := by
  intro p
  induction p with
  | nil => intro _ i j _ h; simp at h
  | cons k p ih =>
    intro h i j hij hj
    cases j with
    | zero => omega
    | succ j =>
      have hj' : j < p.length := by simpa using hj
      cases i with
      | zero =>
        have hm : p.getD j 0 ∈ p := by simp [List.getD, List.getElem?_eq_getElem hj']
        have := h.1 _ hm
        simpa using fun e => this e.symm
      | succ i => simpa using ih h.2 (show i < j by omega) hj'
theorem drop_get {p : List Nat} {q : Nat} (h : q < p.length) : p.drop q = p.getD q 0 :: p.drop (q + 1) := by
  rw [List.drop_eq_getElem_cons h]
  simp [List.getD, List.getElem?_eq_getElem h]
theorem drop_mem {p : List Nat} {q j : Nat} (h : j ∈ p.drop q) : ∃ i, q ≤ i ∧ i < p.length ∧ p.getD i 0 = j := by
  obtain ⟨i, hi, e⟩ := List.getElem_of_mem h
  have hl : q + i < p.length := by simp at hi; omega
  refine ⟨q + i, by omega, hl, ?_⟩
  rw [List.getElem_drop] at e
  simp [List.getD, List.getElem?_eq_getElem hl, e]
/-- What the steps that are still to come have. -/
theorem rm_before {E : List Ed} {fl : Nat → Int} {x : Int} {p : List Nat} (ho : Once p) {i q : Nat} (hi : i < q) : rm E (pushAll fl x (p.drop q)) (p.getD i 0) = rm E fl (p.getD i 0) := by
  have e : pushAll fl x (p.drop q) (p.getD i 0 / 2) = fl (p.getD i 0 / 2) := pushAll_other (fun k hk => by
    obtain ⟨j, h1, h2, rfl⟩ := drop_mem hk
    exact fun e => once_get ho (show i < j by omega) h2 e.symm)
  unfold rm
  rw [e]
set_option maxHeartbeats 3200000 in
set_option maxRecDepth 100000 in
theorem push_any {w : World} {f bl b1 b2 b3 bq bp n m : Nat} {gr : Int} {E : List Ed} {fl nx : Nat → Int} {p : List Nat} {bx c : Nat} {x : Int} (hp : Pp w f bl b1 b2 b3 bq bp n m gr) (hl : TbV w bl (m * 6) 118 (lv E fl nx)) (hm : m ≤ 16384) (hE : E.length = m)
    (hc : ∀ j, j < E.length → 0 ≤ (ed E j).c ∧ (ed E j).c < 4294967296) (hf : ∀ j, j < E.length → 0 ≤ fl j ∧ fl j ≤ (ed E j).c) (ho : Once p) (hk : ∀ k ∈ p, k < 2 * m) (hx : 0 ≤ x) (hr : ∀ k ∈ p, x ≤ rm E fl k) (hpl : p.length ≤ 100000) (hbx : bx < w.heap.size) (hpc : ∀ i, i < p.length → w.cell? ⟨bx, i, none⟩ = some (.int .i64 ((p.getD i 0 : Nat) : Int))) (n1 : bx ≠ bl) (n2 : f ≠ bl) :
    Calls Try.prog 77 #[.pointer (some ⟨f, 0, none⟩), .slice (some ⟨bx, 0, none⟩) p.length c, .int .u32 x] w fun e w' => ∃ kp : Nat, e = .returned (.int .i64 kp) ∧ kp ≤ p.length ∧ (∀ i, i < kp → gr ≤ rm E (pushAll fl x p) (p.getD i 0)) ∧ TbV w' bl (m * 6) 118 (lv E (pushAll fl x p) nx) ∧ Fr (fun k => k = bl) w w' := by
  have HP := Lib.hid hp
  have HL := Lib.hid hl
  have HC := Lib.hid hc
  have HF := Lib.hid hf
  have HO := Lib.hid ho
  have HK := Lib.hid hk
  have HRR := Lib.hid hr
  have HPC := Lib.hid hpc
  clear hp hl hc hf ho hk hr hpc
  go_enter Try.func77, Try.ntmps77
  go_wp2_with fail
  go_loopw [7, 8] (fun ke ii wr => ∃ q kp : Nat, q ≤ p.length ∧ kp ≤ p.length ∧ ii = .int .i64 ((q : Int) - 1) ∧ ke = .int .i64 kp ∧ TbV wr bl (m * 6) 118 (lv E (pushAll fl x (p.drop q)) nx) ∧ Fr (fun k => k = bl) w wr ∧ Hid (∀ i, q ≤ i → i < kp → gr ≤ rm E (pushAll fl x (p.drop q)) (p.getD i 0))) (fun _ ii _ => (intOf ii + 1).toNat)
  case atStart => exact ⟨p.length, p.length, Nat.le_refl _, Nat.le_refl _, rfl, rfl, by rw [List.drop_of_length_le (Nat.le_refl _)]; exact HL.out, Fr.refl _ _, fun i h1 h2 => by omega⟩
  case round =>
    obtain ⟨q, kp, hq, hkp, rfl, rfl, ht, hfr, hge⟩ := hrel
    have hszr := hfr.size
    obtain ⟨c0, c1, c2, c3, c4, c5, c6⟩ := seven_cells ((hfr.block f (lt_of_block HP.out.hd) n2).trans HP.out.hd)
    cases q with
    | zero =>
      have hz : ¬ (0 : Int) ≤ ((0 : Nat) : Int) - 1 := by omega
      go_wp2_with fail
      go_ret
      exact ⟨kp, rfl, hkp, fun i h => hge.out i (Nat.zero_le _) h, ht, hfr⟩
    | succ q =>
      have hq1 : ((q + 1 : Nat) : Int) - 1 = (q : Int) := by omega
      rw [hq1]
      have hql : q < p.length := by omega
      have hql' : (q : Int) < p.length := by omega
      have ck := (World.cell?_of_block (a := ⟨bx, q, none⟩) (hfr.block bx hbx n1)).trans (HPC.out q hql)
      have hmem : p.getD q 0 ∈ p := by simp [List.getD, List.getElem?_eq_getElem hql]
      have hkm := HK.out _ hmem
      have hrx := HRR.out _ hmem
      have hrb := rm_before (E := E) (fl := fl) (x := x) HO.out (show q < q + 1 by omega)
      have hfo : pushAll fl x (p.drop (q + 1)) (p.getD q 0 / 2) = fl (p.getD q 0 / 2) := pushAll_other (fun k hk => by
        obtain ⟨j, h1, h2, rfl⟩ := drop_mem hk
        exact fun e => once_get HO.out (show q < j by omega) h2 e.symm)
      have HDR := Lib.hid (drop_get hql)
      have HOTH : Hid (∀ i, q + 1 ≤ i → i < p.length → p.getD i 0 / 2 ≠ p.getD q 0 / 2) := fun i h1 h2 => fun e => once_get HO.out (show q < i by omega) h2 e.symm
      have hcc := HC.out (p.getD q 0 / 2) (by omega)
      have hff := HF.out (p.getD q 0 / 2) (by omega)
      have HPA : Hid (pushAll fl x (p.drop q) = push1 (pushAll fl x (p.drop (q + 1))) (p.getD q 0) x) := by show _ = _; rw [HDR.out]; rfl
      obtain ⟨k, HKK⟩ := named (p.getD q 0)
      rw [HKK.out] at ck hkm hrx hrb hfo hcc hff HPA HOTH
      obtain ⟨F0, HF0⟩ := named (pushAll fl x (p.drop (q + 1)))
      rw [HF0.out] at ht hge hrb hfo HPA
      have d0 := ht.cell (v := k / 2 * 6 + 2 + k % 2) (by omega)
      have d1 := ht.cell (v := k / 2 * 6 + 2 + (1 - k % 2)) (by omega)
      rw [lv_room] at d0
      rw [lv_rmo] at d1
      have f0 := ht.free (k / 2 * 6 + 2 + k % 2)
      have f1 := ht.free (k / 2 * 6 + 2 + (1 - k % 2))
      have hsum : rmo E F0 k + rm E F0 k = (ed E (k / 2)).c := by unfold rmo rm; split <;> omega
      have hro : 0 ≤ rmo E F0 k := by unfold rmo; rw [hfo]; split <;> omega
      have HT2 := Lib.hid ((ht.set (k / 2 * 6 + 2 + k % 2) (.int .u32 (rm E F0 k - x))).set (k / 2 * 6 + 2 + (1 - k % 2)) (.int .u32 (rmo E F0 k + x)))
      have HT3 : Hid (∀ v, updV (updV (lv E F0 nx) (k / 2 * 6 + 2 + k % 2) (.int .u32 (rm E F0 k - x))) (k / 2 * 6 + 2 + (1 - k % 2)) (.int .u32 (rmo E F0 k + x)) v = lv E (pushAll fl x (p.drop q)) nx v) := fun v => by rw [HPA.out]; exact lv_push E F0 nx k x v
      have HSELF : Hid (rm E (pushAll fl x (p.drop q)) k = rm E F0 k - x) := by show _ = _; rw [HPA.out]; exact rm_self E F0 k x
      have HOT2 : Hid (∀ i, q + 1 ≤ i → i < p.length → rm E (pushAll fl x (p.drop q)) (p.getD i 0) = rm E F0 (p.getD i 0)) := fun i h1 h2 => by rw [HPA.out]; exact rm_other (HOTH.out i h1 h2)
      rw [← hrb] at hrx
      obtain ⟨r, HRm⟩ := named (rm E F0 k)
      obtain ⟨r', HRo⟩ := named (rmo E F0 k)
      rw [HRm.out] at d0 hsum HT2 HT3 HSELF hrx
      rw [HRo.out] at d1 hsum hro HT2 HT3
      have hw1 : IntKind.u32.wrap (r - x) = r - x := by
        have h3 : (r - x) % 4294967296 = r - x := Int.emod_eq_of_lt (by omega) (by omega)
        simp [IntKind.wrap, IntKind.bits, IntKind.signed, h3]
      have hw2 : IntKind.u32.wrap (r' + x) = r' + x := by
        have h3 : (r' + x) % 4294967296 = r' + x := Int.emod_eq_of_lt (by omega) (by omega)
        simp [IntKind.wrap, IntKind.bits, IntKind.signed, h3]
      have hk2 : ((k / 2 : Nat) : Int) < m := by omega
      have ha := and_one k (by omega)
      have hk3 : ((k % 2 : Nat) : Int) < 2 := by omega
      have hk4 : (1 : Int) - ((k % 2 : Nat) : Int) = ((1 - k % 2 : Nat) : Int) := by omega
      have hk5 : ((1 - k % 2 : Nat) : Int) < 2 := by omega
      have hz : (0 : Int) ≤ (q : Int) := by omega
      clear hrb hfo hcc hff hkm hmem ht hsum hro hq1
      have hne : k / 2 * 6 + 2 + k % 2 ≠ k / 2 * 6 + 2 + (1 - k % 2) := by omega
      have hne' := hne.symm
      have hnb := n2.symm
      by_cases hrg : r - x < gr
      · skip
        go_wp2_with fail
        go_quiet (fail)
        go_wp2_with fail
        have dV : (wr.drewN nq).cell? ⟨bl, k / 2 * 6 + 2 + k % 2, none⟩ = some (.int .u32 r) := d0
        have eV : (wr.drewN nq).cell? ⟨bl, k / 2 * 6 + 2 + (1 - k % 2), none⟩ = some (.int .u32 r') := d1
        have fV : (wr.drewN nq).frozen? ⟨bl, k / 2 * 6 + 2 + k % 2, none⟩ = false := f0
        have gV : (wr.drewN nq).frozen? ⟨bl, k / 2 * 6 + 2 + (1 - k % 2), none⟩ = false := f1
        have cV : (wr.drewN nq).cell? ⟨f, 6, none⟩ = some (.int .u32 gr) := c6
        have HTV : Hid (TbV (((wr.drewN nq).setCell ⟨bl, k / 2 * 6 + 2 + k % 2, none⟩ (.int .u32 (r - x))).setCell ⟨bl, k / 2 * 6 + 2 + (1 - k % 2), none⟩ (.int .u32 (r' + x))) bl (m * 6) 118 (lv E (pushAll fl x (p.drop q)) nx)) := TbV.congr (TbV.same HT2.out rfl) (fun v _ => HT3.out v)
        have HFV := Lib.hid (((hfr.drewN nq).setCell ⟨bl, k / 2 * 6 + 2 + k % 2, none⟩ (.int .u32 (r - x)) rfl).setCell ⟨bl, k / 2 * 6 + 2 + (1 - k % 2), none⟩ (.int .u32 (r' + x)) rfl)
        clear d0 d1 f0 f1 c0 c1 c2 c3 c4 c5 c6 ck hfr
        generalize wr.drewN nq = V at *
        go_region
        go_wp2_with fail
        go_region
        go_wp2_with fail
        go_quiet (fail)
        go_wp2_with fail
        exact ⟨⟨q, q, by omega, by omega, rfl, rfl, HTV.out.same rfl, HFV.out.drewN _, fun i h1 h2 => by omega⟩, by simp [intOf]⟩
      · have HGE : Hid (∀ i, q ≤ i → i < kp → gr ≤ rm E (pushAll fl x (p.drop q)) (p.getD i 0)) := fun i h1 h2 => by
          by_cases e : i = q
          · subst e
            have := HSELF.out
            rw [← HKK.out] at this
            omega
          · have h3 := hge.out i (by omega) h2
            have h4 := HOT2.out i (by omega) (by omega)
            omega
        go_wp2_with fail
        go_quiet (fail)
        go_wp2_with fail
        have dV : (wr.drewN nq).cell? ⟨bl, k / 2 * 6 + 2 + k % 2, none⟩ = some (.int .u32 r) := d0
        have eV : (wr.drewN nq).cell? ⟨bl, k / 2 * 6 + 2 + (1 - k % 2), none⟩ = some (.int .u32 r') := d1
        have fV : (wr.drewN nq).frozen? ⟨bl, k / 2 * 6 + 2 + k % 2, none⟩ = false := f0
        have gV : (wr.drewN nq).frozen? ⟨bl, k / 2 * 6 + 2 + (1 - k % 2), none⟩ = false := f1
        have cV : (wr.drewN nq).cell? ⟨f, 6, none⟩ = some (.int .u32 gr) := c6
        have HTV : Hid (TbV (((wr.drewN nq).setCell ⟨bl, k / 2 * 6 + 2 + k % 2, none⟩ (.int .u32 (r - x))).setCell ⟨bl, k / 2 * 6 + 2 + (1 - k % 2), none⟩ (.int .u32 (r' + x))) bl (m * 6) 118 (lv E (pushAll fl x (p.drop q)) nx)) := TbV.congr (TbV.same HT2.out rfl) (fun v _ => HT3.out v)
        have HFV := Lib.hid (((hfr.drewN nq).setCell ⟨bl, k / 2 * 6 + 2 + k % 2, none⟩ (.int .u32 (r - x)) rfl).setCell ⟨bl, k / 2 * 6 + 2 + (1 - k % 2), none⟩ (.int .u32 (r' + x)) rfl)
        clear d0 d1 f0 f1 c0 c1 c2 c3 c4 c5 c6 ck hfr
        generalize wr.drewN nq = V at *
        go_region
        go_wp2_with fail
        go_region
        go_wp2_with fail
        go_quiet (fail)
        go_wp2_with fail
        exact ⟨⟨q, kp, by omega, hkp, rfl, rfl, HTV.out.same rfl, HFV.out.drewN _, HGE⟩, by simp [intOf]⟩
/-- The least room of the first i steps. -/
def leastN (E : List Ed) (fl : Nat → Int) (p : List Nat) : Nat → Int
  | 0 => 4294967295
  | i + 1 => if rm E fl (p.getD i 0) < leastN E fl p i then rm E fl (p.getD i 0) else leastN E fl p i
theorem least_le (E : List Ed) (fl : Nat → Int) (p : List Nat) : ∀ k i, i < k → leastN E fl p k ≤ rm E fl (p.getD i 0) := by
  intro k
  induction k with
  | zero => intro i h; omega
  | succ k ih =>
    intro i h
    simp only [leastN]
    by_cases e : i = k
    · subst e; split <;> omega
    · have := ih i (by omega)
      split <;> omega
theorem least_ge (E : List Ed) (fl : Nat → Int) (p : List Nat) (g : Int) (hg : g ≤ 4294967295) : ∀ k, (∀ i, i < k → g ≤ rm E fl (p.getD i 0)) → g ≤ leastN E fl p k := by
  intro k
  induction k with
  | zero => intro _; exact hg
  | succ k ih =>
    intro h
    have h1 := ih (fun i hi => h i (by omega))
    have h2 := h k (by omega)
    simp only [leastN]
    split <;> omega
set_option maxHeartbeats 800000 in
theorem least_any {w : World} {f bl b1 b2 b3 bq bp n m : Nat} {gr : Int} {E : List Ed} {fl nx : Nat → Int} {p : List Nat} {bx c : Nat} (hp : Pp w f bl b1 b2 b3 bq bp n m gr) (hl : TbV w bl (m * 6) 118 (lv E fl nx)) (hm : m ≤ 16384) (hk : ∀ k ∈ p, k < 2 * m) (hpl : p.length ≤ 100000) (hpc : ∀ i, i < p.length → w.cell? ⟨bx, i, none⟩ = some (.int .i64 ((p.getD i 0 : Nat) : Int))) :
    Calls Try.prog 76 #[.pointer (some ⟨f, 0, none⟩), .slice (some ⟨bx, 0, none⟩) p.length c] w fun e w' => e = .returned (.int .u32 (leastN E fl p p.length)) ∧ w' = w := by
  have HK := Lib.hid hk
  have HPC := Lib.hid hpc
  have HRM := Lib.hid (fun k (h : k < 2 * m) => room_any hp hl h hm)
  clear hp hl hk hpc
  go_enter Try.func76, Try.ntmps76
  go_wp2_with fail
  go_loopw [5, 10] (fun le i wr => ∃ k : Nat, k ≤ p.length ∧ i = .int .i64 k ∧ le = .int .u32 (leastN E fl p k) ∧ w = wr) (fun _ i _ => p.length - (intOf i).toNat)
  case atStart => exact ⟨0, Nat.zero_le _, rfl, rfl, rfl⟩
  case round =>
    obtain ⟨k, hk, rfl, rfl, rfl⟩ := hrel
    by_cases hlt : k < p.length
    · have hlt' : (k : Int) < p.length := by omega
      have c0 := HPC.out k hlt
      have hmem : p.getD k 0 ∈ p := by simp [List.getD, List.getElem?_eq_getElem hlt]
      have HC := Lib.hid (HRM.out _ (HK.out _ hmem))
      have HLE : Hid (leastN E fl p (k + 1) = if rm E fl (p.getD k 0) < leastN E fl p k then rm E fl (p.getD k 0) else leastN E fl p k) := rfl
      generalize p.getD k 0 = j at *
      obtain ⟨r, HR⟩ := named (rm E fl j)
      obtain ⟨le, HL⟩ := named (leastN E fl p k)
      obtain ⟨le', HL'⟩ := named (leastN E fl p (k + 1))
      rw [HR.out] at HC HLE
      rw [HL.out, HL'.out] at HLE
      rw [HL.out]
      have hmin : (if r < le then r else le) = le' := HLE.out.symm
      clear hmem
      go_wp2_with fail
      refine HC.out.mono ?_
      rintro e w1 ⟨rfl, rfl⟩
      go_wp2_with fail
      exact ⟨⟨k + 1, by omega, by go_num, by rw [HL'.out], by trivial⟩, by simp [intOf]; omega⟩
    · have hkl : k = p.length := by omega
      subst hkl
      have hlt' : ¬ ((p.length : Nat) : Int) < p.length := by omega
      go_wp2_with fail
      go_ret
      exact ⟨rfl, rfl⟩
set_option maxHeartbeats 400000 in
theorem setAll_any {w : World} {b n : Nat} {V : Nat → Value} (ht : TbV w b n 3 V) (hv : ∀ v, ∃ y, V v = .int .i64 y) (hn : n ≤ 8192) (x : Int) :
    Calls Try.prog 62 #[.slice (some ⟨b, 0, none⟩) n n, .int .i64 x] w fun e w' => e = .returned (.tuple #[]) ∧ TbV w' b n 3 (fun _ => .int .i64 x) ∧ Fr (fun k => k = b) w w' := by
  have HV := Lib.hid hv
  clear hv
  go_enter Try.func62, Try.ntmps62
  go_wp2_with fail
  go_loopw [7] (fun i wr => ∃ k : Nat, k ≤ n ∧ i = .int .i64 k ∧ TbV wr b n 3 (fun v => if v < k then .int .i64 x else V v) ∧ Fr (fun k => k = b) w wr) (fun i _ => n - (intOf i).toNat)
  case atStart => exact ⟨0, Nat.zero_le _, rfl, ht.congr (fun v _ => by simp), Fr.refl _ _⟩
  case round =>
    obtain ⟨k, hk, rfl, tk, hf⟩ := hrel
    by_cases hlt : k < n
    · have hlt' : (k : Int) < n := by omega
      have c0 := tk.cell hlt
      rw [if_neg (Nat.lt_irrefl k)] at c0
      obtain ⟨y, hy⟩ := HV.out k
      rw [hy] at c0
      have f0 := tk.free k
      have HS := Lib.hid (tk.set k (.int .i64 x))
      clear hy
      go_wp2_with fail
      refine ⟨⟨k + 1, by omega, by go_num, HS.out.congr (fun v _ => ?_), hf.setCell _ _ rfl⟩, by simp [intOf]; omega⟩
      unfold updV
      by_cases e : v = k
      · subst e; simp
      · rw [if_neg e]
        by_cases e2 : v < k
        · show (if v < k then Value.int .i64 x else V v) = _
          rw [if_pos e2, if_pos (by omega)]
        · show (if v < k then Value.int .i64 x else V v) = _
          rw [if_neg e2, if_neg (by omega)]
    · have hlt' : ¬ (k : Int) < n := by omega
      go_wp2_with fail
      go_end0
      exact ⟨rfl, tk.congr (fun v hv => by rw [if_pos (by omega)]), hf⟩
end Go.Proofs.Ytpgadcacimjlaab.F6
