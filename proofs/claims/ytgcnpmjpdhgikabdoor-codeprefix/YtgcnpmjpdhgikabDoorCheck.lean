/-
  Contract of code.check: what is wrong with an item, or 0.
-/
import Derived.Test.YtgcnpmjpdhgikabDoorItem
namespace Go.Proofs.YtgcnpmjpdhgikabDoor
open Go.RowKit
set_option maxHeartbeats 400000 in
theorem check_deep (v : Value) (w : World) (k n : Int) (s : ByteArray) (a : Option Addr) (m cap : Nat) (hv : v = .agg #[.int .i64 k, .int .u64 n, .string s, .slice a m cap]) :
    Calls Tryd.prog 9 #[v, .int .i64 9] w fun e w' => e = .returned (.int .i64 21) ∧ Below w.heap.size w w' := by
  subst hv
  go_enter Tryd.func9, Tryd.ntmps9
  go_wp2_with fail
  go_ret
  exact ⟨rfl, (Below.refl _ _).alloc (Nat.le_refl _) _⟩
set_option maxHeartbeats 400000 in
theorem check_kind (d : Int) (hd : d ≤ 8) (w : World) (k n : Int) (s : ByteArray) (a : Option Addr) (m cap : Nat) (hk : keepsB k n s m = false) :
    Calls Tryd.prog 9 #[.agg #[.int .i64 k, .int .u64 n, .string s, .slice a m cap], .int .i64 d] w fun e w' => e = .returned (.int .i64 20) ∧ Below w.heap.size w w' := by
  have hd' : ¬ 8 < d := by omega
  have hkk := fun w => keeps_at k n s a m cap w
  rw [hk] at hkk
  have HK := Lib.hid hkk
  clear hkk hk
  go_enter Tryd.func9, Tryd.ntmps9
  go_wp2_with fail
  refine (HK.out _).mono ?_
  rintro e w1 ⟨rfl, hb⟩
  go_wp2_with fail
  go_ret
  exact ⟨rfl, ((Below.refl _ _).alloc (Nat.le_refl _) _).trans (hb.mono (by simp))⟩
theorem bcell4 {w w1 : World} {a b c d : Value} {t : TypeId} {B : Nat} (hb : Below B (w.alloc (.cells #[a, b, c, d] t)) w1) (hB : w.heap.size < B) : w1.cell? ⟨w.heap.size, 0, none⟩ = some a ∧ w1.cell? ⟨w.heap.size, 1, none⟩ = some b ∧ w1.cell? ⟨w.heap.size, 2, none⟩ = some c ∧ w1.cell? ⟨w.heap.size, 3, none⟩ = some d := by
  refine ⟨?_, ?_, ?_, ?_⟩
  · rw [hb.cell hB]; simp
  · rw [hb.cell hB]; simp
  · rw [hb.cell hB]; simp
  · rw [hb.cell hB]; simp
set_option maxHeartbeats 400000 in
theorem check_long (d : Int) (hd : d ≤ 8) (w : World) (k n : Int) (s : ByteArray) (a : Option Addr) (m cap : Nat) (hk : keepsB k n s m = true) (hm : 16384 < m) (hm' : m ≤ 140737488355328) :
    Calls Tryd.prog 9 #[.agg #[.int .i64 k, .int .u64 n, .string s, .slice a m cap], .int .i64 d] w fun e w' => e = .returned (.int .i64 2) ∧ Below w.heap.size w w' := by
  have hd' : ¬ 8 < d := by omega
  have hm2 : (16384 : Int) < m := by omega
  have hkk := fun w => keeps_at k n s a m cap w
  rw [hk] at hkk
  have HK := Lib.hid hkk
  clear hkk hk
  go_enter Tryd.func9, Tryd.ntmps9
  go_wp2_with fail
  refine (HK.out _).mono ?_
  rintro e w1 ⟨rfl, hb⟩
  obtain ⟨c0, c1, c2, c3⟩ := bcell4 hb (by simp)
  go_wp2_with fail
  go_ret
  exact ⟨rfl, ((Below.refl _ _).alloc (Nat.le_refl _) _).trans (hb.mono (by simp))⟩
/-- The first of so many numbers that is not 0, or 0. -/
def firstE (E : Nat → Int) : Nat → Int
  | 0 => 0
  | m + 1 => if firstE E m = 0 then E m else firstE E m
theorem firstE_stop (E : Nat → Int) {j m : Nat} (h0 : firstE E j = 0) (hE : E j ≠ 0) (h : j < m) : firstE E m = E j := by
  induction m with
  | zero => omega
  | succ m ih =>
    unfold firstE
    by_cases e : j = m
    · subst e; rw [if_pos h0]
    · rw [ih (by omega), if_neg hE]
theorem firstE_congr {E F : Nat → Int} {m : Nat} (h : ∀ j, j < m → E j = F j) : firstE E m = firstE F m := by
  induction m with
  | zero => rfl
  | succ m ih => unfold firstE; rw [ih (fun j hj => h j (by omega)), h m (by omega)]
set_option maxHeartbeats 400000 in
theorem check_step (d : Int) (hd0 : 0 ≤ d) (hd : d ≤ 8) (w : World) (k n : Int) (s : ByteArray) (a : Option Addr) (b o m cap : Nat) (ha : 0 < m → a = some ⟨b, o, none⟩) (hk : keepsB k n s m = true) (hm : m ≤ 16384)
    (K NN : Nat → Int) (S : Nat → ByteArray) (A : Nat → Option Addr) (M C : Nat → Nat) (E : Nat → Int)
    (hc : ∀ j, j < m → w.cell? ⟨b, o + j * 4, none⟩ = some (.int .i64 (K j)) ∧ w.cell? ⟨b, o + j * 4 + 1, none⟩ = some (.int .u64 (NN j)) ∧ w.cell? ⟨b, o + j * 4 + 2, none⟩ = some (.string (S j)) ∧ w.cell? ⟨b, o + j * 4 + 3, none⟩ = some (.slice (A j) (M j) (C j)))
    (H : ∀ j, j < m → ∀ w', Below w.heap.size w w' → Calls Tryd.prog 9 #[.agg #[.int .i64 (K j), .int .u64 (NN j), .string (S j), .slice (A j) (M j) (C j)], .int .i64 (d + 1)] w' fun e w'' => e = .returned (.int .i64 (E j)) ∧ Below w'.heap.size w' w'') :
    Calls Tryd.prog 9 #[.agg #[.int .i64 k, .int .u64 n, .string s, .slice a m cap], .int .i64 d] w fun e w' => e = .returned (.int .i64 (firstE E m)) ∧ Below w.heap.size w w' := by
  have hd' : ¬ 8 < d := by omega
  have hm2 : ¬ (16384 : Int) < m := by omega
  have hkk := fun w => keeps_at k n s a m cap w
  rw [hk] at hkk
  have HK := Lib.hid hkk
  have HH := Lib.hid H
  have HC := Lib.hid hc
  clear hkk hk H hc
  go_enter Tryd.func9, Tryd.ntmps9
  go_wp2_with fail
  refine (HK.out _).mono ?_
  rintro e w1 ⟨rfl, hb⟩
  obtain ⟨c0, c1, c2, c3⟩ := bcell4 hb (by simp)
  have hb1 : Below w.heap.size w w1 := ((Below.refl _ _).alloc (Nat.le_refl _) _).trans (hb.mono (by simp))
  clear hb
  go_wp2_with fail
  go_loopw [23] (fun i wr => ∃ (j : Nat), j ≤ m ∧ i = .int .i64 j ∧ Hid (firstE E j = 0) ∧ Below w.heap.size w wr) (fun i _ => m - (intOf i).toNat)
  case atStart => exact ⟨0, Nat.zero_le _, rfl, rfl, hb1⟩
  case round =>
    clear c0 c1 c2 c3
    obtain ⟨j, hj, rfl, HF, hbel⟩ := hrel
    by_cases hlt : j < m
    · obtain ⟨p0, p1, p2, p3⟩ := HC.out j hlt
      have hbl : b < w.heap.size := World.block_lt_of_cell? w _ p0
      have q0 := (hbel.cell (p := ⟨b, o + j * 4, none⟩) hbl).trans p0
      have q1 := (hbel.cell (p := ⟨b, o + j * 4 + 1, none⟩) hbl).trans p1
      have q2 := (hbel.cell (p := ⟨b, o + j * 4 + 2, none⟩) hbl).trans p2
      have q3 := (hbel.cell (p := ⟨b, o + j * 4 + 3, none⟩) hbl).trans p3
      clear p0 p1 p2 p3
      have ha' := ha (by omega)
      subst ha'
      have hsz := hbel.size
      go_wp2_with fail
      refine (HH.out j hlt _ (hbel.alloc hsz _)).mono ?_
      rintro e w2 ⟨rfl, hb2⟩
      have hb3 : Below w.heap.size w w2 := (hbel.alloc hsz _).trans (hb2.mono (by simp; omega))
      clear hb2
      by_cases hE : E j = 0
      · have HF2 : Hid (firstE E (j + 1) = 0) := by
          show _ = _
          unfold firstE
          rw [if_pos HF.out]; exact hE
        rw [hE]
        clear hE
        go_wp2_with fail
        exact ⟨⟨j + 1, by omega, by go_num, HF2, hb3⟩, by simp [intOf]; omega⟩
      · have HE : Hid (firstE E m = E j) := firstE_stop E HF.out hE hlt
        have hE' : (E j == 0) = false := beq_eq_false_iff_ne.2 hE
        clear hE
        go_wp2_with fail
        go_ret
        exact ⟨ret_int (by rw [HE.out]), hb3⟩
    · have hjm : j = m := by omega
      have HE : Hid (firstE E m = 0) := by rw [← hjm]; exact HF
      clear hjm
      go_wp2_with fail
      go_ret
      exact ⟨ret_int (by rw [HE.out]), hbel⟩
/-- What is wrong with an item: so many levels may be. -/
def wrongF : Nat → T → Int
  | 0, _ => 21
  | f + 1, t => if t.keeps = false then 20 else if 16384 < t.l.length then 2 else firstE (fun j => wrongF f (t.m j)) t.l.length
theorem InF.mem {w : World} {f : Nat} {t : T} (h : InF w (f + 1) t) {j : Nat} (hj : j < t.l.length) : InF w f (t.m j) := by
  rw [← T.m_eq t j hj]; exact h.2.2 j hj
theorem InF.cells {w : World} {f : Nat} {t : T} (h : InF w (f + 1) t) : ∃ b o, (0 < t.l.length → t.a = some ⟨b, o, none⟩) ∧ ∀ j, j < t.l.length → (t.m j).at w b (o + j * 4) := by
  by_cases h0 : 0 < t.l.length
  · obtain ⟨b, o, ha, hat⟩ := h.2.1 h0
    exact ⟨b, o, fun _ => ha, fun j hj => by rw [← T.m_eq t j hj]; exact hat j hj⟩
  · exact ⟨0, 0, fun h => absurd h h0, fun j hj => absurd hj (by omega)⟩
theorem check_any (f : Nat) : f ≤ 8 → ∀ (t : T) (w : World), InF w f t →
    Calls Tryd.prog 9 #[t.val, .int .i64 (9 - (f : Int))] w fun e w' => e = .returned (.int .i64 (wrongF f t)) ∧ Below w.heap.size w w' := by
  induction f with
  | zero => intro _ t w _; exact check_deep _ w _ _ _ _ _ _ rfl
  | succ f ih =>
    intro hf t w hin
    unfold wrongF
    by_cases hk : t.keeps = false
    · rw [if_pos hk]
      exact check_kind _ (by omega) w _ _ _ _ _ _ hk
    · rw [if_neg hk]
      have hk' : keepsB t.k t.n t.s t.l.length = true := by
        cases h : t.keeps
        · exact absurd h hk
        · exact h
      by_cases hm : 16384 < t.l.length
      · rw [if_pos hm]
        exact check_long _ (by omega) w _ _ _ _ _ _ hk' hm hin.1.2.2.2
      · rw [if_neg hm]
        obtain ⟨b, o, ha, hat⟩ := hin.cells
        refine check_step _ (by omega) (by omega) w _ _ _ _ b o _ _ ha hk' (by omega) (fun j => (t.m j).k) (fun j => (t.m j).n) (fun j => (t.m j).s) (fun j => (t.m j).a) (fun j => (t.m j).l.length) (fun j => (t.m j).cap) _ hat ?_
        intro j hj w' hb
        have h := ih (by omega) (t.m j) w' ((hin.mem hj).on hb)
        rw [show (9 - ((f + 1 : Nat) : Int)) + 1 = 9 - (f : Int) by omega]
        exact h
end Go.Proofs.YtgcnpmjpdhgikabDoor
