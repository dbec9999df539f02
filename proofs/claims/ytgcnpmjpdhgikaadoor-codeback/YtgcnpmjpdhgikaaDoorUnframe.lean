/-
  Contract of code.Unframe: the frame that stands at a place, and the place behind it, or what is wrong.
-/
import Derived.Test.YtgcnpmjpdhgikaaDoorBody
namespace Go.Proofs.YtgcnpmjpdhgikaaDoor
open Go.RowKit
set_option maxHeartbeats 400000 in
theorem clone_any (s : ByteArray) (hs : s.size ≤ 281474976710656) (w : World) :
    Calls Tryd.prog 38 #[.string s] w fun e w' => e = .returned (.string s) ∧ Below w.heap.size w w' := by
  go_enter Tryd.func38, Tryd.ntmps38
  go_wp2_with fail
  refine (Tryd.stringslite_Clone s _ hs).mono ?_
  rintro e w1 ⟨rfl, hb⟩
  go_wp2_with fail
  go_ret
  exact ⟨rfl, hb⟩
theorem bodyp (s : ByteArray) (hs : s.size ≤ 9223372036854775807) (w : World) (hh : Halves w) :
    Calls Tryd.prog 37 #[.string s] w fun e w' => e = .returned (.tuple #[.string ⟨(bodyD s.data.toList).1.toArray⟩, .int .i64 (bodyD s.data.toList).2]) ∧ Below w.heap.size w w' := by
  by_cases h : s.size < 8
  · have e : bodyD s.data.toList = ([], 23) := by unfold bodyD; rw [if_pos (by simpa using h)]
    rw [e]
    exact body_short s h w
  · exact body_any s (by omega) hs w hh
theorem bodyD_codes (l : List UInt8) : (bodyD l).2 = 0 ∨ (bodyD l).2 = 2 ∨ (bodyD l).2 = 23 ∨ (bodyD l).2 = 25 := by
  unfold bodyD
  split
  · simp
  · split
    · simp
    · split
      · simp
      · split
        · simp
        · simp
theorem bodyD_len (l : List UInt8) : (bodyD l).1.length ≤ l.length ∧ (bodyD l).1.length ≤ 262144 := by
  unfold bodyD
  split
  · simp
  · split
    · simp
    · split
      · simp
      · split
        · constructor
          · simp; omega
          · simp; omega
        · simp
/-- What Unframe answers: the body, the place behind, the fault. -/
def unD (l : List UInt8) (a : Int) : Value :=
  if a < 0 ∨ (l.length : Int) < a then .tuple #[.string ⟨#[]⟩, .int .i64 0, .agg #[.int .i64 0, .int .i64 1]]
  else if (bodyD (l.drop a.toNat)).2 = 0 then .tuple #[.string ⟨(bodyD (l.drop a.toNat)).1.toArray⟩, .int .i64 (a + 8 + (bodyD (l.drop a.toNat)).1.length), .agg #[.int .i64 0, .int .i64 0]]
  else .tuple #[.string ⟨#[]⟩, .int .i64 0, .agg #[.int .i64 a, .int .i64 (bodyD (l.drop a.toNat)).2]]
theorem bcell {w w1 : World} {a b : Value} {t : TypeId} {B : Nat} (hb : Below B (w.alloc (.cells #[a, b] t)) w1) (hB : w.heap.size < B) : (w1.cell? ⟨w.heap.size, 0, none⟩ = some a ∧ w1.cell? ⟨w.heap.size, 1, none⟩ = some b) ∧ (w1.frozen? ⟨w.heap.size, 0, none⟩ = false ∧ w1.frozen? ⟨w.heap.size, 1, none⟩ = false) := by
  refine ⟨⟨?_, ?_⟩, ?_, ?_⟩
  · rw [hb.cell hB]; simp
  · rw [hb.cell hB]; simp
  · rw [hb.frozen hB]; simp
  · rw [hb.frozen hB]; simp
theorem two_set {w w1 : World} {B : Nat} {o : Obj} (hb : Below B (w.alloc o) w1) (hB : w.heap.size ≤ B) (u v : Value) : Below w.heap.size w ((w1.setCell ⟨w.heap.size, 0, none⟩ u).setCell ⟨w.heap.size, 1, none⟩ v) :=
  ((((Below.refl _ _).alloc (Nat.le_refl _) _).trans (hb.mono hB)).setCell (Nat.le_refl _) _).setCell (Nat.le_refl _) _
set_option maxHeartbeats 400000 in
theorem unframe_out (s : ByteArray) (a : Int) (h : a < 0 ∨ (s.size : Int) < a) (w : World) :
    Calls Tryd.prog 21 #[.string s, .int .i64 a] w fun e w' => e = .returned (.tuple #[.string ⟨#[]⟩, .int .i64 0, .agg #[.int .i64 0, .int .i64 1]]) ∧ Below w.heap.size w w' := by
  by_cases h0 : a < 0
  · go_enter Tryd.func21, Tryd.ntmps21
    go_wp2_with fail
    refine (fault_any 0 1 _).mono ?_
    rintro e w1 ⟨rfl, hb⟩
    obtain ⟨hc, hf⟩ := bcell hb (by simp)
    have hz : w.heap.size + 1 ≤ w1.heap.size := by have := hb.size; simp at this; omega
    go_wp2_with fail
    exact bodyPost_ret (v := .tuple #[.string ⟨#[]⟩, .int .i64 0, .agg #[.int .i64 0, .int .i64 1]]) (by simp [results, Tryd.results21, go_sem, hc]) rfl ⟨rfl, two_set hb (by simp) _ _⟩
  · have h1 : (s.size : Int) < a := by omega
    clear h
    go_enter Tryd.func21, Tryd.ntmps21
    go_wp2_with fail
    refine (fault_any 0 1 _).mono ?_
    rintro e w1 ⟨rfl, hb⟩
    obtain ⟨hc, hf⟩ := bcell hb (by simp)
    have hz : w.heap.size + 1 ≤ w1.heap.size := by have := hb.size; simp at this; omega
    go_wp2_with fail
    exact bodyPost_ret (v := .tuple #[.string ⟨#[]⟩, .int .i64 0, .agg #[.int .i64 0, .int .i64 1]]) (by simp [results, Tryd.results21, go_sem, hc]) rfl ⟨rfl, two_set hb (by simp) _ _⟩
set_option maxHeartbeats 400000 in
theorem unframe_in (s : ByteArray) (k : Nat) (hs : s.size ≤ 4611686018427387904) (hk : k ≤ s.size) (w : World) (hh : Halves w) :
    Calls Tryd.prog 21 #[.string s, .int .i64 k] w fun e w' => e = .returned (unD s.data.toList k) ∧ Below w.heap.size w w' := by
  have hk' : ¬ (s.size : Int) < k := by omega
  have hk0 : ¬ (k : Int) < 0 := by omega
  have hk1 : (k : Int) ≤ s.size := by omega
  have hcb := bodyp (s.extract k s.size) (by rw [extract_size]; omega)
  rw [drop_list] at hcb
  have hcod := bodyD_codes (s.data.toList.drop k)
  have hlen := (bodyD_len (s.data.toList.drop k)).2
  have HU : Hid (unD s.data.toList k = if (bodyD (s.data.toList.drop k)).2 = 0 then .tuple #[.string ⟨(bodyD (s.data.toList.drop k)).1.toArray⟩, .int .i64 ((k : Int) + 8 + (bodyD (s.data.toList.drop k)).1.length), .agg #[.int .i64 0, .int .i64 0]]
      else .tuple #[.string ⟨#[]⟩, .int .i64 0, .agg #[.int .i64 k, .int .i64 (bodyD (s.data.toList.drop k)).2]]) := by
    show _ = _
    unfold unD
    rw [if_neg (by simp; omega), Int.toNat_natCast]
  rw [HU.out]
  generalize bodyD (s.data.toList.drop k) = r at *
  obtain ⟨rl, rc⟩ := r
  have HB := Lib.hid hcb
  clear hcb HU
  dsimp only at *
  obtain ⟨bs, HBS⟩ : ∃ b : ByteArray, Hid ((⟨rl.toArray⟩ : ByteArray) = b) := ⟨_, rfl⟩
  have HBL : Hid (bs.size = rl.length) := by
    show _ = _
    rw [← HBS.out]; rfl
  have hbl : bs.size ≤ 262144 := by rw [HBL.out]; exact hlen
  rw [HBS.out, ← HBL.out]
  clear hlen HBL
  by_cases h0 : rc = 0
  · rw [if_pos h0]
    subst h0
    go_enter Tryd.func21, Tryd.ntmps21
    go_wp2_with fail
    refine (HB.out _ (hh.on ((Below.refl w.heap.size w).alloc (Nat.le_refl _) _) hh.size)).mono ?_
    rintro e w1 ⟨rfl, hb⟩
    rw [HBS.out]
    go_wp2_with fail
    refine (clone_any _ (by omega) _).mono ?_
    rintro e w2 ⟨rfl, hb2⟩
    have hb3 := hb.trans (hb2.mono hb.size)
    clear hb hb2
    obtain ⟨hc, hf⟩ := bcell hb3 (by simp)
    have hz : w.heap.size + 1 ≤ w2.heap.size := by have := hb3.size; simp at this; omega
    go_wp2_with fail
    exact bodyPost_ret (v := .tuple #[.string bs, .int .i64 ((k : Int) + 8 + bs.size), .agg #[.int .i64 0, .int .i64 0]]) (by simp [results, Tryd.results21, go_sem, hc]) rfl ⟨rfl, two_set hb3 (by simp) _ _⟩
  · rw [if_neg h0]
    have hne : (rc == 0) = false := beq_eq_false_iff_ne.2 h0
    go_enter Tryd.func21, Tryd.ntmps21
    go_wp2_with fail
    refine (HB.out _ (hh.on ((Below.refl w.heap.size w).alloc (Nat.le_refl _) _) hh.size)).mono ?_
    rintro e w1 ⟨rfl, hb⟩
    go_wp2_with fail
    refine (fault_any k rc _).mono ?_
    rintro e w2 ⟨rfl, hb2⟩
    have hb3 := hb.trans (hb2.mono hb.size)
    clear hb hb2
    obtain ⟨hc, hf⟩ := bcell hb3 (by simp)
    have hz : w.heap.size + 1 ≤ w2.heap.size := by have := hb3.size; simp at this; omega
    go_wp2_with fail
    exact bodyPost_ret (v := .tuple #[.string ⟨#[]⟩, .int .i64 0, .agg #[.int .i64 k, .int .i64 rc]]) (by simp [results, Tryd.results21, go_sem, hc]) rfl ⟨rfl, two_set hb3 (by simp) _ _⟩
theorem unframe_any (s : ByteArray) (a : Int) (hs : s.size ≤ 4611686018427387904) (w : World) (hh : Halves w) :
    Calls Tryd.prog 21 #[.string s, .int .i64 a] w fun e w' => e = .returned (unD s.data.toList a) ∧ Below w.heap.size w w' := by
  by_cases h : a < 0 ∨ (s.size : Int) < a
  · have e : unD s.data.toList a = .tuple #[.string ⟨#[]⟩, .int .i64 0, .agg #[.int .i64 0, .int .i64 1]] := by unfold unD; rw [if_pos (by simpa using h)]
    rw [e]
    exact unframe_out s a h w
  · obtain ⟨k, rfl⟩ : ∃ k : Nat, a = k := ⟨a.toNat, by omega⟩
    exact unframe_in s k hs (by omega) w hh
end Go.Proofs.YtgcnpmjpdhgikaaDoor
