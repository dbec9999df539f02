/-
  Contract of code.firstBody: the body of the frame that stands at the beginning of the bytes, or what is wrong with it.
-/
import Derived.Test.YtgcnpmjpdhgikaaDoorFrame
namespace Go.Proofs.YtgcnpmjpdhgikaaDoor
open Go.RowKit
/-- The first four bytes as a number. -/
def wordL (l : List UInt8) : Nat := word4 (l.getD 0 0).toNat (l.getD 1 0).toNat (l.getD 2 0).toNat (l.getD 3 0).toNat
theorem wordL_lt (l : List UInt8) : wordL l < 4294967296 := word4_lt (UInt8.toNat_lt _) (UInt8.toNat_lt _) (UInt8.toNat_lt _) (UInt8.toNat_lt _)
theorem getD_at (s : ByteArray) (i : Nat) (h : i < s.size) : s.data.toList.getD i 0 = s[i] := by
  have h' : i < s.data.toList.length := by simpa using h
  simp [List.getD, List.getElem?_eq_getElem h']
  rfl
theorem wordl_any (s : ByteArray) (h : 4 ≤ s.size) (hs : s.size ≤ 9223372036854775807) (w : World) :
    Calls Tryd.prog 47 #[.string s] w fun e w' => e = .returned (.int .u32 (wordL s.data.toList : Nat)) ∧ ∃ n, w' = w.drewN n := by
  unfold wordL
  rw [getD_at s 0 (by omega), getD_at s 1 (by omega), getD_at s 2 (by omega), getD_at s 3 (by omega)]
  exact word_any s h hs w
/-- The body of the frame that stands at the beginning, or what is wrong. -/
def bodyD (l : List UInt8) : List UInt8 × Int :=
  if l.length < 8 then ([], 23)
  else if 262144 < wordL l then ([], 2)
  else if l.length - 8 < wordL l then ([], 23)
  else if crcD ((l.drop 8).take (wordL l)) = wordL (l.drop 4) then ((l.drop 8).take (wordL l), 0)
  else ([], 25)
set_option maxHeartbeats 400000 in
theorem body_short (s : ByteArray) (h : s.size < 8) (w : World) :
    Calls Tryd.prog 37 #[.string s] w fun e w' => e = .returned (.tuple #[.string ⟨#[]⟩, .int .i64 23]) ∧ Below w.heap.size w w' := by
  have hl : (s.size : Int) < 8 := by omega
  go_enter Tryd.func37, Tryd.ntmps37
  go_wp2_with fail
  go_ret2
  exact ⟨rfl, Below.refl _ _⟩
theorem below_drewN (B : Nat) (w : World) (n : Nat) : Below B w (w.drewN n) := ⟨rfl, World.tape_drewN .., rfl, Nat.le_refl _, fun _ _ => rfl⟩
theorem str_back (s : ByteArray) : (⟨s.data.toList.toArray⟩ : ByteArray) = s := rfl
theorem extract_list (s : ByteArray) (a b : Nat) : (s.extract a b).data.toList = (s.data.toList.drop a).take (b - a) := by
  simp [ByteArray.data_extract, Array.toList_extract, List.extract_eq_take_drop]
theorem drop_list (s : ByteArray) (a : Nat) : (s.extract a s.size).data.toList = s.data.toList.drop a := by
  rw [extract_list, List.take_of_length_le (by simp)]
theorem extract_size (s : ByteArray) (a b : Nat) : (s.extract a b).size = min b s.size - a := by simp [ByteArray.size_extract]
/-- The body, by whatever reads four bytes. -/
def bodyF (F : ByteArray → Nat) (s : ByteArray) : ByteArray × Int :=
  if 262144 < F s then (⟨#[]⟩, 2)
  else if s.size - 8 < F s then (⟨#[]⟩, 23)
  else if crcD ((s.extract 8 s.size).extract 0 (F s)).data.toList = F (s.extract 4 s.size) then ((s.extract 8 s.size).extract 0 (F s), 0)
  else (⟨#[]⟩, 25)
set_option maxHeartbeats 400000 in
theorem body_of (F : ByteArray → Nat) (hF : ∀ t, F t < 4294967296) (H : ∀ t : ByteArray, 4 ≤ t.size → t.size ≤ 9223372036854775807 → ∀ w, Calls Tryd.prog 47 #[.string t] w fun e w' => e = .returned (.int .u32 (F t : Int)) ∧ ∃ n, w' = w.drewN n)
    (s : ByteArray) (h : 8 ≤ s.size) (hs : s.size ≤ 9223372036854775807) (w : World) (hh : Halves w) :
    Calls Tryd.prog 37 #[.string s] w fun e w' => e = .returned (.tuple #[.string (bodyF F s).1, .int .i64 (bodyF F s).2]) ∧ Below w.heap.size w w' := by
  have hl : ¬ (s.size : Int) < 8 := by omega
  have hl4 : (4 : Int) ≤ s.size := by omega
  have hl8 : (8 : Int) ≤ s.size := by omega
  have hW1 := hF s
  have hW2 := hF (s.extract 4 s.size)
  have HH := Lib.hid H
  clear H hF
  unfold bodyF
  by_cases c1 : 262144 < F s
  · have c1' : (262144 : Int) < F s := by omega
    rw [if_pos c1]
    go_enter Tryd.func37, Tryd.ntmps37
    go_wp2_with fail
    go_quiet ((go_at_call 47; refine Calls.quiet_of (HH.out _ ?_ ?_ _) <;> first | omega | (rw [extract_size]; omega)))
    go_wp2_with fail
    go_ret2
    exact ⟨rfl, below_drewN _ _ _⟩
  have c1' : ¬ (262144 : Int) < F s := by omega
  rw [if_neg c1]
  by_cases c2 : s.size - 8 < F s
  · rw [if_pos c2]
    go_enter Tryd.func37, Tryd.ntmps37
    go_wp2_with fail
    go_quiet ((go_at_call 47; refine Calls.quiet_of (HH.out _ ?_ ?_ _) <;> first | omega | (rw [extract_size]; omega)))
    go_wp2_with fail
    go_ret2
    exact ⟨rfl, below_drewN _ _ _⟩
  rw [if_neg c2]
  have HS : Hid (((s.extract 8 s.size).extract 0 (F s)).size = F s) := by
    show _ = _
    rw [extract_size, extract_size]; omega
  obtain ⟨C, HC⟩ : ∃ C, Hid (crcD ((s.extract 8 s.size).extract 0 (F s)).data.toList = C) := ⟨_, rfl⟩
  rw [HC.out]
  by_cases c3 : C = F (s.extract 4 s.size)
  all_goals
    first | rw [if_pos c3] | rw [if_neg c3]
    have c3' : ((C : Int) == (F (s.extract 4 s.size) : Int)) = decide (C = F (s.extract 4 s.size)) := by
      rw [Bool.eq_iff_iff]; simp; omega
    first | rw [decide_eq_true c3] at c3' | rw [decide_eq_false c3] at c3'
    clear c3
    go_enter Tryd.func37, Tryd.ntmps37
    go_wp2_with fail
    go_quiet ((go_at_call 47; refine Calls.quiet_of (HH.out _ ?_ ?_ _) <;> first | omega | (rw [extract_size]; omega)))
    go_wp2_with fail
    refine (crc_any _ (by rw [HS.out]; omega) _ (hh.on (below_drewN w.heap.size w nq) hh.size)).mono ?_
    rintro e w1 ⟨rfl, rfl⟩
    rw [HC.out]
    go_wp2_with fail
    go_ret2
    exact ⟨rfl, below_drewN _ _ _⟩
theorem bodyF_eq (F : ByteArray → Nat) (s : ByteArray) (x y : Nat) (hx : F s = x) (hy : F (s.extract 4 s.size) = y) :
    bodyF F s = if 262144 < x then (⟨#[]⟩, 2) else if s.size - 8 < x then (⟨#[]⟩, 23) else if crcD ((s.data.toList.drop 8).take x) = y then (⟨((s.data.toList.drop 8).take x).toArray⟩, 0) else (⟨#[]⟩, 25) := by
  subst hx; subst hy
  have e : ((s.extract 8 s.size).extract 0 (F s)).data.toList = (s.data.toList.drop 8).take (F s) := by
    rw [extract_list, drop_list, List.drop_zero, Nat.sub_zero]
  have e2 : (⟨((s.data.toList.drop 8).take (F s)).toArray⟩ : ByteArray) = (s.extract 8 s.size).extract 0 (F s) := by
    rw [← e, str_back]
  unfold bodyF
  rw [e, e2]
theorem bodyD_eq (l : List UInt8) (h : 8 ≤ l.length) (x y : Nat) (hx : wordL l = x) (hy : wordL (l.drop 4) = y) :
    bodyD l = if 262144 < x then ([], 2) else if l.length - 8 < x then ([], 23) else if crcD ((l.drop 8).take x) = y then ((l.drop 8).take x, 0) else ([], 25) := by
  subst hx; subst hy
  unfold bodyD
  rw [if_neg (by omega)]
theorem body_any (s : ByteArray) (h : 8 ≤ s.size) (hs : s.size ≤ 9223372036854775807) (w : World) (hh : Halves w) :
    Calls Tryd.prog 37 #[.string s] w fun e w' => e = .returned (.tuple #[.string ⟨(bodyD s.data.toList).1.toArray⟩, .int .i64 (bodyD s.data.toList).2]) ∧ Below w.heap.size w w' := by
  refine (body_of (fun t => wordL t.data.toList) (fun t => wordL_lt _) (fun t h4 ht w => wordl_any t h4 ht w) s h hs w hh).mono ?_
  rintro e w1 ⟨rfl, hb⟩
  refine ⟨?_, hb⟩
  obtain ⟨x, hx⟩ : ∃ x, wordL s.data.toList = x := ⟨_, rfl⟩
  obtain ⟨y, hy⟩ : ∃ y, wordL (s.data.toList.drop 4) = y := ⟨_, rfl⟩
  have el : s.data.toList.length = s.size := by simp
  rw [bodyF_eq _ s x y hx (by show wordL (s.extract 4 s.size).data.toList = y; rw [drop_list]; exact hy), bodyD_eq _ (by omega) x y hx hy, el]
  split
  · rfl
  · split
    · rfl
    · split
      · rfl
      · rfl
end Go.Proofs.YtgcnpmjpdhgikaaDoor
