/-
  Contract of the function works of the statements: the chapter's examples come out right.
-/
import Derived.Test.YtgcnpmjpdhgikabDoorItemN
namespace Go.Proofs.YtgcnpmjpdhgikabDoor
open Go.RowKit
/-- The example's bytes. -/
def exB : ByteArray := ⟨#[1, 128, 0]⟩
theorem numV_ex : numV [128, 0] 1 = .tuple #[.int .u64 0, .agg #[.int .i64 1, .int .i64 22]] := by
  have e : orV [128, 0] 2 = 0 := by decide
  unfold numV
  rw [show ([128, 0] : List UInt8).length = 2 from rfl, e, if_neg (by decide)]
  rfl
theorem num_ex (rb : Nat) (w : World) (hr : RS w rb exB 1) : Calls Tryd.prog 15 #[.pointer (some ⟨rb, 0, none⟩)] w (NumOut exB rb (fun n a c k' => n = 0 ∧ a = 1 ∧ c = 22 ∧ k' = 3) w) := by
  refine (number_any exB (by decide) rb 1 (by decide) w hr).mono ?_
  rintro e w1 ⟨hrd, ⟨hall, rfl, hrs⟩ | ⟨j, hj, hjs, hall, hlt, rfl, hrs⟩⟩
  · exact absurd (hall.out 2 (by decide) (by decide)) (by decide)
  · have h2 : j = 2 := by
      have h3 : j < 3 := hjs
      have h1 : j = 1 ∨ j = 2 := by omega
      rcases h1 with rfl | rfl
      · exact absurd (show (128 : Nat) < 128 from hlt) (by decide)
      · rfl
    subst h2
    refine ⟨0, 1, 22, 3, ?_, ⟨rfl, rfl, rfl, rfl⟩, hrd, hrs⟩
    show Ending.returned (numV [128, 0] 1) = _
    rw [numV_ex]
/-- The world behind Decode's first steps. -/
theorem start3 (w : World) (s : ByteArray) :
    RS (((w.alloc (.cells #[.int .i64 0, .int .u64 0, .string ⟨#[]⟩, .slice none 0 0] 25)).alloc (.cells #[.int .i64 0, .int .i64 0] 31)).alloc (.cells #[.string s, .int .i64 0] 43)) (w.heap.size + 1 + 1) s 0
    ∧ (((w.alloc (.cells #[.int .i64 0, .int .u64 0, .string ⟨#[]⟩, .slice none 0 0] 25)).alloc (.cells #[.int .i64 0, .int .i64 0] 31)).alloc (.cells #[.string s, .int .i64 0] 43)).heap[w.heap.size]? = some (.cells #[.int .i64 0, .int .u64 0, .string ⟨#[]⟩, .slice none 0 0] 25)
    ∧ (((w.alloc (.cells #[.int .i64 0, .int .u64 0, .string ⟨#[]⟩, .slice none 0 0] 25)).alloc (.cells #[.int .i64 0, .int .i64 0] 31)).alloc (.cells #[.string s, .int .i64 0] 43)).heap[w.heap.size + 1]? = some (.cells #[.int .i64 0, .int .i64 0] 31)
    ∧ Below w.heap.size w (((w.alloc (.cells #[.int .i64 0, .int .u64 0, .string ⟨#[]⟩, .slice none 0 0] 25)).alloc (.cells #[.int .i64 0, .int .i64 0] 31)).alloc (.cells #[.string s, .int .i64 0] 43)) := by
  generalize hA : Obj.cells #[.int .i64 0, .int .u64 0, .string ⟨#[]⟩, .slice none 0 0] 25 = A
  generalize hB : Obj.cells #[.int .i64 0, .int .i64 0] 31 = B
  have e3 := heap_top ((w.alloc A).alloc B) (.cells #[.string s, .int .i64 0] 43)
  rw [World.size_alloc, World.size_alloc] at e3
  have e2 := heap_top (w.alloc A) B
  rw [World.size_alloc] at e2
  have e1 := heap_top w A
  obtain ⟨⟨c0, c1⟩, -, f1⟩ := two_cells e3
  refine ⟨⟨lt_of_block e3, c0, c1, f1⟩, ?_, ?_, (((Below.refl _ _).alloc (Nat.le_refl _) _).alloc (by simp) _).alloc (by simp; omega) _⟩
  · rw [Below.heap_alloc _ _ _ (by simp; omega), Below.heap_alloc _ _ _ (by simp), e1]
  · rw [Below.heap_alloc _ _ _ (by simp), e2]
theorem below_rd {w w0 w1 : World} {rb : Nat} (h : Below w.heap.size w w0) (hr : Rd rb w0 w1) (hrb : w.heap.size ≤ rb) : Below w.heap.size w w1 :=
  ⟨hr.os.trans h.os, hr.tape.trans h.tape, hr.output.trans h.output, Nat.le_trans h.size hr.size, fun k hk => (hr.block k (Nat.lt_of_lt_of_le hk h.size) (by omega)).trans (h.block k hk)⟩
set_option maxHeartbeats 1000000 in
theorem decode_ex (w : World) : Calls Tryd.prog 7 #[.string exB] w fun e w' => e = .returned (.tuple #[.agg #[.int .i64 0, .int .u64 0, .string ⟨#[]⟩, .slice none 0 0], .agg #[.int .i64 1, .int .i64 22]]) ∧ Below w.heap.size w w' := by
  have hsz : exB.size = 3 := rfl
  have hl : ¬ (262144 : Int) < exB.size := by rw [hsz]; decide
  have HB0 : Hid (exB[0].toNat = 1) := rfl
  obtain ⟨s, HS⟩ := named exB
  rw [HS.out] at hl hsz ⊢
  have HI : Hid (∀ rb w, RS w rb s 0 → Calls Tryd.prog 12 #[.pointer (some ⟨rb, 0, none⟩), .int .i64 1] w fun e w' => ∃ n a c k', e = .returned (.tuple #[.agg #[.int .i64 1, .int .u64 n, .string ⟨#[]⟩, .slice none 0 0], .agg #[.int .i64 a, .int .i64 c]]) ∧ (n = 0 ∧ a = 1 ∧ c = 22 ∧ k' = 3) ∧ Rd rb w w' ∧ RS w' rb s k') := by
    show ∀ rb w, _
    rw [← HS.out]
    intro rb w hr
    exact item_num exB (by decide) rb 0 (by decide) 1 (by decide) rfl _ w hr (fun w' hr' => num_ex rb w' hr')
  clear HS HB0
  go_enter Tryd.func7, Tryd.ntmps7
  go_wp2_with fail
  obtain ⟨hrs0, hA, hB, hb0⟩ := start3 w s
  refine (HI.out _ _ hrs0).mono ?_
  rintro e w1 ⟨n, a, c, k', rfl, ⟨rfl, rfl, rfl, rfl⟩, hrd, hrs⟩
  have hA1 := (hrd.block _ (lt_of_block hA) (by omega)).trans hA
  have hB1 := (hrd.block _ (lt_of_block hB) (by omega)).trans hB
  have hbw : Below w.heap.size w w1 := below_rd hb0 hrd (by omega)
  have hz0 : w.heap.size + 1 < w1.heap.size := lt_of_block hB1
  have hbx : Below w1.heap.size w1 ((w1.alloc (.cells #[.int .i64 1, .int .u64 0, .string ⟨#[]⟩, .slice none 0 0] 25)).alloc (.cells #[.int .i64 1, .int .i64 22] 31)) := ((Below.refl _ _).alloc (Nat.le_refl _) _).alloc (by simp) _
  have hf3 := heap_top (w1.alloc (.cells #[.int .i64 1, .int .u64 0, .string ⟨#[]⟩, .slice none 0 0] 25)) (.cells #[.int .i64 1, .int .i64 22] 31)
  rw [World.size_alloc] at hf3
  have hA2 := (hbx.block _ (by omega)).trans hA1
  have hB2 := (hbx.block _ (by omega)).trans hB1
  have hbw2 := hbw.trans (hbx.mono (by omega))
  clear hA hB hA1 hB1 hrs0 hrd hrs hb0 hbx hbw
  go_wp2_with fail
  generalize (w1.alloc (.cells #[.int .i64 1, .int .u64 0, .string ⟨#[]⟩, .slice none 0 0] 25)).alloc (.cells #[.int .i64 1, .int .i64 22] 31) = W2 at *
  obtain ⟨hx1, hx2⟩ := four_cells hA2
  obtain ⟨hf1, hf2⟩ := two_cells hB2
  obtain ⟨hg1, -⟩ := two_cells hf3
  clear hA2 hB2 hf3
  go_region
  go_wp2_with fail
  refine bodyPost_ret (v := .tuple #[.agg #[.int .i64 0, .int .u64 0, .string ⟨#[]⟩, .slice none 0 0], .agg #[.int .i64 1, .int .i64 22]]) (by simp [results, Tryd.results7, go_sem, hx1, hf1]) rfl ⟨rfl, ?_⟩
  refine Below.drew ?_
  exact (((((hbw2.setCell (by simp) _).setCell (by simp) _).setCell (by simp) _).setCell (by simp) _).setCell (by simp) _).setCell (by simp) _
theorem wrong_ex (a : Option Addr) : wrongF 8 (.mk 3 0 ⟨#[]⟩ a 2 [.mk 1 300 ⟨#[]⟩ none 0 [], .mk 2 0 ⟨#[97, 98]⟩ none 0 []]) = 0 := by
  have e : (⟨#[]⟩ : ByteArray).toList = [] := by rw [ByteArray.toList_eq]
  simp [wrongF, firstE, T.keeps, keepsB, T.k, T.n, T.s, T.l, T.m, List.getD, e]
theorem bytes_ex (a : Option Addr) : appF 8 [] (.mk 3 0 ⟨#[]⟩ a 2 [.mk 1 300 ⟨#[]⟩ none 0 [], .mk 2 0 ⟨#[97, 98]⟩ none 0 []]) = [3, 2, 1, 172, 2, 2, 2, 97, 98] := by
  have e1 : numD 2 = [2] := by decide
  have e2 : numD 300 = [172, 2] := by decide
  have e3 : (⟨#[97, 98]⟩ : ByteArray).size = 2 := rfl
  simp [appF, loopF, T.k, T.n, T.s, T.l, T.m, List.getD, e1, e2, e3]
theorem in_ex (w : World) : InF (w.alloc (.cells #[.int .i64 1, .int .u64 300, .string ⟨#[]⟩, .slice none 0 0, .int .i64 2, .int .u64 0, .string ⟨#[97, 98]⟩, .slice none 0 0] 25)) 8 (.mk 3 0 ⟨#[]⟩ (some ⟨w.heap.size, 0, none⟩) 2 [.mk 1 300 ⟨#[]⟩ none 0 [], .mk 2 0 ⟨#[97, 98]⟩ none 0 []]) := by
  refine ⟨⟨Int.le_refl 0, show (0 : Int) ≤ 18446744073709551615 by decide, show 0 ≤ 140737488355328 by decide, show 2 ≤ 140737488355328 by decide⟩, fun _ => ⟨w.heap.size, 0, rfl, ?_⟩, ?_⟩
  · intro j h
    have h2 : j < 2 := h
    match j, h2 with
    | 0, _ => exact ⟨by simp [T.l, T.k], by simp [T.l, T.n], by simp [T.l, T.s], by simp [T.l, T.a, T.cap]⟩
    | 1, _ => exact ⟨by simp [T.l, T.k], by simp [T.l, T.n], by simp [T.l, T.s], by simp [T.l, T.a, T.cap]⟩
  · intro j h
    have h2 : j < 2 := h
    match j, h2 with
    | 0, _ => exact ⟨⟨show (0 : Int) ≤ 300 by decide, show (300 : Int) ≤ 18446744073709551615 by decide, show 0 ≤ 140737488355328 by decide, show 0 ≤ 140737488355328 by decide⟩, fun h => absurd (show 0 < 0 from h) (by decide), fun j h => absurd (show j < 0 from h) (by omega)⟩
    | 1, _ => exact ⟨⟨show (0 : Int) ≤ 0 by decide, show (0 : Int) ≤ 18446744073709551615 by decide, show 2 ≤ 140737488355328 by decide, show 0 ≤ 140737488355328 by decide⟩, fun h => absurd (show 0 < 0 from h) (by decide), fun j h => absurd (show j < 0 from h) (by omega)⟩
theorem encode_ex (w : World) : Calls Tryd.prog 6 #[.agg #[.int .i64 3, .int .u64 0, .string ⟨#[]⟩, .slice (some ⟨w.heap.size, 0, none⟩) 2 2]] (w.alloc (.cells #[.int .i64 1, .int .u64 300, .string ⟨#[]⟩, .slice none 0 0, .int .i64 2, .int .u64 0, .string ⟨#[97, 98]⟩, .slice none 0 0] 25)) fun e w' => e = .returned (.tuple #[.string ⟨#[3, 2, 1, 172, 2, 2, 2, 97, 98]⟩, .int .i64 0]) ∧ Below (w.heap.size + 1) (w.alloc (.cells #[.int .i64 1, .int .u64 300, .string ⟨#[]⟩, .slice none 0 0, .int .i64 2, .int .u64 0, .string ⟨#[97, 98]⟩, .slice none 0 0] 25)) w' := by
  refine (encode_any _ _ (in_ex w)).mono ?_
  rintro e w1 ⟨rfl, hb⟩
  rw [World.size_alloc] at hb
  refine ⟨?_, hb⟩
  unfold encD
  rw [wrong_ex, bytes_ex]
  rfl
set_option maxHeartbeats 400000 in
theorem works_any (w : World) (hh : Halves w) : Calls Tryd.prog 5 #[] w fun e w' => e = .returned (.bool true) ∧ Below w.heap.size w w' := by
  have HCrc : Hid (crcD (ByteArray.mk #[49, 50, 51, 52, 53, 54, 55, 56, 57]).data.toList = 3421780262) := crcD_example
  have hpos := hh.size
  have HH := Lib.hid hh
  clear hh
  go_enter Tryd.func5, Tryd.ntmps5
  go_wp2_with fail
  refine (encode_ex w).mono ?_
  rintro e w1 ⟨rfl, hb1⟩
  have hbw : Below w.heap.size w w1 := ((Below.refl _ _).alloc (Nat.le_refl _) _).trans (hb1.mono (by omega))
  clear hb1
  go_wp2_with fail
  refine (decode_ex w1).mono ?_
  rintro e w2 ⟨rfl, hb2⟩
  have hbw2 := hbw.trans (hb2.mono hbw.size)
  clear hb2 hbw
  go_wp2_with fail
  refine (crc_any _ (by decide) _ (HH.out.on ((hbw2.alloc hbw2.size _).alloc (by simp; have := hbw2.size; omega) _) hpos)).mono ?_
  rintro e w3 ⟨rfl, rfl⟩
  rw [HCrc.out]
  go_wp2_with fail
  go_ret
  exact ⟨rfl, (hbw2.alloc hbw2.size _).alloc (by simp; have := hbw2.size; omega) _⟩
end Go.Proofs.YtgcnpmjpdhgikabDoor
