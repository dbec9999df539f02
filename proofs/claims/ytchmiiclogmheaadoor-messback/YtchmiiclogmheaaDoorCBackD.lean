/-
  Contract of code.Decode: an item whose bytes these are, or that there is none.
-/
import Derived.Test.YtchmiiclogmheaaDoorCBackJ
import Derived.Test.YtchmiiclogmheaaDoorCItemN
namespace Go.Proofs.YtchmiiclogmheaaDoor.C2
open Go.RowKit
/-- The world behind Decode's first steps. -/
theorem start3 (w : World) (s : ByteArray) :
    RS (((w.alloc (.cells #[.int .i64 0, .int .u64 0, .string ⟨#[]⟩, .slice none 0 0] 54)).alloc (.cells #[.int .i64 0, .int .i64 0] 35)).alloc (.cells #[.string s, .int .i64 0] 68)) (w.heap.size + 1 + 1) s 0
    ∧ (((w.alloc (.cells #[.int .i64 0, .int .u64 0, .string ⟨#[]⟩, .slice none 0 0] 54)).alloc (.cells #[.int .i64 0, .int .i64 0] 35)).alloc (.cells #[.string s, .int .i64 0] 68)).heap[w.heap.size]? = some (.cells #[.int .i64 0, .int .u64 0, .string ⟨#[]⟩, .slice none 0 0] 54)
    ∧ (((w.alloc (.cells #[.int .i64 0, .int .u64 0, .string ⟨#[]⟩, .slice none 0 0] 54)).alloc (.cells #[.int .i64 0, .int .i64 0] 35)).alloc (.cells #[.string s, .int .i64 0] 68)).heap[w.heap.size + 1]? = some (.cells #[.int .i64 0, .int .i64 0] 35)
    ∧ Below w.heap.size w (((w.alloc (.cells #[.int .i64 0, .int .u64 0, .string ⟨#[]⟩, .slice none 0 0] 54)).alloc (.cells #[.int .i64 0, .int .i64 0] 35)).alloc (.cells #[.string s, .int .i64 0] 68)) := by
  generalize hA : Obj.cells #[.int .i64 0, .int .u64 0, .string ⟨#[]⟩, .slice none 0 0] 54 = A
  generalize hB : Obj.cells #[.int .i64 0, .int .i64 0] 35 = B
  have e3 := heap_top ((w.alloc A).alloc B) (.cells #[.string s, .int .i64 0] 68)
  rw [World.size_alloc, World.size_alloc] at e3
  have e2 := heap_top (w.alloc A) B
  rw [World.size_alloc] at e2
  have e1 := heap_top w A
  obtain ⟨⟨c0, c1⟩, -, f1⟩ := two_cells e3
  refine ⟨⟨lt_of_block e3, c0, c1, f1⟩, ?_, ?_, (((Below.refl _ _).alloc (Nat.le_refl _) _).alloc (by simp) _).alloc (by simp; omega) _⟩
  · rw [Below.heap_alloc _ _ _ (by simp; omega), Below.heap_alloc _ _ _ (by simp), e1]
  · rw [Below.heap_alloc _ _ _ (by simp), e2]
theorem below_rd {w w0 w1 : World} {rb : Nat} (h : Below w.heap.size w w0) (hr : Rd rb w0 w1) (hrb : w.heap.size ≤ rb) : Below w.heap.size w w1 :=
  ⟨hr.os.trans h.os, hr.tape.trans h.tape, hr.output.trans h.output, Nat.le_trans h.size hr.size, fun k hk => (hr.block k (Nat.lt_of_lt_of_le hk h.size) (by omega)).trans (h.block k hk)⟩
/-- What Decode answers. -/
def DecOut (s : ByteArray) (w : World) (e : Ending) (w' : World) : Prop :=
  ∃ (t : T) (a c : Int), e = .returned (.tuple #[t.val, .agg #[.int .i64 a, .int .i64 c]]) ∧ Below w.heap.size w w' ∧ 0 ≤ a ∧ a ≤ s.size ∧
    ((c = 0 ∧ a = 0 ∧ InF w' 8 t ∧ Okk 8 t ∧ s.data.toList = encF 8 t)
    ∨ (c ≠ 0 ∧ t = T.zero ∧ NoItem 8 s.data.toList)
    ∨ (c = 24 ∧ t = T.zero ∧ ∃ u r, Okk 8 u ∧ r ≠ [] ∧ s.data.toList = encF 8 u ++ r ∧ a = (encF 8 u).length))
set_option maxHeartbeats 1000000 in
set_option maxRecDepth 100000 in
theorem decode_back (s : ByteArray) (hs : s.size ≤ 262144) (w : World) : Calls Tryd.prog 25 #[.string s] w (DecOut s w) := by
  have hs' : ¬ (262144 : Int) < s.size := by omega
  have HI := Lib.hid (fun w' rb h => item_back s hs rb 8 (Nat.le_refl _) 0 (Nat.zero_le _) w' h)
  go_enter Tryd.func25, Tryd.ntmps25
  go_wp2_with fail
  obtain ⟨hrs0, hA, hB, hb0⟩ := start3 w s
  refine (HI.out _ _ hrs0).mono ?_
  rintro e w1 ⟨t, a, c, k', rfl, hrd, hrs, hk', ha0, ha1, hp⟩
  rw [List.drop_zero] at hp
  have HP := Lib.hid hp
  have hA1 := (hrd.block _ (lt_of_block hA) (by omega)).trans hA
  have hB1 := (hrd.block _ (lt_of_block hB) (by omega)).trans hB
  have hbw : Below w.heap.size w w1 := below_rd hb0 hrd (by omega)
  have hz0 : w.heap.size + 1 < w1.heap.size := lt_of_block hB1
  unfold T.val
  have hbx : Below w1.heap.size w1 ((w1.alloc (.cells #[.int .i64 t.k, .int .u64 t.n, .string t.s, .slice t.a t.l.length t.cap] 54)).alloc (.cells #[.int .i64 a, .int .i64 c] 35)) := ((Below.refl _ _).alloc (Nat.le_refl _) _).alloc (by simp) _
  have hf3 := heap_top (w1.alloc (.cells #[.int .i64 t.k, .int .u64 t.n, .string t.s, .slice t.a t.l.length t.cap] 54)) (.cells #[.int .i64 a, .int .i64 c] 35)
  rw [World.size_alloc] at hf3
  have hA2 := (hbx.block _ (by omega)).trans hA1
  have hB2 := (hbx.block _ (by omega)).trans hB1
  have hbw2 := hbw.trans (hbx.mono (by omega))
  have HRS1 := Lib.hid hrs
  have HBX := Lib.hid hbx
  have HRS2 := Lib.hid (hrs.on hbx)
  obtain ⟨rlt, r0, r1, rf⟩ := hrs
  clear hA hB hA1 hB1 hrs0 hrd hb0 hbx hbw hp
  by_cases hc : c = 0
  · subst hc
    have HOK : Hid (a = 0 ∧ InS (fun b => (((w.alloc (.cells #[.int .i64 0, .int .u64 0, .string ⟨#[]⟩, .slice none 0 0] 54)).alloc (.cells #[.int .i64 0, .int .i64 0] 35)).alloc (.cells #[.string s, .int .i64 0] 68)).heap.size ≤ b ∧ b < w1.heap.size) w1 8 t ∧ Okk 8 t ∧ s.data.toList = encF 8 t ++ s.data.toList.drop k') := by
      rcases HP.out with ⟨_, h1, _, h2, h3, h4⟩ | ⟨h, _⟩
      · exact ⟨h1, h2, h3, h4⟩
      · exact absurd rfl h
    clear HP
    have hk2 : (k' : Int) ≤ s.size := by omega
    by_cases hl : k' < s.size
    · have hl' : (k' : Int) < s.size := by omega
      go_wp2_with fail
      refine (fault_any k' 24 _).mono ?_
      rintro e w3 ⟨rfl, hb3⟩
      have hA3 := (hb3.block _ (lt_of_block hA2)).trans hA2
      have hB3 := (hb3.block _ (lt_of_block hB2)).trans hB2
      have hf4 := (hb3.block _ (lt_of_block hf3)).trans hf3
      have hbw3 := hbw2.trans (hb3.mono hbw2.size)
      obtain ⟨hx1, hx2⟩ := four_cells hA3
      obtain ⟨hf1, hf2⟩ := two_cells hB3
      obtain ⟨hg1, hg2⟩ := two_cells hf4
      have hl3 := lt_of_block hf4
      clear hA2 hB2 hf3 hA3 hB3 hf4 hb3 rlt r0 r1 rf hbw2 HRS1 HRS2 HBX
      go_wp2_with fail
      go_region
      go_wp2_with fail
      have hdl : s.data.toList.drop k' ≠ [] := by
        intro e
        have := congrArg List.length e
        rw [List.length_drop] at this
        simp at this
        omega
      have hel : (k' : Int) = (encF 8 t).length := by
        have := congrArg List.length HOK.out.2.2.2
        rw [List.length_append, List.length_drop] at this
        simp at this
        omega
      refine bodyPost_ret (v := .tuple #[.agg #[.int .i64 0, .int .u64 0, .string ⟨#[]⟩, .slice none 0 0], .agg #[.int .i64 k', .int .i64 24]]) (by simp [results, Tryd.results25, go_sem, hx1, hf1]) rfl ⟨T.zero, k', 24, rfl, ?_, by omega, by omega, Or.inr (Or.inr ⟨rfl, rfl, t, _, HOK.out.2.2.1, hdl, HOK.out.2.2.2, hel⟩)⟩
      refine Below.drew ?_
      exact (((((((hbw3.setCell (by simp; omega) _).setCell (by simp; omega) _).setCell (by simp) _).setCell (by simp) _).setCell (by simp) _).setCell (by simp) _).setCell (by simp) _).setCell (by simp) _
    · have hl' : ¬ (k' : Int) < s.size := by omega
      go_wp2_with fail
      have hT2 : ((w1.alloc (.cells #[.int .i64 t.k, .int .u64 t.n, .string t.s, .slice t.a t.l.length t.cap] 54)).alloc (.cells #[.int .i64 a, .int .i64 0] 35)).heap[w1.heap.size]? = some (.cells #[.int .i64 t.k, .int .u64 t.n, .string t.s, .slice t.a t.l.length t.cap] 54) := by
        rw [Below.heap_alloc _ _ _ (by simp)]; exact heap_top w1 _
      generalize (w1.alloc (.cells #[.int .i64 t.k, .int .u64 t.n, .string t.s, .slice t.a t.l.length t.cap] 54)).alloc (.cells #[.int .i64 a, .int .i64 0] 35) = W2 at *
      obtain ⟨hx1, hx2⟩ := four_cells hA2
      obtain ⟨hf1, hf2⟩ := two_cells hB2
      obtain ⟨hg1, -⟩ := two_cells hf3
      obtain ⟨ht1, -⟩ := four_cells hT2
      have hl3 := lt_of_block hf3
      clear hA2 hB2 hf3 hT2 rlt r0 r1 rf HRS1 HRS2
      go_region
      go_wp2_with fail
      refine bodyPost_ret (v := .tuple #[.agg #[.int .i64 t.k, .int .u64 t.n, .string t.s, .slice t.a t.l.length t.cap], .agg #[.int .i64 a, .int .i64 0]]) (by simp [results, Tryd.results25, go_sem, hx1, hf1]) rfl ⟨t, a, 0, rfl, ?_, ha0, ha1, Or.inl ⟨rfl, HOK.out.1, ?_, HOK.out.2.2.1, ?_⟩⟩
      · refine Below.drew ?_
        exact (((((hbw2.setCell (by simp) _).setCell (by simp) _).setCell (by simp) _).setCell (by simp) _).setCell (by simp) _).setCell (by simp) _
      · refine InS.inF (InS.same (S' := fun _ => True) ?_ HOK.out.2.1)
        rintro b ⟨hb, hb2⟩
        have hb' : w.heap.size + 3 ≤ b := by simp at hb; omega
        refine ⟨trivial, ?_⟩
        rw [heap_drew_at]
        rw [Below.heap_setCell _ _ _ b (by simp; omega), Below.heap_setCell _ _ _ b (by simp; omega), Below.heap_setCell _ _ _ b (by simp; omega), Below.heap_setCell _ _ _ b (by simp; omega), Below.heap_setCell _ _ _ b (by simp; omega), Below.heap_setCell _ _ _ b (by simp; omega)]
        exact HBX.out.block b hb2
      · have e := HOK.out.2.2.2
        rw [List.drop_eq_nil_of_le (by simp; omega), List.append_nil] at e
        exact e
  · have hcb : (c == 0) = false := beq_eq_false_iff_ne.2 hc
    go_wp2_with fail
    generalize (w1.alloc (.cells #[.int .i64 t.k, .int .u64 t.n, .string t.s, .slice t.a t.l.length t.cap] 54)).alloc (.cells #[.int .i64 a, .int .i64 c] 35) = W2 at *
    obtain ⟨hx1, hx2⟩ := four_cells hA2
    obtain ⟨hf1, hf2⟩ := two_cells hB2
    obtain ⟨hg1, -⟩ := two_cells hf3
    clear hA2 hB2 hf3
    go_region
    go_wp2_with fail
    refine bodyPost_ret (v := .tuple #[.agg #[.int .i64 0, .int .u64 0, .string ⟨#[]⟩, .slice none 0 0], .agg #[.int .i64 a, .int .i64 c]]) (by simp [results, Tryd.results25, go_sem, hx1, hf1]) rfl ⟨T.zero, a, c, rfl, ?_, ha0, ha1, Or.inr (Or.inl ⟨hc, rfl, ?_⟩)⟩
    · refine Below.drew ?_
      exact (((((hbw2.setCell (by simp) _).setCell (by simp) _).setCell (by simp) _).setCell (by simp) _).setCell (by simp) _).setCell (by simp) _
    · rcases HP.out with ⟨h, _⟩ | ⟨_, h⟩
      · exact absurd h hc
      · exact h
end Go.Proofs.YtchmiiclogmheaaDoor.C2
