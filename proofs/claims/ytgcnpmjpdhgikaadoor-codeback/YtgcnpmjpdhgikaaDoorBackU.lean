/-
  SameItem of the same items; Decode of any bytes.
-/
import Derived.Test.YtgcnpmjpdhgikaaDoorBackS
import Derived.Test.YtgcnpmjpdhgikaaDoorRefGen
namespace Go.Proofs.YtgcnpmjpdhgikaaDoor
open Go.RowKit
theorem InF.row {w : World} {f : Nat} {t : T} (h : InF w (f + 1) t) : ∃ b o, (0 < t.l.length → t.a = some ⟨b, o, none⟩) ∧ ∀ j, j < t.l.length → b < w.heap.size ∧ (t.m j).at w b (o + j * 4) := by
  by_cases h0 : 0 < t.l.length
  · obtain ⟨b, o, h1, h2⟩ := h.2.1 h0
    refine ⟨b, o, fun _ => h1, fun j hj => ?_⟩
    have h3 := h2 j hj
    rw [T.m_eq t j hj] at h3
    exact ⟨World.block_lt_of_cell? w _ h3.1, h3⟩
  · exact ⟨0, 0, fun h => absurd h h0, fun j hj => absurd hj (by omega)⟩
theorem same_any (f : Nat) : ∀ (t u : T) (w : World), InF w f t → InF w f u → Okk f t → Sm f t u → Calls Tryd.prog 15 #[t.val, u.val] w fun e w' => e = .returned (.bool true) ∧ Below w.heap.size w w' := by
  induction f with
  | zero => intro t u w _ _ h; exact h.elim
  | succ f ih =>
    intro t u w ht hu ok sm
    obtain ⟨e1, e2, e3, e4, hm⟩ := sm
    obtain ⟨p, o, hp, hp2⟩ := ht.row
    obtain ⟨q, r, hq, hq2⟩ := hu.row
    unfold T.val
    rw [← e1, ← e2, ← e3, ← e4]
    rw [← e4] at hq hq2
    exact same_step t.k t.n t.s t.l.length ok.2.1 t.a u.a p q o r t.cap u.cap hp hq t.m u.m w hp2 hq2 (fun j hj w' hb => ih _ _ w' ((ht.mem hj).on hb) ((hu.mem (by rw [← e4]; exact hj)).on hb) (ok.2.2.2.2 j hj) (hm j hj))
set_option maxHeartbeats 400000 in
theorem decode_long (s : ByteArray) (hs : 262144 < s.size) (hs2 : s.size ≤ 9223372036854775807) (w : World) :
    Calls Tryd.prog 13 #[.string s] w fun e w' => e = .returned (.tuple #[T.zero.val, .agg #[.int .i64 0, .int .i64 2]]) ∧ Below w.heap.size w w' := by
  have hs' : (262144 : Int) < s.size := by omega
  have hX : ((w.alloc (.cells #[.int .i64 0, .int .u64 0, .string ⟨#[]⟩, .slice none 0 0] 25)).alloc (.cells #[.int .i64 0, .int .i64 0] 32)).heap[w.heap.size]? = some (.cells #[.int .i64 0, .int .u64 0, .string ⟨#[]⟩, .slice none 0 0] 25) := by
    rw [Below.heap_alloc _ _ _ (by simp)]; exact heap_top w _
  have hF := heap_top (w.alloc (.cells #[.int .i64 0, .int .u64 0, .string ⟨#[]⟩, .slice none 0 0] 25)) (.cells #[.int .i64 0, .int .i64 0] 32)
  rw [World.size_alloc] at hF
  have hb0 : Below w.heap.size w ((w.alloc (.cells #[.int .i64 0, .int .u64 0, .string ⟨#[]⟩, .slice none 0 0] 25)).alloc (.cells #[.int .i64 0, .int .i64 0] 32)) := ((Below.refl _ _).alloc (Nat.le_refl _) _).alloc (by simp) _
  go_enter Tryd.func13, Tryd.ntmps13
  go_wp2_with fail
  refine (fault_any 0 2 _).mono ?_
  rintro e w1 ⟨rfl, hb1⟩
  have hX1 := (hb1.block _ (lt_of_block hX)).trans hX
  have hF1 := (hb1.block _ (lt_of_block hF)).trans hF
  have hbw := hb0.trans (hb1.mono hb0.size)
  obtain ⟨hx1, hx2⟩ := four_cells hX1
  obtain ⟨hf1, hf2⟩ := two_cells hF1
  clear hX hF hb0 hb1 hX1 hF1
  go_wp2_with fail
  refine bodyPost_ret (v := .tuple #[.agg #[.int .i64 0, .int .u64 0, .string ⟨#[]⟩, .slice none 0 0], .agg #[.int .i64 0, .int .i64 2]]) (by simp [results, Tryd.results13, go_sem, hx1, hf1]) rfl ⟨rfl, ?_⟩
  exact (((((hbw.setCell (by simp) _).setCell (by simp) _).setCell (by simp) _).setCell (by simp) _).setCell (by simp) _).setCell (by simp) _
/-- What Decode answers. -/
def Dec2 (s : ByteArray) (w : World) (e : Ending) (w' : World) : Prop :=
  ∃ (t : T) (a c : Int), e = .returned (.tuple #[t.val, .agg #[.int .i64 a, .int .i64 c]]) ∧ Below w.heap.size w w' ∧ 0 ≤ a ∧ a ≤ s.size ∧
    ((c = 0 ∧ a = 0 ∧ InF w' 8 t ∧ encV (encD t) = .tuple #[.string s, .int .i64 0]) ∨ (c ≠ 0 ∧ t = T.zero))
theorem decode_all (s : ByteArray) (hs : s.size ≤ 9223372036854775807) (w : World) : Calls Tryd.prog 13 #[.string s] w (Dec2 s w) := by
  by_cases h : s.size ≤ 262144
  · refine (decode_back s h w).mono ?_
    rintro e w' ⟨t, a, c, rfl, hb, h1, h2, h3⟩
    refine ⟨t, a, c, rfl, hb, h1, h2, ?_⟩
    rcases h3 with ⟨rfl, rfl, h4, h5, h6⟩ | ⟨h4, h5, _⟩ | ⟨rfl, h5, _⟩
    · refine Or.inl ⟨rfl, rfl, h4, ?_⟩
      have hl : s.data.toList.length = s.size := by rw [Array.length_toList]; rfl
      rw [encD_eq, if_neg (by rw [h5.wrong]; simp), ← h6, if_neg (by omega)]
      unfold encV
      simp
    · exact Or.inr ⟨h4, h5⟩
    · exact Or.inr ⟨by decide, h5⟩
  · refine (decode_long s (by omega) hs w).mono ?_
    rintro e w' ⟨rfl, hb⟩
    exact ⟨T.zero, 0, 2, rfl, hb, Int.le_refl _, by omega, Or.inr ⟨by decide, rfl⟩⟩
end Go.Proofs.YtgcnpmjpdhgikaaDoor
