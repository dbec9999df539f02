/-
  Contract of the reference's Induced.
-/
import Derived.Test.YtkhgnefnmibomaaRKept
namespace Go.Proofs.Ytkhgnefnmibomaa
open Go.RowKit
/-- What the reference's Induced leaves. -/
def RInd (w w' : World) (e : Ending) (N : Int) (Z : List A) (vs is : List Int) (E : Int) : Prop :=
  ∃ ah ch av cv ai ci, e = .returned (.tuple #[.agg #[.int .i64 N, .slice ah Z.length ch], .slice av vs.length cv, .slice ai is.length ci, .int .i64 E]) ∧ Arcs w' ah Z ∧ Ints w' av vs ∧ Ints w' ai is ∧ Below w.heap.size w w'
set_option maxHeartbeats 1600000 in
theorem rinduced_no (N : Int) (a : Option Addr) (l : List A) (cap : Nat) (a' : Option Addr) (q : List Bool) (cap' : Nat) (w : World) (hl : l.length ≤ 9223372036854775807) (hq : q.length ≤ 9223372036854775807) (hr : Arcs w a l) (hr' : Bools (· < w.heap.size) w a' q) (hE : indE N l q ≠ 0) :
    Calls Try.prog 33 #[.agg #[.int .i64 N, .slice a l.length cap], .slice a' q.length cap'] w fun e w' => RInd w w' e 0 [] [] [] (indE N l q) := by
  have hb0 : Below w.heap.size w ((w.alloc (.cells #[.int .i64 N, .slice a l.length cap] 24)).alloc (.cells #[.int .i64 0, .slice none 0 0] 24)) := ((Below.refl _ _).alloc (Nat.le_refl _) _).alloc (by simp) _
  have hg : ((w.alloc (.cells #[.int .i64 N, .slice a l.length cap] 24)).alloc (.cells #[.int .i64 0, .slice none 0 0] 24)).heap[w.heap.size]? = some (.cells #[.int .i64 N, .slice a l.length cap] 24) := (Below.heap_alloc _ _ _ (by simp)).trans (heap_top w _)
  have h1 := heap_top (w.alloc (.cells #[.int .i64 N, .slice a l.length cap] 24)) (.cells #[.int .i64 0, .slice none 0 0] 24)
  rw [show (w.alloc (.cells #[.int .i64 N, .slice a l.length cap] 24)).heap.size = w.heap.size + 1 by simp] at h1
  generalize hW : (w.alloc (.cells #[.int .i64 N, .slice a l.length cap] 24)).alloc (.cells #[.int .i64 0, .slice none 0 0] 24) = W at *
  obtain ⟨⟨g0, g1⟩, gf0, gf1⟩ := two_cells hg
  obtain ⟨T, HT⟩ := named (chkAt N l)
  have hr0 := hr.on hb0
  have s0 := lt_of_block hg
  have s1 := lt_of_block h1
  have hrb : Bools (· < w.heap.size) W a' q := hr'.imp (fun _ h => h) (fun b h => hb0.block b h)
  by_cases hC : chkE N l = 0
  · have HC := Lib.hid hC
    by_cases hQ : (q.length : Int) = N
    · by_cases hH : hits (mk q) q.length = []
      · rw [show indE N l q = 5 by simp [indE, hC, hQ, hH]]
        obtain ⟨n1, n2, n3, n4⟩ := chk_zero hC
        subst hQ
        have HK := Lib.hid (fun w2 (hb : Below w.heap.size w w2) => rkept_any q.length a l cap a' q cap' w2 (by omega) n3 rfl n4 (hr.on hb) (hr'.imp (fun b h => Nat.lt_of_lt_of_le h hb.size) (fun b h => hb.block b h)))
        rw [hH] at HK
        clear hE hC n4 hH
        obtain ⟨Z, HZ⟩ := named (indA (mk q) l)
        obtain ⟨is, HI⟩ := named (indI (mk q) l)
        rw [HZ.out, HI.out] at HK
        go_enter Try.func33, Try.ntmps33
        go_wp2_with fail
        refine (rcheck_any q.length a l cap _ hl hr0).mono ?_
        rintro e w1 ⟨rfl, hb1⟩
        rw [HC.out, HT.out]
        have hg1 := (hb1.block _ s0).trans hg
        have h11 := (hb1.block _ s1).trans h1
        have b1 := bthen hb0 hb1 hb0.size
        clear hb1 hb0 hr0 hg h1 g0 g1 gf0 gf1 hW s0 s1 hrb
        obtain ⟨⟨g0, g1⟩, gf0, gf1⟩ := two_cells hg1
        obtain ⟨⟨r0, r1⟩, rf0, rf1⟩ := two_cells h11
        go_wp2_with fail
        refine (HK.out w1 b1).mono ?_
        rintro e w2 ⟨ah, ch, av, cv, ai, ci, rfl, _, _, _, hb2⟩
        have h12 := (hb2.block _ (lt_of_block h11)).trans h11
        have b2 := bthen b1 hb2 b1.size
        have hlt := lt_of_block h12
        clear hb2 hg1 h11 g0 g1 gf0 gf1 r0 r1 rf0 rf1 b1
        obtain ⟨⟨r0, r1⟩, rf0, rf1⟩ := two_cells h12
        go_wp2_with fail
        refine bodyPost_ret (v := .tuple #[.agg #[.int .i64 0, .slice none 0 0], .slice none 0 0, .slice none 0 0, .int .i64 5]) (by simp [results, Try.results33, go_sem, r0, r1, hlt]) rfl ⟨none, 0, none, 0, none, 0, rfl, Or.inl rfl, Or.inl rfl, Or.inl rfl, ?_⟩
        first
          | exact ((b2.setCell (by show _ ≤ w.heap.size + 1; omega) _).setCell (by show _ ≤ w.heap.size + 1; omega) _).alloc (by have := b2.size; simp; omega) _
          | exact ((b2.alloc (by have := b2.size; omega) _).setCell (by show _ ≤ w.heap.size + 1; omega) _).setCell (by show _ ≤ w.heap.size + 1; omega) _
      · exact absurd (by simp [indE, hC, hQ, hH]) hE
    · rw [show indE N l q = 4 by simp [indE, hC, hQ]]
      have hQ' : ((q.length : Int) == N) = false := beq_eq_false_iff_ne.2 hQ
      clear hE hC hQ
      go_enter Try.func33, Try.ntmps33
      go_wp2_with fail
      refine (rcheck_any N a l cap _ hl hr0).mono ?_
      rintro e w1 ⟨rfl, hb1⟩
      rw [HC.out, HT.out]
      have hg1 := (hb1.block _ s0).trans hg
      have h11 := (hb1.block _ s1).trans h1
      have b1 := bthen hb0 hb1 hb0.size
      clear hb1 hb0 hr0 hg h1 g0 g1 gf0 gf1 hW s0 s1 hrb
      obtain ⟨⟨g0, g1⟩, gf0, gf1⟩ := two_cells hg1
      obtain ⟨⟨r0, r1⟩, rf0, rf1⟩ := two_cells h11
      go_wp2_with fail
      exact bodyPost_ret (v := .tuple #[.agg #[.int .i64 0, .slice none 0 0], .slice none 0 0, .slice none 0 0, .int .i64 4]) (by simp [results, Try.results33, go_sem, r0, r1]) rfl ⟨none, 0, none, 0, none, 0, rfl, Or.inl rfl, Or.inl rfl, Or.inl rfl, (b1.setCell (by show _ ≤ w.heap.size + 1; omega) _).setCell (by show _ ≤ w.heap.size + 1; omega) _⟩
  · rw [show indE N l q = chkE N l by simp [indE, hC]]
    obtain ⟨E, HE⟩ := named (chkE N l)
    rw [HE.out] at hC ⊢
    have hC' : (E == 0) = false := beq_eq_false_iff_ne.2 hC
    clear hE hC
    go_enter Try.func33, Try.ntmps33
    go_wp2_with fail
    refine (rcheck_any N a l cap _ hl hr0).mono ?_
    rintro e w1 ⟨rfl, hb1⟩
    rw [HE.out, HT.out]
    have h11 := (hb1.block _ s1).trans h1
    have b1 := bthen hb0 hb1 hb0.size
    clear hb1 hb0 hr0 hg h1 g0 g1 gf0 gf1 hW s0 s1 hrb
    obtain ⟨⟨r0, r1⟩, rf0, rf1⟩ := two_cells h11
    go_wp2_with fail
    exact bodyPost_ret (v := .tuple #[.agg #[.int .i64 0, .slice none 0 0], .slice none 0 0, .slice none 0 0, .int .i64 E]) (by simp [results, Try.results33, go_sem, r0, r1]) rfl ⟨none, 0, none, 0, none, 0, rfl, Or.inl rfl, Or.inl rfl, Or.inl rfl, (b1.setCell (by show _ ≤ w.heap.size + 1; omega) _).setCell (by show _ ≤ w.heap.size + 1; omega) _⟩
set_option maxHeartbeats 1600000 in
theorem rinduced_ok (n : Nat) (a : Option Addr) (l : List A) (cap : Nat) (a' : Option Addr) (q : List Bool) (cap' : Nat) (w : World) (hC : chkE n l = 0) (hQ : q.length = n) (hH : hits (mk q) n ≠ []) (hr : Arcs w a l) (hr' : Bools (· < w.heap.size) w a' q) :
    Calls Try.prog 33 #[.agg #[.int .i64 n, .slice a l.length cap], .slice a' n cap'] w fun e w' => RInd w w' e ((hits (mk q) n).length : Nat) (indA (mk q) l) (hits (mk q) n) (indI (mk q) l) 0 := by
  have hb0 : Below w.heap.size w ((w.alloc (.cells #[.int .i64 n, .slice a l.length cap] 24)).alloc (.cells #[.int .i64 0, .slice none 0 0] 24)) := ((Below.refl _ _).alloc (Nat.le_refl _) _).alloc (by simp) _
  have hg : ((w.alloc (.cells #[.int .i64 n, .slice a l.length cap] 24)).alloc (.cells #[.int .i64 0, .slice none 0 0] 24)).heap[w.heap.size]? = some (.cells #[.int .i64 n, .slice a l.length cap] 24) := (Below.heap_alloc _ _ _ (by simp)).trans (heap_top w _)
  have h1 := heap_top (w.alloc (.cells #[.int .i64 n, .slice a l.length cap] 24)) (.cells #[.int .i64 0, .slice none 0 0] 24)
  rw [show (w.alloc (.cells #[.int .i64 n, .slice a l.length cap] 24)).heap.size = w.heap.size + 1 by simp] at h1
  generalize hW : (w.alloc (.cells #[.int .i64 n, .slice a l.length cap] 24)).alloc (.cells #[.int .i64 0, .slice none 0 0] 24) = W at *
  obtain ⟨⟨g0, g1⟩, gf0, gf1⟩ := two_cells hg
  obtain ⟨T, HT⟩ := named (chkAt n l)
  have hr0 := hr.on hb0
  have s0 := lt_of_block hg
  have s1 := lt_of_block h1
  have HC := Lib.hid hC
  obtain ⟨n1, n2, n3, n4⟩ := chk_zero hC
  have hl : l.length ≤ 9223372036854775807 := by omega
  have HK := Lib.hid (fun w2 (hb : Below w.heap.size w w2) => rkept_any n a l cap a' q cap' w2 (by omega) n3 hQ n4 (hr.on hb) (hr'.imp (fun b h => Nat.lt_of_lt_of_le h hb.size) (fun b h => hb.block b h)))
  have hvn : ((hits (mk q) n).length : Int) ≠ 0 := by
    intro e
    exact hH (List.eq_nil_of_length_eq_zero (by omega))
  obtain ⟨vs, HV⟩ := named (hits (mk q) n)
  obtain ⟨Z, HZ⟩ := named (indA (mk q) l)
  obtain ⟨is, HI⟩ := named (indI (mk q) l)
  rw [HZ.out, HI.out, HV.out] at HK ⊢
  rw [HV.out] at hvn
  have hv' : ((vs.length : Int) == 0) = false := beq_eq_false_iff_ne.2 hvn
  clear hC n4 hH hvn
  go_enter Try.func33, Try.ntmps33
  go_wp2_with fail
  refine (rcheck_any n a l cap _ hl hr0).mono ?_
  rintro e w1 ⟨rfl, hb1⟩
  rw [HC.out, HT.out]
  have hg1 := (hb1.block _ s0).trans hg
  have h11 := (hb1.block _ s1).trans h1
  have b1 := bthen hb0 hb1 hb0.size
  clear hb1 hb0 hr0 hg h1 g0 g1 gf0 gf1 hW s0 s1
  obtain ⟨⟨g0, g1⟩, gf0, gf1⟩ := two_cells hg1
  obtain ⟨⟨r0, r1⟩, rf0, rf1⟩ := two_cells h11
  go_wp2_with fail
  refine (HK.out w1 b1).mono ?_
  rintro e w2 ⟨ah, ch, av, cv, ai, ci, rfl, ra, rv, ri, hb2⟩
  have s11 := lt_of_block h11
  have h12 := (hb2.block _ (lt_of_block h11)).trans h11
  have b2 := bthen b1 hb2 b1.size
  have hlt := lt_of_block h12
  clear hb2 hg1 h11 g0 g1 gf0 gf1 r0 r1 rf0 rf1 b1
  obtain ⟨⟨r0, r1⟩, rf0, rf1⟩ := two_cells h12
  go_wp2_with fail
  have q1 : (⟨w.heap.size + 1, 0, none⟩ : Addr).block < w1.heap.size := s11
  have q2 : (⟨w.heap.size + 1, 1, none⟩ : Addr).block < w1.heap.size := s11
  refine bodyPost_ret (v := .tuple #[.agg #[.int .i64 (vs.length : Int), .slice ah Z.length ch], .slice av vs.length cv, .slice ai is.length ci, .int .i64 0]) (by simp [results, Try.results33, go_sem, r0, r1, hlt]) rfl ⟨ah, ch, av, cv, ai, ci, rfl, ?_, ?_, ?_, ?_⟩
  · exact OwnA.arcs (B := w1.heap.size) (World.ownsRow.alloc (ownsRow_setCell_below (ownsRow_setCell_below ra q1 _) q2 _) _)
  · exact ints_own (World.ownsRow.alloc (ownsRow_setCell_below (ownsRow_setCell_below rv q1 _) q2 _) _)
  · exact ints_own (World.ownsRow.alloc (ownsRow_setCell_below (ownsRow_setCell_below ri q1 _) q2 _) _)
  · exact ((b2.setCell (by show _ ≤ w.heap.size + 1; omega) _).setCell (by show _ ≤ w.heap.size + 1; omega) _).alloc (by have := b2.size; simp; omega) _
end Go.Proofs.Ytkhgnefnmibomaa
