/-
  The law GraphTurns: turned about twice a graph is what it was; its parts are those of its reverse.
-/
import Derived.Test.YtkhgnefnmibomaaSame
namespace Go.Proofs.Ytkhgnefnmibomaa
open Go.RowKit
theorem turned_twice (l : List A) : turned (turned l) = l := by
  unfold turned
  rw [List.map_map]
  exact List.map_id'' (fun x => rfl) l
theorem okA_turn (N : Int) (x : A) : okA N x.turn = okA N x := by unfold okA A.turn; exact Bool.and_comm _ _
theorem chk_turned (N : Int) (l : List A) : chkE N (turned l) = chkE N l := by
  have : (turned l).all (okA N) = l.all (okA N) := by
    unfold turned
    rw [List.all_map]
    congr 1
    funext x
    exact okA_turn N x
  unfold chkE
  rw [turned_len, this]
theorem foldl_turned : ∀ (l : List A) (R : Nat → Nat), (turned l).foldl (fun R x => mg R x.f.toNat x.t.toNat) R = l.foldl (fun R x => mg R x.f.toNat x.t.toNat) R
  | [], _ => rfl
  | x :: r, R => by
    show (turned r).foldl _ (mg R x.t.toNat x.f.toNat) = r.foldl _ (mg R x.f.toNat x.t.toNat)
    rw [mg_comm]
    exact foldl_turned r _
theorem lead_turned (l : List A) : lead (turned l) = lead l := foldl_turned l id
theorem parts_turned (N : Int) (l : List A) : partsL N (turned l) = partsL N l := by unfold partsL; rw [chk_turned, lead_turned]
set_option maxHeartbeats 1600000 in
theorem law_turns (N : Int) (a : Option Addr) (l : List A) (cap : Nat) (w : World) (hlen : l.length * 24 ≤ 140737488351232) (hn : a = none → l = [] ∧ cap = 0) (hr : Arcs w a l) :
    Calls Try.prog 7 #[.agg #[.int .i64 N, .slice a l.length cap]] w fun e w' => e = .returned (.bool true) ∧ Below w.heap.size w w' := by
  have hl : l.length ≤ 9223372036854775807 := by omega
  have hb0 : Below w.heap.size w (w.alloc (.cells #[.int .i64 N, .slice a l.length cap] 24)) := (Below.refl _ _).alloc (Nat.le_refl _) _
  have HN := Lib.hid hn
  clear hn
  by_cases hE : chkE N l = 0
  · have HE := Lib.hid hE
    clear hE
    go_enter Try.func7, Try.ntmps7
    go_wp2_with fail
    refine (works_any _).mono ?_
    rintro e w1 ⟨rfl, hb1⟩
    have hg1 := (hb1.block _ (by simp)).trans (heap_top w _)
    have b1 := bthen hb0 hb1 (by simp)
    have s1 := lt_of_block hg1
    have hr1 := hr.on b1
    clear hb1 hb0
    obtain ⟨⟨g0, g1⟩, gf0, gf1⟩ := two_cells hg1
    go_wp2_with fail
    refine (reverse_any N a l cap _ hlen HN.out hr1).mono ?_
    rintro e w2 ⟨a2, c2, rfl, hown2, hn2, hb2⟩
    rw [if_pos HE.out] at hown2 hn2 ⊢
    rw [if_pos HE.out, HE.out]
    rw [turned_len] at *
    have HN2 := Lib.hid hn2
    have hr2 := hown2.arcs
    have hg2 := (hb2.block _ s1).trans hg1
    have b2 := bthen b1 hb2 (by omega)
    have s2 := lt_of_block hg2
    clear hb2 hg1 g0 g1 gf0 gf1 hr1 b1 hown2 hn2
    have hb3 := (Below.refl w2.heap.size w2).alloc (Nat.le_refl _) (.cells #[.int .i64 N, .slice a2 l.length c2] 24)
    have hg3 := (hb3.block _ s2).trans hg2
    have hk3 := heap_top w2 (.cells #[.int .i64 N, .slice a2 l.length c2] 24)
    have hr3 := hr2.on hb3
    have b3 := bthen b2 hb3 (by omega)
    clear hb3 hr2
    obtain ⟨⟨g0, g1⟩, gf0, gf1⟩ := two_cells hg2
    go_wp2_with fail
    have hq := reverse_any N a2 (turned l) c2 (w2.alloc (.cells #[.int .i64 N, .slice a2 l.length c2] 24)) (by rw [turned_len]; exact hlen) HN2.out hr3
    rw [chk_turned, turned_twice, turned_len] at hq
    rw [if_pos HE.out, if_pos HE.out, HE.out] at hq
    refine hq.mono ?_
    clear hq
    rintro e w4 ⟨a4, c4, rfl, hown4, hn4, hb4⟩
    have hr4 := hown4.arcs
    have hg4 := (hb4.block _ (lt_of_block hg3)).trans hg3
    have hk4 := (hb4.block _ (lt_of_block hk3)).trans hk3
    have b4 := bthen b3 hb4 (by have := lt_of_block hg3; omega)
    have hr4' := hr3.on hb4
    have s4 := lt_of_block hg4
    have s4' := lt_of_block hk4
    clear hb4 hg3 hk3 g0 g1 gf0 gf1 hr3 b3 hown4 hn4 hg2
    have hb5 := (Below.refl w4.heap.size w4).alloc (Nat.le_refl _) (.cells #[.int .i64 N, .slice a4 l.length c4] 24)
    have hg5 := (hb5.block _ s4).trans hg4
    have hk5 := (hb5.block _ s4').trans hk4
    have hm5 := heap_top w4 (.cells #[.int .i64 N, .slice a4 l.length c4] 24)
    have hr5 := hr4.on hb5
    have hr5' := hr4'.on hb5
    have b5 := bthen b4 hb5 (by omega)
    have ho5 := hr.on b5
    clear hb5 hr4 hr4' b4
    obtain ⟨⟨g0, g1⟩, gf0, gf1⟩ := two_cells hg4
    obtain ⟨⟨k0, k1⟩, kf0, kf1⟩ := two_cells hk4
    go_wp2_with fail
    refine (parts_any N a l cap _ hl ho5).mono ?_
    rintro e w6 ⟨a6, c6, rfl, hown6, hb6⟩
    rw [HE.out]
    have hi6 := ints_own hown6
    have hg6 := (hb6.block _ (lt_of_block hg5)).trans hg5
    have hk6 := (hb6.block _ (lt_of_block hk5)).trans hk5
    have hm6 := (hb6.block _ (lt_of_block hm5)).trans hm5
    have hr6 := hr5.on hb6
    have hr6' := hr5'.on hb6
    have b6 := bthen b5 hb6 (by have := lt_of_block hg5; omega)
    have ho6 := hr.on b6
    clear hb6 hg5 hk5 hm5 hr5 hr5' b5 hown6 g0 g1 gf0 gf1 k0 k1 kf0 kf1 ho5 hg4 hk4
    obtain ⟨⟨g0, g1⟩, gf0, gf1⟩ := two_cells hg6
    obtain ⟨⟨k0, k1⟩, kf0, kf1⟩ := two_cells hk6
    go_wp2_with fail
    have hq := parts_any N a2 (turned l) c2 w6 (by rw [turned_len]; exact hl) hr6'
    rw [chk_turned, parts_turned, turned_len, HE.out] at hq
    refine hq.mono ?_
    clear hq
    rintro e w7 ⟨a7, c7, rfl, hown7, hb7⟩
    have hi7 := ints_own hown7
    have hi7' := hi6.on hb7
    have hg7 := (hb7.block _ (lt_of_block hg6)).trans hg6
    have hm7 := (hb7.block _ (lt_of_block hm6)).trans hm6
    have hr7 := hr6.on hb7
    have b7 := bthen b6 hb7 (by have := lt_of_block hg6; omega)
    have ho7 := hr.on b7
    have hpl : (partsL N l).length ≤ 9223372036854775807 := by
      have := (chk_zero HE.out).2.1
      unfold partsL
      rw [if_pos HE.out, ints_len, labs_len]; omega
    clear hb7 hg6 hk6 hm6 hr6 hr6' b6 hown7 g0 g1 gf0 gf1 k0 k1 kf0 kf1 ho6 hi6
    obtain ⟨⟨g0, g1⟩, gf0, gf1⟩ := two_cells hg7
    obtain ⟨⟨m0, m1⟩, mf0, mf1⟩ := two_cells hm7
    generalize partsL N l = xs at *
    go_wp2_with fail
    refine (sameGraph_any N a4 a c4 cap l w7 hl hr7 ho7).mono ?_
    rintro e w8 ⟨rfl, hb8⟩
    have hi8 := hi7.on hb8
    have hi8' := hi7'.on hb8
    have b8 := bthen b7 hb8 (by have := lt_of_block hg7; omega)
    have s8 := b8.size
    clear hb8 hi7 hi7' b7
    go_wp2_with fail
    refine (sameInts_any a6 a7 c6 c7 xs w8 hpl hi8' hi8).mono ?_
    rintro e w9 ⟨rfl, hb9⟩
    have b9 := bthen b8 hb9 s8
    go_wp2_with fail
    go_ret
    exact ⟨rfl, b9⟩
  · obtain ⟨E, HE⟩ := named (chkE N l)
    have hE0 := hE
    rw [HE.out] at hE
    have hE' : (E == 0) = false := beq_eq_false_iff_ne.2 hE
    have HE0 := Lib.hid hE0
    clear hE0
    go_enter Try.func7, Try.ntmps7
    go_wp2_with fail
    refine (works_any _).mono ?_
    rintro e w1 ⟨rfl, hb1⟩
    have hg1 := (hb1.block _ (by simp)).trans (heap_top w _)
    have b1 := bthen hb0 hb1 (by simp)
    have s1 := lt_of_block hg1
    have hr1 := hr.on b1
    clear hb1 hb0
    obtain ⟨⟨g0, g1⟩, gf0, gf1⟩ := two_cells hg1
    go_wp2_with fail
    refine (reverse_any N a l cap _ hlen HN.out hr1).mono ?_
    rintro e w2 ⟨a2, c2, rfl, hown2, hn2, hb2⟩
    rw [if_neg HE0.out] at hown2 hn2 ⊢
    rw [if_neg HE0.out, HE.out]
    have b2 := bthen b1 hb2 (by omega)
    have s2 := b2.size
    clear hb2 hg1 g0 g1 gf0 gf1 hr1 b1 hown2 hn2
    have b3 := b2.alloc s2 (.cells #[.int .i64 0, .slice a2 0 c2] 24)
    go_wp2_with fail
    go_ret
    exact ⟨rfl, b3⟩
end Go.Proofs.Ytkhgnefnmibomaa
