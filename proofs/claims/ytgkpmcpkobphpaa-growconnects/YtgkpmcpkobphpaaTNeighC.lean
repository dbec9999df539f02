/-
  Contract of graph.Neighbours.
-/
import Derived.Test.YtgkpmcpkobphpaaTNeigh
namespace Go.Proofs.Ytgkpmcpkobphpaa.T3
open Go.RowKit
set_option maxRecDepth 100000 in
set_option maxHeartbeats 800000 in
theorem around40 (N v : Int) (a : Option Addr) (l : List A) (cap : Nat) (w : World) (hl : l.length ≤ 9223372036854775807) (hr : Arcs w a l) :
    Calls Try.prog 49 #[.agg #[.int .i64 N, .slice a l.length cap], .int .i64 v, .func (.func 50) #[] #[]] w fun e w' => Made w w' e (outL N l v (nbs N.toNat l v.toNat)) (outE N l v) := by
  have hb0 : Below w.heap.size w (w.alloc (.cells #[.int .i64 N, .slice a l.length cap] 24)) := (Below.refl _ _).alloc (Nat.le_refl _) _
  have hr0 := hr.on hb0
  obtain ⟨T, HT⟩ := named (chkAt N l)
  by_cases hE : chkE N l = 0
  · by_cases hv : okV N v = true
    · rw [show outE N l v = 0 by simp [outE, hE, hv], show outL N l v (nbs N.toNat l v.toNat) = nbs N.toNat l v.toNat by simp [outL, outE, hE, hv]]
      obtain ⟨hN1, hN2, hlen, hall⟩ := chk_zero hE
      obtain ⟨hv0, hv1⟩ := okV_t hv
      obtain ⟨n, rfl⟩ : ∃ n : Nat, N = n := ⟨N.toNat, by omega⟩
      obtain ⟨u, rfl⟩ : ∃ u : Nat, v = u := ⟨v.toNat, by omega⟩
      rw [Int.toNat_natCast, Int.toNat_natCast]
      have hn2 : n ≤ 1024 := by omega
      have hun : u < n := by omega
      have HH := Lib.hid (fun m w' (h : ArcsB m w' a l) (k : Filled w' m []) => neighbours_any m n u a l cap w' hn2 hun hlen hall h k)
      clear hall
      generalize nbs n l u = xs at *
      go_enter Try.func49, Try.ntmps49
      go_wp2_with fail
      refine (check_any n a l cap _ hl hr0).mono ?_
      rintro e w1 ⟨rfl, hb1⟩
      rw [hE, HT.out]
      have hg1 := (hb1.block _ (by simp)).trans (heap_top w _)
      have b1 := bthen hb0 hb1 (by simp)
      have s1 := lt_of_block hg1
      clear hb1 hb0
      obtain ⟨⟨g0, g1⟩, gf0, gf1⟩ := two_cells hg1
      go_wp2_with fail
      refine (vert_any n u _ _ _ _).mono ?_
      rintro e w2 ⟨rfl, hb2⟩
      rw [hv]
      have hg2 := (hb2.block _ s1).trans hg1
      have b2 := bthen b1 hb2 (by omega)
      have s2 := lt_of_block hg2
      clear hb2 hg1 g0 g1 gf0 gf1 b1
      obtain ⟨⟨g0, g1⟩, gf0, gf1⟩ := two_cells hg2
      have hf3 := filled_new w2
      have hr3 : ArcsB w2.heap.size (w2.alloc (.cells #[.slice none 0 0] 74)) a l := ((hr.b.on b2).up (by omega)).on ((Below.refl _ _).alloc (Nat.le_refl _) _)
      go_wp2_with (go_at_call 50; refine (HH.out w2.heap.size _ hr3 hf3).mono ?_; rintro e w3 ⟨rfl, hf4, hk4⟩; obtain ⟨v4, hm4, hown4⟩ := hf4; have c4 := cell_of_one hm4)
      obtain ⟨a4, q4, rfl⟩ := own_slice hown4
      go_ret2
      refine ⟨a4, q4, rfl, own_base hown4 (by omega), ?_⟩
      exact (b2.alloc (by omega) _).trans (hk4.mono (by omega))
    · have hv' : okV N v = false := by simpa using hv
      rw [show outE N l v = 5 by simp [outE, hE, hv'], show outL N l v (nbs N.toNat l v.toNat) = [] by simp [outL, outE, hE, hv']]
      clear hv
      go_enter Try.func49, Try.ntmps49
      go_wp2_with fail
      refine (check_any N a l cap _ hl hr0).mono ?_
      rintro e w1 ⟨rfl, hb1⟩
      rw [hE, HT.out]
      have hg1 := (hb1.block _ (by simp)).trans (heap_top w _)
      have b1 := bthen hb0 hb1 (by simp)
      have s1 := lt_of_block hg1
      clear hb1 hb0
      obtain ⟨⟨g0, g1⟩, gf0, gf1⟩ := two_cells hg1
      go_wp2_with fail
      refine (vert_any N v _ _ _ _).mono ?_
      rintro e w2 ⟨rfl, hb2⟩
      rw [hv']
      have b2 := bthen b1 hb2 (by omega)
      go_wp2_with fail
      go_ret2
      exact made_nil b2
  · rw [show outE N l v = chkE N l by simp [outE, hE], show outL N l v (nbs N.toNat l v.toNat) = [] by simp [outL, outE, hE]]
    obtain ⟨E, HE⟩ := named (chkE N l)
    rw [HE.out] at hE ⊢
    have hE' : (E == 0) = false := beq_eq_false_iff_ne.2 hE
    clear hE
    go_enter Try.func49, Try.ntmps49
    go_wp2_with fail
    refine (check_any N a l cap _ hl hr0).mono ?_
    rintro e w1 ⟨rfl, hb1⟩
    rw [HE.out, HT.out]
    have b1 := bthen hb0 hb1 (by simp)
    go_wp2_with fail
    go_ret2
    exact made_nil b1
set_option maxRecDepth 100000 in
set_option maxHeartbeats 400000 in
theorem neigh_any (N v : Int) (a : Option Addr) (l : List A) (cap : Nat) (w : World) (hl : l.length ≤ 9223372036854775807) (hr : Arcs w a l) :
    Calls Try.prog 27 #[.agg #[.int .i64 N, .slice a l.length cap], .int .i64 v] w fun e w' => Made w w' e (outL N l v (nbs N.toNat l v.toNat)) (outE N l v) := by
  have hr0 := hr.on ((Below.refl _ _).alloc (Nat.le_refl _) (.cells #[.int .i64 N, .slice a l.length cap] 24))
  have HX := Lib.hid (around40 N v a l cap _ hl hr0)
  obtain ⟨xs, HXS⟩ := named (outL N l v (nbs N.toNat l v.toNat))
  obtain ⟨E, HE⟩ := named (outE N l v)
  rw [HXS.out, HE.out] at HX ⊢
  go_enter Try.func27, Try.ntmps27
  go_wp2_with fail
  refine HX.out.mono ?_
  rintro e w1 h1
  obtain ⟨a1, q1, rfl, hown1, hb1⟩ := made_up h1
  go_wp2_with fail
  go_ret2
  exact ⟨a1, q1, rfl, hown1, hb1⟩
end Go.Proofs.Ytgkpmcpkobphpaa.T3
