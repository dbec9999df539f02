/-
  Contracts of the reference's All and Neighbours.
-/
import Derived.Test.YtkhgnefnmibomaaNeigh
import Derived.Test.YtkhgnefnmibomaaREnds
namespace Go.Proofs.Ytkhgnefnmibomaa
open Go.RowKit
set_option maxHeartbeats 1600000 in
theorem rall_any (a : Option Addr) (q : List Bool) (n cap : Nat) (w : World) (hn : q.length = n) (hl : n ≤ 8192) (hr : Bools (· < w.heap.size) w a q) :
    Calls Try.prog 41 #[.slice a n cap] w fun e w' => Told w w' e (hits (mk q) n) := by
  obtain ⟨i0, hi, hz0, hz1, hz2⟩ := info_parts info3
  obtain ⟨b, o, hab⟩ := hr.get
  rw [hn] at hab
  go_enter Try.func41, Try.ntmps41
  go_wp2_with fail
  go_loopw [3, 4] (fun r i wr => ∃ k : Nat, k ≤ n ∧ i = .int .i64 k ∧ wr.ownsRow w.heap.size 3 1 r (hits (mk q) k).length (cellsI (hits (mk q) k)) ∧ Below w.heap.size w wr) (fun _ i _ => n - (intOf i).toNat)
  case atStart => exact ⟨0, Nat.zero_le _, rfl, World.ownsRow_nil _ _ _ _, Below.refl _ _⟩
  case round =>
    obtain ⟨k, hk, rfl, hown, hb⟩ := hrel
    have hsz := hb.size
    by_cases hlt : k < n
    · obtain ⟨rfl, hbl, hat⟩ := hab (by omega)
      have c0 := (hb.cell (p := ⟨b, o + k, none⟩) hbl).trans (hat k hlt)
      have HL := hits_len (mk q) k
      by_cases hv : q.getD k false = true
      · rw [hv] at c0
        have HT : Hid (cellsI (hits (mk q) k) ++ [.int .i64 (k : Int)] = cellsI (hits (mk q) (k + 1))) := by show _ = _; rw [hits_t (q := mk q) hv, cellsI_snoc]
        have HTl : Hid ((hits (mk q) k).length + 1 = (hits (mk q) (k + 1)).length) := by show _ = _; rw [hits_t (q := mk q) hv]; simp
        clear hv
        obtain ⟨av, cv, hv⟩ := own_slice hown
        subst hv
        generalize hits (mk q) k = xs at *
        go_wp2_with (at_builtin; refine wpList_append_own _ rfl (.tmp 15) (.tmp 17) 29 rfl w.heap.size 3 i0 (.int .i64 0) 1 8 Try.underlying29 hi hz0 hz1 hz2 rfl (by decide) (.slice av xs.length cv) xs.length (cellsI xs) rfl (hown.alloc _) ⟨wr.heap.size, 0, none⟩ 1 1 [.int .i64 (k : Int)] rfl rfl (one_new wr (k : Int)) (one_i64 _) (by unfold maxLen; omega) (by omega) (by simp; omega) ?_; intro v6 w6 hown6 hgrow6 hnil6)
        rw [HT.out, HTl.out] at hown6
        have hb6 : Below w.heap.size w w6 := (hb.alloc (by omega) _).grown hgrow6 (by simp; omega) (by intro k hk; have := (hown.lt k hk).1; omega)
        exact ⟨⟨k + 1, by omega, by go_num, hown6, hb6⟩, by simp [intOf]; omega⟩
      · have hv' : q.getD k false = false := by simpa using hv
        rw [hv'] at c0
        have HT : Hid (hits (mk q) (k + 1) = hits (mk q) k) := hits_f (q := mk q) hv'
        clear hv hv'
        go_wp2_with fail
        exact ⟨⟨k + 1, by omega, by go_num, by rw [HT.out]; exact hown, hb⟩, by simp [intOf]; omega⟩
    · have hkl : k = n := by omega
      rw [hkl] at hown
      clear hkl
      obtain ⟨av, cv, hv⟩ := own_slice hown
      subst hv
      go_wp2_with fail
      go_ret
      exact ⟨av, cv, rfl, hown, hb⟩
set_option maxHeartbeats 800000 in
theorem rneigh_any (N v : Int) (a : Option Addr) (l : List A) (cap : Nat) (w : World) (hl : l.length ≤ 9223372036854775807) (hr : Arcs w a l) :
    Calls Try.prog 18 #[.agg #[.int .i64 N, .slice a l.length cap], .int .i64 v] w fun e w' => Made w w' e (outL N l v (nbs N.toNat l v.toNat)) (outE N l v) := by
  have hb0 : Below w.heap.size w (w.alloc (.cells #[.int .i64 N, .slice a l.length cap] 24)) := (Below.refl _ _).alloc (Nat.le_refl _) _
  have hr0 := hr.on hb0
  obtain ⟨T, HT⟩ := named (chkAt N l)
  by_cases hE : chkE N l = 0
  · by_cases hv : okV N v = true
    · rw [show outE N l v = 0 by simp [outE, hE, hv], show outL N l v (nbs N.toNat l v.toNat) = nbs N.toNat l v.toNat by simp [outL, outE, hE, hv]]
      obtain ⟨hN1, hN2, hlen, hall⟩ := chk_zero hE
      obtain ⟨hv0, hv1⟩ := okV_t hv
      obtain ⟨n, rfl⟩ : ∃ n : Nat, N = n := ⟨N.toNat, by omega⟩
      obtain ⟨u, rfl⟩ : ∃ u : Nat, v = u := ⟨v.toNat, by omega⟩
      rw [Int.toNat_natCast, Int.toNat_natCast]
      have hn2 : n ≤ 1024 := by omega
      have hun : u < n := by omega
      have HNE := Lib.hid (fun w' (h : Arcs w' a l) => near_any n u a l cap w' hn2 hun hlen hall h)
      have HXS : Hid (nbs n l u = hits (mk (nbM u n l)) n) := rfl
      have HML := Lib.hid (nbM_len u n l)
      generalize nbs n l u = xs at *
      generalize nbM u n l = M at *
      clear hv hall
      go_enter Try.func18, Try.ntmps18
      go_wp2_with fail
      refine (rcheck_any n a l cap _ hl hr0).mono ?_
      rintro e w1 ⟨rfl, hb1⟩
      rw [hE, HT.out]
      have hg1 := (hb1.block _ (by simp)).trans (heap_top w _)
      have b1 := bthen hb0 hb1 (by simp)
      have s1 := lt_of_block hg1
      clear hb1 hb0
      obtain ⟨⟨g0, g1⟩, gf0, gf1⟩ := two_cells hg1
      go_wp2_with fail
      refine (HNE.out _ (hr.on b1)).mono ?_
      rintro e w2 ⟨g, rfl, hown2, hg2, hb2⟩
      have b2 := bthen b1 hb2 (by omega)
      have s2 := hb2.size
      clear hb2 hg1 g0 g1 gf0 gf1 b1
      go_wp2_with fail
      refine (rall_any _ M n n w2 HML.out (by omega) (hown2.bools HML.out)).mono ?_
      rw [← HXS.out]
      rintro e w3 ⟨a3, c3, rfl, hown3, hb3⟩
      go_wp2_with fail
      go_ret2
      exact ⟨a3, c3, rfl, own_base hown3 (by omega), bthen b2 hb3 (by omega)⟩
    · have hv' : okV N v = false := by simpa using hv
      rw [show outE N l v = 5 by simp [outE, hE, hv'], show outL N l v (nbs N.toNat l v.toNat) = [] by simp [outL, outE, hE, hv']]
      clear hv
      by_cases q1 : v < 0
      · clear hv'
        go_enter Try.func18, Try.ntmps18
        go_wp2_with fail
        refine (rcheck_any N a l cap _ hl hr0).mono ?_
        rintro e w1 ⟨rfl, hb1⟩
        rw [hE, HT.out]
        have hg1 := (hb1.block _ (by simp)).trans (heap_top w _)
        have b1 := bthen hb0 hb1 (by simp)
        clear hb1 hb0
        obtain ⟨⟨g0, g1⟩, gf0, gf1⟩ := two_cells hg1
        go_wp2_with fail
        go_ret2
        exact made_nil b1
      · have q2 : ¬ v < N := by
          intro h
          simp [okV, h] at hv'
          omega
        clear hv'
        go_enter Try.func18, Try.ntmps18
        go_wp2_with fail
        refine (rcheck_any N a l cap _ hl hr0).mono ?_
        rintro e w1 ⟨rfl, hb1⟩
        rw [hE, HT.out]
        have hg1 := (hb1.block _ (by simp)).trans (heap_top w _)
        have b1 := bthen hb0 hb1 (by simp)
        clear hb1 hb0
        obtain ⟨⟨g0, g1⟩, gf0, gf1⟩ := two_cells hg1
        go_wp2_with fail
        go_ret2
        exact made_nil b1
  · rw [show outE N l v = chkE N l by simp [outE, hE], show outL N l v (nbs N.toNat l v.toNat) = [] by simp [outL, outE, hE]]
    obtain ⟨E, HE⟩ := named (chkE N l)
    rw [HE.out] at hE ⊢
    have hE' : (E == 0) = false := beq_eq_false_iff_ne.2 hE
    clear hE
    go_enter Try.func18, Try.ntmps18
    go_wp2_with fail
    refine (rcheck_any N a l cap _ hl hr0).mono ?_
    rintro e w1 ⟨rfl, hb1⟩
    rw [HE.out, HT.out]
    have b1 := bthen hb0 hb1 (by simp)
    go_wp2_with fail
    go_ret2
    exact made_nil b1
end Go.Proofs.Ytkhgnefnmibomaa
