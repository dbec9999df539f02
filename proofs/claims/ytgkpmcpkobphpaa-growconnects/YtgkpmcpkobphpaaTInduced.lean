/-
  Contract of graph.Induced.
-/
import Derived.Test.YtgkpmcpkobphpaaTPart
import Derived.Deep.RegionHeld3
namespace Go.Proofs.Ytgkpmcpkobphpaa.T3
open Go.RowKit
theorem own_keep {w w' : World} {base : Nat} {e : TypeId} {size : Nat} {v : Value} {n : Nat} {xs : List Value} (h : w.ownsRow base e size v n xs) (hk : ∀ k, base ≤ k → k < w.heap.size → v.ownBlock = some k → w'.heap[k]? = w.heap[k]?) : w'.ownsRow base e size v n xs := by
  refine ⟨h.1, ?_⟩
  rcases h.2 with h' | ⟨g, c, cur, h1, h2, h3, h4⟩
  · exact Or.inl h'
  · refine Or.inr ⟨g, c, cur, h1, h2, ?_, h4⟩
    rw [hk g h2 (lt_of_block h3) (by rw [h1]; rfl)]
    exact h3
/-- A list of numbers that a call made. -/
def OwnI (w : World) (B : Nat) (a : Option Addr) (c : Nat) (xs : List Int) : Prop := w.ownsRow B 3 1 (.slice a xs.length c) xs.length (cellsI xs)
/-- What Induced tells. -/
def indE (N : Int) (l : List A) (q : List Bool) : Int := if chkE N l = 0 then (if (q.length : Int) = N then (if hits (mk q) q.length = [] then 5 else 0) else 4) else chkE N l
set_option maxRecDepth 100000 in
set_option maxHeartbeats 1600000 in
theorem induced_no (N : Int) (a : Option Addr) (l : List A) (cap : Nat) (a' : Option Addr) (q : List Bool) (cap' : Nat) (w : World) (hl : l.length ≤ 9223372036854775807) (hr : Arcs w a l) (hr' : Bools (· < w.heap.size) w a' q) (hE : indE N l q ≠ 0) :
    Calls Try.prog 25 #[.agg #[.int .i64 N, .slice a l.length cap], .slice a' q.length cap'] w fun e w' => e = .returned (.tuple #[.agg #[.int .i64 0, .slice none 0 0], .slice none 0 0, .slice none 0 0, .int .i64 (indE N l q)]) ∧ Below w.heap.size w w' := by
  have hb0 : Below w.heap.size w ((w.alloc (.cells #[.int .i64 N, .slice a l.length cap] 24)).alloc (.cells #[.int .i64 0, .slice none 0 0] 24)) := ((Below.refl _ _).alloc (Nat.le_refl _) _).alloc (by simp) _
  have hg : ((w.alloc (.cells #[.int .i64 N, .slice a l.length cap] 24)).alloc (.cells #[.int .i64 0, .slice none 0 0] 24)).heap[w.heap.size]? = some (.cells #[.int .i64 N, .slice a l.length cap] 24) := (Below.heap_alloc _ _ _ (by simp)).trans (heap_top w _)
  have h1 := heap_top (w.alloc (.cells #[.int .i64 N, .slice a l.length cap] 24)) (.cells #[.int .i64 0, .slice none 0 0] 24)
  rw [show (w.alloc (.cells #[.int .i64 N, .slice a l.length cap] 24)).heap.size = w.heap.size + 1 by simp] at h1
  generalize hW : (w.alloc (.cells #[.int .i64 N, .slice a l.length cap] 24)).alloc (.cells #[.int .i64 0, .slice none 0 0] 24) = W at *
  obtain ⟨⟨g0, g1⟩, gf0, gf1⟩ := two_cells hg
  obtain ⟨T, HT⟩ := named (chkAt N l)
  have hr0 := hr.on hb0
  unfold indE at hE ⊢
  by_cases hC : chkE N l = 0
  · rw [if_pos hC] at hE ⊢
    have HC := Lib.hid hC
    obtain ⟨hN1, hN2, hlen, hall⟩ := chk_zero hC
    clear hC hall
    by_cases hQ : (q.length : Int) = N
    · rw [if_pos hQ] at hE ⊢
      by_cases hH : hits (mk q) q.length = []
      · rw [if_pos hH]
        have HH := Lib.hid hH
        clear hE hH
        go_enter Try.func25, Try.ntmps25
        go_wp2_with fail
        refine (check_any N a l cap _ hl hr0).mono ?_
        rintro e w1 ⟨rfl, hb1⟩
        rw [HC.out, HT.out]
        have hg1 := (hb1.block _ (lt_of_block hg)).trans hg
        have hh1 := (hb1.block _ (lt_of_block h1)).trans h1
        have b1 := bthen hb0 hb1 (by have := hb0.size; omega)
        have s1 := lt_of_block hh1
        clear hb1 hb0 hr0 hg h1 g0 g1 gf0 gf1 hW
        obtain ⟨⟨g0, g1⟩, gf0, gf1⟩ := two_cells hg1
        have hb2 : Below w1.heap.size w1 ((w1.alloc (.cells #[.slice none 0 0] 74)).alloc (.cells #[.slice none 0 0] 74)) := ((Below.refl _ _).alloc (Nat.le_refl _) _).alloc (by simp) _
        have hm2 : ((w1.alloc (.cells #[.slice none 0 0] 74)).alloc (.cells #[.slice none 0 0] 74)).heap[w1.heap.size]? = some (.cells #[.slice none 0 0] 74 (0, 0)) := (Below.heap_alloc _ _ _ (by simp)).trans (heap_top w1 _)
        have z2 : ((w1.alloc (.cells #[.slice none 0 0] 74)).alloc (.cells #[.slice none 0 0] 74)).heap.size = w1.heap.size + 2 := by simp
        generalize hW2 : (w1.alloc (.cells #[.slice none 0 0] 74)).alloc (.cells #[.slice none 0 0] 74) = W2 at *
        have hfil : FilB W2 w1.heap.size W2.heap.size [] := ⟨_, hm2, World.ownsRow_nil _ _ _ _⟩
        have hq2 : Bools (Safe w1.heap.size W2.heap.size W2) W2 a' q := hr'.imp (fun b h => Or.inl ⟨by omega, by omega⟩) (fun b h => (hb2.block b (by omega)).trans (b1.block b h))
        have hh2 := (hb2.block _ s1).trans hh1
        have b2 := bthen b1 hb2 (by omega)
        go_wp2_with (go_at_call 43; refine (marked_any w1.heap.size W2.heap.size a' q cap' W2 (by omega) (by omega) (Nat.le_refl _) hq2 hfil).mono ?_; rintro e w3 ⟨rfl, hf3, hk3⟩; rw [HH.out] at hf3; obtain ⟨v3, hm3, hown3⟩ := hf3; obtain ⟨a3, c3, hv3⟩ := own_slice hown3; rw [hv3] at hm3; have c3' := cell_of_one hm3; obtain ⟨⟨r0, r1⟩, rf0, rf1⟩ := two_cells ((hk3.block _ (show w.heap.size + 1 < W2.heap.size by omega) (by omega)).trans hh2))
        have b3 := hk3.below b2 (by omega) (by omega)
        refine bodyPost_ret (v := .tuple #[.agg #[.int .i64 0, .slice none 0 0], .slice none 0 0, .slice none 0 0, .int .i64 5]) (by simp [results, Try.results25, go_sem, r0, r1]) rfl ⟨rfl, ?_⟩
        exact (b3.setCell (by show _ ≤ w.heap.size + 1; omega) _).setCell (by show _ ≤ w.heap.size + 1; omega) _
      · rw [if_neg hH] at hE
        exact absurd rfl hE
    · rw [if_neg hQ]
      have hQ' : ((q.length : Int) == N) = false := beq_eq_false_iff_ne.2 hQ
      clear hE
      go_enter Try.func25, Try.ntmps25
      go_wp2_with fail
      refine (check_any N a l cap _ hl hr0).mono ?_
      rintro e w1 ⟨rfl, hb1⟩
      rw [HC.out, HT.out]
      have hg1 := (hb1.block _ (lt_of_block hg)).trans hg
      have hh1 := (hb1.block _ (lt_of_block h1)).trans h1
      have b1 := bthen hb0 hb1 (by have := hb0.size; omega)
      clear hb1 hb0 hr0 hg h1 g0 g1 gf0 gf1 hW
      obtain ⟨⟨g0, g1⟩, gf0, gf1⟩ := two_cells hg1
      obtain ⟨⟨r0, r1⟩, rf0, rf1⟩ := two_cells hh1
      go_wp2_with fail
      refine bodyPost_ret (v := .tuple #[.agg #[.int .i64 0, .slice none 0 0], .slice none 0 0, .slice none 0 0, .int .i64 4]) (by simp [results, Try.results25, go_sem, r0, r1]) rfl ⟨rfl, ?_⟩
      exact (b1.setCell (by show _ ≤ w.heap.size + 1; omega) _).setCell (by show _ ≤ w.heap.size + 1; omega) _
  · rw [if_neg hC]
    obtain ⟨E, HE⟩ := named (chkE N l)
    rw [HE.out] at hC ⊢
    have hE' : (E == 0) = false := beq_eq_false_iff_ne.2 hC
    clear hE
    go_enter Try.func25, Try.ntmps25
    go_wp2_with fail
    refine (check_any N a l cap _ hl hr0).mono ?_
    rintro e w1 ⟨rfl, hb1⟩
    rw [HE.out, HT.out]
    have hh1 := (hb1.block _ (lt_of_block h1)).trans h1
    have b1 := bthen hb0 hb1 (by have := hb0.size; omega)
    clear hb1 hb0 hr0 hg h1 g0 g1 gf0 gf1 hW
    obtain ⟨⟨r0, r1⟩, rf0, rf1⟩ := two_cells hh1
    go_wp2_with fail
    refine bodyPost_ret (v := .tuple #[.agg #[.int .i64 0, .slice none 0 0], .slice none 0 0, .slice none 0 0, .int .i64 E]) (by simp [results, Try.results25, go_sem, r0, r1]) rfl ⟨rfl, ?_⟩
    exact (b1.setCell (by show _ ≤ w.heap.size + 1; omega) _).setCell (by show _ ≤ w.heap.size + 1; omega) _
theorem OwnI.ints {w : World} {B : Nat} {a : Option Addr} {c : Nat} {xs : List Int} (h : OwnI w B a c xs) : Ints w a xs := ints_own h
set_option maxRecDepth 100000 in
set_option maxHeartbeats 3200000 in
theorem induced_ok (n : Nat) (a : Option Addr) (l : List A) (cap : Nat) (a' : Option Addr) (q : List Bool) (cap' : Nat) (w : World) (hC : chkE n l = 0) (hQ : q.length = n) (hH : hits (mk q) n ≠ []) (hr : Arcs w a l) (hr' : Bools (· < w.heap.size) w a' q) :
    Calls Try.prog 25 #[.agg #[.int .i64 n, .slice a l.length cap], .slice a' n cap'] w fun e w' => ∃ ah ch av cv ai ci, e = .returned (.tuple #[.agg #[.int .i64 ((hits (mk q) n).length : Nat), .slice ah (indA (mk q) l).length ch], .slice av (hits (mk q) n).length cv, .slice ai (indI (mk q) l).length ci, .int .i64 0]) ∧
      OwnA w' w.heap.size ah ch (indA (mk q) l) ∧ ah ≠ none ∧ OwnI w' w.heap.size av cv (hits (mk q) n) ∧ OwnI w' w.heap.size ai ci (indI (mk q) l) ∧ Below w.heap.size w w' := by
  have hb0 : Below w.heap.size w ((w.alloc (.cells #[.int .i64 n, .slice a l.length cap] 24)).alloc (.cells #[.int .i64 0, .slice none 0 0] 24)) := ((Below.refl _ _).alloc (Nat.le_refl _) _).alloc (by simp) _
  have hg : ((w.alloc (.cells #[.int .i64 n, .slice a l.length cap] 24)).alloc (.cells #[.int .i64 0, .slice none 0 0] 24)).heap[w.heap.size]? = some (.cells #[.int .i64 n, .slice a l.length cap] 24) := (Below.heap_alloc _ _ _ (by simp)).trans (heap_top w _)
  have h1 := heap_top (w.alloc (.cells #[.int .i64 n, .slice a l.length cap] 24)) (.cells #[.int .i64 0, .slice none 0 0] 24)
  rw [show (w.alloc (.cells #[.int .i64 n, .slice a l.length cap] 24)).heap.size = w.heap.size + 1 by simp] at h1
  generalize hW : (w.alloc (.cells #[.int .i64 n, .slice a l.length cap] 24)).alloc (.cells #[.int .i64 0, .slice none 0 0] 24) = W at *
  obtain ⟨⟨g0, g1⟩, gf0, gf1⟩ := two_cells hg
  obtain ⟨T, HT⟩ := named (chkAt n l)
  have hr0 := hr.on hb0
  have HC := Lib.hid hC
  obtain ⟨hN1, hN2, hlen, hall⟩ := chk_zero hC
  have hl : l.length ≤ 9223372036854775807 := by omega
  have HALL := Lib.hid hall
  have hn : n ≤ 1024 := by omega
  have hpos : 0 < (hits (mk q) n).length := by
    rcases Nat.eq_zero_or_pos (hits (mk q) n).length with h | h
    · exact absurd (List.eq_nil_of_length_eq_zero h) hH
    · exact h
  have hpos' : (((hits (mk q) n).length : Int) == 0) = false := beq_eq_false_iff_ne.2 (by omega)
  have HQ := Lib.hid hQ
  clear hC hall hH hQ
  have HPART := Lib.hid (fun av cv ai ci W' (h1 : Arcs W' a l) (h2 : Ints W' av (hits (mk q) n)) (h3 : Ints W' ai (indI (mk q) l)) => part_any n (mk q) a l cap av cv ai ci W' hn hlen HALL.out h1 h2 h3)
  have HMARK := Lib.hid (fun m B W' h1 h2 h3 h4 => marked_any m B a' q cap' W' (by rw [HQ.out]; omega) h1 h2 h3 h4)
  have HINS := Lib.hid (fun m B W' h1 h2 h3 h4 h5 => inside_any m B n a l cap a' q cap' W' hlen (by rw [HQ.out]; omega) (by rw [HQ.out]; exact HALL.out) h1 h2 h3 h4 h5)
  rw [HQ.out] at HMARK HINS
  obtain ⟨is, HIS⟩ : ∃ is, Hid (indI (mk q) l = is) := ⟨_, rfl⟩
  have HIS' : Hid (hits (fun k => both (mk q) (l.getD k A.zero)) l.length = is) := HIS
  rw [HIS.out] at HPART ⊢
  rw [HIS'.out] at HINS
  obtain ⟨vs, HVS⟩ : ∃ vs, Hid (hits (mk q) n = vs) := ⟨_, rfl⟩
  rw [HVS.out] at HMARK HPART hpos hpos' ⊢
  obtain ⟨Z, HZ⟩ : ∃ Z, Hid (indA (mk q) l = Z) := ⟨_, rfl⟩
  rw [HZ.out] at HPART ⊢
  go_enter Try.func25, Try.ntmps25
  go_wp2_with fail
  refine (check_any n a l cap _ hl hr0).mono ?_
  rintro e w1 ⟨rfl, hb1⟩
  rw [HC.out, HT.out]
  have hg1 := (hb1.block _ (lt_of_block hg)).trans hg
  have hh1 := (hb1.block _ (lt_of_block h1)).trans h1
  have b1 := bthen hb0 hb1 (by have := hb0.size; omega)
  have s1 := lt_of_block hh1
  clear hb1 hb0 hr0 hg h1 g0 g1 gf0 gf1 hW
  obtain ⟨⟨g0, g1⟩, gf0, gf1⟩ := two_cells hg1
  have hb2 : Below w1.heap.size w1 ((w1.alloc (.cells #[.slice none 0 0] 74)).alloc (.cells #[.slice none 0 0] 74)) := ((Below.refl _ _).alloc (Nat.le_refl _) _).alloc (by simp) _
  have hm2 : ((w1.alloc (.cells #[.slice none 0 0] 74)).alloc (.cells #[.slice none 0 0] 74)).heap[w1.heap.size]? = some (.cells #[.slice none 0 0] 74 (0, 0)) := (Below.heap_alloc _ _ _ (by simp)).trans (heap_top w1 _)
  have hp2 := heap_top (w1.alloc (.cells #[.slice none 0 0] 74)) (.cells #[.slice none 0 0] 74)
  rw [show (w1.alloc (.cells #[.slice none 0 0] 74)).heap.size = w1.heap.size + 1 by simp] at hp2
  have z2 : ((w1.alloc (.cells #[.slice none 0 0] 74)).alloc (.cells #[.slice none 0 0] 74)).heap.size = w1.heap.size + 2 := by simp
  generalize hW2 : (w1.alloc (.cells #[.slice none 0 0] 74)).alloc (.cells #[.slice none 0 0] 74) = W2 at *
  have hfil : FilB W2 w1.heap.size W2.heap.size [] := ⟨_, hm2, World.ownsRow_nil _ _ _ _⟩
  have hq2 : Bools (Safe w1.heap.size W2.heap.size W2) W2 a' q := hr'.imp (fun b h => Or.inl ⟨by omega, by omega⟩) (fun b h => (hb2.block b (by omega)).trans (b1.block b h))
  have hh2 := (hb2.block _ s1).trans hh1
  have hg2 := (hb2.block _ (lt_of_block hg1)).trans hg1
  have b2 := bthen b1 hb2 (by omega)
  have HZ2 := Lib.hid z2
  clear z2
  have z2 : w1.heap.size + 2 ≤ W2.heap.size := by rw [HZ2.out]; exact Nat.le_refl _
  go_wp2_with (go_at_call 43; refine (HMARK.out w1.heap.size W2.heap.size W2 (by omega) (Nat.le_refl _) hq2 hfil).mono ?_; rintro e w3 ⟨rfl, hf3, hk3⟩; obtain ⟨v3, hm3, hown3⟩ := hf3; obtain ⟨a3, c3, hv3⟩ := own_slice hown3; rw [hv3] at hm3 hown3; have c3' := cell_of_one hm3; have hg3 := (hk3.block _ (show w.heap.size < W2.heap.size by omega) (by omega)).trans hg2; obtain ⟨⟨e0, e1⟩, ef0, ef1⟩ := two_cells hg3; have s3 := hk3.size; clear g0 g1 gf0 gf1 hv3
    )
  have b3 := hk3.below b2 (by omega) (by omega)
  have hp3 := (hk3.block _ (show w1.heap.size + 1 < W2.heap.size by omega) (by omega)).trans hp2
  have hh3 := (hk3.block _ (show w.heap.size + 1 < W2.heap.size by omega) (by omega)).trans hh2
  have hfil3 : FilB w3 (w1.heap.size + 1) w3.heap.size [] := ⟨_, hp3, World.ownsRow_nil _ _ _ _⟩
  refine (HINS.out (w1.heap.size + 1) w3.heap.size w3 (by omega) (Nat.le_refl _) ((hr.b.on b3).up (by omega)) (hr'.imp (fun b h => by show b < _; omega) (fun b h => b3.block b h)) hfil3).mono ?_
  rintro e w4 ⟨rfl, ⟨v4, hp4, hown4⟩, hk4⟩
  obtain ⟨a4, c4, hv4⟩ := own_slice hown4
  rw [hv4] at hp4 hown4
  have hm4 := (hk4.block _ (show w1.heap.size < w3.heap.size by omega) (by omega)).trans hm3
  have hg4 := (hk4.block _ (show w.heap.size < w3.heap.size by omega) (by omega)).trans hg3
  have hh4 := (hk4.block _ (show w.heap.size + 1 < w3.heap.size by omega) (by omega)).trans hh3
  have hown4' := own_keep hown3 (fun k h1 h2 _ => hk4.block k h2 (by omega))
  have b4 := hk4.below b3 (by omega) (by omega)
  have s4 := hk4.size
  clear hk4 hk3 hfil3 hp3 hm3 hg3 hh3 hown3 c3' e0 e1 ef0 ef1 hW2 hm2 hp2 hfil hq2 hh2 hg2 hb2 b2 b3 hg1 hh1 hv4
  obtain ⟨⟨g0, g1⟩, gf0, gf1⟩ := two_cells hg4
  have k0 := cell_of_one hm4
  have k1 := cell_of_one hp4
  have HP4 := Lib.hid (HPART.out a3 c3 a4 c4 w4.drew (hr.on b4.drew) (show Ints w4.drew a3 vs from ints_own (w := w4.drew) hown4') (show Ints w4.drew a4 is from ints_own (w := w4.drew) hown4))
  have HM4 := Lib.hid hm4
  have HPP := Lib.hid hp4
  have HH4 := Lib.hid hh4
  have HO3 := Lib.hid hown4'
  have HO4 := Lib.hid hown4
  have HG4 := Lib.hid hg4
  clear HPART HINS HMARK hown4 hown4' hm4 hp4 hh4 hg4
  go_wp2_with fail
  have n1 : ¬ w1.heap.size = w.heap.size + 1 := by omega
  have n2 : ¬ w1.heap.size = w.heap.size := by omega
  have n3 : ¬ w.heap.size = w1.heap.size := by omega
  have n4 : ¬ w.heap.size + 1 = w1.heap.size := by omega
  go_region_held3 (fun w' => w'.cell? ⟨w.heap.size, 0, none⟩ = some (.int .i64 n) ∧ w'.cell? ⟨w.heap.size, 1, none⟩ = some (.slice a l.length cap) ∧ w'.cell? ⟨w1.heap.size, 0, none⟩ = some (.slice a3 vs.length c3) ∧ w'.cell? ⟨w1.heap.size + 1, 0, none⟩ = some (.slice a4 is.length c4)) (go_keep) ((go_at_call 46; refine HP4.out.mono ?_; rintro e w5 ⟨a5, c5, rfl, hown5, hne5, hb5⟩; have p0 := cell_of_one ((hb5.block _ (lt_of_block HM4.out)).trans HM4.out); have p1 := cell_of_one ((hb5.block _ (lt_of_block HPP.out)).trans HPP.out); have HR := Lib.hid ((hb5.block _ (lt_of_block HH4.out)).trans HH4.out); obtain ⟨⟨r0, r1⟩, rf0, rf1⟩ := two_cells HR.out; obtain ⟨⟨t0, t1⟩, tf0, tf1⟩ := two_cells ((hb5.block _ (lt_of_block HG4.out)).trans HG4.out)))
  all_goals go_wp2_with fail
  all_goals
    have hlt4 := lt_of_block HH4.out
    have hb6 : Below w.heap.size w w5 := b4.drew.trans (hb5.mono (by show w.heap.size ≤ w4.heap.size; omega))
    refine bodyPost_ret (v := .tuple #[.agg #[.int .i64 (vs.length : Int), .slice a5 Z.length c5], .slice a3 vs.length c3, .slice a4 is.length c4, .int .i64 0]) (by simp [results, Try.results25, go_sem, r0, r1]) rfl ⟨a5, c5, a3, c3, a4, c4, rfl, ?_, hne5, ?_, ?_, (hb6.setCell (by show _ ≤ w.heap.size + 1; omega) _).setCell (by show _ ≤ w.heap.size + 1; omega) _⟩
    · have h9 : OwnA ((w5.setCell ⟨w.heap.size + 1, 0, none⟩ (.int .i64 vs.length)).setCell ⟨w.heap.size + 1, 1, none⟩ (.slice a5 Z.length c5)) w4.heap.size a5 c5 Z := ownsRow_setCell_below (ownsRow_setCell_below hown5 (show w.heap.size + 1 < w4.heap.size by omega) _) (show w.heap.size + 1 < w4.heap.size by omega) _
      exact h9.base (by omega)
    · have h9 : w5.ownsRow W2.heap.size 3 1 (.slice a3 vs.length c3) vs.length (cellsI vs) := own_keep HO3.out (fun k _ h2 _ => hb5.block k h2)
      exact own_base (ownsRow_setCell_below (ownsRow_setCell_below h9 (show w.heap.size + 1 < W2.heap.size by omega) _) (show w.heap.size + 1 < W2.heap.size by omega) _) (by omega)
    · have h9 : w5.ownsRow w3.heap.size 3 1 (.slice a4 is.length c4) is.length (cellsI is) := own_keep HO4.out (fun k _ h2 _ => hb5.block k h2)
      exact own_base (ownsRow_setCell_below (ownsRow_setCell_below h9 (show w.heap.size + 1 < w3.heap.size by omega) _) (show w.heap.size + 1 < w3.heap.size by omega) _) (by omega)
end Go.Proofs.Ytgkpmcpkobphpaa.T3
