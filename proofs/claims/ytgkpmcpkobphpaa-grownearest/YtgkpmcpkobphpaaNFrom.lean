/-
  Contracts of near.check, near.shorter and near.From.
-/
import Derived.Test.YtgkpmcpkobphpaaNKinds
namespace Go.Proofs.Ytgkpmcpkobphpaa.N5
open Go.RowKit
open Hp (HR HRto Fr upd upd_self upd_ne TopIs)
/-- What is wrong with a graph and vertices. -/
def nearE (N : Int) (l : List A) (xs : List Int) : Int := if chkE N l = 0 then (if xs.all (okV N) then 0 else 5) else chkE N l
theorem all_take_succ {xs : List Int} {q : Int → Bool} {k : Nat} (h : k < xs.length) (h1 : (xs.take k).all q = true) (h2 : q (xs.getD k 0) = true) : (xs.take (k + 1)).all q = true := by
  rw [List.take_add_one, List.all_append, h1]
  simp [List.getElem?_eq_getElem h]
  simpa [List.getD, List.getElem?_eq_getElem h] using h2
theorem all_bad {xs : List Int} {q : Int → Bool} {k : Nat} (h : k < xs.length) (h2 : q (xs.getD k 0) = false) : xs.all q = false := by
  rw [List.all_eq_false]
  refine ⟨xs[k], List.getElem_mem h, ?_⟩
  simp [List.getD, List.getElem?_eq_getElem h] at h2
  simpa using h2
set_option maxRecDepth 100000 in
set_option maxHeartbeats 800000 in
theorem ncheck_any (N : Int) (a : Option Addr) (l : List A) (cap : Nat) (xa : Option Addr) (xs : List Int) (xc : Nat) (w : World) (hl : l.length ≤ 9223372036854775807) (hx : xs.length ≤ 109) (hr : Arcs w a l) (hxs : Ints w xa xs) :
    Calls Try.prog 38 #[.agg #[.int .i64 N, .slice a l.length cap], .slice xa xs.length xc] w fun e w' => e = .returned (.int .i64 (nearE N l xs)) ∧ Below w.heap.size w w' := by
  have hb0 : Below w.heap.size w (w.alloc (.cells #[.int .i64 N, .slice a l.length cap] 24)) := (Below.refl _ _).alloc (Nat.le_refl _) _
  have hg := heap_top w (.cells #[.int .i64 N, .slice a l.length cap] 24)
  have HCK := Lib.hid (check_any N a l cap _ hl (hr.on hb0))
  obtain ⟨T, HT⟩ := named (chkAt N l)
  rw [HT.out] at HCK
  by_cases hE : chkE N l = 0
  · rw [hE] at HCK
    obtain ⟨E, HE⟩ := named (nearE N l xs)
    have HEQ : Hid (E = if xs.all (okV N) then 0 else 5) := by show _ = _; rw [← HE.out]; unfold nearE; rw [if_pos hE]
    rw [HE.out]
    clear hE
    obtain ⟨bx, ox, hxx⟩ := hxs.get
    go_enter Try.func38, Try.ntmps38
    go_wp2_with fail
    refine HCK.out.mono ?_
    rintro e w1 ⟨rfl, hb1⟩
    have hg1 := (hb1.block _ (lt_of_block hg)).trans hg
    have b1 : Below w.heap.size w w1 := hb0.trans (hb1.mono hb0.size)
    clear hb1 hb0 hg HCK
    obtain ⟨⟨g0, g1⟩, -⟩ := two_cells hg1
    go_wp2_with fail
    go_loopw [19] (fun i wr => ∃ k : Nat, k ≤ xs.length ∧ i = .int .i64 k ∧ Hid ((xs.take k).all (okV N) = true) ∧ wr = w1) (fun i _ => xs.length - (intOf i).toNat)
    case atStart => exact ⟨0, Nat.zero_le _, rfl, by show _ = _; simp, rfl⟩
    case round =>
      obtain ⟨k, hk, rfl, hall, rfl⟩ := hrel
      by_cases hlt : k < xs.length
      · obtain ⟨rfl, hbl, hat⟩ := hxx (by omega)
        have c0 := (b1.cell (p := ⟨bx, ox + k, none⟩) hbl).trans (hat k hlt)
        have hlt' : (k : Int) < xs.length := by omega
        have HA := Lib.hid (fun h => all_take_succ (q := okV N) hlt hall.out h)
        have HB := Lib.hid (fun h => all_bad (q := okV N) hlt h)
        generalize xs.getD k 0 = v at *
        by_cases h1 : v < 0
        · obtain rfl : E = 5 := by rw [HEQ.out, HB.out (by simp [okV]; omega)]; rfl
          go_wp2_with fail
          go_ret
          exact ⟨rfl, b1⟩
        · by_cases h2 : N ≤ v
          · obtain rfl : E = 5 := by rw [HEQ.out, HB.out (by simp [okV]; omega)]; rfl
            go_wp2_with fail
            go_ret
            exact ⟨rfl, b1⟩
          · have HA2 := Lib.hid (HA.out (by simp [okV]; omega))
            go_wp2_with fail
            exact ⟨⟨k + 1, by omega, by go_num, HA2, trivial⟩, by simp [intOf]; omega⟩
      · have hlt' : ¬ (k : Int) < xs.length := by omega
        obtain rfl : E = 0 := by
          have := hall.out
          rw [List.take_of_length_le (by omega)] at this
          rw [HEQ.out, this]; rfl
        go_wp2_with fail
        go_ret
        exact ⟨rfl, b1⟩
  · have hN : nearE N l xs = chkE N l := by unfold nearE; rw [if_neg hE]
    rw [hN]
    obtain ⟨E, HE⟩ := named (chkE N l)
    rw [HE.out] at hE HCK ⊢
    have hE' : (E == 0) = false := beq_eq_false_iff_ne.2 hE
    clear hN hE
    go_enter Try.func38, Try.ntmps38
    go_wp2_with fail
    refine HCK.out.mono ?_
    rintro e w1 ⟨rfl, hb1⟩
    have b1 : Below w.heap.size w w1 := hb0.trans (hb1.mono hb0.size)
    go_wp2_with fail
    go_ret
    exact ⟨rfl, b1⟩
set_option maxRecDepth 100000 in
set_option maxHeartbeats 400000 in
theorem shorter_any (x : Addr) (n m : Nat) (w : World) :
    Calls Try.prog 41 #[.slice (some x) n m] w fun e w' => e = .returned (.func (.func 62) #[] #[.pointer (some ⟨w.heap.size, 0, none⟩)]) ∧ w' = w.alloc (.cells #[.slice (some x) n m] 43) := by
  go_enter Try.func41, Try.ntmps41
  go_wp2_with fail
  go_ret
  exact ⟨rfl, rfl⟩
/-- The least lengths told, in block bf; the variable of the slice, in block c. -/
def R1 (n c bf : Nat) (w : World) (F : Nat → Int) (_ : Unit) : Prop := w.heap[c]? = some (.cells #[.slice (some ⟨bf, 0, none⟩) n n] 43) ∧ Tb w bf n 47 .u64 F
def Q1 (c bf : Nat) (k : Nat) : Prop := k = c ∨ k = bf
theorem Fr.set1 {Q : Nat → Prop} {w : World} {p : Addr} {u : Value} (h : Q p.block) : Fr Q w (w.setCell p u) := (Hp.Fr.refl Q w).setCell p u (Or.inl h)
theorem fun1 (n c bf : Nat) (hne : c ≠ bf) : Fun n 62 #[.pointer (some ⟨c, 0, none⟩)] (fun _ => true) (X := Unit) (fun _ _ _ _ _ _ => True) (R1 n c bf) (Q1 c bf) := by
  refine ⟨?_, ?_, ?_⟩
  · rintro w F x k ⟨h1, h2⟩ (rfl | rfl)
    · exact lt_of_block h1
    · exact h2.lt
  · rintro w w' F x ⟨h1, h2⟩ hs
    exact ⟨(hs c (Or.inl rfl)).trans h1, h2.same (hs bf (Or.inr rfl))⟩
  · rintro w F x v d y ⟨h1, h2⟩ hv hd0 hd1
    refine (short_any w c bf n v d y F hv h1 h2).mono ?_
    rintro e w1 ⟨rfl, rfl⟩
    refine ⟨_, rfl, ?_, ?_⟩
    · split
      · exact Fr.set1 (Or.inr rfl)
      · exact Hp.Fr.refl _ _
    · by_cases h : d < F v
      · rw [if_pos h]
        exact Or.inl ⟨by simpa using h, rfl, h, (), ⟨(Below.heap_setCell _ _ _ _ hne).trans h1, h2.set v d⟩, trivial⟩
      · rw [if_neg h]
        exact Or.inr ⟨by simpa using h, fun e => h e.2, h1, h2⟩
/-- The search begins. -/
theorem start_any {w0 w : World} {n : Nat} {a : Option Addr} {cap : Nat} {l : List A} {s fid : Nat} {cs : Array Value} {ok : Nat → Bool} {X : Type} {XR : (Nat → Int) → X → Nat → Int → Int → X → Prop} {R : World → (Nat → Int) → X → Prop} {Q : Nat → Prop} {x0 : X}
    (aw : AWalk fid cs) (fu : Fun n fid cs ok XR R Q) (g : RG n l) (hr : Arcs w0 a l) (hb : Below w0.heap.size w0 w) (hs : s < n) (hR : R w (fun _ => Inf) x0) (hQ : ∀ k, Q k → w0.heap.size ≤ k) :
    Calls Try.prog 40 #[.agg #[.int .i64 n, .slice a l.length cap], .int .i64 s, .func (.func fid) #[] cs] w fun e w' => ∃ f b1 b2 h, e = .returned (.pointer (some ⟨f, 0, none⟩)) ∧ Sys f n a cap l b1 b2 h (.func (.func fid) #[] cs) ok XR (SG w0 f a cap l n b1 b2 h (.func (.func fid) #[] cs) R Q) ∧
      ∃ F T x, SG w0 f a cap l n b1 b2 h (.func (.func fid) #[] cs) R Q w' F T x ∧ Inv l ok s F T 0 (fun _ => False) ∧ (ok s = true ∧ F = updI (fun _ => Inf) s 0 ∧ T = upd (fun _ => none) s (some 0) ∧ XR (fun _ => Inf) x0 s 0 (-1) x ∨ ok s = false ∧ F = (fun _ => Inf) ∧ T = (fun _ => none) ∧ x = x0) := by
  refine begin_any n a l cap s fid cs w g (hr.on hb) (fun f b1 b2 h w' => Sys f n a cap l b1 b2 h (.func (.func fid) #[] cs) ok XR (SG w0 f a cap l n b1 b2 h (.func (.func fid) #[] cs) R Q) ∧
      ∃ F T x, SG w0 f a cap l n b1 b2 h (.func (.func fid) #[] cs) R Q w' F T x ∧ Inv l ok s F T 0 (fun _ => False) ∧ (ok s = true ∧ F = updI (fun _ => Inf) s 0 ∧ T = upd (fun _ => none) s (some 0) ∧ XR (fun _ => Inf) x0 s 0 (-1) x ∨ ok s = false ∧ F = (fun _ => Inf) ∧ T = (fun _ => none) ∧ x = x0)) ?_
  intro f b1 b2 h D w1 sr l1 l2 l3 _ _ _ hD hb1
  have hQlt : ∀ k, Q k → k < w.heap.size := fun k hk => fu.lt hR hk
  have nq : ∀ k, w.heap.size ≤ k → ¬ Q k := fun k hk e => by have := hQlt k e; omega
  have sy := sys_of (h := h) (cap := cap) aw fu hr (nq f l1) (nq b1 l2) (nq b2 l3) hQ
  have hbw := hb.trans (hb1.mono hb.size)
  have sg : SG w0 f a cap l n b1 b2 h (.func (.func fid) #[] cs) R Q w1 (fun _ => Inf) (fun _ => none) x0 :=
    ⟨D, sr, fu.same hR (fun k hk => hb1.block k (hQlt k hk)), fun k hk => ⟨nq k (hD k hk), Nat.le_trans hb.size (hD k hk)⟩, hbw⟩
  refine (sy.arr (v := s) (d := 0) (y := -1) sg (Below.refl _ _) hs (Int.le_refl _) (by unfold Inf; omega) (fun k e => by cases e)).mono ?_
  rintro e w2 ⟨rfl, hor, _⟩
  refine ⟨rfl, sy, ?_⟩
  rcases hor with ⟨ho, _, x', sg', xr⟩ | ⟨hno, sg'⟩
  · exact ⟨_, _, x', sg', Inv.init0 l ok s _ ho, Or.inl ⟨ho, rfl, rfl, xr⟩⟩
  · have ho : ok s = false := by
      cases e : ok s with
      | false => rfl
      | true => exact absurd ⟨e, by unfold Inf; omega⟩ hno
    exact ⟨_, _, x0, sg', Inv.init l ok s _ ho, Or.inr ⟨ho, rfl, rfl, rfl⟩⟩
end Go.Proofs.Ytgkpmcpkobphpaa.N5
