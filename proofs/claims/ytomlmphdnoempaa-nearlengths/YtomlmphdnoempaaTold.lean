/-
  Contract of flyoverref05.Told, of what near.Walk answers. Going over arcs: mathematics; contract of flyoverref05.Long.
-/
import Derived.Test.YtomlmphdnoempaaRDists
import Derived.Test.YtomlmphdnoempaaWalkC
import Derived.BigRegion
import Derived.Test.YtomlmphdnoempaaRes
namespace Go.Proofs.Ytomlmphdnoempaa
open Go.RowKit
open Hp (Fr)
/-- Where arcs lead, and how far. -/
def lrun (l : List A) : Nat → Int → List Nat → Option (Nat × Int)
  | v, d, [] => some (v, d)
  | v, d, j :: r => if src (ar l j) = v then lrun l (dst (ar l j)) (sat d (ar l j).w) r else none
theorem lrun_append (l : List A) : ∀ (p q : List Nat) (v : Nat) (d : Int), lrun l v d (p ++ q) = match lrun l v d p with | some (u, e) => lrun l u e q | none => none := by
  intro p
  induction p with
  | nil => intro q v d; rfl
  | cons j p ih =>
    intro q v d
    rw [List.cons_append, lrun, lrun]
    by_cases h : src (ar l j) = v
    · rw [if_pos h, if_pos h]; exact ih q _ _
    · rw [if_neg h, if_neg h]
theorem Pth.lrun {l : List A} {s v : Nat} {p : List Nat} (h : Pth l s v p) (hw : ∀ x ∈ l, 0 ≤ x.w) : plen l p < Inf → lrun l s 0 p = some (v, plen l p) := by
  induction h with
  | nil => intro _; rfl
  | @snoc u j q h1 h2 h3 ih =>
    intro hl
    rw [plen_snoc] at hl ⊢
    have h4 := hw _ (ar_mem h1)
    rw [lrun_append, ih (by omega)]
    show (if src (ar l j) = u then _ else none) = _
    rw [if_pos h2]
    show some (dst (ar l j), sat (plen l q) (ar l j).w) = _
    congr 2
    unfold sat
    rw [if_neg (by omega)]
theorem drop_at {p : List Nat} {k : Nat} (h : k < p.length) : p.drop k = p.getD k 0 :: p.drop (k + 1) := by
  rw [List.drop_eq_getElem_cons h]
  simp [List.getD, List.getElem?_eq_getElem h]
theorem lrun_step {l : List A} {v : Nat} {d : Int} {p : List Nat} {k : Nat} (h : k < p.length) : lrun l v d (p.drop k) = if src (ar l (p.getD k 0)) = v then lrun l (dst (ar l (p.getD k 0))) (sat d (ar l (p.getD k 0)).w) (p.drop (k + 1)) else none := by
  rw [drop_at h]; rfl
theorem getD_mem {p : List Nat} {k : Nat} (h : k < p.length) : p.getD k 0 ∈ p := by
  simp [List.getD, List.getElem?_eq_getElem h]
theorem idI_getD (p : List Nat) (k : Nat) (h : k < p.length) : (idI p).getD k 0 = ((p.getD k 0 : Nat) : Int) := by
  simp [idI, List.getD, List.getElem?_eq_getElem h]
theorem beq_cast (v t : Nat) : ((v : Int) == (t : Int)) = decide (v = t) := by
  by_cases h : v = t
  · simp [h]
  · have : ¬ (v : Int) = t := by omega
    simp [h, this]
def lrD (r : Option (Nat × Int)) : Int := match r with | some (_, d) => d | none => 0
def lrB (r : Option (Nat × Int)) (t : Nat) : Bool := match r with | some (v, _) => decide (v = t) | none => false
set_option maxHeartbeats 3200000 in
set_option maxRecDepth 100000 in
theorem long_any (n : Nat) (a : Option Addr) (l : List A) (cap : Nat) (s t : Nat) (p : List Nat) (ap : Option Addr) (c : Nat) (w : World) (g : RG n l) (hp : ∀ j ∈ p, j < l.length) (hpl : p.length ≤ 16384) (hr : Arcs w a l) (hi : Ints w ap (idI p)) :
    Calls Try.prog 50 #[.agg #[.int .i64 n, .slice a l.length cap], .int .i64 s, .int .i64 t, .slice ap p.length c] w fun e w' => e = .returned (.tuple #[.int .u64 (lrD (lrun l s 0 p)), .bool (lrB (lrun l s 0 p) t)]) ∧ Below w.heap.size w w' := by
  have hb0 : Below w.heap.size w (w.alloc (.cells #[.int .i64 n, .slice a l.length cap] 24)) := (Below.refl _ _).alloc (Nat.le_refl _) _
  have hg := heap_top w (.cells #[.int .i64 n, .slice a l.length cap] 24)
  have hlb := g.lb
  obtain ⟨ba, oa, hab⟩ := hr.b.get
  obtain ⟨bp, op, hpp⟩ := hi.get
  rw [idI_len] at hpp
  have HPP := Lib.hid hpp
  have HG := Lib.hid g
  have HPL := Lib.hid hp
  obtain ⟨R, HRR⟩ := named (lrun l s 0 p)
  rw [HRR.out]
  have s0 : (w.alloc (.cells #[.int .i64 n, .slice a l.length cap] 24)).heap.size = w.heap.size + 1 := by simp
  clear g hp hpp hr hi
  go_enter Try.func50, Try.ntmps50
  go_wp2_with fail
  generalize w.alloc (.cells #[.int .i64 n, .slice a l.length cap] 24) = W at *
  go_loopw [10, 11, 12] (fun vd vv vi wr => ∃ (k v : Nat) (d : Int), k ≤ p.length ∧ vi = .int .i64 k ∧ vd = .int .u64 d ∧ vv = .int .i64 v ∧ 0 ≤ d ∧ d ≤ Inf ∧ Hid (lrun l v d (p.drop k) = R) ∧ Below (w.heap.size + 1) W wr) (fun _ _ vi _ => p.length - (intOf vi).toNat)
  case atStart => exact ⟨0, s, 0, Nat.zero_le _, rfl, rfl, rfl, Int.le_refl _, by unfold Inf; omega, HRR, Below.refl _ _⟩
  case round =>
    obtain ⟨k, v, d, hk, rfl, rfl, rfl, hd0, hd1, hR, hb⟩ := hrel
    have hbw : Below w.heap.size w wr := hb0.trans (hb.mono (by omega))
    obtain ⟨⟨g0, g1⟩, -⟩ := two_cells ((hb.block w.heap.size (by omega)).trans hg)
    have sr : w.heap.size < wr.heap.size := by have := hb.size; omega
    by_cases hlt : k < p.length
    · have hlt' : (k : Int) < p.length := by omega
      obtain ⟨rfl, hbp, hat⟩ := HPP.out (by omega)
      have c0 := (hbw.cell (p := ⟨bp, op + k, none⟩) hbp).trans (hat k hlt)
      rw [idI_getD p k hlt] at c0
      have HSTEP := Lib.hid (lrun_step (l := l) (v := v) (d := d) hlt)
      have hj := HPL.out _ (getD_mem hlt)
      generalize p.getD k 0 = j at *
      obtain ⟨rfl, hba, haa⟩ := hab (by omega)
      have hj' : (j : Int) < l.length := by omega
      obtain ⟨q0, q1, q2⟩ := (haa j hj).on hbw
      have hmem := ar_mem hj
      have q0' : wr.cell? ⟨ba, oa + j * 3, none⟩ = some (.int .i64 (ar l j).f) := q0
      have q1' : wr.cell? ⟨ba, oa + j * 3 + 1, none⟩ = some (.int .i64 (ar l j).t) := q1
      have q2' : wr.cell? ⟨ba, oa + j * 3 + 2, none⟩ = some (.int .u32 (ar l j).w) := q2
      rw [HG.out.f_eq hmem] at q0'
      rw [HG.out.t_eq hmem] at q1'
      have hxw := HG.out.wt _ hmem
      obtain ⟨xa, HXA⟩ := named (ar l j)
      rw [HXA.out] at q0' q1' q2' hxw HSTEP
      clear q0 q1 q2 hmem haa hat
      have n1 : decide ((j : Int) < 0) = false := by simp
      have n2 : decide (l.length ≤ j) = false := by simp; omega
      by_cases hsv : src xa = v
      · have hsv' : (((src xa : Nat) : Int) != (v : Int)) = false := by simp [hsv]
        have HR2 : Hid (lrun l (dst xa) (sat d xa.w) (p.drop (k + 1)) = R) := by
          show _ = _
          rw [← hR.out, HSTEP.out, if_pos hsv]
        have HADD := Lib.hid (fun w' : World => radd_any d xa.w ⟨hd0, hd1⟩ ⟨hxw.1, by unfold Inf; omega⟩ w')
        have HS0 : Hid (0 ≤ sat d xa.w) := sat_ge (by omega) (by unfold Inf; omega)
        have HWR : IntKind.u64.wrap xa.w = xa.w := wrap_u64 hxw.1 (by omega)
        obtain ⟨sx, HSX⟩ := named (sat d xa.w)
        rw [HSX.out] at HADD HR2 HS0
        clear hsv
        go_wp2_with fail
        go_quiet (fail)
        go_wp2_with fail
        have cV : (wr.drewN nq).cell? ⟨bp, op + k, none⟩ = some (.int .i64 (j : Int)) := c0
        have a0 : (wr.drewN nq).cell? ⟨ba, oa + j * 3, none⟩ = some (.int .i64 ((src xa : Nat) : Int)) := q0'
        have a1 : (wr.drewN nq).cell? ⟨ba, oa + j * 3 + 1, none⟩ = some (.int .i64 ((dst xa : Nat) : Int)) := q1'
        have a2 : (wr.drewN nq).cell? ⟨ba, oa + j * 3 + 2, none⟩ = some (.int .u32 xa.w) := q2'
        have gV : (wr.drewN nq).cell? ⟨w.heap.size, 1, none⟩ = some (.slice (some ⟨ba, oa, none⟩) l.length cap) := g1
        have zV : (wr.drewN nq).heap.size = wr.heap.size := rfl
        have BV : Below (w.heap.size + 1) W (wr.drewN nq) := hb.trans (below_drewN _ _ _)
        clear c0 q0' q1' q2' g0 g1 hb hbw
        generalize wr.drewN nq = V at *
        have e1 : bp ≠ V.heap.size := by omega
        have e2 : ba ≠ V.heap.size := by omega
        have e3 : w.heap.size ≠ V.heap.size := by omega
        have e4 := e1.symm
        have e5 := e2.symm
        have e6 := e3.symm
        have o0 := cell_al (k := V.heap.size) (o := (.cells #[.int .i64 0, .int .i64 0, .int .u32 0] 57)) cV e1
        have o1 := cell_al (k := V.heap.size) (o := (.cells #[.int .i64 0, .int .i64 0, .int .u32 0] 57)) a0 e2
        have o2 := cell_al (k := V.heap.size) (o := (.cells #[.int .i64 0, .int .i64 0, .int .u32 0] 57)) a1 e2
        have o3 := cell_al (k := V.heap.size) (o := (.cells #[.int .i64 0, .int .i64 0, .int .u32 0] 57)) a2 e2
        have o4 := cell_al (k := V.heap.size) (o := (.cells #[.int .i64 0, .int .i64 0, .int .u32 0] 57)) gV e3
        go_region
        have HSI : Hid (sx ≤ Inf) := by show _ ≤ _; rw [← HSX.out]; exact sat_inf _ _
        have B6 := Lib.hid (BV.alloc (o := .cells #[.int .i64 (src xa), .int .i64 (dst xa), .int .u32 xa.w] 57) (by omega))
        clear o0 o1 o2 o3 o4 cV a0 a1 a2 gV
        go_wp2_with fail
        refine (HADD.out _).mono ?_
        rintro e w' ⟨rfl, rfl⟩
        go_wp2_with fail
        exact ⟨⟨k + 1, dst xa, sx, by omega, by go_num, rfl, rfl, HS0.out, HSI.out, HR2, by first | exact B6.out | exact B6.out.drew⟩, by simp [intOf]; omega⟩
      · have hsv' : (((src xa : Nat) : Int) != (v : Int)) = true := by simp; omega
        obtain rfl : R = none := by rw [← hR.out, HSTEP.out, if_neg hsv]
        clear hsv
        go_wp2_with fail
        go_quiet (fail)
        go_wp2_with fail
        go_ret2
        exact ⟨rfl, hbw.trans (below_drewN _ _ _)⟩
    · have hlt' : ¬ (k : Int) < p.length := by omega
      obtain rfl : R = some (v, d) := by rw [← hR.out, List.drop_of_length_le (by omega)]; rfl
      go_wp2_with fail
      go_ret2
      exact ⟨by simp [lrD, lrB, beq_cast], hbw⟩
end Go.Proofs.Ytomlmphdnoempaa
namespace Go.Proofs.Ytomlmphdnoempaa
open Go.RowKit
open Hp (Fr)
/-- Who has been come to after i arcs. -/
def bnb (l : List A) (s : Nat) (p : List Nat) : Nat → Nat → Bool
  | 0, v => decide (v = s)
  | i + 1, v => bnb l s p i v || decide (v = dst (ar l (p.getD i 0)))
theorem bnb_inv {l : List A} {s : Nat} {p : List Nat} {v : Nat} : ∀ {i : Nat}, bnb l s p i v = true → v = s ∨ ∃ k, k < i ∧ v = dst (ar l (p.getD k 0)) := by
  intro i
  induction i with
  | zero => intro h; simp [bnb] at h; exact Or.inl h
  | succ i ih =>
    intro h
    simp [bnb] at h
    rcases h with h | h
    · rcases ih h with e | ⟨k, hk, e⟩
      · exact Or.inl e
      · exact Or.inr ⟨k, by omega, e⟩
    · exact Or.inr ⟨i, by omega, by simpa [List.getD] using h⟩
theorem heads_getD (l : List A) (p : List Nat) (k : Nat) (h : k < p.length) : (heads l p)[k]'(by simp [heads, h]) = dst (ar l (p.getD k 0)) := by
  simp [heads, List.getD, List.getElem?_eq_getElem h]
theorem bnb_new {l : List A} {s : Nat} {p : List Nat} (hn : (s :: heads l p).Nodup) {i : Nat} (hi : i < p.length) : bnb l s p i (dst (ar l (p.getD i 0))) = false := by
  cases e : bnb l s p i (dst (ar l (p.getD i 0))) with
  | false => rfl
  | true =>
    exfalso
    rw [List.nodup_cons] at hn
    rcases bnb_inv e with h | ⟨k, hk, h⟩
    · apply hn.1
      rw [← h, ← heads_getD l p i hi]
      exact List.getElem_mem _
    · have h1 := heads_getD l p i hi
      have h2 := heads_getD l p k (by omega)
      rw [h, ← h2] at h1
      exact (List.pairwise_iff_getElem.1 hn.2) k i (by simp [heads]; omega) (by simp [heads]; omega) hk h1.symm
theorem bnb_put (l : List A) (s : Nat) (p : List Nat) (i v : Nat) : updB (bnb l s p i) (dst (ar l (p.getD i 0))) true v = bnb l s p (i + 1) v := by
  unfold updB
  by_cases e : v = dst (ar l (p.getD i 0))
  · rw [if_pos e]; simp only [bnb, e]; simp
  · rw [if_neg e]
    have : decide (v = dst (ar l (p.getD i 0))) = false := decide_eq_false e
    simp only [bnb, this, Bool.or_false]
theorem Pth.none {l : List A} {s : Nat} {p : List Nat} (h : Pth l s s p) (hn : (s :: heads l p).Nodup) : p = [] := by
  generalize ht : s = t at h hn
  cases h with
  | nil => rfl
  | @snoc u j q h1 h2 h3 =>
    exfalso
    rw [List.nodup_cons] at hn
    apply hn.1
    simp [heads]
set_option maxHeartbeats 800000 in
set_option maxRecDepth 100000 in
theorem told_no (N : Int) (a : Option Addr) (l : List A) (cap : Nat) (s t : Int) (w : World) (hl : l.length ≤ 9223372036854775807) (hE : nearE N l [s, t] ≠ 0) (hr : Arcs w a l) :
    Calls Try.prog 25 #[.agg #[.int .i64 N, .slice a l.length cap], .int .i64 s, .int .i64 t, .slice none 0 0, .int .u64 0, .int .i64 (nearE N l [s, t])] w fun e w' => e = .returned (.bool true) ∧ Below w.heap.size w w' := by
  have hb0 : Below w.heap.size w (w.alloc (.cells #[.int .i64 N, .slice a l.length cap] 24)) := (Below.refl _ _).alloc (Nat.le_refl _) _
  have HRB := Lib.hid (rbetween_no N a l cap s t _ hl hE (hr.on hb0))
  have hE' : (nearE N l [s, t] == 0) = false := beq_eq_false_iff_ne.2 hE
  generalize nearE N l [s, t] = E at *
  clear hE hr
  go_enter Try.func25, Try.ntmps25
  go_wp2_with fail
  refine HRB.out.mono ?_
  rintro e w1 ⟨rfl, hb1⟩
  have b1 : Below w.heap.size w w1 := hb0.trans (hb1.mono hb0.size)
  go_wp2_with fail
  go_ret
  exact ⟨rfl, b1⟩
set_option maxHeartbeats 1600000 in
set_option maxRecDepth 100000 in
theorem told_nil (n : Nat) (a : Option Addr) (l : List A) (cap : Nat) (s t : Nat) (d : Int) (w : World) (g : RG n l) (hs : s < n) (ht : t < n) (hE : nearE n l [(s : Int), (t : Int)] = 0) (hd : IsT l s t d) (hor : d = Inf ∨ s = t) (hr : Arcs w a l) :
    Calls Try.prog 25 #[.agg #[.int .i64 n, .slice a l.length cap], .int .i64 s, .int .i64 t, .slice none 0 0, .int .u64 d, .int .i64 0] w fun e w' => e = .returned (.bool true) ∧ Below w.heap.size w w' := by
  have hb0 : Below w.heap.size w (w.alloc (.cells #[.int .i64 n, .slice a l.length cap] 24)) := (Below.refl _ _).alloc (Nat.le_refl _) _
  have HRB := Lib.hid (rbetween_ok n a l cap s t _ g hs ht hE (hr.on hb0))
  have HD := Lib.hid hd
  have HO := Lib.hid hor
  clear hr hE g hd hor
  go_enter Try.func25, Try.ntmps25
  go_wp2_with fail
  refine HRB.out.mono ?_
  rintro e w1 ⟨d', rfl, hd', hb1⟩
  obtain rfl := hd'.unique HD.out
  have b1 : Below w.heap.size w w1 := hb0.trans (hb1.mono hb0.size)
  by_cases hi : d' = 18446744073709551615
  · subst hi
    go_wp2_with fail
    go_ret
    exact ⟨rfl, b1⟩
  · have hi' : (d' == 18446744073709551615) = false := beq_eq_false_iff_ne.2 hi
    rcases HO.out with h | h
    · exact absurd h hi
    · subst h
      have hss : ((s : Int) == (s : Int)) = true := by simp
      go_wp2_with fail
      go_ret
      exact ⟨rfl, b1⟩
set_option maxHeartbeats 3200000 in
set_option maxRecDepth 100000 in
theorem told_ok (n : Nat) (a : Option Addr) (l : List A) (cap : Nat) (s t : Nat) (d : Int) (p : List Nat) (bp op c : Nat) (w : World) (g : RG n l) (hs : s < n) (ht : t < n) (hE : nearE n l [(s : Int), (t : Int)] = 0) (hd : IsT l s t d) (hlt : d < Inf) (hne : s ≠ t) (hp : Pth l s t p) (hpl : plen l p = d) (hnd : (s :: heads l p).Nodup) (hr : Arcs w a l) (hi : Ints w (some ⟨bp, op, none⟩) (idI p)) :
    Calls Try.prog 25 #[.agg #[.int .i64 n, .slice a l.length cap], .int .i64 s, .int .i64 t, .slice (some ⟨bp, op, none⟩) p.length c, .int .u64 d, .int .i64 0] w fun e w' => e = .returned (.bool true) ∧ Below w.heap.size w w' := by
  have hnb := g.nb
  have hsh := hp.short g hs hnd
  have hb0 : Below w.heap.size w (w.alloc (.cells #[.int .i64 n, .slice a l.length cap] 24)) := (Below.refl _ _).alloc (Nat.le_refl _) _
  have hg := heap_top w (.cells #[.int .i64 n, .slice a l.length cap] 24)
  have HRB := Lib.hid (rbetween_ok n a l cap s t _ g hs ht hE (hr.on hb0))
  have HD := Lib.hid hd
  have HR := Lib.hid hr
  have HI := Lib.hid hi
  have HG := Lib.hid g
  have HP := Lib.hid hp.ids
  have HND := Lib.hid hnd
  have HLR : Hid (lrun l s 0 p = some (t, d)) := by show _ = _; rw [← hpl]; exact hp.lrun (fun x hx => (g.wt x hx).1) (by omega)
  obtain ⟨i0, hii, hz0, hz1, hz2⟩ := info_parts infoB4
  have HM := Lib.hid (made_bool n)
  have hni : (d == 18446744073709551615) = false := beq_eq_false_iff_ne.2 (by unfold Inf at hlt; omega)
  have hst : ((s : Int) == (t : Int)) = false := by simp; omega
  have hs' : (s : Int) < n := by omega
  clear hr hi g hd hE hp hpl hnd
  go_enter Try.func25, Try.ntmps25
  go_wp2_with fail
  refine HRB.out.mono ?_
  rintro e w1 ⟨d', rfl, hd', hb1⟩
  obtain rfl := hd'.unique HD.out
  have b1 : Below w.heap.size w w1 := hb0.trans (hb1.mono hb0.size)
  have hg1 := (hb1.block _ (lt_of_block hg)).trans hg
  obtain ⟨⟨g0, g1⟩, -⟩ := two_cells hg1
  have HLG := Lib.hid (long_any n a l cap s t p (some ⟨bp, op, none⟩) c w1 HG.out HP.out (by omega) (HR.out.on b1) (HI.out.on b1))
  rw [HLR.out] at HLG
  have e1 : lrD (some (t, d')) = d' := rfl
  have e2 : lrB (some (t, d')) t = true := by simp [lrB]
  rw [e1, e2] at HLG
  clear hg hb0 hb1 HRB hd' e1 e2
  go_wp2_with fail
  refine HLG.out.mono ?_
  rintro e w2 ⟨rfl, hb2⟩
  have b2 : Below w.heap.size w w2 := b1.trans (hb2.mono b1.size)
  have hg2 := (hb2.block _ (lt_of_block hg1)).trans hg1
  have sg := lt_of_block hg2
  clear g0 g1 HLG hb2 hg1 b1
  obtain ⟨⟨g0, g1⟩, -⟩ := two_cells hg2
  go_wp2_with (at_make; refine wpList_make_full _ rfl (.tmp 82) (.tmp 82) 40 rfl 0 4 i0 (.bool false) 1 Try.underlying40 hii hz0 hz1 .i64 .i64 n n n rfl rfl rfl rfl (by rw [hz2]; omega) (by unfold maxLen; omega) (Nat.zero_le _) ?_; intro w3 hown3 hgrow3; rw [HM.out] at hown3; have t3 : TbB w3 w2.heap.size n (fun _ => false) := row_made hown3; have e3 := t3.cell hs; have f3 := t3.free s)
  have b3 : Below w2.heap.size w2 w3 := (Below.refl _ _).grown hgrow3 (Nat.le_refl _) (by intro k hk; cases hk)
  have t4 : TbB (w3.setCell ⟨w2.heap.size, s, none⟩ (.bool true)) w2.heap.size n (bnb l s p 0) := (t3.set s true).congr (fun v _ => by unfold updB bnb; by_cases e : v = s <;> simp [e])
  have b4 : Below w2.heap.size w2 (w3.setCell ⟨w2.heap.size, s, none⟩ (.bool true)) := b3.setCell (Nat.le_refl _) _
  obtain ⟨ba, oa, hab⟩ := (HR.out.on b2).b.get
  obtain ⟨bq, oq, hpp⟩ := (HI.out.on b2).get
  rw [idI_len] at hpp
  have HPP := Lib.hid hpp
  generalize w3.setCell ⟨w2.heap.size, s, none⟩ (.bool true) = W3 at *
  clear e3 f3 t3 b3 g0 g1 hown3 hgrow3 HM hpp
  clear hii hz0 hz1 hz2
  clear i0
  go_loopw [18] (fun i wr => ∃ k : Nat, k ≤ p.length ∧ i = .int .i64 k ∧ TbB wr w2.heap.size n (bnb l s p k) ∧ Below w2.heap.size w2 wr) (fun i _ => p.length - (intOf i).toNat)
  case atStart => exact ⟨0, Nat.zero_le _, rfl, t4, b4⟩
  case round =>
    obtain ⟨k, hk, rfl, tk, hb⟩ := hrel
    clear t4 b4
    by_cases hkl : k < p.length
    · have hkl' : (k : Int) < p.length := by omega
      obtain ⟨hee, hbq, hat⟩ := HPP.out (by omega)
      cases hee
      have c0 := (hb.cell (p := ⟨bp, op + k, none⟩) hbq).trans (hat k hkl)
      rw [idI_getD p k hkl] at c0
      have HNEW := Lib.hid (bnb_new HND.out hkl)
      have HPUT := Lib.hid (bnb_put l s p k)
      have hj := HP.out _ (getD_mem hkl)
      generalize p.getD k 0 = j at *
      obtain ⟨rfl, hba, haa⟩ := hab (by omega)
      have hj' : (j : Int) < l.length := by omega
      obtain ⟨q0, q1, q2⟩ := (haa j hj).onB hba hb
      have hmem := ar_mem hj
      have q1' : wr.cell? ⟨ba, oa + j * 3 + 1, none⟩ = some (.int .i64 (ar l j).t) := q1
      rw [HG.out.t_eq hmem] at q1'
      have hdl := HG.out.dst_lt hmem
      have hdl' : ((dst (ar l j) : Nat) : Int) < n := by omega
      have k1 := tk.cell hdl
      have k2 := tk.free (dst (ar l j))
      rw [HNEW.out] at k1
      obtain ⟨x, HX⟩ := named (dst (ar l j))
      rw [HX.out] at q1' k1 k2 hdl hdl' HPUT
      obtain ⟨⟨g0, g1⟩, -⟩ := two_cells ((hb.block _ sg).trans hg2)
      have HTS := Lib.hid (tk.set x true)
      have HBS := Lib.hid (hb.setCell (p := ⟨w2.heap.size, x, none⟩) (Nat.le_refl _) (.bool true))
      clear q0 q1 q2 hmem haa hat
      go_wp2_with fail
      go_quiet (fail)
      go_wp2_with fail
      exact ⟨⟨k + 1, by omega, by go_num, TbB.same (HTS.out.congr (fun v _ => HPUT.out v)) rfl, by first | exact HBS.out.trans (below_drewN _ _ _) | exact HBS.out.drew | (exact ⟨HBS.out.os, HBS.out.tape, HBS.out.output, HBS.out.size, HBS.out.block⟩)⟩, by simp [intOf]; omega⟩
    · have hkl' : ¬ (k : Int) < p.length := by omega
      go_wp2_with fail
      go_ret
      exact ⟨rfl, b2.trans (hb.mono b2.size)⟩
end Go.Proofs.Ytomlmphdnoempaa
