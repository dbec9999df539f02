/-
  Contracts of the reference's Ends, ends, Out and In.
-/
import Derived.Test.YtkhgnefnmibomaaRCopy
namespace Go.Proofs.Ytkhgnefnmibomaa
open Go.RowKit
/-- A list of numbers that a call made and told alone. -/
def Told (w w' : World) (e : Ending) (xs : List Int) : Prop :=
  ∃ a c, e = .returned (.slice a xs.length c) ∧ w'.ownsRow w.heap.size 3 1 (.slice a xs.length c) xs.length (cellsI xs) ∧ Below w.heap.size w w'
theorem one_new (w : World) (x : Int) : ∀ j u, [Value.int .i64 x][j]? = some u → (w.alloc (.cells #[.int .i64 x] 3)).cell? ((⟨w.heap.size, 0, none⟩ : Addr).add j) = some u := by
  intro j u hu
  match j, hu with
  | 0, hu => simp at hu; subst hu; simp [Addr.add]
set_option maxHeartbeats 1600000 in
theorem rends_out (N v : Int) (a : Option Addr) (l : List A) (cap : Nat) (w : World) (hl : l.length ≤ 8192) (hr : Arcs w a l) :
    Calls Try.prog 54 #[.agg #[.int .i64 N, .slice a l.length cap], .int .i64 v, .bool false] w fun e w' => Told w w' e (outs l v) := by
  obtain ⟨i0, hi, hz0, hz1, hz2⟩ := info_parts info3
  have hb0 : Below w.heap.size w (w.alloc (.cells #[.int .i64 N, .slice a l.length cap] 24)) := (Below.refl _ _).alloc (Nat.le_refl _) _
  obtain ⟨b, o, hab⟩ := hr.b.get
  unfold outs
  obtain ⟨q, HQ⟩ := named (fun k => decide ((l.getD k A.zero).f = v))
  rw [HQ.out]
  go_enter Try.func54, Try.ntmps54
  go_wp2_with fail
  go_loopw [7, 8] (fun r i wr => ∃ k : Nat, k ≤ l.length ∧ i = .int .i64 k ∧ wr.ownsRow (w.heap.size + 1) 3 1 r (hits q k).length (cellsI (hits q k)) ∧ wr.heap[w.heap.size]? = some (.cells #[.int .i64 N, .slice a l.length cap] 24) ∧ Below w.heap.size w wr) (fun _ i _ => l.length - (intOf i).toNat)
  case atStart => exact ⟨0, Nat.zero_le _, rfl, World.ownsRow_nil _ _ _ _, heap_top w _, hb0⟩
  case round =>
    obtain ⟨k, hk, rfl, hown, hg, hb⟩ := hrel
    obtain ⟨⟨g0, g1⟩, gf0, gf1⟩ := two_cells hg
    have hsz : w.heap.size < wr.heap.size := lt_of_block hg
    by_cases hlt : k < l.length
    · obtain ⟨rfl, hbl, hat⟩ := hab (by omega)
      obtain ⟨c0, c1, c2⟩ := (hat k hlt).onB hbl hb
      have HK : Hid (q k = decide ((l.getD k A.zero).f = v)) := by show _ = _; rw [← HQ.out]
      have HL := hits_len q k
      generalize l.getD k A.zero = x at *
      by_cases hv : x.f = v
      · have hv' : (x.f == v) = true := by simpa using hv
        have HT : Hid (cellsI (hits q k) ++ [.int .i64 (k : Int)] = cellsI (hits q (k + 1))) := by show _ = _; rw [hits_t (by rw [HK.out]; simpa using hv), cellsI_snoc]
        have HTl : Hid ((hits q k).length + 1 = (hits q (k + 1)).length) := by show _ = _; rw [hits_t (by rw [HK.out]; simpa using hv)]; simp
        clear hv
        obtain ⟨av, cv, hv⟩ := own_slice hown
        subst hv
        generalize hits q k = xs at *
        go_wp2_with (at_builtin; refine wpList_append_own _ rfl (.tmp 41) (.tmp 43) 29 rfl (w.heap.size + 1) 3 i0 (.int .i64 0) 1 8 Try.underlying29 hi hz0 hz1 hz2 rfl (by decide) (.slice av xs.length cv) xs.length (cellsI xs) rfl (hown.alloc _) ⟨wr.heap.size, 0, none⟩ 1 1 [.int .i64 (k : Int)] rfl rfl (one_new wr (k : Int)) (one_i64 _) (by unfold maxLen; omega) (by omega) (by simp; omega) ?_; intro v6 w6 hown6 hgrow6 hnil6)
        rw [HT.out, HTl.out] at hown6
        have hg6 := (hgrow6.block _ (by simp; omega) (by intro h; have := (hown.lt _ h.symm).1; omega)).trans ((Below.heap_alloc wr _ _ hsz).trans hg)
        have hb6 : Below w.heap.size w w6 := (hb.alloc (by omega) _).grown hgrow6 (by simp; omega) (by intro k hk; have := (hown.lt k hk).1; omega)
        exact ⟨⟨k + 1, by omega, by go_num, hown6, hg6, hb6⟩, by simp [intOf]; omega⟩
      · have hv' : (x.f == v) = false := beq_eq_false_iff_ne.2 hv
        have HT : Hid (hits q (k + 1) = hits q k) := hits_f (by rw [HK.out]; simpa using hv)
        clear hv
        go_wp2_with fail
        exact ⟨⟨k + 1, by omega, by go_num, by rw [HT.out]; exact hown, hg, hb⟩, by simp [intOf]; omega⟩
    · have hkl : k = l.length := by omega
      rw [hkl] at hown
      clear hkl
      obtain ⟨av, cv, hv⟩ := own_slice hown
      subst hv
      go_wp2_with fail
      go_ret
      exact ⟨av, cv, rfl, own_base (base := w.heap.size + 1) (base' := w.heap.size) hown (Nat.le_succ _), hb⟩
set_option maxHeartbeats 1600000 in
theorem rends_in (N v : Int) (a : Option Addr) (l : List A) (cap : Nat) (w : World) (hl : l.length ≤ 8192) (hr : Arcs w a l) :
    Calls Try.prog 54 #[.agg #[.int .i64 N, .slice a l.length cap], .int .i64 v, .bool true] w fun e w' => Told w w' e (ins l v) := by
  obtain ⟨i0, hi, hz0, hz1, hz2⟩ := info_parts info3
  have hb0 : Below w.heap.size w (w.alloc (.cells #[.int .i64 N, .slice a l.length cap] 24)) := (Below.refl _ _).alloc (Nat.le_refl _) _
  obtain ⟨b, o, hab⟩ := hr.b.get
  unfold ins
  obtain ⟨q, HQ⟩ := named (fun k => decide ((l.getD k A.zero).t = v))
  rw [HQ.out]
  go_enter Try.func54, Try.ntmps54
  go_wp2_with fail
  go_loopw [7, 8] (fun r i wr => ∃ k : Nat, k ≤ l.length ∧ i = .int .i64 k ∧ wr.ownsRow (w.heap.size + 1) 3 1 r (hits q k).length (cellsI (hits q k)) ∧ wr.heap[w.heap.size]? = some (.cells #[.int .i64 N, .slice a l.length cap] 24) ∧ Below w.heap.size w wr) (fun _ i _ => l.length - (intOf i).toNat)
  case atStart => exact ⟨0, Nat.zero_le _, rfl, World.ownsRow_nil _ _ _ _, heap_top w _, hb0⟩
  case round =>
    obtain ⟨k, hk, rfl, hown, hg, hb⟩ := hrel
    obtain ⟨⟨g0, g1⟩, gf0, gf1⟩ := two_cells hg
    have hsz : w.heap.size < wr.heap.size := lt_of_block hg
    by_cases hlt : k < l.length
    · obtain ⟨rfl, hbl, hat⟩ := hab (by omega)
      obtain ⟨c0, c1, c2⟩ := (hat k hlt).onB hbl hb
      have HK : Hid (q k = decide ((l.getD k A.zero).t = v)) := by show _ = _; rw [← HQ.out]
      have HL := hits_len q k
      generalize l.getD k A.zero = x at *
      by_cases hv : x.t = v
      · have hv' : (x.t == v) = true := by simpa using hv
        have HT : Hid (cellsI (hits q k) ++ [.int .i64 (k : Int)] = cellsI (hits q (k + 1))) := by show _ = _; rw [hits_t (by rw [HK.out]; simpa using hv), cellsI_snoc]
        have HTl : Hid ((hits q k).length + 1 = (hits q (k + 1)).length) := by show _ = _; rw [hits_t (by rw [HK.out]; simpa using hv)]; simp
        clear hv
        obtain ⟨av, cv, hv⟩ := own_slice hown
        subst hv
        generalize hits q k = xs at *
        go_wp2_with (at_builtin; refine wpList_append_own _ rfl (.tmp 41) (.tmp 43) 29 rfl (w.heap.size + 1) 3 i0 (.int .i64 0) 1 8 Try.underlying29 hi hz0 hz1 hz2 rfl (by decide) (.slice av xs.length cv) xs.length (cellsI xs) rfl (hown.alloc _) ⟨wr.heap.size, 0, none⟩ 1 1 [.int .i64 (k : Int)] rfl rfl (one_new wr (k : Int)) (one_i64 _) (by unfold maxLen; omega) (by omega) (by simp; omega) ?_; intro v6 w6 hown6 hgrow6 hnil6)
        rw [HT.out, HTl.out] at hown6
        have hg6 := (hgrow6.block _ (by simp; omega) (by intro h; have := (hown.lt _ h.symm).1; omega)).trans ((Below.heap_alloc wr _ _ hsz).trans hg)
        have hb6 : Below w.heap.size w w6 := (hb.alloc (by omega) _).grown hgrow6 (by simp; omega) (by intro k hk; have := (hown.lt k hk).1; omega)
        exact ⟨⟨k + 1, by omega, by go_num, hown6, hg6, hb6⟩, by simp [intOf]; omega⟩
      · have hv' : (x.t == v) = false := beq_eq_false_iff_ne.2 hv
        have HT : Hid (hits q (k + 1) = hits q k) := hits_f (by rw [HK.out]; simpa using hv)
        clear hv
        go_wp2_with fail
        exact ⟨⟨k + 1, by omega, by go_num, by rw [HT.out]; exact hown, hg, hb⟩, by simp [intOf]; omega⟩
    · have hkl : k = l.length := by omega
      rw [hkl] at hown
      clear hkl
      obtain ⟨av, cv, hv⟩ := own_slice hown
      subst hv
      go_wp2_with fail
      go_ret
      exact ⟨av, cv, rfl, own_base (base := w.heap.size + 1) (base' := w.heap.size) hown (Nat.le_succ _), hb⟩
/-- The list of one side. -/
def sideL (b : Bool) (l : List A) (v : Int) : List Int := if b then ins l v else outs l v
theorem rends_any (b : Bool) (N v : Int) (a : Option Addr) (l : List A) (cap : Nat) (w : World) (hl : l.length ≤ 8192) (hr : Arcs w a l) :
    Calls Try.prog 54 #[.agg #[.int .i64 N, .slice a l.length cap], .int .i64 v, .bool b] w fun e w' => Told w w' e (sideL b l v) := by
  cases b
  · exact rends_out N v a l cap w hl hr
  · exact rends_in N v a l cap w hl hr
set_option maxHeartbeats 800000 in
theorem rside_any (b : Bool) (N v : Int) (a : Option Addr) (l : List A) (cap : Nat) (w : World) (hl : l.length ≤ 9223372036854775807) (hr : Arcs w a l) :
    Calls Try.prog 38 #[.agg #[.int .i64 N, .slice a l.length cap], .int .i64 v, .bool b] w fun e w' => Made w w' e (outL N l v (sideL b l v)) (outE N l v) := by
  have hb0 : Below w.heap.size w (w.alloc (.cells #[.int .i64 N, .slice a l.length cap] 24)) := (Below.refl _ _).alloc (Nat.le_refl _) _
  have hr0 := hr.on hb0
  obtain ⟨T, HT⟩ := named (chkAt N l)
  by_cases hE : chkE N l = 0
  · by_cases hv : okV N v = true
    · rw [show outE N l v = 0 by simp [outE, hE, hv], show outL N l v (sideL b l v) = sideL b l v by simp [outL, outE, hE, hv]]
      obtain ⟨hv0, hv1⟩ := okV_t hv
      have hlen := (chk_zero hE).2.2.1
      obtain ⟨xs, HXS⟩ := named (sideL b l v)
      rw [HXS.out]
      clear hv
      go_enter Try.func38, Try.ntmps38
      go_wp2_with fail
      refine (rcheck_any N a l cap _ hl hr0).mono ?_
      rintro e w1 ⟨rfl, hb1⟩
      rw [hE, HT.out]
      have hg1 := (hb1.block _ (by simp)).trans (heap_top w _)
      have b1 := bthen hb0 hb1 (by simp)
      have s1 := lt_of_block hg1
      clear hb1 hb0
      obtain ⟨⟨g0, g1⟩, gf0, gf1⟩ := two_cells hg1
      go_wp2_with fail
      refine (rends_any b N v a l cap _ hlen (hr.on b1)).mono ?_
      rw [HXS.out]
      rintro e w2 ⟨a2, c2, rfl, hown2, hb2⟩
      go_wp2_with fail
      go_ret2
      exact ⟨a2, c2, rfl, own_base hown2 (by omega), bthen b1 hb2 (by omega)⟩
    · have hv' : okV N v = false := by simpa using hv
      rw [show outE N l v = 5 by simp [outE, hE, hv'], show outL N l v (sideL b l v) = [] by simp [outL, outE, hE, hv']]
      clear hv
      by_cases q1 : v < 0
      · clear hv'
        go_enter Try.func38, Try.ntmps38
        go_wp2_with fail
        refine (rcheck_any N a l cap _ hl hr0).mono ?_
        rintro e w1 ⟨rfl, hb1⟩
        rw [hE, HT.out]
        have hg1 := (hb1.block _ (by simp)).trans (heap_top w _)
        have b1 := bthen hb0 hb1 (by simp)
        clear hb1 hb0
        obtain ⟨⟨g0, g1⟩, gf0, gf1⟩ := two_cells hg1
        go_wp2_with fail
        go_ret2
        exact made_nil b1
      · have q2 : ¬ v < N := by
          intro h
          simp [okV, h] at hv'
          omega
        clear hv'
        go_enter Try.func38, Try.ntmps38
        go_wp2_with fail
        refine (rcheck_any N a l cap _ hl hr0).mono ?_
        rintro e w1 ⟨rfl, hb1⟩
        rw [hE, HT.out]
        have hg1 := (hb1.block _ (by simp)).trans (heap_top w _)
        have b1 := bthen hb0 hb1 (by simp)
        clear hb1 hb0
        obtain ⟨⟨g0, g1⟩, gf0, gf1⟩ := two_cells hg1
        go_wp2_with fail
        go_ret2
        exact made_nil b1
  · rw [show outE N l v = chkE N l by simp [outE, hE], show outL N l v (sideL b l v) = [] by simp [outL, outE, hE]]
    obtain ⟨E, HE⟩ := named (chkE N l)
    rw [HE.out] at hE ⊢
    have hE' : (E == 0) = false := beq_eq_false_iff_ne.2 hE
    clear hE
    go_enter Try.func38, Try.ntmps38
    go_wp2_with fail
    refine (rcheck_any N a l cap _ hl hr0).mono ?_
    rintro e w1 ⟨rfl, hb1⟩
    rw [HE.out, HT.out]
    have b1 := bthen hb0 hb1 (by simp)
    go_wp2_with fail
    go_ret2
    exact made_nil b1
set_option maxHeartbeats 400000 in
theorem rout_any (N v : Int) (a : Option Addr) (l : List A) (cap : Nat) (w : World) (hl : l.length ≤ 9223372036854775807) (hr : Arcs w a l) :
    Calls Try.prog 13 #[.agg #[.int .i64 N, .slice a l.length cap], .int .i64 v] w fun e w' => Made w w' e (outL N l v (outs l v)) (outE N l v) := by
  have hr0 := hr.on ((Below.refl _ _).alloc (Nat.le_refl _) (.cells #[.int .i64 N, .slice a l.length cap] 24))
  have HX := Lib.hid (rside_any false N v a l cap _ hl hr0)
  rw [show sideL false l v = outs l v from rfl] at HX
  obtain ⟨xs, HXS⟩ := named (outL N l v (outs l v))
  obtain ⟨E, HE⟩ := named (outE N l v)
  rw [HXS.out, HE.out] at HX ⊢
  go_enter Try.func13, Try.ntmps13
  go_wp2_with fail
  refine HX.out.mono ?_
  rintro e w1 h1
  obtain ⟨a1, q1, rfl, hown1, hb1⟩ := made_up h1
  go_wp2_with fail
  go_ret2
  exact ⟨a1, q1, rfl, hown1, hb1⟩
set_option maxHeartbeats 400000 in
theorem rin_any (N v : Int) (a : Option Addr) (l : List A) (cap : Nat) (w : World) (hl : l.length ≤ 9223372036854775807) (hr : Arcs w a l) :
    Calls Try.prog 16 #[.agg #[.int .i64 N, .slice a l.length cap], .int .i64 v] w fun e w' => Made w w' e (outL N l v (ins l v)) (outE N l v) := by
  have hr0 := hr.on ((Below.refl _ _).alloc (Nat.le_refl _) (.cells #[.int .i64 N, .slice a l.length cap] 24))
  have HX := Lib.hid (rside_any true N v a l cap _ hl hr0)
  rw [show sideL true l v = ins l v from rfl] at HX
  obtain ⟨xs, HXS⟩ := named (outL N l v (ins l v))
  obtain ⟨E, HE⟩ := named (outE N l v)
  rw [HXS.out, HE.out] at HX ⊢
  go_enter Try.func16, Try.ntmps16
  go_wp2_with fail
  refine HX.out.mono ?_
  rintro e w1 h1
  obtain ⟨a1, q1, rfl, hown1, hb1⟩ := made_up h1
  go_wp2_with fail
  go_ret2
  exact ⟨a1, q1, rfl, hown1, hb1⟩
end Go.Proofs.Ytkhgnefnmibomaa
