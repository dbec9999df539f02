/-
  Is a message too long, and may it be: the small calls.
-/
import Derived.Test.YtchmiiclogmheaaDoorMe0
import Derived.Laws.Cover1
namespace Go.Proofs.YtchmiiclogmheaaDoor.C2
open Go.RowKit
/-- A matrix's number is out of its bounds. -/
def outB (x : MX) : Bool := decide (min (min x.lv x.ce) x.ep < 0 ∨ 1073741824 < max (max x.lv x.ce) x.ep)
def longB (x : MX) : Bool := decide (16384 < x.ds.length)
set_option maxRecDepth 100000 in
set_option maxHeartbeats 1600000 in
theorem long1_any (x : MX) (a : Option Addr) (c : Nat) (w : World) : Calls Tryd.prog 45 #[.agg #[.int .i64 x.lv, .int .i64 x.ce, .int .i64 x.ep, .slice a x.ds.length c]] w fun e w' => e = .returned (.bool (longB x)) ∧ Below w.heap.size w w' := by
  obtain ⟨L, HL⟩ := named x.ds.length
  have HB : Hid (longB x = decide (16384 < L)) := by unfold longB; rw [HL.out]; exact Lib.hid rfl
  rw [HB.out, HL.out]
  have hz : (decide (16384 < L)) = decide ((16384 : Int) < (L : Int)) := by rw [Bool.eq_iff_iff]; simp; omega
  rw [hz]
  clear HB hz HL
  go_enter Tryd.func45, Tryd.ntmps45
  go_wp2_with fail
  go_ret
  exact ⟨rfl, (Below.refl _ _).alloc (Nat.le_refl _) _⟩
set_option maxRecDepth 100000 in
set_option maxHeartbeats 1600000 in
theorem out1_any (x : MX) (a : Option Addr) (c : Nat) (w : World) : Calls Tryd.prog 81 #[.agg #[.int .i64 x.lv, .int .i64 x.ce, .int .i64 x.ep, .slice a x.ds.length c]] w fun e w' => e = .returned (.bool (outB x)) ∧ Below w.heap.size w w' := by
  obtain ⟨lv, ce, ep, ds⟩ := x
  obtain ⟨mn, HN⟩ := named (min (min lv ce) ep)
  obtain ⟨mx, HM⟩ := named (max (max lv ce) ep)
  have HB : Hid (outB ⟨lv, ce, ep, ds⟩ = decide (mn < 0 ∨ 1073741824 < mx)) := by unfold outB; rw [HN.out, HM.out]; exact Lib.hid rfl
  rw [HB.out]
  have m0 : (if ce < lv then ce else lv) = min lv ce := by split <;> omega
  have m1 : (if ep < min lv ce then ep else min lv ce) = mn := by
    have := HN.out
    split <;> omega
  have m2 : (if lv < ce then ce else lv) = max lv ce := by split <;> omega
  have m3 : (if max lv ce < ep then ep else max lv ce) = mx := by
    have := HM.out
    split <;> omega
  by_cases h1 : mn < 0
  · rw [show decide (mn < 0 ∨ 1073741824 < mx) = true from decide_eq_true (Or.inl h1)]
    go_enter Tryd.func81, Tryd.ntmps81
    go_wp2_with fail
    go_ret
    exact ⟨rfl, (Below.refl _ _).alloc (Nat.le_refl _) _⟩
  · by_cases h2 : 1073741824 < mx
    · rw [show decide (mn < 0 ∨ 1073741824 < mx) = true from decide_eq_true (Or.inr h2)]
      go_enter Tryd.func81, Tryd.ntmps81
      go_wp2_with fail
      go_ret
      exact ⟨rfl, (Below.refl _ _).alloc (Nat.le_refl _) _⟩
    · rw [show decide (mn < 0 ∨ 1073741824 < mx) = false from decide_eq_false (fun h => h.elim h1 h2)]
      go_enter Tryd.func81, Tryd.ntmps81
      go_wp2_with fail
      go_ret
      exact ⟨rfl, (Below.refl _ _).alloc (Nat.le_refl _) _⟩
/-- Does a function tell a property of matrices? -/
def Tells (F : Nat) (q : MX → Bool) : Prop := ∀ (x : MX) (a : Option Addr) (c : Nat) (w : World), Calls Tryd.prog F #[.agg #[.int .i64 x.lv, .int .i64 x.ce, .int .i64 x.ep, .slice a x.ds.length c]] w fun e w' => e = .returned (.bool (q x)) ∧ Below w.heap.size w w'
theorem any_split (q : MX → Bool) (l : List MX) (k : Nat) (hk : k < l.length) (h2 : q (mat l k) = true) : l.any q = true := by
  rw [List.any_eq_true]
  refine ⟨l[k], List.getElem_mem _, ?_⟩
  unfold mat at h2
  simpa [List.getD, hk] using h2
theorem any_take (q : MX → Bool) (l : List MX) (k : Nat) (hk : k < l.length) (h : (l.take k).any q = false) (h2 : q (mat l k) = false) : (l.take (k + 1)).any q = false := by
  rw [List.take_succ_eq_append_getElem hk, List.any_append, h]
  unfold mat at h2
  simp only [List.getD, List.getElem?_eq_getElem hk, Option.getD_some] at h2
  simp [h2]
set_option maxRecDepth 100000 in
set_option maxHeartbeats 3200000 in
theorem index45_any (q : MX → Bool) (hq : Tells 45 q) (a : Option Addr) (l : List MX) (c : Nat) (w : World) (hl : l.length ≤ 140737488351232) (h : Mts w a l) : Calls Tryd.prog 78 #[.slice a l.length c, .func (.func 45) #[] #[]] w fun e w' => (∃ i : Int, e = .returned (.int .i64 i) ∧ decide (0 ≤ i) = l.any q) ∧ Below w.heap.size w w' := by
  obtain ⟨b, o, hab⟩ := h.get
  have HA := Lib.hid hab
  have HQ := Lib.hid hq
  obtain ⟨L, HL⟩ := named l.length
  rw [HL.out] at HA hl ⊢
  clear h hab hq
  go_enter Tryd.func78, Tryd.ntmps78
  go_wp2_with fail
  go_loopw [8] (fun i wr => ∃ k : Nat, k ≤ L ∧ i = .int .i64 k ∧ Hid ((l.take k).any q = false) ∧ Hid (Below w.heap.size w wr)) (fun i _ => L - (intOf i).toNat)
  case atStart => exact ⟨0, by omega, rfl, Lib.hid rfl, Below.refl _ _⟩
  case round =>
    obtain ⟨k, hk, rfl, HK, HB⟩ := hrel
    by_cases hlt : k < L
    · obtain ⟨rfl, hb, hat⟩ := HA.out (by omega)
      obtain ⟨x, cx, _, p0, p1, p2, p3⟩ := hat k hlt
      have q0 := (HB.out.cell (p := ⟨b, o + k * 4, none⟩) hb).trans p0
      have q1 := (HB.out.cell (p := ⟨b, o + k * 4 + 1, none⟩) hb).trans p1
      have q2 := (HB.out.cell (p := ⟨b, o + k * 4 + 2, none⟩) hb).trans p2
      have q3 := (HB.out.cell (p := ⟨b, o + k * 4 + 3, none⟩) hb).trans p3
      have HC := Lib.hid (HQ.out (mat l k) x cx wr)
      clear p0 p1 p2 p3 hat HA
      obtain ⟨B, HBB⟩ := named (q (mat l k))
      rw [HBB.out] at HC
      generalize hX : mat l k = X at *
      go_wp2_with fail
      refine HC.out.mono ?_
      rintro e w2 ⟨rfl, hb2⟩
      have HB2 : Hid (Below w.heap.size w w2) := Lib.hid (HB.out.trans (hb2.mono HB.out.size))
      clear hb2 HC q0 q1 q2 q3
      cases B
      · go_wp2_with fail
        exact ⟨⟨k + 1, by omega, by go_num, any_take q l k (by rw [HL.out]; exact hlt) HK.out (by rw [hX]; exact HBB.out), HB2⟩, by simp [intOf]; omega⟩
      · go_wp2_with fail
        go_ret
        refine ⟨⟨_, rfl, ?_⟩, HB2.out⟩
        rw [any_split q l k (by rw [HL.out]; exact hlt) (by rw [hX]; exact HBB.out)]
        simp
    · obtain rfl : k = L := by omega
      go_wp2_with fail
      go_ret
      refine ⟨⟨_, rfl, ?_⟩, HB.out⟩
      have e := HK.out
      rw [← HL.out, List.take_length] at e
      rw [e]
      rfl
set_option maxRecDepth 100000 in
set_option maxHeartbeats 1600000 in
theorem contains45_any (q : MX → Bool) (hq : Tells 45 q) (a : Option Addr) (l : List MX) (c : Nat) (w : World) (hl : l.length ≤ 140737488351232) (h : Mts w a l) : Calls Tryd.prog 44 #[.slice a l.length c, .func (.func 45) #[] #[]] w fun e w' => e = .returned (.bool (l.any q)) ∧ Below w.heap.size w w' := by
  have HC := Lib.hid (index45_any q hq a l c w hl h)
  clear h hq
  go_enter Tryd.func44, Tryd.ntmps44
  go_wp2_with fail
  refine HC.out.mono ?_
  rintro e w2 ⟨⟨i, rfl, hi⟩, hb⟩
  have HI := Lib.hid hi
  clear hi
  go_wp2_with fail
  go_ret
  exact ⟨ret_bool HI.out, hb⟩
set_option maxRecDepth 100000 in
set_option maxHeartbeats 3200000 in
theorem index81_any (q : MX → Bool) (hq : Tells 81 q) (a : Option Addr) (l : List MX) (c : Nat) (w : World) (hl : l.length ≤ 140737488351232) (h : Mts w a l) : Calls Tryd.prog 78 #[.slice a l.length c, .func (.func 81) #[] #[]] w fun e w' => (∃ i : Int, e = .returned (.int .i64 i) ∧ decide (0 ≤ i) = l.any q) ∧ Below w.heap.size w w' := by
  obtain ⟨b, o, hab⟩ := h.get
  have HA := Lib.hid hab
  have HQ := Lib.hid hq
  obtain ⟨L, HL⟩ := named l.length
  rw [HL.out] at HA hl ⊢
  clear h hab hq
  go_enter Tryd.func78, Tryd.ntmps78
  go_wp2_with fail
  go_loopw [8] (fun i wr => ∃ k : Nat, k ≤ L ∧ i = .int .i64 k ∧ Hid ((l.take k).any q = false) ∧ Hid (Below w.heap.size w wr)) (fun i _ => L - (intOf i).toNat)
  case atStart => exact ⟨0, by omega, rfl, Lib.hid rfl, Below.refl _ _⟩
  case round =>
    obtain ⟨k, hk, rfl, HK, HB⟩ := hrel
    by_cases hlt : k < L
    · obtain ⟨rfl, hb, hat⟩ := HA.out (by omega)
      obtain ⟨x, cx, _, p0, p1, p2, p3⟩ := hat k hlt
      have q0 := (HB.out.cell (p := ⟨b, o + k * 4, none⟩) hb).trans p0
      have q1 := (HB.out.cell (p := ⟨b, o + k * 4 + 1, none⟩) hb).trans p1
      have q2 := (HB.out.cell (p := ⟨b, o + k * 4 + 2, none⟩) hb).trans p2
      have q3 := (HB.out.cell (p := ⟨b, o + k * 4 + 3, none⟩) hb).trans p3
      have HC := Lib.hid (HQ.out (mat l k) x cx wr)
      clear p0 p1 p2 p3 hat HA
      obtain ⟨B, HBB⟩ := named (q (mat l k))
      rw [HBB.out] at HC
      generalize hX : mat l k = X at *
      go_wp2_with fail
      refine HC.out.mono ?_
      rintro e w2 ⟨rfl, hb2⟩
      have HB2 : Hid (Below w.heap.size w w2) := Lib.hid (HB.out.trans (hb2.mono HB.out.size))
      clear hb2 HC q0 q1 q2 q3
      cases B
      · go_wp2_with fail
        exact ⟨⟨k + 1, by omega, by go_num, any_take q l k (by rw [HL.out]; exact hlt) HK.out (by rw [hX]; exact HBB.out), HB2⟩, by simp [intOf]; omega⟩
      · go_wp2_with fail
        go_ret
        refine ⟨⟨_, rfl, ?_⟩, HB2.out⟩
        rw [any_split q l k (by rw [HL.out]; exact hlt) (by rw [hX]; exact HBB.out)]
        simp
    · obtain rfl : k = L := by omega
      go_wp2_with fail
      go_ret
      refine ⟨⟨_, rfl, ?_⟩, HB.out⟩
      have e := HK.out
      rw [← HL.out, List.take_length] at e
      rw [e]
      rfl
set_option maxRecDepth 100000 in
set_option maxHeartbeats 1600000 in
theorem contains81_any (q : MX → Bool) (hq : Tells 81 q) (a : Option Addr) (l : List MX) (c : Nat) (w : World) (hl : l.length ≤ 140737488351232) (h : Mts w a l) : Calls Tryd.prog 44 #[.slice a l.length c, .func (.func 81) #[] #[]] w fun e w' => e = .returned (.bool (l.any q)) ∧ Below w.heap.size w w' := by
  have HC := Lib.hid (index81_any q hq a l c w hl h)
  clear h hq
  go_enter Tryd.func44, Tryd.ntmps44
  go_wp2_with fail
  refine HC.out.mono ?_
  rintro e w2 ⟨⟨i, rfl, hi⟩, hb⟩
  have HI := Lib.hid hi
  clear hi
  go_wp2_with fail
  go_ret
  exact ⟨ret_bool HI.out, hb⟩
end Go.Proofs.YtchmiiclogmheaaDoor.C2
