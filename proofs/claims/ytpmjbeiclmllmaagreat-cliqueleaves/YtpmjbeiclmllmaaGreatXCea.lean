/-
  Weights in memory; weighed. Contracts of cell's chosenArcs, for each function that is handed to it. nest.lookInto, Check, Many, Members. nest.Children and Parent. Contracts of what is handed to chosen: Boundary$1, Inner$1, Between$1; lookInto of cell. Contracts of Boundary, Inner, Outer, Between. A place of clique: inner, boundary; isEpoch, checkJob.
-/
import Derived.Test.YtpmjbeiclmllmaaGreatCe2
import Derived.Test.YtpmjbeiclmllmaaGreatCe3
import Derived.Test.YtpmjbeiclmllmaaGreatXNsa
import Derived.Deep.RegionHeld3
import Derived.Laws.EntriesVeiled
namespace Go.Proofs.YtpmjbeiclmllmaaGreat
open Go.RowKit
set_option maxRecDepth 100000 in
set_option maxHeartbeats 1600000 in
theorem chAI_any (k b1 b2 : Nat) (u0 u1 : Value) (a : Option Addr) (l : List A) (cap : Nat) (P : A → Bool) (w : World) (hk : k < l.length) (hl : l.length ≤ 8192) (c1 : w.cell? ⟨b1, 0, none⟩ = some (.func (.func 55) #[] #[u0, u1])) (c2 : w.cell? ⟨b2, 1, none⟩ = some (.slice a l.length cap)) (hr : Arcs w a l)
    (hW : ∀ W2, Below w.heap.size w W2 → Calls Tryz.prog 55 #[.agg #[.int .i64 (l.getD k A.zero).f, .int .i64 (l.getD k A.zero).t, .int .u32 (l.getD k A.zero).w], u0, u1] W2 fun e w' => e = .returned (.bool (P (l.getD k A.zero))) ∧ Below W2.heap.size W2 w') :
    Calls Tryz.prog 99 #[.int .i64 k, .pointer (some ⟨b1, 0, none⟩), .pointer (some ⟨b2, 0, none⟩)] w fun e w' => e = .returned (.bool (arP l P k)) ∧ Below w.heap.size w w' := by
  obtain ⟨ix, ox, hix⟩ := hr.get
  obtain ⟨rfl, hbl, hat⟩ := hix (by omega)
  obtain ⟨x0, x1, x2⟩ := hat k hk
  have hl1 := World.block_lt_of_cell? w _ c1
  have hl2 := World.block_lt_of_cell? w _ c2
  have hk' : (k : Int) < l.length := by omega
  have HW := Lib.hid hW
  have HP : Hid (arP l P k = P (l.getD k A.zero)) := rfl
  rw [HP.out]
  generalize P (l.getD k A.zero) = R at *
  generalize l.getD k A.zero = x at *
  clear hat hix hr HP hW
  have X0 := Lib.hid x0
  have X1 := Lib.hid x1
  have X2 := Lib.hid x2
  have C1 := Lib.hid c1
  have C2 := Lib.hid c2
  have HBD : Hid (Below w.heap.size w w.drew) := (Below.refl _ _).drew
  go_enter Tryz.func99, Tryz.ntmps99
  go_wp2_with fail
  go_region_held3 (fun w' => w'.cell? ⟨b1, 0, none⟩ = some (.func (.func 55) #[] #[u0, u1]) ∧ w'.cell? ⟨b2, 1, none⟩ = some (.slice (some ⟨ix, ox, none⟩) l.length cap) ∧ w'.cell? ⟨ix, ox + k * 3, none⟩ = some (.int .i64 x.f) ∧ w'.cell? ⟨ix, ox + k * 3 + 1, none⟩ = some (.int .i64 x.t) ∧ w'.cell? ⟨ix, ox + k * 3 + 2, none⟩ = some (.int .u32 x.w)) (go_keep) ((go_at_call 55; refine (HW.out _ HBD.out).mono ?_; rintro e w2 ⟨rfl, hb2⟩; have hb2 := HBD.out.trans hb2; have v0 := (hb2.cell (p := ⟨b1, 0, none⟩) hl1).trans C1.out; have v1 := (hb2.cell (p := ⟨b2, 1, none⟩) hl2).trans C2.out; have v2 := (hb2.cell (p := ⟨ix, ox + k * 3, none⟩) hbl).trans X0.out; have v3 := (hb2.cell (p := ⟨ix, ox + k * 3 + 1, none⟩) hbl).trans X1.out; have v4 := (hb2.cell (p := ⟨ix, ox + k * 3 + 2, none⟩) hbl).trans X2.out; have HB2 := Lib.hid hb2; clear hb2))
  go_wp2_with fail
  go_ret
  exact ⟨rfl, HB2.out⟩
set_option maxRecDepth 100000 in
set_option maxHeartbeats 1600000 in
theorem cArcsI_any (N : Int) (u0 u1 : Value) (a : Option Addr) (l : List A) (cap : Nat) (P : A → Bool) (w : World) (hl : l.length ≤ 8192) (hr : Arcs w a l)
    (hW : ∀ k, k < l.length → ∀ W2, Below w.heap.size w W2 → Calls Tryz.prog 55 #[.agg #[.int .i64 (l.getD k A.zero).f, .int .i64 (l.getD k A.zero).t, .int .u32 (l.getD k A.zero).w], u0, u1] W2 fun e w' => e = .returned (.bool (P (l.getD k A.zero))) ∧ Below W2.heap.size W2 w') :
    Calls Tryz.prog 54 #[.agg #[.int .i64 N, .slice a l.length cap], .func (.func 55) #[] #[u0, u1]] w fun e w' => ∃ v, e = .returned (.slice v (arL l P).length (arL l P).length) ∧ RowI w' w.heap.size v (ints (arL l P)) ∧ Below w.heap.size w w' := by
  have hb0 : Below w.heap.size w ((w.alloc (.cells #[.int .i64 N, .slice a l.length cap] 24)).alloc (.cells #[.func (.func 55) #[] #[u0, u1]] 95)) := (top2 w _ _).2.2.1
  have hg0 := (top2 w (.cells #[.int .i64 N, .slice a l.length cap] 24) (.cells #[.func (.func 55) #[] #[u0, u1]] 95)).1
  have hg1 := (top2 w (.cells #[.int .i64 N, .slice a l.length cap] 24) (.cells #[.func (.func 55) #[] #[u0, u1]] 95)).2.1
  have hsz := (top2 w (.cells #[.int .i64 N, .slice a l.length cap] 24) (.cells #[.func (.func 55) #[] #[u0, u1]] 95)).2.2.2
  obtain ⟨⟨a0, a1⟩, _⟩ := two_cells hg0
  have a2 := cell_of_one hg1
  have HA1 := Lib.hid a1
  have HA2 := Lib.hid a2
  have hmf : ∀ (fn : Fn) (first cap : Array Value) (w : World), (Instr.makeFunc fn first cap).run Tryz.prog w = .ok (.func fn first cap) w := fun _ _ _ _ => rfl
  have HB0 := Lib.hid hb0
  have HR := Lib.hid hr
  have HW := Lib.hid hW
  have HAL : Hid (arL l P = cho (arP l P) l.length) := rfl
  rw [HAL.out]
  clear hr hb0 hg0 hg1 hW HAL
  generalize hp : w.heap.size = p at *
  go_enter Tryz.func54, Tryz.ntmps54
  go_wp2_with fail
  generalize hZ : (w.alloc (.cells #[.int .i64 N, .slice a l.length cap] 24)).alloc (.cells #[.func (.func 55) #[] #[u0, u1]] 95) = Z at *
  clear hZ
  refine (chosenA_any l.length (arP l P) (.pointer (some ⟨p + 1, 0, none⟩)) (.pointer (some ⟨p, 0, none⟩)) Z hl (fun k hk W2 hb => ?_)).mono ?_
  · have hbw : Below p w W2 := HB0.out.trans (hb.mono (by omega))
    refine chAI_any k (p + 1) p u0 u1 a l cap P W2 hk hl ((hb.cell (p := ⟨p + 1, 0, none⟩) (by show p + 1 < _; omega)).trans HA2.out) ((hb.cell (p := ⟨p, 1, none⟩) (by show p < _; omega)).trans HA1.out) (HR.out.on (hp ▸ hbw)) (fun W3 hb3 => HW.out k hk W3 (hbw.trans (hb3.mono ?_)))
    have := hb.size
    omega
  · rintro e w1 ⟨v, rfl, hrow, hb1⟩
    have HR1 := Lib.hid (hrow.base (C := p) (by omega))
    have HB1 : Hid (Below p w w1) := HB0.out.trans (hb1.mono (by omega))
    clear hrow hb1 a0 a1 a2
    go_wp2_with fail
    go_ret
    exact ⟨v, rfl, HR1.out, HB1.out⟩
set_option maxRecDepth 100000 in
set_option maxHeartbeats 1600000 in
theorem chAB_any (k b1 b2 : Nat) (u0 u1 u2 : Value) (a : Option Addr) (l : List A) (cap : Nat) (P : A → Bool) (w : World) (hk : k < l.length) (hl : l.length ≤ 8192) (c1 : w.cell? ⟨b1, 0, none⟩ = some (.func (.func 58) #[] #[u0, u1, u2])) (c2 : w.cell? ⟨b2, 1, none⟩ = some (.slice a l.length cap)) (hr : Arcs w a l)
    (hW : ∀ W2, Below w.heap.size w W2 → Calls Tryz.prog 58 #[.agg #[.int .i64 (l.getD k A.zero).f, .int .i64 (l.getD k A.zero).t, .int .u32 (l.getD k A.zero).w], u0, u1, u2] W2 fun e w' => e = .returned (.bool (P (l.getD k A.zero))) ∧ Below W2.heap.size W2 w') :
    Calls Tryz.prog 99 #[.int .i64 k, .pointer (some ⟨b1, 0, none⟩), .pointer (some ⟨b2, 0, none⟩)] w fun e w' => e = .returned (.bool (arP l P k)) ∧ Below w.heap.size w w' := by
  obtain ⟨ix, ox, hix⟩ := hr.get
  obtain ⟨rfl, hbl, hat⟩ := hix (by omega)
  obtain ⟨x0, x1, x2⟩ := hat k hk
  have hl1 := World.block_lt_of_cell? w _ c1
  have hl2 := World.block_lt_of_cell? w _ c2
  have hk' : (k : Int) < l.length := by omega
  have HW := Lib.hid hW
  have HP : Hid (arP l P k = P (l.getD k A.zero)) := rfl
  rw [HP.out]
  generalize P (l.getD k A.zero) = R at *
  generalize l.getD k A.zero = x at *
  clear hat hix hr HP hW
  have X0 := Lib.hid x0
  have X1 := Lib.hid x1
  have X2 := Lib.hid x2
  have C1 := Lib.hid c1
  have C2 := Lib.hid c2
  have HBD : Hid (Below w.heap.size w w.drew) := (Below.refl _ _).drew
  go_enter Tryz.func99, Tryz.ntmps99
  go_wp2_with fail
  go_region_held3 (fun w' => w'.cell? ⟨b1, 0, none⟩ = some (.func (.func 58) #[] #[u0, u1, u2]) ∧ w'.cell? ⟨b2, 1, none⟩ = some (.slice (some ⟨ix, ox, none⟩) l.length cap) ∧ w'.cell? ⟨ix, ox + k * 3, none⟩ = some (.int .i64 x.f) ∧ w'.cell? ⟨ix, ox + k * 3 + 1, none⟩ = some (.int .i64 x.t) ∧ w'.cell? ⟨ix, ox + k * 3 + 2, none⟩ = some (.int .u32 x.w)) (go_keep) ((go_at_call 58; refine (HW.out _ HBD.out).mono ?_; rintro e w2 ⟨rfl, hb2⟩; have hb2 := HBD.out.trans hb2; have v0 := (hb2.cell (p := ⟨b1, 0, none⟩) hl1).trans C1.out; have v1 := (hb2.cell (p := ⟨b2, 1, none⟩) hl2).trans C2.out; have v2 := (hb2.cell (p := ⟨ix, ox + k * 3, none⟩) hbl).trans X0.out; have v3 := (hb2.cell (p := ⟨ix, ox + k * 3 + 1, none⟩) hbl).trans X1.out; have v4 := (hb2.cell (p := ⟨ix, ox + k * 3 + 2, none⟩) hbl).trans X2.out; have HB2 := Lib.hid hb2; clear hb2))
  go_wp2_with fail
  go_ret
  exact ⟨rfl, HB2.out⟩
set_option maxRecDepth 100000 in
set_option maxHeartbeats 1600000 in
theorem cArcsB_any (N : Int) (u0 u1 u2 : Value) (a : Option Addr) (l : List A) (cap : Nat) (P : A → Bool) (w : World) (hl : l.length ≤ 8192) (hr : Arcs w a l)
    (hW : ∀ k, k < l.length → ∀ W2, Below w.heap.size w W2 → Calls Tryz.prog 58 #[.agg #[.int .i64 (l.getD k A.zero).f, .int .i64 (l.getD k A.zero).t, .int .u32 (l.getD k A.zero).w], u0, u1, u2] W2 fun e w' => e = .returned (.bool (P (l.getD k A.zero))) ∧ Below W2.heap.size W2 w') :
    Calls Tryz.prog 54 #[.agg #[.int .i64 N, .slice a l.length cap], .func (.func 58) #[] #[u0, u1, u2]] w fun e w' => ∃ v, e = .returned (.slice v (arL l P).length (arL l P).length) ∧ RowI w' w.heap.size v (ints (arL l P)) ∧ Below w.heap.size w w' := by
  have hb0 : Below w.heap.size w ((w.alloc (.cells #[.int .i64 N, .slice a l.length cap] 24)).alloc (.cells #[.func (.func 58) #[] #[u0, u1, u2]] 95)) := (top2 w _ _).2.2.1
  have hg0 := (top2 w (.cells #[.int .i64 N, .slice a l.length cap] 24) (.cells #[.func (.func 58) #[] #[u0, u1, u2]] 95)).1
  have hg1 := (top2 w (.cells #[.int .i64 N, .slice a l.length cap] 24) (.cells #[.func (.func 58) #[] #[u0, u1, u2]] 95)).2.1
  have hsz := (top2 w (.cells #[.int .i64 N, .slice a l.length cap] 24) (.cells #[.func (.func 58) #[] #[u0, u1, u2]] 95)).2.2.2
  obtain ⟨⟨a0, a1⟩, _⟩ := two_cells hg0
  have a2 := cell_of_one hg1
  have HA1 := Lib.hid a1
  have HA2 := Lib.hid a2
  have hmf : ∀ (fn : Fn) (first cap : Array Value) (w : World), (Instr.makeFunc fn first cap).run Tryz.prog w = .ok (.func fn first cap) w := fun _ _ _ _ => rfl
  have HB0 := Lib.hid hb0
  have HR := Lib.hid hr
  have HW := Lib.hid hW
  have HAL : Hid (arL l P = cho (arP l P) l.length) := rfl
  rw [HAL.out]
  clear hr hb0 hg0 hg1 hW HAL
  generalize hp : w.heap.size = p at *
  go_enter Tryz.func54, Tryz.ntmps54
  go_wp2_with fail
  generalize hZ : (w.alloc (.cells #[.int .i64 N, .slice a l.length cap] 24)).alloc (.cells #[.func (.func 58) #[] #[u0, u1, u2]] 95) = Z at *
  clear hZ
  refine (chosenA_any l.length (arP l P) (.pointer (some ⟨p + 1, 0, none⟩)) (.pointer (some ⟨p, 0, none⟩)) Z hl (fun k hk W2 hb => ?_)).mono ?_
  · have hbw : Below p w W2 := HB0.out.trans (hb.mono (by omega))
    refine chAB_any k (p + 1) p u0 u1 u2 a l cap P W2 hk hl ((hb.cell (p := ⟨p + 1, 0, none⟩) (by show p + 1 < _; omega)).trans HA2.out) ((hb.cell (p := ⟨p, 1, none⟩) (by show p < _; omega)).trans HA1.out) (HR.out.on (hp ▸ hbw)) (fun W3 hb3 => HW.out k hk W3 (hbw.trans (hb3.mono ?_)))
    have := hb.size
    omega
  · rintro e w1 ⟨v, rfl, hrow, hb1⟩
    have HR1 := Lib.hid (hrow.base (C := p) (by omega))
    have HB1 : Hid (Below p w w1) := HB0.out.trans (hb1.mono (by omega))
    clear hrow hb1 a0 a1 a2
    go_wp2_with fail
    go_ret
    exact ⟨v, rfl, HR1.out, HB1.out⟩
set_option maxRecDepth 100000 in
set_option maxHeartbeats 1600000 in
theorem chAO_any (k b1 b2 : Nat) (u0 : Value) (a : Option Addr) (l : List A) (cap : Nat) (P : A → Bool) (w : World) (hk : k < l.length) (hl : l.length ≤ 8192) (c1 : w.cell? ⟨b1, 0, none⟩ = some (.func (.func 59) #[u0] #[])) (c2 : w.cell? ⟨b2, 1, none⟩ = some (.slice a l.length cap)) (hr : Arcs w a l)
    (hW : ∀ W2, Below w.heap.size w W2 → Calls Tryz.prog 59 #[u0, .agg #[.int .i64 (l.getD k A.zero).f, .int .i64 (l.getD k A.zero).t, .int .u32 (l.getD k A.zero).w]] W2 fun e w' => e = .returned (.bool (P (l.getD k A.zero))) ∧ Below W2.heap.size W2 w') :
    Calls Tryz.prog 99 #[.int .i64 k, .pointer (some ⟨b1, 0, none⟩), .pointer (some ⟨b2, 0, none⟩)] w fun e w' => e = .returned (.bool (arP l P k)) ∧ Below w.heap.size w w' := by
  obtain ⟨ix, ox, hix⟩ := hr.get
  obtain ⟨rfl, hbl, hat⟩ := hix (by omega)
  obtain ⟨x0, x1, x2⟩ := hat k hk
  have hl1 := World.block_lt_of_cell? w _ c1
  have hl2 := World.block_lt_of_cell? w _ c2
  have hk' : (k : Int) < l.length := by omega
  have HW := Lib.hid hW
  have HP : Hid (arP l P k = P (l.getD k A.zero)) := rfl
  rw [HP.out]
  generalize P (l.getD k A.zero) = R at *
  generalize l.getD k A.zero = x at *
  clear hat hix hr HP hW
  have X0 := Lib.hid x0
  have X1 := Lib.hid x1
  have X2 := Lib.hid x2
  have C1 := Lib.hid c1
  have C2 := Lib.hid c2
  have HBD : Hid (Below w.heap.size w w.drew) := (Below.refl _ _).drew
  go_enter Tryz.func99, Tryz.ntmps99
  go_wp2_with fail
  go_region_held3 (fun w' => w'.cell? ⟨b1, 0, none⟩ = some (.func (.func 59) #[u0] #[]) ∧ w'.cell? ⟨b2, 1, none⟩ = some (.slice (some ⟨ix, ox, none⟩) l.length cap) ∧ w'.cell? ⟨ix, ox + k * 3, none⟩ = some (.int .i64 x.f) ∧ w'.cell? ⟨ix, ox + k * 3 + 1, none⟩ = some (.int .i64 x.t) ∧ w'.cell? ⟨ix, ox + k * 3 + 2, none⟩ = some (.int .u32 x.w)) (go_keep) ((go_at_call 59; refine (HW.out _ HBD.out).mono ?_; rintro e w2 ⟨rfl, hb2⟩; have hb2 := HBD.out.trans hb2; have v0 := (hb2.cell (p := ⟨b1, 0, none⟩) hl1).trans C1.out; have v1 := (hb2.cell (p := ⟨b2, 1, none⟩) hl2).trans C2.out; have v2 := (hb2.cell (p := ⟨ix, ox + k * 3, none⟩) hbl).trans X0.out; have v3 := (hb2.cell (p := ⟨ix, ox + k * 3 + 1, none⟩) hbl).trans X1.out; have v4 := (hb2.cell (p := ⟨ix, ox + k * 3 + 2, none⟩) hbl).trans X2.out; have HB2 := Lib.hid hb2; clear hb2))
  go_wp2_with fail
  go_ret
  exact ⟨rfl, HB2.out⟩
set_option maxRecDepth 100000 in
set_option maxHeartbeats 1600000 in
theorem cArcsO_any (N : Int) (u0 : Value) (a : Option Addr) (l : List A) (cap : Nat) (P : A → Bool) (w : World) (hl : l.length ≤ 8192) (hr : Arcs w a l)
    (hW : ∀ k, k < l.length → ∀ W2, Below w.heap.size w W2 → Calls Tryz.prog 59 #[u0, .agg #[.int .i64 (l.getD k A.zero).f, .int .i64 (l.getD k A.zero).t, .int .u32 (l.getD k A.zero).w]] W2 fun e w' => e = .returned (.bool (P (l.getD k A.zero))) ∧ Below W2.heap.size W2 w') :
    Calls Tryz.prog 54 #[.agg #[.int .i64 N, .slice a l.length cap], .func (.func 59) #[u0] #[]] w fun e w' => ∃ v, e = .returned (.slice v (arL l P).length (arL l P).length) ∧ RowI w' w.heap.size v (ints (arL l P)) ∧ Below w.heap.size w w' := by
  have hb0 : Below w.heap.size w ((w.alloc (.cells #[.int .i64 N, .slice a l.length cap] 24)).alloc (.cells #[.func (.func 59) #[u0] #[]] 95)) := (top2 w _ _).2.2.1
  have hg0 := (top2 w (.cells #[.int .i64 N, .slice a l.length cap] 24) (.cells #[.func (.func 59) #[u0] #[]] 95)).1
  have hg1 := (top2 w (.cells #[.int .i64 N, .slice a l.length cap] 24) (.cells #[.func (.func 59) #[u0] #[]] 95)).2.1
  have hsz := (top2 w (.cells #[.int .i64 N, .slice a l.length cap] 24) (.cells #[.func (.func 59) #[u0] #[]] 95)).2.2.2
  obtain ⟨⟨a0, a1⟩, _⟩ := two_cells hg0
  have a2 := cell_of_one hg1
  have HA1 := Lib.hid a1
  have HA2 := Lib.hid a2
  have hmf : ∀ (fn : Fn) (first cap : Array Value) (w : World), (Instr.makeFunc fn first cap).run Tryz.prog w = .ok (.func fn first cap) w := fun _ _ _ _ => rfl
  have HB0 := Lib.hid hb0
  have HR := Lib.hid hr
  have HW := Lib.hid hW
  have HAL : Hid (arL l P = cho (arP l P) l.length) := rfl
  rw [HAL.out]
  clear hr hb0 hg0 hg1 hW HAL
  generalize hp : w.heap.size = p at *
  go_enter Tryz.func54, Tryz.ntmps54
  go_wp2_with fail
  generalize hZ : (w.alloc (.cells #[.int .i64 N, .slice a l.length cap] 24)).alloc (.cells #[.func (.func 59) #[u0] #[]] 95) = Z at *
  clear hZ
  refine (chosenA_any l.length (arP l P) (.pointer (some ⟨p + 1, 0, none⟩)) (.pointer (some ⟨p, 0, none⟩)) Z hl (fun k hk W2 hb => ?_)).mono ?_
  · have hbw : Below p w W2 := HB0.out.trans (hb.mono (by omega))
    refine chAO_any k (p + 1) p u0 a l cap P W2 hk hl ((hb.cell (p := ⟨p + 1, 0, none⟩) (by show p + 1 < _; omega)).trans HA2.out) ((hb.cell (p := ⟨p, 1, none⟩) (by show p < _; omega)).trans HA1.out) (HR.out.on (hp ▸ hbw)) (fun W3 hb3 => HW.out k hk W3 (hbw.trans (hb3.mono ?_)))
    have := hb.size
    omega
  · rintro e w1 ⟨v, rfl, hrow, hb1⟩
    have HR1 := Lib.hid (hrow.base (C := p) (by omega))
    have HB1 : Hid (Below p w w1) := HB0.out.trans (hb1.mono (by omega))
    clear hrow hb1 a0 a1 a2
    go_wp2_with fail
    go_ret
    exact ⟨v, rfl, HR1.out, HB1.out⟩
end Go.Proofs.YtpmjbeiclmllmaaGreat
namespace Go.Proofs.YtpmjbeiclmllmaaGreat
open Go.RowKit
/-- What is wrong with a nest, a level and a cell of it. -/
def inE (N : Int) (l : List A) (bs : List Int) (cs : List (List Int)) (k x : Int) : Int := if atE N l bs cs k ≠ 0 then atE N l bs cs k else if ¬ (0 ≤ x ∧ x < ((szL (lvl cs (k.toNat - 1))).length : Nat)) then 120 else 0
theorem inE_zero {N : Int} {l : List A} {bs : List Int} {cs : List (List Int)} {k x : Int} (h : inE N l bs cs k x = 0) : NR N l bs cs ∧ ∃ j q : Nat, k = (j : Int) + 1 ∧ j < bs.length ∧ x = q ∧ q < (szL (lvl cs j)).length := by
  unfold inE at h
  split at h
  · rename_i h1; exact absurd h h1
  · rename_i h1
    split at h
    · cases h
    · rename_i h2
      obtain ⟨h3, j, rfl, hj⟩ := atE_zero (show atE N l bs cs k = 0 by simpa using h1)
      rw [show ((j : Int) + 1).toNat - 1 = j by omega] at h2
      exact ⟨h3, j, x.toNat, rfl, hj, by omega, by omega⟩
theorem inE_ok {N : Int} {l : List A} {bs : List Int} {cs : List (List Int)} {j q : Nat} (h : NR N l bs cs) (hj : j < bs.length) (hq : q < (szL (lvl cs j)).length) : inE N l bs cs ((j : Int) + 1) q = 0 := by
  unfold inE
  rw [if_neg (by rw [atE_ok h hj]; simp), show ((j : Int) + 1).toNat - 1 = j by omega, if_neg (by omega)]
set_option maxRecDepth 100000 in
set_option maxHeartbeats 1600000 in
theorem lookInto_any (N : Int) (a : Option Addr) (l : List A) (cap : Nat) (ba : Option Addr) (bs : List Int) (bc : Nat) (ca : Option Addr) (C : List Cl) (cc : Nat) (k x : Int) (w : World) (hl : l.length ≤ 9223372036854775807) (hbl : bs.length ≤ 9223372036854775807) (hr : Arcs w a l) (hi : Ints w ba bs) (hR : Rws w ca C) :
    Calls Tryz.prog 60 #[.agg #[.int .i64 N, .slice a l.length cap], .agg #[.slice ba bs.length bc, .slice ca C.length cc], .int .i64 k, .int .i64 x] w fun e w' =>
      (inE N l bs (csl C) k x = 0 → ∃ g, (∃ c, e = .returned (.tuple #[.slice (some ⟨g, 0, none⟩) bs.length c, .int .i64 0])) ∧ Hid (LvR w' g C bs)) ∧ (inE N l bs (csl C) k x ≠ 0 → e = .returned (.tuple #[.slice none 0 0, .int .i64 (inE N l bs (csl C) k x)])) ∧ Below w.heap.size w w' := by
  have hb0 : Below w.heap.size w ((w.alloc (.cells #[.int .i64 N, .slice a l.length cap] 24)).alloc (.cells #[.slice ba bs.length bc, .slice ca C.length cc] 28)) := (top2 w _ _).2.2.1
  have hg0 := (top2 w (.cells #[.int .i64 N, .slice a l.length cap] 24) (.cells #[.slice ba bs.length bc, .slice ca C.length cc] 28)).1
  have hg1 := (top2 w (.cells #[.int .i64 N, .slice a l.length cap] 24) (.cells #[.slice ba bs.length bc, .slice ca C.length cc] 28)).2.1
  have hsz := (top2 w (.cells #[.int .i64 N, .slice a l.length cap] 24) (.cells #[.slice ba bs.length bc, .slice ca C.length cc] 28)).2.2.2
  obtain ⟨⟨a0, a1⟩, _⟩ := two_cells hg0
  obtain ⟨⟨a2, a3⟩, _⟩ := two_cells hg1
  have HB0 := Lib.hid hb0
  have HLK := Lib.hid (lookAt_any N a l cap ba bs bc ca C cc k _ hl hbl (hr.on hb0) (hi.on hb0) (hR.on hb0))
  obtain ⟨F, HF⟩ := named (inE N l bs (csl C) k x)
  rw [HF.out]
  have HF2 : Hid (inE N l bs (csl C) k x = F) := HF
  clear hr hi hR hb0
  generalize hp : w.heap.size = p at *
  by_cases h1 : atE N l bs (csl C) k = 0
  · have hFE : F = if ¬ (0 ≤ x ∧ x < ((szL (lvl (csl C) (k.toNat - 1))).length : Nat)) then 120 else 0 := by rw [← HF2.out]; unfold inE; rw [if_neg (by rw [h1]; simp)]
    clear HF HF2
    have HL := Lib.hid (HLK.out.mono (fun e w' h => (⟨h.1 h1, h.2.2⟩ : (∃ g, (∃ c, e = .returned (.tuple #[.slice (some ⟨g, 0, none⟩) bs.length c, .int .i64 0])) ∧ Hid (LvR w' g C bs)) ∧ _)))
    obtain ⟨hNR, j, rfl, hj⟩ := atE_zero h1
    rw [show ((j : Int) + 1).toNat - 1 = j by omega, csl_at] at hFE
    have h5 := hNR.2.2.1
    clear HLK h1 hNR
    have HFE := Lib.hid hFE
    clear hFE
    have ej : (j : Int) + 1 - 1 = j := by omega
    have hj' : (j : Int) < bs.length := by omega
    go_enter Tryz.func60, Tryz.ntmps60
    go_wp2_with fail
    generalize hW : (w.alloc (.cells #[.int .i64 N, .slice a l.length cap] 24)).alloc (.cells #[.slice ba bs.length bc, .slice ca C.length cc] 28) = W at *
    clear hW
    refine HL.out.mono ?_
    rintro e w1 ⟨⟨g, ⟨c, rfl⟩, HLR⟩, hb1⟩
    have HB1 : Hid (Below p w w1) := HB0.out.trans (hb1.mono (by omega))
    have hwz : p ≤ w1.heap.size := by have := hb1.size; omega
    obtain ⟨sv, sd, d0, d1, _, _⟩ := HLR.out.2 j hj
    unfold Cl.val at d0
    generalize (szL (cl C j).xs).length = m at *
    clear a0 a1 a2 a3 hb1 HL hg0 hg1 HB0
    go_wp2_with fail
    refine (nsHas_any _ _ _ _ _ _).mono ?_
    rintro e w2 ⟨rfl, hb2⟩
    have HL2 := Lib.hid (HLR.out.on hb2)
    have HB1 : Hid (Below p w w2) := HB1.out.trans (hb2.mono hwz)
    clear hb2 HLR d0 d1
    by_cases h2 : 0 ≤ x ∧ x < (m : Int)
    · have e2 : F = 0 := by rw [HFE.out, if_neg (fun h => h h2)]
      subst e2
      rw [decide_eq_true h2]
      go_wp2_with fail
      go_ret2
      first | exact ⟨⟨g, ⟨c, rfl⟩, HL2⟩, HB1.out⟩ | exact ⟨(fun _ => ⟨g, ⟨c, rfl⟩, HL2⟩), (fun h => absurd rfl h), HB1.out⟩
    · have e2 : F = 120 := by rw [HFE.out, if_pos h2]
      subst e2
      rw [decide_eq_false h2]
      go_wp2_with fail
      go_ret2
      first | exact ⟨rfl, HB1.out⟩ | exact ⟨(fun h => absurd h (by decide)), (fun _ => rfl), HB1.out⟩ | exact ⟨(fun h => absurd h h1), (fun _ => rfl), HB1.out⟩
  · have hFE : F = atE N l bs (csl C) k := by rw [← HF2.out]; unfold inE; rw [if_pos h1]
    have HL := Lib.hid (HLK.out.mono (fun e w' h => (⟨h.2.1 h1, h.2.2⟩ : e = .returned (.tuple #[.slice none 0 0, .int .i64 (atE N l bs (csl C) k)]) ∧ _)))
    rw [← hFE] at HL h1
    have e1 : (F != 0) = true := by simpa using h1
    clear HLK hFE
    go_enter Tryz.func60, Tryz.ntmps60
    go_wp2_with fail
    generalize hW : (w.alloc (.cells #[.int .i64 N, .slice a l.length cap] 24)).alloc (.cells #[.slice ba bs.length bc, .slice ca C.length cc] 28) = W at *
    clear hW
    refine HL.out.mono ?_
    rintro e w1 ⟨rfl, hb1⟩
    have HB1 : Hid (Below p w w1) := HB0.out.trans (hb1.mono (by omega))
    clear a0 a1 a2 a3 hb1 HL hg0 hg1 HB0
    go_wp2_with fail
    go_ret2
    first | exact ⟨rfl, HB1.out⟩ | exact ⟨(fun h => absurd h (by decide)), (fun _ => rfl), HB1.out⟩ | exact ⟨(fun h => absurd h h1), (fun _ => rfl), HB1.out⟩
set_option maxRecDepth 100000 in
set_option maxHeartbeats 1600000 in
/-- nest.Check. -/
theorem ncheck_any (N : Int) (a : Option Addr) (l : List A) (cap : Nat) (ba : Option Addr) (bs : List Int) (bc : Nat) (ca : Option Addr) (C : List Cl) (cc : Nat) (w : World) (hl : l.length ≤ 9223372036854775807) (hbl : bs.length ≤ 9223372036854775807) (hr : Arcs w a l) (hi : Ints w ba bs) (hR : Rws w ca C) :
    Calls Tryz.prog 25 #[.agg #[.int .i64 N, .slice a l.length cap], .agg #[.slice ba bs.length bc, .slice ca C.length cc]] w fun e w' => e = .returned (.tuple #[.int .i64 (nsW N l bs (csl C) : Nat), .int .i64 (nsE N l bs (csl C))]) ∧ Below w.heap.size w w' := by
  have hb0 : Below w.heap.size w ((w.alloc (.cells #[.int .i64 N, .slice a l.length cap] 24)).alloc (.cells #[.slice ba bs.length bc, .slice ca C.length cc] 28)) := (top2 w _ _).2.2.1
  have hg0 := (top2 w (.cells #[.int .i64 N, .slice a l.length cap] 24) (.cells #[.slice ba bs.length bc, .slice ca C.length cc] 28)).1
  have hg1 := (top2 w (.cells #[.int .i64 N, .slice a l.length cap] 24) (.cells #[.slice ba bs.length bc, .slice ca C.length cc] 28)).2.1
  have hsz := (top2 w (.cells #[.int .i64 N, .slice a l.length cap] 24) (.cells #[.slice ba bs.length bc, .slice ca C.length cc] 28)).2.2.2
  obtain ⟨⟨a0, a1⟩, _⟩ := two_cells hg0
  obtain ⟨⟨a2, a3⟩, _⟩ := two_cells hg1
  have HB0 := Lib.hid hb0
  have HLK := Lib.hid (look_any N a l cap ba bs bc ca C cc _ hl hbl (hr.on hb0) (hi.on hb0) (hR.on hb0))
  clear hr hi hR hb0
  generalize hp : w.heap.size = p at *
  by_cases h1 : nsE N l bs (csl C) = 0
  · have HL := Lib.hid (HLK.out.mono (fun e w' h => (⟨h.1 h1, h.2.2⟩ : (∃ g, (∃ c, e = .returned (.tuple #[.slice (some ⟨g, 0, none⟩) bs.length c, .int .i64 0, .int .i64 0])) ∧ Hid (LvR w' g C bs)) ∧ _)))
    rw [nsW_zero h1, h1]
    clear HLK h1
    go_enter Tryz.func25, Tryz.ntmps25
    go_wp2_with fail
    generalize hW : (w.alloc (.cells #[.int .i64 N, .slice a l.length cap] 24)).alloc (.cells #[.slice ba bs.length bc, .slice ca C.length cc] 28) = W at *
    clear hW
    refine HL.out.mono ?_
    rintro e w1 ⟨⟨g, ⟨c, rfl⟩, HLR⟩, hb1⟩
    have HB1 : Hid (Below p w w1) := HB0.out.trans (hb1.mono (by omega))
    clear a0 a1 a2 a3 hb1 HL hg0 hg1 HB0
    go_wp2_with fail
    go_ret2
    exact ⟨rfl, HB1.out⟩
  · have HL := Lib.hid (HLK.out.mono (fun e w' h => (⟨h.2.1 h1, h.2.2⟩ : e = .returned (.tuple #[.slice none 0 0, .int .i64 (nsW N l bs (csl C) : Nat), .int .i64 (nsE N l bs (csl C))]) ∧ _)))
    clear HLK h1
    generalize nsW N l bs (csl C) = nw at *
    generalize nsE N l bs (csl C) = ne at *
    go_enter Tryz.func25, Tryz.ntmps25
    go_wp2_with fail
    generalize hW : (w.alloc (.cells #[.int .i64 N, .slice a l.length cap] 24)).alloc (.cells #[.slice ba bs.length bc, .slice ca C.length cc] 28) = W at *
    clear hW
    refine HL.out.mono ?_
    rintro e w1 ⟨rfl, hb1⟩
    have HB1 : Hid (Below p w w1) := HB0.out.trans (hb1.mono (by omega))
    clear a0 a1 a2 a3 hb1 HL hg0 hg1 HB0
    go_wp2_with fail
    go_ret2
    exact ⟨rfl, HB1.out⟩
/-- How many cells there are at a level. -/
def manyV (N : Int) (l : List A) (bs : List Int) (cs : List (List Int)) (k : Int) : Nat := if atE N l bs cs k = 0 then (szL (lvl cs (k.toNat - 1))).length else 0
set_option maxRecDepth 100000 in
set_option maxHeartbeats 1600000 in
theorem many_any (N : Int) (a : Option Addr) (l : List A) (cap : Nat) (ba : Option Addr) (bs : List Int) (bc : Nat) (ca : Option Addr) (C : List Cl) (cc : Nat) (k : Int) (w : World) (hl : l.length ≤ 9223372036854775807) (hbl : bs.length ≤ 9223372036854775807) (hr : Arcs w a l) (hi : Ints w ba bs) (hR : Rws w ca C) :
    Calls Tryz.prog 52 #[.agg #[.int .i64 N, .slice a l.length cap], .agg #[.slice ba bs.length bc, .slice ca C.length cc], .int .i64 k] w fun e w' => e = .returned (.tuple #[.int .i64 (manyV N l bs (csl C) k : Nat), .int .i64 (atE N l bs (csl C) k)]) ∧ Below w.heap.size w w' := by
  have hb0 : Below w.heap.size w ((w.alloc (.cells #[.int .i64 N, .slice a l.length cap] 24)).alloc (.cells #[.slice ba bs.length bc, .slice ca C.length cc] 28)) := (top2 w _ _).2.2.1
  have hg0 := (top2 w (.cells #[.int .i64 N, .slice a l.length cap] 24) (.cells #[.slice ba bs.length bc, .slice ca C.length cc] 28)).1
  have hg1 := (top2 w (.cells #[.int .i64 N, .slice a l.length cap] 24) (.cells #[.slice ba bs.length bc, .slice ca C.length cc] 28)).2.1
  have hsz := (top2 w (.cells #[.int .i64 N, .slice a l.length cap] 24) (.cells #[.slice ba bs.length bc, .slice ca C.length cc] 28)).2.2.2
  obtain ⟨⟨a0, a1⟩, _⟩ := two_cells hg0
  obtain ⟨⟨a2, a3⟩, _⟩ := two_cells hg1
  have HB0 := Lib.hid hb0
  have HLK := Lib.hid (lookAt_any N a l cap ba bs bc ca C cc k _ hl hbl (hr.on hb0) (hi.on hb0) (hR.on hb0))
  clear hr hi hR hb0
  generalize hp : w.heap.size = p at *
  by_cases h1 : atE N l bs (csl C) k = 0
  · have HL := Lib.hid (HLK.out.mono (fun e w' h => (⟨h.1 h1, h.2.2⟩ : (∃ g, (∃ c, e = .returned (.tuple #[.slice (some ⟨g, 0, none⟩) bs.length c, .int .i64 0])) ∧ Hid (LvR w' g C bs)) ∧ _)))
    unfold manyV
    rw [if_pos h1, h1]
    obtain ⟨hNR, j, rfl, hj⟩ := atE_zero h1
    rw [show ((j : Int) + 1).toNat - 1 = j by omega, csl_at]
    have h5 := hNR.2.2.1
    clear HLK h1 hNR
    have ej : (j : Int) + 1 - 1 = j := by omega
    have hj' : (j : Int) < bs.length := by omega
    obtain ⟨m, HM⟩ := named (szL (cl C j).xs).length
    rw [HM.out]
    go_enter Tryz.func52, Tryz.ntmps52
    go_wp2_with fail
    generalize hW : (w.alloc (.cells #[.int .i64 N, .slice a l.length cap] 24)).alloc (.cells #[.slice ba bs.length bc, .slice ca C.length cc] 28) = W at *
    clear hW
    refine HL.out.mono ?_
    rintro e w1 ⟨⟨g, ⟨c, rfl⟩, HLR⟩, hb1⟩
    have HB1 : Hid (Below p w w1) := HB0.out.trans (hb1.mono (by omega))
    have hwz : p ≤ w1.heap.size := by have := hb1.size; omega
    obtain ⟨sv, sd, d0, d1, _, _⟩ := HLR.out.2 j hj
    unfold Cl.val at d0
    rw [HM.out] at d1
    clear a0 a1 a2 a3 hb1 HL hg0 hg1 HB0
    go_wp2_with fail
    refine (nsMany_any _ _ _ _ _).mono ?_
    rintro e w2 ⟨rfl, hb2⟩
    have HB1 : Hid (Below p w w2) := HB1.out.trans (hb2.mono hwz)
    clear hb2 HLR d0 d1
    go_wp2_with fail
    go_ret2
    exact ⟨rfl, HB1.out⟩
  · have HL := Lib.hid (HLK.out.mono (fun e w' h => (⟨h.2.1 h1, h.2.2⟩ : e = .returned (.tuple #[.slice none 0 0, .int .i64 (atE N l bs (csl C) k)]) ∧ _)))
    unfold manyV
    rw [if_neg h1]
    obtain ⟨F, HF⟩ := named (atE N l bs (csl C) k)
    rw [HF.out] at HL h1 ⊢
    have e1 : (F != 0) = true := by simpa using h1
    clear HLK
    go_enter Tryz.func52, Tryz.ntmps52
    go_wp2_with fail
    generalize hW : (w.alloc (.cells #[.int .i64 N, .slice a l.length cap] 24)).alloc (.cells #[.slice ba bs.length bc, .slice ca C.length cc] 28) = W at *
    clear hW
    refine HL.out.mono ?_
    rintro e w1 ⟨rfl, hb1⟩
    have HB1 : Hid (Below p w w1) := HB0.out.trans (hb1.mono (by omega))
    clear a0 a1 a2 a3 hb1 HL hg0 hg1 HB0
    go_wp2_with fail
    go_ret2
    exact ⟨rfl, HB1.out⟩
set_option maxRecDepth 100000 in
set_option maxHeartbeats 1600000 in
theorem members_any (N : Int) (a : Option Addr) (l : List A) (cap : Nat) (ba : Option Addr) (bs : List Int) (bc : Nat) (ca : Option Addr) (C : List Cl) (cc : Nat) (k x : Int) (w : World) (hl : l.length ≤ 9223372036854775807) (hbl : bs.length ≤ 9223372036854775807) (hr : Arcs w a l) (hi : Ints w ba bs) (hR : Rws w ca C) :
    Calls Tryz.prog 98 #[.agg #[.int .i64 N, .slice a l.length cap], .agg #[.slice ba bs.length bc, .slice ca C.length cc], .int .i64 k, .int .i64 x] w fun e w' => ∃ v c S, e = .returned (.tuple #[.slice v S.length c, .int .i64 (inE N l bs (csl C) k x)]) ∧ w'.ownsRow w.heap.size 3 1 (.slice v S.length c) S.length (cellsI (ints S)) ∧ Hid (S = if inE N l bs (csl C) k x = 0 then mbr (lvl (csl C) (k.toNat - 1)) x else []) ∧ Below w.heap.size w w' := by
  have hb0 : Below w.heap.size w ((w.alloc (.cells #[.int .i64 N, .slice a l.length cap] 24)).alloc (.cells #[.slice ba bs.length bc, .slice ca C.length cc] 28)) := (top2 w _ _).2.2.1
  have hg0 := (top2 w (.cells #[.int .i64 N, .slice a l.length cap] 24) (.cells #[.slice ba bs.length bc, .slice ca C.length cc] 28)).1
  have hg1 := (top2 w (.cells #[.int .i64 N, .slice a l.length cap] 24) (.cells #[.slice ba bs.length bc, .slice ca C.length cc] 28)).2.1
  have hsz := (top2 w (.cells #[.int .i64 N, .slice a l.length cap] 24) (.cells #[.slice ba bs.length bc, .slice ca C.length cc] 28)).2.2.2
  obtain ⟨⟨a0, a1⟩, _⟩ := two_cells hg0
  obtain ⟨⟨a2, a3⟩, _⟩ := two_cells hg1
  have HB0 := Lib.hid hb0
  have HLK := Lib.hid (lookInto_any N a l cap ba bs bc ca C cc k x _ hl hbl (hr.on hb0) (hi.on hb0) (hR.on hb0))
  have HRR := Lib.hid hR
  clear hr hi hR hb0
  generalize hp : w.heap.size = p at *
  by_cases h1 : inE N l bs (csl C) k x = 0
  · have HL := Lib.hid (HLK.out.mono (fun e w' h => (⟨h.1 h1, h.2.2⟩ : (∃ g, (∃ c, e = .returned (.tuple #[.slice (some ⟨g, 0, none⟩) bs.length c, .int .i64 0])) ∧ Hid (LvR w' g C bs)) ∧ _)))
    rw [h1, if_pos rfl]
    obtain ⟨hNR, j, q, rfl, hj, rfl, hq⟩ := inE_zero h1
    obtain ⟨b1, b2, b3, _⟩ := hNR.lv hj
    rw [show ((j : Int) + 1).toNat - 1 = j by omega, csl_at]
    rw [csl_at] at hq b1 b2
    have h5 := hNR.2.2.1
    have hN := (chk_zero hNR.1).2.1
    have hxl : (cl C j).xs.length ≤ 1024 := by omega
    have hsz1 := Nat.le_trans (szL_length (cl C j).xs) hxl
    have hjc : j < C.length := by have := hNR.2.2.2.1; rw [csl_len] at this; omega
    have HIX := Lib.hid (HRR.out.2 j hjc).1
    clear HLK h1 hNR b3
    have ej : (j : Int) + 1 - 1 = j := by omega
    have hj' : (j : Int) < bs.length := by omega
    have hqm : ∃ m : Nat, m ≤ 1024 ∧ (ints (szL (cl C j).xs)).getD q 0 = m := ⟨_, Nat.le_trans (szL_le _ q) hxl, ints_getD hq⟩
    obtain ⟨m, hm, hqm⟩ := hqm
    have HQM := Lib.hid hqm
    clear hqm
    go_enter Tryz.func98, Tryz.ntmps98
    go_wp2_with fail
    generalize hW : (w.alloc (.cells #[.int .i64 N, .slice a l.length cap] 24)).alloc (.cells #[.slice ba bs.length bc, .slice ca C.length cc] 28) = W at *
    clear hW
    refine HL.out.mono ?_
    rintro e w1 ⟨⟨g, ⟨c, rfl⟩, HLR⟩, hb1⟩
    have HB1 : Hid (Below p w w1) := HB0.out.trans (hb1.mono (by omega))
    have hwz : p ≤ w1.heap.size := by have := hb1.size; omega
    obtain ⟨sv, sd, d0, d1, _, hsi⟩ := HLR.out.2 j hj
    have HMB := Lib.hid (nsMembers_any (cl C j).a (cl C j).xs (cl C j).c sv (ints (szL (cl C j).xs)) sd q m w1 hxl (by rw [ints_len]; exact hsz1) (by rw [ints_len]; exact hq) HQM.out hm (HIX.out.on (by rw [hp]; exact HB1.out)) hsi)
    rw [ints_len, mbL_eq] at HMB
    unfold Cl.val at d0
    generalize (szL (cl C j).xs).length = sl at *
    obtain ⟨M, HM⟩ := named (mbr (cl C j).xs q)
    rw [HM.out] at HMB
    generalize (cl C j).xs.length = xl at *
    generalize (cl C j).a = xa at *
    generalize (cl C j).c = xc at *
    clear a0 a1 a2 a3 hb1 HL hg0 hg1 HB0 hsi
    go_wp2_with fail
    refine HMB.out.mono ?_
    rintro e w2 ⟨v, c2, S, rfl, hown, hSM, hb2⟩
    have HSM : Hid (S = mbr (cl C j).xs q) := hSM.trans HM.out.symm
    have HB1 : Hid (Below p w w2) := HB1.out.trans (hb2.mono hwz)
    have HOW := Lib.hid (own_base hown hwz)
    clear hb2 HLR d0 d1 hown HMB hSM
    go_wp2_with fail
    go_ret2
    exact ⟨v, c2, S, rfl, HOW.out, HSM, HB1.out⟩
  · have HL := Lib.hid (HLK.out.mono (fun e w' h => (⟨h.2.1 h1, h.2.2⟩ : e = .returned (.tuple #[.slice none 0 0, .int .i64 (inE N l bs (csl C) k x)]) ∧ _)))
    rw [if_neg h1]
    obtain ⟨F, HF⟩ := named (inE N l bs (csl C) k x)
    rw [HF.out] at HL h1 ⊢
    have e1 : (F != 0) = true := by simpa using h1
    clear HLK
    go_enter Tryz.func98, Tryz.ntmps98
    go_wp2_with fail
    generalize hW : (w.alloc (.cells #[.int .i64 N, .slice a l.length cap] 24)).alloc (.cells #[.slice ba bs.length bc, .slice ca C.length cc] 28) = W at *
    clear hW
    refine HL.out.mono ?_
    rintro e w1 ⟨rfl, hb1⟩
    have HB1 : Hid (Below p w w1) := HB0.out.trans (hb1.mono (by omega))
    clear a0 a1 a2 a3 hb1 HL hg0 hg1 HB0
    go_wp2_with fail
    go_ret2
    exact ⟨none, 0, [], rfl, World.ownsRow_nil _ _ _ _, Lib.hid rfl, HB1.out⟩
end Go.Proofs.YtpmjbeiclmllmaaGreat
namespace Go.Proofs.YtpmjbeiclmllmaaGreat
open Go.RowKit
/-- The children of a cell among the first. -/
def chT (ys : List Int) (L : List Nat) (q : Int) (k : Nat) : List Nat := (List.range k).filter (fun c => decide (ys.getD (L.getD c 0) 0 = q))
theorem chT_t {ys : List Int} {L : List Nat} {q : Int} {k : Nat} (h : ys.getD (L.getD k 0) 0 = q) : chT ys L q (k + 1) = chT ys L q k ++ [k] := by
  unfold chT
  rw [List.range_succ, List.filter_append, List.filter_cons, if_pos (decide_eq_true h)]
  rfl
theorem chT_f {ys : List Int} {L : List Nat} {q : Int} {k : Nat} (h : ¬ ys.getD (L.getD k 0) 0 = q) : chT ys L q (k + 1) = chT ys L q k := by
  unfold chT
  rw [List.range_succ, List.filter_append, List.filter_cons, if_neg (by rw [decide_eq_false h]; decide)]
  exact List.append_nil _
theorem chT_len (ys : List Int) (L : List Nat) (q : Int) (k : Nat) : (chT ys L q k).length ≤ k := by
  have := List.length_filter_le (fun c => decide (ys.getD (L.getD c 0) 0 = q)) (List.range k)
  simpa [chT] using this
/-- The children of a cell. -/
def chL (xs ys : List Int) (q : Int) : List Nat := chT ys (lsL xs 0 []) q (lsL xs 0 []).length
def chE (N : Int) (l : List A) (bs : List Int) (cs : List (List Int)) (k x : Int) : Int := if inE N l bs cs k x ≠ 0 then inE N l bs cs k x else if k = 1 then 111 else 0
def chV (N : Int) (l : List A) (bs : List Int) (cs : List (List Int)) (k x : Int) : List Nat := if chE N l bs cs k x = 0 then chL (lvl cs (k.toNat - 2)) (lvl cs (k.toNat - 1)) x else []
set_option maxRecDepth 100000 in
set_option maxHeartbeats 3200000 in
theorem children_any (N : Int) (a : Option Addr) (l : List A) (cap : Nat) (ba : Option Addr) (bs : List Int) (bc : Nat) (ca : Option Addr) (C : List Cl) (cc : Nat) (k x : Int) (w : World) (hl : l.length ≤ 9223372036854775807) (hbl : bs.length ≤ 9223372036854775807) (hr : Arcs w a l) (hi : Ints w ba bs) (hR : Rws w ca C) :
    Calls Tryz.prog 30 #[.agg #[.int .i64 N, .slice a l.length cap], .agg #[.slice ba bs.length bc, .slice ca C.length cc], .int .i64 k, .int .i64 x] w fun e w' => ∃ v c S, e = .returned (.tuple #[.slice v S.length c, .int .i64 (chE N l bs (csl C) k x)]) ∧ w'.ownsRow w.heap.size 3 1 (.slice v S.length c) S.length (cellsI (ints S)) ∧ Hid (S = chV N l bs (csl C) k x) ∧ Below w.heap.size w w' := by
  have hb0 : Below w.heap.size w ((w.alloc (.cells #[.int .i64 N, .slice a l.length cap] 24)).alloc (.cells #[.slice ba bs.length bc, .slice ca C.length cc] 28)) := (top2 w _ _).2.2.1
  have hg0 := (top2 w (.cells #[.int .i64 N, .slice a l.length cap] 24) (.cells #[.slice ba bs.length bc, .slice ca C.length cc] 28)).1
  have hg1 := (top2 w (.cells #[.int .i64 N, .slice a l.length cap] 24) (.cells #[.slice ba bs.length bc, .slice ca C.length cc] 28)).2.1
  have hsz := (top2 w (.cells #[.int .i64 N, .slice a l.length cap] 24) (.cells #[.slice ba bs.length bc, .slice ca C.length cc] 28)).2.2.2
  obtain ⟨⟨a0, a1⟩, _⟩ := two_cells hg0
  obtain ⟨⟨a2, a3⟩, _⟩ := two_cells hg1
  have HB0 := Lib.hid hb0
  have HLK := Lib.hid (lookInto_any N a l cap ba bs bc ca C cc k x _ hl hbl (hr.on hb0) (hi.on hb0) (hR.on hb0))
  have HRR := Lib.hid hR
  clear hr hi hR hb0
  generalize hp : w.heap.size = p at *
  by_cases h1 : inE N l bs (csl C) k x = 0
  · have HL := Lib.hid (HLK.out.mono (fun e w' h => (⟨h.1 h1, h.2.2⟩ : (∃ g, (∃ c, e = .returned (.tuple #[.slice (some ⟨g, 0, none⟩) bs.length c, .int .i64 0])) ∧ Hid (LvR w' g C bs)) ∧ _)))
    have hCE : chE N l bs (csl C) k x = if k = 1 then 111 else 0 := by unfold chE; rw [if_neg (by rw [h1]; simp)]
    obtain ⟨hNR, j, q, rfl, hj, rfl, hq⟩ := inE_zero h1
    have h5 := hNR.2.2.1
    clear HLK h1
    by_cases hj0 : j = 0
    · rw [if_pos (by omega)] at hCE
      have HV : Hid (chV N l bs (csl C) ((j : Int) + 1) q = []) := by show _ = _; unfold chV; rw [hCE, if_neg (by decide)]
      rw [hCE, HV.out]
      clear hCE hNR hq
      subst hj0
      go_enter Tryz.func30, Tryz.ntmps30
      go_wp2_with fail
      generalize hW : (w.alloc (.cells #[.int .i64 N, .slice a l.length cap] 24)).alloc (.cells #[.slice ba bs.length bc, .slice ca C.length cc] 28) = W at *
      clear hW
      refine HL.out.mono ?_
      rintro e w1 ⟨⟨g, ⟨c, rfl⟩, HLR⟩, hb1⟩
      have HB1 : Hid (Below p w w1) := HB0.out.trans (hb1.mono (by omega))
      clear a0 a1 a2 a3 hb1 HL hg0 hg1 HB0
      go_wp2_with fail
      go_ret2
      exact ⟨none, 0, [], rfl, World.ownsRow_nil _ _ _ _, Lib.hid rfl, HB1.out⟩
    · obtain ⟨i, rfl⟩ : ∃ i, j = i + 1 := ⟨j - 1, by omega⟩
      rw [if_neg (by omega)] at hCE
      have HV : Hid (chV N l bs (csl C) ((i + 1 : Nat) + 1 : Int) q = chL (cl C i).xs (cl C (i + 1)).xs q) := by
        show _ = _
        unfold chV
        rw [hCE, if_pos rfl, show (((i + 1 : Nat) : Int) + 1).toNat - 1 = i + 1 by omega, show (((i + 1 : Nat) : Int) + 1).toNat - 2 = i by omega, csl_at, csl_at]
      rw [hCE, HV.out]
      obtain ⟨b1, b2, _, _⟩ := hNR.lv hj
      obtain ⟨d1, d2, _, _⟩ := hNR.lv (show i < bs.length by omega)
      rw [csl_at] at b1 b2 d1 d2 hq
      have hN := (chk_zero hNR.1).2.1
      have hjc : i + 1 < C.length := by have := hNR.2.2.2.1; rw [csl_len] at this; omega
      have HIY := Lib.hid (HRR.out.2 (i + 1) hjc).1
      have HIX := Lib.hid (HRR.out.2 i (by omega)).1
      have HLS := Lib.hid (ls_right d2)
      have hLn : (lsL (cl C i).xs 0 []).length ≤ 1024 := by rw [ls_len d2]; exact Nat.le_trans (szL_length _) (by omega)
      have hxl : (cl C i).xs.length ≤ 1024 := by omega
      have hyl : (cl C (i + 1)).xs.length ≤ 1024 := by omega
      have hxy : (cl C i).xs.length ≤ (cl C (i + 1)).xs.length := by omega
      have hs1 : (szL (cl C i).xs).length ≤ 1024 := Nat.le_trans (szL_length _) hxl
      clear hCE hNR b1 b2 d1 d2
      have ej : ((i + 1 : Nat) : Int) + 1 - 1 = (i + 1 : Nat) := by omega
      have ej1 : (i : Int) + 1 + 1 - 1 = (i + 1 : Nat) := by omega
      have ej2 : (i : Int) + 1 + 1 - 2 = (i : Nat) := by omega
      have ej3 : ((i + 1 : Nat) : Int) + 1 - 2 = (i : Nat) := by omega
      have hj' : ((i + 1 : Nat) : Int) < bs.length := by omega
      have hj'' : (i : Int) < bs.length := by omega
      have hk1 : ¬ ((i + 1 : Nat) : Int) + 1 = 1 := by omega
      have hk2 : (((i + 1 : Nat) : Int) + 1 == 1) = false := by simp; omega
      obtain ⟨K, HK⟩ := named (((i + 1 : Nat) : Int) + 1)
      have eK1 : K - 1 = (i + 1 : Nat) := by rw [← HK.out]; omega
      have eK2 : K - 2 = (i : Nat) := by rw [← HK.out]; omega
      have hK1 : ¬ K = 1 := by rw [← HK.out]; omega
      have hK2 : (K == 1) = false := by simpa using hK1
      have hKb : K ≤ 5 := by rw [← HK.out]; omega
      have hKc : 2 ≤ K := by rw [← HK.out]; omega
      rw [HK.out] at HL ⊢
      obtain ⟨X, HX⟩ := named (cl C i).xs
      obtain ⟨Y, HY⟩ := named (cl C (i + 1)).xs
      rw [HX.out] at hxl hxy HIX HLS hLn hs1 ⊢
      rw [HY.out] at hyl hxy HIY ⊢
      clear ej ej1 ej2 ej3 hk1 hk2
      go_enter Tryz.func30, Tryz.ntmps30
      go_wp2_with fail
      generalize hW : (w.alloc (.cells #[.int .i64 N, .slice a l.length cap] 24)).alloc (.cells #[.slice ba bs.length bc, .slice ca C.length cc] 28) = W at *
      clear hW
      refine HL.out.mono ?_
      rintro e w1 ⟨⟨g, ⟨c, rfl⟩, HLR⟩, hb1⟩
      have HB1 : Hid (Below p w w1) := HB0.out.trans (hb1.mono (by omega))
      have hwz : p ≤ w1.heap.size := by have := hb1.size; omega
      obtain ⟨sv, sd, m0, m1, m2, _⟩ := HLR.out.2 (i + 1) hj
      obtain ⟨tv, td, n0, n1, n2, _⟩ := HLR.out.2 i (by omega)
      have hgw := HLR.out.1
      unfold Cl.val at m0 n0
      clear a0 a1 a2 a3 hb1 HL hg0 hg1 HB0 hq HV HK
      rw [HX.out] at n0 n1
      rw [HY.out] at m0 m1
      generalize (cl C i).a = xa at *
      generalize (cl C i).c = xc at *
      generalize (cl C (i + 1)).a = ya at *
      generalize (cl C (i + 1)).c = yc at *
      generalize (szL Y).length = ym at *
      obtain ⟨xm, HXM⟩ := named (szL X).length
      rw [HXM.out] at n1 hs1
      generalize bs.getD (i + 1) 0 = by1 at *
      generalize bs.getD i 0 = bx1 at *
      clear HLR
      go_wp2_with fail
      go_cut [12, 13] from 30 to 41 (fun s12 s13 wc => ∃ b1 b2, s12 = .pointer (some ⟨b1, 0, none⟩) ∧ s13 = .pointer (some ⟨b2, 0, none⟩) ∧ Hid (wc.heap[b1]? = some (.cells #[.slice ya Y.length yc, .slice sv ym sd, .int .i64 by1] 103)) ∧ Hid (wc.heap[b2]? = some (.cells #[.slice xa X.length xc, .slice tv xm td, .int .i64 bx1] 103)) ∧ Hid (Below w1.heap.size w1 wc))
      case first =>
        have hgn : g ≠ w1.heap.size := by omega
        have hgm := hgn.symm
        have hgn1 : g ≠ w1.heap.size + 1 := by omega
        have hgm1 := hgn1.symm
        clear HIX HIY HLS HB1 HRR
        go_region
        · go_wp2_with fail
          go_meet
          case rel =>
            obtain ⟨t1, t2, t3, _⟩ := top2 w1 (.cells #[.slice ya Y.length yc, .slice sv ym sd, .int .i64 by1] 103) (.cells #[.slice xa X.length xc, .slice tv xm td, .int .i64 bx1] 103)
            exact ⟨_, _, rfl, rfl, t1, t2, t3.drew⟩
        · go_wp2_with fail
          go_meet
          case rel =>
            obtain ⟨t1, t2, t3, _⟩ := top2 w1 (.cells #[.slice xa X.length xc, .slice tv xm td, .int .i64 bx1] 103) (.cells #[.slice ya Y.length yc, .slice sv ym sd, .int .i64 by1] 103)
            exact ⟨_, _, rfl, rfl, t2, t1, t3.drew⟩
      case rest =>
        obtain ⟨b1, b2, rfl, rfl, HG1, HG2, HBC⟩ := hcut
        have hb1c : b1 < wc.heap.size := lt_of_block HG1.out
        have HBW : Hid (Below p w wc) := HB1.out.trans (HBC.out.mono hwz)
        have hwcz : p ≤ wc.heap.size := Nat.le_trans hwz HBC.out.size
        obtain ⟨r0, r1, _⟩ := three_cells HG2.out
        clear m0 m1 m2 n0 n1 n2 HB1 HBC
        have HLE := Lib.hid (nsLeasts_any xa X xc tv xm td wc hxl hs1 (HIX.out.on (by rw [hp]; exact HBW.out)))
        go_wp2_with fail
        refine HLE.out.mono ?_
        rintro e w2 ⟨lv, lc, L, rfl, hown, hL, hb2⟩
        have HL := Lib.hid hL
        have HOL := Lib.hid hown
        have HB2 : Hid (Below p w w2) := HBW.out.trans (hb2.mono hwcz)
        have hk1 := (hb2.block b1 hb1c).trans HG1.out
        have HK1 := Lib.hid hk1
        have hz2 := hb2.size
        have hb12 : b1 < w2.heap.size := by omega
        clear hb2 hown hL HLE r0 r1 HG1 HG2 HBW hk1
        rw [← HL.out] at HLS hLn
        have HCH : Hid (chL X Y q = chT Y L q L.length) := by show _ = _; unfold chL; rw [← HL.out]
        have hp2 : p ≤ w2.heap.size := by omega
        obtain ⟨i3, hi3, hz3, hs3, hby3⟩ := info_parts info3
        obtain ⟨lg, lo, hlg⟩ := (own_ints HOL.out rfl).get
        have HLG := Lib.hid hlg
        clear hlg
        go_wp2_with fail
        go_loopw [14, 44] (fun s14 i wr => ∃ (k : Nat) (av : Option Addr) (cv : Nat) (S : List Nat), k ≤ L.length ∧ i = .int .i64 k ∧ s14 = .slice av S.length cv ∧ S.length ≤ k ∧ Hid (S = chT Y L q k) ∧ Hid (wr.ownsRow w2.heap.size 3 1 (.slice av S.length cv) S.length (cellsI (ints S))) ∧ Hid (Below w2.heap.size w2 wr)) (fun _ i _ => L.length - (intOf i).toNat)
        case atStart => exact ⟨0, none, 0, [], Nat.zero_le _, rfl, rfl, Nat.zero_le _, rfl, World.ownsRow_nil _ _ _ _, Below.refl _ _⟩
        case round =>
          obtain ⟨k, av, cv, S, hk, rfl, rfl, hSk, HS, HOW, HBR⟩ := hrel
          have hwr := HBR.out.size
          have HBX : Hid (Below p w wr) := HB2.out.trans (HBR.out.mono hp2)
          by_cases hlk : k < L.length
          · obtain ⟨rfl, hbl, hat⟩ := HLG.out (by rw [ints_len]; omega)
            have hlk' : (k : Int) < L.length := by omega
            have y0 := (HBR.out.cell (p := ⟨lg, lo + k, none⟩) hbl).trans (hat k (by rw [ints_len]; exact hlk))
            rw [ints_getD hlk] at y0
            obtain ⟨z0, z1, _⟩ := three_cells ((HBR.out.block b1 hb12).trans HK1.out)
            have hLY : L.getD k 0 < Y.length := by have := (HLS.out.2.1 k hlk).1; omega
            have HOF := Lib.hid (nsOf_any ya Y yc (.slice sv ym sd) (L.getD k 0) wr hLY (by omega) (HIY.out.on (by rw [hp]; exact HBX.out)))
            obtain ⟨yv, HYV⟩ := named (Y.getD (L.getD k 0) 0)
            rw [HYV.out] at HOF
            obtain ⟨u, HU⟩ := named (L.getD k 0)
            rw [HU.out] at HOF y0
            clear hat hLY
            go_wp2_with fail
            refine HOF.out.mono ?_
            rintro e w3 ⟨rfl, hb3⟩
            have HO3 := Lib.hid (own_on HOW.out hb3)
            have HB3 : Hid (Below w2.heap.size w2 w3) := HBR.out.trans (hb3.mono hwr)
            have hz3' : w2.heap.size ≤ w3.heap.size := Nat.le_trans hwr hb3.size
            clear hb3 HOF y0 z0 z1
            by_cases c : yv = q
            · have hcq : (yv == (q : Int)) = true := by simpa using c
              have HS2 : Hid (S ++ [k] = chT Y L q (k + 1)) := by show _ = _; rw [chT_t (HYV.out.trans c), HS.out]
              have HNW := Lib.hid (one_new w3 k)
              have HO2 := Lib.hid (HO3.out.alloc (.cells #[.int .i64 k] 3))
              have HBZ : Hid (w2.heap.size ≤ (w3.alloc (.cells #[.int .i64 k] 3)).heap.size) := by show _ ≤ _; rw [World.size_alloc]; omega
              have HBB : Hid (Below w2.heap.size w2 (w3.alloc (.cells #[.int .i64 k] 3))) := HB3.out.alloc hz3' _
              have HOB : Hid (∀ b, (Value.slice av S.length cv).ownBlock = some b → w2.heap.size ≤ b) := fun b hb => (HO3.out.lt b hb).1
              have HCA : Hid (cellsI (ints S) ++ [.int .i64 k] = cellsI (ints (S ++ [k]))) := by show _ = _; rw [ints_snoc, ← cellsI_snoc]
              have hs8 : S.length ≤ 1024 := by omega
              clear c
              go_wp2_with (at_builtin; refine wpList_append_own _ rfl (.tmp 55) (.tmp 57) 25 rfl w2.heap.size 3 i3 (.int .i64 0) 1 8 Tryz.underlying25 hi3 hz3 hs3 hby3 rfl (by decide) (.slice av S.length cv) S.length (cellsI (ints S)) rfl HO2.out ⟨w3.heap.size, 0, none⟩ 1 1 [.int .i64 k] rfl rfl HNW.out (one_i64 _) (by unfold maxLen; omega) (by omega) HBZ.out ?_; intro v6 w6 hown6 hgrow6 hnil6; obtain ⟨g6, c6, hv6, _, hc6, _, hm6⟩ := own_shape hown6 (fun e => by have := hnil6.1 e; simp at this); subst hv6; rw [HCA.out] at hown6; have h7 : w6.ownsRow w2.heap.size 3 1 (.slice (some ⟨g6, 0, none⟩) (S ++ [k]).length c6) (S ++ [k]).length (cellsI (ints (S ++ [k]))) := (by rw [List.length_append]; exact hown6); have HO7 := Lib.hid h7; have HB6 : Hid (Below w2.heap.size w2 w6) := HBB.out.grown hgrow6 HBZ.out (fun j hj => HOB.out j hj); clear hown6 hgrow6 hnil6 h7)
              exact ⟨⟨k + 1, some ⟨g6, 0, none⟩, c6, S ++ [k], by omega, by simp, by rw [List.length_append]; rfl, by rw [List.length_append]; simp; omega, HS2, HO7, HB6⟩, by simp [intOf]; omega⟩
            · have hcq : (yv == (q : Int)) = false := by simpa using c
              have HS2 : Hid (S = chT Y L q (k + 1)) := by show _ = _; rw [chT_f (fun h => c (HYV.out.symm.trans h)), HS.out]
              clear c
              go_wp2_with fail
              exact ⟨⟨k + 1, av, cv, S, by omega, by simp, rfl, by omega, HS2, HO3, HB3⟩, by simp [intOf]; omega⟩
          · have hlk' : ¬ (k : Int) < L.length := by omega
            have hkk : k = L.length := by omega
            have HS2 : Hid (S = chL X Y q) := by show _ = _; rw [HCH.out, HS.out, hkk]
            have HOF := Lib.hid (own_base HOW.out hp2)
            clear hkk
            go_wp2_with fail
            go_ret2
            exact ⟨av, cv, S, rfl, HOF.out, HS2, HBX.out⟩
  · have HL := Lib.hid (HLK.out.mono (fun e w' h => (⟨h.2.1 h1, h.2.2⟩ : e = .returned (.tuple #[.slice none 0 0, .int .i64 (inE N l bs (csl C) k x)]) ∧ _)))
    have hCE : chE N l bs (csl C) k x = inE N l bs (csl C) k x := by unfold chE; rw [if_pos h1]
    have HV : Hid (chV N l bs (csl C) k x = []) := by show _ = _; unfold chV; rw [hCE, if_neg h1]
    rw [hCE, HV.out]
    obtain ⟨F, HF⟩ := named (inE N l bs (csl C) k x)
    rw [HF.out] at HL h1 ⊢
    have e1 : (F != 0) = true := by simpa using h1
    clear HLK hCE
    go_enter Tryz.func30, Tryz.ntmps30
    go_wp2_with fail
    generalize hW : (w.alloc (.cells #[.int .i64 N, .slice a l.length cap] 24)).alloc (.cells #[.slice ba bs.length bc, .slice ca C.length cc] 28) = W at *
    clear hW
    refine HL.out.mono ?_
    rintro e w1 ⟨rfl, hb1⟩
    have HB1 : Hid (Below p w w1) := HB0.out.trans (hb1.mono (by omega))
    clear a0 a1 a2 a3 hb1 HL hg0 hg1 HB0
    go_wp2_with fail
    go_ret2
    exact ⟨none, 0, [], rfl, World.ownsRow_nil _ _ _ _, Lib.hid rfl, HB1.out⟩
end Go.Proofs.YtpmjbeiclmllmaaGreat
namespace Go.Proofs.YtpmjbeiclmllmaaGreat
open Go.RowKit
set_option maxRecDepth 100000 in
set_option maxHeartbeats 1600000 in
theorem ceB1_any (v n b1 b2 b3 g : Nat) (b : Option Addr) (L : List Int) (bc : Nat) (q : Int) (T : Nat → Bool) (w : World) (hv : v < n) (hLn : L.length = n) (hn : n ≤ 1024) (c1 : w.cell? ⟨b1, 0, none⟩ = some (.slice b L.length bc)) (c2 : w.cell? ⟨b2, 0, none⟩ = some (.int .i64 q)) (c3 : w.cell? ⟨b3, 0, none⟩ = some (.slice (some ⟨g, 0, none⟩) n n)) (hi : Ints w b L) (hT : TbV w g n 4 (boV T)) :
    Calls Tryz.prog 114 #[.int .i64 v, .pointer (some ⟨b1, 0, none⟩), .pointer (some ⟨b2, 0, none⟩), .pointer (some ⟨b3, 0, none⟩)] w fun e w' => e = .returned (.bool (decide (L.getD v 0 = q) && T v)) ∧ Below w.heap.size w w' := by
  obtain ⟨ix, ox, hix⟩ := hi.get
  obtain ⟨rfl, _, hat⟩ := hix (by omega)
  have d1 := hat v (by omega)
  have d2 := hT.cell hv
  have e2 : boV T v = .bool (T v) := rfl
  rw [e2] at d2
  have hv1 : (v : Int) < n := by omega
  rw [hLn] at c1
  clear e2 hat hix hi hT
  generalize T v = tv at *
  generalize L.getD v 0 = y at *
  clear hLn
  by_cases h1 : y = q
  · have e1 : (y == q) = true := by simpa using h1
    rw [decide_eq_true h1, Bool.true_and]
    clear h1
    go_enter Tryz.func114, Tryz.ntmps114
    go_wp2_with fail
    go_quiet (fail)
    go_wp2_with fail
    go_ret
    exact ⟨rfl, below_drewN _ _ _⟩
  · have e1 : (y == q) = false := by simpa using h1
    have e3 : decide (y = q) = false := decide_eq_false h1
    rw [e3, Bool.false_and]
    clear h1
    go_enter Tryz.func114, Tryz.ntmps114
    go_wp2_with fail
    go_quiet (fail)
    go_wp2_with fail
    go_ret
    exact ⟨rfl, below_drewN _ _ _⟩
set_option maxRecDepth 100000 in
set_option maxHeartbeats 1600000 in
theorem ceI1_any (b1 b2 : Nat) (b : Option Addr) (L : List Int) (bc : Nat) (q : Int) (x : A) (w : World) (hx : inA L.length x) (hL : L.length ≤ 1024) (c1 : w.cell? ⟨b1, 0, none⟩ = some (.slice b L.length bc)) (c2 : w.cell? ⟨b2, 0, none⟩ = some (.int .i64 q)) (hi : Ints w b L) :
    Calls Tryz.prog 55 #[.agg #[.int .i64 x.f, .int .i64 x.t, .int .u32 x.w], .pointer (some ⟨b1, 0, none⟩), .pointer (some ⟨b2, 0, none⟩)] w fun e w' => e = .returned (.bool (hld L q x)) ∧ Below w.heap.size w w' := by
  have hb0 : Below w.heap.size w (w.alloc (.cells #[.int .i64 x.f, .int .i64 x.t, .int .u32 x.w] 68)) := (Below.refl _ _).alloc (Nat.le_refl _) _
  have hg := heap_top w (.cells #[.int .i64 x.f, .int .i64 x.t, .int .u32 x.w] 68)
  obtain ⟨g0, g1, g2⟩ := three_cells hg
  have d1 := (hb0.cell (p := ⟨b1, 0, none⟩) (World.block_lt_of_cell? w _ c1)).trans c1
  have d2 := (hb0.cell (p := ⟨b2, 0, none⟩) (World.block_lt_of_cell? w _ c2)).trans c2
  have HH := Lib.hid (ceHold_any b L bc q x _ hx hL (hi.on hb0))
  have HB0 := Lib.hid hb0
  have hwz := hb0.size
  generalize hld L q x = R at *
  clear hi hb0 hg hx c1 c2 hL
  go_enter Tryz.func55, Tryz.ntmps55
  go_wp2_with fail
  refine HH.out.mono ?_
  rintro e w1 ⟨rfl, hb1⟩
  have HB1 : Hid (Below w.heap.size w w1) := HB0.out.trans (hb1.mono hwz)
  clear hb1 HB0 HH d1 d2 g0 g1 g2
  go_wp2_with fail
  go_ret
  exact ⟨rfl, HB1.out⟩
set_option maxRecDepth 100000 in
set_option maxHeartbeats 1600000 in
theorem ceW1_any (b1 b2 b3 : Nat) (b : Option Addr) (L : List Int) (bc : Nat) (d : Option Addr) (M : List Int) (dc : Nat) (q : Int) (x : A) (w : World) (hx : inA L.length x) (hL : L.length ≤ 1024) (hM : M.length = L.length) (c1 : w.cell? ⟨b1, 0, none⟩ = some (.slice b L.length bc)) (c2 : w.cell? ⟨b2, 0, none⟩ = some (.int .i64 q)) (c3 : w.cell? ⟨b3, 0, none⟩ = some (.slice d M.length dc)) (hi : Ints w b L) (hj : Ints w d M) :
    Calls Tryz.prog 58 #[.agg #[.int .i64 x.f, .int .i64 x.t, .int .u32 x.w], .pointer (some ⟨b1, 0, none⟩), .pointer (some ⟨b2, 0, none⟩), .pointer (some ⟨b3, 0, none⟩)] w fun e w' => e = .returned (.bool (btP L M q x)) ∧ Below w.heap.size w w' := by
  have hb0 : Below w.heap.size w (w.alloc (.cells #[.int .i64 x.f, .int .i64 x.t, .int .u32 x.w] 68)) := (Below.refl _ _).alloc (Nat.le_refl _) _
  have hg := heap_top w (.cells #[.int .i64 x.f, .int .i64 x.t, .int .u32 x.w] 68)
  have HG := Lib.hid hg
  obtain ⟨g0, g1, g2⟩ := three_cells hg
  have d1 := (hb0.cell (p := ⟨b1, 0, none⟩) (World.block_lt_of_cell? w _ c1)).trans c1
  have d2 := (hb0.cell (p := ⟨b2, 0, none⟩) (World.block_lt_of_cell? w _ c2)).trans c2
  have hl3 := World.block_lt_of_cell? w _ c3
  have C3 := Lib.hid c3
  have HH := Lib.hid (ceHold_any b L bc q x _ hx hL (hi.on hb0))
  have HP := Lib.hid (fun W2 (hb : Below w.heap.size w W2) => cePart_any d M dc x W2 (hM ▸ hx) (hM ▸ hL) (hj.on hb))
  have HB0 := Lib.hid hb0
  have hwz := hb0.size
  have HBT : Hid (btP L M q x = (hld L q x && prt M x)) := rfl
  rw [HBT.out]
  clear HBT
  generalize prt M x = R2 at *
  generalize hld L q x = R at *
  have hpw : w.heap.size < (w.alloc (.cells #[.int .i64 x.f, .int .i64 x.t, .int .u32 x.w] 68)).heap.size := by simp
  clear hi hj hb0 hg hx c1 c2 c3 hL hM
  generalize hp : w.heap.size = p at *
  go_enter Tryz.func58, Tryz.ntmps58
  go_wp2_with fail
  generalize hW : w.alloc (.cells #[.int .i64 x.f, .int .i64 x.t, .int .u32 x.w] 68) = W at *
  clear hW
  refine HH.out.mono ?_
  rintro e w1 ⟨rfl, hb1⟩
  have HB1 : Hid (Below p w w1) := HB0.out.trans (hb1.mono hwz)
  obtain ⟨k0, k1, k2⟩ := three_cells ((hb1.block p hpw).trans HG.out)
  have d3 := (HB1.out.cell (p := ⟨b3, 0, none⟩) (hp ▸ hl3)).trans C3.out
  have hz1 : p ≤ w1.heap.size := by have := hb1.size; omega
  clear hb1 HB0 HH d1 d2 g0 g1 g2 HG C3
  rcases R with _ | _
  · clear HP
    go_wp2_with fail
    go_ret
    exact ⟨rfl, HB1.out⟩
  · go_wp2_with fail
    refine (HP.out w1 HB1.out).mono ?_
    rintro e w2 ⟨rfl, hb2⟩
    have HB2 : Hid (Below p w w2) := HB1.out.trans (hb2.mono hz1)
    clear hb2 HB1 HP d3 k0 k1 k2
    go_wp2_with fail
    go_ret
    exact ⟨rfl, HB2.out⟩
set_option maxRecDepth 100000 in
set_option maxHeartbeats 1600000 in
theorem ceLook_any (N : Int) (a : Option Addr) (l : List A) (cap : Nat) (ba : Option Addr) (bs : List Int) (bc : Nat) (ca : Option Addr) (C : List Cl) (cc : Nat) (k x : Int) (w : World) (hl : l.length ≤ 9223372036854775807) (hbl : bs.length ≤ 9223372036854775807) (hr : Arcs w a l) (hi : Ints w ba bs) (hR : Rws w ca C) :
    Calls Tryz.prog 53 #[.agg #[.int .i64 N, .slice a l.length cap], .agg #[.slice ba bs.length bc, .slice ca C.length cc], .int .i64 k, .int .i64 x] w fun e w' => (inE N l bs (csl C) k x = 0 → e = .returned (.tuple #[.slice (cl C (k.toNat - 1)).a (cl C (k.toNat - 1)).xs.length (cl C (k.toNat - 1)).c, .int .i64 0])) ∧ (inE N l bs (csl C) k x ≠ 0 → e = .returned (.tuple #[.slice none 0 0, .int .i64 (inE N l bs (csl C) k x)])) ∧ Below w.heap.size w w' := by
  have hb0 : Below w.heap.size w ((w.alloc (.cells #[.int .i64 N, .slice a l.length cap] 24)).alloc (.cells #[.slice ba bs.length bc, .slice ca C.length cc] 28)) := (top2 w _ _).2.2.1
  have hg0 := (top2 w (.cells #[.int .i64 N, .slice a l.length cap] 24) (.cells #[.slice ba bs.length bc, .slice ca C.length cc] 28)).1
  have hg1 := (top2 w (.cells #[.int .i64 N, .slice a l.length cap] 24) (.cells #[.slice ba bs.length bc, .slice ca C.length cc] 28)).2.1
  have hsz := (top2 w (.cells #[.int .i64 N, .slice a l.length cap] 24) (.cells #[.slice ba bs.length bc, .slice ca C.length cc] 28)).2.2.2
  obtain ⟨⟨a0, a1⟩, _⟩ := two_cells hg0
  obtain ⟨⟨a2, a3⟩, _⟩ := two_cells hg1
  have HB0 := Lib.hid hb0
  have HLK := Lib.hid (members_any N a l cap ba bs bc ca C cc k x _ hl hbl (hr.on hb0) (hi.on hb0) (hR.on hb0))
  have HRW := Lib.hid hR
  obtain ⟨E, HE⟩ := named (inE N l bs (csl C) k x)
  have HEE := HE
  rw [HE.out] at HLK
  rw [HE.out]
  clear HE
  by_cases h1 : E = 0
  · subst h1
    obtain ⟨hNR, j, q, rfl, hj, rfl, hq⟩ := inE_zero HEE.out
    have hcl : C.length = bs.length := by have := hNR.2.2.2.1; rw [csl_len] at this; exact this
    have hjC : j < C.length := by omega
    have ej : (j : Int) + 1 - 1 = j := by omega
    rw [show ((j : Int) + 1).toNat - 1 = j by omega]
    obtain ⟨bx, ox, hbx⟩ := hR.get
    obtain ⟨rfl, hbl2, hcell⟩ := hbx (by omega)
    have d0 := hcell j hjC
    unfold Cl.val at d0
    have HD0 := Lib.hid d0
    have hG3 := Lib.hid hg1
    have hj' : (j : Int) < C.length := by omega
    have h5 : bs.length ≤ 5 := hNR.2.2.1
    have hC5 : C.length ≤ 5 := by omega
    clear hr hi hR hb0 hbx hcell d0 HEE hq HRW hcl hNR
    generalize (cl C j).xs.length = m at *
    generalize (cl C j).a = va at *
    generalize (cl C j).c = vc at *
    generalize hp : w.heap.size = p at *
    go_enter Tryz.func53, Tryz.ntmps53
    go_wp2_with fail
    generalize hW : (w.alloc (.cells #[.int .i64 N, .slice a l.length cap] 24)).alloc (.cells #[.slice ba bs.length bc, .slice (some ⟨bx, ox, none⟩) C.length cc] 28) = W at *
    clear hW
    refine HLK.out.mono ?_
    rintro e w1 ⟨v, c, S, rfl, hown, hS, hb1⟩
    have HB1 : Hid (Below p w w1) := HB0.out.trans (hb1.mono (by omega))
    obtain ⟨⟨k2, k3⟩, _⟩ := two_cells ((hb1.block (p + 1) (by omega)).trans hG3.out)
    have d0 := (HB1.out.cell (p := ⟨bx, ox + j, none⟩) (hp ▸ hbl2)).trans HD0.out
    clear a0 a1 a2 a3 hb1 HLK hg0 hg1 HB0 hown hS HD0 hG3
    go_wp2_with fail
    go_ret2
    first | exact ⟨rfl, HB1.out⟩ | exact ⟨(fun _ => rfl), (fun h => absurd rfl h), HB1.out⟩
  · have e1 : (E != 0) = true := by simpa using h1
    clear hr hi hR hb0 HEE HRW
    generalize hp : w.heap.size = p at *
    go_enter Tryz.func53, Tryz.ntmps53
    go_wp2_with fail
    generalize hW : (w.alloc (.cells #[.int .i64 N, .slice a l.length cap] 24)).alloc (.cells #[.slice ba bs.length bc, .slice ca C.length cc] 28) = W at *
    clear hW
    refine HLK.out.mono ?_
    rintro e w1 ⟨v, c, S, rfl, hown, hS, hb1⟩
    have HB1 : Hid (Below p w w1) := HB0.out.trans (hb1.mono (by omega))
    clear a0 a1 a2 a3 hb1 HLK hg0 hg1 HB0 hown hS
    go_wp2_with fail
    go_ret2
    first | exact ⟨rfl, HB1.out⟩ | exact ⟨(fun h => absurd h h1), (fun _ => rfl), HB1.out⟩
end Go.Proofs.YtpmjbeiclmllmaaGreat
namespace Go.Proofs.YtpmjbeiclmllmaaGreat
open Go.RowKit
def bdV (N : Int) (l : List A) (bs : List Int) (cs : List (List Int)) (k x : Int) : List Nat := if inE N l bs cs k x = 0 then bdL N.toNat (lvl cs (k.toNat - 1)) l x else []
def inV (N : Int) (l : List A) (bs : List Int) (cs : List (List Int)) (k x : Int) : List Nat := if inE N l bs cs k x = 0 then arL l (hld (lvl cs (k.toNat - 1)) x) else []
def btE (N : Int) (l : List A) (bs : List Int) (cs : List (List Int)) (k x : Int) : Int := if inE N l bs cs k x ≠ 0 then inE N l bs cs k x else if k = 1 then 111 else 0
def btV (N : Int) (l : List A) (bs : List Int) (cs : List (List Int)) (k x : Int) : List Nat := if btE N l bs cs k x = 0 then arL l (btP (lvl cs (k.toNat - 1)) (lvl cs (k.toNat - 2)) x) else []
def ouV (N : Int) (l : List A) (bs : List Int) (cs : List (List Int)) (k : Int) : List Nat := if atE N l bs cs k = 0 then arL l (prt (lvl cs (k.toNat - 1))) else []
set_option maxRecDepth 100000 in
set_option maxHeartbeats 1600000 in
/-- Inner. -/
theorem inner_any (N : Int) (a : Option Addr) (l : List A) (cap : Nat) (ba : Option Addr) (bs : List Int) (bc : Nat) (ca : Option Addr) (C : List Cl) (cc : Nat) (k x : Int) (w : World) (hl : l.length ≤ 9223372036854775807) (hbl : bs.length ≤ 9223372036854775807) (hr : Arcs w a l) (hi : Ints w ba bs) (hR : Rws w ca C) :
    Calls Tryz.prog 27 #[.agg #[.int .i64 N, .slice a l.length cap], .agg #[.slice ba bs.length bc, .slice ca C.length cc], .int .i64 k, .int .i64 x] w fun e w' => ∃ v, e = .returned (.tuple #[.slice v (inV N l bs (csl C) k x).length (inV N l bs (csl C) k x).length, .int .i64 (inE N l bs (csl C) k x)]) ∧ RowI w' w.heap.size v (ints (inV N l bs (csl C) k x)) ∧ Below w.heap.size w w' := by
  have hb0 : Below w.heap.size w (((w.alloc (.cells #[.int .i64 N, .slice a l.length cap] 24)).alloc (.cells #[.slice ba bs.length bc, .slice ca C.length cc] 28)).alloc (.cells #[.int .i64 x] 3)) := (top3 w _ _ _).2.2.2.1
  have hg0 := (top3 w (.cells #[.int .i64 N, .slice a l.length cap] 24) (.cells #[.slice ba bs.length bc, .slice ca C.length cc] 28) (.cells #[.int .i64 x] 3)).1
  have hg1 := (top3 w (.cells #[.int .i64 N, .slice a l.length cap] 24) (.cells #[.slice ba bs.length bc, .slice ca C.length cc] 28) (.cells #[.int .i64 x] 3)).2.1
  have hg2 := (top3 w (.cells #[.int .i64 N, .slice a l.length cap] 24) (.cells #[.slice ba bs.length bc, .slice ca C.length cc] 28) (.cells #[.int .i64 x] 3)).2.2.1
  have hsz := (top3 w (.cells #[.int .i64 N, .slice a l.length cap] 24) (.cells #[.slice ba bs.length bc, .slice ca C.length cc] 28) (.cells #[.int .i64 x] 3)).2.2.2.2
  obtain ⟨⟨a0, a1⟩, _⟩ := two_cells hg0
  obtain ⟨⟨a2, a3⟩, _⟩ := two_cells hg1
  have a4 := cell_of_one hg2
  have HB0 := Lib.hid hb0
  have HG0 := Lib.hid hg0
  have HG1 := Lib.hid hg1
  have HG2 := Lib.hid hg2
  have HLK := Lib.hid (ceLook_any N a l cap ba bs bc ca C cc k x _ hl hbl (hr.on hb0) (hi.on hb0) (hR.on hb0))
  obtain ⟨E, HE⟩ := named (inE N l bs (csl C) k x)
  have HEE := HE
  rw [HE.out] at HLK
  rw [HE.out]
  clear HE
  by_cases h1 : E = 0
  · subst h1
    obtain ⟨hNR, j, q, rfl, hj, rfl, hq⟩ := inE_zero HEE.out
    have hcl : C.length = bs.length := by have := hNR.2.2.2.1; rw [csl_len] at this; exact this
    have hjC : j < C.length := by omega
    obtain ⟨hlv, hty, _, _⟩ := hNR.lv hj
    rw [csl_at] at hlv hty
    have hC0 : chkE ((cl C j).xs.length : Nat) l = 0 := by rw [hlv]; exact hNR.1
    have hN : N = ((cl C j).xs.length : Nat) := hlv.symm
    have hL : (cl C j).xs.length ≤ 1024 := by have := (chk_zero hC0).2.1; omega
    have hl8 : l.length ≤ 8192 := (chk_zero hC0).2.2.1
    have ej : ((j : Int) + 1).toNat - 1 = j := by omega
    have HV0 : Hid (inV N l bs (csl C) ((j : Int) + 1) (q : Int) = arL l (hld (cl C j).xs (q : Int))) := by show _ = _; unfold inV; rw [if_pos HEE.out, ej, csl_at]
    rw [HV0.out]
    have HL := Lib.hid (HLK.out.mono (fun e w' h => (⟨h.1 rfl, h.2.2⟩ : e = .returned (.tuple #[.slice (cl C (((j : Int) + 1).toNat - 1)).a (cl C (((j : Int) + 1).toNat - 1)).xs.length (cl C (((j : Int) + 1).toNat - 1)).c, .int .i64 0]) ∧ _)))
    rw [ej] at HL
    obtain ⟨L, va, vc, HLL, HVA, HVC⟩ : ∃ L va vc, Hid ((cl C j).xs = L) ∧ Hid ((cl C j).a = va) ∧ Hid ((cl C j).c = vc) := ⟨_, _, _, rfl, rfl, rfl⟩
    rw [HLL.out] at hC0 hL HL hN HV0
    rw [HLL.out]
    rw [HVA.out, HVC.out] at HL
    have HIL : Hid (Ints w va L) := by have := (hR.2 j hjC).1; rw [HLL.out, HVA.out] at this; exact this
    have HC0 := Lib.hid hC0
    obtain ⟨m, HM⟩ := named L.length
    rw [HM.out] at HL hN hL
    subst hN
    have HRA := Lib.hid hr
    have hmf : ∀ (fn : Fn) (first cap : Array Value) (w : World), (Instr.makeFunc fn first cap).run Tryz.prog w = .ok (.func fn first cap) w := fun _ _ _ _ => rfl
    clear hr hi hR hb0 HEE HLK HV0 hNR hcl hlv hty hC0
    generalize hp : w.heap.size = p at *
    go_enter Tryz.func27, Tryz.ntmps27
    go_wp2_with fail
    generalize hW : (((w.alloc (.cells #[.int .i64 m, .slice a l.length cap] 24)).alloc (.cells #[.slice ba bs.length bc, .slice ca C.length cc] 28)).alloc (.cells #[.int .i64 q] 3)) = W at *
    clear hW
    refine HL.out.mono ?_
    rintro e w1 ⟨rfl, hb1⟩
    have HB1 : Hid (Below p w w1) := HB0.out.trans (hb1.mono (by omega))
    obtain ⟨⟨k0, k1⟩, _⟩ := two_cells (((hb1.block p (by omega)).trans HG0.out))
    have k4 := cell_of_one ((hb1.block (p + 1 + 1) (by omega)).trans HG2.out)
    have hw1 : p + 2 < w1.heap.size := by have := hb1.size; omega
    have HB2 : Hid (Below p w (w1.alloc (.cells #[.slice va m vc] 90))) := HB1.out.alloc (by omega) _
    have HG3 := Lib.hid (heap_top w1 (.cells #[.slice va m vc] 90))
    have j0 : (w1.alloc (.cells #[.slice va m vc] 90)).cell? ⟨p, 0, none⟩ = some (.int .i64 m) := (World.cell?_of_block (w := w1) (a := ⟨p, 0, none⟩) (Below.heap_alloc _ _ _ (by show p < _; omega))).trans k0
    have j1 : (w1.alloc (.cells #[.slice va m vc] 90)).cell? ⟨p, 1, none⟩ = some (.slice a l.length cap) := (World.cell?_of_block (w := w1) (a := ⟨p, 1, none⟩) (Below.heap_alloc _ _ _ (by show p < _; omega))).trans k1
    have HK4 : Hid ((w1.alloc (.cells #[.slice va m vc] 90)).cell? ⟨p + 1 + 1, 0, none⟩ = some (.int .i64 q)) := (World.cell?_of_block (w := w1) (a := ⟨p + 1 + 1, 0, none⟩) (Below.heap_alloc _ _ _ (by show p + 1 + 1 < _; omega))).trans k4
    clear a0 a1 a2 a3 a4 hb1 HL hg0 hg1 hg2 HB0 HG0 HG1 HG2 k0 k1 k4
    go_wp2_with fail
    have hv1 : (w1.alloc (.cells #[.slice va m vc] 90)).heap.size = w1.heap.size + 1 := by simp
    generalize hV : w1.alloc (.cells #[.slice va m vc] 90) = V at *
    clear hV
    refine (cArcsI_any m (.pointer (some ⟨w1.heap.size, 0, none⟩)) (.pointer (some ⟨p + 1 + 1, 0, none⟩)) a l cap (hld L q) V hl8 (HRA.out.on (hp ▸ HB2.out)) (fun i hi W2 hb => ?_)).mono ?_
    · have hbw : Below p w W2 := HB2.out.trans (hb.mono (by omega))
      have hvz := hb.size
      refine ceI1_any w1.heap.size (p + 1 + 1) va L vc q _ W2 (chk_in HC0.out hi) (by rw [HM.out]; exact hL) ?_ ((hb.cell (p := ⟨p + 1 + 1, 0, none⟩) (by show p + 1 + 1 < _; omega)).trans HK4.out) (HIL.out.on (hp ▸ hbw))
      rw [HM.out]
      exact (hb.cell (p := ⟨w1.heap.size, 0, none⟩) (by show w1.heap.size < _; omega)).trans (cell_of_one HG3.out)
    · rintro e w3 ⟨v, rfl, hrow, hb3⟩
      have HR3 := Lib.hid (hrow.base (C := p) (by omega))
      have HB3 : Hid (Below p w w3) := HB2.out.trans (hb3.mono (by omega))
      clear hrow hb3 j0 j1
      go_wp2_with fail
      go_ret2
      exact ⟨v, rfl, HR3.out, HB3.out⟩
  · have e1 : (E != 0) = true := by simpa using h1
    have HV0 : Hid (inV N l bs (csl C) k x = []) := by show _ = _; unfold inV; rw [if_neg (by rw [HEE.out]; exact h1)]
    rw [HV0.out]
    have HL := Lib.hid (HLK.out.mono (fun e w' h => (⟨h.2.1 h1, h.2.2⟩ : e = .returned (.tuple #[.slice none 0 0, .int .i64 E]) ∧ _)))
    clear hr hi hR hb0 HEE HLK HV0
    generalize hp : w.heap.size = p at *
    go_enter Tryz.func27, Tryz.ntmps27
    go_wp2_with fail
    generalize hW : (((w.alloc (.cells #[.int .i64 N, .slice a l.length cap] 24)).alloc (.cells #[.slice ba bs.length bc, .slice ca C.length cc] 28)).alloc (.cells #[.int .i64 x] 3)) = W at *
    clear hW
    refine HL.out.mono ?_
    rintro e w1 ⟨rfl, hb1⟩
    have HB1 : Hid (Below p w w1) := HB0.out.trans (hb1.mono (by omega))
    clear a0 a1 a2 a3 a4 hb1 HL hg0 hg1 hg2 HB0 HG0 HG1 HG2
    have HB2 : Hid (Below p w (w1.alloc (.cells #[.slice none 0 0] 90))) := HB1.out.alloc (by have := HB1.out.size; omega) _
    go_wp2_with fail
    go_ret2
    exact ⟨none, rfl, Or.inl ⟨rfl, rfl⟩, HB2.out⟩
set_option maxRecDepth 100000 in
set_option maxHeartbeats 1600000 in
/-- Boundary. -/
theorem boundary_any (N : Int) (a : Option Addr) (l : List A) (cap : Nat) (ba : Option Addr) (bs : List Int) (bc : Nat) (ca : Option Addr) (C : List Cl) (cc : Nat) (k x : Int) (w : World) (hl : l.length ≤ 9223372036854775807) (hbl : bs.length ≤ 9223372036854775807) (hr : Arcs w a l) (hi : Ints w ba bs) (hR : Rws w ca C) :
    Calls Tryz.prog 87 #[.agg #[.int .i64 N, .slice a l.length cap], .agg #[.slice ba bs.length bc, .slice ca C.length cc], .int .i64 k, .int .i64 x] w fun e w' => ∃ v, e = .returned (.tuple #[.slice v (bdV N l bs (csl C) k x).length (bdV N l bs (csl C) k x).length, .int .i64 (inE N l bs (csl C) k x)]) ∧ RowI w' w.heap.size v (ints (bdV N l bs (csl C) k x)) ∧ Below w.heap.size w w' := by
  have hb0 : Below w.heap.size w (((w.alloc (.cells #[.int .i64 N, .slice a l.length cap] 24)).alloc (.cells #[.slice ba bs.length bc, .slice ca C.length cc] 28)).alloc (.cells #[.int .i64 x] 3)) := (top3 w _ _ _).2.2.2.1
  have hg0 := (top3 w (.cells #[.int .i64 N, .slice a l.length cap] 24) (.cells #[.slice ba bs.length bc, .slice ca C.length cc] 28) (.cells #[.int .i64 x] 3)).1
  have hg1 := (top3 w (.cells #[.int .i64 N, .slice a l.length cap] 24) (.cells #[.slice ba bs.length bc, .slice ca C.length cc] 28) (.cells #[.int .i64 x] 3)).2.1
  have hg2 := (top3 w (.cells #[.int .i64 N, .slice a l.length cap] 24) (.cells #[.slice ba bs.length bc, .slice ca C.length cc] 28) (.cells #[.int .i64 x] 3)).2.2.1
  have hsz := (top3 w (.cells #[.int .i64 N, .slice a l.length cap] 24) (.cells #[.slice ba bs.length bc, .slice ca C.length cc] 28) (.cells #[.int .i64 x] 3)).2.2.2.2
  obtain ⟨⟨a0, a1⟩, _⟩ := two_cells hg0
  obtain ⟨⟨a2, a3⟩, _⟩ := two_cells hg1
  have a4 := cell_of_one hg2
  have HB0 := Lib.hid hb0
  have HG0 := Lib.hid hg0
  have HG1 := Lib.hid hg1
  have HG2 := Lib.hid hg2
  have HLK := Lib.hid (ceLook_any N a l cap ba bs bc ca C cc k x _ hl hbl (hr.on hb0) (hi.on hb0) (hR.on hb0))
  obtain ⟨E, HE⟩ := named (inE N l bs (csl C) k x)
  have HEE := HE
  rw [HE.out] at HLK
  rw [HE.out]
  clear HE
  by_cases h1 : E = 0
  · subst h1
    obtain ⟨hNR, j, q, rfl, hj, rfl, hq⟩ := inE_zero HEE.out
    have hcl : C.length = bs.length := by have := hNR.2.2.2.1; rw [csl_len] at this; exact this
    have hjC : j < C.length := by omega
    obtain ⟨hlv, hty, _, _⟩ := hNR.lv hj
    rw [csl_at] at hlv hty
    have hC0 : chkE ((cl C j).xs.length : Nat) l = 0 := by rw [hlv]; exact hNR.1
    have hN : N = ((cl C j).xs.length : Nat) := hlv.symm
    have hL : (cl C j).xs.length ≤ 1024 := by have := (chk_zero hC0).2.1; omega
    have hl8 : l.length ≤ 8192 := (chk_zero hC0).2.2.1
    have ej : ((j : Int) + 1).toNat - 1 = j := by omega
    have HV0 : Hid (bdV N l bs (csl C) ((j : Int) + 1) (q : Int) = cho (bdP (cl C j).xs l (q : Int)) (cl C j).xs.length) := by show _ = _; unfold bdV; rw [if_pos HEE.out, ej, csl_at, hN, Int.toNat_natCast]; rfl
    rw [HV0.out]
    have HL := Lib.hid (HLK.out.mono (fun e w' h => (⟨h.1 rfl, h.2.2⟩ : e = .returned (.tuple #[.slice (cl C (((j : Int) + 1).toNat - 1)).a (cl C (((j : Int) + 1).toNat - 1)).xs.length (cl C (((j : Int) + 1).toNat - 1)).c, .int .i64 0]) ∧ _)))
    rw [ej] at HL
    obtain ⟨L, va, vc, HLL, HVA, HVC⟩ : ∃ L va vc, Hid ((cl C j).xs = L) ∧ Hid ((cl C j).a = va) ∧ Hid ((cl C j).c = vc) := ⟨_, _, _, rfl, rfl, rfl⟩
    rw [HLL.out] at hC0 hL HL hN HV0
    rw [HLL.out]
    rw [HVA.out, HVC.out] at HL
    have HIL : Hid (Ints w va L) := by have := (hR.2 j hjC).1; rw [HLL.out, HVA.out] at this; exact this
    have HC0 := Lib.hid hC0
    obtain ⟨m, HM⟩ := named L.length
    rw [HM.out] at HL hN hL
    subst hN
    have HRA := Lib.hid hr
    rw [HM.out]
    clear hR hNR
    have hmf : ∀ (fn : Fn) (first cap : Array Value) (w : World), (Instr.makeFunc fn first cap).run Tryz.prog w = .ok (.func fn first cap) w := fun _ _ _ _ => rfl
    clear hr hi hb0 HEE HLK HV0 hcl hlv hty hC0
    generalize hp : w.heap.size = p at *
    go_enter Tryz.func87, Tryz.ntmps87
    go_wp2_with fail
    generalize hW : (((w.alloc (.cells #[.int .i64 m, .slice a l.length cap] 24)).alloc (.cells #[.slice ba bs.length bc, .slice ca C.length cc] 28)).alloc (.cells #[.int .i64 q] 3)) = W at *
    clear hW
    refine HL.out.mono ?_
    rintro e w1 ⟨rfl, hb1⟩
    have HB1 : Hid (Below p w w1) := HB0.out.trans (hb1.mono (by omega))
    obtain ⟨⟨k0, k1⟩, _⟩ := two_cells (((hb1.block p (by omega)).trans HG0.out))
    obtain ⟨⟨k2, k3⟩, _⟩ := two_cells (((hb1.block (p + 1) (by omega)).trans HG1.out))
    have k4 := cell_of_one ((hb1.block (p + 1 + 1) (by omega)).trans HG2.out)
    have hw1 : p + 2 < w1.heap.size := by have := hb1.size; omega
    have HB2 : Hid (Below p w (w1.alloc (.cells #[.slice va m vc] 90))) := HB1.out.alloc (by omega) _
    have HG3 := Lib.hid (heap_top w1 (.cells #[.slice va m vc] 90))
    have j0 : (w1.alloc (.cells #[.slice va m vc] 90)).cell? ⟨p, 0, none⟩ = some (.int .i64 m) := (World.cell?_of_block (w := w1) (a := ⟨p, 0, none⟩) (Below.heap_alloc _ _ _ (by show p < _; omega))).trans k0
    have j1 : (w1.alloc (.cells #[.slice va m vc] 90)).cell? ⟨p, 1, none⟩ = some (.slice a l.length cap) := (World.cell?_of_block (w := w1) (a := ⟨p, 1, none⟩) (Below.heap_alloc _ _ _ (by show p < _; omega))).trans k1
    have j3 : (w1.alloc (.cells #[.slice va m vc] 90)).cell? ⟨p + 1, 1, none⟩ = some (.slice ca C.length cc) := (World.cell?_of_block (w := w1) (a := ⟨p + 1, 1, none⟩) (Below.heap_alloc _ _ _ (by show p + 1 < _; omega))).trans k3
    have HK4 : Hid ((w1.alloc (.cells #[.slice va m vc] 90)).cell? ⟨p + 1 + 1, 0, none⟩ = some (.int .i64 q)) := (World.cell?_of_block (w := w1) (a := ⟨p + 1 + 1, 0, none⟩) (Below.heap_alloc _ _ _ (by show p + 1 + 1 < _; omega))).trans k4
    have j5 := cell_of_one HG3.out
    clear a0 a1 a2 a3 a4 hb1 HL hg0 hg1 hg2 HB0 HG0 HG1 HG2 k0 k1 k2 k3 k4
    clear j3
    go_wp2_with fail
    have hv1 : (w1.alloc (.cells #[.slice va m vc] 90)).heap.size = w1.heap.size + 1 := by simp
    have HJ0 := Lib.hid j0
    have HJ1 := Lib.hid j1
    have HCR := Lib.hid (crossed_any va L vc a l cap (w1.alloc (.cells #[.slice va m vc] 90)) HC0.out (HRA.out.on (hp ▸ HB2.out)) (HIL.out.on (hp ▸ HB2.out)))
    rw [HM.out] at HCR
    generalize hV : w1.alloc (.cells #[.slice va m vc] 90) = V at *
    clear hV j0 j1 j5
    refine HCR.out.mono ?_
    rintro e w2 ⟨g, rfl, hgV, hT, hb2⟩
    have hz2 := hb2.size
    have hgl : g < w2.heap.size := hT.lt
    have HB3 : Hid (Below p w (w2.alloc (.cells #[.slice (some ⟨g, 0, none⟩) m m] 113))) := (HB2.out.trans (hb2.mono (by omega))).alloc (by omega) _
    have HBV : Hid (Below V.heap.size V (w2.alloc (.cells #[.slice (some ⟨g, 0, none⟩) m m] 113))) := hb2.alloc (by omega) _
    have HG4 := Lib.hid (heap_top w2 (.cells #[.slice (some ⟨g, 0, none⟩) m m] 113))
    have HT3 : Hid (TbV (w2.alloc (.cells #[.slice (some ⟨g, 0, none⟩) m m] 113)) g m 4 (boV (crs L l l.length))) := hT.same (Below.heap_alloc _ _ _ hgl)
    have i0 := (HBV.out.cell (p := ⟨p, 0, none⟩) (by show p < _; omega)).trans HJ0.out
    have hu1 : (w2.alloc (.cells #[.slice (some ⟨g, 0, none⟩) m m] 113)).heap.size = w2.heap.size + 1 := by simp
    clear HCR hT hb2
    go_wp2_with fail
    generalize hU : w2.alloc (.cells #[.slice (some ⟨g, 0, none⟩) m m] 113) = U at *
    clear hU
    refine (chosenB_any m (bdP L l q) (.pointer (some ⟨w1.heap.size, 0, none⟩)) (.pointer (some ⟨p + 1 + 1, 0, none⟩)) (.pointer (some ⟨w2.heap.size, 0, none⟩)) U (by omega) (fun i hi W2 hb => ?_)).mono ?_
    · have hbw : Below p w W2 := HB3.out.trans (hb.mono (by omega))
      have hbv : Below V.heap.size V W2 := HBV.out.trans (hb.mono (by omega))
      refine ceB1_any i m w1.heap.size (p + 1 + 1) w2.heap.size g va L vc q (crs L l l.length) W2 hi HM.out hL ?_ ((hbv.cell (p := ⟨p + 1 + 1, 0, none⟩) (by show p + 1 + 1 < _; omega)).trans HK4.out) ((hb.cell (p := ⟨w2.heap.size, 0, none⟩) (by show w2.heap.size < _; omega)).trans (cell_of_one HG4.out)) (HIL.out.on (hp ▸ hbw)) (HT3.out.same (hb.block g (by omega)))
      rw [HM.out]
      exact (hbv.cell (p := ⟨w1.heap.size, 0, none⟩) (by show w1.heap.size < _; omega)).trans (cell_of_one HG3.out)
    · rintro e w3 ⟨v, rfl, hrow, hb3⟩
      have HR3 := Lib.hid (hrow.base (C := p) (by omega))
      have HB4 : Hid (Below p w w3) := HB3.out.trans (hb3.mono (by omega))
      clear hrow hb3 i0
      go_wp2_with fail
      go_ret2
      exact ⟨v, rfl, HR3.out, HB4.out⟩
  · have e1 : (E != 0) = true := by simpa using h1
    have HV0 : Hid (bdV N l bs (csl C) k x = []) := by show _ = _; unfold bdV; rw [if_neg (by rw [HEE.out]; exact h1)]
    rw [HV0.out]
    have HL := Lib.hid (HLK.out.mono (fun e w' h => (⟨h.2.1 h1, h.2.2⟩ : e = .returned (.tuple #[.slice none 0 0, .int .i64 E]) ∧ _)))
    clear hr hi hR hb0 HEE HLK HV0
    generalize hp : w.heap.size = p at *
    go_enter Tryz.func87, Tryz.ntmps87
    go_wp2_with fail
    generalize hW : (((w.alloc (.cells #[.int .i64 N, .slice a l.length cap] 24)).alloc (.cells #[.slice ba bs.length bc, .slice ca C.length cc] 28)).alloc (.cells #[.int .i64 x] 3)) = W at *
    clear hW
    refine HL.out.mono ?_
    rintro e w1 ⟨rfl, hb1⟩
    have HB1 : Hid (Below p w w1) := HB0.out.trans (hb1.mono (by omega))
    clear a0 a1 a2 a3 a4 hb1 HL hg0 hg1 hg2 HB0 HG0 HG1 HG2
    have HB2 : Hid (Below p w (w1.alloc (.cells #[.slice none 0 0] 90))) := HB1.out.alloc (by have := HB1.out.size; omega) _
    go_wp2_with fail
    go_ret2
    exact ⟨none, rfl, Or.inl ⟨rfl, rfl⟩, HB2.out⟩
end Go.Proofs.YtpmjbeiclmllmaaGreat
namespace Go.Proofs.YtpmjbeiclmllmaaGreat
open Go.RowKit
theorem six_cells {w : World} {g : Nat} {a b c d e f : Value} {t : TypeId} (h : w.heap[g]? = some (.cells #[a, b, c, d, e, f] t)) : w.cell? ⟨g, 0, none⟩ = some a ∧ w.cell? ⟨g, 1, none⟩ = some b ∧ w.cell? ⟨g, 2, none⟩ = some c ∧ w.cell? ⟨g, 3, none⟩ = some d ∧ w.cell? ⟨g, 4, none⟩ = some e ∧ w.cell? ⟨g, 5, none⟩ = some f := by
  simp [World.cell?, h]
/-- May an epoch be? -/
def epB (x : Int) : Bool := decide (0 ≤ x) && decide (x ≤ 1073741824)
/-- What checkJob answers. -/
def jbE (ep : Int) (m k : Nat) : Int := if epB ep = false then 1 else if m ≠ k then 4 else 0
set_option maxRecDepth 100000 in
set_option maxHeartbeats 1600000 in
theorem plInner_any (N : Int) (a : Option Addr) (l : List A) (cap : Nat) (ba : Option Addr) (bs : List Int) (bc : Nat) (ca : Option Addr) (C : List Cl) (cc : Nat) (lv ce : Int) (w : World) (hl : l.length ≤ 9223372036854775807) (hbl : bs.length ≤ 9223372036854775807) (hr : Arcs w a l) (hi : Ints w ba bs) (hR : Rws w ca C) :
    Calls Tryz.prog 38 #[.agg #[.int .i64 N, .slice a l.length cap, .slice ba bs.length bc, .slice ca C.length cc, .int .i64 lv, .int .i64 ce]] w fun e w' => ∃ v, e = .returned (.tuple #[.slice v (inV N l bs (csl C) lv ce).length (inV N l bs (csl C) lv ce).length, .int .i64 (inE N l bs (csl C) lv ce)]) ∧ RowI w' w.heap.size v (ints (inV N l bs (csl C) lv ce)) ∧ Below w.heap.size w w' := by
  have hg := heap_top w (.cells #[.int .i64 N, .slice a l.length cap, .slice ba bs.length bc, .slice ca C.length cc, .int .i64 lv, .int .i64 ce] 71)
  have hb0 : Below w.heap.size w (w.alloc (.cells #[.int .i64 N, .slice a l.length cap, .slice ba bs.length bc, .slice ca C.length cc, .int .i64 lv, .int .i64 ce] 71)) := (Below.refl _ _).alloc (Nat.le_refl _) _
  obtain ⟨c0, c1, c2, c3, c4, c5⟩ := six_cells hg
  have HC := Lib.hid (inner_any N a l cap ba bs bc ca C cc lv ce _ hl hbl (hr.on hb0) (hi.on hb0) (hR.on hb0))
  have HB0 := Lib.hid hb0
  have hsz : (w.alloc (.cells #[.int .i64 N, .slice a l.length cap, .slice ba bs.length bc, .slice ca C.length cc, .int .i64 lv, .int .i64 ce] 71)).heap.size = w.heap.size + 1 := by simp
  obtain ⟨E, HE⟩ := named (inE N l bs (csl C) lv ce)
  obtain ⟨S, HS⟩ := named (inV N l bs (csl C) lv ce)
  rw [HE.out, HS.out] at HC
  rw [HE.out, HS.out]
  clear hr hi hR hb0 hg
  generalize hp : w.heap.size = p at *
  go_enter Tryz.func38, Tryz.ntmps38
  go_wp2_with fail
  refine HC.out.mono ?_
  rintro e w2 ⟨v, rfl, hr2, hb2⟩
  have HB2 : Hid (Below p w w2) := HB0.out.trans (hb2.mono (by omega))
  have HR2 := Lib.hid (hr2.base (C := p) (by omega))
  clear hr2 hb2 HC c0 c1 c2 c3 c4 c5
  go_wp2_with fail
  go_ret2
  exact ⟨v, rfl, HR2.out, HB2.out⟩
set_option maxRecDepth 100000 in
set_option maxHeartbeats 1600000 in
theorem plBound_any (N : Int) (a : Option Addr) (l : List A) (cap : Nat) (ba : Option Addr) (bs : List Int) (bc : Nat) (ca : Option Addr) (C : List Cl) (cc : Nat) (lv ce : Int) (w : World) (hl : l.length ≤ 9223372036854775807) (hbl : bs.length ≤ 9223372036854775807) (hr : Arcs w a l) (hi : Ints w ba bs) (hR : Rws w ca C) :
    Calls Tryz.prog 48 #[.agg #[.int .i64 N, .slice a l.length cap, .slice ba bs.length bc, .slice ca C.length cc, .int .i64 lv, .int .i64 ce]] w fun e w' => ∃ v, e = .returned (.tuple #[.slice v (bdV N l bs (csl C) lv ce).length (bdV N l bs (csl C) lv ce).length, .int .i64 (inE N l bs (csl C) lv ce)]) ∧ RowI w' w.heap.size v (ints (bdV N l bs (csl C) lv ce)) ∧ Below w.heap.size w w' := by
  have hg := heap_top w (.cells #[.int .i64 N, .slice a l.length cap, .slice ba bs.length bc, .slice ca C.length cc, .int .i64 lv, .int .i64 ce] 71)
  have hb0 : Below w.heap.size w (w.alloc (.cells #[.int .i64 N, .slice a l.length cap, .slice ba bs.length bc, .slice ca C.length cc, .int .i64 lv, .int .i64 ce] 71)) := (Below.refl _ _).alloc (Nat.le_refl _) _
  obtain ⟨c0, c1, c2, c3, c4, c5⟩ := six_cells hg
  have HC := Lib.hid (boundary_any N a l cap ba bs bc ca C cc lv ce _ hl hbl (hr.on hb0) (hi.on hb0) (hR.on hb0))
  have HB0 := Lib.hid hb0
  have hsz : (w.alloc (.cells #[.int .i64 N, .slice a l.length cap, .slice ba bs.length bc, .slice ca C.length cc, .int .i64 lv, .int .i64 ce] 71)).heap.size = w.heap.size + 1 := by simp
  obtain ⟨E, HE⟩ := named (inE N l bs (csl C) lv ce)
  obtain ⟨S, HS⟩ := named (bdV N l bs (csl C) lv ce)
  rw [HE.out, HS.out] at HC
  rw [HE.out, HS.out]
  clear hr hi hR hb0 hg
  generalize hp : w.heap.size = p at *
  go_enter Tryz.func48, Tryz.ntmps48
  go_wp2_with fail
  refine HC.out.mono ?_
  rintro e w2 ⟨v, rfl, hr2, hb2⟩
  have HB2 : Hid (Below p w w2) := HB0.out.trans (hb2.mono (by omega))
  have HR2 := Lib.hid (hr2.base (C := p) (by omega))
  clear hr2 hb2 HC c0 c1 c2 c3 c4 c5
  go_wp2_with fail
  go_ret2
  exact ⟨v, rfl, HR2.out, HB2.out⟩
set_option maxRecDepth 100000 in
set_option maxHeartbeats 1600000 in
theorem isEpoch_any (x : Int) (w : World) : Calls Tryz.prog 88 #[.int .i64 x] w fun e w' => e = .returned (.bool (epB x)) ∧ w' = w := by
  unfold epB
  by_cases h1 : 0 ≤ x
  · rw [decide_eq_true h1]
    by_cases h2 : x ≤ 1073741824
    · rw [decide_eq_true h2]
      go_enter Tryz.func88, Tryz.ntmps88
      go_wp2_with fail
      go_ret
      exact ⟨rfl, rfl⟩
    · rw [decide_eq_false h2]
      go_enter Tryz.func88, Tryz.ntmps88
      go_wp2_with fail
      go_ret
      exact ⟨rfl, rfl⟩
  · rw [decide_eq_false h1]
    go_enter Tryz.func88, Tryz.ntmps88
    go_wp2_with fail
    go_ret
    exact ⟨rfl, rfl⟩
set_option maxRecDepth 100000 in
set_option maxHeartbeats 1600000 in
theorem checkJob_any (ep : Int) (wa : Option Addr) (m wc : Nat) (ia : Option Addr) (k ic : Nat) (w : World) : Calls Tryz.prog 63 #[.int .i64 ep, .slice wa m wc, .slice ia k ic] w fun e w' => e = .returned (.int .i64 (jbE ep m k)) ∧ w' = w := by
  have HE := Lib.hid (isEpoch_any ep w)
  unfold jbE
  obtain ⟨E, HEP⟩ := named (epB ep)
  rw [HEP.out] at HE
  rw [HEP.out]
  rcases E with _ | _
  · rw [if_pos rfl]
    go_enter Tryz.func63, Tryz.ntmps63
    go_wp2_with fail
    refine HE.out.mono ?_
    rintro e w2 ⟨rfl, rfl⟩
    go_wp2_with fail
    go_ret
    exact ⟨rfl, rfl⟩
  · rw [if_neg (by simp)]
    by_cases h : m = k
    · have e1 : ((m : Int) != (k : Int)) = false := by subst h; simp
      rw [if_neg (by simpa using h)]
      clear h
      go_enter Tryz.func63, Tryz.ntmps63
      go_wp2_with fail
      refine HE.out.mono ?_
      rintro e w2 ⟨rfl, rfl⟩
      go_wp2_with fail
      go_ret
      exact ⟨rfl, rfl⟩
    · have e1 : ((m : Int) != (k : Int)) = true := by simp; omega
      rw [if_pos h]
      clear h
      go_enter Tryz.func63, Tryz.ntmps63
      go_wp2_with fail
      refine HE.out.mono ?_
      rintro e w2 ⟨rfl, rfl⟩
      go_wp2_with fail
      go_ret
      exact ⟨rfl, rfl⟩
end Go.Proofs.YtpmjbeiclmllmaaGreat
namespace Go.Proofs.YtpmjbeiclmllmaaGreat
open Go.RowKit
/-- Weights of a slice as they lie in memory. -/
def Wts (w : World) (a : Option Addr) (xs : List Int) : Prop := xs = [] ∨ ∃ b o, a = some ⟨b, o, none⟩ ∧ b < w.heap.size ∧ ∀ j, j < xs.length → w.cell? ⟨b, o + j, none⟩ = some (.int .u32 (xs.getD j 0))
theorem Wts.on {w w' : World} {a : Option Addr} {xs : List Int} (h : Wts w a xs) (hb : Below w.heap.size w w') : Wts w' a xs := by
  rcases h with h | ⟨b, o, h1, h2, h3⟩
  · exact Or.inl h
  · exact Or.inr ⟨b, o, h1, Nat.lt_of_lt_of_le h2 hb.size, fun j hj => (hb.cell (p := ⟨b, o + j, none⟩) h2).trans (h3 j hj)⟩
theorem Wts.get {w : World} {a : Option Addr} {xs : List Int} (h : Wts w a xs) : ∃ b o, 0 < xs.length → a = some ⟨b, o, none⟩ ∧ b < w.heap.size ∧ ∀ j, j < xs.length → w.cell? ⟨b, o + j, none⟩ = some (.int .u32 (xs.getD j 0)) := by
  rcases h with h | ⟨b, o, h1, h2, h3⟩
  · exact ⟨0, 0, fun h5 => by rw [h] at h5; simp at h5⟩
  · exact ⟨b, o, fun _ => ⟨h1, h2, h3⟩⟩
/-- Some arcs with other weights. -/
def wgA (l : List A) (ids : List Nat) (ws : List Int) (i : Nat) : A := ⟨(l.getD (ids.getD i 0) A.zero).f, (l.getD (ids.getD i 0) A.zero).t, ws.getD i 0⟩
def wgL (l : List A) (ids : List Nat) (ws : List Int) : List A := (List.range ids.length).map (wgA l ids ws)
theorem wgL_len (l : List A) (ids : List Nat) (ws : List Int) : (wgL l ids ws).length = ids.length := by simp [wgL]
theorem wgL_at {l : List A} {ids : List Nat} {ws : List Int} {i : Nat} (h : i < ids.length) : (wgL l ids ws).getD i A.zero = wgA l ids ws i := by simp [wgL, List.getD, h]
/-- The cells of arcs one behind the other. -/
def aC (x : A) (r : Nat) : Value := if r = 0 then .int .i64 x.f else if r = 1 then .int .i64 x.t else .int .u32 x.w
def wgV (l : List A) (ids : List Nat) (ws : List Int) (k i : Nat) : Value := if i / 3 < k then aC (wgA l ids ws (i / 3)) (i % 3) else aC A.zero (i % 3)
theorem wgV_step (l : List A) (ids : List Nat) (ws : List Int) (k i : Nat) (x : A) (hx : l.getD (ids.getD k 0) A.zero = x) : updV (updV (updV (updV (wgV l ids ws k) (k * 3) (.int .i64 x.f)) (k * 3 + 1) (.int .i64 x.t)) (k * 3 + 2) (.int .u32 x.w)) (k * 3 + 2) (.int .u32 (ws.getD k 0)) i = wgV l ids ws (k + 1) i := by
  have key : ∀ r, r < 3 → (k * 3 + r) / 3 = k ∧ (k * 3 + r) % 3 = r := fun r hr => by omega
  unfold updV
  by_cases h2 : i = k * 3 + 2
  · subst h2
    simp only [if_true]
    unfold wgV aC wgA
    rw [(key 2 (by omega)).1, (key 2 (by omega)).2, if_pos (Nat.lt_succ_self k)]
    simp
  · rw [if_neg h2, if_neg h2]
    by_cases h1 : i = k * 3 + 1
    · subst h1
      simp only [if_true]
      unfold wgV aC wgA
      rw [(key 1 (by omega)).1, (key 1 (by omega)).2, if_pos (Nat.lt_succ_self k), hx]
      simp
    · rw [if_neg h1]
      by_cases h0 : i = k * 3
      · subst h0
        simp only [if_true]
        unfold wgV aC wgA
        have := key 0 (by omega)
        rw [Nat.add_zero] at this
        rw [this.1, this.2, if_pos (Nat.lt_succ_self k), hx]
        simp
      · rw [if_neg h0]
        unfold wgV
        by_cases h : i / 3 < k
        · rw [if_pos h, if_pos (by omega)]
        · rw [if_neg h, if_neg (by omega)]
theorem wg_arcs {w : World} {g m : Nat} {l : List A} {ids : List Nat} {ws : List Int} (hm : ids.length = m) (h : TbV w g (m * 3) 68 (wgV l ids ws m)) : Arcs w (some ⟨g, 0, none⟩) (wgL l ids ws) := by
  refine Or.inr ⟨g, 0, rfl, h.lt, fun j hj => ?_⟩
  rw [wgL_len] at hj
  rw [wgL_at hj, Nat.zero_add]
  have key : ∀ r, r < 3 → (j * 3 + r) / 3 = j ∧ (j * 3 + r) % 3 = r := fun r hr => by omega
  have f : ∀ r, r < 3 → w.cell? ⟨g, j * 3 + r, none⟩ = some (aC (wgA l ids ws j) r) := fun r hr => by
    rw [h.cell (v := j * 3 + r) (by omega)]
    unfold wgV
    rw [(key r hr).1, (key r hr).2, if_pos (by omega)]
  have f0 := f 0 (by omega)
  exact ⟨f0, f 1 (by omega), f 2 (by omega)⟩
theorem info56 : (Tryz.prog.info? 68).map (fun i => (i.zero, i.size, i.bytes)) = some (some (.agg #[.int .i64 0, .int .i64 0, .int .u32 0]), 3, 24) := by kernel_rfl
theorem made_arcs (l : List A) (ids : List Nat) (ws : List Int) (m : Nat) : madeCells (Value.agg #[.int .i64 0, .int .i64 0, .int .u32 0]).cells (m * 3) = ((List.range (m * 3)).map (wgV l ids ws 0)).toArray := by
  show madeCells #[.int .i64 0, .int .i64 0, .int .u32 0] (m * 3) = _
  apply Array.ext'
  unfold madeCells
  rw [Array.toList_map, Array.toList_range]
  refine List.map_congr_left (fun i _ => ?_)
  show (#[Value.int .i64 0, .int .i64 0, .int .u32 0] : Array Value)[i % 3]! = _
  unfold wgV aC A.zero
  rw [if_neg (by omega)]
  have : i % 3 = 0 ∨ i % 3 = 1 ∨ i % 3 = 2 := by omega
  rcases this with h | h | h <;> rw [h] <;> rfl
set_option maxRecDepth 100000 in
set_option maxHeartbeats 1600000 in
theorem weighed_any (N : Int) (a : Option Addr) (l : List A) (cap : Nat) (ia : Option Addr) (ids : List Nat) (ic : Nat) (wa : Option Addr) (ws : List Int) (wc m : Nat) (w : World) (hl8 : l.length ≤ 8192) (hm : ids.length = m) (hw : ws.length = m) (hm8 : m ≤ 8192) (hid : ∀ i, i < m → ids.getD i 0 < l.length) (hr : Arcs w a l) (hi : Ints w ia (ints ids)) (hW : Wts w wa ws) :
    Calls Tryz.prog 64 #[.agg #[.int .i64 N, .slice a l.length cap], .slice ia m ic, .slice wa m wc] w fun e w' => ∃ g, e = .returned (.slice (some ⟨g, 0, none⟩) m m) ∧ w.heap.size ≤ g ∧ g < w'.heap.size ∧ Arcs w' (some ⟨g, 0, none⟩) (wgL l ids ws) ∧ Below w.heap.size w w' := by
  have hb0 : Below w.heap.size w (w.alloc (.cells #[.int .i64 N, .slice a l.length cap] 24)) := (Below.refl _ _).alloc (Nat.le_refl _) _
  have hg := heap_top w (.cells #[.int .i64 N, .slice a l.length cap] 24)
  have HGG := Lib.hid hg
  obtain ⟨⟨c0, c1⟩, _⟩ := two_cells hg
  obtain ⟨i56, hi56, hz56, hs56, hby56⟩ := info_parts info56
  have hmk : ∀ w, (Instr.makeSlice 22 (.int .i64 m) (.int .i64 m)).run Tryz.prog w = .ok (.slice (some ⟨w.heap.size, 0, none⟩) m m) (w.alloc (.cells ((List.range (m * 3)).map (wgV l ids ws 0)).toArray 68)) := fun w => by
    have := run_make (P := Tryz.prog) w 22 68 i56 (.agg #[.int .i64 0, .int .i64 0, .int .u32 0]) Tryz.underlying22 hi56 hz56 .i64 .i64 m m (by omega) (by omega) (by rw [hby56]; omega) (by omega)
    rw [hs56] at this
    rw [this, Int.toNat_natCast, made_arcs l ids ws]
  obtain ⟨ix, ox, hix⟩ := hr.get
  obtain ⟨iy, oy, hiy⟩ := hi.get
  obtain ⟨iz, oz, hiz⟩ := hW.get
  rw [ints_len, hm] at hiy
  rw [hw] at hiz
  have HIX := Lib.hid hix
  have HIY := Lib.hid hiy
  have HIZ := Lib.hid hiz
  have HB0 := Lib.hid hb0
  have HM := Lib.hid hm
  have HID := Lib.hid hid
  have HST := Lib.hid (wgV_step l ids ws)
  have HFN : Hid (∀ wr b, TbV wr b (m * 3) 68 (wgV l ids ws m) → Arcs wr (some ⟨b, 0, none⟩) (wgL l ids ws)) := fun wr b h => wg_arcs hm h
  clear hr hi hW hix hiy hiz hb0 hm hw hid
  generalize hp : w.heap.size = p at *
  go_enter Tryz.func64, Tryz.ntmps64
  go_wp2_with fail
  have hw1 : (w.alloc (.cells #[.int .i64 N, .slice a l.length cap] 24)).heap.size = p + 1 := by simp [hp]
  generalize hW : (w.alloc (.cells #[.int .i64 N, .slice a l.length cap] 24)) = W at *
  clear hW hg
  have HT0 : Hid (TbV (W.alloc (.cells ((List.range (m * 3)).map (wgV l ids ws 0)).toArray 68)) (p + 1) (m * 3) 68 (wgV l ids ws 0)) := by
    have h := heap_top W (.cells ((List.range (m * 3)).map (wgV l ids ws 0)).toArray 68)
    rw [hw1] at h
    exact h
  have HB1 : Hid (Below p w (W.alloc (.cells ((List.range (m * 3)).map (wgV l ids ws 0)).toArray 68))) := HB0.out.alloc (by omega) _
  have HG1 : Hid ((W.alloc (.cells ((List.range (m * 3)).map (wgV l ids ws 0)).toArray 68)).heap[p]? = some (.cells #[.int .i64 N, .slice a l.length cap] 24)) := (Below.heap_alloc _ _ _ (by omega)).trans HGG.out
  generalize W.alloc (.cells ((List.range (m * 3)).map (wgV l ids ws 0)).toArray 68) = V at *
  clear c0 c1 HB0 hw1 hmk HGG
  go_loopw [15] (fun i wr => ∃ (k : Nat), k ≤ m ∧ i = .int .i64 k ∧ Hid (TbV wr (p + 1) (m * 3) 68 (wgV l ids ws k)) ∧ Hid (wr.heap[p]? = some (.cells #[.int .i64 N, .slice a l.length cap] 24)) ∧ Hid (Below p w wr)) (fun i _ => m - (intOf i).toNat)
  case atStart => exact ⟨0, Nat.zero_le _, rfl, HT0, HG1, HB1⟩
  case round =>
    obtain ⟨k, hk, rfl, HTR, HGR, HBR⟩ := hrel
    clear HT0 HG1 HB1
    have hwr : p + 1 < wr.heap.size := HTR.out.lt
    by_cases hlk : k < m
    · have hlk' : (k : Int) < m := by omega
      have hk0 : (0 : Int) ≤ k := by omega
      obtain ⟨rfl, hyl, hyat⟩ := HIY.out (by omega)
      obtain ⟨rfl, hzl, hzat⟩ := HIZ.out (by omega)
      have s0 := (HBR.out.cell (p := ⟨iy, oy + k, none⟩) (hp ▸ hyl)).trans (hyat k hlk)
      rw [ints_getD (by rw [HM.out]; exact hlk)] at s0
      have t0 := (HBR.out.cell (p := ⟨iz, oz + k, none⟩) (hp ▸ hzl)).trans (hzat k hlk)
      have hil := HID.out k hlk
      have HSK := Lib.hid (fun i => HST.out k i (l.getD (ids.getD k 0) A.zero) rfl)
      obtain ⟨i, HII⟩ := named (ids.getD k 0)
      obtain ⟨wk, HWK⟩ := named (ws.getD k 0)
      rw [HII.out] at s0 hil HSK
      rw [HWK.out] at t0 HSK
      obtain ⟨rfl, hbl, hat⟩ := HIX.out (by omega)
      obtain ⟨x0, x1, x2⟩ := hat i hil
      have y0 := (HBR.out.cell (p := ⟨ix, ox + i * 3, none⟩) (hp ▸ hbl)).trans x0
      have y1 := (HBR.out.cell (p := ⟨ix, ox + i * 3 + 1, none⟩) (hp ▸ hbl)).trans x1
      have y2 := (HBR.out.cell (p := ⟨ix, ox + i * 3 + 2, none⟩) (hp ▸ hbl)).trans x2
      generalize l.getD i A.zero = x at *
      have hii : (i : Int) < l.length := by omega
      have hi0 : (0 : Int) ≤ i := by omega
      obtain ⟨⟨k0, k1⟩, _⟩ := two_cells HGR.out
      have q0 := HTR.out.free (k * 3)
      have q1 := HTR.out.free (k * 3 + 1)
      have q2 := HTR.out.free (k * 3 + 2)
      have r0 := HTR.out.cell (v := k * 3) (by omega)
      have r1 := HTR.out.cell (v := k * 3 + 1) (by omega)
      have r2 := HTR.out.cell (v := k * 3 + 2) (by omega)
      have HT1 := Lib.hid (((HTR.out.set (k * 3) (.int .i64 x.f)).set (k * 3 + 1) (.int .i64 x.t)).set (k * 3 + 2) (.int .u32 x.w))
      have HT2 : Hid (TbV ((((wr.setCell ⟨p + 1, k * 3, none⟩ (.int .i64 x.f)).setCell ⟨p + 1, k * 3 + 1, none⟩ (.int .i64 x.t)).setCell ⟨p + 1, k * 3 + 2, none⟩ (.int .u32 x.w)).setCell ⟨p + 1, k * 3 + 2, none⟩ (.int .u32 wk)) (p + 1) (m * 3) 68 (wgV l ids ws (k + 1))) := (HT1.out.set (k * 3 + 2) (.int .u32 wk)).congr (fun c _ => HSK.out c)
      have HB2 : Hid (Below p w (((wr.setCell ⟨p + 1, k * 3, none⟩ (.int .i64 x.f)).setCell ⟨p + 1, k * 3 + 1, none⟩ (.int .i64 x.t)).setCell ⟨p + 1, k * 3 + 2, none⟩ (.int .u32 x.w))) := ((HBR.out.setCell (p := ⟨p + 1, k * 3, none⟩) (by simp) _).setCell (p := ⟨p + 1, k * 3 + 1, none⟩) (by simp) _).setCell (p := ⟨p + 1, k * 3 + 2, none⟩) (by simp) _
      have HB3 : Hid (Below p w ((((wr.setCell ⟨p + 1, k * 3, none⟩ (.int .i64 x.f)).setCell ⟨p + 1, k * 3 + 1, none⟩ (.int .i64 x.t)).setCell ⟨p + 1, k * 3 + 2, none⟩ (.int .u32 x.w)).setCell ⟨p + 1, k * 3 + 2, none⟩ (.int .u32 wk))) := HB2.out.setCell (p := ⟨p + 1, k * 3 + 2, none⟩) (by simp) _
      have t1 := (HB2.out.cell (p := ⟨iz, oz + k, none⟩) (hp ▸ hzl)).trans ((HBR.out.cell (p := ⟨iz, oz + k, none⟩) (hp ▸ hzl)).symm.trans t0)
      have q3 := HT1.out.free (k * 3 + 2)
      have r3 := HT1.out.cell (v := k * 3 + 2) (by omega)
      have hne : p ≠ p + 1 := by omega
      have HG3 : Hid (((((wr.setCell ⟨p + 1, k * 3, none⟩ (.int .i64 x.f)).setCell ⟨p + 1, k * 3 + 1, none⟩ (.int .i64 x.t)).setCell ⟨p + 1, k * 3 + 2, none⟩ (.int .u32 x.w)).setCell ⟨p + 1, k * 3 + 2, none⟩ (.int .u32 wk)).heap[p]? = some (.cells #[.int .i64 N, .slice (some ⟨ix, ox, none⟩) l.length cap] 24)) := (Below.heap_setCell _ ⟨p + 1, k * 3 + 2, none⟩ _ p hne).trans ((Below.heap_setCell _ ⟨p + 1, k * 3 + 2, none⟩ _ p hne).trans ((Below.heap_setCell _ ⟨p + 1, k * 3 + 1, none⟩ _ p hne).trans ((Below.heap_setCell _ ⟨p + 1, k * 3, none⟩ _ p hne).trans HGR.out)))
      clear x0 x1 x2 hat hyat hzat
      go_wp2_with fail
      exact ⟨⟨k + 1, by omega, by simp, HT2, HG3, HB3⟩, by simp [intOf]; omega⟩
    · have hlk' : ¬ (k : Int) < m := by omega
      obtain rfl : k = m := by omega
      go_wp2_with fail
      go_ret
      exact ⟨p + 1, rfl, by omega, hwr, HFN.out _ _ HTR.out, HBR.out⟩
end Go.Proofs.YtpmjbeiclmllmaaGreat
