import Derived.Laws.EntriesVeiled
import Derived.Test.YtaafkpojjdjphaaGreatQAD
open Go.Lib (hid)
set_option maxRecDepth 100000
namespace Go.Proofs.YtaafkpojjdjphaaGreat
open Go.RowKit
set_option maxHeartbeats 1600000 in
theorem chAI_any (k b1 b2 : Nat) (u0 u1 : Value) (a : Option Addr) (l : List A) (cap : Nat) (P : A → Bool) (w : World) (hk : k < l.length) (hl : l.length ≤ 8192) (c1 : w.cell? ⟨b1, 0, none⟩ = some (.func (.func 85) #[] #[u0, u1])) (c2 : w.cell? ⟨b2, 1, none⟩ = some (.slice a l.length cap)) (hr : Arcs w a l)
  (hW : ∀ W2, Below w.heap.size w W2 → Calls Tryz.prog 85 #[.agg #[.int .i64 (l.getD k A.zero).f, .int .i64 (l.getD k A.zero).t, .int .u32 (l.getD k A.zero).w], u0, u1] W2 fun e w' => e = .returned (.bool (P (l.getD k A.zero))) ∧ Below W2.heap.size W2 w') :
  Calls Tryz.prog 156 #[.int .i64 k, .pointer (some ⟨b1, 0, none⟩), .pointer (some ⟨b2, 0, none⟩)] w fun e w' => e = .returned (.bool (arP l P k)) ∧ Below w.heap.size w w' := by
 obtain ⟨ix, ox, hix⟩ := hr.get
 obtain ⟨rfl, hbl, hat⟩ := hix (by omega)
 obtain ⟨x0, x1, x2⟩ := hat k hk
 have hl1 := World.block_lt_of_cell? w _ c1
 have hl2 := World.block_lt_of_cell? w _ c2
 have hk' : (k : Int) < l.length := by omega
 have HW := hid hW
 have HP : Hid (arP l P k = P (l.getD k A.zero)) := rfl
 rw [HP.out]
 generalize P (l.getD k A.zero) = R at *
 generalize l.getD k A.zero = x at *
 clear hat hix hr HP hW
 have X0 := hid x0
 have X1 := hid x1
 have X2 := hid x2
 have C1 := hid c1
 have C2 := hid c2
 have HBD : Hid (Below w.heap.size w w.drew) := (Below.refl _ _).drew
 go_enter Tryz.func156, Tryz.ntmps156
 go_wp2_with fail
 go_region_held3 (fun w' => w'.cell? ⟨b1, 0, none⟩ = some (.func (.func 85) #[] #[u0, u1]) ∧ w'.cell? ⟨b2, 1, none⟩ = some (.slice (some ⟨ix, ox, none⟩) l.length cap) ∧ w'.cell? ⟨ix, ox + k * 3, none⟩ = some (.int .i64 x.f) ∧ w'.cell? ⟨ix, ox + k * 3 + 1, none⟩ = some (.int .i64 x.t) ∧ w'.cell? ⟨ix, ox + k * 3 + 2, none⟩ = some (.int .u32 x.w)) (go_keep) ((go_at_call 85; refine (HW.out _ HBD.out).mono ?_; rintro e w2 ⟨rfl, hb2⟩; have hb2 := HBD.out.trans hb2; have v0 := (hb2.cell (p := ⟨b1, 0, none⟩) hl1).trans C1.out; have v1 := (hb2.cell (p := ⟨b2, 1, none⟩) hl2).trans C2.out; have v2 := (hb2.cell (p := ⟨ix, ox + k * 3, none⟩) hbl).trans X0.out; have v3 := (hb2.cell (p := ⟨ix, ox + k * 3 + 1, none⟩) hbl).trans X1.out; have v4 := (hb2.cell (p := ⟨ix, ox + k * 3 + 2, none⟩) hbl).trans X2.out; have HB2 := hid hb2; clear hb2))
 go_wp2_with fail
 go_ret
 exact ⟨rfl, HB2.out⟩
set_option maxHeartbeats 1600000 in
theorem cArcsI_any (N : Int) (u0 u1 : Value) (a : Option Addr) (l : List A) (cap : Nat) (P : A → Bool) (w : World) (hl : l.length ≤ 8192) (hr : Arcs w a l)
  (hW : ∀ k, k < l.length → ∀ W2, Below w.heap.size w W2 → Calls Tryz.prog 85 #[.agg #[.int .i64 (l.getD k A.zero).f, .int .i64 (l.getD k A.zero).t, .int .u32 (l.getD k A.zero).w], u0, u1] W2 fun e w' => e = .returned (.bool (P (l.getD k A.zero))) ∧ Below W2.heap.size W2 w') :
  Calls Tryz.prog 84 #[.agg #[.int .i64 N, .slice a l.length cap], .func (.func 85) #[] #[u0, u1]] w fun e w' => ∃ v, e = .returned (.slice v (arL l P).length (arL l P).length) ∧ RowI w' w.heap.size v (ints (arL l P)) ∧ Below w.heap.size w w' := by
 have hb0 : Below w.heap.size w ((w.alloc (.cells #[.int .i64 N, .slice a l.length cap] 24)).alloc (.cells #[.func (.func 85) #[] #[u0, u1]] 137)) := (top2 w _ _).2.2.1
 have hg0 := (top2 w (.cells #[.int .i64 N, .slice a l.length cap] 24) (.cells #[.func (.func 85) #[] #[u0, u1]] 137)).1
 have hg1 := (top2 w (.cells #[.int .i64 N, .slice a l.length cap] 24) (.cells #[.func (.func 85) #[] #[u0, u1]] 137)).2.1
 have hsz := (top2 w (.cells #[.int .i64 N, .slice a l.length cap] 24) (.cells #[.func (.func 85) #[] #[u0, u1]] 137)).2.2.2
 obtain ⟨⟨a0, a1⟩, _⟩ := two_cells hg0
 have a2 := cell_of_one hg1
 have HA1 := hid a1
 have HA2 := hid a2
 have hmf : ∀ (fn : Fn) (first cap : Array Value) (w : World), (Instr.makeFunc fn first cap).run Tryz.prog w = .ok (.func fn first cap) w := fun _ _ _ _ => rfl
 have HB0 := hid hb0
 have HR := hid hr
 have HW := hid hW
 have HAL : Hid (arL l P = cho (arP l P) l.length) := rfl
 rw [HAL.out]
 clear hr hb0 hg0 hg1 hW HAL
 generalize hp : w.heap.size = p at *
 go_enter Tryz.func84, Tryz.ntmps84
 go_wp2_with fail
 generalize hZ : (w.alloc (.cells #[.int .i64 N, .slice a l.length cap] 24)).alloc (.cells #[.func (.func 85) #[] #[u0, u1]] 137) = Z at *
 clear hZ
 refine (chosenA_any l.length (arP l P) (.pointer (some ⟨p + 1, 0, none⟩)) (.pointer (some ⟨p, 0, none⟩)) Z hl (fun k hk W2 hb => ?_)).mono ?_
 ·have hbw : Below p w W2 := HB0.out.trans (hb.mono (by omega))
  refine chAI_any k (p + 1) p u0 u1 a l cap P W2 hk hl ((hb.cell (p := ⟨p + 1, 0, none⟩) (by show p + 1 < _; omega)).trans HA2.out) ((hb.cell (p := ⟨p, 1, none⟩) (by show p < _; omega)).trans HA1.out) (HR.out.on (hp ▸ hbw)) (fun W3 hb3 => HW.out k hk W3 (hbw.trans (hb3.mono ?_)))
  have := hb.size
  omega
 ·rintro e w1 ⟨v, rfl, hrow, hb1⟩
  have HR1 := hid (hrow.base (C := p) (by omega))
  have HB1 : Hid (Below p w w1) := HB0.out.trans (hb1.mono (by omega))
  clear hrow hb1 a0 a1 a2
  go_wp2_with fail
  go_ret
  exact ⟨v, rfl, HR1.out, HB1.out⟩
set_option maxHeartbeats 1600000 in
theorem chAB_any (k b1 b2 : Nat) (u0 u1 u2 : Value) (a : Option Addr) (l : List A) (cap : Nat) (P : A → Bool) (w : World) (hk : k < l.length) (hl : l.length ≤ 8192) (c1 : w.cell? ⟨b1, 0, none⟩ = some (.func (.func 89) #[] #[u0, u1, u2])) (c2 : w.cell? ⟨b2, 1, none⟩ = some (.slice a l.length cap)) (hr : Arcs w a l)
  (hW : ∀ W2, Below w.heap.size w W2 → Calls Tryz.prog 89 #[.agg #[.int .i64 (l.getD k A.zero).f, .int .i64 (l.getD k A.zero).t, .int .u32 (l.getD k A.zero).w], u0, u1, u2] W2 fun e w' => e = .returned (.bool (P (l.getD k A.zero))) ∧ Below W2.heap.size W2 w') :
  Calls Tryz.prog 156 #[.int .i64 k, .pointer (some ⟨b1, 0, none⟩), .pointer (some ⟨b2, 0, none⟩)] w fun e w' => e = .returned (.bool (arP l P k)) ∧ Below w.heap.size w w' := by
 obtain ⟨ix, ox, hix⟩ := hr.get
 obtain ⟨rfl, hbl, hat⟩ := hix (by omega)
 obtain ⟨x0, x1, x2⟩ := hat k hk
 have hl1 := World.block_lt_of_cell? w _ c1
 have hl2 := World.block_lt_of_cell? w _ c2
 have hk' : (k : Int) < l.length := by omega
 have HW := hid hW
 have HP : Hid (arP l P k = P (l.getD k A.zero)) := rfl
 rw [HP.out]
 generalize P (l.getD k A.zero) = R at *
 generalize l.getD k A.zero = x at *
 clear hat hix hr HP hW
 have X0 := hid x0
 have X1 := hid x1
 have X2 := hid x2
 have C1 := hid c1
 have C2 := hid c2
 have HBD : Hid (Below w.heap.size w w.drew) := (Below.refl _ _).drew
 go_enter Tryz.func156, Tryz.ntmps156
 go_wp2_with fail
 go_region_held3 (fun w' => w'.cell? ⟨b1, 0, none⟩ = some (.func (.func 89) #[] #[u0, u1, u2]) ∧ w'.cell? ⟨b2, 1, none⟩ = some (.slice (some ⟨ix, ox, none⟩) l.length cap) ∧ w'.cell? ⟨ix, ox + k * 3, none⟩ = some (.int .i64 x.f) ∧ w'.cell? ⟨ix, ox + k * 3 + 1, none⟩ = some (.int .i64 x.t) ∧ w'.cell? ⟨ix, ox + k * 3 + 2, none⟩ = some (.int .u32 x.w)) (go_keep) ((go_at_call 89; refine (HW.out _ HBD.out).mono ?_; rintro e w2 ⟨rfl, hb2⟩; have hb2 := HBD.out.trans hb2; have v0 := (hb2.cell (p := ⟨b1, 0, none⟩) hl1).trans C1.out; have v1 := (hb2.cell (p := ⟨b2, 1, none⟩) hl2).trans C2.out; have v2 := (hb2.cell (p := ⟨ix, ox + k * 3, none⟩) hbl).trans X0.out; have v3 := (hb2.cell (p := ⟨ix, ox + k * 3 + 1, none⟩) hbl).trans X1.out; have v4 := (hb2.cell (p := ⟨ix, ox + k * 3 + 2, none⟩) hbl).trans X2.out; have HB2 := hid hb2; clear hb2))
 go_wp2_with fail
 go_ret
 exact ⟨rfl, HB2.out⟩
set_option maxHeartbeats 1600000 in
theorem cArcsB_any (N : Int) (u0 u1 u2 : Value) (a : Option Addr) (l : List A) (cap : Nat) (P : A → Bool) (w : World) (hl : l.length ≤ 8192) (hr : Arcs w a l)
  (hW : ∀ k, k < l.length → ∀ W2, Below w.heap.size w W2 → Calls Tryz.prog 89 #[.agg #[.int .i64 (l.getD k A.zero).f, .int .i64 (l.getD k A.zero).t, .int .u32 (l.getD k A.zero).w], u0, u1, u2] W2 fun e w' => e = .returned (.bool (P (l.getD k A.zero))) ∧ Below W2.heap.size W2 w') :
  Calls Tryz.prog 84 #[.agg #[.int .i64 N, .slice a l.length cap], .func (.func 89) #[] #[u0, u1, u2]] w fun e w' => ∃ v, e = .returned (.slice v (arL l P).length (arL l P).length) ∧ RowI w' w.heap.size v (ints (arL l P)) ∧ Below w.heap.size w w' := by
 have hb0 : Below w.heap.size w ((w.alloc (.cells #[.int .i64 N, .slice a l.length cap] 24)).alloc (.cells #[.func (.func 89) #[] #[u0, u1, u2]] 137)) := (top2 w _ _).2.2.1
 have hg0 := (top2 w (.cells #[.int .i64 N, .slice a l.length cap] 24) (.cells #[.func (.func 89) #[] #[u0, u1, u2]] 137)).1
 have hg1 := (top2 w (.cells #[.int .i64 N, .slice a l.length cap] 24) (.cells #[.func (.func 89) #[] #[u0, u1, u2]] 137)).2.1
 have hsz := (top2 w (.cells #[.int .i64 N, .slice a l.length cap] 24) (.cells #[.func (.func 89) #[] #[u0, u1, u2]] 137)).2.2.2
 obtain ⟨⟨a0, a1⟩, _⟩ := two_cells hg0
 have a2 := cell_of_one hg1
 have HA1 := hid a1
 have HA2 := hid a2
 have hmf : ∀ (fn : Fn) (first cap : Array Value) (w : World), (Instr.makeFunc fn first cap).run Tryz.prog w = .ok (.func fn first cap) w := fun _ _ _ _ => rfl
 have HB0 := hid hb0
 have HR := hid hr
 have HW := hid hW
 have HAL : Hid (arL l P = cho (arP l P) l.length) := rfl
 rw [HAL.out]
 clear hr hb0 hg0 hg1 hW HAL
 generalize hp : w.heap.size = p at *
 go_enter Tryz.func84, Tryz.ntmps84
 go_wp2_with fail
 generalize hZ : (w.alloc (.cells #[.int .i64 N, .slice a l.length cap] 24)).alloc (.cells #[.func (.func 89) #[] #[u0, u1, u2]] 137) = Z at *
 clear hZ
 refine (chosenA_any l.length (arP l P) (.pointer (some ⟨p + 1, 0, none⟩)) (.pointer (some ⟨p, 0, none⟩)) Z hl (fun k hk W2 hb => ?_)).mono ?_
 ·have hbw : Below p w W2 := HB0.out.trans (hb.mono (by omega))
  refine chAB_any k (p + 1) p u0 u1 u2 a l cap P W2 hk hl ((hb.cell (p := ⟨p + 1, 0, none⟩) (by show p + 1 < _; omega)).trans HA2.out) ((hb.cell (p := ⟨p, 1, none⟩) (by show p < _; omega)).trans HA1.out) (HR.out.on (hp ▸ hbw)) (fun W3 hb3 => HW.out k hk W3 (hbw.trans (hb3.mono ?_)))
  have := hb.size
  omega
 ·rintro e w1 ⟨v, rfl, hrow, hb1⟩
  have HR1 := hid (hrow.base (C := p) (by omega))
  have HB1 : Hid (Below p w w1) := HB0.out.trans (hb1.mono (by omega))
  clear hrow hb1 a0 a1 a2
  go_wp2_with fail
  go_ret
  exact ⟨v, rfl, HR1.out, HB1.out⟩
set_option maxHeartbeats 1600000 in
theorem chAO_any (k b1 b2 : Nat) (u0 : Value) (a : Option Addr) (l : List A) (cap : Nat) (P : A → Bool) (w : World) (hk : k < l.length) (hl : l.length ≤ 8192) (c1 : w.cell? ⟨b1, 0, none⟩ = some (.func (.func 90) #[u0] #[])) (c2 : w.cell? ⟨b2, 1, none⟩ = some (.slice a l.length cap)) (hr : Arcs w a l)
  (hW : ∀ W2, Below w.heap.size w W2 → Calls Tryz.prog 90 #[u0, .agg #[.int .i64 (l.getD k A.zero).f, .int .i64 (l.getD k A.zero).t, .int .u32 (l.getD k A.zero).w]] W2 fun e w' => e = .returned (.bool (P (l.getD k A.zero))) ∧ Below W2.heap.size W2 w') :
  Calls Tryz.prog 156 #[.int .i64 k, .pointer (some ⟨b1, 0, none⟩), .pointer (some ⟨b2, 0, none⟩)] w fun e w' => e = .returned (.bool (arP l P k)) ∧ Below w.heap.size w w' := by
 obtain ⟨ix, ox, hix⟩ := hr.get
 obtain ⟨rfl, hbl, hat⟩ := hix (by omega)
 obtain ⟨x0, x1, x2⟩ := hat k hk
 have hl1 := World.block_lt_of_cell? w _ c1
 have hl2 := World.block_lt_of_cell? w _ c2
 have hk' : (k : Int) < l.length := by omega
 have HW := hid hW
 have HP : Hid (arP l P k = P (l.getD k A.zero)) := rfl
 rw [HP.out]
 generalize P (l.getD k A.zero) = R at *
 generalize l.getD k A.zero = x at *
 clear hat hix hr HP hW
 have X0 := hid x0
 have X1 := hid x1
 have X2 := hid x2
 have C1 := hid c1
 have C2 := hid c2
 have HBD : Hid (Below w.heap.size w w.drew) := (Below.refl _ _).drew
 go_enter Tryz.func156, Tryz.ntmps156
 go_wp2_with fail
 go_region_held3 (fun w' => w'.cell? ⟨b1, 0, none⟩ = some (.func (.func 90) #[u0] #[]) ∧ w'.cell? ⟨b2, 1, none⟩ = some (.slice (some ⟨ix, ox, none⟩) l.length cap) ∧ w'.cell? ⟨ix, ox + k * 3, none⟩ = some (.int .i64 x.f) ∧ w'.cell? ⟨ix, ox + k * 3 + 1, none⟩ = some (.int .i64 x.t) ∧ w'.cell? ⟨ix, ox + k * 3 + 2, none⟩ = some (.int .u32 x.w)) (go_keep) ((go_at_call 90; refine (HW.out _ HBD.out).mono ?_; rintro e w2 ⟨rfl, hb2⟩; have hb2 := HBD.out.trans hb2; have v0 := (hb2.cell (p := ⟨b1, 0, none⟩) hl1).trans C1.out; have v1 := (hb2.cell (p := ⟨b2, 1, none⟩) hl2).trans C2.out; have v2 := (hb2.cell (p := ⟨ix, ox + k * 3, none⟩) hbl).trans X0.out; have v3 := (hb2.cell (p := ⟨ix, ox + k * 3 + 1, none⟩) hbl).trans X1.out; have v4 := (hb2.cell (p := ⟨ix, ox + k * 3 + 2, none⟩) hbl).trans X2.out; have HB2 := hid hb2; clear hb2))
 go_wp2_with fail
 go_ret
 exact ⟨rfl, HB2.out⟩
set_option maxHeartbeats 1600000 in
theorem cArcsO_any (N : Int) (u0 : Value) (a : Option Addr) (l : List A) (cap : Nat) (P : A → Bool) (w : World) (hl : l.length ≤ 8192) (hr : Arcs w a l)
  (hW : ∀ k, k < l.length → ∀ W2, Below w.heap.size w W2 → Calls Tryz.prog 90 #[u0, .agg #[.int .i64 (l.getD k A.zero).f, .int .i64 (l.getD k A.zero).t, .int .u32 (l.getD k A.zero).w]] W2 fun e w' => e = .returned (.bool (P (l.getD k A.zero))) ∧ Below W2.heap.size W2 w') :
  Calls Tryz.prog 84 #[.agg #[.int .i64 N, .slice a l.length cap], .func (.func 90) #[u0] #[]] w fun e w' => ∃ v, e = .returned (.slice v (arL l P).length (arL l P).length) ∧ RowI w' w.heap.size v (ints (arL l P)) ∧ Below w.heap.size w w' := by
 have hb0 : Below w.heap.size w ((w.alloc (.cells #[.int .i64 N, .slice a l.length cap] 24)).alloc (.cells #[.func (.func 90) #[u0] #[]] 137)) := (top2 w _ _).2.2.1
 have hg0 := (top2 w (.cells #[.int .i64 N, .slice a l.length cap] 24) (.cells #[.func (.func 90) #[u0] #[]] 137)).1
 have hg1 := (top2 w (.cells #[.int .i64 N, .slice a l.length cap] 24) (.cells #[.func (.func 90) #[u0] #[]] 137)).2.1
 have hsz := (top2 w (.cells #[.int .i64 N, .slice a l.length cap] 24) (.cells #[.func (.func 90) #[u0] #[]] 137)).2.2.2
 obtain ⟨⟨a0, a1⟩, _⟩ := two_cells hg0
 have a2 := cell_of_one hg1
 have HA1 := hid a1
 have HA2 := hid a2
 have hmf : ∀ (fn : Fn) (first cap : Array Value) (w : World), (Instr.makeFunc fn first cap).run Tryz.prog w = .ok (.func fn first cap) w := fun _ _ _ _ => rfl
 have HB0 := hid hb0
 have HR := hid hr
 have HW := hid hW
 have HAL : Hid (arL l P = cho (arP l P) l.length) := rfl
 rw [HAL.out]
 clear hr hb0 hg0 hg1 hW HAL
 generalize hp : w.heap.size = p at *
 go_enter Tryz.func84, Tryz.ntmps84
 go_wp2_with fail
 generalize hZ : (w.alloc (.cells #[.int .i64 N, .slice a l.length cap] 24)).alloc (.cells #[.func (.func 90) #[u0] #[]] 137) = Z at *
 clear hZ
 refine (chosenA_any l.length (arP l P) (.pointer (some ⟨p + 1, 0, none⟩)) (.pointer (some ⟨p, 0, none⟩)) Z hl (fun k hk W2 hb => ?_)).mono ?_
 ·have hbw : Below p w W2 := HB0.out.trans (hb.mono (by omega))
  refine chAO_any k (p + 1) p u0 a l cap P W2 hk hl ((hb.cell (p := ⟨p + 1, 0, none⟩) (by show p + 1 < _; omega)).trans HA2.out) ((hb.cell (p := ⟨p, 1, none⟩) (by show p < _; omega)).trans HA1.out) (HR.out.on (hp ▸ hbw)) (fun W3 hb3 => HW.out k hk W3 (hbw.trans (hb3.mono ?_)))
  have := hb.size
  omega
 ·rintro e w1 ⟨v, rfl, hrow, hb1⟩
  have HR1 := hid (hrow.base (C := p) (by omega))
  have HB1 : Hid (Below p w w1) := HB0.out.trans (hb1.mono (by omega))
  clear hrow hb1 a0 a1 a2
  go_wp2_with fail
  go_ret
  exact ⟨v, rfl, HR1.out, HB1.out⟩
def inE (N : Int) (l : List A) (bs : List Int) (cs : List (List Int)) (k x : Int) : Int := if atE N l bs cs k ≠ 0 then atE N l bs cs k else if ¬ (0 ≤ x ∧ x < ((szL (lvl cs (k.toNat - 1))).length : Nat)) then 120 else 0
theorem inE_zero {N : Int} {l : List A} {bs : List Int} {cs : List (List Int)} {k x : Int} (h : inE N l bs cs k x = 0) : NR N l bs cs ∧ ∃ j q : Nat, k = (j : Int) + 1 ∧ j < bs.length ∧ x = q ∧ q < (szL (lvl cs j)).length := by
 unfold inE at h
 split at h
 ·rename_i h1; exact absurd h h1
 ·rename_i h1
  split at h
  ·cases h
  ·rename_i h2
   obtain ⟨h3, j, rfl, hj⟩ := atE_zero (show atE N l bs cs k = 0 by simpa using h1)
   rw [show ((j : Int) + 1).toNat - 1 = j by omega] at h2
   exact ⟨h3, j, x.toNat, rfl, hj, by omega, by omega⟩
theorem inE_ok {N : Int} {l : List A} {bs : List Int} {cs : List (List Int)} {j q : Nat} (h : NR N l bs cs) (hj : j < bs.length) (hq : q < (szL (lvl cs j)).length) : inE N l bs cs ((j : Int) + 1) q = 0 := by
 unfold inE
 rw [if_neg (by rw [atE_ok h hj]; simp), show ((j : Int) + 1).toNat - 1 = j by omega, if_neg (by omega)]
set_option maxHeartbeats 1600000 in
theorem lookInto_any (N : Int) (a : Option Addr) (l : List A) (cap : Nat) (ba : Option Addr) (bs : List Int) (bc : Nat) (ca : Option Addr) (C : List Cl) (cc : Nat) (k x : Int) (w : World) (hl : l.length ≤ 9223372036854775807) (hbl : bs.length ≤ 9223372036854775807) (hr : Arcs w a l) (hi : Ints w ba bs) (hR : Rws w ca C) :
  Calls Tryz.prog 91 #[.agg #[.int .i64 N, .slice a l.length cap], .agg #[.slice ba bs.length bc, .slice ca C.length cc], .int .i64 k, .int .i64 x] w fun e w' =>
   (inE N l bs (csl C) k x = 0 → ∃ g, (∃ c, e = .returned (.tuple #[.slice (some ⟨g, 0, none⟩) bs.length c, .int .i64 0])) ∧ Hid (LvR w' g C bs)) ∧ (inE N l bs (csl C) k x ≠ 0 → e = .returned (.tuple #[.slice none 0 0, .int .i64 (inE N l bs (csl C) k x)])) ∧ Below w.heap.size w w' := by
 have hb0 : Below w.heap.size w ((w.alloc (.cells #[.int .i64 N, .slice a l.length cap] 24)).alloc (.cells #[.slice ba bs.length bc, .slice ca C.length cc] 28)) := (top2 w _ _).2.2.1
 have hg0 := (top2 w (.cells #[.int .i64 N, .slice a l.length cap] 24) (.cells #[.slice ba bs.length bc, .slice ca C.length cc] 28)).1
 have hg1 := (top2 w (.cells #[.int .i64 N, .slice a l.length cap] 24) (.cells #[.slice ba bs.length bc, .slice ca C.length cc] 28)).2.1
 have hsz := (top2 w (.cells #[.int .i64 N, .slice a l.length cap] 24) (.cells #[.slice ba bs.length bc, .slice ca C.length cc] 28)).2.2.2
 obtain ⟨⟨a0, a1⟩, _⟩ := two_cells hg0
 obtain ⟨⟨a2, a3⟩, _⟩ := two_cells hg1
 have HB0 := hid hb0
 have HLK := hid (lookAt_any N a l cap ba bs bc ca C cc k _ hl hbl (hr.on hb0) (hi.on hb0) (hR.on hb0))
 obtain ⟨F, HF⟩ := named (inE N l bs (csl C) k x)
 rw [HF.out]
 have HF2 : Hid (inE N l bs (csl C) k x = F) := HF
 clear hr hi hR hb0
 generalize hp : w.heap.size = p at *
 by_cases h1 : atE N l bs (csl C) k = 0
 ·have hFE : F = if ¬ (0 ≤ x ∧ x < ((szL (lvl (csl C) (k.toNat - 1))).length : Nat)) then 120 else 0 := by rw [← HF2.out]; unfold inE; rw [if_neg (by rw [h1]; simp)]
  clear HF HF2
  have HL := hid (HLK.out.mono (fun e w' h => (⟨h.1 h1, h.2.2⟩ : (∃ g, (∃ c, e = .returned (.tuple #[.slice (some ⟨g, 0, none⟩) bs.length c, .int .i64 0])) ∧ Hid (LvR w' g C bs)) ∧ _)))
  obtain ⟨hNR, j, rfl, hj⟩ := atE_zero h1
  rw [show ((j : Int) + 1).toNat - 1 = j by omega, csl_at] at hFE
  have h5 := hNR.2.2.1
  clear HLK h1 hNR
  have HFE := hid hFE
  clear hFE
  have ej : (j : Int) + 1 - 1 = j := by omega
  have hj' : (j : Int) < bs.length := by omega
  go_enter Tryz.func91, Tryz.ntmps91
  go_wp2_with fail
  generalize hW : (w.alloc (.cells #[.int .i64 N, .slice a l.length cap] 24)).alloc (.cells #[.slice ba bs.length bc, .slice ca C.length cc] 28) = W at *
  clear hW
  refine HL.out.mono ?_
  rintro e w1 ⟨⟨g, ⟨c, rfl⟩, HLR⟩, hb1⟩
  have HB1 : Hid (Below p w w1) := HB0.out.trans (hb1.mono (by omega))
  have hwz : p ≤ w1.heap.size := by have := hb1.size; omega
  obtain ⟨sv, sd, d0, d1, _, _⟩ := HLR.out.2 j hj
  unfold Cl.val at d0
  generalize (szL (cl C j).xs).length = m at *
  clear a0 a1 a2 a3 hb1 HL hg0 hg1 HB0
  go_wp2_with fail
  refine (nsHas_any _ _ _ _ _ _).mono ?_
  rintro e w2 ⟨rfl, hb2⟩
  have HL2 := hid (HLR.out.on hb2)
  have HB1 : Hid (Below p w w2) := HB1.out.trans (hb2.mono hwz)
  clear hb2 HLR d0 d1
  by_cases h2 : 0 ≤ x ∧ x < (m : Int)
  ·have e2 : F = 0 := by rw [HFE.out, if_neg (fun h => h h2)]
   subst e2
   rw [decide_eq_true h2]
   go_wp2_with fail
   go_ret2
   first | exact ⟨⟨g, ⟨c, rfl⟩, HL2⟩, HB1.out⟩ | exact ⟨(fun _ => ⟨g, ⟨c, rfl⟩, HL2⟩), (fun h => absurd rfl h), HB1.out⟩
  ·have e2 : F = 120 := by rw [HFE.out, if_pos h2]
   subst e2
   rw [decide_eq_false h2]
   go_wp2_with fail
   go_ret2
   first | exact ⟨rfl, HB1.out⟩ | exact ⟨(fun h => absurd h (by decide)), (fun _ => rfl), HB1.out⟩ | exact ⟨(fun h => absurd h h1), (fun _ => rfl), HB1.out⟩
 ·have hFE : F = atE N l bs (csl C) k := by rw [← HF2.out]; unfold inE; rw [if_pos h1]
  have HL := hid (HLK.out.mono (fun e w' h => (⟨h.2.1 h1, h.2.2⟩ : e = .returned (.tuple #[.slice none 0 0, .int .i64 (atE N l bs (csl C) k)]) ∧ _)))
  rw [← hFE] at HL h1
  have e1 : (F != 0) = true := by simpa using h1
  clear HLK hFE
  go_enter Tryz.func91, Tryz.ntmps91
  go_wp2_with fail
  generalize hW : (w.alloc (.cells #[.int .i64 N, .slice a l.length cap] 24)).alloc (.cells #[.slice ba bs.length bc, .slice ca C.length cc] 28) = W at *
  clear hW
  refine HL.out.mono ?_
  rintro e w1 ⟨rfl, hb1⟩
  have HB1 : Hid (Below p w w1) := HB0.out.trans (hb1.mono (by omega))
  clear a0 a1 a2 a3 hb1 HL hg0 hg1 HB0
  go_wp2_with fail
  go_ret2
  first | exact ⟨rfl, HB1.out⟩ | exact ⟨(fun h => absurd h (by decide)), (fun _ => rfl), HB1.out⟩ | exact ⟨(fun h => absurd h h1), (fun _ => rfl), HB1.out⟩
set_option maxHeartbeats 1600000 in
theorem ncheck_any (N : Int) (a : Option Addr) (l : List A) (cap : Nat) (ba : Option Addr) (bs : List Int) (bc : Nat) (ca : Option Addr) (C : List Cl) (cc : Nat) (w : World) (hl : l.length ≤ 9223372036854775807) (hbl : bs.length ≤ 9223372036854775807) (hr : Arcs w a l) (hi : Ints w ba bs) (hR : Rws w ca C) :
  Calls Tryz.prog 29 #[.agg #[.int .i64 N, .slice a l.length cap], .agg #[.slice ba bs.length bc, .slice ca C.length cc]] w fun e w' => e = .returned (.tuple #[.int .i64 (nsW N l bs (csl C) : Nat), .int .i64 (nsE N l bs (csl C))]) ∧ Below w.heap.size w w' := by
 have hb0 : Below w.heap.size w ((w.alloc (.cells #[.int .i64 N, .slice a l.length cap] 24)).alloc (.cells #[.slice ba bs.length bc, .slice ca C.length cc] 28)) := (top2 w _ _).2.2.1
 have hg0 := (top2 w (.cells #[.int .i64 N, .slice a l.length cap] 24) (.cells #[.slice ba bs.length bc, .slice ca C.length cc] 28)).1
 have hg1 := (top2 w (.cells #[.int .i64 N, .slice a l.length cap] 24) (.cells #[.slice ba bs.length bc, .slice ca C.length cc] 28)).2.1
 have hsz := (top2 w (.cells #[.int .i64 N, .slice a l.length cap] 24) (.cells #[.slice ba bs.length bc, .slice ca C.length cc] 28)).2.2.2
 obtain ⟨⟨a0, a1⟩, _⟩ := two_cells hg0
 obtain ⟨⟨a2, a3⟩, _⟩ := two_cells hg1
 have HB0 := hid hb0
 have HLK := hid (look_any N a l cap ba bs bc ca C cc _ hl hbl (hr.on hb0) (hi.on hb0) (hR.on hb0))
 clear hr hi hR hb0
 generalize hp : w.heap.size = p at *
 by_cases h1 : nsE N l bs (csl C) = 0
 ·have HL := hid (HLK.out.mono (fun e w' h => (⟨h.1 h1, h.2.2⟩ : (∃ g, (∃ c, e = .returned (.tuple #[.slice (some ⟨g, 0, none⟩) bs.length c, .int .i64 0, .int .i64 0])) ∧ Hid (LvR w' g C bs)) ∧ _)))
  rw [nsW_zero h1, h1]
  clear HLK h1
  go_enter Tryz.func29, Tryz.ntmps29
  go_wp2_with fail
  generalize hW : (w.alloc (.cells #[.int .i64 N, .slice a l.length cap] 24)).alloc (.cells #[.slice ba bs.length bc, .slice ca C.length cc] 28) = W at *
  clear hW
  refine HL.out.mono ?_
  rintro e w1 ⟨⟨g, ⟨c, rfl⟩, HLR⟩, hb1⟩
  have HB1 : Hid (Below p w w1) := HB0.out.trans (hb1.mono (by omega))
  clear a0 a1 a2 a3 hb1 HL hg0 hg1 HB0
  go_wp2_with fail
  go_ret2
  exact ⟨rfl, HB1.out⟩
 ·have HL := hid (HLK.out.mono (fun e w' h => (⟨h.2.1 h1, h.2.2⟩ : e = .returned (.tuple #[.slice none 0 0, .int .i64 (nsW N l bs (csl C) : Nat), .int .i64 (nsE N l bs (csl C))]) ∧ _)))
  clear HLK h1
  generalize nsW N l bs (csl C) = nw at *
  generalize nsE N l bs (csl C) = ne at *
  go_enter Tryz.func29, Tryz.ntmps29
  go_wp2_with fail
  generalize hW : (w.alloc (.cells #[.int .i64 N, .slice a l.length cap] 24)).alloc (.cells #[.slice ba bs.length bc, .slice ca C.length cc] 28) = W at *
  clear hW
  refine HL.out.mono ?_
  rintro e w1 ⟨rfl, hb1⟩
  have HB1 : Hid (Below p w w1) := HB0.out.trans (hb1.mono (by omega))
  clear a0 a1 a2 a3 hb1 HL hg0 hg1 HB0
  go_wp2_with fail
  go_ret2
  exact ⟨rfl, HB1.out⟩
def manyV (N : Int) (l : List A) (bs : List Int) (cs : List (List Int)) (k : Int) : Nat := if atE N l bs cs k = 0 then (szL (lvl cs (k.toNat - 1))).length else 0
set_option maxHeartbeats 1600000 in
theorem many_any (N : Int) (a : Option Addr) (l : List A) (cap : Nat) (ba : Option Addr) (bs : List Int) (bc : Nat) (ca : Option Addr) (C : List Cl) (cc : Nat) (k : Int) (w : World) (hl : l.length ≤ 9223372036854775807) (hbl : bs.length ≤ 9223372036854775807) (hr : Arcs w a l) (hi : Ints w ba bs) (hR : Rws w ca C) :
  Calls Tryz.prog 81 #[.agg #[.int .i64 N, .slice a l.length cap], .agg #[.slice ba bs.length bc, .slice ca C.length cc], .int .i64 k] w fun e w' => e = .returned (.tuple #[.int .i64 (manyV N l bs (csl C) k : Nat), .int .i64 (atE N l bs (csl C) k)]) ∧ Below w.heap.size w w' := by
 have hb0 : Below w.heap.size w ((w.alloc (.cells #[.int .i64 N, .slice a l.length cap] 24)).alloc (.cells #[.slice ba bs.length bc, .slice ca C.length cc] 28)) := (top2 w _ _).2.2.1
 have hg0 := (top2 w (.cells #[.int .i64 N, .slice a l.length cap] 24) (.cells #[.slice ba bs.length bc, .slice ca C.length cc] 28)).1
 have hg1 := (top2 w (.cells #[.int .i64 N, .slice a l.length cap] 24) (.cells #[.slice ba bs.length bc, .slice ca C.length cc] 28)).2.1
 have hsz := (top2 w (.cells #[.int .i64 N, .slice a l.length cap] 24) (.cells #[.slice ba bs.length bc, .slice ca C.length cc] 28)).2.2.2
 obtain ⟨⟨a0, a1⟩, _⟩ := two_cells hg0
 obtain ⟨⟨a2, a3⟩, _⟩ := two_cells hg1
 have HB0 := hid hb0
 have HLK := hid (lookAt_any N a l cap ba bs bc ca C cc k _ hl hbl (hr.on hb0) (hi.on hb0) (hR.on hb0))
 clear hr hi hR hb0
 generalize hp : w.heap.size = p at *
 by_cases h1 : atE N l bs (csl C) k = 0
 ·have HL := hid (HLK.out.mono (fun e w' h => (⟨h.1 h1, h.2.2⟩ : (∃ g, (∃ c, e = .returned (.tuple #[.slice (some ⟨g, 0, none⟩) bs.length c, .int .i64 0])) ∧ Hid (LvR w' g C bs)) ∧ _)))
  unfold manyV
  rw [if_pos h1, h1]
  obtain ⟨hNR, j, rfl, hj⟩ := atE_zero h1
  rw [show ((j : Int) + 1).toNat - 1 = j by omega, csl_at]
  have h5 := hNR.2.2.1
  clear HLK h1 hNR
  have ej : (j : Int) + 1 - 1 = j := by omega
  have hj' : (j : Int) < bs.length := by omega
  obtain ⟨m, HM⟩ := named (szL (cl C j).xs).length
  rw [HM.out]
  go_enter Tryz.func81, Tryz.ntmps81
  go_wp2_with fail
  generalize hW : (w.alloc (.cells #[.int .i64 N, .slice a l.length cap] 24)).alloc (.cells #[.slice ba bs.length bc, .slice ca C.length cc] 28) = W at *
  clear hW
  refine HL.out.mono ?_
  rintro e w1 ⟨⟨g, ⟨c, rfl⟩, HLR⟩, hb1⟩
  have HB1 : Hid (Below p w w1) := HB0.out.trans (hb1.mono (by omega))
  have hwz : p ≤ w1.heap.size := by have := hb1.size; omega
  obtain ⟨sv, sd, d0, d1, _, _⟩ := HLR.out.2 j hj
  unfold Cl.val at d0
  rw [HM.out] at d1
  clear a0 a1 a2 a3 hb1 HL hg0 hg1 HB0
  go_wp2_with fail
  refine (nsMany_any _ _ _ _ _).mono ?_
  rintro e w2 ⟨rfl, hb2⟩
  have HB1 : Hid (Below p w w2) := HB1.out.trans (hb2.mono hwz)
  clear hb2 HLR d0 d1
  go_wp2_with fail
  go_ret2
  exact ⟨rfl, HB1.out⟩
 ·have HL := hid (HLK.out.mono (fun e w' h => (⟨h.2.1 h1, h.2.2⟩ : e = .returned (.tuple #[.slice none 0 0, .int .i64 (atE N l bs (csl C) k)]) ∧ _)))
  unfold manyV
  rw [if_neg h1]
  obtain ⟨F, HF⟩ := named (atE N l bs (csl C) k)
  rw [HF.out] at HL h1 ⊢
  have e1 : (F != 0) = true := by simpa using h1
  clear HLK
  go_enter Tryz.func81, Tryz.ntmps81
  go_wp2_with fail
  generalize hW : (w.alloc (.cells #[.int .i64 N, .slice a l.length cap] 24)).alloc (.cells #[.slice ba bs.length bc, .slice ca C.length cc] 28) = W at *
  clear hW
  refine HL.out.mono ?_
  rintro e w1 ⟨rfl, hb1⟩
  have HB1 : Hid (Below p w w1) := HB0.out.trans (hb1.mono (by omega))
  clear a0 a1 a2 a3 hb1 HL hg0 hg1 HB0
  go_wp2_with fail
  go_ret2
  exact ⟨rfl, HB1.out⟩
set_option maxHeartbeats 1600000 in
theorem members_any (N : Int) (a : Option Addr) (l : List A) (cap : Nat) (ba : Option Addr) (bs : List Int) (bc : Nat) (ca : Option Addr) (C : List Cl) (cc : Nat) (k x : Int) (w : World) (hl : l.length ≤ 9223372036854775807) (hbl : bs.length ≤ 9223372036854775807) (hr : Arcs w a l) (hi : Ints w ba bs) (hR : Rws w ca C) :
  Calls Tryz.prog 155 #[.agg #[.int .i64 N, .slice a l.length cap], .agg #[.slice ba bs.length bc, .slice ca C.length cc], .int .i64 k, .int .i64 x] w fun e w' => ∃ v c S, e = .returned (.tuple #[.slice v S.length c, .int .i64 (inE N l bs (csl C) k x)]) ∧ w'.ownsRow w.heap.size 3 1 (.slice v S.length c) S.length (cellsI (ints S)) ∧ Hid (S = if inE N l bs (csl C) k x = 0 then mbr (lvl (csl C) (k.toNat - 1)) x else []) ∧ Below w.heap.size w w' := by
 have hb0 : Below w.heap.size w ((w.alloc (.cells #[.int .i64 N, .slice a l.length cap] 24)).alloc (.cells #[.slice ba bs.length bc, .slice ca C.length cc] 28)) := (top2 w _ _).2.2.1
 have hg0 := (top2 w (.cells #[.int .i64 N, .slice a l.length cap] 24) (.cells #[.slice ba bs.length bc, .slice ca C.length cc] 28)).1
 have hg1 := (top2 w (.cells #[.int .i64 N, .slice a l.length cap] 24) (.cells #[.slice ba bs.length bc, .slice ca C.length cc] 28)).2.1
 have hsz := (top2 w (.cells #[.int .i64 N, .slice a l.length cap] 24) (.cells #[.slice ba bs.length bc, .slice ca C.length cc] 28)).2.2.2
 obtain ⟨⟨a0, a1⟩, _⟩ := two_cells hg0
 obtain ⟨⟨a2, a3⟩, _⟩ := two_cells hg1
 have HB0 := hid hb0
 have HLK := hid (lookInto_any N a l cap ba bs bc ca C cc k x _ hl hbl (hr.on hb0) (hi.on hb0) (hR.on hb0))
 have HRR := hid hR
 clear hr hi hR hb0
 generalize hp : w.heap.size = p at *
 by_cases h1 : inE N l bs (csl C) k x = 0
 ·have HL := hid (HLK.out.mono (fun e w' h => (⟨h.1 h1, h.2.2⟩ : (∃ g, (∃ c, e = .returned (.tuple #[.slice (some ⟨g, 0, none⟩) bs.length c, .int .i64 0])) ∧ Hid (LvR w' g C bs)) ∧ _)))
  rw [h1, if_pos rfl]
  obtain ⟨hNR, j, q, rfl, hj, rfl, hq⟩ := inE_zero h1
  obtain ⟨b1, b2, b3, _⟩ := hNR.lv hj
  rw [show ((j : Int) + 1).toNat - 1 = j by omega, csl_at]
  rw [csl_at] at hq b1 b2
  have h5 := hNR.2.2.1
  have hN := (chk_zero hNR.1).2.1
  have hxl : (cl C j).xs.length ≤ 1024 := by omega
  have hsz1 := Nat.le_trans (szL_length (cl C j).xs) hxl
  have hjc : j < C.length := by have := hNR.2.2.2.1; rw [csl_len] at this; omega
  have HIX := hid (HRR.out.2 j hjc).1
  clear HLK h1 hNR b3
  have ej : (j : Int) + 1 - 1 = j := by omega
  have hj' : (j : Int) < bs.length := by omega
  have hqm : ∃ m : Nat, m ≤ 1024 ∧ (ints (szL (cl C j).xs)).getD q 0 = m := ⟨_, Nat.le_trans (szL_le _ q) hxl, ints_getD hq⟩
  obtain ⟨m, hm, hqm⟩ := hqm
  have HQM := hid hqm
  clear hqm
  go_enter Tryz.func155, Tryz.ntmps155
  go_wp2_with fail
  generalize hW : (w.alloc (.cells #[.int .i64 N, .slice a l.length cap] 24)).alloc (.cells #[.slice ba bs.length bc, .slice ca C.length cc] 28) = W at *
  clear hW
  refine HL.out.mono ?_
  rintro e w1 ⟨⟨g, ⟨c, rfl⟩, HLR⟩, hb1⟩
  have HB1 : Hid (Below p w w1) := HB0.out.trans (hb1.mono (by omega))
  have hwz : p ≤ w1.heap.size := by have := hb1.size; omega
  obtain ⟨sv, sd, d0, d1, _, hsi⟩ := HLR.out.2 j hj
  have HMB := hid (nsMembers_any (cl C j).a (cl C j).xs (cl C j).c sv (ints (szL (cl C j).xs)) sd q m w1 hxl (by rw [ints_len]; exact hsz1) (by rw [ints_len]; exact hq) HQM.out hm (HIX.out.on (by rw [hp]; exact HB1.out)) hsi)
  rw [ints_len, mbL_eq] at HMB
  unfold Cl.val at d0
  generalize (szL (cl C j).xs).length = sl at *
  obtain ⟨M, HM⟩ := named (mbr (cl C j).xs q)
  rw [HM.out] at HMB
  generalize (cl C j).xs.length = xl at *
  generalize (cl C j).a = xa at *
  generalize (cl C j).c = xc at *
  clear a0 a1 a2 a3 hb1 HL hg0 hg1 HB0 hsi
  go_wp2_with fail
  refine HMB.out.mono ?_
  rintro e w2 ⟨v, c2, S, rfl, hown, hSM, hb2⟩
  have HSM : Hid (S = mbr (cl C j).xs q) := hSM.trans HM.out.symm
  have HB1 : Hid (Below p w w2) := HB1.out.trans (hb2.mono hwz)
  have HOW := hid (own_base hown hwz)
  clear hb2 HLR d0 d1 hown HMB hSM
  go_wp2_with fail
  go_ret2
  exact ⟨v, c2, S, rfl, HOW.out, HSM, HB1.out⟩
 ·have HL := hid (HLK.out.mono (fun e w' h => (⟨h.2.1 h1, h.2.2⟩ : e = .returned (.tuple #[.slice none 0 0, .int .i64 (inE N l bs (csl C) k x)]) ∧ _)))
  rw [if_neg h1]
  obtain ⟨F, HF⟩ := named (inE N l bs (csl C) k x)
  rw [HF.out] at HL h1 ⊢
  have e1 : (F != 0) = true := by simpa using h1
  clear HLK
  go_enter Tryz.func155, Tryz.ntmps155
  go_wp2_with fail
  generalize hW : (w.alloc (.cells #[.int .i64 N, .slice a l.length cap] 24)).alloc (.cells #[.slice ba bs.length bc, .slice ca C.length cc] 28) = W at *
  clear hW
  refine HL.out.mono ?_
  rintro e w1 ⟨rfl, hb1⟩
  have HB1 : Hid (Below p w w1) := HB0.out.trans (hb1.mono (by omega))
  clear a0 a1 a2 a3 hb1 HL hg0 hg1 HB0
  go_wp2_with fail
  go_ret2
  exact ⟨none, 0, [], rfl, World.ownsRow_nil _ _ _ _, hid rfl, HB1.out⟩
def chT (ys : List Int) (L : List Nat) (q : Int) (k : Nat) : List Nat := (List.range k).filter (fun c => decide (ys.getD (L.getD c 0) 0 = q))
theorem chT_t {ys : List Int} {L : List Nat} {q : Int} {k : Nat} (h : ys.getD (L.getD k 0) 0 = q) : chT ys L q (k + 1) = chT ys L q k ++ [k] := by
 unfold chT
 rw [List.range_succ, List.filter_append, List.filter_cons, if_pos (decide_eq_true h)]
 rfl
theorem chT_f {ys : List Int} {L : List Nat} {q : Int} {k : Nat} (h : ¬ ys.getD (L.getD k 0) 0 = q) : chT ys L q (k + 1) = chT ys L q k := by
 unfold chT
 rw [List.range_succ, List.filter_append, List.filter_cons, if_neg (by rw [decide_eq_false h]; decide)]
 exact List.append_nil _
theorem chT_len (ys : List Int) (L : List Nat) (q : Int) (k : Nat) : (chT ys L q k).length ≤ k := by
 have := List.length_filter_le (fun c => decide (ys.getD (L.getD c 0) 0 = q)) (List.range k)
 simpa [chT] using this
def chL (xs ys : List Int) (q : Int) : List Nat := chT ys (lsL xs 0 []) q (lsL xs 0 []).length
end Go.Proofs.YtaafkpojjdjphaaGreat
