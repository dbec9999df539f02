/-
  Contracts of cell's chosenArcs, for each function that is handed to it.
-/
import Derived.Test.YtpmjbeiclmllmaaCe2
import Derived.Test.YtpmjbeiclmllmaaCe3
import Derived.Test.YtpmjbeiclmllmaaNsH
import Derived.Deep.RegionHeld3
import Derived.Laws.EntriesVeiled
namespace Go.Proofs.Ytpmjbeiclmllmaa
open Go.RowKit
set_option maxRecDepth 100000 in
set_option maxHeartbeats 1600000 in
theorem chAI_any (k b1 b2 : Nat) (u0 u1 : Value) (a : Option Addr) (l : List A) (cap : Nat) (P : A → Bool) (w : World) (hk : k < l.length) (hl : l.length ≤ 8192) (c1 : w.cell? ⟨b1, 0, none⟩ = some (.func (.func 55) #[] #[u0, u1])) (c2 : w.cell? ⟨b2, 1, none⟩ = some (.slice a l.length cap)) (hr : Arcs w a l)
    (hW : ∀ W2, Below w.heap.size w W2 → Calls Try.prog 55 #[.agg #[.int .i64 (l.getD k A.zero).f, .int .i64 (l.getD k A.zero).t, .int .u32 (l.getD k A.zero).w], u0, u1] W2 fun e w' => e = .returned (.bool (P (l.getD k A.zero))) ∧ Below W2.heap.size W2 w') :
    Calls Try.prog 88 #[.int .i64 k, .pointer (some ⟨b1, 0, none⟩), .pointer (some ⟨b2, 0, none⟩)] w fun e w' => e = .returned (.bool (arP l P k)) ∧ Below w.heap.size w w' := by
  obtain ⟨ix, ox, hix⟩ := hr.get
  obtain ⟨rfl, hbl, hat⟩ := hix (by omega)
  obtain ⟨x0, x1, x2⟩ := hat k hk
  have hl1 := World.block_lt_of_cell? w _ c1
  have hl2 := World.block_lt_of_cell? w _ c2
  have hk' : (k : Int) < l.length := by omega
  have HW := Lib.hid hW
  have HP : Hid (arP l P k = P (l.getD k A.zero)) := rfl
  rw [HP.out]
  generalize P (l.getD k A.zero) = R at *
  generalize l.getD k A.zero = x at *
  clear hat hix hr HP hW
  have X0 := Lib.hid x0
  have X1 := Lib.hid x1
  have X2 := Lib.hid x2
  have C1 := Lib.hid c1
  have C2 := Lib.hid c2
  have HBD : Hid (Below w.heap.size w w.drew) := (Below.refl _ _).drew
  go_enter Try.func88, Try.ntmps88
  go_wp2_with fail
  go_region_held3 (fun w' => w'.cell? ⟨b1, 0, none⟩ = some (.func (.func 55) #[] #[u0, u1]) ∧ w'.cell? ⟨b2, 1, none⟩ = some (.slice (some ⟨ix, ox, none⟩) l.length cap) ∧ w'.cell? ⟨ix, ox + k * 3, none⟩ = some (.int .i64 x.f) ∧ w'.cell? ⟨ix, ox + k * 3 + 1, none⟩ = some (.int .i64 x.t) ∧ w'.cell? ⟨ix, ox + k * 3 + 2, none⟩ = some (.int .u32 x.w)) (go_keep) ((go_at_call 55; refine (HW.out _ HBD.out).mono ?_; rintro e w2 ⟨rfl, hb2⟩; have hb2 := HBD.out.trans hb2; have v0 := (hb2.cell (p := ⟨b1, 0, none⟩) hl1).trans C1.out; have v1 := (hb2.cell (p := ⟨b2, 1, none⟩) hl2).trans C2.out; have v2 := (hb2.cell (p := ⟨ix, ox + k * 3, none⟩) hbl).trans X0.out; have v3 := (hb2.cell (p := ⟨ix, ox + k * 3 + 1, none⟩) hbl).trans X1.out; have v4 := (hb2.cell (p := ⟨ix, ox + k * 3 + 2, none⟩) hbl).trans X2.out; have HB2 := Lib.hid hb2; clear hb2))
  go_wp2_with fail
  go_ret
  exact ⟨rfl, HB2.out⟩
set_option maxRecDepth 100000 in
set_option maxHeartbeats 1600000 in
theorem cArcsI_any (N : Int) (u0 u1 : Value) (a : Option Addr) (l : List A) (cap : Nat) (P : A → Bool) (w : World) (hl : l.length ≤ 8192) (hr : Arcs w a l)
    (hW : ∀ k, k < l.length → ∀ W2, Below w.heap.size w W2 → Calls Try.prog 55 #[.agg #[.int .i64 (l.getD k A.zero).f, .int .i64 (l.getD k A.zero).t, .int .u32 (l.getD k A.zero).w], u0, u1] W2 fun e w' => e = .returned (.bool (P (l.getD k A.zero))) ∧ Below W2.heap.size W2 w') :
    Calls Try.prog 54 #[.agg #[.int .i64 N, .slice a l.length cap], .func (.func 55) #[] #[u0, u1]] w fun e w' => ∃ v, e = .returned (.slice v (arL l P).length (arL l P).length) ∧ RowI w' w.heap.size v (ints (arL l P)) ∧ Below w.heap.size w w' := by
  have hb0 : Below w.heap.size w ((w.alloc (.cells #[.int .i64 N, .slice a l.length cap] 24)).alloc (.cells #[.func (.func 55) #[] #[u0, u1]] 93)) := (top2 w _ _).2.2.1
  have hg0 := (top2 w (.cells #[.int .i64 N, .slice a l.length cap] 24) (.cells #[.func (.func 55) #[] #[u0, u1]] 93)).1
  have hg1 := (top2 w (.cells #[.int .i64 N, .slice a l.length cap] 24) (.cells #[.func (.func 55) #[] #[u0, u1]] 93)).2.1
  have hsz := (top2 w (.cells #[.int .i64 N, .slice a l.length cap] 24) (.cells #[.func (.func 55) #[] #[u0, u1]] 93)).2.2.2
  obtain ⟨⟨a0, a1⟩, _⟩ := two_cells hg0
  have a2 := cell_of_one hg1
  have HA1 := Lib.hid a1
  have HA2 := Lib.hid a2
  have hmf : ∀ (fn : Fn) (first cap : Array Value) (w : World), (Instr.makeFunc fn first cap).run Try.prog w = .ok (.func fn first cap) w := fun _ _ _ _ => rfl
  have HB0 := Lib.hid hb0
  have HR := Lib.hid hr
  have HW := Lib.hid hW
  have HAL : Hid (arL l P = cho (arP l P) l.length) := rfl
  rw [HAL.out]
  clear hr hb0 hg0 hg1 hW HAL
  generalize hp : w.heap.size = p at *
  go_enter Try.func54, Try.ntmps54
  go_wp2_with fail
  generalize hZ : (w.alloc (.cells #[.int .i64 N, .slice a l.length cap] 24)).alloc (.cells #[.func (.func 55) #[] #[u0, u1]] 93) = Z at *
  clear hZ
  refine (chosenA_any l.length (arP l P) (.pointer (some ⟨p + 1, 0, none⟩)) (.pointer (some ⟨p, 0, none⟩)) Z hl (fun k hk W2 hb => ?_)).mono ?_
  · have hbw : Below p w W2 := HB0.out.trans (hb.mono (by omega))
    refine chAI_any k (p + 1) p u0 u1 a l cap P W2 hk hl ((hb.cell (p := ⟨p + 1, 0, none⟩) (by show p + 1 < _; omega)).trans HA2.out) ((hb.cell (p := ⟨p, 1, none⟩) (by show p < _; omega)).trans HA1.out) (HR.out.on (hp ▸ hbw)) (fun W3 hb3 => HW.out k hk W3 (hbw.trans (hb3.mono ?_)))
    have := hb.size
    omega
  · rintro e w1 ⟨v, rfl, hrow, hb1⟩
    have HR1 := Lib.hid (hrow.base (C := p) (by omega))
    have HB1 : Hid (Below p w w1) := HB0.out.trans (hb1.mono (by omega))
    clear hrow hb1 a0 a1 a2
    go_wp2_with fail
    go_ret
    exact ⟨v, rfl, HR1.out, HB1.out⟩
set_option maxRecDepth 100000 in
set_option maxHeartbeats 1600000 in
theorem chAB_any (k b1 b2 : Nat) (u0 u1 u2 : Value) (a : Option Addr) (l : List A) (cap : Nat) (P : A → Bool) (w : World) (hk : k < l.length) (hl : l.length ≤ 8192) (c1 : w.cell? ⟨b1, 0, none⟩ = some (.func (.func 58) #[] #[u0, u1, u2])) (c2 : w.cell? ⟨b2, 1, none⟩ = some (.slice a l.length cap)) (hr : Arcs w a l)
    (hW : ∀ W2, Below w.heap.size w W2 → Calls Try.prog 58 #[.agg #[.int .i64 (l.getD k A.zero).f, .int .i64 (l.getD k A.zero).t, .int .u32 (l.getD k A.zero).w], u0, u1, u2] W2 fun e w' => e = .returned (.bool (P (l.getD k A.zero))) ∧ Below W2.heap.size W2 w') :
    Calls Try.prog 88 #[.int .i64 k, .pointer (some ⟨b1, 0, none⟩), .pointer (some ⟨b2, 0, none⟩)] w fun e w' => e = .returned (.bool (arP l P k)) ∧ Below w.heap.size w w' := by
  obtain ⟨ix, ox, hix⟩ := hr.get
  obtain ⟨rfl, hbl, hat⟩ := hix (by omega)
  obtain ⟨x0, x1, x2⟩ := hat k hk
  have hl1 := World.block_lt_of_cell? w _ c1
  have hl2 := World.block_lt_of_cell? w _ c2
  have hk' : (k : Int) < l.length := by omega
  have HW := Lib.hid hW
  have HP : Hid (arP l P k = P (l.getD k A.zero)) := rfl
  rw [HP.out]
  generalize P (l.getD k A.zero) = R at *
  generalize l.getD k A.zero = x at *
  clear hat hix hr HP hW
  have X0 := Lib.hid x0
  have X1 := Lib.hid x1
  have X2 := Lib.hid x2
  have C1 := Lib.hid c1
  have C2 := Lib.hid c2
  have HBD : Hid (Below w.heap.size w w.drew) := (Below.refl _ _).drew
  go_enter Try.func88, Try.ntmps88
  go_wp2_with fail
  go_region_held3 (fun w' => w'.cell? ⟨b1, 0, none⟩ = some (.func (.func 58) #[] #[u0, u1, u2]) ∧ w'.cell? ⟨b2, 1, none⟩ = some (.slice (some ⟨ix, ox, none⟩) l.length cap) ∧ w'.cell? ⟨ix, ox + k * 3, none⟩ = some (.int .i64 x.f) ∧ w'.cell? ⟨ix, ox + k * 3 + 1, none⟩ = some (.int .i64 x.t) ∧ w'.cell? ⟨ix, ox + k * 3 + 2, none⟩ = some (.int .u32 x.w)) (go_keep) ((go_at_call 58; refine (HW.out _ HBD.out).mono ?_; rintro e w2 ⟨rfl, hb2⟩; have hb2 := HBD.out.trans hb2; have v0 := (hb2.cell (p := ⟨b1, 0, none⟩) hl1).trans C1.out; have v1 := (hb2.cell (p := ⟨b2, 1, none⟩) hl2).trans C2.out; have v2 := (hb2.cell (p := ⟨ix, ox + k * 3, none⟩) hbl).trans X0.out; have v3 := (hb2.cell (p := ⟨ix, ox + k * 3 + 1, none⟩) hbl).trans X1.out; have v4 := (hb2.cell (p := ⟨ix, ox + k * 3 + 2, none⟩) hbl).trans X2.out; have HB2 := Lib.hid hb2; clear hb2))
  go_wp2_with fail
  go_ret
  exact ⟨rfl, HB2.out⟩
set_option maxRecDepth 100000 in
set_option maxHeartbeats 1600000 in
theorem cArcsB_any (N : Int) (u0 u1 u2 : Value) (a : Option Addr) (l : List A) (cap : Nat) (P : A → Bool) (w : World) (hl : l.length ≤ 8192) (hr : Arcs w a l)
    (hW : ∀ k, k < l.length → ∀ W2, Below w.heap.size w W2 → Calls Try.prog 58 #[.agg #[.int .i64 (l.getD k A.zero).f, .int .i64 (l.getD k A.zero).t, .int .u32 (l.getD k A.zero).w], u0, u1, u2] W2 fun e w' => e = .returned (.bool (P (l.getD k A.zero))) ∧ Below W2.heap.size W2 w') :
    Calls Try.prog 54 #[.agg #[.int .i64 N, .slice a l.length cap], .func (.func 58) #[] #[u0, u1, u2]] w fun e w' => ∃ v, e = .returned (.slice v (arL l P).length (arL l P).length) ∧ RowI w' w.heap.size v (ints (arL l P)) ∧ Below w.heap.size w w' := by
  have hb0 : Below w.heap.size w ((w.alloc (.cells #[.int .i64 N, .slice a l.length cap] 24)).alloc (.cells #[.func (.func 58) #[] #[u0, u1, u2]] 93)) := (top2 w _ _).2.2.1
  have hg0 := (top2 w (.cells #[.int .i64 N, .slice a l.length cap] 24) (.cells #[.func (.func 58) #[] #[u0, u1, u2]] 93)).1
  have hg1 := (top2 w (.cells #[.int .i64 N, .slice a l.length cap] 24) (.cells #[.func (.func 58) #[] #[u0, u1, u2]] 93)).2.1
  have hsz := (top2 w (.cells #[.int .i64 N, .slice a l.length cap] 24) (.cells #[.func (.func 58) #[] #[u0, u1, u2]] 93)).2.2.2
  obtain ⟨⟨a0, a1⟩, _⟩ := two_cells hg0
  have a2 := cell_of_one hg1
  have HA1 := Lib.hid a1
  have HA2 := Lib.hid a2
  have hmf : ∀ (fn : Fn) (first cap : Array Value) (w : World), (Instr.makeFunc fn first cap).run Try.prog w = .ok (.func fn first cap) w := fun _ _ _ _ => rfl
  have HB0 := Lib.hid hb0
  have HR := Lib.hid hr
  have HW := Lib.hid hW
  have HAL : Hid (arL l P = cho (arP l P) l.length) := rfl
  rw [HAL.out]
  clear hr hb0 hg0 hg1 hW HAL
  generalize hp : w.heap.size = p at *
  go_enter Try.func54, Try.ntmps54
  go_wp2_with fail
  generalize hZ : (w.alloc (.cells #[.int .i64 N, .slice a l.length cap] 24)).alloc (.cells #[.func (.func 58) #[] #[u0, u1, u2]] 93) = Z at *
  clear hZ
  refine (chosenA_any l.length (arP l P) (.pointer (some ⟨p + 1, 0, none⟩)) (.pointer (some ⟨p, 0, none⟩)) Z hl (fun k hk W2 hb => ?_)).mono ?_
  · have hbw : Below p w W2 := HB0.out.trans (hb.mono (by omega))
    refine chAB_any k (p + 1) p u0 u1 u2 a l cap P W2 hk hl ((hb.cell (p := ⟨p + 1, 0, none⟩) (by show p + 1 < _; omega)).trans HA2.out) ((hb.cell (p := ⟨p, 1, none⟩) (by show p < _; omega)).trans HA1.out) (HR.out.on (hp ▸ hbw)) (fun W3 hb3 => HW.out k hk W3 (hbw.trans (hb3.mono ?_)))
    have := hb.size
    omega
  · rintro e w1 ⟨v, rfl, hrow, hb1⟩
    have HR1 := Lib.hid (hrow.base (C := p) (by omega))
    have HB1 : Hid (Below p w w1) := HB0.out.trans (hb1.mono (by omega))
    clear hrow hb1 a0 a1 a2
    go_wp2_with fail
    go_ret
    exact ⟨v, rfl, HR1.out, HB1.out⟩
set_option maxRecDepth 100000 in
set_option maxHeartbeats 1600000 in
theorem chAO_any (k b1 b2 : Nat) (u0 : Value) (a : Option Addr) (l : List A) (cap : Nat) (P : A → Bool) (w : World) (hk : k < l.length) (hl : l.length ≤ 8192) (c1 : w.cell? ⟨b1, 0, none⟩ = some (.func (.func 59) #[u0] #[])) (c2 : w.cell? ⟨b2, 1, none⟩ = some (.slice a l.length cap)) (hr : Arcs w a l)
    (hW : ∀ W2, Below w.heap.size w W2 → Calls Try.prog 59 #[u0, .agg #[.int .i64 (l.getD k A.zero).f, .int .i64 (l.getD k A.zero).t, .int .u32 (l.getD k A.zero).w]] W2 fun e w' => e = .returned (.bool (P (l.getD k A.zero))) ∧ Below W2.heap.size W2 w') :
    Calls Try.prog 88 #[.int .i64 k, .pointer (some ⟨b1, 0, none⟩), .pointer (some ⟨b2, 0, none⟩)] w fun e w' => e = .returned (.bool (arP l P k)) ∧ Below w.heap.size w w' := by
  obtain ⟨ix, ox, hix⟩ := hr.get
  obtain ⟨rfl, hbl, hat⟩ := hix (by omega)
  obtain ⟨x0, x1, x2⟩ := hat k hk
  have hl1 := World.block_lt_of_cell? w _ c1
  have hl2 := World.block_lt_of_cell? w _ c2
  have hk' : (k : Int) < l.length := by omega
  have HW := Lib.hid hW
  have HP : Hid (arP l P k = P (l.getD k A.zero)) := rfl
  rw [HP.out]
  generalize P (l.getD k A.zero) = R at *
  generalize l.getD k A.zero = x at *
  clear hat hix hr HP hW
  have X0 := Lib.hid x0
  have X1 := Lib.hid x1
  have X2 := Lib.hid x2
  have C1 := Lib.hid c1
  have C2 := Lib.hid c2
  have HBD : Hid (Below w.heap.size w w.drew) := (Below.refl _ _).drew
  go_enter Try.func88, Try.ntmps88
  go_wp2_with fail
  go_region_held3 (fun w' => w'.cell? ⟨b1, 0, none⟩ = some (.func (.func 59) #[u0] #[]) ∧ w'.cell? ⟨b2, 1, none⟩ = some (.slice (some ⟨ix, ox, none⟩) l.length cap) ∧ w'.cell? ⟨ix, ox + k * 3, none⟩ = some (.int .i64 x.f) ∧ w'.cell? ⟨ix, ox + k * 3 + 1, none⟩ = some (.int .i64 x.t) ∧ w'.cell? ⟨ix, ox + k * 3 + 2, none⟩ = some (.int .u32 x.w)) (go_keep) ((go_at_call 59; refine (HW.out _ HBD.out).mono ?_; rintro e w2 ⟨rfl, hb2⟩; have hb2 := HBD.out.trans hb2; have v0 := (hb2.cell (p := ⟨b1, 0, none⟩) hl1).trans C1.out; have v1 := (hb2.cell (p := ⟨b2, 1, none⟩) hl2).trans C2.out; have v2 := (hb2.cell (p := ⟨ix, ox + k * 3, none⟩) hbl).trans X0.out; have v3 := (hb2.cell (p := ⟨ix, ox + k * 3 + 1, none⟩) hbl).trans X1.out; have v4 := (hb2.cell (p := ⟨ix, ox + k * 3 + 2, none⟩) hbl).trans X2.out; have HB2 := Lib.hid hb2; clear hb2))
  go_wp2_with fail
  go_ret
  exact ⟨rfl, HB2.out⟩
set_option maxRecDepth 100000 in
set_option maxHeartbeats 1600000 in
theorem cArcsO_any (N : Int) (u0 : Value) (a : Option Addr) (l : List A) (cap : Nat) (P : A → Bool) (w : World) (hl : l.length ≤ 8192) (hr : Arcs w a l)
    (hW : ∀ k, k < l.length → ∀ W2, Below w.heap.size w W2 → Calls Try.prog 59 #[u0, .agg #[.int .i64 (l.getD k A.zero).f, .int .i64 (l.getD k A.zero).t, .int .u32 (l.getD k A.zero).w]] W2 fun e w' => e = .returned (.bool (P (l.getD k A.zero))) ∧ Below W2.heap.size W2 w') :
    Calls Try.prog 54 #[.agg #[.int .i64 N, .slice a l.length cap], .func (.func 59) #[u0] #[]] w fun e w' => ∃ v, e = .returned (.slice v (arL l P).length (arL l P).length) ∧ RowI w' w.heap.size v (ints (arL l P)) ∧ Below w.heap.size w w' := by
  have hb0 : Below w.heap.size w ((w.alloc (.cells #[.int .i64 N, .slice a l.length cap] 24)).alloc (.cells #[.func (.func 59) #[u0] #[]] 93)) := (top2 w _ _).2.2.1
  have hg0 := (top2 w (.cells #[.int .i64 N, .slice a l.length cap] 24) (.cells #[.func (.func 59) #[u0] #[]] 93)).1
  have hg1 := (top2 w (.cells #[.int .i64 N, .slice a l.length cap] 24) (.cells #[.func (.func 59) #[u0] #[]] 93)).2.1
  have hsz := (top2 w (.cells #[.int .i64 N, .slice a l.length cap] 24) (.cells #[.func (.func 59) #[u0] #[]] 93)).2.2.2
  obtain ⟨⟨a0, a1⟩, _⟩ := two_cells hg0
  have a2 := cell_of_one hg1
  have HA1 := Lib.hid a1
  have HA2 := Lib.hid a2
  have hmf : ∀ (fn : Fn) (first cap : Array Value) (w : World), (Instr.makeFunc fn first cap).run Try.prog w = .ok (.func fn first cap) w := fun _ _ _ _ => rfl
  have HB0 := Lib.hid hb0
  have HR := Lib.hid hr
  have HW := Lib.hid hW
  have HAL : Hid (arL l P = cho (arP l P) l.length) := rfl
  rw [HAL.out]
  clear hr hb0 hg0 hg1 hW HAL
  generalize hp : w.heap.size = p at *
  go_enter Try.func54, Try.ntmps54
  go_wp2_with fail
  generalize hZ : (w.alloc (.cells #[.int .i64 N, .slice a l.length cap] 24)).alloc (.cells #[.func (.func 59) #[u0] #[]] 93) = Z at *
  clear hZ
  refine (chosenA_any l.length (arP l P) (.pointer (some ⟨p + 1, 0, none⟩)) (.pointer (some ⟨p, 0, none⟩)) Z hl (fun k hk W2 hb => ?_)).mono ?_
  · have hbw : Below p w W2 := HB0.out.trans (hb.mono (by omega))
    refine chAO_any k (p + 1) p u0 a l cap P W2 hk hl ((hb.cell (p := ⟨p + 1, 0, none⟩) (by show p + 1 < _; omega)).trans HA2.out) ((hb.cell (p := ⟨p, 1, none⟩) (by show p < _; omega)).trans HA1.out) (HR.out.on (hp ▸ hbw)) (fun W3 hb3 => HW.out k hk W3 (hbw.trans (hb3.mono ?_)))
    have := hb.size
    omega
  · rintro e w1 ⟨v, rfl, hrow, hb1⟩
    have HR1 := Lib.hid (hrow.base (C := p) (by omega))
    have HB1 : Hid (Below p w w1) := HB0.out.trans (hb1.mono (by omega))
    clear hrow hb1 a0 a1 a2
    go_wp2_with fail
    go_ret
    exact ⟨v, rfl, HR1.out, HB1.out⟩
end Go.Proofs.Ytpmjbeiclmllmaa
