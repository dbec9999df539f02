import Derived.Test.YtaafkpojjdjphaaGreatQAA
import Derived.Deep.RegionHeld3
open Go.Lib (hid)
set_option maxRecDepth 100000
namespace Go.Proofs.YtaafkpojjdjphaaGreat
open Go.RowKit
def lsS (S : List Nat) (v : Nat) (x : Int) : List Nat := if x = S.length then S ++ [v] else S
def lsL : List Int → Nat → List Nat → List Nat
 | [], _, S => S
 | x :: r, v, S => lsL r (v + 1) (lsS S v x)
set_option maxHeartbeats 1600000 in
theorem nsLeasts_any (a : Option Addr) (xs : List Int) (c : Nat) (b : Option Addr) (m cb : Nat) (w : World) (hx : xs.length ≤ 1024) (hm : m ≤ 1024) (hi : Ints w a xs) :
  Calls Tryz.prog 92 #[.agg #[.slice a xs.length c, .slice b m cb]] w fun e w' => ∃ v c S, e = .returned (.slice v S.length c) ∧ w'.ownsRow w.heap.size 3 1 (.slice v S.length c) S.length (cellsI (ints S)) ∧ S = lsL xs 0 [] ∧ Below w.heap.size w w' := by
 have hb0 : Below w.heap.size w (w.alloc (.cells #[.slice a xs.length c, .slice b m cb] 143)) := (Below.refl _ _).alloc (Nat.le_refl _) _
 have hg := heap_top w (.cells #[.slice a xs.length c, .slice b m cb] 143)
 obtain ⟨i3, hi3, hz3, hs3, hby3⟩ := info_parts info3
 obtain ⟨⟨c0, c1⟩, _⟩ := two_cells hg
 obtain ⟨ix, ox, hix⟩ := hi.get
 have HIX := hid hix
 have HB0 := hid hb0
 have hmk : ∀ w, (Instr.makeSlice 25 (.int .i64 0) (.int .i64 m)).run Tryz.prog w = .ok (.slice (some ⟨w.heap.size, 0, none⟩) 0 m) (w.alloc (.cells ((List.range m).map (fun _ => Value.int .i64 0)).toArray 3)) := fun w => by
  have := run_make (P := Tryz.prog) w 25 3 i3 (.int .i64 0) Tryz.underlying25 hi3 hz3 .i64 .i64 0 m (by omega) (by omega) (by rw [hby3]; omega) (by omega)
  rw [hs3] at this
  rw [this, Int.toNat_natCast, made_int]
  rfl
 clear hi hb0 hix
 generalize hp : w.heap.size = p at *
 go_enter Tryz.func92, Tryz.ntmps92
 go_wp2_with fail
 have hw1 : w.heap.size < (w.alloc (.cells #[.slice a xs.length c, .slice b m cb] 143)).heap.size := by simp
 generalize hW : w.alloc (.cells #[.slice a xs.length c, .slice b m cb] 143) = W at *
 clear hW
 go_wp2_with (go_at_call 153; refine (nsMany_any _ b m cb W).mono ?_; rintro e w1 ⟨rfl, hb1⟩; have c0 := (hb1.cell (p := ⟨p, 0, none⟩) (by show p < _; omega)).trans c0; have HB1 : Hid (Below p w w1) := HB0.out.trans (hb1.mono (by omega)); have hz1 := hb1.size; have c2 := (((Below.refl w1.heap.size w1).alloc (Nat.le_refl _) (.cells ((List.range m).map (fun _ => Value.int .i64 0)).toArray 3)).cell (p := ⟨p, 0, none⟩) (by show p < _; omega)).trans c0; clear hb1 HB0)
 have HO0 : Hid ((w1.alloc (.cells ((List.range m).map (fun _ => Value.int .i64 0)).toArray 3)).ownsRow p 3 1 (.slice (some ⟨w1.heap.size, 0, none⟩) 0 m) 0 []) := World.ownsRow_made w1 _ m (by omega) (by unfold maxLen; omega) (by simp)
 have HB2 : Hid (Below p w (w1.alloc (.cells ((List.range m).map (fun _ => Value.int .i64 0)).toArray 3))) := HB1.out.alloc (by omega) _
 generalize w1.alloc (.cells ((List.range m).map (fun _ => Value.int .i64 0)).toArray 3) = V at *
 clear hg hw1 c0 c1 c2 HB1
 go_loopw [3, 12] (fun s3 i wr => ∃ (k : Nat) (av : Option Addr) (cv : Nat) (S : List Nat), k ≤ xs.length ∧ i = .int .i64 k ∧ s3 = .slice av S.length cv ∧ S.length ≤ k ∧ Hid (lsL (xs.drop k) k S = lsL xs 0 []) ∧ Hid (wr.ownsRow p 3 1 (.slice av S.length cv) S.length (cellsI (ints S))) ∧ Hid (Below p w wr)) (fun _ i _ => xs.length - (intOf i).toNat)
 case atStart => exact ⟨0, _, _, [], Nat.zero_le _, rfl, rfl, Nat.zero_le _, rfl, HO0, HB2⟩
 case round =>
  obtain ⟨k, av, cv, S, hk, rfl, rfl, hSk, HS, HOW, HBR⟩ := hrel
  have hwr : p ≤ wr.heap.size := by have := HBR.out.size; omega
  by_cases hlk : k < xs.length
  ·obtain ⟨rfl, hbl, hat⟩ := HIX.out (by omega)
   have hlk' : (k : Int) < xs.length := by omega
   have y0 := (HBR.out.cell (p := ⟨ix, ox + k, none⟩) (hp ▸ hbl)).trans (hat k hlk)
   have hk2 := HS.out
   rw [drop_getI hlk] at hk2
   simp only [lsL] at hk2
   have HK2 := hid hk2
   clear hat hk2
   generalize xs.getD k 0 = x at *
   by_cases h2 : x = S.length
   ·subst h2
    have hq : ((S.length : Int) == (S.length : Int)) = true := by simp
    have HNS : Hid (lsS S k S.length = S ++ [k]) := if_pos rfl
    rw [HNS.out] at HK2
    have HNW := hid (one_new wr k)
    have HO2 := hid (HOW.out.alloc (.cells #[.int .i64 k] 3))
    have HBZ : Hid (p ≤ (wr.alloc (.cells #[.int .i64 k] 3)).heap.size) := by show _ ≤ _; rw [World.size_alloc]; omega
    have HBB : Hid (Below p w (wr.alloc (.cells #[.int .i64 k] 3))) := HBR.out.alloc (by omega) _
    have HOL : Hid (∀ b, (Value.slice av S.length cv).ownBlock = some b → p ≤ b) := fun b hb => (HOW.out.lt b hb).1
    have HCA : Hid (cellsI (ints S) ++ [.int .i64 k] = cellsI (ints (S ++ [k]))) := by show _ = _; rw [ints_snoc, ← cellsI_snoc]
    have hs8 : S.length ≤ 1024 := by omega
    go_wp2_with (at_builtin; refine wpList_append_own _ rfl (.tmp 21) (.tmp 23) 25 rfl p 3 i3 (.int .i64 0) 1 8 Tryz.underlying25 hi3 hz3 hs3 hby3 rfl (by decide) (.slice av S.length cv) S.length (cellsI (ints S)) rfl HO2.out ⟨wr.heap.size, 0, none⟩ 1 1 [.int .i64 k] rfl rfl HNW.out (one_i64 _) (by unfold maxLen; omega) (by omega) HBZ.out ?_; intro v6 w6 hown6 hgrow6 hnil6; obtain ⟨g6, c6, hv6, _, hc6, _, hm6⟩ := own_shape hown6 (fun e => by have := hnil6.1 e; simp at this); subst hv6; rw [HCA.out] at hown6; have h7 : w6.ownsRow p 3 1 (.slice (some ⟨g6, 0, none⟩) (S ++ [k]).length c6) (S ++ [k]).length (cellsI (ints (S ++ [k]))) := (by rw [List.length_append]; exact hown6); have HO7 := hid h7; have HB6 : Hid (Below p w w6) := HBB.out.grown hgrow6 HBZ.out (fun j hj => HOL.out j hj); clear hown6 hgrow6 hnil6 h7)
    exact ⟨⟨k + 1, some ⟨g6, 0, none⟩, c6, S ++ [k], by omega, by simp, by rw [List.length_append]; rfl, by rw [List.length_append]; simp; omega, HK2, HO7, HB6⟩, by simp [intOf]; omega⟩
   ·have hq : (x == (S.length : Int)) = false := by simpa using h2
    have HNS : Hid (lsS S k x = S) := if_neg h2
    rw [HNS.out] at HK2
    clear h2
    go_wp2_with fail
    exact ⟨⟨k + 1, av, cv, S, by omega, by simp, rfl, by omega, HK2, HOW, HBR⟩, by simp [intOf]; omega⟩
  ·have e0 : xs.drop k = [] := List.drop_eq_nil_of_le (by omega)
   have hlk' : ¬ (k : Int) < xs.length := by omega
   rw [e0] at HS
   clear e0
   go_wp2_with fail
   go_ret
   exact ⟨av, cv, S, rfl, HOW.out, HS.out, HBR.out⟩
def mbS (S : List Nat) (v : Nat) (x q : Int) : List Nat := if x = q then S ++ [v] else S
def mbL (q : Int) : List Int → Nat → List Nat → List Nat
 | [], _, S => S
 | x :: r, v, S => mbL q r (v + 1) (mbS S v x q)
set_option maxHeartbeats 1600000 in
theorem nsMembers_any (a : Option Addr) (xs : List Int) (c : Nat) (b : Option Addr) (zs : List Int) (cb q m : Nat) (w : World) (hx : xs.length ≤ 1024) (hz : zs.length ≤ 1024) (hq : q < zs.length) (hqm : zs.getD q 0 = m) (hm : m ≤ 1024) (hi : Ints w a xs) (hj : Ints w b zs) :
  Calls Tryz.prog 201 #[.agg #[.slice a xs.length c, .slice b zs.length cb], .int .i64 q] w fun e w' => ∃ v c S, e = .returned (.slice v S.length c) ∧ w'.ownsRow w.heap.size 3 1 (.slice v S.length c) S.length (cellsI (ints S)) ∧ S = mbL q xs 0 [] ∧ Below w.heap.size w w' := by
 have hb0 : Below w.heap.size w (w.alloc (.cells #[.slice a xs.length c, .slice b zs.length cb] 143)) := (Below.refl _ _).alloc (Nat.le_refl _) _
 have hg := heap_top w (.cells #[.slice a xs.length c, .slice b zs.length cb] 143)
 obtain ⟨i3, hi3, hz3, hs3, hby3⟩ := info_parts info3
 obtain ⟨⟨c0, c1⟩, _⟩ := two_cells hg
 obtain ⟨ix, ox, hix⟩ := hi.get
 obtain ⟨jx, oy, hjx⟩ := (hj.on hb0).get
 obtain ⟨rfl, _, hjt⟩ := hjx (by omega)
 have z0 := hjt q hq
 rw [hqm] at z0
 have hq' : (q : Int) < zs.length := by omega
 have HIX := hid hix
 have HB0 := hid hb0
 have hmk : ∀ w, (Instr.makeSlice 25 (.int .i64 0) (.int .i64 m)).run Tryz.prog w = .ok (.slice (some ⟨w.heap.size, 0, none⟩) 0 m) (w.alloc (.cells ((List.range m).map (fun _ => Value.int .i64 0)).toArray 3)) := fun w => by
  have := run_make (P := Tryz.prog) w 25 3 i3 (.int .i64 0) Tryz.underlying25 hi3 hz3 .i64 .i64 0 m (by omega) (by omega) (by rw [hby3]; omega) (by omega)
  rw [hs3] at this
  rw [this, Int.toNat_natCast, made_int]
  rfl
 clear hi hb0 hix hj hjx hjt hqm
 generalize hp : w.heap.size = p at *
 go_enter Tryz.func201, Tryz.ntmps201
 go_wp2_with fail
 have hw2 : (w.alloc (.cells #[.slice a xs.length c, .slice (some ⟨jx, oy, none⟩) zs.length cb] 143)).heap.size = p + 1 := by simp [hp]
 have hw1 : w.heap.size < (w.alloc (.cells #[.slice a xs.length c, .slice (some ⟨jx, oy, none⟩) zs.length cb] 143)).heap.size := by simp
 generalize hW : (w.alloc (.cells #[.slice a xs.length c, .slice (some ⟨jx, oy, none⟩) zs.length cb] 143)) = w1 at *
 clear hW
 have HO0 : Hid ((w1.alloc (.cells ((List.range m).map (fun _ => Value.int .i64 0)).toArray 3)).ownsRow p 3 1 (.slice (some ⟨w1.heap.size, 0, none⟩) 0 m) 0 []) := World.ownsRow_made w1 _ m (by omega) (by unfold maxLen; omega) (by simp)
 have HB2 : Hid (Below p w (w1.alloc (.cells ((List.range m).map (fun _ => Value.int .i64 0)).toArray 3))) := HB0.out.alloc (by omega) _
 rw [hw2] at HO0
 generalize w1.alloc (.cells ((List.range m).map (fun _ => Value.int .i64 0)).toArray 3) = V at *
 clear hg c0 c1 HB0
 go_loopw [5, 17] (fun s5 i wr => ∃ (k : Nat) (av : Option Addr) (cv : Nat) (S : List Nat), k ≤ xs.length ∧ i = .int .i64 k ∧ s5 = .slice av S.length cv ∧ S.length ≤ k ∧ Hid (mbL q (xs.drop k) k S = mbL q xs 0 []) ∧ Hid (wr.ownsRow p 3 1 (.slice av S.length cv) S.length (cellsI (ints S))) ∧ Hid (Below p w wr)) (fun _ i _ => xs.length - (intOf i).toNat)
 case atStart => exact ⟨0, _, _, [], Nat.zero_le _, rfl, rfl, Nat.zero_le _, rfl, HO0, HB2⟩
 case round =>
  obtain ⟨k, av, cv, S, hk, rfl, rfl, hSk, HS, HOW, HBR⟩ := hrel
  have hwr : p ≤ wr.heap.size := by have := HBR.out.size; omega
  by_cases hlk : k < xs.length
  ·obtain ⟨rfl, hbl, hat⟩ := HIX.out (by omega)
   have hlk' : (k : Int) < xs.length := by omega
   have y0 := (HBR.out.cell (p := ⟨ix, ox + k, none⟩) (hp ▸ hbl)).trans (hat k hlk)
   have hk2 := HS.out
   rw [drop_getI hlk] at hk2
   simp only [mbL] at hk2
   have HK2 := hid hk2
   clear hat hk2
   generalize xs.getD k 0 = x at *
   by_cases h2 : x = q
   ·subst h2
    have hqq : ((q : Int) == (q : Int)) = true := by simp
    have HNS : Hid (mbS S k q q = S ++ [k]) := if_pos rfl
    rw [HNS.out] at HK2
    have HNW := hid (one_new wr k)
    have HO2 := hid (HOW.out.alloc (.cells #[.int .i64 k] 3))
    have HBZ : Hid (p ≤ (wr.alloc (.cells #[.int .i64 k] 3)).heap.size) := by show _ ≤ _; rw [World.size_alloc]; omega
    have HBB : Hid (Below p w (wr.alloc (.cells #[.int .i64 k] 3))) := HBR.out.alloc (by omega) _
    have HOL : Hid (∀ b, (Value.slice av S.length cv).ownBlock = some b → p ≤ b) := fun b hb => (HOW.out.lt b hb).1
    have HCA : Hid (cellsI (ints S) ++ [.int .i64 k] = cellsI (ints (S ++ [k]))) := by show _ = _; rw [ints_snoc, ← cellsI_snoc]
    have hs8 : S.length ≤ 1024 := by omega
    go_wp2_with (at_builtin; refine wpList_append_own _ rfl (.tmp 25) (.tmp 27) 25 rfl p 3 i3 (.int .i64 0) 1 8 Tryz.underlying25 hi3 hz3 hs3 hby3 rfl (by decide) (.slice av S.length cv) S.length (cellsI (ints S)) rfl HO2.out ⟨wr.heap.size, 0, none⟩ 1 1 [.int .i64 k] rfl rfl HNW.out (one_i64 _) (by unfold maxLen; omega) (by omega) HBZ.out ?_; intro v6 w6 hown6 hgrow6 hnil6; obtain ⟨g6, c6, hv6, _, hc6, _, hm6⟩ := own_shape hown6 (fun e => by have := hnil6.1 e; simp at this); subst hv6; rw [HCA.out] at hown6; have h7 : w6.ownsRow p 3 1 (.slice (some ⟨g6, 0, none⟩) (S ++ [k]).length c6) (S ++ [k]).length (cellsI (ints (S ++ [k]))) := (by rw [List.length_append]; exact hown6); have HO7 := hid h7; have HB6 : Hid (Below p w w6) := HBB.out.grown hgrow6 HBZ.out (fun j hj => HOL.out j hj); clear hown6 hgrow6 hnil6 h7)
    exact ⟨⟨k + 1, some ⟨g6, 0, none⟩, c6, S ++ [k], by omega, by simp, by rw [List.length_append]; rfl, by rw [List.length_append]; simp; omega, HK2, HO7, HB6⟩, by simp [intOf]; omega⟩
   ·have hqq : (x == (q : Int)) = false := by simpa using h2
    have HNS : Hid (mbS S k x q = S) := if_neg h2
    rw [HNS.out] at HK2
    clear h2
    go_wp2_with fail
    exact ⟨⟨k + 1, av, cv, S, by omega, by simp, rfl, by omega, HK2, HOW, HBR⟩, by simp [intOf]; omega⟩
  ·have e0 : xs.drop k = [] := List.drop_eq_nil_of_le (by omega)
   have hlk' : ¬ (k : Int) < xs.length := by omega
   rw [e0] at HS
   clear e0
   go_wp2_with fail
   go_ret
   exact ⟨av, cv, S, rfl, HOW.out, HS.out, HBR.out⟩
def inB (ys : List Int) (L : List Nat) : List Int → Nat → Bool
 | [], _ => true
 | x :: r, k => if ys.getD k 0 = ys.getD (L.getD x.toNat 0) 0 then inB ys L r (k + 1) else false
set_option maxHeartbeats 1600000 in
theorem nsNested_any (a : Option Addr) (xs : List Int) (c : Nat) (b : Option Addr) (m cb : Nat) (d : Option Addr) (ys : List Int) (dc : Nat) (s : Value) (w : World) (hx : xs.length ≤ 1024) (hm : m ≤ 1024) (hy : ys.length ≤ 1024) (hxy : xs.length ≤ ys.length)
  (hL : ∀ k, k < xs.length → ∃ y : Nat, xs.getD k 0 = y ∧ y < (lsL xs 0 []).length ∧ (lsL xs 0 []).getD y 0 < ys.length) (hi : Ints w a xs) (hj : Ints w d ys) :
  Calls Tryz.prog 200 #[.agg #[.slice a xs.length c, .slice b m cb], .agg #[.slice d ys.length dc, s]] w fun e w' => e = .returned (.bool (inB ys (lsL xs 0 []) xs 0)) ∧ Below w.heap.size w w' := by
 have hb0 : Below w.heap.size w (w.alloc (.cells #[.slice a xs.length c, .slice b m cb] 143)) := (Below.refl _ _).alloc (Nat.le_refl _) _
 have hg := heap_top w (.cells #[.slice a xs.length c, .slice b m cb] 143)
 obtain ⟨⟨c0, c1⟩, _⟩ := two_cells hg
 have HI := hid hi
 have HJ := hid hj
 have HB0 := hid hb0
 have HL := hid hL
 clear hi hj hb0 hL
 obtain ⟨E, HE⟩ := named (inB ys (lsL xs 0 []) xs 0)
 rw [HE.out]
 generalize hp : w.heap.size = p at *
 go_enter Tryz.func200, Tryz.ntmps200
 go_wp2_with fail
 have hq0 := heap_top (w.alloc (.cells #[.slice a xs.length c, .slice b m cb] 143)) (.cells #[.slice d ys.length dc, s] 143)
 have hz0 : (w.alloc (.cells #[.slice a xs.length c, .slice b m cb] 143)).heap.size = p + 1 := by simp [hp]
 have hw1 : ((w.alloc (.cells #[.slice a xs.length c, .slice b m cb] 143)).alloc (.cells #[.slice d ys.length dc, s] 143)).heap.size = p + 2 := by simp [hp]
 have HB1 : Hid (Below p w ((w.alloc (.cells #[.slice a xs.length c, .slice b m cb] 143)).alloc (.cells #[.slice d ys.length dc, s] 143))) := HB0.out.alloc (by omega) _
 have k0 := ((Below.refl (p + 1) (w.alloc (.cells #[.slice a xs.length c, .slice b m cb] 143))).alloc (by omega) (.cells #[.slice d ys.length dc, s] 143)).cell (p := ⟨p, 0, none⟩) (by show p < p + 1; omega)
 rw [c0] at k0
 rw [hz0] at hq0
 clear hg c0 c1 hz0 HB0
 generalize (w.alloc (.cells #[.slice a xs.length c, .slice b m cb] 143)).alloc (.cells #[.slice d ys.length dc, s] 143) = W at *
 obtain ⟨⟨x0, x1⟩, _⟩ := two_cells hq0
 have HX := hid x0
 have HX1 := hid x1
 have HLE : Hid (Calls Tryz.prog 92 #[.agg #[.slice a xs.length c, .slice b m cb]] W _) := nsLeasts_any a xs c b m cb W hx hm (HI.out.on (hp ▸ HB1.out))
 clear hq0 x0 x1
 go_wp2_with (go_at_call 92; refine HLE.out.mono ?_; rintro e V ⟨lv, lc, L, rfl, hown, hLL, hb1⟩; have k1 := (hb1.cell (p := ⟨p, 0, none⟩) (by show p < _; omega)).trans k0; have HBV : Hid (Below p w V) := HB1.out.trans (hb1.mono (by omega)); have HOW := hid hown; have HX2 := hid ((hb1.cell (p := ⟨p + 1, 0, none⟩) (by show p + 1 < _; omega)).trans HX.out); have HX3 := hid ((hb1.cell (p := ⟨p + 1, 1, none⟩) (by show p + 1 < _; omega)).trans HX1.out); have hVs := hb1.size; have HLL := hid hLL; clear hb1 hown hLL HX HX1 HLE k0)
 rw [← HLL.out] at HL HE
 obtain ⟨ix, ox, hix⟩ := HI.out.get
 have HIX := hid hix
 have HC : Hid (∀ X, Below V.heap.size V X → ∀ k, k < ys.length → Calls Tryz.prog 93 #[.agg #[.slice d ys.length dc, s], .int .i64 k] X fun e w' => e = .returned (.int .i64 (ys.getD k 0)) ∧ Below V.heap.size V w') := fun X hX k hk => (nsOf_any d ys dc s k X hk (by omega) (HJ.out.on (by rw [hp]; exact HBV.out.trans (hX.mono (by omega))))).mono (fun e w' h => ⟨h.1, hX.trans (h.2.mono hX.size)⟩)
 clear hix k1
 go_loopw [13] (fun i wr => ∃ k : Nat, k ≤ xs.length ∧ i = .int .i64 k ∧ Hid (inB ys L (xs.drop k) k = E) ∧ Hid (Below V.heap.size V wr)) (fun i _ => xs.length - (intOf i).toNat)
 case atStart => exact ⟨0, Nat.zero_le _, rfl, HE, Below.refl _ _⟩
 case round =>
  obtain ⟨k, hk, rfl, HS, HBR⟩ := hrel
  have HBP : Hid (Below p w wr) := HBV.out.trans (HBR.out.mono (by omega))
  by_cases hlk : k < xs.length
  ·obtain ⟨rfl, hbl, hat⟩ := HIX.out (by omega)
   have hlk' : (k : Int) < xs.length := by omega
   have y0 := (HBP.out.cell (p := ⟨ix, ox + k, none⟩) (hp ▸ hbl)).trans (hat k hlk)
   obtain ⟨y, hxy1, hyL, hyy⟩ := HL.out k hlk
   have hk2 := HS.out
   rw [drop_getI hlk, hxy1] at hk2
   simp only [inB, Int.toNat_natCast] at hk2
   rw [hxy1] at y0
   have HT : Hid (ys.getD k 0 = ys.getD (L.getD y 0) 0 → inB ys L (xs.drop (k + 1)) (k + 1) = E) := fun h => by rw [if_pos h] at hk2; exact hk2
   have HF : Hid (¬ ys.getD k 0 = ys.getD (L.getD y 0) 0 → false = E) := fun h => by rw [if_neg h] at hk2; exact hk2
   obtain ⟨g, cg, hv, hg1, _, hgs, _⟩ := own_shape HOW.out (fun e => by injection e with _ e2 _; omega)
   injection hv with hv1 _ hv3
   subst hv1 hv3
   have d0 := own_cellI HOW.out hyL
   have HD0 := hid d0
   have x2 := (HBR.out.cell (p := ⟨g, y, none⟩) hgs).trans d0
   have x0 := (HBR.out.cell (p := ⟨p + 1, 0, none⟩) (by show p + 1 < _; omega)).trans HX2.out
   have x1 := (HBR.out.cell (p := ⟨p + 1, 1, none⟩) (by show p + 1 < _; omega)).trans HX3.out
   have hyL' : (y : Int) < L.length := by omega
   have hLm : L.length ≤ 1024 ∨ True := .inr trivial
   have hky : k < ys.length := by omega
   have HBD : Hid (Below V.heap.size V wr.drew) := HBR.out.drew
   have hp1V : p + 1 < V.heap.size := by omega
   clear hat hk2 d0 hxy1 hbl
   have HC1 : Hid (∀ X, Below V.heap.size V X → Calls Tryz.prog 93 #[.agg #[.slice d ys.length dc, s], .int .i64 k] X fun e w' => e = .returned (.int .i64 (ys.getD k 0)) ∧ Below V.heap.size V w') := fun X hX => HC.out X hX k hky
   have HC2 : Hid (∀ X, Below V.heap.size V X → Calls Tryz.prog 93 #[.agg #[.slice d ys.length dc, s], .int .i64 (L.getD y 0 : Nat)] X fun e w' => e = .returned (.int .i64 (ys.getD (L.getD y 0) 0)) ∧ Below V.heap.size V w') := fun X hX => HC.out X hX _ hyy
   clear HC
   generalize ys.getD k 0 = r1 at *
   generalize ys.getD (L.getD y 0) 0 = r2 at *
   generalize L.getD y 0 = u at *
   by_cases h2 : r1 = r2
   ·have hne : (r1 != r2) = false := by simpa using h2
    go_wp2_with fail
    go_region_held3 (fun w' => w'.cell? ⟨p + 1, 0, none⟩ = some (.slice d ys.length dc) ∧ w'.cell? ⟨p + 1, 1, none⟩ = some s ∧ w'.cell? ⟨g, y, none⟩ = some (.int .i64 (u : Int))) (go_keep) ((go_at_call 93; first | (refine (HC1.out _ HBD.out).mono ?_; rintro e w2 ⟨rfl, hb2⟩; have v0 := (hb2.cell (p := ⟨p + 1, 0, none⟩) hp1V).trans HX2.out; have v1 := (hb2.cell (p := ⟨p + 1, 1, none⟩) hp1V).trans HX3.out; have v2 := (hb2.cell (p := ⟨g, y, none⟩) hgs).trans HD0.out) | (refine (HC2.out _ hb2).mono ?_; rintro e w3 ⟨rfl, hb3⟩; have v3 := (hb3.cell (p := ⟨p + 1, 0, none⟩) hp1V).trans HX2.out; have v4 := (hb3.cell (p := ⟨p + 1, 1, none⟩) hp1V).trans HX3.out; have v5 := (hb3.cell (p := ⟨g, y, none⟩) hgs).trans HD0.out)))
    all_goals (go_wp2_with fail)
    all_goals (exact ⟨⟨k + 1, by omega, by simp, hid (HT.out h2), (by first | exact hb3 | exact hb2)⟩, by simp [intOf]; omega⟩)
   ·have hne : (r1 != r2) = true := by simpa using h2
    obtain rfl : false = E := HF.out h2
    go_wp2_with fail
    go_region_held3 (fun w' => w'.cell? ⟨p + 1, 0, none⟩ = some (.slice d ys.length dc) ∧ w'.cell? ⟨p + 1, 1, none⟩ = some s ∧ w'.cell? ⟨g, y, none⟩ = some (.int .i64 (u : Int))) (go_keep) ((go_at_call 93; first | (refine (HC1.out _ HBD.out).mono ?_; rintro e w2 ⟨rfl, hb2⟩; have v0 := (hb2.cell (p := ⟨p + 1, 0, none⟩) hp1V).trans HX2.out; have v1 := (hb2.cell (p := ⟨p + 1, 1, none⟩) hp1V).trans HX3.out; have v2 := (hb2.cell (p := ⟨g, y, none⟩) hgs).trans HD0.out) | (refine (HC2.out _ hb2).mono ?_; rintro e w3 ⟨rfl, hb3⟩; have v3 := (hb3.cell (p := ⟨p + 1, 0, none⟩) hp1V).trans HX2.out; have v4 := (hb3.cell (p := ⟨p + 1, 1, none⟩) hp1V).trans HX3.out; have v5 := (hb3.cell (p := ⟨g, y, none⟩) hgs).trans HD0.out)))
    all_goals (go_wp2_with fail)
    all_goals go_ret
    all_goals (exact ⟨rfl, HBV.out.trans (Below.mono (by first | exact hb3 | exact hb2) (by omega))⟩)
  ·have e0 : xs.drop k = [] := List.drop_eq_nil_of_le (by omega)
   have hlk' : ¬ (k : Int) < xs.length := by omega
   rw [e0] at HS
   obtain rfl : true = E := HS.out
   clear e0
   go_wp2_with fail
   go_ret
   exact ⟨rfl, HBP.out⟩
theorem szS_len (S : List Nat) (x : Nat) : (szS S x).length = if x = S.length then S.length + 1 else S.length := by
 unfold szS
 split <;> simp
theorem getD_app_lt {S : List Nat} {j x : Nat} (h : j < S.length) : (S ++ [x]).getD j 0 = S.getD j 0 := by simp [List.getD, List.getElem?_append_left h]
theorem tdy_next {xs : List Int} : ∀ j k, k + j = xs.length → tdy (xs.drop k) ((szL (xs.take k)).length : Nat) = true → ∀ i, k ≤ i → i < xs.length → 0 ≤ xs.getD i 0 ∧ (xs.getD i 0).toNat ≤ (szL (xs.take i)).length
 | 0, k, e, _ => fun i h1 h2 => by omega
 | j + 1, k, e, h => by
   have hk : k < xs.length := by omega
   rw [drop_getI hk] at h
   simp only [tdy] at h
   split at h
   ·cases h
   ·rename_i hx
    intro i h1 h2
    by_cases e2 : i = k
    ·subst e2; exact ⟨by omega, by omega⟩
    ·refine tdy_next j (k + 1) (by omega) ?_ i (by omega) h2
     rw [take_snocI hk, szL_snoc, szS_len]
     by_cases e3 : xs.getD k 0 = ((szL (xs.take k)).length : Nat)
     ·rw [if_pos e3] at h
      rw [if_pos (by omega)]
      exact h
     ·rw [if_neg e3] at h
      rw [if_neg (by omega)]
      exact h
theorem right_next {xs : List Int} (h : tdy xs 0 = true) : ∀ i, i < xs.length → 0 ≤ xs.getD i 0 ∧ (xs.getD i 0).toNat ≤ (szL (xs.take i)).length := fun i hi => tdy_next xs.length 0 (by omega) h i (Nat.zero_le _) hi
theorem szL_length (xs : List Int) : (szL xs).length ≤ xs.length := by
 have : ∀ (xs : List Int) (S : List Nat), (xs.foldl (fun S x => szS S x.toNat) S).length ≤ S.length + xs.length := by
  intro xs
  induction xs with
  | nil => intro S; exact Nat.le_refl _
  | cons x r ih =>
    intro S
    have h := ih (szS S x.toNat)
    rw [szS_len] at h
    simp only [List.foldl_cons, List.length_cons]
    split at h <;> omega
 have h := this xs []
 simpa [szL] using h
def LsP (xs : List Int) (k : Nat) (S : List Nat) : Prop :=
 S.length = (szL (xs.take k)).length ∧ (∀ j, j < S.length → S.getD j 0 < k ∧ xs.getD (S.getD j 0) 0 = (j : Int) ∧ ∀ u, u < k → xs.getD u 0 = (j : Int) → S.getD j 0 ≤ u) ∧ ∀ u, u < k → 0 ≤ xs.getD u 0 ∧ (xs.getD u 0).toNat < S.length
theorem LsP.step {xs : List Int} {k : Nat} {S : List Nat} (h : LsP xs k S) (ht : tdy xs 0 = true) (hk : k < xs.length) : LsP xs (k + 1) (lsS S k (xs.getD k 0)) := by
 obtain ⟨h1, h2, h3⟩ := h
 obtain ⟨a0, a1⟩ := right_next ht k hk
 rw [← h1] at a1
 unfold lsS
 by_cases e : xs.getD k 0 = S.length
 ·rw [if_pos e]
  refine ⟨?_, fun j hj => ?_, fun u hu => ?_⟩
  ·rw [take_snocI hk, szL_snoc, szS_len, ← h1, if_pos (by omega), List.length_append]; rfl
  ·rw [List.length_append] at hj
   simp only [List.length_cons, List.length_nil] at hj
   by_cases e2 : j = S.length
   ·subst e2
    rw [getD_end]
    refine ⟨by omega, e, fun u hu hx => ?_⟩
    by_cases e3 : u = k
    ·omega
    ·have := (h3 u (by omega)).2; omega
   ·rw [getD_app_lt (by omega)]
    obtain ⟨b0, b1, b2⟩ := h2 j (by omega)
    refine ⟨by omega, b1, fun u hu hx => ?_⟩
    by_cases e3 : u = k
    ·omega
    ·exact b2 u (by omega) hx
  ·rw [List.length_append]
   simp only [List.length_cons, List.length_nil]
   by_cases e3 : u = k
   ·subst e3; omega
   ·have := h3 u (by omega); omega
 ·rw [if_neg e]
  refine ⟨?_, fun j hj => ?_, fun u hu => ?_⟩
  ·rw [take_snocI hk, szL_snoc, szS_len, ← h1, if_neg (by omega)]
  ·obtain ⟨b0, b1, b2⟩ := h2 j hj
   refine ⟨by omega, b1, fun u hu hx => ?_⟩
   by_cases e3 : u = k
   ·omega
   ·exact b2 u (by omega) hx
  ·by_cases e3 : u = k
   ·subst e3; omega
   ·exact h3 u (by omega)
theorem LsP.go {xs : List Int} (ht : tdy xs 0 = true) : ∀ j k S, k + j = xs.length → LsP xs k S → LsP xs xs.length (lsL (xs.drop k) k S)
 | 0, k, S, e, h => by
   rw [List.drop_eq_nil_of_le (by omega)]
   have : k = xs.length := by omega
   subst this
   exact h
 | j + 1, k, S, e, h => by
   rw [drop_getI (by omega)]
   exact LsP.go ht j (k + 1) _ (by omega) (h.step ht (by omega))
theorem ls_right {xs : List Int} (ht : tdy xs 0 = true) : LsP xs xs.length (lsL xs 0 []) := by
 have h := LsP.go (xs := xs) ht xs.length 0 [] (by omega) ⟨rfl, fun j hj => absurd hj (by simp), fun u hu => absurd hu (by omega)⟩
 exact h
theorem ls_len {xs : List Int} (ht : tdy xs 0 = true) : (lsL xs 0 []).length = (szL xs).length := by
 have h := (ls_right ht).1
 rw [List.take_length] at h
 exact h
theorem right_lt {xs : List Int} (ht : tdy xs 0 = true) {u : Nat} (hu : u < xs.length) : ∃ y : Nat, xs.getD u 0 = y ∧ y < (szL xs).length := by
 have h := (ls_right ht).2.2 u hu
 rw [ls_len ht] at h
 exact ⟨(xs.getD u 0).toNat, by omega, h.2⟩
def Nst (xs ys : List Int) : Prop := ∀ u, u < xs.length → ∀ v, v < xs.length → xs.getD u 0 = xs.getD v 0 → ys.getD u 0 = ys.getD v 0
instance (xs ys : List Int) : Decidable (Nst xs ys) := by unfold Nst; exact inferInstance
theorem inB_all (ys : List Int) (L : List Nat) : ∀ (xs : List Int) (k : Nat), inB ys L xs k = true ↔ ∀ i, i < xs.length → ys.getD (k + i) 0 = ys.getD (L.getD (xs.getD i 0).toNat 0) 0
 | [], k => by simp [inB]
 | x :: r, k => by
   unfold inB
   by_cases e : ys.getD k 0 = ys.getD (L.getD x.toNat 0) 0
   ·rw [if_pos e, inB_all ys L r (k + 1)]
    constructor
    ·intro h i hi
     cases i with
     | zero => exact e
     | succ i =>
       have := h i (by simpa using hi)
       rw [show k + (i + 1) = k + 1 + i by omega]
       exact this
    ·intro h i hi
     have := h (i + 1) (by simpa using hi)
     rw [show k + (i + 1) = k + 1 + i by omega] at this
     exact this
   ·rw [if_neg e]
    constructor
    ·intro h; cases h
    ·intro h; exact absurd (h 0 (by simp)) e
theorem inB_nst {xs : List Int} (ys : List Int) (ht : tdy xs 0 = true) : inB ys (lsL xs 0 []) xs 0 = decide (Nst xs ys) := by
 have hp := ls_right ht
 rw [Bool.eq_iff_iff, inB_all, decide_eq_true_iff]
 have key : ∀ u, u < xs.length → (lsL xs 0 []).getD (xs.getD u 0).toNat 0 < xs.length ∧ xs.getD ((lsL xs 0 []).getD (xs.getD u 0).toNat 0) 0 = xs.getD u 0 := fun u hu => by
  obtain ⟨a0, a1⟩ := hp.2.2 u hu
  obtain ⟨b0, b1, _⟩ := hp.2.1 _ a1
  exact ⟨b0, by omega⟩
 constructor
 ·intro h u hu v hv e
  have h1 := h u hu
  have h2 := h v hv
  rw [Nat.zero_add] at h1 h2
  rw [h1, h2, e]
 ·intro h i hi
  rw [Nat.zero_add]
  exact h i hi _ (key i hi).1 (key i hi).2.symm
def mbr (xs : List Int) (q : Int) : List Nat := (List.range xs.length).filter (fun v => decide (xs.getD v 0 = q))
theorem mbL_go (q : Int) (xs : List Int) : ∀ j k S, k + j = xs.length → mbL q (xs.drop k) k S = S ++ ((List.range' k j).filter (fun v => decide (xs.getD v 0 = q)))
 | 0, k, S, e => by
   rw [List.drop_eq_nil_of_le (by omega)]
   simp [mbL]
 | j + 1, k, S, e => by
   rw [drop_getI (by omega)]
   show mbL q (xs.drop (k + 1)) (k + 1) (mbS S k (xs.getD k 0) q) = _
   rw [mbL_go q xs j (k + 1) _ (by omega), List.range'_succ, List.filter_cons]
   unfold mbS
   by_cases c : xs.getD k 0 = q
   ·rw [if_pos c, if_pos (decide_eq_true c)]; simp
   ·rw [if_neg c, if_neg (by simpa using c)]
theorem mbL_eq (q : Int) (xs : List Int) : mbL q xs 0 [] = mbr xs q := by
 have h := mbL_go q xs xs.length 0 [] (by omega)
 rw [List.drop_zero, List.nil_append, ← List.range_eq_range'] at h
 exact h
def nxE (N bb : Int) (ys : List Int) (b : Int) (xs : List Int) : Int :=
 if ¬ (bb < b ∧ b ≤ 1024) then 1 else if szE N xs ≠ 0 then szE N xs else if wdB (szL xs) b = false then 90 else if ¬ Nst ys xs then 110 else 0
theorem nxE_zero {N bb : Int} {ys : List Int} {b : Int} {xs : List Int} (h : nxE N bb ys b xs = 0) : bb < b ∧ b ≤ 1024 ∧ (xs.length : Int) = N ∧ tdy xs 0 = true ∧ wdB (szL xs) b = true ∧ Nst ys xs := by
 unfold nxE at h
 split at h
 ·cases h
 ·rename_i h1
  split at h
  ·rename_i h2; exact absurd h h2
  ·rename_i h2
   split at h
   ·cases h
   ·rename_i h3
    split at h
    ·cases h
    ·rename_i h4
     have h2' : szE N xs = 0 := by simpa using h2
     unfold szE at h2'
     split at h2'
     ·cases h2'
     ·rename_i h5
      have h6 : ¬ ((xs.length : Int) ≠ N) ∧ ¬ tdy xs 0 = false := ⟨fun c => h5 (.inl c), fun c => h5 (.inr c)⟩
      have h7 : bb < b ∧ b ≤ 1024 := by omega
      exact ⟨h7.1, h7.2, by have := h6.1; omega, by simpa using h6.2, by simpa using h3, by simpa using h4⟩
def lkE (N : Int) : List Int → List (List Int) → Nat → Int → List Int → Nat × Int
 | b :: bs, xs :: cs, k, bb, ys => if nxE N bb ys b xs ≠ 0 then (k + 1, nxE N bb ys b xs) else lkE N bs cs (k + 1) b xs
 | _, _, _, _, _ => (0, 0)
def lkR (N : Int) : List Int → List (List Int) → Int → List Int → Prop
 | b :: bs, xs :: cs, bb, ys => nxE N bb ys b xs = 0 ∧ lkR N bs cs b xs
 | _, _, _, _ => True
theorem lkE_zero (N : Int) : ∀ (bs : List Int) (cs : List (List Int)) (k : Nat) (bb : Int) (ys : List Int), (lkE N bs cs k bb ys).2 = 0 ↔ lkR N bs cs bb ys
 | [], _, _, _, _ => by simp [lkE, lkR]
 | _ :: _, [], _, _, _ => by simp [lkE, lkR]
 | b :: bs, xs :: cs, k, bb, ys => by
   unfold lkE lkR
   by_cases e : nxE N bb ys b xs ≠ 0
   ·rw [if_pos e]
    exact ⟨fun h => absurd h e, fun h => absurd h.1 e⟩
   ·rw [if_neg e, lkE_zero N bs cs]
    have : nxE N bb ys b xs = 0 := by simpa using e
    exact ⟨fun h => ⟨this, h⟩, fun h => h.2⟩
theorem lkE_at (N : Int) : ∀ (bs : List Int) (cs : List (List Int)) (k : Nat) (bb : Int) (ys : List Int), (lkE N bs cs k bb ys).2 = 0 → (lkE N bs cs k bb ys).1 = 0
 | [], _, _, _, _ => by simp [lkE]
 | _ :: _, [], _, _, _ => by simp [lkE]
 | b :: bs, xs :: cs, k, bb, ys => by
   unfold lkE
   by_cases e : nxE N bb ys b xs ≠ 0
   ·rw [if_pos e]
    exact fun h => absurd h e
   ·rw [if_neg e]
    exact lkE_at N bs cs _ _ _
def nsE (N : Int) (l : List A) (bs : List Int) (cs : List (List Int)) : Int :=
 if chkE N l ≠ 0 then chkE N l else if ¬ (1 ≤ bs.length ∧ bs.length ≤ 5) ∨ cs.length ≠ bs.length then 111 else (lkE N bs cs 0 0 []).2
def nsW (N : Int) (l : List A) (bs : List Int) (cs : List (List Int)) : Nat :=
 if chkE N l ≠ 0 then 0 else if ¬ (1 ≤ bs.length ∧ bs.length ≤ 5) ∨ cs.length ≠ bs.length then 0 else (lkE N bs cs 0 0 []).1
theorem nsW_zero {N : Int} {l : List A} {bs : List Int} {cs : List (List Int)} (h : nsE N l bs cs = 0) : nsW N l bs cs = 0 := by
 unfold nsE at h
 unfold nsW
 split
 ·rfl
 ·rename_i h1
  rw [if_neg h1] at h
  split
  ·rfl
  ·rename_i h2
   rw [if_neg h2] at h
   exact lkE_at _ _ _ _ _ _ h
def NR (N : Int) (l : List A) (bs : List Int) (cs : List (List Int)) : Prop :=
 chkE N l = 0 ∧ 1 ≤ bs.length ∧ bs.length ≤ 5 ∧ cs.length = bs.length ∧ lkR N bs cs 0 []
theorem nsE_zero {N : Int} {l : List A} {bs : List Int} {cs : List (List Int)} : nsE N l bs cs = 0 ↔ NR N l bs cs := by
 unfold nsE NR
 constructor
 ·intro h
  split at h
  ·rename_i h1; exact absurd h h1
  ·rename_i h1
   split at h
   ·cases h
   ·rename_i h2
    have h3 : (1 ≤ bs.length ∧ bs.length ≤ 5) ∧ cs.length = bs.length := by omega
    exact ⟨by omega, h3.1.1, h3.1.2, h3.2, (lkE_zero _ _ _ _ _ _).1 h⟩
 ·rintro ⟨h1, h2, h3, h4, h5⟩
  rw [if_neg (by omega), if_neg (by omega)]
  exact (lkE_zero _ _ _ _ _ _).2 h5
def lvl (cs : List (List Int)) (k : Nat) : List Int := cs.getD k []
theorem lkR_at {N : Int} : ∀ {bs : List Int} {cs : List (List Int)} {bb : Int} {ys : List Int}, lkR N bs cs bb ys → ∀ k, k < bs.length → k < cs.length → nxE N (if k = 0 then bb else bs.getD (k - 1) 0) (if k = 0 then ys else lvl cs (k - 1)) (bs.getD k 0) (lvl cs k) = 0
 | [], _, _, _, _, k, h, _ => absurd h (by simp)
 | _ :: _, [], _, _, _, k, _, h => absurd h (by simp)
 | b :: bs, xs :: cs, bb, ys, h, k, hk, hc => by
   obtain ⟨h1, h2⟩ := h
   cases k with
   | zero => exact h1
   | succ k =>
     have ih := lkR_at h2 k (by simpa using hk) (by simpa using hc)
     rw [if_neg (by omega), if_neg (by omega)]
     cases k with
     | zero => exact ih
     | succ k =>
       rw [if_neg (by omega), if_neg (by omega)] at ih
       exact ih
theorem NR.lv {N : Int} {l : List A} {bs : List Int} {cs : List (List Int)} (h : NR N l bs cs) {k : Nat} (hk : k < bs.length) : ((lvl cs k).length : Int) = N ∧ tdy (lvl cs k) 0 = true ∧ wdB (szL (lvl cs k)) (bs.getD k 0) = true ∧ bs.getD k 0 ≤ 1024 := by
 obtain ⟨_, _, _, h4, h5⟩ := h
 have := nxE_zero (lkR_at h5 k hk (by omega))
 exact ⟨this.2.2.1, this.2.2.2.1, this.2.2.2.2.1, this.2.1⟩
theorem NR.nst {N : Int} {l : List A} {bs : List Int} {cs : List (List Int)} (h : NR N l bs cs) {k : Nat} (hk : k + 1 < bs.length) : Nst (lvl cs k) (lvl cs (k + 1)) := by
 obtain ⟨_, _, _, h4, h5⟩ := h
 have := nxE_zero (lkR_at h5 (k + 1) hk (by omega))
 rw [if_neg (by omega), if_neg (by omega)] at this
 exact this.2.2.2.2.2
def lb (L : List Int) (v : Int) : Int := L.getD v.toNat 0
def prt (L : List Int) (x : A) : Bool := decide (lb L x.f ≠ lb L x.t)
def hld (L : List Int) (q : Int) (x : A) : Bool := decide (lb L x.f = q ∧ lb L x.t = q)
def cho (p : Nat → Bool) (k : Nat) : List Nat := (List.range k).filter p
theorem cho_t {p : Nat → Bool} {k : Nat} (h : p k = true) : cho p (k + 1) = cho p k ++ [k] := by
 simp [cho, List.range_succ, List.filter_append, h]
theorem cho_f {p : Nat → Bool} {k : Nat} (h : p k = false) : cho p (k + 1) = cho p k := by
 simp [cho, List.range_succ, List.filter_append, h]
theorem cho_len (p : Nat → Bool) (k : Nat) : (cho p k).length ≤ k := by
 have := List.length_filter_le p (List.range k)
 simpa [cho] using this
theorem cho_mem {p : Nat → Bool} {k v : Nat} : v ∈ cho p k ↔ v < k ∧ p v = true := by simp [cho]
theorem cho_congr {p q : Nat → Bool} {k : Nat} (h : ∀ v, v < k → p v = q v) : cho p k = cho q k := by
 unfold cho
 exact List.filter_congr (fun v hv => h v (by simpa using hv))
def crs (L : List Int) (l : List A) (k v : Nat) : Bool := (l.take k).any (fun x => prt L x && (decide (x.f.toNat = v) || decide (x.t.toNat = v)))
theorem take_snocA {l : List A} {k : Nat} (h : k < l.length) : l.take (k + 1) = l.take k ++ [l.getD k A.zero] := by
 rw [List.take_add_one]
 simp [List.getD, List.getElem?_eq_getElem h]
theorem crs_f {L : List Int} {l : List A} {k : Nat} (hk : k < l.length) (h : prt L (l.getD k A.zero) = false) (v : Nat) : crs L l (k + 1) v = crs L l k v := by
 unfold crs
 rw [take_snocA hk, List.any_append]
 simp only [List.any_cons, List.any_nil, Bool.or_false, h, Bool.false_and]
theorem crs_t {L : List Int} {l : List A} {k : Nat} (hk : k < l.length) (h : prt L (l.getD k A.zero) = true) (v : Nat) : crs L l (k + 1) v = if v = (l.getD k A.zero).t.toNat then true else if v = (l.getD k A.zero).f.toNat then true else crs L l k v := by
 unfold crs
 rw [take_snocA hk, List.any_append]
 by_cases h1 : v = (l.getD k A.zero).t.toNat
 ·rw [if_pos h1]; simp only [List.any_cons, List.any_nil, Bool.or_false, h, Bool.true_and]; rw [h1]; simp
 ·rw [if_neg h1]
  by_cases h2 : v = (l.getD k A.zero).f.toNat
  ·rw [if_pos h2]; simp only [List.any_cons, List.any_nil, Bool.or_false, h, Bool.true_and]; rw [h2]; simp
  ·rw [if_neg h2]
   have e1 : decide ((l.getD k A.zero).t.toNat = v) = false := decide_eq_false (fun e => h1 e.symm)
   have e2 : decide ((l.getD k A.zero).f.toNat = v) = false := decide_eq_false (fun e => h2 e.symm)
   simp only [List.any_cons, List.any_nil, Bool.or_false, h, Bool.true_and, e1, e2]
def bdP (L : List Int) (l : List A) (q : Int) (v : Nat) : Bool := decide (L.getD v 0 = q) && crs L l l.length v
def bdL (n : Nat) (L : List Int) (l : List A) (q : Int) : List Nat := cho (bdP L l q) n
def arP (l : List A) (p : A → Bool) (i : Nat) : Bool := p (l.getD i A.zero)
def arL (l : List A) (p : A → Bool) : List Nat := cho (arP l p) l.length
def btP (L M : List Int) (q : Int) (x : A) : Bool := hld L q x && prt M x
def tcP (L : List Int) (l : List A) (ids : List Int) (k c : Nat) : Bool := (ids.take k).any (fun i => !prt L (l.getD i.toNat A.zero) && decide ((lb L (l.getD i.toNat A.zero).f).toNat = c))
theorem tcP_f {L : List Int} {l : List A} {ids : List Int} {k : Nat} (hk : k < ids.length) (h : prt L (l.getD (ids.getD k 0).toNat A.zero) = true) (c : Nat) : tcP L l ids (k + 1) c = tcP L l ids k c := by
 unfold tcP
 rw [take_snocI hk, List.any_append]
 simp only [List.any_cons, List.any_nil, Bool.or_false, h, Bool.not_true, Bool.false_and]
theorem tcP_t {L : List Int} {l : List A} {ids : List Int} {k : Nat} (hk : k < ids.length) (h : prt L (l.getD (ids.getD k 0).toNat A.zero) = false) (c : Nat) : tcP L l ids (k + 1) c = if c = (lb L (l.getD (ids.getD k 0).toNat A.zero).f).toNat then true else tcP L l ids k c := by
 unfold tcP
 rw [take_snocI hk, List.any_append]
 simp only [List.any_cons, List.any_nil, Bool.or_false, h, Bool.not_false, Bool.true_and]
 by_cases h1 : c = (lb L (l.getD (ids.getD k 0).toNat A.zero).f).toNat
 ·rw [if_pos h1, h1]; simp
 ·rw [if_neg h1, decide_eq_false (fun e => h1 e.symm)]; simp
def tcL (n : Nat) (L : List Int) (l : List A) (ids : List Int) : List Nat := cho (tcP L l ids ids.length) n
theorem dec_ne (a b : Int) : decide (a ≠ b) = (a != b) := by
 by_cases h : a = b <;> simp [h]
def inA (m : Nat) (x : A) : Prop := (0 ≤ x.f ∧ x.f < m) ∧ (0 ≤ x.t ∧ x.t < m)
set_option maxHeartbeats 1600000 in
theorem ceHold_any (a : Option Addr) (L : List Int) (c : Nat) (q : Int) (x : A) (w : World) (hx : inA L.length x) (hL : L.length ≤ 1024) (hi : Ints w a L) :
  Calls Tryz.prog 86 #[.slice a L.length c, .int .i64 q, .agg #[.int .i64 x.f, .int .i64 x.t, .int .u32 x.w]] w fun e w' => e = .returned (.bool (hld L q x)) ∧ Below w.heap.size w w' := by
 have hb0 : Below w.heap.size w (w.alloc (.cells #[.int .i64 x.f, .int .i64 x.t, .int .u32 x.w] 109)) := (Below.refl _ _).alloc (Nat.le_refl _) _
 have hg := heap_top w (.cells #[.int .i64 x.f, .int .i64 x.t, .int .u32 x.w] 109)
 obtain ⟨c0, c1, c2⟩ := three_cells hg
 obtain ⟨⟨x0, x1⟩, x2, x3⟩ := hx
 obtain ⟨ix, ox, hix⟩ := (hi.on hb0).get
 obtain ⟨rfl, _, hat⟩ := hix (by omega)
 obtain ⟨u, hu⟩ : ∃ u : Nat, x.f = u := ⟨x.f.toNat, by omega⟩
 obtain ⟨v, hv⟩ : ∃ v : Nat, x.t = v := ⟨x.t.toNat, by omega⟩
 have d1 := hat u (by omega)
 have d2 := hat v (by omega)
 have HB0 := hid hb0
 have hu' : (u : Int) < L.length := by omega
 have hv' : (v : Int) < L.length := by omega
 have HV : Hid (hld L q x = decide (L.getD u 0 = q ∧ L.getD v 0 = q)) := by
  show _ = _
  unfold hld lb
  rw [hu, hv, Int.toNat_natCast, Int.toNat_natCast]
 rw [HV.out]
 rw [hu, hv] at c0 c1 c2 hg HB0
 rw [hu, hv] at d1 d2
 rw [hu, hv]
 generalize x.w = xw at *
 generalize L.getD u 0 = y at *
 generalize L.getD v 0 = z at *
 clear hix hat hi hg hb0 HV
 generalize hp : w.heap.size = p at *
 by_cases h1 : y = q
 ·have e1 : (y == q) = true := by simpa using h1
  by_cases h2 : z = q
  ·have e2 : (z == q) = true := by simpa using h2
   rw [decide_eq_true ⟨h1, h2⟩]
   clear h1 h2
   go_enter Tryz.func86, Tryz.ntmps86
   go_wp2_with fail
   go_ret
   exact ⟨rfl, HB0.out⟩
  ·have e2 : (z == q) = false := by simpa using h2
   rw [decide_eq_false (fun h => h2 h.2)]
   clear h1 h2
   go_enter Tryz.func86, Tryz.ntmps86
   go_wp2_with fail
   go_ret
   exact ⟨rfl, HB0.out⟩
 ·have e1 : (y == q) = false := by simpa using h1
  rw [decide_eq_false (fun h => h1 h.1)]
  clear h1
  go_enter Tryz.func86, Tryz.ntmps86
  go_wp2_with fail
  go_ret
  exact ⟨rfl, HB0.out⟩
set_option maxHeartbeats 1600000 in
theorem cePart_any (a : Option Addr) (L : List Int) (c : Nat) (x : A) (w : World) (hx : inA L.length x) (hL : L.length ≤ 1024) (hi : Ints w a L) :
  Calls Tryz.prog 90 #[.slice a L.length c, .agg #[.int .i64 x.f, .int .i64 x.t, .int .u32 x.w]] w fun e w' => e = .returned (.bool (prt L x)) ∧ Below w.heap.size w w' := by
 have hb0 : Below w.heap.size w (w.alloc (.cells #[.int .i64 x.f, .int .i64 x.t, .int .u32 x.w] 109)) := (Below.refl _ _).alloc (Nat.le_refl _) _
 have hg := heap_top w (.cells #[.int .i64 x.f, .int .i64 x.t, .int .u32 x.w] 109)
 obtain ⟨c0, c1, c2⟩ := three_cells hg
 obtain ⟨⟨x0, x1⟩, x2, x3⟩ := hx
 obtain ⟨ix, ox, hix⟩ := (hi.on hb0).get
 obtain ⟨rfl, _, hat⟩ := hix (by omega)
 obtain ⟨u, hu⟩ : ∃ u : Nat, x.f = u := ⟨x.f.toNat, by omega⟩
 obtain ⟨v, hv⟩ : ∃ v : Nat, x.t = v := ⟨x.t.toNat, by omega⟩
 have d1 := hat u (by omega)
 have d2 := hat v (by omega)
 have HB0 := hid hb0
 have hu' : (u : Int) < L.length := by omega
 have hv' : (v : Int) < L.length := by omega
 have HV : Hid (prt L x = (L.getD u 0 != L.getD v 0)) := by
  show _ = _
  unfold prt lb
  rw [hu, hv, Int.toNat_natCast, Int.toNat_natCast]
  exact dec_ne _ _
 rw [HV.out]
 rw [hu, hv] at c0 c1 c2 hg HB0
 rw [hu, hv] at d1 d2
 rw [hu, hv]
 generalize x.w = xw at *
 generalize L.getD u 0 = y at *
 generalize L.getD v 0 = z at *
 clear hix hat hi hg hb0 HV
 generalize hp : w.heap.size = p at *
 go_enter Tryz.func90, Tryz.ntmps90
 go_wp2_with fail
 generalize hW : w.alloc (.cells #[.int .i64 u, .int .i64 v, .int .u32 xw] 109) = W at *
 clear hW
 go_quiet (fail)
 go_wp2_with fail
 go_ret
 exact ⟨rfl, HB0.out.trans (below_drewN _ _ _)⟩
end Go.Proofs.YtaafkpojjdjphaaGreat
