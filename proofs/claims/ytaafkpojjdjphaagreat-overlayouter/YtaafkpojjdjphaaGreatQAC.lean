import Derived.Test.YtaafkpojjdjphaaGreatQAB
open Go.Lib (hid)
set_option maxRecDepth 100000
namespace Go.Proofs.YtaafkpojjdjphaaGreat
open Go.RowKit
def boV (P : Nat → Bool) : Nat → Value := fun v => .bool (P v)
theorem boV_set (P : Nat → Bool) (x : Nat) (b : Bool) : updV (boV P) x (.bool b) = boV (fun v => if v = x then b else P v) := by
 funext v
 unfold updV boV
 by_cases h : v = x <;> simp [h]
theorem Arcs.get {w : World} {a : Option Addr} {l : List A} (h : Arcs w a l) : ∃ b o, 0 < l.length → a = some ⟨b, o, none⟩ ∧ b < w.heap.size ∧ ∀ j, j < l.length → (l.getD j A.zero).at w b (o + j * 3) := by
 rcases h with rfl | ⟨b, o, h⟩
 ·exact ⟨0, 0, fun h => absurd h (by simp)⟩
 ·exact ⟨b, o, fun _ => h⟩
theorem chk_in {n : Nat} {l : List A} (h : chkE n l = 0) {j : Nat} (hj : j < l.length) : inA n (l.getD j A.zero) := (chk_zero h).2.2.2 _ (by rw [show l.getD j A.zero = l[j] by simp [List.getD, List.getElem?_eq_getElem hj]]; exact List.getElem_mem hj)
set_option maxHeartbeats 1600000 in
theorem crossed_any (b : Option Addr) (L : List Int) (bc : Nat) (a : Option Addr) (l : List A) (cap : Nat) (w : World) (hC : chkE L.length l = 0) (hr : Arcs w a l) (hi : Ints w b L) :
  Calls Tryz.prog 195 #[.slice b L.length bc, .agg #[.int .i64 L.length, .slice a l.length cap]] w fun e w' => ∃ g, e = .returned (.slice (some ⟨g, 0, none⟩) L.length L.length) ∧ w.heap.size ≤ g ∧ TbV w' g L.length 4 (boV (crs L l l.length)) ∧ Below w.heap.size w w' := by
 have hb0 : Below w.heap.size w (w.alloc (.cells #[.int .i64 L.length, .slice a l.length cap] 24)) := (Below.refl _ _).alloc (Nat.le_refl _) _
 have hg := heap_top w (.cells #[.int .i64 L.length, .slice a l.length cap] 24)
 obtain ⟨⟨c0, c1⟩, _⟩ := two_cells hg
 have hL : L.length ≤ 1024 := by have := (chk_zero hC).2.1; omega
 have hl8 : l.length ≤ 8192 := (chk_zero hC).2.2.1
 obtain ⟨i4, hi4, hz4, hs4, hby4⟩ := info_parts info4
 have hmk : ∀ w, (Instr.makeSlice 160 (.int .i64 L.length) (.int .i64 L.length)).run Tryz.prog w = .ok (.slice (some ⟨w.heap.size, 0, none⟩) L.length L.length) (w.alloc (.cells ((List.range L.length).map (fun _ => Value.bool false)).toArray 4)) := fun w => by
  have := run_make (P := Tryz.prog) w 160 4 i4 (.bool false) Tryz.underlying160 hi4 hz4 .i64 .i64 L.length L.length (by omega) (by omega) (by rw [hby4]; omega) (by omega)
  rw [hs4] at this
  rw [this, Int.toNat_natCast, made_bool]
 obtain ⟨ix, ox, hix⟩ := hr.get
 have HIX := hid hix
 have HIN : Hid (∀ j, j < l.length → inA L.length (l.getD j A.zero)) := fun j hj => chk_in hC hj
 have HI := hid hi
 have HB0 := hid hb0
 clear hr hi hix hC hb0
 obtain ⟨n, HN⟩ := named L.length
 rw [HN.out] at hmk HB0 c0 c1 hg HIN hL
 rw [HN.out]
 generalize hp : w.heap.size = p at *
 go_enter Tryz.func195, Tryz.ntmps195
 go_wp2_with fail
 have hw1 : (w.alloc (.cells #[.int .i64 n, .slice a l.length cap] 24)).heap.size = p + 1 := by simp [hp]
 generalize hW : (w.alloc (.cells #[.int .i64 n, .slice a l.length cap] 24)) = W at *
 clear hW hg
 have HT0 : Hid (TbV (W.alloc (.cells ((List.range n).map (fun _ => Value.bool false)).toArray 4)) (p + 1) n 4 (boV (crs L l 0))) := by
  have h := heap_top W (.cells ((List.range n).map (fun _ => Value.bool false)).toArray 4)
  rw [hw1] at h
  show TbV _ _ _ _ _
  unfold TbV
  rw [h]
  congr 3
 have HB1 : Hid (Below p w (W.alloc (.cells ((List.range n).map (fun _ => Value.bool false)).toArray 4))) := HB0.out.alloc (by omega) _
 generalize W.alloc (.cells ((List.range n).map (fun _ => Value.bool false)).toArray 4) = V at *
 clear c0 c1 HB0 hw1 hmk
 go_loopw [14] (fun i wr => ∃ (k : Nat), k ≤ l.length ∧ i = .int .i64 k ∧ Hid (TbV wr (p + 1) n 4 (boV (crs L l k))) ∧ Hid (Below p w wr)) (fun i _ => l.length - (intOf i).toNat)
 case atStart => exact ⟨0, Nat.zero_le _, rfl, HT0, HB1⟩
 case round =>
  obtain ⟨k, hk, rfl, HT, HBR⟩ := hrel
  have hwr : p + 1 < wr.heap.size := HT.out.lt
  by_cases hlk : k < l.length
  ·obtain ⟨rfl, hbl, hat⟩ := HIX.out (by omega)
   have hlk' : (k : Int) < l.length := by omega
   obtain ⟨x0, x1, x2⟩ := hat k hlk
   have y0 := (HBR.out.cell (p := ⟨ix, ox + k * 3, none⟩) (hp ▸ hbl)).trans x0
   have y1 := (HBR.out.cell (p := ⟨ix, ox + k * 3 + 1, none⟩) (hp ▸ hbl)).trans x1
   have y2 := (HBR.out.cell (p := ⟨ix, ox + k * 3 + 2, none⟩) (hp ▸ hbl)).trans x2
   have hin := HIN.out k hlk
   have HCT := hid (crs_t (L := L) hlk)
   have HCF := hid (crs_f (L := L) hlk)
   generalize l.getD k A.zero = x at *
   obtain ⟨xf, xt, xw⟩ := x
   obtain ⟨⟨f0, f1⟩, t0, t1⟩ := hin
   simp only at f0 f1 t0 t1 y0 y1 y2
   obtain ⟨u, rfl⟩ : ∃ u : Nat, xf = u := ⟨xf.toNat, by omega⟩
   obtain ⟨v, rfl⟩ : ∃ v : Nat, xt = v := ⟨xt.toNat, by omega⟩
   have HPT := hid (fun W2 (hb : Below p w W2) => cePart_any b L bc ⟨u, v, xw⟩ W2 (by rw [HN.out]; exact ⟨⟨f0, f1⟩, t0, t1⟩) (by rw [HN.out]; exact hL) (HI.out.on (hp ▸ hb)))
   rw [HN.out] at HPT
   obtain ⟨P, HP⟩ := named (prt L ⟨u, v, xw⟩)
   have HPT : Hid (∀ W2, Below p w W2 → Calls Tryz.prog 90 #[.slice b n bc, .agg #[.int .i64 u, .int .i64 v, .int .u32 xw]] W2 fun e w' => e = .returned (.bool P) ∧ Below W2.heap.size W2 w') := by
    intro W2 hb
    have := HPT.out W2 hb
    rw [HP.out] at this
    exact this
   clear x0 x1 x2 hat
   have HB2 : Hid (Below p w (wr.alloc (.cells #[.int .i64 u, .int .i64 v, .int .u32 xw] 109))) := HBR.out.alloc (by omega) _
   have HG2 := hid (heap_top wr (.cells #[.int .i64 u, .int .i64 v, .int .u32 xw] 109))
   have HT2 : Hid (TbV (wr.alloc (.cells #[.int .i64 u, .int .i64 v, .int .u32 xw] 109)) (p + 1) n 4 (boV (crs L l k))) := HT.out.same (Below.heap_alloc _ _ _ hwr)
   go_wp2_with fail
   refine (HPT.out _ HB2.out).mono ?_
   rintro e w2 ⟨rfl, hb2⟩
   have HT3 : Hid (TbV w2 (p + 1) n 4 (boV (crs L l k))) := HT2.out.same (hb2.block _ HT2.out.lt)
   have hG3 := (hb2.block _ (lt_of_block HG2.out)).trans HG2.out
   obtain ⟨z0, z1, z2⟩ := three_cells hG3
   have HB3 : Hid (Below p w w2) := HB2.out.trans (hb2.mono (by simp; omega))
   have hq : p + 1 < wr.heap.size := hwr
   clear HG2 HT2 HB2 hb2 y0 y1 y2
   generalize wr.heap.size = q at *
   rcases P with _ | _
   ·have HTN : Hid (TbV w2 (p + 1) n 4 (boV (crs L l (k + 1)))) := HT3.out.congr (fun v _ => by show Value.bool _ = Value.bool _; rw [HCF.out HP.out])
    go_wp2_with fail
    exact ⟨⟨k + 1, by omega, by simp, HTN, HB3⟩, by simp [intOf]; omega⟩
   ·have q0 := HT3.out.free u
    have r0 := HT3.out.cell (v := u) (by omega)
    have HTS := hid (HT3.out.set u (.bool true))
    have q1 := HTS.out.free v
    have r1 := HTS.out.cell (v := v) (by omega)
    have HTN : Hid (TbV ((w2.setCell ⟨p + 1, u, none⟩ (.bool true)).setCell ⟨p + 1, v, none⟩ (.bool true)) (p + 1) n 4 (boV (crs L l (k + 1)))) := (HTS.out.set v (.bool true)).congr (fun y _ => by
     rw [boV_set, boV_set]
     show Value.bool _ = Value.bool _
     rw [HCT.out HP.out]
     simp only [Int.toNat_natCast])
    have HBN : Hid (Below p w ((w2.setCell ⟨p + 1, u, none⟩ (.bool true)).setCell ⟨p + 1, v, none⟩ (.bool true))) := (HB3.out.setCell (p := ⟨p + 1, u, none⟩) (by simp) _).setCell (p := ⟨p + 1, v, none⟩) (by simp) _
    go_wp2_with fail
    go_region
    go_wp2_with fail
    exact ⟨⟨k + 1, by omega, by simp, HTN.out.same rfl, HBN.out.drew⟩, by simp [intOf]; omega⟩
  ·have hlk' : ¬ (k : Int) < l.length := by omega
   obtain rfl : k = l.length := by omega
   go_wp2_with fail
   go_ret
   exact ⟨p + 1, rfl, by omega, HT.out, HBR.out⟩
def RowI (w : World) (B : Nat) (v : Option Addr) (xs : List Int) : Prop :=
 (v = none ∧ xs = []) ∨ ∃ g cur, v = some ⟨g, 0, none⟩ ∧ B ≤ g ∧ w.heap[g]? = some (.cells cur 3 (0, 0)) ∧ cur.toList.take xs.length = cellsI xs
theorem rowI_own {w : World} {B : Nat} {a : Option Addr} {c : Nat} {S : List Nat} (h : w.ownsRow B 3 1 (.slice a S.length c) S.length (cellsI (ints S))) : RowI w B a (ints S) := by
 rcases h.2 with ⟨h1, h2⟩ | ⟨g, cap, cur, h1, h2, h3, h4, h5, h6, h7⟩
 ·injection h1 with e1 e2 e3
  exact Or.inl ⟨e1, by simp [ints, List.eq_nil_of_length_eq_zero h2]⟩
 ·injection h1 with e1 e2 e3
  exact Or.inr ⟨g, cur, e1, h2, h3, by rw [ints_len]; simpa using h7⟩
theorem RowI.on {w w' : World} {B : Nat} {v : Option Addr} {xs : List Int} (h : RowI w B v xs) (hb : Below w.heap.size w w') : RowI w' B v xs := by
 rcases h with h | ⟨g, cur, h1, h2, h3, h4⟩
 ·exact Or.inl h
 ·exact Or.inr ⟨g, cur, h1, h2, (hb.block g (lt_of_block h3)).trans h3, h4⟩
theorem RowI.base {w : World} {B C : Nat} {v : Option Addr} {xs : List Int} (h : RowI w B v xs) (hb : C ≤ B) : RowI w C v xs := by
 rcases h with h | ⟨g, cur, h1, h2, h3, h4⟩
 ·exact Or.inl h
 ·exact Or.inr ⟨g, cur, h1, Nat.le_trans hb h2, h3, h4⟩
theorem RowI.ints {w : World} {B : Nat} {v : Option Addr} {xs : List Int} (h : RowI w B v xs) : Ints w v xs := by
 rcases h with ⟨_, h⟩ | ⟨g, cur, h1, h2, h3, h4⟩
 ·exact Or.inl h
 ·refine Or.inr ⟨g, 0, h1, lt_of_block h3, fun j hj => ?_⟩
  have h5 := cellsI_getD xs j hj
  rw [← h4, List.getElem?_take_of_lt hj] at h5
  rw [Nat.zero_add]
  simp only [World.cell?, h3]
  simpa using h5
set_option maxHeartbeats 1600000 in
theorem chosenB_any (n : Nat) (P : Nat → Bool) (u0 u1 u2 : Value) (w : World) (hn : n ≤ 8192) (hF : ∀ k, k < n → ∀ W2, Below w.heap.size w W2 → Calls Tryz.prog 196 #[.int .i64 k, u0, u1, u2] W2 fun e w' => e = .returned (.bool (P k)) ∧ Below W2.heap.size W2 w') :
  Calls Tryz.prog 108 #[.int .i64 n, .func (.func 196) #[] #[u0, u1, u2]] w fun e w' => ∃ v, e = .returned (.slice v (cho P n).length (cho P n).length) ∧ RowI w' w.heap.size v (ints (cho P n)) ∧ Below w.heap.size w w' := by
 obtain ⟨i3, hi3, hz3, hs3, hby3⟩ := info_parts info3
 have HF := hid hF
 clear hF
 have HB0 : Hid (Below w.heap.size w w) := Below.refl _ _
 have HO0 : Hid (w.ownsRow w.heap.size 3 1 (.slice none 0 0) 0 (cellsI (ints []))) := ⟨rfl, Or.inl ⟨rfl, rfl⟩⟩
 generalize hp : w.heap.size = p at *
 go_enter Tryz.func108, Tryz.ntmps108
 go_wp2_with fail
 go_loopw [5, 8] (fun s5 i wr => ∃ (k : Nat) (av : Option Addr) (cv : Nat) (S : List Nat), k ≤ n ∧ i = .int .i64 k ∧ s5 = .slice av S.length cv ∧ S.length ≤ k ∧ S.length ≤ cv ∧ Hid (cho P k = S) ∧ Hid (wr.ownsRow p 3 1 (.slice av S.length cv) S.length (cellsI (ints S))) ∧ Hid (Below p w wr)) (fun _ i _ => n - (intOf i).toNat)
 case atStart => exact ⟨0, _, _, [], Nat.zero_le _, rfl, rfl, Nat.zero_le _, Nat.zero_le _, rfl, HO0, HB0⟩
 case round =>
  obtain ⟨k, av, cv, S, hk, rfl, rfl, hSk, hSc, HS, HOW, HBR⟩ := hrel
  have hwr : p ≤ wr.heap.size := by have := HBR.out.size; omega
  by_cases hlk : k < n
  ·have hlk' : (k : Int) < n := by omega
   have HFK := hid (HF.out k hlk)
   have HT := hid (cho_t (p := P) (k := k))
   have HFF := hid (cho_f (p := P) (k := k))
   obtain ⟨b, HPb⟩ := named (P k)
   rw [HPb.out] at HFK HT HFF
   go_wp2_with fail
   refine (HFK.out wr HBR.out).mono ?_
   rintro e w2 ⟨rfl, hb2⟩
   have HO2 : Hid (w2.ownsRow p 3 1 (.slice av S.length cv) S.length (cellsI (ints S))) := own_on HOW.out hb2
   have HB2 : Hid (Below p w w2) := HBR.out.trans (hb2.mono hwr)
   have hw2 : p ≤ w2.heap.size := by have := hb2.size; omega
   clear HOW HBR hb2 hwr HFK
   rcases b with _ | _
   ·have HS2 : Hid (cho P (k + 1) = S) := (HFF.out rfl).trans HS.out
    clear HT HFF
    go_wp2_with fail
    exact ⟨⟨k + 1, av, cv, S, by omega, by simp, rfl, by omega, hSc, HS2, HO2, HB2⟩, by simp [intOf]; omega⟩
   ·have HS2 : Hid (cho P (k + 1) = S ++ [k]) := (HT.out rfl).trans (by rw [HS.out])
    have HNW := hid (one_new w2 k)
    have HO3 := hid (HO2.out.alloc (.cells #[.int .i64 k] 3))
    have HBZ : Hid (p ≤ (w2.alloc (.cells #[.int .i64 k] 3)).heap.size) := by show _ ≤ _; rw [World.size_alloc]; omega
    have HBB : Hid (Below p w (w2.alloc (.cells #[.int .i64 k] 3))) := HB2.out.alloc (by omega) _
    have HOL : Hid (∀ b, (Value.slice av S.length cv).ownBlock = some b → p ≤ b) := fun b hb => (HO2.out.lt b hb).1
    have HCA : Hid (cellsI (ints S) ++ [.int .i64 k] = cellsI (ints (S ++ [k]))) := by show _ = _; rw [ints_snoc, ← cellsI_snoc]
    have hs8 : S.length ≤ 8192 := by omega
    clear HT HFF
    go_wp2_with (at_builtin; refine wpList_append_own _ rfl (.tmp 14) (.tmp 16) 25 rfl p 3 i3 (.int .i64 0) 1 8 Tryz.underlying25 hi3 hz3 hs3 hby3 rfl (by decide) (.slice av S.length cv) S.length (cellsI (ints S)) rfl HO3.out ⟨w2.heap.size, 0, none⟩ 1 1 [.int .i64 k] rfl rfl HNW.out (one_i64 _) (by unfold maxLen; omega) (by omega) HBZ.out ?_; intro v6 w6 hown6 hgrow6 hnil6; obtain ⟨g6, c6, hv6, _, hc6, _, hm6⟩ := own_shape hown6 (fun e => by have := hnil6.1 e; simp at this); subst hv6; rw [HCA.out] at hown6; have h7 : w6.ownsRow p 3 1 (.slice (some ⟨g6, 0, none⟩) (S ++ [k]).length c6) (S ++ [k]).length (cellsI (ints (S ++ [k]))) := (by rw [List.length_append]; exact hown6); have HO7 := hid h7; have HB6 : Hid (Below p w w6) := HBB.out.grown hgrow6 HBZ.out (fun j hj => HOL.out j hj); clear hown6 hgrow6 hnil6 h7)
    exact ⟨⟨k + 1, some ⟨g6, 0, none⟩, c6, S ++ [k], by omega, by simp, by rw [List.length_append]; rfl, by rw [List.length_append]; simp; omega, by rw [List.length_append]; exact hc6, HS2, HO7, HB6⟩, by simp [intOf]; omega⟩
  ·obtain rfl : k = n := by omega
   have hlk' : ¬ (k : Int) < k := by omega
   have hsc' : (S.length : Int) ≤ cv := by omega
   clear HF
   go_wp2_with fail
   go_ret
   rw [HS.out]
   exact ⟨av, rfl, rowI_own HOW.out, HBR.out⟩
set_option maxHeartbeats 1600000 in
theorem chosenA_any (n : Nat) (P : Nat → Bool) (u0 u1 : Value) (w : World) (hn : n ≤ 8192) (hF : ∀ k, k < n → ∀ W2, Below w.heap.size w W2 → Calls Tryz.prog 156 #[.int .i64 k, u0, u1] W2 fun e w' => e = .returned (.bool (P k)) ∧ Below W2.heap.size W2 w') :
  Calls Tryz.prog 108 #[.int .i64 n, .func (.func 156) #[] #[u0, u1]] w fun e w' => ∃ v, e = .returned (.slice v (cho P n).length (cho P n).length) ∧ RowI w' w.heap.size v (ints (cho P n)) ∧ Below w.heap.size w w' := by
 obtain ⟨i3, hi3, hz3, hs3, hby3⟩ := info_parts info3
 have HF := hid hF
 clear hF
 have HB0 : Hid (Below w.heap.size w w) := Below.refl _ _
 have HO0 : Hid (w.ownsRow w.heap.size 3 1 (.slice none 0 0) 0 (cellsI (ints []))) := ⟨rfl, Or.inl ⟨rfl, rfl⟩⟩
 generalize hp : w.heap.size = p at *
 go_enter Tryz.func108, Tryz.ntmps108
 go_wp2_with fail
 go_loopw [5, 8] (fun s5 i wr => ∃ (k : Nat) (av : Option Addr) (cv : Nat) (S : List Nat), k ≤ n ∧ i = .int .i64 k ∧ s5 = .slice av S.length cv ∧ S.length ≤ k ∧ S.length ≤ cv ∧ Hid (cho P k = S) ∧ Hid (wr.ownsRow p 3 1 (.slice av S.length cv) S.length (cellsI (ints S))) ∧ Hid (Below p w wr)) (fun _ i _ => n - (intOf i).toNat)
 case atStart => exact ⟨0, _, _, [], Nat.zero_le _, rfl, rfl, Nat.zero_le _, Nat.zero_le _, rfl, HO0, HB0⟩
 case round =>
  obtain ⟨k, av, cv, S, hk, rfl, rfl, hSk, hSc, HS, HOW, HBR⟩ := hrel
  have hwr : p ≤ wr.heap.size := by have := HBR.out.size; omega
  by_cases hlk : k < n
  ·have hlk' : (k : Int) < n := by omega
   have HFK := hid (HF.out k hlk)
   have HT := hid (cho_t (p := P) (k := k))
   have HFF := hid (cho_f (p := P) (k := k))
   obtain ⟨b, HPb⟩ := named (P k)
   rw [HPb.out] at HFK HT HFF
   go_wp2_with fail
   refine (HFK.out wr HBR.out).mono ?_
   rintro e w2 ⟨rfl, hb2⟩
   have HO2 : Hid (w2.ownsRow p 3 1 (.slice av S.length cv) S.length (cellsI (ints S))) := own_on HOW.out hb2
   have HB2 : Hid (Below p w w2) := HBR.out.trans (hb2.mono hwr)
   have hw2 : p ≤ w2.heap.size := by have := hb2.size; omega
   clear HOW HBR hb2 hwr HFK
   rcases b with _ | _
   ·have HS2 : Hid (cho P (k + 1) = S) := (HFF.out rfl).trans HS.out
    clear HT HFF
    go_wp2_with fail
    exact ⟨⟨k + 1, av, cv, S, by omega, by simp, rfl, by omega, hSc, HS2, HO2, HB2⟩, by simp [intOf]; omega⟩
   ·have HS2 : Hid (cho P (k + 1) = S ++ [k]) := (HT.out rfl).trans (by rw [HS.out])
    have HNW := hid (one_new w2 k)
    have HO3 := hid (HO2.out.alloc (.cells #[.int .i64 k] 3))
    have HBZ : Hid (p ≤ (w2.alloc (.cells #[.int .i64 k] 3)).heap.size) := by show _ ≤ _; rw [World.size_alloc]; omega
    have HBB : Hid (Below p w (w2.alloc (.cells #[.int .i64 k] 3))) := HB2.out.alloc (by omega) _
    have HOL : Hid (∀ b, (Value.slice av S.length cv).ownBlock = some b → p ≤ b) := fun b hb => (HO2.out.lt b hb).1
    have HCA : Hid (cellsI (ints S) ++ [.int .i64 k] = cellsI (ints (S ++ [k]))) := by show _ = _; rw [ints_snoc, ← cellsI_snoc]
    have hs8 : S.length ≤ 8192 := by omega
    clear HT HFF
    go_wp2_with (at_builtin; refine wpList_append_own _ rfl (.tmp 14) (.tmp 16) 25 rfl p 3 i3 (.int .i64 0) 1 8 Tryz.underlying25 hi3 hz3 hs3 hby3 rfl (by decide) (.slice av S.length cv) S.length (cellsI (ints S)) rfl HO3.out ⟨w2.heap.size, 0, none⟩ 1 1 [.int .i64 k] rfl rfl HNW.out (one_i64 _) (by unfold maxLen; omega) (by omega) HBZ.out ?_; intro v6 w6 hown6 hgrow6 hnil6; obtain ⟨g6, c6, hv6, _, hc6, _, hm6⟩ := own_shape hown6 (fun e => by have := hnil6.1 e; simp at this); subst hv6; rw [HCA.out] at hown6; have h7 : w6.ownsRow p 3 1 (.slice (some ⟨g6, 0, none⟩) (S ++ [k]).length c6) (S ++ [k]).length (cellsI (ints (S ++ [k]))) := (by rw [List.length_append]; exact hown6); have HO7 := hid h7; have HB6 : Hid (Below p w w6) := HBB.out.grown hgrow6 HBZ.out (fun j hj => HOL.out j hj); clear hown6 hgrow6 hnil6 h7)
    exact ⟨⟨k + 1, some ⟨g6, 0, none⟩, c6, S ++ [k], by omega, by simp, by rw [List.length_append]; rfl, by rw [List.length_append]; simp; omega, by rw [List.length_append]; exact hc6, HS2, HO7, HB6⟩, by simp [intOf]; omega⟩
  ·obtain rfl : k = n := by omega
   have hlk' : ¬ (k : Int) < k := by omega
   have hsc' : (S.length : Int) ≤ cv := by omega
   clear HF
   go_wp2_with fail
   go_ret
   rw [HS.out]
   exact ⟨av, rfl, rowI_own HOW.out, HBR.out⟩
set_option maxHeartbeats 1600000 in
theorem chosenS_any (n : Nat) (P : Nat → Bool) (u0 : Value) (w : World) (hn : n ≤ 8192) (hF : ∀ k, k < n → ∀ W2, Below w.heap.size w W2 → Calls Tryz.prog 109 #[.int .i64 k, u0] W2 fun e w' => e = .returned (.bool (P k)) ∧ Below W2.heap.size W2 w') :
  Calls Tryz.prog 108 #[.int .i64 n, .func (.func 109) #[] #[u0]] w fun e w' => ∃ v, e = .returned (.slice v (cho P n).length (cho P n).length) ∧ RowI w' w.heap.size v (ints (cho P n)) ∧ Below w.heap.size w w' := by
 obtain ⟨i3, hi3, hz3, hs3, hby3⟩ := info_parts info3
 have HF := hid hF
 clear hF
 have HB0 : Hid (Below w.heap.size w w) := Below.refl _ _
 have HO0 : Hid (w.ownsRow w.heap.size 3 1 (.slice none 0 0) 0 (cellsI (ints []))) := ⟨rfl, Or.inl ⟨rfl, rfl⟩⟩
 generalize hp : w.heap.size = p at *
 go_enter Tryz.func108, Tryz.ntmps108
 go_wp2_with fail
 go_loopw [5, 8] (fun s5 i wr => ∃ (k : Nat) (av : Option Addr) (cv : Nat) (S : List Nat), k ≤ n ∧ i = .int .i64 k ∧ s5 = .slice av S.length cv ∧ S.length ≤ k ∧ S.length ≤ cv ∧ Hid (cho P k = S) ∧ Hid (wr.ownsRow p 3 1 (.slice av S.length cv) S.length (cellsI (ints S))) ∧ Hid (Below p w wr)) (fun _ i _ => n - (intOf i).toNat)
 case atStart => exact ⟨0, _, _, [], Nat.zero_le _, rfl, rfl, Nat.zero_le _, Nat.zero_le _, rfl, HO0, HB0⟩
 case round =>
  obtain ⟨k, av, cv, S, hk, rfl, rfl, hSk, hSc, HS, HOW, HBR⟩ := hrel
  have hwr : p ≤ wr.heap.size := by have := HBR.out.size; omega
  by_cases hlk : k < n
  ·have hlk' : (k : Int) < n := by omega
   have HFK := hid (HF.out k hlk)
   have HT := hid (cho_t (p := P) (k := k))
   have HFF := hid (cho_f (p := P) (k := k))
   obtain ⟨b, HPb⟩ := named (P k)
   rw [HPb.out] at HFK HT HFF
   go_wp2_with fail
   refine (HFK.out wr HBR.out).mono ?_
   rintro e w2 ⟨rfl, hb2⟩
   have HO2 : Hid (w2.ownsRow p 3 1 (.slice av S.length cv) S.length (cellsI (ints S))) := own_on HOW.out hb2
   have HB2 : Hid (Below p w w2) := HBR.out.trans (hb2.mono hwr)
   have hw2 : p ≤ w2.heap.size := by have := hb2.size; omega
   clear HOW HBR hb2 hwr HFK
   rcases b with _ | _
   ·have HS2 : Hid (cho P (k + 1) = S) := (HFF.out rfl).trans HS.out
    clear HT HFF
    go_wp2_with fail
    exact ⟨⟨k + 1, av, cv, S, by omega, by simp, rfl, by omega, hSc, HS2, HO2, HB2⟩, by simp [intOf]; omega⟩
   ·have HS2 : Hid (cho P (k + 1) = S ++ [k]) := (HT.out rfl).trans (by rw [HS.out])
    have HNW := hid (one_new w2 k)
    have HO3 := hid (HO2.out.alloc (.cells #[.int .i64 k] 3))
    have HBZ : Hid (p ≤ (w2.alloc (.cells #[.int .i64 k] 3)).heap.size) := by show _ ≤ _; rw [World.size_alloc]; omega
    have HBB : Hid (Below p w (w2.alloc (.cells #[.int .i64 k] 3))) := HB2.out.alloc (by omega) _
    have HOL : Hid (∀ b, (Value.slice av S.length cv).ownBlock = some b → p ≤ b) := fun b hb => (HO2.out.lt b hb).1
    have HCA : Hid (cellsI (ints S) ++ [.int .i64 k] = cellsI (ints (S ++ [k]))) := by show _ = _; rw [ints_snoc, ← cellsI_snoc]
    have hs8 : S.length ≤ 8192 := by omega
    clear HT HFF
    go_wp2_with (at_builtin; refine wpList_append_own _ rfl (.tmp 14) (.tmp 16) 25 rfl p 3 i3 (.int .i64 0) 1 8 Tryz.underlying25 hi3 hz3 hs3 hby3 rfl (by decide) (.slice av S.length cv) S.length (cellsI (ints S)) rfl HO3.out ⟨w2.heap.size, 0, none⟩ 1 1 [.int .i64 k] rfl rfl HNW.out (one_i64 _) (by unfold maxLen; omega) (by omega) HBZ.out ?_; intro v6 w6 hown6 hgrow6 hnil6; obtain ⟨g6, c6, hv6, _, hc6, _, hm6⟩ := own_shape hown6 (fun e => by have := hnil6.1 e; simp at this); subst hv6; rw [HCA.out] at hown6; have h7 : w6.ownsRow p 3 1 (.slice (some ⟨g6, 0, none⟩) (S ++ [k]).length c6) (S ++ [k]).length (cellsI (ints (S ++ [k]))) := (by rw [List.length_append]; exact hown6); have HO7 := hid h7; have HB6 : Hid (Below p w w6) := HBB.out.grown hgrow6 HBZ.out (fun j hj => HOL.out j hj); clear hown6 hgrow6 hnil6 h7)
    exact ⟨⟨k + 1, some ⟨g6, 0, none⟩, c6, S ++ [k], by omega, by simp, by rw [List.length_append]; rfl, by rw [List.length_append]; simp; omega, by rw [List.length_append]; exact hc6, HS2, HO7, HB6⟩, by simp [intOf]; omega⟩
  ·obtain rfl : k = n := by omega
   have hlk' : ¬ (k : Int) < k := by omega
   have hsc' : (S.length : Int) ≤ cv := by omega
   clear HF
   go_wp2_with fail
   go_ret
   rw [HS.out]
   exact ⟨av, rfl, rowI_own HOW.out, HBR.out⟩
theorem three_free {w : World} {b : Nat} {u0 u1 u2 : Value} {t : TypeId} (h : w.heap[b]? = some (.cells #[u0, u1, u2] t)) : w.frozen? ⟨b, 0, none⟩ = false ∧ w.frozen? ⟨b, 1, none⟩ = false ∧ w.frozen? ⟨b, 2, none⟩ = false := by
 simp [World.frozen?, h]
theorem set3_at {w : World} {b : Nat} {u0 u1 u2 : Value} {t : TypeId} (h : w.heap[b]? = some (.cells #[u0, u1, u2] t)) (x y z : Value) : (((w.setCell ⟨b, 0, none⟩ x).setCell ⟨b, 1, none⟩ y).setCell ⟨b, 2, none⟩ z).heap[b]? = some (.cells #[x, y, z] t) := by
 have h1 := heap_setCell_same w b 0 _ _ x h
 have h2 := heap_setCell_same _ b 1 _ _ y h1
 exact (heap_setCell_same _ b 2 _ _ z h2).trans (by simp)
theorem top3 (w : World) (o0 o1 o2 : Obj) : (((w.alloc o0).alloc o1).alloc o2).heap[w.heap.size]? = some o0 ∧ (((w.alloc o0).alloc o1).alloc o2).heap[w.heap.size + 1]? = some o1 ∧ (((w.alloc o0).alloc o1).alloc o2).heap[w.heap.size + 1 + 1]? = some o2 ∧ Below w.heap.size w (((w.alloc o0).alloc o1).alloc o2) ∧ (((w.alloc o0).alloc o1).alloc o2).heap.size = w.heap.size + 3 := by
 have s1 : (w.alloc o0).heap.size = w.heap.size + 1 := by simp
 have s2 : ((w.alloc o0).alloc o1).heap.size = w.heap.size + 1 + 1 := by simp
 refine ⟨?_, ?_, ?_, ?_, by simp⟩
 ·exact (Below.heap_alloc _ _ _ (by omega)).trans ((Below.heap_alloc _ _ _ (by omega)).trans (heap_top w o0))
 ·exact (Below.heap_alloc _ _ _ (by omega)).trans (s1 ▸ heap_top (w.alloc o0) o1)
 ·exact s2 ▸ heap_top ((w.alloc o0).alloc o1) o2
 ·exact (((Below.refl _ _).alloc (Nat.le_refl _) _).alloc (by omega) _).alloc (by omega) _
theorem below_set3 {w w' : World} {p b : Nat} (h : Below p w w') (hb : p ≤ b) (x y z : Value) : Below p w (((w'.setCell ⟨b, 0, none⟩ x).setCell ⟨b, 1, none⟩ y).setCell ⟨b, 2, none⟩ z) := ((h.setCell (p := ⟨b, 0, none⟩) hb x).setCell (p := ⟨b, 1, none⟩) hb y).setCell (p := ⟨b, 2, none⟩) hb z
theorem own_set3 {w : World} {p b : Nat} {e : TypeId} {size : Nat} {v : Value} {n : Nat} {xs : List Value} (h : w.ownsRow p e size v n xs) (hb : b < p) (x y z : Value) : (((w.setCell ⟨b, 0, none⟩ x).setCell ⟨b, 1, none⟩ y).setCell ⟨b, 2, none⟩ z).ownsRow p e size v n xs := own_set (own_set (own_set h _ _ hb) _ _ hb) _ _ hb
set_option maxHeartbeats 1600000 in
theorem nsNext_any (n : Nat) (a : Option Addr) (l : List A) (cap : Nat) (ya : Option Addr) (ys : List Int) (yc : Nat) (sv : Option Addr) (sm sc : Nat) (bb b : Int) (xa : Option Addr) (xs : List Int) (xc : Nat) (w : World) (hC : chkE n l = 0) (hx : xs.length ≤ 9223372036854775807) (hy : tdy ys 0 = true) (hyn : ys.length ≤ n) (hsm : sm ≤ 1024) (hr : Arcs w a l) (hi : Ints w xa xs) (hj : Ints w ya ys) :
  Calls Tryz.prog 151 #[.agg #[.slice ya ys.length yc, .slice sv sm sc, .int .i64 bb], .agg #[.int .i64 n, .slice a l.length cap], .int .i64 b, .slice xa xs.length xc] w fun e w' =>
   (nxE n bb ys b xs = 0 → ∃ v c, e = .returned (.tuple #[.agg #[.slice xa xs.length xc, .slice v (szL xs).length c, .int .i64 b], .int .i64 0]) ∧ w'.ownsRow w.heap.size 3 1 (.slice v (szL xs).length c) (szL xs).length (cellsI (ints (szL xs)))) ∧ (nxE n bb ys b xs ≠ 0 → e = .returned (.tuple #[.agg #[.slice none 0 0, .slice none 0 0, .int .i64 0], .int .i64 (nxE n bb ys b xs)])) ∧ Below w.heap.size w w' := by
 obtain ⟨h1n, hn, hl, _⟩ := chk_zero hC
 obtain ⟨hg0, hg1, hg2, hb0, hsz⟩ := top3 w (.cells #[.slice ya ys.length yc, .slice sv sm sc, .int .i64 bb] 145) (.cells #[.int .i64 n, .slice a l.length cap] 24) (.cells #[.slice none 0 0, .slice none 0 0, .int .i64 0] 145)
 have HAR := hid (hr.on hb0)
 have HI := hid (hi.on hb0)
 have HJ := hid (hj.on hb0)
 have HB := hid hb0
 have HG0 := hid hg0
 have HG1 := hid hg1
 have HG2 := hid hg2
 have HC := hid hC
 have HY := hid hy
 obtain ⟨a0, a1, a2⟩ := three_cells hg0
 obtain ⟨E, HE⟩ := named (nxE n bb ys b xs)
 rw [HE.out]
 obtain ⟨S, HS⟩ := named (szL xs)
 rw [HS.out]
 generalize hp : w.heap.size = p at *
 clear hr hi hj hb0 hg0 hg1 hg2 hC hy
 go_enter Tryz.func151, Tryz.ntmps151
 go_wp2_with fail
 generalize hW : (((w.alloc (.cells #[.slice ya ys.length yc, .slice sv sm sc, .int .i64 bb] 145)).alloc (.cells #[.int .i64 n, .slice a l.length cap] 24)).alloc (.cells #[.slice none 0 0, .slice none 0 0, .int .i64 0] 145)) = W at *
 clear hW
 refine (nsBound_any b bb W).mono ?_
 rintro e w' ⟨rfl, rfl⟩
 by_cases k1 : bb < b ∧ b ≤ 1024
 ·rw [decide_eq_true k1]
  clear a0 a1 a2
  obtain ⟨⟨g0, g1⟩, _⟩ := two_cells HG1.out
  have HSZ := hid (sizes_any n a l cap xa xs xc w' (by omega) hx HAR.out HI.out)
  have HSE : Hid (siE n l xs = szE n xs) := by show _ = _; unfold siE; rw [if_neg (by rw [HC.out]; simp)]
  rw [HSE.out] at HSZ
  by_cases k2 : szE n xs = 0
  ·rw [if_pos k2, k2] at HSZ
   have hxt : (xs.length : Int) = n ∧ tdy xs 0 = true := by
    unfold szE at k2
    split at k2
    ·cases k2
    ·rename_i h5; exact ⟨by have := fun c => h5 (.inl c); omega, by simpa using fun c => h5 (.inr c)⟩
   obtain ⟨hxn, hxt⟩ := hxt
   have HXT := hid hxt
   have hxl : xs.length ≤ 1024 := by omega
   have hS1 : (szL xs).length ≤ 1024 := Nat.le_trans (szL_length _) hxl
   rw [HS.out] at HSZ hS1
   go_wp2_with fail
   refine HSZ.out.mono ?_
   rintro e w1 ⟨v1, c1, S', rfl, hown1, rfl, hb1⟩
   have HO1 := hid hown1
   have HB1 : Hid (Below p w w1) := HB.out.trans (hb1.mono (by omega))
   have HI1 := hid (HI.out.on hb1)
   have HJ1 := hid (HJ.out.on hb1)
   have HK0 := hid ((hb1.block p (by omega)).trans HG0.out)
   have HK2 := hid ((hb1.block (p + 1 + 1) (by omega)).trans HG2.out)
   have hz1 := hb1.size
   clear hb1 hown1 g0 g1 HSZ HG0 HG1 HG2 HI HJ HB HAR k2 hxt
   go_wp2_with fail
   have HZ2 : Hid ((w1.alloc (.cells #[.slice xa xs.length xc, .slice v1 S'.length c1, .int .i64 b] 145)).heap[w1.heap.size]? = some (.cells #[.slice xa xs.length xc, .slice v1 S'.length c1, .int .i64 b] 145)) := heap_top _ _
   have hbx : Below w1.heap.size w1 (w1.alloc (.cells #[.slice xa xs.length xc, .slice v1 S'.length c1, .int .i64 b] 145)) := (Below.refl _ _).alloc (Nat.le_refl _) _
   have HO2 := hid (own_on HO1.out hbx)
   have HI2 := hid (HI1.out.on hbx)
   have HJ2 := hid (HJ1.out.on hbx)
   have HB2 : Hid (Below p w (w1.alloc (.cells #[.slice xa xs.length xc, .slice v1 S'.length c1, .int .i64 b] 145))) := HB1.out.trans (hbx.mono (by omega))
   have HL0 := hid ((hbx.block p (by omega)).trans HK0.out)
   have HL2 := hid ((hbx.block (p + 1 + 1) (by omega)).trans HK2.out)
   have hz2 : (w1.alloc (.cells #[.slice xa xs.length xc, .slice v1 S'.length c1, .int .i64 b] 145)).heap.size = w1.heap.size + 1 := by simp
   clear hbx HO1 HI1 HJ1 HB1 HK0 HK2
   generalize hq : w1.heap.size = q at *
   generalize hW2 : w1.alloc (.cells #[.slice xa xs.length xc, .slice v1 S'.length c1, .int .i64 b] 145) = w2 at *
   clear hW2
   have HWD := hid (nsWithin_any (.slice xa xs.length xc) v1 S' c1 b w2 hS1 (own_ints HO2.out rfl))
   refine HWD.out.mono ?_
   rintro e w3 ⟨rfl, hb3⟩
   have HO3 := hid (own_on HO2.out hb3)
   have HI3 := hid (HI2.out.on hb3)
   have HJ3 := hid (HJ2.out.on hb3)
   have HB3 : Hid (Below p w w3) := HB2.out.trans (hb3.mono (by omega))
   have hm0 := (hb3.block p (by omega)).trans HL0.out
   have HM2 := hid ((hb3.block (p + 1 + 1) (by omega)).trans HL2.out)
   have hmq := (hb3.block q (by omega)).trans HZ2.out
   have HMQ := hid hmq
   have hz3 := hb3.size
   obtain ⟨b0, b1, _⟩ := three_cells hm0
   obtain ⟨q0, q1, q2⟩ := three_cells hmq
   clear hb3 HWD HO2 HI2 HJ2 HB2 HL0 HL2 HZ2 hm0 hmq
   obtain ⟨V, HV⟩ := named (wdB S' b)
   rw [HV.out]
   cases V
   ·have HNE : Hid (E = 90) := by
     show E = 90
     rw [← HE.out]
     unfold nxE
     rw [if_neg (fun h => h k1), if_neg (by unfold szE; rw [if_neg (by simp [HXT.out]; omega)]; simp), HS.out, if_pos HV.out]
    clear b0 b1 q0 q1 q2
    obtain ⟨r0, r1, r2⟩ := three_cells HM2.out
    obtain ⟨f0, f1, f2⟩ := three_free HM2.out
    obtain ⟨z0, z1, z2⟩ := three_cells (set3_at HM2.out (.slice none 0 0) (.slice none 0 0) (.int .i64 0))
    go_wp2_with fail
    refine bodyPost_ret (v := .tuple #[.agg #[.slice none 0 0, .slice none 0 0, .int .i64 0], .int .i64 90]) (by simp [results, Tryz.results151, go_sem, z0, z1, z2]) rfl ?_
    exact ⟨fun h => absurd (HNE.out.symm.trans h) (by decide), fun _ => by rw [HNE.out], below_set3 HB3.out (by omega) _ _ _⟩
   ·have HNT := hid (nsNested_any ya ys yc sv sm sc xa xs xc (.slice v1 S'.length c1) w3 (by omega) hsm hxl (by omega) (fun k hk => by
     obtain ⟨y, h1, h2⟩ := right_lt HY.out hk
     have h3 := ls_right HY.out
     rw [← ls_len HY.out] at h2
     exact ⟨y, h1, h2, by have := (h3.2.1 y h2).1; omega⟩) HJ3.out HI3.out)
    rw [inB_nst xs HY.out] at HNT
    go_wp2_with fail
    refine HNT.out.mono ?_
    rintro e w4 ⟨rfl, hb4⟩
    have HO4 := hid (own_on HO3.out hb4)
    have HB4 : Hid (Below p w w4) := HB3.out.trans (hb4.mono (by omega))
    have HN2 := hid ((hb4.block (p + 1 + 1) (by omega)).trans HM2.out)
    have hnq := (hb4.block q (by omega)).trans HMQ.out
    clear hb4 HNT HO3 HI3 HJ3 HB3 HM2 HMQ b0 b1 q0 q1 q2
    obtain ⟨q0, q1, q2⟩ := three_cells hnq
    clear hnq
    by_cases k4 : Nst ys xs
    ·have HNE : Hid (E = 0) := by
      show E = 0
      rw [← HE.out]
      unfold nxE
      rw [if_neg (fun h => h k1), if_neg (by unfold szE; rw [if_neg (by simp [HXT.out]; omega)]; simp), HS.out, if_neg (by rw [HV.out]; simp), if_neg (fun h => h k4)]
     rw [decide_eq_true k4]
     obtain ⟨r0, r1, r2⟩ := three_cells HN2.out
     obtain ⟨f0, f1, f2⟩ := three_free HN2.out
     obtain ⟨z0, z1, z2⟩ := three_cells (set3_at HN2.out (.slice xa xs.length xc) (.slice v1 S'.length c1) (.int .i64 b))
     have HOX := hid (own_base HO4.out (show p ≤ w'.heap.size by omega))
     have HOY : Hid (∀ x y z, (((w4.setCell ⟨p + 1 + 1, 0, none⟩ x).setCell ⟨p + 1 + 1, 1, none⟩ y).setCell ⟨p + 1 + 1, 2, none⟩ z).ownsRow p 3 1 (.slice v1 S'.length c1) S'.length (cellsI (ints S'))) := fun x y z => own_base (own_set3 HO4.out (by omega) x y z) (by omega)
     go_wp2_with fail
     refine bodyPost_ret (v := .tuple #[.agg #[.slice xa xs.length xc, .slice v1 S'.length c1, .int .i64 b], .int .i64 0]) (by simp [results, Tryz.results151, go_sem, z0, z1, z2]) rfl ?_
     exact ⟨fun _ => ⟨v1, c1, rfl, HOY.out _ _ _⟩, fun h => absurd HNE.out h, below_set3 HB4.out (by omega) _ _ _⟩
    ·have HNE : Hid (E = 110) := by
      show E = 110
      rw [← HE.out]
      unfold nxE
      rw [if_neg (fun h => h k1), if_neg (by unfold szE; rw [if_neg (by simp [HXT.out]; omega)]; simp), HS.out, if_neg (by rw [HV.out]; simp), if_pos k4]
     rw [decide_eq_false k4]
     clear q0 q1 q2
     obtain ⟨r0, r1, r2⟩ := three_cells HN2.out
     obtain ⟨f0, f1, f2⟩ := three_free HN2.out
     obtain ⟨z0, z1, z2⟩ := three_cells (set3_at HN2.out (.slice none 0 0) (.slice none 0 0) (.int .i64 0))
     go_wp2_with fail
     refine bodyPost_ret (v := .tuple #[.agg #[.slice none 0 0, .slice none 0 0, .int .i64 0], .int .i64 110]) (by simp [results, Tryz.results151, go_sem, z0, z1, z2]) rfl ?_
     exact ⟨fun h => absurd (HNE.out.symm.trans h) (by decide), fun _ => by rw [HNE.out], below_set3 HB4.out (by omega) _ _ _⟩
  ·have e80 : szE n xs = 80 := by
    unfold szE at k2 ⊢
    split
    ·rfl
    ·rename_i h5; rw [if_neg h5] at k2; exact absurd rfl k2
   have HNE : Hid (E = 80) := by
    show E = 80
    rw [← HE.out]
    unfold nxE
    rw [if_neg (fun h => h k1), if_pos k2, e80]
   rw [if_neg k2, e80] at HSZ
   clear e80 k2
   go_wp2_with fail
   refine HSZ.out.mono ?_
   rintro e w1 ⟨v1, c1, S', rfl, hown1, rfl, hb1⟩
   have HB1 : Hid (Below p w w1) := HB.out.trans (hb1.mono (by omega))
   have HK2 := hid ((hb1.block (p + 1 + 1) (by omega)).trans HG2.out)
   clear hb1 hown1 g0 g1 HSZ HG0 HG1 HG2 HI HJ HB HAR
   obtain ⟨r0, r1, r2⟩ := three_cells HK2.out
   obtain ⟨f0, f1, f2⟩ := three_free HK2.out
   obtain ⟨z0, z1, z2⟩ := three_cells (set3_at HK2.out (.slice none 0 0) (.slice none 0 0) (.int .i64 0))
   go_wp2_with fail
   refine bodyPost_ret (v := .tuple #[.agg #[.slice none 0 0, .slice none 0 0, .int .i64 0], .int .i64 80]) (by simp [results, Tryz.results151, go_sem, z0, z1, z2]) rfl ?_
   exact ⟨fun h => absurd (HNE.out.symm.trans h) (by decide), fun _ => by rw [HNE.out], below_set3 HB1.out (by omega) _ _ _⟩
 ·have HNE : Hid (E = 1) := by
   show E = 1
   rw [← HE.out]
   unfold nxE
   rw [if_pos k1]
  rw [decide_eq_false k1]
  clear a0 a1 a2 k1
  obtain ⟨r0, r1, r2⟩ := three_cells HG2.out
  obtain ⟨f0, f1, f2⟩ := three_free HG2.out
  obtain ⟨z0, z1, z2⟩ := three_cells (set3_at HG2.out (.slice none 0 0) (.slice none 0 0) (.int .i64 0))
  go_wp2_with fail
  refine bodyPost_ret (v := .tuple #[.agg #[.slice none 0 0, .slice none 0 0, .int .i64 0], .int .i64 1]) (by simp [results, Tryz.results151, go_sem, z0, z1, z2]) rfl ?_
  exact ⟨fun h => absurd (HNE.out.symm.trans h) (by decide), fun _ => by rw [HNE.out], below_set3 HB.out (by omega) _ _ _⟩
structure Cl where
 a : Option Addr
 c : Nat
 xs : List Int
def Cl.zero : Cl := ⟨none, 0, []⟩
def Cl.val (x : Cl) : Value := .slice x.a x.xs.length x.c
def cl (C : List Cl) (j : Nat) : Cl := C.getD j Cl.zero
def Rws (w : World) (a : Option Addr) (C : List Cl) : Prop :=
 (C = [] ∨ ∃ b o, a = some ⟨b, o, none⟩ ∧ b < w.heap.size ∧ ∀ j, j < C.length → w.cell? ⟨b, o + j, none⟩ = some (cl C j).val) ∧ ∀ j, j < C.length → Ints w (cl C j).a (cl C j).xs ∧ (cl C j).xs.length ≤ 9223372036854775807
theorem Rws.on {w w' : World} {a : Option Addr} {C : List Cl} (h : Rws w a C) (hb : Below w.heap.size w w') : Rws w' a C := by
 refine ⟨?_, fun j hj => ⟨(h.2 j hj).1.on hb, (h.2 j hj).2⟩⟩
 rcases h.1 with h1 | ⟨b, o, h1, h2, h3⟩
 ·exact .inl h1
 ·exact .inr ⟨b, o, h1, Nat.lt_of_lt_of_le h2 hb.size, fun j hj => (hb.cell (p := ⟨b, o + j, none⟩) h2).trans (h3 j hj)⟩
theorem Rws.get {w : World} {a : Option Addr} {C : List Cl} (h : Rws w a C) : ∃ b o, 0 < C.length → a = some ⟨b, o, none⟩ ∧ b < w.heap.size ∧ ∀ j, j < C.length → w.cell? ⟨b, o + j, none⟩ = some (cl C j).val := by
 rcases h.1 with h1 | ⟨b, o, h1⟩
 ·subst h1; exact ⟨0, 0, fun h => absurd h (by simp)⟩
 ·exact ⟨b, o, fun _ => h1⟩
def csl (C : List Cl) : List (List Int) := C.map Cl.xs
theorem csl_len (C : List Cl) : (csl C).length = C.length := by simp [csl]
theorem csl_at (C : List Cl) (j : Nat) : lvl (csl C) j = (cl C j).xs := by
 unfold lvl csl cl
 by_cases h : j < C.length
 ·simp [List.getD, h]
 ·simp [List.getD, h, Cl.zero]
structure Lv where
 l : Cl
 s : Option Addr
 d : Nat
 b : Int
def Lv.zero : Lv := ⟨Cl.zero, none, 0, 0⟩
def Lv.sz (x : Lv) : Value := .slice x.s (szL x.l.xs).length x.d
def cellsL : List Lv → List Value
 | [] => []
 | x :: r => x.l.val :: x.sz :: .int .i64 x.b :: cellsL r
theorem cellsL_append : ∀ l m : List Lv, cellsL (l ++ m) = cellsL l ++ cellsL m
 | [], m => rfl
 | x :: r, m => by simp [cellsL, cellsL_append r m]
theorem cellsL_at : ∀ (l : List Lv) (j : Nat), j < l.length → (cellsL l)[j * 3]? = some (l.getD j Lv.zero).l.val ∧ (cellsL l)[j * 3 + 1]? = some (l.getD j Lv.zero).sz ∧ (cellsL l)[j * 3 + 2]? = some (.int .i64 (l.getD j Lv.zero).b)
 | [], _, h => absurd h (by simp)
 | x :: r, 0, _ => ⟨rfl, rfl, rfl⟩
 | x :: r, j + 1, h => by
   have := cellsL_at r j (by simpa using h)
   rw [show (j + 1) * 3 = j * 3 + 3 by omega]
   exact this
theorem cellsL_one : ∀ (l : List Lv), ∀ u ∈ cellsL l, u.oneCell' = true
 | [], u, h => by cases h
 | x :: r, u, h => by
   simp only [cellsL, List.mem_cons] at h
   rcases h with rfl | rfl | rfl | h
   ·rfl
   ·rfl
   ·rfl
   ·exact cellsL_one r u h
theorem newsL (w : World) (x : Lv) : ∀ j u, (cellsL [x])[j]? = some u → (w.alloc (.cells #[x.l.val, x.sz, .int .i64 x.b] 145)).cell? ((⟨w.heap.size, 0, none⟩ : Addr).add j) = some u := by
 intro j u hu
 have h := heap_top w (.cells #[x.l.val, x.sz, .int .i64 x.b] 145)
 rw [Go.WideShapes.add_plain, Nat.zero_add]
 generalize w.alloc (.cells #[x.l.val, x.sz, .int .i64 x.b] 145) = W at *
 generalize w.heap.size = b at *
 match j, hu with
 | 0, hu => simp [cellsL] at hu; subst hu; simp [World.cell?, h]
 | 1, hu => simp [cellsL] at hu; subst hu; simp [World.cell?, h]
 | 2, hu => simp [cellsL] at hu; subst hu; simp [World.cell?, h]
 | j + 3, hu => simp [cellsL] at hu
theorem info69 : (Tryz.prog.info? 145).map (fun i => (i.zero, i.size, i.bytes)) = some (some (.agg #[.slice none 0 0, .slice none 0 0, .int .i64 0]), 3, 56) := by kernel_rfl
def LvR (w : World) (g : Nat) (C : List Cl) (bs : List Int) : Prop :=
 g < w.heap.size ∧ ∀ j, j < bs.length → ∃ s d, w.cell? ⟨g, j * 3, none⟩ = some (cl C j).val ∧ w.cell? ⟨g, j * 3 + 1, none⟩ = some (.slice s (szL (cl C j).xs).length d) ∧ w.cell? ⟨g, j * 3 + 2, none⟩ = some (.int .i64 (bs.getD j 0)) ∧ Ints w s (ints (szL (cl C j).xs))
theorem LvR.on {w w' : World} {g : Nat} {C : List Cl} {bs : List Int} (h : LvR w g C bs) (hb : Below w.heap.size w w') : LvR w' g C bs := by
 refine ⟨Nat.lt_of_lt_of_le h.1 hb.size, fun j hj => ?_⟩
 obtain ⟨s, d, h1, h2, h3, h4⟩ := h.2 j hj
 exact ⟨s, d, (hb.cell (p := ⟨g, j * 3, none⟩) h.1).trans h1, (hb.cell (p := ⟨g, j * 3 + 1, none⟩) h.1).trans h2, (hb.cell (p := ⟨g, j * 3 + 2, none⟩) h.1).trans h3, h4.on hb⟩
def LvS (w : World) (B : Nat) (C : List Cl) (bs : List Int) (Ls : List Lv) : Prop :=
 ∀ j, j < Ls.length → (Ls.getD j Lv.zero).l = cl C j ∧ (Ls.getD j Lv.zero).b = bs.getD j 0 ∧ w.ownsRow B 3 1 (Ls.getD j Lv.zero).sz (szL (Ls.getD j Lv.zero).l.xs).length (cellsI (ints (szL (Ls.getD j Lv.zero).l.xs)))
theorem LvS.to {w : World} {B g c : Nat} {C : List Cl} {bs : List Int} {Ls : List Lv} (h : LvS w B C bs Ls) (hl : Ls.length = bs.length) (ho : w.ownsRow B 145 3 (.slice (some ⟨g, 0, none⟩) Ls.length c) Ls.length (cellsL Ls)) (h0 : 0 < Ls.length) : LvR w g C bs := by
 have hg : g < w.heap.size := by
  obtain ⟨g', c', h1, _, _, h3, _⟩ := own_shape ho (fun e => by injection e with _ e2 _; omega)
  injection h1 with h1 _ _
  injection h1 with h1
  injection h1 with h1 _ _
  omega
 refine ⟨hg, fun j hj => ?_⟩
 obtain ⟨a1, a2, a3⟩ := h j (by omega)
 obtain ⟨b1, b2, b3⟩ := cellsL_at Ls j (by omega)
 rw [a1] at b1 a3
 rw [a2] at b3
 have e2 : (Ls.getD j Lv.zero).sz = .slice (Ls.getD j Lv.zero).s (szL (cl C j).xs).length (Ls.getD j Lv.zero).d := by unfold Lv.sz; rw [a1]
 rw [e2] at b2 a3
 exact ⟨_, _, (World.ownsRow.cellAt ho (j * 3) (by omega)).trans b1, (World.ownsRow.cellAt ho (j * 3 + 1) (by omega)).trans b2, (World.ownsRow.cellAt ho (j * 3 + 2) (by omega)).trans b3, own_ints a3 rfl⟩
theorem own_kept {w w' : World} {b1 b2 : Nat} {e1 e2 : TypeId} {s1 s2 : Nat} {v1 v2 : Value} {n1 n2 : Nat} {x1 x2 : List Value} (h1 : w.ownsRow b1 e1 s1 v1 n1 x1) (h2 : w.ownsRow b2 e2 s2 v2 n2 x2) (he : e1 ≠ e2) (hg : w.grownBy w' v2.ownBlock) : w'.ownsRow b1 e1 s1 v1 n1 x1 := by
 refine h1.kept hg ?_
 rcases h1.2 with ⟨rfl, _⟩ | ⟨g, c, cur, rfl, _, hg1, _⟩
 ·exact .inl rfl
 ·refine .inr fun e => ?_
  rcases h2.2 with ⟨rfl, _⟩ | ⟨g2, c2, cur2, rfl, _, hg2, _⟩
  ·cases e
  ·injection e with e
   subst e
   rw [hg1] at hg2
   injection hg2 with hg2
   injection hg2 with _ hg2
   exact he hg2

theorem LvS.map {w w' : World} {B : Nat} {C : List Cl} {bs : List Int} {Ls : List Lv} (h : LvS w B C bs Ls) (f : ∀ v n xs, w.ownsRow B 3 1 v n xs → w'.ownsRow B 3 1 v n xs) : LvS w' B C bs Ls := fun j hj => ⟨(h j hj).1, (h j hj).2.1, f _ _ _ (h j hj).2.2⟩
theorem LvS.snoc {w : World} {B : Nat} {C : List Cl} {bs : List Int} {Ls : List Lv} (h : LvS w B C bs Ls) {x : Lv} (hl : x.l = cl C Ls.length) (hb : x.b = bs.getD Ls.length 0) (ho : w.ownsRow B 3 1 x.sz (szL x.l.xs).length (cellsI (ints (szL x.l.xs)))) : LvS w B C bs (Ls ++ [x]) := fun j hj => by
 rw [List.length_append] at hj
 simp only [List.length_cons, List.length_nil] at hj
 by_cases e : j = Ls.length
 ·subst e
  have e2 : (Ls ++ [x]).getD Ls.length Lv.zero = x := by simp [List.getD]
  rw [e2]
  exact ⟨hl, hb, ho⟩
 ·have e2 : (Ls ++ [x]).getD j Lv.zero = Ls.getD j Lv.zero := by simp [List.getD, List.getElem?_append_left (show j < Ls.length by omega)]
  rw [e2]
  exact h j (by omega)
theorem drop_getC {cs : List (List Int)} {k : Nat} (h : k < cs.length) : cs.drop k = lvl cs k :: cs.drop (k + 1) := by
 rw [List.drop_eq_getElem_cons h]
 simp [lvl, List.getD, List.getElem?_eq_getElem h]
end Go.Proofs.YtaafkpojjdjphaaGreat
