/-
  The contract of MinFunc over links. Sizes of labels: split.sizesOf, Sizes and check. Links, and contracts of the rules of choosing. The contract of choosing between two links.
-/
import Derived.Test.YtchfccbneedejaaZAA
namespace Go.Proofs.Ytchfccbneedejaa
open Go.RowKit
/-- Right labels: each has been seen ahead, or is the next one. -/
def tdy : List Int → Int → Bool
  | [], _ => true
  | x :: r, nx => if x < 0 ∨ nx < x then false else tdy r (if x = nx then nx + 1 else nx)
theorem drop_getI {xs : List Int} {k : Nat} (h : k < xs.length) : xs.drop k = xs.getD k 0 :: xs.drop (k + 1) := by
  rw [List.drop_eq_getElem_cons h]
  simp [List.getD, List.getElem?_eq_getElem h]
theorem take_snocI {xs : List Int} {k : Nat} (h : k < xs.length) : xs.take (k + 1) = xs.take k ++ [xs.getD k 0] := by
  rw [List.take_succ_eq_append_getElem h]
  simp [List.getD, List.getElem?_eq_getElem h]
/-- One label more. -/
def szS (S : List Nat) (x : Nat) : List Nat := if x = S.length then S ++ [1] else S.set x (S.getD x 0 + 1)
/-- How many have each label. -/
def szL (xs : List Int) : List Nat := xs.foldl (fun S x => szS S x.toNat) []
theorem szL_snoc (xs : List Int) (x : Int) : szL (xs ++ [x]) = szS (szL xs) x.toNat := by simp [szL]
theorem getD_end (S : List Nat) (x : Nat) : (S ++ [x]).getD S.length 0 = x := by simp [List.getD]
theorem set_end (S : List Nat) (x y : Nat) : (S ++ [x]).set S.length y = S ++ [y] := by simp
theorem getD_le {S : List Nat} {m : Nat} (h : ∀ u, u ∈ S → u ≤ m) (j : Nat) : S.getD j 0 ≤ m := by
  by_cases e : j < S.length
  · exact h _ (by simp [List.getD, List.getElem?_eq_getElem e])
  · simp [List.getD, List.getElem?_eq_none (Nat.le_of_not_lt e)]
theorem szS_le {S : List Nat} {m : Nat} (h : ∀ u, u ∈ S → u ≤ m) (x : Nat) : ∀ u, u ∈ szS S x → u ≤ m + 1 := by
  intro u hu
  unfold szS at hu
  split at hu
  · rcases List.mem_append.1 hu with h1 | h1
    · have := h u h1; omega
    · rw [List.mem_singleton] at h1; omega
  · rcases List.mem_or_eq_of_mem_set hu with h1 | h1
    · have := h u h1; omega
    · have := getD_le h x; omega
theorem szL_le (xs : List Int) : ∀ j, (szL xs).getD j 0 ≤ xs.length := by
  have : ∀ (xs : List Int) (S : List Nat) (m : Nat), (∀ u, u ∈ S → u ≤ m) → ∀ u, u ∈ (xs.foldl (fun S x => szS S x.toNat) S) → u ≤ m + xs.length := by
    intro xs
    induction xs with
    | nil => intro S m h u hu; exact h u hu
    | cons x r ih =>
      intro S m h u hu
      have h2 := ih (szS S x.toNat) (m + 1) (szS_le h _) u hu
      rw [List.length_cons]
      omega
  refine getD_le (fun u hu => ?_)
  have h := this xs [] 0 (fun u hu => by cases hu) u hu
  omega
/-- What is wrong with labels. -/
def szE (N : Int) (xs : List Int) : Int := if (xs.length : Int) ≠ N ∨ tdy xs 0 = false then 80 else 0
/-- A number of a row of our own is turned. -/
theorem own_setI {w : World} {B g c : Nat} {L : List Nat} (h : w.ownsRow B 3 1 (.slice (some ⟨g, 0, none⟩) L.length c) L.length (cellsI (ints L))) (k x : Nat) : (w.setCell ⟨g, k, none⟩ (.int .i64 x)).ownsRow B 3 1 (.slice (some ⟨g, 0, none⟩) (L.set k x).length c) (L.set k x).length (cellsI (ints (L.set k x))) := by
  have h1 := (World.ownsRow.stored h k (.int .i64 x)).1
  have e : (cellsI (ints L)).set k (.int .i64 x) = cellsI (ints (L.set k x)) := by
    unfold cellsI ints
    rw [List.map_map, List.map_map, List.map_set]
    rfl
  rw [e] at h1
  rw [List.length_set]
  exact h1
theorem own_cellI {w : World} {B g c : Nat} {L : List Nat} (h : w.ownsRow B 3 1 (.slice (some ⟨g, 0, none⟩) L.length c) L.length (cellsI (ints L))) {k : Nat} (hk : k < L.length) : w.cell? ⟨g, k, none⟩ = some (.int .i64 ((L.getD k 0 : Nat) : Int)) := by
  rw [World.ownsRow.cellAt h k (by omega), cellsI_getD (ints L) k (by rw [ints_len]; exact hk), ints_getD hk]
set_option maxRecDepth 100000 in
set_option maxHeartbeats 1600000 in
theorem sizesOf_any (N : Int) (s : Value) (b : Option Addr) (xs : List Int) (bc : Nat) (w : World) (hN : N ≤ 1024) (hx : xs.length ≤ 9223372036854775807) (hi : Ints w b xs) :
    Calls Try.prog 34 #[.agg #[.int .i64 N, s], .slice b xs.length bc] w fun e w' => ∃ v c S, e = .returned (.tuple #[.slice v S.length c, .int .i64 (szE N xs)]) ∧ w'.ownsRow w.heap.size 3 1 (.slice v S.length c) S.length (cellsI (ints S)) ∧ S = (if szE N xs = 0 then szL xs else []) ∧ Below w.heap.size w w' := by
  have hb0 : Below w.heap.size w (w.alloc (.cells #[.int .i64 N, s] 24)) := (Below.refl _ _).alloc (Nat.le_refl _) _
  have hg := heap_top w (.cells #[.int .i64 N, s] 24)
  obtain ⟨i3, hi3, hz3, hs3, hby3⟩ := info_parts info3
  obtain ⟨E, HE⟩ := named (szE N xs)
  rw [HE.out]
  obtain ⟨⟨c0, c1⟩, _⟩ := two_cells hg
  have HI := Lib.hid (hi.on hb0)
  have HB0 := Lib.hid hb0
  clear hi hb0
  generalize hp : w.heap.size = p at *
  by_cases hxn : ¬ (xs.length : Int) = N
  · have e1 : ((xs.length : Int) != N) = true := by simpa using hxn
    obtain rfl : E = 80 := by rw [← HE.out]; unfold szE; rw [if_pos (.inl hxn)]
    clear hxn
    go_enter Try.func34, Try.ntmps34
    go_wp2_with fail
    go_ret2
    exact ⟨none, 0, [], rfl, World.ownsRow_nil _ _ _ _, rfl, HB0.out⟩
  have hxn : (xs.length : Int) = N := by simpa using hxn
  subst hxn
  have e1 : ((xs.length : Int) != (xs.length : Int)) = false := by simp
  have hxl : xs.length ≤ 1024 := by omega
  have HEV : Hid (E = if tdy xs 0 = false then 80 else 0) := by
    show _ = _
    rw [← HE.out]
    unfold szE
    by_cases h : tdy xs 0 = false
    · rw [if_pos (.inr h), if_pos h]
    · rw [if_neg (by rintro (h1 | h1); exact h1 rfl; exact h h1), if_neg h]
  obtain ⟨V, HV⟩ := named (tdy xs 0)
  rw [HV.out] at HEV
  go_enter Try.func34, Try.ntmps34
  go_wp2_with fail
  have hWs : (w.alloc (.cells #[.int .i64 xs.length, s] 24)).heap.size = p + 1 := by simp [hp]
  generalize hW : w.alloc (.cells #[.int .i64 xs.length, s] 24) = W at *
  clear hW c0 c1
  have hpz : p < W.heap.size := lt_of_block hg
  obtain ⟨ix, ox, hix⟩ := HI.out.get
  have HIX := Lib.hid hix
  clear hix hg
  go_loopw [6, 16] (fun s6 i wr => ∃ (k : Nat) (av : Option Addr) (cv : Nat) (S : List Nat), k ≤ xs.length ∧ i = .int .i64 k ∧ s6 = .slice av S.length cv ∧ S.length ≤ k ∧ Hid (szL (xs.take k) = S) ∧ Hid (tdy (xs.drop k) S.length = V) ∧ Hid (wr.ownsRow (p + 1) 3 1 (.slice av S.length cv) S.length (cellsI (ints S))) ∧ Hid (Below (p + 1) W wr)) (fun _ i _ => xs.length - (intOf i).toNat)
  case atStart => exact ⟨0, none, 0, [], Nat.zero_le _, rfl, rfl, Nat.zero_le _, rfl, HV, World.ownsRow_nil _ _ _ _, Below.refl _ _⟩
  case round =>
    obtain ⟨k, av, cv, S, hk, rfl, rfl, hSk, HS, HK, HOW, HBR⟩ := hrel
    have hwr : W.heap.size ≤ wr.heap.size := HBR.out.size
    have HBP : Hid (Below p w wr) := HB0.out.trans (HBR.out.mono (by omega))
    by_cases hlk : k < xs.length
    · obtain ⟨rfl, hbl, hat⟩ := HIX.out (by omega)
      have hlk' : (k : Int) < xs.length := by omega
      have y0 := (HBR.out.cell (p := ⟨ix, ox + k, none⟩) (hWs ▸ hbl)).trans (hat k hlk)
      have hk2 := HK.out
      rw [drop_getI hlk] at hk2
      simp only [tdy] at hk2
      have HK2 := Lib.hid hk2
      have HSN : Hid (szL (xs.take (k + 1)) = szS S (xs.getD k 0).toNat) := by show _ = _; rw [take_snocI hlk, szL_snoc, HS.out]
      clear hat hk2
      generalize xs.getD k 0 = x at *
      by_cases h0 : x < 0
      · obtain rfl : E = 80 := by
          have h1 := HK2.out
          rw [if_pos (.inl h0)] at h1
          rw [HEV.out, if_pos h1.symm]
        go_wp2_with fail
        go_ret2
        exact ⟨none, 0, [], rfl, World.ownsRow_nil _ _ _ _, rfl, HBP.out⟩
      · by_cases h1 : (S.length : Int) < x
        · obtain rfl : E = 80 := by
            have h2 := HK2.out
            rw [if_pos (.inr h1)] at h2
            rw [HEV.out, if_pos h2.symm]
          go_wp2_with fail
          go_ret2
          exact ⟨none, 0, [], rfl, World.ownsRow_nil _ _ _ _, rfl, HBP.out⟩
        · rw [if_neg (by omega)] at HK2
          obtain ⟨y, hy⟩ : ∃ y : Nat, x = y := ⟨x.toNat, by omega⟩
          subst hy
          rw [Int.toNat_natCast] at HSN
          by_cases h2 : y = S.length
          · subst h2
            have hq : ((S.length : Int) == (S.length : Int)) = true := by simp
            have HNS : Hid (szS S S.length = S ++ [1]) := if_pos rfl
            rw [HNS.out] at HSN
            rw [if_pos rfl] at HK2
            have HK3 : Hid (tdy (xs.drop (k + 1)) (((S ++ [1]).length : Nat) : Int) = V) := by
              have h3 := HK2.out
              rw [show ((S.length : Int) + 1) = (((S ++ [1]).length : Nat) : Int) by rw [List.length_append]; rfl] at h3
              exact h3
            have HNW := Lib.hid (one_new wr 0)
            have HO2 := Lib.hid (HOW.out.alloc (.cells #[.int .i64 0] 3))
            have HBZ : Hid (p + 1 ≤ (wr.alloc (.cells #[.int .i64 0] 3)).heap.size) := by show _ ≤ _; rw [World.size_alloc]; omega
            have HBB : Hid (Below (p + 1) W (wr.alloc (.cells #[.int .i64 0] 3))) := HBR.out.alloc (by omega) _
            have HOL : Hid (∀ b, (Value.slice av S.length cv).ownBlock = some b → p + 1 ≤ b) := fun b hb => (HOW.out.lt b hb).1
            have HCA : Hid (cellsI (ints S) ++ [.int .i64 0] = cellsI (ints (S ++ [0]))) := by show _ = _; rw [ints_snoc, ← cellsI_snoc]; rfl
            have hs8 : S.length ≤ 1024 := by omega
            go_wp2_with (at_builtin; refine wpList_append_own _ rfl (.tmp 32) (.tmp 33) 25 rfl (p + 1) 3 i3 (.int .i64 0) 1 8 Try.underlying25 hi3 hz3 hs3 hby3 rfl (by decide) (.slice av S.length cv) S.length (cellsI (ints S)) rfl HO2.out ⟨wr.heap.size, 0, none⟩ 1 1 [.int .i64 0] rfl rfl HNW.out (one_i64 _) (by unfold maxLen; omega) (by omega) HBZ.out ?_; intro v6 w6 hown6 hgrow6 hnil6; obtain ⟨g6, c6, hv6, _, hc6, _, hm6⟩ := own_shape hown6 (fun e => by have := hnil6.1 e; simp at this); subst hv6; rw [HCA.out] at hown6; have h7 : w6.ownsRow (p + 1) 3 1 (.slice (some ⟨g6, 0, none⟩) (S ++ [0]).length c6) (S ++ [0]).length (cellsI (ints (S ++ [0]))) := (by rw [List.length_append]; exact hown6); have d1 := own_cellI h7 (k := S.length) (by rw [List.length_append]; simp); have d2 := World.ownsRow.frozenAt h7 S.length; rw [getD_end S 0] at d1; have HO7 := Lib.hid (own_setI h7 S.length 1); have HB6 : Hid (Below (p + 1) W w6) := HBB.out.grown hgrow6 HBZ.out (fun j hj => HOL.out j hj); have hg6 : p + 1 ≤ g6 := (h7.lt g6 rfl).1; have hc6' : ((S.length : Int) + 1) ≤ c6 := (by omega); clear hown6 hgrow6 hnil6 h7)
            rw [set_end S 0 1] at HO7
            refine ⟨⟨k + 1, some ⟨g6, 0, none⟩, c6, S ++ [1], by omega, by simp, by rw [List.length_append]; rfl, by rw [List.length_append]; simp; omega, HSN, HK3, HO7, Lib.hid (HB6.out.setCell hg6 _)⟩, by simp [intOf]; omega⟩
          · have hq : ((y : Int) == (S.length : Int)) = false := by simp; omega
            have hy : y < S.length := by omega
            have hy' : (y : Int) < S.length := by omega
            have HNS : Hid (szS S y = S.set y (S.getD y 0 + 1)) := if_neg h2
            rw [HNS.out] at HSN
            rw [if_neg (by omega)] at HK2
            have HK3 : Hid (tdy (xs.drop (k + 1)) (((S.set y (S.getD y 0 + 1)).length : Nat) : Int) = V) := by rw [List.length_set]; exact HK2
            obtain ⟨g, cg, hv, hg1, _, _, _⟩ := own_shape HOW.out (fun e => by injection e with _ e2 _; omega)
            injection hv with hv1 _ hv3
            subst hv1 hv3
            have d1 := own_cellI HOW.out hy
            have d2 := World.ownsRow.frozenAt HOW.out y
            have HO7 := Lib.hid (own_setI HOW.out y (S.getD y 0 + 1))
            have hsz : (((S.getD y 0 : Nat) : Int) + 1) ≤ 1000000 := by
              have h3 := szL_le (xs.take k) y
              rw [HS.out, List.length_take] at h3
              omega
            generalize S.getD y 0 = sy at *
            clear h2
            go_wp2_with fail
            refine ⟨⟨k + 1, some ⟨g, 0, none⟩, cv, S.set y (sy + 1), by omega, by simp, by rw [List.length_set], by rw [List.length_set]; omega, HSN, HK3, ?_, Lib.hid (HBR.out.setCell hg1 _)⟩, by simp [intOf]; omega⟩
            exact HO7
    · have e0 : xs.drop k = [] := List.drop_eq_nil_of_le (by omega)
      have e2 : xs.take k = xs := List.take_of_length_le (by omega)
      have hlk' : ¬ (k : Int) < xs.length := by omega
      rw [e0] at HK
      rw [e2] at HS
      obtain rfl : E = 0 := by
        have h3 : V = true := HK.out.symm
        rw [HEV.out, h3]; rfl
      clear e0 e2
      go_wp2_with fail
      go_ret2
      exact ⟨av, cv, S, rfl, own_base HOW.out (by omega), HS.out.symm, HBP.out⟩
/-- What Sizes tells. -/
def siE (N : Int) (l : List A) (xs : List Int) : Int := if chkE N l ≠ 0 then chkE N l else szE N xs
set_option maxRecDepth 100000 in
set_option maxHeartbeats 1600000 in
theorem sizes_any (N : Int) (a : Option Addr) (l : List A) (cap : Nat) (b : Option Addr) (xs : List Int) (bc : Nat) (w : World) (hl : l.length ≤ 9223372036854775807) (hx : xs.length ≤ 9223372036854775807) (hr : Arcs w a l) (hi : Ints w b xs) :
    Calls Try.prog 14 #[.agg #[.int .i64 N, .slice a l.length cap], .slice b xs.length bc] w fun e w' => ∃ v c S, e = .returned (.tuple #[.slice v S.length c, .int .i64 (siE N l xs)]) ∧ w'.ownsRow w.heap.size 3 1 (.slice v S.length c) S.length (cellsI (ints S)) ∧ S = (if siE N l xs = 0 then szL xs else []) ∧ Below w.heap.size w w' := by
  have hb0 : Below w.heap.size w (w.alloc (.cells #[.int .i64 N, .slice a l.length cap] 24)) := (Below.refl _ _).alloc (Nat.le_refl _) _
  have hg := heap_top w (.cells #[.int .i64 N, .slice a l.length cap] 24)
  have HR := Lib.hid (hr.on hb0)
  have HI := Lib.hid (hi.on hb0)
  have hwz : w.heap.size ≤ (w.alloc (.cells #[.int .i64 N, .slice a l.length cap] 24)).heap.size := hb0.size
  have HB0 := Lib.hid hb0
  obtain ⟨AT, HAT⟩ := named (chkAt N l)
  obtain ⟨E, HE⟩ := named (chkE N l)
  obtain ⟨R, HRR⟩ := named (if siE N l xs = 0 then szL xs else [])
  rw [HRR.out]
  obtain ⟨G, HG⟩ := named (siE N l xs)
  rw [HG.out] at HRR ⊢
  clear hb0 hr hi
  generalize hp : w.heap.size = p at *
  go_enter Try.func14, Try.ntmps14
  go_wp2_with fail
  generalize hW : w.alloc (.cells #[.int .i64 N, .slice a l.length cap] 24) = W at *
  clear hW
  have hpz : p < W.heap.size := lt_of_block hg
  refine (check_any N a l cap W hl HR.out).mono ?_
  rintro e w1 ⟨rfl, hb1⟩
  have HB1 : Hid (Below p w w1) := HB0.out.trans (hb1.mono hwz)
  have hg1 := (hb1.block p hpz).trans hg
  obtain ⟨⟨c0, c1'⟩, _⟩ := two_cells hg1
  have HI1 := Lib.hid (HI.out.on hb1)
  have hz1 : p < w1.heap.size := lt_of_block hg1
  rw [HE.out, HAT.out]
  clear hb1 HR hg hwz HI
  by_cases hE : E ≠ 0
  · have e1 : (E != 0) = true := by simpa using hE
    obtain rfl : G = E := by rw [← HG.out]; unfold siE; rw [if_pos (by rw [HE.out]; exact hE), HE.out]
    obtain rfl : R = [] := by rw [← HRR.out, if_neg hE]
    go_wp2_with fail
    go_ret2
    exact ⟨none, 0, [], rfl, World.ownsRow_nil _ _ _ _, rfl, HB1.out⟩
  obtain rfl : E = 0 := by omega
  clear hE
  have HGZ : Hid (szE N xs = G) := by show _ = _; rw [← HG.out]; unfold siE; rw [if_neg (by rw [HE.out]; omega)]
  have HSZ := Lib.hid (sizesOf_any N (.slice a l.length cap) b xs bc w1 (by have := (chk_zero HE.out).2.1; omega) hx HI1.out)
  rw [HGZ.out, HRR.out] at HSZ
  go_wp2_with fail
  refine HSZ.out.mono ?_
  rintro e w2 ⟨v2, c2, S, rfl, hown2, hS, hb2⟩
  have HB2 : Hid (Below p w w2) := HB1.out.trans (hb2.mono (by omega))
  have HO2 := Lib.hid (own_base hown2 (Nat.le_of_lt hz1))
  have HS := Lib.hid hS
  clear hb2 hown2 hS
  go_wp2_with fail
  go_ret2
  exact ⟨v2, c2, S, rfl, HO2.out, HS.out, HB2.out⟩
/-- What check tells. -/
def ckE (N : Int) (l : List A) (xs : List Int) (bd : Int) : Int := if siE N l xs ≠ 0 then siE N l xs else if bd < 1 ∨ 1024 < bd then 1 else 0
set_option maxRecDepth 100000 in
set_option maxHeartbeats 1600000 in
theorem scheck_any (N : Int) (a : Option Addr) (l : List A) (cap : Nat) (b : Option Addr) (xs : List Int) (bc : Nat) (bd : Int) (w : World) (hl : l.length ≤ 9223372036854775807) (hx : xs.length ≤ 9223372036854775807) (hr : Arcs w a l) (hi : Ints w b xs) :
    Calls Try.prog 27 #[.agg #[.int .i64 N, .slice a l.length cap], .slice b xs.length bc, .int .i64 bd] w fun e w' => ∃ v c S, e = .returned (.tuple #[.slice v S.length c, .int .i64 (ckE N l xs bd)]) ∧ w'.ownsRow w.heap.size 3 1 (.slice v S.length c) S.length (cellsI (ints S)) ∧ S = (if ckE N l xs bd = 0 then szL xs else []) ∧ Below w.heap.size w w' := by
  have hb0 : Below w.heap.size w (w.alloc (.cells #[.int .i64 N, .slice a l.length cap] 24)) := (Below.refl _ _).alloc (Nat.le_refl _) _
  have hg := heap_top w (.cells #[.int .i64 N, .slice a l.length cap] 24)
  have HR := Lib.hid (hr.on hb0)
  have HI := Lib.hid (hi.on hb0)
  have hwz : w.heap.size ≤ (w.alloc (.cells #[.int .i64 N, .slice a l.length cap] 24)).heap.size := hb0.size
  have HB0 := Lib.hid hb0
  obtain ⟨R, HRR⟩ := named (if ckE N l xs bd = 0 then szL xs else [])
  rw [HRR.out]
  obtain ⟨G, HG⟩ := named (ckE N l xs bd)
  rw [HG.out] at HRR ⊢
  obtain ⟨E, HE⟩ := named (siE N l xs)
  obtain ⟨Z, HZ⟩ := named (if siE N l xs = 0 then szL xs else [])
  have HSZ := Lib.hid (sizes_any N a l cap b xs bc (w.alloc (.cells #[.int .i64 N, .slice a l.length cap] 24)) hl hx HR.out HI.out)
  rw [HZ.out, HE.out] at HSZ
  rw [HE.out] at HZ
  clear hb0 hr hi
  generalize hp : w.heap.size = p at *
  go_enter Try.func27, Try.ntmps27
  go_wp2_with fail
  generalize hW : w.alloc (.cells #[.int .i64 N, .slice a l.length cap] 24) = W at *
  clear hW
  refine HSZ.out.mono ?_
  rintro e w1 ⟨v1, c1, S, rfl, hown1, hS, hb1⟩
  have HB1 : Hid (Below p w w1) := HB0.out.trans (hb1.mono hwz)
  have HO1 := Lib.hid (own_base hown1 hwz)
  have HS := Lib.hid hS
  clear hb1 hg hown1 hS HSZ
  by_cases hE : E ≠ 0
  · have e1 : (E != 0) = true := by simpa using hE
    obtain rfl : G = E := by rw [← HG.out]; unfold ckE; rw [if_pos (by rw [HE.out]; exact hE), HE.out]
    obtain rfl : R = [] := by rw [← HRR.out, if_neg hE]
    go_wp2_with fail
    go_ret2
    exact ⟨none, 0, [], rfl, World.ownsRow_nil _ _ _ _, rfl, HB1.out⟩
  obtain rfl : E = 0 := by omega
  clear hE
  have HGB : Hid (G = if bd < 1 ∨ 1024 < bd then 1 else 0) := by show _ = _; rw [← HG.out]; unfold ckE; rw [if_neg (by rw [HE.out]; omega)]
  by_cases h1 : bd < 1
  · obtain rfl : G = 1 := by rw [HGB.out, if_pos (.inl h1)]
    obtain rfl : R = [] := by rw [← HRR.out]; rfl
    go_wp2_with fail
    go_ret2
    exact ⟨none, 0, [], rfl, World.ownsRow_nil _ _ _ _, rfl, HB1.out⟩
  · by_cases h2 : 1024 < bd
    · obtain rfl : G = 1 := by rw [HGB.out, if_pos (.inr h2)]
      obtain rfl : R = [] := by rw [← HRR.out]; rfl
      go_wp2_with fail
      go_ret2
      exact ⟨none, 0, [], rfl, World.ownsRow_nil _ _ _ _, rfl, HB1.out⟩
    · obtain rfl : G = 0 := by rw [HGB.out, if_neg (by omega)]
      obtain rfl : R = S := by rw [← HRR.out, if_pos rfl, HS.out, ← HZ.out, if_pos rfl]
      go_wp2_with fail
      go_ret2
      exact ⟨v1, c1, R, rfl, HO1.out, rfl, HB1.out⟩
end Go.Proofs.Ytchfccbneedejaa
namespace Go.Proofs.Ytchfccbneedejaa
open Go.RowKit
/-- A link: two labels, and the pairs between them. -/
structure K where
  a : Nat
  b : Nat
  n : Nat
deriving DecidableEq
def K.val (k : K) : Value := .agg #[.int .i64 (k.a : Int), .int .i64 (k.b : Int), .int .i64 (k.n : Int)]
theorem two_below (w : World) (o o' : Obj) : Below w.heap.size w ((w.alloc o).alloc o') := ((Below.refl _ _).alloc (Nat.le_refl _) _).alloc (by simp) _
theorem mostPairs_any (x y : K) (w : World) : Calls Try.prog 41 #[x.val, y.val] w fun e w' => e = .returned (.int .i64 (cmpI y.n x.n)) ∧ Below w.heap.size w w' := by
  have HB := Lib.hid (two_below w (Obj.cells #[Value.int IntKind.i64 x.a, Value.int IntKind.i64 x.b, Value.int IntKind.i64 x.n] 60) (Obj.cells #[Value.int IntKind.i64 y.a, Value.int IntKind.i64 y.b, Value.int IntKind.i64 y.n] 60))
  unfold K.val
  go_enter Try.func41, Try.ntmps41
  go_wp2_with fail
  refine (compare_any y.n x.n _).mono ?_
  rintro e w1 ⟨rfl, rfl⟩
  go_wp2_with fail
  go_ret
  exact ⟨rfl, HB.out⟩
theorem leastFirst_any (x y : K) (w : World) : Calls Try.prog 42 #[x.val, y.val] w fun e w' => e = .returned (.int .i64 (cmpI x.a y.a)) ∧ Below w.heap.size w w' := by
  have HB := Lib.hid (two_below w (Obj.cells #[Value.int IntKind.i64 x.a, Value.int IntKind.i64 x.b, Value.int IntKind.i64 x.n] 60) (Obj.cells #[Value.int IntKind.i64 y.a, Value.int IntKind.i64 y.b, Value.int IntKind.i64 y.n] 60))
  unfold K.val
  go_enter Try.func42, Try.ntmps42
  go_wp2_with fail
  refine (compare_any x.a y.a _).mono ?_
  rintro e w1 ⟨rfl, rfl⟩
  go_wp2_with fail
  go_ret
  exact ⟨rfl, HB.out⟩
theorem leastSecond_any (x y : K) (w : World) : Calls Try.prog 43 #[x.val, y.val] w fun e w' => e = .returned (.int .i64 (cmpI x.b y.b)) ∧ Below w.heap.size w w' := by
  have HB := Lib.hid (two_below w (Obj.cells #[Value.int IntKind.i64 x.a, Value.int IntKind.i64 x.b, Value.int IntKind.i64 x.n] 60) (Obj.cells #[Value.int IntKind.i64 y.a, Value.int IntKind.i64 y.b, Value.int IntKind.i64 y.n] 60))
  unfold K.val
  go_enter Try.func43, Try.ntmps43
  go_wp2_with fail
  refine (compare_any x.b y.b _).mono ?_
  rintro e w1 ⟨rfl, rfl⟩
  go_wp2_with fail
  go_ret
  exact ⟨rfl, HB.out⟩
/-- Has a link a label? -/
def K.has (x : K) (lb : Nat) : Bool := decide (lb = x.a) || decide (lb = x.b)
theorem has_any (x : K) (lb : Nat) (w : World) : Calls Try.prog 77 #[x.val, .int .i64 lb] w fun e w' => e = .returned (.bool (x.has lb)) ∧ Below w.heap.size w w' := by
  have HB : Hid (Below w.heap.size w (w.alloc (Obj.cells #[Value.int IntKind.i64 x.a, Value.int IntKind.i64 x.b, Value.int IntKind.i64 x.n] 60))) := (Below.refl _ _).alloc (Nat.le_refl _) _
  obtain ⟨V, HV⟩ := named (x.has lb)
  rw [HV.out]
  unfold K.val
  by_cases h1 : lb = x.a
  · obtain rfl : V = true := by rw [← HV.out]; simp [K.has, h1]
    have h1' : (lb : Int) = (x.a : Int) := by omega
    clear h1
    go_enter Try.func77, Try.ntmps77
    go_wp2_with fail
    go_ret
    exact ⟨rfl, HB.out⟩
  · have h1' : ((lb : Int) == (x.a : Int)) = false := by simp; omega
    by_cases h2 : lb = x.b
    · obtain rfl : V = true := by rw [← HV.out]; simp [K.has, h2]
      have h2' : ((lb : Int) == (x.b : Int)) = true := by simp; omega
      clear h1 h2
      go_enter Try.func77, Try.ntmps77
      go_wp2_with fail
      go_ret
      exact ⟨rfl, HB.out⟩
    · obtain rfl : V = false := by rw [← HV.out]; simp [K.has, h1, h2]
      have h2' : ((lb : Int) == (x.b : Int)) = false := by simp; omega
      clear h1 h2
      go_enter Try.func77, Try.ntmps77
      go_wp2_with fail
      go_ret
      exact ⟨rfl, HB.out⟩
end Go.Proofs.Ytchfccbneedejaa
namespace Go.Proofs.Ytchfccbneedejaa
open Go.RowKit
/-- What the three rules tell, one behind the other. -/
def told (x y : K) : Nat → Int
  | 0 => cmpI y.n x.n
  | 1 => cmpI x.a y.a
  | _ => cmpI x.b y.b
def lexK (x y : K) : Int := if told x y 0 ≠ 0 then told x y 0 else if told x y 1 ≠ 0 then told x y 1 else told x y 2
def ruleV (k : Nat) : Value := .func (.func (41 + k)) #[] #[]
theorem rule_any (x y : K) (k : Nat) (hk : k < 3) (w : World) : Calls Try.prog (41 + k) #[x.val, y.val] w fun e w' => e = .returned (.int .i64 (told x y k)) ∧ Below w.heap.size w w' := by
  match k, hk with
  | 0, _ => exact mostPairs_any x y w
  | 1, _ => exact leastFirst_any x y w
  | 2, _ => exact leastSecond_any x y w
theorem lex_at {x y : K} {k : Nat} (hk : k < 3) (h : ∀ j, j < k → told x y j = 0) (h2 : told x y k ≠ 0) : lexK x y = told x y k := by
  unfold lexK
  match k, hk with
  | 0, _ => rw [if_pos h2]
  | 1, _ => rw [if_neg (by simp [h 0 (by omega)]), if_pos h2]
  | 2, _ => rw [if_neg (by simp [h 0 (by omega)]), if_neg (by simp [h 1 (by omega)])]
theorem lex_end {x y : K} (h : ∀ j, j < 3 → told x y j = 0) : lexK x y = 0 := by
  unfold lexK
  rw [if_neg (by simp [h 0 (by omega)]), if_neg (by simp [h 1 (by omega)])]
  exact h 2 (by omega)
set_option maxRecDepth 100000 in
set_option maxHeartbeats 1600000 in
theorem choose1_any (x y : K) (cb rb : Nat) (w : World) (hc : w.cell? ⟨cb, 0, none⟩ = some (.slice (some ⟨rb, 0, none⟩) 3 3)) (hcl : cb < w.heap.size) (hrl : rb < w.heap.size) (hr : ∀ k, k < 3 → w.cell? ⟨rb, k, none⟩ = some (ruleV k)) :
    Calls Try.prog 62 #[x.val, y.val, .pointer (some ⟨cb, 0, none⟩)] w fun e w' => e = .returned (.int .i64 (lexK x y)) ∧ Below w.heap.size w w' := by
  have HB0 := Lib.hid (two_below w (Obj.cells #[Value.int IntKind.i64 x.a, Value.int IntKind.i64 x.b, Value.int IntKind.i64 x.n] 60) (Obj.cells #[Value.int IntKind.i64 y.a, Value.int IntKind.i64 y.b, Value.int IntKind.i64 y.n] 60))
  have hg2 : ((w.alloc (Obj.cells #[Value.int IntKind.i64 x.a, Value.int IntKind.i64 x.b, Value.int IntKind.i64 x.n] 60)).alloc (Obj.cells #[Value.int IntKind.i64 y.a, Value.int IntKind.i64 y.b, Value.int IntKind.i64 y.n] 60)).heap[w.heap.size + 1]? = some (Obj.cells #[Value.int IntKind.i64 y.a, Value.int IntKind.i64 y.b, Value.int IntKind.i64 y.n] 60) := by
    have h := heap_top (w.alloc (Obj.cells #[Value.int IntKind.i64 x.a, Value.int IntKind.i64 x.b, Value.int IntKind.i64 x.n] 60)) (Obj.cells #[Value.int IntKind.i64 y.a, Value.int IntKind.i64 y.b, Value.int IntKind.i64 y.n] 60)
    rw [World.size_alloc] at h
    exact h
  have hg1 : ((w.alloc (Obj.cells #[Value.int IntKind.i64 x.a, Value.int IntKind.i64 x.b, Value.int IntKind.i64 x.n] 60)).alloc (Obj.cells #[Value.int IntKind.i64 y.a, Value.int IntKind.i64 y.b, Value.int IntKind.i64 y.n] 60)).heap[w.heap.size]? = some (Obj.cells #[Value.int IntKind.i64 x.a, Value.int IntKind.i64 x.b, Value.int IntKind.i64 x.n] 60) := (Below.heap_alloc _ _ _ (by simp)).trans (heap_top w _)
  have hc2 := (HB0.out.cell (p := ⟨cb, 0, none⟩) hcl).trans hc
  have HRU := Lib.hid hr
  obtain ⟨X, HX⟩ := named (lexK x y)
  rw [HX.out]
  have HXV : Hid (x.val = .agg #[.int .i64 (x.a : Int), .int .i64 (x.b : Int), .int .i64 (x.n : Int)]) := rfl
  have HYV : Hid (y.val = .agg #[.int .i64 (y.a : Int), .int .i64 (y.b : Int), .int .i64 (y.n : Int)]) := rfl
  rw [HXV.out, HYV.out]
  have HG1 := Lib.hid hg1
  have HG2 := Lib.hid hg2
  clear hg1 hg2 hr hc
  generalize hp : w.heap.size = p at *
  go_enter Try.func62, Try.ntmps62
  go_wp2_with fail
  generalize hW : (w.alloc (Obj.cells #[Value.int IntKind.i64 x.a, Value.int IntKind.i64 x.b, Value.int IntKind.i64 x.n] 60)).alloc (Obj.cells #[Value.int IntKind.i64 y.a, Value.int IntKind.i64 y.b, Value.int IntKind.i64 y.n] 60) = W at *
  clear hW hc2
  have hWp : p + 1 < W.heap.size := lt_of_block HG2.out
  go_loopw [11] (fun i wr => ∃ k : Nat, k ≤ 3 ∧ i = .int .i64 k ∧ Hid (∀ j, j < k → told x y j = 0) ∧ Hid (Below W.heap.size W wr)) (fun i _ => 3 - (intOf i).toNat)
  case atStart => exact ⟨0, by omega, rfl, fun j hj => by omega, Below.refl _ _⟩
  case round =>
    obtain ⟨k, hk, rfl, HJ, HBR⟩ := hrel
    have HBP : Hid (Below p w wr) := HB0.out.trans (HBR.out.mono (by omega))
    by_cases hlk : k < 3
    · have hwr : W.heap.size ≤ wr.heap.size := HBR.out.size
      obtain ⟨x0, x1, x2⟩ := three_cells ((HBR.out.block p (by omega)).trans HG1.out)
      obtain ⟨z0, z1, z2⟩ := three_cells ((HBR.out.block (p + 1) (by omega)).trans HG2.out)
      obtain rfl | rfl | rfl : k = 0 ∨ k = 1 ∨ k = 2 := by omega
      · have y0 : wr.cell? ⟨rb, 0, none⟩ = some (.func (.func 41) #[] #[]) := (HBP.out.cell (p := ⟨rb, 0, none⟩) hrl).trans (HRU.out 0 hlk)
        have HRL := Lib.hid (mostPairs_any x y wr)
        have HT : Hid (told x y 0 = cmpI y.n x.n) := rfl
        rw [HXV.out, HYV.out, ← HT.out] at HRL
        have HLX := Lib.hid (fun h => lex_at (x := x) (y := y) (k := 0) hlk HJ.out h)
        have HJ2 : Hid (told x y 0 = 0 → ∀ j, j < 0 + 1 → told x y j = 0) := fun h j hj => by
          by_cases e : j = 0
          · rw [e]; exact h
          · exact HJ.out j (by omega)
        obtain ⟨V, HV⟩ := named (told x y 0)
        rw [HV.out] at HRL HLX HJ2
        clear hlk hk
        by_cases hV : V = 0
        · subst hV
          have HJ3 := Lib.hid (HJ2.out rfl)
          clear HJ2
          go_wp2_with (go_at_call 41; refine HRL.out.mono ?_; rintro e w2 ⟨rfl, hb2⟩; have HB2 : Hid (Below W.heap.size W w2) := HBR.out.trans (hb2.mono hwr); have HP2 : Hid (Below p w w2) := HBP.out.trans (hb2.mono (by omega)); clear hb2 x0 x1 x2 z0 z1 z2 y0)
          exact ⟨⟨0 + 1, by omega, by simp, HJ3, HB2⟩, by simp [intOf]⟩
        · have hV' : (V != 0) = true := by simpa using hV
          obtain rfl : X = V := by rw [← HX.out]; exact HLX.out hV
          clear hV
          go_wp2_with (go_at_call 41; refine HRL.out.mono ?_; rintro e w2 ⟨rfl, hb2⟩; have HB2 : Hid (Below W.heap.size W w2) := HBR.out.trans (hb2.mono hwr); have HP2 : Hid (Below p w w2) := HBP.out.trans (hb2.mono (by omega)); clear hb2 x0 x1 x2 z0 z1 z2 y0)
          go_ret
          exact ⟨rfl, HP2.out⟩
      · have y0 : wr.cell? ⟨rb, 1, none⟩ = some (.func (.func 42) #[] #[]) := (HBP.out.cell (p := ⟨rb, 1, none⟩) hrl).trans (HRU.out 1 hlk)
        have HRL := Lib.hid (leastFirst_any x y wr)
        have HT : Hid (told x y 1 = cmpI x.a y.a) := rfl
        rw [HXV.out, HYV.out, ← HT.out] at HRL
        have HLX := Lib.hid (fun h => lex_at (x := x) (y := y) (k := 1) hlk HJ.out h)
        have HJ2 : Hid (told x y 1 = 0 → ∀ j, j < 1 + 1 → told x y j = 0) := fun h j hj => by
          by_cases e : j = 1
          · rw [e]; exact h
          · exact HJ.out j (by omega)
        obtain ⟨V, HV⟩ := named (told x y 1)
        rw [HV.out] at HRL HLX HJ2
        clear hlk hk
        by_cases hV : V = 0
        · subst hV
          have HJ3 := Lib.hid (HJ2.out rfl)
          clear HJ2
          go_wp2_with (go_at_call 42; refine HRL.out.mono ?_; rintro e w2 ⟨rfl, hb2⟩; have HB2 : Hid (Below W.heap.size W w2) := HBR.out.trans (hb2.mono hwr); have HP2 : Hid (Below p w w2) := HBP.out.trans (hb2.mono (by omega)); clear hb2 x0 x1 x2 z0 z1 z2 y0)
          exact ⟨⟨1 + 1, by omega, by simp, HJ3, HB2⟩, by simp [intOf]⟩
        · have hV' : (V != 0) = true := by simpa using hV
          obtain rfl : X = V := by rw [← HX.out]; exact HLX.out hV
          clear hV
          go_wp2_with (go_at_call 42; refine HRL.out.mono ?_; rintro e w2 ⟨rfl, hb2⟩; have HB2 : Hid (Below W.heap.size W w2) := HBR.out.trans (hb2.mono hwr); have HP2 : Hid (Below p w w2) := HBP.out.trans (hb2.mono (by omega)); clear hb2 x0 x1 x2 z0 z1 z2 y0)
          go_ret
          exact ⟨rfl, HP2.out⟩
      · have y0 : wr.cell? ⟨rb, 2, none⟩ = some (.func (.func 43) #[] #[]) := (HBP.out.cell (p := ⟨rb, 2, none⟩) hrl).trans (HRU.out 2 hlk)
        have HRL := Lib.hid (leastSecond_any x y wr)
        have HT : Hid (told x y 2 = cmpI x.b y.b) := rfl
        rw [HXV.out, HYV.out, ← HT.out] at HRL
        have HLX := Lib.hid (fun h => lex_at (x := x) (y := y) (k := 2) hlk HJ.out h)
        have HJ2 : Hid (told x y 2 = 0 → ∀ j, j < 2 + 1 → told x y j = 0) := fun h j hj => by
          by_cases e : j = 2
          · rw [e]; exact h
          · exact HJ.out j (by omega)
        obtain ⟨V, HV⟩ := named (told x y 2)
        rw [HV.out] at HRL HLX HJ2
        clear hlk hk
        by_cases hV : V = 0
        · subst hV
          have HJ3 := Lib.hid (HJ2.out rfl)
          clear HJ2
          go_wp2_with (go_at_call 43; refine HRL.out.mono ?_; rintro e w2 ⟨rfl, hb2⟩; have HB2 : Hid (Below W.heap.size W w2) := HBR.out.trans (hb2.mono hwr); have HP2 : Hid (Below p w w2) := HBP.out.trans (hb2.mono (by omega)); clear hb2 x0 x1 x2 z0 z1 z2 y0)
          exact ⟨⟨2 + 1, by omega, by simp, HJ3, HB2⟩, by simp [intOf]⟩
        · have hV' : (V != 0) = true := by simpa using hV
          obtain rfl : X = V := by rw [← HX.out]; exact HLX.out hV
          clear hV
          go_wp2_with (go_at_call 43; refine HRL.out.mono ?_; rintro e w2 ⟨rfl, hb2⟩; have HB2 : Hid (Below W.heap.size W w2) := HBR.out.trans (hb2.mono hwr); have HP2 : Hid (Below p w w2) := HBP.out.trans (hb2.mono (by omega)); clear hb2 x0 x1 x2 z0 z1 z2 y0)
          go_ret
          exact ⟨rfl, HP2.out⟩
    · obtain rfl : k = 3 := by omega
      obtain rfl : X = 0 := by rw [← HX.out]; exact lex_end HJ.out
      go_wp2_with fail
      go_ret
      exact ⟨rfl, HBP.out⟩
end Go.Proofs.Ytchfccbneedejaa
namespace Go.Proofs.Ytchfccbneedejaa
open Go.RowKit
/-- A link lies in memory. -/
def K.at (x : K) (w : World) (b o : Nat) : Prop :=
  w.cell? ⟨b, o, none⟩ = some (.int .i64 (x.a : Int)) ∧ w.cell? ⟨b, o + 1, none⟩ = some (.int .i64 (x.b : Int)) ∧ w.cell? ⟨b, o + 2, none⟩ = some (.int .i64 (x.n : Int))
def K.zero : K := ⟨0, 0, 0⟩
/-- The link that is chosen among the first. -/
def pickK (l : List K) : Nat → K
  | 0 => l.getD 0 K.zero
  | i + 1 => if lexK (l.getD (i + 1) K.zero) (pickK l i) < 0 then l.getD (i + 1) K.zero else pickK l i
def K.obj (x : K) : Obj := .cells #[.int .i64 (x.a : Int), .int .i64 (x.b : Int), .int .i64 (x.n : Int)] 60
theorem three_set {w : World} {b : Nat} {u0 u1 u2 : Value} {t : TypeId} (h : w.heap[b]? = some (.cells #[u0, u1, u2] t)) (x y z : Value) : (((w.setCell ⟨b, 0, none⟩ x).setCell ⟨b, 1, none⟩ y).setCell ⟨b, 2, none⟩ z).heap[b]? = some (.cells #[x, y, z] t) := by
  have h1 := heap_setCell_same w b 0 _ _ x h
  have h2 := heap_setCell_same _ b 1 _ _ y h1
  exact (heap_setCell_same _ b 2 _ _ z h2).trans (by simp)
theorem three_far (w : World) (b k : Nat) (hk : k ≠ b) (x y z : Value) : (((w.setCell ⟨b, 0, none⟩ x).setCell ⟨b, 1, none⟩ y).setCell ⟨b, 2, none⟩ z).heap[k]? = w.heap[k]? :=
  (Below.heap_setCell _ _ _ k hk).trans ((Below.heap_setCell _ _ _ k hk).trans (Below.heap_setCell _ _ _ k hk))
theorem three_below {n b : Nat} {w w' : World} (h : Below n w w') (hb : n ≤ b) (x y z : Value) : Below n w (((w'.setCell ⟨b, 0, none⟩ x).setCell ⟨b, 1, none⟩ y).setCell ⟨b, 2, none⟩ z) := ((h.setCell hb _).setCell hb _).setCell hb _
set_option maxRecDepth 100000 in
set_option maxHeartbeats 1600000 in
theorem minF_any (lb c cb rb : Nat) (l : List K) (w : World) (hn : 0 < l.length) (hm : l.length ≤ 1000000) (hlb : lb < w.heap.size) (hl : ∀ j, j < l.length → (l.getD j K.zero).at w lb (j * 3)) (hc : w.cell? ⟨cb, 0, none⟩ = some (.slice (some ⟨rb, 0, none⟩) 3 3)) (hcl : cb < w.heap.size) (hrl : rb < w.heap.size) (hr : ∀ k, k < 3 → w.cell? ⟨rb, k, none⟩ = some (ruleV k)) :
    Calls Try.prog 61 #[.slice (some ⟨lb, 0, none⟩) l.length c, .func (.func 62) #[] #[.pointer (some ⟨cb, 0, none⟩)]] w fun e w' => e = .returned (pickK l (l.length - 1)).val ∧ Below w.heap.size w w' := by
  obtain ⟨R, HR⟩ := named (pickK l (l.length - 1))
  rw [HR.out]
  have HL := Lib.hid hl
  have hn1 : ¬ (l.length : Int) < 1 := by omega
  have hn2 : (0 : Int) < l.length := by omega
  obtain ⟨f0, f1, f2⟩ := hl 0 hn
  simp only [Nat.zero_mul] at f0 f1 f2
  have HP0 : Hid (pickK l 0 = l.getD 0 K.zero) := rfl
  generalize l.getD 0 K.zero = m at f0 f1 f2 HP0
  generalize hp : w.heap.size = p at *
  go_enter Try.func61, Try.ntmps61
  go_wp2_with fail
  have HB0 : Hid (Below p w ((w.alloc (Obj.cells #[Value.int IntKind.i64 0, Value.int IntKind.i64 0, Value.int IntKind.i64 0] 60)).alloc (Obj.cells #[Value.int IntKind.i64 m.a, Value.int IntKind.i64 m.b, Value.int IntKind.i64 m.n] 60))) := hp ▸ two_below w _ _
  have HG1 : Hid (((w.alloc (Obj.cells #[Value.int IntKind.i64 0, Value.int IntKind.i64 0, Value.int IntKind.i64 0] 60)).alloc (Obj.cells #[Value.int IntKind.i64 m.a, Value.int IntKind.i64 m.b, Value.int IntKind.i64 m.n] 60)).heap[p + 1]? = some (Obj.cells #[Value.int IntKind.i64 m.a, Value.int IntKind.i64 m.b, Value.int IntKind.i64 m.n] 60)) := by
    have h := heap_top (w.alloc (Obj.cells #[Value.int IntKind.i64 0, Value.int IntKind.i64 0, Value.int IntKind.i64 0] 60)) (Obj.cells #[Value.int IntKind.i64 m.a, Value.int IntKind.i64 m.b, Value.int IntKind.i64 m.n] 60)
    rw [World.size_alloc, hp] at h
    exact h
  have HG0 : Hid (((w.alloc (Obj.cells #[Value.int IntKind.i64 0, Value.int IntKind.i64 0, Value.int IntKind.i64 0] 60)).alloc (Obj.cells #[Value.int IntKind.i64 m.a, Value.int IntKind.i64 m.b, Value.int IntKind.i64 m.n] 60)).heap[p]? = some (Obj.cells #[Value.int IntKind.i64 0, Value.int IntKind.i64 0, Value.int IntKind.i64 0] 60)) := (Below.heap_alloc _ _ _ (by simp [hp])).trans (by have h := heap_top w (Obj.cells #[Value.int IntKind.i64 0, Value.int IntKind.i64 0, Value.int IntKind.i64 0] 60); rw [hp] at h; exact h)
  generalize hW : (w.alloc (Obj.cells #[Value.int IntKind.i64 0, Value.int IntKind.i64 0, Value.int IntKind.i64 0] 60)).alloc (Obj.cells #[Value.int IntKind.i64 m.a, Value.int IntKind.i64 m.b, Value.int IntKind.i64 m.n] 60) = W at *
  clear hW f0 f1 f2
  have HC0 := Lib.hid hc
  have HRU := Lib.hid hr
  clear hc hr hl
  go_loopw [6] (fun i wr => ∃ (k : Nat) (y : K), k < l.length ∧ i = .int .i64 ((k : Int) + 1) ∧ Hid (pickK l k = y) ∧ Hid (wr.heap[p + 1]? = some y.obj) ∧ Hid (wr.heap[p]? = some (Obj.cells #[Value.int IntKind.i64 0, Value.int IntKind.i64 0, Value.int IntKind.i64 0] 60)) ∧ Hid (Below p w wr)) (fun i _ => l.length - (intOf i).toNat)
  case atStart => exact ⟨0, m, hn, rfl, HP0, HG1, HG0, HB0⟩
  case round =>
    obtain ⟨k, y, hk, rfl, HY, HG, HGp, HBR⟩ := hrel
    obtain ⟨z0, z1, z2⟩ := three_cells HG.out
    by_cases hlk : k + 1 < l.length
    · have hlk' : (k : Int) + 1 < l.length := by omega
      obtain ⟨x0, x1, x2⟩ := HL.out (k + 1) hlk
      have y0 := (HBR.out.cell (p := ⟨lb, (k + 1) * 3, none⟩) hlb).trans x0
      have y1 := (HBR.out.cell (p := ⟨lb, (k + 1) * 3 + 1, none⟩) hlb).trans x1
      have y2 := (HBR.out.cell (p := ⟨lb, (k + 1) * 3 + 2, none⟩) hlb).trans x2
      obtain ⟨x, HX⟩ := named (l.getD (k + 1) K.zero)
      rw [HX.out] at y0 y1 y2 x0 x1 x2
      have X0 := Lib.hid x0
      have X1 := Lib.hid x1
      have X2 := Lib.hid x2
      have e1 : ((k : Int) + 1).toNat = k + 1 := by omega
      have e2 : (0 : Int) ≤ (k : Int) + 1 := by omega
      clear x0 x1 x2
      have HCH : Hid (∀ W2 : World, Below p w W2 → W2.heap = wr.heap → Calls Try.prog 62 #[x.val, y.val, .pointer (some ⟨cb, 0, none⟩)] W2 fun e w' => e = .returned (.int .i64 (lexK x y)) ∧ Below p w w' ∧ w'.heap[p + 1]? = some y.obj ∧ w'.heap[p]? = some (Obj.cells #[Value.int IntKind.i64 0, Value.int IntKind.i64 0, Value.int IntKind.i64 0] 60)) := fun W2 hb he => by
        have hsz : p + 1 < W2.heap.size := by rw [he]; exact lt_of_block HG.out
        refine (choose1_any x y cb rb W2 ((hb.cell (p := ⟨cb, 0, none⟩) hcl).trans HC0.out) (by omega) (by omega) (fun j hj => (hb.cell (p := ⟨rb, j, none⟩) hrl).trans (HRU.out j hj))).mono ?_
        rintro e w' ⟨rfl, h⟩
        refine ⟨rfl, hb.trans (h.mono (by omega)), (h.block (p + 1) hsz).trans ?_, (h.block p (by omega)).trans ?_⟩
        · rw [he]; exact HG.out
        · rw [he]; exact HGp.out
      obtain ⟨V, HV⟩ := named (lexK x y)
      have HXV : Hid (x.val = .agg #[.int .i64 (x.a : Int), .int .i64 (x.b : Int), .int .i64 (x.n : Int)]) := rfl
      have HYV : Hid (y.val = .agg #[.int .i64 (y.a : Int), .int .i64 (y.b : Int), .int .i64 (y.n : Int)]) := rfl
      rw [HV.out, HXV.out, HYV.out] at HCH
      have HSK : Hid (pickK l (k + 1) = if V < 0 then x else y) := by show _ = _; rw [← HV.out, ← HX.out, ← HY.out]; rfl
      go_wp2_with fail
      by_cases hV : V < 0
      · go_region_held3 (fun w' => w'.cell? ⟨lb, (k + 1) * 3, none⟩ = some (.int .i64 (x.a : Int)) ∧ w'.cell? ⟨lb, (k + 1) * 3 + 1, none⟩ = some (.int .i64 (x.b : Int)) ∧ w'.cell? ⟨lb, (k + 1) * 3 + 2, none⟩ = some (.int .i64 (x.n : Int)) ∧ w'.cell? ⟨p + 1, 0, none⟩ = some (.int .i64 (y.a : Int)) ∧ w'.cell? ⟨p + 1, 1, none⟩ = some (.int .i64 (y.b : Int)) ∧ w'.cell? ⟨p + 1, 2, none⟩ = some (.int .i64 (y.n : Int))) (go_keep) ((go_at_call 62; refine (HCH.out _ HBR.out.drew rfl).mono ?_; rintro e w2 ⟨rfl, hb2, hg2, hgp2⟩; obtain ⟨v3, v4, v5⟩ := three_cells hg2; have v0 := (hb2.cell (p := ⟨lb, (k + 1) * 3, none⟩) hlb).trans X0.out; have v1 := (hb2.cell (p := ⟨lb, (k + 1) * 3 + 1, none⟩) hlb).trans X1.out; have v2 := (hb2.cell (p := ⟨lb, (k + 1) * 3 + 2, none⟩) hlb).trans X2.out))
        have HB2 := Lib.hid hb2
        have HG2 := Lib.hid hg2
        have HGp2 := Lib.hid hgp2
        have q0 : w2.frozen? ⟨p + 1, 0, none⟩ = false := by simp [World.frozen?, hg2, K.obj]
        have q1 : w2.frozen? ⟨p + 1, 1, none⟩ = false := by simp [World.frozen?, hg2, K.obj]
        have q2 : w2.frozen? ⟨p + 1, 2, none⟩ = false := by simp [World.frozen?, hg2, K.obj]
        clear hb2 hg2 hgp2 y0 y1 y2 z0 z1 z2
        rw [if_pos hV] at HSK
        go_wp2_with fail
        exact ⟨⟨k + 1, x, hlk, by simp, HSK, three_set HG2.out _ _ _, (three_far w2 (p + 1) p (by omega) _ _ _).trans HGp2.out, three_below HB2.out (by omega) _ _ _⟩, by simp [intOf]; omega⟩
      · go_region_held3 (fun w' => w'.cell? ⟨lb, (k + 1) * 3, none⟩ = some (.int .i64 (x.a : Int)) ∧ w'.cell? ⟨lb, (k + 1) * 3 + 1, none⟩ = some (.int .i64 (x.b : Int)) ∧ w'.cell? ⟨lb, (k + 1) * 3 + 2, none⟩ = some (.int .i64 (x.n : Int)) ∧ w'.cell? ⟨p + 1, 0, none⟩ = some (.int .i64 (y.a : Int)) ∧ w'.cell? ⟨p + 1, 1, none⟩ = some (.int .i64 (y.b : Int)) ∧ w'.cell? ⟨p + 1, 2, none⟩ = some (.int .i64 (y.n : Int))) (go_keep) ((go_at_call 62; refine (HCH.out _ HBR.out.drew rfl).mono ?_; rintro e w2 ⟨rfl, hb2, hg2, hgp2⟩; obtain ⟨v3, v4, v5⟩ := three_cells hg2; have v0 := (hb2.cell (p := ⟨lb, (k + 1) * 3, none⟩) hlb).trans X0.out; have v1 := (hb2.cell (p := ⟨lb, (k + 1) * 3 + 1, none⟩) hlb).trans X1.out; have v2 := (hb2.cell (p := ⟨lb, (k + 1) * 3 + 2, none⟩) hlb).trans X2.out))
        have HB2 := Lib.hid hb2
        have HG2 := Lib.hid hg2
        have HGp2 := Lib.hid hgp2
        clear hb2 hg2 hgp2 y0 y1 y2 z0 z1 z2
        rw [if_neg (by omega)] at HSK
        go_wp2_with fail
        exact ⟨⟨k + 1, y, hlk, by simp, HSK, HG2, HGp2, HB2⟩, by simp [intOf]; omega⟩
    · have hlk' : ¬ (k : Int) + 1 < l.length := by omega
      obtain rfl : R = y := by rw [← HR.out, ← HY.out]; congr 1; omega
      have q0 : wr.frozen? ⟨p, 0, none⟩ = false := by simp [World.frozen?, HGp.out]
      have q1 : wr.frozen? ⟨p, 1, none⟩ = false := by simp [World.frozen?, HGp.out]
      have q2 : wr.frozen? ⟨p, 2, none⟩ = false := by simp [World.frozen?, HGp.out]
      obtain ⟨r0, r1, r2⟩ := three_cells HGp.out
      have HGE := Lib.hid (three_set HGp.out (.int .i64 (R.a : Int)) (.int .i64 (R.b : Int)) (.int .i64 (R.n : Int)))
      have HBE := Lib.hid (three_below HBR.out (Nat.le_refl p) (.int .i64 (R.a : Int)) (.int .i64 (R.b : Int)) (.int .i64 (R.n : Int)))
      go_wp2_with fail
      generalize hU : ((wr.setCell ⟨p, 0, none⟩ (Value.int IntKind.i64 R.a)).setCell ⟨p, 1, none⟩ (Value.int IntKind.i64 R.b)).setCell ⟨p, 2, none⟩ (Value.int IntKind.i64 R.n) = U at *
      clear hU q0 q1 q2 r0 r1 r2 z0 z1 z2
      try simp only [Exit.inBlock, Exit.then]
      refine bodyPost_ret (results_cell_row (P := Try.prog) rfl _ _ p 60 _ _ _ rfl HGE.out Try.underlying60 rfl (by kernel_rfl)) rfl ?_
      exact ⟨rfl, HBE.out⟩
end Go.Proofs.Ytchfccbneedejaa
