/-
  Sizes of labels: split.sizesOf, Sizes and check.
-/
import Derived.Test.YtpmjbeiclmllmaaGreatChk
import Derived.Test.YtpmjbeiclmllmaaGreatApp
import Derived.Test.YtpmjbeiclmllmaaGreatSame
namespace Go.Proofs.YtpmjbeiclmllmaaGreat
open Go.RowKit
/-- Right labels: each has been seen ahead, or is the next one. -/
def tdy : List Int → Int → Bool
  | [], _ => true
  | x :: r, nx => if x < 0 ∨ nx < x then false else tdy r (if x = nx then nx + 1 else nx)
theorem drop_getI {xs : List Int} {k : Nat} (h : k < xs.length) : xs.drop k = xs.getD k 0 :: xs.drop (k + 1) := by
  rw [List.drop_eq_getElem_cons h]
  simp [List.getD, List.getElem?_eq_getElem h]
theorem take_snocI {xs : List Int} {k : Nat} (h : k < xs.length) : xs.take (k + 1) = xs.take k ++ [xs.getD k 0] := by
  rw [List.take_succ_eq_append_getElem h]
  simp [List.getD, List.getElem?_eq_getElem h]
/-- One label more. -/
def szS (S : List Nat) (x : Nat) : List Nat := if x = S.length then S ++ [1] else S.set x (S.getD x 0 + 1)
/-- How many have each label. -/
def szL (xs : List Int) : List Nat := xs.foldl (fun S x => szS S x.toNat) []
theorem szL_snoc (xs : List Int) (x : Int) : szL (xs ++ [x]) = szS (szL xs) x.toNat := by simp [szL]
theorem getD_end (S : List Nat) (x : Nat) : (S ++ [x]).getD S.length 0 = x := by simp [List.getD]
theorem set_end (S : List Nat) (x y : Nat) : (S ++ [x]).set S.length y = S ++ [y] := by simp
theorem getD_le {S : List Nat} {m : Nat} (h : ∀ u, u ∈ S → u ≤ m) (j : Nat) : S.getD j 0 ≤ m := by
  by_cases e : j < S.length
  · exact h _ (by simp [List.getD, List.getElem?_eq_getElem e])
  · simp [List.getD, List.getElem?_eq_none (Nat.le_of_not_lt e)]
theorem szS_le {S : List Nat} {m : Nat} (h : ∀ u, u ∈ S → u ≤ m) (x : Nat) : ∀ u, u ∈ szS S x → u ≤ m + 1 := by
  intro u hu
  unfold szS at hu
  split at hu
  · rcases List.mem_append.1 hu with h1 | h1
    · have := h u h1; omega
    · rw [List.mem_singleton] at h1; omega
  · rcases List.mem_or_eq_of_mem_set hu with h1 | h1
    · have := h u h1; omega
    · have := getD_le h x; omega
theorem szL_le (xs : List Int) : ∀ j, (szL xs).getD j 0 ≤ xs.length := by
  have : ∀ (xs : List Int) (S : List Nat) (m : Nat), (∀ u, u ∈ S → u ≤ m) → ∀ u, u ∈ (xs.foldl (fun S x => szS S x.toNat) S) → u ≤ m + xs.length := by
    intro xs
    induction xs with
    | nil => intro S m h u hu; exact h u hu
    | cons x r ih =>
      intro S m h u hu
      have h2 := ih (szS S x.toNat) (m + 1) (szS_le h _) u hu
      rw [List.length_cons]
      omega
  refine getD_le (fun u hu => ?_)
  have h := this xs [] 0 (fun u hu => by cases hu) u hu
  omega
/-- What is wrong with labels. -/
def szE (N : Int) (xs : List Int) : Int := if (xs.length : Int) ≠ N ∨ tdy xs 0 = false then 80 else 0
/-- A number of a row of our own is turned. -/
theorem own_setI {w : World} {B g c : Nat} {L : List Nat} (h : w.ownsRow B 3 1 (.slice (some ⟨g, 0, none⟩) L.length c) L.length (cellsI (ints L))) (k x : Nat) : (w.setCell ⟨g, k, none⟩ (.int .i64 x)).ownsRow B 3 1 (.slice (some ⟨g, 0, none⟩) (L.set k x).length c) (L.set k x).length (cellsI (ints (L.set k x))) := by
  have h1 := (World.ownsRow.stored h k (.int .i64 x)).1
  have e : (cellsI (ints L)).set k (.int .i64 x) = cellsI (ints (L.set k x)) := by
    unfold cellsI ints
    rw [List.map_map, List.map_map, List.map_set]
    rfl
  rw [e] at h1
  rw [List.length_set]
  exact h1
theorem own_cellI {w : World} {B g c : Nat} {L : List Nat} (h : w.ownsRow B 3 1 (.slice (some ⟨g, 0, none⟩) L.length c) L.length (cellsI (ints L))) {k : Nat} (hk : k < L.length) : w.cell? ⟨g, k, none⟩ = some (.int .i64 ((L.getD k 0 : Nat) : Int)) := by
  rw [World.ownsRow.cellAt h k (by omega), cellsI_getD (ints L) k (by rw [ints_len]; exact hk), ints_getD hk]
set_option maxRecDepth 100000 in
set_option maxHeartbeats 1600000 in
theorem sizesOf_any (N : Int) (s : Value) (b : Option Addr) (xs : List Int) (bc : Nat) (w : World) (hN : N ≤ 1024) (hx : xs.length ≤ 9223372036854775807) (hi : Ints w b xs) :
    Calls Tryz.prog 132 #[.agg #[.int .i64 N, s], .slice b xs.length bc] w fun e w' => ∃ v c S, e = .returned (.tuple #[.slice v S.length c, .int .i64 (szE N xs)]) ∧ w'.ownsRow w.heap.size 3 1 (.slice v S.length c) S.length (cellsI (ints S)) ∧ S = (if szE N xs = 0 then szL xs else []) ∧ Below w.heap.size w w' := by
  have hb0 : Below w.heap.size w (w.alloc (.cells #[.int .i64 N, s] 24)) := (Below.refl _ _).alloc (Nat.le_refl _) _
  have hg := heap_top w (.cells #[.int .i64 N, s] 24)
  obtain ⟨i3, hi3, hz3, hs3, hby3⟩ := info_parts info3
  obtain ⟨E, HE⟩ := named (szE N xs)
  rw [HE.out]
  obtain ⟨⟨c0, c1⟩, _⟩ := two_cells hg
  have HI := Lib.hid (hi.on hb0)
  have HB0 := Lib.hid hb0
  clear hi hb0
  generalize hp : w.heap.size = p at *
  by_cases hxn : ¬ (xs.length : Int) = N
  · have e1 : ((xs.length : Int) != N) = true := by simpa using hxn
    obtain rfl : E = 80 := by rw [← HE.out]; unfold szE; rw [if_pos (.inl hxn)]
    clear hxn
    go_enter Tryz.func132, Tryz.ntmps132
    go_wp2_with fail
    go_ret2
    exact ⟨none, 0, [], rfl, World.ownsRow_nil _ _ _ _, rfl, HB0.out⟩
  have hxn : (xs.length : Int) = N := by simpa using hxn
  subst hxn
  have e1 : ((xs.length : Int) != (xs.length : Int)) = false := by simp
  have hxl : xs.length ≤ 1024 := by omega
  have HEV : Hid (E = if tdy xs 0 = false then 80 else 0) := by
    show _ = _
    rw [← HE.out]
    unfold szE
    by_cases h : tdy xs 0 = false
    · rw [if_pos (.inr h), if_pos h]
    · rw [if_neg (by rintro (h1 | h1); exact h1 rfl; exact h h1), if_neg h]
  obtain ⟨V, HV⟩ := named (tdy xs 0)
  rw [HV.out] at HEV
  go_enter Tryz.func132, Tryz.ntmps132
  go_wp2_with fail
  have hWs : (w.alloc (.cells #[.int .i64 xs.length, s] 24)).heap.size = p + 1 := by simp [hp]
  generalize hW : w.alloc (.cells #[.int .i64 xs.length, s] 24) = W at *
  clear hW c0 c1
  have hpz : p < W.heap.size := lt_of_block hg
  obtain ⟨ix, ox, hix⟩ := HI.out.get
  have HIX := Lib.hid hix
  clear hix hg
  go_loopw [6, 16] (fun s6 i wr => ∃ (k : Nat) (av : Option Addr) (cv : Nat) (S : List Nat), k ≤ xs.length ∧ i = .int .i64 k ∧ s6 = .slice av S.length cv ∧ S.length ≤ k ∧ Hid (szL (xs.take k) = S) ∧ Hid (tdy (xs.drop k) S.length = V) ∧ Hid (wr.ownsRow (p + 1) 3 1 (.slice av S.length cv) S.length (cellsI (ints S))) ∧ Hid (Below (p + 1) W wr)) (fun _ i _ => xs.length - (intOf i).toNat)
  case atStart => exact ⟨0, none, 0, [], Nat.zero_le _, rfl, rfl, Nat.zero_le _, rfl, HV, World.ownsRow_nil _ _ _ _, Below.refl _ _⟩
  case round =>
    obtain ⟨k, av, cv, S, hk, rfl, rfl, hSk, HS, HK, HOW, HBR⟩ := hrel
    have hwr : W.heap.size ≤ wr.heap.size := HBR.out.size
    have HBP : Hid (Below p w wr) := HB0.out.trans (HBR.out.mono (by omega))
    by_cases hlk : k < xs.length
    · obtain ⟨rfl, hbl, hat⟩ := HIX.out (by omega)
      have hlk' : (k : Int) < xs.length := by omega
      have y0 := (HBR.out.cell (p := ⟨ix, ox + k, none⟩) (hWs ▸ hbl)).trans (hat k hlk)
      have hk2 := HK.out
      rw [drop_getI hlk] at hk2
      simp only [tdy] at hk2
      have HK2 := Lib.hid hk2
      have HSN : Hid (szL (xs.take (k + 1)) = szS S (xs.getD k 0).toNat) := by show _ = _; rw [take_snocI hlk, szL_snoc, HS.out]
      clear hat hk2
      generalize xs.getD k 0 = x at *
      by_cases h0 : x < 0
      · obtain rfl : E = 80 := by
          have h1 := HK2.out
          rw [if_pos (.inl h0)] at h1
          rw [HEV.out, if_pos h1.symm]
        go_wp2_with fail
        go_ret2
        exact ⟨none, 0, [], rfl, World.ownsRow_nil _ _ _ _, rfl, HBP.out⟩
      · by_cases h1 : (S.length : Int) < x
        · obtain rfl : E = 80 := by
            have h2 := HK2.out
            rw [if_pos (.inr h1)] at h2
            rw [HEV.out, if_pos h2.symm]
          go_wp2_with fail
          go_ret2
          exact ⟨none, 0, [], rfl, World.ownsRow_nil _ _ _ _, rfl, HBP.out⟩
        · rw [if_neg (by omega)] at HK2
          obtain ⟨y, hy⟩ : ∃ y : Nat, x = y := ⟨x.toNat, by omega⟩
          subst hy
          rw [Int.toNat_natCast] at HSN
          by_cases h2 : y = S.length
          · subst h2
            have hq : ((S.length : Int) == (S.length : Int)) = true := by simp
            have HNS : Hid (szS S S.length = S ++ [1]) := if_pos rfl
            rw [HNS.out] at HSN
            rw [if_pos rfl] at HK2
            have HK3 : Hid (tdy (xs.drop (k + 1)) (((S ++ [1]).length : Nat) : Int) = V) := by
              have h3 := HK2.out
              rw [show ((S.length : Int) + 1) = (((S ++ [1]).length : Nat) : Int) by rw [List.length_append]; rfl] at h3
              exact h3
            have HNW := Lib.hid (one_new wr 0)
            have HO2 := Lib.hid (HOW.out.alloc (.cells #[.int .i64 0] 3))
            have HBZ : Hid (p + 1 ≤ (wr.alloc (.cells #[.int .i64 0] 3)).heap.size) := by show _ ≤ _; rw [World.size_alloc]; omega
            have HBB : Hid (Below (p + 1) W (wr.alloc (.cells #[.int .i64 0] 3))) := HBR.out.alloc (by omega) _
            have HOL : Hid (∀ b, (Value.slice av S.length cv).ownBlock = some b → p + 1 ≤ b) := fun b hb => (HOW.out.lt b hb).1
            have HCA : Hid (cellsI (ints S) ++ [.int .i64 0] = cellsI (ints (S ++ [0]))) := by show _ = _; rw [ints_snoc, ← cellsI_snoc]; rfl
            have hs8 : S.length ≤ 1024 := by omega
            go_wp2_with (at_builtin; refine wpList_append_own _ rfl (.tmp 32) (.tmp 33) 25 rfl (p + 1) 3 i3 (.int .i64 0) 1 8 Tryz.underlying25 hi3 hz3 hs3 hby3 rfl (by decide) (.slice av S.length cv) S.length (cellsI (ints S)) rfl HO2.out ⟨wr.heap.size, 0, none⟩ 1 1 [.int .i64 0] rfl rfl HNW.out (one_i64 _) (by unfold maxLen; omega) (by omega) HBZ.out ?_; intro v6 w6 hown6 hgrow6 hnil6; obtain ⟨g6, c6, hv6, _, hc6, _, hm6⟩ := own_shape hown6 (fun e => by have := hnil6.1 e; simp at this); subst hv6; rw [HCA.out] at hown6; have h7 : w6.ownsRow (p + 1) 3 1 (.slice (some ⟨g6, 0, none⟩) (S ++ [0]).length c6) (S ++ [0]).length (cellsI (ints (S ++ [0]))) := (by rw [List.length_append]; exact hown6); have d1 := own_cellI h7 (k := S.length) (by rw [List.length_append]; simp); have d2 := World.ownsRow.frozenAt h7 S.length; rw [getD_end S 0] at d1; have HO7 := Lib.hid (own_setI h7 S.length 1); have HB6 : Hid (Below (p + 1) W w6) := HBB.out.grown hgrow6 HBZ.out (fun j hj => HOL.out j hj); have hg6 : p + 1 ≤ g6 := (h7.lt g6 rfl).1; have hc6' : ((S.length : Int) + 1) ≤ c6 := (by omega); clear hown6 hgrow6 hnil6 h7)
            rw [set_end S 0 1] at HO7
            refine ⟨⟨k + 1, some ⟨g6, 0, none⟩, c6, S ++ [1], by omega, by simp, by rw [List.length_append]; rfl, by rw [List.length_append]; simp; omega, HSN, HK3, HO7, Lib.hid (HB6.out.setCell hg6 _)⟩, by simp [intOf]; omega⟩
          · have hq : ((y : Int) == (S.length : Int)) = false := by simp; omega
            have hy : y < S.length := by omega
            have hy' : (y : Int) < S.length := by omega
            have HNS : Hid (szS S y = S.set y (S.getD y 0 + 1)) := if_neg h2
            rw [HNS.out] at HSN
            rw [if_neg (by omega)] at HK2
            have HK3 : Hid (tdy (xs.drop (k + 1)) (((S.set y (S.getD y 0 + 1)).length : Nat) : Int) = V) := by rw [List.length_set]; exact HK2
            obtain ⟨g, cg, hv, hg1, _, _, _⟩ := own_shape HOW.out (fun e => by injection e with _ e2 _; omega)
            injection hv with hv1 _ hv3
            subst hv1 hv3
            have d1 := own_cellI HOW.out hy
            have d2 := World.ownsRow.frozenAt HOW.out y
            have HO7 := Lib.hid (own_setI HOW.out y (S.getD y 0 + 1))
            have hsz : (((S.getD y 0 : Nat) : Int) + 1) ≤ 1000000 := by
              have h3 := szL_le (xs.take k) y
              rw [HS.out, List.length_take] at h3
              omega
            generalize S.getD y 0 = sy at *
            clear h2
            go_wp2_with fail
            refine ⟨⟨k + 1, some ⟨g, 0, none⟩, cv, S.set y (sy + 1), by omega, by simp, by rw [List.length_set], by rw [List.length_set]; omega, HSN, HK3, ?_, Lib.hid (HBR.out.setCell hg1 _)⟩, by simp [intOf]; omega⟩
            exact HO7
    · have e0 : xs.drop k = [] := List.drop_eq_nil_of_le (by omega)
      have e2 : xs.take k = xs := List.take_of_length_le (by omega)
      have hlk' : ¬ (k : Int) < xs.length := by omega
      rw [e0] at HK
      rw [e2] at HS
      obtain rfl : E = 0 := by
        have h3 : V = true := HK.out.symm
        rw [HEV.out, h3]; rfl
      clear e0 e2
      go_wp2_with fail
      go_ret2
      exact ⟨av, cv, S, rfl, own_base HOW.out (by omega), HS.out.symm, HBP.out⟩
/-- What Sizes tells. -/
def siE (N : Int) (l : List A) (xs : List Int) : Int := if chkE N l ≠ 0 then chkE N l else szE N xs
set_option maxRecDepth 100000 in
set_option maxHeartbeats 1600000 in
theorem sizes_any (N : Int) (a : Option Addr) (l : List A) (cap : Nat) (b : Option Addr) (xs : List Int) (bc : Nat) (w : World) (hl : l.length ≤ 9223372036854775807) (hx : xs.length ≤ 9223372036854775807) (hr : Arcs w a l) (hi : Ints w b xs) :
    Calls Tryz.prog 118 #[.agg #[.int .i64 N, .slice a l.length cap], .slice b xs.length bc] w fun e w' => ∃ v c S, e = .returned (.tuple #[.slice v S.length c, .int .i64 (siE N l xs)]) ∧ w'.ownsRow w.heap.size 3 1 (.slice v S.length c) S.length (cellsI (ints S)) ∧ S = (if siE N l xs = 0 then szL xs else []) ∧ Below w.heap.size w w' := by
  have hb0 : Below w.heap.size w (w.alloc (.cells #[.int .i64 N, .slice a l.length cap] 24)) := (Below.refl _ _).alloc (Nat.le_refl _) _
  have hg := heap_top w (.cells #[.int .i64 N, .slice a l.length cap] 24)
  have HR := Lib.hid (hr.on hb0)
  have HI := Lib.hid (hi.on hb0)
  have hwz : w.heap.size ≤ (w.alloc (.cells #[.int .i64 N, .slice a l.length cap] 24)).heap.size := hb0.size
  have HB0 := Lib.hid hb0
  obtain ⟨AT, HAT⟩ := named (chkAt N l)
  obtain ⟨E, HE⟩ := named (chkE N l)
  obtain ⟨R, HRR⟩ := named (if siE N l xs = 0 then szL xs else [])
  rw [HRR.out]
  obtain ⟨G, HG⟩ := named (siE N l xs)
  rw [HG.out] at HRR ⊢
  clear hb0 hr hi
  generalize hp : w.heap.size = p at *
  go_enter Tryz.func118, Tryz.ntmps118
  go_wp2_with fail
  generalize hW : w.alloc (.cells #[.int .i64 N, .slice a l.length cap] 24) = W at *
  clear hW
  have hpz : p < W.heap.size := lt_of_block hg
  refine (check_any N a l cap W hl HR.out).mono ?_
  rintro e w1 ⟨rfl, hb1⟩
  have HB1 : Hid (Below p w w1) := HB0.out.trans (hb1.mono hwz)
  have hg1 := (hb1.block p hpz).trans hg
  obtain ⟨⟨c0, c1'⟩, _⟩ := two_cells hg1
  have HI1 := Lib.hid (HI.out.on hb1)
  have hz1 : p < w1.heap.size := lt_of_block hg1
  rw [HE.out, HAT.out]
  clear hb1 HR hg hwz HI
  by_cases hE : E ≠ 0
  · have e1 : (E != 0) = true := by simpa using hE
    obtain rfl : G = E := by rw [← HG.out]; unfold siE; rw [if_pos (by rw [HE.out]; exact hE), HE.out]
    obtain rfl : R = [] := by rw [← HRR.out, if_neg hE]
    go_wp2_with fail
    go_ret2
    exact ⟨none, 0, [], rfl, World.ownsRow_nil _ _ _ _, rfl, HB1.out⟩
  obtain rfl : E = 0 := by omega
  clear hE
  have HGZ : Hid (szE N xs = G) := by show _ = _; rw [← HG.out]; unfold siE; rw [if_neg (by rw [HE.out]; omega)]
  have HSZ := Lib.hid (sizesOf_any N (.slice a l.length cap) b xs bc w1 (by have := (chk_zero HE.out).2.1; omega) hx HI1.out)
  rw [HGZ.out, HRR.out] at HSZ
  go_wp2_with fail
  refine HSZ.out.mono ?_
  rintro e w2 ⟨v2, c2, S, rfl, hown2, hS, hb2⟩
  have HB2 : Hid (Below p w w2) := HB1.out.trans (hb2.mono (by omega))
  have HO2 := Lib.hid (own_base hown2 (Nat.le_of_lt hz1))
  have HS := Lib.hid hS
  clear hb2 hown2 hS
  go_wp2_with fail
  go_ret2
  exact ⟨v2, c2, S, rfl, HO2.out, HS.out, HB2.out⟩
/-- What check tells. -/
def ckE (N : Int) (l : List A) (xs : List Int) (bd : Int) : Int := if siE N l xs ≠ 0 then siE N l xs else if bd < 1 ∨ 1024 < bd then 1 else 0
end Go.Proofs.YtpmjbeiclmllmaaGreat
