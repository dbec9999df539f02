/-
  All pairs of a graph: sorted, each once. Sizes of labels: split.sizesOf, Sizes and check. The contract of slices.Compact at pairs.
-/
import Derived.Test.YtgpaoiddjlpcmaaZAA
import Derived.Laws.StructEq
import Derived.Lib.SliceRun
import Derived.Laws.IdiomCopy
import Derived.BigRegion
import Derived.Deep.QuietTactic
import Derived.BigQuiet
namespace Go.Proofs.Ytgpaoiddjlpcmaa
open Go.RowKit
/-- Right labels: each has been seen ahead, or is the next one. -/
def tdy : List Int → Int → Bool
  | [], _ => true
  | x :: r, nx => if x < 0 ∨ nx < x then false else tdy r (if x = nx then nx + 1 else nx)
theorem drop_getI {xs : List Int} {k : Nat} (h : k < xs.length) : xs.drop k = xs.getD k 0 :: xs.drop (k + 1) := by
  rw [List.drop_eq_getElem_cons h]
  simp [List.getD, List.getElem?_eq_getElem h]
theorem take_snocI {xs : List Int} {k : Nat} (h : k < xs.length) : xs.take (k + 1) = xs.take k ++ [xs.getD k 0] := by
  rw [List.take_succ_eq_append_getElem h]
  simp [List.getD, List.getElem?_eq_getElem h]
/-- One label more. -/
def szS (S : List Nat) (x : Nat) : List Nat := if x = S.length then S ++ [1] else S.set x (S.getD x 0 + 1)
/-- How many have each label. -/
def szL (xs : List Int) : List Nat := xs.foldl (fun S x => szS S x.toNat) []
theorem szL_snoc (xs : List Int) (x : Int) : szL (xs ++ [x]) = szS (szL xs) x.toNat := by simp [szL]
theorem getD_end (S : List Nat) (x : Nat) : (S ++ [x]).getD S.length 0 = x := by simp [List.getD]
theorem set_end (S : List Nat) (x y : Nat) : (S ++ [x]).set S.length y = S ++ [y] := by simp
theorem getD_le {S : List Nat} {m : Nat} (h : ∀ u, u ∈ S → u ≤ m) (j : Nat) : S.getD j 0 ≤ m := by
  by_cases e : j < S.length
  · exact h _ (by simp [List.getD, List.getElem?_eq_getElem e])
  · simp [List.getD, List.getElem?_eq_none (Nat.le_of_not_lt e)]
theorem szS_le {S : List Nat} {m : Nat} (h : ∀ u, u ∈ S → u ≤ m) (x : Nat) : ∀ u, u ∈ szS S x → u ≤ m + 1 := by
  intro u hu
  unfold szS at hu
  split at hu
  · rcases List.mem_append.1 hu with h1 | h1
    · have := h u h1; omega
    · rw [List.mem_singleton] at h1; omega
  · rcases List.mem_or_eq_of_mem_set hu with h1 | h1
    · have := h u h1; omega
    · have := getD_le h x; omega
theorem szL_le (xs : List Int) : ∀ j, (szL xs).getD j 0 ≤ xs.length := by
  have : ∀ (xs : List Int) (S : List Nat) (m : Nat), (∀ u, u ∈ S → u ≤ m) → ∀ u, u ∈ (xs.foldl (fun S x => szS S x.toNat) S) → u ≤ m + xs.length := by
    intro xs
    induction xs with
    | nil => intro S m h u hu; exact h u hu
    | cons x r ih =>
      intro S m h u hu
      have h2 := ih (szS S x.toNat) (m + 1) (szS_le h _) u hu
      rw [List.length_cons]
      omega
  refine getD_le (fun u hu => ?_)
  have h := this xs [] 0 (fun u hu => by cases hu) u hu
  omega
/-- What is wrong with labels. -/
def szE (N : Int) (xs : List Int) : Int := if (xs.length : Int) ≠ N ∨ tdy xs 0 = false then 80 else 0
/-- A number of a row of our own is turned. -/
theorem own_setI {w : World} {B g c : Nat} {L : List Nat} (h : w.ownsRow B 3 1 (.slice (some ⟨g, 0, none⟩) L.length c) L.length (cellsI (ints L))) (k x : Nat) : (w.setCell ⟨g, k, none⟩ (.int .i64 x)).ownsRow B 3 1 (.slice (some ⟨g, 0, none⟩) (L.set k x).length c) (L.set k x).length (cellsI (ints (L.set k x))) := by
  have h1 := (World.ownsRow.stored h k (.int .i64 x)).1
  have e : (cellsI (ints L)).set k (.int .i64 x) = cellsI (ints (L.set k x)) := by
    unfold cellsI ints
    rw [List.map_map, List.map_map, List.map_set]
    rfl
  rw [e] at h1
  rw [List.length_set]
  exact h1
theorem own_cellI {w : World} {B g c : Nat} {L : List Nat} (h : w.ownsRow B 3 1 (.slice (some ⟨g, 0, none⟩) L.length c) L.length (cellsI (ints L))) {k : Nat} (hk : k < L.length) : w.cell? ⟨g, k, none⟩ = some (.int .i64 ((L.getD k 0 : Nat) : Int)) := by
  rw [World.ownsRow.cellAt h k (by omega), cellsI_getD (ints L) k (by rw [ints_len]; exact hk), ints_getD hk]
set_option maxRecDepth 100000 in
set_option maxHeartbeats 1600000 in
theorem sizesOf_any (N : Int) (s : Value) (b : Option Addr) (xs : List Int) (bc : Nat) (w : World) (hN : N ≤ 1024) (hx : xs.length ≤ 9223372036854775807) (hi : Ints w b xs) :
    Calls Try.prog 39 #[.agg #[.int .i64 N, s], .slice b xs.length bc] w fun e w' => ∃ v c S, e = .returned (.tuple #[.slice v S.length c, .int .i64 (szE N xs)]) ∧ w'.ownsRow w.heap.size 3 1 (.slice v S.length c) S.length (cellsI (ints S)) ∧ S = (if szE N xs = 0 then szL xs else []) ∧ Below w.heap.size w w' := by
  have hb0 : Below w.heap.size w (w.alloc (.cells #[.int .i64 N, s] 24)) := (Below.refl _ _).alloc (Nat.le_refl _) _
  have hg := heap_top w (.cells #[.int .i64 N, s] 24)
  obtain ⟨i3, hi3, hz3, hs3, hby3⟩ := info_parts info3
  obtain ⟨E, HE⟩ := named (szE N xs)
  rw [HE.out]
  obtain ⟨⟨c0, c1⟩, _⟩ := two_cells hg
  have HI := Lib.hid (hi.on hb0)
  have HB0 := Lib.hid hb0
  clear hi hb0
  generalize hp : w.heap.size = p at *
  by_cases hxn : ¬ (xs.length : Int) = N
  · have e1 : ((xs.length : Int) != N) = true := by simpa using hxn
    obtain rfl : E = 80 := by rw [← HE.out]; unfold szE; rw [if_pos (.inl hxn)]
    clear hxn
    go_enter Try.func39, Try.ntmps39
    go_wp2_with fail
    go_ret2
    exact ⟨none, 0, [], rfl, World.ownsRow_nil _ _ _ _, rfl, HB0.out⟩
  have hxn : (xs.length : Int) = N := by simpa using hxn
  subst hxn
  have e1 : ((xs.length : Int) != (xs.length : Int)) = false := by simp
  have hxl : xs.length ≤ 1024 := by omega
  have HEV : Hid (E = if tdy xs 0 = false then 80 else 0) := by
    show _ = _
    rw [← HE.out]
    unfold szE
    by_cases h : tdy xs 0 = false
    · rw [if_pos (.inr h), if_pos h]
    · rw [if_neg (by rintro (h1 | h1); exact h1 rfl; exact h h1), if_neg h]
  obtain ⟨V, HV⟩ := named (tdy xs 0)
  rw [HV.out] at HEV
  go_enter Try.func39, Try.ntmps39
  go_wp2_with fail
  have hWs : (w.alloc (.cells #[.int .i64 xs.length, s] 24)).heap.size = p + 1 := by simp [hp]
  generalize hW : w.alloc (.cells #[.int .i64 xs.length, s] 24) = W at *
  clear hW c0 c1
  have hpz : p < W.heap.size := lt_of_block hg
  obtain ⟨ix, ox, hix⟩ := HI.out.get
  have HIX := Lib.hid hix
  clear hix hg
  go_loopw [6, 16] (fun s6 i wr => ∃ (k : Nat) (av : Option Addr) (cv : Nat) (S : List Nat), k ≤ xs.length ∧ i = .int .i64 k ∧ s6 = .slice av S.length cv ∧ S.length ≤ k ∧ Hid (szL (xs.take k) = S) ∧ Hid (tdy (xs.drop k) S.length = V) ∧ Hid (wr.ownsRow (p + 1) 3 1 (.slice av S.length cv) S.length (cellsI (ints S))) ∧ Hid (Below (p + 1) W wr)) (fun _ i _ => xs.length - (intOf i).toNat)
  case atStart => exact ⟨0, none, 0, [], Nat.zero_le _, rfl, rfl, Nat.zero_le _, rfl, HV, World.ownsRow_nil _ _ _ _, Below.refl _ _⟩
  case round =>
    obtain ⟨k, av, cv, S, hk, rfl, rfl, hSk, HS, HK, HOW, HBR⟩ := hrel
    have hwr : W.heap.size ≤ wr.heap.size := HBR.out.size
    have HBP : Hid (Below p w wr) := HB0.out.trans (HBR.out.mono (by omega))
    by_cases hlk : k < xs.length
    · obtain ⟨rfl, hbl, hat⟩ := HIX.out (by omega)
      have hlk' : (k : Int) < xs.length := by omega
      have y0 := (HBR.out.cell (p := ⟨ix, ox + k, none⟩) (hWs ▸ hbl)).trans (hat k hlk)
      have hk2 := HK.out
      rw [drop_getI hlk] at hk2
      simp only [tdy] at hk2
      have HK2 := Lib.hid hk2
      have HSN : Hid (szL (xs.take (k + 1)) = szS S (xs.getD k 0).toNat) := by show _ = _; rw [take_snocI hlk, szL_snoc, HS.out]
      clear hat hk2
      generalize xs.getD k 0 = x at *
      by_cases h0 : x < 0
      · obtain rfl : E = 80 := by
          have h1 := HK2.out
          rw [if_pos (.inl h0)] at h1
          rw [HEV.out, if_pos h1.symm]
        go_wp2_with fail
        go_ret2
        exact ⟨none, 0, [], rfl, World.ownsRow_nil _ _ _ _, rfl, HBP.out⟩
      · by_cases h1 : (S.length : Int) < x
        · obtain rfl : E = 80 := by
            have h2 := HK2.out
            rw [if_pos (.inr h1)] at h2
            rw [HEV.out, if_pos h2.symm]
          go_wp2_with fail
          go_ret2
          exact ⟨none, 0, [], rfl, World.ownsRow_nil _ _ _ _, rfl, HBP.out⟩
        · rw [if_neg (by omega)] at HK2
          obtain ⟨y, hy⟩ : ∃ y : Nat, x = y := ⟨x.toNat, by omega⟩
          subst hy
          rw [Int.toNat_natCast] at HSN
          by_cases h2 : y = S.length
          · subst h2
            have hq : ((S.length : Int) == (S.length : Int)) = true := by simp
            have HNS : Hid (szS S S.length = S ++ [1]) := if_pos rfl
            rw [HNS.out] at HSN
            rw [if_pos rfl] at HK2
            have HK3 : Hid (tdy (xs.drop (k + 1)) (((S ++ [1]).length : Nat) : Int) = V) := by
              have h3 := HK2.out
              rw [show ((S.length : Int) + 1) = (((S ++ [1]).length : Nat) : Int) by rw [List.length_append]; rfl] at h3
              exact h3
            have HNW := Lib.hid (one_new wr 0)
            have HO2 := Lib.hid (HOW.out.alloc (.cells #[.int .i64 0] 3))
            have HBZ : Hid (p + 1 ≤ (wr.alloc (.cells #[.int .i64 0] 3)).heap.size) := by show _ ≤ _; rw [World.size_alloc]; omega
            have HBB : Hid (Below (p + 1) W (wr.alloc (.cells #[.int .i64 0] 3))) := HBR.out.alloc (by omega) _
            have HOL : Hid (∀ b, (Value.slice av S.length cv).ownBlock = some b → p + 1 ≤ b) := fun b hb => (HOW.out.lt b hb).1
            have HCA : Hid (cellsI (ints S) ++ [.int .i64 0] = cellsI (ints (S ++ [0]))) := by show _ = _; rw [ints_snoc, ← cellsI_snoc]; rfl
            have hs8 : S.length ≤ 1024 := by omega
            go_wp2_with (at_builtin; refine wpList_append_own _ rfl (.tmp 32) (.tmp 33) 25 rfl (p + 1) 3 i3 (.int .i64 0) 1 8 Try.underlying25 hi3 hz3 hs3 hby3 rfl (by decide) (.slice av S.length cv) S.length (cellsI (ints S)) rfl HO2.out ⟨wr.heap.size, 0, none⟩ 1 1 [.int .i64 0] rfl rfl HNW.out (one_i64 _) (by unfold maxLen; omega) (by omega) HBZ.out ?_; intro v6 w6 hown6 hgrow6 hnil6; obtain ⟨g6, c6, hv6, _, hc6, _, hm6⟩ := own_shape hown6 (fun e => by have := hnil6.1 e; simp at this); subst hv6; rw [HCA.out] at hown6; have h7 : w6.ownsRow (p + 1) 3 1 (.slice (some ⟨g6, 0, none⟩) (S ++ [0]).length c6) (S ++ [0]).length (cellsI (ints (S ++ [0]))) := (by rw [List.length_append]; exact hown6); have d1 := own_cellI h7 (k := S.length) (by rw [List.length_append]; simp); have d2 := World.ownsRow.frozenAt h7 S.length; rw [getD_end S 0] at d1; have HO7 := Lib.hid (own_setI h7 S.length 1); have HB6 : Hid (Below (p + 1) W w6) := HBB.out.grown hgrow6 HBZ.out (fun j hj => HOL.out j hj); have hg6 : p + 1 ≤ g6 := (h7.lt g6 rfl).1; have hc6' : ((S.length : Int) + 1) ≤ c6 := (by omega); clear hown6 hgrow6 hnil6 h7)
            rw [set_end S 0 1] at HO7
            refine ⟨⟨k + 1, some ⟨g6, 0, none⟩, c6, S ++ [1], by omega, by simp, by rw [List.length_append]; rfl, by rw [List.length_append]; simp; omega, HSN, HK3, HO7, Lib.hid (HB6.out.setCell hg6 _)⟩, by simp [intOf]; omega⟩
          · have hq : ((y : Int) == (S.length : Int)) = false := by simp; omega
            have hy : y < S.length := by omega
            have hy' : (y : Int) < S.length := by omega
            have HNS : Hid (szS S y = S.set y (S.getD y 0 + 1)) := if_neg h2
            rw [HNS.out] at HSN
            rw [if_neg (by omega)] at HK2
            have HK3 : Hid (tdy (xs.drop (k + 1)) (((S.set y (S.getD y 0 + 1)).length : Nat) : Int) = V) := by rw [List.length_set]; exact HK2
            obtain ⟨g, cg, hv, hg1, _, _, _⟩ := own_shape HOW.out (fun e => by injection e with _ e2 _; omega)
            injection hv with hv1 _ hv3
            subst hv1 hv3
            have d1 := own_cellI HOW.out hy
            have d2 := World.ownsRow.frozenAt HOW.out y
            have HO7 := Lib.hid (own_setI HOW.out y (S.getD y 0 + 1))
            have hsz : (((S.getD y 0 : Nat) : Int) + 1) ≤ 1000000 := by
              have h3 := szL_le (xs.take k) y
              rw [HS.out, List.length_take] at h3
              omega
            generalize S.getD y 0 = sy at *
            clear h2
            go_wp2_with fail
            refine ⟨⟨k + 1, some ⟨g, 0, none⟩, cv, S.set y (sy + 1), by omega, by simp, by rw [List.length_set], by rw [List.length_set]; omega, HSN, HK3, ?_, Lib.hid (HBR.out.setCell hg1 _)⟩, by simp [intOf]; omega⟩
            exact HO7
    · have e0 : xs.drop k = [] := List.drop_eq_nil_of_le (by omega)
      have e2 : xs.take k = xs := List.take_of_length_le (by omega)
      have hlk' : ¬ (k : Int) < xs.length := by omega
      rw [e0] at HK
      rw [e2] at HS
      obtain rfl : E = 0 := by
        have h3 : V = true := HK.out.symm
        rw [HEV.out, h3]; rfl
      clear e0 e2
      go_wp2_with fail
      go_ret2
      exact ⟨av, cv, S, rfl, own_base HOW.out (by omega), HS.out.symm, HBP.out⟩
/-- What Sizes tells. -/
def siE (N : Int) (l : List A) (xs : List Int) : Int := if chkE N l ≠ 0 then chkE N l else szE N xs
set_option maxRecDepth 100000 in
set_option maxHeartbeats 1600000 in
theorem sizes_any (N : Int) (a : Option Addr) (l : List A) (cap : Nat) (b : Option Addr) (xs : List Int) (bc : Nat) (w : World) (hl : l.length ≤ 9223372036854775807) (hx : xs.length ≤ 9223372036854775807) (hr : Arcs w a l) (hi : Ints w b xs) :
    Calls Try.prog 22 #[.agg #[.int .i64 N, .slice a l.length cap], .slice b xs.length bc] w fun e w' => ∃ v c S, e = .returned (.tuple #[.slice v S.length c, .int .i64 (siE N l xs)]) ∧ w'.ownsRow w.heap.size 3 1 (.slice v S.length c) S.length (cellsI (ints S)) ∧ S = (if siE N l xs = 0 then szL xs else []) ∧ Below w.heap.size w w' := by
  have hb0 : Below w.heap.size w (w.alloc (.cells #[.int .i64 N, .slice a l.length cap] 24)) := (Below.refl _ _).alloc (Nat.le_refl _) _
  have hg := heap_top w (.cells #[.int .i64 N, .slice a l.length cap] 24)
  have HR := Lib.hid (hr.on hb0)
  have HI := Lib.hid (hi.on hb0)
  have hwz : w.heap.size ≤ (w.alloc (.cells #[.int .i64 N, .slice a l.length cap] 24)).heap.size := hb0.size
  have HB0 := Lib.hid hb0
  obtain ⟨AT, HAT⟩ := named (chkAt N l)
  obtain ⟨E, HE⟩ := named (chkE N l)
  obtain ⟨R, HRR⟩ := named (if siE N l xs = 0 then szL xs else [])
  rw [HRR.out]
  obtain ⟨G, HG⟩ := named (siE N l xs)
  rw [HG.out] at HRR ⊢
  clear hb0 hr hi
  generalize hp : w.heap.size = p at *
  go_enter Try.func22, Try.ntmps22
  go_wp2_with fail
  generalize hW : w.alloc (.cells #[.int .i64 N, .slice a l.length cap] 24) = W at *
  clear hW
  have hpz : p < W.heap.size := lt_of_block hg
  refine (check_any N a l cap W hl HR.out).mono ?_
  rintro e w1 ⟨rfl, hb1⟩
  have HB1 : Hid (Below p w w1) := HB0.out.trans (hb1.mono hwz)
  have hg1 := (hb1.block p hpz).trans hg
  obtain ⟨⟨c0, c1'⟩, _⟩ := two_cells hg1
  have HI1 := Lib.hid (HI.out.on hb1)
  have hz1 : p < w1.heap.size := lt_of_block hg1
  rw [HE.out, HAT.out]
  clear hb1 HR hg hwz HI
  by_cases hE : E ≠ 0
  · have e1 : (E != 0) = true := by simpa using hE
    obtain rfl : G = E := by rw [← HG.out]; unfold siE; rw [if_pos (by rw [HE.out]; exact hE), HE.out]
    obtain rfl : R = [] := by rw [← HRR.out, if_neg hE]
    go_wp2_with fail
    go_ret2
    exact ⟨none, 0, [], rfl, World.ownsRow_nil _ _ _ _, rfl, HB1.out⟩
  obtain rfl : E = 0 := by omega
  clear hE
  have HGZ : Hid (szE N xs = G) := by show _ = _; rw [← HG.out]; unfold siE; rw [if_neg (by rw [HE.out]; omega)]
  have HSZ := Lib.hid (sizesOf_any N (.slice a l.length cap) b xs bc w1 (by have := (chk_zero HE.out).2.1; omega) hx HI1.out)
  rw [HGZ.out, HRR.out] at HSZ
  go_wp2_with fail
  refine HSZ.out.mono ?_
  rintro e w2 ⟨v2, c2, S, rfl, hown2, hS, hb2⟩
  have HB2 : Hid (Below p w w2) := HB1.out.trans (hb2.mono (by omega))
  have HO2 := Lib.hid (own_base hown2 (Nat.le_of_lt hz1))
  have HS := Lib.hid hS
  clear hb2 hown2 hS
  go_wp2_with fail
  go_ret2
  exact ⟨v2, c2, S, rfl, HO2.out, HS.out, HB2.out⟩
/-- What check tells. -/
def ckE (N : Int) (l : List A) (xs : List Int) (bd : Int) : Int := if siE N l xs ≠ 0 then siE N l xs else if bd < 1 ∨ 1024 < bd then 1 else 0
end Go.Proofs.Ytgpaoiddjlpcmaa
namespace Go.Proofs.Ytgpaoiddjlpcmaa
open Go.RowKit
/-- What is left of the first k of a list when each that is the same as the one ahead of it goes. -/
def ddk (d : List Pr) : Nat → List Pr
  | 0 => []
  | k + 1 => if 0 < k ∧ d.getD k Pr.zero = d.getD (k - 1) Pr.zero then ddk d k else ddk d k ++ [d.getD k Pr.zero]
theorem ddk_keep {d : List Pr} {k : Nat} (h : ¬ (0 < k ∧ d.getD k Pr.zero = d.getD (k - 1) Pr.zero)) : ddk d (k + 1) = ddk d k ++ [d.getD k Pr.zero] := by rw [ddk, if_neg h]
theorem ddk_skip {d : List Pr} {k : Nat} (h : 0 < k ∧ d.getD k Pr.zero = d.getD (k - 1) Pr.zero) : ddk d (k + 1) = ddk d k := by rw [ddk, if_pos h]
theorem ddk_len (d : List Pr) : ∀ k, (ddk d k).length ≤ k
  | 0 => by simp [ddk]
  | k + 1 => by
    rw [ddk]
    have := ddk_len d k
    split
    · omega
    · simp; omega
/-- The pairs in a block: n of them, as D says; the block is so great. -/
def PB (w : World) (g n s : Nat) (D : Nat → Pr) : Prop := ∃ cur, w.heap[g]? = some (.cells cur 79 (0, 0)) ∧ cur.size = s ∧ n * 2 ≤ s ∧ ∀ j, j < n → cur[j * 2]? = some (.int .i64 ((D j).a : Int)) ∧ cur[j * 2 + 1]? = some (.int .i64 ((D j).b : Int))
theorem PB.cell {w : World} {g n s : Nat} {D : Nat → Pr} (h : PB w g n s D) {j : Nat} (hj : j < n) : w.cell? ⟨g, j * 2, none⟩ = some (.int .i64 ((D j).a : Int)) ∧ w.cell? ⟨g, j * 2 + 1, none⟩ = some (.int .i64 ((D j).b : Int)) := by
  obtain ⟨cur, h1, _, _, h4⟩ := h
  obtain ⟨h5, h6⟩ := h4 j hj
  exact ⟨by simp [World.cell?, h1, h5], by simp [World.cell?, h1, h6]⟩
theorem PB.free {w : World} {g n s : Nat} {D : Nat → Pr} (h : PB w g n s D) (o : Nat) : w.frozen? ⟨g, o, none⟩ = false := by
  obtain ⟨cur, h1, _⟩ := h
  simp [World.frozen?, h1]
theorem PB.lt {w : World} {g n s : Nat} {D : Nat → Pr} (h : PB w g n s D) : g < w.heap.size := by obtain ⟨cur, h1, _⟩ := h; exact lt_of_block h1
theorem PB.same {w w' : World} {g n s : Nat} {D : Nat → Pr} (h : PB w g n s D) (hs : w'.heap[g]? = w.heap[g]?) : PB w' g n s D := by obtain ⟨cur, h1, h2⟩ := h; exact ⟨cur, hs.trans h1, h2⟩
def updP (D : Nat → Pr) (x : Nat) (u : Pr) : Nat → Pr := fun y => if y = x then u else D y
theorem PB.put {w : World} {g n s : Nat} {D : Nat → Pr} (h : PB w g n s D) {k : Nat} (hk : k < n) (u : Pr) : PB ((w.setCell ⟨g, k * 2, none⟩ (.int .i64 (u.a : Int))).setCell ⟨g, k * 2 + 1, none⟩ (.int .i64 (u.b : Int))) g n s (updP D k u) := by
  obtain ⟨cur, h1, h2, h3, h4⟩ := h
  refine ⟨(cur.setIfInBounds (k * 2) (.int .i64 (u.a : Int))).setIfInBounds (k * 2 + 1) (.int .i64 (u.b : Int)), ?_, by simpa using h2, h3, fun j hj => ?_⟩
  · rw [heap_setCell_same _ g (k * 2 + 1) _ _ _ (heap_setCell_same w g (k * 2) _ _ _ h1)]
  · obtain ⟨h5, h6⟩ := h4 j hj
    unfold updP
    by_cases e : j = k
    · subst e
      have q1 : j * 2 < cur.size := by omega
      have q2 : j * 2 + 1 < cur.size := by omega
      constructor
      · rw [Array.getElem?_setIfInBounds, if_neg (by omega), Array.getElem?_setIfInBounds]; simp [q1]
      · rw [Array.getElem?_setIfInBounds]; simp [q2]
    · rw [if_neg e]
      constructor
      · rw [Array.getElem?_setIfInBounds, if_neg (by omega), Array.getElem?_setIfInBounds, if_neg (by omega)]; exact h5
      · rw [Array.getElem?_setIfInBounds, if_neg (by omega), Array.getElem?_setIfInBounds, if_neg (by omega)]; exact h6
theorem PB.less {w : World} {g n s m : Nat} {D : Nat → Pr} (h : PB w g n s D) (hm : m ≤ n) : PB w g m s D := by
  obtain ⟨cur, h1, h2, h3, h4⟩ := h
  exact ⟨cur, h1, h2, by omega, fun j hj => h4 j (by omega)⟩
theorem PB.congr {w : World} {g n s : Nat} {D E : Nat → Pr} (h : PB w g n s D) (e : ∀ j, j < n → D j = E j) : PB w g n s E := by
  obtain ⟨cur, h1, h2, h3, h4⟩ := h
  exact ⟨cur, h1, h2, h3, fun j hj => by rw [← e j hj]; exact h4 j hj⟩
theorem setCells_fr (g : Nat) : ∀ (vs : List Value) (o : Nat) (w : World), Fr (fun j => j = g) w (w.setCells g o vs)
  | [], _, w => Fr.refl _ w
  | v :: r, o, w => ((Fr.refl (fun j => j = g) w).setCell ⟨g, o, none⟩ v rfl).trans (setCells_fr g r (o + 1) _)
theorem setCells_PB {g n s : Nat} {D : Nat → Pr} : ∀ (vs : List Value) (o : Nat) (w : World), n * 2 ≤ o → PB w g n s D → PB (w.setCells g o vs) g n s D
  | [], _, w, _, h => h
  | v :: r, o, w, ho, h => by
    refine setCells_PB r (o + 1) _ (by omega) ?_
    obtain ⟨cur, h1, h2, h3, h4⟩ := h
    refine ⟨cur.setIfInBounds o v, heap_setCell_same w g o _ _ _ h1, by simpa using h2, h3, fun j hj => ?_⟩
    obtain ⟨h5, h6⟩ := h4 j hj
    rw [Array.getElem?_setIfInBounds, if_neg (by omega), Array.getElem?_setIfInBounds, if_neg (by omega)]
    exact ⟨h5, h6⟩
/-- 'clear(s)' at pairs. -/
theorem run_clear2 (w : World) (ty : TypeId) (b o n c : Nat) (hn : 0 < n) (hc : ∀ j, j < n * 2 → (w.cell? ⟨b, o + j, none⟩).isSome = true) (hf : ∀ j, j < n * 2 → w.frozen? ⟨b, o + j, none⟩ = false) :
    ∃ zs, (Builtin.clear_ #[74] ty #[.slice (some ⟨b, o, none⟩) n c]).run Try.prog w = .ok (.tuple #[]) (w.setCells b o zs) := by
  refine ⟨(Builtin.zeroCells (Value.agg #[.int .i64 0, .int .i64 0]).cells n).toList, ?_⟩
  have hlen : (Builtin.zeroCells (Value.agg #[.int .i64 0, .int .i64 0]).cells n).toList.length = n * 2 := by
    simp [Builtin.zeroCells, Value.cells]
  have hst := run_storeCells_cells (P := Try.prog) b o (Builtin.zeroCells (Value.agg #[.int .i64 0, .int .i64 0]).cells n).toList 0 w (by rw [hlen]; simpa using hc) (by rw [hlen]; simpa using hf) (by
    intro v hv
    simp [Builtin.zeroCells, Value.cells] at hv
    obtain ⟨j, _, rfl⟩ := hv
    have : j % 2 = 0 ∨ j % 2 = 1 := by omega
    rcases this with e | e <;> simp [e, Value.oneCell'])
  simp only [Nat.add_zero] at hst
  obtain ⟨m, rfl⟩ : ∃ m, n = m + 1 := ⟨n - 1, by omega⟩
  simp [Builtin.clear_, run_underlying Try.underlying74, hst]
theorem own_PB {w : World} {B g c : Nat} {d : List Pr} (h : OwnP w B (some ⟨g, 0, none⟩) c d) : PB w g d.length (c * 2) (fun j => d.getD j Pr.zero) ∧ B ≤ g ∧ d.length ≤ c ∧ c ≤ 9223372036854775807 := by
  rcases h.2 with ⟨e, _⟩ | ⟨g', c', cur, e, hb, hg, hn, hm, hs, ht⟩
  · cases e
  · injection e with e1 e2 e3
    injection e1 with e1
    injection e1 with e1
    subst e1; subst e3
    refine ⟨⟨cur, hg, hs, by omega, fun j hj => ?_⟩, hb, hn, hm⟩
    obtain ⟨h1, h2⟩ := cellsP_at d j hj
    rw [← ht, List.getElem?_take, if_pos (by omega)] at h1 h2
    exact ⟨by rw [← h1]; simp, by rw [← h2]; simp⟩
theorem PB_own {w : World} {B g c : Nat} {d : List Pr} (h : PB w g d.length (c * 2) (fun j => d.getD j Pr.zero)) (hB : B ≤ g) (hc : d.length ≤ c) (hm : c ≤ 9223372036854775807) : OwnP w B (some ⟨g, 0, none⟩) c d := by
  obtain ⟨cur, h1, h2, h3, h4⟩ := h
  refine ⟨cellsP_len d, .inr ⟨g, c, cur, rfl, hB, h1, hc, hm, h2, ?_⟩⟩
  apply List.ext_getElem?
  intro i
  rw [List.getElem?_take]
  by_cases hi : i < d.length * 2
  · rw [if_pos hi]
    obtain ⟨j, hj⟩ : ∃ j, i = j * 2 ∨ i = j * 2 + 1 := ⟨i / 2, by omega⟩
    obtain ⟨q1, q2⟩ := cellsP_at d j (by omega)
    obtain ⟨q3, q4⟩ := h4 j (by omega)
    rcases hj with rfl | rfl
    · rw [q1]; simpa using q3
    · rw [q2]; simpa using q4
  · rw [if_neg hi, List.getElem?_eq_none (by rw [cellsP_len]; omega)]
theorem take_snocP {p : List Pr} {k : Nat} (h : k < p.length) : p.take (k + 1) = p.take k ++ [p.getD k Pr.zero] := by
  rw [List.take_succ_eq_append_getElem h]
  simp [List.getD, List.getElem?_eq_getElem h]
theorem pr_ext {x y : Pr} (h1 : x.a = y.a) (h2 : x.b = y.b) : x = y := by cases x; cases y; simp_all
/-- While the list is made short: kk are kept of the first m. -/
structure Ci (d : List Pr) (m kk : Nat) (D : Nat → Pr) : Prop where
  len : (ddk d m).length = kk
  low : ∀ j, j < kk → D j = (ddk d m).getD j Pr.zero
  high : ∀ j, m ≤ j + 1 → D j = d.getD j Pr.zero
  lt : kk < m
theorem Ci.skip {d : List Pr} {m kk : Nat} {D : Nat → Pr} (h : Ci d m kk D) (hm : 0 < m) (e : d.getD m Pr.zero = d.getD (m - 1) Pr.zero) : Ci d (m + 1) kk D := by
  have hs := ddk_skip (d := d) ⟨hm, e⟩
  exact ⟨by rw [hs]; exact h.len, fun j hj => by rw [hs]; exact h.low j hj, fun j hj => h.high j (by omega), by have := h.lt; omega⟩
theorem Ci.keep {d : List Pr} {m kk : Nat} {D : Nat → Pr} (h : Ci d m kk D) (e : d.getD m Pr.zero ≠ d.getD (m - 1) Pr.zero) : Ci d (m + 1) (kk + 1) (updP D kk (d.getD m Pr.zero)) := by
  have hs := ddk_keep (d := d) (k := m) (fun h => e h.2)
  have hl := h.len
  have hlt := h.lt
  refine ⟨by rw [hs, List.length_append, hl]; rfl, fun j hj => ?_, fun j hj => ?_, by omega⟩
  · rw [hs]
    unfold updP
    by_cases ej : j = kk
    · subst ej
      rw [if_pos rfl]
      simp [List.getD, ← hl]
    · rw [if_neg ej, h.low j (by omega)]
      simp [List.getD, List.getElem?_append_left (show j < (ddk d m).length by omega)]
  · unfold updP
    rw [if_neg (by omega)]
    exact h.high j (by omega)
theorem Ci.start {d : List Pr} {k : Nat} (hk : k < d.length) (h0 : 0 < k) (ht : ddk d k = d.take k) (e : d.getD k Pr.zero = d.getD (k - 1) Pr.zero) : Ci d (k + 1) k (fun j => d.getD j Pr.zero) := by
  have hs := ddk_skip (d := d) ⟨h0, e⟩
  refine ⟨by rw [hs, ht, List.length_take]; omega, fun j hj => ?_, fun j _ => rfl, by omega⟩
  rw [hs, ht]
  simp [List.getD, hj]
theorem own_drew {w : World} {B : Nat} {a : Option Addr} {c : Nat} {d : List Pr} (h : OwnP w B a c d) (q : Nat) : OwnP (w.drewN q) B a c d := h
set_option maxRecDepth 100000 in
set_option maxHeartbeats 1600000 in
theorem compact_any {w : World} {B g c : Nat} {d : List Pr} (h : OwnP w B (some ⟨g, 0, none⟩) c d) : Calls Try.prog 53 #[.slice (some ⟨g, 0, none⟩) d.length c] w fun e w' => e = .returned (.slice (some ⟨g, 0, none⟩) (ddk d d.length).length c) ∧ OwnP w' B (some ⟨g, 0, none⟩) c (ddk d d.length) ∧ Fr (fun j => j = g) w w' := by
  obtain ⟨hP, hB, hdc, hcm⟩ := own_PB h
  have HP := Lib.hid hP
  have HOWN := Lib.hid h
  clear h hP
  by_cases h2 : d.length < 2
  · have h2' : (d.length : Int) < 2 := by omega
    have hdd : ddk d d.length = d := by
      match d, h2 with
      | [], _ => rfl
      | [x], _ => simp [ddk]
    rw [hdd]
    go_enter Try.func53, Try.ntmps53
    go_wp2_with fail
    go_ret
    exact ⟨rfl, HOWN.out, Fr.refl _ _⟩
  · have h2' : ¬ (d.length : Int) < 2 := by omega
    go_enter Try.func53, Try.ntmps53
    go_wp2_with fail
    go_loopw [3] (fun i wr => ∃ k q : Nat, 1 ≤ k ∧ k ≤ d.length ∧ i = .int .i64 k ∧ Hid (ddk d k = d.take k) ∧ wr = w.drewN q) (fun i _ => d.length - (intOf i).toNat)
    case atStart => exact ⟨1, 0, by omega, by omega, rfl, by show _ = _; rw [take_snocP (by omega)]; simp [ddk], rfl⟩
    case round =>
      obtain ⟨k, q, hk1, hk, rfl, HT, rfl⟩ := hrel
      obtain ⟨m, rfl⟩ : ∃ m, k = m + 1 := ⟨k - 1, by omega⟩
      by_cases hlt : m + 1 < d.length
      · have hlt' : (((m + 1 : Nat) : Int)) < d.length := by omega
        obtain ⟨x0, x1⟩ := (HP.out.cell hlt)
        obtain ⟨y0, y1⟩ := (HP.out.cell (show m < d.length by omega))
        obtain ⟨x, HX⟩ := named (d.getD (m + 1) Pr.zero)
        obtain ⟨y, HY⟩ := named (d.getD m Pr.zero)
        rw [HX.out] at x0 x1
        rw [HY.out] at y0 y1
        by_cases hxy : x = y
        · subst hxy
          go_wp2_with fail
          go_quiet (fail)
          go_wp2_with fail
          have HCI : Hid (Ci d (m + 1 + 1) (m + 1) (fun j => d.getD j Pr.zero)) := Ci.start hlt (by omega) HT.out (by rw [HX.out]; exact HY.out.symm)
          clear x0 x1 y0 y1
          generalize hL : d.length - (m + 1) = L at *
          go_loopw [3, 5] (fun s3 s5 wr => ∃ (kk k2 : Nat) (D : Nat → Pr), 1 ≤ k2 ∧ k2 ≤ L ∧ s3 = .int .i64 kk ∧ s5 = .int .i64 k2 ∧ Hid (Ci d (m + 1 + k2) kk D) ∧ Hid (PB wr g d.length (c * 2) D) ∧ Hid (Fr (fun j => j = g) w wr)) (fun _ s5 _ => L - (intOf s5).toNat)
          case atStart => exact ⟨m + 1, 1, _, by omega, by omega, rfl, rfl, HCI, HP.out, (Fr.refl _ _).drewN _⟩
          case round =>
            obtain ⟨kk, k2, D, hk21, hk2, rfl, rfl, HC, HPB, HF⟩ := hrel
            obtain ⟨t, rfl⟩ : ∃ t, k2 = t + 1 := ⟨k2 - 1, by omega⟩
            have hkk := HC.out.lt
            by_cases hlt2 : t + 1 < L
            · have hlt2' : ((t + 1 : Nat) : Int) < L := by omega
              obtain ⟨z0, z1⟩ := HPB.out.cell (show m + 1 + (t + 1) < d.length by omega)
              obtain ⟨v0, v1⟩ := HPB.out.cell (show m + 1 + t < d.length by omega)
              obtain ⟨o0, o1⟩ := HPB.out.cell (show kk < d.length by omega)
              have f0 := HPB.out.free (kk * 2)
              have f1 := HPB.out.free (kk * 2 + 1)
              rw [HC.out.high _ (by omega)] at z0 z1 v0 v1
              rw [show (m + 1 + (t + 1)) * 2 = (m + 1) * 2 + (t + 1) * 2 by omega] at z0 z1
              rw [show (m + 1 + t) * 2 = (m + 1) * 2 + t * 2 by omega] at v0 v1
              obtain ⟨u, HU⟩ := named (d.getD (m + 1 + (t + 1)) Pr.zero)
              obtain ⟨v, HV⟩ := named (d.getD (m + 1 + t) Pr.zero)
              rw [HU.out] at z0 z1
              rw [HV.out] at v0 v1
              have HE : Hid (m + 1 + (t + 1) = m + 1 + t + 1) := rfl
              by_cases huv : u = v
              · subst huv
                have HC2 : Hid (Ci d (m + 1 + (t + 1 + 1)) kk D) := HC.out.skip (by omega) (by rw [HU.out]; exact HV.out.symm)
                generalize D kk = old at *
                go_wp2_with fail
                go_quiet (fail)
                go_wp2_with fail
                exact ⟨⟨kk, t + 1 + 1, D, by omega, by omega, rfl, by simp, HC2, HPB.out, HF.out.drewN _⟩, by simp [intOf]; omega⟩
              · have HC2 : Hid (Ci d (m + 1 + (t + 1 + 1)) (kk + 1) (updP D kk u)) := by
                  have := HC.out.keep (by rw [HU.out]; exact fun e => huv (e.trans HV.out))
                  rw [HU.out] at this
                  exact this
                generalize D kk = old at o0 o1
                by_cases ha : u.a = v.a
                · have hb : u.b ≠ v.b := fun hb => huv (pr_ext ha hb)
                  have hb' : ((u.b : Int) == (v.b : Int)) = false := by simp; omega
                  have ha' : ((u.a : Int) == (v.a : Int)) = true := by simp [ha]
                  clear ha hb
                  go_wp2_with fail
                  go_quiet (fail)
                  go_wp2_with fail
                  exact ⟨⟨kk + 1, t + 1 + 1, _, by omega, by omega, by simp, by simp, HC2, PB.put (w := wr.drewN nq) HPB.out (show kk < d.length by omega) u, ((HF.out.drewN nq).setCell ⟨g, kk * 2, none⟩ _ rfl).setCell ⟨g, kk * 2 + 1, none⟩ _ rfl⟩, by simp [intOf]; omega⟩
                · have ha' : ((u.a : Int) == (v.a : Int)) = false := by simp; omega
                  go_wp2_with fail
                  go_quiet (fail)
                  go_wp2_with fail
                  exact ⟨⟨kk + 1, t + 1 + 1, _, by omega, by omega, by simp, by simp, HC2, PB.put (w := wr.drewN nq) HPB.out (show kk < d.length by omega) u, ((HF.out.drewN nq).setCell ⟨g, kk * 2, none⟩ _ rfl).setCell ⟨g, kk * 2 + 1, none⟩ _ rfl⟩, by simp [intOf]; omega⟩
            · have hlt2' : ¬ ((t + 1 : Nat) : Int) < L := by omega
              have hend : m + 1 + (t + 1) = d.length := by omega
              rw [hend] at HC
              have hkd : kk < d.length := by omega
              obtain ⟨zs, hcl⟩ : ∃ zs, ∀ ty, (Builtin.clear_ #[74] ty #[.slice (some ⟨g, kk * 2, none⟩) (d.length - kk) (c - kk)]).run Try.prog wr = .ok (.tuple #[]) (wr.setCells g (kk * 2) zs) := by
                obtain ⟨zs, hz⟩ := run_clear2 wr 0 g (kk * 2) (d.length - kk) (c - kk) (by omega) (fun j hj => by
                  obtain ⟨i, hi⟩ : ∃ i, kk * 2 + j = i * 2 ∨ kk * 2 + j = i * 2 + 1 := ⟨(kk * 2 + j) / 2, by omega⟩
                  obtain ⟨q0, q1⟩ := HPB.out.cell (show i < d.length by omega)
                  rcases hi with e | e
                  · rw [e, q0]; rfl
                  · rw [e, q1]; rfl) (fun j _ => HPB.out.free _)
                exact ⟨zs, fun ty => hz⟩
              have HPE := Lib.hid (setCells_PB zs (kk * 2) wr (Nat.le_refl _) (HPB.out.less (Nat.le_of_lt hkd)))
              have HFE := Lib.hid (HF.out.trans (setCells_fr g zs (kk * 2) wr))
              have hkc : (kk : Int) ≤ c := by omega
              go_wp2_with fail
              go_ret
              have hl := HC.out.len
              have hlow := HC.out.low
              rw [hl]
              refine ⟨rfl, ?_, HFE.out⟩
              refine PB_own ?_ hB (by rw [hl]; omega) hcm
              rw [hl]
              exact HPE.out.congr hlow
        · have HKP : Hid (ddk d (m + 1 + 1) = d.take (m + 1 + 1)) := by
            show _ = _
            rw [ddk_keep (fun h => hxy (by rw [← HX.out, ← HY.out]; exact h.2)), HT.out, ← take_snocP hlt]
          by_cases ha : x.a = y.a
          · have hb : x.b ≠ y.b := fun hb => hxy (pr_ext ha hb)
            have hb' : ((x.b : Int) == (y.b : Int)) = false := by simp; omega
            rw [ha] at x0
            go_wp2_with fail
            go_quiet (fail)
            go_wp2_with fail
            exact ⟨⟨m + 1 + 1, _, by omega, by omega, by simp, HKP, rfl⟩, by simp [intOf]; omega⟩
          · have ha' : ((x.a : Int) == (y.a : Int)) = false := by simp; omega
            go_wp2_with fail
            go_quiet (fail)
            go_wp2_with fail
            exact ⟨⟨m + 1 + 1, _, by omega, by omega, by simp, HKP, rfl⟩, by simp [intOf]; omega⟩
      · have hlt' : ¬ (((m + 1 : Nat) : Int)) < d.length := by omega
        have hlen : m + 1 = d.length := by omega
        have hdd : ddk d d.length = d := by rw [← hlen, HT.out, hlen, List.take_length]
        have HDD := Lib.hid hdd
        clear hdd hlen
        go_wp2_with fail
        go_ret
        rw [HDD.out]
        exact ⟨rfl, own_drew HOWN.out _, (Fr.refl _ _).drewN _⟩
end Go.Proofs.Ytgpaoiddjlpcmaa
namespace Go.Proofs.Ytgpaoiddjlpcmaa
open Go.RowKit
/-- One pair is ahead of another. -/
def ltP (x y : Pr) : Prop := x.a < y.a ∨ x.a = y.a ∧ x.b < y.b
instance (x y : Pr) : Decidable (ltP x y) := by unfold ltP; exact inferInstance
theorem cmpP_lt (x y : Pr) : cmpP x y < 0 ↔ ltP x y := by
  unfold cmpP orI cmpI ltP
  by_cases h1 : x.a < y.a
  · have : (x.a : Int) < y.a := by omega
    simp [this, h1]
  · by_cases h2 : y.a < x.a
    · have q1 : ¬ (x.a : Int) < y.a := by omega
      have q2 : (y.a : Int) < x.a := by omega
      simp [q1, q2, h1]; omega
    · have q1 : ¬ (x.a : Int) < y.a := by omega
      have q2 : ¬ (y.a : Int) < x.a := by omega
      have e : x.a = y.a := by omega
      by_cases h3 : x.b < y.b
      · have q3 : (x.b : Int) < y.b := by omega
        simp [q3, h3, e]
      · have q3 : ¬ (x.b : Int) < y.b := by omega
        by_cases h4 : y.b < x.b
        · have q4 : (y.b : Int) < x.b := by omega
          simp [q3, q4, h3, e]
        · have q4 : ¬ (y.b : Int) < x.b := by omega
          simp [q3, q4, h3, e]
theorem ltP_trans {x y z : Pr} (h1 : ltP x y) (h2 : ltP y z) : ltP x z := by unfold ltP at *; omega
theorem ltP_irrefl (x : Pr) : ¬ ltP x x := by unfold ltP; omega
theorem ltP_tri (x y : Pr) (h1 : ¬ ltP x y) (h2 : ¬ ltP y x) : x = y := by unfold ltP at *; exact pr_ext (by omega) (by omega)
/-- Pairs in order. -/
def srtP (d : List Pr) : List Pr := d.mergeSort fun x y => !decide (cmpP y x < 0)
theorem srtP_len (d : List Pr) : (srtP d).length = d.length := by simp [srtP]
theorem srtP_mem {d : List Pr} {x : Pr} : x ∈ srtP d ↔ x ∈ d := by simp [srtP]
theorem srtP_sorted (d : List Pr) : (srtP d).Pairwise (fun x y => ¬ ltP y x) := by
  have h := List.pairwise_mergeSort (le := fun x y => !decide (cmpP y x < 0)) (fun a b c h1 h2 => by
    simp only [Bool.not_eq_true', decide_eq_false_iff_not, cmpP_lt] at h1 h2 ⊢
    unfold ltP at *; omega) (fun a b => by
    simp only [Bool.or_eq_true, Bool.not_eq_true', decide_eq_false_iff_not, cmpP_lt]
    unfold ltP; omega) d
  refine h.imp fun {x y} h => ?_
  simp only [Bool.not_eq_true', decide_eq_false_iff_not, cmpP_lt] at h
  exact h
theorem getD_memP {q : List Pr} {i : Nat} (h : i < q.length) : q.getD i Pr.zero ∈ q := by simp [List.getD, List.getElem?_eq_getElem h]
theorem sorted_get {d : List Pr} (h : d.Pairwise (fun x y => ¬ ltP y x)) {i j : Nat} (hij : i < j) (hj : j < d.length) : ¬ ltP (d.getD j Pr.zero) (d.getD i Pr.zero) := by
  have := List.pairwise_iff_getElem.1 h i j (by omega) hj hij
  simpa [List.getD, hj, show i < d.length by omega] using this
theorem ddk_inv {d : List Pr} (h : d.Pairwise (fun x y => ¬ ltP y x)) : ∀ k, k ≤ d.length → (ddk d k).Pairwise ltP ∧ (∀ x, x ∈ ddk d k ↔ x ∈ d.take k)
  | 0, _ => ⟨by simp [ddk], fun x => by simp [ddk]⟩
  | k + 1, hk => by
    obtain ⟨h1, h2⟩ := ddk_inv h k (by omega)
    have hts := take_snocP (p := d) (k := k) (by omega)
    by_cases hc : 0 < k ∧ d.getD k Pr.zero = d.getD (k - 1) Pr.zero
    · rw [ddk_skip hc]
      refine ⟨h1, fun x => ?_⟩
      rw [h2, hts, List.mem_append, List.mem_singleton]
      constructor
      · exact .inl
      · rintro (hx | rfl)
        · exact hx
        · rw [hc.2]
          have : (d.take k).getD (k - 1) Pr.zero = d.getD (k - 1) Pr.zero := by
            simp [List.getD, show k - 1 < k by omega]
          rw [← this]
          exact getD_memP (by rw [List.length_take]; omega)
    · rw [ddk_keep hc]
      refine ⟨?_, fun x => ?_⟩
      · rw [List.pairwise_append]
        refine ⟨h1, by simp, fun x hx y hy => ?_⟩
        rw [List.mem_singleton] at hy
        subst hy
        have hx := (h2 x).1 hx
        obtain ⟨i, hi, rfl⟩ := List.mem_iff_getElem.1 hx
        rw [List.length_take] at hi
        have e : (d.take k)[i] = d.getD i Pr.zero := by simp [List.getD, show i < d.length by omega]
        rw [e]
        have hik : i < k := by omega
        have s1 := sorted_get h hik (by omega)
        have s2 := sorted_get h (show k - 1 < k by omega) (by omega)
        have hne : d.getD k Pr.zero ≠ d.getD (k - 1) Pr.zero := fun e => hc ⟨by omega, e⟩
        have s3 : ltP (d.getD (k - 1) Pr.zero) (d.getD k Pr.zero) := by
          by_cases q : ltP (d.getD (k - 1) Pr.zero) (d.getD k Pr.zero)
          · exact q
          · exact absurd (ltP_tri _ _ s2 q) hne
        by_cases ei : i = k - 1
        · rw [ei]; exact s3
        · have s4 := sorted_get h (show i < k - 1 by omega) (by omega)
          unfold ltP at *
          omega
      · rw [List.mem_append, h2, hts, List.mem_append]
/-- The pairs of the arcs, as they come. -/
def pq (l : List A) : List Pr := l.filterMap (fun x => if x.f = x.t then none else some ⟨(min x.f x.t).toNat, (max x.f x.t).toNat⟩)
theorem pq_snoc (q : List A) (x : A) : pq (q ++ [x]) = if x.f = x.t then pq q else pq q ++ [⟨(min x.f x.t).toNat, (max x.f x.t).toNat⟩] := by
  unfold pq
  rw [List.filterMap_append]
  by_cases h : x.f = x.t
  · rw [if_pos h]; simp [h]
  · rw [if_neg h]; simp [h]
theorem pq_len (l : List A) : (pq l).length ≤ l.length := List.length_filterMap_le _ _
/-- All pairs, in order. -/
def prl (l : List A) : List Pr := ddk (srtP (pq l)) (srtP (pq l)).length
theorem prl_sorted (l : List A) : (prl l).Pairwise ltP := (ddk_inv (srtP_sorted (pq l)) _ (Nat.le_refl _)).1
theorem prl_len (l : List A) : (prl l).length ≤ l.length := Nat.le_trans (ddk_len _ _) (by rw [srtP_len]; exact pq_len l)
/-- Some arc joins v and u. -/
def nr (q : List A) (v u : Nat) : Bool := q.any (fun x => (x.f == (v : Int) && x.t == (u : Int)) || (x.t == (v : Int) && x.f == (u : Int)))
theorem prl_mem {l : List A} (hpo : ∀ x, x ∈ l → 0 ≤ x.f ∧ 0 ≤ x.t) {p : Pr} : p ∈ prl l ↔ p.a < p.b ∧ nr l p.a p.b = true := by
  have h := (ddk_inv (srtP_sorted (pq l)) _ (Nat.le_refl _)).2 p
  unfold prl
  rw [h, List.take_length, srtP_mem]
  unfold pq nr
  rw [List.mem_filterMap, List.any_eq_true]
  constructor
  · rintro ⟨x, hx, he⟩
    have hp := hpo x hx
    by_cases e : x.f = x.t
    · simp [e] at he
    · rw [if_neg e] at he
      injection he with he
      subst he
      refine ⟨by show (min x.f x.t).toNat < (max x.f x.t).toNat; omega, x, hx, ?_⟩
      simp only [Bool.or_eq_true, Bool.and_eq_true, beq_iff_eq]
      omega
  · rintro ⟨hab, x, hx, hn⟩
    have hp := hpo x hx
    simp only [Bool.or_eq_true, Bool.and_eq_true, beq_iff_eq] at hn
    refine ⟨x, hx, ?_⟩
    rw [if_neg (by omega)]
    congr 1
    exact pr_ext (by show (min x.f x.t).toNat = p.a; omega) (by show (max x.f x.t).toNat = p.b; omega)
/-- Two lists of pairs in strict order with the same members are one. -/
theorem sorted_one {p q : List Pr} (hp : p.Pairwise ltP) (hq : q.Pairwise ltP) (he : ∀ x, x ∈ p ↔ x ∈ q) : p = q := by
  have hn : ∀ {r : List Pr}, r.Pairwise ltP → r.Nodup := fun h => h.imp fun {a b} h e => by subst e; exact ltP_irrefl _ h
  refine List.Perm.eq_of_pairwise (le := ltP) (fun a b _ _ h1 h2 => absurd (ltP_trans h1 h2) (ltP_irrefl _)) hp hq ((List.perm_ext_iff_of_nodup (hn hp) (hn hq)).2 he)
end Go.Proofs.Ytgpaoiddjlpcmaa
