/-
  Contracts of cell's chosen, for each function that is handed to it.
-/
import Derived.Test.YtpmjbeiclmllmaaGreatCeM
namespace Go.Proofs.YtpmjbeiclmllmaaGreat
open Go.RowKit
/-- Numbers of a row that is the call's own, and may be cut. -/
def RowI (w : World) (B : Nat) (v : Option Addr) (xs : List Int) : Prop :=
  (v = none ∧ xs = []) ∨ ∃ g cur, v = some ⟨g, 0, none⟩ ∧ B ≤ g ∧ w.heap[g]? = some (.cells cur 3 (0, 0)) ∧ cur.toList.take xs.length = cellsI xs
theorem rowI_own {w : World} {B : Nat} {a : Option Addr} {c : Nat} {S : List Nat} (h : w.ownsRow B 3 1 (.slice a S.length c) S.length (cellsI (ints S))) : RowI w B a (ints S) := by
  rcases h.2 with ⟨h1, h2⟩ | ⟨g, cap, cur, h1, h2, h3, h4, h5, h6, h7⟩
  · injection h1 with e1 e2 e3
    exact Or.inl ⟨e1, by simp [ints, List.eq_nil_of_length_eq_zero h2]⟩
  · injection h1 with e1 e2 e3
    exact Or.inr ⟨g, cur, e1, h2, h3, by rw [ints_len]; simpa using h7⟩
theorem RowI.on {w w' : World} {B : Nat} {v : Option Addr} {xs : List Int} (h : RowI w B v xs) (hb : Below w.heap.size w w') : RowI w' B v xs := by
  rcases h with h | ⟨g, cur, h1, h2, h3, h4⟩
  · exact Or.inl h
  · exact Or.inr ⟨g, cur, h1, h2, (hb.block g (lt_of_block h3)).trans h3, h4⟩
theorem RowI.base {w : World} {B C : Nat} {v : Option Addr} {xs : List Int} (h : RowI w B v xs) (hb : C ≤ B) : RowI w C v xs := by
  rcases h with h | ⟨g, cur, h1, h2, h3, h4⟩
  · exact Or.inl h
  · exact Or.inr ⟨g, cur, h1, Nat.le_trans hb h2, h3, h4⟩
theorem RowI.ints {w : World} {B : Nat} {v : Option Addr} {xs : List Int} (h : RowI w B v xs) : Ints w v xs := by
  rcases h with ⟨_, h⟩ | ⟨g, cur, h1, h2, h3, h4⟩
  · exact Or.inl h
  · refine Or.inr ⟨g, 0, h1, lt_of_block h3, fun j hj => ?_⟩
    have h5 := cellsI_getD xs j hj
    rw [← h4, List.getElem?_take_of_lt hj] at h5
    rw [Nat.zero_add]
    simp only [World.cell?, h3]
    simpa using h5
set_option maxRecDepth 100000 in
set_option maxHeartbeats 1600000 in
theorem chosenB_any (n : Nat) (P : Nat → Bool) (u0 u1 u2 : Value) (w : World) (hn : n ≤ 8192) (hF : ∀ k, k < n → ∀ W2, Below w.heap.size w W2 → Calls Tryz.prog 114 #[.int .i64 k, u0, u1, u2] W2 fun e w' => e = .returned (.bool (P k)) ∧ Below W2.heap.size W2 w') :
    Calls Tryz.prog 85 #[.int .i64 n, .func (.func 114) #[] #[u0, u1, u2]] w fun e w' => ∃ v, e = .returned (.slice v (cho P n).length (cho P n).length) ∧ RowI w' w.heap.size v (ints (cho P n)) ∧ Below w.heap.size w w' := by
  obtain ⟨i3, hi3, hz3, hs3, hby3⟩ := info_parts info3
  have HF := Lib.hid hF
  clear hF
  have HB0 : Hid (Below w.heap.size w w) := Below.refl _ _
  have HO0 : Hid (w.ownsRow w.heap.size 3 1 (.slice none 0 0) 0 (cellsI (ints []))) := ⟨rfl, Or.inl ⟨rfl, rfl⟩⟩
  generalize hp : w.heap.size = p at *
  go_enter Tryz.func85, Tryz.ntmps85
  go_wp2_with fail
  go_loopw [5, 8] (fun s5 i wr => ∃ (k : Nat) (av : Option Addr) (cv : Nat) (S : List Nat), k ≤ n ∧ i = .int .i64 k ∧ s5 = .slice av S.length cv ∧ S.length ≤ k ∧ S.length ≤ cv ∧ Hid (cho P k = S) ∧ Hid (wr.ownsRow p 3 1 (.slice av S.length cv) S.length (cellsI (ints S))) ∧ Hid (Below p w wr)) (fun _ i _ => n - (intOf i).toNat)
  case atStart => exact ⟨0, _, _, [], Nat.zero_le _, rfl, rfl, Nat.zero_le _, Nat.zero_le _, rfl, HO0, HB0⟩
  case round =>
    obtain ⟨k, av, cv, S, hk, rfl, rfl, hSk, hSc, HS, HOW, HBR⟩ := hrel
    have hwr : p ≤ wr.heap.size := by have := HBR.out.size; omega
    by_cases hlk : k < n
    · have hlk' : (k : Int) < n := by omega
      have HFK := Lib.hid (HF.out k hlk)
      have HT := Lib.hid (cho_t (p := P) (k := k))
      have HFF := Lib.hid (cho_f (p := P) (k := k))
      obtain ⟨b, HPb⟩ := named (P k)
      rw [HPb.out] at HFK HT HFF
      go_wp2_with fail
      refine (HFK.out wr HBR.out).mono ?_
      rintro e w2 ⟨rfl, hb2⟩
      have HO2 : Hid (w2.ownsRow p 3 1 (.slice av S.length cv) S.length (cellsI (ints S))) := own_on HOW.out hb2
      have HB2 : Hid (Below p w w2) := HBR.out.trans (hb2.mono hwr)
      have hw2 : p ≤ w2.heap.size := by have := hb2.size; omega
      clear HOW HBR hb2 hwr HFK
      rcases b with _ | _
      · have HS2 : Hid (cho P (k + 1) = S) := (HFF.out rfl).trans HS.out
        clear HT HFF
        go_wp2_with fail
        exact ⟨⟨k + 1, av, cv, S, by omega, by simp, rfl, by omega, hSc, HS2, HO2, HB2⟩, by simp [intOf]; omega⟩
      · have HS2 : Hid (cho P (k + 1) = S ++ [k]) := (HT.out rfl).trans (by rw [HS.out])
        have HNW := Lib.hid (one_new w2 k)
        have HO3 := Lib.hid (HO2.out.alloc (.cells #[.int .i64 k] 3))
        have HBZ : Hid (p ≤ (w2.alloc (.cells #[.int .i64 k] 3)).heap.size) := by show _ ≤ _; rw [World.size_alloc]; omega
        have HBB : Hid (Below p w (w2.alloc (.cells #[.int .i64 k] 3))) := HB2.out.alloc (by omega) _
        have HOL : Hid (∀ b, (Value.slice av S.length cv).ownBlock = some b → p ≤ b) := fun b hb => (HO2.out.lt b hb).1
        have HCA : Hid (cellsI (ints S) ++ [.int .i64 k] = cellsI (ints (S ++ [k]))) := by show _ = _; rw [ints_snoc, ← cellsI_snoc]
        have hs8 : S.length ≤ 8192 := by omega
        clear HT HFF
        go_wp2_with (at_builtin; refine wpList_append_own _ rfl (.tmp 14) (.tmp 16) 25 rfl p 3 i3 (.int .i64 0) 1 8 Tryz.underlying25 hi3 hz3 hs3 hby3 rfl (by decide) (.slice av S.length cv) S.length (cellsI (ints S)) rfl HO3.out ⟨w2.heap.size, 0, none⟩ 1 1 [.int .i64 k] rfl rfl HNW.out (one_i64 _) (by unfold maxLen; omega) (by omega) HBZ.out ?_; intro v6 w6 hown6 hgrow6 hnil6; obtain ⟨g6, c6, hv6, _, hc6, _, hm6⟩ := own_shape hown6 (fun e => by have := hnil6.1 e; simp at this); subst hv6; rw [HCA.out] at hown6; have h7 : w6.ownsRow p 3 1 (.slice (some ⟨g6, 0, none⟩) (S ++ [k]).length c6) (S ++ [k]).length (cellsI (ints (S ++ [k]))) := (by rw [List.length_append]; exact hown6); have HO7 := Lib.hid h7; have HB6 : Hid (Below p w w6) := HBB.out.grown hgrow6 HBZ.out (fun j hj => HOL.out j hj); clear hown6 hgrow6 hnil6 h7)
        exact ⟨⟨k + 1, some ⟨g6, 0, none⟩, c6, S ++ [k], by omega, by simp, by rw [List.length_append]; rfl, by rw [List.length_append]; simp; omega, by rw [List.length_append]; exact hc6, HS2, HO7, HB6⟩, by simp [intOf]; omega⟩
    · obtain rfl : k = n := by omega
      have hlk' : ¬ (k : Int) < k := by omega
      have hsc' : (S.length : Int) ≤ cv := by omega
      clear HF
      go_wp2_with fail
      go_ret
      rw [HS.out]
      exact ⟨av, rfl, rowI_own HOW.out, HBR.out⟩
set_option maxRecDepth 100000 in
set_option maxHeartbeats 1600000 in
theorem chosenA_any (n : Nat) (P : Nat → Bool) (u0 u1 : Value) (w : World) (hn : n ≤ 8192) (hF : ∀ k, k < n → ∀ W2, Below w.heap.size w W2 → Calls Tryz.prog 99 #[.int .i64 k, u0, u1] W2 fun e w' => e = .returned (.bool (P k)) ∧ Below W2.heap.size W2 w') :
    Calls Tryz.prog 85 #[.int .i64 n, .func (.func 99) #[] #[u0, u1]] w fun e w' => ∃ v, e = .returned (.slice v (cho P n).length (cho P n).length) ∧ RowI w' w.heap.size v (ints (cho P n)) ∧ Below w.heap.size w w' := by
  obtain ⟨i3, hi3, hz3, hs3, hby3⟩ := info_parts info3
  have HF := Lib.hid hF
  clear hF
  have HB0 : Hid (Below w.heap.size w w) := Below.refl _ _
  have HO0 : Hid (w.ownsRow w.heap.size 3 1 (.slice none 0 0) 0 (cellsI (ints []))) := ⟨rfl, Or.inl ⟨rfl, rfl⟩⟩
  generalize hp : w.heap.size = p at *
  go_enter Tryz.func85, Tryz.ntmps85
  go_wp2_with fail
  go_loopw [5, 8] (fun s5 i wr => ∃ (k : Nat) (av : Option Addr) (cv : Nat) (S : List Nat), k ≤ n ∧ i = .int .i64 k ∧ s5 = .slice av S.length cv ∧ S.length ≤ k ∧ S.length ≤ cv ∧ Hid (cho P k = S) ∧ Hid (wr.ownsRow p 3 1 (.slice av S.length cv) S.length (cellsI (ints S))) ∧ Hid (Below p w wr)) (fun _ i _ => n - (intOf i).toNat)
  case atStart => exact ⟨0, _, _, [], Nat.zero_le _, rfl, rfl, Nat.zero_le _, Nat.zero_le _, rfl, HO0, HB0⟩
  case round =>
    obtain ⟨k, av, cv, S, hk, rfl, rfl, hSk, hSc, HS, HOW, HBR⟩ := hrel
    have hwr : p ≤ wr.heap.size := by have := HBR.out.size; omega
    by_cases hlk : k < n
    · have hlk' : (k : Int) < n := by omega
      have HFK := Lib.hid (HF.out k hlk)
      have HT := Lib.hid (cho_t (p := P) (k := k))
      have HFF := Lib.hid (cho_f (p := P) (k := k))
      obtain ⟨b, HPb⟩ := named (P k)
      rw [HPb.out] at HFK HT HFF
      go_wp2_with fail
      refine (HFK.out wr HBR.out).mono ?_
      rintro e w2 ⟨rfl, hb2⟩
      have HO2 : Hid (w2.ownsRow p 3 1 (.slice av S.length cv) S.length (cellsI (ints S))) := own_on HOW.out hb2
      have HB2 : Hid (Below p w w2) := HBR.out.trans (hb2.mono hwr)
      have hw2 : p ≤ w2.heap.size := by have := hb2.size; omega
      clear HOW HBR hb2 hwr HFK
      rcases b with _ | _
      · have HS2 : Hid (cho P (k + 1) = S) := (HFF.out rfl).trans HS.out
        clear HT HFF
        go_wp2_with fail
        exact ⟨⟨k + 1, av, cv, S, by omega, by simp, rfl, by omega, hSc, HS2, HO2, HB2⟩, by simp [intOf]; omega⟩
      · have HS2 : Hid (cho P (k + 1) = S ++ [k]) := (HT.out rfl).trans (by rw [HS.out])
        have HNW := Lib.hid (one_new w2 k)
        have HO3 := Lib.hid (HO2.out.alloc (.cells #[.int .i64 k] 3))
        have HBZ : Hid (p ≤ (w2.alloc (.cells #[.int .i64 k] 3)).heap.size) := by show _ ≤ _; rw [World.size_alloc]; omega
        have HBB : Hid (Below p w (w2.alloc (.cells #[.int .i64 k] 3))) := HB2.out.alloc (by omega) _
        have HOL : Hid (∀ b, (Value.slice av S.length cv).ownBlock = some b → p ≤ b) := fun b hb => (HO2.out.lt b hb).1
        have HCA : Hid (cellsI (ints S) ++ [.int .i64 k] = cellsI (ints (S ++ [k]))) := by show _ = _; rw [ints_snoc, ← cellsI_snoc]
        have hs8 : S.length ≤ 8192 := by omega
        clear HT HFF
        go_wp2_with (at_builtin; refine wpList_append_own _ rfl (.tmp 14) (.tmp 16) 25 rfl p 3 i3 (.int .i64 0) 1 8 Tryz.underlying25 hi3 hz3 hs3 hby3 rfl (by decide) (.slice av S.length cv) S.length (cellsI (ints S)) rfl HO3.out ⟨w2.heap.size, 0, none⟩ 1 1 [.int .i64 k] rfl rfl HNW.out (one_i64 _) (by unfold maxLen; omega) (by omega) HBZ.out ?_; intro v6 w6 hown6 hgrow6 hnil6; obtain ⟨g6, c6, hv6, _, hc6, _, hm6⟩ := own_shape hown6 (fun e => by have := hnil6.1 e; simp at this); subst hv6; rw [HCA.out] at hown6; have h7 : w6.ownsRow p 3 1 (.slice (some ⟨g6, 0, none⟩) (S ++ [k]).length c6) (S ++ [k]).length (cellsI (ints (S ++ [k]))) := (by rw [List.length_append]; exact hown6); have HO7 := Lib.hid h7; have HB6 : Hid (Below p w w6) := HBB.out.grown hgrow6 HBZ.out (fun j hj => HOL.out j hj); clear hown6 hgrow6 hnil6 h7)
        exact ⟨⟨k + 1, some ⟨g6, 0, none⟩, c6, S ++ [k], by omega, by simp, by rw [List.length_append]; rfl, by rw [List.length_append]; simp; omega, by rw [List.length_append]; exact hc6, HS2, HO7, HB6⟩, by simp [intOf]; omega⟩
    · obtain rfl : k = n := by omega
      have hlk' : ¬ (k : Int) < k := by omega
      have hsc' : (S.length : Int) ≤ cv := by omega
      clear HF
      go_wp2_with fail
      go_ret
      rw [HS.out]
      exact ⟨av, rfl, rowI_own HOW.out, HBR.out⟩
set_option maxRecDepth 100000 in
set_option maxHeartbeats 1600000 in
theorem chosenS_any (n : Nat) (P : Nat → Bool) (u0 : Value) (w : World) (hn : n ≤ 8192) (hF : ∀ k, k < n → ∀ W2, Below w.heap.size w W2 → Calls Tryz.prog 86 #[.int .i64 k, u0] W2 fun e w' => e = .returned (.bool (P k)) ∧ Below W2.heap.size W2 w') :
    Calls Tryz.prog 85 #[.int .i64 n, .func (.func 86) #[] #[u0]] w fun e w' => ∃ v, e = .returned (.slice v (cho P n).length (cho P n).length) ∧ RowI w' w.heap.size v (ints (cho P n)) ∧ Below w.heap.size w w' := by
  obtain ⟨i3, hi3, hz3, hs3, hby3⟩ := info_parts info3
  have HF := Lib.hid hF
  clear hF
  have HB0 : Hid (Below w.heap.size w w) := Below.refl _ _
  have HO0 : Hid (w.ownsRow w.heap.size 3 1 (.slice none 0 0) 0 (cellsI (ints []))) := ⟨rfl, Or.inl ⟨rfl, rfl⟩⟩
  generalize hp : w.heap.size = p at *
  go_enter Tryz.func85, Tryz.ntmps85
  go_wp2_with fail
  go_loopw [5, 8] (fun s5 i wr => ∃ (k : Nat) (av : Option Addr) (cv : Nat) (S : List Nat), k ≤ n ∧ i = .int .i64 k ∧ s5 = .slice av S.length cv ∧ S.length ≤ k ∧ S.length ≤ cv ∧ Hid (cho P k = S) ∧ Hid (wr.ownsRow p 3 1 (.slice av S.length cv) S.length (cellsI (ints S))) ∧ Hid (Below p w wr)) (fun _ i _ => n - (intOf i).toNat)
  case atStart => exact ⟨0, _, _, [], Nat.zero_le _, rfl, rfl, Nat.zero_le _, Nat.zero_le _, rfl, HO0, HB0⟩
  case round =>
    obtain ⟨k, av, cv, S, hk, rfl, rfl, hSk, hSc, HS, HOW, HBR⟩ := hrel
    have hwr : p ≤ wr.heap.size := by have := HBR.out.size; omega
    by_cases hlk : k < n
    · have hlk' : (k : Int) < n := by omega
      have HFK := Lib.hid (HF.out k hlk)
      have HT := Lib.hid (cho_t (p := P) (k := k))
      have HFF := Lib.hid (cho_f (p := P) (k := k))
      obtain ⟨b, HPb⟩ := named (P k)
      rw [HPb.out] at HFK HT HFF
      go_wp2_with fail
      refine (HFK.out wr HBR.out).mono ?_
      rintro e w2 ⟨rfl, hb2⟩
      have HO2 : Hid (w2.ownsRow p 3 1 (.slice av S.length cv) S.length (cellsI (ints S))) := own_on HOW.out hb2
      have HB2 : Hid (Below p w w2) := HBR.out.trans (hb2.mono hwr)
      have hw2 : p ≤ w2.heap.size := by have := hb2.size; omega
      clear HOW HBR hb2 hwr HFK
      rcases b with _ | _
      · have HS2 : Hid (cho P (k + 1) = S) := (HFF.out rfl).trans HS.out
        clear HT HFF
        go_wp2_with fail
        exact ⟨⟨k + 1, av, cv, S, by omega, by simp, rfl, by omega, hSc, HS2, HO2, HB2⟩, by simp [intOf]; omega⟩
      · have HS2 : Hid (cho P (k + 1) = S ++ [k]) := (HT.out rfl).trans (by rw [HS.out])
        have HNW := Lib.hid (one_new w2 k)
        have HO3 := Lib.hid (HO2.out.alloc (.cells #[.int .i64 k] 3))
        have HBZ : Hid (p ≤ (w2.alloc (.cells #[.int .i64 k] 3)).heap.size) := by show _ ≤ _; rw [World.size_alloc]; omega
        have HBB : Hid (Below p w (w2.alloc (.cells #[.int .i64 k] 3))) := HB2.out.alloc (by omega) _
        have HOL : Hid (∀ b, (Value.slice av S.length cv).ownBlock = some b → p ≤ b) := fun b hb => (HO2.out.lt b hb).1
        have HCA : Hid (cellsI (ints S) ++ [.int .i64 k] = cellsI (ints (S ++ [k]))) := by show _ = _; rw [ints_snoc, ← cellsI_snoc]
        have hs8 : S.length ≤ 8192 := by omega
        clear HT HFF
        go_wp2_with (at_builtin; refine wpList_append_own _ rfl (.tmp 14) (.tmp 16) 25 rfl p 3 i3 (.int .i64 0) 1 8 Tryz.underlying25 hi3 hz3 hs3 hby3 rfl (by decide) (.slice av S.length cv) S.length (cellsI (ints S)) rfl HO3.out ⟨w2.heap.size, 0, none⟩ 1 1 [.int .i64 k] rfl rfl HNW.out (one_i64 _) (by unfold maxLen; omega) (by omega) HBZ.out ?_; intro v6 w6 hown6 hgrow6 hnil6; obtain ⟨g6, c6, hv6, _, hc6, _, hm6⟩ := own_shape hown6 (fun e => by have := hnil6.1 e; simp at this); subst hv6; rw [HCA.out] at hown6; have h7 : w6.ownsRow p 3 1 (.slice (some ⟨g6, 0, none⟩) (S ++ [k]).length c6) (S ++ [k]).length (cellsI (ints (S ++ [k]))) := (by rw [List.length_append]; exact hown6); have HO7 := Lib.hid h7; have HB6 : Hid (Below p w w6) := HBB.out.grown hgrow6 HBZ.out (fun j hj => HOL.out j hj); clear hown6 hgrow6 hnil6 h7)
        exact ⟨⟨k + 1, some ⟨g6, 0, none⟩, c6, S ++ [k], by omega, by simp, by rw [List.length_append]; rfl, by rw [List.length_append]; simp; omega, by rw [List.length_append]; exact hc6, HS2, HO7, HB6⟩, by simp [intOf]; omega⟩
    · obtain rfl : k = n := by omega
      have hlk' : ¬ (k : Int) < k := by omega
      have hsc' : (S.length : Int) ≤ cv := by omega
      clear HF
      go_wp2_with fail
      go_ret
      rw [HS.out]
      exact ⟨av, rfl, rowI_own HOW.out, HBR.out⟩
end Go.Proofs.YtpmjbeiclmllmaaGreat
