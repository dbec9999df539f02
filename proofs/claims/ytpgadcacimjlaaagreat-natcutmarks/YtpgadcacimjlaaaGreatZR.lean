/-
  Lists of numbers that are lent, and kept. Contract of the reference's Tidy, at numbers that are given. Labels that are right are their own tidy ones. Contracts of flyoverref08.Right, Between and Count.
-/
import Derived.Test.YtpgadcacimjlaaaGreatZK
import Derived.Test.YtpgadcacimjlaaaGreatZN
import Derived.Test.YtpgadcacimjlaaaGreatZJ
import Derived.Test.YtpgadcacimjlaaaGreatZA
import Derived.Test.YtpgadcacimjlaaaGreatZM
namespace Go.Proofs.YtpgadcacimjlaaaGreat.T3
open Go.RowKit
set_option maxHeartbeats 1600000 in
theorem rtidyI_any (av : Option Addr) (n cap : Nat) (L : List Int) (R : Nat → Nat) (w : World) (hn : n ≤ 1024) (hRT : RT R) (hLl : L.length = n) (hS : ∀ u v, u < n → v < n → (L.getD u 0 = L.getD v 0 ↔ R u = R v)) (ho : Ints w av L) :
    Calls Tryz.prog 54 #[.slice av n cap] w fun e w' => e = .returned (.slice (some ⟨w.heap.size, 0, none⟩) n n) ∧ OwnL w' w.heap.size n (labs R n) ∧ Below w.heap.size w w' := by
  obtain ⟨i0, hi, hz0, hz1, hz2⟩ := info_parts info3
  obtain ⟨g, o0, hix⟩ := ho.get
  have HIX := Lib.hid hix
  clear hix ho
  have HS := Lib.hid hS
  have HRT := Lib.hid hRT
  have HLl := Lib.hid hLl
  clear hS hRT hLl
  go_enter Tryz.func54, Tryz.ntmps54
  go_wp2_with (at_make; refine wpList_make_full _ rfl (.tmp 8) (.tmp 8) 25 rfl w.heap.size 3 i0 (.int .i64 0) 1 Tryz.underlying25 hi hz0 hz1 .i64 .i64 n n n rfl rfl rfl rfl (by rw [hz2]; omega) (by unfold maxLen; omega) (Nat.le_refl _) ?_; intro w1 hown1 hgrow1)
  have hown0 : OwnZ w1 w.heap.size n (List.replicate n 0) := by
    have e : (madeCells (Value.int .i64 0).cells (n * 1)).toList = cellsI (List.replicate n 0) := by
      show (madeCells #[Value.int .i64 0] (n * 1)).toList = _
      rw [toList_madeCells_one, Nat.mul_one]
      unfold cellsI
      simp
    rw [e] at hown1
    exact hown1
  have hb1 : Below w.heap.size w w1 := (Below.refl _ _).grown hgrow1 (Nat.le_refl _) (by intro k hk; cases hk)
  clear hown1 hgrow1
  go_loopw [4, 5] (fun t i wr => ∃ (k : Nat) (X : List Int), k ≤ n ∧ i = .int .i64 (k : Int) ∧ t = .int .i64 ((cnt R k : Nat) : Int) ∧ Hid (X.length = n) ∧ Hid (∀ j, j < k → X.getD j 0 = ((lab R j : Nat) : Int)) ∧ OwnZ wr w.heap.size n X ∧ Below w.heap.size w wr) (fun _ i _ => n - (intOf i).toNat)
  case atStart => exact ⟨0, List.replicate n 0, Nat.zero_le _, rfl, rfl, by show _ = _; simp, by intro j hj; omega, hown0, hb1⟩
  case round =>
    obtain ⟨k, X, hk, rfl, rfl, HX, HJ, hown, hbel⟩ := hrel
    clear hown0 hb1
    have hck := cnt_le R k
    by_cases hlt : k < n
    · obtain ⟨rfl, hg, hat⟩ := HIX.out (by rw [HLl.out]; omega)
      have HAT := Lib.hid hat
      clear hat
      have cx := hown.cell HX.out k hlt
      have fx := hown.free k
      have hXl : k < X.length := by rw [HX.out]; exact hlt
      have hst := hown.set k (-1)
      have HJ1 : Hid (∀ j, j < k → (X.set k (-1)).getD j 0 = ((lab R j : Nat) : Int)) := by
        show ∀ j, _
        intro j hj
        rw [getDI_set _ _ _ _ hXl, if_neg (by omega)]
        exact HJ.out j hj
      have HK1 : Hid ((X.set k (-1)).getD k 0 = -1) := by show _ = _; rw [getDI_set _ _ _ _ hXl, if_pos rfl]
      have HX1 : Hid ((X.set k (-1)).length = n) := by show _ = _; rw [List.length_set]; exact HX.out
      have hb2 := hbel.setCell (p := ⟨w.heap.size, k, none⟩) (Nat.le_refl _) (.int .i64 (-1))
      generalize X.getD k 0 = x0 at *
      generalize X.set k (-1) = X1 at *
      obtain ⟨c, HC⟩ := named (cnt R k)
      rw [HC.out] at hck ⊢
      clear HJ HX hXl
      go_wp2_with fail
      go_loopw [6] (fun i wr => ∃ (u : Nat) (Y : List Int), u ≤ k ∧ i = .int .i64 (u : Int) ∧ Hid (Y.length = n) ∧ Hid (∀ j, j < k → Y.getD j 0 = ((lab R j : Nat) : Int)) ∧ Hid ((Y.getD k 0 = -1 ∧ ∀ j, j < u → L.getD j 0 ≠ L.getD k 0) ∨ (Y.getD k 0 = ((lab R k : Nat) : Int) ∧ R k ≠ k)) ∧ OwnZ wr w.heap.size n Y ∧ Below w.heap.size w wr) (fun i _ => k - (intOf i).toNat)
      case atStart => exact ⟨0, X1, Nat.zero_le _, rfl, HX1, HJ1, Or.inl ⟨HK1.out, by intro j hj; omega⟩, hst, hb2⟩
      case round =>
        obtain ⟨u, Y, hu, rfl, HY, HYJ, HALT, ho3, hb3⟩ := hrel
        clear cx fx hst hb2 HJ1 HK1 HX1 hown hbel
        have ck := ho3.cell HY.out k hlt
        have fk := ho3.free k
        have hYl : k < Y.length := by rw [HY.out]; exact hlt
        rcases HALT.out with ⟨e1, e2⟩ | ⟨e1, e2⟩
        · rw [e1] at ck
          by_cases huk : u < k
          · have lu := (hb3.cell (p := ⟨g, o0 + u, none⟩) hg).trans (HAT.out u (by rw [HLl.out]; omega))
            have lk := (hb3.cell (p := ⟨g, o0 + k, none⟩) hg).trans (HAT.out k (by rw [HLl.out]; exact hlt))
            have cu := ho3.cell HY.out u (by omega)
            rw [HYJ.out u huk] at cu
            by_cases hq : L.getD u 0 = L.getD k 0
            · rw [hq] at lu
              have hR := (HS.out u k (by omega) hlt).1 hq
              have HNE : Hid (R k ≠ k) := by
                show _ ≠ _
                intro h
                have := HRT.out.rle u
                omega
              have HLB : Hid (lab R k = lab R u) := by show _ = _; unfold lab; rw [hR]
              have hst := ho3.set k ((lab R u : Nat) : Int)
              have HJ2 : Hid (∀ j, j < k → (Y.set k ((lab R u : Nat) : Int)).getD j 0 = ((lab R j : Nat) : Int)) := by
                show ∀ j, _
                intro j hj
                rw [getDI_set _ _ _ _ hYl, if_neg (by omega)]
                exact HYJ.out j hj
              have HK2 : Hid ((Y.set k ((lab R u : Nat) : Int)).getD k 0 = ((lab R k : Nat) : Int)) := by show _ = _; rw [getDI_set _ _ _ _ hYl, if_pos rfl, HLB.out]
              have HX2 : Hid ((Y.set k ((lab R u : Nat) : Int)).length = n) := by show _ = _; rw [List.length_set]; exact HY.out
              clear e1 e2 hq hR
              generalize lab R u = z at *
              generalize L.getD k 0 = y at *
              go_wp2_with fail
              go_quiet (fail)
              go_wp2_with fail
              exact ⟨⟨u + 1, _, by omega, by go_num, HX2, HJ2, Or.inr ⟨HK2.out, HNE.out⟩, OwnZ.set (w := wr.drewN nq) (show OwnZ (wr.drewN nq) _ _ _ from ho3) k _, (hb3.trans (below_drewN _ _ _)).setCell (Nat.le_refl _) _⟩, by simp [intOf]; omega⟩
            · have hq' : (L.getD u 0 == L.getD k 0) = false := beq_eq_false_iff_ne.2 hq
              have HE2 : Hid (∀ j, j < u + 1 → L.getD j 0 ≠ L.getD k 0) := by
                show ∀ j, _
                intro j hj
                by_cases e : j = u
                · rw [e]; exact hq
                · exact e2 j (by omega)
              clear e2 hq
              have E1 := Lib.hid e1
              clear e1
              generalize L.getD u 0 = y1 at *
              generalize L.getD k 0 = y2 at *
              generalize lab R u = z at *
              go_wp2_with fail
              go_quiet (fail)
              go_wp2_with fail
              exact ⟨⟨u + 1, Y, by omega, by go_num, HY, HYJ, Or.inl ⟨E1.out, HE2.out⟩, ho3, hb3.trans (below_drewN _ _ _)⟩, by simp [intOf]; omega⟩
          · have hRk : R k = k := by
              rcases Nat.lt_or_ge (R k) k with h | h
              · exact absurd ((HS.out (R k) k (by omega) hlt).2 (HRT.out.rr k)) (e2 (R k) (by omega))
              · have := HRT.out.rle k
                omega
            have HE2 : Hid (cnt R (k + 1) = c + 1) := by show _ = _; rw [cnt, if_pos hRk, HC.out]
            have HLB : Hid (lab R k = c) := by show _ = _; unfold lab; rw [hRk, HC.out]
            have hst := ho3.set k (c : Int)
            have HJ2 : Hid (∀ j, j < k + 1 → (Y.set k (c : Int)).getD j 0 = ((lab R j : Nat) : Int)) := by
              show ∀ j, _
              intro j hj
              rw [getDI_set _ _ _ _ hYl]
              split
              · rename_i e; rw [e, HLB.out]
              · exact HYJ.out j (by omega)
            have HX2 : Hid ((Y.set k (c : Int)).length = n) := by show _ = _; rw [List.length_set]; exact HY.out
            clear e1 e2 hRk
            go_wp2_with fail
            exact ⟨⟨k + 1, _, by omega, by go_num, by rw [HE2.out]; go_num, HX2, HJ2, hst, hb3.setCell (Nat.le_refl _) _⟩, by simp [intOf]; omega⟩
        · have HE2 : Hid (cnt R (k + 1) = c) := by show _ = _; rw [cnt, if_neg e2, HC.out]
          have HJ2 : Hid (∀ j, j < k + 1 → Y.getD j 0 = ((lab R j : Nat) : Int)) := by
            show ∀ j, _
            intro j hj
            by_cases e : j = k
            · rw [e, e1]
            · exact HYJ.out j (by omega)
          rw [e1] at ck
          have E1 := Lib.hid e1
          clear e1 e2
          generalize lab R k = z at *
          have hz0 : ¬ ((z : Nat) : Int) < 0 := by omega
          by_cases huk : u < k
          · go_wp2_with fail
            exact ⟨⟨k + 1, Y, by omega, by go_num, by rw [HE2.out], HY, HJ2, ho3, hb3⟩, by simp [intOf]; omega⟩
          · go_wp2_with fail
            exact ⟨⟨k + 1, Y, by omega, by go_num, by rw [HE2.out], HY, HJ2, ho3, hb3⟩, by simp [intOf]; omega⟩
    · have hX : X = ints (labs R n) := ext_labs HX.out (fun j hj => HJ.out j (by omega))
      rw [hX] at hown
      clear hX
      go_wp2_with fail
      go_ret
      exact ⟨rfl, hown, hbel⟩
end Go.Proofs.YtpgadcacimjlaaaGreat.T3
namespace Go.Proofs.YtpgadcacimjlaaaGreat
open Go.RowKit
/-- The first place of the same number. -/
def fstI (xs : List Int) : Nat → Nat → Nat
  | 0, _ => 0
  | k + 1, v => if fstI xs k v < k then fstI xs k v else if xs.getD k 0 = xs.getD v 0 then k else k + 1
theorem fstI_le (xs : List Int) (v : Nat) : ∀ k, fstI xs k v ≤ k
  | 0 => Nat.le_refl _
  | k + 1 => by
    simp only [fstI]
    split
    · omega
    · split <;> omega
theorem fstI_hit (xs : List Int) (v : Nat) : ∀ k, fstI xs k v < k → xs.getD (fstI xs k v) 0 = xs.getD v 0
  | 0, h => absurd h (by omega)
  | k + 1, h => by
    simp only [fstI] at h ⊢
    split
    · rename_i h1
      exact fstI_hit xs v k h1
    · rename_i h1
      rw [if_neg h1] at h
      split
      · rename_i h2; exact h2
      · rename_i h2
        rw [if_neg h2] at h
        omega
theorem fstI_min (xs : List Int) (v : Nat) : ∀ k u, u < fstI xs k v → xs.getD u 0 ≠ xs.getD v 0
  | 0, u, h => absurd h (by simp [fstI])
  | k + 1, u, h => by
    simp only [fstI] at h
    split at h
    · exact fstI_min xs v k u h
    · rename_i h1
      have h0 := fstI_le xs v k
      have e : fstI xs k v = k := by omega
      split at h
      · exact fstI_min xs v k u (by omega)
      · rename_i h2
        by_cases e2 : u = k
        · subst e2; exact h2
        · exact fstI_min xs v k u (by omega)
/-- Who leads the vertices of a label. -/
def ldI (xs : List Int) (v : Nat) : Nat := fstI xs v v
theorem ldI_le (xs : List Int) (v : Nat) : ldI xs v ≤ v := fstI_le xs v v
theorem ldI_at (xs : List Int) (v : Nat) : xs.getD (ldI xs v) 0 = xs.getD v 0 := by
  rcases Nat.lt_or_ge (ldI xs v) v with h | h
  · exact fstI_hit xs v v h
  · have := ldI_le xs v
    rw [show ldI xs v = v by omega]
theorem ldI_min {xs : List Int} {u v : Nat} (h : u < ldI xs v) : xs.getD u 0 ≠ xs.getD v 0 := fstI_min xs v v u h
theorem ldI_eq {xs : List Int} {u v : Nat} (h : xs.getD u 0 = xs.getD v 0) : ldI xs u = ldI xs v := by
  rcases Nat.lt_trichotomy (ldI xs u) (ldI xs v) with e | e | e
  · exact absurd ((ldI_at xs u).trans h) (ldI_min e)
  · exact e
  · exact absurd ((ldI_at xs v).trans h.symm) (ldI_min e)
theorem ldI_iff {xs : List Int} {u v : Nat} : xs.getD u 0 = xs.getD v 0 ↔ ldI xs u = ldI xs v := by
  refine ⟨ldI_eq, fun h => ?_⟩
  rw [← ldI_at xs u, h, ldI_at]
theorem ldI_RT (xs : List Int) : T3.RT (ldI xs) := ⟨ldI_le xs, fun v => ldI_eq (ldI_at xs v)⟩
theorem tdy_step {xs : List Int} : ∀ j k, k + j = xs.length → tdy (xs.drop k) (T3.cnt (ldI xs) k) = true → (∀ i, i < k → xs.getD i 0 = (T3.lab (ldI xs) i : Nat)) → ∀ i, i < xs.length → xs.getD i 0 = (T3.lab (ldI xs) i : Nat)
  | 0, k, e, _, h => fun i hi => h i (by omega)
  | j + 1, k, e, ht, h => by
    have hk : k < xs.length := by omega
    rw [drop_getI hk] at ht
    simp only [tdy] at ht
    split at ht
    · cases ht
    · rename_i hx
      have hRT := ldI_RT xs
      split at ht
      · rename_i he
        have hkk : ldI xs k = k := by
          rcases Nat.lt_or_ge (ldI xs k) k with h2 | h2
          · have h3 := h _ h2
            rw [ldI_at, he] at h3
            have h4 : T3.lab (ldI xs) (ldI xs k) < T3.cnt (ldI xs) k := by
              unfold T3.lab
              rw [hRT.rr]
              exact T3.cnt_root (hRT.rr k) h2
            omega
          · have := ldI_le xs k
            omega
        refine tdy_step j (k + 1) (by omega) ?_ (fun i hi => ?_)
        · rw [T3.cnt, if_pos hkk]
          exact ht
        · by_cases e2 : i = k
          · subst e2
            rw [he]
            unfold T3.lab
            rw [hkk]
          · exact h i (by omega)
      · rename_i he
        obtain ⟨v, hv1, hv2, hv3⟩ := T3.cnt_find (R := ldI xs) (n := k) (p := (xs.getD k 0).toNat) (by omega)
        have h3 := h v hv1
        have h4 : T3.lab (ldI xs) v = (xs.getD k 0).toNat := by unfold T3.lab; rw [hv2, hv3]
        have h5 : xs.getD v 0 = xs.getD k 0 := by omega
        have h6 := ldI_eq h5
        have hkk : ldI xs k ≠ k := by rw [← h6, hv2]; omega
        refine tdy_step j (k + 1) (by omega) ?_ (fun i hi => ?_)
        · rw [T3.cnt, if_neg hkk]
          exact ht
        · by_cases e2 : i = k
          · subst e2
            unfold T3.lab
            rw [← h6, hv2, hv3]
            omega
          · exact h i (by omega)
theorem tdy_iff (xs : List Int) : tdy xs 0 = true ↔ xs = T3.ints (T3.labs (ldI xs) xs.length) := by
  constructor
  · intro h
    have := tdy_step (xs := xs) xs.length 0 (by omega) h (fun i hi => by omega)
    exact T3.ext_labs rfl this
  · intro h
    have := tdy_labs (ldI_RT xs) xs.length xs.length 0 (by omega)
    rw [List.drop_zero, ← h] at this
    exact this
end Go.Proofs.YtpgadcacimjlaaaGreat
namespace Go.Proofs.YtpgadcacimjlaaaGreat
open Go.RowKit
set_option maxRecDepth 100000 in
set_option maxHeartbeats 1600000 in
theorem rright_any (n : Nat) (a : Option Addr) (l : List A) (cap : Nat) (b : Option Addr) (xs : List Int) (bc : Nat) (w : World) (hn : n ≤ 1024) (hx : xs.length ≤ 9223372036854775807) (hi : Ints w b xs) :
    Calls Tryz.prog 34 #[.agg #[.int .i64 n, .slice a l.length cap], .slice b xs.length bc] w fun e w' => e = .returned (.bool (decide (xs.length = n) && tdy xs 0)) ∧ Below w.heap.size w w' := by
  have hb0 : Below w.heap.size w (w.alloc (.cells #[.int .i64 n, .slice a l.length cap] 24)) := (Below.refl _ _).alloc (Nat.le_refl _) _
  have hg := heap_top w (.cells #[.int .i64 n, .slice a l.length cap] 24)
  have HI := Lib.hid (hi.on hb0)
  have hwz : w.heap.size ≤ (w.alloc (.cells #[.int .i64 n, .slice a l.length cap] 24)).heap.size := hb0.size
  have HB0 := Lib.hid hb0
  obtain ⟨V, HV⟩ := named (decide (xs.length = n) && tdy xs 0)
  rw [HV.out]
  obtain ⟨⟨c0, c1⟩, _⟩ := two_cells hg
  clear hb0 hi
  generalize hp : w.heap.size = p at *
  go_enter Tryz.func34, Tryz.ntmps34
  by_cases hxn : ¬ xs.length = n
  · have e1 : ((xs.length : Int) != (n : Int)) = true := by simp; omega
    have HF : Hid (V = false) := by show _ = _; rw [← HV.out]; simp [hxn]
    clear hxn
    go_wp2_with fail
    go_ret
    exact ⟨by rw [HF.out]; rfl, HB0.out⟩
  obtain rfl : n = xs.length := by omega
  have e1 : ((xs.length : Int) != (xs.length : Int)) = false := by simp
  have HVT : Hid (V = tdy xs 0) := by show _ = _; rw [← HV.out]; simp
  clear hxn
  go_wp2_with fail
  generalize hW : w.alloc (.cells #[.int .i64 xs.length, .slice a l.length cap] 24) = W at *
  clear hW
  have hpz : p < W.heap.size := lt_of_block hg
  have HTD := Lib.hid (T3.rtidyI_any b xs.length bc xs (ldI xs) W hn (ldI_RT xs) rfl (fun u v _ _ => ldI_iff) HI.out)
  refine HTD.out.mono ?_
  rintro e w2 ⟨rfl, hown2, hb2⟩
  have HB2 : Hid (Below p w w2) := HB0.out.trans (hb2.mono hwz)
  have hg2 := (hb2.block p hpz).trans hg
  have HG2 := Lib.hid hg2
  have HI2 := Lib.hid (HI.out.on hb2)
  have HO2 := Lib.hid hown2
  have HTI := Lib.hid (tdy_iff xs)
  obtain ⟨ix, ox, hix⟩ := HI2.out.get
  have HIX := Lib.hid hix
  have hz2 : p < w2.heap.size := lt_of_block hg2
  clear hb2 hown2 hg hwz hix c0 c1 HTD hg2
  generalize hq : W.heap.size = q at *
  go_wp2_with fail
  go_loopw [6] (fun i wr => ∃ (k : Nat), k ≤ xs.length ∧ i = .int .i64 k ∧ Hid (∀ j, j < k → xs.getD j 0 = ((T3.lab (ldI xs) j : Nat) : Int)) ∧ Hid (Below w2.heap.size w2 wr)) (fun i _ => xs.length - (intOf i).toNat)
  case atStart => exact ⟨0, Nat.zero_le _, rfl, fun j hj => by omega, Below.refl _ _⟩
  case round =>
    obtain ⟨k, hk, rfl, HJ, HBR⟩ := hrel
    have hgr := (HBR.out.block p hz2).trans HG2.out
    obtain ⟨⟨c0, c1⟩, _⟩ := two_cells hgr
    by_cases hlk : k < xs.length
    · obtain ⟨rfl, hbl, hat⟩ := HIX.out (by omega)
      have hlk' : (k : Int) < xs.length := by omega
      have y0 := (HBR.out.cell (p := ⟨ix, ox + k, none⟩) hbl).trans (hat k hlk)
      have y1 := (HBR.out.cell (p := ⟨q, k, none⟩) HO2.out.lt).trans (HO2.out.cell (T3.labs_len _ _) k hlk)
      rw [T3.labs_getD _ _ k hlk] at y1
      have HBN : ∀ nq, Hid (Below w2.heap.size w2 (wr.drewN nq)) := fun _ => ⟨HBR.out.os, HBR.out.tape, HBR.out.output, HBR.out.size, HBR.out.block⟩
      have HBP : ∀ nq, Hid (Below p w (wr.drewN nq)) := fun nq => HB2.out.trans ((HBN nq).out.mono (by omega))
      clear hat
      by_cases hE : xs.getD k 0 = ((T3.lab (ldI xs) k : Nat) : Int)
      · have HJ2 : Hid (∀ j, j < k + 1 → xs.getD j 0 = ((T3.lab (ldI xs) j : Nat) : Int)) := fun j hj => by
          by_cases e : j = k
          · rw [e]; exact hE
          · exact HJ.out j (by omega)
        rw [hE] at y0
        clear hE HJ
        generalize T3.lab (ldI xs) k = z at *
        have e2 : ((z : Int) != (z : Int)) = false := by simp
        go_wp2_with fail
        go_quiet (fail)
        go_wp2_with fail
        exact ⟨⟨k + 1, by omega, by simp, HJ2, HBN _⟩, by simp [intOf]; omega⟩
      · have HF : Hid (V = false) := by
          show _ = _
          rw [HVT.out, Bool.eq_false_iff]
          intro h
          have h2 := HTI.out.1 h
          refine hE ?_
          have h3 : (T3.ints (T3.labs (ldI xs) xs.length)).getD k 0 = ((T3.lab (ldI xs) k : Nat) : Int) := by rw [T3.ints_getD, T3.labs_getD _ _ k hlk]
          rw [← h3, ← h2]
        have e2 : (((T3.lab (ldI xs) k : Nat) : Int) != xs.getD k 0) = true := by simp; exact fun h => hE h.symm
        clear hE HJ
        generalize T3.lab (ldI xs) k = z at *
        generalize xs.getD k 0 = y at *
        go_wp2_with fail
        go_quiet (fail)
        go_wp2_with fail
        go_ret
        exact ⟨by rw [HF.out]; rfl, (HBP _).out⟩
    · have hlk' : ¬ (k : Int) < xs.length := by omega
      have HF : Hid (V = true) := by
        show _ = _
        rw [HVT.out]
        exact HTI.out.2 (T3.ext_labs rfl (fun j hj => HJ.out j (by omega)))
      have HBP : Hid (Below p w wr) := HB2.out.trans (HBR.out.mono (by omega))
      go_wp2_with fail
      go_ret
      exact ⟨by rw [HF.out]; rfl, HBP.out⟩
set_option maxRecDepth 100000 in
set_option maxHeartbeats 1600000 in
theorem rbetween_any (n : Nat) (a : Option Addr) (l : List A) (cap : Nat) (b : Option Addr) (xs : List Int) (bc : Nat) (w : World) (hC : chkE n l = 0) (hxn : xs.length = n) (hr : Arcs w a l) (hi : Ints w b xs) :
    Calls Tryz.prog 35 #[.agg #[.int .i64 n, .slice a l.length cap], .slice b xs.length bc] w fun e w' => e = .returned (.int .i64 ((cntB xs (prl l) : Nat) : Int)) ∧ Below w.heap.size w w' := by
  subst hxn
  have hb0 : Below w.heap.size w (w.alloc (.cells #[.int .i64 xs.length, .slice a l.length cap] 24)) := (Below.refl _ _).alloc (Nat.le_refl _) _
  have hg := heap_top w (.cells #[.int .i64 xs.length, .slice a l.length cap] 24)
  have HR := Lib.hid (hr.on hb0)
  have HI := Lib.hid (hi.on hb0)
  have hwz : w.heap.size ≤ (w.alloc (.cells #[.int .i64 xs.length, .slice a l.length cap] 24)).heap.size := hb0.size
  have HB0 := Lib.hid hb0
  obtain ⟨V, HV⟩ := named (((cntB xs (prl l) : Nat) : Int))
  rw [HV.out]
  obtain ⟨_, hn2, hlb, hoa⟩ := chk_zero hC
  have HND : Hid (∀ p, p ∈ prl l → p.a < xs.length ∧ p.b < xs.length) := fun p hp => prl_lt hoa hp
  have hpl : (prl l).length ≤ 8192 := Nat.le_trans (prl_len l) hlb
  obtain ⟨⟨c0, c1⟩, _⟩ := two_cells hg
  clear hb0 hi hr hoa
  generalize hp : w.heap.size = p at *
  go_enter Tryz.func35, Tryz.ntmps35
  go_wp2_with fail
  generalize hW : w.alloc (.cells #[.int .i64 xs.length, .slice a l.length cap] 24) = W at *
  clear hW
  have hpz : p < W.heap.size := lt_of_block hg
  refine (rall8_any xs.length a l cap W hC HR.out).mono ?_
  rintro e w2 ⟨v2, c2, rfl, hown2, hb2⟩
  have HB2 : Hid (Below p w w2) := HB0.out.trans (hb2.mono hwz)
  have HI2 := Lib.hid (HI.out.on hb2)
  have hz2 : p < w2.heap.size := Nat.lt_of_lt_of_le hpz hb2.size
  obtain ⟨ix, ox, hix⟩ := HI2.out.get
  have HIX := Lib.hid hix
  obtain ⟨iy, oy, hiy⟩ := (OwnP.prs hown2).get
  have HIY := Lib.hid hiy
  clear hb2 hown2 hg hwz hix hiy c0 c1 HR HI HI2
  generalize hB : w2.heap.size = B at *
  go_wp2_with fail
  go_loopw [5, 7] (fun s5 i wr => ∃ (k c : Nat), k ≤ (prl l).length ∧ i = .int .i64 k ∧ s5 = .int .i64 c ∧ c ≤ k ∧ Hid (cntB xs ((prl l).take k) = c) ∧ Hid (Below B w2 wr)) (fun _ i _ => (prl l).length - (intOf i).toNat)
  case atStart => exact ⟨0, 0, Nat.zero_le _, rfl, rfl, Nat.le_refl _, rfl, Below.refl _ _⟩
  case round =>
    obtain ⟨k, c, hk, rfl, rfl, hck, HC, HBR⟩ := hrel
    by_cases hlk : k < (prl l).length
    · obtain ⟨rfl, hbl, hat⟩ := HIY.out (by omega)
      have hlk' : (k : Int) < (prl l).length := by omega
      have hck' : (c : Int) ≤ k := by omega
      obtain ⟨x0, x1⟩ := hat k hlk
      have y0 := (HBR.out.cell (p := ⟨iy, oy + k * 2, none⟩) hbl).trans x0
      have y1 := (HBR.out.cell (p := ⟨iy, oy + k * 2 + 1, none⟩) hbl).trans x1
      obtain ⟨ha, hb⟩ := HND.out ((prl l).getD k Pr.zero) (getD_memP hlk)
      have HSN := Lib.hid (filter_snocP (f := fun p => !(xs.getD p.a 0 == xs.getD p.b 0)) hlk)
      clear hat x0 x1
      generalize (prl l).getD k Pr.zero = x at *
      obtain ⟨rfl, hbx, hax⟩ := HIX.out (by omega)
      have da := (HBR.out.cell (p := ⟨ix, ox + x.a, none⟩) hbx).trans (hax x.a ha)
      have db := (HBR.out.cell (p := ⟨ix, ox + x.b, none⟩) hbx).trans (hax x.b hb)
      have ha' : (x.a : Int) < xs.length := by omega
      have hb' : (x.b : Int) < xs.length := by omega
      have HBN : ∀ nq, Hid (Below B w2 (wr.drewN nq)) := fun _ => ⟨HBR.out.os, HBR.out.tape, HBR.out.output, HBR.out.size, HBR.out.block⟩
      clear hax
      generalize xs.getD x.a 0 = ta at *
      generalize xs.getD x.b 0 = tb at *
      by_cases hab : ta = tb
      · have hne : (ta != tb) = false := by simpa using hab
        have HC2 : Hid (cntB xs ((prl l).take (k + 1)) = c) := by
          show _ = _
          rw [← HC.out]
          unfold cntB
          rw [HSN.out, if_neg (by simp [hab]), List.append_nil]
        clear hab
        go_wp2_with fail
        go_quiet (fail)
        go_wp2_with fail
        exact ⟨⟨k + 1, c, by omega, by simp, rfl, by omega, HC2, HBN _⟩, by simp [intOf]; omega⟩
      · have hne : (ta != tb) = true := by simpa using hab
        have HC2 : Hid (cntB xs ((prl l).take (k + 1)) = c + 1) := by
          show _ = _
          rw [← HC.out]
          unfold cntB
          rw [HSN.out, if_pos (by simpa using hab), List.length_append]
          rfl
        clear hab
        go_wp2_with fail
        go_quiet (fail)
        go_wp2_with fail
        exact ⟨⟨k + 1, c + 1, by omega, by simp, by simp, by omega, HC2, HBN _⟩, by simp [intOf]; omega⟩
    · have e0 : (prl l).take k = prl l := List.take_of_length_le (by omega)
      have hlk' : ¬ (k : Int) < (prl l).length := by omega
      rw [e0] at HC
      clear e0
      go_wp2_with fail
      go_ret
      refine ⟨?_, HB2.out.trans (HBR.out.mono (by omega))⟩
      rw [← HV.out, HC.out]; rfl
set_option maxRecDepth 100000 in
set_option maxHeartbeats 1600000 in
theorem rcount_any (N : Int) (a : Option Addr) (l : List A) (cap : Nat) (b : Option Addr) (xs : List Int) (bc : Nat) (w : World) (hl : l.length ≤ 9223372036854775807) (hx : xs.length ≤ 9223372036854775807) (hr : Arcs w a l) (hi : Ints w b xs) :
    Calls Tryz.prog 14 #[.agg #[.int .i64 N, .slice a l.length cap], .slice b xs.length bc] w fun e w' => e = .returned (.tuple #[.int .i64 (if cntE N l xs = 0 then (cntB xs (prl l) : Nat) else 0), .int .i64 (cntE N l xs)]) ∧ Below w.heap.size w w' := by
  have hb0 : Below w.heap.size w (w.alloc (.cells #[.int .i64 N, .slice a l.length cap] 24)) := (Below.refl _ _).alloc (Nat.le_refl _) _
  have hg := heap_top w (.cells #[.int .i64 N, .slice a l.length cap] 24)
  have HR := Lib.hid (hr.on hb0)
  have HI := Lib.hid (hi.on hb0)
  have hwz : w.heap.size ≤ (w.alloc (.cells #[.int .i64 N, .slice a l.length cap] 24)).heap.size := hb0.size
  have HB0 := Lib.hid hb0
  obtain ⟨V, HV⟩ := named (if cntE N l xs = 0 then ((cntB xs (prl l) : Nat) : Int) else 0)
  rw [HV.out]
  obtain ⟨G, HG⟩ := named (cntE N l xs)
  rw [HG.out] at HV ⊢
  obtain ⟨AT, HAT⟩ := named (chkAt N l)
  obtain ⟨E, HE⟩ := named (chkE N l)
  obtain ⟨⟨c0, c1⟩, _⟩ := two_cells hg
  clear hb0 hr hi
  generalize hp : w.heap.size = p at *
  go_enter Tryz.func14, Tryz.ntmps14
  go_wp2_with fail
  generalize hW : w.alloc (.cells #[.int .i64 N, .slice a l.length cap] 24) = W at *
  clear hW
  have hpz : p < W.heap.size := lt_of_block hg
  refine (rcheck_any N a l cap W hl HR.out).mono ?_
  rintro e w1 ⟨rfl, hb1⟩
  have HB1 : Hid (Below p w w1) := HB0.out.trans (hb1.mono hwz)
  have hg1 := (hb1.block p hpz).trans hg
  obtain ⟨⟨d0, d1⟩, _⟩ := two_cells hg1
  have HI1 := Lib.hid (HI.out.on hb1)
  have HR1 := Lib.hid (HR.out.on hb1)
  have hz1 : p < w1.heap.size := lt_of_block hg1
  rw [HE.out, HAT.out]
  clear hb1 hg c0 c1 hwz HI HR
  by_cases hE : E ≠ 0
  · have e1 : (E != 0) = true := by simpa using hE
    have HGE : Hid (G = E) := by show _ = _; rw [← HG.out]; unfold cntE; rw [if_pos (by rw [HE.out]; exact hE), HE.out]
    go_wp2_with fail
    go_ret2
    refine ⟨?_, HB1.out⟩
    rw [← HV.out, HGE.out, if_neg hE]; rfl
  obtain rfl : E = 0 := by omega
  obtain ⟨n, hn⟩ : ∃ n : Nat, N = n := ⟨N.toNat, by have := (chk_zero HE.out).1; omega⟩
  subst hn
  clear hE
  have hn' : n ≤ 1024 := by have := (chk_zero HE.out).2.1; omega
  have HGE : Hid (G = if (xs.length : Int) ≠ (n : Int) ∨ tdy xs 0 = false then 80 else 0) := by show _ = _; rw [← HG.out]; unfold cntE; rw [if_neg (by rw [HE.out]; omega)]
  go_wp2_with fail
  refine (rright_any n a l cap b xs bc w1 hn' hx HI1.out).mono ?_
  rintro e w2 ⟨rfl, hb2⟩
  have HB2 : Hid (Below p w w2) := HB1.out.trans (hb2.mono (by omega))
  have hg2 := (hb2.block p hz1).trans hg1
  obtain ⟨⟨f0, f1⟩, _⟩ := two_cells hg2
  have HI2 := Lib.hid (HI1.out.on hb2)
  have HR2 := Lib.hid (HR1.out.on hb2)
  have hz2 : p < w2.heap.size := lt_of_block hg2
  clear hb2 hg1 d0 d1 HI1 HR1
  by_cases hT : (decide (xs.length = n) && tdy xs 0) = false
  · rw [hT]
    have HG8 : Hid (G = 80) := by
      show _ = _
      rw [HGE.out, if_pos]
      by_cases e : xs.length = n
      · right; simpa [e] using hT
      · left; omega
    clear hT
    go_wp2_with fail
    go_ret2
    refine ⟨?_, HB2.out⟩
    rw [← HV.out, HG8.out, if_neg (by decide)]; rfl
  · have hT' : (decide (xs.length = n) && tdy xs 0) = true := by simpa using hT
    rw [hT']
    simp only [Bool.and_eq_true, decide_eq_true_eq] at hT'
    have HXN := Lib.hid hT'.1
    have HG8 : Hid (G = 0) := by
      show _ = _
      rw [HGE.out, if_neg]
      rintro (h | h)
      · exact h (by rw [hT'.1])
      · rw [hT'.2] at h; cases h
    clear hT hT'
    have HBT := Lib.hid (rbetween_any n a l cap b xs bc w2 HE.out HXN.out HR2.out HI2.out)
    go_wp2_with fail
    refine HBT.out.mono ?_
    rintro e w3 ⟨rfl, hb3⟩
    have HB3 : Hid (Below p w w3) := HB2.out.trans (hb3.mono (by omega))
    clear hb3
    generalize hcc : cntB xs (prl l) = cc at *
    clear hcc
    go_wp2_with fail
    go_ret2
    refine ⟨?_, HB3.out⟩
    rw [← HV.out, HG8.out, if_pos rfl]; rfl
end Go.Proofs.YtpgadcacimjlaaaGreat
namespace Go.Proofs.YtpgadcacimjlaaaGreat
open Go.RowKit
/-- Numbers that are lent. -/
def LentI (w w' : World) (e : Ending) (xs : List Int) : Prop :=
  ∃ g c, e = .returned (.slice (some ⟨g, 0, none⟩) xs.length c) ∧ xs.length < c ∧ c ≤ 9223372036854775807 ∧ w'.ownsRow w.heap.size 3 1 (.slice (some ⟨g, 0, none⟩) (xs.length + 1) c) (xs.length + 1) (cellsI (xs ++ [-77])) ∧ Below w.heap.size w w'
theorem one_i (xs : List Int) : ∀ u ∈ cellsI xs, u.oneCell' = true := by
  intro u hu
  unfold cellsI at hu
  obtain ⟨x, _, rfl⟩ := List.mem_map.1 hu
  rfl
theorem ints_news {w : World} {ad : Addr} {xs : List Int} (h : Ints w (some ad) xs) (o : Obj) : ∀ j u, (cellsI xs)[j]? = some u → (w.alloc o).cell? (ad.add j) = some u := by
  intro j u hu
  rcases h with rfl | ⟨b, o', hab, hl, hc⟩
  · simp [cellsI] at hu
  · cases hab
    have hj : j < xs.length := by
      rcases Nat.lt_or_ge j xs.length with h' | h'
      · exact h'
      · rw [List.getElem?_eq_none (by rw [cellsI_len]; exact h')] at hu; cases hu
    rw [cellsI_getD xs j hj] at hu
    rw [Go.WideShapes.add_plain]
    exact ((((Below.refl w.heap.size w).alloc (Nat.le_refl _) o).cell (p := ⟨b, o' + j, none⟩) hl).trans (hc j hj)).trans hu
theorem mark_i (w : World) : ∀ j u, (cellsI [-77])[j]? = some u → (w.alloc (.cells #[.int .i64 (-77)] 3)).cell? ((⟨w.heap.size, 0, none⟩ : Addr).add j) = some u := one_new w (-77)
theorem cellsI_append (a b : List Int) : cellsI (a ++ b) = cellsI a ++ cellsI b := by simp [cellsI]
set_option maxHeartbeats 1600000 in
theorem lendI_some (ad : Addr) (xs : List Int) (cap : Nat) (w : World) (hlen : xs.length * 8 ≤ 140737488351232) (hr : Ints w (some ad) xs) :
    Calls Tryz.prog 10 #[.slice (some ad) xs.length cap] w fun e w' => LentI w w' e xs := by
  obtain ⟨i0, hi, hz0, hz1, hz2⟩ := info_parts info3
  have HN := Lib.hid (ints_news hr (.cells #[] 3))
  have HL := Lib.hid (cellsI_len xs)
  have HA : Hid (cellsI xs ++ cellsI [-77] = cellsI (xs ++ [-77])) := (cellsI_append xs [-77]).symm
  have hown0 := World.ownsRow_lit (base := w.heap.size) (e := 3) (size := 1) w #[] 0 (Nat.le_refl _) (by decide) rfl
  go_enter Tryz.func10, Tryz.ntmps10
  go_wp2_with (first
    | (at_builtin; refine wpList_append_own _ rfl (.tmp 4) (.tmp 5) 25 rfl w.heap.size 3 i0 _ 1 8 Tryz.underlying25 hi hz0 hz1 hz2 rfl (by decide) (.slice (some ⟨w.heap.size, 0, none⟩) 0 0) 0 [] rfl hown0 ad xs.length cap (cellsI xs) rfl (by rw [HL.out]; omega) HN.out (one_i xs) (by unfold maxLen; omega) (by omega) (by simp) ?_; intro v1 w1 hown1 hgrow1 hnil1; obtain ⟨g1', c1, hv1, hg1, hc1, hs1, hm1⟩ := own_shape hown1 (fun e => by have := hnil1.1 e; simp at this); rw [hv1] at hown1 ⊢; clear hnil1 hv1; simp only [Nat.zero_add, List.nil_append] at hown1 hc1 ⊢)
    | (at_builtin; refine wpList_append_own _ rfl (.tmp 7) (.tmp 8) 25 rfl w.heap.size 3 i0 _ 1 8 Tryz.underlying25 hi hz0 hz1 hz2 rfl (by decide) (.slice (some ⟨g1', 0, none⟩) xs.length c1) xs.length (cellsI xs) rfl (hown1.alloc _) ⟨w1.heap.size, 0, none⟩ 1 1 (cellsI [-77]) rfl rfl (mark_i w1) (one_i _) (by unfold maxLen; omega) (by omega) (by simp; omega) ?_; intro v2 w2 hown2 hgrow2 hnil2; obtain ⟨g2, c2, hv2, hg2, hc2, hs2, hm2⟩ := own_shape hown2 (fun e => by have := hnil2.1 e; simp at this); rw [hv2] at hown2 ⊢; clear hnil2 hv2))
  have b1 : Below w.heap.size w w1 := ((Below.refl w.heap.size w).alloc (Nat.le_refl _) _).grown hgrow1 (by simp) (by intro k hk; cases hk; exact Nat.le_refl _)
  have b2 : Below w.heap.size w w2 := (b1.alloc b1.size _).grown hgrow2 (by have := b1.size; simp; omega) (by intro k hk; cases hk; exact hg1)
  rw [HA.out] at hown2
  have k1 : (xs.length : Int) ≤ (c2 : Int) := by omega
  have k2 : (0 : Int) ≤ (xs.length : Int) := by omega
  have HO := Lib.hid hown2
  clear hown1 hgrow1 hgrow2 hown0 HN hown2
  go_wp2_with fail
  go_ret
  exact ⟨g2, c2, rfl, by omega, hm2, HO.out, b2⟩
set_option maxHeartbeats 1600000 in
theorem lendI_none (w : World) :
    Calls Tryz.prog 10 #[.slice none 0 0] w fun e w' => LentI w w' e [] := by
  obtain ⟨i0, hi, hz0, hz1, hz2⟩ := info_parts info3
  have hown0 := World.ownsRow_lit (base := w.heap.size) (e := 3) (size := 1) w #[] 0 (Nat.le_refl _) (by decide) rfl
  have hmk := mark_i (w.alloc (.cells #[] 3))
  rw [show (w.alloc (.cells #[] 3)).heap.size = w.heap.size + 1 by simp] at hmk
  have HMK := Lib.hid hmk
  clear hmk
  go_enter Tryz.func10, Tryz.ntmps10
  go_wp2_with (first
    | (at_builtin; refine wpList_append_own_none rfl (.tmp 4) (.tmp 5) 25 rfl w.heap.size 3 i0 1 Tryz.underlying25 hi (.slice (some ⟨w.heap.size, 0, none⟩) 0 0) 0 [] rfl hown0 rfl ?_)
    | (at_builtin; refine wpList_append_own _ rfl (.tmp 7) (.tmp 8) 25 rfl w.heap.size 3 i0 _ 1 8 Tryz.underlying25 hi hz0 hz1 hz2 rfl (by decide) (.slice (some ⟨w.heap.size, 0, none⟩) 0 0) 0 [] rfl (hown0.alloc _) ⟨w.heap.size + 1, 0, none⟩ 1 1 (cellsI [-77]) rfl rfl HMK.out (one_i _) (by decide) (by decide) (by simp; omega) ?_; intro v2 w2 hown2 hgrow2 hnil2; obtain ⟨g2, c2, hv2, hg2, hc2, hs2, hm2⟩ := own_shape hown2 (fun e => by have := hnil2.1 e; simp at this); rw [hv2] at hown2 ⊢; clear hnil2 hv2; simp only [Nat.zero_add] at hown2 hc2 ⊢))
  have b2 : Below w.heap.size w w2 := (((Below.refl w.heap.size w).alloc (Nat.le_refl _) _).alloc (by simp) _).grown hgrow2 (by simp; omega) (by intro k hk; cases hk; exact Nat.le_refl _)
  have k1 : (0 : Int) ≤ (c2 : Int) := by omega
  have HO := Lib.hid hown2
  clear hgrow2 hown0 HMK hown2
  go_wp2_with fail
  go_ret
  exact ⟨g2, c2, rfl, by show 0 < c2; omega, hm2, HO.out, b2⟩
theorem lendI_any (a : Option Addr) (xs : List Int) (cap : Nat) (w : World) (hlen : xs.length * 8 ≤ 140737488351232) (hn : a = none → xs = [] ∧ cap = 0) (hr : Ints w a xs) :
    Calls Tryz.prog 10 #[.slice a xs.length cap] w fun e w' => LentI w w' e xs := by
  match a, hn, hr with
  | none, hn, _ =>
    obtain ⟨e1, e2⟩ := hn rfl
    subst e1 e2
    exact lendI_none w
  | some ad, _, hr => exact lendI_some ad xs cap w hlen hr
/-- They stand still. -/
def StillI (w : World) (g : Nat) (xs : List Int) : Prop := g < w.heap.size ∧ ∀ j, j < xs.length + 1 → w.cell? ⟨g, j, none⟩ = some (.int .i64 ((xs ++ [-77]).getD j 0))
theorem stillI_own {w : World} {B g c : Nat} {xs : List Int} (h : w.ownsRow B 3 1 (.slice (some ⟨g, 0, none⟩) (xs.length + 1) c) (xs.length + 1) (cellsI (xs ++ [-77]))) : StillI w g xs := by
  refine ⟨(h.lt g rfl).2, fun j hj => ?_⟩
  rw [World.ownsRow.cellAt h j (by omega), cellsI_getD _ j (by simp; omega)]
theorem StillI.on {w w' : World} {g : Nat} {xs : List Int} (h : StillI w g xs) (hb : Below w.heap.size w w') : StillI w' g xs := ⟨Nat.lt_of_lt_of_le h.1 hb.size, fun j hj => (hb.cell (p := ⟨g, j, none⟩) h.1).trans (h.2 j hj)⟩
theorem StillI.ints {w : World} {g : Nat} {xs : List Int} (h : StillI w g xs) : Ints w (some ⟨g, 0, none⟩) xs := by
  refine Or.inr ⟨g, 0, rfl, h.1, fun j hj => ?_⟩
  rw [Nat.zero_add, h.2 j (by omega)]
  simp [List.getD, List.getElem?_append_left hj]
theorem StillI.mark {w : World} {g : Nat} {xs : List Int} (h : StillI w g xs) : w.cell? ⟨g, xs.length, none⟩ = some (.int .i64 (-77)) := by
  rw [h.2 _ (by omega)]
  simp [List.getD]
set_option maxHeartbeats 800000 in
theorem keptI_any (g c : Nat) (a : Option Addr) (xs : List Int) (cap : Nat) (w : World) (hlen : xs.length * 8 ≤ 140737488351232) (hc : xs.length < c) (hs : StillI w g xs) (hr : Ints w a xs) :
    Calls Tryz.prog 17 #[.slice (some ⟨g, 0, none⟩) xs.length c, .slice a xs.length cap] w fun e w' => e = .returned (.bool true) ∧ Below w.heap.size w w' := by
  have HS := Lib.hid (sameInts_any (some ⟨g, 0, none⟩) a c cap xs w (by omega) hs.ints hr)
  have HST := Lib.hid hs
  have i1 : (xs.length : Int) + 1 ≤ (c : Int) := by omega
  have i2 : xs.length + 1 ≤ c := by omega
  have i3 : (0 : Int) ≤ (xs.length : Int) + 1 := by omega
  have i4 : IntKind.i64.wrap ((xs.length : Int) + 1) = (xs.length : Int) + 1 := by rw [IntKind.wrap_i64]; omega
  have i5 : (xs.length : Int) < (xs.length : Int) + 1 := by omega
  have i6 : ((xs.length : Int) + 1).toNat = xs.length + 1 := by omega
  clear hs hr
  go_enter Tryz.func17, Tryz.ntmps17
  go_wp2_with fail
  refine HS.out.mono ?_
  rintro e w1 ⟨rfl, hb1⟩
  have m0 := (HST.out.on hb1).mark
  go_wp2_with fail
  go_ret
  exact ⟨rfl, hb1⟩
end Go.Proofs.YtpgadcacimjlaaaGreat
