/-
  Sizes are what they are called; labels cut up. Contract of the reference's Tidy, at numbers that are given. Labels that are right are their own tidy ones. The contract of split.tidied.
-/
import Derived.Test.YtgpaoiddjlpcmaaZAI
import Derived.Test.YtgpaoiddjlpcmaaZAB
import Derived.Maps.OwnSet
import Derived.Maps.OwnOps
namespace Go.Proofs.Ytgpaoiddjlpcmaa.T3
open Go.RowKit
set_option maxHeartbeats 1600000 in
theorem rtidyI_any (av : Option Addr) (n cap : Nat) (L : List Int) (R : Nat → Nat) (w : World) (hn : n ≤ 1024) (hRT : RT R) (hLl : L.length = n) (hS : ∀ u v, u < n → v < n → (L.getD u 0 = L.getD v 0 ↔ R u = R v)) (ho : Ints w av L) :
    Calls Try.prog 49 #[.slice av n cap] w fun e w' => e = .returned (.slice (some ⟨w.heap.size, 0, none⟩) n n) ∧ OwnL w' w.heap.size n (labs R n) ∧ Below w.heap.size w w' := by
  obtain ⟨i0, hi, hz0, hz1, hz2⟩ := info_parts info3
  obtain ⟨g, o0, hix⟩ := ho.get
  have HIX := Lib.hid hix
  clear hix ho
  have HS := Lib.hid hS
  have HRT := Lib.hid hRT
  have HLl := Lib.hid hLl
  clear hS hRT hLl
  go_enter Try.func49, Try.ntmps49
  go_wp2_with (at_make; refine wpList_make_full _ rfl (.tmp 8) (.tmp 8) 25 rfl w.heap.size 3 i0 (.int .i64 0) 1 Try.underlying25 hi hz0 hz1 .i64 .i64 n n n rfl rfl rfl rfl (by rw [hz2]; omega) (by unfold maxLen; omega) (Nat.le_refl _) ?_; intro w1 hown1 hgrow1)
  have hown0 : OwnZ w1 w.heap.size n (List.replicate n 0) := by
    have e : (madeCells (Value.int .i64 0).cells (n * 1)).toList = cellsI (List.replicate n 0) := by
      show (madeCells #[Value.int .i64 0] (n * 1)).toList = _
      rw [toList_madeCells_one, Nat.mul_one]
      unfold cellsI
      simp
    rw [e] at hown1
    exact hown1
  have hb1 : Below w.heap.size w w1 := (Below.refl _ _).grown hgrow1 (Nat.le_refl _) (by intro k hk; cases hk)
  clear hown1 hgrow1
  go_loopw [4, 5] (fun t i wr => ∃ (k : Nat) (X : List Int), k ≤ n ∧ i = .int .i64 (k : Int) ∧ t = .int .i64 ((cnt R k : Nat) : Int) ∧ Hid (X.length = n) ∧ Hid (∀ j, j < k → X.getD j 0 = ((lab R j : Nat) : Int)) ∧ OwnZ wr w.heap.size n X ∧ Below w.heap.size w wr) (fun _ i _ => n - (intOf i).toNat)
  case atStart => exact ⟨0, List.replicate n 0, Nat.zero_le _, rfl, rfl, by show _ = _; simp, by intro j hj; omega, hown0, hb1⟩
  case round =>
    obtain ⟨k, X, hk, rfl, rfl, HX, HJ, hown, hbel⟩ := hrel
    clear hown0 hb1
    have hck := cnt_le R k
    by_cases hlt : k < n
    · obtain ⟨rfl, hg, hat⟩ := HIX.out (by rw [HLl.out]; omega)
      have HAT := Lib.hid hat
      clear hat
      have cx := hown.cell HX.out k hlt
      have fx := hown.free k
      have hXl : k < X.length := by rw [HX.out]; exact hlt
      have hst := hown.set k (-1)
      have HJ1 : Hid (∀ j, j < k → (X.set k (-1)).getD j 0 = ((lab R j : Nat) : Int)) := by
        show ∀ j, _
        intro j hj
        rw [getDI_set _ _ _ _ hXl, if_neg (by omega)]
        exact HJ.out j hj
      have HK1 : Hid ((X.set k (-1)).getD k 0 = -1) := by show _ = _; rw [getDI_set _ _ _ _ hXl, if_pos rfl]
      have HX1 : Hid ((X.set k (-1)).length = n) := by show _ = _; rw [List.length_set]; exact HX.out
      have hb2 := hbel.setCell (p := ⟨w.heap.size, k, none⟩) (Nat.le_refl _) (.int .i64 (-1))
      generalize X.getD k 0 = x0 at *
      generalize X.set k (-1) = X1 at *
      obtain ⟨c, HC⟩ := named (cnt R k)
      rw [HC.out] at hck ⊢
      clear HJ HX hXl
      go_wp2_with fail
      go_loopw [6] (fun i wr => ∃ (u : Nat) (Y : List Int), u ≤ k ∧ i = .int .i64 (u : Int) ∧ Hid (Y.length = n) ∧ Hid (∀ j, j < k → Y.getD j 0 = ((lab R j : Nat) : Int)) ∧ Hid ((Y.getD k 0 = -1 ∧ ∀ j, j < u → L.getD j 0 ≠ L.getD k 0) ∨ (Y.getD k 0 = ((lab R k : Nat) : Int) ∧ R k ≠ k)) ∧ OwnZ wr w.heap.size n Y ∧ Below w.heap.size w wr) (fun i _ => k - (intOf i).toNat)
      case atStart => exact ⟨0, X1, Nat.zero_le _, rfl, HX1, HJ1, Or.inl ⟨HK1.out, by intro j hj; omega⟩, hst, hb2⟩
      case round =>
        obtain ⟨u, Y, hu, rfl, HY, HYJ, HALT, ho3, hb3⟩ := hrel
        clear cx fx hst hb2 HJ1 HK1 HX1 hown hbel
        have ck := ho3.cell HY.out k hlt
        have fk := ho3.free k
        have hYl : k < Y.length := by rw [HY.out]; exact hlt
        rcases HALT.out with ⟨e1, e2⟩ | ⟨e1, e2⟩
        · rw [e1] at ck
          by_cases huk : u < k
          · have lu := (hb3.cell (p := ⟨g, o0 + u, none⟩) hg).trans (HAT.out u (by rw [HLl.out]; omega))
            have lk := (hb3.cell (p := ⟨g, o0 + k, none⟩) hg).trans (HAT.out k (by rw [HLl.out]; exact hlt))
            have cu := ho3.cell HY.out u (by omega)
            rw [HYJ.out u huk] at cu
            by_cases hq : L.getD u 0 = L.getD k 0
            · rw [hq] at lu
              have hR := (HS.out u k (by omega) hlt).1 hq
              have HNE : Hid (R k ≠ k) := by
                show _ ≠ _
                intro h
                have := HRT.out.rle u
                omega
              have HLB : Hid (lab R k = lab R u) := by show _ = _; unfold lab; rw [hR]
              have hst := ho3.set k ((lab R u : Nat) : Int)
              have HJ2 : Hid (∀ j, j < k → (Y.set k ((lab R u : Nat) : Int)).getD j 0 = ((lab R j : Nat) : Int)) := by
                show ∀ j, _
                intro j hj
                rw [getDI_set _ _ _ _ hYl, if_neg (by omega)]
                exact HYJ.out j hj
              have HK2 : Hid ((Y.set k ((lab R u : Nat) : Int)).getD k 0 = ((lab R k : Nat) : Int)) := by show _ = _; rw [getDI_set _ _ _ _ hYl, if_pos rfl, HLB.out]
              have HX2 : Hid ((Y.set k ((lab R u : Nat) : Int)).length = n) := by show _ = _; rw [List.length_set]; exact HY.out
              clear e1 e2 hq hR
              generalize lab R u = z at *
              generalize L.getD k 0 = y at *
              go_wp2_with fail
              go_quiet (fail)
              go_wp2_with fail
              exact ⟨⟨u + 1, _, by omega, by go_num, HX2, HJ2, Or.inr ⟨HK2.out, HNE.out⟩, OwnZ.set (w := wr.drewN nq) (show OwnZ (wr.drewN nq) _ _ _ from ho3) k _, (hb3.trans (below_drewN _ _ _)).setCell (Nat.le_refl _) _⟩, by simp [intOf]; omega⟩
            · have hq' : (L.getD u 0 == L.getD k 0) = false := beq_eq_false_iff_ne.2 hq
              have HE2 : Hid (∀ j, j < u + 1 → L.getD j 0 ≠ L.getD k 0) := by
                show ∀ j, _
                intro j hj
                by_cases e : j = u
                · rw [e]; exact hq
                · exact e2 j (by omega)
              clear e2 hq
              have E1 := Lib.hid e1
              clear e1
              generalize L.getD u 0 = y1 at *
              generalize L.getD k 0 = y2 at *
              generalize lab R u = z at *
              go_wp2_with fail
              go_quiet (fail)
              go_wp2_with fail
              exact ⟨⟨u + 1, Y, by omega, by go_num, HY, HYJ, Or.inl ⟨E1.out, HE2.out⟩, ho3, hb3.trans (below_drewN _ _ _)⟩, by simp [intOf]; omega⟩
          · have hRk : R k = k := by
              rcases Nat.lt_or_ge (R k) k with h | h
              · exact absurd ((HS.out (R k) k (by omega) hlt).2 (HRT.out.rr k)) (e2 (R k) (by omega))
              · have := HRT.out.rle k
                omega
            have HE2 : Hid (cnt R (k + 1) = c + 1) := by show _ = _; rw [cnt, if_pos hRk, HC.out]
            have HLB : Hid (lab R k = c) := by show _ = _; unfold lab; rw [hRk, HC.out]
            have hst := ho3.set k (c : Int)
            have HJ2 : Hid (∀ j, j < k + 1 → (Y.set k (c : Int)).getD j 0 = ((lab R j : Nat) : Int)) := by
              show ∀ j, _
              intro j hj
              rw [getDI_set _ _ _ _ hYl]
              split
              · rename_i e; rw [e, HLB.out]
              · exact HYJ.out j (by omega)
            have HX2 : Hid ((Y.set k (c : Int)).length = n) := by show _ = _; rw [List.length_set]; exact HY.out
            clear e1 e2 hRk
            go_wp2_with fail
            exact ⟨⟨k + 1, _, by omega, by go_num, by rw [HE2.out]; go_num, HX2, HJ2, hst, hb3.setCell (Nat.le_refl _) _⟩, by simp [intOf]; omega⟩
        · have HE2 : Hid (cnt R (k + 1) = c) := by show _ = _; rw [cnt, if_neg e2, HC.out]
          have HJ2 : Hid (∀ j, j < k + 1 → Y.getD j 0 = ((lab R j : Nat) : Int)) := by
            show ∀ j, _
            intro j hj
            by_cases e : j = k
            · rw [e, e1]
            · exact HYJ.out j (by omega)
          rw [e1] at ck
          have E1 := Lib.hid e1
          clear e1 e2
          generalize lab R k = z at *
          have hz0 : ¬ ((z : Nat) : Int) < 0 := by omega
          by_cases huk : u < k
          · go_wp2_with fail
            exact ⟨⟨k + 1, Y, by omega, by go_num, by rw [HE2.out], HY, HJ2, ho3, hb3⟩, by simp [intOf]; omega⟩
          · go_wp2_with fail
            exact ⟨⟨k + 1, Y, by omega, by go_num, by rw [HE2.out], HY, HJ2, ho3, hb3⟩, by simp [intOf]; omega⟩
    · have hX : X = ints (labs R n) := ext_labs HX.out (fun j hj => HJ.out j (by omega))
      rw [hX] at hown
      clear hX
      go_wp2_with fail
      go_ret
      exact ⟨rfl, hown, hbel⟩
end Go.Proofs.Ytgpaoiddjlpcmaa.T3
namespace Go.Proofs.Ytgpaoiddjlpcmaa
open Go.RowKit
theorem tdy_labs {R : Nat → Nat} (h : T3.RT R) (n : Nat) : ∀ j k, k + j = n → tdy ((T3.ints (T3.labs R n)).drop k) (T3.cnt R k) = true
  | 0, k, e => by
    rw [List.drop_eq_nil_of_le (by rw [T3.ints_len, T3.labs_len]; omega)]
    rfl
  | j + 1, k, e => by
    have hk : k < (T3.ints (T3.labs R n)).length := by rw [T3.ints_len, T3.labs_len]; omega
    have ih := tdy_labs h n j (k + 1) (by omega)
    rw [drop_getI hk, T3.ints_getD, T3.labs_getD R n k (by omega)]
    simp only [tdy]
    rcases T3.lab_step h k with ⟨h1, h2⟩ | ⟨h1, h2⟩
    · rw [h1, if_neg (by omega), if_pos rfl]
      rw [h2] at ih
      exact ih
    · rw [if_neg (by omega), if_neg (by omega)]
      rw [h2] at ih
      exact ih
/-- The first place of the same number. -/
def fstI (xs : List Int) : Nat → Nat → Nat
  | 0, _ => 0
  | k + 1, v => if fstI xs k v < k then fstI xs k v else if xs.getD k 0 = xs.getD v 0 then k else k + 1
theorem fstI_le (xs : List Int) (v : Nat) : ∀ k, fstI xs k v ≤ k
  | 0 => Nat.le_refl _
  | k + 1 => by
    simp only [fstI]
    split
    · omega
    · split <;> omega
theorem fstI_hit (xs : List Int) (v : Nat) : ∀ k, fstI xs k v < k → xs.getD (fstI xs k v) 0 = xs.getD v 0
  | 0, h => absurd h (by omega)
  | k + 1, h => by
    simp only [fstI] at h ⊢
    split
    · rename_i h1
      exact fstI_hit xs v k h1
    · rename_i h1
      rw [if_neg h1] at h
      split
      · rename_i h2; exact h2
      · rename_i h2
        rw [if_neg h2] at h
        omega
theorem fstI_min (xs : List Int) (v : Nat) : ∀ k u, u < fstI xs k v → xs.getD u 0 ≠ xs.getD v 0
  | 0, u, h => absurd h (by simp [fstI])
  | k + 1, u, h => by
    simp only [fstI] at h
    split at h
    · exact fstI_min xs v k u h
    · rename_i h1
      have h0 := fstI_le xs v k
      have e : fstI xs k v = k := by omega
      split at h
      · exact fstI_min xs v k u (by omega)
      · rename_i h2
        by_cases e2 : u = k
        · subst e2; exact h2
        · exact fstI_min xs v k u (by omega)
/-- Who leads the vertices of a label. -/
def ldI (xs : List Int) (v : Nat) : Nat := fstI xs v v
theorem ldI_le (xs : List Int) (v : Nat) : ldI xs v ≤ v := fstI_le xs v v
theorem ldI_at (xs : List Int) (v : Nat) : xs.getD (ldI xs v) 0 = xs.getD v 0 := by
  rcases Nat.lt_or_ge (ldI xs v) v with h | h
  · exact fstI_hit xs v v h
  · have := ldI_le xs v
    rw [show ldI xs v = v by omega]
theorem ldI_min {xs : List Int} {u v : Nat} (h : u < ldI xs v) : xs.getD u 0 ≠ xs.getD v 0 := fstI_min xs v v u h
theorem ldI_eq {xs : List Int} {u v : Nat} (h : xs.getD u 0 = xs.getD v 0) : ldI xs u = ldI xs v := by
  rcases Nat.lt_trichotomy (ldI xs u) (ldI xs v) with e | e | e
  · exact absurd ((ldI_at xs u).trans h) (ldI_min e)
  · exact e
  · exact absurd ((ldI_at xs v).trans h.symm) (ldI_min e)
theorem ldI_iff {xs : List Int} {u v : Nat} : xs.getD u 0 = xs.getD v 0 ↔ ldI xs u = ldI xs v := by
  refine ⟨ldI_eq, fun h => ?_⟩
  rw [← ldI_at xs u, h, ldI_at]
theorem ldI_RT (xs : List Int) : T3.RT (ldI xs) := ⟨ldI_le xs, fun v => ldI_eq (ldI_at xs v)⟩
theorem tdy_step {xs : List Int} : ∀ j k, k + j = xs.length → tdy (xs.drop k) (T3.cnt (ldI xs) k) = true → (∀ i, i < k → xs.getD i 0 = (T3.lab (ldI xs) i : Nat)) → ∀ i, i < xs.length → xs.getD i 0 = (T3.lab (ldI xs) i : Nat)
  | 0, k, e, _, h => fun i hi => h i (by omega)
  | j + 1, k, e, ht, h => by
    have hk : k < xs.length := by omega
    rw [drop_getI hk] at ht
    simp only [tdy] at ht
    split at ht
    · cases ht
    · rename_i hx
      have hRT := ldI_RT xs
      split at ht
      · rename_i he
        have hkk : ldI xs k = k := by
          rcases Nat.lt_or_ge (ldI xs k) k with h2 | h2
          · have h3 := h _ h2
            rw [ldI_at, he] at h3
            have h4 : T3.lab (ldI xs) (ldI xs k) < T3.cnt (ldI xs) k := by
              unfold T3.lab
              rw [hRT.rr]
              exact T3.cnt_root (hRT.rr k) h2
            omega
          · have := ldI_le xs k
            omega
        refine tdy_step j (k + 1) (by omega) ?_ (fun i hi => ?_)
        · rw [T3.cnt, if_pos hkk]
          exact ht
        · by_cases e2 : i = k
          · subst e2
            rw [he]
            unfold T3.lab
            rw [hkk]
          · exact h i (by omega)
      · rename_i he
        obtain ⟨v, hv1, hv2, hv3⟩ := T3.cnt_find (R := ldI xs) (n := k) (p := (xs.getD k 0).toNat) (by omega)
        have h3 := h v hv1
        have h4 : T3.lab (ldI xs) v = (xs.getD k 0).toNat := by unfold T3.lab; rw [hv2, hv3]
        have h5 : xs.getD v 0 = xs.getD k 0 := by omega
        have h6 := ldI_eq h5
        have hkk : ldI xs k ≠ k := by rw [← h6, hv2]; omega
        refine tdy_step j (k + 1) (by omega) ?_ (fun i hi => ?_)
        · rw [T3.cnt, if_neg hkk]
          exact ht
        · by_cases e2 : i = k
          · subst e2
            unfold T3.lab
            rw [← h6, hv2, hv3]
            omega
          · exact h i (by omega)
theorem tdy_iff (xs : List Int) : tdy xs 0 = true ↔ xs = T3.ints (T3.labs (ldI xs) xs.length) := by
  constructor
  · intro h
    have := tdy_step (xs := xs) xs.length 0 (by omega) h (fun i hi => by omega)
    exact T3.ext_labs rfl this
  · intro h
    have := tdy_labs (ldI_RT xs) xs.length xs.length 0 (by omega)
    rw [List.drop_zero, ← h] at this
    exact this
end Go.Proofs.Ytgpaoiddjlpcmaa
namespace Go.Proofs.Ytgpaoiddjlpcmaa
open Go.RowKit Go.Maps
theorem law3 : Keyed Try.prog 3 := int_keyed Try.underlying3
theorem zero3 (w : World) : (zeroValue 3).run Try.prog w = .ok (.int .i64 0) w := by kernel_rfl
theorem wfN {x : Nat} (h : x ≤ 9223372036854775807) : (Lit.int .i64 (x : Int)).wf = true := WalkArith.wf_i64 (by omega)
/-- Labels made tidy. -/
def tdL (L : List Nat) : List Nat := T3.labs (ldI (ints L)) L.length
theorem tdL_len (L : List Nat) : (tdL L).length = L.length := T3.labs_len _ _
theorem ints_at {L : List Nat} {v : Nat} (h : v < L.length) : (ints L).getD v 0 = ((L.getD v 0 : Nat) : Int) := ints_getD h
theorem ld_seen {L : List Nat} {v k : Nat} (hv : v < k) (hk : k < L.length) (e : L.getD v 0 = L.getD k 0) : T3.lab (ldI (ints L)) k = T3.lab (ldI (ints L)) v ∧ T3.cnt (ldI (ints L)) (k + 1) = T3.cnt (ldI (ints L)) k := by
  have h1 : ldI (ints L) v = ldI (ints L) k := ldI_eq (by rw [ints_at (by omega), ints_at hk, e])
  have h2 := ldI_le (ints L) v
  refine ⟨by unfold T3.lab; rw [h1], ?_⟩
  rw [T3.cnt, if_neg (by omega)]
theorem ld_new {L : List Nat} {k : Nat} (hk : k < L.length) (h : ∀ v, v < k → L.getD v 0 ≠ L.getD k 0) : T3.lab (ldI (ints L)) k = T3.cnt (ldI (ints L)) k ∧ T3.cnt (ldI (ints L)) (k + 1) = T3.cnt (ldI (ints L)) k + 1 := by
  have h1 : ldI (ints L) k = k := by
    rcases Nat.lt_or_ge (ldI (ints L) k) k with h2 | h2
    · have h3 := ldI_at (ints L) k
      rw [ints_at (by omega), ints_at hk] at h3
      exact absurd (by omega) (h _ h2)
    · have := ldI_le (ints L) k
      omega
  exact ⟨by unfold T3.lab; rw [h1], by rw [T3.cnt, if_pos h1]⟩
/-- Block z is a map with the numbers of the first k labels. -/
def MapN (w : World) (z nn : Nat) (L : List Nat) (k : Nat) : Prop := ∃ D : DataW Unit, w.ownsMap Try.prog 3 (plainElem (H := Unit) Try.prog 3) z nn D ∧ Maps.size D = T3.cnt (ldI (ints L)) k ∧ (∀ v, v < k → has D (.int .i64 ((L.getD v 0 : Nat) : Int)) = true ∧ D.atKey (.int .i64 ((L.getD v 0 : Nat) : Int)) (.lit (.int .i64 0)) = .lit (.int .i64 ((T3.lab (ldI (ints L)) v : Nat) : Int))) ∧ ∀ x : Nat, (∀ v, v < k → L.getD v 0 ≠ x) → has D (.int .i64 (x : Int)) = false
theorem MapN.made (w : World) (L : List Nat) : MapN (w.alloc (.map #[] 0)) w.heap.size 0 L 0 := ⟨_, World.ownsMap_made _ _ _ _, rfl, fun v hv => by omega, fun x _ => by simp [Maps.has]⟩
theorem tb_own {w : World} {B b n : Nat} {F : Nat → Nat} (h : TbV w b n 3 (fun v => .int .i64 ((F v : Nat) : Int))) (hB : B ≤ b) (hn : n ≤ 9223372036854775807) : w.ownsRow B 3 1 (.slice (some ⟨b, 0, none⟩) n n) n (cellsI (ints ((List.range n).map F))) := by
  refine ⟨by rw [cellsI_len, ints_len]; simp, .inr ⟨b, n, _, rfl, hB, h, Nat.le_refl _, by unfold maxLen; omega, by simp, ?_⟩⟩
  unfold cellsI ints
  simp
  rw [List.take_of_length_le (by simp)]
  rfl
set_option maxRecDepth 100000 in
set_option maxHeartbeats 1600000 in
theorem tidied_any (b : Option Addr) (L : List Nat) (bc : Nat) (w : World) (hL : L.length ≤ 1024) (hM : ∀ x, x ∈ L → x ≤ 100000000) (hi : Ints w b (ints L)) :
    Calls Try.prog 36 #[.slice b L.length bc] w fun e w' => ∃ g, e = .returned (.slice (some ⟨g, 0, none⟩) L.length L.length) ∧ w'.ownsRow w.heap.size 3 1 (.slice (some ⟨g, 0, none⟩) (tdL L).length L.length) (tdL L).length (cellsI (ints (tdL L))) ∧ Below w.heap.size w w' := by
  obtain ⟨i3, hi3, hz3, hs3, hb3⟩ := info_parts info3
  have hmk : ∀ w, (Instr.makeSlice 25 (.int .i64 L.length) (.int .i64 L.length)).run Try.prog w = .ok (.slice (some ⟨w.heap.size, 0, none⟩) L.length L.length) (w.alloc (.cells ((List.range L.length).map (fun _ => Value.int .i64 0)).toArray 3)) := fun w => by
    have := run_make (P := Try.prog) w 25 3 i3 (.int .i64 0) Try.underlying25 hi3 hz3 .i64 .i64 L.length L.length (by omega) (by omega) (by rw [hb3]; omega) (by omega)
    rw [this, Int.toNat_natCast, hs3, made_int]
  clear hi3 hz3 hs3 hb3
  clear i3
  have hmm := @run_makeMap Try.prog
  obtain ⟨ix, ox, hix⟩ := hi.get
  have HIX := Lib.hid hix
  have HMX := Lib.hid hM
  clear hix hi hM
  generalize hp : w.heap.size = p at *
  have HT0 : Hid (TbV ((w.alloc (.cells ((List.range L.length).map (fun _ => Value.int .i64 0)).toArray 3)).alloc (.map #[] 0)) p L.length 3 (fun v => .int .i64 (((if v < 0 then T3.lab (ldI (ints L)) v else 0 : Nat)) : Int))) := by
    have h := heap_top w (.cells ((List.range L.length).map (fun _ => Value.int .i64 0)).toArray 3)
    rw [hp] at h
    have h2 := (Below.heap_alloc (w.alloc (.cells ((List.range L.length).map (fun _ => Value.int .i64 0)).toArray 3)) (.map #[] 0) p (lt_of_block h)).trans h
    exact TbV.congr (show TbV _ p L.length 3 (fun _ => .int .i64 0) from h2) (fun v _ => by simp)
  have HM0 : Hid (MapN ((w.alloc (.cells ((List.range L.length).map (fun _ => Value.int .i64 0)).toArray 3)).alloc (.map #[] 0)) (p + 1) 0 L 0) := by
    have h := MapN.made (w.alloc (.cells ((List.range L.length).map (fun _ => Value.int .i64 0)).toArray 3)) L
    rw [World.size_alloc, hp] at h
    exact h
  have HB0 : Hid (Below p w ((w.alloc (.cells ((List.range L.length).map (fun _ => Value.int .i64 0)).toArray 3)).alloc (.map #[] 0))) := ((Below.refl _ _).alloc (by omega) _).alloc (by simp; omega) _
  go_enter Try.func36, Try.ntmps36
  go_wp2_with fail
  generalize hU : (w.alloc (.cells ((List.range L.length).map (fun _ => Value.int .i64 0)).toArray 3)).alloc (.map #[] 0) = U at *
  clear hU hmk hmm
  go_loopw [15] (fun i wr => ∃ k : Nat, k ≤ L.length ∧ i = .int .i64 k ∧ Hid (MapN wr (p + 1) k L k) ∧ Hid (TbV wr p L.length 3 (fun v => .int .i64 (((if v < k then T3.lab (ldI (ints L)) v else 0 : Nat)) : Int))) ∧ Hid (Below p w wr)) (fun i _ => L.length - (intOf i).toNat)
  case atStart => exact ⟨0, Nat.zero_le _, rfl, HM0, HT0, HB0⟩
  case round =>
    obtain ⟨k, hk, rfl, HMR, HTR, HBR⟩ := hrel
    by_cases hlk : k < L.length
    · obtain ⟨rfl, hbl, hat⟩ := HIX.out (by rw [ints_len]; omega)
      have hlk' : (k : Int) < L.length := by omega
      have y0 := (HBR.out.cell (p := ⟨ix, ox + k, none⟩) (hp ▸ hbl)).trans (hat k (by rw [ints_len]; exact hlk))
      rw [ints_getD hlk] at y0
      have hx : L.getD k 0 ≤ 100000000 := HMX.out _ (by simp [List.getD, List.getElem?_eq_getElem hlk])
      obtain ⟨D, hown, hsize, hseen, hnew⟩ := HMR.out
      have HOW := Lib.hid hown
      have d2 := HTR.out.free k
      obtain ⟨x, HX⟩ := named (L.getD k 0)
      rw [HX.out] at y0 hx
      have HKX : Hid (keyOf Try.prog 3 (.int .i64 (x : Int)) = some (.int .i64 (x : Int))) := keyOf_int_mk Try.underlying3 (wfN (by omega))
      clear hat HMR
      by_cases hs : ∃ v, v < k ∧ L.getD v 0 = x
      · obtain ⟨v, hv1, hv2⟩ := hs
        obtain ⟨h1, h2⟩ := hseen v hv1
        rw [hv2] at h1 h2
        obtain ⟨h3, h4⟩ := ld_seen hv1 hlk (hv2.trans HX.out.symm)
        rw [← h3] at h2
        have HAT := Lib.hid h2
        have HHS := Lib.hid h1
        have hll : T3.lab (ldI (ints L)) k ≤ 1024 := Nat.le_trans (T3.cnt_le _ _) (Nat.le_trans (ldI_le _ _) (by omega))
        have HMK : Hid (MapN wr (p + 1) (k + 1) L (k + 1)) := ⟨D, by obtain ⟨es, ck, g1, g2, g3, g4⟩ := hown; exact ⟨es, ck, g1, g2, by omega, g4⟩, by rw [h4]; exact hsize, fun u hu => by
            by_cases e : u = k
            · subst e; rw [HX.out]; exact ⟨h1, h2⟩
            · exact hseen u (by omega), fun y hy => hnew y (fun u hu => hy u (by omega))⟩
        obtain ⟨z, HZ⟩ := named (T3.lab (ldI (ints L)) k)
        rw [HZ.out] at HAT hll
        have HTK : Hid (TbV (wr.setCell ⟨p, k, none⟩ (.int .i64 (z : Int))) p L.length 3 (fun v => .int .i64 (((if v < k + 1 then T3.lab (ldI (ints L)) v else 0 : Nat)) : Int))) := (HTR.out.set k (.int .i64 (z : Int))).congr (fun u _ => by
          by_cases e : u = k
          · subst e; rw [updV_self, if_pos (by omega), HZ.out]
          · rw [updV_ne _ _ e]
            by_cases e2 : u < k
            · rw [if_pos e2, if_pos (by omega)]
            · rw [if_neg e2, if_neg (by omega)])
        have d1 := HTR.out.cell hlk
        generalize (if k < k then T3.lab (ldI (ints L)) k else 0 : Nat) = old at d1
        clear hown hsize hseen hnew h1 h2 h3 h4 hv1 hv2
        go_wp2_with (at_lookup; refine wpList_lookup_own_ok_int _ rfl _ _ 81 rfl 3 3 .i64 law3 Try.underlying81 Try.underlying3 (zero3 _) (p + 1) k D rfl HOW.out _ (.int .i64 (x : Int)) rfl HKX.out ?_; intro c hat hwc; rw [HAT.out] at hat; obtain rfl : c = (z : Int) := (by injection hat with h; injection h with _ h; exact h.symm); rw [HHS.out]; clear hat hwc)
        refine ⟨⟨k + 1, by omega, by simp, ?_, HTK, Lib.hid (HBR.out.setCell (Nat.le_refl _) _)⟩, by simp [intOf]; omega⟩
        obtain ⟨D', g1, g2⟩ := HMK.out
        exact ⟨D', g1.setCell (by show p + 1 ≠ p; omega) _, g2⟩
      · have hs' : ∀ v, v < k → L.getD v 0 ≠ x := fun v hv e => hs ⟨v, hv, e⟩
        have HHS := Lib.hid (hnew x hs')
        obtain ⟨h3, h4⟩ := ld_new hlk (fun v hv => by rw [HX.out]; exact hs' v hv)
        have HSZ : Hid (Maps.size D = T3.lab (ldI (ints L)) k) := hsize.trans h3.symm
        have hll : T3.lab (ldI (ints L)) k ≤ 1024 := Nat.le_trans (T3.cnt_le _ _) (Nat.le_trans (ldI_le _ _) (by omega))
        have HAT := Lib.hid (atKey_of_not_has HHS.out (.lit (.int .i64 0)))
        obtain ⟨z, HZ⟩ := named (T3.lab (ldI (ints L)) k)
        rw [HZ.out] at HSZ hll
        have hkl : WideAt.IsKeyLit (Lit.int .i64 (x : Int)) := law3.key HKX.out
        have hTD := hown.tidy law3
        have HPU : Hid (Maps.size (D.put (.int .i64 (x : Int)) (.lit (.int .i64 (z : Int)))) = T3.cnt (ldI (ints L)) (k + 1) ∧ (∀ v, v < k + 1 → has (D.put (.int .i64 (x : Int)) (.lit (.int .i64 (z : Int)))) (.int .i64 ((L.getD v 0 : Nat) : Int)) = true ∧ (D.put (.int .i64 (x : Int)) (.lit (.int .i64 (z : Int)))).atKey (.int .i64 ((L.getD v 0 : Nat) : Int)) (.lit (.int .i64 0)) = .lit (.int .i64 ((T3.lab (ldI (ints L)) v : Nat) : Int))) ∧ ∀ y : Nat, (∀ v, v < k + 1 → L.getD v 0 ≠ y) → has (D.put (.int .i64 (x : Int)) (.lit (.int .i64 (z : Int)))) (.int .i64 (y : Int)) = false) := by
          refine ⟨?_, fun v hv => ?_, fun y hy => ?_⟩
          · rw [size_put hTD, HHS.out, h4, ← hsize]; rfl
          · by_cases e : v = k
            · subst e
              rw [HX.out, HZ.out]
              exact ⟨has_put_same hown.isMap hkl _, atKey_put_same hown.isMap hkl _ _⟩
            · have hne : Lit.int .i64 ((L.getD v 0 : Nat) : Int) ≠ Lit.int .i64 (x : Int) := fun e2 => hs' v (by omega) (by injection e2 with _ e3; omega)
              rw [has_put_other hne, atKey_put_other hne]
              exact hseen v (by omega)
          · have hne : Lit.int .i64 (y : Int) ≠ Lit.int .i64 (x : Int) := fun e2 => hy k (by omega) (by rw [HX.out]; injection e2 with _ e3; omega)
            rw [has_put_other hne]
            exact hnew y (fun v hv => hy v (by omega))
        have d1 := HTR.out.cell hlk
        generalize (if k < k then T3.lab (ldI (ints L)) k else 0 : Nat) = old at d1
        have HOB : Hid (∀ w8, w8.ownsMap Try.prog 3 (plainElem (H := Unit) Try.prog 3) (p + 1) (k + 1) (D.put (.int .i64 (x : Int)) (.lit (.int .i64 (z : Int)))) → MapN w8 (p + 1) (k + 1) L (k + 1)) := fun w8 h => ⟨_, h, HPU.out⟩
        clear hown hsize hseen hnew h3 h4 hs hs' hkl hTD HPU
        go_wp2_with (first | (at_lookup; refine wpList_lookup_own_ok_int _ rfl _ _ 81 rfl 3 3 .i64 law3 Try.underlying81 Try.underlying3 (zero3 _) (p + 1) k D rfl HOW.out _ (.int .i64 (x : Int)) rfl HKX.out ?_; intro c hat hwc; rw [HAT.out] at hat; obtain rfl : c = (0 : Int) := (by injection hat with h; injection h with _ h; exact h.symm); rw [HHS.out]; clear hat hwc) | (at_len; refine wpList_len_own _ rfl _ 81 rfl 3 3 Try.underlying81 _ (p + 1) k D rfl HOW.out ?_; rw [HSZ.out]) | (at_mapUpdate; refine wpList_mapUpdate_own _ rfl _ _ _ 81 rfl 3 3 law3 Try.underlying81 (plainElem (H := Unit) Try.prog 3) (p + 1) k D rfl HOW.out (by unfold maxLen; omega) _ _ (.int .i64 (x : Int)) rfl rfl HKX.out (.lit (.int .i64 (z : Int))) [] (plainElem_int Try.underlying3 (wfN (by omega))) ?_; intro w8 hown8 hgrow8; have HM8 := Lib.hid (HOB.out w8 hown8); have HT8 : Hid (TbV w8 p L.length 3 (fun v => .int .i64 (((if v < k then T3.lab (ldI (ints L)) v else 0 : Nat)) : Int))) := HTR.out.same (hgrow8.block p HTR.out.lt (by simp)); have HB8 : Hid (Below p w w8) := HBR.out.grown hgrow8 (hp ▸ HBR.out.size) (by intro j hj; injection hj with hj; omega); have d8 := HT8.out.cell hlk; have f8 := HT8.out.free k; clear hown8 hgrow8))
        refine ⟨⟨k + 1, by omega, by simp, ?_, ?_, Lib.hid (HB8.out.setCell (Nat.le_refl _) _)⟩, by simp [intOf]; omega⟩
        · obtain ⟨D', g1, g2⟩ := HM8.out
          exact ⟨D', g1.setCell (by show p + 1 ≠ p; omega) _, g2⟩
        · refine (HT8.out.set k (.int .i64 (z : Int))).congr (fun u _ => ?_)
          by_cases e : u = k
          · subst e; rw [updV_self, if_pos (by omega), HZ.out]
          · rw [updV_ne _ _ e]
            by_cases e2 : u < k
            · rw [if_pos e2, if_pos (by omega)]
            · rw [if_neg e2, if_neg (by omega)]
    · obtain rfl : k = L.length := by omega
      have hlk' : ¬ (L.length : Int) < L.length := by omega
      have HO : Hid (wr.ownsRow p 3 1 (.slice (some ⟨p, 0, none⟩) L.length L.length) L.length (cellsI (ints ((List.range L.length).map (T3.lab (ldI (ints L))))))) := tb_own (HTR.out.congr (fun v hv => by rw [if_pos hv])) (Nat.le_refl _) (by omega)
      go_wp2_with fail
      go_ret
      refine ⟨p, rfl, ?_, HBR.out⟩
      rw [tdL_len]
      exact HO.out
end Go.Proofs.Ytgpaoiddjlpcmaa
namespace Go.Proofs.Ytgpaoiddjlpcmaa
open Go.RowKit
theorem szS_len (S : List Nat) (x : Nat) : (szS S x).length = if x = S.length then S.length + 1 else S.length := by
  unfold szS
  split <;> simp
theorem ints_take (L : List Nat) (k : Nat) : (ints L).take k = ints (L.take k) := by simp [ints, List.map_take]
theorem getD_app_lt {S : List Nat} {j x : Nat} (h : j < S.length) : (S ++ [x]).getD j 0 = S.getD j 0 := by simp [List.getD, List.getElem?_append_left h]
theorem getD_out {S : List Nat} {j : Nat} (h : S.length ≤ j) : S.getD j 0 = 0 := by simp [List.getD, List.getElem?_eq_none h]
theorem getD_setN {S : List Nat} {k j x : Nat} (hk : k < S.length) : (S.set k x).getD j 0 = if j = k then x else S.getD j 0 := by
  by_cases e : j = k
  · subst e; simp [List.getD, hk]
  · rw [if_neg e]; simp [List.getD, List.getElem?_set_ne (Ne.symm e)]
theorem szS_at {S : List Nat} {x : Nat} (hx : x ≤ S.length) (j : Nat) : (szS S x).getD j 0 = S.getD j 0 + (if j = x then 1 else 0) := by
  unfold szS
  by_cases e : x = S.length
  · rw [if_pos e]
    by_cases e2 : j = x
    · rw [if_pos e2, e2, e, getD_end, getD_out (Nat.le_refl _)]
    · rw [if_neg e2]
      rcases Nat.lt_or_ge j S.length with h | h
      · rw [getD_app_lt h]; omega
      · rw [getD_out h, getD_out (by rw [List.length_append]; simp; omega)]
  · rw [if_neg e, getD_setN (by omega)]
    by_cases e2 : j = x
    · subst e2; rw [if_pos rfl, if_pos rfl]
    · rw [if_neg e2, if_neg e2]; omega
/-- Right labels come no later than next. -/
theorem tdy_next {xs : List Int} : ∀ j k, k + j = xs.length → tdy (xs.drop k) ((szL (xs.take k)).length : Nat) = true → ∀ i, k ≤ i → i < xs.length → 0 ≤ xs.getD i 0 ∧ (xs.getD i 0).toNat ≤ (szL (xs.take i)).length
  | 0, k, e, _ => fun i h1 h2 => by omega
  | j + 1, k, e, h => by
    have hk : k < xs.length := by omega
    rw [drop_getI hk] at h
    simp only [tdy] at h
    split at h
    · cases h
    · rename_i hx
      intro i h1 h2
      by_cases e2 : i = k
      · subst e2; exact ⟨by omega, by omega⟩
      · refine tdy_next j (k + 1) (by omega) ?_ i (by omega) h2
        rw [take_snocI hk, szL_snoc, szS_len]
        by_cases e3 : xs.getD k 0 = ((szL (xs.take k)).length : Nat)
        · rw [if_pos e3] at h
          rw [if_pos (by omega)]
          exact h
        · rw [if_neg e3] at h
          rw [if_neg (by omega)]
          exact h
theorem right_next {xs : List Int} (h : tdy xs 0 = true) : ∀ i, i < xs.length → 0 ≤ xs.getD i 0 ∧ (xs.getD i 0).toNat ≤ (szL (xs.take i)).length := fun i hi => tdy_next xs.length 0 (by omega) h i (Nat.zero_le _) hi
end Go.Proofs.Ytgpaoiddjlpcmaa
