/-
  The reference's net: contract of drop.
-/
import Derived.Test.YtfhlfklgngpklaaR2
namespace Go.Proofs.Ytfhlfklgngpklaa
open Go.RowKit Go.Maps
theorem info89 : ∃ i, Try.prog.info? 89 = some i ∧ i.zero = some (.agg #[.int .i64 0, .int .i64 0, .string ⟨#[]⟩]) ∧ i.size = 3 ∧ i.bytes = 32 := by
  have h : (Try.prog.info? 89).map (fun i => (i.zero, i.size, i.bytes)) = some (some (.agg #[.int .i64 0, .int .i64 0, .string ⟨#[]⟩]), 3, 32) := by kernel_rfl
  cases hi : Try.prog.info? 89 with
  | none => rw [hi] at h; cases h
  | some i => rw [hi] at h; simp at h; exact ⟨i, rfl, h.1, h.2.1, h.2.2⟩
theorem ownsRow_le {w : World} {b b' : Nat} {e : TypeId} {s n : Nat} {v : Value} {xs : List Value} (h : w.ownsRow b e s v n xs) (hb : b' ≤ b) : w.ownsRow b' e s v n xs := own_le h hb
section
variable {w w' : World} {r : Nat} {uv lv tv : Value} {R : RS} {D : Nat → Prop}
theorem RM.formL (h : RM w r uv lv tv R) (hn : 0 < R.ls.length) : ∃ g c, lv = .slice (some ⟨g, 0, none⟩) R.ls.length c ∧ g < w.heap.size ∧ R.ls.length ≤ c := by
  rcases h.lo.2 with ⟨_, e⟩ | ⟨g, c, cur, rfl, _, hb, hc, _⟩
  · omega
  · exact ⟨g, c, rfl, lt_of_block hb, hc⟩
theorem RM.news {g c : Nat} (h : RM w r uv (.slice (some ⟨g, 0, none⟩) R.ls.length c) tv R) (k m : Nat) (hkm : k + m ≤ R.ls.length) :
    (ltC ((R.ls.drop k).take m)).length = m * 3 ∧ ∀ j u, (ltC ((R.ls.drop k).take m))[j]? = some u → w.cell? ((⟨g, k * 3, none⟩ : Addr).add j) = some u := by
  have hl : (ltC ((R.ls.drop k).take m)).length = m * 3 := by
    rw [ltC_len, List.length_take, List.length_drop]
    congr 1
    omega
  refine ⟨hl, fun j u hu => ?_⟩
  have hj : j < m * 3 := by
    rcases Nat.lt_or_ge j (m * 3) with h' | h'
    · exact h'
    · rw [List.getElem?_eq_none (by rw [hl]; exact h')] at hu
      cases hu
  rw [← ltC_take, ← ltC_drop, List.getElem?_take, if_pos hj, List.getElem?_drop] at hu
  rw [Go.WideShapes.add_plain]
  exact (h.lo.cellAt (k * 3 + j) (by omega)).trans hu
set_option maxRecDepth 100000 in
set_option maxHeartbeats 3200000 in
theorem rdrop_any (h : RM w r uv lv tv R) (hl : R.ls.length ≤ 1000000) (j : Nat) (hj : j < R.ls.length) :
    Calls Try.prog 60 #[.pointer (some ⟨r, 0, none⟩), .int .i64 j] w fun e w' => e = .returned (.tuple #[]) ∧ RTo w w' r { R with ls := R.ls.take j ++ R.ls.drop (j + 1) } (Dr r uv lv tv) := by
  obtain ⟨i0, hi, hz0, hz1, hz2⟩ := info89
  obtain ⟨⟨c0, c1, c2, c3⟩, f0, f1, f2, f3⟩ := cells4 h.hd
  obtain ⟨g, c, hv, hgl, hcN⟩ := h.formL (by omega)
  subst hv
  have hrl := lt_of_block h.hd
  have HN1 := Lib.hid (h.news 0 j (by omega))
  have HN2 := Lib.hid (h.news (j + 1) (R.ls.length - (j + 1)) (by omega))
  have HT : Hid ((R.ls.drop 0).take j = R.ls.take j ∧ (R.ls.drop (j + 1)).take (R.ls.length - (j + 1)) = R.ls.drop (j + 1)) := ⟨by simp, List.take_of_length_le (by rw [List.length_drop]; exact Nat.le_refl _)⟩
  rw [HT.out.1, Nat.zero_mul] at HN1
  rw [HT.out.2] at HN2
  have H := Lib.hid h
  have HLen : Hid ((R.ls.take j ++ R.ls.drop (j + 1)).length = j + (R.ls.length - (j + 1))) := by
    show _ = _
    rw [List.length_append, List.length_take, List.length_drop]
    omega
  obtain ⟨N, HN⟩ := named R.ls.length
  rw [HN.out] at c1 hj hcN hl HN2 HLen
  have hw : IntKind.i64.wrap ((j : Int) + 1) = (j : Int) + 1 := by rw [IntKind.wrap_i64] <;> omega
  clear h
  by_cases hcj : c = j + 1
  · have hcj' : (c : Int) = j + 1 := by omega
    go_enter Try.func60, Try.ntmps60
    go_wp2_with (first | (at_builtin; refine wpList_append_own _ rfl (.tmp 5) (.tmp 11) 60 rfl w.heap.size 89 i0 _ 3 32 Try.underlying60 hi hz0 hz1 hz2 rfl (by decide) (.slice none 0 0) 0 [] rfl ⟨rfl, Or.inl ⟨rfl, rfl⟩⟩ ⟨g, 0, none⟩ j _ (ltC (R.ls.take j)) rfl HN1.out.1 HN1.out.2 (ltC_one _) (by unfold maxLen; omega) (by omega) (Nat.le_refl _) ?_; intro v1 w1 hown1 hgr1 hnil1; clear hnil1; rw [Nat.zero_add, List.nil_append] at hown1; have hb1 : Below w.heap.size w w1 := (Below.refl _ _).grown hgr1 (Nat.le_refl _) (fun k hk => by cases hk); have d0 := (hb1.cell (p := ⟨r, 1, none⟩) hrl).trans c1; have HB1 := Lib.hid hb1; have HO1 := Lib.hid hown1; clear hb1 hown1 hgr1; have HNW : Hid (∀ x u, (ltC (R.ls.drop (j + 1)))[x]? = some u → w1.cell? ((⟨g, 0, none⟩ : Addr).add x) = some u) := fun x u hu => by have h1 := HN2.out.1; have h2 : x < (ltC (R.ls.drop (j + 1))).length := by { rcases Nat.lt_or_ge x (ltC (R.ls.drop (j + 1))).length with h' | h'; exact h'; rw [List.getElem?_eq_none h'] at hu; cases hu }; omega) | (at_builtin; refine wpList_append_own _ rfl (.tmp 14) (.tmp 21) 60 rfl w.heap.size 89 i0 _ 3 32 Try.underlying60 hi hz0 hz1 hz2 rfl (by decide) v1 j (ltC (R.ls.take j)) rfl HO1.out ⟨g, 0, none⟩ (N - (j + 1)) _ (ltC (R.ls.drop (j + 1))) rfl HN2.out.1 HNW.out (ltC_one _) (by unfold maxLen; omega) (by omega) HB1.out.size ?_; intro v2 w2 hown2 hgr2 hnil2; clear hnil2; have hb2 : Below w.heap.size w w2 := HB1.out.grown hgr2 HB1.out.size (fun k hk => (HO1.out.lt k hk).1); have HB2 := Lib.hid hb2; have HO2 : Hid (w2.ownsRow w.heap.size 89 3 v2 (j + (N - (j + 1))) (ltC (R.ls.take j) ++ ltC (R.ls.drop (j + 1)))) := hown2; have f1' : w2.frozen? ⟨r, 1, none⟩ = false := (World.frozen?_of_block (w := w) (hb2.block r hrl)).trans f1; have d1 := (hb2.cell (p := ⟨r, 1, none⟩) hrl).trans c1; clear hb2 hown2 hgr2; obtain ⟨av2, cv2, hv2⟩ := own_slice HO2.out; generalize hn2 : j + (N - (j + 1)) = N2 at *; subst hv2))
    go_end0
    refine ⟨rfl, H.out.newL (Fr.of HB2.out) ?_ (fun k hk => Or.inr (HO2.out.lt k hk).1)⟩
    refine ownsRow_le ?_ (Nat.zero_le w.heap.size)
    show w2.ownsRow w.heap.size 89 3 _ (R.ls.take j ++ R.ls.drop (j + 1)).length (ltC (R.ls.take j ++ R.ls.drop (j + 1)))
    rw [HLen.out, ltC_append]
    exact HO2.out
  · have hcj' : ¬ (c : Int) = j + 1 := by omega
    go_enter Try.func60, Try.ntmps60
    go_wp2_with (first | (at_builtin; refine wpList_append_own _ rfl (.tmp 5) (.tmp 11) 60 rfl w.heap.size 89 i0 _ 3 32 Try.underlying60 hi hz0 hz1 hz2 rfl (by decide) (.slice none 0 0) 0 [] rfl ⟨rfl, Or.inl ⟨rfl, rfl⟩⟩ ⟨g, 0, none⟩ j _ (ltC (R.ls.take j)) rfl HN1.out.1 HN1.out.2 (ltC_one _) (by unfold maxLen; omega) (by omega) (Nat.le_refl _) ?_; intro v1 w1 hown1 hgr1 hnil1; clear hnil1; rw [Nat.zero_add, List.nil_append] at hown1; have hb1 : Below w.heap.size w w1 := (Below.refl _ _).grown hgr1 (Nat.le_refl _) (fun k hk => by cases hk); have d0 := (hb1.cell (p := ⟨r, 1, none⟩) hrl).trans c1; have HB1 := Lib.hid hb1; have HO1 := Lib.hid hown1; clear hb1 hown1 hgr1; have HNW : Hid (∀ x u, (ltC (R.ls.drop (j + 1)))[x]? = some u → w1.cell? ((⟨g, (j + 1) * 3, none⟩ : Addr).add x) = some u) := fun x u hu => by have h1 := HN2.out.2 x u hu; rw [Go.WideShapes.add_plain] at h1 ⊢; exact (HB1.out.cell (p := ⟨g, (j + 1) * 3 + x, none⟩) hgl).trans h1) | (at_builtin; refine wpList_append_own _ rfl (.tmp 14) (.tmp 21) 60 rfl w.heap.size 89 i0 _ 3 32 Try.underlying60 hi hz0 hz1 hz2 rfl (by decide) v1 j (ltC (R.ls.take j)) rfl HO1.out ⟨g, (j + 1) * 3, none⟩ (N - (j + 1)) _ (ltC (R.ls.drop (j + 1))) rfl HN2.out.1 HNW.out (ltC_one _) (by unfold maxLen; omega) (by omega) HB1.out.size ?_; intro v2 w2 hown2 hgr2 hnil2; clear hnil2; have hb2 : Below w.heap.size w w2 := HB1.out.grown hgr2 HB1.out.size (fun k hk => (HO1.out.lt k hk).1); have HB2 := Lib.hid hb2; have HO2 : Hid (w2.ownsRow w.heap.size 89 3 v2 (j + (N - (j + 1))) (ltC (R.ls.take j) ++ ltC (R.ls.drop (j + 1)))) := hown2; have f1' : w2.frozen? ⟨r, 1, none⟩ = false := (World.frozen?_of_block (w := w) (hb2.block r hrl)).trans f1; have d1 := (hb2.cell (p := ⟨r, 1, none⟩) hrl).trans c1; clear hb2 hown2 hgr2; obtain ⟨av2, cv2, hv2⟩ := own_slice HO2.out; generalize hn2 : j + (N - (j + 1)) = N2 at *; subst hv2))
    go_end0
    refine ⟨rfl, H.out.newL (Fr.of HB2.out) ?_ (fun k hk => Or.inr (HO2.out.lt k hk).1)⟩
    refine ownsRow_le ?_ (Nat.zero_le w.heap.size)
    show w2.ownsRow w.heap.size 89 3 _ (R.ls.take j ++ R.ls.drop (j + 1)).length (ltC (R.ls.take j ++ R.ls.drop (j + 1)))
    rw [HLen.out, ltC_append]
    exact HO2.out
end
end Go.Proofs.Ytfhlfklgngpklaa
