/-
  The reference's disk: contract of drop.
-/
import Derived.Test.YtlbkmhlpgpfafaaRb
namespace Go.Proofs.Ytlbkmhlpgpfafaa
open Go.RowKit Go.Maps Go.Joins
theorem own_slice {w : World} {base : Nat} {e : TypeId} {size : Nat} {v : Value} {n : Nat} {xs : List Value} (h : w.ownsRow base e size v n xs) : ∃ a c, v = .slice a n c := by
  rcases h.2 with ⟨rfl, rfl⟩ | ⟨g, c, cur, rfl, _⟩
  · exact ⟨none, 0, rfl⟩
  · exact ⟨_, c, rfl⟩
section
variable {w w' : World} {r : Nat} {v : Value} {S : PS} {D : Nat → Prop}
/-- The disk behind the store of a new list of files. -/
theorem RP.newv {S' : PS} {v' : Value} (h : RP w r v S) (hg : Below w.heap.size w w') (hr : w'.ownsRow w.heap.size 60 4 v' S'.fs.length (cellsF S'.fs)) (h1 : S'.left = S.left) (h2 : S'.dn = S.dn) :
    RTo w (w'.setCell ⟨r, 0, none⟩ v') r S' (Dv r v) := by
  have hrl := lt_of_block h.hd
  have hd' := (hg.block r hrl).trans h.hd
  have hne : v'.ownBlock ≠ some r := fun e => by have := (hr.lt r e).1; omega
  refine ⟨Dv r v', ⟨v', ⟨?_, ?_⟩, rfl⟩, fun k hk => ?_, (Fr.of hg).setCell ⟨r, 0, none⟩ v' (Or.inl (Or.inl rfl))⟩
  · rw [setR hd', h1, h2]
    simp
  · refine own_same (ownsRow_le hr (Nat.zero_le _)) (fun k hk => setO w' _ (fun e => hne (by rw [hk, e])))
  · rcases hk with rfl | hk
    · exact Or.inl (Or.inl rfl)
    · exact Or.inr (hr.lt k hk).1
set_option maxRecDepth 100000 in
set_option maxHeartbeats 3200000 in
theorem drop_any (h : RP w r v S) (hs : SOK S) (j : Nat) (hj : j < S.fs.length) :
    Calls Try.prog 50 #[.pointer (some ⟨r, 0, none⟩), .int .i64 j] w fun e w' => e = .returned (.tuple #[]) ∧ RTo w w' r { S with fs := S.fs.take j ++ S.fs.drop (j + 1) } (Dv r v) := by
  obtain ⟨i0, hi, hz0, hz1, hz2⟩ := info_parts info60
  obtain ⟨⟨c0, c1, c2⟩, f0, f1, f2⟩ := cells3 h.hd
  obtain ⟨g, c, hv, hgl, hcN⟩ := h.form (by omega)
  subst hv
  have hrl := lt_of_block h.hd
  have hl := hs.len
  have HN1 := Lib.hid (h.news 0 j (by omega))
  have HN2 := Lib.hid (h.news (j + 1) (S.fs.length - (j + 1)) (by omega))
  have HT : Hid ((S.fs.drop 0).take j = S.fs.take j ∧ (S.fs.drop (j + 1)).take (S.fs.length - (j + 1)) = S.fs.drop (j + 1)) := ⟨by simp, List.take_of_length_le (by rw [List.length_drop]; exact Nat.le_refl _)⟩
  rw [HT.out.1, Nat.zero_mul] at HN1
  rw [HT.out.2] at HN2
  have H := Lib.hid h
  have HLen : Hid ((S.fs.take j ++ S.fs.drop (j + 1)).length = j + (S.fs.length - (j + 1))) := by
    show _ = _
    rw [List.length_append, List.length_take, List.length_drop]
    omega
  obtain ⟨N, HN⟩ := named S.fs.length
  rw [HN.out] at c0 hj hcN hl HN2 HLen
  have hw : IntKind.i64.wrap ((j : Int) + 1) = (j : Int) + 1 := by rw [IntKind.wrap_i64] <;> omega
  clear h hs
  by_cases hcj : c = j + 1
  · have hcj' : (c : Int) = j + 1 := by omega
    go_enter Try.func50, Try.ntmps50
    go_wp2_with (first | (at_builtin; refine wpList_append_own _ rfl (.tmp 5) (.tmp 11) 53 rfl w.heap.size 60 i0 _ 4 56 Try.underlying53 hi hz0 hz1 hz2 rfl (by decide) (.slice none 0 0) 0 [] rfl ⟨rfl, Or.inl ⟨rfl, rfl⟩⟩ ⟨g, 0, none⟩ j _ (cellsF (S.fs.take j)) rfl HN1.out.1 HN1.out.2 (cellsF_one _) (by unfold maxLen; omega) (by omega) (Nat.le_refl _) ?_; intro v1 w1 hown1 hgr1 hnil1; clear hnil1; rw [Nat.zero_add, List.nil_append] at hown1; have hb1 : Below w.heap.size w w1 := (Below.refl _ _).grown hgr1 (Nat.le_refl _) (fun k hk => by cases hk); have d0 := (hb1.cell (p := ⟨r, 0, none⟩) hrl).trans c0; have HB1 := Lib.hid hb1; have HO1 := Lib.hid hown1; clear hb1 hown1 hgr1; have HNW : Hid (∀ x u, (cellsF (S.fs.drop (j + 1)))[x]? = some u → w1.cell? ((⟨g, 0, none⟩ : Addr).add x) = some u) := fun x u hu => by have h1 := HN2.out.1; have h2 : x < (cellsF (S.fs.drop (j + 1))).length := by { rcases Nat.lt_or_ge x (cellsF (S.fs.drop (j + 1))).length with h' | h'; exact h'; rw [List.getElem?_eq_none h'] at hu; cases hu }; omega) | (at_builtin; refine wpList_append_own _ rfl (.tmp 14) (.tmp 21) 53 rfl w.heap.size 60 i0 _ 4 56 Try.underlying53 hi hz0 hz1 hz2 rfl (by decide) v1 j (cellsF (S.fs.take j)) rfl HO1.out ⟨g, 0, none⟩ (N - (j + 1)) _ (cellsF (S.fs.drop (j + 1))) rfl HN2.out.1 HNW.out (cellsF_one _) (by unfold maxLen; omega) (by omega) HB1.out.size ?_; intro v2 w2 hown2 hgr2 hnil2; clear hnil2; have hb2 : Below w.heap.size w w2 := HB1.out.grown hgr2 HB1.out.size (fun k hk => (HO1.out.lt k hk).1); have HB2 := Lib.hid hb2; have HO2 : Hid (w2.ownsRow w.heap.size 60 4 v2 (j + (N - (j + 1))) (cellsF (S.fs.take j) ++ cellsF (S.fs.drop (j + 1)))) := hown2; have f0' : w2.frozen? ⟨r, 0, none⟩ = false := (World.frozen?_of_block (w := w) (hb2.block r hrl)).trans f0; have d1 := (hb2.cell (p := ⟨r, 0, none⟩) hrl).trans c0; clear hb2 hown2 hgr2; obtain ⟨av2, cv2, hv2⟩ := own_slice HO2.out; generalize hn2 : j + (N - (j + 1)) = N2 at *; subst hv2))
    go_end0
    refine ⟨rfl, H.out.newv (S' := { S with fs := S.fs.take j ++ S.fs.drop (j + 1) }) HB2.out ?_ rfl rfl⟩
    show w2.ownsRow w.heap.size 60 4 _ (S.fs.take j ++ S.fs.drop (j + 1)).length (cellsF (S.fs.take j ++ S.fs.drop (j + 1)))
    rw [HLen.out, cellsF_app]
    exact HO2.out
  · have hcj' : ¬ (c : Int) = j + 1 := by omega
    go_enter Try.func50, Try.ntmps50
    go_wp2_with (first | (at_builtin; refine wpList_append_own _ rfl (.tmp 5) (.tmp 11) 53 rfl w.heap.size 60 i0 _ 4 56 Try.underlying53 hi hz0 hz1 hz2 rfl (by decide) (.slice none 0 0) 0 [] rfl ⟨rfl, Or.inl ⟨rfl, rfl⟩⟩ ⟨g, 0, none⟩ j _ (cellsF (S.fs.take j)) rfl HN1.out.1 HN1.out.2 (cellsF_one _) (by unfold maxLen; omega) (by omega) (Nat.le_refl _) ?_; intro v1 w1 hown1 hgr1 hnil1; clear hnil1; rw [Nat.zero_add, List.nil_append] at hown1; have hb1 : Below w.heap.size w w1 := (Below.refl _ _).grown hgr1 (Nat.le_refl _) (fun k hk => by cases hk); have d0 := (hb1.cell (p := ⟨r, 0, none⟩) hrl).trans c0; have HB1 := Lib.hid hb1; have HO1 := Lib.hid hown1; clear hb1 hown1 hgr1; have HNW : Hid (∀ x u, (cellsF (S.fs.drop (j + 1)))[x]? = some u → w1.cell? ((⟨g, (j + 1) * 4, none⟩ : Addr).add x) = some u) := fun x u hu => by have h1 := HN2.out.2 x u hu; rw [Go.WideShapes.add_plain] at h1 ⊢; exact (HB1.out.cell (p := ⟨g, (j + 1) * 4 + x, none⟩) hgl).trans h1) | (at_builtin; refine wpList_append_own _ rfl (.tmp 14) (.tmp 21) 53 rfl w.heap.size 60 i0 _ 4 56 Try.underlying53 hi hz0 hz1 hz2 rfl (by decide) v1 j (cellsF (S.fs.take j)) rfl HO1.out ⟨g, (j + 1) * 4, none⟩ (N - (j + 1)) _ (cellsF (S.fs.drop (j + 1))) rfl HN2.out.1 HNW.out (cellsF_one _) (by unfold maxLen; omega) (by omega) HB1.out.size ?_; intro v2 w2 hown2 hgr2 hnil2; clear hnil2; have hb2 : Below w.heap.size w w2 := HB1.out.grown hgr2 HB1.out.size (fun k hk => (HO1.out.lt k hk).1); have HB2 := Lib.hid hb2; have HO2 : Hid (w2.ownsRow w.heap.size 60 4 v2 (j + (N - (j + 1))) (cellsF (S.fs.take j) ++ cellsF (S.fs.drop (j + 1)))) := hown2; have f0' : w2.frozen? ⟨r, 0, none⟩ = false := (World.frozen?_of_block (w := w) (hb2.block r hrl)).trans f0; have d1 := (hb2.cell (p := ⟨r, 0, none⟩) hrl).trans c0; clear hb2 hown2 hgr2; obtain ⟨av2, cv2, hv2⟩ := own_slice HO2.out; generalize hn2 : j + (N - (j + 1)) = N2 at *; subst hv2))
    go_end0
    refine ⟨rfl, H.out.newv (S' := { S with fs := S.fs.take j ++ S.fs.drop (j + 1) }) HB2.out ?_ rfl rfl⟩
    show w2.ownsRow w.heap.size 60 4 _ (S.fs.take j ++ S.fs.drop (j + 1)).length (cellsF (S.fs.take j ++ S.fs.drop (j + 1)))
    rw [HLen.out, cellsF_app]
    exact HO2.out
end
end Go.Proofs.Ytlbkmhlpgpfafaa
