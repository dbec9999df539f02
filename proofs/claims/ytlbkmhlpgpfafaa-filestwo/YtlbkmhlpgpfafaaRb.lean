/-
  The reference's disk: contracts of drop and put.
-/
import Derived.Test.YtlbkmhlpgpfafaaRa
import Derived.Laws.AppendOwnNone
namespace Go.Proofs.Ytlbkmhlpgpfafaa
open Go.RowKit Go.Maps Go.Joins
theorem srt_mem {α : Type} {key : α → List UInt8} {l l' : List α} (s : Srt key l) (s' : Srt key l') (h : ∀ f, f ∈ l ↔ f ∈ l') : l = l' := by
  refine srt_ext s s' (fun n => ?_)
  cases hq : fndK key n l with
  | none =>
    symm
    rw [fndK_none_iff]
    intro f hf
    exact fndK_none hq f ((h f).2 hf)
  | some f =>
    obtain ⟨h1, rfl⟩ := fndK_some hq
    exact (fndK_mem s' ((h f).1 h1)).symm
theorem drop_at {l : List PF} {j : Nat} (s : Srt PF.nm l) (hj : j < l.length) : delK PF.nm (l[j]).nm l = l.take j ++ l.drop (j + 1) := by
  have e : l = l.take j ++ l[j] :: l.drop (j + 1) := by
    rw [← List.drop_eq_getElem_cons hj, List.take_append_drop]
  have := mid_del (e ▸ s : Srt PF.nm (l.take j ++ l[j] :: l.drop (j + 1)))
  rw [← e] at this
  exact this
theorem set_at {l : List PF} {j : Nat} (u : PF → PF) (s : Srt PF.nm l) (hj : j < l.length) : setK PF.nm (l[j]).nm u l = l.set j (u l[j]) := by
  have e : l = l.take j ++ l[j] :: l.drop (j + 1) := by
    rw [← List.drop_eq_getElem_cons hj, List.take_append_drop]
  have := mid_set u (e ▸ s : Srt PF.nm (l.take j ++ l[j] :: l.drop (j + 1)))
  rw [← e] at this
  rw [this, List.set_eq_take_append_cons_drop, if_pos hj]
/-- How many names come ahead. -/
def Lead (l : List PF) (n : List UInt8) (k : Nat) : Prop := k ≤ l.length ∧ (∀ i (hi : i < l.length), i < k → bb (l[i]).nm n = true) ∧ ∀ hk : k < l.length, bb (l[k]).nm n = false
theorem Lead.after {l : List PF} {n : List UInt8} {k : Nat} (h : Lead l n k) (s : Srt PF.nm l) : ∀ x ∈ l.drop k, bb x.nm n = false := by
  intro x hx
  obtain ⟨i, hi, e⟩ := List.mem_iff_getElem.1 hx
  rw [List.length_drop] at hi
  rw [List.getElem_drop] at e
  have hk : k < l.length := by omega
  by_cases h0 : i = 0
  · subst h0
    rw [← e]
    exact h.2.2 hk
  · have h1 : bb (l[k]).nm (l[k + i]'(by omega)).nm = true := List.pairwise_iff_getElem.1 s k (k + i) hk (by omega) (by omega)
    rw [← e]
    cases hq : bb (l[k + i]'(by omega)).nm n with
    | false => rfl
    | true =>
      have := bb_trans h1 hq
      rw [h.2.2 hk] at this
      cases this
theorem Lead.ahead {l : List PF} {n : List UInt8} {k : Nat} (h : Lead l n k) : ∀ x ∈ l.take k, bb x.nm n = true := by
  intro x hx
  obtain ⟨i, hi, e⟩ := List.mem_iff_getElem.1 hx
  rw [List.length_take] at hi
  rw [List.getElem_take] at e
  rw [← e]
  exact h.2.1 i (by omega) (by omega)
theorem put_lead {l : List PF} {f : PF} {k : Nat} (s : Srt PF.nm l) (h : Lead l f.nm k) : putK PF.nm f l = if hk : k < l.length then (if (l[k]).nm = f.nm then l.set k f else l.take k ++ f :: l.drop k) else l.take k ++ f :: l.drop k := by
  have hA := h.ahead
  have hB := h.after s
  have hsplit : l = l.take k ++ l.drop k := (List.take_append_drop k l).symm
  have hs := s
  rw [hsplit] at hs
  unfold Srt at hs
  rw [List.pairwise_append] at hs
  have gen : (∀ x ∈ l.drop k, x.nm ≠ f.nm) → putK PF.nm f l = l.take k ++ f :: l.drop k := by
    intro hne
    refine srt_mem (srt_put s) ?_ (fun x => ?_)
    · unfold Srt
      rw [List.pairwise_append]
      refine ⟨hs.1, List.pairwise_cons.2 ⟨fun x hx => ?_, hs.2.1⟩, fun x hx y hy => ?_⟩
      · rcases bb_total (hne x hx) with h' | h'
        · rw [hB x hx] at h'; cases h'
        · exact h'
      · rcases List.mem_cons.1 hy with rfl | hy
        · exact hA x hx
        · exact hs.2.2 x hx y hy
    · rw [mem_putK]
      conv => lhs; rw [hsplit]
      rw [List.mem_append, List.mem_append, List.mem_cons]
      constructor
      · rintro (h | ⟨h | h, _⟩)
        · exact Or.inr (Or.inl h)
        · exact Or.inl h
        · exact Or.inr (Or.inr h)
      · rintro (h | h | h)
        · exact Or.inr ⟨Or.inl h, bb_ne (hA x h)⟩
        · exact Or.inl h
        · exact Or.inr ⟨Or.inr h, hne x h⟩
  split
  · rename_i hk
    split
    · rename_i he
      have := put_set (key := PF.nm) (n := (l[k]).nm) (g := fun p => { f with nm := p.nm }) s (fun _ => rfl) (fndK_mem s (List.getElem_mem hk))
      rw [set_at _ s hk] at this
      have e : ({ f with nm := (l[k]).nm } : PF) = f := by rw [he]
      simp only [e] at this
      exact this
    · rename_i he
      refine gen (fun x hx => ?_)
      intro e
      obtain ⟨i, hi, e'⟩ := List.mem_iff_getElem.1 hx
      rw [List.length_drop] at hi
      rw [List.getElem_drop] at e'
      by_cases h0 : i = 0
      · subst h0
        exact he (by rw [← e, ← e']; rfl)
      · have h1 : bb (l[k]).nm (l[k + i]'(by omega)).nm = true := List.pairwise_iff_getElem.1 s k (k + i) hk (by omega) (by omega)
        rw [e', e, h.2.2 hk] at h1
        cases h1
  · rename_i hk
    refine gen (fun x hx => ?_)
    rw [List.drop_of_length_le (by omega)] at hx
    cases hx
theorem cellsF_set (l : List PF) : ∀ k (x : PF), k < l.length → ((((cellsF l).set (k * 4) (.string (sB x.nm))).set (k * 4 + 1) (.string (sB x.has))).set (k * 4 + 2) (.string (sB x.safe))).set (k * 4 + 3) (.bool x.kept) = cellsF (l.set k x) := by
  induction l with
  | nil => intro k x hk; simp at hk
  | cons f r ih =>
    intro k x hk
    match k with
    | 0 => simp [cellsF, cF]
    | k + 1 =>
      have := ih k x (by simpa using hk)
      rw [show (k + 1) * 4 = k * 4 + 1 + 1 + 1 + 1 by omega]
      simpa [cellsF, cF] using this
theorem info60 : (Try.prog.info? 60).map (fun i => (i.zero, i.size, i.bytes)) = some (some (.agg #[.string ⟨#[]⟩, .string ⟨#[]⟩, .string ⟨#[]⟩, .bool false]), 4, 56) := by kernel_rfl
section
variable {w w' : World} {r : Nat} {v : Value} {S : PS} {D : Nat → Prop}
/-- Files of a row, as append takes them. -/
theorem RP.news {g c : Nat} (h : RP w r (.slice (some ⟨g, 0, none⟩) S.fs.length c) S) (k m : Nat) (hkm : k + m ≤ S.fs.length) :
    (cellsF ((S.fs.drop k).take m)).length = m * 4 ∧ ∀ j u, (cellsF ((S.fs.drop k).take m))[j]? = some u → w.cell? ((⟨g, k * 4, none⟩ : Addr).add j) = some u := by
  have hl : (cellsF ((S.fs.drop k).take m)).length = m * 4 := by
    rw [cellsF_len, List.length_take, List.length_drop]
    congr 1
    omega
  refine ⟨hl, fun j u hu => ?_⟩
  have hj : j < m * 4 := by
    rcases Nat.lt_or_ge j (m * 4) with h' | h'
    · exact h'
    · rw [List.getElem?_eq_none (by rw [hl]; exact h')] at hu
      cases hu
  rw [← cellsF_take, ← cellsF_drop, List.getElem?_take, if_pos hj, List.getElem?_drop] at hu
  rw [Go.WideShapes.add_plain]
  exact (h.own.cellAt (k * 4 + j) (by omega)).trans hu
end
end Go.Proofs.Ytlbkmhlpgpfafaa
