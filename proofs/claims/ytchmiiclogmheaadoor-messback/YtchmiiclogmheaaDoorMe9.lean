/-
  A message as an item.
-/
import Derived.Test.YtchmiiclogmheaaDoorMe8
namespace Go.Proofs.YtchmiiclogmheaaDoor.C2
open Go.RowKit
/-- So many members are there. -/
structure Its (B : Nat) (wr : World) (v : Value) (l : List T) : Prop where
  own : wr.ownsRow B 54 4 v l.length (cellsC l)
  mem : ∀ j (h : j < l.length) f, InS (fun b => B ≤ b ∧ b < wr.heap.size ∧ v.ownBlock ≠ some b) wr f l[j]
theorem Its.on {B : Nat} {wr w' : World} {v : Value} {l : List T} (h : Its B wr v l) (hb : Below wr.heap.size wr w') : Its B w' v l := by
  refine ⟨⟨h.own.1, ?_⟩, fun j hj f => (h.mem j hj f).same (fun b hb' => ⟨⟨hb'.1, Nat.lt_of_lt_of_le hb'.2.1 hb.size, hb'.2.2⟩, hb.block b hb'.2.1⟩)⟩
  rcases h.own.2 with h' | ⟨g, c, cur, h', hb', hg, rest⟩
  · exact Or.inl h'
  · exact Or.inr ⟨g, c, cur, h', hb', (hb.block g (lt_of_block hg)).trans hg, rest⟩
theorem Its.step {B : Nat} {wr w2 w2a w3 : World} {v v3 : Value} {l : List T} {t : T} (h : Its B wr v l) (hBw : B ≤ wr.heap.size) (hb1 : Below wr.heap.size wr w2)
    (hin : ∀ f, InS (fun b => wr.heap.size ≤ b ∧ b < w2.heap.size) w2 f t) (hb : Below w2.heap.size w2 w2a)
    (hown3 : w3.ownsRow B 54 4 v3 (l.length + 1) (cellsC l ++ t.cells)) (hg : w2a.grownBy w3 v.ownBlock) (hv3 : v3.ownBlock = v.ownBlock ∨ v3.ownBlock = some w2a.heap.size) : Its B w3 v3 (l ++ [t]) := by
  have hsame : ∀ b, b < w2.heap.size → v.ownBlock ≠ some b → w3.heap[b]? = w2.heap[b]? := fun b h1 h2 => (hg.block b (Nat.lt_of_lt_of_le h1 hb.size) (fun e => h2 e.symm)).trans (hb.block b h1)
  have hz1 := hb1.size
  have hz2 := hb.size
  have hz3 := hg.size
  have hown := h.own.lt
  refine ⟨by rw [cellsC_join, List.length_append]; exact hown3, ?_⟩
  intro j hj f
  by_cases hjl : j < l.length
  · rw [List.getElem_append_left hjl]
    refine (h.mem j hjl f).same ?_
    rintro b ⟨h1, h2, h3⟩
    refine ⟨⟨h1, by omega, ?_⟩, (hsame b (by omega) h3).trans (hb1.block b h2)⟩
    rcases hv3 with e | e
    · rw [e]; exact h3
    · rw [e]; intro e2; injection e2 with e2; omega
  · have hje : j = l.length := by simp at hj; omega
    subst hje
    rw [List.getElem_append_right (Nat.le_refl _)]
    simp only [Nat.sub_self, List.getElem_cons_zero]
    refine (hin f).same ?_
    rintro b ⟨h1, h2⟩
    have h3 : v.ownBlock ≠ some b := fun e => by have := hown b e; omega
    refine ⟨⟨by omega, by omega, ?_⟩, hsame b h2 h3⟩
    rcases hv3 with e | e
    · rw [e]; exact h3
    · rw [e]; intro e2; injection e2 with e2; omega
theorem Its.out {B : Nat} {wr w' : World} {v : Value} {l : List T} (h : Its B wr v l) (hb : Below wr.heap.size wr w') (h8 : l.length ≤ 140737488355328) :
    ∃ p cap, v = .slice p l.length cap ∧ ∀ f, InS (fun b => B ≤ b ∧ b < w'.heap.size) w' f (lT p cap l) := by
  have h' := h.on hb
  have hmem : ∀ j (hj : j < l.length) f, InS (fun b => B ≤ b ∧ b < w'.heap.size) w' f l[j] := fun j hj f => (h'.mem j hj f).same (fun b hb => ⟨⟨hb.1, hb.2.1⟩, rfl⟩)
  have hbd : ∀ (p : Option Addr) (cap : Nat), 0 ≤ (lT p cap l).n ∧ (lT p cap l).n ≤ 18446744073709551615 ∧ (lT p cap l).s.size ≤ 140737488355328 ∧ (lT p cap l).l.length ≤ 140737488355328 := fun p cap => ⟨by show (0 : Int) ≤ 0; omega, by show (0 : Int) ≤ _; omega, by show (0 : Nat) ≤ _; omega, h8⟩
  rcases h'.own.2 with ⟨e, h0⟩ | ⟨g, c, cur, e, hb', hg, h1, h2, h3, h4⟩
  · refine ⟨none, 0, by rw [h0]; exact e, fun f => ?_⟩
    cases f with
    | zero => trivial
    | succ f => exact ⟨hbd _ _, fun h => absurd h (by show ¬ 0 < l.length; omega), fun j hj => hmem j hj f⟩
  · refine ⟨_, c, e, fun f => ?_⟩
    cases f with
    | zero => trivial
    | succ f =>
      refine ⟨hbd _ _, fun _ => ⟨g, 0, rfl, ⟨hb', lt_of_block hg⟩, fun j hj => ?_⟩, fun j hj => hmem j hj f⟩
      have hj : j < l.length := hj
      have hown := h'.own
      rw [e] at hown
      have ec := fun i hi => hown.cellAt i hi
      obtain ⟨e0, e1, e2, e3⟩ := cellsC_at l j hj
      show (l[j]).at w' g (0 + j * 4)
      rw [Nat.zero_add]
      exact ⟨(ec (j * 4) (by omega)).trans e0, (ec (j * 4 + 1) (by omega)).trans e1, (ec (j * 4 + 2) (by omega)).trans e2, (ec (j * 4 + 3) (by omega)).trans e3⟩
theorem its_one {B : Nat} {w : World} {x : Int} (hB : B ≤ w.heap.size) (h0 : 0 ≤ x) (h1 : x ≤ 18446744073709551615) : Its B (w.alloc (.cells #[.int .i64 1, .int .u64 x, .string ⟨#[]⟩, .slice none 0 0] 54)) (.slice (some ⟨w.heap.size, 0, none⟩) 1 1) [nT x] := by
  refine ⟨World.ownsRow_lit (base := B) (e := 54) (size := 4) w #[.int .i64 1, .int .u64 x, .string ⟨#[]⟩, .slice none 0 0] 1 hB (by unfold maxLen; omega) rfl, fun j hj f => ?_⟩
  have : j = 0 := by simp at hj; omega
  subst this
  exact inS_num h0 h1 f
/-- A message's fields. -/
def fK (m : MM) : List Int := fl m.kd.toNat
/-- What a message must be, to be made an item. -/
structure Fine (m : MM) : Prop where
  kd : 1 ≤ m.kd ∧ m.kd ≤ 4
  ok : Ok m
  fs : ∀ j, j < (fK m).length → ∃ f : Nat, (fK m).getD j 0 = (f : Int) ∧ f ≤ 9 ∧ (f = 8 → MxOk m.ms) ∧ (f ≤ 6 → 0 ≤ nF m f ∧ nF m f ≤ 9223372036854775807)
/-- An item is a message. -/
def IsMsg (m : MM) (t : T) : Prop := ∃ a c u, t = lT a c (nT m.kd :: u) ∧ u.length = (fK m).length ∧ ∀ j, j < (fK m).length → IsF m ((fK m).getD j 0).toNat (u.getD j T.zero)
theorem fK_len (m : MM) : (fK m).length ≤ 6 := by
  unfold fK fl
  split <;> simp
set_option maxRecDepth 100000 in
theorem new_cells (w : World) (t : T) : ∀ j u, t.cells[j]? = some u → (w.alloc (.cells #[.int .i64 t.k, .int .u64 t.n, .string t.s, .slice t.a t.l.length t.cap] 54)).cell? ((⟨w.heap.size, 0, none⟩ : Addr).add j) = some u := by
  intro j u hu
  obtain ⟨⟨q0, q1, q2, q3⟩, _⟩ := cells4 (heap_top w (.cells #[.int .i64 t.k, .int .u64 t.n, .string t.s, .slice t.a t.l.length t.cap] 54))
  have e : (⟨w.heap.size, 0, none⟩ : Addr).add j = ⟨w.heap.size, j, none⟩ := by
    simp [Addr.add]
    intro h; exact h.symm
  rw [e]
  match j, hu with
  | 0, hu => rw [q0]; exact hu
  | 1, hu => rw [q1]; exact hu
  | 2, hu => rw [q2]; exact hu
  | 3, hu => rw [q3]; exact hu
theorem cells_one (t : T) : ∀ u ∈ t.cells, u.oneCell' = true := by
  intro u hu
  simp [T.cells] at hu
  rcases hu with rfl | rfl | rfl | rfl <;> rfl
end Go.Proofs.YtchmiiclogmheaaDoor.C2
