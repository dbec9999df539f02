/-
  The contract of flyoverref07.Around.
-/
import Derived.Test.YtgkpmcpkobphpaaRMath
import Derived.Test.YtgkpmcpkobphpaaApp
import Derived.Test.YtgkpmcpkobphpaaAround
import Derived.Deep.RegionWith
namespace Go.Proofs.Ytgkpmcpkobphpaa
open Go.RowKit
/-- Between two vertices. -/
structure Ro (w wr : World) (p n : Nat) (s : Value) (E : List Ed) (M c k g cc : Nat) : Prop where
  le : k ≤ (gro E M n (fun _ => false) c k).1.length
  ow : wr.ownsRow (p + 2) 3 1 (.slice (some ⟨g, 0, none⟩) (gro E M n (fun _ => false) c k).1.length cc) (gro E M n (fun _ => false) c k).1.length (cellsI (ints (gro E M n (fun _ => false) c k).1))
  tb : TbV wr (p + 1) n 4 (fun u => .bool ((gro E M n (fun _ => false) c k).2 u))
  bx : wr.heap[p]? = some (.cells #[.int .i64 (n : Int), s] 24 (0, 0))
  be : Below p w wr
/-- Within a vertex's neighbours: j of q have been looked at. -/
structure Ri (w wr : World) (p n : Nat) (s : Value) (S : Nat → Bool) (xs q : List Nat) (j g cc gq : Nat) (aq : Option Addr) (cq : Nat) : Prop where
  ow : wr.ownsRow (p + 2) 3 1 (.slice (some ⟨g, 0, none⟩) (xs.length + ((q.take j).filter (fun u => !S u)).length) cc) (xs.length + ((q.take j).filter (fun u => !S u)).length) (cellsI (ints (xs ++ (q.take j).filter (fun u => !S u))))
  tb : TbV wr (p + 1) n 4 (fun u => .bool (S u || decide (u ∈ q.take j)))
  bx : wr.heap[p]? = some (.cells #[.int .i64 (n : Int), s] 24 (0, 0))
  be : Below p w wr
  qs : wr.ownsRow (gq + 1) 3 1 (.slice aq q.length cq) q.length (cellsI (ints q))
  ne : ∀ b, (Value.slice aq q.length cq).ownBlock = some b → b ≠ g
  sz : gq < wr.heap.size
theorem take_fil {S : Nat → Bool} {q : List Nat} {j : Nat} (hj : j < q.length) : (q.take (j + 1)).filter (fun u => !S u) = if S (q.getD j 0) = true then (q.take j).filter (fun u => !S u) else (q.take j).filter (fun u => !S u) ++ [q.getD j 0] := by
  rw [take_snoc hj, List.filter_append]
  generalize q.getD j 0 = x
  by_cases h : S x = true
  · rw [if_pos h]; simp [h]
  · rw [if_neg h]; simp [h]
theorem take_new {q : List Nat} (hq : q.Nodup) {j : Nat} (hj : j < q.length) : q.getD j 0 ∉ q.take j := by
  intro h
  have h2 : (q.take (j + 1)).Nodup := hq.sublist (List.take_sublist _ _)
  rw [take_snoc hj, List.nodup_append] at h2
  exact h2.2.2 _ h _ (by simp) rfl
theorem Ri.skip {w wr : World} {p n : Nat} {s : Value} {S : Nat → Bool} {xs q : List Nat} {j g cc gq : Nat} {aq : Option Addr} {cq : Nat} (h : Ri w wr p n s S xs q j g cc gq aq cq) (hj : j < q.length) (hS : S (q.getD j 0) = true) : Ri w wr p n s S xs q (j + 1) g cc gq aq cq := by
  have e := take_fil (S := S) hj
  rw [if_pos hS] at e
  refine ⟨by rw [e]; exact h.ow, h.tb.congr (fun u _ => ?_), h.bx, h.be, h.qs, h.ne, h.sz⟩
  rw [take_snoc hj]
  by_cases hu : u = q.getD j 0
  · subst hu; rw [hS]; simp
  · congr 2
    rw [Bool.eq_iff_iff]
    simp only [decide_eq_true_eq, List.mem_append, List.mem_singleton, hu, or_false]
theorem Ri.add {w wr w6 : World} {p n : Nat} {s : Value} {S : Nat → Bool} {xs q : List Nat} {j g cc gq g6 c6 : Nat} {aq : Option Addr} {cq : Nat} {o : Obj} (h : Ri w wr p n s S xs q j g cc gq aq cq) (hj : j < q.length) (hS : S (q.getD j 0) = false) (hpq : p + 1 ≤ gq)
    (hown : w6.ownsRow (p + 2) 3 1 (.slice (some ⟨g6, 0, none⟩) (xs.length + ((q.take j).filter (fun u => !S u)).length + 1) c6) (xs.length + ((q.take j).filter (fun u => !S u)).length + 1) (cellsI (ints (xs ++ (q.take j).filter (fun u => !S u))) ++ [.int .i64 ((q.getD j 0 : Nat) : Int)]))
    (hgr : ((wr.setCell ⟨p + 1, q.getD j 0, none⟩ (.bool true)).alloc o).grownBy w6 (some g)) (hb : g6 = g ∨ g6 = wr.heap.size + 1) : Ri w w6 p n s S xs q (j + 1) g6 c6 gq aq cq := by
  have e := take_fil (S := S) hj
  rw [if_neg (by rw [hS]; simp)] at e
  have hgl := own_lt h.ow
  have f1 : Fr (fun j => j = p + 1) wr (wr.setCell ⟨p + 1, q.getD j 0, none⟩ (.bool true)) := (Fr.refl _ wr).setCell ⟨p + 1, q.getD j 0, none⟩ _ rfl
  have f2 : Fr (fun j => j = g) (wr.setCell ⟨p + 1, q.getD j 0, none⟩ (.bool true)) w6 := ((Fr.refl _ _).alloc o).trans ⟨hgr.os, hgr.tape, hgr.output, hgr.size, fun k hk hn => hgr.block k hk (fun e => hn (Option.some.inj e))⟩
  have f3 : Fr (fun j => j = p + 1 ∨ j = g) wr w6 := (f1.imp (fun _ h => .inl h)).trans (f2.imp (fun _ h => .inr h))
  have hqb : ∀ b, (Value.slice aq q.length cq).ownBlock = some b → gq + 1 ≤ b ∧ b < wr.heap.size := fun b hb => h.qs.lt b hb
  refine ⟨?_, ?_, ?_, ?_, ?_, ?_, Nat.lt_of_lt_of_le h.sz f3.size⟩
  · rw [e, List.length_append, ← List.append_assoc, ints_snoc, ← cellsI_snoc]
    exact hown
  · refine ((h.tb.set (q.getD j 0) (.bool true)).fr f2 (fun e => by have e : p + 1 = g := e; omega)).congr (fun u _ => ?_)
    rw [take_snoc hj]
    refine upd_true (G := fun u => S u || decide (u ∈ q.take j ++ [q.getD j 0])) (fun u => ?_)
    rw [Bool.or_assoc]
    congr 1
    rw [Bool.eq_iff_iff]
    simp only [decide_eq_true_eq, List.mem_append, List.mem_singleton, Bool.or_eq_true]
  · exact (f3.block p (lt_of_block h.bx) (fun e => by omega)).trans h.bx
  · exact ⟨f3.os.trans h.be.os, f3.tape.trans h.be.tape, f3.output.trans h.be.output, Nat.le_trans h.be.size f3.size, fun k hk => (f3.block k (by have := lt_of_block h.bx; omega) (fun e => by omega)).trans (h.be.block k hk)⟩
  · refine ⟨h.qs.1, ?_⟩
    rcases h.qs.2 with h' | ⟨g', c', cur, e1, e2, e3, e4⟩
    · exact Or.inl h'
    · refine Or.inr ⟨g', c', cur, e1, e2, (f3.block g' (lt_of_block e3) (fun e => ?_)).trans e3, e4⟩
      rcases e with e | e
      · omega
      · exact h.ne g' (by rw [e1]; rfl) e
  · intro b hb e
    obtain ⟨l1, l2⟩ := hqb b hb
    rcases ‹g6 = g ∨ g6 = wr.heap.size + 1› with e2 | e2
    · exact h.ne b hb (e.trans e2)
    · omega
end Go.Proofs.Ytgkpmcpkobphpaa
