/-
  The contract of slices.SortFunc at pairs.
-/
import Derived.Test.YtpgadcacimjlaaaPrMath
import Derived.Test.YtpgadcacimjlaaaShelfP
namespace Go.Proofs.Ytpgadcacimjlaaa
open Go.RowKit
open Go.Sort (Holds HoldsK flatK putRow putRowK putCells mapBlock onCells grow heap_grow_old get_flatK size_flatK)
theorem flat_at (d : List Pr) {j : Nat} (hj : j < d.length * 2) : (cellsP d)[j]? = some ((flatK encP 2 d.toArray)[j]!) := by
  rw [get_flatK _ _ _ _ (by simpa using hj)]
  obtain ⟨i, hi⟩ : ∃ i, j = i * 2 ∨ j = i * 2 + 1 := ⟨j / 2, by omega⟩
  obtain ⟨q1, q2⟩ := cellsP_at d i (by omega)
  have e : (d.toArray)[j / 2]! = d.getD i Pr.zero := by
    rw [show j / 2 = i by omega]
    have hi' : i < d.length := by omega
    simp [List.getD, hi', getElem!_pos]
  rw [e]
  rcases hi with rfl | rfl
  · rw [q1, show i * 2 % 2 = 0 by omega]; rfl
  · rw [q2, show (i * 2 + 1) % 2 = 1 by omega]; rfl
theorem holds_P {w : World} {B g c : Nat} {d : List Pr} (h : OwnP w B (some ⟨g, 0, none⟩) c d) : HoldsK encP 2 w g 0 d.toArray := by
  intro j hj
  rw [size_flatK] at hj
  have hj' : j < d.length * 2 := by simpa using hj
  refine ⟨?_, h.frozenAt _⟩
  rw [Nat.zero_add, World.ownsRow.cellAt h j (by omega), flat_at d hj']
  rfl
theorem own_sorted {w : World} {B g c q : Nat} {os : Array Obj} {d e : List Pr} (h : OwnP w B (some ⟨g, 0, none⟩) c d) (he : e.length = d.length) : OwnP (sortWorldK encP 2 w g 0 q e.toArray os) B (some ⟨g, 0, none⟩) c e := by
  unfold OwnP
  rw [he]
  rcases h.2 with ⟨e0, _⟩ | ⟨g', cap', cur, e0, hb, hg, hn, hm, hs, ht⟩
  · cases e0
  · injection e0 with e1 _ e3
    injection e1 with e1
    injection e1 with e1
    subst e1; subst e3
    have hlt : g < w.heap.size := lt_of_block hg
    refine ⟨by rw [cellsP_len, he], .inr ⟨g, c, putCells id 0 (flatK encP 2 e.toArray) cur, rfl, hb, ?_, hn, hm, by simpa [putCells] using hs, ?_⟩⟩
    · unfold sortWorldK putRowK
      rw [heap_grow_old _ _ (by simpa [putRow, mapBlock, Sort.ahead] using hlt)]
      simp [putRow, mapBlock, Sort.ahead, Array.getElem?_modify, hg, onCells]
    · apply List.ext_getElem?
      intro j
      rw [List.getElem?_take, Array.getElem?_toList]
      by_cases hj : j < d.length * 2
      · have hjc : j < cur.size := by omega
        rw [if_pos hj, flat_at e (by omega)]
        simp only [putCells, Array.getElem?_mapIdx, Array.getElem?_eq_getElem hjc, Option.map_some]
        rw [if_pos ⟨by omega, by simp; omega⟩]
        simp
      · rw [if_neg hj, List.getElem?_eq_none (by rw [cellsP_len]; omega)]
theorem sorted_fr {w : World} {g q : Nat} {os : Array Obj} {e : Array Pr} : Fr (fun j => j = g) w (sortWorldK encP 2 w g 0 q e os) := by
  unfold sortWorldK putRowK
  refine ⟨rfl, rfl, rfl, by simp [grow, putRow, mapBlock, Sort.ahead], fun j hj hn => ?_⟩
  rw [heap_grow_old _ _ (by simpa [putRow, mapBlock, Sort.ahead] using hj)]
  simp [putRow, mapBlock, Sort.ahead, Array.getElem?_modify, Ne.symm hn]
theorem swoP : Sort.SWO (ltOf cmpP) where
  irrefl x := by unfold ltOf; rw [decide_eq_false_iff_not, cmpP_lt]; exact ltP_irrefl x
  trans x y z h1 h2 := by
    unfold ltOf at *
    rw [decide_eq_true_eq, cmpP_lt] at *
    exact ltP_trans h1 h2
  ntrans x y z h1 h2 := by
    unfold ltOf at *
    rw [decide_eq_false_iff_not, cmpP_lt] at *
    unfold ltP at *; omega
theorem cmpLaysP (g size : Nat) (w : World) : CmpLays Try.prog 27 #[] encP 2 cmpP g 0 size w := by
  intro m os dk _ x y
  refine (inOrder_any x y _).mono ?_
  rintro e w' ⟨he, n, os', hw⟩
  exact ⟨he, n, os', hw⟩
theorem isAgg41 : ∀ w, (isAgg 41).run Try.prog w = .ok true w := Try.isAgg41
theorem sizeOf41 : ∀ w, (Go.sizeOf 41).run Try.prog w = .ok 2 w := Try.sizeOf41
theorem sortP_any {w : World} {B g c : Nat} {d : List Pr} (h : OwnP w B (some ⟨g, 0, none⟩) c d) (hb : d.length < 4611686018427387904) :
    Calls Try.prog 26 #[.slice (some ⟨g, 0, none⟩) d.length c, .func (.func 27) #[] #[]] w fun e w' => e = .returned (.tuple #[]) ∧ ∃ d', d'.length = d.length ∧ (∀ x, x ∈ d' ↔ x ∈ d) ∧ d'.Pairwise (fun x y => ¬ ltP y x) ∧ OwnP w' B (some ⟨g, 0, none⟩) c d' ∧ Fr (fun j => j = g) w w' := by
  have eg : ∀ args w, (callFunc 27 args).run Try.prog w = .ok (.enter 27 args) w := enters_of Try.func27 (by kernel_rfl) rfl
  have hlt : g < w.heap.size := by
    rcases h.2 with ⟨e, _⟩ | ⟨g', c', cur, e, _, hg, _⟩
    · cases e
    · injection e with e1 _ _
      injection e1 with e1
      injection e1 with e1
      subst e1
      exact lt_of_block hg
  have hcon := AnyQ.slices_SortFunc Try.sortP 2 isAgg41 sizeOf41 encP (fun _ => rfl) (fun x v hv => by simp [encP] at hv; rcases hv with rfl | rfl <;> rfl) cmpP swoP 27 #[] g 0 c d.toArray w eg (cmpLaysP g _ w) (holds_P h) hlt (by simpa using hb)
  have hcon2 : Calls Try.prog 26 #[.slice (some ⟨g, 0, none⟩) d.length c, .func (.func 27) #[] #[]] w _ := hcon
  refine hcon2.mono ?_
  rintro e w' ⟨he, d', n, os, hp, hs, rfl⟩
  obtain ⟨p1, _, p3⟩ := hp
  have hsz : d'.size = d.length := by simpa using p1
  have hperm : d'.toList.Perm d := by
    have e1 : d'.extract 0 d.toArray.size = d' := by rw [← p1]; simp
    have e2 : d.toArray.extract 0 d.toArray.size = d.toArray := by simp
    rw [e1, e2] at p3
    simpa using p3
  refine ⟨he, d'.toList, by simpa using hsz, fun x => hperm.mem_iff, ?_, ?_, sorted_fr⟩
  · rw [List.pairwise_iff_getElem]
    intro i j hi hj hij
    have hi' : i < d'.size := by simpa using hi
    have hj' : j < d'.size := by simpa using hj
    have := hs i j (Nat.zero_le _) hij (by simpa [hsz] using hj')
    unfold ltOf at this
    rw [decide_eq_false_iff_not, cmpP_lt, getElem!_pos d' j hj', getElem!_pos d' i hi'] at this
    simpa using this
  · have := own_sorted (q := n) (os := os) (e := d'.toList) h (by simpa using hsz)
    simpa using this
end Go.Proofs.Ytpgadcacimjlaaa
