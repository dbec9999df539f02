/-
  The contract of slices.Sort at the end of a list of the call's own.
-/
import Derived.Test.YtpgadcacimjlaaaMem
import Derived.Test.YtpgadcacimjlaaaShelf
import Derived.Lib.OwnBridge
namespace Go.Proofs.Ytpgadcacimjlaaa
open Go.RowKit
open Go.Sort (Holds putRow putCells mapBlock onCells grow heap_grow_old)
/-- Numbers in rising order. -/
def srt (ys : List Int) : List Int := ys.mergeSort fun x y => decide (x ≤ y)
theorem srt_len (ys : List Int) : (srt ys).length = ys.length := by simp [srt]
theorem holds_tail {w : World} {base g n cap k : Nat} {xs ys : List Int} (h : w.ownsRow base 3 1 (.slice (some ⟨g, 0, none⟩) n cap) n (cellsI (xs ++ ys))) (hx : xs.length = k) : Holds (Value.int .i64) w g k ys.toArray := by
  have hl : xs.length + ys.length = n := by have := h.1; rw [cellsI_len] at this; simpa using this
  intro j hj
  have hj' : j < ys.length := by simpa using hj
  refine ⟨?_, h.frozenAt _⟩
  rw [h.cellAt (k + j) (by omega)]
  unfold cellsI
  rw [List.map_append, List.getElem?_append_right (by simp; omega)]
  simp [hx, hj', getElem!_pos]
theorem own_tail {w : World} {base g n cap k q : Nat} {os : Array Obj} {xs ys zs : List Int} (h : w.ownsRow base 3 1 (.slice (some ⟨g, 0, none⟩) n cap) n (cellsI (xs ++ ys))) (hx : xs.length = k) (hz : zs.length = ys.length) :
    (grow (putRow (Value.int .i64) (Sort.ahead w q) g k zs.toArray) os).ownsRow base 3 1 (.slice (some ⟨g, 0, none⟩) n cap) n (cellsI (xs ++ zs)) := by
  have hl : xs.length + ys.length = n := by have := h.1; rw [cellsI_len] at this; simpa using this
  rcases h.2 with ⟨e0, _⟩ | ⟨g', cap', cur, e0, hb, hg, hn, hm, hs, ht⟩
  · cases e0
  · injection e0 with e1 _ e3
    injection e1 with e1
    injection e1 with e1
    subst e1; subst e3
    have hlt : g < w.heap.size := lt_of_block hg
    refine ⟨by rw [cellsI_len, List.length_append]; omega, .inr ⟨g, cap, putCells (Value.int .i64) k zs.toArray cur, rfl, hb, ?_, hn, hm, by simpa [putCells] using hs, ?_⟩⟩
    · rw [heap_grow_old _ _ (by simpa [putRow, mapBlock, Sort.ahead] using hlt)]
      simp [putRow, mapBlock, Sort.ahead, Array.getElem?_modify, hg, onCells]
    · apply List.ext_getElem?
      intro j
      rw [List.getElem?_take, Array.getElem?_toList]
      by_cases hj : j < n
      · have hjc : j < cur.size := by omega
        simp only [Nat.mul_one, if_pos hj, putCells, Array.getElem?_mapIdx, Array.getElem?_eq_getElem hjc, Option.map_some]
        have e1 : (cur.toList.take (n * 1))[j]? = (cellsI (xs ++ ys))[j]? := by rw [ht]
        rw [List.getElem?_take, if_pos (by omega), Array.getElem?_toList, Array.getElem?_eq_getElem hjc] at e1
        by_cases hjk : j < k
        · rw [if_neg (by omega), e1]
          unfold cellsI
          rw [List.map_append, List.map_append, List.getElem?_append_left (by simp; omega), List.getElem?_append_left (by simp; omega)]
        · rw [if_pos ⟨by omega, by simp; omega⟩]
          unfold cellsI
          rw [List.map_append, List.getElem?_append_right (by simp; omega)]
          have : j - k < zs.length := by omega
          simp [hx, this, getElem!_pos]
      · have : (cellsI (xs ++ zs)).length ≤ j := by rw [cellsI_len, List.length_append]; omega
        rw [List.getElem?_eq_none this, if_neg (by omega)]
theorem sort_fr {w : World} {g k q : Nat} {os : Array Obj} {zs : List Int} : Fr (fun j => j = g) w (grow (putRow (Value.int .i64) (Sort.ahead w q) g k zs.toArray) os) := by
  refine ⟨rfl, rfl, rfl, by simp [grow, putRow, mapBlock, Sort.ahead], fun j hj hn => ?_⟩
  rw [heap_grow_old _ _ (by simpa [putRow, mapBlock, Sort.ahead] using hj)]
  simp [putRow, mapBlock, Sort.ahead, Array.getElem?_modify, Ne.symm hn]
theorem sort_any {w : World} {base g n cap k c m : Nat} {xs ys : List Int} (h : w.ownsRow base 3 1 (.slice (some ⟨g, 0, none⟩) n cap) n (cellsI (xs ++ ys))) (hx : xs.length = k) (hm : m = ys.length) (hb : ys.length < 4611686018427387904) :
    Calls Try.prog 51 #[.slice (some ⟨g, k, none⟩) m c] w fun e w' => e = .returned (.tuple #[]) ∧ w'.ownsRow base 3 1 (.slice (some ⟨g, 0, none⟩) n cap) n (cellsI (xs ++ srt ys)) ∧ Fr (fun j => j = g) w w' := by
  subst hm
  obtain ⟨g', c', he, _, _, hlt, _⟩ := own_shape h (by intro e; cases e)
  injection he with e1 _ _
  injection e1 with e1
  injection e1 with e1
  subst e1
  refine (Try.slices_Sort_int g k c ys w (holds_tail h hx) hlt hb).mono ?_
  rintro e w' ⟨rfl, q, os, rfl⟩
  exact ⟨rfl, own_tail h hx (srt_len ys), sort_fr⟩
theorem sort_none {w : World} {g c : Nat} (hlt : g < w.heap.size) : Calls Try.prog 51 #[.slice (some ⟨g, 0, none⟩) 0 c] w fun e w' => e = .returned (.tuple #[]) ∧ Below w.heap.size w w' := by
  refine (Try.slices_Sort_int g 0 c [] w (fun j hj => absurd hj (by simp)) hlt (by simp)).mono ?_
  rintro e w' ⟨rfl, q, os, rfl⟩
  refine ⟨rfl, ?_⟩
  have h : putRow (Value.int .i64) (Sort.ahead w q) g 0 (List.mergeSort ([] : List Int) fun x y => decide (x ≤ y)).toArray = Sort.ahead w q := by
    unfold putRow
    apply Sort.mapBlock_id
    intro c e fr _
    unfold putCells
    apply Array.ext
    · simp
    · intro i h1 h2
      simp
  rw [h]
  exact ⟨rfl, rfl, rfl, by simp [grow, Sort.ahead], fun k hk => heap_grow_old _ _ hk⟩
end Go.Proofs.Ytpgadcacimjlaaa
