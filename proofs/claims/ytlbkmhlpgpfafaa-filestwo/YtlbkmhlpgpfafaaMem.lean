/-
  A disk as it lies in memory: rows of bytes, files, the map of their names.
-/
import Derived.Test.YtlbkmhlpgpfafaaMath
import Derived.Test.YtlbkmhlpgpfafaaShelf
import Derived.WalkKit
import Derived.WalkMore
import Derived.BigCall
import Derived.Below
import Derived.Lib.Hide
import Derived.Laws.AppendOwn
import Derived.Laws.OwnMore
import Derived.Lib.AppendStr
import Derived.Lib.FrozenHead
import Derived.Deep.AppendLies
import Derived.Deep.QuietTactic
import Derived.BigQuiet
import Derived.Deep.RegionHeld3
import Derived.Maps.OwnSet
namespace Go.Proofs.Ytlbkmhlpgpfafaa
open Go.RowKit Go.Maps
theorem named {α : Sort _} (x : α) : ∃ y, Hid (x = y) := ⟨x, rfl⟩
theorem heap_top (w : World) (o : Obj) : (w.alloc o).heap[w.heap.size]? = some o := by show (w.heap.push o)[w.heap.size]? = _; simp
theorem bthen {B : Nat} {w w1 w2 : World} (h : Below B w w1) (k : Below w1.heap.size w1 w2) (hB : B ≤ w1.heap.size) : Below B w w2 := h.trans (k.mono hB)
theorem info5 : (Try.prog.info? 5).map (fun i => (i.zero, i.size, i.bytes)) = some (some (.int .u8 0), 1, 1) := by kernel_rfl
/-- All blocks outside of D stay. -/
structure Fr (D : Nat → Prop) (w w' : World) : Prop where
  os : w'.os = w.os
  tape : w'.tape = w.tape
  output : w'.output = w.output
  size : w.heap.size ≤ w'.heap.size
  block : ∀ k, k < w.heap.size → ¬ D k → w'.heap[k]? = w.heap[k]?
theorem Fr.refl (D : Nat → Prop) (w : World) : Fr D w w := ⟨rfl, rfl, rfl, Nat.le_refl _, fun _ _ _ => rfl⟩
theorem Fr.trans {D D' : Nat → Prop} {a b c : World} (h : Fr D a b) (k : Fr D' b c) (hd : ∀ x, D' x → D x ∨ a.heap.size ≤ x) : Fr D a c :=
  ⟨k.os.trans h.os, k.tape.trans h.tape, k.output.trans h.output, Nat.le_trans h.size k.size, fun i hi hn => (k.block i (Nat.lt_of_lt_of_le hi h.size) (fun e => by rcases hd i e with e' | e'; exact hn e'; omega)).trans (h.block i hi hn)⟩
theorem Fr.then {D : Nat → Prop} {a b c : World} (h : Fr D a b) (k : Fr D b c) : Fr D a c := h.trans k (fun _ e => Or.inl e)
theorem Fr.of {D : Nat → Prop} {a b : World} (h : Below a.heap.size a b) : Fr D a b := ⟨h.os, h.tape, h.output, h.size, fun k hk _ => h.block k hk⟩
theorem Fr.alloc {D : Nat → Prop} {a b : World} (h : Fr D a b) (o : Obj) : Fr D a (b.alloc o) := h.then (Fr.of ((Below.refl _ _).alloc (Nat.le_refl _) o))
theorem Fr.drew {D : Nat → Prop} {a b : World} (h : Fr D a b) : Fr D a b.drew := ⟨h.os, h.tape, h.output, h.size, h.block⟩
theorem Fr.setCell {D : Nat → Prop} {a b : World} (h : Fr D a b) (p : Addr) (u : Value) (hp : D p.block ∨ a.heap.size ≤ p.block) : Fr D a (b.setCell p u) :=
  ⟨h.os, h.tape, h.output, by simpa using h.size, fun k hk hn => (Below.heap_setCell b p u k (fun e => by subst e; rcases hp with hp | hp; exact hn hp; omega)).trans (h.block k hk hn)⟩
theorem Fr.below {D : Nat → Prop} {a b : World} {B : Nat} (h : Fr D a b) (hB : B ≤ a.heap.size) (hd : ∀ x, D x → B ≤ x) : Below B a b :=
  ⟨h.os, h.tape, h.output, h.size, fun k hk => h.block k (by omega) (fun e => by have := hd k e; omega)⟩
theorem Fr.mono {D D' : Nat → Prop} {a b : World} (h : Fr D a b) (hd : ∀ x, D x → D' x) : Fr D' a b := ⟨h.os, h.tape, h.output, h.size, fun k hk hn => h.block k hk (fun e => hn (hd k e))⟩
theorem Fr.grown {D : Nat → Prop} {a b c : World} {r : Option Nat} (h : Fr D a b) (g : b.grownBy c r) (hr : ∀ k, r = some k → D k ∨ a.heap.size ≤ k) : Fr D a c :=
  ⟨g.os.trans h.os, g.tape.trans h.tape, g.output.trans h.output, Nat.le_trans h.size g.size, fun k hk hn => (g.block k (Nat.lt_of_lt_of_le hk h.size) (fun e => by rcases hr k e.symm with h' | h'; exact hn h'; omega)).trans (h.block k hk hn)⟩
/-- Bytes as cells. -/
def bytesC (l : List UInt8) : List Value := l.map fun b => Value.int .u8 b.toNat
theorem bytesC_len (l : List UInt8) : (bytesC l).length = l.length := by unfold bytesC; simp
theorem bytesC_append (l m : List UInt8) : bytesC (l ++ m) = bytesC l ++ bytesC m := by unfold bytesC; simp
theorem bytesC_str (s : ByteArray) : Lib.strCells s = bytesC s.data.toList := rfl
theorem bytesC_one (l : List UInt8) : ∀ u ∈ bytesC l, u.oneCell' = true := by
  intro u hu
  unfold bytesC at hu
  obtain ⟨x, _, rfl⟩ := List.mem_map.1 hu
  rfl
theorem bytesC_take (l : List UInt8) (k : Nat) : (bytesC l).take k = bytesC (l.take k) := by unfold bytesC; rw [List.map_take]
def numsC (l : List UInt8) : List Int := l.map fun b => (b.toNat : Int)
theorem numsC_len (l : List UInt8) : (numsC l).length = l.length := by unfold numsC; simp
theorem numsC_bytes (l : List UInt8) : Lib.bytesOf (numsC l) = l := by
  unfold Lib.bytesOf numsC
  rw [List.map_map]
  conv => rhs; rw [← List.map_id l]
  apply List.map_congr_left
  intro b _
  simp [Function.comp]
/-- A slice of bytes that lies at the head of block g. -/
def BS (w : World) (v : Value) (g : Nat) (l : List UInt8) : Prop :=
  ∃ c cur fz, v = .slice (some ⟨g, 0, none⟩) l.length c ∧ l.length ≤ c ∧ c ≤ cur.size ∧ c ≤ maxLen ∧ (c ≤ fz.1 ∨ fz.2 = 0) ∧ w.heap[g]? = some (.cells cur 5 fz) ∧ cur.toList.take l.length = bytesC l
section
variable {w w' : World} {v : Value} {g : Nat} {l : List UInt8}
theorem BS.same (h : BS w v g l) (e : w'.heap[g]? = w.heap[g]?) : BS w' v g l := by
  obtain ⟨c, cur, fz, h1, h2, h3, h4, h5, h6, h7⟩ := h
  exact ⟨c, cur, fz, h1, h2, h3, h4, h5, e.trans h6, h7⟩
theorem BS.lt (h : BS w v g l) : g < w.heap.size := by
  obtain ⟨c, cur, fz, h1, h2, h3, h4, h5, h6, h7⟩ := h
  exact lt_of_block h6
theorem BS.kind (h : BS w v g l) : ∃ cur fz, w.heap[g]? = some (.cells cur 5 fz) := by
  obtain ⟨c, cur, fz, h1, h2, h3, h4, h5, h6, h7⟩ := h
  exact ⟨cur, fz, h6⟩
theorem BS.shape (h : BS w v g l) : ∃ c, v = .slice (some ⟨g, 0, none⟩) l.length c ∧ l.length ≤ c ∧ c ≤ 9223372036854775807 := by
  obtain ⟨c, cur, fz, h1, h2, h3, h4, h5, h6, h7⟩ := h
  unfold maxLen at h4
  exact ⟨c, h1, h2, h4⟩
theorem BS.cell (h : BS w v g l) (i : Nat) (hi : i < l.length) : w.cell? ⟨g, i, none⟩ = some (.int .u8 (l[i].toNat)) := by
  obtain ⟨c, cur, fz, h1, h2, h3, h4, h5, h6, h7⟩ := h
  rw [cell_of_row w g i cur 5 fz h6]
  have e : cur.toList[i]? = (cur.toList.take l.length)[i]? := by rw [List.getElem?_take, if_pos hi]
  rw [← Array.getElem?_toList, e, h7]
  unfold bytesC
  rw [List.getElem?_map, List.getElem?_eq_getElem hi]
  rfl
theorem BS.cells (h : BS w v g l) : ∀ j u, (bytesC l)[j]? = some u → w.cell? ((⟨g, 0, none⟩ : Addr).add j) = some u := by
  intro j u hu
  have hj : j < l.length := by
    rcases Nat.lt_or_ge j l.length with h' | h'
    · exact h'
    · rw [List.getElem?_eq_none (by rw [bytesC_len]; exact h')] at hu
      cases hu
  rw [Go.WideShapes.add_plain, Nat.zero_add, h.cell j hj, ← hu]
  unfold bytesC
  rw [List.getElem?_map, List.getElem?_eq_getElem hj]
  rfl
theorem BS.take (h : BS w v g l) {c : Nat} (hv : v = .slice (some ⟨g, 0, none⟩) l.length c) (k : Nat) (hk : k ≤ l.length) : BS w (.slice (some ⟨g, 0, none⟩) k c) g (l.take k) := by
  obtain ⟨c', cur, fz, h1, h2, h3, h4, h5, h6, h7⟩ := h
  rw [hv] at h1
  injection h1 with _ _ e
  subst e
  have e1 : (l.take k).length = k := by rw [List.length_take]; omega
  refine ⟨c, cur, fz, by rw [e1], by omega, h3, h4, h5, h6, ?_⟩
  rw [e1, ← bytesC_take, ← h7, List.take_take, Nat.min_eq_left hk]
theorem BS.bytesIn (h : BS w v g l) : Lib.BytesIn w (some ⟨g, 0, none⟩) l.length (numsC l) := by
  intro _
  refine ⟨g, 0, rfl, fun i hi => ?_⟩
  rw [Nat.zero_add, h.cell i hi]
  unfold numsC
  simp [List.getD, List.getElem?_eq_getElem hi]
theorem BS.text (h : BS w v g l) : (convert 65 9 v).run Try.prog w = .ok (.string ⟨l.toArray⟩) w := by
  obtain ⟨c, hv, _, _⟩ := h.shape
  rw [hv]
  exact run_convert_bytes_back (P := Try.prog) w 65 9 5 ⟨g, 0, none⟩ c l Try.underlying65 Try.underlying5 Try.underlying9 (fun j hj => by rw [Go.WideShapes.add_plain, Nat.zero_add]; exact h.cell j hj)
end
theorem bytes_made (w : World) (s : ByteArray) (hs : s.size ≤ 262144) : ∃ v o, (convert 9 65 (.string s)).run Try.prog w = .ok v (w.drew.alloc o) ∧ BS (w.drew.alloc o) v w.heap.size s.data.toList := by
  have hr := run_bytes_of_string (P := Try.prog) w 9 65 5 s Try.underlying9 Try.underlying65 Try.underlying5
  refine ⟨_, _, hr, ?_⟩
  have hge := grownCap_ge w s.size 0 5
  have hcm := grownCap_le_maxLen w s.size 0 5 (by unfold maxLen; omega)
  have hsz : s.data.toList.length = s.size := by rw [Array.length_toList]; rfl
  generalize grownCap w s.size 0 5 = c at *
  have hd : s.data.size = s.size := rfl
  have e : (bytesRow s c).size = c := by unfold bytesRow; rw [Array.size_append, Array.size_map, Array.size_replicate, hd]; omega
  refine ⟨c, bytesRow s c, _, by rw [hsz], by rw [hsz]; exact hge, by rw [e]; exact Nat.le_refl _, hcm, Or.inl (by rw [e]; exact Nat.le_refl _), heap_top _ _, ?_⟩
  rw [hsz]
  simp only [bytesRow, Array.toList_append]
  rw [List.take_append_of_le_length (by rw [Array.length_toList, Array.size_map, hd]; exact Nat.le_refl _), List.take_of_length_le (by rw [Array.length_toList, Array.size_map, hd]; exact Nat.le_refl _)]
  simp [bytesC]
/-- Cells are stored behind one another; the row's frozen range lies behind the room that the slice has, or is none. -/
theorem storeF (P : Program) (g o : Nat) (t : TypeId) (fz : Nat × Nat) (c : Nat) (hfz : c ≤ fz.1 ∨ fz.2 = 0) : ∀ (vs : List Value) (i : Nat) (cur : Array Value) (w : World), w.heap[g]? = some (.cells cur t fz) → o + i + vs.length ≤ c → o + i + vs.length ≤ cur.size → (∀ v ∈ vs, v.oneCell' = true) →
    (storeCells ⟨g, o, none⟩ vs i).run P w = .ok () (w.setRow g (cur.toList.take (o + i) ++ vs ++ cur.toList.drop (o + i + vs.length)).toArray)
  | [], i, cur, w, hg, _, _, _ => by
    simp only [storeCells, List.append_nil, List.length_nil, Nat.add_zero, List.take_append_drop, Array.toArray_toList]
    rw [setRow_self w g cur t fz hg]
    rfl
  | v :: rest, i, cur, w, hg, hc, hl, h1 => by
    have hi : o + i < cur.size := by simp at hl; omega
    have hadd : (⟨g, o, none⟩ : Addr).add i = ⟨g, o + i, none⟩ := by unfold Addr.add; split <;> simp_all
    have hcell : w.cell? ⟨g, o + i, none⟩ = some cur[o + i] := by simp [World.cell?, hg, hi]
    have hfro : w.frozen? ⟨g, o + i, none⟩ = false := by
      obtain ⟨lo, hi'⟩ := fz
      simp only [World.frozen?, hg, Bool.and_eq_false_iff, decide_eq_false_iff_not]
      simp at hfz hc
      omega
    have hst : (store ((⟨g, o, none⟩ : Addr).add i) v).run P w = .ok () (w.setRow g (cur.setIfInBounds (o + i) v)) := by
      rw [hadd, run_store P w _ v _ (h1 v (by simp)), hcell]
      simp [hfro, setCell_eq_setRow w g (o + i) cur t fz v hg]
    have ih := storeF P g o t fz c hfz rest (i + 1) (cur.setIfInBounds (o + i) v) (w.setRow g (cur.setIfInBounds (o + i) v)) (setRow_heap w g cur _ t _ hg) (by simp at hc ⊢; omega) (by simp at hl ⊢; omega) (fun x hx => h1 x (by simp [hx]))
    simp only [storeCells, Sem.run_bind, hst, Result.andThen_ok, ih, setRow_setRow]
    congr 3
    have e := list_seg_step cur.toList (o + i) v rest (by simp at hl ⊢; omega)
    simpa [Array.toList_setIfInBounds, Nat.add_assoc] using e
/-- append of a text to a slice of bytes: in its own block where there is room, else in a new one. -/
theorem bytes_app (w : World) (v : Value) (g : Nat) (l : List UInt8) (h : BS w v g l) (s : ByteArray) (hs : l.length + s.size ≤ 262144) (ty : TypeId) :
    ∃ v' w', (Builtin.append_ #[65, 9] ty #[v, .string s]).run Try.prog w = .ok v' w' ∧
      ((BS w' v' g (l ++ s.data.toList) ∧ w.grownBy w' (some g) ∧ ∀ v2 l2, BS w v2 g l2 → l2.length ≤ l.length → BS w' v2 g l2) ∨ (BS w' v' w.heap.size (l ++ s.data.toList) ∧ w.grownBy w' none)) := by
  obtain ⟨i0, hi, hz0, hz1, hz2⟩ := info_parts info5
  obtain ⟨c, cur, fz, rfl, h2, h3, h4, h5, h6, h7⟩ := h
  have hsz : s.data.toList.length = s.size := by rw [Array.length_toList]; rfl
  have hxl : (bytesC l).length = l.length := bytesC_len l
  have hll : (l ++ s.data.toList).length = l.length + s.size := by rw [List.length_append, hsz]
  by_cases hroom : l.length + s.size ≤ c
  · have hf := Lib.run_firstCells_string (P := Try.prog) w 1 s
    have hst : (storeCells ⟨g, l.length, none⟩ (Lib.strCells s) 0).run Try.prog w = .ok () (w.setRow g (cur.toList.take l.length ++ Lib.strCells s ++ cur.toList.drop (l.length + s.size)).toArray) := by
      have := storeF Try.prog g l.length 5 fz c h5 (Lib.strCells s) 0 cur w h6 (by rw [Lib.strCells_length]; omega) (by rw [Lib.strCells_length]; omega) (Lib.strCells_oneCell s)
      simpa [Lib.strCells_length] using this
    refine ⟨.slice (some ⟨g, 0, none⟩) (l.length + s.size) c, w.setRow g (cur.toList.take l.length ++ Lib.strCells s ++ cur.toList.drop (l.length + s.size)).toArray, ?_, Or.inl ⟨?_, ?_, ?_⟩⟩
    · simp [Builtin.append_, run_underlying Try.underlying65, run_underlying Try.underlying9, sizeOf, typeInfo, hi, hz1, Builtin.lenOf, hroom, hf, Addr.add_lit, hst]
    · refine ⟨c, _, fz, by rw [hll], by omega, ?_, h4, h5, setRow_heap w g cur _ 5 _ h6, ?_⟩
      · simp only [List.size_toArray, List.length_append, List.length_take, List.length_drop, Array.length_toList, Lib.strCells_length]
        omega
      · rw [h7, hll, bytesC_append, ← bytesC_str]
        have e : (bytesC l ++ Lib.strCells s).length = l.length + s.size := by rw [List.length_append, hxl, Lib.strCells_length]
        rw [← e]
        exact List.take_left
    · exact ⟨rfl, rfl, rfl, by simp, fun k _ hk => setRow_other w g k _ (fun e => hk (by simp [e]))⟩
    · rintro v2 l2 ⟨c2, cur2, fz2, rfl, b2, b3, b4, b5, b6, b7⟩ hle
      rw [h6] at b6
      injection b6 with b6
      injection b6 with e1 e2 e3
      subst e1 e3
      refine ⟨c2, _, fz, rfl, b2, ?_, b4, b5, setRow_heap w g cur _ 5 _ h6, ?_⟩
      · simp only [List.size_toArray, List.length_append, List.length_take, List.length_drop, Array.length_toList, Lib.strCells_length]
        omega
      · rw [← b7]
        show List.take l2.length (cur.toList.take l.length ++ Lib.strCells s ++ cur.toList.drop (l.length + s.size)) = _
        have hcl : l.length ≤ cur.toList.length := by rw [Array.length_toList]; exact Nat.le_trans h2 h3
        have h9 : l2.length ≤ (cur.toList.take l.length).length := by rw [List.length_take, Nat.min_eq_left hcl]; exact hle
        rw [List.append_assoc, List.take_append_of_le_length h9, List.take_take, Nat.min_eq_left hle]
  · have holds : ∀ j u, (bytesC l)[j]? = some u → w.cell? ((⟨g, 0, none⟩ : Addr).add j) = some u := BS.cells ⟨c, cur, fz, rfl, h2, h3, h4, h5, h6, h7⟩
    have hr := Lib.run_append_grow_string (P := Try.prog) w 65 9 ty 5 i0 (.int .u8 0) Try.underlying65 Try.underlying9 hi hz0 ⟨g, 0, none⟩ l.length c (bytesC l) (by rw [hz1, hxl]; omega) holds s (by omega) (by omega) (by rw [hz2]; exact growslice_fits (by omega) (by omega))
    have hge := grownCap_ge w (l.length + s.size) c 5
    have hcm := grownCap_le_maxLen w (l.length + s.size) c 5 (by unfold maxLen; omega)
    refine ⟨_, _, hr, Or.inr ⟨⟨_, _, (0, 0), by rw [hll], by rw [hll]; exact hge, ?_, hcm, Or.inr rfl, heap_alloc_new w.drew _, ?_⟩, ⟨rfl, rfl, rfl, by simp, fun k hk _ => Below.heap_alloc w.drew _ k hk⟩⟩⟩
    · have hz1 : (Value.int IntKind.u8 0).cells.size = 1 := rfl
      simp only [Array.size_append, List.size_toArray, size_zeroCells, hz1, hxl, Lib.strCells_length]
      omega
    · simp only [Array.toList_append, List.append_assoc]
      rw [← List.append_assoc, hll, bytesC_append, ← bytesC_str]
      have e : (bytesC l ++ Lib.strCells s).length = l.length + s.size := by rw [List.length_append, hxl, Lib.strCells_length]
      rw [← e]
      exact List.take_left
end Go.Proofs.Ytlbkmhlpgpfafaa
