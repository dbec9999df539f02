/-
  Tables of yes and no; what is tight.
-/
import Derived.Test.YtomlmphdnoempaaWks
namespace Go.Proofs.Ytomlmphdnoempaa
open Go.RowKit
open Hp (HR HRto Fr upd upd_self upd_ne TopIs)
/-- A table of n marks lies in block b. -/
def TbB (w : World) (b n : Nat) (q : Nat → Bool) : Prop := w.heap[b]? = some (.cells ((List.range n).map (fun v => Value.bool (q v))).toArray 4 (0, 0))
theorem TbB.lt {w : World} {b n : Nat} {q : Nat → Bool} (h : TbB w b n q) : b < w.heap.size := lt_of_block h
theorem TbB.same {w w' : World} {b n : Nat} {q : Nat → Bool} (h : TbB w b n q) (hs : w'.heap[b]? = w.heap[b]?) : TbB w' b n q := hs.trans h
theorem TbB.cell {w : World} {b n : Nat} {q : Nat → Bool} (h : TbB w b n q) {v : Nat} (hv : v < n) : w.cell? ⟨b, v, none⟩ = some (.bool (q v)) := by
  unfold TbB at h
  simp [World.cell?, h, hv]
theorem TbB.free {w : World} {b n : Nat} {q : Nat → Bool} (h : TbB w b n q) (v : Nat) : w.frozen? ⟨b, v, none⟩ = false := by
  unfold TbB at h
  simp [World.frozen?, h]
theorem TbB.congr {w : World} {b n : Nat} {p q : Nat → Bool} (h : TbB w b n p) (e : ∀ v, v < n → p v = q v) : TbB w b n q := by
  unfold TbB at *
  rw [h]
  congr 3
  apply List.map_congr_left
  intro v hv
  rw [e v (by simpa using hv)]
def updB (q : Nat → Bool) (x : Nat) (d : Bool) : Nat → Bool := fun y => if y = x then d else q y
theorem tabB_set (n : Nat) (q : Nat → Bool) (v : Nat) (x : Bool) : ((List.range n).map (fun u => Value.bool (q u))).toArray.setIfInBounds v (.bool x) = ((List.range n).map (fun u => Value.bool (updB q v x u))).toArray := by
  apply Array.ext'
  simp only [Array.toList_setIfInBounds]
  apply List.ext_getElem?
  intro i
  rw [List.getElem?_set]
  by_cases e : v = i
  · subst e
    by_cases h : v < n
    · simp [h, updB]
    · simp [h]
  · rw [if_neg e]
    by_cases h : i < n
    · simp [h, updB]
      intro e'
      exact absurd e'.symm e
    · simp [h]
theorem TbB.set {w : World} {b n : Nat} {q : Nat → Bool} (h : TbB w b n q) (v : Nat) (x : Bool) : TbB (w.setCell ⟨b, v, none⟩ (.bool x)) b n (updB q v x) := by
  unfold TbB
  rw [heap_setCell_same w b v _ _ _ h, tabB_set]
theorem TbB.alloc {w : World} {b n : Nat} {q : Nat → Bool} (h : TbB w b n q) (o : Obj) : TbB (w.alloc o) b n q := h.same (Below.heap_alloc w o b h.lt)
theorem infoB4 : (Try.prog.info? 4).map (fun i => (i.zero, i.size, i.bytes)) = some (some (.bool false), 1, 1) := by kernel_rfl
theorem made_bool (n : Nat) : (madeCells (Value.bool false).cells (n * 1)).toList = (List.range n).map (fun _ => Value.bool false) := by
  show (madeCells #[Value.bool false] (n * 1)).toList = _
  rw [toList_madeCells_one, Nat.mul_one]
  apply List.ext_getElem
  · simp
  · intro i h1 h2
    simp
/-- What is tight among the first k arcs. -/
def tg (l : List A) (F : Nat → Int) (s : Nat) : Nat → Nat → Bool
  | 0, v => decide (v = s)
  | k + 1, v => tg l F s k v || decide (dst (ar l k) = v ∧ F v = sat (F (src (ar l k))) (ar l k).w)
theorem tg_s (l : List A) (F : Nat → Int) (s : Nat) : ∀ k, tg l F s k s = true := by
  intro k
  induction k with
  | zero => simp [tg]
  | succ k ih => simp [tg, ih]
theorem tg_mem (l : List A) (F : Nat → Int) (s v : Nat) {j : Nat} (h1 : dst (ar l j) = v) (h2 : F v = sat (F (src (ar l j))) (ar l j).w) : ∀ k, j < k → tg l F s k v = true := by
  intro k
  induction k with
  | zero => intro h; omega
  | succ k ih =>
    intro h
    by_cases e : j = k
    · subst e; simp [tg, h1, h2]
    · simp [tg, ih (by omega)]
theorem tg_put (l : List A) (F : Nat → Int) (s k v : Nat) (h : F (dst (ar l k)) = sat (F (src (ar l k))) (ar l k).w) : updB (tg l F s k) (dst (ar l k)) true v = tg l F s (k + 1) v := by
  unfold updB
  by_cases e : v = dst (ar l k)
  · subst e; simp [tg, h]
  · rw [if_neg e]
    simp [tg]
    intro e'
    exact absurd e'.symm e
theorem tg_skip (l : List A) (F : Nat → Int) (s k v : Nat) (h : F (dst (ar l k)) ≠ sat (F (src (ar l k))) (ar l k).w) : tg l F s k v = tg l F s (k + 1) v := by
  simp [tg]
  intro e e'
  subst e
  exact absurd e' h
theorem IsD.zero {l : List A} {s : Nat} {F : Nat → Int} (h : IsD l Al s F) : F s = 0 := by
  have h1 := h.le s 0 (Wk.nil rfl)
  have h2 := h.lo s
  omega
theorem IsD.arc {l : List A} {s : Nat} {F : Nat → Int} (h : IsD l Al s F) (hw : ∀ x ∈ l, 0 ≤ x.w) {x : A} (hx : x ∈ l) : F (dst x) ≤ sat (F (src x)) x.w := by
  have h1 := h.hi (dst x)
  have h2 := h.hi (src x)
  have h3 := hw x hx
  by_cases e : F (src x) < Inf
  · exact sat_ge (h.le _ _ (Wk.snoc hx (h.wk _ e) rfl)) h1
  · exact sat_ge (by omega) h1
theorem IsD.tight {l : List A} {s : Nat} {F : Nat → Int} (h : IsD l Al s F) (hw : ∀ x ∈ l, 0 ≤ x.w) {v : Nat} (hv : F v < Inf) : tg l F s l.length v = true := by
  have hk := h.wk v hv
  generalize hd : F v = d at hk
  cases hk with
  | nil _ => exact tg_s l F s _
  | @snoc x d hx hp _ =>
    obtain ⟨j, hj, rfl⟩ := mem_ar hx
    refine tg_mem l F s _ rfl ?_ _ hj
    have h1 := h.le _ _ hp
    have h2 := h.arc hw hx
    have h3 := hw _ hx
    have h4 := sat_le (F (src (ar l j))) (ar l j).w
    unfold sat at h2 ⊢
    split at h2
    · omega
    · rename_i e; rw [if_neg e]; omega
end Go.Proofs.Ytomlmphdnoempaa
