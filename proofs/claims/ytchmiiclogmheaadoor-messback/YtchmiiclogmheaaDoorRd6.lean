/-
  Reading a message.
-/
import Derived.Test.YtchmiiclogmheaaDoorRd5
import Derived.Deep.QuietTactic
import Derived.BigQuiet
namespace Go.Proofs.YtchmiiclogmheaaDoor.C2
open Go.RowKit
theorem set11 {w : World} {p : Nat} {a0 a1 a2 a3 a4 a5 a6 a7 a8 a9 a10 b0 b1 b2 b3 b4 b5 b6 b7 b8 b9 b10 : Value} {t : TypeId} (h : w.heap[p]? = some (.cells #[a0, a1, a2, a3, a4, a5, a6, a7, a8, a9, a10] t (0, 0))) : (((((((((((w.setCell ⟨p, 0, none⟩ b0).setCell ⟨p, 1, none⟩ b1).setCell ⟨p, 2, none⟩ b2).setCell ⟨p, 3, none⟩ b3).setCell ⟨p, 4, none⟩ b4).setCell ⟨p, 5, none⟩ b5).setCell ⟨p, 6, none⟩ b6).setCell ⟨p, 7, none⟩ b7).setCell ⟨p, 8, none⟩ b8).setCell ⟨p, 9, none⟩ b9).setCell ⟨p, 10, none⟩ b10).heap[p]? = some (.cells #[b0, b1, b2, b3, b4, b5, b6, b7, b8, b9, b10] t (0, 0)) := by
  have h0 : (w.setCell ⟨p, 0, none⟩ b0).heap[p]? = some (.cells #[b0, a1, a2, a3, a4, a5, a6, a7, a8, a9, a10] t (0, 0)) := heap_setCell_same _ p 0 _ _ b0 h
  have h1 : ((w.setCell ⟨p, 0, none⟩ b0).setCell ⟨p, 1, none⟩ b1).heap[p]? = some (.cells #[b0, b1, a2, a3, a4, a5, a6, a7, a8, a9, a10] t (0, 0)) := heap_setCell_same _ p 1 _ _ b1 h0
  have h2 : (((w.setCell ⟨p, 0, none⟩ b0).setCell ⟨p, 1, none⟩ b1).setCell ⟨p, 2, none⟩ b2).heap[p]? = some (.cells #[b0, b1, b2, a3, a4, a5, a6, a7, a8, a9, a10] t (0, 0)) := heap_setCell_same _ p 2 _ _ b2 h1
  have h3 : ((((w.setCell ⟨p, 0, none⟩ b0).setCell ⟨p, 1, none⟩ b1).setCell ⟨p, 2, none⟩ b2).setCell ⟨p, 3, none⟩ b3).heap[p]? = some (.cells #[b0, b1, b2, b3, a4, a5, a6, a7, a8, a9, a10] t (0, 0)) := heap_setCell_same _ p 3 _ _ b3 h2
  have h4 : (((((w.setCell ⟨p, 0, none⟩ b0).setCell ⟨p, 1, none⟩ b1).setCell ⟨p, 2, none⟩ b2).setCell ⟨p, 3, none⟩ b3).setCell ⟨p, 4, none⟩ b4).heap[p]? = some (.cells #[b0, b1, b2, b3, b4, a5, a6, a7, a8, a9, a10] t (0, 0)) := heap_setCell_same _ p 4 _ _ b4 h3
  have h5 : ((((((w.setCell ⟨p, 0, none⟩ b0).setCell ⟨p, 1, none⟩ b1).setCell ⟨p, 2, none⟩ b2).setCell ⟨p, 3, none⟩ b3).setCell ⟨p, 4, none⟩ b4).setCell ⟨p, 5, none⟩ b5).heap[p]? = some (.cells #[b0, b1, b2, b3, b4, b5, a6, a7, a8, a9, a10] t (0, 0)) := heap_setCell_same _ p 5 _ _ b5 h4
  have h6 : (((((((w.setCell ⟨p, 0, none⟩ b0).setCell ⟨p, 1, none⟩ b1).setCell ⟨p, 2, none⟩ b2).setCell ⟨p, 3, none⟩ b3).setCell ⟨p, 4, none⟩ b4).setCell ⟨p, 5, none⟩ b5).setCell ⟨p, 6, none⟩ b6).heap[p]? = some (.cells #[b0, b1, b2, b3, b4, b5, b6, a7, a8, a9, a10] t (0, 0)) := heap_setCell_same _ p 6 _ _ b6 h5
  have h7 : ((((((((w.setCell ⟨p, 0, none⟩ b0).setCell ⟨p, 1, none⟩ b1).setCell ⟨p, 2, none⟩ b2).setCell ⟨p, 3, none⟩ b3).setCell ⟨p, 4, none⟩ b4).setCell ⟨p, 5, none⟩ b5).setCell ⟨p, 6, none⟩ b6).setCell ⟨p, 7, none⟩ b7).heap[p]? = some (.cells #[b0, b1, b2, b3, b4, b5, b6, b7, a8, a9, a10] t (0, 0)) := heap_setCell_same _ p 7 _ _ b7 h6
  have h8 : (((((((((w.setCell ⟨p, 0, none⟩ b0).setCell ⟨p, 1, none⟩ b1).setCell ⟨p, 2, none⟩ b2).setCell ⟨p, 3, none⟩ b3).setCell ⟨p, 4, none⟩ b4).setCell ⟨p, 5, none⟩ b5).setCell ⟨p, 6, none⟩ b6).setCell ⟨p, 7, none⟩ b7).setCell ⟨p, 8, none⟩ b8).heap[p]? = some (.cells #[b0, b1, b2, b3, b4, b5, b6, b7, b8, a9, a10] t (0, 0)) := heap_setCell_same _ p 8 _ _ b8 h7
  have h9 : ((((((((((w.setCell ⟨p, 0, none⟩ b0).setCell ⟨p, 1, none⟩ b1).setCell ⟨p, 2, none⟩ b2).setCell ⟨p, 3, none⟩ b3).setCell ⟨p, 4, none⟩ b4).setCell ⟨p, 5, none⟩ b5).setCell ⟨p, 6, none⟩ b6).setCell ⟨p, 7, none⟩ b7).setCell ⟨p, 8, none⟩ b8).setCell ⟨p, 9, none⟩ b9).heap[p]? = some (.cells #[b0, b1, b2, b3, b4, b5, b6, b7, b8, b9, a10] t (0, 0)) := heap_setCell_same _ p 9 _ _ b9 h8
  have h10 : (((((((((((w.setCell ⟨p, 0, none⟩ b0).setCell ⟨p, 1, none⟩ b1).setCell ⟨p, 2, none⟩ b2).setCell ⟨p, 3, none⟩ b3).setCell ⟨p, 4, none⟩ b4).setCell ⟨p, 5, none⟩ b5).setCell ⟨p, 6, none⟩ b6).setCell ⟨p, 7, none⟩ b7).setCell ⟨p, 8, none⟩ b8).setCell ⟨p, 9, none⟩ b9).setCell ⟨p, 10, none⟩ b10).heap[p]? = some (.cells #[b0, b1, b2, b3, b4, b5, b6, b7, b8, b9, b10] t (0, 0)) := heap_setCell_same _ p 10 _ _ b10 h9
  exact h10
theorem set11_oth {w : World} {p b : Nat} {b0 b1 b2 b3 b4 b5 b6 b7 b8 b9 b10 : Value} (h : b ≠ p) : (((((((((((w.setCell ⟨p, 0, none⟩ b0).setCell ⟨p, 1, none⟩ b1).setCell ⟨p, 2, none⟩ b2).setCell ⟨p, 3, none⟩ b3).setCell ⟨p, 4, none⟩ b4).setCell ⟨p, 5, none⟩ b5).setCell ⟨p, 6, none⟩ b6).setCell ⟨p, 7, none⟩ b7).setCell ⟨p, 8, none⟩ b8).setCell ⟨p, 9, none⟩ b9).setCell ⟨p, 10, none⟩ b10).heap[b]? = w.heap[b]? := by
  rw [Below.heap_setCell _ _ _ _ h, Below.heap_setCell _ _ _ _ h, Below.heap_setCell _ _ _ _ h, Below.heap_setCell _ _ _ _ h, Below.heap_setCell _ _ _ _ h, Below.heap_setCell _ _ _ _ h, Below.heap_setCell _ _ _ _ h, Below.heap_setCell _ _ _ _ h, Below.heap_setCell _ _ _ _ h, Below.heap_setCell _ _ _ _ h, Below.heap_setCell _ _ _ _ h]
theorem set11_below {w w2 : World} {B p : Nat} {b0 b1 b2 b3 b4 b5 b6 b7 b8 b9 b10 : Value} (h : Below B w w2) (hp : B ≤ p) : Below B w (((((((((((w2.setCell ⟨p, 0, none⟩ b0).setCell ⟨p, 1, none⟩ b1).setCell ⟨p, 2, none⟩ b2).setCell ⟨p, 3, none⟩ b3).setCell ⟨p, 4, none⟩ b4).setCell ⟨p, 5, none⟩ b5).setCell ⟨p, 6, none⟩ b6).setCell ⟨p, 7, none⟩ b7).setCell ⟨p, 8, none⟩ b8).setCell ⟨p, 9, none⟩ b9).setCell ⟨p, 10, none⟩ b10) := by
  refine Below.setCell (p := ⟨p, 10, none⟩) (Below.setCell (p := ⟨p, 9, none⟩) (Below.setCell (p := ⟨p, 8, none⟩) (Below.setCell (p := ⟨p, 7, none⟩) (Below.setCell (p := ⟨p, 6, none⟩) (Below.setCell (p := ⟨p, 5, none⟩) (Below.setCell (p := ⟨p, 4, none⟩) (Below.setCell (p := ⟨p, 3, none⟩) (Below.setCell (p := ⟨p, 2, none⟩) (Below.setCell (p := ⟨p, 1, none⟩) (Below.setCell (p := ⟨p, 0, none⟩) (h) hp _) hp _) hp _) hp _) hp _) hp _) hp _) hp _) hp _) hp _) hp _
def mz (k : Int) : MM := ⟨k, 0, 0, 0, 0, 0, 0, 0, [], [], []⟩
def adz : Ad := ⟨none, 0, none, 0, none, 0⟩
def noV : Value := .tuple #[.agg (msC (mz 0) adz), .bool false]
/-- What is read, behind so many fields. -/
def RMk (k : Int) (L : List Int) (t : T) : Nat → MM
  | 0 => mz k
  | j + 1 => setF (RMk k L t j) (L.getD j 0).toNat (t.m (j + 1))
def okK (L : List Int) (t : T) (n : Nat) : Bool := (List.range n).all (fun j => okF (L.getD j 0).toNat (t.m (j + 1)))
theorem okK_step {L : List Int} {t : T} {j : Nat} (h : okK L t j = true) (h2 : okF (L.getD j 0).toNat (t.m (j + 1)) = true) : okK L t (j + 1) = true := by
  unfold okK at h ⊢
  rw [List.range_succ, List.all_append, h]
  simp only [List.all_cons, List.all_nil, Bool.and_true, Bool.true_and]
  exact h2
theorem okK_no {L : List Int} {t : T} {j n : Nat} (hj : j < n) (h2 : okF (L.getD j 0).toNat (t.m (j + 1)) = false) : okK L t n = false := by
  unfold okK
  rw [List.all_eq_false]
  exact ⟨j, by simp; omega, by rw [h2]; simp⟩
def okM (t : T) : Bool := decide (0 < t.l.length) && (okS (t.m 0) 1073741824 && isKB (t.m 0).n && decide (t.l.length = 1 + (fl (t.m 0).n.toNat).length)) && okK (fl (t.m 0).n.toNat) t (fl (t.m 0).n.toNat).length
def RM (t : T) : MM := RMk (t.m 0).n (fl (t.m 0).n.toNat) t (fl (t.m 0).n.toNat).length
/-- What messageOf answers. -/
def MgR (B : Nat) (t : T) (e : Ending) (w' : World) : Prop := (okM t = true → ∃ p, e = .returned (.tuple #[.agg (msC (RM t) p), .bool true]) ∧ LsS B w' (RM t) p) ∧ (okM t = false → e = .returned noV)
theorem cells11f {w : World} {g : Nat} {a0 a1 a2 a3 a4 a5 a6 a7 a8 a9 a10 : Value} {t : TypeId} (h : w.heap[g]? = some (.cells #[a0, a1, a2, a3, a4, a5, a6, a7, a8, a9, a10] t (0, 0))) : w.frozen? ⟨g, 0, none⟩ = false ∧ w.frozen? ⟨g, 1, none⟩ = false ∧ w.frozen? ⟨g, 2, none⟩ = false ∧ w.frozen? ⟨g, 3, none⟩ = false ∧ w.frozen? ⟨g, 4, none⟩ = false ∧ w.frozen? ⟨g, 5, none⟩ = false ∧ w.frozen? ⟨g, 6, none⟩ = false ∧ w.frozen? ⟨g, 7, none⟩ = false ∧ w.frozen? ⟨g, 8, none⟩ = false ∧ w.frozen? ⟨g, 9, none⟩ = false ∧ w.frozen? ⟨g, 10, none⟩ = false := by
  simp [World.frozen?, h]
set_option maxRecDepth 100000 in
set_option maxHeartbeats 12800000 in
theorem messageOf_nil (t : T) (w : World) (hn : t.l.length = 0) : Calls Tryd.prog 38 #[t.val] w fun e w' => e = .returned noV ∧ Below w.heap.size w w' := by
  unfold T.val
  rw [hn]
  clear hn
  obtain ⟨h1, h2, hb0⟩ : ((w.alloc (.cells #[.int .i64 t.k, .int .u64 t.n, .string t.s, .slice t.a 0 t.cap] 54)).alloc (.cells #[.int .i64 0, .int .i64 0, .int .i64 0, .int .i64 0, .int .i64 0, .int .i64 0, .int .i64 0, .int .i64 0, .slice none 0 0, .slice none 0 0, .slice none 0 0] 26)).heap[w.heap.size]? = some (.cells #[.int .i64 t.k, .int .u64 t.n, .string t.s, .slice t.a 0 t.cap] 54) ∧ ((w.alloc (.cells #[.int .i64 t.k, .int .u64 t.n, .string t.s, .slice t.a 0 t.cap] 54)).alloc (.cells #[.int .i64 0, .int .i64 0, .int .i64 0, .int .i64 0, .int .i64 0, .int .i64 0, .int .i64 0, .int .i64 0, .slice none 0 0, .slice none 0 0, .slice none 0 0] 26)).heap[w.heap.size + 1]? = some (.cells #[.int .i64 0, .int .i64 0, .int .i64 0, .int .i64 0, .int .i64 0, .int .i64 0, .int .i64 0, .int .i64 0, .slice none 0 0, .slice none 0 0, .slice none 0 0] 26) ∧ Below w.heap.size w ((w.alloc (.cells #[.int .i64 t.k, .int .u64 t.n, .string t.s, .slice t.a 0 t.cap] 54)).alloc (.cells #[.int .i64 0, .int .i64 0, .int .i64 0, .int .i64 0, .int .i64 0, .int .i64 0, .int .i64 0, .int .i64 0, .slice none 0 0, .slice none 0 0, .slice none 0 0] 26)) := by
    refine ⟨?_, ?_, ((Below.refl _ _).alloc (Nat.le_refl _) _).alloc (by simp) _⟩
    · rw [Below.heap_alloc _ _ _ (by simp), heap_top]
    · have := heap_top (w.alloc (.cells #[.int .i64 t.k, .int .u64 t.n, .string t.s, .slice t.a 0 t.cap] 54)) (.cells #[.int .i64 0, .int .i64 0, .int .i64 0, .int .i64 0, .int .i64 0, .int .i64 0, .int .i64 0, .int .i64 0, .slice none 0 0, .slice none 0 0, .slice none 0 0] 26)
      rw [World.size_alloc] at this
      exact this
  have HB0 := Lib.hid hb0
  have HR0 := Lib.hid h2
  clear h1 hb0
  go_enter Tryd.func38, Tryd.ntmps38
  go_wp2_with fail
  have hr := HR0.out
  generalize ((w.alloc (.cells #[.int .i64 t.k, .int .u64 t.n, .string t.s, .slice t.a 0 t.cap] 54)).alloc (.cells #[.int .i64 0, .int .i64 0, .int .i64 0, .int .i64 0, .int .i64 0, .int .i64 0, .int .i64 0, .int .i64 0, .slice none 0 0, .slice none 0 0, .slice none 0 0] 26)) = W at *
  obtain ⟨z0, z1, z2, z3, z4, z5, z6, z7, z8, z9, z10⟩ := cells11 hr
  exact bodyPost_ret (v := noV) (by simp [results, Tryd.results38, go_sem, z0, z1, z2, z3, z4, z5, z6, z7, z8, z9, z10, noV, msC, mz, adz]) rfl ⟨rfl, HB0.out⟩
end Go.Proofs.YtchmiiclogmheaaDoor.C2
