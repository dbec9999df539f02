/-
  A heap as it lies in memory; contracts of heap.nearer, (*queue).may and (*queue).find.
-/
import Derived.Test.YtpmjbeiclmllmaaGreatChecked
import Derived.Test.YtpmjbeiclmllmaaGreatNHMath
import Derived.WalkKit
import Derived.WalkMore
import Derived.BigCall
import Derived.Below
import Derived.Lib.Hide
import Derived.Laws.AppendOwn
import Derived.Laws.OwnMore
import Derived.Deep.QuietTactic
import Derived.BigQuiet
import Derived.Deep.RegionHeld3
namespace Go.Proofs.YtpmjbeiclmllmaaGreat.N5.Hp
open Go.RowKit
theorem named {α : Sort _} (x : α) : ∃ y, Hid (x = y) := ⟨x, rfl⟩
theorem heap_top (w : World) (o : Obj) : (w.alloc o).heap[w.heap.size]? = some o := by show (w.heap.push o)[w.heap.size]? = _; simp
theorem bthen {B : Nat} {w w1 w2 : World} (h : Below B w w1) (k : Below w1.heap.size w1 w2) (hB : B ≤ w1.heap.size) : Below B w w2 := h.trans (k.mono hB)
/-- Numbers as cells. -/
def cellsI (l : List Int) : List Value := l.map (Value.int .i64)
theorem cellsI_len (l : List Int) : (cellsI l).length = l.length := by unfold cellsI; simp
theorem cellsI_getD (xs : List Int) (k : Nat) (h : k < xs.length) : (cellsI xs)[k]? = some (.int .i64 (xs.getD k 0)) := by
  unfold cellsI
  simp [List.getD, List.getElem?_eq_getElem h]
theorem cellsI_set (xs : List Int) (k : Nat) (x : Int) : (cellsI xs).set k (.int .i64 x) = cellsI (xs.set k x) := by
  unfold cellsI
  rw [List.map_set]
/-- Members as cells. -/
def cellsM : List M → List Value
  | [] => []
  | m :: r => .int .i64 m.id :: .int .u64 m.key :: cellsM r
theorem cellsM_len (l : List M) : (cellsM l).length = l.length * 2 := by
  induction l with
  | nil => rfl
  | cons m r ih => simp [cellsM, ih]; omega
theorem cellsM_app (l r : List M) : cellsM (l ++ r) = cellsM l ++ cellsM r := by
  induction l with
  | nil => rfl
  | cons m l ih => simp [cellsM, ih]
theorem cellsM_get (l : List M) : ∀ k, k < l.length → (cellsM l)[k * 2]? = some (.int .i64 (gm l k).id) ∧ (cellsM l)[k * 2 + 1]? = some (.int .u64 (gm l k).key) := by
  induction l with
  | nil => intro k hk; simp at hk
  | cons m r ih =>
    intro k hk
    match k with
    | 0 => simp [cellsM, gm]
    | k + 1 =>
      have := ih k (by simpa using hk)
      rw [show (k + 1) * 2 = k * 2 + 1 + 1 by omega, show gm (m :: r) (k + 1) = gm r k by simp [gm]]
      simpa [cellsM] using this
theorem cellsM_set (l : List M) : ∀ k (x : M), k < l.length → ((cellsM l).set (k * 2) (.int .i64 x.id)).set (k * 2 + 1) (.int .u64 x.key) = cellsM (l.set k x) := by
  induction l with
  | nil => intro k x hk; simp at hk
  | cons m r ih =>
    intro k x hk
    match k with
    | 0 => simp [cellsM]
    | k + 1 =>
      have := ih k x (by simpa using hk)
      rw [show (k + 1) * 2 = k * 2 + 1 + 1 by omega]
      simpa [cellsM] using this
theorem cellsM_take (l : List M) (k : Nat) : (cellsM l).take (k * 2) = cellsM (l.take k) := by
  induction l generalizing k with
  | nil => simp [cellsM]
  | cons m r ih =>
    match k with
    | 0 => simp [cellsM]
    | k + 1 => rw [show (k + 1) * 2 = k * 2 + 1 + 1 by omega]; simp [cellsM, ih]
/-- A member as a value. -/
def M.val (m : M) : Value := .agg #[.int .i64 m.id, .int .u64 m.key]
/-- A heap's blocks: the struct h, the places p, the members v. -/
structure Rep (w : World) (h p : Nat) (v : Value) (n : Nat) (ms : List M) (pl : List Int) : Prop where
  hd : w.heap[h]? = some (.cells #[v, .slice (some ⟨p, 0, none⟩) n n, .func (.func 134) #[] #[]] 178 (0, 0))
  own : w.ownsRow 0 195 2 v ms.length (cellsM ms)
  pb : w.heap[p]? = some (.cells (cellsI pl).toArray 3 (0, 0))
  hp : h ≠ p
  hv : v.ownBlock ≠ some h
  pv : v.ownBlock ≠ some p
  pn : pl.length = n
  nb : n ≤ 16384
theorem cells3 {w : World} {g : Nat} {a b c : Value} {t : TypeId} (h : w.heap[g]? = some (.cells #[a, b, c] t)) : (w.cell? ⟨g, 0, none⟩ = some a ∧ w.cell? ⟨g, 1, none⟩ = some b ∧ w.cell? ⟨g, 2, none⟩ = some c) ∧ (w.frozen? ⟨g, 0, none⟩ = false ∧ w.frozen? ⟨g, 1, none⟩ = false ∧ w.frozen? ⟨g, 2, none⟩ = false) := by
  simp [World.cell?, World.frozen?, h]
theorem cells2 {w : World} {g : Nat} {a b : Value} {t : TypeId} (h : w.heap[g]? = some (.cells #[a, b] t)) : (w.cell? ⟨g, 0, none⟩ = some a ∧ w.cell? ⟨g, 1, none⟩ = some b) ∧ (w.frozen? ⟨g, 0, none⟩ = false ∧ w.frozen? ⟨g, 1, none⟩ = false) := by
  simp [World.cell?, World.frozen?, h]
theorem own_shape {w : World} {base : Nat} {e : TypeId} {size : Nat} {v : Value} {n : Nat} {xs : List Value} (h : w.ownsRow base e size v n xs) (hn : 0 < n) : ∃ g c, v = .slice (some ⟨g, 0, none⟩) n c ∧ n ≤ c ∧ g < w.heap.size ∧ c ≤ 9223372036854775807 := by
  rcases h.2 with ⟨_, h'⟩ | ⟨g, c, cur, h', hb, hg, hnc, hm, _⟩
  · omega
  · exact ⟨g, c, h', hnc, lt_of_block hg, hm⟩
theorem own_slice {w : World} {base : Nat} {e : TypeId} {size : Nat} {v : Value} {n : Nat} {xs : List Value} (h : w.ownsRow base e size v n xs) : ∃ a c, v = .slice a n c := by
  rcases h.2 with ⟨rfl, rfl⟩ | ⟨g, c, cur, rfl, _⟩
  · exact ⟨none, 0, rfl⟩
  · exact ⟨_, c, rfl⟩
theorem Rep.place {w : World} {h p : Nat} {v : Value} {n : Nat} {ms : List M} {pl : List Int} (r : Rep w h p v n ms pl) (x : Nat) (hx : x < n) : w.cell? ⟨p, x, none⟩ = some (.int .i64 (pl.getD x 0)) ∧ w.frozen? ⟨p, x, none⟩ = false := by
  have h1 := cellsI_getD pl x (by rw [r.pn]; exact hx)
  have hs : x < (cellsI pl).toArray.size := by simp [cellsI_len, r.pn]; exact hx
  refine ⟨?_, ?_⟩
  · simp [World.cell?, r.pb]; exact h1
  · simp [World.frozen?, r.pb]
theorem Rep.member {w : World} {h p : Nat} {g c : Nat} {n : Nat} {ms : List M} {pl : List Int} (r : Rep w h p (.slice (some ⟨g, 0, none⟩) ms.length c) n ms pl) (k : Nat) (hk : k < ms.length) :
    (w.cell? ⟨g, k * 2, none⟩ = some (.int .i64 (gm ms k).id) ∧ w.cell? ⟨g, k * 2 + 1, none⟩ = some (.int .u64 (gm ms k).key)) ∧ (w.frozen? ⟨g, k * 2, none⟩ = false ∧ w.frozen? ⟨g, k * 2 + 1, none⟩ = false) := by
  obtain ⟨a, b⟩ := cellsM_get ms k hk
  have h1 := r.own.cells (g := g) rfl _ _ a
  have h2 := r.own.cells (g := g) rfl _ _ b
  rcases r.own.2 with ⟨h', _⟩ | ⟨g', c', cur, h', _, hg, _⟩
  · cases h'
  · cases h'
    refine ⟨⟨?_, ?_⟩, ?_, ?_⟩
    · have e : (⟨g, 0, none⟩ : Addr).add (k * 2) = ⟨g, k * 2, none⟩ := by unfold Addr.add; split <;> simp_all
      rw [e] at h1; exact h1
    · simpa [Addr.add] using h2
    · simp [World.frozen?, hg]
    · simp [World.frozen?, hg]
set_option maxRecDepth 100000 in
set_option maxHeartbeats 400000 in
theorem nearer_any (a b : M) (w : World) :
    Calls Tryz.prog 134 #[.agg #[.int .i64 a.id, .int .u64 a.key], .agg #[.int .i64 b.id, .int .u64 b.key]] w fun e w' => e = .returned (.bool (ahead a b)) ∧ Below w.heap.size w w' := by
  by_cases h1 : a.key = b.key
  · by_cases h2 : a.id < b.id
    · have h2' : (a.id : Int) < b.id := by omega
      have hq : (a.key == b.key) = true := by simpa using h1
      rw [show ahead a b = true by simp [ahead, h1, h2]]
      clear h1 h2
      go_enter Tryz.func134, Tryz.ntmps134
      go_wp2_with fail
      go_ret
      exact ⟨rfl, ((Below.refl _ _).alloc (Nat.le_refl _) _).alloc (by simp) _⟩
    · have h2' : ¬ (a.id : Int) < b.id := by omega
      have hq : (a.key == b.key) = true := by simpa using h1
      rw [show ahead a b = false by simp [ahead, h1, h2]]
      clear h1 h2
      go_enter Tryz.func134, Tryz.ntmps134
      go_wp2_with fail
      go_ret
      exact ⟨rfl, ((Below.refl _ _).alloc (Nat.le_refl _) _).alloc (by simp) _⟩
  · have hq : (a.key == b.key) = false := beq_eq_false_iff_ne.2 h1
    by_cases h2 : a.key < b.key
    · rw [show ahead a b = true by simp [ahead, h2]]
      clear h1
      go_enter Tryz.func134, Tryz.ntmps134
      go_wp2_with fail
      go_ret
      exact ⟨rfl, ((Below.refl _ _).alloc (Nat.le_refl _) _).alloc (by simp) _⟩
    · rw [show ahead a b = false by simp [ahead, h1, h2]]
      clear h1
      go_enter Tryz.func134, Tryz.ntmps134
      go_wp2_with fail
      go_ret
      exact ⟨rfl, ((Below.refl _ _).alloc (Nat.le_refl _) _).alloc (by simp) _⟩
/-- Is there such a number? -/
def okI (n : Nat) (x : Int) : Bool := decide (0 ≤ x ∧ x < n)
set_option maxRecDepth 100000 in
set_option maxHeartbeats 400000 in
theorem may_any {w : World} {h p : Nat} {v : Value} {n : Nat} {ms : List M} {pl : List Int} (r : Rep w h p v n ms pl) (x : Int) :
    Calls Tryz.prog 150 #[.pointer (some ⟨h, 0, none⟩), .int .i64 x] w fun e w' => e = .returned (.bool (okI n x)) ∧ w' = w := by
  obtain ⟨⟨c0, c1, c2⟩, f0, f1, f2⟩ := cells3 r.hd
  by_cases h1 : 0 ≤ x
  · by_cases h2 : x < n
    · rw [show okI n x = true by simp [okI, h1, h2]]
      go_enter Tryz.func150, Tryz.ntmps150
      go_wp2_with fail
      go_ret
      exact ⟨rfl, rfl⟩
    · rw [show okI n x = false by simp [okI, h2]]
      go_enter Tryz.func150, Tryz.ntmps150
      go_wp2_with fail
      go_ret
      exact ⟨rfl, rfl⟩
  · rw [show okI n x = false by simp [okI, h1]]
    go_enter Tryz.func150, Tryz.ntmps150
    go_wp2_with fail
    go_ret
    exact ⟨rfl, rfl⟩
set_option maxRecDepth 100000 in
set_option maxHeartbeats 400000 in
theorem find_any {w : World} {h p : Nat} {v : Value} {n : Nat} {ms : List M} {pl : List Int} (r : Rep w h p v n ms pl) (x : Nat) (hx : x < n) (q : Nat) (hq : pl.getD x 0 = q) (hq2 : q ≤ 16384) :
    Calls Tryz.prog 160 #[.pointer (some ⟨h, 0, none⟩), .int .i64 x] w fun e w' => e = .returned (.tuple #[.int .i64 ((q : Int) - 1), .bool (decide (0 < q))]) ∧ w' = w := by
  obtain ⟨⟨c0, c1, c2⟩, f0, f1, f2⟩ := cells3 r.hd
  obtain ⟨d0, _⟩ := r.place x hx
  rw [hq] at d0
  clear hq
  by_cases h1 : 0 < q
  · rw [show decide (0 < q) = true by simpa using h1]
    have h1' : decide (1 ≤ (q : Int)) = true := by simp; omega
    go_enter Tryz.func160, Tryz.ntmps160
    go_wp2_with fail
    go_ret2
    exact ⟨rfl, rfl⟩
  · rw [show decide (0 < q) = false by simpa using h1]
    have h1' : decide (1 ≤ (q : Int)) = false := by simp; omega
    go_enter Tryz.func160, Tryz.ntmps160
    go_wp2_with fail
    go_ret2
    exact ⟨rfl, rfl⟩
end Go.Proofs.YtpmjbeiclmllmaaGreat.N5.Hp
