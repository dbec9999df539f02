/-
  Pairs as they lie in memory; the contracts of cmp.Compare, cmp.Or, natcut.inOrder.
-/
import Derived.Test.YtpgadcacimjlaaaSame
import Derived.Deep.RegionHeld3
import Derived.Sort.Grow
namespace Go.Proofs.Ytpgadcacimjlaaa
open Go.RowKit
open Go.Sort (grow)
/-- A pair. -/
structure Pr where
  a : Nat
  b : Nat
deriving DecidableEq
instance : Inhabited Pr := ⟨⟨0, 0⟩⟩
def Pr.zero : Pr := ⟨0, 0⟩
/-- Its two cells. -/
def encP (p : Pr) : List Value := [.int .i64 (p.a : Int), .int .i64 (p.b : Int)]
theorem encP_len (p : Pr) : (encP p).length = 2 := rfl
def cellsP : List Pr → List Value
  | [] => []
  | p :: r => .int .i64 (p.a : Int) :: .int .i64 (p.b : Int) :: cellsP r
theorem cellsP_len : ∀ l : List Pr, (cellsP l).length = l.length * 2
  | [] => rfl
  | p :: r => by simp [cellsP, cellsP_len r]; omega
theorem cellsP_append : ∀ l m : List Pr, cellsP (l ++ m) = cellsP l ++ cellsP m
  | [], m => rfl
  | p :: r, m => by simp [cellsP, cellsP_append r m]
theorem cellsP_at : ∀ (l : List Pr) (j : Nat), j < l.length → (cellsP l)[j * 2]? = some (.int .i64 ((l.getD j Pr.zero).a : Int)) ∧ (cellsP l)[j * 2 + 1]? = some (.int .i64 ((l.getD j Pr.zero).b : Int))
  | [], j, h => absurd h (by simp)
  | p :: r, 0, _ => ⟨rfl, rfl⟩
  | p :: r, j + 1, h => by
    have ih := cellsP_at r j (by simpa using h)
    rw [show (j + 1) * 2 = j * 2 + 2 by omega]
    exact ih
theorem cellsP_one : ∀ (l : List Pr), ∀ u ∈ cellsP l, u.oneCell' = true
  | [], u, h => by simp [cellsP] at h
  | p :: r, u, h => by
    simp only [cellsP, List.mem_cons] at h
    rcases h with rfl | rfl | h
    · rfl
    · rfl
    · exact cellsP_one r u h
/-- A pair's cells lie at an address. -/
def Pr.at (x : Pr) (w : World) (b o : Nat) : Prop := w.cell? ⟨b, o, none⟩ = some (.int .i64 (x.a : Int)) ∧ w.cell? ⟨b, o + 1, none⟩ = some (.int .i64 (x.b : Int))
/-- The pairs of a slice lie so in memory. -/
def Prs (w : World) (a : Option Addr) (l : List Pr) : Prop := l = [] ∨ ∃ b o, a = some ⟨b, o, none⟩ ∧ b < w.heap.size ∧ ∀ j, j < l.length → (l.getD j Pr.zero).at w b (o + j * 2)
theorem Prs.on {w w' : World} {a : Option Addr} {l : List Pr} (h : Prs w a l) (hb : Below w.heap.size w w') : Prs w' a l := by
  rcases h with h | ⟨b, o, rfl, hl, hc⟩
  · exact .inl h
  · exact .inr ⟨b, o, rfl, Nat.lt_of_lt_of_le hl hb.size, fun j hj => ⟨(hb.cell (p := ⟨b, o + j * 2, none⟩) hl).trans (hc j hj).1, (hb.cell (p := ⟨b, o + j * 2 + 1, none⟩) hl).trans (hc j hj).2⟩⟩
theorem Prs.get {w : World} {a : Option Addr} {l : List Pr} (h : Prs w a l) : ∃ b o, 0 < l.length → a = some ⟨b, o, none⟩ ∧ b < w.heap.size ∧ ∀ j, j < l.length → (l.getD j Pr.zero).at w b (o + j * 2) := by
  rcases h with rfl | ⟨b, o, h⟩
  · exact ⟨0, 0, fun h => absurd h (by simp)⟩
  · exact ⟨b, o, fun _ => h⟩
/-- Pairs in a row of one's own. -/
def OwnP (w : World) (B : Nat) (a : Option Addr) (c : Nat) (l : List Pr) : Prop := w.ownsRow B 41 2 (.slice a l.length c) l.length (cellsP l)
theorem OwnP.prs {w : World} {B : Nat} {a : Option Addr} {c : Nat} {l : List Pr} (h : OwnP w B a c l) : Prs w a l := by
  by_cases h0 : l = []
  · exact .inl h0
  · rcases h.2 with ⟨_, h'⟩ | ⟨g, c', cur, h', hb, hg, hnc, hm, _⟩
    · exact absurd (List.eq_nil_of_length_eq_zero h') h0
    · injection h' with e1 e2 e3
      subst e1
      refine .inr ⟨g, 0, rfl, lt_of_block hg, fun j hj => ⟨?_, ?_⟩⟩
      · rw [Nat.zero_add, World.ownsRow.cellAt h (j * 2) (by omega), (cellsP_at l j hj).1]
      · rw [Nat.zero_add, World.ownsRow.cellAt h (j * 2 + 1) (by omega), (cellsP_at l j hj).2]
theorem info41 : (Try.prog.info? 41).map (fun i => (i.zero, i.size, i.bytes)) = some (some (.agg #[.int .i64 0, .int .i64 0]), 2, 16) := by kernel_rfl
/-- How two numbers compare. -/
def cmpI (x y : Int) : Int := if x < y then -1 else if y < x then 1 else 0
theorem isNaN_any (x : Int) (w : World) : Calls Try.prog 62 #[.int .i64 x] w fun e w' => e = .returned (.bool false) ∧ w' = w := by
  go_enter Try.func62, Try.ntmps62
  go_wp2_with fail
  go_ret
  exact ⟨rfl, rfl⟩
set_option maxHeartbeats 800000 in
theorem compare_any (x y : Int) (w : World) : Calls Try.prog 44 #[.int .i64 x, .int .i64 y] w fun e w' => e = .returned (.int .i64 (cmpI x y)) ∧ w' = w := by
  unfold cmpI
  by_cases h1 : x < y
  · rw [if_pos h1]
    go_enter Try.func44, Try.ntmps44
    go_wp2_with fail
    refine (isNaN_any x w).mono ?_
    rintro e w1 ⟨rfl, rfl⟩
    go_wp2_with fail
    refine (isNaN_any y w1).mono ?_
    rintro e w2 ⟨rfl, rfl⟩
    go_wp2_with fail
    go_ret
    exact ⟨rfl, rfl⟩
  · rw [if_neg h1]
    by_cases h2 : y < x
    · rw [if_pos h2]
      go_enter Try.func44, Try.ntmps44
      go_wp2_with fail
      refine (isNaN_any x w).mono ?_
      rintro e w1 ⟨rfl, rfl⟩
      go_wp2_with fail
      refine (isNaN_any y w1).mono ?_
      rintro e w2 ⟨rfl, rfl⟩
      go_wp2_with fail
      go_ret
      exact ⟨rfl, rfl⟩
    · rw [if_neg h2]
      go_enter Try.func44, Try.ntmps44
      go_wp2_with fail
      refine (isNaN_any x w).mono ?_
      rintro e w1 ⟨rfl, rfl⟩
      go_wp2_with fail
      refine (isNaN_any y w1).mono ?_
      rintro e w2 ⟨rfl, rfl⟩
      go_wp2_with fail
      go_ret
      exact ⟨rfl, rfl⟩
/-- The first that is not 0. -/
def orI (x y : Int) : Int := if x = 0 then y else x
set_option maxHeartbeats 800000 in
theorem or_any (b : Nat) (x y : Int) (w : World) (h0 : w.cell? ⟨b, 0, none⟩ = some (.int .i64 x)) (h1 : w.cell? ⟨b, 1, none⟩ = some (.int .i64 y)) : Calls Try.prog 43 #[.slice (some ⟨b, 0, none⟩) 2 2] w fun e w' => e = .returned (.int .i64 (orI x y)) ∧ w' = w := by
  obtain ⟨R, HR⟩ := named (orI x y)
  rw [HR.out]
  go_enter Try.func43, Try.ntmps43
  go_wp2_with fail
  go_loopw [8] (fun i wr => wr = w ∧ ∃ k : Nat, k ≤ 2 ∧ i = .int .i64 k ∧ (1 ≤ k → x = 0) ∧ (2 ≤ k → y = 0)) (fun i _ => 2 - (intOf i).toNat)
  case atStart => exact ⟨rfl, 0, by omega, rfl, by omega, by omega⟩
  case round =>
    obtain ⟨rfl, k, hk, rfl, hx, hy⟩ := hrel
    have hk3 : k = 0 ∨ k = 1 ∨ k = 2 := by omega
    rcases hk3 with rfl | rfl | rfl
    · by_cases hx0 : x = 0
      · have hx1 : (x != 0) = false := by simp [hx0]
        go_wp2_with fail
        exact ⟨⟨trivial, 1, by omega, by simp, fun _ => hx0, by omega⟩, by simp [intOf]⟩
      · have hx1 : (x != 0) = true := by simp [hx0]
        have hR : R = x := by rw [← HR.out]; unfold orI; rw [if_neg hx0]
        subst hR
        go_wp2_with fail
        go_ret
        exact ⟨rfl, rfl⟩
    · have hx0 : Hid (x = 0) := hx (by omega)
      clear hx hy
      by_cases hy0 : y = 0
      · have hy1 : (y != 0) = false := by simp [hy0]
        have HY0 := Lib.hid hy0
        go_wp2_with fail
        exact ⟨⟨trivial, 2, by omega, by simp, fun _ => hx0.out, fun _ => HY0.out⟩, by simp [intOf]⟩
      · have hy1 : (y != 0) = true := by simp [hy0]
        have hR : R = y := by rw [← HR.out]; unfold orI; rw [if_pos hx0.out]
        subst hR
        go_wp2_with fail
        go_ret
        exact ⟨rfl, rfl⟩
    · have hR : R = 0 := by rw [← HR.out]; unfold orI; rw [if_pos (hx (by omega)), hy (by omega)]
      subst hR
      clear hx hy
      go_wp2_with fail
      go_ret
      exact ⟨rfl, rfl⟩
theorem topc (V : World) (x y : Value) (t : TypeId) : (V.alloc (.cells #[x, y] t)).drew.cell? ⟨V.heap.size, 0, none⟩ = some x ∧ (V.alloc (.cells #[x, y] t)).drew.cell? ⟨V.heap.size, 1, none⟩ = some y := (two_cells (heap_top V (.cells #[x, y] t))).1
/-- How two pairs compare. -/
def cmpP (p q : Pr) : Int := orI (cmpI p.a q.a) (cmpI p.b q.b)
/-- A world that drew and made blocks, and did nothing else. -/
def Gwn (w w' : World) : Prop := ∃ n os, w' = grow (w.drewN n) os
set_option maxRecDepth 100000 in
set_option maxHeartbeats 1600000 in
theorem inOrder_any (p q : Pr) (w : World) : Calls Try.prog 27 #[.agg #[.int .i64 (p.a : Int), .int .i64 (p.b : Int)], .agg #[.int .i64 (q.a : Int), .int .i64 (q.b : Int)]] w fun e w' => e = .returned (.int .i64 (cmpP p q)) ∧ Gwn w w' := by
  obtain ⟨R, HR⟩ := named (cmpP p q)
  rw [HR.out]
  unfold cmpP at HR
  obtain ⟨c1, HC1⟩ := named (cmpI p.a q.a)
  obtain ⟨c2, HC2⟩ := named (cmpI p.b q.b)
  rw [HC1.out, HC2.out] at HR
  have hp : ((w.alloc (.cells #[.int .i64 (p.a : Int), .int .i64 (p.b : Int)] 41)).alloc (.cells #[.int .i64 (q.a : Int), .int .i64 (q.b : Int)] 41)).heap[w.heap.size]? = some (.cells #[.int .i64 (p.a : Int), .int .i64 (p.b : Int)] 41) := (Below.heap_alloc _ _ _ (by simp)).trans (heap_top w _)
  have hq := heap_top (w.alloc (.cells #[.int .i64 (p.a : Int), .int .i64 (p.b : Int)] 41)) (.cells #[.int .i64 (q.a : Int), .int .i64 (q.b : Int)] 41)
  rw [World.size_alloc] at hq
  have HW : Hid (∀ o, Gwn w (((w.alloc (.cells #[.int .i64 (p.a : Int), .int .i64 (p.b : Int)] 41)).alloc (.cells #[.int .i64 (q.a : Int), .int .i64 (q.b : Int)] 41)).alloc o).drew) := fun o => ⟨1, #[.cells #[.int .i64 (p.a : Int), .int .i64 (p.b : Int)] 41, .cells #[.int .i64 (q.a : Int), .int .i64 (q.b : Int)] 41, o], by rw [Go.Sort.alloc_eq_grow, Go.Sort.alloc_eq_grow, Go.Sort.alloc_eq_grow, Go.Sort.grow_grow, Go.Sort.grow_grow]; rfl⟩
  obtain ⟨⟨p0, p1⟩, _⟩ := two_cells hp
  obtain ⟨⟨q0, q1⟩, _⟩ := two_cells hq
  go_enter Try.func27, Try.ntmps27
  go_wp2_with fail
  generalize hV : (w.alloc (.cells #[.int .i64 (p.a : Int), .int .i64 (p.b : Int)] 41)).alloc (.cells #[.int .i64 (q.a : Int), .int .i64 (q.b : Int)] 41) = V at *
  clear hV hp hq
  go_region_held3 (fun w' => w'.cell? ⟨w.heap.size, 0, none⟩ = some (.int .i64 (p.a : Int)) ∧ w'.cell? ⟨w.heap.size, 1, none⟩ = some (.int .i64 (p.b : Int)) ∧ w'.cell? ⟨w.heap.size + 1, 0, none⟩ = some (.int .i64 (q.a : Int)) ∧ w'.cell? ⟨w.heap.size + 1, 1, none⟩ = some (.int .i64 (q.b : Int))) (go_keep) ((first | (go_at_call 44; refine (compare_any _ _ _).mono ?_; rintro e w2 ⟨rfl, rfl⟩; first | rw [HC1.out] | rw [HC2.out]) | (go_at_call 43; refine (or_any _ c1 c2 _ (topc _ _ _ _).1 (topc _ _ _ _).2).mono ?_; rintro e w2 ⟨rfl, rfl⟩; rw [HR.out])))
  go_wp2_with fail
  go_ret
  exact ⟨rfl, HW.out _⟩
end Go.Proofs.Ytpgadcacimjlaaa
