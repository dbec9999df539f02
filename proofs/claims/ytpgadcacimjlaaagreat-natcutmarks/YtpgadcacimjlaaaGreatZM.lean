/-
  The contract of the book's SpoilInts: rows keep their shape. Arcs as cells; the contract of the book's SameGraph. The contract of flyoverref03.Check. Contract of the book's KeptGraph, at a graph that was kept: true. Contract of the book's LendGraph: a graph of its own, with a mark behind its arcs.
-/
import Derived.Test.YtpgadcacimjlaaaGreatZA
import Derived.Laws.StructEq
import Derived.Deep.RegionHeld3
namespace Go.Proofs.YtpgadcacimjlaaaGreat
open Go.RowKit
/-- The arcs of a slice lie so in memory, below B. -/
def ArcsB (B : Nat) (w : World) (a : Option Addr) (l : List A) : Prop :=
  l = [] ∨ ∃ b o, a = some ⟨b, o, none⟩ ∧ b < B ∧ ∀ j, j < l.length → (l.getD j A.zero).at w b (o + j * 3)
theorem A.at.onB {x : A} {w w' : World} {b o B : Nat} (h : x.at w b o) (hl : b < B) (hb : Below B w w') : x.at w' b o :=
  ⟨(hb.cell hl).trans h.1, (hb.cell (p := ⟨b, o + 1, none⟩) hl).trans h.2.1, (hb.cell (p := ⟨b, o + 2, none⟩) hl).trans h.2.2⟩
theorem ArcsB.on {B : Nat} {w w' : World} {a : Option Addr} {l : List A} (h : ArcsB B w a l) (hb : Below B w w') : ArcsB B w' a l := by
  rcases h with h | ⟨b, o, rfl, hl, hc⟩
  · exact Or.inl h
  · exact Or.inr ⟨b, o, rfl, hl, fun j hj => (hc j hj).onB hl hb⟩
theorem ArcsB.up {B B' : Nat} {w : World} {a : Option Addr} {l : List A} (h : ArcsB B w a l) (hb : B ≤ B') : ArcsB B' w a l := by
  rcases h with h | ⟨b, o, rfl, hl, hc⟩
  · exact Or.inl h
  · exact Or.inr ⟨b, o, rfl, Nat.lt_of_lt_of_le hl hb, hc⟩
theorem Arcs.b {w : World} {a : Option Addr} {l : List A} (h : Arcs w a l) : ArcsB w.heap.size w a l := h
theorem ArcsB.a {B : Nat} {w : World} {a : Option Addr} {l : List A} (h : ArcsB B w a l) (hb : B ≤ w.heap.size) : Arcs w a l := h.up hb
theorem ArcsB.get {B : Nat} {w : World} {a : Option Addr} {l : List A} (h : ArcsB B w a l) : ∃ b o, 0 < l.length → a = some ⟨b, o, none⟩ ∧ b < B ∧ ∀ j, j < l.length → (l.getD j A.zero).at w b (o + j * 3) := by
  rcases h with rfl | ⟨b, o, h⟩
  · exact ⟨0, 0, fun h => absurd h (by simp)⟩
  · exact ⟨b, o, fun _ => h⟩
theorem info53 : (Tryz.prog.info? 50).map (fun i => (i.zero, i.size, i.bytes)) = some (some (.agg #[.int .i64 0, .int .i64 0, .int .u32 0]), 3, 24) := by kernel_rfl
/-- Arcs as cells. -/
def cellsA : List A → List Value
  | [] => []
  | x :: r => .int .i64 x.f :: .int .i64 x.t :: .int .u32 x.w :: cellsA r
theorem cellsA_len : ∀ l : List A, (cellsA l).length = l.length * 3
  | [] => rfl
  | x :: r => by simp only [cellsA, List.length_cons, cellsA_len r]; omega
theorem cellsA_append : ∀ l m : List A, cellsA (l ++ m) = cellsA l ++ cellsA m
  | [], _ => rfl
  | x :: r, m => by simp only [cellsA, List.cons_append, cellsA_append r m]
theorem cellsA_at : ∀ (l : List A) (j : Nat), j < l.length → (cellsA l)[j * 3]? = some (.int .i64 (l.getD j A.zero).f) ∧ (cellsA l)[j * 3 + 1]? = some (.int .i64 (l.getD j A.zero).t) ∧ (cellsA l)[j * 3 + 2]? = some (.int .u32 (l.getD j A.zero).w)
  | [], _, h => absurd h (by simp)
  | x :: r, 0, _ => ⟨rfl, rfl, rfl⟩
  | x :: r, j + 1, h => by
    have := cellsA_at r j (by simpa using h)
    rw [show (j + 1) * 3 = j * 3 + 3 by omega]
    exact this
theorem cellsA_one : ∀ (l : List A), ∀ u ∈ cellsA l, u.oneCell' = true
  | [], u, h => by cases h
  | x :: r, u, h => by
    simp only [cellsA, List.mem_cons] at h
    rcases h with rfl | rfl | rfl | h
    · rfl
    · rfl
    · rfl
    · exact cellsA_one r u h
theorem cellsA_set : ∀ (l : List A) (j : Nat) (v : Int), j < l.length →
    (cellsA l).set (j * 3) (.int .i64 v) = cellsA (l.set j ⟨v, (l.getD j A.zero).t, (l.getD j A.zero).w⟩) ∧
    (cellsA l).set (j * 3 + 1) (.int .i64 v) = cellsA (l.set j ⟨(l.getD j A.zero).f, v, (l.getD j A.zero).w⟩) ∧
    (cellsA l).set (j * 3 + 2) (.int .u32 v) = cellsA (l.set j ⟨(l.getD j A.zero).f, (l.getD j A.zero).t, v⟩)
  | [], _, _, h => absurd h (by simp)
  | x :: r, 0, v, _ => ⟨rfl, rfl, rfl⟩
  | x :: r, j + 1, v, h => by
    have := cellsA_set r j v (by simpa using h)
    rw [show (j + 1) * 3 = j * 3 + 3 by omega]
    exact ⟨congrArg (fun t => Value.int .i64 x.f :: Value.int .i64 x.t :: Value.int .u32 x.w :: t) this.1, congrArg (fun t => Value.int .i64 x.f :: Value.int .i64 x.t :: Value.int .u32 x.w :: t) this.2.1, congrArg (fun t => Value.int .i64 x.f :: Value.int .i64 x.t :: Value.int .u32 x.w :: t) this.2.2⟩
theorem cells_of_at {w : World} {b o : Nat} : ∀ (l : List A) (p : Nat), (∀ j, j < l.length → (l.getD j A.zero).at w b (o + (p + j) * 3)) → ∀ i u, (cellsA l)[i]? = some u → w.cell? ⟨b, o + p * 3 + i, none⟩ = some u
  | [], _, _, i, u, h => by simp [cellsA] at h
  | x :: r, p, ha, i, u, h => by
    have h0 := ha 0 (by simp)
    simp only [Nat.add_zero] at h0
    match i, h with
    | 0, h => simp [cellsA] at h; subst h; exact h0.1
    | 1, h => simp [cellsA] at h; subst h; exact h0.2.1
    | 2, h => simp [cellsA] at h; subst h; exact h0.2.2
    | i + 3, h =>
      have := cells_of_at r (p + 1) (fun j hj => by have := ha (j + 1) (by simpa using hj); rw [show p + (j + 1) = p + 1 + j by omega] at this; exact this) i u (by simpa [cellsA] using h)
      rw [show o + p * 3 + (i + 3) = o + (p + 1) * 3 + i by omega]
      exact this
/-- A row of arcs of our own. -/
def OwnA (w : World) (B : Nat) (a : Option Addr) (c : Nat) (l : List A) : Prop := w.ownsRow B 50 3 (.slice a l.length c) l.length (cellsA l)
theorem OwnA.some {w : World} {B : Nat} {a : Option Addr} {c : Nat} {l : List A} (h : OwnA w B a c l) (h0 : 0 < l.length) : ∃ g, a = some ⟨g, 0, none⟩ ∧ B ≤ g ∧ g < w.heap.size := by
  rcases h.2 with ⟨_, h'⟩ | ⟨g, c', cur, h', hb, hg, _⟩
  · omega
  · injection h' with e1 e2 e3
    exact ⟨g, e1, hb, lt_of_block hg⟩
theorem OwnA.at {w : World} {B g c : Nat} {l : List A} (h : OwnA w B (.some ⟨g, 0, none⟩) c l) (j : Nat) (hj : j < l.length) : (l.getD j A.zero).at w g (j * 3) := by
  obtain ⟨h1, h2, h3⟩ := cellsA_at l j hj
  exact ⟨(World.ownsRow.cellAt h (j * 3) (by omega)).trans h1, (World.ownsRow.cellAt h (j * 3 + 1) (by omega)).trans h2, (World.ownsRow.cellAt h (j * 3 + 2) (by omega)).trans h3⟩
theorem OwnA.arcs {w : World} {B : Nat} {a : Option Addr} {c : Nat} {l : List A} (h : OwnA w B a c l) : Arcs w a l := by
  by_cases h0 : 0 < l.length
  · obtain ⟨g, rfl, _, hg⟩ := h.some h0
    exact Or.inr ⟨g, 0, rfl, hg, fun j hj => by rw [Nat.zero_add]; exact h.at j hj⟩
  · exact Or.inl (List.eq_nil_of_length_eq_zero (by omega))
theorem OwnA.alloc {w : World} {B : Nat} {a : Option Addr} {c : Nat} {l : List A} (h : OwnA w B a c l) (o : Obj) : OwnA (w.alloc o) B a c l := World.ownsRow.alloc h o
theorem OwnA.on {w w' : World} {B : Nat} {a : Option Addr} {c : Nat} {l : List A} (h : OwnA w B a c l) (hb : Below w.heap.size w w') : OwnA w' B a c l := by
  refine ⟨h.1, ?_⟩
  rcases h.2 with h' | ⟨g, c', cur, h1, h2, h3, h4⟩
  · exact Or.inl h'
  · exact Or.inr ⟨g, c', cur, h1, h2, (hb.block g (lt_of_block h3)).trans h3, h4⟩
theorem OwnA.base {w : World} {B B' : Nat} {a : Option Addr} {c : Nat} {l : List A} (h : OwnA w B a c l) (hb : B' ≤ B) : OwnA w B' a c l := own_base h hb
theorem OwnA.nil (w : World) (B : Nat) : OwnA w B none 0 [] := World.ownsRow_nil _ _ _ _
theorem clone_news {w : World} {ad : Addr} {l : List A} (h : Arcs w (some ad) l) (o : Obj) : ∀ j u, (cellsA l)[j]? = some u → (w.alloc o).cell? (ad.add j) = some u := by
  intro j u hu
  rcases h with rfl | ⟨b, q, he, hb, hc⟩
  · simp [cellsA] at hu
  · cases he
    have := cells_of_at (o := q) l 0 (fun j hj => by rw [Nat.zero_add]; exact hc j hj) j u hu
    rw [Go.WideShapes.add_plain, World.cell?_alloc_past _ _ _ hb]
    simpa using this
set_option maxHeartbeats 800000 in
theorem sameGraph_any (N : Int) (a a' : Option Addr) (cap cap' : Nat) (l : List A) (w : World) (hlen : l.length ≤ 9223372036854775807) (hr : Arcs w a l) (hr' : Arcs w a' l) :
    Calls Tryz.prog 36 #[.agg #[.int .i64 N, .slice a l.length cap], .agg #[.int .i64 N, .slice a' l.length cap']] w fun e w' => e = .returned (.bool true) ∧ Below w.heap.size w w' := by
  have hb0 : Below w.heap.size w ((w.alloc (.cells #[.int .i64 N, .slice a l.length cap] 24)).alloc (.cells #[.int .i64 N, .slice a' l.length cap'] 24)) := ((Below.refl _ _).alloc (Nat.le_refl _) _).alloc (by simp) _
  have hg : ((w.alloc (.cells #[.int .i64 N, .slice a l.length cap] 24)).alloc (.cells #[.int .i64 N, .slice a' l.length cap'] 24)).heap[w.heap.size]? = some (.cells #[.int .i64 N, .slice a l.length cap] 24) := (Below.heap_alloc _ _ _ (by simp)).trans (heap_top w _)
  have h1 := heap_top (w.alloc (.cells #[.int .i64 N, .slice a l.length cap] 24)) (.cells #[.int .i64 N, .slice a' l.length cap'] 24)
  rw [show (w.alloc (.cells #[.int .i64 N, .slice a l.length cap] 24)).heap.size = w.heap.size + 1 by simp] at h1
  generalize hW : (w.alloc (.cells #[.int .i64 N, .slice a l.length cap] 24)).alloc (.cells #[.int .i64 N, .slice a' l.length cap'] 24) = W at *
  obtain ⟨⟨g0, g1⟩, gf0, gf1⟩ := two_cells hg
  obtain ⟨⟨k0, k1⟩, kf0, kf1⟩ := two_cells h1
  have hrW := hr.on hb0
  have hrW' := hr'.on hb0
  obtain ⟨b, o, hab⟩ := hrW.b.get
  obtain ⟨b', o', hab'⟩ := hrW'.b.get
  go_enter Tryz.func36, Tryz.ntmps36
  go_wp2_with fail
  go_loopw [5] (fun i wr => ∃ k n : Nat, k ≤ l.length ∧ i = .int .i64 k ∧ wr = W.drewN n) (fun i _ => l.length - (intOf i).toNat)
  case atStart => exact ⟨0, 0, Nat.zero_le _, rfl, rfl⟩
  case round =>
    obtain ⟨k, n, hk, rfl, rfl⟩ := hrel
    by_cases hlt : k < l.length
    · obtain ⟨rfl, _, hc⟩ := hab (by omega)
      obtain ⟨rfl, _, hc'⟩ := hab' (by omega)
      obtain ⟨c0, c1, c2⟩ := hc k hlt
      obtain ⟨d0, d1, d2⟩ := hc' k hlt
      clear hc hc'
      generalize l.getD k A.zero = x at *
      go_wp2_with fail
      go_quiet (fail)
      go_wp2_with fail
      exact ⟨⟨k + 1, _, by omega, by go_num, rfl⟩, by simp [intOf]; omega⟩
    · go_wp2_with fail
      go_ret
      exact ⟨rfl, hb0.trans (below_drewN _ _ _)⟩
end Go.Proofs.YtpgadcacimjlaaaGreat
namespace Go.Proofs.YtpgadcacimjlaaaGreat
open Go.RowKit
set_option maxHeartbeats 800000 in
theorem rcheck_any (N : Int) (a : Option Addr) (l : List A) (cap : Nat) (w : World) (hl : l.length ≤ 9223372036854775807) (hr : Arcs w a l) :
    Calls Tryz.prog 31 #[.agg #[.int .i64 N, .slice a l.length cap]] w fun e w' => e = .returned (.tuple #[.int .i64 (chkAt N l), .int .i64 (chkE N l)]) ∧ Below w.heap.size w w' := by
  by_cases h1 : N < 1
  · rw [(chk_range (l := l) (Or.inl h1)).1, (chk_range (l := l) (Or.inl h1)).2]
    go_enter Tryz.func31, Tryz.ntmps31
    go_wp2_with fail
    go_ret2
    exact ⟨rfl, (Below.refl _ _).alloc (Nat.le_refl _) _⟩
  by_cases h2 : 1024 < N
  · rw [(chk_range (l := l) (Or.inr h2)).1, (chk_range (l := l) (Or.inr h2)).2]
    go_enter Tryz.func31, Tryz.ntmps31
    go_wp2_with fail
    go_ret2
    exact ⟨rfl, (Below.refl _ _).alloc (Nat.le_refl _) _⟩
  have hN : ¬ (N < 1 ∨ 1024 < N) := by omega
  by_cases h3 : 8192 < l.length
  · have h3' : (8192 : Int) < l.length := by omega
    rw [(chk_long hN h3).1, (chk_long hN h3).2]
    clear hN
    go_enter Tryz.func31, Tryz.ntmps31
    go_wp2_with fail
    go_ret2
    exact ⟨rfl, (Below.refl _ _).alloc (Nat.le_refl _) _⟩
  have h3' : ¬ (8192 : Int) < l.length := by omega
  have HN := Lib.hid hN
  clear hN
  obtain ⟨E, HE⟩ := named (chkE N l)
  obtain ⟨T, HAT⟩ := named (chkAt N l)
  rw [HE.out, HAT.out]
  have hb0 : Below w.heap.size w (w.alloc (.cells #[.int .i64 N, .slice a l.length cap] 24)) := (Below.refl _ _).alloc (Nat.le_refl _) _
  obtain ⟨b, o, hab⟩ := hr.b.get
  go_enter Tryz.func31, Tryz.ntmps31
  go_wp2_with fail
  go_loopw [4] (fun i wr => ∃ k : Nat, k ≤ l.length ∧ i = .int .i64 k ∧ Hid ((l.take k).all (okA N) = true) ∧ wr.heap[w.heap.size]? = some (.cells #[.int .i64 N, .slice a l.length cap] 24) ∧ Below w.heap.size w wr) (fun i _ => l.length - (intOf i).toNat)
  case atStart => exact ⟨0, Nat.zero_le _, rfl, by show _ = _; simp, heap_top w _, hb0⟩
  case round =>
    obtain ⟨k, hk, rfl, hall, hg, hb⟩ := hrel
    obtain ⟨⟨g0, g1⟩, gf0, gf1⟩ := two_cells hg
    have hsz : w.heap.size < wr.heap.size := lt_of_block hg
    by_cases hlt : k < l.length
    · obtain ⟨rfl, hbl, hat⟩ := hab (by omega)
      obtain ⟨c0, c1, c2⟩ := (hat k hlt).onB hbl hb
      have HT := Lib.hid (fun (h : okA N (l.getD k A.zero) = true) => all_take hlt hall.out h)
      have HF := Lib.hid (fun (h : okA N (l.getD k A.zero) = false) => chk_bad HN.out h3 (find_at hlt hall.out h))
      generalize l.getD k A.zero = x at *
      have b3 : Below w.heap.size w (wr.alloc (.cells #[.int .i64 x.f, .int .i64 x.t, .int .u32 x.w] 50)) := hb.alloc (by omega) _
      have hg3 := (Below.heap_alloc wr (.cells #[.int .i64 x.f, .int .i64 x.t, .int .u32 x.w] 50) _ hsz).trans hg
      by_cases q1 : 0 ≤ x.f
      · by_cases q2 : x.f < N
        · by_cases q3 : 0 ≤ x.t
          · by_cases q4 : x.t < N
            · have hA : okA N x = true := by simp [okA, okV, q1, q2, q3, q4]
              go_wp2_with fail
              exact ⟨⟨k + 1, by omega, by go_num, HT.out hA, hg3, b3⟩, by simp [intOf]; omega⟩
            · have hE := HF.out (by simp [okA, okV, q4])
              rw [HE.out, HAT.out] at hE
              obtain ⟨rfl, rfl⟩ := hE
              go_wp2_with fail
              go_ret2
              exact ⟨rfl, b3⟩
          · have hE := HF.out (by simp [okA, okV, q3])
            rw [HE.out, HAT.out] at hE
            obtain ⟨rfl, rfl⟩ := hE
            go_wp2_with fail
            go_ret2
            exact ⟨rfl, b3⟩
        · have hE := HF.out (by simp [okA, okV, q2])
          rw [HE.out, HAT.out] at hE
          obtain ⟨rfl, rfl⟩ := hE
          go_wp2_with fail
          go_ret2
          exact ⟨rfl, b3⟩
      · have hE := HF.out (by simp [okA, okV, q1])
        rw [HE.out, HAT.out] at hE
        obtain ⟨rfl, rfl⟩ := hE
        go_wp2_with fail
        go_ret2
        exact ⟨rfl, b3⟩
    · have hE := chk_ok HN.out h3 (by have := hall.out; rw [List.take_of_length_le (by omega)] at this; exact this)
      rw [HE.out, HAT.out] at hE
      obtain ⟨rfl, rfl⟩ := hE
      go_wp2_with fail
      go_ret2
      exact ⟨rfl, hb⟩
end Go.Proofs.YtpgadcacimjlaaaGreat
namespace Go.Proofs.YtpgadcacimjlaaaGreat
open Go.RowKit
/-- The mark behind. -/
def A.mark : A := ⟨-77, 0, 0⟩
/-- A graph that is lent. -/
def Lent (w w' : World) (e : Ending) (N : Int) (l : List A) : Prop :=
  ∃ g c, e = .returned (.agg #[.int .i64 N, .slice (some ⟨g, 0, none⟩) l.length c]) ∧ l.length < c ∧ c ≤ 9223372036854775807 ∧ w'.ownsRow w.heap.size 50 3 (.slice (some ⟨g, 0, none⟩) (l.length + 1) c) (l.length + 1) (cellsA (l ++ [A.mark])) ∧ Below w.heap.size w w'
theorem mark_news (w : World) : ∀ j u, (cellsA [A.mark])[j]? = some u → (w.alloc (.cells #[.int .i64 (-77), .int .i64 0, .int .u32 0] 50)).cell? ((⟨w.heap.size, 0, none⟩ : Addr).add j) = some u := by
  intro j u hu
  obtain ⟨h0, h1, h2⟩ := three_cells (heap_top w (.cells #[.int .i64 (-77), .int .i64 0, .int .u32 0] 50))
  rw [Go.WideShapes.add_plain, Nat.zero_add]
  match j, hu with
  | 0, hu => simp [cellsA, A.mark] at hu; subst hu; exact h0
  | 1, hu => simp [cellsA, A.mark] at hu; subst hu; exact h1
  | 2, hu => simp [cellsA, A.mark] at hu; subst hu; exact h2
  | j + 3, hu => simp [cellsA] at hu
set_option maxHeartbeats 1600000 in
theorem lend_some (N : Int) (ad : Addr) (l : List A) (cap : Nat) (w : World) (hlen : l.length * 24 ≤ 140737488351232) (hr : Arcs w (some ad) l) :
    Calls Tryz.prog 9 #[.agg #[.int .i64 N, .slice (some ad) l.length cap]] w fun e w' => Lent w w' e N l := by
  obtain ⟨i0, hi, hz0, hz1, hz2⟩ := info_parts info53
  have hb0 : Below w.heap.size w ((w.alloc (.cells #[.int .i64 N, .slice (some ad) l.length cap] 24)).alloc (.cells #[.int .i64 0, .slice none 0 0] 24)) := ((Below.refl _ _).alloc (Nat.le_refl _) _).alloc (by simp) _
  have hg : ((w.alloc (.cells #[.int .i64 N, .slice (some ad) l.length cap] 24)).alloc (.cells #[.int .i64 0, .slice none 0 0] 24)).heap[w.heap.size]? = some (.cells #[.int .i64 N, .slice (some ad) l.length cap] 24) := (Below.heap_alloc _ _ _ (by simp)).trans (heap_top w _)
  have h1 := heap_top (w.alloc (.cells #[.int .i64 N, .slice (some ad) l.length cap] 24)) (.cells #[.int .i64 0, .slice none 0 0] 24)
  rw [show (w.alloc (.cells #[.int .i64 N, .slice (some ad) l.length cap] 24)).heap.size = w.heap.size + 1 by simp] at h1
  generalize hW : (w.alloc (.cells #[.int .i64 N, .slice (some ad) l.length cap] 24)).alloc (.cells #[.int .i64 0, .slice none 0 0] 24) = W at *
  obtain ⟨⟨g0, g1⟩, gf0, gf1⟩ := two_cells hg
  have HN := Lib.hid (clone_news (hr.on hb0) (.cells #[] 50))
  have HL := Lib.hid (cellsA_len l)
  have HA : Hid (cellsA l ++ cellsA [A.mark] = cellsA (l ++ [A.mark])) := (cellsA_append l [A.mark]).symm
  have hown0 := World.ownsRow_lit (base := W.heap.size) (e := 50) (size := 3) W #[] 0 (Nat.le_refl _) (by decide) rfl
  have s0 := lt_of_block hg
  have s1 := lt_of_block h1
  go_enter Tryz.func9, Tryz.ntmps9
  go_wp2_with (first
    | (at_builtin; refine wpList_append_own _ rfl (.tmp 4) (.tmp 6) 22 rfl W.heap.size 50 i0 _ 3 24 Tryz.underlying22 hi hz0 hz1 hz2 rfl (by decide) (.slice (some ⟨W.heap.size, 0, none⟩) 0 0) 0 [] rfl hown0 ad l.length cap (cellsA l) rfl HL.out HN.out (cellsA_one l) (by unfold maxLen; omega) (by omega) (by simp) ?_; intro v1 w1 hown1 hgrow1 hnil1; obtain ⟨g1', c1, hv1, hg1, hc1, hs1, hm1⟩ := own_shape hown1 (fun e => by have := hnil1.1 e; simp at this); rw [hv1] at hown1 ⊢; clear hnil1 hv1; simp only [Nat.zero_add, List.nil_append] at hown1 hc1 ⊢)
    | (at_builtin; refine wpList_append_own _ rfl (.tmp 8) (.tmp 10) 22 rfl W.heap.size 50 i0 _ 3 24 Tryz.underlying22 hi hz0 hz1 hz2 rfl (by decide) (.slice (some ⟨g1', 0, none⟩) l.length c1) l.length (cellsA l) rfl (hown1.alloc _) ⟨w1.heap.size, 0, none⟩ 1 1 (cellsA [A.mark]) rfl rfl (mark_news w1) (cellsA_one _) (by unfold maxLen; omega) (by omega) (by simp; omega) ?_; intro v2 w2 hown2 hgrow2 hnil2; obtain ⟨g2, c2, hv2, hg2, hc2, hs2, hm2⟩ := own_shape hown2 (fun e => by have := hnil2.1 e; simp at this); rw [hv2] at hown2 ⊢; clear hnil2 hv2))
  have b1 : Below W.heap.size W w1 := ((Below.refl W.heap.size W).alloc (Nat.le_refl _) _).grown hgrow1 (by simp) (by intro k hk; cases hk; exact Nat.le_refl _)
  have b2 : Below W.heap.size W w2 := (b1.alloc b1.size _).grown hgrow2 (by have := b1.size; simp; omega) (by intro k hk; cases hk; exact hg1)
  have hg2' := (b2.block _ s0).trans hg
  have hh2' := (b2.block _ s1).trans h1
  have bw := bthen hb0 b2 hb0.size
  rw [HA.out] at hown2
  clear hown1 hgrow1 hgrow2 g0 g1 gf0 gf1 hown0 HN hW b1 b2
  obtain ⟨⟨g0, g1⟩, gf0, gf1⟩ := two_cells hg2'
  obtain ⟨⟨r0, r1⟩, rf0, rf1⟩ := two_cells hh2'
  have k1 : (l.length : Int) ≤ (c2 : Int) := by omega
  have k2 : (0 : Int) ≤ (l.length : Int) := by omega
  have HO := Lib.hid hown2
  clear hown2
  go_region
  go_wp2_with fail
  refine bodyPost_ret (v := .agg #[.int .i64 N, .slice (some ⟨g2, 0, none⟩) l.length c2]) (by simp [results, Tryz.results9, go_sem, r0, r1]) rfl ⟨g2, c2, rfl, by omega, hm2, ?_, ((bw.setCell (by show _ ≤ w.heap.size + 1; omega) _).setCell (by show _ ≤ w.heap.size + 1; omega) _).drew⟩
  exact own_base (ownsRow_setCell_below (ownsRow_setCell_below HO.out (show w.heap.size + 1 < W.heap.size by omega) _) (show w.heap.size + 1 < W.heap.size by omega) _) (by omega)
set_option maxHeartbeats 1600000 in
theorem lend_none (N : Int) (w : World) :
    Calls Tryz.prog 9 #[.agg #[.int .i64 N, .slice none 0 0]] w fun e w' => Lent w w' e N [] := by
  obtain ⟨i0, hi, hz0, hz1, hz2⟩ := info_parts info53
  have hb0 : Below w.heap.size w ((w.alloc (.cells #[.int .i64 N, .slice none 0 0] 24)).alloc (.cells #[.int .i64 0, .slice none 0 0] 24)) := ((Below.refl _ _).alloc (Nat.le_refl _) _).alloc (by simp) _
  have hg : ((w.alloc (.cells #[.int .i64 N, .slice none 0 0] 24)).alloc (.cells #[.int .i64 0, .slice none 0 0] 24)).heap[w.heap.size]? = some (.cells #[.int .i64 N, .slice none 0 0] 24) := (Below.heap_alloc _ _ _ (by simp)).trans (heap_top w _)
  have h1 := heap_top (w.alloc (.cells #[.int .i64 N, .slice none 0 0] 24)) (.cells #[.int .i64 0, .slice none 0 0] 24)
  rw [show (w.alloc (.cells #[.int .i64 N, .slice none 0 0] 24)).heap.size = w.heap.size + 1 by simp] at h1
  generalize hW : (w.alloc (.cells #[.int .i64 N, .slice none 0 0] 24)).alloc (.cells #[.int .i64 0, .slice none 0 0] 24) = W at *
  obtain ⟨⟨g0, g1⟩, gf0, gf1⟩ := two_cells hg
  have hown0 := World.ownsRow_lit (base := W.heap.size) (e := 50) (size := 3) W #[] 0 (Nat.le_refl _) (by decide) rfl
  have s0 := lt_of_block hg
  have s1 := lt_of_block h1
  have HM : Hid ([] ++ cellsA [A.mark] = cellsA ([] ++ [A.mark])) := rfl
  have hmk := mark_news (W.alloc (.cells #[] 50))
  rw [show (W.alloc (.cells #[] 50)).heap.size = W.heap.size + 1 by simp] at hmk
  have HMK := Lib.hid hmk
  clear hmk
  go_enter Tryz.func9, Tryz.ntmps9
  go_wp2_with (first
    | (at_builtin; refine wpList_append_own_none rfl (.tmp 4) (.tmp 6) 22 rfl W.heap.size 50 i0 3 Tryz.underlying22 hi (.slice (some ⟨W.heap.size, 0, none⟩) 0 0) 0 [] rfl hown0 rfl ?_)
    | (at_builtin; refine wpList_append_own _ rfl (.tmp 8) (.tmp 10) 22 rfl W.heap.size 50 i0 _ 3 24 Tryz.underlying22 hi hz0 hz1 hz2 rfl (by decide) (.slice (some ⟨W.heap.size, 0, none⟩) 0 0) 0 [] rfl (hown0.alloc _) ⟨W.heap.size + 1, 0, none⟩ 1 1 (cellsA [A.mark]) rfl rfl HMK.out (cellsA_one _) (by decide) (by decide) (by simp; omega) ?_; intro v2 w2 hown2 hgrow2 hnil2; obtain ⟨g2, c2, hv2, hg2, hc2, hs2, hm2⟩ := own_shape hown2 (fun e => by have := hnil2.1 e; simp at this); rw [hv2] at hown2 ⊢; clear hnil2 hv2; simp only [Nat.zero_add] at hown2 hc2 ⊢))
  have b2 : Below W.heap.size W w2 := (((Below.refl W.heap.size W).alloc (Nat.le_refl _) _).alloc (by simp) _).grown hgrow2 (by simp; omega) (by intro k hk; cases hk; exact Nat.le_refl _)
  have hg2' := (b2.block _ s0).trans hg
  have hh2' := (b2.block _ s1).trans h1
  have bw := bthen hb0 b2 hb0.size
  clear hgrow2 g0 g1 gf0 gf1 hown0 hW b2 HMK
  obtain ⟨⟨g0, g1⟩, gf0, gf1⟩ := two_cells hg2'
  obtain ⟨⟨r0, r1⟩, rf0, rf1⟩ := two_cells hh2'
  have k1 : (0 : Int) ≤ (c2 : Int) := by omega
  have HO := Lib.hid hown2
  clear hown2
  go_region
  go_wp2_with fail
  refine bodyPost_ret (v := .agg #[.int .i64 N, .slice (some ⟨g2, 0, none⟩) 0 c2]) (by simp [results, Tryz.results9, go_sem, r0, r1]) rfl ⟨g2, c2, rfl, by show 0 < c2; omega, hm2, ?_, ((bw.setCell (by show _ ≤ w.heap.size + 1; omega) _).setCell (by show _ ≤ w.heap.size + 1; omega) _).drew⟩
  exact own_base (ownsRow_setCell_below (ownsRow_setCell_below HO.out (show w.heap.size + 1 < W.heap.size by omega) _) (show w.heap.size + 1 < W.heap.size by omega) _) (by omega)
theorem lend_any (N : Int) (a : Option Addr) (l : List A) (cap : Nat) (w : World) (hlen : l.length * 24 ≤ 140737488351232) (hn : a = none → l = [] ∧ cap = 0) (hr : Arcs w a l) :
    Calls Tryz.prog 9 #[.agg #[.int .i64 N, .slice a l.length cap]] w fun e w' => Lent w w' e N l := by
  match a, hn, hr with
  | none, hn, _ =>
    obtain ⟨e1, e2⟩ := hn rfl
    subst e1 e2
    exact lend_none N w
  | some ad, _, hr => exact lend_some N ad l cap w hlen hr
end Go.Proofs.YtpgadcacimjlaaaGreat
namespace Go.Proofs.YtpgadcacimjlaaaGreat
open Go.RowKit
theorem getD_append_mark (l : List A) : (l ++ [A.mark]).getD l.length A.zero = A.mark := by simp [List.getD]
theorem getD_append_lt (l : List A) (j : Nat) (h : j < l.length) : (l ++ [A.mark]).getD j A.zero = l.getD j A.zero := by simp [List.getD, List.getElem?_append_left h]
/-- A graph that is lent still lies as it was, with its mark. -/
def Still (w : World) (g : Nat) (l : List A) : Prop := ∀ j, j < l.length + 1 → ((l ++ [A.mark]).getD j A.zero).at w g (j * 3)
theorem still_own {w : World} {B g c : Nat} {l : List A} (h : w.ownsRow B 50 3 (.slice (some ⟨g, 0, none⟩) (l.length + 1) c) (l.length + 1) (cellsA (l ++ [A.mark]))) : Still w g l := by
  intro j hj
  obtain ⟨h1, h2, h3⟩ := cellsA_at (l ++ [A.mark]) j (by simpa using hj)
  exact ⟨(World.ownsRow.cellAt h (j * 3) (by omega)).trans h1, (World.ownsRow.cellAt h (j * 3 + 1) (by omega)).trans h2, (World.ownsRow.cellAt h (j * 3 + 2) (by omega)).trans h3⟩
theorem Still.lt {w : World} {g : Nat} {l : List A} (h : Still w g l) : g < w.heap.size := World.block_lt_of_cell? w _ (h 0 (by omega)).1
theorem Still.on {w w' : World} {g : Nat} {l : List A} (h : Still w g l) (hb : Below w.heap.size w w') : Still w' g l := fun j hj => (h j hj).on hb
theorem Still.arcs {w : World} {g : Nat} {l : List A} (h : Still w g l) : Arcs w (some ⟨g, 0, none⟩) l :=
  Or.inr ⟨g, 0, rfl, h.lt, fun j hj => by rw [Nat.zero_add, ← getD_append_lt l j hj]; exact h j (by omega)⟩
set_option maxHeartbeats 1600000 in
theorem kept_any (N : Int) (g c : Nat) (a : Option Addr) (l : List A) (cap : Nat) (w : World) (hlen : l.length * 24 ≤ 140737488351232) (hc : l.length < c) (hcm : c ≤ 9223372036854775807) (hs : Still w g l) (hr : Arcs w a l) :
    Calls Tryz.prog 16 #[.agg #[.int .i64 N, .slice (some ⟨g, 0, none⟩) l.length c], .agg #[.int .i64 N, .slice a l.length cap]] w fun e w' => e = .returned (.bool true) ∧ Below w.heap.size w w' := by
  have hl : l.length ≤ 9223372036854775807 := by omega
  have hb0 : Below w.heap.size w ((w.alloc (.cells #[.int .i64 N, .slice (some ⟨g, 0, none⟩) l.length c] 24)).alloc (.cells #[.int .i64 N, .slice a l.length cap] 24)) := ((Below.refl _ _).alloc (Nat.le_refl _) _).alloc (by simp) _
  have hg : ((w.alloc (.cells #[.int .i64 N, .slice (some ⟨g, 0, none⟩) l.length c] 24)).alloc (.cells #[.int .i64 N, .slice a l.length cap] 24)).heap[w.heap.size]? = some (.cells #[.int .i64 N, .slice (some ⟨g, 0, none⟩) l.length c] 24) := (Below.heap_alloc _ _ _ (by simp)).trans (heap_top w _)
  have h1 := heap_top (w.alloc (.cells #[.int .i64 N, .slice (some ⟨g, 0, none⟩) l.length c] 24)) (.cells #[.int .i64 N, .slice a l.length cap] 24)
  rw [show (w.alloc (.cells #[.int .i64 N, .slice (some ⟨g, 0, none⟩) l.length c] 24)).heap.size = w.heap.size + 1 by simp] at h1
  generalize hW : (w.alloc (.cells #[.int .i64 N, .slice (some ⟨g, 0, none⟩) l.length c] 24)).alloc (.cells #[.int .i64 N, .slice a l.length cap] 24) = W at *
  have hsW := hs.on hb0
  have hrW := hr.on hb0
  obtain ⟨⟨g0, g1⟩, _, _⟩ := two_cells hg
  obtain ⟨⟨k0, k1⟩, _, _⟩ := two_cells h1
  have m0 := (hsW l.length (by omega)).1
  rw [getD_append_mark] at m0
  have m0' : W.cell? ⟨g, l.length * 3, none⟩ = some (.int .i64 (-77)) := m0
  have hgl := hsW.lt
  have i1 : (l.length : Int) + 1 ≤ (c : Int) := by omega
  have i2 : l.length + 1 ≤ c := by omega
  have i3 : (0 : Int) ≤ (l.length : Int) + 1 := by omega
  have i4 : IntKind.i64.wrap ((l.length : Int) + 1) = (l.length : Int) + 1 := by rw [IntKind.wrap_i64]; omega
  have i5 : (l.length : Int) < (l.length : Int) + 1 := by omega
  have i6 : ((l.length : Int) + 1).toNat = l.length + 1 := by omega
  have HS := Lib.hid (sameGraph_any N (some ⟨g, 0, none⟩) a c cap l W.drew hl (show Arcs W.drew _ l from hsW.arcs.on (below_drewN _ W 1)) (show Arcs W.drew a l from hrW.on (below_drewN _ W 1)))
  have HG := Lib.hid hg
  have HH := Lib.hid h1
  have HM := Lib.hid m0'
  clear hg h1 hs hr hsW hrW m0
  go_enter Tryz.func16, Tryz.ntmps16
  go_wp2_with fail
  go_region_held3 (fun w' => w'.cell? ⟨w.heap.size, 0, none⟩ = some (.int .i64 N) ∧ w'.cell? ⟨w.heap.size, 1, none⟩ = some (.slice (some ⟨g, 0, none⟩) l.length c) ∧ w'.cell? ⟨w.heap.size + 1, 0, none⟩ = some (.int .i64 N) ∧ w'.cell? ⟨w.heap.size + 1, 1, none⟩ = some (.slice a l.length cap) ∧ w'.cell? ⟨g, l.length * 3, none⟩ = some (.int .i64 (-77))) (go_keep) ((go_at_call 36; refine HS.out.mono ?_; rintro e w5 ⟨rfl, hb5⟩; obtain ⟨⟨p0, p1⟩, _, _⟩ := two_cells ((hb5.block _ (lt_of_block HG.out)).trans HG.out); obtain ⟨⟨q0, q1⟩, _, _⟩ := two_cells ((hb5.block _ (lt_of_block HH.out)).trans HH.out); have q2 := (hb5.cell (p := ⟨g, l.length * 3, none⟩) hgl).trans HM.out))
  go_wp2_with fail
  go_ret
  exact ⟨rfl, hb0.trans ((below_drewN _ W 1).trans (hb5.mono (by have := hb0.size; show w.heap.size ≤ W.heap.size; omega)))⟩
theorem own_wide {w : World} {B : Nat} {e : TypeId} {size g n c : Nat} {xs : List Value} (h : w.ownsRow B e size (.slice (some ⟨g, 0, none⟩) n c) n xs) : ∃ ys, w.ownsRow B e size (.slice (some ⟨g, 0, none⟩) c c) c ys := by
  rcases h.2 with ⟨h', _⟩ | ⟨g', c', cur, h', hb, hg, hnc, hm, hcs, _⟩
  · cases h'
  · injection h' with e1 e2 e3
    injection e1 with e1
    injection e1 with e1
    subst e1 e3
    refine ⟨cur.toList.take (c * size), ?_, Or.inr ⟨g, c, cur, rfl, hb, hg, Nat.le_refl _, hm, hcs, rfl⟩⟩
    rw [List.length_take, Array.length_toList, hcs]; omega
set_option maxHeartbeats 400000 in
theorem spoilInts_none (x : Int) (w : World) : Calls Tryz.prog 25 #[.slice none 0 0, .int .i64 x] w fun e w' => e = .returned (.tuple #[]) ∧ w' = w := by
  go_enter Tryz.func25, Tryz.ntmps25
  go_wp2_with fail
  refine wp_loop_rounds 1 ?_
  rw [rounds_succ]
  go_wp2_with fail
  go_end0
  exact ⟨rfl, rfl⟩
set_option maxHeartbeats 400000 in
theorem spoilInts_some (g n m B : Nat) (x : Int) (xs : List Value) (w : World) (hn : n ≤ 9223372036854775807) (hown : w.ownsRow B 3 1 (.slice (some ⟨g, 0, none⟩) n n) n xs) :
    Calls Tryz.prog 25 #[.slice (some ⟨g, 0, none⟩) m n, .int .i64 x] w fun e w' => e = .returned (.tuple #[]) ∧ Below B w w' := by
  have hgB : B ≤ g := (hown.lt g rfl).1
  go_enter Tryz.func25, Tryz.ntmps25
  go_wp2_with fail
  go_loopw [4] (fun i wr => ∃ (k : Nat) (xs : List Value), k ≤ n ∧ i = .int .i64 k ∧ wr.ownsRow B 3 1 (.slice (some ⟨g, 0, none⟩) n n) n xs ∧ Below B w wr) (fun i _ => n - (intOf i).toNat)
  case atStart => exact ⟨0, xs, Nat.zero_le _, rfl, hown, Below.refl _ _⟩
  case round =>
    obtain ⟨k, ys, hk, rfl, ho, hbel⟩ := hrel
    by_cases hlt : k < n
    · have hyl : k < ys.length := by have := ho.1; omega
      have c2 : wr.cell? ⟨g, k, none⟩ = some ys[k] := (ho.cellAt k (by omega)).trans (List.getElem?_eq_getElem hyl)
      have f2 : wr.frozen? ⟨g, k, none⟩ = false := ho.frozenAt k
      generalize ys[k] = y at c2
      have HS := Lib.hid (ho.stored k (.int .i64 x))
      go_wp2_with fail
      exact ⟨⟨k + 1, _, by omega, by go_num, HS.out.1, hbel.setCell hgB _⟩, by simp [intOf]; omega⟩
    · go_wp2_with fail
      go_end0
      exact ⟨rfl, hbel⟩
theorem spoilInts_any (a : Option Addr) (c B : Nat) (x : Int) (xs : List Int) (w : World) (hown : w.ownsRow B 3 1 (.slice a xs.length c) xs.length (cellsI xs)) :
    Calls Tryz.prog 25 #[.slice a xs.length c, .int .i64 x] w fun e w' => e = .returned (.tuple #[]) ∧ Below B w w' := by
  rcases hown.2 with ⟨h', h0⟩ | ⟨g, c', cur, h', hb, hg, hnc, hm, _⟩
  · injection h' with e1 e2 e3
    subst e1 e3
    rw [h0]
    refine (spoilInts_none x w).mono ?_
    rintro e w' ⟨rfl, rfl⟩
    exact ⟨rfl, Below.refl _ _⟩
  · injection h' with e1 e2 e3
    subst e1 e3
    obtain ⟨ys, hy⟩ := own_wide hown
    exact spoilInts_some g c xs.length B x ys w (by unfold maxLen at hm; omega) hy
end Go.Proofs.YtpgadcacimjlaaaGreat
namespace Go.Proofs.YtpgadcacimjlaaaGreat
open Go.RowKit
theorem own_shape_set {w : World} {base : Nat} {e : TypeId} {size : Nat} {v : Value} {n : Nat} {xs : List Value} (h : w.ownsRow base e size v n xs) (g i : Nat) (u : Value) : ∃ ys, (w.setCell ⟨g, i, none⟩ u).ownsRow base e size v n ys := by
  rcases h.2 with ⟨rfl, rfl⟩ | ⟨g', c, cur, rfl, h2, h3, h4, h5, h6, h7⟩
  · exact ⟨[], World.ownsRow_nil _ _ _ _⟩
  · by_cases hg : g' = g
    · subst hg
      refine ⟨((cur.setIfInBounds i u).toList.take (n * size)), ?_, Or.inr ⟨g', c, cur.setIfInBounds i u, rfl, h2, heap_setCell_same w g' i cur e u h3, h4, h5, by simpa using h6, rfl⟩⟩
      have := h.1
      rw [List.length_take, Array.length_toList, Array.size_setIfInBounds, h6]
      have : n * size ≤ c * size := Nat.mul_le_mul_right _ h4
      omega
    · exact ⟨xs, h.1, Or.inr ⟨g', c, cur, rfl, h2, (heap_setCell_other w _ g' _ hg).trans h3, h4, h5, h6, h7⟩⟩
/-- Rows stay rows. -/
def Rowed (w w' : World) : Prop := ∀ (base : Nat) (e : TypeId) (size : Nat) (v : Value) (n : Nat) (xs : List Value), w.ownsRow base e size v n xs → ∃ ys, w'.ownsRow base e size v n ys
set_option maxHeartbeats 400000 in
theorem spoilInts_row (g n m B : Nat) (x : Int) (xs : List Value) (w : World) (hn : n ≤ 9223372036854775807) (hown : w.ownsRow B 3 1 (.slice (some ⟨g, 0, none⟩) n n) n xs) :
    Calls Tryz.prog 25 #[.slice (some ⟨g, 0, none⟩) m n, .int .i64 x] w fun e w' => e = .returned (.tuple #[]) ∧ Below B w w' ∧ Rowed w w' := by
  have hgB : B ≤ g := (hown.lt g rfl).1
  go_enter Tryz.func25, Tryz.ntmps25
  go_wp2_with fail
  go_loopw [4] (fun i wr => ∃ (k : Nat) (xs : List Value), k ≤ n ∧ i = .int .i64 k ∧ wr.ownsRow B 3 1 (.slice (some ⟨g, 0, none⟩) n n) n xs ∧ Below B w wr ∧ Rowed w wr) (fun i _ => n - (intOf i).toNat)
  case atStart => exact ⟨0, xs, Nat.zero_le _, rfl, hown, Below.refl _ _, fun _ _ _ _ _ xs h => ⟨xs, h⟩⟩
  case round =>
    obtain ⟨k, ys, hk, rfl, ho, hbel, hrow⟩ := hrel
    have HR := Lib.hid hrow
    clear hrow
    by_cases hlt : k < n
    · have hyl : k < ys.length := by have := ho.1; omega
      have c2 : wr.cell? ⟨g, k, none⟩ = some ys[k] := (ho.cellAt k (by omega)).trans (List.getElem?_eq_getElem hyl)
      have f2 : wr.frozen? ⟨g, k, none⟩ = false := ho.frozenAt k
      generalize ys[k] = y at c2
      have HS := Lib.hid (ho.stored k (.int .i64 x))
      go_wp2_with fail
      exact ⟨⟨k + 1, _, by omega, by go_num, HS.out.1, hbel.setCell hgB _, fun base e size v n xs h => by obtain ⟨zs, hz⟩ := HR.out base e size v n xs h; exact own_shape_set hz g k _⟩, by simp [intOf]; omega⟩
    · go_wp2_with fail
      go_end0
      exact ⟨rfl, hbel, HR.out⟩
theorem spoilInts_gen (a : Option Addr) (n c B : Nat) (x : Int) (xs : List Value) (w : World) (hown : w.ownsRow B 3 1 (.slice a n c) n xs) :
    Calls Tryz.prog 25 #[.slice a n c, .int .i64 x] w fun e w' => e = .returned (.tuple #[]) ∧ Below B w w' ∧ Rowed w w' := by
  rcases hown.2 with ⟨h', h0⟩ | ⟨g, c', cur, h', hb, hg, hnc, hm, _⟩
  · injection h' with e1 e2 e3
    subst e1 e3
    rw [h0]
    refine (spoilInts_none x w).mono ?_
    rintro e w' ⟨rfl, rfl⟩
    exact ⟨rfl, Below.refl _ _, fun _ _ _ _ _ xs h => ⟨xs, h⟩⟩
  · injection h' with e1 e2 e3
    subst e1 e3
    obtain ⟨ys, hy⟩ := own_wide hown
    exact spoilInts_row g c n B x ys w (by unfold maxLen at hm; omega) hy
end Go.Proofs.YtpgadcacimjlaaaGreat
