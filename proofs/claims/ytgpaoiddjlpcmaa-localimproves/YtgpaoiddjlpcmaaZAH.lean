/-
  Contract of graph.Parts. Arcs and graphs as they lie in memory; contracts of graph.isVertex and graph.Check. Contracts of the method add of a list, and of what goes through arcs and tells it members. Contracts of graph.around, and of graph.Out and graph.In. Plain mathematics of leaders and labels: no program in it. Contracts of graph.leader, graph.join, graph.tidy and graph.Parts.
-/
import Derived.Test.YtgpaoiddjlpcmaaChecked
import Derived.WalkKit
import Derived.WalkMore
import Derived.BigCall
import Derived.Below
import Derived.Lib.Hide
import Derived.Laws.AppendOwn
import Derived.Laws.OwnMore
import Derived.Deep.QuietTactic
import Derived.BigQuiet
namespace Go.Proofs.Ytgpaoiddjlpcmaa.T3
open Go.RowKit
/-- An arc. -/
structure A where
  f : Int
  t : Int
  w : Int
deriving DecidableEq
instance : Inhabited A := ⟨⟨0, 0, 0⟩⟩
def A.zero : A := ⟨0, 0, 0⟩
/-- Its three cells lie at an address. -/
def A.at (x : A) (w : World) (b o : Nat) : Prop :=
  w.cell? ⟨b, o, none⟩ = some (.int .i64 x.f) ∧ w.cell? ⟨b, o + 1, none⟩ = some (.int .i64 x.t) ∧ w.cell? ⟨b, o + 2, none⟩ = some (.int .u32 x.w)
/-- The arcs of a slice lie so in memory. -/
def Arcs (w : World) (a : Option Addr) (l : List A) : Prop :=
  l = [] ∨ ∃ b o, a = some ⟨b, o, none⟩ ∧ b < w.heap.size ∧ ∀ j, j < l.length → (l.getD j A.zero).at w b (o + j * 3)
theorem A.at.on {x : A} {w w' : World} {b o : Nat} (h : x.at w b o) (hb : Below w.heap.size w w') : x.at w' b o := by
  have hl := World.block_lt_of_cell? w _ h.1
  exact ⟨(hb.cell hl).trans h.1, (hb.cell (p := ⟨b, o + 1, none⟩) hl).trans h.2.1, (hb.cell (p := ⟨b, o + 2, none⟩) hl).trans h.2.2⟩
theorem Arcs.on {w w' : World} {a : Option Addr} {l : List A} (h : Arcs w a l) (hb : Below w.heap.size w w') : Arcs w' a l := by
  rcases h with h | ⟨b, o, rfl, hl, hc⟩
  · exact Or.inl h
  · exact Or.inr ⟨b, o, rfl, Nat.lt_of_lt_of_le hl hb.size, fun j hj => (hc j hj).on hb⟩
/-- A vertex of a graph of N. -/
def okV (N v : Int) : Bool := decide (0 ≤ v ∧ v < N)
theorem okV_t {N v : Int} (h : okV N v = true) : 0 ≤ v ∧ v < N := by simpa [okV] using h
def okA (N : Int) (x : A) : Bool := okV N x.f && okV N x.t
theorem okA_t {N : Int} {x : A} (h : okA N x = true) : okV N x.f = true ∧ okV N x.t = true := by simpa [okA] using h
/-- What Check tells. -/
def chkE (N : Int) (l : List A) : Int := if N < 1 ∨ 1024 < N then 1 else if 8192 < l.length then 2 else if l.all (okA N) then 0 else 30
def chkAt (N : Int) (l : List A) : Int := if N < 1 ∨ 1024 < N then 0 else if 8192 < l.length then 0 else if l.all (okA N) then 0 else (l.findIdx (fun x => !okA N x) : Nat)
theorem ret_bool {a b : Bool} (h : a = b) : Ending.returned (.bool a) = .returned (.bool b) := by rw [h]
set_option maxRecDepth 100000 in
set_option maxHeartbeats 400000 in
theorem vert_any (N v : Int) (a : Option Addr) (n cap : Nat) (w : World) :
    Calls Try.prog 50 #[.agg #[.int .i64 N, .slice a n cap], .int .i64 v] w fun e w' => e = .returned (.bool (okV N v)) ∧ Below w.heap.size w w' := by
  by_cases h1 : 0 ≤ v
  · by_cases h2 : v < N
    · rw [show okV N v = true by simp [okV, h1, h2]]
      go_enter Try.func50, Try.ntmps50
      go_wp2_with fail
      go_ret
      exact ⟨rfl, (Below.refl _ _).alloc (Nat.le_refl _) _⟩
    · rw [show okV N v = false by simp [okV, h2]]
      go_enter Try.func50, Try.ntmps50
      go_wp2_with fail
      go_ret
      exact ⟨rfl, (Below.refl _ _).alloc (Nat.le_refl _) _⟩
  · rw [show okV N v = false by simp [okV, h1]]
    go_enter Try.func50, Try.ntmps50
    go_wp2_with fail
    go_ret
    exact ⟨rfl, (Below.refl _ _).alloc (Nat.le_refl _) _⟩
theorem all_take {l : List A} {p : A → Bool} {k : Nat} (hk : k < l.length) (h : (l.take k).all p = true) (hp : p (l.getD k A.zero) = true) : (l.take (k + 1)).all p = true := by
  rw [List.take_succ_eq_append_getElem hk, List.all_append, h]
  have e : l.getD k A.zero = l[k] := by simp [List.getD, List.getElem?_eq_getElem hk]
  rw [e] at hp
  simp [hp]
theorem find_at {l : List A} {p : A → Bool} {k : Nat} (hk : k < l.length) (h : (l.take k).all p = true) (hp : p (l.getD k A.zero) = false) : l.all p = false ∧ l.findIdx (fun x => !p x) = k := by
  have e : l.getD k A.zero = l[k] := by simp [List.getD, List.getElem?_eq_getElem hk]
  rw [e] at hp
  constructor
  · rw [List.all_eq_false]
    exact ⟨l[k], List.getElem_mem hk, by simp [hp]⟩
  · rw [List.findIdx_eq hk]
    refine ⟨by simp [hp], fun j hj => ?_⟩
    have h2 := List.all_eq_true.1 h (l[j]) (by rw [List.mem_take_iff_getElem]; exact ⟨j, by omega, rfl⟩)
    simp [h2]
theorem heap_top (w : World) (o : Obj) : (w.alloc o).heap[w.heap.size]? = some o := by show (w.heap.push o)[w.heap.size]? = _; simp
/-- A block from before, and the newest one, behind a call. -/
theorem keep1 {w w2 : World} {o o' : Obj} {g : Nat} (hg : w.heap[g]? = some o') (hb : Below (w.alloc o).heap.size (w.alloc o) w2) : w2.heap[g]? = some o' ∧ w2.heap[w.heap.size]? = some o := by
  have hl := lt_of_block hg
  exact ⟨(hb.block g (by simp; omega)).trans ((Below.heap_alloc w o g hl).trans hg), (hb.block w.heap.size (by simp)).trans (heap_top w o)⟩
theorem bthen {B : Nat} {w w1 w2 : World} (h : Below B w w1) (k : Below w1.heap.size w1 w2) (hB : B ≤ w1.heap.size) : Below B w w2 := h.trans (k.mono hB)
theorem two_cells {w : World} {g : Nat} {a b : Value} {t : TypeId} (h : w.heap[g]? = some (.cells #[a, b] t)) : (w.cell? ⟨g, 0, none⟩ = some a ∧ w.cell? ⟨g, 1, none⟩ = some b) ∧ (w.frozen? ⟨g, 0, none⟩ = false ∧ w.frozen? ⟨g, 1, none⟩ = false) := by
  simp [World.cell?, World.frozen?, h]
theorem three_cells {w : World} {g : Nat} {a b c : Value} {t : TypeId} (h : w.heap[g]? = some (.cells #[a, b, c] t)) : w.cell? ⟨g, 0, none⟩ = some a ∧ w.cell? ⟨g, 1, none⟩ = some b ∧ w.cell? ⟨g, 2, none⟩ = some c := by
  simp [World.cell?, h]
theorem named {α : Sort _} (x : α) : ∃ y, Hid (x = y) := ⟨x, rfl⟩
theorem chk_range {N : Int} {l : List A} (h : N < 1 ∨ 1024 < N) : chkE N l = 1 ∧ chkAt N l = 0 := by
  unfold chkE chkAt; rw [if_pos h, if_pos h]; exact ⟨rfl, rfl⟩
theorem chk_long {N : Int} {l : List A} (h : ¬ (N < 1 ∨ 1024 < N)) (h3 : 8192 < l.length) : chkE N l = 2 ∧ chkAt N l = 0 := by
  unfold chkE chkAt; rw [if_neg h, if_neg h, if_pos h3, if_pos h3]; exact ⟨rfl, rfl⟩
theorem chk_ok {N : Int} {l : List A} (h : ¬ (N < 1 ∨ 1024 < N)) (h3 : ¬ 8192 < l.length) (h4 : l.all (okA N) = true) : chkE N l = 0 ∧ chkAt N l = 0 := by
  unfold chkE chkAt; rw [if_neg h, if_neg h, if_neg h3, if_neg h3, if_pos h4, if_pos h4]; exact ⟨rfl, rfl⟩
theorem chk_bad {N : Int} {l : List A} {k : Nat} (h : ¬ (N < 1 ∨ 1024 < N)) (h3 : ¬ 8192 < l.length) (h4 : l.all (okA N) = false ∧ l.findIdx (fun x => !okA N x) = k) : chkE N l = 30 ∧ chkAt N l = k := by
  unfold chkE chkAt; rw [if_neg h, if_neg h, if_neg h3, if_neg h3, h4.1, h4.2]; exact ⟨rfl, rfl⟩
/-- What a graph that Check lets by is like. -/
theorem chk_zero {N : Int} {l : List A} (h : chkE N l = 0) : 1 ≤ N ∧ N ≤ 1024 ∧ l.length ≤ 8192 ∧ ∀ x ∈ l, (0 ≤ x.f ∧ x.f < N) ∧ (0 ≤ x.t ∧ x.t < N) := by
  unfold chkE at h
  split at h
  · cases h
  split at h
  · cases h
  split at h
  · rename_i h1 h2 h3
    refine ⟨by omega, by omega, by omega, fun x hx => ?_⟩
    obtain ⟨h5, h6⟩ := okA_t (List.all_eq_true.1 h3 x hx)
    exact ⟨okV_t h5, okV_t h6⟩
  · cases h
set_option maxRecDepth 100000 in
set_option maxHeartbeats 800000 in
theorem check_any (N : Int) (a : Option Addr) (l : List A) (cap : Nat) (w : World) (hl : l.length ≤ 9223372036854775807) (hr : Arcs w a l) :
    Calls Try.prog 38 #[.agg #[.int .i64 N, .slice a l.length cap]] w fun e w' => e = .returned (.tuple #[.int .i64 (chkAt N l), .int .i64 (chkE N l)]) ∧ Below w.heap.size w w' := by
  by_cases h1 : N < 1
  · rw [(chk_range (l := l) (Or.inl h1)).1, (chk_range (l := l) (Or.inl h1)).2]
    go_enter Try.func38, Try.ntmps38
    go_wp2_with fail
    go_ret2
    exact ⟨rfl, (Below.refl _ _).alloc (Nat.le_refl _) _⟩
  by_cases h2 : 1024 < N
  · rw [(chk_range (l := l) (Or.inr h2)).1, (chk_range (l := l) (Or.inr h2)).2]
    go_enter Try.func38, Try.ntmps38
    go_wp2_with fail
    go_ret2
    exact ⟨rfl, (Below.refl _ _).alloc (Nat.le_refl _) _⟩
  have hN : ¬ (N < 1 ∨ 1024 < N) := by omega
  by_cases h3 : 8192 < l.length
  · have h3' : (8192 : Int) < l.length := by omega
    rw [(chk_long hN h3).1, (chk_long hN h3).2]
    clear hN
    go_enter Try.func38, Try.ntmps38
    go_wp2_with fail
    go_ret2
    exact ⟨rfl, (Below.refl _ _).alloc (Nat.le_refl _) _⟩
  have h3' : ¬ (8192 : Int) < l.length := by omega
  have HN := Lib.hid hN
  clear hN
  obtain ⟨E, HE⟩ := named (chkE N l)
  obtain ⟨T, HAT⟩ := named (chkAt N l)
  rw [HE.out, HAT.out]
  have hb0 : Below w.heap.size w (w.alloc (.cells #[.int .i64 N, .slice a l.length cap] 24)) := (Below.refl _ _).alloc (Nat.le_refl _) _
  obtain ⟨b, o, hab⟩ : ∃ b o, 0 < l.length → a = some ⟨b, o, none⟩ ∧ b < w.heap.size ∧ ∀ j, j < l.length → (l.getD j A.zero).at w b (o + j * 3) := by
    rcases hr with rfl | ⟨b, o, h⟩
    · exact ⟨0, 0, fun h => absurd h (by simp)⟩
    · exact ⟨b, o, fun _ => h⟩
  go_enter Try.func38, Try.ntmps38
  go_wp2_with fail
  go_loopw [21] (fun i wr => ∃ k : Nat, k ≤ l.length ∧ i = .int .i64 k ∧ Hid ((l.take k).all (okA N) = true) ∧ wr.heap[w.heap.size]? = some (.cells #[.int .i64 N, .slice a l.length cap] 24) ∧ Below w.heap.size w wr) (fun i _ => l.length - (intOf i).toNat)
  case atStart => exact ⟨0, Nat.zero_le _, rfl, by show _ = _; simp, heap_top w _, hb0⟩
  case round =>
    obtain ⟨k, hk, rfl, hall, hg, hb⟩ := hrel
    obtain ⟨⟨g0, g1⟩, gf0, gf1⟩ := two_cells hg
    have hsz : w.heap.size < wr.heap.size := lt_of_block hg
    by_cases hlt : k < l.length
    · obtain ⟨rfl, hbl, hat⟩ := hab (by omega)
      obtain ⟨c0, c1, c2⟩ := (hat k hlt).on hb
      have HT := Lib.hid (fun (h : okA N (l.getD k A.zero) = true) => all_take hlt hall.out h)
      have HF := Lib.hid (fun (h : okA N (l.getD k A.zero) = false) => find_at hlt hall.out h)
      generalize l.getD k A.zero = x at *
      go_wp2_with fail
      refine (vert_any N x.f _ _ _ _).mono ?_
      rintro e w2 ⟨rfl, hb2⟩
      obtain ⟨hg2, hx2⟩ := keep1 hg hb2
      have s2 : wr.heap.size < w2.heap.size := lt_of_block hx2
      have b2 : Below w.heap.size w w2 := bthen (hb.alloc (by omega) _) hb2 (by simp; omega)
      clear hb2 hg g0 g1 gf0 gf1 c0 c1 c2 hb
      obtain ⟨⟨g0, g1⟩, gf0, gf1⟩ := two_cells hg2
      obtain ⟨c0, c1, c2⟩ := three_cells hx2
      by_cases h5 : okV N x.f = true
      · rw [h5]
        go_wp2_with fail
        refine (vert_any N x.t _ _ _ _).mono ?_
        rintro e w3 ⟨rfl, hb3⟩
        have hg3 := (hb3.block _ (lt_of_block hg2)).trans hg2
        have b3 : Below w.heap.size w w3 := bthen b2 hb3 (by omega)
        clear hb3 hg2 g0 g1 gf0 gf1 c0 c1 c2 b2 hx2
        by_cases h6 : okV N x.t = true
        · rw [h6]
          have hA : okA N x = true := by simp [okA, h5, h6]
          go_wp2_with fail
          exact ⟨⟨k + 1, by omega, by go_num, HT.out hA, hg3, b3⟩, by simp [intOf]; omega⟩
        · have h6' : okV N x.t = false := by simpa using h6
          rw [h6']
          have hE := chk_bad HN.out h3 (HF.out (by simp [okA, h6']))
          rw [HE.out, HAT.out] at hE
          obtain ⟨rfl, rfl⟩ := hE
          go_wp2_with fail
          go_ret2
          exact ⟨rfl, b3⟩
      · have h5' : okV N x.f = false := by simpa using h5
        rw [h5']
        have hE := chk_bad HN.out h3 (HF.out (by simp [okA, h5']))
        rw [HE.out, HAT.out] at hE
        obtain ⟨rfl, rfl⟩ := hE
        go_wp2_with fail
        go_ret2
        exact ⟨rfl, b2⟩
    · have hE := chk_ok HN.out h3 (by have := hall.out; rw [List.take_of_length_le (by omega)] at this; exact this)
      rw [HE.out, HAT.out] at hE
      obtain ⟨rfl, rfl⟩ := hE
      go_wp2_with fail
      go_ret2
      exact ⟨rfl, hb⟩
end Go.Proofs.Ytgpaoiddjlpcmaa.T3
namespace Go.Proofs.Ytgpaoiddjlpcmaa.T3
open Go.RowKit
theorem info3 : (Try.prog.info? 3).map (fun i => (i.zero, i.size, i.bytes)) = some (some (.int .i64 0), 1, 8) := by kernel_rfl
/-- Numbers as cells. -/
def cellsI (l : List Int) : List Value := l.map (Value.int .i64)
theorem cellsI_len (l : List Int) : (cellsI l).length = l.length := by unfold cellsI; simp
theorem cellsI_snoc (l : List Int) (x : Int) : cellsI l ++ [.int .i64 x] = cellsI (l ++ [x]) := by unfold cellsI; simp
theorem cellsI_getD (xs : List Int) (k : Nat) (h : k < xs.length) : (cellsI xs)[k]? = some (.int .i64 (xs.getD k 0)) := by
  unfold cellsI
  simp [List.getD, List.getElem?_eq_getElem h]
theorem cellsI_set (xs : List Int) (k : Nat) (x : Int) : (cellsI xs).set k (.int .i64 x) = cellsI (xs.set k x) := by
  unfold cellsI
  rw [List.map_set]
theorem one_i64 (x : Int) : ∀ u ∈ [Value.int .i64 x], u.oneCell' = true := by intro u hu; simp at hu; subst hu; rfl
theorem own_shape {w : World} {base : Nat} {e : TypeId} {size : Nat} {v : Value} {n : Nat} {xs : List Value} (h : w.ownsRow base e size v n xs) (hn : v ≠ .slice none 0 0) : ∃ g c, v = .slice (some ⟨g, 0, none⟩) n c ∧ base ≤ g ∧ n ≤ c ∧ g < w.heap.size ∧ c ≤ 9223372036854775807 := by
  rcases h.2 with ⟨h', _⟩ | ⟨g, c, cur, h', hb, hg, hnc, hm, _⟩
  · exact absurd h' hn
  · exact ⟨g, c, h', hb, hnc, lt_of_block hg, hm⟩
/-- What is kept while it is filled: all below the variable, and what is of another type. -/
def Kp (m : Nat) (w w' : World) : Prop := Below m w w' ∧ ∀ k o, w.heap[k]? = some o → k ≠ m → (∀ cur, o ≠ .cells cur 3 (0, 0)) → w'.heap[k]? = some o
theorem Kp.refl (m : Nat) (w : World) : Kp m w w := ⟨Below.refl _ _, fun _ _ h _ _ => h⟩
theorem Kp.trans {m : Nat} {a b c : World} (h : Kp m a b) (k : Kp m b c) : Kp m a c := ⟨h.1.trans k.1, fun i o ho hm ht => k.2 i o (h.2 i o ho hm ht) hm ht⟩
theorem Kp.of {m : Nat} {a b : World} (h : Below a.heap.size a b) (hm : m ≤ a.heap.size) : Kp m a b := ⟨h.mono hm, fun k _ ho _ _ => (h.block k (lt_of_block ho)).trans ho⟩
theorem Kp.alloc {m : Nat} {a b : World} (h : Kp m a b) (hm : m ≤ b.heap.size) (o : Obj) : Kp m a (b.alloc o) := h.trans (Kp.of ((Below.refl _ _).alloc (Nat.le_refl _) o) hm)
/-- The places that are hit, rising. -/
def hits (q : Nat → Bool) : Nat → List Int
  | 0 => []
  | k + 1 => if q k then hits q k ++ [(k : Int)] else hits q k
theorem hits_t {q : Nat → Bool} {k : Nat} (h : q k = true) : hits q (k + 1) = hits q k ++ [(k : Int)] := by rw [hits, if_pos h]
theorem hits_f {q : Nat → Bool} {k : Nat} (h : q k = false) : hits q (k + 1) = hits q k := by rw [hits, if_neg (by simp [h])]
theorem hits_len (q : Nat → Bool) (k : Nat) : (hits q k).length ≤ k := by
  induction k with
  | zero => simp [hits]
  | succ k ih =>
    unfold hits
    split
    · simp; omega
    · omega
/-- The arcs of a slice lie so in memory, below B. -/
def ArcsB (B : Nat) (w : World) (a : Option Addr) (l : List A) : Prop :=
  l = [] ∨ ∃ b o, a = some ⟨b, o, none⟩ ∧ b < B ∧ ∀ j, j < l.length → (l.getD j A.zero).at w b (o + j * 3)
theorem A.at.onB {x : A} {w w' : World} {b o B : Nat} (h : x.at w b o) (hl : b < B) (hb : Below B w w') : x.at w' b o :=
  ⟨(hb.cell hl).trans h.1, (hb.cell (p := ⟨b, o + 1, none⟩) hl).trans h.2.1, (hb.cell (p := ⟨b, o + 2, none⟩) hl).trans h.2.2⟩
theorem ArcsB.on {B : Nat} {w w' : World} {a : Option Addr} {l : List A} (h : ArcsB B w a l) (hb : Below B w w') : ArcsB B w' a l := by
  rcases h with h | ⟨b, o, rfl, hl, hc⟩
  · exact Or.inl h
  · exact Or.inr ⟨b, o, rfl, hl, fun j hj => (hc j hj).onB hl hb⟩
theorem ArcsB.up {B B' : Nat} {w : World} {a : Option Addr} {l : List A} (h : ArcsB B w a l) (hb : B ≤ B') : ArcsB B' w a l := by
  rcases h with h | ⟨b, o, rfl, hl, hc⟩
  · exact Or.inl h
  · exact Or.inr ⟨b, o, rfl, Nat.lt_of_lt_of_le hl hb, hc⟩
theorem Arcs.b {w : World} {a : Option Addr} {l : List A} (h : Arcs w a l) : ArcsB w.heap.size w a l := h
theorem ArcsB.a {B : Nat} {w : World} {a : Option Addr} {l : List A} (h : ArcsB B w a l) (hb : B ≤ w.heap.size) : Arcs w a l := h.up hb
theorem ArcsB.get {B : Nat} {w : World} {a : Option Addr} {l : List A} (h : ArcsB B w a l) : ∃ b o, 0 < l.length → a = some ⟨b, o, none⟩ ∧ b < B ∧ ∀ j, j < l.length → (l.getD j A.zero).at w b (o + j * 3) := by
  rcases h with rfl | ⟨b, o, h⟩
  · exact ⟨0, 0, fun h => absurd h (by simp)⟩
  · exact ⟨b, o, fun _ => h⟩
theorem not3 {t : TypeId} {c : Array Value} (h : t ≠ 3) : ∀ cur, Obj.cells c t (0, 0) ≠ .cells cur 3 (0, 0) := by
  intro cur e
  injection e with e1 e2 e3
  exact h e2
end Go.Proofs.Ytgpaoiddjlpcmaa.T3
namespace Go.Proofs.Ytgpaoiddjlpcmaa.T3
open Go.RowKit
/-- What is told of a vertex. -/
def outE (N : Int) (l : List A) (v : Int) : Int := if chkE N l = 0 then (if okV N v then 0 else 5) else chkE N l
def outL (N : Int) (l : List A) (v : Int) (xs : List Int) : List Int := if outE N l v = 0 then xs else []
/-- A list of numbers that a call made. -/
def Made (w w' : World) (e : Ending) (xs : List Int) (E : Int) : Prop :=
  ∃ a c, e = .returned (.tuple #[.slice a xs.length c, .int .i64 E]) ∧ w'.ownsRow w.heap.size 3 1 (.slice a xs.length c) xs.length (cellsI xs) ∧ Below w.heap.size w w'
theorem made_nil {w w' : World} {E : Int} (hb : Below w.heap.size w w') : Made w w' (.returned (.tuple #[.slice none 0 0, .int .i64 E])) [] E :=
  ⟨none, 0, rfl, World.ownsRow_nil _ _ _ _, hb⟩
theorem own_slice {w : World} {base : Nat} {e : TypeId} {size : Nat} {v : Value} {n : Nat} {xs : List Value} (h : w.ownsRow base e size v n xs) : ∃ a c, v = .slice a n c := by
  rcases h.2 with ⟨rfl, rfl⟩ | ⟨g, c, cur, rfl, _⟩
  · exact ⟨none, 0, rfl⟩
  · exact ⟨_, c, rfl⟩
theorem own_base {w : World} {base base' : Nat} {e : TypeId} {size : Nat} {v : Value} {n : Nat} {xs : List Value} (h : w.ownsRow base e size v n xs) (hb : base' ≤ base) : w.ownsRow base' e size v n xs := by
  refine ⟨h.1, ?_⟩
  rcases h.2 with h' | ⟨g, c, cur, h1, h2, h3⟩
  · exact Or.inl h'
  · exact Or.inr ⟨g, c, cur, h1, Nat.le_trans hb h2, h3⟩
theorem made_up {w w' : World} {o : Obj} {e : Ending} {xs : List Int} {E : Int} (h : Made (w.alloc o) w' e xs E) : Made w w' e xs E := by
  obtain ⟨a, c, he, ho, hb⟩ := h
  exact ⟨a, c, he, own_base ho (by simp), bthen ((Below.refl _ _).alloc (Nat.le_refl _) _) hb (by simp)⟩
/-- The arcs out of a vertex. -/
def outs (l : List A) (v : Int) : List Int := hits (fun k => decide ((l.getD k A.zero).f = v)) l.length
/-- The arcs into a vertex. -/
def ins (l : List A) (v : Int) : List Int := hits (fun k => decide ((l.getD k A.zero).t = v)) l.length
end Go.Proofs.Ytgpaoiddjlpcmaa.T3
namespace Go.Proofs.Ytgpaoiddjlpcmaa.T3
open Go.RowKit
/-- Numbers, as numbers with a sign. -/
def ints (L : List Nat) : List Int := L.map (fun x : Nat => (x : Int))
theorem ints_len (L : List Nat) : (ints L).length = L.length := by unfold ints; simp
theorem ints_getD (L : List Nat) (k : Nat) : (ints L).getD k 0 = ((L.getD k 0 : Nat) : Int) := by
  unfold ints
  by_cases h : k < L.length
  · simp [List.getD, List.getElem?_eq_getElem h]
  · simp [List.getD, List.getElem?_eq_none (Nat.le_of_not_lt h)]
theorem ints_set (L : List Nat) (k x : Nat) : (ints L).set k (x : Int) = ints (L.set k x) := by unfold ints; rw [List.map_set]
theorem getD_set (L : List Nat) (k j x : Nat) (hk : k < L.length) : (L.set k x).getD j 0 = if j = k then x else L.getD j 0 := by
  by_cases h : j = k
  · subst h; simp [List.getD, hk]
  · rw [if_neg h]; simp [List.getD, Ne.symm h]
/-- Whom each follows, and who leads each in the end. -/
structure Lead (n : Nat) (L : List Nat) (R : Nat → Nat) : Prop where
  len : L.length = n
  le : ∀ v, v < n → L.getD v 0 ≤ v
  on : ∀ v, v < n → R (L.getD v 0) = R v
  top : ∀ v, v < n → L.getD v 0 = v → R v = v
  rle : ∀ v, R v ≤ v
  rr : ∀ v, R (R v) = R v
theorem Lead.short {n : Nat} {L : List Nat} {R : Nat → Nat} (h : Lead n L R) {u : Nat} (hu : u < n) (hne : L.getD u 0 ≠ u) : Lead n (L.set u (L.getD (L.getD u 0) 0)) R ∧ L.getD (L.getD u 0) 0 < u ∧ R (L.getD (L.getD u 0) 0) = R u := by
  have h1 := h.le u hu
  have hy : L.getD u 0 < n := by omega
  have h2 := h.le _ hy
  have e1 := h.on u hu
  have e2 := h.on _ hy
  have hl : u < L.length := by rw [h.len]; exact hu
  refine ⟨⟨by rw [List.length_set]; exact h.len, fun v hv => ?_, fun v hv => ?_, fun v hv he => ?_, h.rle, h.rr⟩, by omega, by omega⟩
  · rw [getD_set _ _ _ _ hl]
    split
    · omega
    · exact h.le v hv
  · rw [getD_set _ _ _ _ hl]
    split
    · rename_i e; rw [e]; omega
    · exact h.on v hv
  · rw [getD_set _ _ _ _ hl] at he
    split at he
    · rename_i e; omega
    · exact h.top v hv he
/-- Leaders, when one leader follows another one. -/
def mgW (R : Nat → Nat) (M m : Nat) : Nat → Nat := fun x => if R x = M then m else R x
/-- Leaders, when two have been joined. -/
def mg (R : Nat → Nat) (a b : Nat) : Nat → Nat := mgW R (max (R a) (R b)) (min (R a) (R b))
theorem mg_comm (R : Nat → Nat) (a b : Nat) : mg R a b = mg R b a := by unfold mg; rw [Nat.max_comm, Nat.min_comm]
theorem Lead.joinW {n : Nat} {L : List Nat} {R : Nat → Nat} (h : Lead n L R) {M m : Nat} (hM : R M = M) (hm : R m = m) (hle : m ≤ M) (hlt : M < n) : Lead n (L.set M m) (mgW R M m) := by
  have hl : M < L.length := by rw [h.len]; exact hlt
  have em : mgW R M m m = m := by unfold mgW; rw [hm]; split <;> rfl
  have eM : mgW R M m M = m := by unfold mgW; rw [hM, if_pos rfl]
  refine ⟨by rw [List.length_set]; exact h.len, fun v hv => ?_, fun v hv => ?_, fun v hv he => ?_, fun v => ?_, fun v => ?_⟩
  · rw [getD_set _ _ _ _ hl]
    split
    · omega
    · exact h.le v hv
  · rw [getD_set _ _ _ _ hl]
    split
    · rename_i e; rw [e, em, eM]
    · unfold mgW; rw [h.on v hv]
  · rw [getD_set _ _ _ _ hl] at he
    split at he
    · rename_i e; rw [e, eM]; omega
    · have := h.top v hv he
      rename_i hne
      unfold mgW; rw [this, if_neg hne]
  · have := h.rle v
    unfold mgW
    split <;> omega
  · by_cases e : R v = M
    · rw [show mgW R M m v = m from if_pos e, em]
    · rw [show mgW R M m v = R v from if_neg e]
      unfold mgW
      rw [h.rr v, if_neg e]
theorem Lead.join {n : Nat} {L : List Nat} {R : Nat → Nat} (h : Lead n L R) {a b : Nat} (ha : a < n) (hb : b < n) : Lead n (L.set (max (R a) (R b)) (min (R a) (R b))) (mg R a b) := by
  have ra := h.rle a
  have rb := h.rle b
  refine h.joinW ?_ ?_ (by omega) (by omega)
  · rcases Nat.le_total (R a) (R b) with e | e
    · rw [Nat.max_eq_right e]; exact h.rr b
    · rw [Nat.max_eq_left e]; exact h.rr a
  · rcases Nat.le_total (R a) (R b) with e | e
    · rw [Nat.min_eq_left e]; exact h.rr a
    · rw [Nat.min_eq_right e]; exact h.rr b
/-- How many lead themselves below a number. -/
def cnt (R : Nat → Nat) : Nat → Nat
  | 0 => 0
  | m + 1 => if R m = m then cnt R m + 1 else cnt R m
/-- The label of a vertex. -/
def lab (R : Nat → Nat) (v : Nat) : Nat := cnt R (R v)
def labs (R : Nat → Nat) (n : Nat) : List Nat := (List.range n).map (lab R)
theorem labs_len (R : Nat → Nat) (n : Nat) : (labs R n).length = n := by unfold labs; simp
theorem labs_getD (R : Nat → Nat) (n v : Nat) (h : v < n) : (labs R n).getD v 0 = lab R v := by unfold labs; simp [List.getD, h]
theorem labs_ext {R : Nat → Nat} {n : Nat} {X : List Nat} (hx : X.length = n) (h : ∀ j, j < n → X.getD j 0 = lab R j) : X = labs R n := by
  apply List.ext_getElem (by rw [labs_len]; exact hx)
  intro j h1 h2
  have e1 : X.getD j 0 = X[j] := by simp [List.getD, List.getElem?_eq_getElem h1]
  have e2 : (labs R n).getD j 0 = (labs R n)[j] := by simp [List.getD, List.getElem?_eq_getElem h2]
  rw [← e1, ← e2, labs_getD R n j (by omega), h j (by omega)]
theorem Lead.step {n : Nat} {L : List Nat} {R : Nat → Nat} (h : Lead n L R) {k : Nat} (hk : k < n) : (L.getD k 0 = k → lab R k = cnt R k ∧ cnt R (k + 1) = cnt R k + 1) ∧ (L.getD k 0 ≠ k → L.getD k 0 < k ∧ lab R k = lab R (L.getD k 0) ∧ cnt R (k + 1) = cnt R k) := by
  have h1 := h.le k hk
  constructor
  · intro e
    have := h.top k hk e
    exact ⟨by unfold lab; rw [this], by rw [cnt, if_pos this]⟩
  · intro e
    have e1 := h.on k hk
    have e2 := h.rle (L.getD k 0)
    exact ⟨by omega, by unfold lab; rw [e1], by rw [cnt, if_neg (by omega)]⟩
theorem cnt_le (R : Nat → Nat) (m : Nat) : cnt R m ≤ m := by
  induction m with
  | zero => exact Nat.le_refl _
  | succ m ih => unfold cnt; split <;> omega
/-- Who leads whom, once arcs have been gone through. -/
def lead (l : List A) : Nat → Nat := l.foldl (fun R x => mg R x.f.toNat x.t.toNat) id
theorem lead_take (l : List A) (k : Nat) (hk : k < l.length) : lead (l.take (k + 1)) = mg (lead (l.take k)) (l.getD k A.zero).f.toNat (l.getD k A.zero).t.toNat := by
  unfold lead
  rw [List.take_add_one, List.foldl_append]
  simp [List.getD, List.getElem?_eq_getElem hk]
theorem Lead.start (n : Nat) {L : List Nat} (hl : L.length = n) (h : ∀ j, j < n → L.getD j 0 = j) : Lead n L id :=
  ⟨hl, fun v hv => by rw [h v hv]; exact Nat.le_refl _, fun v hv => by rw [h v hv], fun _ _ _ => rfl, fun _ => Nat.le_refl _, fun _ => rfl⟩
end Go.Proofs.Ytgpaoiddjlpcmaa.T3
namespace Go.Proofs.Ytgpaoiddjlpcmaa.T3
open Go.RowKit
/-- Every block but one is as it was. -/
structure Rd (g : Nat) (w w' : World) : Prop where
  os : w'.os = w.os
  tape : w'.tape = w.tape
  output : w'.output = w.output
  size : w.heap.size ≤ w'.heap.size
  block : ∀ k, k < w.heap.size → k ≠ g → w'.heap[k]? = w.heap[k]?
theorem Rd.refl (g : Nat) (w : World) : Rd g w w := ⟨rfl, rfl, rfl, Nat.le_refl _, fun _ _ _ => rfl⟩
theorem Rd.trans {g : Nat} {a b c : World} (h : Rd g a b) (k : Rd g b c) : Rd g a c :=
  ⟨k.os.trans h.os, k.tape.trans h.tape, k.output.trans h.output, Nat.le_trans h.size k.size, fun i hi hn => (k.block i (Nat.lt_of_lt_of_le hi h.size) hn).trans (h.block i hi hn)⟩
theorem Rd.set {g : Nat} (w : World) (o : Nat) (u : Value) : Rd g w (w.setCell ⟨g, o, none⟩ u) := by
  have h := (Below.refl 0 w).setCell (p := ⟨g, o, none⟩) (Nat.zero_le _) u
  exact ⟨h.os, h.tape, h.output, h.size, fun k _ hn => Below.heap_setCell w _ u k hn⟩
theorem Rd.below {g B : Nat} {w0 w w' : World} (h : Rd g w w') (hb : Below B w0 w) (hg : B ≤ g) (hB : B ≤ w.heap.size) : Below B w0 w' :=
  hb.trans ⟨h.os, h.tape, h.output, h.size, fun k hk => h.block k (by omega) (by omega)⟩
/-- Leaders in memory: a row of our own. -/
def OwnL (w : World) (g n : Nat) (L : List Nat) : Prop := w.ownsRow g 3 1 (.slice (some ⟨g, 0, none⟩) n n) n (cellsI (ints L))
theorem OwnL.cell {w : World} {g n : Nat} {L : List Nat} (h : OwnL w g n L) (hl : L.length = n) (k : Nat) (hk : k < n) : w.cell? ⟨g, k, none⟩ = some (.int .i64 ((L.getD k 0 : Nat) : Int)) := by
  rw [World.ownsRow.cellAt h k (by omega), cellsI_getD _ k (by rw [ints_len]; omega), ints_getD]
theorem OwnL.set {w : World} {g n : Nat} {L : List Nat} (h : OwnL w g n L) (k x : Nat) : OwnL (w.setCell ⟨g, k, none⟩ (.int .i64 (x : Int))) g n (L.set k x) := by
  have := (World.ownsRow.stored h k (.int .i64 (x : Int))).1
  rw [cellsI_set, ints_set] at this
  exact this
theorem OwnL.free {w : World} {g n : Nat} {L : List Nat} (h : OwnL w g n L) (k : Nat) : w.frozen? ⟨g, k, none⟩ = false := World.ownsRow.frozenAt h k
theorem OwnL.lt {w : World} {g n : Nat} {L : List Nat} (h : OwnL w g n L) : g < w.heap.size := (World.ownsRow.lt h g rfl).2
theorem below_of {B : Nat} {w w' : World} (hB : B ≤ w.heap.size) (h : Below w.heap.size w w') : Below B w w' := h.mono hB
end Go.Proofs.Ytgpaoiddjlpcmaa.T3
namespace Go.Proofs.Ytgpaoiddjlpcmaa.T3
open Go.RowKit
/-- The labels that Parts tells. -/
def partsL (N : Int) (l : List A) : List Int := if chkE N l = 0 then ints (labs (lead l) N.toNat) else []
end Go.Proofs.Ytgpaoiddjlpcmaa.T3
