/-
  Messages as they lie in memory; which fields a kind has.
-/
import Derived.Test.YtchmiiclogmheaaDoorCBackD
import Derived.Laws.EntriesVeiled
namespace Go.Proofs.YtchmiiclogmheaaDoor.C2
open Go.RowKit
/-- A matrix. -/
structure MX where
  lv : Int
  ce : Int
  ep : Int
  ds : List Int
def mxz : MX := ⟨0, 0, 0, []⟩
/-- A message. -/
structure MM where
  kd : Int
  ep : Int
  lv : Int
  ce : Int
  qu : Int
  ve : Int
  ot : Int
  bk : Int
  ws : List Int
  ms : List MX
  ds : List Int
/-- Where its lists lie. -/
structure Ad where
  wa : Option Addr
  wc : Nat
  ma : Option Addr
  mc : Nat
  da : Option Addr
  dc : Nat
/-- Its cells. -/
def msC (m : MM) (p : Ad) : Array Value := #[.int .i64 m.kd, .int .i64 m.ep, .int .i64 m.lv, .int .i64 m.ce, .int .i64 m.qu, .int .i64 m.ve, .int .i64 m.ot, .int .i64 m.bk, .slice p.wa m.ws.length p.wc, .slice p.ma m.ms.length p.mc, .slice p.da m.ds.length p.dc]
/-- Numbers of a kind, as they lie in memory. -/
def Nms (K : IntKind) (w : World) (a : Option Addr) (xs : List Int) : Prop := xs = [] ∨ ∃ b o, a = some ⟨b, o, none⟩ ∧ b < w.heap.size ∧ ∀ j, j < xs.length → w.cell? ⟨b, o + j, none⟩ = some (.int K (xs.getD j 0))
abbrev Dts := Nms .u64
abbrev Wts := Nms .u32
theorem Nms.on {K : IntKind} {w w' : World} {a : Option Addr} {xs : List Int} (h : Nms K w a xs) (hb : Below w.heap.size w w') : Nms K w' a xs := by
  rcases h with h | ⟨b, o, h1, h2, h3⟩
  · exact Or.inl h
  · exact Or.inr ⟨b, o, h1, Nat.lt_of_lt_of_le h2 hb.size, fun j hj => (hb.cell (p := ⟨b, o + j, none⟩) h2).trans (h3 j hj)⟩
theorem Nms.get {K : IntKind} {w : World} {a : Option Addr} {xs : List Int} (h : Nms K w a xs) : ∃ b o, 0 < xs.length → a = some ⟨b, o, none⟩ ∧ b < w.heap.size ∧ ∀ j, j < xs.length → w.cell? ⟨b, o + j, none⟩ = some (.int K (xs.getD j 0)) := by
  rcases h with h | ⟨b, o, h1, h2, h3⟩
  · exact ⟨0, 0, fun h5 => by rw [h] at h5; simp at h5⟩
  · exact ⟨b, o, fun _ => ⟨h1, h2, h3⟩⟩
theorem Nms.nil (K : IntKind) (w : World) (a : Option Addr) : Nms K w a [] := Or.inl rfl
/-- The matrix at a place. -/
def mat (l : List MX) (j : Nat) : MX := l.getD j mxz
/-- Matrices, as they lie in memory. -/
def Mts (w : World) (a : Option Addr) (l : List MX) : Prop := l = [] ∨ ∃ b o, a = some ⟨b, o, none⟩ ∧ b < w.heap.size ∧ ∀ j, j < l.length → ∃ x c, Dts w x (mat l j).ds ∧ w.cell? ⟨b, o + j * 4, none⟩ = some (.int .i64 (mat l j).lv) ∧ w.cell? ⟨b, o + j * 4 + 1, none⟩ = some (.int .i64 (mat l j).ce) ∧ w.cell? ⟨b, o + j * 4 + 2, none⟩ = some (.int .i64 (mat l j).ep) ∧ w.cell? ⟨b, o + j * 4 + 3, none⟩ = some (.slice x (mat l j).ds.length c)
theorem Mts.on {w w' : World} {a : Option Addr} {l : List MX} (h : Mts w a l) (hb : Below w.heap.size w w') : Mts w' a l := by
  rcases h with h | ⟨b, o, h1, h2, h3⟩
  · exact Or.inl h
  · refine Or.inr ⟨b, o, h1, Nat.lt_of_lt_of_le h2 hb.size, fun j hj => ?_⟩
    obtain ⟨x, c, h4, h5, h6, h7, h8⟩ := h3 j hj
    exact ⟨x, c, h4.on hb, (hb.cell (p := ⟨b, o + j * 4, none⟩) h2).trans h5, (hb.cell (p := ⟨b, o + j * 4 + 1, none⟩) h2).trans h6, (hb.cell (p := ⟨b, o + j * 4 + 2, none⟩) h2).trans h7, (hb.cell (p := ⟨b, o + j * 4 + 3, none⟩) h2).trans h8⟩
theorem Mts.get {w : World} {a : Option Addr} {l : List MX} (h : Mts w a l) : ∃ b o, 0 < l.length → a = some ⟨b, o, none⟩ ∧ b < w.heap.size ∧ ∀ j, j < l.length → ∃ x c, Dts w x (mat l j).ds ∧ w.cell? ⟨b, o + j * 4, none⟩ = some (.int .i64 (mat l j).lv) ∧ w.cell? ⟨b, o + j * 4 + 1, none⟩ = some (.int .i64 (mat l j).ce) ∧ w.cell? ⟨b, o + j * 4 + 2, none⟩ = some (.int .i64 (mat l j).ep) ∧ w.cell? ⟨b, o + j * 4 + 3, none⟩ = some (.slice x (mat l j).ds.length c) := by
  rcases h with h | ⟨b, o, h1, h2, h3⟩
  · exact ⟨0, 0, fun h5 => by rw [h] at h5; simp at h5⟩
  · exact ⟨b, o, fun _ => ⟨h1, h2, h3⟩⟩
/-- What all numbers and lengths of a message lie between. -/
structure Bd (m : MM) : Prop where
  kd : -9223372036854775808 ≤ m.kd ∧ m.kd ≤ 9223372036854775807
  wl : m.ws.length ≤ 140737488351232
  ml : m.ms.length ≤ 140737488351232
  dl : m.ds.length ≤ 140737488351232
  wb : ∀ j, j < m.ws.length → 0 ≤ m.ws.getD j 0 ∧ m.ws.getD j 0 ≤ 4294967295
  db : ∀ j, j < m.ds.length → 0 ≤ m.ds.getD j 0 ∧ m.ds.getD j 0 ≤ 18446744073709551615
  mb : ∀ j, j < m.ms.length → (mat m.ms j).ds.length ≤ 140737488351232 ∧ ∀ i, i < (mat m.ms j).ds.length → 0 ≤ (mat m.ms j).ds.getD i 0 ∧ (mat m.ms j).ds.getD i 0 ≤ 18446744073709551615
/-- A message's lists lie in memory. -/
structure MsIn (w : World) (m : MM) (p : Ad) : Prop where
  ws : Wts w p.wa m.ws
  ms : Mts w p.ma m.ms
  ds : Dts w p.da m.ds
theorem MsIn.on {w w' : World} {m : MM} {p : Ad} (h : MsIn w m p) (hb : Below w.heap.size w w') : MsIn w' m p := ⟨h.ws.on hb, h.ms.on hb, h.ds.on hb⟩
/-- The fields of a kind. -/
def fl : Nat → List Int
  | 1 => [0, 1, 2, 7, 8]
  | 2 => [0, 1, 2, 9]
  | 3 => [3, 0, 4, 5, 6, 7]
  | 4 => [3, 0, 6, 9]
  | _ => []
/-- The table of the fields, as it is laid. -/
def Flds (w : World) : Prop := w.cell? ⟨0, 0, none⟩ = some (.slice none 0 0) ∧ ∀ i, 1 ≤ i → i ≤ 4 → ∃ b o c, w.cell? ⟨0, i, none⟩ = some (.slice (some ⟨b, o, none⟩) (fl i).length c) ∧ ∀ j, j < (fl i).length → w.cell? ⟨b, o + j, none⟩ = some (.int .i64 ((fl i).getD j 0))
theorem Flds.size {w : World} (h : Flds w) : 0 < w.heap.size := World.block_lt_of_cell? w _ h.1
theorem Flds.on {B : Nat} {w w' : World} (h : Flds w) (hb : Below B w w') (hB : w.heap.size ≤ B) : Flds w' := by
  have h1 := h.size
  refine ⟨(hb.cell (p := ⟨0, 0, none⟩) (by show 0 < B; omega)).trans h.1, fun i hi hi4 => ?_⟩
  obtain ⟨b, o, c, h2, h3⟩ := h.2 i hi hi4
  refine ⟨b, o, c, (hb.cell (p := ⟨0, i, none⟩) (by show 0 < B; omega)).trans h2, fun j hj => ?_⟩
  have := World.block_lt_of_cell? w _ (h3 j hj)
  exact (hb.cell (p := ⟨b, o + j, none⟩) (by show b < B; have : b < w.heap.size := this; omega)).trans (h3 j hj)
/-- Is a number a kind? -/
def isKB (k : Int) : Bool := decide (1 ≤ k ∧ k ≤ 4)
set_option maxRecDepth 100000 in
set_option maxHeartbeats 1600000 in
theorem isKind_any (k : Int) (w : World) (hF : Flds w) : Calls Tryd.prog 46 #[.int .i64 k] w fun e w' => e = .returned (.bool (isKB k)) ∧ w' = w := by
  by_cases h1 : 1 ≤ k ∧ k ≤ 4
  · rw [show isKB k = true from decide_eq_true h1]
    have hk : k = 1 ∨ k = 2 ∨ k = 3 ∨ k = 4 := by omega
    obtain ⟨b1, o1, c1, q1, _⟩ := hF.2 1 (by omega) (by omega)
    obtain ⟨b2, o2, c2, q2, _⟩ := hF.2 2 (by omega) (by omega)
    obtain ⟨b3, o3, c3, q3, _⟩ := hF.2 3 (by omega) (by omega)
    obtain ⟨b4, o4, c4, q4, _⟩ := hF.2 4 (by omega) (by omega)
    simp only [fl, List.length_cons, List.length_nil, Nat.reduceAdd] at q1 q2 q3 q4
    clear hF h1
    rcases hk with rfl | rfl | rfl | rfl
    all_goals
      go_enter Tryd.func46, Tryd.ntmps46
      go_wp2_with fail
      go_ret
      exact ⟨rfl, rfl⟩
  · rw [show isKB k = false from decide_eq_false h1]
    have q0 := hF.1
    clear hF
    by_cases h0 : k = 0
    · subst h0
      clear h1
      go_enter Tryd.func46, Tryd.ntmps46
      go_wp2_with fail
      go_ret
      exact ⟨rfl, rfl⟩
    · by_cases h2 : 0 ≤ k
      · have h3 : ¬ k < 5 := by omega
        clear h1 h0
        go_enter Tryd.func46, Tryd.ntmps46
        go_wp2_with fail
        go_ret
        exact ⟨rfl, rfl⟩
      · clear h1 h0
        go_enter Tryd.func46, Tryd.ntmps46
        go_wp2_with fail
        go_ret
        exact ⟨rfl, rfl⟩
set_option maxRecDepth 100000 in
set_option maxHeartbeats 1600000 in
theorem place_any (b f : Nat) (hf : f ≤ 6) (w : World) : Calls Tryd.prog 79 #[.pointer (some ⟨b, 0, none⟩), .int .i64 f] w fun e w' => e = .returned (.pointer (some ⟨b, f + 1, none⟩)) ∧ w' = w := by
  have h : f = 0 ∨ f = 1 ∨ f = 2 ∨ f = 3 ∨ f = 4 ∨ f = 5 ∨ f = 6 := by omega
  clear hf
  rcases h with rfl | rfl | rfl | rfl | rfl | rfl | rfl
  all_goals
    go_enter Tryd.func79, Tryd.ntmps79
    go_wp2_with fail
    go_ret
    exact ⟨rfl, rfl⟩
/-- The greatest number of a field. -/
def mo (f : Nat) : Int := if f = 6 then 1 else 1073741824
set_option maxRecDepth 100000 in
theorem most_any (f : Nat) (w : World) : Calls Tryd.prog 82 #[.int .i64 f] w fun e w' => e = .returned (.int .i64 (mo f)) ∧ w' = w := by
  unfold mo
  by_cases h : f = 6
  · subst h
    rw [if_pos rfl]
    go_enter Tryd.func82, Tryd.ntmps82
    go_wp2_with fail
    go_ret
    exact ⟨rfl, rfl⟩
  · rw [if_neg h]
    have h' : ((f : Int) == 6) = false := by simp; omega
    go_enter Tryd.func82, Tryd.ntmps82
    go_wp2_with fail
    go_ret
    exact ⟨rfl, rfl⟩
end Go.Proofs.YtchmiiclogmheaaDoor.C2
