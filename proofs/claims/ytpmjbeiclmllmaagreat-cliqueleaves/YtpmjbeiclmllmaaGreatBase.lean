/-
  Arcs and graphs as they lie in memory; contracts of graph.isVertex and graph.Check.
-/
import Derived.Test.YtpmjbeiclmllmaaGreatChecked
import Derived.WalkKit
import Derived.WalkMore
import Derived.BigCall
import Derived.Below
import Derived.Lib.Hide
import Derived.Laws.AppendOwn
import Derived.Laws.OwnMore
import Derived.Deep.QuietTactic
import Derived.BigQuiet
namespace Go.Proofs.YtpmjbeiclmllmaaGreat
open Go.RowKit
/-- An arc. -/
structure A where
  f : Int
  t : Int
  w : Int
deriving DecidableEq
instance : Inhabited A := ⟨⟨0, 0, 0⟩⟩
def A.zero : A := ⟨0, 0, 0⟩
/-- Its three cells lie at an address. -/
def A.at (x : A) (w : World) (b o : Nat) : Prop :=
  w.cell? ⟨b, o, none⟩ = some (.int .i64 x.f) ∧ w.cell? ⟨b, o + 1, none⟩ = some (.int .i64 x.t) ∧ w.cell? ⟨b, o + 2, none⟩ = some (.int .u32 x.w)
/-- The arcs of a slice lie so in memory. -/
def Arcs (w : World) (a : Option Addr) (l : List A) : Prop :=
  l = [] ∨ ∃ b o, a = some ⟨b, o, none⟩ ∧ b < w.heap.size ∧ ∀ j, j < l.length → (l.getD j A.zero).at w b (o + j * 3)
theorem A.at.on {x : A} {w w' : World} {b o : Nat} (h : x.at w b o) (hb : Below w.heap.size w w') : x.at w' b o := by
  have hl := World.block_lt_of_cell? w _ h.1
  exact ⟨(hb.cell hl).trans h.1, (hb.cell (p := ⟨b, o + 1, none⟩) hl).trans h.2.1, (hb.cell (p := ⟨b, o + 2, none⟩) hl).trans h.2.2⟩
theorem Arcs.on {w w' : World} {a : Option Addr} {l : List A} (h : Arcs w a l) (hb : Below w.heap.size w w') : Arcs w' a l := by
  rcases h with h | ⟨b, o, rfl, hl, hc⟩
  · exact Or.inl h
  · exact Or.inr ⟨b, o, rfl, Nat.lt_of_lt_of_le hl hb.size, fun j hj => (hc j hj).on hb⟩
/-- A vertex of a graph of N. -/
def okV (N v : Int) : Bool := decide (0 ≤ v ∧ v < N)
theorem okV_t {N v : Int} (h : okV N v = true) : 0 ≤ v ∧ v < N := by simpa [okV] using h
def okA (N : Int) (x : A) : Bool := okV N x.f && okV N x.t
theorem okA_t {N : Int} {x : A} (h : okA N x = true) : okV N x.f = true ∧ okV N x.t = true := by simpa [okA] using h
/-- What Check tells. -/
def chkE (N : Int) (l : List A) : Int := if N < 1 ∨ 1024 < N then 1 else if 8192 < l.length then 2 else if l.all (okA N) then 0 else 30
def chkAt (N : Int) (l : List A) : Int := if N < 1 ∨ 1024 < N then 0 else if 8192 < l.length then 0 else if l.all (okA N) then 0 else (l.findIdx (fun x => !okA N x) : Nat)
theorem ret_bool {a b : Bool} (h : a = b) : Ending.returned (.bool a) = .returned (.bool b) := by rw [h]
set_option maxHeartbeats 400000 in
theorem vert_any (N v : Int) (a : Option Addr) (n cap : Nat) (w : World) :
    Calls Tryz.prog 116 #[.agg #[.int .i64 N, .slice a n cap], .int .i64 v] w fun e w' => e = .returned (.bool (okV N v)) ∧ Below w.heap.size w w' := by
  by_cases h1 : 0 ≤ v
  · by_cases h2 : v < N
    · rw [show okV N v = true by simp [okV, h1, h2]]
      go_enter Tryz.func116, Tryz.ntmps116
      go_wp2_with fail
      go_ret
      exact ⟨rfl, (Below.refl _ _).alloc (Nat.le_refl _) _⟩
    · rw [show okV N v = false by simp [okV, h2]]
      go_enter Tryz.func116, Tryz.ntmps116
      go_wp2_with fail
      go_ret
      exact ⟨rfl, (Below.refl _ _).alloc (Nat.le_refl _) _⟩
  · rw [show okV N v = false by simp [okV, h1]]
    go_enter Tryz.func116, Tryz.ntmps116
    go_wp2_with fail
    go_ret
    exact ⟨rfl, (Below.refl _ _).alloc (Nat.le_refl _) _⟩
theorem all_take {l : List A} {p : A → Bool} {k : Nat} (hk : k < l.length) (h : (l.take k).all p = true) (hp : p (l.getD k A.zero) = true) : (l.take (k + 1)).all p = true := by
  rw [List.take_succ_eq_append_getElem hk, List.all_append, h]
  have e : l.getD k A.zero = l[k] := by simp [List.getD, List.getElem?_eq_getElem hk]
  rw [e] at hp
  simp [hp]
theorem find_at {l : List A} {p : A → Bool} {k : Nat} (hk : k < l.length) (h : (l.take k).all p = true) (hp : p (l.getD k A.zero) = false) : l.all p = false ∧ l.findIdx (fun x => !p x) = k := by
  have e : l.getD k A.zero = l[k] := by simp [List.getD, List.getElem?_eq_getElem hk]
  rw [e] at hp
  constructor
  · rw [List.all_eq_false]
    exact ⟨l[k], List.getElem_mem hk, by simp [hp]⟩
  · rw [List.findIdx_eq hk]
    refine ⟨by simp [hp], fun j hj => ?_⟩
    have h2 := List.all_eq_true.1 h (l[j]) (by rw [List.mem_take_iff_getElem]; exact ⟨j, by omega, rfl⟩)
    simp [h2]
theorem heap_top (w : World) (o : Obj) : (w.alloc o).heap[w.heap.size]? = some o := by show (w.heap.push o)[w.heap.size]? = _; simp
/-- A block from before, and the newest one, behind a call. -/
theorem keep1 {w w2 : World} {o o' : Obj} {g : Nat} (hg : w.heap[g]? = some o') (hb : Below (w.alloc o).heap.size (w.alloc o) w2) : w2.heap[g]? = some o' ∧ w2.heap[w.heap.size]? = some o := by
  have hl := lt_of_block hg
  exact ⟨(hb.block g (by simp; omega)).trans ((Below.heap_alloc w o g hl).trans hg), (hb.block w.heap.size (by simp)).trans (heap_top w o)⟩
theorem bthen {B : Nat} {w w1 w2 : World} (h : Below B w w1) (k : Below w1.heap.size w1 w2) (hB : B ≤ w1.heap.size) : Below B w w2 := h.trans (k.mono hB)
theorem two_cells {w : World} {g : Nat} {a b : Value} {t : TypeId} (h : w.heap[g]? = some (.cells #[a, b] t)) : (w.cell? ⟨g, 0, none⟩ = some a ∧ w.cell? ⟨g, 1, none⟩ = some b) ∧ (w.frozen? ⟨g, 0, none⟩ = false ∧ w.frozen? ⟨g, 1, none⟩ = false) := by
  simp [World.cell?, World.frozen?, h]
theorem three_cells {w : World} {g : Nat} {a b c : Value} {t : TypeId} (h : w.heap[g]? = some (.cells #[a, b, c] t)) : w.cell? ⟨g, 0, none⟩ = some a ∧ w.cell? ⟨g, 1, none⟩ = some b ∧ w.cell? ⟨g, 2, none⟩ = some c := by
  simp [World.cell?, h]
theorem named {α : Sort _} (x : α) : ∃ y, Hid (x = y) := ⟨x, rfl⟩
theorem chk_range {N : Int} {l : List A} (h : N < 1 ∨ 1024 < N) : chkE N l = 1 ∧ chkAt N l = 0 := by
  unfold chkE chkAt; rw [if_pos h, if_pos h]; exact ⟨rfl, rfl⟩
theorem chk_long {N : Int} {l : List A} (h : ¬ (N < 1 ∨ 1024 < N)) (h3 : 8192 < l.length) : chkE N l = 2 ∧ chkAt N l = 0 := by
  unfold chkE chkAt; rw [if_neg h, if_neg h, if_pos h3, if_pos h3]; exact ⟨rfl, rfl⟩
theorem chk_ok {N : Int} {l : List A} (h : ¬ (N < 1 ∨ 1024 < N)) (h3 : ¬ 8192 < l.length) (h4 : l.all (okA N) = true) : chkE N l = 0 ∧ chkAt N l = 0 := by
  unfold chkE chkAt; rw [if_neg h, if_neg h, if_neg h3, if_neg h3, if_pos h4, if_pos h4]; exact ⟨rfl, rfl⟩
theorem chk_bad {N : Int} {l : List A} {k : Nat} (h : ¬ (N < 1 ∨ 1024 < N)) (h3 : ¬ 8192 < l.length) (h4 : l.all (okA N) = false ∧ l.findIdx (fun x => !okA N x) = k) : chkE N l = 30 ∧ chkAt N l = k := by
  unfold chkE chkAt; rw [if_neg h, if_neg h, if_neg h3, if_neg h3, h4.1, h4.2]; exact ⟨rfl, rfl⟩
/-- What a graph that Check lets by is like. -/
theorem chk_zero {N : Int} {l : List A} (h : chkE N l = 0) : 1 ≤ N ∧ N ≤ 1024 ∧ l.length ≤ 8192 ∧ ∀ x ∈ l, (0 ≤ x.f ∧ x.f < N) ∧ (0 ≤ x.t ∧ x.t < N) := by
  unfold chkE at h
  split at h
  · cases h
  split at h
  · cases h
  split at h
  · rename_i h1 h2 h3
    refine ⟨by omega, by omega, by omega, fun x hx => ?_⟩
    obtain ⟨h5, h6⟩ := okA_t (List.all_eq_true.1 h3 x hx)
    exact ⟨okV_t h5, okV_t h6⟩
  · cases h
set_option maxHeartbeats 800000 in
theorem check_any (N : Int) (a : Option Addr) (l : List A) (cap : Nat) (w : World) (hl : l.length ≤ 9223372036854775807) (hr : Arcs w a l) :
    Calls Tryz.prog 93 #[.agg #[.int .i64 N, .slice a l.length cap]] w fun e w' => e = .returned (.tuple #[.int .i64 (chkAt N l), .int .i64 (chkE N l)]) ∧ Below w.heap.size w w' := by
  by_cases h1 : N < 1
  · rw [(chk_range (l := l) (Or.inl h1)).1, (chk_range (l := l) (Or.inl h1)).2]
    go_enter Tryz.func93, Tryz.ntmps93
    go_wp2_with fail
    go_ret2
    exact ⟨rfl, (Below.refl _ _).alloc (Nat.le_refl _) _⟩
  by_cases h2 : 1024 < N
  · rw [(chk_range (l := l) (Or.inr h2)).1, (chk_range (l := l) (Or.inr h2)).2]
    go_enter Tryz.func93, Tryz.ntmps93
    go_wp2_with fail
    go_ret2
    exact ⟨rfl, (Below.refl _ _).alloc (Nat.le_refl _) _⟩
  have hN : ¬ (N < 1 ∨ 1024 < N) := by omega
  by_cases h3 : 8192 < l.length
  · have h3' : (8192 : Int) < l.length := by omega
    rw [(chk_long hN h3).1, (chk_long hN h3).2]
    clear hN
    go_enter Tryz.func93, Tryz.ntmps93
    go_wp2_with fail
    go_ret2
    exact ⟨rfl, (Below.refl _ _).alloc (Nat.le_refl _) _⟩
  have h3' : ¬ (8192 : Int) < l.length := by omega
  have HN := Lib.hid hN
  clear hN
  obtain ⟨E, HE⟩ := named (chkE N l)
  obtain ⟨T, HAT⟩ := named (chkAt N l)
  rw [HE.out, HAT.out]
  have hb0 : Below w.heap.size w (w.alloc (.cells #[.int .i64 N, .slice a l.length cap] 24)) := (Below.refl _ _).alloc (Nat.le_refl _) _
  obtain ⟨b, o, hab⟩ : ∃ b o, 0 < l.length → a = some ⟨b, o, none⟩ ∧ b < w.heap.size ∧ ∀ j, j < l.length → (l.getD j A.zero).at w b (o + j * 3) := by
    rcases hr with rfl | ⟨b, o, h⟩
    · exact ⟨0, 0, fun h => absurd h (by simp)⟩
    · exact ⟨b, o, fun _ => h⟩
  go_enter Tryz.func93, Tryz.ntmps93
  go_wp2_with fail
  go_loopw [21] (fun i wr => ∃ k : Nat, k ≤ l.length ∧ i = .int .i64 k ∧ Hid ((l.take k).all (okA N) = true) ∧ wr.heap[w.heap.size]? = some (.cells #[.int .i64 N, .slice a l.length cap] 24) ∧ Below w.heap.size w wr) (fun i _ => l.length - (intOf i).toNat)
  case atStart => exact ⟨0, Nat.zero_le _, rfl, by show _ = _; simp, heap_top w _, hb0⟩
  case round =>
    obtain ⟨k, hk, rfl, hall, hg, hb⟩ := hrel
    obtain ⟨⟨g0, g1⟩, gf0, gf1⟩ := two_cells hg
    have hsz : w.heap.size < wr.heap.size := lt_of_block hg
    by_cases hlt : k < l.length
    · obtain ⟨rfl, hbl, hat⟩ := hab (by omega)
      obtain ⟨c0, c1, c2⟩ := (hat k hlt).on hb
      have HT := Lib.hid (fun (h : okA N (l.getD k A.zero) = true) => all_take hlt hall.out h)
      have HF := Lib.hid (fun (h : okA N (l.getD k A.zero) = false) => find_at hlt hall.out h)
      generalize l.getD k A.zero = x at *
      go_wp2_with fail
      refine (vert_any N x.f _ _ _ _).mono ?_
      rintro e w2 ⟨rfl, hb2⟩
      obtain ⟨hg2, hx2⟩ := keep1 hg hb2
      have s2 : wr.heap.size < w2.heap.size := lt_of_block hx2
      have b2 : Below w.heap.size w w2 := bthen (hb.alloc (by omega) _) hb2 (by simp; omega)
      clear hb2 hg g0 g1 gf0 gf1 c0 c1 c2 hb
      obtain ⟨⟨g0, g1⟩, gf0, gf1⟩ := two_cells hg2
      obtain ⟨c0, c1, c2⟩ := three_cells hx2
      by_cases h5 : okV N x.f = true
      · rw [h5]
        go_wp2_with fail
        refine (vert_any N x.t _ _ _ _).mono ?_
        rintro e w3 ⟨rfl, hb3⟩
        have hg3 := (hb3.block _ (lt_of_block hg2)).trans hg2
        have b3 : Below w.heap.size w w3 := bthen b2 hb3 (by omega)
        clear hb3 hg2 g0 g1 gf0 gf1 c0 c1 c2 b2 hx2
        by_cases h6 : okV N x.t = true
        · rw [h6]
          have hA : okA N x = true := by simp [okA, h5, h6]
          go_wp2_with fail
          exact ⟨⟨k + 1, by omega, by go_num, HT.out hA, hg3, b3⟩, by simp [intOf]; omega⟩
        · have h6' : okV N x.t = false := by simpa using h6
          rw [h6']
          have hE := chk_bad HN.out h3 (HF.out (by simp [okA, h6']))
          rw [HE.out, HAT.out] at hE
          obtain ⟨rfl, rfl⟩ := hE
          go_wp2_with fail
          go_ret2
          exact ⟨rfl, b3⟩
      · have h5' : okV N x.f = false := by simpa using h5
        rw [h5']
        have hE := chk_bad HN.out h3 (HF.out (by simp [okA, h5']))
        rw [HE.out, HAT.out] at hE
        obtain ⟨rfl, rfl⟩ := hE
        go_wp2_with fail
        go_ret2
        exact ⟨rfl, b2⟩
    · have hE := chk_ok HN.out h3 (by have := hall.out; rw [List.take_of_length_le (by omega)] at this; exact this)
      rw [HE.out, HAT.out] at hE
      obtain ⟨rfl, rfl⟩ := hE
      go_wp2_with fail
      go_ret2
      exact ⟨rfl, hb⟩
end Go.Proofs.YtpmjbeiclmllmaaGreat
