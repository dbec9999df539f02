import Derived.Test.YtaafkpojjdjphaaGreatChecked
import Derived.WalkKit
import Derived.BigCall
import Derived.Lib.Hide
import Derived.BigQuiet
set_option maxRecDepth 100000
namespace Go.Proofs.YtaafkpojjdjphaaGreat.N5
open Go.RowKit
structure A where
 f : Int
 t : Int
 w : Int
deriving DecidableEq
instance : Inhabited A := ⟨⟨0, 0, 0⟩⟩
def A.zero : A := ⟨0, 0, 0⟩
def A.at (x : A) (w : World) (b o : Nat) : Prop :=
 w.cell? ⟨b, o, none⟩ = some (.int .i64 x.f) ∧ w.cell? ⟨b, o + 1, none⟩ = some (.int .i64 x.t) ∧ w.cell? ⟨b, o + 2, none⟩ = some (.int .u32 x.w)
def Arcs (w : World) (a : Option Addr) (l : List A) : Prop :=
 l = [] ∨ ∃ b o, a = some ⟨b, o, none⟩ ∧ b < w.heap.size ∧ ∀ j, j < l.length → (l.getD j A.zero).at w b (o + j * 3)
theorem A.at.on {x : A} {w w' : World} {b o : Nat} (h : x.at w b o) (hb : Below w.heap.size w w') : x.at w' b o := by
 have hl := World.block_lt_of_cell? w _ h.1
 exact ⟨(hb.cell hl).trans h.1, (hb.cell (p := ⟨b, o + 1, none⟩) hl).trans h.2.1, (hb.cell (p := ⟨b, o + 2, none⟩) hl).trans h.2.2⟩
theorem Arcs.on {w w' : World} {a : Option Addr} {l : List A} (h : Arcs w a l) (hb : Below w.heap.size w w') : Arcs w' a l := by
 rcases h with h | ⟨b, o, rfl, hl, hc⟩
 ·exact Or.inl h
 ·exact Or.inr ⟨b, o, rfl, Nat.lt_of_lt_of_le hl hb.size, fun j hj => (hc j hj).on hb⟩
def okV (N v : Int) : Bool := decide (0 ≤ v ∧ v < N)
theorem okV_t {N v : Int} (h : okV N v = true) : 0 ≤ v ∧ v < N := by simpa [okV] using h
def okA (N : Int) (x : A) : Bool := okV N x.f && okV N x.t
theorem okA_t {N : Int} {x : A} (h : okA N x = true) : okV N x.f = true ∧ okV N x.t = true := by simpa [okA] using h
def chkE (N : Int) (l : List A) : Int := if N < 1 ∨ 1024 < N then 1 else if 8192 < l.length then 2 else if l.all (okA N) then 0 else 30
def chkAt (N : Int) (l : List A) : Int := if N < 1 ∨ 1024 < N then 0 else if 8192 < l.length then 0 else if l.all (okA N) then 0 else (l.findIdx (fun x => !okA N x) : Nat)
set_option maxHeartbeats 400000 in
theorem vert_any (N v : Int) (a : Option Addr) (n cap : Nat) (w : World) :
  Calls Tryz.prog 170 #[.agg #[.int .i64 N, .slice a n cap], .int .i64 v] w fun e w' => e = .returned (.bool (okV N v)) ∧ Below w.heap.size w w' := by
 by_cases h1 : 0 ≤ v
 ·by_cases h2 : v < N
  ·rw [show okV N v = true by simp [okV, h1, h2]]
   go_enter Tryz.func170, Tryz.ntmps170
   go_wp2_with fail
   go_ret
   exact ⟨rfl, (Below.refl _ _).alloc (Nat.le_refl _) _⟩
  ·rw [show okV N v = false by simp [okV, h2]]
   go_enter Tryz.func170, Tryz.ntmps170
   go_wp2_with fail
   go_ret
   exact ⟨rfl, (Below.refl _ _).alloc (Nat.le_refl _) _⟩
 ·rw [show okV N v = false by simp [okV, h1]]
  go_enter Tryz.func170, Tryz.ntmps170
  go_wp2_with fail
  go_ret
  exact ⟨rfl, (Below.refl _ _).alloc (Nat.le_refl _) _⟩
theorem all_take {l : List A} {p : A → Bool} {k : Nat} (hk : k < l.length) (h : (l.take k).all p = true) (hp : p (l.getD k A.zero) = true) : (l.take (k + 1)).all p = true := by
 rw [List.take_succ_eq_append_getElem hk, List.all_append, h]
 have e : l.getD k A.zero = l[k] := by simp [List.getD, List.getElem?_eq_getElem hk]
 rw [e] at hp
 simp [hp]
theorem find_at {l : List A} {p : A → Bool} {k : Nat} (hk : k < l.length) (h : (l.take k).all p = true) (hp : p (l.getD k A.zero) = false) : l.all p = false ∧ l.findIdx (fun x => !p x) = k := by
 have e : l.getD k A.zero = l[k] := by simp [List.getD, List.getElem?_eq_getElem hk]
 rw [e] at hp
 constructor
 ·rw [List.all_eq_false]
  exact ⟨l[k], List.getElem_mem hk, by simp [hp]⟩
 ·rw [List.findIdx_eq hk]
  refine ⟨by simp [hp], fun j hj => ?_⟩
  have h2 := List.all_eq_true.1 h (l[j]) (by rw [List.mem_take_iff_getElem]; exact ⟨j, by omega, rfl⟩)
  simp [h2]
theorem heap_top (w : World) (o : Obj) : (w.alloc o).heap[w.heap.size]? = some o := by show (w.heap.push o)[w.heap.size]? = _; simp
theorem keep1 {w w2 : World} {o o' : Obj} {g : Nat} (hg : w.heap[g]? = some o') (hb : Below (w.alloc o).heap.size (w.alloc o) w2) : w2.heap[g]? = some o' ∧ w2.heap[w.heap.size]? = some o := by
 have hl := lt_of_block hg
 exact ⟨(hb.block g (by simp; omega)).trans ((Below.heap_alloc w o g hl).trans hg), (hb.block w.heap.size (by simp)).trans (heap_top w o)⟩
theorem bthen {B : Nat} {w w1 w2 : World} (h : Below B w w1) (k : Below w1.heap.size w1 w2) (hB : B ≤ w1.heap.size) : Below B w w2 := h.trans (k.mono hB)
theorem two_cells {w : World} {g : Nat} {a b : Value} {t : TypeId} (h : w.heap[g]? = some (.cells #[a, b] t)) : (w.cell? ⟨g, 0, none⟩ = some a ∧ w.cell? ⟨g, 1, none⟩ = some b) ∧ (w.frozen? ⟨g, 0, none⟩ = false ∧ w.frozen? ⟨g, 1, none⟩ = false) := by
 simp [World.cell?, World.frozen?, h]
theorem three_cells {w : World} {g : Nat} {a b c : Value} {t : TypeId} (h : w.heap[g]? = some (.cells #[a, b, c] t)) : w.cell? ⟨g, 0, none⟩ = some a ∧ w.cell? ⟨g, 1, none⟩ = some b ∧ w.cell? ⟨g, 2, none⟩ = some c := by
 simp [World.cell?, h]
theorem named {α : Sort _} (x : α) : ∃ y, Hid (x = y) := ⟨x, rfl⟩
theorem chk_range {N : Int} {l : List A} (h : N < 1 ∨ 1024 < N) : chkE N l = 1 ∧ chkAt N l = 0 := by
 unfold chkE chkAt; rw [if_pos h, if_pos h]; exact ⟨rfl, rfl⟩
theorem chk_long {N : Int} {l : List A} (h : ¬ (N < 1 ∨ 1024 < N)) (h3 : 8192 < l.length) : chkE N l = 2 ∧ chkAt N l = 0 := by
 unfold chkE chkAt; rw [if_neg h, if_neg h, if_pos h3, if_pos h3]; exact ⟨rfl, rfl⟩
theorem chk_ok {N : Int} {l : List A} (h : ¬ (N < 1 ∨ 1024 < N)) (h3 : ¬ 8192 < l.length) (h4 : l.all (okA N) = true) : chkE N l = 0 ∧ chkAt N l = 0 := by
 unfold chkE chkAt; rw [if_neg h, if_neg h, if_neg h3, if_neg h3, if_pos h4, if_pos h4]; exact ⟨rfl, rfl⟩
theorem chk_bad {N : Int} {l : List A} {k : Nat} (h : ¬ (N < 1 ∨ 1024 < N)) (h3 : ¬ 8192 < l.length) (h4 : l.all (okA N) = false ∧ l.findIdx (fun x => !okA N x) = k) : chkE N l = 30 ∧ chkAt N l = k := by
 unfold chkE chkAt; rw [if_neg h, if_neg h, if_neg h3, if_neg h3, h4.1, h4.2]; exact ⟨rfl, rfl⟩
theorem chk_zero {N : Int} {l : List A} (h : chkE N l = 0) : 1 ≤ N ∧ N ≤ 1024 ∧ l.length ≤ 8192 ∧ ∀ x ∈ l, (0 ≤ x.f ∧ x.f < N) ∧ (0 ≤ x.t ∧ x.t < N) := by
 unfold chkE at h
 split at h
 ·cases h
 split at h
 ·cases h
 split at h
 ·rename_i h1 h2 h3
  refine ⟨by omega, by omega, by omega, fun x hx => ?_⟩
  obtain ⟨h5, h6⟩ := okA_t (List.all_eq_true.1 h3 x hx)
  exact ⟨okV_t h5, okV_t h6⟩
 ·cases h
set_option maxHeartbeats 800000 in
theorem check_any (N : Int) (a : Option Addr) (l : List A) (cap : Nat) (w : World) (hl : l.length ≤ 9223372036854775807) (hr : Arcs w a l) :
  Calls Tryz.prog 105 #[.agg #[.int .i64 N, .slice a l.length cap]] w fun e w' => e = .returned (.tuple #[.int .i64 (chkAt N l), .int .i64 (chkE N l)]) ∧ Below w.heap.size w w' := by
 by_cases h1 : N < 1
 ·rw [(chk_range (l := l) (Or.inl h1)).1, (chk_range (l := l) (Or.inl h1)).2]
  go_enter Tryz.func105, Tryz.ntmps105
  go_wp2_with fail
  go_ret2
  exact ⟨rfl, (Below.refl _ _).alloc (Nat.le_refl _) _⟩
 by_cases h2 : 1024 < N
 ·rw [(chk_range (l := l) (Or.inr h2)).1, (chk_range (l := l) (Or.inr h2)).2]
  go_enter Tryz.func105, Tryz.ntmps105
  go_wp2_with fail
  go_ret2
  exact ⟨rfl, (Below.refl _ _).alloc (Nat.le_refl _) _⟩
 have hN : ¬ (N < 1 ∨ 1024 < N) := by omega
 by_cases h3 : 8192 < l.length
 ·have h3' : (8192 : Int) < l.length := by omega
  rw [(chk_long hN h3).1, (chk_long hN h3).2]
  clear hN
  go_enter Tryz.func105, Tryz.ntmps105
  go_wp2_with fail
  go_ret2
  exact ⟨rfl, (Below.refl _ _).alloc (Nat.le_refl _) _⟩
 have h3' : ¬ (8192 : Int) < l.length := by omega
 have HN := Lib.hid hN
 clear hN
 obtain ⟨E, HE⟩ := named (chkE N l)
 obtain ⟨T, HAT⟩ := named (chkAt N l)
 rw [HE.out, HAT.out]
 have hb0 : Below w.heap.size w (w.alloc (.cells #[.int .i64 N, .slice a l.length cap] 24)) := (Below.refl _ _).alloc (Nat.le_refl _) _
 obtain ⟨b, o, hab⟩ : ∃ b o, 0 < l.length → a = some ⟨b, o, none⟩ ∧ b < w.heap.size ∧ ∀ j, j < l.length → (l.getD j A.zero).at w b (o + j * 3) := by
  rcases hr with rfl | ⟨b, o, h⟩
  ·exact ⟨0, 0, fun h => absurd h (by simp)⟩
  ·exact ⟨b, o, fun _ => h⟩
 go_enter Tryz.func105, Tryz.ntmps105
 go_wp2_with fail
 go_loopw [21] (fun i wr => ∃ k : Nat, k ≤ l.length ∧ i = .int .i64 k ∧ Hid ((l.take k).all (okA N) = true) ∧ wr.heap[w.heap.size]? = some (.cells #[.int .i64 N, .slice a l.length cap] 24) ∧ Below w.heap.size w wr) (fun i _ => l.length - (intOf i).toNat)
 case atStart => exact ⟨0, Nat.zero_le _, rfl, by show _ = _; simp, heap_top w _, hb0⟩
 case round =>
  obtain ⟨k, hk, rfl, hall, hg, hb⟩ := hrel
  obtain ⟨⟨g0, g1⟩, gf0, gf1⟩ := two_cells hg
  have hsz : w.heap.size < wr.heap.size := lt_of_block hg
  by_cases hlt : k < l.length
  ·obtain ⟨rfl, hbl, hat⟩ := hab (by omega)
   obtain ⟨c0, c1, c2⟩ := (hat k hlt).on hb
   have HT := Lib.hid (fun (h : okA N (l.getD k A.zero) = true) => all_take hlt hall.out h)
   have HF := Lib.hid (fun (h : okA N (l.getD k A.zero) = false) => find_at hlt hall.out h)
   generalize l.getD k A.zero = x at *
   go_wp2_with fail
   refine (vert_any N x.f _ _ _ _).mono ?_
   rintro e w2 ⟨rfl, hb2⟩
   obtain ⟨hg2, hx2⟩ := keep1 hg hb2
   have s2 : wr.heap.size < w2.heap.size := lt_of_block hx2
   have b2 : Below w.heap.size w w2 := bthen (hb.alloc (by omega) _) hb2 (by simp; omega)
   clear hb2 hg g0 g1 gf0 gf1 c0 c1 c2 hb
   obtain ⟨⟨g0, g1⟩, gf0, gf1⟩ := two_cells hg2
   obtain ⟨c0, c1, c2⟩ := three_cells hx2
   by_cases h5 : okV N x.f = true
   ·rw [h5]
    go_wp2_with fail
    refine (vert_any N x.t _ _ _ _).mono ?_
    rintro e w3 ⟨rfl, hb3⟩
    have hg3 := (hb3.block _ (lt_of_block hg2)).trans hg2
    have b3 : Below w.heap.size w w3 := bthen b2 hb3 (by omega)
    clear hb3 hg2 g0 g1 gf0 gf1 c0 c1 c2 b2 hx2
    by_cases h6 : okV N x.t = true
    ·rw [h6]
     have hA : okA N x = true := by simp [okA, h5, h6]
     go_wp2_with fail
     exact ⟨⟨k + 1, by omega, by go_num, HT.out hA, hg3, b3⟩, by simp [intOf]; omega⟩
    ·have h6' : okV N x.t = false := by simpa using h6
     rw [h6']
     have hE := chk_bad HN.out h3 (HF.out (by simp [okA, h6']))
     rw [HE.out, HAT.out] at hE
     obtain ⟨rfl, rfl⟩ := hE
     go_wp2_with fail
     go_ret2
     exact ⟨rfl, b3⟩
   ·have h5' : okV N x.f = false := by simpa using h5
    rw [h5']
    have hE := chk_bad HN.out h3 (HF.out (by simp [okA, h5']))
    rw [HE.out, HAT.out] at hE
    obtain ⟨rfl, rfl⟩ := hE
    go_wp2_with fail
    go_ret2
    exact ⟨rfl, b2⟩
  ·have hE := chk_ok HN.out h3 (by have := hall.out; rw [List.take_of_length_le (by omega)] at this; exact this)
   rw [HE.out, HAT.out] at hE
   obtain ⟨rfl, rfl⟩ := hE
   go_wp2_with fail
   go_ret2
   exact ⟨rfl, hb⟩
end Go.Proofs.YtaafkpojjdjphaaGreat.N5
namespace Go.Proofs.YtaafkpojjdjphaaGreat.N5.Hp
structure M where
 id : Nat
 key : Int
deriving DecidableEq
def M.zero : M := ⟨0, 0⟩
instance : Inhabited M := ⟨M.zero⟩
def ahead (a b : M) : Bool := decide (a.key < b.key ∨ a.key = b.key ∧ a.id < b.id)
def le (a b : M) : Prop := a.key < b.key ∨ a.key = b.key ∧ a.id ≤ b.id
theorem le_t {a b : M} (h : ahead a b = true) : le a b := by unfold ahead at h; unfold le; simp at h; omega
theorem le_f {a b : M} (h : ahead a b = false) : le b a := by unfold ahead at h; unfold le; simp at h; omega
theorem le_rfl (a : M) : le a a := by unfold le; omega
theorem le.trans {a b c : M} (h : le a b) (k : le b c) : le a c := by unfold le at *; omega
def gm (ms : List M) (i : Nat) : M := ms.getD i M.zero
theorem gm_set {ms : List M} {k i : Nat} {x : M} (hk : k < ms.length) : gm (ms.set k x) i = if i = k then x else gm ms i := by
 unfold gm
 simp only [List.getD_eq_getElem?_getD, List.getElem?_set]
 by_cases h : i = k
 ·subst h; simp [hk]
 ·rw [if_neg (fun e => h e.symm), if_neg h]
theorem gm_self {ms : List M} {k : Nat} {x : M} (hk : k < ms.length) : gm (ms.set k x) k = x := by rw [gm_set hk, if_pos rfl]
theorem gm_ne {ms : List M} {k i : Nat} {x : M} (h : i ≠ k) (hk : k < ms.length) : gm (ms.set k x) i = gm ms i := by rw [gm_set hk, if_neg h]
theorem pl_set {pl : List Int} {k i : Nat} {x : Int} (hk : k < pl.length) : (pl.set k x).getD i 0 = if i = k then x else pl.getD i 0 := by
 simp only [List.getD_eq_getElem?_getD, List.getElem?_set]
 by_cases h : i = k
 ·subst h; simp [hk]
 ·rw [if_neg (fun e => h e.symm), if_neg h]
def upd (T : Nat → Option Int) (x : Nat) (v : Option Int) : Nat → Option Int := fun y => if y = x then v else T y
theorem upd_self (T : Nat → Option Int) (x : Nat) (v : Option Int) : upd T x v x = v := by simp [upd]
theorem upd_ne (T : Nat → Option Int) {x y : Nat} (v : Option Int) (h : y ≠ x) : upd T x v y = T y := by simp [upd, h]
structure WF (n : Nat) (ms : List M) (pl : List Int) (T : Nat → Option Int) : Prop where
 pn : pl.length = n
 mem : ∀ i, i < ms.length → (gm ms i).id < n ∧ pl.getD (gm ms i).id 0 = (i : Int) + 1 ∧ T (gm ms i).id = some (gm ms i).key
 all : ∀ x, x < n → (pl.getD x 0 = 0 ∧ T x = none) ∨ ∃ i, i < ms.length ∧ pl.getD x 0 = (i : Int) + 1 ∧ (gm ms i).id = x
 out : ∀ x, n ≤ x → T x = none
 ord : ∀ i, 0 < i → i < ms.length → le (gm ms ((i - 1) / 2)) (gm ms i)
structure PG (n : Nat) (ms : List M) (pl : List Int) (T : Nat → Option Int) (k : Nat) (m : M) : Prop where
 pn : pl.length = n
 kl : k < ms.length
 mn : m.id < n
 mt : T m.id = some m.key
 mem : ∀ i, i < ms.length → i ≠ k → (gm ms i).id < n ∧ (gm ms i).id ≠ m.id ∧ pl.getD (gm ms i).id 0 = (i : Int) + 1 ∧ T (gm ms i).id = some (gm ms i).key
 all : ∀ x, x < n → x ≠ m.id → (pl.getD x 0 = 0 ∧ T x = none) ∨ ∃ i, i < ms.length ∧ i ≠ k ∧ pl.getD x 0 = (i : Int) + 1 ∧ (gm ms i).id = x
 out : ∀ x, n ≤ x → T x = none
 o1 : ∀ i, 0 < i → i < ms.length → i ≠ k → (i - 1) / 2 ≠ k → le (gm ms ((i - 1) / 2)) (gm ms i)
 o2 : ∀ i, 0 < i → i < ms.length → (i - 1) / 2 = k → 0 < k → le (gm ms ((k - 1) / 2)) (gm ms i)
def O3 (ms : List M) (k : Nat) (m : M) : Prop := ∀ i, 0 < i → i < ms.length → (i - 1) / 2 = k → le m (gm ms i)
section
variable {n : Nat} {ms : List M} {pl : List Int} {T : Nat → Option Int} {k : Nat} {m : M}
theorem PG.move (h : PG n ms pl T k m) {c : Nat} (hc : c < ms.length) (hne : c ≠ k)
  (o1 : ∀ i, 0 < i → i < ms.length → i ≠ c → (i - 1) / 2 ≠ c → le (gm (ms.set k (gm ms c)) ((i - 1) / 2)) (gm (ms.set k (gm ms c)) i))
  (o2 : ∀ i, 0 < i → i < ms.length → (i - 1) / 2 = c → 0 < c → le (gm (ms.set k (gm ms c)) ((c - 1) / 2)) (gm (ms.set k (gm ms c)) i)) :
  PG n (ms.set k (gm ms c)) (pl.set (gm ms c).id ((k : Int) + 1)) T c m := by
 obtain ⟨h1, h2, h3, h4⟩ := h.mem c hc hne
 have hpl : (gm ms c).id < pl.length := by rw [h.pn]; exact h1
 refine ⟨by simp [h.pn], by simpa using hc, h.mn, h.mt, fun i hi hic => ?_, fun x hx hxm => ?_, h.out, fun i a b => o1 i a (by simpa using b), fun i a b => o2 i a (by simpa using b)⟩
 ·simp only [List.length_set] at hi
  by_cases hik : i = k
  ·subst hik
   rw [gm_self h.kl, pl_set hpl, if_pos rfl]
   exact ⟨h1, h2, rfl, h4⟩
  ·rw [gm_ne hik h.kl]
   obtain ⟨g1, g2, g3, g4⟩ := h.mem i hi hik
   refine ⟨g1, g2, ?_, g4⟩
   rw [pl_set hpl, if_neg]
   ·exact g3
   ·intro e
    rw [e] at g3
    omega
 ·simp only [List.length_set]
  rcases h.all x hx hxm with ⟨a, b⟩ | ⟨i, a, b, c', d⟩
  ·refine Or.inl ⟨?_, b⟩
   rw [pl_set hpl, if_neg]
   ·exact a
   ·intro e
    subst e
    omega
  ·by_cases hic : i = c
   ·subst hic
    refine Or.inr ⟨k, h.kl, fun e => hne e.symm, ?_, ?_⟩
    ·rw [pl_set hpl, if_pos d.symm]
    ·rw [gm_self h.kl]; exact d
   ·refine Or.inr ⟨i, a, hic, ?_, ?_⟩
    ·rw [pl_set hpl, if_neg]
     ·exact c'
     ·intro e
      rw [e] at c'
      omega
    ·rw [gm_ne b h.kl]; exact d
theorem PG.up (h : PG n ms pl T k m) (h3 : O3 ms k m) (hk : 0 < k) (ha : ahead m (gm ms ((k - 1) / 2)) = true) :
  PG n (ms.set k (gm ms ((k - 1) / 2))) (pl.set (gm ms ((k - 1) / 2)).id ((k : Int) + 1)) T ((k - 1) / 2) m ∧ O3 (ms.set k (gm ms ((k - 1) / 2))) ((k - 1) / 2) m := by
 have hkl := h.kl
 have hne : (k - 1) / 2 ≠ k := by omega
 have hP := le_t ha
 constructor
 ·refine h.move (by omega) hne (fun i hi0 hi hic hpc => ?_) (fun i hi0 hi hpc hc0 => ?_)
  ·by_cases hik : i = k
   ·subst hik; exact absurd rfl hpc
   ·rw [gm_ne hik hkl]
    by_cases hpk : (i - 1) / 2 = k
    ·rw [hpk, gm_self hkl]
     exact h.o2 i hi0 hi hpk hk
    ·rw [gm_ne hpk hkl]
     exact h.o1 i hi0 hi hik hpk
  ·rw [gm_ne (by omega) hkl]
   have hup : le (gm ms (((k - 1) / 2 - 1) / 2)) (gm ms ((k - 1) / 2)) := h.o1 _ hc0 (by omega) (by omega) (by omega)
   by_cases hik : i = k
   ·subst hik; rw [gm_self hkl]; exact hup
   ·rw [gm_ne hik hkl]
    refine hup.trans ?_
    have := h.o1 i hi0 hi hik (by omega)
    rw [hpc] at this
    exact this
 ·intro i hi0 hi hpc
  simp only [List.length_set] at hi
  by_cases hik : i = k
  ·subst hik; rw [gm_self hkl]; exact hP
  ·rw [gm_ne hik hkl]
   refine hP.trans ?_
   have := h.o1 i hi0 hi hik (by omega)
   rw [hpc] at this
   exact this
theorem PG.down (h : PG n ms pl T k m) {c : Nat} (hc : c < ms.length) (hc0 : 0 < c) (hck : (c - 1) / 2 = k) (hl : ∀ i, 0 < i → i < ms.length → (i - 1) / 2 = k → le (gm ms c) (gm ms i)) :
  PG n (ms.set k (gm ms c)) (pl.set (gm ms c).id ((k : Int) + 1)) T c m := by
 have hkl := h.kl
 have hne : c ≠ k := by omega
 refine h.move hc hne (fun i hi0 hi hic hpc => ?_) (fun i hi0 hi hpc hc0 => ?_)
 ·by_cases hik : i = k
  ·subst hik
   rw [gm_self hkl, gm_ne (by omega) hkl]
   exact h.o2 c hc0 hc hck hi0
  ·rw [gm_ne hik hkl]
   by_cases hpk : (i - 1) / 2 = k
   ·rw [hpk, gm_self hkl]
    exact hl i hi0 hi hpk
   ·rw [gm_ne hpk hkl]
    exact h.o1 i hi0 hi hik hpk
 ·rw [hck, gm_self hkl, gm_ne (by omega) hkl]
  have := h.o1 i hi0 hi (by omega) (by omega)
  rw [hpc] at this
  exact this
theorem PG.fill (h : PG n ms pl T k m) (h3 : O3 ms k m) (hk : k = 0 ∨ le (gm ms ((k - 1) / 2)) m) : WF n (ms.set k m) (pl.set m.id ((k : Int) + 1)) T := by
 have hkl := h.kl
 have hpl : m.id < pl.length := by rw [h.pn]; exact h.mn
 refine ⟨by simp [h.pn], fun i hi => ?_, fun x hx => ?_, h.out, fun i hi0 hi => ?_⟩
 ·simp only [List.length_set] at hi
  by_cases hik : i = k
  ·subst hik
   rw [gm_self hkl, pl_set hpl, if_pos rfl]
   exact ⟨h.mn, rfl, h.mt⟩
  ·rw [gm_ne hik hkl]
   obtain ⟨g1, g2, g3, g4⟩ := h.mem i hi hik
   refine ⟨g1, ?_, g4⟩
   rw [pl_set hpl, if_neg g2]
   exact g3
 ·simp only [List.length_set]
  by_cases hxm : x = m.id
  ·refine Or.inr ⟨k, hkl, ?_, ?_⟩
   ·rw [pl_set hpl, if_pos hxm]
   ·rw [gm_self hkl]; exact hxm.symm
  ·rcases h.all x hx hxm with ⟨a, b⟩ | ⟨i, a, b, c', d⟩
   ·refine Or.inl ⟨?_, b⟩
    rw [pl_set hpl, if_neg hxm]
    exact a
   ·refine Or.inr ⟨i, a, ?_, ?_⟩
    ·rw [pl_set hpl, if_neg hxm]
     exact c'
    ·rw [gm_ne b hkl]; exact d
 ·simp only [List.length_set] at hi
  by_cases hik : i = k
  ·subst hik
   rw [gm_self hkl, gm_ne (by omega) hkl]
   rcases hk with hk | hk
   ·omega
   ·exact hk
  ·rw [gm_ne hik hkl]
   by_cases hpk : (i - 1) / 2 = k
   ·rw [hpk, gm_self hkl]
    exact h3 i hi0 hi hpk
   ·rw [gm_ne hpk hkl]
    exact h.o1 i hi0 hi hik hpk
theorem WF.find (h : WF n ms pl T) {x : Nat} (hx : x < n) : (pl.getD x 0 = 0 ∧ T x = none) ∨ ∃ i, i < ms.length ∧ pl.getD x 0 = (i : Int) + 1 ∧ (gm ms i).id = x ∧ T x = some (gm ms i).key := by
 rcases h.all x hx with a | ⟨i, a, b, c⟩
 ·exact Or.inl a
 ·exact Or.inr ⟨i, a, b, c, by rw [← c]; exact (h.mem i a).2.2⟩
theorem WF.lower (h : WF n ms pl T) {i : Nat} (hi : i < ms.length) {key : Int} (hk : ahead ⟨(gm ms i).id, key⟩ (gm ms i) = true) :
  PG n ms pl (upd T (gm ms i).id (some key)) i ⟨(gm ms i).id, key⟩ ∧ O3 ms i ⟨(gm ms i).id, key⟩ := by
 obtain ⟨g1, g2, g3⟩ := h.mem i hi
 have hne : ∀ j, j < ms.length → j ≠ i → (gm ms j).id ≠ (gm ms i).id := by
  intro j hj hji e
  have := (h.mem j hj).2.1
  rw [e] at this
  omega
 refine ⟨⟨h.pn, hi, g1, upd_self _ _ _, fun j hj hji => ?_, fun x hx hxm => ?_, fun x hx => ?_, fun j h0 hj _ _ => h.ord j h0 hj, fun j h0 hj hp h1 => ?_⟩, fun j h0 hj hp => ?_⟩
 ·obtain ⟨a, b, c⟩ := h.mem j hj
  exact ⟨a, hne j hj hji, b, by rw [upd_ne _ _ (hne j hj hji)]; exact c⟩
 ·rw [upd_ne _ _ hxm]
  rcases h.all x hx with a | ⟨j, a, b, c⟩
  ·exact Or.inl a
  ·exact Or.inr ⟨j, a, fun e => hxm (by rw [← c, e]), b, c⟩
 ·rw [upd_ne _ _ (by omega)]; exact h.out x hx
 ·have a := h.ord i h1 hi
  have b := h.ord j h0 hj
  rw [hp] at b
  exact a.trans b
 ·have b := h.ord j h0 hj
  rw [hp] at b
  exact (le_t hk).trans b
theorem gm_app_l {ms : List M} {i : Nat} {x : M} (h : i < ms.length) : gm (ms ++ [x]) i = gm ms i := by
 unfold gm; simp only [List.getD_eq_getElem?_getD]; rw [List.getElem?_append_left h]
theorem WF.add (h : WF n ms pl T) {x : Nat} (hx : x < n) (h0 : T x = none) (key : Int) :
  PG n (ms ++ [⟨x, key⟩]) pl (upd T x (some key)) ms.length ⟨x, key⟩ ∧ O3 (ms ++ [⟨x, key⟩]) ms.length ⟨x, key⟩ := by
 have hne : ∀ j, j < ms.length → (gm ms j).id ≠ x := by
  intro j hj e
  have := (h.mem j hj).2.2
  rw [e, h0] at this
  cases this
 refine ⟨⟨h.pn, by simp, hx, upd_self _ _ _, fun j hj hji => ?_, fun y hy hym => ?_, fun y hy => ?_, fun j h0 hj hjk hp => ?_, fun j h0 hj hp h1 => ?_⟩, fun j h0 hj hp => ?_⟩
 ·simp at hj
  have hj' : j < ms.length := by omega
  rw [gm_app_l hj']
  obtain ⟨a, b, c⟩ := h.mem j hj'
  exact ⟨a, hne j hj', b, by rw [upd_ne _ _ (hne j hj')]; exact c⟩
 ·show (_ ∧ upd T x _ y = none) ∨ _
  rw [upd_ne _ _ hym]
  rcases h.all y hy with a | ⟨j, a, b, c⟩
  ·exact Or.inl a
  ·exact Or.inr ⟨j, by simp; omega, by omega, b, by rw [gm_app_l a]; exact c⟩
 ·rw [upd_ne _ _ (by omega)]; exact h.out y hy
 ·simp at hj
  rw [gm_app_l (by omega), gm_app_l (by omega)]
  exact h.ord j h0 (by omega)
 ·simp at hj; omega
 ·simp at hj; omega
theorem gm_drop {ms : List M} {i : Nat} (h : i < ms.length - 1) : gm ms.dropLast i = gm ms i := by
 unfold gm; simp only [List.getD_eq_getElem?_getD]; rw [List.getElem?_dropLast, if_pos h]
theorem WF.takeEnd (h : WF n ms pl T) (hl : 0 < ms.length) : WF n ms.dropLast (pl.set (gm ms (ms.length - 1)).id 0) (upd T (gm ms (ms.length - 1)).id none) := by
 obtain ⟨g1, g2, g3⟩ := h.mem (ms.length - 1) (by omega)
 have hpl : (gm ms (ms.length - 1)).id < pl.length := by rw [h.pn]; exact g1
 have hne : ∀ j, j < ms.length - 1 → (gm ms j).id ≠ (gm ms (ms.length - 1)).id := by
  intro j hj e
  have := (h.mem j (by omega)).2.1
  rw [e] at this
  omega
 refine ⟨by simp [h.pn], fun j hj => ?_, fun x hx => ?_, fun x hx => ?_, fun j h0 hj => ?_⟩
 ·simp at hj
  rw [gm_drop hj]
  obtain ⟨a, b, c⟩ := h.mem j (by omega)
  exact ⟨a, by rw [pl_set hpl, if_neg (hne j hj)]; exact b, by rw [upd_ne _ _ (hne j hj)]; exact c⟩
 ·by_cases hxm : x = (gm ms (ms.length - 1)).id
  ·exact Or.inl ⟨by rw [pl_set hpl, if_pos hxm], by rw [hxm]; exact upd_self _ _ _⟩
  ·rw [pl_set hpl, if_neg hxm, upd_ne _ _ hxm]
   rcases h.all x hx with a | ⟨j, a, b, c⟩
   ·exact Or.inl a
   ·have hj : j < ms.length - 1 := by
     by_cases e : j = ms.length - 1
     ·subst e; exact absurd c.symm hxm
     ·omega
    exact Or.inr ⟨j, by simpa using hj, b, by rw [gm_drop hj]; exact c⟩
 ·by_cases hxm : x = (gm ms (ms.length - 1)).id
  ·rw [hxm]; exact upd_self _ _ _
  ·rw [upd_ne _ _ hxm]; exact h.out x hx
 ·simp at hj
  rw [gm_drop hj, gm_drop (by omega)]
  exact h.ord j h0 (by omega)
theorem WF.takeMid (h : WF n ms pl T) {i : Nat} (hi : i < ms.length - 1) : PG n ms.dropLast (pl.set (gm ms i).id 0) (upd T (gm ms i).id none) i (gm ms (ms.length - 1)) := by
 obtain ⟨g1, g2, g3⟩ := h.mem i (by omega)
 obtain ⟨l1, l2, l3⟩ := h.mem (ms.length - 1) (by omega)
 have hpl : (gm ms i).id < pl.length := by rw [h.pn]; exact g1
 have hne : ∀ j j', j < ms.length → j' < ms.length → j ≠ j' → (gm ms j).id ≠ (gm ms j').id := by
  intro j j' hj hj' hd e
  have a := (h.mem j hj).2.1
  have b := (h.mem j' hj').2.1
  rw [e] at a
  omega
 have hlast := hne (ms.length - 1) i (by omega) (by omega) (by omega)
 refine ⟨by simp [h.pn], by simpa using hi, l1, by rw [upd_ne _ _ hlast]; exact l3, fun j hj hji => ?_, fun x hx hxm => ?_, fun x hx => ?_, fun j h0 hj _ _ => ?_, fun j h0 hj hp h1 => ?_⟩
 ·simp at hj
  rw [gm_drop hj]
  obtain ⟨a, b, c⟩ := h.mem j (by omega)
  have e := hne j i (by omega) (by omega) hji
  exact ⟨a, hne j _ (by omega) (by omega) (by omega), by rw [pl_set hpl, if_neg e]; exact b, by rw [upd_ne _ _ e]; exact c⟩
 ·by_cases hxi : x = (gm ms i).id
  ·exact Or.inl ⟨by rw [pl_set hpl, if_pos hxi], by rw [hxi]; exact upd_self _ _ _⟩
  ·rw [pl_set hpl, if_neg hxi, upd_ne _ _ hxi]
   rcases h.all x hx with a | ⟨j, a, b, c⟩
   ·exact Or.inl a
   ·have hj : j < ms.length - 1 := by
     by_cases e : j = ms.length - 1
     ·subst e; exact absurd c.symm hxm
     ·omega
    exact Or.inr ⟨j, by simpa using hj, fun e => hxi (by rw [← c, e]), b, by rw [gm_drop hj]; exact c⟩
 ·by_cases hxi : x = (gm ms i).id
  ·rw [hxi]; exact upd_self _ _ _
  ·rw [upd_ne _ _ hxi]; exact h.out x hx
 ·simp at hj
  rw [gm_drop hj, gm_drop (by omega)]
  exact h.ord j h0 (by omega)
 ·simp at hj
  rw [gm_drop hj, gm_drop (by omega)]
  have a := h.ord i h1 (by omega)
  have b := h.ord j h0 (by omega)
  rw [hp] at b
  exact a.trans b
theorem WF.least (h : WF n ms pl T) : ∀ i, i < ms.length → le (gm ms 0) (gm ms i) := by
 intro i
 induction i using Nat.strongRecOn with
 | ind i ih =>
   intro hi
   by_cases h0 : i = 0
   ·subst h0; exact le_rfl _
   ·exact (ih ((i - 1) / 2) (by omega) (by omega)).trans (h.ord i (by omega) hi)
theorem WF.top (h : WF n ms pl T) (hl : 0 < ms.length) : T (gm ms 0).id = some (gm ms 0).key ∧ (gm ms 0).id < n ∧ ∀ x key, T x = some key → (gm ms 0).key < key ∨ (gm ms 0).key = key ∧ (gm ms 0).id ≤ x := by
 refine ⟨(h.mem 0 hl).2.2, (h.mem 0 hl).1, fun x key hx => ?_⟩
 by_cases hn : x < n
 ·rcases h.find hn with ⟨_, a⟩ | ⟨i, a, _, c, d⟩
  ·rw [a] at hx; cases hx
  ·rw [d] at hx
   have := h.least i a
   unfold le at this
   rw [c, Option.some.inj hx] at this
   exact this
 ·rw [h.out x (by omega)] at hx; cases hx
def cnt (T : Nat → Option Int) (n : Nat) : Nat := ((List.range n).filter (fun x => (T x).isSome)).length
theorem gm_get {ms : List M} {i : Nat} (h : i < ms.length) : gm ms i = ms[i] := by unfold gm; simp [List.getD_eq_getElem?_getD, h]
theorem WF.cnt (h : WF n ms pl T) : cnt T n = ms.length := by
 have e : ((List.range n).filter (fun x => (T x).isSome)).Perm (ms.map M.id) := by
  rw [List.perm_ext_iff_of_nodup]
  ·intro x
   simp only [List.mem_filter, List.mem_range, List.mem_map]
   constructor
   ·rintro ⟨hx, hs⟩
    rcases h.find hx with ⟨_, a⟩ | ⟨i, a, _, c, _⟩
    ·rw [a] at hs; cases hs
    ·exact ⟨gm ms i, by rw [gm_get a]; exact List.getElem_mem a, c⟩
   ·rintro ⟨m, hm, rfl⟩
    obtain ⟨i, hi, rfl⟩ := List.mem_iff_getElem.1 hm
    obtain ⟨a, _, c⟩ := h.mem i hi
    rw [gm_get hi] at a c
    exact ⟨a, by rw [c]; rfl⟩
  ·exact List.nodup_range.filter _
  ·rw [List.nodup_iff_pairwise_ne, List.pairwise_iff_getElem]
   intro i j hi hj hij
   simp at hi hj
   simp only [List.getElem_map]
   intro e'
   have a := (h.mem i hi).2.1
   have b := (h.mem j hj).2.1
   rw [gm_get hi] at a
   rw [gm_get hj, ← e'] at b
   omega
 have := e.length_eq
 simpa [YtaafkpojjdjphaaGreat.N5.Hp.cnt] using this
theorem WF.empty (n : Nat) : WF n [] (List.replicate n 0) (fun _ => none) :=
 ⟨by simp, fun i hi => absurd hi (by simp), fun x hx => Or.inl ⟨by simp [List.getD_eq_getElem?_getD, hx], rfl⟩, fun _ _ => rfl, fun i _ hi => absurd hi (by simp)⟩
end
end Go.Proofs.YtaafkpojjdjphaaGreat.N5.Hp
namespace Go.Proofs.YtaafkpojjdjphaaGreat.N5
open Hp (upd upd_self upd_ne)
def Inf : Int := 18446744073709551615
def src (x : A) : Nat := x.f.toNat
def dst (x : A) : Nat := x.t.toNat
def sat (a b : Int) : Int := if Inf ≤ a + b then Inf else a + b
theorem sat_le (a b : Int) : sat a b ≤ a + b := by unfold sat; split <;> omega
theorem sat_inf (a b : Int) : sat a b ≤ Inf := by unfold sat; split <;> omega
theorem sat_lt {a b : Int} (h : sat a b < Inf) : sat a b = a + b := by unfold sat at *; split at h <;> split <;> omega
theorem sat_ge {a b x : Int} (h : x ≤ a + b) (hx : x ≤ Inf) : x ≤ sat a b := by unfold sat; split <;> omega
def ar (l : List A) (j : Nat) : A := l.getD j A.zero
theorem ar_mem {l : List A} {j : Nat} (h : j < l.length) : ar l j ∈ l := by unfold ar; rw [List.getD_eq_getElem?_getD, List.getElem?_eq_getElem h]; simp
theorem mem_ar {l : List A} {x : A} (h : x ∈ l) : ∃ j, j < l.length ∧ ar l j = x := by
 obtain ⟨j, hj, e⟩ := List.getElem_of_mem h
 exact ⟨j, hj, by unfold ar; rw [List.getD_eq_getElem?_getD, List.getElem?_eq_getElem hj]; simpa using e⟩
structure RG (n : Nat) (l : List A) : Prop where
 n1 : 1 ≤ n
 nb : n ≤ 1024
 lb : l.length ≤ 8192
 ends : ∀ x ∈ l, (0 ≤ x.f ∧ x.f < n) ∧ (0 ≤ x.t ∧ x.t < n)
 wt : ∀ x ∈ l, 0 ≤ x.w ∧ x.w < 4294967296
theorem RG.src_lt {n : Nat} {l : List A} (g : RG n l) {x : A} (h : x ∈ l) : src x < n := by have := g.ends x h; unfold src; omega
theorem RG.dst_lt {n : Nat} {l : List A} (g : RG n l) {x : A} (h : x ∈ l) : dst x < n := by have := g.ends x h; unfold dst; omega
theorem RG.f_eq {n : Nat} {l : List A} (g : RG n l) {x : A} (h : x ∈ l) : x.f = (src x : Nat) := by have := g.ends x h; unfold src; omega
theorem RG.t_eq {n : Nat} {l : List A} (g : RG n l) {x : A} (h : x ∈ l) : x.t = (dst x : Nat) := by have := g.ends x h; unfold dst; omega
inductive Wk (l : List A) (ok : Nat → Bool) (s : Nat) : Nat → Int → Prop
 | nil : ok s = true → Wk l ok s s 0
 | snoc {x : A} {d : Int} : x ∈ l → Wk l ok s (src x) d → ok (dst x) = true → Wk l ok s (dst x) (d + x.w)
structure IsD (l : List A) (ok : Nat → Bool) (s : Nat) (F : Nat → Int) : Prop where
 lo : ∀ v, 0 ≤ F v
 hi : ∀ v, F v ≤ Inf
 wk : ∀ v, F v < Inf → Wk l ok s v (F v)
 le : ∀ v d, Wk l ok s v d → F v ≤ d
theorem IsD.unique {l : List A} {ok : Nat → Bool} {s : Nat} {F G : Nat → Int} (h : IsD l ok s F) (k : IsD l ok s G) : F = G := by
 funext v
 have a : F v ≤ G v := by
  by_cases e : G v < Inf
  ·exact h.le v _ (k.wk v e)
  ·have := h.hi v; omega
 have b : G v ≤ F v := by
  by_cases e : F v < Inf
  ·exact k.le v _ (h.wk v e)
  ·have := k.hi v; omega
 omega
def updI (F : Nat → Int) (x : Nat) (d : Int) : Nat → Int := fun y => if y = x then d else F y
theorem updI_self (F : Nat → Int) (x : Nat) (d : Int) : updI F x d x = d := by simp [updI]
theorem updI_ne (F : Nat → Int) {x y : Nat} (d : Int) (h : y ≠ x) : updI F x d y = F y := by simp [updI, h]
structure Inv (l : List A) (ok : Nat → Bool) (s : Nat) (F : Nat → Int) (T : Nat → Option Int) (K : Nat) (pe : Nat → Prop) : Prop where
 lo : ∀ v, 0 ≤ F v
 hi : ∀ v, F v ≤ Inf
 wk : ∀ v, F v < Inf → Wk l ok s v (F v)
 key : ∀ v k, T v = some k → k = F v ∧ F v < Inf
 st : ∀ j, j < l.length → ¬ pe j → F (src (ar l j)) < Inf → T (src (ar l j)) = none → ok (dst (ar l j)) = true → F (dst (ar l j)) ≤ F (src (ar l j)) + (ar l j).w
 mono : ∀ u v k, F u < Inf → T u = none → T v = some k → F u ≤ k
 s0 : ok s = true → F s ≤ 0
 bnd : ∀ v, F v < Inf → F v ≤ K * 4294967296
theorem Inv.reach {l : List A} {ok : Nat → Bool} {s : Nat} {F : Nat → Int} {T : Nat → Option Int} {K : Nat} (h : Inv l ok s F T K (fun _ => False)) (hw : ∀ x ∈ l, 0 ≤ x.w) {v : Nat} {d : Int} (w : Wk l ok s v d) :
  F v ≤ d ∨ ∃ u k, T u = some k ∧ k ≤ d := by
 induction w with
 | nil e => exact Or.inl (h.s0 e)
 | snoc hx _ ho ih =>
   rename_i x d hd
   have hwx := hw x hx
   rcases ih with ih | ⟨u, k, h1, h2⟩
   ·by_cases e : F (src x) < Inf
    ·cases ht : T (src x) with
     | none =>
       obtain ⟨j, hj, rfl⟩ := mem_ar hx
       have := h.st j hj (fun h => h) e ht ho
       exact Or.inl (by omega)
     | some k =>
       obtain ⟨h1, h2⟩ := h.key _ _ ht
       exact Or.inr ⟨_, k, ht, by omega⟩
    ·have := h.hi (dst x)
     exact Or.inl (by omega)
   ·exact Or.inr ⟨u, k, h1, by omega⟩
theorem Inv.exact {l : List A} {ok : Nat → Bool} {s : Nat} {F : Nat → Int} {T : Nat → Option Int} {K : Nat} (h : Inv l ok s F T K (fun _ => False)) (hw : ∀ x ∈ l, 0 ≤ x.w) {v : Nat} (hk : ∀ u k, T u = some k → F v ≤ k) {d : Int} (w : Wk l ok s v d) : F v ≤ d := by
 rcases h.reach hw w with h1 | ⟨u, k, h1, h2⟩
 ·exact h1
 ·have := hk u k h1; omega
theorem Inv.isD {l : List A} {ok : Nat → Bool} {s : Nat} {F : Nat → Int} {T : Nat → Option Int} {K : Nat} (h : Inv l ok s F T K (fun _ => False)) (hw : ∀ x ∈ l, 0 ≤ x.w) (hk : ∀ u, T u = none) : IsD l ok s F :=
 ⟨h.lo, h.hi, h.wk, fun v d w => h.exact hw (fun u k e => by rw [hk u] at e; cases e) w⟩
theorem Inv.init (l : List A) (ok : Nat → Bool) (s : Nat) (pe : Nat → Prop) (h : ok s = false) : Inv l ok s (fun _ => Inf) (fun _ => none) 0 pe :=
 ⟨fun _ => (by unfold Inf; omega), fun _ => Int.le_refl _, fun _ e => absurd e (by omega), fun _ _ e => (by cases e), fun _ _ _ e => absurd e (by omega), fun _ _ _ e => absurd e (by omega), fun e => (by rw [h] at e; cases e), fun _ e => absurd e (by omega)⟩
theorem Inv.init0 (l : List A) (ok : Nat → Bool) (s : Nat) (pe : Nat → Prop) (h : ok s = true) : Inv l ok s (updI (fun _ => Inf) s 0) (upd (fun _ => none) s (some 0)) 0 pe := by
 have c : ∀ v, updI (fun _ => Inf) s 0 v = if v = s then 0 else Inf := fun v => rfl
 have t : ∀ v, upd (fun _ => none) s (some 0) v = if v = s then some 0 else none := fun v => rfl
 have i0 : (0 : Int) < Inf := by unfold Inf; omega
 refine ⟨fun v => ?_, fun v => ?_, fun v e => ?_, fun v k e => ?_, fun j _ _ e1 e2 => ?_, fun u v k e1 e2 => ?_, fun _ => ?_, fun v e => ?_⟩
 ·rw [c]; split <;> omega
 ·rw [c]; split <;> omega
 ·rw [c] at e ⊢; split at e
  ·rename_i e'; subst e'; rw [if_pos rfl]; exact Wk.nil h
  ·omega
 ·rw [t] at e; rw [c]; split at e
  ·rename_i e'; rw [if_pos e']; injection e with e; exact ⟨e.symm, i0⟩
  ·cases e
 ·rw [c] at e1; rw [t] at e2; split at e1
  ·rename_i e'; rw [if_pos e'] at e2; cases e2
  ·omega
 ·rw [c] at e1; rw [t] at e2; split at e1
  ·rename_i e'; rw [if_pos e'] at e2; cases e2
  ·omega
 ·rw [c, if_pos rfl]; omega
 ·rw [c] at e ⊢; split at e
  ·rename_i e'; rw [if_pos e']; omega
  ·omega
structure Mid (l : List A) (ok : Nat → Bool) (s : Nat) (F : Nat → Int) (T : Nat → Option Int) (K : Nat) (v : Nat) (d : Int) (k : Nat) : Prop where
 inv : Inv l ok s F T (K + 1) (fun j => src (ar l j) = v ∧ j < k)
 fv : F v = d
 tv : T v = none
 di : d < Inf
 dk : d ≤ K * 4294967296
 top : ∀ u, F u < Inf → T u = none → F u ≤ d
theorem Inv.pop {l : List A} {ok : Nat → Bool} {s : Nat} {F : Nat → Int} {T : Nat → Option Int} {K : Nat} (h : Inv l ok s F T K (fun _ => False)) {v : Nat} {d : Int} (ht : T v = some d) (hm : ∀ y k, T y = some k → d ≤ k) (m : Nat) (hl : l.length ≤ m) :
  Mid l ok s F (upd T v none) K v d m := by
 obtain ⟨e1, e2⟩ := h.key v d ht
 have sub : ∀ y k, upd T v none y = some k → T y = some k := fun y k e => by
  by_cases hy : y = v
  ·subst hy; rw [upd_self] at e; cases e
  ·rwa [upd_ne _ _ hy] at e
 have bn := h.bnd v e2
 refine ⟨⟨h.lo, h.hi, h.wk, fun y k e => h.key y k (sub y k e), fun j hj hp e3 e4 e5 => ?_, fun u y k e3 e4 e5 => ?_, h.s0, fun u e => ?_⟩, e1.symm, upd_self _ _ _, by omega, by omega, fun u e3 e4 => ?_⟩
 ·by_cases hu : src (ar l j) = v
  ·exact absurd ⟨hu, by omega⟩ hp
  ·exact h.st j hj (fun h => h) e3 (by rwa [upd_ne _ _ hu] at e4) e5
 ·by_cases hu : u = v
  ·subst hu; have := hm y k (sub y k e5); omega
  ·exact h.mono u y k e3 (by rwa [upd_ne _ _ hu] at e4) (sub y k e5)
 ·have := h.bnd u e; push_cast; omega
 ·by_cases hu : u = v
  ·subst hu; omega
  ·exact h.mono u v d e3 (by rwa [upd_ne _ _ hu] at e4) ht
theorem Mid.done {l : List A} {ok : Nat → Bool} {s : Nat} {F : Nat → Int} {T : Nat → Option Int} {K v : Nat} {d : Int} {k : Nat} (h : Mid l ok s F T K v d k) (hn : ∀ j, j < k → src (ar l j) ≠ v) : Inv l ok s F T (K + 1) (fun _ => False) :=
 ⟨h.inv.lo, h.inv.hi, h.inv.wk, h.inv.key, fun j hj _ => h.inv.st j hj (fun e => hn j e.2 e.1), h.inv.mono, h.inv.s0, h.inv.bnd⟩
theorem Mid.skip {l : List A} {ok : Nat → Bool} {s : Nat} {F : Nat → Int} {T : Nat → Option Int} {K v : Nat} {d : Int} {k j : Nat} (h : Mid l ok s F T K v d k) (hj : j < l.length) (hs : src (ar l j) = v) (hn : ∀ i, j < i → i < k → src (ar l i) ≠ v)
  (ht : ¬ (ok (dst (ar l j)) = true ∧ sat d (ar l j).w < F (dst (ar l j)))) : Mid l ok s F T K v d j := by
 refine ⟨⟨h.inv.lo, h.inv.hi, h.inv.wk, h.inv.key, fun i hi hp e1 e2 e3 => ?_, h.inv.mono, h.inv.s0, h.inv.bnd⟩, h.fv, h.tv, h.di, h.dk, h.top⟩
 by_cases hij : i = j
 ·subst hij
  have h1 : F (dst (ar l i)) ≤ sat d (ar l i).w := by
   by_cases h2 : sat d (ar l i).w < F (dst (ar l i))
   ·exact absurd ⟨e3, h2⟩ ht
   ·omega
  have h2 := sat_le d (ar l i).w
  rw [hs, h.fv]
  omega
 ·refine h.inv.st i hi (fun e => ?_) e1 e2 e3
  by_cases h2 : i < j
  ·exact hp ⟨e.1, h2⟩
  ·exact hn i (by omega) e.2 e.1
theorem Mid.take {l : List A} {ok : Nat → Bool} {s : Nat} {F : Nat → Int} {T : Nat → Option Int} {K v : Nat} {d : Int} {k j : Nat} (h : Mid l ok s F T K v d k) (hw : ∀ x ∈ l, 0 ≤ x.w ∧ x.w < 4294967296) (hj : j < l.length) (hs : src (ar l j) = v) (hn : ∀ i, j < i → i < k → src (ar l i) ≠ v)
  (ho : ok (dst (ar l j)) = true) (hlt : sat d (ar l j).w < F (dst (ar l j))) : Mid l ok s (updI F (dst (ar l j)) (sat d (ar l j).w)) (upd T (dst (ar l j)) (some (sat d (ar l j).w))) K v d j := by
 have hwx := hw _ (ar_mem hj)
 have hx1 := h.inv.hi (dst (ar l j))
 have hd0 := h.inv.lo v
 rw [h.fv] at hd0
 have hsat : sat d (ar l j).w = d + (ar l j).w := sat_lt (by omega)
 have hwalk : Wk l ok s (dst (ar l j)) (d + (ar l j).w) := by
  refine Wk.snoc (ar_mem hj) ?_ ho
  rw [hs]
  have := h.inv.wk v (by rw [h.fv]; exact h.di)
  rwa [h.fv] at this
 rw [hsat] at hlt ⊢
 have hdk := h.dk
 generalize hX : dst (ar l j) = x at *
 generalize hW : (ar l j).w = wj at *
 have hxs : ¬ (F x < Inf ∧ T x = none) := fun e => by have := h.top x e.1 e.2; omega
 have hxv : v ≠ x := by
  intro e
  refine hxs ⟨?_, ?_⟩
  ·rw [← e, h.fv]; exact h.di
  ·rw [← e]; exact h.tv
 have hT : ∀ y, upd T x (some (d + wj)) y = none → y ≠ x ∧ T y = none := fun y e => by
  by_cases hy : y = x
  ·subst hy; rw [upd_self] at e; cases e
  ·exact ⟨hy, by rwa [upd_ne _ _ hy] at e⟩
 refine ⟨⟨fun y => ?_, fun y => ?_, fun y e => ?_, fun y q e => ?_, fun i hi hp e1 e2 e3 => ?_, fun u y q e1 e2 e3 => ?_, fun e => ?_, fun y e => ?_⟩, ?_, ?_, h.di, h.dk, fun u e1 e2 => ?_⟩
 ·by_cases hy : y = x
  ·subst hy; rw [updI_self]; omega
  ·rw [updI_ne _ _ hy]; exact h.inv.lo y
 ·by_cases hy : y = x
  ·subst hy; rw [updI_self]; omega
  ·rw [updI_ne _ _ hy]; exact h.inv.hi y
 ·by_cases hy : y = x
  ·subst hy; rw [updI_self]; exact hwalk
  ·rw [updI_ne _ _ hy] at e ⊢; exact h.inv.wk y e
 ·by_cases hy : y = x
  ·subst hy; rw [upd_self] at e; rw [updI_self]; injection e with e; exact ⟨e.symm, by omega⟩
  ·rw [upd_ne _ _ hy] at e; rw [updI_ne _ _ hy]; exact h.inv.key y q e
 ·obtain ⟨hux, htu⟩ := hT _ e2
  rw [updI_ne _ _ hux] at e1 ⊢
  by_cases hij : i = j
  ·subst hij
   rw [hX, updI_self, hW, hs, h.fv]
   omega
  ·have h3 : F (dst (ar l i)) ≤ F (src (ar l i)) + (ar l i).w := by
    refine h.inv.st i hi (fun e => ?_) e1 htu e3
    by_cases h2 : i < j
    ·exact hp ⟨e.1, h2⟩
    ·exact hn i (by omega) e.2 e.1
   by_cases hy : dst (ar l i) = x
   ·rw [hy, updI_self]; rw [hy] at h3; omega
   ·rw [updI_ne _ _ hy]; exact h3
 ·obtain ⟨hux, htu⟩ := hT _ e2
  rw [updI_ne _ _ hux] at e1 ⊢
  have h5 := h.top u e1 htu
  by_cases hy : y = x
  ·subst hy; rw [upd_self] at e3; injection e3 with e3; omega
  ·rw [upd_ne _ _ hy] at e3; exact h.inv.mono u y q e1 htu e3
 ·have := h.inv.s0 e
  by_cases hy : s = x
  ·subst hy; rw [updI_self]; omega
  ·rw [updI_ne _ _ hy]; exact this
 ·by_cases hy : y = x
  ·subst hy; rw [updI_self]; push_cast; omega
  ·rw [updI_ne _ _ hy] at e ⊢; exact h.inv.bnd y e
 ·rw [updI_ne _ _ hxv]; exact h.fv
 ·rw [upd_ne _ _ hxv]; exact h.tv
 ·obtain ⟨hux, htu⟩ := hT _ e2
  rw [updI_ne _ _ hux] at e1 ⊢
  exact h.top u e1 htu
def dn (F : Nat → Int) (T : Nat → Option Int) : Nat → Nat
 | 0 => 0
 | k + 1 => dn F T k + (if F k < Inf ∧ T k = none then 1 else 0)
theorem dn_le (F : Nat → Int) (T : Nat → Option Int) (n : Nat) : dn F T n ≤ n := by
 induction n with
 | zero => exact Nat.le_refl _
 | succ k ih => unfold dn; split <;> omega
theorem dn_congr {F G : Nat → Int} {T U : Nat → Option Int} (n : Nat) (h : ∀ v, v < n → ((F v < Inf ∧ T v = none) ↔ (G v < Inf ∧ U v = none))) : dn F T n = dn G U n := by
 induction n with
 | zero => rfl
 | succ k ih =>
   unfold dn
   rw [ih (fun v hv => h v (by omega))]
   have := h k (by omega)
   by_cases e : F k < Inf ∧ T k = none
   ·rw [if_pos e, if_pos (this.1 e)]
   ·rw [if_neg e, if_neg (fun e' => e (this.2 e'))]
theorem dn_pop {F : Nat → Int} {T : Nat → Option Int} {v : Nat} {d : Int} (n : Nat) (hv : v < n) (ht : T v = some d) (hf : F v < Inf) : dn F (upd T v none) n = dn F T n + 1 := by
 induction n with
 | zero => omega
 | succ k ih =>
   unfold dn
   by_cases e : v = k
   ·subst e
    rw [upd_self, if_pos ⟨hf, rfl⟩, if_neg (fun e' => by rw [ht] at e'; cases e'.2)]
    rw [dn_congr (G := F) (U := T) v (fun y hy => by rw [upd_ne _ _ (by omega)])]
   ·rw [ih (by omega), upd_ne _ _ (fun h => e h.symm)]
    omega
def lastAt (l : List A) (v : Nat) : Nat → Int
 | 0 => -1
 | k + 1 => if src (ar l k) = v then k else lastAt l v k
theorem lastAt_none {l : List A} {v : Nat} : ∀ {k : Nat}, lastAt l v k = -1 → ∀ j, j < k → src (ar l j) ≠ v := by
 intro k
 induction k with
 | zero => intro _ j hj; omega
 | succ k ih =>
   intro h j hj
   unfold lastAt at h
   split at h
   ·omega
   ·rename_i hk
    by_cases e : j = k
    ·subst e; exact hk
    ·exact ih h j (by omega)
theorem lastAt_some {l : List A} {v : Nat} : ∀ {k : Nat}, lastAt l v k ≠ -1 → ∃ j, lastAt l v k = (j : Nat) ∧ j < k ∧ src (ar l j) = v ∧ ∀ i, j < i → i < k → src (ar l i) ≠ v := by
 intro k
 induction k with
 | zero => intro h; exact absurd rfl h
 | succ k ih =>
   intro h
   by_cases hk : src (ar l k) = v
   ·exact ⟨k, by simp [lastAt, hk], by omega, hk, fun i h1 h2 => by omega⟩
   ·have e : lastAt l v (k + 1) = lastAt l v k := by simp [lastAt, hk]
    rw [e] at h ⊢
    obtain ⟨j, h1, h2, h3, h4⟩ := ih h
    refine ⟨j, h1, by omega, h3, fun i h5 h6 => ?_⟩
    by_cases e2 : i = k
    ·subst e2; exact hk
    ·exact h4 i h5 (by omega)
end Go.Proofs.YtaafkpojjdjphaaGreat.N5
