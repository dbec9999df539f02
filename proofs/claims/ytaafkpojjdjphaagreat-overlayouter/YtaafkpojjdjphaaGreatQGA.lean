import Derived.Laws.AppendOwnNone
import Derived.Deep.RegionWith
import Derived.Lib.SliceRun
import Derived.Test.YtaafkpojjdjphaaGreatQAA
open Go.Lib (hid)
namespace Go.Proofs.YtaafkpojjdjphaaGreat.G3
open Go.RowKit
theorem info53 : (Tryz.prog.info? 109).map (fun i => (i.zero, i.size, i.bytes)) = some (some (.agg #[.int .i64 0, .int .i64 0, .int .u32 0]), 3, 24) := by kernel_rfl
def cellsA : List A → List Value
 | [] => []
 | x :: r => .int .i64 x.f :: .int .i64 x.t :: .int .u32 x.w :: cellsA r
theorem cellsA_len : ∀ l : List A, (cellsA l).length = l.length * 3
 | [] => rfl
 | x :: r => by simp only [cellsA, List.length_cons, cellsA_len r]; omega
theorem cellsA_at : ∀ (l : List A) (j : Nat), j < l.length → (cellsA l)[j * 3]? = some (.int .i64 (l.getD j A.zero).f) ∧ (cellsA l)[j * 3 + 1]? = some (.int .i64 (l.getD j A.zero).t) ∧ (cellsA l)[j * 3 + 2]? = some (.int .u32 (l.getD j A.zero).w)
 | [], _, h => absurd h (by simp)
 | x :: r, 0, _ => ⟨rfl, rfl, rfl⟩
 | x :: r, j + 1, h => by
   have := cellsA_at r j (by simpa using h)
   rw [show (j + 1) * 3 = j * 3 + 3 by omega]
   exact this
theorem cellsA_one : ∀ (l : List A), ∀ u ∈ cellsA l, u.oneCell' = true
 | [], u, h => by cases h
 | x :: r, u, h => by
   simp only [cellsA, List.mem_cons] at h
   rcases h with rfl | rfl | rfl | h
   ·rfl
   ·rfl
   ·rfl
   ·exact cellsA_one r u h
theorem cellsA_set : ∀ (l : List A) (j : Nat) (v : Int), j < l.length →
  (cellsA l).set (j * 3) (.int .i64 v) = cellsA (l.set j ⟨v, (l.getD j A.zero).t, (l.getD j A.zero).w⟩) ∧
  (cellsA l).set (j * 3 + 1) (.int .i64 v) = cellsA (l.set j ⟨(l.getD j A.zero).f, v, (l.getD j A.zero).w⟩) ∧
  (cellsA l).set (j * 3 + 2) (.int .u32 v) = cellsA (l.set j ⟨(l.getD j A.zero).f, (l.getD j A.zero).t, v⟩)
 | [], _, _, h => absurd h (by simp)
 | x :: r, 0, v, _ => ⟨rfl, rfl, rfl⟩
 | x :: r, j + 1, v, h => by
   have := cellsA_set r j v (by simpa using h)
   rw [show (j + 1) * 3 = j * 3 + 3 by omega]
   exact ⟨congrArg (fun t => Value.int .i64 x.f :: Value.int .i64 x.t :: Value.int .u32 x.w :: t) this.1, congrArg (fun t => Value.int .i64 x.f :: Value.int .i64 x.t :: Value.int .u32 x.w :: t) this.2.1, congrArg (fun t => Value.int .i64 x.f :: Value.int .i64 x.t :: Value.int .u32 x.w :: t) this.2.2⟩
theorem cells_of_at {w : World} {b o : Nat} : ∀ (l : List A) (p : Nat), (∀ j, j < l.length → (l.getD j A.zero).at w b (o + (p + j) * 3)) → ∀ i u, (cellsA l)[i]? = some u → w.cell? ⟨b, o + p * 3 + i, none⟩ = some u
 | [], _, _, i, u, h => by simp [cellsA] at h
 | x :: r, p, ha, i, u, h => by
   have h0 := ha 0 (by simp)
   simp only [Nat.add_zero] at h0
   match i, h with
   | 0, h => simp [cellsA] at h; subst h; exact h0.1
   | 1, h => simp [cellsA] at h; subst h; exact h0.2.1
   | 2, h => simp [cellsA] at h; subst h; exact h0.2.2
   | i + 3, h =>
     have := cells_of_at r (p + 1) (fun j hj => by have := ha (j + 1) (by simpa using hj); rw [show p + (j + 1) = p + 1 + j by omega] at this; exact this) i u (by simpa [cellsA] using h)
     rw [show o + p * 3 + (i + 3) = o + (p + 1) * 3 + i by omega]
     exact this
def OwnA (w : World) (B : Nat) (a : Option Addr) (c : Nat) (l : List A) : Prop := w.ownsRow B 109 3 (.slice a l.length c) l.length (cellsA l)
theorem OwnA.some {w : World} {B : Nat} {a : Option Addr} {c : Nat} {l : List A} (h : OwnA w B a c l) (h0 : 0 < l.length) : ∃ g, a = some ⟨g, 0, none⟩ ∧ B ≤ g ∧ g < w.heap.size := by
 rcases h.2 with ⟨_, h'⟩ | ⟨g, c', cur, h', hb, hg, _⟩
 ·omega
 ·injection h' with e1 e2 e3
  exact ⟨g, e1, hb, lt_of_block hg⟩
theorem OwnA.at {w : World} {B g c : Nat} {l : List A} (h : OwnA w B (.some ⟨g, 0, none⟩) c l) (j : Nat) (hj : j < l.length) : (l.getD j A.zero).at w g (j * 3) := by
 obtain ⟨h1, h2, h3⟩ := cellsA_at l j hj
 exact ⟨(World.ownsRow.cellAt h (j * 3) (by omega)).trans h1, (World.ownsRow.cellAt h (j * 3 + 1) (by omega)).trans h2, (World.ownsRow.cellAt h (j * 3 + 2) (by omega)).trans h3⟩
theorem OwnA.arcs {w : World} {B : Nat} {a : Option Addr} {c : Nat} {l : List A} (h : OwnA w B a c l) : Arcs w a l := by
 by_cases h0 : 0 < l.length
 ·obtain ⟨g, rfl, _, hg⟩ := h.some h0
  exact Or.inr ⟨g, 0, rfl, hg, fun j hj => by rw [Nat.zero_add]; exact h.at j hj⟩
 ·exact Or.inl (List.eq_nil_of_length_eq_zero (by omega))
theorem OwnA.alloc {w : World} {B : Nat} {a : Option Addr} {c : Nat} {l : List A} (h : OwnA w B a c l) (o : Obj) : OwnA (w.alloc o) B a c l := World.ownsRow.alloc h o
theorem OwnA.base {w : World} {B B' : Nat} {a : Option Addr} {c : Nat} {l : List A} (h : OwnA w B a c l) (hb : B' ≤ B) : OwnA w B' a c l := own_base h hb
theorem OwnA.nil (w : World) (B : Nat) : OwnA w B none 0 [] := World.ownsRow_nil _ _ _ _
theorem clone_news {w : World} {ad : Addr} {l : List A} (h : Arcs w (some ad) l) (o : Obj) : ∀ j u, (cellsA l)[j]? = some u → (w.alloc o).cell? (ad.add j) = some u := by
 intro j u hu
 rcases h with rfl | ⟨b, q, he, hb, hc⟩
 ·simp [cellsA] at hu
 ·cases he
  have := cells_of_at (o := q) l 0 (fun j hj => by rw [Nat.zero_add]; exact hc j hj) j u hu
  rw [Go.WideShapes.add_plain, World.cell?_alloc_past _ _ _ hb]
  simpa using this
theorem eql_nil (w : World) (a : Option Addr) (n c : Nat) : (binOp .eql 22 (.slice a n c) (.slice none 0 0)).run Tryz.prog w = .ok (.bool a.isNone) w := Lib.run_eql_slice_nil w 22 109 a n c 0 0 Tryz.underlying22
set_option maxHeartbeats 400000 in
theorem clone_any (a : Option Addr) (l : List A) (cap : Nat) (w : World) (hlen : l.length * 24 ≤ 140737488351232) (hn : a = none → l = [] ∧ cap = 0) (hr : Arcs w a l) :
  Calls Tryz.prog 171 #[.slice a l.length cap] w fun e w' => ∃ a' c', e = .returned (.slice a' l.length c') ∧ OwnA w' w.heap.size a' c' l ∧ (a' = none → l = [] ∧ c' = 0) ∧ Below w.heap.size w w' := by
 obtain ⟨i0, hi, hz0, hz1, hz2⟩ := info_parts info53
 match a, hn, hr with
 | none, hn, _ =>
   obtain ⟨e1, e2⟩ := hn rfl
   subst e1 e2
   go_enter Tryz.func171, Tryz.ntmps171
   have he := fun w => eql_nil w none 0 0
   go_wp2_with fail
   go_ret
   exact ⟨none, 0, rfl, OwnA.nil _ _, (fun _ => by simp), Below.refl _ _⟩
 | some ad, _, hr =>
   have HN := hid (clone_news hr (.cells #[] 109))
   have HL := hid (cellsA_len l)
   have hown0 := World.ownsRow_lit (base := w.heap.size) (e := 109) (size := 3) w #[] 0 (Nat.le_refl _) (by decide) rfl
   have he := fun w => eql_nil w (some ad) l.length cap
   go_enter Tryz.func171, Tryz.ntmps171
   go_wp2_with (at_builtin; refine wpList_append_own _ rfl (.tmp 5) (.tmp 6) 22 rfl w.heap.size 109 i0 _ 3 24 Tryz.underlying22 hi hz0 hz1 hz2 rfl (by decide) (.slice (some ⟨w.heap.size, 0, none⟩) 0 0) 0 [] rfl hown0 ad l.length cap (cellsA l) rfl HL.out HN.out (cellsA_one l) (by unfold maxLen; omega) (by omega) (by simp) ?_; intro v1 w1 hown1 hgrow1 hnil1; obtain ⟨g1, c1, hv1, hg1, hc1, hs1, hm1⟩ := own_shape hown1 (fun e => by have := hnil1.1 e; simp at this); rw [hv1] at hown1 ⊢; clear hnil1 hv1; simp only [Nat.zero_add, List.nil_append] at hown1 hc1 ⊢)
   go_ret
   exact ⟨_, _, rfl, hown1, (fun h => by cases h), ((Below.refl w.heap.size w).alloc (Nat.le_refl _) _).grown hgrow1 (by simp) (by intro k hk; cases hk; exact Nat.le_refl _)⟩
set_option maxHeartbeats 1600000 in
theorem copied_any (N : Int) (a : Option Addr) (l : List A) (cap : Nat) (w : World) (hlen : l.length * 24 ≤ 140737488351232) (hn : a = none → l = [] ∧ cap = 0) (hr : Arcs w a l) :
  Calls Tryz.prog 106 #[.agg #[.int .i64 N, .slice a l.length cap]] w fun e w' => ∃ a' c', e = .returned (.agg #[.int .i64 N, .slice a' l.length c']) ∧ OwnA w' w.heap.size a' c' l ∧ (a' = none → l = [] ∧ c' = 0) ∧ Below w.heap.size w w' := by
 have hb0 : Below w.heap.size w ((w.alloc (.cells #[.int .i64 N, .slice a l.length cap] 24)).alloc (.cells #[.int .i64 0, .slice none 0 0] 24)) := ((Below.refl _ _).alloc (Nat.le_refl _) _).alloc (by simp) _
 have hg : ((w.alloc (.cells #[.int .i64 N, .slice a l.length cap] 24)).alloc (.cells #[.int .i64 0, .slice none 0 0] 24)).heap[w.heap.size]? = some (.cells #[.int .i64 N, .slice a l.length cap] 24) := (Below.heap_alloc _ _ _ (by simp)).trans (heap_top w _)
 have h1 := heap_top (w.alloc (.cells #[.int .i64 N, .slice a l.length cap] 24)) (.cells #[.int .i64 0, .slice none 0 0] 24)
 rw [show (w.alloc (.cells #[.int .i64 N, .slice a l.length cap] 24)).heap.size = w.heap.size + 1 by simp] at h1
 generalize hW : (w.alloc (.cells #[.int .i64 N, .slice a l.length cap] 24)).alloc (.cells #[.int .i64 0, .slice none 0 0] 24) = W at *
 obtain ⟨⟨g0, g1⟩, gf0, gf1⟩ := two_cells hg
 have HC := hid (clone_any a l cap W.drew hlen hn (hr.on hb0.drew))
 have HG := hid hg
 have H1 := hid h1
 clear hg h1
 go_enter Tryz.func106, Tryz.ntmps106
 go_wp2_with fail
 go_region_with (go_at_call 171; refine HC.out.mono ?_; rintro e w2 ⟨a2, c2, rfl, hown2, hn2, hb2⟩; obtain ⟨⟨k0, k1⟩, kf0, kf1⟩ := two_cells ((hb2.block _ (lt_of_block HG.out)).trans HG.out); have HR := hid ((hb2.block _ (lt_of_block H1.out)).trans H1.out); obtain ⟨⟨r0, r1⟩, rf0, rf1⟩ := two_cells HR.out)
 all_goals go_wp2_with fail
 all_goals
  have hlt := lt_of_block H1.out
  have hb3 : Below w.heap.size w w2 := hb0.drew.trans (hb2.mono (by show w.heap.size ≤ W.heap.size; omega))
  refine bodyPost_ret (v := .agg #[.int .i64 N, .slice a2 l.length c2]) (by simp [results, Tryz.results106, go_sem, r0, r1]) rfl ⟨a2, c2, rfl, ?_, hn2, (hb3.setCell (by show _ ≤ w.heap.size + 1; omega) _).setCell (by show _ ≤ w.heap.size + 1; omega) _⟩
  have h9 : OwnA ((w2.setCell ⟨w.heap.size + 1, 0, none⟩ (.int .i64 N)).setCell ⟨w.heap.size + 1, 1, none⟩ (.slice a2 l.length c2)) W.heap.size a2 c2 l := ownsRow_setCell_below (ownsRow_setCell_below hown2 hlt _) hlt _
  exact h9.base (by omega)
theorem OwnA.set2 {w : World} {B g c : Nat} {l : List A} (h : OwnA w B (.some ⟨g, 0, none⟩) c l) (j : Nat) (v : Int) (hj : j < l.length) : OwnA (w.setCell ⟨g, j * 3 + 2, none⟩ (.int .u32 v)) B (.some ⟨g, 0, none⟩) c (l.set j ⟨(l.getD j A.zero).f, (l.getD j A.zero).t, v⟩) := by
 have := (World.ownsRow.stored h (j * 3 + 2) (.int .u32 v)).1
 rw [(cellsA_set l j v hj).2.2] at this
 unfold OwnA
 rw [List.length_set]; exact this
theorem OwnA.free {w : World} {B g c : Nat} {l : List A} (h : OwnA w B (.some ⟨g, 0, none⟩) c l) (k : Nat) : w.frozen? ⟨g, k, none⟩ = false := World.ownsRow.frozenAt h k
def MadeG (w w' : World) (e : Ending) (N : Int) (l : List A) (E : Int) : Prop :=
 ∃ a c, e = .returned (.tuple #[.agg #[.int .i64 N, .slice a l.length c], .int .i64 E]) ∧ OwnA w' w.heap.size a c l ∧ (a = none → l = [] ∧ c = 0) ∧ Below w.heap.size w w'
structure Cg where
 a : Int
 w : Int
instance : Inhabited Cg := ⟨⟨0, 0⟩⟩
def Cg.zero : Cg := ⟨0, 0⟩
def Cgs (w : World) (a : Option Addr) (xs : List Cg) : Prop :=
 xs = [] ∨ ∃ b o, a = some ⟨b, o, none⟩ ∧ b < w.heap.size ∧ ∀ j, j < xs.length → w.cell? ⟨b, o + j * 2, none⟩ = some (.int .i64 (xs.getD j Cg.zero).a) ∧ w.cell? ⟨b, o + j * 2 + 1, none⟩ = some (.int .u32 (xs.getD j Cg.zero).w)
theorem Cgs.on {w w' : World} {a : Option Addr} {xs : List Cg} (h : Cgs w a xs) (hb : Below w.heap.size w w') : Cgs w' a xs := by
 rcases h with h | ⟨b, o, rfl, hl, hc⟩
 ·exact Or.inl h
 ·exact Or.inr ⟨b, o, rfl, Nat.lt_of_lt_of_le hl hb.size, fun j hj => ⟨(hb.cell (p := ⟨b, o + j * 2, none⟩) hl).trans (hc j hj).1, (hb.cell (p := ⟨b, o + j * 2 + 1, none⟩) hl).trans (hc j hj).2⟩⟩
theorem Cgs.get {w : World} {a : Option Addr} {xs : List Cg} (h : Cgs w a xs) : ∃ b o, 0 < xs.length → a = some ⟨b, o, none⟩ ∧ b < w.heap.size ∧ ∀ j, j < xs.length → w.cell? ⟨b, o + j * 2, none⟩ = some (.int .i64 (xs.getD j Cg.zero).a) ∧ w.cell? ⟨b, o + j * 2 + 1, none⟩ = some (.int .u32 (xs.getD j Cg.zero).w) := by
 rcases h with rfl | ⟨b, o, h⟩
 ·exact ⟨0, 0, fun h => absurd h (by simp)⟩
 ·exact ⟨b, o, fun _ => h⟩
def cgOk (n : Nat) (c : Cg) : Bool := decide (0 ≤ c.a ∧ c.a < n)
def chg1 (l : List A) (c : Cg) : List A := l.set c.a.toNat ⟨(l.getD c.a.toNat A.zero).f, (l.getD c.a.toNat A.zero).t, c.w⟩
def chg (l : List A) (cs : List Cg) : List A := cs.foldl chg1 l
theorem chg1_len (l : List A) (c : Cg) : (chg1 l c).length = l.length := by unfold chg1; rw [List.length_set]
theorem chg_len : ∀ (cs : List Cg) (l : List A), (chg l cs).length = l.length
 | [], _ => rfl
 | c :: r, l => by
   show (chg (chg1 l c) r).length = _
   rw [chg_len r, chg1_len]
theorem chg_take (l : List A) (cs : List Cg) (k : Nat) (hk : k < cs.length) : chg l (cs.take (k + 1)) = chg1 (chg l (cs.take k)) (cs.getD k Cg.zero) := by
 unfold chg
 rw [List.take_add_one, List.foldl_append]
 simp [List.getD, List.getElem?_eq_getElem hk]
theorem allC_take {l : List Cg} {p : Cg → Bool} {k : Nat} (hk : k < l.length) (h : (l.take k).all p = true) (hp : p (l.getD k Cg.zero) = true) : (l.take (k + 1)).all p = true := by
 rw [List.take_succ_eq_append_getElem hk, List.all_append, h]
 have e : l.getD k Cg.zero = l[k] := by simp [List.getD, List.getElem?_eq_getElem hk]
 rw [e] at hp
 simp [hp]
theorem allC_bad {l : List Cg} {p : Cg → Bool} {k : Nat} (hk : k < l.length) (hp : p (l.getD k Cg.zero) = false) : l.all p = false := by
 have e : l.getD k Cg.zero = l[k] := by simp [List.getD, List.getElem?_eq_getElem hk]
 rw [e] at hp
 rw [List.all_eq_false]
 exact ⟨l[k], List.getElem_mem hk, by simp [hp]⟩
def cgE (N : Int) (l : List A) (cs : List Cg) : Int := if chkE N l = 0 then (if 16384 < cs.length then 2 else if cs.all (cgOk l.length) then 0 else 5) else chkE N l
theorem cgE_long {N : Int} {l : List A} {cs : List Cg} (h : chkE N l = 0) (h2 : 16384 < cs.length) : cgE N l cs = 2 := by unfold cgE; rw [if_pos h, if_pos h2]
theorem cgE_ok {N : Int} {l : List A} {cs : List Cg} (h : chkE N l = 0) (h2 : ¬ 16384 < cs.length) (h3 : cs.all (cgOk l.length) = true) : cgE N l cs = 0 := by unfold cgE; rw [if_pos h, if_neg h2, if_pos h3]
theorem cgE_bad {N : Int} {l : List A} {cs : List Cg} (h : chkE N l = 0) (h2 : ¬ 16384 < cs.length) (h3 : cs.all (cgOk l.length) = false) : cgE N l cs = 5 := by unfold cgE; rw [if_pos h, if_neg h2, h3]; rfl
theorem OwnA.chg1 {w : World} {B g c : Nat} {X : List A} (h : OwnA w B (.some ⟨g, 0, none⟩) c X) (j : Nat) (u : Int) (hj : j < X.length) : OwnA (w.setCell ⟨g, j * 3 + 2, none⟩ (.int .u32 u)) B (.some ⟨g, 0, none⟩) c (Go.Proofs.YtaafkpojjdjphaaGreat.G3.chg1 X ⟨(j : Int), u⟩) := by
 have := h.set2 j u hj
 unfold Go.Proofs.YtaafkpojjdjphaaGreat.G3.chg1
 simpa using this
theorem res_alloc {w : World} {g : Nat} {x y u v : Value} {t : TypeId} (h : w.heap[g]? = some (.cells #[x, y] t)) (o : Obj) :
  (((w.setCell ⟨g, 0, none⟩ u).setCell ⟨g, 1, none⟩ v).alloc o).cell? ⟨g, 0, none⟩ = some u ∧ (((w.setCell ⟨g, 0, none⟩ u).setCell ⟨g, 1, none⟩ v).alloc o).cell? ⟨g, 1, none⟩ = some v := by
 obtain ⟨⟨h0, h1⟩, _⟩ := two_cells h
 have hs := (((Below.refl 0 w).setCell (p := ⟨g, 0, none⟩) (Nat.zero_le _) u).setCell (p := ⟨g, 1, none⟩) (Nat.zero_le _) v).size
 have hl := Nat.lt_of_lt_of_le (lt_of_block h) hs
 have hb := (Below.refl _ ((w.setCell ⟨g, 0, none⟩ u).setCell ⟨g, 1, none⟩ v)).alloc (Nat.le_refl _) o
 constructor
 ·rw [hb.cell (p := ⟨g, 0, none⟩) hl, World.cell?_setCell_other _ _ _ _ (by intro e; cases e)]
  exact World.cell?_setCell_same _ _ _ h0
 ·rw [hb.cell (p := ⟨g, 1, none⟩) hl]
  exact World.cell?_setCell_same _ _ _ ((World.cell?_setCell_other _ _ _ _ (by intro e; cases e)).trans h1)
def ChgPost (w w' : World) (e : Ending) (N : Int) (l : List A) (cs : List Cg) (E : Int) : Prop := MadeG w w' e (if E = 0 then N else 0) (if E = 0 then chg l cs else []) E
set_option maxHeartbeats 1600000 in
theorem change_any (N : Int) (a : Option Addr) (l : List A) (cap : Nat) (a' : Option Addr) (cs : List Cg) (cap' : Nat) (w : World) (hlen : l.length * 24 ≤ 140737488351232) (hcs : cs.length ≤ 9223372036854775807) (hn : a = none → l = [] ∧ cap = 0) (hr : Arcs w a l) (hu : Cgs w a' cs) :
  Calls Tryz.prog 51 #[.agg #[.int .i64 N, .slice a l.length cap], .slice a' cs.length cap'] w fun e w' => ChgPost w w' e N l cs (cgE N l cs) := by
 have hl : l.length ≤ 9223372036854775807 := by omega
 have hb0 : Below w.heap.size w ((w.alloc (.cells #[.int .i64 N, .slice a l.length cap] 24)).alloc (.cells #[.int .i64 0, .slice none 0 0] 24)) := ((Below.refl _ _).alloc (Nat.le_refl _) _).alloc (by simp) _
 have hg : ((w.alloc (.cells #[.int .i64 N, .slice a l.length cap] 24)).alloc (.cells #[.int .i64 0, .slice none 0 0] 24)).heap[w.heap.size]? = some (.cells #[.int .i64 N, .slice a l.length cap] 24) := (Below.heap_alloc _ _ _ (by simp)).trans (heap_top w _)
 have h1 := heap_top (w.alloc (.cells #[.int .i64 N, .slice a l.length cap] 24)) (.cells #[.int .i64 0, .slice none 0 0] 24)
 rw [show (w.alloc (.cells #[.int .i64 N, .slice a l.length cap] 24)).heap.size = w.heap.size + 1 by simp] at h1
 generalize hW : (w.alloc (.cells #[.int .i64 N, .slice a l.length cap] 24)).alloc (.cells #[.int .i64 0, .slice none 0 0] 24) = W at *
 obtain ⟨⟨g0, g1⟩, gf0, gf1⟩ := two_cells hg
 obtain ⟨T, HT⟩ := named (chkAt N l)
 have hr0 := hr.on hb0
 by_cases hE : chkE N l = 0
 ·have hlen2 := (chk_zero hE).2.2.1
  have HE := hid hE
  have HN := hid hn
  by_cases hm : 16384 < cs.length
  ·rw [cgE_long hE hm]
   unfold ChgPost
   rw [if_neg (by decide), if_neg (by decide)]
   have hm' : (16384 : Int) < (cs.length : Int) := by omega
   clear hE hn
   go_enter Tryz.func51, Tryz.ntmps51
   go_wp2_with fail
   refine (check_any N a l cap _ hl hr0).mono ?_
   rintro e w1 ⟨rfl, hb1⟩
   rw [HE.out, HT.out]
   have hh1 := (hb1.block _ (lt_of_block h1)).trans h1
   have b1 := bthen hb0 hb1 (by have := hb0.size; omega)
   obtain ⟨⟨r0, r1⟩, rf0, rf1⟩ := two_cells hh1
   clear hb1 hb0 hr0 hg h1 g0 g1 gf0 gf1 hW
   go_wp2_with fail
   refine bodyPost_ret (v := .tuple #[.agg #[.int .i64 0, .slice none 0 0], .int .i64 2]) (by simp [results, Tryz.results51, go_sem, r0, r1]) rfl ⟨none, 0, rfl, OwnA.nil _ _, fun _ => ⟨rfl, rfl⟩, ?_⟩
   exact (b1.setCell (by show _ ≤ w.heap.size + 1; omega) _).setCell (by show _ ≤ w.heap.size + 1; omega) _
  ·have hm' : ¬ (16384 : Int) < (cs.length : Int) := by omega
   have HOK := hid (fun h => cgE_ok (cs := cs) hE hm h)
   have HBAD := hid (fun h => cgE_bad (cs := cs) hE hm h)
   have HLEN := hid (fun k => chg_len (cs.take k) l)
   have HSTEP := hid (fun k hk => chg_take l cs k hk)
   obtain ⟨E, HEE⟩ := named (cgE N l cs)
   rw [HEE.out] at HOK HBAD ⊢
   clear hE hn hm
   go_enter Tryz.func51, Tryz.ntmps51
   go_wp2_with fail
   refine (check_any N a l cap _ hl hr0).mono ?_
   rintro e w1 ⟨rfl, hb1⟩
   rw [HE.out, HT.out]
   have hg1 := (hb1.block _ (lt_of_block hg)).trans hg
   have hh1 := (hb1.block _ (lt_of_block h1)).trans h1
   have b1 := bthen hb0 hb1 (by have := hb0.size; omega)
   have s1 := lt_of_block hh1
   have hr1 := hr.on b1
   clear hb1 hb0 hr0 hg h1 g0 g1 gf0 gf1 hW
   obtain ⟨⟨g0, g1⟩, gf0, gf1⟩ := two_cells hg1
   go_wp2_with fail
   refine (copied_any N a l cap _ hlen HN.out hr1).mono ?_
   rintro e w2 ⟨a2, c2, rfl, hown2, hn2, hb2⟩
   have HN2 := hid hn2
   have hg2 := (hb2.block _ (lt_of_block hg1)).trans hg1
   have hh2 := (hb2.block _ (lt_of_block hh1)).trans hh1
   have b2 := bthen b1 hb2 (by omega)
   have s2 := hb2.size
   clear hb2 hr1 hg1 hh1 g0 g1 gf0 gf1 b1 hn2
   have hh3 := heap_top w2 (.cells #[.int .i64 N, .slice a2 l.length c2] 24)
   have hq3 := (Below.heap_alloc w2 (.cells #[.int .i64 N, .slice a2 l.length c2] 24) _ (lt_of_block hh2)).trans hh2
   have b3 := b2.alloc (by omega) (.cells #[.int .i64 N, .slice a2 l.length c2] 24)
   have hown3 := hown2.alloc (.cells #[.int .i64 N, .slice a2 l.length c2] 24)
   have s4 := lt_of_block hh2
   obtain ⟨b, o, hab⟩ := hu.get
   go_wp2_with fail
   go_loopw [28] (fun i wr => ∃ (k : Nat), k ≤ cs.length ∧ i = .int .i64 (k : Int) ∧ Hid ((cs.take k).all (cgOk l.length) = true) ∧ wr.ownsRow w1.heap.size 109 3 (.slice a2 l.length c2) l.length (cellsA (chg l (cs.take k))) ∧ wr.heap[w.heap.size + 1]? = some (.cells #[.int .i64 0, .slice none 0 0] 24) ∧ wr.heap[w2.heap.size]? = some (.cells #[.int .i64 N, .slice a2 l.length c2] 24) ∧ Below w.heap.size w wr) (fun i _ => cs.length - (intOf i).toNat)
   case atStart => exact ⟨0, Nat.zero_le _, rfl, by show _ = _; simp, hown3, hq3, hh3, b3⟩
   case round =>
    obtain ⟨k, hk, rfl, HA, hown, hq4, hh4, b4⟩ := hrel
    clear hq3 hh3 hown3 hown2 b3 b2 hg2 hh2
    obtain ⟨⟨q0, q1⟩, qf0, qf1⟩ := two_cells hq4
    obtain ⟨⟨h0, h1⟩, hf0, hf1⟩ := two_cells hh4
    have sq := lt_of_block hq4
    have sh := lt_of_block hh4
    by_cases hlt : k < cs.length
    ·obtain ⟨rfl, hbl, hat⟩ := hab (by omega)
     obtain ⟨c0, c1⟩ := hat k hlt
     have c0 := (b4.cell (p := ⟨b, o + k * 2, none⟩) hbl).trans c0
     have c1 := (b4.cell (p := ⟨b, o + k * 2 + 1, none⟩) hbl).trans c1
     have HT1 := hid (fun (h : cgOk l.length (cs.getD k Cg.zero) = true) => allC_take hlt HA.out h)
     have HF1 := hid (fun (h : cgOk l.length (cs.getD k Cg.zero) = false) => HBAD.out (allC_bad hlt h))
     have HS1 := hid (HSTEP.out k hlt)
     have HL1 := hid (HLEN.out k)
     clear hat
     generalize cs.getD k Cg.zero = c at *
     obtain ⟨ca, cw⟩ := c
     by_cases hlo : 0 ≤ ca
     ·by_cases hhi : ca < l.length
      ·obtain ⟨i, hi⟩ : ∃ i : Nat, ca = i := ⟨ca.toNat, by omega⟩
       subst hi
       have hil : i < l.length := by omega
       have HT2 := hid (HT1.out (by simp [cgOk]; omega))
       generalize chg l (cs.take k) = X at *
       obtain ⟨g, rfl, hgB, hgs⟩ : ∃ g, a2 = some ⟨g, 0, none⟩ ∧ w1.heap.size ≤ g ∧ g < wr.heap.size := by
        rcases hown.2 with ⟨_, h'⟩ | ⟨g, c', cur, h', hb', hg', _⟩
        ·omega
        ·injection h' with e1 e2 e3
         exact ⟨g, e1, hb', lt_of_block hg'⟩
       have hXl : i < X.length := by rw [HL1.out]; exact hil
       have hown' : OwnA wr w1.heap.size (some ⟨g, 0, none⟩) c2 X := by unfold OwnA; rw [HL1.out]; exact hown
       have hne : g ≠ w2.heap.size := by
        intro e
        rcases hown.2 with ⟨h', _⟩ | ⟨g', c', cur, h', _, hg', _⟩
        ·cases h'
        ·injection h' with e1 e2 e3
         injection e1 with e1
         injection e1 with e1
         rw [← e1, e, hh4] at hg'
         injection hg' with e5
         injection e5 with e6 e7 e8
         cases e7
       obtain ⟨d0, d1, d2⟩ := hown'.at i hXl
       have f2 := hown'.free (i * 3 + 2)
       have H9 := hid ((hown'.chg1 i cw hXl).alloc (.cells #[.int .i64 i, .int .u32 cw] 84))
       have K1 := hid ((Below.heap_setCell wr ⟨g, i * 3 + 2, none⟩ (.int .u32 cw) (w.heap.size + 1) (by show w.heap.size + 1 ≠ g; omega)).trans hq4)
       have K2 := hid ((Below.heap_setCell wr ⟨g, i * 3 + 2, none⟩ (.int .u32 cw) w2.heap.size (by show w2.heap.size ≠ g; omega)).trans hh4)
       have b5 := b4.setCell (p := ⟨g, i * 3 + 2, none⟩) (by show _ ≤ g; omega) (.int .u32 cw)
       generalize X.getD i A.zero = x at *
       clear hown hown'
       go_wp2_with fail
       refine ⟨⟨k + 1, by omega, by go_num, HT2, ?_, ?_, ?_, ?_⟩, by simp [intOf]; omega⟩
       ·rw [HS1.out]
        have h9 := H9.out
        unfold OwnA at h9
        rw [chg1_len, HL1.out] at h9
        exact h9
       ·exact (Below.heap_alloc _ _ _ (lt_of_block K1.out)).trans K1.out
       ·exact (Below.heap_alloc _ _ _ (lt_of_block K2.out)).trans K2.out
       ·exact b5.alloc b5.size _
      ·have hE5 := HF1.out (by simp [cgOk]; omega)
       subst hE5
       go_wp2_with fail
       have RA := res_alloc (u := .int .i64 0) (v := .slice none 0 0) hq4 (.cells #[.int .i64 ca, .int .u32 cw] 84)
       refine bodyPost_ret (v := .tuple #[.agg #[.int .i64 0, .slice none 0 0], .int .i64 5]) (by simp [results, Tryz.results51, go_sem, RA.1, RA.2]) rfl ?_
       unfold ChgPost
       rw [if_neg (by decide), if_neg (by decide)]
       exact ⟨none, 0, rfl, OwnA.nil _ _, fun _ => ⟨rfl, rfl⟩, have b6 := (b4.setCell (p := ⟨w.heap.size + 1, 0, none⟩) (by show _ ≤ w.heap.size + 1; omega) _).setCell (p := ⟨w.heap.size + 1, 1, none⟩) (by show _ ≤ w.heap.size + 1; omega) _; b6.alloc b6.size _⟩
     ·have hE5 := HF1.out (by simp [cgOk]; omega)
      subst hE5
      go_wp2_with fail
      have RA := res_alloc (u := .int .i64 0) (v := .slice none 0 0) hq4 (.cells #[.int .i64 ca, .int .u32 cw] 84)
      refine bodyPost_ret (v := .tuple #[.agg #[.int .i64 0, .slice none 0 0], .int .i64 5]) (by simp [results, Tryz.results51, go_sem, RA.1, RA.2]) rfl ?_
      unfold ChgPost
      rw [if_neg (by decide), if_neg (by decide)]
      exact ⟨none, 0, rfl, OwnA.nil _ _, fun _ => ⟨rfl, rfl⟩, have b6 := (b4.setCell (p := ⟨w.heap.size + 1, 0, none⟩) (by show _ ≤ w.heap.size + 1; omega) _).setCell (p := ⟨w.heap.size + 1, 1, none⟩) (by show _ ≤ w.heap.size + 1; omega) _; b6.alloc b6.size _⟩
    ·have hE0 := HOK.out (by have := HA.out; rw [List.take_of_length_le (by omega)] at this; exact this)
     subst hE0
     rw [List.take_of_length_le (by omega)] at hown
     have HCL := hid (chg_len cs l)
     have HOWN := hid hown
     clear hown
     go_wp2_with fail
     refine bodyPost_ret (v := .tuple #[.agg #[.int .i64 N, .slice a2 l.length c2], .int .i64 0]) (by simp [results, Tryz.results51, go_sem, q0, q1]) rfl ?_
     unfold ChgPost
     rw [if_pos rfl, if_pos rfl]
     refine ⟨a2, c2, by rw [HCL.out], ?_, ?_, (b4.setCell (by show _ ≤ w.heap.size + 1; omega) _).setCell (by show _ ≤ w.heap.size + 1; omega) _⟩
     ·unfold OwnA
      rw [HCL.out]
      exact own_base (ownsRow_setCell_below (ownsRow_setCell_below HOWN.out (by show w.heap.size + 1 < _; omega) _) (by show w.heap.size + 1 < _; omega) _) (by omega)
     ·intro h
      obtain ⟨e1, e2⟩ := HN2.out h
      refine ⟨List.eq_nil_of_length_eq_zero ?_, e2⟩
      rw [HCL.out, e1]; rfl
 ·have hE2 : cgE N l cs = chkE N l := by unfold cgE; rw [if_neg hE]
  rw [hE2]
  unfold ChgPost
  rw [if_neg hE, if_neg hE]
  clear hE2
  obtain ⟨E, HE⟩ := named (chkE N l)
  rw [HE.out] at hE ⊢
  have hE' : (E == 0) = false := beq_eq_false_iff_ne.2 hE
  go_enter Tryz.func51, Tryz.ntmps51
  go_wp2_with fail
  refine (check_any N a l cap _ hl hr0).mono ?_
  rintro e w1 ⟨rfl, hb1⟩
  rw [HE.out, HT.out]
  have hh1 := (hb1.block _ (lt_of_block h1)).trans h1
  have b1 := bthen hb0 hb1 (by have := hb0.size; omega)
  obtain ⟨⟨r0, r1⟩, rf0, rf1⟩ := two_cells hh1
  clear hb1 hb0 hr0 hg h1 g0 g1 gf0 gf1 hW
  go_wp2_with fail
  refine bodyPost_ret (v := .tuple #[.agg #[.int .i64 0, .slice none 0 0], .int .i64 E]) (by simp [results, Tryz.results51, go_sem, r0, r1]) rfl ⟨none, 0, rfl, OwnA.nil _ _, fun _ => ⟨rfl, rfl⟩, ?_⟩
  exact (b1.setCell (by show _ ≤ w.heap.size + 1; omega) _).setCell (by show _ ≤ w.heap.size + 1; omega) _
end Go.Proofs.YtaafkpojjdjphaaGreat.G3
