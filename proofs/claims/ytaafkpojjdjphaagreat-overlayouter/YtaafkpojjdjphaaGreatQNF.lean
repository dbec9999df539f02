import Derived.Test.YtaafkpojjdjphaaGreatQNE
import Derived.Laws.EntriesVeiled
import Derived.Deep.DeepCutAuto
open Go.Lib (hid)
set_option maxRecDepth 100000
namespace Go.Proofs.YtaafkpojjdjphaaGreat.N5.Hp
open Go.RowKit
def TopIs (n : Nat) (T : Nat → Option Int) (x : Nat) (k e : Int) : Prop :=
 (e = 0 ∧ T x = some k ∧ x < n ∧ ∀ y k', T y = some k' → k < k' ∨ k = k' ∧ x ≤ y) ∨ (e = 5 ∧ x = 0 ∧ k = 0 ∧ ∀ y, T y = none)
theorem TopIs.unique {n : Nat} {T : Nat → Option Int} {x x' : Nat} {k k' e e' : Int} (h : TopIs n T x k e) (h' : TopIs n T x' k' e') : x = x' ∧ k = k' ∧ e = e' := by
 rcases h with ⟨rfl, a, _, b⟩ | ⟨rfl, rfl, rfl, a⟩ <;> rcases h' with ⟨rfl, a', _, b'⟩ | ⟨rfl, rfl, rfl, a'⟩
 ·have p := b _ _ a'
  have q := b' _ _ a
  omega
 ·rw [a' x] at a; cases a
 ·rw [a x'] at a'; cases a'
 ·exact ⟨rfl, rfl, rfl⟩
theorem WF.topIs {n : Nat} {ms : List M} {pl : List Int} {T : Nat → Option Int} (f : WF n ms pl T) (h : 0 < ms.length) : TopIs n T (gm ms 0).id (gm ms 0).key 0 := by
 obtain ⟨a, b, c⟩ := f.top h
 exact Or.inl ⟨rfl, a, b, c⟩
theorem WF.topNo {n : Nat} {ms : List M} {pl : List Int} {T : Nat → Option Int} (f : WF n ms pl T) (h : ms.length = 0) : TopIs n T 0 0 5 := by
 refine Or.inr ⟨rfl, rfl, rfl, fun y => ?_⟩
 by_cases hy : y < n
 ·rcases f.find hy with ⟨_, a⟩ | ⟨i, a, _⟩
  ·exact a
  ·omega
 ·exact f.out y (by omega)
set_option maxHeartbeats 400000 in
theorem Len_any {w : World} {h n : Nat} {T : Nat → Option Int} {D : Nat → Prop} (r : HR w h n T D) :
  Calls Tryz.prog 216 #[.pointer (some ⟨h, 0, none⟩)] w fun e w' => e = .returned (.int .i64 (cnt T n)) ∧ w' = w := by
 obtain ⟨p, v, ms, pl, r, f, rfl⟩ := r
 obtain ⟨⟨c0, c1, c2⟩, f0, f1, f2⟩ := cells3 r.hd
 rw [f.cnt]
 obtain ⟨a, c, hv⟩ := own_slice r.own
 generalize ms.length = N at *
 subst hv
 go_enter Tryz.func216, Tryz.ntmps216
 go_wp2_with fail
 go_ret
 exact ⟨rfl, rfl⟩
set_option maxHeartbeats 800000 in
theorem Top_any {w : World} {h n : Nat} {T : Nat → Option Int} {D : Nat → Prop} (r : HR w h n T D) :
  Calls Tryz.prog 186 #[.pointer (some ⟨h, 0, none⟩)] w fun e w' => ∃ (x : Nat) (k er : Int), e = .returned (.tuple #[.int .i64 x, .int .u64 k, .int .i64 er]) ∧ TopIs n T x k er ∧ Below w.heap.size w w' := by
 have HLEN := hid (Len_any r)
 obtain ⟨p, v, ms, pl, r, f, rfl⟩ := r
 rw [f.cnt] at HLEN
 obtain ⟨⟨c0, c1, c2⟩, f0, f1, f2⟩ := cells3 r.hd
 by_cases h0 : 0 < ms.length
 ·have HT := hid (f.topIs h0)
  obtain ⟨b, c, hv, hc1, hg1, hc2⟩ := own_shape r.own h0
  subst hv
  obtain ⟨⟨d0, d1⟩, _, _⟩ := r.member 0 h0
  obtain ⟨X, HX⟩ := named (gm ms 0)
  rw [HX.out] at d0 d1 HT
  have hne : ((ms.length : Int) == 0) = false := by simp; intro e; rw [e] at h0; simp at h0
  have h0' : (0 : Int) < ms.length := by omega
  simp only [Nat.zero_mul, Nat.zero_add] at d0 d1
  generalize ms.length = N at *
  go_enter Tryz.func186, Tryz.ntmps186
  go_wp2_with fail
  refine HLEN.out.mono ?_
  rintro e w1 ⟨rfl, rfl⟩
  go_wp2_with fail
  go_quiet (fail)
  go_wp2_with fail
  go_ret3
  exact ⟨X.id, X.key, 0, rfl, HT.out, bthen ((Below.refl _ _).alloc (Nat.le_refl _) _) ⟨rfl, rfl, rfl, Nat.le_refl _, fun _ _ => rfl⟩ (by simp)⟩
 ·have HT := hid (f.topNo (by omega))
  rw [show ms.length = 0 by omega] at HLEN
  go_enter Tryz.func186, Tryz.ntmps186
  go_wp2_with fail
  refine HLEN.out.mono ?_
  rintro e w1 ⟨rfl, rfl⟩
  go_wp2_with fail
  go_ret3
  exact ⟨0, 0, 5, rfl, HT.out, Below.refl _ _⟩
set_option maxHeartbeats 800000 in
theorem Pop_any {w : World} {h n : Nat} {T : Nat → Option Int} {D : Nat → Prop} (r : HR w h n T D) :
  Calls Tryz.prog 187 #[.pointer (some ⟨h, 0, none⟩)] w fun e w' => ∃ (x : Nat) (k er : Int), e = .returned (.tuple #[.int .i64 x, .int .u64 k, .int .i64 er]) ∧ TopIs n T x k er ∧ HRto w w' h n (if er = 0 then upd T x none else T) D := by
 have HTOP := hid (Top_any r)
 have r0 := r
 obtain ⟨p, v, ms, pl, r, f, rfl⟩ := r
 by_cases h0 : 0 < ms.length
 ·have HT := hid (f.topIs h0)
  have HTK := hid (fun w' (hb : Below w.heap.size w w') => take_any (r.on hb) f 0 h0)
  obtain ⟨X, HX⟩ := named (gm ms 0)
  rw [HX.out] at HT HTK
  go_enter Tryz.func187, Tryz.ntmps187
  go_wp2_with fail
  refine HTOP.out.mono ?_
  rintro e w1 ⟨x, k, er, rfl, ht, hb1⟩
  obtain ⟨rfl, rfl, rfl⟩ := ht.unique HT.out
  go_wp2_with fail
  refine (HTK.out w1 hb1).mono ?_
  rintro e w2 ⟨rfl, ha⟩
  go_wp2_with fail
  go_ret3
  obtain ⟨D', h1, h2, h3⟩ := ha.to
  exact ⟨X.id, X.key, 0, rfl, HT.out, D', by rw [if_pos rfl]; exact h1, fun k hk => (h2 k hk).imp id (fun h' => Nat.le_trans hb1.size h'), (Fr.of hb1).then h3⟩
 ·have HT := hid (f.topNo (by omega))
  go_enter Tryz.func187, Tryz.ntmps187
  go_wp2_with fail
  refine HTOP.out.mono ?_
  rintro e w1 ⟨x, k, er, rfl, ht, hb1⟩
  obtain ⟨rfl, rfl, rfl⟩ := ht.unique HT.out
  go_wp2_with fail
  go_ret3
  exact ⟨0, 0, 5, rfl, HT.out, by rw [if_neg (by decide)]; exact r0.to hb1⟩
theorem info3 : (Tryz.prog.info? 3).map (fun i => (i.zero, i.size, i.bytes)) = some (some (.int .i64 0), 1, 8) := by kernel_rfl
theorem made_i64 (n : Nat) : (madeCells (Value.int .i64 0).cells (n * 1)).toList = cellsI (List.replicate n 0) := by
 show (madeCells #[Value.int .i64 0] (n * 1)).toList = _
 rw [toList_madeCells_one, Nat.mul_one]
 unfold cellsI
 simp
theorem row_made {w : World} {base g n : Nat} {e : TypeId} {xs : List Value} (h : w.ownsRow base e 1 (.slice (some ⟨g, 0, none⟩) n n) n xs) : w.heap[g]? = some (.cells xs.toArray e (0, 0)) := by
 rcases h.2 with ⟨h', _⟩ | ⟨g', c', cur, h', _, h3, _, _, h6, h7⟩
 ·cases h'
 ·cases h'
  rw [h3, ← h7]
  rw [List.take_of_length_le (by simp; omega)]
set_option maxHeartbeats 800000 in
theorem empty_any (n : Nat) (hn : n ≤ 16384) (w : World) :
  Calls Tryz.prog 212 #[.int .i64 n, .func (.func 213) #[] #[]] w fun e w' => ∃ p, e = .returned (.agg #[.slice none 0 0, .slice (some ⟨p, 0, none⟩) n n, .func (.func 213) #[] #[]]) ∧ w'.heap[p]? = some (.cells (cellsI (List.replicate n 0)).toArray 3 (0, 0)) ∧ w.heap.size ≤ p ∧ Below w.heap.size w w' := by
 obtain ⟨i0, hi, hz0, hz1, hz2⟩ := info_parts info3
 have HM := hid (made_i64 n)
 go_enter Tryz.func212, Tryz.ntmps212
 go_wp2_with (at_make; refine wpList_make_full _ rfl (.tmp 5) (.tmp 5) 25 rfl 0 3 i0 (.int .i64 0) 1 Tryz.underlying25 hi hz0 hz1 .i64 .i64 n n n rfl rfl rfl rfl (by rw [hz2]; omega) (by unfold maxLen; omega) (Nat.zero_le _) ?_; intro w1 hown1 hgrow1; rw [HM.out] at hown1; have hrow := row_made hown1; have hb1 := ((Below.refl w.heap.size w).alloc (Nat.le_refl _) _).grown hgrow1 (by simp) (by intro k hk; cases hk); have hd1 := (hgrow1.block w.heap.size (by simp) (by simp)).trans (heap_top w _); obtain ⟨⟨c0, c1, c2⟩, f0, f1, f2⟩ := cells3 hd1)
 rw [show (w.alloc (.cells #[.slice none 0 0, .slice none 0 0, .nilFunc] 277)).heap.size = w.heap.size + 1 by simp] at hrow
 go_wp2_with fail
 refine bodyPost_ret (v := .agg #[.slice none 0 0, .slice (some ⟨w.heap.size + 1, 0, none⟩) n n, .func (.func 213) #[] #[]]) (by simp [results, Tryz.results212, go_sem, c0, c1, c2]) rfl ⟨w.heap.size + 1, rfl, ?_, by omega, ?_⟩
 ·rw [heap_setCell_other _ _ _ _ (by simp), heap_setCell_other _ _ _ _ (by simp), heap_setCell_other _ _ _ _ (by simp)]
  exact hrow
 ·exact ((hb1.setCell (by simp) _).setCell (by simp) _).setCell (by simp) _
set_option maxHeartbeats 800000 in
theorem New_any (n : Nat) (hn : n ≤ 16384) (w : World) :
  Calls Tryz.prog 183 #[.int .i64 n] w fun e w' => ∃ h D, e = .returned (.tuple #[.pointer (some ⟨h, 0, none⟩), .int .i64 0]) ∧ HR w' h n (fun _ => none) D ∧ (∀ k, D k → w.heap.size ≤ k) ∧ Below w.heap.size w w' := by
 have HEM := hid (empty_any n hn w)
 have h1 : ¬ (16384 : Int) < n := by omega
 go_enter Tryz.func183, Tryz.ntmps183
 go_wp2_with fail
 refine HEM.out.mono ?_
 rintro e w1 ⟨p, rfl, hp, hps, hb⟩
 go_wp2_with fail
 go_ret2
 refine ⟨w1.heap.size, Dof w1.heap.size p (.slice none 0 0), rfl, ⟨p, .slice none 0 0, [], List.replicate n 0, ⟨heap_top _ _, ?_, (Below.heap_alloc _ _ _ (lt_of_block hp)).trans hp, ?_, by simp [Value.ownBlock], by simp [Value.ownBlock], by simp, hn⟩, WF.empty n, rfl⟩, ?_, hb.alloc hb.size _⟩
 ·exact World.ownsRow_nil _ _ _ _
 ·have := lt_of_block hp; omega
 ·rintro k (rfl | rfl | hk)
  ·exact hb.size
  ·exact hps
  ·cases hk
end Go.Proofs.YtaafkpojjdjphaaGreat.N5.Hp
namespace Go.Proofs.YtaafkpojjdjphaaGreat.N5
open Go.RowKit
open Hp (HR HRto Fr upd upd_self upd_ne TopIs)
structure Sr (w : World) (f : Nat) (a : Option Addr) (cap : Nat) (l : List A) (n b1 b2 h : Nat) (fn : Value) (T : Nat → Option Int) (D : Nat → Prop) : Prop where
 hd : w.heap[f]? = some (.cells #[.slice a l.length cap, .slice (some ⟨b1, 0, none⟩) n n, .slice (some ⟨b2, 0, none⟩) l.length l.length, .pointer (some ⟨h, 0, none⟩), fn] 247 (0, 0))
 t1 : Tb w b1 n 3 .i64 (fun v => lastAt l v l.length)
 t2 : Tb w b2 l.length 3 .i64 (fun j => lastAt l (src (ar l j)) j)
 hp : HR w h n T D
 sep : ∀ k, D k → k ≠ f ∧ k ≠ b1 ∧ k ≠ b2
theorem five_cells {w : World} {g : Nat} {a b c d e : Value} {t : TypeId} (h : w.heap[g]? = some (.cells #[a, b, c, d, e] t)) : (w.cell? ⟨g, 0, none⟩ = some a ∧ w.cell? ⟨g, 1, none⟩ = some b ∧ w.cell? ⟨g, 2, none⟩ = some c ∧ w.cell? ⟨g, 3, none⟩ = some d ∧ w.cell? ⟨g, 4, none⟩ = some e) := by
 simp [World.cell?, h]
theorem wrap_u64 {x : Int} (h : 0 ≤ x) (h2 : x < 18446744073709551616) : IntKind.u64.wrap x = x := by
 have h3 : x % 18446744073709551616 = x := Int.emod_eq_of_lt h h2
 simp [IntKind.wrap, IntKind.bits, IntKind.signed, h3]
theorem one_cell {w : World} {g : Nat} {a : Value} {t : TypeId} (h : w.heap[g]? = some (.cells #[a] t)) : w.cell? ⟨g, 0, none⟩ = some a ∧ w.frozen? ⟨g, 0, none⟩ = false := by
 simp [World.cell?, World.frozen?, h]
theorem short_any (w : World) (c bf n v : Nat) (d y : Int) (F : Nat → Int) (hv : v < n) (hc : w.heap[c]? = some (.cells #[.slice (some ⟨bf, 0, none⟩) n n] 38)) (ht : Tb w bf n 48 .u64 F) :
  Calls Tryz.prog 182 #[.int .i64 v, .int .u64 d, .int .i64 y, .pointer (some ⟨c, 0, none⟩)] w fun e w' => e = .returned (.bool (decide (d < F v))) ∧ w' = if d < F v then w.setCell ⟨bf, v, none⟩ (.int .u64 d) else w := by
 obtain ⟨c0, c1⟩ := one_cell hc
 have d0 := ht.cell hv
 have d1 := ht.free v
 have hv' : (v : Int) < n := by omega
 obtain ⟨q, HQ⟩ := named (F v)
 rw [HQ.out] at d0 ⊢
 by_cases h : d < q
 ·have h' : ¬ q ≤ d := by omega
  have HD : Hid (decide (d < q) = true) := by show _ = _; simpa using h
  rw [if_pos h, HD.out]
  go_enter Tryz.func182, Tryz.ntmps182
  go_wp2_with fail
  go_ret
  exact ⟨rfl, rfl⟩
 ·have h' : q ≤ d := by omega
  have HD : Hid (decide (d < q) = false) := by show _ = _; simpa using h
  rw [if_neg h, HD.out]
  go_enter Tryz.func182, Tryz.ntmps182
  go_wp2_with fail
  go_ret
  exact ⟨rfl, rfl⟩
theorem _root_.Go.Proofs.YtaafkpojjdjphaaGreat.N5.Hp.HR.lt_n {w : World} {h n : Nat} {T : Nat → Option Int} {D : Nat → Prop} (r : HR w h n T D) {u : Nat} {k : Int} (e : T u = some k) : u < n := by
 obtain ⟨p, v, ms, pl, r, f, rfl⟩ := r
 by_cases hu : u < n
 ·exact hu
 ·rw [f.out u (by omega)] at e; cases e
def NearIs (T : Nat → Option Int) (q : Int) : Prop := (∃ u, T u = some q ∧ ∀ y k, T y = some k → q ≤ k) ∨ (q = Inf ∧ ∀ y, T y = none)
set_option maxHeartbeats 400000 in
theorem nearest_any {w : World} {f h n : Nat} {x0 x1 x2 x4 : Value} {T : Nat → Option Int} {D : Nat → Prop} (hd : w.heap[f]? = some (.cells #[x0, x1, x2, .pointer (some ⟨h, 0, none⟩), x4] 247 (0, 0))) (r : HR w h n T D) :
  Calls Tryz.prog 130 #[.pointer (some ⟨f, 0, none⟩)] w fun e w' => ∃ q, e = .returned (.int .u64 q) ∧ NearIs T q ∧ Below w.heap.size w w' := by
 have HT := hid (Hp.Top_any r)
 obtain ⟨c0, c1, c2, c3, c4⟩ := five_cells hd
 go_enter Tryz.func130, Tryz.ntmps130
 go_wp2_with fail
 refine HT.out.mono ?_
 rintro e w1 ⟨x, k, er, rfl, ht, hb⟩
 rcases ht with ⟨rfl, h1, h2, h3⟩ | ⟨rfl, rfl, rfl, h1⟩
 ·have H3 := hid h3
  have H1 := hid h1
  clear h1 h3
  go_wp2_with fail
  go_ret
  exact ⟨k, rfl, Or.inl ⟨x, H1.out, fun y k' e => by rcases H3.out y k' e with e' | e' <;> omega⟩, hb⟩
 ·have H1 := hid h1
  clear h1
  go_wp2_with fail
  go_ret
  exact ⟨Inf, rfl, Or.inr ⟨rfl, H1.out⟩, hb⟩
structure Sys (f n : Nat) (a : Option Addr) (cap : Nat) (l : List A) (b1 b2 h : Nat) (fn : Value) (ok : Nat → Bool) {X : Type} (XR : (Nat → Int) → X → Nat → Int → Int → X → Prop) (SS : World → (Nat → Int) → (Nat → Option Int) → X → Prop) : Prop where
 hd : ∀ {w F T x}, SS w F T x → w.heap[f]? = some (.cells #[.slice a l.length cap, .slice (some ⟨b1, 0, none⟩) n n, .slice (some ⟨b2, 0, none⟩) l.length l.length, .pointer (some ⟨h, 0, none⟩), fn] 247 (0, 0))
 t1 : ∀ {w F T x}, SS w F T x → Tb w b1 n 3 .i64 (fun v => lastAt l v l.length)
 t2 : ∀ {w F T x}, SS w F T x → Tb w b2 l.length 3 .i64 (fun j => lastAt l (src (ar l j)) j)
 arcs : ∀ {w F T x}, SS w F T x → Arcs w a l
 heap : ∀ {w F T x}, SS w F T x → ∃ D, HR w h n T D ∧ ∀ w' T', HRto w w' h n T' D → SS w' F T' x
 on : ∀ {w w' F T x}, SS w F T x → Below w.heap.size w w' → SS w' F T x
 arr : ∀ {w w0 F T x} {v : Nat} {d y : Int}, SS w0 F T x → Below w0.heap.size w0 w → v < n → 0 ≤ d → d ≤ Inf → (∀ k, T v = some k → k = F v) →
  Calls Tryz.prog 185 #[.pointer (some ⟨f, 0, none⟩), .int .i64 v, .int .u64 d, .int .i64 y] w fun e w' => e = .returned (.tuple #[]) ∧
   (ok v = true ∧ d < F v ∧ (∃ x', SS w' (updI F v d) (upd T v (some d)) x' ∧ XR F x v d y x') ∨ ¬ (ok v = true ∧ d < F v) ∧ SS w' F T x) ∧ ∀ k, w0.heap.size ≤ k → k < w.heap.size → w'.heap[k]? = w.heap[k]?
set_option maxHeartbeats 1600000 in
theorem step_any {f n : Nat} {a : Option Addr} {cap : Nat} {l : List A} {b1 b2 h : Nat} {fn : Value} {ok : Nat → Bool} {X : Type} {XR : (Nat → Int) → X → Nat → Int → Int → X → Prop} {SS : World → (Nat → Int) → (Nat → Option Int) → X → Prop} (sy : Sys f n a cap l b1 b2 h fn ok XR SS) (g : RG n l) (s : Nat)
  (J : (Nat → Int) → (Nat → Option Int) → X → Prop) (jp : ∀ F T x v d, J F T x → T v = some d → F v < Inf → J F (upd T v none) x)
  (jt : ∀ F T x x' K v d k j, Mid l ok s F T K v d k → j < l.length → src (ar l j) = v → ok (dst (ar l j)) = true → sat d (ar l j).w < F (dst (ar l j)) → J F T x → XR F x (dst (ar l j)) (sat d (ar l j).w) j x' → J (updI F (dst (ar l j)) (sat d (ar l j).w)) (upd T (dst (ar l j)) (some (sat d (ar l j).w))) x')
  {w : World} {F : Nat → Int} {T : Nat → Option Int} {x : X} {K : Nat} (hs : SS w F T x) (hi : Inv l ok s F T K (fun _ => False)) (hj : J F T x) (hne : ∃ u k, T u = some k) :
  Calls Tryz.prog 131 #[.pointer (some ⟨f, 0, none⟩)] w fun e w' => e = .returned (.tuple #[]) ∧ ∃ F' T' x', SS w' F' T' x' ∧ Inv l ok s F' T' (K + 1) (fun _ => False) ∧ J F' T' x' ∧ dn F' T' n = dn F T n + 1 := by
 obtain ⟨D, hp, hh⟩ := sy.heap hs
 have HP := hid (Hp.Pop_any hp)
 obtain ⟨c0, c1, c2, c3, c4⟩ := five_cells (sy.hd hs)
 have hnb := g.nb
 have hlb := g.lb
 obtain ⟨m0, HM0⟩ := named (dn F T n + 1)
 rw [HM0.out]
 have HJP := hid jp
 have HJT := hid jt
 clear jp jt
 go_enter Tryz.func131, Tryz.ntmps131
 go_wp2_with fail
 refine HP.out.mono ?_
 rintro e w1 ⟨v, d, er, rfl, ht, hto⟩
 rcases ht with ⟨rfl, h1, h2, h3⟩ | ⟨rfl, rfl, rfl, h1⟩
 ·rw [if_pos rfl] at hto
  have hs1 := hh w1 _ hto
  have hmid := hi.pop h1 (fun y k e => by rcases h3 y k e with e' | e' <;> omega) l.length (Nat.le_refl _)
  have hj1 := HJP.out F T x v d hj h1 (by rw [hmid.fv]; exact hmid.di)
  have hdn := dn_pop (F := F) n h2 h1 (by rw [hmid.fv]; exact hmid.di)
  have hd0 : 0 ≤ d ∧ d ≤ Inf := ⟨by rw [← hmid.fv]; exact hi.lo v, by have := hmid.di; omega⟩
  rw [HM0.out] at hdn
  have HD := hid hd0
  clear hto hh HP hp hs hi hj hne h1 h3 c0 c1 c2 c3 c4 hd0
  obtain ⟨c0, c1, c2, c3, c4⟩ := five_cells (sy.hd hs1)
  have e1 := (sy.t1 hs1).cell h2
  have h2' : (v : Int) < n := by omega
  go_wp2_with fail
  go_loopg [5] l.length (fun k i wr => ∃ (F1 : Nat → Int) (T1 : Nat → Option Int) (x1 : X), k ≤ l.length ∧ i = .int .i64 (lastAt l v k) ∧ SS wr F1 T1 x1 ∧ Hid (Mid l ok s F1 T1 K v d k) ∧ Hid (J F1 T1 x1) ∧ Hid (dn F1 T1 n = m0))
  case atStart => exact ⟨F, _, x, Nat.le_refl _, rfl, hs1, hmid, hj1, hdn⟩
  case round =>
   obtain ⟨F1, T1, x1, hk, rfl, hs2, hm2, hj2, hd2⟩ := hrel
   clear c0 c1 c2 c3 c4 e1 hs1 hmid hj1 hdn
   obtain ⟨c0, c1, c2, c3, c4⟩ := five_cells (sy.hd hs2)
   by_cases hl : lastAt l v gk = -1
   ·have hl' : (lastAt l v gk == -1) = true := by simp [hl]
    have HN := hid (lastAt_none hl)
    rw [hl] at *
    clear hl
    go_wp2_with fail
    go_end0
    exact ⟨rfl, F1, T1, x1, hs2, hm2.out.done HN.out, hj2.out, hd2.out⟩
   ·obtain ⟨j, hj1, hj3, hj4, hj5⟩ := lastAt_some hl
    have HL5 := hid hj5
    have HL4 := hid hj4
    rw [hj1] at *
    have hjl : j < l.length := by omega
    have hjl' : (j : Int) < l.length := by omega
    have hjn : ((j : Int) == -1) = false := by simp
    have e2 := (sy.t2 hs2).cell hjl
    rw [hj4] at e2
    obtain ⟨b, o, hab⟩ := (sy.arcs hs2).b.get
    obtain ⟨rfl, hbl, hat⟩ := hab (by omega)
    obtain ⟨q0, q1, q2⟩ := hat j hjl
    have hmem := ar_mem hjl
    have hx := g.ends _ hmem
    have hw := g.wt _ hmem
    have hte := g.t_eq hmem
    have htl := g.dst_lt hmem
    clear hj4 hj5 hj1 hl hat hab
    have HME := hid hmem
    obtain ⟨xa, HXA⟩ := named (ar l j)
    have q0' : wr.cell? ⟨b, o + j * 3, none⟩ = some (.int .i64 (ar l j).f) := q0
    have q1' : wr.cell? ⟨b, o + j * 3 + 1, none⟩ = some (.int .i64 (ar l j).t) := q1
    have q2' : wr.cell? ⟨b, o + j * 3 + 2, none⟩ = some (.int .u32 (ar l j).w) := q2
    rw [hte] at q1'
    clear q0 q1 q2
    rw [HXA.out] at q0' q1' q2' hx hw hte htl
    go_wp2_with fail
    have hsa := (Below.refl wr.heap.size wr).alloc (Nat.le_refl _) (.cells #[.int .i64 xa.f, .int .i64 (dst xa), .int .u32 xa.w] 109)
    have HSZ : Hid (wr.heap.size < (wr.alloc (.cells #[.int .i64 xa.f, .int .i64 (dst xa), .int .u32 xa.w] 109)).heap.size) := by show _ < _; simp
    have hb57 := heap_top wr (.cells #[.int .i64 xa.f, .int .i64 (dst xa), .int .u32 xa.w] 109)
    obtain ⟨z0, z1, z2⟩ := three_cells hb57
    clear hb57 q0' q1' q2' c0 c1 c2 c3 c4 e2
    generalize wr.alloc (.cells #[.int .i64 xa.f, .int .i64 (dst xa), .int .u32 xa.w] 109) = W at *
    have hwi : 0 ≤ xa.w ∧ xa.w ≤ Inf := ⟨hw.1, by unfold Inf; omega⟩
    have HADD := hid (fun w' : World => add_any d xa.w HD.out hwi w')
    have hsl : 0 ≤ sat d xa.w := sat_ge (by have := HD.out.1; omega) (by unfold Inf; omega)
    have HARR := hid (fun (w' : World) (hb : Below W.heap.size W w') => sy.arr (y := j) hs2 (hsa.trans (hb.mono hsa.size)) htl hsl (sat_inf _ _) (fun k e => (hm2.out.inv.key _ k e).1))
    clear hwi hsl hsa hte hx
    have Z1 := hid z1
    have Z2 := hid z2
    have HTL := hid htl
    obtain ⟨hw0, hw1⟩ := hw
    have HW : IntKind.u64.wrap xa.w = xa.w := wrap_u64 hw0 (by omega)
    clear htl
    obtain ⟨sd, HSD⟩ := named (sat d xa.w)
    rw [HSD.out] at HADD HARR
    go_region_held3 (fun w' => w'.cell? ⟨wr.heap.size, 1, none⟩ = some (.int .i64 (dst xa)) ∧ w'.cell? ⟨wr.heap.size, 2, none⟩ = some (.int .u32 xa.w)) (go_keep) (first | (go_at_call 66; refine (HADD.out _).mono ?_; rintro e w' ⟨rfl, rfl⟩) | (go_at_call 185; refine (HARR.out _ (by first | exact Below.refl _ _ | exact (Below.refl _ _).drew | exact below_drewN _ _ _)).mono ?_; rintro e w3 ⟨rfl, hor, hfr⟩; have y1 : w3.cell? ⟨wr.heap.size, 1, none⟩ = some (.int .i64 (dst xa)) := (World.cell?_of_block (hfr _ (Nat.le_refl _) HSZ.out)).trans Z1.out; have y2 : w3.cell? ⟨wr.heap.size, 2, none⟩ = some (.int .u32 xa.w) := (World.cell?_of_block (hfr _ (Nat.le_refl _) HSZ.out)).trans Z2.out))
    have e9 : lastAt l (src (ar l j)) j = lastAt l v j := by rw [HL4.out]
    have hdst : dst (ar l j) = dst xa := by rw [HXA.out]
    have hsat : sat d (ar l j).w = sd := by rw [HXA.out, HSD.out]
    rcases hor with ⟨ho, hlt, x2, hs3, hxr⟩ | ⟨hno, hs3⟩
    ·have HMID := hid (hm2.out.take g.wt hjl HL4.out HL5.out (by rw [hdst]; exact ho) (by rw [hdst, hsat]; exact hlt))
     have HJ3 := hid (HJT.out F1 T1 x1 x2 K v d gk j hm2.out hjl HL4.out (by rw [hdst]; exact ho) (by rw [hdst, hsat]; exact hlt) hj2.out (by rw [hdst, hsat]; exact hxr))
     rw [hdst, hsat] at HMID HJ3
     have HDN : Hid (dn (updI F1 (dst xa) sd) (upd T1 (dst xa) (some sd)) n = m0) := by
      show _ = _
      rw [← hd2.out]
      refine dn_congr n (fun u hu => ?_)
      by_cases e : u = dst xa
      ·subst e
       rw [upd_self]
       refine ⟨fun h => (by cases h.2), fun h => ?_⟩
       have := hm2.out.top _ h.1 h.2
       have h8 := hm2.out.inv.lo (dst xa)
       have h9 : d ≤ sd := by rw [← HSD.out]; exact sat_ge (by omega) HD.out.2
       omega
      ·rw [updI_ne _ _ e, upd_ne _ _ e]
     obtain ⟨c0, c1, c2, c3, c4⟩ := five_cells (sy.hd hs3)
     have e2 := (sy.t2 hs3).cell hjl
     rw [e9] at e2
     have HRE := hid hxr
     clear hxr hlt ho hdst hsat e9 y1 y2 hfr z0 z1 z2
     go_wp2_with fail
     go_roundg j
     case measure => omega
     case rel => exact ⟨_, _, x2, by omega, rfl, hs3, HMID, HJ3, HDN⟩
    ·have HMID := hid (hm2.out.skip hjl HL4.out HL5.out (by rw [hdst, hsat]; exact hno))
     obtain ⟨c0, c1, c2, c3, c4⟩ := five_cells (sy.hd hs3)
     have e2 := (sy.t2 hs3).cell hjl
     rw [e9] at e2
     clear hno hdst hsat e9 y1 y2 hfr z0 z1 z2
     go_wp2_with fail
     go_roundg j
     case measure => omega
     case rel => exact ⟨F1, T1, x1, by omega, rfl, hs3, HMID, hj2, hd2⟩
 ·exact absurd hne (by rintro ⟨u, k, e⟩; rw [h1 u] at e; cases e)
set_option maxHeartbeats 800000 in
theorem goAll_any {f n : Nat} {a : Option Addr} {cap : Nat} {l : List A} {b1 b2 h : Nat} {fn : Value} {ok : Nat → Bool} {X : Type} {XR : (Nat → Int) → X → Nat → Int → Int → X → Prop} {SS : World → (Nat → Int) → (Nat → Option Int) → X → Prop} (sy : Sys f n a cap l b1 b2 h fn ok XR SS) (g : RG n l) (s : Nat)
  (J : (Nat → Int) → (Nat → Option Int) → X → Prop) (jp : ∀ F T x v d, J F T x → T v = some d → F v < Inf → J F (upd T v none) x)
  (jt : ∀ F T x x' K v d k j, Mid l ok s F T K v d k → j < l.length → src (ar l j) = v → ok (dst (ar l j)) = true → sat d (ar l j).w < F (dst (ar l j)) → J F T x → XR F x (dst (ar l j)) (sat d (ar l j).w) j x' → J (updI F (dst (ar l j)) (sat d (ar l j).w)) (upd T (dst (ar l j)) (some (sat d (ar l j).w))) x')
  {w : World} {F : Nat → Int} {T : Nat → Option Int} {x : X} (hs : SS w F T x) (hi : ∃ K, K ≤ dn F T n ∧ Inv l ok s F T K (fun _ => False)) (hj : J F T x) :
  Calls Tryz.prog 202 #[.pointer (some ⟨f, 0, none⟩)] w fun e w' => e = .returned (.tuple #[]) ∧ ∃ F' T' x', SS w' F' T' x' ∧ (∃ K, K ≤ dn F' T' n ∧ Inv l ok s F' T' K (fun _ => False)) ∧ J F' T' x' ∧ ∀ u, T' u = none := by
 have HST := hid (fun w F T x K hs hi hj hne => step_any sy g s J jp jt (w := w) (F := F) (T := T) (x := x) (K := K) hs hi hj hne)
 clear jp jt
 go_enter Tryz.func202, Tryz.ntmps202
 go_wp2_with fail
 go_loopg [3] (n - dn F T n) (fun k i wr => ∃ (F1 : Nat → Int) (T1 : Nat → Option Int) (x1 : X), SS wr F1 T1 x1 ∧ Hid (k = n - dn F1 T1 n) ∧ Hid (∃ K, K ≤ dn F1 T1 n ∧ Inv l ok s F1 T1 K (fun _ => False)) ∧ Hid (J F1 T1 x1))
 case atStart => exact ⟨F, T, x, hs, rfl, hi, hj⟩
 case round =>
  obtain ⟨F1, T1, x1, hs1, hk1, hi1, hj1⟩ := hrel
  obtain ⟨D, hp, hh⟩ := sy.heap hs1
  go_wp2_with fail
  refine (nearest_any (sy.hd hs1) hp).mono ?_
  rintro e w1 ⟨q, rfl, hq, hb⟩
  have hs2 := sy.on hs1 hb
  rcases hq with ⟨u, h1, h2⟩ | ⟨rfl, h1⟩
  ·obtain ⟨K, hK, hiv⟩ := hi1.out
   obtain ⟨hq1, hq2⟩ := hiv.key u q h1
   have hq : q < 18446744073709551615 := by unfold Inf at hq2; omega
   have HSP := hid (HST.out w1 F1 T1 x1 K hs2 hiv hj1.out ⟨u, q, h1⟩)
   have HN : Hid (dn F1 T1 n + 1 ≤ n) := by
    have h5 := Hp.HR.lt_n hp h1
    have h6 := dn_pop (F := F1) n h5 h1 hq2
    have := dn_le F1 (upd T1 u none) n
    show _ ≤ _
    omega
   have HK := hid hK
   clear hh hp hs1 hb hq1 hq2 h1 h2 hiv hK
   go_wp2_with fail
   refine HSP.out.mono ?_
   rintro e w2 ⟨rfl, F2, T2, x2, hs3, hi3, hj3, hd3⟩
   have HD3 := hid hd3
   have HI3 := hid hi3
   have HJ3 := hid hj3
   clear hd3 hi3 hj3
   go_wp2_with fail
   go_roundg (n - dn F2 T2 n)
   case measure => have := HD3.out; have := HN.out; have := hk1.out; omega
   case rel => exact ⟨F2, T2, x2, hs3, rfl, ⟨K + 1, by have := HD3.out; have := HK.out; omega, HI3.out⟩, HJ3⟩
  ·have H1 := hid h1
   clear h1 hh hp hs1 hb
   unfold Inf
   go_wp2_with fail
   go_end0
   exact ⟨rfl, F1, T1, x1, hs2, hi1.out, hj1.out, H1.out⟩
theorem heap_top_at (w : World) (o : Obj) (k : Nat) (h : w.heap.size = k) : (w.alloc o).heap[k]? = some o := by rw [← h]; exact heap_top w o
theorem below_base {W v w : World} (h : Below v.heap.size v w) (hb : Below W.heap.size W v) : Below W.heap.size W w := hb.trans (h.mono hb.size)
theorem Tb.alloc {w : World} {b n : Nat} {ty : TypeId} {K : IntKind} {F : Nat → Int} (h : Tb w b n ty K F) (o : Obj) : Tb (w.alloc o) b n ty K F := h.same (Below.heap_alloc w o b h.lt)
theorem set2_other {w : World} {c b : Nat} {u1 u2 : Value} (h : b ≠ c) : ((w.setCell ⟨c, 0, none⟩ u1).setCell ⟨c, 1, none⟩ u2).heap[b]? = w.heap[b]? :=
 (Below.heap_setCell _ _ _ b h).trans (Below.heap_setCell w _ _ b h)
theorem set2_same {w : World} {c : Nat} {a b u1 u2 : Value} {t : TypeId} (h : w.heap[c]? = some (.cells #[a, b] t)) : ((w.setCell ⟨c, 0, none⟩ u1).setCell ⟨c, 1, none⟩ u2).heap[c]? = some (.cells #[u1, u2] t) := by
 rw [heap_setCell_same _ c 1 _ _ _ (heap_setCell_same w c 0 _ _ _ h)]
 simp
theorem tb1 {W w1 : World} {o : Obj} (h : Below (W.alloc o).drew.heap.size (W.alloc o).drew w1) : w1.heap[W.heap.size]? = some o :=
 (h.block W.heap.size (by show _ < (W.alloc o).heap.size; simp)).trans (heap_top W o)
theorem tb2 {W w1 : World} {o p : Obj} (h : Below ((W.alloc o).alloc p).drew.heap.size ((W.alloc o).alloc p).drew w1) : w1.heap[W.heap.size]? = some o :=
 (h.block W.heap.size (by show _ < ((W.alloc o).alloc p).heap.size; simp; omega)).trans ((Below.heap_alloc (W.alloc o) p _ (by simp)).trans (heap_top W o))
theorem tb3 {W w1 : World} {o p : Obj} (h : Below ((W.alloc p).alloc o).drew.heap.size ((W.alloc p).alloc o).drew w1) : w1.heap[W.heap.size + 1]? = some o :=
 (h.block (W.heap.size + 1) (by show _ < ((W.alloc p).alloc o).heap.size; simp)).trans (heap_top_at (W.alloc p) o _ (by simp))
set_option maxHeartbeats 1600000 in
theorem chained_any (n : Nat) (a : Option Addr) (l : List A) (cap : Nat) (w : World) (g : RG n l) (hr : Arcs w a l) :
  Calls Tryz.prog 184 #[.agg #[.int .i64 n, .slice a l.length cap]] w fun e w' => ∃ b1 b2, e = .returned (.agg #[.slice (some ⟨b1, 0, none⟩) n n, .slice (some ⟨b2, 0, none⟩) l.length l.length]) ∧ b1 ≠ b2 ∧ w.heap.size ≤ b1 ∧ w.heap.size ≤ b2 ∧
   Tb w' b1 n 3 .i64 (fun v => lastAt l v l.length) ∧ Tb w' b2 l.length 3 .i64 (fun j => lastAt l (src (ar l j)) j) ∧ Below w.heap.size w w' := by
 obtain ⟨i0, hi, hz0, hz1, hz2⟩ := info_parts info3
 have hnb := g.nb
 have hlb := g.lb
 have HM := hid (made_int l.length)
 have hb0 : Below w.heap.size w ((w.alloc (.cells #[.int .i64 n, .slice a l.length cap] 24)).alloc (.cells #[.slice none 0 0, .slice none 0 0] 244)) := ((Below.refl _ _).alloc (Nat.le_refl _) _).alloc (by simp) _
 have hg : ((w.alloc (.cells #[.int .i64 n, .slice a l.length cap] 24)).alloc (.cells #[.slice none 0 0, .slice none 0 0] 244)).heap[w.heap.size]? = some (.cells #[.int .i64 n, .slice a l.length cap] 24) := (Below.heap_alloc _ _ _ (by simp)).trans (heap_top w _)
 have h1 := heap_top (w.alloc (.cells #[.int .i64 n, .slice a l.length cap] 24)) (.cells #[.slice none 0 0, .slice none 0 0] 244)
 rw [show (w.alloc (.cells #[.int .i64 n, .slice a l.length cap] 24)).heap.size = w.heap.size + 1 by simp] at h1
 have hmS : ∀ w, (Instr.makeSlice 25 (.int .i64 l.length) (.int .i64 l.length)).run Tryz.prog w = .ok (.slice (some ⟨w.heap.size, 0, none⟩) l.length l.length) (w.alloc (.cells ((List.range l.length).map (fun _ => Value.int .i64 0)).toArray 3)) := fun w => by
  have := run_make (P := Tryz.prog) w 25 3 i0 (.int .i64 0) Tryz.underlying25 hi hz0 .i64 .i64 l.length l.length (by omega) (by omega) (by rw [hz2]; omega) (by omega)
  rw [hz1] at this
  rw [this, Int.toNat_natCast, ← HM.out, Array.toArray_toList]
 go_enter Tryz.func184, Tryz.ntmps184
 go_wp2_with fail
 generalize hW : (w.alloc (.cells #[.int .i64 n, .slice a l.length cap] 24)).alloc (.cells #[.slice none 0 0, .slice none 0 0] 244) = W at *
 obtain ⟨⟨g0, g1⟩, gf0, gf1⟩ := two_cells hg
 have HSZ := hid (lt_of_block hg)
 have HNB : Hid (n ≤ 8192) := by show _ ≤ _; omega
 go_cut [3] (fun s3 wc => ∃ b1 b2 c, s3 = .pointer (some ⟨c, 0, none⟩) ∧ wc.heap[c]? = some (.cells #[.slice (some ⟨b1, 0, none⟩) n n, .slice (some ⟨b2, 0, none⟩) l.length l.length] 244) ∧ Tb wc b1 n 3 .i64 (fun _ => -1) ∧ Tb wc b2 l.length 3 .i64 (fun _ => 0) ∧ W.heap.size ≤ b1 ∧ W.heap.size ≤ b2 ∧ W.heap.size ≤ c ∧ b1 ≠ b2 ∧ b1 ≠ c ∧ b2 ≠ c ∧ Below W.heap.size W wc)
 case first =>
  have G0 := hid g0
  have G1 := hid g1
  have hn1 : w.heap.size ≠ W.heap.size := Nat.ne_of_lt HSZ.out
  have hn2 : w.heap.size ≠ W.heap.size + 1 := Nat.ne_of_lt (Nat.lt_succ_of_lt HSZ.out)
  have hn3 := hn1.symm
  have hn4 := hn2.symm
  clear hW hb0 hg h1 hr g hi hz0 hz1 hz2 HM gf0 gf1 hnb hlb
  clear i0
  go_region_held3 (fun w' => w'.cell? ⟨w.heap.size, 0, none⟩ = some (.int .i64 n) ∧ w'.cell? ⟨w.heap.size, 1, none⟩ = some (.slice a l.length cap)) (go_keep) (((go_at_call 214; refine (filledI_any n HNB.out (-1) _).mono ?_; rintro e w1 ⟨b1, rfl, ht1, hb1, hbe⟩; have BE : Below W.heap.size W w1 := below_base hbe (by first | exact (Below.refl _ _).drew | exact ((Below.refl _ _).drew).alloc (Nat.le_refl _) _ | exact ((((Below.refl _ _).drew).alloc (Nat.le_refl _) _).alloc (by rw [World.size_alloc]; exact Nat.le_succ _) _)); have s1 : w.heap.size ≠ w1.heap.size := Nat.ne_of_lt (Nat.lt_of_lt_of_le HSZ.out BE.size); have s2 : w.heap.size ≠ w1.heap.size + 1 := Nat.ne_of_lt (Nat.lt_succ_of_lt (Nat.lt_of_lt_of_le HSZ.out BE.size)); have s3 := s1.symm; have s4 := s2.symm; have y0 := (BE.cell (p := ⟨w.heap.size, 0, none⟩) HSZ.out).trans G0.out; have y1 := (BE.cell (p := ⟨w.heap.size, 1, none⟩) HSZ.out).trans G1.out); first | (have zz : w1.heap[W.heap.size]? = some (.cells #[.slice none 0 0, .slice none 0 0] 244) := tb2 hbe; have mm : w1.heap[W.heap.size + 1]? = some (.cells ((List.range l.length).map (fun _ => Value.int .i64 0)).toArray 3) := tb3 hbe; obtain ⟨⟨z0, z1⟩, zf0, zf1⟩ := two_cells zz; have zlt := lt_of_block zz; have zne := Nat.ne_of_lt zlt) | (have zz : w1.heap[W.heap.size + 1]? = some (.cells #[.slice none 0 0, .slice none 0 0] 244) := tb3 hbe; have mm : w1.heap[W.heap.size]? = some (.cells ((List.range l.length).map (fun _ => Value.int .i64 0)).toArray 3) := tb2 hbe; obtain ⟨⟨z0, z1⟩, zf0, zf1⟩ := two_cells zz; have zlt := lt_of_block zz; have zne := Nat.ne_of_lt zlt) | (have zz : w1.heap[W.heap.size]? = some (.cells #[.slice none 0 0, .slice none 0 0] 244) := tb1 hbe; obtain ⟨⟨z0, z1⟩, zf0, zf1⟩ := two_cells zz; have zlt := lt_of_block zz; have zne := Nat.ne_of_lt zlt) | (have mm : w1.heap[W.heap.size]? = some (.cells ((List.range l.length).map (fun _ => Value.int .i64 0)).toArray 3) := tb1 hbe) | skip))
  ·go_wp2_with fail
   go_meet
   case rel =>
    have q1 : W.heap.size ≤ b1 := hb1
    have q2 := ht1.lt
    have q3 := BE.size
    exact ⟨b1, w1.heap.size, w1.heap.size + 1, rfl, heap_top_at _ _ _ (by simp), (ht1.alloc _).alloc _, (Below.heap_alloc _ _ _ (by simp)).trans (heap_top w1 _), by omega, by omega, by omega, by omega, by omega, by omega, (BE.alloc q3 _).alloc (by simp; omega) _⟩
  ·go_wp2_with fail
   go_meet
   case rel =>
    have q1 : W.heap.size ≤ b1 := hb1
    have q2 := ht1.lt
    have q3 := BE.size
    exact ⟨b1, w1.heap.size + 1, w1.heap.size, rfl, (Below.heap_alloc _ _ _ (by simp)).trans (heap_top w1 _), (ht1.alloc _).alloc _, heap_top_at _ _ _ (by simp), by omega, by omega, by omega, by omega, by omega, by omega, (BE.alloc q3 _).alloc (by simp; omega) _⟩
  ·go_wp2_with fail
   go_meet
   case rel =>
    have q1 : W.heap.size + 1 ≤ b1 := by have := hb1; rw [show (W.alloc (.cells ((List.range l.length).map (fun _ => Value.int .i64 0)).toArray 3)).drew.heap.size = W.heap.size + 1 by show (W.alloc _).heap.size = _; simp] at this; exact this
    have q2 := ht1.lt
    have q3 := BE.size
    have q4 := lt_of_block mm
    exact ⟨b1, W.heap.size, w1.heap.size, rfl, heap_top w1 _, ht1.alloc _, (Below.heap_alloc _ _ _ q4).trans mm, by omega, by omega, by omega, by omega, by omega, by omega, BE.alloc q3 _⟩
  ·go_wp2_with fail
   go_meet
   case rel =>
    have q1 : W.heap.size + 2 ≤ b1 := by have := hb1; rw [show ((W.alloc (.cells ((List.range l.length).map (fun _ => Value.int .i64 0)).toArray 3)).alloc (.cells #[.slice none 0 0, .slice none 0 0] 244)).drew.heap.size = W.heap.size + 2 by show ((W.alloc _).alloc _).heap.size = _; simp] at this; exact this
    have q2 := ht1.lt
    have q3 := BE.size
    exact ⟨b1, W.heap.size, W.heap.size + 1, rfl, set2_same zz, ht1.same (set2_other (by omega)), (set2_other (by omega)).trans mm, by omega, by omega, by omega, by omega, by omega, by omega, (BE.setCell (by show W.heap.size ≤ W.heap.size + 1; omega) _).setCell (by show W.heap.size ≤ W.heap.size + 1; omega) _⟩
  ·go_wp2_with fail
   go_meet
   case rel =>
    have q1 : W.heap.size + 1 ≤ b1 := by have := hb1; rw [show (W.alloc (.cells #[.slice none 0 0, .slice none 0 0] 244)).drew.heap.size = W.heap.size + 1 by show (W.alloc _).heap.size = _; simp] at this; exact this
    have q2 := ht1.lt
    have q3 := BE.size
    exact ⟨b1, w1.heap.size, W.heap.size, rfl, (Below.heap_alloc _ _ _ (by simp; exact zlt)).trans (set2_same zz), Tb.alloc (ht1.same (set2_other (by omega))) _, heap_top_at _ _ _ (by simp), by omega, by omega, by omega, by omega, by omega, by omega, ((BE.setCell (by show W.heap.size ≤ W.heap.size; omega) _).setCell (by show W.heap.size ≤ W.heap.size; omega) _).alloc (by simp; exact q3) _⟩
  ·go_wp2_with fail
   go_meet
   case rel =>
    have q1 : W.heap.size + 2 ≤ b1 := by have := hb1; rw [show ((W.alloc (.cells #[.slice none 0 0, .slice none 0 0] 244)).alloc (.cells ((List.range l.length).map (fun _ => Value.int .i64 0)).toArray 3)).drew.heap.size = W.heap.size + 2 by show ((W.alloc _).alloc _).heap.size = _; simp] at this; exact this
    have q2 := ht1.lt
    have q3 := BE.size
    exact ⟨b1, W.heap.size + 1, W.heap.size, rfl, set2_same zz, ht1.same (set2_other (by omega)), (set2_other (by omega)).trans mm, by omega, by omega, by omega, by omega, by omega, by omega, (BE.setCell (by show W.heap.size ≤ W.heap.size; omega) _).setCell (by show W.heap.size ≤ W.heap.size; omega) _⟩
 case rest =>
  obtain ⟨b1, b2, c, hs3, hc, ht1, ht2, p1, p2, p3, p4, p5, p6, hbc⟩ := hcut
  subst hs3
  have hgc := (hbc.block _ (lt_of_block hg)).trans hg
  have h1c := (hbc.block _ (lt_of_block h1)).trans h1
  have hbw : Below w.heap.size w wc := hb0.trans (hbc.mono hb0.size)
  have s0 := lt_of_block hg
  have s1 := lt_of_block h1
  have HRA := hid hr
  have HG := hid g
  obtain ⟨ba, oa, hab⟩ := hr.b.get
  clear hg h1 g0 g1 gf0 gf1 hbc hb0 hmS HM hW hr
  clear hi hz0 hz1 hz2 i0
  obtain ⟨⟨g0, g1⟩, gf0, gf1⟩ := two_cells hgc
  go_wp2_with fail
  go_loopw [17] (fun i wr => ∃ k : Nat, k ≤ l.length ∧ i = .int .i64 k ∧ Tb wr b1 n 3 .i64 (fun v => lastAt l v k) ∧ Tb wr b2 l.length 3 .i64 (fun j => if j < k then lastAt l (src (ar l j)) j else 0) ∧ wr.heap[c]? = some (.cells #[.slice (some ⟨b1, 0, none⟩) n n, .slice (some ⟨b2, 0, none⟩) l.length l.length] 244) ∧ wr.heap[w.heap.size + 1]? = some (.cells #[.slice none 0 0, .slice none 0 0] 244) ∧ Below w.heap.size w wr) (fun i _ => l.length - (intOf i).toNat)
  case atStart => exact ⟨0, Nat.zero_le _, rfl, ht1, ht2.congr (fun v _ => by simp), hc, h1c, hbw⟩
  case round =>
   obtain ⟨k, hk, rfl, t1, t2, hcr, h1r, hbr⟩ := hrel
   clear g0 g1 gf0 gf1 hgc ht1 ht2 hc h1c hbw
   obtain ⟨⟨c0, c1⟩, cf0, cf1⟩ := two_cells hcr
   by_cases hlt : k < l.length
   ·obtain ⟨rfl, hbl, hat⟩ := hab (by omega)
    obtain ⟨q0, q1, q2⟩ := (hat k hlt).on hbr
    have hlt' : (k : Int) < l.length := by omega
    have hmem := ar_mem hlt
    have hse := HG.out.f_eq hmem
    have hsl := HG.out.src_lt hmem
    obtain ⟨x, HX⟩ := named (ar l k)
    have q0' : wr.cell? ⟨ba, oa + k * 3, none⟩ = some (.int .i64 (ar l k).f) := q0
    have q1' : wr.cell? ⟨ba, oa + k * 3 + 1, none⟩ = some (.int .i64 (ar l k).t) := q1
    have q2' : wr.cell? ⟨ba, oa + k * 3 + 2, none⟩ = some (.int .u32 (ar l k).w) := q2
    rw [hse] at q0'
    rw [HX.out] at q0' q1' q2' hsl
    clear q0 q1 q2 hmem hse hat
    have hsl' : ((src x : Nat) : Int) < n := by omega
    have d1 := t1.cell hsl
    have d2 := t2.cell hlt
    have f1 := t1.free (src x)
    have f2 := t2.free k
    have z1 := t1.lt
    have z2 := t2.lt
    have z3 := lt_of_block hcr
    have z4 := lt_of_block h1r
    go_wp2_with fail
    have T1 := hid (t1.alloc (.cells #[.int .i64 (src x), .int .i64 x.t, .int .u32 x.w] 109))
    have T2 := hid (t2.alloc (.cells #[.int .i64 (src x), .int .i64 x.t, .int .u32 x.w] 109))
    have hca := (Below.heap_alloc wr (.cells #[.int .i64 (src x), .int .i64 x.t, .int .u32 x.w] 109) _ z3).trans hcr
    have HCA := hid hca
    have H1A := hid ((Below.heap_alloc wr (.cells #[.int .i64 (src x), .int .i64 x.t, .int .u32 x.w] 109) _ z4).trans h1r)
    have HBA := hid (hbr.alloc hbr.size (.cells #[.int .i64 (src x), .int .i64 x.t, .int .u32 x.w] 109))
    obtain ⟨x0, x1, x2⟩ := three_cells (heap_top wr (.cells #[.int .i64 (src x), .int .i64 x.t, .int .u32 x.w] 109))
    clear c0 c1 cf0 cf1 d1 d2 f1 f2 q0' q1' q2' t1 t2 hcr h1r hbr
    have zx1 : b1 ≠ wr.heap.size := by omega
    have zx2 : b2 ≠ wr.heap.size := by omega
    have zx3 : c ≠ wr.heap.size := by omega
    generalize wr.heap.size = Z at *
    generalize wr.alloc (.cells #[.int .i64 (src x), .int .i64 x.t, .int .u32 x.w] 109) = W5 at *
    obtain ⟨⟨c0, c1⟩, cf0, cf1⟩ := two_cells hca
    have d1 := T1.out.cell hsl
    have d2 := T2.out.cell hlt
    have f1 := T1.out.free (src x)
    have f2 := T2.out.free k
    have p4' := p4.symm
    have p5' := p5.symm
    have p6' := p6.symm
    clear hca
    obtain ⟨la, HLA⟩ := named (lastAt l (src x) k)
    rw [HLA.out] at d1
    rw [if_neg (Nat.lt_irrefl k)] at d2
    go_region
    go_wp2_with fail
    refine ⟨⟨k + 1, by omega, by go_num, ?_, ?_, ?_, ?_, ?_⟩, by simp [intOf]; omega⟩
    ·refine Tb.congr (F := updI (fun v => lastAt l v k) (src x) k) (Tb.set (T1.out.same (Below.heap_setCell _ _ _ _ p4)) (src x) k) (fun v _ => ?_)
     show (if v = src x then (k : Int) else lastAt l v k) = (if src (ar l k) = v then (k : Int) else lastAt l v k)
     rw [HX.out]
     by_cases e : v = src x
     ·subst e; simp
     ·rw [if_neg e, if_neg (fun h => e h.symm)]
    ·refine Tb.congr (F := updI (fun j => if j < k then lastAt l (src (ar l j)) j else 0) k la) (Tb.same (T2.out.set k la) (Below.heap_setCell _ _ _ _ p4')) (fun v _ => ?_)
     unfold updI
     by_cases e : v = k
     ·subst e; rw [if_pos rfl, if_pos (by omega), HX.out, HLA.out]
     ·rw [if_neg e]
      show (if v < k then lastAt l (src (ar l v)) v else 0) = _
      by_cases e2 : v < k
      ·rw [if_pos e2, if_pos (by omega)]
      ·rw [if_neg e2, if_neg (by omega)]
    ·exact (Below.heap_setCell _ _ _ _ p5').trans ((Below.heap_setCell _ _ _ _ p6').trans HCA.out)
    ·exact (Below.heap_setCell _ _ _ _ (by show w.heap.size + 1 ≠ b1; omega)).trans ((Below.heap_setCell _ _ _ _ (by show w.heap.size + 1 ≠ b2; omega)).trans H1A.out)
    ·exact ((HBA.out.setCell (by show w.heap.size ≤ b2; omega) _).setCell (by show w.heap.size ≤ b1; omega) _).drew
   ·have hkl : k = l.length := by omega
    have hlt' : ¬ (k : Int) < l.length := by omega
    obtain ⟨⟨r0, r1⟩, rf0, rf1⟩ := two_cells h1r
    have T1 := hid t1
    have T2 := hid t2
    clear t1 t2 hab
    subst hkl
    go_wp2_with fail
    refine bodyPost_ret (v := .agg #[.slice (some ⟨b1, 0, none⟩) n n, .slice (some ⟨b2, 0, none⟩) l.length l.length]) (by simp [results, Tryz.results184, go_sem, r0, r1]) rfl ⟨b1, b2, rfl, p4, by omega, by omega, ?_, ?_, ?_⟩
    ·exact T1.out.same ((Below.heap_setCell _ _ _ _ (by show b1 ≠ w.heap.size + 1; omega)).trans (Below.heap_setCell _ _ _ _ (by show b1 ≠ w.heap.size + 1; omega)))
    ·refine (T2.out.same ((Below.heap_setCell _ _ _ _ (by show b2 ≠ w.heap.size + 1; omega)).trans (Below.heap_setCell _ _ _ _ (by show b2 ≠ w.heap.size + 1; omega)))).congr (fun j hj => by rw [if_pos hj])
    ·exact (hbr.setCell (by show w.heap.size ≤ w.heap.size + 1; omega) _).setCell (by show w.heap.size ≤ w.heap.size + 1; omega) _
end Go.Proofs.YtaafkpojjdjphaaGreat.N5
