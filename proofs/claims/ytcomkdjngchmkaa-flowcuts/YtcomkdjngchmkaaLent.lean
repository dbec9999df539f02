/-
  A network in memory of its own: the contract of lent.
-/
import Derived.Test.YtcomkdjngchmkaaRow
import Derived.BigRegion
import Derived.Deep.RegionLaw
namespace Go.Proofs.Ytcomkdjngchmkaa
open Go.RowKit
theorem wp_append_none {P : Program} {w : World} {o : Oper} {a : Act} {K : Act → World → Prop} {Q : Exit → Act → World → Prop} (s x : Operand) (t : TypeId)
    (ho : o.op = .call { callee := .builtin .append, args := #[s, x], argTypes := #[t, t] }) (base : Nat) (e : TypeId) (i : TypeInfo) (size : Nat) (ht : P.underlying t = some (.slice e)) (hi : P.info? e = some i)
    (v : Value) (n : Nat) (xs : List Value) (hs : a.eval s = v) (hown : w.ownsRow base e size v n xs) (hx : a.eval x = .slice none 0 0) (h : K (a.put o.dst v) w) : o.wp P a w K Q := by
  have hrun := run_append_owned_none (P := P) (w := w) base t o.type e i size ht hi v n xs hown
  unfold Oper.wp
  simp [execOp, ho, resolve, invoke, builtin, hs, hx, hrun, Result.andThen]
  exact h
theorem set2_same {w : World} {h : Nat} {x y a b : Value} {t : TypeId} (hh : w.heap[h]? = some (.cells #[x, y] t (0, 0))) : ((w.setCell ⟨h, 0, none⟩ a).setCell ⟨h, 1, none⟩ b).heap[h]? = some (.cells #[a, b] t (0, 0)) := by
  have h1 := heap_setCell_same w h 0 _ _ a hh
  rw [heap_setCell_same _ h 1 _ _ b h1]
  simp
theorem own_set {w : World} {base : Nat} {e : TypeId} {size : Nat} {v : Value} {n : Nat} {xs : List Value} (h : w.ownsRow base e size v n xs) (p : Addr) (u : Value) (hp : p.block < base) : (w.setCell p u).ownsRow base e size v n xs := by
  refine ⟨h.1, ?_⟩
  rcases h.2 with h' | ⟨g, c, cur, h1, h2, h3, h4⟩
  · exact Or.inl h'
  · exact Or.inr ⟨g, c, cur, h1, h2, (Below.heap_setCell w p u g (fun e => by omega)).trans h3, h4⟩
set_option maxHeartbeats 1600000 in
set_option maxRecDepth 100000 in
theorem lent_some (N : Int) (ad : Addr) (l : List A) (cap : Nat) (w : World) (hlen : l.length * 24 ≤ 140737488351232) (hr : Arcs w (some ad) l) :
    Calls Try.prog 11 #[.agg #[.int .i64 N, .slice (some ad) l.length cap]] w fun e w' => ∃ a2 c2, e = .returned (.agg #[.int .i64 N, .slice a2 l.length c2]) ∧ OwnA w' w.heap.size a2 c2 l ∧ Below w.heap.size w w' := by
  obtain ⟨i0, hi, hz0, hz1, hz2⟩ := info_parts info52
  have hb0 : Below w.heap.size w ((w.alloc (.cells #[.int .i64 N, .slice (some ad) l.length cap] 24)).alloc (.cells #[.int .i64 0, .slice none 0 0] 24)) := ((Below.refl _ _).alloc (Nat.le_refl _) _).alloc (by simp) _
  have hg : ((w.alloc (.cells #[.int .i64 N, .slice (some ad) l.length cap] 24)).alloc (.cells #[.int .i64 0, .slice none 0 0] 24)).heap[w.heap.size]? = some (.cells #[.int .i64 N, .slice (some ad) l.length cap] 24) := (Below.heap_alloc _ _ _ (by simp)).trans (heap_top w _)
  have h1 := heap_top (w.alloc (.cells #[.int .i64 N, .slice (some ad) l.length cap] 24)) (.cells #[.int .i64 0, .slice none 0 0] 24)
  rw [show (w.alloc (.cells #[.int .i64 N, .slice (some ad) l.length cap] 24)).heap.size = w.heap.size + 1 by simp] at h1
  have hs0 : ((w.alloc (.cells #[.int .i64 N, .slice (some ad) l.length cap] 24)).alloc (.cells #[.int .i64 0, .slice none 0 0] 24)).heap.size = w.heap.size + 2 := by simp
  go_enter Try.func11, Try.ntmps11
  go_wp2_with fail
  have hrW := hr.on hb0
  generalize (w.alloc (.cells #[.int .i64 N, .slice (some ad) l.length cap] 24)).alloc (.cells #[.int .i64 0, .slice none 0 0] 24) = W at *
  have hown0 := World.ownsRow_lit (base := w.heap.size + 2) (e := 52) (size := 3) W.drew #[] 0 (by show _ ≤ W.heap.size; omega) (by decide) rfl
  have HL : Hid ((cellsA l).length = l.length * 3) := cellsA_len l
  have HN := Lib.hid (clone_news (w := W.drew) hrW (.cells #[] 52))
  obtain ⟨⟨g0, g1⟩, gf0, gf1⟩ := two_cells hg
  obtain ⟨⟨k0, k1⟩, kf0, kf1⟩ := two_cells h1
  have HS0 := Lib.hid hs0
  have HLE : Hid (w.heap.size + 2 ≤ W.heap.size) := by show _ ≤ _; omega
  have hBd : Below (w.heap.size + 2) W (W.drew.alloc (.cells #[] 52)) := ((Below.refl _ W).drew).alloc (by show _ ≤ W.heap.size; omega) _
  have HBD := Lib.hid hBd
  have hne : w.heap.size ≠ W.heap.size := by omega
  have hne2 : w.heap.size + 1 ≠ W.heap.size := by omega
  obtain ⟨⟨u0, u1⟩, -⟩ := two_cells ((Below.heap_alloc W (.cells #[] 52) w.heap.size (by omega)).trans hg)
  have HH1 := Lib.hid h1
  have HB0 := Lib.hid hb0
  clear hs0 hBd hb0 hg h1
  go_region_law (first | (rw [if_pos (by rfl)]; refine wp_append_own _ (.tmp 5) (.tmp 7) 22 rfl (w.heap.size + 2) 52 i0 _ 3 24 Try.underlying22 hi hz0 hz1 hz2 rfl (by decide) (.slice (some ⟨W.heap.size, 0, none⟩) 0 0) 0 [] rfl hown0 ad l.length cap (cellsA l) rfl HL.out HN.out (cellsA_one l) (by unfold maxLen; omega) (by omega) (by have := HLE.out; simp; omega) ?_; intro v1 w1 hown1 hgrow1 hnil1; obtain ⟨g1', c1, hv1, hg1, hc1, hs1, hm1⟩ := own_shape hown1 (fun e => by have := hnil1.1 e; simp at this); rw [hv1] at hown1 ⊢; clear hnil1 hv1; have hb1 : Below (w.heap.size + 2) W w1 := HBD.out.grown hgrow1 (by have := HLE.out; simp; omega) (by intro k hk; have := (hown0.lt k hk).1; omega); have q0 := (hb1.cell (p := ⟨w.heap.size, 0, none⟩) (by show w.heap.size < _; omega)).trans g0; have hk1 := (hb1.block (w.heap.size + 1) (by omega)).trans HH1.out; obtain ⟨⟨q1, q2⟩, qf1, qf2⟩ := two_cells hk1))
  all_goals
    have hfin := set2_same (a := .int .i64 N) (b := .slice (some ⟨g1', 0, none⟩) l.length c1) hk1
    have hown2 := own_set (own_set hown1 ⟨w.heap.size + 1, 0, none⟩ (.int .i64 N) (show w.heap.size + 1 < w.heap.size + 2 from Nat.lt_succ_self _)) ⟨w.heap.size + 1, 1, none⟩ (.slice (some ⟨g1', 0, none⟩) l.length c1) (show w.heap.size + 1 < w.heap.size + 2 from Nat.lt_succ_self _)
    simp only [Nat.zero_add, List.nil_append] at hown2
    have hb2 : Below w.heap.size w ((w1.setCell ⟨w.heap.size + 1, 0, none⟩ (.int .i64 N)).setCell ⟨w.heap.size + 1, 1, none⟩ (.slice (some ⟨g1', 0, none⟩) l.length c1)) := ((HB0.out.trans (hb1.mono (by omega))).setCell (by show w.heap.size ≤ w.heap.size + 1; omega) _).setCell (by show w.heap.size ≤ w.heap.size + 1; omega) _
    clear hown1 hgrow1 hk1 q0 q1 q2 qf1 qf2 hb1 g0 g1 gf0 gf1 k0 k1 kf0 kf1 u0 u1
    generalize (w1.setCell ⟨w.heap.size + 1, 0, none⟩ (.int .i64 N)).setCell ⟨w.heap.size + 1, 1, none⟩ (.slice (some ⟨g1', 0, none⟩) l.length c1) = W9 at *
    obtain ⟨⟨z0, z1⟩, -⟩ := two_cells hfin
    go_wp2_with fail
    exact bodyPost_ret (v := .agg #[.int .i64 N, .slice (some ⟨g1', 0, none⟩) l.length c1]) (by simp [results, Try.results11, go_sem, z0, z1]) rfl ⟨_, _, rfl, own_base hown2 (by omega), hb2⟩
set_option maxHeartbeats 1600000 in
set_option maxRecDepth 100000 in
theorem lent_none (N : Int) (w : World) :
    Calls Try.prog 11 #[.agg #[.int .i64 N, .slice none 0 0]] w fun e w' => ∃ a2 c2, e = .returned (.agg #[.int .i64 N, .slice a2 0 c2]) ∧ OwnA w' w.heap.size a2 c2 [] ∧ Below w.heap.size w w' := by
  obtain ⟨i0, hi, hz0, hz1, hz2⟩ := info_parts info52
  have hb0 : Below w.heap.size w ((w.alloc (.cells #[.int .i64 N, .slice none 0 0] 24)).alloc (.cells #[.int .i64 0, .slice none 0 0] 24)) := ((Below.refl _ _).alloc (Nat.le_refl _) _).alloc (by simp) _
  have hg : ((w.alloc (.cells #[.int .i64 N, .slice none 0 0] 24)).alloc (.cells #[.int .i64 0, .slice none 0 0] 24)).heap[w.heap.size]? = some (.cells #[.int .i64 N, .slice none 0 0] 24) := (Below.heap_alloc _ _ _ (by simp)).trans (heap_top w _)
  have h1 := heap_top (w.alloc (.cells #[.int .i64 N, .slice none 0 0] 24)) (.cells #[.int .i64 0, .slice none 0 0] 24)
  rw [show (w.alloc (.cells #[.int .i64 N, .slice none 0 0] 24)).heap.size = w.heap.size + 1 by simp] at h1
  have hs0 : ((w.alloc (.cells #[.int .i64 N, .slice none 0 0] 24)).alloc (.cells #[.int .i64 0, .slice none 0 0] 24)).heap.size = w.heap.size + 2 := by simp
  go_enter Try.func11, Try.ntmps11
  go_wp2_with fail
  generalize (w.alloc (.cells #[.int .i64 N, .slice none 0 0] 24)).alloc (.cells #[.int .i64 0, .slice none 0 0] 24) = W at *
  have hown0 := World.ownsRow_lit (base := w.heap.size + 2) (e := 52) (size := 3) W.drew #[] 0 (by show _ ≤ W.heap.size; omega) (by decide) rfl
  obtain ⟨⟨g0, g1⟩, gf0, gf1⟩ := two_cells hg
  have HLE : Hid (w.heap.size + 2 ≤ W.heap.size) := by show _ ≤ _; omega
  have hBd : Below (w.heap.size + 2) W (W.drew.alloc (.cells #[] 52)) := ((Below.refl _ W).drew).alloc (by show _ ≤ W.heap.size; omega) _
  have hne : w.heap.size ≠ W.heap.size := by omega
  have hne2 : w.heap.size + 1 ≠ W.heap.size := by omega
  obtain ⟨⟨u0, u1⟩, -⟩ := two_cells ((Below.heap_alloc W (.cells #[] 52) w.heap.size (by omega)).trans hg)
  have hk1 := (Below.heap_alloc W (.cells #[] 52) (w.heap.size + 1) (by omega)).trans h1
  obtain ⟨⟨q1, q2⟩, qf1, qf2⟩ := two_cells hk1
  have HK1 := Lib.hid hk1
  have HB0 := Lib.hid hb0
  have HBD := Lib.hid hBd
  clear hs0 hBd hb0 hg h1 hk1
  go_region_law (first | (rw [if_pos (by rfl)]; refine wp_append_none (.tmp 5) (.tmp 7) 22 rfl (w.heap.size + 2) 52 i0 3 Try.underlying22 hi (.slice (some ⟨W.heap.size, 0, none⟩) 0 0) 0 [] rfl hown0 rfl ?_))
  all_goals
    have hown1 : (W.alloc (.cells #[] 52)).ownsRow (w.heap.size + 2) 52 3 (.slice (some ⟨W.heap.size, 0, none⟩) 0 0) 0 [] := ⟨hown0.1, hown0.2⟩
    have hfin := set2_same (a := .int .i64 N) (b := .slice (some ⟨W.heap.size, 0, none⟩) 0 0) HK1.out
    have hown2 := own_set (own_set hown1 ⟨w.heap.size + 1, 0, none⟩ (.int .i64 N) (show w.heap.size + 1 < w.heap.size + 2 from Nat.lt_succ_self _)) ⟨w.heap.size + 1, 1, none⟩ (.slice (some ⟨W.heap.size, 0, none⟩) 0 0) (show w.heap.size + 1 < w.heap.size + 2 from Nat.lt_succ_self _)
    have hb2 : Below w.heap.size w (((W.alloc (.cells #[] 52)).setCell ⟨w.heap.size + 1, 0, none⟩ (.int .i64 N)).setCell ⟨w.heap.size + 1, 1, none⟩ (.slice (some ⟨W.heap.size, 0, none⟩) 0 0)) := ((HB0.out.alloc (by have := HLE.out; omega) _).setCell (by show w.heap.size ≤ w.heap.size + 1; omega) _).setCell (by show w.heap.size ≤ w.heap.size + 1; omega) _
    clear hown0 hown1 g0 g1 gf0 gf1 u0 u1 q1 q2 qf1 qf2 HK1 HBD
    generalize ((W.alloc (.cells #[] 52)).setCell ⟨w.heap.size + 1, 0, none⟩ (.int .i64 N)).setCell ⟨w.heap.size + 1, 1, none⟩ (.slice (some ⟨W.heap.size, 0, none⟩) 0 0) = W9 at *
    obtain ⟨⟨z0, z1⟩, -⟩ := two_cells hfin
    go_wp2_with fail
    have hown3 : OwnA W9.drew w.heap.size (some ⟨W.heap.size, 0, none⟩) 0 [] := by
      have := own_base (base' := w.heap.size) hown2 (by omega)
      exact ⟨this.1, this.2⟩
    exact bodyPost_ret (v := .agg #[.int .i64 N, .slice (some ⟨W.heap.size, 0, none⟩) 0 0]) (by simp [results, Try.results11, go_sem, z0, z1]) rfl ⟨_, _, rfl, hown3, hb2.drew⟩
theorem lent_any (N : Int) (a : Option Addr) (l : List A) (cap : Nat) (w : World) (hlen : l.length * 24 ≤ 140737488351232) (hn : a = none → l = [] ∧ cap = 0) (hr : Arcs w a l) :
    Calls Try.prog 11 #[.agg #[.int .i64 N, .slice a l.length cap]] w fun e w' => ∃ a2 c2, e = .returned (.agg #[.int .i64 N, .slice a2 l.length c2]) ∧ OwnA w' w.heap.size a2 c2 l ∧ Below w.heap.size w w' := by
  match a, hn, hr with
  | none, hn, _ =>
    obtain ⟨e1, e2⟩ := hn rfl
    subst e1 e2
    exact lent_none N w
  | some ad, _, hr => exact lent_some N ad l cap w hlen hr
end Go.Proofs.Ytcomkdjngchmkaa
