/-
  Contract of near.trace: the walk that the last arcs tell.
-/
import Derived.Test.YtomlmphdnoempabRev
import Derived.Test.YtomlmphdnoempabWMath
import Derived.Test.YtomlmphdnoempabSame
import Derived.Test.YtomlmphdnoempabAround
import Derived.BigQuiet
import Derived.Deep.Onto
import Derived.Deep.QuietTactic
namespace Go.Proofs.Ytomlmphdnoempab
open Go.RowKit
open Hp (Fr)
/-- Last arcs lead back from v to s over p. -/
inductive Back (l : List A) (L : Nat → Int) (s : Nat) : Nat → List Nat → Prop
  | nil : Back l L s s []
  | snoc {v j : Nat} {p : List Nat} : v ≠ s → L v = (j : Nat) → j < l.length → Back l L s (src (ar l j)) p → Back l L s v (p ++ [j])
theorem WJ.back {l : List A} {s : Nat} {F : Nat → Int} {T : Nat → Option Int} {L : Nat → Int} (h : WJ l s F T L) {v : Nat} (hv : F v < Inf) : ∃ p, Back l L s v p ∧ Pth l s v p ∧ plen l p = F v ∧ (s :: heads l p).Nodup := by
  obtain ⟨P, h0, h1⟩ := h.ex
  have hb : ∀ m v, (P v).length ≤ m → F v < Inf → Back l L s v (P v) := by
    intro m
    induction m with
    | zero =>
      intro v hm hv
      by_cases e : v = s
      · subst e; rw [h0 hv]; exact Back.nil
      · obtain ⟨_, _, _, _, f⟩ := h1 v hv
        obtain ⟨j, _, _, _, _, _, i6⟩ := f e
        rw [i6] at hm
        simp at hm
    | succ m ih =>
      intro v hm hv
      by_cases e : v = s
      · subst e; rw [h0 hv]; exact Back.nil
      · obtain ⟨_, _, _, _, f⟩ := h1 v hv
        obtain ⟨j, i1, i2, i3, i4, _, i6⟩ := f e
        rw [i6] at hm ⊢
        exact Back.snoc e i1 i2 (ih _ (by simp at hm; omega) i4)
  obtain ⟨a, b, c, _⟩ := h1 v hv
  exact ⟨P v, hb _ v (Nat.le_refl _) hv, a, b, c⟩
theorem nodup_len : ∀ (n : Nat) (p : List Nat), p.Nodup → (∀ x ∈ p, x < n) → p.length ≤ n := by
  intro n
  induction n with
  | zero => intro p _ h; cases p with
    | nil => simp
    | cons x p => exact absurd (h x (by simp)) (by omega)
  | succ n ih =>
    intro p hp h
    by_cases e : n ∈ p
    · have h1 := ih (p.erase n) (hp.erase n) (fun x hx => by
        have h2 := (hp.mem_erase_iff).1 hx
        have := h x h2.2
        omega)
      rw [List.length_erase_of_mem e] at h1
      omega
    · have h1 := ih p hp (fun x hx => by have := h x hx; have : x ≠ n := fun e' => e (e' ▸ hx); omega)
      omega
/-- Ids as numbers. -/
def idI (p : List Nat) : List Int := p.map (fun j : Nat => (j : Int))
theorem idI_len (p : List Nat) : (idI p).length = p.length := by simp [idI]
set_option maxHeartbeats 400000 in
theorem reverse_nil (w : World) : Calls Try.prog 32 #[.slice none 0 0] w fun e w' => e = .returned (.tuple #[]) ∧ w' = w := by
  go_enter Try.func32, Try.ntmps32
  go_wp2_with fail
  go_loopw [2, 3] (fun i j wr => i = .int .i64 0 ∧ j = .int .i64 (-1) ∧ wr = w) (fun _ _ _ => 0)
  case atStart => exact ⟨rfl, rfl, rfl⟩
  case round =>
    obtain ⟨rfl, rfl, rfl⟩ := hrel
    go_wp2_with fail
    go_end0
    exact ⟨rfl, rfl⟩
theorem one_new (w : World) (x : Int) : ∀ j u, [Value.int .i64 x][j]? = some u → (w.alloc (.cells #[.int .i64 x] 3)).cell? ((⟨w.heap.size, 0, none⟩ : Addr).add j) = some u := by
  intro j u hu
  match j, hu with
  | 0, hu => simp at hu; subst hu; simp [Addr.add]
theorem idI_snoc (q : List Nat) (j : Nat) : idI (q ++ [j]) = idI q ++ [(j : Int)] := by simp [idI]
set_option maxHeartbeats 1600000 in
set_option maxRecDepth 100000 in
theorem trace_any (n : Nat) (a : Option Addr) (l : List A) (cap s t : Nat) (bl : Nat) (L : Nat → Int) (p0 : List Nat) (w : World) (g : RG n l) (hr : Arcs w a l) (ht : Tb w bl n 3 .i64 L) (hp : Back l L s t p0) (htn : t < n) (hpl : p0.length ≤ 1024) :
    Calls Try.prog 21 #[.agg #[.int .i64 n, .slice a l.length cap], .int .i64 s, .int .i64 t, .slice (some ⟨bl, 0, none⟩) n n] w fun e w' => ∃ v, e = .returned v ∧ w'.ownsRow w.heap.size 3 1 v p0.length (cellsI (idI p0)) ∧ (p0 = [] → v = .slice none 0 0) ∧ Below w.heap.size w w' := by
  obtain ⟨i0, hi, hz0, hz1, hz2⟩ := info_parts info3
  have hb0 : Below w.heap.size w (w.alloc (.cells #[.int .i64 n, .slice a l.length cap] 24)) := (Below.refl _ _).alloc (Nat.le_refl _) _
  have hg := heap_top w (.cells #[.int .i64 n, .slice a l.length cap] 24)
  have s0 : (w.alloc (.cells #[.int .i64 n, .slice a l.length cap] 24)).heap.size = w.heap.size + 1 := by simp
  have HG := Lib.hid g
  have HAR := Lib.hid hr
  have HT := Lib.hid ht
  have hnb := g.nb
  have hlb := g.lb
  obtain ⟨ba, oa, hab⟩ := hr.b.get
  have HBL := Lib.hid ht.lt
  have HP := Lib.hid hp
  clear g hr ht hp
  go_enter Try.func21, Try.ntmps21
  go_wp2_with fail
  generalize w.alloc (.cells #[.int .i64 n, .slice a l.length cap] 24) = W at *
  go_loopg [9, 10] p0.length (fun gk va vv wr => ∃ (u : Nat) (p : List Nat) (ys : List Int), Hid (gk = p.length) ∧ Hid (idI p0 = idI p ++ ys.reverse) ∧ vv = .int .i64 u ∧ u < n ∧ Hid (Back l L s u p) ∧ wr.ownsRow (w.heap.size + 1) 3 1 va ys.length (cellsI ys) ∧ Hid (ys = [] → va = .slice none 0 0) ∧ Below (w.heap.size + 1) W wr)
  case atStart => exact ⟨t, p0, [], rfl, by show _ = _; simp, rfl, htn, HP, ⟨rfl, Or.inl ⟨rfl, rfl⟩⟩, fun _ => rfl, Below.refl _ _⟩
  case round =>
    obtain ⟨u, p, ys, hk, hq, rfl, hu, hbk, hown, hnil, hb⟩ := hrel
    have hys : p.length + ys.length = p0.length := by
      have := congrArg List.length hq.out
      rw [List.length_append, idI_len, idI_len, List.length_reverse] at this
      omega
    have hgr := (hb.block w.heap.size (by omega)).trans hg
    obtain ⟨⟨g0, g1⟩, -⟩ := two_cells hgr
    have hbw : Below w.heap.size w wr := hb0.trans (hb.mono (by omega))
    have sr : w.heap.size < wr.heap.size := lt_of_block hgr
    obtain ⟨av, cv, hv⟩ := own_slice hown
    subst hv
    have HB2 := Lib.hid hbk.out
    cases HB2.out with
    | nil =>
      have hss : ((s : Int) == (s : Int)) = true := by simp
      have hpe : idI p0 = ys.reverse := by have := hq.out; simpa [idI] using this
      have HPE := Lib.hid hpe
      clear hpe
      cases ys with
      | nil =>
        have hv := hnil.out rfl
        cases hv
        have HR := Lib.hid (reverse_nil wr)
        go_wp2_with fail
        refine HR.out.mono ?_
        rintro e w1 ⟨rfl, rfl⟩
        go_wp2_with fail
        go_ret
        have hp0 : p0 = [] := by
          have := HPE.out
          simpa [idI] using this
        subst hp0
        exact ⟨_, rfl, ⟨rfl, Or.inl ⟨rfl, rfl⟩⟩, fun _ => rfl, hbw⟩
      | cons y ys' =>
        generalize hYS : y :: ys' = ys at *
        have hne : ys ≠ [] := by rw [← hYS]; simp
        have hvn : Value.slice av ys.length cv ≠ .slice none 0 0 := by
          intro h
          injection h with _ h2 _
          exact hne (List.length_eq_zero_iff.1 h2)
        obtain ⟨g1, cc, hv, hg1, hc1, hs1, hm1⟩ := own_shape hown hvn
        cases hv
        have hlen : ys.length ≤ 100000 := by omega
        have HR := Lib.hid (reverse_own (w.heap.size + 1) g1 cv ys hlen wr hown)
        have HPN : Hid (p0 ≠ []) := by
          intro h
          subst h
          have := HPE.out
          exact hne (List.reverse_eq_nil_iff.1 this.symm)
        have HPL : Hid (p0.length = ys.length) := by show _ = _; have := hys; simp at this; omega
        clear hYS hne hvn hown hnil hys
        go_wp2_with fail
        refine HR.out.mono ?_
        rintro e w1 ⟨rfl, ho1, hf1⟩
        have hbx : Below w.heap.size wr w1 := hf1.below (by omega) (fun k hk => by subst hk; omega)
        go_wp2_with fail
        go_ret
        refine ⟨_, rfl, ?_, fun h => absurd h HPN.out, hbw.trans hbx⟩
        unfold OwnR at ho1
        rw [List.length_reverse, ← HPE.out, ← HPL.out] at ho1
        rw [← HPL.out]
        exact ho1.mono (by omega)
    | snoc hne hL hjl hbk' =>
      rename_i j q
      have hus : ((u : Int) == (s : Int)) = false := by simp; omega
      have c0 := (hbw.cell (p := ⟨bl, u, none⟩) HBL.out).trans (HT.out.cell hu)
      rw [hL] at c0
      have hu' : (u : Int) < n := by omega
      obtain ⟨rfl, hbl, hat⟩ := hab (by omega)
      have hjl' : (j : Int) < l.length := by omega
      have hmem := ar_mem hjl
      have hse := HG.out.f_eq hmem
      have hsl := HG.out.src_lt hmem
      have q0 := ((hat j hjl).on hbw).1
      have q0' : wr.cell? ⟨ba, oa + j * 3, none⟩ = some (.int .i64 (ar l j).f) := q0
      rw [hse] at q0'
      have HSE := Lib.hid hse
      have hyl : ys.length ≤ 1024 := by omega
      have HBK := Lib.hid hbk'
      have HYQ : Hid (idI p0 = idI q ++ (ys ++ [(j : Int)]).reverse) := by
        show _ = _
        rw [hq.out, idI_snoc]; simp
      have HX : Hid ((cellsI ys ++ [Value.int .i64 (j : Int)]) = cellsI (ys ++ [(j : Int)])) := cellsI_snoc ys j
      have HN : Hid (ys.length + 1 = (ys ++ [(j : Int)]).length) := by show _ = _; simp
      have HKQ : Hid (gk = q.length + 1) := by show _ = _; rw [hk.out]; simp
      obtain ⟨sj, HSJ⟩ := named (src (ar l j))
      rw [HSJ.out] at q0' hsl HBK
      clear hmem hse q0 hat hL hbk hq hk hne
      go_wp2_with (at_builtin; refine wpList_append_own _ rfl (.tmp 24) (.tmp 29) 31 rfl (w.heap.size + 1) 3 i0 (.int .i64 0) 1 8 Try.underlying31 hi hz0 hz1 hz2 rfl (by decide) (.slice av ys.length cv) ys.length (cellsI ys) rfl (hown.alloc _) ⟨wr.heap.size, 0, none⟩ 1 1 [.int .i64 (j : Int)] rfl rfl (one_new wr (j : Int)) (one_i64 _) (by unfold maxLen; omega) (by omega) (by simp; omega) ?_; intro v6 w6 hown6 hgrow6 hnil6)
      rw [HX.out, HN.out] at hown6
      have hb6 : Below (w.heap.size + 1) wr w6 := ((Below.refl _ _).alloc (by omega) _).grown hgrow6 (by simp; omega) (by intro k hk; have := (hown.lt k hk).1; omega)
      have d0 := (hb6.cell (p := ⟨bl, u, none⟩) (by have := HBL.out; show bl < _; omega)).trans c0
      have d1 := (hb6.cell (p := ⟨ba, oa + j * 3, none⟩) (by show ba < _; omega)).trans q0'
      have d2 := (hb6.cell (p := ⟨w.heap.size, 1, none⟩) (by show w.heap.size < _; omega)).trans g1
      have HO6 := Lib.hid hown6
      have HN6 := Lib.hid hnil6
      clear c0 q0' g0 g1 hown hown6 hgrow6 hnil6
      go_quiet (fail)
      go_wp2_with fail
      go_roundg q.length
      case measure => have := HKQ.out; omega
      case rel => exact ⟨sj, q, ys ++ [(j : Int)], rfl, HYQ, rfl, hsl, HBK, Hp.own_same HO6.out (fun k _ => rfl), fun h => absurd h (by simp), (hb.trans hb6).trans (below_drewN _ _ _)⟩
end Go.Proofs.Ytomlmphdnoempab
