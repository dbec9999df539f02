/-
  The contract of slices.Compact at pairs. The iterator of a growth: what it tells, round by round. The statement 'for v := range w.around(centre)': whatever its body collects in a row of its own. The contract of grow.Region. The contract of flyoverref03.All.
-/
import Derived.Test.YtchfccbneedejaaZAD
import Derived.RangeFuncNested
import Derived.RangeFuncBound
import Derived.RangeFuncCalls
import Derived.RangeFuncLeaves
import Derived.Shelf.Abstract
import Derived.Shelf.RegionOpen
import Derived.WalkKit
import Derived.OwnWalkIn
import Derived.TacticsInMore
import Derived.LoopNIn
import Derived.LoopIn
import Derived.RegionIn
import Derived.BigRegionIn
import Derived.Test.YtchfccbneedejaaZAA
import Derived.Maps.OwnIn
import Derived.LoopN
import Derived.Laws.StructEq
import Derived.Lib.SliceRun
import Derived.Laws.IdiomCopy
import Derived.BigRegion
import Derived.Deep.QuietTactic
import Derived.BigQuiet
namespace Go.Proofs.Ytchfccbneedejaa
open Go.RowKit Go.Shelf
attribute [local go_sem] Oper.semAt_some
/-- The blocks that the iterator reads. -/
def Ib (f b1 b2 bs p1 p2 : Nat) (a : Option Addr) (l : List A) (j : Nat) : Prop := j = f ∨ j = b1 ∨ j = b2 ∨ j = bs ∨ j = p1 ∨ j = p2 ∨ abl a l j
theorem Gr.frI {D : Nat → Prop} {w w' : World} {f b1 b2 bs N p1 p2 : Nat} {a : Option Addr} {cap : Nat} {l : List A} {S : Nat → Bool} (h : Gr w f b1 b2 bs N a cap l S) (hf : Fr D w w') (hd : ∀ j, Ib f b1 b2 bs p1 p2 a l j → ¬ D j) : Gr w' f b1 b2 bs N a cap l S :=
  ⟨h.gw.fr hf (hd _ (.inl rfl)), h.ar.fr hf (fun _ hj => hd _ (.inr (.inr (.inr (.inr (.inr (.inr hj))))))), h.fi.fr hf (hd _ (.inr (.inl rfl))), h.nx.fr hf (hd _ (.inr (.inr (.inl rfl)))), h.sn.fr hf (hd _ (.inr (.inr (.inr (.inl rfl)))))⟩
theorem cell_fr {D : Nat → Prop} {w w' : World} {p : Addr} {v : Value} (h : w.cell? p = some v) (hf : Fr D w w') (hn : ¬ D p.block) : w'.cell? p = some v :=
  (World.cell?_of_block (hf.block p.block (World.block_lt_of_cell? w _ h) hn)).trans h
theorem own_fr {D : Nat → Prop} {w w' : World} {base g n c : Nat} {xs : List Value} (h : w.ownsRow base 3 1 (.slice (some ⟨g, 0, none⟩) n c) n xs) (hf : Fr D w w') (hn : ¬ D g) : w'.ownsRow base 3 1 (.slice (some ⟨g, 0, none⟩) n c) n xs := by
  refine ⟨h.1, ?_⟩
  rcases h.2 with h' | ⟨g', c', cur, h1, h2, h3, h4⟩
  · exact Or.inl h'
  · injection h1 with e1 e2 e3
    injection e1 with e1
    injection e1 with e1
    subst e1; subst e3
    exact Or.inr ⟨g, c, cur, rfl, h2, (hf.block g (lt_of_block h3) hn).trans h3, h4⟩
theorem own_lt {w : World} {base g n c : Nat} {xs : List Value} (h : w.ownsRow base 3 1 (.slice (some ⟨g, 0, none⟩) n c) n xs) : base ≤ g ∧ g < w.heap.size := by
  rcases h.2 with ⟨h', _⟩ | ⟨g', c', cur, h1, h2, h3, h4⟩
  · cases h'
  · injection h1 with e1 e2 e3
    injection e1 with e1
    injection e1 with e1
    subst e1
    exact ⟨h2, lt_of_block h3⟩
/-- Between two rounds: k vertices have been told. -/
structure Ar (wr : World) (B f b1 b2 bs N p1 p2 : Nat) (a : Option Addr) (cap : Nat) (l : List A) (S : Nat → Bool) (c : Nat) (J : List Nat → Option Nat → World → Prop) (k : Nat) (g cc : Nat) (ρ : Option Nat) : Prop where
  le : k ≤ (gro (edl l) (2 * l.length) N S c k).1.length
  ow : wr.ownsRow B 3 1 (.slice (some ⟨g, 0, none⟩) (gro (edl l) (2 * l.length) N S c k).1.length cc) (gro (edl l) (2 * l.length) N S c k).1.length (cellsI (ints (gro (edl l) (2 * l.length) N S c k).1))
  gr : Gr wr f b1 b2 bs N a cap l (gro (edl l) (2 * l.length) N S c k).2
  j : J (came (edl l) (2 * l.length) N S c k) ρ wr
  ne : ρ ≠ some g
  c1 : wr.cell? ⟨p1, 0, none⟩ = some (.pointer (some ⟨f, 0, none⟩))
  c2 : wr.cell? ⟨p2, 0, none⟩ = some (.int .i64 c)
  wb : B ≤ wr.heap.size
set_option maxRecDepth 100000 in
set_option maxHeartbeats 2000000 in
theorem around1_in {B f b1 b2 bs N p1 p2 : Nat} {a : Option Addr} {cap : Nat} {l : List A} {S : Nat → Bool} (gf : Gf B f b1 b2 bs N a l) {c : Nat} (hc : c < N) (hp : p1 < B ∧ p2 < B ∧ p1 ≠ bs ∧ p2 ≠ bs) (L n : Nat) (hn : 1 ≤ n) (Kf : Nat → Prop) (hKf : ∀ j, Kf j → j < B ∧ ¬ Ib f b1 b2 bs p1 p2 a l j)
    (J : List Nat → Option Nat → World → Prop) (Jx : List Nat → World → Prop)
    (hJ : ∀ pre ρ W W' g, J pre ρ W → B ≤ g → ρ ≠ some g → Fr (fun j => j = bs ∨ j = g) W W' → J pre ρ W')
    (hρ : ∀ pre ρ W b, J pre ρ W → ρ = some b → b < W.heap.size ∧ ¬ Ib f b1 b2 bs p1 p2 a l b)
    (hY : ∀ pre ρ (x : Nat) W, J pre ρ W → pre ++ [x] <+: whole (edl l) (2 * l.length) N S c → YieldAt Fence.wide (n - 1) Try.prog L #[.int .i64 (x : Int)] W fun e W' =>
      (e = .returned (.bool true) ∧ ∃ ρ', J (pre ++ [x]) ρ' W' ∧ Fr (fun j => Kf j ∨ some j = ρ) W W' ∧ (ρ' = ρ ∨ ∃ b, ρ' = some b ∧ W.heap.size ≤ b)) ∨ (e = .returned (.bool false) ∧ Jx (pre ++ [x]) W'))
    (W : World) (ρ0 : Option Nat) (gr : Gr W f b1 b2 bs N a cap l S) (hWB : B ≤ W.heap.size) (hc1 : W.cell? ⟨p1, 0, none⟩ = some (.pointer (some ⟨f, 0, none⟩))) (hc2 : W.cell? ⟨p2, 0, none⟩ = some (.int .i64 c)) (h0 : J [] ρ0 W) :
    CallsIn Fence.wide n Try.prog 92 #[.func (.yield L) #[] #[], .pointer (some ⟨p1, 0, none⟩), .pointer (some ⟨p2, 0, none⟩)] W fun e W' => (∃ v, e = .returned v) ∧
      ((∃ ρ, J (whole (edl l) (2 * l.length) N S c) ρ W' ∧ Gr W' f b1 b2 bs N a cap l (gro (edl l) (2 * l.length) N S c N).2) ∨ (∃ pre, pre <+: whole (edl l) (2 * l.length) N S c ∧ Jx pre W')) := by
  have HGF := Lib.hid gf
  have HGR := Lib.hid gr
  have hc' : (c : Int) < N := by omega
  obtain ⟨d0, d1, d2, d3⟩ := four_cells gr.gw.hd
  have ds := gr.sn.cell hc
  have dsf := gr.sn.free c
  have q1 : p1 ≠ bs := hp.2.2.1
  have q2 : p2 ≠ bs := hp.2.2.2
  have q3 : f ≠ bs := gf.ne.2.2.1
  have q1' := q1.symm
  have q2' := q2.symm
  have q3' := q3.symm
  have HJ := Lib.hid hJ
  have HRO := Lib.hid hρ
  have HY := Lib.hid hY
  have HK := Lib.hid hKf
  have H0 := Lib.hid h0
  generalize hsv : (S c) = sv at ds
  clear gr gf hJ hρ hY hKf h0 hsv
  refine callsIn_of_wp Try.func92 rfl trivial ?_ rfl
  simp only [Try.ntmps92, List.size_toArray, List.length_cons, List.length_nil, Nat.reduceAdd, Nat.reduceSub, Array.replicate_succ, Array.replicate_zero, List.push_toArray, List.append_toArray, List.nil_append, List.cons_append]
  gi_wp2
  gi_region
  gi_wp2
  have HA : Hid (Ar ((W.setCell ⟨bs, c, none⟩ (.bool true)).alloc (.cells #[.int .i64 (c : Int)] 3)).drew B f b1 b2 bs N p1 p2 a cap l S c J 0 W.heap.size 1 ρ0) := by
    have hz : (W.setCell ⟨bs, c, none⟩ (.bool true)).heap.size = W.heap.size := by simp [World.setCell]
    have f1 : Fr (fun j => j = bs ∨ j = W.heap.size) W ((W.setCell ⟨bs, c, none⟩ (.bool true)).alloc (.cells #[.int .i64 (c : Int)] 3)).drew := (((Fr.refl _ W).setCell ⟨bs, c, none⟩ _ (.inl rfl)).alloc _).drew
    have f2 : Fr (fun _ => False) (W.setCell ⟨bs, c, none⟩ (.bool true)) ((W.setCell ⟨bs, c, none⟩ (.bool true)).alloc (.cells #[.int .i64 (c : Int)] 3)).drew := ((Fr.refl _ _).alloc _).drew
    have hne : ρ0 ≠ some W.heap.size := fun e => Nat.lt_irrefl _ (HRO.out _ _ _ _ H0.out e).1
    refine ⟨Nat.zero_le _, ?_, (HGR.out.mark HGF.out (S' := fun u => S u || decide (u = c)) (u := c) (fun x => rfl)).fr HGF.out f2 (fun _ _ h => h), ?_, hne, cell_fr hc1 f1 (fun e => e.elim q1 (fun e => by have := hp.1; simp at e; omega)), cell_fr hc2 f1 (fun e => e.elim q2 (fun e => by have := hp.2.1; simp at e; omega)), Nat.le_trans hWB f1.size⟩
    · have := World.ownsRow_lit (base := B) (e := 3) (size := 1) (W.setCell ⟨bs, c, none⟩ (.bool true)) #[.int .i64 (c : Int)] 1 (by rw [hz]; exact hWB) (by unfold maxLen; omega) rfl
      rw [hz] at this
      exact this
    · rw [came_zero]
      exact HJ.out _ _ _ _ _ H0.out hWB hne f1
  clear d0 d1 d2 d3 ds dsf
  gi_loopw [4, 5] (fun s4 s5 wr => ∃ (k g cc m : Nat) (ρ : Option Nat), s4 = .slice (some ⟨g, 0, none⟩) m cc ∧ s5 = .int .i64 k ∧ Hid ((gro (edl l) (2 * l.length) N S c k).1.length = m) ∧ Hid (Ar wr B f b1 b2 bs N p1 p2 a cap l S c J k g cc ρ)) (fun _ s5 _ => N - (intOf s5).toNat)
  case atStart => exact ⟨0, W.heap.size, 1, 1, ρ0, rfl, rfl, rfl, HA⟩
  case round =>
    obtain ⟨k, g, cc, m, ρ, rfl, rfl, HM, HR⟩ := hrel
    have hmN : m ≤ N := by rw [← HM.out]; exact gro_short hc k
    have hnb := HGF.out.nb
    by_cases hk : k < m
    · have hk' : (k : Int) < m := by omega
      have hkg : k < (gro (edl l) (2 * l.length) N S c k).1.length := by rw [HM.out]; exact hk
      obtain ⟨x, HX⟩ := named ((gro (edl l) (2 * l.length) N S c k).1.getD k 0)
      have hxN : x < N := by rw [← HX.out]; exact gro_at hc hkg
      have hpre := came_pre hc hkg
      rw [HX.out] at hpre
      have HS := Lib.hid (came_succ hkg)
      have HGO := Lib.hid (gro_go hkg)
      rw [HX.out] at HS HGO
      obtain ⟨hgB, hgl⟩ := own_lt HR.out.ow
      have hcell : wr.cell? ⟨g, k, none⟩ = some (.int .i64 (x : Int)) := by
        rw [HR.out.ow.cellAt k (by rw [Nat.mul_one]; exact hkg), cellsI_getD _ _ (by rw [ints_len]; exact hkg), ints_getD hkg, HX.out]
      obtain ⟨fn, tmps, assign, body, hy, hRd⟩ := HY.out (came (edl l) (2 * l.length) N S c k) ρ x wr HR.out.j hpre
      have HPRE := Lib.hid hpre
      clear hpre hkg
      gi_wp2
      refine hRd.mono ?_
      rintro e W3 (⟨rfl, ρ', hJ3, hf3, hr3⟩ | ⟨rfl, hJx3⟩)
      · have nIb : ∀ j, Ib f b1 b2 bs p1 p2 a l j → ¬ (Kf j ∨ some j = ρ) := fun j hj e => e.elim (fun e => (HK.out j e).2 hj) (fun e => (HRO.out _ _ _ j HR.out.j e.symm).2 hj)
        have ng : ¬ (Kf g ∨ some g = ρ) := fun e => e.elim (fun e => by have := (HK.out g e).1; omega) (fun e => HR.out.ne e.symm)
        have gr4 : Gr W3.drew f b1 b2 bs N a cap l (gro (edl l) (2 * l.length) N S c k).2 := HR.out.gr.frI (hf3.drew) nIb
        have ow4 := own_fr HR.out.ow hf3.drew ng
        have x1 := cell_fr HR.out.c1 hf3 (nIb p1 (.inr (.inr (.inr (.inr (.inl rfl))))))
        have x2 := cell_fr HR.out.c2 hf3 (nIb p2 (.inr (.inr (.inr (.inr (.inr (.inl rfl)))))))
        have x3 := cell_fr hcell hf3 ng
        have hng : ρ' ≠ some g := fun e => hr3.elim (fun e2 => HR.out.ne (e2 ▸ e)) (fun ⟨b, e2, h2⟩ => by rw [e2] at e; injection e with e; omega)
        have hxl : (gro (edl l) (2 * l.length) N S c k).1.length ≤ 1024 := Nat.le_trans (gro_short hc k) hnb
        have HEX := Lib.hid (extend_any HGF.out gr4 (v := x) (g0 := g) (c0 := cc) hxN hxl hgB (Nat.le_trans HR.out.wb hf3.size) ow4)
        rw [HM.out] at HEX
        have HF3 := Lib.hid hf3
        have HJ3 := Lib.hid hJ3
        have HNG := Lib.hid hng
        clear gr4 ow4 hf3 hJ3 hng nIb ng hcell hr3
        gi_wp2
        gi_region_with (refine ⟨trivial, ?_⟩; gi_at_call 93; refine (callsIn_wide.2 HEX.out).mono ?_; rintro e w5 ⟨g5, c5, rfl, hd5⟩; have HD5 := Lib.hid hd5; clear hd5)
        all_goals
          gi_wp2
          have f5 : Fr (fun j => j = bs ∨ j = g) W3 w5 := ((Fr.refl _ W3).drew).trans HD5.out.fr
          have hge : g5 = g ∨ W3.heap.size ≤ g5 := HD5.out.ge
          have hm := HM.out
          refine ⟨⟨k + 1, g5, c5, _, ρ', rfl, by simp, ?_, ?_⟩, by simp [intOf]; omega⟩
          · show _ = _
            rw [HGO.out]
            simp
          · refine ⟨?_, ?_, ?_, ?_, ?_, ?_, ?_, ?_⟩
            · rw [HGO.out, List.length_append]; omega
            · rw [HGO.out]; exact HD5.out.ow
            · rw [HGO.out]; exact HD5.out.gr
            · rw [HS.out]; exact HJ.out _ _ _ _ g HJ3.out hgB HNG.out f5
            · intro e
              rcases hge with e2 | e2
              · exact HNG.out (e2 ▸ e)
              · have := (HRO.out _ _ _ _ HJ3.out e).1
                omega
            · exact cell_fr x1 f5 (fun e => e.elim q1 (fun e => by have := hp.1; simp at e; omega))
            · exact cell_fr x2 f5 (fun e => e.elim q2 (fun e => by have := hp.2.1; simp at e; omega))
            · exact Nat.le_trans (Nat.le_trans HR.out.wb HF3.out.size) f5.size
      · gi_wp2
        refine bodyPost_ret (results_none rfl _ _ _) rfl ?_
        exact ⟨⟨_, rfl⟩, .inr ⟨_, HPRE.out, hJx3⟩⟩
    · have hk' : ¬ (k : Int) < m := by omega
      gi_wp2
      go_end0
      obtain ⟨hw, hg⟩ := came_all (E := edl l) (M := 2 * l.length) (S := S) hc HR.out.le (by rw [HM.out]; exact hk)
      refine ⟨⟨_, rfl⟩, .inl ⟨⟨ρ, ?_⟩, ?_⟩⟩
      · rw [← hw]; exact HR.out.j
      · rw [← hg]; exact HR.out.gr
end Go.Proofs.Ytchfccbneedejaa
namespace Go.Proofs.Ytchfccbneedejaa
open Go.RowKit Go.Shelf
theorem fr_grown {w w' : World} {r : Nat} (h : w.grownBy w' (some r)) : Fr (fun j => j = r) w w' := ⟨h.os, h.tape, h.output, h.size, fun k hk hn => h.block k hk (fun e => hn (Option.some.inj e))⟩
theorem fr_put (W : World) (r : Nat) (o : Obj) : Fr (fun j => j = r) W (W.putObj r o) := fr_grown (grownBy_putObj' W r o)
/-- How the body of a round may be left. -/
def rPost (r : Nat) (I I2 : List Nat → Option Nat → World → Prop) (Cx : Code → List Nat → Prop) (xs : List Nat) (ρ : Option Nat) (W : World) : Exit → Act → World → Prop
  | .normal, _, W' => ∃ ρ', I xs ρ' W' ∧ Fr (fun j => j = r ∨ some j = ρ) W W' ∧ (ρ' = ρ ∨ ∃ b, ρ' = some b ∧ W.heap.size ≤ b)
  | .exit id, _, W' => ∃ ρ', I2 xs ρ' W' ∧ Fr (fun j => j = r ∨ some j = ρ) W W' ∧ (ρ' = ρ ∨ ∃ b, ρ' = some b ∧ W.heap.size ≤ b) ∧ Cx (.exit id) xs
  | _, _, _ => False
/-- What the caller holds, and its row's block, abide the iterator's steps. -/
structure Abd (B f b1 b2 bs p1 p2 : Nat) (ar : Option Addr) (l : List A) (I : List Nat → Option Nat → World → Prop) : Prop where
  on : ∀ pre ρ W W' j0, I pre ρ W → B ≤ j0 → ρ ≠ some j0 → Fr (fun j => j = bs ∨ j = j0) W W' → I pre ρ W'
  row : ∀ pre ρ W b, I pre ρ W → ρ = some b → (∃ cs t fr, W.heap[b]? = some (.cells cs t fr)) ∧ ¬ Ib f b1 b2 bs p1 p2 ar l b
set_option maxHeartbeats 2000000 in
theorem range_around {g : Operand} {tp : Tmp} {assign body : Code} {Q : Exit → Act → World → Prop} {a : Act} {w : World} {n f b1 b2 bs N p1 p2 c r : Nat} {ar : Option Addr} {cap : Nat} {l : List A} {S : Nat → Bool}
    (hn : 2 ≤ n) (hg : a.eval g = .func (.func 92) #[] #[.pointer (some ⟨p1, 0, none⟩), .pointer (some ⟨p2, 0, none⟩)])
    (gf : Gf (w.heap.size + 2) f b1 b2 bs N ar l) (hc : c < N) (hlt : f < w.heap.size ∧ b1 < w.heap.size ∧ b2 < w.heap.size ∧ bs < w.heap.size ∧ p1 < w.heap.size ∧ p2 < w.heap.size ∧ (∀ j, abl ar l j → j < w.heap.size) ∧ r < w.heap.size) (hp : p1 ≠ bs ∧ p2 ≠ bs) (hr : ¬ Ib f b1 b2 bs p1 p2 ar l r)
    (gr : Gr w f b1 b2 bs N ar cap l S) (hc1 : w.cell? ⟨p1, 0, none⟩ = some (.pointer (some ⟨f, 0, none⟩))) (hc2 : w.cell? ⟨p2, 0, none⟩ = some (.int .i64 c))
    (I I2 : List Nat → Option Nat → World → Prop) (Cx : Code → List Nat → Prop)
    (hA : Abd w.heap.size f b1 b2 bs p1 p2 ar l I) (hA2 : Abd w.heap.size f b1 b2 bs p1 p2 ar l I2)
    (ρ0 : Option Nat) (h0 : I [] ρ0 w) (a₁ : Nat → Act)
    (hassign : ∀ (L : Nat) (x : Nat) (W : World) (K : Act → World → Prop), K (a₁ x) W →
      assign.wpIn (Fence.wide.inRound L) (n - 1 - 1) Try.prog (Exit.then K (fun _ _ _ => False)) { tmps := ((#[tp] : Array Tmp).zip #[Value.int .i64 (x : Int)]).foldl (fun t (p, v) => t.setIfInBounds p v) a.tmps, defers := [] } W)
    (hbody : ∀ (L : Nat) (pre : List Nat) (ρ : Option Nat) (x : Nat) (W : World), I pre ρ W → pre ++ [x] <+: whole (edl l) (2 * l.length) N S c → body.wpIn (Fence.wide.inRound L) (n - 1 - 1) Try.prog (rPost r I I2 Cx (pre ++ [x]) ρ W) (a₁ x) W)
    (hdone : ∀ (ρ : Option Nat) (W : World), I (whole (edl l) (2 * l.length) N S c) ρ W → Gr W f b1 b2 bs N ar cap l (gro (edl l) (2 * l.length) N S c N).2 → W.heap[w.heap.size]? = some (.deferred (some [])) → Q .normal { a with defers := { target := .collected w.heap.size, args := #[] } :: a.defers } W)
    (hstop : ∀ (cd : Code) (pre : List Nat) (ρ : Option Nat) (W : World), pre <+: whole (edl l) (2 * l.length) N S c → Cx cd pre → I2 pre ρ W → W.heap[w.heap.size]? = some (.deferred (some [])) → cd.wpIn Fence.wide n Try.prog Q { a with defers := { target := .collected w.heap.size, args := #[] } :: a.defers } W) :
    (Code.rangeFunc g #[tp] assign body).wpIn Fence.wide n Try.prog Q a w := by
  refine wpIn_rangeFunc ?_
  intro fn hfn
  obtain ⟨rec, hrec⟩ : ∃ rec : LoopState → Option Code → Loop, rec = fun st pe => { state := st, pending := pe, fn, tmps := a.tmps, params := #[tp], assign, body, defers := w.heap.size } := ⟨_, rfl⟩
  obtain ⟨W1, hW1⟩ : ∃ W1, (w.alloc (.deferred (some []))).alloc (.loop (rec .ready none)) = W1 := ⟨_, rfl⟩
  have hL1 : W1.heap[w.heap.size + 1]? = some (.loop (rec .ready none)) := by
    rw [← hW1]; have := World.alloc_heap_new (w.alloc (.deferred (some []))) (.loop (rec .ready none)); rwa [World.size_alloc] at this
  have hK1 : W1.heap[w.heap.size]? = some (.deferred (some [])) := by
    rw [← hW1]; exact (Below.heap_alloc _ _ _ (by simp)).trans (World.alloc_heap_new w _)
  have hS1 : W1.heap.size = w.heap.size + 2 := by rw [← hW1]; simp
  have hF1 : Fr (fun _ => False) w W1 := by rw [← hW1]; exact ((Fr.refl _ w).alloc _).alloc _
  have hne0 : ∀ pre ρ W b, I pre ρ W → ρ = some b → b < W.heap.size := fun pre ρ W b hi e => by
    obtain ⟨⟨cs, t, fr, h⟩, _⟩ := hA.row pre ρ W b hi e
    exact lt_of_block h
  have hI1 : I [] ρ0 W1 := hA.on _ _ _ _ w.heap.size h0 (Nat.le_refl _) (fun e => Nat.lt_irrefl _ (hne0 _ _ _ _ h0 e)) (hF1.imp (fun _ h => h.elim))
  refine ⟨w.heap.size + 1, [{ target := .collected w.heap.size, args := #[] }], W1, { target := .fn (.func 92) #[.pointer (some ⟨p1, 0, none⟩), .pointer (some ⟨p2, 0, none⟩)], args := #[.func (.yield (w.heap.size + 1)) #[] #[]] }, W1, 92,
    #[.func (.yield (w.heap.size + 1)) #[] #[]] ++ #[.pointer (some ⟨p1, 0, none⟩), .pointer (some ⟨p2, 0, none⟩)], W1, ?_, ?_, ?_, ?_, fun _ => by omega, ?_⟩
  · rw [← hW1, hrec]; exact run_enterLoop_outer _ _ _ _ _
  · simp only [resolve, hg]
    simp [go_sem]
  · intro f' hf'; exact trivial
  · simp [invoke, go_sem]
  · have nl : ∀ (X : List Nat → Option Nat → World → Prop), Abd w.heap.size f b1 b2 bs p1 p2 ar l X → ∀ (pre : List Nat) (ρ : Option Nat) (W : World) (q : Loop), X pre ρ W → W.heap[w.heap.size + 1]? = some (.loop q) → ρ ≠ some (w.heap.size + 1) := fun X hX pre ρ W q hi hl e => by
      obtain ⟨⟨cs, t, fr, h⟩, _⟩ := hX.row pre ρ W _ hi e
      rw [hl] at h; cases h
    have nd : ∀ (pre : List Nat) (ρ : Option Nat) (W : World), I pre ρ W → W.heap[w.heap.size]? = some (.deferred (some [])) → ρ ≠ some w.heap.size := fun pre ρ W hi hl e => by
      obtain ⟨⟨cs, t, fr, h⟩, _⟩ := hA.row pre ρ W _ hi e
      rw [hl] at h; cases h
    have ibl : ∀ j, Ib f b1 b2 bs p1 p2 ar l j → j < w.heap.size := fun j hj => by
      obtain ⟨h1, h2, h3, h4, h5, h6, h7, _⟩ := hlt
      rcases hj with rfl | rfl | rfl | rfl | rfl | rfl | hj
      · exact h1
      · exact h2
      · exact h3
      · exact h4
      · exact h5
      · exact h6
      · exact h7 j hj
    have hbsl : bs < w.heap.size := hlt.2.2.2.1
    have hrl : r < w.heap.size := hlt.2.2.2.2.2.2.2
    have hput : ∀ (X : List Nat → Option Nat → World → Prop), Abd w.heap.size f b1 b2 bs p1 p2 ar l X → ∀ (pre : List Nat) (ρ : Option Nat) (W : World) (q : Loop) (o : Obj), X pre ρ W → W.heap[w.heap.size + 1]? = some (.loop q) → X pre ρ (W.putObj (w.heap.size + 1) o) := fun X hX pre ρ W q o hi hl =>
      hX.on _ _ _ _ (w.heap.size + 1) hi (by omega) (nl X hX _ _ _ _ hi hl) ((fr_put W _ o).imp (fun _ h => .inr h))
    refine (around1_in gf hc ⟨by omega, by omega, hp.1, hp.2⟩ (w.heap.size + 1) (n - 1) (by omega) (fun j => j = r ∨ j = w.heap.size + 1) ?_
      (fun pre ρ W => I pre ρ W ∧ W.heap[w.heap.size + 1]? = some (.loop (rec .ready none)) ∧ W.heap[w.heap.size]? = some (.deferred (some [])))
      (fun pre W => ∃ cd ρ, I2 pre ρ W ∧ Cx cd pre ∧ W.heap[w.heap.size + 1]? = some (.loop (rec .done (some cd))) ∧ W.heap[w.heap.size]? = some (.deferred (some [])))
      ?_ ?_ ?_ W1 ρ0 (gr.fr gf hF1 (fun _ _ h => h)) (by omega) (cell_fr hc1 hF1 (fun h => h)) (cell_fr hc2 hF1 (fun h => h)) ⟨hI1, hL1, hK1⟩).mono ?_
    · rintro j (rfl | rfl)
      · exact ⟨by omega, hr⟩
      · exact ⟨by omega, fun h => by have := ibl _ h; omega⟩
    · rintro pre ρ W W' g0 ⟨hi, hl, hk⟩ hg0 hne hf
      exact ⟨hA.on _ _ _ _ g0 hi (by omega) hne hf, (hf.block _ (lt_of_block hl) (fun e => by omega)).trans hl, (hf.block _ (lt_of_block hk) (fun e => by omega)).trans hk⟩
    · rintro pre ρ W b ⟨hi, hl, hk⟩ e
      exact ⟨hne0 _ _ _ _ hi e, (hA.row _ _ _ _ hi e).2⟩
    · rintro pre ρ x W ⟨hi, hl, hk⟩ hpre
      have hlW : w.heap.size + 1 < W.heap.size := lt_of_block hl
      have hy := run_yield (P := Try.prog) (args := #[.int .i64 (x : Int)]) hl (by rw [hrec]; rfl)
      rw [hrec] at hy
      refine ⟨fn, _, assign, body, hy, roundIn_of_wpIn hfn (hassign _ x W _ ⟨_, run_beginRound hl (by rw [hrec]), ?_⟩)⟩
      obtain ⟨W2, hW2⟩ : ∃ W2, W.putObj (w.heap.size + 1) (.loop { rec .ready none with state := .busy }) = W2 := ⟨_, rfl⟩
      have hl2 : W2.heap[w.heap.size + 1]? = some (.loop { rec .ready none with state := .busy }) := by rw [← hW2]; exact World.putObj_heap_same hlW
      have hk2 : W2.heap[w.heap.size]? = some (.deferred (some [])) := by rw [← hW2]; exact (World.putObj_heap_other (by omega)).trans hk
      have hf2 : Fr (fun j => j = w.heap.size + 1) W W2 := by rw [← hW2]; exact fr_put _ _ _
      have hz2 : W2.heap.size = W.heap.size := by rw [← hW2]; simp
      have hi2 : I pre ρ W2 := by rw [← hW2]; exact hput I hA _ _ _ _ _ hi hl
      rw [hW2]
      refine wpIn_mono (hbody _ pre ρ x W2 hi2 hpre) ?_
      have fin : ∀ (X : List Nat → Option Nat → World → Prop), Abd w.heap.size f b1 b2 bs p1 p2 ar l X → ∀ (jump : Option Code) (W3 : World) (ρ' : Option Nat), X (pre ++ [x]) ρ' W3 → Fr (fun j => j = r ∨ some j = ρ) W2 W3 →
          ∃ W4, (Instr.endRound (w.heap.size + 1) jump).run Try.prog W3 = .ok (.bool jump.isNone) W4 ∧ X (pre ++ [x]) ρ' W4 ∧ W4.heap[w.heap.size + 1]? = some (.loop (rec (if jump.isNone then .ready else .done) jump)) ∧
            W4.heap[w.heap.size]? = some (.deferred (some [])) ∧ Fr (fun j => (j = r ∨ j = w.heap.size + 1) ∨ some j = ρ) W W4 := fun X hX jump W3 ρ' hi3 hf3 => by
        have hl3 := (hf3.block _ (lt_of_block hl2) (fun e => e.elim (fun e => by omega) (fun e => nl I hA _ _ _ _ hi2 hl2 e.symm))).trans hl2
        have hk3 := (hf3.block _ (lt_of_block hk2) (fun e => e.elim (fun e => by omega) (fun e => nd _ _ _ hi2 hk2 e.symm))).trans hk2
        have hr3 := run_endRound (P := Try.prog) jump hl3
        refine ⟨_, hr3, hput X hX _ _ _ _ _ hi3 hl3, ?_, (World.putObj_heap_other (by omega)).trans hk3, ?_⟩
        · rw [World.putObj_heap_same (lt_of_block hl3), hrec]
        · exact ((hf2.imp (fun _ h => .inl (.inr h))).trans (hf3.imp (fun _ h => h.elim (fun h => .inl (.inl h)) .inr))).trans ((fr_put _ _ _).imp (fun _ h => .inl (.inr h)))
      rintro e a3 W3 hpost
      cases e with
      | normal =>
        obtain ⟨ρ', hi3, hf3, hr3⟩ := hpost
        obtain ⟨W4, hr4, hi4, hl4, hk4, hf4⟩ := fin I hA none W3 ρ' hi3 hf3
        exact ⟨_, W4, hr4, .inl ⟨rfl, ρ', ⟨hi4, hl4, hk4⟩, hf4, hr3.imp id (fun ⟨b, h1, h2⟩ => ⟨b, h1, by omega⟩)⟩⟩
      | exit id =>
        obtain ⟨ρ', hi3, hf3, hr3, hcx⟩ := hpost
        obtain ⟨W4, hr4, hi4, hl4, hk4, hf4⟩ := fin I2 hA2 (some (.exit id)) W3 ρ' hi3 hf3
        exact ⟨_, W4, hr4, .inr ⟨rfl, .exit id, ρ', hi4, hcx, hl4, hk4⟩⟩
      | ret => exact hpost.elim
      | goto t => exact hpost.elim
      | panic ch => exact hpost.elim
      | outgrown => exact hpost.elim
    · rintro e W2 ⟨⟨v, rfl⟩, (⟨ρ, ⟨hi, hl, hk⟩, hT⟩ | ⟨pre, hpre, cd, ρ, hi, hcx, hl, hk⟩)⟩
      · refine ⟨none, _, by have := run_endLoop (P := Try.prog) hl (by rw [hrec]; simp); rw [hrec] at this; exact this, hdone ρ _ (hput I hA _ _ _ _ _ hi hl) ?_ ((World.putObj_heap_other (by omega)).trans hk)⟩
        exact hT.frI (p1 := p1) (p2 := p2) (fr_put _ _ _) (fun j hj e => by have := ibl j hj; omega)
      · exact ⟨some cd, _, by have := run_endLoop (P := Try.prog) hl (by rw [hrec]; simp); rw [hrec] at this; exact this, hstop cd pre ρ _ hpre hcx (hput I2 hA2 _ _ _ _ _ hi hl) ((World.putObj_heap_other (by omega)).trans hk)⟩
end Go.Proofs.Ytchfccbneedejaa
namespace Go.Proofs.Ytchfccbneedejaa
open Go.RowKit Go.Shelf
attribute [local go_sem] Oper.semAt_some
/-- A region: what is reached, as far as it is asked for. -/
def reg (N : Nat) (l : List A) (c m : Nat) : List Nat := (whole (edl l) (2 * l.length) N (fun _ => false) c).take m
/-- What the loop of Region has collected. -/
structure RI (w : World) (B p r m : Nat) (Z : Nat → Prop) (pre : List Nat) (ρ : Option Nat) (W : World) : Prop where
  ex : ∃ rv, W.heap[r]? = some (.cells #[rv] 25 (0, 0)) ∧ W.ownsRow B 3 1 rv pre.length (cellsI (ints pre)) ∧ rv.ownBlock = ρ
  le : Z pre.length
  mo : W.heap[p + 1]? = some (.cells #[.int .i64 (m : Int)] 3 (0, 0))
  be : Below p w W
  sz : B ≤ W.heap.size
theorem Bg.gr {w wr : World} {f b1 b2 bs N : Nat} {a : Option Addr} {cap : Nat} {l : List A} (h : Bg w wr f b1 b2 bs N l.length a cap (edl l) (2 * l.length)) (hr : Arcs w a l) : Gr wr f b1 b2 bs N a cap l (fun _ => false) :=
  ⟨h.gw, hr.on h.be, h.fi, h.nx.congr (fun k hk => by rw [if_pos hk]), h.sn⟩
theorem Arcs.abl {w : World} {a : Option Addr} {l : List A} (h : Arcs w a l) {j : Nat} (hj : abl a l j) : j < w.heap.size := by
  obtain ⟨hl, x, hx, rfl⟩ := hj
  rcases h with h | ⟨b, o, rfl, hb, _⟩
  · exact absurd h hl
  · injection hx with hx; subst hx; exact hb
theorem own_frv {D : Nat → Prop} {w w' : World} {base n : Nat} {v : Value} {xs : List Value} (h : w.ownsRow base 3 1 v n xs) (hf : Fr D w w') (hn : ∀ b, v.ownBlock = some b → ¬ D b) : w'.ownsRow base 3 1 v n xs := by
  refine ⟨h.1, ?_⟩
  rcases h.2 with h' | ⟨g', c', cur, h1, h2, h3, h4⟩
  · exact Or.inl h'
  · subst h1
    exact Or.inr ⟨g', c', cur, rfl, h2, (hf.block g' (lt_of_block h3) (hn g' rfl)).trans h3, h4⟩
theorem RI.on {w : World} {B p r m bs j0 : Nat} {Z : Nat → Prop} {pre : List Nat} {ρ : Option Nat} {W W' : World} (h : RI w B p r m Z pre ρ W) (hp : p + 1 < B ∧ r < B ∧ p + 1 ≠ bs ∧ r ≠ bs ∧ bs < B ∧ p ≤ bs) (hw : w.heap.size = p) (hj : B ≤ j0) (hn : ρ ≠ some j0) (hf : Fr (fun j => j = bs ∨ j = j0) W W') : RI w B p r m Z pre ρ W' := by
  obtain ⟨rv, h1, h2, h3⟩ := h.ex
  refine ⟨⟨rv, (hf.block r (lt_of_block h1) (fun e => by omega)).trans h1, own_frv h2 hf (fun b hb e => ?_), h3⟩, h.le, (hf.block _ (lt_of_block h.mo) (fun e => by omega)).trans h.mo, ?_, Nat.le_trans h.sz hf.size⟩
  · rcases e with e | e
    · have := (h2.lt b hb).1; omega
    · exact hn (by rw [← h3, hb, e])
  · exact ⟨hf.os.trans h.be.os, hf.tape.trans h.be.tape, hf.output.trans h.be.output, Nat.le_trans h.be.size hf.size, fun k hk => (hf.block k (by have := h.be.size; omega) (fun e => by omega)).trans (h.be.block k hk)⟩
theorem RI.add {w : World} {B p r m : Nat} {Z Z' : Nat → Prop} {pre : List Nat} {ρ : Option Nat} {W w6 : World} {x g6 c6 : Nat} {o : Obj} (h : RI w B p r m Z pre ρ W) (hp : p + 1 < r ∧ r < B) (hw : w.heap.size = p)
    (hrho : ∀ b, ρ = some b → B ≤ b) (hown : w6.ownsRow B 3 1 (.slice (some ⟨g6, 0, none⟩) (pre.length + 1) c6) (pre.length + 1) (cellsI (ints pre) ++ [.int .i64 (x : Int)])) (hgr : (W.alloc o).grownBy w6 ρ) (hb : some g6 = ρ ∨ g6 = W.heap.size + 1) (hz : Z' (pre.length + 1)) :
    (w6.heap[r]? = W.heap[r]? ∧ w6.heap[p + 1]? = W.heap[p + 1]?) ∧ RI w B p r m Z' (pre ++ [x]) (some g6) (w6.setCell ⟨r, 0, none⟩ (.slice (some ⟨g6, 0, none⟩) (pre.length + 1) c6)) ∧ Fr (fun j => j = r ∨ some j = ρ) W (w6.setCell ⟨r, 0, none⟩ (.slice (some ⟨g6, 0, none⟩) (pre.length + 1) c6)) ∧ (some g6 = ρ ∨ ∃ b, some g6 = some b ∧ W.heap.size ≤ b) := by
  obtain ⟨rv, h1, h2, h3⟩ := h.ex
  have f1 : Fr (fun j => some j = ρ) W w6 := ((Fr.refl _ W).alloc o).trans ⟨hgr.os, hgr.tape, hgr.output, hgr.size, fun k hk hn => hgr.block k hk hn⟩
  have f2 : Fr (fun j => j = r) w6 (w6.setCell ⟨r, 0, none⟩ (.slice (some ⟨g6, 0, none⟩) (pre.length + 1) c6)) := (Fr.refl _ w6).setCell ⟨r, 0, none⟩ _ rfl
  have e1 : w6.heap[r]? = W.heap[r]? := f1.block r (lt_of_block h1) (fun e => by have := hrho r e.symm; omega)
  have e2 : w6.heap[p + 1]? = W.heap[p + 1]? := f1.block _ (lt_of_block h.mo) (fun e => by have := hrho _ e.symm; omega)
  have f3 : Fr (fun j => j = r ∨ some j = ρ) W (w6.setCell ⟨r, 0, none⟩ (.slice (some ⟨g6, 0, none⟩) (pre.length + 1) c6)) := (f1.imp (fun _ h => .inr h)).trans (f2.imp (fun _ h => .inl h))
  have hgB := (own_lt hown).1
  refine ⟨⟨e1, e2⟩, ⟨⟨.slice (some ⟨g6, 0, none⟩) (pre.length + 1) c6, ?_, ?_, rfl⟩, ?_, ?_, ?_, Nat.le_trans h.sz f3.size⟩, f3, hb.imp id (fun e => ⟨g6, rfl, by omega⟩)⟩
  · rw [heap_setCell_same w6 r 0 _ _ _ (e1.trans h1)]
    simp
  · rw [ints_snoc, ← cellsI_snoc, List.length_append]
    exact own_fr hown f2 (fun e => by omega)
  · rw [List.length_append]; exact hz
  · exact (f2.block _ (lt_of_block (e2.trans h.mo)) (fun e => by omega)).trans (e2.trans h.mo)
  · refine ⟨f3.os.trans h.be.os, f3.tape.trans h.be.tape, f3.output.trans h.be.output, Nat.le_trans h.be.size f3.size, fun k hk => (f3.block k (by have := h.be.size; omega) (fun e => ?_)).trans (h.be.block k hk)⟩
    rcases e with e | e
    · omega
    · have := hrho k e.symm; omega
theorem RI.fin {w : World} {B p r m D : Nat} {Z : Nat → Prop} {pre : List Nat} {ρ : Option Nat} {W : World} {rv : Value} {x : Option (List Deferred)} (h : RI w B p r m Z pre ρ W) (hrv : W.ownsRow B 3 1 rv pre.length (cellsI (ints pre))) (hK : W.heap[D]? = some (.deferred x)) (hp : p ≤ B ∧ p ≤ D) (hw : w.heap.size = p) (o : Obj) :
    (W.putObj D o).ownsRow p 3 1 rv pre.length (cellsI (ints pre)) ∧ Below p w (W.putObj D o) := by
  refine ⟨own_base (own_frv hrv (fr_put W D o) (fun b hb e => ?_)) hp.1, ?_⟩
  · rcases hrv.2 with ⟨e1, _⟩ | ⟨g', c', cur, e1, _, hg', _⟩
    · subst e1; cases hb
    · subst e1
      injection hb with hb
      subst hb
      have e : g' = D := e
      rw [e, hK] at hg'
      cases hg'
  · have hf := fr_put W D o
    exact ⟨hf.os.trans h.be.os, hf.tape.trans h.be.tape, hf.output.trans h.be.output, Nat.le_trans h.be.size hf.size, fun k hk => (hf.block k (by have := h.be.size; omega) (fun e => by omega)).trans (h.be.block k hk)⟩
theorem RI.rho {w : World} {B p r m : Nat} {Z : Nat → Prop} {pre : List Nat} {ρ : Option Nat} {W : World} (h : RI w B p r m Z pre ρ W) : ∀ b, ρ = some b → B ≤ b := by
  rintro b rfl
  obtain ⟨rv, h1, h2, h3⟩ := h.ex
  exact (h2.lt b h3).1
end Go.Proofs.Ytchfccbneedejaa
namespace Go.Proofs.Ytchfccbneedejaa
open Go.RowKit
/-- The numbers below k that are marked. -/
def allk (F : Nat → Bool) (k : Nat) : List Nat := (List.range k).filter F
theorem allk_succ (F : Nat → Bool) (k : Nat) : allk F (k + 1) = if F k = true then allk F k ++ [k] else allk F k := by
  unfold allk
  rw [List.range_succ, List.filter_append]
  by_cases h : F k = true
  · rw [if_pos h]; simp [h]
  · rw [if_neg h]; simp [h]
theorem allk_len (F : Nat → Bool) (k : Nat) : (allk F k).length ≤ k := Nat.le_trans (List.length_filter_le _ _) (by simp)
set_option maxHeartbeats 800000 in
theorem rall_any {w : World} {b n : Nat} {F : Nat → Bool} (hn : n ≤ 1024) (ht : TbV w b n 4 (fun u => .bool (F u))) :
    Calls Try.prog 79 #[.slice (some ⟨b, 0, none⟩) n n] w fun e w' => ∃ v, e = .returned v ∧ w'.ownsRow w.heap.size 3 1 v (allk F n).length (cellsI (ints (allk F n))) ∧ Below w.heap.size w w' := by
  obtain ⟨i3, hi3, hz3, hs3, hby3⟩ := info_parts info3
  have HT := Lib.hid ht
  clear ht
  generalize hX : w = X at *
  clear hX
  go_enter Try.func79, Try.ntmps79
  go_wp2_with fail
  go_loopw [3, 4] (fun s3 i wr => ∃ (k : Nat) (av : Option Addr) (cv len : Nat), k ≤ n ∧ s3 = .slice av len cv ∧ i = .int .i64 k ∧ Hid ((allk F k).length = len) ∧ Hid (wr.ownsRow X.heap.size 3 1 (.slice av len cv) len (cellsI (ints (allk F k)))) ∧ Hid (Below X.heap.size X wr)) (fun _ i _ => n - (intOf i).toNat)
  case atStart => exact ⟨0, none, 0, 0, Nat.zero_le _, rfl, rfl, rfl, World.ownsRow_nil _ _ _ _, Below.refl _ _⟩
  case round =>
    obtain ⟨k, av, cv, len, hkn, rfl, rfl, HLEN, HOW, HBX⟩ := hrel
    have hlenk : len ≤ k := by rw [← HLEN.out]; exact allk_len _ _
    by_cases hlt : k < n
    · have hlt2 : (k : Int) < n := by omega
      have d1 := (HBX.out.cell (p := ⟨b, k, none⟩) HT.out.lt).trans (HT.out.cell hlt)
      obtain ⟨be, HBE⟩ := named (F k)
      rw [HBE.out] at d1
      have HRS := Lib.hid (allk_succ F k)
      rw [HBE.out] at HRS
      cases be
      · have e := HRS.out
        rw [if_neg (by simp)] at e
        have HEE := Lib.hid e
        clear e
        go_wp2_with fail
        exact ⟨⟨k + 1, av, cv, len, by omega, rfl, by simp, by show _ = _; rw [HEE.out]; exact HLEN.out, by rw [HEE.out]; exact HOW, HBX⟩, by simp [intOf]; omega⟩
      · have HNW := Lib.hid (one_new wr (k : Int))
        have HO2 := Lib.hid (HOW.out.alloc (.cells #[.int .i64 (k : Int)] 3))
        have HBZ : Hid (X.heap.size ≤ (wr.alloc (.cells #[.int .i64 (k : Int)] 3)).heap.size) := by
          show _ ≤ _
          rw [World.size_alloc]
          exact Nat.le_succ_of_le HBX.out.size
        go_wp2_with (at_builtin; refine wpList_append_own _ rfl (.tmp 15) (.tmp 17) 25 rfl X.heap.size 3 i3 (.int .i64 0) 1 8 Try.underlying25 hi3 hz3 hs3 hby3 rfl (by decide) (.slice av len cv) len (cellsI (ints (allk F k))) rfl HO2.out ⟨wr.heap.size, 0, none⟩ 1 1 [.int .i64 (k : Int)] rfl rfl HNW.out (one_i64 _) (by unfold maxLen; omega) (by omega) HBZ.out ?_; intro v6 w6 hown6 hgrow6 hnil6; obtain ⟨g6, c6, hv6, _, _, _, _⟩ := own_shape hown6 (fun e => by have := hnil6.1 e; simp at this); subst hv6; have HOB6 : Hid (∀ b, (Value.slice av len cv).ownBlock = some b → X.heap.size ≤ b) := fun b hb => (HO2.out.lt b hb).1; have HB6 : Hid (Below X.heap.size X w6) := (HBX.out.alloc HBX.out.size _).grown hgrow6 (HBX.out.alloc HBX.out.size _).size (fun j hj => HOB6.out j hj); have HO6 := Lib.hid hown6; clear hown6 hgrow6 hnil6)
        have e := HRS.out
        rw [if_pos (by rfl)] at e
        refine ⟨⟨k + 1, some ⟨g6, 0, none⟩, c6, len + 1, by omega, rfl, by simp, ?_, ?_, HB6⟩, by simp [intOf]; omega⟩
        · show _ = _
          rw [e, List.length_append, HLEN.out]; rfl
        · rw [e, ints_snoc, ← cellsI_snoc]; exact HO6
    · obtain rfl : k = n := by omega
      have hlt2 : ¬ (k : Int) < k := by omega
      go_wp2_with fail
      go_ret
      exact ⟨.slice av len cv, rfl, by rw [HLEN.out]; exact HOW.out, HBX.out⟩
end Go.Proofs.Ytchfccbneedejaa
namespace Go.Proofs.Ytchfccbneedejaa
open Go.RowKit
/-- What is left of the first k of a list when each that is the same as the one ahead of it goes. -/
def ddk (d : List Pr) : Nat → List Pr
  | 0 => []
  | k + 1 => if 0 < k ∧ d.getD k Pr.zero = d.getD (k - 1) Pr.zero then ddk d k else ddk d k ++ [d.getD k Pr.zero]
theorem ddk_keep {d : List Pr} {k : Nat} (h : ¬ (0 < k ∧ d.getD k Pr.zero = d.getD (k - 1) Pr.zero)) : ddk d (k + 1) = ddk d k ++ [d.getD k Pr.zero] := by rw [ddk, if_neg h]
theorem ddk_skip {d : List Pr} {k : Nat} (h : 0 < k ∧ d.getD k Pr.zero = d.getD (k - 1) Pr.zero) : ddk d (k + 1) = ddk d k := by rw [ddk, if_pos h]
theorem ddk_len (d : List Pr) : ∀ k, (ddk d k).length ≤ k
  | 0 => by simp [ddk]
  | k + 1 => by
    rw [ddk]
    have := ddk_len d k
    split
    · omega
    · simp; omega
/-- The pairs in a block: n of them, as D says; the block is so great. -/
def PB (w : World) (g n s : Nat) (D : Nat → Pr) : Prop := ∃ cur, w.heap[g]? = some (.cells cur 42 (0, 0)) ∧ cur.size = s ∧ n * 2 ≤ s ∧ ∀ j, j < n → cur[j * 2]? = some (.int .i64 ((D j).a : Int)) ∧ cur[j * 2 + 1]? = some (.int .i64 ((D j).b : Int))
theorem PB.cell {w : World} {g n s : Nat} {D : Nat → Pr} (h : PB w g n s D) {j : Nat} (hj : j < n) : w.cell? ⟨g, j * 2, none⟩ = some (.int .i64 ((D j).a : Int)) ∧ w.cell? ⟨g, j * 2 + 1, none⟩ = some (.int .i64 ((D j).b : Int)) := by
  obtain ⟨cur, h1, _, _, h4⟩ := h
  obtain ⟨h5, h6⟩ := h4 j hj
  exact ⟨by simp [World.cell?, h1, h5], by simp [World.cell?, h1, h6]⟩
theorem PB.free {w : World} {g n s : Nat} {D : Nat → Pr} (h : PB w g n s D) (o : Nat) : w.frozen? ⟨g, o, none⟩ = false := by
  obtain ⟨cur, h1, _⟩ := h
  simp [World.frozen?, h1]
theorem PB.lt {w : World} {g n s : Nat} {D : Nat → Pr} (h : PB w g n s D) : g < w.heap.size := by obtain ⟨cur, h1, _⟩ := h; exact lt_of_block h1
theorem PB.same {w w' : World} {g n s : Nat} {D : Nat → Pr} (h : PB w g n s D) (hs : w'.heap[g]? = w.heap[g]?) : PB w' g n s D := by obtain ⟨cur, h1, h2⟩ := h; exact ⟨cur, hs.trans h1, h2⟩
def updP (D : Nat → Pr) (x : Nat) (u : Pr) : Nat → Pr := fun y => if y = x then u else D y
theorem PB.put {w : World} {g n s : Nat} {D : Nat → Pr} (h : PB w g n s D) {k : Nat} (hk : k < n) (u : Pr) : PB ((w.setCell ⟨g, k * 2, none⟩ (.int .i64 (u.a : Int))).setCell ⟨g, k * 2 + 1, none⟩ (.int .i64 (u.b : Int))) g n s (updP D k u) := by
  obtain ⟨cur, h1, h2, h3, h4⟩ := h
  refine ⟨(cur.setIfInBounds (k * 2) (.int .i64 (u.a : Int))).setIfInBounds (k * 2 + 1) (.int .i64 (u.b : Int)), ?_, by simpa using h2, h3, fun j hj => ?_⟩
  · rw [heap_setCell_same _ g (k * 2 + 1) _ _ _ (heap_setCell_same w g (k * 2) _ _ _ h1)]
  · obtain ⟨h5, h6⟩ := h4 j hj
    unfold updP
    by_cases e : j = k
    · subst e
      have q1 : j * 2 < cur.size := by omega
      have q2 : j * 2 + 1 < cur.size := by omega
      constructor
      · rw [Array.getElem?_setIfInBounds, if_neg (by omega), Array.getElem?_setIfInBounds]; simp [q1]
      · rw [Array.getElem?_setIfInBounds]; simp [q2]
    · rw [if_neg e]
      constructor
      · rw [Array.getElem?_setIfInBounds, if_neg (by omega), Array.getElem?_setIfInBounds, if_neg (by omega)]; exact h5
      · rw [Array.getElem?_setIfInBounds, if_neg (by omega), Array.getElem?_setIfInBounds, if_neg (by omega)]; exact h6
theorem PB.less {w : World} {g n s m : Nat} {D : Nat → Pr} (h : PB w g n s D) (hm : m ≤ n) : PB w g m s D := by
  obtain ⟨cur, h1, h2, h3, h4⟩ := h
  exact ⟨cur, h1, h2, by omega, fun j hj => h4 j (by omega)⟩
theorem PB.congr {w : World} {g n s : Nat} {D E : Nat → Pr} (h : PB w g n s D) (e : ∀ j, j < n → D j = E j) : PB w g n s E := by
  obtain ⟨cur, h1, h2, h3, h4⟩ := h
  exact ⟨cur, h1, h2, h3, fun j hj => by rw [← e j hj]; exact h4 j hj⟩
theorem setCells_fr (g : Nat) : ∀ (vs : List Value) (o : Nat) (w : World), Fr (fun j => j = g) w (w.setCells g o vs)
  | [], _, w => Fr.refl _ w
  | v :: r, o, w => ((Fr.refl (fun j => j = g) w).setCell ⟨g, o, none⟩ v rfl).trans (setCells_fr g r (o + 1) _)
theorem setCells_PB {g n s : Nat} {D : Nat → Pr} : ∀ (vs : List Value) (o : Nat) (w : World), n * 2 ≤ o → PB w g n s D → PB (w.setCells g o vs) g n s D
  | [], _, w, _, h => h
  | v :: r, o, w, ho, h => by
    refine setCells_PB r (o + 1) _ (by omega) ?_
    obtain ⟨cur, h1, h2, h3, h4⟩ := h
    refine ⟨cur.setIfInBounds o v, heap_setCell_same w g o _ _ _ h1, by simpa using h2, h3, fun j hj => ?_⟩
    obtain ⟨h5, h6⟩ := h4 j hj
    rw [Array.getElem?_setIfInBounds, if_neg (by omega), Array.getElem?_setIfInBounds, if_neg (by omega)]
    exact ⟨h5, h6⟩
/-- 'clear(s)' at pairs. -/
theorem run_clear2 (w : World) (ty : TypeId) (b o n c : Nat) (hn : 0 < n) (hc : ∀ j, j < n * 2 → (w.cell? ⟨b, o + j, none⟩).isSome = true) (hf : ∀ j, j < n * 2 → w.frozen? ⟨b, o + j, none⟩ = false) :
    ∃ zs, (Builtin.clear_ #[38] ty #[.slice (some ⟨b, o, none⟩) n c]).run Try.prog w = .ok (.tuple #[]) (w.setCells b o zs) := by
  refine ⟨(Builtin.zeroCells (Value.agg #[.int .i64 0, .int .i64 0]).cells n).toList, ?_⟩
  have hlen : (Builtin.zeroCells (Value.agg #[.int .i64 0, .int .i64 0]).cells n).toList.length = n * 2 := by
    simp [Builtin.zeroCells, Value.cells]
  have hst := run_storeCells_cells (P := Try.prog) b o (Builtin.zeroCells (Value.agg #[.int .i64 0, .int .i64 0]).cells n).toList 0 w (by rw [hlen]; simpa using hc) (by rw [hlen]; simpa using hf) (by
    intro v hv
    simp [Builtin.zeroCells, Value.cells] at hv
    obtain ⟨j, _, rfl⟩ := hv
    have : j % 2 = 0 ∨ j % 2 = 1 := by omega
    rcases this with e | e <;> simp [e, Value.oneCell'])
  simp only [Nat.add_zero] at hst
  obtain ⟨m, rfl⟩ : ∃ m, n = m + 1 := ⟨n - 1, by omega⟩
  simp [Builtin.clear_, run_underlying Try.underlying38, hst]
theorem own_PB {w : World} {B g c : Nat} {d : List Pr} (h : OwnP w B (some ⟨g, 0, none⟩) c d) : PB w g d.length (c * 2) (fun j => d.getD j Pr.zero) ∧ B ≤ g ∧ d.length ≤ c ∧ c ≤ 9223372036854775807 := by
  rcases h.2 with ⟨e, _⟩ | ⟨g', c', cur, e, hb, hg, hn, hm, hs, ht⟩
  · cases e
  · injection e with e1 e2 e3
    injection e1 with e1
    injection e1 with e1
    subst e1; subst e3
    refine ⟨⟨cur, hg, hs, by omega, fun j hj => ?_⟩, hb, hn, hm⟩
    obtain ⟨h1, h2⟩ := cellsP_at d j hj
    rw [← ht, List.getElem?_take, if_pos (by omega)] at h1 h2
    exact ⟨by rw [← h1]; simp, by rw [← h2]; simp⟩
theorem PB_own {w : World} {B g c : Nat} {d : List Pr} (h : PB w g d.length (c * 2) (fun j => d.getD j Pr.zero)) (hB : B ≤ g) (hc : d.length ≤ c) (hm : c ≤ 9223372036854775807) : OwnP w B (some ⟨g, 0, none⟩) c d := by
  obtain ⟨cur, h1, h2, h3, h4⟩ := h
  refine ⟨cellsP_len d, .inr ⟨g, c, cur, rfl, hB, h1, hc, hm, h2, ?_⟩⟩
  apply List.ext_getElem?
  intro i
  rw [List.getElem?_take]
  by_cases hi : i < d.length * 2
  · rw [if_pos hi]
    obtain ⟨j, hj⟩ : ∃ j, i = j * 2 ∨ i = j * 2 + 1 := ⟨i / 2, by omega⟩
    obtain ⟨q1, q2⟩ := cellsP_at d j (by omega)
    obtain ⟨q3, q4⟩ := h4 j (by omega)
    rcases hj with rfl | rfl
    · rw [q1]; simpa using q3
    · rw [q2]; simpa using q4
  · rw [if_neg hi, List.getElem?_eq_none (by rw [cellsP_len]; omega)]
theorem take_snocP {p : List Pr} {k : Nat} (h : k < p.length) : p.take (k + 1) = p.take k ++ [p.getD k Pr.zero] := by
  rw [List.take_succ_eq_append_getElem h]
  simp [List.getD, List.getElem?_eq_getElem h]
theorem pr_ext {x y : Pr} (h1 : x.a = y.a) (h2 : x.b = y.b) : x = y := by cases x; cases y; simp_all
/-- While the list is made short: kk are kept of the first m. -/
structure Ci (d : List Pr) (m kk : Nat) (D : Nat → Pr) : Prop where
  len : (ddk d m).length = kk
  low : ∀ j, j < kk → D j = (ddk d m).getD j Pr.zero
  high : ∀ j, m ≤ j + 1 → D j = d.getD j Pr.zero
  lt : kk < m
theorem Ci.skip {d : List Pr} {m kk : Nat} {D : Nat → Pr} (h : Ci d m kk D) (hm : 0 < m) (e : d.getD m Pr.zero = d.getD (m - 1) Pr.zero) : Ci d (m + 1) kk D := by
  have hs := ddk_skip (d := d) ⟨hm, e⟩
  exact ⟨by rw [hs]; exact h.len, fun j hj => by rw [hs]; exact h.low j hj, fun j hj => h.high j (by omega), by have := h.lt; omega⟩
theorem Ci.keep {d : List Pr} {m kk : Nat} {D : Nat → Pr} (h : Ci d m kk D) (e : d.getD m Pr.zero ≠ d.getD (m - 1) Pr.zero) : Ci d (m + 1) (kk + 1) (updP D kk (d.getD m Pr.zero)) := by
  have hs := ddk_keep (d := d) (k := m) (fun h => e h.2)
  have hl := h.len
  have hlt := h.lt
  refine ⟨by rw [hs, List.length_append, hl]; rfl, fun j hj => ?_, fun j hj => ?_, by omega⟩
  · rw [hs]
    unfold updP
    by_cases ej : j = kk
    · subst ej
      rw [if_pos rfl]
      simp [List.getD, ← hl]
    · rw [if_neg ej, h.low j (by omega)]
      simp [List.getD, List.getElem?_append_left (show j < (ddk d m).length by omega)]
  · unfold updP
    rw [if_neg (by omega)]
    exact h.high j (by omega)
theorem Ci.start {d : List Pr} {k : Nat} (hk : k < d.length) (h0 : 0 < k) (ht : ddk d k = d.take k) (e : d.getD k Pr.zero = d.getD (k - 1) Pr.zero) : Ci d (k + 1) k (fun j => d.getD j Pr.zero) := by
  have hs := ddk_skip (d := d) ⟨h0, e⟩
  refine ⟨by rw [hs, ht, List.length_take]; omega, fun j hj => ?_, fun j _ => rfl, by omega⟩
  rw [hs, ht]
  simp [List.getD, hj]
theorem own_drew {w : World} {B : Nat} {a : Option Addr} {c : Nat} {d : List Pr} (h : OwnP w B a c d) (q : Nat) : OwnP (w.drewN q) B a c d := h
set_option maxRecDepth 100000 in
set_option maxHeartbeats 1600000 in
theorem compact_any {w : World} {B g c : Nat} {d : List Pr} (h : OwnP w B (some ⟨g, 0, none⟩) c d) : Calls Try.prog 47 #[.slice (some ⟨g, 0, none⟩) d.length c] w fun e w' => e = .returned (.slice (some ⟨g, 0, none⟩) (ddk d d.length).length c) ∧ OwnP w' B (some ⟨g, 0, none⟩) c (ddk d d.length) ∧ Fr (fun j => j = g) w w' := by
  obtain ⟨hP, hB, hdc, hcm⟩ := own_PB h
  have HP := Lib.hid hP
  have HOWN := Lib.hid h
  clear h hP
  by_cases h2 : d.length < 2
  · have h2' : (d.length : Int) < 2 := by omega
    have hdd : ddk d d.length = d := by
      match d, h2 with
      | [], _ => rfl
      | [x], _ => simp [ddk]
    rw [hdd]
    go_enter Try.func47, Try.ntmps47
    go_wp2_with fail
    go_ret
    exact ⟨rfl, HOWN.out, Fr.refl _ _⟩
  · have h2' : ¬ (d.length : Int) < 2 := by omega
    go_enter Try.func47, Try.ntmps47
    go_wp2_with fail
    go_loopw [3] (fun i wr => ∃ k q : Nat, 1 ≤ k ∧ k ≤ d.length ∧ i = .int .i64 k ∧ Hid (ddk d k = d.take k) ∧ wr = w.drewN q) (fun i _ => d.length - (intOf i).toNat)
    case atStart => exact ⟨1, 0, by omega, by omega, rfl, by show _ = _; rw [take_snocP (by omega)]; simp [ddk], rfl⟩
    case round =>
      obtain ⟨k, q, hk1, hk, rfl, HT, rfl⟩ := hrel
      obtain ⟨m, rfl⟩ : ∃ m, k = m + 1 := ⟨k - 1, by omega⟩
      by_cases hlt : m + 1 < d.length
      · have hlt' : (((m + 1 : Nat) : Int)) < d.length := by omega
        obtain ⟨x0, x1⟩ := (HP.out.cell hlt)
        obtain ⟨y0, y1⟩ := (HP.out.cell (show m < d.length by omega))
        obtain ⟨x, HX⟩ := named (d.getD (m + 1) Pr.zero)
        obtain ⟨y, HY⟩ := named (d.getD m Pr.zero)
        rw [HX.out] at x0 x1
        rw [HY.out] at y0 y1
        by_cases hxy : x = y
        · subst hxy
          go_wp2_with fail
          go_quiet (fail)
          go_wp2_with fail
          have HCI : Hid (Ci d (m + 1 + 1) (m + 1) (fun j => d.getD j Pr.zero)) := Ci.start hlt (by omega) HT.out (by rw [HX.out]; exact HY.out.symm)
          clear x0 x1 y0 y1
          generalize hL : d.length - (m + 1) = L at *
          go_loopw [3, 5] (fun s3 s5 wr => ∃ (kk k2 : Nat) (D : Nat → Pr), 1 ≤ k2 ∧ k2 ≤ L ∧ s3 = .int .i64 kk ∧ s5 = .int .i64 k2 ∧ Hid (Ci d (m + 1 + k2) kk D) ∧ Hid (PB wr g d.length (c * 2) D) ∧ Hid (Fr (fun j => j = g) w wr)) (fun _ s5 _ => L - (intOf s5).toNat)
          case atStart => exact ⟨m + 1, 1, _, by omega, by omega, rfl, rfl, HCI, HP.out, (Fr.refl _ _).drewN _⟩
          case round =>
            obtain ⟨kk, k2, D, hk21, hk2, rfl, rfl, HC, HPB, HF⟩ := hrel
            obtain ⟨t, rfl⟩ : ∃ t, k2 = t + 1 := ⟨k2 - 1, by omega⟩
            have hkk := HC.out.lt
            by_cases hlt2 : t + 1 < L
            · have hlt2' : ((t + 1 : Nat) : Int) < L := by omega
              obtain ⟨z0, z1⟩ := HPB.out.cell (show m + 1 + (t + 1) < d.length by omega)
              obtain ⟨v0, v1⟩ := HPB.out.cell (show m + 1 + t < d.length by omega)
              obtain ⟨o0, o1⟩ := HPB.out.cell (show kk < d.length by omega)
              have f0 := HPB.out.free (kk * 2)
              have f1 := HPB.out.free (kk * 2 + 1)
              rw [HC.out.high _ (by omega)] at z0 z1 v0 v1
              rw [show (m + 1 + (t + 1)) * 2 = (m + 1) * 2 + (t + 1) * 2 by omega] at z0 z1
              rw [show (m + 1 + t) * 2 = (m + 1) * 2 + t * 2 by omega] at v0 v1
              obtain ⟨u, HU⟩ := named (d.getD (m + 1 + (t + 1)) Pr.zero)
              obtain ⟨v, HV⟩ := named (d.getD (m + 1 + t) Pr.zero)
              rw [HU.out] at z0 z1
              rw [HV.out] at v0 v1
              have HE : Hid (m + 1 + (t + 1) = m + 1 + t + 1) := rfl
              by_cases huv : u = v
              · subst huv
                have HC2 : Hid (Ci d (m + 1 + (t + 1 + 1)) kk D) := HC.out.skip (by omega) (by rw [HU.out]; exact HV.out.symm)
                generalize D kk = old at *
                go_wp2_with fail
                go_quiet (fail)
                go_wp2_with fail
                exact ⟨⟨kk, t + 1 + 1, D, by omega, by omega, rfl, by simp, HC2, HPB.out, HF.out.drewN _⟩, by simp [intOf]; omega⟩
              · have HC2 : Hid (Ci d (m + 1 + (t + 1 + 1)) (kk + 1) (updP D kk u)) := by
                  have := HC.out.keep (by rw [HU.out]; exact fun e => huv (e.trans HV.out))
                  rw [HU.out] at this
                  exact this
                generalize D kk = old at o0 o1
                by_cases ha : u.a = v.a
                · have hb : u.b ≠ v.b := fun hb => huv (pr_ext ha hb)
                  have hb' : ((u.b : Int) == (v.b : Int)) = false := by simp; omega
                  have ha' : ((u.a : Int) == (v.a : Int)) = true := by simp [ha]
                  clear ha hb
                  go_wp2_with fail
                  go_quiet (fail)
                  go_wp2_with fail
                  exact ⟨⟨kk + 1, t + 1 + 1, _, by omega, by omega, by simp, by simp, HC2, PB.put (w := wr.drewN nq) HPB.out (show kk < d.length by omega) u, ((HF.out.drewN nq).setCell ⟨g, kk * 2, none⟩ _ rfl).setCell ⟨g, kk * 2 + 1, none⟩ _ rfl⟩, by simp [intOf]; omega⟩
                · have ha' : ((u.a : Int) == (v.a : Int)) = false := by simp; omega
                  go_wp2_with fail
                  go_quiet (fail)
                  go_wp2_with fail
                  exact ⟨⟨kk + 1, t + 1 + 1, _, by omega, by omega, by simp, by simp, HC2, PB.put (w := wr.drewN nq) HPB.out (show kk < d.length by omega) u, ((HF.out.drewN nq).setCell ⟨g, kk * 2, none⟩ _ rfl).setCell ⟨g, kk * 2 + 1, none⟩ _ rfl⟩, by simp [intOf]; omega⟩
            · have hlt2' : ¬ ((t + 1 : Nat) : Int) < L := by omega
              have hend : m + 1 + (t + 1) = d.length := by omega
              rw [hend] at HC
              have hkd : kk < d.length := by omega
              obtain ⟨zs, hcl⟩ : ∃ zs, ∀ ty, (Builtin.clear_ #[38] ty #[.slice (some ⟨g, kk * 2, none⟩) (d.length - kk) (c - kk)]).run Try.prog wr = .ok (.tuple #[]) (wr.setCells g (kk * 2) zs) := by
                obtain ⟨zs, hz⟩ := run_clear2 wr 0 g (kk * 2) (d.length - kk) (c - kk) (by omega) (fun j hj => by
                  obtain ⟨i, hi⟩ : ∃ i, kk * 2 + j = i * 2 ∨ kk * 2 + j = i * 2 + 1 := ⟨(kk * 2 + j) / 2, by omega⟩
                  obtain ⟨q0, q1⟩ := HPB.out.cell (show i < d.length by omega)
                  rcases hi with e | e
                  · rw [e, q0]; rfl
                  · rw [e, q1]; rfl) (fun j _ => HPB.out.free _)
                exact ⟨zs, fun ty => hz⟩
              have HPE := Lib.hid (setCells_PB zs (kk * 2) wr (Nat.le_refl _) (HPB.out.less (Nat.le_of_lt hkd)))
              have HFE := Lib.hid (HF.out.trans (setCells_fr g zs (kk * 2) wr))
              have hkc : (kk : Int) ≤ c := by omega
              go_wp2_with fail
              go_ret
              have hl := HC.out.len
              have hlow := HC.out.low
              rw [hl]
              refine ⟨rfl, ?_, HFE.out⟩
              refine PB_own ?_ hB (by rw [hl]; omega) hcm
              rw [hl]
              exact HPE.out.congr hlow
        · have HKP : Hid (ddk d (m + 1 + 1) = d.take (m + 1 + 1)) := by
            show _ = _
            rw [ddk_keep (fun h => hxy (by rw [← HX.out, ← HY.out]; exact h.2)), HT.out, ← take_snocP hlt]
          by_cases ha : x.a = y.a
          · have hb : x.b ≠ y.b := fun hb => hxy (pr_ext ha hb)
            have hb' : ((x.b : Int) == (y.b : Int)) = false := by simp; omega
            rw [ha] at x0
            go_wp2_with fail
            go_quiet (fail)
            go_wp2_with fail
            exact ⟨⟨m + 1 + 1, _, by omega, by omega, by simp, HKP, rfl⟩, by simp [intOf]; omega⟩
          · have ha' : ((x.a : Int) == (y.a : Int)) = false := by simp; omega
            go_wp2_with fail
            go_quiet (fail)
            go_wp2_with fail
            exact ⟨⟨m + 1 + 1, _, by omega, by omega, by simp, HKP, rfl⟩, by simp [intOf]; omega⟩
      · have hlt' : ¬ (((m + 1 : Nat) : Int)) < d.length := by omega
        have hlen : m + 1 = d.length := by omega
        have hdd : ddk d d.length = d := by rw [← hlen, HT.out, hlen, List.take_length]
        have HDD := Lib.hid hdd
        clear hdd hlen
        go_wp2_with fail
        go_ret
        rw [HDD.out]
        exact ⟨rfl, own_drew HOWN.out _, (Fr.refl _ _).drewN _⟩
end Go.Proofs.Ytchfccbneedejaa
