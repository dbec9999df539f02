/-
  The iterator of a growth: what it tells, round by round.
-/
import Derived.Test.YtpgadcacimjlaaaExtend
import Derived.Test.YtpgadcacimjlaaaOrd
import Derived.RangeFuncNested
import Derived.RangeFuncBound
import Derived.RangeFuncCalls
import Derived.RangeFuncLeaves
import Derived.Shelf.Abstract
import Derived.Shelf.RegionOpen
import Derived.WalkKit
import Derived.OwnWalkIn
import Derived.TacticsInMore
import Derived.LoopNIn
import Derived.LoopIn
import Derived.RegionIn
import Derived.BigRegionIn
namespace Go.Proofs.Ytpgadcacimjlaaa
open Go.RowKit Go.Shelf
attribute [local go_sem] Oper.semAt_some
/-- The blocks that the iterator reads. -/
def Ib (f b1 b2 bs p1 p2 : Nat) (a : Option Addr) (l : List A) (j : Nat) : Prop := j = f ∨ j = b1 ∨ j = b2 ∨ j = bs ∨ j = p1 ∨ j = p2 ∨ abl a l j
theorem Gr.frI {D : Nat → Prop} {w w' : World} {f b1 b2 bs N p1 p2 : Nat} {a : Option Addr} {cap : Nat} {l : List A} {S : Nat → Bool} (h : Gr w f b1 b2 bs N a cap l S) (hf : Fr D w w') (hd : ∀ j, Ib f b1 b2 bs p1 p2 a l j → ¬ D j) : Gr w' f b1 b2 bs N a cap l S :=
  ⟨h.gw.fr hf (hd _ (.inl rfl)), h.ar.fr hf (fun _ hj => hd _ (.inr (.inr (.inr (.inr (.inr (.inr hj))))))), h.fi.fr hf (hd _ (.inr (.inl rfl))), h.nx.fr hf (hd _ (.inr (.inr (.inl rfl)))), h.sn.fr hf (hd _ (.inr (.inr (.inr (.inl rfl)))))⟩
theorem cell_fr {D : Nat → Prop} {w w' : World} {p : Addr} {v : Value} (h : w.cell? p = some v) (hf : Fr D w w') (hn : ¬ D p.block) : w'.cell? p = some v :=
  (World.cell?_of_block (hf.block p.block (World.block_lt_of_cell? w _ h) hn)).trans h
theorem own_fr {D : Nat → Prop} {w w' : World} {base g n c : Nat} {xs : List Value} (h : w.ownsRow base 3 1 (.slice (some ⟨g, 0, none⟩) n c) n xs) (hf : Fr D w w') (hn : ¬ D g) : w'.ownsRow base 3 1 (.slice (some ⟨g, 0, none⟩) n c) n xs := by
  refine ⟨h.1, ?_⟩
  rcases h.2 with h' | ⟨g', c', cur, h1, h2, h3, h4⟩
  · exact Or.inl h'
  · injection h1 with e1 e2 e3
    injection e1 with e1
    injection e1 with e1
    subst e1; subst e3
    exact Or.inr ⟨g, c, cur, rfl, h2, (hf.block g (lt_of_block h3) hn).trans h3, h4⟩
theorem own_lt {w : World} {base g n c : Nat} {xs : List Value} (h : w.ownsRow base 3 1 (.slice (some ⟨g, 0, none⟩) n c) n xs) : base ≤ g ∧ g < w.heap.size := by
  rcases h.2 with ⟨h', _⟩ | ⟨g', c', cur, h1, h2, h3, h4⟩
  · cases h'
  · injection h1 with e1 e2 e3
    injection e1 with e1
    injection e1 with e1
    subst e1
    exact ⟨h2, lt_of_block h3⟩
/-- Between two rounds: k vertices have been told. -/
structure Ar (wr : World) (B f b1 b2 bs N p1 p2 : Nat) (a : Option Addr) (cap : Nat) (l : List A) (S : Nat → Bool) (c : Nat) (J : List Nat → Option Nat → World → Prop) (k : Nat) (g cc : Nat) (ρ : Option Nat) : Prop where
  le : k ≤ (gro (edl l) (2 * l.length) N S c k).1.length
  ow : wr.ownsRow B 3 1 (.slice (some ⟨g, 0, none⟩) (gro (edl l) (2 * l.length) N S c k).1.length cc) (gro (edl l) (2 * l.length) N S c k).1.length (cellsI (ints (gro (edl l) (2 * l.length) N S c k).1))
  gr : Gr wr f b1 b2 bs N a cap l (gro (edl l) (2 * l.length) N S c k).2
  j : J (came (edl l) (2 * l.length) N S c k) ρ wr
  ne : ρ ≠ some g
  c1 : wr.cell? ⟨p1, 0, none⟩ = some (.pointer (some ⟨f, 0, none⟩))
  c2 : wr.cell? ⟨p2, 0, none⟩ = some (.int .i64 c)
  wb : B ≤ wr.heap.size
set_option maxRecDepth 100000 in
set_option maxHeartbeats 2000000 in
theorem around1_in {B f b1 b2 bs N p1 p2 : Nat} {a : Option Addr} {cap : Nat} {l : List A} {S : Nat → Bool} (gf : Gf B f b1 b2 bs N a l) {c : Nat} (hc : c < N) (hp : p1 < B ∧ p2 < B ∧ p1 ≠ bs ∧ p2 ≠ bs) (L n : Nat) (hn : 1 ≤ n) (Kf : Nat → Prop) (hKf : ∀ j, Kf j → j < B ∧ ¬ Ib f b1 b2 bs p1 p2 a l j)
    (J : List Nat → Option Nat → World → Prop) (Jx : List Nat → World → Prop)
    (hJ : ∀ pre ρ W W' g, J pre ρ W → B ≤ g → ρ ≠ some g → Fr (fun j => j = bs ∨ j = g) W W' → J pre ρ W')
    (hρ : ∀ pre ρ W b, J pre ρ W → ρ = some b → b < W.heap.size ∧ ¬ Ib f b1 b2 bs p1 p2 a l b)
    (hY : ∀ pre ρ (x : Nat) W, J pre ρ W → pre ++ [x] <+: whole (edl l) (2 * l.length) N S c → YieldAt Fence.wide (n - 1) Try.prog L #[.int .i64 (x : Int)] W fun e W' =>
      (e = .returned (.bool true) ∧ ∃ ρ', J (pre ++ [x]) ρ' W' ∧ Fr (fun j => Kf j ∨ some j = ρ) W W' ∧ (ρ' = ρ ∨ ∃ b, ρ' = some b ∧ W.heap.size ≤ b)) ∨ (e = .returned (.bool false) ∧ Jx (pre ++ [x]) W'))
    (W : World) (ρ0 : Option Nat) (gr : Gr W f b1 b2 bs N a cap l S) (hWB : B ≤ W.heap.size) (hc1 : W.cell? ⟨p1, 0, none⟩ = some (.pointer (some ⟨f, 0, none⟩))) (hc2 : W.cell? ⟨p2, 0, none⟩ = some (.int .i64 c)) (h0 : J [] ρ0 W) :
    CallsIn Fence.wide n Try.prog 37 #[.func (.yield L) #[] #[], .pointer (some ⟨p1, 0, none⟩), .pointer (some ⟨p2, 0, none⟩)] W fun e W' => (∃ v, e = .returned v) ∧
      ((∃ ρ, J (whole (edl l) (2 * l.length) N S c) ρ W' ∧ Gr W' f b1 b2 bs N a cap l (gro (edl l) (2 * l.length) N S c N).2) ∨ (∃ pre, pre <+: whole (edl l) (2 * l.length) N S c ∧ Jx pre W')) := by
  have HGF := Lib.hid gf
  have HGR := Lib.hid gr
  have hc' : (c : Int) < N := by omega
  obtain ⟨d0, d1, d2, d3⟩ := four_cells gr.gw.hd
  have ds := gr.sn.cell hc
  have dsf := gr.sn.free c
  have q1 : p1 ≠ bs := hp.2.2.1
  have q2 : p2 ≠ bs := hp.2.2.2
  have q3 : f ≠ bs := gf.ne.2.2.1
  have q1' := q1.symm
  have q2' := q2.symm
  have q3' := q3.symm
  have HJ := Lib.hid hJ
  have HRO := Lib.hid hρ
  have HY := Lib.hid hY
  have HK := Lib.hid hKf
  have H0 := Lib.hid h0
  generalize hsv : (S c) = sv at ds
  clear gr gf hJ hρ hY hKf h0 hsv
  refine callsIn_of_wp Try.func37 rfl trivial ?_ rfl
  simp only [Try.ntmps37, List.size_toArray, List.length_cons, List.length_nil, Nat.reduceAdd, Nat.reduceSub, Array.replicate_succ, Array.replicate_zero, List.push_toArray, List.append_toArray, List.nil_append, List.cons_append]
  gi_wp2
  gi_region
  gi_wp2
  have HA : Hid (Ar ((W.setCell ⟨bs, c, none⟩ (.bool true)).alloc (.cells #[.int .i64 (c : Int)] 3)).drew B f b1 b2 bs N p1 p2 a cap l S c J 0 W.heap.size 1 ρ0) := by
    have hz : (W.setCell ⟨bs, c, none⟩ (.bool true)).heap.size = W.heap.size := by simp [World.setCell]
    have f1 : Fr (fun j => j = bs ∨ j = W.heap.size) W ((W.setCell ⟨bs, c, none⟩ (.bool true)).alloc (.cells #[.int .i64 (c : Int)] 3)).drew := (((Fr.refl _ W).setCell ⟨bs, c, none⟩ _ (.inl rfl)).alloc _).drew
    have f2 : Fr (fun _ => False) (W.setCell ⟨bs, c, none⟩ (.bool true)) ((W.setCell ⟨bs, c, none⟩ (.bool true)).alloc (.cells #[.int .i64 (c : Int)] 3)).drew := ((Fr.refl _ _).alloc _).drew
    have hne : ρ0 ≠ some W.heap.size := fun e => Nat.lt_irrefl _ (HRO.out _ _ _ _ H0.out e).1
    refine ⟨Nat.zero_le _, ?_, (HGR.out.mark HGF.out (S' := fun u => S u || decide (u = c)) (u := c) (fun x => rfl)).fr HGF.out f2 (fun _ _ h => h), ?_, hne, cell_fr hc1 f1 (fun e => e.elim q1 (fun e => by have := hp.1; simp at e; omega)), cell_fr hc2 f1 (fun e => e.elim q2 (fun e => by have := hp.2.1; simp at e; omega)), Nat.le_trans hWB f1.size⟩
    · have := World.ownsRow_lit (base := B) (e := 3) (size := 1) (W.setCell ⟨bs, c, none⟩ (.bool true)) #[.int .i64 (c : Int)] 1 (by rw [hz]; exact hWB) (by unfold maxLen; omega) rfl
      rw [hz] at this
      exact this
    · rw [came_zero]
      exact HJ.out _ _ _ _ _ H0.out hWB hne f1
  clear d0 d1 d2 d3 ds dsf
  gi_loopw [4, 5] (fun s4 s5 wr => ∃ (k g cc m : Nat) (ρ : Option Nat), s4 = .slice (some ⟨g, 0, none⟩) m cc ∧ s5 = .int .i64 k ∧ Hid ((gro (edl l) (2 * l.length) N S c k).1.length = m) ∧ Hid (Ar wr B f b1 b2 bs N p1 p2 a cap l S c J k g cc ρ)) (fun _ s5 _ => N - (intOf s5).toNat)
  case atStart => exact ⟨0, W.heap.size, 1, 1, ρ0, rfl, rfl, rfl, HA⟩
  case round =>
    obtain ⟨k, g, cc, m, ρ, rfl, rfl, HM, HR⟩ := hrel
    have hmN : m ≤ N := by rw [← HM.out]; exact gro_short hc k
    have hnb := HGF.out.nb
    by_cases hk : k < m
    · have hk' : (k : Int) < m := by omega
      have hkg : k < (gro (edl l) (2 * l.length) N S c k).1.length := by rw [HM.out]; exact hk
      obtain ⟨x, HX⟩ := named ((gro (edl l) (2 * l.length) N S c k).1.getD k 0)
      have hxN : x < N := by rw [← HX.out]; exact gro_at hc hkg
      have hpre := came_pre hc hkg
      rw [HX.out] at hpre
      have HS := Lib.hid (came_succ hkg)
      have HGO := Lib.hid (gro_go hkg)
      rw [HX.out] at HS HGO
      obtain ⟨hgB, hgl⟩ := own_lt HR.out.ow
      have hcell : wr.cell? ⟨g, k, none⟩ = some (.int .i64 (x : Int)) := by
        rw [HR.out.ow.cellAt k (by rw [Nat.mul_one]; exact hkg), cellsI_getD _ _ (by rw [ints_len]; exact hkg), ints_getD hkg, HX.out]
      obtain ⟨fn, tmps, assign, body, hy, hRd⟩ := HY.out (came (edl l) (2 * l.length) N S c k) ρ x wr HR.out.j hpre
      have HPRE := Lib.hid hpre
      clear hpre hkg
      gi_wp2
      refine hRd.mono ?_
      rintro e W3 (⟨rfl, ρ', hJ3, hf3, hr3⟩ | ⟨rfl, hJx3⟩)
      · have nIb : ∀ j, Ib f b1 b2 bs p1 p2 a l j → ¬ (Kf j ∨ some j = ρ) := fun j hj e => e.elim (fun e => (HK.out j e).2 hj) (fun e => (HRO.out _ _ _ j HR.out.j e.symm).2 hj)
        have ng : ¬ (Kf g ∨ some g = ρ) := fun e => e.elim (fun e => by have := (HK.out g e).1; omega) (fun e => HR.out.ne e.symm)
        have gr4 : Gr W3.drew f b1 b2 bs N a cap l (gro (edl l) (2 * l.length) N S c k).2 := HR.out.gr.frI (hf3.drew) nIb
        have ow4 := own_fr HR.out.ow hf3.drew ng
        have x1 := cell_fr HR.out.c1 hf3 (nIb p1 (.inr (.inr (.inr (.inr (.inl rfl))))))
        have x2 := cell_fr HR.out.c2 hf3 (nIb p2 (.inr (.inr (.inr (.inr (.inr (.inl rfl)))))))
        have x3 := cell_fr hcell hf3 ng
        have hng : ρ' ≠ some g := fun e => hr3.elim (fun e2 => HR.out.ne (e2 ▸ e)) (fun ⟨b, e2, h2⟩ => by rw [e2] at e; injection e with e; omega)
        have hxl : (gro (edl l) (2 * l.length) N S c k).1.length ≤ 1024 := Nat.le_trans (gro_short hc k) hnb
        have HEX := Lib.hid (extend_any HGF.out gr4 (v := x) (g0 := g) (c0 := cc) hxN hxl hgB (Nat.le_trans HR.out.wb hf3.size) ow4)
        rw [HM.out] at HEX
        have HF3 := Lib.hid hf3
        have HJ3 := Lib.hid hJ3
        have HNG := Lib.hid hng
        clear gr4 ow4 hf3 hJ3 hng nIb ng hcell hr3
        gi_wp2
        gi_region_with (refine ⟨trivial, ?_⟩; gi_at_call 38; refine (callsIn_wide.2 HEX.out).mono ?_; rintro e w5 ⟨g5, c5, rfl, hd5⟩; have HD5 := Lib.hid hd5; clear hd5)
        all_goals
          gi_wp2
          have f5 : Fr (fun j => j = bs ∨ j = g) W3 w5 := ((Fr.refl _ W3).drew).trans HD5.out.fr
          have hge : g5 = g ∨ W3.heap.size ≤ g5 := HD5.out.ge
          have hm := HM.out
          refine ⟨⟨k + 1, g5, c5, _, ρ', rfl, by simp, ?_, ?_⟩, by simp [intOf]; omega⟩
          · show _ = _
            rw [HGO.out]
            simp
          · refine ⟨?_, ?_, ?_, ?_, ?_, ?_, ?_, ?_⟩
            · rw [HGO.out, List.length_append]; omega
            · rw [HGO.out]; exact HD5.out.ow
            · rw [HGO.out]; exact HD5.out.gr
            · rw [HS.out]; exact HJ.out _ _ _ _ g HJ3.out hgB HNG.out f5
            · intro e
              rcases hge with e2 | e2
              · exact HNG.out (e2 ▸ e)
              · have := (HRO.out _ _ _ _ HJ3.out e).1
                omega
            · exact cell_fr x1 f5 (fun e => e.elim q1 (fun e => by have := hp.1; simp at e; omega))
            · exact cell_fr x2 f5 (fun e => e.elim q2 (fun e => by have := hp.2.1; simp at e; omega))
            · exact Nat.le_trans (Nat.le_trans HR.out.wb HF3.out.size) f5.size
      · gi_wp2
        refine bodyPost_ret (results_none rfl _ _ _) rfl ?_
        exact ⟨⟨_, rfl⟩, .inr ⟨_, HPRE.out, hJx3⟩⟩
    · have hk' : ¬ (k : Int) < m := by omega
      gi_wp2
      go_end0
      obtain ⟨hw, hg⟩ := came_all (E := edl l) (M := 2 * l.length) (S := S) hc HR.out.le (by rw [HM.out]; exact hk)
      refine ⟨⟨_, rfl⟩, .inl ⟨⟨ρ, ?_⟩, ?_⟩⟩
      · rw [← hw]; exact HR.out.j
      · rw [← hg]; exact HR.out.gr
end Go.Proofs.Ytpgadcacimjlaaa
