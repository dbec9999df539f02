/-
  Contract of (*Net).put.
-/
import Derived.Test.YtfhlfklgngpklaaLk
namespace Go.Proofs.Ytfhlfklgngpklaa
open Go.RowKit Go.Maps
theorem info9 : ∃ i, Try.prog.info? 9 = some i ∧ i.zero = some (.string ⟨#[]⟩) ∧ i.size = 1 ∧ i.bytes = 16 := by
  have h : (Try.prog.info? 9).map (fun i => (i.zero, i.size, i.bytes)) = some (some (.string ⟨#[]⟩), 1, 16) := by kernel_rfl
  cases hi : Try.prog.info? 9 with
  | none => rw [hi] at h; cases h
  | some i => rw [hi] at h; simp at h; exact ⟨i, rfl, h.1, h.2.1, h.2.2⟩
theorem strs_one (l : List ByteArray) : ∀ u ∈ strs l, u.oneCell' = true := by
  intro u hu
  obtain ⟨x, _, rfl⟩ := List.mem_map.1 hu
  rfl
theorem wp_app9 {o : Oper} {a : Act} {w : World} {K : Act → World → Prop} {Q : Exit → Act → World → Prop}
    (s x : Operand) (hop : o.op = Op.call { callee := Callee.builtin Builtin.append, args := #[s, x], argTypes := #[43, 43] })
    (v : Value) (l : List ByteArray) (hs : a.eval s = v) (hown : w.ownsRow 0 9 1 v l.length (strs l))
    (b : Nat) (t : ByteArray) (hx : a.eval x = .slice (some ⟨b, 0, none⟩) 1 1) (hb : w.cell? ⟨b, 0, none⟩ = some (.string t)) (hl : l.length ≤ 4096)
    (hK : ∀ v' w', w'.ownsRow 0 9 1 v' (l ++ [t]).length (strs (l ++ [t])) → w.grownBy w' v.ownBlock → (v'.ownBlock = v.ownBlock ∨ v'.ownBlock = some w.heap.size) → K (a.put o.dst v') w') : Oper.wp Try.prog o a w K Q := by
  obtain ⟨i, h1, h2, h3, h4⟩ := info9
  obtain ⟨v', w', hrun, r1, r2, _, r4⟩ := run_append_own_at (P := Try.prog) w 0 43 o.type 9 i _ 1 16 Try.underlying43 h1 h2 h3 h4 rfl (by decide) v l.length (strs l) hown ⟨b, 0, none⟩ 1 1 (strs [t]) (by rw [strs_len]; rfl)
    (fun j u hu => by
      match j, hu with
      | 0, hu =>
        have e : u = .string t := by simp [strs] at hu; exact hu.symm
        rw [e]
        exact hb) (strs_one _) (by unfold maxLen; omega) (by omega) (Nat.zero_le _)
  unfold Oper.wp
  simp [execOp, hop, resolve, invoke, builtin, hs, hx, hrun, Result.andThen]
  refine hK v' w' ?_ r2 r4
  rw [strs_append, List.length_append]
  exact r1
theorem grown_cell {w w' : World} {r : Option Nat} (g : w.grownBy w' r) {p : Addr} (hp : p.block < w.heap.size) (hne : r ≠ some p.block) : w'.cell? p = w.cell? p := by
  have e := g.block p.block hp (fun e => hne e.symm)
  simp only [World.cell?, e]
theorem at3 {W w3 : World} {r : Option Nat} {o : Obj} {p : Addr} {u : Value} (hg : ((W.alloc o).drew).grownBy w3 r) (hc : W.cell? p = some u) (hp : p.block < W.heap.size) (hne : r ≠ some p.block) : w3.cell? p = some u := by
  rw [grown_cell hg (by show p.block < (W.alloc o).heap.size; simp; omega) hne]
  have hb : Below W.heap.size W (W.alloc o) := (Below.refl _ _).alloc (Nat.le_refl _) _
  exact (hb.cell hp).trans hc
section
variable {w : World} {n : Nat} {P : Nat → Prop} {S : NS} {db mb : Nat} {tv : Value} {sv : Pr → Value} {D : DataW Unit} {k : Nat}
theorem NTx.svn (h : NTx w n P S db mb tv sv D k) {p : Pr} (hp : In S.N p) : (sv p).ownBlock ≠ some n := fun e => by
  rcases (h.row p hp).2 with ⟨e2, _⟩ | ⟨g, cap, cur, e2, h2, h3, h4⟩
  · rw [e2] at e; cases e
  · rw [e2] at e
    injection e with e
    have hn := h.hn
    rw [← e] at hn
    rw [h3] at hn
    injection hn with hn
    injection hn with _ hn _
    exact absurd hn (by decide)
theorem put_core {W w3 : World} {o : Obj} (h : NTx W n P S db mb tv sv D k) {p : Pr} (hp : In S.N p) {s : ByteArray} {v' : Value} (hg : ((W.alloc o).drew).grownBy w3 (sv p).ownBlock)
    (ho : w3.ownsRow 0 9 1 v' (S.bg p ++ [s]).length (strs (S.bg p ++ [s]))) (hv : v'.ownBlock = (sv p).ownBlock ∨ v'.ownBlock = some ((W.alloc o).drew).heap.size) (hl : (S.bg p).length ≠ 4096) (hs : s.size ≤ 262144) :
    ∃ w4, (Instr.mapUpdate 57 (.map (some mb)) (.agg #[.int .i64 p.a, .int .i64 p.b]) v').run Try.prog w3 = .ok () w4 ∧ To W w4 n P (S.set p (S.bg p ++ [s])) := by
  have hg : (W.alloc o).grownBy w3 (sv p).ownBlock := ⟨hg.os, hg.tape, hg.output, hg.size, hg.block⟩
  have hv : v'.ownBlock = (sv p).ownBlock ∨ v'.ownBlock = some (W.alloc o).heap.size := hv
  have hz : W.heap.size ≤ w3.heap.size := Nat.le_trans (by simp) hg.size
  have hb : ∀ j, P j → (sv p).ownBlock ≠ some j → w3.heap[j]? = W.heap[j]? := fun j hj hjs => by
    have hlt := h.lt j hj
    rw [hg.block j (by simp; omega) (fun e => hjs e.symm)]
    exact Below.heap_alloc _ _ j hlt
  have hv' : ∀ j, v'.ownBlock = some j → (sv p).ownBlock = some j ∨ W.heap.size ≤ j := fun j e => by
    rcases hv with h1 | h1
    · exact Or.inl (by rw [← h1, e])
    · right
      rw [h1] at e
      injection e with e
      rw [← e]
      simp
  obtain ⟨w4, r1, r2, D', k', r3⟩ := h.store hp hz hb ho hv' (by simp) (by have := (h.short p hp).1; simp; omega) (fun t ht => by
    rcases List.mem_append.1 ht with ht | ht
    · exact (h.short p hp).2 t ht
    · simp at ht
      rw [ht]
      exact hs)
  refine ⟨w4, r1, _, ⟨_, _, _, _, _, _, r3⟩, fun b e => ?_, ?_⟩
  · rcases e with e | e
    · exact Or.inl e
    · rcases hv' b e with h1 | h1
      · exact Or.inl (h.os p b hp h1)
      · exact Or.inr h1
  · have f1 : Fr P W (W.alloc o) := Fr.of ((Below.refl _ _).alloc (Nat.le_refl _) _)
    have f2 := f1.grown hg (fun k e => Or.inl (h.os p k hp e))
    exact f2.grown r2 (fun k e => Or.inl (by injection e with e; rw [← e]; exact h.om))
/-- What put answers and leaves. -/
def putE (S : NS) (p : Pr) : Int := if (S.bg p).length = 4096 then 2 else 0
def putS (S : NS) (p : Pr) (s : ByteArray) : NS := if (S.bg p).length = 4096 then S else S.set p (S.bg p ++ [s])
set_option maxRecDepth 100000 in
set_option maxHeartbeats 1600000 in
theorem put_any (h : NTx w n P S db mb tv sv D k) (p : Pr) (hp : In S.N p) (s : ByteArray) (hs : s.size ≤ 262144) :
    Calls Try.prog 39 #[.pointer (some ⟨n, 0, none⟩), .agg #[.int .i64 p.a, .int .i64 p.b], .string s] w fun e w' => e = .returned (.int .i64 (putE S p)) ∧ To w w' n P (putS S p s) := by
  have hb1 : Below w.heap.size w (w.alloc (.cells #[.int .i64 p.a, .int .i64 p.b] 64)) := (Below.refl _ _).alloc (Nat.le_refl _) _
  have h1 := h.on_ hb1
  have hb2 : Below w.heap.size w (w.alloc (.cells #[.int .i64 p.a, .int .i64 p.b] 64)).drew := hb1.drew
  have h2 := h1.keep (w' := (w.alloc (.cells #[.int .i64 p.a, .int .i64 p.b] 64)).drew) (Nat.le_refl _) (fun _ _ _ => rfl)
  have HB2 := Lib.hid hb2
  have q := h2.look hp
  have hy := boxed w (.int .i64 p.a) (.int .i64 p.b)
  have hf := row_form (h1.row p hp)
  have hrow := h2.row p hp
  obtain ⟨⟨c0, c1, c2, c3⟩, -⟩ := cells4 h1.hn
  have hcore := Lib.hid (fun w3 o v' => put_core (w3 := w3) (o := o) (v' := v') (s := s) h2 hp)
  have hsvn := Lib.hid (h.svn hp)
  have hsvb : (sv p).ownBlock ≠ some w.heap.size := fun e => by have := h.lt _ (h.os p _ hp e); omega
  have HSB := Lib.hid hsvb
  have hlt := lt_of_block h2.hn
  have HLT := Lib.hid hlt
  have HS := Lib.hid hs
  have HC1 : Hid ((w.alloc (.cells #[.int .i64 p.a, .int .i64 p.b] 64)).drew.cell? ⟨n, 1, none⟩ = some (.map (some mb))) := Lib.hid c1
  have HY0 : Hid ((w.alloc (.cells #[.int .i64 p.a, .int .i64 p.b] 64)).drew.cell? ⟨w.heap.size, 0, none⟩ = some (.int .i64 p.a)) := Lib.hid hy.1
  have HY1 : Hid ((w.alloc (.cells #[.int .i64 p.a, .int .i64 p.b] 64)).drew.cell? ⟨w.heap.size, 1, none⟩ = some (.int .i64 p.b)) := Lib.hid hy.2
  have HYL : Hid (w.heap.size < (w.alloc (.cells #[.int .i64 p.a, .int .i64 p.b] 64)).drew.heap.size) := Lib.hid (by show w.heap.size < (w.alloc _).heap.size; simp)
  obtain ⟨y0, y1⟩ := hy
  unfold putE putS
  by_cases hfull : (S.bg p).length = 4096
  · rw [if_pos hfull, if_pos hfull]
    rw [hfull] at hf
    rcases hf with ⟨hv, hl0⟩ | ⟨g, c, hv, hc1, hc2, hg, hcs⟩
    · rw [hl0] at hfull
      cases hfull
    · rw [hv] at q
      have HT := Lib.hid (NT.to (⟨_, _, _, _, _, _, h⟩ : NT w n P S) hb2)
      clear h h1 h2 hb1 hb2 hrow hcore hsvn hsvb hlt HSB HLT HS hs HB2 hcs hv hg c0 c2 c3 HC1 HY0 HY1 HYL
      go_enter Try.func39, Try.ntmps39
      go_wp2_with fail
      go_region
      go_wp2_with fail
      go_ret
      exact ⟨rfl, HT.out⟩
  · rw [if_neg hfull, if_neg hfull]
    have hsh := (h.short p hp).1
    generalize hls : S.bg p = l at *
    have HLS := Lib.hid hls
    have HROW := Lib.hid hrow
    have HFU := Lib.hid hfull
    have hfull' : ¬ ((l.length : Int) = 4096) := by omega
    clear h h1 h2 hb1 hb2 hrow hsvb hlt hs c0 c2 c3 hls hp
    rcases hf with ⟨hv, hl0⟩ | ⟨g, c, hv, hc1, hc2, hg, hcs⟩
    · rw [hv] at q HROW HSB hcore hsvn
      subst hl0
      clear hv
      go_enter Try.func39, Try.ntmps39
      go_wp2_with fail
      go_region
      go_wp2_with fail
      clear c1 y0 y1 q
      generalize (w.alloc (.cells #[.int .i64 p.a, .int .i64 p.b] 64)).drew = W at *
      generalize hBQ : w.heap.size = B at *
      have HBQ := Lib.hid hBQ
      clear hBQ
      have c1 := HC1.out
      have y0 := HY0.out
      have y1 := HY1.out
      have hBW := HYL.out
      have hnW := HLT.out
      go_region_law (rw [if_pos (by rfl)]; refine wp_app9 (.tmp 22) (.tmp 24) rfl _ [] rfl (HROW.out.alloc _) W.heap.size s rfl ((cell_of_row (W.alloc (.cells #[.string s] 9)) W.heap.size 0 _ _ _ (heap_top _ _)).trans rfl) (by decide) ?_; intro v3 w3 ho3 hg3 hv3; obtain ⟨w4, hup, hT⟩ := hcore.out w3 _ v3 hg3 ho3 hv3 HFU.out HS.out; have HT := Lib.hid hT; have x1 := at3 hg3 HC1.out HLT.out hsvn.out; have x2 := at3 hg3 HY0.out HYL.out HSB.out; have x3 := at3 hg3 HY1.out HYL.out HSB.out; clear hT ho3 hg3 hv3)
      all_goals
        go_wp2_with fail
        go_ret
        exact ⟨rfl, HT.out.before (by rw [HBQ.out]; exact HB2.out)⟩
    · rw [hv] at q HROW HSB hcore hsvn
      clear hcs hv
      go_enter Try.func39, Try.ntmps39
      go_wp2_with fail
      go_region
      go_wp2_with fail
      clear c1 y0 y1 q
      generalize (w.alloc (.cells #[.int .i64 p.a, .int .i64 p.b] 64)).drew = W at *
      generalize hBQ : w.heap.size = B at *
      have HBQ := Lib.hid hBQ
      clear hBQ
      have c1 := HC1.out
      have y0 := HY0.out
      have y1 := HY1.out
      have hBW := HYL.out
      have hnW := HLT.out
      go_region_law (rw [if_pos (by rfl)]; refine wp_app9 (.tmp 22) (.tmp 24) rfl _ l rfl (HROW.out.alloc _) W.heap.size s rfl ((cell_of_row (W.alloc (.cells #[.string s] 9)) W.heap.size 0 _ _ _ (heap_top _ _)).trans rfl) (by omega) ?_; intro v3 w3 ho3 hg3 hv3; obtain ⟨w4, hup, hT⟩ := hcore.out w3 _ v3 hg3 ho3 hv3 HFU.out HS.out; have HT := Lib.hid hT; have x1 := at3 hg3 HC1.out HLT.out hsvn.out; have x2 := at3 hg3 HY0.out HYL.out HSB.out; have x3 := at3 hg3 HY1.out HYL.out HSB.out; clear hT ho3 hg3 hv3)
      all_goals
        go_wp2_with fail
        go_ret
        exact ⟨rfl, HT.out.before (by rw [HBQ.out]; exact HB2.out)⟩
end
end Go.Proofs.Ytfhlfklgngpklaa
