/-
  The contract of joining.takeOut. What holds while labels are put together. The contract of split.choose. The contract of joining.offer. The contract of joining.offer. A joining in memory, and the contract of joining.offer. append of a link where there is room; a row of links that is gone over and filled anew.
-/
import Derived.Test.YtchfccbneedejaaZAC
import Derived.Test.YtchfccbneedejaaZAJ
import Derived.Test.YtchfccbneedejaaZAF
import Derived.Test.YtchfccbneedejaaZAB
import Derived.Test.YtchfccbneedejaaZAA
import Derived.Deep.RegionLaw
import Derived.Laws.Tables
import Derived.BigRegion
import Derived.Deep.DeepMust
namespace Go.Proofs.Ytchfccbneedejaa
open Go.RowKit
theorem sz_count {L : List Nat} (h : tdy (ints L) 0 = true) (lb : Nat) : ∀ k, k ≤ L.length → (szL (ints (L.take k))).getD lb 0 = (L.take k).count lb
  | 0, _ => by simp [szL, ints]
  | k + 1, hk => by
    have hk' : k < L.length := by omega
    have ih := sz_count h lb k (by omega)
    have h1 := right_next h k (by rw [ints_len]; exact hk')
    rw [ints_getD hk', Int.toNat_natCast, ints_take] at h1
    have e0 : L.take (k + 1) = L.take k ++ [L.getD k 0] := by rw [List.take_succ_eq_append_getElem hk']; simp [List.getD, List.getElem?_eq_getElem hk']
    have e : ints (L.take (k + 1)) = ints (L.take k) ++ [((L.getD k 0 : Nat) : Int)] := by rw [e0, ints_snoc]
    rw [e, szL_snoc, Int.toNat_natCast, szS_at h1.2, ih, e0, List.count_append]
    congr 1
    by_cases e2 : lb = L.getD k 0
    · rw [if_pos e2, e2]; simp
    · rw [if_neg e2, List.count_singleton]
      have : (L.getD k 0 == lb) = false := by simp only [beq_eq_false_iff_ne]; exact fun e => e2 e.symm
      rw [this]; rfl
theorem sz_cnt {L : List Nat} (h : tdy (ints L) 0 = true) (lb : Nat) : (szL (ints L)).getD lb 0 = L.count lb := by
  have h1 := sz_count h lb L.length (Nat.le_refl _)
  rw [List.take_length] at h1
  exact h1
theorem right_sz {L : List Nat} (h : tdy (ints L) 0 = true) : SzOk L (szL (ints L)) := fun a ha => by
  have h1 := sz_cnt h a
  have h2 := List.count_pos_iff.2 ha
  refine ⟨?_, h1⟩
  rcases Nat.lt_or_ge a (szL (ints L)).length with h3 | h3
  · exact h3
  · rw [getD_out h3] at h1
    omega
theorem hit_sum {L : List Nat} (p : Pr) : ∀ {O : List K}, O.Pairwise (fun x y => ¬ (x.a = y.a ∧ x.b = y.b)) → (∀ x, x ∈ O → x.a < x.b) → (O.map (fun x => if hitB L x.a x.b p = true then 1 else 0)).sum ≤ 1
  | [], _, _ => by simp
  | x :: r, ho, hl => by
    rw [List.pairwise_cons] at ho
    have ih := hit_sum (L := L) p ho.2 (fun y hy => hl y (List.mem_cons_of_mem _ hy))
    rw [List.map_cons, List.sum_cons]
    by_cases h : hitB L x.a x.b p = true
    · have : (r.map (fun x => if hitB L x.a x.b p = true then 1 else 0)).sum = 0 := by
        have key : ∀ q : List K, (∀ y, y ∈ q → ¬ hitB L y.a y.b p = true) → (q.map (fun x => if hitB L x.a x.b p = true then 1 else 0)).sum = 0 := fun q => by
          induction q with
          | nil => intro _; rfl
          | cons y s ih2 => intro h2; rw [List.map_cons, List.sum_cons, if_neg (h2 y List.mem_cons_self), ih2 (fun z hz => h2 z (List.mem_cons_of_mem _ hz))]
        refine key r (fun y hy hh => ?_)
        have h1 := (hit_iff L x.a x.b p (hl x List.mem_cons_self)).1 h
        have h2 := (hit_iff L y.a y.b p (hl y (List.mem_cons_of_mem _ hy))).1 hh
        exact ho.1 y hy (by omega)
      rw [if_pos h, this]
      exact Nat.le_refl _
    · rw [if_neg h]; omega
theorem bw_sum {L : List Nat} {O : List K} (ho : O.Pairwise (fun x y => ¬ (x.a = y.a ∧ x.b = y.b))) (hl : ∀ x, x ∈ O → x.a < x.b) : ∀ P : List Pr, (O.map (fun x => bw P L x.a x.b)).sum ≤ P.length
  | [] => by
    have : ∀ q : List K, (q.map (fun x => bw [] L x.a x.b)).sum = 0 := fun q => by
      induction q with
      | nil => rfl
      | cons y s ih => rw [List.map_cons, List.sum_cons, ih]; rfl
    rw [this]; exact Nat.zero_le _
  | p :: P => by
    have ih := bw_sum (L := L) ho hl P
    have h1 := hit_sum (L := L) p ho hl
    have e : ∀ q : List K, (q.map (fun x => bw (p :: P) L x.a x.b)).sum = (q.map (fun x => bw P L x.a x.b)).sum + (q.map (fun x => if hitB L x.a x.b p = true then 1 else 0)).sum := fun q => by
      induction q with
      | nil => rfl
      | cons y s ih2 =>
        simp only [List.map_cons, List.sum_cons]
        have : bw (p :: P) L y.a y.b = bw P L y.a y.b + if hitB L y.a y.b p = true then 1 else 0 := by unfold bw; rw [List.countP_cons]
        omega
    rw [e, List.length_cons]
    omega
theorem Opn.len {P : List Pr} {L : List Nat} {B : Nat} {O : List K} (h : Opn P L B O) : O.length ≤ P.length := by
  refine Nat.le_trans ?_ (bw_sum (L := L) h.one (fun x hx => (h.fit x hx).1.1) P)
  have : ∀ q : List K, (∀ x, x ∈ q → 0 < bw P L x.a x.b) → q.length ≤ (q.map (fun x => bw P L x.a x.b)).sum := fun q => by
    induction q with
    | nil => intro _; simp
    | cons y s ih =>
      intro h2
      have h3 := ih (fun x hx => h2 x (List.mem_cons_of_mem _ hx))
      have h4 := h2 y List.mem_cons_self
      rw [List.map_cons, List.sum_cons, List.length_cons]
      omega
  exact this O (fun x hx => (h.fit x hx).1.2.1)
theorem sum_mrg {a b : Nat} (h : a < b) : ∀ {L : List Nat}, (mrg L a b).sum ≤ L.sum ∧ (b ∈ L → (mrg L a b).sum < L.sum)
  | [] => ⟨Nat.le_refl _, fun h => by cases h⟩
  | x :: r => by
    obtain ⟨h1, h2⟩ := sum_mrg h (L := r)
    have e : (mrg (x :: r) a b).sum = (if x = b then a else x) + (mrg r a b).sum := by show (_ :: mrg r a b).sum = _; rw [List.sum_cons]
    rw [e, List.sum_cons]
    refine ⟨by split <;> omega, fun hb => ?_⟩
    rcases List.mem_cons.1 hb with rfl | hb
    · rw [if_pos rfl]; omega
    · have := h2 hb
      split <;> omega
/-- What holds while labels are put together. -/
structure JI (P : List Pr) (B : Nat) (L0 L S : List Nat) (O : List K) : Prop where
  len : L.length = L0.length
  opn : Opn P L B O
  sz : SzOk L S
  bnd : ∀ j, S.getD j 0 ≤ 1024
  on : ∀ E, Jn P B L E → Jn P B L0 E
theorem count_two {L : List Nat} {a b : Nat} (h : a ≠ b) : L.count a + L.count b ≤ L.length := by
  have h1 := (count_mrg (L := L) h).1
  have h2 := List.count_le_length (a := a) (l := mrg L a b)
  rw [mrg_len] at h2
  omega
theorem JI.pick {P : List Pr} {B : Nat} {L0 L S : List Nat} {O : List K} (h : JI P B L0 L S O) (hP : PIn P L0.length) (hn : L0.length ≤ 1024) (h0 : 0 < O.length) :
    let l := pickK O (O.length - 1)
    l.a < S.length ∧ l.b < S.length ∧ (∀ j, (S.set l.a (S.getD l.a 0 + S.getD l.b 0)).getD j 0 ≤ 1024) ∧ S.getD l.a 0 + S.getD l.b 0 ≤ 1024 ∧ (mrg L l.a l.b).sum < L.sum ∧ JI P B L0 (mrg L l.a l.b) (S.set l.a (S.getD l.a 0 + S.getD l.b 0)) (oth l O ++ nwK l B (S.set l.a (S.getD l.a 0 + S.getD l.b 0)) O S.length) := by
  intro l
  have hPL : PIn P L.length := by rw [h.len]; exact hP
  obtain ⟨h1, h2⟩ := h.opn.pick h0
  have h1 : l ∈ O := h1
  have h2 : Bst P L B l.a l.b := h2
  obtain ⟨ma, mb⟩ := h2.1.mem hPL
  have hlt := h2.1.1
  obtain ⟨a1, a2⟩ := h.sz _ ma
  obtain ⟨b1, b2⟩ := h.sz _ mb
  have hs : S.getD l.a 0 + S.getD l.b 0 ≤ 1024 := by
    rw [a2, b2]
    have := count_two (L := L) (show l.a ≠ l.b by omega)
    have := h.len
    omega
  have hb : ∀ j, (S.set l.a (S.getD l.a 0 + S.getD l.b 0)).getD j 0 ≤ 1024 := fun j => by
    rw [getD_setN a1]
    split
    · exact hs
    · exact h.bnd j
  exact ⟨a1, b1, hb, hs, (sum_mrg hlt).2 mb, ⟨by rw [mrg_len]; exact h.len, h.opn.next hPL h.sz h1, h.sz.mrgE (by omega) ma mb, hb, fun E hE => h.on E (.step h2 hE)⟩⟩
theorem JI.in {P : List Pr} {B : Nat} {L0 L S : List Nat} {O : List K} (h : JI P B L0 L S O) (hP : PIn P L0.length) (hP2 : P.length ≤ 8192) : ∀ m, m ∈ O → m.a < S.length ∧ m.b < S.length ∧ m.n ≤ 100000 := fun m hm => by
  obtain ⟨h1, h2⟩ := h.opn.fit m hm
  obtain ⟨m1, m2⟩ := h1.mem (by rw [h.len]; exact hP)
  have := bw_le P L m.a m.b
  exact ⟨(h.sz _ m1).1, (h.sz _ m2).1, by omega⟩
theorem JI.end {P : List Pr} {B : Nat} {L0 L S : List Nat} {O : List K} (h : JI P B L0 L S O) (h0 : O.length = 0) : Jn P B L0 L := by
  have e := List.eq_nil_of_length_eq_zero h0
  have h1 := h.opn
  rw [e] at h1
  exact h.on L (.stop h1.none)
theorem JI.start {P : List Pr} {B : Nat} {L : List Nat} {l : List K} (hT : tdy (ints L) 0 = true) (hn : L.length ≤ 1024) (hP : PIn P L.length) (h : Lks P L l) : JI P B L L (szL (ints L)) (fits (szL (ints L)) B l) :=
  ⟨rfl, h.opn hP (right_sz hT) B, right_sz hT, fun j => by rw [sz_cnt hT]; exact Nat.le_trans List.count_le_length hn, fun _ hE => hE⟩
/-- The pairs of a right graph are pairs of its vertices. -/
theorem prl_in {n : Nat} {l : List A} (hC : chkE n l = 0) : PIn (prl l) n := fun p hp => by
  obtain ⟨_, _, _, h4⟩ := chk_zero hC
  obtain ⟨h1, h2⟩ := (prl_mem (fun x hx => ⟨(h4 x hx).1.1, (h4 x hx).2.1⟩)).1 hp
  unfold nr at h2
  rw [List.any_eq_true] at h2
  obtain ⟨x, hx, h3⟩ := h2
  have h5 := h4 x hx
  simp only [Bool.or_eq_true, Bool.and_eq_true, beq_iff_eq] at h3
  omega
theorem szL_pos {L : List Nat} (hT : tdy (ints L) 0 = true) (h : 0 < L.length) : 0 < (szL (ints L)).length := by
  have := (right_sz hT _ (by rw [getD_in h]; exact List.getElem_mem h : L.getD 0 0 ∈ L)).1
  omega
end Go.Proofs.Ytchfccbneedejaa
namespace Go.Proofs.Ytchfccbneedejaa
open Go.RowKit
theorem K.at.on {x : K} {w w' : World} {b o n : Nat} (h : x.at w b o) (hb : Below n w w') (hn : b < n) : x.at w' b o :=
  ⟨(hb.cell (p := ⟨b, o, none⟩) hn).trans h.1, (hb.cell (p := ⟨b, o + 1, none⟩) hn).trans h.2.1, (hb.cell (p := ⟨b, o + 2, none⟩) hn).trans h.2.2⟩
set_option maxRecDepth 100000 in
set_option maxHeartbeats 1600000 in
theorem choose_any (lb c rb : Nat) (l : List K) (w : World) (hn : 0 < l.length) (hm : l.length ≤ 1000000) (hlb : lb < w.heap.size) (hl : ∀ j, j < l.length → (l.getD j K.zero).at w lb (j * 3)) (hrl : rb < w.heap.size) (hr : ∀ k, k < 3 → w.cell? ⟨rb, k, none⟩ = some (ruleV k)) :
    Calls Try.prog 40 #[.slice (some ⟨lb, 0, none⟩) l.length c, .slice (some ⟨rb, 0, none⟩) 3 3] w fun e w' => e = .returned (pickK l (l.length - 1)).val ∧ Below w.heap.size w w' := by
  have hb := two_below w (Obj.cells #[Value.slice (some ⟨rb, 0, none⟩) 3 3] 81) (Obj.cells #[Value.int IntKind.i64 0, Value.int IntKind.i64 0, Value.int IntKind.i64 0] 60)
  have hg1 : ((w.alloc (Obj.cells #[Value.slice (some ⟨rb, 0, none⟩) 3 3] 81)).alloc (Obj.cells #[Value.int IntKind.i64 0, Value.int IntKind.i64 0, Value.int IntKind.i64 0] 60)).heap[w.heap.size + 1]? = some (Obj.cells #[Value.int IntKind.i64 0, Value.int IntKind.i64 0, Value.int IntKind.i64 0] 60) := by
    have h := heap_top (w.alloc (Obj.cells #[Value.slice (some ⟨rb, 0, none⟩) 3 3] 81)) (Obj.cells #[Value.int IntKind.i64 0, Value.int IntKind.i64 0, Value.int IntKind.i64 0] 60)
    rw [World.size_alloc] at h
    exact h
  have hg0 : ((w.alloc (Obj.cells #[Value.slice (some ⟨rb, 0, none⟩) 3 3] 81)).alloc (Obj.cells #[Value.int IntKind.i64 0, Value.int IntKind.i64 0, Value.int IntKind.i64 0] 60)).heap[w.heap.size]? = some (Obj.cells #[Value.slice (some ⟨rb, 0, none⟩) 3 3] 81) := (Below.heap_alloc _ _ _ (by simp)).trans (heap_top w _)
  have hsz : w.heap.size + 1 < ((w.alloc (Obj.cells #[Value.slice (some ⟨rb, 0, none⟩) 3 3] 81)).alloc (Obj.cells #[Value.int IntKind.i64 0, Value.int IntKind.i64 0, Value.int IntKind.i64 0] 60)).heap.size := lt_of_block hg1
  have HMF := Lib.hid (minF_any lb c w.heap.size rb l ((w.alloc (Obj.cells #[Value.slice (some ⟨rb, 0, none⟩) 3 3] 81)).alloc (Obj.cells #[Value.int IntKind.i64 0, Value.int IntKind.i64 0, Value.int IntKind.i64 0] 60)) hn hm (by omega) (fun j hj => (hl j hj).on hb hlb) (by simp [World.cell?, hg0]) (by omega) (by omega) (fun k hk => (hb.cell (p := ⟨rb, k, none⟩) hrl).trans (hr k hk)))
  obtain ⟨R, HR⟩ := named (pickK l (l.length - 1))
  rw [HR.out] at HMF ⊢
  have HRV : Hid (R.val = .agg #[.int .i64 (R.a : Int), .int .i64 (R.b : Int), .int .i64 (R.n : Int)]) := rfl
  rw [HRV.out] at HMF ⊢
  have HB := Lib.hid hb
  have HG1 := Lib.hid hg1
  clear hb hg0 hg1 hl hr
  generalize hp : w.heap.size = p at *
  go_enter Try.func40, Try.ntmps40
  go_wp2_with fail
  generalize hW : (w.alloc (Obj.cells #[Value.slice (some ⟨rb, 0, none⟩) 3 3] 81)).alloc (Obj.cells #[Value.int IntKind.i64 0, Value.int IntKind.i64 0, Value.int IntKind.i64 0] 60) = W at *
  clear hW
  refine HMF.out.mono ?_
  rintro e w2 ⟨rfl, hb2⟩
  have HB2 : Hid (Below p w w2) := HB.out.trans (hb2.mono (by omega))
  have hg2 := (hb2.block (p + 1) hsz).trans HG1.out
  have HG2 := Lib.hid hg2
  have q0 : w2.frozen? ⟨p + 1, 0, none⟩ = false := by simp [World.frozen?, hg2]
  have q1 : w2.frozen? ⟨p + 1, 1, none⟩ = false := by simp [World.frozen?, hg2]
  have q2 : w2.frozen? ⟨p + 1, 2, none⟩ = false := by simp [World.frozen?, hg2]
  obtain ⟨r0, r1, r2⟩ := three_cells hg2
  have HGE := Lib.hid (three_set hg2 (.int .i64 (R.a : Int)) (.int .i64 (R.b : Int)) (.int .i64 (R.n : Int)))
  have HBE := Lib.hid (three_below HB2.out (show p ≤ p + 1 by omega) (.int .i64 (R.a : Int)) (.int .i64 (R.b : Int)) (.int .i64 (R.n : Int)))
  clear hb2 hg2 HMF
  go_wp2_with fail
  generalize hU : ((w2.setCell ⟨p + 1, 0, none⟩ (Value.int IntKind.i64 R.a)).setCell ⟨p + 1, 1, none⟩ (Value.int IntKind.i64 R.b)).setCell ⟨p + 1, 2, none⟩ (Value.int IntKind.i64 R.n) = U at *
  clear hU q0 q1 q2 r0 r1 r2
  try simp only [Exit.inBlock, Exit.then]
  refine bodyPost_ret (results_cell_row (P := Try.prog) rfl _ _ (p + 1) 60 _ _ _ rfl HGE.out Try.underlying60 rfl (by kernel_rfl)) rfl ?_
  exact ⟨rfl, HBE.out⟩
end Go.Proofs.Ytchfccbneedejaa
namespace Go.Proofs.Ytchfccbneedejaa
open Go.RowKit
theorem info60K : (Try.prog.info? 60).map (fun i => (i.zero, i.size, i.bytes)) = some (some (.agg #[.int .i64 0, .int .i64 0, .int .i64 0]), 3, 24) := by kernel_rfl
def cellsK : List K → List Value
  | [] => []
  | x :: r => .int .i64 (x.a : Int) :: .int .i64 (x.b : Int) :: .int .i64 (x.n : Int) :: cellsK r
theorem cellsK_len : ∀ l : List K, (cellsK l).length = l.length * 3
  | [] => rfl
  | x :: r => by simp only [cellsK, List.length_cons, cellsK_len r]; omega
theorem cellsK_app : ∀ l r : List K, cellsK (l ++ r) = cellsK l ++ cellsK r
  | [], r => rfl
  | x :: l, r => by simp only [List.cons_append, cellsK, cellsK_app l r]
theorem cellsK_at : ∀ (l : List K) (j : Nat), j < l.length → (cellsK l)[j * 3]? = some (.int .i64 ((l.getD j K.zero).a : Int)) ∧ (cellsK l)[j * 3 + 1]? = some (.int .i64 ((l.getD j K.zero).b : Int)) ∧ (cellsK l)[j * 3 + 2]? = some (.int .i64 ((l.getD j K.zero).n : Int))
  | [], j, h => by simp at h
  | x :: r, 0, _ => by simp [cellsK]
  | x :: r, j + 1, h => by
    have ih := cellsK_at r j (by simpa using h)
    rw [show (j + 1) * 3 = j * 3 + 3 by omega]
    simpa [cellsK] using ih
/-- Links in a row of our own. -/
def OwnK (w : World) (B : Nat) (v : Value) (l : List K) : Prop := w.ownsRow B 60 3 v l.length (cellsK l)
theorem OwnK.at {w : World} {B g c : Nat} {l : List K} (h : OwnK w B (.slice (some ⟨g, 0, none⟩) l.length c) l) (j : Nat) (hj : j < l.length) : (l.getD j K.zero).at w g (j * 3) := by
  obtain ⟨h1, h2, h3⟩ := cellsK_at l j hj
  exact ⟨(World.ownsRow.cellAt h (j * 3) (by omega)).trans h1, (World.ownsRow.cellAt h (j * 3 + 1) (by omega)).trans h2, (World.ownsRow.cellAt h (j * 3 + 2) (by omega)).trans h3⟩
end Go.Proofs.Ytchfccbneedejaa
namespace Go.Proofs.Ytchfccbneedejaa
open Go.RowKit
theorem four_cellsJ {w : World} {g : Nat} {a b c d : Value} {t : TypeId} (h : w.heap[g]? = some (.cells #[a, b, c, d] t)) : w.cell? ⟨g, 0, none⟩ = some a ∧ w.cell? ⟨g, 1, none⟩ = some b ∧ w.cell? ⟨g, 2, none⟩ = some c ∧ w.cell? ⟨g, 3, none⟩ = some d := by
  simp [World.cell?, h]
set_option maxRecDepth 100000 in
set_option maxHeartbeats 1600000 in
theorem offer_no (jb bd gs : Nat) (lv ov : Value) (S : List Nat) (cs B : Nat) (x : K) (w : World) (hg : w.heap[jb]? = some (.cells #[.int .i64 (bd : Int), lv, .slice (some ⟨gs, 0, none⟩) S.length cs, ov] 57)) (hS : w.ownsRow B 3 1 (.slice (some ⟨gs, 0, none⟩) S.length cs) S.length (cellsI (ints S))) (ha : x.a < S.length) (hb : x.b < S.length) (hs : S.getD x.a 0 + S.getD x.b 0 ≤ 100000) (hbd : bd ≤ 1024) (hno : ¬ S.getD x.a 0 + S.getD x.b 0 ≤ bd) :
    Calls Try.prog 59 #[.pointer (some ⟨jb, 0, none⟩), x.val] w fun e w' => e = .returned (.tuple #[]) ∧ Below w.heap.size w w' := by
  have hb0 : Below w.heap.size w (w.alloc (Obj.cells #[Value.int IntKind.i64 x.a, Value.int IntKind.i64 x.b, Value.int IntKind.i64 x.n] 60)) := (Below.refl _ _).alloc (Nat.le_refl _) _
  have HB0 := Lib.hid hb0
  have hg1 := (hb0.block jb (lt_of_block hg)).trans hg
  have hg2 := heap_top w (Obj.cells #[Value.int IntKind.i64 x.a, Value.int IntKind.i64 x.b, Value.int IntKind.i64 x.n] 60)
  have y0 := own_cellI (own_on hS hb0) ha
  have y1 := own_cellI (own_on hS hb0) hb
  have HXV : Hid (x.val = .agg #[.int .i64 (x.a : Int), .int .i64 (x.b : Int), .int .i64 (x.n : Int)]) := rfl
  rw [HXV.out]
  obtain ⟨j0, j1, j2, j3⟩ := four_cellsJ hg1
  obtain ⟨k0, k1, k2⟩ := three_cells hg2
  have ha' : (x.a : Int) < S.length := by omega
  have hb' : (x.b : Int) < S.length := by omega
  generalize S.getD x.a 0 = s at *
  generalize S.getD x.b 0 = t at *
  have hw : IntKind.i64.wrap ((s : Int) + (t : Int)) = (s : Int) + (t : Int) := by rw [IntKind.wrap_i64]; omega
  have hno' : ¬ (s : Int) + (t : Int) ≤ bd := by omega
  clear hb0 hg hS hg1 hg2 hno
  generalize hp : w.heap.size = p at *
  go_enter Try.func59, Try.ntmps59
  go_wp2_with fail
  generalize hW : w.alloc (Obj.cells #[Value.int IntKind.i64 x.a, Value.int IntKind.i64 x.b, Value.int IntKind.i64 x.n] 60) = W at *
  clear hW
  go_quiet (fail)
  go_wp2_with fail
  go_end0
  exact ⟨rfl, ⟨HB0.out.os, HB0.out.tape, HB0.out.output, HB0.out.size, HB0.out.block⟩⟩
end Go.Proofs.Ytchfccbneedejaa
namespace Go.Proofs.Ytchfccbneedejaa
open Go.RowKit
theorem own_frQ {w w' : World} {B : Nat} {e : TypeId} {size : Nat} {v : Value} {n : Nat} {xs : List Value} {D : Nat → Prop} (h : w.ownsRow B e size v n xs) (hf : Fr D w w') (hn : ∀ k, v.ownBlock = some k → ¬ D k) : w'.ownsRow B e size v n xs := by
  refine ⟨h.1, ?_⟩
  rcases h.2 with h' | ⟨g, c, cur, h1, h2, h3, h4⟩
  · exact .inl h'
  · exact .inr ⟨g, c, cur, h1, h2, (hf.block g (lt_of_block h3) (hn g (by rw [h1]; rfl))).trans h3, h4⟩
theorem own_block {w : World} {B : Nat} {e : TypeId} {size : Nat} {v : Value} {n : Nat} {xs : List Value} (h : w.ownsRow B e size v n xs) {k : Nat} (hk : v.ownBlock = some k) : ∃ cur, w.heap[k]? = some (.cells cur e (0, 0)) := by
  rcases h.2 with ⟨h', _⟩ | ⟨g, c, cur, h1, h2, h3, h4⟩
  · rw [h'] at hk; cases hk
  · rw [h1] at hk
    injection hk with hk
    exact ⟨cur, hk ▸ h3⟩
/-- A joining in memory. -/
structure JS (w : World) (jb B bd : Nat) (L S : List Nat) (O : List K) (lg sg lc sc : Nat) (ov : Value) : Prop where
  hd : w.heap[jb]? = some (.cells #[.int .i64 (bd : Int), .slice (some ⟨lg, 0, none⟩) L.length lc, .slice (some ⟨sg, 0, none⟩) S.length sc, ov] 57)
  lo : w.ownsRow B 3 1 (.slice (some ⟨lg, 0, none⟩) L.length lc) L.length (cellsI (ints L))
  so : w.ownsRow B 3 1 (.slice (some ⟨sg, 0, none⟩) S.length sc) S.length (cellsI (ints S))
  oo : w.ownsRow B 60 3 ov O.length (cellsK O)
  ne : lg ≠ sg
  jl : B ≤ jb
theorem JS.njl {w : World} {jb B bd : Nat} {L S : List Nat} {O : List K} {lg sg lc sc : Nat} {ov : Value} (h : JS w jb B bd L S O lg sg lc sc ov) : jb ≠ lg := by
  rintro rfl
  obtain ⟨cur, hc⟩ := own_block h.lo rfl
  have := h.hd.symm.trans hc
  injection this with this
  injection this with _ this
  cases this
theorem JS.njs {w : World} {jb B bd : Nat} {L S : List Nat} {O : List K} {lg sg lc sc : Nat} {ov : Value} (h : JS w jb B bd L S O lg sg lc sc ov) : jb ≠ sg := by
  rintro rfl
  obtain ⟨cur, hc⟩ := own_block h.so rfl
  have := h.hd.symm.trans hc
  injection this with this
  injection this with _ this
  cases this
theorem JS.njo {w : World} {jb B bd : Nat} {L S : List Nat} {O : List K} {lg sg lc sc : Nat} {ov : Value} (h : JS w jb B bd L S O lg sg lc sc ov) : ov.ownBlock ≠ some jb := by
  intro e
  obtain ⟨cur, hc⟩ := own_block h.oo e
  have := h.hd.symm.trans hc
  injection this with this
  injection this with _ this
  cases this
theorem own_types {w : World} {B B' : Nat} {e e' : TypeId} {size size' : Nat} {v v' : Value} {n n' : Nat} {xs xs' : List Value} (h : w.ownsRow B e size v n xs) (h2 : w.ownsRow B' e' size' v' n' xs') (hne : e ≠ e') {k : Nat} (hk : v.ownBlock = some k) : v'.ownBlock ≠ some k := by
  intro hk2
  obtain ⟨cur, hc⟩ := own_block h hk
  obtain ⟨cur2, hc2⟩ := own_block h2 hk2
  have := hc.symm.trans hc2
  injection this with this
  injection this with _ this
  exact hne this
theorem JS.nlo {w : World} {jb B bd : Nat} {L S : List Nat} {O : List K} {lg sg lc sc : Nat} {ov : Value} (h : JS w jb B bd L S O lg sg lc sc ov) : ov.ownBlock ≠ some lg := own_types h.lo h.oo (by decide) rfl
theorem JS.nso {w : World} {jb B bd : Nat} {L S : List Nat} {O : List K} {lg sg lc sc : Nat} {ov : Value} (h : JS w jb B bd L S O lg sg lc sc ov) : ov.ownBlock ≠ some sg := own_types h.so h.oo (by decide) rfl
theorem JS.fr {w w' : World} {jb B bd : Nat} {L S : List Nat} {O : List K} {lg sg lc sc : Nat} {ov : Value} {D : Nat → Prop} (h : JS w jb B bd L S O lg sg lc sc ov) (hf : Fr D w w') (h1 : ¬ D jb) (h2 : ¬ D lg) (h3 : ¬ D sg) (h4 : ∀ k, ov.ownBlock = some k → ¬ D k) : JS w' jb B bd L S O lg sg lc sc ov :=
  ⟨(hf.block jb (lt_of_block h.hd) h1).trans h.hd, own_frQ h.lo hf (fun k hk => by injection hk with hk; exact hk ▸ h2), own_frQ h.so hf (fun k hk => by injection hk with hk; exact hk ▸ h3), own_frQ h.oo hf h4, h.ne, h.jl⟩
theorem JS.on {w w' : World} {jb B bd : Nat} {L S : List Nat} {O : List K} {lg sg lc sc : Nat} {ov : Value} (h : JS w jb B bd L S O lg sg lc sc ov) (hb : Below w.heap.size w w') : JS w' jb B bd L S O lg sg lc sc ov :=
  h.fr (D := fun _ => False) ⟨hb.os, hb.tape, hb.output, hb.size, fun k hk _ => hb.block k hk⟩ id id id (fun _ _ => id)
theorem four_free {w : World} {g : Nat} {a b c d : Value} {t : TypeId} (h : w.heap[g]? = some (.cells #[a, b, c, d] t)) (k : Nat) : w.frozen? ⟨g, k, none⟩ = false := by
  simp [World.frozen?, h]
/-- The row of open links is another one. -/
theorem JS.open {w w3 : World} {jb B bd : Nat} {L S : List Nat} {O O3 : List K} {lg sg lc sc : Nat} {ov v3 : Value} (h : JS w jb B bd L S O lg sg lc sc ov) (hown : w3.ownsRow B 60 3 v3 O3.length (cellsK O3)) (hg : w.grownBy w3 ov.ownBlock) (hb : v3.ownBlock = ov.ownBlock ∨ v3.ownBlock = some w.heap.size) :
    JS (w3.setCell ⟨jb, 3, none⟩ v3) jb B bd L S O3 lg sg lc sc v3 ∧ Fr (fun k => k = jb ∨ ov.ownBlock = some k) w (w3.setCell ⟨jb, 3, none⟩ v3) := by
  have hf : Fr (fun k => k = jb ∨ ov.ownBlock = some k) w w3 := ⟨hg.os, hg.tape, hg.output, hg.size, fun k hk hn => hg.block k hk (fun e => hn (.inr e.symm))⟩
  have hj : jb < w.heap.size := lt_of_block h.hd
  have hd3 := (hg.block jb hj (fun e => h.njo e.symm)).trans h.hd
  have hn : v3.ownBlock ≠ some jb := by
    rcases hb with hb | hb
    · rw [hb]; exact h.njo
    · rw [hb]; intro e; injection e with e; omega
  have hs : Fr (fun k => k = jb) w3 (w3.setCell ⟨jb, 3, none⟩ v3) := (Fr.refl _ w3).setCell ⟨jb, 3, none⟩ v3 rfl
  refine ⟨⟨?_, ?_, ?_, ?_, h.ne, h.jl⟩, hf.setCell ⟨jb, 3, none⟩ v3 (.inl rfl)⟩
  · rw [heap_setCell_same w3 jb 3 _ _ _ hd3]
    simp
  · refine own_frQ (own_frQ h.lo hf (fun k hk => ?_)) hs (fun k hk => ?_)
    · injection hk with hk
      subst hk
      rintro (e | e)
      · exact h.njl e.symm
      · exact h.nlo e
    · injection hk with hk
      subst hk
      exact fun e => h.njl e.symm
  · refine own_frQ (own_frQ h.so hf (fun k hk => ?_)) hs (fun k hk => ?_)
    · injection hk with hk
      subst hk
      rintro (e | e)
      · exact h.njs e.symm
      · exact h.nso e
    · injection hk with hk
      subst hk
      exact fun e => h.njs e.symm
  · exact own_frQ hown hs (fun k hk e => hn (e ▸ hk))
def K.cells (x : K) : List Value := [.int .i64 (x.a : Int), .int .i64 (x.b : Int), .int .i64 (x.n : Int)]
theorem cellsK_snoc (l : List K) (x : K) : cellsK (l ++ [x]) = cellsK l ++ x.cells := by rw [cellsK_app]; rfl
theorem newK (w : World) (x : K) : ∀ j u, x.cells[j]? = some u → (w.alloc (.cells #[.int .i64 (x.a : Int), .int .i64 (x.b : Int), .int .i64 (x.n : Int)] 60)).cell? ((⟨w.heap.size, 0, none⟩ : Addr).add j) = some u := by
  intro j u hu
  have ht := three_cells (heap_top w (.cells #[.int .i64 (x.a : Int), .int .i64 (x.b : Int), .int .i64 (x.n : Int)] 60))
  unfold K.cells at hu
  match j, hu with
  | 0, hu => simp at hu; subst hu; exact ht.1
  | 1, hu => simp at hu; subst hu; exact ht.2.1
  | 2, hu => simp at hu; subst hu; exact ht.2.2
theorem oneK (x : K) : ∀ u ∈ x.cells, u.oneCell' = true := by
  intro u hu
  simp [K.cells] at hu
  rcases hu with rfl | rfl | rfl <;> rfl
set_option maxRecDepth 100000 in
set_option maxHeartbeats 1600000 in
theorem offer_yes (jb B bd : Nat) (L S : List Nat) (O : List K) (lg sg lc sc : Nat) (ov : Value) (x : K) (w : World) (hj : JS w jb B bd L S O lg sg lc sc ov) (ha : x.a < S.length) (hb : x.b < S.length) (hbd : bd ≤ 1024) (hO : O.length ≤ 1000000) (hB : B ≤ w.heap.size) (hyes : S.getD x.a 0 + S.getD x.b 0 ≤ bd) :
    Calls Try.prog 59 #[.pointer (some ⟨jb, 0, none⟩), x.val] w fun e w' => e = .returned (.tuple #[]) ∧ ∃ ov', JS w' jb B bd L S (O ++ [x]) lg sg lc sc ov' ∧ Fr (fun k => k = jb ∨ ov.ownBlock = some k) w w' ∧ (ov'.ownBlock = ov.ownBlock ∨ ∃ k, ov'.ownBlock = some k ∧ w.heap.size ≤ k) := by
  obtain ⟨i0, hi, hz0, hz1, hz2⟩ := info_parts info60K
  have hb0 : Below w.heap.size w (w.alloc (Obj.cells #[Value.int IntKind.i64 x.a, Value.int IntKind.i64 x.b, Value.int IntKind.i64 x.n] 60)) := (Below.refl _ _).alloc (Nat.le_refl _) _
  have HJ0 := Lib.hid (hj.on hb0)
  have HF0 : Hid (Fr (fun k => k = jb ∨ ov.ownBlock = some k) w (w.alloc (Obj.cells #[Value.int IntKind.i64 x.a, Value.int IntKind.i64 x.b, Value.int IntKind.i64 x.n] 60))) := (Fr.refl _ w).alloc _
  have hg2 := heap_top w (Obj.cells #[Value.int IntKind.i64 x.a, Value.int IntKind.i64 x.b, Value.int IntKind.i64 x.n] 60)
  have y0 := own_cellI HJ0.out.so ha
  have y1 := own_cellI HJ0.out.so hb
  have HXV : Hid (x.val = .agg #[.int .i64 (x.a : Int), .int .i64 (x.b : Int), .int .i64 (x.n : Int)]) := rfl
  rw [HXV.out]
  obtain ⟨av, cv, rfl⟩ := own_slice hj.oo
  obtain ⟨j0, j1, j2, j3⟩ := four_cellsJ HJ0.out.hd
  have f3 := four_free HJ0.out.hd 3
  obtain ⟨k0, k1, k2⟩ := three_cells hg2
  have HG2 := Lib.hid hg2
  have hjw : jb < w.heap.size := lt_of_block hj.hd
  have ha' : (x.a : Int) < S.length := by omega
  have hb' : (x.b : Int) < S.length := by omega
  generalize S.getD x.a 0 = s at *
  generalize S.getD x.b 0 = t at *
  have hw : IntKind.i64.wrap ((s : Int) + (t : Int)) = (s : Int) + (t : Int) := by rw [IntKind.wrap_i64]; omega
  have hyes' : (s : Int) + (t : Int) ≤ bd := by omega
  clear hb0 hg2 hyes hj
  have hpw : w.heap.size < (w.alloc (Obj.cells #[Value.int IntKind.i64 x.a, Value.int IntKind.i64 x.b, Value.int IntKind.i64 x.n] 60)).heap.size := by simp
  generalize hp : w.heap.size = p at *
  go_enter Try.func59, Try.ntmps59
  go_wp2_with fail
  generalize hW : w.alloc (Obj.cells #[Value.int IntKind.i64 x.a, Value.int IntKind.i64 x.b, Value.int IntKind.i64 x.n] 60) = W at *
  clear hW
  go_quiet (fail)
  go_wp2_with fail
  have HJ2 : Hid (JS (W.drewN nq).drew jb B bd L S O lg sg lc sc (.slice av O.length cv)) := HJ0.out.on ⟨rfl, rfl, rfl, Nat.le_refl _, fun _ _ => rfl⟩
  have HF2 : Hid (Fr (fun k => k = jb ∨ (Value.slice av O.length cv).ownBlock = some k) w (W.drewN nq).drew) := HF0.out.trans ⟨rfl, rfl, rfl, Nat.le_refl _, fun _ _ _ => rfl⟩
  have HG3 : Hid ((W.drewN nq).drew.heap[p]? = some (.cells #[.int .i64 (x.a : Int), .int .i64 (x.b : Int), .int .i64 (x.n : Int)] 60)) := HG2.out
  have hp2 : p < (W.drewN nq).heap.size := hpw
  clear HJ0 HF0 HG2 hpw y0 y1 j0 j1 j2 j3 f3 k0 k1 k2
  generalize W.drewN nq = W2 at *
  obtain ⟨c0, c1, c2, c3⟩ := four_cellsJ HJ2.out.hd
  have f3 := four_free HJ2.out.hd 3
  obtain ⟨b0, b1, b2⟩ := three_cells HG3.out
  simp only [World.cell?_drew, World.frozen?_drew] at c0 c1 c2 c3 f3 b0 b1 b2
  have HJ3 := Lib.hid (HJ2.out.on (show Below W2.drew.heap.size W2.drew (W2.drew.alloc (.cells #[.int .i64 (x.a : Int), .int .i64 (x.b : Int), .int .i64 (x.n : Int)] 60)) from (Below.refl _ _).alloc (Nat.le_refl _) _))
  have HF3 := Lib.hid (HF2.out.alloc (.cells #[.int .i64 (x.a : Int), .int .i64 (x.b : Int), .int .i64 (x.n : Int)] 60))
  have HOWN := Lib.hid HJ3.out.oo
  have HNW := Lib.hid (newK W2.drew x)
  have H1 := Lib.hid (oneK x)
  have HBZ : Hid (B ≤ (W2.drew.alloc (.cells #[.int .i64 (x.a : Int), .int .i64 (x.b : Int), .int .i64 (x.n : Int)] 60)).heap.size) := by show _ ≤ _; simp; omega
  have r3 : (W2.alloc (.cells #[.int .i64 (x.a : Int), .int .i64 (x.b : Int), .int .i64 (x.n : Int)] 60)).cell? ⟨jb, 3, none⟩ = some (.slice av O.length cv) := (four_cellsJ HJ3.out.hd).2.2.2
  go_region_law (first | (rw [if_pos (by rfl)]; refine wp_append_new (.tmp 30) (.tmp 32) 55 rfl B 60 i0 _ 3 24 Try.underlying55 hi hz0 hz1 hz2 rfl (by decide) (.slice av O.length cv) O.length (cellsK O) rfl HOWN.out ⟨W2.heap.size, 0, none⟩ 1 1 x.cells rfl rfl HNW.out H1.out (by unfold maxLen; omega) (by omega) HBZ.out (by omega) ?_; intro v3 w3 hown3 hgrow3 hb3; obtain ⟨a3, d3, hv3⟩ := own_slice hown3; subst hv3; have hd3 := (hgrow3.block jb (by simp; omega) (fun e => HJ3.out.njo e.symm)).trans HJ3.out.hd; obtain ⟨q0, q1, q2, q3⟩ := four_cellsJ hd3; have qf3 := four_free hd3 3))
  all_goals
    have hlen : O.length + 1 = (O ++ [x]).length := by simp
    rw [← cellsK_snoc, hlen] at hown3
    obtain ⟨j4, f4⟩ := HJ3.out.open hown3 hgrow3 (by rw [hlen] at hb3; exact hb3)
    rw [← hlen] at j4 f4
    have HJ4 := Lib.hid j4
    have HF4 := Lib.hid (HF3.out.trans f4)
    have HOB : Hid ((Value.slice a3 (O.length + 1) d3).ownBlock = (Value.slice av O.length cv).ownBlock ∨ ∃ k, (Value.slice a3 (O.length + 1) d3).ownBlock = some k ∧ p ≤ k) := by
      rcases hb3 with e | e
      · exact .inl e
      · exact .inr ⟨_, e, by simp; omega⟩
    clear hown3 hgrow3 hb3 hd3 q0 q1 q2 q3 qf3 j4 f4
    go_wp2_with fail
    go_end0
    exact ⟨rfl, _, HJ4.out.on ⟨rfl, rfl, rfl, Nat.le_refl _, fun _ _ => rfl⟩, ⟨HF4.out.os, HF4.out.tape, HF4.out.output, HF4.out.size, HF4.out.block⟩, HOB.out⟩
/-- What is offered is taken where it fits. -/
theorem offer_any (jb B bd : Nat) (L S : List Nat) (O : List K) (lg sg lc sc : Nat) (ov : Value) (x : K) (w : World) (hj : JS w jb B bd L S O lg sg lc sc ov) (ha : x.a < S.length) (hb : x.b < S.length) (hs : S.getD x.a 0 + S.getD x.b 0 ≤ 100000) (hbd : bd ≤ 1024) (hO : O.length ≤ 1000000) (hB : B ≤ w.heap.size) :
    Calls Try.prog 59 #[.pointer (some ⟨jb, 0, none⟩), x.val] w fun e w' => e = .returned (.tuple #[]) ∧ ∃ ov', JS w' jb B bd L S (O ++ if S.getD x.a 0 + S.getD x.b 0 ≤ bd then [x] else []) lg sg lc sc ov' ∧ Fr (fun k => k = jb ∨ ov.ownBlock = some k) w w' ∧ (ov'.ownBlock = ov.ownBlock ∨ ∃ k, ov'.ownBlock = some k ∧ w.heap.size ≤ k) := by
  by_cases h : S.getD x.a 0 + S.getD x.b 0 ≤ bd
  · rw [if_pos h]
    exact offer_yes jb B bd L S O lg sg lc sc ov x w hj ha hb hbd hO hB h
  · rw [if_neg h, List.append_nil]
    refine (offer_no jb bd sg _ ov S sc B x w hj.hd hj.so ha hb hs hbd h).mono ?_
    rintro e w' ⟨rfl, hb⟩
    exact ⟨rfl, ov, hj.on hb, ⟨hb.os, hb.tape, hb.output, hb.size, fun k hk _ => hb.block k hk⟩, .inl rfl⟩
end Go.Proofs.Ytchfccbneedejaa
namespace Go.Proofs.Ytchfccbneedejaa
open Go.RowKit
theorem cellsK_set (y : K) : ∀ (R : List K) (k : Nat), k < R.length → cellsK (R.set k y) = (cellsK R).take (k * 3) ++ y.cells ++ (cellsK R).drop (k * 3 + 3)
  | [], k, h => by simp at h
  | x :: r, 0, _ => by simp [cellsK, K.cells]
  | x :: r, k + 1, h => by
    have ih := cellsK_set y r k (by simpa using h)
    rw [show (k + 1) * 3 = k * 3 + 3 by omega]
    simpa [cellsK] using ih
theorem row_setK {cur : List Value} {R : List K} {n k : Nat} (hn : n = R.length) (h : cur.take (n * 3) = cellsK R) (y : K) (hk : k < n) : (cur.take (k * 3) ++ y.cells ++ cur.drop (k * 3 + 3)).take (n * 3) = cellsK (R.set k y) := by
  subst hn
  have hl := cellsK_len R
  have e : cur = cellsK R ++ cur.drop (R.length * 3) := by rw [← h, List.take_append_drop]
  generalize cur.drop (R.length * 3) = T at e
  subst e
  have e1 : (cellsK R ++ T).take (k * 3) = (cellsK R).take (k * 3) := List.take_append_of_le_length (by omega)
  have e2 : (cellsK R ++ T).drop (k * 3 + 3) = (cellsK R).drop (k * 3 + 3) ++ T := List.drop_append_of_le_length (by omega)
  rw [e1, e2, ← List.append_assoc, ← cellsK_set y R k hk]
  rw [List.take_append_of_le_length (by rw [cellsK_len, List.length_set]; omega)]
  exact List.take_of_length_le (by rw [cellsK_len, List.length_set]; omega)
theorem wpList_append_in {P : Program} {w : World} {ops : Array Oper} {rest : List Oper} {o : Oper} {a : Act} {Q : Exit → Act → World → Prop} (hgd : o.guard = none) (s x : Operand) (t : TypeId)
    (ho : o.op = .call { callee := .builtin .append, args := #[s, x], argTypes := #[t, t] }) (e : TypeId) (i : TypeInfo) (ht : P.underlying t = some (.slice e)) (hi : P.info? e = some i) (hsize : i.size = 3)
    (B g k c : Nat) (R : List K) (hs : a.eval s = .slice (some ⟨g, 0, none⟩) k c) (hown : w.ownsRow B e 3 (.slice (some ⟨g, 0, none⟩) R.length c) R.length (cellsK R)) (hk : k < R.length)
    (ad : Addr) (cx : Nat) (y : K) (hx : a.eval x = .slice (some ad) 1 cx) (hnews : ∀ j u, y.cells[j]? = some u → w.cell? (ad.add j) = some u)
    (h : ∀ w', w'.ownsRow B e 3 (.slice (some ⟨g, 0, none⟩) R.length c) R.length (cellsK (R.set k y)) → Fr (fun j => j = g) w w' → wpList P ops Q rest (a.put o.dst (.slice (some ⟨g, 0, none⟩) (k + 1 : Nat) c)) w') : wpList P ops Q (o :: rest) a w := by
  refine wpList_plain hgd fun _ hK => ?_
  rcases hown.2 with ⟨h1, _⟩ | ⟨g', cap, cur, h1, h2, h3, h4, h5, h6, h7⟩
  · cases h1
  injection h1 with e1 e2 e3
  injection e1 with e1
  injection e1 with e1
  subst e1
  have e3 : c = cap := by omega
  subst e3
  have hr := run_append_room (P := P) w t o.type e i ht hi g k c cur h3 ad 1 cx y.cells (by rw [hsize]; rfl) hnews (oneK y) (by omega) (by rw [hsize, h6]; show k * 3 + 3 ≤ c * 3; omega)
  rw [hsize] at hr
  unfold Oper.wp
  simp [execOp, ho, resolve, invoke, builtin, hs, hx, hr, Result.andThen]
  refine hK _ _ (h _ ⟨by rw [cellsK_len, List.length_set], .inr ⟨g, c, _, rfl, h2, setRow_heap w g _ _ e _ h3, h4, h5, ?_, ?_⟩⟩ ⟨rfl, rfl, rfl, by simp, fun j _ hj => setRow_other w g j _ hj⟩)
  · have hc : cur.toList.length = c * 3 := by simpa using h6
    simp [K.cells]
    omega
  · rw [← List.append_assoc]
    exact row_setK rfl h7 y hk
/-- A row that is gone over, of which some stay. -/
def half (l : K) (O : List K) (k : Nat) : List K := oth l (O.take k) ++ O.drop (oth l (O.take k)).length
theorem half_le (l : K) (O : List K) (k : Nat) : (oth l (O.take k)).length ≤ k := Nat.le_trans (oth_le l _) (by rw [List.length_take]; omega)
theorem half_len (l : K) (O : List K) {k : Nat} (hk : k ≤ O.length) : (half l O k).length = O.length := by
  have := half_le l O k
  unfold half
  rw [List.length_append, List.length_drop]
  omega
theorem half_get (l : K) (O : List K) (k : Nat) : (half l O k).getD k K.zero = O.getD k K.zero := by
  have := half_le l O k
  unfold half
  simp only [List.getD]
  rw [List.getElem?_append_right this, List.getElem?_drop]
  congr 2
  omega
theorem take_snocK {O : List K} {k : Nat} (h : k < O.length) : O.take (k + 1) = O.take k ++ [O.getD k K.zero] := by
  rw [List.take_succ_eq_append_getElem h]
  simp [List.getD, h]
theorem half_skip {l : K} {O : List K} {k : Nat} (h : k < O.length) (hh : l.has (O.getD k K.zero).a = true ∨ l.has (O.getD k K.zero).b = true) : oth l (O.take (k + 1)) = oth l (O.take k) := by
  rw [take_snocK h, oth_snoc, if_pos hh]
theorem half_stay {l : K} {O : List K} {k : Nat} (h : k < O.length) (h1 : l.has (O.getD k K.zero).a = false) (h2 : l.has (O.getD k K.zero).b = false) : oth l (O.take (k + 1)) = oth l (O.take k) ++ [O.getD k K.zero] := by
  rw [take_snocK h, oth_snoc, if_neg (by rw [h1, h2]; simp)]
theorem half_set {l : K} {O : List K} {k : Nat} (h : k < O.length) (h1 : l.has (O.getD k K.zero).a = false) (h2 : l.has (O.getD k K.zero).b = false) : (half l O k).set (oth l (O.take k)).length (O.getD k K.zero) = half l O (k + 1) := by
  have hle := half_le l O k
  unfold half
  rw [half_stay h h1 h2]
  generalize oth l (O.take k) = q at *
  have e : O.drop q.length = O[q.length] :: O.drop (q.length + 1) := List.drop_eq_getElem_cons (show q.length < O.length by omega)
  rw [List.set_append_right _ _ (Nat.le_refl _), Nat.sub_self, e, List.set_cons_zero, List.length_append, List.append_assoc]
  rfl
theorem bs_next (l : K) (O : List K) {k : Nat} (h : k < O.length) (o : Nat) : bs l (O.take (k + 1)) o = bs l (O.take k) o + con l (O.getD k K.zero) o := by rw [take_snocK h, bs_snoc]
theorem bs_bound {l : K} {M : Nat} {o : Nat} : ∀ {q : List K}, (∀ m, m ∈ q → m.n ≤ M) → bs l q o ≤ q.length * M
  | [], _ => by simp [bs]
  | m :: r, h => by
    have ih := bs_bound (l := l) (o := o) (q := r) (fun x hx => h x (List.mem_cons_of_mem _ hx))
    have h1 := con_le l m o
    have h2 := h m List.mem_cons_self
    show con l m o + bs l r o ≤ (r.length + 1) * M
    rw [Nat.add_mul]
    omega
end Go.Proofs.Ytchfccbneedejaa
namespace Go.Proofs.Ytchfccbneedejaa
open Go.RowKit
theorem JS.row {w w' : World} {jb B bd : Nat} {L S : List Nat} {O O' : List K} {lg sg lc sc og n oc : Nat} (h : JS w jb B bd L S O lg sg lc sc (.slice (some ⟨og, 0, none⟩) n oc)) (hf : Fr (fun k => k = og) w w') (ho : w'.ownsRow B 60 3 (.slice (some ⟨og, 0, none⟩) n oc) O'.length (cellsK O')) : JS w' jb B bd L S O' lg sg lc sc (.slice (some ⟨og, 0, none⟩) n oc) :=
  ⟨(hf.block jb (lt_of_block h.hd) (fun e => h.njo (by rw [e]; rfl))).trans h.hd, own_frQ h.lo hf (fun k hk e => h.nlo (by injection hk with hk; show some og = _; rw [← e, ← hk])), own_frQ h.so hf (fun k hk e => h.nso (by injection hk with hk; show some og = _; rw [← e, ← hk])), ho, h.ne, h.jl⟩
theorem rowK_at {w : World} {B g n c : Nat} {R : List K} (h : w.ownsRow B 60 3 (.slice (some ⟨g, 0, none⟩) n c) R.length (cellsK R)) (j : Nat) (hj : j < R.length) : (R.getD j K.zero).at w g (j * 3) := by
  obtain ⟨h1, h2, h3⟩ := cellsK_at R j hj
  have hn : n = R.length := by
    rcases h.2 with ⟨h4, _⟩ | ⟨_, _, _, h4, _⟩
    · cases h4
    · injection h4
  subst hn
  exact ⟨(World.ownsRow.cellAt h (j * 3) (by omega)).trans h1, (World.ownsRow.cellAt h (j * 3 + 1) (by omega)).trans h2, (World.ownsRow.cellAt h (j * 3 + 2) (by omega)).trans h3⟩
theorem Fr.setNew {D : Nat → Prop} {a b : World} (h : Fr D a b) (p : Addr) (u : Value) (hp : a.heap.size ≤ p.block) : Fr D a (b.setCell p u) :=
  ⟨h.os, h.tape, h.output, by have := h.size; simpa [World.setCell] using this, fun k hk hn => (Below.heap_setCell b p u k (fun e => by omega)).trans (h.block k hk hn)⟩
set_option maxRecDepth 100000 in
set_option maxHeartbeats 1600000 in
theorem takeOut_any (jb B bd : Nat) (L S : List Nat) (O : List K) (lg sg lc sc og oc : Nat) (l : K) (w : World) (hj : JS w jb B bd L S O lg sg lc sc (.slice (some ⟨og, 0, none⟩) O.length oc)) (hin : ∀ m, m ∈ O → m.a < S.length ∧ m.b < S.length ∧ m.n ≤ 100000) (hO : O.length ≤ 1000000) (hS : S.length ≤ 1024) :
    Calls Try.prog 60 #[.pointer (some ⟨jb, 0, none⟩), l.val] w fun e w' => ∃ g, e = .returned (.slice (some ⟨g, 0, none⟩) S.length S.length) ∧ w.heap.size ≤ g ∧ TbV w' g S.length 3 (fun o => .int .i64 ((bs l O o : Nat) : Int)) ∧ JS w' jb B bd L S (oth l O) lg sg lc sc (.slice (some ⟨og, 0, none⟩) (oth l O).length oc) ∧ Fr (fun k => k = jb ∨ k = og) w w' := by
  obtain ⟨i3, hi3, hz3, hs3, hb3⟩ := info_parts info3
  have hmk : ∀ w, (Instr.makeSlice 25 (.int .i64 S.length) (.int .i64 S.length)).run Try.prog w = .ok (.slice (some ⟨w.heap.size, 0, none⟩) S.length S.length) (w.alloc (.cells ((List.range S.length).map (fun _ => Value.int .i64 0)).toArray 3)) := fun w => by
    have := run_make (P := Try.prog) w 25 3 i3 (.int .i64 0) Try.underlying25 hi3 hz3 .i64 .i64 S.length S.length (by omega) (by omega) (by rw [hb3]; omega) (by omega)
    rw [this, Int.toNat_natCast, hs3, made_int]
  clear hi3 hz3 hs3 hb3
  clear i3
  obtain ⟨i0, hi, hz0, hz1, hz2⟩ := info_parts info60K
  have HJ0 := Lib.hid (hj.on (show Below w.heap.size w (w.alloc (Obj.cells #[Value.int IntKind.i64 l.a, Value.int IntKind.i64 l.b, Value.int IntKind.i64 l.n] 60)) from (Below.refl _ _).alloc (Nat.le_refl _) _))
  have HF0 : Hid (Fr (fun k => k = jb ∨ k = og) w (w.alloc (Obj.cells #[Value.int IntKind.i64 l.a, Value.int IntKind.i64 l.b, Value.int IntKind.i64 l.n] 60))) := (Fr.refl _ w).alloc _
  have hg2 := heap_top w (Obj.cells #[Value.int IntKind.i64 l.a, Value.int IntKind.i64 l.b, Value.int IntKind.i64 l.n] 60)
  have HXV : Hid (l.val = .agg #[.int .i64 (l.a : Int), .int .i64 (l.b : Int), .int .i64 (l.n : Int)]) := rfl
  rw [HXV.out]
  obtain ⟨j0, j1, j2, j3⟩ := four_cellsJ HJ0.out.hd
  have HG2 := Lib.hid hg2
  have hjw : jb < w.heap.size := lt_of_block hj.hd
  have hogp : og < w.heap.size := (hj.oo.lt og rfl).2
  have hlgp : lg < w.heap.size := (hj.lo.lt lg rfl).2
  have hsgp : sg < w.heap.size := (hj.so.lt sg rfl).2
  have HOC : Hid (O.length ≤ oc) := by
    obtain ⟨_, _, h1, _, h2, _⟩ := own_shape hj.oo (by simp)
    injection h1 with _ _ h3
    show _ ≤ _
    omega
  have hoc : (0 : Int) ≤ oc := by omega
  have HIN := Lib.hid hin
  clear hg2 hj hin
  have hpw : w.heap.size < (w.alloc (Obj.cells #[Value.int IntKind.i64 l.a, Value.int IntKind.i64 l.b, Value.int IntKind.i64 l.n] 60)).heap.size := by simp
  generalize hp : w.heap.size = p at *
  go_enter Try.func60, Try.ntmps60
  go_wp2_with fail
  generalize hW : w.alloc (Obj.cells #[Value.int IntKind.i64 l.a, Value.int IntKind.i64 l.b, Value.int IntKind.i64 l.n] 60) = W at *
  clear hW
  have HJ1 := Lib.hid (HJ0.out.on (show Below W.heap.size W (W.alloc (.cells ((List.range S.length).map (fun _ => Value.int .i64 0)).toArray 3)) from (Below.refl _ _).alloc (Nat.le_refl _) _))
  have r3 := (four_cellsJ HJ1.out.hd).2.2.2
  have r2 := (four_cellsJ HJ1.out.hd).2.2.1
  have HF1 := Lib.hid (HF0.out.alloc (.cells ((List.range S.length).map (fun _ => Value.int .i64 0)).toArray 3))
  have HT1 : Hid (TbV (W.alloc (.cells ((List.range S.length).map (fun _ => Value.int .i64 0)).toArray 3)) W.heap.size S.length 3 (fun _ => .int .i64 0)) := heap_top W _
  have HG3 := Lib.hid ((Below.heap_alloc W (.cells ((List.range S.length).map (fun _ => Value.int .i64 0)).toArray 3) p hpw).trans HG2.out)
  go_region
  generalize hg : W.heap.size = g at *
  generalize hU : (W.alloc (.cells ((List.range S.length).map (fun _ => Value.int .i64 0)).toArray 3)).drew = U at *
  have HJ2 : Hid (JS U jb B bd L S O lg sg lc sc (.slice (some ⟨og, 0, none⟩) O.length oc)) := by rw [← hU]; exact HJ1.out.on ⟨rfl, rfl, rfl, Nat.le_refl _, fun _ _ => rfl⟩
  have HF2 : Hid (Fr (fun k => k = jb ∨ k = og) w U) := by rw [← hU]; exact HF1.out.drew
  have HT2 : Hid (TbV U g S.length 3 (fun _ => .int .i64 0)) := by rw [← hU]; exact HT1.out
  have HG4 : Hid (U.heap[p]? = some (.cells #[.int .i64 (l.a : Int), .int .i64 (l.b : Int), .int .i64 (l.n : Int)] 60)) := by rw [← hU]; exact HG3.out
  clear HJ1 HF1 HT1 HG3 HJ0 HF0 HG2 r2 r3 j0 j1 j2 j3 hU hmk
  have j3 := (four_cellsJ HJ2.out.hd).2.2.2
  have HNX : Hid (∀ (W' : World) (o : Nat) (u : Value) (R : List K), JS W' jb B bd L S R lg sg lc sc (.slice (some ⟨og, 0, none⟩) O.length oc) → JS (W'.setCell ⟨g, o, none⟩ u).drew jb B bd L S R lg sg lc sc (.slice (some ⟨og, 0, none⟩) O.length oc)) := fun W' o u R h =>
    (h.fr (D := fun k => k = g) ((Fr.refl _ W').setCell ⟨g, o, none⟩ u rfl) (by omega) (by omega) (by omega) (fun k hk => by injection hk with hk; have hk : og = k := hk; show ¬ k = g; omega)).on ⟨rfl, rfl, rfl, Nat.le_refl _, fun _ _ => rfl⟩
  go_wp2_with fail
  clear j3
  go_loopw [6, 27] (fun s6 i wr => ∃ k n6 : Nat, k ≤ O.length ∧ i = .int .i64 k ∧ s6 = .slice (some ⟨og, 0, none⟩) n6 oc ∧ n6 ≤ k ∧ Hid ((oth l (O.take k)).length = n6) ∧ Hid (JS wr jb B bd L S (half l O k) lg sg lc sc (.slice (some ⟨og, 0, none⟩) O.length oc)) ∧ Hid (TbV wr g S.length 3 (fun o => .int .i64 ((bs l (O.take k) o : Nat) : Int))) ∧ Hid (wr.heap[p]? = some (.cells #[.int .i64 (l.a : Int), .int .i64 (l.b : Int), .int .i64 (l.n : Int)] 60)) ∧ Hid (Fr (fun k => k = jb ∨ k = og) w wr)) (fun _ i _ => O.length - (intOf i).toNat)
  case atStart =>
    refine ⟨0, 0, Nat.zero_le _, rfl, rfl, Nat.zero_le _, rfl, ?_, ?_, HG4, HF2⟩
    · have e : half l O 0 = O := by simp [half, oth]
      rw [e]; exact HJ2
    · exact HT2
  case round =>
    obtain ⟨k, n6, hk, rfl, rfl, hn6, HN6, HJ, HT, HG, HF⟩ := hrel
    have HJL : Hid ((half l O k).length = O.length) := half_len l O hk
    by_cases hlk : k < O.length
    · have hlk' : (k : Int) < O.length := by omega
      obtain ⟨y0, y1, y2⟩ := rowK_at HJ.out.oo k (by rw [HJL.out]; exact hlk)
      rw [half_get] at y0 y1 y2
      obtain ⟨m, HM⟩ := named (O.getD k K.zero)
      rw [HM.out] at y0 y1 y2
      have hmin := HIN.out m (by rw [← HM.out]; exact getD_memK hlk)
      obtain ⟨ma, mb, mn⟩ := m
      have Y0 : wr.cell? ⟨og, k * 3, none⟩ = some (.int .i64 (ma : Int)) := y0
      have Y1 : wr.cell? ⟨og, k * 3 + 1, none⟩ = some (.int .i64 (mb : Int)) := y1
      have Y2 : wr.cell? ⟨og, k * 3 + 2, none⟩ = some (.int .i64 (mn : Int)) := y2
      clear y0 y1 y2
      have hma : ma < S.length := hmin.1
      have hmb : mb < S.length := hmin.2.1
      have hmn : mn ≤ 100000 := hmin.2.2
      clear hmin
      go_wp2_with fail
      clear Y0 Y1 Y2
      have HBX : Hid (Below wr.heap.size wr (wr.alloc (.cells #[.int .i64 (ma : Int), .int .i64 (mb : Int), .int .i64 (mn : Int)] 60))) := (Below.refl _ _).alloc (Nat.le_refl _) _
      have HJX := Lib.hid (HJ.out.on HBX.out)
      have HTX := Lib.hid (HT.out.same (HBX.out.block g HT.out.lt))
      have HGX := Lib.hid ((HBX.out.block p (lt_of_block HG.out)).trans HG.out)
      have HFX := Lib.hid (HF.out.alloc (.cells #[.int .i64 (ma : Int), .int .i64 (mb : Int), .int .i64 (mn : Int)] 60))
      have HMX := Lib.hid (heap_top wr (.cells #[.int .i64 (ma : Int), .int .i64 (mb : Int), .int .i64 (mn : Int)] 60))
      generalize hX : wr.alloc (.cells #[.int .i64 (ma : Int), .int .i64 (mb : Int), .int .i64 (mn : Int)] 60) = X at *
      have hwp : p ≤ wr.heap.size := by have := HF.out.size; omega
      generalize hxb : wr.heap.size = xb at *
      clear HBX HJ HT HG HF hX hxb
      have HC : Hid (∀ (x : Nat) (W' : World), Below X.heap.size X W' → Calls Try.prog 77 #[.agg #[.int .i64 (l.a : Int), .int .i64 (l.b : Int), .int .i64 (l.n : Int)], .int .i64 (x : Int)] W' fun e w' => e = .returned (.bool (l.has x)) ∧ Below X.heap.size X w') := fun x W' hb => by
        refine (has_any l x W').mono ?_
        rintro e w' ⟨rfl, h⟩
        exact ⟨rfl, hb.trans (h.mono hb.size)⟩
      have HBD : Hid (Below X.heap.size X X.drew) := ⟨rfl, rfl, rfl, Nat.le_refl _, fun _ _ => rfl⟩
      obtain ⟨x0, x1, x2⟩ := three_cells HGX.out
      obtain ⟨z0, z1, z2⟩ := three_cells HMX.out
      have hpX : p < X.heap.size := lt_of_block HGX.out
      have hxX : xb < X.heap.size := lt_of_block HMX.out
      go_region_held3 (fun w' => w'.cell? ⟨p, 0, none⟩ = some (.int .i64 (l.a : Int)) ∧ w'.cell? ⟨p, 1, none⟩ = some (.int .i64 (l.b : Int)) ∧ w'.cell? ⟨p, 2, none⟩ = some (.int .i64 (l.n : Int)) ∧ w'.cell? ⟨xb, 0, none⟩ = some (.int .i64 (ma : Int)) ∧ w'.cell? ⟨xb, 1, none⟩ = some (.int .i64 (mb : Int))) (go_keep) ((go_at_call 77; refine (HC.out _ _ (by first | exact HBD.out | exact hb2)).mono ?_; rintro e w2 ⟨rfl, hb2⟩; have v0 := (hb2.cell (p := ⟨p, 0, none⟩) hpX).trans x0; have v1 := (hb2.cell (p := ⟨p, 1, none⟩) hpX).trans x1; have v2 := (hb2.cell (p := ⟨p, 2, none⟩) hpX).trans x2; have v3 := (hb2.cell (p := ⟨xb, 0, none⟩) hxX).trans z0; have v4 := (hb2.cell (p := ⟨xb, 1, none⟩) hxX).trans z1))
      have HJ3 := Lib.hid (HJX.out.on hb2)
      have HT3 := Lib.hid (HTX.out.same (hb2.block g HTX.out.lt))
      have HG3 := Lib.hid ((hb2.block p hpX).trans HGX.out)
      have HM3 := Lib.hid ((hb2.block xb hxX).trans HMX.out)
      have HF3 : Hid (Fr (fun k => k = jb ∨ k = og) w w2) := HFX.out.trans ⟨hb2.os, hb2.tape, hb2.output, hb2.size, fun k hk _ => hb2.block k hk⟩
      have HXS : Hid (p ≤ w2.heap.size) := Nat.le_trans (Nat.le_of_lt hpX) hb2.size
      clear hb2 v0 v1 v2 v3 v4 x0 x1 x2 z0 z1 z2 HC HBD HJX HTX HGX HFX HMX hpX hxX
      have HV1 : Hid (l.has (O.getD k K.zero).a = l.has ma) := by show _ = _; rw [HM.out]
      have HV2 : Hid (l.has (O.getD k K.zero).b = l.has mb) := by show _ = _; rw [HM.out]
      have HBS : Hid (∀ o, bs l (O.take (k + 1)) o = bs l (O.take k) o + con l ⟨ma, mb, mn⟩ o) := fun o => by rw [bs_next l O hlk, HM.out]
      have HBL : Hid (∀ o, bs l (O.take k) o ≤ 100000000000) := fun o => by
        have h1 := bs_bound (l := l) (o := o) (q := O.take k) (M := 100000) (fun m hm => (HIN.out m (List.mem_of_mem_take hm)).2.2)
        rw [List.length_take, Nat.min_eq_left hk] at h1
        omega
      have HCO : Hid (∀ o, con l ⟨ma, mb, mn⟩ o = if l.has ma = true ∧ l.has mb = true then 0 else if l.has ma = true then (if mb = o then mn else 0) else if l.has mb = true then (if ma = o then mn else 0) else 0) := fun o => rfl
      generalize l.has ma = V1 at *
      generalize l.has mb = V2 at *
      cases V1
      · cases V2
        · have hn7 : n6 < (half l O k).length := by rw [HJL.out]; omega
          obtain ⟨z0, z1, z2⟩ := three_cells HM3.out
          have HB4 : Hid (Below w2.heap.size w2 (w2.alloc (.cells #[.int .i64 (ma : Int), .int .i64 (mb : Int), .int .i64 (mn : Int)] 60))) := (Below.refl _ _).alloc (Nat.le_refl _) _
          have HJ4 := Lib.hid (HJ3.out.on HB4.out)
          have HT4 := Lib.hid (HT3.out.same (HB4.out.block g HT3.out.lt))
          have HG4 := Lib.hid ((HB4.out.block p (lt_of_block HG3.out)).trans HG3.out)
          have HF4 := Lib.hid (HF3.out.alloc (.cells #[.int .i64 (ma : Int), .int .i64 (mb : Int), .int .i64 (mn : Int)] 60))
          have HO4 : Hid ((w2.alloc (.cells #[.int .i64 (ma : Int), .int .i64 (mb : Int), .int .i64 (mn : Int)] 60)).ownsRow B 60 3 (.slice (some ⟨og, 0, none⟩) (half l O k).length oc) (half l O k).length (cellsK (half l O k))) := by rw [HJL.out]; have h := HJ4.out.oo; rw [HJL.out] at h; exact h
          have HNW := Lib.hid (newK w2 ⟨ma, mb, mn⟩)
          have HOT := Lib.hid (half_stay hlk HV1.out HV2.out)
          have HST := Lib.hid (half_set hlk HV1.out HV2.out)
          rw [HM.out, HN6.out] at HST
          rw [HM.out] at HOT
          go_wp2_with (at_builtin; go_must (refine wpList_append_in rfl (.tmp 39) (.tmp 41) 55 rfl 60 i0 Try.underlying55 hi hz1 B og n6 oc (half l O k) rfl HO4.out hn7 ⟨w2.heap.size, 0, none⟩ 1 ⟨ma, mb, mn⟩ rfl HNW.out ?_; intro w5 hown5 hf5; rw [HJL.out, HST.out] at hown5; have HJ5 := Lib.hid (HJ4.out.row (O' := half l O (k + 1)) hf5 (by rw [half_len l O (by omega)]; exact hown5)); have HT5 := Lib.hid (HT4.out.same (hf5.block g HT4.out.lt (by omega))); have HG5 := Lib.hid ((hf5.block p (lt_of_block HG4.out) (by omega)).trans HG4.out); have HF5 := Lib.hid (HF4.out.trans (hf5.imp (fun _ h => .inr h))); clear hown5 hf5))
          refine ⟨⟨k + 1, n6 + 1, by omega, by simp, rfl, by omega, ?_, HJ5, ?_, HG5, HF5⟩, by simp [intOf]; omega⟩
          · show _ = _
            rw [HOT.out, List.length_append, HN6.out]; rfl
          · refine HT5.out.congr (fun o _ => ?_)
            rw [HBS.out, HCO.out]; simp
        · have d1 := HT3.out.cell hma
          have d2 := HT3.out.free ma
          have hbl := HBL.out ma
          have HST := Lib.hid (half_skip hlk (.inr HV2.out))
          have HN7 : Hid ((oth l (O.take (k + 1))).length = n6) := by rw [HST.out]; exact HN6
          have HJ7 : Hid (JS w2 jb B bd L S (half l O (k + 1)) lg sg lc sc (.slice (some ⟨og, 0, none⟩) O.length oc)) := by unfold half; rw [HST.out]; exact HJ3
          have HTV : Hid (∀ o, updV (fun o => Value.int .i64 ((bs l (O.take k) o : Nat) : Int)) ma (.int .i64 ((bs l (O.take k) ma : Nat) + (mn : Int))) o = .int .i64 ((bs l (O.take (k + 1)) o : Nat) : Int)) := fun o => by
            by_cases e : o = ma
            · subst e; rw [updV_self, HBS.out, HCO.out]; simp
            · rw [updV_ne _ _ e, HBS.out, HCO.out]; simp [Ne.symm e]
          obtain ⟨z0, z1, z2⟩ := three_cells HM3.out
          obtain ⟨bo, HBO⟩ := named (bs l (O.take k) ma)
          rw [HBO.out] at d1 hbl HTV
          have hw : IntKind.i64.wrap ((bo : Int) + (mn : Int)) = (bo : Int) + (mn : Int) := by rw [IntKind.wrap_i64]; omega
          have hma' : (ma : Int) < S.length := by omega
          go_wp2_with fail
          go_region
          go_wp2_with fail
          refine ⟨⟨k + 1, n6, by omega, by simp, rfl, by omega, HN7, HNX.out _ _ _ _ HJ7.out, ?_, ?_, (HF3.out.setNew ⟨g, ma, none⟩ _ (by show w.heap.size ≤ g; omega)).drew⟩, by simp [intOf]; omega⟩
          · exact (HT3.out.set ma (.int .i64 ((bo : Int) + (mn : Int)))).congr (fun o _ => HTV.out o)
          · exact (Below.heap_setCell w2 ⟨g, ma, none⟩ _ p (by show p ≠ g; omega)).trans HG3.out
      · cases V2
        · have d1 := HT3.out.cell hmb
          have d2 := HT3.out.free mb
          have hbl := HBL.out mb
          have HST := Lib.hid (half_skip hlk (.inl HV1.out))
          have HN7 : Hid ((oth l (O.take (k + 1))).length = n6) := by rw [HST.out]; exact HN6
          have HJ7 : Hid (JS w2 jb B bd L S (half l O (k + 1)) lg sg lc sc (.slice (some ⟨og, 0, none⟩) O.length oc)) := by unfold half; rw [HST.out]; exact HJ3
          have HTV : Hid (∀ o, updV (fun o => Value.int .i64 ((bs l (O.take k) o : Nat) : Int)) mb (.int .i64 ((bs l (O.take k) mb : Nat) + (mn : Int))) o = .int .i64 ((bs l (O.take (k + 1)) o : Nat) : Int)) := fun o => by
            by_cases e : o = mb
            · subst e; rw [updV_self, HBS.out, HCO.out]; simp
            · rw [updV_ne _ _ e, HBS.out, HCO.out]; simp [Ne.symm e]
          obtain ⟨z0, z1, z2⟩ := three_cells HM3.out
          obtain ⟨bo, HBO⟩ := named (bs l (O.take k) mb)
          rw [HBO.out] at d1 hbl HTV
          have hw : IntKind.i64.wrap ((bo : Int) + (mn : Int)) = (bo : Int) + (mn : Int) := by rw [IntKind.wrap_i64]; omega
          have hmb' : (mb : Int) < S.length := by omega
          go_wp2_with fail
          go_region
          go_wp2_with fail
          refine ⟨⟨k + 1, n6, by omega, by simp, rfl, by omega, HN7, HNX.out _ _ _ _ HJ7.out, ?_, ?_, (HF3.out.setNew ⟨g, mb, none⟩ _ (by show w.heap.size ≤ g; omega)).drew⟩, by simp [intOf]; omega⟩
          · exact (HT3.out.set mb (.int .i64 ((bo : Int) + (mn : Int)))).congr (fun o _ => HTV.out o)
          · exact (Below.heap_setCell w2 ⟨g, mb, none⟩ _ p (by show p ≠ g; omega)).trans HG3.out
        · have HST := Lib.hid (half_skip hlk (.inl HV1.out))
          have HN7 : Hid ((oth l (O.take (k + 1))).length = n6) := by rw [HST.out]; exact HN6
          have HJ7 : Hid (JS w2 jb B bd L S (half l O (k + 1)) lg sg lc sc (.slice (some ⟨og, 0, none⟩) O.length oc)) := by unfold half; rw [HST.out]; exact HJ3
          go_wp2_with fail
          refine ⟨⟨k + 1, n6, by omega, by simp, rfl, by omega, HN7, HJ7, ?_, HG3, HF3⟩, by simp [intOf]; omega⟩
          refine HT3.out.congr (fun o _ => ?_)
          rw [HBS.out, HCO.out]; simp
    · obtain rfl : k = O.length := by omega
      have hlk' : ¬ (O.length : Int) < O.length := by omega
      have HTK : Hid (O.take O.length = O) := List.take_length
      rw [HTK.out] at HN6 HT
      have HHA : Hid (half l O O.length = oth l O ++ O.drop n6) := by show _ = _; unfold half; rw [HTK.out, HN6.out]
      have hj3 := (four_cellsJ HJ.out.hd).2.2.2
      have f3 := four_free HJ.out.hd 3
      have HOO : Hid (wr.ownsRow B 60 3 (.slice (some ⟨og, 0, none⟩) n6 oc) (oth l O).length (cellsK (oth l O))) := by
        have h := HJ.out.oo
        rw [HHA.out, cellsK_app] at h
        rcases h.2 with ⟨h1, _⟩ | ⟨g', cap, cur, h1, h2, h3, h4, h5, h6, h7⟩
        · cases h1
        · injection h1 with e1 e2 e3
          injection e1 with e1
          injection e1 with e1
          have e3 : oc = cap := by omega
          refine ⟨cellsK_len _, .inr ⟨g', cap, cur, by rw [e1, e3, HN6.out], h2, h3, by rw [HN6.out]; omega, h5, h6, ?_⟩⟩
          have h8 := congrArg (List.take ((oth l O).length * 3)) h7
          have h9 : (cellsK (oth l O) ++ cellsK (O.drop n6)).take ((oth l O).length * 3) = cellsK (oth l O) := by rw [← cellsK_len]; exact List.take_left
          rw [h9, List.take_take, Nat.min_eq_left (by rw [List.length_append, Nat.add_mul]; omega)] at h8
          exact h8
      obtain ⟨j9, _⟩ := HJ.out.open (O3 := oth l O) (v3 := .slice (some ⟨og, 0, none⟩) n6 oc) HOO.out ⟨rfl, rfl, rfl, Nat.le_refl _, fun _ _ _ => rfl⟩ (.inl rfl)
      have HJ9 := Lib.hid j9
      clear j9
      go_wp2_with fail
      go_ret
      refine ⟨g, rfl, by omega, HT.out.same (Below.heap_setCell wr ⟨jb, 3, none⟩ _ g (by show g ≠ jb; omega)), ?_, HF.out.setCell ⟨jb, 3, none⟩ _ (.inl rfl)⟩
      rw [HN6.out]
      exact HJ9.out
end Go.Proofs.Ytchfccbneedejaa
