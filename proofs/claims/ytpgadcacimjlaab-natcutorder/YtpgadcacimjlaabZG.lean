/-
  The contract of natcut.cutAround. The contracts of natcut.nodesOf, natcut.edgesOf. The contract of natcut.edgesOf. What a natural cut is.
-/
import Derived.Test.YtpgadcacimjlaabZF
import Derived.Test.YtpgadcacimjlaabFCut
import Derived.Deep.RegionHeld3
import Derived.BigRegion
import Derived.Test.YtpgadcacimjlaabZE
namespace Go.Proofs.Ytpgadcacimjlaab.F6
open Go.RowKit
/-- Edges as cells. -/
def cellsE : List A → List Value
  | [] => []
  | x :: r => .int .i64 x.f :: .int .i64 x.t :: .int .u32 x.w :: cellsE r
theorem cellsE_len : ∀ l : List A, (cellsE l).length = l.length * 3
  | [] => rfl
  | x :: r => by simp only [cellsE, List.length_cons, cellsE_len r]; omega
theorem cellsE_append : ∀ l m : List A, cellsE (l ++ m) = cellsE l ++ cellsE m
  | [], _ => rfl
  | x :: r, m => by simp only [cellsE, List.cons_append, cellsE_append r m]
theorem cellsE_at : ∀ (l : List A) (j : Nat), j < l.length → (cellsE l)[j * 3]? = some (.int .i64 (l.getD j A.zero).f) ∧ (cellsE l)[j * 3 + 1]? = some (.int .i64 (l.getD j A.zero).t) ∧ (cellsE l)[j * 3 + 2]? = some (.int .u32 (l.getD j A.zero).w)
  | [], _, h => absurd h (by simp)
  | x :: r, 0, _ => ⟨rfl, rfl, rfl⟩
  | x :: r, j + 1, h => by
    have := cellsE_at r j (by simpa using h)
    rw [show (j + 1) * 3 = j * 3 + 3 by omega]
    exact this
theorem cellsE_one : ∀ (l : List A), ∀ u ∈ cellsE l, u.oneCell' = true
  | [], u, h => by cases h
  | x :: r, u, h => by
    simp only [cellsE, List.mem_cons] at h
    rcases h with rfl | rfl | rfl | h
    · rfl
    · rfl
    · rfl
    · exact cellsE_one r u h
/-- A row of edges of our own. -/
def OwnE (w : World) (B : Nat) (a : Option Addr) (c : Nat) (l : List A) : Prop := w.ownsRow B 88 3 (.slice a l.length c) l.length (cellsE l)
theorem OwnE.some {w : World} {B : Nat} {a : Option Addr} {c : Nat} {l : List A} (h : OwnE w B a c l) (h0 : 0 < l.length) : ∃ g, a = some ⟨g, 0, none⟩ ∧ B ≤ g ∧ g < w.heap.size := by
  rcases h.2 with ⟨_, h'⟩ | ⟨g, c', cur, h', hb, hg, _⟩
  · omega
  · injection h' with e1 e2 e3
    exact ⟨g, e1, hb, lt_of_block hg⟩
theorem OwnE.at {w : World} {B g c : Nat} {l : List A} (h : OwnE w B (.some ⟨g, 0, none⟩) c l) (j : Nat) (hj : j < l.length) : (l.getD j A.zero).at w g (j * 3) := by
  obtain ⟨h1, h2, h3⟩ := cellsE_at l j hj
  exact ⟨(World.ownsRow.cellAt h (j * 3) (by omega)).trans h1, (World.ownsRow.cellAt h (j * 3 + 1) (by omega)).trans h2, (World.ownsRow.cellAt h (j * 3 + 2) (by omega)).trans h3⟩
theorem OwnE.arcs {w : World} {B : Nat} {a : Option Addr} {c : Nat} {l : List A} (h : OwnE w B a c l) : Arcs w a l := by
  by_cases h0 : 0 < l.length
  · obtain ⟨g, rfl, _, hg⟩ := h.some h0
    exact Or.inr ⟨g, 0, rfl, hg, fun j hj => by rw [Nat.zero_add]; exact h.at j hj⟩
  · exact Or.inl (List.eq_nil_of_length_eq_zero (by omega))
theorem OwnE.alloc {w : World} {B : Nat} {a : Option Addr} {c : Nat} {l : List A} (h : OwnE w B a c l) (o : Obj) : OwnE (w.alloc o) B a c l := World.ownsRow.alloc h o
end Go.Proofs.Ytpgadcacimjlaab.F6
namespace Go.Proofs.Ytpgadcacimjlaab
open Go.RowKit
theorem info94 : (Try.prog.info? 88).map (fun i => (i.zero, i.size, i.bytes)) = some (some (.agg #[.int .i64 0, .int .i64 0, .int .u32 0]), 3, 24) := by kernel_rfl
/-- The node that stands for a vertex when the first k of a region have been looked at. -/
def ndk (q : List Nat) (cr : Nat) : Nat → Nat → Nat
  | 0, _ => 1
  | k + 1, v => if v = q.getD k 0 then (if k < cr then 0 else 2 + k - cr) else ndk q cr k v
def nd (q : List Nat) (cr : Nat) : Nat → Nat := ndk q cr q.length
set_option maxRecDepth 100000 in
set_option maxHeartbeats 1600000 in
theorem nodes_any (n : Nat) (s : Value) (a : Option Addr) (q : List Nat) (cr c : Nat) (w : World) (hn : n ≤ 1024) (hql : q.length ≤ 1024) (hqn : ∀ u, u ∈ q → u < n) (hr : Ints w a (ints q)) :
    Calls Try.prog 27 #[.agg #[.int .i64 n, s], .slice a q.length c, .int .i64 cr] w fun e w' => ∃ b, e = .returned (.slice (some ⟨b, 0, none⟩) n n) ∧ w.heap.size ≤ b ∧ TbV w' b n 3 (fun v => .int .i64 (nd q cr v : Nat)) ∧ Below w.heap.size w w' := by
  have hb0 : Below w.heap.size w (w.alloc (.cells #[.int .i64 n, s] 24)) := (Below.refl _ _).alloc (Nat.le_refl _) _
  have hg := heap_top w (.cells #[.int .i64 n, s] 24)
  obtain ⟨i3, hi3, hz3, hs3, hb3⟩ := info_parts info3
  have hmk : ∀ w, (Instr.makeSlice 25 (.int .i64 n) (.int .i64 n)).run Try.prog w = .ok (.slice (some ⟨w.heap.size, 0, none⟩) n n) (w.alloc (.cells ((List.range n).map (fun _ => Value.int .i64 0)).toArray 3)) := fun w => by
    have := run_make (P := Try.prog) w 25 3 i3 (.int .i64 0) Try.underlying25 hi3 hz3 .i64 .i64 n n (by omega) (by omega) (by rw [hb3]; omega) (by omega)
    rw [this, Int.toNat_natCast, hs3, made_int]
  clear hi3 hz3 hs3 hb3
  clear i3
  obtain ⟨ix, ox, hix⟩ := hr.get
  have HIX := Lib.hid hix
  have HQN := Lib.hid hqn
  clear hix hr hqn
  generalize hp : w.heap.size = p at *
  have hgv := (Below.heap_alloc (w.alloc (.cells #[.int .i64 n, s] 24)) (.cells ((List.range n).map (fun _ => Value.int .i64 0)).toArray 3) p (lt_of_block hg)).trans hg
  have HT0 : Hid (TbV ((w.alloc (.cells #[.int .i64 n, s] 24)).alloc (.cells ((List.range n).map (fun _ => Value.int .i64 0)).toArray 3)) (p + 1) n 3 (fun _ => .int .i64 0)) := by
    have := heap_top (w.alloc (.cells #[.int .i64 n, s] 24)) (.cells ((List.range n).map (fun _ => Value.int .i64 0)).toArray 3)
    rw [World.size_alloc, hp] at this
    exact this
  have HBV : Hid (Below p w ((w.alloc (.cells #[.int .i64 n, s] 24)).alloc (.cells ((List.range n).map (fun _ => Value.int .i64 0)).toArray 3))) := hb0.alloc (by simp; omega) _
  go_enter Try.func27, Try.ntmps27
  go_wp2_with fail
  generalize hV : (w.alloc (.cells #[.int .i64 n, s] 24)).alloc (.cells ((List.range n).map (fun _ => Value.int .i64 0)).toArray 3) = V at *
  clear hV hmk hg hb0
  go_loopw [16] (fun i wr => ∃ k : Nat, k ≤ n ∧ i = .int .i64 k ∧ TbV wr (p + 1) n 3 (fun v => .int .i64 (if v < k then 1 else 0)) ∧ Hid (Fr (fun j => j = p + 1) V wr)) (fun i _ => n - (intOf i).toNat)
  case atStart => exact ⟨0, Nat.zero_le _, rfl, HT0.out.congr (fun v _ => by simp), Fr.refl _ _⟩
  case round =>
    obtain ⟨k, hk, rfl, htb, HF⟩ := hrel
    by_cases hlt : k < n
    · have hlt' : (k : Int) < n := by omega
      have d1 := htb.cell hlt
      have d2 := htb.free k
      generalize (if k < k then (1 : Int) else 0) = old at d1
      go_wp2_with fail
      refine ⟨⟨k + 1, by omega, by simp, (htb.set k (.int .i64 1)).congr (fun v _ => ?_), HF.out.setCell ⟨p + 1, k, none⟩ _ rfl⟩, by simp [intOf]; omega⟩
      by_cases e : v = k
      · subst e; rw [updV_self, if_pos (by omega)]
      · rw [updV_ne _ _ e]
        by_cases h : v < k
        · rw [if_pos h, if_pos (by omega)]
        · rw [if_neg h, if_neg (by omega)]
    · obtain rfl : k = n := by omega
      have hlt' : ¬ (k : Int) < k := by omega
      have HT1 : Hid (TbV wr (p + 1) k 3 (fun v => .int .i64 (ndk q cr 0 v : Nat))) := htb.congr (fun v hv => by rw [if_pos hv]; rfl)
      have HF1 := HF
      clear htb HF hlt hk
      go_wp2_with fail
      generalize wr = w2 at *
      go_loopw [25] (fun i wr => ∃ j : Nat, j ≤ q.length ∧ i = .int .i64 j ∧ TbV wr (p + 1) k 3 (fun v => .int .i64 (ndk q cr j v : Nat)) ∧ Hid (Fr (fun j => j = p + 1) V wr)) (fun i _ => q.length - (intOf i).toNat)
      case atStart => exact ⟨0, Nat.zero_le _, rfl, HT1.out, HF1⟩
      case round =>
        obtain ⟨j, hj, rfl, htb, HF⟩ := hrel
        have HBR : Hid (Below p w wr) := HBV.out.trans (HF.out.below (B := p) (hp ▸ HBV.out.size) (fun k e => by have e : k = p + 1 := e; omega))
        by_cases hlj : j < q.length
        · obtain ⟨rfl, hbl, hat⟩ := HIX.out (by rw [ints_len]; omega)
          have hlj' : (j : Int) < q.length := by omega
          have cx := (HBR.out.cell (p := ⟨ix, ox + j, none⟩) (hp ▸ hbl)).trans (hat j (by rw [ints_len]; exact hlj))
          rw [ints_getD hlj] at cx
          have hun : q.getD j 0 < k := HQN.out _ (by simp [List.getD, List.getElem?_eq_getElem hlj])
          have HST : Hid (∀ v, ndk q cr (j + 1) v = if v = q.getD j 0 then (if j < cr then 0 else 2 + j - cr) else ndk q cr j v) := fun v => rfl
          clear hat
          generalize q.getD j 0 = u at *
          have hun' : (u : Int) < k := by omega
          have d1 := htb.cell hun
          have d2 := htb.free u
          generalize ((ndk q cr j u : Nat) : Int) = old at d1
          by_cases hjc : j < cr
          · have hjc' : (j : Int) < cr := by omega
            go_wp2_with fail
            refine ⟨⟨j + 1, by omega, by simp, (htb.set u (.int .i64 0)).congr (fun v _ => ?_), HF.out.setCell ⟨p + 1, u, none⟩ _ rfl⟩, by simp [intOf]; omega⟩
            rw [HST.out v]
            by_cases e : v = u
            · subst e; rw [updV_self, if_pos rfl, if_pos hjc]; rfl
            · rw [updV_ne _ _ e, if_neg e]
          · have hjc' : ¬ (j : Int) < cr := by omega
            have hs1 : (2 : Int) + j - cr = ((2 + j - cr : Nat) : Int) := by omega
            go_wp2_with fail
            refine ⟨⟨j + 1, by omega, by simp, (htb.set u (.int .i64 ((2 + j - cr : Nat) : Int))).congr (fun v _ => ?_), HF.out.setCell ⟨p + 1, u, none⟩ _ rfl⟩, by simp [intOf]; omega⟩
            rw [HST.out v]
            by_cases e : v = u
            · subst e; rw [updV_self, if_pos rfl, if_neg hjc]
            · rw [updV_ne _ _ e, if_neg e]
        · obtain rfl : j = q.length := by omega
          have hlj' : ¬ (q.length : Int) < q.length := by omega
          have HTB := Lib.hid htb
          clear htb
          go_wp2_with fail
          go_ret
          exact ⟨p + 1, rfl, by omega, HTB.out, HBR.out⟩
end Go.Proofs.Ytpgadcacimjlaab
namespace Go.Proofs.Ytpgadcacimjlaab
open Go.RowKit
/-- The edges of a pair between two nodes, there and back. -/
def ed2 (D : Nat → Nat) (p : Pr) : List F6.A := if D p.a = D p.b then [] else [⟨(D p.a : Nat), (D p.b : Nat), 1⟩, ⟨(D p.b : Nat), (D p.a : Nat), 1⟩]
def eds (ps : List Pr) (D : Nat → Nat) : List F6.A := ps.flatMap (ed2 D)
theorem eds_snoc (q : List Pr) (p : Pr) (D : Nat → Nat) : eds (q ++ [p]) D = eds q D ++ ed2 D p := by simp [eds, List.flatMap_append]
theorem ed2_len (D : Nat → Nat) (p : Pr) : (ed2 D p).length ≤ 2 := by unfold ed2; split <;> simp
theorem eds_len (D : Nat → Nat) : ∀ ps : List Pr, (eds ps D).length ≤ 2 * ps.length
  | [] => by simp [eds]
  | p :: r => by
    have h1 := eds_len D r
    have h2 := ed2_len D p
    have : eds (p :: r) D = ed2 D p ++ eds r D := by simp [eds]
    rw [this, List.length_append, List.length_cons]
    omega
theorem news2 (w : World) (x y : Nat) : ∀ j u, (F6.cellsE [⟨(x : Int), (y : Int), 1⟩, ⟨(y : Int), (x : Int), 1⟩])[j]? = some u → (w.alloc (.cells #[.int .i64 (x : Int), .int .i64 (y : Int), .int .u32 1, .int .i64 (y : Int), .int .i64 (x : Int), .int .u32 1] 88)).cell? ((⟨w.heap.size, 0, none⟩ : Addr).add j) = some u := by
  intro j u hu
  have h := heap_top w (.cells #[.int .i64 (x : Int), .int .i64 (y : Int), .int .u32 1, .int .i64 (y : Int), .int .i64 (x : Int), .int .u32 1] 88)
  rw [Go.WideShapes.add_plain, Nat.zero_add]
  generalize w.alloc (.cells #[.int .i64 (x : Int), .int .i64 (y : Int), .int .u32 1, .int .i64 (y : Int), .int .i64 (x : Int), .int .u32 1] 88) = W at *
  generalize w.heap.size = b at *
  match j, hu with
  | 0, hu => simp [F6.cellsE] at hu; subst hu; simp [World.cell?, h]
  | 1, hu => simp [F6.cellsE] at hu; subst hu; simp [World.cell?, h]
  | 2, hu => simp [F6.cellsE] at hu; subst hu; simp [World.cell?, h]
  | 3, hu => simp [F6.cellsE] at hu; subst hu; simp [World.cell?, h]
  | 4, hu => simp [F6.cellsE] at hu; subst hu; simp [World.cell?, h]
  | 5, hu => simp [F6.cellsE] at hu; subst hu; simp [World.cell?, h]
  | j + 6, hu => simp [F6.cellsE] at hu
set_option maxRecDepth 100000 in
set_option maxHeartbeats 1600000 in
theorem edges_any (ps : List Pr) (a : Option Addr) (c b n : Nat) (D : Nat → Nat) (w : World) (hpl : ps.length ≤ 8192) (hps : Prs w a ps) (hlt : ∀ p, p ∈ ps → p.a < n ∧ p.b < n) (ht : TbV w b n 3 (fun v => .int .i64 (D v : Nat))) :
    Calls Try.prog 28 #[.slice a ps.length c, .slice (some ⟨b, 0, none⟩) n n] w fun e w' => ∃ v c', e = .returned (.slice v (eds ps D).length c') ∧ F6.OwnE w' w.heap.size v c' (eds ps D) ∧ Below w.heap.size w w' := by
  obtain ⟨i0, hi, hz0, hz1, hz2⟩ := info_parts info94
  obtain ⟨ix, ox, hix⟩ := hps.get
  have HIX := Lib.hid hix
  have HLT := Lib.hid hlt
  have HTB := Lib.hid ht
  clear hix hps hlt ht
  obtain ⟨z0, hz0'⟩ : ∃ z0 : Array Value, (madeCells (Value.agg #[.int .i64 0, .int .i64 0, .int .u32 0]).cells (2 * ps.length * 3)) = z0 ∧ z0.size = 2 * ps.length * 3 := ⟨_, rfl, by simp [madeCells]⟩
  have hmk : ∀ w, (Instr.makeSlice 65 (.int .i64 0) (.int .i64 (2 * (ps.length : Int)))).run Try.prog w = .ok (.slice (some ⟨w.heap.size, 0, none⟩) 0 (2 * ps.length)) (w.alloc (.cells z0 88)) := fun w => by
    have := run_make (P := Try.prog) w 65 88 i0 _ Try.underlying65 hi hz0 .i64 .i64 0 (2 * (ps.length : Int)) (by omega) (by omega) (by rw [hz2]; omega) (by omega)
    rw [hz1] at this
    rw [this, show (2 * (ps.length : Int)).toNat = 2 * ps.length by omega, hz0'.1]
    rfl
  have HO0 : Hid ((w.alloc (.cells z0 88)).ownsRow w.heap.size 88 3 (.slice (some ⟨w.heap.size, 0, none⟩) 0 (2 * ps.length)) 0 []) := ⟨rfl, .inr ⟨w.heap.size, 2 * ps.length, z0, rfl, Nat.le_refl _, heap_top w _, by omega, by unfold maxLen; omega, hz0'.2, by simp⟩⟩
  have HB0 : Hid (Below w.heap.size w (w.alloc (.cells z0 88))) := (Below.refl _ _).alloc (Nat.le_refl _) _
  clear hz0'
  generalize hp : w.heap.size = p at *
  go_enter Try.func28, Try.ntmps28
  go_wp2_with fail
  generalize hV : w.alloc (.cells z0 88) = V at *
  clear hV hmk
  go_loopw [5, 16] (fun s5 i wr => ∃ (k : Nat) (av : Option Addr) (cv len : Nat), k ≤ ps.length ∧ i = .int .i64 k ∧ s5 = .slice av len cv ∧ Hid ((eds (ps.take k) D).length = len) ∧ Hid (wr.ownsRow p 88 3 (.slice av len cv) len (F6.cellsE (eds (ps.take k) D))) ∧ Hid (Below p w wr)) (fun _ i _ => ps.length - (intOf i).toNat)
  case atStart => exact ⟨0, some ⟨p, 0, none⟩, 2 * ps.length, 0, Nat.zero_le _, rfl, rfl, rfl, HO0, HB0⟩
  case round =>
    obtain ⟨k, av, cv, len, hk, rfl, rfl, HLN, HOW, HBR⟩ := hrel
    have hpw : p ≤ wr.heap.size := hp ▸ HBR.out.size
    by_cases hlk : k < ps.length
    · obtain ⟨rfl, hbl, hat⟩ := HIX.out (by omega)
      have hlk' : (k : Int) < ps.length := by omega
      obtain ⟨x0, x1⟩ := hat k hlk
      have y0 := (HBR.out.cell (p := ⟨ix, ox + k * 2, none⟩) (hp ▸ hbl)).trans x0
      have y1 := (HBR.out.cell (p := ⟨ix, ox + k * 2 + 1, none⟩) (hp ▸ hbl)).trans x1
      have HTS := Lib.hid (take_snocP hlk)
      obtain ⟨ha, hb⟩ := HLT.out (ps.getD k Pr.zero) (getD_memP hlk)
      have hlen : len ≤ 16384 := by
        rw [← HLN.out]
        have := eds_len D (ps.take k)
        rw [List.length_take] at this
        omega
      clear hat x0 x1
      generalize ps.getD k Pr.zero = x at *
      have htr : TbV (wr.alloc (.cells #[.int .i64 (x.a : Int), .int .i64 (x.b : Int)] 36)) b n 3 (fun v => .int .i64 (D v : Nat)) := HTB.out.same (((HBR.out.alloc (by omega) _).block b (hp ▸ HTB.out.lt)))
      have ha' : (x.a : Int) < n := by omega
      have hb' : (x.b : Int) < n := by omega
      have da := htr.cell ha
      have db := htr.cell hb
      have HSN := Lib.hid (eds_snoc (ps.take k) x D)
      have hbx := heap_top wr (.cells #[.int .i64 (x.a : Int), .int .i64 (x.b : Int)] 36)
      obtain ⟨⟨b0, b1⟩, _⟩ := two_cells hbx
      have HOA := Lib.hid (HOW.out.alloc (.cells #[.int .i64 (x.a : Int), .int .i64 (x.b : Int)] 36))
      have HBA : Hid (Below p w (wr.alloc (.cells #[.int .i64 (x.a : Int), .int .i64 (x.b : Int)] 36))) := HBR.out.alloc (by omega) _
      have hzA : (wr.alloc (.cells #[.int .i64 (x.a : Int), .int .i64 (x.b : Int)] 36)).heap.size = wr.heap.size + 1 := by simp
      clear htr hbx
      unfold ed2 at HSN
      go_wp2_with fail
      generalize hU : wr.alloc (.cells #[.int .i64 (x.a : Int), .int .i64 (x.b : Int)] 36) = U at *
      go_quiet (fail)
      have HON : Hid ((U.drewN nq).ownsRow p 88 3 (.slice av len cv) len (F6.cellsE (eds (ps.take k) D))) := HOA.out
      have HBN : Hid (Below p w (U.drewN nq)) := ⟨HBA.out.os, HBA.out.tape, HBA.out.output, HBA.out.size, HBA.out.block⟩
      have hzN : (U.drewN nq).heap.size = wr.heap.size + 1 := hzA
      generalize hUN : U.drewN nq = UN at *
      generalize hda : D x.a = na at *
      generalize hdb : D x.b = nb at *
      by_cases hab : na = nb
      · subst hab
        have hne : ((na : Int) != (na : Int)) = false := by simp
        have HE2 : Hid (eds (ps.take (k + 1)) D = eds (ps.take k) D) := by show _ = _; rw [HTS.out, HSN.out, if_pos rfl, List.append_nil]
        go_wp2_with fail
        refine ⟨⟨k + 1, av, cv, len, by omega, by simp, rfl, ?_, ?_, HBN⟩, by simp [intOf]; omega⟩
        · rw [HE2.out]; exact HLN
        · rw [HE2.out]; exact HON
      · have hne : ((na : Int) != (nb : Int)) = true := by simp; omega
        have HE2 : Hid (eds (ps.take (k + 1)) D = eds (ps.take k) D ++ [⟨(na : Int), (nb : Int), 1⟩, ⟨(nb : Int), (na : Int), 1⟩]) := by show _ = _; rw [HTS.out, HSN.out, if_neg hab]
        have hnw := news2 UN na nb
        rw [hzN] at hnw
        have HNW := Lib.hid hnw
        clear hnw
        have HOW2 := Lib.hid (HON.out.alloc (.cells #[.int .i64 (na : Int), .int .i64 (nb : Int), .int .u32 1, .int .i64 (nb : Int), .int .i64 (na : Int), .int .u32 1] 88))
        have HBS : Hid (p ≤ (UN.alloc (.cells #[.int .i64 (na : Int), .int .i64 (nb : Int), .int .u32 1, .int .i64 (nb : Int), .int .i64 (na : Int), .int .u32 1] 88)).heap.size) := by show _ ≤ _; simp; omega
        have HBB : Hid (Below p w (UN.alloc (.cells #[.int .i64 (na : Int), .int .i64 (nb : Int), .int .u32 1, .int .i64 (nb : Int), .int .i64 (na : Int), .int .u32 1] 88))) := HBN.out.alloc (by omega) _
        have HOL : Hid (∀ b, (Value.slice av len cv).ownBlock = some b → p ≤ b) := fun b hb => (HOW.out.lt b hb).1
        have HCA : Hid (F6.cellsE (eds (ps.take k) D) ++ F6.cellsE [⟨(na : Int), (nb : Int), 1⟩, ⟨(nb : Int), (na : Int), 1⟩] = F6.cellsE (eds (ps.take (k + 1)) D)) := by show _ = _; rw [HE2.out, F6.cellsE_append]
        have HL2 : Hid ((eds (ps.take (k + 1)) D).length = len + 2) := by show _ = _; rw [HE2.out, List.length_append, HLN.out]; rfl
        go_wp2_with (at_builtin; refine wpList_append_own _ rfl (.tmp 33) (.tmp 40) 65 rfl p 88 i0 _ 3 24 Try.underlying65 hi hz0 hz1 hz2 rfl (by decide) (.slice av len cv) len (F6.cellsE (eds (ps.take k) D)) rfl HOW2.out ⟨wr.heap.size + 1, 0, none⟩ 2 2 (F6.cellsE [⟨(na : Int), (nb : Int), 1⟩, ⟨(nb : Int), (na : Int), 1⟩]) rfl rfl HNW.out (F6.cellsE_one _) (by unfold maxLen; omega) (by omega) HBS.out ?_; intro v6 w6 hown6 hgrow6 hnil6; obtain ⟨g6, c6, hv6, _, _, _, _⟩ := own_shape hown6 (fun e => by have := hnil6.1 e; simp at this); subst hv6; rw [HCA.out] at hown6; have HO6 := Lib.hid hown6; have HB6 := Lib.hid (HBB.out.grown hgrow6 HBS.out (by intro b hb; exact HOL.out b hb)); clear hown6 hgrow6 hnil6)
        exact ⟨⟨k + 1, some ⟨g6, 0, none⟩, c6, len + 2, by omega, by simp, rfl, HL2, HO6, HB6⟩, by simp [intOf]; omega⟩
    · have e0 : ps.take k = ps := List.take_of_length_le (by omega)
      have hlk' : ¬ (k : Int) < ps.length := by omega
      rw [e0] at HLN HOW
      clear e0
      go_wp2_with fail
      go_ret
      refine ⟨av, cv, by rw [HLN.out]; rfl, ?_, HBR.out⟩
      show World.ownsRow _ _ _ _ _ _ _
      rw [HLN.out]; exact HOW.out
end Go.Proofs.Ytpgadcacimjlaab
namespace Go.Proofs.Ytpgadcacimjlaab
open Go.RowKit
theorem ndk_lt {q : List Nat} {cr : Nat} (hc : cr ≤ q.length) : ∀ k, k ≤ q.length → ∀ v, ndk q cr k v < 2 + q.length - cr
  | 0, _, v => by simp only [ndk]; omega
  | k + 1, hk, v => by
    simp only [ndk]
    split
    · split <;> omega
    · exact ndk_lt hc k (by omega) v
theorem nd_lt {q : List Nat} {cr : Nat} (hc : cr ≤ q.length) (v : Nat) : nd q cr v < 2 + q.length - cr := ndk_lt hc _ (Nat.le_refl _) v
theorem eds_mem {ps : List Pr} {D : Nat → Nat} {x : F6.A} (h : x ∈ eds ps D) : ∃ i j, x = ⟨(D i : Nat), (D j : Nat), 1⟩ := by
  obtain ⟨p, _, hp⟩ := List.mem_flatMap.1 h
  unfold ed2 at hp
  split at hp
  · cases hp
  · simp only [List.mem_cons, List.not_mem_nil, or_false] at hp
    rcases hp with h | h
    · exact ⟨_, _, h⟩
    · exact ⟨_, _, h⟩
theorem prl_lt {n : Nat} {l : List A} (hoa : ∀ x, x ∈ l → (0 ≤ x.f ∧ x.f < (n : Int)) ∧ (0 ≤ x.t ∧ x.t < (n : Int))) {p : Pr} (hp : p ∈ prl l) : p.a < n ∧ p.b < n := by
  obtain ⟨_, h⟩ := (prl_mem (fun x hx => ⟨(hoa x hx).1.1, (hoa x hx).2.1⟩)).1 hp
  unfold nr at h
  obtain ⟨x, hx, h⟩ := List.any_eq_true.1 h
  have := hoa x hx
  simp only [Bool.or_eq_true, Bool.and_eq_true, beq_iff_eq] at h
  omega
theorem reg_lt {N : Nat} {l : List A} {c m : Nat} (hc : c < N) : ∀ u, u ∈ reg N l c m → u < N := fun u hu => (gro_inv (E := edl l) (M := 2 * l.length) (S := fun _ => false) hc N).lt u (List.mem_of_mem_take hu)
theorem reg_nodup {N : Nat} {l : List A} {c m : Nat} (hc : c < N) : (reg N l c m).Nodup := ((gro_inv (E := edl l) (M := 2 * l.length) (S := fun _ => false) hc N).nd).sublist (List.take_sublist _ _)
theorem reg_short {N : Nat} {l : List A} {c m : Nat} (hc : c < N) : (reg N l c m).length ≤ N := nodup_short (reg_nodup hc) (reg_lt hc)
theorem whole_some (E : List Ed) (M N : Nat) (S : Nat → Bool) (c : Nat) : 1 ≤ (whole E M N S c).length := by
  have h := (gro_pre (E := E) (M := M) (N := N) (S := S) (c := c) (k := 0) N).length_le
  rw [Nat.zero_add] at h
  exact h
theorem reg_some (N : Nat) (l : List A) (c : Nat) {m : Nat} (hm : 1 ≤ m) : 1 ≤ (reg N l c m).length := by
  unfold reg
  rw [List.length_take]
  have := whole_some (edl l) (2 * l.length) N (fun _ => false) c
  omega
theorem core_len (N : Nat) (l : List A) (c m : Nat) : (core N l c m).length = ((reg N l c m).length + 3) / 4 := by
  unfold core
  rw [List.length_take]
  omega
/-- The node of a vertex, how many nodes there are, the edges. -/
def dN (n : Nat) (l : List A) (c m : Nat) : Nat → Nat := nd (reg n l c m) (core n l c m).length
def nN (n : Nat) (l : List A) (c m : Nat) : Nat := 2 + (reg n l c m).length - (core n l c m).length
def eN (n : Nat) (l : List A) (c m : Nat) : List F6.A := eds (prl l) (dN n l c m)
theorem core_le (n : Nat) (l : List A) (c m : Nat) : (core n l c m).length ≤ (reg n l c m).length := by rw [core_len]; omega
theorem dN_lt (n : Nat) (l : List A) (c m v : Nat) : dN n l c m v < nN n l c m := nd_lt (core_le n l c m) v
theorem nN_two (n : Nat) (l : List A) (c m : Nat) : 2 ≤ nN n l c m := by have := core_le n l c m; unfold nN; omega
theorem eN_ok {n : Nat} {l : List A} {c m : Nat} (hn : n ≤ 1024) (hl : l.length ≤ 8192) (hc : c < n) (hm : 1 ≤ m) : F6.flE (nN n l c m : Nat) (eN n l c m) 0 1 = 0 ∧ F6.Ok (nN n l c m : Nat) (eN n l c m) ((0 : Nat) : Int) ((1 : Nat) : Int) (nN n l c m) 0 1 := by
  have h1 := reg_some n l c hm
  have h2 := reg_short (l := l) (m := m) hc
  have h3 := core_len n l c m
  have h4 := core_le n l c m
  have h5 : nN n l c m ≤ 1024 := by unfold nN; omega
  have h6 := nN_two n l c m
  have h7 : (eN n l c m).length ≤ 16384 := Nat.le_trans (eds_len _ _) (by have := prl_len l; omega)
  have h8 : ∀ x, x ∈ eN n l c m → ∃ i j : Nat, i < nN n l c m ∧ j < nN n l c m ∧ x = ⟨(i : Int), (j : Int), 1⟩ := fun x hx => by
    obtain ⟨i, j, h⟩ := eds_mem hx
    exact ⟨_, _, dN_lt n l c m i, dN_lt n l c m j, h⟩
  have h9 : F6.chkE (nN n l c m : Nat) (eN n l c m) = 0 := by
    unfold F6.chkE
    rw [if_neg (by omega), if_neg (by omega), if_pos]
    rw [List.all_eq_true]
    intro x hx
    obtain ⟨i, j, hi, hj, rfl⟩ := h8 x hx
    simp [F6.okA, F6.okV, hi, hj]
  refine ⟨?_, rfl, rfl, rfl, ⟨by omega, h5, by rw [F6.edl_len]; exact h7, ?_, ?_⟩, ?_, by omega, by omega, by omega⟩
  · unfold F6.flE
    rw [if_pos h9, if_pos (by simp [F6.okV]; omega), if_pos (by simp [F6.okV]; omega), if_neg (by omega)]
  · intro j hj
    rw [F6.edl_len] at hj
    rw [F6.edl_at hj]
    obtain ⟨i, k, hi, hk, e⟩ := h8 ((eN n l c m).getD j F6.A.zero) (by simp [List.getD, List.getElem?_eq_getElem hj])
    rw [e]
    exact ⟨by simpa using hi, by simpa using hk⟩
  · intro j hj
    rw [F6.edl_len] at hj
    rw [F6.edl_at hj]
    obtain ⟨i, k, hi, hk, e⟩ := h8 ((eN n l c m).getD j F6.A.zero) (by simp [List.getD, List.getElem?_eq_getElem hj])
    rw [e]
    exact ⟨show (0 : Int) ≤ 1 by decide, show (1 : Int) < 4294967296 by decide⟩
  · intro x hx
    obtain ⟨i, j, hi, hj, rfl⟩ := h8 x hx
    exact ⟨by simp, by simp⟩
/-- A flow and what is reached when it has ended. -/
structure Cf (n : Nat) (l : List A) (c m : Nat) (fl rk : Nat → Int) : Prop where
  flow : F6.Flow (nN n l c m) (F6.edl (eN n l c m)) 0 1 fl
  rank : F6.Rk (nN n l c m) (eN n l c m).length (F6.edl (eN n l c m)) fl 1 0 1 rk
  far : rk 1 = -1
/-- The pairs of a cut. -/
def cutP (n : Nat) (l : List A) (c m : Nat) (rk : Nat → Int) : List Pr := (prl l).filter (fun p => F6.side rk (dN n l c m p.a) != F6.side rk (dN n l c m p.b))
/-- What Cut answers around c. -/
def CutIs (n : Nat) (l : List A) (c m : Nat) (xs : List Pr) : Prop := if (reg n l c m).length = n then xs = [] else ∃ fl rk, Cf n l c m fl rk ∧ xs = cutP n l c m rk
theorem Cf.one {n : Nat} {l : List A} {c m : Nat} {f1 r1 f2 r2 : Nat → Int} (hn : n ≤ 1024) (hl : l.length ≤ 8192) (hc : c < n) (hm : 1 ≤ m) (h1 : Cf n l c m f1 r1) (h2 : Cf n l c m f2 r2) : cutP n l c m r1 = cutP n l c m r2 := by
  obtain ⟨_, ok⟩ := eN_ok (m := m) hn hl hc hm
  have hE : ∀ k, k < 2 * (eN n l c m).length → F6.frm (F6.edl (eN n l c m)) k < nN n l c m ∧ F6.tto (F6.edl (eN n l c m)) k < nN n l c m := fun k hk => by
    have := ok.g.ends (k / 2) (by rw [F6.edl_len]; omega)
    unfold F6.frm F6.tto
    split
    · exact this
    · exact ⟨this.2, this.1⟩
  have key := F6.Rk.both ok.g (by have := nN_two n l c m; omega) (F6.edl_len _) hE h1.rank h2.rank h1.flow h2.flow h1.far h2.far
  unfold cutP
  refine List.filter_congr (fun p _ => ?_)
  rw [key _ (dN_lt n l c m p.a), key _ (dN_lt n l c m p.b)]
theorem CutIs.one {n : Nat} {l : List A} {c m : Nat} {xs ys : List Pr} (hn : n ≤ 1024) (hl : l.length ≤ 8192) (hc : c < n) (hm : 1 ≤ m) (h1 : CutIs n l c m xs) (h2 : CutIs n l c m ys) : xs = ys := by
  unfold CutIs at h1 h2
  by_cases h : (reg n l c m).length = n
  · rw [if_pos h] at h1 h2; rw [h1, h2]
  · rw [if_neg h] at h1 h2
    obtain ⟨f1, r1, a1, b1⟩ := h1
    obtain ⟨f2, r2, a2, b2⟩ := h2
    rw [b1, b2]
    exact a1.one hn hl hc hm a2
end Go.Proofs.Ytpgadcacimjlaab
namespace Go.Proofs.Ytpgadcacimjlaab
open Go.RowKit
theorem filter_snocP {ps : List Pr} {f : Pr → Bool} {k : Nat} (h : k < ps.length) : (ps.take (k + 1)).filter f = (ps.take k).filter f ++ (if f (ps.getD k Pr.zero) then [ps.getD k Pr.zero] else []) := by
  rw [take_snocP h, List.filter_append]
  congr 1
  simp only [List.filter_cons, List.filter_nil]
set_option maxRecDepth 100000 in
set_option maxHeartbeats 3200000 in
theorem cutAround_any (n : Nat) (c m : Int) (a : Option Addr) (l : List A) (cap : Nat) (pa : Option Addr) (pc : Nat) (w : World) (hE : chkE n l = 0) (hr : Arcs w a l) (hps : Prs w pa (prl l)) :
    Calls Try.prog 14 #[.agg #[.int .i64 n, .slice a l.length cap], .slice pa (prl l).length pc, .int .i64 c, .int .i64 m] w fun e w' => ∃ v cc xs, e = .returned (.tuple #[.slice v xs.length cc, .int .i64 (gchk n c m l)]) ∧ OwnP w' w.heap.size v cc xs ∧ (gchk n c m l = 0 → CutIs n l c.toNat m.toNat xs) ∧ (gchk n c m l ≠ 0 → xs = []) ∧ Below w.heap.size w w' := by
  obtain ⟨h1n, hn, hl, hoa⟩ := chk_zero hE
  have hn' : n ≤ 1024 := by omega
  obtain ⟨G, HG⟩ := named (gchk n c m l)
  rw [HG.out]
  have HND : Hid (∀ p, p ∈ prl l → p.a < n ∧ p.b < n) := fun p hp => prl_lt hoa hp
  have hpl : (prl l).length ≤ 8192 := Nat.le_trans (prl_len l) hl
  have HE := Lib.hid hE
  have hb0 : Below w.heap.size w (w.alloc (.cells #[.int .i64 n, .slice a l.length cap] 24)) := (Below.refl _ _).alloc (Nat.le_refl _) _
  have hg := heap_top w (.cells #[.int .i64 n, .slice a l.length cap] 24)
  have HR := Lib.hid (hr.on hb0)
  have HPS := Lib.hid (hps.on hb0)
  have hwz : w.heap.size ≤ (w.alloc (.cells #[.int .i64 n, .slice a l.length cap] 24)).heap.size := hb0.size
  have HB0 := Lib.hid hb0
  clear hE hr hps hb0 hoa
  generalize hp : w.heap.size = p at *
  go_enter Try.func14, Try.ntmps14
  go_wp2_with fail
  generalize hW : w.alloc (.cells #[.int .i64 n, .slice a l.length cap] 24) = W at *
  clear hW
  have hpz : p < W.heap.size := lt_of_block hg
  refine (region_any n c m a l cap W (by omega) HR.out).mono ?_
  rintro e w1 ⟨v1, xs, rfl, hown1, hxs, hb1⟩
  obtain ⟨q1, q2, rfl⟩ := own_slice hown1
  rw [HG.out] at hxs ⊢
  have HB1 : Hid (Below p w w1) := HB0.out.trans (hb1.mono hwz)
  have HW1 := Lib.hid hb1
  have hg1 := (hb1.block p hpz).trans hg
  obtain ⟨⟨c0, _⟩, _⟩ := two_cells hg1
  have HO1 := Lib.hid (own_base hown1 hwz)
  have HI1 := Lib.hid (own_ints hown1 rfl)
  clear hown1 hb1
  by_cases hG : G ≠ 0
  · have e1 : (G != 0) = true := by simpa using hG
    have e2 : (G == 0) = false := by simpa using hG
    go_wp2_with fail
    go_ret2
    exact ⟨none, 0, [], rfl, ⟨rfl, .inl ⟨rfl, rfl⟩⟩, fun h => absurd h hG, fun _ => rfl, HB1.out⟩
  obtain rfl : G = 0 := by omega
  clear hG
  rw [if_pos rfl] at hxs
  obtain ⟨_, ⟨hc0, hcn⟩, hm1, hm2⟩ := gchk_zero HG.out
  have HCN : Hid (c.toNat < n ∧ 1 ≤ m.toNat) := ⟨by omega, by omega⟩
  rw [Int.toNat_natCast] at hxs
  have hxl : xs.length ≤ n := by rw [hxs]; exact reg_short HCN.out.1
  have HXS := Lib.hid hxs
  clear hxs
  by_cases hxn : xs.length = n
  · have hxi : ((xs.length : Int) == (n : Int)) = true := by simp; omega
    have HCI : Hid (CutIs n l c.toNat m.toNat []) := by show CutIs _ _ _ _ _; unfold CutIs; rw [if_pos (by rw [← HXS.out]; exact hxn)]
    go_wp2_with fail
    go_ret2
    exact ⟨none, 0, [], rfl, ⟨rfl, .inl ⟨rfl, rfl⟩⟩, HCI.out, HB1.out⟩
  have hxi : ((xs.length : Int) == (n : Int)) = false := by simp; omega
  go_wp2_with fail
  refine (core_any n c m a l cap w1 (by omega) (HR.out.on HW1.out)).mono ?_
  rintro e w2 ⟨v2, ys, rfl, hown2, hys, hb2⟩
  obtain ⟨q3, q4, rfl⟩ := own_slice hown2
  rw [HG.out] at hys ⊢
  rw [if_pos rfl, Int.toNat_natCast] at hys
  have hpz1 : p < w1.heap.size := lt_of_block hg1
  have hg2 := (hb2.block p hpz1).trans hg1
  obtain ⟨⟨c0', _⟩, _⟩ := two_cells hg2
  have HB2 : Hid (Below p w w2) := HB1.out.trans (hb2.mono (by omega))
  have HI2 := Lib.hid (HI1.out.on hb2)
  have HW2 := Lib.hid (HW1.out.trans (hb2.mono HW1.out.size))
  have HYS := Lib.hid hys
  have hyl : ys.length ≤ xs.length := by rw [hys, HXS.out]; exact core_le _ _ _ _
  have HQN : Hid (∀ u, u ∈ xs → u < n) := fun u hu => reg_lt HCN.out.1 u (HXS.out ▸ hu)
  obtain ⟨D, HD⟩ := named (dN n l c.toNat m.toNat)
  obtain ⟨NN, HNN⟩ := named (nN n l c.toNat m.toNat)
  obtain ⟨EN, HEN⟩ := named (eN n l c.toNat m.toNat)
  have HND2 : Hid (nd xs ys.length = D) := by show _ = _; rw [HXS.out, HYS.out]; exact HD.out
  have hnn : (2 : Int) + xs.length - ys.length = (NN : Int) := by
    have h := HNN.out
    unfold nN at h
    rw [← HXS.out, ← HYS.out] at h
    omega
  have HED : Hid (eds (prl l) D = EN) := by show _ = _; rw [← HD.out]; exact HEN.out
  have HDL : Hid (∀ v, D v < NN) := fun v => by rw [← HD.out, ← HNN.out]; exact dN_lt _ _ _ _ v
  have HOK := Lib.hid (eN_ok (l := l) hn' hl HCN.out.1 HCN.out.2)
  rw [HNN.out, HEN.out] at HOK
  have hnl : NN ≤ 1024 := HOK.out.2.g.nb
  have hel : EN.length ≤ 16384 := by have := HOK.out.2.g.lb; rwa [F6.edl_len] at this
  clear hown2 hys hb2 hg hg1 HI1 HB1 c0
  go_wp2_with fail
  refine (nodes_any n (.slice a l.length cap) q1 xs ys.length q2 w2 hn' (by omega) HQN.out HI2.out).mono ?_
  rintro e w3 ⟨bn, rfl, hbn, htb, hb3⟩
  rw [HND2.out] at htb
  have hpz2 : p < w2.heap.size := lt_of_block hg2
  have HB3 : Hid (Below p w w3) := HB2.out.trans (hb3.mono (by omega))
  have HW3 := Lib.hid (HW2.out.trans (hb3.mono HW2.out.size))
  have HTB3 := Lib.hid htb
  clear hb3 htb c0' hg2 HI2
  go_wp2_with fail
  refine (edges_any (prl l) pa pc bn n D w3 hpl (HPS.out.on HW3.out) HND.out HTB3.out).mono ?_
  rintro e w4 ⟨v4, c4, rfl, how4, hb4⟩
  rw [HED.out] at how4 ⊢
  have hpz3 : p < w3.heap.size := by have := HW3.out.size; omega
  have hbn3 : bn < w3.heap.size := HTB3.out.lt
  have HB4 : Hid (Below p w w4) := HB3.out.trans (hb4.mono (by omega))
  have HW4 := Lib.hid (HW3.out.trans (hb4.mono HW3.out.size))
  have HTB4 := Lib.hid (HTB3.out.same (hb4.block bn hbn3))
  have HO4 := Lib.hid how4
  have hz4 : w3.heap.size ≤ w4.heap.size := hb4.size
  clear hb4 how4
  have hb5 : Below w4.heap.size w4 (w4.alloc (.cells #[.int .i64 NN, .slice v4 EN.length c4] 68)) := (Below.refl _ _).alloc (Nat.le_refl _) _
  have hg5 := heap_top w4 (.cells #[.int .i64 NN, .slice v4 EN.length c4] 68)
  have HB5 : Hid (Below p w (w4.alloc (.cells #[.int .i64 NN, .slice v4 EN.length c4] 68))) := HB4.out.trans (hb5.mono (by omega))
  have HW5 := Lib.hid (HW4.out.trans (hb5.mono HW4.out.size))
  have HTB5 := Lib.hid (HTB4.out.same (hb5.block bn (by omega)))
  have HA5 := Lib.hid (HO4.out.alloc (.cells #[.int .i64 NN, .slice v4 EN.length c4] 68)).arcs
  have hz5 : w4.heap.size ≤ (w4.alloc (.cells #[.int .i64 NN, .slice v4 EN.length c4] 68)).heap.size := hb5.size
  clear hb5
  go_wp2_with fail
  generalize hU5 : w4.alloc (.cells #[.int .i64 NN, .slice v4 EN.length c4] 68) = w5 at *
  clear hU5
  refine (F6.cut_ok NN v4 EN c4 w5 0 1 HA5.out HOK.out.1 HOK.out.2).mono ?_
  rintro e w6 ⟨fl, rk, bs, ve, rfl, hfl, hrk, hfar, hside, _, _, hbs, hb6⟩
  have HCF : Hid (Cf n l c.toNat m.toNat fl rk) := ⟨by rw [HNN.out, HEN.out]; exact hfl, by rw [HNN.out, HEN.out]; exact hrk, hfar⟩
  have HB6 : Hid (Below p w w6) := HB5.out.trans (hb6.mono (by omega))
  have hbn5 : bn < w5.heap.size := by omega
  have HTB6 := Lib.hid (HTB5.out.same (hb6.block bn hbn5))
  have HPS6 := Lib.hid (HPS.out.on (HW5.out.trans (hb6.mono HW5.out.size)))
  have HSD : Hid (TbV w6 bs NN 4 (fun v => .bool (F6.side rk v))) := hside
  have hbs6 : bs < w6.heap.size := HSD.out.lt
  have hz6 : w5.heap.size ≤ w6.heap.size := hb6.size
  obtain ⟨S, HS⟩ := named (F6.side rk)
  rw [HS.out] at HSD
  have HCP : Hid (cutP n l c.toNat m.toNat rk = (prl l).filter (fun p => S (D p.a) != S (D p.b))) := by show _ = _; unfold cutP; rw [HD.out, HS.out]
  clear hfl hrk hfar hside hb6 HTB5 HTB4 HTB3 HA5 HOK HO4 HED HND2 HPS HW5 HW4 HW3 HW2 HB5 HB4 HB3 HB2 hg5 HQN HR HW1 HO1
  generalize F6.net (F6.edl EN) fl 0 (F6.edl EN).length = nt
  obtain ⟨i0, hi, hz0, hz1, hz2⟩ := info_parts info41
  obtain ⟨ix, ox, hix⟩ := HPS6.out.get
  have HIX := Lib.hid hix
  clear hix HPS6
  go_wp2_with fail
  generalize hB : w6.heap.size = B at *
  have hpB : p ≤ B := by omega
  go_loopw [18, 73] (fun s18 i wr => ∃ (k : Nat) (av : Option Addr) (cv len : Nat), k ≤ (prl l).length ∧ i = .int .i64 k ∧ s18 = .slice av len cv ∧ Hid ((((prl l).take k).filter (fun p => S (D p.a) != S (D p.b))).length = len) ∧ Hid (wr.ownsRow B 36 2 (.slice av len cv) len (cellsP (((prl l).take k).filter (fun p => S (D p.a) != S (D p.b))))) ∧ Hid (Below B w6 wr)) (fun _ i _ => (prl l).length - (intOf i).toNat)
  case atStart => exact ⟨0, none, 0, 0, Nat.zero_le _, rfl, rfl, rfl, World.ownsRow_nil _ _ _ _, Below.refl _ _⟩
  case round =>
    obtain ⟨k, av, cv, len, hk, rfl, rfl, HLN, HOW, HBR⟩ := hrel
    have hpw : B ≤ wr.heap.size := hB ▸ HBR.out.size
    by_cases hlk : k < (prl l).length
    · obtain ⟨rfl, hbl, hat⟩ := HIX.out (by omega)
      have hlk' : (k : Int) < (prl l).length := by omega
      obtain ⟨x0, x1⟩ := hat k hlk
      have y0 := (HBR.out.cell (p := ⟨ix, ox + k * 2, none⟩) hbl).trans x0
      have y1 := (HBR.out.cell (p := ⟨ix, ox + k * 2 + 1, none⟩) hbl).trans x1
      obtain ⟨ha, hb⟩ := HND.out ((prl l).getD k Pr.zero) (getD_memP hlk)
      have hlen : len ≤ 8192 := by
        rw [← HLN.out]
        refine Nat.le_trans (List.length_filter_le _ _) ?_
        rw [List.length_take]
        omega
      have HSN := Lib.hid (filter_snocP (f := fun p => S (D p.a) != S (D p.b)) hlk)
      clear hat x0 x1
      generalize (prl l).getD k Pr.zero = x at *
      have hbB : Below B w6 (wr.alloc (.cells #[.int .i64 (x.a : Int), .int .i64 (x.b : Int)] 36)) := HBR.out.alloc hpw _
      have htr := HTB6.out.same (hbB.block bn (by omega))
      have hts := HSD.out.same (hbB.block bs (by omega))
      have ha' : (x.a : Int) < n := by omega
      have hb' : (x.b : Int) < n := by omega
      have da := htr.cell ha
      have db := htr.cell hb
      have ea := hts.cell (HDL.out x.a)
      have eb := hts.cell (HDL.out x.b)
      have la := HDL.out x.a
      have lb := HDL.out x.b
      have hbx := heap_top wr (.cells #[.int .i64 (x.a : Int), .int .i64 (x.b : Int)] 36)
      obtain ⟨⟨b0, b1⟩, _⟩ := two_cells hbx
      have HOA := Lib.hid (HOW.out.alloc (.cells #[.int .i64 (x.a : Int), .int .i64 (x.b : Int)] 36))
      have HBA := Lib.hid hbB
      have hzA : (wr.alloc (.cells #[.int .i64 (x.a : Int), .int .i64 (x.b : Int)] 36)).heap.size = wr.heap.size + 1 := by simp
      clear htr hts hbB
      generalize hda : D x.a = na at *
      generalize hdb : D x.b = nb at *
      generalize hsa : S na = ta at *
      generalize hsb : S nb = tb at *
      have la' : (na : Int) < NN := by omega
      have lb' : (nb : Int) < NN := by omega
      go_wp2_with fail
      generalize hU : wr.alloc (.cells #[.int .i64 (x.a : Int), .int .i64 (x.b : Int)] 36) = U at *
      go_quiet (fail)
      have HON : Hid ((U.drewN nq).ownsRow B 36 2 (.slice av len cv) len (cellsP (((prl l).take k).filter (fun p => S (D p.a) != S (D p.b))))) := HOA.out
      have HBN : Hid (Below B w6 (U.drewN nq)) := ⟨HBA.out.os, HBA.out.tape, HBA.out.output, HBA.out.size, HBA.out.block⟩
      have hzN : (U.drewN nq).heap.size = wr.heap.size + 1 := hzA
      have hbN : (U.drewN nq).heap[wr.heap.size]? = some (.cells #[.int .i64 (x.a : Int), .int .i64 (x.b : Int)] 36) := hbx
      generalize hUN : U.drewN nq = UN at *
      obtain ⟨⟨u0, u1⟩, _⟩ := two_cells hbN
      generalize hne0 : (!(ta == tb)) = tt at *
      cases tt
      · have hne : (ta != tb) = false := hne0
        have HE2 : Hid (((prl l).take (k + 1)).filter (fun p => S (D p.a) != S (D p.b)) = ((prl l).take k).filter (fun p => S (D p.a) != S (D p.b))) := by show _ = _; rw [HSN.out, if_neg (by rw [hne]; decide), List.append_nil]
        go_wp2_with fail
        refine ⟨⟨k + 1, av, cv, len, by omega, by simp, rfl, ?_, ?_, HBN⟩, by simp [intOf]; omega⟩
        · rw [HE2.out]; exact HLN
        · rw [HE2.out]; exact HON
      · have hne : (ta != tb) = true := hne0
        have HE2 : Hid (((prl l).take (k + 1)).filter (fun p => S (D p.a) != S (D p.b)) = ((prl l).take k).filter (fun p => S (D p.a) != S (D p.b)) ++ [⟨x.a, x.b⟩]) := by show _ = _; rw [HSN.out, if_pos hne]
        have hnw := news1 UN x.a x.b
        rw [hzN] at hnw
        have HNW := Lib.hid hnw
        clear hnw
        have HOW2 := Lib.hid (HON.out.alloc (.cells #[.int .i64 (x.a : Int), .int .i64 (x.b : Int)] 36))
        have HBS : Hid (B ≤ (UN.alloc (.cells #[.int .i64 (x.a : Int), .int .i64 (x.b : Int)] 36)).heap.size) := by show _ ≤ _; simp; omega
        have HBB : Hid (Below B w6 (UN.alloc (.cells #[.int .i64 (x.a : Int), .int .i64 (x.b : Int)] 36))) := HBN.out.alloc (by omega) _
        have HOL : Hid (∀ b, (Value.slice av len cv).ownBlock = some b → B ≤ b) := fun b hb => (HOW.out.lt b hb).1
        have HCA : Hid (cellsP (((prl l).take k).filter (fun p => S (D p.a) != S (D p.b))) ++ cellsP [⟨x.a, x.b⟩] = cellsP (((prl l).take (k + 1)).filter (fun p => S (D p.a) != S (D p.b)))) := by show _ = _; rw [HE2.out, cellsP_append]
        have HL2 : Hid ((((prl l).take (k + 1)).filter (fun p => S (D p.a) != S (D p.b))).length = len + 1) := by show _ = _; rw [HE2.out, List.length_append, HLN.out]; rfl
        go_wp2_with (at_builtin; refine wpList_append_own _ rfl (.tmp 94) (.tmp 96) 28 rfl B 36 i0 _ 2 16 Try.underlying28 hi hz0 hz1 hz2 rfl (by decide) (.slice av len cv) len (cellsP (((prl l).take k).filter (fun p => S (D p.a) != S (D p.b)))) rfl HOW2.out ⟨wr.heap.size + 1, 0, none⟩ 1 1 (cellsP [⟨x.a, x.b⟩]) rfl rfl HNW.out (cellsP_one _) (by unfold maxLen; omega) (by omega) HBS.out ?_; intro v7 w7 hown7 hgrow7 hnil7; obtain ⟨g7, c7, hv7, _, _, _, _⟩ := own_shape hown7 (fun e => by have := hnil7.1 e; simp at this); subst hv7; rw [HCA.out] at hown7; have HO7 := Lib.hid hown7; have HB7 := Lib.hid (HBB.out.grown hgrow7 HBS.out (by intro b hb; exact HOL.out b hb)); clear hown7 hgrow7 hnil7)
        exact ⟨⟨k + 1, some ⟨g7, 0, none⟩, c7, len + 1, by omega, by simp, rfl, HL2, HO7, HB7⟩, by simp [intOf]; omega⟩
    · have e0 : (prl l).take k = prl l := List.take_of_length_le (by omega)
      have hlk' : ¬ (k : Int) < (prl l).length := by omega
      rw [e0] at HLN HOW
      clear e0
      go_wp2_with fail
      go_ret2
      refine ⟨av, cv, cutP n l c.toNat m.toNat rk, ?_, ?_, ?_, ?_⟩
      · rw [HCP.out, HLN.out]; rfl
      · show World.ownsRow _ _ _ _ _ _ _
        rw [HCP.out, HLN.out]
        exact own_base HOW.out hpB
      · unfold CutIs
        rw [if_neg (by rw [← HXS.out]; exact hxn)]
        exact ⟨fl, rk, HCF.out, rfl⟩
      · exact HB6.out.trans (HBR.out.mono hpB)
end Go.Proofs.Ytpgadcacimjlaab
