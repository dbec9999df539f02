/-
  The contracts of flyoverref07.Whole, Order.
-/
import Derived.Test.YtgkpmcpkobphpaaRArC
import Derived.Test.YtgkpmcpkobphpaaRChk
import Derived.Test.YtgkpmcpkobphpaaOrdW
namespace Go.Proofs.Ytgkpmcpkobphpaa
open Go.RowKit
theorem ordw_skp {E : List Ed} {M N k : Nat} (h : (ordw E M N k).2 k = true) : ordw E M N (k + 1) = ordw E M N k := by simp only [ordw]; rw [if_pos h]
theorem ordw_gro {E : List Ed} {M N k : Nat} (h : (ordw E M N k).2 k = false) : ordw E M N (k + 1) = ((ordw E M N k).1 ++ whole E M N (ordw E M N k).2 k, (gro E M N (ordw E M N k).2 k N).2) := by simp only [ordw]; rw [if_neg (by rw [h]; simp)]
/-- Within a growth: j of q have been added. -/
structure Rw (w wr : World) (p n : Nat) (s : Value) (xs q : List Nat) (j : Nat) (v vq : Value) : Prop where
  ow : wr.ownsRow (p + 2) 3 1 v (xs ++ q.take j).length (cellsI (ints (xs ++ q.take j)))
  tb : TbV wr (p + 1) n 4 (fun u => .bool (decide (u ∈ xs ++ q.take j)))
  bx : wr.heap[p]? = some (.cells #[.int .i64 (n : Int), s] 24 (0, 0))
  be : Below p w wr
  qs : wr.ownsRow (p + 2) 3 1 vq q.length (cellsI (ints q))
  ne : ∀ b, vq.ownBlock = some b → v.ownBlock ≠ some b
theorem Rw.add {w wr w6 : World} {p n : Nat} {s : Value} {xs q : List Nat} {j g6 c6 : Nat} {v vq : Value} {o : Obj} (h : Rw w wr p n s xs q j v vq) (hj : j < q.length)
    (hown : w6.ownsRow (p + 2) 3 1 (.slice (some ⟨g6, 0, none⟩) ((xs ++ q.take j).length + 1) c6) ((xs ++ q.take j).length + 1) (cellsI (ints (xs ++ q.take j)) ++ [.int .i64 ((q.getD j 0 : Nat) : Int)]))
    (hgr : ((wr.setCell ⟨p + 1, q.getD j 0, none⟩ (.bool true)).alloc o).grownBy w6 v.ownBlock) (hb : some g6 = v.ownBlock ∨ g6 = wr.heap.size + 1) : Rw w w6 p n s xs q (j + 1) (.slice (some ⟨g6, 0, none⟩) ((xs ++ q.take j).length + 1) c6) vq := by
  have ets : xs ++ q.take (j + 1) = (xs ++ q.take j) ++ [q.getD j 0] := by rw [take_snoc hj, List.append_assoc]
  have hvl : ∀ b, v.ownBlock = some b → p + 2 ≤ b ∧ b < wr.heap.size := fun b hb => h.ow.lt b hb
  have f1 : Fr (fun j => j = p + 1) wr (wr.setCell ⟨p + 1, q.getD j 0, none⟩ (.bool true)) := (Fr.refl _ wr).setCell ⟨p + 1, q.getD j 0, none⟩ _ rfl
  have f2 : Fr (fun j => some j = v.ownBlock) (wr.setCell ⟨p + 1, q.getD j 0, none⟩ (.bool true)) w6 := ((Fr.refl _ _).alloc o).trans ⟨hgr.os, hgr.tape, hgr.output, hgr.size, fun k hk hn => hgr.block k hk hn⟩
  have f3 : Fr (fun j => j = p + 1 ∨ some j = v.ownBlock) wr w6 := (f1.imp (fun _ h => .inl h)).trans (f2.imp (fun _ h => .inr h))
  have hpl := lt_of_block h.bx
  refine ⟨?_, ?_, ?_, ?_, ?_, ?_⟩
  · rw [ets, ints_snoc, ← cellsI_snoc, show (xs ++ q.take j ++ [q.getD j 0]).length = (xs ++ q.take j).length + 1 by simp; omega]
    exact hown
  · refine ((h.tb.set (q.getD j 0) (.bool true)).fr f2 (fun e => by have := (hvl _ e.symm).1; omega)).congr (fun u _ => ?_)
    refine upd_true (G := fun u => decide (u ∈ xs ++ q.take (j + 1))) (fun u => ?_)
    rw [ets, Bool.eq_iff_iff]
    simp only [decide_eq_true_eq, List.mem_append, List.mem_singleton, Bool.or_eq_true]
  · exact (f3.block p hpl (fun e => e.elim (fun e => by omega) (fun e => by have := (hvl _ e.symm).1; omega))).trans h.bx
  · exact ⟨f3.os.trans h.be.os, f3.tape.trans h.be.tape, f3.output.trans h.be.output, Nat.le_trans h.be.size f3.size, fun k hk => (f3.block k (by omega) (fun e => e.elim (fun e => by omega) (fun e => by have := (hvl _ e.symm).1; omega))).trans (h.be.block k hk)⟩
  · refine ⟨h.qs.1, ?_⟩
    rcases h.qs.2 with h' | ⟨g', c', cur, e1, e2, e3, e4⟩
    · exact Or.inl h'
    · refine Or.inr ⟨g', c', cur, e1, e2, (f3.block g' (lt_of_block e3) (fun e => ?_)).trans e3, e4⟩
      rcases e with e | e
      · omega
      · exact h.ne g' (by rw [e1]; rfl) e.symm
  · intro b hb2 e
    have e : g6 = b := Option.some.inj e
    rcases hb with e2 | e2
    · exact h.ne b hb2 (by rw [← e2, e])
    · have := (h.qs.lt b hb2).2; omega
set_option maxRecDepth 100000 in
set_option maxHeartbeats 1600000 in
theorem rwhole_any (n : Nat) (a : Option Addr) (l : List A) (cap : Nat) (w : World) (hn : n ≤ 1024) (hl : l.length ≤ 8192) (hpo : ∀ x, x ∈ l → (0 ≤ x.f ∧ x.f < n) ∧ 0 ≤ x.t ∧ x.t < n) (hr : Arcs w a l) :
    Calls Try.prog 37 #[.agg #[.int .i64 n, .slice a l.length cap]] w fun e w' => ∃ v, e = .returned v ∧ w'.ownsRow w.heap.size 3 1 v (ordw (edl l) (2 * l.length) n n).1.length (cellsI (ints (ordw (edl l) (2 * l.length) n n).1)) ∧ Below w.heap.size w w' := by
  obtain ⟨i3, hi3, hz3, hs3, hby3⟩ := info_parts info3
  obtain ⟨i4, hi4, hz4, hs4, hb4⟩ := info_parts info4
  have hmkB : ∀ w, (Instr.makeSlice 48 (.int .i64 n) (.int .i64 n)).run Try.prog w = .ok (.slice (some ⟨w.heap.size, 0, none⟩) n n) (w.alloc (.cells ((List.range n).map (fun _ => Value.bool false)).toArray 4)) := fun w => by
    have := run_make (P := Try.prog) w 48 4 i4 (.bool false) Try.underlying48 hi4 hz4 .i64 .i64 n n (by omega) (by omega) (by rw [hb4]; omega) (by omega)
    rw [this, Int.toNat_natCast, hs4, made_bool]
  have hb0 : Below w.heap.size w (w.alloc (.cells #[.int .i64 n, .slice a l.length cap] 24)) := (Below.refl _ _).alloc (Nat.le_refl _) _
  have hg := heap_top w (.cells #[.int .i64 n, .slice a l.length cap] 24)
  have HPO := Lib.hid hpo
  have HAR := Lib.hid hr
  have HSY : Hid (∀ u v, adjF (edl l) (2 * l.length) u 0 v = adjF (edl l) (2 * l.length) v 0 u) := fun u v => adj_sym (fun x hx => ⟨(hpo x hx).1.1, (hpo x hx).2.1⟩) u v
  clear hi4 hz4 hs4 hb4 hpo hr
  clear i4
  generalize hp : w.heap.size = p at *
  have hgv := (Below.heap_alloc (w.alloc (.cells #[.int .i64 n, .slice a l.length cap] 24)) (.cells ((List.range n).map (fun _ => Value.bool false)).toArray 4) p (lt_of_block hg)).trans hg
  have HT0 : Hid (TbV ((w.alloc (.cells #[.int .i64 n, .slice a l.length cap] 24)).alloc (.cells ((List.range n).map (fun _ => Value.bool false)).toArray 4)) (p + 1) n 4 (fun _ => .bool false)) := by
    have := heap_top (w.alloc (.cells #[.int .i64 n, .slice a l.length cap] 24)) (.cells ((List.range n).map (fun _ => Value.bool false)).toArray 4)
    rw [World.size_alloc, hp] at this
    exact this
  have HBV : Hid (Below p w ((w.alloc (.cells #[.int .i64 n, .slice a l.length cap] 24)).alloc (.cells ((List.range n).map (fun _ => Value.bool false)).toArray 4))) := hb0.alloc (by simp; omega) _
  go_enter Try.func37, Try.ntmps37
  go_wp2_with fail
  generalize hV : (w.alloc (.cells #[.int .i64 n, .slice a l.length cap] 24)).alloc (.cells ((List.range n).map (fun _ => Value.bool false)).toArray 4) = V at *
  clear hV hmkB hg hb0
  have HR0 : Hid (Rw w V p n (.slice a l.length cap) (ordw (edl l) (2 * l.length) n 0).1 [] 0 (.slice none 0 0) (.slice none 0 0)) := ⟨World.ownsRow_nil _ _ _ _, HT0.out.congr (fun u _ => by simp [ordw]), hgv, HBV.out, World.ownsRow_nil _ _ _ _, fun b hb => by cases hb⟩
  go_loopw [4, 5] (fun s4 s5 wr => ∃ (k : Nat) (av : Option Addr) (cv len : Nat), k ≤ n ∧ s4 = .slice av len cv ∧ s5 = .int .i64 k ∧ Hid ((ordw (edl l) (2 * l.length) n k).1.length = len) ∧ Hid (Rw w wr p n (.slice a l.length cap) (ordw (edl l) (2 * l.length) n k).1 [] 0 (.slice av len cv) (.slice none 0 0))) (fun _ s5 _ => n - (intOf s5).toNat)
  case atStart => exact ⟨0, none, 0, 0, Nat.zero_le _, rfl, rfl, rfl, HR0⟩
  case round =>
    obtain ⟨k, av, cv, len, hk, rfl, rfl, HLEN, HR⟩ := hrel
    have hgr := HR.out.bx
    obtain ⟨⟨g0, g1⟩, _⟩ := two_cells hgr
    have hpr := lt_of_block hgr
    by_cases hlt : k < n
    · have hlt' : (k : Int) < n := by omega
      have ds := HR.out.tb.cell hlt
      have hinv := ordw_inv (N := n) HSY.out k (by omega)
      have hinv1 := ordw_inv (N := n) HSY.out (k + 1) (by omega)
      rw [List.take_nil, List.append_nil] at ds
      by_cases hin : k ∈ (ordw (edl l) (2 * l.length) n k).1
      · rw [decide_eq_true hin] at ds
        have HSK := Lib.hid (ordw_skp ((hinv.sn k hlt).2 hin))
        clear hinv hinv1
        go_wp2_with fail
        refine ⟨⟨k + 1, av, cv, len, by omega, rfl, by simp, ?_, ?_⟩, by simp [intOf]; omega⟩
        · rw [HSK.out]; exact HLEN
        · rw [HSK.out]; exact HR
      · rw [decide_eq_false hin] at ds
        have hSk : (ordw (edl l) (2 * l.length) n k).2 k = false := by
          rw [Bool.eq_false_iff]; exact fun h => hin ((hinv.sn k hlt).1 h)
        have hGD := ordw_gro hSk
        obtain ⟨hap, _, _⟩ := gro_apart (E := edl l) (M := 2 * l.length) hlt hinv.sh hSk n
        have hwe : whole (edl l) (2 * l.length) n (ordw (edl l) (2 * l.length) n k).2 k = whole (edl l) (2 * l.length) n (fun _ => false) k := hap
        rw [hwe] at hGD
        have hi0 := gro_inv (E := edl l) (M := 2 * l.length) (S := fun _ => false) hlt n
        have HQL : Hid (∀ u, u ∈ whole (edl l) (2 * l.length) n (fun _ => false) k → u < n) := hi0.lt
        have hlen1 : (ordw (edl l) (2 * l.length) n (k + 1)).1.length ≤ n := nodup_short hinv1.nd hinv1.lt
        have HGD : Hid ((ordw (edl l) (2 * l.length) n (k + 1)).1 = (ordw (edl l) (2 * l.length) n k).1 ++ whole (edl l) (2 * l.length) n (fun _ => false) k) := by show _ = _; rw [hGD]
        have HL1 := Lib.hid hlen1
        rw [HGD.out] at HL1
        have HBK := Lib.hid HR.out.be
        clear hinv hinv1 hap hwe hi0 hGD hlen1 hSk
        go_wp2_with fail
        refine (raround_any n k a l cap wr hn hl hlt HPO.out (HAR.out.on (by rw [hp]; exact HBK.out))).mono ?_
        rintro e w5 ⟨vq, rfl, hown5, hb5⟩
        obtain ⟨aq, cq, rfl⟩ := own_slice hown5
        have HRI : Hid (Rw w w5 p n (.slice a l.length cap) (ordw (edl l) (2 * l.length) n k).1 (whole (edl l) (2 * l.length) n (fun _ => false) k) 0 (.slice av len cv) (.slice aq (whole (edl l) (2 * l.length) n (fun _ => false) k).length cq)) := by
          have how := own_on HR.out.ow hb5
          refine ⟨by simpa using how, (HR.out.tb.same (hb5.block _ HR.out.tb.lt)).congr (fun u _ => by simp), (hb5.block _ hpr).trans hgr, HBK.out.trans (hb5.mono (by omega)), own_base hown5 (by have := HR.out.tb.lt; omega), fun b hb e => ?_⟩
          have h1 := (hown5.lt b hb).1
          have h2 := (HR.out.ow.lt b e).2
          omega
        generalize hq : whole (edl l) (2 * l.length) n (fun _ => false) k = q at *
        generalize hxs : (ordw (edl l) (2 * l.length) n k).1 = xs at *
        clear hown5 hb5 hq g0 g1
        go_wp2_with fail
        go_loopw [4, 7] (fun s4 s7 wr => ∃ (j : Nat) (av : Option Addr) (cv len : Nat), j ≤ q.length ∧ s4 = .slice av len cv ∧ s7 = .int .i64 j ∧ Hid ((xs ++ q.take j).length = len) ∧ Hid (Rw w wr p n (.slice a l.length cap) xs q j (.slice av len cv) (.slice aq q.length cq))) (fun _ s7 _ => q.length - (intOf s7).toNat)
        case atStart => exact ⟨0, av, cv, len, Nat.zero_le _, rfl, rfl, by show _ = _; simpa using HLEN.out, HRI⟩
        case round =>
          obtain ⟨j, a2, c2, len2, hj, rfl, rfl, HLN, HRJ⟩ := hrel
          have hql : q.length ≤ 1024 := by have := HL1.out; rw [List.length_append] at this; omega
          by_cases hjq : j < q.length
          · have hjq' : (j : Int) < q.length := by omega
            obtain ⟨gq, haq, hgq1, hgq2, hcq⟩ := own_cell HRJ.out.qs (ints_len q) hjq
            subst haq
            rw [ints_getD hjq] at hcq
            have hlen2 : len2 + 1 ≤ 1024 := by
              have h1 := HL1.out
              have h2 := HLN.out
              rw [List.length_append] at h1 h2
              rw [List.length_take] at h2
              omega
            have HADD := Lib.hid (fun g6 c6 w6 => Rw.add (g6 := g6) (c6 := c6) (w6 := w6) (o := .cells #[.int .i64 ((q.getD j 0 : Nat) : Int)] 3) HRJ.out hjq)
            have HSL : Hid ((xs ++ q.take (j + 1)).length = len2 + 1) := by
              show _ = _
              rw [← HLN.out, take_snoc hjq]
              simp
              omega
            rw [HLN.out] at HADD
            have hyn : q.getD j 0 < n := HQL.out _ (by simp [List.getD, List.getElem?_eq_getElem hjq])
            generalize q.getD j 0 = y at *
            have hyn' : (y : Int) < n := by omega
            have e1 := HRJ.out.tb.cell hyn
            have e2 := HRJ.out.tb.free y
            generalize decide (y ∈ xs ++ q.take j) = eb at e1
            have hq1 : gq ≠ p + 1 := by omega
            have hq2 := hq1.symm
            have hz : (wr.setCell ⟨p + 1, y, none⟩ (.bool true)).heap.size = wr.heap.size := by simp [World.setCell]
            have hnw := one_new (wr.setCell ⟨p + 1, y, none⟩ (.bool true)) (y : Int)
            rw [hz] at hnw
            have HNW := Lib.hid hnw
            have how := HRJ.out.ow
            rw [HLN.out] at how
            have HOW3 := Lib.hid ((own_set how ⟨p + 1, y, none⟩ (.bool true) (by show p + 1 < p + 2; omega)).alloc (.cells #[.int .i64 (y : Int)] 3))
            have HBZ : Hid (p + 2 ≤ ((wr.setCell ⟨p + 1, y, none⟩ (.bool true)).alloc (.cells #[.int .i64 (y : Int)] 3)).heap.size) := by
              show _ ≤ _
              rw [World.size_alloc, hz]
              have := HRJ.out.tb.lt
              omega
            clear hz hnw how
            go_wp2_with (at_builtin; refine wpList_append_new rfl (.tmp 36) (.tmp 41) 28 rfl (p + 2) 3 i3 (.int .i64 0) 1 8 Try.underlying28 hi3 hz3 hs3 hby3 rfl (by decide) (.slice a2 len2 c2) len2 (cellsI (ints (xs ++ q.take j))) rfl HOW3.out ⟨wr.heap.size, 0, none⟩ 1 1 [.int .i64 (y : Int)] rfl rfl HNW.out (one_i64 _) (by unfold maxLen; omega) (by omega) HBZ.out (by omega) ?_; intro v6 w6 hown6 hgrow6 hb6; obtain ⟨g6, c6, hv6, _, _, _, _⟩ := own_shape hown6 (by rintro rfl; have := hown6.1; simp [cellsI] at this; rcases hown6.2 with ⟨_, h0⟩ | ⟨_, _, _, h0, _⟩; (· omega); (· cases h0)); subst hv6; have HX6 := Lib.hid (HADD.out g6 c6 w6 hown6 hgrow6 (hb6.imp id (fun e => by have := Option.some.inj (show some g6 = some _ from e); simpa [World.setCell] using this))); clear hown6 hgrow6 hb6)
            exact ⟨⟨j + 1, some ⟨g6, 0, none⟩, c6, len2 + 1, by omega, rfl, by simp, HSL, HX6⟩, by simp [intOf]; omega⟩
          · obtain rfl : j = q.length := by omega
            have hjq' : ¬ (q.length : Int) < q.length := by omega
            have hrj := HRJ.out
            have hln := HLN.out
            go_wp2_with fail
            refine ⟨⟨k + 1, a2, c2, len2, by omega, rfl, by simp, ?_, ?_⟩, by simp [intOf]; omega⟩
            · show _ = _
              rw [HGD.out, ← hln, List.take_length]
            · rw [HGD.out]
              refine ⟨?_, ?_, hrj.bx, hrj.be, World.ownsRow_nil _ _ _ _, fun b hb => by cases hb⟩
              · have := hrj.ow
                rw [List.take_length] at this
                simpa using this
              · have := hrj.tb
                rw [List.take_length] at this
                exact this.congr (fun u _ => by simp)
    · obtain rfl : k = n := by omega
      have hlt' : ¬ (k : Int) < k := by omega
      have how := HR.out.ow
      rw [List.take_nil, List.append_nil, HLEN.out] at how
      have HOW := Lib.hid how
      clear how
      go_wp2_with fail
      go_ret
      refine ⟨_, rfl, ?_, HR.out.be⟩
      rw [HLEN.out]
      exact own_base HOW.out (by omega)
set_option maxRecDepth 100000 in
set_option maxHeartbeats 800000 in
theorem rorder_any (N : Int) (a : Option Addr) (l : List A) (cap : Nat) (w : World) (hl : l.length ≤ 9223372036854775807) (hr : Arcs w a l) :
    Calls Try.prog 22 #[.agg #[.int .i64 N, .slice a l.length cap]] w fun e w' => ∃ v xs, e = .returned (.tuple #[v, .int .i64 (chkE N l)]) ∧ w'.ownsRow w.heap.size 3 1 v xs.length (cellsI (ints xs)) ∧ xs = (if chkE N l = 0 then (ordw (edl l) (2 * l.length) N.toNat N.toNat).1 else []) ∧ Below w.heap.size w w' := by
  have hb0 : Below w.heap.size w (w.alloc (.cells #[.int .i64 N, .slice a l.length cap] 24)) := (Below.refl _ _).alloc (Nat.le_refl _) _
  have hg := heap_top w (.cells #[.int .i64 N, .slice a l.length cap] 24)
  have hr2 := hr.on hb0
  have HAR := Lib.hid hr
  obtain ⟨C, HC⟩ := named (chkE N l)
  obtain ⟨AT, HAT⟩ := named (chkAt N l)
  rw [HC.out]
  generalize hp : w.heap.size = p at *
  go_enter Try.func22, Try.ntmps22
  go_wp2_with fail
  generalize hW : w.alloc (.cells #[.int .i64 N, .slice a l.length cap] 24) = W at *
  refine (rcheck_any N a l cap W hl hr2).mono ?_
  rintro e w1 ⟨rfl, hb1⟩
  rw [HC.out, HAT.out]
  have hg1 := (hb1.block _ (lt_of_block hg)).trans hg
  have HB1 : Hid (Below p w w1) := hb0.trans (hb1.mono (Nat.le_of_lt (lt_of_block hg)))
  obtain ⟨⟨g0, g1⟩, _⟩ := two_cells hg1
  clear hb1 hg hb0 hr2 hW
  by_cases he : C = 0
  · have he2 : (C != 0) = false := by simp [he]
    obtain ⟨hN1, hN2, hlb, hpo⟩ := chk_zero (HC.out.trans he)
    obtain ⟨n, rfl⟩ : ∃ n : Nat, N = n := ⟨N.toNat, by omega⟩
    have HPO := Lib.hid hpo
    clear hpo
    go_wp2_with fail
    refine (rwhole_any n a l cap w1 (by omega) hlb HPO.out (HAR.out.on (by rw [hp]; exact HB1.out))).mono ?_
    rintro e w2 ⟨v, rfl, hown, hb2⟩
    obtain ⟨av, cv, rfl⟩ := own_slice hown
    have hpr : p ≤ w1.heap.size := Nat.le_of_lt (lt_of_block hg1)
    have HOW := Lib.hid (own_base hown hpr)
    have HB2 : Hid (Below p w w2) := HB1.out.trans (hb2.mono hpr)
    clear hown hb2
    go_wp2_with fail
    go_ret2
    exact ⟨_, rfl, (ordw (edl l) (2 * l.length) n n).1, HOW.out, by simp, HB2.out⟩
  · have he2 : (C != 0) = true := by simp [he]
    go_wp2_with fail
    go_ret2
    exact ⟨.slice none 0 0, rfl, [], World.ownsRow_nil _ _ _ _, by simp, HB1.out⟩
end Go.Proofs.Ytgkpmcpkobphpaa
