/-
  Contracts of flyoverref07.Region and Core. The contract of flyoverref07.Around. The contract of flyoverref07.Around: the walk.
-/
import Derived.Test.YtpgadcacimjlaaaGreatZN
import Derived.Test.YtpgadcacimjlaaaGreatZA
import Derived.Test.YtpgadcacimjlaaaGreatZE
import Derived.Deep.RegionWith
import Derived.Test.YtpgadcacimjlaaaGreatZM
namespace Go.Proofs.YtpgadcacimjlaaaGreat
open Go.RowKit
/-- Between two vertices. -/
structure Ro (w wr : World) (p n : Nat) (s : Value) (E : List Ed) (M c k g cc : Nat) : Prop where
  le : k ≤ (gro E M n (fun _ => false) c k).1.length
  ow : wr.ownsRow (p + 2) 3 1 (.slice (some ⟨g, 0, none⟩) (gro E M n (fun _ => false) c k).1.length cc) (gro E M n (fun _ => false) c k).1.length (cellsI (ints (gro E M n (fun _ => false) c k).1))
  tb : TbV wr (p + 1) n 4 (fun u => .bool ((gro E M n (fun _ => false) c k).2 u))
  bx : wr.heap[p]? = some (.cells #[.int .i64 (n : Int), s] 24 (0, 0))
  be : Below p w wr
/-- Within a vertex's neighbours: j of q have been looked at. -/
structure Ri (w wr : World) (p n : Nat) (s : Value) (S : Nat → Bool) (xs q : List Nat) (j g cc gq : Nat) (aq : Option Addr) (cq : Nat) : Prop where
  ow : wr.ownsRow (p + 2) 3 1 (.slice (some ⟨g, 0, none⟩) (xs.length + ((q.take j).filter (fun u => !S u)).length) cc) (xs.length + ((q.take j).filter (fun u => !S u)).length) (cellsI (ints (xs ++ (q.take j).filter (fun u => !S u))))
  tb : TbV wr (p + 1) n 4 (fun u => .bool (S u || decide (u ∈ q.take j)))
  bx : wr.heap[p]? = some (.cells #[.int .i64 (n : Int), s] 24 (0, 0))
  be : Below p w wr
  qs : wr.ownsRow (gq + 1) 3 1 (.slice aq q.length cq) q.length (cellsI (ints q))
  ne : ∀ b, (Value.slice aq q.length cq).ownBlock = some b → b ≠ g
  sz : gq < wr.heap.size
theorem take_fil {S : Nat → Bool} {q : List Nat} {j : Nat} (hj : j < q.length) : (q.take (j + 1)).filter (fun u => !S u) = if S (q.getD j 0) = true then (q.take j).filter (fun u => !S u) else (q.take j).filter (fun u => !S u) ++ [q.getD j 0] := by
  rw [take_snoc hj, List.filter_append]
  generalize q.getD j 0 = x
  by_cases h : S x = true
  · rw [if_pos h]; simp [h]
  · rw [if_neg h]; simp [h]
theorem take_new {q : List Nat} (hq : q.Nodup) {j : Nat} (hj : j < q.length) : q.getD j 0 ∉ q.take j := by
  intro h
  have h2 : (q.take (j + 1)).Nodup := hq.sublist (List.take_sublist _ _)
  rw [take_snoc hj, List.nodup_append] at h2
  exact h2.2.2 _ h _ (by simp) rfl
theorem Ri.skip {w wr : World} {p n : Nat} {s : Value} {S : Nat → Bool} {xs q : List Nat} {j g cc gq : Nat} {aq : Option Addr} {cq : Nat} (h : Ri w wr p n s S xs q j g cc gq aq cq) (hj : j < q.length) (hS : S (q.getD j 0) = true) : Ri w wr p n s S xs q (j + 1) g cc gq aq cq := by
  have e := take_fil (S := S) hj
  rw [if_pos hS] at e
  refine ⟨by rw [e]; exact h.ow, h.tb.congr (fun u _ => ?_), h.bx, h.be, h.qs, h.ne, h.sz⟩
  rw [take_snoc hj]
  by_cases hu : u = q.getD j 0
  · subst hu; rw [hS]; simp
  · congr 2
    rw [Bool.eq_iff_iff]
    simp only [decide_eq_true_eq, List.mem_append, List.mem_singleton, hu, or_false]
theorem Ri.add {w wr w6 : World} {p n : Nat} {s : Value} {S : Nat → Bool} {xs q : List Nat} {j g cc gq g6 c6 : Nat} {aq : Option Addr} {cq : Nat} {o : Obj} (h : Ri w wr p n s S xs q j g cc gq aq cq) (hj : j < q.length) (hS : S (q.getD j 0) = false) (hpq : p + 1 ≤ gq)
    (hown : w6.ownsRow (p + 2) 3 1 (.slice (some ⟨g6, 0, none⟩) (xs.length + ((q.take j).filter (fun u => !S u)).length + 1) c6) (xs.length + ((q.take j).filter (fun u => !S u)).length + 1) (cellsI (ints (xs ++ (q.take j).filter (fun u => !S u))) ++ [.int .i64 ((q.getD j 0 : Nat) : Int)]))
    (hgr : ((wr.setCell ⟨p + 1, q.getD j 0, none⟩ (.bool true)).alloc o).grownBy w6 (some g)) (hb : g6 = g ∨ g6 = wr.heap.size + 1) : Ri w w6 p n s S xs q (j + 1) g6 c6 gq aq cq := by
  have e := take_fil (S := S) hj
  rw [if_neg (by rw [hS]; simp)] at e
  have hgl := own_lt h.ow
  have f1 : Fr (fun j => j = p + 1) wr (wr.setCell ⟨p + 1, q.getD j 0, none⟩ (.bool true)) := (Fr.refl _ wr).setCell ⟨p + 1, q.getD j 0, none⟩ _ rfl
  have f2 : Fr (fun j => j = g) (wr.setCell ⟨p + 1, q.getD j 0, none⟩ (.bool true)) w6 := ((Fr.refl _ _).alloc o).trans ⟨hgr.os, hgr.tape, hgr.output, hgr.size, fun k hk hn => hgr.block k hk (fun e => hn (Option.some.inj e))⟩
  have f3 : Fr (fun j => j = p + 1 ∨ j = g) wr w6 := (f1.imp (fun _ h => .inl h)).trans (f2.imp (fun _ h => .inr h))
  have hqb : ∀ b, (Value.slice aq q.length cq).ownBlock = some b → gq + 1 ≤ b ∧ b < wr.heap.size := fun b hb => h.qs.lt b hb
  refine ⟨?_, ?_, ?_, ?_, ?_, ?_, Nat.lt_of_lt_of_le h.sz f3.size⟩
  · rw [e, List.length_append, ← List.append_assoc, ints_snoc, ← cellsI_snoc]
    exact hown
  · refine ((h.tb.set (q.getD j 0) (.bool true)).fr f2 (fun e => by have e : p + 1 = g := e; omega)).congr (fun u _ => ?_)
    rw [take_snoc hj]
    refine upd_true (G := fun u => S u || decide (u ∈ q.take j ++ [q.getD j 0])) (fun u => ?_)
    rw [Bool.or_assoc]
    congr 1
    rw [Bool.eq_iff_iff]
    simp only [decide_eq_true_eq, List.mem_append, List.mem_singleton, Bool.or_eq_true]
  · exact (f3.block p (lt_of_block h.bx) (fun e => by omega)).trans h.bx
  · exact ⟨f3.os.trans h.be.os, f3.tape.trans h.be.tape, f3.output.trans h.be.output, Nat.le_trans h.be.size f3.size, fun k hk => (f3.block k (by have := lt_of_block h.bx; omega) (fun e => by omega)).trans (h.be.block k hk)⟩
  · refine ⟨h.qs.1, ?_⟩
    rcases h.qs.2 with h' | ⟨g', c', cur, e1, e2, e3, e4⟩
    · exact Or.inl h'
    · refine Or.inr ⟨g', c', cur, e1, e2, (f3.block g' (lt_of_block e3) (fun e => ?_)).trans e3, e4⟩
      rcases e with e | e
      · omega
      · exact h.ne g' (by rw [e1]; rfl) e
  · intro b hb e
    obtain ⟨l1, l2⟩ := hqb b hb
    rcases ‹g6 = g ∨ g6 = wr.heap.size + 1› with e2 | e2
    · exact h.ne b hb (e.trans e2)
    · omega
end Go.Proofs.YtpgadcacimjlaaaGreat
namespace Go.Proofs.YtpgadcacimjlaaaGreat
open Go.RowKit
theorem set_marks (n c : Nat) : ((List.range n).map (fun _ => Value.bool false)).set c (.bool true) = (List.range n).map (fun u => .bool ((false || decide (u = c)))) := by
  apply List.ext_getElem
  · simp
  · intro i h1 h2
    rw [List.getElem_set]
    by_cases e : c = i
    · subst e; simp
    · rw [if_neg e]
      have e' : ¬ i = c := fun h => e h.symm
      simp [e']
set_option maxRecDepth 100000 in
set_option maxHeartbeats 1600000 in
theorem raround_any (n c : Nat) (a : Option Addr) (l : List A) (cap : Nat) (w : World) (hn : n ≤ 1024) (hl : l.length ≤ 8192) (hc : c < n) (hpo : ∀ x, x ∈ l → (0 ≤ x.f ∧ x.f < n) ∧ 0 ≤ x.t ∧ x.t < n) (hr : Arcs w a l) :
    Calls Tryz.prog 60 #[.agg #[.int .i64 n, .slice a l.length cap], .int .i64 c] w fun e w' => ∃ v, e = .returned v ∧ w'.ownsRow w.heap.size 3 1 v (whole (edl l) (2 * l.length) n (fun _ => false) c).length (cellsI (ints (whole (edl l) (2 * l.length) n (fun _ => false) c))) ∧ Below w.heap.size w w' := by
  obtain ⟨i3, hi3, hz3, hs3, hby3⟩ := info_parts info3
  obtain ⟨i4, hi4, hz4, hs4, hb4⟩ := info_parts info4
  have hmkB : ∀ w, (Instr.makeSlice 66 (.int .i64 n) (.int .i64 n)).run Tryz.prog w = .ok (.slice (some ⟨w.heap.size, 0, none⟩) n n) (w.alloc (.cells ((List.range n).map (fun _ => Value.bool false)).toArray 4)) := fun w => by
    have := run_make (P := Tryz.prog) w 66 4 i4 (.bool false) Tryz.underlying66 hi4 hz4 .i64 .i64 n n (by omega) (by omega) (by rw [hb4]; omega) (by omega)
    rw [this, Int.toNat_natCast, hs4, made_bool]
  clear hi4 hz4 hs4 hb4
  clear i4
  have hc' : (c : Int) < n := by omega
  have HPO := Lib.hid hpo
  have HAR := Lib.hid hr
  generalize hp : w.heap.size = p at *
  have hg := heap_top w (.cells #[.int .i64 n, .slice a l.length cap] 24)
  rw [hp] at hg
  have hb0 : Below p w (w.alloc (.cells #[.int .i64 n, .slice a l.length cap] 24)) := (Below.refl _ _).alloc (by omega) _
  have ht0 : TbV ((w.alloc (.cells #[.int .i64 n, .slice a l.length cap] 24)).alloc (.cells ((List.range n).map (fun _ => Value.bool false)).toArray 4)) (p + 1) n 4 (fun _ => .bool false) := by
    have := heap_top (w.alloc (.cells #[.int .i64 n, .slice a l.length cap] 24)) (.cells ((List.range n).map (fun _ => Value.bool false)).toArray 4)
    rw [World.size_alloc, hp] at this
    exact this
  have d1 := ht0.cell hc
  have d2 := ht0.free c
  have HT0 := Lib.hid ht0
  clear ht0
  go_enter Tryz.func60, Tryz.ntmps60
  go_wp2_with fail
  have HR0 : Hid (Ro w (((w.alloc (.cells #[.int .i64 n, .slice a l.length cap] 24)).alloc (.cells (((List.range n).map (fun _ => Value.bool false)).set c (.bool true)).toArray 4)).alloc (.cells #[.int .i64 (c : Int)] 3)) p n (.slice a l.length cap) (edl l) (2 * l.length) c 0 (p + 2) 1) := by
    have z1 : (w.alloc (.cells #[.int .i64 n, .slice a l.length cap] 24)).heap.size = p + 1 := by simp [hp]
    have z2 : ((w.alloc (.cells #[.int .i64 n, .slice a l.length cap] 24)).alloc (.cells (((List.range n).map (fun _ => Value.bool false)).set c (.bool true)).toArray 4)).heap.size = p + 2 := by simp [hp]
    refine ⟨Nat.zero_le _, ?_, ?_, ?_, ?_⟩
    · have := World.ownsRow_lit (base := p + 2) (e := 3) (size := 1) ((w.alloc (.cells #[.int .i64 n, .slice a l.length cap] 24)).alloc (.cells (((List.range n).map (fun _ => Value.bool false)).set c (.bool true)).toArray 4)) #[.int .i64 (c : Int)] 1 (by rw [z2]; omega) (by unfold maxLen; omega) rfl
      rw [z2] at this
      exact this
    · refine (Below.heap_alloc _ _ _ (by rw [z2]; omega)).trans ?_
      have := heap_top (w.alloc (.cells #[.int .i64 n, .slice a l.length cap] 24)) (.cells (((List.range n).map (fun _ => Value.bool false)).set c (.bool true)).toArray 4)
      rw [z1] at this
      rw [this, set_marks]
      rfl
    · exact (Below.heap_alloc _ _ _ (by rw [z2]; omega)).trans ((Below.heap_alloc _ _ _ (by rw [z1]; omega)).trans hg)
    · exact (hb0.alloc (by rw [z1]; omega) _).alloc (by rw [z2]; omega) _
  generalize ((w.alloc (.cells #[.int .i64 n, .slice a l.length cap] 24)).alloc (.cells (((List.range n).map (fun _ => Value.bool false)).set c (.bool true)).toArray 4)).alloc (.cells #[.int .i64 (c : Int)] 3) = V at *
  clear d1 d2 HT0 hg hb0 hmkB
  go_loopw [6, 7] (fun s6 s7 wr => ∃ (k g cc m : Nat), s6 = .slice (some ⟨g, 0, none⟩) m cc ∧ s7 = .int .i64 k ∧ Hid ((gro (edl l) (2 * l.length) n (fun _ => false) c k).1.length = m) ∧ Hid (Ro w wr p n (.slice a l.length cap) (edl l) (2 * l.length) c k g cc)) (fun _ s7 _ => n - (intOf s7).toNat)
  case atStart => exact ⟨0, p + 2, 1, 1, rfl, rfl, rfl, HR0⟩
  case round =>
    obtain ⟨k, g, cc, m, rfl, rfl, HM, HR⟩ := hrel
    obtain ⟨⟨g0, g1⟩, _⟩ := two_cells HR.out.bx
    by_cases hk : k < m
    · have hk' : (k : Int) < m := by omega
      have hkg : k < (gro (edl l) (2 * l.length) n (fun _ => false) c k).1.length := by rw [HM.out]; exact hk
      obtain ⟨x, HX⟩ := named ((gro (edl l) (2 * l.length) n (fun _ => false) c k).1.getD k 0)
      have hxn : x < n := by rw [← HX.out]; exact gro_at hc hkg
      have HGO := Lib.hid (gro_go hkg)
      rw [HX.out] at HGO
      have HSX : Hid ((gro (edl l) (2 * l.length) n (fun _ => false) c k).2 x = true) := by
        rw [← HX.out]
        exact (gro_inv (E := edl l) (M := 2 * l.length) (S := fun _ => false) hc k).sn _ (by simp [List.getD, List.getElem?_eq_getElem hkg])
      have hcell : wr.cell? ⟨g, k, none⟩ = some (.int .i64 (x : Int)) := by
        rw [HR.out.ow.cellAt k (by rw [Nat.mul_one]; exact hkg), cellsI_getD _ _ (by rw [ints_len]; exact hkg), ints_getD hkg, HX.out]
      have hgl := own_lt HR.out.ow
      have hmn : m ≤ n := by rw [← HM.out]; exact gro_short hc k
      have HAD : Hid (Arcs wr.drew a l) := HAR.out.on (by rw [hp]; exact HR.out.be.drew)
      clear hkg
      go_wp2_with fail
      go_region_with (first | (go_at_call 53; refine (rnear_any n x a l cap _ hn hl hxn HPO.out HAD.out).mono ?_; rintro e w4 ⟨b4, rfl, hb4l, ht4, hbe4⟩; have HT4 := Lib.hid ht4; have HBE4 := Lib.hid hbe4; clear ht4 hbe4) | (go_at_call 52; refine (rall_any hn HT4.out).mono ?_; rintro e w5 ⟨v5, rfl, hown5, hbe5⟩; obtain ⟨aq, cq, rfl⟩ := own_slice hown5; have HO5 := Lib.hid hown5; have HBE5 := Lib.hid hbe5; clear hown5 hbe5))
      all_goals
        obtain ⟨xs, HXS⟩ := named (gro (edl l) (2 * l.length) n (fun _ => false) c k).1
        obtain ⟨S, HSS⟩ := named (gro (edl l) (2 * l.length) n (fun _ => false) c k).2
        obtain ⟨q, HQ⟩ := named (nbl l n x)
        have hql : q.length ≤ n := by rw [← HQ.out]; exact allk_len _ _
        have hmx : xs.length = m := by rw [← HXS.out]; exact HM.out
        have HMX := Lib.hid hmx
        have HSX2 : Hid (S x = true) := by rw [← HSS.out]; exact HSX.out
        have HO5q : Hid (w5.ownsRow w4.heap.size 3 1 (.slice aq q.length cq) q.length (cellsI (ints q))) := by rw [← HQ.out]; exact HO5.out
        have hqe : (allk (fun u => nr l x u && !decide (u = x)) n).length = q.length := by rw [← HQ.out]; rfl
        have hz4 : wr.heap.size ≤ w4.heap.size := HBE4.out.size
        have HB45 : Hid (Below wr.heap.size wr w5) := by
          have h1 : Below wr.heap.size wr w4 := (Below.refl _ wr).drew.trans HBE4.out
          exact h1.trans (HBE5.out.mono hz4)
        have HRI : Hid (Ri w w5 p n (.slice a l.length cap) S xs q 0 g cc (p + 1) aq cq) := by
          refine ⟨?_, ?_, (HB45.out.block p (lt_of_block HR.out.bx)).trans HR.out.bx, HR.out.be.trans (HB45.out.mono (Nat.le_of_lt (lt_of_block HR.out.bx))), own_base HO5q.out (by omega), ?_, by have := HB45.out.size; omega⟩
          · have := own_on HR.out.ow HB45.out
            rw [HXS.out] at this
            simpa using this
          · have := HR.out.tb.same (HB45.out.block _ HR.out.tb.lt)
            rw [HSS.out] at this
            exact this.congr (fun u _ => by simp)
          · intro b hb e
            have := (HO5q.out.lt b hb).1
            omega
        rw [hqe]
        clear hcell hmx hqe
        have HQN : Hid (q.Nodup) := by rw [← HQ.out]; exact nbl_nodup l n x
        have HQL : Hid (∀ u, u ∈ q → u < n) := fun u hu => by rw [← HQ.out] at hu; exact (mem_nbl.1 hu).1
        go_wp2_with fail
        go_loopw [6, 9] (fun s6 s9 wr => ∃ (j g2 c2 len : Nat), s6 = .slice (some ⟨g2, 0, none⟩) len c2 ∧ s9 = .int .i64 j ∧ j ≤ q.length ∧ Hid (xs.length + ((q.take j).filter (fun u => !S u)).length = len) ∧ Hid (Ri w wr p n (.slice a l.length cap) S xs q j g2 c2 (p + 1) aq cq)) (fun _ s9 _ => q.length - (intOf s9).toNat)
        case atStart => exact ⟨0, g, cc, m, rfl, rfl, Nat.zero_le _, by show _ = _; simpa using HMX.out, HRI⟩
        case round =>
          obtain ⟨j, g2, c2, len, rfl, rfl, hj, HLN, HRJ⟩ := hrel
          have hlen : len ≤ 2048 := by
            rw [← HLN.out, HMX.out]
            have : ((q.take j).filter (fun u => !S u)).length ≤ q.length := Nat.le_trans (List.length_filter_le _ _) (by rw [List.length_take]; omega)
            omega
          by_cases hjq : j < q.length
          · have hjq' : (j : Int) < q.length := by omega
            obtain ⟨gq, haq, hgq1, hgq2, hcq⟩ := own_cell HRJ.out.qs (ints_len q) hjq
            subst haq
            rw [ints_getD hjq] at hcq
            obtain ⟨y, HY⟩ := named (q.getD j 0)
            have hyn : y < n := by rw [← HY.out]; exact HQL.out _ (by simp [List.getD, List.getElem?_eq_getElem hjq])
            rw [HY.out] at hcq
            have hyn' : (y : Int) < n := by omega
            have e1 := HRJ.out.tb.cell hyn
            have e2 := HRJ.out.tb.free y
            have hny : y ∉ q.take j := by rw [← HY.out]; exact take_new HQN.out hjq
            rw [decide_eq_false hny, Bool.or_false] at e1
            obtain ⟨sb, HSB⟩ := named (S y)
            rw [HSB.out] at e1
            have hq1 : gq ≠ p + 1 := by omega
            have hq2 := hq1.symm
            clear hny
            cases sb
            · have hz : (wr.setCell ⟨p + 1, y, none⟩ (.bool true)).heap.size = wr.heap.size := by simp [World.setCell]
              have hnw := one_new (wr.setCell ⟨p + 1, y, none⟩ (.bool true)) (y : Int)
              rw [hz] at hnw
              have HNW := Lib.hid hnw
              have how := HRJ.out.ow
              rw [HLN.out] at how
              have HOW3 := Lib.hid ((own_set how ⟨p + 1, y, none⟩ (.bool true) (by show p + 1 < p + 2; omega)).alloc (.cells #[.int .i64 (y : Int)] 3))
              have HBZ : Hid (p + 2 ≤ ((wr.setCell ⟨p + 1, y, none⟩ (.bool true)).alloc (.cells #[.int .i64 (y : Int)] 3)).heap.size) := by
                show _ ≤ _
                rw [World.size_alloc, hz]
                have := HRJ.out.sz
                omega
              clear hz hnw how
              go_wp2_with (at_builtin; refine wpList_append_new rfl (.tmp 51) (.tmp 56) 25 rfl (p + 2) 3 i3 (.int .i64 0) 1 8 Tryz.underlying25 hi3 hz3 hs3 hby3 rfl (by decide) (.slice (some ⟨g2, 0, none⟩) len c2) len (cellsI (ints (xs ++ (q.take j).filter (fun u => !S u)))) rfl HOW3.out ⟨wr.heap.size, 0, none⟩ 1 1 [.int .i64 (y : Int)] rfl rfl HNW.out (one_i64 _) (by unfold maxLen; omega) (by omega) HBZ.out (by omega) ?_; intro v6 w6 hown6 hgrow6 hb6; obtain ⟨g6, c6, hv6, _, _, _, _⟩ := own_shape hown6 (by rintro rfl; simp [Value.ownBlock] at hb6); subst hv6; have hb7 : g6 = g2 ∨ g6 = wr.heap.size + 1 := (hb6.imp (fun e => Option.some.inj e) (fun e => by have := Option.some.inj (show some g6 = some _ from e); simpa using this)); have HX6 := Lib.hid (HRJ.out.add (w6 := w6) (g6 := g6) (c6 := c6) (o := .cells #[.int .i64 (y : Int)] 3) hjq (by rw [HY.out]; exact HSB.out) (by omega) (by rw [HLN.out, HY.out]; exact hown6) (by rw [HY.out]; exact hgrow6) hb7); clear hown6 hgrow6 hb6 hb7)
              refine ⟨⟨j + 1, g6, c6, len + 1, rfl, by simp, by omega, ?_, HX6⟩, by simp [intOf]; omega⟩
              show _ = _
              have e := take_fil (S := S) hjq
              rw [HY.out, if_neg (by rw [HSB.out]; simp)] at e
              rw [e, List.length_append, ← Nat.add_assoc, HLN.out]
              rfl
            · go_wp2_with fail
              have e := take_fil (S := S) hjq
              rw [HY.out, if_pos HSB.out] at e
              refine ⟨⟨j + 1, g2, c2, len, rfl, by simp, by omega, ?_, Lib.hid (HRJ.out.skip hjq (by rw [HY.out]; exact HSB.out))⟩, by simp [intOf]; omega⟩
              show _ = _
              rw [e]; exact HLN.out
          · obtain rfl : j = q.length := by omega
            have hjq' : ¬ (q.length : Int) < q.length := by omega
            go_wp2_with fail
            have hpo2 : ∀ x, x ∈ l → 0 ≤ x.f ∧ 0 ≤ x.t := fun x hx => ⟨(HPO.out x hx).1.1, (HPO.out x hx).2.1⟩
            have eL : (q.take q.length).filter (fun u => !S u) = ext (edl l) (2 * l.length) n S x := by rw [List.take_length, ← HQ.out]; exact ext_nbl hpo2 HSX2.out
            have hGO := HGO.out
            rw [HXS.out, HSS.out] at hGO
            have hln := HLN.out
            rw [eL] at hln
            have hlr : (gro (edl l) (2 * l.length) n (fun _ => false) c (k + 1)).1.length = len := by rw [hGO, List.length_append]; exact hln
            have how := HRJ.out.ow
            rw [eL, hln] at how
            refine ⟨⟨k + 1, g2, c2, len, rfl, by simp, hlr, ⟨?_, ?_, ?_, HRJ.out.bx, HRJ.out.be⟩⟩, by simp [intOf]; omega⟩
            · rw [hlr]; have := HMX.out; omega
            · rw [hlr, hGO]; exact how
            · rw [hGO]
              refine HRJ.out.tb.congr (fun u hu => ?_)
              rw [List.take_length, ← HQ.out]
              show Value.bool _ = .bool _
              rw [seen_nbl hpo2 HSX2.out hu]
    · have hk' : ¬ (k : Int) < m := by omega
      go_wp2_with fail
      go_ret
      obtain ⟨hw, hg⟩ := came_all (E := edl l) (M := 2 * l.length) (S := fun _ => false) hc HR.out.le (by rw [HM.out]; exact hk)
      refine ⟨_, rfl, ?_, HR.out.be⟩
      have := own_base HR.out.ow (base' := p) (by omega)
      rw [HM.out] at this
      unfold whole
      rw [← hg, HM.out]
      exact this
end Go.Proofs.YtpgadcacimjlaaaGreat
namespace Go.Proofs.YtpgadcacimjlaaaGreat
open Go.RowKit
theorem whole_pos {E : List Ed} {M N : Nat} {S : Nat → Bool} {c : Nat} : 0 < (whole E M N S c).length := by
  have h := gro_pre (E := E) (M := M) (N := N) (S := S) (c := c) (k := 0) N
  rw [Nat.zero_add] at h
  have := h.length_le
  unfold whole
  simp [gro] at this
  omega
set_option maxHeartbeats 1600000 in
theorem rregion_any (N c m : Int) (a : Option Addr) (l : List A) (cap : Nat) (w : World) (hl : l.length ≤ 9223372036854775807) (hr : Arcs w a l) :
    Calls Tryz.prog 38 #[.agg #[.int .i64 N, .slice a l.length cap], .int .i64 c, .int .i64 m] w fun e w' => ∃ v xs, e = .returned (.tuple #[v, .int .i64 (gchk N c m l)]) ∧ w'.ownsRow w.heap.size 3 1 v xs.length (cellsI (ints xs)) ∧ xs = (if gchk N c m l = 0 then reg N.toNat l c.toNat m.toNat else []) ∧ Below w.heap.size w w' := by
  have hb0 : Below w.heap.size w (w.alloc (.cells #[.int .i64 N, .slice a l.length cap] 24)) := (Below.refl _ _).alloc (Nat.le_refl _) _
  have hg := heap_top w (.cells #[.int .i64 N, .slice a l.length cap] 24)
  have hr2 := hr.on hb0
  have hsz : w.heap.size ≤ (w.alloc (.cells #[.int .i64 N, .slice a l.length cap] 24)).heap.size := hb0.size
  obtain ⟨E, HE⟩ := named (gchk N c m l)
  obtain ⟨C, HC⟩ := named (chkE N l)
  obtain ⟨AT, HAT⟩ := named (chkAt N l)
  have HAR := Lib.hid hr
  rw [HE.out]
  generalize hp : w.heap.size = p at *
  go_enter Tryz.func38, Tryz.ntmps38
  go_wp2_with fail
  generalize hW : w.alloc (.cells #[.int .i64 N, .slice a l.length cap] 24) = W at *
  refine (rcheck_any N a l cap W hl hr2).mono ?_
  rintro e w1 ⟨rfl, hb1⟩
  rw [HC.out, HAT.out]
  have hg1 := (hb1.block _ (lt_of_block hg)).trans hg
  have HB1 : Hid (Below p w w1) := hb0.trans (hb1.mono hsz)
  obtain ⟨⟨g0, g1⟩, _⟩ := two_cells hg1
  clear hb1 hg hb0 hr2 hW hsz
  by_cases he : C = 0
  · have he2 : (C != 0) = false := by simp [he]
    have hE1 : E = if ¬ (0 ≤ c ∧ c < N) then 5 else if m < 1 ∨ 1024 < m then 1 else 0 := by
      rw [← HE.out]; unfold gchk; rw [if_neg (by rw [HC.out, he]; simp)]
    obtain ⟨hN1, hN2, hlb, hpo⟩ := chk_zero (HC.out.trans he)
    by_cases hc0 : c < 0
    · rw [if_pos (by omega)] at hE1
      subst hE1
      go_wp2_with fail
      go_ret2
      exact ⟨.slice none 0 0, rfl, [], World.ownsRow_nil _ _ _ _, by simp, HB1.out⟩
    · by_cases hcN : c < N
      · rw [if_neg (by omega)] at hE1
        by_cases hm1 : m < 1
        · rw [if_pos (.inl hm1)] at hE1
          subst hE1
          go_wp2_with fail
          go_ret2
          exact ⟨.slice none 0 0, rfl, [], World.ownsRow_nil _ _ _ _, by simp, HB1.out⟩
        · by_cases hm2 : 1024 < m
          · rw [if_pos (.inr hm2)] at hE1
            subst hE1
            go_wp2_with fail
            go_ret2
            exact ⟨.slice none 0 0, rfl, [], World.ownsRow_nil _ _ _ _, by simp, HB1.out⟩
          · rw [if_neg (by omega)] at hE1
            subst hE1
            obtain ⟨n, rfl⟩ : ∃ n : Nat, N = n := ⟨N.toNat, by omega⟩
            obtain ⟨v, rfl⟩ : ∃ v : Nat, c = v := ⟨c.toNat, by omega⟩
            obtain ⟨t, rfl⟩ : ∃ t : Nat, m = t := ⟨m.toNat, by omega⟩
            have hvn : v < n := by omega
            have HPO := Lib.hid hpo
            have HA1 : Hid (Arcs w1 a l) := HAR.out.on (by rw [hp]; exact HB1.out)
            clear hpo
            go_wp2_with fail
            refine (raround_any n v a l cap w1 (by omega) hlb hvn HPO.out HA1.out).mono ?_
            rintro e w2 ⟨v2, rfl, hown, hb2⟩
            obtain ⟨Wh, HWH⟩ := named (whole (edl l) (2 * l.length) n (fun _ => false) v)
            have hwp : 0 < Wh.length := by rw [← HWH.out]; exact whole_pos
            have hwn : Wh.length ≤ n := by rw [← HWH.out]; exact gro_short hvn n
            rw [HWH.out] at hown
            obtain ⟨av, cv, rfl⟩ := own_slice hown
            have hcap : Wh.length ≤ cv := by
              rcases hown.2 with ⟨e, h0⟩ | ⟨g, c', cur, e, _, _, h4, _⟩
              · omega
              · injection e with e1 e2 e3; subst e3; exact h4
            have hcm : cv ≤ 9223372036854775807 := by
              rcases hown.2 with ⟨e, h0⟩ | ⟨g, c', cur, e, _, _, h4, h5, _⟩
              · omega
              · injection e with e1 e2 e3; subst e3; exact h5
            have HB2 : Hid (Below p w w2) := HB1.out.trans (hb2.mono (hp ▸ HB1.out.size))
            obtain ⟨q, hq⟩ : ∃ q, Hid (min t Wh.length = q) := ⟨_, rfl⟩
            have hq1 : q ≤ Wh.length := by rw [← hq.out]; omega
            have hmq : Hid ((min (t : Int) (Wh.length : Int)).toNat = q) := by show _ = _; rw [← hq.out]; omega
            have HTK : Hid (w2.ownsRow p 3 1 (.slice av q cv) q (cellsI (ints (Wh.take q)))) := by
              have := own_take (own_base hown (hp ▸ HB1.out.size)) hq1 (.inl hwp)
              rwa [cells_take] at this
            have HREG : Hid (Wh.take q = reg n l v t) := by
              show _ = _
              unfold reg
              rw [HWH.out, ← hq.out]
              rw [← List.take_take, List.take_length]
            clear hown hb2
            go_wp2_with fail
            go_ret2
            refine ⟨.slice av q cv, by rw [← hmq.out]; rfl, Wh.take q, ?_, HREG.out, HB2.out⟩
            rw [List.length_take, Nat.min_eq_left hq1]
            exact HTK.out
      · rw [if_pos (by omega)] at hE1
        subst hE1
        go_wp2_with fail
        go_ret2
        exact ⟨.slice none 0 0, rfl, [], World.ownsRow_nil _ _ _ _, by simp, HB1.out⟩
  · have he2 : (C != 0) = true := by simp [he]
    have h1 : E = C := by rw [← HE.out]; unfold gchk; rw [if_pos (by rw [HC.out]; exact he), HC.out]
    subst h1
    go_wp2_with fail
    go_ret2
    exact ⟨.slice none 0 0, rfl, [], World.ownsRow_nil _ _ _ _, by simp, HB1.out⟩
end Go.Proofs.YtpgadcacimjlaaaGreat
