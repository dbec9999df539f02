/-
  A region that draws its order and whose last operation waits for all others: it may be walked with an idle operation in that one's place, which is carried out behind it. The contract of flyoverref09.Sizes. The contract of flyoverref07.Around. The contract of flyoverref07.Around: the walk. The contracts of flyoverref07.Whole, Order.
-/
import Derived.Test.YtchfccbneedejaaZAN
import Derived.Test.YtchfccbneedejaaZAM
import Derived.Test.YtchfccbneedejaaZAF
import Derived.Test.YtchfccbneedejaaZAA
import Derived.Test.YtchfccbneedejaaZAE
import Derived.Deep.RegionWith
import Derived.Deep.RegionHeld3
namespace Go.Proofs.Ytchfccbneedejaa
open Go.RowKit
theorem ck_one (N : Int) (l : List A) (xs : List Int) : ckE N l xs 1 = siE N l xs := by
  unfold ckE
  by_cases h : siE N l xs ≠ 0
  · rw [if_pos h]
  · rw [if_neg h, if_neg (by omega)]; omega
set_option maxRecDepth 100000 in
set_option maxHeartbeats 1600000 in
theorem rsizes_any (N : Int) (a : Option Addr) (l : List A) (cap : Nat) (b : Option Addr) (xs : List Int) (bc : Nat) (w : World) (hl : l.length ≤ 9223372036854775807) (hx : xs.length ≤ 9223372036854775807) (hr : Arcs w a l) (hi : Ints w b xs) :
    Calls Try.prog 15 #[.agg #[.int .i64 N, .slice a l.length cap], .slice b xs.length bc] w fun e w' => ∃ v c S, e = .returned (.tuple #[.slice v S.length c, .int .i64 (siE N l xs)]) ∧ w'.ownsRow w.heap.size 3 1 (.slice v S.length c) S.length (cellsI (ints S)) ∧ S = (if siE N l xs = 0 then szL xs else []) ∧ Below w.heap.size w w' := by
  have hb0 : Below w.heap.size w (w.alloc (.cells #[.int .i64 N, .slice a l.length cap] 24)) := (Below.refl _ _).alloc (Nat.le_refl _) _
  have hg := heap_top w (.cells #[.int .i64 N, .slice a l.length cap] 24)
  have HI := Lib.hid (hi.on hb0)
  have HB0 := Lib.hid hb0
  have hwz : w.heap.size ≤ (w.alloc (.cells #[.int .i64 N, .slice a l.length cap] 24)).heap.size := hb0.size
  have HLK := Lib.hid (looked_any N a l cap b xs bc 1 (w.alloc (.cells #[.int .i64 N, .slice a l.length cap] 24)) hl hx (hr.on hb0) HI.out)
  rw [ck_one] at HLK
  have HZ : Hid (siE N l xs = 0 → xs.length ≤ 1024 ∧ tdy xs 0 = true) := fun h => by
    obtain ⟨h1, h2, h3, _⟩ := ckE_zero ((ck_one N l xs).trans h)
    have := chk_zero h1
    exact ⟨by omega, h3⟩
  obtain ⟨R, HR⟩ := named (if siE N l xs = 0 then szL xs else [])
  rw [HR.out]
  obtain ⟨E, HE⟩ := named (siE N l xs)
  rw [HE.out] at HLK HZ HR ⊢
  obtain ⟨⟨c0, c1⟩, _⟩ := two_cells hg
  clear hb0 hr hi
  generalize hp : w.heap.size = p at *
  go_enter Try.func15, Try.ntmps15
  go_wp2_with fail
  generalize hW : w.alloc (.cells #[.int .i64 N, .slice a l.length cap] 24) = W at *
  clear hW
  refine HLK.out.mono ?_
  rintro e w1 ⟨rfl, hb1⟩
  have HB1 : Hid (Below p w w1) := HB0.out.trans (hb1.mono hwz)
  have HI1 := Lib.hid (HI.out.on hb1)
  have hwz1 : p ≤ w1.heap.size := Nat.le_trans hwz hb1.size
  clear hb1 HLK c0 c1 hg
  by_cases hE : E ≠ 0
  · have e1 : (E != 0) = true := by simpa using hE
    obtain rfl : R = [] := by rw [← HR.out, if_neg hE]
    go_wp2_with fail
    go_ret2
    exact ⟨none, 0, [], rfl, World.ownsRow_nil _ _ _ _, rfl, HB1.out⟩
  obtain rfl : E = 0 := by omega
  clear hE
  rw [if_pos rfl] at HR
  have hz := HZ.out rfl
  have HSZ := Lib.hid (rsize_any b xs bc w1 hz.1 hz.2 HI1.out)
  rw [HR.out] at HSZ
  clear hz
  go_wp2_with fail
  refine HSZ.out.mono ?_
  rintro e w2 ⟨v2, c2, rfl, hown2, hb2⟩
  have HO2 := Lib.hid (own_base hown2 hwz1)
  have HB2 : Hid (Below p w w2) := HB1.out.trans (hb2.mono hwz1)
  clear hown2 hb2 HSZ
  go_wp2_with fail
  go_ret2
  exact ⟨v2, c2, R, rfl, HO2.out, rfl, HB2.out⟩
end Go.Proofs.Ytchfccbneedejaa
namespace Go.Proofs.Ytchfccbneedejaa
open Go.RowKit
/-- Between two vertices. -/
structure Ro (w wr : World) (p n : Nat) (s : Value) (E : List Ed) (M c k g cc : Nat) : Prop where
  le : k ≤ (gro E M n (fun _ => false) c k).1.length
  ow : wr.ownsRow (p + 2) 3 1 (.slice (some ⟨g, 0, none⟩) (gro E M n (fun _ => false) c k).1.length cc) (gro E M n (fun _ => false) c k).1.length (cellsI (ints (gro E M n (fun _ => false) c k).1))
  tb : TbV wr (p + 1) n 4 (fun u => .bool ((gro E M n (fun _ => false) c k).2 u))
  bx : wr.heap[p]? = some (.cells #[.int .i64 (n : Int), s] 24 (0, 0))
  be : Below p w wr
/-- Within a vertex's neighbours: j of q have been looked at. -/
structure Ri (w wr : World) (p n : Nat) (s : Value) (S : Nat → Bool) (xs q : List Nat) (j g cc gq : Nat) (aq : Option Addr) (cq : Nat) : Prop where
  ow : wr.ownsRow (p + 2) 3 1 (.slice (some ⟨g, 0, none⟩) (xs.length + ((q.take j).filter (fun u => !S u)).length) cc) (xs.length + ((q.take j).filter (fun u => !S u)).length) (cellsI (ints (xs ++ (q.take j).filter (fun u => !S u))))
  tb : TbV wr (p + 1) n 4 (fun u => .bool (S u || decide (u ∈ q.take j)))
  bx : wr.heap[p]? = some (.cells #[.int .i64 (n : Int), s] 24 (0, 0))
  be : Below p w wr
  qs : wr.ownsRow (gq + 1) 3 1 (.slice aq q.length cq) q.length (cellsI (ints q))
  ne : ∀ b, (Value.slice aq q.length cq).ownBlock = some b → b ≠ g
  sz : gq < wr.heap.size
theorem take_fil {S : Nat → Bool} {q : List Nat} {j : Nat} (hj : j < q.length) : (q.take (j + 1)).filter (fun u => !S u) = if S (q.getD j 0) = true then (q.take j).filter (fun u => !S u) else (q.take j).filter (fun u => !S u) ++ [q.getD j 0] := by
  rw [take_snoc hj, List.filter_append]
  generalize q.getD j 0 = x
  by_cases h : S x = true
  · rw [if_pos h]; simp [h]
  · rw [if_neg h]; simp [h]
theorem take_new {q : List Nat} (hq : q.Nodup) {j : Nat} (hj : j < q.length) : q.getD j 0 ∉ q.take j := by
  intro h
  have h2 : (q.take (j + 1)).Nodup := hq.sublist (List.take_sublist _ _)
  rw [take_snoc hj, List.nodup_append] at h2
  exact h2.2.2 _ h _ (by simp) rfl
theorem Ri.skip {w wr : World} {p n : Nat} {s : Value} {S : Nat → Bool} {xs q : List Nat} {j g cc gq : Nat} {aq : Option Addr} {cq : Nat} (h : Ri w wr p n s S xs q j g cc gq aq cq) (hj : j < q.length) (hS : S (q.getD j 0) = true) : Ri w wr p n s S xs q (j + 1) g cc gq aq cq := by
  have e := take_fil (S := S) hj
  rw [if_pos hS] at e
  refine ⟨by rw [e]; exact h.ow, h.tb.congr (fun u _ => ?_), h.bx, h.be, h.qs, h.ne, h.sz⟩
  rw [take_snoc hj]
  by_cases hu : u = q.getD j 0
  · subst hu; rw [hS]; simp
  · congr 2
    rw [Bool.eq_iff_iff]
    simp only [decide_eq_true_eq, List.mem_append, List.mem_singleton, hu, or_false]
theorem Ri.add {w wr w6 : World} {p n : Nat} {s : Value} {S : Nat → Bool} {xs q : List Nat} {j g cc gq g6 c6 : Nat} {aq : Option Addr} {cq : Nat} {o : Obj} (h : Ri w wr p n s S xs q j g cc gq aq cq) (hj : j < q.length) (hS : S (q.getD j 0) = false) (hpq : p + 1 ≤ gq)
    (hown : w6.ownsRow (p + 2) 3 1 (.slice (some ⟨g6, 0, none⟩) (xs.length + ((q.take j).filter (fun u => !S u)).length + 1) c6) (xs.length + ((q.take j).filter (fun u => !S u)).length + 1) (cellsI (ints (xs ++ (q.take j).filter (fun u => !S u))) ++ [.int .i64 ((q.getD j 0 : Nat) : Int)]))
    (hgr : ((wr.setCell ⟨p + 1, q.getD j 0, none⟩ (.bool true)).alloc o).grownBy w6 (some g)) (hb : g6 = g ∨ g6 = wr.heap.size + 1) : Ri w w6 p n s S xs q (j + 1) g6 c6 gq aq cq := by
  have e := take_fil (S := S) hj
  rw [if_neg (by rw [hS]; simp)] at e
  have hgl := own_lt h.ow
  have f1 : Fr (fun j => j = p + 1) wr (wr.setCell ⟨p + 1, q.getD j 0, none⟩ (.bool true)) := (Fr.refl _ wr).setCell ⟨p + 1, q.getD j 0, none⟩ _ rfl
  have f2 : Fr (fun j => j = g) (wr.setCell ⟨p + 1, q.getD j 0, none⟩ (.bool true)) w6 := ((Fr.refl _ _).alloc o).trans ⟨hgr.os, hgr.tape, hgr.output, hgr.size, fun k hk hn => hgr.block k hk (fun e => hn (Option.some.inj e))⟩
  have f3 : Fr (fun j => j = p + 1 ∨ j = g) wr w6 := (f1.imp (fun _ h => .inl h)).trans (f2.imp (fun _ h => .inr h))
  have hqb : ∀ b, (Value.slice aq q.length cq).ownBlock = some b → gq + 1 ≤ b ∧ b < wr.heap.size := fun b hb => h.qs.lt b hb
  refine ⟨?_, ?_, ?_, ?_, ?_, ?_, Nat.lt_of_lt_of_le h.sz f3.size⟩
  · rw [e, List.length_append, ← List.append_assoc, ints_snoc, ← cellsI_snoc]
    exact hown
  · refine ((h.tb.set (q.getD j 0) (.bool true)).fr f2 (fun e => by have e : p + 1 = g := e; omega)).congr (fun u _ => ?_)
    rw [take_snoc hj]
    refine upd_true (G := fun u => S u || decide (u ∈ q.take j ++ [q.getD j 0])) (fun u => ?_)
    rw [Bool.or_assoc]
    congr 1
    rw [Bool.eq_iff_iff]
    simp only [decide_eq_true_eq, List.mem_append, List.mem_singleton, Bool.or_eq_true]
  · exact (f3.block p (lt_of_block h.bx) (fun e => by omega)).trans h.bx
  · exact ⟨f3.os.trans h.be.os, f3.tape.trans h.be.tape, f3.output.trans h.be.output, Nat.le_trans h.be.size f3.size, fun k hk => (f3.block k (by have := lt_of_block h.bx; omega) (fun e => by omega)).trans (h.be.block k hk)⟩
  · refine ⟨h.qs.1, ?_⟩
    rcases h.qs.2 with h' | ⟨g', c', cur, e1, e2, e3, e4⟩
    · exact Or.inl h'
    · refine Or.inr ⟨g', c', cur, e1, e2, (f3.block g' (lt_of_block e3) (fun e => ?_)).trans e3, e4⟩
      rcases e with e | e
      · omega
      · exact h.ne g' (by rw [e1]; rfl) e
  · intro b hb e
    obtain ⟨l1, l2⟩ := hqb b hb
    rcases ‹g6 = g ∨ g6 = wr.heap.size + 1› with e2 | e2
    · exact h.ne b hb (e.trans e2)
    · omega
end Go.Proofs.Ytchfccbneedejaa
namespace Go.Proofs.Ytchfccbneedejaa
open Go.RowKit
theorem set_marks (n c : Nat) : ((List.range n).map (fun _ => Value.bool false)).set c (.bool true) = (List.range n).map (fun u => .bool ((false || decide (u = c)))) := by
  apply List.ext_getElem
  · simp
  · intro i h1 h2
    rw [List.getElem_set]
    by_cases e : c = i
    · subst e; simp
    · rw [if_neg e]
      have e' : ¬ i = c := fun h => e h.symm
      simp [e']
set_option maxRecDepth 100000 in
set_option maxHeartbeats 1600000 in
theorem raround_any (n c : Nat) (a : Option Addr) (l : List A) (cap : Nat) (w : World) (hn : n ≤ 1024) (hl : l.length ≤ 8192) (hc : c < n) (hpo : ∀ x, x ∈ l → (0 ≤ x.f ∧ x.f < n) ∧ 0 ≤ x.t ∧ x.t < n) (hr : Arcs w a l) :
    Calls Try.prog 76 #[.agg #[.int .i64 n, .slice a l.length cap], .int .i64 c] w fun e w' => ∃ v, e = .returned v ∧ w'.ownsRow w.heap.size 3 1 v (whole (edl l) (2 * l.length) n (fun _ => false) c).length (cellsI (ints (whole (edl l) (2 * l.length) n (fun _ => false) c))) ∧ Below w.heap.size w w' := by
  obtain ⟨i3, hi3, hz3, hs3, hby3⟩ := info_parts info3
  obtain ⟨i4, hi4, hz4, hs4, hb4⟩ := info_parts info4
  have hmkB : ∀ w, (Instr.makeSlice 69 (.int .i64 n) (.int .i64 n)).run Try.prog w = .ok (.slice (some ⟨w.heap.size, 0, none⟩) n n) (w.alloc (.cells ((List.range n).map (fun _ => Value.bool false)).toArray 4)) := fun w => by
    have := run_make (P := Try.prog) w 69 4 i4 (.bool false) Try.underlying69 hi4 hz4 .i64 .i64 n n (by omega) (by omega) (by rw [hb4]; omega) (by omega)
    rw [this, Int.toNat_natCast, hs4, made_bool]
  clear hi4 hz4 hs4 hb4
  clear i4
  have hc' : (c : Int) < n := by omega
  have HPO := Lib.hid hpo
  have HAR := Lib.hid hr
  generalize hp : w.heap.size = p at *
  have hg := heap_top w (.cells #[.int .i64 n, .slice a l.length cap] 24)
  rw [hp] at hg
  have hb0 : Below p w (w.alloc (.cells #[.int .i64 n, .slice a l.length cap] 24)) := (Below.refl _ _).alloc (by omega) _
  have ht0 : TbV ((w.alloc (.cells #[.int .i64 n, .slice a l.length cap] 24)).alloc (.cells ((List.range n).map (fun _ => Value.bool false)).toArray 4)) (p + 1) n 4 (fun _ => .bool false) := by
    have := heap_top (w.alloc (.cells #[.int .i64 n, .slice a l.length cap] 24)) (.cells ((List.range n).map (fun _ => Value.bool false)).toArray 4)
    rw [World.size_alloc, hp] at this
    exact this
  have d1 := ht0.cell hc
  have d2 := ht0.free c
  have HT0 := Lib.hid ht0
  clear ht0
  go_enter Try.func76, Try.ntmps76
  go_wp2_with fail
  have HR0 : Hid (Ro w (((w.alloc (.cells #[.int .i64 n, .slice a l.length cap] 24)).alloc (.cells (((List.range n).map (fun _ => Value.bool false)).set c (.bool true)).toArray 4)).alloc (.cells #[.int .i64 (c : Int)] 3)) p n (.slice a l.length cap) (edl l) (2 * l.length) c 0 (p + 2) 1) := by
    have z1 : (w.alloc (.cells #[.int .i64 n, .slice a l.length cap] 24)).heap.size = p + 1 := by simp [hp]
    have z2 : ((w.alloc (.cells #[.int .i64 n, .slice a l.length cap] 24)).alloc (.cells (((List.range n).map (fun _ => Value.bool false)).set c (.bool true)).toArray 4)).heap.size = p + 2 := by simp [hp]
    refine ⟨Nat.zero_le _, ?_, ?_, ?_, ?_⟩
    · have := World.ownsRow_lit (base := p + 2) (e := 3) (size := 1) ((w.alloc (.cells #[.int .i64 n, .slice a l.length cap] 24)).alloc (.cells (((List.range n).map (fun _ => Value.bool false)).set c (.bool true)).toArray 4)) #[.int .i64 (c : Int)] 1 (by rw [z2]; omega) (by unfold maxLen; omega) rfl
      rw [z2] at this
      exact this
    · refine (Below.heap_alloc _ _ _ (by rw [z2]; omega)).trans ?_
      have := heap_top (w.alloc (.cells #[.int .i64 n, .slice a l.length cap] 24)) (.cells (((List.range n).map (fun _ => Value.bool false)).set c (.bool true)).toArray 4)
      rw [z1] at this
      rw [this, set_marks]
      rfl
    · exact (Below.heap_alloc _ _ _ (by rw [z2]; omega)).trans ((Below.heap_alloc _ _ _ (by rw [z1]; omega)).trans hg)
    · exact (hb0.alloc (by rw [z1]; omega) _).alloc (by rw [z2]; omega) _
  generalize ((w.alloc (.cells #[.int .i64 n, .slice a l.length cap] 24)).alloc (.cells (((List.range n).map (fun _ => Value.bool false)).set c (.bool true)).toArray 4)).alloc (.cells #[.int .i64 (c : Int)] 3) = V at *
  clear d1 d2 HT0 hg hb0 hmkB
  go_loopw [6, 7] (fun s6 s7 wr => ∃ (k g cc m : Nat), s6 = .slice (some ⟨g, 0, none⟩) m cc ∧ s7 = .int .i64 k ∧ Hid ((gro (edl l) (2 * l.length) n (fun _ => false) c k).1.length = m) ∧ Hid (Ro w wr p n (.slice a l.length cap) (edl l) (2 * l.length) c k g cc)) (fun _ s7 _ => n - (intOf s7).toNat)
  case atStart => exact ⟨0, p + 2, 1, 1, rfl, rfl, rfl, HR0⟩
  case round =>
    obtain ⟨k, g, cc, m, rfl, rfl, HM, HR⟩ := hrel
    obtain ⟨⟨g0, g1⟩, _⟩ := two_cells HR.out.bx
    by_cases hk : k < m
    · have hk' : (k : Int) < m := by omega
      have hkg : k < (gro (edl l) (2 * l.length) n (fun _ => false) c k).1.length := by rw [HM.out]; exact hk
      obtain ⟨x, HX⟩ := named ((gro (edl l) (2 * l.length) n (fun _ => false) c k).1.getD k 0)
      have hxn : x < n := by rw [← HX.out]; exact gro_at hc hkg
      have HGO := Lib.hid (gro_go hkg)
      rw [HX.out] at HGO
      have HSX : Hid ((gro (edl l) (2 * l.length) n (fun _ => false) c k).2 x = true) := by
        rw [← HX.out]
        exact (gro_inv (E := edl l) (M := 2 * l.length) (S := fun _ => false) hc k).sn _ (by simp [List.getD, List.getElem?_eq_getElem hkg])
      have hcell : wr.cell? ⟨g, k, none⟩ = some (.int .i64 (x : Int)) := by
        rw [HR.out.ow.cellAt k (by rw [Nat.mul_one]; exact hkg), cellsI_getD _ _ (by rw [ints_len]; exact hkg), ints_getD hkg, HX.out]
      have hgl := own_lt HR.out.ow
      have hmn : m ≤ n := by rw [← HM.out]; exact gro_short hc k
      have HAD : Hid (Arcs wr.drew a l) := HAR.out.on (by rw [hp]; exact HR.out.be.drew)
      clear hkg
      go_wp2_with fail
      go_region_with (first | (go_at_call 80; refine (rnear_any n x a l cap _ hn hl hxn HPO.out HAD.out).mono ?_; rintro e w4 ⟨b4, rfl, hb4l, ht4, hbe4⟩; have HT4 := Lib.hid ht4; have HBE4 := Lib.hid hbe4; clear ht4 hbe4) | (go_at_call 79; refine (rall_any hn HT4.out).mono ?_; rintro e w5 ⟨v5, rfl, hown5, hbe5⟩; obtain ⟨aq, cq, rfl⟩ := own_slice hown5; have HO5 := Lib.hid hown5; have HBE5 := Lib.hid hbe5; clear hown5 hbe5))
      all_goals
        obtain ⟨xs, HXS⟩ := named (gro (edl l) (2 * l.length) n (fun _ => false) c k).1
        obtain ⟨S, HSS⟩ := named (gro (edl l) (2 * l.length) n (fun _ => false) c k).2
        obtain ⟨q, HQ⟩ := named (nbl l n x)
        have hql : q.length ≤ n := by rw [← HQ.out]; exact allk_len _ _
        have hmx : xs.length = m := by rw [← HXS.out]; exact HM.out
        have HMX := Lib.hid hmx
        have HSX2 : Hid (S x = true) := by rw [← HSS.out]; exact HSX.out
        have HO5q : Hid (w5.ownsRow w4.heap.size 3 1 (.slice aq q.length cq) q.length (cellsI (ints q))) := by rw [← HQ.out]; exact HO5.out
        have hqe : (allk (fun u => nr l x u && !decide (u = x)) n).length = q.length := by rw [← HQ.out]; rfl
        have hz4 : wr.heap.size ≤ w4.heap.size := HBE4.out.size
        have HB45 : Hid (Below wr.heap.size wr w5) := by
          have h1 : Below wr.heap.size wr w4 := (Below.refl _ wr).drew.trans HBE4.out
          exact h1.trans (HBE5.out.mono hz4)
        have HRI : Hid (Ri w w5 p n (.slice a l.length cap) S xs q 0 g cc (p + 1) aq cq) := by
          refine ⟨?_, ?_, (HB45.out.block p (lt_of_block HR.out.bx)).trans HR.out.bx, HR.out.be.trans (HB45.out.mono (Nat.le_of_lt (lt_of_block HR.out.bx))), own_base HO5q.out (by omega), ?_, by have := HB45.out.size; omega⟩
          · have := own_on HR.out.ow HB45.out
            rw [HXS.out] at this
            simpa using this
          · have := HR.out.tb.same (HB45.out.block _ HR.out.tb.lt)
            rw [HSS.out] at this
            exact this.congr (fun u _ => by simp)
          · intro b hb e
            have := (HO5q.out.lt b hb).1
            omega
        rw [hqe]
        clear hcell hmx hqe
        have HQN : Hid (q.Nodup) := by rw [← HQ.out]; exact nbl_nodup l n x
        have HQL : Hid (∀ u, u ∈ q → u < n) := fun u hu => by rw [← HQ.out] at hu; exact (mem_nbl.1 hu).1
        go_wp2_with fail
        go_loopw [6, 9] (fun s6 s9 wr => ∃ (j g2 c2 len : Nat), s6 = .slice (some ⟨g2, 0, none⟩) len c2 ∧ s9 = .int .i64 j ∧ j ≤ q.length ∧ Hid (xs.length + ((q.take j).filter (fun u => !S u)).length = len) ∧ Hid (Ri w wr p n (.slice a l.length cap) S xs q j g2 c2 (p + 1) aq cq)) (fun _ s9 _ => q.length - (intOf s9).toNat)
        case atStart => exact ⟨0, g, cc, m, rfl, rfl, Nat.zero_le _, by show _ = _; simpa using HMX.out, HRI⟩
        case round =>
          obtain ⟨j, g2, c2, len, rfl, rfl, hj, HLN, HRJ⟩ := hrel
          have hlen : len ≤ 2048 := by
            rw [← HLN.out, HMX.out]
            have : ((q.take j).filter (fun u => !S u)).length ≤ q.length := Nat.le_trans (List.length_filter_le _ _) (by rw [List.length_take]; omega)
            omega
          by_cases hjq : j < q.length
          · have hjq' : (j : Int) < q.length := by omega
            obtain ⟨gq, haq, hgq1, hgq2, hcq⟩ := own_cell HRJ.out.qs (ints_len q) hjq
            subst haq
            rw [ints_getD hjq] at hcq
            obtain ⟨y, HY⟩ := named (q.getD j 0)
            have hyn : y < n := by rw [← HY.out]; exact HQL.out _ (by simp [List.getD, List.getElem?_eq_getElem hjq])
            rw [HY.out] at hcq
            have hyn' : (y : Int) < n := by omega
            have e1 := HRJ.out.tb.cell hyn
            have e2 := HRJ.out.tb.free y
            have hny : y ∉ q.take j := by rw [← HY.out]; exact take_new HQN.out hjq
            rw [decide_eq_false hny, Bool.or_false] at e1
            obtain ⟨sb, HSB⟩ := named (S y)
            rw [HSB.out] at e1
            have hq1 : gq ≠ p + 1 := by omega
            have hq2 := hq1.symm
            clear hny
            cases sb
            · have hz : (wr.setCell ⟨p + 1, y, none⟩ (.bool true)).heap.size = wr.heap.size := by simp [World.setCell]
              have hnw := one_new (wr.setCell ⟨p + 1, y, none⟩ (.bool true)) (y : Int)
              rw [hz] at hnw
              have HNW := Lib.hid hnw
              have how := HRJ.out.ow
              rw [HLN.out] at how
              have HOW3 := Lib.hid ((own_set how ⟨p + 1, y, none⟩ (.bool true) (by show p + 1 < p + 2; omega)).alloc (.cells #[.int .i64 (y : Int)] 3))
              have HBZ : Hid (p + 2 ≤ ((wr.setCell ⟨p + 1, y, none⟩ (.bool true)).alloc (.cells #[.int .i64 (y : Int)] 3)).heap.size) := by
                show _ ≤ _
                rw [World.size_alloc, hz]
                have := HRJ.out.sz
                omega
              clear hz hnw how
              go_wp2_with (at_builtin; refine wpList_append_new rfl (.tmp 51) (.tmp 56) 25 rfl (p + 2) 3 i3 (.int .i64 0) 1 8 Try.underlying25 hi3 hz3 hs3 hby3 rfl (by decide) (.slice (some ⟨g2, 0, none⟩) len c2) len (cellsI (ints (xs ++ (q.take j).filter (fun u => !S u)))) rfl HOW3.out ⟨wr.heap.size, 0, none⟩ 1 1 [.int .i64 (y : Int)] rfl rfl HNW.out (one_i64 _) (by unfold maxLen; omega) (by omega) HBZ.out (by omega) ?_; intro v6 w6 hown6 hgrow6 hb6; obtain ⟨g6, c6, hv6, _, _, _, _⟩ := own_shape hown6 (by rintro rfl; simp [Value.ownBlock] at hb6); subst hv6; have hb7 : g6 = g2 ∨ g6 = wr.heap.size + 1 := (hb6.imp (fun e => Option.some.inj e) (fun e => by have := Option.some.inj (show some g6 = some _ from e); simpa using this)); have HX6 := Lib.hid (HRJ.out.add (w6 := w6) (g6 := g6) (c6 := c6) (o := .cells #[.int .i64 (y : Int)] 3) hjq (by rw [HY.out]; exact HSB.out) (by omega) (by rw [HLN.out, HY.out]; exact hown6) (by rw [HY.out]; exact hgrow6) hb7); clear hown6 hgrow6 hb6 hb7)
              refine ⟨⟨j + 1, g6, c6, len + 1, rfl, by simp, by omega, ?_, HX6⟩, by simp [intOf]; omega⟩
              show _ = _
              have e := take_fil (S := S) hjq
              rw [HY.out, if_neg (by rw [HSB.out]; simp)] at e
              rw [e, List.length_append, ← Nat.add_assoc, HLN.out]
              rfl
            · go_wp2_with fail
              have e := take_fil (S := S) hjq
              rw [HY.out, if_pos HSB.out] at e
              refine ⟨⟨j + 1, g2, c2, len, rfl, by simp, by omega, ?_, Lib.hid (HRJ.out.skip hjq (by rw [HY.out]; exact HSB.out))⟩, by simp [intOf]; omega⟩
              show _ = _
              rw [e]; exact HLN.out
          · obtain rfl : j = q.length := by omega
            have hjq' : ¬ (q.length : Int) < q.length := by omega
            go_wp2_with fail
            have hpo2 : ∀ x, x ∈ l → 0 ≤ x.f ∧ 0 ≤ x.t := fun x hx => ⟨(HPO.out x hx).1.1, (HPO.out x hx).2.1⟩
            have eL : (q.take q.length).filter (fun u => !S u) = ext (edl l) (2 * l.length) n S x := by rw [List.take_length, ← HQ.out]; exact ext_nbl hpo2 HSX2.out
            have hGO := HGO.out
            rw [HXS.out, HSS.out] at hGO
            have hln := HLN.out
            rw [eL] at hln
            have hlr : (gro (edl l) (2 * l.length) n (fun _ => false) c (k + 1)).1.length = len := by rw [hGO, List.length_append]; exact hln
            have how := HRJ.out.ow
            rw [eL, hln] at how
            refine ⟨⟨k + 1, g2, c2, len, rfl, by simp, hlr, ⟨?_, ?_, ?_, HRJ.out.bx, HRJ.out.be⟩⟩, by simp [intOf]; omega⟩
            · rw [hlr]; have := HMX.out; omega
            · rw [hlr, hGO]; exact how
            · rw [hGO]
              refine HRJ.out.tb.congr (fun u hu => ?_)
              rw [List.take_length, ← HQ.out]
              show Value.bool _ = .bool _
              rw [seen_nbl hpo2 HSX2.out hu]
    · have hk' : ¬ (k : Int) < m := by omega
      go_wp2_with fail
      go_ret
      obtain ⟨hw, hg⟩ := came_all (E := edl l) (M := 2 * l.length) (S := fun _ => false) hc HR.out.le (by rw [HM.out]; exact hk)
      refine ⟨_, rfl, ?_, HR.out.be⟩
      have := own_base HR.out.ow (base' := p) (by omega)
      rw [HM.out] at this
      unfold whole
      rw [← hg, HM.out]
      exact this
end Go.Proofs.Ytchfccbneedejaa
namespace Go.Proofs.Ytchfccbneedejaa
open Go.RowKit
theorem ordw_skp {E : List Ed} {M N k : Nat} (h : (ordw E M N k).2 k = true) : ordw E M N (k + 1) = ordw E M N k := by simp only [ordw]; rw [if_pos h]
theorem ordw_gro {E : List Ed} {M N k : Nat} (h : (ordw E M N k).2 k = false) : ordw E M N (k + 1) = ((ordw E M N k).1 ++ whole E M N (ordw E M N k).2 k, (gro E M N (ordw E M N k).2 k N).2) := by simp only [ordw]; rw [if_neg (by rw [h]; simp)]
/-- Within a growth: j of q have been added. -/
structure Rw (w wr : World) (p n : Nat) (s : Value) (xs q : List Nat) (j : Nat) (v vq : Value) : Prop where
  ow : wr.ownsRow (p + 2) 3 1 v (xs ++ q.take j).length (cellsI (ints (xs ++ q.take j)))
  tb : TbV wr (p + 1) n 4 (fun u => .bool (decide (u ∈ xs ++ q.take j)))
  bx : wr.heap[p]? = some (.cells #[.int .i64 (n : Int), s] 24 (0, 0))
  be : Below p w wr
  qs : wr.ownsRow (p + 2) 3 1 vq q.length (cellsI (ints q))
  ne : ∀ b, vq.ownBlock = some b → v.ownBlock ≠ some b
theorem Rw.add {w wr w6 : World} {p n : Nat} {s : Value} {xs q : List Nat} {j g6 c6 : Nat} {v vq : Value} {o : Obj} (h : Rw w wr p n s xs q j v vq) (hj : j < q.length)
    (hown : w6.ownsRow (p + 2) 3 1 (.slice (some ⟨g6, 0, none⟩) ((xs ++ q.take j).length + 1) c6) ((xs ++ q.take j).length + 1) (cellsI (ints (xs ++ q.take j)) ++ [.int .i64 ((q.getD j 0 : Nat) : Int)]))
    (hgr : ((wr.setCell ⟨p + 1, q.getD j 0, none⟩ (.bool true)).alloc o).grownBy w6 v.ownBlock) (hb : some g6 = v.ownBlock ∨ g6 = wr.heap.size + 1) : Rw w w6 p n s xs q (j + 1) (.slice (some ⟨g6, 0, none⟩) ((xs ++ q.take j).length + 1) c6) vq := by
  have ets : xs ++ q.take (j + 1) = (xs ++ q.take j) ++ [q.getD j 0] := by rw [take_snoc hj, List.append_assoc]
  have hvl : ∀ b, v.ownBlock = some b → p + 2 ≤ b ∧ b < wr.heap.size := fun b hb => h.ow.lt b hb
  have f1 : Fr (fun j => j = p + 1) wr (wr.setCell ⟨p + 1, q.getD j 0, none⟩ (.bool true)) := (Fr.refl _ wr).setCell ⟨p + 1, q.getD j 0, none⟩ _ rfl
  have f2 : Fr (fun j => some j = v.ownBlock) (wr.setCell ⟨p + 1, q.getD j 0, none⟩ (.bool true)) w6 := ((Fr.refl _ _).alloc o).trans ⟨hgr.os, hgr.tape, hgr.output, hgr.size, fun k hk hn => hgr.block k hk hn⟩
  have f3 : Fr (fun j => j = p + 1 ∨ some j = v.ownBlock) wr w6 := (f1.imp (fun _ h => .inl h)).trans (f2.imp (fun _ h => .inr h))
  have hpl := lt_of_block h.bx
  refine ⟨?_, ?_, ?_, ?_, ?_, ?_⟩
  · rw [ets, ints_snoc, ← cellsI_snoc, show (xs ++ q.take j ++ [q.getD j 0]).length = (xs ++ q.take j).length + 1 by simp; omega]
    exact hown
  · refine ((h.tb.set (q.getD j 0) (.bool true)).fr f2 (fun e => by have := (hvl _ e.symm).1; omega)).congr (fun u _ => ?_)
    refine upd_true (G := fun u => decide (u ∈ xs ++ q.take (j + 1))) (fun u => ?_)
    rw [ets, Bool.eq_iff_iff]
    simp only [decide_eq_true_eq, List.mem_append, List.mem_singleton, Bool.or_eq_true]
  · exact (f3.block p hpl (fun e => e.elim (fun e => by omega) (fun e => by have := (hvl _ e.symm).1; omega))).trans h.bx
  · exact ⟨f3.os.trans h.be.os, f3.tape.trans h.be.tape, f3.output.trans h.be.output, Nat.le_trans h.be.size f3.size, fun k hk => (f3.block k (by omega) (fun e => e.elim (fun e => by omega) (fun e => by have := (hvl _ e.symm).1; omega))).trans (h.be.block k hk)⟩
  · refine ⟨h.qs.1, ?_⟩
    rcases h.qs.2 with h' | ⟨g', c', cur, e1, e2, e3, e4⟩
    · exact Or.inl h'
    · refine Or.inr ⟨g', c', cur, e1, e2, (f3.block g' (lt_of_block e3) (fun e => ?_)).trans e3, e4⟩
      rcases e with e | e
      · omega
      · exact h.ne g' (by rw [e1]; rfl) e.symm
  · intro b hb2 e
    have e : g6 = b := Option.some.inj e
    rcases hb with e2 | e2
    · exact h.ne b hb2 (by rw [← e2, e])
    · have := (h.qs.lt b hb2).2; omega
set_option maxRecDepth 100000 in
set_option maxHeartbeats 1600000 in
theorem rwhole_any (n : Nat) (a : Option Addr) (l : List A) (cap : Nat) (w : World) (hn : n ≤ 1024) (hl : l.length ≤ 8192) (hpo : ∀ x, x ∈ l → (0 ≤ x.f ∧ x.f < n) ∧ 0 ≤ x.t ∧ x.t < n) (hr : Arcs w a l) :
    Calls Try.prog 55 #[.agg #[.int .i64 n, .slice a l.length cap]] w fun e w' => ∃ v, e = .returned v ∧ w'.ownsRow w.heap.size 3 1 v (ordw (edl l) (2 * l.length) n n).1.length (cellsI (ints (ordw (edl l) (2 * l.length) n n).1)) ∧ Below w.heap.size w w' := by
  obtain ⟨i3, hi3, hz3, hs3, hby3⟩ := info_parts info3
  obtain ⟨i4, hi4, hz4, hs4, hb4⟩ := info_parts info4
  have hmkB : ∀ w, (Instr.makeSlice 69 (.int .i64 n) (.int .i64 n)).run Try.prog w = .ok (.slice (some ⟨w.heap.size, 0, none⟩) n n) (w.alloc (.cells ((List.range n).map (fun _ => Value.bool false)).toArray 4)) := fun w => by
    have := run_make (P := Try.prog) w 69 4 i4 (.bool false) Try.underlying69 hi4 hz4 .i64 .i64 n n (by omega) (by omega) (by rw [hb4]; omega) (by omega)
    rw [this, Int.toNat_natCast, hs4, made_bool]
  have hb0 : Below w.heap.size w (w.alloc (.cells #[.int .i64 n, .slice a l.length cap] 24)) := (Below.refl _ _).alloc (Nat.le_refl _) _
  have hg := heap_top w (.cells #[.int .i64 n, .slice a l.length cap] 24)
  have HPO := Lib.hid hpo
  have HAR := Lib.hid hr
  have HSY : Hid (∀ u v, adjF (edl l) (2 * l.length) u 0 v = adjF (edl l) (2 * l.length) v 0 u) := fun u v => adj_sym (fun x hx => ⟨(hpo x hx).1.1, (hpo x hx).2.1⟩) u v
  clear hi4 hz4 hs4 hb4 hpo hr
  clear i4
  generalize hp : w.heap.size = p at *
  have hgv := (Below.heap_alloc (w.alloc (.cells #[.int .i64 n, .slice a l.length cap] 24)) (.cells ((List.range n).map (fun _ => Value.bool false)).toArray 4) p (lt_of_block hg)).trans hg
  have HT0 : Hid (TbV ((w.alloc (.cells #[.int .i64 n, .slice a l.length cap] 24)).alloc (.cells ((List.range n).map (fun _ => Value.bool false)).toArray 4)) (p + 1) n 4 (fun _ => .bool false)) := by
    have := heap_top (w.alloc (.cells #[.int .i64 n, .slice a l.length cap] 24)) (.cells ((List.range n).map (fun _ => Value.bool false)).toArray 4)
    rw [World.size_alloc, hp] at this
    exact this
  have HBV : Hid (Below p w ((w.alloc (.cells #[.int .i64 n, .slice a l.length cap] 24)).alloc (.cells ((List.range n).map (fun _ => Value.bool false)).toArray 4))) := hb0.alloc (by simp; omega) _
  go_enter Try.func55, Try.ntmps55
  go_wp2_with fail
  generalize hV : (w.alloc (.cells #[.int .i64 n, .slice a l.length cap] 24)).alloc (.cells ((List.range n).map (fun _ => Value.bool false)).toArray 4) = V at *
  clear hV hmkB hg hb0
  have HR0 : Hid (Rw w V p n (.slice a l.length cap) (ordw (edl l) (2 * l.length) n 0).1 [] 0 (.slice none 0 0) (.slice none 0 0)) := ⟨World.ownsRow_nil _ _ _ _, HT0.out.congr (fun u _ => by simp [ordw]), hgv, HBV.out, World.ownsRow_nil _ _ _ _, fun b hb => by cases hb⟩
  go_loopw [4, 5] (fun s4 s5 wr => ∃ (k : Nat) (av : Option Addr) (cv len : Nat), k ≤ n ∧ s4 = .slice av len cv ∧ s5 = .int .i64 k ∧ Hid ((ordw (edl l) (2 * l.length) n k).1.length = len) ∧ Hid (Rw w wr p n (.slice a l.length cap) (ordw (edl l) (2 * l.length) n k).1 [] 0 (.slice av len cv) (.slice none 0 0))) (fun _ s5 _ => n - (intOf s5).toNat)
  case atStart => exact ⟨0, none, 0, 0, Nat.zero_le _, rfl, rfl, rfl, HR0⟩
  case round =>
    obtain ⟨k, av, cv, len, hk, rfl, rfl, HLEN, HR⟩ := hrel
    have hgr := HR.out.bx
    obtain ⟨⟨g0, g1⟩, _⟩ := two_cells hgr
    have hpr := lt_of_block hgr
    by_cases hlt : k < n
    · have hlt' : (k : Int) < n := by omega
      have ds := HR.out.tb.cell hlt
      have hinv := ordw_inv (N := n) HSY.out k (by omega)
      have hinv1 := ordw_inv (N := n) HSY.out (k + 1) (by omega)
      rw [List.take_nil, List.append_nil] at ds
      by_cases hin : k ∈ (ordw (edl l) (2 * l.length) n k).1
      · rw [decide_eq_true hin] at ds
        have HSK := Lib.hid (ordw_skp ((hinv.sn k hlt).2 hin))
        clear hinv hinv1
        go_wp2_with fail
        refine ⟨⟨k + 1, av, cv, len, by omega, rfl, by simp, ?_, ?_⟩, by simp [intOf]; omega⟩
        · rw [HSK.out]; exact HLEN
        · rw [HSK.out]; exact HR
      · rw [decide_eq_false hin] at ds
        have hSk : (ordw (edl l) (2 * l.length) n k).2 k = false := by
          rw [Bool.eq_false_iff]; exact fun h => hin ((hinv.sn k hlt).1 h)
        have hGD := ordw_gro hSk
        obtain ⟨hap, _, _⟩ := gro_apart (E := edl l) (M := 2 * l.length) hlt hinv.sh hSk n
        have hwe : whole (edl l) (2 * l.length) n (ordw (edl l) (2 * l.length) n k).2 k = whole (edl l) (2 * l.length) n (fun _ => false) k := hap
        rw [hwe] at hGD
        have hi0 := gro_inv (E := edl l) (M := 2 * l.length) (S := fun _ => false) hlt n
        have HQL : Hid (∀ u, u ∈ whole (edl l) (2 * l.length) n (fun _ => false) k → u < n) := hi0.lt
        have hlen1 : (ordw (edl l) (2 * l.length) n (k + 1)).1.length ≤ n := nodup_short hinv1.nd hinv1.lt
        have HGD : Hid ((ordw (edl l) (2 * l.length) n (k + 1)).1 = (ordw (edl l) (2 * l.length) n k).1 ++ whole (edl l) (2 * l.length) n (fun _ => false) k) := by show _ = _; rw [hGD]
        have HL1 := Lib.hid hlen1
        rw [HGD.out] at HL1
        have HBK := Lib.hid HR.out.be
        clear hinv hinv1 hap hwe hi0 hGD hlen1 hSk
        go_wp2_with fail
        refine (raround_any n k a l cap wr hn hl hlt HPO.out (HAR.out.on (by rw [hp]; exact HBK.out))).mono ?_
        rintro e w5 ⟨vq, rfl, hown5, hb5⟩
        obtain ⟨aq, cq, rfl⟩ := own_slice hown5
        have HRI : Hid (Rw w w5 p n (.slice a l.length cap) (ordw (edl l) (2 * l.length) n k).1 (whole (edl l) (2 * l.length) n (fun _ => false) k) 0 (.slice av len cv) (.slice aq (whole (edl l) (2 * l.length) n (fun _ => false) k).length cq)) := by
          have how := own_on HR.out.ow hb5
          refine ⟨by simpa using how, (HR.out.tb.same (hb5.block _ HR.out.tb.lt)).congr (fun u _ => by simp), (hb5.block _ hpr).trans hgr, HBK.out.trans (hb5.mono (by omega)), own_base hown5 (by have := HR.out.tb.lt; omega), fun b hb e => ?_⟩
          have h1 := (hown5.lt b hb).1
          have h2 := (HR.out.ow.lt b e).2
          omega
        generalize hq : whole (edl l) (2 * l.length) n (fun _ => false) k = q at *
        generalize hxs : (ordw (edl l) (2 * l.length) n k).1 = xs at *
        clear hown5 hb5 hq g0 g1
        go_wp2_with fail
        go_loopw [4, 7] (fun s4 s7 wr => ∃ (j : Nat) (av : Option Addr) (cv len : Nat), j ≤ q.length ∧ s4 = .slice av len cv ∧ s7 = .int .i64 j ∧ Hid ((xs ++ q.take j).length = len) ∧ Hid (Rw w wr p n (.slice a l.length cap) xs q j (.slice av len cv) (.slice aq q.length cq))) (fun _ s7 _ => q.length - (intOf s7).toNat)
        case atStart => exact ⟨0, av, cv, len, Nat.zero_le _, rfl, rfl, by show _ = _; simpa using HLEN.out, HRI⟩
        case round =>
          obtain ⟨j, a2, c2, len2, hj, rfl, rfl, HLN, HRJ⟩ := hrel
          have hql : q.length ≤ 1024 := by have := HL1.out; rw [List.length_append] at this; omega
          by_cases hjq : j < q.length
          · have hjq' : (j : Int) < q.length := by omega
            obtain ⟨gq, haq, hgq1, hgq2, hcq⟩ := own_cell HRJ.out.qs (ints_len q) hjq
            subst haq
            rw [ints_getD hjq] at hcq
            have hlen2 : len2 + 1 ≤ 1024 := by
              have h1 := HL1.out
              have h2 := HLN.out
              rw [List.length_append] at h1 h2
              rw [List.length_take] at h2
              omega
            have HADD := Lib.hid (fun g6 c6 w6 => Rw.add (g6 := g6) (c6 := c6) (w6 := w6) (o := .cells #[.int .i64 ((q.getD j 0 : Nat) : Int)] 3) HRJ.out hjq)
            have HSL : Hid ((xs ++ q.take (j + 1)).length = len2 + 1) := by
              show _ = _
              rw [← HLN.out, take_snoc hjq]
              simp
              omega
            rw [HLN.out] at HADD
            have hyn : q.getD j 0 < n := HQL.out _ (by simp [List.getD, List.getElem?_eq_getElem hjq])
            generalize q.getD j 0 = y at *
            have hyn' : (y : Int) < n := by omega
            have e1 := HRJ.out.tb.cell hyn
            have e2 := HRJ.out.tb.free y
            generalize decide (y ∈ xs ++ q.take j) = eb at e1
            have hq1 : gq ≠ p + 1 := by omega
            have hq2 := hq1.symm
            have hz : (wr.setCell ⟨p + 1, y, none⟩ (.bool true)).heap.size = wr.heap.size := by simp [World.setCell]
            have hnw := one_new (wr.setCell ⟨p + 1, y, none⟩ (.bool true)) (y : Int)
            rw [hz] at hnw
            have HNW := Lib.hid hnw
            have how := HRJ.out.ow
            rw [HLN.out] at how
            have HOW3 := Lib.hid ((own_set how ⟨p + 1, y, none⟩ (.bool true) (by show p + 1 < p + 2; omega)).alloc (.cells #[.int .i64 (y : Int)] 3))
            have HBZ : Hid (p + 2 ≤ ((wr.setCell ⟨p + 1, y, none⟩ (.bool true)).alloc (.cells #[.int .i64 (y : Int)] 3)).heap.size) := by
              show _ ≤ _
              rw [World.size_alloc, hz]
              have := HRJ.out.tb.lt
              omega
            clear hz hnw how
            go_wp2_with (at_builtin; refine wpList_append_new rfl (.tmp 36) (.tmp 41) 25 rfl (p + 2) 3 i3 (.int .i64 0) 1 8 Try.underlying25 hi3 hz3 hs3 hby3 rfl (by decide) (.slice a2 len2 c2) len2 (cellsI (ints (xs ++ q.take j))) rfl HOW3.out ⟨wr.heap.size, 0, none⟩ 1 1 [.int .i64 (y : Int)] rfl rfl HNW.out (one_i64 _) (by unfold maxLen; omega) (by omega) HBZ.out (by omega) ?_; intro v6 w6 hown6 hgrow6 hb6; obtain ⟨g6, c6, hv6, _, _, _, _⟩ := own_shape hown6 (by rintro rfl; have := hown6.1; simp [cellsI] at this; rcases hown6.2 with ⟨_, h0⟩ | ⟨_, _, _, h0, _⟩; (· omega); (· cases h0)); subst hv6; have HX6 := Lib.hid (HADD.out g6 c6 w6 hown6 hgrow6 (hb6.imp id (fun e => by have := Option.some.inj (show some g6 = some _ from e); simpa [World.setCell] using this))); clear hown6 hgrow6 hb6)
            exact ⟨⟨j + 1, some ⟨g6, 0, none⟩, c6, len2 + 1, by omega, rfl, by simp, HSL, HX6⟩, by simp [intOf]; omega⟩
          · obtain rfl : j = q.length := by omega
            have hjq' : ¬ (q.length : Int) < q.length := by omega
            have hrj := HRJ.out
            have hln := HLN.out
            go_wp2_with fail
            refine ⟨⟨k + 1, a2, c2, len2, by omega, rfl, by simp, ?_, ?_⟩, by simp [intOf]; omega⟩
            · show _ = _
              rw [HGD.out, ← hln, List.take_length]
            · rw [HGD.out]
              refine ⟨?_, ?_, hrj.bx, hrj.be, World.ownsRow_nil _ _ _ _, fun b hb => by cases hb⟩
              · have := hrj.ow
                rw [List.take_length] at this
                simpa using this
              · have := hrj.tb
                rw [List.take_length] at this
                exact this.congr (fun u _ => by simp)
    · obtain rfl : k = n := by omega
      have hlt' : ¬ (k : Int) < k := by omega
      have how := HR.out.ow
      rw [List.take_nil, List.append_nil, HLEN.out] at how
      have HOW := Lib.hid how
      clear how
      go_wp2_with fail
      go_ret
      refine ⟨_, rfl, ?_, HR.out.be⟩
      rw [HLEN.out]
      exact own_base HOW.out (by omega)
end Go.Proofs.Ytchfccbneedejaa
namespace Go.Proofs.Ytchfccbneedejaa.T3
open Go
/-- What is asked behind the region without its last operation. -/
def lastQ (P : Program) (o : Oper) (Q : Exit → Act → World → Prop) : Exit → Act → World → Prop
  | .normal, a, w => o.wp P a w (fun a' w' => Q .normal a' w') Q
  | e, a, w => Q e a w
/-- The idle operation. -/
def idle (o : Oper) : Oper := { o with op := .move (.const (.bool true)) }
section
variable {P : Program} {Q Q' : Exit → Act → World → Prop} {md : Region.Mode}
theorem wp_turn {o : Oper} {a : Act} {w : World} {K K' : Act → World → Prop} (hK : ∀ a w, K a w → K' a w) (hQ : ∀ e a w, e ≠ .normal → Q e a w → Q' e a w) (h : o.wp P a w K Q) : o.wp P a w K' Q' := by
  have hL : LetsOut Q → LetsOut Q' := fun ⟨a, w, h⟩ => ⟨a, w, hQ _ _ _ (by simp) h⟩
  unfold Oper.wp at *
  generalize (execOp a.eval o).run P w = r at *
  cases r with
  | ok n w' =>
    cases n <;> simp only [Oper.upon] at h ⊢ <;>
      first
        | exact hK _ _ h
        | exact Calls.mono h (fun e w'' he => by cases e <;> first | exact hK _ _ he | exact hL he | exact hQ _ _ _ (by simp) he)
        | exact Rows.mono h (fun _ _ he => hK _ _ he)
        | exact h
  | halt x w' => cases x <;> simp only [Oper.upon] at h ⊢ <;> first | exact hQ _ _ _ (by simp) h | exact h
theorem idle_run (o : Oper) (a : Act) (w : World) : (execOp a.eval (idle o)).run P w = .ok (.value (.bool true)) w := by
  simp [execOp, idle, Act.eval]
theorem idle_asks (o : Oper) (a : Act) (w : World) : ¬ (idle o).asks P a w := by
  intro h
  have h1 := h.1
  simp [execOp, idle, Act.eval] at h1
  cases (Array.not_mem_empty _ h1 : False)
/-- Every operation waits for earlier ones alone; the last one for all. -/
def lastOK (md : Region.Mode) (ops : Array Oper) (m : Nat) : Bool :=
  ops.size == m + 1 && (List.range ops.size).all (fun j => (ops[j]?).all (fun o => o.after.all (fun e => decide (e.on < j)))) && ((ops[m]?).all (fun o => o.guard.isNone && o.dst.isNone && (List.range m).all (fun j => o.after.any (fun e => Region.binds md e && e.on == j))))
theorem ready_some {ops : Array Oper} {m : Nat} (hok : lastOK md ops m = true) {listed : Array Bool} : ∀ j, j < ops.size → listed.getD j true = false → (∀ i, i < j → listed.getD i false = true) → j ∈ Region.ready md ops listed := by
  intro j hj hl hb
  simp only [lastOK, Bool.and_eq_true, List.all_eq_true, List.mem_range] at hok
  refine mem_ready.2 ⟨hl, ops[j], by simp [hj], fun e he _ => hb _ ?_⟩
  have := hok.1.2 j hj
  rw [Array.getElem?_eq_getElem hj] at this
  simp only [Option.all_some, Array.all_eq_true] at this
  obtain ⟨i, hi, rfl⟩ := Array.mem_iff_getElem.1 he
  simpa using this i hi
theorem getD_set_same {l : Array Bool} {i : Nat} {b : Bool} (h : i < l.size) : (l.setIfInBounds i true).getD i b = true := by simp [h]
theorem getD_set_other {l : Array Bool} {i j : Nat} {b : Bool} (h : i ≠ j) : (l.setIfInBounds i true).getD j b = l.getD j b := by
  simp [h]
/-- Something may come up as long as something has not. -/
theorem ready_ne {ops : Array Oper} {m : Nat} (hok : lastOK md ops m = true) {listed : Array Bool} (hs : listed.size = ops.size) (j : Nat) (hj : j < ops.size) (hl : listed.getD j true = false) : Region.ready md ops listed ≠ [] := by
  induction j using Nat.strongRecOn with
  | ind j ih =>
    by_cases h : ∀ i, i < j → listed.getD i false = true
    · intro e
      have := ready_some hok j hj hl h
      rw [e] at this
      cases this
    · simp only [Classical.not_forall] at h
      obtain ⟨i, hi, hn⟩ := h
      refine ih i hi (by omega) ?_
      have hi' : i < listed.size := by omega
      simp [hi'] at hn ⊢
      exact hn
theorem ready_last {ops : Array Oper} {m : Nat} (hok : lastOK md ops m = true) {listed : Array Bool} (h : m ∈ Region.ready md ops listed) : ∀ j, j < m → listed.getD j false = true := by
  intro j hj
  obtain ⟨_, o, ho, ha⟩ := mem_ready.1 h
  simp only [lastOK, Bool.and_eq_true, List.all_eq_true, List.mem_range] at hok
  have := hok.2
  rw [ho] at this
  simp only [Option.all_some, Bool.and_eq_true, List.all_eq_true, List.mem_range] at this
  have h2 := this.2 j hj
  rw [Array.any_eq_true] at h2
  obtain ⟨i, hi, h3⟩ := h2
  simp only [Bool.and_eq_true, beq_iff_eq] at h3
  have := ha _ (Array.getElem_mem hi) h3.1
  rw [h3.2] at this
  exact this
/-- The region with the idle operation in the last one's place. -/
def idled (ops : Array Oper) (m : Nat) : Array Oper := ops.modify m idle
theorem idled_get (ops : Array Oper) (m j : Nat) : (idled ops m)[j]? = if j = m then (ops[j]?).map idle else ops[j]? := by
  unfold idled
  rw [Array.getElem?_modify]
  by_cases h : m = j
  · subst h; simp
  · rw [if_neg h, if_neg (fun e => h e.symm)]
theorem idled_ready (ops : Array Oper) (m : Nat) (listed : Array Bool) : Region.ready md (idled ops m) listed = Region.ready md ops listed := by
  unfold Region.ready
  rw [show (idled ops m).size = ops.size by simp [idled]]
  congr 1
  funext i
  rw [idled_get]
  split
  · cases ops[i]? <;> rfl
  · rfl
theorem idled_yielded (ops : Array Oper) (m : Nat) (tmps : Array Value) : yielded (idled ops m) tmps = yielded ops tmps := by
  funext j
  have h : ((idled ops m)[j]?).bind (·.dst) = (ops[j]?).bind (·.dst) := by
    rw [idled_get]
    split
    · cases ops[j]? <;> rfl
    · rfl
  unfold yielded
  rw [h]
theorem any_end {ops : Array Oper} {fuel : Nat} {listed : Array Bool} {a : Act} {w : World} (hr : Region.ready md ops listed = []) : wpAny P md ops Q fuel listed a w ↔ Q .normal a w := by
  cases fuel with
  | zero => simp [wpAny, hr]
  | succ n => simp [wpAny, hr]
theorem any_last {ops : Array Oper} {m : Nat} {o : Oper} (hok : lastOK md ops m = true) (hm : ops[m]? = some o) : ∀ (fuel : Nat) (listed : Array Bool) (a : Act) (w : World), listed.size = ops.size → listed.getD m true = false →
    wpAny P md (idled ops m) (lastQ P o Q) fuel listed a w → wpAny P md ops Q fuel listed a w := by
  have hms : m < ops.size := (Array.getElem?_eq_some_iff.1 hm).1
  have hpa := hok
  simp only [lastOK, Bool.and_eq_true, beq_iff_eq] at hpa
  have hog : o.guard = none ∧ o.dst = none := by
    have h2 := hpa.2
    rw [hm] at h2
    simp only [Option.all_some, Bool.and_eq_true, Option.isNone_iff_eq_none] at h2
    exact ⟨h2.1.1, h2.1.2⟩
  intro fuel
  induction fuel with
  | zero =>
    intro listed a w hs hl h
    have h1 := h.1
    rw [idled_ready] at h1
    exact absurd h1 (ready_ne hok hs m hms hl)
  | succ fuel ih =>
    intro listed a w hs hl h
    refine ⟨fun h1 => absurd h1 (ready_ne hok hs m hms hl), fun i hi => ?_⟩
    have h2 := h.2 i (by rw [idled_ready]; exact hi)
    by_cases him : i = m
    · subst him
      have hall := ready_last hok hi
      have hend : Region.ready md ops (listed.setIfInBounds i true) = [] := by
        rw [List.eq_nil_iff_forall_not_mem]
        intro j hj
        obtain ⟨h3, oj, h4, _⟩ := mem_ready.1 hj
        have hjs : j < ops.size := (Array.getElem?_eq_some_iff.1 h4).1
        by_cases hji : i = j
        · subst hji
          rw [getD_set_same (by omega)] at h3
          cases h3
        · rw [getD_set_other hji] at h3
          have h5 := hall j (by omega)
          have h6 : j < listed.size := by omega
          simp [h6] at h3 h5
          rw [h3] at h5
          cases h5
      unfold wpOp at h2 ⊢
      rw [idled_get, if_pos rfl, hm] at h2
      rw [hm]
      simp only [Option.map_some] at h2 ⊢
      have hw1 : Region.wanted (idle o) (yielded (idled ops i) a.tmps) = true := by simp [Region.wanted, idle, hog.1]
      have hw2 : Region.wanted o (yielded ops a.tmps) = true := by simp [Region.wanted, hog.1]
      rw [if_pos hw1] at h2
      rw [if_pos hw2]
      rcases h2 with h2 | h2
      · left
        unfold Oper.wp at h2
        rw [idle_run] at h2
        simp only [Oper.upon] at h2
        rw [show (idle o).dst = none from hog.2, any_end (by rw [idled_ready]; exact hend)] at h2
        exact wp_turn (fun a' w' hq => (any_end hend).2 hq) (fun _ _ _ _ hq => hq) h2
      · exact absurd h2.1 (idle_asks o a w)
    · have hx : ops[i]? = (idled ops m)[i]? := by rw [idled_get, if_neg him]
      have hK : ∀ a' w', wpAny P md (idled ops m) (lastQ P o Q) fuel (listed.setIfInBounds i true) a' w' → wpAny P md ops Q fuel (listed.setIfInBounds i true) a' w' := fun a' w' hh =>
        ih _ a' w' (by simpa using hs) (by rw [getD_set_other him]; exact hl) hh
      have hQ : ∀ e a w, e ≠ .normal → lastQ P o Q e a w → Q e a w := fun e a w he hq => by cases e <;> first | exact hq | exact absurd rfl he
      unfold wpOp at h2 ⊢
      rw [idled_yielded, ← hx] at h2
      cases ho : ops[i]? with
      | none => rw [ho] at h2; exact hK _ _ h2
      | some oi =>
        rw [ho] at h2
        simp only at h2 ⊢
        split at h2
        · rename_i hw
          rw [if_pos hw]
          rcases h2 with h2 | h2
          · exact Or.inl (wp_turn hK hQ h2)
          · exact Or.inr ⟨h2.1, by obtain ⟨a, w, h3⟩ := h2.2; exact ⟨a, w, h3⟩⟩
        · rename_i hw
          rw [if_neg hw]
          exact hK _ _ h2
/-- THE LAW: the last operation is carried out behind the region. -/
theorem wp_region_last {id : Nat} {ops : Array Oper} {a : Act} {w : World} {S : World → Prop} (m : Nat) (o : Oper) (hf : P.follows .mixedOrders = true) (hok : lastOK .any ops m = true) (hm : ops[m]? = some o) (ops' : Array Oper) (ho : idled ops m = ops')
    (hS : S w.drew) (h : S w.drew → wpAnyH P .any ops' (lastQ P o Q) S ops'.size (Array.replicate ops'.size false) a w.drew) : (Code.region id ops true).wp P Q a w := by
  have hms : m < ops.size := (Array.getElem?_eq_some_iff.1 hm).1
  have hsz : ops'.size = ops.size := by rw [← ho]; simp [idled]
  refine wp_region_any hf (any_last hok hm _ _ _ _ (by simp) (by simp [hms]) ?_)
  have h1 := wpAny_of_held _ _ _ _ (h hS)
  rw [hsz] at h1
  rw [ho]
  exact h1
end
end Go.Proofs.Ytchfccbneedejaa.T3
