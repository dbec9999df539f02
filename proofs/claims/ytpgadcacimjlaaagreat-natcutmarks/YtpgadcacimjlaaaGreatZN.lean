/-
  Contracts of flyoverref08.Fragments and of the law's refused. Fragments by arcs that are left, and by pairs that are left: the same. Contracts of flyoverref08.Parted and Fragments. The contract of flyoverref03.All. The contract of flyoverref03.Near. The reference's neighbours are the growth's. All pairs of a graph, vertex by vertex: they are the graph's pairs in order. Contracts of flyoverref08.All and Pairs.
-/
import Derived.Test.YtpgadcacimjlaaaGreatZH
import Derived.Test.YtpgadcacimjlaaaGreatZK
import Derived.Test.YtpgadcacimjlaaaGreatZM
import Derived.Test.YtpgadcacimjlaaaGreatZA
import Derived.LoopN
import Derived.Test.YtpgadcacimjlaaaGreatZB
import Derived.Test.YtpgadcacimjlaaaGreatZD
import Derived.Test.YtpgadcacimjlaaaGreatZF
import Derived.Test.YtpgadcacimjlaaaGreatZJ
namespace Go.Proofs.YtpgadcacimjlaaaGreat
open Go.RowKit
/-- The arcs whose pairs are not marked. -/
def keptA (l : List A) (ms : List Pi2) : List T3.A := (l.filter (fun x => !hasB ms (min x.f x.t) (max x.f x.t))).map toT
theorem hasB_nat {ms : List Pi2} (h : ∀ q, q ∈ ms → 0 ≤ q.a ∧ 0 ≤ q.b) (p : Pr) : p ∈ ms.map Pi2.nat ↔ hasB ms p.a p.b = true := by
  unfold hasB
  rw [List.any_eq_true, List.mem_map]
  constructor
  · rintro ⟨q, hq, rfl⟩
    refine ⟨q, hq, ?_⟩
    have := h q hq
    simp only [Pi2.nat, Bool.and_eq_true, beq_iff_eq]
    omega
  · rintro ⟨q, hq, h2⟩
    have h0 := h q hq
    simp only [Bool.and_eq_true, beq_iff_eq] at h2
    exact ⟨q, hq, pr_ext (by show q.a.toNat = p.a; omega) (by show q.b.toNat = p.b; omega)⟩
theorem lead_kept {n : Nat} {l : List A} {ms : List Pi2} (h : chkE n l = 0) (hm : ∀ q, q ∈ ms → 0 ≤ q.a ∧ 0 ≤ q.b) : T3.lead (keptA l ms) = T3.lead (arQ (others l ms)) := by
  have hoa := (chk_zero h).2.2.2
  have hpo : ∀ x, x ∈ l → 0 ≤ x.f ∧ 0 ≤ x.t := fun x hx => ⟨(hoa x hx).1.1, (hoa x hx).2.1⟩
  refine T3.lead_one (fun y hy => ?_) (fun y hy => ?_)
  · obtain ⟨x, hx, rfl⟩ := List.mem_map.1 hy
    obtain ⟨hx, hk⟩ := List.mem_filter.1 hx
    show T3.lead (arQ (others l ms)) x.f.toNat = T3.lead (arQ (others l ms)) x.t.toNat
    have hp := hpo x hx
    by_cases e : x.f = x.t
    · rw [e]
    · have key : ∀ c d : Nat, c < d → nr l c d = true → hasB ms c d = false → T3.lead (arQ (others l ms)) c = T3.lead (arQ (others l ms)) d := fun c d hcd hn hb => by
        have hm1 : (⟨c, d⟩ : Pr) ∈ prl l := (prl_mem hpo).2 ⟨hcd, hn⟩
        have hm2 : (⟨c, d⟩ : Pr) ∈ others l ms := List.mem_filter.2 ⟨hm1, by
          have : ¬ (⟨c, d⟩ : Pr) ∈ ms.map Pi2.nat := fun h2 => by
            have := (hasB_nat hm _).1 h2
            rw [hb] at this
            cases this
          simpa using this⟩
        have := T3.lead_arc (l := arQ (others l ms)) (x := ⟨(c : Int), (d : Int), 0⟩) (List.mem_map.2 ⟨_, hm2, rfl⟩)
        simpa using this
      have hk' : hasB ms (min x.f x.t) (max x.f x.t) = false := by simpa using hk
      rcases Nat.lt_or_gt_of_ne (show x.f.toNat ≠ x.t.toNat by omega) with hlt | hlt
      · refine key _ _ hlt ?_ ?_
        · unfold nr
          rw [List.any_eq_true]
          refine ⟨x, hx, ?_⟩
          simp only [Bool.or_eq_true, Bool.and_eq_true, beq_iff_eq]
          omega
        · rw [show ((x.f.toNat : Nat) : Int) = min x.f x.t by omega, show ((x.t.toNat : Nat) : Int) = max x.f x.t by omega]
          exact hk'
      · refine (key _ _ hlt ?_ ?_).symm
        · unfold nr
          rw [List.any_eq_true]
          refine ⟨x, hx, ?_⟩
          simp only [Bool.or_eq_true, Bool.and_eq_true, beq_iff_eq]
          omega
        · rw [show ((x.t.toNat : Nat) : Int) = min x.f x.t by omega, show ((x.f.toNat : Nat) : Int) = max x.f x.t by omega]
          exact hk'
  · obtain ⟨p, hp, rfl⟩ := List.mem_map.1 hy
    obtain ⟨hp, hq⟩ := List.mem_filter.1 hp
    have hq' : ¬ p ∈ ms.map Pi2.nat := by simpa using hq
    have hb : hasB ms p.a p.b = false := by
      rw [Bool.eq_false_iff]
      exact fun h2 => hq' ((hasB_nat hm p).2 h2)
    obtain ⟨hlt, hn⟩ := (prl_mem hpo).1 hp
    unfold nr at hn
    obtain ⟨x, hx, hx2⟩ := List.any_eq_true.1 hn
    simp only [Bool.or_eq_true, Bool.and_eq_true, beq_iff_eq] at hx2
    have hmx : toT x ∈ keptA l ms := List.mem_map.2 ⟨x, List.mem_filter.2 ⟨hx, by
      rw [show min x.f x.t = (p.a : Int) by omega, show max x.f x.t = (p.b : Int) by omega, hb]; rfl⟩, rfl⟩
    have h2 : T3.lead (keptA l ms) x.f.toNat = T3.lead (keptA l ms) x.t.toNat := T3.lead_arc hmx
    show T3.lead (keptA l ms) ((p.a : Int)).toNat = T3.lead (keptA l ms) ((p.b : Int)).toNat
    rcases hx2 with ⟨e1, e2⟩ | ⟨e1, e2⟩
    · rw [← e1, ← e2]; exact h2
    · rw [← e1, ← e2]; exact h2.symm
theorem frL_kept {n : Nat} {l : List A} {ms : List Pi2} (h : chkE n l = 0) (hm : mkE n ms = 0) : frL n l ms = T3.ints (T3.labs (T3.lead (keptA l ms)) n) := by
  have hE : frE n l ms = 0 := by unfold frE; rw [if_neg (by rw [h]; omega), hm]
  have hm1 : mk1 n ms = 0 := by
    unfold mkE at hm
    split at hm
    · cases hm
    · exact hm
  have hnn : ∀ q, q ∈ ms → 0 ≤ q.a ∧ 0 ≤ q.b := fun q hq => ⟨(mk1_zero hm1 q hq).1.1, (mk1_zero hm1 q hq).2.1.1⟩
  unfold frL T3.partsL
  rw [if_pos hE, if_pos (others_ok h ms), lead_kept h hnn, Int.toNat_natCast]
end Go.Proofs.YtpgadcacimjlaaaGreat
namespace Go.Proofs.YtpgadcacimjlaaaGreat
open Go.RowKit
/-- The arc's pair is not marked. -/
def offB (l : List A) (ms : List Pi2) (j : Nat) : Bool := !hasB ms (min (l.getD j A.zero).f (l.getD j A.zero).t) (max (l.getD j A.zero).f (l.getD j A.zero).t)
theorem tb_bools {w : World} {b m : Nat} {F : Nat → Bool} (h : TbV w b m 4 (fun j => .bool (F j))) : T3.Bools (· < w.heap.size) w (some ⟨b, 0, none⟩) ((List.range m).map F) :=
  .inr ⟨b, 0, rfl, h.lt, fun j hj => by
    have hj' : j < m := by simpa using hj
    rw [Nat.zero_add, h.cell hj']
    simp [List.getD, hj']⟩
theorem info4B : (Tryz.prog.info? 4).map (fun i => (i.zero, i.size, i.bytes)) = some (some (.bool false), 1, 1) := by kernel_rfl
theorem cell3 {w : World} {b : Nat} {x y z : Value} {t : TypeId} (h : w.heap[b]? = some (.cells #[x, y, z] t)) : w.cell? ⟨b, 0, none⟩ = some x ∧ w.cell? ⟨b, 1, none⟩ = some y ∧ w.cell? ⟨b, 2, none⟩ = some z := by
  refine ⟨?_, ?_, ?_⟩ <;> simp [World.cell?, h]
set_option maxRecDepth 100000 in
set_option maxHeartbeats 3200000 in
theorem rparted_any (n : Nat) (a : Option Addr) (l : List A) (cap : Nat) (b : Option Addr) (ms : List Pi2) (bc : Nat) (w : World) (hC : chkE n l = 0) (hml : ms.length ≤ 9223372036854775807) (hr : Arcs w a l) (hm : PrI w b ms) :
    Calls Tryz.prog 46 #[.agg #[.int .i64 n, .slice a l.length cap], .slice b ms.length bc] w fun e w' => ∃ g, e = .returned (.slice (some ⟨g, 0, none⟩) n n) ∧ T3.OwnL w' g n (T3.labs (T3.lead (keptA l ms)) n) ∧ w.heap.size ≤ g ∧ Below w.heap.size w w' := by
  obtain ⟨h1n, hn, hl, hoa⟩ := chk_zero hC
  have hn' : n ≤ 1024 := by omega
  have HPO := Lib.hid hoa
  have hb0 : Below w.heap.size w (w.alloc (.cells #[.int .i64 n, .slice a l.length cap] 24)) := (Below.refl _ _).alloc (Nat.le_refl _) _
  have hg := heap_top w (.cells #[.int .i64 n, .slice a l.length cap] 24)
  have HR := Lib.hid hr
  have HM := Lib.hid hm
  have HB0 := Lib.hid hb0
  obtain ⟨i4, hi4, hz4', hs4, hb4'⟩ := info_parts info4B
  have hmk : ∀ w, (Instr.makeSlice 66 (.int .i64 l.length) (.int .i64 l.length)).run Tryz.prog w = .ok (.slice (some ⟨w.heap.size, 0, none⟩) l.length l.length) (w.alloc (.cells ((List.range l.length).map (fun _ => Value.bool false)).toArray 4)) := fun w => by
    have := run_make (P := Tryz.prog) w 66 4 i4 (.bool false) Tryz.underlying66 hi4 hz4' .i64 .i64 l.length l.length (by omega) (by omega) (by rw [hb4']; omega) (by omega)
    rw [this, Int.toNat_natCast, hs4, made_bool]
  clear hi4 hz4' hs4 hb4'
  clear i4
  obtain ⟨ba, oa, hab⟩ : ∃ b o, 0 < l.length → a = some ⟨b, o, none⟩ ∧ b < w.heap.size ∧ ∀ j, j < l.length → (l.getD j A.zero).at w b (o + j * 3) := by
    rcases hr with rfl | ⟨b, o, h⟩
    · exact ⟨0, 0, fun h => absurd h (by simp)⟩
    · exact ⟨b, o, fun _ => h⟩
  have HAB := Lib.hid hab
  clear hb0 hr hm hab hoa h1n hn
  generalize hp : w.heap.size = p at *
  go_enter Tryz.func46, Tryz.ntmps46
  go_wp2_with fail
  have hpW : p < (w.alloc (.cells #[.int .i64 n, .slice a l.length cap] 24)).heap.size := lt_of_block hg
  have hdb : (w.alloc (.cells #[.int .i64 n, .slice a l.length cap] 24)).heap.size = p + 1 := by simp [hp]
  generalize hW : w.alloc (.cells #[.int .i64 n, .slice a l.length cap] 24) = W at *
  clear hW
  have HT0 : Hid (TbV (W.alloc (.cells ((List.range l.length).map (fun _ => Value.bool false)).toArray 4)) (p + 1) l.length 4 (fun j => .bool (decide (j < 0) && offB l ms j))) := by
    have h0 : (fun j => Value.bool (decide (j < 0) && offB l ms j)) = (fun _ => Value.bool false) := by funext j; simp
    show TbV _ _ _ _ _
    unfold TbV
    rw [h0]
    exact hdb ▸ heap_top W _
  have HBU : Hid (Below (p + 1) W (W.alloc (.cells ((List.range l.length).map (fun _ => Value.bool false)).toArray 4))) := (Below.refl _ _).alloc (by omega) _
  generalize hU : W.alloc (.cells ((List.range l.length).map (fun _ => Value.bool false)).toArray 4) = U at *
  clear hU hmk
  go_loopw [6] (fun i wr => ∃ (k : Nat), k ≤ l.length ∧ i = .int .i64 k ∧ Hid (TbV wr (p + 1) l.length 4 (fun j => .bool (decide (j < k) && offB l ms j))) ∧ Hid (Below (p + 1) W wr)) (fun i _ => l.length - (intOf i).toNat)
  case atStart => exact ⟨0, Nat.zero_le _, rfl, HT0, HBU⟩
  case round =>
    obtain ⟨k, hk, rfl, HTR, HBR⟩ := hrel
    have hgr := (HBR.out.block p (by omega)).trans hg
    obtain ⟨⟨g0, g1⟩, _⟩ := two_cells hgr
    have hdw : (p + 1) < wr.heap.size := HTR.out.lt
    have HBP : Hid (Below p w wr) := HB0.out.trans (HBR.out.mono (by omega))
    by_cases hlt : k < l.length
    · obtain ⟨rfl, hbl, hat⟩ := HAB.out (by omega)
      have hlt' : (k : Int) < l.length := by omega
      obtain ⟨x0, x1, x2⟩ := (hat k hlt).on (by rw [hp]; exact HBP.out)
      have HOB : Hid (offB l ms k = !hasB ms (min (l.getD k A.zero).f (l.getD k A.zero).t) (max (l.getD k A.zero).f (l.getD k A.zero).t)) := rfl
      clear hat
      generalize l.getD k A.zero = x at *
      obtain ⟨xf, xt, xw⟩ := x
      obtain ⟨mn, hmn⟩ : ∃ mn, min xf xt = mn := ⟨_, rfl⟩
      obtain ⟨mx, hmx⟩ : ∃ mx, max xf xt = mx := ⟨_, rfl⟩
      have HOB2 : Hid (offB l ms k = !hasB ms mn mx) := by show _ = _; rw [HOB.out]; show (!hasB ms (min xf xt) (max xf xt)) = _; rw [hmn, hmx]
      have hz1 : (wr.alloc (.cells #[.int .i64 xf, .int .i64 xt, .int .u32 xw] 50)).heap[wr.heap.size]? = some (.cells #[.int .i64 xf, .int .i64 xt, .int .u32 xw] 50) := heap_top wr _
      have HB1 : Hid (Below wr.heap.size wr (wr.alloc (.cells #[.int .i64 xf, .int .i64 xt, .int .u32 xw] 50))) := (Below.refl _ _).alloc (Nat.le_refl _) _
      have HT1 := Lib.hid (HTR.out.same (HB1.out.block (p + 1) hdw))
      have HM1 : Hid (PrI (wr.alloc (.cells #[.int .i64 xf, .int .i64 xt, .int .u32 xw] 50)) b ms) := (HM.out.on (hp ▸ HBP.out)).on HB1.out
      obtain ⟨c0, c1, _⟩ := cell3 hz1
      clear HOB
      go_wp2_with fail
      generalize hV : wr.alloc (.cells #[.int .i64 xf, .int .i64 xt, .int .u32 xw] 50) = V at *
      refine (rhas_any b ms bc mn mx V hml HM1.out).mono ?_
      rintro e w3 ⟨rfl, hb3⟩
      have HT3 := Lib.hid (HT1.out.same (hb3.block (p + 1) HT1.out.lt))
      have hwV : wr.heap.size ≤ V.heap.size := HB1.out.size
      have HB3 : Hid (Below (p + 1) W w3) := (HBR.out.trans (HB1.out.mono (by omega))).trans (hb3.mono (by omega))
      obtain ⟨hv, HV⟩ := named (hasB ms mn mx)
      rw [HV.out] at HOB2 ⊢
      have t1 := HT3.out.cell hlt
      have t2 := HT3.out.free k
      clear hb3 c0 c1 hz1 HT1 HM1 HB1
      generalize (decide (k < k) && offB l ms k) = old at t1
      go_wp2_with fail
      refine ⟨⟨k + 1, by omega, by simp, Lib.hid ((HT3.out.set k (.bool (!hv))).congr (fun u _ => ?_)), Lib.hid (HB3.out.setCell (Nat.le_refl _) _)⟩, by simp [intOf]; omega⟩
      by_cases e : u = k
      · subst e; rw [updV_self, HOB2.out]; simp
      · rw [updV_ne _ _ e]
        congr 2
        rw [Bool.eq_iff_iff]
        simp only [decide_eq_true_eq]
        omega
    · obtain rfl : k = l.length := by omega
      have hlt' : ¬ (l.length : Int) < l.length := by omega
      have HBL := Lib.hid (tb_bools HTR.out)
      have HRr : Hid (Arcs wr a l) := HR.out.on (hp ▸ HBP.out)
      have HCN := Lib.hid (T3.rconn_any n a (l.map toT) cap (some ⟨(p + 1), 0, none⟩) ((List.range l.length).map (fun j => decide (j < l.length) && offB l ms j)) l.length (keptA l ms) wr hn' (by rw [List.length_map]; omega) (by simp)
        (fun x hx => by obtain ⟨y, hy, rfl⟩ := List.mem_map.1 hx; exact HPO.out y hy)
        (fun i hi hq => by
          have hi' : i < l.length := by simpa using hi
          rw [mapT_getD l i hi']
          refine List.mem_map.2 ⟨_, List.mem_filter.2 ⟨by simp [List.getD, List.getElem?_eq_getElem hi'], ?_⟩, rfl⟩
          have e : ((List.range l.length).map (fun j => decide (j < l.length) && offB l ms j)).getD i false = offB l ms i := by simp [List.getD, hi']
          rw [e] at hq
          exact hq)
        (fun x hx => by
          obtain ⟨y, hy, rfl⟩ := List.mem_map.1 hx
          obtain ⟨hy, hq⟩ := List.mem_filter.1 hy
          obtain ⟨i, hi, rfl⟩ := List.mem_iff_getElem.1 hy
          have e2 : l.getD i A.zero = l[i] := by simp [List.getD, List.getElem?_eq_getElem hi]
          refine ⟨i, by simpa using hi, ?_, by rw [mapT_getD l i hi, e2]⟩
          have e : ((List.range l.length).map (fun j => decide (j < l.length) && offB l ms j)).getD i false = offB l ms i := by simp [List.getD, hi]
          rw [e]
          unfold offB
          rw [e2]
          exact hq)
        (arcs_T HRr.out) HBL.out)
      rw [List.length_map] at HCN
      go_wp2_with fail
      refine HCN.out.mono ?_
      rintro e w4 ⟨g4, rfl, hown4, hg4, hb4⟩
      have HB4 : Hid (Below p w w4) := HBP.out.trans (hb4.mono (by omega))
      have HO4 := Lib.hid hown4
      clear hb4 hown4
      go_wp2_with fail
      go_ret
      exact ⟨g4, rfl, HO4.out, by omega, HB4.out⟩
end Go.Proofs.YtpgadcacimjlaaaGreat
namespace Go.Proofs.YtpgadcacimjlaaaGreat
open Go.RowKit
/-- The numbers below k that are marked. -/
def allk (F : Nat → Bool) (k : Nat) : List Nat := (List.range k).filter F
theorem allk_succ (F : Nat → Bool) (k : Nat) : allk F (k + 1) = if F k = true then allk F k ++ [k] else allk F k := by
  unfold allk
  rw [List.range_succ, List.filter_append]
  by_cases h : F k = true
  · rw [if_pos h]; simp [h]
  · rw [if_neg h]; simp [h]
theorem allk_len (F : Nat → Bool) (k : Nat) : (allk F k).length ≤ k := Nat.le_trans (List.length_filter_le _ _) (by simp)
set_option maxHeartbeats 800000 in
theorem rall_any {w : World} {b n : Nat} {F : Nat → Bool} (hn : n ≤ 1024) (ht : TbV w b n 4 (fun u => .bool (F u))) :
    Calls Tryz.prog 52 #[.slice (some ⟨b, 0, none⟩) n n] w fun e w' => ∃ v, e = .returned v ∧ w'.ownsRow w.heap.size 3 1 v (allk F n).length (cellsI (ints (allk F n))) ∧ Below w.heap.size w w' := by
  obtain ⟨i3, hi3, hz3, hs3, hby3⟩ := info_parts info3
  have HT := Lib.hid ht
  clear ht
  generalize hX : w = X at *
  clear hX
  go_enter Tryz.func52, Tryz.ntmps52
  go_wp2_with fail
  go_loopw [3, 4] (fun s3 i wr => ∃ (k : Nat) (av : Option Addr) (cv len : Nat), k ≤ n ∧ s3 = .slice av len cv ∧ i = .int .i64 k ∧ Hid ((allk F k).length = len) ∧ Hid (wr.ownsRow X.heap.size 3 1 (.slice av len cv) len (cellsI (ints (allk F k)))) ∧ Hid (Below X.heap.size X wr)) (fun _ i _ => n - (intOf i).toNat)
  case atStart => exact ⟨0, none, 0, 0, Nat.zero_le _, rfl, rfl, rfl, World.ownsRow_nil _ _ _ _, Below.refl _ _⟩
  case round =>
    obtain ⟨k, av, cv, len, hkn, rfl, rfl, HLEN, HOW, HBX⟩ := hrel
    have hlenk : len ≤ k := by rw [← HLEN.out]; exact allk_len _ _
    by_cases hlt : k < n
    · have hlt2 : (k : Int) < n := by omega
      have d1 := (HBX.out.cell (p := ⟨b, k, none⟩) HT.out.lt).trans (HT.out.cell hlt)
      obtain ⟨be, HBE⟩ := named (F k)
      rw [HBE.out] at d1
      have HRS := Lib.hid (allk_succ F k)
      rw [HBE.out] at HRS
      cases be
      · have e := HRS.out
        rw [if_neg (by simp)] at e
        have HEE := Lib.hid e
        clear e
        go_wp2_with fail
        exact ⟨⟨k + 1, av, cv, len, by omega, rfl, by simp, by show _ = _; rw [HEE.out]; exact HLEN.out, by rw [HEE.out]; exact HOW, HBX⟩, by simp [intOf]; omega⟩
      · have HNW := Lib.hid (one_new wr (k : Int))
        have HO2 := Lib.hid (HOW.out.alloc (.cells #[.int .i64 (k : Int)] 3))
        have HBZ : Hid (X.heap.size ≤ (wr.alloc (.cells #[.int .i64 (k : Int)] 3)).heap.size) := by
          show _ ≤ _
          rw [World.size_alloc]
          exact Nat.le_succ_of_le HBX.out.size
        go_wp2_with (at_builtin; refine wpList_append_own _ rfl (.tmp 15) (.tmp 17) 25 rfl X.heap.size 3 i3 (.int .i64 0) 1 8 Tryz.underlying25 hi3 hz3 hs3 hby3 rfl (by decide) (.slice av len cv) len (cellsI (ints (allk F k))) rfl HO2.out ⟨wr.heap.size, 0, none⟩ 1 1 [.int .i64 (k : Int)] rfl rfl HNW.out (one_i64 _) (by unfold maxLen; omega) (by omega) HBZ.out ?_; intro v6 w6 hown6 hgrow6 hnil6; obtain ⟨g6, c6, hv6, _, _, _, _⟩ := own_shape hown6 (fun e => by have := hnil6.1 e; simp at this); subst hv6; have HOB6 : Hid (∀ b, (Value.slice av len cv).ownBlock = some b → X.heap.size ≤ b) := fun b hb => (HO2.out.lt b hb).1; have HB6 : Hid (Below X.heap.size X w6) := (HBX.out.alloc HBX.out.size _).grown hgrow6 (HBX.out.alloc HBX.out.size _).size (fun j hj => HOB6.out j hj); have HO6 := Lib.hid hown6; clear hown6 hgrow6 hnil6)
        have e := HRS.out
        rw [if_pos (by rfl)] at e
        refine ⟨⟨k + 1, some ⟨g6, 0, none⟩, c6, len + 1, by omega, rfl, by simp, ?_, ?_, HB6⟩, by simp [intOf]; omega⟩
        · show _ = _
          rw [e, List.length_append, HLEN.out]; rfl
        · rw [e, ints_snoc, ← cellsI_snoc]; exact HO6
    · obtain rfl : k = n := by omega
      have hlt2 : ¬ (k : Int) < k := by omega
      go_wp2_with fail
      go_ret
      exact ⟨.slice av len cv, rfl, by rw [HLEN.out]; exact HOW.out, HBX.out⟩
end Go.Proofs.YtpgadcacimjlaaaGreat
namespace Go.Proofs.YtpgadcacimjlaaaGreat
open Go.RowKit
theorem nr_snoc (q : List A) (x : A) (v u : Nat) : nr (q ++ [x]) v u = (nr q v u || ((x.f == (v : Int) && x.t == (u : Int)) || (x.t == (v : Int) && x.f == (u : Int)))) := by simp [nr, List.any_append]
theorem take_snocN {p : List A} {k : Nat} (h : k < p.length) : p.take (k + 1) = p.take k ++ [p.getD k A.zero] := by
  rw [List.take_succ_eq_append_getElem h]
  simp [List.getD, List.getElem?_eq_getElem h]
theorem upd_true {F G : Nat → Bool} {t u : Nat} (h : ∀ u, G u = (F u || decide (u = t))) : updV (fun u => .bool (F u)) t (.bool true) u = .bool (G u) := by
  by_cases e : u = t
  · subst e; rw [updV_self, h]; simp
  · rw [updV_ne _ _ e, h]; simp [e]
set_option maxRecDepth 100000 in
set_option maxHeartbeats 1600000 in
theorem rnear_any (n v : Nat) (a : Option Addr) (l : List A) (cap : Nat) (w : World) (hn : n ≤ 1024) (hl : l.length ≤ 8192) (hv : v < n) (hpo : ∀ x, x ∈ l → (0 ≤ x.f ∧ x.f < n) ∧ 0 ≤ x.t ∧ x.t < n) (hr : Arcs w a l) :
    Calls Tryz.prog 53 #[.agg #[.int .i64 n, .slice a l.length cap], .int .i64 v] w fun e w' => ∃ b, e = .returned (.slice (some ⟨b, 0, none⟩) n n) ∧ w.heap.size ≤ b ∧ TbV w' b n 4 (fun u => .bool (nr l v u && !decide (u = v))) ∧ Below w.heap.size w w' := by
  have hb0 : Below w.heap.size w (w.alloc (.cells #[.int .i64 n, .slice a l.length cap] 24)) := (Below.refl _ _).alloc (Nat.le_refl _) _
  have hg := heap_top w (.cells #[.int .i64 n, .slice a l.length cap] 24)
  obtain ⟨ba, oa, hab⟩ : ∃ b o, 0 < l.length → a = some ⟨b, o, none⟩ ∧ b < w.heap.size ∧ ∀ j, j < l.length → (l.getD j A.zero).at w b (o + j * 3) := by
    rcases hr with rfl | ⟨b, o, h⟩
    · exact ⟨0, 0, fun h => absurd h (by simp)⟩
    · exact ⟨b, o, fun _ => h⟩
  have HAB := Lib.hid hab
  have HPO := Lib.hid hpo
  obtain ⟨i4, hi4, hz4, hs4, hb4⟩ := info_parts info4
  have hmkB : ∀ w, (Instr.makeSlice 66 (.int .i64 n) (.int .i64 n)).run Tryz.prog w = .ok (.slice (some ⟨w.heap.size, 0, none⟩) n n) (w.alloc (.cells ((List.range n).map (fun _ => Value.bool false)).toArray 4)) := fun w => by
    have := run_make (P := Tryz.prog) w 66 4 i4 (.bool false) Tryz.underlying66 hi4 hz4 .i64 .i64 n n (by omega) (by omega) (by rw [hb4]; omega) (by omega)
    rw [this, Int.toNat_natCast, hs4, made_bool]
  clear hi4 hz4 hs4 hb4 hab hpo hr
  clear i4
  generalize hp : w.heap.size = p at *
  have hgv := (Below.heap_alloc (w.alloc (.cells #[.int .i64 n, .slice a l.length cap] 24)) (.cells ((List.range n).map (fun _ => Value.bool false)).toArray 4) p (lt_of_block hg)).trans hg
  have HT0 : Hid (TbV ((w.alloc (.cells #[.int .i64 n, .slice a l.length cap] 24)).alloc (.cells ((List.range n).map (fun _ => Value.bool false)).toArray 4)) (p + 1) n 4 (fun _ => .bool false)) := by
    have := heap_top (w.alloc (.cells #[.int .i64 n, .slice a l.length cap] 24)) (.cells ((List.range n).map (fun _ => Value.bool false)).toArray 4)
    rw [World.size_alloc, hp] at this
    exact this
  have HBV : Hid (Below p w ((w.alloc (.cells #[.int .i64 n, .slice a l.length cap] 24)).alloc (.cells ((List.range n).map (fun _ => Value.bool false)).toArray 4))) := hb0.alloc (by simp; omega) _
  go_enter Tryz.func53, Tryz.ntmps53
  go_wp2_with fail
  generalize hV : (w.alloc (.cells #[.int .i64 n, .slice a l.length cap] 24)).alloc (.cells ((List.range n).map (fun _ => Value.bool false)).toArray 4) = V at *
  clear hV hmkB hg hb0
  go_loopw [6] (fun i wr => ∃ k : Nat, k ≤ l.length ∧ i = .int .i64 k ∧ TbV wr (p + 1) n 4 (fun u => .bool (nr (l.take k) v u)) ∧ Hid (Fr (fun j => j = p + 1) V wr)) (fun i _ => l.length - (intOf i).toNat)
  case atStart => exact ⟨0, Nat.zero_le _, rfl, HT0.out.congr (fun v _ => by simp [nr]), Fr.refl _ _⟩
  case round =>
    obtain ⟨k, hk, rfl, htq, HF⟩ := hrel
    have HBR := Lib.hid (HBV.out.trans (HF.out.below (B := p) (hp ▸ HBV.out.size) (fun k e => by have e : k = p + 1 := e; omega)))
    have hgr := (HF.out.block p (lt_of_block hgv) (fun e => by have e : p = p + 1 := e; omega)).trans hgv
    obtain ⟨⟨g0, g1⟩, _⟩ := two_cells hgr
    by_cases hlt : k < l.length
    · obtain ⟨rfl, hbl, hat⟩ := HAB.out (by omega)
      have hlt' : (k : Int) < l.length := by omega
      obtain ⟨x0, x1, x2⟩ := (hat k hlt).on (by rw [hp]; exact HBR.out)
      have HMEM := Lib.hid (HPO.out (l.getD k A.zero) (by simp [List.getD, List.getElem?_eq_getElem hlt]))
      have HTS := Lib.hid (take_snocN hlt)
      clear hat
      generalize l.getD k A.zero = x at *
      obtain ⟨s, hs⟩ : ∃ u : Nat, x.f = u := ⟨x.f.toNat, by have := HMEM.out; omega⟩
      obtain ⟨t, ht⟩ : ∃ t : Nat, x.t = t := ⟨x.t.toNat, by have := HMEM.out; omega⟩
      have hsn : s < n := by have := HMEM.out; omega
      have htn : t < n := by have := HMEM.out; omega
      have HN : Hid (∀ u, nr (l.take (k + 1)) v u = (nr (l.take k) v u || ((decide (s = v) && decide (u = t)) || (decide (t = v) && decide (u = s))))) := fun u => by
        rw [HTS.out, nr_snoc, hs, ht]
        congr 1
        rw [Bool.eq_iff_iff]
        simp
        omega
      rw [hs] at x0
      rw [ht] at x1
      clear hs ht
      have hsn' : (s : Int) < n := by omega
      have htn' : (t : Int) < n := by omega
      have hx5 := heap_top wr (.cells #[.int .i64 (s : Int), .int .i64 (t : Int), .int .u32 x.w] 50)
      obtain ⟨z0, z1, z2⟩ := three_cells hx5
      have htq5 := htq.same (Below.heap_alloc wr (.cells #[.int .i64 (s : Int), .int .i64 (t : Int), .int .u32 x.w] 50) (p + 1) htq.lt)
      have s1 := htq5.cell hsn
      have s2 := htq5.cell htn
      have s3 := htq5.free s
      have s4 := htq5.free t
      have hwq : wr.heap.size ≠ p + 1 := Nat.ne_of_gt htq.lt
      have hwq' := hwq.symm
      have HTQ5 := Lib.hid htq5
      have HFA := Lib.hid (HF.out.alloc (.cells #[.int .i64 (s : Int), .int .i64 (t : Int), .int .u32 x.w] 50))
      clear htq htq5
      by_cases h1 : s = v
      · have h1' : ((s : Int) == (v : Int)) = true := by simp [h1]
        have H1 := Lib.hid h1
        clear h1
        by_cases h2 : t = v
        · have h2' : ((t : Int) == (v : Int)) = true := by simp [h2]
          have H2 := Lib.hid h2
          clear h2
          have d1 := ((HTQ5.out.set t (.bool true)).cell hsn)
          have d2 := ((HTQ5.out.set t (.bool true)).free s)
          go_wp2_with fail
          refine ⟨⟨k + 1, by omega, by simp, ((HTQ5.out.set t (.bool true)).set s (.bool true)).congr (fun u _ => ?_), (HFA.out.setCell ⟨p + 1, t, none⟩ _ rfl).setCell ⟨p + 1, s, none⟩ _ rfl⟩, by simp [intOf]; omega⟩
          have e1 : ∀ u, updV (fun u => .bool (nr (l.take k) v u)) t (.bool true) u = .bool (nr (l.take k) v u || decide (u = t)) := fun u => upd_true (fun _ => rfl)
          rw [show updV (fun u => Value.bool (nr (l.take k) v u)) t (.bool true) = fun u => .bool (nr (l.take k) v u || decide (u = t)) from funext e1]
          refine upd_true (fun u => ?_)
          rw [HN.out, decide_eq_true H1.out, decide_eq_true H2.out, Bool.true_and, Bool.true_and, Bool.or_assoc]
        · have h2' : ((t : Int) == (v : Int)) = false := by simp; omega
          have H2 := Lib.hid h2
          clear h2
          go_wp2_with fail
          refine ⟨⟨k + 1, by omega, by simp, (HTQ5.out.set t (.bool true)).congr (fun u _ => upd_true (fun u => ?_)), HFA.out.setCell ⟨p + 1, t, none⟩ _ rfl⟩, by simp [intOf]; omega⟩
          rw [HN.out, decide_eq_true H1.out, decide_eq_false H2.out, Bool.true_and, Bool.false_and, Bool.or_false]
      · have h1' : ((s : Int) == (v : Int)) = false := by simp; omega
        have H1 := Lib.hid h1
        clear h1
        by_cases h2 : t = v
        · have h2' : ((t : Int) == (v : Int)) = true := by simp [h2]
          have H2 := Lib.hid h2
          clear h2
          go_wp2_with fail
          refine ⟨⟨k + 1, by omega, by simp, (HTQ5.out.set s (.bool true)).congr (fun u _ => upd_true (fun u => ?_)), HFA.out.setCell ⟨p + 1, s, none⟩ _ rfl⟩, by simp [intOf]; omega⟩
          rw [HN.out, decide_eq_false H1.out, decide_eq_true H2.out, Bool.true_and, Bool.false_and, Bool.false_or]
        · have h2' : ((t : Int) == (v : Int)) = false := by simp; omega
          have H2 := Lib.hid h2
          clear h2
          go_wp2_with fail
          refine ⟨⟨k + 1, by omega, by simp, HTQ5.out.congr (fun u _ => ?_), HFA⟩, by simp [intOf]; omega⟩
          rw [HN.out, decide_eq_false H1.out, decide_eq_false H2.out, Bool.false_and, Bool.false_and, Bool.or_false, Bool.or_false]
    · obtain rfl : k = l.length := by omega
      have hlt' : ¬ (l.length : Int) < l.length := by omega
      rw [List.take_length] at htq
      have c1 := htq.cell hv
      have c2 := htq.free v
      have HTQ := Lib.hid htq
      have hv' : (v : Int) < n := by omega
      clear htq
      go_wp2_with fail
      go_ret
      refine ⟨p + 1, rfl, by omega, (HTQ.out.set v (.bool false)).congr (fun u _ => ?_), ?_⟩
      · by_cases e : u = v
        · subst e; rw [updV_self]; simp
        · rw [updV_ne _ _ e]; simp [e]
      · exact HBR.out.setCell (by show p ≤ p + 1; omega) _
end Go.Proofs.YtpgadcacimjlaaaGreat
namespace Go.Proofs.YtpgadcacimjlaaaGreat
open Go.RowKit
theorem nr_adj {l : List A} (hpo : ∀ x, x ∈ l → 0 ≤ x.f ∧ 0 ≤ x.t) (v u : Nat) : nr l v u = adjF (edl l) (2 * l.length) v 0 u := by
  rw [Bool.eq_iff_iff, adjF_iff]
  unfold nr
  rw [List.any_eq_true]
  constructor
  · rintro ⟨x, hx, h⟩
    obtain ⟨j, hj, rfl⟩ := List.mem_iff_getElem.1 hx
    have hp := hpo _ hx
    have he := edl_at hj
    rw [show l.getD j A.zero = l[j] by simp [List.getD, List.getElem?_eq_getElem hj]] at he
    simp only [Bool.or_eq_true, Bool.and_eq_true, beq_iff_eq] at h
    rcases h with ⟨h1, h2⟩ | ⟨h1, h2⟩
    · refine ⟨2 * j, Nat.zero_le _, by omega, ?_, ?_⟩
      · unfold frm; rw [if_pos (by omega), show 2 * j / 2 = j by omega, he]; show l[j].f.toNat = v; omega
      · unfold tto; rw [if_pos (by omega), show 2 * j / 2 = j by omega, he]; show l[j].t.toNat = u; omega
    · refine ⟨2 * j + 1, Nat.zero_le _, by omega, ?_, ?_⟩
      · unfold frm; rw [if_neg (by omega), show (2 * j + 1) / 2 = j by omega, he]; show l[j].t.toNat = v; omega
      · unfold tto; rw [if_neg (by omega), show (2 * j + 1) / 2 = j by omega, he]; show l[j].f.toNat = u; omega
  · rintro ⟨k, _, hk, h1, h2⟩
    have hj : k / 2 < l.length := by omega
    have hx : l.getD (k / 2) A.zero ∈ l := by simp [List.getD, List.getElem?_eq_getElem hj]
    have hp := hpo _ hx
    have he := edl_at hj
    refine ⟨l.getD (k / 2) A.zero, hx, ?_⟩
    unfold frm at h1
    unfold tto at h2
    rw [he] at h1 h2
    generalize l.getD (k / 2) A.zero = x at *
    simp only [Bool.or_eq_true, Bool.and_eq_true, beq_iff_eq]
    by_cases e : k % 2 = 0
    · rw [if_pos e] at h1 h2
      have h1 : x.f.toNat = v := h1
      have h2 : x.t.toNat = u := h2
      left; omega
    · rw [if_neg e] at h1 h2
      have h1 : x.t.toNat = v := h1
      have h2 : x.f.toNat = u := h2
      right; omega
/-- The neighbours of v, rising. -/
def nbl (l : List A) (N v : Nat) : List Nat := allk (fun u => nr l v u && !decide (u = v)) N
theorem mem_nbl {l : List A} {N v u : Nat} : u ∈ nbl l N v ↔ u < N ∧ nr l v u = true ∧ u ≠ v := by
  unfold nbl allk
  simp [List.mem_filter]
theorem nbl_nodup (l : List A) (N v : Nat) : (nbl l N v).Nodup := List.Pairwise.filter _ List.nodup_range
theorem ext_nbl {l : List A} (hpo : ∀ x, x ∈ l → 0 ≤ x.f ∧ 0 ≤ x.t) {N v : Nat} {S : Nat → Bool} (hv : S v = true) : (nbl l N v).filter (fun u => !S u) = ext (edl l) (2 * l.length) N S v := by
  unfold nbl allk ext
  rw [List.filter_filter]
  apply List.filter_congr
  intro u _
  rw [nr_adj hpo]
  by_cases e : u = v
  · subst e; simp [hv]
  · simp [e]
theorem seen_nbl {l : List A} (hpo : ∀ x, x ∈ l → 0 ≤ x.f ∧ 0 ≤ x.t) {N v : Nat} {S : Nat → Bool} (hv : S v = true) {u : Nat} (hu : u < N) : (S u || decide (u ∈ nbl l N v)) = (S u || adjF (edl l) (2 * l.length) v 0 u) := by
  rw [← nr_adj hpo]
  by_cases e : u = v
  · subst e; simp [hv]
  · congr 1
    rw [Bool.eq_iff_iff]
    simp [mem_nbl, hu, e]
end Go.Proofs.YtpgadcacimjlaaaGreat
namespace Go.Proofs.YtpgadcacimjlaaaGreat
open Go.RowKit
/-- The pairs of one vertex with greater ones. -/
def rowQ (v : Nat) (q : List Nat) : List Pr := (q.filter (fun u => decide (v < u))).map (fun u => ⟨v, u⟩)
theorem rowQ_nil (v : Nat) : rowQ v [] = [] := rfl
theorem rowQ_snoc (v : Nat) (q : List Nat) (u : Nat) : rowQ v (q ++ [u]) = if v < u then rowQ v q ++ [⟨v, u⟩] else rowQ v q := by
  unfold rowQ
  rw [List.filter_append, List.map_append]
  by_cases h : v < u
  · rw [if_pos h]; simp [h]
  · rw [if_neg h]; simp [h]
theorem rowQ_len (v : Nat) (q : List Nat) : (rowQ v q).length ≤ q.length := by
  unfold rowQ
  rw [List.length_map]
  exact List.length_filter_le _ _
/-- The pairs of the first k vertices. -/
def allP (l : List A) (N : Nat) : Nat → List Pr
  | 0 => []
  | k + 1 => allP l N k ++ rowQ k (nbl l N k)
theorem mem_rowQ {v : Nat} {q : List Nat} {p : Pr} : p ∈ rowQ v q ↔ p.a = v ∧ p.b ∈ q ∧ v < p.b := by
  unfold rowQ
  rw [List.mem_map]
  constructor
  · rintro ⟨u, hu, rfl⟩
    have := List.mem_filter.1 hu
    exact ⟨rfl, this.1, by simpa using this.2⟩
  · rintro ⟨rfl, h1, h2⟩
    exact ⟨p.b, List.mem_filter.2 ⟨h1, by simpa using h2⟩, rfl⟩
theorem mem_allP {l : List A} {N : Nat} {p : Pr} : ∀ k, p ∈ allP l N k ↔ p.a < k ∧ p.b < N ∧ p.a < p.b ∧ nr l p.a p.b = true
  | 0 => by simp [allP]
  | k + 1 => by
    rw [allP, List.mem_append, mem_allP k, mem_rowQ, mem_nbl]
    constructor
    · rintro (⟨h1, h2⟩ | ⟨h1, ⟨h2, h3, _⟩, h4⟩)
      · exact ⟨by omega, h2⟩
      · subst h1; exact ⟨by omega, h2, h4, h3⟩
    · rintro ⟨h1, h2, h3, h4⟩
      by_cases e : p.a = k
      · subst e; exact .inr ⟨rfl, ⟨h2, h4, by omega⟩, h3⟩
      · exact .inl ⟨by omega, h2, h3, h4⟩
theorem nbl_sorted (l : List A) (N v : Nat) : (nbl l N v).Pairwise (· < ·) := List.Pairwise.filter _ List.pairwise_lt_range
theorem rowQ_sorted {v : Nat} {q : List Nat} (h : q.Pairwise (· < ·)) : (rowQ v q).Pairwise ltP := by
  unfold rowQ
  rw [List.pairwise_map]
  exact (h.filter _).imp (fun h => .inr ⟨rfl, h⟩)
theorem allP_sorted (l : List A) (N : Nat) : ∀ k, (allP l N k).Pairwise ltP
  | 0 => List.Pairwise.nil
  | k + 1 => by
    rw [allP, List.pairwise_append]
    refine ⟨allP_sorted l N k, rowQ_sorted (nbl_sorted l N k), fun x hx y hy => ?_⟩
    have h1 := ((mem_allP k).1 hx).1
    have h2 := (mem_rowQ.1 hy).1
    exact .inl (by omega)
theorem ltP_irr (x : Pr) : ¬ ltP x x := by unfold ltP; omega
theorem ltP_asy {x y : Pr} (h : ltP x y) : ¬ ltP y x := by unfold ltP at *; omega
/-- A list in order is told by its members. -/
theorem sorted_oneP : ∀ {a b : List Pr}, a.Pairwise ltP → b.Pairwise ltP → (∀ x, x ∈ a ↔ x ∈ b) → a = b
  | [], [], _, _, _ => rfl
  | [], y :: _, _, _, h => absurd ((h y).2 List.mem_cons_self) (by simp)
  | x :: _, [], _, _, h => absurd ((h x).1 List.mem_cons_self) (by simp)
  | x :: a, y :: b, ha, hb, h => by
    have ha' := List.pairwise_cons.1 ha
    have hb' := List.pairwise_cons.1 hb
    have e : x = y := by
      rcases List.mem_cons.1 ((h x).1 List.mem_cons_self) with e | e
      · exact e
      · rcases List.mem_cons.1 ((h y).2 List.mem_cons_self) with e2 | e2
        · exact e2.symm
        · exact absurd (ha'.1 y e2) (ltP_asy (hb'.1 x e))
    subst e
    congr 1
    refine sorted_oneP ha'.2 hb'.2 (fun z => ⟨fun hz => ?_, fun hz => ?_⟩)
    · rcases List.mem_cons.1 ((h z).1 (List.mem_cons_of_mem _ hz)) with e | e
      · subst e; exact absurd (ha'.1 z hz) (ltP_irr z)
      · exact e
    · rcases List.mem_cons.1 ((h z).2 (List.mem_cons_of_mem _ hz)) with e | e
      · subst e; exact absurd (hb'.1 z hz) (ltP_irr z)
      · exact e
theorem nr_lt {l : List A} {N : Nat} (hpo : ∀ x, x ∈ l → (0 ≤ x.f ∧ x.f < N) ∧ 0 ≤ x.t ∧ x.t < N) {v u : Nat} (h : nr l v u = true) : v < N ∧ u < N := by
  unfold nr at h
  obtain ⟨x, hx, hq⟩ := List.any_eq_true.1 h
  have := hpo x hx
  simp only [Bool.or_eq_true, Bool.and_eq_true, beq_iff_eq] at hq
  omega
theorem allP_prl {l : List A} {N : Nat} (hpo : ∀ x, x ∈ l → (0 ≤ x.f ∧ x.f < N) ∧ 0 ≤ x.t ∧ x.t < N) : allP l N N = prl l :=
  sorted_oneP (allP_sorted l N N) (prl_sorted l) (fun p => by
    rw [mem_allP, prl_mem (fun x hx => ⟨(hpo x hx).1.1, (hpo x hx).2.1⟩)]
    constructor
    · rintro ⟨_, _, h3, h4⟩; exact ⟨h3, h4⟩
    · rintro ⟨h3, h4⟩
      have := nr_lt hpo h4
      exact ⟨this.1, this.2, h3, h4⟩)
end Go.Proofs.YtpgadcacimjlaaaGreat
namespace Go.Proofs.YtpgadcacimjlaaaGreat
open Go.RowKit
theorem nbl_len (l : List A) (N v : Nat) : (nbl l N v).length ≤ N := allk_len _ _
theorem allP_len (l : List A) (N : Nat) : ∀ k, (allP l N k).length ≤ k * N
  | 0 => by simp [allP]
  | k + 1 => by
    rw [allP, List.length_append, Nat.succ_mul]
    exact Nat.add_le_add (allP_len l N k) (Nat.le_trans (rowQ_len _ _) (nbl_len _ _ _))
theorem take_snocQ {q : List Nat} {k : Nat} (h : k < q.length) : q.take (k + 1) = q.take k ++ [q.getD k 0] := by
  rw [List.take_succ_eq_append_getElem h]
  simp [List.getD, List.getElem?_eq_getElem h]
/-- Rows of unlike members lie in unlike blocks. -/
theorem own_apart {w : World} {b1 b2 : Nat} {e1 e2 : TypeId} {s1 s2 : Nat} {v1 v2 : Value} {n1 n2 : Nat} {x1 x2 : List Value} (h1 : w.ownsRow b1 e1 s1 v1 n1 x1) (h2 : w.ownsRow b2 e2 s2 v2 n2 x2) (he : e1 ≠ e2) : ∀ b, v1.ownBlock = some b → v2.ownBlock ≠ some b := by
  intro b hb hb2
  rcases h1.2 with ⟨rfl, _⟩ | ⟨g, c, cur, rfl, _, h3, _⟩
  · cases hb
  · rcases h2.2 with ⟨rfl, _⟩ | ⟨g', c', cur', rfl, _, h3', _⟩
    · cases hb2
    · have ea : g = b := Option.some.inj hb
      have eb : g' = b := Option.some.inj hb2
      subst ea
      subst eb
      rw [h3] at h3'
      have := Option.some.inj h3'
      injection this with _ e
      exact he e
theorem own_grown {w w' : World} {base : Nat} {e : TypeId} {size : Nat} {v : Value} {k : Nat} {xs : List Value} {ob : Option Nat} (h : w.ownsRow base e size v k xs) (hg : w.grownBy w' ob) (hne : ∀ b, v.ownBlock = some b → ob ≠ some b) : w'.ownsRow base e size v k xs := by
  refine ⟨h.1, ?_⟩
  rcases h.2 with h' | ⟨g, c, cur, h1, h2, h3, h4⟩
  · exact Or.inl h'
  · exact Or.inr ⟨g, c, cur, h1, h2, (hg.block g (lt_of_block h3) (hne g (by rw [h1]; rfl)).symm).trans h3, h4⟩
set_option maxRecDepth 100000 in
set_option maxHeartbeats 3200000 in
theorem rall8_any (n : Nat) (a : Option Addr) (l : List A) (cap : Nat) (w : World) (hE : chkE n l = 0) (hr : Arcs w a l) :
    Calls Tryz.prog 32 #[.agg #[.int .i64 n, .slice a l.length cap]] w fun e w' => ∃ v c, e = .returned (.slice v (prl l).length c) ∧ OwnP w' w.heap.size v c (prl l) ∧ Below w.heap.size w w' := by
  obtain ⟨h1n, hn, hl, hoa⟩ := chk_zero hE
  have hn' : n ≤ 1024 := by omega
  have HPO := Lib.hid hoa
  have HPR := Lib.hid (allP_prl hoa)
  have hb0 : Below w.heap.size w (w.alloc (.cells #[.int .i64 n, .slice a l.length cap] 24)) := (Below.refl _ _).alloc (Nat.le_refl _) _
  have hg := heap_top w (.cells #[.int .i64 n, .slice a l.length cap] 24)
  have HR := Lib.hid hr
  have HB0 := Lib.hid hb0
  obtain ⟨i0, hi, hz0, hz1, hz2⟩ := info_parts info41
  clear hb0 hr hoa hE h1n hn
  generalize hp : w.heap.size = p at *
  go_enter Tryz.func32, Tryz.ntmps32
  go_wp2_with fail
  generalize hW : w.alloc (.cells #[.int .i64 n, .slice a l.length cap] 24) = W at *
  clear hW
  have hpW : p < W.heap.size := lt_of_block hg
  go_loopw [3, 4] (fun s3 i wr => ∃ (k : Nat) (av : Option Addr) (cv len : Nat), k ≤ n ∧ i = .int .i64 k ∧ s3 = .slice av len cv ∧ Hid ((allP l n k).length = len) ∧ Hid (wr.ownsRow (p + 1) 52 2 (.slice av len cv) len (cellsP (allP l n k))) ∧ Hid (Below (p + 1) W wr)) (fun _ i _ => n - (intOf i).toNat)
  case atStart => exact ⟨0, none, 0, 0, Nat.zero_le _, rfl, rfl, rfl, World.ownsRow_nil _ _ _ _, Below.refl _ _⟩
  case round =>
    obtain ⟨k, av, cv, len, hk, rfl, rfl, HLN, HOW, HBR⟩ := hrel
    have hgr := (HBR.out.block p (by omega)).trans hg
    obtain ⟨⟨g0, g1⟩, _⟩ := two_cells hgr
    have hwr : W.heap.size ≤ wr.heap.size := HBR.out.size
    by_cases hlt : k < n
    · have hlt' : (k : Int) < n := by omega
      have HRr : Hid (Arcs wr a l) := HR.out.on (hp ▸ (HB0.out.trans (HBR.out.mono (by omega))))
      go_wp2_with fail
      refine (rnear_any n k a l cap wr hn' hl hlt HPO.out HRr.out).mono ?_
      rintro e w2 ⟨bn, rfl, hbn, htn, hb2⟩
      have HB2 : Hid (Below (p + 1) W w2) := HBR.out.trans (hb2.mono (by omega))
      have HO2 : Hid (w2.ownsRow (p + 1) 52 2 (.slice av len cv) len (cellsP (allP l n k))) := own_on HOW.out hb2
      have hz2' : wr.heap.size ≤ w2.heap.size := hb2.size
      clear hb2
      go_wp2_with fail
      refine (rall_any hn' htn).mono ?_
      rintro e w3 ⟨v3, rfl, hown3, hb3⟩
      obtain ⟨a3, c3, rfl⟩ := own_slice hown3
      obtain ⟨q, HQ⟩ := named (nbl l n k)
      have HQ' : Hid (allk (fun u => nr l k u && !decide (u = k)) n = q) := HQ
      rw [HQ'.out] at hown3 ⊢
      have hql : q.length ≤ 1024 := by rw [← HQ.out]; exact Nat.le_trans (nbl_len _ _ _) hn'
      have HB3 : Hid (Below (p + 1) W w3) := HB2.out.trans (hb3.mono (by omega))
      have HO3 : Hid (w3.ownsRow (p + 1) 52 2 (.slice av len cv) len (cellsP (allP l n k))) := own_on HO2.out hb3
      have HI3 := Lib.hid hown3
      have hz3 : w2.heap.size ≤ w3.heap.size := hb3.size
      have HLM : Hid (len ≤ 1048576) := by
        show _ ≤ _
        rw [← HLN.out]
        exact Nat.le_trans (allP_len l n k) (Nat.mul_le_mul (Nat.le_trans hk hn') hn')
      have HAN : Hid ((allP l n k ++ rowQ k (q.take 0)) = allP l n k) := by show _ = _; rw [List.take_zero, rowQ_nil, List.append_nil]
      clear hb3 hown3 HO2 HB2 HQ'
      go_wp2_with fail
      go_loopw [3, 6] (fun s3 i wx => ∃ (j : Nat) (au : Option Addr) (cu lu : Nat), j ≤ q.length ∧ i = .int .i64 j ∧ s3 = .slice au lu cu ∧ lu ≤ len + j ∧ Hid ((allP l n k ++ rowQ k (q.take j)).length = lu) ∧ Hid (wx.ownsRow (p + 1) 52 2 (.slice au lu cu) lu (cellsP (allP l n k ++ rowQ k (q.take j)))) ∧ Hid (wx.ownsRow w2.heap.size 3 1 (.slice a3 q.length c3) q.length (cellsI (ints q))) ∧ Hid (Below (p + 1) W wx)) (fun _ i _ => q.length - (intOf i).toNat)
      case atStart => exact ⟨0, av, cv, len, Nat.zero_le _, rfl, rfl, Nat.le_refl _, by rw [HAN.out]; exact HLN, by rw [HAN.out]; exact HO3, HI3, HB3⟩
      case round =>
        obtain ⟨j, au, cu, lu, hj, rfl, rfl, hlu, HLU, HOU, HOI, HBU⟩ := hrel
        have hwU : W.heap.size ≤ wr.heap.size := HBU.out.size
        have hlu' : lu ≤ 1048576 + 1024 := by have := HLM.out; omega
        by_cases hjq : j < q.length
        · obtain ⟨ix, ox, hix⟩ := (own_ints HOI.out rfl).get
          obtain ⟨rfl, hbl, hat⟩ := hix (by rw [ints_len]; omega)
          have hjq' : (j : Int) < q.length := by omega
          have y0 := hat j (by rw [ints_len]; exact hjq)
          rw [ints_getD hjq] at y0
          have HTS := Lib.hid (take_snocQ hjq)
          clear hat hix
          generalize q.getD j 0 = u at *
          have HRS := Lib.hid (rowQ_snoc k (q.take j) u)
          rw [← HTS.out] at HRS
          by_cases hku : k < u
          · have hku' : (k : Int) < u := by omega
            have e1 := HRS.out
            rw [if_pos hku] at e1
            have HE1 := Lib.hid e1
            clear e1 HRS hku
            have HNW := Lib.hid (news1 wr k u)
            have HO5 : Hid ((wr.alloc (.cells #[.int .i64 (k : Int), .int .i64 (u : Int)] 52)).ownsRow (p + 1) 52 2 (.slice au lu cu) lu (cellsP (allP l n k ++ rowQ k (q.take j)))) := HOU.out.alloc _
            have HI5 : Hid ((wr.alloc (.cells #[.int .i64 (k : Int), .int .i64 (u : Int)] 52)).ownsRow w2.heap.size 3 1 (.slice (some ⟨ix, ox, none⟩) q.length c3) q.length (cellsI (ints q))) := HOI.out.alloc _
            have HB5 : Hid (Below (p + 1) W (wr.alloc (.cells #[.int .i64 (k : Int), .int .i64 (u : Int)] 52))) := HBU.out.alloc (by omega) _
            have HS5 : Hid (p + 1 ≤ (wr.alloc (.cells #[.int .i64 (k : Int), .int .i64 (u : Int)] 52)).heap.size) := by show _ ≤ _; simp; omega
            have HCA : Hid (cellsP (allP l n k ++ rowQ k (q.take j)) ++ cellsP [⟨k, u⟩] = cellsP (allP l n k ++ rowQ k (q.take (j + 1)))) := by show _ = _; rw [HE1.out, ← List.append_assoc, cellsP_append (allP l n k ++ rowQ k (q.take j))]
            have HL5 : Hid ((allP l n k ++ rowQ k (q.take (j + 1))).length = lu + 1) := by show _ = _; rw [HE1.out, ← List.append_assoc, List.length_append, HLU.out]; rfl
            have HOL : Hid (∀ b, (Value.slice au lu cu).ownBlock = some b → p + 1 ≤ b) := fun b hb => (HOU.out.lt b hb).1
            go_wp2_with (at_builtin; refine wpList_append_own _ rfl (.tmp 29) (.tmp 36) 30 rfl (p + 1) 52 i0 _ 2 16 Tryz.underlying30 hi hz0 hz1 hz2 rfl (by decide) (.slice au lu cu) lu (cellsP (allP l n k ++ rowQ k (q.take j))) rfl HO5.out ⟨wr.heap.size, 0, none⟩ 1 1 (cellsP [⟨k, u⟩]) rfl rfl HNW.out (cellsP_one _) (by unfold maxLen; omega) (by omega) HS5.out ?_; intro v6 w6 hown6 hgrow6 hnil6; obtain ⟨g6, c6, hv6, _, _, _, _⟩ := own_shape hown6 (fun e => by have := hnil6.1 e; simp at this); subst hv6; rw [HCA.out] at hown6; have HO6 := Lib.hid hown6; have HI6 := Lib.hid (own_grown HI5.out hgrow6 (own_apart HI5.out HO5.out (by decide))); have HB6 := Lib.hid (HB5.out.grown hgrow6 (by have := HS5.out; omega) (by intro b hb; exact HOL.out b hb)); clear hown6 hgrow6 hnil6)
            exact ⟨⟨j + 1, some ⟨g6, 0, none⟩, c6, lu + 1, by omega, by simp, rfl, by omega, HL5, HO6, HI6, HB6⟩, by simp [intOf]; omega⟩
          · have hku' : ¬ (k : Int) < u := by omega
            have e1 := HRS.out
            rw [if_neg hku] at e1
            have HE1 := Lib.hid e1
            clear e1 HRS hku
            go_wp2_with fail
            exact ⟨⟨j + 1, au, cu, lu, by omega, by simp, rfl, by omega, by rw [HE1.out]; exact HLU, by rw [HE1.out]; exact HOU, HOI, HBU⟩, by simp [intOf]; omega⟩
        · have hjq' : ¬ (j : Int) < q.length := by omega
          have HAS : Hid (allP l n k ++ rowQ k (q.take j) = allP l n (k + 1)) := by
            show _ = _
            rw [List.take_of_length_le (by omega), ← HQ.out]; rfl
          go_wp2_with fail
          exact ⟨⟨k + 1, au, cu, lu, by omega, by simp, rfl, by rw [← HAS.out]; exact HLU, by rw [← HAS.out]; exact HOU, HBU⟩, by simp [intOf]; omega⟩
    · obtain rfl : k = n := by omega
      have hlt' : ¬ (k : Int) < k := by omega
      obtain rfl : len = (prl l).length := by rw [← HLN.out, HPR.out]
      rw [HPR.out] at HOW
      go_wp2_with fail
      go_ret
      exact ⟨av, cv, rfl, own_base HOW.out (by omega), HB0.out.trans (HBR.out.mono (by omega))⟩
set_option maxRecDepth 100000 in
set_option maxHeartbeats 1600000 in
theorem rpairs_any (N : Int) (a : Option Addr) (l : List A) (cap : Nat) (w : World) (hl : l.length ≤ 9223372036854775807) (hr : Arcs w a l) :
    Calls Tryz.prog 12 #[.agg #[.int .i64 N, .slice a l.length cap]] w fun e w' => ∃ v c xs, e = .returned (.tuple #[.slice v xs.length c, .int .i64 (chkE N l)]) ∧ OwnP w' w.heap.size v c xs ∧ xs = (if chkE N l = 0 then prl l else []) ∧ Below w.heap.size w w' := by
  have hb0 : Below w.heap.size w (w.alloc (.cells #[.int .i64 N, .slice a l.length cap] 24)) := (Below.refl _ _).alloc (Nat.le_refl _) _
  have hg := heap_top w (.cells #[.int .i64 N, .slice a l.length cap] 24)
  have HR := Lib.hid (hr.on hb0)
  have hwz : w.heap.size ≤ (w.alloc (.cells #[.int .i64 N, .slice a l.length cap] 24)).heap.size := hb0.size
  have HB0 := Lib.hid hb0
  obtain ⟨AT, HAT⟩ := named (chkAt N l)
  obtain ⟨E, HE⟩ := named (chkE N l)
  rw [HE.out]
  clear hb0 hr
  generalize hp : w.heap.size = p at *
  go_enter Tryz.func12, Tryz.ntmps12
  go_wp2_with fail
  generalize hW : w.alloc (.cells #[.int .i64 N, .slice a l.length cap] 24) = W at *
  clear hW
  have hpz : p < W.heap.size := lt_of_block hg
  refine (rcheck_any N a l cap W hl HR.out).mono ?_
  rintro e w1 ⟨rfl, hb1⟩
  have HB1 : Hid (Below p w w1) := HB0.out.trans (hb1.mono hwz)
  have hg1 := (hb1.block p hpz).trans hg
  obtain ⟨⟨c0, c1'⟩, _⟩ := two_cells hg1
  have HR1 := Lib.hid (HR.out.on hb1)
  have hz1 : p < w1.heap.size := lt_of_block hg1
  rw [HE.out, HAT.out]
  clear hb1 HR hg hwz
  by_cases hE : E ≠ 0
  · have e1 : (E != 0) = true := by simpa using hE
    go_wp2_with fail
    go_ret2
    exact ⟨none, 0, [], rfl, World.ownsRow_nil _ _ _ _, rfl, HB1.out⟩
  obtain rfl : E = 0 := by omega
  obtain ⟨n, hn⟩ : ∃ n : Nat, N = n := ⟨N.toNat, by have := (chk_zero HE.out).1; omega⟩
  subst hn
  clear hE
  go_wp2_with fail
  refine (rall8_any n a l cap w1 HE.out HR1.out).mono ?_
  rintro e w2 ⟨v2, c2, rfl, hown2, hb2⟩
  have HB2 : Hid (Below p w w2) := HB1.out.trans (hb2.mono (by omega))
  have HO2 : Hid (OwnP w2 p v2 c2 (prl l)) := own_base hown2 (by omega)
  clear hb2 hown2
  go_wp2_with fail
  go_ret2
  exact ⟨v2, c2, prl l, rfl, HO2.out, rfl, HB2.out⟩
end Go.Proofs.YtpgadcacimjlaaaGreat
namespace Go.Proofs.YtpgadcacimjlaaaGreat
open Go.RowKit
/-- A right graph that is large. -/
def refB (N : Int) (l : List A) : Bool := decide (chkE N [] = 0) && decide (100 < N ∨ 400 < l.length)
set_option maxRecDepth 100000 in
set_option maxHeartbeats 1600000 in
theorem refused_any (N : Int) (a : Option Addr) (l : List A) (cap : Nat) (w : World) (hl : l.length ≤ 9223372036854775807) :
    Calls Tryz.prog 7 #[.agg #[.int .i64 N, .slice a l.length cap]] w fun e w' => e = .returned (.bool (refB N l)) ∧ Below w.heap.size w w' := by
  have hb0 : Below w.heap.size w (w.alloc (.cells #[.int .i64 N, .slice a l.length cap] 24)) := (Below.refl _ _).alloc (Nat.le_refl _) _
  have hg := heap_top w (.cells #[.int .i64 N, .slice a l.length cap] 24)
  obtain ⟨⟨c0, c1⟩, _⟩ := two_cells hg
  have hwz : w.heap.size ≤ (w.alloc (.cells #[.int .i64 N, .slice a l.length cap] 24)).heap.size := hb0.size
  have HB0 := Lib.hid hb0
  obtain ⟨V, HV⟩ := named (refB N l)
  rw [HV.out]
  clear hb0
  generalize hp : w.heap.size = p at *
  go_enter Tryz.func7, Tryz.ntmps7
  go_wp2_with fail
  generalize hW : w.alloc (.cells #[.int .i64 N, .slice a l.length cap] 24) = W at *
  clear hW
  have hpz : p < W.heap.size := lt_of_block hg
  have HRP := Lib.hid (rpairs_any N none [] 0 W (by simp) (.inl rfl))
  refine HRP.out.mono ?_
  rintro e w1 ⟨v1, k1, xs, rfl, _, _, hb1⟩
  have HB1 : Hid (Below p w w1) := HB0.out.trans (hb1.mono hwz)
  have hg1 := (hb1.block p hpz).trans hg
  obtain ⟨⟨d0, d1⟩, _⟩ := two_cells hg1
  have hz1 : p < w1.heap.size := lt_of_block hg1
  obtain ⟨E, HE⟩ := named (chkE N [])
  rw [HE.out]
  clear hb1 hg hwz c0 c1 HRP
  by_cases hE : E = 0
  · subst hE
    go_wp2_with fail
    refine (large_any N a l.length cap w1 hl).mono ?_
    rintro e w2 ⟨rfl, hb2⟩
    have HB2 : Hid (Below p w w2) := HB1.out.trans (hb2.mono (by omega))
    have HVV : Hid (V = decide (100 < N ∨ 400 < l.length)) := by show _ = _; rw [← HV.out]; unfold refB; rw [HE.out]; simp
    clear hb2
    generalize decide (100 < N ∨ 400 < l.length) = big at *
    go_wp2_with fail
    go_ret
    exact ⟨by rw [HVV.out]; rfl, HB2.out⟩
  · have e2 : (E == 0) = false := by simpa using hE
    have HVV : Hid (V = false) := by show _ = _; rw [← HV.out]; unfold refB; rw [HE.out]; simp [hE]
    clear hE
    go_wp2_with fail
    all_goals
      go_ret
      exact ⟨by rw [HVV.out]; rfl, HB1.out⟩
theorem ownL_made {w : World} {g n : Nat} {L : List Nat} {B : Nat} (h : T3.OwnL w g n L) (hL : L.length = n) (hB : B ≤ g) : w.ownsRow B 3 1 (.slice (some ⟨g, 0, none⟩) (T3.ints L).length n) (T3.ints L).length (T3.cellsI (T3.ints L)) := by
  rw [T3.ints_len, hL]
  exact own_base h hB
set_option maxRecDepth 100000 in
set_option maxHeartbeats 3200000 in
theorem rfrag_any (N : Int) (a : Option Addr) (l : List A) (cap : Nat) (b : Option Addr) (ms : List Pi2) (bc : Nat) (w : World) (hl : l.length ≤ 9223372036854775807) (hml : ms.length ≤ 9223372036854775807) (hr : Arcs w a l) (hm : PrI w b ms) :
    Calls Tryz.prog 23 #[.agg #[.int .i64 N, .slice a l.length cap], .slice b ms.length bc] w fun e w' => T3.Made w w' e (frL N l ms) (frE N l ms) := by
  have hb0 : Below w.heap.size w (w.alloc (.cells #[.int .i64 N, .slice a l.length cap] 24)) := (Below.refl _ _).alloc (Nat.le_refl _) _
  have hg := heap_top w (.cells #[.int .i64 N, .slice a l.length cap] 24)
  have HR := Lib.hid hr
  have HM := Lib.hid hm
  have HRA := Lib.hid (hr.on hb0)
  have hwz : w.heap.size ≤ (w.alloc (.cells #[.int .i64 N, .slice a l.length cap] 24)).heap.size := hb0.size
  have HB0 := Lib.hid hb0
  obtain ⟨AT, HAT⟩ := named (chkAt N l)
  obtain ⟨E, HE⟩ := named (chkE N l)
  obtain ⟨L, HL⟩ := named (frL N l ms)
  obtain ⟨G, HG⟩ := named (frE N l ms)
  rw [HL.out, HG.out]
  obtain ⟨ix, ox, hix⟩ := hm.get
  have HIX := Lib.hid hix
  clear hb0 hr hm hix
  generalize hp : w.heap.size = p at *
  go_enter Tryz.func23, Tryz.ntmps23
  go_wp2_with fail
  generalize hW : w.alloc (.cells #[.int .i64 N, .slice a l.length cap] 24) = W at *
  clear hW
  have hpz : p < W.heap.size := lt_of_block hg
  refine (rcheck_any N a l cap W hl HRA.out).mono ?_
  rintro e w1 ⟨rfl, hb1⟩
  have HB1 : Hid (Below p w w1) := HB0.out.trans (hb1.mono hwz)
  have hg1 := (hb1.block p hpz).trans hg
  have HG1 := Lib.hid hg1
  have hz1 : p < w1.heap.size := lt_of_block hg1
  rw [HE.out, HAT.out]
  clear hb1 HRA hg hwz hg1
  by_cases hE : E ≠ 0
  · have e1 : (E != 0) = true := by simpa using hE
    have HGE : Hid (G = E ∧ L = []) := by
      have h1 : frE N l ms = E := by unfold frE; rw [if_pos (by rw [HE.out]; exact hE), HE.out]
      refine ⟨HG.out.symm.trans h1, ?_⟩
      rw [← HL.out]; unfold frL; rw [if_neg (by rw [h1]; exact hE)]
    go_wp2_with fail
    go_ret2
    rw [HGE.out.1, HGE.out.2]
    exact ⟨none, 0, rfl, World.ownsRow_nil _ _ _ _, hp ▸ HB1.out⟩
  obtain rfl : E = 0 := by omega
  obtain ⟨n, hn⟩ : ∃ n : Nat, N = n := ⟨N.toNat, by have := (chk_zero HE.out).1; omega⟩
  subst hn
  clear hE
  have HGM : Hid (G = mkE n ms) := by show _ = _; rw [← HG.out]; unfold frE; rw [if_neg (by rw [HE.out]; omega)]
  have HLG : Hid (G ≠ 0 → L = []) := fun h => by rw [← HL.out]; unfold frL; rw [if_neg (by rw [HG.out]; exact h)]
  by_cases hlong : 16384 < ms.length
  · have hl' : (16384 : Int) < ms.length := by omega
    have HF : Hid (G = 2) := by show _ = _; rw [HGM.out]; unfold mkE; rw [if_pos hlong]
    go_wp2_with fail
    go_ret2
    rw [HF.out, HLG.out (by rw [HF.out]; omega)]
    exact ⟨none, 0, rfl, World.ownsRow_nil _ _ _ _, hp ▸ HB1.out⟩
  have hl' : ¬ (16384 : Int) < ms.length := by omega
  have HVM : Hid (mk1 n ms = G) := by show _ = _; rw [HGM.out]; unfold mkE; rw [if_neg hlong]
  have HG0 : Hid (mk1 n ms = mkE n ms) := HVM.out.trans HGM.out
  clear hlong
  go_wp2_with fail
  go_loopw [8] (fun i wr => ∃ (k : Nat), k ≤ ms.length ∧ i = .int .i64 k ∧ Hid (mk1 n (ms.drop k) = G) ∧ Hid (Below w1.heap.size w1 wr)) (fun i _ => ms.length - (intOf i).toNat)
  case atStart => exact ⟨0, Nat.zero_le _, rfl, HVM, Below.refl _ _⟩
  case round =>
    obtain ⟨k, hk, rfl, HK, HBR⟩ := hrel
    have hgr := (HBR.out.block p hz1).trans HG1.out
    have hwr : w1.heap.size ≤ wr.heap.size := HBR.out.size
    have HBP : Hid (Below p w wr) := HB1.out.trans (HBR.out.mono (by omega))
    by_cases hlk : k < ms.length
    · obtain ⟨rfl, hbl, hat⟩ := HIX.out (by omega)
      have hlk' : (k : Int) < ms.length := by omega
      obtain ⟨x0, x1⟩ := hat k hlk
      have y0 := (HBP.out.cell (p := ⟨ix, ox + k * 2, none⟩) hbl).trans x0
      have y1 := (HBP.out.cell (p := ⟨ix, ox + k * 2 + 1, none⟩) hbl).trans x1
      have hk2 := HK.out
      rw [drop_getM hlk] at hk2
      simp only [mk1] at hk2
      have HK2 := Lib.hid hk2
      clear hat x0 x1 hk2
      generalize ms.getD k Pi2.zero = x at *
      obtain ⟨xa, xb⟩ := x
      have hz3 : (wr.alloc (.cells #[.int .i64 xa, .int .i64 xb] 52)).heap[wr.heap.size]? = some (.cells #[.int .i64 xa, .int .i64 xb] 52) := heap_top wr _
      have hg3 : (wr.alloc (.cells #[.int .i64 xa, .int .i64 xb] 52)).heap[p]? = some (.cells #[.int .i64 n, .slice a l.length cap] 24) := (Below.heap_alloc _ _ _ (by omega)).trans hgr
      obtain ⟨⟨z0, z1⟩, _⟩ := two_cells hz3
      obtain ⟨⟨g0, g1⟩, _⟩ := two_cells hg3
      have HB3 : Hid (Below w1.heap.size w1 (wr.alloc (.cells #[.int .i64 xa, .int .i64 xb] 52))) := HBR.out.alloc hwr _
      have HBQ : Hid (Below p w (wr.alloc (.cells #[.int .i64 xa, .int .i64 xb] 52))) := HBP.out.alloc (by omega) _
      by_cases h1 : xa < 0
      · have HF : Hid (G = 5) := by show _ = _; rw [← HK2.out, if_pos (.inl (by simp [okV]; omega))]
        go_wp2_with fail
        go_ret2
        rw [HF.out, HLG.out (by rw [HF.out]; omega)]
        exact ⟨none, 0, rfl, World.ownsRow_nil _ _ _ _, hp ▸ HBQ.out⟩
      · by_cases h2 : (n : Int) ≤ xa
        · have HF : Hid (G = 5) := by show _ = _; rw [← HK2.out, if_pos (.inl (by simp [okV]; omega))]
          go_wp2_with fail
          go_ret2
          rw [HF.out, HLG.out (by rw [HF.out]; omega)]
          exact ⟨none, 0, rfl, World.ownsRow_nil _ _ _ _, hp ▸ HBQ.out⟩
        · by_cases h3 : xb < 0
          · have HF : Hid (G = 5) := by show _ = _; rw [← HK2.out, if_pos (.inr (by simp [okV]; omega))]
            go_wp2_with fail
            go_ret2
            rw [HF.out, HLG.out (by rw [HF.out]; omega)]
            exact ⟨none, 0, rfl, World.ownsRow_nil _ _ _ _, hp ▸ HBQ.out⟩
          · by_cases h4 : (n : Int) ≤ xb
            · have HF : Hid (G = 5) := by show _ = _; rw [← HK2.out, if_pos (.inr (by simp [okV]; omega))]
              go_wp2_with fail
              go_ret2
              rw [HF.out, HLG.out (by rw [HF.out]; omega)]
              exact ⟨none, 0, rfl, World.ownsRow_nil _ _ _ _, hp ▸ HBQ.out⟩
            · have HK3 : Hid ((if xb ≤ xa then (4 : Int) else mk1 n (ms.drop (k + 1))) = G) := by
                have ha : okV n xa = true := by simp [okV]; omega
                have hb : okV n xb = true := by simp [okV]; omega
                have h5 := HK2.out
                rw [if_neg (by rintro (h | h); (rw [ha] at h; cases h); (rw [hb] at h; cases h))] at h5
                exact h5
              by_cases hle : xb ≤ xa
              · rw [if_pos hle] at HK3
                have HF : Hid (G = 4) := HK3.out.symm
                go_wp2_with fail
                go_ret2
                rw [HF.out, HLG.out (by rw [HF.out]; omega)]
                exact ⟨none, 0, rfl, World.ownsRow_nil _ _ _ _, hp ▸ HBQ.out⟩
              · rw [if_neg hle] at HK3
                go_wp2_with fail
                exact ⟨⟨k + 1, by omega, by simp, HK3, HB3⟩, by simp [intOf]; omega⟩
    · have e0 : ms.drop k = [] := List.drop_eq_nil_of_le (by omega)
      have hlk' : ¬ (k : Int) < ms.length := by omega
      rw [e0] at HK
      obtain rfl : G = 0 := HK.out.symm
      clear e0
      obtain ⟨⟨g0, g1⟩, _⟩ := two_cells hgr
      have HLF : Hid (L = T3.ints (T3.labs (T3.lead (keptA l ms)) n)) := HL.out.symm.trans (frL_kept HE.out HGM.out.symm)
      have HPT := Lib.hid (rparted_any n a l cap b ms bc wr HE.out hml (HR.out.on (hp ▸ HBP.out)) (HM.out.on (hp ▸ HBP.out)))
      go_wp2_with fail
      refine HPT.out.mono ?_
      rintro e w4 ⟨g4, rfl, hown4, hg4, hb4⟩
      have HB4 : Hid (Below p w w4) := HBP.out.trans (hb4.mono (by omega))
      have HO4 := Lib.hid (ownL_made (B := p) hown4 (T3.labs_len _ _) (by omega))
      clear hb4 hown4
      go_wp2_with fail
      go_ret2
      refine ⟨some ⟨g4, 0, none⟩, n, ?_, ?_, hp ▸ HB4.out⟩
      · rw [HLF.out, T3.ints_len, T3.labs_len]; rfl
      · rw [HLF.out, hp]
        exact HO4.out
end Go.Proofs.YtpgadcacimjlaaaGreat
