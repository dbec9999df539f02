/-
  The contract of flyoverref08.Marks.
-/
import Derived.Test.YtpgadcacimjlaaaGreatZV
import Derived.Test.YtpgadcacimjlaaaGreatZN
import Derived.Test.YtpgadcacimjlaaaGreatZI
import Derived.Deep.RegionLaw
import Derived.Maps.AppendAt
import Derived.Laws.AppendOwnNone
namespace Go.Proofs.YtpgadcacimjlaaaGreat
open Go.RowKit
theorem step_append_own {P : Program} {ops : Array Oper} {o : Oper} {a : Act} {w : World} {K : Act → World → Prop} {Q : Exit → Act → World → Prop} {E : Prop}
    (hg : o.guard = none) (s x : Operand) (t : TypeId) (hop : o.op = Op.call { callee := Callee.builtin Builtin.append, args := #[s, x], argTypes := #[t, t] })
    (base : Nat) (e : TypeId) (i : TypeInfo) (z : Value) (size bytes : Nat) (ht : P.underlying t = some (.slice e)) (hi : P.info? e = some i) (hz : i.zero = some z)
    (hsize : i.size = size) (hby : i.bytes = bytes) (hzs : z.cells.size = size) (hsz : 0 < size)
    (v : Value) (n : Nat) (xs : List Value) (hs : a.eval s = v) (hown : w.ownsRow base e size v n xs)
    (ad : Addr) (m c : Nat) (news : List Value) (hx : a.eval x = .slice (some ad) m c) (hl : news.length = m * size) (hnews : ∀ j u, news[j]? = some u → w.cell? (ad.add j) = some u) (h1 : ∀ u ∈ news, u.oneCell' = true)
    (h63 : n + m ≤ maxLen) (hbytes : (n + m) * bytes ≤ 140737488355328) (hbase : base ≤ w.heap.size)
    (hK : ∀ v' w', w'.ownsRow base e size v' (n + m) (xs ++ news) → w.grownBy w' v.ownBlock → K (a.put o.dst v') w') :
    if Region.wanted o (yielded ops a.tmps) = true then Oper.wp P o a w K Q else E := by
  have hw : Region.wanted o (yielded ops a.tmps) = true := by simp [Region.wanted, hg]
  rw [if_pos hw]
  obtain ⟨v', w', hrun, r1, r2, _, _⟩ := run_append_own_at (P := P) w base t o.type e i z size bytes ht hi hz hsize hby hzs hsz v n xs hown ad m c news hl hnews h1 h63 hbytes hbase
  unfold Oper.wp
  simp [execOp, hop, resolve, invoke, builtin, hs, hx, hrun, Result.andThen]
  exact hK v' w' r1 r2
theorem step_append_none {P : Program} {ops : Array Oper} {o : Oper} {a : Act} {w : World} {K : Act → World → Prop} {Q : Exit → Act → World → Prop} {E : Prop}
    (hg : o.guard = none) (s x : Operand) (t : TypeId) (hop : o.op = Op.call { callee := Callee.builtin Builtin.append, args := #[s, x], argTypes := #[t, t] })
    (base : Nat) (e : TypeId) (i : TypeInfo) (size : Nat) (ht : P.underlying t = some (.slice e)) (hi : P.info? e = some i)
    (v : Value) (n : Nat) (xs : List Value) (hs : a.eval s = v) (hown : w.ownsRow base e size v n xs) (hx : a.eval x = .slice none 0 0)
    (hK : K (a.put o.dst v) w) :
    if Region.wanted o (yielded ops a.tmps) = true then Oper.wp P o a w K Q else E := by
  have hw : Region.wanted o (yielded ops a.tmps) = true := by simp [Region.wanted, hg]
  rw [if_pos hw]
  have hrun := run_append_owned_none (P := P) (w := w) base t o.type e i size ht hi v n xs hown
  unfold Oper.wp
  simp [execOp, hop, resolve, invoke, builtin, hs, hx, hrun, Result.andThen]
  exact hK
theorem step_append_rows {P : Program} {ops : Array Oper} {o : Oper} {a : Act} {w : World} {K : Act → World → Prop} {Q : Exit → Act → World → Prop} {E : Prop}
    (hg : o.guard = none) (s x : Operand) (t : TypeId) (hop : o.op = Op.call { callee := Callee.builtin Builtin.append, args := #[s, x], argTypes := #[t, t] })
    (base : Nat) (e : TypeId) (i : TypeInfo) (z : Value) (size bytes : Nat) (ht : P.underlying t = some (.slice e)) (hi : P.info? e = some i) (hz : i.zero = some z)
    (hsize : i.size = size) (hby : i.bytes = bytes) (hzs : z.cells.size = size) (hsz : 0 < size)
    (v : Value) (n : Nat) (xs : List Value) (hs : a.eval s = v) (hown : w.ownsRow base e size v n xs)
    (b2 : Nat) (vx : Option Addr) (m c : Nat) (news : List Value) (hx : a.eval x = .slice vx m c) (hrow : w.ownsRow b2 e size (.slice vx m c) m news) (hl : news.length = m * size) (h1 : ∀ u ∈ news, u.oneCell' = true)
    (h63 : n + m ≤ maxLen) (hbytes : (n + m) * bytes ≤ 140737488355328) (hbase : base ≤ w.heap.size)
    (hK : ∀ v' w', w'.ownsRow base e size v' (n + m) (xs ++ news) → w.grownBy w' v.ownBlock → K (a.put o.dst v') w') :
    if Region.wanted o (yielded ops a.tmps) = true then Oper.wp P o a w K Q else E := by
  rcases hrow.2 with ⟨h2, h3⟩ | ⟨g, c', cur, h2, h3, h4, h5⟩
  · injection h2 with e1 e2 e3
    subst e1 e2 e3
    have h0 : news = [] := List.eq_nil_of_length_eq_zero (by rw [hl]; simp)
    subst h0
    refine step_append_none hg s x t hop base e i size ht hi v n xs hs hown hx (hK v w ?_ ⟨rfl, rfl, rfl, Nat.le_refl _, fun _ _ _ => rfl⟩)
    rw [List.append_nil, Nat.add_zero]
    exact hown
  · injection h2 with e1 e2 e3
    subst e1 e3
    refine step_append_own hg s x t hop base e i z size bytes ht hi hz hsize hby hzs hsz v n xs hs hown ⟨g, 0, none⟩ m c news hx hl (fun j u hu => ?_) h1 h63 hbytes hbase hK
    have hj : j < m * size := by rw [← hl]; exact (List.getElem?_eq_some_iff.1 hu).1
    rw [Go.WideShapes.add_plain, Nat.zero_add, World.ownsRow.cellAt hrow j hj]
    exact hu
theorem hasB_I (S : List Pr) (p : Pr) : hasB (S.map toI) p.a p.b = decide (p ∈ S) := by
  rw [Bool.eq_iff_iff, decide_eq_true_eq, ← hasB_nat (fun q hq => by obtain ⟨r, _, rfl⟩ := List.mem_map.1 hq; simp [toI]) p, toI_nat]
theorem nats_getD {cs : List Int} {j : Nat} (hj : j < cs.length) : (cs.map Int.toNat).getD j 0 = (cs.getD j 0).toNat := by simp [List.getD, hj]
theorem getD_memI {cs : List Int} {j : Nat} (hj : j < cs.length) : cs.getD j 0 ∈ cs := by simp [List.getD, List.getElem?_eq_getElem hj]
set_option maxRecDepth 100000 in
set_option maxHeartbeats 6400000 in
theorem rmarks_any (N m : Int) (a : Option Addr) (l : List A) (cap : Nat) (b : Option Addr) (cs : List Int) (bc : Nat) (w : World) (hl : l.length ≤ 9223372036854775807) (hml : cs.length ≤ 9223372036854775807) (hr : Arcs w a l) (hm : Ints w b cs) :
    Calls Tryz.prog 21 #[.agg #[.int .i64 N, .slice a l.length cap], .slice b cs.length bc, .int .i64 m] w fun e w' => ∃ v c xs, e = .returned (.tuple #[.slice v xs.length c, .int .i64 (maE N m l cs)]) ∧ OwnP w' w.heap.size v c xs ∧ Hid (maE N m l cs = 0 → MarksIs N.toNat l (cs.map Int.toNat) m.toNat xs) ∧ Hid (maE N m l cs ≠ 0 → xs = []) ∧ Below w.heap.size w w' := by
  have hb0 : Below w.heap.size w (w.alloc (.cells #[.int .i64 N, .slice a l.length cap] 24)) := (Below.refl _ _).alloc (Nat.le_refl _) _
  have hg := heap_top w (.cells #[.int .i64 N, .slice a l.length cap] 24)
  have HR := Lib.hid (hr.on hb0)
  have HM := Lib.hid (hm.on hb0)
  have hwz : w.heap.size ≤ (w.alloc (.cells #[.int .i64 N, .slice a l.length cap] 24)).heap.size := hb0.size
  have HB0 := Lib.hid hb0
  obtain ⟨G, HG⟩ := named (maE N m l cs)
  rw [HG.out]
  obtain ⟨AT, HAT⟩ := named (chkAt N l)
  obtain ⟨E, HE⟩ := named (chkE N l)
  clear hb0 hr hm
  generalize hp : w.heap.size = p at *
  go_enter Tryz.func21, Tryz.ntmps21
  go_wp2_with fail
  generalize hW : w.alloc (.cells #[.int .i64 N, .slice a l.length cap] 24) = W at *
  clear hW
  have hpz : p < W.heap.size := lt_of_block hg
  refine (rcheck_any N a l cap W hl HR.out).mono ?_
  rintro e w1 ⟨rfl, hb1⟩
  have HB1 : Hid (Below p w w1) := HB0.out.trans (hb1.mono hwz)
  have hg1 := (hb1.block p hpz).trans hg
  have HM1 := Lib.hid (HM.out.on hb1)
  have HR1 := Lib.hid (HR.out.on hb1)
  have hz1 : p < w1.heap.size := lt_of_block hg1
  rw [HE.out, HAT.out]
  have HG1 := Lib.hid hg1
  clear hb1 hg HR hwz HM hg1
  by_cases hE : E ≠ 0
  · have e1 : (E != 0) = true := by simpa using hE
    have HGE : Hid (G = E) := by show _ = _; rw [← HG.out]; unfold maE; rw [if_pos (by rw [HE.out]; exact hE), HE.out]
    go_wp2_with fail
    go_ret2
    exact ⟨none, 0, [], by rw [HGE.out]; rfl, ⟨rfl, .inl ⟨rfl, rfl⟩⟩, fun h => absurd (HGE.out.symm.trans h) hE, fun _ => rfl, HB1.out⟩
  obtain rfl : E = 0 := by omega
  obtain ⟨n, hn⟩ : ∃ n : Nat, N = n := ⟨N.toNat, by have := (chk_zero HE.out).1; omega⟩
  subst hn
  clear hE
  obtain ⟨h1n, hn, hlb, hoa⟩ := chk_zero HE.out
  have hn' : n ≤ 1024 := by omega
  have HGC : Hid (G = ceE n m cs) := by show _ = _; rw [← HG.out]; unfold maE; rw [if_neg (by rw [HE.out]; omega)]
  by_cases hlong : 16384 < cs.length
  · have hl' : (16384 : Int) < cs.length := by omega
    have HF : Hid (G = 2) := by show _ = _; rw [HGC.out]; unfold ceE; rw [if_pos hlong]
    go_wp2_with fail
    go_ret2
    exact ⟨none, 0, [], by rw [HF.out]; rfl, ⟨rfl, .inl ⟨rfl, rfl⟩⟩, fun h => absurd (HF.out.symm.trans h) (by decide), fun _ => rfl, HB1.out⟩
  have hl' : ¬ (16384 : Int) < cs.length := by omega
  by_cases hm1 : m < 1
  · have HF : Hid (G = 1) := by show _ = _; rw [HGC.out]; unfold ceE; rw [if_neg hlong, if_pos (.inl hm1)]
    go_wp2_with fail
    go_ret2
    exact ⟨none, 0, [], by rw [HF.out]; rfl, ⟨rfl, .inl ⟨rfl, rfl⟩⟩, fun h => absurd (HF.out.symm.trans h) (by decide), fun _ => rfl, HB1.out⟩
  by_cases hm2 : 1024 < m
  · have HF : Hid (G = 1) := by show _ = _; rw [HGC.out]; unfold ceE; rw [if_neg hlong, if_pos (.inr hm2)]
    go_wp2_with fail
    go_ret2
    exact ⟨none, 0, [], by rw [HF.out]; rfl, ⟨rfl, .inl ⟨rfl, rfl⟩⟩, fun h => absurd (HF.out.symm.trans h) (by decide), fun _ => rfl, HB1.out⟩
  have HGA : Hid (G = if cs.all (okV n) then 0 else 5) := by show _ = _; rw [HGC.out]; unfold ceE; rw [if_neg hlong, if_neg (by omega)]
  obtain ⟨ix, ox, hix⟩ := HM1.out.get
  have HIX := Lib.hid hix
  clear hix
  go_wp2_with fail
  go_loopw [10] (fun i wr => ∃ k : Nat, k ≤ cs.length ∧ i = .int .i64 k ∧ Hid (∀ j, j < k → 0 ≤ cs.getD j 0 ∧ cs.getD j 0 < n) ∧ Hid (Below w1.heap.size w1 wr)) (fun i _ => cs.length - (intOf i).toNat)
  case atStart => exact ⟨0, Nat.zero_le _, rfl, fun j hj => by omega, Below.refl _ _⟩
  case round =>
    obtain ⟨k, hk, rfl, HJ, HBR⟩ := hrel
    have hgr := (HBR.out.block p hz1).trans HG1.out
    obtain ⟨⟨c0, c1⟩, _⟩ := two_cells hgr
    have hwr : w1.heap.size ≤ wr.heap.size := HBR.out.size
    by_cases hlk : k < cs.length
    · obtain ⟨rfl, hbl, hat⟩ := HIX.out (by omega)
      have hlk' : (k : Int) < cs.length := by omega
      have y0 := (HBR.out.cell (p := ⟨ix, ox + k, none⟩) hbl).trans (hat k hlk)
      have HBN : ∀ nq, Hid (Below w1.heap.size w1 (wr.drewN nq)) := fun _ => ⟨HBR.out.os, HBR.out.tape, HBR.out.output, HBR.out.size, HBR.out.block⟩
      have HBP : ∀ nq, Hid (Below p w (wr.drewN nq)) := fun nq => HB1.out.trans ((HBN nq).out.mono (by omega))
      have HMem := Lib.hid (getD_memI hlk)
      obtain ⟨x, HX⟩ := named (cs.getD k 0)
      rw [HX.out] at y0 HMem
      clear hat
      by_cases h0 : x < 0
      · have HF : Hid (G = 5) := by
          show _ = _
          rw [HGA.out, if_neg]
          intro h
          have := List.all_eq_true.1 h _ HMem.out
          simp [okV] at this
          omega
        have hd : decide (x < 0) = true := by simpa using h0
        go_wp2_with fail
        go_quiet (fail)
        go_wp2_with fail
        go_ret2
        exact ⟨none, 0, [], by rw [HF.out]; rfl, ⟨rfl, .inl ⟨rfl, rfl⟩⟩, fun h => absurd (HF.out.symm.trans h) (by decide), fun _ => rfl, (HBP _).out⟩
      · by_cases h1 : (n : Int) ≤ x
        · have HF : Hid (G = 5) := by
            show _ = _
            rw [HGA.out, if_neg]
            intro h
            have := List.all_eq_true.1 h _ HMem.out
            simp [okV] at this
            omega
          have hd : decide (x < 0) = false := by simpa using h0
          have hd2 : decide ((n : Int) ≤ x) = true := by simpa using h1
          go_wp2_with fail
          go_quiet (fail)
          go_wp2_with fail
          go_ret2
          exact ⟨none, 0, [], by rw [HF.out]; rfl, ⟨rfl, .inl ⟨rfl, rfl⟩⟩, fun h => absurd (HF.out.symm.trans h) (by decide), fun _ => rfl, (HBP _).out⟩
        · have HJ2 : Hid (∀ j, j < k + 1 → 0 ≤ cs.getD j 0 ∧ cs.getD j 0 < n) := fun j hj => by
            by_cases e : j = k
            · subst e; rw [HX.out]; omega
            · exact HJ.out j (by omega)
          clear HJ
          have hd : decide (x < 0) = false := by simpa using h0
          have hd2 : decide ((n : Int) ≤ x) = false := by simpa using h1
          go_wp2_with fail
          go_quiet (fail)
          go_wp2_with fail
          exact ⟨⟨k + 1, by omega, by simp, HJ2, HBN _⟩, by simp [intOf]; omega⟩
    · have hlk' : ¬ (k : Int) < cs.length := by omega
      obtain rfl : k = cs.length := by omega
      have HALL : Hid (∀ c, c ∈ cs → 0 ≤ c ∧ c < n) := fun c hc => by
        obtain ⟨j, hj, rfl⟩ := List.mem_iff_getElem.1 hc
        have := HJ.out j hj
        simpa [List.getD, List.getElem?_eq_getElem hj] using this
      obtain rfl : G = 0 := by
        rw [HGA.out, if_pos]
        rw [List.all_eq_true]
        intro c hc
        have := HALL.out c hc
        simp [okV, this.1, this.2]
      obtain ⟨t, ht⟩ : ∃ t : Nat, m = t := ⟨m.toNat, by omega⟩
      subst ht
      have ht1 : 1 ≤ t := by omega
      obtain ⟨i4, hi4, hz4', hs4, hb4'⟩ := info_parts info4B
      have hmk : ∀ w, (Instr.makeSlice 66 (.int .i64 n) (.int .i64 n)).run Tryz.prog w = .ok (.slice (some ⟨w.heap.size, 0, none⟩) n n) (w.alloc (.cells ((List.range n).map (fun _ => Value.bool false)).toArray 4)) := fun w => by
        have := run_make (P := Tryz.prog) w 66 4 i4 (.bool false) Tryz.underlying66 hi4 hz4' .i64 .i64 n n (by omega) (by omega) (by rw [hb4']; omega) (by omega)
        rw [this, Int.toNat_natCast, hs4, made_bool]
      clear hi4 hz4' hs4 hb4'
      clear i4
      obtain ⟨K, HK⟩ := named (cs.map Int.toNat)
      have HKG : Hid (∀ j, j < cs.length → cs.getD j 0 = ((K.getD j 0 : Nat) : Int) ∧ K.getD j 0 < n) := fun j hj => by
        have h1 := HALL.out _ (getD_memI hj)
        rw [← HK.out, nats_getD hj]
        omega
      have HKL : Hid (K.length = cs.length) := by show _ = _; rw [← HK.out, List.length_map]
      have HBW : Hid (Below p w wr) := HB1.out.trans (HBR.out.mono (by omega))
      have HRw := Lib.hid (HR1.out.on HBR.out)
      have HIw : Hid (0 < cs.length → b = some ⟨ix, ox, none⟩ ∧ ix < wr.heap.size ∧ ∀ j, j < cs.length → wr.cell? ⟨ix, ox + j, none⟩ = some (.int .i64 (cs.getD j 0))) := fun h => by
        obtain ⟨h1, h2, h3⟩ := HIX.out h
        exact ⟨h1, Nat.lt_of_lt_of_le h2 hwr, fun j hj => (HBR.out.cell (p := ⟨ix, ox + j, none⟩) h2).trans (h3 j hj)⟩
      obtain ⟨z, hz⟩ : ∃ z, wr.heap.size = z := ⟨_, rfl⟩
      have HT0 : Hid (TbV (wr.alloc (.cells ((List.range n).map (fun _ => Value.bool false)).toArray 4)) z n 4 (fun v => .bool (decide (v ∈ K.take 0)))) := hz ▸ heap_top wr _
      have HBU : Hid (Below z wr (wr.alloc (.cells ((List.range n).map (fun _ => Value.bool false)).toArray 4))) := (Below.refl _ _).alloc (by omega) _
      have hpz2 : p < z := by omega
      have HGr := Lib.hid hgr
      have hpl : (prl l).length ≤ 8192 := Nat.le_trans (prl_len l) hlb
      obtain ⟨i0, hi, hz0, hz1', hz2⟩ := info_parts info41
      clear HIX HR1 HG1 HB1 HJ HM1 HBR hlk hk HGA HGC
      go_wp2_with fail
      generalize hU : wr.alloc (.cells ((List.range n).map (fun _ => Value.bool false)).toArray 4) = U at *
      clear hU hmk c0 c1 hgr
      generalize wr = w2 at *
      go_loopw [11, 13] (fun s11 i wr => ∃ (j : Nat) (av : Option Addr) (cv : Nat) (S : List Pr) (cf : Nat → List Pr), j ≤ cs.length ∧ i = .int .i64 j ∧ s11 = .slice av S.length cv ∧ S.length ≤ j * 8192 ∧ Hid (Held n l t (K.take j) S cf) ∧ Hid (TbV wr z n 4 (fun v => .bool (decide (v ∈ K.take j)))) ∧ Hid (wr.ownsRow (z + 1) 52 2 (.slice av S.length cv) S.length (cellsP S)) ∧ Hid (Below z w2 wr)) (fun _ i _ => cs.length - (intOf i).toNat)
      case atStart => exact ⟨0, none, 0, [], fun _ => [], Nat.zero_le _, rfl, rfl, by simp, ⟨fun c h => by simp at h, fun p => by simp⟩, HT0, World.ownsRow_nil _ _ _ _, HBU⟩
      case round =>
        obtain ⟨j, av, cv, S, cf, hj, rfl, rfl, hSl, HHE, HTR, HOW, HBR⟩ := hrel
        have hzr : z < wr.heap.size := HTR.out.lt
        by_cases hlj : j < cs.length
        · obtain ⟨rfl, hbl0, hat⟩ := HIw.out (by omega)
          have hbl : ix < z := hz ▸ hbl0
          have hlj' : (j : Int) < cs.length := by omega
          have y0 := (HBR.out.cell (p := ⟨ix, ox + j, none⟩) hbl).trans (hat j hlj)
          obtain ⟨hv1, hvn⟩ := HKG.out j hlj
          rw [hv1] at y0
          have HTS : Hid (K.take (j + 1) = K.take j ++ [K.getD j 0]) := take_snocQ (by rw [HKL.out]; exact hlj)
          clear hat hv1
          generalize K.getD j 0 = v at *
          have hvn' : (v : Int) < n := by omega
          have d1 := HTR.out.cell hvn
          have d2 := HTR.out.free v
          have hixz : ix ≠ z := by omega
          by_cases hmem : v ∈ K.take j
          · have hde : decide (v ∈ K.take j) = true := by simpa using hmem
            rw [hde] at d1
            have HH2 : Hid (Held n l t (K.take (j + 1)) S cf) := by rw [HTS.out]; exact HHE.out.again hmem
            have HT2 : Hid (TbV wr z n 4 (fun v => .bool (decide (v ∈ K.take (j + 1))))) := HTR.out.congr (fun u _ => by
              rw [HTS.out]
              congr 2
              simp only [List.mem_append, List.mem_singleton]
              exact propext ⟨.inl, fun h => h.elim id (fun e => e ▸ hmem)⟩)
            clear hmem hde
            go_wp2_with fail
            exact ⟨⟨j + 1, av, cv, S, cf, by omega, by simp, rfl, by omega, HH2, HT2, HOW, HBR⟩, by simp [intOf]; omega⟩
          · have hde : decide (v ∈ K.take j) = false := by simpa using hmem
            rw [hde] at d1
            have HTU := Lib.hid (HTR.out.set v (.bool true))
            have HBV : Hid (Below z w2 (wr.setCell ⟨z, v, none⟩ (.bool true))) := HBR.out.setCell (Nat.le_refl _) _
            have HOV : Hid ((wr.setCell ⟨z, v, none⟩ (.bool true)).ownsRow (z + 1) 52 2 (.slice av S.length cv) S.length (cellsP S)) := ownsRow_setCell_below HOW.out (show z < z + 1 by omega) _
            have HT2 : Hid (TbV (wr.setCell ⟨z, v, none⟩ (.bool true)) z n 4 (fun v => .bool (decide (v ∈ K.take (j + 1))))) := HTU.out.congr (fun u _ => by
              rw [HTS.out]
              by_cases e : u = v
              · subst e; rw [updV_self]; simp
              · rw [updV_ne _ _ e]; simp [e])
            have y1 := (HBV.out.cell (p := ⟨ix, ox + j, none⟩) hbl).trans ((HBR.out.cell (p := ⟨ix, ox + j, none⟩) hbl).symm.trans y0)
            have hgv := (HBV.out.block p (by omega)).trans HGr.out
            obtain ⟨⟨c0, c1⟩, _⟩ := two_cells hgv
            have hzV : z < (wr.setCell ⟨z, v, none⟩ (.bool true)).heap.size := HT2.out.lt
            have HRV : Hid (Arcs (wr.setCell ⟨z, v, none⟩ (.bool true)) a l) := HRw.out.on (by rw [hz]; exact HBV.out)
            clear HTU hde
            go_wp2_with fail
            clear d1 d2 y0
            generalize hX : wr.setCell ⟨z, v, none⟩ (.bool true) = X at *
            clear hX
            have HRA := Lib.hid (raround8_any n v t a l cap X.drew HE.out hvn ht1 (show Arcs X.drew a l from HRV.out))
            have HSZ : Hid (S.length ≤ 16384 * 8192) := Nat.le_trans hSl (Nat.mul_le_mul_right _ (by omega))
            go_region_law (first | (refine step_append_rows rfl (.tmp 77) (.tmp 84) 30 rfl (z + 1) 52 i0 _ 2 16 Tryz.underlying30 hi hz0 hz1' hz2 rfl (by decide) (.slice av S.length cv) S.length (cellsP S) (by simp [Act.eval]) HO5.out X.heap.size v5 xs.length c5 (cellsP xs) (by simp [Act.eval]) HR5.out (cellsP_len xs) (cellsP_one _) (by have := HSZ.out; have := HXL.out; unfold maxLen; omega) (by have := HSZ.out; have := HXL.out; omega) HZ5.out ?_; intro v6 w6 hown6 hgrow6; rw [← cellsP_append] at hown6; obtain ⟨a6, c6, rfl⟩ := own_slice hown6; have HO6 := Lib.hid hown6; have HB6 : Hid (Below z w2 w6) := HB5.out.grown hgrow6 (by have := HZ5.out; omega) (fun k hk => by have := (HO5.out.lt k hk).1; omega); have HT6 : Hid (TbV w6 z n 4 (fun v => .bool (decide (v ∈ K.take (j + 1))))) := HT5.out.same (hgrow6.block z HT5.out.lt (fun e => by have := (HO5.out.lt z e.symm).1; omega)); clear hown6 hgrow6) | (rw [if_pos (by rfl)]; go_simp; go_at_call 39; refine HRA.out.mono ?_; rintro e w5 ⟨v5, c5, xs, rfl, hown5, hci, hb5⟩; have HR5 : Hid (w5.ownsRow X.heap.size 52 2 (.slice v5 xs.length c5) xs.length (cellsP xs)) := hown5; have HO5 : Hid (w5.ownsRow (z + 1) 52 2 (.slice av S.length cv) S.length (cellsP S)) := own_on (w := X.drew) HOV.out hb5; have HZ5 : Hid (z + 1 ≤ w5.heap.size) := Nat.le_trans hzV hb5.size; have HB5 : Hid (Below z w2 w5) := (below_drew HBV.out).trans (hb5.mono (Nat.le_of_lt hzV)); have HT5 : Hid (TbV w5 z n 4 (fun v => .bool (decide (v ∈ K.take (j + 1))))) := TbV.same (w := X.drew) HT2.out (hb5.block z hzV); have HCI := Lib.hid hci; have HXL : Hid (xs.length ≤ 8192) := Nat.le_trans hci.len hpl; clear hown5 hb5 hci))
            all_goals
              have HH2 : Hid (Held n l t (K.take (j + 1)) (S ++ xs) (updL cf v xs)) := by rw [HTS.out]; exact HHE.out.more hmem HCI.out
              go_wp2_with fail
              refine ⟨⟨j + 1, a6, c6, S ++ xs, updL cf v xs, by omega, by simp, by rw [List.length_append], ?_, HH2, HT6, ?_, HB6⟩, by simp [intOf]; omega⟩
              · have := HXL.out
                rw [List.length_append]; omega
              · rw [List.length_append]; exact HO6
        · have hlj' : ¬ (j : Int) < cs.length := by omega
          have HKT : Hid (K.take j = K) := List.take_of_length_le (by rw [HKL.out]; omega)
          rw [HKT.out] at HHE
          have hgv := (HBR.out.block p (by omega)).trans HGr.out
          obtain ⟨⟨c0, c1⟩, _⟩ := two_cells hgv
          have HRr : Hid (Arcs wr a l) := HRw.out.on (by rw [hz]; exact HBR.out)
          have HBP : Hid (Below p w wr) := HBW.out.trans (HBR.out.mono (by omega))
          have HSL : Hid (S.length ≤ 9223372036854775807) := Nat.le_trans hSl (Nat.le_trans (Nat.mul_le_mul_right _ hj) (by omega))
          have HPS : Hid (PrI wr av (S.map toI)) := prs_I (OwnP.prs (B := z + 1) (c := cv) HOW.out)
          go_wp2_with fail
          refine (rall8_any n a l cap wr HE.out HRr.out).mono ?_
          rintro e w6 ⟨v6, c6, rfl, hown6, hb6⟩
          have HB6 : Hid (Below p w w6) := HBP.out.trans (hb6.mono (by omega))
          have HP6 := Lib.hid (HPS.out.on hb6)
          have hz6 : z < w6.heap.size := Nat.lt_of_lt_of_le hzr hb6.size
          obtain ⟨iy, oy, hiy⟩ := (OwnP.prs hown6).get
          have HIY := Lib.hid hiy
          have HMS : Hid (MarksIs n l K t ((prl l).filter (fun p => decide (p ∈ S)))) := ⟨cf, HHE.out.1, by
            congr 1
            funext p
            rw [Bool.eq_iff_iff, decide_eq_true_eq, decide_eq_true_eq]
            exact HHE.out.2 p⟩
          clear hown6 hb6 hiy HPS HHE HTR HOW HBR HBP HRr c0 c1 hgv HKT HT0 HBU HIw HRw hj hlj
          go_wp2_with fail
          generalize hB : w6.heap.size = B at *
          have hpB : p ≤ B := by omega
          go_loopw [14, 16] (fun s14 i wr => ∃ (k : Nat) (au : Option Addr) (cu len : Nat), k ≤ (prl l).length ∧ i = .int .i64 k ∧ s14 = .slice au len cu ∧ Hid ((((prl l).take k).filter (fun p => decide (p ∈ S))).length = len) ∧ Hid (wr.ownsRow B 52 2 (.slice au len cu) len (cellsP (((prl l).take k).filter (fun p => decide (p ∈ S))))) ∧ Hid (Below B w6 wr)) (fun _ i _ => (prl l).length - (intOf i).toNat)
          case atStart => exact ⟨0, none, 0, 0, Nat.zero_le _, rfl, rfl, rfl, World.ownsRow_nil _ _ _ _, Below.refl _ _⟩
          case round =>
            obtain ⟨k, au, cu, len, hk, rfl, rfl, HLN, HOW, HBR⟩ := hrel
            have hpw : B ≤ wr.heap.size := hB ▸ HBR.out.size
            by_cases hlk : k < (prl l).length
            · obtain ⟨rfl, hbl, hat⟩ := HIY.out (by omega)
              have hlk' : (k : Int) < (prl l).length := by omega
              obtain ⟨x0, x1⟩ := hat k hlk
              have y0 := (HBR.out.cell (p := ⟨iy, oy + k * 2, none⟩) hbl).trans x0
              have y1 := (HBR.out.cell (p := ⟨iy, oy + k * 2 + 1, none⟩) hbl).trans x1
              have hlen : len ≤ 8192 := by
                rw [← HLN.out]
                refine Nat.le_trans (List.length_filter_le _ _) ?_
                rw [List.length_take]
                omega
              have HSN := Lib.hid (filter_snocP (f := fun p => decide (p ∈ S)) hlk)
              clear hat x0 x1
              generalize (prl l).getD k Pr.zero = x at *
              have HHS := Lib.hid (rhas_any av (S.map toI) cv x.a x.b wr (by rw [List.length_map]; exact HSL.out) (HP6.out.on (hB ▸ HBR.out)))
              rw [hasB_I, List.length_map] at HHS
              go_wp2_with fail
              refine HHS.out.mono ?_
              rintro e w7 ⟨rfl, hb7⟩
              have hw7 : wr.heap.size ≤ w7.heap.size := hb7.size
              have HO7 : Hid (w7.ownsRow B 52 2 (.slice au len cu) len (cellsP (((prl l).take k).filter (fun p => decide (p ∈ S))))) := own_on HOW.out hb7
              have HB7 : Hid (Below B w6 w7) := HBR.out.trans (hb7.mono hpw)
              have z0 := (hb7.cell (p := ⟨iy, oy + k * 2, none⟩) (Nat.lt_of_lt_of_le hbl hpw)).trans y0
              have z1 := (hb7.cell (p := ⟨iy, oy + k * 2 + 1, none⟩) (Nat.lt_of_lt_of_le hbl hpw)).trans y1
              clear hb7 y0 y1 HHS HOW HBR
              by_cases hmem : x ∈ S
              · rw [decide_eq_true hmem]
                have HE2 : Hid (((prl l).take (k + 1)).filter (fun p => decide (p ∈ S)) = ((prl l).take k).filter (fun p => decide (p ∈ S)) ++ [⟨x.a, x.b⟩]) := by show _ = _; rw [HSN.out, if_pos (by simpa using hmem)]
                have HNW := Lib.hid (news1 w7 x.a x.b)
                have HOW2 := Lib.hid (HO7.out.alloc (.cells #[.int .i64 (x.a : Int), .int .i64 (x.b : Int)] 52))
                have HBS : Hid (B ≤ (w7.alloc (.cells #[.int .i64 (x.a : Int), .int .i64 (x.b : Int)] 52)).heap.size) := by show _ ≤ _; simp; omega
                have HBB : Hid (Below B w6 (w7.alloc (.cells #[.int .i64 (x.a : Int), .int .i64 (x.b : Int)] 52))) := HB7.out.alloc (by omega) _
                have HOL : Hid (∀ b, (Value.slice au len cu).ownBlock = some b → B ≤ b) := fun b hb => (HO7.out.lt b hb).1
                have HCA : Hid (cellsP (((prl l).take k).filter (fun p => decide (p ∈ S))) ++ cellsP [⟨x.a, x.b⟩] = cellsP (((prl l).take (k + 1)).filter (fun p => decide (p ∈ S)))) := by show _ = _; rw [HE2.out, cellsP_append]
                have HL2 : Hid ((((prl l).take (k + 1)).filter (fun p => decide (p ∈ S))).length = len + 1) := by show _ = _; rw [HE2.out, List.length_append, HLN.out]; rfl
                clear hmem
                go_wp2_with (at_builtin; refine wpList_append_own _ rfl (.tmp 100) (.tmp 105) 30 rfl B 52 i0 _ 2 16 Tryz.underlying30 hi hz0 hz1' hz2 rfl (by decide) (.slice au len cu) len (cellsP (((prl l).take k).filter (fun p => decide (p ∈ S)))) rfl HOW2.out ⟨w7.heap.size, 0, none⟩ 1 1 (cellsP [⟨x.a, x.b⟩]) rfl rfl HNW.out (cellsP_one _) (by unfold maxLen; omega) (by omega) HBS.out ?_; intro v8 w8 hown8 hgrow8 hnil8; obtain ⟨g8, c8, hv8, _, _, _, _⟩ := own_shape hown8 (fun e => by have := hnil8.1 e; simp at this); subst hv8; rw [HCA.out] at hown8; have HO8 := Lib.hid hown8; have HB8 := Lib.hid (HBB.out.grown hgrow8 HBS.out (by intro b hb; exact HOL.out b hb)); clear hown8 hgrow8 hnil8)
                exact ⟨⟨k + 1, some ⟨g8, 0, none⟩, c8, len + 1, by omega, by simp, rfl, HL2, HO8, HB8⟩, by simp [intOf]; omega⟩
              · rw [decide_eq_false hmem]
                have HE2 : Hid (((prl l).take (k + 1)).filter (fun p => decide (p ∈ S)) = ((prl l).take k).filter (fun p => decide (p ∈ S))) := by show _ = _; rw [HSN.out, if_neg (by simpa using hmem), List.append_nil]
                clear hmem
                go_wp2_with fail
                exact ⟨⟨k + 1, au, cu, len, by omega, by simp, rfl, by rw [HE2.out]; exact HLN, by rw [HE2.out]; exact HO7, HB7⟩, by simp [intOf]; omega⟩
            · have e0 : (prl l).take k = prl l := List.take_of_length_le (by omega)
              have hlk' : ¬ (k : Int) < (prl l).length := by omega
              rw [e0] at HLN HOW
              clear e0
              go_wp2_with fail
              go_ret2
              refine ⟨au, cu, (prl l).filter (fun p => decide (p ∈ S)), ?_, ?_, ?_, ?_, ?_⟩
              · rw [HLN.out]; rfl
              · show World.ownsRow _ _ _ _ _ _ _
                rw [HLN.out]
                exact own_base HOW.out hpB
              · rw [HK.out]
                exact HMS
              · exact Lib.hid trivial
              · exact HB6.out.trans (HBR.out.mono hpB)
end Go.Proofs.YtpgadcacimjlaaaGreat
