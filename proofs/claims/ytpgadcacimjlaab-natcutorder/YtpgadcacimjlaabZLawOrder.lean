/-
  NatcutOrder holds.
-/
import Derived.Test.YtpgadcacimjlaabZK
import Derived.Test.YtpgadcacimjlaabZJ
import Derived.Deep.RegionLaw
import Derived.Maps.AppendAt
namespace Go.Proofs.Ytpgadcacimjlaab
open Go.RowKit Go.Maps
theorem step_append_own {P : Program} {ops : Array Oper} {o : Oper} {a : Act} {w : World} {K : Act → World → Prop} {Q : Exit → Act → World → Prop} {E : Prop}
    (hg : o.guard = none) (s x : Operand) (t : TypeId) (hop : o.op = Op.call { callee := Callee.builtin Builtin.append, args := #[s, x], argTypes := #[t, t] })
    (base : Nat) (e : TypeId) (i : TypeInfo) (z : Value) (size bytes : Nat) (ht : P.underlying t = some (.slice e)) (hi : P.info? e = some i) (hz : i.zero = some z)
    (hsize : i.size = size) (hby : i.bytes = bytes) (hzs : z.cells.size = size) (hsz : 0 < size)
    (v : Value) (n : Nat) (xs : List Value) (hs : a.eval s = v) (hown : w.ownsRow base e size v n xs)
    (ad : Addr) (m c : Nat) (news : List Value) (hx : a.eval x = .slice (some ad) m c) (hl : news.length = m * size) (hnews : ∀ j u, news[j]? = some u → w.cell? (ad.add j) = some u) (h1 : ∀ u ∈ news, u.oneCell' = true)
    (h63 : n + m ≤ maxLen) (hbytes : (n + m) * bytes ≤ 140737488355328) (hbase : base ≤ w.heap.size)
    (hK : ∀ v' w', w'.ownsRow base e size v' (n + m) (xs ++ news) → w.grownBy w' v.ownBlock → K (a.put o.dst v') w') :
    if Region.wanted o (yielded ops a.tmps) = true then Oper.wp P o a w K Q else E := by
  have hw : Region.wanted o (yielded ops a.tmps) = true := by simp [Region.wanted, hg]
  rw [if_pos hw]
  obtain ⟨v', w', hrun, r1, r2, _, _⟩ := run_append_own_at (P := P) w base t o.type e i z size bytes ht hi hz hsize hby hzs hsz v n xs hown ad m c news hl hnews h1 h63 hbytes hbase
  unfold Oper.wp
  simp [execOp, hop, resolve, invoke, builtin, hs, hx, hrun, Result.andThen]
  exact hK v' w' r1 r2
theorem cellsI_app (a b : List Int) : cellsI (a ++ b) = cellsI a ++ cellsI b := by simp [cellsI]
theorem news2I (w : World) (x : Int) : ∀ j u, (cellsI [x, x])[j]? = some u → (w.alloc (.cells #[.int .i64 x, .int .i64 x] 3)).cell? ((⟨w.heap.size, 0, none⟩ : Addr).add j) = some u := by
  intro j u hu
  have h := heap_top w (.cells #[.int .i64 x, .int .i64 x] 3)
  rw [Go.WideShapes.add_plain, Nat.zero_add]
  generalize w.alloc (.cells #[.int .i64 x, .int .i64 x] 3) = W at *
  generalize w.heap.size = b at *
  match j, hu with
  | 0, hu => simp [cellsI] at hu; subst hu; simp [World.cell?, h]
  | 1, hu => simp [cellsI] at hu; subst hu; simp [World.cell?, h]
  | j + 2, hu => simp [cellsI] at hu
theorem one_I (xs : List Int) : ∀ u ∈ cellsI xs, u.oneCell' = true := by
  intro u hu
  unfold cellsI at hu
  obtain ⟨x, _, rfl⟩ := List.mem_map.1 hu
  rfl
set_option maxRecDepth 100000 in
set_option maxHeartbeats 6400000 in
theorem order_any (N m : Int) (a : Option Addr) (l : List A) (cap : Nat) (b : Option Addr) (cs : List Int) (bc : Nat) (w : World) (hl : l.length ≤ 9223372036854775807) (hml : cs.length ≤ 9223372036854775807) (hr : Arcs w a l) (hm : Ints w b cs) :
    Calls Try.prog 3 #[.agg #[.int .i64 N, .slice a l.length cap], .slice b cs.length bc, .int .i64 m] w fun e w' => e = .returned (.bool true) ∧ Below w.heap.size w w' := by
  have hb0 : Below w.heap.size w (w.alloc (.cells #[.int .i64 N, .slice a l.length cap] 24)) := (Below.refl _ _).alloc (Nat.le_refl _) _
  have hg := heap_top w (.cells #[.int .i64 N, .slice a l.length cap] 24)
  have HR := Lib.hid (hr.on hb0)
  have HM := Lib.hid (hm.on hb0)
  have hwz : w.heap.size ≤ (w.alloc (.cells #[.int .i64 N, .slice a l.length cap] 24)).heap.size := hb0.size
  have HB0 := Lib.hid hb0
  clear hb0 hr hm
  generalize hp : w.heap.size = p at *
  go_enter Try.func3, Try.ntmps3
  go_wp2_with fail
  generalize hW : w.alloc (.cells #[.int .i64 N, .slice a l.length cap] 24) = W at *
  clear hW
  have hpz : p < W.heap.size := lt_of_block hg
  refine (works_any W).mono ?_
  rintro e w1 ⟨rfl, hb1⟩
  have HB1 : Hid (Below p w w1) := HB0.out.trans (hb1.mono hwz)
  have hg1 := (hb1.block p hpz).trans hg
  obtain ⟨⟨c0, c1'⟩, _⟩ := two_cells hg1
  have HR1 := Lib.hid (HR.out.on hb1)
  have HM1 := Lib.hid (HM.out.on hb1)
  have hz1 : p < w1.heap.size := lt_of_block hg1
  clear hb1 HR hg hwz HM
  go_wp2_with fail
  refine (large_any N a l.length cap w1 hl).mono ?_
  rintro e w2 ⟨rfl, hb2⟩
  have HB2 : Hid (Below p w w2) := HB1.out.trans (hb2.mono (by omega))
  have hg2 := (hb2.block p hz1).trans hg1
  obtain ⟨⟨d0, d1'⟩, _⟩ := two_cells hg2
  have HR2 := Lib.hid (HR1.out.on hb2)
  have HM2 := Lib.hid (HM1.out.on hb2)
  have hz2 : p < w2.heap.size := lt_of_block hg2
  clear hb2 HR1 HM1 hg1 c0 c1'
  generalize hbig : decide (100 < N ∨ 400 < l.length) = big at *
  clear hbig
  cases big
  case true =>
    go_wp2_with fail
    go_ret
    exact ⟨rfl, HB2.out⟩
  case false =>
    by_cases h8 : 8 < cs.length
    · have h8' : (8 : Int) < cs.length := by omega
      go_wp2_with fail
      go_ret
      exact ⟨rfl, HB2.out⟩
    have h8' : ¬ (8 : Int) < cs.length := by omega
    go_wp2_with fail
    refine (marks_any N m a l cap b cs bc w2 hl hml HR2.out HM2.out).mono ?_
    rintro e w3 ⟨v3, c3, xs, rfl, hown3, h31, h32, hb3⟩
    have HB3 : Hid (Below p w w3) := HB2.out.trans (hb3.mono (by omega))
    have hg3 := (hb3.block p hz2).trans hg2
    have HG3 := Lib.hid hg3
    have HR3 := Lib.hid (HR2.out.on hb3)
    have HM3 := Lib.hid (HM2.out.on hb3)
    have HP3 := Lib.hid (OwnP.prs hown3)
    have hcap3 := own_cap hown3
    have hz3 : p < w3.heap.size := lt_of_block hg3
    obtain ⟨G, HG⟩ := named (maE N m l cs)
    rw [HG.out] at h31 h32 ⊢
    obtain ⟨ix, ox, hix⟩ := HM3.out.get
    have HIX := Lib.hid hix
    obtain ⟨i3, hi3, hzz3, hs3, hby3⟩ := info_parts info3
    have hlm : ((cs.length : Int) - 1) = (cs.length : Int) - 1 := rfl
    clear hb3 hown3 HR2 HM2 hg2 d0 d1' hg3 hix hlm
    generalize hQ : w3.heap.size = q at *
    go_wp2_with fail
    go_loopw [9, 10] (fun s9 i wr => ∃ (k : Nat) (av : Option Addr) (cv len : Nat), k ≤ cs.length ∧ i = .int .i64 ((k : Int) - 1) ∧ s9 = .slice av len cv ∧ Hid ((bkk cs k).length = len) ∧ Hid (wr.ownsRow q 3 1 (.slice av len cv) len (cellsI (bkk cs k))) ∧ Hid (Below q w3 wr)) (fun _ i _ => ((intOf i) + 1).toNat)
    case atStart => exact ⟨cs.length, none, 0, 0, Nat.le_refl _, rfl, rfl, by show _ = _; rw [bkk_end]; rfl, by rw [bkk_end]; exact World.ownsRow_nil _ _ _ _, Below.refl _ _⟩
    case round =>
      obtain ⟨k, av, cv, len, hk, rfl, rfl, HLN, HOW, HBR⟩ := hrel
      have hqw : q ≤ wr.heap.size := hQ ▸ HBR.out.size
      have hlen : len ≤ 16 := by rw [← HLN.out]; exact Nat.le_trans (bkk_len cs k) (by omega)
      by_cases hk0 : 0 < k
      · obtain ⟨j, rfl⟩ : ∃ j, k = j + 1 := ⟨k - 1, by omega⟩
        obtain ⟨rfl, hbl, hat⟩ := HIX.out (by omega)
        have hj1 : ((j + 1 : Nat) : Int) - 1 = (j : Int) := by omega
        have hj2 : (0 : Int) ≤ j := by omega
        have hj3 : (j : Int) < cs.length := by omega
        have y0 := (HBR.out.cell (p := ⟨ix, ox + j, none⟩) hbl).trans (hat j (by omega))
        have HST := Lib.hid (bkk_step (cs := cs) (k := j) (by omega))
        clear hat
        generalize cs.getD j 0 = x at *
        rw [hj1]
        have HNW : Hid (∀ j u, (cellsI [x, x])[j]? = some u → ((wr.drew).alloc (.cells #[.int .i64 x, .int .i64 x] 3)).cell? ((⟨wr.heap.size, 0, none⟩ : Addr).add j) = some u) := news2I wr.drew x
        have HOW2 : Hid (((wr.drew).alloc (.cells #[.int .i64 x, .int .i64 x] 3)).ownsRow q 3 1 (.slice av len cv) len (cellsI (bkk cs (j + 1)))) := World.ownsRow.alloc (w := wr.drew) HOW.out _
        have HBS : Hid (q ≤ ((wr.drew).alloc (.cells #[.int .i64 x, .int .i64 x] 3)).heap.size) := by show q ≤ _; rw [World.size_alloc]; show q ≤ wr.heap.size + 1; omega
        have HBB : Hid (Below q w3 ((wr.drew).alloc (.cells #[.int .i64 x, .int .i64 x] 3))) := (below_drew HBR.out).alloc hqw _
        have HOL : Hid (∀ b, (Value.slice av len cv).ownBlock = some b → q ≤ b) := fun b hb => (HOW.out.lt b hb).1
        have HCA : Hid (cellsI (bkk cs (j + 1)) ++ cellsI [x, x] = cellsI (bkk cs j)) := by show _ = _; rw [HST.out, cellsI_app]
        have HL2 : Hid ((bkk cs j).length = len + 2) := by show _ = _; rw [HST.out, List.length_append, HLN.out]; rfl
        go_wp2_with fail
        go_region_law (refine step_append_own rfl (.tmp 46) (.tmp 55) 25 rfl q 3 i3 _ 1 8 Try.underlying25 hi3 hzz3 hs3 hby3 rfl (by decide) (.slice av len cv) len (cellsI (bkk cs (j + 1))) (by simp [Act.eval]) HOW2.out ⟨wr.heap.size, 0, none⟩ 2 2 (cellsI [x, x]) (by simp [Act.eval]) rfl HNW.out (one_I _) (by unfold maxLen; omega) (by omega) HBS.out ?_; intro v6 w6 hown6 hgrow6; rw [HCA.out] at hown6; obtain ⟨a6, c6, rfl⟩ := own_slice hown6; have HO6 := Lib.hid hown6; have HB6 := Lib.hid (HBB.out.grown hgrow6 HBS.out (by intro b hb; exact HOL.out b hb)); clear hown6 hgrow6)
        all_goals
          go_wp2_with fail
          exact ⟨⟨j, a6, c6, len + 2, by omega, by simp, rfl, HL2, HO6, HB6⟩, by simp [intOf]⟩
      · obtain rfl : k = 0 := by omega
        have hneg : ¬ (0 : Int) ≤ -1 := by omega
        have e0 : ((0 : Nat) : Int) - 1 = -1 := by omega
        rw [e0]
        have HBW : Hid (Below p w wr) := HB3.out.trans (HBR.out.mono (by omega))
        have hgr := (HBR.out.block p (by omega)).trans HG3.out
        obtain ⟨⟨c0, c1⟩, _⟩ := two_cells hgr
        have HRr : Hid (Arcs wr a l) := HR3.out.on (by rw [hQ]; exact HBR.out)
        have HPr : Hid (Prs wr v3 xs) := HP3.out.on (by rw [hQ]; exact HBR.out)
        have HIr : Hid (Ints wr av (bkk cs 0)) := by
          have h := HOW.out
          rw [← HLN.out] at h
          exact own_intsI h
        have HME : Hid (maE N m l (bkk cs 0) = G) := by
          show _ = _
          rw [← HG.out]
          exact maE_mem (fun c => bkk_mem) (by have := bkk_len cs 0; omega) (by omega)
        have HMK := Lib.hid (marks_any N m a l cap av (bkk cs 0) cv wr hl (by have := bkk_len cs 0; omega) HRr.out HIr.out)
        rw [HME.out, HLN.out] at HMK
        clear hk hk0 e0 HOW
        go_wp2_with fail
        refine HMK.out.mono ?_
        rintro e w4 ⟨v4, c4, ys, rfl, hown4, h41, h42, hb4⟩
        obtain rfl : ys = xs := by
          by_cases hG0 : G = 0
          · have hM := HG.out.trans hG0
            unfold maE at hM
            by_cases hC : chkE N l = 0
            · rw [if_neg (by rw [hC]; omega)] at hM
              obtain ⟨_, hm1, hm2, hall⟩ := ceE_zero hM
              have hN0 := (chk_zero hC).1
              have hNn : ((N.toNat : Nat) : Int) = N := by omega
              refine (MarksIs.same (n := N.toNat) (by rw [hNn]; exact hC) (fun c hc => ?_) (fun c => ?_) (by omega) (h31.out hG0) (h41.out hG0)).symm
              · obtain ⟨d, hd, rfl⟩ := List.mem_map.1 hc
                have := hall d hd
                omega
              · rw [List.mem_map, List.mem_map]
                exact ⟨fun ⟨d, h1, h2⟩ => ⟨d, bkk_mem.2 h1, h2⟩, fun ⟨d, h1, h2⟩ => ⟨d, bkk_mem.1 h1, h2⟩⟩
            · rw [if_pos hC] at hM
              exact absurd hM hC
          · rw [h42.out hG0, h32.out hG0]
        have HB4 : Hid (Below p w w4) := HBW.out.trans (hb4.mono (by omega))
        have HP4 := Lib.hid (HPr.out.on hb4)
        have HQ4 := Lib.hid (OwnP.prs hown4)
        have HR4 := Lib.hid (HRr.out.on hb4)
        have hg4 := (hb4.block p (by omega)).trans hgr
        have hyl : ys.length ≤ 9223372036854775807 := Nat.le_trans hcap3.1 hcap3.2
        have HM4 : Hid (Ints w4 b cs) := (HM3.out.on (w' := wr) (by rw [hQ]; exact HBR.out)).on hb4
        have hGG : (G != G) = false := by simp
        have hz4 : p < w4.heap.size := lt_of_block hg4
        clear hown4 hb4 h41 h42 HMK HPr HRr HIr c0 c1 hgr HME HLN HIX HM3 HR3 HP3
        go_wp2_with fail
        refine (samePr_any v3 v4 c3 c4 ys w4 hyl HP4.out HQ4.out).mono ?_
        rintro e w5 ⟨rfl, hb5⟩
        have HB5 : Hid (Below p w w5) := HB4.out.trans (hb5.mono (by omega))
        have HP5 := Lib.hid (HP4.out.on hb5)
        have HR5 := Lib.hid (HR4.out.on hb5)
        have HM5 := Lib.hid (HM4.out.on hb5)
        have hg5 := (hb5.block p hz4).trans hg4
        have HG5 := Lib.hid hg5
        have hz5 : p < w5.heap.size := lt_of_block hg5
        clear hb5 HP4 HQ4 HR4 HM4 hg4 hg5
        by_cases hG : G ≠ 0
        · have e1 : (G != 0) = true := by simpa using hG
          obtain rfl : ys = [] := h32.out hG
          go_wp2_with fail
          go_ret
          exact ⟨rfl, HB5.out⟩
        obtain rfl : G = 0 := by omega
        clear hG
        have hM := HG.out
        unfold maE at hM
        by_cases hC : ¬ chkE N l = 0
        · rw [if_pos hC] at hM
          exact absurd hM hC
        have hC : chkE N l = 0 := by simpa using hC
        rw [if_neg (by rw [hC]; omega)] at hM
        obtain ⟨_, hm1, hm2, hall⟩ := ceE_zero hM
        obtain ⟨n, hn⟩ : ∃ n : Nat, N = n := ⟨N.toNat, by have := (chk_zero hC).1; omega⟩
        subst hn
        obtain ⟨t, ht⟩ : ∃ t : Nat, m = t := ⟨m.toNat, by omega⟩
        subst ht
        obtain ⟨h1n, hn, hlb, hoa⟩ := chk_zero hC
        obtain ⟨cf, hcf, hys⟩ := h31.out rfl
        rw [Int.toNat_natCast, Int.toNat_natCast] at hcf
        have HCF := Lib.hid hcf
        have HYS := Lib.hid hys
        have HALL := Lib.hid hall
        have HC := Lib.hid hC
        have hpl : (prl l).length ≤ 8192 := Nat.le_trans (prl_len l) hlb
        have HSM : Hid (∀ q, q ∈ prl l → Sm q) := fun q hq => by
          have := prl_lt hoa hq
          exact ⟨by omega, by omega⟩
        have HND : Hid ((prl l).Nodup) := (prl_sorted l).imp (fun h e => by subst e; unfold ltP at h; omega)
        obtain ⟨K, HK⟩ := named (cs.map Int.toNat)
        rw [HK.out] at HCF HYS
        have HKL : Hid (K.length = cs.length) := by show _ = _; rw [← HK.out, List.length_map]
        have HKG : Hid (∀ j, j < cs.length → cs.getD j 0 = ((K.getD j 0 : Nat) : Int) ∧ K.getD j 0 < n ∧ K.getD j 0 ∈ K) := fun j hj => by
          have hmem : cs.getD j 0 ∈ cs := by simp [List.getD, List.getElem?_eq_getElem hj]
          have h1 := HALL.out _ hmem
          have h2 : K.getD j 0 = (cs.getD j 0).toNat := by rw [← HK.out]; simp [List.getD, hj]
          have h3 : (cs.getD j 0).toNat ∈ K := by rw [← HK.out]; exact List.mem_map.2 ⟨_, hmem, rfl⟩
          rw [h2]
          exact ⟨by omega, by omega, h3⟩
        clear hM hall hcf hys hC hoa h31 h32 HG
        obtain ⟨z, hz⟩ : ∃ z, w5.heap.size = z := ⟨_, rfl⟩
        have HM6 : Hid (MapB (w5.alloc (.map #[] 0)) z 0 []) := hz ▸ MapB.made w5
        have HB6 : Hid (Below z w5 (w5.alloc (.map #[] 0))) := (Below.refl _ _).alloc (by omega) _
        obtain ⟨ix, ox, hix⟩ := HM5.out.get
        have HIX := Lib.hid hix
        have hmm := @run_makeMap Try.prog
        clear hix HM5
        go_wp2_with fail
        generalize hU : w5.alloc (.map #[] 0) = U at *
        clear hU hmm
        go_loopw [13, 81] (fun s13 i wr => ∃ (j nn : Nat) (T : List Pr), j ≤ cs.length ∧ i = .int .i64 j ∧ s13 = .int .i64 T.length ∧ nn ≤ j * 8192 ∧ T.length ≤ 8192 ∧ Hid (T.Nodup ∧ (∀ p, p ∈ T ↔ ∃ c, c ∈ K.take j ∧ p ∈ cf c)) ∧ Hid (MapB wr z nn T) ∧ Hid (Below z w5 wr)) (fun _ i _ => cs.length - (intOf i).toNat)
        case atStart => exact ⟨0, 0, [], Nat.zero_le _, rfl, rfl, by omega, by simp, ⟨List.nodup_nil, fun p => by simp⟩, HM6, HB6⟩
        case round =>
          obtain ⟨j, nn, T, hj, rfl, rfl, hnn, hTl, HT, HMR, HBR⟩ := hrel
          have hzr : z < wr.heap.size := HMR.out.lt
          by_cases hlj : j < cs.length
          · obtain ⟨rfl, hbl0, hat⟩ := HIX.out (by omega)
            have hlj' : (j : Int) < cs.length := by omega
            have hbl : ix < z := hz ▸ hbl0
            have y0 := (HBR.out.cell (p := ⟨ix, ox + j, none⟩) hbl).trans (hat j hlj)
            obtain ⟨hv1, hvn, hvK⟩ := HKG.out j hlj
            rw [hv1] at y0
            have HTS : Hid (K.take (j + 1) = K.take j ++ [K.getD j 0]) := by
              show _ = _
              have hjK : j < K.length := by rw [HKL.out]; exact hlj
              rw [List.take_succ_eq_append_getElem hjK]
              simp [List.getD, List.getElem?_eq_getElem hjK]
            have HCV := Lib.hid (HCF.out _ hvK)
            clear hat hv1 hvK
            generalize K.getD j 0 = v at *
            have HGC : Hid (gchk n v t l = 0) := gchk_ok HC.out hvn (by omega) (by omega)
            have hgr := (HBR.out.block p (by omega)).trans HG5.out
            obtain ⟨⟨c0, c1⟩, _⟩ := two_cells hgr
            have HRr : Hid (Arcs wr a l) := HR5.out.on (by rw [hz]; exact HBR.out)
            have HCU := Lib.hid (ncut_any n v t a l cap wr hl HRr.out)
            rw [HGC.out] at HCU
            go_wp2_with fail
            refine HCU.out.mono ?_
            rintro e w6 ⟨v6, c6, cl, rfl, hown6, h61, _, hb6⟩
            have hci := h61.out trivial
            rw [Int.toNat_natCast, Int.toNat_natCast, Int.toNat_natCast] at hci
            obtain rfl : cl = cf v := CutIs.one (by omega) hlb hvn (by omega) hci HCV.out
            have HM7 := Lib.hid (HMR.out.on hb6)
            have HB7 : Hid (Below z w5 w6) := HBR.out.trans (hb6.mono (by omega))
            have HSB := Lib.hid hci.sub
            have hcl : (cf v).length ≤ 8192 := Nat.le_trans hci.len hpl
            obtain ⟨iy, oy, hiy⟩ : ∃ b o, 0 < (cf v).length → v6 = some ⟨b, o, none⟩ ∧ (b < w6.heap.size ∧ b ≠ z) ∧ ∀ j, j < (cf v).length → ((cf v).getD j Pr.zero).at w6 b (o + j * 2) := by
              rcases OwnP.prs hown6 with h | ⟨b, o, h1, h2, h3⟩
              · exact ⟨0, 0, fun h0 => absurd h0 (by rw [h]; simp)⟩
              · refine ⟨b, o, fun _ => ⟨h1, ⟨h2, ?_⟩, h3⟩⟩
                have h4 := (World.ownsRow.lt hown6 b (by rw [h1]; rfl)).1
                omega
            have HIY := Lib.hid hiy
            have hz6 : z < w6.heap.size := HM7.out.lt
            clear hown6 h61 hb6 hci hiy HCU HRr c0 c1 hgr HMR HBR HCV y0
            generalize hF : cf v = F at *
            have HFV := Lib.hid hF
            clear hF
            go_wp2_with fail
            go_loopw [13, 96] (fun s13 i wx => ∃ (k mm : Nat) (T' : List Pr), k ≤ F.length ∧ i = .int .i64 k ∧ s13 = .int .i64 T'.length ∧ mm ≤ nn + k ∧ T'.length ≤ 8192 ∧ Hid (T'.Nodup ∧ (∀ p, p ∈ T' → p ∈ prl l) ∧ (∀ p, p ∈ T' ↔ p ∈ T ∨ p ∈ F.take k)) ∧ Hid (MapB wx z mm T') ∧ Hid (Fr (fun b => b = z) w6 wx)) (fun _ i _ => F.length - (intOf i).toNat)
            case atStart => exact ⟨0, nn, T, Nat.zero_le _, rfl, rfl, by omega, hTl, ⟨HT.out.1, fun p hp => by
                obtain ⟨c, h1, h2⟩ := (HT.out.2 p).1 hp
                exact (HCF.out c (List.mem_of_mem_take h1)).sub p h2, fun p => by simp⟩, HM7, Fr.refl _ _⟩
            case round =>
              obtain ⟨k, mm, T', hk, rfl, rfl, hmm, hTl', HT', HMX, HFX⟩ := hrel
              by_cases hlk : k < F.length
              · obtain ⟨rfl, ⟨hyl', hyz⟩, hat⟩ := HIY.out (by omega)
                have hlk' : (k : Int) < F.length := by omega
                obtain ⟨x0, x1⟩ := hat k hlk
                have y0 := cell_fr x0 HFX.out hyz
                have y1 := cell_fr x1 HFX.out hyz
                have HXP := Lib.hid (HSB.out _ (getD_memP hlk))
                have HSX := Lib.hid (HSM.out _ HXP.out)
                have HTK := Lib.hid (take_snocP hlk)
                clear hat x0 x1
                generalize F.getD k Pr.zero = x at *
                obtain ⟨⟨b0, b1⟩, _⟩ := two_cells (heap_top wr (.cells #[.int .i64 (x.a : Int), .int .i64 (x.b : Int)] 36))
                obtain ⟨D, hown, hkey⟩ := HMX.out
                have HOW := Lib.hid (hown.alloc (.cells #[.int .i64 (x.a : Int), .int .i64 (x.b : Int)] 36))
                have HPU := Lib.hid (MapB.put hown.isMap hkey HSX.out)
                have HFA : Hid (Fr (fun b => b = z) w6 (wr.alloc (.cells #[.int .i64 (x.a : Int), .int .i64 (x.b : Int)] 36))) := HFX.out.alloc _
                have HKX := Lib.hid HSX.out.key
                have HAK := Lib.hid (hkey x HSX.out)
                have hmm' : mm ≤ 1000000 := by omega
                have hTi : (T'.length : Int) ≤ 8192 := by omega
                clear hown hkey HMX
                by_cases hmem : x ∈ T'
                · rw [decide_eq_true hmem] at HAK
                  have HMB : Hid (∀ q, q ∈ T' ++ [x] ↔ q ∈ T') := fun q => by
                    simp only [List.mem_append, List.mem_singleton]
                    exact ⟨fun h => h.elim id (fun e => e ▸ hmem), .inl⟩
                  have HT2 : Hid (T'.Nodup ∧ (∀ p, p ∈ T' → p ∈ prl l) ∧ (∀ p, p ∈ T' ↔ p ∈ T ∨ p ∈ F.take (k + 1))) := ⟨HT'.out.1, HT'.out.2.1, fun q => by
                    rw [HTK.out, List.mem_append, List.mem_singleton, HT'.out.2.2 q]
                    constructor
                    · rintro (h | h)
                      · exact .inl h
                      · exact .inr (.inl h)
                    · rintro (h | h | h)
                      · exact .inl h
                      · exact .inr h
                      · subst h; exact (HT'.out.2.2 q).1 hmem⟩
                  clear hmem
                  go_wp2_with (first | (at_lookup; refine wpList_lookup_own_bool _ rfl _ _ 33 rfl 36 4 lawP Try.underlying33 Try.underlying4 (zeroB _) z mm D rfl HOW.out _ (kP x) rfl HKX.out ?_; intro c hat; rw [HAK.out] at hat; obtain rfl : c = true := (by injection hat with h; injection h with h; exact h.symm)) | (at_mapUpdate; refine wpList_mapUpdate_own _ rfl _ _ _ 33 rfl 36 4 lawP Try.underlying33 (plainElem (H := Unit) Try.prog 4) z mm D rfl HOW.out (by unfold maxLen; omega) _ _ (kP x) rfl rfl HKX.out (.lit (.bool true)) [] (plainElem_bool Try.underlying4 true) ?_; intro w8 hown8 hgrow8; have HM8 : Hid (MapB w8 z (mm + 1) T') := MapB.congr ⟨_, hown8, HPU.out⟩ HMB.out; have HF8 : Hid (Fr (fun b => b = z) w6 w8) := HFA.out.trans (fr_grown hgrow8); clear hown8 hgrow8))
                  exact ⟨⟨k + 1, mm + 1, T', by omega, by simp, rfl, by omega, hTl', HT2, HM8, HF8⟩, by simp [intOf]; omega⟩
                · rw [decide_eq_false hmem] at HAK
                  have HND2 : Hid ((T' ++ [x]).Nodup) := List.nodup_append.2 ⟨HT'.out.1, by simp, fun q hq r hr e => by
                    rw [List.mem_singleton] at hr
                    exact hmem (hr ▸ e ▸ hq)⟩
                  have HSU : Hid (∀ p, p ∈ T' ++ [x] → p ∈ prl l) := fun q hq => by
                    rcases List.mem_append.1 hq with h | h
                    · exact HT'.out.2.1 q h
                    · rw [List.mem_singleton] at h; rw [h]; exact HXP.out
                  have HT2 : Hid ((T' ++ [x]).Nodup ∧ (∀ p, p ∈ T' ++ [x] → p ∈ prl l) ∧ (∀ p, p ∈ T' ++ [x] ↔ p ∈ T ∨ p ∈ F.take (k + 1))) := ⟨HND2.out, HSU.out, fun q => by
                    rw [HTK.out, List.mem_append, List.mem_append, HT'.out.2.2 q]
                    exact or_assoc⟩
                  have HL2 : Hid ((T' ++ [x]).length ≤ 8192) := Nat.le_trans (nodup_len HND2.out HND.out HSU.out) hpl
                  have HLE : Hid ((T' ++ [x]).length = T'.length + 1) := by show _ = _; rw [List.length_append]; rfl
                  clear hmem
                  go_wp2_with (first | (at_lookup; refine wpList_lookup_own_bool _ rfl _ _ 33 rfl 36 4 lawP Try.underlying33 Try.underlying4 (zeroB _) z mm D rfl HOW.out _ (kP x) rfl HKX.out ?_; intro c hat; rw [HAK.out] at hat; obtain rfl : c = false := (by injection hat with h; injection h with h; exact h.symm)) | (at_mapUpdate; refine wpList_mapUpdate_own _ rfl _ _ _ 33 rfl 36 4 lawP Try.underlying33 (plainElem (H := Unit) Try.prog 4) z mm D rfl HOW.out (by unfold maxLen; omega) _ _ (kP x) rfl rfl HKX.out (.lit (.bool true)) [] (plainElem_bool Try.underlying4 true) ?_; intro w8 hown8 hgrow8; have HM8 : Hid (MapB w8 z (mm + 1) (T' ++ [x])) := ⟨_, hown8, HPU.out⟩; have HF8 : Hid (Fr (fun b => b = z) w6 w8) := HFA.out.trans (fr_grown hgrow8); clear hown8 hgrow8))
                  exact ⟨⟨k + 1, mm + 1, T' ++ [x], by omega, by simp, by rw [HLE.out]; simp, by omega, HL2.out, HT2, HM8, HF8⟩, by simp [intOf]; omega⟩
              · have hlk' : ¬ (k : Int) < F.length := by omega
                have HFT : Hid (F.take k = F) := List.take_of_length_le (by omega)
                have HTN : Hid (T'.Nodup ∧ (∀ p, p ∈ T' ↔ ∃ c, c ∈ K.take (j + 1) ∧ p ∈ cf c)) := ⟨HT'.out.1, fun q => by
                  rw [HT'.out.2.2 q, HFT.out, HT.out.2 q, HTS.out]
                  constructor
                  · rintro (⟨c, h1, h2⟩ | h)
                    · exact ⟨c, List.mem_append.2 (.inl h1), h2⟩
                    · exact ⟨v, List.mem_append.2 (.inr (by simp)), HFV.out ▸ h⟩
                  · rintro ⟨c, h1, h2⟩
                    rcases List.mem_append.1 h1 with h1 | h1
                    · exact .inl ⟨c, h1, h2⟩
                    · rw [List.mem_singleton] at h1; subst h1; exact .inr (HFV.out ▸ h2)⟩
                have HBX : Hid (Below z w5 wr) := HB7.out.trans (HFX.out.below (B := z) (by omega) (fun b e => by have e : b = z := e; omega))
                go_wp2_with fail
                exact ⟨⟨j + 1, mm, T', by omega, by simp, rfl, by omega, hTl', HTN, HMX, HBX⟩, by simp [intOf]; omega⟩
          · have hlj' : ¬ (j : Int) < cs.length := by omega
            have HKT : Hid (K.take j = K) := List.take_of_length_le (by rw [HKL.out]; omega)
            rw [HKT.out] at HT
            have HYT : Hid (∀ q, q ∈ ys ↔ q ∈ T) := fun q => by
              rw [HYS.out, List.mem_filter, decide_eq_true_eq, HT.out.2 q]
              refine ⟨fun h => h.2, fun h => ⟨?_, h⟩⟩
              obtain ⟨c, h1, h2⟩ := h
              exact (HCF.out c h1).sub q h2
            have HYN : Hid (ys.Nodup) := by rw [HYS.out]; exact HND.out.filter _
            have HEQ : Hid (T.length = ys.length) := Nat.le_antisymm (nodup_len HT.out.1 HYN.out (fun q hq => (HYT.out q).2 hq)) (nodup_len HYN.out HT.out.1 (fun q hq => (HYT.out q).1 hq))
            have HYP : Hid (∀ q, q ∈ ys → q ∈ prl l) := fun q hq => by rw [HYS.out] at hq; exact (List.mem_filter.1 hq).1
            obtain ⟨iy, oy, hiy⟩ := HP5.out.get
            have HIY := Lib.hid hiy
            have hyl8 : ys.length ≤ 8192 := by rw [← HEQ.out]; exact hTl
            have HB0' : Hid (Below z w5 wr) := HBR
            clear hiy HT HKT HKG HIX hlj hj
            generalize hq9 : wr.heap.size = q9 at *
            generalize wr = w9 at *
            go_wp2_with fail
            go_loopw [112] (fun i wx => ∃ (k : Nat), k ≤ ys.length ∧ i = .int .i64 k ∧ Hid (Below q9 w9 wx)) (fun i _ => ys.length - (intOf i).toNat)
            case atStart => exact ⟨0, Nat.zero_le _, rfl, Below.refl _ _⟩
            case round =>
              obtain ⟨k, hk, rfl, HBX⟩ := hrel
              by_cases hlk : k < ys.length
              · obtain ⟨rfl, hbl, hat⟩ := HIY.out (by omega)
                have hlk' : (k : Int) < ys.length := by omega
                obtain ⟨x0, x1⟩ := hat k hlk
                have hblz : iy < z := hz ▸ hbl
                have y0 := (HBX.out.cell (p := ⟨iy, oy + k * 2, none⟩) (Nat.lt_trans hblz hzr)).trans ((HB0'.out.cell (p := ⟨iy, oy + k * 2, none⟩) hblz).trans x0)
                have y1 := (HBX.out.cell (p := ⟨iy, oy + k * 2 + 1, none⟩) (Nat.lt_trans hblz hzr)).trans ((HB0'.out.cell (p := ⟨iy, oy + k * 2 + 1, none⟩) hblz).trans x1)
                have HXY := Lib.hid (getD_memP hlk)
                clear hat x0 x1
                generalize ys.getD k Pr.zero = x at *
                have HSX := Lib.hid (HSM.out _ (HYP.out x HXY.out))
                obtain ⟨⟨b0, b1⟩, _⟩ := two_cells (heap_top wr (.cells #[.int .i64 (x.a : Int), .int .i64 (x.b : Int)] 36))
                obtain ⟨D, hown, hkey⟩ := HMR.out.on (by rw [hq9]; exact HBX.out)
                have HOW := Lib.hid (hown.alloc (.cells #[.int .i64 (x.a : Int), .int .i64 (x.b : Int)] 36))
                have HKX := Lib.hid HSX.out.key
                have HAK := Lib.hid (hkey x HSX.out)
                rw [decide_eq_true ((HYT.out x).1 HXY.out)] at HAK
                have HBA : Hid (Below q9 w9 (wr.alloc (.cells #[.int .i64 (x.a : Int), .int .i64 (x.b : Int)] 36))) := HBX.out.alloc (by have := HBX.out.size; omega) _
                clear hown hkey
                go_wp2_with (at_lookup; refine wpList_lookup_own_bool _ rfl _ _ 33 rfl 36 4 lawP Try.underlying33 Try.underlying4 (zeroB _) z nn D rfl HOW.out _ (kP x) rfl HKX.out ?_; intro c hat; rw [HAK.out] at hat; obtain rfl : c = true := (by injection hat with h; injection h with h; exact h.symm))
                exact ⟨⟨k + 1, by omega, by simp, HBA⟩, by simp [intOf]; omega⟩
              · have hlk' : ¬ (k : Int) < ys.length := by omega
                have hTY : ((T.length : Int) == (ys.length : Int)) = true := by rw [HEQ.out]; simp
                go_wp2_with fail
                go_ret
                refine ⟨rfl, (HB5.out.trans (HB0'.out.mono (by omega))).trans (HBX.out.mono (by omega))⟩
end Go.Proofs.Ytpgadcacimjlaab
