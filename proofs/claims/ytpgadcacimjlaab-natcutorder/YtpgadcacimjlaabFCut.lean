/-
  The contract of flow.Cut.
-/
import Derived.Test.YtpgadcacimjlaabFMax
namespace Go.Proofs.Ytpgadcacimjlaab.F6
open Go.RowKit
theorem info4 : (Try.prog.info? 4).map (fun i => (i.zero, i.size, i.bytes)) = some (some (.bool false), 1, 1) := by kernel_rfl
theorem made_bool (n : Nat) : madeCells (Value.bool false).cells (n * 1) = ((List.range n).map (fun _ => Value.bool false)).toArray := by
  apply Array.ext'
  show (madeCells #[Value.bool false] (n * 1)).toList = _
  rw [toList_madeCells_one, Nat.mul_one]
  apply List.ext_getElem
  · simp
  · intro i h1 h2
    simp
/-- Numbers as cells. -/
def cellsI (l : List Int) : List Value := l.map (Value.int .i64)
theorem cellsI_len (l : List Int) : (cellsI l).length = l.length := by unfold cellsI; simp
theorem cellsI_snoc (l : List Int) (x : Int) : cellsI l ++ [.int .i64 x] = cellsI (l ++ [x]) := by unfold cellsI; simp
theorem cellsI_getD (xs : List Int) (k : Nat) (h : k < xs.length) : (cellsI xs)[k]? = some (.int .i64 (xs.getD k 0)) := by
  unfold cellsI
  simp [List.getD, List.getElem?_eq_getElem h]
theorem one_i64 (x : Int) : ∀ u ∈ [Value.int .i64 x], u.oneCell' = true := by intro u hu; simp at hu; subst hu; rfl
theorem one_new (w : World) (x : Int) : ∀ j u, [Value.int .i64 x][j]? = some u → (w.alloc (.cells #[.int .i64 x] 3)).cell? ((⟨w.heap.size, 0, none⟩ : Addr).add j) = some u := by
  intro j u hu
  match j, hu with
  | 0, hu => simp at hu; subst hu; simp [Addr.add]
theorem own_slice {w : World} {base : Nat} {e : TypeId} {size : Nat} {v : Value} {n : Nat} {xs : List Value} (h : w.ownsRow base e size v n xs) : ∃ a c, v = .slice a n c := by
  rcases h.2 with ⟨rfl, rfl⟩ | ⟨g, c, cur, rfl, _⟩
  · exact ⟨none, 0, rfl⟩
  · exact ⟨_, c, rfl⟩
/-- The places that are hit, rising. -/
def hits (q : Nat → Bool) : Nat → List Int
  | 0 => []
  | k + 1 => if q k then hits q k ++ [(k : Int)] else hits q k
theorem hits_t {q : Nat → Bool} {k : Nat} (h : q k = true) : hits q (k + 1) = hits q k ++ [(k : Int)] := by rw [hits, if_pos h]
theorem hits_f {q : Nat → Bool} {k : Nat} (h : q k = false) : hits q (k + 1) = hits q k := by rw [hits, if_neg (by simp [h])]
theorem hits_len (q : Nat → Bool) (k : Nat) : (hits q k).length ≤ k := by
  induction k with
  | zero => simp [hits]
  | succ k ih =>
    unfold hits
    split
    · simp; omega
    · omega
/-- The edges of the cut. -/
def outQ (E : List Ed) (R : Nat → Bool) (j : Nat) : Bool := R (ed E j).f && !R (ed E j).t
theorem results_tmp4 {fn : Func} {t u v x : Tmp} (h : fn.results = #[.tmp t, .tmp u, .tmp v, .tmp x]) (tmps : Array Value) (P : Program) (w : World) :
    (results fn tmps).run P w = .ok (.tuple #[tmps.getD t undef, tmps.getD u undef, tmps.getD v undef, tmps.getD x undef]) w := by
  simp [results, h]
theorem side_step {rk : Nat → Int} {k : Nat} (j : Nat) : updV (fun j => if j < k then Value.bool (side rk j) else .bool false) k (.bool (side rk k)) j = if j < k + 1 then .bool (side rk j) else .bool false := by
  by_cases e : j = k
  · subst e; rw [updV_self, if_pos (Nat.lt_succ_self _)]
  · rw [updV_ne _ _ e]
    show (if j < k then Value.bool (side rk j) else .bool false) = _
    by_cases h : j < k
    · rw [if_pos h, if_pos (by omega)]
    · rw [if_neg h, if_neg (by omega)]
set_option maxHeartbeats 800000 in
set_option maxRecDepth 100000 in
theorem cut_bad (N : Int) (a : Option Addr) (l : List A) (cap : Nat) (w : World) (s t : Int) (hl : l.length ≤ 9223372036854775807) (hr : Arcs w a l) (hE : flE N l s t ≠ 0) :
    Calls Try.prog 29 #[.agg #[.int .i64 N, .slice a l.length cap], .int .i64 s, .int .i64 t] w fun e w' => e = .returned (.tuple #[.slice none 0 0, .slice none 0 0, .int .u64 0, .int .i64 (flE N l s t)]) ∧ Below w.heap.size w w' := by
  have hb0 : Below w.heap.size w (w.alloc (.cells #[.int .i64 N, .slice a l.length cap] 68)) := (Below.refl _ _).alloc (Nat.le_refl _) _
  have HC := Lib.hid (fcheck_any N a l cap _ hl (hr.on hb0) s t)
  generalize flE N l s t = E at *
  have hE1 : (E == 0) = false := by rw [beq_eq_false_iff_ne]; exact hE
  have hE2 : (E != 0) = true := by simpa using hE
  clear hE
  go_enter Try.func29, Try.ntmps29
  go_wp2_with fail
  refine HC.out.mono ?_
  rintro e w1 ⟨rfl, hb1⟩
  go_wp2_with fail
  (try simp only [Exit.inBlock, Exit.then])
  refine bodyPost_ret (results_tmp4 rfl _ _ _) rfl ?_
  exact ⟨rfl, bthen hb0 hb1 (by simp)⟩
set_option maxHeartbeats 3200000 in
set_option maxRecDepth 100000 in
theorem cut_ok (n : Nat) (a : Option Addr) (l : List A) (cap : Nat) (w : World) (s t : Nat) (hr : Arcs w a l) (hE : flE n l s t = 0) (hO : Ok n l s t n s t) :
    Calls Try.prog 29 #[.agg #[.int .i64 n, .slice a l.length cap], .int .i64 s, .int .i64 t] w fun e w' => ∃ (fl rk : Nat → Int) (bs : Nat) (ve : Value), e = .returned (.tuple #[.slice (some ⟨bs, 0, none⟩) n n, ve, .int .u64 (net (edl l) fl s (edl l).length), .int .i64 0]) ∧ Flow n (edl l) s t fl ∧ Rk n l.length (edl l) fl 1 s t rk ∧ rk t = -1 ∧ TbV w' bs n 4 (fun v => .bool (side rk v)) ∧ w'.ownsRow (bs + 1) 3 1 ve (hits (outQ (edl l) (side rk)) l.length).length (cellsI (hits (outQ (edl l) (side rk)) l.length)) ∧ (hits (outQ (edl l) (side rk)) l.length = [] → ve = .slice none 0 0) ∧ w.heap.size ≤ bs ∧ Below w.heap.size w w' := by
  obtain ⟨i4, hi4, hz4, hs4, hby4⟩ := info_parts info4
  obtain ⟨i3, hi3, hz3, hs3, hby3⟩ := info_parts info3
  have hm : l.length ≤ 16384 := by have := hO.g.lb; rwa [edl_len] at this
  have hnb : n ≤ 1024 := hO.g.nb
  have hb0 : Below w.heap.size w (w.alloc (.cells #[.int .i64 n, .slice a l.length cap] 68)) := (Below.refl _ _).alloc (Nat.le_refl _) _
  have HC := Lib.hid (fcheck_any n a l cap _ (by omega) (hr.on hb0) s t)
  rw [hE] at HC
  have hg := heap_top w (.cells #[.int .i64 n, .slice a l.length cap] 68)
  have hmk : ∀ w, (Instr.makeSlice 50 (.int .i64 n) (.int .i64 n)).run Try.prog w = .ok (.slice (some ⟨w.heap.size, 0, none⟩) n n) (w.alloc (.cells ((List.range n).map (fun _ => Value.bool false)).toArray 4)) := fun w => by
    have := run_make (P := Try.prog) w 50 4 i4 (.bool false) Try.underlying50 hi4 hz4 .i64 .i64 n n (by omega) (by omega) (by rw [hby4]; omega) (by omega)
    rw [this, Int.toNat_natCast, hs4, made_bool]
  have HO := Lib.hid hO
  have HAR0 := Lib.hid hr
  have HAR := Lib.hid (hr.on hb0)
  have hsz : (w.alloc (.cells #[.int .i64 n, .slice a l.length cap] 68)).heap.size = w.heap.size + 1 := by simp
  have HB0 := Lib.hid hb0
  have HG := Lib.hid hg
  clear hE hO hr hi4 hz4 hs4 hby4 hb0 hg
  clear i4
  go_enter Try.func29, Try.ntmps29
  go_wp2_with fail
  refine HC.out.mono ?_
  rintro e w1 ⟨rfl, hb1⟩
  generalize hW : w.alloc (.cells #[.int .i64 n, .slice a l.length cap] 68) = W at *
  have hg1 := (hb1.block w.heap.size (by omega)).trans HG.out
  obtain ⟨⟨g0, g1⟩, gf0, gf1⟩ := two_cells hg1
  have HL := Lib.hid (lay_any n a l cap w1 HO.out.g HO.out.po (HAR.out.on hb1))
  have HB1 := Lib.hid hb1
  clear hb1
  go_wp2_with fail
  refine HL.out.mono ?_
  rintro e w2 ⟨f, bl, b1, b2, b3, bq, bp, rfl, hAp, hSt, hb2, hlo⟩
  have HF := Lib.hid (fill_any (s := s) (t := t) hAp hSt HO.out.g (edl_len l) (by have := HO.out.g.steps; rwa [edl_len] at this) HO.out.un HO.out.vn HO.out.uv (Flow.zero HO.out.g s t) (net_zero _ _ _))
  have HB2 := Lib.hid hb2
  have HLO := Lib.hid hlo
  have hg2 := (hb2.block w.heap.size (lt_of_block hg1)).trans hg1
  clear hb2 hlo hAp hSt g0 g1 gf0 gf1
  go_wp2_with fail
  refine HF.out.mono ?_
  rintro e w3 ⟨fl, rk, rfl, hFl, hRk, hrt, htb, hSt⟩
  have hw1 := lt_of_block hg1
  have hb3 : Below w1.heap.size w2 w3 := hSt.fr.below HB2.out.size (fun k hk => by
    have := HLO.out
    rcases hk with h | h | h | h | h | h <;> (rw [h]; omega))
  have hg3 := (hb3.block w.heap.size hw1).trans hg2
  obtain ⟨⟨g0, g1⟩, gf0, gf1⟩ := two_cells hg3
  have hbw3 : Below w.heap.size w w3 := ((HB0.out.trans (HB1.out.mono (by omega))).trans (HB2.out.mono (by omega))).trans (hb3.mono (by omega))
  have hsz3 := lt_of_block hg3
  have HS3 := Lib.hid hSt
  have HTB := Lib.hid htb
  have HFL := Lib.hid hFl
  have HRK := Lib.hid hRk
  have HRT := Lib.hid hrt
  have HBW := Lib.hid hbw3
  obtain ⟨V, HV⟩ := named (net (edl l) fl s (edl l).length)
  rw [HV.out]
  clear hSt hFl hRk hrt htb hb3 hbw3 hg1 hg2
  go_wp2_with fail
  have HT0 := Lib.hid (heap_top w3 (.cells ((List.range n).map (fun _ => Value.bool false)).toArray 4))
  have hb4 : Below w3.heap.size w3 (w3.alloc (.cells ((List.range n).map (fun _ => Value.bool false)).toArray 4)) := (Below.refl _ _).alloc (Nat.le_refl _) _
  have HPP : Hid (Pp (w3.alloc (.cells ((List.range n).map (fun _ => Value.bool false)).toArray 4)) f bl b1 b2 b3 bq bp n l.length 0) := ⟨(hb4.block f (lt_of_block HS3.out.nt.pp.hd)).trans HS3.out.nt.pp.hd⟩
  have HRKT : Hid (TbV (w3.alloc (.cells ((List.range n).map (fun _ => Value.bool false)).toArray 4)) b2 n 3 (fun v => .int .i64 (rk v))) := HTB.out.same (hb4.block b2 HTB.out.lt)
  have HNE : Hid (f ≠ w3.heap.size ∧ b2 ≠ w3.heap.size) := ⟨Nat.ne_of_lt (lt_of_block HS3.out.nt.pp.hd), Nat.ne_of_lt HTB.out.lt⟩
  have HBW4 : Hid (Below w.heap.size w (w3.alloc (.cells ((List.range n).map (fun _ => Value.bool false)).toArray 4))) := HBW.out.trans (hb4.mono (by omega))
  have HSZ4 : Hid (w.heap.size < w3.heap.size) := hsz3
  have HG4 : Hid ((w3.alloc (.cells ((List.range n).map (fun _ => Value.bool false)).toArray 4)).heap[w.heap.size]? = some (.cells #[.int .i64 n, .slice a l.length cap] 68)) := (hb4.block _ hsz3).trans hg3
  clear hb4 g0 g1 gf0 gf1 hg3 hsz3 hmk hw1 hW hsz HC HL HF HB1 HB2 HB0 HG HAR HS3 HTB HLO HBW
  generalize hbf : w3.heap.size = bs at *
  generalize w3.alloc (.cells ((List.range n).map (fun _ => Value.bool false)).toArray 4) = W4 at *
  generalize hml : l.length = m at *
  go_loopw [33] (fun i wr => ∃ k : Nat, k ≤ n ∧ i = .int .i64 k ∧ Hid (TbV wr bs n 4 (fun j => if j < k then .bool (side rk j) else .bool false)) ∧ Hid (Fr (fun j => j = bs) W4 wr)) (fun i _ => n - (intOf i).toNat)
  case atStart => exact ⟨0, Nat.zero_le _, rfl, TbV.congr HT0.out (fun v _ => by simp), Fr.refl _ _⟩
  case round =>
    obtain ⟨k, hk, rfl, HT, HFR⟩ := hrel
    by_cases hlt : k < n
    · have HCR := Lib.hid (reached_any (v := k) (w := wr) ⟨(HFR.out.block f (lt_of_block HPP.out.hd) HNE.out.1).trans HPP.out.hd⟩ (HRKT.out.fr HFR.out HNE.out.2) hlt)
      have d := HT.out.cell hlt
      have df := HT.out.free k
      have hkm : (k : Int) < n := by omega
      have HNX : Hid (TbV (wr.setCell ⟨bs, k, none⟩ (.bool (side rk k))) bs n 4 (fun j => if j < k + 1 then .bool (side rk j) else .bool false)) := (HT.out.set k (.bool (side rk k))).congr (fun j _ => side_step j)
      have HFX : Hid (Fr (fun j => j = bs) W4 (wr.setCell ⟨bs, k, none⟩ (.bool (side rk k)))) := HFR.out.setCell ⟨bs, k, none⟩ _ rfl
      have hsd : (rk k != -1) = side rk k := rfl
      rw [hsd] at HCR
      generalize side rk k = sk at *
      rw [if_neg (Nat.lt_irrefl k)] at d
      go_wp2_with fail
      refine HCR.out.mono ?_
      rintro e wq ⟨rfl, rfl⟩
      go_wp2_with fail
      exact ⟨⟨k + 1, hlt, by go_num, HNX, HFX⟩, by simp [intOf]; omega⟩
    · obtain rfl : k = n := by omega
      have HT5 : Hid (TbV wr bs k 4 (fun j => .bool (side rk j))) := HT.out.congr (fun j hj => if_pos hj)
      have HG5 : Hid (wr.heap[w.heap.size]? = some (.cells #[.int .i64 k, .slice a m cap] 68)) := (HFR.out.block _ (lt_of_block HG4.out) (Nat.ne_of_lt HSZ4.out)).trans HG4.out
      have HBW5 : Hid (Below w.heap.size w wr) := HBW4.out.trans (HFR.out.below HBW4.out.size (fun k h => by rw [h]; exact Nat.le_of_lt HSZ4.out))
      obtain ⟨⟨g0, g1⟩, gf0, gf1⟩ := two_cells HG5.out
      clear HT HFR HPP HRKT HNE HBW4 HG4 HT0
      go_wp2_with fail
      obtain ⟨b, o, hab⟩ : ∃ b o, 0 < m → a = some ⟨b, o, none⟩ ∧ b < w.heap.size ∧ ∀ j, j < m → (l.getD j A.zero).at w b (o + j * 3) := by
        rcases HAR0.out with rfl | ⟨b, o, h⟩
        · exact ⟨0, 0, fun h => absurd h (by rw [← hml]; simp)⟩
        · rw [hml] at h; exact ⟨b, o, fun _ => h⟩
      have HAB := Lib.hid hab
      have HML := Lib.hid hml
      obtain ⟨q, HQ⟩ := named (outQ (edl l) (side rk))
      obtain ⟨w5, hw5⟩ : ∃ w5, w5 = wr := ⟨_, rfl⟩
      subst hw5
      clear hab g0 g1 gf0 gf1 hml
      go_loopw [46, 7] (fun i ve wr => ∃ j : Nat, j ≤ m ∧ i = .int .i64 j ∧ wr.ownsRow (bs + 1) 3 1 ve (hits q j).length (cellsI (hits q j)) ∧ Hid (hits q j = [] → ve = .slice none 0 0) ∧ Hid (Below (bs + 1) w5 wr)) (fun i _ _ => m - (intOf i).toNat)
      case atStart => exact ⟨0, Nat.zero_le _, rfl, ⟨rfl, Or.inl ⟨rfl, rfl⟩⟩, fun _ => rfl, Below.refl _ _⟩
      case round =>
        obtain ⟨j, hj, rfl, hown, HNI, HB⟩ := hrel
        by_cases hjm : j < m
        · have hlen := hits_len q j
          obtain ⟨ys, HYS⟩ := named (hits q j)
          rw [HYS.out] at hown HNI hlen
          obtain ⟨rfl, hbl, hat⟩ := HAB.out (by omega)
          obtain ⟨x0, x1, x2⟩ := (hat j hjm).on HBW5.out
          have xb : b < bs + 1 := by have := HSZ4.out; omega
          have y0 := (HB.out.cell (p := ⟨b, o + j * 3, none⟩) xb).trans x0
          have y1 := (HB.out.cell (p := ⟨b, o + j * 3 + 1, none⟩) xb).trans x1
          have y2 := (HB.out.cell (p := ⟨b, o + j * 3 + 2, none⟩) xb).trans x2
          have hj2 : j < l.length := by rw [HML.out]; exact hjm
          have hxe := edl_at hj2
          have hxp := HO.out.po (l.getD j A.zero) (by simp [List.getD, List.getElem?_eq_getElem hj2])
          have hxn := HO.out.g.ends j (by rw [edl_len]; exact hj2)
          rw [hxe] at hxn
          have hqj : q j = (side rk (l.getD j A.zero).f.toNat && !side rk (l.getD j A.zero).t.toNat) := by rw [← HQ.out]; unfold outQ; rw [hxe]
          generalize l.getD j A.zero = x at *
          obtain ⟨u, hu⟩ : ∃ u : Nat, x.f = (u : Int) := ⟨x.f.toNat, by omega⟩
          obtain ⟨v, hv⟩ : ∃ v : Nat, x.t = (v : Int) := ⟨x.t.toNat, by omega⟩
          rw [hu, hv] at hxn hqj
          simp only [Int.toNat_natCast] at hxn hqj
          rw [hu] at y0
          rw [hv] at y1
          obtain ⟨hun, hvn⟩ := hxn
          clear x0 x1 x2 hxp hat hxe hu hv
          generalize x.w = xc at *
          have hT6 : TbV (wr.alloc (.cells #[.int .i64 (u : Int), .int .i64 (v : Int), .int .u32 xc] 88)) bs k 4 (fun j => .bool (side rk j)) := by
            have h1 := HT5.out.same (w' := wr) (HB.out.block bs (Nat.lt_succ_self _))
            exact h1.same (Below.heap_alloc _ _ _ h1.lt)
          have d1 := hT6.cell hun
          have d2 := hT6.cell hvn
          have hun' : (u : Int) < k := by omega
          have hvn' : (v : Int) < k := by omega
          have hbsx : bs + 1 ≤ wr.heap.size := by have h1 := HB.out.size; have h2 := HT5.out.lt; omega
          have hBx : Below (bs + 1) w5 (wr.alloc (.cells #[.int .i64 (u : Int), .int .i64 (v : Int), .int .u32 xc] 88)) := HB.out.alloc hbsx _
          have HBX := Lib.hid hBx
          obtain ⟨av, cv, hve⟩ := own_slice hown
          subst hve
          clear hT6 hBx HB
          generalize side rk u = su at *
          generalize side rk v = sv at *
          cases su with
          | false =>
            have hq0 : q j = false := by rw [hqj]; rfl
            have HH := Lib.hid ((hits_f hq0).trans HYS.out)
            clear hqj hq0
            go_wp2_with fail
            exact ⟨⟨j + 1, hjm, by go_num, by rw [HH.out]; exact hown.alloc _, fun h => HNI.out (by rw [← HH.out]; exact h), HBX⟩, by simp [intOf]; omega⟩
          | true =>
            cases sv with
            | true =>
              have hq0 : q j = false := by rw [hqj]; rfl
              have HH := Lib.hid ((hits_f hq0).trans HYS.out)
              clear hqj hq0
              go_wp2_with fail
              exact ⟨⟨j + 1, hjm, by go_num, by rw [HH.out]; exact hown.alloc _, fun h => HNI.out (by rw [← HH.out]; exact h), HBX⟩, by simp [intOf]; omega⟩
            | false =>
              have hq0 : q j = true := by rw [hqj]; rfl
              have hht := hits_t hq0
              rw [HYS.out] at hht
              have HH := Lib.hid hht
              have HX : Hid ((cellsI ys ++ [Value.int .i64 (j : Int)]) = cellsI (ys ++ [(j : Int)])) := cellsI_snoc ys j
              have HN : Hid (ys.length + 1 = (ys ++ [(j : Int)]).length) := by show _ = _; simp
              clear hqj hq0 hht
              have h1n : Hid (∀ i z, [Value.int .i64 (j : Int)][i]? = some z → ((wr.alloc (.cells #[.int .i64 (u : Int), .int .i64 (v : Int), .int .u32 xc] 88)).alloc (.cells #[.int .i64 (j : Int)] 3)).cell? ((⟨wr.heap.size + 1, 0, none⟩ : Addr).add i) = some z) := fun i z hz => by
                have := one_new (wr.alloc (.cells #[.int .i64 (u : Int), .int .i64 (v : Int), .int .u32 xc] 88)) (j : Int) i z hz
                simpa using this
              go_wp2_with (at_builtin; refine wpList_append_own _ rfl (.tmp 64) (.tmp 66) 25 rfl (bs + 1) 3 i3 (.int .i64 0) 1 8 Try.underlying25 hi3 hz3 hs3 hby3 rfl (by decide) (.slice av ys.length cv) ys.length (cellsI ys) rfl ((hown.alloc _).alloc _) ⟨wr.heap.size + 1, 0, none⟩ 1 1 [.int .i64 (j : Int)] rfl rfl h1n.out (one_i64 _) (by unfold maxLen; omega) (by omega) (by simp; omega) ?_; intro v6 w6 hown6 hgrow6 hnil6)
              rw [HX.out, HN.out] at hown6
              have hb6 : Below (bs + 1) w5 w6 := (HBX.out.alloc (by simp; omega) _).grown hgrow6 (by simp; omega) (by intro k hk; have := (hown.lt k hk).1; omega)
              exact ⟨⟨j + 1, hjm, by go_num, by rw [HH.out]; exact hown6, fun h => absurd h (by rw [HH.out]; simp), hb6⟩, by simp [intOf]; omega⟩
        · obtain rfl : j = m := by omega
          go_wp2_with fail
          (try simp only [Exit.inBlock, Exit.then])
          refine bodyPost_ret (results_tmp4 rfl _ _ _) rfl ?_
          have hbe : Below w.heap.size w wr := HBW5.out.trans (HB.out.mono (by have := HSZ4.out; omega))
          have hml := HML.out
          subst hml
          exact ⟨fl, rk, bs, _, by rw [HV.out]; rfl, HFL.out, HRK.out, HRT.out, HT5.out.same (HB.out.block bs (Nat.lt_succ_self _)), by rw [HQ.out]; exact hown, by rw [HQ.out]; exact HNI.out, Nat.le_of_lt HSZ4.out, hbe⟩
end Go.Proofs.Ytpgadcacimjlaab.F6
