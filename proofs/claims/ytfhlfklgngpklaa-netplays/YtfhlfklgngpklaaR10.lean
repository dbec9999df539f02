/-
  The reference's net: contract of Tick.
-/
import Derived.Test.YtfhlfklgngpklaaR9
namespace Go.Proofs.Ytfhlfklgngpklaa
open Go.RowKit Go.Maps
def atB (a c : Int) (t : Tm) : Bool := decide (t.nd = a) && decide (t.at_ = c)
def dueN (l : List Tm) (c : Int) : Nat → List Tm
  | 0 => []
  | n + 1 => dueN l c n ++ l.filter (atB (n : Int) c)
theorem dueN_len (l : List Tm) (c : Int) : ∀ n, (dueN l c n).length ≤ n * l.length
  | 0 => by simp [dueN]
  | n + 1 => by
    have h1 := dueN_len l c n
    have h2 : (l.filter (atB (n : Int) c)).length ≤ l.length := List.length_filter_le _ _
    simp only [dueN, List.length_append]
    rw [Nat.add_mul]
    omega
def notB (c : Int) (t : Tm) : Bool := decide (t.at_ ≠ c)
theorem filter_more (f : Tm → Bool) (l : List Tm) (j : Nat) (hj : j < l.length) : (l.take (j + 1)).filter f = (l.take j).filter f ++ (if f l[j] = true then [l[j]] else []) := by
  rw [List.take_succ_eq_append_getElem hj, List.filter_append]
  congr 1
  by_cases h : f l[j] = true <;> simp [h]
def rkE (R : RS) : Int := if 1073741824 ≤ R.now then 1 else 0
def rkL (R : RS) : List Tm := if 1073741824 ≤ R.now then [] else dueN R.tm (R.now + 1) R.up.length
def RS.clocked (R : RS) (x : Int) : RS := { R with now := x }
def rkS (R : RS) : RS := if 1073741824 ≤ R.now then R else (R.clocked (R.now + 1)).left (R.tm.filter (notB (R.now + 1)))
section
variable {w w' : World} {r : Nat} {uv lv tv : Value} {R : RS} {D : Nat → Prop}
set_option maxRecDepth 100000 in
set_option maxHeartbeats 6400000 in
theorem RTick_any (h : RK w r R D) (hN : R.up.length ≤ 65) (hl : R.tm.length ≤ 10000) (hn0 : 0 ≤ R.now) :
    Calls Try.prog 35 #[.pointer (some ⟨r, 0, none⟩)] w fun e w' => ∃ a c, e = .returned (.tuple #[.slice a (rkL R).length c, .int .i64 (rkE R)]) ∧ w'.ownsRow w.heap.size 53 3 (.slice a (rkL R).length c) (rkL R).length (tmC (rkL R)) ∧ RTo w w' r (rkS R) D := by
  have HD := Lib.hid h.self
  obtain ⟨uv, lv, tv, h, rfl⟩ := h
  obtain ⟨⟨c0, c1, c2, c3⟩, f0, f1, f2, f3⟩ := cells4 h.hd
  unfold rkE rkL rkS
  by_cases hx : 1073741824 ≤ R.now
  · rw [if_pos hx, if_pos hx, if_pos hx]
    clear h c0 c1 c2
    go_enter Try.func35, Try.ntmps35
    go_wp2_with fail
    go_ret2
    exact ⟨none, 0, rfl, World.ownsRow_nil _ _ _ _, HD.out⟩
  · rw [if_neg hx, if_neg hx, if_neg hx]
    obtain ⟨hc, hfc⟩ := h.clock (R.now + 1)
    have HC := Lib.hid hc
    have HFC := Lib.hid hfc
    obtain ⟨ua, uc, hu⟩ := own_slice h.uo
    obtain ⟨ta, tc, htv⟩ := own_slice h.to_
    subst hu htv
    obtain ⟨⟨d0, -, d2, d3⟩, -, -, g2, -⟩ := cells4 hc.hd
    have hrl := lt_of_block hc.hd
    have hsz : (w.setCell ⟨r, 3, none⟩ (.int .i64 (R.now + 1))).heap.size = w.heap.size := by simp
    have HSW := Lib.hid hsz
    have d0 : (w.setCell ⟨r, 3, none⟩ (.int .i64 (R.now + 1))).cell? ⟨r, 0, none⟩ = some (.slice ua R.up.length uc) := d0
    have e2 : (w.setCell ⟨r, 3, none⟩ (.int .i64 (R.now + 1))).cell? ⟨r, 2, none⟩ = some (.slice ta R.tm.length tc) := d2
    have e3 : (w.setCell ⟨r, 3, none⟩ (.int .i64 (R.now + 1))).cell? ⟨r, 3, none⟩ = some (.int .i64 (R.now + 1)) := d3
    have hiw : IntKind.i64.wrap (R.now + 1) = R.now + 1 := by rw [IntKind.wrap_i64] <;> omega
    obtain ⟨N, HNN⟩ := named R.up.length
    obtain ⟨M, HM⟩ := named R.tm.length
    rw [HNN.out] at d0 c0 hN HC HFC ⊢
    rw [HM.out] at e2 c2 hl
    clear h hc hfc hsz d2 d3 c1 f0 f1 f2
    go_enter Try.func35, Try.ntmps35
    go_wp2_with fail
    generalize w.setCell ⟨r, 3, none⟩ (.int .i64 (R.now + 1)) = W at *
    clear c0 c2 c3 f3 hiw hx hn0
    generalize hct : R.now + 1 = ct at *
    have HCT := Lib.hid hct
    clear hct
    go_loopw [4, 6] (fun ov i wr => ∃ n : Nat, n ≤ N ∧ i = .int .i64 n ∧ Hid (wr.ownsRow W.heap.size 53 3 ov (dueN R.tm ct n).length (tmC (dueN R.tm ct n))) ∧ Hid (Below W.heap.size W wr)) (fun _ i _ => N - (intOf i).toNat)
    case atStart => exact ⟨0, Nat.zero_le _, rfl, ⟨rfl, Or.inl ⟨rfl, rfl⟩⟩, Below.refl _ _⟩
    case round =>
      obtain ⟨n, hn, rfl, HO, HB⟩ := hrel
      obtain ⟨oa, oc, hvo⟩ := own_slice HO.out
      subst hvo
      by_cases hnN : n < N
      · have y0 := (HB.out.cell (p := ⟨r, 0, none⟩) hrl).trans d0
        have HDL : Hid ((dueN R.tm ct n).length ≤ 650000) := Lib.hid (by
          have h1 := dueN_len R.tm ct n
          have h2 : n * R.tm.length ≤ 65 * 10000 := Nat.mul_le_mul (by omega) (by rw [HM.out]; exact hl)
          omega)
        have HDS : Hid (dueN R.tm ct (n + 1) = dueN R.tm ct n ++ R.tm.filter (atB (n : Int) ct)) := Lib.hid rfl
        obtain ⟨dn, HDN⟩ := named (dueN R.tm ct n)
        rw [HDN.out] at HO HDL HDS
        rw [HDN.out]
        go_wp2_with fail
        clear y0
        go_loopw [4, 7] (fun ov i wr => ∃ j : Nat, j ≤ M ∧ i = .int .i64 j ∧ Hid (wr.ownsRow W.heap.size 53 3 ov (dn ++ (R.tm.take j).filter (atB (n : Int) ct)).length (tmC (dn ++ (R.tm.take j).filter (atB (n : Int) ct)))) ∧ Hid (Below W.heap.size W wr)) (fun _ i _ => M - (intOf i).toNat)
        case atStart => exact ⟨0, Nat.zero_le _, rfl, by show World.ownsRow _ _ _ _ _ _ _; simpa using HO.out, HB⟩
        case round =>
          clear HO HB
          obtain ⟨j, hj, rfl, HO, HB⟩ := hrel
          obtain ⟨oa2, oc2, hvo⟩ := own_slice HO.out
          subst hvo
          have y2 := (HB.out.cell (p := ⟨r, 2, none⟩) hrl).trans e2
          by_cases hlt : j < M
          · have hjl : j < R.tm.length := by rw [HM.out]; exact hlt
            have y3 := (HB.out.cell (p := ⟨r, 3, none⟩) hrl).trans e3
            obtain ⟨g, c, hv, a0, a1, a2⟩ := (HC.out.on HB.out).timer j hjl
            injection hv with hv1 _ hv3
            subst hv1 hv3
            have HMR := Lib.hid (filter_more (atB (n : Int) ct) R.tm j hjl)
            have HCN : Hid ((dn ++ (R.tm.take j).filter (atB (n : Int) ct)).length ≤ 1000000) := Lib.hid (by
              have e : ((R.tm.take j).filter (atB (n : Int) ct)).length ≤ (R.tm.take j).length := List.length_filter_le _ _
              rw [List.length_take] at e
              have := HDL.out
              rw [List.length_append]
              omega)
            have HAP : Hid (dn ++ (R.tm.take (j + 1)).filter (atB (n : Int) ct) = (dn ++ (R.tm.take j).filter (atB (n : Int) ct)) ++ (if atB (n : Int) ct R.tm[j] = true then [R.tm[j]] else [])) := Lib.hid (by rw [HMR.out, List.append_assoc])
            have b0 : wr.cell? ⟨g, j * 3, none⟩ = some (.int .i64 (R.tm[j]).nd) := a0
            have b1 : wr.cell? ⟨g, j * 3 + 1, none⟩ = some (.int .i64 (R.tm[j]).at_) := a1
            have b2 : wr.cell? ⟨g, j * 3 + 2, none⟩ = some (.int .i64 (R.tm[j]).tg) := a2
            clear a0 a1 a2 HMR
            generalize R.tm[j] = t at *
            obtain ⟨tn, tt, tg⟩ := t
            have p0 : wr.cell? ⟨g, j * 3, none⟩ = some (.int .i64 tn) := b0
            have p1 : wr.cell? ⟨g, j * 3 + 1, none⟩ = some (.int .i64 tt) := b1
            have p2 : wr.cell? ⟨g, j * 3 + 2, none⟩ = some (.int .i64 tg) := b2
            clear b0 b1 b2
            have HSZ := HB.out.size
            generalize dn ++ (R.tm.take j).filter (atB (n : Int) ct) = q at *
            by_cases hn1 : tn = (n : Int)
            · by_cases ht1 : tt = ct
              · rw [show atB (n : Int) ct ⟨tn, tt, tg⟩ = true by simp [atB, hn1, ht1], if_pos rfl] at HAP
                subst hn1 ht1
                go_wp2_with fail
                go_quiet (fail)
                go_wp2_with (first | (at_builtin; refine wpList_appT W.heap.size rfl (.tmp 64) (.tmp 72) rfl (.slice oa2 q.length oc2) q rfl (HO.out.alloc _) wr.heap.size ⟨(n : Int), tt, tg⟩ rfl (heap_top _ _) HCN.out (by simp; omega) ?_; intro v4 w4 ho4 hg4 hv4; have HO4 := Lib.hid ho4; have HB4 : Hid (Below W.heap.size W w4) := Lib.hid (Below.grown ((belowN HB.out _).alloc HSZ _) hg4 (by simp; omega) (fun k hk => (HO.out.lt k hk).1)); clear ho4 hg4 hv4))
                exact ⟨⟨j + 1, by omega, by go_num, by show World.ownsRow _ _ _ _ _ _ _; rw [HAP.out]; exact HO4.out, HB4⟩, by simp [intOf]; omega⟩
              · rw [show atB (n : Int) ct ⟨tn, tt, tg⟩ = false by simp [atB, ht1], if_neg (by decide), List.append_nil] at HAP
                have htb : (tt == ct) = false := by simp [ht1]
                subst hn1
                go_wp2_with fail
                go_quiet (fail)
                go_wp2_with fail
                exact ⟨⟨j + 1, by omega, by go_num, by show World.ownsRow _ _ _ _ _ _ _; rw [HAP.out]; exact HO.out, belowN HB.out _⟩, by simp [intOf]; omega⟩
            · rw [show atB (n : Int) ct ⟨tn, tt, tg⟩ = false by simp [atB, hn1], if_neg (by decide), List.append_nil] at HAP
              have hnb : (tn == (n : Int)) = false := by simp [hn1]
              go_wp2_with fail
              go_quiet (fail)
              go_wp2_with fail
              exact ⟨⟨j + 1, by omega, by go_num, by show World.ownsRow _ _ _ _ _ _ _; rw [HAP.out]; exact HO.out, belowN HB.out _⟩, by simp [intOf]; omega⟩
          · have HTA : Hid (R.tm.take j = R.tm) := Lib.hid (List.take_of_length_le (by rw [HM.out]; omega))
            rw [HTA.out] at HO
            rw [← HDS.out] at HO
            rw [HTA.out, ← HDS.out]
            go_wp2_with fail
            exact ⟨⟨n + 1, by omega, by go_num, HO, HB⟩, by simp [intOf]; omega⟩
      · obtain rfl : n = N := by omega
        obtain ⟨W2, hW2⟩ : ∃ W2, W2 = wr := ⟨wr, rfl⟩
        subst hW2
        have y0 := (HB.out.cell (p := ⟨r, 0, none⟩) hrl).trans d0
        go_wp2_with fail
        have hr2 : r < W2.heap.size := by have := HB.out.size; omega
        have k2 := (HB.out.cell (p := ⟨r, 2, none⟩) hrl).trans e2
        have k3 := (HB.out.cell (p := ⟨r, 3, none⟩) hrl).trans e3
        have kf : W2.frozen? ⟨r, 2, none⟩ = false := (World.frozen?_of_block (w := W) (HB.out.block r hrl)).trans g2
        have HC2 := Lib.hid (HC.out.on HB.out)
        have HB1 := Lib.hid HB.out
        have HO1 := Lib.hid HO.out
        clear d0 e2 e3 g2 y0
        generalize hdn : dueN R.tm ct n = dn at *
        have HDN := Lib.hid hdn
        clear hdn
        go_loopw [5, 8] (fun ov i wq => ∃ j : Nat, j ≤ M ∧ i = .int .i64 j ∧ Hid (wq.ownsRow W2.heap.size 53 3 ov ((R.tm.take j).filter (notB ct)).length (tmC ((R.tm.take j).filter (notB ct)))) ∧ Hid (Below W2.heap.size W2 wq)) (fun _ i _ => M - (intOf i).toNat)
        case atStart => exact ⟨0, Nat.zero_le _, rfl, ⟨rfl, Or.inl ⟨rfl, rfl⟩⟩, Below.refl _ _⟩
        case round =>
          clear HO HB
          obtain ⟨j, hj, rfl, HO, HB⟩ := hrel
          obtain ⟨oa2, oc2, hvo⟩ := own_slice HO.out
          subst hvo
          have y2 := (HB.out.cell (p := ⟨r, 2, none⟩) hr2).trans k2
          by_cases hlt : j < M
          · have hjl : j < R.tm.length := by rw [HM.out]; exact hlt
            have y3 := (HB.out.cell (p := ⟨r, 3, none⟩) hr2).trans k3
            obtain ⟨g, c, hv, a0, a1, a2⟩ := (HC2.out.on HB.out).timer j hjl
            injection hv with hv1 _ hv3
            subst hv1 hv3
            have HMR := Lib.hid (filter_more (notB ct) R.tm j hjl)
            have HCN : Hid (((R.tm.take j).filter (notB ct)).length ≤ 1000000) := Lib.hid (by
              have e : ((R.tm.take j).filter (notB ct)).length ≤ (R.tm.take j).length := List.length_filter_le _ _
              rw [List.length_take] at e
              omega)
            have b0 : wr.cell? ⟨g, j * 3, none⟩ = some (.int .i64 (R.tm[j]).nd) := a0
            have b1 : wr.cell? ⟨g, j * 3 + 1, none⟩ = some (.int .i64 (R.tm[j]).at_) := a1
            have b2 : wr.cell? ⟨g, j * 3 + 2, none⟩ = some (.int .i64 (R.tm[j]).tg) := a2
            clear a0 a1 a2
            generalize R.tm[j] = t at *
            obtain ⟨tn, tt, tg⟩ := t
            have p0 : wr.cell? ⟨g, j * 3, none⟩ = some (.int .i64 tn) := b0
            have p1 : wr.cell? ⟨g, j * 3 + 1, none⟩ = some (.int .i64 tt) := b1
            have p2 : wr.cell? ⟨g, j * 3 + 2, none⟩ = some (.int .i64 tg) := b2
            clear b0 b1 b2
            have HSZ := HB.out.size
            generalize (R.tm.take j).filter (notB ct) = q at *
            by_cases ht1 : tt = ct
            · rw [show notB ct ⟨tn, tt, tg⟩ = false by simp [notB, ht1], if_neg (by decide), List.append_nil] at HMR
              subst ht1
              go_wp2_with fail
              go_quiet (fail)
              go_wp2_with fail
              exact ⟨⟨j + 1, by omega, by go_num, by show World.ownsRow _ _ _ _ _ _ _; rw [HMR.out]; exact HO.out, belowN HB.out _⟩, by simp [intOf]; omega⟩
            · rw [show notB ct ⟨tn, tt, tg⟩ = true by simp [notB, ht1], if_pos rfl] at HMR
              have htb : (tt == ct) = false := by simp [ht1]
              have htb2 : (tt != ct) = true := by simp [ht1]
              go_wp2_with fail
              go_quiet (fail)
              go_wp2_with (first | (at_builtin; refine wpList_appT W2.heap.size rfl (.tmp 96) (.tmp 104) rfl (.slice oa2 q.length oc2) q rfl (HO.out.alloc _) wr.heap.size ⟨tn, tt, tg⟩ rfl (heap_top _ _) HCN.out (by simp; omega) ?_; intro v4 w4 ho4 hg4 hv4; have HO4 := Lib.hid ho4; have HB4 : Hid (Below W2.heap.size W2 w4) := Lib.hid (Below.grown ((belowN HB.out _).alloc HSZ _) hg4 (by simp; omega) (fun k hk => (HO.out.lt k hk).1)); clear ho4 hg4 hv4))
              exact ⟨⟨j + 1, by omega, by go_num, by show World.ownsRow _ _ _ _ _ _ _; rw [HMR.out]; exact HO4.out, HB4⟩, by simp [intOf]; omega⟩
          · have HTA : Hid (R.tm.take j = R.tm) := Lib.hid (List.take_of_length_le (by rw [HM.out]; omega))
            have HO2 := HO.out
            rw [HTA.out] at HO2
            have z2 : wr.frozen? ⟨r, 2, none⟩ = false := (World.frozen?_of_block (w := W2) (HB.out.block r hr2)).trans kf
            have HNT := Lib.hid ((HC2.out.newT (Fr.of HB.out) (own_le HO2 (Nat.zero_le _)) (fun k e => Or.inr (HO2.lt k e).1)).after (w := W) (fun _ e => Or.inl e) (Fr.of HB1.out))
            have HD1 := Lib.hid (own_below HO1.out HB.out)
            have HRW := Lib.hid hrl
            rw [HTA.out]
            clear HO2 HO
            go_wp2_with fail
            go_ret2
            refine ⟨oa, oc, ?_, ?_, ?_⟩
            · rw [HCT.out, HDN.out]
              rfl
            · rw [HCT.out, HDN.out]
              refine own_le (ownsRow_same HD1.out (fun k hk => setO wr _ (fun e => ?_))) (by have := HSW.out; omega)
              have h1 := (HD1.out.lt k hk).1
              have h2 := HRW.out
              omega
            · rw [HCT.out]
              exact HNT.out.after (fun _ e => Or.inl e) HFC.out
end
end Go.Proofs.Ytfhlfklgngpklaa
