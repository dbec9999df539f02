/-
  The reference's net: contracts of find and Send.
-/
import Derived.Test.YtfhlfklgngpklaaR3
namespace Go.Proofs.Ytfhlfklgngpklaa
open Go.RowKit Go.Maps
def rfE (R : RS) (p : Pr) (k : Int) : Int := if lkB R.up.length p = true then (if 0 ≤ k ∧ k < (pls p R.ls 0).length then 0 else 5) else 190
def rfP (R : RS) (p : Pr) (k : Int) : Nat := if rfE R p k = 0 then (pls p R.ls 0).getD k.toNat 0 else 0
def upB (R : RS) (a : Int) : Bool := R.up.getD a.toNat false
def RS.put (R : RS) (x : Lt) : RS := { R with ls := R.ls ++ [x] }
def rsE (R : RS) (p : Pr) (s : ByteArray) : Int := if lkB R.up.length p = true then (if 262144 < s.size then 2 else if upB R p.a = true then (if 4096 ≤ (pls p R.ls 0).length then 2 else 0) else 191) else 190
def rsS (R : RS) (p : Pr) (s : ByteArray) : RS := if rsE R p s = 0 then R.put ⟨p, s⟩ else R
theorem rf_place {R : RS} {p : Pr} {k : Int} (h : rfE R p k = 0) : In R.up.length p ∧ 0 ≤ k ∧ ∃ hk : k.toNat < (pls p R.ls 0).length, rfP R p k = (pls p R.ls 0)[k.toNat] ∧ rfP R p k < R.ls.length := by
  have h0 := h
  unfold rfE at h
  by_cases hI : In R.up.length p
  · rw [lkB_in hI, if_pos rfl] at h
    by_cases hk : 0 ≤ k ∧ k < (pls p R.ls 0).length
    · have hk' : k.toNat < (pls p R.ls 0).length := by omega
      have e : rfP R p k = (pls p R.ls 0)[k.toNat] := by
        unfold rfP
        rw [if_pos h0]
        simp [List.getD, hk']
      have := pls_lt p R.ls 0 _ (List.getElem_mem hk')
      exact ⟨hI, hk.1, hk', e, by rw [e]; omega⟩
    · rw [if_neg hk] at h
      cases h
  · rw [lkB_not hI] at h
    cases h
theorem wp_appL {o : Oper} {a : Act} {w : World} {K : Act → World → Prop} {Q : Exit → Act → World → Prop} (s x : Operand)
    (ho : o.op = .call { callee := .builtin .append, args := #[s, x], argTypes := #[60, 60] })
    (v : Value) (l : List Lt) (hs : a.eval s = v) (hown : w.ownsRow 0 89 3 v l.length (ltC l))
    (b : Nat) (t : Lt) (hx : a.eval x = .slice (some ⟨b, 0, none⟩) 1 1) (hb : w.heap[b]? = some (.cells (ltV t).toArray 89 (0, 0))) (hl : l.length ≤ 1000000)
    (hK : ∀ v' w', w'.ownsRow 0 89 3 v' (l ++ [t]).length (ltC (l ++ [t])) → w.grownBy w' v.ownBlock → (v'.ownBlock = v.ownBlock ∨ v'.ownBlock = some w.heap.size) → K (a.put o.dst v') w') : Oper.wp Try.prog o a w K Q := by
  obtain ⟨i, h1, h2, h3, h4⟩ := info89
  obtain ⟨v', w', hrun, r1, r2, _, r4⟩ := run_append_own_at (P := Try.prog) w 0 60 o.type 89 i _ 3 32 Try.underlying60 h1 h2 h3 h4 rfl (by decide) v l.length (ltC l) hown ⟨b, 0, none⟩ 1 1 (ltC [t]) rfl
    (World.news_of_block hb) (ltC_one _) (by unfold maxLen; omega) (by omega) (Nat.zero_le _)
  unfold Oper.wp
  simp [execOp, ho, resolve, invoke, builtin, hs, hx, hrun, Result.andThen]
  refine hK v' w' ?_ r2 r4
  rw [ltC_append, List.length_append]
  exact r1
theorem wpList_appL {ops : Array Oper} {rest : List Oper} {o : Oper} {a : Act} {w : World} {Q : Exit → Act → World → Prop} (hgd : o.guard = none) (s x : Operand)
    (ho : o.op = .call { callee := .builtin .append, args := #[s, x], argTypes := #[60, 60] })
    (v : Value) (l : List Lt) (hs : a.eval s = v) (hown : w.ownsRow 0 89 3 v l.length (ltC l))
    (b : Nat) (t : Lt) (hx : a.eval x = .slice (some ⟨b, 0, none⟩) 1 1) (hb : w.heap[b]? = some (.cells (ltV t).toArray 89 (0, 0))) (hl : l.length ≤ 1000000)
    (hK : ∀ v' w', w'.ownsRow 0 89 3 v' (l ++ [t]).length (ltC (l ++ [t])) → w.grownBy w' v.ownBlock → (v'.ownBlock = v.ownBlock ∨ v'.ownBlock = some w.heap.size) → wpList Try.prog ops Q rest (a.put o.dst v') w') : wpList Try.prog ops Q (o :: rest) a w :=
  wpList_plain hgd fun _ hK' => wp_appL s x ho v l hs hown b t hx hb hl fun v' w' h1 h2 h3 => hK' _ _ (hK v' w' h1 h2 h3)
section
variable {w w' : World} {r : Nat} {uv lv tv : Value} {R : RS} {D : Nat → Prop}
theorem RM.upc (h : RM w r uv lv tv R) (a : Int) (h0 : 0 ≤ a) (h1 : a < R.up.length) : ∃ g c, uv = .slice (some ⟨g, 0, none⟩) R.up.length c ∧ g < w.heap.size ∧ w.cell? ⟨g, a.toNat, none⟩ = some (.bool (upB R a)) := by
  have hl := h.uo.lt
  obtain ⟨g, c, e⟩ := own_form h.uo (by omega)
  subst e
  refine ⟨g, c, rfl, (hl g rfl).2, (h.uo.cellAt a.toNat (by omega)).trans ?_⟩
  unfold boolsC upB
  have ha : a.toNat < R.up.length := by omega
  simp [List.getD, ha]
set_option maxRecDepth 100000 in
set_option maxHeartbeats 1600000 in
theorem find_any (h : RM w r uv lv tv R) (hl : R.ls.length ≤ 1000000) (p : Pr) (k : Int) :
    Calls Try.prog 59 #[.pointer (some ⟨r, 0, none⟩), .int .i64 p.a, .int .i64 p.b, .int .i64 k] w fun e w' => e = .returned (.tuple #[.int .i64 (rfP R p k : Int), .int .i64 (rfE R p k)]) ∧ Below w.heap.size w w' := by
  have HN := Lib.hid (nolink_any h p)
  have HB := Lib.hid (bag_any h hl p)
  clear h hl
  unfold rfP
  by_cases hI : In R.up.length p
  · rw [lkB_in hI] at HN
    have hE : rfE R p k = if 0 ≤ k ∧ k < (pls p R.ls 0).length then 0 else 5 := by unfold rfE; rw [lkB_in hI, if_pos rfl]
    rw [hE]
    clear hE hI
    generalize pls p R.ls 0 = q at *
    obtain ⟨x, y⟩ := p
    by_cases h0 : 0 ≤ k
    · have h0' : ¬ k < 0 := by omega
      by_cases h1 : k < q.length
      · have h1' : ¬ (q.length : Int) ≤ k := by omega
        rw [show (if 0 ≤ k ∧ k < (q.length : Int) then (0 : Int) else 5) = 0 from if_pos ⟨h0, h1⟩, if_pos rfl]
        obtain ⟨n, rfl⟩ := Int.eq_ofNat_of_zero_le h0
        have hn : n < q.length := by omega
        rw [show ((n : Int)).toNat = n by omega]
        have HC := Lib.hid (natC_at q n hn)
        have HG : Hid (q.getD n 0 = q[n]) := Lib.hid (by simp [List.getD, hn])
        rw [HG.out]
        go_enter Try.func59, Try.ntmps59
        go_wp2_with fail
        refine HN.out.mono ?_
        rintro e w2 ⟨rfl, rfl⟩
        go_wp2_with fail
        refine HB.out.mono ?_
        rintro e w3 ⟨v, rfl, ho, hb⟩
        obtain ⟨g, c, hv⟩ := own_form ho (by omega)
        subst hv
        have z := (ho.cellAt n (by omega)).trans HC.out
        have HB3 := Lib.hid hb
        clear ho hb
        go_wp2_with fail
        go_ret2
        exact ⟨rfl, HB3.out⟩
      · have h1' : (q.length : Int) ≤ k := by omega
        rw [show (if 0 ≤ k ∧ k < (q.length : Int) then (0 : Int) else 5) = 5 from if_neg (fun e => h1 e.2), if_neg (by decide)]
        go_enter Try.func59, Try.ntmps59
        go_wp2_with fail
        refine HN.out.mono ?_
        rintro e w2 ⟨rfl, rfl⟩
        go_wp2_with fail
        refine HB.out.mono ?_
        rintro e w3 ⟨v, rfl, ho, hb⟩
        obtain ⟨a, c, hv⟩ := own_slice ho
        subst hv
        have HB3 := Lib.hid hb
        clear ho hb
        go_wp2_with fail
        go_ret2
        exact ⟨rfl, HB3.out⟩
    · have h0' : k < 0 := by omega
      rw [show (if 0 ≤ k ∧ k < (q.length : Int) then (0 : Int) else 5) = 5 from if_neg (fun e => h0 e.1), if_neg (by decide)]
      go_enter Try.func59, Try.ntmps59
      go_wp2_with fail
      refine HN.out.mono ?_
      rintro e w2 ⟨rfl, rfl⟩
      go_wp2_with fail
      refine HB.out.mono ?_
      rintro e w3 ⟨v, rfl, ho, hb⟩
      obtain ⟨a, c, hv⟩ := own_slice ho
      subst hv
      have HB3 := Lib.hid hb
      clear ho hb
      go_wp2_with fail
      go_ret2
      exact ⟨rfl, HB3.out⟩
  · rw [lkB_not hI] at HN
    have hE : rfE R p k = 190 := by unfold rfE; rw [lkB_not hI, if_neg (by decide)]
    rw [hE, if_neg (by decide)]
    clear hE hI HB
    obtain ⟨x, y⟩ := p
    go_enter Try.func59, Try.ntmps59
    go_wp2_with fail
    refine HN.out.mono ?_
    rintro e w2 ⟨rfl, rfl⟩
    go_wp2_with fail
    go_ret2
    exact ⟨rfl, Below.refl _ _⟩
set_option maxRecDepth 100000 in
set_option maxHeartbeats 3200000 in
theorem RSend_any (h : RK w r R D) (hl : R.ls.length ≤ 999999) (p : Pr) (s : ByteArray) :
    Calls Try.prog 26 #[.pointer (some ⟨r, 0, none⟩), .int .i64 p.a, .int .i64 p.b, .string s] w fun e w' => e = .returned (.int .i64 (rsE R p s)) ∧ RTo w w' r (rsS R p s) D := by
  have HD := Lib.hid h.self
  have HDB := Lib.hid (fun w' hb => h.to (w' := w') hb)
  obtain ⟨uv, lv, tv, h, rfl⟩ := h
  have HN := Lib.hid (nolink_any h p)
  unfold rsS
  by_cases hI : In R.up.length p
  · rw [lkB_in hI] at HN
    have hE : rsE R p s = if 262144 < s.size then 2 else if upB R p.a = true then (if 4096 ≤ (pls p R.ls 0).length then 2 else 0) else 191 := by unfold rsE; rw [lkB_in hI, if_pos rfl]
    rw [hE]
    clear hE
    by_cases hs : 262144 < s.size
    · have hs' : (262144 : Int) < s.size := by omega
      rw [if_pos hs, if_neg (by decide)]
      clear h HDB hI
      obtain ⟨x, y⟩ := p
      go_enter Try.func26, Try.ntmps26
      go_wp2_with fail
      refine HN.out.mono ?_
      rintro e w2 ⟨rfl, e2⟩
      obtain rfl : w = w2 := e2.symm
      clear e2
      go_wp2_with fail
      go_ret
      exact ⟨rfl, HD.out⟩
    · have hs' : ¬ (262144 : Int) < s.size := by omega
      rw [if_neg hs]
      obtain ⟨gu, uc, hu, hgu, hcu⟩ := h.upc p.a hI.1 hI.2.1
      obtain ⟨⟨c0, c1, c2, c3⟩, f0, f1, f2, f3⟩ := cells4 h.hd
      obtain ⟨m, hm⟩ := Int.eq_ofNat_of_zero_le hI.1
      have hmN : m < R.up.length := by have := hI.2.1; omega
      rw [hm, show ((m : Int)).toNat = m by omega] at hcu
      obtain ⟨N, HNN⟩ := named R.up.length
      rw [HNN.out] at hmN
      have HBG := Lib.hid (bag_any h (by omega) p)
      have HX := Lib.hid h
      subst hu
      rw [HNN.out] at c0
      obtain ⟨la, lc, hlv⟩ := own_slice h.lo
      subst hlv
      have hrl := lt_of_block h.hd
      have hdk := h.hd
      rw [HNN.out] at hdk
      have HDK := Lib.hid hdk
      clear hdk
      obtain ⟨x, y⟩ := p
      have hm : x = (m : Int) := hm
      subst hm
      cases hup : upB R (m : Int) with
      | false =>
        rw [hup] at hcu
        rw [if_neg (by decide), if_neg (by decide)]
        clear h HDB hI HBG HX c1 c2 c3 f0 f1 f2 f3 HDK
        go_enter Try.func26, Try.ntmps26
        go_wp2_with fail
        refine HN.out.mono ?_
        rintro e w2 ⟨rfl, e2⟩
        obtain rfl : w = w2 := e2.symm
        clear e2
        go_wp2_with fail
        go_ret
        exact ⟨rfl, HD.out⟩
      | true =>
        rw [hup] at hcu
        rw [if_pos rfl]
        clear hI
        by_cases hf : 4096 ≤ (pls ⟨(m : Int), y⟩ R.ls 0).length
        · have hf' : (4096 : Int) ≤ (pls ⟨(m : Int), y⟩ R.ls 0).length := by omega
          rw [if_pos hf, if_neg (by decide)]
          generalize pls ⟨(m : Int), y⟩ R.ls 0 = q at *
          clear h HX c1 c2 c3 f0 f1 f2 f3 HDK
          go_enter Try.func26, Try.ntmps26
          go_wp2_with fail
          refine HN.out.mono ?_
          rintro e w2 ⟨rfl, e2⟩
          obtain rfl : w = w2 := e2.symm
          clear e2
          go_wp2_with fail
          refine HBG.out.mono ?_
          rintro e w3 ⟨v, rfl, ho, hb⟩
          obtain ⟨a, c, hv⟩ := own_slice ho
          subst hv
          have HB3 := Lib.hid hb
          clear ho hb
          go_wp2_with fail
          go_ret
          exact ⟨rfl, HDB.out _ HB3.out⟩
        · have hf' : ¬ (4096 : Int) ≤ (pls ⟨(m : Int), y⟩ R.ls 0).length := by omega
          rw [if_neg hf, if_pos rfl]
          generalize pls ⟨(m : Int), y⟩ R.ls 0 = q at *
          clear h HD HDB
          have hlx : R.ls.length ≤ 1000000 := by omega
          go_enter Try.func26, Try.ntmps26
          go_wp2_with fail
          refine HN.out.mono ?_
          rintro e w2 ⟨rfl, e2⟩
          obtain rfl : w = w2 := e2.symm
          clear e2
          go_wp2_with fail
          refine HBG.out.mono ?_
          rintro e w3 ⟨v, rfl, ho, hb⟩
          obtain ⟨a, c, hv⟩ := own_slice ho
          subst hv
          have HB3 := Lib.hid hb
          have d1 := (hb.cell (p := ⟨r, 1, none⟩) hrl).trans c1
          have hsz := hb.size
          clear ho hb
          go_wp2_with (first | (at_builtin; go_loud (refine wpList_appL rfl (.tmp 34) (.tmp 39) rfl (.slice la R.ls.length lc) R.ls rfl ((HX.out.on HB3.out).lo.alloc _) w3.heap.size ⟨⟨(m : Int), y⟩, s⟩ rfl (heap_top _ _) hlx ?_; intro v4 w4 ho4 hg4 hv4; have HFR : Hid (Fr (fun k => (Value.slice la R.ls.length lc).ownBlock = some k) w w4) := Lib.hid ((Fr.of (HB3.out.alloc hsz _)).grown hg4 (fun k e => Or.inl e)); have hq := HFR.out.block r hrl (fun e => (HX.out.apart.2.1 r e).1 rfl); have d2 : w4.cell? ⟨r, 1, none⟩ = some (.slice la R.ls.length lc) := (World.cell?_of_block (w := w) hq).trans c1; have g2 : w4.frozen? ⟨r, 1, none⟩ = false := (World.frozen?_of_block (w := w) hq).trans f1; have HV4 : Hid (∀ k, v4.ownBlock = some k → (Value.slice la R.ls.length lc).ownBlock = some k ∨ w.heap.size ≤ k) := Lib.hid (fun k e => by rcases hv4 with e2 | e2; exact Or.inl (e2 ▸ e); rw [e2] at e; injection e with e; simp at e; exact Or.inr (by omega)); have HO4 := Lib.hid ho4; clear hq ho4 hg4 hv4 d1; obtain ⟨av4, cv4, hvv4⟩ := own_slice HO4.out; generalize (R.ls ++ [(⟨⟨(m : Int), y⟩, s⟩ : Lt)]).length = N4 at hvv4; subst hvv4)))
          go_ret
          exact ⟨rfl, HX.out.newL HFR.out HO4.out HV4.out⟩
  · rw [lkB_not hI] at HN
    have hE : rsE R p s = 190 := by unfold rsE; rw [lkB_not hI, if_neg (by decide)]
    rw [hE, if_neg (by decide)]
    clear hE hI h HDB
    obtain ⟨x, y⟩ := p
    go_enter Try.func26, Try.ntmps26
    go_wp2_with fail
    refine HN.out.mono ?_
    rintro e w2 ⟨rfl, e2⟩
    obtain rfl : w = w2 := e2.symm
    clear e2
    go_wp2_with fail
    go_ret
    exact ⟨rfl, HD.out⟩
end
end Go.Proofs.Ytfhlfklgngpklaa
