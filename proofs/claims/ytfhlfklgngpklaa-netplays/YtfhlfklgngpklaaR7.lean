/-
  The reference's net: contract of Bag.
-/
import Derived.Test.YtfhlfklgngpklaaR6
namespace Go.Proofs.Ytfhlfklgngpklaa
open Go.RowKit Go.Maps
def rbg (R : RS) (p : Pr) : List ByteArray := (pls p R.ls 0).map fun i => (R.ls.getD i lz).s
def rbE (R : RS) (p : Pr) : Int := if lkB R.up.length p = true then 0 else 190
def rbL (R : RS) (p : Pr) : List ByteArray := if lkB R.up.length p = true then rbg R p else []
theorem wp_app9b {o : Oper} {a : Act} {w : World} {K : Act → World → Prop} {Q : Exit → Act → World → Prop} {base : Nat}
    (s x : Operand) (hop : o.op = Op.call { callee := Callee.builtin Builtin.append, args := #[s, x], argTypes := #[43, 43] })
    (v : Value) (l : List ByteArray) (hs : a.eval s = v) (hown : w.ownsRow base 9 1 v l.length (strs l))
    (b : Nat) (t : ByteArray) (hx : a.eval x = .slice (some ⟨b, 0, none⟩) 1 1) (hb : w.cell? ⟨b, 0, none⟩ = some (.string t)) (hl : l.length ≤ 1000000) (hbase : base ≤ w.heap.size)
    (hK : ∀ v' w', w'.ownsRow base 9 1 v' (l ++ [t]).length (strs (l ++ [t])) → w.grownBy w' v.ownBlock → K (a.put o.dst v') w') : Oper.wp Try.prog o a w K Q := by
  obtain ⟨i, h1, h2, h3, h4⟩ := info9
  obtain ⟨v', w', hrun, r1, r2, _, r4⟩ := run_append_own_at (P := Try.prog) w base 43 o.type 9 i _ 1 16 Try.underlying43 h1 h2 h3 h4 rfl (by decide) v l.length (strs l) hown ⟨b, 0, none⟩ 1 1 (strs [t]) (by rw [strs_len]; rfl)
    (fun j u hu => by
      match j, hu with
      | 0, hu =>
        have e : u = .string t := by simp [strs] at hu; exact hu.symm
        rw [e]
        exact hb) (strs_one _) (by unfold maxLen; omega) (by omega) hbase
  unfold Oper.wp
  simp [execOp, hop, resolve, invoke, builtin, hs, hx, hrun, Result.andThen]
  refine hK v' w' ?_ r2
  rw [strs_append, List.length_append]
  exact r1
section
variable {w w' : World} {r : Nat} {uv lv tv : Value} {R : RS} {D : Nat → Prop}
theorem strs_more (l : List ByteArray) (j : Nat) (hj : j < l.length) : l.take (j + 1) = l.take j ++ [l[j]] := by
  rw [List.take_succ_eq_append_getElem hj]
set_option maxRecDepth 100000 in
set_option maxHeartbeats 3200000 in
theorem RBag_any (h : RM w r uv lv tv R) (hl : R.ls.length ≤ 999999) (p : Pr) :
    Calls Try.prog 30 #[.pointer (some ⟨r, 0, none⟩), .int .i64 p.a, .int .i64 p.b] w fun e w' => ∃ a c, e = .returned (.tuple #[.slice a (rbL R p).length c, .int .i64 (rbE R p)]) ∧ w'.ownsRow w.heap.size 9 1 (.slice a (rbL R p).length c) (rbL R p).length (strs (rbL R p)) ∧ Below w.heap.size w w' := by
  have HN := Lib.hid (nolink_any h p)
  have HBG := Lib.hid (bag_any h (by omega) p)
  have HX := Lib.hid h
  unfold rbL rbE
  by_cases hI : In R.up.length p
  · rw [lkB_in hI] at HN ⊢
    rw [if_pos rfl, if_pos rfl]
    unfold rbg
    have hq := pls_lt p R.ls 0
    have hql := pls_len p R.ls 0
    have HQ : Hid (∀ k ∈ pls p R.ls 0, k < R.ls.length) := Lib.hid (fun k hk => by have := hq k hk; omega)
    generalize pls p R.ls 0 = q at *
    have hqm : q.length ≤ 1000000 := by omega
    clear hq hql h hI
    obtain ⟨x, y⟩ := p
    obtain ⟨M, HM⟩ := named q.length
    rw [HM.out] at HBG hqm
    obtain ⟨bs, HBS⟩ := named (q.map fun i => (R.ls.getD i lz).s)
    rw [HBS.out]
    have HBL : Hid (bs.length = M) := Lib.hid (by rw [← HBS.out, List.length_map]; exact HM.out)
    obtain ⟨la, lc, hlv⟩ := own_slice HX.out.lo
    subst hlv
    go_enter Try.func30, Try.ntmps30
    go_wp2_with fail
    refine HN.out.mono ?_
    rintro e w2 ⟨rfl, e2⟩
    obtain rfl : w = w2 := e2.symm
    clear e2
    go_wp2_with fail
    refine HBG.out.mono ?_
    rintro e w3 ⟨v, rfl, ho, hb⟩
    obtain ⟨qa, qc, hv⟩ := own_slice ho
    subst hv
    have HQR := Lib.hid ho
    have HB3 := Lib.hid hb
    have H3 := Lib.hid (HX.out.on hb)
    clear ho hb HBG HN HX
    go_wp2_with fail
    go_loopw [8, 10] (fun ov i wr => ∃ j : Nat, j ≤ M ∧ i = .int .i64 j ∧ Hid (wr.ownsRow w3.heap.size 9 1 ov (bs.take j).length (strs (bs.take j))) ∧ Hid (Below w3.heap.size w3 wr)) (fun _ i _ => M - (intOf i).toNat)
    case atStart => exact ⟨0, Nat.zero_le _, rfl, ⟨rfl, Or.inl ⟨rfl, rfl⟩⟩, Below.refl _ _⟩
    case round =>
      obtain ⟨j, hj, rfl, HO, HB⟩ := hrel
      by_cases hlt : j < M
      · have hjq : j < q.length := by rw [HM.out]; exact hlt
        obtain ⟨oa, oc, hvo⟩ := own_slice HO.out
        subst hvo
        obtain ⟨gq, qc2, hvq⟩ := own_form HQR.out (by omega)
        injection hvq with hv1 _ hv3
        subst hv1 hv3
        have hqB := (HQR.out.lt gq rfl).2
        have z0 := (HB.out.cell (p := ⟨gq, j, none⟩) hqB).trans ((HQR.out.cellAt j (by omega)).trans (natC_at q j hjq))
        have hkl := HQ.out _ (List.getElem_mem hjq)
        have hr := H3.out.on HB.out
        obtain ⟨gl, lc2, hvl, -, -, p2⟩ := hr.letter q[j] hkl
        injection hvl with hl1 _ hl3
        subst hl1 hl3
        obtain ⟨-, c1, -, -⟩ := (cells4 hr.hd).1
        have HMR : Hid (bs.take (j + 1) = bs.take j ++ [(R.ls[q[j]]'hkl).s]) := Lib.hid (by
          have hjb : j < bs.length := by rw [HBL.out]; exact hlt
          rw [strs_more bs j hjb]
          congr 2
          have e := HBS.out
          subst e
          simp [List.getD, hkl])
        have HTL : Hid ((bs.take j).length ≤ 1000000) := Lib.hid (by rw [List.length_take]; omega)
        have HSZ := HB.out.size
        have hkr : ((q[j] : Nat) : Int) < R.ls.length := by omega
        generalize (R.ls[q[j]]'hkl).s = body at *
        generalize q[j] = i at *
        generalize bs.take j = ts at *
        generalize R.ls.length = N at *
        clear hr
        go_wp2_with fail
        go_region_law (rw [if_pos (by rfl)]; refine wp_app9b (.tmp 25) (.tmp 37) rfl (.slice oa ts.length oc) ts rfl (HO.out.alloc _) wr.heap.size body rfl ((cell_of_row (wr.alloc (.cells #[.string body] 9)) wr.heap.size 0 _ _ _ (heap_top _ _)).trans rfl) HTL.out (by simp; omega) ?_; intro v4 w4 ho4 hg4; have HO4 := Lib.hid ho4; have HB4 : Hid (Below w3.heap.size w3 w4) := Lib.hid (Below.grown (Below.drew (HB.out.alloc HSZ _)) hg4 (by simp; omega) (fun k hk => (HO.out.lt k hk).1)); clear ho4 hg4)
        all_goals
          go_wp2_with fail
          exact ⟨⟨j + 1, by omega, by go_num, by show World.ownsRow _ _ _ _ _ _ _; rw [HMR.out]; exact HO4.out, HB4⟩, by simp [intOf]; omega⟩
      · have HT : Hid (bs.take j = bs) := Lib.hid (List.take_of_length_le (by rw [HBL.out]; omega))
        have HO2 := HO.out
        rw [HT.out] at HO2
        obtain ⟨oa, oc, hvo⟩ := own_slice HO2
        subst hvo
        have HO3 := Lib.hid HO2
        clear HO2 HO
        go_wp2_with fail
        go_ret2
        exact ⟨oa, oc, rfl, own_le HO3.out HB3.out.size, bthen HB3.out HB.out HB3.out.size⟩
  · rw [lkB_not hI] at HN ⊢
    rw [if_neg (by decide), if_neg (by decide)]
    clear hI HBG HX h
    obtain ⟨x, y⟩ := p
    go_enter Try.func30, Try.ntmps30
    go_wp2_with fail
    refine HN.out.mono ?_
    rintro e w2 ⟨rfl, rfl⟩
    go_wp2_with fail
    go_ret2
    exact ⟨none, 0, rfl, World.ownsRow_nil _ _ _ _, Below.refl _ _⟩
end
end Go.Proofs.Ytfhlfklgngpklaa
