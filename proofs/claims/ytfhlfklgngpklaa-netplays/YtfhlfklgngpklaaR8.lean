/-
  The reference's net: contracts of Rise and Set.
-/
import Derived.Test.YtfhlfklgngpklaaR7
namespace Go.Proofs.Ytfhlfklgngpklaa
open Go.RowKit Go.Maps
def RS.turn (R : RS) (a : Int) (x : Bool) : RS := { R with up := R.up.set a.toNat x }
def riE (R : RS) (a : Int) : Int := if ndB R.up.length a = true then (if upB R a = true then 191 else 0) else 190
def riS (R : RS) (a : Int) : RS := if riE R a = 0 then R.turn a true else R
def RS.late (R : RS) (t : Tm) : RS := { R with tm := R.tm ++ [t] }
def rzE (R : RS) (a at_ : Int) : Int := if ndB R.up.length a = true then (if upB R a = true then (if at_ ≤ R.now ∨ 1073741824 < at_ then 1 else if 16384 ≤ R.tm.length then 2 else 0) else 191) else 190
def rzS (R : RS) (a at_ tg : Int) : RS := if rzE R a at_ = 0 then R.late ⟨a, at_, tg⟩ else R
theorem wp_appT {o : Oper} {a : Act} {w : World} {K : Act → World → Prop} {Q : Exit → Act → World → Prop} {base : Nat} (s x : Operand)
    (ho : o.op = .call { callee := .builtin .append, args := #[s, x], argTypes := #[48, 48] })
    (v : Value) (l : List Tm) (hs : a.eval s = v) (hown : w.ownsRow base 53 3 v l.length (tmC l))
    (b : Nat) (t : Tm) (hx : a.eval x = .slice (some ⟨b, 0, none⟩) 1 1) (hb : w.heap[b]? = some (.cells (tmV t).toArray 53 (0, 0))) (hl : l.length ≤ 1000000) (hbase : base ≤ w.heap.size)
    (hK : ∀ v' w', w'.ownsRow base 53 3 v' (l ++ [t]).length (tmC (l ++ [t])) → w.grownBy w' v.ownBlock → (v'.ownBlock = v.ownBlock ∨ v'.ownBlock = some w.heap.size) → K (a.put o.dst v') w') : Oper.wp Try.prog o a w K Q := by
  obtain ⟨i, h1, h2, h3, h4⟩ := info53
  obtain ⟨v', w', hrun, r1, r2, _, r4⟩ := run_append_own_at (P := Try.prog) w base 48 o.type 53 i _ 3 24 Try.underlying48 h1 h2 h3 h4 rfl (by decide) v l.length (tmC l) hown ⟨b, 0, none⟩ 1 1 (tmC [t]) rfl
    (World.news_of_block hb) (tmC_one _) (by unfold maxLen; omega) (by omega) hbase
  unfold Oper.wp
  simp [execOp, ho, resolve, invoke, builtin, hs, hx, hrun, Result.andThen]
  refine hK v' w' ?_ r2 r4
  rw [tmC_append, List.length_append]
  exact r1
theorem wpList_appT {ops : Array Oper} {rest : List Oper} {o : Oper} {a : Act} {w : World} {Q : Exit → Act → World → Prop} (base : Nat) (hgd : o.guard = none) (s x : Operand)
    (ho : o.op = .call { callee := .builtin .append, args := #[s, x], argTypes := #[48, 48] })
    (v : Value) (l : List Tm) (hs : a.eval s = v) (hown : w.ownsRow base 53 3 v l.length (tmC l))
    (b : Nat) (t : Tm) (hx : a.eval x = .slice (some ⟨b, 0, none⟩) 1 1) (hb : w.heap[b]? = some (.cells (tmV t).toArray 53 (0, 0))) (hl : l.length ≤ 1000000) (hbase : base ≤ w.heap.size)
    (hK : ∀ v' w', w'.ownsRow base 53 3 v' (l ++ [t]).length (tmC (l ++ [t])) → w.grownBy w' v.ownBlock → (v'.ownBlock = v.ownBlock ∨ v'.ownBlock = some w.heap.size) → wpList Try.prog ops Q rest (a.put o.dst v') w') : wpList Try.prog ops Q (o :: rest) a w :=
  wpList_plain hgd fun _ hK' => wp_appT s x ho v l hs hown b t hx hb hl hbase fun v' w' h1 h2 h3 => hK' _ _ (hK v' w' h1 h2 h3)
section
variable {w w' : World} {r : Nat} {uv lv tv : Value} {R : RS} {D : Nat → Prop}
theorem boolsC_set (l : List Bool) (m : Nat) (x : Bool) : (boolsC l).set m (.bool x) = boolsC (l.set m x) := by
  unfold boolsC
  rw [List.map_set]
/-- A node is turned. -/
theorem RM.turned {g c : Nat} (h : RM w r (.slice (some ⟨g, 0, none⟩) R.up.length c) lv tv R) (m : Nat) (x : Bool) :
    RM (w.setCell ⟨g, m, none⟩ (.bool x)) r (.slice (some ⟨g, 0, none⟩) R.up.length c) lv tv (R.turn (m : Int) x) ∧ Fr (Dr r (.slice (some ⟨g, 0, none⟩) R.up.length c) lv tv) w (w.setCell ⟨g, m, none⟩ (.bool x)) := by
  obtain ⟨a1, a2, a3⟩ := h.apart
  have hg := a1 g rfl
  obtain ⟨o1, _⟩ := h.uo.stored m (.bool x)
  rw [boolsC_set] at o1
  refine ⟨⟨(setO w _ hg.1.symm).trans h.hd, ?_, ?_, ?_⟩, (Fr.refl _ _).setCell _ _ (Or.inl (Or.inr (Or.inl rfl)))⟩
  · show World.ownsRow _ 0 4 1 _ (R.up.set ((m : Int)).toNat x).length (boolsC (R.up.set ((m : Int)).toNat x))
    rw [show ((m : Int)).toNat = m by omega, List.length_set]
    exact o1
  · exact ownsRow_same h.lo (fun k hk => setO w _ (fun e => hg.2.1 (by rw [← e]; exact hk)))
  · exact ownsRow_same h.to_ (fun k hk => setO w _ (fun e => hg.2.2 (by rw [← e]; exact hk)))
theorem RM.upf (h : RM w r uv lv tv R) {g c n : Nat} (e : uv = .slice (some ⟨g, 0, none⟩) n c) (j : Nat) : w.frozen? ⟨g, j, none⟩ = false := by
  obtain ⟨a, c2, e2⟩ := own_slice h.uo
  rw [e] at e2
  injection e2 with e3 e4 e5
  subst e4
  subst e
  exact h.uo.frozenAt j
set_option maxRecDepth 100000 in
set_option maxHeartbeats 1600000 in
theorem RRise_any (h : RK w r R D) (a : Int) :
    Calls Try.prog 33 #[.pointer (some ⟨r, 0, none⟩), .int .i64 a] w fun e w' => e = .returned (.int .i64 (riE R a)) ∧ RTo w w' r (riS R a) D := by
  have HD := Lib.hid h.self
  obtain ⟨uv, lv, tv, h, rfl⟩ := h
  have HN := Lib.hid (none_any h a)
  unfold riS
  by_cases hI : 0 ≤ a ∧ a < R.up.length
  · have hn : ndB R.up.length a = true := by simp [ndB, hI.1, hI.2]
    rw [hn] at HN
    have hE : riE R a = if upB R a = true then 191 else 0 := by unfold riE; rw [hn, if_pos rfl]
    rw [hE]
    clear hE hn
    obtain ⟨gu, uc, hu, hgu, hcu⟩ := h.upc a hI.1 hI.2
    obtain ⟨m, rfl⟩ := Int.eq_ofNat_of_zero_le hI.1
    rw [show ((m : Int)).toNat = m by omega] at hcu
    have hmN : m < R.up.length := by omega
    have hfz := h.upf hu m
    subst hu
    obtain ⟨c0, -, -, -⟩ := (cells4 h.hd).1
    have HT := Lib.hid (h.turned m true)
    generalize R.up.length = N at *
    clear hI h
    cases hup : upB R (m : Int) with
    | true =>
      rw [hup] at hcu
      rw [if_pos rfl, if_neg (by decide)]
      go_enter Try.func33, Try.ntmps33
      go_wp2_with fail
      refine HN.out.mono ?_
      rintro e w2 ⟨rfl, rfl⟩
      go_wp2_with fail
      go_ret
      exact ⟨rfl, HD.out⟩
    | false =>
      rw [hup] at hcu
      rw [if_neg (by decide), if_pos rfl]
      go_enter Try.func33, Try.ntmps33
      go_wp2_with fail
      refine HN.out.mono ?_
      rintro e w2 ⟨rfl, rfl⟩
      go_wp2_with fail
      go_ret
      exact ⟨rfl, _, ⟨_, _, _, HT.out.1, rfl⟩, fun _ e => Or.inl e, HT.out.2⟩
  · have hn : ndB R.up.length a = false := by
      unfold ndB
      by_cases h0 : 0 ≤ a
      · have h1 : ¬ a < R.up.length := fun e => hI ⟨h0, e⟩
        simp [h1]
      · simp [h0]
    rw [hn] at HN
    have hE : riE R a = 190 := by unfold riE; rw [hn, if_neg (by decide)]
    rw [hE, if_neg (by decide)]
    clear hE hn hI h
    go_enter Try.func33, Try.ntmps33
    go_wp2_with fail
    refine HN.out.mono ?_
    rintro e w2 ⟨rfl, rfl⟩
    go_wp2_with fail
    go_ret
    exact ⟨rfl, HD.out⟩
/-- What stands behind the append of a timer. -/
theorem RM.putT {W w3 : World} {o : Obj} {v' : Value} (h : RM W r uv lv tv R) (t : Tm) (hg : (W.alloc o).grownBy w3 tv.ownBlock) (ho : w3.ownsRow 0 53 3 v' (R.tm ++ [t]).length (tmC (R.tm ++ [t]))) (hv : v'.ownBlock = tv.ownBlock ∨ v'.ownBlock = some (W.alloc o).heap.size) :
    (w3.cell? ⟨r, 2, none⟩ = some tv ∧ w3.frozen? ⟨r, 2, none⟩ = false) ∧ RTo W (w3.setCell ⟨r, 2, none⟩ v') r (R.late t) (Dr r uv lv tv) := by
  have hb : Below W.heap.size W (W.alloc o) := (Below.refl _ _).alloc (Nat.le_refl _) _
  have hf : Fr (fun k => tv.ownBlock = some k) W w3 := (Fr.of hb).grown hg (fun k e => Or.inl e)
  have hrl := lt_of_block h.hd
  have hq := hf.block r hrl (fun e => (h.apart.2.2 r e).1 rfl)
  obtain ⟨⟨_, _, c2, _⟩, _, _, f2, _⟩ := cells4 h.hd
  refine ⟨⟨(World.cell?_of_block (w := W) hq).trans c2, (World.frozen?_of_block (w := W) hq).trans f2⟩, h.newT hf ho (fun k e => ?_)⟩
  rcases hv with e2 | e2
  · exact Or.inl (e2 ▸ e)
  · rw [e2] at e
    injection e with e
    simp at e
    exact Or.inr (by omega)
set_option maxRecDepth 100000 in
set_option maxHeartbeats 3200000 in
theorem RSet_any (h : RK w r R D) (hl : R.tm.length ≤ 999999) (a at_ tg : Int) :
    Calls Try.prog 34 #[.pointer (some ⟨r, 0, none⟩), .int .i64 a, .int .i64 at_, .int .i64 tg] w fun e w' => e = .returned (.int .i64 (rzE R a at_)) ∧ RTo w w' r (rzS R a at_ tg) D := by
  have HD := Lib.hid h.self
  obtain ⟨uv, lv, tv, h, rfl⟩ := h
  have HN := Lib.hid (none_any h a)
  unfold rzS
  by_cases hI : 0 ≤ a ∧ a < R.up.length
  · have hn : ndB R.up.length a = true := by simp [ndB, hI.1, hI.2]
    rw [hn] at HN
    have hE : rzE R a at_ = if upB R a = true then (if at_ ≤ R.now ∨ 1073741824 < at_ then 1 else if 16384 ≤ R.tm.length then 2 else 0) else 191 := by unfold rzE; rw [hn, if_pos rfl]
    rw [hE]
    clear hE hn
    obtain ⟨gu, uc, hu, hgu, hcu⟩ := h.upc a hI.1 hI.2
    obtain ⟨m, rfl⟩ := Int.eq_ofNat_of_zero_le hI.1
    rw [show ((m : Int)).toNat = m by omega] at hcu
    have hmN : m < R.up.length := by omega
    subst hu
    obtain ⟨ta, tc, htv⟩ := own_slice h.to_
    subst htv
    obtain ⟨c0, -, c2, c3⟩ := (cells4 h.hd).1
    have HX := Lib.hid h
    have HTO := Lib.hid h.to_
    have HPT := Lib.hid (fun (w3 : World) (o : Obj) (v' : Value) t hg ho hv => RM.putT (w3 := w3) (o := o) (v' := v') h t hg ho hv)
    have hrl := lt_of_block h.hd
    generalize hUN : R.up.length = N at *
    clear hI h HX hUN
    cases hup : upB R (m : Int) with
    | false =>
      rw [hup] at hcu
      rw [if_neg (by decide), if_neg (by decide)]
      go_enter Try.func34, Try.ntmps34
      go_wp2_with fail
      refine HN.out.mono ?_
      rintro e w2 ⟨rfl, e2⟩
      obtain rfl : w = w2 := e2.symm
      clear e2
      go_wp2_with fail
      go_ret
      exact ⟨rfl, HD.out⟩
    | true =>
      rw [hup] at hcu
      rw [if_pos rfl]
      by_cases g1 : at_ ≤ R.now
      · rw [if_pos (Or.inl g1), if_neg (by decide)]
        go_enter Try.func34, Try.ntmps34
        go_wp2_with fail
        refine HN.out.mono ?_
        rintro e w2 ⟨rfl, e2⟩
        obtain rfl : w = w2 := e2.symm
        clear e2
        go_wp2_with fail
        go_ret
        exact ⟨rfl, HD.out⟩
      · by_cases g2 : 1073741824 < at_
        · rw [if_pos (Or.inr g2), if_neg (by decide)]
          go_enter Try.func34, Try.ntmps34
          go_wp2_with fail
          refine HN.out.mono ?_
          rintro e w2 ⟨rfl, e2⟩
          obtain rfl : w = w2 := e2.symm
          clear e2
          go_wp2_with fail
          go_ret
          exact ⟨rfl, HD.out⟩
        · rw [if_neg (fun e => by rcases e with e | e; exact g1 e; exact g2 e)]
          by_cases g3 : 16384 ≤ R.tm.length
          · have g3' : (16384 : Int) ≤ R.tm.length := by omega
            rw [if_pos g3, if_neg (by decide)]
            go_enter Try.func34, Try.ntmps34
            go_wp2_with fail
            refine HN.out.mono ?_
            rintro e w2 ⟨rfl, e2⟩
            obtain rfl : w = w2 := e2.symm
            clear e2
            go_wp2_with fail
            go_ret
            exact ⟨rfl, HD.out⟩
          · have g3' : ¬ (16384 : Int) ≤ R.tm.length := by omega
            rw [if_neg g3, if_pos rfl]
            have HLL : Hid (R.tm.length ≤ 1000000) := Lib.hid (by omega)
            go_enter Try.func34, Try.ntmps34
            go_wp2_with fail
            refine HN.out.mono ?_
            rintro e w2 ⟨rfl, e2⟩
            obtain rfl : w = w2 := e2.symm
            clear e2
            go_wp2_with (first | (at_builtin; refine wpList_appT 0 rfl (.tmp 40) (.tmp 45) rfl (.slice ta R.tm.length tc) R.tm rfl (HTO.out.alloc _) w.heap.size ⟨(m : Int), at_, tg⟩ rfl (heap_top _ _) HLL.out (Nat.zero_le _) ?_; intro v4 w4 ho4 hg4 hv4; obtain ⟨⟨d2, g4⟩, hT⟩ := HPT.out w4 _ v4 _ hg4 ho4 hv4; have HT := Lib.hid hT; obtain ⟨av4, cv4, hvv4⟩ := own_slice ho4; clear hT ho4 hg4 hv4; generalize (R.tm ++ [(⟨(m : Int), at_, tg⟩ : Tm)]).length = N4 at hvv4; subst hvv4))
            go_ret
            exact ⟨rfl, HT.out⟩
  · have hn : ndB R.up.length a = false := by
      unfold ndB
      by_cases h0 : 0 ≤ a
      · have h1 : ¬ a < R.up.length := fun e => hI ⟨h0, e⟩
        simp [h1]
      · simp [h0]
    rw [hn] at HN
    have hE : rzE R a at_ = 190 := by unfold rzE; rw [hn, if_neg (by decide)]
    rw [hE, if_neg (by decide)]
    clear hE hn hI h
    go_enter Try.func34, Try.ntmps34
    go_wp2_with fail
    refine HN.out.mono ?_
    rintro e w2 ⟨rfl, rfl⟩
    go_wp2_with fail
    go_ret
    exact ⟨rfl, HD.out⟩
end
end Go.Proofs.Ytfhlfklgngpklaa
