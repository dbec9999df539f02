/-
  Contract of (*Net).Tick.
-/
import Derived.Test.YtfhlfklgngpklaaTdl
namespace Go.Proofs.Ytfhlfklgngpklaa
open Go.RowKit Go.Maps
theorem belowN {B : Nat} {w w' : World} (h : Below B w w') (q : Nat) : Below B w (w'.drewN q) := ⟨h.os, h.tape, h.output, h.size, h.block⟩
/-- What Tick answers and leaves. -/
def due (S : NS) (t : Tm) : Bool := decide (t.at_ = S.now + 1)
def tiE (S : NS) : Int := if S.now = 1073741824 then 1 else 0
def tiL (S : NS) : List Tm := if S.now = 1073741824 then [] else S.tm.takeWhile (due S)
def NS.clocked (S : NS) (x : Int) : NS := { S with now := x }
def tiS (S : NS) : NS := if S.now = 1073741824 then S else (S.clocked (S.now + 1)).timed (S.tm.dropWhile (due S))
theorem while_at {p : Tm → Bool} : ∀ {l : List Tm} {d : Nat}, d ≤ l.length → (∀ k, k < d → p (l.getD k tz) = true) → (d < l.length → p (l.getD d tz) = false) → l.take d = l.takeWhile p ∧ l.drop d = l.dropWhile p
  | [], d, h, _, _ => by simp
  | t :: r, 0, _, _, h2 => by
    have h0 : p t = false := h2 (by simp)
    simp [h0]
  | t :: r, d + 1, h, h1, h2 => by
    have h0 : p t = true := h1 0 (by omega)
    obtain ⟨e1, e2⟩ := while_at (p := p) (l := r) (d := d) (by simpa using h) (fun k hk => h1 (k + 1) (by omega)) (fun hd => h2 (by simpa using hd))
    simp [h0, e1, e2]
section
variable {w : World} {n : Nat} {P : Nat → Prop} {S : NS} {db mb : Nat} {tv : Value} {sv : Pr → Value} {D : DataW Unit} {k : Nat}
theorem NTx.clocked (h : NTx w n P S db mb tv sv D k) {x : Int} (hx : 0 ≤ x ∧ x ≤ 1073741824) : NTx (w.setCell ⟨n, 3, none⟩ (.int .i64 x)) n P (S.clocked x) db mb tv sv D k ∧ Fr P w (w.setCell ⟨n, 3, none⟩ (.int .i64 x)) := by
  have hf : Fr (fun b => b = n) w (w.setCell ⟨n, 3, none⟩ (.int .i64 x)) := (Fr.refl _ _).setCell _ _ (Or.inl rfl)
  have hs : ∀ b, b ≠ n → (w.setCell ⟨n, 3, none⟩ (.int .i64 x)).heap[b]? = w.heap[b]? := fun b hb => Below.heap_setCell _ _ _ _ hb
  have nd : ∀ {j cur t z}, w.heap[j]? = some (.cells cur t z) → t ≠ 59 → j ≠ n := fun hj ht e => by
    subst e
    rw [h.hn] at hj
    injection hj with hj
    injection hj with _ hj _
    exact ht hj.symm
  refine ⟨⟨?_, (hs db (nd h.hd (by decide))).trans h.hd, h.hl, h.hN, ?_, ?_, ?_, h.rd, h.has, h.key, h.ap, h.short, h.few, hx, h.on, h.od, h.om, h.ot, h.os, fun b hb => by have := h.lt b hb; simpa using this⟩, hf.mono (fun b e => by rw [e]; exact h.on)⟩
  · rw [setCell_eq_setRow w n 3 _ 59 (0, 0) _ h.hn, setRow_heap w n _ _ 59 (0, 0) h.hn]
    rfl
  · refine ownsMap_same h.hm (hs mb (fun e => ?_))
    obtain ⟨es, clock, hb, r⟩ := h.hm
    rw [e, h.hn] at hb
    cases hb
  · refine ownsRow_same h.ht (fun g hg => hs g ?_)
    rcases h.ht.2 with ⟨e2, _⟩ | ⟨g', cap, cur, e2, h2, h3, h4⟩
    · rw [e2] at hg; cases hg
    · rw [e2] at hg
      injection hg with hg
      subst hg
      exact nd h3 (by decide)
  · intro p hp
    refine ownsRow_same (h.row p hp) (fun g hg => hs g ?_)
    rcases (h.row p hp).2 with ⟨e2, _⟩ | ⟨g', cap, cur, e2, h2, h3, h4⟩
    · rw [e2] at hg; cases hg
    · rw [e2] at hg
      injection hg with hg
      subst hg
      exact nd h3 (by decide)
/-- append to nil of the first timers. -/
theorem copy_first {w : World} {v : Value} {l : List Tm} (h : w.ownsRow 0 53 3 v l.length (tmC l)) (hl : l.length ≤ 16384) (d : Nat) (hd : d ≤ l.length) {va : Option Addr} {c : Nat} (hv : v = .slice va l.length c) :
    ∃ a' c' w', (∀ ty, (Builtin.append_ #[48, 48] ty #[.slice none 0 0, .slice va d c]).run Try.prog w = .ok (.slice a' d c') w') ∧ w'.ownsRow w.heap.size 53 3 (.slice a' d c') d (tmC (l.take d)) ∧ Below w.heap.size w w' := by
  obtain ⟨i0, hi0, hz0, hzs, hzb⟩ := info53
  have hld : (tmC (l.take d)).length = d * 3 := by rw [tmC_len, List.length_take]; omega
  rcases tm_form h with ⟨e, h0⟩ | ⟨g, c2, cur, e, hc1, hc2, hc3, hc4, hc5⟩
  · rw [hv] at e
    injection e with e1 e2 e3
    subst e1 e3
    have hd0 : d = 0 := by omega
    subst hd0
    refine ⟨none, 0, w, fun ty => run_append_owned_none (P := Try.prog) (w := w) 0 48 ty 53 i0 3 Try.underlying48 hi0 _ 0 [] (World.ownsRow_nil _ _ _ _), ?_, Below.refl _ _⟩
    rw [List.take_zero]
    exact World.ownsRow_nil _ _ _ _
  · rw [hv] at e
    injection e with e1 e2 e3
    subst e1 e3
    have hat : ∀ j u, (tmC (l.take d))[j]? = some u → w.cell? ((⟨g, 0, none⟩ : Addr).add j) = some u := fun j u hu => by
      have hj : j < (tmC (l.take d)).length := (List.getElem?_eq_some_iff.1 hu).1
      rw [← tmC_take, List.getElem?_take, if_pos (by omega)] at hu
      rw [Go.WideShapes.add_plain, Nat.zero_add, cell_of_row w g _ cur 53 (0, 0) hc3, ← Array.getElem?_toList, hc5, List.getElem?_append_left (by rw [tmC_len]; omega)]
      exact hu
    obtain ⟨v', w', hrun, r1, r2, _, r4⟩ := run_append_own_at (P := Try.prog) w w.heap.size 48 48 53 i0 _ 3 24 Try.underlying48 hi0 hz0 hzs hzb rfl (by decide) (.slice none 0 0) 0 [] (World.ownsRow_nil _ _ _ _) ⟨g, 0, none⟩ d c (tmC (l.take d)) hld hat (tmC_one _) (by unfold maxLen; omega) (by omega) (Nat.le_refl _)
    rw [Nat.zero_add, List.nil_append] at r1
    obtain ⟨a', c', rfl⟩ := own_slice r1
    exact ⟨a', c', w', fun ty => hrun, r1, ⟨r2.os, r2.tape, r2.output, r2.size, fun k hk => r2.block k hk (fun e => by cases e)⟩⟩
theorem Kept.own {w w' : World} {v v' : Value} {l' : List Tm} (h : Kept w w' v v' l') {B : Nat} {u : Value} {m : Nat} {xs : List Value} (hu : w.ownsRow B 53 3 u m xs) (hd : ∀ j, v.ownBlock = some j → j < B) : w'.ownsRow B 53 3 u m xs :=
  ownsRow_same hu (fun g hg => h.2.2.block g (hu.lt g hg).2 (fun e => by have := hd g e; have := (hu.lt g hg).1; omega))
set_option maxRecDepth 100000 in
set_option maxHeartbeats 3200000 in
theorem Tick_any (h : NTx w n P S db mb tv sv D k) :
    Calls Try.prog 24 #[.pointer (some ⟨n, 0, none⟩)] w fun e w' => ∃ a c, e = .returned (.tuple #[.slice a (tiL S).length c, .int .i64 (tiE S)]) ∧ w'.ownsRow w.heap.size 53 3 (.slice a (tiL S).length c) (tiL S).length (tmC (tiL S)) ∧ To w w' n P (tiS S) := by
  have HN := Lib.hid h.self
  obtain ⟨⟨c0, c1, c2, c3⟩, f0, f1, f2, f3⟩ := cells4 h.hn
  unfold tiE tiL tiS
  by_cases hx : S.now = 1073741824
  · rw [if_pos hx, if_pos hx, if_pos hx]
    clear h c0 c1 c2
    rw [hx] at c3
    go_enter Try.func24, Try.ntmps24
    go_wp2_with fail
    go_ret2
    exact ⟨none, 0, rfl, World.ownsRow_nil _ _ _ _, HN.out⟩
  · rw [if_neg hx, if_neg hx, if_neg hx]
    have hnow := h.now0
    have hx' : (S.now == 1073741824) = false := by simp [hx]
    obtain ⟨hc, hfc⟩ := h.clocked (x := S.now + 1) (by omega)
    obtain ⟨va, vc, hv⟩ := own_slice h.ht
    subst hv
    have HC := Lib.hid hc
    have HFC := Lib.hid hfc
    have hn0 := Lib.hid h.now0
    have HFW := Lib.hid h.few
    have HTB : Hid (∀ j, (Value.slice va S.tm.length vc).ownBlock = some j → j < w.heap.size) := Lib.hid (fun j e => h.lt _ (h.ot _ e))
    have hsz : (w.setCell ⟨n, 3, none⟩ (.int .i64 (S.now + 1))).heap.size = w.heap.size := by simp
    have HSZ := Lib.hid hsz
    obtain ⟨⟨d0, d1, dd2, dd3⟩, e0, e1, e2, e3⟩ := cells4 hc.hn
    have d2 : (w.setCell ⟨n, 3, none⟩ (.int .i64 (S.now + 1))).cell? ⟨n, 2, none⟩ = some (.slice va S.tm.length vc) := dd2
    have d3 : (w.setCell ⟨n, 3, none⟩ (.int .i64 (S.now + 1))).cell? ⟨n, 3, none⟩ = some (.int .i64 (S.now + 1)) := dd3
    have hiw : IntKind.i64.wrap (S.now + 1) = S.now + 1 := by rw [IntKind.wrap_i64]; omega
    have HNW := Lib.hid (lt_of_block h.hn)
    obtain ⟨L, HL⟩ := named S.tm.length
    clear h hsz hc hfc d0 d1 dd2 dd3 e0 e1 e3 c0 c1 hx
    rw [HL.out] at HC HTB d2
    go_enter Try.func24, Try.ntmps24
    go_wp2_with fail
    generalize hQ : w.setCell ⟨n, 3, none⟩ (.int .i64 (S.now + 1)) = W1 at *
    clear hQ c2 c3 f0 f1 f2 f3 hx' hnow hiw
    go_loopw [4] (fun i wr => ∃ j q : Nat, j ≤ L ∧ i = .int .i64 j ∧ wr = W1.drewN q ∧ Hid (∀ k, k < j → due S (S.tm.getD k tz) = true)) (fun i _ => L - (intOf i).toNat)
    case atStart => exact ⟨0, 0, Nat.zero_le _, rfl, rfl, Lib.hid (fun k h => by omega)⟩
    case round =>
      obtain ⟨j, q, hj, rfl, rfl, HAT⟩ := hrel
      have hLs : L ≤ 16384 := by have := HFW.out; have := HL.out; omega
      have hrow : W1.ownsRow 0 53 3 (.slice va L vc) S.tm.length (tmC S.tm) := HC.out.ht
      by_cases hlt : j < L
      · have hjl : j < S.tm.length := by rw [HL.out]; exact hlt
        obtain ⟨g, c, e, h1, h2, h3, q0, q1, q2⟩ := tm_at hrow j hjl
        injection e with e1 e2 e3
        subst e1 e3
        have HGT := Lib.hid (getT hjl)
        obtain ⟨t, HE⟩ := named (S.tm[j])
        rw [HE.out] at q1 HGT
        unfold maxLen at h2
        rw [HL.out] at h1
        clear hrow q0 q2 h3 e2
        by_cases hd : t.at_ = S.now + 1
        · have HD : Hid (due S t = true) := Lib.hid (by unfold due; simp [hd])
          rw [hd] at q1
          clear hd
          go_wp2_with fail
          go_quiet (fail)
          go_wp2_with fail
          exact ⟨⟨j + 1, _, by omega, by go_num, rfl, Lib.hid (fun k hk => by
            rcases Nat.lt_or_ge k j with h' | h'
            · exact HAT.out k h'
            · have e : k = j := by omega
              rw [e, HGT.out]
              exact HD.out)⟩, by simp [intOf]; omega⟩
        · have HD : Hid (due S t = false) := Lib.hid (by unfold due; simp [hd])
          have HGD := Lib.hid (HGT.out ▸ HD.out : due S (S.tm.getD j tz) = false)
          have hdb : (t.at_ == S.now + 1) = false := by simp [hd]
          have hjc : (j : Int) ≤ vc := by omega
          clear hd
          go_wp2_with fail
          go_quiet (fail)
          clear hdb q1 HE HGT
          have hwh := while_at (p := due S) (l := S.tm) (d := j) (by rw [HL.out]; exact hj) HAT.out (fun hd => HGD.out)
          have HTW := Lib.hid hwh.1
          have HDW := Lib.hid hwh.2
          clear hwh
          have kq : NTx (W1.drewN (q + nq)) n P (S.clocked (S.now + 1)) db mb (.slice (some ⟨g, 0, none⟩) L vc) sv D k := HC.out.keep (w' := W1.drewN (q + nq)) (Nat.le_refl _) (fun _ _ _ => rfl)
          obtain ⟨a', c', w2, hrun, ro, hb⟩ := copy_first (l := S.tm) kq.ht HFW.out j (by rw [HL.out]; exact hj) (va := (some ⟨g, 0, none⟩)) (c := vc) (by rw [HL.out])
          have k2 := kq.on_ hb
          have HDL := Lib.hid (del3_any k2.ht HFW.out j (by show j ≤ S.tm.length; rw [HL.out]; exact hj))
          have HRO := Lib.hid ro
          have HBB := Lib.hid hb
          have K2 := Lib.hid k2
          obtain ⟨⟨x0, x1, x2, x3⟩, g0, g1, g2, g3⟩ := cells4 k2.hn
          have HX2 := Lib.hid x2
          have HG2 := Lib.hid g2
          have HTN := Lib.hid k2.tvn
          have HNL := Lib.hid (lt_of_block k2.hn)
          clear kq k2 ro hb x0 x1 x3 g0 g1 g2 g3
          go_wp2_with (at_builtin; refine Lib.wpList_append_run _ rfl _ _ _ _ rfl _ _ rfl rfl _ _ (hrun _) ?_)
          refine HDL.out.mono ?_
          rintro e w3 ⟨v', rfl, hk⟩
          obtain ⟨vb', vc', rfl⟩ := own_slice hk.1
          have HKP := Lib.hid hk
          have z0 := hk.2.2.cell HX2.out HTN.out
          have z1 := (hk.2.2.frozen (p := ⟨n, 2, none⟩) HNL.out HTN.out).trans HG2.out
          clear hk x2 hrun
          have hdrop : (List.drop j (S.clocked (S.now + 1)).tm).length = L - j := by rw [List.length_drop]; show S.tm.length - j = _; rw [HL.out]
          have HDR := Lib.hid hdrop
          rw [hdrop] at HKP ⊢
          clear hdrop
          go_wp2_with fail
          go_ret2
          have hlj : (S.tm.take j).length = j := by rw [List.length_take, HL.out]; omega
          rw [← HTW.out, ← HDW.out, hlj]
          have hkp := HKP.out
          have hto := NTx.timed_to K2.out hkp (by rw [HDR.out]; omega)
          have hW1s : (W1.drewN (q + nq)).heap.size = w.heap.size := HSZ.out
          have hro2 := hkp.own HRO.out (fun i e => by rw [hW1s]; exact HTB.out i e)
          have hbw : Below (W1.drewN (q + nq)).heap.size (W1.drewN (q + nq)) w2 := HBB.out
          refine ⟨a', c', rfl, ?_, ?_⟩
          · rw [hW1s] at hro2
            refine ownsRow_same hro2 (fun g hg => Below.heap_setCell _ _ _ _ (fun e => ?_))
            have h1 := (hro2.lt g hg).1
            have h2 : n < w.heap.size := HNW.out
            have e' : g = n := e
            omega
          · obtain ⟨P', p1, p2, p3⟩ := hto
            refine ⟨P', p1, fun b e => (p2 b e).imp id (fun h => by have := hbw.size; rw [hW1s] at this; omega), ?_⟩
            have f1 : Fr P w (W1.drewN (q + nq)) := ⟨HFC.out.os, HFC.out.tape, HFC.out.output, HFC.out.size, HFC.out.block⟩
            exact (f1.then (Fr.of hbw)).then p3
      · rcases tm_form hrow with ⟨e, h0⟩ | ⟨g, c, cur, e, h1, h2, h3, h4, h5⟩
        · injection e with e1 e2 e3
          subst e1 e3
          have hj0 : j = 0 := by omega
          subst hj0
          subst e2
          clear hrow hlt h0
          go_wp2_with fail
          go_quiet (fail)
          have hwh := while_at (p := due S) (l := S.tm) (d := 0) (by omega) HAT.out (fun hd => by rw [HL.out] at hd; omega)
          have HTW := Lib.hid hwh.1
          have HDW := Lib.hid hwh.2
          clear hwh
          have kq : NTx (W1.drewN (q + nq)) n P (S.clocked (S.now + 1)) db mb (.slice none 0 0) sv D k := HC.out.keep (w' := W1.drewN (q + nq)) (Nat.le_refl _) (fun _ _ _ => rfl)
          obtain ⟨a', c', w2, hrun, ro, hb⟩ := copy_first (l := S.tm) kq.ht HFW.out 0 (by omega) (va := none) (c := 0) (by rw [HL.out])
          have k2 := kq.on_ hb
          have HDL := Lib.hid (del3_any k2.ht HFW.out 0 (by show 0 ≤ S.tm.length; omega))
          have HRO := Lib.hid ro
          have HBB := Lib.hid hb
          have K2 := Lib.hid k2
          obtain ⟨⟨x0, x1, x2, x3⟩, g0, g1, g2, g3⟩ := cells4 k2.hn
          have HX2 := Lib.hid x2
          have HG2 := Lib.hid g2
          have HTN := Lib.hid k2.tvn
          have HNL := Lib.hid (lt_of_block k2.hn)
          clear kq k2 ro hb x0 x1 x3 g0 g1 g2 g3
          go_wp2_with (at_builtin; refine Lib.wpList_append_run _ rfl _ _ _ _ rfl _ _ rfl rfl _ _ (hrun _) ?_)
          refine HDL.out.mono ?_
          rintro e w3 ⟨v', rfl, hk⟩
          obtain ⟨vb', vc', rfl⟩ := own_slice hk.1
          have HKP := Lib.hid hk
          have z0 := hk.2.2.cell HX2.out HTN.out
          have z1 := (hk.2.2.frozen (p := ⟨n, 2, none⟩) HNL.out HTN.out).trans HG2.out
          clear hk x2 hrun
          have hdrop : (List.drop 0 (S.clocked (S.now + 1)).tm).length = 0 := by rw [List.length_drop]; show S.tm.length - 0 = _; rw [HL.out]
          have HDR := Lib.hid hdrop
          rw [hdrop] at HKP ⊢
          clear hdrop
          go_wp2_with fail
          go_ret2
          have hlj : (S.tm.take 0).length = 0 := rfl
          rw [← HTW.out, ← HDW.out, hlj]
          have hkp := HKP.out
          have hto := NTx.timed_to K2.out hkp (by rw [HDR.out]; omega)
          have hW1s : (W1.drewN (q + nq)).heap.size = w.heap.size := HSZ.out
          have hro2 := hkp.own HRO.out (fun i e => by rw [hW1s]; exact HTB.out i e)
          have hbw : Below (W1.drewN (q + nq)).heap.size (W1.drewN (q + nq)) w2 := HBB.out
          refine ⟨a', c', rfl, ?_, ?_⟩
          · rw [hW1s] at hro2
            refine ownsRow_same hro2 (fun g hg => Below.heap_setCell _ _ _ _ (fun e => ?_))
            have h1 := (hro2.lt g hg).1
            have h2 : n < w.heap.size := HNW.out
            have e' : g = n := e
            omega
          · obtain ⟨P', p1, p2, p3⟩ := hto
            refine ⟨P', p1, fun b e => (p2 b e).imp id (fun h => by have := hbw.size; rw [hW1s] at this; omega), ?_⟩
            have f1 : Fr P w (W1.drewN (q + nq)) := ⟨HFC.out.os, HFC.out.tape, HFC.out.output, HFC.out.size, HFC.out.block⟩
            exact (f1.then (Fr.of hbw)).then p3
        · injection e with e1 e2 e3
          subst e1 e3
          unfold maxLen at h2
          rw [HL.out] at h1
          have hjc : (j : Int) ≤ vc := by omega
          clear hrow h3 h4 h5 e2
          go_wp2_with fail
          go_quiet (fail)
          have hwh := while_at (p := due S) (l := S.tm) (d := j) (by rw [HL.out]; exact hj) HAT.out (fun hd => by rw [HL.out] at hd; omega)
          have HTW := Lib.hid hwh.1
          have HDW := Lib.hid hwh.2
          clear hwh
          have kq : NTx (W1.drewN (q + nq)) n P (S.clocked (S.now + 1)) db mb (.slice (some ⟨g, 0, none⟩) L vc) sv D k := HC.out.keep (w' := W1.drewN (q + nq)) (Nat.le_refl _) (fun _ _ _ => rfl)
          obtain ⟨a', c', w2, hrun, ro, hb⟩ := copy_first (l := S.tm) kq.ht HFW.out j (by rw [HL.out]; exact hj) (va := (some ⟨g, 0, none⟩)) (c := vc) (by rw [HL.out])
          have k2 := kq.on_ hb
          have HDL := Lib.hid (del3_any k2.ht HFW.out j (by show j ≤ S.tm.length; rw [HL.out]; exact hj))
          have HRO := Lib.hid ro
          have HBB := Lib.hid hb
          have K2 := Lib.hid k2
          obtain ⟨⟨x0, x1, x2, x3⟩, g0, g1, g2, g3⟩ := cells4 k2.hn
          have HX2 := Lib.hid x2
          have HG2 := Lib.hid g2
          have HTN := Lib.hid k2.tvn
          have HNL := Lib.hid (lt_of_block k2.hn)
          clear kq k2 ro hb x0 x1 x3 g0 g1 g2 g3
          go_wp2_with (at_builtin; refine Lib.wpList_append_run _ rfl _ _ _ _ rfl _ _ rfl rfl _ _ (hrun _) ?_)
          refine HDL.out.mono ?_
          rintro e w3 ⟨v', rfl, hk⟩
          obtain ⟨vb', vc', rfl⟩ := own_slice hk.1
          have HKP := Lib.hid hk
          have z0 := hk.2.2.cell HX2.out HTN.out
          have z1 := (hk.2.2.frozen (p := ⟨n, 2, none⟩) HNL.out HTN.out).trans HG2.out
          clear hk x2 hrun
          have hdrop : (List.drop j (S.clocked (S.now + 1)).tm).length = L - j := by rw [List.length_drop]; show S.tm.length - j = _; rw [HL.out]
          have HDR := Lib.hid hdrop
          rw [hdrop] at HKP ⊢
          clear hdrop
          go_wp2_with fail
          go_ret2
          have hlj : (S.tm.take j).length = j := by rw [List.length_take, HL.out]; omega
          rw [← HTW.out, ← HDW.out, hlj]
          have hkp := HKP.out
          have hto := NTx.timed_to K2.out hkp (by rw [HDR.out]; omega)
          have hW1s : (W1.drewN (q + nq)).heap.size = w.heap.size := HSZ.out
          have hro2 := hkp.own HRO.out (fun i e => by rw [hW1s]; exact HTB.out i e)
          have hbw : Below (W1.drewN (q + nq)).heap.size (W1.drewN (q + nq)) w2 := HBB.out
          refine ⟨a', c', rfl, ?_, ?_⟩
          · rw [hW1s] at hro2
            refine ownsRow_same hro2 (fun g hg => Below.heap_setCell _ _ _ _ (fun e => ?_))
            have h1 := (hro2.lt g hg).1
            have h2 : n < w.heap.size := HNW.out
            have e' : g = n := e
            omega
          · obtain ⟨P', p1, p2, p3⟩ := hto
            refine ⟨P', p1, fun b e => (p2 b e).imp id (fun h => by have := hbw.size; rw [hW1s] at this; omega), ?_⟩
            have f1 : Fr P w (W1.drewN (q + nq)) := ⟨HFC.out.os, HFC.out.tape, HFC.out.output, HFC.out.size, HFC.out.block⟩
            exact (f1.then (Fr.of hbw)).then p3
end
end Go.Proofs.Ytfhlfklgngpklaa
