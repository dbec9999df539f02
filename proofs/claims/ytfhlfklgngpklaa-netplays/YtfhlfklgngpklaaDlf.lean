/-
  Contract of slices.DeleteFunc over timers.
-/
import Derived.Test.YtfhlfklgngpklaaDwn
import Derived.Test.YtfhlfklgngpklaaSet
namespace Go.Proofs.Ytfhlfklgngpklaa
open Go.RowKit Go.Maps
theorem run_clear3 (w : World) (g o n c : Nat) (cur : Array Value) (hg : w.heap[g]? = some (.cells cur 53 (0, 0))) (hn : 0 < n) (hfit : o + n * 3 ≤ cur.size) :
    ∃ cur' : Array Value, cur'.size = cur.size ∧ cur'.toList.take o = cur.toList.take o ∧ ∀ ty, (Builtin.clear_ #[48] ty #[.slice (some ⟨g, o, none⟩) n c]).run Try.prog w = .ok (.tuple #[]) (w.setRow g cur') := by
  obtain ⟨zs, hzs⟩ : ∃ zs, zs = (Builtin.zeroCells z53.cells n).toList := ⟨_, rfl⟩
  have hl : zs.length = n * 3 := by rw [hzs, Array.length_toList]; exact zc_size n
  have h1 : ∀ v ∈ zs, v.oneCell' = true := by
    intro v hv
    rw [hzs] at hv
    simp only [Builtin.zeroCells, z53, Value.cells, Array.toList_map, List.mem_map] at hv
    obtain ⟨k, _, rfl⟩ := hv
    have h3 : k % 3 < 3 := Nat.mod_lt _ (by decide)
    have hs : (#[Value.int .i64 0, Value.int .i64 0, Value.int .i64 0] : Array Value)[k % 3]! = .int .i64 0 := by
      match k % 3, h3 with
      | 0, _ => rfl
      | 1, _ => rfl
      | 2, _ => rfl
    first | (rw [hs]; rfl) | (simp only [List.size_toArray, List.length_cons, List.length_nil]; rw [hs]; rfl)
  have hst := run_storeCells_at Try.prog g o 53 zs 0 cur w hg (by rw [hl]; simpa using hfit) h1
  have hzv : (zeroValue 53).run Try.prog w = .ok z53 w := by kernel_rfl
  have hto : (cur.toList.take o).length = o := by rw [List.length_take, Array.length_toList]; omega
  refine ⟨(cur.toList.take o ++ zs ++ cur.toList.drop (o + zs.length)).toArray, ?_, ?_, fun ty => ?_⟩
  · simp only [List.size_toArray, List.length_append, List.length_take, List.length_drop, Array.length_toList, hl]
    omega
  · show (cur.toList.take o ++ zs ++ cur.toList.drop (o + zs.length)).take o = _
    rw [List.append_assoc, List.take_append, hto, Nat.sub_self, List.take_zero, List.append_nil, List.take_of_length_le (by omega)]
  · obtain ⟨m, rfl⟩ : ∃ m, n = m + 1 := ⟨n - 1, by omega⟩
    simp only [Nat.add_zero] at hst
    simp [Builtin.clear_, run_underlying Try.underlying48, hzv, ← hzs, hst]
theorem wpList_clr {w : World} {ops : Array Oper} {rest : List Oper} {o : Oper} {a : Act} {Q : Exit → Act → World → Prop} (hgd : o.guard = none) (x : Operand)
    (ho : o.op = .call { callee := .builtin .clear, args := #[x], argTypes := #[48] }) (u : Value) (hx : a.eval x = u) {w' : World} (hr : ∀ ty, (Builtin.clear_ #[48] ty #[u]).run Try.prog w = .ok (.tuple #[]) w')
    (h : wpList Try.prog ops Q rest (a.put o.dst (.tuple #[])) w') : wpList Try.prog ops Q (o :: rest) a w := by
  refine wpList_plain hgd fun K' hK' => ?_
  unfold Oper.wp
  simp [execOp, ho, resolve, invoke, builtin, hx, hr, Result.andThen]
  exact hK' _ _ h
theorem tmC_set : ∀ (K : List Tm) (i : Nat) (t : Tm), i < K.length → tmC (K.set i t) = (((tmC K).set (i * 3) (.int .i64 t.nd)).set (i * 3 + 1) (.int .i64 t.at_)).set (i * 3 + 2) (.int .i64 t.tg)
  | u :: r, 0, t, _ => rfl
  | u :: r, i + 1, t, h => by
    rw [show (i + 1) * 3 = i * 3 + 1 + 1 + 1 by omega]
    show .int .i64 u.nd :: .int .i64 u.at_ :: .int .i64 u.tg :: tmC (r.set i t) = _
    rw [tmC_set r i t (by simpa using h)]
    rfl
theorem tm_stored {w : World} {b g c n : Nat} {K : List Tm} (h : w.ownsRow b 53 3 (.slice (some ⟨g, 0, none⟩) n c) n (tmC K)) (hK : K.length = n) (i : Nat) (hi : i < n) (t : Tm) :
    (((w.setCell ⟨g, i * 3, none⟩ (.int .i64 t.nd)).setCell ⟨g, i * 3 + 1, none⟩ (.int .i64 t.at_)).setCell ⟨g, i * 3 + 2, none⟩ (.int .i64 t.tg)).ownsRow b 53 3 (.slice (some ⟨g, 0, none⟩) n c) n (tmC (K.set i t)) ∧
      Fr (fun j => j = g) w (((w.setCell ⟨g, i * 3, none⟩ (.int .i64 t.nd)).setCell ⟨g, i * 3 + 1, none⟩ (.int .i64 t.at_)).setCell ⟨g, i * 3 + 2, none⟩ (.int .i64 t.tg)) := by
  have f0 : Fr (fun j => j = g) w w := Fr.refl _ _
  have f1 := f0.setCell ⟨g, i * 3, none⟩ (.int .i64 t.nd) (Or.inl rfl)
  have f2 := f1.setCell ⟨g, i * 3 + 1, none⟩ (.int .i64 t.at_) (Or.inl rfl)
  have f3 := f2.setCell ⟨g, i * 3 + 2, none⟩ (.int .i64 t.tg) (Or.inl rfl)
  refine ⟨?_, f3⟩
  rcases h.2 with ⟨e0, _⟩ | ⟨g', c', cur, e0, hb, hg, hn, hm, hs, ht⟩
  · cases e0
  · injection e0 with e1 _ e3
    injection e1 with e1
    injection e1 with e1
    subst e1; subst e3
    rw [setCell_eq_setRow w g (i * 3) cur 53 (0, 0) _ hg, setCell_eq_setRow _ g (i * 3 + 1) _ 53 (0, 0) _ (setRow_heap w g cur _ 53 (0, 0) hg), setRow_setRow, setCell_eq_setRow _ g (i * 3 + 2) _ 53 (0, 0) _ (setRow_heap w g cur _ 53 (0, 0) hg), setRow_setRow]
    refine ⟨by rw [tmC_len, List.length_set, hK], Or.inr ⟨g, c, _, rfl, hb, setRow_heap w g cur _ 53 (0, 0) hg, hn, hm, by simpa using hs, ?_⟩⟩
    rw [tmC_set K i t (by omega), ← ht]
    simp only [Array.toList_setIfInBounds, List.take_set]
/-- The timers of other nodes. -/
def flt (a : Int) (l : List Tm) : List Tm := l.filter (fun t => !decide (t.nd = a))
theorem flt_all {a : Int} : ∀ {l : List Tm}, (∀ k, k < l.length → (l.getD k tz).nd ≠ a) → flt a l = l
  | [], _ => rfl
  | t :: r, h => by
    have h0 : t.nd ≠ a := h 0 (by simp)
    have ih := flt_all (l := r) (fun k hk => h (k + 1) (by simpa using hk))
    unfold flt at ih ⊢
    simp [h0, ih]
theorem flt_take {a : Int} {l : List Tm} {i : Nat} (hi : i ≤ l.length) (h : ∀ k, k < i → (l.getD k tz).nd ≠ a) : flt a (l.take i) = l.take i := by
  refine flt_all (fun k hk => ?_)
  rw [List.length_take] at hk
  have := h k (by omega)
  rw [List.getD, List.getElem?_take, if_pos (by omega)]
  exact this
theorem flt_succ {a : Int} {l : List Tm} {j : Nat} (hj : j < l.length) : flt a (l.take (j + 1)) = flt a (l.take j) ++ (if l[j].nd = a then [] else [l[j]]) := by
  unfold flt
  rw [List.take_succ_eq_append_getElem hj, List.filter_append]
  congr 1
  by_cases h : l[j].nd = a <;> simp [h]
theorem flt_len (a : Int) (l : List Tm) : (flt a l).length ≤ l.length := List.length_filter_le _ _
theorem flt_rising {a : Int} {l : List Tm} (h : Rising l) : Rising (flt a l) := h.filter _
theorem tm_frozen {w : World} {b g c n : Nat} {xs : List Value} (h : w.ownsRow b 53 3 (.slice (some ⟨g, 0, none⟩) n c) n xs) (k : Nat) : w.frozen? ⟨g, k, none⟩ = false := by
  rcases h.2 with ⟨e0, _⟩ | ⟨g', c', cur, e0, hb, hg, hn, hm, hs, ht⟩
  · cases e0
  · injection e0 with e1 _ e3
    injection e1 with e1
    injection e1 with e1
    subst e1
    simp [World.frozen?, hg]
theorem tm_cut {w : World} {g c n m : Nat} {K : List Tm} (h : w.ownsRow 0 53 3 (.slice (some ⟨g, 0, none⟩) n c) n (tmC K)) (hK : K.length = n) (hm : m < n) :
    ∃ cur' : Array Value, (∀ ty, (Builtin.clear_ #[48] ty #[.slice (some ⟨g, m * 3, none⟩) (n - m) (c - m)]).run Try.prog w = .ok (.tuple #[]) (w.setRow g cur')) ∧
      (w.setRow g cur').ownsRow 0 53 3 (.slice (some ⟨g, 0, none⟩) m c) m (tmC (K.take m)) ∧ Fr (fun j => j = g) w (w.setRow g cur') := by
  rcases h.2 with ⟨e0, _⟩ | ⟨g', c', cur, e0, hb, hg, hn, hmm, hs, ht⟩
  · cases e0
  · injection e0 with e1 _ e3
    injection e1 with e1
    injection e1 with e1
    subst e1; subst e3
    obtain ⟨cur', h1, h2, h3⟩ := run_clear3 w g (m * 3) (n - m) (c - m) cur hg (by omega) (by rw [hs]; omega)
    refine ⟨cur', h3, ⟨by rw [tmC_len, List.length_take, hK]; omega, Or.inr ⟨g, c, cur', rfl, hb, setRow_heap w g cur _ 53 (0, 0) hg, by omega, hmm, by rw [h1, hs], ?_⟩⟩, rfl, rfl, rfl, by simp, fun j hj hn => setRow_other w g j _ hn⟩
    rw [h2, ← tmC_take, ← ht, List.take_take, Nat.min_eq_left (by omega)]
set_option maxRecDepth 100000 in
set_option maxHeartbeats 3200000 in
theorem delf_any {w : World} {v : Value} {l : List Tm} (h : w.ownsRow 0 53 3 v l.length (tmC l)) (hl : l.length ≤ 16384) {bx : Nat} {a : Int} (hb : w.cell? ⟨bx, 0, none⟩ = some (.int .i64 a)) (hne : v.ownBlock ≠ some bx) :
    Calls Try.prog 44 #[v, .func (.func 45) #[] #[.pointer (some ⟨bx, 0, none⟩)]] w fun e w' => ∃ v', e = .returned v' ∧ Kept w w' v v' (flt a l) := by
  have H := Lib.hid h
  have HIX := Lib.hid (index_any h hl hb)
  obtain ⟨va, c, rfl⟩ := own_slice h
  have HBX := Lib.hid hb
  have hbx := World.block_lt_of_cell? w _ hb
  obtain ⟨N, HN⟩ := named l.length
  rw [HN.out] at hl H HIX hne ⊢
  have HNE := Lib.hid hne
  have HLE := Lib.hid hbx
  clear h hb hne hbx
  go_enter Try.func44, Try.ntmps44
  go_wp2_with fail
  refine HIX.out.mono ?_
  rintro e w1 ⟨⟨r, rfl, hr⟩, hb1⟩
  have HB1 := Lib.hid hb1
  rcases hr with ⟨rfl, hall⟩ | ⟨i0, rfl, hi0, hbef, hat⟩
  · have hfl : flt a l = l := flt_all (fun k hk => hall k (by rw [← HN.out]; exact hk))
    have HK : Hid (Kept w w1 (.slice va N c) (.slice va N c) (flt a l)) := by
      show Kept _ _ _ _ _
      rw [hfl]
      exact ⟨by rw [HN.out]; exact own_below H.out hb1, Or.inl rfl, Fr.of hb1⟩
    clear hall hfl hb1
    go_wp2_with fail
    go_ret
    exact ⟨_, rfl, HK.out⟩
  · obtain ⟨g, c2, e⟩ := own_form H.out (by omega)
    injection e with e1 _ e3
    subst e1 e3
    have hr1 := own_below H.out hb1
    have hi0l : i0 < l.length := by rw [HN.out]; exact hi0
    have hf1 : flt a (l.take (i0 + 1)) = l.take i0 := by
      rw [flt_succ hi0l, flt_take (by omega) hbef, ← getT hi0l, if_pos hat, List.append_nil]
    have HS : Hid (l.length = N ∧ l.take i0 = flt a (l.take (i0 + 1)) ∧ l.drop (i0 + 1) = l.drop (i0 + 1)) := Lib.hid ⟨HN.out, hf1.symm, rfl⟩
    have HR := Lib.hid hr1
    have HF : Hid (Fr (fun j => j = g) w w1) := Lib.hid (Fr.of hb1)
    have hiw : IntKind.i64.wrap ((i0 : Int) + 1) = (i0 : Int) + 1 := by rw [IntKind.wrap_i64]; omega
    have hi1 : ¬ ((i0 : Int) = -1) := by omega
    have hcc : N ≤ c ∧ c ≤ 9223372036854775807 := by
      rcases tm_form hr1 with ⟨e, _⟩ | ⟨g', c', cur, e, q1, q2, _⟩
      · cases e
      · injection e with _ _ e
        rw [← e] at q1 q2
        unfold maxLen at q2
        exact ⟨q1, q2⟩
    have HCC := Lib.hid hcc
    have HI0 := Lib.hid hi0
    clear hbef hat hr1 hf1 hb1 hi0l
    go_wp2_with fail
    go_loopw [5, 6] (fun lo hi wr => ∃ (ii jj : Nat) (K : List Tm), ii < jj ∧ jj ≤ N ∧ lo = .int .i64 ii ∧ hi = .int .i64 jj ∧ Hid (K.length = N ∧ K.take ii = flt a (l.take jj) ∧ K.drop jj = l.drop jj) ∧ Hid (wr.ownsRow 0 53 3 (.slice (some ⟨g, 0, none⟩) N c) N (tmC K)) ∧ Hid (Fr (fun j => j = g) w wr)) (fun _ hi _ => N - (intOf hi).toNat)
    case atStart => exact ⟨i0, i0 + 1, l, by omega, by omega, rfl, by go_num, Lib.hid ⟨HS.out.1, HS.out.2.1, rfl⟩, HR, HF⟩
    case round =>
      clear HS HR HF hiw hi1 hi0
      obtain ⟨ii, jj, K, hij, hjN, rfl, rfl, HS, HR, HF⟩ := hrel
      by_cases hlt : jj < N
      · have hjK : jj < K.length := by rw [HS.out.1]; exact hlt
        have hjl : jj < l.length := by rw [HN.out]; exact hlt
        have hKl : K[jj] = l[jj] := by
          have e1 : (K.drop jj)[0]? = (l.drop jj)[0]? := by rw [HS.out.2.2]
          rw [List.getElem?_drop, List.getElem?_drop, Nat.add_zero, List.getElem?_eq_getElem hjK, List.getElem?_eq_getElem hjl] at e1
          exact Option.some.inj e1
        have hr : wr.ownsRow 0 53 3 (.slice (some ⟨g, 0, none⟩) K.length c) K.length (tmC K) := by rw [HS.out.1]; exact HR.out
        obtain ⟨g', c', e, h1, h2, h3, q0, q1, q2⟩ := tm_at hr jj hjK
        injection e with e1 _ e3
        injection e1 with e1
        injection e1 with e1
        subst e1 e3
        have HFS := Lib.hid (flt_succ (a := a) hjl)
        rw [hKl] at q0 q1 q2
        obtain ⟨t, HE⟩ := named (l[jj])
        rw [HE.out] at q0 q1 q2 hKl HFS
        have hbw : Below wr.heap.size wr (wr.alloc (.cells #[.int .i64 t.nd, .int .i64 t.at_, .int .i64 t.tg] 53)) := (Below.refl _ _).alloc (Nat.le_refl _) _
        have hbx1 : wr.cell? ⟨bx, 0, none⟩ = some (.int .i64 a) := HF.out.cell HBX.out (fun e => HNE.out (by rw [← e]; rfl))
        have HCF := Lib.hid (downf_any (wr.alloc (.cells #[.int .i64 t.nd, .int .i64 t.at_, .int .i64 t.tg] 53)) t ((hbw.cell (p := ⟨bx, 0, none⟩) (World.block_lt_of_cell? wr _ hbx1)).trans hbx1))
        have HBW := Lib.hid hbw
        obtain ⟨y0, y1, y2⟩ := boxedT wr (.int .i64 t.nd) (.int .i64 t.at_) (.int .i64 t.tg)
        have HY := Lib.hid (And.intro y0 (And.intro y1 y2))
        have hwl : wr.heap.size < (wr.alloc (.cells #[.int .i64 t.nd, .int .i64 t.at_, .int .i64 t.tg] 53)).heap.size := by simp
        have HWL := Lib.hid hwl
        have hc1 := HCC.out.1
        have hc2 := HCC.out.2
        clear hr h1 h2 hKl hbw hbx1 hwl
        by_cases hd : t.nd = a
        · rw [show decide (t.nd = a) = true by simp [hd]] at HCF
          have HD := Lib.hid hd
          clear hd
          go_wp2_with fail
          refine HCF.out.mono ?_
          rintro e w2 ⟨rfl, hb2⟩
          have hb3 := bthen HBW.out hb2 (by have := HWL.out; omega)
          have HB3 := Lib.hid hb3
          clear hb2 hb3 y0 y1 y2
          go_wp2_with fail
          exact ⟨⟨_, _, _, _, _, _, _, _, _, _, _, _, _, _, _, _, _, _, _, _, _, _, _, ⟨ii, jj + 1, K, by omega, by omega, rfl, by go_num, Lib.hid ⟨HS.out.1, by rw [HFS.out, if_pos HD.out, List.append_nil]; exact HS.out.2.1, by
            rw [← List.drop_drop, HS.out.2.2, List.drop_drop]⟩, Lib.hid (own_below HR.out HB3.out), Lib.hid (HF.out.then (Fr.of HB3.out))⟩, rfl⟩, by simp [intOf]; omega⟩
        · rw [show decide (t.nd = a) = false by simp [hd]] at HCF
          have HD := Lib.hid hd
          clear hd
          go_wp2_with fail
          refine HCF.out.mono ?_
          rintro e w2 ⟨rfl, hb2⟩
          have hb3 := bthen HBW.out hb2 (by have := HWL.out; omega)
          have HB3 := Lib.hid hb3
          have hr2 := own_below HR.out hb3
          have z0 := (hb2.cell (p := ⟨wr.heap.size, 0, none⟩) HWL.out).trans HY.out.1
          have z1 := (hb2.cell (p := ⟨wr.heap.size, 1, none⟩) HWL.out).trans HY.out.2.1
          have z2 := (hb2.cell (p := ⟨wr.heap.size, 2, none⟩) HWL.out).trans HY.out.2.2
          have hr2' : w2.ownsRow 0 53 3 (.slice (some ⟨g, 0, none⟩) K.length c) K.length (tmC K) := by rw [HS.out.1]; exact hr2
          obtain ⟨g'', c'', e, _, _, _, x0, x1, x2⟩ := tm_at hr2' ii (by rw [HS.out.1]; omega)
          injection e with e1 _ e3
          injection e1 with e1
          injection e1 with e1
          subst e1 e3
          generalize (K[ii]'(by rw [HS.out.1]; omega)).nd = o0 at x0
          generalize (K[ii]'(by rw [HS.out.1]; omega)).at_ = o1 at x1
          generalize (K[ii]'(by rw [HS.out.1]; omega)).tg = o2 at x2
          have f0 := tm_frozen hr2 (ii * 3)
          have f1 := tm_frozen hr2 (ii * 3 + 1)
          have f2 := tm_frozen hr2 (ii * 3 + 2)
          have HST := Lib.hid (tm_stored hr2 HS.out.1 ii (by omega) t)
          clear hb2 hb3 hr2 hr2' y0 y1 y2
          go_wp2_with fail
          exact ⟨⟨_, _, _, _, _, _, _, _, _, _, _, _, _, _, _, _, _, _, _, _, _, _, _, ⟨ii + 1, jj + 1, K.set ii t, by omega, by omega, by go_num, by go_num, Lib.hid ⟨by rw [List.length_set]; exact HS.out.1, by
            have hk : ii < K.length := by rw [HS.out.1]; omega
            rw [List.take_succ_eq_append_getElem (by rw [List.length_set]; exact hk), List.getElem_set_self, List.take_set_of_le (Nat.le_refl _), HS.out.2.1, HFS.out, if_neg HD.out], by
            rw [List.drop_set_of_lt (by omega), ← List.drop_drop, HS.out.2.2, List.drop_drop]⟩, Lib.hid HST.out.1, Lib.hid ((HF.out.then (Fr.of HB3.out)).then HST.out.2)⟩, rfl⟩, by simp [intOf]; omega⟩
      · have e : jj = N := by omega
        subst e
        obtain ⟨cur', hcl, hr3, hf3⟩ := tm_cut HR.out HS.out.1 hij
        have hlt2 : l.take jj = l := List.take_of_length_le (by rw [HN.out]; exact Nat.le_refl _)
        have hki : K.take ii = flt a l := by rw [HS.out.2.1, hlt2]
        have hfl : (flt a l).length = ii := by rw [← hki, List.length_take, HS.out.1]; omega
        rw [hki] at hr3
        have HK : Hid (Kept w (wr.setRow g cur') (.slice (some ⟨g, 0, none⟩) jj c) (.slice (some ⟨g, 0, none⟩) ii c) (flt a l)) := Lib.hid ⟨by rw [hfl]; exact hr3, Or.inl rfl, (HF.out.then hf3).mono (fun j e => by rw [e]; rfl)⟩
        have hc1 := HCC.out.1
        have hc2 := HCC.out.2
        have hb2 : ¬ (c = ii) := by omega
        clear hr3 hf3 hlt2 hki hfl
        go_wp2_with (at_builtin; refine wpList_clr rfl _ rfl _ rfl (fun ty => hcl ty) ?_)
        go_ret
        exact ⟨_, rfl, HK.out⟩
end Go.Proofs.Ytfhlfklgngpklaa
