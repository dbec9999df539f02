/-
  Contracts of a file's methods: isSafe, sync, left, tear; of slices.Clone of bytes.
-/
import Derived.Test.YtlbkmhlpgpfafaaLook
import Derived.WalkSmall
import Derived.Lib.SliceRun
namespace Go.Proofs.Ytlbkmhlpgpfafaa
open Go.RowKit Go.Maps
/-- What a file's struct holds: what it has lies in gh, what is safe in gs (none: nothing is). -/
structure FC (w : World) (b : Nat) (hv sv : Value) (gh : Nat) (gs : Option Nat) (p : PF) : Prop where
  hd : w.heap[b]? = some (.cells #[hv, sv, .bool p.kept] 67 (0, 0))
  has : BS w hv gh p.has
  hl : p.has.length ≤ 262144
  safe : (gs = none ∧ p.kept = false ∧ sv = .slice none 0 0 ∧ p.safe = []) ∨ ∃ g, gs = some g ∧ p.kept = true ∧ BS w sv g p.safe ∧ p.safe.length ≤ 262144 ∧ (g = gh → p.safe.length ≤ p.has.length)
theorem FA.fc {w : World} {ow : Nat → Option Nat} {f : Fl} (h : FA w ow f) : ∃ hv sv gh gs, FC w f.blk hv sv gh gs f.pf ∧ ow gh = some f.blk ∧ ∀ g, gs = some g → ow g = some f.blk := by
  obtain ⟨hv, sv, gh, h1, h2, h3, h4, h5⟩ := h
  rcases h5 with ⟨a, b, c⟩ | ⟨a, gs, b, c, e, d⟩
  · exact ⟨hv, sv, gh, none, ⟨h1, h2, h4, Or.inl ⟨rfl, a, b, c⟩⟩, h3, fun g hg => by cases hg⟩
  · exact ⟨hv, sv, gh, some gs, ⟨h1, h2, h4, Or.inr ⟨gs, rfl, a, b, e, d⟩⟩, h3, fun g hg => by injection hg with hg; subst hg; exact c⟩
theorem FC.fa {w : World} {ow : Nat → Option Nat} {f : Fl} {hv sv : Value} {gh : Nat} {gs : Option Nat} (h : FC w f.blk hv sv gh gs f.pf) (h1 : ow gh = some f.blk) (h2 : ∀ g, gs = some g → ow g = some f.blk) : FA w ow f := by
  refine ⟨hv, sv, gh, h.hd, h.has, h1, h.hl, ?_⟩
  rcases h.safe with ⟨_, a, b, c⟩ | ⟨g, a, b, c, e, d⟩
  · exact Or.inl ⟨a, b, c⟩
  · exact Or.inr ⟨b, g, c, h2 g a, e, d⟩
section
variable {w : World} {b : Nat} {hv sv : Value} {gh : Nat} {gs : Option Nat} {p : PF}
theorem FC.same {w' : World} (h : FC w b hv sv gh gs p) (hs : ∀ k, k = b ∨ k = gh ∨ gs = some k → w'.heap[k]? = w.heap[k]?) : FC w' b hv sv gh gs p := by
  refine ⟨(hs b (Or.inl rfl)).trans h.hd, h.has.same (hs gh (Or.inr (Or.inl rfl))), h.hl, ?_⟩
  rcases h.safe with h' | ⟨g, a, k, c, e, d⟩
  · exact Or.inl h'
  · exact Or.inr ⟨g, a, k, c.same (hs g (Or.inr (Or.inr a))), e, d⟩
theorem FC.drewN (h : FC w b hv sv gh gs p) (n : Nat) : FC (w.drewN n) b hv sv gh gs p := h.same (fun _ _ => rfl)
theorem FC.lt (h : FC w b hv sv gh gs p) : ∀ k, k = b ∨ k = gh ∨ gs = some k → k < w.heap.size := by
  rintro k (rfl | rfl | hk)
  · exact lt_of_block h.hd
  · exact h.has.lt
  · rcases h.safe with ⟨a, _⟩ | ⟨g, a, _, c, _⟩
    · rw [a] at hk; cases hk
    · rw [a] at hk; injection hk with hk; subst hk; exact c.lt
theorem FC.on {w' : World} (h : FC w b hv sv gh gs p) (hb : Below w.heap.size w w') : FC w' b hv sv gh gs p := h.same (fun k hk => hb.block k (h.lt k hk))
/-- What is safe, as a slice of bytes that is nil or lies somewhere. -/
theorem FC.sin (h : FC w b hv sv gh gs p) : ∃ a c, sv = .slice a p.safe.length c ∧ Lib.BytesIn w a p.safe.length (numsC p.safe) ∧ p.safe.length ≤ 262144 := by
  rcases h.safe with ⟨_, a, rfl, c⟩ | ⟨g, a, k, c, e, d⟩
  · rw [c]
    exact ⟨none, 0, rfl, Lib.BytesIn.nil _ _ _, by simp⟩
  · obtain ⟨c', hv, _, _⟩ := c.shape
    exact ⟨some ⟨g, 0, none⟩, c', hv, c.bytesIn, e⟩
set_option maxHeartbeats 400000 in
theorem isSafe_any (h : FC w b hv sv gh gs p) :
    Calls Try.prog 43 #[.pointer (some ⟨b, 0, none⟩)] w fun e w' => e = .returned (.bool (isSafe p)) ∧ Below w.heap.size w w' := by
  obtain ⟨⟨c0, c1, c2⟩, f0, f1, f2⟩ := cells3 h.hd
  obtain ⟨c, hhv, _, _⟩ := h.has.shape
  obtain ⟨a, c', hsv, hb, _⟩ := h.sin
  have HE := Lib.hid (fun j : Nat => Try.bytes_Equal_all (some ⟨gh, 0, none⟩) a p.has.length c p.safe.length c' (numsC p.has) (numsC p.safe) (w.drewN j) (numsC_len _) (numsC_len _) h.has.bytesIn hb)
  rw [numsC_bytes, numsC_bytes] at HE
  subst hhv hsv
  have HW : Hid (isSafe p = (p.kept && (p.has == p.safe))) := by
    show _ = _
    unfold isSafe
    congr 1
    rw [Bool.eq_iff_iff]; simp
  rw [HW.out]
  generalize (p.has == p.safe) = q at *
  generalize p.has.length = N at *
  generalize p.safe.length = M at *
  cases hk : p.kept with
  | false =>
    rw [hk] at c2
    go_enter Try.func43, Try.ntmps43
    go_wp2_with fail
    go_quiet (fail)
    go_wp2_with fail
    go_ret
    exact ⟨rfl, below_drewN (Below.refl _ _) _⟩
  | true =>
    rw [hk] at c2
    go_enter Try.func43, Try.ntmps43
    go_wp2_with fail
    go_quiet ((go_at_call 57; exact Calls.quiet_of_same (HE.out _)))
    go_wp2_with fail
    go_ret
    exact ⟨rfl, below_drewN (Below.refl _ _) _⟩
/-- What a file is once it is synced. -/
theorem sync_any (h : FC w b hv sv gh gs p) :
    Calls Try.prog 42 #[.pointer (some ⟨b, 0, none⟩)] w fun e w' => e = .returned (.tuple #[]) ∧ FC w' b hv hv gh (some gh) { p with safe := p.has, kept := true } ∧ (∀ k, k ≠ b → w'.heap[k]? = w.heap[k]?) ∧ w'.heap.size = w.heap.size ∧ w'.os = w.os ∧ w'.tape = w.tape ∧ w'.output = w.output := by
  obtain ⟨⟨c0, c1, c2⟩, f0, f1, f2⟩ := cells3 h.hd
  have hgb : gh ≠ b := by
    intro e
    obtain ⟨cur, fz, hk⟩ := h.has.kind
    rw [e, h.hd] at hk
    cases hk
  have e1 : (w.setCell ⟨b, 1, none⟩ hv).heap[b]? = some (.cells #[hv, hv, .bool p.kept] 67 (0, 0)) := by rw [heap_setCell_same w b 1 _ _ _ h.hd]; simp
  have e2 : ((w.setCell ⟨b, 1, none⟩ hv).setCell ⟨b, 2, none⟩ (.bool true)).heap[b]? = some (.cells #[hv, hv, .bool true] 67 (0, 0)) := by rw [heap_setCell_same _ b 2 _ _ _ e1]; simp
  have eo : ∀ k, k ≠ b → ((w.setCell ⟨b, 1, none⟩ hv).setCell ⟨b, 2, none⟩ (.bool true)).heap[k]? = w.heap[k]? := fun k hk => by
    rw [heap_setCell_other _ _ k _ hk, heap_setCell_other _ _ k _ hk]
  have HF := Lib.hid (show FC ((w.setCell ⟨b, 1, none⟩ hv).setCell ⟨b, 2, none⟩ (.bool true)) b hv hv gh (some gh) { p with safe := p.has, kept := true } from ⟨e2, h.has.same (eo gh hgb), h.hl, Or.inr ⟨gh, rfl, rfl, h.has.same (eo gh hgb), h.hl, fun _ => Nat.le_refl _⟩⟩)
  have HO := Lib.hid eo
  obtain ⟨c, hhv, _, _⟩ := h.has.shape
  clear eo e1 e2 hgb
  subst hhv
  go_enter Try.func42, Try.ntmps42
  go_wp2_with fail
  go_end0
  exact ⟨rfl, HF.out, HO.out, by simp, rfl, rfl, rfl⟩
end
theorem clone_run (w : World) (B : Nat) (hB : w.heap[B]? = some (.cells #[] 5 (0, 0))) (v : Value) (g : Nat) (l : List UInt8) (h : BS w v g l) (hl : l.length ≤ 262144) (ty : TypeId) :
    ∃ v' w' g', (Builtin.append_ #[65, 65] ty #[.slice (some ⟨B, 0, none⟩) 0 0, v]).run Try.prog w = .ok v' w' ∧ BS w' v' g' l ∧ B ≤ g' ∧ Below B w w' := by
  obtain ⟨i0, hi, hz0, hz1, hz2⟩ := info_parts info5
  have hlt := lt_of_block hB
  obtain ⟨c, rfl, hc, hc2⟩ := h.shape
  have hown : w.ownsRow 0 5 1 (.slice (some ⟨B, 0, none⟩) 0 0) 0 [] := ⟨rfl, Or.inr ⟨B, 0, #[], rfl, Nat.zero_le _, hB, Nat.le_refl _, by unfold maxLen; omega, rfl, rfl⟩⟩
  by_cases h0 : l.length = 0
  · have hnil : l = [] := List.eq_nil_of_length_eq_zero h0
    subst hnil
    refine ⟨.slice (some ⟨B, 0, none⟩) 0 0, w, B, ?_, ⟨0, #[], (0, 0), rfl, Nat.le_refl _, Nat.le_refl _, by unfold maxLen; omega, Or.inr rfl, hB, rfl⟩, Nat.le_refl _, Below.refl _ _⟩
    have hf := run_firstCells_some (P := Try.prog) w 1 0 ⟨g, 0, none⟩ 0 c [] (by simp) (by simp)
    simp [Builtin.append_, run_underlying Try.underlying65, sizeOf, typeInfo, hi, hz1, Builtin.lenOf, hf, storeCells]
  · obtain ⟨g', c', w', hr, ho, hg, hat, hlt'⟩ := run_append_lies (P := Try.prog) w 65 ty 0 5 i0 (.int .u8 0) 1 1 Try.underlying65 hi hz0 hz1 hz2 rfl (by decide) (.slice (some ⟨B, 0, none⟩) 0 0) 0 [] hown ⟨g, 0, none⟩ l.length c (bytesC l) (by rw [bytesC_len, Nat.mul_one]) h.cells (bytesC_one l) (by omega) (by unfold maxLen; omega) (by omega) (Nat.zero_le _) w.heap.size rfl
    have hge : B ≤ g' := by
      rcases hat with hat | hat
      · have : B = g' := by simpa [Value.ownBlock] using hat
        omega
      · omega
    have hob : ∀ k, k < B → some k ≠ (Value.slice (some ⟨B, 0, none⟩) 0 0).ownBlock := by
      intro k hk e
      have : k = B := by simpa [Value.ownBlock] using e
      omega
    refine ⟨_, w', g', hr, ?_, hge, ⟨hg.os, hg.tape, hg.output, hg.size, fun k hk => hg.block k (by omega) (hob k hk)⟩⟩
    rcases ho.2 with ⟨h', _⟩ | ⟨g2, c2, cur, h', _, hb, hn, hm, hcs, ht⟩
    · cases h'
    · rw [Nat.zero_add] at h' hn ht ⊢
      injection h' with h1 h2 h3
      injection h1 with h1
      injection h1 with h1
      subst h1 h3
      refine ⟨c', cur, (0, 0), rfl, hn, by rw [hcs]; omega, hm, Or.inr rfl, hb, ?_⟩
      rw [Nat.mul_one] at ht
      rw [ht, List.nil_append]
/-- append onto an empty slice, at the operation. -/
theorem wpList_clone {ops : Array Oper} {rest : List Oper} {o : Oper} {a : Act} {Q : Exit → Act → World → Prop} {w : World} (hgd : o.guard = none) (sl x : Operand)
    (ho : o.op = .call { callee := .builtin .append, args := #[sl, x], argTypes := #[65, 65] })
    (B : Nat) (hB : w.heap[B]? = some (.cells #[] 5 (0, 0))) (v : Value) (g : Nat) (l : List UInt8) (h : BS w v g l) (hl : l.length ≤ 262144) (hs : a.eval sl = .slice (some ⟨B, 0, none⟩) 0 0) (hx : a.eval x = v)
    (hK : ∀ v' w' g', BS w' v' g' l → B ≤ g' → Below B w w' → wpList Try.prog ops Q rest (a.put o.dst v') w') : wpList Try.prog ops Q (o :: rest) a w := by
  refine wpList_plain hgd fun K hK' => ?_
  obtain ⟨v', w', g', hr, h2, h3, h4⟩ := clone_run w B hB v g l h hl o.type
  unfold Oper.wp execOp
  simp only [ho, resolve, invoke, builtin, Sem.run_bind, Sem.run_pure, Result.andThen_ok, List.map_toArray, List.map_cons, List.map_nil, hs, hx, hr]
  exact hK' _ _ (hK v' w' g' h2 h3 h4)
set_option maxRecDepth 100000 in
set_option maxHeartbeats 400000 in
theorem clone_any {w : World} {v : Value} {g : Nat} {l : List UInt8} (h : BS w v g l) (hl : l.length ≤ 262144) :
    Calls Try.prog 58 #[v] w fun e w' => ∃ v' g', e = .returned v' ∧ BS w' v' g' l ∧ w.heap.size ≤ g' ∧ Below w.heap.size w w' := by
  obtain ⟨c, rfl, hc, hc2⟩ := h.shape
  have HB := Lib.hid h
  clear h
  generalize HN : l.length = N at *
  have hq := Lib.run_eql_slice_nil (P := Try.prog) w 65 5 (some ⟨g, 0, none⟩) N c 0 0 Try.underlying65
  rw [show (some (⟨g, 0, none⟩ : Addr)).isNone = false from rfl] at hq
  go_enter Try.func58, Try.ntmps58
  go_wp2_with (at_builtin; refine wpList_clone rfl (.tmp 5) (.tmp 6) rfl w.heap.size (heap_top _ _) _ g l (HB.out.same (Below.heap_alloc _ _ _ HB.out.lt)) (by omega) rfl rfl ?_; intro v1 w1 g1 hb1 hg1 hbl1)
  go_ret
  exact ⟨v1, g1, rfl, hb1, hg1, ((Below.refl _ _).alloc (Nat.le_refl _) _).trans hbl1⟩
end Go.Proofs.Ytlbkmhlpgpfafaa
