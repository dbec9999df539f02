/-
  Contract of (*Disk).Append.
-/
import Derived.Test.YtlbkmhlpgpfafaaOpB
namespace Go.Proofs.Ytlbkmhlpgpfafaa
open Go.RowKit Go.Maps Go.Joins
/-- append of a text, at the operation. -/
theorem wpList_bytes {ops : Array Oper} {rest : List Oper} {o : Oper} {a : Act} {Q : Exit → Act → World → Prop} {w : World} (hgd : o.guard = none) (sl x : Operand)
    (ho : o.op = .call { callee := .builtin .append, args := #[sl, x], argTypes := #[65, 9] })
    (v : Value) (g : Nat) (l : List UInt8) (h : BS w v g l) (s : ByteArray) (hl : l.length + s.size ≤ 262144) (hs : a.eval sl = v) (hx : a.eval x = .string s)
    (hK : ∀ v' w' g', BS w' v' g' (l ++ s.data.toList) → w.grownBy w' (some g) → (g' = g ∨ g' = w.heap.size) → (∀ v2 l2, BS w v2 g l2 → l2.length ≤ l.length → BS w' v2 g l2) → wpList Try.prog ops Q rest (a.put o.dst v') w') : wpList Try.prog ops Q (o :: rest) a w := by
  refine wpList_plain hgd fun K hK' => ?_
  obtain ⟨v', w', hr, h2⟩ := bytes_app w v g l h s hl o.type
  unfold Oper.wp execOp
  simp only [ho, resolve, invoke, builtin, Sem.run_bind, Sem.run_pure, Result.andThen_ok, List.map_toArray, List.map_cons, List.map_nil, hs, hx, hr]
  rcases h2 with ⟨b1, b2, b3⟩ | ⟨b1, b2⟩
  · exact hK' _ _ (hK v' w' g b1 b2 (Or.inl rfl) b3)
  · exact hK' _ _ (hK v' w' w.heap.size b1 ⟨b2.os, b2.tape, b2.output, b2.size, fun k hk _ => b2.block k hk (by simp)⟩ (Or.inr rfl) (fun v2 l2 h2 _ => h2.same (b2.block g h.lt (by simp))))
/-- A file behind an append to what it has, before the row is stored, and behind. -/
theorem FC.app {w w' : World} {b : Nat} {hv sv : Value} {gh : Nat} {gs : Option Nat} {p : PF} (h : FC w b hv sv gh gs p) {v' : Value} {g' : Nat} {m : List UInt8} (hm : p.has.length + m.length ≤ 262144) (h1 : BS w' v' g' (p.has ++ m)) (h2 : w.grownBy w' (some gh)) (h3 : g' = gh ∨ g' = w.heap.size)
    (h4 : ∀ v2 l2, BS w v2 gh l2 → l2.length ≤ p.has.length → BS w' v2 gh l2) :
    w'.heap[b]? = w.heap[b]? ∧ FC (w'.setCell ⟨b, 0, none⟩ v') b v' sv g' gs { p with has := p.has ++ m } := by
  have hb := lt_of_block h.hd
  have hgb : gh ≠ b := by
    intro e
    obtain ⟨cur, fz, hk⟩ := h.has.kind
    rw [e, h.hd] at hk
    cases hk
  have e0 : w'.heap[b]? = w.heap[b]? := h2.block b hb (fun e => hgb (by injection e with e; exact e.symm))
  have hgb' : g' ≠ b := by
    rcases h3 with rfl | rfl
    · exact hgb
    · omega
  have eo : ∀ k, k ≠ b → (w'.setCell ⟨b, 0, none⟩ v').heap[k]? = w'.heap[k]? := fun k hk => heap_setCell_other _ _ k _ hk
  refine ⟨e0, ?_, h1.same (eo g' hgb'), by simpa using hm, ?_⟩
  · rw [heap_setCell_same w' b 0 _ _ _ (e0.trans h.hd)]
    simp
  · rcases h.safe with h' | ⟨g, a, k, c, e, dd⟩
    · exact Or.inl h'
    · have hgk : g ≠ b := by
        intro e'
        obtain ⟨cur, fz, hk⟩ := c.kind
        rw [e', h.hd] at hk
        cases hk
      by_cases hg : g = gh
      · subst hg
        exact Or.inr ⟨g, a, k, (h4 _ _ c (dd rfl)).same (eo g hgk), e, fun _ => by have := dd rfl; simp; omega⟩
      · have e1 : w'.heap[g]? = w.heap[g]? := h2.block g c.lt (fun e => hg (by injection e))
        refine Or.inr ⟨g, a, k, (c.same e1).same (eo g hgk), e, fun e2 => ?_⟩
        rcases h3 with rfl | rfl
        · exact absurd e2 hg
        · have := c.lt
          omega
section
variable {w : World} {d : Nat} {ow : Nat → Option Nat} {mb : Option Nat} {L : List Fl} {fu : Bool} {n : Int} {S : PS}
theorem apS_eq {s m : List UInt8} (hk : knE S s = 0) {p : PF} (hp : fnd S s = some p) : apE S s m = (if 262144 < p.has.length + m.length then 2 else if chgOk S then 0 else 191) ∧
    apS S s m = if 262144 < p.has.length + m.length then S else if chgOk S then { chgUp S with fs := setK PF.nm s (fun f => { f with has := f.has ++ m }) S.fs } else chgDown S := by
  unfold apE apS apLong
  rw [hk, hp]
  simp
set_option maxHeartbeats 1600000 in
theorem Append_any (h : DK w d ow S) (s m : ByteArray) (hs : s.size ≤ 140737488351232) (hm : m.size ≤ 140737488351232) :
    Calls Try.prog 16 #[.pointer (some ⟨d, 0, none⟩), .string s, .string m] w fun e w' => e = .returned (.int .i64 (apE S s.data.toList m.data.toList)) ∧ To w w' d ow (apS S s.data.toList m.data.toList) := by
  obtain ⟨mb, L, fu, n, h⟩ := h.dp
  have HF := Lib.hid (find_any h.dm s (by unfold maxLen; omega))
  rw [h.fie] at HF
  by_cases hk : knE S s.data.toList = 0
  · obtain ⟨f, _, hf, hnm, hfn, hfp⟩ := h.at hk
    rw [hfp, hk] at HF
    rw [(apS_eq hk hfn).1, (apS_eq hk hfn).2]
    have hml : m.data.toList.length = m.size := by rw [Array.length_toList]; rfl
    rw [hml]
    have HC := Lib.hid (change_up h)
    have HC2 := Lib.hid (change_no h)
    have HO := Lib.hid h.dm.out
    have HOB := Lib.hid (h.dm.ob f hf).1
    obtain ⟨hv0, sv0, gh0, gs0, hfc0, _, _⟩ := (h.fa f hf).fc
    obtain ⟨⟨c0, c1, c2⟩, f0, f1, f2⟩ := cells3 hfc0.hd
    obtain ⟨cc, hhv0, _, _⟩ := hfc0.has.shape
    have hl0 := hfc0.hl
    have HD := Lib.hid h.dk.self
    have hw : IntKind.i64.wrap ((f.pf.has.length : Int) + m.size) = (f.pf.has.length : Int) + m.size := by rw [IntKind.wrap_i64] <;> omega
    subst hhv0
    clear hk hfp hfc0 h
    obtain ⟨N, HN⟩ := named f.pf.has.length
    rw [HN.out] at c0 hl0 hw ⊢
    by_cases hlong : 262144 < N + m.size
    · rw [if_pos hlong, if_pos hlong]
      have hlong' : (262144 : Int) < (N : Int) + m.size := by omega
      clear hlong
      go_enter Try.func16, Try.ntmps16
      go_wp2_with fail
      refine HF.out.mono ?_
      rintro e w1 ⟨rfl, rfl⟩
      go_wp2_with fail
      go_ret
      exact ⟨rfl, HD.out⟩
    · rw [if_neg hlong, if_neg hlong]
      have hlong' : ¬ (262144 : Int) < (N : Int) + m.size := by omega
      have HLG := Lib.hid hlong
      clear hlong
      cases hc : chgOk S with
      | false =>
        have HC := Lib.hid (HC2.out hc)
        rw [if_neg (by decide), if_neg (by decide)]
        go_enter Try.func16, Try.ntmps16
        go_wp2_with fail
        refine HF.out.mono ?_
        rintro e w1 ⟨rfl, rfl⟩
        go_wp2_with fail
        refine HC.out.mono ?_
        rintro e w2 ⟨rfl, h2⟩
        go_wp2_with fail
        go_ret
        exact ⟨rfl, h2⟩
      | true =>
        have HC := Lib.hid (HC.out hc)
        rw [if_pos rfl, if_pos rfl]
        go_enter Try.func16, Try.ntmps16
        go_wp2_with fail
        refine HF.out.mono ?_
        rintro e w1 ⟨rfl, rfl⟩
        go_wp2_with fail
        refine HC.out.mono ?_
        rintro e w2 ⟨rfl, n', h2, hfr, hz⟩
        obtain ⟨hv, sv, gh, gs, hfc, hgh, hgs⟩ := (h2.fa f hf).fc
        clear c0 c1 c2 f0 f1 f2
        obtain ⟨⟨c0, c1, c2⟩, f0, f1, f2⟩ := cells3 hfc.hd
        obtain ⟨cc', hhv, _, _⟩ := hfc.has.shape
        rw [HN.out] at hhv
        subst hhv
        have HFC := Lib.hid hfc
        clear hfc
        go_wp2_with (at_builtin; refine wpList_bytes rfl (.tmp 37) (.tmp 38) rfl _ gh f.pf.has HFC.out.has m (by have := HLG.out; have := HN.out; omega) rfl rfl ?_; intro v3 w3 g3 hb3 hgr3 hg3 hk3; obtain ⟨hq3, hfc3⟩ := HFC.out.app (by have := HLG.out; have := HN.out; omega) hb3 hgr3 hg3 hk3; obtain ⟨c3, hv3, _, _⟩ := hb3.shape; obtain ⟨N3, HN3⟩ := named (f.pf.has ++ m.data.toList).length; rw [HN3.out] at hv3; have HFC3 := Lib.hid hfc3; have HB3 := Lib.hid hb3; have HG3 := Lib.hid (And.intro hgr3 hg3); clear hfc3 hb3 hk3 hgr3 hg3; subst hv3; obtain ⟨⟨q0, q1, q2⟩, r0, r1, r2⟩ := cells3 (hq3.trans HFC.out.hd))
        go_ret
        have hgl : g3 < w3.heap.size := HB3.out.lt
        have hz3 : w2.heap.size ≤ w3.heap.size := HG3.out.1.size
        have how : ∀ k, k < w2.heap.size → (if k = g3 then some f.blk else ow k) = ow k := by
          intro k hk
          by_cases e : k = g3
          · rw [if_pos e, e]
            rcases HG3.out.2 with e3 | e3
            · rw [e3]; exact hgh.symm
            · omega
          · rw [if_neg e]
        refine ⟨rfl, fun k => if k = g3 then some f.blk else ow k, ?_, fun k hk => how k (by omega), ?_⟩
        · have := (h2.setF hf (fun p => { p with has := p.has ++ m.data.toList }) (fun _ => rfl) (w' := w3.setCell ⟨f.blk, 0, none⟩ (.slice (some ⟨g3, 0, none⟩) N3 c3)) (ow' := fun k => if k = g3 then some f.blk else ow k)
            (FC.fa (f := ⟨{ f.pf with has := f.pf.has ++ m.data.toList }, f.blk⟩) HFC3.out (if_pos rfl) (fun g hg => by
              show (if g = g3 then some f.blk else ow g) = some f.blk
              split
              · rfl
              · exact hgs g hg))
            (fun k hk hk' hk'' => by
              rw [heap_setCell_other _ _ k _ (fun e => hk'' (by rw [e]; exact HOB.out))]
              exact HG3.out.1.block k hk (fun e => hk'' (by injection e with e; rw [e]; exact hgh)))
            how (fun b hb => by
              have hb' : w3.heap.size ≤ b := by simpa using hb
              rw [if_neg (by omega)]
              exact HO.out b (by omega))).dk
          rw [hnm] at this
          exact this
        · exact hfr.then (((Fr.refl (Ow ow) w2).grown HG3.out.1 (fun k hk => Or.inl (by injection hk with hk; rw [← hk]; unfold Ow; rw [hgh]; simp))).setCell _ _ (Or.inl (by unfold Ow; rw [HOB.out]; simp)))
  · rw [show apE S s.data.toList m.data.toList = knE S s.data.toList by unfold apE; rw [if_pos hk], show apS S s.data.toList m.data.toList = S by unfold apS; rw [if_pos hk]]
    obtain ⟨k, HK⟩ := named (knE S s.data.toList)
    rw [HK.out] at hk HF ⊢
    have hk' : (k == 0) = false := beq_eq_false_iff_ne.2 hk
    generalize fiP L s.data.toList = v at *
    have HD := Lib.hid h.dk.self
    clear h
    go_enter Try.func16, Try.ntmps16
    go_wp2_with fail
    refine HF.out.mono ?_
    rintro e w1 ⟨rfl, rfl⟩
    go_wp2_with fail
    go_ret
    exact ⟨rfl, HD.out⟩
end
end Go.Proofs.Ytlbkmhlpgpfafaa
