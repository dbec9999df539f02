/-
  Contract of (*Net).drop.
-/
import Derived.Test.YtfhlfklgngpklaaSnd
namespace Go.Proofs.Ytfhlfklgngpklaa
open Go.RowKit Go.Maps
open Go.Sort (Holds putRow putCells mapBlock onCells)
abbrev byts (s : ByteArray) : List UInt8 := s.data.toList
theorem strs_holds {w : World} {g c : Nat} {l : List ByteArray} (h : w.ownsRow 0 9 1 (.slice (some ⟨g, 0, none⟩) l.length c) l.length (strs l)) : Holds encStr w g 0 (l.map byts).toArray := by
  rcases h.2 with ⟨e0, _⟩ | ⟨g', cap', cur, e0, hb, hg, hn, hm, hs, ht⟩
  · cases e0
  · injection e0 with e1 _ e3
    injection e1 with e1
    injection e1 with e1
    subst e1; subst e3
    intro j hj
    have hj' : j < l.length := by simpa using hj
    refine ⟨?_, by simp [World.frozen?, hg]⟩
    rw [cell_of_row w g (0 + j) cur 9 (0, 0) hg, Nat.zero_add]
    have e : cur.toList[j]? = (cur.toList.take (l.length * 1))[j]? := by rw [List.getElem?_take, if_pos (by omega)]
    rw [← Array.getElem?_toList, e, ht]
    unfold strs encStr
    simp [hj', getElem!_pos]
theorem del_row {w : World} {g c q k m : Nat} {l l' : List ByteArray} (h : w.ownsRow 0 9 1 (.slice (some ⟨g, 0, none⟩) l.length c) l.length (strs l)) (hk : l'.length = m) (hl : m + k = l.length) :
    (putRow encStr (Sort.ahead w q) g 0 (l'.map byts ++ List.replicate k []).toArray).ownsRow 0 9 1 (.slice (some ⟨g, 0, none⟩) m c) l'.length (strs l') := by
  rcases h.2 with ⟨e0, _⟩ | ⟨g', cap', cur, e0, hb, hg, hn, hm, hs, ht⟩
  · cases e0
  · injection e0 with e1 _ e3
    injection e1 with e1
    injection e1 with e1
    subst e1; subst e3
    refine ⟨by rw [strs_len]; omega, .inr ⟨g, c, putCells encStr 0 (l'.map byts ++ List.replicate k []).toArray cur, by rw [hk], hb, ?_, by omega, hm, by simpa [putCells] using hs, ?_⟩⟩
    · simp [putRow, mapBlock, Sort.ahead, Array.getElem?_modify, hg, onCells]
    · apply List.ext_getElem?
      intro j
      rw [List.getElem?_take, Array.getElem?_toList]
      by_cases hj : j < l'.length
      · have hjc : j < cur.size := by omega
        have hj2 : j < (l'.map byts ++ List.replicate k []).length := by simp; omega
        simp only [Nat.mul_one, if_pos hj, putCells, Array.getElem?_mapIdx, Array.getElem?_eq_getElem hjc, Option.map_some]
        rw [if_pos ⟨by omega, by simpa using hj2⟩]
        have e5 : (l'.map byts ++ List.replicate k [])[j]? = some (byts l'[j]) := by rw [List.getElem?_append_left (by simpa using hj), List.getElem?_map, List.getElem?_eq_getElem hj]; rfl
        unfold strs encStr
        simp [hj, e5]
      · have : (strs l').length ≤ j := by rw [strs_len]; omega
        rw [List.getElem?_eq_none this, if_neg (by omega)]
theorem del_fr {w : World} {g q : Nat} {zs : List (List UInt8)} : Fr (fun j => j = g) w (putRow encStr (Sort.ahead w q) g 0 zs.toArray) := by
  refine ⟨rfl, rfl, rfl, by simp [putRow, mapBlock, Sort.ahead], fun j hj hn => ?_⟩
  simp [putRow, mapBlock, Sort.ahead, Array.getElem?_modify, Ne.symm hn]
theorem del9_any {w : World} {g c m : Nat} {l : List ByteArray} (h : w.ownsRow 0 9 1 (.slice (some ⟨g, 0, none⟩) l.length c) l.length (strs l)) (i : Nat) (hi : i < l.length) (hm : l.length = m + 1) :
    Calls Try.prog 63 #[.slice (some ⟨g, 0, none⟩) l.length c, .int .i64 (i : Int), .int .i64 ((i : Int) + 1)] w fun e w' => e = .returned (.slice (some ⟨g, 0, none⟩) m c) ∧
      w'.ownsRow 0 9 1 (.slice (some ⟨g, 0, none⟩) m c) (l.eraseIdx i).length (strs (l.eraseIdx i)) ∧ Fr (fun j => j = g) w w' := by
  have hcap : l.length ≤ c ∧ c ≤ maxLen := by
    rcases h.2 with ⟨e0, _⟩ | ⟨g', cap', cur, e0, hb, hg, hn, hm, hs, ht⟩
    · cases e0
    · injection e0 with _ _ e3
      subst e3
      exact ⟨hn, hm⟩
  have hc := Try.slices_Delete_string g 0 c i (i + 1) (l.map byts) w (strs_holds h) (by simpa using hcap.1) (by have := hcap.2; unfold maxLen at this; omega) (by omega) (by rw [List.length_map]; omega)
  have e1 : (((i + 1 : Nat)) : Int) = (i : Int) + 1 := by omega
  have e2 : (l.map byts).length = l.length := by simp
  have e3 : l.length - (i + 1 - i) = m := by omega
  rw [e1, e2, e3] at hc
  refine hc.mono ?_
  rintro e w' ⟨rfl, q, rfl⟩
  have e4 : (l.map byts).take i ++ (l.map byts).drop (i + 1) = (l.eraseIdx i).map byts := by
    rw [List.eraseIdx_eq_take_drop_succ, List.map_append, List.map_take, List.map_drop]
  rw [e4]
  have hk : (l.eraseIdx i).length = m := by rw [List.length_eraseIdx, if_pos hi]; omega
  have hr := del_row (q := q) (k := i + 1 - i) h hk (by omega)
  exact ⟨rfl, hr, del_fr⟩
theorem wp_del9 {o : Oper} {a : Act} {w : World} {K : Act → World → Prop} {Q : Exit → Act → World → Prop} {mb : Nat} {kv : Value} {R : World → Prop}
    (m x : Operand) (hop : o.op = Op.call { callee := Callee.builtin Builtin.delete, args := #[m, x], argTypes := #[57, 64] })
    (hm : a.eval m = .map (some mb)) (hx : a.eval x = kv) (hr : ∀ ty, ∃ w2, (Builtin.delete_ #[57, 64] ty #[.map (some mb), kv]).run Try.prog w = .ok (.tuple #[]) w2 ∧ R w2)
    (hK : ∀ w2, R w2 → K (a.put o.dst (.tuple #[])) w2) : Oper.wp Try.prog o a w K Q := by
  obtain ⟨w2, hrun, h2⟩ := hr o.type
  unfold Oper.wp
  simp [execOp, hop, resolve, invoke, builtin, hm, hx, hrun, Result.andThen]
  exact hK w2 h2
section
variable {w : World} {n : Nat} {P : Nat → Prop} {S : NS} {db mb : Nat} {tv : Value} {sv : Pr → Value} {D : DataW Unit} {k : Nat}
theorem drop_store {W w3 : World} (h : NTx W n P S db mb tv sv D k) {p : Pr} (hp : In S.N p) {g m c : Nat} {l' : List ByteArray} (hv : (sv p).ownBlock = some g) (hf : Fr (fun j => j = g) W w3)
    (ho : w3.ownsRow 0 9 1 (.slice (some ⟨g, 0, none⟩) m c) l'.length (strs l')) (hne : l' ≠ []) (hl : l'.length ≤ (S.bg p).length) (hsub : ∀ s ∈ l', s ∈ S.bg p) :
    ∃ w4, (Instr.mapUpdate 57 (.map (some mb)) (.agg #[.int .i64 p.a, .int .i64 p.b]) (.slice (some ⟨g, 0, none⟩) m c)).run Try.prog w3.drew = .ok () w4 ∧ To W w4 n P (S.set p l') := by
  have hb : ∀ j, P j → (sv p).ownBlock ≠ some j → w3.heap[j]? = W.heap[j]? := fun j hj hjs => hf.block j (h.lt j hj) (fun e => hjs (by rw [hv, e]))
  have hv' : ∀ j, (Value.slice (some ⟨g, 0, none⟩) m c).ownBlock = some j → (sv p).ownBlock = some j ∨ W.heap.size ≤ j := fun j e => Or.inl (by rw [hv]; exact e)
  have hsh := h.short p hp
  obtain ⟨w4, r1, r2, D', k', r3⟩ := h.store (w1 := w3.drew) hp hf.size hb ho hv' hne (by omega) (fun t ht => hsh.2 t (hsub t ht))
  refine ⟨w4, r1, _, ⟨_, _, _, _, _, _, r3⟩, fun b e => ?_, ?_⟩
  · rcases e with e | e
    · exact Or.inl e
    · exact Or.inl (h.os p b hp (by rw [hv]; exact e))
  · have f0 : Fr P W w3 := hf.mono (fun x e => h.os p x hp (by rw [hv, e]))
    have f1 : Fr P W w3.drew := ⟨f0.os, f0.tape, f0.output, f0.size, f0.block⟩
    exact f1.grown r2 (fun k e => Or.inl (by injection e with e; rw [← e]; exact h.om))
theorem drop_strike {W w3 : World} (h : NTx W n P S db mb tv sv D k) {p : Pr} (hp : In S.N p) {g : Nat} (hv : (sv p).ownBlock = some g) (hf : Fr (fun j => j = g) W w3) (ty : TypeId) :
    ∃ w4, (Builtin.delete_ #[57, 64] ty #[.map (some mb), .agg #[.int .i64 p.a, .int .i64 p.b]]).run Try.prog w3.drew = .ok (.tuple #[]) w4 ∧ To W w4 n P (S.set p []) := by
  have hb : ∀ j, P j → (sv p).ownBlock ≠ some j → w3.heap[j]? = W.heap[j]? := fun j hj hjs => hf.block j (h.lt j hj) (fun e => hjs (by rw [hv, e]))
  obtain ⟨w4, r1, r2, D', k', r3⟩ := h.strike (w1 := w3.drew) hp hf.size hb ty
  refine ⟨w4, r1, _, ⟨_, _, _, _, _, _, r3⟩, fun b e => ?_, ?_⟩
  · rcases e with e | e
    · exact Or.inl e
    · cases e
  · have f0 : Fr P W w3 := hf.mono (fun x e => h.os p x hp (by rw [hv, e]))
    have f1 : Fr P W w3.drew := ⟨f0.os, f0.tape, f0.output, f0.size, f0.block⟩
    exact f1.grown r2 (fun k e => Or.inl (by injection e with e; rw [← e]; exact h.om))
theorem fr_cell {g : Nat} {W w3 : World} (hf : Fr (fun j => j = g) W w3) {p : Addr} {u : Value} (hc : W.cell? p = some u) (hp : p.block < W.heap.size) (hne : p.block ≠ g) : w3.cell? p = some u := by
  have e := hf.block p.block hp hne
  rw [← hc]
  simp only [World.cell?, e]
set_option maxRecDepth 100000 in
set_option maxHeartbeats 1600000 in
theorem drop_any (h : NTx w n P S db mb tv sv D k) (p : Pr) (hp : In S.N p) (i : Nat) (hi : i < (S.bg p).length) :
    Calls Try.prog 42 #[.pointer (some ⟨n, 0, none⟩), .agg #[.int .i64 p.a, .int .i64 p.b], .int .i64 (i : Int)] w fun e w' => e = .returned (.tuple #[]) ∧ To w w' n P (S.set p ((S.bg p).eraseIdx i)) := by
  have hb1 : Below w.heap.size w (w.alloc (.cells #[.int .i64 p.a, .int .i64 p.b] 64)) := (Below.refl _ _).alloc (Nat.le_refl _) _
  have h1 := h.on_ hb1
  have h2 := h1.keep (w' := (w.alloc (.cells #[.int .i64 p.a, .int .i64 p.b] 64)).drew) (Nat.le_refl _) (fun _ _ _ => rfl)
  have q := h2.look hp
  have hrow := h2.row p hp
  have HSV := Lib.hid (h2.svn hp)
  have HSB : Hid ((sv p).ownBlock ≠ some w.heap.size) := Lib.hid (fun e => by have := h.lt _ (h.os p _ hp e); omega)
  have HSH := Lib.hid (h.short p hp)
  obtain ⟨m, hm⟩ : ∃ m, (S.bg p).length = m + 1 := ⟨(S.bg p).length - 1, by omega⟩
  have hel : ((S.bg p).eraseIdx i).length = m := by rw [List.length_eraseIdx, if_pos hi]; omega
  have HST := Lib.hid (fun (w3 : World) (g c : Nat) hv hf ho hne => drop_store (w3 := w3) (g := g) (m := m) (c := c) (l' := (S.bg p).eraseIdx i) h2 hp hv hf ho hne (by rw [hel]; omega) (fun s hs => List.mem_of_mem_eraseIdx hs))
  have HSK := Lib.hid (fun (w3 : World) (g : Nat) hv hf ty => drop_strike (w3 := w3) (g := g) h2 hp hv hf ty)
  obtain ⟨⟨c0, c1, c2, c3⟩, -⟩ := cells4 h1.hn
  obtain ⟨y0, y1⟩ := boxed w (.int .i64 p.a) (.int .i64 p.b)
  have HC1 : Hid ((w.alloc (.cells #[.int .i64 p.a, .int .i64 p.b] 64)).drew.cell? ⟨n, 1, none⟩ = some (.map (some mb))) := Lib.hid c1
  have HY0 : Hid ((w.alloc (.cells #[.int .i64 p.a, .int .i64 p.b] 64)).drew.cell? ⟨w.heap.size, 0, none⟩ = some (.int .i64 p.a)) := Lib.hid y0
  have HY1 : Hid ((w.alloc (.cells #[.int .i64 p.a, .int .i64 p.b] 64)).drew.cell? ⟨w.heap.size, 1, none⟩ = some (.int .i64 p.b)) := Lib.hid y1
  have HYL : Hid (w.heap.size < (w.alloc (.cells #[.int .i64 p.a, .int .i64 p.b] 64)).drew.heap.size) := Lib.hid (by show w.heap.size < (w.alloc _).heap.size; simp)
  have HLT := Lib.hid (lt_of_block h2.hn)
  have HB2 := Lib.hid hb1.drew
  generalize hls : S.bg p = l at *
  rcases row_form hrow with ⟨hv, hl0⟩ | ⟨g, c, hv, hc1, hc2, hg, hcs⟩
  · rw [hl0] at hi
    cases hi
  rw [hv] at q hrow HSV HSB HST HSK
  have HDEL := Lib.hid (del9_any hrow i hi hm)
  have hi' : (i : Int) + 1 ≤ 9223372036854775807 := by have := HSH.out.1; omega
  have hw : IntKind.i64.wrap ((i : Int) + 1) = (i : Int) + 1 := by rw [IntKind.wrap_i64]; omega
  have HMM := Lib.hid hm
  by_cases hm0 : m = 0
  · subst hm0
    have he0 : l.eraseIdx i = [] := List.eq_nil_of_length_eq_zero hel
    rw [he0]
    rw [he0] at HDEL HST
    clear h h1 h2 hb1 hrow hcs hv hls c0 c2 c3 hel he0 hc1 hc2 hg hp HST hm
    go_enter Try.func42, Try.ntmps42
    go_wp2_with fail
    go_region_law (rw [if_pos (by rfl)]; go_simp; go_at_call 63; refine (HDEL.out).mono ?_; rintro e w3 ⟨rfl, ho3, hf3⟩; have HF := Lib.hid hf3; have x1 := fr_cell hf3 HC1.out HLT.out (fun e => HSV.out (congrArg some e.symm)); have x2 := fr_cell hf3 HY0.out HYL.out (fun e => HSB.out (congrArg some e.symm)); have x3 := fr_cell hf3 HY1.out HYL.out (fun e => HSB.out (congrArg some e.symm)); clear ho3 hf3)
    all_goals
      clear c1 y0 y1 q
      go_wp2_with fail
      go_region_law (rw [if_pos (by rfl)]; refine wp_del9 (.tmp 23) (.tmp 24) rfl rfl rfl (HSK.out w3 g rfl HF.out) ?_; intro w4 h4; have HT := Lib.hid h4; clear h4)
      all_goals
        go_wp2_with fail
        (try simp only [Exit.inBlock, Exit.then])
        refine bodyPost_ret (results_none rfl _ _ _) rfl ?_
        exact ⟨rfl, HT.out.before HB2.out⟩
  · have hne : l.eraseIdx i ≠ [] := fun e => by rw [e] at hel; exact hm0 hel.symm
    have HNE := Lib.hid hne
    have hmz : ¬ ((m : Int) = 0) := by omega
    clear h h1 h2 hb1 hrow hcs hv hls c0 c2 c3 hel hc1 hc2 hg hp HSK hne hm hi hm0
    go_enter Try.func42, Try.ntmps42
    go_wp2_with fail
    go_region_law (rw [if_pos (by rfl)]; go_simp; go_at_call 63; refine (HDEL.out).mono ?_; rintro e w3 ⟨rfl, ho3, hf3⟩; obtain ⟨w4, hup, h4⟩ := HST.out w3 g c rfl hf3 ho3 HNE.out; have HT := Lib.hid h4; have x1 := fr_cell hf3 HC1.out HLT.out (fun e => HSV.out (congrArg some e.symm)); have x2 := fr_cell hf3 HY0.out HYL.out (fun e => HSB.out (congrArg some e.symm)); have x3 := fr_cell hf3 HY1.out HYL.out (fun e => HSB.out (congrArg some e.symm)); clear ho3 hf3 h4)
    all_goals
      clear c1 y0 y1 q hw hi'
      go_wp2_with fail
      go_region
      go_wp2_with fail
      go_end0
      exact ⟨rfl, HT.out.before HB2.out⟩
end
end Go.Proofs.Ytfhlfklgngpklaa
