/-
  Reading an item as matrices: the call. Reading an item as matrices.
-/
import Derived.Test.YtchmiiclogmheaaDoorRd1
import Derived.Test.YtchmiiclogmheaaDoorMe6
namespace Go.Proofs.YtchmiiclogmheaaDoor.C2
open Go.RowKit
def okMs (t : T) : Bool := decide (t.k = 3) && t.l.all okX
def xMs (t : T) : List MX := t.l.map xX
/-- Matrices that lie in new blocks. -/
def MtsS (B : Nat) (w : World) (a : Option Addr) (l : List MX) : Prop := l = [] ∨ ∃ b o, a = some ⟨b, o, none⟩ ∧ B ≤ b ∧ b < w.heap.size ∧ ∀ j, j < l.length → ∃ x c, NmsS B .u64 w x (mat l j).ds ∧ w.cell? ⟨b, o + j * 4, none⟩ = some (.int .i64 (mat l j).lv) ∧ w.cell? ⟨b, o + j * 4 + 1, none⟩ = some (.int .i64 (mat l j).ce) ∧ w.cell? ⟨b, o + j * 4 + 2, none⟩ = some (.int .i64 (mat l j).ep) ∧ w.cell? ⟨b, o + j * 4 + 3, none⟩ = some (.slice x (mat l j).ds.length c)
theorem MtsS.mts {B : Nat} {w : World} {a : Option Addr} {l : List MX} (h : MtsS B w a l) : Mts w a l := by
  rcases h with h | ⟨b, o, h1, _, h2, h3⟩
  · exact Or.inl h
  · refine Or.inr ⟨b, o, h1, h2, fun j hj => ?_⟩
    obtain ⟨x, c, h4, h5⟩ := h3 j hj
    exact ⟨x, c, h4.nms, h5⟩
theorem MtsS.same {B B' : Nat} {w w' : World} {a : Option Addr} {l : List MX} (h : MtsS B w a l) (hs : ∀ b, B ≤ b → b < w.heap.size → B' ≤ b ∧ b < w'.heap.size ∧ w'.heap[b]? = w.heap[b]?) : MtsS B' w' a l := by
  rcases h with h | ⟨b, o, h1, h0, h2, h3⟩
  · exact Or.inl h
  · obtain ⟨g1, g2, g3⟩ := hs b h0 h2
    refine Or.inr ⟨b, o, h1, g1, g2, fun j hj => ?_⟩
    obtain ⟨x, c, h4, h5, h6, h7, h8⟩ := h3 j hj
    have e := fun i => World.cell?_of_block (w := w) (a := ⟨b, i, none⟩) g3
    exact ⟨x, c, h4.same hs, (e _).trans h5, (e _).trans h6, (e _).trans h7, (e _).trans h8⟩
theorem matrixOf_any (t : T) (w : World) (h : ∀ f, InF w f t) (h3 : t.l.length = 4 → (t.m 3).l.length ≤ 16384) : Calls Tryd.prog 93 #[t.val] w fun e w' => MxR w.heap.size t e w' ∧ Below w.heap.size w w' := by
  by_cases hn : t.l.length = 4
  · obtain ⟨k, n, s, a, cap, l⟩ := t
    have hn' : l.length = 4 := hn
    match l, hn' with
    | [x0, x1, x2, x3], _ => exact matrixOf_yes k n s a cap x0 x1 x2 x3 w h (h3 rfl)
  · exact matrixOf_no t w hn
/-- Matrices' cells, the first so many of them. -/
def vZ (r : Nat) : Value := if r = 3 then .slice none 0 0 else .int .i64 0
def vF (V : Nat → Nat → Value) (k i : Nat) : Value := if i / 4 < k then V (i / 4) (i % 4) else vZ (i % 4)
theorem vF_step (V : Nat → Nat → Value) (k i : Nat) (v0 v1 v2 v3 : Value) : updV (updV (updV (updV (vF V k) (k * 4) v0) (k * 4 + 1) v1) (k * 4 + 2) v2) (k * 4 + 3) v3 i = vF (fun j r => if j = k then (if r = 0 then v0 else if r = 1 then v1 else if r = 2 then v2 else v3) else V j r) (k + 1) i := by
  have key : ∀ r, r < 4 → (k * 4 + r) / 4 = k ∧ (k * 4 + r) % 4 = r := fun r hr => by omega
  unfold updV vF
  by_cases h3 : i = k * 4 + 3
  · subst h3
    rw [if_pos rfl, (key 3 (by omega)).1, (key 3 (by omega)).2, if_pos (by omega)]
    simp
  · rw [if_neg h3]
    by_cases h2 : i = k * 4 + 2
    · subst h2
      rw [if_pos rfl, (key 2 (by omega)).1, (key 2 (by omega)).2, if_pos (by omega)]
      simp
    · rw [if_neg h2]
      by_cases h1 : i = k * 4 + 1
      · subst h1
        rw [if_pos rfl, (key 1 (by omega)).1, (key 1 (by omega)).2, if_pos (by omega)]
        simp
      · rw [if_neg h1]
        by_cases h0 : i = k * 4
        · subst h0
          have := key 0 (by omega)
          rw [Nat.add_zero] at this
          rw [if_pos rfl, this.1, this.2, if_pos (by omega)]
          simp
        · rw [if_neg h0]
          by_cases h : i / 4 < k
          · rw [if_pos h, if_pos (by omega)]
            show _ = (if i / 4 = k then _ else V (i / 4) (i % 4))
            rw [if_neg (by omega)]
          · rw [if_neg h, if_neg (by omega)]
theorem info44 : (Tryd.prog.info? 44).map (fun i => (i.zero, i.size, i.bytes)) = some (some (.agg #[.int .i64 0, .int .i64 0, .int .i64 0, .slice none 0 0]), 4, 48) := by kernel_rfl
theorem made_mats (V : Nat → Nat → Value) (m : Nat) : madeCells (Value.agg #[.int .i64 0, .int .i64 0, .int .i64 0, .slice none 0 0]).cells (m * 4) = ((List.range (m * 4)).map (vF V 0)).toArray := by
  show madeCells #[.int .i64 0, .int .i64 0, .int .i64 0, .slice none 0 0] (m * 4) = _
  apply Array.ext'
  unfold madeCells
  rw [Array.toList_map, Array.toList_range]
  refine List.map_congr_left (fun i _ => ?_)
  show (#[Value.int .i64 0, .int .i64 0, .int .i64 0, .slice none 0 0] : Array Value)[i % 4]! = _
  unfold vF vZ
  rw [if_neg (by omega)]
  have : i % 4 = 0 ∨ i % 4 = 1 ∨ i % 4 = 2 ∨ i % 4 = 3 := by omega
  rcases this with h | h | h | h <;> rw [h] <;> rfl
/-- So many matrices are read. -/
structure MsG (p n k : Nat) (w wr : World) (V : Nat → Nat → Value) (l : List T) : Prop where
  tb : TbV wr (p + 1) (n * 4) 44 (vF V k)
  im : ∀ j, j < k → ∃ x c, NmsS (p + 2) .u64 wr x (xX (l.getD j T.zero)).ds ∧ V j 0 = .int .i64 (xX (l.getD j T.zero)).lv ∧ V j 1 = .int .i64 (xX (l.getD j T.zero)).ce ∧ V j 2 = .int .i64 (xX (l.getD j T.zero)).ep ∧ V j 3 = .slice x (xX (l.getD j T.zero)).ds.length c
  ok : (l.take k).all okX = true
  be : Below p w wr
theorem MsG.fin {p n : Nat} {w wr : World} {V : Nat → Nat → Value} {l : List T} (h : MsG p n n w wr V l) (hn : l.length = n) : MtsS p wr (some ⟨p + 1, 0, none⟩) (l.map xX) := by
  refine Or.inr ⟨p + 1, 0, rfl, by omega, h.tb.lt, fun j hj => ?_⟩
  have hj : j < n := by simpa [hn] using hj
  obtain ⟨x, c, h1, h2, h3, h4, h5⟩ := h.im j hj
  have e : mat (l.map xX) j = xX (l.getD j T.zero) := by
    unfold mat
    simp [List.getD, show j < l.length by omega]
  rw [e]
  have f : ∀ r, r < 4 → wr.cell? ⟨p + 1, 0 + j * 4 + r, none⟩ = some (V j r) := fun r hr => by
    rw [Nat.zero_add, h.tb.cell (v := j * 4 + r) (by omega)]
    unfold vF
    rw [show (j * 4 + r) / 4 = j by omega, show (j * 4 + r) % 4 = r by omega, if_pos hj]
  refine ⟨x, c, h1.same (fun b hb hb2 => ⟨by omega, hb2, rfl⟩), ?_, ?_, ?_, ?_⟩
  · rw [← h2]; exact f 0 (by omega)
  · rw [← h3]; exact f 1 (by omega)
  · rw [← h4]; exact f 2 (by omega)
  · rw [← h5]; exact f 3 (by omega)
theorem MsG.step {p n k : Nat} {w wr w1 w2 : World} {V : Nat → Nat → Value} {l : List T} {ra : Option Addr} {rc : Nat} {o : Obj} {x : MX} (h : MsG p n k w wr V l) (h1 : Below wr.heap.size wr w1) (h2 : Below w1.heap.size w1 w2) (hk : k < n) (hn : l.length = n) (ho : okX (l.getD k T.zero) = true) (hx : xX (l.getD k T.zero) = x) (hN : NmsS w1.heap.size .u64 w2 ra x.ds) :
    ∃ V', MsG p n (k + 1) w (((((w2.setCell ⟨p + 1, k * 4, none⟩ (.int .i64 x.lv)).setCell ⟨p + 1, k * 4 + 1, none⟩ (.int .i64 x.ce)).setCell ⟨p + 1, k * 4 + 2, none⟩ (.int .i64 x.ep)).setCell ⟨p + 1, k * 4 + 3, none⟩ (.slice ra x.ds.length rc)).alloc o) V' l ∧ ∀ b, b < wr.heap.size → b ≠ p + 1 → (((((w2.setCell ⟨p + 1, k * 4, none⟩ (.int .i64 x.lv)).setCell ⟨p + 1, k * 4 + 1, none⟩ (.int .i64 x.ce)).setCell ⟨p + 1, k * 4 + 2, none⟩ (.int .i64 x.ep)).setCell ⟨p + 1, k * 4 + 3, none⟩ (.slice ra x.ds.length rc)).alloc o).heap[b]? = wr.heap[b]? := by
  have hpw : p + 1 < wr.heap.size := h.tb.lt
  have hb2 : Below wr.heap.size wr w2 := bstep h1 h2
  have s1 := h1.size
  have s2 := h2.size
  have hT2 := h.tb.same (hb2.block _ hpw)
  have hF := four_sets (k := k) hT2 (.int .i64 x.lv) (.int .i64 x.ce) (.int .i64 x.ep) (.slice ra x.ds.length rc)
  have hO := fun b (h : b ≠ p + 1) => four_at (w := w2) (p := p + 1) (k := k) (a' := .int .i64 x.lv) (b' := .int .i64 x.ce) (c' := .int .i64 x.ep) (d' := .slice ra x.ds.length rc) h
  have hB := four_blw (p := p + 1) (k := k) (a' := .int .i64 x.lv) (b' := .int .i64 x.ce) (c' := .int .i64 x.ep) (d' := .slice ra x.ds.length rc) (h.be.trans (hb2.mono (by omega))) (by omega : p ≤ p + 1)
  generalize ((((w2.setCell ⟨p + 1, k * 4, none⟩ (.int .i64 x.lv)).setCell ⟨p + 1, k * 4 + 1, none⟩ (.int .i64 x.ce)).setCell ⟨p + 1, k * 4 + 2, none⟩ (.int .i64 x.ep)).setCell ⟨p + 1, k * 4 + 3, none⟩ (.slice ra x.ds.length rc)) = W4 at *
  have hlt : ∀ b, b < w2.heap.size → b ≠ p + 1 → b < W4.heap.size := fun b hb hn => by
    have h4 : w2.heap[b]? = some w2.heap[b] := Array.getElem?_eq_getElem hb
    rw [← hO b hn] at h4
    exact lt_of_block h4
  have hpW : p + 1 < W4.heap.size := hF.lt
  have hA : ∀ b, b < W4.heap.size → (W4.alloc o).heap[b]? = W4.heap[b]? := fun b hb => Below.heap_alloc _ _ _ hb
  have hpz := hB.size
  refine ⟨fun j r => if j = k then (if r = 0 then .int .i64 x.lv else if r = 1 then .int .i64 x.ce else if r = 2 then .int .i64 x.ep else .slice ra x.ds.length rc) else V j r, ⟨?_, fun j hj => ?_, ?_, hB.alloc (by omega) _⟩, fun b hb hn => (hA b (hlt b (by omega) hn)).trans ((hO b hn).trans (hb2.block b hb))⟩
  · exact (hF.same (hA _ hpW)).congr (fun v _ => vF_step V k v _ _ _ _)
  · by_cases e : j = k
    · subst e
      rw [hx]
      refine ⟨ra, rc, hN.same (fun b hb hb2 => ⟨by omega, ?_, (hA b (hlt b hb2 (by omega))).trans (hO b (by omega))⟩), by simp, by simp, by simp, by simp⟩
      have := hlt b hb2 (by omega)
      simp
      omega
    · obtain ⟨y, c, g1, g2, g3, g4, g5⟩ := h.im j (by omega)
      refine ⟨y, c, g1.same (fun b hb hb2 => ⟨hb, ?_, (hA b (hlt b (by omega) (by omega))).trans ((hO b (by omega)).trans (by exact (bstep h1 h2).block b hb2))⟩), by simp [e, g2], by simp [e, g3], by simp [e, g4], by simp [e, g5]⟩
      have := hlt b (by omega) (by omega)
      simp
      omega
  · have hkl : k < l.length := by omega
    refine all_take okX l k hkl h.ok ?_
    have : l.getD k T.zero = l[k] := by simp [List.getD, hkl]
    rw [← this]
    exact ho
end Go.Proofs.YtchmiiclogmheaaDoor.C2
namespace Go.Proofs.YtchmiiclogmheaaDoor.C2
open Go.RowKit
set_option maxRecDepth 100000 in
set_option maxHeartbeats 12800000 in
theorem readMs_any (t : T) (w : World) (h : ∀ f, InF w f t) (hl : t.l.length ≤ 16384) (h3 : ∀ j, j < t.l.length → (t.m j).l.length = 4 → ((t.m j).m 3).l.length ≤ 16384) : Calls Tryd.prog 89 #[t.val] w fun e w' => (okMs t = true → ∃ a c, e = .returned (.tuple #[.slice a (xMs t).length c, .bool true]) ∧ MtsS w.heap.size w' a (xMs t)) ∧ (okMs t = false → e = .returned (.tuple #[.slice none 0 0, .bool false])) ∧ Below w.heap.size w w' := by
  obtain ⟨k, n, s, a, cap, l⟩ := t
  replace hl : l.length ≤ 16384 := hl
  have HOK : Hid (okMs (.mk k n s a cap l) = (decide (k = 3) && l.all okX)) := Lib.hid rfl
  rw [HOK.out]
  have HX : Hid (xMs (.mk k n s a cap l) = l.map xX) := Lib.hid rfl
  rw [HX.out]
  have hv : (T.mk k n s a cap l).val = .agg #[.int .i64 k, .int .u64 n, .string s, .slice a l.length cap] := rfl
  rw [hv]
  obtain ⟨b, o, hab⟩ : ∃ b o, 0 < l.length → a = some ⟨b, o, none⟩ ∧ b < w.heap.size ∧ ∀ j, (hj : j < l.length) → l[j].at w b (o + j * 4) := by
    by_cases h0 : 0 < l.length
    · obtain ⟨b, o, h1, h2⟩ := (h 1).2.1 h0
      exact ⟨b, o, fun _ => ⟨h1, World.block_lt_of_cell? w _ (h2 0 h0).1, h2⟩⟩
    · exact ⟨0, 0, fun h => absurd h h0⟩
  have HMO : Hid (∀ j, (hj : j < l.length) → ∀ W, Below w.heap.size w W → Calls Tryd.prog 93 #[(l[j]).val] W fun e w' => MxR W.heap.size l[j] e w' ∧ Below W.heap.size W w') := Lib.hid (fun j hj W hW => matrixOf_any l[j] W (fun f => ((h (f + 1)).2.2 j hj).on hW) (fun h4 => by
    have e : (T.mk k n s a cap l).m j = l[j] := by
      unfold T.m T.l
      simp [List.getD, hj]
    have := h3 j hj
    rw [e] at this
    exact this h4))
  have HA := Lib.hid hab
  clear h hab HOK HX hv h3
  by_cases hk : k = 3
  rotate_left
  · have hk' : (k != 3) = true := by simp [hk]
    rw [decide_eq_false hk, Bool.false_and]
    clear HA HMO hl
    go_enter Tryd.func89, Tryd.ntmps89
    go_wp2_with fail
    go_ret2
    exact ⟨(fun h => by cases h), fun _ => rfl, (Below.refl _ _).alloc (Nat.le_refl _) _⟩
  subst hk
  rw [show decide ((3 : Int) = 3) = true from rfl, Bool.true_and]
  obtain ⟨i0, hi, hz0, hs0, hby0⟩ := info_parts info44
  obtain ⟨V0, _⟩ : ∃ V : Nat → Nat → Value, True := ⟨fun _ _ => undef, trivial⟩
  have hmk : ∀ w, (Instr.makeSlice 23 (.int .i64 l.length) (.int .i64 l.length)).run Tryd.prog w = .ok (.slice (some ⟨w.heap.size, 0, none⟩) l.length l.length) (w.alloc (.cells ((List.range (l.length * 4)).map (vF V0 0)).toArray 44)) := fun w => by
    have := run_make (P := Tryd.prog) w 23 44 i0 (.agg #[.int .i64 0, .int .i64 0, .int .i64 0, .slice none 0 0]) Tryd.underlying23 hi hz0 .i64 .i64 l.length l.length (by omega) (by omega) (by rw [hby0]; omega) (by omega)
    rw [hs0] at this
    rw [this, Int.toNat_natCast, made_mats V0]
  obtain ⟨AL, HAA⟩ := named (l.all okX)
  rw [HAA.out]
  obtain ⟨L, HL⟩ := named l.length
  rw [HL.out] at hl hmk ⊢
  have hlenx : (l.map xX).length = L := by rw [List.length_map, HL.out]
  rw [hlenx]
  go_enter Tryd.func89, Tryd.ntmps89
  generalize hp : w.heap.size = p at *
  go_wp2_with fail
  have hw1 : (w.alloc (.cells #[.int .i64 3, .int .u64 n, .string s, .slice a L cap] 54)).heap.size = p + 1 := by rw [World.size_alloc, hp]
  have HB0 : Hid (Below p w (w.alloc (.cells #[.int .i64 3, .int .u64 n, .string s, .slice a L cap] 54))) := Lib.hid ((Below.refl _ _).alloc (by omega) _)
  have HR0 := Lib.hid (heap_top w (.cells #[.int .i64 3, .int .u64 n, .string s, .slice a L cap] 54))
  rw [hp] at HR0
  generalize w.alloc (.cells #[.int .i64 3, .int .u64 n, .string s, .slice a L cap] 54) = W at *
  have HT0 : Hid (TbV (W.alloc (.cells ((List.range (L * 4)).map (vF V0 0)).toArray 44)) (p + 1) (L * 4) 44 (vF V0 0)) := by
    have h := heap_top W (.cells ((List.range (L * 4)).map (vF V0 0)).toArray 44)
    rw [hw1] at h
    exact h
  have HB1 : Hid (Below p w (W.alloc (.cells ((List.range (L * 4)).map (vF V0 0)).toArray 44))) := Lib.hid (HB0.out.alloc (by omega) _)
  have HR1 : Hid ((W.alloc (.cells ((List.range (L * 4)).map (vF V0 0)).toArray 44)).heap[p]? = some (.cells #[.int .i64 3, .int .u64 n, .string s, .slice a L cap] 54)) := Lib.hid ((Below.heap_alloc _ _ _ (by omega)).trans HR0.out)
  have hr1 := HR1.out
  generalize W.alloc (.cells ((List.range (L * 4)).map (vF V0 0)).toArray 44) = V at *
  obtain ⟨⟨y0, y1, y2, y3⟩, _⟩ := cells4 hr1
  have HM0 : Hid (∃ V1, MsG p L 0 w V V1 l) := Lib.hid ⟨V0, HT0.out, fun j hj => by omega, rfl, HB1.out⟩
  clear HB0 HR0 hw1 hmk hr1 HT0 HB1
  go_wp2_with fail
  go_loopw [19] (fun i wr => ∃ k : Nat, k ≤ L ∧ i = .int .i64 k ∧ Hid (∃ V1, MsG p L k w wr V1 l) ∧ Hid (wr.heap[p]? = some (.cells #[.int .i64 3, .int .u64 n, .string s, .slice a L cap] 54))) (fun i _ => L - (intOf i).toNat)
  case atStart => exact ⟨0, Nat.zero_le _, rfl, HM0, HR1⟩
  case round =>
    clear HM0 HR1 y0 y1 y2 y3
    obtain ⟨k, hk, rfl, HMR, HRR⟩ := hrel
    obtain ⟨V1, hM⟩ := HMR.out
    have HM := Lib.hid hM
    have HBR := Lib.hid hM.be
    have hpw : p + 1 < wr.heap.size := hM.tb.lt
    have HTB := Lib.hid hM.tb
    clear HMR hM
    by_cases hlt : k < L
    · have hlt' : (k : Int) < (L : Int) := by omega
      have hkl : k < l.length := by rw [HL.out]; exact hlt
      obtain ⟨rfl, hb, hat⟩ := HA.out (by omega)
      obtain ⟨p0, p1, p2, p3⟩ := hat k hkl
      have q0 := (HBR.out.cell (p := ⟨b, o + k * 4, none⟩) (by show b < p; omega)).trans p0
      have q1 := (HBR.out.cell (p := ⟨b, o + k * 4 + 1, none⟩) (by show b < p; omega)).trans p1
      have q2 := (HBR.out.cell (p := ⟨b, o + k * 4 + 2, none⟩) (by show b < p; omega)).trans p2
      have q3 := (HBR.out.cell (p := ⟨b, o + k * 4 + 3, none⟩) (by show b < p; omega)).trans p3
      have HMK := Lib.hid (HMO.out k hkl)
      have HGE : Hid (l.getD k T.zero = l[k]) := Lib.hid (by simp [List.getD, hkl])
      have HNO := Lib.hid (fun h => all_no okX l k hkl h)
      generalize hX : l[k] = X at *
      clear p0 p1 p2 p3 hat HA HMO hX
      unfold T.val at HMK
      go_wp2_with fail
      have hba : Below wr.heap.size wr (wr.alloc (.cells #[.int .i64 X.k, .int .u64 X.n, .string X.s, .slice X.a X.l.length X.cap] 54)) := (Below.refl _ _).alloc (Nat.le_refl _) _
      have HBA := Lib.hid hba
      have HC := Lib.hid (HMK.out _ (HBR.out.trans (hba.mono (by have := HBR.out.size; omega))))
      clear hba HMK q0 q1 q2 q3
      refine HC.out.mono ?_
      rintro e w2 ⟨⟨hy, hn⟩, hb2⟩
      have HB2 := Lib.hid hb2
      have hb2' := bstep HBA.out hb2
      have HBT : Hid (Below p w w2) := Lib.hid (HBR.out.trans (hb2'.mono (by have := HBR.out.size; omega)))
      clear HC
      by_cases hO : okX X = true
      · obtain ⟨ra, rc, rfl, hN⟩ := hy hO
        have HST := Lib.hid (HM.out.step (rc := rc) (o := .cells #[.int .i64 (xX X).lv, .int .i64 (xX X).ce, .int .i64 (xX X).ep, .slice ra (xX X).ds.length rc] 44) HBA.out hb2 hlt HL.out (by rw [HGE.out]; exact hO) (by rw [HGE.out]) hN)
        have hpw2 : p + 1 < w2.heap.size := by have := hb2'.size; omega
        have hT2 := HTB.out.same (hb2'.block _ hpw)
        have g0 := hT2.free (k * 4)
        have g1 := hT2.free (k * 4 + 1)
        have g2 := hT2.free (k * 4 + 2)
        have g3 := hT2.free (k * 4 + 3)
        have r0 := hT2.cell (v := k * 4) (by omega)
        have r1 := hT2.cell (v := k * 4 + 1) (by omega)
        have r2 := hT2.cell (v := k * 4 + 2) (by omega)
        have r3 := hT2.cell (v := k * 4 + 3) (by omega)
        clear hy hn hN hb2 hb2' hT2 hO HM HTB HB2
        generalize (xX X).lv = z0 at *
        generalize (xX X).ce = z1 at *
        generalize (xX X).ep = z2 at *
        generalize (xX X).ds.length = z3 at *
        go_wp2_with fail
        obtain ⟨V2, hst, hoth⟩ := HST.out
        exact ⟨⟨k + 1, by omega, by go_num, Lib.hid ⟨V2, hst⟩, Lib.hid ((hoth p (by omega) (by omega)).trans HRR.out)⟩, by simp [intOf]; omega⟩
      · obtain ⟨u0, u1, u2, rfl⟩ := hn (by simpa using hO)
        have HF := Lib.hid (HNO.out (by simpa using hO))
        clear hy hn hb2 hb2' hO HNO
        go_wp2_with fail
        go_ret2
        exact ⟨(fun h => by rw [← HAA.out, HF.out] at h; cases h), fun _ => rfl, HBT.out.alloc (by have := HBT.out.size; omega) _⟩
    · have hlt' : ¬ (k : Int) < (L : Int) := by omega
      obtain rfl : k = L := by omega
      have HAL2 : Hid (l.all okX = true) := Lib.hid (by have := HM.out.ok; rw [← HL.out, List.take_length] at this; exact this)
      have HNM := Lib.hid (HM.out.fin HL.out)
      clear HA HMO HM HTB
      go_wp2_with fail
      go_ret2
      exact ⟨fun _ => (by first | exact ⟨_, _, rfl, HNM.out⟩ | exact ⟨_, ⟨_, rfl⟩, HNM.out⟩), (fun h => by rw [← HAA.out, HAL2.out] at h; cases h), HBR.out⟩
end Go.Proofs.YtchmiiclogmheaaDoor.C2
