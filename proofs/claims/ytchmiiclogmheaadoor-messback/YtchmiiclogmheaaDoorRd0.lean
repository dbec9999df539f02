/-
  Reading items: numbers, lists of numbers.
-/
import Derived.Test.YtchmiiclogmheaaDoorMe5
namespace Go.Proofs.YtchmiiclogmheaaDoor.C2
open Go.RowKit
/-- An item is a number up to a greatest one; a list of such. -/
def okS (t : T) (mx : Int) : Bool := decide (t.k = 1) && decide (t.n ≤ mx)
def okN (t : T) (mx : Int) : Bool := decide (t.k = 3) && t.l.all (fun x => okS x mx)
def xN (t : T) : List Int := t.l.map T.n
/-- Numbers that lie in new blocks. -/
def NmsS (B : Nat) (K : IntKind) (w : World) (a : Option Addr) (xs : List Int) : Prop := xs = [] ∨ ∃ b o, a = some ⟨b, o, none⟩ ∧ B ≤ b ∧ b < w.heap.size ∧ ∀ j, j < xs.length → w.cell? ⟨b, o + j, none⟩ = some (.int K (xs.getD j 0))
theorem NmsS.nms {B : Nat} {K : IntKind} {w : World} {a : Option Addr} {xs : List Int} (h : NmsS B K w a xs) : Nms K w a xs := by
  rcases h with h | ⟨b, o, h1, _, h2, h3⟩
  · exact Or.inl h
  · exact Or.inr ⟨b, o, h1, h2, h3⟩
theorem NmsS.same {B B' : Nat} {K : IntKind} {w w' : World} {a : Option Addr} {xs : List Int} (h : NmsS B K w a xs) (hs : ∀ b, B ≤ b → b < w.heap.size → B' ≤ b ∧ b < w'.heap.size ∧ w'.heap[b]? = w.heap[b]?) : NmsS B' K w' a xs := by
  rcases h with h | ⟨b, o, h1, h0, h2, h3⟩
  · exact Or.inl h
  · obtain ⟨g1, g2, g3⟩ := hs b h0 h2
    exact Or.inr ⟨b, o, h1, g1, g2, fun j hj => (World.cell?_of_block (w := w) (a := ⟨b, o + j, none⟩) g3).trans (h3 j hj)⟩
/-- Numbers that were read, the first so many of them. -/
def nF0 (K : IntKind) (l : List T) (k i : Nat) : Value := if i < k then .int K ((l.map T.n).getD i 0) else .int K 0
theorem nF0_step {K : IntKind} {l : List T} {k : Nat} {xk xn : Int} {xs : ByteArray} {xa : Option Addr} {xc : Nat} {xl : List T} (hk : k < l.length) (h : l[k] = T.mk xk xn xs xa xc xl) (v : Nat) : updV (nF0 K l k) k (.int K xn) v = nF0 K l (k + 1) v := by
  unfold updV nF0
  by_cases e : v = k
  · subst e
    rw [if_pos rfl, if_pos (by omega)]
    have : (l.map T.n).getD v 0 = xn := by simp [List.getD, hk, h, T.n]
    rw [this]
  · rw [if_neg e]
    by_cases hv : v < k
    · rw [if_pos hv, if_pos (by omega)]
    · rw [if_neg hv, if_neg (by omega)]
theorem made_nums {K : IntKind} {l : List T} {m : Nat} : madeCells (Value.int K 0).cells m = ((List.range m).map (nF0 K l 0)).toArray := by
  show madeCells #[.int K 0] m = _
  apply Array.ext'
  unfold madeCells
  rw [Array.toList_map, Array.toList_range]
  refine List.map_congr_left (fun i _ => ?_)
  show (#[Value.int K 0] : Array Value)[i % 1]! = _
  unfold nF0
  rw [if_neg (by omega), Nat.mod_one]
  rfl
theorem nms_of {B g : Nat} {K : IntKind} {w : World} {n : Nat} {ty : TypeId} {xs : List Int} (hn : xs.length = n) (hg : B ≤ g) (h : TbV w g n ty (fun i => .int K (xs.getD i 0))) : NmsS B K w (some ⟨g, 0, none⟩) xs :=
  Or.inr ⟨g, 0, rfl, hg, h.lt, fun j hj => by rw [Nat.zero_add]; exact h.cell (by omega)⟩
theorem all_take (q : T → Bool) (l : List T) (k : Nat) (hk : k < l.length) (h : (l.take k).all q = true) (h2 : q l[k] = true) : (l.take (k + 1)).all q = true := by
  rw [List.take_succ_eq_append_getElem hk, List.all_append, h]
  simp [h2]
theorem all_no (q : T → Bool) (l : List T) (k : Nat) (hk : k < l.length) (h2 : q l[k] = false) : l.all q = false := by
  rw [List.all_eq_false]
  exact ⟨l[k], List.getElem_mem _, by rw [h2]; simp⟩
set_option maxRecDepth 100000 in
set_option maxHeartbeats 1600000 in
theorem small_any (t : T) (mx : Int) (w : World) (h0 : 0 ≤ t.n) (h1 : t.n ≤ 18446744073709551615) (hm0 : 0 ≤ mx) (hm1 : mx ≤ 1073741824) : Calls Tryd.prog 64 #[t.val, .int .i64 mx] w fun e w' => e = .returned (.tuple #[.int .i64 (if okS t mx = true then t.n else 0), .bool (okS t mx)]) ∧ Below w.heap.size w w' := by
  obtain ⟨k, n, s, a, cap, l⟩ := t
  have h0 : 0 ≤ n := h0
  have h1 : n ≤ 18446744073709551615 := h1
  have e : okS (.mk k n s a cap l) mx = (decide (k = 1) && decide (n ≤ mx)) := rfl
  rw [e]
  have hv : (T.mk k n s a cap l).val = .agg #[.int .i64 k, .int .u64 n, .string s, .slice a l.length cap] := rfl
  rw [hv, show (T.mk k n s a cap l).n = n from rfl]
  clear e hv
  have hwm : IntKind.u64.wrap mx = mx := by rw [IntKind.wrap_u64]; omega
  by_cases hk : k = 1
  · subst hk
    by_cases hn : n ≤ mx
    · rw [decide_eq_true hn, show (decide ((1 : Int) = 1) && true) = true from rfl, if_pos rfl]
      have hn' : ¬ mx < n := by omega
      have hwn : IntKind.i64.wrap n = n := by rw [IntKind.wrap_i64]; omega
      go_enter Tryd.func64, Tryd.ntmps64
      go_wp2_with fail
      go_ret2
      exact ⟨rfl, (Below.refl _ _).alloc (Nat.le_refl _) _⟩
    · rw [decide_eq_false hn, show (decide ((1 : Int) = 1) && false) = false from rfl, if_neg (by decide)]
      have hn' : mx < n := by omega
      go_enter Tryd.func64, Tryd.ntmps64
      go_wp2_with fail
      go_ret2
      exact ⟨rfl, (Below.refl _ _).alloc (Nat.le_refl _) _⟩
  · rw [decide_eq_false hk, Bool.false_and, if_neg (by decide)]
    have hk' : (k != 1) = true := by simp [hk]
    go_enter Tryd.func64, Tryd.ntmps64
    go_wp2_with fail
    go_ret2
    exact ⟨rfl, (Below.refl _ _).alloc (Nat.le_refl _) _⟩
theorem info89 : (Tryd.prog.info? 89).map (fun i => (i.zero, i.size, i.bytes)) = some (some (.int .u32 0), 1, 4) := by kernel_rfl
set_option maxRecDepth 100000 in
set_option maxHeartbeats 6400000 in
theorem rdn88_any (t : T) (w : World) (h : ∀ f, InF w f t) (hl : t.l.length ≤ 16384) : Calls Tryd.prog 88 #[t.val, .int .u64 4294967295] w fun e w' => (okN t 4294967295 = true → ∃ a c, e = .returned (.tuple #[.slice a (xN t).length c, .bool true]) ∧ NmsS w.heap.size .u32 w' a (xN t)) ∧ (okN t 4294967295 = false → e = .returned (.tuple #[.slice none 0 0, .bool false])) ∧ Below w.heap.size w w' := by
  obtain ⟨k, n, s, a, cap, l⟩ := t
  replace hl : l.length ≤ 16384 := hl
  have HOK : Hid (okN (.mk k n s a cap l) 4294967295 = (decide (k = 3) && l.all (fun x => okS x 4294967295))) := Lib.hid rfl
  rw [HOK.out]
  have HX : Hid (xN (.mk k n s a cap l) = l.map T.n) := Lib.hid rfl
  rw [HX.out]
  have hv : (T.mk k n s a cap l).val = .agg #[.int .i64 k, .int .u64 n, .string s, .slice a l.length cap] := rfl
  rw [hv]
  obtain ⟨b, o, hab⟩ : ∃ b o, 0 < l.length → a = some ⟨b, o, none⟩ ∧ b < w.heap.size ∧ ∀ j, (hj : j < l.length) → l[j].at w b (o + j * 4) := by
    by_cases h0 : 0 < l.length
    · obtain ⟨b, o, h1, h2⟩ := (h 1).2.1 h0
      exact ⟨b, o, fun _ => ⟨h1, World.block_lt_of_cell? w _ (h2 0 h0).1, h2⟩⟩
    · exact ⟨0, 0, fun h => absurd h h0⟩
  have HNN : Hid (∀ j, (hj : j < l.length) → 0 ≤ (l[j]).n ∧ (l[j]).n ≤ 18446744073709551615) := Lib.hid (fun j hj => by
    have := ((h 2).2.2 j hj).1
    exact ⟨this.1, this.2.1⟩)
  have HA := Lib.hid hab
  clear h hab HOK HX hv
  by_cases hk : k = 3
  rotate_left
  · have hk' : (k != 3) = true := by simp [hk]
    rw [decide_eq_false hk, Bool.false_and]
    clear HA HNN hl
    go_enter Tryd.func88, Tryd.ntmps88
    go_wp2_with fail
    go_ret2
    exact ⟨(fun h => by cases h), fun _ => rfl, (Below.refl _ _).alloc (Nat.le_refl _) _⟩
  subst hk
  rw [show decide ((3 : Int) = 3) = true from rfl, Bool.true_and]
  obtain ⟨i0, hi, hz0, hs0, hby0⟩ := info_parts info89
  have hmk : ∀ w, (Instr.makeSlice 22 (.int .i64 l.length) (.int .i64 l.length)).run Tryd.prog w = .ok (.slice (some ⟨w.heap.size, 0, none⟩) l.length l.length) (w.alloc (.cells ((List.range l.length).map (nF0 .u32 l 0)).toArray 89)) := fun w => by
    have := run_make (P := Tryd.prog) w 22 89 i0 (.int .u32 0) Tryd.underlying22 hi hz0 .i64 .i64 l.length l.length (by omega) (by omega) (by rw [hby0]; omega) (by omega)
    rw [hs0, Nat.mul_one] at this
    rw [this, Int.toNat_natCast, made_nums]
  obtain ⟨AL, HAA⟩ := named (l.all (fun x => okS x 4294967295))
  rw [HAA.out]
  obtain ⟨L, HL⟩ := named l.length
  rw [HL.out] at hl hmk ⊢
  have hlenx : (l.map T.n).length = L := by rw [List.length_map, HL.out]
  rw [hlenx]
  go_enter Tryd.func88, Tryd.ntmps88
  generalize hp : w.heap.size = p at *
  go_wp2_with fail
  have hw1 : (w.alloc (.cells #[.int .i64 3, .int .u64 n, .string s, .slice a L cap] 54)).heap.size = p + 1 := by rw [World.size_alloc, hp]
  have HB0 : Hid (Below p w (w.alloc (.cells #[.int .i64 3, .int .u64 n, .string s, .slice a L cap] 54))) := Lib.hid ((Below.refl _ _).alloc (by omega) _)
  have HR0 := Lib.hid (heap_top w (.cells #[.int .i64 3, .int .u64 n, .string s, .slice a L cap] 54))
  rw [hp] at HR0
  generalize w.alloc (.cells #[.int .i64 3, .int .u64 n, .string s, .slice a L cap] 54) = W at *
  have HT0 : Hid (TbV (W.alloc (.cells ((List.range L).map (nF0 .u32 l 0)).toArray 89)) (p + 1) L 89 (nF0 .u32 l 0)) := by
    have h := heap_top W (.cells ((List.range L).map (nF0 .u32 l 0)).toArray 89)
    rw [hw1] at h
    exact h
  have HB1 : Hid (Below p w (W.alloc (.cells ((List.range L).map (nF0 .u32 l 0)).toArray 89))) := Lib.hid (HB0.out.alloc (by omega) _)
  have HR1 : Hid ((W.alloc (.cells ((List.range L).map (nF0 .u32 l 0)).toArray 89)).heap[p]? = some (.cells #[.int .i64 3, .int .u64 n, .string s, .slice a L cap] 54)) := Lib.hid ((Below.heap_alloc _ _ _ (by omega)).trans HR0.out)
  have hr1 := HR1.out
  generalize W.alloc (.cells ((List.range L).map (nF0 .u32 l 0)).toArray 89) = V at *
  obtain ⟨⟨y0, y1, y2, y3⟩, _⟩ := cells4 hr1
  clear HB0 HR0 hw1 hmk hr1
  go_wp2_with fail
  go_loopw [19] (fun i wr => ∃ k : Nat, k ≤ L ∧ i = .int .i64 k ∧ Hid ((l.take k).all (fun x => okS x 4294967295) = true) ∧ Hid (TbV wr (p + 1) L 89 (nF0 .u32 l k)) ∧ Hid (wr.heap[p]? = some (.cells #[.int .i64 3, .int .u64 n, .string s, .slice a L cap] 54)) ∧ Hid (Below p w wr)) (fun i _ => L - (intOf i).toNat)
  case atStart => exact ⟨0, Nat.zero_le _, rfl, Lib.hid rfl, HT0, HR1, HB1⟩
  case round =>
    clear HT0 HR1 HB1 y0 y1 y2 y3
    obtain ⟨k, hk, rfl, HAL, HTR, HRR, HBR⟩ := hrel
    by_cases hlt : k < L
    · have hlt' : (k : Int) < (L : Int) := by omega
      have hkl : k < l.length := by rw [HL.out]; exact hlt
      obtain ⟨rfl, hb, hat⟩ := HA.out (by omega)
      obtain ⟨p0, p1, p2, p3⟩ := hat k hkl
      have q0 := (HBR.out.cell (p := ⟨b, o + k * 4, none⟩) (by show b < p; omega)).trans p0
      have q1 := (HBR.out.cell (p := ⟨b, o + k * 4 + 1, none⟩) (by show b < p; omega)).trans p1
      have q2 := (HBR.out.cell (p := ⟨b, o + k * 4 + 2, none⟩) (by show b < p; omega)).trans p2
      have q3 := (HBR.out.cell (p := ⟨b, o + k * 4 + 3, none⟩) (by show b < p; omega)).trans p3
      obtain ⟨n0, n1⟩ := HNN.out k hkl
      have HX := Lib.hid (rfl : l[k] = l[k])
      generalize hX : l[k] = X at *
      obtain ⟨xk, xn, xs, xa, xc, xl⟩ := X
      have HXX := Lib.hid hX
      have n0 : 0 ≤ xn := n0
      have n1 : xn ≤ 18446744073709551615 := n1
      have q0 : wr.cell? ⟨b, o + k * 4, none⟩ = some (.int .i64 xk) := q0
      have q1 : wr.cell? ⟨b, o + k * 4 + 1, none⟩ = some (.int .u64 xn) := q1
      have q2 : wr.cell? ⟨b, o + k * 4 + 2, none⟩ = some (.string xs) := q2
      have q3 : wr.cell? ⟨b, o + k * 4 + 3, none⟩ = some (.slice xa xl.length xc) := q3
      have hpw : p + 1 < wr.heap.size := HTR.out.lt
      clear p0 p1 p2 p3 hat HA HNN hX HX
      by_cases h1 : xk = 1
      · subst h1
        by_cases h2 : xn ≤ 4294967295
        · have h2' : ¬ (4294967295 : Int) < xn := by omega
          have hwx : IntKind.u32.wrap xn = xn := by rw [IntKind.wrap_u32]; omega
          have HTA := Lib.hid (HTR.out.same (Below.heap_alloc wr (.cells #[.int .i64 1, .int .u64 xn, .string xs, .slice xa xl.length xc] 54) _ hpw))
          have u0 := HTA.out.free k
          have u1 := HTA.out.cell (v := k) hlt
          have HT3 := Lib.hid (((HTR.out.set k (.int .u32 xn)).same (Below.heap_alloc (wr.setCell ⟨p + 1, k, none⟩ (.int .u32 xn)) (.cells #[.int .i64 1, .int .u64 xn, .string xs, .slice xa xl.length xc] 54) _ (by simpa using hpw))).congr (fun v hv => nF0_step (K := .u32) hkl HXX.out v))
          have HBS : Hid (Below p w (wr.setCell ⟨p + 1, k, none⟩ (.int .u32 xn))) := Lib.hid (HBR.out.setCell (p := ⟨p + 1, k, none⟩) (by show p ≤ p + 1; omega) _)
          have HB3 : Hid (Below p w ((wr.setCell ⟨p + 1, k, none⟩ (.int .u32 xn)).alloc (.cells #[.int .i64 1, .int .u64 xn, .string xs, .slice xa xl.length xc] 54))) := Lib.hid (HBS.out.alloc (by have := HBS.out.size; omega) _)
          have HR3 := Lib.hid ((Below.heap_alloc (wr.setCell ⟨p + 1, k, none⟩ (.int .u32 xn)) (.cells #[.int .i64 1, .int .u64 xn, .string xs, .slice xa xl.length xc] 54) p (by have := HBS.out.size; simp; omega)).trans ((Below.heap_setCell wr ⟨p + 1, k, none⟩ (.int .u32 xn) p (by show p ≠ p + 1; omega)).trans HRR.out))
          have HAL2 := Lib.hid (all_take (fun x => okS x 4294967295) l k hkl HAL.out (by rw [HXX.out]; show (decide ((1 : Int) = 1) && decide (xn ≤ 4294967295)) = true; rw [decide_eq_true h2]; rfl))
          clear HAL HTR HRR HBR
          go_wp2_with fail
          exact ⟨⟨k + 1, by omega, by go_num, HAL2, HT3, HR3, HB3⟩, by simp [intOf]; omega⟩
        · have h2' : (4294967295 : Int) < xn := by omega
          have HNO := Lib.hid (all_no (fun x => okS x 4294967295) l k hkl (by rw [HXX.out]; show (decide ((1 : Int) = 1) && decide (xn ≤ 4294967295)) = false; rw [decide_eq_false h2]; rfl))
          go_wp2_with fail
          go_ret2
          exact ⟨fun h => (by rw [← HAA.out, HNO.out] at h; cases h), fun _ => rfl, HBR.out.alloc (by have := HBR.out.size; omega) _⟩
      · have h1' : (xk != 1) = true := by simp [h1]
        have HNO := Lib.hid (all_no (fun x => okS x 4294967295) l k hkl (by rw [HXX.out]; show (decide (xk = 1) && decide (xn ≤ 4294967295)) = false; rw [decide_eq_false h1]; rfl))
        go_wp2_with fail
        go_ret2
        exact ⟨fun h => (by rw [← HAA.out, HNO.out] at h; cases h), fun _ => rfl, HBR.out.alloc (by have := HBR.out.size; omega) _⟩
    · have hlt' : ¬ (k : Int) < (L : Int) := by omega
      obtain rfl : k = L := by omega
      have HAL2 : Hid (l.all (fun x => okS x 4294967295) = true) := Lib.hid (by have := HAL.out; rw [← HL.out, List.take_length] at this; exact this)
      clear HA HNN
      go_wp2_with fail
      go_ret2
      have HNM : NmsS p .u32 wr (some ⟨p + 1, 0, none⟩) (l.map T.n) := nms_of (by rw [List.length_map, HL.out]) (by omega) (HTR.out.congr (fun v hv => by unfold nF0; rw [if_pos hv]))
      refine ⟨fun _ => (by first | exact ⟨_, _, rfl, HNM⟩ | exact ⟨_, ⟨_, rfl⟩, HNM⟩), fun h => (by rw [← HAA.out, HAL2.out] at h; cases h), HBR.out⟩
theorem info40 : (Tryd.prog.info? 40).map (fun i => (i.zero, i.size, i.bytes)) = some (some (.int .u64 0), 1, 8) := by kernel_rfl
set_option maxRecDepth 100000 in
set_option maxHeartbeats 6400000 in
theorem rdn90_any (t : T) (w : World) (h : ∀ f, InF w f t) (hl : t.l.length ≤ 16384) : Calls Tryd.prog 90 #[t.val, .int .u64 18446744073709551615] w fun e w' => (okN t 18446744073709551615 = true → ∃ a c, e = .returned (.tuple #[.slice a (xN t).length c, .bool true]) ∧ NmsS w.heap.size .u64 w' a (xN t)) ∧ (okN t 18446744073709551615 = false → e = .returned (.tuple #[.slice none 0 0, .bool false])) ∧ Below w.heap.size w w' := by
  obtain ⟨k, n, s, a, cap, l⟩ := t
  replace hl : l.length ≤ 16384 := hl
  have HOK : Hid (okN (.mk k n s a cap l) 18446744073709551615 = (decide (k = 3) && l.all (fun x => okS x 18446744073709551615))) := Lib.hid rfl
  rw [HOK.out]
  have HX : Hid (xN (.mk k n s a cap l) = l.map T.n) := Lib.hid rfl
  rw [HX.out]
  have hv : (T.mk k n s a cap l).val = .agg #[.int .i64 k, .int .u64 n, .string s, .slice a l.length cap] := rfl
  rw [hv]
  obtain ⟨b, o, hab⟩ : ∃ b o, 0 < l.length → a = some ⟨b, o, none⟩ ∧ b < w.heap.size ∧ ∀ j, (hj : j < l.length) → l[j].at w b (o + j * 4) := by
    by_cases h0 : 0 < l.length
    · obtain ⟨b, o, h1, h2⟩ := (h 1).2.1 h0
      exact ⟨b, o, fun _ => ⟨h1, World.block_lt_of_cell? w _ (h2 0 h0).1, h2⟩⟩
    · exact ⟨0, 0, fun h => absurd h h0⟩
  have HNN : Hid (∀ j, (hj : j < l.length) → 0 ≤ (l[j]).n ∧ (l[j]).n ≤ 18446744073709551615) := Lib.hid (fun j hj => by
    have := ((h 2).2.2 j hj).1
    exact ⟨this.1, this.2.1⟩)
  have HA := Lib.hid hab
  clear h hab HOK HX hv
  by_cases hk : k = 3
  rotate_left
  · have hk' : (k != 3) = true := by simp [hk]
    rw [decide_eq_false hk, Bool.false_and]
    clear HA HNN hl
    go_enter Tryd.func90, Tryd.ntmps90
    go_wp2_with fail
    go_ret2
    exact ⟨(fun h => by cases h), fun _ => rfl, (Below.refl _ _).alloc (Nat.le_refl _) _⟩
  subst hk
  rw [show decide ((3 : Int) = 3) = true from rfl, Bool.true_and]
  obtain ⟨i0, hi, hz0, hs0, hby0⟩ := info_parts info40
  have hmk : ∀ w, (Instr.makeSlice 24 (.int .i64 l.length) (.int .i64 l.length)).run Tryd.prog w = .ok (.slice (some ⟨w.heap.size, 0, none⟩) l.length l.length) (w.alloc (.cells ((List.range l.length).map (nF0 .u64 l 0)).toArray 40)) := fun w => by
    have := run_make (P := Tryd.prog) w 24 40 i0 (.int .u64 0) Tryd.underlying24 hi hz0 .i64 .i64 l.length l.length (by omega) (by omega) (by rw [hby0]; omega) (by omega)
    rw [hs0, Nat.mul_one] at this
    rw [this, Int.toNat_natCast, made_nums]
  obtain ⟨AL, HAA⟩ := named (l.all (fun x => okS x 18446744073709551615))
  rw [HAA.out]
  obtain ⟨L, HL⟩ := named l.length
  rw [HL.out] at hl hmk ⊢
  have hlenx : (l.map T.n).length = L := by rw [List.length_map, HL.out]
  rw [hlenx]
  go_enter Tryd.func90, Tryd.ntmps90
  generalize hp : w.heap.size = p at *
  go_wp2_with fail
  have hw1 : (w.alloc (.cells #[.int .i64 3, .int .u64 n, .string s, .slice a L cap] 54)).heap.size = p + 1 := by rw [World.size_alloc, hp]
  have HB0 : Hid (Below p w (w.alloc (.cells #[.int .i64 3, .int .u64 n, .string s, .slice a L cap] 54))) := Lib.hid ((Below.refl _ _).alloc (by omega) _)
  have HR0 := Lib.hid (heap_top w (.cells #[.int .i64 3, .int .u64 n, .string s, .slice a L cap] 54))
  rw [hp] at HR0
  generalize w.alloc (.cells #[.int .i64 3, .int .u64 n, .string s, .slice a L cap] 54) = W at *
  have HT0 : Hid (TbV (W.alloc (.cells ((List.range L).map (nF0 .u64 l 0)).toArray 40)) (p + 1) L 40 (nF0 .u64 l 0)) := by
    have h := heap_top W (.cells ((List.range L).map (nF0 .u64 l 0)).toArray 40)
    rw [hw1] at h
    exact h
  have HB1 : Hid (Below p w (W.alloc (.cells ((List.range L).map (nF0 .u64 l 0)).toArray 40))) := Lib.hid (HB0.out.alloc (by omega) _)
  have HR1 : Hid ((W.alloc (.cells ((List.range L).map (nF0 .u64 l 0)).toArray 40)).heap[p]? = some (.cells #[.int .i64 3, .int .u64 n, .string s, .slice a L cap] 54)) := Lib.hid ((Below.heap_alloc _ _ _ (by omega)).trans HR0.out)
  have hr1 := HR1.out
  generalize W.alloc (.cells ((List.range L).map (nF0 .u64 l 0)).toArray 40) = V at *
  obtain ⟨⟨y0, y1, y2, y3⟩, _⟩ := cells4 hr1
  clear HB0 HR0 hw1 hmk hr1
  go_wp2_with fail
  go_loopw [19] (fun i wr => ∃ k : Nat, k ≤ L ∧ i = .int .i64 k ∧ Hid ((l.take k).all (fun x => okS x 18446744073709551615) = true) ∧ Hid (TbV wr (p + 1) L 40 (nF0 .u64 l k)) ∧ Hid (wr.heap[p]? = some (.cells #[.int .i64 3, .int .u64 n, .string s, .slice a L cap] 54)) ∧ Hid (Below p w wr)) (fun i _ => L - (intOf i).toNat)
  case atStart => exact ⟨0, Nat.zero_le _, rfl, Lib.hid rfl, HT0, HR1, HB1⟩
  case round =>
    clear HT0 HR1 HB1 y0 y1 y2 y3
    obtain ⟨k, hk, rfl, HAL, HTR, HRR, HBR⟩ := hrel
    by_cases hlt : k < L
    · have hlt' : (k : Int) < (L : Int) := by omega
      have hkl : k < l.length := by rw [HL.out]; exact hlt
      obtain ⟨rfl, hb, hat⟩ := HA.out (by omega)
      obtain ⟨p0, p1, p2, p3⟩ := hat k hkl
      have q0 := (HBR.out.cell (p := ⟨b, o + k * 4, none⟩) (by show b < p; omega)).trans p0
      have q1 := (HBR.out.cell (p := ⟨b, o + k * 4 + 1, none⟩) (by show b < p; omega)).trans p1
      have q2 := (HBR.out.cell (p := ⟨b, o + k * 4 + 2, none⟩) (by show b < p; omega)).trans p2
      have q3 := (HBR.out.cell (p := ⟨b, o + k * 4 + 3, none⟩) (by show b < p; omega)).trans p3
      obtain ⟨n0, n1⟩ := HNN.out k hkl
      have HX := Lib.hid (rfl : l[k] = l[k])
      generalize hX : l[k] = X at *
      obtain ⟨xk, xn, xs, xa, xc, xl⟩ := X
      have HXX := Lib.hid hX
      have n0 : 0 ≤ xn := n0
      have n1 : xn ≤ 18446744073709551615 := n1
      have q0 : wr.cell? ⟨b, o + k * 4, none⟩ = some (.int .i64 xk) := q0
      have q1 : wr.cell? ⟨b, o + k * 4 + 1, none⟩ = some (.int .u64 xn) := q1
      have q2 : wr.cell? ⟨b, o + k * 4 + 2, none⟩ = some (.string xs) := q2
      have q3 : wr.cell? ⟨b, o + k * 4 + 3, none⟩ = some (.slice xa xl.length xc) := q3
      have hpw : p + 1 < wr.heap.size := HTR.out.lt
      clear p0 p1 p2 p3 hat HA HNN hX HX
      by_cases h1 : xk = 1
      · subst h1
        by_cases h2 : xn ≤ 18446744073709551615
        · have h2' : ¬ (18446744073709551615 : Int) < xn := by omega
          have hwx : IntKind.u64.wrap xn = xn := by rw [IntKind.wrap_u64]; omega
          have HTA := Lib.hid (HTR.out.same (Below.heap_alloc wr (.cells #[.int .i64 1, .int .u64 xn, .string xs, .slice xa xl.length xc] 54) _ hpw))
          have u0 := HTA.out.free k
          have u1 := HTA.out.cell (v := k) hlt
          have HT3 := Lib.hid (((HTR.out.set k (.int .u64 xn)).same (Below.heap_alloc (wr.setCell ⟨p + 1, k, none⟩ (.int .u64 xn)) (.cells #[.int .i64 1, .int .u64 xn, .string xs, .slice xa xl.length xc] 54) _ (by simpa using hpw))).congr (fun v hv => nF0_step (K := .u64) hkl HXX.out v))
          have HBS : Hid (Below p w (wr.setCell ⟨p + 1, k, none⟩ (.int .u64 xn))) := Lib.hid (HBR.out.setCell (p := ⟨p + 1, k, none⟩) (by show p ≤ p + 1; omega) _)
          have HB3 : Hid (Below p w ((wr.setCell ⟨p + 1, k, none⟩ (.int .u64 xn)).alloc (.cells #[.int .i64 1, .int .u64 xn, .string xs, .slice xa xl.length xc] 54))) := Lib.hid (HBS.out.alloc (by have := HBS.out.size; omega) _)
          have HR3 := Lib.hid ((Below.heap_alloc (wr.setCell ⟨p + 1, k, none⟩ (.int .u64 xn)) (.cells #[.int .i64 1, .int .u64 xn, .string xs, .slice xa xl.length xc] 54) p (by have := HBS.out.size; simp; omega)).trans ((Below.heap_setCell wr ⟨p + 1, k, none⟩ (.int .u64 xn) p (by show p ≠ p + 1; omega)).trans HRR.out))
          have HAL2 := Lib.hid (all_take (fun x => okS x 18446744073709551615) l k hkl HAL.out (by rw [HXX.out]; show (decide ((1 : Int) = 1) && decide (xn ≤ 18446744073709551615)) = true; rw [decide_eq_true h2]; rfl))
          clear HAL HTR HRR HBR
          go_wp2_with fail
          exact ⟨⟨k + 1, by omega, by go_num, HAL2, HT3, HR3, HB3⟩, by simp [intOf]; omega⟩
        · exact absurd n1 h2
      · have h1' : (xk != 1) = true := by simp [h1]
        have HNO := Lib.hid (all_no (fun x => okS x 18446744073709551615) l k hkl (by rw [HXX.out]; show (decide (xk = 1) && decide (xn ≤ 18446744073709551615)) = false; rw [decide_eq_false h1]; rfl))
        go_wp2_with fail
        go_ret2
        exact ⟨fun h => (by rw [← HAA.out, HNO.out] at h; cases h), fun _ => rfl, HBR.out.alloc (by have := HBR.out.size; omega) _⟩
    · have hlt' : ¬ (k : Int) < (L : Int) := by omega
      obtain rfl : k = L := by omega
      have HAL2 : Hid (l.all (fun x => okS x 18446744073709551615) = true) := Lib.hid (by have := HAL.out; rw [← HL.out, List.take_length] at this; exact this)
      clear HA HNN
      go_wp2_with fail
      go_ret2
      have HNM : NmsS p .u64 wr (some ⟨p + 1, 0, none⟩) (l.map T.n) := nms_of (by rw [List.length_map, HL.out]) (by omega) (HTR.out.congr (fun v hv => by unfold nF0; rw [if_pos hv]))
      refine ⟨fun _ => (by first | exact ⟨_, _, rfl, HNM⟩ | exact ⟨_, ⟨_, rfl⟩, HNM⟩), fun h => (by rw [← HAA.out, HAL2.out] at h; cases h), HBR.out⟩
end Go.Proofs.YtchmiiclogmheaaDoor.C2
