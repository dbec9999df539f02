/-
  Weights in memory; weighed. A place of clique: inner, boundary; isEpoch, checkJob.
-/
import Derived.Test.YtpmjbeiclmllmaaXCea
namespace Go.Proofs.Ytpmjbeiclmllmaa
open Go.RowKit
theorem six_cells {w : World} {g : Nat} {a b c d e f : Value} {t : TypeId} (h : w.heap[g]? = some (.cells #[a, b, c, d, e, f] t)) : w.cell? ⟨g, 0, none⟩ = some a ∧ w.cell? ⟨g, 1, none⟩ = some b ∧ w.cell? ⟨g, 2, none⟩ = some c ∧ w.cell? ⟨g, 3, none⟩ = some d ∧ w.cell? ⟨g, 4, none⟩ = some e ∧ w.cell? ⟨g, 5, none⟩ = some f := by
  simp [World.cell?, h]
/-- May an epoch be? -/
def epB (x : Int) : Bool := decide (0 ≤ x) && decide (x ≤ 1073741824)
/-- What checkJob answers. -/
def jbE (ep : Int) (m k : Nat) : Int := if epB ep = false then 1 else if m ≠ k then 4 else 0
set_option maxRecDepth 100000 in
set_option maxHeartbeats 1600000 in
theorem plInner_any (N : Int) (a : Option Addr) (l : List A) (cap : Nat) (ba : Option Addr) (bs : List Int) (bc : Nat) (ca : Option Addr) (C : List Cl) (cc : Nat) (lv ce : Int) (w : World) (hl : l.length ≤ 9223372036854775807) (hbl : bs.length ≤ 9223372036854775807) (hr : Arcs w a l) (hi : Ints w ba bs) (hR : Rws w ca C) :
    Calls Try.prog 76 #[.agg #[.int .i64 N, .slice a l.length cap, .slice ba bs.length bc, .slice ca C.length cc, .int .i64 lv, .int .i64 ce]] w fun e w' => ∃ v, e = .returned (.tuple #[.slice v (inV N l bs (csl C) lv ce).length (inV N l bs (csl C) lv ce).length, .int .i64 (inE N l bs (csl C) lv ce)]) ∧ RowI w' w.heap.size v (ints (inV N l bs (csl C) lv ce)) ∧ Below w.heap.size w w' := by
  have hg := heap_top w (.cells #[.int .i64 N, .slice a l.length cap, .slice ba bs.length bc, .slice ca C.length cc, .int .i64 lv, .int .i64 ce] 114)
  have hb0 : Below w.heap.size w (w.alloc (.cells #[.int .i64 N, .slice a l.length cap, .slice ba bs.length bc, .slice ca C.length cc, .int .i64 lv, .int .i64 ce] 114)) := (Below.refl _ _).alloc (Nat.le_refl _) _
  obtain ⟨c0, c1, c2, c3, c4, c5⟩ := six_cells hg
  have HC := Lib.hid (inner_any N a l cap ba bs bc ca C cc lv ce _ hl hbl (hr.on hb0) (hi.on hb0) (hR.on hb0))
  have HB0 := Lib.hid hb0
  have hsz : (w.alloc (.cells #[.int .i64 N, .slice a l.length cap, .slice ba bs.length bc, .slice ca C.length cc, .int .i64 lv, .int .i64 ce] 114)).heap.size = w.heap.size + 1 := by simp
  obtain ⟨E, HE⟩ := named (inE N l bs (csl C) lv ce)
  obtain ⟨S, HS⟩ := named (inV N l bs (csl C) lv ce)
  rw [HE.out, HS.out] at HC
  rw [HE.out, HS.out]
  clear hr hi hR hb0 hg
  generalize hp : w.heap.size = p at *
  go_enter Try.func76, Try.ntmps76
  go_wp2_with fail
  refine HC.out.mono ?_
  rintro e w2 ⟨v, rfl, hr2, hb2⟩
  have HB2 : Hid (Below p w w2) := HB0.out.trans (hb2.mono (by omega))
  have HR2 := Lib.hid (hr2.base (C := p) (by omega))
  clear hr2 hb2 HC c0 c1 c2 c3 c4 c5
  go_wp2_with fail
  go_ret2
  exact ⟨v, rfl, HR2.out, HB2.out⟩
set_option maxRecDepth 100000 in
set_option maxHeartbeats 1600000 in
theorem plBound_any (N : Int) (a : Option Addr) (l : List A) (cap : Nat) (ba : Option Addr) (bs : List Int) (bc : Nat) (ca : Option Addr) (C : List Cl) (cc : Nat) (lv ce : Int) (w : World) (hl : l.length ≤ 9223372036854775807) (hbl : bs.length ≤ 9223372036854775807) (hr : Arcs w a l) (hi : Ints w ba bs) (hR : Rws w ca C) :
    Calls Try.prog 114 #[.agg #[.int .i64 N, .slice a l.length cap, .slice ba bs.length bc, .slice ca C.length cc, .int .i64 lv, .int .i64 ce]] w fun e w' => ∃ v, e = .returned (.tuple #[.slice v (bdV N l bs (csl C) lv ce).length (bdV N l bs (csl C) lv ce).length, .int .i64 (inE N l bs (csl C) lv ce)]) ∧ RowI w' w.heap.size v (ints (bdV N l bs (csl C) lv ce)) ∧ Below w.heap.size w w' := by
  have hg := heap_top w (.cells #[.int .i64 N, .slice a l.length cap, .slice ba bs.length bc, .slice ca C.length cc, .int .i64 lv, .int .i64 ce] 114)
  have hb0 : Below w.heap.size w (w.alloc (.cells #[.int .i64 N, .slice a l.length cap, .slice ba bs.length bc, .slice ca C.length cc, .int .i64 lv, .int .i64 ce] 114)) := (Below.refl _ _).alloc (Nat.le_refl _) _
  obtain ⟨c0, c1, c2, c3, c4, c5⟩ := six_cells hg
  have HC := Lib.hid (boundary_any N a l cap ba bs bc ca C cc lv ce _ hl hbl (hr.on hb0) (hi.on hb0) (hR.on hb0))
  have HB0 := Lib.hid hb0
  have hsz : (w.alloc (.cells #[.int .i64 N, .slice a l.length cap, .slice ba bs.length bc, .slice ca C.length cc, .int .i64 lv, .int .i64 ce] 114)).heap.size = w.heap.size + 1 := by simp
  obtain ⟨E, HE⟩ := named (inE N l bs (csl C) lv ce)
  obtain ⟨S, HS⟩ := named (bdV N l bs (csl C) lv ce)
  rw [HE.out, HS.out] at HC
  rw [HE.out, HS.out]
  clear hr hi hR hb0 hg
  generalize hp : w.heap.size = p at *
  go_enter Try.func114, Try.ntmps114
  go_wp2_with fail
  refine HC.out.mono ?_
  rintro e w2 ⟨v, rfl, hr2, hb2⟩
  have HB2 : Hid (Below p w w2) := HB0.out.trans (hb2.mono (by omega))
  have HR2 := Lib.hid (hr2.base (C := p) (by omega))
  clear hr2 hb2 HC c0 c1 c2 c3 c4 c5
  go_wp2_with fail
  go_ret2
  exact ⟨v, rfl, HR2.out, HB2.out⟩
set_option maxRecDepth 100000 in
set_option maxHeartbeats 1600000 in
theorem isEpoch_any (x : Int) (w : World) : Calls Try.prog 113 #[.int .i64 x] w fun e w' => e = .returned (.bool (epB x)) ∧ w' = w := by
  unfold epB
  by_cases h1 : 0 ≤ x
  · rw [decide_eq_true h1]
    by_cases h2 : x ≤ 1073741824
    · rw [decide_eq_true h2]
      go_enter Try.func113, Try.ntmps113
      go_wp2_with fail
      go_ret
      exact ⟨rfl, rfl⟩
    · rw [decide_eq_false h2]
      go_enter Try.func113, Try.ntmps113
      go_wp2_with fail
      go_ret
      exact ⟨rfl, rfl⟩
  · rw [decide_eq_false h1]
    go_enter Try.func113, Try.ntmps113
    go_wp2_with fail
    go_ret
    exact ⟨rfl, rfl⟩
set_option maxRecDepth 100000 in
set_option maxHeartbeats 1600000 in
theorem checkJob_any (ep : Int) (wa : Option Addr) (m wc : Nat) (ia : Option Addr) (k ic : Nat) (w : World) : Calls Try.prog 96 #[.int .i64 ep, .slice wa m wc, .slice ia k ic] w fun e w' => e = .returned (.int .i64 (jbE ep m k)) ∧ w' = w := by
  have HE := Lib.hid (isEpoch_any ep w)
  unfold jbE
  obtain ⟨E, HEP⟩ := named (epB ep)
  rw [HEP.out] at HE
  rw [HEP.out]
  rcases E with _ | _
  · rw [if_pos rfl]
    go_enter Try.func96, Try.ntmps96
    go_wp2_with fail
    refine HE.out.mono ?_
    rintro e w2 ⟨rfl, rfl⟩
    go_wp2_with fail
    go_ret
    exact ⟨rfl, rfl⟩
  · rw [if_neg (by simp)]
    by_cases h : m = k
    · have e1 : ((m : Int) != (k : Int)) = false := by subst h; simp
      rw [if_neg (by simpa using h)]
      clear h
      go_enter Try.func96, Try.ntmps96
      go_wp2_with fail
      refine HE.out.mono ?_
      rintro e w2 ⟨rfl, rfl⟩
      go_wp2_with fail
      go_ret
      exact ⟨rfl, rfl⟩
    · have e1 : ((m : Int) != (k : Int)) = true := by simp; omega
      rw [if_pos h]
      clear h
      go_enter Try.func96, Try.ntmps96
      go_wp2_with fail
      refine HE.out.mono ?_
      rintro e w2 ⟨rfl, rfl⟩
      go_wp2_with fail
      go_ret
      exact ⟨rfl, rfl⟩
end Go.Proofs.Ytpmjbeiclmllmaa
namespace Go.Proofs.Ytpmjbeiclmllmaa
open Go.RowKit
/-- Weights of a slice as they lie in memory. -/
def Wts (w : World) (a : Option Addr) (xs : List Int) : Prop := xs = [] ∨ ∃ b o, a = some ⟨b, o, none⟩ ∧ b < w.heap.size ∧ ∀ j, j < xs.length → w.cell? ⟨b, o + j, none⟩ = some (.int .u32 (xs.getD j 0))
theorem Wts.on {w w' : World} {a : Option Addr} {xs : List Int} (h : Wts w a xs) (hb : Below w.heap.size w w') : Wts w' a xs := by
  rcases h with h | ⟨b, o, h1, h2, h3⟩
  · exact Or.inl h
  · exact Or.inr ⟨b, o, h1, Nat.lt_of_lt_of_le h2 hb.size, fun j hj => (hb.cell (p := ⟨b, o + j, none⟩) h2).trans (h3 j hj)⟩
theorem Wts.get {w : World} {a : Option Addr} {xs : List Int} (h : Wts w a xs) : ∃ b o, 0 < xs.length → a = some ⟨b, o, none⟩ ∧ b < w.heap.size ∧ ∀ j, j < xs.length → w.cell? ⟨b, o + j, none⟩ = some (.int .u32 (xs.getD j 0)) := by
  rcases h with h | ⟨b, o, h1, h2, h3⟩
  · exact ⟨0, 0, fun h5 => by rw [h] at h5; simp at h5⟩
  · exact ⟨b, o, fun _ => ⟨h1, h2, h3⟩⟩
/-- Some arcs with other weights. -/
def wgA (l : List A) (ids : List Nat) (ws : List Int) (i : Nat) : A := ⟨(l.getD (ids.getD i 0) A.zero).f, (l.getD (ids.getD i 0) A.zero).t, ws.getD i 0⟩
def wgL (l : List A) (ids : List Nat) (ws : List Int) : List A := (List.range ids.length).map (wgA l ids ws)
theorem wgL_len (l : List A) (ids : List Nat) (ws : List Int) : (wgL l ids ws).length = ids.length := by simp [wgL]
theorem wgL_at {l : List A} {ids : List Nat} {ws : List Int} {i : Nat} (h : i < ids.length) : (wgL l ids ws).getD i A.zero = wgA l ids ws i := by simp [wgL, List.getD, h]
/-- The cells of arcs one behind the other. -/
def aC (x : A) (r : Nat) : Value := if r = 0 then .int .i64 x.f else if r = 1 then .int .i64 x.t else .int .u32 x.w
def wgV (l : List A) (ids : List Nat) (ws : List Int) (k i : Nat) : Value := if i / 3 < k then aC (wgA l ids ws (i / 3)) (i % 3) else aC A.zero (i % 3)
theorem wgV_step (l : List A) (ids : List Nat) (ws : List Int) (k i : Nat) (x : A) (hx : l.getD (ids.getD k 0) A.zero = x) : updV (updV (updV (updV (wgV l ids ws k) (k * 3) (.int .i64 x.f)) (k * 3 + 1) (.int .i64 x.t)) (k * 3 + 2) (.int .u32 x.w)) (k * 3 + 2) (.int .u32 (ws.getD k 0)) i = wgV l ids ws (k + 1) i := by
  have key : ∀ r, r < 3 → (k * 3 + r) / 3 = k ∧ (k * 3 + r) % 3 = r := fun r hr => by omega
  unfold updV
  by_cases h2 : i = k * 3 + 2
  · subst h2
    simp only [if_true]
    unfold wgV aC wgA
    rw [(key 2 (by omega)).1, (key 2 (by omega)).2, if_pos (Nat.lt_succ_self k)]
    simp
  · rw [if_neg h2, if_neg h2]
    by_cases h1 : i = k * 3 + 1
    · subst h1
      simp only [if_true]
      unfold wgV aC wgA
      rw [(key 1 (by omega)).1, (key 1 (by omega)).2, if_pos (Nat.lt_succ_self k), hx]
      simp
    · rw [if_neg h1]
      by_cases h0 : i = k * 3
      · subst h0
        simp only [if_true]
        unfold wgV aC wgA
        have := key 0 (by omega)
        rw [Nat.add_zero] at this
        rw [this.1, this.2, if_pos (Nat.lt_succ_self k), hx]
        simp
      · rw [if_neg h0]
        unfold wgV
        by_cases h : i / 3 < k
        · rw [if_pos h, if_pos (by omega)]
        · rw [if_neg h, if_neg (by omega)]
theorem wg_arcs {w : World} {g m : Nat} {l : List A} {ids : List Nat} {ws : List Int} (hm : ids.length = m) (h : TbV w g (m * 3) 56 (wgV l ids ws m)) : Arcs w (some ⟨g, 0, none⟩) (wgL l ids ws) := by
  refine Or.inr ⟨g, 0, rfl, h.lt, fun j hj => ?_⟩
  rw [wgL_len] at hj
  rw [wgL_at hj, Nat.zero_add]
  have key : ∀ r, r < 3 → (j * 3 + r) / 3 = j ∧ (j * 3 + r) % 3 = r := fun r hr => by omega
  have f : ∀ r, r < 3 → w.cell? ⟨g, j * 3 + r, none⟩ = some (aC (wgA l ids ws j) r) := fun r hr => by
    rw [h.cell (v := j * 3 + r) (by omega)]
    unfold wgV
    rw [(key r hr).1, (key r hr).2, if_pos (by omega)]
  have f0 := f 0 (by omega)
  exact ⟨f0, f 1 (by omega), f 2 (by omega)⟩
theorem info56 : (Try.prog.info? 56).map (fun i => (i.zero, i.size, i.bytes)) = some (some (.agg #[.int .i64 0, .int .i64 0, .int .u32 0]), 3, 24) := by kernel_rfl
theorem made_arcs (l : List A) (ids : List Nat) (ws : List Int) (m : Nat) : madeCells (Value.agg #[.int .i64 0, .int .i64 0, .int .u32 0]).cells (m * 3) = ((List.range (m * 3)).map (wgV l ids ws 0)).toArray := by
  show madeCells #[.int .i64 0, .int .i64 0, .int .u32 0] (m * 3) = _
  apply Array.ext'
  unfold madeCells
  rw [Array.toList_map, Array.toList_range]
  refine List.map_congr_left (fun i _ => ?_)
  show (#[Value.int .i64 0, .int .i64 0, .int .u32 0] : Array Value)[i % 3]! = _
  unfold wgV aC A.zero
  rw [if_neg (by omega)]
  have : i % 3 = 0 ∨ i % 3 = 1 ∨ i % 3 = 2 := by omega
  rcases this with h | h | h <;> rw [h] <;> rfl
set_option maxRecDepth 100000 in
set_option maxHeartbeats 1600000 in
theorem weighed_any (N : Int) (a : Option Addr) (l : List A) (cap : Nat) (ia : Option Addr) (ids : List Nat) (ic : Nat) (wa : Option Addr) (ws : List Int) (wc m : Nat) (w : World) (hl8 : l.length ≤ 8192) (hm : ids.length = m) (hw : ws.length = m) (hm8 : m ≤ 8192) (hid : ∀ i, i < m → ids.getD i 0 < l.length) (hr : Arcs w a l) (hi : Ints w ia (ints ids)) (hW : Wts w wa ws) :
    Calls Try.prog 97 #[.agg #[.int .i64 N, .slice a l.length cap], .slice ia m ic, .slice wa m wc] w fun e w' => ∃ g, e = .returned (.slice (some ⟨g, 0, none⟩) m m) ∧ w.heap.size ≤ g ∧ g < w'.heap.size ∧ Arcs w' (some ⟨g, 0, none⟩) (wgL l ids ws) ∧ Below w.heap.size w w' := by
  have hb0 : Below w.heap.size w (w.alloc (.cells #[.int .i64 N, .slice a l.length cap] 24)) := (Below.refl _ _).alloc (Nat.le_refl _) _
  have hg := heap_top w (.cells #[.int .i64 N, .slice a l.length cap] 24)
  have HGG := Lib.hid hg
  obtain ⟨⟨c0, c1⟩, _⟩ := two_cells hg
  obtain ⟨i56, hi56, hz56, hs56, hby56⟩ := info_parts info56
  have hmk : ∀ w, (Instr.makeSlice 22 (.int .i64 m) (.int .i64 m)).run Try.prog w = .ok (.slice (some ⟨w.heap.size, 0, none⟩) m m) (w.alloc (.cells ((List.range (m * 3)).map (wgV l ids ws 0)).toArray 56)) := fun w => by
    have := run_make (P := Try.prog) w 22 56 i56 (.agg #[.int .i64 0, .int .i64 0, .int .u32 0]) Try.underlying22 hi56 hz56 .i64 .i64 m m (by omega) (by omega) (by rw [hby56]; omega) (by omega)
    rw [hs56] at this
    rw [this, Int.toNat_natCast, made_arcs l ids ws]
  obtain ⟨ix, ox, hix⟩ := hr.get
  obtain ⟨iy, oy, hiy⟩ := hi.get
  obtain ⟨iz, oz, hiz⟩ := hW.get
  rw [ints_len, hm] at hiy
  rw [hw] at hiz
  have HIX := Lib.hid hix
  have HIY := Lib.hid hiy
  have HIZ := Lib.hid hiz
  have HB0 := Lib.hid hb0
  have HM := Lib.hid hm
  have HID := Lib.hid hid
  have HST := Lib.hid (wgV_step l ids ws)
  have HFN : Hid (∀ wr b, TbV wr b (m * 3) 56 (wgV l ids ws m) → Arcs wr (some ⟨b, 0, none⟩) (wgL l ids ws)) := fun wr b h => wg_arcs hm h
  clear hr hi hW hix hiy hiz hb0 hm hw hid
  generalize hp : w.heap.size = p at *
  go_enter Try.func97, Try.ntmps97
  go_wp2_with fail
  have hw1 : (w.alloc (.cells #[.int .i64 N, .slice a l.length cap] 24)).heap.size = p + 1 := by simp [hp]
  generalize hW : (w.alloc (.cells #[.int .i64 N, .slice a l.length cap] 24)) = W at *
  clear hW hg
  have HT0 : Hid (TbV (W.alloc (.cells ((List.range (m * 3)).map (wgV l ids ws 0)).toArray 56)) (p + 1) (m * 3) 56 (wgV l ids ws 0)) := by
    have h := heap_top W (.cells ((List.range (m * 3)).map (wgV l ids ws 0)).toArray 56)
    rw [hw1] at h
    exact h
  have HB1 : Hid (Below p w (W.alloc (.cells ((List.range (m * 3)).map (wgV l ids ws 0)).toArray 56))) := HB0.out.alloc (by omega) _
  have HG1 : Hid ((W.alloc (.cells ((List.range (m * 3)).map (wgV l ids ws 0)).toArray 56)).heap[p]? = some (.cells #[.int .i64 N, .slice a l.length cap] 24)) := (Below.heap_alloc _ _ _ (by omega)).trans HGG.out
  generalize W.alloc (.cells ((List.range (m * 3)).map (wgV l ids ws 0)).toArray 56) = V at *
  clear c0 c1 HB0 hw1 hmk HGG
  go_loopw [15] (fun i wr => ∃ (k : Nat), k ≤ m ∧ i = .int .i64 k ∧ Hid (TbV wr (p + 1) (m * 3) 56 (wgV l ids ws k)) ∧ Hid (wr.heap[p]? = some (.cells #[.int .i64 N, .slice a l.length cap] 24)) ∧ Hid (Below p w wr)) (fun i _ => m - (intOf i).toNat)
  case atStart => exact ⟨0, Nat.zero_le _, rfl, HT0, HG1, HB1⟩
  case round =>
    obtain ⟨k, hk, rfl, HTR, HGR, HBR⟩ := hrel
    clear HT0 HG1 HB1
    have hwr : p + 1 < wr.heap.size := HTR.out.lt
    by_cases hlk : k < m
    · have hlk' : (k : Int) < m := by omega
      have hk0 : (0 : Int) ≤ k := by omega
      obtain ⟨rfl, hyl, hyat⟩ := HIY.out (by omega)
      obtain ⟨rfl, hzl, hzat⟩ := HIZ.out (by omega)
      have s0 := (HBR.out.cell (p := ⟨iy, oy + k, none⟩) (hp ▸ hyl)).trans (hyat k hlk)
      rw [ints_getD (by rw [HM.out]; exact hlk)] at s0
      have t0 := (HBR.out.cell (p := ⟨iz, oz + k, none⟩) (hp ▸ hzl)).trans (hzat k hlk)
      have hil := HID.out k hlk
      have HSK := Lib.hid (fun i => HST.out k i (l.getD (ids.getD k 0) A.zero) rfl)
      obtain ⟨i, HII⟩ := named (ids.getD k 0)
      obtain ⟨wk, HWK⟩ := named (ws.getD k 0)
      rw [HII.out] at s0 hil HSK
      rw [HWK.out] at t0 HSK
      obtain ⟨rfl, hbl, hat⟩ := HIX.out (by omega)
      obtain ⟨x0, x1, x2⟩ := hat i hil
      have y0 := (HBR.out.cell (p := ⟨ix, ox + i * 3, none⟩) (hp ▸ hbl)).trans x0
      have y1 := (HBR.out.cell (p := ⟨ix, ox + i * 3 + 1, none⟩) (hp ▸ hbl)).trans x1
      have y2 := (HBR.out.cell (p := ⟨ix, ox + i * 3 + 2, none⟩) (hp ▸ hbl)).trans x2
      generalize l.getD i A.zero = x at *
      have hii : (i : Int) < l.length := by omega
      have hi0 : (0 : Int) ≤ i := by omega
      obtain ⟨⟨k0, k1⟩, _⟩ := two_cells HGR.out
      have q0 := HTR.out.free (k * 3)
      have q1 := HTR.out.free (k * 3 + 1)
      have q2 := HTR.out.free (k * 3 + 2)
      have r0 := HTR.out.cell (v := k * 3) (by omega)
      have r1 := HTR.out.cell (v := k * 3 + 1) (by omega)
      have r2 := HTR.out.cell (v := k * 3 + 2) (by omega)
      have HT1 := Lib.hid (((HTR.out.set (k * 3) (.int .i64 x.f)).set (k * 3 + 1) (.int .i64 x.t)).set (k * 3 + 2) (.int .u32 x.w))
      have HT2 : Hid (TbV ((((wr.setCell ⟨p + 1, k * 3, none⟩ (.int .i64 x.f)).setCell ⟨p + 1, k * 3 + 1, none⟩ (.int .i64 x.t)).setCell ⟨p + 1, k * 3 + 2, none⟩ (.int .u32 x.w)).setCell ⟨p + 1, k * 3 + 2, none⟩ (.int .u32 wk)) (p + 1) (m * 3) 56 (wgV l ids ws (k + 1))) := (HT1.out.set (k * 3 + 2) (.int .u32 wk)).congr (fun c _ => HSK.out c)
      have HB2 : Hid (Below p w (((wr.setCell ⟨p + 1, k * 3, none⟩ (.int .i64 x.f)).setCell ⟨p + 1, k * 3 + 1, none⟩ (.int .i64 x.t)).setCell ⟨p + 1, k * 3 + 2, none⟩ (.int .u32 x.w))) := ((HBR.out.setCell (p := ⟨p + 1, k * 3, none⟩) (by simp) _).setCell (p := ⟨p + 1, k * 3 + 1, none⟩) (by simp) _).setCell (p := ⟨p + 1, k * 3 + 2, none⟩) (by simp) _
      have HB3 : Hid (Below p w ((((wr.setCell ⟨p + 1, k * 3, none⟩ (.int .i64 x.f)).setCell ⟨p + 1, k * 3 + 1, none⟩ (.int .i64 x.t)).setCell ⟨p + 1, k * 3 + 2, none⟩ (.int .u32 x.w)).setCell ⟨p + 1, k * 3 + 2, none⟩ (.int .u32 wk))) := HB2.out.setCell (p := ⟨p + 1, k * 3 + 2, none⟩) (by simp) _
      have t1 := (HB2.out.cell (p := ⟨iz, oz + k, none⟩) (hp ▸ hzl)).trans ((HBR.out.cell (p := ⟨iz, oz + k, none⟩) (hp ▸ hzl)).symm.trans t0)
      have q3 := HT1.out.free (k * 3 + 2)
      have r3 := HT1.out.cell (v := k * 3 + 2) (by omega)
      have hne : p ≠ p + 1 := by omega
      have HG3 : Hid (((((wr.setCell ⟨p + 1, k * 3, none⟩ (.int .i64 x.f)).setCell ⟨p + 1, k * 3 + 1, none⟩ (.int .i64 x.t)).setCell ⟨p + 1, k * 3 + 2, none⟩ (.int .u32 x.w)).setCell ⟨p + 1, k * 3 + 2, none⟩ (.int .u32 wk)).heap[p]? = some (.cells #[.int .i64 N, .slice (some ⟨ix, ox, none⟩) l.length cap] 24)) := (Below.heap_setCell _ ⟨p + 1, k * 3 + 2, none⟩ _ p hne).trans ((Below.heap_setCell _ ⟨p + 1, k * 3 + 2, none⟩ _ p hne).trans ((Below.heap_setCell _ ⟨p + 1, k * 3 + 1, none⟩ _ p hne).trans ((Below.heap_setCell _ ⟨p + 1, k * 3, none⟩ _ p hne).trans HGR.out)))
      clear x0 x1 x2 hat hyat hzat
      go_wp2_with fail
      exact ⟨⟨k + 1, by omega, by simp, HT2, HG3, HB3⟩, by simp [intOf]; omega⟩
    · have hlk' : ¬ (k : Int) < m := by omega
      obtain rfl : k = m := by omega
      go_wp2_with fail
      go_ret
      exact ⟨p + 1, rfl, by omega, hwr, HFN.out _ _ HTR.out, HBR.out⟩
end Go.Proofs.Ytpmjbeiclmllmaa
