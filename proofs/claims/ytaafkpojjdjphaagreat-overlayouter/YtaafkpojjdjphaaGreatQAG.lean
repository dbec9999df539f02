import Derived.Test.YtaafkpojjdjphaaGreatQAF
import Derived.Test.YtaafkpojjdjphaaGreatQNG
import Derived.Deep.DeepMust
set_option maxRecDepth 100000
namespace Go.Proofs.YtaafkpojjdjphaaGreat
open Go.RowKit
def Wts (w : World) (a : Option Addr) (xs : List Int) : Prop := xs = [] ∨ ∃ b o, a = some ⟨b, o, none⟩ ∧ b < w.heap.size ∧ ∀ j, j < xs.length → w.cell? ⟨b, o + j, none⟩ = some (.int .u32 (xs.getD j 0))
theorem Wts.on {w w' : World} {a : Option Addr} {xs : List Int} (h : Wts w a xs) (hb : Below w.heap.size w w') : Wts w' a xs := by
 rcases h with h | ⟨b, o, h1, h2, h3⟩
 ·exact Or.inl h
 ·exact Or.inr ⟨b, o, h1, Nat.lt_of_lt_of_le h2 hb.size, fun j hj => (hb.cell (p := ⟨b, o + j, none⟩) h2).trans (h3 j hj)⟩
theorem Wts.get {w : World} {a : Option Addr} {xs : List Int} (h : Wts w a xs) : ∃ b o, 0 < xs.length → a = some ⟨b, o, none⟩ ∧ b < w.heap.size ∧ ∀ j, j < xs.length → w.cell? ⟨b, o + j, none⟩ = some (.int .u32 (xs.getD j 0)) := by
 rcases h with h | ⟨b, o, h1, h2, h3⟩
 ·exact ⟨0, 0, fun h5 => by rw [h] at h5; simp at h5⟩
 ·exact ⟨b, o, fun _ => ⟨h1, h2, h3⟩⟩
def wgA (l : List A) (ids : List Nat) (ws : List Int) (i : Nat) : A := ⟨(l.getD (ids.getD i 0) A.zero).f, (l.getD (ids.getD i 0) A.zero).t, ws.getD i 0⟩
def wgL (l : List A) (ids : List Nat) (ws : List Int) : List A := (List.range ids.length).map (wgA l ids ws)
theorem wgL_len (l : List A) (ids : List Nat) (ws : List Int) : (wgL l ids ws).length = ids.length := by simp [wgL]
theorem wgL_at {l : List A} {ids : List Nat} {ws : List Int} {i : Nat} (h : i < ids.length) : (wgL l ids ws).getD i A.zero = wgA l ids ws i := by simp [wgL, List.getD, h]
def aC (x : A) (r : Nat) : Value := if r = 0 then .int .i64 x.f else if r = 1 then .int .i64 x.t else .int .u32 x.w
def wgV (l : List A) (ids : List Nat) (ws : List Int) (k i : Nat) : Value := if i / 3 < k then aC (wgA l ids ws (i / 3)) (i % 3) else aC A.zero (i % 3)
theorem wgV_step (l : List A) (ids : List Nat) (ws : List Int) (k i : Nat) (x : A) (hx : l.getD (ids.getD k 0) A.zero = x) : updV (updV (updV (updV (wgV l ids ws k) (k * 3) (.int .i64 x.f)) (k * 3 + 1) (.int .i64 x.t)) (k * 3 + 2) (.int .u32 x.w)) (k * 3 + 2) (.int .u32 (ws.getD k 0)) i = wgV l ids ws (k + 1) i := by
 have key : ∀ r, r < 3 → (k * 3 + r) / 3 = k ∧ (k * 3 + r) % 3 = r := fun r hr => by omega
 unfold updV
 by_cases h2 : i = k * 3 + 2
 ·subst h2
  simp only [if_true]
  unfold wgV aC wgA
  rw [(key 2 (by omega)).1, (key 2 (by omega)).2, if_pos (Nat.lt_succ_self k)]
  simp
 ·rw [if_neg h2, if_neg h2]
  by_cases h1 : i = k * 3 + 1
  ·subst h1
   simp only [if_true]
   unfold wgV aC wgA
   rw [(key 1 (by omega)).1, (key 1 (by omega)).2, if_pos (Nat.lt_succ_self k), hx]
   simp
  ·rw [if_neg h1]
   by_cases h0 : i = k * 3
   ·subst h0
    simp only [if_true]
    unfold wgV aC wgA
    have := key 0 (by omega)
    rw [Nat.add_zero] at this
    rw [this.1, this.2, if_pos (Nat.lt_succ_self k), hx]
    simp
   ·rw [if_neg h0]
    unfold wgV
    by_cases h : i / 3 < k
    ·rw [if_pos h, if_pos (by omega)]
    ·rw [if_neg h, if_neg (by omega)]
theorem wg_arcs {w : World} {g m : Nat} {l : List A} {ids : List Nat} {ws : List Int} (hm : ids.length = m) (h : TbV w g (m * 3) 109 (wgV l ids ws m)) : Arcs w (some ⟨g, 0, none⟩) (wgL l ids ws) := by
 refine Or.inr ⟨g, 0, rfl, h.lt, fun j hj => ?_⟩
 rw [wgL_len] at hj
 rw [wgL_at hj, Nat.zero_add]
 have key : ∀ r, r < 3 → (j * 3 + r) / 3 = j ∧ (j * 3 + r) % 3 = r := fun r hr => by omega
 have f : ∀ r, r < 3 → w.cell? ⟨g, j * 3 + r, none⟩ = some (aC (wgA l ids ws j) r) := fun r hr => by
  rw [h.cell (v := j * 3 + r) (by omega)]
  unfold wgV
  rw [(key r hr).1, (key r hr).2, if_pos (by omega)]
 have f0 := f 0 (by omega)
 exact ⟨f0, f 1 (by omega), f 2 (by omega)⟩
theorem info56 : (Tryz.prog.info? 109).map (fun i => (i.zero, i.size, i.bytes)) = some (some (.agg #[.int .i64 0, .int .i64 0, .int .u32 0]), 3, 24) := by kernel_rfl
theorem made_arcs (l : List A) (ids : List Nat) (ws : List Int) (m : Nat) : madeCells (Value.agg #[.int .i64 0, .int .i64 0, .int .u32 0]).cells (m * 3) = ((List.range (m * 3)).map (wgV l ids ws 0)).toArray := by
 show madeCells #[.int .i64 0, .int .i64 0, .int .u32 0] (m * 3) = _
 apply Array.ext'
 unfold madeCells
 rw [Array.toList_map, Array.toList_range]
 refine List.map_congr_left (fun i _ => ?_)
 show (#[Value.int .i64 0, .int .i64 0, .int .u32 0] : Array Value)[i % 3]! = _
 unfold wgV aC A.zero
 rw [if_neg (by omega)]
 have : i % 3 = 0 ∨ i % 3 = 1 ∨ i % 3 = 2 := by omega
 rcases this with h | h | h <;> rw [h] <;> rfl
set_option maxHeartbeats 1600000 in
theorem weighed_any (N : Int) (a : Option Addr) (l : List A) (cap : Nat) (ia : Option Addr) (ids : List Nat) (ic : Nat) (wa : Option Addr) (ws : List Int) (wc m : Nat) (w : World) (hl8 : l.length ≤ 8192) (hm : ids.length = m) (hw : ws.length = m) (hm8 : m ≤ 8192) (hid : ∀ i, i < m → ids.getD i 0 < l.length) (hr : Arcs w a l) (hi : Ints w ia (ints ids)) (hW : Wts w wa ws) :
  Calls Tryz.prog 138 #[.agg #[.int .i64 N, .slice a l.length cap], .slice ia m ic, .slice wa m wc] w fun e w' => ∃ g, e = .returned (.slice (some ⟨g, 0, none⟩) m m) ∧ w.heap.size ≤ g ∧ g < w'.heap.size ∧ Arcs w' (some ⟨g, 0, none⟩) (wgL l ids ws) ∧ Below w.heap.size w w' := by
 have hb0 : Below w.heap.size w (w.alloc (.cells #[.int .i64 N, .slice a l.length cap] 24)) := (Below.refl _ _).alloc (Nat.le_refl _) _
 have hg := heap_top w (.cells #[.int .i64 N, .slice a l.length cap] 24)
 have HGG := Lib.hid hg
 obtain ⟨⟨c0, c1⟩, _⟩ := two_cells hg
 obtain ⟨i56, hi56, hz56, hs56, hby56⟩ := info_parts info56
 have hmk : ∀ w, (Instr.makeSlice 22 (.int .i64 m) (.int .i64 m)).run Tryz.prog w = .ok (.slice (some ⟨w.heap.size, 0, none⟩) m m) (w.alloc (.cells ((List.range (m * 3)).map (wgV l ids ws 0)).toArray 109)) := fun w => by
  have := run_make (P := Tryz.prog) w 22 109 i56 (.agg #[.int .i64 0, .int .i64 0, .int .u32 0]) Tryz.underlying22 hi56 hz56 .i64 .i64 m m (by omega) (by omega) (by rw [hby56]; omega) (by omega)
  rw [hs56] at this
  rw [this, Int.toNat_natCast, made_arcs l ids ws]
 obtain ⟨ix, ox, hix⟩ := hr.get
 obtain ⟨iy, oy, hiy⟩ := hi.get
 obtain ⟨iz, oz, hiz⟩ := hW.get
 rw [ints_len, hm] at hiy
 rw [hw] at hiz
 have HIX := Lib.hid hix
 have HIY := Lib.hid hiy
 have HIZ := Lib.hid hiz
 have HB0 := Lib.hid hb0
 have HM := Lib.hid hm
 have HID := Lib.hid hid
 have HST := Lib.hid (wgV_step l ids ws)
 have HFN : Hid (∀ wr b, TbV wr b (m * 3) 109 (wgV l ids ws m) → Arcs wr (some ⟨b, 0, none⟩) (wgL l ids ws)) := fun wr b h => wg_arcs hm h
 clear hr hi hW hix hiy hiz hb0 hm hw hid
 generalize hp : w.heap.size = p at *
 go_enter Tryz.func138, Tryz.ntmps138
 go_wp2_with fail
 have hw1 : (w.alloc (.cells #[.int .i64 N, .slice a l.length cap] 24)).heap.size = p + 1 := by simp [hp]
 generalize hW : (w.alloc (.cells #[.int .i64 N, .slice a l.length cap] 24)) = W at *
 clear hW hg
 have HT0 : Hid (TbV (W.alloc (.cells ((List.range (m * 3)).map (wgV l ids ws 0)).toArray 109)) (p + 1) (m * 3) 109 (wgV l ids ws 0)) := by
  have h := heap_top W (.cells ((List.range (m * 3)).map (wgV l ids ws 0)).toArray 109)
  rw [hw1] at h
  exact h
 have HB1 : Hid (Below p w (W.alloc (.cells ((List.range (m * 3)).map (wgV l ids ws 0)).toArray 109))) := HB0.out.alloc (by omega) _
 have HG1 : Hid ((W.alloc (.cells ((List.range (m * 3)).map (wgV l ids ws 0)).toArray 109)).heap[p]? = some (.cells #[.int .i64 N, .slice a l.length cap] 24)) := (Below.heap_alloc _ _ _ (by omega)).trans HGG.out
 generalize W.alloc (.cells ((List.range (m * 3)).map (wgV l ids ws 0)).toArray 109) = V at *
 clear c0 c1 HB0 hw1 hmk HGG
 go_loopw [15] (fun i wr => ∃ (k : Nat), k ≤ m ∧ i = .int .i64 k ∧ Hid (TbV wr (p + 1) (m * 3) 109 (wgV l ids ws k)) ∧ Hid (wr.heap[p]? = some (.cells #[.int .i64 N, .slice a l.length cap] 24)) ∧ Hid (Below p w wr)) (fun i _ => m - (intOf i).toNat)
 case atStart => exact ⟨0, Nat.zero_le _, rfl, HT0, HG1, HB1⟩
 case round =>
  obtain ⟨k, hk, rfl, HTR, HGR, HBR⟩ := hrel
  clear HT0 HG1 HB1
  have hwr : p + 1 < wr.heap.size := HTR.out.lt
  by_cases hlk : k < m
  ·have hlk' : (k : Int) < m := by omega
   have hk0 : (0 : Int) ≤ k := by omega
   obtain ⟨rfl, hyl, hyat⟩ := HIY.out (by omega)
   obtain ⟨rfl, hzl, hzat⟩ := HIZ.out (by omega)
   have s0 := (HBR.out.cell (p := ⟨iy, oy + k, none⟩) (hp ▸ hyl)).trans (hyat k hlk)
   rw [ints_getD (by rw [HM.out]; exact hlk)] at s0
   have t0 := (HBR.out.cell (p := ⟨iz, oz + k, none⟩) (hp ▸ hzl)).trans (hzat k hlk)
   have hil := HID.out k hlk
   have HSK := Lib.hid (fun i => HST.out k i (l.getD (ids.getD k 0) A.zero) rfl)
   obtain ⟨i, HII⟩ := named (ids.getD k 0)
   obtain ⟨wk, HWK⟩ := named (ws.getD k 0)
   rw [HII.out] at s0 hil HSK
   rw [HWK.out] at t0 HSK
   obtain ⟨rfl, hbl, hat⟩ := HIX.out (by omega)
   obtain ⟨x0, x1, x2⟩ := hat i hil
   have y0 := (HBR.out.cell (p := ⟨ix, ox + i * 3, none⟩) (hp ▸ hbl)).trans x0
   have y1 := (HBR.out.cell (p := ⟨ix, ox + i * 3 + 1, none⟩) (hp ▸ hbl)).trans x1
   have y2 := (HBR.out.cell (p := ⟨ix, ox + i * 3 + 2, none⟩) (hp ▸ hbl)).trans x2
   generalize l.getD i A.zero = x at *
   have hii : (i : Int) < l.length := by omega
   have hi0 : (0 : Int) ≤ i := by omega
   obtain ⟨⟨k0, k1⟩, _⟩ := two_cells HGR.out
   have q0 := HTR.out.free (k * 3)
   have q1 := HTR.out.free (k * 3 + 1)
   have q2 := HTR.out.free (k * 3 + 2)
   have r0 := HTR.out.cell (v := k * 3) (by omega)
   have r1 := HTR.out.cell (v := k * 3 + 1) (by omega)
   have r2 := HTR.out.cell (v := k * 3 + 2) (by omega)
   have HT1 := Lib.hid (((HTR.out.set (k * 3) (.int .i64 x.f)).set (k * 3 + 1) (.int .i64 x.t)).set (k * 3 + 2) (.int .u32 x.w))
   have HT2 : Hid (TbV ((((wr.setCell ⟨p + 1, k * 3, none⟩ (.int .i64 x.f)).setCell ⟨p + 1, k * 3 + 1, none⟩ (.int .i64 x.t)).setCell ⟨p + 1, k * 3 + 2, none⟩ (.int .u32 x.w)).setCell ⟨p + 1, k * 3 + 2, none⟩ (.int .u32 wk)) (p + 1) (m * 3) 109 (wgV l ids ws (k + 1))) := (HT1.out.set (k * 3 + 2) (.int .u32 wk)).congr (fun c _ => HSK.out c)
   have HB2 : Hid (Below p w (((wr.setCell ⟨p + 1, k * 3, none⟩ (.int .i64 x.f)).setCell ⟨p + 1, k * 3 + 1, none⟩ (.int .i64 x.t)).setCell ⟨p + 1, k * 3 + 2, none⟩ (.int .u32 x.w))) := ((HBR.out.setCell (p := ⟨p + 1, k * 3, none⟩) (by simp) _).setCell (p := ⟨p + 1, k * 3 + 1, none⟩) (by simp) _).setCell (p := ⟨p + 1, k * 3 + 2, none⟩) (by simp) _
   have HB3 : Hid (Below p w ((((wr.setCell ⟨p + 1, k * 3, none⟩ (.int .i64 x.f)).setCell ⟨p + 1, k * 3 + 1, none⟩ (.int .i64 x.t)).setCell ⟨p + 1, k * 3 + 2, none⟩ (.int .u32 x.w)).setCell ⟨p + 1, k * 3 + 2, none⟩ (.int .u32 wk))) := HB2.out.setCell (p := ⟨p + 1, k * 3 + 2, none⟩) (by simp) _
   have t1 := (HB2.out.cell (p := ⟨iz, oz + k, none⟩) (hp ▸ hzl)).trans ((HBR.out.cell (p := ⟨iz, oz + k, none⟩) (hp ▸ hzl)).symm.trans t0)
   have q3 := HT1.out.free (k * 3 + 2)
   have r3 := HT1.out.cell (v := k * 3 + 2) (by omega)
   have hne : p ≠ p + 1 := by omega
   have HG3 : Hid (((((wr.setCell ⟨p + 1, k * 3, none⟩ (.int .i64 x.f)).setCell ⟨p + 1, k * 3 + 1, none⟩ (.int .i64 x.t)).setCell ⟨p + 1, k * 3 + 2, none⟩ (.int .u32 x.w)).setCell ⟨p + 1, k * 3 + 2, none⟩ (.int .u32 wk)).heap[p]? = some (.cells #[.int .i64 N, .slice (some ⟨ix, ox, none⟩) l.length cap] 24)) := (Below.heap_setCell _ ⟨p + 1, k * 3 + 2, none⟩ _ p hne).trans ((Below.heap_setCell _ ⟨p + 1, k * 3 + 2, none⟩ _ p hne).trans ((Below.heap_setCell _ ⟨p + 1, k * 3 + 1, none⟩ _ p hne).trans ((Below.heap_setCell _ ⟨p + 1, k * 3, none⟩ _ p hne).trans HGR.out)))
   clear x0 x1 x2 hat hyat hzat
   go_wp2_with fail
   exact ⟨⟨k + 1, by omega, by simp, HT2, HG3, HB3⟩, by simp [intOf]; omega⟩
  ·have hlk' : ¬ (k : Int) < m := by omega
   obtain rfl : k = m := by omega
   go_wp2_with fail
   go_ret
   exact ⟨p + 1, rfl, by omega, hwr, HFN.out _ _ HTR.out, HBR.out⟩
theorem toN_at {x : A} {w : World} {b o : Nat} (h : x.at w b o) : (toN x).at w b o := h
theorem mapN_getD (l : List A) (j : Nat) (hj : j < l.length) : (l.map toN).getD j N5.A.zero = toN (l.getD j A.zero) := by simp [List.getD, hj]
theorem arcs_N {w : World} {a : Option Addr} {l : List A} (h : Arcs w a l) : N5.Arcs w a (l.map toN) := by
 rcases h with rfl | ⟨b, o, rfl, hl, hc⟩
 ·exact .inl rfl
 ·refine .inr ⟨b, o, rfl, hl, fun j hj => ?_⟩
  have hj' : j < l.length := by simpa using hj
  rw [mapN_getD l j hj']
  exact toN_at (hc j hj')
theorem okA_N (N : Int) : (N5.okA N ∘ toN) = okA N := by funext x; rfl
theorem chkE_N (N : Int) (l : List A) : N5.chkE N (l.map toN) = chkE N l := by
 unfold N5.chkE chkE
 rw [List.length_map, List.all_map, okA_N]
def WG (n : Nat) (l : List A) : Prop := chkE n l = 0 ∧ ∀ x ∈ l, 0 ≤ x.w ∧ x.w < 4294967296
theorem WG.rg {n : Nat} {l : List A} (h : WG n l) : N5.RG n (l.map toN) := by
 obtain ⟨m, hm, hr⟩ := N5.rg_of (N := (n : Int)) (l := l.map toN) (by rw [chkE_N]; exact h.1) (fun x hx => by
  obtain ⟨y, hy, rfl⟩ := List.mem_map.1 hx
  exact h.2 y hy)
 have e : n = m := by omega
 subst e
 exact hr
noncomputable def dF (wl : List A) (s : Nat) : Nat → Int := open Classical in if h : ∃ F, N5.IsD (wl.map toN) (fun _ => true) s F then h.choose else fun _ => 0
theorem dF_is {wl : List A} {s : Nat} {F : Nat → Int} (h : N5.IsD (wl.map toN) (fun _ => true) s F) : dF wl s = F := by
 unfold dF
 rw [dif_pos ⟨F, h⟩]
 exact N5.IsD.unique (Exists.choose_spec (p := fun F => N5.IsD (wl.map toN) (fun _ => true) s F) ⟨F, h⟩) h
theorem nearE_ok {n s : Nat} {l : List A} (h : chkE n l = 0) (hs : s < n) : N5.nearE n (l.map toN) [(s : Int)] = 0 := by
 unfold N5.nearE
 rw [chkE_N, if_pos h, if_pos]
 simp [N5.okV]
 omega
set_option maxHeartbeats 1600000 in
theorem byArcs1_any (n b : Nat) (wl : List A) (ga : Option Addr) (gc s : Nat) (w : World) (hW : WG n wl) (hs : s < n) (hb : w.heap[b]? = some (.cells #[.int .i64 n, .slice ga wl.length gc] 24)) (hr : Arcs w ga wl) :
  Calls Tryz.prog 157 #[.int .i64 s, .pointer (some ⟨b, 0, none⟩)] w fun e w' => ∃ bf, e = .returned (.slice (some ⟨bf, 0, none⟩) n n) ∧ w.heap.size ≤ bf ∧ TbV w' bf n 48 (fun v => .int .u64 (dF wl s v)) ∧ N5.IsD (wl.map toN) (fun _ => true) s (dF wl s) ∧ Below w.heap.size w w' := by
 obtain ⟨⟨c0, c1⟩, _⟩ := two_cells hb
 have HF := Lib.hid (N5.from_ok n ga (wl.map toN) gc s w hW.rg hs (nearE_ok hW.1 hs) (arcs_N hr))
 rw [List.length_map] at HF
 clear hr hb hW
 go_enter Tryz.func157, Tryz.ntmps157
 go_wp2_with fail
 refine HF.out.mono ?_
 rintro e w2 ⟨bf, rfl, F, hT, hD, _, hbf, hb2⟩
 have e := dF_is hD
 have HT : Hid (TbV w2 bf n 48 (fun v => .int .u64 (dF wl s v))) := by rw [e]; exact hT
 have HD : Hid (N5.IsD (wl.map toN) (fun _ => true) s (dF wl s)) := by rw [e]; exact hD
 have HB := Lib.hid hb2
 clear hT hD hb2 e HF c0 c1
 go_wp2_with fail
 go_ret
 exact ⟨bf, rfl, hbf, HT.out, HD.out, HB.out⟩
def ArcsB (B : Nat) (w : World) (a : Option Addr) (l : List A) : Prop :=
 l = [] ∨ ∃ b o, a = some ⟨b, o, none⟩ ∧ b < B ∧ ∀ j, j < l.length → (l.getD j A.zero).at w b (o + j * 3)
theorem A.at.onB {x : A} {w w' : World} {b o B : Nat} (h : x.at w b o) (hl : b < B) (hb : Below B w w') : x.at w' b o :=
 ⟨(hb.cell hl).trans h.1, (hb.cell (p := ⟨b, o + 1, none⟩) hl).trans h.2.1, (hb.cell (p := ⟨b, o + 2, none⟩) hl).trans h.2.2⟩
theorem Arcs.b {w : World} {a : Option Addr} {l : List A} (h : Arcs w a l) : ArcsB w.heap.size w a l := h
theorem ArcsB.get {B : Nat} {w : World} {a : Option Addr} {l : List A} (h : ArcsB B w a l) : ∃ b o, 0 < l.length → a = some ⟨b, o, none⟩ ∧ b < B ∧ ∀ j, j < l.length → (l.getD j A.zero).at w b (o + j * 3) := by
 rcases h with rfl | ⟨b, o, h⟩
 ·exact ⟨0, 0, fun h => absurd h (by simp)⟩
 ·exact ⟨b, o, fun _ => h⟩
def cellsU (l : List Int) : List Value := l.map (Value.int .u64)
theorem cellsU_snoc (l : List Int) (x : Int) : cellsU l ++ [.int .u64 x] = cellsU (l ++ [x]) := by unfold cellsU; simp
theorem four_cells {w : World} {g : Nat} {a b c d : Value} {t : TypeId} (h : w.heap[g]? = some (.cells #[a, b, c, d] t)) : (w.cell? ⟨g, 0, none⟩ = some a ∧ w.cell? ⟨g, 1, none⟩ = some b ∧ w.cell? ⟨g, 2, none⟩ = some c ∧ w.cell? ⟨g, 3, none⟩ = some d) ∧ (w.frozen? ⟨g, 0, none⟩ = false ∧ w.frozen? ⟨g, 1, none⟩ = false ∧ w.frozen? ⟨g, 2, none⟩ = false ∧ w.frozen? ⟨g, 3, none⟩ = false) := by
 simp [World.cell?, World.frozen?, h]
noncomputable def mxK (wl : List A) (S : List Nat) (k : Nat) : List Int := (S.take k).flatMap (fun s => S.map (dF wl s))
noncomputable def mxL (wl : List A) (S : List Nat) : List Int := mxK wl S S.length
theorem take_snocS {S : List Nat} {k : Nat} (h : k < S.length) : S.take (k + 1) = S.take k ++ [S.getD k 0] := by
 rw [List.take_add_one]
 simp [List.getD, List.getElem?_eq_getElem h]
theorem mxK_succ {wl : List A} {S : List Nat} {k : Nat} (h : k < S.length) : mxK wl S (k + 1) = mxK wl S k ++ (S.take S.length).map (dF wl (S.getD k 0)) := by
 unfold mxK
 rw [take_snocS h, List.flatMap_append, List.take_length]
 simp
theorem mxK_len (wl : List A) (S : List Nat) (k : Nat) : (mxK wl S k).length ≤ k * S.length := by
 induction k with
 | zero => simp [mxK]
 | succ k ih =>
   by_cases h : k < S.length
   ·rw [mxK_succ h, List.length_append, Nat.succ_mul]
    simp
    exact ih
   ·have e : mxK wl S (k + 1) = mxK wl S k := by unfold mxK; rw [List.take_of_length_le (by omega), List.take_of_length_le (by omega)]
    rw [e, Nat.succ_mul]
    omega
theorem map_snoc {f : Nat → Int} {S : List Nat} {t : Nat} (h : t < S.length) : (S.take (t + 1)).map f = (S.take t).map f ++ [f (S.getD t 0)] := by
 rw [take_snocS h, List.map_append]
 rfl
theorem set4 {w : World} {b : Nat} {t : TypeId} {a0 a1 a2 a3 : Value} (h : w.heap[b]? = some (.cells #[a0, a1, a2, a3] t)) (u0 u1 u2 u3 : Value) : ((((w.setCell ⟨b, 0, none⟩ u0).setCell ⟨b, 1, none⟩ u1).setCell ⟨b, 2, none⟩ u2).setCell ⟨b, 3, none⟩ u3).heap[b]? = some (.cells #[u0, u1, u2, u3] t) := by
 have g1 := heap_setCell_same w b 0 _ _ u0 h
 have g2 := heap_setCell_same _ b 1 _ _ u1 g1
 have g3 := heap_setCell_same _ b 2 _ _ u2 g2
 have g4 := heap_setCell_same _ b 3 _ _ u3 g3
 rw [g4]
 simp
theorem own_set4 {w : World} {p b : Nat} {e : TypeId} {size : Nat} {v : Value} {n : Nat} {xs : List Value} (h : w.ownsRow p e size v n xs) (hb : b < p) (u0 u1 u2 u3 : Value) : ((((w.setCell ⟨b, 0, none⟩ u0).setCell ⟨b, 1, none⟩ u1).setCell ⟨b, 2, none⟩ u2).setCell ⟨b, 3, none⟩ u3).ownsRow p e size v n xs := own_set (own_set (own_set (own_set h ⟨b, 0, none⟩ u0 hb) ⟨b, 1, none⟩ u1 hb) ⟨b, 2, none⟩ u2 hb) ⟨b, 3, none⟩ u3 hb
theorem below_set4 {w w' : World} {p b : Nat} (h : Below p w w') (hb : p ≤ b) (u0 u1 u2 u3 : Value) : Below p w ((((w'.setCell ⟨b, 0, none⟩ u0).setCell ⟨b, 1, none⟩ u1).setCell ⟨b, 2, none⟩ u2).setCell ⟨b, 3, none⟩ u3) := (((h.setCell (p := ⟨b, 0, none⟩) hb u0).setCell (p := ⟨b, 1, none⟩) hb u1).setCell (p := ⟨b, 2, none⟩) hb u2).setCell (p := ⟨b, 3, none⟩) hb u3
theorem info75 : (Tryz.prog.info? 48).map (fun i => (i.zero, i.size, i.bytes)) = some (some (.int .u64 0), 1, 8) := by kernel_rfl
theorem wpList_append_fits {P : Program} {w : World} {ops : Array Oper} {rest : List Oper} {o : Oper} {a : Act} {Q : Exit → Act → World → Prop} (hgd : o.guard = none) (s x : Operand) (t : TypeId)
  (ho : o.op = .call { callee := .builtin .append, args := #[s, x], argTypes := #[t, t] }) (base : Nat) (e : TypeId) (i : TypeInfo) (size : Nat) (ht : P.underlying t = some (.slice e)) (hi : P.info? e = some i) (hsize : i.size = size)
  (g n cap : Nat) (xs : List Value) (hs : a.eval s = .slice (some ⟨g, 0, none⟩) n cap) (hown : w.ownsRow base e size (.slice (some ⟨g, 0, none⟩) n cap) n xs)
  (ad : Addr) (m c : Nat) (news : List Value) (hx : a.eval x = .slice (some ad) m c) (hl : news.length = m * size) (hnews : ∀ j u, news[j]? = some u → w.cell? (ad.add j) = some u) (h1 : ∀ u ∈ news, u.oneCell' = true) (hroom : n + m ≤ cap)
  (h : ∀ w', w'.ownsRow base e size (.slice (some ⟨g, 0, none⟩) (n + m : Nat) cap) (n + m) (xs ++ news) → w.grownBy w' (some g) → wpList P ops Q rest (a.put o.dst (.slice (some ⟨g, 0, none⟩) (n + m : Nat) cap)) w') : wpList P ops Q (o :: rest) a w := by
 refine wpList_plain hgd fun _ hK => ?_
 obtain ⟨w', hr, h2, h3⟩ := run_append_fits (P := P) w base t o.type e i size ht hi hsize g n cap xs hown ad m c news hl hnews h1 hroom
 unfold Oper.wp
 simp [execOp, ho, resolve, invoke, builtin, hs, hx, hr, Result.andThen]
 exact hK _ _ (h w' h2 h3)
set_option maxHeartbeats 3200000 in
theorem matrix_any (n : Nat) (a : Option Addr) (l : List A) (cap : Nat) (ba : Option Addr) (bs : List Int) (bc : Nat) (ca : Option Addr) (C : List Cl) (cc : Nat) (lv ce ep : Int) (b : Nat) (wl : List A) (ga : Option Addr) (gc : Nat) (S : List Nat) (w : World) (hE : inE n l bs (csl C) lv ce = 0) (hS : bdV n l bs (csl C) lv ce = S) (hSn : ∀ i, i < S.length → S.getD i 0 < n) (hS8 : S.length ≤ 1024) (hW : WG n wl) (hl : l.length ≤ 9223372036854775807) (hbl : bs.length ≤ 9223372036854775807) (hr : Arcs w a l) (hi : Ints w ba bs) (hR : Rws w ca C) (hb : w.heap[b]? = some (.cells #[.int .i64 n, .slice ga wl.length gc] 24)) (hrw : Arcs w ga wl) :
  Calls Tryz.prog 139 #[.agg #[.int .i64 n, .slice a l.length cap, .slice ba bs.length bc, .slice ca C.length cc, .int .i64 lv, .int .i64 ce], .int .i64 ep, .func (.func 157) #[] #[.pointer (some ⟨b, 0, none⟩)]] w fun e w' => ∃ v c, e = .returned (.tuple #[.agg #[.int .i64 lv, .int .i64 ce, .int .i64 ep, .slice v (mxL wl S).length c], .int .i64 0]) ∧ w'.ownsRow w.heap.size 48 1 (.slice v (mxL wl S).length c) (mxL wl S).length (cellsU (mxL wl S)) ∧ (∀ i, i < S.length → N5.IsD (wl.map toN) (fun _ => true) (S.getD i 0) (dF wl (S.getD i 0))) ∧ Below w.heap.size w w' := by
 obtain ⟨hg0, hg1, hb0, hsz⟩ := top2 w (.cells #[.int .i64 n, .slice a l.length cap, .slice ba bs.length bc, .slice ca C.length cc, .int .i64 lv, .int .i64 ce] 118) (.cells #[.int .i64 0, .int .i64 0, .int .i64 0, .slice none 0 0] 40)
 obtain ⟨c0, c1, c2, c3, c4, c5⟩ := six_cells hg0
 obtain ⟨i75, hi75, hz75, hs75, hby75⟩ := info_parts info75
 have HBD := Lib.hid (plBound_any n a l cap ba bs bc ca C cc lv ce _ hl hbl (hr.on hb0) (hi.on hb0) (hR.on hb0))
 rw [hE, hS] at HBD
 have HB0 := Lib.hid hb0
 have HG0 := Lib.hid hg0
 have HG1 := Lib.hid hg1
 have HGB : Hid (∀ W2, Below w.heap.size w W2 → ∀ s, s < n → Calls Tryz.prog 157 #[.int .i64 s, .pointer (some ⟨b, 0, none⟩)] W2 fun e w' => ∃ bf, e = .returned (.slice (some ⟨bf, 0, none⟩) n n) ∧ W2.heap.size ≤ bf ∧ TbV w' bf n 48 (fun v => .int .u64 (dF wl s v)) ∧ N5.IsD (wl.map toN) (fun _ => true) s (dF wl s) ∧ Below W2.heap.size W2 w') := fun W2 hb2 s hs => byArcs1_any n b wl ga gc s W2 hW hs ((hb2.block _ (lt_of_block hb)).trans hb) (hrw.on hb2)
 have HSN := Lib.hid hSn
 clear hr hi hR hb0 hg0 hg1 hE hS hW hb hrw hSn
 generalize hp : w.heap.size = p at *
 go_enter Tryz.func139, Tryz.ntmps139
 go_wp2_with fail
 generalize hWW : (w.alloc (.cells #[.int .i64 n, .slice a l.length cap, .slice ba bs.length bc, .slice ca C.length cc, .int .i64 lv, .int .i64 ce] 118)).alloc (.cells #[.int .i64 0, .int .i64 0, .int .i64 0, .slice none 0 0] 40) = W at *
 clear hWW
 refine HBD.out.mono ?_
 rintro e w1 ⟨v1, rfl, hr1, hb1⟩
 have hz1 := hb1.size
 have HB1 : Hid (Below p w w1) := HB0.out.trans (hb1.mono (by omega))
 have HK0 := Lib.hid ((hb1.block p (by omega)).trans HG0.out)
 have HK1 := Lib.hid ((hb1.block (p + 1) (by omega)).trans HG1.out)
 have HI1 := Lib.hid hr1.ints
 obtain ⟨iy, oy, hiy⟩ := hr1.ints.get
 rw [ints_len] at hiy
 have HIY := Lib.hid hiy
 have hw1 : p + 2 ≤ w1.heap.size := by omega
 clear hr1 hb1 HBD c0 c1 c2 c3 c4 c5 HB0 HG0 HG1 hiy hz1
 obtain ⟨m, HM⟩ := named S.length
 rw [HM.out] at hS8 HIY HSN
 rw [HM.out]
 have hmm : m * m ≤ 1048576 := Nat.mul_le_mul hS8 hS8
 have emm : (m : Int) * m = ((m * m : Nat) : Int) := by simp
 obtain ⟨mm, HMM⟩ := named (m * m)
 rw [HMM.out] at hmm emm
 have ewm : IntKind.i64.wrap ((m : Int) * m) = (mm : Int) := by rw [emm, IntKind.wrap_i64]; omega
 have ewn : IntKind.i64.wrap (mm : Int) = (mm : Int) := by rw [IntKind.wrap_i64]; omega
 have hmk : ∀ w, (Instr.makeSlice 38 (.int .i64 0) (.int .i64 mm)).run Tryz.prog w = .ok (.slice (some ⟨w.heap.size, 0, none⟩) 0 mm) (w.alloc (.cells (madeCells #[.int .u64 0] mm) 48)) := fun w => by
  have := run_make (P := Tryz.prog) w 38 48 i75 (.int .u64 0) Tryz.underlying38 hi75 hz75 .i64 .i64 0 mm (by omega) (by omega) (by rw [hby75]; omega) (by omega)
  rw [hs75] at this
  rw [this, Int.toNat_natCast, Nat.mul_one]
  rfl
 generalize hq : w1.heap.size = q at *
 have HO0 : Hid ((w1.alloc (.cells (madeCells #[.int .u64 0] mm) 48)).ownsRow q 48 1 (.slice (some ⟨q, 0, none⟩) 0 mm) 0 []) := by
  have := World.ownsRow_made (base := q) (e := 48) (size := 1) w1 (madeCells #[.int .u64 0] mm) mm (by omega) (by unfold maxLen; omega) (by rw [size_madeCells, Nat.mul_one])
  rw [hq] at this
  exact this
 have HBQ : Hid (Below q w1 (w1.alloc (.cells (madeCells #[.int .u64 0] mm) 48))) := (Below.refl _ _).alloc (by omega) _
 go_wp2_with fail
 generalize w1.alloc (.cells (madeCells #[.int .u64 0] mm) 48) = w2 at *
 clear hmk
 go_loopw [10, 33] (fun s i wr => ∃ (k : Nat) (G : List Int), k ≤ m ∧ i = .int .i64 k ∧ s = .slice (some ⟨q, 0, none⟩) G.length mm ∧ Hid (mxK wl S k = G) ∧ Hid (wr.ownsRow q 48 1 (.slice (some ⟨q, 0, none⟩) G.length mm) G.length (cellsU G)) ∧ Hid (∀ i, i < k → N5.IsD (wl.map toN) (fun _ => true) (S.getD i 0) (dF wl (S.getD i 0))) ∧ Hid (Below q w1 wr)) (fun _ i _ => m - (intOf i).toNat)
 case atStart => exact ⟨0, [], Nat.zero_le _, rfl, rfl, by show _ = _; simp [mxK], HO0, fun i hi => absurd hi (by omega), HBQ⟩
 case round =>
  clear HO0 HBQ
  obtain ⟨k, G, hk, rfl, rfl, HG, HOW, HDD, HBR⟩ := hrel
  have hwz : q ≤ wr.heap.size := by have := HBR.out.size; omega
  have hbw : Below p w wr := HB1.out.trans (HBR.out.mono (by omega))
  by_cases hlk : k < m
  ·have hlk' : (k : Int) < m := by omega
   have hk0 : (0 : Int) ≤ k := by omega
   obtain ⟨rfl, hyl, hyat⟩ := HIY.out (by omega)
   have s0 := (HBR.out.cell (p := ⟨iy, oy + k, none⟩) (by show iy < q; omega)).trans (hyat k hlk)
   rw [ints_getD (by rw [HM.out]; exact hlk)] at s0
   have hsn := HSN.out k hlk
   have HSU := Lib.hid (mxK_succ (wl := wl) (S := S) (k := k) (by rw [HM.out]; exact hlk))
   rw [HM.out] at HSU
   have hkm : k * m + m ≤ mm := by
    rw [← HMM.out, ← Nat.succ_mul]
    exact Nat.mul_le_mul_right _ (by omega)
   have hGL : G.length ≤ k * m := by
    rw [← HG.out]
    have h1 := mxK_len wl S k
    rw [HM.out] at h1
    exact h1
   obtain ⟨km, HKM⟩ := named (k * m)
   rw [HKM.out] at hkm hGL
   obtain ⟨s, HSS⟩ := named (S.getD k 0)
   rw [HSS.out] at s0 hsn HSU
   have HCL := Lib.hid (HGB.out wr hbw s hsn)
   clear hyat hbw
   go_wp2_with fail
   refine HCL.out.mono ?_
   rintro e w3 ⟨bf, rfl, hbf, hT3, hD3, hb3⟩
   have HT3 := Lib.hid hT3
   have HD3 := Lib.hid hD3
   have HB3 : Hid (Below q w1 w3) := HBR.out.trans (hb3.mono hwz)
   have HO3 := Lib.hid (own_on HOW.out hb3)
   have hqr : q < wr.heap.size := (HOW.out.lt q rfl).2
   have hbq : bf ≠ q := by omega
   clear hT3 hD3 hb3 HCL s0
   go_wp2_with fail
   have HG0 := HG
   generalize G = G0 at *
   clear HOW HBR
   generalize hw3 : w3.heap.size = q3 at *
   generalize wr.heap.size = qr at *
   clear wr
   go_loopw [10, 42] (fun s' i wr => ∃ (t : Nat) (G : List Int), t ≤ m ∧ i = .int .i64 t ∧ s' = .slice (some ⟨q, 0, none⟩) G.length mm ∧ G.length ≤ km + t ∧ Hid (G0 ++ (S.take t).map (dF wl s) = G) ∧ Hid (wr.ownsRow q 48 1 (.slice (some ⟨q, 0, none⟩) G.length mm) G.length (cellsU G)) ∧ Hid (TbV wr bf n 48 (fun v => .int .u64 (dF wl s v))) ∧ Hid (Below q w1 wr)) (fun _ i _ => m - (intOf i).toNat)
   case atStart => exact ⟨0, G0, Nat.zero_le _, rfl, rfl, by omega, by show _ = _; simp, HO3, HT3, HB3⟩
   case round =>
    clear HO3 HT3 HB3
    obtain ⟨t, G, ht, rfl, rfl, hGL2, HG, HOW, HTR, HBR⟩ := hrel
    have hwz : q ≤ wr.heap.size := by have := HBR.out.size; omega
    by_cases hlt : t < m
    ·have hlt' : (t : Int) < m := by omega
     have ht0 : (0 : Int) ≤ t := by omega
     obtain ⟨_, hyl, hyat⟩ := HIY.out (by omega)
     have s0 := (HBR.out.cell (p := ⟨iy, oy + t, none⟩) (by show iy < q; omega)).trans (hyat t hlt)
     rw [ints_getD (by rw [HM.out]; exact hlt)] at s0
     have htn := HSN.out t hlt
     have HMS := Lib.hid (map_snoc (f := dF wl s) (S := S) (t := t) (by rw [HM.out]; exact hlt))
     obtain ⟨x, HX⟩ := named (S.getD t 0)
     rw [HX.out] at s0 htn HMS
     have f0 : wr.cell? ⟨bf, x, none⟩ = some (.int .u64 (dF wl s x)) := HTR.out.cell htn
     obtain ⟨y, HY⟩ := named (dF wl s x)
     rw [HY.out] at f0 HMS
     have hx' : (x : Int) < n := by omega
     have hx0 : (0 : Int) ≤ x := by omega
     have HG2 : Hid (G0 ++ (S.take (t + 1)).map (dF wl s) = G ++ [y]) := by show _ = _; rw [HMS.out, ← HG.out, List.append_assoc]
     have HNW : Hid (∀ j u, [Value.int .u64 y][j]? = some u → (wr.alloc (.cells #[.int .u64 y] 48)).cell? ((⟨wr.heap.size, 0, none⟩ : Addr).add j) = some u) := by
      intro j u hu
      match j, hu with
      | 0, hu => simp at hu; subst hu; simp [Addr.add]
     have HO3 := Lib.hid (HOW.out.alloc (.cells #[.int .u64 y] 48))
     have HBZ : Hid (q ≤ (wr.alloc (.cells #[.int .u64 y] 48)).heap.size) := by show _ ≤ _; rw [World.size_alloc]; omega
     have HBB : Hid (Below q w1 (wr.alloc (.cells #[.int .u64 y] 48))) := HBR.out.alloc (by omega) _
     have HCA : Hid (cellsU G ++ [.int .u64 y] = cellsU (G ++ [y])) := cellsU_snoc G y
     have HTA : Hid (TbV (wr.alloc (.cells #[.int .u64 y] 48)) bf n 48 (fun v => .int .u64 (dF wl s v))) := HTR.out.same (Below.heap_alloc _ _ _ HTR.out.lt)
     clear hyat
     go_wp2_with (at_builtin; go_must (refine wpList_append_fits rfl (.tmp 46) (.tmp 51) 38 rfl q 48 i75 1 Tryz.underlying38 hi75 hs75 q G.length mm (cellsU G) rfl HO3.out ⟨wr.heap.size, 0, none⟩ 1 1 [.int .u64 y] rfl rfl HNW.out (by intro u hu; simp at hu; subst hu; rfl) (by omega) ?_; intro w6 hown6 hgrow6; rw [HCA.out] at hown6; have h7 : w6.ownsRow q 48 1 (.slice (some ⟨q, 0, none⟩) (G ++ [y]).length mm) (G ++ [y]).length (cellsU (G ++ [y])) := (by rw [List.length_append]; exact hown6); have HO7 := Lib.hid h7; have HB6 : Hid (Below q w1 w6) := HBB.out.grown hgrow6 HBZ.out (fun j hj => by have := Option.some.inj hj; omega); have HGR6 := Lib.hid hgrow6; clear hown6 h7 hgrow6))
     have HT6 : Hid (TbV w6 bf n 48 (fun v => .int .u64 (dF wl s v))) := HTA.out.same (HGR6.out.block bf HTA.out.lt (fun h => hbq (Option.some.inj h)))
     exact ⟨⟨t + 1, G ++ [y], by omega, by simp, by rw [List.length_append]; rfl, by rw [List.length_append]; simp; omega, HG2, HO7, HT6, HB6⟩, by simp [intOf]; omega⟩
    ·have hlt' : ¬ (t : Int) < m := by omega
     obtain rfl : t = m := by omega
     have HG3 : Hid (mxK wl S (k + 1) = G) := by show _ = _; rw [HSU.out, HG0.out, HG.out]
     have HD4 : Hid (∀ i, i < k + 1 → N5.IsD (wl.map toN) (fun _ => true) (S.getD i 0) (dF wl (S.getD i 0))) := fun i hi => by
      by_cases h : i < k
      ·exact HDD.out i h
      ·have e : i = k := by omega
       rw [e, HSS.out]
       exact HD3.out
     go_wp2_with fail
     exact ⟨⟨k + 1, G, by omega, by simp, rfl, HG3, HOW, HD4, HBR⟩, by simp [intOf]; omega⟩
  ·have hlk' : ¬ (k : Int) < m := by omega
   obtain rfl : k = m := by omega
   have HGF : Hid (mxL wl S = G) := by show _ = _; unfold mxL; rw [HM.out]; exact HG.out
   have hG0 := (HBR.out.block p (by omega)).trans HK0.out
   obtain ⟨e0, e1, e2, e3, e4, e5⟩ := six_cells hG0
   have hG1 := (HBR.out.block (p + 1) (by omega)).trans HK1.out
   obtain ⟨⟨d0, d1, d2, d3⟩, f0, f1, f2, f3⟩ := four_cells hG1
   have HBW := Lib.hid hbw
   clear hbw
   have HR4 := Lib.hid (four_cells (set4 hG1 (.int .i64 lv) (.int .i64 ce) (.int .i64 ep) (.slice (some ⟨q, 0, none⟩) G.length mm))).1
   have HO4 := Lib.hid (own_base (own_set4 HOW.out (show p + 1 < q by omega) (.int .i64 lv) (.int .i64 ce) (.int .i64 ep) (.slice (some ⟨q, 0, none⟩) G.length mm)) (show p ≤ q by omega))
   have HB4 := Lib.hid (below_set4 HBW.out (show p ≤ p + 1 by omega) (.int .i64 lv) (.int .i64 ce) (.int .i64 ep) (.slice (some ⟨q, 0, none⟩) G.length mm))
   clear hG0 hG1
   go_wp2_with fail
   obtain ⟨r0, r1, r2, r3⟩ := HR4.out
   rw [HGF.out, HM.out]
   refine bodyPost_ret (v := .tuple #[.agg #[.int .i64 lv, .int .i64 ce, .int .i64 ep, .slice (some ⟨q, 0, none⟩) G.length mm], .int .i64 0]) (by simp [results, Tryz.results139, go_sem, r0, r1, r2, r3]) rfl ?_
   exact ⟨_, _, rfl, HO4.out, HDD.out, HB4.out⟩
end Go.Proofs.YtaafkpojjdjphaaGreat
