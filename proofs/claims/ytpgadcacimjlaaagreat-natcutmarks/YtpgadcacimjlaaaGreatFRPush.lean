/-
  The contract of the reference's push.
-/
import Derived.Test.YtpgadcacimjlaaaGreatFRReach
import Derived.Deep.LoopGhost
namespace Go.Proofs.YtpgadcacimjlaaaGreat.F6
open Go.RowKit
theorem own_shape {w : World} {base : Nat} {e : TypeId} {size : Nat} {v : Value} {n : Nat} {xs : List Value} (h : w.ownsRow base e size v n xs) (hn : v ≠ .slice none 0 0) : ∃ g c, v = .slice (some ⟨g, 0, none⟩) n c ∧ base ≤ g ∧ n ≤ c ∧ g < w.heap.size ∧ c ≤ 9223372036854775807 := by
  rcases h.2 with ⟨h', _⟩ | ⟨g, c, cur, h', hb, hg, hnc, hm, _⟩
  · exact absurd h' hn
  · exact ⟨g, c, h', hb, hnc, lt_of_block hg, hm⟩
/-- Numbers as cells. -/
def cellsU (m : Nat) (F : Nat → Int) : List Value := (List.range m).map (fun j => Value.int .u32 (F j))
theorem cellsU_len (m : Nat) (F : Nat → Int) : (cellsU m F).length = m := by simp [cellsU]
theorem cellsU_at {m : Nat} {F : Nat → Int} {j : Nat} (hj : j < m) : (cellsU m F)[j]? = some (.int .u32 (F j)) := by simp [cellsU, hj]
theorem cellsU_one (m : Nat) (F : Nat → Int) : ∀ u ∈ cellsU m F, u.oneCell' = true := by
  intro u hu
  obtain ⟨j, _, rfl⟩ := List.mem_map.1 hu
  rfl
theorem cellsU_set (m : Nat) (F : Nat → Int) (j : Nat) (y : Int) : (cellsU m F).set j (.int .u32 y) = cellsU m (updI F j y) := by
  unfold cellsU
  apply List.ext_getElem?
  intro i
  rw [List.getElem?_set]
  by_cases e : j = i
  · subst e
    by_cases h : j < m
    · simp [h, updI_self]
    · simp [h]
  · rw [if_neg e]
    by_cases h : i < m
    · simp [h, updI_ne F y (fun h2 : i = j => e h2.symm)]
    · simp [h]
/-- A list of our own. -/
def Ou (w : World) (B g c m : Nat) (F : Nat → Int) : Prop := w.ownsRow B 48 1 (.slice (some ⟨g, 0, none⟩) m c) m (cellsU m F)
theorem Ou.get {w : World} {B g c m : Nat} {F : Nat → Int} (h : Ou w B g c m F) : B ≤ g ∧ g < w.heap.size ∧ m ≤ c ∧ (∀ j, w.frozen? ⟨g, j, none⟩ = false) ∧ ∀ j, j < m → w.cell? ⟨g, j, none⟩ = some (.int .u32 (F j)) := by
  rcases h.2 with ⟨h1, _⟩ | ⟨g', c', cur, h1, h2, h3, h4, h5, _⟩
  · cases h1
  · injection h1 with ha hb hc
    injection ha with ha
    injection ha with ha
    subst ha hc
    refine ⟨h2, lt_of_block h3, h4, fun j => by simp [World.frozen?, h3], fun j hj => ?_⟩
    have := World.ownsRow.cellAt h j (by omega)
    rw [cellsU_at hj] at this
    exact this
theorem Ou.set {w : World} {B g c m : Nat} {F : Nat → Int} (h : Ou w B g c m F) (j : Nat) (y : Int) : Ou (w.setCell ⟨g, j, none⟩ (.int .u32 y)) B g c m (updI F j y) := by
  have := (World.ownsRow.stored h j (.int .u32 y)).1
  rw [cellsU_set] at this
  exact this
theorem Ou.fl {w : World} {B g c m : Nat} {F : Nat → Int} (h : Ou w B g c m F) : Fl w (.slice (some ⟨g, 0, none⟩) m c) m F := by
  obtain ⟨_, h2, h3, _, h5⟩ := h.get
  exact ⟨g, c, rfl, h3, h2, h5⟩
theorem Ou.on {w w' : World} {B g c m : Nat} {F : Nat → Int} (h : Ou w B g c m F) (hb : Below w.heap.size w w') : Ou w' B g c m F := own_on h hb
theorem Ou.congr {w : World} {B g c m : Nat} {F G : Nat → Int} (h : Ou w B g c m F) (e : ∀ j, j < m → F j = G j) : Ou w B g c m G := by
  have : cellsU m F = cellsU m G := by
    unfold cellsU
    apply List.map_congr_left
    intro j hj
    rw [e j (by simpa using hj)]
  unfold Ou at *
  rw [← this]
  exact h
theorem push1_upd (F : Nat → Int) (k : Nat) (x : Int) : updI F (k / 2) (if k % 2 = 0 then F (k / 2) + x else F (k / 2) - x) = push1 F k x := by
  funext j
  unfold push1
  by_cases e : j = k / 2
  · subst e; rw [updI_self, if_pos rfl]
  · rw [updI_ne _ _ e, if_neg e]
theorem once_split {k : Nat} {p : List Nat} : ∀ {pre : List Nat}, Once (pre ++ k :: p) → ∀ j, j ∈ pre → j / 2 ≠ k / 2
  | [], _, j, h => by cases h
  | x :: pre, ho, j, h => by
    rcases List.mem_cons.1 h with rfl | h
    · exact fun e => ho.1 k (by simp) e.symm
    · exact once_split ho.2 j h
set_option maxHeartbeats 3200000 in
set_option maxRecDepth 100000 in
theorem rpush_any (n : Nat) (a : Option Addr) (l : List A) (cap : Nat) (w : World) (s t : Nat) (vf : Value) (fl rk by' : Nat → Int) (bB : Nat) (p0 : List Nat) (hr : Arcs w a l) (g : RN n (edl l)) (po : ∀ x, x ∈ l → 0 ≤ x.f ∧ 0 ≤ x.t) (htn : t < n) (hF : Fl w vf l.length fl) (hb : ∀ j, j < l.length → 0 ≤ fl j ∧ fl j ≤ (ed (edl l) j).c)
    (hT : TbV w bB n 3 (fun v => .int .i64 (by' v))) (hW : Bw (edl l) rk by' s p0 t) (hp : ∀ k, k ∈ p0 → k < 2 * l.length ∧ 1 ≤ rm (edl l) fl k) :
    Calls Tryz.prog 85 #[.agg #[.int .i64 n, .slice a l.length cap], .int .i64 s, .int .i64 t, vf, .slice (some ⟨bB, 0, none⟩) n n] w fun e w' => ∃ (vo : Value) (x : Int), e = .returned (.tuple #[vo, .int .u32 x]) ∧ 1 ≤ x ∧ x ≤ 4294967295 ∧ (∀ k, k ∈ p0 → x ≤ rm (edl l) fl k) ∧ Fl w' vo l.length (pushAll fl x p0.reverse) ∧ Below w.heap.size w w' := by
  obtain ⟨i50, hi50, hz50, hs50, hby50⟩ := info_parts info50
  have hm : l.length ≤ 16384 := by have := g.lb; rwa [edl_len] at this
  have hnb : n ≤ 1024 := g.nb
  obtain ⟨gf, cf, rfl, hcf, hgf, hfc⟩ := hF
  have hb0 : Below w.heap.size w (w.alloc (.cells #[.int .i64 n, .slice a l.length cap] 86)) := (Below.refl _ _).alloc (Nat.le_refl _) _
  have hg := heap_top w (.cells #[.int .i64 n, .slice a l.length cap] 86)
  have hsz : (w.alloc (.cells #[.int .i64 n, .slice a l.length cap] 86)).heap.size = w.heap.size + 1 := by simp
  have HED := Lib.hid (edges_of g po)
  obtain ⟨b, o, hab⟩ : ∃ b o, 0 < l.length → a = some ⟨b, o, none⟩ ∧ b < w.heap.size ∧ ∀ j, j < l.length → (l.getD j A.zero).at w b (o + j * 3) := by
    rcases hr with rfl | ⟨b, o, h⟩
    · exact ⟨0, 0, fun h => absurd h (by simp)⟩
    · exact ⟨b, o, fun _ => h⟩
  have HAB := Lib.hid hab
  have HG := Lib.hid g
  have HFC := Lib.hid hfc
  have HFB := Lib.hid hb
  have HWA := Lib.hid hW
  have HP := Lib.hid hp
  have HTB := Lib.hid hT
  clear hr hab g po hfc hb hW hp hT
  go_enter Tryz.func85, Tryz.ntmps85
  generalize hW0 : w.alloc (.cells #[.int .i64 n, .slice a l.length cap] 86) = W at *
  have hown0 := World.ownsRow_lit (base := w.heap.size + 1) (e := 48) (size := 1) W #[] 0 (by omega) (by decide) rfl
  rw [hsz] at hown0
  have hnew : ∀ j u, (cellsU l.length fl)[j]? = some u → (W.alloc (.cells #[] 48)).cell? ((⟨gf, 0, none⟩ : Addr).add j) = some u := fun j u hu => by
    have hj : j < l.length := by
      have := (List.getElem?_eq_some_iff.1 hu).1
      rwa [cellsU_len] at this
    rw [cellsU_at hj] at hu
    injection hu with hu
    subst hu
    rw [Go.WideShapes.add_plain, World.cell?_alloc_past _ _ _ (by show gf < W.heap.size; omega)]
    have := (hb0.cell (p := ⟨gf, j, none⟩) hgf).trans (HFC.out j hj)
    simpa using this
  have HNW := Lib.hid hnew
  have HCL := Lib.hid (cellsU_len l.length fl)
  clear hnew
  have hBd : Below (w.heap.size + 1) W (W.alloc (.cells #[] 48)) := (Below.refl _ _).alloc (by omega) _
  have HBD := Lib.hid hBd
  have HB0 := Lib.hid hb0
  have HGW := Lib.hid hg
  clear hBd hb0 hg
  subst hW0
  go_wp2_with (at_builtin; go_loud (refine wpList_append_own _ rfl (.tmp 19) (.tmp 20) 93 rfl (w.heap.size + 1) 48 i50 (.int .u32 0) 1 4 Tryz.underlying93 hi50 hz50 hs50 hby50 rfl (by decide) (.slice (some ⟨w.heap.size + 1, 0, none⟩) 0 0) 0 [] rfl hown0 ⟨gf, 0, none⟩ l.length cf (cellsU l.length fl) rfl (by rw [HCL.out, Nat.mul_one]) HNW.out (cellsU_one _ _) (by unfold maxLen; omega) (by omega) (by simp) ?_; intro v1 w1 hown1 hgrow1 hnil1; obtain ⟨g1, c1, hv1, hg1, hc1, hs1, hm1⟩ := own_shape hown1 (fun e => by have := hnil1.1 e; simp at this); rw [hv1] at hown1 ⊢; clear hnil1 hv1; simp only [Nat.zero_add, List.nil_append] at hown1 hc1 ⊢))
  have hb1 : Below (w.heap.size + 1) (w.alloc (.cells #[.int .i64 n, .slice a l.length cap] 86)) w1 := HBD.out.grown hgrow1 (by simp) (by intro k hk; have := (hown0.lt k hk).1; omega)
  have HO1 : Hid (Ou w1 (w.heap.size + 1) g1 c1 l.length fl) := hown1
  have HB1 := Lib.hid hb1
  clear hown1 hgrow1 hb1 hown0 HNW HBD
  refine wp_loop_rounds 3 ?_
  rw [rounds_succ]
  go_wp2_with fail
  go_loopg [15, 13] p0.length (fun gk vv mv wr => ∃ (p : List Nat) (v : Nat) (x : Int), Hid (gk = p.length) ∧ vv = .int .i64 v ∧ mv = .int .u32 x ∧ v < n ∧ 1 ≤ x ∧ x ≤ 4294967295 ∧ Hid (Bw (edl l) rk by' s p v) ∧ Hid (∀ k, k ∈ p → k ∈ p0) ∧ Hid (∀ k, k ∈ p0 → k ∈ p ∨ x ≤ rm (edl l) fl k) ∧ Hid (Below w1.heap.size w1 wr))
  case atStart => exact ⟨p0, t, 4294967295, rfl, rfl, rfl, htn, by decide, by decide, HWA, fun _ h => h, fun _ h => .inl h, Below.refl _ _⟩
  case round =>
    obtain ⟨p, v, x, HK, rfl, rfl, hvn, hx1, hx2, HBW, HSU, HMI, HBE⟩ := hrel
    have hgr := (HBE.out.block w.heap.size (by omega)).trans ((HB1.out.block w.heap.size (by omega)).trans HGW.out)
    obtain ⟨⟨g0, g1'⟩, gf0, gf1⟩ := two_cells hgr
    have hvn' : (v : Int) < n := by omega
    have hTB := (HTB.out.same (HB0.out.block bB HTB.out.lt)).same (HB1.out.block bB (by have := HTB.out.lt; omega)) |>.same (HBE.out.block bB (by have := HTB.out.lt; omega))
    have hOu := HO1.out.on HBE.out
    cases HBW.out with
    | nil =>
      have hss : ((s : Int) != (s : Int)) = false := by simp
      have HXR : Hid (∀ k, k ∈ p0 → x ≤ rm (edl l) fl k) := fun k hk => by
        rcases HMI.out k hk with h | h
        · cases h
        · exact h
      have HO2 := Lib.hid hOu
      obtain ⟨w2, hw2⟩ : ∃ w2, w2 = wr := ⟨_, rfl⟩
      subst hw2
      have HBX : Hid (Below w.heap.size w w2) := (HB0.out.trans (HB1.out.mono (Nat.le_succ _))).trans (HBE.out.mono (by have := HB1.out.size; omega))
      have HGX := Lib.hid hgr
      have HTX := Lib.hid hTB
      have hgB := hOu.get.1
      clear hTB hOu hgr g0 g1' gf0 gf1 HMI HBE HK HSU
      go_wp2_with fail
      rw [rounds_succ]
      go_wp2_with fail
      go_loopg [15, 13] p0.length (fun gk vv mv wx => ∃ (p : List Nat) (v : Nat) (pre : List Nat), Hid (gk = p.length) ∧ vv = .int .i64 v ∧ mv = .int .u32 x ∧ v < n ∧ Hid (Bw (edl l) rk by' s p v) ∧ Hid (p0 = pre ++ p) ∧ Hid (Ou wx (w.heap.size + 1) g1 c1 l.length (pushAll fl x pre.reverse)) ∧ Hid (Fr (fun j => j = g1) w2 wx))
      case atStart => exact ⟨p0, t, [], rfl, rfl, rfl, htn, HWA, rfl, HO2, Fr.refl _ _⟩
      case round =>
        obtain ⟨p, v, pre, HK, rfl, rfl, hvn2, HBW2, HPR, HOU, HBE⟩ := hrel
        have hgr := (HBE.out.block w.heap.size (lt_of_block HGX.out) (by show ¬ w.heap.size = g1; omega)).trans HGX.out
        obtain ⟨⟨g0, g1'⟩, gf0, gf1⟩ := two_cells hgr
        have hvn' : (v : Int) < n := by omega
        have hTB := HTX.out.fr HBE.out (by have := HTB.out.lt; show ¬ bB = g1; omega)
        have hOu := HOU.out
        have HSU : Hid (∀ k, k ∈ p → k ∈ p0) := fun k hk => by rw [HPR.out]; simp [hk]
        cases HBW2.out with
        | nil =>
          have hpre : p0 = pre := by have := HPR.out; simpa using this
          have HPE := Lib.hid hpre
          clear hpre
          go_wp2_with fail
          rw [rounds_succ]
          go_wp2_with fail
          go_ret2
          have hpp := HPE.out
          subst hpp
          exact ⟨_, x, rfl, hx1, hx2, HXR.out, HOU.out.fl, HBX.out.trans (HBE.out.below HBX.out.size (fun k h => by rw [h]; omega))⟩
        | @cons p k hne hby hrk hbw =>
          obtain ⟨hk1, hk2⟩ := HP.out k (HSU.out k List.mem_cons_self)
          have hj : k / 2 < l.length := by omega
          obtain ⟨rfl, hbl, hat⟩ := HAB.out (by omega)
          obtain ⟨xf, xt, xc, hx, hxe, hfn, htn2, hc0, hc1⟩ := HED.out (k / 2) hj
          have hat := hat (k / 2) hj
          rw [hx] at hat
          obtain ⟨x0, x1, x2⟩ := hat.on HBX.out
          have hbg : b ≠ g1 := by omega
          have hbl2 : b < w2.heap.size := by have := HBX.out.size; omega
          have hbb := HBE.out.block b hbl2 hbg
          have y0 := (World.cell?_of_block (a := ⟨b, o + k / 2 * 3, none⟩) hbb).trans x0
          have y1 := (World.cell?_of_block (a := ⟨b, o + k / 2 * 3 + 1, none⟩) hbb).trans x1
          have y2 := (World.cell?_of_block (a := ⟨b, o + k / 2 * 3 + 2, none⟩) hbb).trans x2
          simp only at y0 y1 y2
          have hF0 : pushAll fl x pre.reverse (k / 2) = fl (k / 2) := pushAll_other (fun i hi => once_split (by have := HWA.out.once; rw [HPR.out] at this; exact this) i (by simpa using hi))
          obtain ⟨-, -, -, ofr, ocl⟩ := hOu.get
          have oc := ocl (k / 2) hj
          have of := ofr (k / 2)
          rw [hF0] at oc
          have d := hTB.cell hvn2
          rw [hby] at d
          have fb := HFB.out (k / 2) hj
          rw [hxe] at fb
          simp only at fb
          obtain ⟨vv, HVV⟩ := named (tto (edl l) k)
          rw [HVV.out] at d hvn' hne
          have hne1 : ((vv : Int) != (s : Int)) = true := by simp; omega
          clear x0 x1 x2 hat hx ofr ocl
          obtain ⟨fj, HFJ⟩ := named (fl (k / 2))
          rw [HFJ.out] at oc fb hF0
          obtain ⟨fb0, fb1⟩ := fb
          rw [HVV.out]
          have hk2' : ((k / 2 : Nat) : Int) < l.length := by omega
          have E1 : Hid ((k : Int) / 2 = ((k / 2 : Nat) : Int)) := by show _ = _; omega
          by_cases hp2 : k % 2 = 0
          · have E2 : Hid (((k : Int) % 2 == 1) = false) := by show _ = _; rw [beq_eq_false_iff_ne]; omega
            have hfr : frm (edl l) k = xf := by unfold frm; rw [if_pos hp2, hxe]
            have hrm : rm (edl l) fl k = xc - fj := by unfold rm; rw [if_pos hp2, hxe, HFJ.out]
            have hxr := HXR.out k (HSU.out k List.mem_cons_self)
            rw [hrm] at hxr
            have HFR := Lib.hid hfr
            have hset := hOu.set (k / 2) (fj + x)
            have hpu := push1_upd (pushAll fl x pre.reverse) k x
            rw [if_pos hp2, hF0] at hpu
            rw [hpu] at hset
            have HSET := Lib.hid hset
            clear hfr hrm hp2 hset hpu
            go_wp2_with fail
            rw [E1.out, E2.out]
            go_quiet (fail)
            go_wp2_with fail
            go_roundg p.length
            case measure => have := HK.out; simp at this; omega
            case rel => exact ⟨p, xf, pre ++ [k], rfl, rfl, rfl, hfn, (by rw [← HFR.out]; exact hbw), (by show _ = _; rw [HPR.out]; simp), (by
              show Ou _ _ _ _ _ _
              rw [List.reverse_append]
              exact ⟨HSET.out.1, HSET.out.2⟩), (((HBE.out.drewN nq).setCell ⟨g1, k / 2, none⟩ _ rfl))⟩
          · have E2 : Hid (((k : Int) % 2 == 1) = true) := by show _ = _; simp; omega
            have hfr : frm (edl l) k = xt := by unfold frm; rw [if_neg (by omega), hxe]
            have hrm : rm (edl l) fl k = fj := by unfold rm; rw [if_neg (by omega), HFJ.out]
            have hxr := HXR.out k (HSU.out k List.mem_cons_self)
            rw [hrm] at hxr
            have HFR := Lib.hid hfr
            have hset := hOu.set (k / 2) (fj - x)
            have hpu := push1_upd (pushAll fl x pre.reverse) k x
            rw [if_neg (by omega), hF0] at hpu
            rw [hpu] at hset
            have HSET := Lib.hid hset
            clear hfr hrm hp2 hset hpu
            go_wp2_with fail
            rw [E1.out, E2.out]
            go_quiet (fail)
            go_wp2_with fail
            go_roundg p.length
            case measure => have := HK.out; simp at this; omega
            case rel => exact ⟨p, xt, pre ++ [k], rfl, rfl, rfl, htn2, (by rw [← HFR.out]; exact hbw), (by show _ = _; rw [HPR.out]; simp), (by
              show Ou _ _ _ _ _ _
              rw [List.reverse_append]
              exact ⟨HSET.out.1, HSET.out.2⟩), (((HBE.out.drewN nq).setCell ⟨g1, k / 2, none⟩ _ rfl))⟩
    | @cons p k hne hby hrk hbw =>
      obtain ⟨hk1, hk2⟩ := HP.out k (HSU.out k List.mem_cons_self)
      have hj : k / 2 < l.length := by omega
      obtain ⟨rfl, hbl, hat⟩ := HAB.out (by omega)
      obtain ⟨xf, xt, xc, hx, hxe, hfn, htn2, hc0, hc1⟩ := HED.out (k / 2) hj
      have hat := hat (k / 2) hj
      rw [hx] at hat
      obtain ⟨x0, x1, x2⟩ := hat.on HB0.out
      have hBx : Below w.heap.size (w.alloc (.cells #[.int .i64 n, .slice (some ⟨b, o, none⟩) l.length cap] 86)) wr := (HB1.out.mono (Nat.le_succ _)).trans (HBE.out.mono (by omega))
      have y0 := (hBx.cell (p := ⟨b, o + k / 2 * 3, none⟩) hbl).trans x0
      have y1 := (hBx.cell (p := ⟨b, o + k / 2 * 3 + 1, none⟩) hbl).trans x1
      have y2 := (hBx.cell (p := ⟨b, o + k / 2 * 3 + 2, none⟩) hbl).trans x2
      simp only at y0 y1 y2
      obtain ⟨-, -, -, ofr, ocl⟩ := hOu.get
      have oc := ocl (k / 2) hj
      have d := hTB.cell hvn
      rw [hby] at d
      have fb := HFB.out (k / 2) hj
      rw [hxe] at fb
      simp only at fb
      obtain ⟨vv, HVV⟩ := named (tto (edl l) k)
      rw [HVV.out] at d hvn' hne
      have hne1 : ((vv : Int) != (s : Int)) = true := by simp; omega
      clear x0 x1 x2 hat hx ofr ocl
      obtain ⟨fj, HFJ⟩ := named (fl (k / 2))
      rw [HFJ.out] at oc fb
      obtain ⟨fb0, fb1⟩ := fb
      rw [HVV.out]
      have hk2' : ((k / 2 : Nat) : Int) < l.length := by omega
      have E1 : Hid ((k : Int) / 2 = ((k / 2 : Nat) : Int)) := by show _ = _; omega
      by_cases hp2 : k % 2 = 0
      · have E2 : Hid (((k : Int) % 2 == 1) = false) := by show _ = _; rw [beq_eq_false_iff_ne]; omega
        have hfr : frm (edl l) k = xf := by unfold frm; rw [if_pos hp2, hxe]
        have hrm : rm (edl l) fl k = (xc - fj) := by unfold rm; rw [if_pos hp2, hxe, HFJ.out]
        have HFR := Lib.hid hfr
        have HRM := Lib.hid hrm
        have HP2 := Lib.hid hp2
        have hr1 : 1 ≤ (xc - fj) := by rw [← hrm]; exact hk2
        obtain ⟨y, HY⟩ := named (min x (xc - fj))
        have hy : 1 ≤ y ∧ y ≤ x ∧ y ≤ (xc - fj) := by rw [← HY.out]; omega
        obtain ⟨hy1, hy2, hy3⟩ := hy
        clear hfr hrm hp2
        go_wp2_with fail
        rw [E1.out, E2.out]
        go_quiet (fail)
        go_wp2_with fail
        rw [HY.out]
        go_roundg p.length
        case measure => have := HK.out; simp at this; omega
        case rel => exact ⟨p, xf, y, rfl, rfl, rfl, hfn, hy1, by omega, (by rw [← HFR.out]; exact hbw), fun k' h => HSU.out k' (List.mem_cons_of_mem _ h), fun k' h => by
          rcases HMI.out k' h with h | h
          · rcases List.mem_cons.1 h with rfl | h
            · exact .inr (by rw [HRM.out]; exact hy3)
            · exact .inl h
          · exact .inr (by omega), HBE.out.trans (below_drewN _ _ _)⟩
      · have E2 : Hid (((k : Int) % 2 == 1) = true) := by show _ = _; simp; omega
        have hfr : frm (edl l) k = xt := by unfold frm; rw [if_neg (by omega), hxe]
        have hrm : rm (edl l) fl k = fj := by unfold rm; rw [if_neg (by omega), HFJ.out]
        have HFR := Lib.hid hfr
        have HRM := Lib.hid hrm
        have HP2 := Lib.hid hp2
        have hr1 : 1 ≤ fj := by rw [← hrm]; exact hk2
        obtain ⟨y, HY⟩ := named (min x fj)
        have hy : 1 ≤ y ∧ y ≤ x ∧ y ≤ fj := by rw [← HY.out]; omega
        obtain ⟨hy1, hy2, hy3⟩ := hy
        clear hfr hrm hp2
        go_wp2_with fail
        rw [E1.out, E2.out]
        go_quiet (fail)
        go_wp2_with fail
        rw [HY.out]
        go_roundg p.length
        case measure => have := HK.out; simp at this; omega
        case rel => exact ⟨p, xt, y, rfl, rfl, rfl, htn2, hy1, by omega, (by rw [← HFR.out]; exact hbw), fun k' h => HSU.out k' (List.mem_cons_of_mem _ h), fun k' h => by
          rcases HMI.out k' h with h | h
          · rcases List.mem_cons.1 h with rfl | h
            · exact .inr (by rw [HRM.out]; exact hy3)
            · exact .inl h
          · exact .inr (by omega), HBE.out.trans (below_drewN _ _ _)⟩
end Go.Proofs.YtpgadcacimjlaaaGreat.F6
