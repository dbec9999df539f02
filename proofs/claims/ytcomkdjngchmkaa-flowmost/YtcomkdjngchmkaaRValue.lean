/-
  The contract of the reference's Value.
-/
import Derived.Test.YtcomkdjngchmkaaRReach
namespace Go.Proofs.Ytcomkdjngchmkaa
open Go.RowKit
theorem info33 : (Try.prog.info? 33).map (fun i => (i.zero, i.size, i.bytes)) = some (some (.int .u64 0), 1, 8) := by kernel_rfl
theorem made_u64 (n : Nat) : madeCells (Value.int .u64 0).cells (n * 1) = ((List.range n).map (fun _ => Value.int .u64 0)).toArray := by
  apply Array.ext'
  show (madeCells #[Value.int .u64 0] (n * 1)).toList = _
  rw [toList_madeCells_one, Nat.mul_one]
  apply List.ext_getElem
  · simp
  · intro i h1 h2
    simp
/-- What leaves a node; what comes to it. -/
def outS (E : List Ed) (fl : Nat → Int) (v : Nat) : Nat → Int
  | 0 => 0
  | k + 1 => outS E fl v k + (if (ed E k).f = v then fl k else 0)
def inS (E : List Ed) (fl : Nat → Int) (v : Nat) : Nat → Int
  | 0 => 0
  | k + 1 => inS E fl v k + (if (ed E k).t = v then fl k else 0)
theorem net_outin (E : List Ed) (fl : Nat → Int) (v : Nat) : ∀ k, net E fl v k = outS E fl v k - inS E fl v k
  | 0 => rfl
  | k + 1 => by
    simp only [net, outS, inS, net_outin E fl v k]
    omega
theorem outS_bd {E : List Ed} {fl : Nat → Int} {m : Nat} (h : ∀ j, j < m → 0 ≤ fl j ∧ fl j < 4294967296) (v : Nat) : ∀ k, k ≤ m → 0 ≤ outS E fl v k ∧ outS E fl v k ≤ k * 4294967296
  | 0, _ => ⟨Int.le_refl _, by simp [outS]⟩
  | k + 1, hk => by
    have h1 := outS_bd (E := E) h v k (by omega)
    have h2 := h k (by omega)
    simp only [outS]
    split <;> omega
theorem inS_bd {E : List Ed} {fl : Nat → Int} {m : Nat} (h : ∀ j, j < m → 0 ≤ fl j ∧ fl j < 4294967296) (v : Nat) : ∀ k, k ≤ m → 0 ≤ inS E fl v k ∧ inS E fl v k ≤ k * 4294967296
  | 0, _ => ⟨Int.le_refl _, by simp [inS]⟩
  | k + 1, hk => by
    have h1 := inS_bd (E := E) h v k (by omega)
    have h2 := h k (by omega)
    simp only [inS]
    split <;> omega
theorem outS_upd {E : List Ed} {fl : Nat → Int} {k u : Nat} (hu : (ed E k).f = u) (x : Nat) : updV (fun v => Value.int .u64 (outS E fl v k)) u (.int .u64 (outS E fl u k + fl k)) x = .int .u64 (outS E fl x (k + 1)) := by
  by_cases e : x = u
  · subst e; rw [updV_self]; simp only [outS]; rw [if_pos hu]
  · rw [updV_ne _ _ e]; simp only [outS]; rw [if_neg (fun h => e (h.symm.trans hu)), Int.add_zero]
theorem inS_upd {E : List Ed} {fl : Nat → Int} {k u : Nat} (hu : (ed E k).t = u) (x : Nat) : updV (fun v => Value.int .u64 (inS E fl v k)) u (.int .u64 (inS E fl u k + fl k)) x = .int .u64 (inS E fl x (k + 1)) := by
  by_cases e : x = u
  · subst e; rw [updV_self]; simp only [inS]; rw [if_pos hu]
  · rw [updV_ne _ _ e]; simp only [inS]; rw [if_neg (fun h => e (h.symm.trans hu)), Int.add_zero]
set_option maxHeartbeats 3200000 in
set_option maxRecDepth 100000 in
theorem rvalue_any (n : Nat) (a : Option Addr) (l : List A) (cap : Nat) (w : World) (s t : Nat) (vf : Value) (fl : Nat → Int) (hr : Arcs w a l) (hO : Ok n l s t n s t) (hF : Fl w vf l.length fl) (hfl : Flow n (edl l) s t fl) (hnn : 0 ≤ net (edl l) fl s (edl l).length) :
    Calls Try.prog 24 #[.agg #[.int .i64 n, .slice a l.length cap], .int .i64 s, .int .i64 t, vf] w fun e w' => e = .returned (.tuple #[.int .u64 (net (edl l) fl s (edl l).length), .bool true]) ∧ Below w.heap.size w w' := by
  obtain ⟨i33, hi33, hz33, hs33, hby33⟩ := info_parts info33
  have hm : l.length ≤ 16384 := by have := hO.g.lb; rwa [edl_len] at this
  have hnb : n ≤ 1024 := hO.g.nb
  obtain ⟨gf, cf, rfl, hcf, hgf, hfc⟩ := hF
  have hb0 : Below w.heap.size w (w.alloc (.cells #[.int .i64 n, .slice a l.length cap] 24)) := (Below.refl _ _).alloc (Nat.le_refl _) _
  have hg := heap_top w (.cells #[.int .i64 n, .slice a l.length cap] 24)
  have hsz : (w.alloc (.cells #[.int .i64 n, .slice a l.length cap] 24)).heap.size = w.heap.size + 1 := by simp
  have hmk : ∀ w, (Instr.makeSlice 72 (.int .i64 n) (.int .i64 n)).run Try.prog w = .ok (.slice (some ⟨w.heap.size, 0, none⟩) n n) (w.alloc (.cells ((List.range n).map (fun _ => Value.int .u64 0)).toArray 33)) := fun w => by
    have := run_make (P := Try.prog) w 72 33 i33 (.int .u64 0) Try.underlying72 hi33 hz33 .i64 .i64 n n (by omega) (by omega) (by rw [hby33]; omega) (by omega)
    rw [this, Int.toNat_natCast, hs33, made_u64]
  have HED := Lib.hid (edges_of hO.g hO.po)
  obtain ⟨b, o, hab⟩ : ∃ b o, 0 < l.length → a = some ⟨b, o, none⟩ ∧ b < w.heap.size ∧ ∀ j, j < l.length → (l.getD j A.zero).at w b (o + j * 3) := by
    rcases hr with rfl | ⟨b, o, h⟩
    · exact ⟨0, 0, fun h => absurd h (by simp)⟩
    · exact ⟨b, o, fun _ => h⟩
  have HAB := Lib.hid hab
  have HO := Lib.hid hO
  have HFC := Lib.hid hfc
  have HFL := Lib.hid hfl
  have HFB : Hid (∀ j, j < l.length → 0 ≤ fl j ∧ fl j < 4294967296) := fun j hj => by
    have h1 := hfl.lo j (by rw [edl_len]; exact hj)
    have h2 := hfl.hi j (by rw [edl_len]; exact hj)
    have h3 := hO.g.cap j (by rw [edl_len]; exact hj)
    omega
  have HNN := Lib.hid hnn
  obtain ⟨V, HV⟩ := named (net (edl l) fl s (edl l).length)
  rw [HV.out]
  rw [HV.out] at HNN
  have hm1 : ((l.length : Int) != l.length) = false := by simp
  clear hr hab hO hfc hfl hnn hi33 hz33 hs33 hby33
  clear i33
  go_enter Try.func24, Try.ntmps24
  go_wp2_with fail
  have hg1 := (Below.heap_alloc (w.alloc (.cells #[.int .i64 n, .slice a l.length cap] 24)) (.cells ((List.range n).map (fun _ => Value.int .u64 0)).toArray 33) w.heap.size (by omega)).trans hg
  have hS1 := heap_top (w.alloc (.cells #[.int .i64 n, .slice a l.length cap] 24)) (.cells ((List.range n).map (fun _ => Value.int .u64 0)).toArray 33)
  rw [hsz] at hS1
  have hb1 : Below w.heap.size w ((w.alloc (.cells #[.int .i64 n, .slice a l.length cap] 24)).alloc (.cells ((List.range n).map (fun _ => Value.int .u64 0)).toArray 33)) := hb0.alloc (by omega) _
  have hsz1 : ((w.alloc (.cells #[.int .i64 n, .slice a l.length cap] 24)).alloc (.cells ((List.range n).map (fun _ => Value.int .u64 0)).toArray 33)).heap.size = w.heap.size + 2 := by simp
  clear hb0 hg hsz
  generalize (w.alloc (.cells #[.int .i64 n, .slice a l.length cap] 24)).alloc (.cells ((List.range n).map (fun _ => Value.int .u64 0)).toArray 33) = W1 at *
  have hg2 := (Below.heap_alloc W1 (.cells ((List.range n).map (fun _ => Value.int .u64 0)).toArray 33) w.heap.size (by omega)).trans hg1
  have hS2 := (Below.heap_alloc W1 (.cells ((List.range n).map (fun _ => Value.int .u64 0)).toArray 33) (w.heap.size + 1) (by omega)).trans hS1
  have hB2 := heap_top W1 (.cells ((List.range n).map (fun _ => Value.int .u64 0)).toArray 33)
  rw [hsz1] at hB2
  have HBW : Hid (Below w.heap.size w (W1.alloc (.cells ((List.range n).map (fun _ => Value.int .u64 0)).toArray 33))) := hb1.alloc (by omega) _
  have HG2 := Lib.hid hg2
  have HS2 : Hid (TbV (W1.alloc (.cells ((List.range n).map (fun _ => Value.int .u64 0)).toArray 33)) (w.heap.size + 1) n 33 (fun _ => .int .u64 0)) := hS2
  have HB2 : Hid (TbV (W1.alloc (.cells ((List.range n).map (fun _ => Value.int .u64 0)).toArray 33)) (w.heap.size + 1 + 1) n 33 (fun _ => .int .u64 0)) := hB2
  clear hg1 hS1 hb1 hg2 hS2 hB2 hmk hsz1
  generalize W1.alloc (.cells ((List.range n).map (fun _ => Value.int .u64 0)).toArray 33) = W at *
  generalize hbS : w.heap.size + 1 = bO at *
  generalize hbB : bO + 1 = bI at *
  have hSB : bO ≠ bI := by omega
  have hSB2 := hSB.symm
  have hwS : w.heap.size < bO := by omega
  have hwI : w.heap.size < bI := by omega
  clear hbS hbB
  go_loopw [12] (fun iv wr => ∃ k : Nat, k ≤ l.length ∧ iv = .int .i64 k ∧ Hid (TbV wr bO n 33 (fun v => .int .u64 (outS (edl l) fl v k))) ∧ Hid (TbV wr bI n 33 (fun v => .int .u64 (inS (edl l) fl v k))) ∧ Hid (Fr (fun j => j = bO ∨ j = bI) W wr)) (fun i _ => l.length - (intOf i).toNat)
  case atStart => exact ⟨0, Nat.zero_le _, rfl, HS2, HB2, Fr.refl _ _⟩
  case round =>
    obtain ⟨k, hk, rfl, HTO, HTI, HFR⟩ := hrel
    have hbe : Below w.heap.size W wr := HFR.out.below HBW.out.size (fun k h => by omega)
    have hgr := (HFR.out.block _ (lt_of_block HG2.out) (by omega)).trans HG2.out
    obtain ⟨⟨g0, g1⟩, gf0, gf1⟩ := two_cells hgr
    by_cases hlt : k < l.length
    · obtain ⟨rfl, hbl, hat⟩ := HAB.out (by omega)
      obtain ⟨xf, xt, xc, hx, hxe, hfn, htn, hc0, hc1⟩ := HED.out k hlt
      have hat := hat k hlt
      rw [hx] at hat
      obtain ⟨x0, x1, x2⟩ := hat.on HBW.out
      have y0 := (hbe.cell (p := ⟨b, o + k * 3, none⟩) hbl).trans x0
      have y1 := (hbe.cell (p := ⟨b, o + k * 3 + 1, none⟩) hbl).trans x1
      have y2 := (hbe.cell (p := ⟨b, o + k * 3 + 2, none⟩) hbl).trans x2
      simp only at y0 y1 y2
      have fc := (hbe.cell (p := ⟨gf, k, none⟩) hgf).trans ((HBW.out.cell (p := ⟨gf, k, none⟩) hgf).trans (HFC.out k hlt))
      have fb := HFB.out k hlt
      have fh := HFL.out.hi k (by rw [edl_len]; exact hlt)
      rw [hxe] at fh
      simp only at fh
      have d1 := HTO.out.cell hfn
      have d1f := HTO.out.free xf
      have d2 := HTI.out.cell htn
      have d2f := HTI.out.free xt
      have b1 := outS_bd HFB.out (E := edl l) xf k (by omega)
      have b2 := inS_bd HFB.out (E := edl l) xt k (by omega)
      have u1 := (HTO.out.set xf (.int .u64 (outS (edl l) fl xf k + fl k))).congr (fun x _ => outS_upd (by rw [hxe]) x)
      have f1 : Fr (fun j => j = bO) wr (wr.setCell ⟨bO, xf, none⟩ (.int .u64 (outS (edl l) fl xf k + fl k))) := (Fr.refl _ wr).setCell ⟨bO, xf, none⟩ _ rfl
      have u2 := ((HTI.out.fr f1 (by show ¬ bI = bO; exact hSB2)).set xt (.int .u64 (inS (edl l) fl xt k + fl k))).congr (fun x _ => inS_upd (by rw [hxe]) x)
      have f2 : Fr (fun j => j = bI) (wr.setCell ⟨bO, xf, none⟩ (.int .u64 (outS (edl l) fl xf k + fl k))) ((wr.setCell ⟨bO, xf, none⟩ (.int .u64 (outS (edl l) fl xf k + fl k))).setCell ⟨bI, xt, none⟩ (.int .u64 (inS (edl l) fl xt k + fl k))) := (Fr.refl _ _).setCell ⟨bI, xt, none⟩ _ rfl
      have u3 := u1.fr f2 (by show ¬ bO = bI; exact hSB)
      have f3 : Fr (fun j => j = bO ∨ j = bI) W ((wr.setCell ⟨bO, xf, none⟩ (.int .u64 (outS (edl l) fl xf k + fl k))).setCell ⟨bI, xt, none⟩ (.int .u64 (inS (edl l) fl xt k + fl k))) := (HFR.out.trans (f1.imp (fun _ h => .inl h))).trans (f2.imp (fun _ h => .inr h))
      obtain ⟨fk, HFK⟩ := named (fl k)
      obtain ⟨ov, HOV⟩ := named (outS (edl l) fl xf k)
      obtain ⟨iv, HIV⟩ := named (inS (edl l) fl xt k)
      rw [HFK.out] at fc fb fh u2 u3 f3
      rw [HOV.out] at d1 b1 u2 u3 f3
      rw [HIV.out] at d2 b2 u2 u3 f3
      obtain ⟨fb0, fb1⟩ := fb
      have hov : 0 ≤ ov ∧ ov + fk < 18446744073709551616 := by omega
      have hiv : 0 ≤ iv ∧ iv + fk < 18446744073709551616 := by omega
      obtain ⟨hov1, hov2⟩ := hov
      obtain ⟨hiv1, hiv2⟩ := hiv
      have HU2 := Lib.hid u2
      have HU3 := Lib.hid u3
      have HF3 := Lib.hid f3
      have hfn' : (xf : Int) < n := by omega
      have htn' : (xt : Int) < n := by omega
      have hkl : (k : Int) < l.length := by omega
      have hcap : ¬ xc < fk := by omega
      have nb1 : b ≠ bO := by omega
      have nb2 : b ≠ bI := by omega
      have ng1 : gf ≠ bO := by omega
      have ng2 : gf ≠ bI := by omega
      have nw1 : w.heap.size ≠ bO := by omega
      have nw2 : w.heap.size ≠ bI := by omega
      clear x0 x1 x2 hat hx hxe u1 u2 u3 f1 f2 f3 b1 b2 hbe
      go_wp2_with fail
      go_quiet (fail)
      go_wp2_with fail
      go_region
      go_wp2_with fail
      go_region
      go_wp2_with fail
      exact ⟨⟨k + 1, hlt, by go_num, HU3.out, HU2.out, ⟨HF3.out.os, HF3.out.tape, HF3.out.output, HF3.out.size, HF3.out.block⟩⟩, by simp [intOf]; omega⟩
    · obtain rfl : k = l.length := by omega
      have hge : ¬ ((l.length : Nat) : Int) < l.length := by omega
      have HOI : Hid (∀ v, outS (edl l) fl v l.length - inS (edl l) fl v l.length = net (edl l) fl v (edl l).length) := fun v => by rw [edl_len]; exact (net_outin _ _ _ _).symm
      have HBO : Hid (∀ v, 0 ≤ outS (edl l) fl v l.length ∧ outS (edl l) fl v l.length ≤ l.length * 4294967296) := fun v => outS_bd HFB.out v _ (Nat.le_refl _)
      have HBI : Hid (∀ v, 0 ≤ inS (edl l) fl v l.length ∧ inS (edl l) fl v l.length ≤ l.length * 4294967296) := fun v => inS_bd HFB.out v _ (Nat.le_refl _)
      obtain ⟨w5, hw5⟩ : ∃ w5, w5 = wr := ⟨_, rfl⟩
      subst hw5
      have HG5 := Lib.hid hgr
      have HBW5 : Hid (Below w.heap.size w w5) := HBW.out.trans hbe
      clear hbe hgr HFR
      go_wp2_with fail
      go_loopw [13] (fun iv wx => ∃ k : Nat, k ≤ n ∧ iv = .int .i64 k ∧ Hid (∃ d, wx = w5.drewN d)) (fun i _ => n - (intOf i).toNat)
      case atStart => exact ⟨0, Nat.zero_le _, rfl, ⟨0, rfl⟩⟩
      case round =>
        obtain ⟨k, hk, rfl, HD⟩ := hrel
        obtain ⟨dd, hdd⟩ := HD.out
        subst hdd
        by_cases hlt : k < n
        · have hlt' : (k : Int) < n := by omega
          have d1 := HTO.out.cell hlt
          have d2 := HTI.out.cell hlt
          by_cases h1 : k = s
          · have e1 : ((k : Int) != (s : Int)) = false := by rw [h1]; simp
            clear h1
            go_wp2_with fail
            go_quiet (fail)
            go_wp2_with fail
            exact ⟨⟨k + 1, hlt, by go_num, ⟨_, rfl⟩⟩, by simp [intOf]; omega⟩
          · have e1 : ((k : Int) != (s : Int)) = true := by simp; omega
            by_cases h2 : k = t
            · have e2 : ((k : Int) != (t : Int)) = false := by rw [h2]; simp
              clear h1 h2
              go_wp2_with fail
              go_quiet (fail)
              go_wp2_with fail
              exact ⟨⟨k + 1, hlt, by go_num, ⟨_, rfl⟩⟩, by simp [intOf]; omega⟩
            · have e2 : ((k : Int) != (t : Int)) = true := by simp; omega
              have hmid := HFL.out.mid k hlt h1 h2
              rw [← HOI.out k] at hmid
              have heq : outS (edl l) fl k l.length = inS (edl l) fl k l.length := by omega
              rw [heq] at d1
              clear hmid heq h1 h2
              generalize inS (edl l) fl k l.length = vv at *
              have e3 : (vv != vv) = false := by simp
              go_wp2_with fail
              go_quiet (fail)
              go_wp2_with fail
              exact ⟨⟨k + 1, hlt, by go_num, ⟨_, rfl⟩⟩, by simp [intOf]; omega⟩
        · have hge2 : ¬ (k : Int) < n := by omega
          have d1 := HTO.out.cell HO.out.un
          have d2 := HTI.out.cell HO.out.un
          have hs' : (s : Int) < n := by have := HO.out.un; omega
          have h1 := HOI.out s
          rw [HV.out] at h1
          have h2 := HBO.out s
          have h3 := HBI.out s
          have h4 := HNN.out
          generalize outS (edl l) fl s l.length = ov at *
          generalize inS (edl l) fl s l.length = iv at *
          have h5 : iv ≤ ov := by omega
          have h6 : 0 ≤ iv ∧ ov < 18446744073709551616 := by omega
          obtain ⟨h6, h7⟩ := h6
          have HVV := Lib.hid h1
          clear h1 h2 h3 h4
          go_wp2_with fail
          go_quiet (fail)
          go_wp2_with fail
          go_ret2
          exact ⟨by rw [← HVV.out]; rfl, HBW5.out.trans ⟨rfl, rfl, rfl, Nat.le_refl _, fun _ _ => rfl⟩⟩
end Go.Proofs.Ytcomkdjngchmkaa
