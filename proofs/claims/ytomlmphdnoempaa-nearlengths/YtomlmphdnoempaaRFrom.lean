/-
  Contracts of flyoverref05.From, To, Within and Between. Contract of near.To.
-/
import Derived.Test.YtomlmphdnoempaaBetween
import Derived.Test.YtomlmphdnoempaaRBell
import Derived.Test.YtomlmphdnoempaaRRev
namespace Go.Proofs.Ytomlmphdnoempaa
open Go.RowKit
theorem turned_chk {N : Int} {l : List A} (h : chkE N l = 0) : chkE N (turned l) = 0 := by
  obtain ⟨h1, h2, h3, h4⟩ := chk_zero h
  refine (chk_ok (by omega) (by rw [turned_len]; omega) ?_).1
  rw [List.all_eq_true]
  intro x hx
  have := h4 _ (mem_turn hx)
  simp [okA, okV]
  exact ⟨this.2, this.1⟩
theorem turned_nearE {N : Int} {l : List A} {xs : List Int} (h : chkE N l = 0) : nearE N (turned l) xs = nearE N l xs := by
  unfold nearE
  rw [if_pos h, if_pos (turned_chk h)]
set_option maxHeartbeats 800000 in
set_option maxRecDepth 100000 in
theorem to_ok (n : Nat) (a : Option Addr) (l : List A) (cap : Nat) (t : Nat) (w : World) (g : RG n l) (ht : t < n) (hE : nearE n l [(t : Int)] = 0) (hn : a = none → l = [] ∧ cap = 0) (hr : Arcs w a l) :
    Calls Try.prog 15 #[.agg #[.int .i64 n, .slice a l.length cap], .int .i64 t] w fun e w' => ∃ bf, e = .returned (.tuple #[.slice (some ⟨bf, 0, none⟩) n n, .int .i64 0]) ∧ FarIs w w' bf n (turned l) (fun _ => true) t := by
  have hlb := g.lb
  have hb0 : Below w.heap.size w (w.alloc (.cells #[.int .i64 n, .slice a l.length cap] 24)) := (Below.refl _ _).alloc (Nat.le_refl _) _
  have HCE := Lib.hid (nearE_chk hE)
  have HRV := Lib.hid (reverse_any n a l cap (w.alloc (.cells #[.int .i64 n, .slice a l.length cap] 24)) (by omega) hn (hr.on hb0))
  rw [if_pos HCE.out, if_pos HCE.out, HCE.out] at HRV
  have HG := Lib.hid (turned_rg g)
  have HE : Hid (nearE n (turned l) [(t : Int)] = 0) := (turned_nearE HCE.out).trans hE
  clear g hr hE hn
  go_enter Try.func15, Try.ntmps15
  go_wp2_with fail
  refine HRV.out.mono ?_
  rintro e w1 ⟨a', c', rfl, ho, hnil, hb1⟩
  have b1 : Below w.heap.size w w1 := hb0.trans (hb1.mono hb0.size)
  have bW : Below w1.heap.size w1 (w1.alloc (.cells #[.int .i64 n, .slice a' (turned l).length c'] 24)) := (Below.refl _ _).alloc (Nat.le_refl _) _
  have HFR := Lib.hid (from_ok n a' (turned l) c' t (w1.alloc (.cells #[.int .i64 n, .slice a' (turned l).length c'] 24)) HG.out ht HE.out (ho.arcs.on bW))
  have b2 := b1.trans (bW.mono b1.size)
  clear hb0 hb1 HRV ho hnil
  go_wp2_with fail
  refine HFR.out.mono ?_
  rintro e w2 ⟨bf, rfl, F, tf, hisd, hbn, hbf, hb2⟩
  go_wp2_with fail
  go_ret2
  exact ⟨bf, rfl, F, tf, hisd, hbn, Nat.le_trans b2.size hbf, b2.trans (hb2.mono b2.size)⟩
set_option maxHeartbeats 800000 in
set_option maxRecDepth 100000 in
theorem to_no (N : Int) (a : Option Addr) (l : List A) (cap : Nat) (t : Int) (w : World) (hlen : l.length * 24 ≤ 140737488351232) (hE : nearE N l [t] ≠ 0) (hn : a = none → l = [] ∧ cap = 0) (hr : Arcs w a l) :
    Calls Try.prog 15 #[.agg #[.int .i64 N, .slice a l.length cap], .int .i64 t] w fun e w' => e = .returned (.tuple #[.slice none 0 0, .int .i64 (nearE N l [t])]) ∧ Below w.heap.size w w' := by
  have hl : l.length ≤ 9223372036854775807 := by omega
  have hb0 : Below w.heap.size w (w.alloc (.cells #[.int .i64 N, .slice a l.length cap] 24)) := (Below.refl _ _).alloc (Nat.le_refl _) _
  have HRV := Lib.hid (reverse_any N a l cap (w.alloc (.cells #[.int .i64 N, .slice a l.length cap] 24)) hlen hn (hr.on hb0))
  by_cases hc : chkE N l = 0
  · rw [if_pos hc, if_pos hc, hc] at HRV
    have HE : Hid (nearE N (turned l) [t] ≠ 0) := by rw [turned_nearE hc]; exact hE
    have HEQ := Lib.hid (turned_nearE (xs := [t]) hc)
    obtain ⟨E, HEE⟩ := named (nearE N l [t])
    rw [HEE.out]
    clear hr hE hn hc
    go_enter Try.func15, Try.ntmps15
    go_wp2_with fail
    refine HRV.out.mono ?_
    rintro e w1 ⟨a', c', rfl, ho, hnil, hb1⟩
    have b1 : Below w.heap.size w w1 := hb0.trans (hb1.mono hb0.size)
    have bW : Below w1.heap.size w1 (w1.alloc (.cells #[.int .i64 N, .slice a' (turned l).length c'] 24)) := (Below.refl _ _).alloc (Nat.le_refl _) _
    have HFR := Lib.hid (from_no N a' (turned l) c' t (w1.alloc (.cells #[.int .i64 N, .slice a' (turned l).length c'] 24)) (by rw [turned_len]; exact hl) HE.out (ho.arcs.on bW))
    rw [HEQ.out, HEE.out] at HFR
    have b2 := b1.trans (bW.mono b1.size)
    clear hb0 hb1 HRV ho hnil
    go_wp2_with fail
    refine HFR.out.mono ?_
    rintro e w2 ⟨rfl, hb2⟩
    go_wp2_with fail
    go_ret2
    exact ⟨rfl, b2.trans (hb2.mono b2.size)⟩
  · have hE2 : nearE N l [t] = chkE N l := by unfold nearE; rw [if_neg hc]
    rw [if_neg hc, if_neg hc] at HRV
    rw [hE2]
    have hc' : (chkE N l == 0) = false := beq_eq_false_iff_ne.2 hc
    generalize chkE N l = E at *
    clear hr hE hn hc hE2
    go_enter Try.func15, Try.ntmps15
    go_wp2_with fail
    refine HRV.out.mono ?_
    rintro e w1 ⟨a', c', rfl, ho, hnil, hb1⟩
    have b1 : Below w.heap.size w w1 := hb0.trans (hb1.mono hb0.size)
    go_wp2_with fail
    go_ret2
    exact ⟨rfl, b1.alloc b1.size _⟩
end Go.Proofs.Ytomlmphdnoempaa
namespace Go.Proofs.Ytomlmphdnoempaa
open Go.RowKit
theorem nearE_twice (N : Int) (l : List A) (s : Int) : nearE N l [s, s] = nearE N l [s] := by unfold nearE; simp
/-- Distances in a list of their own, as all arcs tell them. -/
def FarR (w w' : World) (bf n : Nat) (l : List A) (ok : Nat → Bool) (s : Nat) : Prop := ∃ F, Tb w' bf n 34 .u64 F ∧ IsD l ok s F ∧ w.heap.size ≤ bf ∧ Below w.heap.size w w'
theorem FarR.drew {w w' : World} {bf n : Nat} {l : List A} {ok : Nat → Bool} {s : Nat} (h : FarR w w' bf n l ok s) : FarR w w'.drew bf n l ok s := by
  obtain ⟨F, h1, h2, h3, h4⟩ := h
  exact ⟨F, h1.same rfl, h2, h3, h4.drew⟩
set_option maxHeartbeats 1600000 in
set_option maxRecDepth 100000 in
theorem rfrom_ok (n : Nat) (a : Option Addr) (l : List A) (cap : Nat) (s : Nat) (w : World) (g : RG n l) (hs : s < n) (hE : nearE n l [(s : Int)] = 0) (hr : Arcs w a l) :
    Calls Try.prog 13 #[.agg #[.int .i64 n, .slice a l.length cap], .int .i64 s] w fun e w' => ∃ bf, e = .returned (.tuple #[.slice (some ⟨bf, 0, none⟩) n n, .int .i64 0]) ∧ FarR w w' bf n l Al s := by
  have hlb := g.lb
  have hb0 : Below w.heap.size w (w.alloc (.cells #[.int .i64 n, .slice a l.length cap] 24)) := (Below.refl _ _).alloc (Nat.le_refl _) _
  have hg := heap_top w (.cells #[.int .i64 n, .slice a l.length cap] 24)
  have HLK := Lib.hid (looked_any n a l cap s s _ (by omega) (hr.on hb0))
  rw [nearE_twice, hE] at HLK
  have HG := Lib.hid g
  have HR := Lib.hid hr
  clear g hr hE
  go_enter Try.func13, Try.ntmps13
  go_wp2_with fail
  refine HLK.out.mono ?_
  rintro e w1 ⟨rfl, hb1⟩
  have b1 : Below w.heap.size w w1 := hb0.trans (hb1.mono hb0.size)
  have hg1 := (hb1.block _ (lt_of_block hg)).trans hg
  have S1 := Lib.hid (lt_of_block hg1)
  obtain ⟨⟨g0, g1⟩, -⟩ := two_cells hg1
  have G0 := Lib.hid g0
  have G1 := Lib.hid g1
  have HEV := Lib.hid (fun w' => every_any n HG.out.nb a l.length cap w')
  have HDI := Lib.hid (fun (w' : World) (b : Nat) (hb : Below w1.heap.size w1 w') (hm : TbB w' b n Al) => dists_any n a l cap s (some ⟨b, 0, none⟩) n Al w' HG.out hs (HR.out.on (b1.trans (hb.mono b1.size))) hm.mks)
  have HB1 := Lib.hid b1
  clear hg hb0 hb1 HLK hg1 b1
  go_wp2_with fail
  go_region_held3 (fun w' => w'.cell? ⟨w.heap.size, 0, none⟩ = some (.int .i64 n) ∧ w'.cell? ⟨w.heap.size, 1, none⟩ = some (.slice a l.length cap)) (go_keep) (first
    | (go_at_call 40; refine (HEV.out _).mono ?_; rintro e w2 ⟨b, rfl, tb, hb, hb2⟩; have B2 : Below w1.heap.size w1 w2 := below_base hb2 (by first | exact Below.refl _ _ | exact (Below.refl _ _).drew | exact below_drewN _ _ _); have y0 := (B2.cell (p := ⟨w.heap.size, 0, none⟩) S1.out).trans G0.out; have y1 := (B2.cell (p := ⟨w.heap.size, 1, none⟩) S1.out).trans G1.out)
    | (go_at_call 39; refine (HDI.out _ _ (by first | exact B2 | exact B2.drew | exact B2.trans (below_drewN _ _ _)) (TbB.same tb rfl)).mono ?_; rintro e w3 ⟨bf, rfl, F, tf, hisd, hbf, hb3⟩; have B3 : Below w1.heap.size w1 w3 := below_base hb3 (by first | exact B2 | exact B2.drew | exact B2.trans (below_drewN _ _ _)); have y2 := (B3.cell (p := ⟨w.heap.size, 0, none⟩) S1.out).trans G0.out; have y3 := (B3.cell (p := ⟨w.heap.size, 1, none⟩) S1.out).trans G1.out))
  have HF : Hid (FarR w w3 bf n l Al s) := by
    have q1 := B2.size
    have q2 := HB1.out.size
    have q3 : w2.heap.size ≤ bf := hbf
    exact ⟨F, tf, hisd, by omega, HB1.out.trans (B3.mono q2)⟩
  clear tf hisd y0 y1 y2 y3
  go_wp2_with fail
  go_ret2
  exact ⟨bf, rfl, by first | exact HF.out | exact HF.out.drew⟩
set_option maxHeartbeats 800000 in
set_option maxRecDepth 100000 in
theorem rfrom_no (N : Int) (a : Option Addr) (l : List A) (cap : Nat) (s : Int) (w : World) (hl : l.length ≤ 9223372036854775807) (hE : nearE N l [s] ≠ 0) (hr : Arcs w a l) :
    Calls Try.prog 13 #[.agg #[.int .i64 N, .slice a l.length cap], .int .i64 s] w fun e w' => e = .returned (.tuple #[.slice none 0 0, .int .i64 (nearE N l [s])]) ∧ Below w.heap.size w w' := by
  have hb0 : Below w.heap.size w (w.alloc (.cells #[.int .i64 N, .slice a l.length cap] 24)) := (Below.refl _ _).alloc (Nat.le_refl _) _
  have HLK := Lib.hid (looked_any N a l cap s s _ hl (hr.on hb0))
  rw [nearE_twice] at HLK
  have hE' : (nearE N l [s] == 0) = false := beq_eq_false_iff_ne.2 hE
  generalize nearE N l [s] = E at *
  clear hE hr
  go_enter Try.func13, Try.ntmps13
  go_wp2_with fail
  refine HLK.out.mono ?_
  rintro e w1 ⟨rfl, hb1⟩
  have b1 : Below w.heap.size w w1 := hb0.trans (hb1.mono hb0.size)
  go_wp2_with fail
  go_ret2
  exact ⟨rfl, b1⟩
set_option maxHeartbeats 1600000 in
set_option maxRecDepth 100000 in
theorem rbetween_ok (n : Nat) (a : Option Addr) (l : List A) (cap : Nat) (s t : Nat) (w : World) (g : RG n l) (hs : s < n) (ht : t < n) (hE : nearE n l [(s : Int), (t : Int)] = 0) (hr : Arcs w a l) :
    Calls Try.prog 18 #[.agg #[.int .i64 n, .slice a l.length cap], .int .i64 s, .int .i64 t] w fun e w' => ∃ d, e = .returned (.tuple #[.int .u64 d, .int .i64 0]) ∧ IsT l s t d ∧ Below w.heap.size w w' := by
  have hlb := g.lb
  have hb0 : Below w.heap.size w (w.alloc (.cells #[.int .i64 n, .slice a l.length cap] 24)) := (Below.refl _ _).alloc (Nat.le_refl _) _
  have hg := heap_top w (.cells #[.int .i64 n, .slice a l.length cap] 24)
  have HLK := Lib.hid (looked_any n a l cap s t _ (by omega) (hr.on hb0))
  rw [hE] at HLK
  have HG := Lib.hid g
  have HR := Lib.hid hr
  clear g hr hE
  go_enter Try.func18, Try.ntmps18
  go_wp2_with fail
  refine HLK.out.mono ?_
  rintro e w1 ⟨rfl, hb1⟩
  have b1 : Below w.heap.size w w1 := hb0.trans (hb1.mono hb0.size)
  have hg1 := (hb1.block _ (lt_of_block hg)).trans hg
  have S1 := Lib.hid (lt_of_block hg1)
  obtain ⟨⟨g0, g1⟩, -⟩ := two_cells hg1
  have G0 := Lib.hid g0
  have G1 := Lib.hid g1
  have ht' : (t : Int) < n := by omega
  have HEV := Lib.hid (fun w' => every_any n HG.out.nb a l.length cap w')
  have HDI := Lib.hid (fun (w' : World) (b : Nat) (hb : Below w1.heap.size w1 w') (hm : TbB w' b n Al) => dists_any n a l cap s (some ⟨b, 0, none⟩) n Al w' HG.out hs (HR.out.on (b1.trans (hb.mono b1.size))) hm.mks)
  have HB1 := Lib.hid b1
  clear hg hb0 hb1 HLK hg1 b1
  go_wp2_with fail
  go_region_with (first
    | (go_at_call 40; refine (HEV.out _).mono ?_; rintro e w2 ⟨b, rfl, tb, hb, hb2⟩; have B2 : Below w1.heap.size w1 w2 := below_base hb2 (by first | exact Below.refl _ _ | exact (Below.refl _ _).drew | exact below_drewN _ _ _); have y0 := (B2.cell (p := ⟨w.heap.size, 0, none⟩) S1.out).trans G0.out; have y1 := (B2.cell (p := ⟨w.heap.size, 1, none⟩) S1.out).trans G1.out)
    | (go_at_call 39; refine (HDI.out _ _ (by first | exact B2 | exact B2.drew | exact B2.trans (below_drewN _ _ _)) (TbB.same tb rfl)).mono ?_; rintro e w3 ⟨bf, rfl, F, tf, hisd, hbf, hb3⟩; have B3 : Below w1.heap.size w1 w3 := below_base hb3 (by first | exact B2 | exact B2.drew | exact B2.trans (below_drewN _ _ _)); have y2 := (B3.cell (p := ⟨w.heap.size, 0, none⟩) S1.out).trans G0.out; have y3 := (B3.cell (p := ⟨w.heap.size, 1, none⟩) S1.out).trans G1.out; have yt := tf.cell ht))
  all_goals
    have HF : Hid (IsT l s t (F t) ∧ Below w.heap.size w w3) := ⟨hisd.at t, HB1.out.trans (B3.mono HB1.out.size)⟩
    clear tf hisd y0 y1 y2 y3
    go_wp2_with fail
    go_ret2
    exact ⟨_, rfl, HF.out.1, by first | exact HF.out.2 | exact HF.out.2.drew⟩
set_option maxHeartbeats 800000 in
set_option maxRecDepth 100000 in
theorem rbetween_no (N : Int) (a : Option Addr) (l : List A) (cap : Nat) (s t : Int) (w : World) (hl : l.length ≤ 9223372036854775807) (hE : nearE N l [s, t] ≠ 0) (hr : Arcs w a l) :
    Calls Try.prog 18 #[.agg #[.int .i64 N, .slice a l.length cap], .int .i64 s, .int .i64 t] w fun e w' => e = .returned (.tuple #[.int .u64 0, .int .i64 (nearE N l [s, t])]) ∧ Below w.heap.size w w' := by
  have hb0 : Below w.heap.size w (w.alloc (.cells #[.int .i64 N, .slice a l.length cap] 24)) := (Below.refl _ _).alloc (Nat.le_refl _) _
  have HLK := Lib.hid (looked_any N a l cap s t _ hl (hr.on hb0))
  have hE' : (nearE N l [s, t] == 0) = false := beq_eq_false_iff_ne.2 hE
  generalize nearE N l [s, t] = E at *
  clear hE hr
  go_enter Try.func18, Try.ntmps18
  go_wp2_with fail
  refine HLK.out.mono ?_
  rintro e w1 ⟨rfl, hb1⟩
  have b1 : Below w.heap.size w w1 := hb0.trans (hb1.mono hb0.size)
  go_wp2_with fail
  go_ret2
  exact ⟨rfl, b1⟩
set_option maxHeartbeats 1600000 in
set_option maxRecDepth 100000 in
theorem rto_ok (n : Nat) (a : Option Addr) (l : List A) (cap : Nat) (t : Nat) (w : World) (g : RG n l) (ht : t < n) (hE : nearE n l [(t : Int)] = 0) (hn : a = none → l = [] ∧ cap = 0) (hr : Arcs w a l) :
    Calls Try.prog 16 #[.agg #[.int .i64 n, .slice a l.length cap], .int .i64 t] w fun e w' => ∃ bf, e = .returned (.tuple #[.slice (some ⟨bf, 0, none⟩) n n, .int .i64 0]) ∧ FarR w w' bf n (turned l) Al t := by
  have hlb := g.lb
  have hb0 : Below w.heap.size w (w.alloc (.cells #[.int .i64 n, .slice a l.length cap] 24)) := (Below.refl _ _).alloc (Nat.le_refl _) _
  have hg := heap_top w (.cells #[.int .i64 n, .slice a l.length cap] 24)
  have HLK := Lib.hid (looked_any n a l cap t t _ (by omega) (hr.on hb0))
  rw [nearE_twice, hE] at HLK
  have HTL : Hid (l.length = (turned l).length) := (turned_len l).symm
  have HG := Lib.hid g
  have HR := Lib.hid hr
  have HNN := Lib.hid hn
  clear g hr hE hn
  go_enter Try.func16, Try.ntmps16
  go_wp2_with fail
  refine HLK.out.mono ?_
  rintro e w1 ⟨rfl, hb1⟩
  have b1 : Below w.heap.size w w1 := hb0.trans (hb1.mono hb0.size)
  have hg1 := (hb1.block _ (lt_of_block hg)).trans hg
  have S1 := Lib.hid (lt_of_block hg1)
  obtain ⟨⟨g0, g1⟩, -⟩ := two_cells hg1
  have G0 := Lib.hid g0
  have G1 := Lib.hid g1
  have HEV := Lib.hid (fun w' => every_any n HG.out.nb a l.length cap w')
  have HTU := Lib.hid (fun (w' : World) (hb : Below w1.heap.size w1 w') => rturned_any n a l cap w' (by have := HG.out.lb; omega) HNN.out (HR.out.on (b1.trans (hb.mono b1.size))))
  have HDI : Hid (∀ (w' : World) (b : Nat) (g c' : Nat), TbB w' b n Al → Arcs w' (some ⟨g, 0, none⟩) (turned l) → Calls Try.prog 39 #[.agg #[.int .i64 n, .slice (some ⟨g, 0, none⟩) l.length c'], .int .i64 t, .slice (some ⟨b, 0, none⟩) n n] w' fun e w'' => ∃ bf, e = .returned (.slice (some ⟨bf, 0, none⟩) n n) ∧ ∃ F, Tb w'' bf n 34 .u64 F ∧ IsD (turned l) Al t F ∧ w'.heap.size ≤ bf ∧ Below w'.heap.size w' w'') := by
    intro w' b g c' hm ha
    rw [HTL.out]
    exact dists_any n _ (turned l) c' t (some ⟨b, 0, none⟩) n Al w' (turned_rg HG.out) ht ha hm.mks
  have HB1 := Lib.hid b1
  clear hg hb0 hb1 HLK hg1 b1
  go_wp2_with fail
  go_region_held3 (fun w' => w'.cell? ⟨w.heap.size, 0, none⟩ = some (.int .i64 n) ∧ w'.cell? ⟨w.heap.size, 1, none⟩ = some (.slice a l.length cap)) (go_keep) (first
    | (go_at_call 40; refine (HEV.out _).mono ?_; rintro e w2 ⟨b, rfl, tb, hb, hb2⟩; have B2 : Below w1.heap.size w1 w2 := below_base hb2 (by first | exact B4 | exact B4.drew | exact B4.trans (below_drewN _ _ _) | exact Below.refl _ _ | exact (Below.refl _ _).drew | exact below_drewN _ _ _); have y0 := (B2.cell (p := ⟨w.heap.size, 0, none⟩) S1.out).trans G0.out; have y1 := (B2.cell (p := ⟨w.heap.size, 1, none⟩) S1.out).trans G1.out; try (have aw := ho.arcs.on hb2))
    | (go_at_call 41; refine (HTU.out _ (by first | exact B2 | exact B2.drew | exact B2.trans (below_drewN _ _ _) | exact Below.refl _ _ | exact (Below.refl _ _).drew | exact below_drewN _ _ _)).mono ?_; rintro e w4 ⟨g, c', rfl, ho, hb4⟩; have B4 : Below w1.heap.size w1 w4 := below_base hb4 (by first | exact B2 | exact B2.drew | exact B2.trans (below_drewN _ _ _) | exact Below.refl _ _ | exact (Below.refl _ _).drew | exact below_drewN _ _ _); have y4 := (B4.cell (p := ⟨w.heap.size, 0, none⟩) S1.out).trans G0.out; have y5 := (B4.cell (p := ⟨w.heap.size, 1, none⟩) S1.out).trans G1.out; have aw := ho.arcs; try (have tb := tb.same (hb4.block _ tb.lt)))
    | (go_at_call 39; refine (HDI.out _ _ _ _ (TbB.same tb rfl) (aw.on (by first | exact Below.refl _ _ | exact (Below.refl _ _).drew | exact below_drewN _ _ _))).mono ?_; rintro e w3 ⟨bf, rfl, F, tf, hisd, hbf, hb3⟩; have B3 : Below w1.heap.size w1 w3 := below_base hb3 (by first | exact B2 | exact B2.drew | exact B4 | exact B4.drew | exact B2.trans (below_drewN _ _ _)); have y2 := (B3.cell (p := ⟨w.heap.size, 0, none⟩) S1.out).trans G0.out; have y3 := (B3.cell (p := ⟨w.heap.size, 1, none⟩) S1.out).trans G1.out))
  all_goals
    have HF : Hid (FarR w w3 bf n (turned l) Al t) := by
      have q1 := B2.size
      have q4 := B4.size
      have q2 := HB1.out.size
      first
        | exact ⟨F, tf, hisd, by have q3 : w2.heap.size ≤ bf := hbf; omega, HB1.out.trans (B3.mono q2)⟩
        | exact ⟨F, tf, hisd, by have q3 : w4.heap.size ≤ bf := hbf; omega, HB1.out.trans (B3.mono q2)⟩
    clear tf hisd y0 y1 y2 y3
    go_wp2_with fail
    go_ret2
    exact ⟨bf, rfl, by first | exact HF.out | exact HF.out.drew⟩
set_option maxHeartbeats 800000 in
set_option maxRecDepth 100000 in
theorem rto_no (N : Int) (a : Option Addr) (l : List A) (cap : Nat) (t : Int) (w : World) (hl : l.length ≤ 9223372036854775807) (hE : nearE N l [t] ≠ 0) (hr : Arcs w a l) :
    Calls Try.prog 16 #[.agg #[.int .i64 N, .slice a l.length cap], .int .i64 t] w fun e w' => e = .returned (.tuple #[.slice none 0 0, .int .i64 (nearE N l [t])]) ∧ Below w.heap.size w w' := by
  have hb0 : Below w.heap.size w (w.alloc (.cells #[.int .i64 N, .slice a l.length cap] 24)) := (Below.refl _ _).alloc (Nat.le_refl _) _
  have HLK := Lib.hid (looked_any N a l cap t t _ hl (hr.on hb0))
  rw [nearE_twice] at HLK
  have hE' : (nearE N l [t] == 0) = false := beq_eq_false_iff_ne.2 hE
  generalize nearE N l [t] = E at *
  clear hE hr
  go_enter Try.func16, Try.ntmps16
  go_wp2_with fail
  refine HLK.out.mono ?_
  rintro e w1 ⟨rfl, hb1⟩
  have b1 : Below w.heap.size w w1 := hb0.trans (hb1.mono hb0.size)
  go_wp2_with fail
  go_ret2
  exact ⟨rfl, b1⟩
end Go.Proofs.Ytomlmphdnoempaa
