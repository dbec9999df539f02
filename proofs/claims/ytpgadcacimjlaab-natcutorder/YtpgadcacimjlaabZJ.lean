/-
  works holds; the contract of large. The contracts of natcut.Cut, natcut.tidy, natcut.Count. The contract of natcut.Count. The chapter's first graph.
-/
import Derived.Test.YtpgadcacimjlaabZG
import Derived.Test.YtpgadcacimjlaabZI
namespace Go.Proofs.Ytpgadcacimjlaab
open Go.RowKit
theorem gchk_bad {N c m : Int} {l : List A} (h : chkE N l ≠ 0) : gchk N c m l = chkE N l := by unfold gchk; rw [if_pos h]
set_option maxRecDepth 100000 in
set_option maxHeartbeats 800000 in
theorem ncut_any (N c m : Int) (a : Option Addr) (l : List A) (cap : Nat) (w : World) (hl : l.length ≤ 9223372036854775807) (hr : Arcs w a l) :
    Calls Try.prog 8 #[.agg #[.int .i64 N, .slice a l.length cap], .int .i64 c, .int .i64 m] w fun e w' => ∃ v cc xs, e = .returned (.tuple #[.slice v xs.length cc, .int .i64 (gchk N c m l)]) ∧ OwnP w' w.heap.size v cc xs ∧ Hid (gchk N c m l = 0 → CutIs N.toNat l c.toNat m.toNat xs) ∧ Hid (gchk N c m l ≠ 0 → xs = []) ∧ Below w.heap.size w w' := by
  have hb0 : Below w.heap.size w (w.alloc (.cells #[.int .i64 N, .slice a l.length cap] 24)) := (Below.refl _ _).alloc (Nat.le_refl _) _
  have hg := heap_top w (.cells #[.int .i64 N, .slice a l.length cap] 24)
  have HR := Lib.hid (hr.on hb0)
  have hwz : w.heap.size ≤ (w.alloc (.cells #[.int .i64 N, .slice a l.length cap] 24)).heap.size := hb0.size
  have HB0 := Lib.hid hb0
  obtain ⟨G, HG⟩ := named (gchk N c m l)
  rw [HG.out]
  clear hb0 hr
  generalize hp : w.heap.size = p at *
  go_enter Try.func8, Try.ntmps8
  go_wp2_with fail
  generalize hW : w.alloc (.cells #[.int .i64 N, .slice a l.length cap] 24) = W at *
  clear hW
  refine (pairs_any N a l cap W hl HR.out).mono ?_
  rintro e w1 ⟨v1, c1, xs, rfl, hown1, hxs, hb1⟩
  have hpz : p < W.heap.size := lt_of_block hg
  have HB1 : Hid (Below p w w1) := HB0.out.trans (hb1.mono hwz)
  have hg1 := (hb1.block p hpz).trans hg
  obtain ⟨⟨c0, c1'⟩, _⟩ := two_cells hg1
  have HR1 := Lib.hid (HR.out.on hb1)
  have HO1 := Lib.hid hown1
  have hwz1 : W.heap.size ≤ w1.heap.size := hb1.size
  obtain ⟨E, HE⟩ := named (chkE N l)
  rw [HE.out] at hxs ⊢
  clear hb1 hown1
  by_cases hE : E ≠ 0
  · have e1 : (E != 0) = true := by simpa using hE
    have e2 : (E == 0) = false := by simpa using hE
    have HGE : Hid (G = E) := by show _ = _; rw [← HG.out, gchk_bad (by rw [HE.out]; exact hE), HE.out]
    go_wp2_with fail
    go_ret2
    exact ⟨none, 0, [], by rw [HGE.out]; rfl, ⟨rfl, .inl ⟨rfl, rfl⟩⟩, fun h => absurd (HGE.out.symm.trans h) hE, fun _ => rfl, HB1.out⟩
  obtain rfl : E = 0 := by omega
  rw [if_pos rfl] at hxs
  obtain ⟨n, hn⟩ : ∃ n : Nat, N = n := ⟨N.toNat, by have := (chk_zero HE.out).1; omega⟩
  subst hn hxs
  clear hE
  go_wp2_with fail
  refine (cutAround_any n c m a l cap v1 c1 w1 HE.out HR1.out HO1.out.prs).mono ?_
  rintro e w2 ⟨v2, c2, ys, rfl, hown2, h3, h4, hb2⟩
  rw [HG.out] at h3 h4 ⊢
  have HB2 : Hid (Below p w w2) := HB1.out.trans (hb2.mono (by omega))
  have HO2 : Hid (OwnP w2 p v2 c2 ys) := own_base hown2 (by omega)
  have H3 := Lib.hid h3
  have H4 := Lib.hid h4
  clear h3 h4 hb2 hown2
  go_wp2_with fail
  go_ret2
  exact ⟨v2, c2, ys, rfl, HO2.out, by rw [Int.toNat_natCast]; exact H3, H4, HB2.out⟩
/-- Labels are tidy from here on. -/
def tdy : List Int → Int → Bool
  | [], _ => true
  | x :: r, nx => if x < 0 ∨ nx < x then false else tdy r (if x = nx then nx + 1 else nx)
theorem drop_getI {xs : List Int} {k : Nat} (h : k < xs.length) : xs.drop k = xs.getD k 0 :: xs.drop (k + 1) := by
  rw [List.drop_eq_getElem_cons h]
  simp [List.getD, List.getElem?_eq_getElem h]
set_option maxRecDepth 100000 in
set_option maxHeartbeats 800000 in
theorem tidy_any (a : Option Addr) (xs : List Int) (cap : Nat) (w : World) (hl : xs.length ≤ 9223372036854775807) (hr : Ints w a xs) :
    Calls Try.prog 19 #[.slice a xs.length cap] w fun e w' => e = .returned (.bool (tdy xs 0)) ∧ w' = w := by
  obtain ⟨ix, ox, hix⟩ := hr.get
  have HIX := Lib.hid hix
  clear hix hr
  go_enter Try.func19, Try.ntmps19
  go_wp2_with fail
  go_loopw [3, 8] (fun s3 i wr => ∃ (k nx : Nat), k ≤ xs.length ∧ i = .int .i64 k ∧ s3 = .int .i64 nx ∧ nx ≤ k ∧ Hid (tdy xs 0 = tdy (xs.drop k) nx) ∧ wr = w) (fun _ i _ => xs.length - (intOf i).toNat)
  case atStart => exact ⟨0, 0, Nat.zero_le _, rfl, rfl, Nat.le_refl _, rfl, rfl⟩
  case round =>
    obtain ⟨k, nx, hk, rfl, rfl, hnk, HT, rfl⟩ := hrel
    by_cases hlk : k < xs.length
    · obtain ⟨rfl, hbl, hat⟩ := HIX.out (by omega)
      have hlk' : (k : Int) < xs.length := by omega
      have cx := hat k hlk
      have HDG := Lib.hid (drop_getI hlk)
      clear hat
      generalize xs.getD k 0 = x at *
      by_cases h0 : x < 0
      · have HF : Hid (tdy xs 0 = false) := by show _ = _; rw [HT.out, HDG.out]; simp only [tdy]; rw [if_pos (.inl h0)]
        go_wp2_with fail
        go_ret
        exact ⟨by rw [HF.out]; rfl, rfl⟩
      · by_cases h1 : (nx : Int) < x
        · have HF : Hid (tdy xs 0 = false) := by show _ = _; rw [HT.out, HDG.out]; simp only [tdy]; rw [if_pos (.inr h1)]
          go_wp2_with fail
          go_ret
          exact ⟨by rw [HF.out]; rfl, rfl⟩
        · have HF : Hid (tdy xs 0 = tdy (xs.drop (k + 1)) (if x = (nx : Int) then (nx : Int) + 1 else nx)) := by show _ = _; rw [HT.out, HDG.out]; simp only [tdy]; rw [if_neg (by omega)]
          have hnk' : (nx : Int) ≤ k := by omega
          by_cases h2 : x = (nx : Int)
          · subst h2
            have e2 : ((nx : Int) == (nx : Int)) = true := by simp
            go_wp2_with fail
            refine ⟨⟨k + 1, nx + 1, by omega, by simp, by simp, by omega, ?_, trivial⟩, by simp [intOf]; omega⟩
            show _ = _
            rw [HF.out, if_pos rfl]; rfl
          · have e2 : (x == (nx : Int)) = false := by simpa using h2
            go_wp2_with fail
            refine ⟨⟨k + 1, nx, by omega, by simp, rfl, by omega, ?_, trivial⟩, by simp [intOf]; omega⟩
            show _ = _
            rw [HF.out, if_neg h2]
    · have hlk' : ¬ (k : Int) < xs.length := by omega
      have HF : Hid (tdy xs 0 = true) := by show _ = _; rw [HT.out, List.drop_eq_nil_of_le (by omega)]; rfl
      go_wp2_with fail
      go_ret
      exact ⟨by rw [HF.out]; rfl, rfl⟩
end Go.Proofs.Ytpgadcacimjlaab
namespace Go.Proofs.Ytpgadcacimjlaab
open Go.RowKit
/-- How many pairs lie between labels. -/
def cntB (xs : List Int) (ps : List Pr) : Nat := (ps.filter (fun p => !(xs.getD p.a 0 == xs.getD p.b 0))).length
/-- What Count tells. -/
def cntE (N : Int) (l : List A) (xs : List Int) : Int := if chkE N l ≠ 0 then chkE N l else if (xs.length : Int) ≠ N ∨ tdy xs 0 = false then 80 else 0
set_option maxRecDepth 100000 in
set_option maxHeartbeats 1600000 in
theorem count_any (N : Int) (a : Option Addr) (l : List A) (cap : Nat) (b : Option Addr) (xs : List Int) (bc : Nat) (w : World) (hl : l.length ≤ 9223372036854775807) (hx : xs.length ≤ 9223372036854775807) (hr : Arcs w a l) (hi : Ints w b xs) :
    Calls Try.prog 10 #[.agg #[.int .i64 N, .slice a l.length cap], .slice b xs.length bc] w fun e w' => e = .returned (.tuple #[.int .i64 (if cntE N l xs = 0 then (cntB xs (prl l) : Nat) else 0), .int .i64 (cntE N l xs)]) ∧ Below w.heap.size w w' := by
  have hb0 : Below w.heap.size w (w.alloc (.cells #[.int .i64 N, .slice a l.length cap] 24)) := (Below.refl _ _).alloc (Nat.le_refl _) _
  have hg := heap_top w (.cells #[.int .i64 N, .slice a l.length cap] 24)
  have HR := Lib.hid (hr.on hb0)
  have HI := Lib.hid (hi.on hb0)
  have hwz : w.heap.size ≤ (w.alloc (.cells #[.int .i64 N, .slice a l.length cap] 24)).heap.size := hb0.size
  have HB0 := Lib.hid hb0
  obtain ⟨V, HV⟩ := named (if cntE N l xs = 0 then ((cntB xs (prl l) : Nat) : Int) else 0)
  rw [HV.out]
  obtain ⟨G, HG⟩ := named (cntE N l xs)
  rw [HG.out] at HV ⊢
  clear hb0 hr hi
  generalize hp : w.heap.size = p at *
  go_enter Try.func10, Try.ntmps10
  go_wp2_with fail
  generalize hW : w.alloc (.cells #[.int .i64 N, .slice a l.length cap] 24) = W at *
  clear hW
  refine (pairs_any N a l cap W hl HR.out).mono ?_
  rintro e w1 ⟨v1, c1, ps, rfl, hown1, hps, hb1⟩
  have hpz : p < W.heap.size := lt_of_block hg
  have HB1 : Hid (Below p w w1) := HB0.out.trans (hb1.mono hwz)
  have hg1 := (hb1.block p hpz).trans hg
  obtain ⟨⟨c0, c1'⟩, _⟩ := two_cells hg1
  have HI1 := Lib.hid (HI.out.on hb1)
  have HO1 := Lib.hid hown1
  have hwz1 : W.heap.size ≤ w1.heap.size := hb1.size
  obtain ⟨E, HE⟩ := named (chkE N l)
  rw [HE.out] at hps ⊢
  clear hb1 hown1 hg
  by_cases hE : E ≠ 0
  · have e1 : (E != 0) = true := by simpa using hE
    have e2 : (E == 0) = false := by simpa using hE
    have HGE : Hid (G = E) := by show _ = _; rw [← HG.out]; unfold cntE; rw [if_pos (by rw [HE.out]; exact hE), HE.out]
    go_wp2_with fail
    go_ret2
    refine ⟨?_, HB1.out⟩
    rw [← HV.out, HGE.out, if_neg hE]; rfl
  obtain rfl : E = 0 := by omega
  rw [if_pos rfl] at hps
  obtain ⟨n, hn⟩ : ∃ n : Nat, N = n := ⟨N.toNat, by have := (chk_zero HE.out).1; omega⟩
  subst hn hps
  clear hE
  obtain ⟨_, hn2, hlb, hoa⟩ := chk_zero HE.out
  have HND : Hid (∀ p, p ∈ prl l → p.a < n ∧ p.b < n) := fun p hp => prl_lt hoa hp
  have hpl : (prl l).length ≤ 8192 := Nat.le_trans (prl_len l) hlb
  have HGE : Hid (G = if (xs.length : Int) ≠ (n : Int) ∨ tdy xs 0 = false then 80 else 0) := by show _ = _; rw [← HG.out]; unfold cntE; rw [if_neg (by rw [HE.out]; omega)]
  clear hoa
  by_cases hxn : ¬ (xs.length : Int) = (n : Int)
  · have e1 : ((xs.length : Int) != (n : Int)) = true := by simpa using hxn
    have e2 : ((xs.length : Int) == (n : Int)) = false := by simpa using hxn
    rw [if_pos (.inl hxn)] at HGE
    go_wp2_with fail
    go_ret2
    refine ⟨?_, HB1.out⟩
    rw [← HV.out, HGE.out, if_neg (by decide)]; rfl
  obtain rfl : n = xs.length := by omega
  clear hxn
  have e1 : ((xs.length : Int) != (xs.length : Int)) = false := by simp
  have e2 : ((xs.length : Int) == (xs.length : Int)) = true := by simp
  go_wp2_with fail
  refine (tidy_any b xs bc w1 hx HI1.out).mono ?_
  rintro e w2 ⟨rfl, rfl⟩
  generalize htt : tdy xs 0 = tt at *
  cases tt
  · rw [if_pos (.inr rfl)] at HGE
    go_wp2_with fail
    go_ret2
    refine ⟨?_, HB1.out⟩
    rw [← HV.out, HGE.out, if_neg (by decide)]; rfl
  rw [if_neg (by rintro (h | h); exact h rfl; cases h)] at HGE
  obtain ⟨ix, ox, hix⟩ := HI1.out.get
  have HIX := Lib.hid hix
  obtain ⟨iy, oy, hiy⟩ := HO1.out.prs.get
  have HIY := Lib.hid hiy
  clear hix hiy hwz1 hpz hwz htt HI HR HI1
  generalize hB : w2.heap.size = B at *
  go_wp2_with fail
  go_loopw [8, 31] (fun s8 i wr => ∃ (k c : Nat), k ≤ (prl l).length ∧ i = .int .i64 k ∧ s8 = .int .i64 c ∧ c ≤ k ∧ Hid (cntB xs ((prl l).take k) = c) ∧ Hid (Below B w2 wr)) (fun _ i _ => (prl l).length - (intOf i).toNat)
  case atStart => exact ⟨0, 0, Nat.zero_le _, rfl, rfl, Nat.le_refl _, rfl, Below.refl _ _⟩
  case round =>
    obtain ⟨k, c, hk, rfl, rfl, hck, HC, HBR⟩ := hrel
    have hpw : B ≤ wr.heap.size := hB ▸ HBR.out.size
    by_cases hlk : k < (prl l).length
    · obtain ⟨rfl, hbl, hat⟩ := HIY.out (by omega)
      have hlk' : (k : Int) < (prl l).length := by omega
      have hck' : (c : Int) ≤ k := by omega
      obtain ⟨x0, x1⟩ := hat k hlk
      have y0 := (HBR.out.cell (p := ⟨iy, oy + k * 2, none⟩) hbl).trans x0
      have y1 := (HBR.out.cell (p := ⟨iy, oy + k * 2 + 1, none⟩) hbl).trans x1
      obtain ⟨ha, hb⟩ := HND.out ((prl l).getD k Pr.zero) (getD_memP hlk)
      have HSN := Lib.hid (filter_snocP (f := fun p => !(xs.getD p.a 0 == xs.getD p.b 0)) hlk)
      clear hat x0 x1
      generalize (prl l).getD k Pr.zero = x at *
      obtain ⟨rfl, hbx, hax⟩ := HIX.out (by omega)
      have hbB : Below B w2 (wr.alloc (.cells #[.int .i64 (x.a : Int), .int .i64 (x.b : Int)] 36)) := HBR.out.alloc hpw _
      have da := (hbB.cell (p := ⟨ix, ox + x.a, none⟩) hbx).trans (hax x.a ha)
      have db := (hbB.cell (p := ⟨ix, ox + x.b, none⟩) hbx).trans (hax x.b hb)
      have ha' : (x.a : Int) < xs.length := by omega
      have hb' : (x.b : Int) < xs.length := by omega
      have hbt := heap_top wr (.cells #[.int .i64 (x.a : Int), .int .i64 (x.b : Int)] 36)
      obtain ⟨⟨b0, b1⟩, _⟩ := two_cells hbt
      have HBA := Lib.hid hbB
      clear hbB hax hbt
      generalize xs.getD x.a 0 = ta at *
      generalize xs.getD x.b 0 = tb at *
      go_wp2_with fail
      generalize hU : wr.alloc (.cells #[.int .i64 (x.a : Int), .int .i64 (x.b : Int)] 36) = U at *
      go_quiet (fail)
      have HBN : Hid (Below B w2 (U.drewN nq)) := ⟨HBA.out.os, HBA.out.tape, HBA.out.output, HBA.out.size, HBA.out.block⟩
      generalize hUN : U.drewN nq = UN at *
      by_cases hab : ta = tb
      · have hne : (ta != tb) = false := by simpa using hab
        have HC2 : Hid (cntB xs ((prl l).take (k + 1)) = c) := by
          show _ = _
          rw [← HC.out]
          unfold cntB
          rw [HSN.out, if_neg (by simp [hab]), List.append_nil]
        clear hab
        go_wp2_with fail
        exact ⟨⟨k + 1, c, by omega, by simp, rfl, by omega, HC2, HBN⟩, by simp [intOf]; omega⟩
      · have hne : (ta != tb) = true := by simpa using hab
        have HC2 : Hid (cntB xs ((prl l).take (k + 1)) = c + 1) := by
          show _ = _
          rw [← HC.out]
          unfold cntB
          rw [HSN.out, if_pos (by simpa using hab), List.length_append]
          rfl
        clear hab
        go_wp2_with fail
        exact ⟨⟨k + 1, c + 1, by omega, by simp, by simp, by omega, HC2, HBN⟩, by simp [intOf]; omega⟩
    · have e0 : (prl l).take k = prl l := List.take_of_length_le (by omega)
      have hlk' : ¬ (k : Int) < (prl l).length := by omega
      rw [e0] at HC
      clear e0
      go_wp2_with fail
      go_ret2
      refine ⟨?_, HB1.out.trans (HBR.out.mono (hp ▸ hB ▸ HB1.out.size))⟩
      rw [← HV.out, HGE.out, if_pos rfl, HC.out]; rfl
end Go.Proofs.Ytpgadcacimjlaab
namespace Go.Proofs.Ytpgadcacimjlaab
open Go.RowKit
def wl : List A := [⟨0, 1, 0⟩, ⟨1, 2, 0⟩, ⟨2, 0, 0⟩, ⟨3, 4, 0⟩, ⟨4, 5, 0⟩, ⟨5, 3, 0⟩, ⟨2, 3, 0⟩]
theorem wl_chk : chkE 6 wl = 0 := by decide
theorem wl_gchk : gchk 6 0 4 wl = 0 := by decide
theorem wl_prl : prl wl = [⟨0, 1⟩, ⟨0, 2⟩, ⟨1, 2⟩, ⟨2, 3⟩, ⟨3, 4⟩, ⟨3, 5⟩, ⟨4, 5⟩] := by
  refine sorted_one (prl_sorted wl) ?_ (fun x => ?_)
  · simp [ltP]
  · rw [prl_mem (by decide)]
    obtain ⟨a, b⟩ := x
    simp only [nr, wl, List.any_cons, List.any_nil, Bool.or_false, Bool.or_eq_true, Bool.and_eq_true, beq_iff_eq, List.mem_cons, Pr.mk.injEq, List.not_mem_nil, or_false]
    omega
theorem wl_reg : reg 6 wl 0 4 = [0, 1, 2, 3] := by decide
theorem wl_core : core 6 wl 0 4 = [0] := by unfold core; rw [wl_reg]; rfl
def wE : List F6.A := [⟨0, 2, 1⟩, ⟨2, 0, 1⟩, ⟨0, 3, 1⟩, ⟨3, 0, 1⟩, ⟨2, 3, 1⟩, ⟨3, 2, 1⟩, ⟨3, 4, 1⟩, ⟨4, 3, 1⟩, ⟨4, 1, 1⟩, ⟨1, 4, 1⟩, ⟨4, 1, 1⟩, ⟨1, 4, 1⟩]
theorem wl_dN : dN 6 wl 0 4 = nd [0, 1, 2, 3] 1 := by unfold dN; rw [wl_reg, wl_core]; rfl
theorem wl_nN : nN 6 wl 0 4 = 5 := by unfold nN; rw [wl_reg, wl_core]; rfl
theorem wl_eN : eN 6 wl 0 4 = wE := by unfold eN; rw [wl_prl, wl_dN]; decide
def wf (j : Nat) : Int := if j = 2 ∨ j = 6 ∨ j = 8 then 1 else 0
def wk (v : Nat) : Int := if v = 0 then 0 else if v = 2 then 1 else if v = 3 then 2 else -1
theorem wl_cf : Cf 6 wl 0 4 wf wk := by
  refine ⟨?_, ?_, rfl⟩
  · rw [wl_nN, wl_eN]
    exact ⟨by decide, by decide, by decide⟩
  · rw [wl_nN, wl_eN]
    refine ⟨rfl, ?_, by decide, fun _ => by decide⟩
    intro v hv
    match v, hv with
    | 0, _ => exact fun _ => .inl rfl
    | 1, _ => exact fun h => absurd rfl h
    | 2, _ => exact fun _ => .inr ⟨0, by decide, by decide, by decide, by decide, by decide⟩
    | 3, _ => exact fun _ => .inr ⟨8, by decide, by decide, by decide, by decide, by decide⟩
    | 4, _ => exact fun h => absurd rfl h
    | v + 5, h => exact absurd h (by omega)
theorem wl_cut {xs : List Pr} (h : CutIs 6 wl 0 4 xs) : xs = [⟨2, 3⟩] := by
  refine h.one (by decide) (by decide) (by decide) (by decide) ?_
  unfold CutIs
  rw [if_neg (by rw [wl_reg]; decide)]
  refine ⟨wf, wk, wl_cf, ?_⟩
  unfold cutP
  rw [wl_prl, wl_dN]
  decide
theorem wl_others : others wl [⟨2, 3⟩] = [⟨0, 1⟩, ⟨0, 2⟩, ⟨1, 2⟩, ⟨3, 4⟩, ⟨3, 5⟩, ⟨4, 5⟩] := by unfold others; rw [wl_prl]; decide
theorem wl_frE : frE 6 wl [⟨2, 3⟩] = 0 := by decide
theorem wl_frL : frL 6 wl [⟨2, 3⟩] = [0, 0, 0, 1, 1, 1] := by unfold frL; rw [if_pos wl_frE, wl_others]; decide
theorem wl_cntE : cntE 6 wl [0, 0, 0, 1, 1, 1] = 0 := by decide
theorem wl_cntB : cntB [0, 0, 0, 1, 1, 1] (prl wl) = 1 := by rw [wl_prl]; decide
end Go.Proofs.Ytpgadcacimjlaab
namespace Go.Proofs.Ytpgadcacimjlaab
open Go.RowKit
theorem large_any (N : Int) (a : Option Addr) (n cap : Nat) (w : World) (hn : n ≤ 9223372036854775807) : Calls Try.prog 5 #[.agg #[.int .i64 N, .slice a n cap]] w fun e w' => e = .returned (.bool (decide (100 < N ∨ 400 < n))) ∧ Below w.heap.size w w' := by
  by_cases h1 : 100 < N
  · rw [decide_eq_true (.inl h1)]
    go_enter Try.func5, Try.ntmps5
    go_wp2_with fail
    go_ret
    exact ⟨rfl, (Below.refl _ _).alloc (Nat.le_refl _) _⟩
  · by_cases h2 : 400 < n
    · rw [decide_eq_true (.inr h2)]
      have h2' : (400 : Int) < n := by omega
      go_enter Try.func5, Try.ntmps5
      go_wp2_with fail
      go_ret
      exact ⟨rfl, (Below.refl _ _).alloc (Nat.le_refl _) _⟩
    · rw [decide_eq_false (by rintro (h | h); exact h1 h; exact h2 h)]
      have h2' : ¬ (400 : Int) < n := by omega
      go_enter Try.func5, Try.ntmps5
      go_wp2_with fail
      go_ret
      exact ⟨rfl, (Below.refl _ _).alloc (Nat.le_refl _) _⟩
theorem ints_block {w : World} {b : Nat} {xs : List Int} {t : TypeId} (h : w.heap[b]? = some (.cells (cellsI xs).toArray t (0, 0))) : Ints w (some ⟨b, 0, none⟩) xs := by
  by_cases h0 : xs = []
  · exact .inl h0
  · refine .inr ⟨b, 0, rfl, lt_of_block h, fun j hj => ?_⟩
    simp [World.cell?, h, cellsI, List.getD, hj]
theorem own_intsI {w : World} {base cap : Nat} {a : Option Addr} {xs : List Int} (h : w.ownsRow base 3 1 (.slice a xs.length cap) xs.length (cellsI xs)) : Ints w a xs := by
  rcases h.2 with ⟨e1, e2⟩ | ⟨g, c, cur, e1, _, h3, _⟩
  · exact .inl (List.eq_nil_of_length_eq_zero e2)
  · injection e1 with e1 e2 e3
    subst e1
    by_cases h0 : xs = []
    · exact .inl h0
    · refine .inr ⟨g, 0, rfl, lt_of_block h3, fun j hj => ?_⟩
      rw [Nat.zero_add, World.ownsRow.cellAt h j (by omega)]
      simp [cellsI, List.getD, hj]
theorem wl_arcs {w : World} {b : Nat} (h : w.heap[b]? = some (.cells #[.int .i64 0, .int .i64 1, .int .u32 0, .int .i64 1, .int .i64 2, .int .u32 0, .int .i64 2, .int .i64 0, .int .u32 0, .int .i64 3, .int .i64 4, .int .u32 0, .int .i64 4, .int .i64 5, .int .u32 0, .int .i64 5, .int .i64 3, .int .u32 0, .int .i64 2, .int .i64 3, .int .u32 0] 40)) : Arcs w (some ⟨b, 0, none⟩) wl := by
  refine .inr ⟨b, 0, rfl, lt_of_block h, fun j hj => ?_⟩
  have hj : j = 0 ∨ j = 1 ∨ j = 2 ∨ j = 3 ∨ j = 4 ∨ j = 5 ∨ j = 6 := by have : wl.length = 7 := rfl; omega
  rcases hj with rfl | rfl | rfl | rfl | rfl | rfl | rfl <;> exact ⟨by simp [World.cell?, h]; rfl, by simp [World.cell?, h]; rfl, by simp [World.cell?, h]; rfl⟩
theorem one_mark {w : World} {B c : Nat} {a : Option Addr} (h : OwnP w B a c [⟨2, 3⟩]) : PrI w a [⟨2, 3⟩] := by
  rcases h.prs with h | ⟨b, o, rfl, hl, hc⟩
  · cases h
  · refine .inr ⟨b, o, rfl, hl, fun j hj => ?_⟩
    obtain rfl : j = 0 := by have : ([⟨2, 3⟩] : List Pi2).length = 1 := rfl; omega
    exact hc 0 (by decide)
set_option maxRecDepth 100000 in
set_option maxHeartbeats 1600000 in
theorem works_any (w : World) : Calls Try.prog 4 #[] w fun e w' => e = .returned (.bool true) ∧ Below w.heap.size w w' := by
  have hA0 := (Below.heap_alloc (w.alloc (.cells #[.int .i64 0, .int .i64 1, .int .u32 0, .int .i64 1, .int .i64 2, .int .u32 0, .int .i64 2, .int .i64 0, .int .u32 0, .int .i64 3, .int .i64 4, .int .u32 0, .int .i64 4, .int .i64 5, .int .u32 0, .int .i64 5, .int .i64 3, .int .u32 0, .int .i64 2, .int .i64 3, .int .u32 0] 40)) (.cells #[.int .i64 6, .slice (some ⟨w.heap.size, 0, none⟩) 7 7] 24) w.heap.size (by simp)).trans (heap_top w (.cells #[.int .i64 0, .int .i64 1, .int .u32 0, .int .i64 1, .int .i64 2, .int .u32 0, .int .i64 2, .int .i64 0, .int .u32 0, .int .i64 3, .int .i64 4, .int .u32 0, .int .i64 4, .int .i64 5, .int .u32 0, .int .i64 5, .int .i64 3, .int .u32 0, .int .i64 2, .int .i64 3, .int .u32 0] 40))
  have hG0 := heap_top (w.alloc (.cells #[.int .i64 0, .int .i64 1, .int .u32 0, .int .i64 1, .int .i64 2, .int .u32 0, .int .i64 2, .int .i64 0, .int .u32 0, .int .i64 3, .int .i64 4, .int .u32 0, .int .i64 4, .int .i64 5, .int .u32 0, .int .i64 5, .int .i64 3, .int .u32 0, .int .i64 2, .int .i64 3, .int .u32 0] 40)) (.cells #[.int .i64 6, .slice (some ⟨w.heap.size, 0, none⟩) 7 7] 24)
  rw [World.size_alloc] at hG0
  have hB0 : Below w.heap.size w ((w.alloc (.cells #[.int .i64 0, .int .i64 1, .int .u32 0, .int .i64 1, .int .i64 2, .int .u32 0, .int .i64 2, .int .i64 0, .int .u32 0, .int .i64 3, .int .i64 4, .int .u32 0, .int .i64 4, .int .i64 5, .int .u32 0, .int .i64 5, .int .i64 3, .int .u32 0, .int .i64 2, .int .i64 3, .int .u32 0] 40)).alloc (.cells #[.int .i64 6, .slice (some ⟨w.heap.size, 0, none⟩) 7 7] 24)) := ((Below.refl _ w).alloc (Nat.le_refl _) _).alloc (by simp) _
  generalize hp : w.heap.size = p at *
  go_enter Try.func4, Try.ntmps4
  go_wp2_with fail
  generalize hW : (w.alloc (.cells #[.int .i64 0, .int .i64 1, .int .u32 0, .int .i64 1, .int .i64 2, .int .u32 0, .int .i64 2, .int .i64 0, .int .u32 0, .int .i64 3, .int .i64 4, .int .u32 0, .int .i64 4, .int .i64 5, .int .u32 0, .int .i64 5, .int .i64 3, .int .u32 0, .int .i64 2, .int .i64 3, .int .u32 0] 40)).alloc (.cells #[.int .i64 6, .slice (some ⟨p, 0, none⟩) 7 7] 24) = W at *
  clear hW
  have HAR := Lib.hid (wl_arcs hA0)
  refine (ncut_any 6 0 4 (some ⟨p, 0, none⟩) wl 7 W (by decide) HAR.out).mono ?_
  rintro e w1 ⟨v1, c1, xs1, rfl, hown1, hx1, _, hb1⟩
  obtain rfl : xs1 = [⟨2, 3⟩] := wl_cut (hx1.out wl_gchk)
  rw [wl_gchk]
  have hG1 := (hb1.block _ (lt_of_block hG0)).trans hG0
  obtain ⟨⟨g0, g1⟩, _⟩ := two_cells hG1
  have HA1 := Lib.hid (HAR.out.on hb1)
  have HB1 : Hid (Below p w w1) := hB0.trans (hb1.mono (hp ▸ hB0.size))
  have HO1 := Lib.hid hown1
  clear hown1 hx1 hb1
  go_wp2_with fail
  refine (frag_any 6 (some ⟨p, 0, none⟩) wl 7 v1 [⟨2, 3⟩] c1 w1 (by decide) (by decide) HA1.out (one_mark HO1.out)).mono ?_
  rintro e w2 ⟨a2, c2, rfl, hown2, hb2⟩
  rw [wl_frL] at hown2 ⊢
  rw [wl_frE]
  have hG2 := (hb2.block _ (lt_of_block hG1)).trans hG1
  obtain ⟨⟨k0, k1⟩, _⟩ := two_cells hG2
  have HI2 := Lib.hid (own_intsI hown2)
  have HA2 := Lib.hid (HA1.out.on hb2)
  have HO2 := Lib.hid (own_on HO1.out hb2)
  have HB2 : Hid (Below p w w2) := HB1.out.trans (hb2.mono (hp ▸ HB1.out.size))
  clear hown2 hb2 g0 g1 HO1
  go_wp2_with fail
  refine (count_any 6 (some ⟨p, 0, none⟩) wl 7 a2 [0, 0, 0, 1, 1, 1] c2 w2 (by decide) (by decide) HA2.out HI2.out).mono ?_
  rintro e w3 ⟨rfl, hb3⟩
  rw [wl_cntE, if_pos rfl, wl_cntB]
  have HI3 := Lib.hid (HI2.out.on hb3)
  have HO3 : Hid (OwnP w3 W.heap.size v1 c1 [⟨2, 3⟩]) := own_on HO2.out hb3
  have HB3 : Hid (Below p w w3) := HB2.out.trans (hb3.mono (hp ▸ HB2.out.size))
  obtain ⟨ix, ox, hix⟩ := HO3.out.prs.get
  obtain ⟨rfl, hbl, hat⟩ := hix (by decide)
  obtain ⟨x0, x1⟩ := hat 0 (by decide)
  have y0 : w3.cell? ⟨ix, ox, none⟩ = some (.int .i64 2) := x0
  have y1 : w3.cell? ⟨ix, ox + 1, none⟩ = some (.int .i64 3) := x1
  have HS1 : Hid (Below w3.heap.size w3 (w3.alloc (.cells #[.int .i64 0, .int .i64 0, .int .i64 0, .int .i64 1, .int .i64 1, .int .i64 1] 3))) := (Below.refl _ _).alloc (Nat.le_refl _) _
  have HN1 : Hid (Ints (w3.alloc (.cells #[.int .i64 0, .int .i64 0, .int .i64 0, .int .i64 1, .int .i64 1, .int .i64 1] 3)) (some ⟨w3.heap.size, 0, none⟩) [0, 0, 0, 1, 1, 1]) := ints_block (heap_top w3 _)
  clear hb3 hix hat x0 x1 k0 k1
  go_wp2_with fail
  refine (sameInts_any a2 (some ⟨w3.heap.size, 0, none⟩) c2 6 [0, 0, 0, 1, 1, 1] _ (by decide) (HI3.out.on HS1.out) HN1.out).mono ?_
  rintro e w4 ⟨rfl, hb4⟩
  have H34 : Hid (Below w3.heap.size w3 w4) := HS1.out.trans (hb4.mono HS1.out.size)
  have HB4 : Hid (Below p w w4) := HB3.out.trans (H34.out.mono (hp ▸ HB3.out.size))
  clear hb4
  go_wp2_with fail
  go_ret
  exact ⟨rfl, HB4.out⟩
end Go.Proofs.Ytpgadcacimjlaab
