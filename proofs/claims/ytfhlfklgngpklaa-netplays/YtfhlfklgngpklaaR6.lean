/-
  The reference's net: contract of Copy.
-/
import Derived.Test.YtfhlfklgngpklaaR5
namespace Go.Proofs.Ytfhlfklgngpklaa
open Go.RowKit Go.Maps
def rcE (R : RS) (p : Pr) (k : Int) : Int := if rfE R p k = 0 then (if 4096 ≤ (pls p R.ls 0).length then 2 else 0) else rfE R p k
def rcS (R : RS) (p : Pr) (k : Int) : RS := if rcE R p k = 0 then R.put (R.ls.getD (rfP R p k) lz) else R
section
variable {w w' : World} {r : Nat} {uv lv tv : Value} {R : RS} {D : Nat → Prop}
/-- What stands behind the append of a letter. -/
theorem RM.putL {W w3 : World} {o : Obj} {v' : Value} (h : RM W r uv lv tv R) (t : Lt) (hg : ((W.alloc o).drew).grownBy w3 lv.ownBlock ∨ (W.alloc o).grownBy w3 lv.ownBlock) (ho : w3.ownsRow 0 89 3 v' (R.ls ++ [t]).length (ltC (R.ls ++ [t]))) (hv : v'.ownBlock = lv.ownBlock ∨ v'.ownBlock = some (W.alloc o).heap.size) :
    (w3.cell? ⟨r, 1, none⟩ = some lv ∧ w3.frozen? ⟨r, 1, none⟩ = false) ∧ RTo W (w3.setCell ⟨r, 1, none⟩ v') r (R.put t) (Dr r uv lv tv) := by
  have hb : Below W.heap.size W (W.alloc o) := (Below.refl _ _).alloc (Nat.le_refl _) _
  have hf : Fr (fun k => lv.ownBlock = some k) W w3 := by
    rcases hg with hg | hg
    · exact (Fr.of hb.drew).grown hg (fun k e => Or.inl e)
    · exact (Fr.of hb).grown hg (fun k e => Or.inl e)
  have hrl := lt_of_block h.hd
  have hq := hf.block r hrl (fun e => (h.apart.2.1 r e).1 rfl)
  obtain ⟨⟨_, c1, _, _⟩, _, f1, _, _⟩ := cells4 h.hd
  refine ⟨⟨(World.cell?_of_block (w := W) hq).trans c1, (World.frozen?_of_block (w := W) hq).trans f1⟩, h.newL hf ho (fun k e => ?_)⟩
  rcases hv with e2 | e2
  · exact Or.inl (e2 ▸ e)
  · rw [e2] at e
    injection e with e
    simp at e
    exact Or.inr (by omega)
set_option maxRecDepth 100000 in
set_option maxHeartbeats 3200000 in
theorem RCopy_any (h : RK w r R D) (hl : R.ls.length ≤ 999999) (p : Pr) (k : Int) :
    Calls Try.prog 28 #[.pointer (some ⟨r, 0, none⟩), .int .i64 p.a, .int .i64 p.b, .int .i64 k] w fun e w' => e = .returned (.int .i64 (rcE R p k)) ∧ RTo w w' r (rcS R p k) D := by
  have HK := Lib.hid h
  obtain ⟨uv, lv, tv, h, rfl⟩ := h
  have HF := Lib.hid (find_any h (by omega) p k)
  have HX := Lib.hid h
  have HBG := Lib.hid (fun w1 (hb : Below w.heap.size w w1) => bag_any (h.on hb) (by omega) p)
  unfold rcS
  by_cases hE : rfE R p k = 0
  · obtain ⟨hI, h0, hk, he, hlt⟩ := rf_place hE
    have hT : rcE R p k = if 4096 ≤ (pls p R.ls 0).length then 2 else 0 := by unfold rcE; rw [if_pos hE]
    rw [hT]
    rw [hE] at HF
    clear he hk h0 hT hE hI
    generalize rfP R p k = i at *
    generalize pls p R.ls 0 = q at *
    obtain ⟨x, y⟩ := p
    by_cases hf : 4096 ≤ q.length
    · have hf' : (4096 : Int) ≤ q.length := by omega
      rw [if_pos hf, if_neg (by decide)]
      clear h HX
      go_enter Try.func28, Try.ntmps28
      go_wp2_with fail
      refine HF.out.mono ?_
      rintro e w2 ⟨rfl, hb2⟩
      have HB2 := Lib.hid hb2
      have HB := Lib.hid (HBG.out w2 hb2)
      clear hb2
      go_wp2_with fail
      refine HB.out.mono ?_
      rintro e w3 ⟨v, rfl, ho, hb⟩
      obtain ⟨a, c, hv⟩ := own_slice ho
      subst hv
      have HB3 := Lib.hid (bthen HB2.out hb HB2.out.size)
      clear ho hb
      go_wp2_with fail
      go_ret
      exact ⟨rfl, HK.out.to HB3.out⟩
    · have hf' : ¬ (4096 : Int) ≤ q.length := by omega
      rw [if_neg hf, if_pos rfl]
      clear h
      obtain ⟨la, lc, hlv⟩ := own_slice HX.out.lo
      subst hlv
      have HG : Hid (R.ls.getD i lz = R.ls[i]) := Lib.hid (by simp [List.getD, hlt])
      rw [HG.out]
      obtain ⟨t, HTT⟩ := named R.ls[i]
      rw [HTT.out]
      obtain ⟨⟨ta, tb⟩, ts⟩ := t
      have HLX : Hid (R.ls.length ≤ 1000000) := Lib.hid (by omega)
      go_enter Try.func28, Try.ntmps28
      go_wp2_with fail
      refine HF.out.mono ?_
      rintro e w2 ⟨rfl, hb2⟩
      have HB2 := Lib.hid hb2
      have HB := Lib.hid (HBG.out w2 hb2)
      clear hb2 HF HBG
      go_wp2_with fail
      refine HB.out.mono ?_
      rintro e w3 ⟨v, rfl, ho, hb⟩
      obtain ⟨a, c, hv⟩ := own_slice ho
      subst hv
      have hb3 := bthen HB2.out hb HB2.out.size
      have HB3 := Lib.hid hb3
      have h3 := HX.out.on hb3
      obtain ⟨g, c2, hv, p0, p1, p2⟩ := h3.letter i hlt
      injection hv with hv1 _ hv3
      subst hv1 hv3
      obtain ⟨⟨_, c1, _, _⟩, _, f1, _, _⟩ := cells4 h3.hd
      have H3 := Lib.hid h3
      have hir : (i : Int) < R.ls.length := by omega
      rw [HTT.out] at p0 p1 p2
      have hrw := lt_of_block h3.hd
      have z1 : (w3.alloc (.cells #[.int .i64 ta, .int .i64 tb, .string ts] 89)).cell? ⟨r, 1, none⟩ = some (.slice (some ⟨g, 0, none⟩) R.ls.length lc) := (((Below.refl _ _).alloc (Nat.le_refl _) _).cell (p := ⟨r, 1, none⟩) hrw).trans c1
      clear ho hb hb3 h3 HB HB2
      go_wp2_with fail
      go_region_law (rw [if_pos (by rfl)]; refine wp_appL (.tmp 32) (.tmp 40) rfl (.slice (some ⟨g, 0, none⟩) R.ls.length lc) R.ls rfl (H3.out.lo.alloc _) w3.heap.size ⟨⟨ta, tb⟩, ts⟩ rfl (heap_top _ _) HLX.out ?_; intro v4 w4 ho4 hg4 hv4; obtain ⟨⟨d1, g1⟩, hT⟩ := H3.out.putL _ (Or.inl hg4) ho4 hv4; have HT := Lib.hid hT; obtain ⟨av4, cv4, hvv4⟩ := own_slice ho4; clear hT ho4 hg4 hv4; generalize (R.ls ++ [(⟨⟨ta, tb⟩, ts⟩ : Lt)]).length = N4 at hvv4; subst hvv4)
      all_goals
        go_wp2_with fail
        go_ret
        exact ⟨rfl, rthen HB3.out HT.out⟩
  · have hT : rcE R p k = rfE R p k := by unfold rcE; rw [if_neg hE]
    rw [hT, if_neg hE]
    clear hT
    obtain ⟨E, HE⟩ := named (rfE R p k)
    rw [HE.out] at HF hE ⊢
    have hE' : (E == 0) = false := by simp [hE]
    have hE2 : (E != 0) = true := by simp [hE]
    generalize rfP R p k = i at *
    obtain ⟨x, y⟩ := p
    clear h
    go_enter Try.func28, Try.ntmps28
    go_wp2_with fail
    refine HF.out.mono ?_
    rintro e w2 ⟨rfl, hb2⟩
    have HB2 := Lib.hid hb2
    clear hb2
    go_wp2_with fail
    go_ret
    exact ⟨rfl, HK.out.to HB2.out⟩
end
end Go.Proofs.Ytfhlfklgngpklaa
