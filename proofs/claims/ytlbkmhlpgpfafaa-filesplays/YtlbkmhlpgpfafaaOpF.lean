/-
  Contract of (*Disk).Crash.
-/
import Derived.Test.YtlbkmhlpgpfafaaOpE
namespace Go.Proofs.Ytlbkmhlpgpfafaa
open Go.RowKit Go.Maps Go.Joins
/-- Numbers in memory, none of whose cells is the disk's. -/
def Ints (w : World) (ow : Nat → Option Nat) (a : Option Addr) (xs : List Int) : Prop :=
  0 < xs.length → ∃ b o, a = some ⟨b, o, none⟩ ∧ b < w.heap.size ∧ ow b = none ∧ ∀ i (hi : i < xs.length), w.cell? ⟨b, o + i, none⟩ = some (.int .i64 xs[i])
theorem mid_del {l r : List PF} {p : PF} (s : Srt PF.nm (l ++ p :: r)) : delK PF.nm p.nm (l ++ p :: r) = l ++ r := by
  unfold Srt at s
  rw [List.pairwise_append] at s
  obtain ⟨_, s2, s3⟩ := s
  unfold delK
  rw [List.filter_append, List.filter_cons]
  have e1 : l.filter (fun f => !decide (f.nm = p.nm)) = l := by
    rw [List.filter_eq_self]
    intro f hf
    have := bb_ne (s3 f hf p (by simp))
    simp [this]
  have e2 : r.filter (fun f => !decide (f.nm = p.nm)) = r := by
    rw [List.filter_eq_self]
    intro f hf
    have := bb_ne ((List.pairwise_cons.1 s2).1 f hf)
    simp [this.symm]
  rw [e1, e2]
  simp
theorem mid_set {l r : List PF} {p : PF} (u : PF → PF) (s : Srt PF.nm (l ++ p :: r)) : setK PF.nm p.nm u (l ++ p :: r) = l ++ u p :: r := by
  unfold Srt at s
  rw [List.pairwise_append] at s
  obtain ⟨_, s2, s3⟩ := s
  unfold setK
  rw [List.map_append, List.map_cons]
  have e1 : l.map (fun f => if f.nm = p.nm then u f else f) = l := by
    conv => rhs; rw [← List.map_id l]
    apply List.map_congr_left
    intro f hf
    rw [if_neg (bb_ne (s3 f hf p (by simp)))]
    rfl
  have e2 : r.map (fun f => if f.nm = p.nm then u f else f) = r := by
    conv => rhs; rw [← List.map_id r]
    apply List.map_congr_left
    intro f hf
    rw [if_neg (fun e => bb_ne ((List.pairwise_cons.1 s2).1 f hf) e.symm)]
    rfl
  rw [e1, e2, if_pos rfl]
section
variable {w : World} {d : Nat} {ow : Nat → Option Nat} {mb : Option Nat} {L : List Fl} {fu : Bool} {n : Int} {S : PS}
theorem DP.on {w' : World} (h : DP w d ow mb L fu n S) (hb : Below w.heap.size w w') : DP w' d ow mb L fu n S :=
  ⟨h.dm.keep (fun k hk _ => hb.block k hk) (fun _ _ => rfl) (fun b hb' => h.dm.out b (by have := hb.size; omega)), fun f hf => (h.fa f hf).keep (fun k hk _ => hb.block k hk) (fun _ _ => rfl), h.fs, h.left⟩
theorem Ints.fr {w' : World} {a : Option Addr} {xs : List Int} (h : Ints w ow a xs) (f : Fr (Ow ow) w w') {ow' : Nat → Option Nat} (ho : ∀ k, k < w.heap.size → ow' k = ow k) : Ints w' ow' a xs := by
  intro hx
  obtain ⟨b, o, e, hb, hn, hc⟩ := h hx
  refine ⟨b, o, e, Nat.lt_of_lt_of_le hb f.size, (ho b hb).trans hn, fun i hi => ?_⟩
  rw [World.cell?_of_block (w := w) (f.block b hb (fun e => e hn))]
  exact hc i hi
/-- A torn file in the place of one that was not safe. -/
theorem DP.tear (h : DP w d ow mb L fu n S) {f : Fl} (hf : f ∈ L) (x : Int) {w' : World} {hv' : Value} {g' : Nat} (hc : FC w' f.blk hv' hv' g' (some g') (tearF f.pf x)) (hg : w.heap.size ≤ g') (fr : Fr (fun k => k = f.blk) w w') :
    ∃ ow', DP w' d ow' mb (setK fk f.pf.nm (fun y => ⟨tearF y.pf x, y.blk⟩) L) fu n { S with fs := setK PF.nm f.pf.nm (fun p => tearF p x) S.fs } ∧ (∀ k, k < w.heap.size → ow' k = ow k) ∧ Fr (Ow ow) w w' := by
  have hob := (h.dm.ob f hf).1
  have hgl : g' < w'.heap.size := hc.has.lt
  have how : ∀ k, k < w.heap.size → (if k = g' then some f.blk else ow k) = ow k := fun k hk => if_neg (by omega)
  refine ⟨fun k => if k = g' then some f.blk else ow k, ?_, how, fr.mono (fun k hk => by rw [hk]; unfold Ow; rw [hob]; simp)⟩
  refine h.setF hf (fun p => tearF p x) (fun _ => rfl) (FC.fa (f := ⟨tearF f.pf x, f.blk⟩) hc (if_pos rfl) (fun g hg' => ?_)) (fun k hk hk' hk'' => fr.block k hk (fun e => hk'' (by rw [e]; exact hob))) how (fun b hb => ?_)
  · injection hg' with hg'
    subst hg'
    exact if_pos rfl
  · show (if b = g' then some f.blk else ow b) = none
    rw [if_neg (by omega)]
    have := fr.size
    exact h.dm.out b (by omega)
/-- How far a crash has come: j files are done, ys is left of the draws. -/
structure Cr (w : World) (d : Nat) (ow : Nat → Option Nat) (W : World) (P : List PF) (xs : List Int) (j : Nat) (ow' : Nat → Option Nat) (ds : List PF) (ys : List Int) (a : Option Addr) : Prop where
  dp : ∃ mb L, DP W d ow' mb L false 0 ⟨ds ++ P.drop j, false, -1⟩
  cr : crL P xs = ds ++ crL (P.drop j) ys
  ho : ∀ k, k < w.heap.size → ow' k = ow k
  fr : Fr (Ow ow) w W
  ints : Ints W ow' a ys
theorem Cr.step {W : World} {P : List PF} {xs : List Int} {j : Nat} {ow' : Nat → Option Nat} {ds : List PF} {ys : List Int} {a : Option Addr} (h : Cr w d ow W P xs j ow' ds ys a) (hj : j < P.length) {W' : World} {ow'' : Nat → Option Nat} {ds' : List PF} {ys' : List Int} {a' : Option Addr}
    (hd : ∃ mb L, DP W' d ow'' mb L false 0 ⟨ds' ++ P.drop (j + 1), false, -1⟩) (hc : ds ++ crL (P[j] :: P.drop (j + 1)) ys = ds' ++ crL (P.drop (j + 1)) ys') (ho : ∀ k, k < W.heap.size → ow'' k = ow' k) (fr : Fr (Ow ow') W W') (hi : Ints W ow' a' ys') :
    Cr w d ow W' P xs (j + 1) ow'' ds' ys' a' := by
  refine ⟨hd, ?_, fun k hk => (ho k (Nat.lt_of_lt_of_le hk h.fr.size)).trans (h.ho k hk), h.fr.trans fr (fun x hx => ?_), hi.fr fr ho⟩
  · rw [h.cr, ← hc, List.drop_eq_getElem_cons hj]
  · by_cases hxw : x < w.heap.size
    · left
      unfold Ow at hx ⊢
      rw [h.ho x hxw] at hx
      exact hx
    · right; omega
end
end Go.Proofs.Ytlbkmhlpgpfafaa
