/-
  Reading a field of a message that is a number; any field.
-/
import Derived.Test.YtchmiiclogmheaaDoorRd4
import Derived.Deep.RegionHeld3
namespace Go.Proofs.YtchmiiclogmheaaDoor.C2
open Go.RowKit
theorem far1 {w : World} {b q i o : Nat} {x v : Value} (h : q ≠ b) (e : w.cell? ⟨q, o, none⟩ = some v) : (w.setCell ⟨b, i, none⟩ x).cell? ⟨q, o, none⟩ = some v :=
  (World.cell?_of_block (w := w) (a := ⟨q, o, none⟩) (Below.heap_setCell _ _ _ _ h)).trans e
theorem num_cell {w : World} {b : Nat} {M : MM} {p : Ad} {f : Nat} (h : w.heap[b]? = some (.cells (msC M p) 26)) (hf : f ≤ 6) : w.cell? ⟨b, f + 1, none⟩ = some (.int .i64 (nF M f)) := by
  unfold msC at h
  obtain ⟨q0, q1, q2, q3, q4, q5, q6, q7, q8, q9, q10⟩ := cells11 h
  have h : f = 0 ∨ f = 1 ∨ f = 2 ∨ f = 3 ∨ f = 4 ∨ f = 5 ∨ f = 6 := by omega
  rcases h with rfl | rfl | rfl | rfl | rfl | rfl | rfl
  · exact q1
  · exact q2
  · exact q3
  · exact q4
  · exact q5
  · exact q6
  · exact q7
theorem num_set {M : MM} {p : Ad} {f : Nat} {v : Int} (hf : f ≤ 6) : (msC M p).setIfInBounds (f + 1) (.int .i64 v) = msC (setN M f v) p := by
  have h : f = 0 ∨ f = 1 ∨ f = 2 ∨ f = 3 ∨ f = 4 ∨ f = 5 ∨ f = 6 := by omega
  rcases h with rfl | rfl | rfl | rfl | rfl | rfl | rfl <;> rfl
theorem setN_lists (M : MM) (f : Nat) (v : Int) : (setN M f v).ws = M.ws ∧ (setN M f v).ms = M.ms ∧ (setN M f v).ds = M.ds := by
  unfold setN
  repeat' split
  all_goals exact ⟨rfl, rfl, rfl⟩
set_option maxRecDepth 100000 in
set_option maxHeartbeats 12800000 in
theorem readFn_any (b f : Nat) (hf : f ≤ 6) (t : T) (M : MM) (p : Ad) (w : World) (hb : w.heap[b]? = some (.cells (msC M p) 26)) (hL : LsS (b + 1) w M p) (h : ∀ f, InF w f t) : Calls Tryd.prog 65 #[.pointer (some ⟨b, 0, none⟩), .int .i64 f, t.val] w fun e w' => FdO b f t M w e w' := by
  have hbw : b < w.heap.size := lt_of_block hb
  have hba : Below w.heap.size w (w.alloc (.cells #[.int .i64 t.k, .int .u64 t.n, .string t.s, .slice t.a t.l.length t.cap] 54)) := (Below.refl _ _).alloc (Nat.le_refl _) _
  have HBA := Lib.hid hba
  have HBX := Lib.hid ((hba.block _ hbw).trans hb)
  have HLL := Lib.hid hL
  have hi := (h 1).1
  have hmo : 0 ≤ mo f ∧ mo f ≤ 1073741824 := by unfold mo; split <;> omega
  have HSM : Hid (∀ W, Calls Tryd.prog 64 #[.agg #[.int .i64 t.k, .int .u64 t.n, .string t.s, .slice t.a t.l.length t.cap], .int .i64 (mo f)] W fun e w' => e = .returned (.tuple #[.int .i64 (if okS t (mo f) = true then t.n else 0), .bool (okS t (mo f))]) ∧ Below W.heap.size W w') := Lib.hid (fun W => small_any t (mo f) W hi.1 hi.2.1 hmo.1 hmo.2)
  have HOF : Hid (okF f t = okS t (mo f)) := Lib.hid (by unfold okF; rw [if_neg (by omega), if_neg (by omega), if_neg (by omega)])
  have HSF : Hid (setF M f t = setN M f t.n) := Lib.hid (by unfold setF; rw [if_neg (by omega), if_neg (by omega), if_neg (by omega)])
  have HQ := Lib.hid (heap_top w (.cells #[.int .i64 t.k, .int .u64 t.n, .string t.s, .slice t.a t.l.length t.cap] 54))
  have hq0 : w.heap.size < (w.alloc (.cells #[.int .i64 t.k, .int .u64 t.n, .string t.s, .slice t.a t.l.length t.cap] 54)).heap.size := by simp
  have e7 : ((f : Int) == 7) = false := by simp; omega
  have e8 : ((f : Int) == 8) = false := by simp; omega
  have e9 : ((f : Int) == 9) = false := by simp; omega
  obtain ⟨mx, hmx⟩ := named (mo f)
  have HMO : Hid (∀ W, Calls Tryd.prog 82 #[.int .i64 f] W fun e w' => e = .returned (.int .i64 mx) ∧ w' = W) := Lib.hid (fun W => by rw [← hmx.out]; exact most_any f W)
  have HPL := Lib.hid (fun W => place_any b f hf W)
  rw [hmx.out] at HSM HOF
  obtain ⟨OK, hOK⟩ := named (okS t mx)
  rw [hOK.out] at HSM HOF
  obtain ⟨V, hV⟩ := named (if OK = true then t.n else 0)
  rw [hV.out] at HSM
  clear hb hba h hL hi hmo
  unfold T.val
  go_enter Tryd.func65, Tryd.ntmps65
  go_wp2_with fail
  generalize hqq : w.heap.size = q at *
  generalize hW0 : w.alloc (.cells #[.int .i64 t.k, .int .u64 t.n, .string t.s, .slice t.a t.l.length t.cap] 54) = W0 at *
  have hne : q ≠ b := by omega
  obtain ⟨⟨y0, y1, y2, y3⟩, _⟩ := cells4 HQ.out
  have w0 := num_cell HBX.out hf
  have w1 := frz (i := f + 1) HBX.out
  have HSP : Hid (∀ W, Below W0.heap.size W0 W → (W.cell? ⟨q, 0, none⟩ = some (.int .i64 t.k) ∧ W.cell? ⟨q, 1, none⟩ = some (.int .u64 t.n) ∧ W.cell? ⟨q, 2, none⟩ = some (.string t.s) ∧ W.cell? ⟨q, 3, none⟩ = some (.slice t.a t.l.length t.cap)) ∧ W.cell? ⟨b, f + 1, none⟩ = some (.int .i64 (nF M f)) ∧ W.frozen? ⟨b, f + 1, none⟩ = false) := Lib.hid (fun W hW => ⟨(cells4 ((hW.block _ hq0).trans HQ.out)).1, num_cell ((hW.block _ (by omega)).trans HBX.out) hf, frz ((hW.block _ (by omega)).trans HBX.out)⟩)
  generalize nF M f = nf at *
  go_region_held3 (fun w => w.cell? ⟨q, 0, none⟩ = some (.int .i64 t.k) ∧ w.cell? ⟨q, 1, none⟩ = some (.int .u64 t.n) ∧ w.cell? ⟨q, 2, none⟩ = some (.string t.s) ∧ w.cell? ⟨q, 3, none⟩ = some (.slice t.a t.l.length t.cap)) (first | (with_reducible exact ⟨z0, z1, z2, z3⟩) | (with_reducible exact ⟨far1 hne z0, far1 hne z1, far1 hne z2, far1 hne z3⟩) | (with_reducible exact ⟨y0, y1, y2, y3⟩) | (with_reducible assumption) | go_keep) (first
    | (go_at_call 79; refine (HPL.out _).mono ?_; rintro e wp ⟨rfl, rfl⟩)
    | (go_at_call 82; refine (HMO.out _).mono ?_; rintro e wp ⟨rfl, rfl⟩)
    | (go_at_call 64; refine (HSM.out _).mono ?_; rintro e wz ⟨rfl, hbz⟩; have HBz : Hid (Below W0.heap.size W0 wz) := Lib.hid (bstep (Below.refl _ _).drew hbz); obtain ⟨⟨z0, z1, z2, z3⟩, z4, z5⟩ := HSP.out _ HBz.out; clear hbz))
  all_goals
    go_wp2_with fail
    refine bodyPost_ret (v := .bool OK) (by simp [results, Tryd.results65, go_sem]) rfl ?_
    have hbw2 : Below w.heap.size w wz := by rw [hqq]; exact HBA.out.trans (HBz.out.mono (by omega))
    refine fdo_of (p' := p) (M' := setN M f V) (i := f + 1) (p := p) (by rw [HOF.out]) ((HBz.out.block _ (by omega)).trans HBX.out) (num_set hf) hbw2 (by omega) (fun ho => ?_)
    rw [HOF.out] at ho
    subst ho
    have hV2 := hV.out
    rw [if_pos rfl] at hV2
    obtain ⟨l1, l2, l3⟩ := setN_lists M f V
    have hls := HLL.out.same (B' := b + 1) (w' := wz) (fun c hc hc2 => ⟨hc, by have := hbw2.size; omega, hbw2.block c (by omega)⟩)
    exact ⟨by rw [HSF.out, hV2], ⟨by rw [l1]; exact hls.ws, by rw [l2]; exact hls.ms, by rw [l3]; exact hls.ds⟩⟩
theorem readField_any (b f : Nat) (hf : f ≤ 9) (t : T) (M : MM) (p : Ad) (w : World) (hb : w.heap[b]? = some (.cells (msC M p) 26)) (hL : LsS (b + 1) w M p) (h : ∀ f, InF w f t) (hs : Small t) : Calls Tryd.prog 65 #[.pointer (some ⟨b, 0, none⟩), .int .i64 f, t.val] w fun e w' => FdO b f t M w e w' := by
  by_cases h6 : f ≤ 6
  · exact readFn_any b f h6 t M p w hb hL h
  · have h : f = 7 ∨ f = 8 ∨ f = 9 := by omega
    rcases h with rfl | rfl | rfl
    · exact readF7_any b t M p w hb hL (by assumption) hs
    · exact readF8_any b t M p w hb hL (by assumption) hs
    · exact readF9_any b t M p w hb hL (by assumption) hs
end Go.Proofs.YtchmiiclogmheaaDoor.C2
