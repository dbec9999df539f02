/-
  append of weights that came in. Contracts of flyoverref05.looked, Every and Dists, and of flyoverref01.Add. All arcs, gone over again and again: mathematics. Contract of flyoverref05.Dists. The reference's Right: a cell's matrix by all walks within it. The reference's Leaf. The reference's Whole; SameMatrix. The contract of the book's SpoilInts: rows keep their shape. SameMatrix, SpoilDists; Leaf and Whole, of the program and of the reference, as the law wants them.
-/
import Derived.Test.YtpmjbeiclmllmaaGreatXNb
import Derived.Test.YtpmjbeiclmllmaaGreatXLfa
import Derived.Test.YtpmjbeiclmllmaaGreatXRb
import Derived.Test.YtpmjbeiclmllmaaGreatXKp
import Derived.Deep.RegionHeld3
namespace Go.Proofs.YtpmjbeiclmllmaaGreat.N5
theorem Wk.ok {l : List A} {ok : Nat → Bool} {s v : Nat} {d : Int} (h : Wk l ok s v d) : ok v = true := by
  cases h with
  | nil h => exact h
  | snoc _ _ h => exact h
/-- Lengths that some walks have. -/
structure BF (l : List A) (ok : Nat → Bool) (s : Nat) (F : Nat → Int) : Prop where
  lo : ∀ v, 0 ≤ F v
  hi : ∀ v, F v ≤ Inf
  wk : ∀ v, F v < Inf → Wk l ok s v (F v)
  s0 : F s ≤ 0
/-- An arc tells a lesser one. -/
def better (l : List A) (ok : Nat → Bool) (F : Nat → Int) (j : Nat) : Prop := ok (src (ar l j)) = true ∧ ok (dst (ar l j)) = true ∧ sat (F (src (ar l j))) (ar l j).w < F (dst (ar l j))
theorem BF.init (l : List A) (ok : Nat → Bool) (s : Nat) (h : ok s = true) : BF l ok s (updI (fun _ => Inf) s 0) := by
  have i0 : (0 : Int) < Inf := by unfold Inf; omega
  refine ⟨fun v => ?_, fun v => ?_, fun v hv => ?_, by rw [updI_self]; omega⟩
  · unfold updI; split <;> (try dsimp only) <;> omega
  · unfold updI; split <;> (try dsimp only) <;> omega
  · by_cases e : v = s
    · subst e; rw [updI_self]; exact Wk.nil h
    · rw [updI_ne _ _ e] at hv; omega
theorem BF.put {l : List A} {ok : Nat → Bool} {s : Nat} {F : Nat → Int} (h : BF l ok s F) (hw : ∀ x ∈ l, 0 ≤ x.w) {j : Nat} (hj : j < l.length) (hb : better l ok F j) : BF l ok s (updI F (dst (ar l j)) (sat (F (src (ar l j))) (ar l j).w)) := by
  obtain ⟨h1, h2, h3⟩ := hb
  have a1 := h.lo (src (ar l j))
  have a2 := hw _ (ar_mem hj)
  have a3 := h.hi (dst (ar l j))
  have a4 := sat_lt (show sat (F (src (ar l j))) (ar l j).w < Inf by omega)
  refine ⟨fun v => ?_, fun v => ?_, fun v hv => ?_, ?_⟩
  · unfold updI; split
    · omega
    · exact h.lo v
  · unfold updI; split
    · exact sat_inf _ _
    · exact h.hi v
  · by_cases e : v = dst (ar l j)
    · subst e
      rw [updI_self, a4]
      exact Wk.snoc (ar_mem hj) (h.wk _ (by omega)) h2
    · rw [updI_ne _ _ e] at hv ⊢; exact h.wk v hv
  · have := h.s0
    by_cases e : s = dst (ar l j)
    · rw [← e] at h3; omega
    · rw [updI_ne _ _ e]; exact this
theorem BF.done {l : List A} {ok : Nat → Bool} {s : Nat} {F : Nat → Int} (h : BF l ok s F) (hn : ∀ j, j < l.length → ¬ better l ok F j) : IsD l ok s F := by
  refine ⟨h.lo, h.hi, h.wk, fun v d w => ?_⟩
  induction w with
  | nil _ => exact h.s0
  | @snoc x d hx hp ho ih =>
    obtain ⟨j, hj, rfl⟩ := mem_ar hx
    have h1 := hn j hj
    have h2 := sat_le (F (src (ar l j))) (ar l j).w
    by_cases e : sat (F (src (ar l j))) (ar l j).w < F (dst (ar l j))
    · exact absurd ⟨hp.ok, ho, e⟩ h1
    · omega
theorem isD_none (l : List A) (ok : Nat → Bool) (s : Nat) (h : ok s = false) : IsD l ok s (fun _ => Inf) := by
  have key : ∀ {v d}, ¬ Wk l ok s v d := by
    intro v d w
    induction w with
    | nil h' => rw [h] at h'; cases h'
    | snoc _ _ _ ih => exact ih
  exact ⟨fun _ => by unfold Inf; omega, fun _ => Int.le_refl _, fun _ h => absurd h (by omega), fun _ _ w => absurd w key⟩
/-- All lengths together. -/
def sumN (F : Nat → Int) : Nat → Nat
  | 0 => 0
  | k + 1 => sumN F k + (F k).toNat
theorem sumN_ne (F : Nat → Int) (v : Nat) (d : Int) : ∀ k, k ≤ v → sumN (updI F v d) k = sumN F k := by
  intro k
  induction k with
  | zero => intro _; rfl
  | succ k ih => intro h; simp [sumN, ih (by omega), updI_ne F d (show k ≠ v by omega)]
theorem sumN_put (F : Nat → Int) (v : Nat) (d : Int) (h0 : 0 ≤ d) (h1 : d < F v) : ∀ k, v < k → sumN (updI F v d) k < sumN F k := by
  intro k
  induction k with
  | zero => intro h; omega
  | succ k ih =>
    intro h
    by_cases e : v = k
    · subst e
      simp only [sumN, updI_self]
      rw [sumN_ne F v d v (Nat.le_refl _)]
      omega
    · have := ih (by omega)
      simp only [sumN, updI_ne F d (show k ≠ v by omega)]
      omega
/-- What holds within a round: F0 at its beginning, b: something has changed. -/
structure Rnd (l : List A) (ok : Nat → Bool) (s n : Nat) (F0 F : Nat → Int) (b : Bool) (k : Nat) : Prop where
  bf : BF l ok s F
  yes : b = true → sumN F n < sumN F0 n
  no : b = false → F = F0 ∧ ∀ j, j < k → ¬ better l ok F j
theorem Rnd.init {l : List A} {ok : Nat → Bool} {s n : Nat} {F : Nat → Int} (h : BF l ok s F) : Rnd l ok s n F F false 0 := ⟨h, fun h => (by cases h), fun _ => ⟨rfl, fun j hj => by omega⟩⟩
theorem Rnd.put {l : List A} {ok : Nat → Bool} {s n : Nat} {F0 F : Nat → Int} {b : Bool} {k : Nat} (h : Rnd l ok s n F0 F b k) (g : RG n l) (hk : k < l.length) (hb : better l ok F k) : Rnd l ok s n F0 (updI F (dst (ar l k)) (sat (F (src (ar l k))) (ar l k).w)) true (k + 1) := by
  have hw : ∀ x ∈ l, 0 ≤ x.w := fun x hx => (g.wt x hx).1
  refine ⟨h.bf.put hw hk hb, fun _ => ?_, fun e => by cases e⟩
  have h1 := h.bf.lo (src (ar l k))
  have h2 := hw _ (ar_mem hk)
  have h3 := sumN_put F (dst (ar l k)) _ (sat_ge (show (0 : Int) ≤ F (src (ar l k)) + (ar l k).w by omega) (by unfold Inf; omega)) hb.2.2 n (g.dst_lt (ar_mem hk))
  cases b with
  | true => have := h.yes rfl; omega
  | false => rw [(h.no rfl).1] at h3 ⊢; exact h3
theorem Rnd.skip {l : List A} {ok : Nat → Bool} {s n : Nat} {F0 F : Nat → Int} {b : Bool} {k : Nat} (h : Rnd l ok s n F0 F b k) (hb : ¬ better l ok F k) : Rnd l ok s n F0 F b (k + 1) := by
  refine ⟨h.bf, h.yes, fun e => ⟨(h.no e).1, fun j hj => ?_⟩⟩
  by_cases e' : j = k
  · subst e'; exact hb
  · exact (h.no e).2 j (by omega)
/-- What holds at a round's head. -/
structure Hd (l : List A) (ok : Nat → Bool) (s n : Nat) (F : Nat → Int) (b : Bool) (gk : Nat) : Prop where
  gk : gk = 2 * sumN F n + b.toNat
  bf : BF l ok s F
  no : b = false → IsD l ok s F
theorem Rnd.head {l : List A} {ok : Nat → Bool} {s n : Nat} {F0 F : Nat → Int} {b : Bool} {gk : Nat} (h : Rnd l ok s n F0 F b l.length) (hg : gk = 2 * sumN F0 n + 1) : Hd l ok s n F b (2 * sumN F n + b.toNat) ∧ 2 * sumN F n + b.toNat < gk := by
  refine ⟨⟨rfl, h.bf, fun e => h.bf.done (h.no e).2⟩, ?_⟩
  cases b with
  | true => have := h.yes rfl; simp; omega
  | false => rw [(h.no rfl).1]; simp; omega
end Go.Proofs.YtpmjbeiclmllmaaGreat.N5
namespace Go.Proofs.YtpmjbeiclmllmaaGreat.N5
open Go.RowKit
open Hp (Fr)
set_option maxHeartbeats 400000 in
theorem radd_any (a b : Int) (ha : 0 ≤ a ∧ a ≤ Inf) (hb : 0 ≤ b ∧ b ≤ Inf) (w : World) :
    Calls Tryz.prog 107 #[.int .u64 a, .int .u64 b] w fun e w' => e = .returned (.int .u64 (sat a b)) ∧ w' = w := by
  unfold Inf at ha hb
  by_cases h : 18446744073709551615 - b < a
  · have HS : Hid (sat a b = 18446744073709551615) := by show _ = _; unfold sat Inf; rw [if_pos (by omega)]
    go_enter Tryz.func107, Tryz.ntmps107
    go_wp2_with fail
    go_ret
    exact ⟨by rw [HS.out]; rfl, rfl⟩
  · have HS : Hid (sat a b = a + b) := by show _ = _; unfold sat Inf; split <;> omega
    go_enter Tryz.func107, Tryz.ntmps107
    go_wp2_with fail
    go_ret
    exact ⟨by rw [HS.out]; rfl, rfl⟩
theorem nearE_two {N : Int} {l : List A} {s t : Int} : nearE N l [s, t] = if chkE N l = 0 then (if okV N s = true ∧ okV N t = true then 0 else 5) else chkE N l := by
  unfold nearE
  by_cases h1 : chkE N l = 0
  · rw [if_pos h1, if_pos h1]
    by_cases h2 : okV N s = true <;> by_cases h3 : okV N t = true <;> simp [h2, h3]
  · rw [if_neg h1, if_neg h1]
/-- Marks of n vertices can be read. -/
def Mks (w : World) (a : Option Addr) (n : Nat) (ok : Nat → Bool) : Prop := ∃ b o, a = some ⟨b, o, none⟩ ∧ b < w.heap.size ∧ ∀ v, v < n → w.cell? ⟨b, o + v, none⟩ = some (.bool (ok v))
theorem Mks.on {w w' : World} {a : Option Addr} {n : Nat} {ok : Nat → Bool} (h : Mks w a n ok) (hb : Below w.heap.size w w') : Mks w' a n ok := by
  obtain ⟨b, o, rfl, hl, hc⟩ := h
  exact ⟨b, o, rfl, Nat.lt_of_lt_of_le hl hb.size, fun v hv => (hb.cell (p := ⟨b, o + v, none⟩) hl).trans (hc v hv)⟩
end Go.Proofs.YtpmjbeiclmllmaaGreat.N5
namespace Go.Proofs.YtpmjbeiclmllmaaGreat.N5
open Go.RowKit
open Hp (Fr)
set_option maxHeartbeats 3200000 in
set_option maxRecDepth 100000 in
theorem dists_any (n : Nat) (a : Option Addr) (l : List A) (cap : Nat) (s : Nat) (ai : Option Addr) (c : Nat) (ok : Nat → Bool) (w : World) (g : RG n l) (hs : s < n) (hr : Arcs w a l) (hm : Mks w ai n ok) :
    Calls Tryz.prog 71 #[.agg #[.int .i64 n, .slice a l.length cap], .int .i64 s, .slice ai n c] w fun e w' => ∃ bf, e = .returned (.slice (some ⟨bf, 0, none⟩) n n) ∧ ∃ F, Tb w' bf n 47 .u64 F ∧ IsD l ok s F ∧ w.heap.size ≤ bf ∧ Below w.heap.size w w' := by
  obtain ⟨i0, hi, hz0, hz1, hz2⟩ := info_parts info34
  have HM := Lib.hid (made_u64 n)
  have hb0 : Below w.heap.size w (w.alloc (.cells #[.int .i64 n, .slice a l.length cap] 24)) := (Below.refl _ _).alloc (Nat.le_refl _) _
  have hg := heap_top w (.cells #[.int .i64 n, .slice a l.length cap] 24)
  have s0 : (w.alloc (.cells #[.int .i64 n, .slice a l.length cap] 24)).heap.size = w.heap.size + 1 := by simp
  have hnb := g.nb
  have hlb := g.lb
  obtain ⟨bi, oi, rfl, hbi, hmk⟩ := hm
  have HMK := Lib.hid hmk
  have HG := Lib.hid g
  have HAR := Lib.hid hr
  have hs' : (s : Int) < n := by omega
  clear hmk g hr
  go_enter Tryz.func71, Tryz.ntmps71
  go_wp2_with (at_make; refine wpList_make_full _ rfl (.tmp 14) (.tmp 14) 37 rfl 0 47 i0 (.int .u64 0) 1 Tryz.underlying37 hi hz0 hz1 .i64 .i64 n n n rfl rfl rfl rfl (by rw [hz2]; omega) (by unfold maxLen; omega) (Nat.zero_le _) ?_; intro w1 hown1 hgrow1; rw [HM.out] at hown1)
  generalize w.alloc (.cells #[.int .i64 n, .slice a l.length cap] 24) = W at *
  have t1 : Tb w1 (w.heap.size + 1) n 47 .u64 (fun _ => 0) := by rw [s0] at hown1; exact row_made hown1
  have b1 : Below (w.heap.size + 1) W w1 := (Below.refl _ _).grown hgrow1 (by omega) (by intro k hk; cases hk)
  clear hown1 hgrow1 HM hi hz0 hz1 hz2
  clear i0
  go_loopw [8] (fun i wr => ∃ k : Nat, k ≤ n ∧ i = .int .i64 k ∧ Tb wr (w.heap.size + 1) n 47 .u64 (fun v => if v < k then Inf else 0) ∧ Below (w.heap.size + 1) W wr) (fun i _ => n - (intOf i).toNat)
  case atStart => exact ⟨0, Nat.zero_le _, rfl, t1.congr (fun v _ => by simp), b1⟩
  case round =>
    obtain ⟨k, hk, rfl, tk, hb⟩ := hrel
    obtain ⟨⟨g0, g1⟩, -⟩ := two_cells ((hb.block w.heap.size (by omega)).trans hg)
    by_cases hlt : k < n
    · have hlt' : (k : Int) < n := by omega
      have c0 := tk.cell hlt
      have f0 := tk.free k
      go_wp2_with fail
      refine ⟨⟨k + 1, by omega, by go_num, (tk.set k Inf).congr (fun v _ => ?_), hb.setCell (Nat.le_refl _) _⟩, by simp [intOf]; omega⟩
      unfold updI
      by_cases e : v = k
      · subst e; simp
      · rw [if_neg e]
        show (if v < k then Inf else 0) = _
        by_cases e2 : v < k
        · rw [if_pos e2, if_pos (by omega)]
        · rw [if_neg e2, if_neg (by omega)]
    · have hlt' : ¬ (k : Int) < n := by omega
      have ti : Tb wr (w.heap.size + 1) n 47 .u64 (fun _ => Inf) := tk.congr (fun v hv => by rw [if_pos (by omega)])
      have hbw : Below w.heap.size w wr := hb0.trans (hb.mono (by omega))
      have m0 := (hbw.cell (p := ⟨bi, oi + s, none⟩) hbi).trans (HMK.out s hs)
      have c0 := ti.cell hs
      have f0 := ti.free s
      clear tk
      cases ho : ok s with
      | false =>
        rw [ho] at m0
        have HND := Lib.hid (isD_none l ok s ho)
        clear ho
        go_wp2_with fail
        go_ret
        exact ⟨_, rfl, _, ti, HND.out, by omega, hbw⟩
      | true =>
        rw [ho] at m0
        have HBF := Lib.hid (BF.init l ok s ho)
        have ts := ti.set s 0
        have hbs : Below (w.heap.size + 1) W (wr.setCell ⟨w.heap.size + 1, s, none⟩ (.int .u64 0)) := hb.setCell (Nat.le_refl _) _
        obtain ⟨ba, oa, hab⟩ := HAR.out.b.get
        clear ho
        go_wp2_with fail
        generalize wr.setCell ⟨w.heap.size + 1, s, none⟩ (.int .u64 0) = W2 at *
        clear c0 f0 m0 hbw hb ti g0 g1
        go_loopg [9] (2 * sumN (updI (fun _ => Inf) s 0) n + 1) (fun gk vb wx => ∃ (F : Nat → Int) (b : Bool), vb = .bool b ∧ Tb wx (w.heap.size + 1) n 47 .u64 F ∧ Below (w.heap.size + 1) W wx ∧ Hid (Hd l ok s n F b gk))
        case atStart => exact ⟨_, true, rfl, ts, hbs, ⟨rfl, HBF.out, fun h => by cases h⟩⟩
        case round =>
          obtain ⟨F0, b0, rfl, t0, hbx, hh0⟩ := hrel
          clear ts hbs
          cases b0 with
          | false =>
            have HIS := Lib.hid (hh0.out.no rfl)
            go_wp2_with fail
            go_ret
            exact ⟨_, rfl, F0, t0, HIS.out, by omega, hb0.trans (hbx.mono (by omega))⟩
          | true =>
            have HR0 := Lib.hid (Rnd.init (n := n) hh0.out.bf)
            have HGK : Hid (gk = 2 * sumN F0 n + 1) := hh0.out.gk
            go_wp2_with fail
            go_loopw [9, 10] (fun vb vi wr => ∃ (F : Nat → Int) (b : Bool) (k : Nat), k ≤ l.length ∧ vb = .bool b ∧ vi = .int .i64 k ∧ Tb wr (w.heap.size + 1) n 47 .u64 F ∧ Below (w.heap.size + 1) W wr ∧ Hid (Rnd l ok s n F0 F b k)) (fun _ vi _ => l.length - (intOf vi).toNat)
            case atStart => exact ⟨F0, false, 0, Nat.zero_le _, rfl, rfl, t0, hbx, HR0⟩
            case round =>
              obtain ⟨F, b, k, hk, rfl, rfl, tf, hby, hrd⟩ := hrel
              clear t0 hbx
              obtain ⟨⟨g0, g1⟩, -⟩ := two_cells ((hby.block w.heap.size (by omega)).trans hg)
              by_cases hlt : k < l.length
              · obtain ⟨rfl, hbl, hat⟩ := hab (by omega)
                have hlt' : (k : Int) < l.length := by omega
                have hbw : Below w.heap.size w wr := hb0.trans (hby.mono (by omega))
                obtain ⟨q0, q1, q2⟩ := (hat k hlt).on hbw
                have hmem := ar_mem hlt
                have hsl := HG.out.src_lt hmem
                have hdl := HG.out.dst_lt hmem
                have q0' : wr.cell? ⟨ba, oa + k * 3, none⟩ = some (.int .i64 (ar l k).f) := q0
                have q1' : wr.cell? ⟨ba, oa + k * 3 + 1, none⟩ = some (.int .i64 (ar l k).t) := q1
                have q2' : wr.cell? ⟨ba, oa + k * 3 + 2, none⟩ = some (.int .u32 (ar l k).w) := q2
                rw [HG.out.f_eq hmem] at q0'
                rw [HG.out.t_eq hmem] at q1'
                have hxw := HG.out.wt _ hmem
                have hPut := Lib.hid (fun h => hrd.out.put HG.out hlt h)
                have hSkip := Lib.hid (fun h => hrd.out.skip (k := k) h)
                have HBT : Hid (better l ok F k ↔ (ok (src (ar l k)) = true ∧ ok (dst (ar l k)) = true ∧ sat (F (src (ar l k))) (ar l k).w < F (dst (ar l k)))) := Iff.rfl
                obtain ⟨xa, HXA⟩ := named (ar l k)
                rw [HXA.out] at q0' q1' q2' hsl hdl hxw hPut HBT
                have k0 := (hbw.cell (p := ⟨bi, oi + src xa, none⟩) hbi).trans (HMK.out _ hsl)
                have k1 := (hbw.cell (p := ⟨bi, oi + dst xa, none⟩) hbi).trans (HMK.out _ hdl)
                have fu0 := tf.cell hsl
                have fv0 := tf.cell hdl
                have ff0 := tf.free (dst xa)
                have hsl' : ((src xa : Nat) : Int) < n := by omega
                have hdl' : ((dst xa : Nat) : Int) < n := by omega
                have HADD := Lib.hid (fun w' : World => radd_any (F (src xa)) xa.w ⟨hrd.out.bf.lo _, hrd.out.bf.hi _⟩ ⟨hxw.1, by unfold Inf; omega⟩ w')
                have HS := Lib.hid (fun x => tf.set (dst xa) x)
                obtain ⟨sx, HSX⟩ := named (sat (F (src xa)) xa.w)
                rw [HSX.out] at HADD hPut HBT
                obtain ⟨fu, HFU⟩ := named (F (src xa))
                obtain ⟨fv, HFV⟩ := named (F (dst xa))
                rw [HFU.out] at HADD fu0
                rw [HFV.out] at fv0 HBT
                obtain ⟨ou, HOU⟩ := named (ok (src xa))
                obtain ⟨ov, HOV⟩ := named (ok (dst xa))
                rw [HOU.out] at k0 HBT
                rw [HOV.out] at k1 HBT
                have HWR : IntKind.u64.wrap xa.w = xa.w := wrap_u64 hxw.1 (by omega)
                have zt := tf.lt
                clear q0 q1 q2 hmem hat
                go_wp2_with fail
                have B5 := Lib.hid (hby.alloc (by have := hby.size; omega) (.cells #[.int .i64 (src xa), .int .i64 (dst xa), .int .u32 xa.w] 68))
                have T5 := Lib.hid (tf.alloc (.cells #[.int .i64 (src xa), .int .i64 (dst xa), .int .u32 xa.w] 68))
                obtain ⟨z0, z1, z2⟩ := three_cells (heap_top wr (.cells #[.int .i64 (src xa), .int .i64 (dst xa), .int .u32 xa.w] 68))
                have x0 := cell_al (k := wr.heap.size) (o := .cells #[.int .i64 (src xa), .int .i64 (dst xa), .int .u32 xa.w] 68) k0 (Nat.ne_of_lt (World.block_lt_of_cell? _ _ k0))
                have x1 := cell_al (k := wr.heap.size) (o := .cells #[.int .i64 (src xa), .int .i64 (dst xa), .int .u32 xa.w] 68) k1 (Nat.ne_of_lt (World.block_lt_of_cell? _ _ k1))
                generalize wr.alloc (.cells #[.int .i64 (src xa), .int .i64 (dst xa), .int .u32 xa.w] 68) = W5 at *
                have fu1 := T5.out.cell hsl
                have fv1 := T5.out.cell hdl
                have ff1 := T5.out.free (dst xa)
                rw [HFU.out] at fu1
                rw [HFV.out] at fv1
                clear q0' q1' q2' fu0 fv0 ff0 hby tf k0 k1 g0 g1 hbw
                go_region_held3 (fun w' => w'.cell? ⟨wr.heap.size, 0, none⟩ = some (.int .i64 (src xa)) ∧ w'.cell? ⟨wr.heap.size, 2, none⟩ = some (.int .u32 xa.w) ∧ w'.cell? ⟨w.heap.size + 1, src xa, none⟩ = some (.int .u64 fu)) (go_keep) ((go_at_call 107; refine (HADD.out _).mono ?_; rintro e w' ⟨rfl, rfl⟩))
                have HT6 := Lib.hid (T5.out.set (dst xa) sx)
                have HB6 := Lib.hid (B5.out.setCell (p := ⟨w.heap.size + 1, dst xa, none⟩) (Nat.le_refl _) (.int .u64 sx))
                cases ou with
                | false =>
                  have HSK := Lib.hid (hSkip.out (fun h => by have := (HBT.out.1 h).1; cases this))
                  go_wp2_with fail
                  exact ⟨⟨F, b, k + 1, by omega, rfl, by go_num, T5.out.same rfl, B5.out.drew, HSK⟩, by simp [intOf]; omega⟩
                | true =>
                  cases ov with
                  | false =>
                    have HSK := Lib.hid (hSkip.out (fun h => by have := (HBT.out.1 h).2.1; cases this))
                    go_wp2_with fail
                    exact ⟨⟨F, b, k + 1, by omega, rfl, by go_num, T5.out.same rfl, B5.out.drew, HSK⟩, by simp [intOf]; omega⟩
                  | true =>
                    by_cases hsf : sx < fv
                    · have HPU := Lib.hid (hPut.out (HBT.out.2 ⟨rfl, rfl, hsf⟩))
                      go_wp2_with fail
                      exact ⟨⟨updI F (dst xa) sx, true, k + 1, by omega, rfl, by go_num, HT6.out.same rfl, HB6.out.drew, HPU⟩, by simp [intOf]; omega⟩
                    · have HSK := Lib.hid (hSkip.out (fun h => hsf (HBT.out.1 h).2.2))
                      go_wp2_with fail
                      exact ⟨⟨F, b, k + 1, by omega, rfl, by go_num, T5.out.same rfl, B5.out.drew, HSK⟩, by simp [intOf]; omega⟩
              · have hkl : k = l.length := by omega
                subst hkl
                have hlt' : ¬ ((l.length : Nat) : Int) < l.length := by omega
                have HHD := Lib.hid (hrd.out.head HGK.out)
                go_wp2_with fail
                go_roundg (2 * sumN F n + b.toNat)
                case measure => exact HHD.out.2
                case rel => exact ⟨F, b, rfl, tf, hby, HHD.out.1⟩
end Go.Proofs.YtpmjbeiclmllmaaGreat.N5
namespace Go.Proofs.YtpmjbeiclmllmaaGreat
open Go.RowKit
theorem own_ne {w : World} {B : Nat} {e : TypeId} {size : Nat} {v : Value} {n : Nat} {xs : List Value} (h : w.ownsRow B e size v n xs) (hn : 0 < n) : v ≠ .slice none 0 0 := by
  rintro rfl
  rcases h.2 with ⟨_, h9⟩ | ⟨g, c, cur, h9, _⟩
  · omega
  · cases h9
/-- Distances within some vertices. -/
noncomputable def dG (l : List A) (ok : Nat → Bool) (s : Nat) : Nat → Int := open Classical in if h : ∃ F, N5.IsD (l.map toN) ok s F then h.choose else fun _ => 0
theorem dG_is {l : List A} {ok : Nat → Bool} {s : Nat} {F : Nat → Int} (h : N5.IsD (l.map toN) ok s F) : dG l ok s = F := by
  unfold dG
  rw [dif_pos ⟨F, h⟩]
  exact N5.IsD.unique (Exists.choose_spec (p := fun F => N5.IsD (l.map toN) ok s F) ⟨F, h⟩) h
noncomputable def rgK (l : List A) (ok : Nat → Bool) (S : List Nat) (k : Nat) : List Int := (S.take k).flatMap (fun s => S.map (dG l ok s))
noncomputable def rgL (l : List A) (ok : Nat → Bool) (S : List Nat) : List Int := rgK l ok S S.length
theorem rgK_succ {l : List A} {ok : Nat → Bool} {S : List Nat} {k : Nat} (h : k < S.length) : rgK l ok S (k + 1) = rgK l ok S k ++ (S.take S.length).map (dG l ok (S.getD k 0)) := by
  unfold rgK
  rw [take_snocS h, List.flatMap_append, List.take_length]
  simp
theorem rgK_len (l : List A) (ok : Nat → Bool) (S : List Nat) (k : Nat) : (rgK l ok S k).length ≤ k * S.length := by
  induction k with
  | zero => simp [rgK]
  | succ k ih =>
    by_cases h : k < S.length
    · rw [rgK_succ h, List.length_append, Nat.succ_mul]
      simp
      exact ih
    · have e : rgK l ok S (k + 1) = rgK l ok S k := by unfold rgK; rw [List.take_of_length_le (by omega), List.take_of_length_le (by omega)]
      rw [e, Nat.succ_mul]
      omega
theorem dists_B (n : Nat) (a : Option Addr) (l : List A) (cap s gi : Nat) (ok : Nat → Bool) (w : World) (hW : WG n l) (hs : s < n) (hr : Arcs w a l) (hm : TbV w gi n 4 (boV ok)) :
    Calls Tryz.prog 71 #[.agg #[.int .i64 n, .slice a l.length cap], .int .i64 s, .slice (some ⟨gi, 0, none⟩) n n] w fun e w' => ∃ bf, e = .returned (.slice (some ⟨bf, 0, none⟩) n n) ∧ w.heap.size ≤ bf ∧ TbV w' bf n 47 (fun v => .int .u64 (dG l ok s v)) ∧ N5.IsD (l.map toN) ok s (dG l ok s) ∧ Below w.heap.size w w' := by
  have h := N5.dists_any n a (l.map toN) cap s (some ⟨gi, 0, none⟩) n ok w hW.rg hs (arcs_N hr) ⟨gi, 0, rfl, hm.lt, fun v hv => by rw [Nat.zero_add]; exact hm.cell hv⟩
  rw [List.length_map] at h
  refine h.mono (fun e w2 h2 => ?_)
  obtain ⟨bf, e1, F, hT, hD, hbf, hb2⟩ := h2
  have e := dG_is hD
  exact ⟨bf, e1, hbf, by rw [e]; exact hT, by rw [e]; exact hD, hb2⟩
set_option maxRecDepth 100000 in
set_option maxHeartbeats 3200000 in
theorem rrightM_any (n : Nat) (a : Option Addr) (l : List A) (cap : Nat) (ba : Option Addr) (bs : List Int) (bc : Nat) (ca : Option Addr) (C : List Cl) (cc : Nat) (j : Nat) (q ep : Int) (w : World) (hW : WG n l) (hj : j < C.length) (hC5 : C.length ≤ 5) (hLn : (cl C j).xs.length = n) (hr : Arcs w a l) (hR : Rws w ca C) :
    Calls Tryz.prog 36 #[.agg #[.int .i64 n, .slice a l.length cap], .agg #[.slice ba bs.length bc, .slice ca C.length cc], .int .i64 ((j : Int) + 1), .int .i64 q, .int .i64 ep] w fun e w' => ∃ v c, e = .returned (.agg #[.int .i64 ((j : Int) + 1), .int .i64 q, .int .i64 ep, .slice v (rgL l (inC (cl C j).xs q) (bdL n (cl C j).xs l q)).length c]) ∧ w'.ownsRow w.heap.size 47 1 (.slice v (rgL l (inC (cl C j).xs q) (bdL n (cl C j).xs l q)).length c) (rgL l (inC (cl C j).xs q) (bdL n (cl C j).xs l q)).length (cellsU (rgL l (inC (cl C j).xs q) (bdL n (cl C j).xs l q))) ∧ (∀ i, i < (bdL n (cl C j).xs l q).length → N5.IsD (l.map toN) (inC (cl C j).xs q) ((bdL n (cl C j).xs l q).getD i 0) (dG l (inC (cl C j).xs q) ((bdL n (cl C j).xs l q).getD i 0))) ∧ Below w.heap.size w w' := by
  obtain ⟨hg0, hg1, hg2, hb0, hsz⟩ := top3 w (.cells #[.int .i64 n, .slice a l.length cap] 24) (.cells #[.slice ba bs.length bc, .slice ca C.length cc] 28) (.cells #[.int .i64 0, .int .i64 0, .int .i64 0, .slice none 0 0] 39)
  have hg3 := heap_top (((w.alloc (.cells #[.int .i64 n, .slice a l.length cap] 24)).alloc (.cells #[.slice ba bs.length bc, .slice ca C.length cc] 28)).alloc (.cells #[.int .i64 0, .int .i64 0, .int .i64 0, .slice none 0 0] 39)) (.cells #[.int .i64 ((j : Int) + 1), .int .i64 q, .int .i64 ep, .slice none 0 0] 39)
  have hb1 : Below ((((w.alloc (.cells #[.int .i64 n, .slice a l.length cap] 24)).alloc (.cells #[.slice ba bs.length bc, .slice ca C.length cc] 28)).alloc (.cells #[.int .i64 0, .int .i64 0, .int .i64 0, .slice none 0 0] 39))).heap.size (((w.alloc (.cells #[.int .i64 n, .slice a l.length cap] 24)).alloc (.cells #[.slice ba bs.length bc, .slice ca C.length cc] 28)).alloc (.cells #[.int .i64 0, .int .i64 0, .int .i64 0, .slice none 0 0] 39)) ((((w.alloc (.cells #[.int .i64 n, .slice a l.length cap] 24)).alloc (.cells #[.slice ba bs.length bc, .slice ca C.length cc] 28)).alloc (.cells #[.int .i64 0, .int .i64 0, .int .i64 0, .slice none 0 0] 39)).alloc (.cells #[.int .i64 ((j : Int) + 1), .int .i64 q, .int .i64 ep, .slice none 0 0] 39)) := (Below.refl _ _).alloc (Nat.le_refl _) _
  rw [hsz] at hg3 hb1
  have hg3 : ((((w.alloc (.cells #[.int .i64 n, .slice a l.length cap] 24)).alloc (.cells #[.slice ba bs.length bc, .slice ca C.length cc] 28)).alloc (.cells #[.int .i64 0, .int .i64 0, .int .i64 0, .slice none 0 0] 39)).alloc (.cells #[.int .i64 ((j : Int) + 1), .int .i64 q, .int .i64 ep, .slice none 0 0] 39)).heap[w.heap.size + 1 + 1 + 1]? = some (.cells #[.int .i64 ((j : Int) + 1), .int .i64 q, .int .i64 ep, .slice none 0 0] 39) := hg3
  have hb2 : Below w.heap.size w ((((w.alloc (.cells #[.int .i64 n, .slice a l.length cap] 24)).alloc (.cells #[.slice ba bs.length bc, .slice ca C.length cc] 28)).alloc (.cells #[.int .i64 0, .int .i64 0, .int .i64 0, .slice none 0 0] 39)).alloc (.cells #[.int .i64 ((j : Int) + 1), .int .i64 q, .int .i64 ep, .slice none 0 0] 39)) := hb0.trans (hb1.mono (by omega))
  have hsz4 : (((((w.alloc (.cells #[.int .i64 n, .slice a l.length cap] 24)).alloc (.cells #[.slice ba bs.length bc, .slice ca C.length cc] 28)).alloc (.cells #[.int .i64 0, .int .i64 0, .int .i64 0, .slice none 0 0] 39)).alloc (.cells #[.int .i64 ((j : Int) + 1), .int .i64 q, .int .i64 ep, .slice none 0 0] 39))).heap.size = w.heap.size + 4 := by rw [World.size_alloc, hsz]
  have HK0 := Lib.hid ((hb1.block _ (by omega)).trans hg0)
  have HK1 := Lib.hid ((hb1.block _ (by omega)).trans hg1)
  have HK2 := Lib.hid ((hb1.block _ (by omega)).trans hg2)
  have HK3 := Lib.hid hg3
  obtain ⟨i75, hi75, hz75, hs75, hby75⟩ := info_parts info75
  have hC := hW.1
  have hn8 : n ≤ 1024 := by have := (chk_zero hC).2.1; omega
  have HED := Lib.hid (redge_any n a l cap ba bs bc ca C cc j q _ hC hj hC5 hLn (hr.on hb2) (hR.on hb2))
  have HINR : Hid (∀ W2, Below w.heap.size w W2 → Calls Tryz.prog 70 #[.agg #[.slice ba bs.length bc, .slice ca C.length cc], .int .i64 ((j : Int) + 1), .int .i64 q] W2 fun e w' => ∃ g, e = .returned (.slice (some ⟨g, 0, none⟩) (cl C j).xs.length (cl C j).xs.length) ∧ W2.heap.size ≤ g ∧ TbV w' g (cl C j).xs.length 4 (boV (fun v => decide ((cl C j).xs.getD v 0 = q))) ∧ Below W2.heap.size W2 w') := fun W2 hb => rin_any ba bs bc ca C cc j q W2 hj hC5 (by omega) (hR.on hb)
  rw [hLn] at HINR
  have HRA := Lib.hid hr
  have HWG := Lib.hid hW
  obtain ⟨L, HLL⟩ := named (cl C j).xs
  rw [HLL.out] at HED HINR
  rw [HLL.out]
  have HSB : Hid (∀ i, i < (bdL n L l q).length → (bdL n L l q).getD i 0 < n) := fun i hi => (cho_mem.1 (getS_mem hi)).1
  have hS8 : (bdL n L l q).length ≤ 1024 := by have := cho_len (bdP L l q) n; unfold bdL; omega
  obtain ⟨S, HS⟩ := named (bdL n L l q)
  rw [HS.out] at HED HSB hS8
  rw [HS.out]
  have HB0 := Lib.hid hb2
  obtain ⟨⟨z0, z1⟩, _⟩ := two_cells HK0.out
  obtain ⟨⟨z2, z3⟩, _⟩ := two_cells HK1.out
  clear hr hR hb0 hb1 hb2 hg0 hg1 hg2 hg3 hsz hW hC hLn
  generalize hp : w.heap.size = p at *
  go_enter Tryz.func36, Tryz.ntmps36
  go_wp2_with fail
  generalize hWW : ((((w.alloc (.cells #[.int .i64 n, .slice a l.length cap] 24)).alloc (.cells #[.slice ba bs.length bc, .slice ca C.length cc] 28)).alloc (.cells #[.int .i64 0, .int .i64 0, .int .i64 0, .slice none 0 0] 39)).alloc (.cells #[.int .i64 ((j : Int) + 1), .int .i64 q, .int .i64 ep, .slice none 0 0] 39)) = W at *
  clear hWW
  refine HED.out.mono ?_
  rintro e w1 ⟨v1, c1, rfl, hown1, hb1⟩
  have hz1 := hb1.size
  have HB1 : Hid (Below p w w1) := HB0.out.trans (hb1.mono (by omega))
  have HI1 := Lib.hid (own_ints hown1 rfl)
  have HLT : Hid (∀ b, (Value.slice v1 S.length c1).ownBlock = some b → p + 4 ≤ b) := fun b hb => by have := (hown1.lt b hb).1; omega
  have HJ0 := Lib.hid ((hb1.block p (by omega)).trans HK0.out)
  have HJ1 := Lib.hid ((hb1.block (p + 1) (by omega)).trans HK1.out)
  have HJ2 := Lib.hid ((hb1.block (p + 1 + 1) (by omega)).trans HK2.out)
  have HJ3 := Lib.hid ((hb1.block (p + 1 + 1 + 1) (by omega)).trans HK3.out)
  obtain ⟨⟨y2, y3⟩, _⟩ := two_cells HJ1.out
  clear hown1 hb1 HED z0 z1 z2 z3 HB0 HK0 HK1 HK2 HK3
  go_wp2_with fail
  refine (HINR.out w1 HB1.out).mono ?_
  rintro e wq ⟨gi, rfl, hgi, hTI, hbq⟩
  have hzq := hbq.size
  have hgl := hTI.lt
  have HBq : Hid (Below p w wq) := HB1.out.trans (hbq.mono (by omega))
  have HIq := Lib.hid (HI1.out.on hbq)
  have HTq : Hid (TbV wq gi n 4 (boV (inC L q))) := hTI
  have HL0 := Lib.hid ((hbq.block p (by omega)).trans HJ0.out)
  have HL2 := Lib.hid ((hbq.block (p + 1 + 1) (by omega)).trans HJ2.out)
  have HL3 := Lib.hid ((hbq.block (p + 1 + 1 + 1) (by omega)).trans HJ3.out)
  obtain ⟨iy, oy, hiy⟩ := HIq.out.get
  rw [ints_len] at hiy
  have HIY := Lib.hid hiy
  obtain ⟨m, HM⟩ := named S.length
  rw [HM.out] at hS8 HIY HSB
  have hw4 : p + 4 ≤ w1.heap.size := by omega
  clear hTI hbq HI1 HJ0 HJ1 HJ2 HJ3 y2 y3 HINR HB1 HIq hiy
  generalize hQ : wq.heap.size = Q at *
  rw [HM.out]
  go_wp2_with fail
  go_loopw [14] (fun u wr => ∃ (k : Nat) (av : Option Addr) (cv : Nat) (G : List Int), k ≤ m ∧ u = .int .i64 k ∧ Hid (rgK l (inC L q) S k = G) ∧ Hid (wr.ownsRow Q 47 1 (.slice av G.length cv) G.length (cellsU G)) ∧ Hid (wr.heap[p + 1 + 1 + 1]? = some (.cells #[.int .i64 ((j : Int) + 1), .int .i64 q, .int .i64 ep, (.slice av G.length cv)] 39)) ∧ Hid (∀ b, b < Q → b ≠ p + 1 + 1 + 1 → wr.heap[b]? = wq.heap[b]?) ∧ Hid (∀ i, i < k → N5.IsD (l.map toN) (inC L q) (S.getD i 0) (dG l (inC L q) (S.getD i 0))) ∧ Hid (Q ≤ wr.heap.size) ∧ Hid (Below p w wr)) (fun u _ => m - (intOf u).toNat)
  case atStart => exact ⟨0, none, 0, [], Nat.zero_le _, rfl, by show _ = _; simp [rgK], World.ownsRow_nil _ _ _ _, HL3, fun _ _ _ => rfl, fun i hi => absurd hi (by omega), by show _ ≤ _; omega, HBq⟩
  case round =>
    obtain ⟨k, av, cv, G, hk, rfl, HG, HOW, HMR, HEQ, HDD, HZR, HBR⟩ := hrel
    by_cases hlk : k < m
    · have hlk' : (k : Int) < m := by omega
      have hk0 : (0 : Int) ≤ k := by omega
      obtain ⟨rfl, hyl, hyat⟩ := HIY.out (by omega)
      have hzr := HZR.out
      have hiy4 : p + 4 ≤ iy := HLT.out iy rfl
      have s0 : wr.cell? ⟨iy, oy + k, none⟩ = some (.int .i64 (S.getD k 0 : Nat)) := by
        have h2 := hyat k hlk
        rw [ints_getD (by rw [HM.out]; exact hlk)] at h2
        exact (World.cell?_of_block (a := ⟨iy, oy + k, none⟩) (HEQ.out iy (by omega) (by omega))).trans h2
      have hsn := HSB.out k hlk
      have HSU := Lib.hid (rgK_succ (l := l) (ok := inC L q) (S := S) (k := k) (by rw [HM.out]; exact hlk))
      rw [HM.out] at HSU
      have hkm : k * m + m ≤ 1048576 := by
        have h1 : (k + 1) * m ≤ 1024 * 1024 := Nat.mul_le_mul (by omega) hS8
        rw [Nat.succ_mul] at h1
        omega
      have hGL : G.length ≤ k * m := by
        rw [← HG.out]
        have h1 := rgK_len l (inC L q) S k
        rw [HM.out] at h1
        exact h1
      obtain ⟨km, HKM⟩ := named (k * m)
      rw [HKM.out] at hkm hGL
      obtain ⟨s, HSS0⟩ := named (S.getD k 0)
      rw [HSS0.out] at s0 hsn HSU
      have hP0 := (HEQ.out p (by omega) (by omega)).trans HL0.out
      obtain ⟨⟨q0, q1⟩, _⟩ := two_cells hP0
      have HTW : Hid (TbV wr gi n 4 (boV (inC L q))) := HTq.out.same (HEQ.out gi (by omega) (by omega))
      have HDS : Hid (Calls Tryz.prog 71 #[.agg #[.int .i64 n, .slice a l.length cap], .int .i64 s, .slice (some ⟨gi, 0, none⟩) n n] wr.drew fun e w' => ∃ bf, e = .returned (.slice (some ⟨bf, 0, none⟩) n n) ∧ wr.heap.size ≤ bf ∧ TbV w' bf n 47 (fun v => .int .u64 (dG l (inC L q) s v)) ∧ N5.IsD (l.map toN) (inC L q) s (dG l (inC L q) s) ∧ Below wr.heap.size wr w') := by
        have hbd : Below wr.heap.size wr wr.drew := (Below.refl _ _).drew
        refine (dists_B n a l cap s gi (inC L q) wr.drew HWG.out hsn ((HRA.out.on (hp ▸ HBR.out)).on hbd) (HTW.out.same rfl)).mono (fun e w' h => ?_)
        obtain ⟨bf, e1, h1, h2, h3, h4⟩ := h
        exact ⟨bf, e1, h1, h2, h3, hbd.trans h4⟩
      have HQ0 := Lib.hid q0
      have HQ1 := Lib.hid q1
      have HS0 := Lib.hid s0
      go_wp2_with fail
      go_region_held3 (fun w' => w'.cell? ⟨p, 0, none⟩ = some (.int .i64 n) ∧ w'.cell? ⟨p, 1, none⟩ = some (.slice a l.length cap) ∧ w'.cell? ⟨iy, oy + k, none⟩ = some (.int .i64 s)) (go_keep) ((go_at_call 71; refine HDS.out.mono ?_; rintro e w6 ⟨bf, rfl, hbf, hT6, hD6, hb6⟩; have v0 := (hb6.cell (p := ⟨p, 0, none⟩) (by show p < _; omega)).trans HQ0.out; have v1' := (hb6.cell (p := ⟨p, 1, none⟩) (by show p < _; omega)).trans HQ1.out; have v2 := (hb6.cell (p := ⟨iy, oy + k, none⟩) (by show iy < _; omega)).trans HS0.out; have HB6 := Lib.hid hb6; have HT6 := Lib.hid hT6; have HD6 := Lib.hid hD6; clear hb6 hT6 hD6))
      have HO6 := Lib.hid (own_on HOW.out HB6.out)
      have HN6 : Hid ((Value.slice av G.length cv).ownBlock ≠ some bf) := fun h => by have := (HOW.out.lt bf h).2; omega
      have HM6 : Hid (w6.heap[p + 1 + 1 + 1]? = some (.cells #[.int .i64 ((j : Int) + 1), .int .i64 q, .int .i64 ep, (.slice av G.length cv)] 39)) := (HB6.out.block (p + 1 + 1 + 1) (by omega)).trans HMR.out
      have HE6 : Hid (∀ b, b < Q → b ≠ p + 1 + 1 + 1 → w6.heap[b]? = wq.heap[b]?) := fun b h1 h2 => (HB6.out.block b (by omega)).trans (HEQ.out b h1 h2)
      have HZ6 : Hid (Q ≤ w6.heap.size) := by have := HB6.out.size; show _ ≤ _; omega
      have HP6 : Hid (Below p w w6) := HBR.out.trans (HB6.out.mono (by have := HBR.out.size; omega))
      have hbf3 : bf ≠ p + 1 + 1 + 1 := by omega
      clear HDS HQ0 HQ1 HS0 v0 v1' v2 q0 q1 s0 hP0 HTW HB6 HOW HMR HEQ HBR
      have HG0 := HG
      generalize hGG : G = G0 at *
      clear hGG
      have hbq1 : wr.heap.size ≤ bf := hbf
      generalize wr.heap.size = qr at *
      go_wp2_with fail
      go_loopw [16] (fun u wr => ∃ (t : Nat) (av : Option Addr) (cv : Nat) (G : List Int), t ≤ m ∧ u = .int .i64 t ∧ G.length ≤ km + t ∧ Hid (G0 ++ (S.take t).map (dG l (inC L q) s) = G) ∧ Hid (wr.ownsRow Q 47 1 (.slice av G.length cv) G.length (cellsU G)) ∧ Hid ((Value.slice av G.length cv).ownBlock ≠ some bf) ∧ Hid (TbV wr bf n 47 (fun v => .int .u64 (dG l (inC L q) s v))) ∧ Hid (wr.heap[p + 1 + 1 + 1]? = some (.cells #[.int .i64 ((j : Int) + 1), .int .i64 q, .int .i64 ep, (.slice av G.length cv)] 39)) ∧ Hid (∀ b, b < Q → b ≠ p + 1 + 1 + 1 → wr.heap[b]? = wq.heap[b]?) ∧ Hid (Q ≤ wr.heap.size) ∧ Hid (Below p w wr)) (fun u _ => m - (intOf u).toNat)
      case atStart => exact ⟨0, av, cv, G0, Nat.zero_le _, rfl, by omega, by show _ = _; simp, HO6, HN6, HT6, HM6, HE6, HZ6, HP6⟩
      case round =>
        clear HO6 HN6 HT6 HM6 HE6 HZ6 HP6
        obtain ⟨t, av, cv, G, ht, rfl, hGL2, HG, HOW, HNd, HTd0, HMd0, HEQ, HZR, HBR⟩ := hrel
        have hzr := HZR.out
        by_cases hlt : t < m
        · have hlt' : (t : Int) < m := by omega
          have ht0 : (0 : Int) ≤ t := by omega
          have z0' := hyat t hlt
          rw [ints_getD (by rw [HM.out]; exact hlt)] at z0'
          have htn := HSB.out t hlt
          have HMS := Lib.hid (map_snoc (f := dG l (inC L q) s) (S := S) (t := t) (by rw [HM.out]; exact hlt))
          obtain ⟨x, HX⟩ := named (S.getD t 0)
          rw [HX.out] at z0' htn HMS
          obtain ⟨y, HY⟩ := named (dG l (inC L q) s x)
          rw [HY.out] at HMS
          have HG2 : Hid (G0 ++ (S.take (t + 1)).map (dG l (inC L q) s) = G ++ [y]) := by show _ = _; rw [HMS.out, ← HG.out, List.append_assoc]
          have HSS : Hid (∀ w' : World, (∀ b, b < Q → b ≠ p + 1 + 1 + 1 → w'.heap[b]? = wq.heap[b]?) → TbV w' bf n 47 (fun v => .int .u64 (dG l (inC L q) s v)) → w'.heap[p + 1 + 1 + 1]? = some (.cells #[.int .i64 ((j : Int) + 1), .int .i64 q, .int .i64 ep, (.slice av G.length cv)] 39) → w'.cell? ⟨p + 1 + 1 + 1, 3, none⟩ = some (.slice av G.length cv) ∧ w'.cell? ⟨iy, oy + t, none⟩ = some (.int .i64 x) ∧ w'.cell? ⟨bf, x, none⟩ = some (.int .u64 y)) := fun w' h1 h2 h3 => by
            refine ⟨(four_cells h3).1.2.2.2, (World.cell?_of_block (a := ⟨iy, oy + t, none⟩) (h1 iy (by omega) (by omega))).trans z0', ?_⟩
            have h4 := h2.cell htn
            rw [HY.out] at h4
            exact h4
          have HEQd : Hid (∀ b, b < Q → b ≠ p + 1 + 1 + 1 → wr.drew.heap[b]? = wq.heap[b]?) := HEQ.out
          have HTd : Hid (TbV wr.drew bf n 47 (fun v => .int .u64 (dG l (inC L q) s v))) := HTd0.out
          have HMd : Hid (wr.drew.heap[p + 1 + 1 + 1]? = some (.cells #[.int .i64 ((j : Int) + 1), .int .i64 q, .int .i64 ep, (.slice av G.length cv)] 39)) := HMd0.out
          have HOd : Hid (wr.drew.ownsRow Q 47 1 (.slice av G.length cv) G.length (cellsU G)) := HOW.out
          have HZd : Hid (Q ≤ wr.drew.heap.size) := HZR.out
          have HBd : Hid (Below p w wr.drew) := HBR.out.drew
          have hx' : (x : Int) < n := by omega
          have hx0 : (0 : Int) ≤ x := by omega
          clear z0' HEQ HTd0 HMd0 HOW HZR HBR
          go_wp2_with fail
          refine wp_region_last (S := fun w' => w'.cell? ⟨p + 1 + 1 + 1, 3, none⟩ = some (.slice av G.length cv) ∧ w'.cell? ⟨iy, oy + t, none⟩ = some (.int .i64 x) ∧ w'.cell? ⟨bf, x, none⟩ = some (.int .u64 y)) 12 _ (by kernel_rfl) (by kernel_rfl) rfl _ rfl ?_ (fun hHeld => ?_)
          · exact HSS.out _ HEQd.out HTd.out HMd.out
          simp only [idled, List.modify_toArray, List.modify_succ_cons, List.modify_zero_cons, idle, List.size_toArray, List.length_cons, List.length_nil]
          generalize wr.drew = Wd at *
          refine wpAnyH_take (i := 0) (v := ?_) rfl (by kernel_rfl) (by decide +kernel) (by decide +kernel) (fun _ _ _ h => h) (Or.inl ⟨by rfl, ?_⟩) (by assumption) ?_
          rotate_left
          · intro w hSw
            (try dsimp only at hSw)
            go_simp
            (try with_reducible rfl)
          try simp only [Act.put, List.getElem_toArray, List.getElem_cons_zero, List.setIfInBounds_toArray, List.set_cons_zero, List.set_cons_succ]
          refine wpAnyH_take (i := 1) (v := ?_) rfl (by kernel_rfl) (by decide +kernel) (by decide +kernel) (fun _ _ _ h => h) (Or.inl ⟨by rfl, ?_⟩) (by assumption) ?_
          rotate_left
          · intro w hSw
            (try dsimp only at hSw)
            go_simp
            (try with_reducible rfl)
          try simp only [Act.put, List.getElem_toArray, List.getElem_cons_zero, List.getElem_cons_succ, List.setIfInBounds_toArray, List.set_cons_zero, List.set_cons_succ]
          refine wpAnyH_take (i := 2) (v := ?_) rfl (by kernel_rfl) (by decide +kernel) (by decide +kernel) (fun _ _ _ h => h) (Or.inl ⟨by rfl, ?_⟩) (by assumption) ?_
          rotate_left
          · intro w hSw
            (try dsimp only at hSw)
            go_simp
            (try with_reducible rfl)
          try simp only [Act.put, List.getElem_toArray, List.getElem_cons_zero, List.getElem_cons_succ, List.setIfInBounds_toArray, List.set_cons_zero, List.set_cons_succ]
          refine wpAnyH_take (i := 3) (v := ?_) rfl (by kernel_rfl) (by decide +kernel) (by decide +kernel) (fun _ _ _ h => h) (Or.inl ⟨by rfl, ?_⟩) (by assumption) ?_
          rotate_left
          · intro w hSw
            (try dsimp only at hSw)
            go_simp
            (try with_reducible rfl)
          try simp only [Act.put, List.getElem_toArray, List.getElem_cons_zero, List.getElem_cons_succ, List.setIfInBounds_toArray, List.set_cons_zero, List.set_cons_succ]
          refine wpAnyH_take (i := 4) (v := ?_) rfl (by kernel_rfl) (by decide +kernel) (by decide +kernel) (fun _ _ _ h => h) (Or.inl ⟨by rfl, ?_⟩) (by assumption) ?_
          rotate_left
          · intro w hSw
            (try dsimp only at hSw)
            go_simp
            (try with_reducible rfl)
          try simp only [Act.put, List.getElem_toArray, List.getElem_cons_zero, List.getElem_cons_succ, List.setIfInBounds_toArray, List.set_cons_zero, List.set_cons_succ]
          refine wpAnyH_take (i := 5) (v := ?_) rfl (by kernel_rfl) (by decide +kernel) (by decide +kernel) (fun _ _ _ h => h) (Or.inl ⟨by rfl, ?_⟩) (by assumption) ?_
          rotate_left
          · intro w hSw
            (try dsimp only at hSw)
            go_simp
            (try with_reducible rfl)
          try simp only [Act.put, List.getElem_toArray, List.getElem_cons_zero, List.getElem_cons_succ, List.setIfInBounds_toArray, List.set_cons_zero, List.set_cons_succ]
          refine wpAnyH_take (i := 6) (v := ?_) rfl (by kernel_rfl) (by decide +kernel) (by decide +kernel) (fun _ _ _ h => h) (Or.inl ⟨by rfl, ?_⟩) (by assumption) ?_
          rotate_left
          · intro w hSw
            (try dsimp only at hSw)
            go_simp
            (try with_reducible rfl)
          try simp only [Act.put, List.getElem_toArray, List.getElem_cons_zero, List.getElem_cons_succ, List.setIfInBounds_toArray, List.set_cons_zero, List.set_cons_succ]
          refine wpAnyH_take (i := 7) (v := ?_) rfl (by kernel_rfl) (by decide +kernel) (by decide +kernel) (fun _ _ _ h => h) (Or.inl ⟨by rfl, ?_⟩) (by assumption) ?_
          rotate_left
          · intro w hSw
            (try dsimp only at hSw)
            go_simp
            (try with_reducible rfl)
          try simp only [Act.put, List.getElem_toArray, List.getElem_cons_zero, List.getElem_cons_succ, List.setIfInBounds_toArray, List.set_cons_zero, List.set_cons_succ]
          refine wpAnyH_take (i := 8) (v := ?_) rfl (by kernel_rfl) (by decide +kernel) (by decide +kernel) (fun _ _ _ h => h) (Or.inl ⟨by rfl, ?_⟩) (by assumption) ?_
          rotate_left
          · intro w hSw
            (try dsimp only at hSw)
            go_simp
            (try with_reducible rfl)
          try simp only [Act.put, List.getElem_toArray, List.getElem_cons_zero, List.getElem_cons_succ, List.setIfInBounds_toArray, List.set_cons_zero, List.set_cons_succ]
          have hzd := HZd.out
          have HNW : Hid (∀ j u, [Value.int .u64 y][j]? = some u → (Wd.alloc (.cells #[.int .u64 y] 47)).cell? ((⟨Wd.heap.size, 0, none⟩ : Addr).add j) = some u) := by
            intro j u hu
            match j, hu with
            | 0, hu => simp at hu; subst hu; simp [Addr.add]
          have HOA := Lib.hid (HOd.out.alloc (.cells #[.int .u64 y] 47))
          have HEQa : Hid (∀ b, b < Q → b ≠ p + 1 + 1 + 1 → (Wd.alloc (.cells #[.int .u64 y] 47)).heap[b]? = wq.heap[b]?) := fun b h1 h2 => (Below.heap_alloc _ _ _ (by omega)).trans (HEQd.out b h1 h2)
          have HTa : Hid (TbV (Wd.alloc (.cells #[.int .u64 y] 47)) bf n 47 (fun v => .int .u64 (dG l (inC L q) s v))) := HTd.out.same (Below.heap_alloc _ _ _ HTd.out.lt)
          have HMa : Hid ((Wd.alloc (.cells #[.int .u64 y] 47)).heap[p + 1 + 1 + 1]? = some (.cells #[.int .i64 ((j : Int) + 1), .int .i64 q, .int .i64 ep, (.slice av G.length cv)] 39)) := (Below.heap_alloc _ _ _ (by omega)).trans HMd.out
          have HBa : Hid (Below p w (Wd.alloc (.cells #[.int .u64 y] 47))) := HBd.out.alloc (by omega) _
          have hza : (Wd.alloc (.cells #[.int .u64 y] 47)).heap.size = Wd.heap.size + 1 := by simp
          refine wpAnyH_ready (rs := [9]) (by kernel_rfl) (by simp) ?_
          refine AllReadyH.cons rfl (fun K hK => ?_) AllReadyH.nil
          go_simp
          refine hK.out _ _ ?_ (fun hHeld2 => ?_)
          · exact HSS.out _ HEQa.out HTa.out HMa.out
          clear hK K
          try simp only [Act.put, List.getElem_toArray, List.getElem_cons_zero, List.getElem_cons_succ, List.setIfInBounds_toArray, List.set_cons_zero, List.set_cons_succ]
          refine wpAnyH_ready (rs := [10]) (by kernel_rfl) (by simp) ?_
          refine AllReadyH.cons rfl (fun K hK => ?_) AllReadyH.nil
          rw [if_pos (by rfl)]
          refine wp_append_new (.tmp 50) (.tmp 58) 37 rfl Q 47 i75 (.int .u64 0) 1 8 Tryz.underlying37 hi75 hz75 hs75 hby75 rfl (by decide) (.slice av G.length cv) G.length (cellsU G) rfl HOA.out ⟨Wd.heap.size, 0, none⟩ 1 1 [.int .u64 y] rfl rfl HNW.out (by intro u hu; simp at hu; subst hu; rfl) (by unfold maxLen; omega) (by omega) (by omega) (by decide) ?_
          intro v5 w6 hown5 hgrow5 hnew5
          obtain ⟨g5, c5, hv5, _, _, _, _⟩ := own_shape hown5 (own_ne hown5 (by omega))
          rw [hv5] at hown5 hnew5 ⊢
          have HG5 : Hid (g5 ≠ bf) := by
            show _ ≠ _
            rcases hnew5 with h | h
            · intro e
              subst e
              exact HNd.out (h.symm.trans rfl)
            · have h2 : g5 = (Wd.alloc (.cells #[.int .u64 y] 47)).heap.size := Option.some.inj h
              have := HTd.out.lt
              omega
          have hrow : ∀ b, b < Q → some b ≠ (Value.slice av G.length cv).ownBlock := fun b hb h => by have := (HOA.out.lt b h.symm).1; omega
          have HEQ5 : Hid (∀ b, b < Q → b ≠ p + 1 + 1 + 1 → w6.heap[b]? = wq.heap[b]?) := fun b h1 h2 => (hgrow5.block b (by omega) (hrow b h1)).trans (HEQa.out b h1 h2)
          have HT5 : Hid (TbV w6 bf n 47 (fun v => .int .u64 (dG l (inC L q) s v))) := HTa.out.same (hgrow5.block bf HTa.out.lt (fun h => HNd.out h.symm))
          have HM5 : Hid (w6.heap[p + 1 + 1 + 1]? = some (.cells #[.int .i64 ((j : Int) + 1), .int .i64 q, .int .i64 ep, (.slice av G.length cv)] 39)) := (hgrow5.block (p + 1 + 1 + 1) (by omega) (hrow (p + 1 + 1 + 1) (by omega))).trans HMa.out
          have HB5 : Hid (Below p w w6) := HBa.out.grown hgrow5 (by have := HBa.out.size; omega) (fun j hj => by have := (HOA.out.lt j hj).1; omega)
          have h7 : w6.ownsRow Q 47 1 (.slice (some ⟨g5, 0, none⟩) (G ++ [y]).length c5) (G ++ [y]).length (cellsU (G ++ [y])) := by
            rw [cellsU_snoc] at hown5
            rw [List.length_append]
            exact hown5
          have HO5 := Lib.hid h7
          have hz6 : Q ≤ w6.heap.size := by have := hgrow5.size; omega
          refine hK.out _ _ ?_ (fun hHeld3 => ?_)
          · exact HSS.out _ HEQ5.out HT5.out HM5.out
          clear hK K hown5 hgrow5 hv5 h7 hnew5 hrow
          try simp only [Act.put, List.getElem_toArray, List.getElem_cons_zero, List.getElem_cons_succ, List.setIfInBounds_toArray, List.set_cons_zero, List.set_cons_succ]
          refine wpAnyH_take (i := 11) (v := ?_) rfl (by kernel_rfl) (by decide +kernel) (by decide +kernel) (fun _ _ _ h => h) (Or.inl ⟨by rfl, ?_⟩) (by assumption) ?_
          rotate_left
          · intro w hSw
            (try dsimp only at hSw)
            go_simp
            (try with_reducible rfl)
          try simp only [Act.put, List.getElem_toArray, List.getElem_cons_zero, List.getElem_cons_succ, List.setIfInBounds_toArray, List.set_cons_zero, List.set_cons_succ]
          refine wpAnyH_take (i := 12) (v := ?_) rfl (by kernel_rfl) (by decide +kernel) (by decide +kernel) (fun _ _ _ h => h) (Or.inl ⟨by rfl, ?_⟩) (by assumption) ?_
          rotate_left
          · intro w hSw
            (try dsimp only at hSw)
            go_simp
            (try with_reducible rfl)
          try simp only [Act.put]
          refine wpAnyH_done (by kernel_rfl) ?_ _
          simp only [lastQ]
          obtain ⟨⟨z0, z1, z2, z3⟩, zf0, zf1, zf2, zf3⟩ := four_cells HM5.out
          go_simp
          clear hHeld hHeld2 hHeld3
          have HEN : Hid (∀ b, b < Q → b ≠ p + 1 + 1 + 1 → (w6.setCell ⟨p + 1 + 1 + 1, 3, none⟩ (.slice (some ⟨g5, 0, none⟩) (G.length + 1) c5)).heap[b]? = wq.heap[b]?) := fun b h1 h2 => (Below.heap_setCell w6 ⟨p + 1 + 1 + 1, 3, none⟩ _ b h2).trans (HEQ5.out b h1 h2)
          have HTN : Hid (TbV (w6.setCell ⟨p + 1 + 1 + 1, 3, none⟩ (.slice (some ⟨g5, 0, none⟩) (G.length + 1) c5)) bf n 47 (fun v => .int .u64 (dG l (inC L q) s v))) := HT5.out.same (Below.heap_setCell w6 ⟨p + 1 + 1 + 1, 3, none⟩ _ bf (by show bf ≠ p + 1 + 1 + 1; omega))
          have HMN : Hid ((w6.setCell ⟨p + 1 + 1 + 1, 3, none⟩ (.slice (some ⟨g5, 0, none⟩) (G.length + 1) c5)).heap[p + 1 + 1 + 1]? = some (.cells #[.int .i64 ((j : Int) + 1), .int .i64 q, .int .i64 ep, (.slice (some ⟨g5, 0, none⟩) (G ++ [y]).length c5)] 39)) := (heap_setCell_same w6 (p + 1 + 1 + 1) 3 _ _ (.slice (some ⟨g5, 0, none⟩) (G.length + 1) c5) HM5.out).trans (by simp)
          have HBN : Hid (Below p w (w6.setCell ⟨p + 1 + 1 + 1, 3, none⟩ (.slice (some ⟨g5, 0, none⟩) (G.length + 1) c5))) := HB5.out.setCell (p := ⟨p + 1 + 1 + 1, 3, none⟩) (by show p ≤ p + 1 + 1 + 1; omega) _
          have HON : Hid ((w6.setCell ⟨p + 1 + 1 + 1, 3, none⟩ (.slice (some ⟨g5, 0, none⟩) (G.length + 1) c5)).ownsRow Q 47 1 (.slice (some ⟨g5, 0, none⟩) (G ++ [y]).length c5) (G ++ [y]).length (cellsU (G ++ [y]))) := own_set HO5.out ⟨p + 1 + 1 + 1, 3, none⟩ _ (show p + 1 + 1 + 1 < Q by omega)
          have HNN : Hid ((Value.slice (some ⟨g5, 0, none⟩) (G ++ [y]).length c5).ownBlock ≠ some bf) := fun h => HG5.out (Option.some.inj h)
          have HZN : Hid (Q ≤ (w6.setCell ⟨p + 1 + 1 + 1, 3, none⟩ (.slice (some ⟨g5, 0, none⟩) (G.length + 1) c5)).heap.size) := by show _ ≤ _; simpa using hz6
          go_wp2_with fail
          exact ⟨⟨t + 1, some ⟨g5, 0, none⟩, c5, G ++ [y], by omega, by simp, by rw [List.length_append]; simp; omega, HG2, HON, HNN, HTN, HMN, HEN, HZN, HBN⟩, by simp [intOf]; omega⟩
        · have hlt' : ¬ (t : Int) < m := by omega
          obtain rfl : t = m := by omega
          have HG3 : Hid (rgK l (inC L q) S (k + 1) = G) := by show _ = _; rw [HSU.out, HG0.out, HG.out]
          have HD4 : Hid (∀ i, i < k + 1 → N5.IsD (l.map toN) (inC L q) (S.getD i 0) (dG l (inC L q) (S.getD i 0))) := fun i hi => by
            by_cases h : i < k
            · exact HDD.out i h
            · have e : i = k := by omega
              rw [e, HSS0.out]
              exact HD6.out
          go_wp2_with fail
          exact ⟨⟨k + 1, av, cv, G, by omega, by simp, HG3, HOW, HMd0, HEQ, HD4, HZR, HBR⟩, by simp [intOf]; omega⟩
    · have hlk' : ¬ (k : Int) < m := by omega
      obtain rfl : k = m := by omega
      have HGF : Hid (rgL l (inC L q) S = G) := by show _ = _; unfold rgL; rw [HM.out]; exact HG.out
      obtain ⟨⟨e0, e1, e2, e3⟩, _⟩ := four_cells HMR.out
      have hzr := HZR.out
      have hR2 := (HEQ.out (p + 1 + 1) (by omega) (by omega)).trans HL2.out
      obtain ⟨⟨d0, d1, d2, d3⟩, f0, f1, f2, f3⟩ := four_cells hR2
      have HR4 := Lib.hid (four_cells (set4 hR2 (.int .i64 ((j : Int) + 1)) (.int .i64 q) (.int .i64 ep) (.slice av G.length cv))).1
      have HO4 := Lib.hid (own_base (own_set4 HOW.out (show p + 1 + 1 < Q by omega) (.int .i64 ((j : Int) + 1)) (.int .i64 q) (.int .i64 ep) (.slice av G.length cv)) (show p ≤ Q by omega))
      have HB4 := Lib.hid (below_set4 HBR.out (show p ≤ p + 1 + 1 by omega) (.int .i64 ((j : Int) + 1)) (.int .i64 q) (.int .i64 ep) (.slice av G.length cv))
      clear hR2
      go_wp2_with fail
      obtain ⟨r0, r1, r2, r3⟩ := HR4.out
      rw [HGF.out, HM.out]
      refine bodyPost_ret (v := .agg #[.int .i64 ((j : Int) + 1), .int .i64 q, .int .i64 ep, (.slice av G.length cv)]) (by simp [results, Tryz.results36, go_sem, r0, r1, r2, r3]) rfl ?_
      exact ⟨_, _, rfl, HO4.out, HDD.out, HB4.out⟩
end Go.Proofs.YtpmjbeiclmllmaaGreat
namespace Go.Proofs.YtpmjbeiclmllmaaGreat
open Go.RowKit
theorem any_idx (l : List A) (P : A → Bool) : l.any P = (List.range l.length).any (fun i => P (l.getD i A.zero)) := by
  rw [Bool.eq_iff_iff, List.any_eq_true, List.any_eq_true]
  constructor
  · rintro ⟨x, hx, hp⟩
    obtain ⟨i, hi, rfl⟩ := List.getElem_of_mem hx
    exact ⟨i, by simpa using hi, by simpa [List.getD, hi] using hp⟩
  · rintro ⟨i, hi, hp⟩
    have hi' : i < l.length := by simpa using hi
    exact ⟨l[i], List.getElem_mem hi', by simpa [List.getD, hi'] using hp⟩
theorem bdL_rw (n : Nat) (L : List Int) (l : List A) (ids : List Nat) (ws : List Int) (q : Int) : bdL n L (rwL l ids ws) q = bdL n L l q := by
  unfold bdL
  refine cho_congr (fun v _ => ?_)
  unfold bdP crs
  rw [List.take_length, List.take_length, any_idx, any_idx, rwL_len]
  congr 1
  have h : ∀ i, i ∈ List.range l.length → (fun i => prt L ((rwL l ids ws).getD i A.zero) && (decide (((rwL l ids ws).getD i A.zero).f.toNat = v) || decide (((rwL l ids ws).getD i A.zero).t.toNat = v))) i = (fun i => prt L (l.getD i A.zero) && (decide ((l.getD i A.zero).f.toNat = v) || decide ((l.getD i A.zero).t.toNat = v))) i := fun i hi => by
    have hi' : i < l.length := by simpa using hi
    obtain ⟨e1, e2⟩ := rwA_ends l ids ws i
    simp only [rwL_at hi', prt, e1, e2]
  rw [Bool.eq_iff_iff, List.any_eq_true, List.any_eq_true]
  constructor
  · rintro ⟨i, hi, hp⟩
    have h3 := h i hi
    dsimp only at h3
    exact ⟨i, hi, by rw [← h3]; exact hp⟩
  · rintro ⟨i, hi, hp⟩
    have h3 := h i hi
    dsimp only at h3
    exact ⟨i, hi, by rw [h3]; exact hp⟩
theorem flat_congr {S T : List Nat} {f g : Nat → Nat → Int} (h : ∀ s, s ∈ T → f s = g s) : T.flatMap (fun s => S.map (f s)) = T.flatMap (fun s => S.map (g s)) := by
  induction T with
  | nil => rfl
  | cons x r ih =>
    rw [List.flatMap_cons, List.flatMap_cons, h x (by simp), ih (fun s hs => h s (by simp [hs]))]
/-- The reference's matrix is the program's. -/
theorem rg_mx {n : Nat} {l : List A} {L : List Int} {q : Int} {ids : List Nat} {ws : List Int} {S : List Nat} (hids : ids = arL l (hld L q)) (hS : S = bdL n L l q) (hD : ∀ i, i < S.length → N5.IsD ((rwL l ids ws).map toN) (inC L q) (S.getD i 0) (dG (rwL l ids ws) (inC L q) (S.getD i 0))) : rgL (rwL l ids ws) (inC L q) S = mxL (wgL l ids ws) S := by
  unfold rgL mxL rgK mxK
  rw [List.take_length]
  refine flat_congr (fun s hs => ?_)
  obtain ⟨i, hi, he⟩ := List.getElem_of_mem hs
  have e : S.getD i 0 = s := by simp [List.getD, hi, he]
  have h := hD i hi
  rw [e] at h
  refine rw_dF hids ?_ h
  rw [hS] at hs
  have h2 := (cho_mem.1 hs).2
  unfold bdP at h2
  unfold inC
  rw [Bool.and_eq_true] at h2
  exact h2.1
set_option maxRecDepth 100000 in
set_option maxHeartbeats 3200000 in
theorem rleaf_any (N : Int) (a : Option Addr) (l : List A) (cap : Nat) (ba : Option Addr) (bs : List Int) (bc : Nat) (ca : Option Addr) (C : List Cl) (cc : Nat) (ce ep : Int) (wa : Option Addr) (ws : List Int) (wk : Nat) (w : World) (hna : a = none → l = [] ∧ cap = 0) (hwt : ∀ x ∈ l, 0 ≤ x.w ∧ x.w < 4294967296) (hl : l.length ≤ 9223372036854775807) (hbl : bs.length ≤ 9223372036854775807) (hr : Arcs w a l) (hi : Ints w ba bs) (hR : Rws w ca C) (hW : Wts w wa ws) (hws : ∀ i, i < ws.length → 0 ≤ ws.getD i 0 ∧ ws.getD i 0 < 4294967296) :
    Calls Tryz.prog 11 #[.agg #[.int .i64 N, .slice a l.length cap], .agg #[.slice ba bs.length bc, .slice ca C.length cc], .int .i64 ce, .int .i64 ep, .slice wa ws.length wk] w fun e w' => ((byE N l bs (csl C) 1 ce ep ws.length) = 0 → (∃ v c, e = .returned (.tuple #[.agg #[.int .i64 1, .int .i64 ce, .int .i64 ep, .slice v (mxL (wgL l (inV N l bs (csl C) 1 ce) ws) (bdV N l bs (csl C) 1 ce)).length c], .int .i64 0]) ∧ w'.ownsRow w.heap.size 47 1 (.slice v (mxL (wgL l (inV N l bs (csl C) 1 ce) ws) (bdV N l bs (csl C) 1 ce)).length c) (mxL (wgL l (inV N l bs (csl C) 1 ce) ws) (bdV N l bs (csl C) 1 ce)).length (cellsU (mxL (wgL l (inV N l bs (csl C) 1 ce) ws) (bdV N l bs (csl C) 1 ce))))) ∧ ((byE N l bs (csl C) 1 ce ep ws.length) ≠ 0 → e = .returned (.tuple #[.agg #[.int .i64 0, .int .i64 0, .int .i64 0, .slice none 0 0], .int .i64 (byE N l bs (csl C) 1 ce ep ws.length)])) ∧ Below w.heap.size w w' := by
  obtain ⟨hg0, hg1, hg2, hb0, hsz⟩ := top3 w (.cells #[.int .i64 N, .slice a l.length cap] 24) (.cells #[.slice ba bs.length bc, .slice ca C.length cc] 28) (.cells #[.int .i64 0, .int .i64 0, .int .i64 0, .slice none 0 0] 39)
  obtain ⟨⟨a0, a1⟩, _⟩ := two_cells hg0
  obtain ⟨⟨a2, a3⟩, _⟩ := two_cells hg1
  have HIN := Lib.hid (rinner_any N a l cap ba bs bc ca C cc 1 ce _ hl hbl (hr.on hb0) (hi.on hb0) (hR.on hb0))
  have HB0 := Lib.hid hb0
  have HG0 := Lib.hid hg0
  have HG1 := Lib.hid hg1
  have HG2 := Lib.hid hg2
  have HRA := Lib.hid hr
  have HRR := Lib.hid hR
  have HWT := Lib.hid hW
  have HWS := Lib.hid hws
  have HNA := Lib.hid hna
  have HWL := Lib.hid hwt
  have HBF := Lib.hid (@by_facts N l bs (csl C) 1 ce)
  have HIF := Lib.hid (@in_facts N l bs C 1 ce)
  have HBDL : (bdV N l bs (csl C) 1 ce).length ≤ 1024 := bd_len
  have HBY : Hid ((byE N l bs (csl C) 1 ce ep ws.length) = if inE N l bs (csl C) 1 ce ≠ 0 then inE N l bs (csl C) 1 ce else jbE ep ws.length (inV N l bs (csl C) 1 ce).length) := rfl
  have HIV : Hid ((inV N l bs (csl C) 1 ce) = if inE N l bs (csl C) 1 ce = 0 then arL l (hld (lvl (csl C) ((1 : Int).toNat - 1)) ce) else []) := rfl
  have HBV : Hid ((bdV N l bs (csl C) 1 ce) = if inE N l bs (csl C) 1 ce = 0 then bdL N.toNat (lvl (csl C) ((1 : Int).toNat - 1)) l ce else []) := rfl
  obtain ⟨E, HE⟩ := named (inE N l bs (csl C) 1 ce)
  obtain ⟨ids, HID⟩ := named (inV N l bs (csl C) 1 ce)
  obtain ⟨S, HS⟩ := named (bdV N l bs (csl C) 1 ce)
  rw [HE.out, HID.out] at HIN
  rw [HE.out, HID.out] at HBY
  rw [HE.out, HID.out, HS.out] at HBF
  rw [HE.out] at HIF
  rw [HE.out, HID.out] at HIV
  rw [HE.out, HS.out] at HBV
  obtain ⟨B, HBB⟩ := named (byE N l bs (csl C) 1 ce ep ws.length)
  rw [HBB.out] at HBY
  rw [HBB.out, HID.out, HS.out]
  obtain ⟨X, HX⟩ := named (mxL (wgL l ids ws) S)
  clear hr hi hR hb0 hg0 hg1 hg2 hW hws HBB hna hwt HBDL
  generalize hp : w.heap.size = p at *
  go_enter Tryz.func11, Tryz.ntmps11
  go_wp2_with fail
  generalize hWW : (((w.alloc (.cells #[.int .i64 N, .slice a l.length cap] 24)).alloc (.cells #[.slice ba bs.length bc, .slice ca C.length cc] 28)).alloc (.cells #[.int .i64 0, .int .i64 0, .int .i64 0, .slice none 0 0] 39)) = W at *
  clear hWW
  refine HIN.out.mono ?_
  rintro e w1 ⟨v1, c1, rfl, hI1, hb1⟩
  have hz1 := hb1.size
  have HB1 : Hid (Below p w w1) := HB0.out.trans (hb1.mono (by omega))
  have HJ0 := Lib.hid ((hb1.block p (by omega)).trans HG0.out)
  have HJ1 := Lib.hid ((hb1.block (p + 1) (by omega)).trans HG1.out)
  have HK1 := Lib.hid ((hb1.block (p + 1 + 1) (by omega)).trans HG2.out)
  have HI1 := Lib.hid hI1
  have hw1 : p + 3 ≤ w1.heap.size := by omega
  clear hI1 hb1 HIN a0 a1 a2 a3 HB0 HG0 HG1 HG2 hz1
  have HR4 : Hid (∀ wr : World, wr.heap[p + 1 + 1]? = some (.cells #[.int .i64 0, .int .i64 0, .int .i64 0, .slice none 0 0] 39) → ((wr.cell? ⟨p + 1 + 1, 0, none⟩ = some (.int .i64 0) ∧ wr.cell? ⟨p + 1 + 1, 1, none⟩ = some (.int .i64 0) ∧ wr.cell? ⟨p + 1 + 1, 2, none⟩ = some (.int .i64 0) ∧ wr.cell? ⟨p + 1 + 1, 3, none⟩ = some (.slice none 0 0)) ∧ (wr.frozen? ⟨p + 1 + 1, 0, none⟩ = false ∧ wr.frozen? ⟨p + 1 + 1, 1, none⟩ = false ∧ wr.frozen? ⟨p + 1 + 1, 2, none⟩ = false ∧ wr.frozen? ⟨p + 1 + 1, 3, none⟩ = false))) := fun wr h => four_cells h
  have HZ4 := Lib.hid (show _ ∧ _ from ⟨set4 HK1.out (.int .i64 0) (.int .i64 0) (.int .i64 0) (.slice none 0 0), below_set4 HB1.out (show p ≤ p + 1 + 1 by omega) (.int .i64 0) (.int .i64 0) (.int .i64 0) (.slice none 0 0)⟩)
  obtain ⟨⟨d0, d1, d2, d3⟩, f0, f1, f2, f3⟩ := HR4.out w1 HK1.out
  have HRZ := Lib.hid (HR4.out _ HZ4.out.1).1
  by_cases h1 : E = 0
  · subst h1
    obtain ⟨n, rfl, hC0, hid, h8, hSn⟩ := HBF.out rfl
    obtain ⟨n', j, hnn, hjj, hx1, hjC, hC5, hLn, hx2, hx3, hx4⟩ := HIF.out rfl
    clear hx1 hx2 hx3 hx4
    obtain rfl : n = n' := by omega
    obtain rfl : j = 0 := by omega
    have HBY : Hid (B = jbE ep ws.length ids.length) := by show _ = _; rw [HBY.out, if_neg (by simp)]
    have HIV : Hid (ids = arL l (hld (cl C 0).xs ce)) := by show _ = _; rw [HIV.out, if_pos rfl]; show arL l (hld (lvl (csl C) 0) ce) = _; rw [csl_at]
    have HBV : Hid (S = bdL n (cl C 0).xs l ce) := by show _ = _; rw [HBV.out, if_pos rfl]; show bdL n (lvl (csl C) 0) l ce = _; rw [csl_at]
    have HEP := Lib.hid (repochs_any ep w1)
    obtain ⟨EP, HEE⟩ := named (epB ep)
    rw [HEE.out] at HEP
    clear hnn hjj
    rcases EP with _ | _
    · obtain rfl : B = 1 := by rw [HBY.out]; unfold jbE; rw [HEE.out, if_pos rfl]
      go_wp2_with fail
      refine HEP.out.mono ?_
      rintro e w2 ⟨rfl, hw2⟩
      subst hw2
      go_wp2_with fail
      obtain ⟨r0, r1, r2, r3⟩ := HRZ.out
      refine bodyPost_ret (v := .tuple #[.agg #[.int .i64 0, .int .i64 0, .int .i64 0, .slice none 0 0], .int .i64 1]) (by simp [results, Tryz.results11, go_sem, r0, r1, r2, r3]) rfl ?_
      first | exact ⟨rfl, HZ4.out.2⟩ | exact ⟨fun h => absurd h (by decide), fun _ => rfl, HZ4.out.2⟩
    · by_cases h2 : ws.length = ids.length
      · obtain rfl : B = 0 := by rw [HBY.out]; unfold jbE; rw [HEE.out, if_neg (by simp), if_neg (by simpa using h2)]
        obtain ⟨m, HM⟩ := named ids.length
        rw [HM.out] at h2
        rw [h2, HM.out]
        have e2 : ((m : Int) != (m : Int)) = false := by simp
        have hnd : ids.Nodup := by rw [HIV.out]; exact arL_nodup _ _
        have HWGx : Hid (WG n (rwL l ids ws)) := by
          refine ⟨?_, fun x hx => ?_⟩
          · obtain ⟨b1, b2, b3, b4⟩ := chk_zero hC0
            unfold chkE
            rw [if_neg (by omega), if_neg (by rw [rwL_len]; omega), if_pos]
            rw [List.all_eq_true]
            intro x hx
            unfold rwL at hx
            obtain ⟨i, hi, rfl⟩ := List.mem_map.1 hx
            obtain ⟨e1, e2⟩ := rwA_ends l ids ws i
            obtain ⟨⟨c1, c2⟩, c3, c4⟩ := chk_in hC0 (show i < l.length by simpa using hi)
            unfold okA okV
            rw [e1, e2, Bool.and_eq_true]
            exact ⟨decide_eq_true ⟨c1, c2⟩, decide_eq_true ⟨c3, c4⟩⟩
          · unfold rwL at hx
            obtain ⟨i, hi, rfl⟩ := List.mem_map.1 hx
            have hi' : i < l.length := by simpa using hi
            unfold rwA
            split
            · rename_i hc
              have hm : i ∈ ids := by simpa using hc
              refine HWS.out _ ?_
              rw [h2, ← HM.out]
              exact List.idxOf_lt_length_of_mem hm
            · refine HWL.out _ ?_
              rw [show l.getD i A.zero = l[i] by simp [List.getD, List.getElem?_eq_getElem hi']]
              exact List.getElem_mem hi'
        have HWG : Hid (∀ W2, Below w1.heap.size w1 W2 → Calls Tryz.prog 37 #[.agg #[.int .i64 n, .slice a l.length cap], .slice v1 m c1, .slice wa m wk] W2 fun e w' => ∃ g c, e = .returned (.agg #[.int .i64 n, .slice (some ⟨g, 0, none⟩) l.length c]) ∧ w'.ownsRow W2.heap.size 68 3 (.slice (some ⟨g, 0, none⟩) l.length c) l.length (cellsA (rwL l ids ws)) ∧ Below W2.heap.size W2 w') := fun W2 hb => by
          have hbw : Below p w W2 := HB1.out.trans (hb.mono (by omega))
          exact rweighed_any n a l cap v1 ids c1 wa ws wk m W2 (chk_zero hC0).2.2.1 HNA.out HM.out h2 (by rw [← HM.out]; exact h8) hnd (fun i hi => hid i (by rw [HM.out]; exact hi)) (HRA.out.on (hp ▸ hbw)) (HI1.out.on hb) (HWT.out.on (hp ▸ hbw))
        have HRT : Hid (∀ (W2 : World) (g c3 : Nat), Below w1.heap.size w1 W2 → Arcs W2 (some ⟨g, 0, none⟩) (rwL l ids ws) → Calls Tryz.prog 36 #[.agg #[.int .i64 n, .slice (some ⟨g, 0, none⟩) l.length c3], .agg #[.slice ba bs.length bc, .slice ca C.length cc], .int .i64 1, .int .i64 ce, .int .i64 ep] W2 fun e w' => ∃ v c, e = .returned (.agg #[.int .i64 1, .int .i64 ce, .int .i64 ep, .slice v X.length c]) ∧ w'.ownsRow W2.heap.size 47 1 (.slice v X.length c) X.length (cellsU X) ∧ Below W2.heap.size W2 w') := fun W2 g c3 hb har => by
          have hbw : Below p w W2 := HB1.out.trans (hb.mono (by omega))
          have h5 := rrightM_any n (some ⟨g, 0, none⟩) (rwL l ids ws) c3 ba bs bc ca C cc 0 ce ep W2 HWGx.out hjC hC5 hLn har (HRR.out.on (hp ▸ hbw))
          rw [rwL_len] at h5
          refine h5.mono (fun e w' h6 => ?_)
          obtain ⟨v, c, e1, hown, hD, hb6⟩ := h6
          rw [bdL_rw] at e1 hown hD
          rw [← HBV.out] at e1 hown hD
          rw [rg_mx HIV.out HBV.out hD, HX.out] at e1 hown
          exact ⟨v, c, e1, hown, hb6⟩
        have HSS : Hid (∀ w' : World, Below w1.heap.size w1 w' → w'.cell? ⟨p, 0, none⟩ = some (.int .i64 n) ∧ w'.cell? ⟨p, 1, none⟩ = some (.slice a l.length cap) ∧ w'.cell? ⟨p + 1, 0, none⟩ = some (.slice ba bs.length bc) ∧ w'.cell? ⟨p + 1, 1, none⟩ = some (.slice ca C.length cc)) := fun W2 hb => by
          obtain ⟨⟨x0, x1⟩, _⟩ := two_cells ((hb.block p (by omega)).trans HJ0.out)
          obtain ⟨⟨x2, x3⟩, _⟩ := two_cells ((hb.block (p + 1) (by omega)).trans HJ1.out)
          exact ⟨x0, x1, x2, x3⟩
        have HB00 : Hid (Below w1.heap.size w1 w1.drew) := (Below.refl _ _).drew
        obtain ⟨k0, k1, k2, k3⟩ := HSS.out _ (Below.refl _ _)
        clear hC0 hid h8 hSn hnd d0 d1 d2 d3 f0 f1 f2 f3 hjC hC5 hLn HZ4 HRZ HBY h2
        go_wp2_with fail
        refine HEP.out.mono ?_
        rintro e w2 ⟨rfl, hw2⟩
        subst hw2
        generalize hW0 : w2 = W0 at *
        clear hW0
        go_wp2_with fail
        refine wp_region_held_drew (S := fun w' => w'.cell? ⟨p, 0, none⟩ = some (.int .i64 n) ∧ w'.cell? ⟨p, 1, none⟩ = some (.slice a l.length cap) ∧ w'.cell? ⟨p + 1, 0, none⟩ = some (.slice ba bs.length bc) ∧ w'.cell? ⟨p + 1, 1, none⟩ = some (.slice ca C.length cc)) (by kernel_rfl) (HSS.out _ HB00.out) ?_
        intro hS0
        generalize W0.drew = Wd at *
        simp only [List.size_toArray, List.length_cons, List.length_nil]
        refine wpAnyH_take (i := 0) (v := ?_) rfl (by kernel_rfl) (by decide +kernel) (by decide +kernel) (fun _ _ _ h => h) (Or.inl ⟨by rfl, ?_⟩) (by assumption) ?_
        rotate_left
        · intro w hSw
          (try dsimp only at hSw)
          go_simp
          (try with_reducible rfl)
        try simp only [Act.put, List.getElem_toArray, List.getElem_cons_zero, List.setIfInBounds_toArray, List.set_cons_zero, List.set_cons_succ]
        refine wpAnyH_take (i := 1) (v := ?_) rfl (by kernel_rfl) (by decide +kernel) (by decide +kernel) (fun _ _ _ h => h) (Or.inl ⟨by rfl, ?_⟩) (by assumption) ?_
        rotate_left
        · intro w hSw
          (try dsimp only at hSw)
          go_simp
          (try with_reducible rfl)
        try simp only [Act.put, List.getElem_toArray, List.getElem_cons_zero, List.getElem_cons_succ, List.setIfInBounds_toArray, List.set_cons_zero, List.set_cons_succ]
        refine wpAnyH_take (i := 2) (v := ?_) rfl (by kernel_rfl) (by decide +kernel) (by decide +kernel) (fun _ _ _ h => h) (Or.inl ⟨by rfl, ?_⟩) (by assumption) ?_
        rotate_left
        · intro w hSw
          (try dsimp only at hSw)
          go_simp
          (try with_reducible rfl)
        try simp only [Act.put, List.getElem_toArray, List.getElem_cons_zero, List.getElem_cons_succ, List.setIfInBounds_toArray, List.set_cons_zero, List.set_cons_succ]
        refine wpAnyH_take (i := 4) (v := ?_) rfl (by kernel_rfl) (by decide +kernel) (by decide +kernel) (fun _ _ _ h => h) (Or.inl ⟨by rfl, ?_⟩) (by assumption) ?_
        rotate_left
        · intro w hSw
          (try dsimp only at hSw)
          go_simp
          (try with_reducible rfl)
        try simp only [Act.put, List.getElem_toArray, List.getElem_cons_zero, List.getElem_cons_succ, List.setIfInBounds_toArray, List.set_cons_zero, List.set_cons_succ]
        refine wpAnyH_take (i := 5) (v := ?_) rfl (by kernel_rfl) (by decide +kernel) (by decide +kernel) (fun _ _ _ h => h) (Or.inl ⟨by rfl, ?_⟩) (by assumption) ?_
        rotate_left
        · intro w hSw
          (try dsimp only at hSw)
          go_simp
          (try with_reducible rfl)
        try simp only [Act.put, List.getElem_toArray, List.getElem_cons_zero, List.getElem_cons_succ, List.setIfInBounds_toArray, List.set_cons_zero, List.set_cons_succ]
        refine wpAnyH_take (i := 6) (v := ?_) rfl (by kernel_rfl) (by decide +kernel) (by decide +kernel) (fun _ _ _ h => h) (Or.inl ⟨by rfl, ?_⟩) (by assumption) ?_
        rotate_left
        · intro w hSw
          (try dsimp only at hSw)
          go_simp
          (try with_reducible rfl)
        try simp only [Act.put, List.getElem_toArray, List.getElem_cons_zero, List.getElem_cons_succ, List.setIfInBounds_toArray, List.set_cons_zero, List.set_cons_succ]
        refine wpAnyH_ready (rs := [3]) (by kernel_rfl) (by simp) ?_
        refine AllReadyH.cons rfl (fun K hK => ?_) AllReadyH.nil
        rw [if_pos (by rfl)]
        go_simp
        refine (HWG.out Wd HB00.out).mono ?_
        rintro e w3 ⟨g, c3, rfl, hown3, hb3⟩
        have HB3 : Hid (Below W0.heap.size W0 w3) := HB00.out.trans (hb3.mono HB00.out.size)
        have HRR3 := Lib.hid (HRT.out w3 g c3 HB3.out (by have := arcs_ownA (l := rwL l ids ws) (by rw [rwL_len]; exact hown3); exact this))
        refine hK.out _ _ (HSS.out _ HB3.out) (fun _ => ?_)
        clear hK K hown3 hb3
        try simp only [Act.put, List.getElem_toArray, List.getElem_cons_zero, List.getElem_cons_succ, List.setIfInBounds_toArray, List.set_cons_zero, List.set_cons_succ]
        refine wpAnyH_ready (rs := [7]) (by kernel_rfl) (by simp) ?_
        refine AllReadyH.cons rfl (fun K hK => ?_) AllReadyH.nil
        rw [if_pos (by rfl)]
        go_simp
        refine HRR3.out.mono ?_
        rintro e w5 ⟨v, c, rfl, hown5, hb5⟩
        have HB5 : Hid (Below W0.heap.size W0 w5) := HB3.out.trans (hb5.mono HB3.out.size)
        have hK5 := (HB5.out.block (p + 1 + 1) (by omega)).trans HK1.out
        obtain ⟨⟨d0, d1, d2, d3⟩, f0, f1, f2, f3⟩ := four_cells hK5
        have hz3 := HB3.out.size
        have HR5 := Lib.hid (four_cells (set4 hK5 (.int .i64 1) (.int .i64 ce) (.int .i64 ep) (.slice v X.length c))).1
        have HO5 := Lib.hid (own_base (own_set4 hown5 (show p + 1 + 1 < w3.heap.size by omega) (.int .i64 1) (.int .i64 ce) (.int .i64 ep) (.slice v X.length c)) (show p ≤ w3.heap.size by omega))
        have HB6 := Lib.hid (below_set4 (HB1.out.trans (HB5.out.mono (by omega))) (show p ≤ p + 1 + 1 by omega) (.int .i64 1) (.int .i64 ce) (.int .i64 ep) (.slice v X.length c))
        have HS6 : Hid (((((w5.setCell ⟨p + 1 + 1, 0, none⟩ (.int .i64 1)).setCell ⟨p + 1 + 1, 1, none⟩ (.int .i64 ce)).setCell ⟨p + 1 + 1, 2, none⟩ (.int .i64 ep)).setCell ⟨p + 1 + 1, 3, none⟩ (.slice v X.length c)).cell? ⟨p, 0, none⟩ = some (.int .i64 n) ∧ ((((w5.setCell ⟨p + 1 + 1, 0, none⟩ (.int .i64 1)).setCell ⟨p + 1 + 1, 1, none⟩ (.int .i64 ce)).setCell ⟨p + 1 + 1, 2, none⟩ (.int .i64 ep)).setCell ⟨p + 1 + 1, 3, none⟩ (.slice v X.length c)).cell? ⟨p, 1, none⟩ = some (.slice a l.length cap) ∧ ((((w5.setCell ⟨p + 1 + 1, 0, none⟩ (.int .i64 1)).setCell ⟨p + 1 + 1, 1, none⟩ (.int .i64 ce)).setCell ⟨p + 1 + 1, 2, none⟩ (.int .i64 ep)).setCell ⟨p + 1 + 1, 3, none⟩ (.slice v X.length c)).cell? ⟨p + 1, 0, none⟩ = some (.slice ba bs.length bc) ∧ ((((w5.setCell ⟨p + 1 + 1, 0, none⟩ (.int .i64 1)).setCell ⟨p + 1 + 1, 1, none⟩ (.int .i64 ce)).setCell ⟨p + 1 + 1, 2, none⟩ (.int .i64 ep)).setCell ⟨p + 1 + 1, 3, none⟩ (.slice v X.length c)).cell? ⟨p + 1, 1, none⟩ = some (.slice ca C.length cc)) := by
          obtain ⟨y0, y1, y2, y3⟩ := HSS.out _ HB5.out
          have f : ∀ b k, b < p + 1 + 1 → ((((w5.setCell ⟨p + 1 + 1, 0, none⟩ (.int .i64 1)).setCell ⟨p + 1 + 1, 1, none⟩ (.int .i64 ce)).setCell ⟨p + 1 + 1, 2, none⟩ (.int .i64 ep)).setCell ⟨p + 1 + 1, 3, none⟩ (.slice v X.length c)).cell? ⟨b, k, none⟩ = w5.cell? ⟨b, k, none⟩ := fun b k hb => World.cell?_of_block (a := ⟨b, k, none⟩) ((Below.heap_setCell _ ⟨p + 1 + 1, 3, none⟩ _ b (by show b ≠ p + 1 + 1; omega)).trans ((Below.heap_setCell _ ⟨p + 1 + 1, 2, none⟩ _ b (by show b ≠ p + 1 + 1; omega)).trans ((Below.heap_setCell _ ⟨p + 1 + 1, 1, none⟩ _ b (by show b ≠ p + 1 + 1; omega)).trans (Below.heap_setCell _ ⟨p + 1 + 1, 0, none⟩ _ b (by show b ≠ p + 1 + 1; omega)))))
          exact ⟨(f p 0 (by omega)).trans y0, (f p 1 (by omega)).trans y1, (f (p + 1) 0 (by omega)).trans y2, (f (p + 1) 1 (by omega)).trans y3⟩
        refine hK.out _ _ (HSS.out _ HB5.out) (fun _ => ?_)
        clear hK K hown5 hb5 hK5
        try simp only [Act.put, List.getElem_toArray, List.getElem_cons_zero, List.getElem_cons_succ, List.setIfInBounds_toArray, List.set_cons_zero, List.set_cons_succ]
        refine wpAnyH_ready (rs := [8]) (by kernel_rfl) (by simp) ?_
        refine AllReadyH.cons rfl (fun K hK => ?_) AllReadyH.nil
        go_simp
        refine hK.out _ _ HS6.out (fun _ => ?_)
        clear hK K
        try simp only [Act.put, List.getElem_toArray, List.getElem_cons_zero, List.getElem_cons_succ, List.setIfInBounds_toArray, List.set_cons_zero, List.set_cons_succ]
        refine wpAnyH_ready (rs := [9]) (by kernel_rfl) (by simp) ?_
        refine AllReadyH.cons rfl (fun K hK => ?_) AllReadyH.nil
        go_simp
        refine hK.out _ _ HS6.out (fun _ => ?_)
        clear hK K
        try simp only [Act.put, List.getElem_toArray, List.getElem_cons_zero, List.getElem_cons_succ, List.setIfInBounds_toArray, List.set_cons_zero, List.set_cons_succ]
        refine wpAnyH_done (by kernel_rfl) ?_ _
        go_wp2_with fail
        obtain ⟨r0, r1, r2, r3⟩ := HR5.out
        refine bodyPost_ret (v := .tuple #[.agg #[.int .i64 1, .int .i64 ce, .int .i64 ep, .slice v X.length c], .int .i64 0]) (by simp [results, Tryz.results11, go_sem, r0, r1, r2, r3]) rfl ?_
        rw [HX.out]
        first | exact ⟨⟨v, c, rfl, HO5.out⟩, HB6.out⟩ | exact ⟨fun _ => ⟨v, c, rfl, HO5.out⟩, fun h => absurd rfl h, HB6.out⟩
      · obtain rfl : B = 4 := by rw [HBY.out]; unfold jbE; rw [HEE.out, if_neg (by simp), if_pos h2]
        have e2 : ((ws.length : Int) != (ids.length : Int)) = true := by simp; omega
        clear h2
        go_wp2_with fail
        refine HEP.out.mono ?_
        rintro e w2 ⟨rfl, hw2⟩
        subst hw2
        go_wp2_with fail
        obtain ⟨r0, r1, r2, r3⟩ := HRZ.out
        refine bodyPost_ret (v := .tuple #[.agg #[.int .i64 0, .int .i64 0, .int .i64 0, .slice none 0 0], .int .i64 4]) (by simp [results, Tryz.results11, go_sem, r0, r1, r2, r3]) rfl ?_
        first | exact ⟨rfl, HZ4.out.2⟩ | exact ⟨fun h => absurd h (by decide), fun _ => rfl, HZ4.out.2⟩
  · have e1 : (E != 0) = true := by simpa using h1
    obtain rfl : B = E := by rw [HBY.out, if_pos h1]
    go_wp2_with fail
    obtain ⟨r0, r1, r2, r3⟩ := HRZ.out
    refine bodyPost_ret (v := .tuple #[.agg #[.int .i64 0, .int .i64 0, .int .i64 0, .slice none 0 0], .int .i64 B]) (by simp [results, Tryz.results11, go_sem, r0, r1, r2, r3]) rfl ?_
    exact ⟨fun h => absurd h h1, fun _ => rfl, HZ4.out.2⟩
end Go.Proofs.YtpmjbeiclmllmaaGreat
namespace Go.Proofs.YtpmjbeiclmllmaaGreat
open Go.RowKit
set_option maxRecDepth 100000 in
set_option maxHeartbeats 3200000 in
theorem rwhole_any (N : Int) (a : Option Addr) (l : List A) (cap : Nat) (ba : Option Addr) (bs : List Int) (bc : Nat) (ca : Option Addr) (C : List Cl) (cc : Nat) (lv ce ep : Int) (w : World) (hl : l.length ≤ 9223372036854775807) (hbl : bs.length ≤ 9223372036854775807) (hr : Arcs w a l) (hi : Ints w ba bs) (hR : Rws w ca C) (hwt : ∀ x ∈ l, 0 ≤ x.w ∧ x.w < 4294967296) :
    Calls Tryz.prog 13 #[.agg #[.int .i64 N, .slice a l.length cap], .agg #[.slice ba bs.length bc, .slice ca C.length cc], .int .i64 lv, .int .i64 ce, .int .i64 ep] w fun e w' => ((whE N l bs (csl C) lv ce ep) = 0 → (∃ v c, e = .returned (.tuple #[.agg #[.int .i64 lv, .int .i64 ce, .int .i64 ep, .slice v (mxL (wiL l (inV N l bs (csl C) lv ce)) (bdV N l bs (csl C) lv ce)).length c], .int .i64 0]) ∧ w'.ownsRow w.heap.size 47 1 (.slice v (mxL (wiL l (inV N l bs (csl C) lv ce)) (bdV N l bs (csl C) lv ce)).length c) (mxL (wiL l (inV N l bs (csl C) lv ce)) (bdV N l bs (csl C) lv ce)).length (cellsU (mxL (wiL l (inV N l bs (csl C) lv ce)) (bdV N l bs (csl C) lv ce))))) ∧ ((whE N l bs (csl C) lv ce ep) ≠ 0 → e = .returned (.tuple #[.agg #[.int .i64 0, .int .i64 0, .int .i64 0, .slice none 0 0], .int .i64 (whE N l bs (csl C) lv ce ep)])) ∧ Below w.heap.size w w' := by
  obtain ⟨hg0, hg1, hg2, hb0, hsz⟩ := top3 w (.cells #[.int .i64 N, .slice a l.length cap] 24) (.cells #[.slice ba bs.length bc, .slice ca C.length cc] 28) (.cells #[.int .i64 0, .int .i64 0, .int .i64 0, .slice none 0 0] 39)
  obtain ⟨⟨a0, a1⟩, _⟩ := two_cells hg0
  obtain ⟨⟨a2, a3⟩, _⟩ := two_cells hg1
  have HIN := Lib.hid (rhas_any N a l cap ba bs bc ca C cc lv ce _ hl hbl (hr.on hb0) (hi.on hb0) (hR.on hb0))
  have HB0 := Lib.hid hb0
  have HG0 := Lib.hid hg0
  have HG1 := Lib.hid hg1
  have HG2 := Lib.hid hg2
  have HRA := Lib.hid hr
  have HRR := Lib.hid hR
  have HWL := Lib.hid hwt
  have HBF := Lib.hid (@by_facts N l bs (csl C) lv ce)
  have HIF := Lib.hid (@in_facts N l bs C lv ce)
  have HWE : Hid ((whE N l bs (csl C) lv ce ep) = if inE N l bs (csl C) lv ce ≠ 0 then inE N l bs (csl C) lv ce else if epB ep = false then 1 else 0) := rfl
  have HIV : Hid ((inV N l bs (csl C) lv ce) = if inE N l bs (csl C) lv ce = 0 then arL l (hld (lvl (csl C) (lv.toNat - 1)) ce) else []) := rfl
  have HBV : Hid ((bdV N l bs (csl C) lv ce) = if inE N l bs (csl C) lv ce = 0 then bdL N.toNat (lvl (csl C) (lv.toNat - 1)) l ce else []) := rfl
  obtain ⟨E, HE⟩ := named (inE N l bs (csl C) lv ce)
  obtain ⟨ids, HID⟩ := named (inV N l bs (csl C) lv ce)
  obtain ⟨S, HS⟩ := named (bdV N l bs (csl C) lv ce)
  rw [HE.out] at HIN HWE
  rw [HE.out, HID.out, HS.out] at HBF
  rw [HE.out] at HIF
  rw [HE.out, HID.out] at HIV
  rw [HE.out, HS.out] at HBV
  obtain ⟨B, HBB⟩ := named (whE N l bs (csl C) lv ce ep)
  rw [HBB.out] at HWE
  rw [HBB.out, HID.out, HS.out]
  obtain ⟨X, HX⟩ := named (mxL (wiL l ids) S)
  clear hr hi hR hb0 hg0 hg1 hg2 HBB hwt
  generalize hp : w.heap.size = p at *
  go_enter Tryz.func13, Tryz.ntmps13
  go_wp2_with fail
  generalize hWW : (((w.alloc (.cells #[.int .i64 N, .slice a l.length cap] 24)).alloc (.cells #[.slice ba bs.length bc, .slice ca C.length cc] 28)).alloc (.cells #[.int .i64 0, .int .i64 0, .int .i64 0, .slice none 0 0] 39)) = W at *
  clear hWW
  refine HIN.out.mono ?_
  rintro e w1 ⟨rfl, hb1⟩
  have hz1 := hb1.size
  have HB1 : Hid (Below p w w1) := HB0.out.trans (hb1.mono (by omega))
  have HJ0 := Lib.hid ((hb1.block p (by omega)).trans HG0.out)
  have HJ1 := Lib.hid ((hb1.block (p + 1) (by omega)).trans HG1.out)
  have HK1 := Lib.hid ((hb1.block (p + 1 + 1) (by omega)).trans HG2.out)
  have hw1 : p + 3 ≤ w1.heap.size := by omega
  clear hb1 HIN a0 a1 a2 a3 HB0 HG0 HG1 HG2 hz1
  have HR4 : Hid (∀ wr : World, wr.heap[p + 1 + 1]? = some (.cells #[.int .i64 0, .int .i64 0, .int .i64 0, .slice none 0 0] 39) → ((wr.cell? ⟨p + 1 + 1, 0, none⟩ = some (.int .i64 0) ∧ wr.cell? ⟨p + 1 + 1, 1, none⟩ = some (.int .i64 0) ∧ wr.cell? ⟨p + 1 + 1, 2, none⟩ = some (.int .i64 0) ∧ wr.cell? ⟨p + 1 + 1, 3, none⟩ = some (.slice none 0 0)) ∧ (wr.frozen? ⟨p + 1 + 1, 0, none⟩ = false ∧ wr.frozen? ⟨p + 1 + 1, 1, none⟩ = false ∧ wr.frozen? ⟨p + 1 + 1, 2, none⟩ = false ∧ wr.frozen? ⟨p + 1 + 1, 3, none⟩ = false))) := fun wr h => four_cells h
  have HZ4 := Lib.hid (show _ ∧ _ from ⟨set4 HK1.out (.int .i64 0) (.int .i64 0) (.int .i64 0) (.slice none 0 0), below_set4 HB1.out (show p ≤ p + 1 + 1 by omega) (.int .i64 0) (.int .i64 0) (.int .i64 0) (.slice none 0 0)⟩)
  obtain ⟨⟨d0, d1, d2, d3⟩, f0, f1, f2, f3⟩ := HR4.out w1 HK1.out
  have HRZ := Lib.hid (HR4.out _ HZ4.out.1).1
  by_cases h1 : E = 0
  · subst h1
    obtain ⟨n, rfl, hC0, hid, h8, hSn⟩ := HBF.out rfl
    obtain ⟨n', j, hnn, rfl, hx1, hjC, hC5, hLn, hx2, hx3, hx4⟩ := HIF.out rfl
    clear hx1 hx2 hx3 hx4
    obtain rfl : n = n' := by omega
    have ej : ((j : Int) + 1).toNat - 1 = j := by omega
    have HWE : Hid (B = if epB ep = false then 1 else 0) := by show _ = _; rw [HWE.out, if_neg (by simp)]
    have HIV : Hid (ids = arL l (hld (cl C j).xs ce)) := by show _ = _; rw [HIV.out, if_pos rfl, ej, csl_at]
    have HBV : Hid (S = bdL n (cl C j).xs l ce) := by show _ = _; rw [HBV.out, if_pos rfl, ej, csl_at]; rfl
    have HEP := Lib.hid (repochs_any ep w1)
    obtain ⟨EP, HEE⟩ := named (epB ep)
    rw [HEE.out] at HEP HWE
    clear hnn ej
    rcases EP with _ | _
    · obtain rfl : B = 1 := by rw [HWE.out, if_pos rfl]
      go_wp2_with fail
      refine HEP.out.mono ?_
      rintro e w2 ⟨rfl, hw2⟩
      subst hw2
      go_wp2_with fail
      obtain ⟨r0, r1, r2, r3⟩ := HRZ.out
      refine bodyPost_ret (v := .tuple #[.agg #[.int .i64 0, .int .i64 0, .int .i64 0, .slice none 0 0], .int .i64 1]) (by simp [results, Tryz.results13, go_sem, r0, r1, r2, r3]) rfl ?_
      first | exact ⟨rfl, HZ4.out.2⟩ | exact ⟨fun h => absurd h (by decide), fun _ => rfl, HZ4.out.2⟩
    · obtain rfl : B = 0 := by rw [HWE.out, if_neg (by simp)]
      have hnd : ids.Nodup := by rw [HIV.out]; exact arL_nodup _ _
      have HRW : Hid (rwL l ids (wtL l (ints ids)) = l) := rw_self hnd
      have HRT : Hid (Calls Tryz.prog 36 #[.agg #[.int .i64 n, .slice a l.length cap], .agg #[.slice ba bs.length bc, .slice ca C.length cc], .int .i64 ((j : Int) + 1), .int .i64 ce, .int .i64 ep] w1 fun e w' => ∃ v c, e = .returned (.agg #[.int .i64 ((j : Int) + 1), .int .i64 ce, .int .i64 ep, .slice v X.length c]) ∧ w'.ownsRow w1.heap.size 47 1 (.slice v X.length c) X.length (cellsU X) ∧ Below w1.heap.size w1 w') := by
        refine (rrightM_any n a l cap ba bs bc ca C cc j ce ep w1 ⟨hC0, HWL.out⟩ hjC hC5 hLn (HRA.out.on (hp ▸ HB1.out)) (HRR.out.on (hp ▸ HB1.out))).mono (fun e w' h6 => ?_)
        obtain ⟨v, c, e1, hown, hD, hb6⟩ := h6
        rw [← HBV.out] at e1 hown hD
        have h7 := rg_mx (n := n) (ws := wtL l (ints ids)) HIV.out HBV.out (by rw [HRW.out]; exact hD)
        rw [HRW.out] at h7
        have h8 : rgL l (inC (cl C j).xs ce) S = X := h7.trans HX.out
        rw [h8] at e1 hown
        exact ⟨v, c, e1, hown, hb6⟩
      obtain ⟨⟨k0, k1⟩, _⟩ := two_cells HJ0.out
      obtain ⟨⟨k2, k3⟩, _⟩ := two_cells HJ1.out
      clear hC0 hid h8 hSn hnd hjC hC5 hLn HZ4 HRZ HWE d0 d1 d2 d3 f0 f1 f2 f3
      go_wp2_with fail
      refine HEP.out.mono ?_
      rintro e w2 ⟨rfl, hw2⟩
      subst hw2
      go_wp2_with fail
      refine HRT.out.mono ?_
      rintro e w5 ⟨v, c, rfl, hown5, hb5⟩
      have hK5 := (hb5.block (p + 1 + 1) (by omega)).trans HK1.out
      obtain ⟨⟨d0, d1, d2, d3⟩, f0, f1, f2, f3⟩ := HR4.out w5 hK5
      have HR5 := Lib.hid (four_cells (set4 hK5 (.int .i64 ((j : Int) + 1)) (.int .i64 ce) (.int .i64 ep) (.slice v X.length c))).1
      have HO5 := Lib.hid (own_base (own_set4 hown5 (show p + 1 + 1 < w2.heap.size by omega) (.int .i64 ((j : Int) + 1)) (.int .i64 ce) (.int .i64 ep) (.slice v X.length c)) (show p ≤ w2.heap.size by omega))
      have HB6 := Lib.hid (below_set4 (HB1.out.trans (hb5.mono (by omega))) (show p ≤ p + 1 + 1 by omega) (.int .i64 ((j : Int) + 1)) (.int .i64 ce) (.int .i64 ep) (.slice v X.length c))
      clear hK5 hown5 hb5 HRT k0 k1 k2 k3
      go_wp2_with fail
      obtain ⟨r0, r1, r2, r3⟩ := HR5.out
      rw [HX.out]
      refine bodyPost_ret (v := .tuple #[.agg #[.int .i64 ((j : Int) + 1), .int .i64 ce, .int .i64 ep, .slice v X.length c], .int .i64 0]) (by simp [results, Tryz.results13, go_sem, r0, r1, r2, r3]) rfl ?_
      first | exact ⟨⟨v, c, rfl, HO5.out⟩, HB6.out⟩ | exact ⟨fun _ => ⟨v, c, rfl, HO5.out⟩, fun h => absurd rfl h, HB6.out⟩
  · have e1 : (E != 0) = true := by simpa using h1
    obtain rfl : B = E := by rw [HWE.out, if_pos h1]
    go_wp2_with fail
    obtain ⟨r0, r1, r2, r3⟩ := HRZ.out
    refine bodyPost_ret (v := .tuple #[.agg #[.int .i64 0, .int .i64 0, .int .i64 0, .slice none 0 0], .int .i64 B]) (by simp [results, Tryz.results13, go_sem, r0, r1, r2, r3]) rfl ?_
    exact ⟨fun h => absurd h h1, fun _ => rfl, HZ4.out.2⟩
end Go.Proofs.YtpmjbeiclmllmaaGreat
namespace Go.Proofs.YtpmjbeiclmllmaaGreat
open Go.RowKit
theorem own_shape_set {w : World} {base : Nat} {e : TypeId} {size : Nat} {v : Value} {n : Nat} {xs : List Value} (h : w.ownsRow base e size v n xs) (g i : Nat) (u : Value) : ∃ ys, (w.setCell ⟨g, i, none⟩ u).ownsRow base e size v n ys := by
  rcases h.2 with ⟨rfl, rfl⟩ | ⟨g', c, cur, rfl, h2, h3, h4, h5, h6, h7⟩
  · exact ⟨[], World.ownsRow_nil _ _ _ _⟩
  · by_cases hg : g' = g
    · subst hg
      refine ⟨((cur.setIfInBounds i u).toList.take (n * size)), ?_, Or.inr ⟨g', c, cur.setIfInBounds i u, rfl, h2, heap_setCell_same w g' i cur e u h3, h4, h5, by simpa using h6, rfl⟩⟩
      have := h.1
      rw [List.length_take, Array.length_toList, Array.size_setIfInBounds, h6]
      have : n * size ≤ c * size := Nat.mul_le_mul_right _ h4
      omega
    · exact ⟨xs, h.1, Or.inr ⟨g', c, cur, rfl, h2, (heap_setCell_other w _ g' _ hg).trans h3, h4, h5, h6, h7⟩⟩
/-- Rows stay rows. -/
def Rowed (w w' : World) : Prop := ∀ (base : Nat) (e : TypeId) (size : Nat) (v : Value) (n : Nat) (xs : List Value), w.ownsRow base e size v n xs → ∃ ys, w'.ownsRow base e size v n ys
end Go.Proofs.YtpmjbeiclmllmaaGreat
namespace Go.Proofs.YtpmjbeiclmllmaaGreat
open Go.RowKit
set_option maxRecDepth 100000 in
set_option maxHeartbeats 3200000 in
theorem sameM_any (m0 m1 m2 : Int) (v v' : Option Addr) (c c' : Nat) (X : List Int) (w : World) (hlen : X.length ≤ 9223372036854775807) (h : Dts w v X) (h' : Dts w v' X) :
    Calls Tryz.prog 14 #[.agg #[.int .i64 m0, .int .i64 m1, .int .i64 m2, .slice v X.length c], .agg #[.int .i64 m0, .int .i64 m1, .int .i64 m2, .slice v' X.length c']] w fun e w' => e = .returned (.bool true) ∧ Below w.heap.size w w' := by
  obtain ⟨hg0, hg1, hb0, hsz⟩ := top2 w (.cells #[.int .i64 m0, .int .i64 m1, .int .i64 m2, .slice v X.length c] 39) (.cells #[.int .i64 m0, .int .i64 m1, .int .i64 m2, .slice v' X.length c'] 39)
  obtain ⟨⟨a0, a1, a2, a3⟩, _⟩ := four_cells hg0
  obtain ⟨⟨b0, b1, b2, b3⟩, _⟩ := four_cells hg1
  have HSD := Lib.hid (sameD_any v v' c c' X _ hlen (h.on hb0) (h'.on hb0))
  have HB0 := Lib.hid hb0
  have e0 : (m0 == m0) = true := by simp
  have e1 : (m1 == m1) = true := by simp
  have e2 : (m2 == m2) = true := by simp
  clear h h' hb0 hg0 hg1
  generalize hp : w.heap.size = p at *
  go_enter Tryz.func14, Tryz.ntmps14
  go_wp2_with fail
  refine HSD.out.mono ?_
  rintro e w2 ⟨rfl, hb2⟩
  have HB2 : Hid (Below p w w2) := HB0.out.trans (hb2.mono (by omega))
  clear hb2 HSD
  go_wp2_with fail
  go_ret
  exact ⟨rfl, HB2.out⟩
theorem spoilD_none (x : Int) (w : World) : Calls Tryz.prog 15 #[.slice none 0 0, .int .u64 x] w fun e w' => e = .returned (.tuple #[]) ∧ w' = w := by
  go_enter Tryz.func15, Tryz.ntmps15
  go_wp2_with fail
  go_loop [4] (fun i => i = .int .i64 0) (fun _ => 0)
  case atStart => rfl
  case round =>
    subst hrel
    go_wp2_with fail
    go_end0
    exact ⟨rfl, rfl⟩
set_option maxRecDepth 100000 in
set_option maxHeartbeats 3200000 in
theorem spoilD_row (g n m B : Nat) (x : Int) (xs : List Value) (w : World) (hn : n ≤ 9223372036854775807) (hown : w.ownsRow B 47 1 (.slice (some ⟨g, 0, none⟩) n n) n xs) :
    Calls Tryz.prog 15 #[.slice (some ⟨g, 0, none⟩) m n, .int .u64 x] w fun e w' => e = .returned (.tuple #[]) ∧ Below B w w' ∧ Rowed w w' ∧ ∀ b, b ≠ g → w'.heap[b]? = w.heap[b]? := by
  have hgB : B ≤ g := (hown.lt g rfl).1
  go_enter Tryz.func15, Tryz.ntmps15
  go_wp2_with fail
  go_loopw [4] (fun i wr => ∃ (k : Nat) (xs : List Value), k ≤ n ∧ i = .int .i64 k ∧ wr.ownsRow B 47 1 (.slice (some ⟨g, 0, none⟩) n n) n xs ∧ Below B w wr ∧ Rowed w wr ∧ Hid (∀ b, b ≠ g → wr.heap[b]? = w.heap[b]?)) (fun i _ => n - (intOf i).toNat)
  case atStart => exact ⟨0, xs, Nat.zero_le _, rfl, hown, Below.refl _ _, fun _ _ _ _ _ xs h => ⟨xs, h⟩, fun _ _ => rfl⟩
  case round =>
    obtain ⟨k, ys, hk, rfl, ho, hbel, hrow, HOB⟩ := hrel
    have HR := Lib.hid hrow
    clear hrow
    by_cases hlt : k < n
    · have hyl : k < ys.length := by have := ho.1; omega
      have c2 : wr.cell? ⟨g, k, none⟩ = some ys[k] := (ho.cellAt k (by omega)).trans (List.getElem?_eq_getElem hyl)
      have f2 : wr.frozen? ⟨g, k, none⟩ = false := ho.frozenAt k
      generalize ys[k] = y at c2
      have HS := Lib.hid (ho.stored k (.int .u64 x))
      go_wp2_with fail
      exact ⟨⟨k + 1, _, by omega, by go_num, HS.out.1, hbel.setCell hgB _, fun base e size v n xs h => by obtain ⟨zs, hz⟩ := HR.out base e size v n xs h; exact own_shape_set hz g k _, fun b hb => (Below.heap_setCell wr ⟨g, k, none⟩ _ b hb).trans (HOB.out b hb)⟩, by simp [intOf]; omega⟩
    · go_wp2_with fail
      go_end0
      exact ⟨rfl, hbel, HR.out, HOB.out⟩
theorem spoilD_gen (a : Option Addr) (n c B : Nat) (x : Int) (xs : List Value) (w : World) (hown : w.ownsRow B 47 1 (.slice a n c) n xs) :
    Calls Tryz.prog 15 #[.slice a n c, .int .u64 x] w fun e w' => e = .returned (.tuple #[]) ∧ Below B w w' ∧ Rowed w w' ∧ ∀ b, (Value.slice a n c).ownBlock ≠ some b → w'.heap[b]? = w.heap[b]? := by
  rcases hown.2 with ⟨h', h0⟩ | ⟨g, c', cur, h', hb, hg, hnc, hm, hcs, _⟩
  · injection h' with e1 e2 e3
    subst e1 e3
    rw [h0]
    refine (spoilD_none x w).mono ?_
    rintro e w' ⟨rfl, rfl⟩
    exact ⟨rfl, Below.refl _ _, fun _ _ _ _ _ xs h => ⟨xs, h⟩, fun _ _ => rfl⟩
  · injection h' with e1 e2 e3
    subst e1 e3
    have hy : w.ownsRow B 47 1 (.slice (some ⟨g, 0, none⟩) c c) c (cur.toList.take (c * 1)) := ⟨by rw [List.length_take, Array.length_toList, hcs]; omega, Or.inr ⟨g, c, cur, rfl, hb, hg, Nat.le_refl _, hm, hcs, rfl⟩⟩
    refine (spoilD_row g c n B x _ w (by unfold maxLen at hm; omega) hy).mono (fun e w' h => ⟨h.1, h.2.1, h.2.2.1, fun b hb => h.2.2.2 b (fun e => hb (by rw [e]; rfl))⟩)
theorem leafG_any (N : Int) (a : Option Addr) (l : List A) (cap : Nat) (ba : Option Addr) (bs : List Int) (bc : Nat) (ca : Option Addr) (C : List Cl) (cc : Nat) (ce ep : Int) (wa : Option Addr) (ws : List Int) (wk : Nat) (w : World) (hl : l.length ≤ 9223372036854775807) (hbl : bs.length ≤ 9223372036854775807) (hr : Arcs w a l) (hi : Ints w ba bs) (hR : Rws w ca C) (hW : Wts w wa ws) (hws : ∀ i, i < ws.length → 0 ≤ ws.getD i 0 ∧ ws.getD i 0 < 4294967296) :
    Calls Tryz.prog 10 #[.agg #[.int .i64 N, .slice a l.length cap], .agg #[.slice ba bs.length bc, .slice ca C.length cc], .int .i64 ce, .int .i64 ep, .slice wa ws.length wk] w fun e w' => ∃ v c, e = .returned (.tuple #[.agg #[.int .i64 (if (byE N l bs (csl C) 1 ce ep ws.length) = 0 then 1 else 0), .int .i64 (if (byE N l bs (csl C) 1 ce ep ws.length) = 0 then ce else 0), .int .i64 (if (byE N l bs (csl C) 1 ce ep ws.length) = 0 then ep else 0), .slice v (if (byE N l bs (csl C) 1 ce ep ws.length) = 0 then mxL (wgL l (inV N l bs (csl C) 1 ce) ws) (bdV N l bs (csl C) 1 ce) else []).length c], .int .i64 (byE N l bs (csl C) 1 ce ep ws.length)]) ∧ w'.ownsRow w.heap.size 47 1 (.slice v (if (byE N l bs (csl C) 1 ce ep ws.length) = 0 then mxL (wgL l (inV N l bs (csl C) 1 ce) ws) (bdV N l bs (csl C) 1 ce) else []).length c) (if (byE N l bs (csl C) 1 ce ep ws.length) = 0 then mxL (wgL l (inV N l bs (csl C) 1 ce) ws) (bdV N l bs (csl C) 1 ce) else []).length (cellsU (if (byE N l bs (csl C) 1 ce ep ws.length) = 0 then mxL (wgL l (inV N l bs (csl C) 1 ce) ws) (bdV N l bs (csl C) 1 ce) else [])) ∧ Below w.heap.size w w' := by
  refine (leaf_any N a l cap ba bs bc ca C cc ce ep wa ws wk w hl hbl hr hi hR hW hws).mono (fun e w' h => ?_)
  obtain ⟨hok, hno, hb⟩ := h
  by_cases h0 : (byE N l bs (csl C) 1 ce ep ws.length) = 0
  · obtain ⟨v, c, e1, h2⟩ := hok h0
    rw [if_pos h0, if_pos h0, if_pos h0, if_pos h0, h0]
    exact ⟨v, c, e1, h2.1, hb⟩
  · have e1 := hno h0
    rw [if_neg h0, if_neg h0, if_neg h0, if_neg h0]
    exact ⟨none, 0, e1, World.ownsRow_nil _ _ _ _, hb⟩
theorem rleafG_any (N : Int) (a : Option Addr) (l : List A) (cap : Nat) (ba : Option Addr) (bs : List Int) (bc : Nat) (ca : Option Addr) (C : List Cl) (cc : Nat) (ce ep : Int) (wa : Option Addr) (ws : List Int) (wk : Nat) (w : World) (hna : a = none → l = [] ∧ cap = 0) (hwt : ∀ x ∈ l, 0 ≤ x.w ∧ x.w < 4294967296) (hl : l.length ≤ 9223372036854775807) (hbl : bs.length ≤ 9223372036854775807) (hr : Arcs w a l) (hi : Ints w ba bs) (hR : Rws w ca C) (hW : Wts w wa ws) (hws : ∀ i, i < ws.length → 0 ≤ ws.getD i 0 ∧ ws.getD i 0 < 4294967296) :
    Calls Tryz.prog 11 #[.agg #[.int .i64 N, .slice a l.length cap], .agg #[.slice ba bs.length bc, .slice ca C.length cc], .int .i64 ce, .int .i64 ep, .slice wa ws.length wk] w fun e w' => ∃ v c, e = .returned (.tuple #[.agg #[.int .i64 (if (byE N l bs (csl C) 1 ce ep ws.length) = 0 then 1 else 0), .int .i64 (if (byE N l bs (csl C) 1 ce ep ws.length) = 0 then ce else 0), .int .i64 (if (byE N l bs (csl C) 1 ce ep ws.length) = 0 then ep else 0), .slice v (if (byE N l bs (csl C) 1 ce ep ws.length) = 0 then mxL (wgL l (inV N l bs (csl C) 1 ce) ws) (bdV N l bs (csl C) 1 ce) else []).length c], .int .i64 (byE N l bs (csl C) 1 ce ep ws.length)]) ∧ w'.ownsRow w.heap.size 47 1 (.slice v (if (byE N l bs (csl C) 1 ce ep ws.length) = 0 then mxL (wgL l (inV N l bs (csl C) 1 ce) ws) (bdV N l bs (csl C) 1 ce) else []).length c) (if (byE N l bs (csl C) 1 ce ep ws.length) = 0 then mxL (wgL l (inV N l bs (csl C) 1 ce) ws) (bdV N l bs (csl C) 1 ce) else []).length (cellsU (if (byE N l bs (csl C) 1 ce ep ws.length) = 0 then mxL (wgL l (inV N l bs (csl C) 1 ce) ws) (bdV N l bs (csl C) 1 ce) else [])) ∧ Below w.heap.size w w' := by
  refine (rleaf_any N a l cap ba bs bc ca C cc ce ep wa ws wk w hna hwt hl hbl hr hi hR hW hws).mono (fun e w' h => ?_)
  obtain ⟨hok, hno, hb⟩ := h
  by_cases h0 : (byE N l bs (csl C) 1 ce ep ws.length) = 0
  · obtain ⟨v, c, e1, h2⟩ := hok h0
    rw [if_pos h0, if_pos h0, if_pos h0, if_pos h0, h0]
    exact ⟨v, c, e1, h2, hb⟩
  · have e1 := hno h0
    rw [if_neg h0, if_neg h0, if_neg h0, if_neg h0]
    exact ⟨none, 0, e1, World.ownsRow_nil _ _ _ _, hb⟩
theorem wholeG_any (N : Int) (a : Option Addr) (l : List A) (cap : Nat) (ba : Option Addr) (bs : List Int) (bc : Nat) (ca : Option Addr) (C : List Cl) (cc : Nat) (lv ce ep : Int) (w : World) (hl : l.length ≤ 9223372036854775807) (hbl : bs.length ≤ 9223372036854775807) (hr : Arcs w a l) (hi : Ints w ba bs) (hR : Rws w ca C) (hwt : ∀ x ∈ l, 0 ≤ x.w ∧ x.w < 4294967296) :
    Calls Tryz.prog 12 #[.agg #[.int .i64 N, .slice a l.length cap], .agg #[.slice ba bs.length bc, .slice ca C.length cc], .int .i64 lv, .int .i64 ce, .int .i64 ep] w fun e w' => ∃ v c, e = .returned (.tuple #[.agg #[.int .i64 (if (whE N l bs (csl C) lv ce ep) = 0 then lv else 0), .int .i64 (if (whE N l bs (csl C) lv ce ep) = 0 then ce else 0), .int .i64 (if (whE N l bs (csl C) lv ce ep) = 0 then ep else 0), .slice v (if (whE N l bs (csl C) lv ce ep) = 0 then mxL (wiL l (inV N l bs (csl C) lv ce)) (bdV N l bs (csl C) lv ce) else []).length c], .int .i64 (whE N l bs (csl C) lv ce ep)]) ∧ w'.ownsRow w.heap.size 47 1 (.slice v (if (whE N l bs (csl C) lv ce ep) = 0 then mxL (wiL l (inV N l bs (csl C) lv ce)) (bdV N l bs (csl C) lv ce) else []).length c) (if (whE N l bs (csl C) lv ce ep) = 0 then mxL (wiL l (inV N l bs (csl C) lv ce)) (bdV N l bs (csl C) lv ce) else []).length (cellsU (if (whE N l bs (csl C) lv ce ep) = 0 then mxL (wiL l (inV N l bs (csl C) lv ce)) (bdV N l bs (csl C) lv ce) else [])) ∧ Below w.heap.size w w' := by
  refine (whole_any N a l cap ba bs bc ca C cc lv ce ep w hl hbl hr hi hR hwt).mono (fun e w' h => ?_)
  obtain ⟨hok, hno, hb⟩ := h
  by_cases h0 : (whE N l bs (csl C) lv ce ep) = 0
  · obtain ⟨v, c, e1, h2⟩ := hok h0
    rw [if_pos h0, if_pos h0, if_pos h0, if_pos h0, h0]
    exact ⟨v, c, e1, h2.1, hb⟩
  · have e1 := hno h0
    rw [if_neg h0, if_neg h0, if_neg h0, if_neg h0]
    exact ⟨none, 0, e1, World.ownsRow_nil _ _ _ _, hb⟩
theorem rwholeG_any (N : Int) (a : Option Addr) (l : List A) (cap : Nat) (ba : Option Addr) (bs : List Int) (bc : Nat) (ca : Option Addr) (C : List Cl) (cc : Nat) (lv ce ep : Int) (w : World) (hl : l.length ≤ 9223372036854775807) (hbl : bs.length ≤ 9223372036854775807) (hr : Arcs w a l) (hi : Ints w ba bs) (hR : Rws w ca C) (hwt : ∀ x ∈ l, 0 ≤ x.w ∧ x.w < 4294967296) :
    Calls Tryz.prog 13 #[.agg #[.int .i64 N, .slice a l.length cap], .agg #[.slice ba bs.length bc, .slice ca C.length cc], .int .i64 lv, .int .i64 ce, .int .i64 ep] w fun e w' => ∃ v c, e = .returned (.tuple #[.agg #[.int .i64 (if (whE N l bs (csl C) lv ce ep) = 0 then lv else 0), .int .i64 (if (whE N l bs (csl C) lv ce ep) = 0 then ce else 0), .int .i64 (if (whE N l bs (csl C) lv ce ep) = 0 then ep else 0), .slice v (if (whE N l bs (csl C) lv ce ep) = 0 then mxL (wiL l (inV N l bs (csl C) lv ce)) (bdV N l bs (csl C) lv ce) else []).length c], .int .i64 (whE N l bs (csl C) lv ce ep)]) ∧ w'.ownsRow w.heap.size 47 1 (.slice v (if (whE N l bs (csl C) lv ce ep) = 0 then mxL (wiL l (inV N l bs (csl C) lv ce)) (bdV N l bs (csl C) lv ce) else []).length c) (if (whE N l bs (csl C) lv ce ep) = 0 then mxL (wiL l (inV N l bs (csl C) lv ce)) (bdV N l bs (csl C) lv ce) else []).length (cellsU (if (whE N l bs (csl C) lv ce ep) = 0 then mxL (wiL l (inV N l bs (csl C) lv ce)) (bdV N l bs (csl C) lv ce) else [])) ∧ Below w.heap.size w w' := by
  refine (rwhole_any N a l cap ba bs bc ca C cc lv ce ep w hl hbl hr hi hR hwt).mono (fun e w' h => ?_)
  obtain ⟨hok, hno, hb⟩ := h
  by_cases h0 : (whE N l bs (csl C) lv ce ep) = 0
  · obtain ⟨v, c, e1, h2⟩ := hok h0
    rw [if_pos h0, if_pos h0, if_pos h0, if_pos h0, h0]
    exact ⟨v, c, e1, h2, hb⟩
  · have e1 := hno h0
    rw [if_neg h0, if_neg h0, if_neg h0, if_neg h0]
    exact ⟨none, 0, e1, World.ownsRow_nil _ _ _ _, hb⟩
end Go.Proofs.YtpmjbeiclmllmaaGreat
namespace Go.Proofs.YtpmjbeiclmllmaaGreat
open Go.RowKit
theorem cellsW_len (l : List Int) : (cellsW l).length = l.length := by unfold cellsW; simp
/-- append of weights that came in, nil or not, to a row of the call's own. -/
theorem wp_append_camew {P : Program} {w : World} {o : Oper} {a : Act} {K : Act → World → Prop} {Q : Exit → Act → World → Prop} (s x : Operand) (t : TypeId)
    (ho : o.op = .call { callee := .builtin .append, args := #[s, x], argTypes := #[t, t] })
    (base : Nat) (i : TypeInfo) (ht : P.underlying t = some (.slice 66)) (hi : P.info? 66 = some i) (hz : i.zero = some (.int .u32 0)) (hsize : i.size = 1) (hby : i.bytes = 4)
    (v : Value) (n : Nat) (xs : List Value) (hs : a.eval s = v) (hown : w.ownsRow base 66 1 v n xs) (hv : v ≠ .slice none 0 0)
    (r : Option Addr) (ys : List Int) (c : Nat) (hx : a.eval x = .slice r ys.length c) (hn : r = none → ys = [] ∧ c = 0) (hr : Wts w r ys)
    (h63 : n + ys.length ≤ maxLen) (hbytes : (n + ys.length) * 4 ≤ 140737488355328) (hbase : base ≤ w.heap.size)
    (h : ∀ v' w', w'.ownsRow base 66 1 v' (n + ys.length) (xs ++ cellsW ys) → w.grownBy w' v.ownBlock → v' ≠ .slice none 0 0 → K (a.put o.dst v') w') : o.wp P a w K Q := by
  match r, hx, hn, hr with
  | none, hx, hn, _ =>
    obtain ⟨rfl, rfl⟩ := hn rfl
    have hrun := run_append_owned_none (P := P) (w := w) base t o.type 66 i 1 ht hi v n xs hown
    unfold Oper.wp
    simp only [List.length_nil] at hx
    simp [execOp, ho, resolve, invoke, builtin, hs, hx, hrun, Result.andThen]
    exact h v w (by simpa [cellsW] using hown) (World.grownBy.refl _ _) hv
  | some ad, hx, _, hr =>
    refine wp_append_own w s x t ho base 66 i (.int .u32 0) 1 4 ht hi hz hsize hby rfl (by decide) v n xs hs hown ad ys.length c (cellsW ys) hx (by rw [cellsW_len]; omega) (fun j u hu => ?_) (fun u hu => ?_) h63 hbytes hbase (fun v' w' h2 h3 h4 => h v' w' h2 h3 (fun e => hv (h4.1 e).1))
    · have hj : j < ys.length := by
        have := (List.getElem?_eq_some_iff.1 hu).1
        rw [cellsW_len] at this
        exact this
      rw [cellsW_getD ys j hj] at hu
      injection hu with hu
      subst hu
      rcases hr with h0 | ⟨b, o2, e1, hb, h5⟩
      · subst h0; simp at hj
      · injection e1 with e1
        subst e1
        rw [Go.WideShapes.add_plain]
        exact h5 j hj
    · unfold cellsW at hu
      obtain ⟨z, _, rfl⟩ := List.mem_map.1 hu
      rfl
end Go.Proofs.YtpmjbeiclmllmaaGreat
