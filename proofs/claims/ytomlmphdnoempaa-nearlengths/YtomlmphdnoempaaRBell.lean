/-
  Contract of flyoverref05.Dists.
-/
import Derived.Test.YtomlmphdnoempaaRDists
namespace Go.Proofs.Ytomlmphdnoempaa
open Go.RowKit
open Hp (Fr)
set_option maxHeartbeats 3200000 in
set_option maxRecDepth 100000 in
theorem dists_any (n : Nat) (a : Option Addr) (l : List A) (cap : Nat) (s : Nat) (ai : Option Addr) (c : Nat) (ok : Nat → Bool) (w : World) (g : RG n l) (hs : s < n) (hr : Arcs w a l) (hm : Mks w ai n ok) :
    Calls Try.prog 39 #[.agg #[.int .i64 n, .slice a l.length cap], .int .i64 s, .slice ai n c] w fun e w' => ∃ bf, e = .returned (.slice (some ⟨bf, 0, none⟩) n n) ∧ ∃ F, Tb w' bf n 34 .u64 F ∧ IsD l ok s F ∧ w.heap.size ≤ bf ∧ Below w.heap.size w w' := by
  obtain ⟨i0, hi, hz0, hz1, hz2⟩ := info_parts info34
  have HM := Lib.hid (made_u64 n)
  have hb0 : Below w.heap.size w (w.alloc (.cells #[.int .i64 n, .slice a l.length cap] 24)) := (Below.refl _ _).alloc (Nat.le_refl _) _
  have hg := heap_top w (.cells #[.int .i64 n, .slice a l.length cap] 24)
  have s0 : (w.alloc (.cells #[.int .i64 n, .slice a l.length cap] 24)).heap.size = w.heap.size + 1 := by simp
  have hnb := g.nb
  have hlb := g.lb
  obtain ⟨bi, oi, rfl, hbi, hmk⟩ := hm
  have HMK := Lib.hid hmk
  have HG := Lib.hid g
  have HAR := Lib.hid hr
  have hs' : (s : Int) < n := by omega
  clear hmk g hr
  go_enter Try.func39, Try.ntmps39
  go_wp2_with (at_make; refine wpList_make_full _ rfl (.tmp 14) (.tmp 14) 28 rfl 0 34 i0 (.int .u64 0) 1 Try.underlying28 hi hz0 hz1 .i64 .i64 n n n rfl rfl rfl rfl (by rw [hz2]; omega) (by unfold maxLen; omega) (Nat.zero_le _) ?_; intro w1 hown1 hgrow1; rw [HM.out] at hown1)
  generalize w.alloc (.cells #[.int .i64 n, .slice a l.length cap] 24) = W at *
  have t1 : Tb w1 (w.heap.size + 1) n 34 .u64 (fun _ => 0) := by rw [s0] at hown1; exact row_made hown1
  have b1 : Below (w.heap.size + 1) W w1 := (Below.refl _ _).grown hgrow1 (by omega) (by intro k hk; cases hk)
  clear hown1 hgrow1 HM hi hz0 hz1 hz2
  clear i0
  go_loopw [8] (fun i wr => ∃ k : Nat, k ≤ n ∧ i = .int .i64 k ∧ Tb wr (w.heap.size + 1) n 34 .u64 (fun v => if v < k then Inf else 0) ∧ Below (w.heap.size + 1) W wr) (fun i _ => n - (intOf i).toNat)
  case atStart => exact ⟨0, Nat.zero_le _, rfl, t1.congr (fun v _ => by simp), b1⟩
  case round =>
    obtain ⟨k, hk, rfl, tk, hb⟩ := hrel
    obtain ⟨⟨g0, g1⟩, -⟩ := two_cells ((hb.block w.heap.size (by omega)).trans hg)
    by_cases hlt : k < n
    · have hlt' : (k : Int) < n := by omega
      have c0 := tk.cell hlt
      have f0 := tk.free k
      go_wp2_with fail
      refine ⟨⟨k + 1, by omega, by go_num, (tk.set k Inf).congr (fun v _ => ?_), hb.setCell (Nat.le_refl _) _⟩, by simp [intOf]; omega⟩
      unfold updI
      by_cases e : v = k
      · subst e; simp
      · rw [if_neg e]
        show (if v < k then Inf else 0) = _
        by_cases e2 : v < k
        · rw [if_pos e2, if_pos (by omega)]
        · rw [if_neg e2, if_neg (by omega)]
    · have hlt' : ¬ (k : Int) < n := by omega
      have ti : Tb wr (w.heap.size + 1) n 34 .u64 (fun _ => Inf) := tk.congr (fun v hv => by rw [if_pos (by omega)])
      have hbw : Below w.heap.size w wr := hb0.trans (hb.mono (by omega))
      have m0 := (hbw.cell (p := ⟨bi, oi + s, none⟩) hbi).trans (HMK.out s hs)
      have c0 := ti.cell hs
      have f0 := ti.free s
      clear tk
      cases ho : ok s with
      | false =>
        rw [ho] at m0
        have HND := Lib.hid (isD_none l ok s ho)
        clear ho
        go_wp2_with fail
        go_ret
        exact ⟨_, rfl, _, ti, HND.out, by omega, hbw⟩
      | true =>
        rw [ho] at m0
        have HBF := Lib.hid (BF.init l ok s ho)
        have ts := ti.set s 0
        have hbs : Below (w.heap.size + 1) W (wr.setCell ⟨w.heap.size + 1, s, none⟩ (.int .u64 0)) := hb.setCell (Nat.le_refl _) _
        obtain ⟨ba, oa, hab⟩ := HAR.out.b.get
        clear ho
        go_wp2_with fail
        generalize wr.setCell ⟨w.heap.size + 1, s, none⟩ (.int .u64 0) = W2 at *
        clear c0 f0 m0 hbw hb ti g0 g1
        go_loopg [9] (2 * sumN (updI (fun _ => Inf) s 0) n + 1) (fun gk vb wx => ∃ (F : Nat → Int) (b : Bool), vb = .bool b ∧ Tb wx (w.heap.size + 1) n 34 .u64 F ∧ Below (w.heap.size + 1) W wx ∧ Hid (Hd l ok s n F b gk))
        case atStart => exact ⟨_, true, rfl, ts, hbs, ⟨rfl, HBF.out, fun h => by cases h⟩⟩
        case round =>
          obtain ⟨F0, b0, rfl, t0, hbx, hh0⟩ := hrel
          clear ts hbs
          cases b0 with
          | false =>
            have HIS := Lib.hid (hh0.out.no rfl)
            go_wp2_with fail
            go_ret
            exact ⟨_, rfl, F0, t0, HIS.out, by omega, hb0.trans (hbx.mono (by omega))⟩
          | true =>
            have HR0 := Lib.hid (Rnd.init (n := n) hh0.out.bf)
            have HGK : Hid (gk = 2 * sumN F0 n + 1) := hh0.out.gk
            go_wp2_with fail
            go_loopw [9, 10] (fun vb vi wr => ∃ (F : Nat → Int) (b : Bool) (k : Nat), k ≤ l.length ∧ vb = .bool b ∧ vi = .int .i64 k ∧ Tb wr (w.heap.size + 1) n 34 .u64 F ∧ Below (w.heap.size + 1) W wr ∧ Hid (Rnd l ok s n F0 F b k)) (fun _ vi _ => l.length - (intOf vi).toNat)
            case atStart => exact ⟨F0, false, 0, Nat.zero_le _, rfl, rfl, t0, hbx, HR0⟩
            case round =>
              obtain ⟨F, b, k, hk, rfl, rfl, tf, hby, hrd⟩ := hrel
              clear t0 hbx
              obtain ⟨⟨g0, g1⟩, -⟩ := two_cells ((hby.block w.heap.size (by omega)).trans hg)
              by_cases hlt : k < l.length
              · obtain ⟨rfl, hbl, hat⟩ := hab (by omega)
                have hlt' : (k : Int) < l.length := by omega
                have hbw : Below w.heap.size w wr := hb0.trans (hby.mono (by omega))
                obtain ⟨q0, q1, q2⟩ := (hat k hlt).on hbw
                have hmem := ar_mem hlt
                have hsl := HG.out.src_lt hmem
                have hdl := HG.out.dst_lt hmem
                have q0' : wr.cell? ⟨ba, oa + k * 3, none⟩ = some (.int .i64 (ar l k).f) := q0
                have q1' : wr.cell? ⟨ba, oa + k * 3 + 1, none⟩ = some (.int .i64 (ar l k).t) := q1
                have q2' : wr.cell? ⟨ba, oa + k * 3 + 2, none⟩ = some (.int .u32 (ar l k).w) := q2
                rw [HG.out.f_eq hmem] at q0'
                rw [HG.out.t_eq hmem] at q1'
                have hxw := HG.out.wt _ hmem
                have hPut := Lib.hid (fun h => hrd.out.put HG.out hlt h)
                have hSkip := Lib.hid (fun h => hrd.out.skip (k := k) h)
                have HBT : Hid (better l ok F k ↔ (ok (src (ar l k)) = true ∧ ok (dst (ar l k)) = true ∧ sat (F (src (ar l k))) (ar l k).w < F (dst (ar l k)))) := Iff.rfl
                obtain ⟨xa, HXA⟩ := named (ar l k)
                rw [HXA.out] at q0' q1' q2' hsl hdl hxw hPut HBT
                have k0 := (hbw.cell (p := ⟨bi, oi + src xa, none⟩) hbi).trans (HMK.out _ hsl)
                have k1 := (hbw.cell (p := ⟨bi, oi + dst xa, none⟩) hbi).trans (HMK.out _ hdl)
                have fu0 := tf.cell hsl
                have fv0 := tf.cell hdl
                have ff0 := tf.free (dst xa)
                have hsl' : ((src xa : Nat) : Int) < n := by omega
                have hdl' : ((dst xa : Nat) : Int) < n := by omega
                have HADD := Lib.hid (fun w' : World => radd_any (F (src xa)) xa.w ⟨hrd.out.bf.lo _, hrd.out.bf.hi _⟩ ⟨hxw.1, by unfold Inf; omega⟩ w')
                have HS := Lib.hid (fun x => tf.set (dst xa) x)
                obtain ⟨sx, HSX⟩ := named (sat (F (src xa)) xa.w)
                rw [HSX.out] at HADD hPut HBT
                obtain ⟨fu, HFU⟩ := named (F (src xa))
                obtain ⟨fv, HFV⟩ := named (F (dst xa))
                rw [HFU.out] at HADD fu0
                rw [HFV.out] at fv0 HBT
                obtain ⟨ou, HOU⟩ := named (ok (src xa))
                obtain ⟨ov, HOV⟩ := named (ok (dst xa))
                rw [HOU.out] at k0 HBT
                rw [HOV.out] at k1 HBT
                have HWR : IntKind.u64.wrap xa.w = xa.w := wrap_u64 hxw.1 (by omega)
                have zt := tf.lt
                clear q0 q1 q2 hmem hat
                go_wp2_with fail
                have B5 := Lib.hid (hby.alloc (by have := hby.size; omega) (.cells #[.int .i64 (src xa), .int .i64 (dst xa), .int .u32 xa.w] 57))
                have T5 := Lib.hid (tf.alloc (.cells #[.int .i64 (src xa), .int .i64 (dst xa), .int .u32 xa.w] 57))
                obtain ⟨z0, z1, z2⟩ := three_cells (heap_top wr (.cells #[.int .i64 (src xa), .int .i64 (dst xa), .int .u32 xa.w] 57))
                have x0 := cell_al (k := wr.heap.size) (o := .cells #[.int .i64 (src xa), .int .i64 (dst xa), .int .u32 xa.w] 57) k0 (Nat.ne_of_lt (World.block_lt_of_cell? _ _ k0))
                have x1 := cell_al (k := wr.heap.size) (o := .cells #[.int .i64 (src xa), .int .i64 (dst xa), .int .u32 xa.w] 57) k1 (Nat.ne_of_lt (World.block_lt_of_cell? _ _ k1))
                generalize wr.alloc (.cells #[.int .i64 (src xa), .int .i64 (dst xa), .int .u32 xa.w] 57) = W5 at *
                have fu1 := T5.out.cell hsl
                have fv1 := T5.out.cell hdl
                have ff1 := T5.out.free (dst xa)
                rw [HFU.out] at fu1
                rw [HFV.out] at fv1
                clear q0' q1' q2' fu0 fv0 ff0 hby tf k0 k1 g0 g1 hbw
                go_region_held3 (fun w' => w'.cell? ⟨wr.heap.size, 0, none⟩ = some (.int .i64 (src xa)) ∧ w'.cell? ⟨wr.heap.size, 2, none⟩ = some (.int .u32 xa.w) ∧ w'.cell? ⟨w.heap.size + 1, src xa, none⟩ = some (.int .u64 fu)) (go_keep) ((go_at_call 60; refine (HADD.out _).mono ?_; rintro e w' ⟨rfl, rfl⟩))
                have HT6 := Lib.hid (T5.out.set (dst xa) sx)
                have HB6 := Lib.hid (B5.out.setCell (p := ⟨w.heap.size + 1, dst xa, none⟩) (Nat.le_refl _) (.int .u64 sx))
                cases ou with
                | false =>
                  have HSK := Lib.hid (hSkip.out (fun h => by have := (HBT.out.1 h).1; cases this))
                  go_wp2_with fail
                  exact ⟨⟨F, b, k + 1, by omega, rfl, by go_num, T5.out.same rfl, B5.out.drew, HSK⟩, by simp [intOf]; omega⟩
                | true =>
                  cases ov with
                  | false =>
                    have HSK := Lib.hid (hSkip.out (fun h => by have := (HBT.out.1 h).2.1; cases this))
                    go_wp2_with fail
                    exact ⟨⟨F, b, k + 1, by omega, rfl, by go_num, T5.out.same rfl, B5.out.drew, HSK⟩, by simp [intOf]; omega⟩
                  | true =>
                    by_cases hsf : sx < fv
                    · have HPU := Lib.hid (hPut.out (HBT.out.2 ⟨rfl, rfl, hsf⟩))
                      go_wp2_with fail
                      exact ⟨⟨updI F (dst xa) sx, true, k + 1, by omega, rfl, by go_num, HT6.out.same rfl, HB6.out.drew, HPU⟩, by simp [intOf]; omega⟩
                    · have HSK := Lib.hid (hSkip.out (fun h => hsf (HBT.out.1 h).2.2))
                      go_wp2_with fail
                      exact ⟨⟨F, b, k + 1, by omega, rfl, by go_num, T5.out.same rfl, B5.out.drew, HSK⟩, by simp [intOf]; omega⟩
              · have hkl : k = l.length := by omega
                subst hkl
                have hlt' : ¬ ((l.length : Nat) : Int) < l.length := by omega
                have HHD := Lib.hid (hrd.out.head HGK.out)
                go_wp2_with fail
                go_roundg (2 * sumN F n + b.toNat)
                case measure => exact HHD.out.2
                case rel => exact ⟨F, b, rfl, tf, hby, HHD.out.1⟩
end Go.Proofs.Ytomlmphdnoempaa
